/-
  What a word is, plain; words that are laid with gaps between them are cut as they were.
-/
import Derived.Test.YtcjfejhfafiaiaaWP
import Derived.Test.YtcjfejhfafiaiaaBB
namespace Go.Proofs.Ytcjfejhfafiaiaa
open Go.RowKit Go.Lib

def sumSize (l : List WdL) : Nat := (l.map fun x => x.1.size).sum

def WSt.len (s : WSt) : Nat := sumSize s.out + match s.cur with
  | some w => w.length
  | none => 0

theorem sumSize_snoc (l : List WdL) (x : WdL) : sumSize (l ++ [x]) = sumSize l + x.1.size := by simp [sumSize]

theorem ended_len (s : WSt) : sumSize s.ended = s.len := by
  unfold WSt.ended WSt.len
  cases hc : s.cur with
  | some w =>
    simp only
    rw [sumSize_snoc]
    simp [ByteArray.size]
  | none => rfl

def goodByte (b : UInt8) : Prop := 33 ≤ b.toNat ∧ b.toNat ≤ 126

/-- A word of good bytes that does not begin a remark. -/
def goodWord (t : List UInt8) : Prop := ∃ c r, t = c :: r ∧ c.toNat ≠ 35 ∧ ∀ b ∈ t, goodByte b

structure WInv (t : List UInt8) (s : WSt) : Prop where
  le : s.len ≤ t.length
  eq : s.len = t.length → s.out = [] ∧ s.remark = false ∧ (∀ b ∈ t, goodByte b) ∧ ((t = [] ∧ s.cur = none) ∨ ∃ c r, t = c :: r ∧ c.toNat ≠ 35 ∧ s.cur = some t)

theorem WInv.start : WInv [] .start := ⟨Nat.le_refl _, fun _ => ⟨rfl, rfl, fun _ h => absurd h List.not_mem_nil, .inl ⟨rfl, rfl⟩⟩⟩

theorem WInv.step {t : List UInt8} {s : WSt} (h : WInv t s) (c : UInt8) (hc : ¬ wBad c.toNat) : WInv (t ++ [c]) (s.step c) := by
  have hl := h.le
  unfold WSt.step
  by_cases h10 : c.toNat = 10
  · rw [if_pos h10]
    have e : WSt.len ⟨s.ended, s.line + 1, 1, none, false⟩ = s.len := ended_len s
    exact ⟨by rw [e, List.length_append]; simp; omega, fun k => by
      rw [e, List.length_append] at k
      simp at k
      omega⟩
  · rw [if_neg h10]
    by_cases h32 : c.toNat ≤ 32
    · rw [if_pos h32]
      have e : WSt.len ⟨s.ended, s.line, s.col + 1, none, s.remark⟩ = s.len := ended_len s
      exact ⟨by rw [e, List.length_append]; simp; omega, fun k => by
        rw [e, List.length_append] at k
        simp at k
        omega⟩
    · rw [if_neg h32]
      have hg : goodByte c := by
        unfold wBad at hc
        unfold goodByte
        omega
      cases hcur : s.cur with
      | some w =>
        have e1 : s.len = sumSize s.out + w.length := by unfold WSt.len; rw [hcur]
        have e : WSt.len ⟨s.out, s.line, s.col + 1, some (w ++ [c]), s.remark⟩ = s.len + 1 := by
          rw [e1]
          show sumSize s.out + (w ++ [c]).length = _
          simp
          omega
        refine ⟨by rw [e, List.length_append]; simp; omega, fun k => ?_⟩
        rw [e, List.length_append] at k
        obtain ⟨a1, a2, a3, a4⟩ := h.eq (by simpa using k)
        refine ⟨a1, a2, fun b hb => ?_, .inr ?_⟩
        · rw [List.mem_append] at hb
          rcases hb with hb | hb
          · exact a3 b hb
          · simp at hb
            rw [hb]
            exact hg
        · rcases a4 with ⟨_, b2⟩ | ⟨x, r, b1, b2, b3⟩
          · rw [hcur] at b2
            cases b2
          · rw [hcur] at b3
            simp only [Option.some.injEq] at b3
            exact ⟨x, r ++ [c], by rw [b1]; rfl, b2, by rw [b3]⟩
      | none =>
        have e1 : s.len = sumSize s.out := by unfold WSt.len; rw [hcur]; rfl
        have no : ∀ b : Bool, WInv (t ++ [c]) ⟨s.out, s.line, s.col + 1, none, b⟩ := fun b => by
          have e : WSt.len ⟨s.out, s.line, s.col + 1, none, b⟩ = s.len := by rw [e1]; rfl
          exact ⟨by rw [e, List.length_append]; simp; omega, fun k => by
            rw [e, List.length_append] at k
            simp at k
            omega⟩
        simp only
        split
        · exact no true
        · split
          · exact no true
          · rename_i hr h35
            have e : WSt.len ⟨s.out, s.line, s.col + 1, some [c], false⟩ = s.len + 1 := by rw [e1]; rfl
            refine ⟨by rw [e, List.length_append]; simp; omega, fun k => ?_⟩
            rw [e, List.length_append] at k
            obtain ⟨a1, a2, a3, a4⟩ := h.eq (by simpa using k)
            rcases a4 with ⟨b1, _⟩ | ⟨x, r, b1, b2, b3⟩
            · subst b1
              exact ⟨a1, rfl, fun b hb => by simp at hb; rw [hb]; exact hg, .inr ⟨c, [], rfl, h35, rfl⟩⟩
            · rw [hcur] at b3
              cases b3

theorem WInv.run : ∀ (l t : List UInt8) (s s' : WSt), WInv t s → wRun s l = .inl s' → WInv (t ++ l) s'
  | [], t, s, s', h, e => by
    simp only [wRun, Sum.inl.injEq] at e
    rw [List.append_nil, ← e]
    exact h
  | c :: l, t, s, s', h, e => by
    rw [wRun] at e
    split at e
    · cases e
    · rename_i hc
      have := WInv.run l (t ++ [c]) _ s' (h.step c hc) e
      rwa [List.append_assoc] at this

/-- A text that is a word. -/
theorem wIs_good {s : ByteArray} (h : wIs s = true) : goodWord s.data.toList := by
  unfold wIs at h
  unfold wCut at h
  split at h
  · rename_i x hx
    split at hx
    · cases hx
    · split at hx
      · rename_i st hst
        simp only [Option.some.injEq] at hx
        have hi := WInv.run _ _ _ _ WInv.start hst
        rw [List.nil_append] at hi
        have h1 := eq_of_beq h
        rw [ByteArray.toList_eq, ByteArray.toList_eq] at h1
        have h2 : st.len = s.data.toList.length := by
          rw [← ended_len, hx, ← h1, byte_len]
          unfold sumSize
          simp only [List.map_cons, List.map_nil, List.sum_cons, List.sum_nil, Nat.add_zero]
        obtain ⟨a1, a2, a3, a4⟩ := hi.eq h2
        rcases a4 with ⟨b1, b2⟩ | ⟨c, r, b1, b2, b3⟩
        · have : st.ended = [] := by unfold WSt.ended; rw [b2]; exact a1
          rw [this] at hx
          cases hx
        · exact ⟨c, r, b1, b2, a3⟩
      · cases hx
  · cases h

theorem goodByte_step {b : UInt8} (h : goodByte b) : ¬ wBad b.toNat ∧ ¬ b.toNat = 10 ∧ ¬ b.toNat ≤ 32 := by
  unfold goodByte at h
  unfold wBad
  omega

theorem run_more : ∀ (r : List UInt8) (st : WSt) (w : List UInt8), st.cur = some w → (∀ b ∈ r, goodByte b) → wRun st r = .inl ⟨st.out, st.line, st.col + r.length, some (w ++ r), st.remark⟩
  | [], st, w, h, _ => by
    rw [List.append_nil, ← h]
    rfl
  | c :: r, st, w, h, hg => by
    obtain ⟨g1, g2, g3⟩ := goodByte_step (hg c List.mem_cons_self)
    rw [wRun, if_neg g1]
    have e : st.step c = ⟨st.out, st.line, st.col + 1, some (w ++ [c]), st.remark⟩ := by
      unfold WSt.step
      rw [if_neg g2, if_neg g3, h]
    rw [e, run_more r _ (w ++ [c]) rfl (fun b hb => hg b (List.mem_cons_of_mem _ hb))]
    congr 2
    · simp only [List.length_cons]
      omega
    · simp

theorem run_word {t : List UInt8} (hg : goodWord t) (st : WSt) (h : st.cur = none) (hr : st.remark = false) : wRun st t = .inl ⟨st.out, st.line, st.col + t.length, some t, false⟩ := by
  obtain ⟨c, r, rfl, h35, ha⟩ := hg
  obtain ⟨g1, g2, g3⟩ := goodByte_step (ha c List.mem_cons_self)
  rw [wRun, if_neg g1]
  have e : st.step c = ⟨st.out, st.line, st.col + 1, some [c], false⟩ := by
    unfold WSt.step
    rw [if_neg g2, if_neg g3, h]
    simp only
    rw [if_neg (by simp [hr]), if_neg h35]
  rw [e, run_more r _ [c] rfl (fun b hb => ha b (List.mem_cons_of_mem _ hb))]
  congr 2
  simp only [List.length_cons]
  omega

/-- What may stand between two words. -/
def gapOf : Nat → ByteArray
  | 0 => ⟨#[32]⟩
  | 1 => ⟨#[10]⟩
  | 2 => ⟨#[32, 9, 32]⟩
  | 3 => ⟨#[32, 35, 32, 120, 32, 121, 10]⟩
  | _ => ⟨#[10, 10, 35, 32, 122, 10]⟩

theorem gapOf_size (k : Nat) : (gapOf k).size ≤ 7 := by
  unfold gapOf
  split <;> decide

theorem run_gap (out : List WdL) (line col : Nat) (w : List UInt8) (k : Nat) : ∃ line' col', wRun ⟨out, line, col, some w, false⟩ (gapOf k).data.toList = .inl ⟨out ++ [(⟨w.toArray⟩, (line : Int), (col : Int) - (w.length : Int))], line', col', none, false⟩ ∧ line ≤ line' ∧ 1 ≤ col' := by
  unfold gapOf
  split
  · exact ⟨line, col + 1, rfl, Nat.le_refl _, by omega⟩
  · exact ⟨line + 1, 1, rfl, by omega, by omega⟩
  · exact ⟨line, col + 3, rfl, Nat.le_refl _, by omega⟩
  · exact ⟨line + 1, 1, rfl, by omega, by omega⟩
  · exact ⟨line + 1 + 1 + 1, 1, rfl, by omega, by omega⟩

/-- The first n of the words l are laid. -/
def Laid (l : List ByteArray) (n : Nat) (text : ByteArray) : Prop := ∃ st, wRun .start text.data.toList = .inl st ∧ st.cur = none ∧ st.remark = false ∧ 1 ≤ st.line ∧ 1 ≤ st.col ∧ st.out.map (·.1) = l.take n ∧ ∀ x ∈ st.out, 1 ≤ x.2.1 ∧ 1 ≤ x.2.2

theorem Laid.zero (l : List ByteArray) : Laid l 0 ⟨#[]⟩ := ⟨.start, rfl, rfl, rfl, Nat.le_refl _, Nat.le_refl _, rfl, fun _ h => absurd h List.not_mem_nil⟩

theorem Laid.next {l : List ByteArray} {n : Nat} {text s : ByteArray} (h : Laid l n text) (hs : l[n]? = some s) (hg : wIs s = true) (k : Nat) : Laid l (n + 1) ((text ++ s) ++ gapOf k) := by
  obtain ⟨st, h1, h2, h3, h4, h5, h6, h7⟩ := h
  obtain ⟨line', col', g1, g2, g3⟩ := run_gap st.out st.line (st.col + s.data.toList.length) s.data.toList k
  refine ⟨⟨st.out ++ [(s, (st.line : Int), ((st.col + s.data.toList.length : Nat) : Int) - (s.data.toList.length : Int))], line', col', none, false⟩, ?_, rfl, rfl, Nat.le_trans h4 g2, g3, ?_, fun x hx => ?_⟩
  · rw [append_list, append_list, wRun_append, wRun_append, h1]
    show (match wRun st s.data.toList with | .inl s' => wRun s' (gapOf k).data.toList | .inr n => .inr n) = _
    rw [run_word (wIs_good hg) st h2 h3]
    exact g1
  · rw [List.map_append, h6, List.take_add_one, hs]
    rfl
  · rw [List.mem_append] at hx
    rcases hx with hx | hx
    · exact h7 x hx
    · simp only [List.mem_singleton] at hx
      rw [hx]
      simp only
      omega

theorem Laid.cut {l : List ByteArray} {text : ByteArray} (h : Laid l l.length text) (hs : text.size ≤ 4000) : ∃ ws : List WdL, wCut text.data.toList = (some ws, 0, 0) ∧ ws.map (·.1) = l ∧ ∀ x ∈ ws, 1 ≤ x.2.1 ∧ 1 ≤ x.2.2 := by
  obtain ⟨st, h1, h2, h3, h4, h5, h6, h7⟩ := h
  refine ⟨st.out, ?_, by rw [h6, List.take_length], h7⟩
  unfold wCut
  rw [if_neg (by rw [byte_len]; omega), h1]
  have e : st.ended = st.out := by unfold WSt.ended; rw [h2]
  simp only [e]

end Go.Proofs.Ytcjfejhfafiaiaa
