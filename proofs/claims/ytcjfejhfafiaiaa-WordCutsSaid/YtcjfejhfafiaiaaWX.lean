/-
  Words, a Book of lists of words, and the document's own list, side by side.
-/
import Derived.Test.YtcjfejhfafiaiaaWC
import Derived.Test.YtcjfejhfafiaiaaWA
import Derived.Test.YtcjfejhfafiaiaaKXW
namespace Go.Proofs.Ytcjfejhfafiaiaa
open Go.RowKit Go.Lib

theorem same_any (x : WdL) (w : World) : Calls Try.prog 12 #[wdVal x, wdVal x] w fun e w' => e = .returned (.bool true) ∧ Below w.heap.size w w' := by
  obtain ⟨s, a, b⟩ := x
  have se : (s.toList == s.toList) = true := beq_self_eq_true _
  go_enter Try.func12, Try.ntmps12
  go_wp2
  go_ret
  exact ⟨rfl, ((Below.refl _ _).alloc (Nat.le_refl _) _).alloc (by simp) _⟩

def WSt.cnt (s : WSt) : Nat := s.out.length + match s.cur with
  | some _ => 1
  | none => 0

theorem ended_cnt (s : WSt) : s.ended.length = s.cnt := by
  unfold WSt.ended WSt.cnt
  cases hc : s.cur with
  | some w => simp
  | none => rfl

theorem step_cnt (s : WSt) (c : UInt8) : (s.step c).cnt ≤ s.cnt + 1 := by
  have e1 : ∀ (a b : Nat) (r : Bool), WSt.cnt ⟨s.ended, a, b, none, r⟩ = s.cnt := fun a b r => ended_cnt s
  unfold WSt.step
  split
  · rw [e1]
    exact Nat.le_succ _
  · split
    · rw [e1]
      exact Nat.le_succ _
    · cases hc : s.cur with
      | some w =>
        have e2 : s.cnt = s.out.length + 1 := by unfold WSt.cnt; rw [hc]
        show s.out.length + 1 ≤ _
        omega
      | none =>
        have e2 : s.cnt = s.out.length := by unfold WSt.cnt; rw [hc]; rfl
        simp only
        repeat' split
        all_goals
          rw [e2]
          first | exact Nat.le_refl _ | exact Nat.le_succ _

theorem run_cnt : ∀ (t : List UInt8) (s s' : WSt), wRun s t = .inl s' → s'.cnt ≤ s.cnt + t.length
  | [], s, s', h => by
    simp only [wRun, Sum.inl.injEq] at h
    rw [← h]
    exact Nat.le_add_right _ _
  | c :: t, s, s', h => by
    rw [wRun] at h
    split at h
    · cases h
    · have h1 := run_cnt t _ s' h
      have h2 := step_cnt s c
      simp only [List.length_cons]
      omega

/-- There are no more words than bytes. -/
theorem wCut_few {t : List UInt8} {l : List WdL} (h : wCut t = (some l, 0, 0)) : l.length ≤ 4000 := by
  unfold wCut at h
  split at h
  · cases h
  · split at h
    · rename_i s hs
      simp only [Prod.mk.injEq, Option.some.injEq, and_true] at h
      have := run_cnt _ _ _ hs
      rw [← h, ended_cnt]
      have e : WSt.start.cnt = 0 := rfl
      omega
    · cases h

/-- What is written below p leaves a Book at p. -/
theorem Here.aside {p D : Nat} {cs : Array Value} {T : TypeId} {w0 w w' : World} {rs : List Row1} {F F' : Nat → Prop} (h : Here p D cs T w0 w rs []) (st : Step F F' w w') (hF : ∀ k, F k → k < p) : Here p D cs T w' w' rs [] := by
  have hp := h.hp
  have hD := h.hD
  refine ⟨hp, Nat.le_trans hD st.size, ?_, Below.refl _ _, ⟨fun r hr => st.own (h.bag.own r hr) (fun g hg c => ?_), h.bag.apart, fun _ h => absurd h List.not_mem_nil, fun _ h => absurd h List.not_mem_nil⟩⟩
  · rw [st.block p (by omega) (fun c => by have := hF p c; omega)]
    exact h.blk
  · have := hF g c
    have := ((h.bag.own r hr).lt g hg).1
    omega

theorem Here.rebase {p D : Nat} {cs : Array Value} {T : TypeId} {w0 w : World} {rs qs : List Row1} (h : Here p D cs T w0 w rs qs) : Here p D cs T w w rs qs := ⟨h.hp, h.hD, h.blk, Below.refl _ _, h.bag⟩

theorem Here.join {p D : Nat} {cs : Array Value} {T : TypeId} {w0 w : World} {rs : List Row1} {e : TypeId} {s : Nat} {v : Value} {n : Nat} {xs : List Value} (h : Here p D cs T w0 w rs []) (o : w.ownsRow D e s v n xs) (ap : ∀ r ∈ rs, Apart v r.v) : Here p D cs T w0 w (⟨e, s, v, n, xs⟩ :: rs) [] := by
  refine ⟨h.hp, h.hD, h.blk, h.fr, ⟨fun r hr => ?_, List.pairwise_cons.2 ⟨fun r hr => ap r hr, h.bag.apart⟩, fun _ h => absurd h List.not_mem_nil, fun _ h => absurd h List.not_mem_nil⟩⟩
  rcases List.mem_cons.1 hr with rfl | hr
  · exact o
  · exact h.bag.own r hr

/-- Words (l of them are left), the document's own list m of them, and the Book at bp. -/
structure Cuts (S : WordSpec) (B bp : Nat) (w0 w : World) (p : Nat) (l : List WdL) (F : Nat → Prop) (m V W : Value) (ls : List (Value × Value × List WordL)) : Prop where
  wd : WHere S B w0 w p l F
  lo : ∀ k, F k → k < bp
  bk : Here bp (bp + 1) (bookW V W) 41 w w (wblk V W ls ++ []) []
  row : CellRow w m l.length (flat wenc l)
  off : l ≠ [] → ∀ g, m.ownBlock = some g → g < bp ∧ ¬ F g
  hB : B ≤ bp
  fit : ∃ a c, m = .slice a l.length c ∧ l.length ≤ c

variable {S : WordSpec} {B bp p : Nat} {w0 w w' : World} {l : List WdL} {F F' : Nat → Prop} {m V W : Value} {ls : List (Value × Value × List WordL)}

theorem Cuts.next (h : Cuts S B bp w0 w p l F m V W ls) (b : Below w.heap.size w w') : Cuts S B bp w0 w' p l F m V W ls :=
  ⟨h.wd.next b, h.lo, (h.bk.next b).rebase, h.row.kept b, h.off, h.hB, h.fit⟩

theorem CellRow.beside {v : Value} {n : Nat} {xs : List Value} (h : CellRow w v n xs) (st : Step F F' w w') (hx : xs ≠ [] → ∀ g, v.ownBlock = some g → ¬ F g) : CellRow w' v n xs := by
  by_cases h0 : xs = []
  · obtain ⟨a, c, hv, _⟩ := h
    exact ⟨a, c, hv, .inl h0⟩
  · exact st.row h (fun g hg => hx h0 g hg)

theorem flat_nil_iff {l : List WdL} (h : flat wenc l ≠ []) : l ≠ [] := fun c => h (by rw [c]; rfl)

/-- Words are taken; the list is not cut yet. -/
structure Taken (S : WordSpec) (B bp : Nat) (w0 w : World) (p : Nat) (l l' : List WdL) (F : Nat → Prop) (m V W : Value) (ls : List (Value × Value × List WordL)) : Prop where
  wd : WHere S B w0 w p l' F
  lo : ∀ k, F k → k < bp
  bk : Here bp (bp + 1) (bookW V W) 41 w w (wblk V W ls ++ []) []
  row : CellRow w m l.length (flat wenc l)
  off : l ≠ [] → ∀ g, m.ownBlock = some g → g < bp ∧ ¬ F g
  hB : B ≤ bp
  fit : ∃ a c, m = .slice a l.length c ∧ l.length ≤ c

theorem Cuts.taken {l' : List WdL} (h : Cuts S B bp w0 w p l F m V W ls) (r : S.Rep w' p l' F') (st : Step F F' w w') (hF : ∀ k, F' k → F k) : Taken S B bp w0 w' p l l' F' m V W ls :=
  ⟨h.wd.step r st, fun k hk => h.lo k (hF k hk), h.bk.aside st h.lo, h.row.beside st (fun hx g hg => (h.off (flat_nil_iff hx) g hg).2), fun hl g hg => ⟨(h.off hl g hg).1, fun c => (h.off hl g hg).2 (hF g c)⟩, h.hB, h.fit⟩

theorem Taken.next {l' : List WdL} (h : Taken S B bp w0 w p l l' F m V W ls) (b : Below w.heap.size w w') : Taken S B bp w0 w' p l l' F m V W ls :=
  ⟨h.wd.next b, h.lo, (h.bk.next b).rebase, h.row.kept b, h.off, h.hB, h.fit⟩

/-- Behind what is done to the Book. -/
theorem Taken.booked {l' : List WdL} {V' W' : Value} {ls' : List (Value × Value × List WordL)} (h : Taken S B bp w0 w p l l' F m V W ls) (k : Here bp (bp + 1) (bookW V' W') 41 w w' (wblk V' W' ls' ++ []) []) : Taken S B bp w0 w' p l l' F m V' W' ls' := by
  have fr := k.fr
  have hs := h.wd.hB
  refine ⟨⟨S.kept h.wd.rep fr.size (fun x hx => fr.block x (h.lo x hx)), h.wd.ge, Nat.le_trans hs fr.size, h.wd.fr.trans (fr.mono h.hB)⟩, h.lo, k.rebase, ?_, h.off, h.hB, h.fit⟩
  by_cases hl : l = []
  · obtain ⟨a, c, hv, _⟩ := h.row
    exact ⟨a, c, hv, .inl (by rw [hl]; rfl)⟩
  · obtain ⟨a, c, hv, hr⟩ := h.row
    refine ⟨a, c, hv, ?_⟩
    rcases hr with hr | ⟨b, o, ha, hlt, hc⟩
    · exact .inl hr
    · refine .inr ⟨b, o, ha, Nat.lt_of_lt_of_le hlt fr.size, fun j u hj => ?_⟩
      rw [fr.cell (h.off hl b (by rw [hv, ha]; rfl)).1]
      exact hc j u hj

/-- The list is cut. -/
theorem Taken.cut {l' : List WdL} {m' : Value} {k : Nat} (h : Taken S B bp w0 w p l l' F m V W ls) (hl : l' = l.drop k) (hm : CellRow w m' l'.length (flat wenc l')) (hb : l' ≠ [] → m'.ownBlock = m.ownBlock) (hf : ∃ a c, m' = .slice a l'.length c ∧ l'.length ≤ c) : Cuts S B bp w0 w p l' F m' V W ls :=
  ⟨h.wd, h.lo, h.bk, hm, fun h0 g hg => h.off (fun c => h0 (by rw [hl, c]; simp)) g (by rw [← hb h0]; exact hg), h.hB, hf⟩

/-- m[k:] of a row of words. -/
theorem row_drop {a : Option Addr} {n c k : Nat} (h : CellRow w (.slice a n c) n (flat wenc l)) (hn : n = l.length) (hk : k < l.length) : ∃ b o, a = some ⟨b, o, none⟩ ∧ CellRow w (.slice (some ⟨b, o + k * 3, none⟩) (n - k) (c - k)) (l.drop k).length (flat wenc (l.drop k)) := by
  obtain ⟨a', c', hv, hr⟩ := h
  simp only [Value.slice.injEq] at hv
  obtain ⟨rfl, _, rfl⟩ := hv
  rcases hr with hr | ⟨b, o, rfl, hl, hcs⟩
  · have := congrArg List.length hr
    rw [flat_length (s := 3) (fun _ => rfl)] at this
    simp at this
    omega
  · refine ⟨b, o, rfl, ⟨some ⟨b, o + k * 3, none⟩, c - k, ?_, .inr ⟨b, o + k * 3, rfl, hl, fun j u hj => ?_⟩⟩⟩
    · rw [List.length_drop, hn]
    · rw [← flat_drop (s := 3) (fun _ => rfl), List.getElem?_drop] at hj
      rw [Nat.add_assoc]
      exact hcs (k * 3 + j) u hj

/-- Nothing is left of the list. -/
theorem Taken.all {l' : List WdL} {a : Option Addr} {c : Nat} (h : Taken S B bp w0 w p l l' F m V W ls) (h0 : l' = []) : Cuts S B bp w0 w p [] F (.slice a 0 c) V W ls := by
  subst h0
  exact ⟨h.wd, h.lo, h.bk, ⟨a, c, rfl, .inl rfl⟩, fun c => absurd rfl c, h.hB, a, c, rfl, Nat.zero_le _⟩

/-- The list is cut behind k of its words, as 'm[k:]' does it. -/
theorem Taken.sliced {l' : List WdL} {b1 o1 N rc k : Nat} (h : Taken S B bp w0 w p l l' F (.slice (some ⟨b1, o1, none⟩) N rc) V W ls) (hl : l' = l.drop k) (hN : l.length = N) (hf : N ≤ rc) (hk : k ≤ N) :
    Cuts S B bp w0 w p l' F (.slice (if rc = k then some ⟨b1, o1, none⟩ else some ⟨b1, o1 + k * 3, none⟩) (N - k) (rc - k)) V W ls := by
  have hll : l'.length = N - k := by rw [hl, List.length_drop, hN]
  by_cases he : k = N
  · have h0 : l' = [] := List.eq_nil_of_length_eq_zero (by omega)
    refine h.cut hl ⟨_, rc - k, by rw [hll], .inl (by rw [h0]; rfl)⟩ (fun c => absurd h0 c) ⟨_, rc - k, by rw [hll], by omega⟩
  · rw [if_neg (by omega)]
    have hr := h.row
    rw [hN] at hr
    obtain ⟨b, o, hb, hrow⟩ := row_drop hr hN.symm (k := k) (by omega)
    simp only [Option.some.injEq, Addr.mk.injEq, and_true] at hb
    obtain ⟨rfl, rfl⟩ := hb
    rw [← hl] at hrow
    exact h.cut hl hrow (fun _ => rfl) ⟨_, rc - k, by rw [hll], by omega⟩

end Go.Proofs.Ytcjfejhfafiaiaa
