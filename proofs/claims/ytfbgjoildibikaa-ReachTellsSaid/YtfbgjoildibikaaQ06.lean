/-
  A bundle of texts: BT BST WP WI BI BKI BKS.
-/
import Derived.Laws.AppendOwnNone
import Derived.Deep.QuietTactic
import Derived.BigQuiet
import Derived.Test.YtfbgjoildibikaaQ03
/-
  Lists of texts that are lent with a mark behind them (package sedimentbook): LentTexts, SameTexts, StaysTexts. And 'append' onto a row of one's own, whatever slice its source is.
-/
namespace Go.Proofs.Ytfbgjoildibikaa
open Go.RowKit Go.Lib

/-- From o on the block b of w holds xs. -/
def Cells (w : World) (b o : Nat) (xs : List Value) : Prop := ∀ j u, xs[j]? = some u → w.cell? ⟨b, o + j, none⟩ = some u

/-- The slice v has n elements, whose cells are xs. -/
def CellRow (w : World) (v : Value) (n : Nat) (xs : List Value) : Prop := ∃ a c, v = .slice a n c ∧ (xs = [] ∨ ∃ b o, a = some ⟨b, o, none⟩ ∧ b < w.heap.size ∧ Cells w b o xs)

theorem Cells.kept {w w' : World} {b o : Nat} {xs : List Value} (h : Cells w b o xs) (hb : Below w.heap.size w w') (hl : b < w.heap.size) : Cells w' b o xs :=
  fun j u hj => by rw [hb.cell hl]; exact h j u hj

theorem CellRow.kept {w w' : World} {v : Value} {n : Nat} {xs : List Value} (h : CellRow w v n xs) (hb : Below w.heap.size w w') : CellRow w' v n xs := by
  obtain ⟨a, c, hv, h⟩ := h
  refine ⟨a, c, hv, ?_⟩
  rcases h with h | ⟨b, o, ha, hl, hc⟩
  · exact .inl h
  · exact .inr ⟨b, o, ha, Nat.lt_of_lt_of_le hl hb.size, hc.kept hb hl⟩

theorem StrRow.cells {w : World} {v : Value} {ss : List ByteArray} (h : StrRow w v ss) : CellRow w v ss.length (ss.map Value.string) := by
  obtain ⟨a, c, hv, h⟩ := h
  refine ⟨a, c, hv, ?_⟩
  rcases h with h | ⟨b, o, ha, hl, hc⟩
  · exact .inl (by rw [h]; rfl)
  · refine .inr ⟨b, o, ha, hl, fun j u hj => ?_⟩
    have hlt : j < ss.length := by
      have := (List.getElem?_eq_some_iff.1 hj).1
      simpa using this
    rw [hc j hlt]
    simp [List.getElem?_eq_getElem hlt] at hj
    rw [← hj]
    simp [List.getD, hlt]

section
variable {P : Program}

theorem run_append_none (w : World) (base : Nat) (t ty e : TypeId) (i : TypeInfo) (size c : Nat) (ht : P.underlying t = some (.slice e)) (hi : P.info? e = some i)
    (v : Value) (n : Nat) (xs : List Value) (hown : w.ownsRow base e size v n xs) :
    (Builtin.append_ #[t, t] ty #[v, .slice none 0 c]).run P w = .ok v w := by
  rcases hown.2 with ⟨rfl, rfl⟩ | ⟨g, cap, cur, rfl, _, _, hnc, _⟩
  · simp [Builtin.append_, run_underlying ht, sizeOf, typeInfo, hi, Builtin.lenOf, Builtin.firstCells]
  · simp [Builtin.append_, run_underlying ht, sizeOf, typeInfo, hi, Builtin.lenOf, Builtin.firstCells, hnc, storeCells]

/-- 'append(r, x...)', r one's own row (or nil), x any slice whose cells are known. -/
theorem append_row_law {w : World} {ops : Array Oper} {rest : List Oper} {o : Oper} {a : Act} {Q : Exit → Act → World → Prop} (hgd : o.guard = none) (s x : Operand) (t : TypeId)
    (ho : o.op = .call { callee := .builtin .append, args := #[s, x], argTypes := #[t, t] })
    (base : Nat) (e : TypeId) (i : TypeInfo) (z : Value) (size bytes : Nat) (ht : P.underlying t = some (.slice e)) (hi : P.info? e = some i) (hz : i.zero = some z)
    (hsize : i.size = size) (hby : i.bytes = bytes) (hzs : z.cells.size = size) (hsz : 0 < size)
    (v : Value) (n : Nat) (xs : List Value) (hs : a.eval s = v) (hown : w.ownsRow base e size v n xs)
    (u : Value) (m : Nat) (news : List Value) (hx : a.eval x = u) (hrow : CellRow w u m news) (hl : news.length = m * size) (h1 : ∀ u ∈ news, u.oneCell' = true)
    (h63 : n + m ≤ maxLen) (hbytes : (n + m) * bytes ≤ 140737488355328) (hbase : base ≤ w.heap.size)
    (h : ∀ v' w', w'.ownsRow base e size v' (n + m) (xs ++ news) → w.grownBy w' v.ownBlock → wpList P ops Q rest (a.put o.dst v') w') : wpList P ops Q (o :: rest) a w := by
  obtain ⟨sa, c, rfl, hc⟩ := hrow
  have key : ∀ ad, sa = some ad → (∀ j u, news[j]? = some u → w.cell? (ad.add j) = some u) → wpList P ops Q (o :: rest) a w := by
    intro ad ha hcells
    subst ha
    exact wpList_append_own w hgd s x t ho base e i z size bytes ht hi hz hsize hby hzs hsz v n xs hs hown ad m c news hx hl hcells h1 h63 hbytes hbase (fun v' w' h2 h3 _ => h v' w' h2 h3)
  rcases hc with rfl | ⟨b, oo, ha, hb, hcells⟩
  · have hm : m = 0 := by
      rcases Nat.eq_zero_or_pos m with h0 | h0
      · exact h0
      · have := Nat.mul_pos h0 hsz
        simp at hl
        omega
    subst hm
    cases sa with
    | none =>
      refine wpList_plain hgd fun K hK => ?_
      have hrun := run_append_none (P := P) w base t o.type e i size c ht hi v n xs hown
      unfold Oper.wp
      simp [execOp, ho, resolve, invoke, builtin, hs, hx, hrun, Result.andThen]
      have := h v w (by simpa using hown) (grownBy_refl _ _)
      exact hK _ _ this
    | some ad => exact key ad rfl (by simp)
  · exact key _ ha (fun j u hj => by
      have := hcells j u hj
      have ea : (⟨b, oo, none⟩ : Addr).add j = ⟨b, oo + j, none⟩ := by unfold Addr.add; split <;> simp_all
      rw [ea]
      exact this)
end

/-- A slice of n elements of sz cells each that begins a block of its own from B on, with the mark behind them: the cells are xs, then mark. -/
def LentRow (w : World) (B : Nat) (v : Value) (n : Nat) (xs mark : List Value) : Prop :=
  ∃ g cap, v = .slice (some ⟨g, 0, none⟩) n cap ∧ B ≤ g ∧ g < w.heap.size ∧ n + 1 ≤ cap ∧ cap ≤ maxLen ∧ Cells w g 0 (xs ++ mark)

theorem LentRow.kept {w w' : World} {B : Nat} {v : Value} {n : Nat} {xs mark : List Value} (h : LentRow w B v n xs mark) (hb : Below w.heap.size w w') : LentRow w' B v n xs mark := by
  obtain ⟨g, cap, hv, hB, hg, hc, hm, hcs⟩ := h
  exact ⟨g, cap, hv, hB, Nat.lt_of_lt_of_le hg hb.size, hc, hm, hcs.kept hb hg⟩

theorem LentRow.row {w : World} {B : Nat} {v : Value} {n : Nat} {xs mark : List Value} (h : LentRow w B v n xs mark) : CellRow w v n xs := by
  obtain ⟨g, cap, hv, hB, hg, hc, hm, hcs⟩ := h
  refine ⟨_, _, hv, .inr ⟨g, 0, rfl, hg, fun j u hj => hcs j u ?_⟩⟩
  have := (List.getElem?_eq_some_iff.1 hj).1
  rw [List.getElem?_append_left this]
  exact hj

theorem CellRow.strs {w : World} {v : Value} {ss : List ByteArray} (h : CellRow w v ss.length (ss.map Value.string)) : StrRow w v ss := by
  obtain ⟨a, c, hv, h⟩ := h
  refine ⟨a, c, hv, ?_⟩
  rcases h with h | ⟨b, o, ha, hl, hc⟩
  · exact .inl (by simpa using h)
  · refine .inr ⟨b, o, ha, hl, fun j hj => ?_⟩
    rw [hc j (.string ss[j]) (by simp [hj])]
    simp [List.getD, hj]

theorem own_ge {w : World} {B : Nat} {e : TypeId} {size : Nat} {v : Value} {n : Nat} {xs : List Value} (h : w.ownsRow B e size v n xs) {k : Nat} (hk : v.ownBlock = some k) : B ≤ k := by
  rcases h.2 with ⟨rfl, _⟩ | ⟨g, cap, cur, rfl, hB, _⟩
  · cases hk
  · simp only [Value.ownBlock, Option.some.injEq] at hk
    omega


theorem str_at {w : World} {a : Option Addr} {n c : Nat} {ss : List ByteArray} (h : CellRow w (.slice a n c) n (ss.map Value.string)) (j : Nat) (hj : j < ss.length) (hn : n = ss.length) : ∃ b o, a = some ⟨b, o, none⟩ ∧ b < w.heap.size ∧ w.cell? ⟨b, o + j, none⟩ = some (.string (ss.getD j ByteArray.empty)) := by
  obtain ⟨a', c', hv, h⟩ := h
  simp only [Value.slice.injEq] at hv
  obtain ⟨rfl, _, rfl⟩ := hv
  rcases h with h | ⟨b, o, ha, hl, hc⟩
  · have : ss = [] := by simpa using h
    subst this
    simp at hj
  · refine ⟨b, o, ha, hl, ?_⟩
    rw [hc j (.string ss[j]) (by simp [hj])]
    simp [List.getD, hj]

set_option maxHeartbeats 400000 in
theorem SameTexts_any (u v : Value) (ss : List ByteArray) (w : World) (hu : CellRow w u ss.length (ss.map Value.string)) (hv : CellRow w v ss.length (ss.map Value.string)) (hn : ss.length ≤ 1000000) :
    Calls Try.prog 82 #[u, v] w fun e w' => e = .returned (.bool true) ∧ Below w.heap.size w w' := by
  have HU := Hid.of hu
  have HV := Hid.of hv
  obtain ⟨ua, uc, rfl, _⟩ := hu
  obtain ⟨va, vc, rfl, _⟩ := hv
  go_enter Try.func82, Try.ntmps82
  go_wp2
  go_loopw [5] (fun i wr => ∃ j : Nat, j ≤ ss.length ∧ i = .int .i64 j ∧ Below w.heap.size w wr) (fun i _ => ss.length - (RowKit.intOf i).toNat)
  case atStart => exact ⟨0, Nat.zero_le _, rfl, Below.refl _ _⟩
  case round =>
    obtain ⟨j, hj, rfl, hb⟩ := hrel
    by_cases hlt : j < ss.length
    · obtain ⟨b1, o1, rfl, hl1, hc1⟩ := str_at HU.out j hlt rfl
      obtain ⟨b2, o2, rfl, hl2, hc2⟩ := str_at HV.out j hlt rfl
      obtain ⟨s, hs⟩ : ∃ s, ss.getD j ByteArray.empty = s := ⟨_, rfl⟩
      rw [hs] at hc1 hc2
      have d1 : wr.cell? ⟨b1, o1 + j, none⟩ = some (.string s) := by rw [hb.cell hl1]; exact hc1
      have d2 : wr.cell? ⟨b2, o2 + j, none⟩ = some (.string s) := by rw [hb.cell hl2]; exact hc2
      have i0 : (0 : Int) ≤ (j : Int) := Int.natCast_nonneg _
      have i1 : (j : Int) < (ss.length : Int) := by omega
      have he : (s.toList == s.toList) = true := beq_self_eq_true _
      clear hs hc1 hc2 HU HV hl1 hl2
      go_wp2
      go_quiet (fail)
      go_wp2
      go_roundw
      case rel => exact ⟨j + 1, by omega, by go_num, below_drewN hb _⟩
      case measure => simp [RowKit.intOf]; omega
    · go_wp2
      go_ret
      exact ⟨rfl, hb⟩


end Go.Proofs.Ytfbgjoildibikaa

/-
  Calls that touch some blocks alone (a footprint), and rows beside them.
-/
namespace Go.Proofs.Ytfbgjoildibikaa
open Go.RowKit

/-- A call has touched the blocks F alone, and made new ones; the footprint is F' behind it. -/
structure Step (F F' : Nat → Prop) (w w' : World) : Prop where
  os : w'.os = w.os
  tape : w'.tape = w.tape
  output : w'.output = w.output
  size : w.heap.size ≤ w'.heap.size
  block : ∀ k, k < w.heap.size → ¬ F k → w'.heap[k]? = w.heap[k]?
  foot : ∀ k, F' k → F k ∨ w.heap.size ≤ k

theorem Step.of_below {F : Nat → Prop} {w w' : World} (b : Below w.heap.size w w') : Step F F w w' :=
  ⟨b.os, b.tape, b.output, b.size, fun k hk _ => b.block k hk, fun _ h => .inl h⟩

theorem Step.below {B : Nat} {F F' : Nat → Prop} {w0 w w' : World} (h : Step F F' w w') (b : Below B w0 w) (hB : B ≤ w.heap.size) (hF : ∀ k, F k → B ≤ k) : Below B w0 w' :=
  ⟨h.os.trans b.os, h.tape.trans b.tape, h.output.trans b.output, Nat.le_trans b.size h.size, fun k hk => by
    rw [h.block k (by omega) (fun c => by have := hF k c; omega)]
    exact b.block k hk⟩

theorem Step.ge {B : Nat} {F F' : Nat → Prop} {w w' : World} (h : Step F F' w w') (hB : B ≤ w.heap.size) (hF : ∀ k, F k → B ≤ k) : ∀ k, F' k → B ≤ k := by
  intro k hk
  rcases h.foot k hk with c | c
  · exact hF k c
  · omega

/-- The block of v is none of F. -/
def Off (F : Nat → Prop) (v : Value) : Prop := ∀ g, v.ownBlock = some g → ¬ F g

theorem Off.next {F F' : Nat → Prop} {w w' : World} {v : Value} (h : Off F v) (st : Step F F' w w') (hv : ∀ g, v.ownBlock = some g → g < w.heap.size) : Off F' v := by
  intro g hg c
  rcases st.foot g c with k | k
  · exact h g hg k
  · have := hv g hg
    omega

theorem Step.row {F F' : Nat → Prop} {w w' : World} {v : Value} {n : Nat} {xs : List Value} (st : Step F F' w w') (h : CellRow w v n xs) (ho : Off F v) : CellRow w' v n xs := by
  obtain ⟨a, c, rfl, h⟩ := h
  refine ⟨a, c, rfl, ?_⟩
  rcases h with h | ⟨b, o, rfl, hl, hc⟩
  · exact .inl h
  · refine .inr ⟨b, o, rfl, Nat.lt_of_lt_of_le hl st.size, fun j u hj => ?_⟩
    rw [World.cell?_of_block (st.block b hl (ho b rfl))]
    exact hc j u hj

theorem Step.own {F F' : Nat → Prop} {w w' : World} {B : Nat} {e : TypeId} {sz : Nat} {v : Value} {n : Nat} {xs : List Value} (st : Step F F' w w') (h : w.ownsRow B e sz v n xs) (ho : Off F v) : w'.ownsRow B e sz v n xs := by
  refine ⟨h.1, ?_⟩
  rcases h.2 with h0 | ⟨g, cap, cur, rfl, hB, hrow, rest⟩
  · exact .inl h0
  · exact .inr ⟨g, cap, cur, rfl, hB, by rw [st.block g (Array.getElem?_eq_some_iff.1 hrow).1 (ho g rfl)]; exact hrow, rest⟩

theorem Step.refl (F : Nat → Prop) (w : World) : Step F F w w := ⟨rfl, rfl, rfl, Nat.le_refl _, fun _ _ _ => rfl, fun _ h => .inl h⟩

theorem Step.trans {F F' F'' : Nat → Prop} {w w' w'' : World} (h : Step F F' w w') (k : Step F' F'' w' w'') : Step F F'' w w'' :=
  ⟨k.os.trans h.os, k.tape.trans h.tape, k.output.trans h.output, Nat.le_trans h.size k.size, fun i hi hf => by
    rw [k.block i (Nat.lt_of_lt_of_le hi h.size) (fun c => by
      rcases h.foot i c with c | c
      · exact hf c
      · omega)]
    exact h.block i hi hf, fun i hi => by
    rcases k.foot i hi with c | c
    · exact h.foot i c
    · exact .inr (Nat.le_trans h.size c)⟩

theorem Step.after {F F' : Nat → Prop} {w w' w'' : World} (b : Below w.heap.size w w') (k : Step F F' w' w'') : Step F F' w w'' :=
  (Step.of_below b).trans k

end Go.Proofs.Ytfbgjoildibikaa

/-
  What chapter 7 says of package word's functions, over whatever way Words lie in memory; a byte that is none.
-/
namespace Go.Proofs.Ytfbgjoildibikaa
open Go.RowKit Go.Lib

abbrev wptr (p : Nat) : Value := .pointer (some ⟨p, 0, none⟩)
abbrev wdVal (x : WdL) : Value := .agg #[.string x.1, .int .i64 x.2.1, .int .i64 x.2.2]
def wdRow (x : WdL) : List Value := [.string x.1, .int .i64 x.2.1, .int .i64 x.2.2]

/-- The next one, or none. -/
def wHead : List WdL → WdL × Bool
  | [] => ((⟨#[]⟩, 0, 0), false)
  | x :: _ => (x, true)

/-- How many are left of the next one's line. -/
def wLine : List WdL → Nat
  | [] => 0
  | x :: l => ((x :: l).takeWhile fun y => y.2.1 == x.2.1).length

/-- Is it a word? -/
def wIs (s : ByteArray) : Bool := match (wCut s.data.toList).1 with
  | some [x] => x.1.toList == s.toList
  | _ => false

def CutEnd (Rep : World → Nat → List WdL → (Nat → Prop) → Prop) (t : ByteArray) (w : World) (e : Ending) (w' : World) : Prop :=
  Below w.heap.size w w' ∧ match (wCut t.data.toList).1 with
    | none => e = .returned (.tuple #[.pointer none, .int .i64 (wCut t.data.toList).2.1, .int .i64 (wCut t.data.toList).2.2])
    | some l => ∃ p F, e = .returned (.tuple #[wptr p, .int .i64 0, .int .i64 0]) ∧ Rep w' p l F ∧ ∀ k, F k → w.heap.size ≤ k

/-- How many line ends. -/
def wEnds (l : List UInt8) : Nat := (l.filter fun c => c.toNat == 10).length

theorem step_line (s : WSt) (c : UInt8) : (s.step c).line = s.line + if c.toNat == 10 then 1 else 0 := by
  unfold WSt.step
  by_cases h : c.toNat = 10
  · rw [if_pos h]
    simp [h]
  · rw [if_neg h]
    have hb : (c.toNat == 10) = false := by simpa using h
    rw [hb]
    repeat' split
    all_goals simp_all

theorem wRun_line (l : List UInt8) : ∀ (s s' : WSt), wRun s l = .inl s' → s'.line = s.line + wEnds l := by
  induction l with
  | nil =>
    intro s s' h
    simp only [wRun, Sum.inl.injEq] at h
    rw [← h]
    rfl
  | cons c l ih =>
    intro s s' h
    rw [wRun] at h
    split at h
    · cases h
    · have h1 := ih _ _ h
      rw [step_line] at h1
      rw [h1]
      unfold wEnds
      rw [List.filter_cons]
      split <;> simp_all <;> omega

/-- Behind a text that may be a byte that is none is told with its line. -/
theorem wCut_fails {a b : List UInt8} {c : UInt8} (hn : a.length + 1 + b.length ≤ 4000) (hc : wBad c.toNat) (ha : (wCut a).2.1 = 0) : wCut (a ++ c :: b) = (none, 22, ((1 + wEnds a : Nat) : Int)) := by
  unfold wCut at ha
  rw [if_neg (by omega)] at ha
  cases h : wRun .start a with
  | inr n =>
    rw [h] at ha
    simp at ha
  | inl s =>
    have hl := wRun_line a _ _ h
    unfold wCut
    rw [if_neg (by rw [List.length_append, List.length_cons]; omega), wRun_bad h hc, hl]
    rfl

theorem wCut_kinds (t : List UInt8) : (∃ l, wCut t = (some l, 0, 0)) ∨ (∃ e n, wCut t = (none, e, n) ∧ ¬ e = 0) := by
  unfold wCut
  split
  · exact .inr ⟨2, 0, rfl, by decide⟩
  · split
    · exact .inl ⟨_, rfl⟩
    · exact .inr ⟨22, _, rfl, by decide⟩

theorem wEnds_take (l : List UInt8) (k : Nat) (c : UInt8) (h : l[k]? = some c) : wEnds (l.take (k + 1)) = wEnds (l.take k) + if c.toNat == 10 then 1 else 0 := by
  have h2 := List.getElem?_eq_some_iff.1 h
  unfold wEnds
  rw [List.take_succ_eq_append_getElem h2.1, h2.2, List.filter_append, List.length_append]
  congr 1
  by_cases hc : c.toNat = 10 <;> simp [hc]

end Go.Proofs.Ytfbgjoildibikaa

/-
  What a word is, plain; words that are laid with gaps between them are cut as they were.
-/
namespace Go.Proofs.Ytfbgjoildibikaa
open Go.RowKit Go.Lib

def sumSize (l : List WdL) : Nat := (l.map fun x => x.1.size).sum

def WSt.len (s : WSt) : Nat := sumSize s.out + match s.cur with
  | some w => w.length
  | none => 0

theorem sumSize_snoc (l : List WdL) (x : WdL) : sumSize (l ++ [x]) = sumSize l + x.1.size := by simp [sumSize]

theorem ended_len (s : WSt) : sumSize s.ended = s.len := by
  unfold WSt.ended WSt.len
  cases hc : s.cur with
  | some w =>
    simp only
    rw [sumSize_snoc]
    simp [ByteArray.size]
  | none => rfl

def goodByte (b : UInt8) : Prop := 33 ≤ b.toNat ∧ b.toNat ≤ 126

/-- A word of good bytes that does not begin a remark. -/
def goodWord (t : List UInt8) : Prop := ∃ c r, t = c :: r ∧ c.toNat ≠ 35 ∧ ∀ b ∈ t, goodByte b

structure WInv (t : List UInt8) (s : WSt) : Prop where
  le : s.len ≤ t.length
  eq : s.len = t.length → s.out = [] ∧ s.remark = false ∧ (∀ b ∈ t, goodByte b) ∧ ((t = [] ∧ s.cur = none) ∨ ∃ c r, t = c :: r ∧ c.toNat ≠ 35 ∧ s.cur = some t)

theorem WInv.start : WInv [] .start := ⟨Nat.le_refl _, fun _ => ⟨rfl, rfl, fun _ h => absurd h List.not_mem_nil, .inl ⟨rfl, rfl⟩⟩⟩

theorem WInv.step {t : List UInt8} {s : WSt} (h : WInv t s) (c : UInt8) (hc : ¬ wBad c.toNat) : WInv (t ++ [c]) (s.step c) := by
  have hl := h.le
  unfold WSt.step
  by_cases h10 : c.toNat = 10
  · rw [if_pos h10]
    have e : WSt.len ⟨s.ended, s.line + 1, 1, none, false⟩ = s.len := ended_len s
    exact ⟨by rw [e, List.length_append]; simp; omega, fun k => by
      rw [e, List.length_append] at k
      simp at k
      omega⟩
  · rw [if_neg h10]
    by_cases h32 : c.toNat ≤ 32
    · rw [if_pos h32]
      have e : WSt.len ⟨s.ended, s.line, s.col + 1, none, s.remark⟩ = s.len := ended_len s
      exact ⟨by rw [e, List.length_append]; simp; omega, fun k => by
        rw [e, List.length_append] at k
        simp at k
        omega⟩
    · rw [if_neg h32]
      have hg : goodByte c := by
        unfold wBad at hc
        unfold goodByte
        omega
      cases hcur : s.cur with
      | some w =>
        have e1 : s.len = sumSize s.out + w.length := by unfold WSt.len; rw [hcur]
        have e : WSt.len ⟨s.out, s.line, s.col + 1, some (w ++ [c]), s.remark⟩ = s.len + 1 := by
          rw [e1]
          show sumSize s.out + (w ++ [c]).length = _
          simp
          omega
        refine ⟨by rw [e, List.length_append]; simp; omega, fun k => ?_⟩
        rw [e, List.length_append] at k
        obtain ⟨a1, a2, a3, a4⟩ := h.eq (by simpa using k)
        refine ⟨a1, a2, fun b hb => ?_, .inr ?_⟩
        · rw [List.mem_append] at hb
          rcases hb with hb | hb
          · exact a3 b hb
          · simp at hb
            rw [hb]
            exact hg
        · rcases a4 with ⟨_, b2⟩ | ⟨x, r, b1, b2, b3⟩
          · rw [hcur] at b2
            cases b2
          · rw [hcur] at b3
            simp only [Option.some.injEq] at b3
            exact ⟨x, r ++ [c], by rw [b1]; rfl, b2, by rw [b3]⟩
      | none =>
        have e1 : s.len = sumSize s.out := by unfold WSt.len; rw [hcur]; rfl
        have no : ∀ b : Bool, WInv (t ++ [c]) ⟨s.out, s.line, s.col + 1, none, b⟩ := fun b => by
          have e : WSt.len ⟨s.out, s.line, s.col + 1, none, b⟩ = s.len := by rw [e1]; rfl
          exact ⟨by rw [e, List.length_append]; simp; omega, fun k => by
            rw [e, List.length_append] at k
            simp at k
            omega⟩
        simp only
        split
        · exact no true
        · split
          · exact no true
          · rename_i hr h35
            have e : WSt.len ⟨s.out, s.line, s.col + 1, some [c], false⟩ = s.len + 1 := by rw [e1]; rfl
            refine ⟨by rw [e, List.length_append]; simp; omega, fun k => ?_⟩
            rw [e, List.length_append] at k
            obtain ⟨a1, a2, a3, a4⟩ := h.eq (by simpa using k)
            rcases a4 with ⟨b1, _⟩ | ⟨x, r, b1, b2, b3⟩
            · subst b1
              exact ⟨a1, rfl, fun b hb => by simp at hb; rw [hb]; exact hg, .inr ⟨c, [], rfl, h35, rfl⟩⟩
            · rw [hcur] at b3
              cases b3

theorem WInv.run : ∀ (l t : List UInt8) (s s' : WSt), WInv t s → wRun s l = .inl s' → WInv (t ++ l) s'
  | [], t, s, s', h, e => by
    simp only [wRun, Sum.inl.injEq] at e
    rw [List.append_nil, ← e]
    exact h
  | c :: l, t, s, s', h, e => by
    rw [wRun] at e
    split at e
    · cases e
    · rename_i hc
      have := WInv.run l (t ++ [c]) _ s' (h.step c hc) e
      rwa [List.append_assoc] at this

/-- A text that is a word. -/
theorem wIs_good {s : ByteArray} (h : wIs s = true) : goodWord s.data.toList := by
  unfold wIs at h
  unfold wCut at h
  split at h
  · rename_i x hx
    split at hx
    · cases hx
    · split at hx
      · rename_i st hst
        simp only [Option.some.injEq] at hx
        have hi := WInv.run _ _ _ _ WInv.start hst
        rw [List.nil_append] at hi
        have h1 := eq_of_beq h
        rw [ByteArray.toList_eq, ByteArray.toList_eq] at h1
        have h2 : st.len = s.data.toList.length := by
          rw [← ended_len, hx, ← h1, byte_len]
          unfold sumSize
          simp only [List.map_cons, List.map_nil, List.sum_cons, List.sum_nil, Nat.add_zero]
        obtain ⟨a1, a2, a3, a4⟩ := hi.eq h2
        rcases a4 with ⟨b1, b2⟩ | ⟨c, r, b1, b2, b3⟩
        · have : st.ended = [] := by unfold WSt.ended; rw [b2]; exact a1
          rw [this] at hx
          cases hx
        · exact ⟨c, r, b1, b2, a3⟩
      · cases hx
  · cases h

theorem goodByte_step {b : UInt8} (h : goodByte b) : ¬ wBad b.toNat ∧ ¬ b.toNat = 10 ∧ ¬ b.toNat ≤ 32 := by
  unfold goodByte at h
  unfold wBad
  omega

theorem run_more : ∀ (r : List UInt8) (st : WSt) (w : List UInt8), st.cur = some w → (∀ b ∈ r, goodByte b) → wRun st r = .inl ⟨st.out, st.line, st.col + r.length, some (w ++ r), st.remark⟩
  | [], st, w, h, _ => by
    rw [List.append_nil, ← h]
    rfl
  | c :: r, st, w, h, hg => by
    obtain ⟨g1, g2, g3⟩ := goodByte_step (hg c List.mem_cons_self)
    rw [wRun, if_neg g1]
    have e : st.step c = ⟨st.out, st.line, st.col + 1, some (w ++ [c]), st.remark⟩ := by
      unfold WSt.step
      rw [if_neg g2, if_neg g3, h]
    rw [e, run_more r _ (w ++ [c]) rfl (fun b hb => hg b (List.mem_cons_of_mem _ hb))]
    congr 2
    · simp only [List.length_cons]
      omega
    · simp

theorem run_word {t : List UInt8} (hg : goodWord t) (st : WSt) (h : st.cur = none) (hr : st.remark = false) : wRun st t = .inl ⟨st.out, st.line, st.col + t.length, some t, false⟩ := by
  obtain ⟨c, r, rfl, h35, ha⟩ := hg
  obtain ⟨g1, g2, g3⟩ := goodByte_step (ha c List.mem_cons_self)
  rw [wRun, if_neg g1]
  have e : st.step c = ⟨st.out, st.line, st.col + 1, some [c], false⟩ := by
    unfold WSt.step
    rw [if_neg g2, if_neg g3, h]
    simp only
    rw [if_neg (by simp [hr]), if_neg h35]
  rw [e, run_more r _ [c] rfl (fun b hb => ha b (List.mem_cons_of_mem _ hb))]
  congr 2
  simp only [List.length_cons]
  omega

/-- What may stand between two words. -/
def gapOf : Nat → ByteArray
  | 0 => ⟨#[32]⟩
  | 1 => ⟨#[10]⟩
  | 2 => ⟨#[32, 9, 32]⟩
  | 3 => ⟨#[32, 35, 32, 120, 32, 121, 10]⟩
  | _ => ⟨#[10, 10, 35, 32, 122, 10]⟩

theorem gapOf_size (k : Nat) : (gapOf k).size ≤ 7 := by
  unfold gapOf
  split <;> decide

theorem run_gap (out : List WdL) (line col : Nat) (w : List UInt8) (k : Nat) : ∃ line' col', wRun ⟨out, line, col, some w, false⟩ (gapOf k).data.toList = .inl ⟨out ++ [(⟨w.toArray⟩, (line : Int), (col : Int) - (w.length : Int))], line', col', none, false⟩ ∧ line ≤ line' ∧ 1 ≤ col' := by
  unfold gapOf
  split
  · exact ⟨line, col + 1, rfl, Nat.le_refl _, by omega⟩
  · exact ⟨line + 1, 1, rfl, by omega, by omega⟩
  · exact ⟨line, col + 3, rfl, Nat.le_refl _, by omega⟩
  · exact ⟨line + 1, 1, rfl, by omega, by omega⟩
  · exact ⟨line + 1 + 1 + 1, 1, rfl, by omega, by omega⟩

/-- The first n of the words l are laid. -/
def Laid (l : List ByteArray) (n : Nat) (text : ByteArray) : Prop := ∃ st, wRun .start text.data.toList = .inl st ∧ st.cur = none ∧ st.remark = false ∧ 1 ≤ st.line ∧ 1 ≤ st.col ∧ st.out.map (·.1) = l.take n ∧ ∀ x ∈ st.out, 1 ≤ x.2.1 ∧ 1 ≤ x.2.2

theorem Laid.zero (l : List ByteArray) : Laid l 0 ⟨#[]⟩ := ⟨.start, rfl, rfl, rfl, Nat.le_refl _, Nat.le_refl _, rfl, fun _ h => absurd h List.not_mem_nil⟩

theorem Laid.next {l : List ByteArray} {n : Nat} {text s : ByteArray} (h : Laid l n text) (hs : l[n]? = some s) (hg : wIs s = true) (k : Nat) : Laid l (n + 1) ((text ++ s) ++ gapOf k) := by
  obtain ⟨st, h1, h2, h3, h4, h5, h6, h7⟩ := h
  obtain ⟨line', col', g1, g2, g3⟩ := run_gap st.out st.line (st.col + s.data.toList.length) s.data.toList k
  refine ⟨⟨st.out ++ [(s, (st.line : Int), ((st.col + s.data.toList.length : Nat) : Int) - (s.data.toList.length : Int))], line', col', none, false⟩, ?_, rfl, rfl, Nat.le_trans h4 g2, g3, ?_, fun x hx => ?_⟩
  · rw [append_list, append_list, wRun_append, wRun_append, h1]
    show (match wRun st s.data.toList with | .inl s' => wRun s' (gapOf k).data.toList | .inr n => .inr n) = _
    rw [run_word (wIs_good hg) st h2 h3]
    exact g1
  · rw [List.map_append, h6, List.take_add_one, hs]
    rfl
  · rw [List.mem_append] at hx
    rcases hx with hx | hx
    · exact h7 x hx
    · simp only [List.mem_singleton] at hx
      rw [hx]
      simp only
      omega

theorem Laid.cut {l : List ByteArray} {text : ByteArray} (h : Laid l l.length text) (hs : text.size ≤ 4000) : ∃ ws : List WdL, wCut text.data.toList = (some ws, 0, 0) ∧ ws.map (·.1) = l ∧ ∀ x ∈ ws, 1 ≤ x.2.1 ∧ 1 ≤ x.2.2 := by
  obtain ⟨st, h1, h2, h3, h4, h5, h6, h7⟩ := h
  refine ⟨st.out, ?_, by rw [h6, List.take_length], h7⟩
  unfold wCut
  rw [if_neg (by rw [byte_len]; omega), h1]
  have e : st.ended = st.out := by unfold WSt.ended; rw [h2]
  simp only [e]

end Go.Proofs.Ytfbgjoildibikaa

/-
  Lists of ints that are lent with a mark behind them (package sedimentbook): LentInts, SameInts, StaysInts.
-/
namespace Go.Proofs.Ytfbgjoildibikaa
open Go.RowKit Go.Lib

theorem NumRow.cells' {k : IntKind} {w : World} {v : Value} {xs : List Int} (h : NumRow k w v xs) : CellRow w v xs.length (xs.map (Value.int k)) := by
  obtain ⟨a, c, hv, h⟩ := h
  refine ⟨a, c, hv, ?_⟩
  rcases h with h | ⟨b, o, ha, hl, hc⟩
  · exact .inl (by rw [h]; rfl)
  · refine .inr ⟨b, o, ha, hl, fun j u hj => ?_⟩
    have hlt : j < xs.length := by
      have := (List.getElem?_eq_some_iff.1 hj).1
      simpa using this
    rw [hc j hlt]
    simp [List.getElem?_eq_getElem hlt] at hj
    rw [← hj]
    simp [List.getD, hlt]

theorem CellRow.ints {k : IntKind} {w : World} {v : Value} {xs : List Int} (h : CellRow w v xs.length (xs.map (Value.int k))) : NumRow k w v xs := by
  obtain ⟨a, c, hv, h⟩ := h
  refine ⟨a, c, hv, ?_⟩
  rcases h with h | ⟨b, o, ha, hl, hc⟩
  · exact .inl (by simpa using h)
  · refine .inr ⟨b, o, ha, hl, fun j hj => ?_⟩
    rw [hc j (.int k xs[j]) (by simp [hj])]
    simp [List.getD, hj]

theorem ints_one (ss : List Int) : ∀ u ∈ ss.map (Value.int .i64), u.oneCell' = true := by
  intro u hu
  simp only [List.mem_map] at hu
  obtain ⟨s, _, rfl⟩ := hu
  rfl

theorem mark_ints (w : World) : Cells (w.alloc (.cells #[.int .i64 (-77)] 3)) w.heap.size 0 [.int .i64 (-77)] := by
  intro j u hj
  match j, hj with
  | 0, hj =>
    simp at hj
    subst hj
    rw [World.cell?_alloc_new]
    rfl
  | j + 1, hj => simp at hj

set_option maxHeartbeats 400000 in
theorem LentInts_any (v : Value) (ss : List Int) (w : World) (hv : NumRow .i64 w v ss) (hn : ss.length ≤ 1000000) :
    Calls Try.prog 11 #[v] w fun e w' => ∃ m, e = .returned m ∧ LentRow w' w.heap.size m ss.length (ss.map (Value.int .i64)) [.int .i64 (-77)] ∧ Below w.heap.size w w' := by
  have hc := hv.cells'
  obtain ⟨sa, c, rfl, _⟩ := hv
  have HC := Hid.of hc
  clear hc
  obtain ⟨i0, hi, hz0, hz1, hz2⟩ := info_parts (show (Try.prog.info? 3).map (fun i => (i.zero, i.size, i.bytes)) = some (some (.int .i64 0), 1, 8) by kernel_rfl)
  have HI := Hid.of hi
  have HZ0 := Hid.of hz0
  have HZ1 := Hid.of hz1
  have HZ2 := Hid.of hz2
  clear hi hz0 hz1 hz2
  go_enter Try.func11, Try.ntmps11
  go_wp2_with (first | (at_builtin; refine append_row_law rfl _ (.tmp 3) 25 rfl w.heap.size 3 i0 (.int .i64 0) 1 8 Try.underlying25 HI.out HZ0.out HZ1.out HZ2.out rfl (by decide) (.slice none 0 0) 0 [] rfl ⟨rfl, .inl ⟨rfl, rfl⟩⟩ _ ss.length _ rfl HC.out (by simp) (ints_one ss) (by unfold maxLen; omega) (by omega) (Nat.le_refl _) ?_; intro v1 w1 o1 g1; have O1 : Hid (w1.ownsRow w.heap.size 3 1 v1 ss.length (ss.map (Value.int .i64))) := Hid.of (by simpa using o1); have b1 : Below w.heap.size w w1 := below_of_none g1; clear o1 g1) | (at_builtin; refine append_row_law rfl (.tmp 4) (.tmp 5) 25 rfl w.heap.size 3 i0 (.int .i64 0) 1 8 Try.underlying25 HI.out HZ0.out HZ1.out HZ2.out rfl (by decide) v1 ss.length _ rfl (O1.out.alloc _) (.slice (some ⟨w1.heap.size, 0, none⟩) 1 1) 1 [.int .i64 (-77)] rfl ⟨_, _, rfl, .inr ⟨_, 0, rfl, by simp, mark_ints w1⟩⟩ rfl (by simp [Value.oneCell']) (by unfold maxLen; omega) (by omega) (by simp; have := b1.size; omega) ?_; intro v2 w2 o2 g2; obtain ⟨hl2, h2⟩ := o2; obtain ⟨g, cap, cur, rfl, hB, hrow, hcap, hmax, hcs, htk⟩ := h2.resolve_left (by simp)))
  go_ret
  have hg := (Array.getElem?_eq_some_iff.1 hrow).1
  refine ⟨_, rfl, ⟨g, cap, rfl, hB, hg, hcap, hmax, fun j u hj => ?_⟩, (b1.alloc b1.size _).grown g2 (by have := b1.size; simp; omega) (fun k hk => own_ge O1.out hk)⟩
  rw [Nat.zero_add, cell_of_row w2 g j _ _ _ hrow]
  rw [← htk] at hj
  rw [List.getElem?_take] at hj
  split at hj
  · simpa using hj
  · cases hj

theorem int_at {w : World} {a : Option Addr} {n c : Nat} {ss : List Int} (h : CellRow w (.slice a n c) n (ss.map (Value.int .i64))) (j : Nat) (hj : j < ss.length) (hn : n = ss.length) : ∃ b o, a = some ⟨b, o, none⟩ ∧ b < w.heap.size ∧ w.cell? ⟨b, o + j, none⟩ = some (.int .i64 (ss.getD j 0)) := by
  obtain ⟨a', c', hv, h⟩ := h
  simp only [Value.slice.injEq] at hv
  obtain ⟨rfl, _, rfl⟩ := hv
  rcases h with h | ⟨b, o, ha, hl, hc⟩
  · have : ss = [] := by simpa using h
    subst this
    simp at hj
  · refine ⟨b, o, ha, hl, ?_⟩
    rw [hc j (.int .i64 ss[j]) (by simp [hj])]
    simp [List.getD, hj]

set_option maxHeartbeats 400000 in
theorem SameInts_any (u v : Value) (ss : List Int) (w : World) (hu : CellRow w u ss.length (ss.map (Value.int .i64))) (hv : CellRow w v ss.length (ss.map (Value.int .i64))) (hn : ss.length ≤ 1000000) :
    Calls Try.prog 22 #[u, v] w fun e w' => e = .returned (.bool true) ∧ Below w.heap.size w w' := by
  have HU := Hid.of hu
  have HV := Hid.of hv
  obtain ⟨ua, uc, rfl, _⟩ := hu
  obtain ⟨va, vc, rfl, _⟩ := hv
  go_enter Try.func22, Try.ntmps22
  go_wp2
  go_loopw [5] (fun i wr => ∃ j : Nat, j ≤ ss.length ∧ i = .int .i64 j ∧ Below w.heap.size w wr) (fun i _ => ss.length - (RowKit.intOf i).toNat)
  case atStart => exact ⟨0, Nat.zero_le _, rfl, Below.refl _ _⟩
  case round =>
    obtain ⟨j, hj, rfl, hb⟩ := hrel
    by_cases hlt : j < ss.length
    · obtain ⟨b1, o1, rfl, hl1, hc1⟩ := int_at HU.out j hlt rfl
      obtain ⟨b2, o2, rfl, hl2, hc2⟩ := int_at HV.out j hlt rfl
      obtain ⟨s, hs⟩ : ∃ s, ss.getD j 0 = s := ⟨_, rfl⟩
      rw [hs] at hc1 hc2
      have d1 : wr.cell? ⟨b1, o1 + j, none⟩ = some (.int .i64 s) := by rw [hb.cell hl1]; exact hc1
      have d2 : wr.cell? ⟨b2, o2 + j, none⟩ = some (.int .i64 s) := by rw [hb.cell hl2]; exact hc2
      have i0 : (0 : Int) ≤ (j : Int) := Int.natCast_nonneg _
      have i1 : (j : Int) < (ss.length : Int) := by omega
      clear hs hc1 hc2 HU HV hl1 hl2
      go_wp2
      go_quiet (fail)
      go_wp2
      go_roundw
      case rel => exact ⟨j + 1, by omega, by go_num, below_drewN hb _⟩
      case measure => simp [RowKit.intOf]; omega
    · go_wp2
      go_ret
      exact ⟨rfl, hb⟩

set_option maxHeartbeats 400000 in
theorem StaysInts_any (B : Nat) (u v : Value) (ss : List Int) (w : World) (hu : LentRow w B u ss.length (ss.map (Value.int .i64)) [.int .i64 (-77)]) (hv : CellRow w v ss.length (ss.map (Value.int .i64))) (hn : ss.length ≤ 1000000) :
    Calls Try.prog 27 #[u, v] w fun e w' => e = .returned (.bool true) ∧ Below w.heap.size w w' := by
  have HU := Hid.of hu.row
  have HV := Hid.of hv
  obtain ⟨g, cap, rfl, hB, hg, hc, hm, hcs⟩ := hu
  have hmark := hcs ss.length (.int .i64 (-77)) (by rw [List.getElem?_append_right (by simp)]; simp)
  rw [Nat.zero_add] at hmark
  have HM := Hid.of hmark
  have c0 : (ss.length : Int) + 1 ≤ (cap : Int) := by omega
  clear hcs hm hB hmark
  go_enter Try.func27, Try.ntmps27
  go_wp2_with fail
  refine (SameInts_any _ _ ss _ HU.out HV.out hn).mono ?_
  rintro e w1 ⟨rfl, b1⟩
  have hmark : w1.cell? ⟨g, ss.length, none⟩ = some (.int .i64 (-77)) := by rw [b1.cell hg]; exact HM.out
  have B1 := Hid.of b1
  clear b1
  go_wp2
  go_ret
  exact ⟨rfl, B1.out⟩

end Go.Proofs.Ytfbgjoildibikaa

/-
  Marks of a Book's lists of ints (package sedimentbook): markInts, copyInts.
-/
namespace Go.Proofs.Ytfbgjoildibikaa
open Go.RowKit Go.Lib

/-- The marks of the list i from the place f on, n of them. -/
def imarks (i f n : Nat) : List Int := (List.range n).map fun k : Nat => -1000000 * (i : Int) - ((f : Int) + (k : Int)) - 7

theorem imarks_length (i f n : Nat) : (imarks i f n).length = n := by simp [imarks]

theorem imarks_succ (i f n : Nat) : imarks i f (n + 1) = imarks i f n ++ [-1000000 * (i : Int) - ((f : Int) + (n : Int)) - 7] := by
  simp [imarks, List.range_succ]

theorem imarks_add (i f n m : Nat) : imarks i f n ++ imarks i (f + n) m = imarks i f (n + m) := by
  induction m with
  | zero => simp [imarks]
  | succ m ih =>
    rw [← Nat.add_assoc, imarks_succ, imarks_succ, ← List.append_assoc, ih]
    congr 2
    push_cast
    omega

theorem one_int (w : World) (x : Int) (t : TypeId) : Cells (w.alloc (.cells #[.int .i64 x] t)) w.heap.size 0 [.int .i64 x] := by
  intro j u hj
  match j, hj with
  | 0, hj =>
    simp at hj
    subst hj
    rw [World.cell?_alloc_new]
    rfl
  | j + 1, hj => simp at hj

set_option maxHeartbeats 400000 in
theorem markInts_any (i f n : Nat) (hi9 : i ≤ 1000) (hf9 : f ≤ 100000000) (hn9 : n ≤ 1000000) (w : World) :
    Calls Try.prog 90 #[.int .i64 i, .int .i64 f, .int .i64 n] w fun e w' => ∃ v, e = .returned v ∧ w'.ownsRow w.heap.size 3 1 v n ((imarks i f n).map (Value.int .i64)) ∧ Below w.heap.size w w' := by
  obtain ⟨i0, hi, hz0, hz1, hz2⟩ := info_parts (show (Try.prog.info? 3).map (fun i => (i.zero, i.size, i.bytes)) = some (some (.int .i64 0), 1, 8) by kernel_rfl)
  have HI := Hid.of hi
  have HZ0 := Hid.of hz0
  have HZ1 := Hid.of hz1
  have HZ2 := Hid.of hz2
  clear hi hz0 hz1 hz2
  go_enter Try.func90, Try.ntmps90
  go_wp2
  go_loopw [7, 8] (fun v k wr => ∃ j : Nat, j ≤ n ∧ k = .int .i64 ((f : Int) + j) ∧ Hid (wr.ownsRow w.heap.size 3 1 v j ((imarks i f j).map (Value.int .i64))) ∧ Below w.heap.size w wr) (fun _ k _ => n - ((intOf k).toNat - f))
  case atStart => exact ⟨0, Nat.zero_le _, by simp, Hid.of (by simp only [imarks]; exact ⟨rfl, .inl ⟨rfl, rfl⟩⟩), Below.refl _ _⟩
  case round =>
    obtain ⟨j, hj, rfl, O, hb⟩ := hrel
    by_cases hlt : j < n
    · go_wp2_with (at_builtin; refine append_row_law rfl _ _ 25 rfl w.heap.size 3 i0 (.int .i64 0) 1 8 Try.underlying25 HI.out HZ0.out HZ1.out HZ2.out rfl (by decide) _ j _ rfl (O.out.alloc _) (.slice (some ⟨wr.heap.size, 0, none⟩) 1 1) 1 [.int .i64 (-1000000 * (i : Int) - ((f : Int) + (j : Int)) - 7)] (by go_num) ⟨_, _, rfl, .inr ⟨_, 0, rfl, by simp, one_int wr _ _⟩⟩ rfl (by simp [Value.oneCell']) (by unfold maxLen; omega) (by omega) (by simp; have := hb.size; omega) ?_; intro v1 w1 o1 g1)
      go_roundw
      case rel =>
        refine ⟨j + 1, by omega, by go_num, Hid.of ?_, (hb.alloc hb.size _).grown g1 (by have := hb.size; simp; omega) (fun k hk => own_ge O.out hk)⟩
        rw [imarks_succ, List.map_append]
        exact o1
      case measure => simp [intOf]; omega
    · go_wp2
      go_ret
      have : j = n := by omega
      subst this
      exact ⟨_, rfl, O.out, hb⟩

set_option maxHeartbeats 400000 in
theorem copyInts_any (v : Value) (ss : List Int) (w : World) (hv : CellRow w v ss.length (ss.map (Value.int .i64))) (hn : ss.length ≤ 1000000) :
    Calls Try.prog 35 #[v] w fun e w' => ∃ u, e = .returned u ∧ w'.ownsRow w.heap.size 3 1 u ss.length (ss.map (Value.int .i64)) ∧ Below w.heap.size w w' := by
  have HC := Hid.of hv
  obtain ⟨sa, c, rfl, _⟩ := hv
  obtain ⟨i0, hi, hz0, hz1, hz2⟩ := info_parts (show (Try.prog.info? 3).map (fun i => (i.zero, i.size, i.bytes)) = some (some (.int .i64 0), 1, 8) by kernel_rfl)
  have HI := Hid.of hi
  have HZ0 := Hid.of hz0
  have HZ1 := Hid.of hz1
  have HZ2 := Hid.of hz2
  clear hi hz0 hz1 hz2
  go_enter Try.func35, Try.ntmps35
  go_wp2_with (at_builtin; refine append_row_law rfl (.const (.slice none 0 0)) (.tmp 3) 25 rfl w.heap.size 3 i0 (.int .i64 0) 1 8 Try.underlying25 HI.out HZ0.out HZ1.out HZ2.out rfl (by decide) (.slice none 0 0) 0 [] rfl ⟨rfl, .inl ⟨rfl, rfl⟩⟩ _ ss.length _ rfl HC.out (by simp) (ints_one ss) (by unfold maxLen; omega) (by omega) (Nat.le_refl _) ?_; intro v1 w1 o1 g1; have O1 : Hid (w1.ownsRow w.heap.size 3 1 v1 ss.length (ss.map (Value.int .i64))) := Hid.of (by simpa using o1); have b1 : Below w.heap.size w w1 := below_of_none g1; clear o1 g1)
  go_ret
  exact ⟨_, rfl, O1.out, b1⟩

end Go.Proofs.Ytfbgjoildibikaa

/-
  A Book's lists of ints (package sedimentbook): SameInts and stillInts, which only read.
-/
namespace Go.Proofs.Ytfbgjoildibikaa
open Go.RowKit Go.Lib

theorem CellRow.drewN {w : World} {v : Value} {n : Nat} {xs : List Value} (h : CellRow w v n xs) (q : Nat) : CellRow (w.drewN q) v n xs := h

theorem quiet_more {P : Program} {f : FuncId} {args : Array Value} {w : World} {q n : Nat} {v : Value}
    (h : Calls P f args (w.drewN (q + n)) fun e w' => e = .returned v ∧ ∃ k, w' = (w.drewN (q + n)).drewN k) : Calls P f args (w.drewN (q + n)) fun e w'' => e = .returned v ∧ ∃ m, w'' = w.drewN (q + m) :=
  h.mono fun _ _ ⟨he, k, hk⟩ => ⟨he, n + k, by rw [hk, World.drewN_drewN, Nat.add_assoc]⟩

set_option maxHeartbeats 400000 in
theorem SameInts_quiet (u v : Value) (ss : List Int) (w : World) (hu : CellRow w u ss.length (ss.map (Value.int .i64))) (hv : CellRow w v ss.length (ss.map (Value.int .i64))) (hn : ss.length ≤ 1000000) :
    Calls Try.prog 22 #[u, v] w fun e w' => e = .returned (.bool true) ∧ ∃ q, w' = w.drewN q := by
  have HU := Hid.of hu
  have HV := Hid.of hv
  obtain ⟨ua, uc, rfl, _⟩ := hu
  obtain ⟨va, vc, rfl, _⟩ := hv
  go_enter Try.func22, Try.ntmps22
  go_wp2
  go_loopw [5] (fun i wr => ∃ j : Nat, j ≤ ss.length ∧ i = .int .i64 j ∧ ∃ q, wr = w.drewN q) (fun i _ => ss.length - (RowKit.intOf i).toNat)
  case atStart => exact ⟨0, Nat.zero_le _, rfl, 0, rfl⟩
  case round =>
    obtain ⟨j, hj, rfl, q, rfl⟩ := hrel
    by_cases hlt : j < ss.length
    · obtain ⟨b1, o1, rfl, hl1, hc1⟩ := int_at HU.out j hlt rfl
      obtain ⟨b2, o2, rfl, hl2, hc2⟩ := int_at HV.out j hlt rfl
      obtain ⟨s, hs⟩ : ∃ s, ss.getD j 0 = s := ⟨_, rfl⟩
      rw [hs] at hc1 hc2
      have i0 : (0 : Int) ≤ (j : Int) := Int.natCast_nonneg _
      have i1 : (j : Int) < (ss.length : Int) := by omega
      clear hs HU HV hl1 hl2
      go_wp2
      go_quiet (fail)
      go_wp2
      go_roundw
      case rel => exact ⟨j + 1, by omega, by go_num, _, rfl⟩
      case measure => simp [RowKit.intOf]; omega
    · go_wp2
      go_ret
      exact ⟨rfl, q, rfl⟩

/-- The k-th of lists that lie in the slice v of the world w, which has n elements: what is there. -/
theorem CellRow.at {w : World} {a : Option Addr} {n c : Nat} {vs : List Value} (h : CellRow w (.slice a n c) n vs) (j : Nat) (u : Value) (hj : vs[j]? = some u) : ∃ b o, a = some ⟨b, o, none⟩ ∧ b < w.heap.size ∧ w.cell? ⟨b, o + j, none⟩ = some u := by
  obtain ⟨a', c', hv, h⟩ := h
  simp only [Value.slice.injEq] at hv
  obtain ⟨rfl, _, rfl⟩ := hv
  rcases h with rfl | ⟨b, o, ha, hl, hc⟩
  · simp at hj
  · exact ⟨b, o, ha, hl, hc j u hj⟩

/-- The lists of ints that a Book keeps and their copies: each pair holds the same numbers. -/
def Pairs (w : World) (ls : List (Value × Value × List Int)) : Prop := ∀ x ∈ ls, CellRow w x.1 x.2.2.length (x.2.2.map (Value.int .i64)) ∧ CellRow w x.2.1 x.2.2.length (x.2.2.map (Value.int .i64)) ∧ x.2.2.length ≤ 1000000

set_option maxHeartbeats 400000 in
theorem stillInts_any (p : Nat) (V W : Value) (ls : List (Value × Value × List Int)) (w : World) (h2 : w.cell? ⟨p, 2, none⟩ = some V) (h3 : w.cell? ⟨p, 3, none⟩ = some W)
    (hV : CellRow w V ls.length (ls.map (·.1))) (hW : CellRow w W ls.length (ls.map (·.2.1))) (hp : Pairs w ls) (hn : ls.length ≤ 1000) :
    Calls Try.prog 47 #[.pointer (some ⟨p, 0, none⟩)] w fun e w' => e = .returned (.bool true) ∧ ∃ q, w' = w.drewN q := by
  have HV := Hid.of hV
  have HW := Hid.of hW
  have HP := Hid.of hp
  clear hp
  obtain ⟨va, vc, rfl, _⟩ := hV
  obtain ⟨wa, wc, rfl, _⟩ := hW
  go_enter Try.func47, Try.ntmps47
  go_wp2
  go_loopw [3] (fun i wr => ∃ j : Nat, j ≤ ls.length ∧ i = .int .i64 j ∧ ∃ q, wr = w.drewN q) (fun i _ => ls.length - (RowKit.intOf i).toNat)
  case atStart => exact ⟨0, Nat.zero_le _, rfl, 0, rfl⟩
  case round =>
    obtain ⟨j, hj, rfl, q, rfl⟩ := hrel
    by_cases hlt : j < ls.length
    · obtain ⟨b1, o1, rfl, hl1, hc1⟩ := HV.out.at j ls[j].1 (by simp [hlt])
      obtain ⟨b2, o2, rfl, hl2, hc2⟩ := HW.out.at j ls[j].2.1 (by simp [hlt])
      have hx := HP.out ls[j] (List.getElem_mem hlt)
      generalize ls[j] = x at *
      obtain ⟨u, v, ss⟩ := x
      simp only at hc1 hc2 hx
      have HX := Hid.of hx
      have i0 : (0 : Int) ≤ (j : Int) := Int.natCast_nonneg _
      have i1 : (j : Int) < (ls.length : Int) := by omega
      clear hx HV HW HP hl1 hl2
      go_wp2
      go_quiet ((go_at_call 22; exact quiet_more (SameInts_quiet u v ss _ (CellRow.drewN HX.out.1 _) (CellRow.drewN HX.out.2.1 _) HX.out.2.2)))
      go_wp2
      go_roundw
      case rel => exact ⟨j + 1, by omega, by go_num, _, rfl⟩
      case measure => simp [RowKit.intOf]; omega
    · go_wp2
      go_ret
      exact ⟨rfl, q, rfl⟩

end Go.Proofs.Ytfbgjoildibikaa
