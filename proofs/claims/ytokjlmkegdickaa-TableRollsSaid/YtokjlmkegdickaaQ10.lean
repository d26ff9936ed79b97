/-
  A bundle of texts: BT BI BKI BKS BST.
-/
import Derived.Laws.AppendOwnNone
import Derived.Deep.QuietTactic
import Derived.BigQuiet
import Derived.Test.YtokjlmkegdickaaQ04
/-
  Lists of texts that are lent with a mark behind them (package sedimentbook): LentTexts, SameTexts, StaysTexts. And 'append' onto a row of one's own, whatever slice its source is.
-/
namespace Go.Proofs.Ytokjlmkegdickaa
open Go.RowKit Go.Lib

/-- From o on the block b of w holds xs. -/
def Cells (w : World) (b o : Nat) (xs : List Value) : Prop := ∀ j u, xs[j]? = some u → w.cell? ⟨b, o + j, none⟩ = some u

/-- The slice v has n elements, whose cells are xs. -/
def CellRow (w : World) (v : Value) (n : Nat) (xs : List Value) : Prop := ∃ a c, v = .slice a n c ∧ (xs = [] ∨ ∃ b o, a = some ⟨b, o, none⟩ ∧ b < w.heap.size ∧ Cells w b o xs)

theorem Cells.kept {w w' : World} {b o : Nat} {xs : List Value} (h : Cells w b o xs) (hb : Below w.heap.size w w') (hl : b < w.heap.size) : Cells w' b o xs :=
  fun j u hj => by rw [hb.cell hl]; exact h j u hj

theorem CellRow.kept {w w' : World} {v : Value} {n : Nat} {xs : List Value} (h : CellRow w v n xs) (hb : Below w.heap.size w w') : CellRow w' v n xs := by
  obtain ⟨a, c, hv, h⟩ := h
  refine ⟨a, c, hv, ?_⟩
  rcases h with h | ⟨b, o, ha, hl, hc⟩
  · exact .inl h
  · exact .inr ⟨b, o, ha, Nat.lt_of_lt_of_le hl hb.size, hc.kept hb hl⟩

theorem StrRow.cells {w : World} {v : Value} {ss : List ByteArray} (h : StrRow w v ss) : CellRow w v ss.length (ss.map Value.string) := by
  obtain ⟨a, c, hv, h⟩ := h
  refine ⟨a, c, hv, ?_⟩
  rcases h with h | ⟨b, o, ha, hl, hc⟩
  · exact .inl (by rw [h]; rfl)
  · refine .inr ⟨b, o, ha, hl, fun j u hj => ?_⟩
    have hlt : j < ss.length := by
      have := (List.getElem?_eq_some_iff.1 hj).1
      simpa using this
    rw [hc j hlt]
    simp [List.getElem?_eq_getElem hlt] at hj
    rw [← hj]
    simp [List.getD, hlt]

section
variable {P : Program}

theorem run_append_none (w : World) (base : Nat) (t ty e : TypeId) (i : TypeInfo) (size c : Nat) (ht : P.underlying t = some (.slice e)) (hi : P.info? e = some i)
    (v : Value) (n : Nat) (xs : List Value) (hown : w.ownsRow base e size v n xs) :
    (Builtin.append_ #[t, t] ty #[v, .slice none 0 c]).run P w = .ok v w := by
  rcases hown.2 with ⟨rfl, rfl⟩ | ⟨g, cap, cur, rfl, _, _, hnc, _⟩
  · simp [Builtin.append_, run_underlying ht, sizeOf, typeInfo, hi, Builtin.lenOf, Builtin.firstCells]
  · simp [Builtin.append_, run_underlying ht, sizeOf, typeInfo, hi, Builtin.lenOf, Builtin.firstCells, hnc, storeCells]

/-- 'append(r, x...)', r one's own row (or nil), x any slice whose cells are known. -/
theorem append_row_law {w : World} {ops : Array Oper} {rest : List Oper} {o : Oper} {a : Act} {Q : Exit → Act → World → Prop} (hgd : o.guard = none) (s x : Operand) (t : TypeId)
    (ho : o.op = .call { callee := .builtin .append, args := #[s, x], argTypes := #[t, t] })
    (base : Nat) (e : TypeId) (i : TypeInfo) (z : Value) (size bytes : Nat) (ht : P.underlying t = some (.slice e)) (hi : P.info? e = some i) (hz : i.zero = some z)
    (hsize : i.size = size) (hby : i.bytes = bytes) (hzs : z.cells.size = size) (hsz : 0 < size)
    (v : Value) (n : Nat) (xs : List Value) (hs : a.eval s = v) (hown : w.ownsRow base e size v n xs)
    (u : Value) (m : Nat) (news : List Value) (hx : a.eval x = u) (hrow : CellRow w u m news) (hl : news.length = m * size) (h1 : ∀ u ∈ news, u.oneCell' = true)
    (h63 : n + m ≤ maxLen) (hbytes : (n + m) * bytes ≤ 140737488355328) (hbase : base ≤ w.heap.size)
    (h : ∀ v' w', w'.ownsRow base e size v' (n + m) (xs ++ news) → w.grownBy w' v.ownBlock → wpList P ops Q rest (a.put o.dst v') w') : wpList P ops Q (o :: rest) a w := by
  obtain ⟨sa, c, rfl, hc⟩ := hrow
  have key : ∀ ad, sa = some ad → (∀ j u, news[j]? = some u → w.cell? (ad.add j) = some u) → wpList P ops Q (o :: rest) a w := by
    intro ad ha hcells
    subst ha
    exact wpList_append_own w hgd s x t ho base e i z size bytes ht hi hz hsize hby hzs hsz v n xs hs hown ad m c news hx hl hcells h1 h63 hbytes hbase (fun v' w' h2 h3 _ => h v' w' h2 h3)
  rcases hc with rfl | ⟨b, oo, ha, hb, hcells⟩
  · have hm : m = 0 := by
      rcases Nat.eq_zero_or_pos m with h0 | h0
      · exact h0
      · have := Nat.mul_pos h0 hsz
        simp at hl
        omega
    subst hm
    cases sa with
    | none =>
      refine wpList_plain hgd fun K hK => ?_
      have hrun := run_append_none (P := P) w base t o.type e i size c ht hi v n xs hown
      unfold Oper.wp
      simp [execOp, ho, resolve, invoke, builtin, hs, hx, hrun, Result.andThen]
      have := h v w (by simpa using hown) (grownBy_refl _ _)
      exact hK _ _ this
    | some ad => exact key ad rfl (by simp)
  · exact key _ ha (fun j u hj => by
      have := hcells j u hj
      have ea : (⟨b, oo, none⟩ : Addr).add j = ⟨b, oo + j, none⟩ := by unfold Addr.add; split <;> simp_all
      rw [ea]
      exact this)
end

/-- A slice of n elements of sz cells each that begins a block of its own from B on, with the mark behind them: the cells are xs, then mark. -/
def LentRow (w : World) (B : Nat) (v : Value) (n : Nat) (xs mark : List Value) : Prop :=
  ∃ g cap, v = .slice (some ⟨g, 0, none⟩) n cap ∧ B ≤ g ∧ g < w.heap.size ∧ n + 1 ≤ cap ∧ cap ≤ maxLen ∧ Cells w g 0 (xs ++ mark)

theorem LentRow.kept {w w' : World} {B : Nat} {v : Value} {n : Nat} {xs mark : List Value} (h : LentRow w B v n xs mark) (hb : Below w.heap.size w w') : LentRow w' B v n xs mark := by
  obtain ⟨g, cap, hv, hB, hg, hc, hm, hcs⟩ := h
  exact ⟨g, cap, hv, hB, Nat.lt_of_lt_of_le hg hb.size, hc, hm, hcs.kept hb hg⟩

theorem LentRow.row {w : World} {B : Nat} {v : Value} {n : Nat} {xs mark : List Value} (h : LentRow w B v n xs mark) : CellRow w v n xs := by
  obtain ⟨g, cap, hv, hB, hg, hc, hm, hcs⟩ := h
  refine ⟨_, _, hv, .inr ⟨g, 0, rfl, hg, fun j u hj => hcs j u ?_⟩⟩
  have := (List.getElem?_eq_some_iff.1 hj).1
  rw [List.getElem?_append_left this]
  exact hj

theorem CellRow.strs {w : World} {v : Value} {ss : List ByteArray} (h : CellRow w v ss.length (ss.map Value.string)) : StrRow w v ss := by
  obtain ⟨a, c, hv, h⟩ := h
  refine ⟨a, c, hv, ?_⟩
  rcases h with h | ⟨b, o, ha, hl, hc⟩
  · exact .inl (by simpa using h)
  · refine .inr ⟨b, o, ha, hl, fun j hj => ?_⟩
    rw [hc j (.string ss[j]) (by simp [hj])]
    simp [List.getD, hj]

theorem own_ge {w : World} {B : Nat} {e : TypeId} {size : Nat} {v : Value} {n : Nat} {xs : List Value} (h : w.ownsRow B e size v n xs) {k : Nat} (hk : v.ownBlock = some k) : B ≤ k := by
  rcases h.2 with ⟨rfl, _⟩ | ⟨g, cap, cur, rfl, hB, _⟩
  · cases hk
  · simp only [Value.ownBlock, Option.some.injEq] at hk
    omega


theorem str_at {w : World} {a : Option Addr} {n c : Nat} {ss : List ByteArray} (h : CellRow w (.slice a n c) n (ss.map Value.string)) (j : Nat) (hj : j < ss.length) (hn : n = ss.length) : ∃ b o, a = some ⟨b, o, none⟩ ∧ b < w.heap.size ∧ w.cell? ⟨b, o + j, none⟩ = some (.string (ss.getD j ByteArray.empty)) := by
  obtain ⟨a', c', hv, h⟩ := h
  simp only [Value.slice.injEq] at hv
  obtain ⟨rfl, _, rfl⟩ := hv
  rcases h with h | ⟨b, o, ha, hl, hc⟩
  · have : ss = [] := by simpa using h
    subst this
    simp at hj
  · refine ⟨b, o, ha, hl, ?_⟩
    rw [hc j (.string ss[j]) (by simp [hj])]
    simp [List.getD, hj]

set_option maxHeartbeats 400000 in
theorem SameTexts_any (u v : Value) (ss : List ByteArray) (w : World) (hu : CellRow w u ss.length (ss.map Value.string)) (hv : CellRow w v ss.length (ss.map Value.string)) (hn : ss.length ≤ 1000000) :
    Calls Try.prog 27 #[u, v] w fun e w' => e = .returned (.bool true) ∧ Below w.heap.size w w' := by
  have HU := Hid.of hu
  have HV := Hid.of hv
  obtain ⟨ua, uc, rfl, _⟩ := hu
  obtain ⟨va, vc, rfl, _⟩ := hv
  go_enter Try.func27, Try.ntmps27
  go_wp2
  go_loopw [5] (fun i wr => ∃ j : Nat, j ≤ ss.length ∧ i = .int .i64 j ∧ Below w.heap.size w wr) (fun i _ => ss.length - (RowKit.intOf i).toNat)
  case atStart => exact ⟨0, Nat.zero_le _, rfl, Below.refl _ _⟩
  case round =>
    obtain ⟨j, hj, rfl, hb⟩ := hrel
    by_cases hlt : j < ss.length
    · obtain ⟨b1, o1, rfl, hl1, hc1⟩ := str_at HU.out j hlt rfl
      obtain ⟨b2, o2, rfl, hl2, hc2⟩ := str_at HV.out j hlt rfl
      obtain ⟨s, hs⟩ : ∃ s, ss.getD j ByteArray.empty = s := ⟨_, rfl⟩
      rw [hs] at hc1 hc2
      have d1 : wr.cell? ⟨b1, o1 + j, none⟩ = some (.string s) := by rw [hb.cell hl1]; exact hc1
      have d2 : wr.cell? ⟨b2, o2 + j, none⟩ = some (.string s) := by rw [hb.cell hl2]; exact hc2
      have i0 : (0 : Int) ≤ (j : Int) := Int.natCast_nonneg _
      have i1 : (j : Int) < (ss.length : Int) := by omega
      have he : (s.toList == s.toList) = true := beq_self_eq_true _
      clear hs hc1 hc2 HU HV hl1 hl2
      go_wp2
      go_quiet (fail)
      go_wp2
      go_roundw
      case rel => exact ⟨j + 1, by omega, by go_num, below_drewN hb _⟩
      case measure => simp [RowKit.intOf]; omega
    · go_wp2
      go_ret
      exact ⟨rfl, hb⟩


end Go.Proofs.Ytokjlmkegdickaa

/-
  Lists of ints that are lent with a mark behind them (package sedimentbook): LentInts, SameInts, StaysInts.
-/
namespace Go.Proofs.Ytokjlmkegdickaa
open Go.RowKit Go.Lib

theorem NumRow.cells' {k : IntKind} {w : World} {v : Value} {xs : List Int} (h : NumRow k w v xs) : CellRow w v xs.length (xs.map (Value.int k)) := by
  obtain ⟨a, c, hv, h⟩ := h
  refine ⟨a, c, hv, ?_⟩
  rcases h with h | ⟨b, o, ha, hl, hc⟩
  · exact .inl (by rw [h]; rfl)
  · refine .inr ⟨b, o, ha, hl, fun j u hj => ?_⟩
    have hlt : j < xs.length := by
      have := (List.getElem?_eq_some_iff.1 hj).1
      simpa using this
    rw [hc j hlt]
    simp [List.getElem?_eq_getElem hlt] at hj
    rw [← hj]
    simp [List.getD, hlt]

theorem CellRow.ints {k : IntKind} {w : World} {v : Value} {xs : List Int} (h : CellRow w v xs.length (xs.map (Value.int k))) : NumRow k w v xs := by
  obtain ⟨a, c, hv, h⟩ := h
  refine ⟨a, c, hv, ?_⟩
  rcases h with h | ⟨b, o, ha, hl, hc⟩
  · exact .inl (by simpa using h)
  · refine .inr ⟨b, o, ha, hl, fun j hj => ?_⟩
    rw [hc j (.int k xs[j]) (by simp [hj])]
    simp [List.getD, hj]

theorem ints_one (ss : List Int) : ∀ u ∈ ss.map (Value.int .i64), u.oneCell' = true := by
  intro u hu
  simp only [List.mem_map] at hu
  obtain ⟨s, _, rfl⟩ := hu
  rfl


theorem int_at {w : World} {a : Option Addr} {n c : Nat} {ss : List Int} (h : CellRow w (.slice a n c) n (ss.map (Value.int .i64))) (j : Nat) (hj : j < ss.length) (hn : n = ss.length) : ∃ b o, a = some ⟨b, o, none⟩ ∧ b < w.heap.size ∧ w.cell? ⟨b, o + j, none⟩ = some (.int .i64 (ss.getD j 0)) := by
  obtain ⟨a', c', hv, h⟩ := h
  simp only [Value.slice.injEq] at hv
  obtain ⟨rfl, _, rfl⟩ := hv
  rcases h with h | ⟨b, o, ha, hl, hc⟩
  · have : ss = [] := by simpa using h
    subst this
    simp at hj
  · refine ⟨b, o, ha, hl, ?_⟩
    rw [hc j (.int .i64 ss[j]) (by simp [hj])]
    simp [List.getD, hj]



end Go.Proofs.Ytokjlmkegdickaa

/-
  Marks of a Book's lists of ints (package sedimentbook): markInts, copyInts.
-/
namespace Go.Proofs.Ytokjlmkegdickaa
open Go.RowKit Go.Lib

/-- The marks of the list i from the place f on, n of them. -/
def imarks (i f n : Nat) : List Int := (List.range n).map fun k : Nat => -1000000 * (i : Int) - ((f : Int) + (k : Int)) - 7

theorem imarks_length (i f n : Nat) : (imarks i f n).length = n := by simp [imarks]

theorem imarks_succ (i f n : Nat) : imarks i f (n + 1) = imarks i f n ++ [-1000000 * (i : Int) - ((f : Int) + (n : Int)) - 7] := by
  simp [imarks, List.range_succ]

theorem imarks_add (i f n m : Nat) : imarks i f n ++ imarks i (f + n) m = imarks i f (n + m) := by
  induction m with
  | zero => simp [imarks]
  | succ m ih =>
    rw [← Nat.add_assoc, imarks_succ, imarks_succ, ← List.append_assoc, ih]
    congr 2
    push_cast
    omega

theorem one_int (w : World) (x : Int) (t : TypeId) : Cells (w.alloc (.cells #[.int .i64 x] t)) w.heap.size 0 [.int .i64 x] := by
  intro j u hj
  match j, hj with
  | 0, hj =>
    simp at hj
    subst hj
    rw [World.cell?_alloc_new]
    rfl
  | j + 1, hj => simp at hj



end Go.Proofs.Ytokjlmkegdickaa

/-
  A Book's lists of ints (package sedimentbook): SameInts and stillInts, which only read.
-/
namespace Go.Proofs.Ytokjlmkegdickaa
open Go.RowKit Go.Lib

theorem CellRow.drewN {w : World} {v : Value} {n : Nat} {xs : List Value} (h : CellRow w v n xs) (q : Nat) : CellRow (w.drewN q) v n xs := h

theorem quiet_more {P : Program} {f : FuncId} {args : Array Value} {w : World} {q n : Nat} {v : Value}
    (h : Calls P f args (w.drewN (q + n)) fun e w' => e = .returned v ∧ ∃ k, w' = (w.drewN (q + n)).drewN k) : Calls P f args (w.drewN (q + n)) fun e w'' => e = .returned v ∧ ∃ m, w'' = w.drewN (q + m) :=
  h.mono fun _ _ ⟨he, k, hk⟩ => ⟨he, n + k, by rw [hk, World.drewN_drewN, Nat.add_assoc]⟩


/-- The k-th of lists that lie in the slice v of the world w, which has n elements: what is there. -/
theorem CellRow.at {w : World} {a : Option Addr} {n c : Nat} {vs : List Value} (h : CellRow w (.slice a n c) n vs) (j : Nat) (u : Value) (hj : vs[j]? = some u) : ∃ b o, a = some ⟨b, o, none⟩ ∧ b < w.heap.size ∧ w.cell? ⟨b, o + j, none⟩ = some u := by
  obtain ⟨a', c', hv, h⟩ := h
  simp only [Value.slice.injEq] at hv
  obtain ⟨rfl, _, rfl⟩ := hv
  rcases h with rfl | ⟨b, o, ha, hl, hc⟩
  · simp at hj
  · exact ⟨b, o, ha, hl, hc j u hj⟩


end Go.Proofs.Ytokjlmkegdickaa

/-
  Calls that touch some blocks alone (a footprint), and rows beside them.
-/
namespace Go.Proofs.Ytokjlmkegdickaa
open Go.RowKit

/-- A call has touched the blocks F alone, and made new ones; the footprint is F' behind it. -/
structure Step (F F' : Nat → Prop) (w w' : World) : Prop where
  os : w'.os = w.os
  tape : w'.tape = w.tape
  output : w'.output = w.output
  size : w.heap.size ≤ w'.heap.size
  block : ∀ k, k < w.heap.size → ¬ F k → w'.heap[k]? = w.heap[k]?
  foot : ∀ k, F' k → F k ∨ w.heap.size ≤ k

theorem Step.of_below {F : Nat → Prop} {w w' : World} (b : Below w.heap.size w w') : Step F F w w' :=
  ⟨b.os, b.tape, b.output, b.size, fun k hk _ => b.block k hk, fun _ h => .inl h⟩

theorem Step.below {B : Nat} {F F' : Nat → Prop} {w0 w w' : World} (h : Step F F' w w') (b : Below B w0 w) (hB : B ≤ w.heap.size) (hF : ∀ k, F k → B ≤ k) : Below B w0 w' :=
  ⟨h.os.trans b.os, h.tape.trans b.tape, h.output.trans b.output, Nat.le_trans b.size h.size, fun k hk => by
    rw [h.block k (by omega) (fun c => by have := hF k c; omega)]
    exact b.block k hk⟩

theorem Step.ge {B : Nat} {F F' : Nat → Prop} {w w' : World} (h : Step F F' w w') (hB : B ≤ w.heap.size) (hF : ∀ k, F k → B ≤ k) : ∀ k, F' k → B ≤ k := by
  intro k hk
  rcases h.foot k hk with c | c
  · exact hF k c
  · omega

/-- The block of v is none of F. -/
def Off (F : Nat → Prop) (v : Value) : Prop := ∀ g, v.ownBlock = some g → ¬ F g

theorem Off.next {F F' : Nat → Prop} {w w' : World} {v : Value} (h : Off F v) (st : Step F F' w w') (hv : ∀ g, v.ownBlock = some g → g < w.heap.size) : Off F' v := by
  intro g hg c
  rcases st.foot g c with k | k
  · exact h g hg k
  · have := hv g hg
    omega

theorem Step.row {F F' : Nat → Prop} {w w' : World} {v : Value} {n : Nat} {xs : List Value} (st : Step F F' w w') (h : CellRow w v n xs) (ho : Off F v) : CellRow w' v n xs := by
  obtain ⟨a, c, rfl, h⟩ := h
  refine ⟨a, c, rfl, ?_⟩
  rcases h with h | ⟨b, o, rfl, hl, hc⟩
  · exact .inl h
  · refine .inr ⟨b, o, rfl, Nat.lt_of_lt_of_le hl st.size, fun j u hj => ?_⟩
    rw [World.cell?_of_block (st.block b hl (ho b rfl))]
    exact hc j u hj

theorem Step.own {F F' : Nat → Prop} {w w' : World} {B : Nat} {e : TypeId} {sz : Nat} {v : Value} {n : Nat} {xs : List Value} (st : Step F F' w w') (h : w.ownsRow B e sz v n xs) (ho : Off F v) : w'.ownsRow B e sz v n xs := by
  refine ⟨h.1, ?_⟩
  rcases h.2 with h0 | ⟨g, cap, cur, rfl, hB, hrow, rest⟩
  · exact .inl h0
  · exact .inr ⟨g, cap, cur, rfl, hB, by rw [st.block g (Array.getElem?_eq_some_iff.1 hrow).1 (ho g rfl)]; exact hrow, rest⟩

theorem Step.refl (F : Nat → Prop) (w : World) : Step F F w w := ⟨rfl, rfl, rfl, Nat.le_refl _, fun _ _ _ => rfl, fun _ h => .inl h⟩

theorem Step.trans {F F' F'' : Nat → Prop} {w w' w'' : World} (h : Step F F' w w') (k : Step F' F'' w' w'') : Step F F'' w w'' :=
  ⟨k.os.trans h.os, k.tape.trans h.tape, k.output.trans h.output, Nat.le_trans h.size k.size, fun i hi hf => by
    rw [k.block i (Nat.lt_of_lt_of_le hi h.size) (fun c => by
      rcases h.foot i c with c | c
      · exact hf c
      · omega)]
    exact h.block i hi hf, fun i hi => by
    rcases k.foot i hi with c | c
    · exact h.foot i c
    · exact .inr (Nat.le_trans h.size c)⟩

theorem Step.after {F F' : Nat → Prop} {w w' w'' : World} (b : Below w.heap.size w w') (k : Step F F' w' w'') : Step F F' w w'' :=
  (Step.of_below b).trans k

end Go.Proofs.Ytokjlmkegdickaa
