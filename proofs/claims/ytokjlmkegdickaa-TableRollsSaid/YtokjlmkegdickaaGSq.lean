/-
  What functions count and Starts of package grid answer.
-/
import Derived.Test.YtokjlmkegdickaaQ10
import Derived.Test.YtokjlmkegdickaaQ05
namespace Go.Proofs.Ytokjlmkegdickaa
open Go.RowKit Go.Lib

/-- How many multiples of e there are from first on, below to. -/
def gCount (from_ first to e : Int) : Int := if first < from_ ∨ to ≤ first then 0 else (to - 1 - first) / e + 1

theorem gCount_nonneg {from_ first to e : Int} (he : 1 ≤ e) : 0 ≤ gCount from_ first to e := by
  unfold gCount
  split
  · exact Int.le_refl _
  · have := Int.ediv_nonneg (show 0 ≤ to - 1 - first by omega) (show 0 ≤ e by omega)
    omega

theorem count_wraps {first to e : Int} (f0 : -9223372036854775808 ≤ first) (t9 : to ≤ 9223372036854775807) (h : first < to) (h1 : 1 ≤ e) :
    IntKind.u64.wrap (IntKind.u64.wrap ((IntKind.u64.wrap (IntKind.u64.wrap (to - 1) - IntKind.u64.wrap first)).tdiv e) + 1) = (to - 1 - first) / e + 1 := by
  have a : IntKind.u64.wrap (IntKind.u64.wrap (to - 1) - IntKind.u64.wrap first) = to - 1 - first := by
    rw [IntKind.wrap_u64, IntKind.wrap_u64, IntKind.wrap_u64]
    omega
  rw [a, Int.tdiv_eq_ediv_of_nonneg (by omega)]
  have q0 := Int.ediv_nonneg (show 0 ≤ to - 1 - first by omega) (show 0 ≤ e by omega)
  have q1 : (to - 1 - first) / e ≤ to - 1 - first := Int.ediv_le_self _ (by omega)
  rw [IntKind.wrap_u64, IntKind.wrap_u64]
  omega

/-- The multiples of e from first on, n of them. -/
def gRow (first e : Int) (n : Nat) : List Int := (List.range n).map fun i : Nat => first + (i : Int) * e

theorem gRow_length (first e : Int) (n : Nat) : (gRow first e n).length = n := by simp [gRow]

theorem gRow_succ (first e : Int) (n : Nat) : gRow first e (n + 1) = gRow first e n ++ [first + (n : Int) * e] := by
  simp [gRow, List.range_succ]

/-- A row of n numbers, of which the first j are multiples of e from f on, and the others 0. -/
def gPart (f e : Int) (j n : Nat) : List Value := (gRow f e j).map (Value.int .i64) ++ List.replicate (n - j) (.int .i64 0)

theorem gPart_set (f e : Int) (j n : Nat) (h : j < n) : (gPart f e j n).set j (.int .i64 (f + (j : Int) * e)) = gPart f e (j + 1) n := by
  unfold gPart
  rw [gRow_succ, List.map_append, List.append_assoc, List.set_append_right _ _ (by simp [gRow_length])]
  have : n - j = (n - (j + 1)) + 1 := by omega
  rw [this, List.replicate_succ]
  simp [gRow_length]

theorem gPart_end (f e : Int) (n : Nat) : gPart f e n n = (gRow f e n).map (Value.int .i64) := by simp [gPart]

theorem made_ints (n : Nat) : (madeCells (Value.int .i64 0).cells (n * 1)).toList = List.replicate n (.int .i64 0) := by
  rw [Nat.mul_one]
  exact toList_madeCells_one _ n

theorem make_ints {ops : Array Oper} {rest : List Oper} {o : Oper} {a : Act} {Q : Exit → Act → World → Prop} (w : World) (hgd : o.guard = none) (l c : Operand) (hop : o.op = Op.makeSlice 53 l c)
    (B : Nat) (k : IntKind) (L : Int) (n : Nat) (hl : a.eval l = .int k L) (hc : a.eval c = .int k L) (hL : L = (n : Int)) (hn : n ≤ 1000000) (hB : B ≤ w.heap.size)
    (h : ∀ w', w'.ownsRow B 3 1 (.slice (some ⟨w.heap.size, 0, none⟩) n n) n (List.replicate n (.int .i64 0)) → w.grownBy w' none → wpList Try.prog ops Q rest (a.put o.dst (.slice (some ⟨w.heap.size, 0, none⟩) n n)) w') :
    wpList Try.prog ops Q (o :: rest) a w := by
  obtain ⟨i0, hi, hz0, hz1, hz2⟩ := info_parts (show (Try.prog.info? 3).map (fun i => (i.zero, i.size, i.bytes)) = some (some (.int .i64 0), 1, 8) by kernel_rfl)
  refine wpList_make_full w hgd l c 53 hop B 3 i0 (.int .i64 0) 1 Try.underlying53 hi hz0 hz1 k k L L n hl hc hL hL (by rw [hz2]; omega) (by unfold maxLen; omega) hB ?_
  intro w' h1 h2
  rw [made_ints] at h1
  exact h w' h1 h2

theorem count_in {a f b e : Int} {n j : Nat} (he : 1 ≤ e) (hn : gCount a f b e = (n : Int)) (hj : j < n) : 0 ≤ (j : Int) * e ∧ f + (j : Int) * e ≤ b - 1 ∧ a ≤ f := by
  unfold gCount at hn
  have h0 : 0 ≤ (j : Int) * e := Int.mul_nonneg (by omega) (by omega)
  split at hn
  · omega
  · have h1 : (j : Int) ≤ (b - 1 - f) / e := by omega
    have h2 := Int.mul_le_mul_of_nonneg_right h1 (show 0 ≤ e by omega)
    have h3 := Int.mul_ediv_add_emod (b - 1 - f) e
    have h4 := Int.emod_nonneg (b - 1 - f) (show e ≠ 0 by omega)
    rw [Int.mul_comm ((b - 1 - f) / e)] at h2
    omega

theorem count_value {a f b e : Int} {n j : Nat} (he : 1 ≤ e) (hn : gCount a f b e = (n : Int)) (hj : j < n) (hf : I64 f) (hb : I64 b) : wrap64 (f + wrap64 ((j : Int) * e)) = f + (j : Int) * e := by
  obtain ⟨h0, h1, _⟩ := count_in he hn hj
  unfold I64 at *
  unfold wrap64
  omega

end Go.Proofs.Ytokjlmkegdickaa
