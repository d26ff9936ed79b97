/-
  Steps of a disk that came in: what Light and run answer over them.
-/
import Derived.Test.YtpgiknejgolllaaDB
import Derived.Test.YtpgiknejgolllaaBSR
import Derived.Test.YtpgiknejgolllaaBB
import Derived.Deep.RegionHeld3
namespace Go.Proofs.Ytpgiknejgolllaa
open Go.RowKit Go.Lib

/-- A step, as its cells; ks: what its list holds. -/
structure OpL where
  k : Int
  at_ : Int
  n : Int
  t : ByteArray
  a : Option Addr
  cap : Nat
  ks : List Int

def OpL.cells (o : OpL) : List Value := [.int .i64 o.k, .int .i64 o.at_, .int .i64 o.n, .string o.t, .slice o.a o.ks.length o.cap]

theorem OpL.len (o : OpL) : o.cells.length = 5 := rfl

/-- The steps that the slice v holds. -/
def OpsRow (w : World) (v : Value) (l : List OpL) : Prop :=
  CellRow w v l.length (flat OpL.cells l) ∧ ∀ o ∈ l, CellRow w (.slice o.a o.ks.length o.cap) o.ks.length (o.ks.map (Value.int .i64)) ∧ o.t.size ≤ maxLen

theorem OpsRow.kept {w w' : World} {v : Value} {l : List OpL} (h : OpsRow w v l) (b : Below w.heap.size w w') : OpsRow w' v l :=
  ⟨h.1.kept b, fun o ho => ⟨(h.2 o ho).1.kept b, (h.2 o ho).2⟩⟩

theorem op_at {w : World} {a : Option Addr} {n c : Nat} {l : List OpL} (h : CellRow w (.slice a n c) n (flat OpL.cells l)) (j : Nat) (x : OpL) (hx : l[j]? = some x) : ∃ b o, a = some ⟨b, o, none⟩ ∧ b < w.heap.size ∧
    w.cell? ⟨b, o + j * 5, none⟩ = some (.int .i64 x.k) ∧ w.cell? ⟨b, o + j * 5 + 1, none⟩ = some (.int .i64 x.at_) ∧ w.cell? ⟨b, o + j * 5 + 2, none⟩ = some (.int .i64 x.n) ∧ w.cell? ⟨b, o + j * 5 + 3, none⟩ = some (.string x.t) ∧ w.cell? ⟨b, o + j * 5 + 4, none⟩ = some (.slice x.a x.ks.length x.cap) := by
  obtain ⟨a', c', hv, h⟩ := h
  simp only [Value.slice.injEq] at hv
  obtain ⟨rfl, _, rfl⟩ := hv
  have hj := (List.getElem?_eq_some_iff.1 hx).1
  rcases h with h | ⟨b, o, ha, hl, hc⟩
  · have := flat_length OpL.len l
    rw [h, List.length_nil] at this
    omega
  · refine ⟨b, o, ha, hl, ?_, ?_, ?_, ?_, ?_⟩
    · exact hc (j * 5 + 0) _ ((flat_at OpL.len l j x hx 0 (by decide)).trans rfl)
    · exact hc (j * 5 + 1) _ ((flat_at OpL.len l j x hx 1 (by decide)).trans rfl)
    · exact hc (j * 5 + 2) _ ((flat_at OpL.len l j x hx 2 (by decide)).trans rfl)
    · exact hc (j * 5 + 3) _ ((flat_at OpL.len l j x hx 3 (by decide)).trans rfl)
    · exact hc (j * 5 + 4) _ ((flat_at OpL.len l j x hx 4 (by decide)).trans rfl)

theorem op_leaves : leaves Try.prog 2 69 = some [3, 3, 3, 9, 23] := by kernel_rfl
theorem op_size : Try.prog.cellsOf 69 = 5 := by kernel_rfl

theorem ops_of_trod {H : Type} {enc : TypeId × Value → H} {W : World} {sp : Nat → Bool} {a : Option Addr} {len cap : Nat} {d : DataW H} {ps : List MemPlace} (h : DataW.Trod enc Try.prog W 0 sp true 48 (.slice a len cap) d ps) :
    ∃ l : List OpL, l.length = len ∧ OpsRow W (.slice a len cap) l := by
  obtain ⟨l, h1, h2, h3⟩ := rows_of_trod Try.underlying48 op_size (by decide) OpL.len (fun o : OpL => CellRow W (.slice o.a o.ks.length o.cap) o.ks.length (o.ks.map (Value.int .i64)) ∧ o.t.size ≤ maxLen) ⟨0, 0, 0, ⟨#[]⟩, none, 0, []⟩ (fun fuel cs x hl hx => by
    have hF := leaf_at 2 _ _ cs fuel x op_leaves (by rw [op_size]; omega) hx
    obtain ⟨n0, c0, _⟩ := leaf_int Try.underlying3 (hF 0 _ rfl)
    obtain ⟨n1, c1, _⟩ := leaf_int Try.underlying3 (hF 1 _ rfl)
    obtain ⟨n2, c2, _⟩ := leaf_int Try.underlying3 (hF 2 _ rfl)
    obtain ⟨n3, c3, w3⟩ := leaf_string Try.underlying9 (hF 3 _ rfl)
    obtain ⟨a4, l4, k4, d4, p4, c4, t4⟩ := leaf_slice Try.underlying23 (hF 4 _ rfl)
    obtain ⟨ks, e4, r4, _⟩ := ints_of_trod t4
    refine ⟨⟨n0, n1, n2, n3, a4, k4, ks⟩, ?_, ?_, w3⟩
    · match cs, hl with
      | [x0, x1, x2, x3, x4], _ =>
        simp at c0 c1 c2 c3 c4
        subst c0 c1 c2 c3 c4
        unfold OpL.cells
        simp only
        rw [e4]
    · have := NumRow.cells' r4
      simp only
      rw [e4] at this ⊢
      exact this) h
  exact ⟨l, h1, by rw [h1]; exact h2, h3⟩

end Go.Proofs.Ytpgiknejgolllaa
