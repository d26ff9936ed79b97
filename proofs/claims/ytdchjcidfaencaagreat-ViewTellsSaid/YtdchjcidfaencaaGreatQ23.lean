/-
  A bundle of texts: TAL TDR TFI.
-/
import Derived.Deep.RegionHeld3
import Derived.Deep.QuietTactic
import Derived.BigQuiet
import Derived.Deep.DeepCutAuto
import Derived.Test.YtdchjcidfaencaaGreatQ21
import Derived.Test.YtdchjcidfaencaaGreatQ12
namespace Go.Proofs.YtdchjcidfaencaaGreat
open Go.RowKit Go.Lib

def ta (s : Int) (a : Ag) : TRec := ⟨⟨#[97]⟩, s, a⟩
def g1 : Ag := ⟨1, 0, 1, 1, 1⟩
def g3 : Ag := ⟨1, 0, 3, 3, 3⟩
theorem ints_1 (x : Int) (h : -9223372036854775808 ≤ x ∧ x ≤ 9223372036854775807) : Ints [x] := fun y hy => by rw [List.mem_singleton.1 hy]; exact h

theorem num_1 (w : World) (x : Int) (T : TypeId) : NumRow .i64 (w.alloc (.cells #[.int .i64 x] T)) (.slice (some ⟨w.heap.size, 0, none⟩) 1 1) [x] :=
  CellRow.ints (xs := [x]) ⟨_, _, rfl, .inr ⟨w.heap.size, 0, rfl, by simp, new_cells w #[.int .i64 x] T⟩⟩

end Go.Proofs.YtdchjcidfaencaaGreat

namespace Go.Proofs.YtdchjcidfaencaaGreat
open Go.RowKit Go.Lib

theorem tIns_len (l : List TRec) (r : TRec) : (tIns l r).length ≤ l.length + 1 := by
  induction l with
  | nil => simp [tIns]
  | cons x l ih =>
    unfold tIns
    split
    · simp only [List.length_cons]; omega
    · split
      · simp only [List.length_cons]; omega
      · simp only [List.length_cons]; omega

theorem tAdds_len (e : Int) (l rs : List TRec) : (tAdds e l rs).length ≤ l.length + rs.length := by
  induction rs generalizing l with
  | nil => exact Nat.le_refl _
  | cons r rs ih =>
    have h1 := ih (tAdd e l r)
    have h2 : (tAdd e l r).length ≤ l.length + 1 := by
      unfold tAdd
      split
      · exact tIns_len l r
      · omega
    have h3 : tAdds e l (r :: rs) = tAdds e (tAdd e l r) rs := rfl
    rw [h3, List.length_cons]
    omega

end Go.Proofs.YtdchjcidfaencaaGreat

namespace Go.Proofs.YtdchjcidfaencaaGreat
open Go.RowKit Go.Lib

theorem tAdds_s {Q : Int → Prop} {e : Int} {l rs : List TRec} (hl : ∀ x ∈ l, Q x.s) (hr : ∀ x ∈ rs, Q x.s) : ∀ x ∈ tAdds e l rs, Q x.s := by
  induction rs generalizing l with
  | nil => exact hl
  | cons r rs ih =>
    refine ih (l := tAdd e l r) ?_ (fun x hx => hr x (List.mem_cons_of_mem _ hx))
    unfold tAdd
    split
    · intro y hy
      rcases tIns_key hy with c | ⟨z, hz, c⟩
      · simp only [TRec.k, Prod.mk.injEq] at c
        rw [c.2]
        exact hr r (List.mem_cons_self ..)
      · simp only [TRec.k, Prod.mk.injEq] at c
        rw [c.2]
        exact hl z hz
    · exact hl

/-- What is known of a table that was made by adding. -/
structure TMade (L : List TRec) (e : Int) : Prop where
  so : TSorted L
  al : TAll L
  ok : ∀ x ∈ L, tOk e x = true
  s64 : ∀ x ∈ L, TIn64 x.s

theorem TMade.name {L : List TRec} {e : Int} (h : TMade L e) {x : TRec} (hx : x ∈ L) : nOk x.n = true ∧ x.n.size ≤ 15 := by
  have h1 := h.ok x hx
  unfold tOk at h1
  simp only [Bool.and_eq_true, decide_eq_true_eq] at h1
  refine ⟨h1.1.1.1, ?_⟩
  have h2 := h1.1.1.1
  unfold nOk at h2
  simp only [Bool.and_eq_true, decide_eq_true_eq] at h2
  exact h2.1.2

theorem TMade.none {L : List TRec} {e : Int} (h : TMade L e) {n : ByteArray} (hn : nOk n = false) (s : Int) : tHas L (n, s) = false := by
  unfold tHas
  rw [List.any_eq_false]
  intro x hx
  simp only [decide_eq_true_eq]
  intro c
  have h1 := (h.name hx).1
  simp only [TRec.k, Prod.mk.injEq] at c
  rw [c.1, hn] at h1
  cases h1

end Go.Proofs.YtdchjcidfaencaaGreat
