/-
  A bundle of texts: AGV.
-/
import Derived.Laws.StructEq
import Derived.Test.YtokjlmkegdickaaQ04
import Derived.Test.YtokjlmkegdickaaQ01
/-
  What function Valid of package agg, and the document's own, answer; '==' of two aggregates.
-/
namespace Go.Proofs.Ytokjlmkegdickaa
open Go.RowKit Go.Lib

theorem agOk_parts (a : Ag) {x y z : Bool} (h1 : decide (1 ≤ a.c) = x) (h2 : decide (a.c ≤ 4611686018427387904) = y) (h3 : decide (a.mn ≤ a.mx) = z) : agOk a = (x && y && z) := by
  unfold agOk; rw [h1, h2, h3]

set_option maxHeartbeats 400000 in
theorem aggValid_any (a : Ag) (w : World) : Calls Try.prog 55 #[agv a] w fun e w' => e = .returned (.bool (agOk a)) ∧ Below w.heap.size w w' := by
  obtain ⟨x, h1⟩ : ∃ x, decide (1 ≤ a.c) = x := ⟨_, rfl⟩
  obtain ⟨y, h2⟩ : ∃ y, decide (a.c ≤ 4611686018427387904) = y := ⟨_, rfl⟩
  obtain ⟨z, h3⟩ : ∃ z, decide (a.mn ≤ a.mx) = z := ⟨_, rfl⟩
  rw [agOk_parts a h1 h2 h3]
  obtain ⟨c, hi, lo, mn, mx⟩ := a
  simp only at h1 h2 h3
  cases x <;> cases y <;> cases z
  all_goals
    go_enter Try.func55, Try.ntmps55
    go_wp2
    go_ret
    exact ⟨rfl, (Below.refl _ _).alloc (Nat.le_refl _) _⟩

set_option maxHeartbeats 400000 in
theorem refValid_any (a : Ag) (w : World) : Calls Try.prog 48 #[agv a] w fun e w' => e = .returned (.bool (agOk a)) ∧ Below w.heap.size w w' := by
  obtain ⟨x, h1⟩ : ∃ x, decide (1 ≤ a.c) = x := ⟨_, rfl⟩
  obtain ⟨y, h2⟩ : ∃ y, decide (a.c ≤ 4611686018427387904) = y := ⟨_, rfl⟩
  obtain ⟨z, h3⟩ : ∃ z, decide (a.mn ≤ a.mx) = z := ⟨_, rfl⟩
  rw [agOk_parts a h1 h2 h3]
  obtain ⟨c, hi, lo, mn, mx⟩ := a
  simp only at h1 h2 h3
  cases x <;> cases y <;> cases z
  all_goals
    go_enter Try.func48, Try.ntmps48
    go_wp2
    go_ret
    exact ⟨rfl, (Below.refl _ _).alloc (Nat.le_refl _) _⟩

/-- Alike. -/
def agSame (a b : Ag) : Bool := a.c == b.c && (a.hi == b.hi && (a.lo == b.lo && (a.mn == b.mn && a.mx == b.mx)))

theorem agSame_self (a : Ag) : agSame a a = true := by simp [agSame]

theorem agSame_iff (a b : Ag) : agSame a b = true ↔ a = b := by
  constructor
  · intro h
    simp only [agSame, Bool.and_eq_true, beq_iff_eq] at h
    exact Ag.same h.1 h.2.1 h.2.2.1 h.2.2.2.1 h.2.2.2.2
  · rintro rfl; exact agSame_self a

theorem ag_equal (a b : Ag) (w : World) : (Op.equalIn 10000 24 (agv a) (agv b)).run Try.prog w = .ok (agSame a b) w := by
  unfold agv
  go_simp
  by_cases h1 : a.c = b.c <;> by_cases h2 : a.hi = b.hi <;> by_cases h3 : a.lo = b.lo <;> by_cases h4 : a.mn = b.mn <;> by_cases h5 : a.mx = b.mx <;> simp [agSame, *]

end Go.Proofs.Ytokjlmkegdickaa
