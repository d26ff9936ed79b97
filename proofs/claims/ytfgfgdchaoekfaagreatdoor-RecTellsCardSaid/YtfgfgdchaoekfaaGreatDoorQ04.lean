/-
  A bundle of texts: AGV.
-/
import Derived.Laws.StructEq
import Derived.Test.YtfgfgdchaoekfaaGreatDoorQ02
import Derived.Test.YtfgfgdchaoekfaaGreatDoorQ01
namespace Go.Proofs.YtfgfgdchaoekfaaGreatDoor
open Go.RowKit Go.Lib

theorem agOk_parts (a : Ag) {x y z : Bool} (h1 : decide (1 ≤ a.c) = x) (h2 : decide (a.c ≤ 4611686018427387904) = y) (h3 : decide (a.mn ≤ a.mx) = z) : agOk a = (x && y && z) := by
  unfold agOk; rw [h1, h2, h3]

set_option maxHeartbeats 400000 in
theorem aggValid_any (a : Ag) (w : World) : Calls Tryz.prog 42 #[agv a] w fun e w' => e = .returned (.bool (agOk a)) ∧ Below w.heap.size w w' := by
  obtain ⟨x, h1⟩ : ∃ x, decide (1 ≤ a.c) = x := ⟨_, rfl⟩
  obtain ⟨y, h2⟩ : ∃ y, decide (a.c ≤ 4611686018427387904) = y := ⟨_, rfl⟩
  obtain ⟨z, h3⟩ : ∃ z, decide (a.mn ≤ a.mx) = z := ⟨_, rfl⟩
  rw [agOk_parts a h1 h2 h3]
  obtain ⟨c, hi, lo, mn, mx⟩ := a
  simp only at h1 h2 h3
  cases x <;> cases y <;> cases z
  all_goals
    go_enter Tryz.func42, Tryz.ntmps42
    go_wp2
    go_ret
    exact ⟨rfl, (Below.refl _ _).alloc (Nat.le_refl _) _⟩

set_option maxHeartbeats 400000 in
theorem refValid_any (a : Ag) (w : World) : Calls Tryz.prog 44 #[agv a] w fun e w' => e = .returned (.bool (agOk a)) ∧ Below w.heap.size w w' := by
  obtain ⟨x, h1⟩ : ∃ x, decide (1 ≤ a.c) = x := ⟨_, rfl⟩
  obtain ⟨y, h2⟩ : ∃ y, decide (a.c ≤ 4611686018427387904) = y := ⟨_, rfl⟩
  obtain ⟨z, h3⟩ : ∃ z, decide (a.mn ≤ a.mx) = z := ⟨_, rfl⟩
  rw [agOk_parts a h1 h2 h3]
  obtain ⟨c, hi, lo, mn, mx⟩ := a
  simp only at h1 h2 h3
  cases x <;> cases y <;> cases z
  all_goals
    go_enter Tryz.func44, Tryz.ntmps44
    go_wp2
    go_ret
    exact ⟨rfl, (Below.refl _ _).alloc (Nat.le_refl _) _⟩

end Go.Proofs.YtfgfgdchaoekfaaGreatDoor
