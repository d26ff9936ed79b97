/-
  What function lay of package crc answers: the four bytes of a sum; and what the document's own functions Sum and four answer.
-/
import Derived.Test.YtiiaajejlckklaaCP
namespace Go.Proofs.Ytiiaajejlckklaa
open Go.RowKit Go.Lib

/-- The row behind j rounds. -/
def layRow (x : Nat) : Nat → Array Value
  | 0 => #[.int .u8 0, .int .u8 0, .int .u8 0, .int .u8 0]
  | 1 => #[.int .u8 ((x : Int) % 256), .int .u8 0, .int .u8 0, .int .u8 0]
  | 2 => #[.int .u8 ((x : Int) % 256), .int .u8 ((x : Int) / 256 % 256), .int .u8 0, .int .u8 0]
  | 3 => #[.int .u8 ((x : Int) % 256), .int .u8 ((x : Int) / 256 % 256), .int .u8 ((x : Int) / 65536 % 256), .int .u8 0]
  | _ => #[.int .u8 ((x : Int) % 256), .int .u8 ((x : Int) / 256 % 256), .int .u8 ((x : Int) / 65536 % 256), .int .u8 ((x : Int) / 16777216)]

/-- Four bytes that stand in a new row are the text four x. -/
theorem conv_fourRow (x : Nat) (hx : x < 4294967296) (w : World) (t : TypeId) :
    (convert 40 9 (.slice (some ⟨w.heap.size, 0, none⟩) 4 4)).run Try.prog (w.alloc (.cells #[.int .u8 ((x : Int) % 256), .int .u8 ((x : Int) / 256 % 256), .int .u8 ((x : Int) / 65536 % 256), .int .u8 ((x : Int) / 16777216)] t)) =
      .ok (.string ⟨(four x).toArray⟩) (w.alloc (.cells #[.int .u8 ((x : Int) % 256), .int .u8 ((x : Int) / 256 % 256), .int .u8 ((x : Int) / 65536 % 256), .int .u8 ((x : Int) / 16777216)] t)) := by
  refine run_convert_bytes_back (P := Try.prog) _ 40 9 5 ⟨w.heap.size, 0, none⟩ 4 (four x) Try.underlying40 Try.underlying5 Try.underlying9 (fun j hj => ?_)
  have ea : (⟨w.heap.size, 0, none⟩ : Addr).add j = ⟨w.heap.size, j, none⟩ := by unfold Addr.add; split <;> simp_all
  rw [ea, World.cell?_alloc_new]
  match j, hj with
  | 0, _ => simp [four]
  | 1, _ => simp [four]
  | 2, _ => simp [four]
  | 3, _ => simp [four]; omega
  | j + 4, hj => simp [four] at hj; omega

set_option maxHeartbeats 400000 in
theorem lay_any (x : Nat) (hx : x < 4294967296) (w : World) :
    Calls Try.prog 21 #[.int .u32 x] w fun e w' => e = .returned (.string ⟨(four x).toArray⟩) ∧ Below w.heap.size w w' := by
  have hcv := conv_fourRow x hx w 49
  go_enter Try.func21, Try.ntmps21
  go_wp2
  go_loopw [4, 5] (fun _ i wr => ∃ j : Nat, j ≤ 4 ∧ i = .int .i64 j ∧ wr = w.alloc (.cells (layRow x j) 49)) (fun _ i _ => 4 - (intOf i).toNat)
  case atStart => exact ⟨0, by omega, rfl, rfl⟩
  case round =>
    obtain ⟨j, hj, rfl, rfl⟩ := hrel
    have hc : j = 0 ∨ j = 1 ∨ j = 2 ∨ j = 3 ∨ j = 4 := by omega
    rcases hc with rfl | rfl | rfl | rfl | rfl
    · simp only [layRow]
      go_wp2
      exact ⟨⟨1, by omega, rfl, rfl⟩, by decide⟩
    · simp only [layRow]
      go_wp2
      exact ⟨⟨2, by omega, rfl, rfl⟩, by decide⟩
    · simp only [layRow]
      go_wp2
      exact ⟨⟨3, by omega, rfl, rfl⟩, by decide⟩
    · simp only [layRow]
      go_wp2
      exact ⟨⟨4, by omega, rfl, rfl⟩, by decide⟩
    · simp only [layRow]
      go_wp2
      go_ret
      exact ⟨rfl, (Below.refl _ _).alloc (Nat.le_refl _) _⟩

set_option maxHeartbeats 400000 in
theorem four_any (x : Nat) (hx : x < 4294967296) (w : World) :
    Calls Try.prog 23 #[.int .u32 x] w fun e w' => e = .returned (.string ⟨(four x).toArray⟩) ∧ Below w.heap.size w w' := by
  have hcv := conv_fourRow x hx w 5
  go_enter Try.func23, Try.ntmps23
  go_wp2
  go_ret
  exact ⟨rfl, (Below.refl _ _).alloc (Nat.le_refl _) _⟩

end Go.Proofs.Ytiiaajejlckklaa
