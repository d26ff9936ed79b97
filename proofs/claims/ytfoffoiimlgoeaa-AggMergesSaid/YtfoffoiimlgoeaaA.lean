/-
  What the small functions of package pack do: isSmall, stopped, stop, pass.
-/
import Derived.Test.YtfoffoiimlgoeaaBA
namespace Go.Proofs.Ytfoffoiimlgoeaa
open Go.RowKit

set_option maxHeartbeats 400000 in
theorem stopped_no (p : Nat) (w : World) (h : w.cell? ⟨p, 1, none⟩ = some (.int .i64 0)) :
    Calls Try.prog 47 #[.pointer (some ⟨p, 0, none⟩)] w fun e w' => e = .returned (.bool false) ∧ w = w' := by
  go_enter Try.func47, Try.ntmps47
  go_wp2
  go_ret
  exact ⟨rfl, rfl⟩

set_option maxHeartbeats 400000 in
theorem stopped_yes (p : Nat) (bad : Int) (hb : (bad != 0) = true) (w : World) (h : w.cell? ⟨p, 1, none⟩ = some (.int .i64 bad)) :
    Calls Try.prog 47 #[.pointer (some ⟨p, 0, none⟩)] w fun e w' => e = .returned (.bool true) ∧ w = w' := by
  go_enter Try.func47, Try.ntmps47
  go_wp2
  go_ret
  exact ⟨rfl, rfl⟩

set_option maxHeartbeats 400000 in
theorem stop_no (p : Nat) (e0 : Int) (w : World) (h : w.cell? ⟨p, 1, none⟩ = some (.int .i64 0)) (hf : w.frozen? ⟨p, 1, none⟩ = false) :
    Calls Try.prog 54 #[.pointer (some ⟨p, 0, none⟩), .int .i64 e0] w fun e w' => e = .returned (.tuple #[]) ∧ Stored p 1 (.int .i64 e0) w w' := by
  go_enter Try.func54, Try.ntmps54
  go_wp2_with (go_at_call 47; refine (stopped_no p _ h).mono ?_; rintro e w' ⟨rfl, rfl⟩)
  go_end0
  exact ⟨rfl, rfl⟩

set_option maxHeartbeats 400000 in
theorem stop_yes (p : Nat) (e0 bad : Int) (hb : (bad != 0) = true) (w : World) (h : w.cell? ⟨p, 1, none⟩ = some (.int .i64 bad)) :
    Calls Try.prog 54 #[.pointer (some ⟨p, 0, none⟩), .int .i64 e0] w fun e w' => e = .returned (.tuple #[]) ∧ w = w' := by
  go_enter Try.func54, Try.ntmps54
  go_wp2_with (go_at_call 47; refine (stopped_yes p bad hb _ h).mono ?_; rintro e w' ⟨rfl, rfl⟩)
  go_end0
  exact ⟨rfl, rfl⟩

set_option maxHeartbeats 400000 in
theorem pass_any (p : Nat) (n k : Int) (w : World) (h : w.cell? ⟨p, 0, none⟩ = some (.int .i64 n)) (hf : w.frozen? ⟨p, 0, none⟩ = false)
    (h0 : 0 ≤ n) (h1 : 0 ≤ k) (h2 : n + k ≤ 4611686018427387904) :
    Calls Try.prog 53 #[.pointer (some ⟨p, 0, none⟩), .int .i64 k] w fun e w' => e = .returned (.tuple #[]) ∧ Stored p 0 (.int .i64 (n + k)) w w' := by
  go_enter Try.func53, Try.ntmps53
  go_wp2
  go_end0
  exact ⟨rfl, rfl⟩

end Go.Proofs.Ytfoffoiimlgoeaa
