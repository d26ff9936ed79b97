/-
  What the small functions of package pack do: isSmall, stopped, stop, pass.
-/
import Derived.Test.YtdlljjbooajgiaaDoorRows
import Derived.WalkKit
import Derived.WalkSpells
import Derived.WalkLawsBesides
namespace Go.Proofs.YtdlljjbooajgiaaDoor
open Go.RowKit

/-- A block of cells of the struct type t that nobody has frozen. -/
def Blk (w : World) (b : Nat) (t : TypeId) (xs : List Value) : Prop := w.heap[b]? = some (.cells xs.toArray t (0, 0))

theorem Blk.cell {w : World} {b : Nat} {t : TypeId} {xs : List Value} (h : Blk w b t xs) (i : Nat) (v : Value) (hv : xs[i]? = some v) : w.cell? ⟨b, i, none⟩ = some v := by
  rw [cell_of_row w b i xs.toArray t (0, 0) h]; simpa using hv

/-- w' is w, but for the cell i of block p, which holds x now. -/
def Stored (p i : Nat) (x : Value) (w w' : World) : Prop := w.setCell ⟨p, i, none⟩ x = w'

theorem Stored.row {p i : Nat} {x : Value} {w w' : World} (s : Stored p i x w w') {cs : Array Value} {t : TypeId} (h : w.heap[p]? = some (.cells cs t (0, 0))) : w'.heap[p]? = some (.cells (cs.setIfInBounds i x) t (0, 0)) := by
  unfold Stored at s; subst s
  exact Go.heap_setCell_same w p i cs t x h

theorem Stored.grown {p i : Nat} {x : Value} {w w' : World} (s : Stored p i x w w') : w.grownBy w' (some p) := by
  unfold Stored at s; subst s
  exact ⟨rfl, rfl, rfl, by simp [World.setCell], fun k _ hr => Below.heap_setCell _ _ _ _ (by simpa using hr)⟩

set_option maxHeartbeats 400000 in
theorem isSmall_yes (n : Int) (h1 : 1 ≤ n) (h2 : n ≤ 7) (w : World) :
    Calls Tryd.prog 38 #[.int .i64 n] w fun e w' => e = .returned (.bool true) ∧ w = w' := by
  go_enter Tryd.func38, Tryd.ntmps38
  go_wp2
  go_ret
  exact ⟨rfl, rfl⟩

set_option maxHeartbeats 400000 in
theorem isSmall_no (n : Int) (h : ¬ (1 ≤ n ∧ n ≤ 7)) (w : World) :
    Calls Tryd.prog 38 #[.int .i64 n] w fun e w' => e = .returned (.bool false) ∧ w = w' := by
  by_cases h1 : 1 ≤ n
  · have h2 : ¬ n ≤ 7 := by omega
    clear h
    go_enter Tryd.func38, Tryd.ntmps38
    go_wp2
    go_ret
    exact ⟨rfl, rfl⟩
  · clear h
    go_enter Tryd.func38, Tryd.ntmps38
    go_wp2
    go_ret
    exact ⟨rfl, rfl⟩

set_option maxHeartbeats 400000 in
theorem stopped_no (p : Nat) (w : World) (h : w.cell? ⟨p, 1, none⟩ = some (.int .i64 0)) :
    Calls Tryd.prog 39 #[.pointer (some ⟨p, 0, none⟩)] w fun e w' => e = .returned (.bool false) ∧ w = w' := by
  go_enter Tryd.func39, Tryd.ntmps39
  go_wp2
  go_ret
  exact ⟨rfl, rfl⟩

set_option maxHeartbeats 400000 in
theorem stopped_yes (p : Nat) (bad : Int) (hb : (bad != 0) = true) (w : World) (h : w.cell? ⟨p, 1, none⟩ = some (.int .i64 bad)) :
    Calls Tryd.prog 39 #[.pointer (some ⟨p, 0, none⟩)] w fun e w' => e = .returned (.bool true) ∧ w = w' := by
  go_enter Tryd.func39, Tryd.ntmps39
  go_wp2
  go_ret
  exact ⟨rfl, rfl⟩

set_option maxHeartbeats 400000 in
theorem stop_no (p : Nat) (e0 : Int) (w : World) (h : w.cell? ⟨p, 1, none⟩ = some (.int .i64 0)) (hf : w.frozen? ⟨p, 1, none⟩ = false) :
    Calls Tryd.prog 40 #[.pointer (some ⟨p, 0, none⟩), .int .i64 e0] w fun e w' => e = .returned (.tuple #[]) ∧ Stored p 1 (.int .i64 e0) w w' := by
  go_enter Tryd.func40, Tryd.ntmps40
  go_wp2_with (go_at_call 39; refine (stopped_no p _ h).mono ?_; rintro e w' ⟨rfl, rfl⟩)
  go_end0
  exact ⟨rfl, rfl⟩

set_option maxHeartbeats 400000 in
theorem stop_yes (p : Nat) (e0 bad : Int) (hb : (bad != 0) = true) (w : World) (h : w.cell? ⟨p, 1, none⟩ = some (.int .i64 bad)) :
    Calls Tryd.prog 40 #[.pointer (some ⟨p, 0, none⟩), .int .i64 e0] w fun e w' => e = .returned (.tuple #[]) ∧ w = w' := by
  go_enter Tryd.func40, Tryd.ntmps40
  go_wp2_with (go_at_call 39; refine (stopped_yes p bad hb _ h).mono ?_; rintro e w' ⟨rfl, rfl⟩)
  go_end0
  exact ⟨rfl, rfl⟩

set_option maxHeartbeats 400000 in
theorem pass_any (p : Nat) (n k : Int) (w : World) (h : w.cell? ⟨p, 0, none⟩ = some (.int .i64 n)) (hf : w.frozen? ⟨p, 0, none⟩ = false)
    (h0 : 0 ≤ n) (h1 : 0 ≤ k) (h2 : n + k ≤ 4611686018427387904) :
    Calls Tryd.prog 45 #[.pointer (some ⟨p, 0, none⟩), .int .i64 k] w fun e w' => e = .returned (.tuple #[]) ∧ Stored p 0 (.int .i64 (n + k)) w w' := by
  go_enter Tryd.func45, Tryd.ntmps45
  go_wp2
  go_end0
  exact ⟨rfl, rfl⟩

end Go.Proofs.YtdlljjbooajgiaaDoor
