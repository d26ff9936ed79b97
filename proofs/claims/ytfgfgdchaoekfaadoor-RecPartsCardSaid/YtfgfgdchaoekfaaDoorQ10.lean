/-
  A bundle of texts: J BP.
-/
import Derived.Deep.QuietTactic
import Derived.BigQuiet
import Derived.Test.YtfgfgdchaoekfaaDoorQ05
namespace Go.Proofs.YtfgfgdchaoekfaaDoor
open Go.RowKit Go.Lib

/-- In w block u is an Unpacker of the bytes s, k of which are read, with the error bad. -/
def Un (u : Nat) (s : ByteArray) (k : Nat) (bad : Int) (w : World) : Prop :=
  w.heap[u]? = some (.cells #[.int .i64 k, .int .i64 bad, .string s] 100 (0, 0)) ∧ k ≤ s.size ∧ s.size ≤ 140737488355328

theorem Un.cells {u : Nat} {s : ByteArray} {k : Nat} {bad : Int} {w : World} (h : Un u s k bad w) :
    w.cell? ⟨u, 0, none⟩ = some (.int .i64 k) ∧ w.cell? ⟨u, 1, none⟩ = some (.int .i64 bad) ∧ w.cell? ⟨u, 2, none⟩ = some (.string s) := by
  refine ⟨?_, ?_, ?_⟩ <;> (rw [cell_of_row w u _ _ _ _ h.1]; rfl)

theorem Un.kept {u : Nat} {s : ByteArray} {k : Nat} {bad : Int} {w w' : World} (h : Un u s k bad w) (g : w.grownBy w' none) : Un u s k bad w' :=
  ⟨by rw [g.block u (Array.getElem?_eq_some_iff.1 h.1).1 (by simp)]; exact h.1, h.2⟩

theorem Un.lt {u : Nat} {s : ByteArray} {k : Nat} {bad : Int} {w : World} (h : Un u s k bad w) : u < w.heap.size := (Array.getElem?_eq_some_iff.1 h.1).1

theorem grownBy_drewN (w : World) (q : Nat) (row : Option Nat) : w.grownBy (w.drewN q) row := ⟨rfl, rfl, rfl, Nat.le_refl _, fun _ _ _ => rfl⟩

set_option maxHeartbeats 400000 in
theorem Left_Un (u : Nat) (s : ByteArray) (k : Nat) (bad : Int) (w : World) (h : Un u s k bad w) :
    Calls Tryd.prog 58 #[.pointer (some ⟨u, 0, none⟩)] w fun e w' => e = .returned (.int .i64 ((s.size - k : Nat) : Int)) ∧ w.drew = w' := by
  obtain ⟨c0, c1, c2⟩ := h.cells
  have hk := h.2.1
  have hs := h.2.2
  clear h
  go_enter Tryd.func58, Tryd.ntmps58
  go_wp2
  go_region
  all_goals (go_wp2; go_ret; exact ⟨by rw [Int.natCast_sub hk]; rfl, rfl⟩)

set_option maxHeartbeats 400000 in
theorem From_any (s : ByteArray) (w : World) (hs : s.size ≤ 140737488355328) :
    Calls Tryd.prog 35 #[.string s] w fun e w' => e = .returned (.pointer (some ⟨w.heap.size, 0, none⟩)) ∧ Un w.heap.size s 0 0 w' ∧ w.grownBy w' none := by
  go_enter Tryd.func35, Tryd.ntmps35
  go_wp2
  go_ret
  exact ⟨rfl, ⟨Go.heap_alloc_new _ _, Nat.zero_le _, hs⟩, World.grownBy_alloc _ _ _⟩

set_option maxHeartbeats 400000 in
theorem take_stopped (u : Nat) (s : ByteArray) (k : Nat) (bad : Int) (hb : (bad != 0) = true) (n : Int) (w : World) (h : Un u s k bad w) :
    Calls Tryd.prog 50 #[.pointer (some ⟨u, 0, none⟩), .int .i64 n] w fun e w' => e = .returned (.string ⟨#[]⟩) ∧ w = w' := by
  obtain ⟨c0, c1, c2⟩ := h.cells
  clear h
  go_enter Tryd.func50, Tryd.ntmps50
  go_wp2_with (go_at_call 48; refine (stopped_yes u bad hb _ c1).mono ?_; rintro e w' ⟨rfl, rfl⟩)
  go_ret
  exact ⟨rfl, rfl⟩

set_option maxHeartbeats 400000 in
theorem take_good (u : Nat) (s : ByteArray) (k n : Nat) (hn : k + n ≤ s.size) (w : World) (h : Un u s k 0 w) :
    Calls Tryd.prog 50 #[.pointer (some ⟨u, 0, none⟩), .int .i64 n] w fun e w' => e = .returned (.string (s.extract k (k + n))) ∧ Un u s (k + n) 0 w' ∧ w.grownBy w' (some u) := by
  obtain ⟨c0, c1, c2⟩ := h.cells
  have hk := h.2.1
  have hs := h.2.2
  have H := Hid.of h
  clear h
  go_enter Tryd.func50, Tryd.ntmps50
  go_wp2_with (first | (go_at_call 48; refine (stopped_no u _ c1).mono ?_; rintro e w' ⟨rfl, rfl⟩) | (go_at_call 58; refine (Left_Un u s k 0 _ H.out).mono ?_; rintro e w' ⟨rfl, rfl⟩))
  go_quiet (fail)
  go_wp2_with (go_at_call 55; refine (pass_any u k n _ (show (w.drewN (1 + nq)).cell? _ = _ from c0) (row_frozen (w := w.drewN (1 + nq)) H.out.1) (by omega) (by omega) (by omega)).mono ?_; rintro e w2 ⟨rfl, s2⟩)
  go_ret
  refine ⟨rfl, ⟨?_, by omega, hs⟩, grownBy_trans (grownBy_drewN w _ _) s2.grown⟩
  rw [s2.row (w := w.drewN (1 + nq)) H.out.1, Int.natCast_add]
  rfl

/-- What a read leaves where there is an error already, or too few bytes, or enough of them. -/
def ReadTo (u : Nat) (s : ByteArray) (k : Nat) (bad : Int) (w w' : World) : Prop := Un u s k bad w' ∧ w.grownBy w' (some u)

theorem sub_val (s : ByteArray) (k n : Nat) : val ((s.data.toList.drop k).take n) < 256 ^ n := by
  have h1 := val_lt ((s.data.toList.drop k).take n)
  have h2 : (256 : Nat) ^ ((s.data.toList.drop k).take n).length ≤ 256 ^ n := Nat.pow_le_pow_right (by decide) (List.length_take_le _ _)
  omega

set_option maxHeartbeats 400000 in
theorem Word_goodU (u : Nat) (s : ByteArray) (k : Nat) (hn : k + 8 ≤ s.size) (w : World) (h : Un u s k 0 w) :
    Calls Tryd.prog 54 #[.pointer (some ⟨u, 0, none⟩)] w fun e w' => e = .returned (.int .u64 (val ((s.data.toList.drop k).take 8))) ∧ ReadTo u s (k + 8) 0 w w' := by
  have H := Hid.of h
  clear h
  go_enter Tryd.func54, Tryd.ntmps54
  go_wp2_with (first | (go_at_call 50; refine (take_good u s k 8 hn _ H.out).mono ?_; rintro e w2 ⟨rfl, hu2, g2⟩) | (go_at_call 67; refine (value_any _ _ (by rw [extract_size s k 8 hn]; omega)).mono ?_; rintro e w3 ⟨rfl, rfl⟩))
  go_ret
  exact ⟨rfl, hu2, g2⟩

set_option maxHeartbeats 400000 in
theorem Word_stoppedU (u : Nat) (s : ByteArray) (k : Nat) (bad : Int) (hb : (bad != 0) = true) (w : World) (h : Un u s k bad w) :
    Calls Tryd.prog 54 #[.pointer (some ⟨u, 0, none⟩)] w fun e w' => e = .returned (.int .u64 0) ∧ w = w' := by
  have H := Hid.of h
  clear h
  go_enter Tryd.func54, Tryd.ntmps54
  go_wp2_with (first | (go_at_call 50; refine (take_stopped u s k bad hb 8 _ H.out).mono ?_; rintro e w2 ⟨rfl, rfl⟩) | (go_at_call 67; refine (value_nil _).mono ?_; rintro e w3 ⟨rfl, rfl⟩))
  go_ret
  exact ⟨rfl, rfl⟩

set_option maxHeartbeats 400000 in
theorem Int_goodU (u : Nat) (s : ByteArray) (k : Nat) (hn : k + 8 ≤ s.size) (w : World) (h : Un u s k 0 w) :
    Calls Tryd.prog 37 #[.pointer (some ⟨u, 0, none⟩)] w fun e w' => e = .returned (.int .i64 (wrap64 (val ((s.data.toList.drop k).take 8)))) ∧ ReadTo u s (k + 8) 0 w w' := by
  have H := Hid.of h
  clear h
  go_enter Tryd.func37, Tryd.ntmps37
  go_wp2_with (go_at_call 54; refine (Word_goodU u s k hn _ H.out).mono ?_; rintro e w2 ⟨rfl, h2⟩)
  go_ret
  exact ⟨rfl, h2⟩

set_option maxHeartbeats 400000 in
theorem Int_stoppedU (u : Nat) (s : ByteArray) (k : Nat) (bad : Int) (hb : (bad != 0) = true) (w : World) (h : Un u s k bad w) :
    Calls Tryd.prog 37 #[.pointer (some ⟨u, 0, none⟩)] w fun e w' => e = .returned (.int .i64 0) ∧ w = w' := by
  have H := Hid.of h
  clear h
  go_enter Tryd.func37, Tryd.ntmps37
  go_wp2_with (go_at_call 54; refine (Word_stoppedU u s k bad hb _ H.out).mono ?_; rintro e w2 ⟨rfl, rfl⟩)
  go_ret
  exact ⟨rfl, rfl⟩

end Go.Proofs.YtfgfgdchaoekfaaDoor

namespace Go.Proofs.YtfgfgdchaoekfaaDoor
open Go.RowKit Go.Lib

theorem wrapU (x : Int) : IntKind.u64.wrap x = x % 18446744073709551616 := rfl

theorem OwnBuf.slice {B : Nat} {e : TypeId} {v : Value} {n : Nat} {xs : List Value} {W0 w : World} (h : OwnBuf B e v n xs W0 w) : ∃ sa c, v = .slice sa n c := by
  rcases h.1.2 with ⟨rfl, rfl⟩ | ⟨g, cap, cur, fz, rfl, _⟩
  · exact ⟨_, _, rfl⟩
  · exact ⟨_, _, rfl⟩

end Go.Proofs.YtfgfgdchaoekfaaDoor
