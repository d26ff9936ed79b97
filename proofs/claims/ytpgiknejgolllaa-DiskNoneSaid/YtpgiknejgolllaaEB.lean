/-
  What disarm, spend, settle, On, Writes, Blocks and Waiting answer.
-/
import Derived.Test.YtpgiknejgolllaaEA
namespace Go.Proofs.Ytpgiknejgolllaa
open Go.RowKit Go.Lib

theorem below_of_only {B p : Nat} {w w' : World} (h : w.grownBy w' (some p)) (hB : B ≤ p) (hs : B ≤ w.heap.size) : Below B w w' := below_of_grown h hB hs

def DV.disarm (d : DV) : DV := { d with armed := false, left := 0, keep := .slice none 0 0 }
def DV.settle (d : DV) : DV := { d with last := d.now, latest := .pointer none, waiting := 0 }

theorem disarm_any (w : World) (p : Nat) (d : DV) (h : DBlk w p d) :
    Calls Try.prog 33 #[dptr p] w fun e w' => e = .returned (.tuple #[]) ∧ DBlk w' p d.disarm ∧ w.grownBy w' (some p) := by
  have H := Hid.of h
  have e2 := h.c2
  have e3 := h.c3
  have e4 := h.c4
  have f2 := h.free 2
  have f3 := h.free 3
  have f4 := h.free 4
  clear h
  go_enter Try.func33, Try.ntmps33
  go_wp2
  go_end0
  refine ⟨rfl, ((H.out.armed_ false).left_ 0).keep_ (.slice none 0 0), ?_⟩
  exact grownBy_trans (grownBy_trans (grownBy_setCell _ _ _ _) (grownBy_setCell _ _ _ _)) (grownBy_setCell _ _ _ _)

theorem isOn_any (w : World) (p : Nat) (d : DV) (h : DBlk w p d) :
    Calls Try.prog 18 #[dptr p] w fun e w' => e = .returned (.bool d.on) ∧ w' = w := by
  have e0 := h.c0
  clear h
  go_enter Try.func18, Try.ntmps18
  go_wp2
  go_ret
  exact ⟨rfl, rfl⟩

theorem writes_any (w : World) (p : Nat) (d : DV) (h : DBlk w p d) :
    Calls Try.prog 21 #[dptr p] w fun e w' => e = .returned (.int .i64 d.done) ∧ w' = w := by
  have e0 := h.c1
  clear h
  go_enter Try.func21, Try.ntmps21
  go_wp2
  go_ret
  exact ⟨rfl, rfl⟩

theorem blocks_any (w : World) (p : Nat) (d : DV) (h : DBlk w p d) :
    Calls Try.prog 15 #[dptr p] w fun e w' => e = .returned (.int .i64 d.blocks) ∧ w' = w := by
  have e0 := h.c5
  clear h
  go_enter Try.func15, Try.ntmps15
  go_wp2
  go_ret
  exact ⟨rfl, rfl⟩

theorem waiting_any (w : World) (p : Nat) (d : DV) (h : DBlk w p d) :
    Calls Try.prog 16 #[dptr p] w fun e w' => e = .returned (.int .i64 d.waiting) ∧ w' = w := by
  have e0 := h.c135
  clear h
  go_enter Try.func16, Try.ntmps16
  go_wp2
  go_ret
  exact ⟨rfl, rfl⟩

def DV.spends (d : DV) : DV := { d with left := if d.armed then d.left - 1 else d.left, done := d.done + 1 }

theorem spend_no (w : World) (p : Nat) (d : DV) (h : DBlk w p d) (ha : d.armed = true) (hl : d.left = 0) :
    Calls Try.prog 38 #[dptr p] w fun e w' => e = .returned (.bool false) ∧ w' = w := by
  have e2 := h.c2
  have e3 := h.c3
  rw [ha] at e2
  rw [hl] at e3
  clear h
  go_enter Try.func38, Try.ntmps38
  go_wp2
  go_ret
  exact ⟨rfl, rfl⟩

theorem spend_free (w : World) (p : Nat) (d : DV) (h : DBlk w p d) (ha : d.armed = false) (h0 : 0 ≤ d.done) (h1 : d.done ≤ 1000000) :
    Calls Try.prog 38 #[dptr p] w fun e w' => e = .returned (.bool true) ∧ DBlk w' p { d with done := d.done + 1 } ∧ w.grownBy w' (some p) := by
  have H := Hid.of h
  have e1 := h.c1
  have e2 := h.c2
  rw [ha] at e2
  have f1 := h.free 1
  clear h
  obtain ⟨n, hn⟩ : ∃ n, d.done = n := ⟨_, rfl⟩
  rw [hn] at e1 h0 h1
  have HN := Hid.of hn
  clear hn
  go_enter Try.func38, Try.ntmps38
  go_wp2
  go_ret
  refine ⟨rfl, ?_, grownBy_setCell _ _ _ _⟩
  rw [HN.out]
  exact H.out.done_ (n + 1)

theorem spend_one (w : World) (p : Nat) (d : DV) (h : DBlk w p d) (ha : d.armed = true) (h2 : 1 ≤ d.left) (h3 : d.left ≤ 1000000) (h0 : 0 ≤ d.done) (h1 : d.done ≤ 1000000) :
    Calls Try.prog 38 #[dptr p] w fun e w' => e = .returned (.bool true) ∧ DBlk w' p { d with left := d.left - 1, done := d.done + 1 } ∧ w.grownBy w' (some p) := by
  have H := Hid.of h
  have e1 := h.c1
  have e2 := h.c2
  have e3 := h.c3
  rw [ha] at e2
  have f1 := h.free 1
  have f3 := h.free 3
  clear h
  obtain ⟨n, hn⟩ : ∃ n, d.done = n := ⟨_, rfl⟩
  obtain ⟨m, hm⟩ : ∃ m, d.left = m := ⟨_, rfl⟩
  rw [hn] at e1 h0 h1
  rw [hm] at e3 h2 h3
  have HN := Hid.of hn
  have HM := Hid.of hm
  clear hn hm
  go_enter Try.func38, Try.ntmps38
  go_wp2
  go_ret
  refine ⟨rfl, ?_, grownBy_trans (grownBy_setCell _ _ _ _) (grownBy_setCell _ _ _ _)⟩
  rw [HN.out, HM.out]
  exact (H.out.left_ (m - 1)).done_ (n + 1)

end Go.Proofs.Ytpgiknejgolllaa
