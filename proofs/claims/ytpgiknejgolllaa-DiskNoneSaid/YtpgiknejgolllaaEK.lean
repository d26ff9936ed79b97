/-
  What statement DiskNone answers: true, for every input.
-/
import Derived.Test.YtpgiknejgolllaaEI
import Derived.Test.YtpgiknejgolllaaDA
namespace Go.Proofs.Ytpgiknejgolllaa
open Go.RowKit Go.Lib

abbrev nptr : Value := .pointer none

theorem none_on (w : World) : Calls Try.prog 18 #[nptr] w fun e w' => e = .returned (.bool false) ∧ w' = w := by
  go_enter Try.func18, Try.ntmps18
  go_wp2
  go_ret
  exact ⟨rfl, rfl⟩

theorem none_blocks (w : World) : Calls Try.prog 15 #[nptr] w fun e w' => e = .returned (.int .i64 0) ∧ w' = w := by
  go_enter Try.func15, Try.ntmps15
  go_wp2
  go_ret
  exact ⟨rfl, rfl⟩

theorem none_waiting (w : World) : Calls Try.prog 16 #[nptr] w fun e w' => e = .returned (.int .i64 0) ∧ w' = w := by
  go_enter Try.func16, Try.ntmps16
  go_wp2
  go_ret
  exact ⟨rfl, rfl⟩

theorem none_twin (w : World) : Calls Try.prog 17 #[nptr] w fun e w' => e = .returned nptr ∧ w' = w := by
  go_enter Try.func17, Try.ntmps17
  go_wp2
  go_ret
  exact ⟨rfl, rfl⟩

theorem none_may (w : World) (i n : Int) : Calls Try.prog 28 #[nptr, .int .i64 i, .int .i64 n] w fun e w' => e = .returned (.int .i64 14) ∧ w' = w := by
  go_enter Try.func28, Try.ntmps28
  go_wp2
  go_ret
  exact ⟨rfl, rfl⟩

theorem none_read (w : World) (i : Int) : Calls Try.prog 9 #[nptr, .int .i64 i] w fun e w' => ∃ t, e = .returned (.tuple #[.string t, .int .i64 14]) ∧ w' = w := by
  go_enter Try.func9, Try.ntmps9
  go_wp2_with (go_at_call 28; refine (none_may _ _ _).mono ?_; rintro e w1 ⟨rfl, rfl⟩)
  go_ret2
  exact ⟨_, rfl, rfl⟩

theorem none_write (w : World) (i : Int) (t : ByteArray) : Calls Try.prog 11 #[nptr, .int .i64 i, .string t] w fun e w' => e = .returned (.int .i64 14) ∧ w' = w := by
  go_enter Try.func11, Try.ntmps11
  go_wp2_with (go_at_call 28; refine (none_may _ _ _).mono ?_; rintro e w1 ⟨rfl, rfl⟩)
  go_ret
  exact ⟨rfl, rfl⟩

theorem none_flush (w : World) : Calls Try.prog 13 #[nptr] w fun e w' => e = .returned (.int .i64 14) ∧ w' = w := by
  go_enter Try.func13, Try.ntmps13
  go_wp2
  go_ret
  exact ⟨rfl, rfl⟩

theorem none_cut (w : World) (v : Value) : Calls Try.prog 14 #[nptr, v] w fun e w' => e = .returned (.int .i64 0) ∧ Below w.heap.size w w' := by
  go_enter Try.func14, Try.ntmps14
  go_wp2
  go_ret
  exact ⟨rfl, Below.refl _ _⟩

theorem none_restore (w : World) : Calls Try.prog 8 #[nptr] w fun e w' => e = .returned (.tuple #[]) ∧ w' = w := by
  go_enter Try.func8, Try.ntmps8
  go_wp2_with (go_at_call 15; refine (none_blocks _).mono ?_; rintro e w1 ⟨rfl, rfl⟩)
  refine bodyPost_ret (results_none rfl _ _ _) rfl ?_
  exact ⟨rfl, rfl⟩

/-! A zero disk. -/
def dvZero : DV := { dvFresh 0 with on := false }

/-- A zero disk of one's own. -/
def Zero (w : World) (p : Nat) : Prop := DBlk w p dvZero

theorem Zero.below {w w' : World} {p : Nat} (h : Zero w p) (b : Below w.heap.size w w') : Zero w' p := DBlk.below h b

theorem zero_on {w : World} {p : Nat} (h : Zero w p) : Calls Try.prog 18 #[dptr p] w fun e w' => e = .returned (.bool false) ∧ w' = w := isOn_any w p dvZero h
theorem zero_blocks {w : World} {p : Nat} (h : Zero w p) : Calls Try.prog 15 #[dptr p] w fun e w' => e = .returned (.int .i64 0) ∧ w' = w := blocks_any w p dvZero h
theorem zero_waiting {w : World} {p : Nat} (h : Zero w p) : Calls Try.prog 16 #[dptr p] w fun e w' => e = .returned (.int .i64 0) ∧ w' = w := waiting_any w p dvZero h

theorem zero_may {w : World} {p : Nat} (h : Zero w p) (i n : Int) : Calls Try.prog 28 #[dptr p, .int .i64 i, .int .i64 n] w fun e w' => e = .returned (.int .i64 14) ∧ w' = w :=
  may_any w p dvZero ⟨[], [], false, 0, none⟩ i n h rfl rfl

theorem zero_read {w : World} {p : Nat} (h : Zero w p) (i : Int) : Calls Try.prog 9 #[dptr p, .int .i64 i] w fun e w' => ∃ t, e = .returned (.tuple #[.string t, .int .i64 14]) ∧ w' = w := by
  have H := Hid.of h
  clear h
  go_enter Try.func9, Try.ntmps9
  go_wp2_with (go_at_call 28; refine (zero_may H.out _ _).mono ?_; rintro e w1 ⟨rfl, rfl⟩)
  go_ret2
  exact ⟨_, rfl, rfl⟩

theorem zero_write {w : World} {p : Nat} (h : Zero w p) (i : Int) (t : ByteArray) : Calls Try.prog 11 #[dptr p, .int .i64 i, .string t] w fun e w' => e = .returned (.int .i64 14) ∧ w' = w := by
  have H := Hid.of h
  clear h
  go_enter Try.func11, Try.ntmps11
  go_wp2_with (go_at_call 28; refine (zero_may H.out _ _).mono ?_; rintro e w1 ⟨rfl, rfl⟩)
  go_ret
  exact ⟨rfl, rfl⟩

theorem zero_flush {w : World} {p : Nat} (h : Zero w p) : Calls Try.prog 13 #[dptr p] w fun e w' => e = .returned (.int .i64 14) ∧ w' = w := by
  have H := Hid.of h
  clear h
  go_enter Try.func13, Try.ntmps13
  go_wp2_with (go_at_call 18; refine (zero_on H.out).mono ?_; rintro e w1 ⟨rfl, rfl⟩)
  go_ret
  exact ⟨rfl, rfl⟩

theorem zero_restore {w : World} {p : Nat} (h : Zero w p) : Calls Try.prog 8 #[dptr p] w fun e w' => e = .returned (.tuple #[]) ∧ w' = w := by
  have H := Hid.of h
  clear h
  go_enter Try.func8, Try.ntmps8
  go_wp2_with (go_at_call 15; refine (zero_blocks H.out).mono ?_; rintro e w1 ⟨rfl, rfl⟩)
  refine bodyPost_ret (results_none rfl _ _ _) rfl ?_
  exact ⟨rfl, rfl⟩

theorem zero_cut {w : World} {p : Nat} (h : Zero w p) (v : Value) : Calls Try.prog 14 #[dptr p, v] w fun e w' => e = .returned (.int .i64 0) ∧ Zero w' p ∧ w.grownBy w' (some p) := by
  have H : Hid (DBlk w p dvZero) := Hid.of h
  clear h
  go_enter Try.func14, Try.ntmps14
  go_wp2_with (first
    | (go_at_call 33; refine (disarm_any _ p dvZero H.out).mono ?_; rintro e w1 ⟨rfl, d1, g1⟩; have D1 : Hid (Zero w1 p) := Hid.of d1; have G1 := Hid.of g1; clear d1 g1)
    | (go_at_call 18; refine (zero_on D1.out).mono ?_; rintro e w2 ⟨rfl, rfl⟩))
  go_ret
  exact ⟨rfl, D1.out, G1.out⟩

/-- A zero disk of one's own above B, below B all as it was. -/
structure ZHere (B : Nat) (w0 w : World) (p : Nat) : Prop where
  z : Zero w p
  ge : B ≤ p
  hB : B ≤ w.heap.size
  fr : Below B w0 w

theorem ZHere.next {B p : Nat} {w0 w w' : World} (h : ZHere B w0 w p) (b : Below w.heap.size w w') : ZHere B w0 w' p :=
  ⟨h.z.below b, h.ge, Nat.le_trans h.hB b.size, h.fr.trans (b.mono h.hB)⟩

theorem ZHere.cut {B p : Nat} {w0 w w' : World} (h : ZHere B w0 w p) (z : Zero w' p) (g : w.grownBy w' (some p)) : ZHere B w0 w' p :=
  ⟨z, h.ge, Nat.le_trans h.hB g.size, h.fr.grown g h.hB (fun k hk => by
    have := h.ge
    simp at hk
    omega)⟩

theorem zero_built : Try.prog.built 31 [] = some dvZero.cells.toArray := by kernel_rfl

set_option maxRecDepth 20000 in
set_option maxHeartbeats 3200000 in
theorem diskNone_main (i : Int) (w : World) :
    Calls Try.prog 3 #[.int .i64 i] w fun e w' => e = .returned (.bool true) ∧ Below w.heap.size w w' := by
  obtain ⟨x, hx⟩ : ∃ x, fillText 120 = x := ⟨_, rfl⟩
  have HX := Hid.of hx
  clear hx
  go_enter Try.func3, Try.ntmps3
  go_wp2_with (first
    | (refine wpList_built rfl 31 [] rfl dvZero.cells.toArray zero_built ?_)
    | (refine wpList_boxed rfl 31 _ rfl dvZero.cells.toArray rfl ?_
       obtain ⟨w1, hw1⟩ : ∃ w1, w.alloc (.cells dvZero.cells.toArray 31) = w1 := ⟨_, rfl⟩
       have Z1 : Hid (ZHere w.heap.size w w1 w.heap.size) := Hid.of (by rw [← hw1]; exact ⟨⟨Go.heap_alloc_new _ _, by simp [dvZero, dvFresh], by simp [dvZero, dvFresh]⟩, Nat.le_refl _, by simp, (Below.refl _ _).alloc (Nat.le_refl _) _⟩)
       rw [hw1]
       obtain ⟨p, hp⟩ : ∃ p, w.heap.size = p := ⟨_, rfl⟩
       rw [show ZHere w.heap.size w w1 w.heap.size = ZHere w.heap.size w w1 p by rw [hp]] at Z1
       rw [show (Value.pointer (some ⟨w.heap.size, 0, none⟩)) = dptr p by rw [hp]]
       clear hw1 hp))
  refine (zero_restore Z1.out.z).mono ?_
  rintro e w2 ⟨rfl, rfl⟩
  go_wp2_with fail
  refine (none_restore _).mono ?_
  rintro e w2 ⟨rfl, rfl⟩
  go_wp2_with fail
  refine (none_read _ _).mono ?_
  rintro e w2 ⟨t1, rfl, rfl⟩
  go_wp2_with fail
  refine (zero_read Z1.out.z _).mono ?_
  rintro e w2 ⟨t2, rfl, rfl⟩
  go_wp2_with fail
  refine (diskAlive_any disk _).mono ?_
  rintro e w3 ⟨rfl, b3⟩
  have Z2 := Hid.of (Z1.out.next b3)
  clear b3
  go_wp2_with fail
  refine (Fill_named (c := 120) (by rfl) _).mono ?_
  rintro e w4 ⟨rfl, b4⟩
  rw [HX.out]
  have Z3 := Hid.of (Z2.out.next b4)
  clear b4
  go_wp2_with fail
  refine (none_write _ _ _).mono ?_
  rintro e w5 ⟨rfl, rfl⟩
  go_wp2_with fail
  refine (Fill_named (c := 120) (by rfl) _).mono ?_
  rintro e w4 ⟨rfl, b4⟩
  rw [HX.out]
  have Z4 := Hid.of (Z3.out.next b4)
  clear b4
  go_wp2_with fail
  refine (zero_write Z4.out.z _ _).mono ?_
  rintro e w5 ⟨rfl, rfl⟩
  go_wp2_with fail
  refine (none_flush _).mono ?_
  rintro e w6 ⟨rfl, rfl⟩
  go_wp2_with fail
  refine (zero_flush Z4.out.z).mono ?_
  rintro e w6 ⟨rfl, rfl⟩
  go_wp2_with fail
  refine (none_cut _ _).mono ?_
  rintro e w7 ⟨rfl, b7⟩
  have Z5 := Hid.of (Z4.out.next (((Below.refl _ _).alloc (Nat.le_refl _) _).trans (b7.mono (by simp))))
  clear b7
  go_wp2_with fail
  refine (zero_cut (Z5.out.next ((Below.refl _ _).alloc (Nat.le_refl _) _)).z _).mono ?_
  rintro e w8 ⟨rfl, z8, g8⟩
  have Z6 := Hid.of ((Z5.out.next ((Below.refl _ _).alloc (Nat.le_refl _) _)).cut z8 g8)
  clear z8 g8
  go_wp2_with fail
  refine (none_blocks _).mono ?_
  rintro e w9 ⟨rfl, rfl⟩
  go_wp2_with fail
  refine (zero_blocks Z6.out.z).mono ?_
  rintro e w9 ⟨rfl, rfl⟩
  go_wp2_with fail
  refine (none_waiting _).mono ?_
  rintro e wa ⟨rfl, rfl⟩
  go_wp2_with fail
  refine (zero_waiting Z6.out.z).mono ?_
  rintro e wa ⟨rfl, rfl⟩
  go_wp2_with fail
  refine (none_twin _).mono ?_
  rintro e wb ⟨rfl, rfl⟩
  go_wp2_with fail
  refine (zero_on Z6.out.z).mono ?_
  rintro e wc ⟨rfl, rfl⟩
  go_wp2
  go_ret
  exact ⟨rfl, Z6.out.fr⟩

end Go.Proofs.Ytpgiknejgolllaa
