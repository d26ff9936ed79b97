/-
  What alive answers: true.
-/
import Derived.Test.YtpgiknejgolllaaDW
namespace Go.Proofs.Ytpgiknejgolllaa
open Go.RowKit Go.Lib

theorem same_text (a : ByteArray) : (a.toList == a.toList) = true := beq_self_eq_true _

set_option maxRecDepth 20000 in
set_option maxHeartbeats 1600000 in
theorem diskAlive_any (S : DiskSpec) (w : World) : Calls Try.prog 10 #[] w fun e w' => e = .returned (.bool true) ∧ Below w.heap.size w w' := by
  obtain ⟨x, hx⟩ : ∃ x, fillText 120 = x := ⟨_, rfl⟩
  obtain ⟨y, hy⟩ : ∃ y, fillText 121 = y := ⟨_, rfl⟩
  have xs : x.size = 256 := by rw [← hx]; exact fillText_size _
  have ys : y.size = 256 := by rw [← hy]; exact fillText_size _
  have XS := Hid.of xs
  have YS := Hid.of ys
  have HX := Hid.of hx
  have HY := Hid.of hy
  have XM : Hid (x.size ≤ maxLen) := Hid.of (by rw [xs]; unfold maxLen; omega)
  have YM : Hid (y.size ≤ maxLen) := Hid.of (by rw [ys]; unfold maxLen; omega)
  clear hx hy xs ys
  go_enter Try.func10, Try.ntmps10
  go_wp2_with fail
  refine (new_disk S 2 _ (by omega) (by omega)).mono ?_
  rintro e w1 ⟨p, F1, rfl, h1⟩
  have H1 := Hid.of h1
  clear h1
  go_wp2_with fail
  refine (Fill_named (c := 120) (by rfl) _).mono ?_
  rintro e w2 ⟨rfl, b2⟩
  rw [HX.out]
  have H2 := Hid.of (H1.out.next b2)
  clear b2 H1
  go_wp2_with fail
  refine (H2.out.write (i := 0) (t := x) (DSt.write_free _ _ _ 0 x XS.out (by simp)) (small_rfl rfl) XM.out).mono ?_
  rintro e w3 ⟨rfl, F3, h3, -⟩
  have H3 := Hid.of h3
  clear h3 H2
  go_wp2_with fail
  refine (H3.out.flush (DSt.flush_free _ _ _) (small_rfl rfl)).mono ?_
  rintro e w4 ⟨rfl, F4, h4, -⟩
  have H4 := Hid.of h4
  clear h4 H3
  go_wp2_with fail
  refine (Fill_named (c := 121) (by rfl) _).mono ?_
  rintro e w5 ⟨rfl, b5⟩
  rw [HY.out]
  have H5 := Hid.of (H4.out.next b5)
  clear b5 H4
  go_wp2_with fail
  refine (H5.out.write (i := 0) (t := y) (DSt.write_free _ _ _ 0 y YS.out (by simp [dApply])) (small_rfl rfl) YM.out).mono ?_
  rintro e w6 ⟨rfl, F6, h6, -⟩
  have H6 := Hid.of h6
  have L6 := Hid.of h6.lto
  clear h6 H5
  go_wp2_with fail
  refine ((H6.out.next ((Below.refl _ _).alloc (Nat.le_refl _) _)).cut (ks := [0]) (DSt.cut_on _ _ _ _ _) (n := 1) rfl (small_rfl rfl) (ints_made _ [0] _ _ rfl rfl) (fun _ => off_new L6.out _ _ _ rfl) (by decide)).mono ?_
  rintro e w7 ⟨rfl, F7, h7, -⟩
  have H7 := Hid.of h7
  clear h7 H6 L6
  go_wp2_with fail
  refine (H7.out.restore (small_rfl rfl)).mono ?_
  rintro e w8 ⟨rfl, F8, h8, -⟩
  have H8 := Hid.of h8
  clear h8 H7
  go_wp2_with fail
  refine (H8.out.reads (i := 0) (t := x) rfl rfl (small_rfl rfl)).mono ?_
  rintro e w9 ⟨rfl, h9, -⟩
  have H9 := Hid.of h9
  clear h9 H8
  go_wp2_with fail
  refine (Fill_named (c := 120) (by rfl) _).mono ?_
  rintro e wa ⟨rfl, ba⟩
  rw [HX.out]
  have Ha := Hid.of (H9.out.next ba)
  clear ba H9
  have he := same_text x
  go_wp2_with fail
  refine Ha.out.isOn.mono ?_
  rintro e wb ⟨rfl, hb, -⟩
  have Hb := Hid.of hb
  clear hb Ha
  go_wp2_with fail
  refine (Hb.out.writes (small_rfl rfl)).mono ?_
  rintro e wc ⟨rfl, hc, -⟩
  go_wp2
  go_ret
  exact ⟨rfl, hc.fr⟩

end Go.Proofs.Ytpgiknejgolllaa
