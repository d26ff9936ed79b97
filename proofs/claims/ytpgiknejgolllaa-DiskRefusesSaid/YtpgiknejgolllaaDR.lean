/-
  What statement DiskRefuses answers: true, for every input.
-/
import Derived.Test.YtpgiknejgolllaaDA
import Derived.Test.YtpgiknejgolllaaBI
namespace Go.Proofs.Ytpgiknejgolllaa
open Go.RowKit Go.Lib

theorem n_any (b : Bool) (w : World) : Calls Try.prog 26 #[.bool b] w fun e w' => e = .returned (.int .i64 (if b then 1 else 0)) ∧ w' = w := by
  cases b
  all_goals
    go_enter Try.func26, Try.ntmps26
    go_wp2
    go_ret
    exact ⟨rfl, rfl⟩

theorem n_true (w : World) : Calls Try.prog 26 #[.bool true] w fun e w' => e = .returned (.int .i64 1) ∧ w' = w := n_any true w
theorem n_false (w : World) : Calls Try.prog 26 #[.bool false] w fun e w' => e = .returned (.int .i64 0) ∧ w' = w := n_any false w

theorem refuses_cases (z q t : ByteArray) (i : Int) :
    (∃ k : Nat, i = k ∧ k < 4 ∧ t.size = 256 ∧ DSt.write ⟨List.replicate 4 z, [(1, q)], true, 1, none⟩ i t = (0, ⟨List.replicate 4 z, [(1, q), (k, t)], true, 2, none⟩)) ∨
    (∃ k : Nat, i = k ∧ k < 4 ∧ ¬ t.size = 256 ∧ DSt.write ⟨List.replicate 4 z, [(1, q)], true, 1, none⟩ i t = (1, ⟨List.replicate 4 z, [(1, q)], true, 1, none⟩)) ∨
    ((i < 0 ∨ 0 ≤ i ∧ 4 ≤ i) ∧ t.size = 256 ∧ DSt.write ⟨List.replicate 4 z, [(1, q)], true, 1, none⟩ i t = (15, ⟨List.replicate 4 z, [(1, q)], true, 1, none⟩)) ∨
    ((i < 0 ∨ 0 ≤ i ∧ 4 ≤ i) ∧ ¬ t.size = 256 ∧ DSt.write ⟨List.replicate 4 z, [(1, q)], true, 1, none⟩ i t = (1, ⟨List.replicate 4 z, [(1, q)], true, 1, none⟩)) := by
  by_cases hr : 0 ≤ i ∧ i < 4
  · obtain ⟨k, rfl⟩ : ∃ k : Nat, i = k := ⟨i.toNat, by omega⟩
    by_cases ht : t.size = 256
    · exact .inl ⟨k, rfl, by omega, ht, DSt.write_free _ _ _ k t ht (by simp; omega)⟩
    · exact .inr (.inl ⟨k, rfl, by omega, ht, DSt.write_arg rfl _ t ht⟩)
  · have hr' : i < 0 ∨ 0 ≤ i ∧ 4 ≤ i := by omega
    by_cases ht : t.size = 256
    · exact .inr (.inr (.inl ⟨hr', ht, DSt.write_range rfl _ t ht (by simp only [List.length_replicate]; omega)⟩))
    · exact .inr (.inr (.inr ⟨hr', ht, DSt.write_arg rfl _ t ht⟩))

set_option maxRecDepth 20000 in
set_option maxHeartbeats 6400000 in
theorem diskRefuses_main (S : DiskSpec) (i : Int) (t : ByteArray) (v : Value) (ks : List Int) (w : World) (hv : NumRow .i64 w v ks) (ht0 : t.size ≤ maxLen) :
    Calls Try.prog 7 #[.int .i64 i, .string t, v] w fun e w' => e = .returned (.bool true) ∧ Below w.heap.size w w' := by
  have HC : Hid (CellRow w v ks.length (ks.map (Value.int .i64))) := Hid.of (NumRow.cells' hv)
  obtain ⟨va, vc, rfl, _⟩ := hv
  by_cases hz : 300 < t.size ∨ 10 < ks.length
  · have hz' : 300 < t.size ∨ (¬ 300 < t.size ∧ 10 < ks.length) := by omega
    clear hz
    rcases hz' with h1 | ⟨h1, h2⟩
    all_goals
      go_enter Try.func7, Try.ntmps7
      go_wp2_with fail
      refine (diskAlive_any S _).mono ?_
      rintro e w1 ⟨rfl, b1⟩
      go_wp2
      go_ret
      exact ⟨rfl, b1⟩
  · have h1 : ¬ 300 < t.size := fun h => hz (.inl h)
    have h2 : ¬ 10 < ks.length := fun h => hz (.inr h)
    clear hz
    have T9 : Hid (t.size ≤ maxLen) := Hid.of ht0
    have K9 : Hid (ks.length ≤ 10) := Hid.of (by omega)
    obtain ⟨q, hq⟩ : ∃ q, fillText 113 = q := ⟨_, rfl⟩
    obtain ⟨z, hz⟩ : ∃ z, fillText 122 = z := ⟨_, rfl⟩
    have QS : Hid (q.size = 256) := Hid.of (by rw [← hq]; exact fillText_size _)
    have QM : Hid (q.size ≤ maxLen) := Hid.of (by rw [← hq]; exact fill_max _)
    have ZM : Hid (z.size ≤ maxLen) := Hid.of (by rw [← hz]; exact fill_max _)
    have HQ := Hid.of hq
    have HZ := Hid.of hz
    clear hq hz ht0
    rcases refuses_cases (fillText 0) q t i with ⟨k, rfl, k4, ht, hw⟩ | ⟨k, rfl, k4, ht, hw⟩ | ⟨hi, ht, hw⟩ | ⟨hi, ht, hw⟩
    · have k1 : (0 : Int) ≤ (k : Int) := Int.natCast_nonneg _
      have k2 : (k : Int) < 4 := by omega
      have hti : ((t.size : Int) == 256) = true := by rw [ht]; rfl
      have WR := Hid.of hw
      have RD : Hid (DSt.readErr ⟨List.replicate 4 (fillText 0), [(1, q), (k, t)], true, 2, none⟩ k = 0) := Hid.of (by unfold DSt.readErr; rw [if_neg (by simp), if_neg (by simp only [List.length_replicate]; omega)])
      have SM : Hid (DSt.Small ⟨List.replicate 4 (fillText 0), [(1, q), (k, t)], true, 2, none⟩ 1000) := Hid.of (small_rfl rfl)
      clear hw
      go_enter Try.func7, Try.ntmps7
      go_wp2_with fail
      refine (new_disk S 4 _ (by omega) (by omega)).mono ?_
      rintro e w1 ⟨p, F1, rfl, h1⟩
      have H1 := Hid.of h1
      clear h1
      go_wp2_with fail
      refine (Fill_named (c := 113) (by rfl) _).mono ?_
      rintro e w2 ⟨rfl, b2⟩
      rw [HQ.out]
      have H2 := Hid.of (H1.out.next b2)
      clear b2 H1
      go_wp2_with fail
      refine (H2.out.write (i := 1) (t := q) (DSt.write_free _ _ _ 1 q QS.out (by simp)) (small_rfl rfl) QM.out).mono ?_
      rintro e w3 ⟨rfl, F3, h3, -⟩
      have H3 := Hid.of h3
      clear h3 H2
      go_wp2_with fail
      refine (H3.out.write WR.out (small_rfl rfl) T9.out).mono ?_
      rintro e w4 ⟨rfl, F4, h4, -⟩
      have H4 := Hid.of h4
      clear h4 H3
      go_wp2_with fail
      refine (H4.out.read k SM.out).mono ?_
      rintro e w5 ⟨u5, rfl, -, h5, -⟩
      rw [RD.out]
      have H5 := Hid.of h5
      clear h5 H4
      go_wp2_with fail
      refine (H5.out.writes SM.out).mono ?_
      rintro e w6 ⟨rfl, h6, -⟩
      have H6 := Hid.of h6
      clear h6 H5
      go_wp2_with fail
      refine (n_true _).mono ?_
      rintro e w7 ⟨rfl, rfl⟩
      go_wp2_with fail
      refine (H6.out.waiting SM.out).mono ?_
      rintro e w7 ⟨rfl, h7, -⟩
      have H7 := Hid.of h7
      clear h7 H6
      go_wp2_with fail
      refine (n_true _).mono ?_
      rintro e w8 ⟨rfl, rfl⟩
      go_wp2_with fail
      refine (H7.out.cut (ks := ks) rfl (n := 2) rfl SM.out (HC.out.kept H7.out.fr) (H7.out.off_arg HC.out (Nat.le_refl _)) (by have := K9.out; omega)).mono ?_
      rintro e w8 ⟨rfl, F8, h8, -⟩
      have H8 := Hid.of h8
      have SM8 := Hid.of (SM.out.cut ks)
      clear h8 H7
      go_wp2_with fail
      refine (Fill_named (c := 122) (by rfl) _).mono ?_
      rintro e w9 ⟨rfl, b9⟩
      rw [HZ.out]
      have H9 := Hid.of (H8.out.next b9)
      clear b9 H8
      go_wp2_with fail
      refine (H9.out.write (i := 1) (t := z) (DSt.write_off rfl _ _) SM8.out ZM.out).mono ?_
      rintro e wa ⟨rfl, Fa, ha, -⟩
      have Ha := Hid.of ha
      clear ha H9
      go_wp2_with fail
      refine (Ha.out.read 1 SM8.out).mono ?_
      rintro e wb ⟨ub, rfl, -, hb, -⟩
      rw [show DSt.readErr (DSt.cut ⟨List.replicate 4 (fillText 0), [(1, q), (k, t)], true, 2, none⟩ ks) 1 = 14 from rfl]
      have Hb := Hid.of hb
      clear hb Ha
      go_wp2_with fail
      refine (Hb.out.flush (DSt.flush_off rfl) SM8.out).mono ?_
      rintro e wc ⟨rfl, Fc, hc, -⟩
      have Hc := Hid.of hc
      clear hc Hb
      go_wp2_with fail
      refine (diskAlive_any S _).mono ?_
      rintro e wd ⟨rfl, bd⟩
      have Hd := Hid.of (Hc.out.next bd)
      have Ld := Hid.of Hd.out.lto
      clear bd Hc
      go_wp2_with fail
      refine ((Hd.out.next ((Below.refl _ _).alloc (Nat.le_refl _) _)).cut (ks := [1]) rfl (n := 0) rfl SM8.out (ints_made _ [1] _ _ rfl rfl) (fun _ => off_new Ld.out _ _ _ rfl) (by decide)).mono ?_
      rintro e we ⟨rfl, Fe, he, -⟩
      have He := Hid.of he
      have SM9 := Hid.of (SM8.out.cut [1])
      have RM : Hid (((DSt.cut ⟨List.replicate 4 (fillText 0), [(1, q), (k, t)], true, 2, none⟩ ks).cut [1]).last.length = 4) := Hid.of (by rw [DSt.cut_room, DSt.cut_room]; rfl)
      clear he Hd Ld
      go_wp2_with fail
      refine (He.out.blocks SM9.out).mono ?_
      rintro e wf ⟨rfl, hf, -⟩
      rw [RM.out]
      go_wp2
      go_ret
      exact ⟨rfl, hf.fr⟩
    · have k1 : (0 : Int) ≤ (k : Int) := Int.natCast_nonneg _
      have k2 : (k : Int) < 4 := by omega
      have hti : ((t.size : Int) == 256) = false := by simpa using (show ¬ (t.size : Int) = 256 by omega)
      have htj : ¬ (t.size : Int) = 256 := by omega
      have WR := Hid.of hw
      have RD : Hid (DSt.readErr ⟨List.replicate 4 (fillText 0), [(1, q)], true, 1, none⟩ k = 0) := Hid.of (by unfold DSt.readErr; rw [if_neg (by simp), if_neg (by simp only [List.length_replicate]; omega)])
      have SM : Hid (DSt.Small ⟨List.replicate 4 (fillText 0), [(1, q)], true, 1, none⟩ 1000) := Hid.of (small_rfl rfl)
      clear hw
      go_enter Try.func7, Try.ntmps7
      go_wp2_with fail
      refine (new_disk S 4 _ (by omega) (by omega)).mono ?_
      rintro e w1 ⟨p, F1, rfl, h1⟩
      have H1 := Hid.of h1
      clear h1
      go_wp2_with fail
      refine (Fill_named (c := 113) (by rfl) _).mono ?_
      rintro e w2 ⟨rfl, b2⟩
      rw [HQ.out]
      have H2 := Hid.of (H1.out.next b2)
      clear b2 H1
      go_wp2_with fail
      refine (H2.out.write (i := 1) (t := q) (DSt.write_free _ _ _ 1 q QS.out (by simp)) (small_rfl rfl) QM.out).mono ?_
      rintro e w3 ⟨rfl, F3, h3, -⟩
      have H3 := Hid.of h3
      clear h3 H2
      go_wp2_with fail
      refine (H3.out.write WR.out (small_rfl rfl) T9.out).mono ?_
      rintro e w4 ⟨rfl, F4, h4, -⟩
      have H4 := Hid.of h4
      clear h4 H3
      go_wp2_with fail
      refine (H4.out.read k SM.out).mono ?_
      rintro e w5 ⟨u5, rfl, -, h5, -⟩
      rw [RD.out]
      have H5 := Hid.of h5
      clear h5 H4
      go_wp2_with fail
      refine (H5.out.writes SM.out).mono ?_
      rintro e w6 ⟨rfl, h6, -⟩
      have H6 := Hid.of h6
      clear h6 H5
      go_wp2_with fail
      refine (n_false _).mono ?_
      rintro e w7 ⟨rfl, rfl⟩
      go_wp2_with fail
      refine (H6.out.waiting SM.out).mono ?_
      rintro e w7 ⟨rfl, h7, -⟩
      have H7 := Hid.of h7
      clear h7 H6
      go_wp2_with fail
      refine (n_false _).mono ?_
      rintro e w8 ⟨rfl, rfl⟩
      go_wp2_with fail
      refine (H7.out.cut (ks := ks) rfl (n := 1) rfl SM.out (HC.out.kept H7.out.fr) (H7.out.off_arg HC.out (Nat.le_refl _)) (by have := K9.out; omega)).mono ?_
      rintro e w8 ⟨rfl, F8, h8, -⟩
      have H8 := Hid.of h8
      have SM8 := Hid.of (SM.out.cut ks)
      clear h8 H7
      go_wp2_with fail
      refine (Fill_named (c := 122) (by rfl) _).mono ?_
      rintro e w9 ⟨rfl, b9⟩
      rw [HZ.out]
      have H9 := Hid.of (H8.out.next b9)
      clear b9 H8
      go_wp2_with fail
      refine (H9.out.write (i := 1) (t := z) (DSt.write_off rfl _ _) SM8.out ZM.out).mono ?_
      rintro e wa ⟨rfl, Fa, ha, -⟩
      have Ha := Hid.of ha
      clear ha H9
      go_wp2_with fail
      refine (Ha.out.read 1 SM8.out).mono ?_
      rintro e wb ⟨ub, rfl, -, hb, -⟩
      rw [show DSt.readErr (DSt.cut ⟨List.replicate 4 (fillText 0), [(1, q)], true, 1, none⟩ ks) 1 = 14 from rfl]
      have Hb := Hid.of hb
      clear hb Ha
      go_wp2_with fail
      refine (Hb.out.flush (DSt.flush_off rfl) SM8.out).mono ?_
      rintro e wc ⟨rfl, Fc, hc, -⟩
      have Hc := Hid.of hc
      clear hc Hb
      go_wp2_with fail
      refine (diskAlive_any S _).mono ?_
      rintro e wd ⟨rfl, bd⟩
      have Hd := Hid.of (Hc.out.next bd)
      have Ld := Hid.of Hd.out.lto
      clear bd Hc
      go_wp2_with fail
      refine ((Hd.out.next ((Below.refl _ _).alloc (Nat.le_refl _) _)).cut (ks := [1]) rfl (n := 0) rfl SM8.out (ints_made _ [1] _ _ rfl rfl) (fun _ => off_new Ld.out _ _ _ rfl) (by decide)).mono ?_
      rintro e we ⟨rfl, Fe, he, -⟩
      have He := Hid.of he
      have SM9 := Hid.of (SM8.out.cut [1])
      have RM : Hid (((DSt.cut ⟨List.replicate 4 (fillText 0), [(1, q)], true, 1, none⟩ ks).cut [1]).last.length = 4) := Hid.of (by rw [DSt.cut_room, DSt.cut_room]; rfl)
      clear he Hd Ld
      go_wp2_with fail
      refine (He.out.blocks SM9.out).mono ?_
      rintro e wf ⟨rfl, hf, -⟩
      rw [RM.out]
      go_wp2
      go_ret
      exact ⟨rfl, hf.fr⟩
    · have hti : ((t.size : Int) == 256) = true := by rw [ht]; rfl
      rcases hi with hi | ⟨hi, hj⟩
      all_goals
        try have hj4 : decide (i < 4) = false := decide_eq_false (by omega)
        have WR := Hid.of hw
        have RD : Hid (DSt.readErr ⟨List.replicate 4 (fillText 0), [(1, q)], true, 1, none⟩ i = 15) := Hid.of (by unfold DSt.readErr; rw [if_neg (by simp), if_pos (by simp only [List.length_replicate]; omega)])
        have SM : Hid (DSt.Small ⟨List.replicate 4 (fillText 0), [(1, q)], true, 1, none⟩ 1000) := Hid.of (small_rfl rfl)
        clear hw
        go_enter Try.func7, Try.ntmps7
        go_wp2_with fail
        refine (new_disk S 4 _ (by omega) (by omega)).mono ?_
        rintro e w1 ⟨p, F1, rfl, h1⟩
        have H1 := Hid.of h1
        clear h1
        go_wp2_with fail
        refine (Fill_named (c := 113) (by rfl) _).mono ?_
        rintro e w2 ⟨rfl, b2⟩
        rw [HQ.out]
        have H2 := Hid.of (H1.out.next b2)
        clear b2 H1
        go_wp2_with fail
        refine (H2.out.write (i := 1) (t := q) (DSt.write_free _ _ _ 1 q QS.out (by simp)) (small_rfl rfl) QM.out).mono ?_
        rintro e w3 ⟨rfl, F3, h3, -⟩
        have H3 := Hid.of h3
        clear h3 H2
        go_wp2_with fail
        refine (H3.out.write WR.out (small_rfl rfl) T9.out).mono ?_
        rintro e w4 ⟨rfl, F4, h4, -⟩
        have H4 := Hid.of h4
        clear h4 H3
        go_wp2_with fail
        refine (H4.out.read i SM.out).mono ?_
        rintro e w5 ⟨u5, rfl, -, h5, -⟩
        rw [RD.out]
        have H5 := Hid.of h5
        clear h5 H4
        go_wp2_with fail
        refine (H5.out.writes SM.out).mono ?_
        rintro e w6 ⟨rfl, h6, -⟩
        have H6 := Hid.of h6
        clear h6 H5
        go_wp2_with fail
        refine (n_false _).mono ?_
        rintro e w7 ⟨rfl, rfl⟩
        go_wp2_with fail
        refine (H6.out.waiting SM.out).mono ?_
        rintro e w7 ⟨rfl, h7, -⟩
        have H7 := Hid.of h7
        clear h7 H6
        go_wp2_with fail
        refine (n_false _).mono ?_
        rintro e w8 ⟨rfl, rfl⟩
        go_wp2_with fail
        refine (H7.out.cut (ks := ks) rfl (n := 1) rfl SM.out (HC.out.kept H7.out.fr) (H7.out.off_arg HC.out (Nat.le_refl _)) (by have := K9.out; omega)).mono ?_
        rintro e w8 ⟨rfl, F8, h8, -⟩
        have H8 := Hid.of h8
        have SM8 := Hid.of (SM.out.cut ks)
        clear h8 H7
        go_wp2_with fail
        refine (Fill_named (c := 122) (by rfl) _).mono ?_
        rintro e w9 ⟨rfl, b9⟩
        rw [HZ.out]
        have H9 := Hid.of (H8.out.next b9)
        clear b9 H8
        go_wp2_with fail
        refine (H9.out.write (i := 1) (t := z) (DSt.write_off rfl _ _) SM8.out ZM.out).mono ?_
        rintro e wa ⟨rfl, Fa, ha, -⟩
        have Ha := Hid.of ha
        clear ha H9
        go_wp2_with fail
        refine (Ha.out.read 1 SM8.out).mono ?_
        rintro e wb ⟨ub, rfl, -, hb, -⟩
        rw [show DSt.readErr (DSt.cut ⟨List.replicate 4 (fillText 0), [(1, q)], true, 1, none⟩ ks) 1 = 14 from rfl]
        have Hb := Hid.of hb
        clear hb Ha
        go_wp2_with fail
        refine (Hb.out.flush (DSt.flush_off rfl) SM8.out).mono ?_
        rintro e wc ⟨rfl, Fc, hc, -⟩
        have Hc := Hid.of hc
        clear hc Hb
        go_wp2_with fail
        refine (diskAlive_any S _).mono ?_
        rintro e wd ⟨rfl, bd⟩
        have Hd := Hid.of (Hc.out.next bd)
        have Ld := Hid.of Hd.out.lto
        clear bd Hc
        go_wp2_with fail
        refine ((Hd.out.next ((Below.refl _ _).alloc (Nat.le_refl _) _)).cut (ks := [1]) rfl (n := 0) rfl SM8.out (ints_made _ [1] _ _ rfl rfl) (fun _ => off_new Ld.out _ _ _ rfl) (by decide)).mono ?_
        rintro e we ⟨rfl, Fe, he, -⟩
        have He := Hid.of he
        have SM9 := Hid.of (SM8.out.cut [1])
        have RM : Hid (((DSt.cut ⟨List.replicate 4 (fillText 0), [(1, q)], true, 1, none⟩ ks).cut [1]).last.length = 4) := Hid.of (by rw [DSt.cut_room, DSt.cut_room]; rfl)
        clear he Hd Ld
        go_wp2_with fail
        refine (He.out.blocks SM9.out).mono ?_
        rintro e wf ⟨rfl, hf, -⟩
        rw [RM.out]
        go_wp2
        go_ret
        exact ⟨rfl, hf.fr⟩
    · have hti : ((t.size : Int) == 256) = false := by simpa using (show ¬ (t.size : Int) = 256 by omega)
      have htj : ¬ (t.size : Int) = 256 := by omega
      rcases hi with hi | ⟨hi, hj⟩
      all_goals
        try have hj4 : decide (i < 4) = false := decide_eq_false (by omega)
        have WR := Hid.of hw
        have RD : Hid (DSt.readErr ⟨List.replicate 4 (fillText 0), [(1, q)], true, 1, none⟩ i = 15) := Hid.of (by unfold DSt.readErr; rw [if_neg (by simp), if_pos (by simp only [List.length_replicate]; omega)])
        have SM : Hid (DSt.Small ⟨List.replicate 4 (fillText 0), [(1, q)], true, 1, none⟩ 1000) := Hid.of (small_rfl rfl)
        clear hw
        go_enter Try.func7, Try.ntmps7
        go_wp2_with fail
        refine (new_disk S 4 _ (by omega) (by omega)).mono ?_
        rintro e w1 ⟨p, F1, rfl, h1⟩
        have H1 := Hid.of h1
        clear h1
        go_wp2_with fail
        refine (Fill_named (c := 113) (by rfl) _).mono ?_
        rintro e w2 ⟨rfl, b2⟩
        rw [HQ.out]
        have H2 := Hid.of (H1.out.next b2)
        clear b2 H1
        go_wp2_with fail
        refine (H2.out.write (i := 1) (t := q) (DSt.write_free _ _ _ 1 q QS.out (by simp)) (small_rfl rfl) QM.out).mono ?_
        rintro e w3 ⟨rfl, F3, h3, -⟩
        have H3 := Hid.of h3
        clear h3 H2
        go_wp2_with fail
        refine (H3.out.write WR.out (small_rfl rfl) T9.out).mono ?_
        rintro e w4 ⟨rfl, F4, h4, -⟩
        have H4 := Hid.of h4
        clear h4 H3
        go_wp2_with fail
        refine (H4.out.read i SM.out).mono ?_
        rintro e w5 ⟨u5, rfl, -, h5, -⟩
        rw [RD.out]
        have H5 := Hid.of h5
        clear h5 H4
        go_wp2_with fail
        refine (H5.out.writes SM.out).mono ?_
        rintro e w6 ⟨rfl, h6, -⟩
        have H6 := Hid.of h6
        clear h6 H5
        go_wp2_with fail
        refine (n_false _).mono ?_
        rintro e w7 ⟨rfl, rfl⟩
        go_wp2_with fail
        refine (H6.out.waiting SM.out).mono ?_
        rintro e w7 ⟨rfl, h7, -⟩
        have H7 := Hid.of h7
        clear h7 H6
        go_wp2_with fail
        refine (n_false _).mono ?_
        rintro e w8 ⟨rfl, rfl⟩
        go_wp2_with fail
        refine (H7.out.cut (ks := ks) rfl (n := 1) rfl SM.out (HC.out.kept H7.out.fr) (H7.out.off_arg HC.out (Nat.le_refl _)) (by have := K9.out; omega)).mono ?_
        rintro e w8 ⟨rfl, F8, h8, -⟩
        have H8 := Hid.of h8
        have SM8 := Hid.of (SM.out.cut ks)
        clear h8 H7
        go_wp2_with fail
        refine (Fill_named (c := 122) (by rfl) _).mono ?_
        rintro e w9 ⟨rfl, b9⟩
        rw [HZ.out]
        have H9 := Hid.of (H8.out.next b9)
        clear b9 H8
        go_wp2_with fail
        refine (H9.out.write (i := 1) (t := z) (DSt.write_off rfl _ _) SM8.out ZM.out).mono ?_
        rintro e wa ⟨rfl, Fa, ha, -⟩
        have Ha := Hid.of ha
        clear ha H9
        go_wp2_with fail
        refine (Ha.out.read 1 SM8.out).mono ?_
        rintro e wb ⟨ub, rfl, -, hb, -⟩
        rw [show DSt.readErr (DSt.cut ⟨List.replicate 4 (fillText 0), [(1, q)], true, 1, none⟩ ks) 1 = 14 from rfl]
        have Hb := Hid.of hb
        clear hb Ha
        go_wp2_with fail
        refine (Hb.out.flush (DSt.flush_off rfl) SM8.out).mono ?_
        rintro e wc ⟨rfl, Fc, hc, -⟩
        have Hc := Hid.of hc
        clear hc Hb
        go_wp2_with fail
        refine (diskAlive_any S _).mono ?_
        rintro e wd ⟨rfl, bd⟩
        have Hd := Hid.of (Hc.out.next bd)
        have Ld := Hid.of Hd.out.lto
        clear bd Hc
        go_wp2_with fail
        refine ((Hd.out.next ((Below.refl _ _).alloc (Nat.le_refl _) _)).cut (ks := [1]) rfl (n := 0) rfl SM8.out (ints_made _ [1] _ _ rfl rfl) (fun _ => off_new Ld.out _ _ _ rfl) (by decide)).mono ?_
        rintro e we ⟨rfl, Fe, he, -⟩
        have He := Hid.of he
        have SM9 := Hid.of (SM8.out.cut [1])
        have RM : Hid (((DSt.cut ⟨List.replicate 4 (fillText 0), [(1, q)], true, 1, none⟩ ks).cut [1]).last.length = 4) := Hid.of (by rw [DSt.cut_room, DSt.cut_room]; rfl)
        clear he Hd Ld
        go_wp2_with fail
        refine (He.out.blocks SM9.out).mono ?_
        rintro e wf ⟨rfl, hf, -⟩
        rw [RM.out]
        go_wp2
        go_ret
        exact ⟨rfl, hf.fr⟩

end Go.Proofs.Ytpgiknejgolllaa
