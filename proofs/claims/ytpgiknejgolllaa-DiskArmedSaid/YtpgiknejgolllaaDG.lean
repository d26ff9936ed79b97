/-
  What statement DiskArmed answers: true, for every input.
-/
import Derived.Test.YtpgiknejgolllaaDB
namespace Go.Proofs.Ytpgiknejgolllaa
open Go.RowKit Go.Lib

/-- The blocks ahead of the cut. -/
def armedLast (a z : ByteArray) : List ByteArray := dApply (List.replicate 12 z) [(11, a)]

theorem armedLast_length (a z : ByteArray) : (armedLast a z).length = 12 := by
  unfold armedLast
  rw [dApply_length, List.length_replicate]

theorem armedLast_at (a z : ByteArray) (i : Nat) (h : i < 11) : (armedLast a z)[i]? = some z := by
  show ((List.replicate 12 z).set 11 a)[i]? = some z
  rw [List.getElem?_set_ne (by omega), List.getElem?_replicate, if_pos (by omega)]

theorem armedLast_end (a z : ByteArray) : (armedLast a z)[11]? = some a := by
  show ((List.replicate 12 z).set 11 a)[11]? = some a
  rw [List.getElem?_set_self (by rw [List.length_replicate]; omega)]

theorem one_byte_arg : (⟨#[98]⟩ : ByteArray).size ≠ 256 := by decide

set_option maxRecDepth 20000 in
set_option maxHeartbeats 6400000 in
theorem diskArmed_main (S : DiskSpec) (n : Int) (v : Value) (ks : List Int) (w : World) (hv : NumRow .i64 w v ks) :
    Calls Try.prog 4 #[.int .i64 n, v] w fun e w' => e = .returned (.bool true) ∧ Below w.heap.size w w' := by
  have HC : Hid (CellRow w v ks.length (ks.map (Value.int .i64))) := Hid.of (NumRow.cells' hv)
  obtain ⟨va, vc, rfl, _⟩ := hv
  by_cases hz : n < 0 ∨ 10 < n ∨ 20 < ks.length
  · have hz' : n < 0 ∨ (¬ n < 0 ∧ 10 < n) ∨ (¬ n < 0 ∧ ¬ 10 < n ∧ 20 < ks.length) := by omega
    clear hz
    rcases hz' with h1 | ⟨h1, h2⟩ | ⟨h1, h2, h3⟩
    all_goals
      go_enter Try.func4, Try.ntmps4
      go_wp2_with fail
      refine (diskAlive_any S _).mono ?_
      rintro e w1 ⟨rfl, b1⟩
      go_wp2
      go_ret
      exact ⟨rfl, b1⟩
  · obtain ⟨m, rfl⟩ : ∃ m : Nat, n = m := ⟨n.toNat, by omega⟩
    have h2 : ¬ (10 : Int) < (m : Int) := by omega
    have h3 : ¬ 20 < ks.length := by omega
    have m0 : (0 : Int) ≤ (m : Int) := Int.natCast_nonneg _
    have M9 : Hid (m ≤ 10) := Hid.of (by omega)
    have K9 : Hid (ks.length ≤ 20) := Hid.of (by omega)
    clear hz
    obtain ⟨a, ha⟩ : ∃ a, fillText 97 = a := ⟨_, rfl⟩
    obtain ⟨b, hb⟩ : ∃ b, fillText 98 = b := ⟨_, rfl⟩
    obtain ⟨c, hc⟩ : ∃ c, fillText 99 = c := ⟨_, rfl⟩
    obtain ⟨z, hz⟩ : ∃ z, fillText 0 = z := ⟨_, rfl⟩
    have AS : Hid (a.size = 256) := Hid.of (by rw [← ha]; exact fillText_size _)
    have BS : Hid (b.size = 256) := Hid.of (by rw [← hb]; exact fillText_size _)
    have CS : Hid (c.size = 256) := Hid.of (by rw [← hc]; exact fillText_size _)
    have AM : Hid (a.size ≤ maxLen) := Hid.of (by rw [← ha]; exact fill_max _)
    have BM : Hid (b.size ≤ maxLen) := Hid.of (by rw [← hb]; exact fill_max _)
    have CM : Hid (c.size ≤ maxLen) := Hid.of (by rw [← hc]; exact fill_max _)
    have HA := Hid.of ha
    have HB := Hid.of hb
    have HCc := Hid.of hc
    have HZ := Hid.of hz
    have FR : Hid (DSt.fresh 12 = ⟨List.replicate 12 z, [], true, 0, none⟩) := Hid.of (by rw [← hz]; rfl)
    clear ha hb hc hz
    go_enter Try.func4, Try.ntmps4
    go_wp2_with fail
    refine (new_disk S 12 _ (by omega) (by omega)).mono ?_
    rintro e w1 ⟨p, F1, rfl, h1⟩
    rw [FR.out] at h1
    have H1 := Hid.of h1
    clear h1 FR
    go_wp2_with fail
    refine (Fill_named (c := 97) (by rfl) _).mono ?_
    rintro e w2 ⟨rfl, b2⟩
    rw [HA.out]
    have H2 := Hid.of (H1.out.next b2)
    clear b2 H1
    go_wp2_with fail
    refine (H2.out.write (i := 11) (t := a) (DSt.write_free _ _ _ 11 a AS.out (by rw [List.length_replicate]; omega)) (small_rfl rfl) AM.out).mono ?_
    rintro e w3 ⟨rfl, F3, h3', -⟩
    have H3 := Hid.of h3'
    clear h3' H2
    go_wp2_with fail
    refine (H3.out.flush (DSt.flush_free _ _ _) (small_rfl rfl)).mono ?_
    rintro e w4 ⟨rfl, F4, h4, -⟩
    have H4 : Hid (DHere S w.heap.size w w4 p ⟨armedLast a z, [], true, 2, none⟩ F4) := Hid.of h4
    clear h4 H3
    go_wp2_with fail
    refine (H4.out.arm (n := (m : Int)) ⟨by simp, by simp, by rw [armedLast_length]; omega⟩ (HC.out.kept H4.out.fr) (H4.out.off_arg HC.out (Nat.le_refl _)) (by have := K9.out; omega) (by omega)).mono ?_
    rintro e w5 ⟨rfl, F5, h5, -⟩
    have H5 : Hid (DHere S w.heap.size w w5 p ⟨armedLast a z, rowWrites b 0, true, 2 + 0, some (m - 0, ks)⟩ F5) := Hid.of (by
      have e1 : DSt.arm ⟨armedLast a z, [], true, 2, none⟩ (m : Int) ks = ⟨armedLast a z, rowWrites b 0, true, 2 + 0, some (m - 0, ks)⟩ := by
        unfold DSt.arm
        rw [if_neg (by omega)]
        rfl
      rw [e1] at h5
      exact h5)
    clear h5 H4
    have L9 := Hid.of (armedLast_length a z)
    obtain ⟨L, hL⟩ : ∃ L, armedLast a z = L := ⟨_, rfl⟩
    rw [hL] at H5 L9
    have HL := Hid.of hL
    clear hL
    go_wp2
    go_loopw [6] (fun iv wr => ∃ (i : Nat) (F : Foot), i ≤ m ∧ iv = .int .i64 i ∧ Hid (DHere S w.heap.size w wr p ⟨L, rowWrites b i, true, 2 + i, some (m - i, ks)⟩ F)) (fun iv _ => m - (RowKit.intOf iv).toNat)
    case atStart => exact ⟨0, F5, Nat.zero_le _, rfl, H5⟩
    case round =>
      obtain ⟨i, F, hi, rfl, H⟩ := hrel
      by_cases hlt : i < m
      · have i1 : (i : Int) < (m : Int) := by omega
        have i0 : (0 : Int) ≤ (i : Int) := Int.natCast_nonneg _
        have SM : Hid (∀ k, k ≤ i + 1 → DSt.Small ⟨L, rowWrites b k, true, 2 + k, some (m - k, ks)⟩ 1000) := Hid.of (fun k hk => ⟨by have := M9.out; simp only; omega, by have := M9.out; simp only [rowWrites_length]; omega, by simp only [L9.out]; omega⟩)
        have WR : Hid (DSt.write ⟨L, rowWrites b i, true, 2 + i, some (m - i, ks)⟩ i b = (0, ⟨L, rowWrites b (i + 1), true, 2 + (i + 1), some (m - (i + 1), ks)⟩)) := Hid.of (by
          have e1 : m - i = (m - (i + 1)) + 1 := by omega
          rw [e1, DSt.write_armed _ _ _ _ _ _ _ BS.out (by rw [L9.out]; have := M9.out; omega), rowWrites_snoc]
          rfl)
        go_wp2_with fail
        refine (Fill_named (c := 98) (by rfl) _).mono ?_
        rintro e x1 ⟨rfl, c1⟩
        rw [HB.out]
        have H6 := Hid.of (H.out.next c1)
        clear c1 H
        go_wp2_with fail
        refine (H6.out.write WR.out (SM.out i (by omega)) BM.out).mono ?_
        rintro e x2 ⟨rfl, F7, h7, -⟩
        have H7 := Hid.of h7
        clear h7 H6
        go_wp2_with fail
        refine (H7.out.write (DSt.write_arg rfl _ _ one_byte_arg) (SM.out (i + 1) (by omega)) (by decide)).mono ?_
        rintro e x3 ⟨rfl, F8, h8, -⟩
        have H8 := Hid.of h8
        clear h8 H7
        go_wp2_with fail
        refine (Fill_named (c := 98) (by rfl) _).mono ?_
        rintro e x4 ⟨rfl, c4⟩
        rw [HB.out]
        have H9 := Hid.of (H8.out.next c4)
        clear c4 H8
        go_wp2_with fail
        refine (H9.out.write (i := 12) (DSt.write_range rfl _ _ BS.out (.inr (by simp only [L9.out]; omega))) (SM.out (i + 1) (by omega)) BM.out).mono ?_
        rintro e x5 ⟨rfl, Fa, ha, -⟩
        have Ha := Hid.of ha
        clear ha H9
        go_wp2
        go_roundw
        case rel => exact ⟨i + 1, Fa, by omega, by go_num, Ha⟩
        case measure => simp [RowKit.intOf]; omega
      · have him : i = m := by omega
        subst him
        clear hlt hi
        have hH := H.out
        rw [Nat.sub_self] at hH
        have H0 := Hid.of hH
        have S0 : Hid (DSt.Small ⟨L, rowWrites b i, true, 2 + i, some (0, ks)⟩ 1000) := Hid.of ⟨by have := M9.out; simp only; omega, by have := M9.out; simp only [rowWrites_length]; omega, by simp only [L9.out]; omega⟩
        clear hH H H5
        go_wp2_with fail
        refine H0.out.isOn.mono ?_
        rintro e y1 ⟨rfl, k1, -⟩
        have H1 := Hid.of k1
        clear k1 H0
        go_wp2_with fail
        refine (H1.out.flush (DSt.flush_power _ _ _ _) S0.out).mono ?_
        rintro e y2 ⟨rfl, F2, k2, -⟩
        have H2 := Hid.of k2
        clear k2 H1
        obtain ⟨R, hR⟩ : ∃ R, dApply L (dStay (rowWrites b i) ks) = R := ⟨_, rfl⟩
        have HR : Hid (∀ j, j < 12 → R[j]? = if j < i ∧ dBit ks j = true then some b else L[j]?) := Hid.of (fun j hj => by rw [← hR]; exact row_left L b ks i j (by rw [L9.out]; exact hj))
        have RL : Hid (R.length = 12) := Hid.of (by rw [← hR, dApply_length]; exact L9.out)
        rw [hR] at H2
        clear hR S0
        have S2 : Hid (∀ on, DSt.Small ⟨R, [], on, 2 + i, none⟩ 1000) := Hid.of (fun on => ⟨by have := M9.out; simp only; omega, by simp, by simp only [RL.out]; omega⟩)
        go_wp2_with fail
        refine H2.out.isOn.mono ?_
        rintro e y3 ⟨rfl, k3, -⟩
        have H3 := Hid.of k3
        clear k3 H2
        go_wp2_with fail
        refine (H3.out.flush (DSt.flush_off rfl) (S2.out false)).mono ?_
        rintro e y4 ⟨rfl, F4, k4, -⟩
        have H4 := Hid.of k4
        clear k4 H3
        go_wp2_with fail
        refine (H4.out.restore (S2.out false)).mono ?_
        rintro e y5 ⟨rfl, F5, k5, -⟩
        have H5 : Hid (DHere S w.heap.size w y5 p ⟨R, [], true, 2 + i, none⟩ F5) := Hid.of k5
        clear k5 H4
        go_wp2
        go_loopw [7, 8, 9, 10] (fun iv _ _ _ wr => ∃ (j : Nat), j ≤ 11 ∧ iv = .int .i64 j ∧ Hid (DHere S w.heap.size w wr p ⟨R, [], true, 2 + i, none⟩ F5)) (fun iv _ _ _ _ => 11 - (RowKit.intOf iv).toNat)
        case atStart => exact ⟨0, by omega, rfl, H5⟩
        case round =>
          obtain ⟨j, hj, rfl, H⟩ := hrel
          by_cases hlt : j < 11
          · have j1 : (j : Int) < 11 := by omega
            have j0 : (0 : Int) ≤ (j : Int) := Int.natCast_nonneg _
            have hLz : L[j]? = some z := by rw [← HL.out]; exact armedLast_at a z j hlt
            have hrow := HR.out j (by omega)
            have key : (¬ j < i ∧ R[j]? = some z) ∨ (j < i ∧ ¬ j < ks.length ∧ R[j]? = some z) ∨ (j < i ∧ j < ks.length ∧ ∃ x, ks[j]? = some x ∧ x % 2 = 1 ∧ R[j]? = some b) ∨ (j < i ∧ j < ks.length ∧ ∃ x, ks[j]? = some x ∧ ¬ x % 2 = 1 ∧ R[j]? = some z) := by
              by_cases c1 : j < i
              · by_cases c2 : j < ks.length
                · have hk : ks[j]? = some ks[j] := List.getElem?_eq_getElem c2
                  by_cases c3 : ks[j] % 2 = 1
                  · refine .inr (.inr (.inl ⟨c1, c2, _, hk, c3, ?_⟩))
                    rw [hrow, if_pos ⟨c1, by simp [dBit, hk, c3]⟩]
                  · refine .inr (.inr (.inr ⟨c1, c2, _, hk, c3, ?_⟩))
                    rw [hrow, if_neg (by simp [dBit, hk, c3])]
                    exact hLz
                · refine .inr (.inl ⟨c1, c2, ?_⟩)
                  rw [hrow, if_neg (by simp [dBit, List.getElem?_eq_none (Nat.le_of_not_lt c2)])]
                  exact hLz
              · refine .inl ⟨c1, ?_⟩
                rw [hrow, if_neg (by simp [c1])]
                exact hLz
            clear hLz hrow
            have he1 : (z.toList == z.toList) = true := same_text z
            have he2 : (b.toList == b.toList) = true := same_text b
            rcases key with ⟨c1, hr⟩ | ⟨c1, c2, hr⟩ | ⟨c1, c2, x, hx, c3, hr⟩ | ⟨c1, c2, x, hx, c3, hr⟩
            · have RD := Hid.of hr
              have d1 : ¬ (j : Int) < (i : Int) := by omega
              clear hr
              go_wp2_with fail
              refine (H.out.reads (i := j) (t := z) rfl RD.out (S2.out true)).mono ?_
              rintro e q1 ⟨rfl, r1, -⟩
              have G1 := Hid.of r1
              clear r1
              go_wp2_with fail
              refine (Fill_named (c := 0) (by rfl) _).mono ?_
              rintro e q2 ⟨rfl, r2⟩
              rw [HZ.out]
              have G2 := Hid.of (G1.out.next r2)
              clear r2
              go_wp2
              go_roundw
              case rel => exact ⟨j + 1, by omega, by go_num, G2⟩
              case measure => simp [RowKit.intOf]; omega
            · have RD := Hid.of hr
              have d1 : (j : Int) < (i : Int) := by omega
              have d2 : ¬ (j : Int) < (ks.length : Int) := by omega
              clear hr
              go_wp2_with fail
              refine (H.out.reads (i := j) (t := z) rfl RD.out (S2.out true)).mono ?_
              rintro e q1 ⟨rfl, r1, -⟩
              have G1 := Hid.of r1
              clear r1
              go_wp2_with fail
              refine (Fill_named (c := 0) (by rfl) _).mono ?_
              rintro e q2 ⟨rfl, r2⟩
              rw [HZ.out]
              have G2 := Hid.of (G1.out.next r2)
              clear r2
              go_wp2
              go_roundw
              case rel => exact ⟨j + 1, by omega, by go_num, G2⟩
              case measure => simp [RowKit.intOf]; omega
            · have RD := Hid.of hr
              have HX := Hid.of hx
              have d1 : (j : Int) < (i : Int) := by omega
              have d2 : (j : Int) < (ks.length : Int) := by omega
              have hb1 : bits .and .i64 x 1 = 1 := by rw [and_1]; exact c3
              obtain ⟨bb, oo, rfl, _, hcell⟩ := int_at0 HC.out j x hx
              have HCE := Hid.of hcell
              have HLT : Hid (bb < w.heap.size) := Hid.of (by assumption)
              clear hr hx hcell
              go_wp2_with fail
              refine (H.out.reads (i := j) (t := b) rfl RD.out (S2.out true)).mono ?_
              rintro e q1 ⟨rfl, r1, -⟩
              have G1 := Hid.of r1
              clear r1
              go_wp2_with fail
              refine (Fill_named (c := 0) (by rfl) _).mono ?_
              rintro e q2 ⟨rfl, r2⟩
              rw [HZ.out]
              have G2 := Hid.of (G1.out.next r2)
              have dx : q2.cell? ⟨bb, oo + j, none⟩ = some (.int .i64 x) := by rw [G2.out.fr.cell HLT.out]; exact HCE.out
              clear r2
              go_wp2_with fail
              refine (Fill_named (c := 98) (by rfl) _).mono ?_
              rintro e q3 ⟨rfl, r3⟩
              rw [HB.out]
              have G3 := Hid.of (G2.out.next r3)
              clear r3
              go_wp2
              go_roundw
              case rel => exact ⟨j + 1, by omega, by go_num, G3⟩
              case measure => simp [RowKit.intOf]; omega
            · have RD := Hid.of hr
              have HX := Hid.of hx
              have d1 : (j : Int) < (i : Int) := by omega
              have d2 : (j : Int) < (ks.length : Int) := by omega
              have hb1 : bits .and .i64 x 1 = 0 := by rw [and_1]; omega
              obtain ⟨bb, oo, rfl, _, hcell⟩ := int_at0 HC.out j x hx
              have HCE := Hid.of hcell
              have HLT : Hid (bb < w.heap.size) := Hid.of (by assumption)
              clear hr hx hcell
              go_wp2_with fail
              refine (H.out.reads (i := j) (t := z) rfl RD.out (S2.out true)).mono ?_
              rintro e q1 ⟨rfl, r1, -⟩
              have G1 := Hid.of r1
              clear r1
              go_wp2_with fail
              refine (Fill_named (c := 0) (by rfl) _).mono ?_
              rintro e q2 ⟨rfl, r2⟩
              rw [HZ.out]
              have G2 := Hid.of (G1.out.next r2)
              have dx : q2.cell? ⟨bb, oo + j, none⟩ = some (.int .i64 x) := by rw [G2.out.fr.cell HLT.out]; exact HCE.out
              clear r2
              go_wp2
              go_roundw
              case rel => exact ⟨j + 1, by omega, by go_num, G2⟩
              case measure => simp [RowKit.intOf]; omega
          · have hj11 : j = 11 := by omega
            subst hj11
            clear hlt hj H5
            have RE : Hid (R[11]? = some a) := Hid.of (by
              rw [HR.out 11 (by omega), if_neg (by have := M9.out; omega), ← HL.out]
              exact armedLast_end a z)
            have he1 : (a.toList == a.toList) = true := same_text a
            have hcnt : ((2 + i + 1 + 1 : Nat) : Int) = (i : Int) + 4 := by omega
            have HCN := Hid.of hcnt
            clear hcnt
            go_wp2_with fail
            refine (H.out.reads (i := 11) (t := a) rfl RE.out (S2.out true)).mono ?_
            rintro e q1 ⟨rfl, r1, -⟩
            have G1 := Hid.of r1
            clear r1 H
            go_wp2_with fail
            refine (diskAlive_any S _).mono ?_
            rintro e q2 ⟨rfl, r2⟩
            have G2 := Hid.of (G1.out.next r2)
            clear r2 G1
            go_wp2_with fail
            refine (Fill_named (c := 97) (by rfl) _).mono ?_
            rintro e q3 ⟨rfl, r3⟩
            rw [HA.out]
            have G3 := Hid.of (G2.out.next r3)
            clear r3 G2
            go_wp2_with fail
            refine (Fill_named (c := 99) (by rfl) _).mono ?_
            rintro e q4 ⟨rfl, r4⟩
            rw [HCc.out]
            have G4 := Hid.of (G3.out.next r4)
            clear r4 G3
            go_wp2_with fail
            refine (G4.out.write (i := 0) (t := c) (DSt.write_free _ _ _ 0 c CS.out (by rw [RL.out]; omega)) (S2.out true) CM.out).mono ?_
            rintro e q5 ⟨rfl, F6, r5, -⟩
            have G5 := Hid.of r5
            clear r5 G4
            go_wp2_with fail
            refine (G5.out.flush (DSt.flush_free _ _ _) ⟨by have := M9.out; simp only; omega, by simp, by simp only [RL.out]; omega⟩).mono ?_
            rintro e q6 ⟨rfl, F7, r6, -⟩
            have G6 := Hid.of r6
            clear r6 G5
            go_wp2_with fail
            refine (G6.out.writes ⟨by have := M9.out; simp only; omega, by simp, by simp only [dApply_length, RL.out]; omega⟩).mono ?_
            rintro e q7 ⟨rfl, r7, -⟩
            rw [HCN.out]
            go_wp2
            go_ret
            exact ⟨rfl, r7.fr⟩

end Go.Proofs.Ytpgiknejgolllaa
