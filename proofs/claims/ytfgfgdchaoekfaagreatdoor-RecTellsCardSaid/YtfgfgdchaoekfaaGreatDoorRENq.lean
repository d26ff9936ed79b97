/-
  The document's own Unpacker (sedimentref1): a name, whatever sixteen bytes there are.
-/
import Derived.Test.YtfgfgdchaoekfaaGreatDoorREQq
namespace Go.Proofs.YtfgfgdchaoekfaaGreatDoor
open Go.RowKit Go.Lib

set_option maxRecDepth 20000 in
set_option maxHeartbeats 1600000 in
theorem refUName_any (u : Nat) (r : ByteArray) (hn : 16 ≤ r.size) (w : World) (h : RUn u r w) :
    Calls Tryz.prog 36 #[.pointer (some ⟨u, 0, none⟩)] w fun e w' => e = .returned (.string (nmText (r.data.toList.take 16))) ∧ RUnE u (r.extract 16 r.size) (if nmOk (r.data.toList.take 16) = true then 0 else 6) w' ∧ w.grownBy w' (some u) := by
  have H := Hid.of h
  have HN := Hid.of hn
  clear h hn
  obtain ⟨b, hb⟩ : ∃ b, r.extract 0 16 = b := ⟨_, rfl⟩
  obtain ⟨r2, hr2⟩ : ∃ r2, r.extract 16 r.size = r2 := ⟨_, rfl⟩
  have hbl : b.data.toList = r.data.toList.take 16 := by rw [← hb]; simp
  have hbs : b.size = 16 := by rw [← hb, ByteArray.size_extract]; have := HN.out; omega
  rw [← hbl, hr2]
  obtain ⟨tx, htx⟩ : ∃ t, nmText b.data.toList = t := ⟨_, rfl⟩
  obtain ⟨ec, hec⟩ : ∃ c : Int, (if nmOk b.data.toList = true then 0 else 6) = c := ⟨_, rfl⟩
  rw [htx, hec]
  have HTX := Hid.of htx
  have HEC := Hid.of hec
  clear htx hec
  have hbe : b.toList.isEmpty = false := name_some hbs
  have h0 : 0 < b.size := by omega
  obtain ⟨m, hm⟩ : ∃ m, (b[0]'h0).toNat = m := ⟨_, rfl⟩
  have HB := Hid.of hb
  have HR2 := Hid.of hr2
  have HBL := Hid.of hbl
  have LM : Hid (nmLen b.data.toList = m) := Hid.of (by
    rw [← hm]
    have e1 : b.data.toList[0]? = some (b[0]'h0) := by
      rw [List.getElem?_eq_getElem (by rw [byte_len]; exact h0)]
      rfl
    unfold nmLen
    rw [List.headD_eq_head?_getD, List.head?_eq_getElem?, e1]
    rfl)
  have m9 : m < 256 := by rw [← hm]; exact (b[0]'h0).toNat_lt
  clear hb hr2 hbl
  go_enter Tryz.func36, Tryz.ntmps36
  go_wp2_with fail
  refine (refTake_good u r 16 HN.out _ H.out).mono ?_
  rintro e w2 ⟨rfl, hu2, g2⟩
  rw [HB.out]
  rw [HR2.out] at hu2
  have HU := Hid.of hu2
  have G2 := Hid.of g2
  clear hu2 g2
  by_cases h15 : m ≤ 15
  · have h16 : ¬ (15 : Int) < (m : Int) := by omega
    go_upto_region 9 with fail
    go_loopg [5] 16 (fun kx iv wr => ∃ i : Nat, iv = .int .i64 i ∧ 1 + m ≤ i ∧ i ≤ 16 ∧ 16 - i ≤ kx ∧ Hid (∀ j, 1 + m ≤ j → j < i → b.data.toList[j]? = some 0) ∧ wr = w2)
    case atStart => exact ⟨1 + m, by go_num, Nat.le_refl _, by omega, by omega, Hid.of (fun j h1 h2 => by omega), rfl⟩
    case round =>
      obtain ⟨i, rfl, hmi, hi, hix, HZ, rfl⟩ := hrel
      have i0 : (0 : Int) ≤ (i : Int) := Int.natCast_nonneg _
      by_cases hlt : (i : Int) < 16
      · have hib : i < b.size := by omega
        obtain ⟨x, hx⟩ : ∃ x, b[i]'hib = x := ⟨_, rfl⟩
        have HX : Hid (b.data.toList[i]? = some x) := Hid.of (by
          rw [← hx, List.getElem?_eq_getElem (by rw [byte_len]; exact hib)]
          rfl)
        by_cases hx0 : x = 0
        · have hxe : (x.toNat == 0) = true := by rw [hx0]; rfl
          have hxi : ((x.toNat : Int) == 0) = true := by rw [hx0]; rfl
          have hxn : ((x.toNat : Int) != 0) = false := by rw [hx0]; rfl
          go_wp2
          go_roundg (16 - (i + 1))
          case measure => omega
          case rel =>
            refine ⟨i + 1, by go_num, by omega, by omega, Nat.le_refl _, Hid.of (fun j h1 h2 => ?_), rfl⟩
            by_cases c : j = i
            · rw [c, HX.out, hx0]
            · exact HZ.out j h1 (by omega)
        · have hx1 : x.toNat ≠ 0 := fun c => hx0 (by
            have := UInt8.toNat_inj.1 (show x.toNat = (0 : UInt8).toNat from c)
            exact this)
          have hxn : ((x.toNat : Int) != 0) = true := by
            simp only [bne_iff_ne, ne_eq]
            omega
          go_wp2_with fail
          refine (refUfail_any u r2 6 _ HU.out).mono ?_
          rintro e w3 ⟨rfl, hu3, g3⟩
          have HU3 := Hid.of hu3
          have G3 := Hid.of g3
          clear hu3 g3
          go_wp2
          go_ret
          have bad : nmOk b.data.toList = false := by
            unfold nmOk
            rw [LM.out, decide_eq_true h15, Bool.true_and, List.all_eq_false]
            refine ⟨x, List.mem_of_getElem? (i := i - (1 + m)) ?_, by simpa using hx0⟩
            rw [List.getElem?_drop, show 1 + m + (i - (1 + m)) = i by omega]
            exact HX.out
          have ht : tx = ⟨#[]⟩ := by rw [← HTX.out]; unfold nmText; rw [bad]; rfl
          have he : ec = 6 := by rw [← HEC.out, bad]; rfl
          subst ht
          subst he
          exact ⟨rfl, HU3.out, grownBy_trans G2.out G3.out⟩
      · obtain rfl : 16 = i := by omega
        have e2 : (b.extract 1 (1 + m)).data.toList = (b.data.toList.drop 1).take m := extract_list b 1 m
        have good : nmOk b.data.toList = true := by
          unfold nmOk
          rw [LM.out, decide_eq_true h15, Bool.true_and, List.all_eq_true]
          intro y hy
          obtain ⟨j, hj, rfl⟩ := List.mem_iff_getElem.1 hy
          rw [List.length_drop, byte_len] at hj
          have h3 := HZ.out (1 + m + j) (by omega) (by omega)
          rw [← List.getElem?_drop, List.getElem?_eq_getElem (by rw [List.length_drop, byte_len]; omega)] at h3
          rw [Option.some.inj h3]
          rfl
        have GD := Hid.of good
        have E2 := Hid.of e2
        have hb1 : 1 + m ≤ b.size := by omega
        clear good e2
        go_wp2
        go_ret
        have he : ec = 0 := by rw [← HEC.out, GD.out]; rfl
        have ht : tx = b.extract 1 (1 + m) := by
          rw [← HTX.out]
          unfold nmText
          rw [if_pos GD.out, LM.out, ← E2.out]
          exact txt_of _
        subst he
        subst ht
        exact ⟨rfl, HU.out, G2.out⟩
  · have h16 : (15 : Int) < (m : Int) := by omega
    go_wp2_with fail
    refine (refUfail_any u r2 6 _ HU.out).mono ?_
    rintro e w3 ⟨rfl, hu3, g3⟩
    have HU3 := Hid.of hu3
    have G3 := Hid.of g3
    clear hu3 g3
    go_wp2
    go_ret
    have bad : nmOk b.data.toList = false := by
      unfold nmOk
      rw [LM.out, decide_eq_false h15]
      rfl
    have ht : tx = ⟨#[]⟩ := by rw [← HTX.out]; unfold nmText; rw [bad]; rfl
    have he : ec = 6 := by rw [← HEC.out, bad]; rfl
    subst ht
    subst he
    exact ⟨rfl, HU3.out, grownBy_trans G2.out G3.out⟩

end Go.Proofs.YtfgfgdchaoekfaaGreatDoor
