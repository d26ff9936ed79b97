/-
  What the document's own Digits and Print answer.
-/
import Derived.Deep.DeepCutAuto
import Derived.Deep.RegionHeld3
import Derived.Deep.CutBlock
import Derived.Test.YtadepjpmpjipmaaGreatDoorQ15
import Derived.Test.YtadepjpmpjipmaaGreatDoorQ14
namespace Go.Proofs.YtadepjpmpjipmaaGreatDoor
open Go.RowKit Go.Lib

/-- One digit more ahead of the text. -/
theorem pdigit_on {u : Nat} {z : Int} {b acc : ByteArray} (Hb : Hid (b = ⟨#[UInt8.ofNat (48 + z).toNat]⟩)) (Hz : Hid (z = (u : Int) % 10)) :
    (b ++ acc).data.toList = [UInt8.ofNat (48 + u % 10)] ++ acc.data.toList := by
  have e : (48 + z).toNat = 48 + u % 10 := by have := Hz.out; omega
  rw [append_list, Hb.out, e]

theorem pdigit_step {v0 u : Nat} {z : Int} {b acc : ByteArray} (hi : Hid (decDigits v0 = decDigits u ++ acc.data.toList)) (Hb : Hid (b = ⟨#[UInt8.ofNat (48 + z).toNat]⟩)) (Hz : Hid (z = (u : Int) % 10))
    (h : ¬ u < 10) : Hid (decDigits v0 = decDigits (u / 10) ++ (b ++ acc).data.toList) :=
  Hid.of (by rw [hi.out, pDig_step u h, pdigit_on Hb Hz, List.append_assoc])

theorem pdigit_end {v0 u : Nat} {z : Int} {b acc : ByteArray} (hi : Hid (decDigits v0 = decDigits u ++ acc.data.toList)) (Hb : Hid (b = ⟨#[UInt8.ofNat (48 + z).toNat]⟩)) (Hz : Hid (z = (u : Int) % 10))
    (h : u < 10) : Hid ((b ++ acc).data.toList = decDigits v0) :=
  Hid.of (by
    have : u % 10 = u := Nat.mod_eq_of_lt h
    rw [hi.out, pDig_one u h, pdigit_on Hb Hz, this])

set_option maxHeartbeats 800000 in
theorem pRefDigits_pos (v0 : Nat) (hv : Hid (v0 < 9223372036854775808)) (w : World) :
    Calls Tryz.prog 27 #[.int .i64 v0] w fun e w' => ∃ d : ByteArray, e = .returned (.string d) ∧ Hid (d.data.toList = decDigits v0) ∧ Below w.heap.size w w' := by
  have hbig : (v0 : Int) < 9223372036854775808 := by have := hv.out; omega
  have HB := Hid.of hbig
  clear hbig
  have hneg : decide ((v0 : Int) < 0) = false := decide_eq_false (by omega)
  go_enter Tryz.func27, Tryz.ntmps27
  go_wp2
  clear hneg
  go_loopw [0, 3] (fun xv sv wr => ∃ (u : Nat) (acc : ByteArray), xv = .int .i64 u ∧ sv = .string acc ∧ Hid (u ≤ v0) ∧ Hid (decDigits v0 = decDigits u ++ acc.data.toList) ∧ Below w.heap.size w wr) (fun xv _ _ => (RowKit.intOf xv).toNat)
  case atStart => exact ⟨v0, ⟨#[]⟩, rfl, rfl, Hid.of (Nat.le_refl _), Hid.of (by simp), Below.refl _ _⟩
  case round =>
    obtain ⟨u, acc, rfl, rfl, hu, hinv, hbe⟩ := hrel
    obtain ⟨z, hz⟩ : ∃ z : Int, z = (u : Int) % 10 := ⟨_, rfl⟩
    have hacc : acc.size ≤ 20 := by
      have h1 := (digits_few 19 v0 (by decide) (by have := hv.out; omega)).2
      rw [hinv.out, List.length_append, byte_len] at h1
      omega
    obtain ⟨b, hb⟩ : ∃ b : ByteArray, b = ⟨#[UInt8.ofNat (48 + z).toNat]⟩ := ⟨_, rfl⟩
    have hcv := conv_one wr (48 + z)
    rw [← hb] at hcv
    have hbs : b.size = 1 := by rw [hb]; rfl
    have hcat := run_string_add_sum (P := Tryz.prog) (w := wr.alloc (.cells #[.int .u8 (48 + z)] 5)) b acc (by omega)
    have Hb := Hid.of hb
    have hz1 : 0 ≤ z ∧ z ≤ 9 := by omega
    have Hz := Hid.of hz
    have hd0 : decide ((u : Int) % 10 < 0) = false := decide_eq_false (by omega)
    go_upto_region 6 with (fail)
    clear hd0
    rw [← Hz.out]
    have hv2 := hv
    have hu2 := hu
    have hinv2 := hinv
    have hbe2 := hbe
    clear hb hz hbs hacc hv hinv hu hbe
    go_upto_region 7 with (fail)
    clear hcv hcat
    by_cases hlt : u < 10
    · have hq : ((u : Int) / 10 == 0) = true := beq_iff_eq.2 (by omega)
      go_wp2
      go_ret
      exact ⟨_, rfl, pdigit_end hinv2 Hb Hz hlt, hbe2.alloc hbe2.size _⟩
    · have hq : ((u : Int) / 10 == 0) = false := beq_eq_false_iff_ne.2 (by omega)
      have hub : (u : Int) < 9223372036854775808 := by have := hv2.out; have := hu2.out; omega
      go_wp2
      refine ⟨⟨u / 10, b ++ acc, by rw [Int.natCast_ediv]; rfl, rfl, Hid.of (by have := hu2.out; omega), pdigit_step hinv2 Hb Hz hlt, hbe2.alloc hbe2.size _⟩, ?_⟩
      simp only [RowKit.intOf]
      omega


theorem pRefDigits_any (v : Int) (h1 : 0 ≤ v) (h2 : v ≤ 9223372036854775807) (w : World) :
    Calls Tryz.prog 27 #[.int .i64 v] w fun e w' => ∃ d : ByteArray, e = .returned (.string d) ∧ Hid (d.data.toList = itoa v) ∧ Below w.heap.size w w' := by
  obtain ⟨u, rfl⟩ := Int.eq_ofNat_of_zero_le h1
  refine (pRefDigits_pos u (Hid.of (by omega)) w).mono ?_
  rintro e w' ⟨d, he, hd, hb⟩
  refine ⟨d, he, Hid.of (by rw [hd.out]; unfold itoa; rw [if_neg (by omega)]; rfl), hb⟩

theorem flat_head (p : PolL) : flatLines [headWords p] = [112, 111, 108, 105, 99, 121, 32] ++ p.1.data.toList ++ [10] := by
  simp [flatLines, headWords, oneLine, sPolicy]

theorem flat_more (ls : List (List (List UInt8))) (t : TierL) : flatLines (ls ++ [tierWords t]) = flatLines ls ++ (([116, 105, 101, 114, 32] ++ t.1.data.toList ++ [32, 101, 118, 101, 114, 121, 32] ++ itoa t.2.1 ++ [32, 107, 101, 101, 112, 32]) ++ itoa t.2.2.1 ++ [32, 115, 104, 97, 114, 100, 115, 32] ++ itoa t.2.2.2 ++ [10]) := by
  unfold flatLines
  rw [List.map_append, List.flatten_append]
  simp [tierWords, oneLine, sTier, sEvery, sKeep, sShards]

set_option maxRecDepth 20000 in
set_option maxHeartbeats 6400000 in
theorem refPrint_any (v : Value) (p : PolL) (w : World) (hv : PolRow w v p) (hp : p.2.length ≤ 1000000) (hn : p.1.size ≤ maxLen) (ht : ∀ x ∈ p.2, x.1.size ≤ maxLen) :
    Calls Tryz.prog 10 #[v] w fun e w' => e = .returned (.tuple #[.string (pPrint p).1, .int .i64 (pPrint p).2]) ∧ Below w.heap.size w w' := by
  have HV := Hid.of hv
  obtain ⟨sl, rfl, hsl, -⟩ := hv
  have HSL := Hid.of hsl
  obtain ⟨sa, sc, rfl, -⟩ := hsl
  obtain ⟨n, hn'⟩ : ∃ n, p.1 = n := ⟨_, rfl⟩
  obtain ⟨N, hN⟩ : ∃ N, p.2.length = N := ⟨_, rfl⟩
  rw [hn', hN]
  rw [hn', hN] at HV
  rw [hN] at HSL
  obtain ⟨w1, hw1⟩ : ∃ w1, w.alloc (.cells #[.string n, .slice sa N sc] 24) = w1 := ⟨_, rfl⟩
  have b1 : Below w.heap.size w w1 := by rw [← hw1]; exact (Below.refl _ _).alloc (Nat.le_refl _) _
  have K1 : Hid (PBlk w1 w.heap.size n (.slice sa N sc)) := Hid.of (by rw [← hw1]; exact PBlk.made w _ _)
  have HW := Hid.of hw1
  have B1 := Hid.of b1
  have HN := Hid.of hN
  have Hn := Hid.of hn'
  have P1 := Hid.of hp
  have P2 := Hid.of hn
  have P3 := Hid.of ht
  obtain ⟨c0, c1⟩ := K1.out.at
  rw [← hw1] at c0 c1
  clear hw1 b1 hN hn' hp hn ht
  go_enter Tryz.func10, Tryz.ntmps10
  go_wp2_with fail
  rw [HW.out]
  clear HW c0 c1
  refine (refCheck_any _ p _ (HV.out.kept B1.out) P1.out P2.out P3.out).mono ?_
  rintro e w2 ⟨rfl, b2⟩
  have K2 := Hid.of (K1.out.kept b2)
  have B2 := Hid.of (B1.out.trans (b2.mono B1.out.size))
  clear b2 K1 B1
  by_cases hc : (pCheck p).1 = 0
  · have hpp : pPrint p = (⟨(polText p).toArray⟩, 0) := by unfold pPrint; rw [if_pos hc]
    have PP := Hid.of hpp
    have HC := Hid.of hc
    have hn15 := nOk_le (pCheck_in hc).1
    rw [byte_len, Hn.out] at hn15
    obtain ⟨x1, hx1⟩ : ∃ z : ByteArray, z = ⟨#[112, 111, 108, 105, 99, 121, 32]⟩ ++ n := ⟨_, rfl⟩
    have zx1 : x1.size ≤ 30 := by rw [hx1, ByteArray.size_append]; have : (⟨#[112, 111, 108, 105, 99, 121, 32]⟩ : ByteArray).size = 7 := rfl; omega
    have hcatx1 := fun w => run_string_add_sum (P := Tryz.prog) (w := w) ⟨#[112, 111, 108, 105, 99, 121, 32]⟩ n (by have : (⟨#[112, 111, 108, 105, 99, 121, 32]⟩ : ByteArray).size = 7 := rfl; omega)
    rw [← hx1] at hcatx1
    obtain ⟨x2, hx2⟩ : ∃ z : ByteArray, z = x1 ++ ⟨#[10]⟩ := ⟨_, rfl⟩
    have hcatx2 := fun w => run_string_add_sum (P := Tryz.prog) (w := w) x1 ⟨#[10]⟩ (by have : (⟨#[10]⟩ : ByteArray).size = 1 := rfl; omega)
    rw [← hx2] at hcatx2
    have I0 : Hid (x2.data.toList = flatLines (headWords p :: (p.2.take 0).map tierWords)) := Hid.of (by rw [hx2, hx1, append_list, append_list, List.take_zero, List.map_nil, flat_head, Hn.out])
    rw [hc]
    obtain ⟨c0, c1⟩ := K2.out.at
    clear hpp hc hn15 hx1 hx2 zx1
    go_wp2_with fail
    clear hcatx1 hcatx2 c0 c1
    go_loopw [6, 7] (fun sv iv wr => ∃ (i : Nat) (s : ByteArray), i ≤ N ∧ iv = .int .i64 i ∧ sv = .string s ∧ Hid (s.data.toList = flatLines (headWords p :: (p.2.take i).map tierWords)) ∧ Hid (PBlk wr w.heap.size n (.slice sa N sc)) ∧ Hid (Below w.heap.size w wr)) (fun _ iv _ => N - (RowKit.intOf iv).toNat)
    case atStart => exact ⟨0, x2, Nat.zero_le _, rfl, rfl, I0, K2, B2⟩
    case round =>
      clear I0 K2 B2
      obtain ⟨i, s, hi, rfl, rfl, HI, K, B⟩ := hrel
      obtain ⟨c0, c1⟩ := K.out.at
      by_cases hlt : i < N
      · have i0 : (0 : Int) ≤ (i : Int) := Int.natCast_nonneg _
        have i1 : (i : Int) < (N : Int) := by omega
        have hil : i < p.2.length := by rw [HN.out]; exact hlt
        have i9 : (i : Int) ≤ 1000000 := by have := P1.out; have := HN.out; omega
        obtain ⟨xt, hxt⟩ : ∃ xt, p.2[i]? = some xt := ⟨_, List.getElem?_eq_getElem hil⟩
        obtain ⟨tn, te, tk, ts⟩ := xt
        have HX := Hid.of hxt
        have hin := (pCheck_in HC.out).2.2.2 _ (List.mem_of_getElem? hxt)
        obtain ⟨b1, o1, rfl, g1, hc1⟩ := p_at (HSL.out.kept B.out) i _ hxt
        obtain ⟨f0, f1, f2, f3⟩ := hc1
        simp only at f0 f1 f2 f3
        obtain ⟨wa, hwa⟩ : ∃ wa, wr.alloc (.cells #[.string tn, .int .i64 te, .int .i64 tk, .int .i64 ts] 49) = wa := ⟨_, rfl⟩
        have A : Below wr.heap.size wr wa := by rw [← hwa]; exact (Below.refl _ _).alloc (Nat.le_refl _) _
        have TW : Hid (TBlk wa wr.heap.size (tn, te, tk, ts)) := Hid.of (by rw [← hwa]; exact TBlk.made wr (tn, te, tk, ts))
        have BW := Hid.of (B.out.trans (A.mono B.out.size))
        have KW := Hid.of (K.out.kept A)
        have SL : s.size ≤ 500 := by
          have h1 := polText_len HC.out
          have h2 : polText p = flatLines (headWords p :: (p.2.take i).map tierWords) ++ flatLines ((p.2.drop i).map tierWords) := by
            have h3 : polWords p = (headWords p :: (p.2.take i).map tierWords) ++ (p.2.drop i).map tierWords := by
              unfold polWords
              rw [List.cons_append, ← List.map_append, List.take_append_drop]
            rw [polText_flat, h3]
            unfold flatLines
            rw [List.map_append, List.flatten_append]
          rw [h2, List.length_append] at h1
          rw [← byte_len, HI.out]
          omega
        obtain ⟨hn15, he1, he2, hk1, hk2, hs1, hs2⟩ : tn.size ≤ 15 ∧ 1 ≤ te ∧ te ≤ 1000000 ∧ 1 ≤ tk ∧ tk ≤ 1000000 ∧ 1 ≤ ts ∧ ts ≤ 1000000 := by
          have := nOk_le hin.1
          rw [byte_len] at this
          exact ⟨this, hin.2.1.1, hin.2.1.2, hin.2.2.1.1, hin.2.2.1.2, hin.2.2.2.1, hin.2.2.2.2⟩
        obtain ⟨x1, hx1⟩ : ∃ z : ByteArray, z = s ++ ⟨#[116, 105, 101, 114, 32]⟩ := ⟨_, rfl⟩
        have hcatx1 := fun w => run_string_add_sum (P := Tryz.prog) (w := w) s ⟨#[116, 105, 101, 114, 32]⟩ (by have : (⟨#[116, 105, 101, 114, 32]⟩ : ByteArray).size = 5 := rfl; omega)
        have zx1 : x1.size ≤ 505 := by rw [hx1, ByteArray.size_append]; have : (⟨#[116, 105, 101, 114, 32]⟩ : ByteArray).size = 5 := rfl; omega
        rw [← hx1] at hcatx1
        obtain ⟨x2, hx2⟩ : ∃ z : ByteArray, z = x1 ++ tn := ⟨_, rfl⟩
        have hcatx2 := fun w => run_string_add_sum (P := Tryz.prog) (w := w) x1 tn (by omega)
        have zx2 : x2.size ≤ 520 := by rw [hx2, ByteArray.size_append]; omega
        rw [← hx2] at hcatx2
        obtain ⟨x3, hx3⟩ : ∃ z : ByteArray, z = x2 ++ ⟨#[32, 101, 118, 101, 114, 121, 32]⟩ := ⟨_, rfl⟩
        have hcatx3 := fun w => run_string_add_sum (P := Tryz.prog) (w := w) x2 ⟨#[32, 101, 118, 101, 114, 121, 32]⟩ (by have : (⟨#[32, 101, 118, 101, 114, 121, 32]⟩ : ByteArray).size = 7 := rfl; omega)
        have zx3 : x3.size ≤ 528 := by rw [hx3, ByteArray.size_append]; have : (⟨#[32, 101, 118, 101, 114, 121, 32]⟩ : ByteArray).size = 7 := rfl; omega
        rw [← hx3] at hcatx3
        have X3 : Hid (x3.data.toList = s.data.toList ++ ([116, 105, 101, 114, 32] ++ tn.data.toList ++ [32, 101, 118, 101, 114, 121, 32])) := Hid.of (by rw [hx3, hx2, hx1]; simp only [append_list, List.append_assoc])
        have HWA := Hid.of hwa
        clear hxt hin hwa A hx1 hx2 hx3 zx1 zx2 SL
        go_wp2_with fail
        rw [HWA.out]
        clear HWA f0 f1 f2 f3 c0 c1
        generalize wr.heap.size = tb at TW ⊢
        obtain ⟨e0, e1, e2, e3⟩ := TW.out.at
        simp only at e0 e1 e2 e3
        refine wp_region_noPanic ?_
        refine wp_region_held_drew (S := fun w' => w'.cell? ⟨tb, 0, none⟩ = some (.string tn) ∧ w'.cell? ⟨tb, 1, none⟩ = some (.int .i64 te) ∧ w'.cell? ⟨tb, 2, none⟩ = some (.int .i64 tk) ∧ w'.cell? ⟨tb, 3, none⟩ = some (.int .i64 ts)) (by kernel_rfl) ?_ (fun hHeld => ?_)
        · exact ⟨e0, e1, e2, e3⟩
        refine wpAnyH_take (i := 0) (oi := ⟨_, _, _, _, _, _⟩) (v := ?_) rfl (by kernel_rfl) (by kernel_rfl) (by kernel_rfl) (fun _ _ _ h => h) (Or.inl ⟨by rfl, ?_⟩) hHeld ?_
        rotate_left
        · intro w' hSw
          try dsimp only at hSw
          go_simp
          all_goals with_reducible rfl
        simp only [Act.put, List.setIfInBounds_toArray, List.set_cons_zero, List.set_cons_succ]
        refine wpAnyH_take (i := 1) (oi := ⟨_, _, _, _, _, _⟩) (v := ?_) rfl (by kernel_rfl) (by kernel_rfl) (by kernel_rfl) (fun _ _ _ h => h) (Or.inl ⟨by rfl, ?_⟩) hHeld ?_
        rotate_left
        · intro w' hSw
          try dsimp only at hSw
          go_simp
          all_goals with_reducible rfl
        simp only [Act.put, List.setIfInBounds_toArray, List.set_cons_zero, List.set_cons_succ]
        refine wpAnyH_take (i := 2) (oi := ⟨_, _, _, _, _, _⟩) (v := ?_) rfl (by kernel_rfl) (by kernel_rfl) (by kernel_rfl) (fun _ _ _ h => h) (Or.inl ⟨by rfl, ?_⟩) hHeld ?_
        rotate_left
        · intro w' hSw
          try dsimp only at hSw
          go_simp
          all_goals with_reducible rfl
        simp only [Act.put, List.setIfInBounds_toArray, List.set_cons_zero, List.set_cons_succ]
        refine wpAnyH_take (i := 3) (oi := ⟨_, _, _, _, _, _⟩) (v := ?_) rfl (by kernel_rfl) (by kernel_rfl) (by kernel_rfl) (fun _ _ _ h => h) (Or.inl ⟨by rfl, ?_⟩) hHeld ?_
        rotate_left
        · intro w' hSw
          try dsimp only at hSw
          go_simp
          all_goals with_reducible rfl
        simp only [Act.put, List.setIfInBounds_toArray, List.set_cons_zero, List.set_cons_succ]
        refine wpAnyH_take (i := 4) (oi := ⟨_, _, _, _, _, _⟩) (v := ?_) rfl (by kernel_rfl) (by kernel_rfl) (by kernel_rfl) (fun _ _ _ h => h) (Or.inl ⟨by rfl, ?_⟩) hHeld ?_
        rotate_left
        · intro w' hSw
          try dsimp only at hSw
          go_simp
          all_goals with_reducible rfl
        simp only [Act.put, List.setIfInBounds_toArray, List.set_cons_zero, List.set_cons_succ]
        refine wpAnyH_take (i := 5) (oi := ⟨_, _, _, _, _, _⟩) (v := ?_) rfl (by kernel_rfl) (by kernel_rfl) (by kernel_rfl) (fun _ _ _ h => h) (Or.inl ⟨by rfl, ?_⟩) hHeld ?_
        rotate_left
        · intro w' hSw
          try dsimp only at hSw
          go_simp
          all_goals with_reducible rfl
        simp only [Act.put, List.setIfInBounds_toArray, List.set_cons_zero, List.set_cons_succ]
        refine wpAnyH_take (i := 6) (oi := ⟨_, _, _, _, _, _⟩) (v := ?_) rfl (by kernel_rfl) (by kernel_rfl) (by kernel_rfl) (fun _ _ _ h => h) (Or.inl ⟨by rfl, ?_⟩) hHeld ?_
        rotate_left
        · intro w' hSw
          try dsimp only at hSw
          go_simp
          all_goals with_reducible rfl
        simp only [Act.put, List.setIfInBounds_toArray, List.set_cons_zero, List.set_cons_succ]
        refine wpAnyH_take (i := 7) (oi := ⟨_, _, _, _, _, _⟩) (v := ?_) rfl (by kernel_rfl) (by kernel_rfl) (by kernel_rfl) (fun _ _ _ h => h) (Or.inl ⟨by rfl, ?_⟩) hHeld ?_
        rotate_left
        · intro w' hSw
          try dsimp only at hSw
          go_simp
          all_goals with_reducible rfl
        simp only [Act.put, List.setIfInBounds_toArray, List.set_cons_zero, List.set_cons_succ]
        refine wpAnyH_take (i := 11) (oi := ⟨_, _, _, _, _, _⟩) (v := ?_) rfl (by kernel_rfl) (by kernel_rfl) (by kernel_rfl) (fun _ _ _ h => h) (Or.inl ⟨by rfl, ?_⟩) hHeld ?_
        rotate_left
        · intro w' hSw
          try dsimp only at hSw
          go_simp
          all_goals with_reducible rfl
        simp only [Act.put, List.setIfInBounds_toArray, List.set_cons_zero, List.set_cons_succ]
        refine wpAnyH_take (i := 12) (oi := ⟨_, _, _, _, _, _⟩) (v := ?_) rfl (by kernel_rfl) (by kernel_rfl) (by kernel_rfl) (fun _ _ _ h => h) (Or.inl ⟨by rfl, ?_⟩) hHeld ?_
        rotate_left
        · intro w' hSw
          try dsimp only at hSw
          go_simp
          all_goals with_reducible rfl
        simp only [Act.put, List.setIfInBounds_toArray, List.set_cons_zero, List.set_cons_succ]
        refine wpAnyH_take (i := 16) (oi := ⟨_, _, _, _, _, _⟩) (v := ?_) rfl (by kernel_rfl) (by kernel_rfl) (by kernel_rfl) (fun _ _ _ h => h) (Or.inl ⟨by rfl, ?_⟩) hHeld ?_
        rotate_left
        · intro w' hSw
          try dsimp only at hSw
          go_simp
          all_goals with_reducible rfl
        simp only [Act.put, List.setIfInBounds_toArray, List.set_cons_zero, List.set_cons_succ]
        refine wpAnyH_take (i := 17) (oi := ⟨_, _, _, _, _, _⟩) (v := ?_) rfl (by kernel_rfl) (by kernel_rfl) (by kernel_rfl) (fun _ _ _ h => h) (Or.inl ⟨by rfl, ?_⟩) hHeld ?_
        rotate_left
        · intro w' hSw
          try dsimp only at hSw
          go_simp
          all_goals with_reducible rfl
        simp only [Act.put, List.setIfInBounds_toArray, List.set_cons_zero, List.set_cons_succ]
        refine wpAnyH_ready (rs := [8]) (by kernel_rfl) (by simp) ?_
        refine AllReadyH.cons (o := ⟨_, _, _, _, _, _⟩) rfl (fun K hK => ?_) AllReadyH.nil
        go_simp
        refine (pRefDigits_any te (by omega) (by omega) _).mono ?_
        rintro e w6 ⟨dd1, rfl, hdd1, bw6⟩
        have cw6 := (Below.refl _ _).drew.trans bw6
        have Bw6 := Hid.of (BW.out.trans (cw6.mono BW.out.size))
        have Kw6 := Hid.of (KW.out.kept cw6)
        have Tw6 := Hid.of (TW.out.kept cw6)
        clear bw6 cw6 e0 e1 e2 e3 hHeld
        obtain ⟨e0, e1, e2, e3⟩ := Tw6.out.at
        simp only at e0 e1 e2 e3
        have ldd1 : dd1.size ≤ 7 := by rw [← byte_len, hdd1.out]; exact itoa_len (by omega) (by omega)
        obtain ⟨ya, hya⟩ : ∃ z : ByteArray, z = x3 ++ dd1 := ⟨_, rfl⟩
        have zya : ya.size ≤ 535 := by rw [hya, ByteArray.size_append]; omega
        have hcatya := fun w => run_string_add_sum (P := Tryz.prog) (w := w) x3 dd1 (by omega)
        rw [← hya] at hcatya
        obtain ⟨yb, hyb⟩ : ∃ z : ByteArray, z = ya ++ ⟨#[32, 107, 101, 101, 112, 32]⟩ := ⟨_, rfl⟩
        have hcatyb := fun w => run_string_add_sum (P := Tryz.prog) (w := w) ya ⟨#[32, 107, 101, 101, 112, 32]⟩ (by have : (⟨#[32, 107, 101, 101, 112, 32]⟩ : ByteArray).size = 6 := rfl; omega)
        have zyb : yb.size ≤ 543 := by rw [hyb, ByteArray.size_append]; have : (⟨#[32, 107, 101, 101, 112, 32]⟩ : ByteArray).size = 6 := rfl; omega
        rw [← hyb] at hcatyb
        have Xyb : Hid (yb.data.toList = x3.data.toList ++ (itoa te ++ (⟨#[32, 107, 101, 101, 112, 32]⟩ : ByteArray).data.toList)) := Hid.of (by rw [hyb, hya]; simp only [append_list, List.append_assoc, hdd1.out])
        clear hya hyb zya ldd1
        refine hK.out _ _ ⟨e0, e1, e2, e3⟩ (fun hHeld => ?_)
        clear hK K
        try simp only [Act.put, List.setIfInBounds_toArray, List.set_cons_zero, List.set_cons_succ]
        refine wpAnyH_take (i := 9) (oi := ⟨_, _, _, _, _, _⟩) (v := ?_) rfl (by kernel_rfl) (by kernel_rfl) (by kernel_rfl) (fun _ _ _ h => h) (Or.inl ⟨by rfl, ?_⟩) hHeld ?_
        rotate_left
        · intro w' hSw
          try dsimp only at hSw
          go_simp
          all_goals with_reducible rfl
        simp only [Act.put, List.setIfInBounds_toArray, List.set_cons_zero, List.set_cons_succ]
        refine wpAnyH_take (i := 10) (oi := ⟨_, _, _, _, _, _⟩) (v := ?_) rfl (by kernel_rfl) (by kernel_rfl) (by kernel_rfl) (fun _ _ _ h => h) (Or.inl ⟨by rfl, ?_⟩) hHeld ?_
        rotate_left
        · intro w' hSw
          try dsimp only at hSw
          go_simp
          all_goals with_reducible rfl
        simp only [Act.put, List.setIfInBounds_toArray, List.set_cons_zero, List.set_cons_succ]
        refine wpAnyH_ready (rs := [13]) (by kernel_rfl) (by simp) ?_
        refine AllReadyH.cons (o := ⟨_, _, _, _, _, _⟩) rfl (fun K hK => ?_) AllReadyH.nil
        go_simp
        refine (pRefDigits_any tk (by omega) (by omega) _).mono ?_
        rintro e w7 ⟨dd2, rfl, hdd2, bw7⟩
        have cw7 := bw7
        have Bw7 := Hid.of (Bw6.out.trans (cw7.mono Bw6.out.size))
        have Kw7 := Hid.of (Kw6.out.kept cw7)
        have Tw7 := Hid.of (Tw6.out.kept cw7)
        clear bw7 cw7 e0 e1 e2 e3 hHeld
        obtain ⟨e0, e1, e2, e3⟩ := Tw7.out.at
        simp only at e0 e1 e2 e3
        have ldd2 : dd2.size ≤ 7 := by rw [← byte_len, hdd2.out]; exact itoa_len (by omega) (by omega)
        obtain ⟨ua, hua⟩ : ∃ z : ByteArray, z = yb ++ dd2 := ⟨_, rfl⟩
        have zua : ua.size ≤ 550 := by rw [hua, ByteArray.size_append]; omega
        have hcatua := fun w => run_string_add_sum (P := Tryz.prog) (w := w) yb dd2 (by omega)
        rw [← hua] at hcatua
        obtain ⟨ub, hub⟩ : ∃ z : ByteArray, z = ua ++ ⟨#[32, 115, 104, 97, 114, 100, 115, 32]⟩ := ⟨_, rfl⟩
        have hcatub := fun w => run_string_add_sum (P := Tryz.prog) (w := w) ua ⟨#[32, 115, 104, 97, 114, 100, 115, 32]⟩ (by have : (⟨#[32, 115, 104, 97, 114, 100, 115, 32]⟩ : ByteArray).size = 8 := rfl; omega)
        have zub : ub.size ≤ 558 := by rw [hub, ByteArray.size_append]; have : (⟨#[32, 115, 104, 97, 114, 100, 115, 32]⟩ : ByteArray).size = 8 := rfl; omega
        rw [← hub] at hcatub
        have Xub : Hid (ub.data.toList = yb.data.toList ++ (itoa tk ++ (⟨#[32, 115, 104, 97, 114, 100, 115, 32]⟩ : ByteArray).data.toList)) := Hid.of (by rw [hub, hua]; simp only [append_list, List.append_assoc, hdd2.out])
        clear hua hub zua ldd2
        refine hK.out _ _ ⟨e0, e1, e2, e3⟩ (fun hHeld => ?_)
        clear hK K
        try simp only [Act.put, List.setIfInBounds_toArray, List.set_cons_zero, List.set_cons_succ]
        refine wpAnyH_take (i := 14) (oi := ⟨_, _, _, _, _, _⟩) (v := ?_) rfl (by kernel_rfl) (by kernel_rfl) (by kernel_rfl) (fun _ _ _ h => h) (Or.inl ⟨by rfl, ?_⟩) hHeld ?_
        rotate_left
        · intro w' hSw
          try dsimp only at hSw
          go_simp
          all_goals with_reducible rfl
        simp only [Act.put, List.setIfInBounds_toArray, List.set_cons_zero, List.set_cons_succ]
        refine wpAnyH_take (i := 15) (oi := ⟨_, _, _, _, _, _⟩) (v := ?_) rfl (by kernel_rfl) (by kernel_rfl) (by kernel_rfl) (fun _ _ _ h => h) (Or.inl ⟨by rfl, ?_⟩) hHeld ?_
        rotate_left
        · intro w' hSw
          try dsimp only at hSw
          go_simp
          all_goals with_reducible rfl
        simp only [Act.put, List.setIfInBounds_toArray, List.set_cons_zero, List.set_cons_succ]
        refine wpAnyH_ready (rs := [18]) (by kernel_rfl) (by simp) ?_
        refine AllReadyH.cons (o := ⟨_, _, _, _, _, _⟩) rfl (fun K hK => ?_) AllReadyH.nil
        go_simp
        refine (pRefDigits_any ts (by omega) (by omega) _).mono ?_
        rintro e w8 ⟨dd3, rfl, hdd3, bw8⟩
        have cw8 := bw8
        have Bw8 := Hid.of (Bw7.out.trans (cw8.mono Bw7.out.size))
        have Kw8 := Hid.of (Kw7.out.kept cw8)
        have Tw8 := Hid.of (Tw7.out.kept cw8)
        clear bw8 cw8 e0 e1 e2 e3 hHeld
        obtain ⟨e0, e1, e2, e3⟩ := Tw8.out.at
        simp only at e0 e1 e2 e3
        have ldd3 : dd3.size ≤ 7 := by rw [← byte_len, hdd3.out]; exact itoa_len (by omega) (by omega)
        obtain ⟨va, hva⟩ : ∃ z : ByteArray, z = ub ++ dd3 := ⟨_, rfl⟩
        have zva : va.size ≤ 565 := by rw [hva, ByteArray.size_append]; omega
        have hcatva := fun w => run_string_add_sum (P := Tryz.prog) (w := w) ub dd3 (by omega)
        rw [← hva] at hcatva
        obtain ⟨vb, hvb⟩ : ∃ z : ByteArray, z = va ++ ⟨#[10]⟩ := ⟨_, rfl⟩
        have hcatvb := fun w => run_string_add_sum (P := Tryz.prog) (w := w) va ⟨#[10]⟩ (by have : (⟨#[10]⟩ : ByteArray).size = 1 := rfl; omega)
        have zvb : vb.size ≤ 573 := by rw [hvb, ByteArray.size_append]; have : (⟨#[10]⟩ : ByteArray).size = 1 := rfl; omega
        rw [← hvb] at hcatvb
        have Xvb : Hid (vb.data.toList = ub.data.toList ++ (itoa ts ++ (⟨#[10]⟩ : ByteArray).data.toList)) := Hid.of (by rw [hvb, hva]; simp only [append_list, List.append_assoc, hdd3.out])
        clear hva hvb zva ldd3
        refine hK.out _ _ ⟨e0, e1, e2, e3⟩ (fun hHeld => ?_)
        clear hK K
        try simp only [Act.put, List.setIfInBounds_toArray, List.set_cons_zero, List.set_cons_succ]
        refine wpAnyH_take (i := 19) (oi := ⟨_, _, _, _, _, _⟩) (v := ?_) rfl (by kernel_rfl) (by kernel_rfl) (by kernel_rfl) (fun _ _ _ h => h) (Or.inl ⟨by rfl, ?_⟩) hHeld ?_
        rotate_left
        · intro w' hSw
          try dsimp only at hSw
          go_simp
          all_goals with_reducible rfl
        simp only [Act.put, List.setIfInBounds_toArray, List.set_cons_zero, List.set_cons_succ]
        refine wpAnyH_take (i := 20) (oi := ⟨_, _, _, _, _, _⟩) (v := ?_) rfl (by kernel_rfl) (by kernel_rfl) (by kernel_rfl) (fun _ _ _ h => h) (Or.inl ⟨by rfl, ?_⟩) hHeld ?_
        rotate_left
        · intro w' hSw
          try dsimp only at hSw
          go_simp
          all_goals with_reducible rfl
        simp only [Act.put, List.setIfInBounds_toArray, List.set_cons_zero, List.set_cons_succ]
        refine wpAnyH_take (i := 21) (oi := ⟨_, _, _, _, _, _⟩) (v := ?_) rfl (by kernel_rfl) (by kernel_rfl) (by kernel_rfl) (fun _ _ _ h => h) (Or.inl ⟨by rfl, ?_⟩) hHeld ?_
        rotate_left
        · intro w' hSw
          try dsimp only at hSw
          go_simp
          all_goals with_reducible rfl
        simp only [Act.put, List.setIfInBounds_toArray, List.set_cons_zero, List.set_cons_succ]
        refine wpAnyH_done (by kernel_rfl) ?_ _
        refine NoPanic.normal ?_
        go_wp2
        go_roundw
        case rel =>
          refine ⟨i + 1, vb, by omega, by go_num, rfl, Hid.of ?_, Kw8, Bw8⟩
          rw [List.take_add_one, HX.out, Option.toList_some, List.map_append, List.map_singleton, ← List.cons_append, flat_more, ← HI.out, Xvb.out, Xub.out, Xyb.out, X3.out]
          simp
        case measure => simp [RowKit.intOf]; omega
      · have i1 : ¬ (i : Int) < (N : Int) := by omega
        have hiN : i = N := by omega
        have hs : s = ⟨(polText p).toArray⟩ := by
          apply same_bytes
          rw [HI.out, hiN, List.take_of_length_le (by rw [HN.out]; exact Nat.le_refl _)]
          rfl
        have HS := Hid.of hs
        clear hs hiN
        go_wp2
        go_ret2
        rw [PP.out, HS.out]
        exact ⟨rfl, B.out⟩
  · have hpp : pPrint p = (⟨#[]⟩, (pCheck p).1) := by unfold pPrint; rw [if_neg hc]
    obtain ⟨q, hq⟩ : ∃ q, (pCheck p).1 = q := ⟨_, rfl⟩
    rw [hq] at hc hpp ⊢
    have PN := Hid.of hpp
    have q1 : (q != 0) = true := by simpa using hc
    clear hpp hc hq
    go_wp2
    go_ret2
    rw [PN.out]
    exact ⟨rfl, B2.out⟩

end Go.Proofs.YtadepjpmpjipmaaGreatDoor
