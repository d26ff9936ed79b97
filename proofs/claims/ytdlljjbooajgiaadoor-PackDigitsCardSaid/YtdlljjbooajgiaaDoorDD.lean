/-
  What the document's own function Digits (package sedimentref1) answers: what Itoa tells.
-/
import Derived.Test.YtdlljjbooajgiaaDoorDW
import Derived.Test.YtdlljjbooajgiaaDoorW
namespace Go.Proofs.YtdlljjbooajgiaaDoor
open Go.RowKit Go.Lib

theorem conv_one (w : World) (z : Int) : (convert 57 9 (.slice (some ⟨w.heap.size, 0, none⟩) 1 1)).run Tryd.prog (w.alloc (.cells #[.int .u8 z] 5)) = .ok (.string ⟨#[UInt8.ofNat z.toNat]⟩) (w.alloc (.cells #[.int .u8 z] 5)) := by
  rw [run_convert_bytes_string _ 57 9 5 (some ⟨w.heap.size, 0, none⟩) 1 1 Tryd.underlying57 Tryd.underlying5 Tryd.underlying9]
  have hl := run_loadCells_list (P := Tryd.prog) (w.alloc (.cells #[.int .u8 z] 5)) ⟨w.heap.size, 0, none⟩ ([z].map (Value.int .u8)) (fun j v hj => by
    match j, hj with
    | 0, hj =>
      simp at hj
      subst hj
      simp [Addr.add]
    | j + 1, hj => simp at hj)
  rw [run_bytesToString _ _ 1 1 _ hl]
  rfl

/-- One digit more ahead of the text. -/
theorem digit_on {u : Nat} {z : Int} {b acc : ByteArray} (Hb : Hid (b = ⟨#[UInt8.ofNat (48 + z).toNat]⟩)) (Hz : Hid (z = (u : Int) % 10)) :
    (b ++ acc).data.toList = [UInt8.ofNat (48 + u % 10)] ++ acc.data.toList := by
  have e : (48 + z).toNat = 48 + u % 10 := by have := Hz.out; omega
  rw [append_list, Hb.out, e]

theorem digit_step {v0 u : Nat} {z : Int} {b acc : ByteArray} (hi : Hid (decDigits v0 = decDigits u ++ acc.data.toList)) (Hb : Hid (b = ⟨#[UInt8.ofNat (48 + z).toNat]⟩)) (Hz : Hid (z = (u : Int) % 10))
    (h : ¬ u < 10) : Hid (decDigits v0 = decDigits (u / 10) ++ (b ++ acc).data.toList) :=
  Hid.of (by rw [hi.out, decDigits_step u h, digit_on Hb Hz, List.append_assoc])

theorem digit_end {v0 u : Nat} {z : Int} {b acc : ByteArray} (hi : Hid (decDigits v0 = decDigits u ++ acc.data.toList)) (Hb : Hid (b = ⟨#[UInt8.ofNat (48 + z).toNat]⟩)) (Hz : Hid (z = (u : Int) % 10))
    (h : u < 10) : Hid ((b ++ acc).data.toList = decDigits v0) :=
  Hid.of (by
    have : u % 10 = u := Nat.mod_eq_of_lt h
    rw [hi.out, decDigits_one u h, digit_on Hb Hz, this])

set_option maxHeartbeats 800000 in
theorem refDigits_pos (v0 : Nat) (hv : Hid (v0 < 9223372036854775808)) (w : World) :
    Calls Tryd.prog 15 #[.int .i64 v0] w fun e w' => ∃ d : ByteArray, e = .returned (.string d) ∧ Hid (d.data.toList = decDigits v0) ∧ Below w.heap.size w w' := by
  have hbig : (v0 : Int) < 9223372036854775808 := by have := hv.out; omega
  have HB := Hid.of hbig
  clear hbig
  have hneg : decide ((v0 : Int) < 0) = false := decide_eq_false (by omega)
  go_enter Tryd.func15, Tryd.ntmps15
  go_wp2
  clear hneg
  go_loopw [0, 3] (fun xv sv wr => ∃ (u : Nat) (acc : ByteArray), xv = .int .i64 u ∧ sv = .string acc ∧ Hid (u ≤ v0) ∧ Hid (decDigits v0 = decDigits u ++ acc.data.toList) ∧ Below w.heap.size w wr) (fun xv _ _ => (RowKit.intOf xv).toNat)
  case atStart => exact ⟨v0, ⟨#[]⟩, rfl, rfl, Hid.of (Nat.le_refl _), Hid.of (by simp), Below.refl _ _⟩
  case round =>
    obtain ⟨u, acc, rfl, rfl, hu, hinv, hbe⟩ := hrel
    obtain ⟨z, hz⟩ : ∃ z : Int, z = (u : Int) % 10 := ⟨_, rfl⟩
    have hacc : acc.size ≤ 20 := by
      have h1 := digits_short 19 v0 (by decide) (by have := hv.out; omega)
      rw [hinv.out, List.length_append, byte_len] at h1
      omega
    obtain ⟨b, hb⟩ : ∃ b : ByteArray, b = ⟨#[UInt8.ofNat (48 + z).toNat]⟩ := ⟨_, rfl⟩
    have hcv := conv_one wr (48 + z)
    rw [← hb] at hcv
    have hbs : b.size = 1 := by rw [hb]; rfl
    have hcat := run_string_add_sum (P := Tryd.prog) (w := wr.alloc (.cells #[.int .u8 (48 + z)] 5)) b acc (by omega)
    have Hb := Hid.of hb
    have hz1 : 0 ≤ z ∧ z ≤ 9 := by omega
    have Hz := Hid.of hz
    have hd0 : decide ((u : Int) % 10 < 0) = false := decide_eq_false (by omega)
    go_upto_region 6 with (fail)
    clear hd0
    rw [← Hz.out]
    have hv2 := hv
    have hu2 := hu
    have hinv2 := hinv
    have hbe2 := hbe
    clear hb hz hbs hacc hv hinv hu hbe
    go_upto_region 7 with (fail)
    clear hcv hcat
    by_cases hlt : u < 10
    · have hq : ((u : Int) / 10 == 0) = true := beq_iff_eq.2 (by omega)
      go_wp2
      go_ret
      exact ⟨_, rfl, digit_end hinv2 Hb Hz hlt, hbe2.alloc hbe2.size _⟩
    · have hq : ((u : Int) / 10 == 0) = false := beq_eq_false_iff_ne.2 (by omega)
      have hub : (u : Int) < 9223372036854775808 := by have := hv2.out; have := hu2.out; omega
      go_wp2
      refine ⟨⟨u / 10, b ++ acc, by rw [Int.natCast_ediv]; rfl, rfl, Hid.of (by have := hu2.out; omega), digit_step hinv2 Hb Hz hlt, hbe2.alloc hbe2.size _⟩, ?_⟩
      simp only [RowKit.intOf]
      omega

set_option maxHeartbeats 800000 in
theorem refDigits_neg (v0 : Nat) (hp : Hid (1 ≤ v0)) (hv : Hid (v0 ≤ 9223372036854775808)) (w : World) :
    Calls Tryd.prog 15 #[.int .i64 (-(v0 : Int))] w fun e w' => ∃ d : ByteArray, e = .returned (.string d) ∧ Hid (d.data.toList = 45 :: decDigits v0) ∧ Below w.heap.size w w' := by
  have hbig : -9223372036854775808 ≤ -(v0 : Int) := by have := hv.out; omega
  have HB := Hid.of hbig
  clear hbig
  have hneg : decide (0 < v0) = true := decide_eq_true hp.out
  go_enter Tryd.func15, Tryd.ntmps15
  go_wp2
  clear hneg
  go_loopw [0, 3] (fun xv sv wr => ∃ (u : Nat) (acc : ByteArray), xv = .int .i64 (-(u : Int)) ∧ sv = .string acc ∧ Hid (u ≤ v0) ∧ Hid (decDigits v0 = decDigits u ++ acc.data.toList) ∧ Below w.heap.size w wr) (fun xv _ _ => (-(RowKit.intOf xv)).toNat)
  case atStart => exact ⟨v0, ⟨#[]⟩, rfl, rfl, Hid.of (Nat.le_refl _), Hid.of (by simp), Below.refl _ _⟩
  case round =>
    obtain ⟨u, acc, rfl, rfl, hu, hinv, hbe⟩ := hrel
    obtain ⟨z, hz⟩ : ∃ z : Int, z = (u : Int) % 10 := ⟨_, rfl⟩
    have hacc : acc.size ≤ 20 := by
      have h1 := digits_short 19 v0 (by decide) (by have := hv.out; omega)
      rw [hinv.out, List.length_append, byte_len] at h1
      omega
    obtain ⟨b, hb⟩ : ∃ b : ByteArray, b = ⟨#[UInt8.ofNat (48 + z).toNat]⟩ := ⟨_, rfl⟩
    have hcv := conv_one wr (48 + z)
    rw [← hb] at hcv
    have hbs : b.size = 1 := by rw [hb]; rfl
    have hcat := run_string_add_sum (P := Tryd.prog) (w := wr.alloc (.cells #[.int .u8 (48 + z)] 5)) b acc (by omega)
    have hcat2 := Hid.of (run_string_add_sum (P := Tryd.prog) (w := wr.alloc (.cells #[.int .u8 (48 + z)] 5)) ⟨#[45]⟩ (b ++ acc) (by rw [ByteArray.size_append]; show 1 + (b.size + acc.size) ≤ _; omega))
    have Hb := Hid.of hb
    have hz1 : 0 ≤ z ∧ z ≤ 9 := by omega
    have Hz := Hid.of hz
    have hv2 := hv
    have hu2 := hu
    have hinv2 := hinv
    have hbe2 := hbe
    by_cases hz0 : (u : Int) % 10 = 0
    · have hd0 : decide (0 < (u : Int) % 10) = false := decide_eq_false (by omega)
      go_upto_region 6 with (fail)
      clear hd0
      rw [show -((u : Int) % 10) = z by have := Hz.out; omega]
      clear hz0
      clear hb hz hbs hacc hv hinv hu hbe
      go_upto_region 7 with (fail)
      clear hcv hcat
      by_cases hlt : u < 10
      · have hq : ((u : Int) / 10 == 0) = true := beq_iff_eq.2 (by omega)
        have hq2 : (-((u : Int) / 10) == 0) = true := beq_iff_eq.2 (by omega)
        have hcat3 := hcat2.out
        clear hcat2
        go_wp2
        go_ret
        exact ⟨_, rfl, Hid.of (by rw [append_list, (digit_end hinv2 Hb Hz hlt).out]; rfl), hbe2.alloc hbe2.size _⟩
      · have hq : ((u : Int) / 10 == 0) = false := beq_eq_false_iff_ne.2 (by omega)
        have hq2 : (-((u : Int) / 10) == 0) = false := beq_eq_false_iff_ne.2 (by omega)
        have hub : (u : Int) < 9223372036854775809 := by have := hv2.out; have := hu2.out; omega
        go_wp2
        refine ⟨⟨u / 10, b ++ acc, by rw [Int.natCast_ediv]; rfl, rfl, Hid.of (by have := hu2.out; omega), digit_step hinv2 Hb Hz hlt, hbe2.alloc hbe2.size _⟩, ?_⟩
        simp only [RowKit.intOf]
        omega
    · have hd0 : decide (0 < (u : Int) % 10) = true := decide_eq_true (by omega)
      go_upto_region 6 with (fail)
      clear hd0
      rw [← Hz.out]
      clear hz0
      clear hb hz hbs hacc hv hinv hu hbe
      go_upto_region 7 with (fail)
      clear hcv hcat
      by_cases hlt : u < 10
      · have hq : ((u : Int) / 10 == 0) = true := beq_iff_eq.2 (by omega)
        have hq2 : (-((u : Int) / 10) == 0) = true := beq_iff_eq.2 (by omega)
        have hcat3 := hcat2.out
        clear hcat2
        go_wp2
        go_ret
        exact ⟨_, rfl, Hid.of (by rw [append_list, (digit_end hinv2 Hb Hz hlt).out]; rfl), hbe2.alloc hbe2.size _⟩
      · have hq : ((u : Int) / 10 == 0) = false := beq_eq_false_iff_ne.2 (by omega)
        have hq2 : (-((u : Int) / 10) == 0) = false := beq_eq_false_iff_ne.2 (by omega)
        have hub : (u : Int) < 9223372036854775809 := by have := hv2.out; have := hu2.out; omega
        go_wp2
        refine ⟨⟨u / 10, b ++ acc, by rw [Int.natCast_ediv]; rfl, rfl, Hid.of (by have := hu2.out; omega), digit_step hinv2 Hb Hz hlt, hbe2.alloc hbe2.size _⟩, ?_⟩
        simp only [RowKit.intOf]
        omega

theorem refDigits_any (v : Int) (h1 : -9223372036854775808 ≤ v) (h2 : v ≤ 9223372036854775807) (w : World) :
    Calls Tryd.prog 15 #[.int .i64 v] w fun e w' => ∃ d : ByteArray, e = .returned (.string d) ∧ Hid (d.data.toList = itoa v) ∧ Below w.heap.size w w' := by
  by_cases hn : v < 0
  · obtain ⟨u, rfl⟩ : ∃ u : Nat, v = -(u : Int) := ⟨v.natAbs, by omega⟩
    refine (refDigits_neg u (Hid.of (by omega)) (Hid.of (by omega)) w).mono ?_
    rintro e w' ⟨d, he, hd, hb⟩
    exact ⟨d, he, Hid.of (by rw [hd.out, itoa_neg u (by omega)]), hb⟩
  · obtain ⟨u, rfl⟩ := Int.eq_ofNat_of_zero_le (show 0 ≤ v by omega)
    refine (refDigits_pos u (Hid.of (by omega)) w).mono ?_
    rintro e w' ⟨d, he, hd, hb⟩
    exact ⟨d, he, Hid.of (by rw [hd.out, itoa_nonneg u]), hb⟩

end Go.Proofs.YtdlljjbooajgiaaDoor
