/-
  What statement PackBack answers at the inputs that it does not pass by.
-/
import Derived.Test.YtdlljjbooajgiaaDoorY
namespace Go.Proofs.YtdlljjbooajgiaaDoor
open Go.RowKit Go.Lib

set_option maxHeartbeats 1600000 in
theorem back_full (xs : List Int) (hxs : xs.length ≤ 40) (hwf : Hid (∀ j, j < xs.length → -9223372036854775808 ≤ xs.getD j 0 ∧ xs.getD j 0 ≤ 9223372036854775807)) (a : Option Addr) (c : Nat)
    (name text : ByteArray) (hn : name.size ≤ 15) (ht : text.size ≤ 1000) (wd : Nat) (hwd : Hid (wd < 256 ^ 8)) (k : Nat) (hk : 1 ≤ k) (hk7 : k ≤ 7) (m : Nat) (hm : Hid (m < 256 ^ k))
    (w : World) (hv : NumRow .i64 w (.slice a xs.length c) xs) (htab : Hid (Tab w)) :
    Calls Tryd.prog 5 #[.slice a xs.length c, .string name, .string text, .int .u64 wd, .int .i64 k, .int .i64 m] w fun e w' => e = .returned (.bool true) ∧ Below w.heap.size w w' := by
  have hmi : (m : Int) < 256 ^ k := by
    have : (((256 : Nat) ^ k : Nat) : Int) = (256 : Int) ^ k := by simp
    have := hm.out
    omega
  have h8 : decide (wrap64 (2 ^ (8 * k)) ≤ (m : Int)) = false := decide_eq_false (by rw [pow_wrap k hk7]; omega)
  have HI := Hid.of hmi
  have HV := Hid.of hv
  clear hmi hv
  have q1 : decide (40 < (xs.length : Int)) = false := decide_eq_false (by omega)
  have q2 : decide (15 < (name.size : Int)) = false := decide_eq_false (by omega)
  have q3 : decide (1000 < (text.size : Int)) = false := decide_eq_false (by omega)
  have q4 : decide ((k : Int) < 1) = false := decide_eq_false (by omega)
  have q5 : decide (7 < (k : Int)) = false := decide_eq_false (by omega)
  have q6 : decide ((m : Int) < 0) = false := decide_eq_false (by omega)
  go_enter Tryd.func5, Tryd.ntmps5
  go_wp2_with fail
  refine (Ints_pk (Pk.new w) (by decide) _ xs (NumRow.kept HV.out ((Below.refl _ w).alloc (Nat.le_refl _) _)) (by omega)).mono ?_
  rintro e w1 ⟨rfl, hk1, g1⟩
  have b1 : Below w.heap.size w w1 := ((Below.refl _ _).alloc (Nat.le_refl _) _).trans (Below.of_grown g1 (Nat.le_refl _) (by simp))
  have HK1 := Hid.of hk1
  have hp1 := hk1.len_lt
  clear hk1 g1
  go_wp2_with fail
  refine (Names_pk (HK1.out.kept (World.grownBy_alloc _ _ _)) (by rw [List.nil_append, smallBytes_length, List.length_map]; omega) _ [name] (StrRow.made _ _ [name] _ rfl _ _ _ rfl rfl) (fun j hj => by match j, hj with | 0, _ => exact hn | j + 1, hj => simp at hj) (by simp)).mono ?_
  rintro e w2 ⟨rfl, hk2, g2⟩
  have b2 : Below w.heap.size w w2 := (b1.alloc b1.size _).trans (Below.of_grown g2 (Nat.le_refl _) (by simp; omega))
  have HK2 := Hid.of hk2
  have hp2 := hk2.len_lt
  clear hk2 g2 b1 HK1
  go_wp2_with fail
  refine (Text_pk HK2.out (by rw [List.nil_append, List.length_append, smallBytes_length, List.length_map, namesBytes_length [name] (by simpa using hn)]; simp; omega) text (by omega)).mono ?_
  rintro e w3 ⟨rfl, hk3, g3⟩
  have b3 : Below w.heap.size w w3 := b2.trans (Below.of_grown g3 (Nat.le_refl _) hp2)
  have HK3 := Hid.of hk3
  have hp3 := hk3.len_lt
  have HL3 : Hid (([] ++ smallBytes 8 (xs.map unsigned) ++ namesBytes [name] ++ (le 2 text.size ++ text.data.toList)).length ≤ 100000) := Hid.of (by
    rw [List.nil_append, List.length_append, List.length_append, smallBytes_length, List.length_map, namesBytes_length [name] (by simpa using hn), List.length_append, le_length, byte_len]
    simp; omega)
  clear hk3 g3 b2 HK2
  go_wp2_with fail
  refine (Words_pk (HK3.out.kept (World.grownBy_alloc _ _ _)) (by have := HL3.out; omega) _ [(wd : Int)] (NumRow.made .u64 _ _ [(wd : Int)] _ rfl _ _ _ rfl rfl) (fun j hj => by match j, hj with | 0, _ => exact Int.natCast_nonneg wd | j + 1, hj => simp at hj) (by simp)).mono ?_
  rintro e w4 ⟨rfl, hk4, g4⟩
  have b4 : Below w.heap.size w w4 := (b3.alloc b3.size _).trans (Below.of_grown g4 (Nat.le_refl _) (by simp; omega))
  have HK4 := Hid.of hk4
  have hp4 := hk4.len_lt
  clear hk4 g4 b3 HK3
  go_wp2_with fail
  refine (Small_pk (HK4.out.kept (World.grownBy_alloc _ _ _)) (by rw [List.length_append, smallBytes_length]; have := HL3.out; simp only [List.length_cons, List.length_nil]; omega) k hk hk7 _ [(m : Int)] (NumRow.made .i64 _ _ [(m : Int)] _ rfl _ _ _ rfl rfl) (one_ok _ k (Int.natCast_nonneg m) HI.out) (by simp)).mono ?_
  rintro e w5 ⟨rfl, hk5, g5⟩
  have b5 : Below w.heap.size w w5 := (b4.alloc b4.size _).trans (Below.of_grown g5 (Nat.le_refl _) (by simp; omega))
  rw [back_bytes] at hk5
  have HK5 := Hid.of hk5
  clear hk5 g5 b4 HK4 HL3
  have HLn := Hid.of (back_len xs name text wd k m hn)
  go_wp2_with fail
  refine (Done_good _ _ _ _ HK5.out (by rw [HLn.out]; omega)).mono ?_
  rintro e w6 ⟨rfl, c6⟩
  have b6 : Below w.heap.size w w6 := b5.trans (c6.mono b5.size)
  clear c6 b5 HK5
  obtain ⟨s, hs⟩ : ∃ s : ByteArray, s = ⟨(backBytes xs name text wd k m).toArray⟩ := ⟨_, rfl⟩
  rw [← hs]
  have HS : Hid (s.data.toList = backBytes xs name text wd k m) := Hid.of (by rw [hs])
  have HZ : Hid (s.size = 8 * xs.length + 26 + text.size + k) := Hid.of (by rw [← byte_len, HS.out, HLn.out])
  clear hs
  go_wp2_with fail
  refine (From_any s _ (by rw [HZ.out]; omega)).mono ?_
  rintro e w7 ⟨rfl, hu7, g7⟩
  have b7 : Below w.heap.size w w7 := b6.trans ((below_of_none g7).mono b6.size)
  obtain ⟨ub, hub⟩ : ∃ ub, ub = w6.heap.size := ⟨_, rfl⟩
  have hub1 : w.heap.size ≤ ub := by rw [hub]; exact b6.size
  rw [← hub] at hu7 ⊢
  have HU7 := Hid.of hu7
  clear hu7 g7 b6 hub HLn
  go_wp2_with fail
  clear q1 q2 q3 q4 q5 q6 h8
  go_loopw [17] (fun i wr => ∃ j : Nat, j ≤ xs.length ∧ i = .int .i64 j ∧ Hid (Un ub s (8 * j) 0 wr) ∧ Below w.heap.size w wr) (fun i _ => xs.length - (RowKit.intOf i).toNat)
  case atStart => exact ⟨0, Nat.zero_le _, rfl, HU7, b7⟩
  case round =>
    obtain ⟨j, hj, rfl, HU, hbe⟩ := hrel
    by_cases hlt : j < xs.length
    · have hne : xs ≠ [] := by intro e; subst e; simp at hlt
      obtain ⟨_, _, hsl, hv⟩ := HV.out
      obtain ⟨vb, vo, ha, hvb, hcs⟩ := hv.resolve_left hne
      simp only [Value.slice.injEq] at hsl
      obtain ⟨rfl, _, rfl⟩ := hsl
      subst ha
      obtain ⟨x, hx⟩ : ∃ x, xs.getD j 0 = x := ⟨_, rfl⟩
      have hcell : wr.cell? ⟨vb, vo + j, none⟩ = some (.int .i64 x) := by rw [hbe.cell hvb, hcs j hlt, hx]
      have hval : Hid (wrap64 (val ((s.data.toList.drop (8 * j)).take 8)) = x) := Hid.of (by
        rw [HS.out, back_int xs name text wd k m j hlt, hx, val_le 8 _ (unsigned_lt x)]
        have := hwf.out j hlt
        rw [hx] at this
        exact wrap_unsigned x this.1 this.2)
      have hsz : 8 * j + 8 ≤ s.size := by rw [HZ.out]; omega
      have i0 : (0 : Int) ≤ (j : Int) := Int.natCast_nonneg _
      have i1 : (j : Int) < (xs.length : Int) := by omega
      have hcell0 : Hid (wr.drew.cell? ⟨vb, vo + j, none⟩ = some (.int .i64 x)) := hcell
      clear hx hcs hne HV
      go_wp2_with fail
      go_region_held3 (fun w' => w'.cell? ⟨vb, vo + j, none⟩ = some (.int .i64 x))
        (first | go_keep | exact g8.cell hcell0.out (by simp; omega))
        (first | (go_at_call 24; refine (Int_at ub s (8 * j) hsz x hval.out wr _ HU.out (by rfl)).mono ?_; rintro e w8 ⟨rfl, hu8, g8⟩))
      go_wp2
      go_roundw
      case rel =>
        exact ⟨j + 1, by omega, by go_num, Hid.of (by rw [Nat.mul_succ]; exact hu8), hbe.drew.trans (below_of_grown g8 hub1 hbe.drew.size)⟩
      case measure => simp [RowKit.intOf]; omega
    · have hjl : j = xs.length := by omega
      subst hjl
      have T1 := Hid.of (htab.out.below hbe (Nat.le_refl _))
      go_wp2_with fail
      refine (alive_any _ T1).mono ?_
      rintro e w8 ⟨rfl, c8⟩
      have b8 : Below w.heap.size w w8 := hbe.trans (c8.mono hbe.size)
      have HU8 := Hid.of (HU.out.kept (grown_of_below c8))
      clear c8 hbe HU T1
      go_wp2_with fail
      refine (Name_at ub s name (8 * xs.length) hn (by rw [HZ.out]; omega) (by rw [HS.out]; exact back_name xs name text wd k m hn) _ _ HU8.out rfl).mono ?_
      rintro e w9 ⟨rfl, hu9, g9⟩
      have b9 : Below w.heap.size w w9 := b8.trans (Below.of_grown g9 hub1 HU8.out.lt)
      have HU9 := Hid.of hu9
      clear hu9 g9 b8 HU8
      have en : (name.toList == name.toList) = true := beq_self_eq_true _
      have et : (text.toList == text.toList) = true := beq_self_eq_true _
      go_wp2_with fail
      refine (Text_goodU ub s text (8 * xs.length + 16) (by omega) (by rw [HZ.out]; omega) (Hid.of (by rw [HS.out]; exact back_two xs name text wd k m hn)) (Hid.of (by rw [HS.out]; exact back_text xs name text wd k m hn)) _ HU9.out).mono ?_
      rintro e w10 ⟨rfl, hu10, g10⟩
      have b10 : Below w.heap.size w w10 := b9.trans (Below.of_grown g10 hub1 HU9.out.lt)
      have HU10 := Hid.of hu10
      clear hu10 g10 b9 HU9
      go_wp2_with fail
      refine (Word_at ub s (8 * xs.length + 16 + 2 + text.size) (by rw [HZ.out]; omega) wd (by rw [HS.out, back_word xs name text wd k m hn]; exact val_le 8 wd hwd.out) _ HU10.out).mono ?_
      rintro e w11 ⟨rfl, hu11, g11⟩
      have b11 : Below w.heap.size w w11 := b10.trans (Below.of_grown g11 hub1 HU10.out.lt)
      have HU11 := Hid.of hu11
      clear hu11 g11 b10 HU10
      go_wp2_with fail
      refine (Small_goodN ub s (8 * xs.length + 16 + 2 + text.size + 8) k hk hk7 (by rw [HZ.out]; omega) m (by rw [HS.out, back_small xs name text wd k m hn]; exact val_le k m hm.out) _ HU11.out).mono ?_
      rintro e w12 ⟨rfl, hu12, g12⟩
      have b12 : Below w.heap.size w w12 := b11.trans (Below.of_grown g12 hub1 HU11.out.lt)
      have HU12 := Hid.of hu12
      clear hu12 g12 b11 HU11
      go_wp2_with fail
      refine (Left_n _ _ _ _ _ HU12.out 0 (by rw [HZ.out]; omega)).mono ?_
      rintro e w13 ⟨rfl, rfl⟩
      go_wp2_with fail
      refine (Bad_Un _ _ _ _ w12.drew HU12.out).mono ?_
      rintro e w14 ⟨rfl, rfl⟩
      have b14 := b12.drew
      clear b12 HU12
      go_wp2
      go_ret
      exact ⟨rfl, b14⟩

theorem back_any (sa : Option Addr) (len cap : Nat) (xs : List Int) (hl : xs.length = len) (w : World) (hv : NumRow .i64 w (.slice sa len cap) xs) (hwf : ∀ x ∈ xs, (Lit.int .i64 x).wf = true)
    (name text : ByteArray) (wd : Int) (hwd : 0 ≤ wd ∧ wd < 18446744073709551616) (size small : Int) (htab : Hid (Tab w)) :
    Calls Tryd.prog 5 #[.slice sa len cap, .string name, .string text, .int .u64 wd, .int .i64 size, .int .i64 small] w fun e w' => e = .returned (.bool true) ∧ Below w.heap.size w w' := by
  subst hl
  by_cases h : 40 < xs.length ∨ 15 < name.size ∨ 1000 < text.size ∨ ¬ (1 ≤ size ∧ size ≤ 7) ∨ ¬ (0 ≤ small ∧ small < 256 ^ size.toNat)
  · exact back_light _ xs sa cap rfl name text wd size small h w htab
  · have h1 : xs.length ≤ 40 := by omega
    have h2 : name.size ≤ 15 := by omega
    have h3 : text.size ≤ 1000 := by omega
    have h4 : 1 ≤ size ∧ size ≤ 7 := by
      by_cases hc : 1 ≤ size ∧ size ≤ 7
      · exact hc
      · exact absurd (.inr (.inr (.inr (.inl hc)))) h
    have h5 : 0 ≤ small ∧ small < 256 ^ size.toNat := by
      by_cases hc : 0 ≤ small ∧ small < 256 ^ size.toNat
      · exact hc
      · exact absurd (.inr (.inr (.inr (.inr hc)))) h
    obtain ⟨k, rfl⟩ := Int.eq_ofNat_of_zero_le (show 0 ≤ size by omega)
    obtain ⟨m, rfl⟩ := Int.eq_ofNat_of_zero_le h5.1
    obtain ⟨v, rfl⟩ := Int.eq_ofNat_of_zero_le hwd.1
    refine back_full xs h1 (Hid.of fun j hj => ?_) sa cap name text h2 h3 v (Hid.of ?_) k (by omega) (by omega) m (Hid.of ?_) w hv htab
    · have e : xs.getD j 0 = xs[j] := by simp [List.getD, hj]
      rw [e]
      have := hwf xs[j] (List.getElem_mem hj)
      have e1 : IntKind.i64.min = -9223372036854775808 := rfl
      have e2 : IntKind.i64.max = 9223372036854775807 := rfl
      simpa only [Lit.wf, e1, e2, Bool.and_eq_true, decide_eq_true_eq] using this
    · have := hwd.2
      have e : (256 : Nat) ^ 8 = 18446744073709551616 := by decide
      omega
    · have h6 := h5.2
      have : (((256 : Nat) ^ k : Nat) : Int) = (256 : Int) ^ k := by simp
      rw [show ((k : Int)).toNat = k from Int.toNat_natCast k, ← this] at h6
      exact Int.ofNat_lt.1 h6

end Go.Proofs.YtdlljjbooajgiaaDoor
