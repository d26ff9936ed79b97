/-
  What statement PackSizes answers: true, for every input.
-/
import Derived.Test.YtdlljjbooajgiaaDoorM
namespace Go.Proofs.YtdlljjbooajgiaaDoor
open Go.RowKit Go.Lib

/-- In a world with a new Packer and a slice of one int. -/
theorem packer_and_row (w : World) (v : Int) : Pk w.heap.size w.heap.size [] 0 ((w.alloc (.cells #[.int .i64 0, .int .i64 0, .pointer none] 49)).alloc (.cells #[.int .i64 v] 3)) :=
  (Pk.new w).kept (World.grownBy_alloc _ _ _)

set_option maxHeartbeats 400000 in
theorem sizes_wrong (n v : Int) (hn : ¬ (1 ≤ n ∧ n ≤ 7)) (w : World) (htab : Hid (Tab w)) :
    Calls Tryd.prog 7 #[.int .i64 n, .int .i64 v] w fun e w' => e = .returned (.bool true) ∧ Below w.heap.size w w' := by
  have HN := Hid.of hn
  have key : ∀ hs : (1 ≤ n ∧ ¬ n ≤ 7) ∨ ¬ 1 ≤ n, Calls Tryd.prog 7 #[.int .i64 n, .int .i64 v] w fun e w' => e = .returned (.bool true) ∧ Below w.heap.size w w' := by
    clear hn
    intro hs
    rcases hs with ⟨h1, h2⟩ | h1
    all_goals
      go_enter Tryd.func7, Tryd.ntmps7
      go_wp2_with fail
      refine (Small_pk_wrong (packer_and_row w v) (by decide) n HN.out _).mono ?_
      rintro e w2 ⟨rfl, hk2, g2⟩
      have b2 : Below w.heap.size w w2 := ((((Below.refl _ _).alloc (Nat.le_refl _) _).alloc (by simp) _).trans (Below.of_grown g2 (Nat.le_refl _) (by simp; omega)))
      have HK2 := Hid.of hk2
      clear hk2 g2
      go_wp2_with fail
      refine (Done_bad _ _ _ 1 rfl _ HK2.out).mono ?_
      rintro e w3 ⟨rfl, b3'⟩
      have b3 : Below w.heap.size w w3 := b2.trans (b3'.mono b2.size)
      have T3 := Hid.of (htab.out.below b3 (Nat.le_refl _))
      clear b3' b2 HK2
      go_wp2_with fail
      refine (alive_any _ T3).mono ?_
      rintro e w4 ⟨rfl, b4'⟩
      have b4 : Below w.heap.size w w4 := b3.trans (b4'.mono b3.size)
      clear b3 b4'
      go_wp2
      go_ret
      exact ⟨rfl, b4⟩
  exact key (by omega)

theorem pow_min (k : Nat) (h : k ≤ 7) : wrap64 (2 ^ (8 * min (k : Int) 7).toNat) = 256 ^ k := by
  have e : (8 * min (k : Int) 7).toNat = 8 * k := by omega
  rw [e]; exact pow_wrap k h

set_option maxHeartbeats 400000 in
theorem sizes_bad (k : Nat) (hk : 1 ≤ k) (hk7 : k ≤ 7) (v : Int) (hv : ¬ (0 ≤ v ∧ v < 256 ^ k)) (w : World) (htab : Hid (Tab w)) :
    Calls Tryd.prog 7 #[.int .i64 k, .int .i64 v] w fun e w' => e = .returned (.bool true) ∧ Below w.heap.size w w' := by
  have key : ∀ hs : (0 ≤ v ∧ decide (v < wrap64 (2 ^ (8 * min (k : Int) 7).toNat)) = false) ∨ ¬ 0 ≤ v, Calls Tryd.prog 7 #[.int .i64 k, .int .i64 v] w fun e w' => e = .returned (.bool true) ∧ Below w.heap.size w w' := by
    have HV := Hid.of hv
    clear hv
    intro hs
    rcases hs with ⟨h1, h2⟩ | h1
    all_goals
      go_enter Tryd.func7, Tryd.ntmps7
      go_wp2_with fail
      refine (Small_pk_bad (packer_and_row w v) (by decide) k hk hk7 _ [v] 0 (by simp) (NumRow.made .i64 _ _ [v] _ rfl _ _ _ (by simp) rfl) (fun j hj => absurd hj (by omega)) HV.out (by simp)).mono ?_
      rintro e w2 ⟨rfl, hk2, g2⟩
      have b2 : Below w.heap.size w w2 := ((((Below.refl _ _).alloc (Nat.le_refl _) _).alloc (by simp) _).trans (Below.of_grown g2 (Nat.le_refl _) (by simp; omega)))
      have HK2 := Hid.of hk2
      clear hk2 g2
      go_wp2_with fail
      refine (Done_bad _ _ _ 1 rfl _ HK2.out).mono ?_
      rintro e w3 ⟨rfl, b3'⟩
      have b3 : Below w.heap.size w w3 := b2.trans (b3'.mono b2.size)
      have T3 := Hid.of (htab.out.below b3 (Nat.le_refl _))
      clear b3' b2 HK2
      go_wp2_with fail
      refine (alive_any _ T3).mono ?_
      rintro e w4 ⟨rfl, b4'⟩
      have b4 : Below w.heap.size w w4 := b3.trans (b4'.mono b3.size)
      clear b3 b4'
      go_wp2
      go_ret
      exact ⟨rfl, b4⟩
  by_cases h0 : 0 ≤ v
  · exact key (.inl ⟨h0, decide_eq_false fun hc => hv ⟨h0, by rw [pow_min k hk7] at hc; exact hc⟩⟩)
  · exact key (.inr h0)

theorem Left_n (u : Nat) (s : ByteArray) (k : Nat) (bad : Int) (w : World) (h : Un u s k bad w) (m : Nat) (hm : s.size - k = m) :
    Calls Tryd.prog 26 #[.pointer (some ⟨u, 0, none⟩)] w fun e w' => e = .returned (.int .i64 m) ∧ w.drew = w' := by
  rw [← hm]
  exact Left_Un u s k bad w h

theorem one_ok (x : Int) (k : Nat) (h0 : 0 ≤ x) (h : x < 256 ^ k) : ∀ j, j < [x].length → 0 ≤ [x].getD j 0 ∧ [x].getD j 0 < 256 ^ k := by
  intro j hj
  match j, hj with
  | 0, _ => exact ⟨h0, h⟩
  | j + 1, hj => simp at hj

theorem smallBytes_one (k m : Nat) : smallBytes k [(m : Int)] = le k m := by simp [smallBytes]

set_option maxHeartbeats 400000 in
theorem sizes_good (k : Nat) (hk : 1 ≤ k) (hk7 : k ≤ 7) (m : Nat) (hm : m < 256 ^ k) (w : World) (htab : Hid (Tab w)) :
    Calls Tryd.prog 7 #[.int .i64 k, .int .i64 m] w fun e w' => e = .returned (.bool true) ∧ Below w.heap.size w w' := by
  have hmi : (m : Int) < 256 ^ k := by
    have : (((256 : Nat) ^ k : Nat) : Int) = (256 : Int) ^ k := by simp
    omega
  have h2 : decide ((m : Int) < wrap64 (2 ^ (8 * min (k : Int) 7).toNat)) = true := decide_eq_true (by rw [pow_min k hk7]; exact hmi)
  have HM := Hid.of hm
  have HI := Hid.of hmi
  clear hm hmi
  have hsz : (⟨(le k m).toArray⟩ : ByteArray).size = k := by
    show (le k m).toArray.size = k
    rw [List.size_toArray, le_length]
  have HSZ := Hid.of hsz
  clear hsz
  go_enter Tryd.func7, Tryd.ntmps7
  go_wp2_with fail
  refine (Small_pk (packer_and_row w m) (by decide) k hk hk7 _ [(m : Int)] (NumRow.made .i64 _ _ [(m : Int)] _ rfl _ _ _ (by simp) rfl) (one_ok _ k (Int.natCast_nonneg m) HI.out) (by simp)).mono ?_
  rintro e w2 ⟨rfl, hk2, g2⟩
  have b2 : Below w.heap.size w w2 := ((((Below.refl _ _).alloc (Nat.le_refl _) _).alloc (by simp) _).trans (Below.of_grown g2 (Nat.le_refl _) (by simp; omega)))
  rw [List.nil_append, smallBytes_one] at hk2
  have HK2 := Hid.of hk2
  clear hk2 g2
  go_wp2_with fail
  refine (Done_good _ _ _ _ HK2.out (by rw [le_length]; omega)).mono ?_
  rintro e w3 ⟨rfl, b3'⟩
  have b3 : Below w.heap.size w w3 := b2.trans (b3'.mono b2.size)
  clear b3' b2 HK2
  generalize hs : (⟨(le k m).toArray⟩ : ByteArray) = s at *
  have HS := Hid.of hs
  clear hs
  go_wp2_with fail
  refine (From_any _ _ (by rw [HSZ.out]; omega)).mono ?_
  rintro e w4 ⟨rfl, hu4, g4⟩
  have b4 : Below w.heap.size w w4 := b3.trans ((below_of_none g4).mono b3.size)
  have HU4 := Hid.of hu4
  have hs3 := b3.size
  have T4 := Hid.of (htab.out.below b4 (Nat.le_refl _))
  clear hu4 b3 g4
  go_wp2_with fail
  refine (alive_any _ T4).mono ?_
  rintro e w5 ⟨rfl, b5'⟩
  have b5 : Below w.heap.size w w5 := b4.trans (b5'.mono b4.size)
  have hsk := HSZ.out
  have HU5 := Hid.of (HU4.out.kept (grown_of_below b5'))
  clear b4 b5' HU4 T4
  go_wp2_with fail
  clear hsk
  refine (Small_goodN _ s 0 k hk hk7 (by rw [HSZ.out]; omega) m (by rw [← HS.out]; simp only [List.drop_zero]; rw [List.take_of_length_le (by rw [le_length]; exact Nat.le_refl _)]; exact val_le k m HM.out) _ HU5.out).mono ?_
  rintro e w6 ⟨rfl, hu6, g6⟩
  have b6 : Below w.heap.size w w6 := b5.trans (Below.of_grown g6 (by omega) HU5.out.lt)
  have HU6 := Hid.of hu6
  clear b5 hu6 g6 HU5
  go_wp2_with fail
  refine (Bad_Un _ _ _ _ _ HU6.out).mono ?_
  rintro e w7 ⟨rfl, rfl⟩
  go_wp2_with fail
  refine (Left_n _ _ _ _ _ HU6.out 0 (by rw [HSZ.out]; omega)).mono ?_
  rintro e w8 ⟨rfl, rfl⟩
  have b8 := b6.drew
  clear b6 HU6
  go_wp2
  go_ret
  exact ⟨rfl, b8⟩

theorem sizes_any (n v : Int) (w : World) (htab : Hid (Tab w)) :
    Calls Tryd.prog 7 #[.int .i64 n, .int .i64 v] w fun e w' => e = .returned (.bool true) ∧ Below w.heap.size w w' := by
  by_cases hn : 1 ≤ n ∧ n ≤ 7
  · obtain ⟨k, rfl⟩ := Int.eq_ofNat_of_zero_le (show 0 ≤ n by omega)
    by_cases hv : 0 ≤ v ∧ v < 256 ^ k
    · obtain ⟨m, rfl⟩ := Int.eq_ofNat_of_zero_le hv.1
      refine sizes_good k (by omega) (by omega) m ?_ w htab
      have : (((256 : Nat) ^ k : Nat) : Int) = (256 : Int) ^ k := by simp
      have h2 := hv.2
      rw [← this] at h2
      exact Int.ofNat_lt.1 h2
    · exact sizes_bad k (by omega) (by omega) v hv w htab
  · exact sizes_wrong n v hn w htab

end Go.Proofs.YtdlljjbooajgiaaDoor
