/-
  What statement CrcLong answers: true, for every input.
-/
import Derived.Test.YtiiaajejlckklaaCY
import Derived.Deep.DeepCutAuto
import Derived.Deep.QuietTactic
import Derived.BigQuiet
namespace Go.Proofs.Ytiiaajejlckklaa
open Go.RowKit Go.Lib

theorem open_cases (b : ByteArray) : (b.size < 4 ∧ openOf b = (⟨#[]⟩, 5)) ∨ (4 ≤ b.size ∧ openOf b = (b.extract 0 (b.size - 4), 0)) ∨ (4 ≤ b.size ∧ openOf b = (⟨#[]⟩, 7)) := by
  unfold openOf
  by_cases h : b.size < 4
  · exact .inl ⟨h, if_pos h⟩
  · rw [if_neg h]
    split
    · exact .inr (.inl ⟨by omega, rfl⟩)
    · exact .inr (.inr ⟨by omega, rfl⟩)

theorem long_light (s more : ByteArray) (cut : Int) (h : 3000 < s.size ∨ 300 < more.size ∨ cut < 0) (w : World) :
    Calls Try.prog 6 #[.string s, .string more, .int .i64 cut] w fun e w' => e = .returned (.bool true) ∧ Below w.heap.size w w' := by
  have key : ∀ hs : 3000 < s.size ∨ (¬ 3000 < s.size ∧ 300 < more.size) ∨ (¬ 3000 < s.size ∧ ¬ 300 < more.size ∧ cut < 0), Calls Try.prog 6 #[.string s, .string more, .int .i64 cut] w fun e w' => e = .returned (.bool true) ∧ Below w.heap.size w w' := by
    clear h
    intro hs
    rcases hs with h1 | ⟨h1, h2⟩ | ⟨h1, h2, h3⟩
    all_goals
      go_enter Try.func6, Try.ntmps6
      go_wp2_with fail
      refine (alive_any _).mono ?_
      rintro e w1 ⟨rfl, b1⟩
      go_wp2
      go_ret
      exact ⟨rfl, b1⟩
  exact key (by omega)

/-- What Open may answer of what was closed with bytes behind it, and what the statement's first test then comes to. -/
inductive Long (s more : ByteArray) : ByteArray × Int → Prop
  | bad (h : 0 < more.size) : Long s more (⟨#[]⟩, 7)
  | same (h : more.size = 0) : Long s more (s, 0)
  | few (h : 0 < more.size) (h4 : more.size < 4) (t : ByteArray) (ht : t.size = s.size + more.size) : Long s more (t, 0)
  | many (h4 : 4 ≤ more.size) : Long s more (closeOf s ++ more.extract 0 (more.size - 4), 0)

theorem long_open (s more : ByteArray) : Long s more (openOf (closeOf s ++ more)) := by
  have hz : (closeOf s ++ more).size = s.size + 4 + more.size := by rw [ByteArray.size_append, closeOf_size]
  by_cases h0 : more.size = 0
  · have e : closeOf s ++ more = closeOf s := same_bytes (by
      rw [append_list]
      have : more.data.toList = [] := List.eq_nil_of_length_eq_zero (by rw [byte_len]; exact h0)
      rw [this, List.append_nil])
    rw [e, open_close]
    exact .same h0
  · rcases open_cases (closeOf s ++ more) with ⟨h, _⟩ | ⟨_, h⟩ | ⟨_, h⟩
    · omega
    · rw [h]
      by_cases h4 : more.size < 4
      · exact .few (by omega) h4 _ (by rw [take_size _ _ (by omega)]; omega)
      · have e : (closeOf s ++ more).extract 0 ((closeOf s ++ more).size - 4) = closeOf s ++ more.extract 0 (more.size - 4) := same_bytes (by
          rw [take_extract, append_list, append_list, take_extract, hz]
          have e1 : s.size + 4 + more.size - 4 = (closeOf s).data.toList.length + (more.size - 4) := by rw [byte_len, closeOf_size]; omega
          rw [e1, List.take_append]
          rw [List.take_of_length_le (by omega)]
          congr 2
          omega)
        rw [e]
        exact .many (by omega)
    · rw [h]
      exact .bad (by omega)

theorem not_empty (b : ByteArray) (h : 0 < b.size) : b.toList.isEmpty = false := by
  rw [ByteArray.toList_eq]
  have : 0 < b.data.toList.length := by rw [byte_len]; exact h
  cases hml : b.data.toList with
  | nil => rw [hml] at this; simp at this
  | cons _ _ => rfl

theorem is_empty (b : ByteArray) (h : b.size = 0) : b.toList = [] := by
  rw [ByteArray.toList_eq]
  exact List.eq_nil_of_length_eq_zero (by rw [byte_len]; exact h)

theorem not_same {a b : ByteArray} (h : a.size ≠ b.size) : (a.toList == b.toList) = false := by
  refine beq_false_of_ne fun e => ?_
  have := congrArg List.length e
  rw [ByteArray.toList_eq, ByteArray.toList_eq, byte_len, byte_len] at this
  exact h this

set_option maxRecDepth 100000 in
set_option maxHeartbeats 1600000 in
theorem long_any (s more : ByteArray) (c : Nat) (hs : s.size ≤ 3000) (hm : more.size ≤ 300) (w : World) :
    Calls Try.prog 6 #[.string s, .string more, .int .i64 c] w fun e w' => e = .returned (.bool true) ∧ Below w.heap.size w w' := by
  have HS := Hid.of (closeOf_size s)
  have hz : (closeOf s ++ more).size = s.size + 4 + more.size := by rw [ByteArray.size_append, closeOf_size]
  obtain ⟨z, hzz⟩ : ∃ z, closeOf s ++ more = z := ⟨_, rfl⟩
  have hcat := fun w => run_string_add_sum (P := Try.prog) (w := w) (closeOf s) more (by rw [HS.out]; omega)
  rw [hzz] at hcat hz
  have hl := long_open s more
  rw [hzz] at hl
  have HZ := Hid.of hz
  clear hz hzz
  have hsz := closeOf_size s
  go_enter Try.func6, Try.ntmps6
  go_wp2_with fail
  refine (Close_any s (by omega) _).mono ?_
  rintro e w1 ⟨rfl, b1⟩
  go_wp2_with fail
  refine (Open_any z (by rw [HZ.out]; omega) _).mono ?_
  rintro e w2 ⟨rfl, c2⟩
  have b2 : Below w.heap.size w w2 := b1.trans (c2.mono b1.size)
  clear b1 c2 hcat
  generalize openOf z = r at hl ⊢
  have hfull : ((closeOf s).extract 0 (s.size + 4)).data.toList = (closeOf s).data.toList := by
    rw [take_extract, List.take_of_length_le (by rw [byte_len, HS.out]; omega)]
  have HF := Hid.of hfull
  clear hfull
  have hee : (s.toList == s.toList) = true := beq_self_eq_true _
  obtain ⟨k, hk⟩ : ∃ k : Nat, (c : Int) % ((s.size : Int) + 4 + 1) = (k : Int) := Int.eq_ofNat_of_zero_le (Int.emod_nonneg _ (by omega))
  have hkl : (k : Int) ≤ (s.size : Int) + 4 := by have := Int.emod_lt_of_pos (c : Int) (show (0 : Int) < (s.size : Int) + 4 + 1 by omega); omega
  have HK := Hid.of hk
  have HKL := Hid.of hkl
  clear hk hkl
  cases hl
  case' bad h =>
    have hme : more.toList.isEmpty = false := not_empty more h
    go_wp2
    go_quiet (fail)
    go_upto_region 9 with (fail)
  case' same h =>
    have hme : more.toList.isEmpty = true := by rw [is_empty more h]; rfl
    have a3 : min (more.size : Int) 4 = (more.size : Int) := by omega
    have hcmp : (s.toList == ((closeOf s).extract 0 (s.size + 4)).toList) = false := not_same (by rw [take_size _ _ (by omega)]; omega)
    have H0 := Hid.of h
    clear h
    go_wp2
    go_quiet (fail)
    clear a3 hcmp
    go_upto_region 9 with (fail)
  case' few h h4 t ht =>
    have hme : more.toList.isEmpty = false := not_empty more h
    have a3 : min (more.size : Int) 4 = (more.size : Int) := by omega
    have hcmp : (t.toList == ((closeOf s).extract 0 (s.size + 4)).toList) = false := not_same (by rw [take_size _ _ (by omega)]; omega)
    go_wp2
    go_quiet (fail)
    clear a3 hcmp
    go_upto_region 9 with (fail)
  case' many h4 =>
    have hme : more.toList.isEmpty = false := not_empty more (by omega)
    have a3 : min (more.size : Int) 4 = 4 := by omega
    have hcmp : ((closeOf s ++ more.extract 0 (more.size - 4)).toList == ((closeOf s).extract 0 (s.size + 4) ++ more.extract 0 (more.size - 4)).toList) = true := by
      rw [ByteArray.toList_eq, ByteArray.toList_eq, append_list, append_list, HF.out]
      exact beq_self_eq_true _
    obtain ⟨t, ht⟩ : ∃ t, closeOf s ++ more.extract 0 (more.size - 4) = t := ⟨_, rfl⟩
    rw [ht] at hcmp ⊢
    clear ht
    go_wp2
    go_quiet (fail)
    clear a3 hcmp
    go_upto_region 9 with (fail)
  all_goals
    go_upto_region 10 with (fail)
    rw [HK.out]
    have k0 : (0 : Int) ≤ (k : Int) := Int.natCast_nonneg _
    have k1 := HKL.out
    obtain ⟨y, hy⟩ : ∃ y, (closeOf s).extract 0 k = y := ⟨_, rfl⟩
    have hyz : y.size = k := by rw [← hy]; exact take_size _ _ (by omega)
    have HY := Hid.of hy
    have HYZ := Hid.of hyz
    clear hy hyz
    go_wp2_with fail
    rw [HY.out]
    refine (Open_any y (by rw [HYZ.out]; omega) _).mono ?_
    rintro e w3 ⟨rfl, c3⟩
    have b3 : Below w.heap.size w w3 := (below_drewN b2 _).trans (c3.mono (below_drewN b2 _).size)
    clear k0 k1 c3 b2
    rcases open_cases y with ⟨h1, h2⟩ | ⟨h1, h2⟩ | ⟨h1, h2⟩
    · rw [h2]
      have d1 : decide (4 ≤ (k : Int)) = false := decide_eq_false (by rw [HYZ.out] at h1; omega)
      go_wp2_with fail
      refine (alive_any _).mono ?_
      rintro e w4 ⟨rfl, c4⟩
      have b4 : Below w.heap.size w w4 := b3.trans (c4.mono b3.size)
      clear b3 c4 h1 h2
      go_wp2
      go_ret
      exact ⟨rfl, b4⟩
    · rw [h2]
      have d1 : decide (4 ≤ (k : Int)) = true := decide_eq_true (by rw [HYZ.out] at h1; omega)
      obtain ⟨u, hu⟩ : ∃ u, y.extract 0 (y.size - 4) = u := ⟨_, rfl⟩
      have hus : ((u.size : Int) == (k : Int) - 4) = true := beq_iff_eq.2 (by rw [← hu, take_size _ _ (by omega), HYZ.out]; rw [HYZ.out] at h1; omega)
      rw [hu]
      clear hu
      have k8 : (4 : Int) ≤ (k : Int) := by rw [HYZ.out] at h1; omega
      have k9 : (k : Int) ≤ 3004 := by have := HKL.out; omega
      go_wp2_with fail
      refine (alive_any _).mono ?_
      rintro e w4 ⟨rfl, c4⟩
      have b4 : Below w.heap.size w w4 := b3.trans (c4.mono b3.size)
      clear b3 c4 h1 h2
      go_wp2
      go_ret
      exact ⟨rfl, b4⟩
    · rw [h2]
      have d1 : decide (4 ≤ (k : Int)) = true := decide_eq_true (by rw [HYZ.out] at h1; omega)
      go_wp2_with fail
      refine (alive_any _).mono ?_
      rintro e w4 ⟨rfl, c4⟩
      have b4 : Below w.heap.size w w4 := b3.trans (c4.mono b3.size)
      clear b3 c4 h1 h2
      go_wp2
      go_ret
      exact ⟨rfl, b4⟩

theorem long_all (s more : ByteArray) (cut : Int) (w : World) :
    Calls Try.prog 6 #[.string s, .string more, .int .i64 cut] w fun e w' => e = .returned (.bool true) ∧ Below w.heap.size w w' := by
  by_cases h : 3000 < s.size ∨ 300 < more.size ∨ cut < 0
  · exact long_light s more cut h w
  · obtain ⟨c, rfl⟩ := Int.eq_ofNat_of_zero_le (show 0 ≤ cut by omega)
    exact long_any s more c (by omega) (by omega) w

end Go.Proofs.Ytiiaajejlckklaa
