/-
  What statement CrcParts answers: true, for every input.
-/
import Derived.Test.YtiiaajejlckklaaCA
import Derived.Deep.DeepCutAuto
namespace Go.Proofs.Ytiiaajejlckklaa
open Go.RowKit Go.Lib

theorem part_list (s : ByteArray) (a t : Nat) (h1 : a ≤ t) (h2 : t ≤ s.size) : s.data.toList.take a ++ (s.extract a t).data.toList = s.data.toList.take t := by
  obtain ⟨n, rfl⟩ : ∃ n, t = a + n := ⟨t - a, by omega⟩
  rw [extract_list, List.take_add]

theorem rest_list (s : ByteArray) (a : Nat) (h : a ≤ s.size) : s.data.toList.take a ++ (s.extract a s.size).data.toList = s.data.toList := by
  rw [part_list s a s.size h (Nat.le_refl _), List.take_of_length_le (by rw [byte_len]; exact Nat.le_refl _)]

theorem extract_le (s : ByteArray) (a t : Nat) : (s.extract a t).size ≤ s.size := by
  rw [ByteArray.size_extract]; omega

theorem texts_two (s t : ByteArray) : texts [s, t] = s.data.toList ++ t.data.toList := by simp [texts]

theorem parts_light (s : ByteArray) (v : Value) (xs : List Int) (h : 3000 < s.size ∨ 40 < xs.length) (w : World) (hv : NumRow .i64 w v xs) :
    Calls Try.prog 5 #[.string s, v] w fun e w' => e = .returned (.bool true) ∧ Below w.heap.size w w' := by
  obtain ⟨a, c, rfl, _⟩ := hv
  have key : ∀ hs : 3000 < s.size ∨ (¬ 3000 < s.size ∧ 40 < xs.length), Calls Try.prog 5 #[.string s, .slice a xs.length c] w fun e w' => e = .returned (.bool true) ∧ Below w.heap.size w w' := by
    clear h
    intro hs
    rcases hs with h1 | ⟨h1, h2⟩
    all_goals
      go_enter Try.func5, Try.ntmps5
      go_wp2_with fail
      refine (alive_any _).mono ?_
      rintro e w1 ⟨rfl, b1⟩
      go_wp2
      go_ret
      exact ⟨rfl, b1⟩
  exact key (by omega)

set_option maxHeartbeats 800000 in
theorem parts_any (s : ByteArray) (v : Value) (xs : List Int) (w : World) (hv : NumRow .i64 w v xs) :
    Calls Try.prog 5 #[.string s, v] w fun e w' => e = .returned (.bool true) ∧ Below w.heap.size w w' := by
  by_cases hl : 3000 < s.size ∨ 40 < xs.length
  · exact parts_light s v xs hl w hv
  · obtain ⟨a, c, rfl, hv⟩ := hv
    have hs : s.size ≤ 3000 := by omega
    have hx : xs.length ≤ 40 := by omega
    have HV := Hid.of hv
    have HE : Hid (∀ t : ByteArray, t.size ≤ s.size → t.size ≤ maxLen) := Hid.of fun t ht => by unfold maxLen; omega
    clear hl hv
    go_enter Try.func5, Try.ntmps5
    go_wp2
    go_loopw [6, 7] (fun av i wr => ∃ (j p : Nat), j ≤ xs.length ∧ i = .int .i64 j ∧ p ≤ s.size ∧ av = .int .i64 p ∧ Below w.heap.size w wr ∧ Hid (SumAt w.heap.size (crcOn 0 (s.data.toList.take p)) wr)) (fun _ i _ => xs.length - (RowKit.intOf i).toNat)
    case atStart => exact ⟨0, 0, Nat.zero_le _, rfl, Nat.zero_le _, rfl, (Below.refl _ _).alloc (Nat.le_refl _) _, Hid.of (by rw [List.take_zero, crcOn_nil]; exact SumAt.new w)⟩
    case round =>
      obtain ⟨j, p, hj, rfl, hp, rfl, hb, hsum⟩ := hrel
      by_cases hlt : j < xs.length
      · have hne : xs ≠ [] := by intro e; subst e; simp at hlt
        obtain ⟨vb, vo, rfl, hvb, hcs⟩ := (HV.out).resolve_left hne
        obtain ⟨x, hxx⟩ : ∃ x, xs.getD j 0 = x := ⟨_, rfl⟩
        have hcell : wr.cell? ⟨vb, vo + j, none⟩ = some (.int .i64 x) := by rw [hb.cell hvb, hcs j hlt, hxx]
        have i0 : (0 : Int) ≤ (j : Int) := Int.natCast_nonneg _
        have i1 : (j : Int) < (xs.length : Int) := by omega
        obtain ⟨t, ht⟩ : ∃ t : Nat, min (max x (p : Int)) (s.size : Int) = (t : Int) := Int.eq_ofNat_of_zero_le (by omega)
        have ht1 : p ≤ t := by omega
        have ht2 : t ≤ s.size := by omega
        clear hcs hne hxx
        go_upto_region 9 with (fail)
        clear hcell ht i0 i1
        have k0 : (0 : Int) ≤ (p : Int) := Int.natCast_nonneg _
        have k1 : (p : Int) ≤ (t : Int) := by omega
        have k2 : (t : Int) ≤ (s.size : Int) := by omega
        go_wp2_with fail
        refine (Add_made w.heap.size _ (crcOn_lt (by decide) _) [s.extract p t] 1 (by rfl) _ _ hsum.out _ _ (by rfl) (by rfl) (by rfl) (by simp) (one_text _ (HE.out _ (extract_le s p t)))).mono ?_
        rintro e w3 ⟨rfl, s3, g3⟩
        rw [texts_one, crcOn_append, part_list s p t ht1 ht2] at s3
        have b3 : Below w.heap.size w w3 := hb.trans (Below.of_grown g3 (Nat.le_refl _) hsum.out.lt)
        have S3 := Hid.of s3
        clear s3 g3 hb hsum
        go_wp2
        go_roundw
        case rel => exact ⟨j + 1, t, by omega, by go_num, ht2, rfl, b3, S3⟩
        case measure => simp [RowKit.intOf]; omega
      · have k0 : (0 : Int) ≤ (p : Int) := Int.natCast_nonneg _
        have k2 : (p : Int) ≤ (s.size : Int) := by omega
        go_wp2_with fail
        refine (Add_made w.heap.size _ (crcOn_lt (by decide) _) [s.extract p s.size, ⟨#[]⟩] 2 (by rfl) _ _ hsum.out _ _ (by rfl) (by rfl) (by rfl) (by simp) (small_texts _ ?_)).mono ?_
        · intro q hq
          simp only [List.mem_cons, List.not_mem_nil, or_false] at hq
          rcases hq with rfl | rfl
          · exact HE.out _ (extract_le s p s.size)
          · decide
        rintro e w3 ⟨rfl, s3, g3⟩
        rw [texts_two, crcOn_append, List.append_nil, rest_list s p hp, crcOn_zero] at s3
        have b3 : Below w.heap.size w w3 := hb.trans (Below.of_grown g3 (Nat.le_refl _) hsum.out.lt)
        have S3 := Hid.of s3
        clear s3 g3 hb hsum
        go_wp2_with fail
        refine (alive_any _).mono ?_
        rintro e w4 ⟨rfl, c4⟩
        have b4 : Below w.heap.size w w4 := b3.trans (c4.mono b3.size)
        have hc := (S3.out.kept (grown_of_below c4)).cell
        clear b3 c4
        go_wp2_with (go_at_call 15; refine (Value_any _ _ _ hc).mono ?_; rintro e w' ⟨rfl, rfl⟩)
        clear hc
        refine (Of_one s (HE.out s (Nat.le_refl _)) w4 _ _ (by rfl) (by rfl)).mono ?_
        rintro e w5 ⟨rfl, c5⟩
        have b5 : Below w.heap.size w w5 := b4.trans (c5.mono b4.size)
        clear b4 c5
        go_wp2_with fail
        refine (Of_any (.slice none 0 0) [] _ ⟨none, 0, rfl, .inl rfl⟩ (by simp) (small_texts _ (by simp))).mono ?_
        rintro e w6 ⟨rfl, c6⟩
        have b6 : Below w.heap.size w w6 := b5.trans (c6.mono b5.size)
        clear b5 c6
        go_wp2_with fail
        refine (Of_one ⟨#[]⟩ (by decide) w6 _ _ (by rfl) (by rfl)).mono ?_
        rintro e w7 ⟨rfl, c7⟩
        have b7 : Below w.heap.size w w7 := b6.trans (c7.mono b6.size)
        clear b6 c7
        go_wp2
        go_ret
        exact ⟨rfl, b7⟩

end Go.Proofs.Ytiiaajejlckklaa
