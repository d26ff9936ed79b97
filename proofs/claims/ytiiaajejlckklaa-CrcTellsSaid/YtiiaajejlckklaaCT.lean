/-
  What statement CrcTells answers: true, for every input.
-/
import Derived.Test.YtiiaajejlckklaaCX
import Derived.Test.YtiiaajejlckklaaBB
import Derived.Test.YtiiaajejlckklaaBT
namespace Go.Proofs.Ytiiaajejlckklaa
open Go.RowKit Go.Lib

theorem texts_length (ss : List ByteArray) : (texts ss).length = total ss := by
  unfold texts total
  rw [List.length_flatten, List.map_map]
  congr 1

set_option maxRecDepth 100000 in
set_option maxHeartbeats 1600000 in
theorem tells_any (v : Value) (ss : List ByteArray) (b : ByteArray) (w : World) (hv : StrRow w v ss) (hm : ∀ s ∈ ss, s.size ≤ maxLen) :
    Calls Try.prog 3 #[v, .string b] w fun e w' => e = .returned (.bool true) ∧ Below w.heap.size w w' := by
  have HM := small_texts ss hm
  have HV := Hid.of hv
  obtain ⟨va, vc, rfl, _⟩ := hv
  clear hm
  go_enter Try.func3, Try.ntmps3
  go_wp2_with fail
  refine (Short_sum 60 6000 (by decide) (by decide) _ ss _ HV.out).mono ?_
  rintro e w1 ⟨r, rfl, hr, b1⟩
  cases r with
  | false =>
    go_wp2_with fail
    refine (alive_any _).mono ?_
    rintro e w4 ⟨rfl, b4⟩
    have b5 : Below w.heap.size w w4 := b1.trans (b4.mono b1.size)
    clear b4 b1
    go_wp2
    go_ret
    exact ⟨rfl, b5⟩
  | true =>
    have HR := Hid.of (hr.out rfl)
    have HL : Hid (∀ j, (texts (ss.take j)).length ≤ 6000) := Hid.of fun j => by rw [texts_length]; have := total_take_le ss j; have := HR.out.2; omega
    have HV1 := Hid.of (HV.out.kept b1)
    have hn : ss.length ≤ 60 := HR.out.1
    clear hr
    have hB := b1.size
    by_cases hbig : 3000 < b.size
    · go_wp2_with fail
      refine (alive_any _).mono ?_
      rintro e w4 ⟨rfl, b4⟩
      have b5 : Below w.heap.size w w4 := b1.trans (b4.mono b1.size)
      clear b4 b1
      go_wp2
      go_ret
      exact ⟨rfl, b5⟩
    · have hb3 : b.size ≤ 3000 := by omega
      go_wp2
      obtain ⟨p, hp⟩ : ∃ p, w1.heap.size = p := ⟨_, rfl⟩
      have hsum := SumAt.new w1
      have hb2 : Below w.heap.size w (w1.alloc (.cells #[.int .u32 0] 28)) := b1.alloc b1.size _
      rw [hp] at hB hsum ⊢
      have HSUM := Hid.of hsum
      clear hp hsum b1
      go_loopw [5, 7] (fun tv i wr => ∃ (j : Nat) (t : ByteArray), j ≤ ss.length ∧ i = .int .i64 j ∧ tv = .string t ∧ Hid (t.data.toList = texts (ss.take j)) ∧ Below w.heap.size w wr ∧ Hid (SumAt p (crcOn 0 (texts (ss.take j))) wr)) (fun _ i _ => ss.length - (RowKit.intOf i).toNat)
      case atStart => exact ⟨0, ⟨#[]⟩, Nat.zero_le _, rfl, rfl, Hid.of rfl, hb2, Hid.of (by rw [List.take_zero]; exact HSUM.out)⟩
      case round =>
        obtain ⟨j, t, hj, rfl, rfl, ht, hb, hsum⟩ := hrel
        by_cases hlt : j < ss.length
        · have hne : ss ≠ [] := by intro e; subst e; simp at hlt
          obtain ⟨_, _, hsl, hv⟩ := HV.out
          obtain ⟨vb, vo, ha, hvb, hcs⟩ := hv.resolve_left hne
          simp only [Value.slice.injEq] at hsl
          obtain ⟨rfl, _, rfl⟩ := hsl
          subst ha
          obtain ⟨s, hs⟩ : ∃ s, ss.getD j ByteArray.empty = s := ⟨_, rfl⟩
          have hcell : wr.cell? ⟨vb, vo + j, none⟩ = some (.string s) := by rw [hb.cell hvb, hcs j hlt, hs]
          have i0 : (0 : Int) ≤ (j : Int) := Int.natCast_nonneg _
          have i1 : (j : Int) < (ss.length : Int) := by omega
          have HT := Hid.of (texts_take ss j hlt)
          rw [hs] at HT
          have htz : t.size ≤ 6000 := by rw [← byte_len, ht.out]; exact HL.out j
          have hsz : s.size ≤ 6000 := by
            have := HL.out (j + 1)
            rw [HT.out, List.length_append, byte_len] at this
            omega
          obtain ⟨q, hq⟩ : ∃ q : ByteArray, t ++ s = q := ⟨_, rfl⟩
          have hcat := run_string_add_sum (P := Try.prog) (w := wr) t s (by omega)
          rw [hq] at hcat
          have HQ : Hid (q.data.toList = texts (ss.take (j + 1))) := Hid.of (by rw [← hq, append_list, HT.out, ht.out])
          have HSZ := Hid.of hsz
          clear hcs hne hs hq htz hsz HM HV HV1
          go_upto_region 9 with (fail)
          clear hcat
          go_wp2_with fail
          refine (Add_made p _ (crcOn_lt (by decide) _) [s] 1 (by rfl) _ _ hsum.out _ _ (by rfl) (by rfl) (by rfl) (by simp) (one_text s (by have := HSZ.out; unfold maxLen; omega))).mono ?_
          rintro e w3 ⟨rfl, s3, g3⟩
          rw [texts_one, crcOn_append] at s3
          have b3 : Below w.heap.size w w3 := hb.trans (Below.of_grown g3 hB hsum.out.lt)
          have S3 := Hid.of s3
          clear s3 g3 hb hsum
          go_wp2
          go_roundw
          case rel => exact ⟨j + 1, q, by omega, by go_num, rfl, HQ, b3, Hid.of (by rw [HT.out]; exact S3.out)⟩
          case measure => simp [RowKit.intOf]; omega
        · have hjl : j = ss.length := by omega
          subst hjl
          have h1 := ht.out
          have h2 := hsum.out
          rw [List.take_length] at h1 h2
          rw [crcOn_zero] at h2
          have HT := Hid.of h1
          have HS := Hid.of h2
          have htz : t.size ≤ 6000 := by rw [← byte_len, h1]; have := HL.out ss.length; rwa [List.take_length] at this
          clear h1 h2 ht hsum
          go_wp2_with fail
          refine (LentTexts_any _ ss _ (HV.out.kept hb) (by omega)).mono ?_
          rintro e w3 ⟨m, rfl, hm, c3⟩
          have b3 : Below w.heap.size w w3 := hb.trans (c3.mono hb.size)
          have HS3 := Hid.of (HS.out.kept (grown_of_below c3))
          have HMM := Hid.of hm
          clear c3 hb HS hm
          go_wp2_with fail
          refine (Open_any b (by omega) _).mono ?_
          rintro e w4 ⟨rfl, c4⟩
          have b4 : Below w.heap.size w w4 := b3.trans (c4.mono b3.size)
          have HS4 := Hid.of (HS3.out.kept (grown_of_below c4))
          have HM4 := Hid.of (HMM.out.kept c4)
          clear c4 b3 HS3 HMM
          go_wp2_with fail
          refine (refOpen_any b (by omega) _).mono ?_
          rintro e w5 ⟨rfl, c5⟩
          have b5 : Below w.heap.size w w5 := b4.trans (c5.mono b4.size)
          have HS5 := Hid.of (HS4.out.kept (grown_of_below c5))
          have HM5 := Hid.of (HM4.out.kept c5)
          clear c5 b4 HS4 HM4
          go_wp2_with fail
          refine (alive_any _).mono ?_
          rintro e w6 ⟨rfl, c6⟩
          have b6 : Below w.heap.size w w6 := b5.trans (c6.mono b5.size)
          have HS6 := Hid.of (HS5.out.kept (grown_of_below c6))
          have HM6 := Hid.of (HM5.out.kept c6)
          clear c6 b5 HS5 HM5
          go_wp2_with fail
          refine (Of_any m ss _ HM6.out.row.strs (by omega) HM).mono ?_
          rintro e w7 ⟨rfl, c7⟩
          have b7 : Below w.heap.size w w7 := b6.trans (c7.mono b6.size)
          have HS7 := Hid.of (HS6.out.kept (grown_of_below c7))
          have HM7 := Hid.of (HM6.out.kept c7)
          clear c7 b6 HS6 HM6
          go_wp2_with fail
          refine (refSum_any t (by unfold maxLen; omega) _).mono ?_
          rintro e w7' ⟨rfl, rfl⟩
          rw [HT.out]
          go_wp2_with fail
          refine (Value_any _ _ _ HS7.out.cell).mono ?_
          rintro e w7' ⟨rfl, rfl⟩
          go_wp2_with fail
          refine (refSum_any t (by unfold maxLen; omega) _).mono ?_
          rintro e w7' ⟨rfl, rfl⟩
          rw [HT.out]
          go_wp2_with fail
          refine (Close_any b (by omega) _).mono ?_
          rintro e w8 ⟨rfl, c8⟩
          have b8 : Below w.heap.size w w8 := b7.trans (c8.mono b7.size)
          have HM8 := Hid.of (HM7.out.kept c8)
          clear c8 b7 HS7 HM7
          go_wp2_with fail
          refine (refClose_any b (by omega) _).mono ?_
          rintro e w9 ⟨rfl, c9⟩
          have b9 : Below w.heap.size w w9 := b8.trans (c9.mono b8.size)
          have HM9 := Hid.of (HM8.out.kept c9)
          clear c9 b8 HM8
          go_wp2_with fail
          refine (StaysTexts_any _ m _ ss _ HM9.out (HV.out.kept b9).cells (by omega)).mono ?_
          rintro e w10 ⟨rfl, c10⟩
          have b10 : Below w.heap.size w w10 := b9.trans (c10.mono b9.size)
          clear c10 b9 HM9
          go_wp2
          go_ret
          exact ⟨rfl, b10⟩

end Go.Proofs.Ytiiaajejlckklaa
