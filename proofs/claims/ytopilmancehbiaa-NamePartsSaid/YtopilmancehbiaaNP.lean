/-
  What statement NameParts answers: true, for every input.
-/
import Derived.Test.YtopilmancehbiaaNA
import Derived.Deep.DeepCutAuto
import Derived.Deep.CutBlock
namespace Go.Proofs.Ytopilmancehbiaa
open Go.RowKit Go.Lib

theorem size_tot {ss : List ByteArray} {s : ByteArray} (h : s ∈ ss) : s.size ≤ total ss := by
  induction ss with
  | nil => exact absurd h List.not_mem_nil
  | cons a l ih =>
    have e : total (a :: l) = a.size + total l := by simp [total]
    rcases List.mem_cons.1 h with rfl | h
    · omega
    · have := ih h
      omega

theorem all_snoc {ss : List ByteArray} {j : Nat} (hj : j < ss.length) (g r : Bool) (h : nOk ss[j] = r) (ht : (ss.take j).all nOk = g) : (ss.take (j + 1)).all nOk = (g && r) := by
  rw [List.take_succ_eq_append_getElem hj, List.all_append, ht]
  simp [h]

/-- A text with one byte more. -/
theorem nOk_snoc (s b : ByteArray) (m : Nat) (hm : m < 256) (hb : b = ⟨#[UInt8.ofNat (m : Int).toNat]⟩) : nOk (s ++ b) = (decide (nByteP m) && ((s.toList.isEmpty || nOk s) && decide (s.size < 15))) := by
  have hd : (s ++ b).data.toList = s.data.toList ++ [UInt8.ofNat m] := by
    rw [hb]
    simp [ByteArray.data_append]
  have hz : (s ++ b).size = s.size + 1 := by
    rw [ByteArray.size_append, hb]
    rfl
  have hn : nByte (UInt8.ofNat m) = decide (nByteP m) := by
    unfold nByte
    congr 1
    have : (UInt8.ofNat m).toNat = m := by simp [Nat.mod_eq_of_lt hm]
    rw [this]
  unfold nOk
  rw [hd, hz, List.all_append, List.all_cons, List.all_nil, hn, ByteArray.toList_eq]
  cases hl : s.data.toList with
  | nil =>
    have h0 : s.size = 0 := by rw [← byte_len, hl]; rfl
    rw [h0]
    simp
  | cons a l =>
    have h0 : 1 ≤ s.size := by rw [← byte_len, hl]; simp
    rw [← hl]
    have he : s.data.toList.isEmpty = false := by rw [hl]; rfl
    have e1 : decide (1 ≤ s.size) = true := decide_eq_true h0
    have e2 : decide (1 ≤ s.size + 1) = true := decide_eq_true (by omega)
    rw [he, e1, e2]
    by_cases h15 : s.size < 15
    · rw [decide_eq_true h15, decide_eq_true (show s.size + 1 ≤ 15 by omega), decide_eq_true (show s.size ≤ 15 by omega)]
      cases decide (nByteP m) <;> cases s.data.toList.all nByte <;> rfl
    · rw [decide_eq_false h15, decide_eq_false (show ¬ s.size + 1 ≤ 15 by omega)]
      cases decide (nByteP m) <;> cases s.data.toList.all nByte <;> simp

theorem small_one {s : ByteArray} (h : s.size ≤ 300) : ([s].all fun s => decide (s.size ≤ 300)) = true := by simp [h]

theorem all_one (s : ByteArray) {r : Bool} (h : nOk s = r) : [s].all nOk = r := by rw [← h]; simp

/-- Valid of one text in a new slice. -/
theorem Valid_one (s : ByteArray) (hs : s.size ≤ 3000) {r : Bool} (hr : nOk s = r) (w1 w2 : World) (b : Nat) (hw : w2 = w1.alloc (.cells #[.string s] 9)) (hb : b = w1.heap.size) :
    Calls Try.prog 19 #[.slice (some ⟨b, 0, none⟩) 1 1] w2 fun e w' => e = .returned (.bool r) ∧ Below w1.heap.size w1 w' := by
  subst hw
  refine (valid_any _ [s] _ (StrRow.made w1 _ [s] _ rfl _ 1 1 hb rfl).cells (by simp) (fun x hx => by rw [List.mem_singleton.1 hx]; unfold maxLen; omega)).mono ?_
  rintro e w' ⟨rfl, q, rfl⟩
  exact ⟨by rw [← hr]; simp, below_drewN ((Below.refl _ _).alloc (Nat.le_refl _) _) q⟩

set_option maxRecDepth 20000 in
set_option maxHeartbeats 3200000 in
theorem nameParts_main (v : Value) (ss : List ByteArray) (s : ByteArray) (c : Int) (w : World) (hv : StrRow w v ss) :
    Calls Try.prog 7 #[v, .string s, .int .i64 c] w fun e w' => e = .returned (.bool true) ∧ Below w.heap.size w w' := by
  have HV := Hid.of hv
  obtain ⟨va, vc, rfl, _⟩ := hv
  go_enter Try.func7, Try.ntmps7
  go_wp2_with fail
  refine (Short_sum 20 600 (by decide) (by decide) _ ss _ HV.out).mono ?_
  rintro e w1 ⟨r, rfl, hr, b1⟩
  by_cases hbad : r = false ∨ 60 < s.size
  · have hbad' : r = false ∨ (r = true ∧ 60 < s.size) := by cases r <;> simp_all
    clear hbad
    rcases hbad' with rfl | ⟨rfl, hz⟩
    all_goals
      go_wp2_with fail
      refine (nameAlive_any _).mono ?_
      rintro e w2 ⟨rfl, b2⟩
      go_wp2
      go_ret
      exact ⟨rfl, b1.trans (b2.mono b1.size)⟩
  · have hz : ¬ 60 < s.size := fun h => hbad (.inr h)
    have hrt : r = true := by cases r <;> simp_all
    subst hrt
    clear hbad
    obtain ⟨hl, ht⟩ := hr.out rfl
    have HL := Hid.of hl
    have SZ := Hid.of (fun (x : ByteArray) (h : x ∈ ss) => (show x.size ≤ 3000 by have := size_tot h; omega))
    have HV1 := Hid.of ((HV.out.kept b1).cells)
    have l9 : (ss.length : Int) ≤ 20 := by omega
    have B1 := Hid.of b1
    clear hr hl ht b1
    go_wp2
    go_loopw [7, 8] (fun gv iv wr => ∃ (j : Nat), j ≤ ss.length ∧ iv = .int .i64 j ∧ Hid (gv = .bool ((ss.take j).all nOk)) ∧ Hid (Below w1.heap.size w1 wr)) (fun _ iv _ => ss.length - (intOf iv).toNat)
    case atStart => exact ⟨0, Nat.zero_le _, rfl, Hid.of rfl, Hid.of (Below.refl _ _)⟩
    case round =>
      obtain ⟨j, hj, rfl, hg, hb⟩ := hrel
      obtain ⟨g, hgg⟩ : ∃ g, (ss.take j).all nOk = g := ⟨_, rfl⟩
      have hg' := hg.out
      rw [hgg] at hg'
      subst hg'
      by_cases hlt : j < ss.length
      · have i0' : (0 : Int) ≤ (j : Int) := Int.natCast_nonneg _
        have i1 : (j : Int) < (ss.length : Int) := by omega
        obtain ⟨x, hx⟩ : ∃ x, nOk ss[j] = x := ⟨_, rfl⟩
        have HALL := Hid.of (all_snoc hlt g x hx hgg)
        clear hgg hg
        cases g with
        | false =>
          clear hx
          go_wp2
          go_roundw
          case rel => exact ⟨j + 1, by omega, by go_num, Hid.of (by rw [HALL.out]; rfl), hb⟩
          case measure => simp [RowKit.intOf]; omega
        | true =>
          obtain ⟨bl, ol, rfl, hl1, hc1⟩ := str_get0 HV1.out j ss[j] (List.getElem?_eq_getElem hlt)
          have HSZ := Hid.of (SZ.out _ (List.getElem_mem hlt))
          generalize ss[j] = t at *
          have d1 : wr.cell? ⟨bl, ol + j, none⟩ = some (.string t) := by rw [hb.out.cell hl1]; exact hc1
          have HX := Hid.of hx
          clear hc1 hl1 hx
          go_wp2_with fail
          refine (Valid_one t HSZ.out HX.out _ _ _ rfl rfl).mono ?_
          rintro e w2 ⟨rfl, b2⟩
          have B2 := Hid.of (hb.out.trans (b2.mono hb.out.size))
          clear b2
          go_wp2
          go_roundw
          case rel => exact ⟨j + 1, by omega, by go_num, Hid.of (by rw [HALL.out]; rfl), B2⟩
          case measure => simp [RowKit.intOf]; omega
      · have hjl : j = ss.length := by omega
        subst hjl
        rw [List.take_length] at hgg
        have HG := Hid.of hgg
        clear hgg hg
        obtain ⟨m, hm⟩ : ∃ m : Nat, c % 256 = (m : Int) := ⟨(c % 256).toNat, by omega⟩
        have hm9 : m < 256 := by omega
        have HM := Hid.of hm
        clear hm
        go_upto_region 9 with (fail)
        rw [HM.out]
        go_cut [9, 10] (fun bv gv wx => bv = .int .u8 (m : Int) ∧ gv = .bool (decide (nByteP m)) ∧ wx = wr)
        case first =>
          have HT := Hid.of (fun h : nByteP m => decide_eq_true h)
          have HF := Hid.of (fun h : ¬ nByteP m => decide_eq_false h)
          go_wp2_with fail
          all_goals
            go_meet
            refine ⟨by first | rfl | (congr 1; omega), ?_, rfl⟩
            first
              | exact congrArg Value.bool (HT.out (by unfold nByteP; omega)).symm
              | exact congrArg Value.bool (HF.out (by unfold nByteP; omega)).symm
              | (refine congrArg (fun b => Value.bool b) (Bool.eq_iff_iff.2 ?_)
                 simp only [Bool.or_eq_true, decide_eq_true_eq, beq_iff_eq]
                 unfold nByteP
                 omega)
        case rest =>
          obtain ⟨rfl, rfl, rfl⟩ := hcut
          obtain ⟨b, hbb⟩ : ∃ b : ByteArray, b = ⟨#[UInt8.ofNat (m : Int).toNat]⟩ := ⟨_, rfl⟩
          have hsn := nOk_snoc s b m hm9 hbb
          have hcv := fun w => conv_one w (m : Int)
          rw [← hbb] at hcv
          have hbs : b.size = 1 := by rw [hbb]; rfl
          have hcat := fun w => run_string_add_sum (P := Try.prog) (w := w) s b (by omega)
          have hsz : (s ++ b).size ≤ 3000 := by rw [ByteArray.size_append, hbs]; omega
          generalize s ++ b = z at hsn hcat hsz
          have HZ := Hid.of hsz
          have HSN := Hid.of hsn
          have HSZ := Hid.of (show s.size ≤ 3000 by omega)
          have SZM : Hid (∀ x ∈ ss, x.size ≤ maxLen) := Hid.of (fun x h => by have := SZ.out x h; unfold maxLen; omega)
          obtain ⟨gd, hgd⟩ : ∃ gd, decide (nByteP m) = gd := ⟨_, rfl⟩
          have HGD := Hid.of hgd
          rw [hgd]
          clear hsz hsn hbs hbb hgd
          go_wp2_with fail
          refine (nameAlive_any _).mono ?_
          rintro e w2 ⟨rfl, b2⟩
          have HV2 := Hid.of (HV1.out.kept (hb.out.trans (b2.mono hb.out.size)))
          have B2 := Hid.of (hb.out.trans (b2.mono hb.out.size))
          clear b2
          go_wp2_with fail
          refine (valid_any _ ss _ HV2.out (by have := HL.out; omega) SZM.out).mono ?_
          rintro e w3 ⟨rfl, q3, rfl⟩
          rw [HG.out]
          have hcv' := hcv (w2.drewN q3)
          rw [show (w2.drewN q3).heap.size = w2.heap.size from rfl] at hcv'
          clear hcv
          go_wp2_with fail
          obtain ⟨zr, hzr⟩ : ∃ zr, nOk z = zr := ⟨_, rfl⟩
          refine (Valid_one z HZ.out hzr _ _ _ rfl (by simp)).mono ?_
          rintro e w4 ⟨rfl, b4⟩
          have z2 := B2.out.size
          have B4 : Hid (Below w1.heap.size w1 w4) := Hid.of (((below_drewN B2.out q3).alloc (by simp; omega) _).trans (b4.mono (by simp; omega)))
          have HR := HSN.out
          rw [hzr, HGD.out] at HR
          have HRR := Hid.of HR
          clear b4 hcv' hcat z2 HR hzr
          obtain ⟨se, hse⟩ : ∃ se, s.toList.isEmpty = se := ⟨_, rfl⟩
          obtain ⟨sr, hsr⟩ : ∃ sr, nOk s = sr := ⟨_, rfl⟩
          have HSR := Hid.of hsr
          have HR2 := HRR.out
          rw [hse, hsr] at HR2
          have HRR2 := Hid.of HR2
          clear hsr HR2
          have h0n : nOk ⟨#[]⟩ = false := by decide
          have H0N := Hid.of h0n
          clear h0n
          cases gd with
          | false =>
            have hzf : zr = false := by rw [HRR2.out]; rfl
            subst hzf
            go_wp2_with fail
            refine (Valid_one ⟨#[]⟩ (by decide) H0N.out _ _ _ rfl (by simp)).mono ?_
            rintro e w5 ⟨rfl, b5⟩
            go_wp2
            go_ret
            exact ⟨rfl, B1.out.trans ((B4.out.trans (b5.mono B4.out.size)).mono B1.out.size)⟩
          | true =>
            cases se with
            | true =>
              have hs0 : s.size < 15 := by
                have : s.data.toList.isEmpty = true := by rw [← ByteArray.toList_eq]; exact hse
                have : s.size = 0 := by rw [← byte_len, List.isEmpty_iff.1 this]; rfl
                omega
              have hzt : zr = true := by rw [HRR2.out, decide_eq_true hs0]; rfl
              subst hzt
              have hs1 : decide ((s.size : Int) < 15) = true := decide_eq_true (by omega)
              go_wp2_with fail
              refine (Valid_one ⟨#[]⟩ (by decide) H0N.out _ _ _ rfl (by simp)).mono ?_
              rintro e w5 ⟨rfl, b5⟩
              go_wp2
              go_ret
              exact ⟨rfl, B1.out.trans ((B4.out.trans (b5.mono B4.out.size)).mono B1.out.size)⟩
            | false =>
              go_wp2_with fail
              refine (Valid_one s HSZ.out HSR.out _ _ _ rfl (by simp)).mono ?_
              rintro e w5 ⟨rfl, b5⟩
              have B5 := Hid.of (B4.out.trans (b5.mono B4.out.size))
              clear b5
              cases sr with
              | false =>
                have hzf : zr = false := by rw [HRR2.out]; rfl
                subst hzf
                go_wp2_with fail
                refine (Valid_one ⟨#[]⟩ (by decide) H0N.out _ _ _ rfl (by simp)).mono ?_
                rintro e w6 ⟨rfl, b6⟩
                go_wp2
                go_ret
                exact ⟨rfl, B1.out.trans ((B5.out.trans (b6.mono B5.out.size)).mono B1.out.size)⟩
              | true =>
                obtain ⟨d, hd⟩ : ∃ d, decide ((s.size : Int) < 15) = d := ⟨_, rfl⟩
                have hzd : zr = d := by
                  rw [HRR2.out, ← hd]
                  by_cases h : s.size < 15
                  · rw [decide_eq_true h, decide_eq_true (show (s.size : Int) < 15 by omega)]; rfl
                  · rw [decide_eq_false h, decide_eq_false (show ¬ (s.size : Int) < 15 by omega)]; rfl
                subst hzd
                cases zr
                all_goals
                  go_wp2_with fail
                  refine (Valid_one ⟨#[]⟩ (by decide) H0N.out _ _ _ rfl (by simp)).mono ?_
                  rintro e w6 ⟨rfl, b6⟩
                  go_wp2
                  go_ret
                  exact ⟨rfl, B1.out.trans ((B5.out.trans (b6.mono B5.out.size)).mono B1.out.size)⟩

end Go.Proofs.Ytopilmancehbiaa
