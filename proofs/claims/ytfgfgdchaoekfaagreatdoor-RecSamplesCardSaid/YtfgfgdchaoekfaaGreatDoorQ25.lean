/-
  A bundle of texts: RRD RPT RPS.
-/
import Derived.Laws.Rows
import Derived.Test.YtfgfgdchaoekfaaGreatDoorQ24
import Derived.Test.YtfgfgdchaoekfaaGreatDoorQ18
import Derived.Test.YtfgfgdchaoekfaaGreatDoorQ16
namespace Go.Proofs.YtfgfgdchaoekfaaGreatDoor
open Go.RowKit Go.Lib

/-- What readRecord tells of sixty-four bytes. -/
def rdR (C : List UInt8) : TRec := if nmOk (C.take 16) = true then ⟨nmText (C.take 16), wrap64 (val ((C.drop 16).take 8)), if agOk (agRead (txt ((C.drop 24).take 40))) = true then agRead (txt ((C.drop 24).take 40)) else agZero⟩ else ⟨⟨#[]⟩, 0, agZero⟩
/-- What readSample tells of thirty-two. -/
def rdS (C : List UInt8) : SamL := if nmOk (C.take 16) = true then (nmText (C.take 16), wrap64 (val ((C.drop 16).take 8)), wrap64 (val ((C.drop 24).take 8))) else (⟨#[]⟩, 0, 0)

theorem agZero_bad : agOk agZero = false := by decide
theorem none_bad : nOk ⟨#[]⟩ = false := by decide
theorem rdR_ok (C : List UInt8) : rcOk (rdR C) = rcGood C := by
  unfold rdR rcGood
  by_cases h : nmOk (C.take 16) = true
  · rw [if_pos h, h, Bool.true_and]
    unfold rcOk rcRead
    simp only
    by_cases k : agOk (agRead (txt ((C.drop 24).take 40))) = true
    · rw [if_pos k]
    · rw [if_neg k, agZero_bad, Bool.and_false]
      have k2 : agOk (agRead (txt ((C.drop 24).take 40))) = false := by simpa using k
      rw [k2, Bool.and_false]
  · rw [if_neg h]
    have h2 : nmOk (C.take 16) = false := by simpa using h
    rw [h2, Bool.false_and]
    unfold rcOk
    simp only
    rw [none_bad]
    rfl
theorem rdR_read (C : List UInt8) (h : rcGood C = true) : rdR C = rcRead C := by
  unfold rcGood at h
  rw [Bool.and_eq_true] at h
  unfold rdR
  rw [if_pos h.1]
  have h2 := h.2
  unfold rcOk at h2
  simp only [Bool.and_eq_true] at h2
  have k : agOk (agRead (txt ((C.drop 24).take 40))) = true := h2.2
  rw [if_pos k]
  rfl
theorem rdS_ok (C : List UInt8) : smOk (rdS C) = smGood C := by
  unfold rdS smGood
  by_cases h : nmOk (C.take 16) = true
  · rw [if_pos h, h, Bool.true_and]
    rfl
  · rw [if_neg h]
    have h2 : nmOk (C.take 16) = false := by simpa using h
    rw [h2, Bool.false_and]
    unfold smOk
    simp only
    rw [none_bad]
    rfl
theorem rdS_read (C : List UInt8) (h : smGood C = true) : rdS C = smRead C := by
  unfold smGood at h
  rw [Bool.and_eq_true] at h
  unfold rdS
  rw [if_pos h.1]
  rfl
theorem text_len (b : List UInt8) : (nmText b).size ≤ 15 := by
  unfold nmText
  by_cases c : nmOk b = true
  · rw [if_pos c, txt_size, List.length_take]
    unfold nmOk at c
    rw [Bool.and_eq_true, decide_eq_true_eq] at c
    have := c.1
    omega
  · rw [if_neg c]
    decide
theorem rdR_fit (C : List UInt8) : TFit (rdR C) := by
  unfold rdR
  by_cases h : nmOk (C.take 16) = true
  · rw [if_pos h]
    refine ⟨?_, wrap64_bounds _, ?_⟩
    · have := text_len (C.take 16)
      show (nmText (C.take 16)).size ≤ maxLen
      unfold maxLen
      omega
    · by_cases k : agOk (agRead (txt ((C.drop 24).take 40))) = true
      · rw [if_pos k]; exact agRead_in _
      · rw [if_neg k]; exact agZero_in
  · rw [if_neg h]
    refine ⟨by unfold maxLen; decide, ?_, agZero_in⟩
    show TIn64 0
    unfold TIn64
    decide
theorem rdS_fit (C : List UInt8) : SmIn (rdS C) := by
  unfold rdS
  by_cases h : nmOk (C.take 16) = true
  · rw [if_pos h]
    refine ⟨?_, wrap64_bounds _, wrap64_bounds _⟩
    have := text_len (C.take 16)
    show (nmText (C.take 16)).size ≤ maxLen
    unfold maxLen
    omega
  · rw [if_neg h]
    refine ⟨by unfold maxLen; decide, ?_, ?_⟩ <;> (show TIn64 0; unfold TIn64; decide)

set_option maxHeartbeats 800000 in
theorem RestU (u : Nat) (s : ByteArray) (k : Nat) (bad : Int) (w : World) (h : Un u s k bad w) :
    Calls Tryz.prog 96 #[.pointer (some ⟨u, 0, none⟩)] w fun e w' => e = .returned (.string (s.extract k s.size)) ∧ w.grownBy w' (some u) := by
  obtain ⟨c0, c1, c2⟩ := h.cells
  have hk := h.2.1
  have hs := h.2.2
  have H := Hid.of h
  clear h
  have SZ : (s.extract k s.size).size = s.size - k := by rw [ByteArray.size_extract]; omega
  go_enter Tryz.func96, Tryz.ntmps96
  go_wp2
  go_quiet (fail)
  obtain ⟨t, ht⟩ : ∃ t, s.extract k s.size = t := ⟨_, rfl⟩
  rw [ht] at SZ
  rw [ht]
  have SZ2 : Hid (t.size ≤ 140737488355328) := Hid.of (by omega)
  have HT := Hid.of ht
  clear ht SZ
  go_wp2_with (first | (go_at_call 129; refine (pass_any u k t.size _ (show (w.drewN nq).cell? _ = _ from c0) (row_frozen (w := w.drewN nq) H.out.1) (by omega) (by omega) (by have := SZ2.out; omega)).mono ?_; rintro e w2 ⟨rfl, s2⟩) | (go_at_call 127; refine (Clone_any t _ (by have := SZ2.out; omega)).mono ?_; rintro e w3 ⟨rfl, b3⟩))
  go_ret
  exact ⟨by rw [HT.out]; rfl, grownBy_trans (grownBy_trans (grownBy_drewN w _ _) s2.grown) (grownBy_weak (grown_of_below b3))⟩

theorem rset_row {w : World} {q i : Nat} {v : Value} {cs : Array Value} {t : TypeId} (h : w.heap[q]? = some (.cells cs t (0, 0))) : (w.setCell ⟨q, i, none⟩ v).heap[q]? = some (.cells (cs.setIfInBounds i v) t (0, 0)) := row_set h v
theorem RcBk.froz {w : World} {b : Nat} {x : TRec} (h : RcBk w b x) : w.frozen? ⟨b, 0, none⟩ = false ∧ w.frozen? ⟨b, 1, none⟩ = false ∧ w.frozen? ⟨b, 2, none⟩ = false ∧ w.frozen? ⟨b, 3, none⟩ = false ∧ w.frozen? ⟨b, 4, none⟩ = false ∧ w.frozen? ⟨b, 5, none⟩ = false ∧ w.frozen? ⟨b, 6, none⟩ = false :=
  ⟨row_frozen h, row_frozen h, row_frozen h, row_frozen h, row_frozen h, row_frozen h, row_frozen h⟩
def rput5 (w : World) (b : Nat) (a : Ag) : World := (((((w.setCell ⟨b, 2, none⟩ (.int .i64 a.c)).setCell ⟨b, 3, none⟩ (.int .i64 a.hi)).setCell ⟨b, 4, none⟩ (.int .u64 a.lo)).setCell ⟨b, 5, none⟩ (.int .i64 a.mn)).setCell ⟨b, 6, none⟩ (.int .i64 a.mx))
theorem rput5_row {w : World} {b : Nat} {x : TRec} (h : RcBk w b x) (a : Ag) : RcBk (rput5 w b a) b ⟨x.n, x.s, a⟩ := rset_row (rset_row (rset_row (rset_row (rset_row h))))
theorem rput5_grown (w : World) (b : Nat) (a : Ag) : w.grownBy (rput5 w b a) (some b) :=
  grownBy_trans (grownBy_trans (grownBy_trans (grownBy_trans (grownBy_setCell _ _ _ _) (grownBy_setCell _ _ _ _)) (grownBy_setCell _ _ _ _)) (grownBy_setCell _ _ _ _)) (grownBy_setCell _ _ _ _)
def rput7 (w : World) (b : Nat) (x : TRec) : World := rput5 ((w.setCell ⟨b, 0, none⟩ (.string x.n)).setCell ⟨b, 1, none⟩ (.int .i64 x.s)) b x.a
theorem rput7_row {w : World} {b : Nat} {x0 : TRec} (h : RcBk w b x0) (x : TRec) : RcBk (rput7 w b x) b x := by
  have h2 : RcBk ((w.setCell ⟨b, 0, none⟩ (.string x.n)).setCell ⟨b, 1, none⟩ (.int .i64 x.s)) b ⟨x.n, x.s, x0.a⟩ := rset_row (rset_row h)
  exact rput5_row h2 x.a
theorem rput7_grown (w : World) (b : Nat) (x : TRec) : w.grownBy (rput7 w b x) (some b) := grownBy_trans (grownBy_trans (grownBy_setCell _ _ _ _) (grownBy_setCell _ _ _ _)) (rput5_grown _ _ _)

set_option maxRecDepth 20000 in
set_option maxHeartbeats 3200000 in
theorem readRecord_any (b : ByteArray) (hb : b.size = 64) (w : World) :
    Calls Tryz.prog 35 #[.string b] w fun e w' => e = .returned (rcv (rdR b.data.toList)) ∧ Below w.heap.size w w' := by
  have HS := Hid.of hb
  obtain ⟨r, hr⟩ : ∃ r, w.heap.size = r := ⟨_, rfl⟩
  obtain ⟨w1, hw1⟩ : ∃ w1, w.alloc (.cells #[.string ⟨#[]⟩, .int .i64 0, .int .i64 0, .int .i64 0, .int .u64 0, .int .i64 0, .int .i64 0] 50) = w1 := ⟨_, rfl⟩
  have b1 : Below w.heap.size w w1 := by rw [← hw1]; exact (Below.refl _ _).alloc (Nat.le_refl _) _
  have B1 := Hid.of b1
  have R1 : Hid (RcBk w1 r ⟨⟨#[]⟩, 0, agZero⟩) := Hid.of (by rw [← hw1, ← hr]; exact Go.heap_alloc_new _ _)
  have HW := Hid.of hw1
  have HR := Hid.of hr
  clear hb hw1 hr b1
  go_enter Tryz.func35, Tryz.ntmps35
  go_upto_region 1 with fail
  rw [HW.out, HR.out]
  clear HW
  go_wp2_with fail
  refine (From_any b _ (by rw [HS.out]; decide)).mono ?_
  rintro e w2 ⟨rfl, u2, c2⟩
  have b2 := below_of_none c2
  obtain ⟨u, hu⟩ : ∃ u, w1.heap.size = u := ⟨_, rfl⟩
  rw [hu] at u2 ⊢
  have U2 := Hid.of u2
  have R2 := Hid.of (R1.out.next b2)
  have B2 := Hid.of (B1.out.trans (b2.mono B1.out.size))
  have GU : Hid (w.heap.size ≤ u ∧ r < u) := Hid.of (by have h1 := B1.out.size; have h2 := (Array.getElem?_eq_some_iff.1 R1.out).1; omega)
  clear u2 c2 b2 hu R1 B1
  go_wp2_with fail
  refine (Name_anyU u b 0 (by rw [HS.out]; decide) _ U2.out).mono ?_
  rintro e w3 ⟨rfl, u3, g3⟩
  rw [List.drop_zero] at u3 ⊢
  have R3 : Hid (RcBk w3 r ⟨⟨#[]⟩, 0, agZero⟩) := Hid.of ((g3.block r (Array.getElem?_eq_some_iff.1 R2.out).1 (by simp; have := GU.out.2; omega)).trans R2.out)
  have B3 := Hid.of (B2.out.trans (Below.of_grown g3 GU.out.1 U2.out.lt))
  clear g3 R2 B2 U2
  have INT : ∃ (x : Int) (ga : Ag) (ge : Int), rdR b.data.toList = ⟨nmText (b.data.toList.take 16), x, ga⟩ ∧ (∀ W, Un u b 16 (if nmOk (b.data.toList.take 16) = true then 0 else 6) W → Calls Tryz.prog 94 #[.pointer (some ⟨u, 0, none⟩)] W fun e w' => e = .returned (.int .i64 x) ∧ (∃ k d, Un u b k d w' ∧ agGot (b.extract k b.size) = (ga, ge)) ∧ W.grownBy w' (some u)) := by
    by_cases c : nmOk (b.data.toList.take 16) = true
    · have e40 : b.extract 24 b.size = txt ((b.data.toList.drop 24).take 40) := by
        rw [← txt_of (b.extract 24 b.size), HS.out]
        exact congrArg txt (extract_list b 24 40)
      have s40 : (b.extract 24 b.size).size = 40 := by rw [ByteArray.size_extract, HS.out]; decide
      refine ⟨wrap64 (val ((b.data.toList.drop 16).take 8)), (agGot (b.extract 24 b.size)).1, (agGot (b.extract 24 b.size)).2, ?_, fun W h => ?_⟩
      · unfold rdR agGot
        rw [if_pos c, if_pos s40, e40]
        by_cases k : agOk (agRead (txt ((b.data.toList.drop 24).take 40))) = true
        · rw [if_pos k, if_pos k]
        · rw [if_neg k, if_neg k]
      · rw [if_pos c] at h
        refine (Int_goodU u b 16 (by rw [HS.out]; decide) W h).mono ?_
        rintro e w' ⟨h1, h2, h3⟩
        exact ⟨h1, ⟨_, _, h2, rfl⟩, h3⟩
    · have s48 : (b.extract 16 b.size).size ≠ 40 := by rw [ByteArray.size_extract, HS.out]; decide
      refine ⟨0, agZero, 5, ?_, fun W h => ?_⟩
      · unfold rdR; rw [if_neg c]; unfold nmText; rw [if_neg c]
      · rw [if_neg c] at h
        refine (Int_stoppedU u b 16 6 rfl W h).mono ?_
        rintro e w' ⟨h1, rfl⟩
        refine ⟨h1, ⟨_, _, h, ?_⟩, grownBy_refl _ _⟩
        unfold agGot
        rw [if_neg s48]
  obtain ⟨x, ga, ge, RE, INT⟩ := INT
  obtain ⟨nm, hnm⟩ : ∃ t, nmText (b.data.toList.take 16) = t := ⟨_, rfl⟩
  rw [hnm] at RE ⊢
  have RES := Hid.of RE
  have U3 := Hid.of u3
  have HINT := Hid.of INT
  clear RE u3 INT hnm
  go_wp2_with fail
  refine (HINT.out _ U3.out).mono ?_
  rintro e w4 ⟨rfl, ⟨k, d, u4, i4⟩, g4⟩
  have U4 := Hid.of u4
  have I4 := Hid.of i4
  have R4 : Hid (RcBk w4 r ⟨⟨#[]⟩, 0, agZero⟩) := Hid.of ((g4.block r (Array.getElem?_eq_some_iff.1 R3.out).1 (by simp; have := GU.out.2; omega)).trans R3.out)
  have B4 := Hid.of (B3.out.trans (Below.of_grown g4 GU.out.1 U3.out.lt))
  clear u4 i4 g4 HINT R3 B3 U3
  obtain ⟨v, hv⟩ : ∃ v, w4.heap.size = v := ⟨_, rfl⟩
  obtain ⟨w5, hw5⟩ : ∃ w5, w4.alloc (.cells #[.string nm, .int .i64 x, .int .i64 0, .int .i64 0, .int .u64 0, .int .i64 0, .int .i64 0] 50) = w5 := ⟨_, rfl⟩
  have b5 : Below w4.heap.size w4 w5 := by rw [← hw5]; exact (Below.refl _ _).alloc (Nat.le_refl _) _
  have V5 : Hid (RcBk w5 v ⟨nm, x, agZero⟩) := Hid.of (by rw [← hw5, ← hv]; exact Go.heap_alloc_new _ _)
  have R5 := Hid.of (R4.out.next b5)
  have U5 := Hid.of (U4.out.kept (grown_of_below b5))
  have B5 := Hid.of (B4.out.trans (b5.mono B4.out.size))
  have GV : Hid (w.heap.size ≤ v ∧ u < v ∧ r < v) := Hid.of (by have h1 := B4.out.size; have h2 := U4.out.lt; have h3 := GU.out; omega)
  have HW := Hid.of hw5
  have HV := Hid.of hv
  clear hw5 hv b5 R4 U4 B4
  go_wp2_with fail
  rw [HW.out, HV.out]
  clear HW HV
  refine (RestU u b k d _ U5.out).mono ?_
  rintro e w6 ⟨rfl, g6⟩
  have V6 : Hid (RcBk w6 v ⟨nm, x, agZero⟩) := Hid.of ((g6.block v (Array.getElem?_eq_some_iff.1 V5.out).1 (by simp; have := GV.out; omega)).trans V5.out)
  have R6 : Hid (RcBk w6 r ⟨⟨#[]⟩, 0, agZero⟩) := Hid.of ((g6.block r (Array.getElem?_eq_some_iff.1 R5.out).1 (by simp; have := GU.out.2; omega)).trans R5.out)
  have B6 := Hid.of (B5.out.trans (Below.of_grown g6 GU.out.1 U5.out.lt))
  clear g6 V5 R5 B5 U5
  go_wp2_with fail
  refine (aggGot_any (b.extract k b.size) _).mono ?_
  rintro e w7 ⟨rfl, b7⟩
  rw [I4.out]
  have V7 := Hid.of (V6.out.next b7)
  have R7 := Hid.of (R6.out.next b7)
  have B7 := Hid.of (B6.out.trans (b7.mono B6.out.size))
  clear b7 V6 R6 B6
  obtain ⟨z0, z1, z2, z3, z4, z5, z6⟩ := V7.out.froz
  obtain ⟨y0, y1, y2, y3, y4, y5, y6⟩ := V7.out.at
  obtain ⟨w8, hw8⟩ : ∃ w8, rput5 w7 v ga = w8 := ⟨_, rfl⟩
  have g8 : w7.grownBy w8 (some v) := by rw [← hw8]; exact rput5_grown _ _ _
  have V8 : Hid (RcBk w8 v ⟨nm, x, ga⟩) := Hid.of (by rw [← hw8]; exact rput5_row V7.out ga)
  have R8 : Hid (RcBk w8 r ⟨⟨#[]⟩, 0, agZero⟩) := Hid.of ((g8.block r (Array.getElem?_eq_some_iff.1 R7.out).1 (by simp; have := GV.out.2; omega)).trans R7.out)
  have B8 := Hid.of (B7.out.trans (Below.of_grown g8 GV.out.1 (Array.getElem?_eq_some_iff.1 V7.out).1))
  have HW : Hid ((((((w7.setCell ⟨v, 2, none⟩ (.int .i64 ga.c)).setCell ⟨v, 3, none⟩ (.int .i64 ga.hi)).setCell ⟨v, 4, none⟩ (.int .u64 ga.lo)).setCell ⟨v, 5, none⟩ (.int .i64 ga.mn)).setCell ⟨v, 6, none⟩ (.int .i64 ga.mx)) = w8) := Hid.of hw8
  clear hw8 g8 V7 R7 B7
  go_upto_region 4 with fail
  rw [HW.out]
  clear HW z0 z1 z2 z3 z4 z5 z6 y0 y1 y2 y3 y4 y5 y6
  obtain ⟨y0, y1, y2, y3, y4, y5, y6⟩ := V8.out.at
  obtain ⟨z0, z1, z2, z3, z4, z5, z6⟩ := R8.out.froz
  obtain ⟨x0, x1, x2, x3, x4, x5, x6⟩ := R8.out.at
  have RX : Hid (∃ wx, rput7 w8 r ⟨nm, x, ga⟩ = wx ∧ RcBk wx r ⟨nm, x, ga⟩ ∧ Below w.heap.size w8 wx) := Hid.of ⟨_, rfl, rput7_row R8.out _, Below.of_grown (rput7_grown _ _ _) (Nat.le_of_eq HR.out) (Array.getElem?_eq_some_iff.1 R8.out).1⟩
  go_wp2
  obtain ⟨wx, hx, rx, bx⟩ := RX.out
  unfold rput7 rput5 at hx
  simp only at hx
  rw [hx]
  refine bodyPost_ret (results_cell_row (P := Tryz.prog) rfl _ _ r 50 #[.string nm, .int .i64 x, .int .i64 ga.c, .int .i64 ga.hi, .int .u64 ga.lo, .int .i64 ga.mn, .int .i64 ga.mx] (0, 0) _ rfl rx Tryz.underlying50 rfl (by kernel_rfl)) rfl ?_
  exact ⟨by rw [RES.out], B8.out.trans bx⟩

set_option maxRecDepth 20000 in
set_option maxHeartbeats 1600000 in
theorem readSample_any (b : ByteArray) (hb : b.size = 32) (w : World) :
    Calls Tryz.prog 80 #[.string b] w fun e w' => e = .returned (smv (rdS b.data.toList)) ∧ Below w.heap.size w w' := by
  have HS := Hid.of hb
  obtain ⟨r, hr⟩ : ∃ r, w.heap.size = r := ⟨_, rfl⟩
  obtain ⟨w1, hw1⟩ : ∃ w1, w.alloc (.cells #[.string ⟨#[]⟩, .int .i64 0, .int .i64 0] 107) = w1 := ⟨_, rfl⟩
  have b1 : Below w.heap.size w w1 := by rw [← hw1]; exact (Below.refl _ _).alloc (Nat.le_refl _) _
  have B1 := Hid.of b1
  have R1 : Hid (SmBk w1 r (⟨#[]⟩, 0, 0)) := Hid.of (by rw [← hw1, ← hr]; exact Go.heap_alloc_new _ _)
  have HW := Hid.of hw1
  have HR := Hid.of hr
  clear hb hw1 hr b1
  go_enter Tryz.func80, Tryz.ntmps80
  go_upto_region 1 with fail
  rw [HW.out, HR.out]
  clear HW
  go_wp2_with fail
  refine (From_any b _ (by rw [HS.out]; decide)).mono ?_
  rintro e w2 ⟨rfl, u2, c2⟩
  have b2 := below_of_none c2
  obtain ⟨u, hu⟩ : ∃ u, w1.heap.size = u := ⟨_, rfl⟩
  rw [hu] at u2 ⊢
  have U2 := Hid.of u2
  have R2 := Hid.of (R1.out.next b2)
  have B2 := Hid.of (B1.out.trans (b2.mono B1.out.size))
  have GU : Hid (w.heap.size ≤ u ∧ r < u) := Hid.of (by have h1 := B1.out.size; have h2 := (Array.getElem?_eq_some_iff.1 R1.out).1; omega)
  clear u2 c2 b2 hu R1 B1
  go_wp2_with fail
  refine (Name_anyU u b 0 (by rw [HS.out]; decide) _ U2.out).mono ?_
  rintro e w3 ⟨rfl, u3, g3⟩
  rw [List.drop_zero] at u3 ⊢
  have R3 : Hid (SmBk w3 r (⟨#[]⟩, 0, 0)) := Hid.of ((g3.block r (Array.getElem?_eq_some_iff.1 R2.out).1 (by simp; have := GU.out.2; omega)).trans R2.out)
  have B3 := Hid.of (B2.out.trans (Below.of_grown g3 GU.out.1 U2.out.lt))
  clear g3 R2 B2 U2
  have INT : ∃ (x y : Int), rdS b.data.toList = (nmText (b.data.toList.take 16), x, y) ∧ (∀ W, Un u b 16 (if nmOk (b.data.toList.take 16) = true then 0 else 6) W → Calls Tryz.prog 94 #[.pointer (some ⟨u, 0, none⟩)] W fun e w' => e = .returned (.int .i64 x) ∧ (∃ k d, Un u b k d w' ∧ (Calls Tryz.prog 94 #[.pointer (some ⟨u, 0, none⟩)] w' fun e w'' => e = .returned (.int .i64 y) ∧ w'.grownBy w'' (some u))) ∧ W.grownBy w' (some u)) := by
    by_cases c : nmOk (b.data.toList.take 16) = true
    · refine ⟨wrap64 (val ((b.data.toList.drop 16).take 8)), wrap64 (val ((b.data.toList.drop 24).take 8)), ?_, fun W h => ?_⟩
      · unfold rdS; rw [if_pos c]
      · rw [if_pos c] at h
        refine (Int_goodU u b 16 (by rw [HS.out]; decide) W h).mono ?_
        rintro e w' ⟨h1, h2, h3⟩
        exact ⟨h1, ⟨_, _, h2, (Int_goodU u b 24 (by rw [HS.out]; decide) w' h2).mono fun _ _ k => ⟨k.1, k.2.2⟩⟩, h3⟩
    · refine ⟨0, 0, ?_, fun W h => ?_⟩
      · unfold rdS; rw [if_neg c]; unfold nmText; rw [if_neg c]
      · rw [if_neg c] at h
        refine (Int_stoppedU u b 16 6 rfl W h).mono ?_
        rintro e w' ⟨h1, rfl⟩
        exact ⟨h1, ⟨_, _, h, (Int_stoppedU u b 16 6 rfl W h).mono fun _ _ k => ⟨k.1, by rw [← k.2]; exact grownBy_refl _ _⟩⟩, grownBy_refl _ _⟩
  obtain ⟨x, y, RE, INT⟩ := INT
  obtain ⟨nm, hnm⟩ : ∃ t, nmText (b.data.toList.take 16) = t := ⟨_, rfl⟩
  rw [hnm] at RE ⊢
  have RES := Hid.of RE
  have U3 := Hid.of u3
  have HINT := Hid.of INT
  clear RE u3 INT hnm
  go_wp2_with fail
  refine (HINT.out _ U3.out).mono ?_
  rintro e w4 ⟨rfl, ⟨k, d, u4, i4⟩, g4⟩
  have I4 := Hid.of i4
  have R4 : Hid (SmBk w4 r (⟨#[]⟩, 0, 0)) := Hid.of ((g4.block r (Array.getElem?_eq_some_iff.1 R3.out).1 (by simp; have := GU.out.2; omega)).trans R3.out)
  have B4 := Hid.of (B3.out.trans (Below.of_grown g4 GU.out.1 U3.out.lt))
  have LT4 := Hid.of u4.lt
  clear u4 i4 g4 HINT R3 B3 U3
  go_wp2_with fail
  refine I4.out.mono ?_
  rintro e w5 ⟨rfl, g5⟩
  have R5 : Hid (SmBk w5 r (⟨#[]⟩, 0, 0)) := Hid.of ((g5.block r (Array.getElem?_eq_some_iff.1 R4.out).1 (by simp; have := GU.out.2; omega)).trans R4.out)
  have B5 := Hid.of (B4.out.trans (Below.of_grown g5 GU.out.1 LT4.out))
  clear g5 I4 R4 B4
  have z0 := row_frozen (i := 0) R5.out
  have z1 := row_frozen (i := 1) R5.out
  have z2 := row_frozen (i := 2) R5.out
  obtain ⟨y0, y1, y2⟩ := R5.out.at
  have RX : Hid (∃ wx, (((w5.setCell ⟨r, 0, none⟩ (.string nm)).setCell ⟨r, 1, none⟩ (.int .i64 x)).setCell ⟨r, 2, none⟩ (.int .i64 y)) = wx ∧ SmBk wx r (nm, x, y) ∧ Below w.heap.size w5 wx) := Hid.of ⟨_, rfl, row_set (row_set (row_set R5.out _) _) _, by
    have h : r ≥ w.heap.size := Nat.le_of_eq HR.out
    exact (((Below.refl _ _).setCell (p := ⟨r, 0, none⟩) h _).setCell (p := ⟨r, 1, none⟩) h _).setCell (p := ⟨r, 2, none⟩) h _⟩
  go_wp2
  obtain ⟨wx, hx, rx, bx⟩ := RX.out
  rw [hx]
  refine bodyPost_ret (results_cell_row (P := Tryz.prog) rfl _ _ r 107 #[.string nm, .int .i64 x, .int .i64 y] (0, 0) _ rfl rx Tryz.underlying107 rfl (by kernel_rfl)) rfl ?_
  exact ⟨by rw [RES.out], B5.out.trans bx⟩

end Go.Proofs.YtfgfgdchaoekfaaGreatDoor

namespace Go.Proofs.YtfgfgdchaoekfaaGreatDoor
open Go.RowKit Go.Lib

set_option maxRecDepth 20000 in
set_option maxHeartbeats 3200000 in
theorem recPut_any (v : Value) (l : List TRec) (w : World) (hv : CellRow w v l.length (flat renc (l.map rl))) (hl : l.length ≤ 1000) (fit : ∀ x ∈ l, TFit x) :
    Calls Tryz.prog 8 #[v] w fun e w' => e = .returned (.tuple #[.string (rcPut l).1, .int .i64 (rcPut l).2]) ∧ Below w.heap.size w w' := by
  have HV := Hid.of hv
  have FIT := Hid.of fit
  obtain ⟨va, vc, rfl, -⟩ := hv
  obtain ⟨N, hN⟩ : ∃ N, l.length = N := ⟨_, rfl⟩
  have HN := Hid.of hN
  rw [hN] at HV hl ⊢
  have N9 : (N : Int) ≤ 1000 := by omega
  obtain ⟨t1, ht1⟩ : ∃ t, (rcPut l).1 = t := ⟨_, rfl⟩
  obtain ⟨t2, ht2⟩ : ∃ t, (rcPut l).2 = t := ⟨_, rfl⟩
  rw [ht1, ht2]
  have T1 := Hid.of ht1
  have T2 := Hid.of ht2
  clear hN ht1 ht2 fit
  obtain ⟨p, hp⟩ : ∃ p, w.heap.size = p := ⟨_, rfl⟩
  obtain ⟨w1, hw1⟩ : ∃ w1, w.alloc (.cells #[.pointer none, .slice none 0 0] 66) = w1 := ⟨_, rfl⟩
  have P1 : Hid (Bld0 p w1) := Hid.of (by rw [← hw1, ← hp]; exact Bld0.new w)
  have B1 : Hid (Below p w w1) := Hid.of (by rw [← hw1, ← hp]; exact (Below.refl _ _).alloc (Nat.le_refl _) _)
  have HW := Hid.of hw1
  have HP := Hid.of hp
  clear hw1 hp
  go_enter Tryz.func8, Tryz.ntmps8
  go_upto_region 2 with fail
  rw [HW.out, HP.out]
  clear HW
  go_wp2_with fail
  rw [show (N : Int) * 64 = ((N * 64 : Nat) : Int) by omega]
  refine (bld_grow p p (N * 64) _ P1.out (Nat.le_refl _) (by have := B1.out.size; have := HP.out; omega) (by omega)).mono ?_
  rintro e w2 ⟨rfl, p2, b2⟩
  have P2 := Hid.of p2
  have B2 := Hid.of (B1.out.trans b2)
  clear p2 b2 P1 B1
  go_wp2_with fail
  go_loopg [6, 13] N (fun kx av iv wr => ∃ i : Nat, iv = .int .i64 i ∧ i ≤ N ∧ N - i ≤ kx ∧ Hid (∀ x ∈ l.take i, rcOk x = true) ∧ Hid (Bld p p ((l.take i).flatMap rcBytes) wr) ∧ Hid (Below p w wr))
  case atStart => exact ⟨0, rfl, Nat.zero_le _, Nat.le_refl _, Hid.of (fun x h => by rw [List.take_zero] at h; cases h), by rw [List.take_zero]; exact P2, B2⟩
  case round =>
    clear P2 B2
    obtain ⟨i, rfl, hiN, hix, OK, PK, HB⟩ := hrel
    have i0 : (0 : Int) ≤ (i : Int) := Int.natCast_nonneg _
    have HBW : Hid (Below w.heap.size w wr) := Hid.of (HB.out.mono (Nat.le_of_eq HP.out))
    have LEN : Hid (((l.take i).flatMap rcBytes).length = 64 * i) := Hid.of (by
      rw [parts_len (k := 64) (fun x hx => rcBytes_len (by
        have h := OK.out x hx
        unfold rcOk at h
        simp only [Bool.and_eq_true] at h
        exact (nOk_len h.1.1.1).2)), List.length_take, HN.out, Nat.min_eq_left hiN])
    by_cases hlt : (i : Int) < (N : Int)
    · have hiN2 : i < N := by omega
      obtain ⟨x, hx⟩ : ∃ x, l[i]? = some x := ⟨_, List.getElem?_eq_getElem (by rw [HN.out]; exact hiN2)⟩
      have HX := Hid.of hx
      have FX := Hid.of (FIT.out x (List.mem_of_getElem? hx))
      obtain ⟨vb, vo, hva, vl, d0, d1, d2, d3, d4, d5, d6⟩ := r_at (HV.out.kept HBW.out) i (rl x) (by rw [List.getElem?_map, hx]; rfl)
      simp only [rl] at d0 d1 d2 d3 d4 d5 d6
      subst hva
      clear hx
      obtain ⟨ok, hok⟩ : ∃ ok, rcOk x = ok := ⟨_, rfl⟩
      have HOK := Hid.of hok
      clear hok
      obtain ⟨r, hr⟩ : ∃ r, wr.heap.size = r := ⟨_, rfl⟩
      obtain ⟨w3, hw3⟩ : ∃ w3, wr.alloc (.cells #[.string x.n, .int .i64 x.s, .int .i64 x.a.c, .int .i64 x.a.hi, .int .u64 x.a.lo, .int .i64 x.a.mn, .int .i64 x.a.mx] 50) = w3 := ⟨_, rfl⟩
      have b3 : Below wr.heap.size wr w3 := by rw [← hw3]; exact (Below.refl _ _).alloc (Nat.le_refl _) _
      have R3 : Hid (RcBk w3 r x) := Hid.of (by rw [← hw3, ← hr]; exact Go.heap_alloc_new _ _)
      have PK3 := Hid.of (PK.out.kept b3)
      have HB3 := Hid.of (HB.out.trans (b3.mono (by have := PK.out.lt; omega)))
      have HW := Hid.of hw3
      have HR := Hid.of hr
      clear hw3 hr b3 PK HB
      go_upto_region 6 with fail
      rw [HW.out, HR.out]
      clear HW d0 d1 d2 d3 d4 d5 d6
      obtain ⟨d0, d1, d2, d3, d4, d5, d6⟩ := R3.out.at
      go_wp2_with fail
      refine (recValid_any x FX.out _).mono ?_
      rintro e w4 ⟨rfl, b4⟩
      rw [HOK.out]
      have PK4 := Hid.of (PK3.out.kept b4)
      have HB4 := Hid.of (HB3.out.trans (b4.mono (by have := PK3.out.lt; omega)))
      have R4 := Hid.of (R3.out.next b4)
      clear b4 PK3 HB3 R3 d0 d1 d2 d3 d4 d5 d6
      cases ok
      · have bad : rcPut l = (⟨#[]⟩, 1) := by
          unfold rcPut
          rw [if_neg]
          intro c
          have h := List.all_eq_true.1 c x (List.mem_of_getElem? HX.out)
          rw [HOK.out] at h
          cases h
        obtain rfl : t1 = ⟨#[]⟩ := by rw [← T1.out, bad]
        obtain rfl : t2 = 1 := by rw [← T2.out, bad]
        have B9 := Hid.of (HB4.out.mono (Nat.le_of_eq HP.out))
        go_wp2
        go_ret2
        exact ⟨rfl, B9.out⟩
      · obtain ⟨d0, d1, d2, d3, d4, d5, d6⟩ := R4.out.at
        go_wp2_with fail
        refine (layRecord_any x FX.out HOK.out _).mono ?_
        rintro e w5 ⟨rfl, b5⟩
        have PK5 := Hid.of (PK4.out.kept b5)
        have HB5 := Hid.of (HB4.out.trans (b5.mono (by have := PK4.out.lt; omega)))
        have LB : Hid ((txt (rcBytes x)).size = 64) := Hid.of (by
          rw [txt_size, rcBytes_len]
          have h := HOK.out
          unfold rcOk at h
          simp only [Bool.and_eq_true] at h
          exact (nOk_len h.1.1.1).2)
        clear b5 PK4 HB4 R4 d0 d1 d2 d3 d4 d5 d6
        go_wp2_with fail
        refine (bld_write p p _ (txt (rcBytes x)) _ PK5.out (by have := PK5.out.lt; omega) (by rw [LEN.out, LB.out]; omega)).mono ?_
        rintro e w6 ⟨rfl, p6, b6⟩
        have e9 : (l.take (i + 1)).flatMap rcBytes = (l.take i).flatMap rcBytes ++ (txt (rcBytes x)).data.toList := by
          rw [List.take_add_one, HX.out, List.flatMap_append, txt_list]
          show _ ++ (rcBytes x ++ []) = _
          rw [List.append_nil]
        rw [← e9] at p6
        have PK6 := Hid.of p6
        have HB6 := Hid.of (HB5.out.trans b6)
        clear p6 b6 e9 PK5 HB5
        go_wp2
        go_roundg (N - (i + 1))
        case measure => omega
        case rel =>
          refine ⟨i + 1, by go_num, by omega, Nat.le_refl _, Hid.of (fun y hy => ?_), PK6, HB6⟩
          rw [List.take_add_one, HX.out, List.mem_append] at hy
          rcases hy with hy | hy
          · exact OK.out y hy
          · have e : y = x := by simpa using hy
            rw [e]
            exact HOK.out
    · obtain rfl : N = i := by omega
      have ok := OK.out
      have pk := PK.out
      rw [List.take_of_length_le (Nat.le_of_eq HN.out)] at ok pk
      have good : rcPut l = (txt (l.flatMap rcBytes), 0) := by
        unfold rcPut
        rw [if_pos (List.all_eq_true.2 ok)]
      have TT : Hid (t1 = txt (l.flatMap rcBytes)) := Hid.of (by rw [← T1.out, good])
      obtain rfl : t2 = 0 := by rw [← T2.out, good]
      have PK9 := Hid.of pk
      clear ok pk good PK
      go_wp2_with fail
      refine (bld_text p p _ _ PK9.out (by have := PK9.out.lt; omega)).mono ?_
      rintro e w7 ⟨rfl, b7⟩
      have B7 := Hid.of ((HB.out.trans b7).mono (Nat.le_of_eq HP.out))
      clear b7 PK9
      go_wp2
      go_ret2
      exact ⟨by rw [TT.out]; rfl, B7.out⟩

end Go.Proofs.YtfgfgdchaoekfaaGreatDoor

namespace Go.Proofs.YtfgfgdchaoekfaaGreatDoor
open Go.RowKit Go.Lib

set_option maxRecDepth 20000 in
set_option maxHeartbeats 3200000 in
theorem recPutS_any (v : Value) (l : List SamL) (w : World) (hv : CellRow w v l.length (flat aenc l)) (hl : l.length ≤ 1000) (fit : ∀ x ∈ l, SmIn x) :
    Calls Tryz.prog 20 #[v] w fun e w' => e = .returned (.tuple #[.string (smPut l).1, .int .i64 (smPut l).2]) ∧ Below w.heap.size w w' := by
  have HV := Hid.of hv
  have FIT := Hid.of fit
  obtain ⟨va, vc, rfl, -⟩ := hv
  obtain ⟨N, hN⟩ : ∃ N, l.length = N := ⟨_, rfl⟩
  have HN := Hid.of hN
  rw [hN] at HV hl ⊢
  have N9 : (N : Int) ≤ 1000 := by omega
  obtain ⟨t1, ht1⟩ : ∃ t, (smPut l).1 = t := ⟨_, rfl⟩
  obtain ⟨t2, ht2⟩ : ∃ t, (smPut l).2 = t := ⟨_, rfl⟩
  rw [ht1, ht2]
  have T1 := Hid.of ht1
  have T2 := Hid.of ht2
  clear hN ht1 ht2 fit
  obtain ⟨p, hp⟩ : ∃ p, w.heap.size = p := ⟨_, rfl⟩
  obtain ⟨w1, hw1⟩ : ∃ w1, w.alloc (.cells #[.pointer none, .slice none 0 0] 66) = w1 := ⟨_, rfl⟩
  have P1 : Hid (Bld0 p w1) := Hid.of (by rw [← hw1, ← hp]; exact Bld0.new w)
  have B1 : Hid (Below p w w1) := Hid.of (by rw [← hw1, ← hp]; exact (Below.refl _ _).alloc (Nat.le_refl _) _)
  have HW := Hid.of hw1
  have HP := Hid.of hp
  clear hw1 hp
  go_enter Tryz.func20, Tryz.ntmps20
  go_upto_region 2 with fail
  rw [HW.out, HP.out]
  clear HW
  go_wp2_with fail
  rw [show (N : Int) * 32 = ((N * 32 : Nat) : Int) by omega]
  refine (bld_grow p p (N * 32) _ P1.out (Nat.le_refl _) (by have := B1.out.size; have := HP.out; omega) (by omega)).mono ?_
  rintro e w2 ⟨rfl, p2, b2⟩
  have P2 := Hid.of p2
  have B2 := Hid.of (B1.out.trans b2)
  clear p2 b2 P1 B1
  go_wp2_with fail
  go_loopg [6, 13] N (fun kx av iv wr => ∃ i : Nat, iv = .int .i64 i ∧ i ≤ N ∧ N - i ≤ kx ∧ Hid (∀ x ∈ l.take i, smOk x = true) ∧ Hid (Bld p p ((l.take i).flatMap smBytes) wr) ∧ Hid (Below p w wr))
  case atStart => exact ⟨0, rfl, Nat.zero_le _, Nat.le_refl _, Hid.of (fun x h => by rw [List.take_zero] at h; cases h), by rw [List.take_zero]; exact P2, B2⟩
  case round =>
    clear P2 B2
    obtain ⟨i, rfl, hiN, hix, OK, PK, HB⟩ := hrel
    have i0 : (0 : Int) ≤ (i : Int) := Int.natCast_nonneg _
    have HBW : Hid (Below w.heap.size w wr) := Hid.of (HB.out.mono (Nat.le_of_eq HP.out))
    have LEN : Hid (((l.take i).flatMap smBytes).length = 32 * i) := Hid.of (by
      rw [parts_len (k := 32) (fun x hx => smBytes_len (by
        have h := OK.out x hx
        unfold smOk at h
        simp only [Bool.and_eq_true] at h
        exact (nOk_len h.1.1).2)), List.length_take, HN.out, Nat.min_eq_left hiN])
    by_cases hlt : (i : Int) < (N : Int)
    · have hiN2 : i < N := by omega
      obtain ⟨x, hx⟩ : ∃ x, l[i]? = some x := ⟨_, List.getElem?_eq_getElem (by rw [HN.out]; exact hiN2)⟩
      have HX := Hid.of hx
      have FX := Hid.of (FIT.out x (List.mem_of_getElem? hx))
      obtain ⟨vb, vo, hva, vl, d0, d1, d2⟩ := a_at (HV.out.kept HBW.out) i x hx
      subst hva
      clear hx
      obtain ⟨ok, hok⟩ : ∃ ok, smOk x = ok := ⟨_, rfl⟩
      have HOK := Hid.of hok
      clear hok
      obtain ⟨r, hr⟩ : ∃ r, wr.heap.size = r := ⟨_, rfl⟩
      obtain ⟨w3, hw3⟩ : ∃ w3, wr.alloc (.cells #[.string x.1, .int .i64 x.2.1, .int .i64 x.2.2] 107) = w3 := ⟨_, rfl⟩
      have b3 : Below wr.heap.size wr w3 := by rw [← hw3]; exact (Below.refl _ _).alloc (Nat.le_refl _) _
      have R3 : Hid (SmBk w3 r x) := Hid.of (by rw [← hw3, ← hr]; exact Go.heap_alloc_new _ _)
      have PK3 := Hid.of (PK.out.kept b3)
      have HB3 := Hid.of (HB.out.trans (b3.mono (by have := PK.out.lt; omega)))
      have HW := Hid.of hw3
      have HR := Hid.of hr
      clear hw3 hr b3 PK HB
      go_upto_region 6 with fail
      rw [HW.out, HR.out]
      clear HW d0 d1 d2
      obtain ⟨d0, d1, d2⟩ := R3.out.at
      go_wp2_with fail
      refine (isSample_any x FX.out _).mono ?_
      rintro e w4 ⟨rfl, b4⟩
      rw [HOK.out]
      have PK4 := Hid.of (PK3.out.kept b4)
      have HB4 := Hid.of (HB3.out.trans (b4.mono (by have := PK3.out.lt; omega)))
      have R4 := Hid.of (R3.out.next b4)
      clear b4 PK3 HB3 R3 d0 d1 d2
      cases ok
      · have bad : smPut l = (⟨#[]⟩, 1) := by
          unfold smPut
          rw [if_neg]
          intro c
          have h := List.all_eq_true.1 c x (List.mem_of_getElem? HX.out)
          rw [HOK.out] at h
          cases h
        obtain rfl : t1 = ⟨#[]⟩ := by rw [← T1.out, bad]
        obtain rfl : t2 = 1 := by rw [← T2.out, bad]
        have B9 := Hid.of (HB4.out.mono (Nat.le_of_eq HP.out))
        go_wp2
        go_ret2
        exact ⟨rfl, B9.out⟩
      · obtain ⟨d0, d1, d2⟩ := R4.out.at
        go_wp2_with fail
        refine (laySample_any x HOK.out _).mono ?_
        rintro e w5 ⟨rfl, b5⟩
        have PK5 := Hid.of (PK4.out.kept b5)
        have HB5 := Hid.of (HB4.out.trans (b5.mono (by have := PK4.out.lt; omega)))
        have LB : Hid ((txt (smBytes x)).size = 32) := Hid.of (by
          rw [txt_size, smBytes_len]
          have h := HOK.out
          unfold smOk at h
          simp only [Bool.and_eq_true] at h
          exact (nOk_len h.1.1).2)
        clear b5 PK4 HB4 R4 d0 d1 d2
        go_wp2_with fail
        refine (bld_write p p _ (txt (smBytes x)) _ PK5.out (by have := PK5.out.lt; omega) (by rw [LEN.out, LB.out]; omega)).mono ?_
        rintro e w6 ⟨rfl, p6, b6⟩
        have e9 : (l.take (i + 1)).flatMap smBytes = (l.take i).flatMap smBytes ++ (txt (smBytes x)).data.toList := by
          rw [List.take_add_one, HX.out, List.flatMap_append, txt_list]
          show _ ++ (smBytes x ++ []) = _
          rw [List.append_nil]
        rw [← e9] at p6
        have PK6 := Hid.of p6
        have HB6 := Hid.of (HB5.out.trans b6)
        clear p6 b6 e9 PK5 HB5
        go_wp2
        go_roundg (N - (i + 1))
        case measure => omega
        case rel =>
          refine ⟨i + 1, by go_num, by omega, Nat.le_refl _, Hid.of (fun y hy => ?_), PK6, HB6⟩
          rw [List.take_add_one, HX.out, List.mem_append] at hy
          rcases hy with hy | hy
          · exact OK.out y hy
          · have e : y = x := by simpa using hy
            rw [e]
            exact HOK.out
    · obtain rfl : N = i := by omega
      have ok := OK.out
      have pk := PK.out
      rw [List.take_of_length_le (Nat.le_of_eq HN.out)] at ok pk
      have good : smPut l = (txt (l.flatMap smBytes), 0) := by
        unfold smPut
        rw [if_pos (List.all_eq_true.2 ok)]
      have TT : Hid (t1 = txt (l.flatMap smBytes)) := Hid.of (by rw [← T1.out, good])
      obtain rfl : t2 = 0 := by rw [← T2.out, good]
      have PK9 := Hid.of pk
      clear ok pk good PK
      go_wp2_with fail
      refine (bld_text p p _ _ PK9.out (by have := PK9.out.lt; omega)).mono ?_
      rintro e w7 ⟨rfl, b7⟩
      have B7 := Hid.of ((HB.out.trans b7).mono (Nat.le_of_eq HP.out))
      clear b7 PK9
      go_wp2
      go_ret2
      exact ⟨by rw [TT.out]; rfl, B7.out⟩

end Go.Proofs.YtfgfgdchaoekfaaGreatDoor
