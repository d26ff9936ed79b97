/-
  PolicyBack: what is printed is read as it was; what is read, and printed, and read again is the same text.
-/
import Derived.Test.YtadepjpmpjipmaaDoorPLIq
import Derived.Test.YtadepjpmpjipmaaDoorPRLq
namespace Go.Proofs.YtadepjpmpjipmaaDoor
open Go.RowKit Go.Lib

/-- A variable of one's own that holds an answered policy. -/
structure VPol (w : World) (b : Nat) (q : PolL) (s : Value) : Prop where
  blk : PBlk w b q.1 s
  row : CellRow w s q.2.length (flat penc q.2)
  cap : CapOk s

theorem VPol.next {w w' : World} {b : Nat} {q : PolL} {s : Value} (h : VPol w b q s) (c : Below w.heap.size w w') : VPol w' b q s := ⟨h.blk.kept c, h.row.kept c, h.cap⟩

theorem VPol.pol {w : World} {b : Nat} {q : PolL} {s : Value} (h : VPol w b q s) : PolRow w (polVal q.1 s) q := ⟨s, rfl, h.row, h.cap⟩

theorem VPol.made {w : World} {q : PolL} {s : Value} (h : CellRow w s q.2.length (flat penc q.2)) (hk : CapOk s) : VPol (w.alloc (.cells #[.string q.1, s] 24)) w.heap.size q s :=
  ⟨PBlk.made w _ _, h.kept ((Below.refl _ _).alloc (Nat.le_refl _) _), hk⟩

theorem fit_ok {p : PolL} (h : (pCheck p).1 = 0) : PFit p := by
  have hk := pCheck_ok h
  have hn := nOk_le hk.2.1
  rw [byte_len] at hn
  refine ⟨by omega, by omega, fun x hx => ?_⟩
  obtain ⟨i, hi, he⟩ := List.getElem_of_mem hx
  have ht := tier_known h (i := i) (t := x) (by rw [List.getElem?_eq_getElem hi, he])
  have h15 := nOk_le ht.2.2.2.2.2.2.1
  rw [byte_len] at h15
  unfold In64
  refine ⟨by omega, ⟨by omega, by omega⟩, ⟨by omega, by omega⟩, ⟨by omega, by omega⟩⟩

theorem pRead_fail {t : List UInt8} (h : ¬ (pRead t).2.1 = 0) : (pRead t).1 = PolL.none := by
  unfold pRead at h ⊢
  split
  · rfl
  · split
    · rfl
    · rename_i h1 h2
      rw [if_neg h1, if_neg h2] at h
      exact absurd rfl h

set_option maxRecDepth 20000 in
set_option maxHeartbeats 6400000 in
theorem policyBack_main (S : PolicySpec) (u : Value) (p : PolL) (text : ByteArray) (w : World) (hS : S.Ok w) (hu : PolRow w u p) (hp : ∀ x ∈ p.2, TIn x) (hb : text.size ≤ maxLen) :
    Calls Tryd.prog 3 #[u, .string text] w fun e w' => e = .returned (.bool true) ∧ Below w.heap.size w w' := by
  obtain ⟨sl, rfl, hsl, hsk⟩ := hu
  have HSL := Hid.of hsl
  obtain ⟨sa, sc, rfl, -⟩ := hsl
  obtain ⟨n, hn⟩ : ∃ n, p.1 = n := ⟨_, rfl⟩
  obtain ⟨N, hN⟩ : ∃ N, p.2.length = N := ⟨_, rfl⟩
  rw [hn, hN]
  rw [hN] at HSL
  have HSK : Hid (CapOk (.slice sa N sc)) := Hid.of (by rw [← hN]; exact hsk)
  clear hsk
  obtain ⟨w1, hw1⟩ : ∃ w1, w.alloc (.cells #[.string n, .slice sa N sc] 24) = w1 := ⟨_, rfl⟩
  have H1 : Hid (PH S w w.heap.size n (.slice sa N sc) p w1) := Hid.of (by
    rw [← hw1]
    exact ⟨PBlk.made w _ _, ⟨_, by rw [hn], by rw [hN]; exact HSL.out, HSK.out⟩, hS, (Below.refl _ _).alloc (Nat.le_refl _) _⟩)
  have HW := Hid.of hw1
  have HP := Hid.of hp
  have HB := Hid.of hb
  clear hw1 hN hn hS hp HSL hb
  go_enter Tryd.func3, Tryd.ntmps3
  go_wp2_with fail
  rw [HW.out]
  clear HW
  generalize w.heap.size = a3 at H1 ⊢
  refine (Small_any _ p _ H1.out.r3).mono ?_
  rintro e w2 ⟨r, rfl, hr, b2⟩
  have H2 := Hid.of (H1.out.next b2)
  clear b2 H1
  obtain ⟨d0, d1⟩ := H2.out.k3.at
  by_cases hc : r = true ∧ text.size ≤ 4000
  · obtain ⟨rfl, h1⟩ := hc
    have SP := Hid.of (fit_of HP.out (hr.out rfl))
    have g1 : ¬ (4000 : Int) < (text.size : Int) := by omega
    clear hr h1
    go_wp2_with fail
    clear d0 d1
    refine (S.print _ p _ H2.out.ok SP.out H2.out.r3).mono ?_
    rintro e w3 ⟨rfl, b3⟩
    have H3 := Hid.of (H2.out.next b3)
    clear b3 H2
    obtain ⟨ps, pe, hpp⟩ : ∃ ps pe, pPrint p = (ps, pe) := ⟨_, _, rfl⟩
    rw [hpp]
    simp only
    go_upto_if 35 with fail
    go_cut [] (fun wx => Hid (PH S w a3 n (.slice sa N sc) p wx))
    case first =>
      by_cases hc : (pCheck p).1 = 0
      · have h2 : pPrint p = (⟨(polText p).toArray⟩, 0) := by unfold pPrint; rw [if_pos hc]
        rw [h2] at hpp
        obtain ⟨hs, rfl⟩ := Prod.mk.inj hpp
        have HR : Hid (pRead ps.data.toList = (p, 0, 0)) := Hid.of (by rw [← hs]; exact pRead_print hc)
        have SZ : Hid (ps.size ≤ maxLen) := Hid.of (by rw [← byte_len, ← hs]; have := polText_len hc; unfold maxLen; simp only; omega)
        clear hs hc hpp h2
        go_wp2_with fail
        refine (S.read ps _ H3.out.ok SZ.out).mono ?_
        rintro e w4 ⟨v, rfl, ov, b4⟩
        rw [HR.out] at ov ⊢
        obtain ⟨vs, rfl, os⟩ := ov
        obtain ⟨ta, tc, rfl, -⟩ := own_one os
        have H4 := Hid.of (H3.out.next b4)
        have hr := own_row os
        have hcp := Hid.of (own_cap os)
        obtain ⟨w5, hw5⟩ : ∃ w5, w4.alloc (.cells #[.string p.1, .slice ta p.2.length tc] 24) = w5 := ⟨_, rfl⟩
        have V5 : Hid (VPol w5 w4.heap.size p (.slice ta p.2.length tc)) := Hid.of (by rw [← hw5]; exact VPol.made hr hcp.out)
        have H5 : Hid (PH S w a3 n (.slice sa N sc) p w5) := Hid.of (by rw [← hw5]; exact H4.out.next ((Below.refl _ _).alloc (Nat.le_refl _) _))
        have HW := Hid.of hw5
        clear b4 os hr hw5 H3 H4
        obtain ⟨c0, c1⟩ := H5.out.k3.at
        obtain ⟨c2, c3⟩ := V5.out.blk.at
        rw [← HW.out] at c0 c1 c2 c3
        simp only
        go_wp2_with fail
        rw [HW.out]
        clear c0 c1 c2 c3
        refine (refSame_any _ _ p p _ H5.out.r3 V5.out.pol SP.out.1 SP.out.1).mono ?_
        rintro e w6 ⟨rfl, b6⟩
        rw [show pSame p p = true from decide_eq_true rfl]
        go_wp2_with fail
        go_meet
        exact Hid.of (H5.out.next b6)
      · have h2 : pPrint p = (⟨#[]⟩, (pCheck p).1) := by unfold pPrint; rw [if_neg hc]
        rw [h2] at hpp
        have hpe := (Prod.mk.inj hpp).2
        have q1 : (pe == 0) = false := by rw [beq_eq_false_iff_ne, ← hpe]; exact hc
        clear hpp h2 hc hpe
        go_wp2_with fail
        go_meet
        exact H3
    case rest =>
      have H := hcut
      clear H3 hcut hpp
      go_wp2_with fail
      refine (S.read text _ H.out.ok HB.out).mono ?_
      rintro e w4 ⟨v, rfl, ov, b4⟩
      have PF := Hid.of (@pRead_fail text.data.toList)
      obtain ⟨q, qe, qn, hq⟩ : ∃ q qe qn, pRead text.data.toList = (q, qe, qn) := ⟨_, _, _, rfl⟩
      rw [hq] at ov PF ⊢
      have HQ := Hid.of hq
      simp only at ov ⊢
      obtain ⟨vs, rfl, os⟩ := ov
      obtain ⟨ta, tc, rfl, -⟩ := own_one os
      have H4 := Hid.of (H.out.next b4)
      have hr := own_row os
      have hcp := Hid.of (own_cap os)
      obtain ⟨w5, hw5⟩ : ∃ w5, w4.alloc (.cells #[.string q.1, .slice ta q.2.length tc] 24) = w5 := ⟨_, rfl⟩
      have V5 : Hid (VPol w5 w4.heap.size q (.slice ta q.2.length tc)) := Hid.of (by rw [← hw5]; exact VPol.made hr hcp.out)
      have H5 : Hid (PH S w a3 n (.slice sa N sc) p w5) := Hid.of (by rw [← hw5]; exact H4.out.next ((Below.refl _ _).alloc (Nat.le_refl _) _))
      have HW := Hid.of hw5
      clear b4 os hr hw5 H H4 hq
      obtain ⟨c2, c3⟩ := V5.out.blk.at
      rw [← HW.out] at c2 c3
      by_cases hf : qe = 0
      · subst hf
        have hok := (pRead_ok HQ.out).1
        have FQ := Hid.of (fit_ok hok)
        obtain ⟨s, hs⟩ : ∃ s : ByteArray, (⟨(polText q).toArray⟩ : ByteArray) = s := ⟨_, rfl⟩
        have PR : Hid (pPrint q = (s, 0)) := Hid.of (by unfold pPrint; rw [if_pos hok, hs])
        have HR : Hid (pRead s.data.toList = (q, 0, 0)) := Hid.of (by rw [← hs]; exact pRead_print hok)
        have SZ : Hid (s.size ≤ maxLen) := Hid.of (by rw [← byte_len, ← hs]; have := polText_len hok; unfold maxLen; simp only; omega)
        clear hs hok PF HQ
        go_wp2_with fail
        rw [HW.out]
        clear c2 c3 HW
        generalize w4.heap.size = a5 at *
        refine (S.print _ q _ H5.out.ok FQ.out V5.out.pol).mono ?_
        rintro e w6 ⟨rfl, b6⟩
        rw [PR.out]
        have V6 := Hid.of (V5.out.next b6)
        have H6 := Hid.of (H5.out.next b6)
        clear b6 V5 H5
        go_wp2_with fail
        refine (S.read s _ H6.out.ok SZ.out).mono ?_
        rintro e w7 ⟨v, rfl, ov, b7⟩
        rw [HR.out] at ov ⊢
        obtain ⟨vs, rfl, os⟩ := ov
        obtain ⟨ua, uc, rfl, -⟩ := own_one os
        have hr := own_row os
        have hcp := Hid.of (own_cap os)
        have V7 := Hid.of (V6.out.next b7)
        have H7 := Hid.of (H6.out.next b7)
        obtain ⟨w8, hw8⟩ : ∃ w8, w7.alloc (.cells #[.string q.1, .slice ua q.2.length uc] 24) = w8 := ⟨_, rfl⟩
        have b8 : Below w7.heap.size w7 w8 := by rw [← hw8]; exact (Below.refl _ _).alloc (Nat.le_refl _) _
        have R8 : Hid (VPol w8 w7.heap.size q (.slice ua q.2.length uc)) := Hid.of (by rw [← hw8]; exact VPol.made hr hcp.out)
        have V8 := Hid.of (V7.out.next b8)
        have H8 := Hid.of (H7.out.next b8)
        have HW := Hid.of hw8
        clear b7 os hr hw8 b8 V6 H6 V7 H7
        obtain ⟨c2, c3⟩ := R8.out.blk.at
        rw [← HW.out] at c2 c3
        simp only
        go_wp2_with fail
        rw [HW.out]
        clear c2 c3 HW
        generalize w7.heap.size = a8 at *
        refine (S.print _ q _ H8.out.ok FQ.out R8.out.pol).mono ?_
        rintro e w9 ⟨rfl, b9⟩
        rw [PR.out]
        have V9 := Hid.of (V8.out.next b9)
        have R9 := Hid.of (R8.out.next b9)
        have H9 := Hid.of (H8.out.next b9)
        clear b9 V8 R8 H8
        go_wp2_with fail
        refine (polAlive_any S _ H9.out.ok).mono ?_
        rintro e wa ⟨rfl, ba⟩
        have Va := Hid.of (V9.out.next ba)
        have Ra := Hid.of (R9.out.next ba)
        have Ha := Hid.of (H9.out.next ba)
        clear ba V9 R9 H9
        obtain ⟨c2, c3⟩ := Va.out.blk.at
        obtain ⟨c4, c5⟩ := Ra.out.blk.at
        have st : (s.toList == s.toList) = true := beq_self_eq_true _
        go_wp2_with fail
        refine (refSame_any _ _ q q _ Va.out.pol Ra.out.pol FQ.out.1 FQ.out.1).mono ?_
        rintro e wb ⟨rfl, bb⟩
        rw [show pSame q q = true from decide_eq_true rfl]
        go_wp2
        go_ret
        exact ⟨rfl, Ha.out.end_ bb⟩
      · have q1 : (qe != 0) = true := by simpa using hf
        have hn := PF.out hf
        simp only at hn
        subst hn
        clear hf c2 c3
        go_wp2_with fail
        rw [HW.out]
        refine (polAlive_any S _ H5.out.ok).mono ?_
        rintro e w6 ⟨rfl, b6⟩
        have V6 := Hid.of (V5.out.next b6)
        obtain ⟨c2, c3⟩ := V6.out.blk.at
        simp only [PolL.none] at c2 c3
        go_wp2
        go_ret
        exact ⟨rfl, H5.out.end_ b6⟩
  · have key : r = false ∨ (r = true ∧ (4000 : Int) < (text.size : Int)) := by
      cases r with
      | false => exact .inl rfl
      | true =>
        simp only [true_and] at hc ⊢
        omega
    clear hc
    rcases key with rfl | ⟨rfl, h1⟩
    all_goals
      go_wp2_with fail
      refine (polAlive_any S _ H2.out.ok).mono ?_
      rintro e w3 ⟨rfl, b3⟩
      go_wp2
      go_ret
      exact ⟨rfl, H2.out.end_ b3⟩

end Go.Proofs.YtadepjpmpjipmaaDoor
