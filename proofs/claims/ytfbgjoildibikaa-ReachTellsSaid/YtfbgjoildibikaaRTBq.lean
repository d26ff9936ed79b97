/-
  ReachTells: how far back each tier of a policy reaches, what is taken, where buckets begin, who covers, as the document's own words say; what was handed in stays; the lists lie apart.
-/
import Derived.Deep.RegionHeld3
import Derived.Test.YtfbgjoildibikaaRTAq
namespace Go.Proofs.Ytfbgjoildibikaa
open Go.RowKit Go.Lib

theorem bookip_built : Try.prog.built 40 [] = some (bookIP (.slice none 0 0) (.slice none 0 0) (.slice none 0 0) (.slice none 0 0)) := by kernel_rfl

set_option maxRecDepth 20000 in
set_option maxHeartbeats 12800000 in
theorem reachTells_main (S : ReachSpec) (v gv : Value) (p : PolL) (now tier t later : Int) (fl : List Int) (sn : ByteArray) (st sx : Int) (w : World) (hS : S.Ok w) (hv : PolRow w v p) (hp : ∀ x ∈ p.2, TIn x) (hnow : In64 now) (hg : NumRow .i64 w gv fl) (hfl : ∀ x ∈ fl, In64 x) (hsn : sn.size ≤ maxLen) (hst : In64 st) (htier : In64 tier) (ht : In64 t) (hlater : In64 later) :
    Calls Try.prog 3 #[v, .int .i64 now, gv, .agg #[.string sn, .int .i64 st, .int .i64 sx], .int .i64 tier, .int .i64 t, .int .i64 later] w fun e w' => e = .returned (.bool true) ∧ Below w.heap.size w w' := by
  obtain ⟨sl, rfl, hsl, hsk⟩ := hv
  have HSL := Hid.of hsl
  obtain ⟨sa, sc, rfl, -⟩ := hsl
  have HG := Hid.of (NumRow.cells' hg)
  obtain ⟨ga, gc, rfl, -⟩ := hg
  obtain ⟨n, hn⟩ : ∃ n, p.1 = n := ⟨_, rfl⟩
  obtain ⟨N, hN⟩ : ∃ N, p.2.length = N := ⟨_, rfl⟩
  obtain ⟨M, hM⟩ : ∃ M, fl.length = M := ⟨_, rfl⟩
  rw [hn, hN, hM]
  rw [hN] at HSL
  rw [hM] at HG
  have HSK : Hid (CapOk (.slice sa N sc)) := Hid.of (by rw [← hN]; exact hsk)
  clear hsk
  obtain ⟨w1, hw1⟩ : ∃ w1, (w.alloc (.cells #[.string n, .slice sa N sc] 24)).alloc (.cells #[.string sn, .int .i64 st, .int .i64 sx] 27) = w1 := ⟨_, rfl⟩
  have b1 : Below w.heap.size w w1 := by rw [← hw1]; exact ((Below.refl _ _).alloc (Nat.le_refl _) _).alloc (by simp) _
  have P1 : Hid (PT S w.heap.size n sn st sx (.slice sa N sc) (.slice ga M gc) p fl w1) := Hid.of
    ⟨by rw [← hw1]; exact (PBlk.made w _ _).kept ((Below.refl _ _).alloc (Nat.le_refl _) _), by
      rw [← hw1]
      have := Go.heap_alloc_new (w.alloc (.cells #[.string n, .slice sa N sc] 24)) (.cells #[.string sn, .int .i64 st, .int .i64 sx] 27 (0, 0))
      rw [show (w.alloc (.cells #[.string n, .slice sa N sc] 24)).heap.size = w.heap.size + 1 by simp] at this
      exact this, ⟨_, by rw [hn], by rw [hN]; exact HSL.out.kept b1, HSK.out⟩, by rw [hM]; exact HG.out.kept b1, S.kept hS b1⟩
  have B1 := Hid.of b1
  have HW := Hid.of hw1
  have HN := Hid.of hN
  have HM := Hid.of hM
  have Hn := Hid.of hn
  have HP := Hid.of hp
  have HNW := Hid.of hnow
  have HLT := Hid.of hlater
  have HTI := Hid.of htier
  have HT := Hid.of ht
  have HFL := Hid.of hfl
  have HSN := Hid.of hsn
  have HST := Hid.of hst
  clear hw1 b1 hN hM hn hS hp HSL HG hnow hlater htier ht hfl hsn hst
  go_enter Try.func3, Try.ntmps3
  go_wp2_with fail
  rw [HW.out]
  clear HW
  refine (Small_any _ p _ P1.out.r2).mono ?_
  rintro e w2 ⟨r, rfl, hr, b2⟩
  have P2 := Hid.of (P1.out.to b2)
  have B2 := Hid.of (B1.out.trans (b2.mono B1.out.size))
  clear b2 P1 B1
  obtain ⟨e0, e1, e2⟩ := P2.out.sat
  have ALV : Hid (Calls Try.prog 10 #[] w2 fun e w' => e = .returned (.bool true) ∧ Below w.heap.size w w') := Hid.of (by
    refine (reachAlive_any S w2 P2.out.ok).mono ?_
    rintro e w' ⟨he, b⟩
    exact ⟨he, B2.out.trans (b.mono B2.out.size)⟩)
  cases r with
  | false =>
    go_wp2_with fail
    refine ALV.out.mono ?_
    rintro e w3 ⟨rfl, b3⟩
    go_wp2
    go_ret
    exact ⟨rfl, b3⟩
  | true =>
    have SM : Hid (PSmall p) := Hid.of (hr.out rfl)
    have SP := Hid.of (fit_of HP.out (hr.out rfl))
    have N10 : Hid (N ≤ 10) := Hid.of (by rw [← HN.out]; exact SM.out.1)
    clear hr
    by_cases hbad : (12 : Int) < (M : Int) ∨ (300 : Int) < (sn.size : Int)
    · have hb2 : (12 : Int) < (M : Int) ∨ (¬ (12 : Int) < (M : Int) ∧ (300 : Int) < (sn.size : Int)) := by omega
      clear hbad
      rcases hb2 with h1 | ⟨h1, h2⟩
      all_goals
        go_wp2_with fail
        refine ALV.out.mono ?_
        rintro e w3 ⟨rfl, b3⟩
        go_wp2
        go_ret
        exact ⟨rfl, b3⟩
    · have m12 : ¬ (12 : Int) < (M : Int) := by omega
      have s300 : ¬ (300 : Int) < (sn.size : Int) := by omega
      have M12 : Hid (M ≤ 12) := Hid.of (by omega)
      clear hbad ALV
      have FT : Hid (RFit (now, p, fl)) := Hid.of ⟨HNW.out, SP.out, by show fl.length ≤ _; rw [HM.out]; have := M12.out; omega, HFL.out⟩
      obtain ⟨mx, hmx⟩ : ∃ mx, max now later = mx := ⟨_, rfl⟩
      have HMX := Hid.of hmx
      have FTM : Hid (RFit (mx, p, fl)) := Hid.of ⟨by have h1 := HNW.out; have h2 := HLT.out; unfold In64 at h1 h2 ⊢; simp only at *; omega, FT.out.2⟩
      clear hmx
      go_upto_region 3 with fail
      clear e0 e1 e2 m12 s300
      go_wp2_with (first
        | (refine wpList_builtP rfl 40 [] rfl (bookIP (.slice none 0 0) (.slice none 0 0) (.slice none 0 0) (.slice none 0 0)) bookip_built ?_)
        | (refine wpList_boxedP rfl 40 _ rfl (bookIP (.slice none 0 0) (.slice none 0 0) (.slice none 0 0) (.slice none 0 0)) rfl ?_
           obtain ⟨w3, hw3⟩ : ∃ w3, w2.alloc (.cells (bookIP (.slice none 0 0) (.slice none 0 0) (.slice none 0 0) (.slice none 0 0)) 40) = w3 := ⟨_, rfl⟩
           rw [hw3]
           have J3 : Hid (Here w2.heap.size (w2.heap.size + 1) (bookIP (.slice none 0 0) (.slice none 0 0) (.slice none 0 0) (.slice none 0 0)) 40 w2 w3 (iblk (.slice none 0 0) (.slice none 0 0) [] ++ (pblk (.slice none 0 0) (.slice none 0 0) [] ++ [])) []) := Hid.of (by
             rw [← hw3]
             exact bookIP_nil _ _ _ _ (Go.heap_alloc_new _ _) ((Below.refl _ _).alloc (Nat.le_refl _) _))
           clear hw3
           obtain ⟨d0, d1⟩ := (P2.out.to J3.out.fr).k2.at))
      obtain ⟨w4, hw4⟩ : ∃ w4, w3.alloc (.cells #[.int .i64 now, .string n, .slice sa N sc, .slice ga M gc] 42) = w4 := ⟨_, rfl⟩
      have b4 : Below w3.heap.size w3 w4 := by rw [← hw4]; exact (Below.refl _ _).alloc (Nat.le_refl _) _
      have h4 : Here w2.heap.size (w2.heap.size + 1) (bookIP (.slice none 0 0) (.slice none 0 0) (.slice none 0 0) (.slice none 0 0)) 40 w2 w4 (xRow w3.heap.size now n (.slice sa N sc) (.slice ga M gc) :: (iblk (.slice none 0 0) (.slice none 0 0) [] ++ (pblk (.slice none 0 0) (.slice none 0 0) [] ++ []))) [] := J3.out.more b4 (by rw [← hw4]; exact cells_own w3 #[.int .i64 now, .string n, .slice sa N sc, .slice ga M gc] _ 4 rfl)
      have J4 : Hid (Here w2.heap.size (w2.heap.size + 1) (bookIP (.slice none 0 0) (.slice none 0 0) (.slice none 0 0) (.slice none 0 0)) 40 w2 w4 (iblk (.slice none 0 0) (.slice none 0 0) [] ++ (pblk (.slice none 0 0) (.slice none 0 0) [] ++ [xRow w3.heap.size now n (.slice sa N sc) (.slice ga M gc)])) []) := Hid.of (h4.perm (by
        generalize iblk (.slice none 0 0) (.slice none 0 0) [] = A
        generalize pblk (.slice none 0 0) (.slice none 0 0) [] = B
        generalize (xRow w3.heap.size now n (.slice sa N sc) (.slice ga M gc) : Row1) = R1
        classical
        rw [List.perm_iff_count]
        intro a
        simp only [List.count_append, List.count_cons, List.count_nil]
        omega))
      rw [hw4]
      clear hw4 b4 h4 J3 d0 d1
      generalize w3.heap.size = bx at *
      go_loopw [17, 18, 19, 20, 21, 22, 23, 24, 25, 26, 27, 28, 29] (fun kv _ _ _ _ _ _ _ _ _ _ _ _ wr => ∃ (k : Nat) (V W V' W' : Value) (ls : List (Value × Value × List Int)) (ls' : List (Value × Value × List TierL)), k ≤ 2 ∧ kv = .int .i64 k ∧ Hid (Here w2.heap.size (w2.heap.size + 1) (bookIP V W V' W') 40 w2 wr (iblk V W ls ++ (pblk V' W' ls' ++ [xRow bx now n (.slice sa N sc) (.slice ga M gc)])) []) ∧ Hid (ls.length ≤ 2 * k) ∧ Hid (∀ y ∈ ls, y.2.2.length ≤ 900000) ∧ Hid (ls'.length ≤ k) ∧ Hid (∀ y ∈ ls', y.2.2.length ≤ 900000)) (fun kv _ _ _ _ _ _ _ _ _ _ _ _ _ => 2 - (RowKit.intOf kv).toNat)
      case atStart => exact ⟨0, _, _, _, _, [], [], Nat.zero_le _, rfl, J4, Hid.of (Nat.le_refl _), Hid.of (fun _ h => absurd h List.not_mem_nil), Hid.of (Nat.le_refl _), Hid.of (fun _ h => absurd h List.not_mem_nil)⟩
      case round =>
        clear J4
        obtain ⟨k, V, W, V', W', ls, ls', hk, rfl, J, LS, LL, LS', LL'⟩ := hrel
        have P := Hid.of (P2.out.to J.out.fr)
        have k0 : (0 : Int) ≤ (k : Int) := Int.natCast_nonneg _
        by_cases hlt : k < 2
        · have k1 : (k : Int) < 2 := by omega
          go_wp2_with fail
          refine (LentInts_own _ fl _ P.out.hf (by rw [HM.out]; have := M12.out; omega)).mono ?_
          rintro e w5 ⟨g, cap, rfl, o5, b5⟩
          have J5 := Hid.of (J.out.more b5 o5)
          rw [HM.out]
          have P5 := Hid.of (P.out.to b5)
          clear o5 b5 J P
          obtain ⟨d0, d1⟩ := P5.out.k2.at
          have d2 : (w5.alloc (.cells #[.string n, .slice sa N sc] 24)).cell? ⟨w.heap.size, 1, none⟩ = some (.slice sa N sc) := (P5.out.to ((Below.refl _ _).alloc (Nat.le_refl _) _)).k2.at.2
          go_wp2_with fail
          obtain ⟨w6, hw6⟩ : ∃ w6, w5.alloc (.cells #[.string n, .slice sa N sc] 24) = w6 := ⟨_, rfl⟩
          have b6 : Below w5.heap.size w5 w6 := by rw [← hw6]; exact (Below.refl _ _).alloc (Nat.le_refl _) _
          have J6 := Hid.of (J5.out.more b6 (by rw [← hw6]; exact var_own w5 n (.slice sa N sc)))
          have P6 := Hid.of (P5.out.to b6)
          have HW6 := Hid.of hw6
          clear hw6 b6 J5 P5 d0 d1 d2
          rw [HW6.out]
          clear HW6
          generalize w5.heap.size = bq at *
          have R6 := Hid.of P6.out.hs
          refine (LentTiers_own _ p.2 _ R6.out (by have := SM.out.1; omega)).mono ?_
          rintro e w7 ⟨h, cap2, rfl, o7, b7⟩
          have J7 := Hid.of (J6.out.more b7 o7)
          have P7 := Hid.of (P6.out.to b7)
          clear o7 b7 J6 P6 R6
          have K7 := Hid.of (var_blk (J7.out.bag.own _ (List.mem_cons_of_mem _ (List.mem_cons_self ..))))
          obtain ⟨d0, d1⟩ := K7.out.at
          have f1 : w7.frozen? ⟨bq, 1, none⟩ = false := row_frozen K7.out
          obtain ⟨l, hl⟩ : ∃ l, Value.slice (some ⟨h, 0, none⟩) N cap2 = l := ⟨_, rfl⟩
          have J8 : Hid (Here w2.heap.size (w2.heap.size + 1) (bookIP V W V' W') 40 w2 (w7.setCell ⟨bq, 1, none⟩ l) (qRow bq n l :: tRow h cap2 p.2 :: mRow g cap fl :: (iblk V W ls ++ (pblk V' W' ls' ++ [xRow bx now n (.slice sa N sc) (.slice ga M gc)]))) []) := Hid.of ((J7.out.perm (List.Perm.swap _ _ _)).put 1 l)
          rw [HN.out, hl]
          obtain ⟨la, lc, hl2⟩ : ∃ a c, l = .slice a N c := ⟨_, _, hl.symm⟩
          have LQ := Hid.of (hl.trans hl2)
          clear hl J7 P7 K7
          subst hl2
          have K8 := Hid.of (var_blk (J8.out.bag.own _ (List.mem_cons_self ..)))
          obtain ⟨q0, q1⟩ := K8.out.at
          have P8 := Hid.of (P2.out.to J8.out.fr)
          have MR := Hid.of (lent_ints_of (J8.out.bag.own _ (List.mem_cons_of_mem _ (List.mem_cons_of_mem _ (List.mem_cons_self ..)))))
          have QR := Hid.of (lent_of (J8.out.bag.own _ (List.mem_cons_of_mem _ (List.mem_cons_self ..))))
          go_wp2_with fail
          have M2 : CellRow (w7.setCell ⟨bq, 1, none⟩ (.slice la N lc)) (.slice (some ⟨g, 0, none⟩) M cap) fl.length (fl.map (Value.int .i64)) := by have h := MR.out.row; rw [HM.out] at h ⊢; exact h
          have QP : PolRow (w7.setCell ⟨bq, 1, none⟩ (.slice la N lc)) (.agg #[.string n, .slice la N lc]) p := ⟨_, by unfold polVal; rw [Hn.out], by have h := QR.out.row; rw [HN.out, LQ.out] at h; rw [HN.out]; exact h, by have h := QR.out.cap; rw [HN.out, LQ.out] at h; exact h⟩
          have MK : CapOk (.slice (some ⟨g, 0, none⟩) M cap) := by have h := MR.out.cap; rw [HM.out] at h; exact h
          refine (S.of _ _ p now fl _ P8.out.ok FT.out QP M2 MK).mono ?_
          clear M2 QP MK
          rintro e w9 ⟨ru, rfl, ou, b9⟩
          have RR9 := Hid.of (OwnRch.row ou)
          obtain ⟨s1, f1', rfl, o9, o9', ap9⟩ := ou
          obtain ⟨s1a, s1c, rfl, -⟩ := own_one o9
          obtain ⟨f1a, f1c, rfl, -⟩ := own_one o9'
          simp only at o9 o9' ap9 RR9
          have ev9 : rVal (now, p, fl) (.slice s1a p.2.length s1c) (.slice f1a fl.length f1c) = .agg #[.int .i64 now, .string n, .slice s1a N s1c, .slice f1a M f1c] := by rw [← Hn.out, ← HN.out, ← HM.out]; rfl
          simp only
          rw [ev9] at RR9 ⊢
          have J9 : Hid (Here w2.heap.size (w2.heap.size + 1) (bookIP V W V' W') 40 w2 w9 (pRow (.slice s1a p.2.length s1c) p.2 :: iRow (.slice f1a fl.length f1c) fl :: qRow bq n (.slice la N lc) :: tRow h cap2 p.2 :: mRow g cap fl :: (iblk V W ls ++ (pblk V' W' ls' ++ [xRow bx now n (.slice sa N sc) (.slice ga M gc)]))) []) := Hid.of (J8.out.more2 b9 o9 o9' ap9)
          rw [HN.out, HM.out] at J9
          obtain ⟨w10, hw10⟩ : ∃ w10, w9.alloc (.cells #[.int .i64 now, .string n, .slice s1a N s1c, .slice f1a M f1c] 46) = w10 := ⟨_, rfl⟩
          have b10 : Below w9.heap.size w9 w10 := by rw [← hw10]; exact (Below.refl _ _).alloc (Nat.le_refl _) _
          have J10 : Hid (Here w2.heap.size (w2.heap.size + 1) (bookIP V W V' W') 40 w2 w10 (rRow w9.heap.size now n (.slice s1a N s1c) (.slice f1a M f1c) :: pRow (.slice s1a N s1c) p.2 :: iRow (.slice f1a M f1c) fl :: qRow bq n (.slice la N lc) :: tRow h cap2 p.2 :: mRow g cap fl :: (iblk V W ls ++ (pblk V' W' ls' ++ [xRow bx now n (.slice sa N sc) (.slice ga M gc)]))) []) := Hid.of (J9.out.more b10 (by rw [← hw10]; exact cells_own w9 #[.int .i64 now, .string n, .slice s1a N s1c, .slice f1a M f1c] _ 4 rfl))
          have C10 : Hid (CapOk (.slice s1a N s1c) ∧ CapOk (.slice f1a M f1c)) := Hid.of (by
            obtain ⟨s, f, hsf, -, -, h3⟩ := RR9.out
            unfold rVal at hsf
            simp only [Value.agg.injEq] at hsf
            cases hsf
            exact h3)
          have HW10 := Hid.of hw10
          clear hw10 b10 b9 o9 o9' ap9 ev9 J8 K8 q0 q1 P8 MR QR J9 RR9 d0 d1 f1
          go_wp2_with fail
          rw [HW10.out]
          clear HW10
          generalize w9.heap.size = br at *
          obtain ⟨RR, hRR⟩ : ∃ RR, rRow br now n (.slice s1a N s1c) (.slice f1a M f1c) :: pRow (.slice s1a N s1c) p.2 :: iRow (.slice f1a M f1c) fl :: qRow bq n (.slice la N lc) :: tRow h cap2 p.2 :: mRow g cap fl :: (iblk V W ls ++ (pblk V' W' ls' ++ [xRow bx now n (.slice sa N sc) (.slice ga M gc)])) = RR := ⟨_, rfl⟩
          have XM : Hid (xRow bx now n (.slice sa N sc) (.slice ga M gc) ∈ RR) := Hid.of (by rw [← hRR]; simp)
          rw [hRR] at J10
          have HRR := Hid.of hRR
          clear hRR
          have J11 := Hid.of (J10.out.nil 3)
          obtain ⟨i0, hi, hz0, hz1, hz2⟩ := info_parts (show (Try.prog.info? 3).map (fun i => (i.zero, i.size, i.bytes)) = some (some (.int .i64 0), 1, 8) by kernel_rfl)
          have HI := Hid.of hi
          have HZ0 := Hid.of hz0
          have HZ1 := Hid.of hz1
          have HZ2 := Hid.of hz2
          clear hi hz0 hz1 hz2 J10
          go_loopw [21, 22] (fun lv iv wi => ∃ i : Nat, i ≤ N ∧ iv = .int .i64 i ∧ Hid (Here w2.heap.size (w2.heap.size + 1) (bookIP V W V' W') 40 w2 wi (⟨3, 1, lv, i, (rUp (now, p, fl) i).map (Value.int .i64)⟩ :: RR) [])) (fun _ iv _ => N - (RowKit.intOf iv).toNat)
          case atStart => exact ⟨0, Nat.zero_le _, rfl, J11⟩
          case round =>
            clear J11
            obtain ⟨i, hiN, rfl, J⟩ := hrel
            have P := Hid.of (P2.out.to J.out.fr)
            have i9 : (0 : Int) ≤ (i : Int) := Int.natCast_nonneg _
            obtain ⟨d0, d1⟩ := P.out.k2.at
            by_cases hlt2 : i < N
            · have hlt3 : (i : Int) < (N : Int) := by omega
              have i10 : (i : Int) ≤ 10 := by have := N10.out; omega
              have KX := Hid.of (cells_blk (cs := #[.int .i64 now, .string n, .slice sa N sc, .slice ga M gc]) (J.out.bag.own _ (List.mem_cons_of_mem _ XM.out)))
              obtain ⟨x0, x1, x2, x3⟩ := XBlk.at KX.out
              obtain ⟨a, ha⟩ : ∃ a, rFromN (now, p, fl) i = a := ⟨_, rfl⟩
              have HA := Hid.of ha
              clear ha
              go_wp2_with fail
              refine (refFrom_any now n _ _ p fl i _ P.out.hs P.out.hf FT.out (by unfold In64; have := N10.out; omega)).mono ?_
              rintro e w12 ⟨rfl, b12⟩
              rw [rFrom_nat, HA.out]
              have J12 := Hid.of (J.out.next b12)
              clear b12 J P d0 d1 x0 x1 x2 x3 KX
              have OW := Hid.of (J12.out.bag.own _ (List.mem_cons_self ..))
              go_wp2_with (at_builtin; refine append_keep_law rfl _ _ 25 rfl (w2.heap.size + 1) 3 i0 (.int .i64 0) 1 8 Try.underlying25 HI.out HZ0.out HZ1.out HZ2.out rfl (by decide) _ i _ rfl (OW.out.alloc _) w12.heap.size 0 1 1 [.int .i64 a] rfl (one_cell w12 _ _) rfl (by simp [Value.oneCell']) (by unfold maxLen; have := N10.out; omega) (by have := N10.out; omega) (by simp; have := J12.out.hD; omega) ?_; intro v5 w13 o5 g5 k5 m5)
              have J13 := Hid.of ((J12.out.next ((Below.refl _ _).alloc (Nat.le_refl _) _)).grow g5 o5 m5)
              have J14 : Hid (Here w2.heap.size (w2.heap.size + 1) (bookIP V W V' W') 40 w2 w13 (⟨3, 1, v5, i + 1, (rUp (now, p, fl) (i + 1)).map (Value.int .i64)⟩ :: RR) []) := Hid.of (by
                have h := J13.out
                rw [rUp_succ, HA.out, List.map_append]
                exact h)
              clear g5 o5 k5 m5 J13 J12 OW
              go_wp2
              go_roundw
              case rel => exact ⟨i + 1, by omega, by go_num, J14⟩
              case measure => simp [RowKit.intOf]; omega
            · obtain rfl : N = i := by omega
              clear hiN hlt2 i9
              generalize u21 = lv at *
              have hRR := HRR.out
              subst hRR
              clear HRR
              have RL : Hid ((rAll (now, p, fl)).length = N) := Hid.of (by rw [rUp_all HN.out, rUp_len])
              have RC := Hid.of (rch_of (now := now) (p := p) (fl := fl) (s := .slice s1a N s1c) (f := .slice f1a M f1c) J.out Hn.out (by simp) (by simp) C10.out)
              obtain ⟨y0, y1, y2, y3⟩ := RBlk.at' (cells_blk (cs := #[.int .i64 now, .string n, .slice s1a N s1c, .slice f1a M f1c]) (J.out.bag.own (rRow br now n (.slice s1a N s1c) (.slice f1a M f1c)) (by simp)))
              go_wp2_with fail
              refine (S.all _ (now, p, fl) _ P.out.ok FT.out RC.out).mono ?_
              rintro e w14 ⟨av, rfl, o14, b14⟩
              obtain ⟨aa, ac, rfl, -⟩ := own_one o14
              have J14 := Hid.of (J.out.more b14 o14)
              rw [RL.out] at J14 ⊢
              clear o14 b14 y0 y1 y2 y3 J P d0 d1 RC XM
              have h15 : Here w2.heap.size (w2.heap.size + 1) (bookIP V W V' W') 40 w2 w14 (⟨3, 1, .slice aa N ac, N, (rAll (now, p, fl)).map (Value.int .i64)⟩ :: ⟨3, 1, lv, N, (rUp (now, p, fl) N).map (Value.int .i64)⟩ :: rRow br now n (.slice s1a N s1c) (.slice f1a M f1c) :: pRow (.slice s1a N s1c) p.2 :: iRow (.slice f1a M f1c) fl :: qRow bq n (.slice la N lc) :: tRow h cap2 p.2 :: mRow g cap fl :: (iblk V W ls ++ (pblk V' W' ls' ++ [xRow bx now n (.slice sa N sc) (.slice ga M gc)]))) [] := by
                have h := J14.out
                simp only [RL.out] at *
                exact h
              have h16 : Here w2.heap.size (w2.heap.size + 1) (bookIP V W V' W') 40 w2 w14 (iRow (.slice aa N ac) (rAll (now, p, fl)) :: ⟨3, 1, lv, N, (rUp (now, p, fl) N).map (Value.int .i64)⟩ :: rRow br now n (.slice s1a N s1c) (.slice f1a M f1c) :: pRow (.slice s1a N s1c) p.2 :: iRow (.slice f1a M f1c) fl :: qRow bq n (.slice la N lc) :: tRow h cap2 p.2 :: mRow g cap fl :: (iblk V W ls ++ (pblk V' W' ls' ++ [xRow bx now n (.slice sa N sc) (.slice ga M gc)]))) [] := by
                unfold iRow
                rw [RL.out]
                exact h15
              have J16 : Hid (Here w2.heap.size (w2.heap.size + 1) (bookIP V W V' W') 40 w2 w14 (iRow (.slice aa N ac) (rAll (now, p, fl)) :: (iblk V W ls ++ (⟨3, 1, lv, N, (rUp (now, p, fl) N).map (Value.int .i64)⟩ :: rRow br now n (.slice s1a N s1c) (.slice f1a M f1c) :: pRow (.slice s1a N s1c) p.2 :: iRow (.slice f1a M f1c) fl :: qRow bq n (.slice la N lc) :: tRow h cap2 p.2 :: mRow g cap fl :: (pblk V' W' ls' ++ [xRow bx now n (.slice sa N sc) (.slice ga M gc)])))) []) := Hid.of (h16.perm (by
                generalize (iRow (.slice aa N ac) (rAll (now, p, fl)) : Row1) = R1
                generalize (⟨3, 1, lv, N, (rUp (now, p, fl) N).map (Value.int .i64)⟩ : Row1) = R2
                generalize (rRow br now n (.slice s1a N s1c) (.slice f1a M f1c) : Row1) = R3
                generalize (pRow (.slice s1a N s1c) p.2 : Row1) = R4
                generalize (iRow (.slice f1a M f1c) fl : Row1) = R5
                generalize (qRow bq n (.slice la N lc) : Row1) = R6
                generalize (tRow h cap2 p.2 : Row1) = R7
                generalize (mRow g cap fl : Row1) = R8
                generalize (xRow bx now n (.slice sa N sc) (.slice ga M gc) : Row1) = R9
                generalize (iblk V W ls) = R10
                generalize (pblk V' W' ls') = R11
                classical
                rw [List.perm_iff_count]
                intro a
                simp only [List.count_append, List.count_cons, List.count_nil]
                omega))
              clear h15 h16 J14
              go_wp2_with fail
              refine (iblk_add w2.heap.size (w2.heap.size + 1) (bookIP V W V' W') V W (.slice aa N ac) ls (rAll (now, p, fl)) (⟨3, 1, lv, N, (rUp (now, p, fl) N).map (Value.int .i64)⟩ :: rRow br now n (.slice s1a N s1c) (.slice f1a M f1c) :: pRow (.slice s1a N s1c) p.2 :: iRow (.slice f1a M f1c) fl :: qRow bq n (.slice la N lc) :: tRow h cap2 p.2 :: mRow g cap fl :: (pblk V' W' ls' ++ [xRow bx now n (.slice sa N sc) (.slice ga M gc)])) 40 w2 _ rfl rfl (by have := LS.out; omega) (by rw [RL.out]; have := N10.out; omega) J16.out).mono ?_
              rintro e w15 ⟨rfl, V2, W2, u2, k15⟩
              have h17 : Here w2.heap.size (w2.heap.size + 1) (bookIP V2 W2 V' W') 40 w2 w15 (iblk V2 W2 (ls ++ [(.slice aa N ac, u2, rAll (now, p, fl))]) ++ (⟨3, 1, lv, N, (rUp (now, p, fl) N).map (Value.int .i64)⟩ :: rRow br now n (.slice s1a N s1c) (.slice f1a M f1c) :: pRow (.slice s1a N s1c) p.2 :: iRow (.slice f1a M f1c) fl :: qRow bq n (.slice la N lc) :: tRow h cap2 p.2 :: mRow g cap fl :: (pblk V' W' ls' ++ [xRow bx now n (.slice sa N sc) (.slice ga M gc)]))) [] := k15
              clear k15 J16
              obtain ⟨y0, y1, y2, y3⟩ := RBlk.at' (cells_blk (cs := #[.int .i64 now, .string n, .slice s1a N s1c, .slice f1a M f1c]) (h17.bag.own (rRow br now n (.slice s1a N s1c) (.slice f1a M f1c)) (by simp)))
              have J17 : Hid (Here w2.heap.size (w2.heap.size + 1) (bookIP V2 W2 V' W') 40 w2 w15 (iRow (.slice f1a M f1c) fl :: (iblk V2 W2 (ls ++ [(.slice aa N ac, u2, rAll (now, p, fl))]) ++ (⟨3, 1, lv, N, (rUp (now, p, fl) N).map (Value.int .i64)⟩ :: rRow br now n (.slice s1a N s1c) (.slice f1a M f1c) :: pRow (.slice s1a N s1c) p.2 :: qRow bq n (.slice la N lc) :: tRow h cap2 p.2 :: mRow g cap fl :: (pblk V' W' ls' ++ [xRow bx now n (.slice sa N sc) (.slice ga M gc)])))) []) := Hid.of (h17.perm (by
                generalize (⟨3, 1, lv, N, (rUp (now, p, fl) N).map (Value.int .i64)⟩ : Row1) = R1
                generalize (rRow br now n (.slice s1a N s1c) (.slice f1a M f1c) : Row1) = R2
                generalize (pRow (.slice s1a N s1c) p.2 : Row1) = R3
                generalize (iRow (.slice f1a M f1c) fl : Row1) = R4
                generalize (qRow bq n (.slice la N lc) : Row1) = R5
                generalize (tRow h cap2 p.2 : Row1) = R6
                generalize (mRow g cap fl : Row1) = R7
                generalize (xRow bx now n (.slice sa N sc) (.slice ga M gc) : Row1) = R8
                generalize (iblk V2 W2 (ls ++ [(.slice aa N ac, u2, rAll (now, p, fl))])) = R9
                generalize (pblk V' W' ls') = R10
                classical
                rw [List.perm_iff_count]
                intro a
                simp only [List.count_append, List.count_cons, List.count_nil]
                omega))
              clear h17
              go_wp2_with fail
              refine (iblk_add w2.heap.size (w2.heap.size + 1) (bookIP V2 W2 V' W') V2 W2 (.slice f1a M f1c) (ls ++ [(.slice aa N ac, u2, rAll (now, p, fl))]) fl (⟨3, 1, lv, N, (rUp (now, p, fl) N).map (Value.int .i64)⟩ :: rRow br now n (.slice s1a N s1c) (.slice f1a M f1c) :: pRow (.slice s1a N s1c) p.2 :: qRow bq n (.slice la N lc) :: tRow h cap2 p.2 :: mRow g cap fl :: (pblk V' W' ls' ++ [xRow bx now n (.slice sa N sc) (.slice ga M gc)])) 40 w2 _ rfl rfl (by rw [List.length_append]; have := LS.out; simp; omega) (by rw [HM.out]; have := M12.out; omega) J17.out).mono ?_
              rintro e w16 ⟨rfl, V3, W3, u3, k16⟩
              have h18 : Here w2.heap.size (w2.heap.size + 1) (bookIP V3 W3 V' W') 40 w2 w16 (iblk V3 W3 (ls ++ [(.slice aa N ac, u2, rAll (now, p, fl))] ++ [(.slice f1a M f1c, u3, fl)]) ++ (⟨3, 1, lv, N, (rUp (now, p, fl) N).map (Value.int .i64)⟩ :: rRow br now n (.slice s1a N s1c) (.slice f1a M f1c) :: pRow (.slice s1a N s1c) p.2 :: qRow bq n (.slice la N lc) :: tRow h cap2 p.2 :: mRow g cap fl :: (pblk V' W' ls' ++ [xRow bx now n (.slice sa N sc) (.slice ga M gc)]))) [] := k16
              clear k16 J17 y0 y1 y2 y3
              obtain ⟨y0, y1, y2, y3⟩ := RBlk.at' (cells_blk (cs := #[.int .i64 now, .string n, .slice s1a N s1c, .slice f1a M f1c]) (h18.bag.own (rRow br now n (.slice s1a N s1c) (.slice f1a M f1c)) (by simp)))
              have J18 : Hid (Here w2.heap.size (w2.heap.size + 1) (bookIP V3 W3 V' W') 40 w2 w16 (pRow (.slice s1a N s1c) p.2 :: (pblk V' W' ls' ++ (⟨3, 1, lv, N, (rUp (now, p, fl) N).map (Value.int .i64)⟩ :: rRow br now n (.slice s1a N s1c) (.slice f1a M f1c) :: qRow bq n (.slice la N lc) :: tRow h cap2 p.2 :: mRow g cap fl :: xRow bx now n (.slice sa N sc) (.slice ga M gc) :: (iblk V3 W3 (ls ++ [(.slice aa N ac, u2, rAll (now, p, fl))] ++ [(.slice f1a M f1c, u3, fl)]))))) []) := Hid.of (h18.perm (by
                generalize (⟨3, 1, lv, N, (rUp (now, p, fl) N).map (Value.int .i64)⟩ : Row1) = R1
                generalize (rRow br now n (.slice s1a N s1c) (.slice f1a M f1c) : Row1) = R2
                generalize (pRow (.slice s1a N s1c) p.2 : Row1) = R3
                generalize (qRow bq n (.slice la N lc) : Row1) = R4
                generalize (tRow h cap2 p.2 : Row1) = R5
                generalize (mRow g cap fl : Row1) = R6
                generalize (xRow bx now n (.slice sa N sc) (.slice ga M gc) : Row1) = R7
                generalize (iblk V3 W3 (ls ++ [(.slice aa N ac, u2, rAll (now, p, fl))] ++ [(.slice f1a M f1c, u3, fl)])) = R8
                generalize (pblk V' W' ls') = R9
                classical
                rw [List.perm_iff_count]
                intro a
                simp only [List.count_append, List.count_cons, List.count_nil]
                omega))
              clear h18
              go_wp2_with fail
              refine (pblk_add w2.heap.size (w2.heap.size + 1) (bookIP V3 W3 V' W') V' W' (.slice s1a N s1c) ls' p.2 (⟨3, 1, lv, N, (rUp (now, p, fl) N).map (Value.int .i64)⟩ :: rRow br now n (.slice s1a N s1c) (.slice f1a M f1c) :: qRow bq n (.slice la N lc) :: tRow h cap2 p.2 :: mRow g cap fl :: xRow bx now n (.slice sa N sc) (.slice ga M gc) :: (iblk V3 W3 (ls ++ [(.slice aa N ac, u2, rAll (now, p, fl))] ++ [(.slice f1a M f1c, u3, fl)]))) 40 w2 _ rfl rfl (by have := LS'.out; omega) (by rw [HN.out]; have := N10.out; omega) J18.out).mono ?_
              rintro e w17 ⟨rfl, V4, W4, u4, k17⟩
              have h19 : Here w2.heap.size (w2.heap.size + 1) (bookIP V3 W3 V4 W4) 40 w2 w17 (pblk V4 W4 (ls' ++ [(.slice s1a N s1c, u4, p.2)]) ++ (⟨3, 1, lv, N, (rUp (now, p, fl) N).map (Value.int .i64)⟩ :: rRow br now n (.slice s1a N s1c) (.slice f1a M f1c) :: qRow bq n (.slice la N lc) :: tRow h cap2 p.2 :: mRow g cap fl :: xRow bx now n (.slice sa N sc) (.slice ga M gc) :: (iblk V3 W3 (ls ++ [(.slice aa N ac, u2, rAll (now, p, fl))] ++ [(.slice f1a M f1c, u3, fl)])))) [] := k17
              clear k17 J18 y0 y1 y2 y3
              obtain ⟨RW, hRW⟩ : ∃ RW, pblk V4 W4 (ls' ++ [(.slice s1a N s1c, u4, p.2)]) ++ (⟨3, 1, lv, N, (rUp (now, p, fl) N).map (Value.int .i64)⟩ :: rRow br now n (.slice s1a N s1c) (.slice f1a M f1c) :: qRow bq n (.slice la N lc) :: tRow h cap2 p.2 :: mRow g cap fl :: xRow bx now n (.slice sa N sc) (.slice ga M gc) :: (iblk V3 W3 (ls ++ [(.slice aa N ac, u2, rAll (now, p, fl))] ++ [(.slice f1a M f1c, u3, fl)]))) = RW := ⟨_, rfl⟩
              have mI : ∀ r ∈ iblk V3 W3 (ls ++ [(.slice aa N ac, u2, rAll (now, p, fl))] ++ [(.slice f1a M f1c, u3, fl)]), r ∈ RW := fun r hr => by rw [← hRW]; exact List.mem_append_right _ (List.mem_cons_of_mem _ (List.mem_cons_of_mem _ (List.mem_cons_of_mem _ (List.mem_cons_of_mem _ (List.mem_cons_of_mem _ (List.mem_cons_of_mem _ hr))))))
              have mP : ∀ r ∈ pblk V4 W4 (ls' ++ [(.slice s1a N s1c, u4, p.2)]), r ∈ RW := fun r hr => by rw [← hRW]; exact List.mem_append_left _ hr
              have ml : (⟨3, 1, lv, N, (rUp (now, p, fl) N).map (Value.int .i64)⟩ : Row1) ∈ RW := by rw [← hRW]; simp
              have mr : (rRow br now n (.slice s1a N s1c) (.slice f1a M f1c) : Row1) ∈ RW := by rw [← hRW]; simp
              have mq : (qRow bq n (.slice la N lc) : Row1) ∈ RW := by rw [← hRW]; simp
              have mt : (tRow h cap2 p.2 : Row1) ∈ RW := by rw [← hRW]; simp
              have mm : (mRow g cap fl : Row1) ∈ RW := by rw [← hRW]; simp
              have mx : (xRow bx now n (.slice sa N sc) (.slice ga M gc) : Row1) ∈ RW := by rw [← hRW]; simp
              rw [hRW] at h19
              have Z17 : Hid (TZ S w.heap.size bx bq br (w2.heap.size + 1) w2.heap.size n sn st sx now (.slice sa N sc) (.slice ga M gc) (.slice la N lc) (.slice s1a N s1c) (.slice f1a M f1c) (.slice (some ⟨g, 0, none⟩) M cap) lv (.slice aa N ac) p fl (bookIP V3 W3 V4 W4) RW w2 w17) := Hid.of (by
                have a1 := iblk_has h19 mI (.slice aa N ac, u2, rAll (now, p, fl)) (by simp)
                have a2 := iblk_has h19 mI (.slice f1a M f1c, u3, fl) (by simp)
                have a3 := pblk_has h19 mP (.slice s1a N s1c, u4, p.2) (by simp)
                have a4 := own_row (h19.bag.own _ ml)
                have a5 := lent_of (h19.bag.own _ mt)
                have a6 := lent_ints_of (h19.bag.own _ mm)
                simp only at a1 a2 a3 a4 a5 a6
                rw [RL.out] at a1
                rw [HN.out, LQ.out] at a5
                rw [HM.out] at a6
                rw [← rUp_all HN.out] at a4
                refine ⟨P2.out.to h19.fr, cells_blk (cs := #[.int .i64 now, .string n, .slice sa N sc, .slice ga M gc]) (h19.bag.own _ mx), var_blk (h19.bag.own _ mq), by rw [HN.out]; exact a5, by rw [HM.out]; exact a6, cells_blk (cs := #[.int .i64 now, .string n, .slice s1a N s1c, .slice f1a M f1c]) (h19.bag.own _ mr), ⟨_, _, by rw [← Hn.out]; rfl, a3, a2, C10.out⟩, by rw [HN.out]; exact a1, by rw [HN.out]; exact a4, h19⟩)
              have HRW := Hid.of hRW
              clear h19 hRW mI mP ml mr mq mt mm mx LQ
              obtain ⟨sb, sk, hsb⟩ : ∃ sb sk, rStart (now, p, fl) tier t = (sb, sk) := ⟨_, _, rfl⟩
              have HSB := Hid.of hsb
              clear hsb
              obtain ⟨x0, x1, x2, x3⟩ := Z17.out.kx.at
              obtain ⟨y0, y1, y2, y3⟩ := RBlk.at' Z17.out.kr
              go_wp2_with fail
              refine (S.start _ (now, p, fl) tier t _ Z17.out.pt.ok FT.out HTI.out HT.out Z17.out.rr).mono ?_
              rintro e w18 ⟨rfl, b8⟩
              rw [HSB.out]
              have Z18 := Hid.of (Z17.out.next b8)
              clear b8 Z17 x0 x1 x2 x3 y0 y1 y2 y3
              simp only
              obtain ⟨x0, x1, x2, x3⟩ := Z18.out.kx.at
              obtain ⟨y0, y1, y2, y3⟩ := RBlk.at' Z18.out.kr
              go_wp2_with fail
              refine (refStart_any now n _ _ p fl tier t _ Z18.out.pt.hs Z18.out.pt.hf FT.out HTI.out HT.out).mono ?_
              rintro e w19 ⟨rfl, b8⟩
              rw [HSB.out]
              have Z19 := Hid.of (Z18.out.next b8)
              clear b8 Z18 x0 x1 x2 x3 y0 y1 y2 y3
              simp only
              obtain ⟨x0, x1, x2, x3⟩ := Z19.out.kx.at
              obtain ⟨y0, y1, y2, y3⟩ := RBlk.at' Z19.out.kr
              go_upto_region 25 with fail
              have hif : (if now < later then later else now) = mx := by rw [← HMX.out]; split <;> omega
              rw [hif]
              clear hif
              obtain ⟨w20, hw20⟩ : ∃ w20, w19.alloc (.cells #[.int .i64 mx, .string n, .slice sa N sc, .slice ga M gc] 42) = w20 := ⟨_, rfl⟩
              have b20 : Below w19.heap.size w19 w20 := by rw [← hw20]; exact (Below.refl _ _).alloc (Nat.le_refl _) _
              have Z20 := Hid.of (Z19.out.next b20)
              have KY20 : Hid (XBlk w20 w19.heap.size mx n (.slice sa N sc) (.slice ga M gc)) := Hid.of (by rw [← hw20]; exact Go.heap_alloc_new _ _)
              rw [hw20]
              clear hw20 b20 Z19 x0 x1 x2 x3 y0 y1 y2 y3
              generalize w19.heap.size = by_ at *
              obtain ⟨x0, x1, x2, x3⟩ := Z20.out.kx.at
              obtain ⟨y0, y1, y2, y3⟩ := RBlk.at' Z20.out.kr
              go_wp2_with fail
              refine (S.later _ (now, p, fl) later _ Z20.out.pt.ok FT.out HLT.out Z20.out.rr).mono ?_
              rintro e w21 ⟨lu, rfl, ou, b8⟩
              rw [show rLater (now, p, fl) later = (mx, p, fl) by unfold rLater; rw [← HMX.out]] at ou
              have RL21 := OwnRch.row ou
              obtain ⟨s2, f2, rfl, o1, o2, -⟩ := ou
              obtain ⟨s2a, s2c, rfl, -⟩ := own_one o1
              obtain ⟨f2a, f2c, rfl, -⟩ := own_one o2
              simp only at RL21
              have ev : rVal (mx, p, fl) (.slice s2a p.2.length s2c) (.slice f2a fl.length f2c) = .agg #[.int .i64 mx, .string n, .slice s2a N s2c, .slice f2a M f2c] := by rw [← Hn.out, ← HN.out, ← HM.out]; rfl
              simp only
              rw [ev] at RL21 ⊢
              obtain ⟨w22, hw22⟩ : ∃ w22, w21.alloc (.cells #[.int .i64 mx, .string n, .slice s2a N s2c, .slice f2a M f2c] 46) = w22 := ⟨_, rfl⟩
              have b22 : Below w21.heap.size w21 w22 := by rw [← hw22]; exact (Below.refl _ _).alloc (Nat.le_refl _) _
              have Y22 : Hid (TY S w.heap.size bx bq br by_ w21.heap.size (w2.heap.size + 1) w2.heap.size n sn st sx now mx (.slice sa N sc) (.slice ga M gc) (.slice la N lc) (.slice s1a N s1c) (.slice f1a M f1c) (.slice s2a N s2c) (.slice f2a M f2c) (.slice (some ⟨g, 0, none⟩) M cap) lv (.slice aa N ac) p fl (bookIP V3 W3 V4 W4) RW w2 w22) := Hid.of
                ⟨(Z20.out.next b8).next b22, by
                  show _ = _
                  rw [b22.block _ (Nat.lt_of_lt_of_le (Array.getElem?_eq_some_iff.1 KY20.out).1 b8.size), b8.block _ (Array.getElem?_eq_some_iff.1 KY20.out).1]
                  exact KY20.out, by rw [← hw22]; exact Go.heap_alloc_new _ _, RL21.kept b22⟩
              have HW22 := Hid.of hw22
              clear hw22 b22 b8 o1 o2 ev RL21 Z20 KY20 x0 x1 x2 x3 y0 y1 y2 y3
              go_upto_region 26 with fail
              rw [HW22.out]
              clear HW22
              generalize w21.heap.size = bl at *
              obtain ⟨va, hva⟩ : ∃ va, rFrom (now, p, fl) tier = va := ⟨_, rfl⟩
              have HVA := Hid.of hva
              clear hva
              obtain ⟨vt, hvt⟩ : ∃ vt, rTakes (now, p, fl) sn st = vt := ⟨_, rfl⟩
              have HVT := Hid.of hvt
              clear hvt
              obtain ⟨vc, hvc⟩ : ∃ vc, rCover (now, p, fl) t = vc := ⟨_, rfl⟩
              have HVC := Hid.of hvc
              clear hvc
              obtain ⟨vm, hvm⟩ : ∃ vm, rFrom (mx, p, fl) tier = vm := ⟨_, rfl⟩
              have HVM := Hid.of hvm
              clear hvm
              obtain ⟨⟨x0, x1, x2, x3⟩, ⟨y0, y1, y2, y3⟩, ⟨e0, e1, e2⟩, ⟨g0, g1, g2, g3⟩, ⟨h0, h1, h2, h3⟩⟩ := Y22.out.at
              refine wp_region_noPanic ?_
              refine wp_region_held_drew (S := fun w' => (w'.cell? ⟨bx, 0, none⟩ = some (.int .i64 now) ∧ w'.cell? ⟨bx, 1, none⟩ = some (.string n) ∧ w'.cell? ⟨bx, 2, none⟩ = some (.slice sa N sc) ∧ w'.cell? ⟨bx, 3, none⟩ = some (.slice ga M gc)) ∧ (w'.cell? ⟨br, 0, none⟩ = some (.int .i64 now) ∧ w'.cell? ⟨br, 1, none⟩ = some (.string n) ∧ w'.cell? ⟨br, 2, none⟩ = some (.slice s1a N s1c) ∧ w'.cell? ⟨br, 3, none⟩ = some (.slice f1a M f1c)) ∧ (w'.cell? ⟨w.heap.size + 1, 0, none⟩ = some (.string sn) ∧ w'.cell? ⟨w.heap.size + 1, 1, none⟩ = some (.int .i64 st) ∧ w'.cell? ⟨w.heap.size + 1, 2, none⟩ = some (.int .i64 sx)) ∧ (w'.cell? ⟨by_, 0, none⟩ = some (.int .i64 mx) ∧ w'.cell? ⟨by_, 1, none⟩ = some (.string n) ∧ w'.cell? ⟨by_, 2, none⟩ = some (.slice sa N sc) ∧ w'.cell? ⟨by_, 3, none⟩ = some (.slice ga M gc)) ∧ (w'.cell? ⟨bl, 0, none⟩ = some (.int .i64 mx) ∧ w'.cell? ⟨bl, 1, none⟩ = some (.string n) ∧ w'.cell? ⟨bl, 2, none⟩ = some (.slice s2a N s2c) ∧ w'.cell? ⟨bl, 3, none⟩ = some (.slice f2a M f2c))) (by kernel_rfl) ?_ (fun hHeld => ?_)
              · exact ⟨⟨x0, x1, x2, x3⟩, ⟨y0, y1, y2, y3⟩, ⟨e0, e1, e2⟩, ⟨g0, g1, g2, g3⟩, ⟨h0, h1, h2, h3⟩⟩
              refine wpAnyH_take (i := 0) (oi := ⟨_, _, _, _, _, _⟩) (v := ?_) rfl (by kernel_rfl) (by kernel_rfl) (by kernel_rfl) (fun _ _ _ h => h) (Or.inl ⟨by rfl, ?_⟩) hHeld ?_
              rotate_left
              · intro w' hSw
                try dsimp only at hSw
                go_simp
                all_goals with_reducible rfl
              simp only [Act.put, List.setIfInBounds_toArray, List.set_cons_zero, List.set_cons_succ]
              refine wpAnyH_take (i := 1) (oi := ⟨_, _, _, _, _, _⟩) (v := ?_) rfl (by kernel_rfl) (by kernel_rfl) (by kernel_rfl) (fun _ _ _ h => h) (Or.inl ⟨by rfl, ?_⟩) hHeld ?_
              rotate_left
              · intro w' hSw
                try dsimp only at hSw
                go_simp
                all_goals with_reducible rfl
              simp only [Act.put, List.setIfInBounds_toArray, List.set_cons_zero, List.set_cons_succ]
              refine wpAnyH_take (i := 3) (oi := ⟨_, _, _, _, _, _⟩) (v := ?_) rfl (by kernel_rfl) (by kernel_rfl) (by kernel_rfl) (fun _ _ _ h => h) (Or.inl ⟨by rfl, ?_⟩) hHeld ?_
              rotate_left
              · intro w' hSw
                try dsimp only at hSw
                go_simp
                all_goals with_reducible rfl
              simp only [Act.put, List.setIfInBounds_toArray, List.set_cons_zero, List.set_cons_succ]
              refine wpAnyH_take (i := 4) (oi := ⟨_, _, _, _, _, _⟩) (v := ?_) rfl (by kernel_rfl) (by kernel_rfl) (by kernel_rfl) (fun _ _ _ h => h) (Or.inl ⟨by rfl, ?_⟩) hHeld ?_
              rotate_left
              · intro w' hSw
                try dsimp only at hSw
                go_simp
                all_goals with_reducible rfl
              simp only [Act.put, List.setIfInBounds_toArray, List.set_cons_zero, List.set_cons_succ]
              refine wpAnyH_ready (rs := [2]) (by kernel_rfl) (by simp) ?_
              refine AllReadyH.cons (o := ⟨_, _, _, _, _, _⟩) rfl (fun K hK => ?_) AllReadyH.nil
              go_simp
              refine (S.from_ _ (now, p, fl) tier _ (Y22.out.next (Below.refl _ _).drew).z.pt.ok FT.out HTI.out (Y22.out.next (Below.refl _ _).drew).z.rr).mono ?_
              rintro e w23 ⟨rfl, b9⟩
              rw [HVA.out]
              have Y23 := Hid.of (Y22.out.next ((Below.refl _ _).drew.trans b9))
              clear b9 hHeld Y22 x0 x1 x2 x3 y0 y1 y2 y3 e0 e1 e2 g0 g1 g2 g3 h0 h1 h2 h3
              obtain ⟨⟨x0, x1, x2, x3⟩, ⟨y0, y1, y2, y3⟩, ⟨e0, e1, e2⟩, ⟨g0, g1, g2, g3⟩, ⟨h0, h1, h2, h3⟩⟩ := Y23.out.at
              refine hK.out _ _ ⟨⟨x0, x1, x2, x3⟩, ⟨y0, y1, y2, y3⟩, ⟨e0, e1, e2⟩, ⟨g0, g1, g2, g3⟩, ⟨h0, h1, h2, h3⟩⟩ (fun hHeld => ?_)
              clear hK K
              try simp only [Act.put, List.setIfInBounds_toArray, List.set_cons_zero, List.set_cons_succ]
              refine wpAnyH_ready (rs := [5]) (by kernel_rfl) (by simp) ?_
              refine AllReadyH.cons (o := ⟨_, _, _, _, _, _⟩) rfl (fun K hK => ?_) AllReadyH.nil
              go_simp
              refine (refFrom_any now n _ _ p fl tier _ Y23.out.z.pt.hs Y23.out.z.pt.hf FT.out HTI.out).mono ?_
              rintro e w24 ⟨rfl, b9⟩
              rw [HVA.out]
              have Y24 := Hid.of (Y23.out.next b9)
              clear b9 hHeld Y23 x0 x1 x2 x3 y0 y1 y2 y3 e0 e1 e2 g0 g1 g2 g3 h0 h1 h2 h3
              obtain ⟨⟨x0, x1, x2, x3⟩, ⟨y0, y1, y2, y3⟩, ⟨e0, e1, e2⟩, ⟨g0, g1, g2, g3⟩, ⟨h0, h1, h2, h3⟩⟩ := Y24.out.at
              refine hK.out _ _ ⟨⟨x0, x1, x2, x3⟩, ⟨y0, y1, y2, y3⟩, ⟨e0, e1, e2⟩, ⟨g0, g1, g2, g3⟩, ⟨h0, h1, h2, h3⟩⟩ (fun hHeld => ?_)
              clear hK K
              try simp only [Act.put, List.setIfInBounds_toArray, List.set_cons_zero, List.set_cons_succ]
              refine wpAnyH_take (i := 6) (oi := ⟨_, _, _, _, _, _⟩) (v := ?_) rfl (by kernel_rfl) (by kernel_rfl) (by kernel_rfl) (fun _ _ _ h => h) (Or.inl ⟨by rfl, ?_⟩) hHeld ?_
              rotate_left
              · intro w' hSw
                try dsimp only at hSw
                go_simp
                all_goals with_reducible rfl
              simp only [Act.put, List.setIfInBounds_toArray, List.set_cons_zero, List.set_cons_succ]
              refine wpAnyH_take (i := 7) (oi := ⟨_, _, _, _, _, _⟩) (v := ?_) rfl (by kernel_rfl) (by kernel_rfl) (by kernel_rfl) (fun _ _ _ h => h) (Or.inl ⟨by rfl, ?_⟩) hHeld ?_
              rotate_left
              · intro w' hSw
                try dsimp only at hSw
                go_simp
                all_goals with_reducible rfl
              simp only [Act.put, List.setIfInBounds_toArray, List.set_cons_zero, List.set_cons_succ]
              refine wpAnyH_take (i := 8) (oi := ⟨_, _, _, _, _, _⟩) (v := ?_) rfl (by kernel_rfl) (by kernel_rfl) (by kernel_rfl) (fun _ _ _ h => h) (Or.inl ⟨by rfl, ?_⟩) hHeld ?_
              rotate_left
              · intro w' hSw
                try dsimp only at hSw
                go_simp
                all_goals with_reducible rfl
              simp only [Act.put, List.setIfInBounds_toArray, List.set_cons_zero, List.set_cons_succ]
              refine wpAnyH_take (i := 9) (oi := ⟨_, _, _, _, _, _⟩) (v := ?_) rfl (by kernel_rfl) (by kernel_rfl) (by kernel_rfl) (fun _ _ _ h => h) (Or.inl ⟨by rfl, ?_⟩) hHeld ?_
              rotate_left
              · intro w' hSw
                try dsimp only at hSw
                go_simp
                all_goals with_reducible rfl
              simp only [Act.put, List.setIfInBounds_toArray, List.set_cons_zero, List.set_cons_succ]
              refine wpAnyH_ready (rs := [10]) (by kernel_rfl) (by simp) ?_
              refine AllReadyH.cons (o := ⟨_, _, _, _, _, _⟩) rfl (fun K hK => ?_) AllReadyH.nil
              go_simp
              refine (SameInts_any _ _ (rAll (now, p, fl)) _ (by have h := Y24.out.z.ha; rw [HN.out] at h; rw [RL.out]; exact h) (by have h := Y24.out.z.hl; rw [HN.out] at h; rw [RL.out]; exact h) (by rw [RL.out]; have := N10.out; omega)).mono ?_
              rintro e w25 ⟨rfl, b9⟩
              have Y25 := Hid.of (Y24.out.next b9)
              clear b9 hHeld Y24 x0 x1 x2 x3 y0 y1 y2 y3 e0 e1 e2 g0 g1 g2 g3 h0 h1 h2 h3
              obtain ⟨⟨x0, x1, x2, x3⟩, ⟨y0, y1, y2, y3⟩, ⟨e0, e1, e2⟩, ⟨g0, g1, g2, g3⟩, ⟨h0, h1, h2, h3⟩⟩ := Y25.out.at
              refine hK.out _ _ ⟨⟨x0, x1, x2, x3⟩, ⟨y0, y1, y2, y3⟩, ⟨e0, e1, e2⟩, ⟨g0, g1, g2, g3⟩, ⟨h0, h1, h2, h3⟩⟩ (fun hHeld => ?_)
              clear hK K
              try simp only [Act.put, List.setIfInBounds_toArray, List.set_cons_zero, List.set_cons_succ]
              refine wpAnyH_take (i := 11) (oi := ⟨_, _, _, _, _, _⟩) (v := ?_) rfl (by kernel_rfl) (by kernel_rfl) (by kernel_rfl) (fun _ _ _ h => h) (Or.inl ⟨by rfl, ?_⟩) hHeld ?_
              rotate_left
              · intro w' hSw
                try dsimp only at hSw
                go_simp
                all_goals with_reducible rfl
              simp only [Act.put, List.setIfInBounds_toArray, List.set_cons_zero, List.set_cons_succ]
              refine wpAnyH_take (i := 12) (oi := ⟨_, _, _, _, _, _⟩) (v := ?_) rfl (by kernel_rfl) (by kernel_rfl) (by kernel_rfl) (fun _ _ _ h => h) (Or.inl ⟨by rfl, ?_⟩) hHeld ?_
              rotate_left
              · intro w' hSw
                try dsimp only at hSw
                go_simp
                all_goals with_reducible rfl
              simp only [Act.put, List.setIfInBounds_toArray, List.set_cons_zero, List.set_cons_succ]
              refine wpAnyH_take (i := 13) (oi := ⟨_, _, _, _, _, _⟩) (v := ?_) rfl (by kernel_rfl) (by kernel_rfl) (by kernel_rfl) (fun _ _ _ h => h) (Or.inl ⟨by rfl, ?_⟩) hHeld ?_
              rotate_left
              · intro w' hSw
                try dsimp only at hSw
                go_simp
                all_goals with_reducible rfl
              simp only [Act.put, List.setIfInBounds_toArray, List.set_cons_zero, List.set_cons_succ]
              refine wpAnyH_take (i := 14) (oi := ⟨_, _, _, _, _, _⟩) (v := ?_) rfl (by kernel_rfl) (by kernel_rfl) (by kernel_rfl) (fun _ _ _ h => h) (Or.inl ⟨by rfl, ?_⟩) hHeld ?_
              rotate_left
              · intro w' hSw
                try dsimp only at hSw
                go_simp
                all_goals with_reducible rfl
              simp only [Act.put, List.setIfInBounds_toArray, List.set_cons_zero, List.set_cons_succ]
              refine wpAnyH_take (i := 15) (oi := ⟨_, _, _, _, _, _⟩) (v := ?_) rfl (by kernel_rfl) (by kernel_rfl) (by kernel_rfl) (fun _ _ _ h => h) (Or.inl ⟨by rfl, ?_⟩) hHeld ?_
              rotate_left
              · intro w' hSw
                try dsimp only at hSw
                go_simp
                all_goals with_reducible rfl
              simp only [Act.put, List.setIfInBounds_toArray, List.set_cons_zero, List.set_cons_succ]
              refine wpAnyH_take (i := 17) (oi := ⟨_, _, _, _, _, _⟩) (v := ?_) rfl (by kernel_rfl) (by kernel_rfl) (by kernel_rfl) (fun _ _ _ h => h) (Or.inl ⟨by rfl, ?_⟩) hHeld ?_
              rotate_left
              · intro w' hSw
                try dsimp only at hSw
                go_simp
                all_goals with_reducible rfl
              simp only [Act.put, List.setIfInBounds_toArray, List.set_cons_zero, List.set_cons_succ]
              refine wpAnyH_take (i := 18) (oi := ⟨_, _, _, _, _, _⟩) (v := ?_) rfl (by kernel_rfl) (by kernel_rfl) (by kernel_rfl) (fun _ _ _ h => h) (Or.inl ⟨by rfl, ?_⟩) hHeld ?_
              rotate_left
              · intro w' hSw
                try dsimp only at hSw
                go_simp
                all_goals with_reducible rfl
              simp only [Act.put, List.setIfInBounds_toArray, List.set_cons_zero, List.set_cons_succ]
              refine wpAnyH_ready (rs := [16]) (by kernel_rfl) (by simp) ?_
              refine AllReadyH.cons (o := ⟨_, _, _, _, _, _⟩) rfl (fun K hK => ?_) AllReadyH.nil
              go_simp
              refine (S.takes _ (now, p, fl) sn st sx _ Y25.out.z.pt.ok FT.out HSN.out HST.out Y25.out.z.rr).mono ?_
              rintro e w26 ⟨rfl, b9⟩
              rw [HVT.out]
              have Y26 := Hid.of (Y25.out.next b9)
              clear b9 hHeld Y25 x0 x1 x2 x3 y0 y1 y2 y3 e0 e1 e2 g0 g1 g2 g3 h0 h1 h2 h3
              obtain ⟨⟨x0, x1, x2, x3⟩, ⟨y0, y1, y2, y3⟩, ⟨e0, e1, e2⟩, ⟨g0, g1, g2, g3⟩, ⟨h0, h1, h2, h3⟩⟩ := Y26.out.at
              refine hK.out _ _ ⟨⟨x0, x1, x2, x3⟩, ⟨y0, y1, y2, y3⟩, ⟨e0, e1, e2⟩, ⟨g0, g1, g2, g3⟩, ⟨h0, h1, h2, h3⟩⟩ (fun hHeld => ?_)
              clear hK K
              try simp only [Act.put, List.setIfInBounds_toArray, List.set_cons_zero, List.set_cons_succ]
              refine wpAnyH_ready (rs := [19]) (by kernel_rfl) (by simp) ?_
              refine AllReadyH.cons (o := ⟨_, _, _, _, _, _⟩) rfl (fun K hK => ?_) AllReadyH.nil
              go_simp
              refine (refTakes_any now n sn _ _ p fl st sx _ Y26.out.z.pt.hs Y26.out.z.pt.hf FT.out HSN.out).mono ?_
              rintro e w27 ⟨rfl, b9⟩
              rw [HVT.out]
              have Y27 := Hid.of (Y26.out.next b9)
              clear b9 hHeld Y26 x0 x1 x2 x3 y0 y1 y2 y3 e0 e1 e2 g0 g1 g2 g3 h0 h1 h2 h3
              obtain ⟨⟨x0, x1, x2, x3⟩, ⟨y0, y1, y2, y3⟩, ⟨e0, e1, e2⟩, ⟨g0, g1, g2, g3⟩, ⟨h0, h1, h2, h3⟩⟩ := Y27.out.at
              refine hK.out _ _ ⟨⟨x0, x1, x2, x3⟩, ⟨y0, y1, y2, y3⟩, ⟨e0, e1, e2⟩, ⟨g0, g1, g2, g3⟩, ⟨h0, h1, h2, h3⟩⟩ (fun hHeld => ?_)
              clear hK K
              try simp only [Act.put, List.setIfInBounds_toArray, List.set_cons_zero, List.set_cons_succ]
              refine wpAnyH_take (i := 20) (oi := ⟨_, _, _, _, _, _⟩) (v := ?_) rfl (by kernel_rfl) (by kernel_rfl) (by kernel_rfl) (fun _ _ _ h => h) (Or.inl ⟨by rfl, ?_⟩) hHeld ?_
              rotate_left
              · intro w' hSw
                try dsimp only at hSw
                go_simp
                all_goals with_reducible rfl
              simp only [Act.put, List.setIfInBounds_toArray, List.set_cons_zero, List.set_cons_succ]
              refine wpAnyH_take (i := 21) (oi := ⟨_, _, _, _, _, _⟩) (v := ?_) rfl (by kernel_rfl) (by kernel_rfl) (by kernel_rfl) (fun _ _ _ h => h) (Or.inl ⟨by rfl, ?_⟩) hHeld ?_
              rotate_left
              · intro w' hSw
                try dsimp only at hSw
                go_simp
                all_goals with_reducible rfl
              simp only [Act.put, List.setIfInBounds_toArray, List.set_cons_zero, List.set_cons_succ]
              refine wpAnyH_take (i := 22) (oi := ⟨_, _, _, _, _, _⟩) (v := ?_) rfl (by kernel_rfl) (by kernel_rfl) (by kernel_rfl) (fun _ _ _ h => h) (Or.inl ⟨by rfl, ?_⟩) hHeld ?_
              rotate_left
              · intro w' hSw
                try dsimp only at hSw
                go_simp
                all_goals with_reducible rfl
              simp only [Act.put, List.setIfInBounds_toArray, List.set_cons_zero, List.set_cons_succ]
              refine wpAnyH_take (i := 23) (oi := ⟨_, _, _, _, _, _⟩) (v := ?_) rfl (by kernel_rfl) (by kernel_rfl) (by kernel_rfl) (fun _ _ _ h => h) (Or.inl ⟨by rfl, ?_⟩) hHeld ?_
              rotate_left
              · intro w' hSw
                try dsimp only at hSw
                go_simp
                all_goals with_reducible rfl
              simp only [Act.put, List.setIfInBounds_toArray, List.set_cons_zero, List.set_cons_succ]
              refine wpAnyH_take (i := 24) (oi := ⟨_, _, _, _, _, _⟩) (v := ?_) rfl (by kernel_rfl) (by kernel_rfl) (by kernel_rfl) (fun _ _ _ h => h) (Or.inl ⟨by rfl, ?_⟩) hHeld ?_
              rotate_left
              · intro w' hSw
                try dsimp only at hSw
                go_simp
                all_goals with_reducible rfl
              simp only [Act.put, List.setIfInBounds_toArray, List.set_cons_zero, List.set_cons_succ]
              refine wpAnyH_take (i := 25) (oi := ⟨_, _, _, _, _, _⟩) (v := ?_) rfl (by kernel_rfl) (by kernel_rfl) (by kernel_rfl) (fun _ _ _ h => h) (Or.inl ⟨by rfl, ?_⟩) hHeld ?_
              rotate_left
              · intro w' hSw
                try dsimp only at hSw
                go_simp
                all_goals with_reducible rfl
              simp only [Act.put, List.setIfInBounds_toArray, List.set_cons_zero, List.set_cons_succ]
              refine wpAnyH_take (i := 26) (oi := ⟨_, _, _, _, _, _⟩) (v := ?_) rfl (by kernel_rfl) (by kernel_rfl) (by kernel_rfl) (fun _ _ _ h => h) (Or.inl ⟨by rfl, ?_⟩) hHeld ?_
              rotate_left
              · intro w' hSw
                try dsimp only at hSw
                go_simp
                all_goals with_reducible rfl
              simp only [Act.put, List.setIfInBounds_toArray, List.set_cons_zero, List.set_cons_succ]
              refine wpAnyH_take (i := 27) (oi := ⟨_, _, _, _, _, _⟩) (v := ?_) rfl (by kernel_rfl) (by kernel_rfl) (by kernel_rfl) (fun _ _ _ h => h) (Or.inl ⟨by rfl, ?_⟩) hHeld ?_
              rotate_left
              · intro w' hSw
                try dsimp only at hSw
                go_simp
                all_goals with_reducible rfl
              simp only [Act.put, List.setIfInBounds_toArray, List.set_cons_zero, List.set_cons_succ]
              refine wpAnyH_take (i := 28) (oi := ⟨_, _, _, _, _, _⟩) (v := ?_) rfl (by kernel_rfl) (by kernel_rfl) (by kernel_rfl) (fun _ _ _ h => h) (Or.inl ⟨by rfl, ?_⟩) hHeld ?_
              rotate_left
              · intro w' hSw
                try dsimp only at hSw
                go_simp
                all_goals with_reducible rfl
              simp only [Act.put, List.setIfInBounds_toArray, List.set_cons_zero, List.set_cons_succ]
              refine wpAnyH_take (i := 29) (oi := ⟨_, _, _, _, _, _⟩) (v := ?_) rfl (by kernel_rfl) (by kernel_rfl) (by kernel_rfl) (fun _ _ _ h => h) (Or.inl ⟨by rfl, ?_⟩) hHeld ?_
              rotate_left
              · intro w' hSw
                try dsimp only at hSw
                go_simp
                all_goals with_reducible rfl
              simp only [Act.put, List.setIfInBounds_toArray, List.set_cons_zero, List.set_cons_succ]
              refine wpAnyH_take (i := 30) (oi := ⟨_, _, _, _, _, _⟩) (v := ?_) rfl (by kernel_rfl) (by kernel_rfl) (by kernel_rfl) (fun _ _ _ h => h) (Or.inl ⟨by rfl, ?_⟩) hHeld ?_
              rotate_left
              · intro w' hSw
                try dsimp only at hSw
                go_simp
                all_goals with_reducible rfl
              simp only [Act.put, List.setIfInBounds_toArray, List.set_cons_zero, List.set_cons_succ]
              refine wpAnyH_take (i := 31) (oi := ⟨_, _, _, _, _, _⟩) (v := ?_) rfl (by kernel_rfl) (by kernel_rfl) (by kernel_rfl) (fun _ _ _ h => h) (Or.inl ⟨by rfl, ?_⟩) hHeld ?_
              rotate_left
              · intro w' hSw
                try dsimp only at hSw
                go_simp
                all_goals with_reducible rfl
              simp only [Act.put, List.setIfInBounds_toArray, List.set_cons_zero, List.set_cons_succ]
              refine wpAnyH_take (i := 32) (oi := ⟨_, _, _, _, _, _⟩) (v := ?_) rfl (by kernel_rfl) (by kernel_rfl) (by kernel_rfl) (fun _ _ _ h => h) (Or.inl ⟨by rfl, ?_⟩) hHeld ?_
              rotate_left
              · intro w' hSw
                try dsimp only at hSw
                go_simp
                all_goals with_reducible rfl
              simp only [Act.put, List.setIfInBounds_toArray, List.set_cons_zero, List.set_cons_succ]
              refine wpAnyH_take (i := 33) (oi := ⟨_, _, _, _, _, _⟩) (v := ?_) rfl (by kernel_rfl) (by kernel_rfl) (by kernel_rfl) (fun _ _ _ h => h) (Or.inl ⟨by rfl, ?_⟩) hHeld ?_
              rotate_left
              · intro w' hSw
                try dsimp only at hSw
                go_simp
                all_goals with_reducible rfl
              simp only [Act.put, List.setIfInBounds_toArray, List.set_cons_zero, List.set_cons_succ]
              refine wpAnyH_take (i := 34) (oi := ⟨_, _, _, _, _, _⟩) (v := ?_) rfl (by kernel_rfl) (by kernel_rfl) (by kernel_rfl) (fun _ _ _ h => h) (Or.inl ⟨by rfl, ?_⟩) hHeld ?_
              rotate_left
              · intro w' hSw
                try dsimp only at hSw
                go_simp
                all_goals with_reducible rfl
              simp only [Act.put, List.setIfInBounds_toArray, List.set_cons_zero, List.set_cons_succ]
              refine wpAnyH_take (i := 36) (oi := ⟨_, _, _, _, _, _⟩) (v := ?_) rfl (by kernel_rfl) (by kernel_rfl) (by kernel_rfl) (fun _ _ _ h => h) (Or.inl ⟨by rfl, ?_⟩) hHeld ?_
              rotate_left
              · intro w' hSw
                try dsimp only at hSw
                go_simp
                all_goals with_reducible rfl
              simp only [Act.put, List.setIfInBounds_toArray, List.set_cons_zero, List.set_cons_succ]
              refine wpAnyH_take (i := 37) (oi := ⟨_, _, _, _, _, _⟩) (v := ?_) rfl (by kernel_rfl) (by kernel_rfl) (by kernel_rfl) (fun _ _ _ h => h) (Or.inl ⟨by rfl, ?_⟩) hHeld ?_
              rotate_left
              · intro w' hSw
                try dsimp only at hSw
                go_simp
                all_goals with_reducible rfl
              simp only [Act.put, List.setIfInBounds_toArray, List.set_cons_zero, List.set_cons_succ]
              refine wpAnyH_ready (rs := [35]) (by kernel_rfl) (by simp) ?_
              refine AllReadyH.cons (o := ⟨_, _, _, _, _, _⟩) rfl (fun K hK => ?_) AllReadyH.nil
              go_simp
              refine (S.cover _ (now, p, fl) t _ Y27.out.z.pt.ok FT.out HT.out Y27.out.z.rr).mono ?_
              rintro e w28 ⟨rfl, b9⟩
              rw [HVC.out]
              have Y28 := Hid.of (Y27.out.next b9)
              clear b9 hHeld Y27 x0 x1 x2 x3 y0 y1 y2 y3 e0 e1 e2 g0 g1 g2 g3 h0 h1 h2 h3
              obtain ⟨⟨x0, x1, x2, x3⟩, ⟨y0, y1, y2, y3⟩, ⟨e0, e1, e2⟩, ⟨g0, g1, g2, g3⟩, ⟨h0, h1, h2, h3⟩⟩ := Y28.out.at
              refine hK.out _ _ ⟨⟨x0, x1, x2, x3⟩, ⟨y0, y1, y2, y3⟩, ⟨e0, e1, e2⟩, ⟨g0, g1, g2, g3⟩, ⟨h0, h1, h2, h3⟩⟩ (fun hHeld => ?_)
              clear hK K
              try simp only [Act.put, List.setIfInBounds_toArray, List.set_cons_zero, List.set_cons_succ]
              refine wpAnyH_ready (rs := [38]) (by kernel_rfl) (by simp) ?_
              refine AllReadyH.cons (o := ⟨_, _, _, _, _, _⟩) rfl (fun K hK => ?_) AllReadyH.nil
              go_simp
              refine (refCover_any now n _ _ p fl t _ Y28.out.z.pt.hs Y28.out.z.pt.hf FT.out).mono ?_
              rintro e w29 ⟨rfl, b9⟩
              rw [HVC.out]
              have Y29 := Hid.of (Y28.out.next b9)
              clear b9 hHeld Y28 x0 x1 x2 x3 y0 y1 y2 y3 e0 e1 e2 g0 g1 g2 g3 h0 h1 h2 h3
              obtain ⟨⟨x0, x1, x2, x3⟩, ⟨y0, y1, y2, y3⟩, ⟨e0, e1, e2⟩, ⟨g0, g1, g2, g3⟩, ⟨h0, h1, h2, h3⟩⟩ := Y29.out.at
              refine hK.out _ _ ⟨⟨x0, x1, x2, x3⟩, ⟨y0, y1, y2, y3⟩, ⟨e0, e1, e2⟩, ⟨g0, g1, g2, g3⟩, ⟨h0, h1, h2, h3⟩⟩ (fun hHeld => ?_)
              clear hK K
              try simp only [Act.put, List.setIfInBounds_toArray, List.set_cons_zero, List.set_cons_succ]
              refine wpAnyH_take (i := 39) (oi := ⟨_, _, _, _, _, _⟩) (v := ?_) rfl (by kernel_rfl) (by kernel_rfl) (by kernel_rfl) (fun _ _ _ h => h) (Or.inl ⟨by rfl, ?_⟩) hHeld ?_
              rotate_left
              · intro w' hSw
                try dsimp only at hSw
                go_simp
                all_goals with_reducible rfl
              simp only [Act.put, List.setIfInBounds_toArray, List.set_cons_zero, List.set_cons_succ]
              refine wpAnyH_take (i := 40) (oi := ⟨_, _, _, _, _, _⟩) (v := ?_) rfl (by kernel_rfl) (by kernel_rfl) (by kernel_rfl) (fun _ _ _ h => h) (Or.inl ⟨by rfl, ?_⟩) hHeld ?_
              rotate_left
              · intro w' hSw
                try dsimp only at hSw
                go_simp
                all_goals with_reducible rfl
              simp only [Act.put, List.setIfInBounds_toArray, List.set_cons_zero, List.set_cons_succ]
              refine wpAnyH_take (i := 41) (oi := ⟨_, _, _, _, _, _⟩) (v := ?_) rfl (by kernel_rfl) (by kernel_rfl) (by kernel_rfl) (fun _ _ _ h => h) (Or.inl ⟨by rfl, ?_⟩) hHeld ?_
              rotate_left
              · intro w' hSw
                try dsimp only at hSw
                go_simp
                all_goals with_reducible rfl
              simp only [Act.put, List.setIfInBounds_toArray, List.set_cons_zero, List.set_cons_succ]
              refine wpAnyH_take (i := 42) (oi := ⟨_, _, _, _, _, _⟩) (v := ?_) rfl (by kernel_rfl) (by kernel_rfl) (by kernel_rfl) (fun _ _ _ h => h) (Or.inl ⟨by rfl, ?_⟩) hHeld ?_
              rotate_left
              · intro w' hSw
                try dsimp only at hSw
                go_simp
                all_goals with_reducible rfl
              simp only [Act.put, List.setIfInBounds_toArray, List.set_cons_zero, List.set_cons_succ]
              refine wpAnyH_take (i := 43) (oi := ⟨_, _, _, _, _, _⟩) (v := ?_) rfl (by kernel_rfl) (by kernel_rfl) (by kernel_rfl) (fun _ _ _ h => h) (Or.inl ⟨by rfl, ?_⟩) hHeld ?_
              rotate_left
              · intro w' hSw
                try dsimp only at hSw
                go_simp
                all_goals with_reducible rfl
              simp only [Act.put, List.setIfInBounds_toArray, List.set_cons_zero, List.set_cons_succ]
              refine wpAnyH_take (i := 45) (oi := ⟨_, _, _, _, _, _⟩) (v := ?_) rfl (by kernel_rfl) (by kernel_rfl) (by kernel_rfl) (fun _ _ _ h => h) (Or.inl ⟨by rfl, ?_⟩) hHeld ?_
              rotate_left
              · intro w' hSw
                try dsimp only at hSw
                go_simp
                all_goals with_reducible rfl
              simp only [Act.put, List.setIfInBounds_toArray, List.set_cons_zero, List.set_cons_succ]
              refine wpAnyH_take (i := 46) (oi := ⟨_, _, _, _, _, _⟩) (v := ?_) rfl (by kernel_rfl) (by kernel_rfl) (by kernel_rfl) (fun _ _ _ h => h) (Or.inl ⟨by rfl, ?_⟩) hHeld ?_
              rotate_left
              · intro w' hSw
                try dsimp only at hSw
                go_simp
                all_goals with_reducible rfl
              simp only [Act.put, List.setIfInBounds_toArray, List.set_cons_zero, List.set_cons_succ]
              refine wpAnyH_ready (rs := [44]) (by kernel_rfl) (by simp) ?_
              refine AllReadyH.cons (o := ⟨_, _, _, _, _, _⟩) rfl (fun K hK => ?_) AllReadyH.nil
              go_simp
              refine (S.from_ _ (mx, p, fl) tier _ Y29.out.z.pt.ok FTM.out HTI.out Y29.out.rl).mono ?_
              rintro e w30 ⟨rfl, b9⟩
              rw [HVM.out]
              have Y30 := Hid.of (Y29.out.next b9)
              clear b9 hHeld Y29 x0 x1 x2 x3 y0 y1 y2 y3 e0 e1 e2 g0 g1 g2 g3 h0 h1 h2 h3
              obtain ⟨⟨x0, x1, x2, x3⟩, ⟨y0, y1, y2, y3⟩, ⟨e0, e1, e2⟩, ⟨g0, g1, g2, g3⟩, ⟨h0, h1, h2, h3⟩⟩ := Y30.out.at
              refine hK.out _ _ ⟨⟨x0, x1, x2, x3⟩, ⟨y0, y1, y2, y3⟩, ⟨e0, e1, e2⟩, ⟨g0, g1, g2, g3⟩, ⟨h0, h1, h2, h3⟩⟩ (fun hHeld => ?_)
              clear hK K
              try simp only [Act.put, List.setIfInBounds_toArray, List.set_cons_zero, List.set_cons_succ]
              refine wpAnyH_ready (rs := [47]) (by kernel_rfl) (by simp) ?_
              refine AllReadyH.cons (o := ⟨_, _, _, _, _, _⟩) rfl (fun K hK => ?_) AllReadyH.nil
              go_simp
              refine (refFrom_any mx n _ _ p fl tier _ Y30.out.z.pt.hs Y30.out.z.pt.hf FTM.out HTI.out).mono ?_
              rintro e w31 ⟨rfl, b9⟩
              rw [HVM.out]
              have Y31 := Hid.of (Y30.out.next b9)
              clear b9 hHeld Y30 x0 x1 x2 x3 y0 y1 y2 y3 e0 e1 e2 g0 g1 g2 g3 h0 h1 h2 h3
              obtain ⟨⟨x0, x1, x2, x3⟩, ⟨y0, y1, y2, y3⟩, ⟨e0, e1, e2⟩, ⟨g0, g1, g2, g3⟩, ⟨h0, h1, h2, h3⟩⟩ := Y31.out.at
              refine hK.out _ _ ⟨⟨x0, x1, x2, x3⟩, ⟨y0, y1, y2, y3⟩, ⟨e0, e1, e2⟩, ⟨g0, g1, g2, g3⟩, ⟨h0, h1, h2, h3⟩⟩ (fun hHeld => ?_)
              clear hK K
              try simp only [Act.put, List.setIfInBounds_toArray, List.set_cons_zero, List.set_cons_succ]
              refine wpAnyH_take (i := 48) (oi := ⟨_, _, _, _, _, _⟩) (v := ?_) rfl (by kernel_rfl) (by kernel_rfl) (by kernel_rfl) (fun _ _ _ h => h) (Or.inl ⟨by rfl, ?_⟩) hHeld ?_
              rotate_left
              · intro w' hSw
                try dsimp only at hSw
                go_simp
                all_goals with_reducible rfl
              simp only [Act.put, List.setIfInBounds_toArray, List.set_cons_zero, List.set_cons_succ]
              refine wpAnyH_take (i := 49) (oi := ⟨_, _, _, _, _, _⟩) (v := ?_) rfl (by kernel_rfl) (by kernel_rfl) (by kernel_rfl) (fun _ _ _ h => h) (Or.inl ⟨by rfl, ?_⟩) hHeld ?_
              rotate_left
              · intro w' hSw
                try dsimp only at hSw
                go_simp
                all_goals with_reducible rfl
              simp only [Act.put, List.setIfInBounds_toArray, List.set_cons_zero, List.set_cons_succ]
              refine wpAnyH_take (i := 50) (oi := ⟨_, _, _, _, _, _⟩) (v := ?_) rfl (by kernel_rfl) (by kernel_rfl) (by kernel_rfl) (fun _ _ _ h => h) (Or.inl ⟨by rfl, ?_⟩) hHeld ?_
              rotate_left
              · intro w' hSw
                try dsimp only at hSw
                go_simp
                all_goals with_reducible rfl
              simp only [Act.put, List.setIfInBounds_toArray, List.set_cons_zero, List.set_cons_succ]
              refine wpAnyH_take (i := 51) (oi := ⟨_, _, _, _, _, _⟩) (v := ?_) rfl (by kernel_rfl) (by kernel_rfl) (by kernel_rfl) (fun _ _ _ h => h) (Or.inl ⟨by rfl, ?_⟩) hHeld ?_
              rotate_left
              · intro w' hSw
                try dsimp only at hSw
                go_simp
                all_goals with_reducible rfl
              simp only [Act.put, List.setIfInBounds_toArray, List.set_cons_zero, List.set_cons_succ]
              refine wpAnyH_take (i := 52) (oi := ⟨_, _, _, _, _, _⟩) (v := ?_) rfl (by kernel_rfl) (by kernel_rfl) (by kernel_rfl) (fun _ _ _ h => h) (Or.inl ⟨by rfl, ?_⟩) hHeld ?_
              rotate_left
              · intro w' hSw
                try dsimp only at hSw
                go_simp
                all_goals with_reducible rfl
              simp only [Act.put, List.setIfInBounds_toArray, List.set_cons_zero, List.set_cons_succ]
              refine wpAnyH_take (i := 53) (oi := ⟨_, _, _, _, _, _⟩) (v := ?_) rfl (by kernel_rfl) (by kernel_rfl) (by kernel_rfl) (fun _ _ _ h => h) (Or.inl ⟨by rfl, ?_⟩) hHeld ?_
              rotate_left
              · intro w' hSw
                try dsimp only at hSw
                go_simp
                all_goals with_reducible rfl
              simp only [Act.put, List.setIfInBounds_toArray, List.set_cons_zero, List.set_cons_succ]
              refine wpAnyH_take (i := 54) (oi := ⟨_, _, _, _, _, _⟩) (v := ?_) rfl (by kernel_rfl) (by kernel_rfl) (by kernel_rfl) (fun _ _ _ h => h) (Or.inl ⟨by rfl, ?_⟩) hHeld ?_
              rotate_left
              · intro w' hSw
                try dsimp only at hSw
                go_simp
                all_goals with_reducible rfl
              simp only [Act.put, List.setIfInBounds_toArray, List.set_cons_zero, List.set_cons_succ]
              refine wpAnyH_take (i := 55) (oi := ⟨_, _, _, _, _, _⟩) (v := ?_) rfl (by kernel_rfl) (by kernel_rfl) (by kernel_rfl) (fun _ _ _ h => h) (Or.inl ⟨by rfl, ?_⟩) hHeld ?_
              rotate_left
              · intro w' hSw
                try dsimp only at hSw
                go_simp
                all_goals with_reducible rfl
              simp only [Act.put, List.setIfInBounds_toArray, List.set_cons_zero, List.set_cons_succ]
              refine wpAnyH_take (i := 56) (oi := ⟨_, _, _, _, _, _⟩) (v := ?_) rfl (by kernel_rfl) (by kernel_rfl) (by kernel_rfl) (fun _ _ _ h => h) (Or.inl ⟨by rfl, ?_⟩) hHeld ?_
              rotate_left
              · intro w' hSw
                try dsimp only at hSw
                go_simp
                all_goals with_reducible rfl
              simp only [Act.put, List.setIfInBounds_toArray, List.set_cons_zero, List.set_cons_succ]
              refine wpAnyH_take (i := 57) (oi := ⟨_, _, _, _, _, _⟩) (v := ?_) rfl (by kernel_rfl) (by kernel_rfl) (by kernel_rfl) (fun _ _ _ h => h) (Or.inl ⟨by rfl, ?_⟩) hHeld ?_
              rotate_left
              · intro w' hSw
                try dsimp only at hSw
                go_simp
                all_goals with_reducible rfl
              simp only [Act.put, List.setIfInBounds_toArray, List.set_cons_zero, List.set_cons_succ]
              refine wpAnyH_take (i := 58) (oi := ⟨_, _, _, _, _, _⟩) (v := ?_) rfl (by kernel_rfl) (by kernel_rfl) (by kernel_rfl) (fun _ _ _ h => h) (Or.inl ⟨by rfl, ?_⟩) hHeld ?_
              rotate_left
              · intro w' hSw
                try dsimp only at hSw
                go_simp
                all_goals with_reducible rfl
              simp only [Act.put, List.setIfInBounds_toArray, List.set_cons_zero, List.set_cons_succ]
              refine wpAnyH_take (i := 59) (oi := ⟨_, _, _, _, _, _⟩) (v := ?_) rfl (by kernel_rfl) (by kernel_rfl) (by kernel_rfl) (fun _ _ _ h => h) (Or.inl ⟨by rfl, ?_⟩) hHeld ?_
              rotate_left
              · intro w' hSw
                try dsimp only at hSw
                go_simp
                all_goals with_reducible rfl
              simp only [Act.put, List.setIfInBounds_toArray, List.set_cons_zero, List.set_cons_succ]
              refine wpAnyH_take (i := 60) (oi := ⟨_, _, _, _, _, _⟩) (v := ?_) rfl (by kernel_rfl) (by kernel_rfl) (by kernel_rfl) (fun _ _ _ h => h) (Or.inl ⟨by rfl, ?_⟩) hHeld ?_
              rotate_left
              · intro w' hSw
                try dsimp only at hSw
                go_simp
                all_goals with_reducible rfl
              simp only [Act.put, List.setIfInBounds_toArray, List.set_cons_zero, List.set_cons_succ]
              refine wpAnyH_take (i := 61) (oi := ⟨_, _, _, _, _, _⟩) (v := ?_) rfl (by kernel_rfl) (by kernel_rfl) (by kernel_rfl) (fun _ _ _ h => h) (Or.inl ⟨by rfl, ?_⟩) hHeld ?_
              rotate_left
              · intro w' hSw
                try dsimp only at hSw
                go_simp
                all_goals with_reducible rfl
              simp only [Act.put, List.setIfInBounds_toArray, List.set_cons_zero, List.set_cons_succ]
              refine wpAnyH_take (i := 62) (oi := ⟨_, _, _, _, _, _⟩) (v := ?_) rfl (by kernel_rfl) (by kernel_rfl) (by kernel_rfl) (fun _ _ _ h => h) (Or.inl ⟨by rfl, ?_⟩) hHeld ?_
              rotate_left
              · intro w' hSw
                try dsimp only at hSw
                go_simp
                all_goals with_reducible rfl
              simp only [Act.put, List.setIfInBounds_toArray, List.set_cons_zero, List.set_cons_succ]
              refine wpAnyH_done (by kernel_rfl) ?_ _
              refine NoPanic.normal ?_
              clear x0 x1 x2 x3 y0 y1 y2 y3 e0 e1 e2 g0 g1 g2 g3 h0 h1 h2 h3 hHeld
              have Zx := Hid.of Y31.out.z
              go_wp2_with fail
              refine (StaysInts_any (w2.heap.size + 1) _ _ fl _ Zx.out.rm Zx.out.pt.hf (by rw [HM.out]; have := M12.out; omega)).mono ?_
              rintro e w40 ⟨rfl, b9⟩
              have Z40 := Hid.of (Zx.out.next b9)
              clear b9 Zx Y31
              obtain ⟨d0, d1⟩ := Z40.out.pt.k2.at
              obtain ⟨q0, q1⟩ := Z40.out.kq.at
              go_wp2_with fail
              refine (StaysTiers_any (w2.heap.size + 1) _ _ p.2 _ Z40.out.rq Z40.out.pt.hs (by rw [HN.out]; have := N10.out; omega)).mono ?_
              rintro e w41 ⟨rfl, b9⟩
              have Z41 := Hid.of (Z40.out.next b9)
              clear b9 Z40 d0 d1 q0 q1
              go_wp2
              go_roundw
              case rel =>
                have hRW := HRW.out
                subst hRW
                have h41 := Z41.out.bk
                have h42 : Here w2.heap.size (w2.heap.size + 1) (bookIP V3 W3 V4 W4) 40 w2 w41 (iblk V3 W3 (ls ++ [(.slice aa N ac, u2, rAll (now, p, fl))] ++ [(.slice f1a M f1c, u3, fl)]) ++ (pblk V4 W4 (ls' ++ [(.slice s1a N s1c, u4, p.2)]) ++ [xRow bx now n (.slice sa N sc) (.slice ga M gc)])) [] := (h41.perm (show List.Perm (pblk V4 W4 (ls' ++ [(.slice s1a N s1c, u4, p.2)]) ++ (⟨3, 1, lv, N, (rUp (now, p, fl) N).map (Value.int .i64)⟩ :: rRow br now n (.slice s1a N s1c) (.slice f1a M f1c) :: qRow bq n (.slice la N lc) :: tRow h cap2 p.2 :: mRow g cap fl :: xRow bx now n (.slice sa N sc) (.slice ga M gc) :: (iblk V3 W3 (ls ++ [(.slice aa N ac, u2, rAll (now, p, fl))] ++ [(.slice f1a M f1c, u3, fl)])))) ((iblk V3 W3 (ls ++ [(.slice aa N ac, u2, rAll (now, p, fl))] ++ [(.slice f1a M f1c, u3, fl)]) ++ (pblk V4 W4 (ls' ++ [(.slice s1a N s1c, u4, p.2)]) ++ [xRow bx now n (.slice sa N sc) (.slice ga M gc)])) ++ [⟨3, 1, lv, N, (rUp (now, p, fl) N).map (Value.int .i64)⟩, rRow br now n (.slice s1a N s1c) (.slice f1a M f1c), qRow bq n (.slice la N lc), tRow h cap2 p.2, mRow g cap fl]) from
                (by
                  generalize (⟨3, 1, lv, N, (rUp (now, p, fl) N).map (Value.int .i64)⟩ : Row1) = R1
                  generalize (rRow br now n (.slice s1a N s1c) (.slice f1a M f1c) : Row1) = R2
                  generalize (qRow bq n (.slice la N lc) : Row1) = R3
                  generalize (tRow h cap2 p.2 : Row1) = R4
                  generalize (mRow g cap fl : Row1) = R5
                  generalize (xRow bx now n (.slice sa N sc) (.slice ga M gc) : Row1) = R6
                  generalize (iblk V3 W3 (ls ++ [(.slice aa N ac, u2, rAll (now, p, fl))] ++ [(.slice f1a M f1c, u3, fl)])) = R7
                  generalize (pblk V4 W4 (ls' ++ [(.slice s1a N s1c, u4, p.2)])) = R8
                  classical
                  rw [List.perm_iff_count]
                  intro a
                  simp only [List.count_append, List.count_cons, List.count_nil]
                  omega))).sublist (List.sublist_append_left _ _)
                refine ⟨k + 1, V3, W3, V4, W4, _, _, by omega, by go_num, Hid.of h42, Hid.of (by simp only [List.length_append, List.length_singleton]; have := LS.out; omega), Hid.of (fun y hy => ?_), Hid.of (by simp only [List.length_append, List.length_singleton]; have := LS'.out; omega), Hid.of (fun y hy => ?_)⟩
                · rw [List.mem_append, List.mem_append] at hy
                  rcases hy with (hy | hy) | hy
                  · exact LL.out y hy
                  · rw [List.mem_singleton.1 hy]
                    show (rAll (now, p, fl)).length ≤ _
                    rw [RL.out]
                    have := N10.out
                    omega
                  · rw [List.mem_singleton.1 hy]
                    show fl.length ≤ _
                    rw [HM.out]
                    have := M12.out
                    omega
                · rw [List.mem_append] at hy
                  rcases hy with hy | hy
                  · exact LL'.out y hy
                  · rw [List.mem_singleton.1 hy]
                    show p.2.length ≤ _
                    rw [HN.out]
                    have := N10.out
                    omega
              case measure => simp [RowKit.intOf]; omega
        · have k1 : ¬ (k : Int) < 2 := by omega
          go_wp2_with fail
          refine (reachAlive_any S _ P.out.ok).mono ?_
          rintro e w5 ⟨rfl, b5⟩
          have J5 := Hid.of (J.out.next b5)
          clear b5 J P
          go_wp2_with fail
          refine (Apart_IP w2.heap.size (w2.heap.size + 1) V W ls V' W' ls' [xRow bx now n (.slice sa N sc) (.slice ga M gc)] 40 w2 _ (by have := LS.out; omega) LL.out (by have := LS'.out; omega) LL'.out J5.out).mono ?_
          rintro e w6 ⟨rfl, b6⟩
          go_wp2
          go_ret
          exact ⟨rfl, B2.out.trans (b6.mono B2.out.size)⟩

end Go.Proofs.Ytfbgjoildibikaa
