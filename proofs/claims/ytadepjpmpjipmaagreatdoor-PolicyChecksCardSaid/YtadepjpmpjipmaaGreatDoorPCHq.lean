/-
  PolicyChecks: each policy is checked, printed, compared, copied as the document's own words say; it stays; the copies lie apart.
-/
import Derived.Deep.RegionHeld3
import Derived.Test.YtadepjpmpjipmaaGreatDoorPCKq
import Derived.Test.YtadepjpmpjipmaaGreatDoorQ15
import Derived.Test.YtadepjpmpjipmaaGreatDoorPODq
namespace Go.Proofs.YtadepjpmpjipmaaGreatDoor
open Go.RowKit Go.Lib

theorem bookp_built : Tryz.prog.built 37 [] = some (bookP (.slice none 0 0) (.slice none 0 0)) := by kernel_rfl

set_option maxRecDepth 20000 in
set_option maxHeartbeats 6400000 in
theorem policyChecks_main (S : PolicySpec) (u v : Value) (p q : PolL) (w : World) (hS : S.Ok w) (hu : PolRow w u p) (hv : PolRow w v q) (hp : ∀ x ∈ p.2, TIn x) (hq : ∀ x ∈ q.2, TIn x) :
    Calls Tryz.prog 3 #[u, v] w fun e w' => e = .returned (.bool true) ∧ Below w.heap.size w w' := by
  obtain ⟨sl, rfl, hsl, hsk⟩ := hu
  obtain ⟨tl, rfl, htl, htk⟩ := hv
  have HSL := Hid.of hsl
  have HTL := Hid.of htl
  obtain ⟨sa, sc, rfl, -⟩ := hsl
  obtain ⟨ta, tc, rfl, -⟩ := htl
  obtain ⟨n, hn⟩ : ∃ n, p.1 = n := ⟨_, rfl⟩
  obtain ⟨m, hm'⟩ : ∃ m, q.1 = m := ⟨_, rfl⟩
  obtain ⟨N, hN⟩ : ∃ N, p.2.length = N := ⟨_, rfl⟩
  obtain ⟨M, hM⟩ : ∃ M, q.2.length = M := ⟨_, rfl⟩
  rw [hn, hm', hN, hM]
  rw [hN] at HSL
  have HSK : Hid (CapOk (.slice sa N sc)) := Hid.of (by rw [← hN]; exact hsk)
  clear hsk
  rw [hM] at HTL
  have HTK : Hid (CapOk (.slice ta M tc)) := Hid.of (by rw [← hM]; exact htk)
  clear htk
  obtain ⟨w1, hw1⟩ : ∃ w1, (w.alloc (.cells #[.string n, .slice sa N sc] 24)).alloc (.cells #[.string m, .slice ta M tc] 24) = w1 := ⟨_, rfl⟩
  have b1 : Below w.heap.size w w1 := by rw [← hw1]; exact ((Below.refl _ _).alloc (Nat.le_refl _) _).alloc (by simp) _
  have HW := Hid.of hw1
  have P1 : Hid (PK S w1 w.heap.size (w.heap.size + 1) n m (.slice sa N sc) (.slice ta M tc) p q) := Hid.of ⟨by rw [← hw1]; exact (PBlk.made w _ _).kept ((Below.refl _ _).alloc (Nat.le_refl _) _), by rw [← hw1]; have := PBlk.made (w.alloc (.cells #[.string n, .slice sa N sc] 24)) m (.slice ta M tc); simpa using this, ⟨_, by rw [hn], by rw [hN]; exact HSL.out.kept b1, HSK.out⟩, ⟨_, by rw [hm'], by rw [hM]; exact HTL.out.kept b1, HTK.out⟩, S.kept hS b1⟩
  have B1 := Hid.of b1
  have HN := Hid.of hN
  have HM := Hid.of hM
  have Hn := Hid.of hn
  have Hm := Hid.of hm'
  have HP := Hid.of hp
  have HQ := Hid.of hq
  clear hw1 b1 hN hM hn hm' hS hp hq HSL HTL
  go_enter Tryz.func3, Tryz.ntmps3
  go_wp2_with fail
  rw [HW.out]
  clear HW
  refine (Small_any _ p _ P1.out.r2).mono ?_
  rintro e w2 ⟨r, rfl, hr, b2⟩
  have P2 := Hid.of (P1.out.to b2)
  have B2 := Hid.of (B1.out.trans (b2.mono B1.out.size))
  clear b2 P1 B1
  cases r with
  | false =>
    go_wp2_with fail
    refine (polAlive_any S _ P2.out.ok).mono ?_
    rintro e w3 ⟨rfl, b3⟩
    go_wp2
    go_ret
    exact ⟨rfl, B2.out.trans (b3.mono B2.out.size)⟩
  | true =>
    have SM : Hid (PSmall p) := Hid.of (hr.out rfl)
    have SP := Hid.of (fit_of HP.out (hr.out rfl))
    clear hr
    obtain ⟨d0, d1⟩ := P2.out.k3.at
    go_wp2_with fail
    clear d0 d1
    refine (Small_any _ q _ P2.out.r3).mono ?_
    rintro e w3 ⟨r, rfl, hr, b3⟩
    have P3 := Hid.of (P2.out.to b3)
    have B3 := Hid.of (B2.out.trans (b3.mono B2.out.size))
    clear b3 P2 B2
    cases r with
    | false =>
      go_wp2_with fail
      refine (polAlive_any S _ P3.out.ok).mono ?_
      rintro e w4 ⟨rfl, b4⟩
      go_wp2
      go_ret
      exact ⟨rfl, B3.out.trans (b4.mono B3.out.size)⟩
    | true =>
      have SQ := Hid.of (fit_of HQ.out (hr.out rfl))
      clear hr
      have LP : Hid (∀ t ∈ p.2, t.1.size ≤ maxLen) := Hid.of (fun t ht => (HP.out t ht).1)
      have LN : Hid (p.1.size ≤ maxLen) := Hid.of (by have := SM.out.2.1; unfold maxLen; omega)
      have N10 : Hid (N ≤ 10) := Hid.of (by rw [← HN.out]; exact SM.out.1)
      obtain ⟨t, ht⟩ : ∃ t, decide (p = q) = t := ⟨_, rfl⟩
      have PT := Hid.of ht
      clear ht
      obtain ⟨ce, hce⟩ : ∃ c, (pCheck p).1 = c := ⟨_, rfl⟩
      obtain ⟨cn, hcn⟩ : ∃ c, (pCheck p).2 = c := ⟨_, rfl⟩
      obtain ⟨ps, hps⟩ : ∃ c, (pPrint p).1 = c := ⟨_, rfl⟩
      obtain ⟨pg, hpg⟩ : ∃ c, (pPrint p).2 = c := ⟨_, rfl⟩
      have C1 := Hid.of hce
      have C2 := Hid.of hcn
      have C3 := Hid.of hps
      have C4 := Hid.of hpg
      clear hce hcn hps hpg
      go_wp2_with (first
        | (refine wpList_builtP rfl 37 [] rfl (bookP (.slice none 0 0) (.slice none 0 0)) bookp_built ?_)
        | (refine wpList_boxedP rfl 37 _ rfl (bookP (.slice none 0 0) (.slice none 0 0)) rfl ?_
           obtain ⟨w4, hw4⟩ : ∃ w4, w3.alloc (.cells (bookP (.slice none 0 0) (.slice none 0 0)) 37) = w4 := ⟨_, rfl⟩
           rw [hw4]
           have J4 : Hid (Here w3.heap.size (w3.heap.size + 1) (bookP (.slice none 0 0) (.slice none 0 0)) 37 w3 w4 (pblk (.slice none 0 0) (.slice none 0 0) [] ++ []) []) := Hid.of (by
             rw [← hw4]
             exact bookP_nil _ _ _ _ (Go.heap_alloc_new _ _) ((Below.refl _ _).alloc (Nat.le_refl _) _))
           clear hw4))
      go_loopw [6, 7, 8, 9, 10, 11, 12, 13, 14, 15, 16] (fun kv _ _ _ _ _ _ _ _ _ _ wr => ∃ (k : Nat) (V W : Value) (ls : List (Value × Value × List TierL)), k ≤ 2 ∧ kv = .int .i64 k ∧ Hid (Here w3.heap.size (w3.heap.size + 1) (bookP V W) 37 w3 wr (pblk V W ls ++ []) []) ∧ Hid (ls.length ≤ k) ∧ Hid (∀ y ∈ ls, y.2.2.length ≤ 900000)) (fun kv _ _ _ _ _ _ _ _ _ _ _ => 2 - (RowKit.intOf kv).toNat)
      case atStart => exact ⟨0, _, _, [], Nat.zero_le _, rfl, J4, Hid.of (Nat.le_refl _), Hid.of (fun _ h => absurd h List.not_mem_nil)⟩
      case round =>
        clear J4
        obtain ⟨k, V, W, ls, hk, rfl, J, LS, LL⟩ := hrel
        have P := Hid.of (P3.out.to J.out.fr)
        have k0 : (0 : Int) ≤ (k : Int) := Int.natCast_nonneg _
        by_cases hlt : k < 2
        · have k1 : (k : Int) < 2 := by omega
          obtain ⟨d0, d1⟩ := P.out.k2.at
          have d2 : (wr.alloc (.cells #[.string n, .slice sa N sc] 24)).cell? ⟨w.heap.size, 1, none⟩ = some (.slice sa N sc) := (P.out.to ((Below.refl _ _).alloc (Nat.le_refl _) _)).k2.at.2
          go_wp2_with fail
          obtain ⟨w4, hw4⟩ : ∃ w4, wr.alloc (.cells #[.string n, .slice sa N sc] 24) = w4 := ⟨_, rfl⟩
          have b4 : Below wr.heap.size wr w4 := by rw [← hw4]; exact (Below.refl _ _).alloc (Nat.le_refl _) _
          have J4 := Hid.of (J.out.more b4 (by rw [← hw4]; exact var_own wr n (.slice sa N sc)))
          have P4 := Hid.of (P.out.to b4)
          have HW4 := Hid.of hw4
          clear hw4 b4 J P d0 d1 d2
          rw [HW4.out]
          clear HW4
          generalize wr.heap.size = b7 at *
          have R4 : Hid (CellRow w4 (.slice sa N sc) p.2.length (flat penc p.2)) := Hid.of (by
            obtain ⟨s, hs, hr, -⟩ := P4.out.r2
            unfold polVal at hs
            simp only [Value.agg.injEq] at hs
            cases hs
            exact hr)
          refine (LentTiers_own _ p.2 _ R4.out (by have := SM.out.1; omega)).mono ?_
          rintro e w5 ⟨g, cap, rfl, o5, b5⟩
          have J5 := Hid.of (J4.out.more b5 o5)
          have P5 := Hid.of (P4.out.to b5)
          clear o5 b5 J4 P4 R4
          have K5 := Hid.of (var_blk (J5.out.bag.own _ (List.mem_cons_of_mem _ (List.mem_cons_self ..))))
          obtain ⟨d0, d1⟩ := K5.out.at
          have f1 : w5.frozen? ⟨b7, 1, none⟩ = false := row_frozen K5.out
          obtain ⟨l, hl⟩ : ∃ l, Value.slice (some ⟨g, 0, none⟩) N cap = l := ⟨_, rfl⟩
          have X6 : Hid (PX S w.heap.size (w.heap.size + 1) b7 (w3.heap.size + 1) w3.heap.size N n m (.slice sa N sc) (.slice ta M tc) l p q (bookP V W) (⟨24, 2, .slice (some ⟨b7, 0, none⟩) 1 1, 1, [.string n, l]⟩ :: ⟨49, 4, .slice (some ⟨g, 0, none⟩) (p.2.length + 1) cap, p.2.length + 1, flat penc (p.2 ++ [tMark])⟩ :: (pblk V W ls ++ [])) w3 (w5.setCell ⟨b7, 1, none⟩ l)) := Hid.of (by
            have J6 := (J5.out.perm (List.Perm.swap _ _ _)).put 1 l
            have h1 := lent_of (J6.bag.own _ (List.mem_cons_of_mem _ (List.mem_cons_self ..)))
            rw [HN.out, hl] at h1
            exact ⟨P3.out.to J6.fr, var_blk (J6.bag.own _ (List.mem_cons_self ..)), h1, J6⟩)
          rw [HN.out, hl]
          obtain ⟨la, lc, hl2⟩ : ∃ a c, l = .slice a N c := ⟨_, _, hl.symm⟩
          have LQ := Hid.of (hl.trans hl2)
          clear hl J5 P5 K5
          subst hl2
          obtain ⟨e0, e1, e2, e3⟩ := X6.out.at
          go_wp2_with fail
          refine (S.check _ p _ X6.out.pk.ok SP.out (X6.out.r7 Hn.out HN.out)).mono ?_
          rintro e w7 ⟨rfl, b8⟩
          rw [C1.out, C2.out]
          have X7 := Hid.of (X6.out.next b8)
          clear b8 X6 e0 e1 e2 e3 d0 d1 f1
          obtain ⟨e0, e1, e2, e3⟩ := X7.out.at
          go_wp2_with fail
          refine (refCheck_any _ p _ X7.out.pk.r2 (by have := SM.out.1; omega) LN.out LP.out).mono ?_
          rintro e w8 ⟨rfl, b8⟩
          rw [C1.out, C2.out]
          have X8 := Hid.of (X7.out.next b8)
          clear b8 X7 e0 e1 e2 e3
          obtain ⟨e0, e1, e2, e3⟩ := X8.out.at
          go_wp2_with fail
          refine (S.print _ p _ X8.out.pk.ok SP.out (X8.out.r7 Hn.out HN.out)).mono ?_
          rintro e w9 ⟨rfl, b8⟩
          rw [C3.out, C4.out]
          have X9 := Hid.of (X8.out.next b8)
          clear b8 X8 e0 e1 e2 e3
          obtain ⟨e0, e1, e2, e3⟩ := X9.out.at
          go_wp2_with fail
          refine (refPrint_any _ p _ X9.out.pk.r2 (by have := SM.out.1; omega) LN.out LP.out).mono ?_
          rintro e w10 ⟨rfl, b8⟩
          rw [C3.out, C4.out]
          have X10 := Hid.of (X9.out.next b8)
          clear b8 X9 e0 e1 e2 e3
          obtain ⟨e0, e1, e2, e3⟩ := X10.out.at
          go_wp2_with fail
          refine (S.copy _ p _ X10.out.pk.ok SP.out (X10.out.r7 Hn.out HN.out)).mono ?_
          rintro e w11 ⟨cv, rfl, oc, b8⟩
          obtain ⟨cl, rfl, oc⟩ := oc
          obtain ⟨ca, cc, rfl, -⟩ := own_one oc
          rw [Hn.out]
          obtain ⟨w12, hw12⟩ : ∃ w12, w11.alloc (.cells #[.string n, .slice ca p.2.length cc] 24) = w12 := ⟨_, rfl⟩
          have b12 : Below w11.heap.size w11 w12 := by rw [← hw12]; exact (Below.refl _ _).alloc (Nat.le_refl _) _
          have J12 := (X10.out.bk.more b8 oc).more b12 (by rw [← hw12]; exact var_own w11 n (.slice ca p.2.length cc))
          have X12 := Hid.of ((X10.out.next b8).next b12)
          have HW12 := Hid.of hw12
          have J13 := Hid.of (pblk_add w3.heap.size (w3.heap.size + 1) (bookP V W) V W (.slice ca p.2.length cc) ls p.2 [⟨24, 2, .slice (some ⟨w11.heap.size, 0, none⟩) 1 1, 1, [.string n, .slice ca p.2.length cc]⟩, ⟨24, 2, .slice (some ⟨b7, 0, none⟩) 1 1, 1, [.string n, .slice la N lc]⟩, ⟨49, 4, .slice (some ⟨g, 0, none⟩) (p.2.length + 1) cap, p.2.length + 1, flat penc (p.2 ++ [tMark])⟩] 37 w3 w12 rfl rfl (by have := LS.out; omega) (by have := SM.out.1; omega) (J12.perm (by
            generalize (⟨24, 2, .slice (some ⟨w11.heap.size, 0, none⟩) 1 1, 1, [.string n, .slice ca p.2.length cc]⟩ : Row1) = R1
            generalize (⟨24, 2, .slice (some ⟨b7, 0, none⟩) 1 1, 1, [.string n, .slice la N lc]⟩ : Row1) = R2
            generalize (⟨49, 4, .slice (some ⟨g, 0, none⟩) (p.2.length + 1) cap, p.2.length + 1, flat penc (p.2 ++ [tMark])⟩ : Row1) = R3
            generalize (⟨49, 4, .slice ca p.2.length cc, p.2.length, flat penc p.2⟩ : Row1) = R4
            generalize pblk V W ls = A
            classical
            rw [List.perm_iff_count]
            intro a
            simp only [List.count_append, List.count_cons, List.count_nil]
            omega)))
          have K12 : Hid (PBlk w12 w11.heap.size n (.slice ca p.2.length cc)) := Hid.of (by rw [← hw12]; exact PBlk.made w11 _ _)
          have CC12 := Hid.of (own_cap oc)
          clear hw12 b12 b8 oc J12 X10 e0 e1 e2 e3
          go_wp2_with fail
          rw [HW12.out]
          refine J13.out.mono ?_
          rintro e w13 ⟨rfl, V', W', u', k13⟩
          have Z13 : Hid (PZ S w.heap.size (w.heap.size + 1) b7 w11.heap.size (w3.heap.size + 1) w3.heap.size N n m (.slice sa N sc) (.slice ta M tc) (.slice la N lc) (.slice ca N cc) p q (bookP V' W') _ w3 w13) := Hid.of (by
            have r1 := var_blk (k13.bag.own _ (List.mem_append_right _ (List.mem_cons_self ..)))
            have r2 := var_blk (k13.bag.own _ (List.mem_append_right _ (List.mem_cons_of_mem _ (List.mem_cons_self ..))))
            have r3 := lent_of (k13.bag.own _ (List.mem_append_right _ (List.mem_cons_of_mem _ (List.mem_cons_of_mem _ (List.mem_cons_self ..)))))
            have r4 := pblk_last k13
            rw [HN.out] at r1 r4
            rw [HN.out, LQ.out] at r3
            have r5 := CC12.out
            rw [HN.out] at r5
            exact ⟨⟨P3.out.to k13.fr, r2, r3, k13⟩, r1, r4, r5⟩)
          clear k13 J13 K12 X12 HW12 LQ
          generalize w11.heap.size = b16 at *
          obtain ⟨d0, d1, d2, d3, d4, d5, d6, d7⟩ := Z13.out.at
          go_upto_region 15 with fail
          refine wp_region_noPanic ?_
          refine wp_region_held_drew (S := fun w' => w'.cell? ⟨w.heap.size, 0, none⟩ = some (.string n) ∧ w'.cell? ⟨w.heap.size, 1, none⟩ = some (.slice sa N sc) ∧ w'.cell? ⟨w.heap.size + 1, 0, none⟩ = some (.string m) ∧ w'.cell? ⟨w.heap.size + 1, 1, none⟩ = some (.slice ta M tc) ∧ w'.cell? ⟨b7, 0, none⟩ = some (.string n) ∧ w'.cell? ⟨b7, 1, none⟩ = some (.slice la N lc) ∧ w'.cell? ⟨b16, 0, none⟩ = some (.string n) ∧ w'.cell? ⟨b16, 1, none⟩ = some (.slice ca N cc)) (by kernel_rfl) ?_ (fun hHeld => ?_)
          · exact ⟨d0, d1, d2, d3, d4, d5, d6, d7⟩
          refine wpAnyH_take (i := 0) (oi := ⟨_, _, _, _, _, _⟩) (v := ?_) rfl (by kernel_rfl) (by kernel_rfl) (by kernel_rfl) (fun _ _ _ h => h) (Or.inl ⟨by rfl, ?_⟩) hHeld ?_
          rotate_left
          · intro w' hSw
            try dsimp only at hSw
            go_simp
            all_goals with_reducible rfl
          simp only [Act.put, List.setIfInBounds_toArray, List.set_cons_zero, List.set_cons_succ]
          refine wpAnyH_take (i := 1) (oi := ⟨_, _, _, _, _, _⟩) (v := ?_) rfl (by kernel_rfl) (by kernel_rfl) (by kernel_rfl) (fun _ _ _ h => h) (Or.inl ⟨by rfl, ?_⟩) hHeld ?_
          rotate_left
          · intro w' hSw
            try dsimp only at hSw
            go_simp
            all_goals with_reducible rfl
          simp only [Act.put, List.setIfInBounds_toArray, List.set_cons_zero, List.set_cons_succ]
          refine wpAnyH_take (i := 2) (oi := ⟨_, _, _, _, _, _⟩) (v := ?_) rfl (by kernel_rfl) (by kernel_rfl) (by kernel_rfl) (fun _ _ _ h => h) (Or.inl ⟨by rfl, ?_⟩) hHeld ?_
          rotate_left
          · intro w' hSw
            try dsimp only at hSw
            go_simp
            all_goals with_reducible rfl
          simp only [Act.put, List.setIfInBounds_toArray, List.set_cons_zero, List.set_cons_succ]
          refine wpAnyH_take (i := 3) (oi := ⟨_, _, _, _, _, _⟩) (v := ?_) rfl (by kernel_rfl) (by kernel_rfl) (by kernel_rfl) (fun _ _ _ h => h) (Or.inl ⟨by rfl, ?_⟩) hHeld ?_
          rotate_left
          · intro w' hSw
            try dsimp only at hSw
            go_simp
            all_goals with_reducible rfl
          simp only [Act.put, List.setIfInBounds_toArray, List.set_cons_zero, List.set_cons_succ]
          refine wpAnyH_take (i := 4) (oi := ⟨_, _, _, _, _, _⟩) (v := ?_) rfl (by kernel_rfl) (by kernel_rfl) (by kernel_rfl) (fun _ _ _ h => h) (Or.inl ⟨by rfl, ?_⟩) hHeld ?_
          rotate_left
          · intro w' hSw
            try dsimp only at hSw
            go_simp
            all_goals with_reducible rfl
          simp only [Act.put, List.setIfInBounds_toArray, List.set_cons_zero, List.set_cons_succ]
          refine wpAnyH_take (i := 5) (oi := ⟨_, _, _, _, _, _⟩) (v := ?_) rfl (by kernel_rfl) (by kernel_rfl) (by kernel_rfl) (fun _ _ _ h => h) (Or.inl ⟨by rfl, ?_⟩) hHeld ?_
          rotate_left
          · intro w' hSw
            try dsimp only at hSw
            go_simp
            all_goals with_reducible rfl
          simp only [Act.put, List.setIfInBounds_toArray, List.set_cons_zero, List.set_cons_succ]
          refine wpAnyH_take (i := 6) (oi := ⟨_, _, _, _, _, _⟩) (v := ?_) rfl (by kernel_rfl) (by kernel_rfl) (by kernel_rfl) (fun _ _ _ h => h) (Or.inl ⟨by rfl, ?_⟩) hHeld ?_
          rotate_left
          · intro w' hSw
            try dsimp only at hSw
            go_simp
            all_goals with_reducible rfl
          simp only [Act.put, List.setIfInBounds_toArray, List.set_cons_zero, List.set_cons_succ]
          refine wpAnyH_take (i := 7) (oi := ⟨_, _, _, _, _, _⟩) (v := ?_) rfl (by kernel_rfl) (by kernel_rfl) (by kernel_rfl) (fun _ _ _ h => h) (Or.inl ⟨by rfl, ?_⟩) hHeld ?_
          rotate_left
          · intro w' hSw
            try dsimp only at hSw
            go_simp
            all_goals with_reducible rfl
          simp only [Act.put, List.setIfInBounds_toArray, List.set_cons_zero, List.set_cons_succ]
          refine wpAnyH_take (i := 8) (oi := ⟨_, _, _, _, _, _⟩) (v := ?_) rfl (by kernel_rfl) (by kernel_rfl) (by kernel_rfl) (fun _ _ _ h => h) (Or.inl ⟨by rfl, ?_⟩) hHeld ?_
          rotate_left
          · intro w' hSw
            try dsimp only at hSw
            go_simp
            all_goals with_reducible rfl
          simp only [Act.put, List.setIfInBounds_toArray, List.set_cons_zero, List.set_cons_succ]
          refine wpAnyH_take (i := 9) (oi := ⟨_, _, _, _, _, _⟩) (v := ?_) rfl (by kernel_rfl) (by kernel_rfl) (by kernel_rfl) (fun _ _ _ h => h) (Or.inl ⟨by rfl, ?_⟩) hHeld ?_
          rotate_left
          · intro w' hSw
            try dsimp only at hSw
            go_simp
            all_goals with_reducible rfl
          simp only [Act.put, List.setIfInBounds_toArray, List.set_cons_zero, List.set_cons_succ]
          refine wpAnyH_take (i := 10) (oi := ⟨_, _, _, _, _, _⟩) (v := ?_) rfl (by kernel_rfl) (by kernel_rfl) (by kernel_rfl) (fun _ _ _ h => h) (Or.inl ⟨by rfl, ?_⟩) hHeld ?_
          rotate_left
          · intro w' hSw
            try dsimp only at hSw
            go_simp
            all_goals with_reducible rfl
          simp only [Act.put, List.setIfInBounds_toArray, List.set_cons_zero, List.set_cons_succ]
          refine wpAnyH_take (i := 11) (oi := ⟨_, _, _, _, _, _⟩) (v := ?_) rfl (by kernel_rfl) (by kernel_rfl) (by kernel_rfl) (fun _ _ _ h => h) (Or.inl ⟨by rfl, ?_⟩) hHeld ?_
          rotate_left
          · intro w' hSw
            try dsimp only at hSw
            go_simp
            all_goals with_reducible rfl
          simp only [Act.put, List.setIfInBounds_toArray, List.set_cons_zero, List.set_cons_succ]
          refine wpAnyH_take (i := 12) (oi := ⟨_, _, _, _, _, _⟩) (v := ?_) rfl (by kernel_rfl) (by kernel_rfl) (by kernel_rfl) (fun _ _ _ h => h) (Or.inl ⟨by rfl, ?_⟩) hHeld ?_
          rotate_left
          · intro w' hSw
            try dsimp only at hSw
            go_simp
            all_goals with_reducible rfl
          simp only [Act.put, List.setIfInBounds_toArray, List.set_cons_zero, List.set_cons_succ]
          refine wpAnyH_take (i := 13) (oi := ⟨_, _, _, _, _, _⟩) (v := ?_) rfl (by kernel_rfl) (by kernel_rfl) (by kernel_rfl) (fun _ _ _ h => h) (Or.inl ⟨by rfl, ?_⟩) hHeld ?_
          rotate_left
          · intro w' hSw
            try dsimp only at hSw
            go_simp
            all_goals with_reducible rfl
          simp only [Act.put, List.setIfInBounds_toArray, List.set_cons_zero, List.set_cons_succ]
          refine wpAnyH_take (i := 14) (oi := ⟨_, _, _, _, _, _⟩) (v := ?_) rfl (by kernel_rfl) (by kernel_rfl) (by kernel_rfl) (fun _ _ _ h => h) (Or.inl ⟨by rfl, ?_⟩) hHeld ?_
          rotate_left
          · intro w' hSw
            try dsimp only at hSw
            go_simp
            all_goals with_reducible rfl
          simp only [Act.put, List.setIfInBounds_toArray, List.set_cons_zero, List.set_cons_succ]
          refine wpAnyH_take (i := 15) (oi := ⟨_, _, _, _, _, _⟩) (v := ?_) rfl (by kernel_rfl) (by kernel_rfl) (by kernel_rfl) (fun _ _ _ h => h) (Or.inl ⟨by rfl, ?_⟩) hHeld ?_
          rotate_left
          · intro w' hSw
            try dsimp only at hSw
            go_simp
            all_goals with_reducible rfl
          simp only [Act.put, List.setIfInBounds_toArray, List.set_cons_zero, List.set_cons_succ]
          refine wpAnyH_take (i := 16) (oi := ⟨_, _, _, _, _, _⟩) (v := ?_) rfl (by kernel_rfl) (by kernel_rfl) (by kernel_rfl) (fun _ _ _ h => h) (Or.inl ⟨by rfl, ?_⟩) hHeld ?_
          rotate_left
          · intro w' hSw
            try dsimp only at hSw
            go_simp
            all_goals with_reducible rfl
          simp only [Act.put, List.setIfInBounds_toArray, List.set_cons_zero, List.set_cons_succ]
          refine wpAnyH_take (i := 17) (oi := ⟨_, _, _, _, _, _⟩) (v := ?_) rfl (by kernel_rfl) (by kernel_rfl) (by kernel_rfl) (fun _ _ _ h => h) (Or.inl ⟨by rfl, ?_⟩) hHeld ?_
          rotate_left
          · intro w' hSw
            try dsimp only at hSw
            go_simp
            all_goals with_reducible rfl
          simp only [Act.put, List.setIfInBounds_toArray, List.set_cons_zero, List.set_cons_succ]
          refine wpAnyH_take (i := 18) (oi := ⟨_, _, _, _, _, _⟩) (v := ?_) rfl (by kernel_rfl) (by kernel_rfl) (by kernel_rfl) (fun _ _ _ h => h) (Or.inl ⟨by rfl, ?_⟩) hHeld ?_
          rotate_left
          · intro w' hSw
            try dsimp only at hSw
            go_simp
            all_goals with_reducible rfl
          simp only [Act.put, List.setIfInBounds_toArray, List.set_cons_zero, List.set_cons_succ]
          refine wpAnyH_take (i := 19) (oi := ⟨_, _, _, _, _, _⟩) (v := ?_) rfl (by kernel_rfl) (by kernel_rfl) (by kernel_rfl) (fun _ _ _ h => h) (Or.inl ⟨by rfl, ?_⟩) hHeld ?_
          rotate_left
          · intro w' hSw
            try dsimp only at hSw
            go_simp
            all_goals with_reducible rfl
          simp only [Act.put, List.setIfInBounds_toArray, List.set_cons_zero, List.set_cons_succ]
          refine wpAnyH_take (i := 20) (oi := ⟨_, _, _, _, _, _⟩) (v := ?_) rfl (by kernel_rfl) (by kernel_rfl) (by kernel_rfl) (fun _ _ _ h => h) (Or.inl ⟨by rfl, ?_⟩) hHeld ?_
          rotate_left
          · intro w' hSw
            try dsimp only at hSw
            go_simp
            all_goals with_reducible rfl
          simp only [Act.put, List.setIfInBounds_toArray, List.set_cons_zero, List.set_cons_succ]
          refine wpAnyH_take (i := 22) (oi := ⟨_, _, _, _, _, _⟩) (v := ?_) rfl (by kernel_rfl) (by kernel_rfl) (by kernel_rfl) (fun _ _ _ h => h) (Or.inl ⟨by rfl, ?_⟩) hHeld ?_
          rotate_left
          · intro w' hSw
            try dsimp only at hSw
            go_simp
            all_goals with_reducible rfl
          simp only [Act.put, List.setIfInBounds_toArray, List.set_cons_zero, List.set_cons_succ]
          refine wpAnyH_take (i := 23) (oi := ⟨_, _, _, _, _, _⟩) (v := ?_) rfl (by kernel_rfl) (by kernel_rfl) (by kernel_rfl) (fun _ _ _ h => h) (Or.inl ⟨by rfl, ?_⟩) hHeld ?_
          rotate_left
          · intro w' hSw
            try dsimp only at hSw
            go_simp
            all_goals with_reducible rfl
          simp only [Act.put, List.setIfInBounds_toArray, List.set_cons_zero, List.set_cons_succ]
          refine wpAnyH_ready (rs := [21]) (by kernel_rfl) (by simp) ?_
          refine AllReadyH.cons (o := ⟨_, _, _, _, _, _⟩) rfl (fun K hK => ?_) AllReadyH.nil
          go_simp
          refine (S.same _ _ p q _ (Z13.out.next (Below.refl _ _).drew).px.pk.ok SP.out SQ.out ((Z13.out.next (Below.refl _ _).drew).px.r7 Hn.out HN.out) (Z13.out.next (Below.refl _ _).drew).px.pk.r3).mono ?_
          rintro e w14 ⟨he, b8⟩
          rw [PT.out] at he
          subst he
          have Z14 := Hid.of (Z13.out.next ((Below.refl _ _).drew.trans b8))
          clear b8 d0 d1 d2 d3 d4 d5 d6 d7 hHeld
          obtain ⟨d0, d1, d2, d3, d4, d5, d6, d7⟩ := Z14.out.at
          refine hK.out _ _ ⟨d0, d1, d2, d3, d4, d5, d6, d7⟩ (fun hHeld => ?_)
          clear hK K
          refine wpAnyH_ready (rs := [24]) (by kernel_rfl) (by simp) ?_
          refine AllReadyH.cons (o := ⟨_, _, _, _, _, _⟩) rfl (fun K hK => ?_) AllReadyH.nil
          go_simp
          refine (refSame_any _ _ p q _ Z14.out.px.pk.r2 Z14.out.px.pk.r3 SP.out.1 SQ.out.1).mono ?_
          rintro e w15 ⟨he, b8⟩
          rw [pSame, PT.out] at he
          subst he
          have Z15 := Hid.of (Z14.out.next b8)
          clear b8 d0 d1 d2 d3 d4 d5 d6 d7 hHeld
          obtain ⟨d0, d1, d2, d3, d4, d5, d6, d7⟩ := Z15.out.at
          refine hK.out _ _ ⟨d0, d1, d2, d3, d4, d5, d6, d7⟩ (fun hHeld => ?_)
          clear hK K
          refine wpAnyH_take (i := 25) (oi := ⟨_, _, _, _, _, _⟩) (v := ?_) rfl (by kernel_rfl) (by kernel_rfl) (by kernel_rfl) (fun _ _ _ h => h) (Or.inl ⟨by rfl, ?_⟩) hHeld ?_
          rotate_left
          · intro w' hSw
            try dsimp only at hSw
            go_simp
            all_goals with_reducible rfl
          simp only [Act.put, List.setIfInBounds_toArray, List.set_cons_zero, List.set_cons_succ]
          refine wpAnyH_take (i := 26) (oi := ⟨_, _, _, _, _, _⟩) (v := ?_) rfl (by kernel_rfl) (by kernel_rfl) (by kernel_rfl) (fun _ _ _ h => h) (Or.inl ⟨by rfl, ?_⟩) hHeld ?_
          rotate_left
          · intro w' hSw
            try dsimp only at hSw
            go_simp
            all_goals with_reducible rfl
          simp only [Act.put, List.setIfInBounds_toArray, List.set_cons_zero, List.set_cons_succ]
          refine wpAnyH_take (i := 27) (oi := ⟨_, _, _, _, _, _⟩) (v := ?_) rfl (by kernel_rfl) (by kernel_rfl) (by kernel_rfl) (fun _ _ _ h => h) (Or.inl ⟨by rfl, ?_⟩) hHeld ?_
          rotate_left
          · intro w' hSw
            try dsimp only at hSw
            go_simp
            all_goals with_reducible rfl
          simp only [Act.put, List.setIfInBounds_toArray, List.set_cons_zero, List.set_cons_succ]
          refine wpAnyH_take (i := 28) (oi := ⟨_, _, _, _, _, _⟩) (v := ?_) rfl (by kernel_rfl) (by kernel_rfl) (by kernel_rfl) (fun _ _ _ h => h) (Or.inl ⟨by rfl, ?_⟩) hHeld ?_
          rotate_left
          · intro w' hSw
            try dsimp only at hSw
            go_simp
            all_goals with_reducible rfl
          simp only [Act.put, List.setIfInBounds_toArray, List.set_cons_zero, List.set_cons_succ]
          refine wpAnyH_take (i := 29) (oi := ⟨_, _, _, _, _, _⟩) (v := ?_) rfl (by kernel_rfl) (by kernel_rfl) (by kernel_rfl) (fun _ _ _ h => h) (Or.inl ⟨by rfl, ?_⟩) hHeld ?_
          rotate_left
          · intro w' hSw
            try dsimp only at hSw
            go_simp
            all_goals with_reducible rfl
          simp only [Act.put, List.setIfInBounds_toArray, List.set_cons_zero, List.set_cons_succ]
          refine wpAnyH_ready (rs := [30]) (by kernel_rfl) (by simp) ?_
          refine AllReadyH.cons (o := ⟨_, _, _, _, _, _⟩) rfl (fun K hK => ?_) AllReadyH.nil
          go_simp
          refine (S.same _ _ p p _ Z15.out.px.pk.ok SP.out SP.out (Z15.out.px.r7 Hn.out HN.out) Z15.out.px.pk.r2).mono ?_
          rintro e w16 ⟨he, b8⟩
          rw [decide_eq_true (rfl : p = p)] at he
          subst he
          have Z16 := Hid.of (Z15.out.next b8)
          clear b8 d0 d1 d2 d3 d4 d5 d6 d7 hHeld
          obtain ⟨d0, d1, d2, d3, d4, d5, d6, d7⟩ := Z16.out.at
          refine hK.out _ _ ⟨d0, d1, d2, d3, d4, d5, d6, d7⟩ (fun hHeld => ?_)
          clear hK K
          refine wpAnyH_take (i := 31) (oi := ⟨_, _, _, _, _, _⟩) (v := ?_) rfl (by kernel_rfl) (by kernel_rfl) (by kernel_rfl) (fun _ _ _ h => h) (Or.inl ⟨by rfl, ?_⟩) hHeld ?_
          rotate_left
          · intro w' hSw
            try dsimp only at hSw
            go_simp
            all_goals with_reducible rfl
          simp only [Act.put, List.setIfInBounds_toArray, List.set_cons_zero, List.set_cons_succ]
          refine wpAnyH_take (i := 32) (oi := ⟨_, _, _, _, _, _⟩) (v := ?_) rfl (by kernel_rfl) (by kernel_rfl) (by kernel_rfl) (fun _ _ _ h => h) (Or.inl ⟨by rfl, ?_⟩) hHeld ?_
          rotate_left
          · intro w' hSw
            try dsimp only at hSw
            go_simp
            all_goals with_reducible rfl
          simp only [Act.put, List.setIfInBounds_toArray, List.set_cons_zero, List.set_cons_succ]
          refine wpAnyH_take (i := 33) (oi := ⟨_, _, _, _, _, _⟩) (v := ?_) rfl (by kernel_rfl) (by kernel_rfl) (by kernel_rfl) (fun _ _ _ h => h) (Or.inl ⟨by rfl, ?_⟩) hHeld ?_
          rotate_left
          · intro w' hSw
            try dsimp only at hSw
            go_simp
            all_goals with_reducible rfl
          simp only [Act.put, List.setIfInBounds_toArray, List.set_cons_zero, List.set_cons_succ]
          refine wpAnyH_take (i := 34) (oi := ⟨_, _, _, _, _, _⟩) (v := ?_) rfl (by kernel_rfl) (by kernel_rfl) (by kernel_rfl) (fun _ _ _ h => h) (Or.inl ⟨by rfl, ?_⟩) hHeld ?_
          rotate_left
          · intro w' hSw
            try dsimp only at hSw
            go_simp
            all_goals with_reducible rfl
          simp only [Act.put, List.setIfInBounds_toArray, List.set_cons_zero, List.set_cons_succ]
          refine wpAnyH_take (i := 35) (oi := ⟨_, _, _, _, _, _⟩) (v := ?_) rfl (by kernel_rfl) (by kernel_rfl) (by kernel_rfl) (fun _ _ _ h => h) (Or.inl ⟨by rfl, ?_⟩) hHeld ?_
          rotate_left
          · intro w' hSw
            try dsimp only at hSw
            go_simp
            all_goals with_reducible rfl
          simp only [Act.put, List.setIfInBounds_toArray, List.set_cons_zero, List.set_cons_succ]
          refine wpAnyH_ready (rs := [36]) (by kernel_rfl) (by simp) ?_
          refine AllReadyH.cons (o := ⟨_, _, _, _, _, _⟩) rfl (fun K hK => ?_) AllReadyH.nil
          go_simp
          refine (refSame_any _ _ p p _ (Z16.out.r16 Hn.out HN.out) Z16.out.px.pk.r2 SP.out.1 SP.out.1).mono ?_
          rintro e w17 ⟨he, b8⟩
          rw [pSame, decide_eq_true (rfl : p = p)] at he
          subst he
          have Z17 := Hid.of (Z16.out.next b8)
          clear b8 d0 d1 d2 d3 d4 d5 d6 d7 hHeld
          obtain ⟨d0, d1, d2, d3, d4, d5, d6, d7⟩ := Z17.out.at
          refine hK.out _ _ ⟨d0, d1, d2, d3, d4, d5, d6, d7⟩ (fun hHeld => ?_)
          clear hK K
          refine wpAnyH_take (i := 37) (oi := ⟨_, _, _, _, _, _⟩) (v := ?_) rfl (by kernel_rfl) (by kernel_rfl) (by kernel_rfl) (fun _ _ _ h => h) (Or.inl ⟨by rfl, ?_⟩) hHeld ?_
          rotate_left
          · intro w' hSw
            try dsimp only at hSw
            go_simp
            all_goals with_reducible rfl
          simp only [Act.put, List.setIfInBounds_toArray, List.set_cons_zero, List.set_cons_succ]
          refine wpAnyH_take (i := 38) (oi := ⟨_, _, _, _, _, _⟩) (v := ?_) rfl (by kernel_rfl) (by kernel_rfl) (by kernel_rfl) (fun _ _ _ h => h) (Or.inl ⟨by rfl, ?_⟩) hHeld ?_
          rotate_left
          · intro w' hSw
            try dsimp only at hSw
            go_simp
            all_goals with_reducible rfl
          simp only [Act.put, List.setIfInBounds_toArray, List.set_cons_zero, List.set_cons_succ]
          refine wpAnyH_take (i := 39) (oi := ⟨_, _, _, _, _, _⟩) (v := ?_) rfl (by kernel_rfl) (by kernel_rfl) (by kernel_rfl) (fun _ _ _ h => h) (Or.inl ⟨by rfl, ?_⟩) hHeld ?_
          rotate_left
          · intro w' hSw
            try dsimp only at hSw
            go_simp
            all_goals with_reducible rfl
          simp only [Act.put, List.setIfInBounds_toArray, List.set_cons_zero, List.set_cons_succ]
          refine wpAnyH_take (i := 40) (oi := ⟨_, _, _, _, _, _⟩) (v := ?_) rfl (by kernel_rfl) (by kernel_rfl) (by kernel_rfl) (fun _ _ _ h => h) (Or.inl ⟨by rfl, ?_⟩) hHeld ?_
          rotate_left
          · intro w' hSw
            try dsimp only at hSw
            go_simp
            all_goals with_reducible rfl
          simp only [Act.put, List.setIfInBounds_toArray, List.set_cons_zero, List.set_cons_succ]
          refine wpAnyH_take (i := 41) (oi := ⟨_, _, _, _, _, _⟩) (v := ?_) rfl (by kernel_rfl) (by kernel_rfl) (by kernel_rfl) (fun _ _ _ h => h) (Or.inl ⟨by rfl, ?_⟩) hHeld ?_
          rotate_left
          · intro w' hSw
            try dsimp only at hSw
            go_simp
            all_goals with_reducible rfl
          simp only [Act.put, List.setIfInBounds_toArray, List.set_cons_zero, List.set_cons_succ]
          refine wpAnyH_take (i := 42) (oi := ⟨_, _, _, _, _, _⟩) (v := ?_) rfl (by kernel_rfl) (by kernel_rfl) (by kernel_rfl) (fun _ _ _ h => h) (Or.inl ⟨by rfl, ?_⟩) hHeld ?_
          rotate_left
          · intro w' hSw
            try dsimp only at hSw
            go_simp
            all_goals with_reducible rfl
          simp only [Act.put, List.setIfInBounds_toArray, List.set_cons_zero, List.set_cons_succ]
          refine wpAnyH_take (i := 43) (oi := ⟨_, _, _, _, _, _⟩) (v := ?_) rfl (by kernel_rfl) (by kernel_rfl) (by kernel_rfl) (fun _ _ _ h => h) (Or.inl ⟨by rfl, ?_⟩) hHeld ?_
          rotate_left
          · intro w' hSw
            try dsimp only at hSw
            go_simp
            all_goals with_reducible rfl
          simp only [Act.put, List.setIfInBounds_toArray, List.set_cons_zero, List.set_cons_succ]
          refine wpAnyH_ready (rs := [44]) (by kernel_rfl) (by simp) ?_
          refine AllReadyH.cons (o := ⟨_, _, _, _, _, _⟩) rfl (fun K hK => ?_) AllReadyH.nil
          go_simp
          refine (StaysTiers_any (w3.heap.size + 1) _ _ p.2 _ (by rw [HN.out]; exact Z17.out.px.rl) (by have h := Z17.out.px.pk.r2; obtain ⟨s, hs, hr, -⟩ := h; unfold polVal at hs; simp only [Value.agg.injEq] at hs; cases hs; exact hr) SP.out.1).mono ?_
          rintro e w18 ⟨rfl, b8⟩
          have Z18 := Hid.of (Z17.out.next b8)
          clear b8 d0 d1 d2 d3 d4 d5 d6 d7 hHeld
          obtain ⟨d0, d1, d2, d3, d4, d5, d6, d7⟩ := Z18.out.at
          refine hK.out _ _ ⟨d0, d1, d2, d3, d4, d5, d6, d7⟩ (fun hHeld => ?_)
          clear hK K
          refine wpAnyH_take (i := 45) (oi := ⟨_, _, _, _, _, _⟩) (v := ?_) rfl (by kernel_rfl) (by kernel_rfl) (by kernel_rfl) (fun _ _ _ h => h) (Or.inl ⟨by rfl, ?_⟩) hHeld ?_
          rotate_left
          · intro w' hSw
            try dsimp only at hSw
            go_simp
            all_goals with_reducible rfl
          simp only [Act.put, List.setIfInBounds_toArray, List.set_cons_zero, List.set_cons_succ]
          refine wpAnyH_take (i := 46) (oi := ⟨_, _, _, _, _, _⟩) (v := ?_) rfl (by kernel_rfl) (by kernel_rfl) (by kernel_rfl) (fun _ _ _ h => h) (Or.inl ⟨by rfl, ?_⟩) hHeld ?_
          rotate_left
          · intro w' hSw
            try dsimp only at hSw
            go_simp
            all_goals with_reducible rfl
          simp only [Act.put, List.setIfInBounds_toArray, List.set_cons_zero, List.set_cons_succ]
          refine wpAnyH_done (by kernel_rfl) ?_ _
          refine NoPanic.normal ?_
          go_wp2
          go_roundw
          case rel => exact ⟨k + 1, V', W', _, by omega, by go_num, Hid.of (Z18.out.px.bk.sublist ((List.Sublist.refl _).append (List.nil_sublist _))), Hid.of (by rw [List.length_append]; have := LS.out; simp; omega), Hid.of (fun y hy => by
            rw [List.mem_append] at hy
            rcases hy with hy | hy
            · exact LL.out y hy
            · simp only [List.mem_singleton] at hy
              rw [hy]
              have := SM.out.1
              simp only
              omega)⟩
          case measure => simp [RowKit.intOf]; omega
        · have k1 : ¬ (k : Int) < 2 := by omega
          go_wp2_with fail
          refine (polAlive_any S _ P.out.ok).mono ?_
          rintro e w5 ⟨rfl, b5⟩
          have J5 := Hid.of (J.out.next b5)
          clear b5 J
          go_wp2_with fail
          refine (Apart_P w3.heap.size (w3.heap.size + 1) V W ls [] 37 w3 _ (by have := LS.out; omega) LL.out J5.out).mono ?_
          rintro e w6 ⟨rfl, b6⟩
          go_wp2
          go_ret
          exact ⟨rfl, B3.out.trans (b6.mono B3.out.size)⟩

end Go.Proofs.YtadepjpmpjipmaaGreatDoor
