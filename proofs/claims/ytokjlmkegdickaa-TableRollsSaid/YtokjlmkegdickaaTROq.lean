/-
  TableRolls: rolled in two steps it is as at once; of what is not left out nothing is lost.
-/
import Derived.Test.YtokjlmkegdickaaTRMq
import Derived.Test.YtokjlmkegdickaaAGQq
import Derived.Test.YtokjlmkegdickaaGXq
namespace Go.Proofs.Ytokjlmkegdickaa
open Go.RowKit Go.Lib

/-- A table that was made of another one. -/
theorem THere.made {S : TableSpec} {B p q : Nat} {w0 w w' : World} {e e' : Int} {l l' : List TRec} {F G : TFoot} (h : THere S B w0 w p e l F) (r : S.Rep w' q e' l' G) (g : ∀ k, G.all k → F.all k ∨ w.heap.size ≤ k) (b : Below w.heap.size w w') : THere S B w0 w' q e' l' G :=
  ⟨r, fun k hk => by
    rcases g k hk with c | c
    · exact h.ge k c
    · exact Nat.le_trans h.hB c, Nat.le_trans h.hB b.size, h.fr.trans (b.mono h.hB)⟩

set_option maxRecDepth 20000 in
set_option maxHeartbeats 6400000 in
theorem tableRolls_main (S : TableSpec) (v : Value) (rs : List TRec) (a b f : Int) (w : World) (hv : CellRow w v rs.length (flat renc (rs.map rl))) (hr : ∀ r ∈ rs, TFit r) (hf : TIn64 f) :
    Calls Try.prog 4 #[v, .int .i64 a, .int .i64 b, .int .i64 f] w fun e w' => e = .returned (.bool true) ∧ Below w.heap.size w w' := by
  have hl : (rs.map rl).length = rs.length := List.length_map ..
  have HV0 := Hid.of (show CellRow w v (rs.map rl).length (flat renc (rs.map rl)) by rw [hl]; exact hv)
  have HV := Hid.of hv
  have OFF : Hid (∀ (F : TFoot), (∀ k, F.all k → w.heap.size ≤ k) → (∀ k, F.own k → F.all k) → rs ≠ [] → Off F.own v) := Hid.of (fun F h1 h2 hne g hg hF => by
    obtain ⟨a, c, rfl, hc⟩ := HV.out
    rcases hc with hc | ⟨b, o, rfl, hlt, _⟩
    · have := flat_length renc_len (rs.map rl)
      rw [hc, hl] at this
      simp at this
      exact hne (List.eq_nil_of_length_eq_zero (by omega))
    · simp [Value.ownBlock] at hg
      have := h1 g (h2 g hF)
      omega)
  have HR := Hid.of hr
  have HF := Hid.of hf
  clear hv hr hl hf
  go_enter Try.func4, Try.ntmps4
  go_wp2_with fail
  refine (Few_any 40 v _ w HV0.out (by decide)).mono ?_
  rintro e w1 ⟨r, rfl, hf, b1⟩
  have B1 := Hid.of b1
  clear b1
  have ALV : Hid (Calls Try.prog 9 #[] w1 fun e w' => e = .returned (.bool true) ∧ Below w.heap.size w w') := Hid.of (by
    refine (tableAlive_any S w1).mono ?_
    rintro e w' ⟨he, b⟩
    exact ⟨he, B1.out.trans (b.mono B1.out.size)⟩)
  cases r with
  | false =>
    go_wp2_with fail
    refine ALV.out.mono ?_
    rintro e w2 ⟨rfl, b2⟩
    go_wp2
    go_ret
    exact ⟨rfl, b2⟩
  | true =>
    have RF : Hid (rs.length ≤ 40) := Hid.of (by have := (hf.out rfl).1; rwa [List.length_map] at this)
    clear hf
    by_cases hbad : a < 1 ∨ (¬ a < 1 ∧ 1000 < a) ∨ (¬ a < 1 ∧ ¬ 1000 < a ∧ b < 1) ∨ (¬ a < 1 ∧ ¬ 1000 < a ∧ ¬ b < 1 ∧ 1000 < b) ∨ (¬ a < 1 ∧ ¬ 1000 < a ∧ ¬ b < 1 ∧ ¬ 1000 < b ∧ f < 0)
    · rcases hbad with h1 | ⟨h1, h2⟩ | ⟨h1, h2, h3⟩ | ⟨h1, h2, h3, h4⟩ | ⟨h1, h2, h3, h4, h5⟩
      all_goals
        go_wp2_with fail
        refine ALV.out.mono ?_
        rintro e w3 ⟨rfl, b3⟩
        go_wp2
        go_ret
        exact ⟨rfl, b3⟩
    · obtain ⟨h1, h2, h3, h4, h5⟩ : ¬ a < 1 ∧ ¬ 1000 < a ∧ ¬ b < 1 ∧ ¬ 1000 < b ∧ ¬ f < 0 := by omega
      have A1 : Hid (1 ≤ a ∧ a ≤ 1000 ∧ 1 ≤ b ∧ b ≤ 1000 ∧ 0 ≤ f) := Hid.of (by omega)
      clear hbad ALV
      go_wp2_with fail
      clear h1 h2 h3 h4 h5
      obtain ⟨ab, hab⟩ : ∃ ab, a * b = ab := ⟨_, rfl⟩
      have AB : Hid (1 ≤ ab ∧ ab ≤ 1000000) := Hid.of (by
        obtain ⟨a1, a2, a3, a4, _⟩ := A1.out
        have m1 : 1 * 1 ≤ a * b := Int.mul_le_mul a1 a3 (by omega) (by omega)
        have m2 : a * b ≤ 1000 * 1000 := Int.mul_le_mul a2 a4 (by omega) (by omega)
        omega)
      have HAB := Hid.of hab
      have W1 : IntKind.i64.wrap (a * b) = ab := by
        have := AB.out
        rw [hab]
        simp [IntKind.wrap, IntKind.bits, IntKind.signed]
        omega
      have W2 : wrap64 (a * b) = ab := by
        have := AB.out
        rw [hab]
        unfold wrap64
        omega
      clear hab
      have AI : Hid (TIn64 a) := Hid.of (by have := A1.out; unfold TIn64; omega)
      have ABI : Hid (TIn64 ab) := Hid.of (by have := AB.out; unfold TIn64; omega)
      have ZI : Hid (TIn64 0) := Hid.of (by unfold TIn64; omega)
      refine (S.new 1 _ (by unfold TIn64; decide)).mono ?_
      rintro e w2 ⟨p, F, rfl, rep, hF, b2⟩
      rw [show max (1 : Int) 1 = 1 by decide] at rep
      have T2 : Hid (THere S w.heap.size w w2 p 1 [] F) := Hid.of ⟨rep, fun k hk => Nat.le_trans B1.out.size (hF k hk), Nat.le_trans B1.out.size b2.size, B1.out.trans (b2.mono B1.out.size)⟩
      have V2 := Hid.of (HV.out.kept (B1.out.trans (b2.mono B1.out.size)))
      clear rep hF b2 B1
      go_wp2_with fail
      refine (S.add v rs T2.out.rep (by show 0 + rs.length ≤ 1000; have := RF.out; omega) V2.out (OFF.out F T2.out.ge (S.sub T2.out.rep)) HR.out).mono ?_
      rintro e w3 ⟨rfl, F3, rep3, st3⟩
      have hL := tAdds_len 1 [] rs
      have MD0 := made_of (e := 1) HR.out
      obtain ⟨L, hLe⟩ : ∃ L, tAdds 1 [] rs = L := ⟨_, rfl⟩
      rw [hLe] at rep3 hL MD0
      have MD := Hid.of MD0
      have T3 := Hid.of (T2.out.step rep3 st3)
      have L40 : Hid (L.length ≤ 40) := Hid.of (by have := RF.out; simp at hL; omega)
      clear rep3 st3 T2 V2 hL hLe MD0
      go_wp2_with fail
      try rw [W1]
      try rw [W2]
      refine (S.roll ab 0 T3.out.rep (by have := L40.out; omega) ABI.out ZI.out).mono ?_
      rintro e w4 ⟨p4, G4, rfl, r4, -, g4, b4⟩
      have T4 := Hid.of (T3.out.next b4)
      have U4 := Hid.of (T3.out.made r4 g4 b4)
      clear r4 g4 b4 T3
      go_wp2_with fail
      refine (S.roll a 0 T4.out.rep (by have := L40.out; omega) AI.out ZI.out).mono ?_
      rintro e w5 ⟨p5, G5, rfl, r5, -, g5, b5⟩
      have T5 := Hid.of (T4.out.next b5)
      have U5 := Hid.of (U4.out.next b5)
      have X5 := Hid.of (T4.out.made r5 g5 b5)
      clear r5 g5 b5 T4 U4
      go_wp2_with fail
      try rw [W1]
      try rw [W2]
      refine (S.roll ab 0 X5.out.rep (by have := L40.out; have := roll_len 1 L a 0; omega) ABI.out ZI.out).mono ?_
      rintro e w6 ⟨p6, G6, rfl, r6, -, g6, b6⟩
      have T6 := Hid.of (T5.out.next b6)
      have U6 := Hid.of (U5.out.next b6)
      have Y6 := Hid.of (X5.out.made r6 g6 b6)
      clear r6 g6 b6 T5 U5 X5
      go_wp2_with fail
      refine (S.roll a f T6.out.rep (by have := L40.out; omega) AI.out HF.out).mono ?_
      rintro e w7 ⟨p7, G7, rfl, r7, -, g7, b7⟩
      have T7 := Hid.of (T6.out.next b7)
      have U7 := Hid.of (U6.out.next b7)
      have Y7 := Hid.of (Y6.out.next b7)
      have C7 := Hid.of (T6.out.made r7 g7 b7)
      clear r7 g7 b7 T6 U6 Y6
      have SAME : Hid (tRoll (max a 1) (tRoll 1 L a 0) ab 0 = tRoll 1 L ab 0) := Hid.of (by
        rw [show max a 1 = a by have := A1.out; omega, ← HAB.out]
        exact roll_twice MD.out A1.out.1 A1.out.2.2.1)
      obtain ⟨R, hR⟩ : ∃ R, tRoll 1 L ab 0 = R := ⟨_, rfl⟩
      have R40 : Hid (R.length ≤ 40) := Hid.of (by rw [← hR]; have := roll_len 1 L ab 0; have := L40.out; omega)
      rw [SAME.out, hR] at Y7
      rw [hR] at U7
      clear hR SAME
      go_wp2_with fail
      refine (S.all U7.out.rep (by have := R40.out; omega)).mono ?_
      rintro e w8 ⟨u8, rfl, o8, b8⟩
      have T8 := Hid.of (T7.out.next b8)
      have Y8 := Hid.of (Y7.out.next b8)
      have C8 := Hid.of (C7.out.next b8)
      have O8 := Hid.of o8
      clear o8 b8 T7 U7 Y7 C7
      go_wp2_with fail
      refine (S.all Y8.out.rep (by have := R40.out; omega)).mono ?_
      rintro e w9 ⟨u9, rfl, o9, b9⟩
      have T9 := Hid.of (T8.out.next b9)
      have C9 := Hid.of (C8.out.next b9)
      have K1 := Hid.of (own_row ((Step.of_below (F := fun _ => False) b9).own O8.out (fun _ _ c => c)))
      have K2 := Hid.of (own_row o9)
      clear o9 b9 T8 Y8 C8 O8
      go_wp2_with fail
      refine (SameRecords_quiet _ _ (R.map rl) _ (by rw [List.length_map]; exact K1.out) (by rw [List.length_map]; exact K2.out) (by rw [List.length_map]; have := R40.out; omega)).mono ?_
      rintro e w10 ⟨rfl, q, rfl⟩
      have T10 := Hid.of (T9.out.next (below_drewN (Below.refl _ _) q))
      have C10 := Hid.of (C9.out.next (below_drewN (Below.refl _ _) q))
      generalize w9.drewN q = w10 at *
      clear T9 C9 K1 K2
      go_wp2_with fail
      refine (S.all T10.out.rep (by have := L40.out; omega)).mono ?_
      rintro e w11 ⟨u11, rfl, o11, b11⟩
      have C11 := Hid.of (C10.out.next b11)
      have O11 := Hid.of o11
      clear o11 b11 T10 C10
      obtain ⟨Q, hQ⟩ : ∃ Q, tRoll 1 L a f = Q := ⟨_, rfl⟩
      have CF := cut_facts (f := f) MD.out A1.out.1
      have QL := roll_len 1 L a f
      rw [hQ] at C11 CF QL
      have CFH := Hid.of CF
      clear hQ CF
      go_wp2_with fail
      refine (S.all C11.out.rep (by have := L40.out; omega)).mono ?_
      rintro e w12 ⟨u12, rfl, o12, b12⟩
      have FR12 := Hid.of ((C11.out.next b12).fr)
      have SZ12 := Hid.of ((C11.out.next b12).hB)
      have R1 := Hid.of (own_row ((Step.of_below (F := fun _ => False) b12).own O11.out (fun _ _ c => c)))
      have R2 := Hid.of (own_row o12)
      obtain ⟨ua, uc, rfl, -⟩ := own_one O11.out
      obtain ⟨u2a, u2c, rfl, -⟩ := own_one o12
      clear o12 b12 O11 C11
      obtain ⟨K, hK⟩ : ∃ K, Q.length = K := ⟨_, rfl⟩
      obtain ⟨N, hN⟩ : ∃ N, L.length = N := ⟨_, rfl⟩
      have HK := Hid.of hK
      have HN := Hid.of hN
      rw [hK] at R2 ⊢
      rw [hN] at L40 R1 ⊢
      have n9 : N ≤ 40 := L40.out
      have k9 : K ≤ 40 := by rw [hK, hN] at QL; omega
      clear hK hN QL
      go_upto_region 17 with fail
      obtain ⟨w13, hw13⟩ : ∃ w13, (w12.alloc (.cells #[.int .i64 0, .int .i64 0, .int .u64 0, .int .i64 0, .int .i64 0] 24)).alloc (.cells #[.int .i64 0, .int .i64 0, .int .u64 0, .int .i64 0, .int .i64 0] 24) = w13 := ⟨_, rfl⟩
      have P13 : Hid (AgBlk w13 w12.heap.size agZero) := Hid.of (by rw [← hw13]; exact (AgBlk.new w12 agZero).alloc _)
      have Q13 : Hid (AgBlk w13 (w12.heap.size + 1) agZero) := Hid.of (by rw [← hw13]; exact AgBlk.made _ _ _ _ (by simp) rfl)
      have B13 : Hid (Below w12.heap.size w12 w13) := Hid.of (by rw [← hw13]; exact ((Below.refl _ _).alloc (Nat.le_refl _) _).alloc (by simp) _)
      rw [hw13]
      clear hw13
      obtain ⟨bp, hbp⟩ : ∃ bp, w12.heap.size = bp := ⟨_, rfl⟩
      have HBP := Hid.of hbp
      rw [hbp] at P13 Q13
      clear hbp
      obtain ⟨P, hP⟩ : ∃ P : TKey → Bool, (fun k => decide (f ≤ gFloor k.2 a)) = P := ⟨_, rfl⟩
      have HP := Hid.of hP
      rw [hP] at CFH
      clear hP W1 W2
      have ne01 : bp ≠ bp + 1 := by omega
      have ne10 : bp + 1 ≠ bp := by omega
      have NE := Hid.of ne01
      have NE2 := Hid.of ne10
      clear ne01 ne10
      rw [HBP.out]
      go_wp2
      go_loopw [18] (fun iv wr => ∃ i : Nat, i ≤ N ∧ iv = .int .i64 i ∧ Hid (AgBlk wr bp (tW P (L.take i))) ∧ Hid (AgBlk wr (bp + 1) agZero) ∧ Hid (Below w12.heap.size w12 wr)) (fun iv _ => N - (RowKit.intOf iv).toNat)
      case atStart => exact ⟨0, Nat.zero_le _, rfl, P13, Q13, B13⟩
      case round =>
        clear P13 Q13 B13
        obtain ⟨i, hi, rfl, PB, QB, HB⟩ := hrel
        have i0 : (0 : Int) ≤ (i : Int) := Int.natCast_nonneg _
        by_cases hlt : i < N
        · have i1 : (i : Int) < (N : Int) := by omega
          obtain ⟨x, hx⟩ : ∃ x, L[i]? = some x := ⟨_, List.getElem?_eq_getElem (by rw [HN.out]; exact hlt)⟩
          have hm := List.mem_of_getElem? hx
          have XS := Hid.of (MD.out.s64 x hm)
          have XG := Hid.of (MD.out.al x hm)
          have NX := Hid.of (tW_next (P := P) hx)
          obtain ⟨b1, o1, rfl, hl1, hr1⟩ := r_at R1.out i (rl x) (by rw [List.getElem?_map, hx]; rfl)
          have QQ : Hid (∀ w9, Below w12.heap.size w12 w9 → rAt w9 b1 (o1 + i * 7) (rl x)) := Hid.of (fun w9 b9 => by
            obtain ⟨x0, x1, x2, x3, x4, x5, x6⟩ := hr1
            refine ⟨?_, ?_, ?_, ?_, ?_, ?_, ?_⟩ <;> rw [b9.cell hl1] <;> assumption)
          have PK : Hid (P x.k = decide (f ≤ gFloor x.s a)) := Hid.of (by rw [← HP.out]; rfl)
          clear hx hm hl1 hr1
          obtain ⟨x0, x1, x2, x3, x4, x5, x6⟩ := QQ.out _ HB.out
          simp only [rl] at x0 x1 x2 x3 x4 x5 x6
          go_wp2_with fail
          refine (refFloor_any x.s a XS.out AI.out _).mono ?_
          rintro e wf ⟨rfl, q2, rfl⟩
          have PB2 := Hid.of (PB.out.kept (below_drewN (Below.refl _ _) q2))
          have QB2 := Hid.of (QB.out.kept (below_drewN (Below.refl _ _) q2))
          have HB2 := Hid.of (below_drewN HB.out q2)
          generalize wr.drewN q2 = wf at *
          clear PB QB HB x0 x1 x2 x3 x4 x5 x6
          obtain ⟨fl, hfl⟩ : ∃ fl, gFloor x.s a = fl := ⟨_, rfl⟩
          rw [hfl] at PK ⊢
          by_cases hff : f ≤ fl
          · have hge : fl ≥ f := hff
            rw [decide_eq_true hff] at PK
            obtain ⟨g, hg⟩ : ∃ g, tW P (L.take i) = g := ⟨_, rfl⟩
            have GG : Hid (AgGood g) := Hid.of (by rw [← hg]; exact tW_good (fun y hy => MD.out.al y (List.mem_of_mem_take hy)))
            have NG : Hid (tW P (L.take (i + 1)) = agJoin g x.a) := Hid.of (by rw [NX.out, if_pos PK.out, hg])
            rw [hg] at PB2
            clear hg
            go_upto_region 21 with fail
            obtain ⟨c0, c1, c2, c3, c4⟩ := PB2.out.at
            obtain ⟨-, -, x2, x3, x4, x5, x6⟩ := QQ.out _ HB2.out
            rw [Nat.zero_add] at c1 c2 c3 c4
            simp only [rl] at x2 x3 x4 x5 x6
            have NR : Hid (agJoin g x.a = agRef g x.a) := Hid.of (agRef_join GG.out).symm
            refine wp_region_noPanic ?_
            go_region_with (first | (go_at_call 26; refine (refMerge_any g x.a GG.out.1 XG.out.2 _).mono ?_; rintro e wm ⟨rfl, b7⟩; have c7 := (Below.refl _ _).drew.trans b7; have PM := Hid.of (PB2.out.kept c7); have QM := Hid.of (QB2.out.kept c7); have HM := Hid.of (HB2.out.trans (c7.mono HB2.out.size)); obtain ⟨r0, r1, r2, r3, r4⟩ := PM.out.at; have fz := PM.out.frozen; rw [Nat.zero_add] at r1 r2 r3 r4; clear b7 c7 c0 c1 c2 c3 c4 x2 x3 x4 x5 x6))
            all_goals
              refine NoPanic.normal ?_
              go_wp2
              go_roundw
              case rel => exact ⟨i + 1, by omega, by go_num, Hid.of (by rw [NG.out, NR.out]; exact PM.out.set _), Hid.of (QM.out.set_other _ NE2.out), below_set5 HM.out (by rw [HBP.out]; omega) (agRef g x.a)⟩
              case measure => simp [RowKit.intOf]; omega
          · have hge : ¬ fl ≥ f := hff
            rw [decide_eq_false hff] at PK
            have NG : Hid (tW P (L.take (i + 1)) = tW P (L.take i)) := Hid.of (by rw [NX.out, PK.out]; rfl)
            go_wp2
            go_roundw
            case rel => exact ⟨i + 1, by omega, by go_num, Hid.of (by rw [NG.out]; exact PB2.out), QB2, HB2⟩
            case measure => simp [RowKit.intOf]; omega
        · obtain rfl : N = i := by omega
          have PA : Hid (AgBlk wr bp (tW P L)) := Hid.of (by have h := PB.out; rwa [← HN.out, List.take_length] at h)
          clear hi hlt i0 PB
          obtain ⟨gp, hgp⟩ : ∃ gp, tW P L = gp := ⟨_, rfl⟩
          rw [hgp] at PA CFH
          clear hgp
          go_wp2_with fail
          go_loopw [19] (fun iv wr => ∃ i : Nat, i ≤ K ∧ iv = .int .i64 i ∧ Hid (AgBlk wr bp gp) ∧ Hid (AgBlk wr (bp + 1) (tW (fun _ => true) (Q.take i))) ∧ Hid (Below w12.heap.size w12 wr)) (fun iv _ => K - (RowKit.intOf iv).toNat)
          case atStart => exact ⟨0, Nat.zero_le _, rfl, PA, QB, HB⟩
          case round =>
            clear PA QB HB
            obtain ⟨i, hi, rfl, PB2, QB2, HB2⟩ := hrel
            have i0 : (0 : Int) ≤ (i : Int) := Int.natCast_nonneg _
            by_cases hlt : i < K
            · have i1 : (i : Int) < (K : Int) := by omega
              obtain ⟨x, hx⟩ : ∃ x, Q[i]? = some x := ⟨_, List.getElem?_eq_getElem (by rw [HK.out]; exact hlt)⟩
              have hm := List.mem_of_getElem? hx
              obtain ⟨xs1, xs2, xg⟩ := CFH.out.1 x hm
              have XG := Hid.of xg
              have NX := Hid.of (tW_next (P := fun _ => true) hx)
              obtain ⟨b1, o1, rfl, hl1, hr1⟩ := r_at R2.out i (rl x) (by rw [List.getElem?_map, hx]; rfl)
              have QQ : Hid (∀ w9, Below w12.heap.size w12 w9 → rAt w9 b1 (o1 + i * 7) (rl x)) := Hid.of (fun w9 b9 => by
                obtain ⟨x0, x1, x2, x3, x4, x5, x6⟩ := hr1
                refine ⟨?_, ?_, ?_, ?_, ?_, ?_, ?_⟩ <;> rw [b9.cell hl1] <;> assumption)
              have z0 : ¬ a = 0 := by have := A1.out; omega
              have z1 : x.s.tmod a = 0 := Int.tmod_eq_zero_of_dvd xs2
              have z2 : ¬ x.s < f := by omega
              obtain ⟨g, hg⟩ : ∃ g, tW (fun _ => true) (Q.take i) = g := ⟨_, rfl⟩
              have GG : Hid (AgGood g) := Hid.of (by rw [← hg]; exact tW_good (fun y hy => (CFH.out.1 y (List.mem_of_mem_take hy)).2.2))
              have NG : Hid (tW (fun _ => true) (Q.take (i + 1)) = agJoin g x.a) := Hid.of (by rw [NX.out, if_pos rfl, hg])
              rw [hg] at QB2
              clear hg hx hm hl1 hr1 xs1 xs2 xg NX
              obtain ⟨x0, x1, x2, x3, x4, x5, x6⟩ := QQ.out _ HB2.out
              simp only [rl] at x0 x1 x2 x3 x4 x5 x6
              go_upto_region 27 with fail
              clear x0 x1 x2 x3 x4 x5 x6 z0 z1 z2
              obtain ⟨c0, c1, c2, c3, c4⟩ := QB2.out.at
              obtain ⟨-, -, x2, x3, x4, x5, x6⟩ := QQ.out _ HB2.out
              rw [Nat.zero_add] at c1 c2 c3 c4
              simp only [rl] at x2 x3 x4 x5 x6
              have NR : Hid (agJoin g x.a = agRef g x.a) := Hid.of (agRef_join GG.out).symm
              refine wp_region_noPanic ?_
              go_region_with (first | (go_at_call 26; refine (refMerge_any g x.a GG.out.1 XG.out.2 _).mono ?_; rintro e wm ⟨rfl, b7⟩; have c7 := (Below.refl _ _).drew.trans b7; have PM := Hid.of (QB2.out.kept c7); have QM := Hid.of (PB2.out.kept c7); have HM := Hid.of (HB2.out.trans (c7.mono HB2.out.size)); obtain ⟨r0, r1, r2, r3, r4⟩ := PM.out.at; have fz := PM.out.frozen; rw [Nat.zero_add] at r1 r2 r3 r4; clear b7 c7 c0 c1 c2 c3 c4 x2 x3 x4 x5 x6))
              all_goals
                refine NoPanic.normal ?_
                go_wp2
                go_roundw
                case rel => exact ⟨i + 1, by omega, by go_num, Hid.of (QM.out.set_other _ NE.out), Hid.of (by rw [NG.out, NR.out]; exact PM.out.set _), below_set5 HM.out (by rw [HBP.out]; omega) (agRef g x.a)⟩
                case measure => simp [RowKit.intOf]; omega
            · obtain rfl : K = i := by omega
              have QA : Hid (AgBlk wr (bp + 1) gp) := Hid.of (by have h := QB2.out; rwa [← HK.out, List.take_length, CFH.out.2] at h)
              clear hi hlt i0 QB2
              go_wp2_with fail
              refine (tableAlive_any S _).mono ?_
              rintro e wl ⟨rfl, bl⟩
              have FRL := Hid.of (FR12.out.trans ((HB2.out.trans (bl.mono HB2.out.size)).mono SZ12.out))
              obtain ⟨c0, c1, c2, c3, c4⟩ := (PB2.out.kept bl).at
              obtain ⟨d0, d1, d2, d3, d4⟩ := (QA.out.kept bl).at
              rw [Nat.zero_add] at c1 c2 c3 c4 d1 d2 d3 d4
              clear bl HB2 PB2 QA
              go_wp2
              go_ret
              exact ⟨rfl, FRL.out⟩

end Go.Proofs.Ytokjlmkegdickaa
