/-
  RecBack: what was put is got, one behind the other; cut within one it is refused.
-/
import Derived.Test.YtfgfgdchaoekfaaDoorQ24
import Derived.Test.YtfgfgdchaoekfaaDoorTFWq
import Derived.Test.YtfgfgdchaoekfaaDoorRSMq
import Derived.Test.YtfgfgdchaoekfaaDoorKASq
import Derived.Test.YtfgfgdchaoekfaaDoorQ16
namespace Go.Proofs.YtfgfgdchaoekfaaDoor
open Go.RowKit Go.Lib

set_option maxRecDepth 20000 in
set_option maxHeartbeats 3200000 in
theorem recBack_main (S : RecSpec) (lv mv : Value) (l : List TRec) (m : List SamL) (cut : Int) (w : World) (hS : S.Ok w) (hl : CellRow w lv l.length (flat renc (l.map rl))) (fit : ∀ x ∈ l, TFit x) (hm : CellRow w mv m.length (flat aenc m)) (fitm : ∀ x ∈ m, SmIn x) (hcut : TIn64 cut) :
    Calls Tryd.prog 3 #[lv, mv, .int .i64 cut] w fun e w' => e = .returned (.bool true) ∧ Below w.heap.size w w' := by
  have HL := Hid.of hl
  have HM := Hid.of hm
  obtain ⟨la, lc, rfl, -⟩ := hl
  obtain ⟨ma, mc, rfl, -⟩ := hm
  obtain ⟨N, hN⟩ : ∃ N, l.length = N := ⟨_, rfl⟩
  obtain ⟨M, hM⟩ : ∃ M, m.length = M := ⟨_, rfl⟩
  have HN := Hid.of hN
  have HMM := Hid.of hM
  have FIT := Hid.of fit
  have FITM := Hid.of fitm
  have OK := Hid.of hS
  have HCUT := Hid.of hcut
  rw [hN] at HL ⊢
  rw [hM] at HM ⊢
  have HLM : Hid (CellRow w (.slice la N lc) (l.map rl).length (flat renc (l.map rl))) := Hid.of (by rw [List.length_map, hN]; exact HL.out)
  have HMR : Hid (CellRow w (.slice ma M mc) m.length (flat aenc m)) := Hid.of (by rw [hM]; exact HM.out)
  clear hN hM fit fitm hS hcut
  have ALV : Hid (∀ w9, Below w.heap.size w w9 → Calls Tryd.prog 7 #[] w9 fun e w' => e = .returned (.bool true) ∧ Below w.heap.size w w') := Hid.of (fun w9 h => by
    refine (recAlive_any S w9 (S.kept OK.out h)).mono ?_
    rintro e w' ⟨he, b⟩
    exact ⟨he, h.trans (b.mono h.size)⟩)
  go_enter Tryd.func3, Tryd.ntmps3
  go_wp2_with fail
  refine (Few_any 30 _ (l.map rl) _ HLM.out (by decide)).mono ?_
  rintro e w2 ⟨r, rfl, hr, b2⟩
  have B2 := Hid.of b2
  clear b2
  cases r with
  | false =>
    go_wp2_with fail
    refine (ALV.out _ B2.out).mono ?_
    rintro e w3 ⟨rfl, b3⟩
    go_wp2
    go_ret
    exact ⟨rfl, b3⟩
  | true =>
    have N30 : Hid (N ≤ 30) := Hid.of (by have h := (hr.out rfl).1; rw [List.length_map, HN.out] at h; exact h)
    clear hr
    go_wp2_with fail
    refine (SmSome_any 30 _ m _ (HMR.out.kept B2.out) (by decide)).mono ?_
    rintro e w3 ⟨r, rfl, hr, b3⟩
    have B3 := Hid.of (B2.out.trans (b3.mono B2.out.size))
    clear b3 B2
    cases r with
    | false =>
      go_wp2_with fail
      refine (ALV.out _ B3.out).mono ?_
      rintro e w4 ⟨rfl, b4⟩
      go_wp2
      go_ret
      exact ⟨rfl, b4⟩
    | true =>
      have M30 : Hid (M ≤ 30) := Hid.of (by have h := (hr.out rfl).1; rw [HMM.out] at h; exact h)
      clear hr
      obtain ⟨t1, ht1⟩ : ∃ t, (rcPut l).1 = t := ⟨_, rfl⟩
      obtain ⟨e1, he1⟩ : ∃ t, (rcPut l).2 = t := ⟨_, rfl⟩
      obtain ⟨t2, ht2⟩ : ∃ t, (smPut m).1 = t := ⟨_, rfl⟩
      obtain ⟨e2, he2⟩ : ∃ t, (smPut m).2 = t := ⟨_, rfl⟩
      have P1 : Hid (e1 = 0 → rcGet t1 = (l, 0) ∧ t1.size = 64 * N) := Hid.of (fun h => by
        have a : l.all rcOk = true := by
          by_cases c : l.all rcOk = true
          · exact c
          · rw [← he1] at h
            unfold rcPut at h
            rw [if_neg c] at h
            cases h
        have g := rcGet_put a (fun x hx => ⟨(FIT.out x hx).2.1, (FIT.out x hx).2.2⟩)
        have e : t1 = txt (l.flatMap rcBytes) := by rw [← ht1]; unfold rcPut; rw [if_pos a]
        rw [e, ← HN.out]
        exact g)
      have P2 : Hid (e2 = 0 → smGet t2 = (m, 0) ∧ t2.size = 32 * M) := Hid.of (fun h => by
        have a : m.all smOk = true := by
          by_cases c : m.all smOk = true
          · exact c
          · rw [← he2] at h
            unfold smPut at h
            rw [if_neg c] at h
            cases h
        have g := smGet_put a (fun x hx => ⟨(FITM.out x hx).2.1, (FITM.out x hx).2.2⟩)
        have e : t2 = txt (m.flatMap smBytes) := by rw [← ht2]; unfold smPut; rw [if_pos a]
        rw [e, ← HMM.out]
        exact g)
      have PUT : Hid (∀ W, Below w.heap.size w W → Calls Tryd.prog 8 #[.slice la N lc] W fun e w' => e = .returned (.tuple #[.string t1, .int .i64 e1]) ∧ Below W.heap.size W w') := Hid.of (fun W h => by
        rw [← ht1, ← he1]
        exact S.put _ l W (S.kept OK.out h) (by rw [HN.out]; exact HL.out.kept h) (by have := N30.out; have := HN.out; omega) FIT.out)
      have PUTS : Hid (∀ W, Below w.heap.size w W → Calls Tryd.prog 9 #[.slice ma M mc] W fun e w' => e = .returned (.tuple #[.string t2, .int .i64 e2]) ∧ Below W.heap.size W w') := Hid.of (fun W h => by
        rw [← ht2, ← he2]
        exact S.putS _ m W (S.kept OK.out h) (HMR.out.kept h) (by have := M30.out; have := HMM.out; omega) FITM.out)
      clear ht1 he1 ht2 he2
      go_wp2_with fail
      refine (PUT.out _ B3.out).mono ?_
      rintro e w4 ⟨rfl, b4⟩
      have B4 := Hid.of (B3.out.trans (b4.mono B3.out.size))
      clear b4 B3
      go_wp2_with fail
      refine (PUTS.out _ B4.out).mono ?_
      rintro e w5 ⟨rfl, b5⟩
      have B5 := Hid.of (B4.out.trans (b5.mono B4.out.size))
      clear b5 B4
      obtain ⟨z1, hz1⟩ : ∃ z, (e1 == 0) = z := ⟨_, rfl⟩
      go_upto_if 37 with fail
      go_cut [11, 12, 13, 14] from 38 to 80 (fun x11 x12 x13 x14 wx => Hid (Below w.heap.size w wx))
      case first =>
        by_cases hz : e1 = 0
        · obtain ⟨p1, p2⟩ := P1.out hz
          have hzt : z1 = true := by rw [← hz1, hz]; rfl
          subst hzt
          have G1 := Hid.of p1
          have S1 : (t1.size : Int) = 64 * (N : Int) := by omega
          subst hz
          have n30 : (N : Int) ≤ 30 := by have := N30.out; omega
          clear p1 p2
          go_wp2_with fail
          refine (S.get t1 _ (S.kept OK.out B5.out) (by omega)).mono ?_
          rintro e w7 ⟨u, rfl, ou, b7⟩
          rw [G1.out] at ou ⊢
          simp only at ou ⊢
          have B7 := Hid.of (B5.out.trans (b7.mono B5.out.size))
          have OU := Hid.of (own_row ou)
          clear b7 ou B5
          go_wp2_with fail
          refine (SameRecords_quiet _ _ (l.map rl) _ OU.out (HLM.out.kept B7.out) (by rw [List.length_map, HN.out]; omega)).mono ?_
          rintro e w8 ⟨rfl, q8, rfl⟩
          have B8 : Hid (Below w.heap.size w (w7.drewN q8)) := Hid.of (below_drewN B7.out q8)
          clear B7 OU
          by_cases h0 : 0 < cut
          · by_cases h1 : cut < 64 * (N : Int)
            · obtain ⟨c, rfl⟩ : ∃ c : Nat, cut = c := ⟨cut.toNat, by omega⟩
              have hmod : ((c : Int).tmod 64) = ((c % 64 : Nat) : Int) := by
                rw [Int.tmod_eq_emod_of_nonneg (by omega)]
                omega
              by_cases h2 : c % 64 = 0
              · have h3 : ((c : Int).tmod 64) = 0 := by rw [hmod, h2]; rfl
                have h4 : ((c : Int).tmod 64 != 0) = false := by rw [h3]; rfl
                go_wp2_with fail
                go_meet
                exact B8
              · have h3 : ¬ ((c : Int).tmod 64) = 0 := by rw [hmod]; omega
                have h4 : ((c : Int).tmod 64 != 0) = true := by simpa using h3
                have hc2 : c ≤ t1.size := by omega
                have hsz : (t1.extract 0 c).size = c := by rw [ByteArray.size_extract]; omega
                have g5 : rcGet (t1.extract 0 c) = ([], 5) := by
                  unfold rcGet
                  rw [hsz, if_pos h2]
                have G5 := Hid.of g5
                have HSZ := Hid.of hsz
                clear g5 hsz hmod
                go_wp2_with fail
                refine (S.get (t1.extract 0 c) _ (S.kept OK.out B8.out) (by rw [HSZ.out]; omega)).mono ?_
                rintro e w9 ⟨u9, rfl, ou9, b9⟩
                rw [G5.out] at ou9 ⊢
                simp only at ou9 ⊢
                have B9 := Hid.of (B8.out.trans (b9.mono B8.out.size))
                clear b9 ou9 B8
                go_wp2_with fail
                go_meet
                exact B9
            · go_wp2_with fail
              go_meet
              exact B8
          · go_wp2_with fail
            go_meet
            exact B8
        · have hz2 : z1 = false := by rw [← hz1]; simpa using hz
          subst hz2
          go_wp2_with fail
          go_meet
          exact B5
      case rest =>
        rename World => w6
        have B6 := Hid.of hcut.out
        clear hcut B5
        by_cases hz : e2 = 0
        · obtain ⟨p1, p2⟩ := P2.out hz
          have G2 := Hid.of p1
          have S2 : (t2.size : Int) = 32 * (M : Int) := by omega
          subst hz
          have m30 : (M : Int) ≤ 30 := by have := M30.out; omega
          clear p1 p2
          go_wp2_with fail
          refine (S.getS t2 _ (S.kept OK.out B6.out) (by omega)).mono ?_
          rintro e w7 ⟨u, rfl, ou, b7⟩
          rw [G2.out] at ou ⊢
          simp only at ou ⊢
          have B7 := Hid.of (B6.out.trans (b7.mono B6.out.size))
          have OU := Hid.of (own_row ou)
          clear b7 ou B6
          go_wp2_with fail
          refine (SameSamples_quiet _ _ m _ OU.out (HMR.out.kept B7.out) (by rw [HMM.out]; omega)).mono ?_
          rintro e w8 ⟨rfl, q8, rfl⟩
          have B8 : Hid (Below w.heap.size w (w7.drewN q8)) := Hid.of (below_drewN B7.out q8)
          clear B7 OU
          go_wp2_with fail
          refine (ALV.out _ B8.out).mono ?_
          rintro e w9 ⟨rfl, b9⟩
          go_wp2
          go_ret
          exact ⟨rfl, b9⟩
        · have hz2 : (e2 == 0) = false := by simpa using hz
          go_wp2_with fail
          refine (ALV.out _ B6.out).mono ?_
          rintro e w9 ⟨rfl, b9⟩
          go_wp2
          go_ret
          exact ⟨rfl, b9⟩

end Go.Proofs.YtfgfgdchaoekfaaDoor
