/-
  PolicyLines: the first line that is none is told, wherever it stands.
-/
import Derived.Deep.RegionWith
import Derived.Deep.RegionHeld3
import Derived.Deep.CutBlock
import Derived.Test.YtadepjpmpjipmaaDoorPLLq
import Derived.Test.YtadepjpmpjipmaaDoorQ25
namespace Go.Proofs.YtadepjpmpjipmaaDoor
open Go.RowKit Go.Lib

/-- A policy that came in, in one's own variable. -/
structure PH (S : PolicySpec) (w0 : World) (a3 : Nat) (n : ByteArray) (x : Value) (p : PolL) (w : World) : Prop where
  k3 : PBlk w a3 n x
  q3 : PolRow w0 (polVal n x) p
  ok0 : S.Ok w0
  fr : Below w0.heap.size w0 w

section
variable {S : PolicySpec} {w0 w w' : World} {a3 : Nat} {n : ByteArray} {x : Value} {p : PolL}

theorem PH.next (h : PH S w0 a3 n x p w) (b : Below w.heap.size w w') : PH S w0 a3 n x p w' := ⟨h.k3.kept b, h.q3, h.ok0, h.fr.trans (b.mono h.fr.size)⟩
theorem PH.ok (h : PH S w0 a3 n x p w) : S.Ok w := S.kept h.ok0 h.fr
theorem PH.r3 (h : PH S w0 a3 n x p w) : PolRow w (polVal n x) p := h.q3.kept h.fr
theorem PH.ne (h : PH S w0 a3 n x p w) : w.heap.size ≠ a3 := fun e => by have := (Array.getElem?_eq_some_iff.1 h.k3).1; omega
theorem PH.put (h : PH S w0 a3 n x p w) (b o : Nat) (v : Value) (hb : w0.heap.size ≤ b) (hn : b ≠ a3) : PH S w0 a3 n x p (w.setCell ⟨b, o, none⟩ v) := by
  have g := grownBy_setCell w b o v
  refine ⟨?_, h.q3, h.ok0, h.fr.grown g h.fr.size (fun k hk => by cases hk; exact hb)⟩
  have k := h.k3
  unfold PBlk at k ⊢
  rw [g.block a3 (Array.getElem?_eq_some_iff.1 k).1 (fun e => hn (Option.some.inj e).symm)]
  exact k
theorem PH.end_ (h : PH S w0 a3 n x p w) (b : Below w.heap.size w w') : Below w0.heap.size w0 w' := h.fr.trans (b.mono h.fr.size)
end

set_option maxRecDepth 20000 in
set_option maxHeartbeats 6400000 in
theorem policyLines_main (S : PolicySpec) (u : Value) (p : PolL) (k : Int) (bad : ByteArray) (w : World) (hS : S.Ok w) (hu : PolRow w u p) (hp : ∀ x ∈ p.2, TIn x) (hb : bad.size ≤ maxLen) :
    Calls Tryd.prog 6 #[u, .int .i64 k, .string bad] w fun e w' => e = .returned (.bool true) ∧ Below w.heap.size w w' := by
  obtain ⟨sl, rfl, hsl, hsk⟩ := hu
  have HSL := Hid.of hsl
  obtain ⟨sa, sc, rfl, -⟩ := hsl
  obtain ⟨n, hn⟩ : ∃ n, p.1 = n := ⟨_, rfl⟩
  obtain ⟨N, hN⟩ : ∃ N, p.2.length = N := ⟨_, rfl⟩
  rw [hn, hN]
  rw [hN] at HSL
  have HSK : Hid (CapOk (.slice sa N sc)) := Hid.of (by rw [← hN]; exact hsk)
  clear hsk
  obtain ⟨w1, hw1⟩ : ∃ w1, w.alloc (.cells #[.string n, .slice sa N sc] 24) = w1 := ⟨_, rfl⟩
  have H1 : Hid (PH S w w.heap.size n (.slice sa N sc) p w1) := Hid.of (by
    rw [← hw1]
    exact ⟨PBlk.made w _ _, ⟨_, by rw [hn], by rw [hN]; exact HSL.out, HSK.out⟩, hS, (Below.refl _ _).alloc (Nat.le_refl _) _⟩)
  have HW := Hid.of hw1
  have HN := Hid.of hN
  have HP := Hid.of hp
  have HB := Hid.of hb
  clear hw1 hN hn hS hp HSL hb
  go_enter Tryd.func6, Tryd.ntmps6
  go_wp2_with fail
  rw [HW.out]
  clear HW
  generalize w.heap.size = a3 at H1 ⊢
  refine (Small_any _ p _ H1.out.r3).mono ?_
  rintro e w2 ⟨r, rfl, hr, b2⟩
  have H2 := Hid.of (H1.out.next b2)
  clear b2 H1
  by_cases hc : r = true ∧ bad.size ≤ 200 ∧ 0 ≤ k ∧ k ≤ N
  · obtain ⟨rfl, h1, h2, h3⟩ := hc
    have SP := Hid.of (fit_of HP.out (hr.out rfl))
    obtain ⟨a, rfl⟩ : ∃ a : Nat, k = a := ⟨k.toNat, by omega⟩
    have g1 : ¬ (200 : Int) < (bad.size : Int) := by omega
    have g2 : ¬ (N : Int) < (a : Int) := by omega
    have A9 : Hid (a ≤ N) := Hid.of (by omega)
    have B9 : Hid (bad.size ≤ 200) := Hid.of h1
    clear hr h1 h2 h3
    obtain ⟨d0, d1⟩ := H2.out.k3.at
    go_wp2_with fail
    clear d0 d1
    refine (S.print _ p _ H2.out.ok SP.out H2.out.r3).mono ?_
    rintro e w3 ⟨rfl, b3⟩
    have H3 := Hid.of (H2.out.next b3)
    clear b3 H2
    by_cases hc : (pCheck p).1 = 0
    · have hpp : pPrint p = (⟨(polText p).toArray⟩, 0) := by unfold pPrint; rw [if_pos hc]
      rw [hpp]
      have HC := Hid.of hc
      obtain ⟨s, hs⟩ : ∃ s : ByteArray, s = ⟨(polText p).toArray⟩ := ⟨_, rfl⟩
      rw [← hs]
      have HS : Hid (s.data.toList = flatLines (polWords p)) := Hid.of (by rw [hs]; rfl)
      have SL : Hid (s.size ≤ 400) := Hid.of (by rw [← byte_len, HS.out, ← polText_flat]; exact polText_len hc)
      clear hpp hs hc
      have hcat := fun w => run_string_add_sum (P := Tryd.prog) (w := w) ⟨#[112, 111, 108, 105, 99, 121, 32, 97, 10]⟩ bad (by have := B9.out; simp only [ByteArray.size]; simp; omega)
      obtain ⟨z, hz⟩ : ∃ z : ByteArray, (⟨#[112, 111, 108, 105, 99, 121, 32, 97, 10]⟩ : ByteArray) ++ bad = z := ⟨_, rfl⟩
      have ZT : Hid (z.data.toList = sHead ++ bad.data.toList) := Hid.of (by rw [← hz, append_list]; rfl)
      have ZS : Hid (z.size ≤ maxLen) := Hid.of (by rw [← byte_len, ZT.out, List.length_append, byte_len]; have := B9.out; have : sHead.length = 9 := rfl; unfold maxLen; omega)
      rw [hz] at hcat
      clear hz
      go_wp2_with fail
      refine (S.parse z _ H3.out.ok ZS.out).mono ?_
      rintro e w4 ⟨v, rfl, ov, b4⟩
      obtain ⟨vs, rfl, os⟩ := ov
      obtain ⟨ta, tc, rfl, -⟩ := own_one os
      obtain ⟨q, pe, pn, hpp⟩ : ∃ q pe pn, pParse z.data.toList = (q, pe, pn) := ⟨_, _, _, rfl⟩
      rw [hpp]
      have H4 := Hid.of (H3.out.next b4)
      have PP := Hid.of hpp
      clear hpp b4 H3 os hcat ZS
      simp only
      have H5 := Hid.of (H4.out.next ((Below.refl _ _).alloc (Nat.le_refl _) (.cells #[.string q.1, .slice ta q.2.length tc] 24)))
      by_cases hq : pe = 22 ∧ pn = 2 ∧ 0 < bad.size
      · obtain ⟨rfl, rfl, h0⟩ := hq
        have hi : bad.toList.isEmpty = false := by
          rw [ByteArray.toList_eq, List.isEmpty_eq_false_iff]
          intro e
          have : bad.size = 0 := by rw [← byte_len, e]; rfl
          omega
        have h0i : (0 : Int) < (bad.size : Int) := by omega
        by_cases h10 : bad[0].toNat = 10
        · have e1 : ((bad[0].toNat : Int) == 10) = true := by simp [h10]
          go_wp2_with fail
          refine (polAlive_any S _ H5.out.ok).mono ?_
          rintro e wz ⟨rfl, bz⟩
          go_wp2
          go_ret
          exact ⟨rfl, H5.out.end_ bz⟩
        · have e1 : ((bad[0].toNat : Int) == 10) = false := by rw [beq_eq_false_iff_ne]; omega
          have e2 : ¬ (bad[0].toNat : Int) = 10 := by omega
          have hga := polWords_good HC.out
          have hal : a < (polWords p).length := by
            unfold polWords
            rw [List.length_cons, List.length_map, HN.out]
            have := A9.out
            omega
          have LA := lines_at hga hal
          obtain ⟨L, hL⟩ : ∃ L, (flatLines ((polWords p).take (a + 1))).length = L := ⟨_, rfl⟩
          have hst : s.data.toList = flatLines ((polWords p).take (a + 1)) ++ flatLines ((polWords p).drop (a + 1)) := by rw [HS.out]; exact LA.1
          have LB : Hid (∀ j, j < L → wEnds (s.data.toList.take j) ≤ a) := Hid.of (fun j hj => by rw [HS.out]; exact lines_before hga hal (by rw [hL]; exact hj))
          have LE : Hid (wEnds (s.data.toList.take L) = a + 1) := Hid.of (by rw [hst, ← hL, List.take_left]; exact LA.2)
          have LS : L ≤ s.size := by
            have := congrArg List.length hst
            rw [List.length_append, hL, byte_len] at this
            omega
          have LT : Hid (s.data.toList.take L = flatLines ((polWords p).take (a + 1)) ∧ s.data.toList.drop L = flatLines ((polWords p).drop (a + 1))) := Hid.of (by rw [hst, ← hL, List.take_left, List.drop_left]; exact ⟨rfl, rfl⟩)
          have s9 : (s.size : Int) ≤ 400 := by have := SL.out; omega
          have a9 : (a : Int) ≤ 1000000 := by have := SP.out.1; have := HN.out; have := A9.out; omega
          clear hga hal LA hL hst
          go_wp2_with fail
          obtain ⟨w5, hw5⟩ : ∃ w5, w4.alloc (.cells #[.string q.1, .slice ta q.2.length tc] 24) = w5 := ⟨_, rfl⟩
          rw [hw5] at H5 ⊢
          clear hw5
          go_loop [12, 13] (fun lv kv => ∃ j : Nat, j ≤ L ∧ kv = .int .i64 j ∧ lv = .int .i64 (wEnds (s.data.toList.take j) : Nat)) (fun _ kv => L - (RowKit.intOf kv).toNat)
          case atStart => exact ⟨0, Nat.zero_le _, rfl, rfl⟩
          case round =>
            obtain ⟨j, hj, rfl, rfl⟩ := hrel
            by_cases hlt : j < L
            · have hjs : j < s.size := by omega
              have hje := LB.out j hlt
              have ht := wEnds_take s.data.toList j s[j] (by rw [List.getElem?_eq_getElem (by rw [byte_len]; exact hjs)]; rfl)
              obtain ⟨m, hm⟩ : ∃ m, wEnds (s.data.toList.take j) = m := ⟨_, rfl⟩
              rw [hm] at hje ht ⊢
              have m1 : (m : Int) ≤ (a : Int) := by omega
              have j1 : (j : Int) < (s.size : Int) := by omega
              clear hm
              by_cases hc : s[j].toNat = 10
              · have e3 : ((s[j].toNat : Int) == 10) = true := by simp [hc]
                have HT : Hid (wEnds (s.data.toList.take (j + 1)) = m + 1) := Hid.of (by rw [ht]; simp [hc])
                clear ht hc
                go_wp2
                exact ⟨⟨j + 1, by omega, by go_num, by rw [HT.out]; go_num⟩, by simp [RowKit.intOf]; omega⟩
              · have e3 : ((s[j].toNat : Int) == 10) = false := by rw [beq_eq_false_iff_ne]; omega
                have e4 : ¬ (s[j].toNat : Int) = 10 := by omega
                have HT : Hid (wEnds (s.data.toList.take (j + 1)) = m) := Hid.of (by rw [ht]; simp [hc])
                clear ht hc
                go_wp2
                exact ⟨⟨j + 1, by omega, by go_num, by rw [HT.out]⟩, by simp [RowKit.intOf]; omega⟩
            · obtain rfl : j = L := by omega
              rw [LE.out]
              have hcut1 : (j : Int) ≤ (s.size : Int) := by omega
              have key : (¬ (j : Int) < (s.size : Int)) ∨ ((j : Int) < (s.size : Int) ∧ ¬ ((a + 1 : Nat) : Int) ≤ (a : Int)) := by omega
              rcases key with k1 | ⟨k1, k2⟩
              all_goals
                go_wp2_with fail
                have z1 : (s.extract 0 j).size ≤ 400 := by simp [ByteArray.size_extract]; omega
                have z2 : (s.extract j s.size).size ≤ 400 := by simp [ByteArray.size_extract]; omega
                have z3 : (⟨#[10]⟩ : ByteArray).size = 1 := rfl
                have y1 : (s.extract 0 j ++ bad).size ≤ 600 := by rw [ByteArray.size_append]; have := B9.out; omega
                have y2 : ((s.extract 0 j ++ bad) ++ (⟨#[10]⟩ : ByteArray)).size ≤ 601 := by rw [ByteArray.size_append]; omega
                have y3 : (((s.extract 0 j ++ bad) ++ (⟨#[10]⟩ : ByteArray)) ++ s.extract j s.size).size ≤ 1001 := by rw [ByteArray.size_append]; omega
                have hc1 := fun w => run_string_add_sum (P := Tryd.prog) (w := w) (s.extract 0 j) bad (by omega)
                have hc2 := fun w => run_string_add_sum (P := Tryd.prog) (w := w) (s.extract 0 j ++ bad) ⟨#[10]⟩ (by omega)
                have hc3 := fun w => run_string_add_sum (P := Tryd.prog) (w := w) ((s.extract 0 j ++ bad) ++ (⟨#[10]⟩ : ByteArray)) (s.extract j s.size) (by omega)
                obtain ⟨q', hq'⟩ := pParse_bad (bad := bad.data.toList) HC.out (by rw [HN.out]; exact A9.out) (by rw [byte_len]; have := B9.out; omega) (by rw [← ZT.out]; exact PP.out)
                have ytext : ((((s.extract 0 j ++ bad) ++ (⟨#[10]⟩ : ByteArray)) ++ s.extract j s.size)).data.toList = (flatLines ((polWords p).take (a + 1)) ++ (bad.data.toList ++ [10])) ++ flatLines ((polWords p).drop (a + 1)) := by
                  rw [append_list, append_list, append_list, ← LT.out.1, ← LT.out.2, List.append_assoc (s.extract 0 j).data.toList]
                  congr 1
                  · congr 1
                    simp
                  · have := extract_list s j (s.size - j)
                    rw [show j + (s.size - j) = s.size by omega] at this
                    rw [this, List.take_of_length_le (by rw [List.length_drop, byte_len]; exact Nat.le_refl _)]
                rw [← ytext] at hq'
                generalize (((s.extract 0 j ++ bad) ++ (⟨#[10]⟩ : ByteArray)) ++ s.extract j s.size) = y at hc3 hq' y3
                generalize ((s.extract 0 j ++ bad) ++ (⟨#[10]⟩ : ByteArray)) = x2 at hc2 hc3
                generalize s.extract 0 j ++ bad = x1 at hc1 hc2
                have HQ := Hid.of hq'
                have YS : Hid (y.size ≤ maxLen) := Hid.of (by unfold maxLen; omega)
                clear z1 z2 z3 y1 y2 y3 hq' ytext
                go_cut [15, 16] (fun ev nv wx => ev = .int .i64 22 ∧ nv = .int .i64 ((a : Int) + 2) ∧ Hid (PH S w a3 n (.slice sa N sc) p wx))
                case first =>
                  refine wp_region_noPanic ?_
                  go_region_with (first
                    | (go_at_call 16; refine (S.parse y w5.drew (S.kept H5.out.ok0 H5.out.fr.drew) YS.out).mono ?_; rintro e w6 ⟨v, rfl, ov, b6⟩; rw [HQ.out] at ov ⊢; obtain ⟨vs, rfl, os⟩ := ov; obtain ⟨ua, uc, rfl, -⟩ := own_one os; have H6 := Hid.of (H5.out.next ((Below.refl _ _).drew.trans b6)); clear os b6)
                    | (go_at_call 16; refine (S.parse y (w5.alloc (.cells #[.string ⟨#[]⟩, .slice none 0 0] 24)).drew (S.kept H5.out.ok0 (H5.out.fr.alloc H5.out.fr.size _).drew) YS.out).mono ?_; rintro e w6 ⟨v, rfl, ov, b6⟩; rw [HQ.out] at ov ⊢; obtain ⟨vs, rfl, os⟩ := ov; obtain ⟨ua, uc, rfl, -⟩ := own_one os; have K6 : PBlk w6 w5.heap.size ⟨#[]⟩ (.slice none 0 0) := PBlk.kept (w := (w5.alloc (.cells #[.string ⟨#[]⟩, .slice none 0 0] 24)).drew) (PBlk.made w5 _ _) b6; have f0 : w6.frozen? ⟨w5.heap.size, 0, none⟩ = false := row_frozen K6; have f1 : w6.frozen? ⟨w5.heap.size, 1, none⟩ = false := row_frozen K6; obtain ⟨d0, d1⟩ := K6.at; have H6 := Hid.of (H5.out.next (((Below.refl w5.heap.size w5).alloc (Nat.le_refl _) (.cells #[.string ⟨#[]⟩, .slice none 0 0] 24)).drew.trans (b6.mono (by simp)))); clear os b6))
                  all_goals
                    refine NoPanic.normal ?_
                    go_wp2_with fail
                    go_meet
                    first
                      | exact ⟨rfl, rfl, Hid.of (H6.out.next ((Below.refl _ _).alloc (Nat.le_refl _) _))⟩
                      | exact ⟨rfl, rfl, Hid.of ((H6.out.put _ 0 _ H5.out.fr.size H5.out.ne).put _ 1 _ H5.out.fr.size H5.out.ne)⟩
                case rest =>
                  obtain ⟨rfl, rfl, H⟩ := hcut
                  clear H5 hc1 hc2 hc3
                  go_wp2_with fail
                  refine (polAlive_any S _ H.out.ok).mono ?_
                  rintro e wz ⟨rfl, bz⟩
                  go_wp2
                  go_ret
                  exact ⟨rfl, H.out.end_ bz⟩
      · have key : ¬ pe = 22 ∨ (pe = 22 ∧ ¬ pn = 2) ∨ (pe = 22 ∧ pn = 2 ∧ bad.size = 0) := by omega
        clear hq
        rcases key with h1 | ⟨rfl, h1⟩ | ⟨rfl, rfl, h1⟩
        case' inl => have e1 : (pe != 22) = true := by simpa using h1
        case' inr.inl => have e1 : (pn != 2) = true := by simpa using h1
        case' inr.inr =>
          have hi : bad.toList.isEmpty = true := by
            rw [ByteArray.toList_eq, List.isEmpty_iff]
            exact List.eq_nil_of_length_eq_zero (by rw [byte_len]; exact h1)
        all_goals
          go_wp2_with fail
          refine (polAlive_any S _ H5.out.ok).mono ?_
          rintro e wz ⟨rfl, bz⟩
          go_wp2
          go_ret
          exact ⟨rfl, H5.out.end_ bz⟩
    · obtain ⟨i, hpp⟩ : ∃ i, pPrint p = (⟨#[]⟩, i) ∧ ¬ i = 0 := ⟨_, by unfold pPrint; rw [if_neg hc], hc⟩
      have q1 : (i != 0) = true := by simpa using hpp.2
      rw [hpp.1]
      clear hpp hc
      go_wp2_with fail
      refine (polAlive_any S _ H3.out.ok).mono ?_
      rintro e w4 ⟨rfl, b4⟩
      go_wp2
      go_ret
      exact ⟨rfl, H3.out.end_ b4⟩
  · have key : r = false ∨ (r = true ∧ 200 < (bad.size : Int)) ∨ (r = true ∧ ¬ 200 < (bad.size : Int) ∧ k < 0) ∨ (r = true ∧ ¬ 200 < (bad.size : Int) ∧ ¬ k < 0 ∧ (N : Int) < k) := by
      cases r with
      | false => exact .inl rfl
      | true =>
        simp only [true_and] at hc ⊢
        omega
    clear hc
    obtain ⟨d0, d1⟩ := H2.out.k3.at
    rcases key with rfl | ⟨rfl, h1⟩ | ⟨rfl, h1, h2⟩ | ⟨rfl, h1, h2, h3⟩
    all_goals
      go_wp2_with fail
      refine (polAlive_any S _ H2.out.ok).mono ?_
      rintro e w3 ⟨rfl, b3⟩
      go_wp2
      go_ret
      exact ⟨rfl, H2.out.end_ b3⟩

end Go.Proofs.YtadepjpmpjipmaaDoor
