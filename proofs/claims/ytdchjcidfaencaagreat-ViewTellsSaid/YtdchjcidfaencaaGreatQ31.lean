/-
  A bundle of texts: RFL RRF RRG RTA.
-/
import Derived.Deep.CutBlock
import Derived.Deep.DeepCutAuto
import Derived.Deep.QuietTactic
import Derived.BigQuiet
import Derived.Deep.RegionHeld3
import Derived.Test.YtdchjcidfaencaaGreatQ30
import Derived.Test.YtdchjcidfaencaaGreatQ16
import Derived.Test.YtdchjcidfaencaaGreatQ08
import Derived.Test.YtdchjcidfaencaaGreatQ07
import Derived.Test.YtdchjcidfaencaaGreatQ13
import Derived.Test.YtdchjcidfaencaaGreatQ15
import Derived.Test.YtdchjcidfaencaaGreatQ11
namespace Go.Proofs.YtdchjcidfaencaaGreat
open Go.RowKit Go.Lib

theorem floors_max {now : Int} {p : PolL} {fl : List Int} {i : Nat} (h : i < p.2.length) : rFromN (now, p, fl) i = max (rFromN (now, p, []) i) (fl.getD i 0) := by
  unfold rFromN
  obtain ⟨t, ht⟩ : ∃ t, p.2[i]? = some t := ⟨_, List.getElem?_eq_getElem h⟩
  have h0 := gBack_nonneg now t.2.2.1 (rEvery p.2 i)
  simp only [ht, List.getD_eq_getElem?_getD, List.getElem?_nil]
  cases hf : fl[i]? with
  | none =>
    simp only [Option.getD_none]
    omega
  | some f => rfl

section
variable {S : ReachSpec} {w0 w w' : World} {b4 b9 b10 : Nat} {n : ByteArray} {sl g s f s' f' : Value} {now : Int} {p : PolL} {fl : List Int}
end

end Go.Proofs.YtdchjcidfaencaaGreat

namespace Go.Proofs.YtdchjcidfaencaaGreat
open Go.RowKit Go.Lib

theorem in_tier {p : PolL} {j : Nat} {t : TierL} (h : PFit p) (ht : p.2[j]? = some t) : In64 t.2.1 ∧ In64 t.2.2.1 :=
  ⟨(h.2.2 t (List.mem_of_getElem? ht)).2.1, (h.2.2 t (List.mem_of_getElem? ht)).2.2.1⟩

/-- As quiet_more, of a region ahead of which nothing was drawn. -/
theorem quiet_one {P : Program} {f : FuncId} {args : Array Value} {w : World} {n : Nat} {v : Value}
    (h : Calls P f args (w.drewN n) fun e w' => e = .returned v ∧ ∃ k, w' = (w.drewN n).drewN k) : Calls P f args (w.drewN n) fun e w'' => e = .returned v ∧ ∃ m, w'' = w.drewN m :=
  h.mono fun _ _ ⟨he, k, hk⟩ => ⟨he, n + k, by rw [hk, World.drewN_drewN]⟩

theorem refBack_named {n k e r : Int} (hr : gBack n k e = r) (hn : In64 n) (hk : In64 k) (he : In64 e) (w : World) : Calls Tryz.prog 85 #[.int .i64 n, .int .i64 k, .int .i64 e] w fun x w' => x = .returned (.int .i64 r) ∧ ∃ q, w' = w.drewN q := by
  rw [← hr]
  exact refBack_any n k e hn hk he w

set_option maxRecDepth 20000 in
set_option maxHeartbeats 3200000 in
theorem refFrom_any (now : Int) (n : ByteArray) (s f : Value) (p : PolL) (fl : List Int) (i : Int) (w : World) (hs : CellRow w s p.2.length (flat penc p.2)) (hf : CellRow w f fl.length (fl.map (Value.int .i64))) (fit : RFit (now, p, fl)) (hi : In64 i) :
    Calls Tryz.prog 38 #[.agg #[.int .i64 now, .string n, s, f], .int .i64 i] w fun e w' => e = .returned (.int .i64 (rFrom (now, p, fl) i)) ∧ Below w.heap.size w w' := by
  have HS0 := Hid.of hs
  have HF0 := Hid.of hf
  obtain ⟨sa, sc, rfl, -⟩ := hs
  obtain ⟨fa, fc, rfl, -⟩ := hf
  obtain ⟨N, hN⟩ : ∃ N, p.2.length = N := ⟨_, rfl⟩
  obtain ⟨M, hM⟩ : ∃ M, fl.length = M := ⟨_, rfl⟩
  rw [hN, hM]
  rw [hN] at HS0
  rw [hM] at HF0
  obtain ⟨w1, hw1⟩ : ∃ w1, w.alloc (.cells #[.int .i64 now, .string n, .slice sa N sc, .slice fa M fc] 33) = w1 := ⟨_, rfl⟩
  have b1 : Below w.heap.size w w1 := by rw [← hw1]; exact (Below.refl _ _).alloc (Nat.le_refl _) _
  have k1 : w1.heap[w.heap.size]? = some (.cells #[.int .i64 now, .string n, .slice sa N sc, .slice fa M fc] 33 (0, 0)) := by rw [← hw1]; exact Go.heap_alloc_new _ _
  have c0 : w1.cell? ⟨w.heap.size, 0, none⟩ = some (.int .i64 now) := by rw [cell_of_row w1 _ _ _ _ _ k1]; rfl
  have c2 : w1.cell? ⟨w.heap.size, 2, none⟩ = some (.slice sa N sc) := by rw [cell_of_row w1 _ _ _ _ _ k1]; rfl
  have c3 : w1.cell? ⟨w.heap.size, 3, none⟩ = some (.slice fa M fc) := by rw [cell_of_row w1 _ _ _ _ _ k1]; rfl
  have HS := Hid.of (HS0.out.kept b1)
  have HF := Hid.of (HF0.out.kept b1)
  have HW := Hid.of hw1
  have B1 := Hid.of b1
  have HN := Hid.of hN
  have HM := Hid.of hM
  have FT := Hid.of fit
  have HI := Hid.of hi
  have n9 : (N : Int) ≤ 1000000 := by have := fit.2.1.1; rw [hN] at this; omega
  clear HS0 HF0 b1 k1 hw1 hN hM fit hi
  by_cases hi0 : i < 0
  · have hr : rFrom (now, p, fl) i = 0 := by unfold rFrom; rw [if_pos hi0]
    rw [hr]
    clear hr
    go_enter Tryz.func38, Tryz.ntmps38
    go_wp2_with fail
    rw [HW.out]
    go_wp2
    go_ret
    exact ⟨rfl, B1.out⟩
  · obtain ⟨j, rfl⟩ : ∃ j : Nat, i = j := ⟨i.toNat, by omega⟩
    rw [rFrom_nat]
    by_cases hj : N ≤ j
    · have hj1 : (N : Int) ≤ (j : Int) := by omega
      have hr : rFromN (now, p, fl) j = 0 := by
        unfold rFromN
        rw [List.getElem?_eq_none (show ((now, p, fl) : RchL).2.1.2.length ≤ j by show p.2.length ≤ j; rw [HN.out]; exact hj)]
      rw [hr]
      clear hr hj
      go_enter Tryz.func38, Tryz.ntmps38
      go_wp2_with fail
      rw [HW.out]
      go_wp2
      go_ret
      exact ⟨rfl, B1.out⟩
    · have hj1 : ¬ (N : Int) ≤ (j : Int) := by omega
      have hj2 : (j : Int) < (N : Int) := by omega
      obtain ⟨t, ht⟩ : ∃ t, p.2[j]? = some t := ⟨_, List.getElem?_eq_getElem (by rw [HN.out]; omega)⟩
      obtain ⟨sb, so, rfl, sl, st⟩ := p_at HS.out j t ht
      obtain ⟨tn, te, tk, ts⟩ := t
      obtain ⟨q0, q1, q2, q3⟩ := st
      have IT := Hid.of (in_tier FT.out.2.1 ht)
      have HT := Hid.of ht
      clear q0 q3 ht
      by_cases hx : j + 1 < N
      · have hx1 : (j : Int) + 1 < (N : Int) := by omega
        obtain ⟨t', ht'⟩ : ∃ t', p.2[j + 1]? = some t' := ⟨_, List.getElem?_eq_getElem (by rw [HN.out]; omega)⟩
        obtain ⟨sb2, so2, hsb, sl2, st2⟩ := p_at HS.out (j + 1) t' ht'
        simp only [Option.some.injEq, Addr.mk.injEq, and_true] at hsb
        obtain ⟨rfl, rfl⟩ := hsb
        obtain ⟨ev, hev⟩ : ∃ ev, t'.2.1 = ev := ⟨_, rfl⟩
        obtain ⟨-, q4, -, -⟩ := st2
        rw [hev] at q4
        have HEV : Hid (rEvery p.2 j = ev) := Hid.of (by unfold rEvery; rw [ht']; exact hev)
        have EV64 : Hid (In64 ev) := Hid.of (by rw [← hev]; exact (in_tier FT.out.2.1 ht').1)
        clear ht' sl2 hev hx
        obtain ⟨ba, hba⟩ : ∃ ba, gBack now tk ev = ba := ⟨_, rfl⟩
        have HG : Hid (gBack now tk ev = ba) := Hid.of hba
        by_cases hm : j < M
        · have hm1 : (j : Int) < (M : Int) := by omega
          obtain ⟨fb, fo, rfl, hfl, hfc⟩ := int_at HF.out j (by rw [HM.out]; exact hm) HM.out.symm
          obtain ⟨fv, hfv⟩ : ∃ fv, fl.getD j 0 = fv := ⟨_, rfl⟩
          rw [hfv] at hfc
          have RES : Hid (rFromN (now, p, fl) j = max ba fv) := Hid.of (by
            have h1 := floors_max (now := now) (fl := fl) (i := j) (p := p) (by rw [HN.out]; omega)
            rw [h1, hfv, ← hba, ← HEV.out]
            congr 1
            unfold rFromN
            rw [show ((now, p, []) : RchL).2.1.2[j]? = some (tn, te, tk, ts) from HT.out]
            rfl)
          clear hm hfv hba hfl hi0 hj sl
          go_enter Tryz.func38, Tryz.ntmps38
          go_upto_region 1 with fail
          rw [HW.out]
          clear HW
          go_wp2_with fail
          go_quiet ((go_at_call 85; exact quiet_one (refBack_named HG.out FT.out.1 IT.out.2 EV64.out _)))
          go_wp2
          all_goals
            go_ret
            refine ⟨?_, below_drewN B1.out _⟩
            rw [RES.out]
            refine congrArg (fun z => Ending.returned (Value.int .i64 z)) ?_
            omega
        · have hm1 : ¬ (j : Int) < (M : Int) := by omega
          have RES : Hid (rFromN (now, p, fl) j = ba) := Hid.of (by
            have h1 := floors_max (now := now) (fl := fl) (i := j) (p := p) (by rw [HN.out]; omega)
            rw [h1, List.getD_eq_getElem?_getD, List.getElem?_eq_none (by rw [HM.out]; omega), ← hba, ← HEV.out]
            have h2 : rFromN (now, p, []) j = gBack now tk (rEvery p.2 j) := by
              unfold rFromN
              rw [show ((now, p, []) : RchL).2.1.2[j]? = some (tn, te, tk, ts) from HT.out]
              rfl
            rw [h2]
            have := gBack_nonneg now tk (rEvery p.2 j)
            show max (gBack now tk (rEvery p.2 j)) 0 = _
            omega)
          clear hm hba hi0 hj sl
          go_enter Tryz.func38, Tryz.ntmps38
          go_upto_region 1 with fail
          rw [HW.out]
          clear HW
          go_wp2_with fail
          go_quiet ((go_at_call 85; exact quiet_one (refBack_named HG.out FT.out.1 IT.out.2 EV64.out _)))
          go_wp2
          go_ret
          rw [RES.out]
          exact ⟨rfl, below_drewN B1.out _⟩
      · have hx1 : ¬ (j : Int) + 1 < (N : Int) := by omega
        obtain ⟨ev, hev⟩ : ∃ ev, te = ev := ⟨_, rfl⟩
        have HEV : Hid (rEvery p.2 j = ev) := Hid.of (by unfold rEvery; rw [List.getElem?_eq_none (show p.2.length ≤ j + 1 by rw [HN.out]; omega), HT.out]; exact hev)
        have EV64 : Hid (In64 ev) := Hid.of (by rw [← hev]; exact IT.out.1)
        rw [hev] at q1
        clear hev hx
        obtain ⟨ba, hba⟩ : ∃ ba, gBack now tk ev = ba := ⟨_, rfl⟩
        have HG : Hid (gBack now tk ev = ba) := Hid.of hba
        by_cases hm : j < M
        · have hm1 : (j : Int) < (M : Int) := by omega
          obtain ⟨fb, fo, rfl, hfl, hfc⟩ := int_at HF.out j (by rw [HM.out]; exact hm) HM.out.symm
          obtain ⟨fv, hfv⟩ : ∃ fv, fl.getD j 0 = fv := ⟨_, rfl⟩
          rw [hfv] at hfc
          have RES : Hid (rFromN (now, p, fl) j = max ba fv) := Hid.of (by
            have h1 := floors_max (now := now) (fl := fl) (i := j) (p := p) (by rw [HN.out]; omega)
            rw [h1, hfv, ← hba, ← HEV.out]
            congr 1
            unfold rFromN
            rw [show ((now, p, []) : RchL).2.1.2[j]? = some (tn, te, tk, ts) from HT.out]
            rfl)
          clear hm hfv hba hfl hi0 hj sl
          go_enter Tryz.func38, Tryz.ntmps38
          go_upto_region 1 with fail
          rw [HW.out]
          clear HW
          go_wp2_with fail
          go_quiet ((go_at_call 85; exact quiet_one (refBack_named HG.out FT.out.1 IT.out.2 EV64.out _)))
          go_wp2
          all_goals
            go_ret
            refine ⟨?_, below_drewN B1.out _⟩
            rw [RES.out]
            refine congrArg (fun z => Ending.returned (Value.int .i64 z)) ?_
            omega
        · have hm1 : ¬ (j : Int) < (M : Int) := by omega
          have RES : Hid (rFromN (now, p, fl) j = ba) := Hid.of (by
            have h1 := floors_max (now := now) (fl := fl) (i := j) (p := p) (by rw [HN.out]; omega)
            rw [h1, List.getD_eq_getElem?_getD, List.getElem?_eq_none (by rw [HM.out]; omega), ← hba, ← HEV.out]
            have h2 : rFromN (now, p, []) j = gBack now tk (rEvery p.2 j) := by
              unfold rFromN
              rw [show ((now, p, []) : RchL).2.1.2[j]? = some (tn, te, tk, ts) from HT.out]
              rfl
            rw [h2]
            have := gBack_nonneg now tk (rEvery p.2 j)
            show max (gBack now tk (rEvery p.2 j)) 0 = _
            omega)
          clear hm hba hi0 hj sl
          go_enter Tryz.func38, Tryz.ntmps38
          go_upto_region 1 with fail
          rw [HW.out]
          clear HW
          go_wp2_with fail
          go_quiet ((go_at_call 85; exact quiet_one (refBack_named HG.out FT.out.1 IT.out.2 EV64.out _)))
          go_wp2
          go_ret
          rw [RES.out]
          exact ⟨rfl, below_drewN B1.out _⟩

end Go.Proofs.YtdchjcidfaencaaGreat

namespace Go.Proofs.YtdchjcidfaencaaGreat
open Go.RowKit Go.Lib

/-- A variable that holds the document's own Reach. -/
structure QH (w0 : World) (b : Nat) (now : Int) (n : ByteArray) (s f : Value) (p : PolL) (fl : List Int) (w : World) : Prop where
  k : w.heap[b]? = some (.cells #[.int .i64 now, .string n, s, f] 33 (0, 0))
  hs : CellRow w s p.2.length (flat penc p.2)
  hf : CellRow w f fl.length (fl.map (Value.int .i64))
  fr : Below w0.heap.size w0 w

section
variable {w0 w w' : World} {b : Nat} {n : ByteArray} {now : Int} {s f : Value} {p : PolL} {fl : List Int}
theorem QH.next (h : QH w0 b now n s f p fl w) (c : Below w.heap.size w w') : QH w0 b now n s f p fl w' :=
  ⟨by rw [c.block b (Array.getElem?_eq_some_iff.1 h.k).1]; exact h.k, h.hs.kept c, h.hf.kept c, h.fr.trans (c.mono h.fr.size)⟩
theorem QH.at (h : QH w0 b now n s f p fl w) : w.cell? ⟨b, 0, none⟩ = some (.int .i64 now) ∧ w.cell? ⟨b, 1, none⟩ = some (.string n) ∧ w.cell? ⟨b, 2, none⟩ = some s ∧ w.cell? ⟨b, 3, none⟩ = some f := by
  refine ⟨?_, ?_, ?_, ?_⟩ <;> (rw [cell_of_row w b _ _ _ _ h.k]; rfl)
theorem QH.made (hs : CellRow w s p.2.length (flat penc p.2)) (hf : CellRow w f fl.length (fl.map (Value.int .i64))) : QH w w.heap.size now n s f p fl (w.alloc (.cells #[.int .i64 now, .string n, s, f] 33)) := by
  have b : Below w.heap.size w (w.alloc (.cells #[.int .i64 now, .string n, s, f] 33)) := (Below.refl _ _).alloc (Nat.le_refl _) _
  exact ⟨Go.heap_alloc_new _ _, hs.kept b, hf.kept b, b⟩
end

set_option maxRecDepth 20000 in
set_option maxHeartbeats 3200000 in
theorem refCover_any (now : Int) (n : ByteArray) (s f : Value) (p : PolL) (fl : List Int) (x : Int) (w : World) (hs : CellRow w s p.2.length (flat penc p.2)) (hf : CellRow w f fl.length (fl.map (Value.int .i64))) (fit : RFit (now, p, fl)) :
    Calls Tryz.prog 19 #[.agg #[.int .i64 now, .string n, s, f], .int .i64 x] w fun e w' => e = .returned (.int .i64 (rCover (now, p, fl) x)) ∧ Below w.heap.size w w' := by
  have H0 := Hid.of (QH.made (now := now) (n := n) hs hf)
  obtain ⟨sa, sc, rfl, -⟩ := hs
  obtain ⟨fa, fc, rfl, -⟩ := hf
  obtain ⟨N, hN⟩ : ∃ N, p.2.length = N := ⟨_, rfl⟩
  obtain ⟨M, hM⟩ : ∃ M, fl.length = M := ⟨_, rfl⟩
  rw [hN, hM] at H0 ⊢
  obtain ⟨w1, hw1⟩ : ∃ w1, w.alloc (.cells #[.int .i64 now, .string n, .slice sa N sc, .slice fa M fc] 33) = w1 := ⟨_, rfl⟩
  rw [hw1] at H0
  have HW := Hid.of hw1
  have HN := Hid.of hN
  have FT := Hid.of fit
  have n9 : (N : Int) ≤ 1000000 := by have := fit.2.1.1; rw [hN] at this; omega
  clear hN hM hw1 fit
  go_enter Tryz.func19, Tryz.ntmps19
  go_upto_region 1 with fail
  rw [HW.out]
  clear HW
  go_wp2
  go_loopw [4, 5] (fun _ iv wr => ∃ j : Nat, j ≤ N ∧ iv = .int .i64 j ∧ Hid (QH w w.heap.size now n (.slice sa N sc) (.slice fa M fc) p fl wr) ∧ Hid (rFind (now, p, fl) x 0 N = rFind (now, p, fl) x j (N - j))) (fun _ iv _ => N - (RowKit.intOf iv).toNat)
  case atStart => exact ⟨0, Nat.zero_le _, rfl, H0, Hid.of rfl⟩
  case round =>
    clear H0
    obtain ⟨j, hj, rfl, H, E⟩ := hrel
    obtain ⟨c0, c1, c2, c3⟩ := H.out.at
    have j0 : (0 : Int) ≤ (j : Int) := Int.natCast_nonneg _
    by_cases hlt : j < N
    · have hlt1 : (j : Int) < (N : Int) := by omega
      obtain ⟨a, ha⟩ : ∃ a, rFromN (now, p, fl) j = a := ⟨_, rfl⟩
      have HA := Hid.of ha
      clear ha hj
      have E2 : Hid (rFind (now, p, fl) x 0 N = if a ≤ x then some j else rFind (now, p, fl) x (j + 1) (N - (j + 1))) := Hid.of (by
        rw [E.out, show N - j = (N - (j + 1)) + 1 by omega, rFind, HA.out])
      go_wp2_with fail
      refine (refFrom_any now n _ _ p fl j _ H.out.hs H.out.hf FT.out (by unfold In64; omega)).mono ?_
      rintro e w2 ⟨rfl, b2⟩
      rw [rFrom_nat, HA.out]
      have H2 := Hid.of (H.out.next b2)
      clear b2 H
      by_cases hx : a ≤ x
      · have RES : Hid (rCover (now, p, fl) x = (j : Int)) := Hid.of (by
          unfold rCover
          rw [show ((now, p, fl) : RchL).2.1.2.length = N from HN.out, E2.out, if_pos hx])
        go_wp2
        go_ret
        rw [RES.out]
        exact ⟨rfl, H2.out.fr⟩
      · have E3 : Hid (rFind (now, p, fl) x 0 N = rFind (now, p, fl) x (j + 1) (N - (j + 1))) := Hid.of (by rw [E2.out, if_neg hx])
        go_wp2
        go_roundw
        case rel => exact ⟨j + 1, by omega, by go_num, H2, E3⟩
        case measure => simp [RowKit.intOf]; omega
    · obtain rfl : N = j := by omega
      have RES : Hid (rCover (now, p, fl) x = (N : Int) - 1) := Hid.of (by
        unfold rCover
        rw [show ((now, p, fl) : RchL).2.1.2.length = N from HN.out, E.out, Nat.sub_self, rFind])
      clear hj hlt
      go_wp2
      go_ret
      rw [RES.out]
      exact ⟨rfl, H.out.fr⟩

set_option maxRecDepth 20000 in
set_option maxHeartbeats 3200000 in
theorem refStart_any (now : Int) (n : ByteArray) (s f : Value) (p : PolL) (fl : List Int) (i t : Int) (w : World) (hs : CellRow w s p.2.length (flat penc p.2)) (hf : CellRow w f fl.length (fl.map (Value.int .i64))) (fit : RFit (now, p, fl)) (hi : In64 i) (ht : In64 t) :
    Calls Tryz.prog 31 #[.agg #[.int .i64 now, .string n, s, f], .int .i64 i, .int .i64 t] w fun e w' => e = .returned (.tuple #[.int .i64 (rStart (now, p, fl) i t).1, .bool (rStart (now, p, fl) i t).2]) ∧ Below w.heap.size w w' := by
  have H0 := Hid.of (QH.made (now := now) (n := n) hs hf)
  obtain ⟨sa, sc, rfl, -⟩ := hs
  obtain ⟨fa, fc, rfl, -⟩ := hf
  obtain ⟨N, hN⟩ : ∃ N, p.2.length = N := ⟨_, rfl⟩
  obtain ⟨M, hM⟩ : ∃ M, fl.length = M := ⟨_, rfl⟩
  rw [hN, hM] at H0 ⊢
  obtain ⟨w1, hw1⟩ : ∃ w1, w.alloc (.cells #[.int .i64 now, .string n, .slice sa N sc, .slice fa M fc] 33) = w1 := ⟨_, rfl⟩
  rw [hw1] at H0
  have HW := Hid.of hw1
  have HN := Hid.of hN
  have FT := Hid.of fit
  have HI := Hid.of hi
  have HT := Hid.of ht
  have n9 : (N : Int) ≤ 1000000 := by have := fit.2.1.1; rw [hN] at this; omega
  clear hN hM hw1 fit hi ht
  have key : (i < 0) ∨ (¬ i < 0 ∧ (N : Int) ≤ i) ∨ (¬ i < 0 ∧ ¬ (N : Int) ≤ i ∧ t < 0) ∨ (¬ i < 0 ∧ ¬ (N : Int) ≤ i ∧ ¬ t < 0) := by omega
  rcases key with h1 | ⟨h1, h2⟩ | ⟨h1, h2, h3⟩ | ⟨h1, h2, h3⟩
  iterate 3
    · have hr : rStart (now, p, fl) i t = (0, false) := by
        unfold rStart
        first
          | exact if_pos (Or.inl h1)
          | exact if_pos (Or.inr h3)
          | (split
             · rfl
             · rw [List.getElem?_eq_none (show ((now, p, fl) : RchL).2.1.2.length ≤ i.toNat by show p.2.length ≤ _; rw [HN.out]; omega)])
      rw [hr]
      clear hr
      obtain ⟨c0, c1, c2, c3⟩ := H0.out.at
      go_enter Tryz.func31, Tryz.ntmps31
      go_upto_region 1 with fail
      rw [HW.out]
      go_wp2
      go_ret2
      exact ⟨rfl, H0.out.fr⟩
  · obtain ⟨j, rfl⟩ : ∃ j : Nat, i = j := ⟨i.toNat, by omega⟩
    have j2 : (j : Int) < (N : Int) := by omega
    have j0 : (0 : Int) ≤ (j : Int) := by omega
    obtain ⟨y, hy⟩ : ∃ y, p.2[j]? = some y := ⟨_, List.getElem?_eq_getElem (by rw [HN.out]; omega)⟩
    obtain ⟨a, ha⟩ : ∃ a, rFromN (now, p, fl) j = a := ⟨_, rfl⟩
    obtain ⟨fv, hfv⟩ : ∃ fv, gFloor t y.2.1 = fv := ⟨_, rfl⟩
    have hr : rStart (now, p, fl) (j : Int) t = (fv, decide (a ≤ fv)) := by
      unfold rStart
      rw [if_neg (by omega)]
      have e : ((now, p, fl) : RchL).2.1.2[(j : Int).toNat]? = some y := hy
      rw [e]
      show (gFloor t y.2.1, decide (rFromN (now, p, fl) j ≤ gFloor t y.2.1)) = _
      rw [ha, hfv]
    rw [hr]
    have HF := Hid.of hfv
    have HA := Hid.of ha
    have IT := Hid.of (in_tier FT.out.2.1 hy)
    have row := H0.out.hs
    rw [HN.out] at row
    obtain ⟨sb, so, rfl, sl, q0, q1, q2, q3⟩ := p_at row j y hy
    clear hr hfv ha hy row sl q0 q2 q3 h1 h2
    have j1 : ¬ (j : Int) < 0 := by omega
    have j3 : ¬ (N : Int) ≤ (j : Int) := by omega
    obtain ⟨yn, ye, yk, ys⟩ := y
    obtain ⟨c0, c1, c2, c3⟩ := H0.out.at
    go_enter Tryz.func31, Tryz.ntmps31
    go_upto_region 1 with fail
    rw [HW.out]
    clear HW
    go_wp2_with fail
    refine (refFloor_any t ye HT.out IT.out.1 _).mono ?_
    rintro e w2 ⟨rfl, q, rfl⟩
    rw [HF.out]
    have H2 := Hid.of (H0.out.next (below_drewN (Below.refl _ _) q))
    clear H0 c0 c1 c2 c3 q1
    obtain ⟨c0, c1, c2, c3⟩ := H2.out.at
    go_wp2_with fail
    refine (refFrom_any now n _ _ p fl j _ H2.out.hs H2.out.hf FT.out HI.out).mono ?_
    rintro e w3 ⟨rfl, b3⟩
    rw [rFrom_nat, HA.out]
    go_wp2
    go_ret2
    exact ⟨rfl, H2.out.fr.trans (b3.mono H2.out.fr.size)⟩

end Go.Proofs.YtdchjcidfaencaaGreat

namespace Go.Proofs.YtdchjcidfaencaaGreat
open Go.RowKit Go.Lib

/-- A variable of a struct type, as a row of one's own. -/
theorem cells_own (w : World) (cs : Array Value) (T : TypeId) (k : Nat) (hk : cs.size = k) : (w.alloc (.cells cs T)).ownsRow w.heap.size T k (.slice (some ⟨w.heap.size, 0, none⟩) 1 1) 1 cs.toList :=
  ⟨by rw [Array.length_toList, hk, Nat.one_mul], .inr ⟨w.heap.size, 1, cs, rfl, Nat.le_refl _, Go.heap_alloc_new _ _, Nat.le_refl _, by unfold maxLen; omega, by rw [hk, Nat.one_mul], by rw [List.take_of_length_le (by rw [Array.length_toList, hk, Nat.one_mul]; exact Nat.le_refl _)]⟩⟩

theorem cells_blk {w : World} {D b k : Nat} {cs : Array Value} {T : TypeId} (h : w.ownsRow D T k (.slice (some ⟨b, 0, none⟩) 1 1) 1 cs.toList) : w.heap[b]? = some (.cells cs T (0, 0)) := by
  rcases h.2 with ⟨h1, _⟩ | ⟨g, cap, cur, hv, hb, hg, hnc, hcm, hcs, htk⟩
  · cases h1
  · cases hv
    have e : cur.toList = cs.toList := by
      rw [← htk, List.take_of_length_le (by rw [Array.length_toList, hcs]; exact Nat.le_refl _)]
    have e2 : cur = cs := Array.ext' e
    rw [e2] at hg
    exact hg

section
variable {p D : Nat} {cs : Array Value} {T : TypeId} {w0 w w' : World} {rs : List Row1}

/-- Two rows of one's own more, that lie apart. -/
theorem Here.more2 {e e2 : TypeId} {s s2 : Nat} {v v2 : Value} {n n2 : Nat} {xs xs2 : List Value} (h : Here p D cs T w0 w rs []) (b : Below w.heap.size w w') (o : w'.ownsRow w.heap.size e s v n xs) (o2 : w'.ownsRow w.heap.size e2 s2 v2 n2 xs2) (ap : Apart v v2) :
    Here p D cs T w0 w' (⟨e, s, v, n, xs⟩ :: ⟨e2, s2, v2, n2, xs2⟩ :: rs) [] := by
  have h2 := h.more b o2
  refine ⟨h2.hp, h2.hD, h2.blk, h2.fr, ?_⟩
  refine ⟨fun r hr => ?_, List.pairwise_cons.2 ⟨fun r hr => ?_, h2.bag.apart⟩, h2.bag.seen, fun q hq => absurd hq List.not_mem_nil⟩
  · rcases List.mem_cons.1 hr with rfl | hr
    · exact own_mono o h.hD
    · exact h2.bag.own r hr
  · rcases List.mem_cons.1 hr with rfl | hr
    · exact ap
    · intro g hg hg'
      have h3 := (o.lt g hg).1
      have h4 := ((h.bag.own r hr).lt g hg').2
      omega

/-- A row that is nil yet. -/
theorem Here.nil (e : TypeId) (h : Here p D cs T w0 w rs []) : Here p D cs T w0 w (⟨e, 1, .slice none 0 0, 0, []⟩ :: rs) [] :=
  ⟨h.hp, h.hD, h.blk, h.fr, ⟨fun r hr => by
    rcases List.mem_cons.1 hr with rfl | hr
    · exact World.ownsRow_nil w _ _ 1
    · exact h.bag.own r hr, List.pairwise_cons.2 ⟨fun x _ g hg => (by cases hg), h.bag.apart⟩, h.bag.seen, fun q hq => absurd hq List.not_mem_nil⟩⟩

/-- The first row has grown. -/
theorem Here.grow {r : Row1} {v' : Value} {n' : Nat} {xs' : List Value} (h : Here p D cs T w0 w (r :: rs) []) (hg : w.grownBy w' r.v.ownBlock) (ho : w'.ownsRow D r.e r.s v' n' xs') (hw : v'.ownBlock = r.v.ownBlock ∨ ∃ g, v'.ownBlock = some g ∧ w.heap.size ≤ g) :
    Here p D cs T w0 w' (⟨r.e, r.s, v', n', xs'⟩ :: rs) [] := by
  have own := h.bag.own r (List.mem_cons_self ..)
  have hp := h.hp
  have hD := h.hD
  refine ⟨hp, Nat.le_trans hD hg.size, ?_, h.fr.grown hg (by omega) (fun x hx => by have := (own.lt x hx).1; omega), h.bag.grow hg ho hw⟩
  rw [hg.block p (by omega) (fun e => by have := (own.lt p e.symm).1; omega)]
  exact h.blk
end

abbrev rRow (b : Nat) (now : Int) (n : ByteArray) (s f : Value) : Row1 := ⟨46, 4, .slice (some ⟨b, 0, none⟩) 1 1, 1, [.int .i64 now, .string n, s, f]⟩
abbrev iRow (v : Value) (xs : List Int) : Row1 := ⟨3, 1, v, xs.length, xs.map (Value.int .i64)⟩
abbrev pRow (v : Value) (l : List TierL) : Row1 := ⟨31, 4, v, l.length, flat penc l⟩

/-- A list that the Book keeps, as it is. -/
theorem iblk_has {p D : Nat} {cs : Array Value} {T : TypeId} {w0 w : World} {V W : Value} {ls : List (Value × Value × List Int)} {rows qs : List Row1} (h : Here p D cs T w0 w rows qs) (hs : ∀ r ∈ iblk V W ls, r ∈ rows) (y : Value × Value × List Int) (hy : y ∈ ls) : CellRow w y.1 y.2.2.length (y.2.2.map (Value.int .i64)) := by
  have m1 : itodo (ikept y) ∈ rows := by
    refine hs _ (List.mem_cons_of_mem _ (List.mem_append_left _ ?_))
    rw [irows_zero, List.map_map]
    exact List.mem_map.2 ⟨y, hy, rfl⟩
  have o1 := own_row (h.bag.own _ m1)
  simp only [itodo, ikept, List.length_map] at o1
  exact o1

/-- An answered Reach, out of its rows. -/
theorem rch_of {q D : Nat} {cs : Array Value} {T : TypeId} {w0 u : World} {rows qs : List Row1} {now : Int} {n : ByteArray} {s f : Value} {p : PolL} {fl : List Int} (h : Here q D cs T w0 u rows qs) (hn : p.1 = n) (h1 : pRow s p.2 ∈ rows) (h2 : iRow f fl ∈ rows) (hc : CapOk s ∧ CapOk f) : RchRow u (.agg #[.int .i64 now, .string n, s, f]) (now, p, fl) :=
  ⟨s, f, by rw [← hn]; rfl, own_row (h.bag.own _ h1), own_row (h.bag.own _ h2), hc⟩

section
variable {S : ReachSpec} {B bx bq br by_ bl D bp N : Nat} {n sn : ByteArray} {st sx now m : Int} {sl gv lq s1 f1 s2 f2 mv lv av : Value} {p : PolL} {fl : List Int} {u u' w0 : World} {cs : Array Value} {rows : List Row1}

/-- The document's own Reach, in a variable. -/
abbrev XBlk (u : World) (b : Nat) (now : Int) (n : ByteArray) (s f : Value) : Prop := u.heap[b]? = some (.cells #[.int .i64 now, .string n, s, f] 33 (0, 0))

theorem XBlk.at {u : World} {b : Nat} {now : Int} {n : ByteArray} {s f : Value} (h : XBlk u b now n s f) : u.cell? ⟨b, 0, none⟩ = some (.int .i64 now) ∧ u.cell? ⟨b, 1, none⟩ = some (.string n) ∧ u.cell? ⟨b, 2, none⟩ = some s ∧ u.cell? ⟨b, 3, none⟩ = some f := by
  refine ⟨?_, ?_, ?_, ?_⟩ <;> (rw [cell_of_row u b _ _ _ _ h]; rfl)

theorem RBlk.at' {u : World} {b : Nat} {now : Int} {n : ByteArray} {s f : Value} (h : u.heap[b]? = some (.cells #[.int .i64 now, .string n, s, f] 46 (0, 0))) : u.cell? ⟨b, 0, none⟩ = some (.int .i64 now) ∧ u.cell? ⟨b, 1, none⟩ = some (.string n) ∧ u.cell? ⟨b, 2, none⟩ = some s ∧ u.cell? ⟨b, 3, none⟩ = some f := by
  refine ⟨?_, ?_, ?_, ?_⟩ <;> (rw [cell_of_row u b _ _ _ _ h]; rfl)

end

end Go.Proofs.YtdchjcidfaencaaGreat
