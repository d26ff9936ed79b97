/-
  ViewOrder: the order in which samples came does not matter; samples that no tier has any more change nothing.
-/
import Derived.Test.YtdhkmcmipkfkjaaVLTq
import Derived.Test.YtdhkmcmipkfkjaaVSWq
import Derived.Test.YtdhkmcmipkfkjaaQ15
namespace Go.Proofs.Ytdhkmcmipkfkjaa
open Go.RowKit Go.Lib

/-- What came in: a policy and a sample in variables. -/
structure PM (S : ReachSpec) (B : Nat) (n : ByteArray) (sl : Value) (p : PolL) (mn : ByteArray) (mt mx : Int) (w0 w : World) : Prop where
  pv : PV S B n sl p w0 w
  km : w.heap[B + 1]? = some (.cells #[.string mn, .int .i64 mt, .int .i64 mx] 28 (0, 0))

section
variable {S : ReachSpec} {B : Nat} {n : ByteArray} {sl : Value} {p : PolL} {mn : ByteArray} {mt mx : Int} {w0 w w' : World}
theorem PM.next (h : PM S B n sl p mn mt mx w0 w) (b : Below w.heap.size w w') : PM S B n sl p mn mt mx w0 w' := ⟨h.pv.next b, (b.block _ (Array.getElem?_eq_some_iff.1 h.km).1).trans h.km⟩
theorem PM.sat (h : PM S B n sl p mn mt mx w0 w) : w.cell? ⟨B + 1, 0, none⟩ = some (.string mn) ∧ w.cell? ⟨B + 1, 1, none⟩ = some (.int .i64 mt) ∧ w.cell? ⟨B + 1, 2, none⟩ = some (.int .i64 mx) := by
  refine ⟨?_, ?_, ?_⟩ <;> (rw [cell_of_row w (B + 1) _ _ _ _ h.km]; rfl)
end

/-- .. and the reach in a variable. -/
structure OZ (S : ReachSpec) (B : Nat) (n : ByteArray) (sl : Value) (p : PolL) (mn : ByteArray) (mt mx : Int) (w0 : World) (z : Nat) (now : Int) (s f : Value) (w : World) : Prop where
  pm : PM S B n sl p mn mt mx w0 w
  rh : RH S w0 z now n s f (now, p, []) w

section
variable {S : ReachSpec} {B z : Nat} {n : ByteArray} {sl s f : Value} {p : PolL} {mn : ByteArray} {mt mx now : Int} {w0 w w' : World}
theorem OZ.next (h : OZ S B n sl p mn mt mx w0 z now s f w) (b : Below w.heap.size w w') : OZ S B n sl p mn mt mx w0 z now s f w' := ⟨h.pm.next b, h.rh.next b⟩
theorem OZ.ok (h : OZ S B n sl p mn mt mx w0 z now s f w) : S.Ok w := h.rh.ok
theorem OZ.x (h : OZ S B n sl p mn mt mx w0 z now s f w) : RchRow w (.agg #[.int .i64 now, .string n, s, f]) (now, p, []) := h.rh.x
theorem OZ.cs2 (h : OZ S B n sl p mn mt mx w0 z now s f w) : Cs w [(⟨z, 0, none⟩, .int .i64 now), (⟨z, 1, none⟩, .string n), (⟨z, 2, none⟩, s), (⟨z, 3, none⟩, f), (⟨B + 1, 0, none⟩, .string mn), (⟨B + 1, 1, none⟩, .int .i64 mt), (⟨B + 1, 2, none⟩, .int .i64 mx)] := by
  obtain ⟨c0, c1, c2, c3⟩ := h.rh.at
  obtain ⟨e0, e1, e2⟩ := h.pm.sat
  have l1 := (Array.getElem?_eq_some_iff.1 h.rh.k).1
  have l2 := (Array.getElem?_eq_some_iff.1 h.pm.km).1
  exact .cons l1 c0 (.cons l1 c1 (.cons l1 c2 (.cons l1 c3 (.cons l2 e0 (.cons l2 e1 (.cons l2 e2 (.nil _)))))))
theorem OZ.cs (h : OZ S B n sl p mn mt mx w0 z now s f w) : Cs w [(⟨z, 0, none⟩, .int .i64 now), (⟨z, 1, none⟩, .string n), (⟨z, 2, none⟩, s), (⟨z, 3, none⟩, f)] := by
  obtain ⟨c0, c1, c2, c3⟩ := h.rh.at
  have l1 := (Array.getElem?_eq_some_iff.1 h.rh.k).1
  exact .cons l1 c0 (.cons l1 c1 (.cons l1 c2 (.cons l1 c3 (.nil _))))
end

/-- It does not matter in what order samples came. -/
theorem vT_perm {r : RchL} {i : Int} {a b : List SamL} (hs : ∀ s ∈ a, SFit s) (h : a.Perm b) : vT r i a = vT r i b := by
  unfold vT
  split
  · unfold iView iRecs
    refine (tAdds_perm (fun x hx => ?_) (((h.filter _).filter _).map _)).1
    obtain ⟨s, hs', rfl⟩ := List.mem_map.1 hx
    have f := hs s (List.mem_filter.1 (List.mem_filter.1 hs').1).1
    exact (agOf_good (fun x hx => by rw [List.mem_singleton.1 hx]; exact f.2.2)).1
  · rfl

/-- What All answers, told of each tier. -/
structure AllRow (w : World) (u : Value) (us : List Value) (r : RchL) (ss : List SamL) : Prop where
  o : CellRow w u us.length us
  i : ∀ (k : Nat) x, us[k]? = some x → ∃ a c, x = .slice a (vT r (k : Int) ss).length c ∧ CellRow w x (vT r (k : Int) ss).length (flat renc ((vT r (k : Int) ss).map rl))

theorem AllRow.of {D : Nat} {w : World} {u : Value} {us : List Value} {r : RchL} {ss : List SamL} (h : Bag D w (oRow u us :: vRows r ss us) []) : AllRow w u us r ss :=
  ⟨own_row (h.own _ (List.mem_cons_self ..)), fun k x hx => by
    have o := h.own _ (List.mem_cons_of_mem _ (vRows_at (r := r) (ss := ss) hx))
    obtain ⟨a, c, e, -⟩ := own_one o
    have rw_ := own_row o
    simp only at e rw_
    rw [tflat] at rw_
    exact ⟨a, c, e, rw_⟩⟩
theorem AllRow.kept {w w' : World} {u : Value} {us : List Value} {r : RchL} {ss : List SamL} (h : AllRow w u us r ss) (b : Below w.heap.size w w') : AllRow w' u us r ss :=
  ⟨h.o.kept b, fun k x hx => by
    obtain ⟨a, c, e, k⟩ := h.i k x hx
    exact ⟨a, c, e, k.kept b⟩⟩

set_option maxRecDepth 20000 in
set_option maxHeartbeats 12800000 in
theorem viewOrder_main (S : ReachSpec) (v sv gv : Value) (p : PolL) (now : Int) (ss : List SamL) (os : List Int) (mn : ByteArray) (mt mx : Int) (w : World) (hS : S.Ok w) (hv : PolRow w v p) (hpn : p.1.size ≤ maxLen) (hp : ∀ x ∈ p.2, TIn x) (hnow : In64 now) (hs : CellRow w sv ss.length (flat aenc ss)) (fs : ∀ s ∈ ss, SFit s) (hg : NumRow .i64 w gv os) (hos : ∀ x ∈ os, In64 x) (hmn : mn.size ≤ maxLen) (hmt : In64 mt) (hmx : In64 mx) :
    Calls Try.prog 3 #[v, .int .i64 now, sv, gv, .agg #[.string mn, .int .i64 mt, .int .i64 mx]] w fun e w' => e = .returned (.bool true) ∧ Below w.heap.size w w' := by
  obtain ⟨sl, rfl, hsl, hsk⟩ := hv
  have HSL := Hid.of hsl
  obtain ⟨sa, sc, rfl, -⟩ := hsl
  have HV := Hid.of hs
  obtain ⟨va, vc, rfl, -⟩ := hs
  obtain ⟨n, hn⟩ : ∃ n, p.1 = n := ⟨_, rfl⟩
  obtain ⟨N, hN⟩ : ∃ N, p.2.length = N := ⟨_, rfl⟩
  rw [hn, hN]
  rw [hN] at HSL
  have HSK : Hid (CapOk (.slice sa N sc)) := Hid.of (by rw [← hN]; exact hsk)
  clear hsk
  have HG := Hid.of (NumRow.cells' hg)
  obtain ⟨ga, gc, rfl, -⟩ := hg
  obtain ⟨O, hO⟩ : ∃ O, os.length = O := ⟨_, rfl⟩
  rw [hO] at HG ⊢
  have HO := Hid.of hO
  clear hO
  obtain ⟨B, hB⟩ : ∃ B, w.heap.size = B := ⟨_, rfl⟩
  obtain ⟨w1, hw1⟩ : ∃ w1, (w.alloc (.cells #[.string n, .slice sa N sc] 24)).alloc (.cells #[.string mn, .int .i64 mt, .int .i64 mx] 28) = w1 := ⟨_, rfl⟩
  have b1 : Below w.heap.size w w1 := by rw [← hw1]; exact ((Below.refl _ _).alloc (Nat.le_refl _) _).alloc (by simp) _
  have I1 : Hid (PM S B n (.slice sa N sc) p mn mt mx w w1) := Hid.of
    ⟨⟨by rw [← hw1, ← hB]; exact (PBlk.made w _ _).kept ((Below.refl _ _).alloc (Nat.le_refl _) _), ⟨_, by rw [hn], by rw [hN]; exact HSL.out, HSK.out⟩, hS, b1, hB⟩, by
      rw [← hw1, ← hB]
      have h := Go.heap_alloc_new (w.alloc (.cells #[.string n, .slice sa N sc] 24)) (.cells #[.string mn, .int .i64 mt, .int .i64 mx] 28 (0, 0))
      rw [show (w.alloc (.cells #[.string n, .slice sa N sc] 24)).heap.size = w.heap.size + 1 by simp] at h
      exact h⟩
  have HNW := Hid.of hnow
  have HOS := Hid.of hos
  have HMN := Hid.of hmn
  have HMT := Hid.of hmt
  have HMX := Hid.of hmx
  have HW := Hid.of hw1
  have HBB := Hid.of hB
  have HN := Hid.of hN
  have Hn := Hid.of hn
  have HP := Hid.of hp
  have HPN := Hid.of hpn
  have FS := Hid.of fs
  clear hw1 b1 hN hn hS hp HSL fs hB hpn hnow hos hmn hmt hmx
  obtain ⟨c0, c1⟩ := I1.out.pv.k.at
  go_enter Try.func3, Try.ntmps3
  go_upto_region 1 with fail
  rw [HW.out, HBB.out]
  clear HW
  go_wp2_with fail
  refine (refCheck_wide _ p _ I1.out.pv.row HPN.out (fun x hx => (HP.out x hx).1)).mono ?_
  rintro e w2 ⟨rfl, b2⟩
  have I2 := Hid.of (I1.out.next b2)
  clear b2 I1 c0 c1
  obtain ⟨ce, cn, hce⟩ : ∃ ce cn, pCheck p = (ce, cn) := ⟨_, _, rfl⟩
  have HCE := Hid.of hce
  rw [hce]
  simp only
  clear hce
  obtain ⟨c0, c1⟩ := I2.out.pv.k.at
  go_wp2_with fail
  refine (Small_any _ p _ I2.out.pv.row).mono ?_
  rintro e w3 ⟨r, rfl, hr, b3⟩
  have I3 := Hid.of (I2.out.next b3)
  clear b3 I2 c0 c1
  obtain ⟨c0, c1⟩ := I3.out.pv.k.at
  have BAD : Hid (∀ w9, PV S B n (.slice sa N sc) p w w9 → Calls Try.prog 9 #[] w9 fun e w' => e = .returned (.bool true) ∧ Below w.heap.size w w') := Hid.of (fun w9 h => by
    refine (viewAlive_any S w9 h.ok).mono ?_
    rintro e w' ⟨he, b⟩
    exact ⟨he, h.fr.trans (b.mono h.fr.size)⟩)
  cases r with
  | false =>
    go_wp2_with fail
    refine (BAD.out _ I3.out.pv).mono ?_
    rintro e w4 ⟨rfl, b4⟩
    go_wp2
    go_ret
    exact ⟨rfl, b4⟩
  | true =>
    have SP := Hid.of (fit_of HP.out (hr.out rfl))
    clear hr
    go_wp2_with fail
    refine (Some_any 30 _ ss _ (HV.out.kept I3.out.pv.fr) (by decide)).mono ?_
    rintro e w4 ⟨r, rfl, hr, b4⟩
    have I4 := Hid.of (I3.out.next b4)
    clear b4 I3 c0 c1
    obtain ⟨c0, c1⟩ := I4.out.pv.k.at
    cases r with
    | false =>
      go_wp2_with fail
      refine (BAD.out _ I4.out.pv).mono ?_
      rintro e w5 ⟨rfl, b5⟩
      go_wp2
      go_ret
      exact ⟨rfl, b5⟩
    | true =>
      have SF : Hid (ss.length ≤ 30) := Hid.of (hr.out rfl).1
      clear hr
      obtain ⟨e0, e1, e2⟩ := I4.out.sat
      by_cases hbad : (60 : Int) < (O : Int) ∨ (60 : Int) < (mn.size : Int) ∨ ce ≠ 0
      · have hb2 : (60 : Int) < (O : Int) ∨ (¬ (60 : Int) < (O : Int) ∧ (60 : Int) < (mn.size : Int)) ∨ (¬ (60 : Int) < (O : Int) ∧ ¬ (60 : Int) < (mn.size : Int) ∧ ce ≠ 0) := by omega
        clear hbad
        rcases hb2 with h1 | ⟨h1, h2⟩ | ⟨h1, h2, h5⟩
        all_goals
          try have h6 : (ce != 0) = true := by simpa using h5
          go_wp2_with fail
          refine (BAD.out _ I4.out.pv).mono ?_
          rintro e w5 ⟨rfl, b5⟩
          go_wp2
          go_ret
          exact ⟨rfl, b5⟩
      · obtain ⟨h1, h2, h5⟩ : ¬ (60 : Int) < (O : Int) ∧ ¬ (60 : Int) < (mn.size : Int) ∧ ce = 0 := by omega
        subst h5
        have HC : Hid ((pCheck p).1 = 0) := Hid.of (by rw [HCE.out])
        have O60 : Hid (O ≤ 60) := Hid.of (by omega)
        have FT : Hid (RFit (now, p, [])) := Hid.of ⟨HNW.out, SP.out, by simp, fun _ h => by cases h⟩
        have VK := Hid.of (vok_of HC.out now [])
        have MF : Hid (SFit (mn, mt, mx)) := Hid.of ⟨HMN.out, HMT.out, HMX.out⟩
        clear hbad HCE
        go_upto_region 4 with fail
        clear e0 e1 e2 c0 c1 h1 h2
        obtain ⟨M, hM⟩ : ∃ M, ss.length = M := ⟨_, rfl⟩
        have HM := Hid.of hM
        have V4 := Hid.of (HV.out.kept I4.out.pv.fr)
        have HFL : Hid ((flat aenc ss).length = M * 3) := Hid.of (by rw [flat_length aenc_len, hM])
        have MH : Hid (M ≤ 30) := Hid.of (by rw [← hM]; exact SF.out)
        rw [hM] at V4 ⊢
        clear hM
        obtain ⟨i0, hi, hz0, hz1, hz2⟩ := info_parts samV_info
        have HI := Hid.of hi
        have HZ0 := Hid.of hz0
        have HZ1 := Hid.of hz1
        have HZ2 := Hid.of hz2
        clear hi hz0 hz1 hz2
        have m9 : M ≤ 30 := MH.out
        go_wp2_with (at_builtin; refine append_row_law rfl _ (.tmp 53) 25 rfl w4.heap.size 28 i0 _ 3 32 Try.underlying25 HI.out HZ0.out HZ1.out HZ2.out rfl (by decide) (.slice none 0 0) 0 [] rfl ⟨rfl, .inl ⟨rfl, rfl⟩⟩ _ M _ rfl V4.out HFL.out (flat_ones aenc_one _) (by unfold maxLen; omega) (by omega) (Nat.le_refl _) ?_; intro v1 w5 o1 g1; have O1 : Hid (w5.ownsRow w4.heap.size 28 3 v1 M (flat aenc ss)) := Hid.of (by simpa using o1); have B5 : Hid (Below w4.heap.size w4 w5) := Hid.of (below_of_none g1); clear o1 g1)
        obtain ⟨ma, mc, rfl, -⟩ := own_one O1.out
        go_loopw [14, 15, 16] (fun iv _ _ wr => ∃ (i : Nat) (ms : List SamL), i ≤ O ∧ iv = .int .i64 i ∧ Hid (ms.Perm ss) ∧ Hid (wr.ownsRow w4.heap.size 28 3 (.slice ma M mc) M (flat aenc ms)) ∧ Hid (Below w4.heap.size w4 wr)) (fun iv _ _ _ => O - (RowKit.intOf iv).toNat)
        case atStart => exact ⟨0, ss, Nat.zero_le _, rfl, Hid.of (List.Perm.refl _), O1, B5⟩
        case round =>
          clear O1 B5
          obtain ⟨i, ms, hi, rfl, PM, OR, BR⟩ := hrel
          have i0 : (0 : Int) ≤ (i : Int) := Int.natCast_nonneg _
          have i9 : (i : Int) ≤ 60 := by have := O60.out; omega
          obtain ⟨both, hboth⟩ : ∃ both, decide (i + 1 < O ∧ 0 < M) = both := ⟨_, rfl⟩
          have HBO := Hid.of hboth
          clear hboth
          go_upto_region 6 with fail
          go_cut [64] (fun bv wx => bv = .bool both ∧ wr = wx)
          case first =>
            have hex : (¬ (i : Int) + 1 < (O : Int)) ∨ ((i : Int) + 1 < (O : Int) ∧ M = 0) ∨ ((i : Int) + 1 < (O : Int) ∧ 0 < M) := by omega
            rcases hex with m1 | ⟨m1, m2⟩ | ⟨m1, m2⟩
            · go_wp2_with fail
              go_meet
              exact ⟨congrArg Value.bool (by rw [← HBO.out]; exact (decide_eq_false (by omega)).symm), rfl⟩
            · have m3 : ¬ (0 : Int) < (M : Int) := by omega
              have MZ := Hid.of m2
              clear m2
              go_wp2_with fail
              go_meet
              exact ⟨congrArg Value.bool (by have := MZ.out; rw [← HBO.out, Bool.eq_iff_iff]; simp only [decide_eq_true_eq]; omega), rfl⟩
            · have m3 : (0 : Int) < (M : Int) := by omega
              go_wp2_with fail
              go_meet
              exact ⟨congrArg Value.bool (by rw [← HBO.out]; exact (decide_eq_true (by omega)).symm), rfl⟩
          case rest =>
            obtain ⟨rfl, rfl⟩ := hcut
            cases both with
            | true =>
              obtain ⟨hO1, hM0⟩ := of_decide_eq_true HBO.out
              clear HBO
              obtain ⟨g, hg⟩ : ∃ g, ma = some ⟨g, 0, none⟩ := by
                rcases OR.out.2 with ⟨h, h'⟩ | ⟨g, cap, cur, h, _⟩
                · omega
                · simp only [Value.slice.injEq] at h
                  exact ⟨g, h.1⟩
              subst hg
              have hms : ms.length = M := PM.out.length_eq.trans HM.out
              have HMS := Hid.of hms
              have G1 := Hid.of (HG.out.kept (I4.out.pv.fr.trans (BR.out.mono I4.out.pv.fr.size)))
              obtain ⟨x, hx⟩ : ∃ x, os.getD i 0 = x := ⟨_, rfl⟩
              obtain ⟨y, hy⟩ : ∃ y, os.getD (i + 1) 0 = y := ⟨_, rfl⟩
              obtain ⟨gb, go, rfl, -, gx⟩ := int_at G1.out i (by rw [HO.out]; omega) HO.out.symm
              obtain ⟨gb', go', hgb, -, gy⟩ := int_at G1.out (i + 1) (by rw [HO.out]; omega) HO.out.symm
              simp only [Option.some.injEq, Addr.mk.injEq, and_true] at hgb
              obtain ⟨rfl, rfl⟩ := hgb
              rw [hx] at gx
              rw [hy] at gy
              obtain ⟨k, hk⟩ : ∃ k, i + 1 = k := ⟨_, rfl⟩
              rw [hk] at gy
              have wk : IntKind.i64.wrap ((i : Int) + 1) = (k : Int) := by
                simp [IntKind.wrap, IntKind.bits, IntKind.signed]
                omega
              obtain ⟨r1, s1, a, ra, sa1, ta, a9, sa0, sa9, ra0, ra9⟩ := vplaced (x := x) hM0
              obtain ⟨r2, s2, b, rb, sb1, tb, b9, sb0, sb9, rb0, rb9⟩ := vplaced (x := y) hM0
              have wa : IntKind.i64.wrap (r1 + (M : Int)) = s1 := by
                rw [sa1]
                simp [IntKind.wrap, IntKind.bits, IntKind.signed]
                omega
              have wb : IntKind.i64.wrap (r2 + (M : Int)) = s2 := by
                rw [sb1]
                simp [IntKind.wrap, IntKind.bits, IntKind.signed]
                omega
              have mz : ¬ (M : Int) = 0 := by omega
              have ii1 : (i : Int) < (O : Int) := by omega
              have k0 : (0 : Int) ≤ (k : Int) := by omega
              have k1 : (k : Int) < (O : Int) := by omega
              have A9 := Hid.of a9
              have B9 := Hid.of b9
              clear hx hy hk sa1 sb1 sa0 sa9 ra0 ra9 sb0 sb9 rb0 rb9 hms G1 a9 b9 hi
              go_upto_region 8 with fail
              go_quiet (fail)
              clear gx gy wk ra ta rb tb wa wb mz ii1 k0 k1
              go_upto_region 9 with fail
              have OR2 : Hid ((wr.drewN nq).ownsRow w4.heap.size 28 3 (.slice (some ⟨g, 0, none⟩) M mc) M (flat aenc ms)) := Hid.of ((Step.of_below (F := fun _ => False) (below_drewN (Below.refl _ _) nq)).own OR.out (fun _ _ c => c))
              have BR2 := Hid.of (below_drewN BR.out nq)
              generalize wr.drewN nq = wb at *
              obtain ⟨ya, hya⟩ : ∃ ya, ms[a]? = some ya := ⟨_, List.getElem?_eq_getElem (by rw [HMS.out]; exact A9.out)⟩
              obtain ⟨yb, hyb⟩ : ∃ yb, ms[b]? = some yb := ⟨_, List.getElem?_eq_getElem (by rw [HMS.out]; exact B9.out)⟩
              have CR := own_row OR2.out
              obtain ⟨ba, oa, hba, -, qa⟩ := a_at CR a ya hya
              obtain ⟨bb, ob, hbb, -, qb⟩ := a_at CR b yb hyb
              simp only [Option.some.injEq, Addr.mk.injEq, and_true] at hba hbb
              obtain ⟨rfl, rfl⟩ := hba
              obtain ⟨rfl, rfl⟩ := hbb
              obtain ⟨xa0, xa1, xa2⟩ := qa
              obtain ⟨xb0, xb1, xb2⟩ := qb
              simp only [Nat.zero_add] at xa0 xa1 xa2 xb0 xb1 xb2
              have HYA := Hid.of hya
              have HYB := Hid.of hyb
              have ia0 : (0 : Int) ≤ (a : Int) := by omega
              have ia1 : (a : Int) < (M : Int) := by have := A9.out; omega
              have ib0 : (0 : Int) ≤ (b : Int) := by omega
              have ib1 : (b : Int) < (M : Int) := by have := B9.out; omega
              clear hya hyb CR OR BR
              refine wp_region_noPanic ?_
              refine wp_region_held_drew (S := fun _ => True) (by kernel_rfl) trivial (fun hHeld => ?_)
              refine wpAnyH_take (i := 0) (oi := ⟨_, _, _, _, _, _⟩) (v := ?_) rfl (by kernel_rfl) (by kernel_rfl) (by kernel_rfl) (fun _ _ _ h => h) (Or.inl ⟨by rfl, ?_⟩) hHeld ?_
              rotate_left
              · intro w' hSw
                try dsimp only at hSw
                go_simp
                all_goals with_reducible rfl
              simp only [Act.put, List.setIfInBounds_toArray, List.set_cons_zero, List.set_cons_succ]
              refine wpAnyH_take (i := 1) (oi := ⟨_, _, _, _, _, _⟩) (v := ?_) rfl (by kernel_rfl) (by kernel_rfl) (by kernel_rfl) (fun _ _ _ h => h) (Or.inl ⟨by rfl, ?_⟩) hHeld ?_
              rotate_left
              · intro w' hSw
                try dsimp only at hSw
                go_simp
                all_goals with_reducible rfl
              simp only [Act.put, List.setIfInBounds_toArray, List.set_cons_zero, List.set_cons_succ]
              refine wpAnyH_take (i := 2) (oi := ⟨_, _, _, _, _, _⟩) (v := ?_) rfl (by kernel_rfl) (by kernel_rfl) (by kernel_rfl) (fun _ _ _ h => h) (Or.inl ⟨by rfl, ?_⟩) hHeld ?_
              rotate_left
              · intro w' hSw
                try dsimp only at hSw
                go_simp
                all_goals with_reducible rfl
              simp only [Act.put, List.setIfInBounds_toArray, List.set_cons_zero, List.set_cons_succ]
              refine wpAnyH_take (i := 3) (oi := ⟨_, _, _, _, _, _⟩) (v := ?_) rfl (by kernel_rfl) (by kernel_rfl) (by kernel_rfl) (fun _ _ _ h => h) (Or.inl ⟨by rfl, ?_⟩) hHeld ?_
              rotate_left
              · intro w' hSw
                try dsimp only at hSw
                go_simp
                all_goals with_reducible rfl
              simp only [Act.put, List.setIfInBounds_toArray, List.set_cons_zero, List.set_cons_succ]
              refine wpAnyH_take (i := 4) (oi := ⟨_, _, _, _, _, _⟩) (v := ?_) rfl (by kernel_rfl) (by kernel_rfl) (by kernel_rfl) (fun _ _ _ h => h) (Or.inl ⟨by rfl, ?_⟩) hHeld ?_
              rotate_left
              · intro w' hSw
                try dsimp only at hSw
                go_simp
                all_goals with_reducible rfl
              simp only [Act.put, List.setIfInBounds_toArray, List.set_cons_zero, List.set_cons_succ]
              refine wpAnyH_take (i := 5) (oi := ⟨_, _, _, _, _, _⟩) (v := ?_) rfl (by kernel_rfl) (by kernel_rfl) (by kernel_rfl) (fun _ _ _ h => h) (Or.inl ⟨by rfl, ?_⟩) hHeld ?_
              rotate_left
              · intro w' hSw
                try dsimp only at hSw
                go_simp
                all_goals with_reducible rfl
              simp only [Act.put, List.setIfInBounds_toArray, List.set_cons_zero, List.set_cons_succ]
              refine wpAnyH_take (i := 6) (oi := ⟨_, _, _, _, _, _⟩) (v := ?_) rfl (by kernel_rfl) (by kernel_rfl) (by kernel_rfl) (fun _ _ _ h => h) (Or.inl ⟨by rfl, ?_⟩) hHeld ?_
              rotate_left
              · intro w' hSw
                try dsimp only at hSw
                go_simp
                all_goals with_reducible rfl
              simp only [Act.put, List.setIfInBounds_toArray, List.set_cons_zero, List.set_cons_succ]
              refine wpAnyH_take (i := 8) (oi := ⟨_, _, _, _, _, _⟩) (v := ?_) rfl (by kernel_rfl) (by kernel_rfl) (by kernel_rfl) (fun _ _ _ h => h) (Or.inl ⟨by rfl, ?_⟩) hHeld ?_
              rotate_left
              · intro w' hSw
                try dsimp only at hSw
                go_simp
                all_goals with_reducible rfl
              simp only [Act.put, List.setIfInBounds_toArray, List.set_cons_zero, List.set_cons_succ]
              refine wpAnyH_take (i := 9) (oi := ⟨_, _, _, _, _, _⟩) (v := ?_) rfl (by kernel_rfl) (by kernel_rfl) (by kernel_rfl) (fun _ _ _ h => h) (Or.inl ⟨by rfl, ?_⟩) hHeld ?_
              rotate_left
              · intro w' hSw
                try dsimp only at hSw
                go_simp
                all_goals with_reducible rfl
              simp only [Act.put, List.setIfInBounds_toArray, List.set_cons_zero, List.set_cons_succ]
              refine wpAnyH_take (i := 10) (oi := ⟨_, _, _, _, _, _⟩) (v := ?_) rfl (by kernel_rfl) (by kernel_rfl) (by kernel_rfl) (fun _ _ _ h => h) (Or.inl ⟨by rfl, ?_⟩) hHeld ?_
              rotate_left
              · intro w' hSw
                try dsimp only at hSw
                go_simp
                all_goals with_reducible rfl
              simp only [Act.put, List.setIfInBounds_toArray, List.set_cons_zero, List.set_cons_succ]
              obtain ⟨wd, hwd⟩ : ∃ wd, wb.drew = wd := ⟨_, rfl⟩
              have OD : Hid (wd.ownsRow w4.heap.size 28 3 (.slice (some ⟨g, 0, none⟩) M mc) M (flat aenc ms)) := Hid.of (by rw [← hwd]; exact (Step.of_below (F := fun _ => False) (Below.refl _ _).drew).own OR2.out (fun _ _ c => c))
              have BD : Hid (Below w4.heap.size w4 wd) := Hid.of (by rw [← hwd]; exact BR2.out.drew)
              have hca : ∀ z, wd.cell? z = wb.cell? z := fun z => by rw [← hwd]; rfl
              rw [← hca] at xa0 xa1 xa2 xb0 xb1 xb2
              rw [hwd]
              clear hwd hca OR2 BR2
              refine wpAnyH_ready (rs := [7, 11]) (by kernel_rfl) (by simp) ?_
              refine AllReadyH.cons (o := ⟨_, _, _, _, _, _⟩) rfl (fun K hK => ?_) (AllReadyH.cons (o := ⟨_, _, _, _, _, _⟩) rfl (fun K hK => ?_) AllReadyH.nil)
              · skip
                go_simp
                refine hK.out _ _ trivial (fun hHeld => ?_)
                clear hK K
                try simp only [Act.put, List.setIfInBounds_toArray, List.set_cons_zero, List.set_cons_succ]
                refine wpAnyH_ready (rs := [11]) (by kernel_rfl) (by simp) ?_
                refine AllReadyH.cons (o := ⟨_, _, _, _, _, _⟩) rfl (fun K hK => ?_) AllReadyH.nil
                go_simp
                refine hK.out _ _ trivial (fun hHeld => ?_)
                clear hK K
                try simp only [Act.put, List.setIfInBounds_toArray, List.set_cons_zero, List.set_cons_succ]
                clear xa0 xa1 xa2 xb0 xb1 xb2
                refine wpAnyH_take (i := 12) (oi := ⟨_, _, _, _, _, _⟩) (v := ?_) rfl (by kernel_rfl) (by kernel_rfl) (by kernel_rfl) (fun _ _ _ h => h) (Or.inl ⟨by rfl, ?_⟩) hHeld ?_
                rotate_left
                · intro w' hSw
                  try dsimp only at hSw
                  go_simp
                  all_goals with_reducible rfl
                simp only [Act.put, List.setIfInBounds_toArray, List.set_cons_zero, List.set_cons_succ]
                refine wpAnyH_ready (rs := [13]) (by kernel_rfl) (by simp) ?_
                refine AllReadyH.cons (o := ⟨_, _, _, _, _, _⟩) rfl (fun K hK => ?_) AllReadyH.nil
                refine vstep_store_mid rfl 28 _ _ rfl g (a * 3) (aenc yb).toArray rfl rfl (vown_there OD.out A9.out) sam_size3 (all_oneCell_toArray (aenc_one yb)) ?_
                obtain ⟨p1, p2⟩ := sam_put OD.out yb HMS.out A9.out
                refine hK.out _ _ trivial (fun hHeld => ?_)
                clear hK K
                try simp only [Act.put]
                obtain ⟨we, hwe⟩ : ∃ we, wd.setCells g (a * 3) (aenc yb) = we := ⟨_, rfl⟩
                rw [hwe] at p1 p2
                rw [show wd.setCells g (a * 3) (aenc yb).toArray.toList = we from hwe]
                have OE := Hid.of p1
                have BE := Hid.of (BD.out.grown p2 BD.out.size (fun k hk => by cases hk; exact own_ge OD.out rfl))
                clear p1 p2 hwe
                refine wpAnyH_take (i := 14) (oi := ⟨_, _, _, _, _, _⟩) (v := ?_) rfl (by kernel_rfl) (by kernel_rfl) (by kernel_rfl) (fun _ _ _ h => h) (Or.inl ⟨by rfl, ?_⟩) hHeld ?_
                rotate_left
                · intro w' hSw
                  try dsimp only at hSw
                  go_simp
                  all_goals with_reducible rfl
                simp only [Act.put, List.setIfInBounds_toArray, List.set_cons_zero, List.set_cons_succ]
                refine wpAnyH_ready (rs := [15]) (by kernel_rfl) (by simp) ?_
                refine AllReadyH.cons (o := ⟨_, _, _, _, _, _⟩) rfl (fun K hK => ?_) AllReadyH.nil
                refine vstep_store_mid rfl 28 _ _ rfl g (b * 3) (aenc ya).toArray rfl rfl (vown_there OE.out B9.out) sam_size3 (all_oneCell_toArray (aenc_one ya)) ?_
                obtain ⟨p1, p2⟩ := sam_put OE.out ya (by rw [List.length_set]; exact HMS.out) B9.out
                refine hK.out _ _ trivial (fun hHeld => ?_)
                clear hK K
                try simp only [Act.put]
                obtain ⟨wf, hwf⟩ : ∃ wf, we.setCells g (b * 3) (aenc ya) = wf := ⟨_, rfl⟩
                rw [hwf] at p1 p2
                rw [show we.setCells g (b * 3) (aenc ya).toArray.toList = wf from hwf]
                have OF := Hid.of p1
                have BF := Hid.of (BE.out.grown p2 BE.out.size (fun k hk => by cases hk; exact own_ge OE.out rfl))
                clear p1 p2 hwf
                refine wpAnyH_done (by kernel_rfl) ?_ _
                refine NoPanic.normal ?_
                go_wp2
                go_roundw
                case rel => exact ⟨i + 1, _, by omega, by go_num, Hid.of ((vswap_perm HYA.out HYB.out).trans PM.out), OF, BF⟩
                case measure => simp [RowKit.intOf]; omega
              · skip
                go_simp
                refine hK.out _ _ trivial (fun hHeld => ?_)
                clear hK K
                try simp only [Act.put, List.setIfInBounds_toArray, List.set_cons_zero, List.set_cons_succ]
                refine wpAnyH_ready (rs := [7]) (by kernel_rfl) (by simp) ?_
                refine AllReadyH.cons (o := ⟨_, _, _, _, _, _⟩) rfl (fun K hK => ?_) AllReadyH.nil
                go_simp
                refine hK.out _ _ trivial (fun hHeld => ?_)
                clear hK K
                try simp only [Act.put, List.setIfInBounds_toArray, List.set_cons_zero, List.set_cons_succ]
                clear xa0 xa1 xa2 xb0 xb1 xb2
                refine wpAnyH_take (i := 12) (oi := ⟨_, _, _, _, _, _⟩) (v := ?_) rfl (by kernel_rfl) (by kernel_rfl) (by kernel_rfl) (fun _ _ _ h => h) (Or.inl ⟨by rfl, ?_⟩) hHeld ?_
                rotate_left
                · intro w' hSw
                  try dsimp only at hSw
                  go_simp
                  all_goals with_reducible rfl
                simp only [Act.put, List.setIfInBounds_toArray, List.set_cons_zero, List.set_cons_succ]
                refine wpAnyH_ready (rs := [13]) (by kernel_rfl) (by simp) ?_
                refine AllReadyH.cons (o := ⟨_, _, _, _, _, _⟩) rfl (fun K hK => ?_) AllReadyH.nil
                refine vstep_store_mid rfl 28 _ _ rfl g (a * 3) (aenc yb).toArray rfl rfl (vown_there OD.out A9.out) sam_size3 (all_oneCell_toArray (aenc_one yb)) ?_
                obtain ⟨p1, p2⟩ := sam_put OD.out yb HMS.out A9.out
                refine hK.out _ _ trivial (fun hHeld => ?_)
                clear hK K
                try simp only [Act.put]
                obtain ⟨we, hwe⟩ : ∃ we, wd.setCells g (a * 3) (aenc yb) = we := ⟨_, rfl⟩
                rw [hwe] at p1 p2
                rw [show wd.setCells g (a * 3) (aenc yb).toArray.toList = we from hwe]
                have OE := Hid.of p1
                have BE := Hid.of (BD.out.grown p2 BD.out.size (fun k hk => by cases hk; exact own_ge OD.out rfl))
                clear p1 p2 hwe
                refine wpAnyH_take (i := 14) (oi := ⟨_, _, _, _, _, _⟩) (v := ?_) rfl (by kernel_rfl) (by kernel_rfl) (by kernel_rfl) (fun _ _ _ h => h) (Or.inl ⟨by rfl, ?_⟩) hHeld ?_
                rotate_left
                · intro w' hSw
                  try dsimp only at hSw
                  go_simp
                  all_goals with_reducible rfl
                simp only [Act.put, List.setIfInBounds_toArray, List.set_cons_zero, List.set_cons_succ]
                refine wpAnyH_ready (rs := [15]) (by kernel_rfl) (by simp) ?_
                refine AllReadyH.cons (o := ⟨_, _, _, _, _, _⟩) rfl (fun K hK => ?_) AllReadyH.nil
                refine vstep_store_mid rfl 28 _ _ rfl g (b * 3) (aenc ya).toArray rfl rfl (vown_there OE.out B9.out) sam_size3 (all_oneCell_toArray (aenc_one ya)) ?_
                obtain ⟨p1, p2⟩ := sam_put OE.out ya (by rw [List.length_set]; exact HMS.out) B9.out
                refine hK.out _ _ trivial (fun hHeld => ?_)
                clear hK K
                try simp only [Act.put]
                obtain ⟨wf, hwf⟩ : ∃ wf, we.setCells g (b * 3) (aenc ya) = wf := ⟨_, rfl⟩
                rw [hwf] at p1 p2
                rw [show we.setCells g (b * 3) (aenc ya).toArray.toList = wf from hwf]
                have OF := Hid.of p1
                have BF := Hid.of (BE.out.grown p2 BE.out.size (fun k hk => by cases hk; exact own_ge OE.out rfl))
                clear p1 p2 hwf
                refine wpAnyH_done (by kernel_rfl) ?_ _
                refine NoPanic.normal ?_
                go_wp2
                go_roundw
                case rel => exact ⟨i + 1, _, by omega, by go_num, Hid.of ((vswap_perm HYA.out HYB.out).trans PM.out), OF, BF⟩
                case measure => simp [RowKit.intOf]; omega
            | false =>
              clear HBO HG HOS HO O60 hi i0 i9
              generalize wr = w5' at *
              have I6 := Hid.of (I4.out.next BR.out)
              have HMS : Hid (ms.length = M) := Hid.of (PM.out.length_eq.trans HM.out)
              have FSM : Hid (∀ s ∈ ms, SFit s) := Hid.of (fun s hs => FS.out s (PM.out.mem_iff.1 hs))
              have RM0 := Hid.of (own_row OR.out)
              have N10 : Hid (N ≤ 5) := Hid.of (by rw [← HN.out]; exact (pCheck_ok HC.out).2.2.2.1)
              clear OR BR V4
              obtain ⟨c0, c1⟩ := I6.out.pv.k.at
              go_wp2_with fail
              refine (S.of _ _ p now [] _ I6.out.pv.ok FT.out I6.out.pv.row ⟨_, _, rfl, .inl rfl⟩ (Nat.le_refl _)).mono ?_
              rintro e w6 ⟨u, rfl, ou, b6⟩
              have rr := OwnRch.row ou
              obtain ⟨s2, f2, rfl, o1, o2, -⟩ := ou
              obtain ⟨s2a, s2c, rfl, -⟩ := own_one o1
              obtain ⟨f2a, f2c, rfl, -⟩ := own_one o2
              clear o1 o2
              have ev : rVal (now, p, []) (.slice s2a ((now, p, []) : RchL).2.1.2.length s2c) (.slice f2a ((now, p, []) : RchL).2.2.length f2c) = .agg #[.int .i64 now, .string n, .slice s2a N s2c, .slice f2a 0 f2c] := by
                rw [← Hn.out, ← HN.out]
                rfl
              rw [ev] at rr ⊢
              have I7 := Hid.of (I6.out.next b6)
              have RM7 := Hid.of (RM0.out.kept b6)
              have RR7 := Hid.of rr
              obtain ⟨z, hz⟩ : ∃ z, w6.heap.size = z := ⟨_, rfl⟩
              obtain ⟨w7, hw7⟩ : ∃ w7, w6.alloc (.cells #[.int .i64 now, .string n, .slice s2a N s2c, .slice f2a 0 f2c] 36) = w7 := ⟨_, rfl⟩
              have b7 : Below w6.heap.size w6 w7 := by rw [← hw7]; exact (Below.refl _ _).alloc (Nat.le_refl _) _
              have GZ7 : Hid (OZ S B n (.slice sa N sc) p mn mt mx w z now (.slice s2a N s2c) (.slice f2a 0 f2c) w7) := Hid.of
                ⟨I7.out.next b7, ⟨by rw [← hw7, ← hz]; exact Go.heap_alloc_new _ _, RR7.out.kept b7, S.kept I7.out.pv.ok b7, I7.out.pv.fr.trans (b7.mono I7.out.pv.fr.size)⟩⟩
              have RM := Hid.of (RM7.out.kept b7)
              have HW7 := Hid.of hw7
              have HZZ := Hid.of hz
              clear b6 rr ev hz hw7 b7 I6 I7 RM0 RM7 RR7 c0 c1
              go_upto_region 11 with fail
              rw [HW7.out, HZZ.out]
              clear HW7 HZZ
              obtain ⟨WD, hWD⟩ : ∃ WD, w7.drew = WD := ⟨_, rfl⟩
              have bD : Below w7.heap.size w7 WD := by rw [← hWD]; exact (Below.refl _ _).drew
              have D := Hid.of (GZ7.out.next bD)
              have RM := Hid.of (RM.out.kept bD)
              have CSD : Hid (Cs WD [(⟨z, 0, none⟩, .int .i64 now), (⟨z, 1, none⟩, .string n), (⟨z, 2, none⟩, .slice s2a N s2c), (⟨z, 3, none⟩, .slice f2a 0 f2c)]) := Hid.of D.out.cs
              clear bD GZ7
              have d0 := (CSD.out).head
              have d1 := ((CSD.out).tail).head
              have d2 := (((CSD.out).tail).tail).head
              have d3 := ((((CSD.out).tail).tail).tail).head
              refine wp_region_noPanic ?_
              refine wp_region_held_drew (S := fun w' => w'.cell? ⟨z, 0, none⟩ = some (.int .i64 now) ∧ w'.cell? ⟨z, 1, none⟩ = some (.string n) ∧ w'.cell? ⟨z, 2, none⟩ = some (.slice s2a N s2c) ∧ w'.cell? ⟨z, 3, none⟩ = some (.slice f2a 0 f2c)) (by kernel_rfl) ?_ (fun hHeld => ?_)
              · rw [hWD]; exact ⟨d0, d1, d2, d3⟩
              refine wpAnyH_take (i := 0) (oi := ⟨_, _, _, _, _, _⟩) (v := ?_) rfl (by kernel_rfl) (by kernel_rfl) (by kernel_rfl) (fun _ _ _ h => h) (Or.inl ⟨by rfl, ?_⟩) hHeld ?_
              rotate_left
              · intro w' hSw
                try dsimp only at hSw
                go_simp
                all_goals with_reducible rfl
              simp only [Act.put, List.setIfInBounds_toArray, List.set_cons_zero, List.set_cons_succ]
              refine wpAnyH_take (i := 1) (oi := ⟨_, _, _, _, _, _⟩) (v := ?_) rfl (by kernel_rfl) (by kernel_rfl) (by kernel_rfl) (fun _ _ _ h => h) (Or.inl ⟨by rfl, ?_⟩) hHeld ?_
              rotate_left
              · intro w' hSw
                try dsimp only at hSw
                go_simp
                all_goals with_reducible rfl
              simp only [Act.put, List.setIfInBounds_toArray, List.set_cons_zero, List.set_cons_succ]
              refine wpAnyH_take (i := 3) (oi := ⟨_, _, _, _, _, _⟩) (v := ?_) rfl (by kernel_rfl) (by kernel_rfl) (by kernel_rfl) (fun _ _ _ h => h) (Or.inl ⟨by rfl, ?_⟩) hHeld ?_
              rotate_left
              · intro w' hSw
                try dsimp only at hSw
                go_simp
                all_goals with_reducible rfl
              simp only [Act.put, List.setIfInBounds_toArray, List.set_cons_zero, List.set_cons_succ]
              refine wpAnyH_take (i := 4) (oi := ⟨_, _, _, _, _, _⟩) (v := ?_) rfl (by kernel_rfl) (by kernel_rfl) (by kernel_rfl) (fun _ _ _ h => h) (Or.inl ⟨by rfl, ?_⟩) hHeld ?_
              rotate_left
              · intro w' hSw
                try dsimp only at hSw
                go_simp
                all_goals with_reducible rfl
              simp only [Act.put, List.setIfInBounds_toArray, List.set_cons_zero, List.set_cons_succ]
              refine wpAnyH_ready (rs := [2]) (by kernel_rfl) (by simp) ?_
              refine AllReadyH.cons (o := ⟨_, _, _, _, _, _⟩) rfl (fun K hK => ?_) AllReadyH.nil
              go_simp
              refine (viewAll_any S _ (.slice va M vc) (now, p, []) (ss) _ D.out.ok FT.out VK.out D.out.x (by rw [show ((now, p, []) : RchL).2.1.2.length = N from HN.out]; have := N10.out; omega) (by have h := HV.out.kept D.out.pm.pv.fr; rw [HM.out] at h ⊢; exact h) (by have := SF.out; omega) FS.out).mono ?_
              rintro e w7 ⟨u, usx, rfl, hus, bag, bb⟩
              have ho := AllRow.of bag
              obtain ⟨ua, uc, hu, -⟩ := own_one (bag.own _ (List.mem_cons_self ..))
              have hu2 : u = .slice ua N uc := hu.trans (by rw [show (oRow u usx).n = usx.length from rfl, hus]; exact congrArg (fun k => Value.slice ua k uc) HN.out)
              subst hu2
              have Ax := Hid.of ho
              have Ux : Hid (usx.length = N) := Hid.of (hus.trans HN.out)
              have G7 := Hid.of (D.out.next bb)
              have CSG7 := Hid.of (CSD.out.next bb)
              have RMG := Hid.of (RM.out.kept bb)
              obtain ⟨xa, hxa⟩ : ∃ y, ua = y := ⟨_, rfl⟩
              obtain ⟨xc, hxc⟩ : ∃ y, uc = y := ⟨_, rfl⟩
              rw [hxa, hxc] at Ax ⊢
              clear hu ho bag bb hus hxa hxc D CSD RM
              clear hHeld d0 d1 d2 d3
              have d0 := (CSG7.out).head
              have d1 := ((CSG7.out).tail).head
              have d2 := (((CSG7.out).tail).tail).head
              have d3 := ((((CSG7.out).tail).tail).tail).head
              refine hK.out _ _ ⟨d0, d1, d2, d3⟩ (fun hHeld => ?_)
              clear hK K
              try simp only [Act.put, List.setIfInBounds_toArray, List.set_cons_zero, List.set_cons_succ]
              refine wpAnyH_ready (rs := [5]) (by kernel_rfl) (by simp) ?_
              refine AllReadyH.cons (o := ⟨_, _, _, _, _, _⟩) rfl (fun K hK => ?_) AllReadyH.nil
              go_simp
              refine (viewAll_any S _ (.slice ma M mc) (now, p, []) (ms) _ G7.out.ok FT.out VK.out G7.out.x (by rw [show ((now, p, []) : RchL).2.1.2.length = N from HN.out]; have := N10.out; omega) (by rw [HMS.out]; exact RMG.out) (by rw [HMS.out]; have := MH.out; omega) FSM.out).mono ?_
              rintro e w8 ⟨u, usy, rfl, hus, bag, bb⟩
              have ho := AllRow.of bag
              obtain ⟨ua, uc, hu, -⟩ := own_one (bag.own _ (List.mem_cons_self ..))
              have hu2 : u = .slice ua N uc := hu.trans (by rw [show (oRow u usy).n = usy.length from rfl, hus]; exact congrArg (fun k => Value.slice ua k uc) HN.out)
              subst hu2
              have Ay := Hid.of ho
              have Uy : Hid (usy.length = N) := Hid.of (hus.trans HN.out)
              have G8 := Hid.of (G7.out.next bb)
              have CSG8 := Hid.of (CSG7.out.next bb)
              have Ax8 := Hid.of (Ax.out.kept bb)
              obtain ⟨ya, hya⟩ : ∃ y, ua = y := ⟨_, rfl⟩
              obtain ⟨yc, hyc⟩ : ∃ y, uc = y := ⟨_, rfl⟩
              rw [hya, hyc] at Ay ⊢
              clear hu ho bag bb hus hya hyc G7 CSG7 RMG Ax
              clear hHeld d0 d1 d2 d3
              have d0 := (CSG8.out).head
              have d1 := ((CSG8.out).tail).head
              have d2 := (((CSG8.out).tail).tail).head
              have d3 := ((((CSG8.out).tail).tail).tail).head
              refine hK.out _ _ ⟨d0, d1, d2, d3⟩ (fun hHeld => ?_)
              clear hK K
              try simp only [Act.put, List.setIfInBounds_toArray, List.set_cons_zero, List.set_cons_succ]
              refine wpAnyH_take (i := 6) (oi := ⟨_, _, _, _, _, _⟩) (v := ?_) rfl (by kernel_rfl) (by kernel_rfl) (by kernel_rfl) (fun _ _ _ h => h) (Or.inl ⟨by rfl, ?_⟩) hHeld ?_
              rotate_left
              · intro w' hSw
                try dsimp only at hSw
                go_simp
                all_goals with_reducible rfl
              simp only [Act.put, List.setIfInBounds_toArray, List.set_cons_zero, List.set_cons_succ]
              refine wpAnyH_take (i := 7) (oi := ⟨_, _, _, _, _, _⟩) (v := ?_) rfl (by kernel_rfl) (by kernel_rfl) (by kernel_rfl) (fun _ _ _ h => h) (Or.inl ⟨by rfl, ?_⟩) hHeld ?_
              rotate_left
              · intro w' hSw
                try dsimp only at hSw
                go_simp
                all_goals with_reducible rfl
              simp only [Act.put, List.setIfInBounds_toArray, List.set_cons_zero, List.set_cons_succ]
              refine wpAnyH_done (by kernel_rfl) ?_ _
              refine NoPanic.normal ?_
              clear hHeld d0 d1 d2 d3 CSG8
              clear hWD
              have GZ8 := Hid.of G8.out
              have HV8 := Hid.of (HV.out.kept G8.out.pm.pv.fr)
              rw [HM.out] at HV8
              have CS8 : Hid (Cs w8 [(⟨z, 0, none⟩, .int .i64 now), (⟨z, 1, none⟩, .string n), (⟨z, 2, none⟩, .slice s2a N s2c), (⟨z, 3, none⟩, .slice f2a 0 f2c), (⟨B + 1, 0, none⟩, .string mn), (⟨B + 1, 1, none⟩, .int .i64 mt), (⟨B + 1, 2, none⟩, .int .i64 mx)]) := Hid.of G8.out.cs2
              clear G8
              go_upto_region 12 with fail
              obtain ⟨WE, hWE⟩ : ∃ WE, w8.drew = WE := ⟨_, rfl⟩
              have bE : Below w8.heap.size w8 WE := by rw [← hWE]; exact (Below.refl _ _).drew
              have GZE := Hid.of (GZ8.out.next bE)
              have CSE := Hid.of (CS8.out.next bE)
              have BGE := Hid.of bE
              clear bE
              have d0 := (CSE.out).head
              have d1 := ((CSE.out).tail).head
              have d2 := (((CSE.out).tail).tail).head
              have d3 := ((((CSE.out).tail).tail).tail).head
              have d4 := (((((CSE.out).tail).tail).tail).tail).head
              have d5 := ((((((CSE.out).tail).tail).tail).tail).tail).head
              have d6 := (((((((CSE.out).tail).tail).tail).tail).tail).tail).head
              refine wp_region_noPanic ?_
              refine wp_region_held_drew (S := fun w' => w'.cell? ⟨z, 0, none⟩ = some (.int .i64 now) ∧ w'.cell? ⟨z, 1, none⟩ = some (.string n) ∧ w'.cell? ⟨z, 2, none⟩ = some (.slice s2a N s2c) ∧ w'.cell? ⟨z, 3, none⟩ = some (.slice f2a 0 f2c) ∧ w'.cell? ⟨B + 1, 0, none⟩ = some (.string mn) ∧ w'.cell? ⟨B + 1, 1, none⟩ = some (.int .i64 mt) ∧ w'.cell? ⟨B + 1, 2, none⟩ = some (.int .i64 mx)) (by kernel_rfl) ?_ (fun hHeld => ?_)
              · rw [hWE]; exact ⟨d0, d1, d2, d3, d4, d5, d6⟩
              refine wpAnyH_take (i := 0) (oi := ⟨_, _, _, _, _, _⟩) (v := ?_) rfl (by kernel_rfl) (by kernel_rfl) (by kernel_rfl) (fun _ _ _ h => h) (Or.inl ⟨by rfl, ?_⟩) hHeld ?_
              rotate_left
              · intro w' hSw
                try dsimp only at hSw
                go_simp
                all_goals with_reducible rfl
              simp only [Act.put, List.setIfInBounds_toArray, List.set_cons_zero, List.set_cons_succ]
              refine wpAnyH_take (i := 1) (oi := ⟨_, _, _, _, _, _⟩) (v := ?_) rfl (by kernel_rfl) (by kernel_rfl) (by kernel_rfl) (fun _ _ _ h => h) (Or.inl ⟨by rfl, ?_⟩) hHeld ?_
              rotate_left
              · intro w' hSw
                try dsimp only at hSw
                go_simp
                all_goals with_reducible rfl
              simp only [Act.put, List.setIfInBounds_toArray, List.set_cons_zero, List.set_cons_succ]
              refine wpAnyH_take (i := 3) (oi := ⟨_, _, _, _, _, _⟩) (v := ?_) rfl (by kernel_rfl) (by kernel_rfl) (by kernel_rfl) (fun _ _ _ h => h) (Or.inl ⟨by rfl, ?_⟩) hHeld ?_
              rotate_left
              · intro w' hSw
                try dsimp only at hSw
                go_simp
                all_goals with_reducible rfl
              simp only [Act.put, List.setIfInBounds_toArray, List.set_cons_zero, List.set_cons_succ]
              refine wpAnyH_ready (rs := [2, 4]) (by kernel_rfl) (by simp) ?_
              refine AllReadyH.cons (o := ⟨_, _, _, _, _, _⟩) rfl (fun K hK => ?_) (AllReadyH.cons (o := ⟨_, _, _, _, _, _⟩) rfl (fun K hK => ?_) AllReadyH.nil)
              · rw [hWE]
                refine step_append_any rfl (.const (.slice none 0 0)) (.tmp 118) 25 rfl w8.heap.size 28 i0 _ 3 32 Try.underlying25 HI.out HZ0.out HZ1.out HZ2.out rfl (by decide) (.slice none 0 0) 0 [] rfl (World.ownsRow_nil _ _ _ _) _ M (flat aenc ss) (by simp [Act.eval]) (HV8.out.kept BGE.out) HFL.out (flat_ones aenc_one _) (by have := MH.out; unfold maxLen; omega) (by have := MH.out; omega) BGE.out.size ?_
                intro v1 wa o1 g1 m1
                have bb := below_of_none g1
                have Oa : Hid (wa.ownsRow w8.heap.size 28 3 v1 M (flat aenc ss)) := Hid.of (by simpa using o1)
                have BGa := Hid.of (BGE.out.trans (bb.mono BGE.out.size))
                have GZa := Hid.of (GZE.out.next bb)
                have CSa := Hid.of (CSE.out.next bb)
                clear bb o1 g1 m1 CSE GZE BGE
                clear hHeld d0 d1 d2 d3 d4 d5 d6
                have d0 := (CSa.out).head
                have d1 := ((CSa.out).tail).head
                have d2 := (((CSa.out).tail).tail).head
                have d3 := ((((CSa.out).tail).tail).tail).head
                have d4 := (((((CSa.out).tail).tail).tail).tail).head
                have d5 := ((((((CSa.out).tail).tail).tail).tail).tail).head
                have d6 := (((((((CSa.out).tail).tail).tail).tail).tail).tail).head
                refine hK.out _ _ ⟨d0, d1, d2, d3, d4, d5, d6⟩ (fun hHeld => ?_)
                clear hK K
                try simp only [Act.put, List.setIfInBounds_toArray, List.set_cons_zero, List.set_cons_succ]
                refine wpAnyH_ready (rs := [4]) (by kernel_rfl) (by simp) ?_
                refine AllReadyH.cons (o := ⟨_, _, _, _, _, _⟩) rfl (fun K hK => ?_) AllReadyH.nil
                go_simp
                obtain ⟨wb, hwb⟩ : ∃ x, wa.alloc (.cells #[.string mn, .int .i64 mt, .int .i64 mx] 28) = x := ⟨_, rfl⟩
                have bb : Below wa.heap.size wa wb := by rw [← hwb]; exact (Below.refl _ _).alloc (Nat.le_refl _) _
                have Xb : Hid (CellRow wb (.slice (some ⟨wa.heap.size, 0, none⟩) 1 1) 1 (flat aenc [(mn, mt, mx)])) := Hid.of (by rw [← hwb]; exact ⟨_, 1, rfl, .inr ⟨_, 0, rfl, by simp, new_cells _ #[.string mn, .int .i64 mt, .int .i64 mx] 28⟩⟩)
                have BGb := Hid.of (BGa.out.trans (bb.mono BGa.out.size))
                have GZb := Hid.of (GZa.out.next bb)
                have CSb := Hid.of (CSa.out.next bb)
                rw [hwb]
                have Ob := Hid.of ((Step.of_below (F := fun _ => False) bb).own Oa.out (fun _ _ c => c))
                clear bb hwb CSa GZa BGa Oa
                clear hHeld d0 d1 d2 d3 d4 d5 d6
                have d0 := (CSb.out).head
                have d1 := ((CSb.out).tail).head
                have d2 := (((CSb.out).tail).tail).head
                have d3 := ((((CSb.out).tail).tail).tail).head
                have d4 := (((((CSb.out).tail).tail).tail).tail).head
                have d5 := ((((((CSb.out).tail).tail).tail).tail).tail).head
                have d6 := (((((((CSb.out).tail).tail).tail).tail).tail).tail).head
                refine hK.out _ _ ⟨d0, d1, d2, d3, d4, d5, d6⟩ (fun hHeld => ?_)
                clear hK K
                try simp only [Act.put, List.setIfInBounds_toArray, List.set_cons_zero, List.set_cons_succ]
                refine wpAnyH_ready (rs := [5]) (by kernel_rfl) (by simp) ?_
                refine AllReadyH.cons (o := ⟨_, _, _, _, _, _⟩) rfl (fun K hK => ?_) AllReadyH.nil
                refine step_append_any rfl (.tmp 119) (.tmp 121) 25 rfl w8.heap.size 28 i0 _ 3 32 Try.underlying25 HI.out HZ0.out HZ1.out HZ2.out rfl (by decide) v1 M (flat aenc ss) (by simp [Act.eval]) Ob.out _ 1 (flat aenc [(mn, mt, mx)]) (by simp [Act.eval]) Xb.out rfl (flat_ones aenc_one _) (by have := MH.out; unfold maxLen; omega) (by have := MH.out; omega) BGb.out.size ?_
                intro v5 wc o5 g5 m5
                have BGc : Hid (Below w8.heap.size w8 wc) := Hid.of (BGb.out.grown g5 BGb.out.size (fun k hk => own_ge Ob.out hk))
                have hne : ∀ k, v1.ownBlock = some k → w8.heap.size ≤ k := fun k hk => own_ge Ob.out hk
                have GZc := Hid.of (GZ8.out.next BGc.out)
                have CSc := Hid.of (CS8.out.next BGc.out)
                have row5 : CellRow wc v5 (ss ++ [(mn, mt, mx)]).length (flat aenc (ss ++ [(mn, mt, mx)])) := by have h := own_row o5; rw [flat_append, List.length_append, HM.out]; exact h
                have R5 := Hid.of row5
                clear o5 g5 m5 hne row5 GZb CSb BGb Ob Xb
                clear hHeld d0 d1 d2 d3 d4 d5 d6
                have d0 := (CSc.out).head
                have d1 := ((CSc.out).tail).head
                have d2 := (((CSc.out).tail).tail).head
                have d3 := ((((CSc.out).tail).tail).tail).head
                have d4 := (((((CSc.out).tail).tail).tail).tail).head
                have d5 := ((((((CSc.out).tail).tail).tail).tail).tail).head
                have d6 := (((((((CSc.out).tail).tail).tail).tail).tail).tail).head
                refine hK.out _ _ ⟨d0, d1, d2, d3, d4, d5, d6⟩ (fun hHeld => ?_)
                clear hK K
                try simp only [Act.put, List.setIfInBounds_toArray, List.set_cons_zero, List.set_cons_succ]
                refine wpAnyH_ready (rs := [6]) (by kernel_rfl) (by simp) ?_
                refine AllReadyH.cons (o := ⟨_, _, _, _, _, _⟩) rfl (fun K hK => ?_) AllReadyH.nil
                go_simp
                refine (viewAll_any S _ _ (now, p, []) (ss ++ [(mn, mt, mx)]) _ GZc.out.ok FT.out VK.out GZc.out.x (by rw [show ((now, p, []) : RchL).2.1.2.length = N from HN.out]; have := N10.out; omega) R5.out (by rw [List.length_append, HM.out]; have := MH.out; simp; omega) (fun s hs => by rcases List.mem_append.1 hs with h | h; exact FS.out s h; rw [List.mem_singleton.1 h]; exact MF.out)).mono ?_
                rintro e wz ⟨u, usz, rfl, hus, bag, bb⟩
                have ho := AllRow.of bag
                obtain ⟨ua, uc, hu, -⟩ := own_one (bag.own _ (List.mem_cons_self ..))
                have hu2 : u = .slice ua N uc := hu.trans (by rw [show (oRow u usz).n = usz.length from rfl, hus]; exact congrArg (fun k => Value.slice ua k uc) HN.out)
                subst hu2
                have Az := Hid.of ho
                have Uz : Hid (usz.length = N) := Hid.of (hus.trans HN.out)
                have BGz := Hid.of (BGc.out.trans (bb.mono BGc.out.size))
                have GZz := Hid.of (GZc.out.next bb)
                have CSz := Hid.of (CSc.out.next bb)
                clear hu ho bag bb hus GZc CSc BGc R5
                clear hHeld d0 d1 d2 d3 d4 d5 d6
                have d0 := (CSz.out).head
                have d1 := ((CSz.out).tail).head
                have d2 := (((CSz.out).tail).tail).head
                have d3 := ((((CSz.out).tail).tail).tail).head
                have d4 := (((((CSz.out).tail).tail).tail).tail).head
                have d5 := ((((((CSz.out).tail).tail).tail).tail).tail).head
                have d6 := (((((((CSz.out).tail).tail).tail).tail).tail).tail).head
                refine hK.out _ _ ⟨d0, d1, d2, d3, d4, d5, d6⟩ (fun hHeld => ?_)
                clear hK K
                try simp only [Act.put, List.setIfInBounds_toArray, List.set_cons_zero, List.set_cons_succ]
                refine wpAnyH_take (i := 7) (oi := ⟨_, _, _, _, _, _⟩) (v := ?_) rfl (by kernel_rfl) (by kernel_rfl) (by kernel_rfl) (fun _ _ _ h => h) (Or.inl ⟨by rfl, ?_⟩) hHeld ?_
                rotate_left
                · intro w' hSw
                  try dsimp only at hSw
                  go_simp
                  all_goals with_reducible rfl
                simp only [Act.put, List.setIfInBounds_toArray, List.set_cons_zero, List.set_cons_succ]
                refine wpAnyH_done (by kernel_rfl) ?_ _
                refine NoPanic.normal ?_
                clear hHeld d0 d1 d2 d3 d4 d5 d6 CSz
                have GZL := GZz
                have Ax9 := Hid.of (Ax8.out.kept BGz.out)
                have Ay9 := Hid.of (Ay.out.kept BGz.out)
                go_wp2_with fail
                go_loopg [21, 22, 23] N (fun kx iv x22 x23 wr => ∃ i : Nat, iv = .int .i64 i ∧ i ≤ N ∧ N - i ≤ kx ∧ Hid (Below wz.heap.size wz wr))
                case atStart => exact ⟨0, rfl, Nat.zero_le _, Nat.le_refl _, Hid.of (Below.refl _ _)⟩
                case round =>
                  obtain ⟨i, rfl, hiN, hix, BW⟩ := hrel
                  have i0 : (0 : Int) ≤ (i : Int) := Int.natCast_nonneg _
                  by_cases hlt : (i : Int) < (N : Int)
                  · have GI := Hid.of (GZL.out.next BW.out)
                    obtain ⟨c0, c1, c2, c3⟩ := GI.out.rh.at
                    obtain ⟨e0, e1, e2⟩ := GI.out.pm.sat
                    have hst := S.start _ (now, p, []) (i : Int) mt wr GI.out.ok FT.out (by unfold In64; have := N10.out; omega) HMT.out GI.out.x
                    obtain ⟨sb, sk, hsb⟩ : ∃ sb sk, rStart (now, p, []) (i : Int) mt = (sb, sk) := ⟨_, _, rfl⟩
                    have HSB := Hid.of hsb
                    rw [hsb] at hst
                    clear hsb
                    go_wp2_with fail
                    refine hst.mono ?_
                    rintro e wv ⟨rfl, bv⟩
                    have BV := Hid.of (BW.out.trans (bv.mono BW.out.size))
                    clear bv hst GI c0 c1 c2 c3 e0 e1 e2 BW
                    simp only
                    have hNi : i < N := by omega
                    have HNI := Hid.of hNi
                    have i9 : (i : Int) ≤ 1000 := by have := N10.out; omega
                    obtain ⟨xv, hxv⟩ : ∃ x, usx[i]? = some x := ⟨_, List.getElem?_eq_getElem (by rw [Ux.out]; exact hNi)⟩
                    obtain ⟨yv, hyv⟩ : ∃ x, usy[i]? = some x := ⟨_, List.getElem?_eq_getElem (by rw [Uy.out]; exact hNi)⟩
                    obtain ⟨zv, hzv⟩ : ∃ x, usz[i]? = some x := ⟨_, List.getElem?_eq_getElem (by rw [Uz.out]; exact hNi)⟩
                    obtain ⟨x1, x2, ex, -⟩ := Ax9.out.i i xv hxv
                    obtain ⟨y1, y2, ey, -⟩ := Ay9.out.i i yv hyv
                    obtain ⟨z1, z2, ez, -⟩ := Az.out.i i zv hzv
                    obtain ⟨Lx, hLx⟩ : ∃ L, (vT (now, p, []) (i : Int) ss).length = L := ⟨_, rfl⟩
                    obtain ⟨Ly, hLy⟩ : ∃ L, (vT (now, p, []) (i : Int) ms).length = L := ⟨_, rfl⟩
                    obtain ⟨Lz, hLz⟩ : ∃ L, (vT (now, p, []) (i : Int) (ss ++ [(mn, mt, mx)])).length = L := ⟨_, rfl⟩
                    rw [hLx] at ex
                    rw [hLy] at ey
                    rw [hLz] at ez
                    subst ex ey ez
                    clear hLx hLy hLz
                    have ox := (Ax9.out.kept BV.out).o
                    have oy := (Ay9.out.kept BV.out).o
                    have oz := (Az.out.kept BV.out).o
                    rw [Ux.out] at ox
                    rw [Uy.out] at oy
                    rw [Uz.out] at oz
                    obtain ⟨xg, xo, rfl, xl, x0⟩ := ox.at i _ hxv
                    obtain ⟨yg, yo, rfl, yl, y0⟩ := oy.at i _ hyv
                    obtain ⟨zg, zo, rfl, zl, z0⟩ := oz.at i _ hzv
                    obtain ⟨xq, hxq⟩ : ∃ q, xo + i = q := ⟨_, rfl⟩
                    obtain ⟨yq, hyq⟩ : ∃ q, yo + i = q := ⟨_, rfl⟩
                    obtain ⟨zq, hzq⟩ : ∃ q, zo + i = q := ⟨_, rfl⟩
                    rw [hxq] at x0
                    rw [hyq] at y0
                    rw [hzq] at z0
                    have ixy : vT (now, p, []) (i : Int) ms = vT (now, p, []) (i : Int) ss := vT_perm FSM.out PM.out
                    have lss : (vT (now, p, []) (i : Int) ss).length ≤ 1000000 := by
                      have := (vT_good (i := (i : Int)) VK.out FS.out).len
                      have := MH.out
                      have := HM.out
                      omega
                    go_upto_region 19 with fail
                    obtain ⟨WQ, hWQ⟩ : ∃ WQ, wv.drew = WQ := ⟨_, rfl⟩
                    have bQ : Below wv.heap.size wv WQ := by rw [← hWQ]; exact (Below.refl _ _).drew
                    have CSQ : Hid (Cs WQ [(⟨xg, xq, none⟩, .slice x1 Lx x2), (⟨yg, yq, none⟩, .slice y1 Ly y2), (⟨zg, zq, none⟩, .slice z1 Lz z2)]) := Hid.of (Cs.next (.cons xl x0 (.cons yl y0 (.cons zl z0 (.nil _)))) bQ)
                    have BQ := Hid.of (BV.out.trans (bQ.mono BV.out.size))
                    have hxy : Calls Try.prog 13 #[.slice x1 Lx x2, .slice y1 Ly y2] WQ fun e w' => e = .returned (.bool true) ∧ ∃ q, w' = WQ.drewN q := by
                      obtain ⟨-, -, -, k1⟩ := (Ax9.out.kept BQ.out).i i _ hxv
                      obtain ⟨-, -, -, k2⟩ := (Ay9.out.kept BQ.out).i i _ hyv
                      rw [ixy] at k2
                      rw [← List.length_map (f := rl)] at k1 k2 lss
                      exact SameRecords_quiet _ _ _ _ k1 k2 lss
                    cases sk
                    · have hxz : ∀ wk, Below wz.heap.size wz wk → Calls Try.prog 13 #[.slice x1 Lx x2, .slice z1 Lz z2] wk fun e w' => e = .returned (.bool true) ∧ ∃ q, w' = wk.drewN q := fun wk bk => by
                        obtain ⟨-, -, -, k1⟩ := (Ax9.out.kept bk).i i _ hxv
                        obtain ⟨-, -, -, k2⟩ := (Az.out.kept bk).i i _ hzv
                        have e : vT (now, p, []) (i : Int) (ss ++ [(mn, mt, mx)]) = vT (now, p, []) (i : Int) ss := by
                          rw [vT_next VK.out MF.out, if_neg]
                          unfold vHas
                          rw [HSB.out]
                          exact Bool.false_ne_true
                        rw [e] at k2
                        rw [← List.length_map (f := rl)] at k1 k2 lss
                        exact SameRecords_quiet _ _ _ _ k1 k2 lss
                      clear bQ hxv hyv hzv ox oy oz x0 y0 z0 ixy lss xl yl zl BV HSB
                      have d0 := (CSQ.out).head
                      have d1 := ((CSQ.out).tail).head
                      have d2 := (((CSQ.out).tail).tail).head
                      refine wp_region_noPanic ?_
                      refine wp_region_held_drew (S := fun w' => w'.cell? ⟨xg, xq, none⟩ = some (.slice x1 Lx x2) ∧ w'.cell? ⟨yg, yq, none⟩ = some (.slice y1 Ly y2) ∧ w'.cell? ⟨zg, zq, none⟩ = some (.slice z1 Lz z2)) (by kernel_rfl) ?_ (fun hHeld => ?_)
                      · rw [hWQ]; exact ⟨d0, d1, d2⟩
                      refine wpAnyH_take (i := 0) (oi := ⟨_, _, _, _, _, _⟩) (v := ?_) rfl (by kernel_rfl) (by kernel_rfl) (by kernel_rfl) (fun _ _ _ h => h) (Or.inl ⟨by rfl, ?_⟩) hHeld ?_
                      rotate_left
                      · intro w' hSw
                        try dsimp only at hSw
                        go_simp
                        all_goals with_reducible rfl
                      simp only [Act.put, List.setIfInBounds_toArray, List.set_cons_zero, List.set_cons_succ]
                      refine wpAnyH_take (i := 1) (oi := ⟨_, _, _, _, _, _⟩) (v := ?_) rfl (by kernel_rfl) (by kernel_rfl) (by kernel_rfl) (fun _ _ _ h => h) (Or.inl ⟨by rfl, ?_⟩) hHeld ?_
                      rotate_left
                      · intro w' hSw
                        try dsimp only at hSw
                        go_simp
                        all_goals with_reducible rfl
                      simp only [Act.put, List.setIfInBounds_toArray, List.set_cons_zero, List.set_cons_succ]
                      refine wpAnyH_take (i := 2) (oi := ⟨_, _, _, _, _, _⟩) (v := ?_) rfl (by kernel_rfl) (by kernel_rfl) (by kernel_rfl) (fun _ _ _ h => h) (Or.inl ⟨by rfl, ?_⟩) hHeld ?_
                      rotate_left
                      · intro w' hSw
                        try dsimp only at hSw
                        go_simp
                        all_goals with_reducible rfl
                      simp only [Act.put, List.setIfInBounds_toArray, List.set_cons_zero, List.set_cons_succ]
                      refine wpAnyH_take (i := 3) (oi := ⟨_, _, _, _, _, _⟩) (v := ?_) rfl (by kernel_rfl) (by kernel_rfl) (by kernel_rfl) (fun _ _ _ h => h) (Or.inl ⟨by rfl, ?_⟩) hHeld ?_
                      rotate_left
                      · intro w' hSw
                        try dsimp only at hSw
                        go_simp
                        all_goals with_reducible rfl
                      simp only [Act.put, List.setIfInBounds_toArray, List.set_cons_zero, List.set_cons_succ]
                      refine wpAnyH_take (i := 4) (oi := ⟨_, _, _, _, _, _⟩) (v := ?_) rfl (by kernel_rfl) (by kernel_rfl) (by kernel_rfl) (fun _ _ _ h => h) (Or.inl ⟨by rfl, ?_⟩) hHeld ?_
                      rotate_left
                      · intro w' hSw
                        try dsimp only at hSw
                        go_simp
                        all_goals with_reducible rfl
                      simp only [Act.put, List.setIfInBounds_toArray, List.set_cons_zero, List.set_cons_succ]
                      refine wpAnyH_take (i := 5) (oi := ⟨_, _, _, _, _, _⟩) (v := ?_) rfl (by kernel_rfl) (by kernel_rfl) (by kernel_rfl) (fun _ _ _ h => h) (Or.inl ⟨by rfl, ?_⟩) hHeld ?_
                      rotate_left
                      · intro w' hSw
                        try dsimp only at hSw
                        go_simp
                        all_goals with_reducible rfl
                      simp only [Act.put, List.setIfInBounds_toArray, List.set_cons_zero, List.set_cons_succ]
                      refine wpAnyH_take (i := 6) (oi := ⟨_, _, _, _, _, _⟩) (v := ?_) rfl (by kernel_rfl) (by kernel_rfl) (by kernel_rfl) (fun _ _ _ h => h) (Or.inl ⟨by rfl, ?_⟩) hHeld ?_
                      rotate_left
                      · intro w' hSw
                        try dsimp only at hSw
                        go_simp
                        all_goals with_reducible rfl
                      simp only [Act.put, List.setIfInBounds_toArray, List.set_cons_zero, List.set_cons_succ]
                      refine wpAnyH_take (i := 7) (oi := ⟨_, _, _, _, _, _⟩) (v := ?_) rfl (by kernel_rfl) (by kernel_rfl) (by kernel_rfl) (fun _ _ _ h => h) (Or.inl ⟨by rfl, ?_⟩) hHeld ?_
                      rotate_left
                      · intro w' hSw
                        try dsimp only at hSw
                        go_simp
                        all_goals with_reducible rfl
                      simp only [Act.put, List.setIfInBounds_toArray, List.set_cons_zero, List.set_cons_succ]
                      refine wpAnyH_ready (rs := [8]) (by kernel_rfl) (by simp) ?_
                      refine AllReadyH.cons (o := ⟨_, _, _, _, _, _⟩) rfl (fun K hK => ?_) AllReadyH.nil
                      go_simp
                      refine hxy.mono ?_
                      rintro e wk ⟨rfl, nq, rfl⟩
                      have CSR := Hid.of (CSQ.out.next (below_drewN (Below.refl _ _) nq))
                      have BR := Hid.of (below_drewN BQ.out nq)
                      clear hHeld d0 d1 d2
                      have d0 := (CSR.out).head
                      have d1 := ((CSR.out).tail).head
                      have d2 := (((CSR.out).tail).tail).head
                      refine hK.out _ _ ⟨d0, d1, d2⟩ (fun hHeld => ?_)
                      clear hK K
                      try simp only [Act.put, List.setIfInBounds_toArray, List.set_cons_zero, List.set_cons_succ]
                      refine wpAnyH_take (i := 9) (oi := ⟨_, _, _, _, _, _⟩) (v := ?_) rfl (by kernel_rfl) (by kernel_rfl) (by kernel_rfl) (fun _ _ _ h => h) (Or.inl ⟨by rfl, ?_⟩) hHeld ?_
                      rotate_left
                      · intro w' hSw
                        try dsimp only at hSw
                        go_simp
                        all_goals with_reducible rfl
                      simp only [Act.put, List.setIfInBounds_toArray, List.set_cons_zero, List.set_cons_succ]
                      refine wpAnyH_take (i := 10) (oi := ⟨_, _, _, _, _, _⟩) (v := ?_) rfl (by kernel_rfl) (by kernel_rfl) (by kernel_rfl) (fun _ _ _ h => h) (Or.inl ⟨by rfl, ?_⟩) hHeld ?_
                      rotate_left
                      · intro w' hSw
                        try dsimp only at hSw
                        go_simp
                        all_goals with_reducible rfl
                      simp only [Act.put, List.setIfInBounds_toArray, List.set_cons_zero, List.set_cons_succ]
                      refine wpAnyH_take (i := 11) (oi := ⟨_, _, _, _, _, _⟩) (v := ?_) rfl (by kernel_rfl) (by kernel_rfl) (by kernel_rfl) (fun _ _ _ h => h) (Or.inl ⟨by rfl, ?_⟩) hHeld ?_
                      rotate_left
                      · intro w' hSw
                        try dsimp only at hSw
                        go_simp
                        all_goals with_reducible rfl
                      simp only [Act.put, List.setIfInBounds_toArray, List.set_cons_zero, List.set_cons_succ]
                      refine wpAnyH_take (i := 12) (oi := ⟨_, _, _, _, _, _⟩) (v := ?_) rfl (by kernel_rfl) (by kernel_rfl) (by kernel_rfl) (fun _ _ _ h => h) (Or.inl ⟨by rfl, ?_⟩) hHeld ?_
                      rotate_left
                      · intro w' hSw
                        try dsimp only at hSw
                        go_simp
                        all_goals with_reducible rfl
                      simp only [Act.put, List.setIfInBounds_toArray, List.set_cons_zero, List.set_cons_succ]
                      refine wpAnyH_take (i := 13) (oi := ⟨_, _, _, _, _, _⟩) (v := ?_) rfl (by kernel_rfl) (by kernel_rfl) (by kernel_rfl) (fun _ _ _ h => h) (Or.inl ⟨by rfl, ?_⟩) hHeld ?_
                      rotate_left
                      · intro w' hSw
                        try dsimp only at hSw
                        go_simp
                        all_goals with_reducible rfl
                      simp only [Act.put, List.setIfInBounds_toArray, List.set_cons_zero, List.set_cons_succ]
                      refine wpAnyH_take (i := 14) (oi := ⟨_, _, _, _, _, _⟩) (v := ?_) rfl (by kernel_rfl) (by kernel_rfl) (by kernel_rfl) (fun _ _ _ h => h) (Or.inl ⟨by rfl, ?_⟩) hHeld ?_
                      rotate_left
                      · intro w' hSw
                        try dsimp only at hSw
                        go_simp
                        all_goals with_reducible rfl
                      simp only [Act.put, List.setIfInBounds_toArray, List.set_cons_zero, List.set_cons_succ]
                      refine wpAnyH_take (i := 15) (oi := ⟨_, _, _, _, _, _⟩) (v := ?_) rfl (by kernel_rfl) (by kernel_rfl) (by kernel_rfl) (fun _ _ _ h => h) (Or.inl ⟨by rfl, ?_⟩) hHeld ?_
                      rotate_left
                      · intro w' hSw
                        try dsimp only at hSw
                        go_simp
                        all_goals with_reducible rfl
                      simp only [Act.put, List.setIfInBounds_toArray, List.set_cons_zero, List.set_cons_succ]
                      refine wpAnyH_take (i := 16) (oi := ⟨_, _, _, _, _, _⟩) (v := ?_) rfl (by kernel_rfl) (by kernel_rfl) (by kernel_rfl) (fun _ _ _ h => h) (Or.inl ⟨by rfl, ?_⟩) hHeld ?_
                      rotate_left
                      · intro w' hSw
                        try dsimp only at hSw
                        go_simp
                        all_goals with_reducible rfl
                      simp only [Act.put, List.setIfInBounds_toArray, List.set_cons_zero, List.set_cons_succ]
                      refine wpAnyH_take (i := 17) (oi := ⟨_, _, _, _, _, _⟩) (v := ?_) rfl (by kernel_rfl) (by kernel_rfl) (by kernel_rfl) (fun _ _ _ h => h) (Or.inl ⟨by rfl, ?_⟩) hHeld ?_
                      rotate_left
                      · intro w' hSw
                        try dsimp only at hSw
                        go_simp
                        all_goals with_reducible rfl
                      simp only [Act.put, List.setIfInBounds_toArray, List.set_cons_zero, List.set_cons_succ]
                      refine wpAnyH_take (i := 18) (oi := ⟨_, _, _, _, _, _⟩) (v := ?_) rfl (by kernel_rfl) (by kernel_rfl) (by kernel_rfl) (fun _ _ _ h => h) (Or.inl ⟨by rfl, ?_⟩) hHeld ?_
                      rotate_left
                      · intro w' hSw
                        try dsimp only at hSw
                        go_simp
                        all_goals with_reducible rfl
                      simp only [Act.put, List.setIfInBounds_toArray, List.set_cons_zero, List.set_cons_succ]
                      refine wpAnyH_take (i := 19) (oi := ⟨_, _, _, _, _, _⟩) (v := ?_) rfl (by kernel_rfl) (by kernel_rfl) (by kernel_rfl) (fun _ _ _ h => h) (Or.inl ⟨by rfl, ?_⟩) hHeld ?_
                      rotate_left
                      · intro w' hSw
                        try dsimp only at hSw
                        go_simp
                        all_goals with_reducible rfl
                      simp only [Act.put, List.setIfInBounds_toArray, List.set_cons_zero, List.set_cons_succ]
                      refine wpAnyH_take (i := 20) (oi := ⟨_, _, _, _, _, _⟩) (v := ?_) rfl (by kernel_rfl) (by kernel_rfl) (by kernel_rfl) (fun _ _ _ h => h) (Or.inl ⟨by rfl, ?_⟩) hHeld ?_
                      rotate_left
                      · intro w' hSw
                        try dsimp only at hSw
                        go_simp
                        all_goals with_reducible rfl
                      simp only [Act.put, List.setIfInBounds_toArray, List.set_cons_zero, List.set_cons_succ]
                      refine wpAnyH_take (i := 21) (oi := ⟨_, _, _, _, _, _⟩) (v := ?_) rfl (by kernel_rfl) (by kernel_rfl) (by kernel_rfl) (fun _ _ _ h => h) (Or.inl ⟨by rfl, ?_⟩) hHeld ?_
                      rotate_left
                      · intro w' hSw
                        try dsimp only at hSw
                        go_simp
                        all_goals with_reducible rfl
                      simp only [Act.put, List.setIfInBounds_toArray, List.set_cons_zero, List.set_cons_succ]
                      refine wpAnyH_ready (rs := [22]) (by kernel_rfl) (by simp) ?_
                      refine AllReadyH.cons (o := ⟨_, _, _, _, _, _⟩) rfl (fun K hK => ?_) AllReadyH.nil
                      go_simp
                      refine (hxz _ BR.out).mono ?_
                      rintro e wk2 ⟨rfl, nq2, rfl⟩
                      have CSS := Hid.of (CSR.out.next (below_drewN (Below.refl _ _) nq2))
                      have BS := Hid.of (below_drewN BR.out nq2)
                      clear hHeld d0 d1 d2
                      have d0 := (CSS.out).head
                      have d1 := ((CSS.out).tail).head
                      have d2 := (((CSS.out).tail).tail).head
                      refine hK.out _ _ ⟨d0, d1, d2⟩ (fun hHeld => ?_)
                      clear hK K
                      try simp only [Act.put, List.setIfInBounds_toArray, List.set_cons_zero, List.set_cons_succ]
                      refine wpAnyH_take (i := 23) (oi := ⟨_, _, _, _, _, _⟩) (v := ?_) rfl (by kernel_rfl) (by kernel_rfl) (by kernel_rfl) (fun _ _ _ h => h) (Or.inl ⟨by rfl, ?_⟩) hHeld ?_
                      rotate_left
                      · intro w' hSw
                        try dsimp only at hSw
                        go_simp
                        all_goals with_reducible rfl
                      simp only [Act.put, List.setIfInBounds_toArray, List.set_cons_zero, List.set_cons_succ]
                      refine wpAnyH_take (i := 24) (oi := ⟨_, _, _, _, _, _⟩) (v := ?_) rfl (by kernel_rfl) (by kernel_rfl) (by kernel_rfl) (fun _ _ _ h => h) (Or.inl ⟨by rfl, ?_⟩) hHeld ?_
                      rotate_left
                      · intro w' hSw
                        try dsimp only at hSw
                        go_simp
                        all_goals with_reducible rfl
                      simp only [Act.put, List.setIfInBounds_toArray, List.set_cons_zero, List.set_cons_succ]
                      refine wpAnyH_take (i := 25) (oi := ⟨_, _, _, _, _, _⟩) (v := ?_) rfl (by kernel_rfl) (by kernel_rfl) (by kernel_rfl) (fun _ _ _ h => h) (Or.inl ⟨by rfl, ?_⟩) hHeld ?_
                      rotate_left
                      · intro w' hSw
                        try dsimp only at hSw
                        go_simp
                        all_goals with_reducible rfl
                      simp only [Act.put, List.setIfInBounds_toArray, List.set_cons_zero, List.set_cons_succ]
                      refine wpAnyH_done (by kernel_rfl) ?_ _
                      refine NoPanic.normal ?_
                      clear hHeld d0 d1 d2
                      clear hxy hxz CSS CSR
                      go_wp2_with fail
                      go_roundg (N - (i + 1))
                      case measure => have := HNI.out; omega
                      case rel => exact ⟨i + 1, by go_num, by have := HNI.out; omega, Nat.le_refl _, Hid.of (by have h := BS.out; rw [World.drewN_drewN] at h; exact h)⟩
                    · clear bQ hxv hyv hzv ox oy oz x0 y0 z0 ixy lss xl yl zl BV HSB
                      have d0 := (CSQ.out).head
                      have d1 := ((CSQ.out).tail).head
                      have d2 := (((CSQ.out).tail).tail).head
                      refine wp_region_noPanic ?_
                      refine wp_region_held_drew (S := fun w' => w'.cell? ⟨xg, xq, none⟩ = some (.slice x1 Lx x2) ∧ w'.cell? ⟨yg, yq, none⟩ = some (.slice y1 Ly y2) ∧ w'.cell? ⟨zg, zq, none⟩ = some (.slice z1 Lz z2)) (by kernel_rfl) ?_ (fun hHeld => ?_)
                      · rw [hWQ]; exact ⟨d0, d1, d2⟩
                      refine wpAnyH_take (i := 0) (oi := ⟨_, _, _, _, _, _⟩) (v := ?_) rfl (by kernel_rfl) (by kernel_rfl) (by kernel_rfl) (fun _ _ _ h => h) (Or.inl ⟨by rfl, ?_⟩) hHeld ?_
                      rotate_left
                      · intro w' hSw
                        try dsimp only at hSw
                        go_simp
                        all_goals with_reducible rfl
                      simp only [Act.put, List.setIfInBounds_toArray, List.set_cons_zero, List.set_cons_succ]
                      refine wpAnyH_take (i := 1) (oi := ⟨_, _, _, _, _, _⟩) (v := ?_) rfl (by kernel_rfl) (by kernel_rfl) (by kernel_rfl) (fun _ _ _ h => h) (Or.inl ⟨by rfl, ?_⟩) hHeld ?_
                      rotate_left
                      · intro w' hSw
                        try dsimp only at hSw
                        go_simp
                        all_goals with_reducible rfl
                      simp only [Act.put, List.setIfInBounds_toArray, List.set_cons_zero, List.set_cons_succ]
                      refine wpAnyH_take (i := 2) (oi := ⟨_, _, _, _, _, _⟩) (v := ?_) rfl (by kernel_rfl) (by kernel_rfl) (by kernel_rfl) (fun _ _ _ h => h) (Or.inl ⟨by rfl, ?_⟩) hHeld ?_
                      rotate_left
                      · intro w' hSw
                        try dsimp only at hSw
                        go_simp
                        all_goals with_reducible rfl
                      simp only [Act.put, List.setIfInBounds_toArray, List.set_cons_zero, List.set_cons_succ]
                      refine wpAnyH_take (i := 3) (oi := ⟨_, _, _, _, _, _⟩) (v := ?_) rfl (by kernel_rfl) (by kernel_rfl) (by kernel_rfl) (fun _ _ _ h => h) (Or.inl ⟨by rfl, ?_⟩) hHeld ?_
                      rotate_left
                      · intro w' hSw
                        try dsimp only at hSw
                        go_simp
                        all_goals with_reducible rfl
                      simp only [Act.put, List.setIfInBounds_toArray, List.set_cons_zero, List.set_cons_succ]
                      refine wpAnyH_take (i := 4) (oi := ⟨_, _, _, _, _, _⟩) (v := ?_) rfl (by kernel_rfl) (by kernel_rfl) (by kernel_rfl) (fun _ _ _ h => h) (Or.inl ⟨by rfl, ?_⟩) hHeld ?_
                      rotate_left
                      · intro w' hSw
                        try dsimp only at hSw
                        go_simp
                        all_goals with_reducible rfl
                      simp only [Act.put, List.setIfInBounds_toArray, List.set_cons_zero, List.set_cons_succ]
                      refine wpAnyH_take (i := 5) (oi := ⟨_, _, _, _, _, _⟩) (v := ?_) rfl (by kernel_rfl) (by kernel_rfl) (by kernel_rfl) (fun _ _ _ h => h) (Or.inl ⟨by rfl, ?_⟩) hHeld ?_
                      rotate_left
                      · intro w' hSw
                        try dsimp only at hSw
                        go_simp
                        all_goals with_reducible rfl
                      simp only [Act.put, List.setIfInBounds_toArray, List.set_cons_zero, List.set_cons_succ]
                      refine wpAnyH_take (i := 6) (oi := ⟨_, _, _, _, _, _⟩) (v := ?_) rfl (by kernel_rfl) (by kernel_rfl) (by kernel_rfl) (fun _ _ _ h => h) (Or.inl ⟨by rfl, ?_⟩) hHeld ?_
                      rotate_left
                      · intro w' hSw
                        try dsimp only at hSw
                        go_simp
                        all_goals with_reducible rfl
                      simp only [Act.put, List.setIfInBounds_toArray, List.set_cons_zero, List.set_cons_succ]
                      refine wpAnyH_take (i := 7) (oi := ⟨_, _, _, _, _, _⟩) (v := ?_) rfl (by kernel_rfl) (by kernel_rfl) (by kernel_rfl) (fun _ _ _ h => h) (Or.inl ⟨by rfl, ?_⟩) hHeld ?_
                      rotate_left
                      · intro w' hSw
                        try dsimp only at hSw
                        go_simp
                        all_goals with_reducible rfl
                      simp only [Act.put, List.setIfInBounds_toArray, List.set_cons_zero, List.set_cons_succ]
                      refine wpAnyH_ready (rs := [8]) (by kernel_rfl) (by simp) ?_
                      refine AllReadyH.cons (o := ⟨_, _, _, _, _, _⟩) rfl (fun K hK => ?_) AllReadyH.nil
                      go_simp
                      refine hxy.mono ?_
                      rintro e wk ⟨rfl, nq, rfl⟩
                      have CSR := Hid.of (CSQ.out.next (below_drewN (Below.refl _ _) nq))
                      have BR := Hid.of (below_drewN BQ.out nq)
                      clear hHeld d0 d1 d2
                      have d0 := (CSR.out).head
                      have d1 := ((CSR.out).tail).head
                      have d2 := (((CSR.out).tail).tail).head
                      refine hK.out _ _ ⟨d0, d1, d2⟩ (fun hHeld => ?_)
                      clear hK K
                      try simp only [Act.put, List.setIfInBounds_toArray, List.set_cons_zero, List.set_cons_succ]
                      refine wpAnyH_take (i := 9) (oi := ⟨_, _, _, _, _, _⟩) (v := ?_) rfl (by kernel_rfl) (by kernel_rfl) (by kernel_rfl) (fun _ _ _ h => h) (Or.inl ⟨by rfl, ?_⟩) hHeld ?_
                      rotate_left
                      · intro w' hSw
                        try dsimp only at hSw
                        go_simp
                        all_goals with_reducible rfl
                      simp only [Act.put, List.setIfInBounds_toArray, List.set_cons_zero, List.set_cons_succ]
                      refine wpAnyH_take (i := 10) (oi := ⟨_, _, _, _, _, _⟩) (v := ?_) rfl (by kernel_rfl) (by kernel_rfl) (by kernel_rfl) (fun _ _ _ h => h) (Or.inl ⟨by rfl, ?_⟩) hHeld ?_
                      rotate_left
                      · intro w' hSw
                        try dsimp only at hSw
                        go_simp
                        all_goals with_reducible rfl
                      simp only [Act.put, List.setIfInBounds_toArray, List.set_cons_zero, List.set_cons_succ]
                      refine wpAnyH_take (i := 11) (oi := ⟨_, _, _, _, _, _⟩) (v := ?_) rfl (by kernel_rfl) (by kernel_rfl) (by kernel_rfl) (fun _ _ _ h => h) (Or.inl ⟨by rfl, ?_⟩) hHeld ?_
                      rotate_left
                      · intro w' hSw
                        try dsimp only at hSw
                        go_simp
                        all_goals with_reducible rfl
                      simp only [Act.put, List.setIfInBounds_toArray, List.set_cons_zero, List.set_cons_succ]
                      refine wpAnyH_take (i := 12) (oi := ⟨_, _, _, _, _, _⟩) (v := ?_) rfl (by kernel_rfl) (by kernel_rfl) (by kernel_rfl) (fun _ _ _ h => h) (Or.inl ⟨by rfl, ?_⟩) hHeld ?_
                      rotate_left
                      · intro w' hSw
                        try dsimp only at hSw
                        go_simp
                        all_goals with_reducible rfl
                      simp only [Act.put, List.setIfInBounds_toArray, List.set_cons_zero, List.set_cons_succ]
                      refine wpAnyH_take (i := 13) (oi := ⟨_, _, _, _, _, _⟩) (v := ?_) rfl (by kernel_rfl) (by kernel_rfl) (by kernel_rfl) (fun _ _ _ h => h) (Or.inl ⟨by rfl, ?_⟩) hHeld ?_
                      rotate_left
                      · intro w' hSw
                        try dsimp only at hSw
                        go_simp
                        all_goals with_reducible rfl
                      simp only [Act.put, List.setIfInBounds_toArray, List.set_cons_zero, List.set_cons_succ]
                      refine wpAnyH_take (i := 14) (oi := ⟨_, _, _, _, _, _⟩) (v := undef) rfl (by kernel_rfl) (by kernel_rfl) (by kernel_rfl) (fun _ _ _ h => h) (Or.inr ⟨by rfl, rfl⟩) hHeld ?_
                      simp only [Act.put, List.setIfInBounds_toArray, List.set_cons_zero, List.set_cons_succ]
                      refine wpAnyH_take (i := 15) (oi := ⟨_, _, _, _, _, _⟩) (v := undef) rfl (by kernel_rfl) (by kernel_rfl) (by kernel_rfl) (fun _ _ _ h => h) (Or.inr ⟨by rfl, rfl⟩) hHeld ?_
                      simp only [Act.put, List.setIfInBounds_toArray, List.set_cons_zero, List.set_cons_succ]
                      refine wpAnyH_take (i := 16) (oi := ⟨_, _, _, _, _, _⟩) (v := undef) rfl (by kernel_rfl) (by kernel_rfl) (by kernel_rfl) (fun _ _ _ h => h) (Or.inr ⟨by rfl, rfl⟩) hHeld ?_
                      simp only [Act.put, List.setIfInBounds_toArray, List.set_cons_zero, List.set_cons_succ]
                      refine wpAnyH_take (i := 17) (oi := ⟨_, _, _, _, _, _⟩) (v := undef) rfl (by kernel_rfl) (by kernel_rfl) (by kernel_rfl) (fun _ _ _ h => h) (Or.inr ⟨by rfl, rfl⟩) hHeld ?_
                      simp only [Act.put, List.setIfInBounds_toArray, List.set_cons_zero, List.set_cons_succ]
                      refine wpAnyH_take (i := 18) (oi := ⟨_, _, _, _, _, _⟩) (v := undef) rfl (by kernel_rfl) (by kernel_rfl) (by kernel_rfl) (fun _ _ _ h => h) (Or.inr ⟨by rfl, rfl⟩) hHeld ?_
                      simp only [Act.put, List.setIfInBounds_toArray, List.set_cons_zero, List.set_cons_succ]
                      refine wpAnyH_take (i := 19) (oi := ⟨_, _, _, _, _, _⟩) (v := undef) rfl (by kernel_rfl) (by kernel_rfl) (by kernel_rfl) (fun _ _ _ h => h) (Or.inr ⟨by rfl, rfl⟩) hHeld ?_
                      simp only [Act.put, List.setIfInBounds_toArray, List.set_cons_zero, List.set_cons_succ]
                      refine wpAnyH_take (i := 20) (oi := ⟨_, _, _, _, _, _⟩) (v := undef) rfl (by kernel_rfl) (by kernel_rfl) (by kernel_rfl) (fun _ _ _ h => h) (Or.inr ⟨by rfl, rfl⟩) hHeld ?_
                      simp only [Act.put, List.setIfInBounds_toArray, List.set_cons_zero, List.set_cons_succ]
                      refine wpAnyH_take (i := 21) (oi := ⟨_, _, _, _, _, _⟩) (v := undef) rfl (by kernel_rfl) (by kernel_rfl) (by kernel_rfl) (fun _ _ _ h => h) (Or.inr ⟨by rfl, rfl⟩) hHeld ?_
                      simp only [Act.put, List.setIfInBounds_toArray, List.set_cons_zero, List.set_cons_succ]
                      refine wpAnyH_take (i := 22) (oi := ⟨_, _, _, _, _, _⟩) (v := undef) rfl (by kernel_rfl) (by kernel_rfl) (by kernel_rfl) (fun _ _ _ h => h) (Or.inr ⟨by rfl, rfl⟩) hHeld ?_
                      simp only [Act.put, List.setIfInBounds_toArray, List.set_cons_zero, List.set_cons_succ]
                      refine wpAnyH_take (i := 23) (oi := ⟨_, _, _, _, _, _⟩) (v := undef) rfl (by kernel_rfl) (by kernel_rfl) (by kernel_rfl) (fun _ _ _ h => h) (Or.inr ⟨by rfl, rfl⟩) hHeld ?_
                      simp only [Act.put, List.setIfInBounds_toArray, List.set_cons_zero, List.set_cons_succ]
                      refine wpAnyH_take (i := 24) (oi := ⟨_, _, _, _, _, _⟩) (v := ?_) rfl (by kernel_rfl) (by kernel_rfl) (by kernel_rfl) (fun _ _ _ h => h) (Or.inl ⟨by rfl, ?_⟩) hHeld ?_
                      rotate_left
                      · intro w' hSw
                        try dsimp only at hSw
                        go_simp
                        all_goals with_reducible rfl
                      simp only [Act.put, List.setIfInBounds_toArray, List.set_cons_zero, List.set_cons_succ]
                      refine wpAnyH_take (i := 25) (oi := ⟨_, _, _, _, _, _⟩) (v := ?_) rfl (by kernel_rfl) (by kernel_rfl) (by kernel_rfl) (fun _ _ _ h => h) (Or.inl ⟨by rfl, ?_⟩) hHeld ?_
                      rotate_left
                      · intro w' hSw
                        try dsimp only at hSw
                        go_simp
                        all_goals with_reducible rfl
                      simp only [Act.put, List.setIfInBounds_toArray, List.set_cons_zero, List.set_cons_succ]
                      refine wpAnyH_done (by kernel_rfl) ?_ _
                      refine NoPanic.normal ?_
                      clear hHeld d0 d1 d2
                      clear hxy CSR
                      go_wp2_with fail
                      go_roundg (N - (i + 1))
                      case measure => have := HNI.out; omega
                      case rel => exact ⟨i + 1, by go_num, by have := HNI.out; omega, Nat.le_refl _, BR⟩
                  · obtain rfl : i = N := by omega
                    have GI := Hid.of (GZL.out.next BW.out)
                    go_wp2_with fail
                    refine (viewAlive_any S _ GI.out.ok).mono ?_
                    rintro e w10 ⟨rfl, b10⟩
                    have B10 := Hid.of (GI.out.pm.pv.fr.trans (b10.mono GI.out.pm.pv.fr.size))
                    clear b10
                    go_wp2
                    go_ret
                    exact ⟨rfl, B10.out⟩
              · go_simp
                obtain ⟨wa, hwb⟩ : ∃ x, WE.alloc (.cells #[.string mn, .int .i64 mt, .int .i64 mx] 28) = x := ⟨_, rfl⟩
                have bb : Below WE.heap.size WE wa := by rw [← hwb]; exact (Below.refl _ _).alloc (Nat.le_refl _) _
                have Xa : Hid (CellRow wa (.slice (some ⟨WE.heap.size, 0, none⟩) 1 1) 1 (flat aenc [(mn, mt, mx)])) := Hid.of (by rw [← hwb]; exact ⟨_, 1, rfl, .inr ⟨_, 0, rfl, by simp, new_cells _ #[.string mn, .int .i64 mt, .int .i64 mx] 28⟩⟩)
                have BGa := Hid.of (BGE.out.trans (bb.mono BGE.out.size))
                have GZa := Hid.of (GZE.out.next bb)
                have CSa := Hid.of (CSE.out.next bb)
                rw [hwb]
                clear bb hwb CSE GZE BGE
                clear hHeld d0 d1 d2 d3 d4 d5 d6
                have d0 := (CSa.out).head
                have d1 := ((CSa.out).tail).head
                have d2 := (((CSa.out).tail).tail).head
                have d3 := ((((CSa.out).tail).tail).tail).head
                have d4 := (((((CSa.out).tail).tail).tail).tail).head
                have d5 := ((((((CSa.out).tail).tail).tail).tail).tail).head
                have d6 := (((((((CSa.out).tail).tail).tail).tail).tail).tail).head
                refine hK.out _ _ ⟨d0, d1, d2, d3, d4, d5, d6⟩ (fun hHeld => ?_)
                clear hK K
                try simp only [Act.put, List.setIfInBounds_toArray, List.set_cons_zero, List.set_cons_succ]
                refine wpAnyH_ready (rs := [2]) (by kernel_rfl) (by simp) ?_
                refine AllReadyH.cons (o := ⟨_, _, _, _, _, _⟩) rfl (fun K hK => ?_) AllReadyH.nil
                refine step_append_any rfl (.const (.slice none 0 0)) (.tmp 118) 25 rfl w8.heap.size 28 i0 _ 3 32 Try.underlying25 HI.out HZ0.out HZ1.out HZ2.out rfl (by decide) (.slice none 0 0) 0 [] rfl (World.ownsRow_nil _ _ _ _) _ M (flat aenc ss) (by simp [Act.eval]) (HV8.out.kept BGa.out) HFL.out (flat_ones aenc_one _) (by have := MH.out; unfold maxLen; omega) (by have := MH.out; omega) BGa.out.size ?_
                intro v1 wb o1 g1 m1
                have bb := below_of_none g1
                have Ob : Hid (wb.ownsRow w8.heap.size 28 3 v1 M (flat aenc ss)) := Hid.of (by simpa using o1)
                have BGb := Hid.of (BGa.out.trans (bb.mono BGa.out.size))
                have GZb := Hid.of (GZa.out.next bb)
                have CSb := Hid.of (CSa.out.next bb)
                have Xb := Hid.of (Xa.out.kept bb)
                clear bb o1 g1 m1 CSa GZa BGa Xa
                clear hHeld d0 d1 d2 d3 d4 d5 d6
                have d0 := (CSb.out).head
                have d1 := ((CSb.out).tail).head
                have d2 := (((CSb.out).tail).tail).head
                have d3 := ((((CSb.out).tail).tail).tail).head
                have d4 := (((((CSb.out).tail).tail).tail).tail).head
                have d5 := ((((((CSb.out).tail).tail).tail).tail).tail).head
                have d6 := (((((((CSb.out).tail).tail).tail).tail).tail).tail).head
                refine hK.out _ _ ⟨d0, d1, d2, d3, d4, d5, d6⟩ (fun hHeld => ?_)
                clear hK K
                try simp only [Act.put, List.setIfInBounds_toArray, List.set_cons_zero, List.set_cons_succ]
                refine wpAnyH_ready (rs := [5]) (by kernel_rfl) (by simp) ?_
                refine AllReadyH.cons (o := ⟨_, _, _, _, _, _⟩) rfl (fun K hK => ?_) AllReadyH.nil
                refine step_append_any rfl (.tmp 119) (.tmp 121) 25 rfl w8.heap.size 28 i0 _ 3 32 Try.underlying25 HI.out HZ0.out HZ1.out HZ2.out rfl (by decide) v1 M (flat aenc ss) (by simp [Act.eval]) Ob.out _ 1 (flat aenc [(mn, mt, mx)]) (by simp [Act.eval]) Xb.out rfl (flat_ones aenc_one _) (by have := MH.out; unfold maxLen; omega) (by have := MH.out; omega) BGb.out.size ?_
                intro v5 wc o5 g5 m5
                have BGc : Hid (Below w8.heap.size w8 wc) := Hid.of (BGb.out.grown g5 BGb.out.size (fun k hk => own_ge Ob.out hk))
                have hne : ∀ k, v1.ownBlock = some k → w8.heap.size ≤ k := fun k hk => own_ge Ob.out hk
                have GZc := Hid.of (GZ8.out.next BGc.out)
                have CSc := Hid.of (CS8.out.next BGc.out)
                have row5 : CellRow wc v5 (ss ++ [(mn, mt, mx)]).length (flat aenc (ss ++ [(mn, mt, mx)])) := by have h := own_row o5; rw [flat_append, List.length_append, HM.out]; exact h
                have R5 := Hid.of row5
                clear o5 g5 m5 hne row5 GZb CSb BGb Ob Xb
                clear hHeld d0 d1 d2 d3 d4 d5 d6
                have d0 := (CSc.out).head
                have d1 := ((CSc.out).tail).head
                have d2 := (((CSc.out).tail).tail).head
                have d3 := ((((CSc.out).tail).tail).tail).head
                have d4 := (((((CSc.out).tail).tail).tail).tail).head
                have d5 := ((((((CSc.out).tail).tail).tail).tail).tail).head
                have d6 := (((((((CSc.out).tail).tail).tail).tail).tail).tail).head
                refine hK.out _ _ ⟨d0, d1, d2, d3, d4, d5, d6⟩ (fun hHeld => ?_)
                clear hK K
                try simp only [Act.put, List.setIfInBounds_toArray, List.set_cons_zero, List.set_cons_succ]
                refine wpAnyH_ready (rs := [6]) (by kernel_rfl) (by simp) ?_
                refine AllReadyH.cons (o := ⟨_, _, _, _, _, _⟩) rfl (fun K hK => ?_) AllReadyH.nil
                go_simp
                refine (viewAll_any S _ _ (now, p, []) (ss ++ [(mn, mt, mx)]) _ GZc.out.ok FT.out VK.out GZc.out.x (by rw [show ((now, p, []) : RchL).2.1.2.length = N from HN.out]; have := N10.out; omega) R5.out (by rw [List.length_append, HM.out]; have := MH.out; simp; omega) (fun s hs => by rcases List.mem_append.1 hs with h | h; exact FS.out s h; rw [List.mem_singleton.1 h]; exact MF.out)).mono ?_
                rintro e wz ⟨u, usz, rfl, hus, bag, bb⟩
                have ho := AllRow.of bag
                obtain ⟨ua, uc, hu, -⟩ := own_one (bag.own _ (List.mem_cons_self ..))
                have hu2 : u = .slice ua N uc := hu.trans (by rw [show (oRow u usz).n = usz.length from rfl, hus]; exact congrArg (fun k => Value.slice ua k uc) HN.out)
                subst hu2
                have Az := Hid.of ho
                have Uz : Hid (usz.length = N) := Hid.of (hus.trans HN.out)
                have BGz := Hid.of (BGc.out.trans (bb.mono BGc.out.size))
                have GZz := Hid.of (GZc.out.next bb)
                have CSz := Hid.of (CSc.out.next bb)
                clear hu ho bag bb hus GZc CSc BGc R5
                clear hHeld d0 d1 d2 d3 d4 d5 d6
                have d0 := (CSz.out).head
                have d1 := ((CSz.out).tail).head
                have d2 := (((CSz.out).tail).tail).head
                have d3 := ((((CSz.out).tail).tail).tail).head
                have d4 := (((((CSz.out).tail).tail).tail).tail).head
                have d5 := ((((((CSz.out).tail).tail).tail).tail).tail).head
                have d6 := (((((((CSz.out).tail).tail).tail).tail).tail).tail).head
                refine hK.out _ _ ⟨d0, d1, d2, d3, d4, d5, d6⟩ (fun hHeld => ?_)
                clear hK K
                try simp only [Act.put, List.setIfInBounds_toArray, List.set_cons_zero, List.set_cons_succ]
                refine wpAnyH_take (i := 7) (oi := ⟨_, _, _, _, _, _⟩) (v := ?_) rfl (by kernel_rfl) (by kernel_rfl) (by kernel_rfl) (fun _ _ _ h => h) (Or.inl ⟨by rfl, ?_⟩) hHeld ?_
                rotate_left
                · intro w' hSw
                  try dsimp only at hSw
                  go_simp
                  all_goals with_reducible rfl
                simp only [Act.put, List.setIfInBounds_toArray, List.set_cons_zero, List.set_cons_succ]
                refine wpAnyH_done (by kernel_rfl) ?_ _
                refine NoPanic.normal ?_
                clear hHeld d0 d1 d2 d3 d4 d5 d6 CSz
                have GZL := GZz
                have Ax9 := Hid.of (Ax8.out.kept BGz.out)
                have Ay9 := Hid.of (Ay.out.kept BGz.out)
                go_wp2_with fail
                go_loopg [21, 22, 23] N (fun kx iv x22 x23 wr => ∃ i : Nat, iv = .int .i64 i ∧ i ≤ N ∧ N - i ≤ kx ∧ Hid (Below wz.heap.size wz wr))
                case atStart => exact ⟨0, rfl, Nat.zero_le _, Nat.le_refl _, Hid.of (Below.refl _ _)⟩
                case round =>
                  obtain ⟨i, rfl, hiN, hix, BW⟩ := hrel
                  have i0 : (0 : Int) ≤ (i : Int) := Int.natCast_nonneg _
                  by_cases hlt : (i : Int) < (N : Int)
                  · have GI := Hid.of (GZL.out.next BW.out)
                    obtain ⟨c0, c1, c2, c3⟩ := GI.out.rh.at
                    obtain ⟨e0, e1, e2⟩ := GI.out.pm.sat
                    have hst := S.start _ (now, p, []) (i : Int) mt wr GI.out.ok FT.out (by unfold In64; have := N10.out; omega) HMT.out GI.out.x
                    obtain ⟨sb, sk, hsb⟩ : ∃ sb sk, rStart (now, p, []) (i : Int) mt = (sb, sk) := ⟨_, _, rfl⟩
                    have HSB := Hid.of hsb
                    rw [hsb] at hst
                    clear hsb
                    go_wp2_with fail
                    refine hst.mono ?_
                    rintro e wv ⟨rfl, bv⟩
                    have BV := Hid.of (BW.out.trans (bv.mono BW.out.size))
                    clear bv hst GI c0 c1 c2 c3 e0 e1 e2 BW
                    simp only
                    have hNi : i < N := by omega
                    have HNI := Hid.of hNi
                    have i9 : (i : Int) ≤ 1000 := by have := N10.out; omega
                    obtain ⟨xv, hxv⟩ : ∃ x, usx[i]? = some x := ⟨_, List.getElem?_eq_getElem (by rw [Ux.out]; exact hNi)⟩
                    obtain ⟨yv, hyv⟩ : ∃ x, usy[i]? = some x := ⟨_, List.getElem?_eq_getElem (by rw [Uy.out]; exact hNi)⟩
                    obtain ⟨zv, hzv⟩ : ∃ x, usz[i]? = some x := ⟨_, List.getElem?_eq_getElem (by rw [Uz.out]; exact hNi)⟩
                    obtain ⟨x1, x2, ex, -⟩ := Ax9.out.i i xv hxv
                    obtain ⟨y1, y2, ey, -⟩ := Ay9.out.i i yv hyv
                    obtain ⟨z1, z2, ez, -⟩ := Az.out.i i zv hzv
                    obtain ⟨Lx, hLx⟩ : ∃ L, (vT (now, p, []) (i : Int) ss).length = L := ⟨_, rfl⟩
                    obtain ⟨Ly, hLy⟩ : ∃ L, (vT (now, p, []) (i : Int) ms).length = L := ⟨_, rfl⟩
                    obtain ⟨Lz, hLz⟩ : ∃ L, (vT (now, p, []) (i : Int) (ss ++ [(mn, mt, mx)])).length = L := ⟨_, rfl⟩
                    rw [hLx] at ex
                    rw [hLy] at ey
                    rw [hLz] at ez
                    subst ex ey ez
                    clear hLx hLy hLz
                    have ox := (Ax9.out.kept BV.out).o
                    have oy := (Ay9.out.kept BV.out).o
                    have oz := (Az.out.kept BV.out).o
                    rw [Ux.out] at ox
                    rw [Uy.out] at oy
                    rw [Uz.out] at oz
                    obtain ⟨xg, xo, rfl, xl, x0⟩ := ox.at i _ hxv
                    obtain ⟨yg, yo, rfl, yl, y0⟩ := oy.at i _ hyv
                    obtain ⟨zg, zo, rfl, zl, z0⟩ := oz.at i _ hzv
                    obtain ⟨xq, hxq⟩ : ∃ q, xo + i = q := ⟨_, rfl⟩
                    obtain ⟨yq, hyq⟩ : ∃ q, yo + i = q := ⟨_, rfl⟩
                    obtain ⟨zq, hzq⟩ : ∃ q, zo + i = q := ⟨_, rfl⟩
                    rw [hxq] at x0
                    rw [hyq] at y0
                    rw [hzq] at z0
                    have ixy : vT (now, p, []) (i : Int) ms = vT (now, p, []) (i : Int) ss := vT_perm FSM.out PM.out
                    have lss : (vT (now, p, []) (i : Int) ss).length ≤ 1000000 := by
                      have := (vT_good (i := (i : Int)) VK.out FS.out).len
                      have := MH.out
                      have := HM.out
                      omega
                    go_upto_region 19 with fail
                    obtain ⟨WQ, hWQ⟩ : ∃ WQ, wv.drew = WQ := ⟨_, rfl⟩
                    have bQ : Below wv.heap.size wv WQ := by rw [← hWQ]; exact (Below.refl _ _).drew
                    have CSQ : Hid (Cs WQ [(⟨xg, xq, none⟩, .slice x1 Lx x2), (⟨yg, yq, none⟩, .slice y1 Ly y2), (⟨zg, zq, none⟩, .slice z1 Lz z2)]) := Hid.of (Cs.next (.cons xl x0 (.cons yl y0 (.cons zl z0 (.nil _)))) bQ)
                    have BQ := Hid.of (BV.out.trans (bQ.mono BV.out.size))
                    have hxy : Calls Try.prog 13 #[.slice x1 Lx x2, .slice y1 Ly y2] WQ fun e w' => e = .returned (.bool true) ∧ ∃ q, w' = WQ.drewN q := by
                      obtain ⟨-, -, -, k1⟩ := (Ax9.out.kept BQ.out).i i _ hxv
                      obtain ⟨-, -, -, k2⟩ := (Ay9.out.kept BQ.out).i i _ hyv
                      rw [ixy] at k2
                      rw [← List.length_map (f := rl)] at k1 k2 lss
                      exact SameRecords_quiet _ _ _ _ k1 k2 lss
                    cases sk
                    · have hxz : ∀ wk, Below wz.heap.size wz wk → Calls Try.prog 13 #[.slice x1 Lx x2, .slice z1 Lz z2] wk fun e w' => e = .returned (.bool true) ∧ ∃ q, w' = wk.drewN q := fun wk bk => by
                        obtain ⟨-, -, -, k1⟩ := (Ax9.out.kept bk).i i _ hxv
                        obtain ⟨-, -, -, k2⟩ := (Az.out.kept bk).i i _ hzv
                        have e : vT (now, p, []) (i : Int) (ss ++ [(mn, mt, mx)]) = vT (now, p, []) (i : Int) ss := by
                          rw [vT_next VK.out MF.out, if_neg]
                          unfold vHas
                          rw [HSB.out]
                          exact Bool.false_ne_true
                        rw [e] at k2
                        rw [← List.length_map (f := rl)] at k1 k2 lss
                        exact SameRecords_quiet _ _ _ _ k1 k2 lss
                      clear bQ hxv hyv hzv ox oy oz x0 y0 z0 ixy lss xl yl zl BV HSB
                      have d0 := (CSQ.out).head
                      have d1 := ((CSQ.out).tail).head
                      have d2 := (((CSQ.out).tail).tail).head
                      refine wp_region_noPanic ?_
                      refine wp_region_held_drew (S := fun w' => w'.cell? ⟨xg, xq, none⟩ = some (.slice x1 Lx x2) ∧ w'.cell? ⟨yg, yq, none⟩ = some (.slice y1 Ly y2) ∧ w'.cell? ⟨zg, zq, none⟩ = some (.slice z1 Lz z2)) (by kernel_rfl) ?_ (fun hHeld => ?_)
                      · rw [hWQ]; exact ⟨d0, d1, d2⟩
                      refine wpAnyH_take (i := 0) (oi := ⟨_, _, _, _, _, _⟩) (v := ?_) rfl (by kernel_rfl) (by kernel_rfl) (by kernel_rfl) (fun _ _ _ h => h) (Or.inl ⟨by rfl, ?_⟩) hHeld ?_
                      rotate_left
                      · intro w' hSw
                        try dsimp only at hSw
                        go_simp
                        all_goals with_reducible rfl
                      simp only [Act.put, List.setIfInBounds_toArray, List.set_cons_zero, List.set_cons_succ]
                      refine wpAnyH_take (i := 1) (oi := ⟨_, _, _, _, _, _⟩) (v := ?_) rfl (by kernel_rfl) (by kernel_rfl) (by kernel_rfl) (fun _ _ _ h => h) (Or.inl ⟨by rfl, ?_⟩) hHeld ?_
                      rotate_left
                      · intro w' hSw
                        try dsimp only at hSw
                        go_simp
                        all_goals with_reducible rfl
                      simp only [Act.put, List.setIfInBounds_toArray, List.set_cons_zero, List.set_cons_succ]
                      refine wpAnyH_take (i := 2) (oi := ⟨_, _, _, _, _, _⟩) (v := ?_) rfl (by kernel_rfl) (by kernel_rfl) (by kernel_rfl) (fun _ _ _ h => h) (Or.inl ⟨by rfl, ?_⟩) hHeld ?_
                      rotate_left
                      · intro w' hSw
                        try dsimp only at hSw
                        go_simp
                        all_goals with_reducible rfl
                      simp only [Act.put, List.setIfInBounds_toArray, List.set_cons_zero, List.set_cons_succ]
                      refine wpAnyH_take (i := 3) (oi := ⟨_, _, _, _, _, _⟩) (v := ?_) rfl (by kernel_rfl) (by kernel_rfl) (by kernel_rfl) (fun _ _ _ h => h) (Or.inl ⟨by rfl, ?_⟩) hHeld ?_
                      rotate_left
                      · intro w' hSw
                        try dsimp only at hSw
                        go_simp
                        all_goals with_reducible rfl
                      simp only [Act.put, List.setIfInBounds_toArray, List.set_cons_zero, List.set_cons_succ]
                      refine wpAnyH_take (i := 4) (oi := ⟨_, _, _, _, _, _⟩) (v := ?_) rfl (by kernel_rfl) (by kernel_rfl) (by kernel_rfl) (fun _ _ _ h => h) (Or.inl ⟨by rfl, ?_⟩) hHeld ?_
                      rotate_left
                      · intro w' hSw
                        try dsimp only at hSw
                        go_simp
                        all_goals with_reducible rfl
                      simp only [Act.put, List.setIfInBounds_toArray, List.set_cons_zero, List.set_cons_succ]
                      refine wpAnyH_take (i := 5) (oi := ⟨_, _, _, _, _, _⟩) (v := ?_) rfl (by kernel_rfl) (by kernel_rfl) (by kernel_rfl) (fun _ _ _ h => h) (Or.inl ⟨by rfl, ?_⟩) hHeld ?_
                      rotate_left
                      · intro w' hSw
                        try dsimp only at hSw
                        go_simp
                        all_goals with_reducible rfl
                      simp only [Act.put, List.setIfInBounds_toArray, List.set_cons_zero, List.set_cons_succ]
                      refine wpAnyH_take (i := 6) (oi := ⟨_, _, _, _, _, _⟩) (v := ?_) rfl (by kernel_rfl) (by kernel_rfl) (by kernel_rfl) (fun _ _ _ h => h) (Or.inl ⟨by rfl, ?_⟩) hHeld ?_
                      rotate_left
                      · intro w' hSw
                        try dsimp only at hSw
                        go_simp
                        all_goals with_reducible rfl
                      simp only [Act.put, List.setIfInBounds_toArray, List.set_cons_zero, List.set_cons_succ]
                      refine wpAnyH_take (i := 7) (oi := ⟨_, _, _, _, _, _⟩) (v := ?_) rfl (by kernel_rfl) (by kernel_rfl) (by kernel_rfl) (fun _ _ _ h => h) (Or.inl ⟨by rfl, ?_⟩) hHeld ?_
                      rotate_left
                      · intro w' hSw
                        try dsimp only at hSw
                        go_simp
                        all_goals with_reducible rfl
                      simp only [Act.put, List.setIfInBounds_toArray, List.set_cons_zero, List.set_cons_succ]
                      refine wpAnyH_ready (rs := [8]) (by kernel_rfl) (by simp) ?_
                      refine AllReadyH.cons (o := ⟨_, _, _, _, _, _⟩) rfl (fun K hK => ?_) AllReadyH.nil
                      go_simp
                      refine hxy.mono ?_
                      rintro e wk ⟨rfl, nq, rfl⟩
                      have CSR := Hid.of (CSQ.out.next (below_drewN (Below.refl _ _) nq))
                      have BR := Hid.of (below_drewN BQ.out nq)
                      clear hHeld d0 d1 d2
                      have d0 := (CSR.out).head
                      have d1 := ((CSR.out).tail).head
                      have d2 := (((CSR.out).tail).tail).head
                      refine hK.out _ _ ⟨d0, d1, d2⟩ (fun hHeld => ?_)
                      clear hK K
                      try simp only [Act.put, List.setIfInBounds_toArray, List.set_cons_zero, List.set_cons_succ]
                      refine wpAnyH_take (i := 9) (oi := ⟨_, _, _, _, _, _⟩) (v := ?_) rfl (by kernel_rfl) (by kernel_rfl) (by kernel_rfl) (fun _ _ _ h => h) (Or.inl ⟨by rfl, ?_⟩) hHeld ?_
                      rotate_left
                      · intro w' hSw
                        try dsimp only at hSw
                        go_simp
                        all_goals with_reducible rfl
                      simp only [Act.put, List.setIfInBounds_toArray, List.set_cons_zero, List.set_cons_succ]
                      refine wpAnyH_take (i := 10) (oi := ⟨_, _, _, _, _, _⟩) (v := ?_) rfl (by kernel_rfl) (by kernel_rfl) (by kernel_rfl) (fun _ _ _ h => h) (Or.inl ⟨by rfl, ?_⟩) hHeld ?_
                      rotate_left
                      · intro w' hSw
                        try dsimp only at hSw
                        go_simp
                        all_goals with_reducible rfl
                      simp only [Act.put, List.setIfInBounds_toArray, List.set_cons_zero, List.set_cons_succ]
                      refine wpAnyH_take (i := 11) (oi := ⟨_, _, _, _, _, _⟩) (v := ?_) rfl (by kernel_rfl) (by kernel_rfl) (by kernel_rfl) (fun _ _ _ h => h) (Or.inl ⟨by rfl, ?_⟩) hHeld ?_
                      rotate_left
                      · intro w' hSw
                        try dsimp only at hSw
                        go_simp
                        all_goals with_reducible rfl
                      simp only [Act.put, List.setIfInBounds_toArray, List.set_cons_zero, List.set_cons_succ]
                      refine wpAnyH_take (i := 12) (oi := ⟨_, _, _, _, _, _⟩) (v := ?_) rfl (by kernel_rfl) (by kernel_rfl) (by kernel_rfl) (fun _ _ _ h => h) (Or.inl ⟨by rfl, ?_⟩) hHeld ?_
                      rotate_left
                      · intro w' hSw
                        try dsimp only at hSw
                        go_simp
                        all_goals with_reducible rfl
                      simp only [Act.put, List.setIfInBounds_toArray, List.set_cons_zero, List.set_cons_succ]
                      refine wpAnyH_take (i := 13) (oi := ⟨_, _, _, _, _, _⟩) (v := ?_) rfl (by kernel_rfl) (by kernel_rfl) (by kernel_rfl) (fun _ _ _ h => h) (Or.inl ⟨by rfl, ?_⟩) hHeld ?_
                      rotate_left
                      · intro w' hSw
                        try dsimp only at hSw
                        go_simp
                        all_goals with_reducible rfl
                      simp only [Act.put, List.setIfInBounds_toArray, List.set_cons_zero, List.set_cons_succ]
                      refine wpAnyH_take (i := 14) (oi := ⟨_, _, _, _, _, _⟩) (v := ?_) rfl (by kernel_rfl) (by kernel_rfl) (by kernel_rfl) (fun _ _ _ h => h) (Or.inl ⟨by rfl, ?_⟩) hHeld ?_
                      rotate_left
                      · intro w' hSw
                        try dsimp only at hSw
                        go_simp
                        all_goals with_reducible rfl
                      simp only [Act.put, List.setIfInBounds_toArray, List.set_cons_zero, List.set_cons_succ]
                      refine wpAnyH_take (i := 15) (oi := ⟨_, _, _, _, _, _⟩) (v := ?_) rfl (by kernel_rfl) (by kernel_rfl) (by kernel_rfl) (fun _ _ _ h => h) (Or.inl ⟨by rfl, ?_⟩) hHeld ?_
                      rotate_left
                      · intro w' hSw
                        try dsimp only at hSw
                        go_simp
                        all_goals with_reducible rfl
                      simp only [Act.put, List.setIfInBounds_toArray, List.set_cons_zero, List.set_cons_succ]
                      refine wpAnyH_take (i := 16) (oi := ⟨_, _, _, _, _, _⟩) (v := ?_) rfl (by kernel_rfl) (by kernel_rfl) (by kernel_rfl) (fun _ _ _ h => h) (Or.inl ⟨by rfl, ?_⟩) hHeld ?_
                      rotate_left
                      · intro w' hSw
                        try dsimp only at hSw
                        go_simp
                        all_goals with_reducible rfl
                      simp only [Act.put, List.setIfInBounds_toArray, List.set_cons_zero, List.set_cons_succ]
                      refine wpAnyH_take (i := 17) (oi := ⟨_, _, _, _, _, _⟩) (v := ?_) rfl (by kernel_rfl) (by kernel_rfl) (by kernel_rfl) (fun _ _ _ h => h) (Or.inl ⟨by rfl, ?_⟩) hHeld ?_
                      rotate_left
                      · intro w' hSw
                        try dsimp only at hSw
                        go_simp
                        all_goals with_reducible rfl
                      simp only [Act.put, List.setIfInBounds_toArray, List.set_cons_zero, List.set_cons_succ]
                      refine wpAnyH_take (i := 18) (oi := ⟨_, _, _, _, _, _⟩) (v := ?_) rfl (by kernel_rfl) (by kernel_rfl) (by kernel_rfl) (fun _ _ _ h => h) (Or.inl ⟨by rfl, ?_⟩) hHeld ?_
                      rotate_left
                      · intro w' hSw
                        try dsimp only at hSw
                        go_simp
                        all_goals with_reducible rfl
                      simp only [Act.put, List.setIfInBounds_toArray, List.set_cons_zero, List.set_cons_succ]
                      refine wpAnyH_take (i := 19) (oi := ⟨_, _, _, _, _, _⟩) (v := ?_) rfl (by kernel_rfl) (by kernel_rfl) (by kernel_rfl) (fun _ _ _ h => h) (Or.inl ⟨by rfl, ?_⟩) hHeld ?_
                      rotate_left
                      · intro w' hSw
                        try dsimp only at hSw
                        go_simp
                        all_goals with_reducible rfl
                      simp only [Act.put, List.setIfInBounds_toArray, List.set_cons_zero, List.set_cons_succ]
                      refine wpAnyH_take (i := 20) (oi := ⟨_, _, _, _, _, _⟩) (v := ?_) rfl (by kernel_rfl) (by kernel_rfl) (by kernel_rfl) (fun _ _ _ h => h) (Or.inl ⟨by rfl, ?_⟩) hHeld ?_
                      rotate_left
                      · intro w' hSw
                        try dsimp only at hSw
                        go_simp
                        all_goals with_reducible rfl
                      simp only [Act.put, List.setIfInBounds_toArray, List.set_cons_zero, List.set_cons_succ]
                      refine wpAnyH_take (i := 21) (oi := ⟨_, _, _, _, _, _⟩) (v := ?_) rfl (by kernel_rfl) (by kernel_rfl) (by kernel_rfl) (fun _ _ _ h => h) (Or.inl ⟨by rfl, ?_⟩) hHeld ?_
                      rotate_left
                      · intro w' hSw
                        try dsimp only at hSw
                        go_simp
                        all_goals with_reducible rfl
                      simp only [Act.put, List.setIfInBounds_toArray, List.set_cons_zero, List.set_cons_succ]
                      refine wpAnyH_ready (rs := [22]) (by kernel_rfl) (by simp) ?_
                      refine AllReadyH.cons (o := ⟨_, _, _, _, _, _⟩) rfl (fun K hK => ?_) AllReadyH.nil
                      go_simp
                      refine (hxz _ BR.out).mono ?_
                      rintro e wk2 ⟨rfl, nq2, rfl⟩
                      have CSS := Hid.of (CSR.out.next (below_drewN (Below.refl _ _) nq2))
                      have BS := Hid.of (below_drewN BR.out nq2)
                      clear hHeld d0 d1 d2
                      have d0 := (CSS.out).head
                      have d1 := ((CSS.out).tail).head
                      have d2 := (((CSS.out).tail).tail).head
                      refine hK.out _ _ ⟨d0, d1, d2⟩ (fun hHeld => ?_)
                      clear hK K
                      try simp only [Act.put, List.setIfInBounds_toArray, List.set_cons_zero, List.set_cons_succ]
                      refine wpAnyH_take (i := 23) (oi := ⟨_, _, _, _, _, _⟩) (v := ?_) rfl (by kernel_rfl) (by kernel_rfl) (by kernel_rfl) (fun _ _ _ h => h) (Or.inl ⟨by rfl, ?_⟩) hHeld ?_
                      rotate_left
                      · intro w' hSw
                        try dsimp only at hSw
                        go_simp
                        all_goals with_reducible rfl
                      simp only [Act.put, List.setIfInBounds_toArray, List.set_cons_zero, List.set_cons_succ]
                      refine wpAnyH_take (i := 24) (oi := ⟨_, _, _, _, _, _⟩) (v := ?_) rfl (by kernel_rfl) (by kernel_rfl) (by kernel_rfl) (fun _ _ _ h => h) (Or.inl ⟨by rfl, ?_⟩) hHeld ?_
                      rotate_left
                      · intro w' hSw
                        try dsimp only at hSw
                        go_simp
                        all_goals with_reducible rfl
                      simp only [Act.put, List.setIfInBounds_toArray, List.set_cons_zero, List.set_cons_succ]
                      refine wpAnyH_take (i := 25) (oi := ⟨_, _, _, _, _, _⟩) (v := ?_) rfl (by kernel_rfl) (by kernel_rfl) (by kernel_rfl) (fun _ _ _ h => h) (Or.inl ⟨by rfl, ?_⟩) hHeld ?_
                      rotate_left
                      · intro w' hSw
                        try dsimp only at hSw
                        go_simp
                        all_goals with_reducible rfl
                      simp only [Act.put, List.setIfInBounds_toArray, List.set_cons_zero, List.set_cons_succ]
                      refine wpAnyH_done (by kernel_rfl) ?_ _
                      refine NoPanic.normal ?_
                      clear hHeld d0 d1 d2
                      clear hxy hxz CSS CSR
                      go_wp2_with fail
                      go_roundg (N - (i + 1))
                      case measure => have := HNI.out; omega
                      case rel => exact ⟨i + 1, by go_num, by have := HNI.out; omega, Nat.le_refl _, Hid.of (by have h := BS.out; rw [World.drewN_drewN] at h; exact h)⟩
                    · clear bQ hxv hyv hzv ox oy oz x0 y0 z0 ixy lss xl yl zl BV HSB
                      have d0 := (CSQ.out).head
                      have d1 := ((CSQ.out).tail).head
                      have d2 := (((CSQ.out).tail).tail).head
                      refine wp_region_noPanic ?_
                      refine wp_region_held_drew (S := fun w' => w'.cell? ⟨xg, xq, none⟩ = some (.slice x1 Lx x2) ∧ w'.cell? ⟨yg, yq, none⟩ = some (.slice y1 Ly y2) ∧ w'.cell? ⟨zg, zq, none⟩ = some (.slice z1 Lz z2)) (by kernel_rfl) ?_ (fun hHeld => ?_)
                      · rw [hWQ]; exact ⟨d0, d1, d2⟩
                      refine wpAnyH_take (i := 0) (oi := ⟨_, _, _, _, _, _⟩) (v := ?_) rfl (by kernel_rfl) (by kernel_rfl) (by kernel_rfl) (fun _ _ _ h => h) (Or.inl ⟨by rfl, ?_⟩) hHeld ?_
                      rotate_left
                      · intro w' hSw
                        try dsimp only at hSw
                        go_simp
                        all_goals with_reducible rfl
                      simp only [Act.put, List.setIfInBounds_toArray, List.set_cons_zero, List.set_cons_succ]
                      refine wpAnyH_take (i := 1) (oi := ⟨_, _, _, _, _, _⟩) (v := ?_) rfl (by kernel_rfl) (by kernel_rfl) (by kernel_rfl) (fun _ _ _ h => h) (Or.inl ⟨by rfl, ?_⟩) hHeld ?_
                      rotate_left
                      · intro w' hSw
                        try dsimp only at hSw
                        go_simp
                        all_goals with_reducible rfl
                      simp only [Act.put, List.setIfInBounds_toArray, List.set_cons_zero, List.set_cons_succ]
                      refine wpAnyH_take (i := 2) (oi := ⟨_, _, _, _, _, _⟩) (v := ?_) rfl (by kernel_rfl) (by kernel_rfl) (by kernel_rfl) (fun _ _ _ h => h) (Or.inl ⟨by rfl, ?_⟩) hHeld ?_
                      rotate_left
                      · intro w' hSw
                        try dsimp only at hSw
                        go_simp
                        all_goals with_reducible rfl
                      simp only [Act.put, List.setIfInBounds_toArray, List.set_cons_zero, List.set_cons_succ]
                      refine wpAnyH_take (i := 3) (oi := ⟨_, _, _, _, _, _⟩) (v := ?_) rfl (by kernel_rfl) (by kernel_rfl) (by kernel_rfl) (fun _ _ _ h => h) (Or.inl ⟨by rfl, ?_⟩) hHeld ?_
                      rotate_left
                      · intro w' hSw
                        try dsimp only at hSw
                        go_simp
                        all_goals with_reducible rfl
                      simp only [Act.put, List.setIfInBounds_toArray, List.set_cons_zero, List.set_cons_succ]
                      refine wpAnyH_take (i := 4) (oi := ⟨_, _, _, _, _, _⟩) (v := ?_) rfl (by kernel_rfl) (by kernel_rfl) (by kernel_rfl) (fun _ _ _ h => h) (Or.inl ⟨by rfl, ?_⟩) hHeld ?_
                      rotate_left
                      · intro w' hSw
                        try dsimp only at hSw
                        go_simp
                        all_goals with_reducible rfl
                      simp only [Act.put, List.setIfInBounds_toArray, List.set_cons_zero, List.set_cons_succ]
                      refine wpAnyH_take (i := 5) (oi := ⟨_, _, _, _, _, _⟩) (v := ?_) rfl (by kernel_rfl) (by kernel_rfl) (by kernel_rfl) (fun _ _ _ h => h) (Or.inl ⟨by rfl, ?_⟩) hHeld ?_
                      rotate_left
                      · intro w' hSw
                        try dsimp only at hSw
                        go_simp
                        all_goals with_reducible rfl
                      simp only [Act.put, List.setIfInBounds_toArray, List.set_cons_zero, List.set_cons_succ]
                      refine wpAnyH_take (i := 6) (oi := ⟨_, _, _, _, _, _⟩) (v := ?_) rfl (by kernel_rfl) (by kernel_rfl) (by kernel_rfl) (fun _ _ _ h => h) (Or.inl ⟨by rfl, ?_⟩) hHeld ?_
                      rotate_left
                      · intro w' hSw
                        try dsimp only at hSw
                        go_simp
                        all_goals with_reducible rfl
                      simp only [Act.put, List.setIfInBounds_toArray, List.set_cons_zero, List.set_cons_succ]
                      refine wpAnyH_take (i := 7) (oi := ⟨_, _, _, _, _, _⟩) (v := ?_) rfl (by kernel_rfl) (by kernel_rfl) (by kernel_rfl) (fun _ _ _ h => h) (Or.inl ⟨by rfl, ?_⟩) hHeld ?_
                      rotate_left
                      · intro w' hSw
                        try dsimp only at hSw
                        go_simp
                        all_goals with_reducible rfl
                      simp only [Act.put, List.setIfInBounds_toArray, List.set_cons_zero, List.set_cons_succ]
                      refine wpAnyH_ready (rs := [8]) (by kernel_rfl) (by simp) ?_
                      refine AllReadyH.cons (o := ⟨_, _, _, _, _, _⟩) rfl (fun K hK => ?_) AllReadyH.nil
                      go_simp
                      refine hxy.mono ?_
                      rintro e wk ⟨rfl, nq, rfl⟩
                      have CSR := Hid.of (CSQ.out.next (below_drewN (Below.refl _ _) nq))
                      have BR := Hid.of (below_drewN BQ.out nq)
                      clear hHeld d0 d1 d2
                      have d0 := (CSR.out).head
                      have d1 := ((CSR.out).tail).head
                      have d2 := (((CSR.out).tail).tail).head
                      refine hK.out _ _ ⟨d0, d1, d2⟩ (fun hHeld => ?_)
                      clear hK K
                      try simp only [Act.put, List.setIfInBounds_toArray, List.set_cons_zero, List.set_cons_succ]
                      refine wpAnyH_take (i := 9) (oi := ⟨_, _, _, _, _, _⟩) (v := ?_) rfl (by kernel_rfl) (by kernel_rfl) (by kernel_rfl) (fun _ _ _ h => h) (Or.inl ⟨by rfl, ?_⟩) hHeld ?_
                      rotate_left
                      · intro w' hSw
                        try dsimp only at hSw
                        go_simp
                        all_goals with_reducible rfl
                      simp only [Act.put, List.setIfInBounds_toArray, List.set_cons_zero, List.set_cons_succ]
                      refine wpAnyH_take (i := 10) (oi := ⟨_, _, _, _, _, _⟩) (v := ?_) rfl (by kernel_rfl) (by kernel_rfl) (by kernel_rfl) (fun _ _ _ h => h) (Or.inl ⟨by rfl, ?_⟩) hHeld ?_
                      rotate_left
                      · intro w' hSw
                        try dsimp only at hSw
                        go_simp
                        all_goals with_reducible rfl
                      simp only [Act.put, List.setIfInBounds_toArray, List.set_cons_zero, List.set_cons_succ]
                      refine wpAnyH_take (i := 11) (oi := ⟨_, _, _, _, _, _⟩) (v := ?_) rfl (by kernel_rfl) (by kernel_rfl) (by kernel_rfl) (fun _ _ _ h => h) (Or.inl ⟨by rfl, ?_⟩) hHeld ?_
                      rotate_left
                      · intro w' hSw
                        try dsimp only at hSw
                        go_simp
                        all_goals with_reducible rfl
                      simp only [Act.put, List.setIfInBounds_toArray, List.set_cons_zero, List.set_cons_succ]
                      refine wpAnyH_take (i := 12) (oi := ⟨_, _, _, _, _, _⟩) (v := ?_) rfl (by kernel_rfl) (by kernel_rfl) (by kernel_rfl) (fun _ _ _ h => h) (Or.inl ⟨by rfl, ?_⟩) hHeld ?_
                      rotate_left
                      · intro w' hSw
                        try dsimp only at hSw
                        go_simp
                        all_goals with_reducible rfl
                      simp only [Act.put, List.setIfInBounds_toArray, List.set_cons_zero, List.set_cons_succ]
                      refine wpAnyH_take (i := 13) (oi := ⟨_, _, _, _, _, _⟩) (v := ?_) rfl (by kernel_rfl) (by kernel_rfl) (by kernel_rfl) (fun _ _ _ h => h) (Or.inl ⟨by rfl, ?_⟩) hHeld ?_
                      rotate_left
                      · intro w' hSw
                        try dsimp only at hSw
                        go_simp
                        all_goals with_reducible rfl
                      simp only [Act.put, List.setIfInBounds_toArray, List.set_cons_zero, List.set_cons_succ]
                      refine wpAnyH_take (i := 14) (oi := ⟨_, _, _, _, _, _⟩) (v := undef) rfl (by kernel_rfl) (by kernel_rfl) (by kernel_rfl) (fun _ _ _ h => h) (Or.inr ⟨by rfl, rfl⟩) hHeld ?_
                      simp only [Act.put, List.setIfInBounds_toArray, List.set_cons_zero, List.set_cons_succ]
                      refine wpAnyH_take (i := 15) (oi := ⟨_, _, _, _, _, _⟩) (v := undef) rfl (by kernel_rfl) (by kernel_rfl) (by kernel_rfl) (fun _ _ _ h => h) (Or.inr ⟨by rfl, rfl⟩) hHeld ?_
                      simp only [Act.put, List.setIfInBounds_toArray, List.set_cons_zero, List.set_cons_succ]
                      refine wpAnyH_take (i := 16) (oi := ⟨_, _, _, _, _, _⟩) (v := undef) rfl (by kernel_rfl) (by kernel_rfl) (by kernel_rfl) (fun _ _ _ h => h) (Or.inr ⟨by rfl, rfl⟩) hHeld ?_
                      simp only [Act.put, List.setIfInBounds_toArray, List.set_cons_zero, List.set_cons_succ]
                      refine wpAnyH_take (i := 17) (oi := ⟨_, _, _, _, _, _⟩) (v := undef) rfl (by kernel_rfl) (by kernel_rfl) (by kernel_rfl) (fun _ _ _ h => h) (Or.inr ⟨by rfl, rfl⟩) hHeld ?_
                      simp only [Act.put, List.setIfInBounds_toArray, List.set_cons_zero, List.set_cons_succ]
                      refine wpAnyH_take (i := 18) (oi := ⟨_, _, _, _, _, _⟩) (v := undef) rfl (by kernel_rfl) (by kernel_rfl) (by kernel_rfl) (fun _ _ _ h => h) (Or.inr ⟨by rfl, rfl⟩) hHeld ?_
                      simp only [Act.put, List.setIfInBounds_toArray, List.set_cons_zero, List.set_cons_succ]
                      refine wpAnyH_take (i := 19) (oi := ⟨_, _, _, _, _, _⟩) (v := undef) rfl (by kernel_rfl) (by kernel_rfl) (by kernel_rfl) (fun _ _ _ h => h) (Or.inr ⟨by rfl, rfl⟩) hHeld ?_
                      simp only [Act.put, List.setIfInBounds_toArray, List.set_cons_zero, List.set_cons_succ]
                      refine wpAnyH_take (i := 20) (oi := ⟨_, _, _, _, _, _⟩) (v := undef) rfl (by kernel_rfl) (by kernel_rfl) (by kernel_rfl) (fun _ _ _ h => h) (Or.inr ⟨by rfl, rfl⟩) hHeld ?_
                      simp only [Act.put, List.setIfInBounds_toArray, List.set_cons_zero, List.set_cons_succ]
                      refine wpAnyH_take (i := 21) (oi := ⟨_, _, _, _, _, _⟩) (v := undef) rfl (by kernel_rfl) (by kernel_rfl) (by kernel_rfl) (fun _ _ _ h => h) (Or.inr ⟨by rfl, rfl⟩) hHeld ?_
                      simp only [Act.put, List.setIfInBounds_toArray, List.set_cons_zero, List.set_cons_succ]
                      refine wpAnyH_take (i := 22) (oi := ⟨_, _, _, _, _, _⟩) (v := undef) rfl (by kernel_rfl) (by kernel_rfl) (by kernel_rfl) (fun _ _ _ h => h) (Or.inr ⟨by rfl, rfl⟩) hHeld ?_
                      simp only [Act.put, List.setIfInBounds_toArray, List.set_cons_zero, List.set_cons_succ]
                      refine wpAnyH_take (i := 23) (oi := ⟨_, _, _, _, _, _⟩) (v := undef) rfl (by kernel_rfl) (by kernel_rfl) (by kernel_rfl) (fun _ _ _ h => h) (Or.inr ⟨by rfl, rfl⟩) hHeld ?_
                      simp only [Act.put, List.setIfInBounds_toArray, List.set_cons_zero, List.set_cons_succ]
                      refine wpAnyH_take (i := 24) (oi := ⟨_, _, _, _, _, _⟩) (v := ?_) rfl (by kernel_rfl) (by kernel_rfl) (by kernel_rfl) (fun _ _ _ h => h) (Or.inl ⟨by rfl, ?_⟩) hHeld ?_
                      rotate_left
                      · intro w' hSw
                        try dsimp only at hSw
                        go_simp
                        all_goals with_reducible rfl
                      simp only [Act.put, List.setIfInBounds_toArray, List.set_cons_zero, List.set_cons_succ]
                      refine wpAnyH_take (i := 25) (oi := ⟨_, _, _, _, _, _⟩) (v := ?_) rfl (by kernel_rfl) (by kernel_rfl) (by kernel_rfl) (fun _ _ _ h => h) (Or.inl ⟨by rfl, ?_⟩) hHeld ?_
                      rotate_left
                      · intro w' hSw
                        try dsimp only at hSw
                        go_simp
                        all_goals with_reducible rfl
                      simp only [Act.put, List.setIfInBounds_toArray, List.set_cons_zero, List.set_cons_succ]
                      refine wpAnyH_done (by kernel_rfl) ?_ _
                      refine NoPanic.normal ?_
                      clear hHeld d0 d1 d2
                      clear hxy CSR
                      go_wp2_with fail
                      go_roundg (N - (i + 1))
                      case measure => have := HNI.out; omega
                      case rel => exact ⟨i + 1, by go_num, by have := HNI.out; omega, Nat.le_refl _, BR⟩
                  · obtain rfl : i = N := by omega
                    have GI := Hid.of (GZL.out.next BW.out)
                    go_wp2_with fail
                    refine (viewAlive_any S _ GI.out.ok).mono ?_
                    rintro e w10 ⟨rfl, b10⟩
                    have B10 := Hid.of (GI.out.pm.pv.fr.trans (b10.mono GI.out.pm.pv.fr.size))
                    clear b10
                    go_wp2
                    go_ret
                    exact ⟨rfl, B10.out⟩

end Go.Proofs.Ytdhkmcmipkfkjaa
