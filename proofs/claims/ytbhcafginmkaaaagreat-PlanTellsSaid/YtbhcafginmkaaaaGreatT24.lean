/-
  A bundle of texts: QRB QRC QRD.
-/
import Derived.Test.YtbhcafginmkaaaaGreatT23
import Derived.Test.YtbhcafginmkaaaaGreatT05
import Derived.Test.YtbhcafginmkaaaaGreatT12
import Derived.Test.YtbhcafginmkaaaaGreatT21
import Derived.Test.YtbhcafginmkaaaaGreatT16
namespace Go.Proofs.YtbhcafginmkaaaaGreat
open Go.RowKit Go.Lib

/-- Each step of the fills is one of a tier's shards. -/
theorem locate {l : List TierL} (h : ShOk l) {s : Int} (h0 : 0 ≤ s) (h1 : s < shSum l) : ∃ (j : Nat) (x : TierL) (i : Int), l[j]? = some x ∧ 0 ≤ i ∧ i < x.2.2.2 ∧ s = shSum (l.take j) + i := by
  induction l generalizing s with
  | nil => have : shSum ([] : List TierL) = 0 := rfl; omega
  | cons y l ih =>
    have hy := h y (List.mem_cons_self ..)
    have e : shSum (y :: l) = y.2.2.2 + shSum l := rfl
    by_cases c : s < y.2.2.2
    · exact ⟨0, y, s, rfl, h0, c, by show s = 0 + s; omega⟩
    · obtain ⟨j, x, i, a, b, d, f⟩ := ih h.tail (s := s - y.2.2.2) (by omega) (by omega)
      refine ⟨j + 1, x, i, a, b, d, ?_⟩
      show s = y.2.2.2 + shSum (l.take j) + i
      omega

theorem StepsOk.filled2 {q : PolL} {pl : PlanL} (h : StepsOk q pl) {j : Nat} {x : TierL} (hx : q.2[j]? = some x) (sn : ByteArray) : 0 ≤ nShard sn x.2.2.2 ∧ nShard sn x.2.2.2 < x.2.2.2 ∧ shSum (q.2.take j) + nShard sn x.2.2.2 < shSum q.2 ∧ ∀ k, mFilled pl k (j : Int) sn = decide (shSum (q.2.take j) + nShard sn x.2.2.2 < k) := by
  have hm := h.ok x (List.mem_of_getElem? hx)
  obtain ⟨r0, r1⟩ := nShard_in sn x.2.2.2 (by omega)
  have h2 := shSum_ge (l := q.2.take j) (fun z hz => h.ok z (List.mem_of_mem_take hz))
  have h3 := shSum_take hx
  have h5 : shSum q.2 = shSum (q.2.take (j + 1)) + shSum (q.2.drop (j + 1)) := by rw [← shSum_app, List.take_append_drop]
  have h6 := shSum_ge (l := q.2.drop (j + 1)) (fun z hz => h.ok z (List.mem_of_mem_drop hz))
  have hs := h.sum
  have hl := h.len
  refine ⟨r0, r1, by omega, fun k => ?_⟩
  unfold mFilled
  rw [if_neg (by omega), show ((j : Int).toNat) = j by omega, h.tq, hx]
  show (decide (nShard sn x.2.2.2 < x.2.2.2) && decide (mAdd (mFills (q.2.take j)) (nShard sn x.2.2.2) < k)) = _
  rw [decide_eq_true r1, Bool.true_and, mFills_sum (fun z hz => h.ok z (List.mem_of_mem_take hz)) (by rw [List.length_take]; omega), mAdd_of (by unfold I64; omega)]

set_option maxRecDepth 20000 in
set_option maxHeartbeats 3200000 in
theorem refFilled_any (v : Value) (pl : PlanL) (k : Int) (ti : Nat) (sn : ByteArray) (w : World) (hv : PlanRow w v pl) (hm : Made13 pl) (ht : ti < pl.1.2.length) (hk : k ≤ 100) (hsn : sn.size ≤ 300) :
    Calls Tryz.prog 30 #[v, .int .i64 k, .int .i64 ti, .string sn] w fun x w' => x = .returned (.bool (mFilled pl k ti sn)) ∧ Below w.heap.size w w' := by
  have HM := Hid.of hm
  have HV := Hid.of hv
  have HSN := Hid.of hsn
  have SO : Hid (StepsOk pl.1 pl) := Hid.of ⟨hm.ok, fun c => by rw [c] at ht; exact absurd ht (Nat.not_lt_zero _), hm.len, rfl⟩
  obtain ⟨s, f, rfl, hs, hf, -, -⟩ := hv
  have HS := Hid.of hs
  obtain ⟨sa, sc, rfl, -⟩ := hs
  unfold plVal at HV ⊢
  obtain ⟨n, hn⟩ : ∃ n, pl.1.1 = n := ⟨_, rfl⟩
  obtain ⟨N, hN⟩ : ∃ N, pl.1.2.length = N := ⟨_, rfl⟩
  rw [hN] at HS ht
  rw [hn, hN] at HV ⊢
  obtain ⟨x, hx⟩ : ∃ x, pl.1.2[ti]? = some x := ⟨_, List.getElem?_eq_getElem (by rw [hN]; exact ht)⟩
  obtain ⟨r0, r1, t1, fil⟩ := SO.out.filled2 hx sn
  obtain ⟨rr, hr⟩ : ∃ rr, nShard sn x.2.2.2 = rr := ⟨_, rfl⟩
  obtain ⟨th, hth⟩ : ∃ th, shSum (pl.1.2.take ti) + rr = th := ⟨_, rfl⟩
  rw [hr] at r0 r1 t1 fil
  rw [hth] at t1 fil
  have FIL := Hid.of fil
  have HTH := Hid.of hth
  have HRR := Hid.of hr
  have TH : Hid (0 ≤ th ∧ th < shSum pl.1.2 ∧ shSum pl.1.2 ≤ 80) := Hid.of ⟨by have := shSum_ge (l := pl.1.2.take ti) (fun z hz => hm.ok z (List.mem_of_mem_take hz)); omega, t1, hm.sum.2⟩
  have HX := Hid.of hx
  have R01 := Hid.of (And.intro r0 r1)
  obtain ⟨z, hz⟩ : ∃ z, w.heap.size = z := ⟨_, rfl⟩
  obtain ⟨w1, hw1⟩ : ∃ w1, w.alloc (.cells #[.string n, .slice sa N sc, f] 31) = w1 := ⟨_, rfl⟩
  have CS1 : Hid (Dc w1 [(⟨z, 0, none⟩, .string n), (⟨z, 1, none⟩, .slice sa N sc), (⟨z, 2, none⟩, f)]) := Hid.of (by rw [← hw1, ← hz]; exact refPlan_new _ _ _ _)
  have B1 : Hid (Below w.heap.size w w1) := Hid.of (by rw [← hw1]; exact (Below.refl _ _).alloc (Nat.le_refl _) _)
  have HW := Hid.of hw1
  have HZ := Hid.of hz
  have NN := Hid.of hN
  have n9 : N ≤ 10 := by rw [← hN]; exact hm.len
  have TN := Hid.of ht
  clear hw1 hz hN hn hf hm hx hr hth fil r0 r1 t1 hsn ht
  go_enter Tryz.func30, Tryz.ntmps30
  go_upto_region 1 with fail
  rw [HW.out, HZ.out]
  clear HW
  go_upto_region 2 with fail
  go_loopg [9] k.toNat (fun kx sv wr => ∃ (s : Nat), sv = .int .i64 s ∧ k.toNat - s ≤ kx ∧ (s : Int) ≤ max k 0 ∧ Hid ((s : Int) ≤ th) ∧ Hid (Dc wr [(⟨z, 0, none⟩, .string n), (⟨z, 1, none⟩, .slice sa N sc), (⟨z, 2, none⟩, f)]) ∧ Hid (Below w.heap.size w wr))
  case atStart => exact ⟨0, rfl, Nat.le_refl _, by omega, Hid.of (by have := TH.out; omega), CS1, B1⟩
  case round =>
    clear CS1 B1
    obtain ⟨s, rfl, hkx, hsk, HST, CS, HB⟩ := hrel
    have s0 : (0 : Int) ≤ (s : Int) := Int.natCast_nonneg _
    obtain ⟨c0, c1⟩ : wr.cell? ⟨z, 0, none⟩ = some (.string n) ∧ wr.cell? ⟨z, 1, none⟩ = some (.slice sa N sc) := ⟨CS.out.head, CS.out.tail.head⟩
    have c2 : wr.cell? ⟨z, 2, none⟩ = some f := CS.out.tail.tail.head
    by_cases hlt : (s : Int) < k
    · have HLT := Hid.of hlt
      have s9 : (s : Int) ≤ 100 := by omega
      obtain ⟨j, y, i, hy, i0, i1, hse⟩ := locate HM.out.ok s0 (by have := HST.out; have := TH.out; omega)
      have AT : Hid (mAt pl (s : Int) = ((1, (j : Int), i), true)) := Hid.of (by rw [hse]; exact SO.out.fill hy i0 i1)
      have HSE := Hid.of hse
      have HY := Hid.of hy
      have II := Hid.of (And.intro i0 i1)
      clear hy hse i0 i1
      go_wp2_with fail
      refine (refAt_any _ pl (s : Int) _ (HV.out.kept HB.out) HM.out).mono ?_
      rintro e w5 ⟨rfl, b5⟩
      rw [AT.out]
      unfold refAtVal
      simp only
      have B5 := Hid.of (HB.out.trans (b5.mono HB.out.size))
      have CS5 := Hid.of (CS.out.next b5)
      clear b5 CS HB c0 c1 c2
      have c1 : w5.cell? ⟨z, 1, none⟩ = some (.slice sa N sc) := CS5.out.tail.head
      by_cases hjt : j = ti
      · obtain rfl := hjt
        have hxy : y = x := by have := HY.out; rw [HX.out] at this; exact (Option.some.inj this).symm
        subst hxy
        obtain ⟨b1, o1, hsa, -, -, -, -, d3⟩ := p_at (HS.out.kept B5.out) j y HX.out
        subst hsa
        have jN : (j : Int) < (N : Int) := by have := TN.out; omega
        have j0 : (0 : Int) ≤ (j : Int) := Int.natCast_nonneg _
        obtain ⟨y0, y1, y2, sh⟩ := y
        have hshd := refShard_any sn (by have := HSN.out; unfold maxLen; omega) sh w5
        simp only at d3 HRR II R01
        rw [HRR.out] at hshd
        go_wp2_with fail
        refine hshd.mono ?_
        rintro e w6 ⟨rfl, q6, hw6⟩
        have b6 : Below w5.heap.size w5 w6 := by rw [hw6]; exact below_drewN (Below.refl _ _) q6
        have B6 := Hid.of (B5.out.trans (b6.mono B5.out.size))
        have CS6 := Hid.of (CS5.out.next b6)
        clear hw6 b6 hshd B5 CS5 c1 d3
        by_cases hir : i = rr
        · have E : Hid (mFilled pl k j sn = true) := Hid.of (by rw [FIL.out]; exact decide_eq_true (by have := HTH.out; have := HSE.out; have := HLT.out; omega))
          subst hir
          go_wp2
          go_ret
          rw [E.out]
          exact ⟨rfl, B6.out⟩
        · have hirb : (i == rr) = false := beq_eq_false_iff_ne.2 hir
          have HIR := Hid.of hir
          go_wp2
          go_roundg (k.toNat - (s + 1))
          case measure => have := HLT.out; omega
          case rel => exact ⟨s + 1, by go_num, Nat.le_refl _, by have := HLT.out; omega, Hid.of (by have := HTH.out; have := HSE.out; have := HST.out; have := HIR.out; omega), CS6, B6⟩
      · have hjb : ((j : Int) == (ti : Int)) = false := beq_eq_false_iff_ne.2 (by omega)
        have HNE : Hid (¬ (s : Int) = th) := Hid.of (fun c => by
          have h1 := SO.out.fill HX.out R01.out.1 R01.out.2
          rw [HTH.out, ← c, AT.out] at h1
          simp only [Prod.mk.injEq] at h1
          omega)
        go_wp2
        go_roundg (k.toNat - (s + 1))
        case measure => have := HLT.out; omega
        case rel => exact ⟨s + 1, by go_num, Nat.le_refl _, by have := HLT.out; omega, Hid.of (by have := HST.out; have := HNE.out; omega), CS5, B5⟩
    · have E : Hid (mFilled pl k ti sn = false) := Hid.of (by rw [FIL.out]; exact decide_eq_false (by have := HST.out; omega))
      go_wp2
      go_ret
      rw [E.out]
      exact ⟨rfl, HB.out⟩

end Go.Proofs.YtbhcafginmkaaaaGreat

namespace Go.Proofs.YtbhcafginmkaaaaGreat
open Go.RowKit Go.Lib

theorem mSrc_get2 {p : PlanL} {j : Nat} {x : Int} (h : p.2[j]? = some x) : mSrc p j = x := by
  unfold mSrc
  rw [h]

/-- A Reach's lists, out of its row. -/
theorem rch_rows {w : World} {now : Int} {n : ByteArray} {s f : Value} {r : RchL} (h : RchRow w (.agg #[.int .i64 now, .string n, s, f]) r) : CellRow w s r.2.1.2.length (flat penc r.2.1.2) ∧ CellRow w f r.2.2.length (r.2.2.map (Value.int .i64)) ∧ now = r.1 ∧ n = r.2.1.1 := by
  obtain ⟨s', f', he, h1, h2, -⟩ := h
  unfold rVal at he
  simp only [Value.agg.injEq, Array.mk.injEq, List.cons.injEq, and_true, Value.int.injEq, Value.string.injEq, true_and] at he
  obtain ⟨e1, e2, rfl, rfl⟩ := he
  exact ⟨h1, h2, e1, e2⟩

theorem refFrom_row {w : World} {now : Int} {n : ByteArray} {s f : Value} {r : RchL} (i : Int) (h : RchRow w (.agg #[.int .i64 now, .string n, s, f]) r) (fit : RFit r) (hi : In64 i) : Calls Tryz.prog 98 #[.agg #[.int .i64 now, .string n, s, f], .int .i64 i] w fun e w' => e = .returned (.int .i64 (rFrom r i)) ∧ Below w.heap.size w w' := by
  obtain ⟨h1, h2, e1, -⟩ := rch_rows h
  obtain ⟨rnow, rp, rfl'⟩ := r
  simp only at e1
  subst e1
  exact refFrom_any now n s f rp rfl' i w h1 h2 fit hi

set_option maxRecDepth 20000 in
set_option maxHeartbeats 6400000 in
theorem refBases_any (v rv : Value) (p : PlanL) (r : RchL) (w : World) (fp : MFit p) (hsl : p.2.length = p.1.2.length) (fr : RFit r) (hv : PlanRow w v p) (hr : RchRow w rv r) :
    Calls Tryz.prog 26 #[v, rv] w fun x w' => ∃ u, x = .returned u ∧ w'.ownsRow w.heap.size 3 1 u (mBases p r).length ((mBases p r).map (Value.int .i64)) ∧ Below w.heap.size w w' := by
  have FP := Hid.of fp
  have FR := Hid.of fr
  have HV := Hid.of hv
  have HR := Hid.of hr
  obtain ⟨s, f, rfl, hs, hf, -, -⟩ := hv
  obtain ⟨rs, rf, rfl, -, -, -, -⟩ := hr
  have HS := Hid.of hs
  have HF := Hid.of hf
  obtain ⟨sa, sc, rfl, -⟩ := hs
  obtain ⟨fa, fc, rfl, -⟩ := hf
  unfold rVal at HR ⊢
  unfold plVal at HV ⊢
  obtain ⟨n, hn⟩ : ∃ n, p.1.1 = n := ⟨_, rfl⟩
  obtain ⟨N, hN⟩ : ∃ N, p.1.2.length = N := ⟨_, rfl⟩
  obtain ⟨now, hnow⟩ : ∃ now, r.1 = now := ⟨_, rfl⟩
  obtain ⟨rn, hrn⟩ : ∃ n, r.2.1.1 = n := ⟨_, rfl⟩
  rw [hsl, hN] at HF
  rw [hn, hsl, hN] at HV
  rw [hnow, hrn] at HR
  rw [hN] at HS
  rw [hn, hsl, hN, hnow, hrn]
  have HSLN := Hid.of (hsl.trans hN)
  obtain ⟨B, hB⟩ : ∃ B, w.heap.size = B := ⟨_, rfl⟩
  obtain ⟨w1, hw1⟩ : ∃ w1, (w.alloc (.cells #[.string n, .slice sa N sc, .slice fa N fc] 31)).alloc (.cells #[.int .i64 now, .string rn, rs, rf] 29) = w1 := ⟨_, rfl⟩
  have htwo : Below w.heap.size w w1 ∧ w1.heap.size = B + 2 ∧ w1.heap[B]? = some (.cells #[.string n, .slice sa N sc, .slice fa N fc] 31 (0, 0)) ∧ w1.heap[B + 1]? = some (.cells #[.int .i64 now, .string rn, rs, rf] 29 (0, 0)) := by
    rw [← hw1, ← hB]
    obtain ⟨wa, ha⟩ : ∃ wa, w.alloc (.cells #[.string n, .slice sa N sc, .slice fa N fc] 31) = wa := ⟨_, rfl⟩
    have a0 : wa.heap[w.heap.size]? = some (.cells #[.string n, .slice sa N sc, .slice fa N fc] 31 (0, 0)) := by rw [← ha]; exact (MapKept.heap_alloc w _).1
    have asz : wa.heap.size = w.heap.size + 1 := by rw [← ha]; simp
    have ab : Below w.heap.size w wa := by rw [← ha]; exact (Below.refl _ _).alloc (Nat.le_refl _) _
    rw [ha]
    obtain ⟨wb, hb⟩ : ∃ wb, wa.alloc (.cells #[.int .i64 now, .string rn, rs, rf] 29) = wb := ⟨_, rfl⟩
    have b0 : wb.heap[w.heap.size + 1]? = some (.cells #[.int .i64 now, .string rn, rs, rf] 29 (0, 0)) := by rw [← hb, ← asz]; exact (MapKept.heap_alloc wa _).1
    have bs : wb.heap.size = w.heap.size + 2 := by rw [← hb]; simp [asz]
    have bb : Below wa.heap.size wa wb := by rw [← hb]; exact (Below.refl _ _).alloc (Nat.le_refl _) _
    rw [hb]
    exact ⟨ab.trans (bb.mono (by omega)), bs, by rw [bb.block _ (by omega)]; exact a0, b0⟩
  obtain ⟨b1, z1, k0, k1⟩ := htwo
  have CS1 : Hid (Dc w1 [(⟨B, 0, none⟩, .string n), (⟨B, 1, none⟩, .slice sa N sc), (⟨B, 2, none⟩, .slice fa N fc), (⟨B + 1, 0, none⟩, .int .i64 now), (⟨B + 1, 1, none⟩, .string rn), (⟨B + 1, 2, none⟩, rs), (⟨B + 1, 3, none⟩, rf)]) := Hid.of (Dc.app (Dc.one k0 (i := 0) rfl) (Dc.app (Dc.one k0 (i := 1) rfl) (Dc.app (Dc.one k0 (i := 2) rfl) (Dc.app (Dc.one k1 (i := 0) rfl) (Dc.app (Dc.one k1 (i := 1) rfl) (Dc.app (Dc.one k1 (i := 2) rfl) (Dc.one k1 (i := 3) rfl)))))))
  have B1 := Hid.of b1
  have Z1 := Hid.of z1
  have HW := Hid.of hw1
  have HBB := Hid.of hB
  have NP := Hid.of hN
  clear hw1 b1 z1 k0 k1 hB fp fr hn hN hnow hrn hsl
  obtain ⟨i0, hi, hz0, hz1, hz2⟩ := info_parts int_info'
  have HI := Hid.of hi
  have HZ0 := Hid.of hz0
  have HZ1 := Hid.of hz1
  have HZ2 := Hid.of hz2
  clear hi hz0 hz1 hz2
  obtain ⟨q0, q1⟩ : w1.cell? ⟨B, 0, none⟩ = some (.string n) ∧ w1.cell? ⟨B, 1, none⟩ = some (.slice sa N sc) := ⟨CS1.out.head, CS1.out.tail.head⟩
  go_enter Tryz.func26, Tryz.ntmps26
  go_upto_region 1 with fail
  rw [HW.out, HBB.out]
  clear HW
  go_upto_region 3 with fail
  clear q0 q1
  go_loopg [5, 6] N (fun kx lv iv wr => ∃ (j : Nat) (v : Value), iv = .int .i64 j ∧ v = lv ∧ j ≤ N ∧ N - j ≤ kx ∧ Hid (Dc wr [(⟨B, 0, none⟩, .string n), (⟨B, 1, none⟩, .slice sa N sc), (⟨B, 2, none⟩, .slice fa N fc), (⟨B + 1, 0, none⟩, .int .i64 now), (⟨B + 1, 1, none⟩, .string rn), (⟨B + 1, 2, none⟩, rs), (⟨B + 1, 3, none⟩, rf)]) ∧ Hid (wr.ownsRow w1.heap.size 3 1 v j ((mPre p r j).map (Value.int .i64))) ∧ Hid (Below w.heap.size w wr) ∧ Hid (w1.heap.size ≤ wr.heap.size))
  case atStart => exact ⟨0, _, rfl, rfl, Nat.zero_le _, Nat.le_refl _, CS1, Hid.of (World.ownsRow_nil _ _ _ _), B1, Hid.of (Nat.le_refl _)⟩
  case round =>
    clear CS1 B1
    obtain ⟨j, v, rfl, rfl, hj, hk, CS, OW, HB, HSZ⟩ := hrel
    have j0 : (0 : Int) ≤ (j : Int) := Int.natCast_nonneg _
    have n9 : N ≤ 1000000 := by have := FP.out.1.1; rw [NP.out] at this; exact this
    by_cases hlt : (j : Int) < (N : Int)
    · obtain ⟨t, ht⟩ : ∃ t, p.1.2[j]? = some t := ⟨_, List.getElem?_eq_getElem (by have := NP.out; omega)⟩
      obtain ⟨sx, hsx⟩ : ∃ sx, p.2[j]? = some sx := ⟨_, List.getElem?_eq_getElem (by have := HSLN.out; omega)⟩
      obtain ⟨tb, to_, hsa, htl, -, d1, -, -⟩ := p_at HS.out j t ht
      subst hsa
      obtain ⟨fb, fo, hfa, hfl, hfx⟩ := int_at HF.out j (by rw [HSLN.out]; omega) HSLN.out.symm
      subst hfa
      rw [show p.2.getD j 0 = sx by rw [List.getD_eq_getElem?_getD, hsx]; rfl] at hfx
      have HX2 := Hid.of (mPre_succ (r := r) ht)
      have TE : Hid (I64 t.2.1) := Hid.of (FP.out.1.2.2 t (List.mem_of_getElem? ht)).2.1
      have HSI : Hid (In64 sx) := Hid.of (FP.out.2.2 sx (List.mem_of_getElem? hsx))
      obtain ⟨t0, ev, t2, sh⟩ := t
      simp only at d1 HX2 TE
      rw [mSrc_get2 hsx] at HX2
      have HJ : Hid (j < N) := Hid.of (by omega)
      obtain ⟨va, vc, rfl, -⟩ := own_one OW.out
      have HVY : Hid (∀ g, (Value.slice va j vc).ownBlock = some g → w1.heap.size ≤ g) := Hid.of (fun g hg => (OW.out.lt g hg).1)
      have CS6 : Hid (Dc wr ([(⟨B, 0, none⟩, .string n), (⟨B, 1, none⟩, .slice (some ⟨tb, to_, none⟩) N sc), (⟨B, 2, none⟩, .slice (some ⟨fb, fo, none⟩) N fc), (⟨B + 1, 0, none⟩, .int .i64 now), (⟨B + 1, 1, none⟩, .string rn), (⟨B + 1, 2, none⟩, rs), (⟨B + 1, 3, none⟩, rf), (⟨fb, fo + j, none⟩, .int .i64 sx), (⟨tb, to_ + j * 4 + 1, none⟩, .int .i64 ev)])) := Hid.of (Dc.app CS.out (.cons (Nat.lt_of_lt_of_le hfl HB.out.size) (by rw [HB.out.cell hfl]; exact hfx) (.cons (Nat.lt_of_lt_of_le htl HB.out.size) (by rw [HB.out.cell htl]; exact d1) (Dc.nil _))))
      have HLY : Hid (∀ x ∈ ([(⟨B, 0, none⟩, .string n), (⟨B, 1, none⟩, .slice (some ⟨tb, to_, none⟩) N sc), (⟨B, 2, none⟩, .slice (some ⟨fb, fo, none⟩) N fc), (⟨B + 1, 0, none⟩, .int .i64 now), (⟨B + 1, 1, none⟩, .string rn), (⟨B + 1, 2, none⟩, rs), (⟨B + 1, 3, none⟩, rf), (⟨fb, fo + j, none⟩, .int .i64 sx), (⟨tb, to_ + j * 4 + 1, none⟩, .int .i64 ev)] : List (Addr × Value)), x.1.block < w1.heap.size) := Hid.of (fun x hx => by
        have h1 := Z1.out
        have h2 := HBB.out
        simp only [List.mem_cons, List.not_mem_nil, or_false] at hx
        rcases hx with rfl | rfl | rfl | rfl | rfl | rfl | rfl | rfl | rfl <;> (simp only; omega))
      obtain ⟨fx, hfx2⟩ : ∃ fx, rFrom r sx = fx := ⟨_, rfl⟩
      have HFI := Hid.of (rFrom_in2 FR.out sx)
      rw [hfx2] at HFI HX2
      obtain ⟨cx, hcx⟩ : ∃ cx, gCeil fx ev = cx := ⟨_, rfl⟩
      rw [hcx] at HX2
      have HFX := Hid.of hfx2
      have HCX := Hid.of hcx
      have RR : ∀ u, Below w.heap.size w u → Hid (RchRow u (.agg #[.int .i64 now, .string rn, rs, rf]) r) := fun u hu => Hid.of (HR.out.kept hu)
      obtain ⟨c1, c2⟩ : wr.cell? ⟨B, 1, none⟩ = some (.slice (some ⟨tb, to_, none⟩) N sc) ∧ wr.cell? ⟨B, 2, none⟩ = some (.slice (some ⟨fb, fo, none⟩) N fc) := ⟨CS.out.tail.head, CS.out.tail.tail.head⟩
      clear ht hsx htl hfl d1 hfx hfx2 hcx CS
      go_upto_region 5 with fail
      clear c1 c2
      have bd := (Below.refl wr.heap.size wr).drew
      have B6d := Hid.of (HB.out.trans (bd.mono HB.out.size))
      have CS6d := Hid.of (CS6.out.next bd)
      have OW6d := Hid.of ((Step.of_below (F := fun _ => False) bd).own OW.out (fun _ _ c => c))
      have S6d := Hid.of (Nat.le_trans HSZ.out bd.size)
      clear bd HB OW HSZ
      have d0 := (CS6.out).head
      have d1 := ((CS6.out).tail).head
      have d2 := (((CS6.out).tail).tail).head
      have d3 := ((((CS6.out).tail).tail).tail).head
      have d4 := (((((CS6.out).tail).tail).tail).tail).head
      have d5 := ((((((CS6.out).tail).tail).tail).tail).tail).head
      have d6 := (((((((CS6.out).tail).tail).tail).tail).tail).tail).head
      have d7 := ((((((((CS6.out).tail).tail).tail).tail).tail).tail).tail).head
      have d8 := (((((((((CS6.out).tail).tail).tail).tail).tail).tail).tail).tail).head
      refine wp_region_noPanic ?_
      refine wp_region_held_drew (S := fun w' => w'.cell? ⟨B, 0, none⟩ = some (.string n) ∧ w'.cell? ⟨B, 1, none⟩ = some (.slice (some ⟨tb, to_, none⟩) N sc) ∧ w'.cell? ⟨B, 2, none⟩ = some (.slice (some ⟨fb, fo, none⟩) N fc) ∧ w'.cell? ⟨B + 1, 0, none⟩ = some (.int .i64 now) ∧ w'.cell? ⟨B + 1, 1, none⟩ = some (.string rn) ∧ w'.cell? ⟨B + 1, 2, none⟩ = some (rs) ∧ w'.cell? ⟨B + 1, 3, none⟩ = some (rf) ∧ w'.cell? ⟨fb, fo + j, none⟩ = some (.int .i64 sx) ∧ w'.cell? ⟨tb, to_ + j * 4 + 1, none⟩ = some (.int .i64 ev)) (by kernel_rfl) ?_ (fun hHeld => ?_)
      · exact ⟨d0, d1, d2, d3, d4, d5, d6, d7, d8⟩
      refine wpAnyH_take (i := 0) (oi := ⟨_, _, _, _, _, _⟩) (v := ?_) rfl (by kernel_rfl) (by kernel_rfl) (by kernel_rfl) (fun _ _ _ h => h) (Or.inl ⟨by rfl, ?_⟩) hHeld ?_
      rotate_left
      · intro w' hSw
        try dsimp only at hSw
        go_simp
        all_goals with_reducible rfl
      simp only [Act.put, List.setIfInBounds_toArray, List.set_cons_zero, List.set_cons_succ]
      refine wpAnyH_take (i := 1) (oi := ⟨_, _, _, _, _, _⟩) (v := ?_) rfl (by kernel_rfl) (by kernel_rfl) (by kernel_rfl) (fun _ _ _ h => h) (Or.inl ⟨by rfl, ?_⟩) hHeld ?_
      rotate_left
      · intro w' hSw
        try dsimp only at hSw
        go_simp
        all_goals with_reducible rfl
      simp only [Act.put, List.setIfInBounds_toArray, List.set_cons_zero, List.set_cons_succ]
      refine wpAnyH_take (i := 2) (oi := ⟨_, _, _, _, _, _⟩) (v := ?_) rfl (by kernel_rfl) (by kernel_rfl) (by kernel_rfl) (fun _ _ _ h => h) (Or.inl ⟨by rfl, ?_⟩) hHeld ?_
      rotate_left
      · intro w' hSw
        try dsimp only at hSw
        go_simp
        all_goals with_reducible rfl
      simp only [Act.put, List.setIfInBounds_toArray, List.set_cons_zero, List.set_cons_succ]
      refine wpAnyH_take (i := 3) (oi := ⟨_, _, _, _, _, _⟩) (v := ?_) rfl (by kernel_rfl) (by kernel_rfl) (by kernel_rfl) (fun _ _ _ h => h) (Or.inl ⟨by rfl, ?_⟩) hHeld ?_
      rotate_left
      · intro w' hSw
        try dsimp only at hSw
        go_simp
        all_goals with_reducible rfl
      simp only [Act.put, List.setIfInBounds_toArray, List.set_cons_zero, List.set_cons_succ]
      refine wpAnyH_take (i := 4) (oi := ⟨_, _, _, _, _, _⟩) (v := ?_) rfl (by kernel_rfl) (by kernel_rfl) (by kernel_rfl) (fun _ _ _ h => h) (Or.inl ⟨by rfl, ?_⟩) hHeld ?_
      rotate_left
      · intro w' hSw
        try dsimp only at hSw
        go_simp
        all_goals with_reducible rfl
      simp only [Act.put, List.setIfInBounds_toArray, List.set_cons_zero, List.set_cons_succ]
      refine wpAnyH_take (i := 5) (oi := ⟨_, _, _, _, _, _⟩) (v := ?_) rfl (by kernel_rfl) (by kernel_rfl) (by kernel_rfl) (fun _ _ _ h => h) (Or.inl ⟨by rfl, ?_⟩) hHeld ?_
      rotate_left
      · intro w' hSw
        try dsimp only at hSw
        go_simp
        all_goals with_reducible rfl
      simp only [Act.put, List.setIfInBounds_toArray, List.set_cons_zero, List.set_cons_succ]
      refine wpAnyH_take (i := 6) (oi := ⟨_, _, _, _, _, _⟩) (v := ?_) rfl (by kernel_rfl) (by kernel_rfl) (by kernel_rfl) (fun _ _ _ h => h) (Or.inl ⟨by rfl, ?_⟩) hHeld ?_
      rotate_left
      · intro w' hSw
        try dsimp only at hSw
        go_simp
        all_goals with_reducible rfl
      simp only [Act.put, List.setIfInBounds_toArray, List.set_cons_zero, List.set_cons_succ]
      refine wpAnyH_take (i := 8) (oi := ⟨_, _, _, _, _, _⟩) (v := ?_) rfl (by kernel_rfl) (by kernel_rfl) (by kernel_rfl) (fun _ _ _ h => h) (Or.inl ⟨by rfl, ?_⟩) hHeld ?_
      rotate_left
      · intro w' hSw
        try dsimp only at hSw
        go_simp
        all_goals with_reducible rfl
      simp only [Act.put, List.setIfInBounds_toArray, List.set_cons_zero, List.set_cons_succ]
      refine wpAnyH_take (i := 9) (oi := ⟨_, _, _, _, _, _⟩) (v := ?_) rfl (by kernel_rfl) (by kernel_rfl) (by kernel_rfl) (fun _ _ _ h => h) (Or.inl ⟨by rfl, ?_⟩) hHeld ?_
      rotate_left
      · intro w' hSw
        try dsimp only at hSw
        go_simp
        all_goals with_reducible rfl
      simp only [Act.put, List.setIfInBounds_toArray, List.set_cons_zero, List.set_cons_succ]
      refine wpAnyH_take (i := 10) (oi := ⟨_, _, _, _, _, _⟩) (v := ?_) rfl (by kernel_rfl) (by kernel_rfl) (by kernel_rfl) (fun _ _ _ h => h) (Or.inl ⟨by rfl, ?_⟩) hHeld ?_
      rotate_left
      · intro w' hSw
        try dsimp only at hSw
        go_simp
        all_goals with_reducible rfl
      simp only [Act.put, List.setIfInBounds_toArray, List.set_cons_zero, List.set_cons_succ]
      refine wpAnyH_take (i := 11) (oi := ⟨_, _, _, _, _, _⟩) (v := ?_) rfl (by kernel_rfl) (by kernel_rfl) (by kernel_rfl) (fun _ _ _ h => h) (Or.inl ⟨by rfl, ?_⟩) hHeld ?_
      rotate_left
      · intro w' hSw
        try dsimp only at hSw
        go_simp
        all_goals with_reducible rfl
      simp only [Act.put, List.setIfInBounds_toArray, List.set_cons_zero, List.set_cons_succ]
      refine wpAnyH_take (i := 12) (oi := ⟨_, _, _, _, _, _⟩) (v := ?_) rfl (by kernel_rfl) (by kernel_rfl) (by kernel_rfl) (fun _ _ _ h => h) (Or.inl ⟨by rfl, ?_⟩) hHeld ?_
      rotate_left
      · intro w' hSw
        try dsimp only at hSw
        go_simp
        all_goals with_reducible rfl
      simp only [Act.put, List.setIfInBounds_toArray, List.set_cons_zero, List.set_cons_succ]
      refine wpAnyH_take (i := 13) (oi := ⟨_, _, _, _, _, _⟩) (v := ?_) rfl (by kernel_rfl) (by kernel_rfl) (by kernel_rfl) (fun _ _ _ h => h) (Or.inl ⟨by rfl, ?_⟩) hHeld ?_
      rotate_left
      · intro w' hSw
        try dsimp only at hSw
        go_simp
        all_goals with_reducible rfl
      simp only [Act.put, List.setIfInBounds_toArray, List.set_cons_zero, List.set_cons_succ]
      refine wpAnyH_take (i := 14) (oi := ⟨_, _, _, _, _, _⟩) (v := ?_) rfl (by kernel_rfl) (by kernel_rfl) (by kernel_rfl) (fun _ _ _ h => h) (Or.inl ⟨by rfl, ?_⟩) hHeld ?_
      rotate_left
      · intro w' hSw
        try dsimp only at hSw
        go_simp
        all_goals with_reducible rfl
      simp only [Act.put, List.setIfInBounds_toArray, List.set_cons_zero, List.set_cons_succ]
      refine wpAnyH_ready (rs := [7]) (by kernel_rfl) (by simp) ?_
      refine AllReadyH.cons (o := ⟨_, _, _, _, _, _⟩) rfl (fun K hK => ?_) AllReadyH.nil
      go_simp
      refine (refFrom_row sx (RR _ B6d.out).out FR.out HSI.out).mono ?_
      rintro e w1a ⟨rfl, b1a⟩
      rw [HFX.out]
      have B1a := Hid.of (B6d.out.trans (b1a.mono B6d.out.size))
      have CS1a := Hid.of (CS6d.out.next b1a)
      have OW1a := Hid.of ((Step.of_below (F := fun _ => False) b1a).own OW6d.out (fun _ _ c => c))
      have S1a : Hid (w1.heap.size ≤ w1a.heap.size) := Hid.of (Nat.le_trans S6d.out b1a.size)
      clear b1a B6d CS6d OW6d S6d CS6
      clear hHeld d0 d1 d2 d3 d4 d5 d6 d7 d8
      have d0 := (CS1a.out).head
      have d1 := ((CS1a.out).tail).head
      have d2 := (((CS1a.out).tail).tail).head
      have d3 := ((((CS1a.out).tail).tail).tail).head
      have d4 := (((((CS1a.out).tail).tail).tail).tail).head
      have d5 := ((((((CS1a.out).tail).tail).tail).tail).tail).head
      have d6 := (((((((CS1a.out).tail).tail).tail).tail).tail).tail).head
      have d7 := ((((((((CS1a.out).tail).tail).tail).tail).tail).tail).tail).head
      have d8 := (((((((((CS1a.out).tail).tail).tail).tail).tail).tail).tail).tail).head
      refine hK.out _ _ ⟨d0, d1, d2, d3, d4, d5, d6, d7, d8⟩ (fun hHeld => ?_)
      clear hK K
      try simp only [Act.put, List.setIfInBounds_toArray, List.set_cons_zero, List.set_cons_succ]
      refine wpAnyH_ready (rs := [15]) (by kernel_rfl) (by simp) ?_
      refine AllReadyH.cons (o := ⟨_, _, _, _, _, _⟩) rfl (fun K hK => ?_) AllReadyH.nil
      go_simp
      refine (refCeil_any fx ev HFI.out TE.out _).mono ?_
      rintro e w2a ⟨he2, q2, hq2⟩
      subst he2
      have b2a : Below w1a.heap.size w1a w2a := by rw [hq2]; exact below_drewN (Below.refl _ _) q2
      clear hq2
      rw [HCX.out]
      have B2a := Hid.of (B1a.out.trans (b2a.mono B1a.out.size))
      have CS2a := Hid.of (CS1a.out.next b2a)
      have OW2a := Hid.of ((Step.of_below (F := fun _ => False) b2a).own OW1a.out (fun _ _ c => c))
      have S2a : Hid (w1.heap.size ≤ w2a.heap.size) := Hid.of (Nat.le_trans S1a.out b2a.size)
      clear b2a B1a CS1a OW1a S1a
      clear hHeld d0 d1 d2 d3 d4 d5 d6 d7 d8
      have d0 := (CS2a.out).head
      have d1 := ((CS2a.out).tail).head
      have d2 := (((CS2a.out).tail).tail).head
      have d3 := ((((CS2a.out).tail).tail).tail).head
      have d4 := (((((CS2a.out).tail).tail).tail).tail).head
      have d5 := ((((((CS2a.out).tail).tail).tail).tail).tail).head
      have d6 := (((((((CS2a.out).tail).tail).tail).tail).tail).tail).head
      have d7 := ((((((((CS2a.out).tail).tail).tail).tail).tail).tail).tail).head
      have d8 := (((((((((CS2a.out).tail).tail).tail).tail).tail).tail).tail).tail).head
      refine hK.out _ _ ⟨d0, d1, d2, d3, d4, d5, d6, d7, d8⟩ (fun hHeld => ?_)
      clear hK K
      try simp only [Act.put, List.setIfInBounds_toArray, List.set_cons_zero, List.set_cons_succ]
      refine wpAnyH_ready (rs := [16]) (by kernel_rfl) (by simp) ?_
      refine AllReadyH.cons (o := ⟨_, _, _, _, _, _⟩) rfl (fun K hK => ?_) AllReadyH.nil
      go_simp
      obtain ⟨w4a, hw4a⟩ : ∃ w4a, w2a.alloc (.cells #[.int .i64 cx] 3) = w4a := ⟨_, rfl⟩
      have b4a : Below w2a.heap.size w2a w4a := by rw [← hw4a]; exact (Below.refl _ _).alloc (Nat.le_refl _) _
      have K4 : Hid (Cells w4a w2a.heap.size 0 [.int .i64 cx]) := Hid.of (by rw [← hw4a]; exact one_cell w2a _ _)
      have B4a := Hid.of (B2a.out.trans (b4a.mono B2a.out.size))
      have CS4a := Hid.of (CS2a.out.next b4a)
      have OW4a := Hid.of ((Step.of_below (F := fun _ => False) b4a).own OW2a.out (fun _ _ c => c))
      have S4a : Hid (w1.heap.size ≤ w4a.heap.size) := Hid.of (Nat.le_trans S2a.out b4a.size)
      rw [hw4a]
      clear hw4a b4a B2a CS2a OW2a S2a
      clear hHeld d0 d1 d2 d3 d4 d5 d6 d7 d8
      have d0 := (CS4a.out).head
      have d1 := ((CS4a.out).tail).head
      have d2 := (((CS4a.out).tail).tail).head
      have d3 := ((((CS4a.out).tail).tail).tail).head
      have d4 := (((((CS4a.out).tail).tail).tail).tail).head
      have d5 := ((((((CS4a.out).tail).tail).tail).tail).tail).head
      have d6 := (((((((CS4a.out).tail).tail).tail).tail).tail).tail).head
      have d7 := ((((((((CS4a.out).tail).tail).tail).tail).tail).tail).tail).head
      have d8 := (((((((((CS4a.out).tail).tail).tail).tail).tail).tail).tail).tail).head
      refine hK.out _ _ ⟨d0, d1, d2, d3, d4, d5, d6, d7, d8⟩ (fun hHeld => ?_)
      clear hK K
      try simp only [Act.put, List.setIfInBounds_toArray, List.set_cons_zero, List.set_cons_succ]
      refine wpAnyH_ready (rs := [17]) (by kernel_rfl) (by simp) ?_
      refine AllReadyH.cons (o := ⟨_, _, _, _, _, _⟩) rfl (fun K hK => ?_) AllReadyH.nil
      refine step_append_keep rfl (.tmp 22) (.tmp 38) 25 rfl w1.heap.size 3 i0 _ 1 8 Tryz.underlying25 HI.out HZ0.out HZ1.out HZ2.out rfl (by decide) (.slice va j vc) j ((mPre p r j).map (Value.int .i64)) (by simp [Act.eval]) OW4a.out w2a.heap.size 0 1 1 [.int .i64 cx] (by simp [Act.eval]) K4.out rfl (by simp [Value.oneCell']) (by unfold maxLen; omega) (by omega) S4a.out ?_
      intro v9 w9 o9 g9 _ _
      have OW9 : Hid (w9.ownsRow w1.heap.size 3 1 v9 (j + 1) ((mPre p r (j + 1)).map (Value.int .i64))) := Hid.of (by rw [HX2.out, List.map_append]; exact o9)
      have B9 : Hid (Below w.heap.size w w9) := Hid.of (B4a.out.grown g9 B4a.out.size (fun k hk => by have := HVY.out k hk; have := Z1.out; have := HBB.out; omega))
      have CS9b := Hid.of (CS4a.out.grown g9 (fun x hx c => by have h := HLY.out x hx; have h1 := HVY.out _ c.symm; omega))
      have S9 : Hid (w1.heap.size ≤ w9.heap.size) := Hid.of (Nat.le_trans S4a.out g9.size)
      clear o9 g9 B4a CS4a OW4a S4a K4
      clear hHeld d0 d1 d2 d3 d4 d5 d6 d7 d8
      have d0 := (CS9b.out).head
      have d1 := ((CS9b.out).tail).head
      have d2 := (((CS9b.out).tail).tail).head
      have d3 := ((((CS9b.out).tail).tail).tail).head
      have d4 := (((((CS9b.out).tail).tail).tail).tail).head
      have d5 := ((((((CS9b.out).tail).tail).tail).tail).tail).head
      have d6 := (((((((CS9b.out).tail).tail).tail).tail).tail).tail).head
      have d7 := ((((((((CS9b.out).tail).tail).tail).tail).tail).tail).tail).head
      have d8 := (((((((((CS9b.out).tail).tail).tail).tail).tail).tail).tail).tail).head
      refine hK.out _ _ ⟨d0, d1, d2, d3, d4, d5, d6, d7, d8⟩ (fun hHeld => ?_)
      clear hK K
      try simp only [Act.put, List.setIfInBounds_toArray, List.set_cons_zero, List.set_cons_succ]
      refine wpAnyH_take (i := 18) (oi := ⟨_, _, _, _, _, _⟩) (v := ?_) rfl (by kernel_rfl) (by kernel_rfl) (by kernel_rfl) (fun _ _ _ h => h) (Or.inl ⟨by rfl, ?_⟩) hHeld ?_
      rotate_left
      · intro w' hSw
        try dsimp only at hSw
        go_simp
        all_goals with_reducible rfl
      simp only [Act.put, List.setIfInBounds_toArray, List.set_cons_zero, List.set_cons_succ]
      refine wpAnyH_done (by kernel_rfl) ?_ _
      refine NoPanic.normal ?_
      clear hHeld d0 d1 d2 d3 d4 d5 d6 d7 d8
      have CS9 : Hid (Dc w9 [(⟨B, 0, none⟩, .string n), (⟨B, 1, none⟩, .slice (some ⟨tb, to_, none⟩) N sc), (⟨B, 2, none⟩, .slice (some ⟨fb, fo, none⟩) N fc), (⟨B + 1, 0, none⟩, .int .i64 now), (⟨B + 1, 1, none⟩, .string rn), (⟨B + 1, 2, none⟩, rs), (⟨B + 1, 3, none⟩, rf)]) := Hid.of (Dc.left (l := [(⟨fb, fo + j, none⟩, .int .i64 sx), (⟨tb, to_ + j * 4 + 1, none⟩, .int .i64 ev)]) CS9b.out)
      clear CS9b
      go_wp2
      go_roundg (N - (j + 1))
      case measure => have := HJ.out; omega
      case rel => exact ⟨j + 1, _, by go_num, rfl, HJ.out, Nat.le_refl _, CS9, OW9, B9, S9⟩
    · obtain rfl : j = N := by omega
      obtain ⟨c1, c2⟩ : wr.cell? ⟨B, 1, none⟩ = some (.slice sa j sc) ∧ wr.cell? ⟨B, 2, none⟩ = some (.slice fa j fc) := ⟨CS.out.tail.head, CS.out.tail.tail.head⟩
      have e : Hid (mPre p r j = mBases p r ∧ (mBases p r).length = j) := Hid.of ⟨by unfold mPre; rw [List.take_of_length_le (by rw [mBases_len, NP.out]; exact Nat.le_refl _)], by rw [mBases_len, NP.out]⟩
      go_wp2
      go_ret
      refine ⟨_, rfl, ?_, HB.out⟩
      have h9 := own_mono OW.out (D := w.heap.size) (by have := Z1.out; have := HBB.out; omega)
      rw [e.out.1] at h9
      rw [e.out.2]
      exact h9

end Go.Proofs.YtbhcafginmkaaaaGreat

namespace Go.Proofs.YtbhcafginmkaaaaGreat
open Go.RowKit Go.Lib

theorem made_plan {p q : PolL} {r : RchL} (hp : p.2.length ≤ 1000000) (hq : PFit q) (h10 : q.2.length ≤ 10) : Made13 (mMake p r q) ∧ (mMake p r q).2.length = (mMake p r q).1.2.length := by
  unfold mMake
  split
  · rename_i c
    have hc := (mErr_zero c).2
    refine ⟨⟨shOk_of hc, h10, ⟨hq, by rw [List.length_map]; exact hq.1, fun x hx => ?_⟩, fun c2 => ?_⟩, List.length_map ..⟩
    · obtain ⟨z, hz, rfl⟩ := List.mem_map.1 hx
      exact fur_in _ _ _ hp
    · have := (pCheck_ok hc).2.2.1
      have c3 : q.2 = [] := c2
      rw [c3] at this
      exact absurd this (by decide)
  · exact ⟨⟨fun x hx => absurd hx List.not_mem_nil, by decide, ⟨⟨by simp, by decide, fun x hx => by cases hx⟩, by simp, fun x hx => by cases hx⟩, fun _ => rfl⟩, rfl⟩

/-- The document's own plan is put into a variable. -/
abbrev DBlk13 (w : World) (b : Nat) (n : ByteArray) (s f : Value) : Prop := w.heap[b]? = some (.cells #[.string n, s, f] 31 (0, 0))
theorem dblk_set {w : World} {b : Nat} {n n' : ByteArray} {s f s' f' : Value} (h : DBlk13 w b n s f) : DBlk13 (setL w b n' s' f') b n' s' f' := by
  have := row_set (i := 2) (row_set (i := 1) (row_set (i := 0) h (.string n')) s') f'
  unfold setL
  show _ = _
  rw [this]
  simp
theorem dblk_next {w w' : World} {b : Nat} {n : ByteArray} {s f : Value} (h : DBlk13 w b n s f) (c : Below w.heap.size w w') : DBlk13 w' b n s f := by
  show _ = _
  rw [c.block b (Array.getElem?_eq_some_iff.1 h).1]
  exact h
theorem dblk_at {w : World} {b : Nat} {n : ByteArray} {s f : Value} (h : DBlk13 w b n s f) : w.cell? ⟨b, 0, none⟩ = some (.string n) ∧ w.cell? ⟨b, 1, none⟩ = some s ∧ w.cell? ⟨b, 2, none⟩ = some f := by
  refine ⟨?_, ?_, ?_⟩ <;> (rw [cell_of_row w b _ _ _ _ h]; rfl)

/-- The world within Make's loops: the plan under way (block m), the result variable (block z), the list of sources fv. -/
structure MD (w0 w1 : World) (zb m : Nat) (n : ByteArray) (s fv : Value) (L : List (Addr × Value)) (xs : List Int) (w : World) : Prop where
  k : DBlk13 w m n s fv
  kz : DBlk13 w zb ⟨#[]⟩ (.slice none 0 0) (.slice none 0 0)
  lz : zb < w1.heap.size
  of : w.ownsRow w1.heap.size 3 1 fv xs.length (xs.map (Value.int .i64))
  hm : w1.heap.size ≤ m
  mf : fv.ownBlock ≠ some m
  cs : Dc w L
  ll : ∀ x ∈ L, x.1.block < w1.heap.size
  fr : Below w0.heap.size w0 w
  f1 : w0.heap.size ≤ w1.heap.size

section
variable {w0 w1 : World} {zb m : Nat} {n : ByteArray} {s fv : Value} {L : List (Addr × Value)} {xs : List Int} {w w' : World}
theorem MD.lt (h : MD w0 w1 zb m n s fv L xs w) : m < w.heap.size := (Array.getElem?_eq_some_iff.1 h.k).1

theorem MD.next (h : MD w0 w1 zb m n s fv L xs w) (b : Below w.heap.size w w') : MD w0 w1 zb m n s fv L xs w' :=
  ⟨dblk_next h.k b, dblk_next h.kz b, h.lz, (Step.of_below (F := fun _ => False) b).own h.of (fun _ _ c => c), h.hm, h.mf, h.cs.next b, h.ll, h.fr.trans (b.mono h.fr.size), h.f1⟩

/-- One source more. -/
theorem MD.more (h : MD w0 w1 zb m n s fv L xs w) {x : Int} {fv' : Value} {w2 : World} (b : Below w.heap.size w w') (g : w'.grownBy w2 fv.ownBlock) (o : w2.ownsRow w1.heap.size 3 1 fv' (xs.length + 1) (xs.map (Value.int .i64) ++ [.int .i64 x]))
    (hb : fv'.ownBlock = fv.ownBlock ∨ ∃ g, fv'.ownBlock = some g ∧ w'.heap.size ≤ g) : MD w0 w1 zb m n s fv' L (xs ++ [x]) (w2.setCell ⟨m, 2, none⟩ fv') := by
  have h' := h.next b
  have hlt : m < w'.heap.size := h'.lt
  have k2 : DBlk13 w2 m n s fv := by
    show _ = _
    rw [g.block m hlt (fun c => h.mf c.symm)]
    exact h'.k
  have g3 : w2.grownBy (w2.setCell ⟨m, 2, none⟩ fv') (some m) := grownBy_setCell _ _ _ _
  have mf' : fv'.ownBlock ≠ some m := by
    rcases hb with e | ⟨g', e, hg⟩
    · rw [e]; exact h.mf
    · rw [e]
      intro c
      cases c
      omega
  have keep : ∀ {e : TypeId} {sz N : Nat} {v : Value} {ys : List Value}, w2.ownsRow w1.heap.size e sz v N ys → v.ownBlock ≠ some m → (w2.setCell ⟨m, 2, none⟩ fv').ownsRow w1.heap.size e sz v N ys := fun {e sz N v ys} hh hne => by
    refine ⟨hh.1, ?_⟩
    rcases hh.2 with c | ⟨g', cap, cur, ev, hB', hrow, rest⟩
    · exact .inl c
    · refine .inr ⟨g', cap, cur, ev, hB', ?_, rest⟩
      rw [g3.block g' (Array.getElem?_eq_some_iff.1 hrow).1 (fun c => hne (by rw [ev, c.symm]; rfl))]
      exact hrow
  refine ⟨?_, ?_, h.lz, ?_, h.hm, mf', ?_, h.ll, ?_, h.f1⟩
  · have := row_set (i := 2) k2 fv'
    show _ = _
    rw [this]
    simp
  · have hz := h'.kz
    have hzl := (Array.getElem?_eq_some_iff.1 hz).1
    show _ = _
    rw [g3.block zb (by have := g.size; omega) (fun c => by have := Option.some.inj c; have := h.lz; have := h.hm; omega), g.block zb hzl (fun c => by have := (h'.of.lt _ c.symm).1; have := h.lz; omega)]
    exact hz
  · rw [List.length_append, List.map_append]
    exact keep o mf'
  · refine (h'.cs.grown g (fun x hx c => ?_)).grown g3 (fun x hx c => ?_)
    · have h1 := h.ll x hx
      have h2 := (h'.of.lt _ c.symm).1
      omega
    · have h1 := h.ll x hx
      have h2 := h.hm
      have := Option.some.inj c
      omega
  · have hf := h'.fr
    exact (hf.grown g hf.size (fun k hk => by have := (h'.of.lt _ hk).1; have := h.f1; omega)).grown g3 (by have := g.size; have := hf.size; omega) (fun k hk => by cases hk; have := h.hm; have := h.f1; omega)
end

set_option maxRecDepth 20000 in
set_option maxHeartbeats 6400000 in
theorem refMake_any (v rv tv : Value) (p q : PolL) (r : RchL) (w : World) (fp : PFit p) (fq : PFit q) (fr : RFit r) (hv : PolRow w v p) (hr : RchRow w rv r) (ht : PolRow w tv q) :
    Calls Tryz.prog 14 #[v, rv, tv] w fun x w' => ∃ u, x = .returned (.tuple #[u, .int .i64 (mErr p q)]) ∧ PlanRow w' u (mMake p r q) ∧ Below w.heap.size w w' := by
  have FP := Hid.of fp
  have FQ := Hid.of fq
  have FR := Hid.of fr
  have HV := Hid.of hv
  have HR := Hid.of hr
  have HT := Hid.of ht
  obtain ⟨s, rfl, hs, -⟩ := hv
  obtain ⟨rs, rf, rfl, -, -, -, -⟩ := hr
  obtain ⟨s3, rfl, hs3, hc3⟩ := ht
  have HC3 := Hid.of hc3
  have HS := Hid.of hs
  have HS3 := Hid.of hs3
  obtain ⟨sa, sc, rfl, -⟩ := hs
  obtain ⟨ta, tc, rfl, -⟩ := hs3
  unfold rVal at HR ⊢
  obtain ⟨pn, hpn⟩ : ∃ n, p.1 = n := ⟨_, rfl⟩
  obtain ⟨qn, hqn⟩ : ∃ n, q.1 = n := ⟨_, rfl⟩
  obtain ⟨PN, hPN⟩ : ∃ N, p.2.length = N := ⟨_, rfl⟩
  obtain ⟨QN, hQN⟩ : ∃ N, q.2.length = N := ⟨_, rfl⟩
  obtain ⟨now, hnow⟩ : ∃ now, r.1 = now := ⟨_, rfl⟩
  obtain ⟨rn, hrn⟩ : ∃ n, r.2.1.1 = n := ⟨_, rfl⟩
  rw [hpn, hPN] at HV
  rw [hqn, hQN] at HT
  rw [hnow, hrn] at HR
  rw [hPN] at HS
  rw [hQN] at HS3 HC3
  rw [hpn, hqn, hPN, hQN, hnow, hrn]
  obtain ⟨B, hB⟩ : ∃ B, w.heap.size = B := ⟨_, rfl⟩
  obtain ⟨w1, hw1⟩ : ∃ w1, (((w.alloc (.cells #[.string pn, .slice sa PN sc] 24)).alloc (.cells #[.int .i64 now, .string rn, rs, rf] 29)).alloc (.cells #[.string qn, .slice ta QN tc] 24)).alloc (.cells #[.string ⟨#[]⟩, .slice none 0 0, .slice none 0 0] 31) = w1 := ⟨_, rfl⟩
  have hfour : Below w.heap.size w w1 ∧ w1.heap.size = B + 4 ∧ w1.heap[B]? = some (.cells #[.string pn, .slice sa PN sc] 24 (0, 0)) ∧ w1.heap[B + 1]? = some (.cells #[.int .i64 now, .string rn, rs, rf] 29 (0, 0)) ∧ w1.heap[B + 2]? = some (.cells #[.string qn, .slice ta QN tc] 24 (0, 0)) ∧ DBlk13 w1 (B + 3) ⟨#[]⟩ (.slice none 0 0) (.slice none 0 0) := by
    rw [← hw1, ← hB]
    obtain ⟨wa, ha⟩ : ∃ wa, w.alloc (.cells #[.string pn, .slice sa PN sc] 24) = wa := ⟨_, rfl⟩
    have a0 : wa.heap[w.heap.size]? = some (.cells #[.string pn, .slice sa PN sc] 24 (0, 0)) := by rw [← ha]; exact (MapKept.heap_alloc w _).1
    have asz : wa.heap.size = w.heap.size + 1 := by rw [← ha]; simp
    have ab : Below w.heap.size w wa := by rw [← ha]; exact (Below.refl _ _).alloc (Nat.le_refl _) _
    rw [ha]
    obtain ⟨wb, hb⟩ : ∃ wb, wa.alloc (.cells #[.int .i64 now, .string rn, rs, rf] 29) = wb := ⟨_, rfl⟩
    have b0 : wb.heap[w.heap.size + 1]? = some (.cells #[.int .i64 now, .string rn, rs, rf] 29 (0, 0)) := by rw [← hb, ← asz]; exact (MapKept.heap_alloc wa _).1
    have bs : wb.heap.size = w.heap.size + 2 := by rw [← hb]; simp [asz]
    have bb : Below wa.heap.size wa wb := by rw [← hb]; exact (Below.refl _ _).alloc (Nat.le_refl _) _
    rw [hb]
    obtain ⟨wc, hc⟩ : ∃ wc, wb.alloc (.cells #[.string qn, .slice ta QN tc] 24) = wc := ⟨_, rfl⟩
    have c0 : wc.heap[w.heap.size + 2]? = some (.cells #[.string qn, .slice ta QN tc] 24 (0, 0)) := by rw [← hc, ← bs]; exact (MapKept.heap_alloc wb _).1
    have cs : wc.heap.size = w.heap.size + 3 := by rw [← hc]; simp [bs]
    have cb : Below wb.heap.size wb wc := by rw [← hc]; exact (Below.refl _ _).alloc (Nat.le_refl _) _
    rw [hc]
    obtain ⟨wd, hd⟩ : ∃ wd, wc.alloc (.cells #[.string ⟨#[]⟩, .slice none 0 0, .slice none 0 0] 31) = wd := ⟨_, rfl⟩
    have d0 : wd.heap[w.heap.size + 3]? = some (.cells #[.string ⟨#[]⟩, .slice none 0 0, .slice none 0 0] 31 (0, 0)) := by rw [← hd, ← cs]; exact (MapKept.heap_alloc wc _).1
    have ds : wd.heap.size = w.heap.size + 4 := by rw [← hd]; simp [cs]
    have db : Below wc.heap.size wc wd := by rw [← hd]; exact (Below.refl _ _).alloc (Nat.le_refl _) _
    rw [hd]
    refine ⟨((ab.trans (bb.mono (by omega))).trans (cb.mono (by omega))).trans (db.mono (by omega)), ds, ?_, ?_, ?_, d0⟩
    · rw [db.block _ (by omega), cb.block _ (by omega), bb.block _ (by omega)]; exact a0
    · rw [db.block _ (by omega), cb.block _ (by omega)]; exact b0
    · rw [db.block _ (by omega)]; exact c0
  obtain ⟨b1, z1, k0, k1, k2, k3⟩ := hfour
  have CS1 : Hid (Dc w1 [(⟨B, 0, none⟩, .string pn), (⟨B, 1, none⟩, .slice sa PN sc), (⟨B + 1, 0, none⟩, .int .i64 now), (⟨B + 1, 1, none⟩, .string rn), (⟨B + 1, 2, none⟩, rs), (⟨B + 1, 3, none⟩, rf), (⟨B + 2, 0, none⟩, .string qn), (⟨B + 2, 1, none⟩, .slice ta QN tc)]) := Hid.of (Dc.app (Dc.one k0 (i := 0) rfl) (Dc.app (Dc.one k0 (i := 1) rfl) (Dc.app (Dc.one k1 (i := 0) rfl) (Dc.app (Dc.one k1 (i := 1) rfl) (Dc.app (Dc.one k1 (i := 2) rfl) (Dc.app (Dc.one k1 (i := 3) rfl) (Dc.app (Dc.one k2 (i := 0) rfl) (Dc.one k2 (i := 1) rfl))))))))
  have K3 : Hid (DBlk13 w1 (B + 3) ⟨#[]⟩ (.slice none 0 0) (.slice none 0 0)) := Hid.of k3
  have B1 := Hid.of b1
  have Z1 := Hid.of z1
  have HW := Hid.of hw1
  have HBB := Hid.of hB
  have NP := Hid.of hPN
  have NQ := Hid.of hQN
  have HN := Hid.of hqn
  clear hw1 b1 z1 k0 k1 k2 k3 hB fp fq fr hpn hqn hPN hQN hnow hrn
  go_enter Tryz.func14, Tryz.ntmps14
  go_upto_region 1 with fail
  rw [HW.out, HBB.out]
  clear HW
  obtain ⟨q0, q1⟩ : w1.cell? ⟨B, 0, none⟩ = some (.string pn) ∧ w1.cell? ⟨B, 1, none⟩ = some (.slice sa PN sc) := ⟨CS1.out.head, CS1.out.tail.head⟩
  go_wp2_with fail
  refine (refCheck_any _ p _ (HV.out.kept B1.out) FP.out.1 (by have := FP.out.2.1; unfold maxLen; omega) (fun x hx => by have := (FP.out.2.2 x hx).1; unfold maxLen; omega)).mono ?_
  rintro e w2 ⟨rfl, b2⟩
  have B2 := Hid.of (B1.out.trans (b2.mono B1.out.size))
  have CS2 := Hid.of (CS1.out.next b2)
  have K2 := Hid.of (dblk_next K3.out b2)
  have S2 : Hid (w1.heap.size ≤ w2.heap.size) := Hid.of b2.size
  clear b2 q0 q1 CS1 K3
  obtain ⟨ce, cn, hce⟩ : ∃ ce cn, pCheck p = (ce, cn) := ⟨_, _, rfl⟩
  have HCE := Hid.of hce
  rw [hce]
  simp only
  clear hce
  by_cases hc : ce = 0
  case neg =>
    have hc2 : (ce == 0) = false := beq_eq_false_iff_ne.2 hc
    have ER : Hid (mErr p q = ce ∧ mMake p r q = ((⟨#[]⟩, []), [])) := Hid.of (by
      have e : mErr p q = ce := by unfold mErr; rw [HCE.out]; exact if_pos hc
      exact ⟨e, by unfold mMake; rw [if_neg (by rw [e]; exact hc)]⟩)
    have f0 := row_frozen (i := 0) K2.out
    have f1 := row_frozen (i := 1) K2.out
    have f2 := row_frozen (i := 2) K2.out
    obtain ⟨t0, t1, t2⟩ := dblk_at K2.out
    have KZ := dblk_set (n' := ⟨#[]⟩) (s' := .slice none 0 0) (f' := .slice none 0 0) K2.out
    have gz := setL_grown w2 (B + 3) ⟨#[]⟩ (.slice none 0 0) (.slice none 0 0)
    have BZ : Hid (Below w.heap.size w (setL w2 (B + 3) ⟨#[]⟩ (.slice none 0 0) (.slice none 0 0))) := Hid.of (B2.out.grown gz B2.out.size (fun k hk => by cases hk; have := HBB.out; omega))
    obtain ⟨r0, r1, r2⟩ := dblk_at KZ
    clear KZ gz
    unfold setL at r0 r1 r2 BZ
    go_wp2
    refine bodyPost_ret (v := .tuple #[.agg #[.string ⟨#[]⟩, .slice none 0 0, .slice none 0 0], .int .i64 ce]) ?_ rfl ⟨.agg #[.string ⟨#[]⟩, .slice none 0 0, .slice none 0 0], by rw [ER.out.1], by rw [ER.out.2]; exact OwnPlan.row (B := 0) ⟨_, _, rfl, World.ownsRow_nil _ _ _ _, World.ownsRow_nil _ _ _ _, fun g hg => by cases hg⟩, BZ.out⟩
    simp [results, Tryz.results14, go_sem, r0, r1, r2]
  subst hc
  obtain ⟨q0, q1⟩ : w2.cell? ⟨B + 2, 0, none⟩ = some (.string qn) ∧ w2.cell? ⟨B + 2, 1, none⟩ = some (.slice ta QN tc) := ⟨CS2.out.tail.tail.tail.tail.tail.tail.head, CS2.out.tail.tail.tail.tail.tail.tail.tail.head⟩
  go_wp2_with fail
  refine (refCheck_any _ q _ (HT.out.kept B2.out) FQ.out.1 (by have := FQ.out.2.1; unfold maxLen; omega) (fun x hx => by have := (FQ.out.2.2 x hx).1; unfold maxLen; omega)).mono ?_
  rintro e w3 ⟨rfl, b3⟩
  have B3 := Hid.of (B2.out.trans (b3.mono B2.out.size))
  have CS3 := Hid.of (CS2.out.next b3)
  have K3 := Hid.of (dblk_next K2.out b3)
  have S3 : Hid (w1.heap.size ≤ w3.heap.size) := Hid.of (Nat.le_trans S2.out b3.size)
  clear b3 q0 q1 CS2 K2 B2 S2
  obtain ⟨de, dn, hde⟩ : ∃ de dn, pCheck q = (de, dn) := ⟨_, _, rfl⟩
  have HDE := Hid.of hde
  rw [hde]
  simp only
  clear hde
  by_cases hd : de = 0
  case neg =>
    have hc2 : (de == 0) = false := beq_eq_false_iff_ne.2 hd
    have ER : Hid (mErr p q = de ∧ mMake p r q = ((⟨#[]⟩, []), [])) := Hid.of (by
      have e : mErr p q = de := by unfold mErr; rw [HCE.out, HDE.out]; rfl
      exact ⟨e, by unfold mMake; rw [if_neg (by rw [e]; exact hd)]⟩)
    have B2 := B3
    have K2 := K3
    have f0 := row_frozen (i := 0) K2.out
    have f1 := row_frozen (i := 1) K2.out
    have f2 := row_frozen (i := 2) K2.out
    obtain ⟨t0, t1, t2⟩ := dblk_at K2.out
    have KZ := dblk_set (n' := ⟨#[]⟩) (s' := .slice none 0 0) (f' := .slice none 0 0) K2.out
    have gz := setL_grown w3 (B + 3) ⟨#[]⟩ (.slice none 0 0) (.slice none 0 0)
    have BZ : Hid (Below w.heap.size w (setL w3 (B + 3) ⟨#[]⟩ (.slice none 0 0) (.slice none 0 0))) := Hid.of (B2.out.grown gz B2.out.size (fun k hk => by cases hk; have := HBB.out; omega))
    obtain ⟨r0, r1, r2⟩ := dblk_at KZ
    clear KZ gz
    unfold setL at r0 r1 r2 BZ
    go_wp2
    refine bodyPost_ret (v := .tuple #[.agg #[.string ⟨#[]⟩, .slice none 0 0, .slice none 0 0], .int .i64 de]) ?_ rfl ⟨.agg #[.string ⟨#[]⟩, .slice none 0 0, .slice none 0 0], by rw [ER.out.1], by rw [ER.out.2]; exact OwnPlan.row (B := 0) ⟨_, _, rfl, World.ownsRow_nil _ _ _ _, World.ownsRow_nil _ _ _ _, fun g hg => by cases hg⟩, BZ.out⟩
    simp [results, Tryz.results14, go_sem, r0, r1, r2]
  subst hd
  have E0 : Hid (mErr p q = 0) := Hid.of (by unfold mErr; rw [HCE.out, HDE.out]; rfl)
  obtain ⟨q0, q1⟩ : w3.cell? ⟨B + 2, 0, none⟩ = some (.string qn) ∧ w3.cell? ⟨B + 2, 1, none⟩ = some (.slice ta QN tc) := ⟨CS3.out.tail.tail.tail.tail.tail.tail.head, CS3.out.tail.tail.tail.tail.tail.tail.tail.head⟩
  obtain ⟨m, hm⟩ : ∃ m, w3.heap.size = m := ⟨_, rfl⟩
  obtain ⟨w5, hw5⟩ : ∃ w5, w3.alloc (.cells #[.string qn, .slice ta QN tc, .slice none 0 0] 31) = w5 := ⟨_, rfl⟩
  have b5 : Below w3.heap.size w3 w5 := by rw [← hw5]; exact (Below.refl _ _).alloc (Nat.le_refl _) _
  have k5 : DBlk13 w5 m qn (.slice ta QN tc) (.slice none 0 0) := by rw [← hw5, ← hm]; exact (MapKept.heap_alloc w3 _).1
  have M5 : Hid (MD w w1 (B + 3) m qn (.slice ta QN tc) (.slice none 0 0) [(⟨B, 0, none⟩, .string pn), (⟨B, 1, none⟩, .slice sa PN sc), (⟨B + 1, 0, none⟩, .int .i64 now), (⟨B + 1, 1, none⟩, .string rn), (⟨B + 1, 2, none⟩, rs), (⟨B + 1, 3, none⟩, rf), (⟨B + 2, 0, none⟩, .string qn), (⟨B + 2, 1, none⟩, .slice ta QN tc)] [] w5) := Hid.of
    ⟨k5, dblk_next K3.out b5, by have := Z1.out; omega, World.ownsRow_nil _ _ _ _, by have := S3.out; omega, (fun c => by cases c), CS3.out.next b5, (fun x hx => by
      have := Z1.out
      simp only [List.mem_cons, List.not_mem_nil, or_false] at hx
      rcases hx with rfl | rfl | rfl | rfl | rfl | rfl | rfl | rfl <;> (simp only; omega)), B3.out.trans (b5.mono B3.out.size), B1.out.size⟩
  have HW := Hid.of hw5
  have HMM := Hid.of hm
  clear hw5 hm b5 k5 CS3 K3 S3 B3
  obtain ⟨i0, hi, hz0, hz1, hz2⟩ := info_parts int_info'
  have HI := Hid.of hi
  have HZ0 := Hid.of hz0
  have HZ1 := Hid.of hz1
  have HZ2 := Hid.of hz2
  clear hi hz0 hz1 hz2
  go_upto_region 8 with fail
  rw [HW.out, HMM.out]
  clear HW HMM q0 q1
  obtain ⟨q0, q1⟩ : w5.cell? ⟨B + 2, 0, none⟩ = some (.string qn) ∧ w5.cell? ⟨B + 2, 1, none⟩ = some (.slice ta QN tc) := ⟨M5.out.cs.tail.tail.tail.tail.tail.tail.head, M5.out.cs.tail.tail.tail.tail.tail.tail.tail.head⟩
  go_upto_region 9 with fail
  clear q0 q1
  go_loopg [11] QN (fun kx iv wr => ∃ (j : Nat) (fv : Value) (xs : List Int), iv = .int .i64 j ∧ j ≤ QN ∧ QN - j ≤ kx ∧ Hid (xs = (q.2.take j).map fun x => ((mFur r x.2.1 p.2 : Nat) : Int)) ∧ Hid (xs.length = j) ∧ Hid (MD w w1 (B + 3) m qn (.slice ta QN tc) fv [(⟨B, 0, none⟩, .string pn), (⟨B, 1, none⟩, .slice sa PN sc), (⟨B + 1, 0, none⟩, .int .i64 now), (⟨B + 1, 1, none⟩, .string rn), (⟨B + 1, 2, none⟩, rs), (⟨B + 1, 3, none⟩, rf), (⟨B + 2, 0, none⟩, .string qn), (⟨B + 2, 1, none⟩, .slice ta QN tc)] xs wr))
  case atStart => exact ⟨0, _, [], rfl, Nat.zero_le _, Nat.le_refl _, Hid.of rfl, Hid.of rfl, M5⟩
  case round =>
    clear M5
    obtain ⟨j, fv, xs, rfl, hj, hk, HX, HXL, M⟩ := hrel
    have j0 : (0 : Int) ≤ (j : Int) := Int.natCast_nonneg _
    have n9 : QN ≤ 1000000 := by have := FQ.out.1; rw [NQ.out] at this; exact this
    have n8 : PN ≤ 1000000 := by have := FP.out.1; rw [NP.out] at this; exact this
    have c0 : wr.cell? ⟨B + 2, 1, none⟩ = some (.slice ta QN tc) := M.out.cs.tail.tail.tail.tail.tail.tail.tail.head
    by_cases hlt : (j : Int) < (QN : Int)
    · obtain ⟨t, ht⟩ : ∃ t, q.2[j]? = some t := ⟨_, List.getElem?_eq_getElem (by have := NQ.out; omega)⟩
      obtain ⟨tb, to_, hta, htl, -, d1, -, -⟩ := p_at HS3.out j t ht
      subst hta
      have TK := tier_known (mErr_zero E0.out).2 ht
      have HTT := Hid.of ht
      obtain ⟨t0, ev, t2, sh⟩ := t
      simp only at d1 TK
      have HEV : Hid (1 ≤ ev ∧ ev ≤ 1000000) := Hid.of ⟨TK.1, TK.2.1⟩
      have D1 : Hid (w.cell? ⟨tb, to_ + j * 4 + 1, none⟩ = some (.int .i64 ev) ∧ tb < w.heap.size) := Hid.of ⟨d1, htl⟩
      have HJ : Hid (j < QN) := Hid.of (by omega)
      obtain ⟨va, vc, rfl, -⟩ := own_one M.out.of
      rw [HXL.out] at M
      clear ht htl d1 TK
      go_upto_region 13 with fail
      clear c0
      go_loopg [12, 13] PN (fun kx bv iv wu => ∃ (i b : Nat) (bd : Int), iv = .int .i64 i ∧ bv = .int .i64 bd ∧ i ≤ PN ∧ PN - i ≤ kx ∧ Hid (b ≤ 1000000) ∧ Hid (mFur r ev p.2 = mFurN r ev i b (p.2.drop i)) ∧ Hid (i = 0 ∧ b = 0 ∧ bd = -1 ∨ 1 ≤ i ∧ bd = (b : Int)) ∧ Hid (MD w w1 (B + 3) m qn (.slice (some ⟨tb, to_, none⟩) QN tc) (.slice va j vc) [(⟨B, 0, none⟩, .string pn), (⟨B, 1, none⟩, .slice sa PN sc), (⟨B + 1, 0, none⟩, .int .i64 now), (⟨B + 1, 1, none⟩, .string rn), (⟨B + 1, 2, none⟩, rs), (⟨B + 1, 3, none⟩, rf), (⟨B + 2, 0, none⟩, .string qn), (⟨B + 2, 1, none⟩, .slice (some ⟨tb, to_, none⟩) QN tc)] xs wu))
      case atStart => exact ⟨0, 0, -1, rfl, rfl, Nat.zero_le _, Nat.le_refl _, Hid.of (Nat.zero_le _), Hid.of rfl, Hid.of (.inl ⟨rfl, rfl, rfl⟩), M⟩
      case round =>
        clear M
        obtain ⟨i, b, bd, rfl, rfl, hi, hkk, HB9, HE, HBD, MI⟩ := hrel
        have i00 : (0 : Int) ≤ (i : Int) := Int.natCast_nonneg _
        have c3 : wr.cell? ⟨B, 1, none⟩ = some (.slice sa PN sc) := MI.out.cs.tail.head
        by_cases hlt2 : (i : Int) < (PN : Int)
        · obtain ⟨u, hu⟩ : ∃ u, p.2[i]? = some u := ⟨_, List.getElem?_eq_getElem (by have := NP.out; omega)⟩
          obtain ⟨pb, po, hsa, hpl, -, d1, -, -⟩ := p_at HS.out i u hu
          subst hsa
          have TK := tier_known (mErr_zero E0.out).1 hu
          have HE1 := Hid.of (HE.out.trans (mFurN_drop hu b))
          obtain ⟨u0, ep, u2, uh⟩ := u
          simp only at d1 TK HE1
          have HEP : Hid (1 ≤ ep ∧ ep ≤ 1000000 ∧ (i = 0 → ep = 1)) := Hid.of ⟨TK.1, TK.2.1, TK.2.2.2.2.2.2.2.1⟩
          have D24 : Hid (Dc wr [(⟨B + 2, 1, none⟩, .slice (some ⟨tb, to_, none⟩) QN tc), (⟨tb, to_ + j * 4 + 1, none⟩, .int .i64 ev), (⟨B, 1, none⟩, .slice (some ⟨pb, po, none⟩) PN sc), (⟨pb, po + i * 4 + 1, none⟩, .int .i64 ep), (⟨B + 1, 0, none⟩, .int .i64 now), (⟨B + 1, 1, none⟩, .string rn), (⟨B + 1, 2, none⟩, rs), (⟨B + 1, 3, none⟩, rf)]) := Hid.of (by
            have hc := MI.out.cs
            have hf := MI.out.fr
            exact .cons hc.tail.tail.tail.tail.tail.tail.tail.lt hc.tail.tail.tail.tail.tail.tail.tail.head (.cons (Nat.lt_of_lt_of_le D1.out.2 hf.size) (by rw [hf.cell D1.out.2]; exact D1.out.1) (.cons hc.tail.lt hc.tail.head (.cons (Nat.lt_of_lt_of_le hpl hf.size) (by rw [hf.cell hpl]; exact d1) (.cons hc.tail.tail.lt hc.tail.tail.head (.cons hc.tail.tail.tail.lt hc.tail.tail.tail.head (.cons hc.tail.tail.tail.tail.lt hc.tail.tail.tail.tail.head (.cons hc.tail.tail.tail.tail.tail.lt hc.tail.tail.tail.tail.tail.head (Dc.nil _)))))))))
          have HIN : Hid (i < PN) := Hid.of (by omega)
          have RR : ∀ u, Below w.heap.size w u → Hid (RchRow u (.agg #[.int .i64 now, .string rn, rs, rf]) r) := fun u hu => Hid.of (HR.out.kept hu)
          have IJ : Hid (In64 (i : Int)) := Hid.of (by have := NP.out; have := FP.out.1; unfold In64; omega)
          have IB : Hid (In64 (b : Int)) := Hid.of (by have := HB9.out; unfold In64; omega)
          obtain ⟨fi, hfi⟩ : ∃ fi, rFromN r i = fi := ⟨_, rfl⟩
          obtain ⟨fb, hfb⟩ : ∃ fb, rFromN r b = fb := ⟨_, rfl⟩
          rw [hfi, hfb] at HE1
          have HFI : Hid (rFrom r (i : Int) = fi) := Hid.of (by rw [rFrom_nat2]; exact hfi)
          have HFB : Hid (rFrom r (b : Int) = fb) := Hid.of (by rw [rFrom_nat2]; exact hfb)
          have u1 : ¬ ep = 0 := by have := HEP.out.1; omega
          clear hu hpl d1 TK HE hfi hfb
          by_cases hrm : ev.tmod ep = 0
          · have GO : Hid (gOn ev ep = true) := Hid.of (gOn_tmod.2 ⟨HEP.out.1, hrm⟩)
            rcases HBD.out with ⟨hi0, hb0, hbd⟩ | ⟨hi1, hbd⟩
            · have HB0 := Hid.of (hb0.trans hi0.symm)
              subst hbd
              clear hi0 hb0
              go_upto_region 15 with fail
              clear c3
              have bd := (Below.refl wr.heap.size wr).drew
              have MY := Hid.of (MI.out.next bd)
              have D0 := Hid.of (D24.out.next bd)
              clear bd MI
              have d0 := (D24.out).head
              have d1 := ((D24.out).tail).head
              have d2 := (((D24.out).tail).tail).head
              have d3 := ((((D24.out).tail).tail).tail).head
              have d4 := (((((D24.out).tail).tail).tail).tail).head
              have d5 := ((((((D24.out).tail).tail).tail).tail).tail).head
              have d6 := (((((((D24.out).tail).tail).tail).tail).tail).tail).head
              have d7 := ((((((((D24.out).tail).tail).tail).tail).tail).tail).tail).head
              refine wp_region_noPanic ?_
              refine wp_region_held_drew (S := fun w' => w'.cell? ⟨B + 2, 1, none⟩ = some (.slice (some ⟨tb, to_, none⟩) QN tc) ∧ w'.cell? ⟨tb, to_ + j * 4 + 1, none⟩ = some (.int .i64 ev) ∧ w'.cell? ⟨B, 1, none⟩ = some (.slice (some ⟨pb, po, none⟩) PN sc) ∧ w'.cell? ⟨pb, po + i * 4 + 1, none⟩ = some (.int .i64 ep) ∧ w'.cell? ⟨B + 1, 0, none⟩ = some (.int .i64 now) ∧ w'.cell? ⟨B + 1, 1, none⟩ = some (.string rn) ∧ w'.cell? ⟨B + 1, 2, none⟩ = some (rs) ∧ w'.cell? ⟨B + 1, 3, none⟩ = some (rf)) (by kernel_rfl) ?_ (fun hHeld => ?_)
              · exact ⟨d0, d1, d2, d3, d4, d5, d6, d7⟩
              refine wpAnyH_take (i := 0) (oi := ⟨_, _, _, _, _, _⟩) (v := ?_) rfl (by kernel_rfl) (by kernel_rfl) (by kernel_rfl) (fun _ _ _ h => h) (Or.inl ⟨by rfl, ?_⟩) hHeld ?_
              rotate_left
              · intro w' hSw
                try dsimp only at hSw
                go_simp
                all_goals with_reducible rfl
              simp only [Act.put, List.setIfInBounds_toArray, List.set_cons_zero, List.set_cons_succ]
              refine wpAnyH_take (i := 1) (oi := ⟨_, _, _, _, _, _⟩) (v := ?_) rfl (by kernel_rfl) (by kernel_rfl) (by kernel_rfl) (fun _ _ _ h => h) (Or.inl ⟨by rfl, ?_⟩) hHeld ?_
              rotate_left
              · intro w' hSw
                try dsimp only at hSw
                go_simp
                all_goals with_reducible rfl
              simp only [Act.put, List.setIfInBounds_toArray, List.set_cons_zero, List.set_cons_succ]
              refine wpAnyH_take (i := 2) (oi := ⟨_, _, _, _, _, _⟩) (v := ?_) rfl (by kernel_rfl) (by kernel_rfl) (by kernel_rfl) (fun _ _ _ h => h) (Or.inl ⟨by rfl, ?_⟩) hHeld ?_
              rotate_left
              · intro w' hSw
                try dsimp only at hSw
                go_simp
                all_goals with_reducible rfl
              simp only [Act.put, List.setIfInBounds_toArray, List.set_cons_zero, List.set_cons_succ]
              refine wpAnyH_take (i := 3) (oi := ⟨_, _, _, _, _, _⟩) (v := ?_) rfl (by kernel_rfl) (by kernel_rfl) (by kernel_rfl) (fun _ _ _ h => h) (Or.inl ⟨by rfl, ?_⟩) hHeld ?_
              rotate_left
              · intro w' hSw
                try dsimp only at hSw
                go_simp
                all_goals with_reducible rfl
              simp only [Act.put, List.setIfInBounds_toArray, List.set_cons_zero, List.set_cons_succ]
              refine wpAnyH_take (i := 4) (oi := ⟨_, _, _, _, _, _⟩) (v := ?_) rfl (by kernel_rfl) (by kernel_rfl) (by kernel_rfl) (fun _ _ _ h => h) (Or.inl ⟨by rfl, ?_⟩) hHeld ?_
              rotate_left
              · intro w' hSw
                try dsimp only at hSw
                go_simp
                all_goals with_reducible rfl
              simp only [Act.put, List.setIfInBounds_toArray, List.set_cons_zero, List.set_cons_succ]
              refine wpAnyH_take (i := 5) (oi := ⟨_, _, _, _, _, _⟩) (v := ?_) rfl (by kernel_rfl) (by kernel_rfl) (by kernel_rfl) (fun _ _ _ h => h) (Or.inl ⟨by rfl, ?_⟩) hHeld ?_
              rotate_left
              · intro w' hSw
                try dsimp only at hSw
                go_simp
                all_goals with_reducible rfl
              simp only [Act.put, List.setIfInBounds_toArray, List.set_cons_zero, List.set_cons_succ]
              refine wpAnyH_take (i := 6) (oi := ⟨_, _, _, _, _, _⟩) (v := ?_) rfl (by kernel_rfl) (by kernel_rfl) (by kernel_rfl) (fun _ _ _ h => h) (Or.inl ⟨by rfl, ?_⟩) hHeld ?_
              rotate_left
              · intro w' hSw
                try dsimp only at hSw
                go_simp
                all_goals with_reducible rfl
              simp only [Act.put, List.setIfInBounds_toArray, List.set_cons_zero, List.set_cons_succ]
              refine wpAnyH_take (i := 7) (oi := ⟨_, _, _, _, _, _⟩) (v := ?_) rfl (by kernel_rfl) (by kernel_rfl) (by kernel_rfl) (fun _ _ _ h => h) (Or.inl ⟨by rfl, ?_⟩) hHeld ?_
              rotate_left
              · intro w' hSw
                try dsimp only at hSw
                go_simp
                all_goals with_reducible rfl
              simp only [Act.put, List.setIfInBounds_toArray, List.set_cons_zero, List.set_cons_succ]
              refine wpAnyH_take (i := 8) (oi := ⟨_, _, _, _, _, _⟩) (v := ?_) rfl (by kernel_rfl) (by kernel_rfl) (by kernel_rfl) (fun _ _ _ h => h) (Or.inl ⟨by rfl, ?_⟩) hHeld ?_
              rotate_left
              · intro w' hSw
                try dsimp only at hSw
                go_simp
                all_goals with_reducible rfl
              simp only [Act.put, List.setIfInBounds_toArray, List.set_cons_zero, List.set_cons_succ]
              refine wpAnyH_take (i := 9) (oi := ⟨_, _, _, _, _, _⟩) (v := ?_) rfl (by kernel_rfl) (by kernel_rfl) (by kernel_rfl) (fun _ _ _ h => h) (Or.inl ⟨by rfl, ?_⟩) hHeld ?_
              rotate_left
              · intro w' hSw
                try dsimp only at hSw
                go_simp
                all_goals with_reducible rfl
              simp only [Act.put, List.setIfInBounds_toArray, List.set_cons_zero, List.set_cons_succ]
              refine wpAnyH_take (i := 10) (oi := ⟨_, _, _, _, _, _⟩) (v := ?_) rfl (by kernel_rfl) (by kernel_rfl) (by kernel_rfl) (fun _ _ _ h => h) (Or.inl ⟨by rfl, ?_⟩) hHeld ?_
              rotate_left
              · intro w' hSw
                try dsimp only at hSw
                go_simp
                all_goals with_reducible rfl
              simp only [Act.put, List.setIfInBounds_toArray, List.set_cons_zero, List.set_cons_succ]
              refine wpAnyH_take (i := 11) (oi := ⟨_, _, _, _, _, _⟩) (v := ?_) rfl (by kernel_rfl) (by kernel_rfl) (by kernel_rfl) (fun _ _ _ h => h) (Or.inl ⟨by rfl, ?_⟩) hHeld ?_
              rotate_left
              · intro w' hSw
                try dsimp only at hSw
                go_simp
                all_goals with_reducible rfl
              simp only [Act.put, List.setIfInBounds_toArray, List.set_cons_zero, List.set_cons_succ]
              refine wpAnyH_take (i := 12) (oi := ⟨_, _, _, _, _, _⟩) (v := ?_) rfl (by kernel_rfl) (by kernel_rfl) (by kernel_rfl) (fun _ _ _ h => h) (Or.inl ⟨by rfl, ?_⟩) hHeld ?_
              rotate_left
              · intro w' hSw
                try dsimp only at hSw
                go_simp
                all_goals with_reducible rfl
              simp only [Act.put, List.setIfInBounds_toArray, List.set_cons_zero, List.set_cons_succ]
              refine wpAnyH_take (i := 13) (oi := ⟨_, _, _, _, _, _⟩) (v := ?_) rfl (by kernel_rfl) (by kernel_rfl) (by kernel_rfl) (fun _ _ _ h => h) (Or.inl ⟨by rfl, ?_⟩) hHeld ?_
              rotate_left
              · intro w' hSw
                try dsimp only at hSw
                go_simp
                all_goals with_reducible rfl
              simp only [Act.put, List.setIfInBounds_toArray, List.set_cons_zero, List.set_cons_succ]
              refine wpAnyH_take (i := 14) (oi := ⟨_, _, _, _, _, _⟩) (v := ?_) rfl (by kernel_rfl) (by kernel_rfl) (by kernel_rfl) (fun _ _ _ h => h) (Or.inl ⟨by rfl, ?_⟩) hHeld ?_
              rotate_left
              · intro w' hSw
                try dsimp only at hSw
                go_simp
                all_goals with_reducible rfl
              simp only [Act.put, List.setIfInBounds_toArray, List.set_cons_zero, List.set_cons_succ]
              refine wpAnyH_take (i := 15) (oi := ⟨_, _, _, _, _, _⟩) (v := ?_) rfl (by kernel_rfl) (by kernel_rfl) (by kernel_rfl) (fun _ _ _ h => h) (Or.inl ⟨by rfl, ?_⟩) hHeld ?_
              rotate_left
              · intro w' hSw
                try dsimp only at hSw
                go_simp
                all_goals with_reducible rfl
              simp only [Act.put, List.setIfInBounds_toArray, List.set_cons_zero, List.set_cons_succ]
              refine wpAnyH_take (i := 16) (oi := ⟨_, _, _, _, _, _⟩) (v := ?_) rfl (by kernel_rfl) (by kernel_rfl) (by kernel_rfl) (fun _ _ _ h => h) (Or.inl ⟨by rfl, ?_⟩) hHeld ?_
              rotate_left
              · intro w' hSw
                try dsimp only at hSw
                go_simp
                all_goals with_reducible rfl
              simp only [Act.put, List.setIfInBounds_toArray, List.set_cons_zero, List.set_cons_succ]
              refine wpAnyH_take (i := 17) (oi := ⟨_, _, _, _, _, _⟩) (v := ?_) rfl (by kernel_rfl) (by kernel_rfl) (by kernel_rfl) (fun _ _ _ h => h) (Or.inl ⟨by rfl, ?_⟩) hHeld ?_
              rotate_left
              · intro w' hSw
                try dsimp only at hSw
                go_simp
                all_goals with_reducible rfl
              simp only [Act.put, List.setIfInBounds_toArray, List.set_cons_zero, List.set_cons_succ]
              refine wpAnyH_take (i := 18) (oi := ⟨_, _, _, _, _, _⟩) (v := undef) rfl (by kernel_rfl) (by kernel_rfl) (by kernel_rfl) (fun _ _ _ h => h) (Or.inr ⟨by rfl, rfl⟩) hHeld ?_
              simp only [Act.put, List.setIfInBounds_toArray, List.set_cons_zero, List.set_cons_succ]
              refine wpAnyH_take (i := 19) (oi := ⟨_, _, _, _, _, _⟩) (v := undef) rfl (by kernel_rfl) (by kernel_rfl) (by kernel_rfl) (fun _ _ _ h => h) (Or.inr ⟨by rfl, rfl⟩) hHeld ?_
              simp only [Act.put, List.setIfInBounds_toArray, List.set_cons_zero, List.set_cons_succ]
              refine wpAnyH_take (i := 20) (oi := ⟨_, _, _, _, _, _⟩) (v := undef) rfl (by kernel_rfl) (by kernel_rfl) (by kernel_rfl) (fun _ _ _ h => h) (Or.inr ⟨by rfl, rfl⟩) hHeld ?_
              simp only [Act.put, List.setIfInBounds_toArray, List.set_cons_zero, List.set_cons_succ]
              refine wpAnyH_take (i := 21) (oi := ⟨_, _, _, _, _, _⟩) (v := undef) rfl (by kernel_rfl) (by kernel_rfl) (by kernel_rfl) (fun _ _ _ h => h) (Or.inr ⟨by rfl, rfl⟩) hHeld ?_
              simp only [Act.put, List.setIfInBounds_toArray, List.set_cons_zero, List.set_cons_succ]
              refine wpAnyH_take (i := 22) (oi := ⟨_, _, _, _, _, _⟩) (v := undef) rfl (by kernel_rfl) (by kernel_rfl) (by kernel_rfl) (fun _ _ _ h => h) (Or.inr ⟨by rfl, rfl⟩) hHeld ?_
              simp only [Act.put, List.setIfInBounds_toArray, List.set_cons_zero, List.set_cons_succ]
              refine wpAnyH_take (i := 23) (oi := ⟨_, _, _, _, _, _⟩) (v := undef) rfl (by kernel_rfl) (by kernel_rfl) (by kernel_rfl) (fun _ _ _ h => h) (Or.inr ⟨by rfl, rfl⟩) hHeld ?_
              simp only [Act.put, List.setIfInBounds_toArray, List.set_cons_zero, List.set_cons_succ]
              refine wpAnyH_take (i := 24) (oi := ⟨_, _, _, _, _, _⟩) (v := undef) rfl (by kernel_rfl) (by kernel_rfl) (by kernel_rfl) (fun _ _ _ h => h) (Or.inr ⟨by rfl, rfl⟩) hHeld ?_
              simp only [Act.put, List.setIfInBounds_toArray, List.set_cons_zero, List.set_cons_succ]
              refine wpAnyH_take (i := 25) (oi := ⟨_, _, _, _, _, _⟩) (v := ?_) rfl (by kernel_rfl) (by kernel_rfl) (by kernel_rfl) (fun _ _ _ h => h) (Or.inl ⟨by rfl, ?_⟩) hHeld ?_
              rotate_left
              · intro w' hSw
                try dsimp only at hSw
                go_simp
                all_goals with_reducible rfl
              simp only [Act.put, List.setIfInBounds_toArray, List.set_cons_zero, List.set_cons_succ]
              refine wpAnyH_take (i := 26) (oi := ⟨_, _, _, _, _, _⟩) (v := ?_) rfl (by kernel_rfl) (by kernel_rfl) (by kernel_rfl) (fun _ _ _ h => h) (Or.inl ⟨by rfl, ?_⟩) hHeld ?_
              rotate_left
              · intro w' hSw
                try dsimp only at hSw
                go_simp
                all_goals with_reducible rfl
              simp only [Act.put, List.setIfInBounds_toArray, List.set_cons_zero, List.set_cons_succ]
              refine wpAnyH_done (by kernel_rfl) ?_ _
              refine NoPanic.normal ?_
              clear hHeld d0 d1 d2 d3 d4 d5 d6 d7
              have MZ := MY
              clear MY D0 D24
              go_wp2
              go_roundg (PN - (i + 1))
              case measure => have := HIN.out; omega
              case rel => exact ⟨i + 1, i, i, by go_num, rfl, HIN.out, Nat.le_refl _, Hid.of (by have := HB9.out; have := HB0.out; omega), Hid.of (by rw [HE1.out, HB0.out]; split <;> rfl), Hid.of (.inr ⟨by omega, rfl⟩), MZ⟩
            · subst hbd
              have b0 : decide ((b : Int) < 0) = false := decide_eq_false (by omega)
              have b1 : ¬ (b : Int) < 0 := by omega
              go_upto_region 15 with fail
              clear c3
              have bd := (Below.refl wr.heap.size wr).drew
              have MY := Hid.of (MI.out.next bd)
              have D0 := Hid.of (D24.out.next bd)
              clear bd MI
              have d0 := (D24.out).head
              have d1 := ((D24.out).tail).head
              have d2 := (((D24.out).tail).tail).head
              have d3 := ((((D24.out).tail).tail).tail).head
              have d4 := (((((D24.out).tail).tail).tail).tail).head
              have d5 := ((((((D24.out).tail).tail).tail).tail).tail).head
              have d6 := (((((((D24.out).tail).tail).tail).tail).tail).tail).head
              have d7 := ((((((((D24.out).tail).tail).tail).tail).tail).tail).tail).head
              refine wp_region_noPanic ?_
              refine wp_region_held_drew (S := fun w' => w'.cell? ⟨B + 2, 1, none⟩ = some (.slice (some ⟨tb, to_, none⟩) QN tc) ∧ w'.cell? ⟨tb, to_ + j * 4 + 1, none⟩ = some (.int .i64 ev) ∧ w'.cell? ⟨B, 1, none⟩ = some (.slice (some ⟨pb, po, none⟩) PN sc) ∧ w'.cell? ⟨pb, po + i * 4 + 1, none⟩ = some (.int .i64 ep) ∧ w'.cell? ⟨B + 1, 0, none⟩ = some (.int .i64 now) ∧ w'.cell? ⟨B + 1, 1, none⟩ = some (.string rn) ∧ w'.cell? ⟨B + 1, 2, none⟩ = some (rs) ∧ w'.cell? ⟨B + 1, 3, none⟩ = some (rf)) (by kernel_rfl) ?_ (fun hHeld => ?_)
              · exact ⟨d0, d1, d2, d3, d4, d5, d6, d7⟩
              refine wpAnyH_take (i := 0) (oi := ⟨_, _, _, _, _, _⟩) (v := ?_) rfl (by kernel_rfl) (by kernel_rfl) (by kernel_rfl) (fun _ _ _ h => h) (Or.inl ⟨by rfl, ?_⟩) hHeld ?_
              rotate_left
              · intro w' hSw
                try dsimp only at hSw
                go_simp
                all_goals with_reducible rfl
              simp only [Act.put, List.setIfInBounds_toArray, List.set_cons_zero, List.set_cons_succ]
              refine wpAnyH_take (i := 1) (oi := ⟨_, _, _, _, _, _⟩) (v := ?_) rfl (by kernel_rfl) (by kernel_rfl) (by kernel_rfl) (fun _ _ _ h => h) (Or.inl ⟨by rfl, ?_⟩) hHeld ?_
              rotate_left
              · intro w' hSw
                try dsimp only at hSw
                go_simp
                all_goals with_reducible rfl
              simp only [Act.put, List.setIfInBounds_toArray, List.set_cons_zero, List.set_cons_succ]
              refine wpAnyH_take (i := 2) (oi := ⟨_, _, _, _, _, _⟩) (v := ?_) rfl (by kernel_rfl) (by kernel_rfl) (by kernel_rfl) (fun _ _ _ h => h) (Or.inl ⟨by rfl, ?_⟩) hHeld ?_
              rotate_left
              · intro w' hSw
                try dsimp only at hSw
                go_simp
                all_goals with_reducible rfl
              simp only [Act.put, List.setIfInBounds_toArray, List.set_cons_zero, List.set_cons_succ]
              refine wpAnyH_take (i := 3) (oi := ⟨_, _, _, _, _, _⟩) (v := ?_) rfl (by kernel_rfl) (by kernel_rfl) (by kernel_rfl) (fun _ _ _ h => h) (Or.inl ⟨by rfl, ?_⟩) hHeld ?_
              rotate_left
              · intro w' hSw
                try dsimp only at hSw
                go_simp
                all_goals with_reducible rfl
              simp only [Act.put, List.setIfInBounds_toArray, List.set_cons_zero, List.set_cons_succ]
              refine wpAnyH_take (i := 4) (oi := ⟨_, _, _, _, _, _⟩) (v := ?_) rfl (by kernel_rfl) (by kernel_rfl) (by kernel_rfl) (fun _ _ _ h => h) (Or.inl ⟨by rfl, ?_⟩) hHeld ?_
              rotate_left
              · intro w' hSw
                try dsimp only at hSw
                go_simp
                all_goals with_reducible rfl
              simp only [Act.put, List.setIfInBounds_toArray, List.set_cons_zero, List.set_cons_succ]
              refine wpAnyH_take (i := 5) (oi := ⟨_, _, _, _, _, _⟩) (v := ?_) rfl (by kernel_rfl) (by kernel_rfl) (by kernel_rfl) (fun _ _ _ h => h) (Or.inl ⟨by rfl, ?_⟩) hHeld ?_
              rotate_left
              · intro w' hSw
                try dsimp only at hSw
                go_simp
                all_goals with_reducible rfl
              simp only [Act.put, List.setIfInBounds_toArray, List.set_cons_zero, List.set_cons_succ]
              refine wpAnyH_take (i := 6) (oi := ⟨_, _, _, _, _, _⟩) (v := ?_) rfl (by kernel_rfl) (by kernel_rfl) (by kernel_rfl) (fun _ _ _ h => h) (Or.inl ⟨by rfl, ?_⟩) hHeld ?_
              rotate_left
              · intro w' hSw
                try dsimp only at hSw
                go_simp
                all_goals with_reducible rfl
              simp only [Act.put, List.setIfInBounds_toArray, List.set_cons_zero, List.set_cons_succ]
              refine wpAnyH_take (i := 7) (oi := ⟨_, _, _, _, _, _⟩) (v := ?_) rfl (by kernel_rfl) (by kernel_rfl) (by kernel_rfl) (fun _ _ _ h => h) (Or.inl ⟨by rfl, ?_⟩) hHeld ?_
              rotate_left
              · intro w' hSw
                try dsimp only at hSw
                go_simp
                all_goals with_reducible rfl
              simp only [Act.put, List.setIfInBounds_toArray, List.set_cons_zero, List.set_cons_succ]
              refine wpAnyH_take (i := 8) (oi := ⟨_, _, _, _, _, _⟩) (v := ?_) rfl (by kernel_rfl) (by kernel_rfl) (by kernel_rfl) (fun _ _ _ h => h) (Or.inl ⟨by rfl, ?_⟩) hHeld ?_
              rotate_left
              · intro w' hSw
                try dsimp only at hSw
                go_simp
                all_goals with_reducible rfl
              simp only [Act.put, List.setIfInBounds_toArray, List.set_cons_zero, List.set_cons_succ]
              refine wpAnyH_take (i := 9) (oi := ⟨_, _, _, _, _, _⟩) (v := ?_) rfl (by kernel_rfl) (by kernel_rfl) (by kernel_rfl) (fun _ _ _ h => h) (Or.inl ⟨by rfl, ?_⟩) hHeld ?_
              rotate_left
              · intro w' hSw
                try dsimp only at hSw
                go_simp
                all_goals with_reducible rfl
              simp only [Act.put, List.setIfInBounds_toArray, List.set_cons_zero, List.set_cons_succ]
              refine wpAnyH_take (i := 10) (oi := ⟨_, _, _, _, _, _⟩) (v := ?_) rfl (by kernel_rfl) (by kernel_rfl) (by kernel_rfl) (fun _ _ _ h => h) (Or.inl ⟨by rfl, ?_⟩) hHeld ?_
              rotate_left
              · intro w' hSw
                try dsimp only at hSw
                go_simp
                all_goals with_reducible rfl
              simp only [Act.put, List.setIfInBounds_toArray, List.set_cons_zero, List.set_cons_succ]
              refine wpAnyH_take (i := 11) (oi := ⟨_, _, _, _, _, _⟩) (v := ?_) rfl (by kernel_rfl) (by kernel_rfl) (by kernel_rfl) (fun _ _ _ h => h) (Or.inl ⟨by rfl, ?_⟩) hHeld ?_
              rotate_left
              · intro w' hSw
                try dsimp only at hSw
                go_simp
                all_goals with_reducible rfl
              simp only [Act.put, List.setIfInBounds_toArray, List.set_cons_zero, List.set_cons_succ]
              refine wpAnyH_take (i := 12) (oi := ⟨_, _, _, _, _, _⟩) (v := ?_) rfl (by kernel_rfl) (by kernel_rfl) (by kernel_rfl) (fun _ _ _ h => h) (Or.inl ⟨by rfl, ?_⟩) hHeld ?_
              rotate_left
              · intro w' hSw
                try dsimp only at hSw
                go_simp
                all_goals with_reducible rfl
              simp only [Act.put, List.setIfInBounds_toArray, List.set_cons_zero, List.set_cons_succ]
              refine wpAnyH_take (i := 13) (oi := ⟨_, _, _, _, _, _⟩) (v := ?_) rfl (by kernel_rfl) (by kernel_rfl) (by kernel_rfl) (fun _ _ _ h => h) (Or.inl ⟨by rfl, ?_⟩) hHeld ?_
              rotate_left
              · intro w' hSw
                try dsimp only at hSw
                go_simp
                all_goals with_reducible rfl
              simp only [Act.put, List.setIfInBounds_toArray, List.set_cons_zero, List.set_cons_succ]
              refine wpAnyH_take (i := 14) (oi := ⟨_, _, _, _, _, _⟩) (v := ?_) rfl (by kernel_rfl) (by kernel_rfl) (by kernel_rfl) (fun _ _ _ h => h) (Or.inl ⟨by rfl, ?_⟩) hHeld ?_
              rotate_left
              · intro w' hSw
                try dsimp only at hSw
                go_simp
                all_goals with_reducible rfl
              simp only [Act.put, List.setIfInBounds_toArray, List.set_cons_zero, List.set_cons_succ]
              refine wpAnyH_take (i := 15) (oi := ⟨_, _, _, _, _, _⟩) (v := ?_) rfl (by kernel_rfl) (by kernel_rfl) (by kernel_rfl) (fun _ _ _ h => h) (Or.inl ⟨by rfl, ?_⟩) hHeld ?_
              rotate_left
              · intro w' hSw
                try dsimp only at hSw
                go_simp
                all_goals with_reducible rfl
              simp only [Act.put, List.setIfInBounds_toArray, List.set_cons_zero, List.set_cons_succ]
              refine wpAnyH_take (i := 16) (oi := ⟨_, _, _, _, _, _⟩) (v := ?_) rfl (by kernel_rfl) (by kernel_rfl) (by kernel_rfl) (fun _ _ _ h => h) (Or.inl ⟨by rfl, ?_⟩) hHeld ?_
              rotate_left
              · intro w' hSw
                try dsimp only at hSw
                go_simp
                all_goals with_reducible rfl
              simp only [Act.put, List.setIfInBounds_toArray, List.set_cons_zero, List.set_cons_succ]
              refine wpAnyH_take (i := 17) (oi := ⟨_, _, _, _, _, _⟩) (v := ?_) rfl (by kernel_rfl) (by kernel_rfl) (by kernel_rfl) (fun _ _ _ h => h) (Or.inl ⟨by rfl, ?_⟩) hHeld ?_
              rotate_left
              · intro w' hSw
                try dsimp only at hSw
                go_simp
                all_goals with_reducible rfl
              simp only [Act.put, List.setIfInBounds_toArray, List.set_cons_zero, List.set_cons_succ]
              refine wpAnyH_take (i := 18) (oi := ⟨_, _, _, _, _, _⟩) (v := ?_) rfl (by kernel_rfl) (by kernel_rfl) (by kernel_rfl) (fun _ _ _ h => h) (Or.inl ⟨by rfl, ?_⟩) hHeld ?_
              rotate_left
              · intro w' hSw
                try dsimp only at hSw
                go_simp
                all_goals with_reducible rfl
              simp only [Act.put, List.setIfInBounds_toArray, List.set_cons_zero, List.set_cons_succ]
              refine wpAnyH_take (i := 19) (oi := ⟨_, _, _, _, _, _⟩) (v := ?_) rfl (by kernel_rfl) (by kernel_rfl) (by kernel_rfl) (fun _ _ _ h => h) (Or.inl ⟨by rfl, ?_⟩) hHeld ?_
              rotate_left
              · intro w' hSw
                try dsimp only at hSw
                go_simp
                all_goals with_reducible rfl
              simp only [Act.put, List.setIfInBounds_toArray, List.set_cons_zero, List.set_cons_succ]
              refine wpAnyH_take (i := 21) (oi := ⟨_, _, _, _, _, _⟩) (v := ?_) rfl (by kernel_rfl) (by kernel_rfl) (by kernel_rfl) (fun _ _ _ h => h) (Or.inl ⟨by rfl, ?_⟩) hHeld ?_
              rotate_left
              · intro w' hSw
                try dsimp only at hSw
                go_simp
                all_goals with_reducible rfl
              simp only [Act.put, List.setIfInBounds_toArray, List.set_cons_zero, List.set_cons_succ]
              refine wpAnyH_take (i := 22) (oi := ⟨_, _, _, _, _, _⟩) (v := ?_) rfl (by kernel_rfl) (by kernel_rfl) (by kernel_rfl) (fun _ _ _ h => h) (Or.inl ⟨by rfl, ?_⟩) hHeld ?_
              rotate_left
              · intro w' hSw
                try dsimp only at hSw
                go_simp
                all_goals with_reducible rfl
              simp only [Act.put, List.setIfInBounds_toArray, List.set_cons_zero, List.set_cons_succ]
              refine wpAnyH_ready (rs := [20]) (by kernel_rfl) (by simp) ?_
              refine AllReadyH.cons (o := ⟨_, _, _, _, _, _⟩) rfl (fun K hK => ?_) AllReadyH.nil
              go_simp
              refine (refFrom_row (i : Int) (RR _ MY.out.fr).out FR.out IJ.out).mono ?_
              rintro e wx2 ⟨rfl, bx⟩
              rw [HFI.out]
              have M2 := Hid.of (MY.out.next bx)
              have D2 := Hid.of (D0.out.next bx)
              clear bx MY D0
              clear hHeld d0 d1 d2 d3 d4 d5 d6 d7
              have d0 := (D2.out).head
              have d1 := ((D2.out).tail).head
              have d2 := (((D2.out).tail).tail).head
              have d3 := ((((D2.out).tail).tail).tail).head
              have d4 := (((((D2.out).tail).tail).tail).tail).head
              have d5 := ((((((D2.out).tail).tail).tail).tail).tail).head
              have d6 := (((((((D2.out).tail).tail).tail).tail).tail).tail).head
              have d7 := ((((((((D2.out).tail).tail).tail).tail).tail).tail).tail).head
              refine hK.out _ _ ⟨d0, d1, d2, d3, d4, d5, d6, d7⟩ (fun hHeld => ?_)
              clear hK K
              try simp only [Act.put, List.setIfInBounds_toArray, List.set_cons_zero, List.set_cons_succ]
              refine wpAnyH_ready (rs := [23]) (by kernel_rfl) (by simp) ?_
              refine AllReadyH.cons (o := ⟨_, _, _, _, _, _⟩) rfl (fun K hK => ?_) AllReadyH.nil
              go_simp
              refine (refFrom_row (b : Int) (RR _ M2.out.fr).out FR.out IB.out).mono ?_
              rintro e wx3 ⟨rfl, bx⟩
              rw [HFB.out]
              have M3 := Hid.of (M2.out.next bx)
              have D3 := Hid.of (D2.out.next bx)
              clear bx M2 D2
              clear hHeld d0 d1 d2 d3 d4 d5 d6 d7
              have d0 := (D3.out).head
              have d1 := ((D3.out).tail).head
              have d2 := (((D3.out).tail).tail).head
              have d3 := ((((D3.out).tail).tail).tail).head
              have d4 := (((((D3.out).tail).tail).tail).tail).head
              have d5 := ((((((D3.out).tail).tail).tail).tail).tail).head
              have d6 := (((((((D3.out).tail).tail).tail).tail).tail).tail).head
              have d7 := ((((((((D3.out).tail).tail).tail).tail).tail).tail).tail).head
              refine hK.out _ _ ⟨d0, d1, d2, d3, d4, d5, d6, d7⟩ (fun hHeld => ?_)
              clear hK K
              try simp only [Act.put, List.setIfInBounds_toArray, List.set_cons_zero, List.set_cons_succ]
              refine wpAnyH_take (i := 24) (oi := ⟨_, _, _, _, _, _⟩) (v := ?_) rfl (by kernel_rfl) (by kernel_rfl) (by kernel_rfl) (fun _ _ _ h => h) (Or.inl ⟨by rfl, ?_⟩) hHeld ?_
              rotate_left
              · intro w' hSw
                try dsimp only at hSw
                go_simp
                all_goals with_reducible rfl
              simp only [Act.put, List.setIfInBounds_toArray, List.set_cons_zero, List.set_cons_succ]
              refine wpAnyH_take (i := 25) (oi := ⟨_, _, _, _, _, _⟩) (v := ?_) rfl (by kernel_rfl) (by kernel_rfl) (by kernel_rfl) (fun _ _ _ h => h) (Or.inl ⟨by rfl, ?_⟩) hHeld ?_
              rotate_left
              · intro w' hSw
                try dsimp only at hSw
                go_simp
                all_goals with_reducible rfl
              simp only [Act.put, List.setIfInBounds_toArray, List.set_cons_zero, List.set_cons_succ]
              refine wpAnyH_take (i := 26) (oi := ⟨_, _, _, _, _, _⟩) (v := ?_) rfl (by kernel_rfl) (by kernel_rfl) (by kernel_rfl) (fun _ _ _ h => h) (Or.inl ⟨by rfl, ?_⟩) hHeld ?_
              rotate_left
              · intro w' hSw
                try dsimp only at hSw
                go_simp
                all_goals with_reducible rfl
              simp only [Act.put, List.setIfInBounds_toArray, List.set_cons_zero, List.set_cons_succ]
              refine wpAnyH_done (by kernel_rfl) ?_ _
              refine NoPanic.normal ?_
              clear hHeld d0 d1 d2 d3 d4 d5 d6 d7
              have MZ := M3
              clear M3 D3 D24
              by_cases hle : fi ≤ fb
              · have LE := Hid.of hle
                go_wp2
                go_roundg (PN - (i + 1))
                case measure => have := HIN.out; omega
                case rel => exact ⟨i + 1, i, i, by go_num, rfl, HIN.out, Nat.le_refl _, Hid.of (by have := HIN.out; have := NP.out; have := FP.out.1; omega), Hid.of (by rw [HE1.out, if_pos ⟨GO.out, LE.out⟩]), Hid.of (.inr ⟨by omega, rfl⟩), MZ⟩
              · have LE := Hid.of hle
                go_wp2
                go_roundg (PN - (i + 1))
                case measure => have := HIN.out; omega
                case rel => exact ⟨i + 1, b, b, by go_num, rfl, HIN.out, Nat.le_refl _, HB9, Hid.of (by rw [HE1.out, if_neg (fun c => by have h1 := LE.out; have h2 := c.2; omega)]), Hid.of (.inr ⟨by omega, rfl⟩), MZ⟩
          · have e7 : (ev.tmod ep == 0) = false := beq_eq_false_iff_ne.2 hrm
            have e8 : decide (ev.tmod ep = 0) = false := decide_eq_false hrm
            have GO : Hid (gOn ev ep = false) := Hid.of (by
              cases h : gOn ev ep with
              | false => rfl
              | true => exact absurd (gOn_tmod.1 h).2 hrm)
            have HI1 : Hid (1 ≤ i) := Hid.of (by
              by_cases c : i = 0
              · have := HEP.out.2.2 c
                subst this
                exact absurd (Int.tmod_one ev) hrm
              · omega)
            have HBE : Hid (bd = (b : Int)) := Hid.of (by
              rcases HBD.out with ⟨c, -, -⟩ | ⟨-, c⟩
              · have := HI1.out; omega
              · exact c)
            go_upto_region 15 with fail
            clear c3
            have bd := (Below.refl wr.heap.size wr).drew
            have MY := Hid.of (MI.out.next bd)
            have D0 := Hid.of (D24.out.next bd)
            clear bd MI
            have d0 := (D24.out).head
            have d1 := ((D24.out).tail).head
            have d2 := (((D24.out).tail).tail).head
            have d3 := ((((D24.out).tail).tail).tail).head
            have d4 := (((((D24.out).tail).tail).tail).tail).head
            have d5 := ((((((D24.out).tail).tail).tail).tail).tail).head
            have d6 := (((((((D24.out).tail).tail).tail).tail).tail).tail).head
            have d7 := ((((((((D24.out).tail).tail).tail).tail).tail).tail).tail).head
            refine wp_region_noPanic ?_
            refine wp_region_held_drew (S := fun w' => w'.cell? ⟨B + 2, 1, none⟩ = some (.slice (some ⟨tb, to_, none⟩) QN tc) ∧ w'.cell? ⟨tb, to_ + j * 4 + 1, none⟩ = some (.int .i64 ev) ∧ w'.cell? ⟨B, 1, none⟩ = some (.slice (some ⟨pb, po, none⟩) PN sc) ∧ w'.cell? ⟨pb, po + i * 4 + 1, none⟩ = some (.int .i64 ep) ∧ w'.cell? ⟨B + 1, 0, none⟩ = some (.int .i64 now) ∧ w'.cell? ⟨B + 1, 1, none⟩ = some (.string rn) ∧ w'.cell? ⟨B + 1, 2, none⟩ = some (rs) ∧ w'.cell? ⟨B + 1, 3, none⟩ = some (rf)) (by kernel_rfl) ?_ (fun hHeld => ?_)
            · exact ⟨d0, d1, d2, d3, d4, d5, d6, d7⟩
            refine wpAnyH_take (i := 0) (oi := ⟨_, _, _, _, _, _⟩) (v := ?_) rfl (by kernel_rfl) (by kernel_rfl) (by kernel_rfl) (fun _ _ _ h => h) (Or.inl ⟨by rfl, ?_⟩) hHeld ?_
            rotate_left
            · intro w' hSw
              try dsimp only at hSw
              go_simp
              all_goals with_reducible rfl
            simp only [Act.put, List.setIfInBounds_toArray, List.set_cons_zero, List.set_cons_succ]
            refine wpAnyH_take (i := 1) (oi := ⟨_, _, _, _, _, _⟩) (v := ?_) rfl (by kernel_rfl) (by kernel_rfl) (by kernel_rfl) (fun _ _ _ h => h) (Or.inl ⟨by rfl, ?_⟩) hHeld ?_
            rotate_left
            · intro w' hSw
              try dsimp only at hSw
              go_simp
              all_goals with_reducible rfl
            simp only [Act.put, List.setIfInBounds_toArray, List.set_cons_zero, List.set_cons_succ]
            refine wpAnyH_take (i := 2) (oi := ⟨_, _, _, _, _, _⟩) (v := ?_) rfl (by kernel_rfl) (by kernel_rfl) (by kernel_rfl) (fun _ _ _ h => h) (Or.inl ⟨by rfl, ?_⟩) hHeld ?_
            rotate_left
            · intro w' hSw
              try dsimp only at hSw
              go_simp
              all_goals with_reducible rfl
            simp only [Act.put, List.setIfInBounds_toArray, List.set_cons_zero, List.set_cons_succ]
            refine wpAnyH_take (i := 3) (oi := ⟨_, _, _, _, _, _⟩) (v := ?_) rfl (by kernel_rfl) (by kernel_rfl) (by kernel_rfl) (fun _ _ _ h => h) (Or.inl ⟨by rfl, ?_⟩) hHeld ?_
            rotate_left
            · intro w' hSw
              try dsimp only at hSw
              go_simp
              all_goals with_reducible rfl
            simp only [Act.put, List.setIfInBounds_toArray, List.set_cons_zero, List.set_cons_succ]
            refine wpAnyH_take (i := 4) (oi := ⟨_, _, _, _, _, _⟩) (v := ?_) rfl (by kernel_rfl) (by kernel_rfl) (by kernel_rfl) (fun _ _ _ h => h) (Or.inl ⟨by rfl, ?_⟩) hHeld ?_
            rotate_left
            · intro w' hSw
              try dsimp only at hSw
              go_simp
              all_goals with_reducible rfl
            simp only [Act.put, List.setIfInBounds_toArray, List.set_cons_zero, List.set_cons_succ]
            refine wpAnyH_take (i := 5) (oi := ⟨_, _, _, _, _, _⟩) (v := ?_) rfl (by kernel_rfl) (by kernel_rfl) (by kernel_rfl) (fun _ _ _ h => h) (Or.inl ⟨by rfl, ?_⟩) hHeld ?_
            rotate_left
            · intro w' hSw
              try dsimp only at hSw
              go_simp
              all_goals with_reducible rfl
            simp only [Act.put, List.setIfInBounds_toArray, List.set_cons_zero, List.set_cons_succ]
            refine wpAnyH_take (i := 6) (oi := ⟨_, _, _, _, _, _⟩) (v := ?_) rfl (by kernel_rfl) (by kernel_rfl) (by kernel_rfl) (fun _ _ _ h => h) (Or.inl ⟨by rfl, ?_⟩) hHeld ?_
            rotate_left
            · intro w' hSw
              try dsimp only at hSw
              go_simp
              all_goals with_reducible rfl
            simp only [Act.put, List.setIfInBounds_toArray, List.set_cons_zero, List.set_cons_succ]
            refine wpAnyH_take (i := 7) (oi := ⟨_, _, _, _, _, _⟩) (v := ?_) rfl (by kernel_rfl) (by kernel_rfl) (by kernel_rfl) (fun _ _ _ h => h) (Or.inl ⟨by rfl, ?_⟩) hHeld ?_
            rotate_left
            · intro w' hSw
              try dsimp only at hSw
              go_simp
              all_goals with_reducible rfl
            simp only [Act.put, List.setIfInBounds_toArray, List.set_cons_zero, List.set_cons_succ]
            refine wpAnyH_take (i := 8) (oi := ⟨_, _, _, _, _, _⟩) (v := ?_) rfl (by kernel_rfl) (by kernel_rfl) (by kernel_rfl) (fun _ _ _ h => h) (Or.inl ⟨by rfl, ?_⟩) hHeld ?_
            rotate_left
            · intro w' hSw
              try dsimp only at hSw
              go_simp
              all_goals with_reducible rfl
            simp only [Act.put, List.setIfInBounds_toArray, List.set_cons_zero, List.set_cons_succ]
            refine wpAnyH_take (i := 9) (oi := ⟨_, _, _, _, _, _⟩) (v := ?_) rfl (by kernel_rfl) (by kernel_rfl) (by kernel_rfl) (fun _ _ _ h => h) (Or.inl ⟨by rfl, ?_⟩) hHeld ?_
            rotate_left
            · intro w' hSw
              try dsimp only at hSw
              go_simp
              all_goals with_reducible rfl
            simp only [Act.put, List.setIfInBounds_toArray, List.set_cons_zero, List.set_cons_succ]
            refine wpAnyH_take (i := 10) (oi := ⟨_, _, _, _, _, _⟩) (v := ?_) rfl (by kernel_rfl) (by kernel_rfl) (by kernel_rfl) (fun _ _ _ h => h) (Or.inl ⟨by rfl, ?_⟩) hHeld ?_
            rotate_left
            · intro w' hSw
              try dsimp only at hSw
              go_simp
              all_goals with_reducible rfl
            simp only [Act.put, List.setIfInBounds_toArray, List.set_cons_zero, List.set_cons_succ]
            refine wpAnyH_take (i := 11) (oi := ⟨_, _, _, _, _, _⟩) (v := ?_) rfl (by kernel_rfl) (by kernel_rfl) (by kernel_rfl) (fun _ _ _ h => h) (Or.inl ⟨by rfl, ?_⟩) hHeld ?_
            rotate_left
            · intro w' hSw
              try dsimp only at hSw
              go_simp
              all_goals with_reducible rfl
            simp only [Act.put, List.setIfInBounds_toArray, List.set_cons_zero, List.set_cons_succ]
            refine wpAnyH_take (i := 12) (oi := ⟨_, _, _, _, _, _⟩) (v := ?_) rfl (by kernel_rfl) (by kernel_rfl) (by kernel_rfl) (fun _ _ _ h => h) (Or.inl ⟨by rfl, ?_⟩) hHeld ?_
            rotate_left
            · intro w' hSw
              try dsimp only at hSw
              go_simp
              all_goals with_reducible rfl
            simp only [Act.put, List.setIfInBounds_toArray, List.set_cons_zero, List.set_cons_succ]
            refine wpAnyH_take (i := 13) (oi := ⟨_, _, _, _, _, _⟩) (v := ?_) rfl (by kernel_rfl) (by kernel_rfl) (by kernel_rfl) (fun _ _ _ h => h) (Or.inl ⟨by rfl, ?_⟩) hHeld ?_
            rotate_left
            · intro w' hSw
              try dsimp only at hSw
              go_simp
              all_goals with_reducible rfl
            simp only [Act.put, List.setIfInBounds_toArray, List.set_cons_zero, List.set_cons_succ]
            refine wpAnyH_take (i := 14) (oi := ⟨_, _, _, _, _, _⟩) (v := ?_) rfl (by kernel_rfl) (by kernel_rfl) (by kernel_rfl) (fun _ _ _ h => h) (Or.inl ⟨by rfl, ?_⟩) hHeld ?_
            rotate_left
            · intro w' hSw
              try dsimp only at hSw
              go_simp
              all_goals with_reducible rfl
            simp only [Act.put, List.setIfInBounds_toArray, List.set_cons_zero, List.set_cons_succ]
            refine wpAnyH_take (i := 15) (oi := ⟨_, _, _, _, _, _⟩) (v := undef) rfl (by kernel_rfl) (by kernel_rfl) (by kernel_rfl) (fun _ _ _ h => h) (Or.inr ⟨by rfl, rfl⟩) hHeld ?_
            simp only [Act.put, List.setIfInBounds_toArray, List.set_cons_zero, List.set_cons_succ]
            refine wpAnyH_take (i := 16) (oi := ⟨_, _, _, _, _, _⟩) (v := undef) rfl (by kernel_rfl) (by kernel_rfl) (by kernel_rfl) (fun _ _ _ h => h) (Or.inr ⟨by rfl, rfl⟩) hHeld ?_
            simp only [Act.put, List.setIfInBounds_toArray, List.set_cons_zero, List.set_cons_succ]
            refine wpAnyH_take (i := 17) (oi := ⟨_, _, _, _, _, _⟩) (v := undef) rfl (by kernel_rfl) (by kernel_rfl) (by kernel_rfl) (fun _ _ _ h => h) (Or.inr ⟨by rfl, rfl⟩) hHeld ?_
            simp only [Act.put, List.setIfInBounds_toArray, List.set_cons_zero, List.set_cons_succ]
            refine wpAnyH_take (i := 18) (oi := ⟨_, _, _, _, _, _⟩) (v := undef) rfl (by kernel_rfl) (by kernel_rfl) (by kernel_rfl) (fun _ _ _ h => h) (Or.inr ⟨by rfl, rfl⟩) hHeld ?_
            simp only [Act.put, List.setIfInBounds_toArray, List.set_cons_zero, List.set_cons_succ]
            refine wpAnyH_take (i := 19) (oi := ⟨_, _, _, _, _, _⟩) (v := undef) rfl (by kernel_rfl) (by kernel_rfl) (by kernel_rfl) (fun _ _ _ h => h) (Or.inr ⟨by rfl, rfl⟩) hHeld ?_
            simp only [Act.put, List.setIfInBounds_toArray, List.set_cons_zero, List.set_cons_succ]
            refine wpAnyH_take (i := 20) (oi := ⟨_, _, _, _, _, _⟩) (v := undef) rfl (by kernel_rfl) (by kernel_rfl) (by kernel_rfl) (fun _ _ _ h => h) (Or.inr ⟨by rfl, rfl⟩) hHeld ?_
            simp only [Act.put, List.setIfInBounds_toArray, List.set_cons_zero, List.set_cons_succ]
            refine wpAnyH_take (i := 21) (oi := ⟨_, _, _, _, _, _⟩) (v := undef) rfl (by kernel_rfl) (by kernel_rfl) (by kernel_rfl) (fun _ _ _ h => h) (Or.inr ⟨by rfl, rfl⟩) hHeld ?_
            simp only [Act.put, List.setIfInBounds_toArray, List.set_cons_zero, List.set_cons_succ]
            refine wpAnyH_take (i := 22) (oi := ⟨_, _, _, _, _, _⟩) (v := undef) rfl (by kernel_rfl) (by kernel_rfl) (by kernel_rfl) (fun _ _ _ h => h) (Or.inr ⟨by rfl, rfl⟩) hHeld ?_
            simp only [Act.put, List.setIfInBounds_toArray, List.set_cons_zero, List.set_cons_succ]
            refine wpAnyH_take (i := 23) (oi := ⟨_, _, _, _, _, _⟩) (v := undef) rfl (by kernel_rfl) (by kernel_rfl) (by kernel_rfl) (fun _ _ _ h => h) (Or.inr ⟨by rfl, rfl⟩) hHeld ?_
            simp only [Act.put, List.setIfInBounds_toArray, List.set_cons_zero, List.set_cons_succ]
            refine wpAnyH_take (i := 24) (oi := ⟨_, _, _, _, _, _⟩) (v := undef) rfl (by kernel_rfl) (by kernel_rfl) (by kernel_rfl) (fun _ _ _ h => h) (Or.inr ⟨by rfl, rfl⟩) hHeld ?_
            simp only [Act.put, List.setIfInBounds_toArray, List.set_cons_zero, List.set_cons_succ]
            refine wpAnyH_take (i := 25) (oi := ⟨_, _, _, _, _, _⟩) (v := undef) rfl (by kernel_rfl) (by kernel_rfl) (by kernel_rfl) (fun _ _ _ h => h) (Or.inr ⟨by rfl, rfl⟩) hHeld ?_
            simp only [Act.put, List.setIfInBounds_toArray, List.set_cons_zero, List.set_cons_succ]
            refine wpAnyH_take (i := 26) (oi := ⟨_, _, _, _, _, _⟩) (v := ?_) rfl (by kernel_rfl) (by kernel_rfl) (by kernel_rfl) (fun _ _ _ h => h) (Or.inl ⟨by rfl, ?_⟩) hHeld ?_
            rotate_left
            · intro w' hSw
              try dsimp only at hSw
              go_simp
              all_goals with_reducible rfl
            simp only [Act.put, List.setIfInBounds_toArray, List.set_cons_zero, List.set_cons_succ]
            refine wpAnyH_done (by kernel_rfl) ?_ _
            refine NoPanic.normal ?_
            clear hHeld d0 d1 d2 d3 d4 d5 d6 d7
            have MZ := MY
            clear MY D0 D24
            go_wp2
            go_roundg (PN - (i + 1))
            case measure => have := HIN.out; omega
            case rel => exact ⟨i + 1, b, bd, by go_num, rfl, HIN.out, Nat.le_refl _, HB9, Hid.of (by rw [HE1.out, if_neg (fun c => by have := GO.out; rw [this] at c; exact absurd c.1 (by simp))]), Hid.of (.inr ⟨by have := HI1.out; omega, HBE.out⟩), MZ⟩
        · obtain rfl : i = PN := by omega
          have P1 : 1 ≤ i := by have := (pCheck_ok (mErr_zero E0.out).1).2.2.1; have := NP.out; omega
          obtain rfl : bd = (b : Int) := by
            rcases HBD.out with ⟨c, -, -⟩ | ⟨-, c⟩
            · omega
            · exact c
          have EB : Hid (mFur r ev p.2 = b) := Hid.of (by rw [HE.out, ← NP.out, List.drop_length]; rfl)
          have HX2 : Hid (xs ++ [(b : Int)] = (q.2.take (j + 1)).map fun x => ((mFur r x.2.1 p.2 : Nat) : Int)) := Hid.of (by
            rw [List.take_add_one, HTT.out, List.map_append, ← HX.out]
            show xs ++ [(b : Int)] = xs ++ [((mFur r ev p.2 : Nat) : Int)]
            rw [EB.out])
          obtain ⟨m0, m1, m2⟩ := dblk_at MI.out.k
          have hml := MI.out.lt
          clear HE EB HX HTT
          obtain ⟨w8, hw8⟩ : ∃ w8, wr.alloc (.cells #[.int .i64 (b : Int)] 3) = w8 := ⟨_, rfl⟩
          have b8 : Below wr.heap.size wr w8 := by rw [← hw8]; exact (Below.refl _ _).alloc (Nat.le_refl _) _
          have K8 : Hid (Cells w8 wr.heap.size 0 [.int .i64 (b : Int)]) := Hid.of (by rw [← hw8]; exact one_cell wr _ _)
          have M8 := Hid.of (MI.out.next b8)
          clear b8 hml MI
          go_wp2_with (at_builtin; (try rw [hw8]); refine append_keep_law rfl (.tmp 77) (.tmp 79) 25 rfl w1.heap.size 3 i0 _ 1 8 Tryz.underlying25 HI.out HZ0.out HZ1.out HZ2.out rfl (by decide) (.slice va j vc) j (xs.map (Value.int .i64)) rfl (by have := M8.out.of; rwa [HXL.out] at this) wr.heap.size 0 1 1 [.int .i64 (b : Int)] rfl K8.out rfl (by simp [Value.oneCell']) (by unfold maxLen; omega) (by omega) (by have := M8.out.hm; have := M8.out.lt; omega) ?_; intro v9 w9 o9 g9 _ m9; obtain ⟨a9, c9, hv9, _⟩ := own_one o9; subst hv9; have O9 := Hid.of o9; have G9 := Hid.of g9; have M9 := Hid.of m9; have z9 : DBlk13 w9 m qn (.slice (some ⟨tb, to_, none⟩) QN tc) (.slice va j vc) := (g9.block m M8.out.lt (fun c => M8.out.mf c.symm)).trans M8.out.k; have f9 : w9.frozen? ⟨m, 2, none⟩ = false := row_frozen z9; have e9 : w9.cell? ⟨m, 2, none⟩ = some (.slice va j vc) := (dblk_at z9).2.2; clear o9 g9 m9 z9)
          have MZ := Hid.of (M8.out.more (Below.refl _ _) G9.out (fv' := .slice a9 (j + 1) c9) (w2 := w9) (by rw [HXL.out]; exact O9.out) M9.out)
          go_roundg (QN - (j + 1))
          case measure => have := HJ.out; omega
          case rel => exact ⟨j + 1, _, xs ++ [(b : Int)], by go_num, HJ.out, Nat.le_refl _, HX2, Hid.of (by rw [List.length_append, HXL.out]; rfl), MZ⟩
    · obtain rfl : j = QN := by omega
      obtain ⟨va, vc, rfl, -⟩ := own_one M.out.of
      rw [HXL.out] at M
      have HXE : Hid (mMake p r q = (q, xs)) := Hid.of (by rw [mMake_ok E0.out, HX.out, ← NQ.out, List.take_length])
      obtain ⟨q0, q1, q2⟩ := dblk_at M.out.k
      have f0 := row_frozen (i := 0) M.out.kz
      have f1 := row_frozen (i := 1) M.out.kz
      have f2 := row_frozen (i := 2) M.out.kz
      obtain ⟨t0, t1, t2⟩ := dblk_at M.out.kz
      have KZ := dblk_set (n' := qn) (s' := .slice ta j tc) (f' := .slice va j vc) M.out.kz
      have gz := setL_grown wr (B + 3) qn (.slice ta j tc) (.slice va j vc)
      have OF : Hid ((setL wr (B + 3) qn (.slice ta j tc) (.slice va j vc)).ownsRow w1.heap.size 3 1 (.slice va j vc) xs.length (xs.map (Value.int .i64))) := Hid.of (by
        have hh := M.out.of
        refine ⟨hh.1, ?_⟩
        rcases hh.2 with c | ⟨g', cap, cur, ev, hB', hrow, rest⟩
        · exact .inl c
        · refine .inr ⟨g', cap, cur, ev, hB', ?_, rest⟩
          rw [gz.block g' (Array.getElem?_eq_some_iff.1 hrow).1 (fun c => by have := Option.some.inj c; have := Z1.out; omega)]
          exact hrow)
      have BZ : Hid (Below w.heap.size w (setL wr (B + 3) qn (.slice ta j tc) (.slice va j vc))) := Hid.of (M.out.fr.grown gz M.out.fr.size (fun k hk => by cases hk; have := HBB.out; omega))
      have OO : Hid (PlanRow (setL wr (B + 3) qn (.slice ta j tc) (.slice va j vc)) (.agg #[.string qn, .slice ta j tc, .slice va j vc]) (q, xs)) := Hid.of
        ⟨_, _, by unfold plVal; rw [← HN.out], by rw [NQ.out]; exact HS3.out.kept BZ.out, own_row OF.out, HC3.out, own_cap OF.out⟩
      obtain ⟨r0, r1, r2⟩ := dblk_at KZ
      clear KZ gz OF
      unfold setL at r0 r1 r2 BZ OO
      go_wp2
      refine bodyPost_ret (v := .tuple #[.agg #[.string qn, .slice ta j tc, .slice va j vc], .int .i64 0]) ?_ rfl ⟨.agg #[.string qn, .slice ta j tc, .slice va j vc], by rw [E0.out], by rw [HXE.out]; exact OO.out, BZ.out⟩
      simp [results, Tryz.results14, go_sem, r0, r1, r2]

end Go.Proofs.YtbhcafginmkaaaaGreat
