/-
  PlanSources: each tier's source divides it, and none that divides it reaches farther; its base is on its grid, less than one bucket above what the source reaches.
-/
import Derived.Test.YtiomoobeklpkmaaQSTq
namespace Go.Proofs.Ytiomoobeklpkmaa
open Go.RowKit Go.Lib

/-- Two policies that came in, a Reach and a plan, in variables. -/
structure SSo (w0 : World) (Z rb y : Nat) (fn tn : ByteArray) (fs ts : Value) (now : Int) (rn : ByteArray) (rs rf : Value) (pn : ByteArray) (ps pf : Value) (r : RchL) (pl : PlanL) (w : World) : Prop where
  cs : Dc w [(⟨Z, 0, none⟩, .string fn), (⟨Z, 1, none⟩, fs), (⟨Z + 1, 0, none⟩, .string tn), (⟨Z + 1, 1, none⟩, ts), (⟨rb, 0, none⟩, .int .i64 now), (⟨rb, 1, none⟩, .string rn), (⟨rb, 2, none⟩, rs), (⟨rb, 3, none⟩, rf), (⟨y, 0, none⟩, .string pn), (⟨y, 1, none⟩, ps), (⟨y, 2, none⟩, pf)]
  r_ : RchRow w (.agg #[.int .i64 now, .string rn, rs, rf]) r
  l : PlanRow w (.agg #[.string pn, ps, pf]) pl
  fr : Below w0.heap.size w0 w

section
variable {w0 w w' : World} {Z rb y : Nat} {fn tn rn pn : ByteArray} {fs ts rs rf ps pf : Value} {now : Int} {r : RchL} {pl : PlanL}
theorem SSo.next (h : SSo w0 Z rb y fn tn fs ts now rn rs rf pn ps pf r pl w) (b : Below w.heap.size w w') : SSo w0 Z rb y fn tn fs ts now rn rs rf pn ps pf r pl w' := ⟨h.cs.next b, h.r_.kept b, h.l.kept b, h.fr.trans (b.mono h.fr.size)⟩
theorem SSo.fat (h : SSo w0 Z rb y fn tn fs ts now rn rs rf pn ps pf r pl w) : w.cell? ⟨Z, 1, none⟩ = some fs := h.cs.tail.head
theorem SSo.tat (h : SSo w0 Z rb y fn tn fs ts now rn rs rf pn ps pf r pl w) : w.cell? ⟨Z + 1, 1, none⟩ = some ts := h.cs.tail.tail.tail.head
theorem SSo.rat (h : SSo w0 Z rb y fn tn fs ts now rn rs rf pn ps pf r pl w) : w.cell? ⟨rb, 0, none⟩ = some (.int .i64 now) ∧ w.cell? ⟨rb, 1, none⟩ = some (.string rn) ∧ w.cell? ⟨rb, 2, none⟩ = some rs ∧ w.cell? ⟨rb, 3, none⟩ = some rf :=
  ⟨h.cs.tail.tail.tail.tail.head, h.cs.tail.tail.tail.tail.tail.head, h.cs.tail.tail.tail.tail.tail.tail.head, h.cs.tail.tail.tail.tail.tail.tail.tail.head⟩
theorem SSo.lat (h : SSo w0 Z rb y fn tn fs ts now rn rs rf pn ps pf r pl w) : w.cell? ⟨y, 0, none⟩ = some (.string pn) ∧ w.cell? ⟨y, 1, none⟩ = some ps ∧ w.cell? ⟨y, 2, none⟩ = some pf :=
  ⟨h.cs.tail.tail.tail.tail.tail.tail.tail.tail.head, h.cs.tail.tail.tail.tail.tail.tail.tail.tail.tail.head, h.cs.tail.tail.tail.tail.tail.tail.tail.tail.tail.tail.head⟩
end

set_option maxRecDepth 20000 in
set_option maxHeartbeats 12800000 in
theorem planSources_main (v tv gv : Value) (p q : PolL) (now : Int) (fl : List Int) (w : World) (hv : PolRow w v p) (hp : ∀ x ∈ p.2, TIn x) (ht : PolRow w tv q) (hq : ∀ x ∈ q.2, TIn x) (hnow : In64 now) (hg : NumRow .i64 w gv fl) (hgc : CapOk gv) (hfl : ∀ x ∈ fl, In64 x) :
    Calls Try.prog 4 #[v, tv, .int .i64 now, gv] w fun e w' => e = .returned (.bool true) ∧ Below w.heap.size w w' := by
  have HV := Hid.of hv
  have HT := Hid.of ht
  have HP := Hid.of hp
  have HQ := Hid.of hq
  have HNW := Hid.of hnow
  have HFL := Hid.of hfl
  have HGC := Hid.of hgc
  have HG := Hid.of (NumRow.cells' hg)
  obtain ⟨ga, gc, rfl, -⟩ := hg
  obtain ⟨s1, rfl, hs1, -⟩ := hv
  obtain ⟨s2, rfl, hs2, -⟩ := ht
  have HS1 := Hid.of hs1
  have HS2 := Hid.of hs2
  obtain ⟨sa, sc, rfl, -⟩ := hs1
  obtain ⟨ta, tc, rfl, -⟩ := hs2
  obtain ⟨fn, hfn⟩ : ∃ n, p.1 = n := ⟨_, rfl⟩
  obtain ⟨tn, htn⟩ : ∃ n, q.1 = n := ⟨_, rfl⟩
  obtain ⟨PN, hPN⟩ : ∃ N, p.2.length = N := ⟨_, rfl⟩
  obtain ⟨N, hN⟩ : ∃ N, q.2.length = N := ⟨_, rfl⟩
  obtain ⟨M, hM⟩ : ∃ M, fl.length = M := ⟨_, rfl⟩
  rw [hfn, hPN] at HV
  rw [htn, hN] at HT
  rw [hPN] at HS1
  rw [hN] at HS2
  rw [hM] at HG HGC
  rw [hfn, htn, hPN, hN, hM]
  obtain ⟨Z, hZ⟩ : ∃ Z, w.heap.size = Z := ⟨_, rfl⟩
  obtain ⟨w1, hw1⟩ : ∃ w1, (w.alloc (.cells #[.string fn, .slice sa PN sc] 24)).alloc (.cells #[.string tn, .slice ta N tc] 24) = w1 := ⟨_, rfl⟩
  have htwo : Below w.heap.size w w1 ∧ w1.heap[Z]? = some (.cells #[.string fn, .slice sa PN sc] 24 (0, 0)) ∧ w1.heap[Z + 1]? = some (.cells #[.string tn, .slice ta N tc] 24 (0, 0)) := by
    rw [← hw1, ← hZ]
    obtain ⟨wa, ha⟩ : ∃ wa, w.alloc (.cells #[.string fn, .slice sa PN sc] 24) = wa := ⟨_, rfl⟩
    have a0 : wa.heap[w.heap.size]? = some (.cells #[.string fn, .slice sa PN sc] 24 (0, 0)) := by rw [← ha]; exact (MapKept.heap_alloc w _).1
    have asz : wa.heap.size = w.heap.size + 1 := by rw [← ha]; simp
    have ab : Below w.heap.size w wa := by rw [← ha]; exact (Below.refl _ _).alloc (Nat.le_refl _) _
    rw [ha]
    obtain ⟨wb, hb⟩ : ∃ wb, wa.alloc (.cells #[.string tn, .slice ta N tc] 24) = wb := ⟨_, rfl⟩
    have b0 : wb.heap[w.heap.size + 1]? = some (.cells #[.string tn, .slice ta N tc] 24 (0, 0)) := by rw [← hb, ← asz]; exact (MapKept.heap_alloc wa _).1
    have bb : Below wa.heap.size wa wb := by rw [← hb]; exact (Below.refl _ _).alloc (Nat.le_refl _) _
    rw [hb]
    exact ⟨ab.trans (bb.mono (by omega)), by rw [bb.block _ (by omega)]; exact a0, b0⟩
  obtain ⟨b1, k0, k1⟩ := htwo
  have CS1 : Hid (Dc w1 [(⟨Z, 0, none⟩, .string fn), (⟨Z, 1, none⟩, .slice sa PN sc), (⟨Z + 1, 0, none⟩, .string tn), (⟨Z + 1, 1, none⟩, .slice ta N tc)]) := Hid.of (Dc.app (Dc.one k0 (i := 0) rfl) (Dc.app (Dc.one k0 (i := 1) rfl) (Dc.app (Dc.one k1 (i := 0) rfl) (Dc.one k1 (i := 1) rfl))))
  have B1 := Hid.of b1
  have HW := Hid.of hw1
  have HZ := Hid.of hZ
  have NP := Hid.of hPN
  have NQ := Hid.of hN
  have NM := Hid.of hM
  clear hw1 b1 k0 k1 hZ hN hPN hM hfn htn hp hq hnow hfl hgc
  have BAD : Hid (∀ w9, Below w.heap.size w w9 → Calls Try.prog 6 #[] w9 fun e w' => e = .returned (.bool true) ∧ Below w.heap.size w w') := Hid.of (fun w9 h => by
    refine (planAlive_any w9).mono ?_
    rintro e w' ⟨he, b⟩
    exact ⟨he, h.trans (b.mono h.size)⟩)
  obtain ⟨c0, c1⟩ : w1.cell? ⟨Z, 0, none⟩ = some (.string fn) ∧ w1.cell? ⟨Z, 1, none⟩ = some (.slice sa PN sc) := ⟨CS1.out.head, CS1.out.tail.head⟩
  go_enter Try.func4, Try.ntmps4
  go_upto_region 1 with fail
  rw [HW.out, HZ.out]
  clear HW
  go_wp2_with fail
  refine (Small_any _ p _ (HV.out.kept B1.out)).mono ?_
  rintro e w2 ⟨r, rfl, hr, b2⟩
  have B2 := Hid.of (B1.out.trans (b2.mono B1.out.size))
  have CS2 := Hid.of (CS1.out.next b2)
  clear b2 B1 CS1 c0 c1
  obtain ⟨c0, c1⟩ : w2.cell? ⟨Z + 1, 0, none⟩ = some (.string tn) ∧ w2.cell? ⟨Z + 1, 1, none⟩ = some (.slice ta N tc) := ⟨CS2.out.tail.tail.head, CS2.out.tail.tail.tail.head⟩
  cases r with
  | false =>
    go_wp2_with fail
    refine (BAD.out _ B2.out).mono ?_
    rintro e w3 ⟨rfl, b3⟩
    go_wp2
    go_ret
    exact ⟨rfl, b3⟩
  | true =>
    have SM := Hid.of (hr.out rfl)
    have SP := Hid.of (fit_of HP.out (hr.out rfl))
    clear hr
    go_wp2_with fail
    refine (Small_any _ q _ (HT.out.kept B2.out)).mono ?_
    rintro e w3 ⟨r, rfl, hr, b3⟩
    have B3 := Hid.of (B2.out.trans (b3.mono B2.out.size))
    have CS3 := Hid.of (CS2.out.next b3)
    clear b3 B2 CS2 c0 c1
    by_cases hok : r = true ∧ M ≤ 10 ∧ 0 ≤ now ∧ now ≤ 1099511627776
    case neg =>
      have hk : r = false ∨ (r = true ∧ (10 : Int) < (M : Int)) ∨ (r = true ∧ ¬ (10 : Int) < (M : Int) ∧ now < 0) ∨ (r = true ∧ ¬ (10 : Int) < (M : Int) ∧ ¬ now < 0 ∧ 1099511627776 < now) := by
        cases r
        · exact .inl rfl
        · right
          simp only [true_and] at hok ⊢
          omega
      clear hok hr
      rcases hk with rfl | ⟨rfl, h1⟩ | ⟨rfl, h1, h2⟩ | ⟨rfl, h1, h2, h3⟩
      all_goals
        go_wp2_with fail
        refine (BAD.out _ B3.out).mono ?_
        rintro e w4 ⟨rfl, b4⟩
        go_wp2
        go_ret
        exact ⟨rfl, b4⟩
    obtain ⟨rfl, hM10, hn0, hn1⟩ := hok
    have SMQ := Hid.of (hr.out rfl)
    have SQ := Hid.of (fit_of HQ.out (hr.out rfl))
    have M10 := Hid.of hM10
    have N0 := Hid.of hn0
    have N1 := Hid.of hn1
    have m1 : decide ((10 : Int) < (M : Int)) = false := decide_eq_false (by omega)
    have m2 : decide (now < 0) = false := decide_eq_false (by omega)
    have m3 : decide (1099511627776 < now) = false := decide_eq_false (by omega)
    clear hr
    go_upto_region 4 with fail
    clear m1 m2 m3 hn0 hn1
    go_loopg [9] M (fun kx iv wr => ∃ (i : Nat), iv = .int .i64 i ∧ i ≤ M ∧ M - i ≤ kx ∧ Hid (∀ x ∈ fl.take i, 0 ≤ x ∧ x ≤ 2199023255552) ∧ Hid (Dc wr [(⟨Z, 0, none⟩, .string fn), (⟨Z, 1, none⟩, .slice sa PN sc), (⟨Z + 1, 0, none⟩, .string tn), (⟨Z + 1, 1, none⟩, .slice ta N tc)]) ∧ Hid (Below w.heap.size w wr))
    case atStart => exact ⟨0, rfl, Nat.zero_le _, Nat.le_refl _, Hid.of (by simp), CS3, B3⟩
    case round =>
      clear CS3 B3
      obtain ⟨i, rfl, hi, hk, HA, CS, HB⟩ := hrel
      have i0 : (0 : Int) ≤ (i : Int) := Int.natCast_nonneg _
      by_cases hlt : (i : Int) < (M : Int)
      · obtain ⟨gb, go, hga, -, hgx⟩ := int_at (HG.out.kept HB.out) i (by rw [NM.out]; omega) NM.out.symm
        subst hga
        obtain ⟨x, hx⟩ : ∃ x, fl.getD i 0 = x := ⟨_, rfl⟩
        have HX := Hid.of hx
        rw [hx] at hgx
        have HI : Hid (i < M) := Hid.of (by omega)
        clear hx
        by_cases hbx : 0 ≤ x ∧ x ≤ 2199023255552
        · have x1 : ¬ x < 0 := by omega
          have x2 : ¬ 2199023255552 < x := by omega
          have HBX := Hid.of hbx
          have HA2 : Hid (∀ z ∈ fl.take (i + 1), 0 ≤ z ∧ z ≤ 2199023255552) := Hid.of (fun z hz => by
            rw [List.take_add_one, List.mem_append] at hz
            rcases hz with hz | hz
            · exact HA.out z hz
            · have h1 := HX.out
              rw [List.getD_eq_getElem?_getD] at h1
              cases h2 : fl[i]? with
              | none => rw [h2] at hz; simp at hz
              | some u =>
                rw [h2] at hz h1
                simp only [Option.toList_some, List.mem_singleton] at hz
                have : u = x := h1
                have := HBX.out
                omega)
          clear hbx
          go_wp2
          go_roundg (M - (i + 1))
          case measure => have := HI.out; omega
          case rel => exact ⟨i + 1, by go_num, HI.out, Nat.le_refl _, HA2, CS, HB⟩
        · have hbx2 : x < 0 ∨ (¬ x < 0 ∧ 2199023255552 < x) := by omega
          clear hbx
          rcases hbx2 with h1 | ⟨h1, h2⟩
          all_goals
            go_wp2_with fail
            refine (BAD.out _ HB.out).mono ?_
            rintro e w4 ⟨rfl, b4⟩
            go_wp2
            go_ret
            exact ⟨rfl, b4⟩
      · obtain rfl : i = M := by omega
        have FLB : Hid (∀ x ∈ fl, 0 ≤ x ∧ x ≤ 2199023255552) := Hid.of (by have := HA.out; rwa [← NM.out, List.take_length] at this)
        clear HA
        have FT : Hid (RFit (now, p, fl)) := Hid.of ⟨HNW.out, SP.out, by show fl.length ≤ _; rw [NM.out]; have := M10.out; omega, HFL.out⟩
        obtain ⟨c0, c1⟩ : wr.cell? ⟨Z, 0, none⟩ = some (.string fn) ∧ wr.cell? ⟨Z, 1, none⟩ = some (.slice sa PN sc) := ⟨CS.out.head, CS.out.tail.head⟩
        have hof := reaches.of _ (.slice ga i gc) p now fl wr trivial FT.out (HV.out.kept HB.out) (by rw [NM.out]; exact HG.out.kept HB.out) HGC.out
        go_wp2_with fail
        refine hof.mono ?_
        rintro e w4 ⟨u, rfl, ou, b4⟩
        clear hof
        have rr := OwnRch.row ou
        obtain ⟨rs, rf, rfl, o1, o2, -⟩ := ou
        obtain ⟨rsa, rsc, rfl, -⟩ := own_one o1
        obtain ⟨rfa, rfc, rfl, -⟩ := own_one o2
        clear o1 o2
        unfold rVal at rr ⊢
        simp only at rr ⊢
        obtain ⟨rn, hrn⟩ : ∃ n, p.1 = n := ⟨_, rfl⟩
        rw [hrn, NP.out, NM.out] at rr ⊢
        have R4 := Hid.of rr
        have CS4 := Hid.of (CS.out.next b4)
        have B4 := Hid.of (HB.out.trans (b4.mono HB.out.size))
        clear b4 CS HB rr hrn c0 c1
        obtain ⟨rb, hrb⟩ : ∃ x, w4.heap.size = x := ⟨_, rfl⟩
        obtain ⟨w5, hw5⟩ : ∃ x, w4.alloc (.cells #[.int .i64 now, .string rn, .slice rsa PN rsc, .slice rfa i rfc] 35) = x := ⟨_, rfl⟩
        have b5 : Below w4.heap.size w4 w5 := by rw [← hw5]; exact (Below.refl _ _).alloc (Nat.le_refl _) _
        have k5 : w5.heap[rb]? = some (.cells #[.int .i64 now, .string rn, .slice rsa PN rsc, .slice rfa i rfc] 35 (0, 0)) := by rw [← hw5, ← hrb]; exact (MapKept.heap_alloc w4 _).1
        have CS5 : Hid (Dc w5 [(⟨Z, 0, none⟩, .string fn), (⟨Z, 1, none⟩, .slice sa PN sc), (⟨Z + 1, 0, none⟩, .string tn), (⟨Z + 1, 1, none⟩, .slice ta N tc), (⟨rb, 0, none⟩, .int .i64 now), (⟨rb, 1, none⟩, .string rn), (⟨rb, 2, none⟩, .slice rsa PN rsc), (⟨rb, 3, none⟩, .slice rfa i rfc)]) := Hid.of (Dc.app (CS4.out.next b5) (Dc.app (Dc.one k5 (i := 0) rfl) (Dc.app (Dc.one k5 (i := 1) rfl) (Dc.app (Dc.one k5 (i := 2) rfl) (Dc.one k5 (i := 3) rfl)))))
        have R5 := Hid.of (R4.out.kept b5)
        have B5 := Hid.of (B4.out.trans (b5.mono B4.out.size))
        have HW := Hid.of hw5
        have HRB := Hid.of hrb
        clear hw5 hrb b5 k5 CS4 R4 B4
        go_upto_region 9 with fail
        rw [HW.out, HRB.out]
        clear HW HRB
        obtain ⟨er, her⟩ : ∃ er, mErr p q = er := ⟨_, rfl⟩
        obtain ⟨pl, hpl⟩ : ∃ pl, mMake p (now, p, fl) q = pl := ⟨_, rfl⟩
        have MK : Hid (mErr p q = er ∧ mMake p (now, p, fl) q = pl) := Hid.of ⟨her, hpl⟩
        obtain ⟨LN, hLN⟩ : ∃ n, pl.1.2.length = n := ⟨_, rfl⟩
        obtain ⟨LM, hLM⟩ : ∃ n, pl.2.length = n := ⟨_, rfl⟩
        have LL : Hid (pl.1.2.length = LN ∧ pl.2.length = LM) := Hid.of ⟨hLN, hLM⟩
        have hmk := make_any _ _ _ p q (now, p, fl) w5 SP.out SQ.out FT.out (HV.out.kept B5.out) R5.out (HT.out.kept B5.out)
        rw [her, hpl] at hmk
        clear her hpl hLN hLM
        obtain ⟨c0, c1⟩ : w5.cell? ⟨Z, 0, none⟩ = some (.string fn) ∧ w5.cell? ⟨Z, 1, none⟩ = some (.slice sa PN sc) := ⟨CS5.out.head, CS5.out.tail.head⟩
        obtain ⟨c2, c3⟩ : w5.cell? ⟨Z + 1, 0, none⟩ = some (.string tn) ∧ w5.cell? ⟨Z + 1, 1, none⟩ = some (.slice ta N tc) := ⟨CS5.out.tail.tail.head, CS5.out.tail.tail.tail.head⟩
        obtain ⟨c4, c5⟩ : w5.cell? ⟨rb, 0, none⟩ = some (.int .i64 now) ∧ w5.cell? ⟨rb, 1, none⟩ = some (.string rn) := ⟨CS5.out.tail.tail.tail.tail.head, CS5.out.tail.tail.tail.tail.tail.head⟩
        obtain ⟨c6, c7⟩ : w5.cell? ⟨rb, 2, none⟩ = some (.slice rsa PN rsc) ∧ w5.cell? ⟨rb, 3, none⟩ = some (.slice rfa i rfc) := ⟨CS5.out.tail.tail.tail.tail.tail.tail.head, CS5.out.tail.tail.tail.tail.tail.tail.tail.head⟩
        go_wp2_with fail
        refine hmk.mono ?_
        rintro e w6 ⟨u, rfl, ou, b6⟩
        have lr := ou.row
        obtain ⟨ps, pf, rfl, hps, hpf, -⟩ := lr
        obtain ⟨psa, psc, rfl, -⟩ := hps
        obtain ⟨pfa, pfc, rfl, -⟩ := hpf
        have lr := ou.row
        unfold plVal at lr ⊢
        obtain ⟨pn, hpn⟩ : ∃ n, pl.1.1 = n := ⟨_, rfl⟩
        rw [hpn, LL.out.1, LL.out.2] at lr ⊢
        have L6 := Hid.of lr
        have CS6 := Hid.of (CS5.out.next b6)
        have R6 := Hid.of (R5.out.kept b6)
        have B6 := Hid.of (B5.out.trans (b6.mono B5.out.size))
        clear hmk ou lr b6 CS5 R5 B5 hpn c0 c1 c2 c3 c4 c5 c6 c7
        obtain ⟨y, hy⟩ : ∃ x, w6.heap.size = x := ⟨_, rfl⟩
        obtain ⟨w7, hw7⟩ : ∃ x, w6.alloc (.cells #[.string pn, .slice psa LN psc, .slice pfa LM pfc] 29) = x := ⟨_, rfl⟩
        have b7 : Below w6.heap.size w6 w7 := by rw [← hw7]; exact (Below.refl _ _).alloc (Nat.le_refl _) _
        have k7 : LBlk w7 y pn (.slice psa LN psc) (.slice pfa LM pfc) := by rw [← hw7, ← hy]; exact (MapKept.heap_alloc w6 _).1
        have H7 : Hid (SSo w Z rb y fn tn (.slice sa PN sc) (.slice ta N tc) now rn (.slice rsa PN rsc) (.slice rfa i rfc) pn (.slice psa LN psc) (.slice pfa LM pfc) (now, p, fl) pl w7) := Hid.of
          ⟨Dc.app (CS6.out.next b7) (Dc.app (Dc.one k7 (i := 0) rfl) (Dc.app (Dc.one k7 (i := 1) rfl) (Dc.one k7 (i := 2) rfl))), R6.out.kept b7, L6.out.kept b7, B6.out.trans (b7.mono B6.out.size)⟩
        have HW := Hid.of hw7
        have HY := Hid.of hy
        clear hw7 hy b7 k7 CS6 R6 L6 B6
        go_upto_region 10 with fail
        rw [HW.out, HY.out]
        clear HW HY
        have FM : Hid (MFit pl) := Hid.of (by
          rw [← MK.out.2]
          unfold mMake
          split
          · refine ⟨SQ.out, by rw [List.length_map]; exact SQ.out.1, fun x hx => ?_⟩
            obtain ⟨z, hz, rfl⟩ := List.mem_map.1 hx
            exact fur_in _ _ _ SP.out.1
          · exact ⟨⟨by simp, by decide, fun x hx => by cases hx⟩, by simp, fun x hx => by cases hx⟩)
        obtain ⟨l0, l1, l2⟩ := H7.out.lat
        by_cases he : er = 0
        case neg =>
          have he2 : (er == 0) = false := beq_eq_false_iff_ne.2 he
          have Z0 : Hid (LM = 0) := Hid.of (by rw [← LL.out.2, ← MK.out.2]; unfold mMake; rw [if_neg (by rw [MK.out.1]; exact he)]; rfl)
          go_wp2_with fail
          refine (planAlive_any _).mono ?_
          rintro e w8 ⟨rfl, b8⟩
          have H8 := Hid.of (H7.out.next b8)
          clear b8 H7 l0 l1 l2
          obtain ⟨l0, l1, l2⟩ := H8.out.lat
          have z0 := Z0.out
          subst z0
          go_wp2
          go_ret
          exact ⟨rfl, H8.out.fr⟩
        subst he
        obtain ⟨c4, c5, c6, c7⟩ := H7.out.rat
        go_wp2_with fail
        refine (bases_any _ _ pl (now, p, fl) w7 FM.out FT.out H7.out.l H7.out.r_).mono ?_
        rintro e w8 ⟨u, rfl, ou, b8⟩
        have H8 := Hid.of (H7.out.next b8)
        have PLE : Hid (pl = (q, q.2.map fun x => ((mFur (now, p, fl) x.2.1 p.2 : Nat) : Int))) := Hid.of (by rw [← MK.out.2, mMake_ok MK.out.1])
        have LMN : Hid (LM = N) := Hid.of (by rw [← LL.out.2, PLE.out, List.length_map, NQ.out])
        have UL : (mBases pl (now, p, fl)).length = N := by rw [mBases_len, PLE.out]; exact NQ.out
        obtain ⟨ua, uc, rfl, -⟩ := own_one ou
        rw [UL] at ou ⊢
        have UL2 := Hid.of UL
        have U8 : Hid (CellRow w8 (.slice ua N uc) N ((mBases pl (now, p, fl)).map (Value.int .i64))) := Hid.of (own_row ou)
        have z0 := LMN.out
        subst z0
        clear b8 H7 l0 l1 l2 c4 c5 c6 c7 ou UL
        obtain ⟨l0, l1, l2⟩ := H8.out.lat
        have tt := H8.out.tat
        have lm9 : (LM : Int) ≤ 1000000 := by have := SQ.out.1; rw [NQ.out] at this; omega
        have pn9 : (PN : Int) ≤ 1000000 := by have := SP.out.1; rw [NP.out] at this; omega
        go_upto_region 16 with fail
        clear l0 l1 l2 tt
        go_loopg [14] LM (fun kx jv wr => ∃ (j : Nat), jv = .int .i64 j ∧ j ≤ LM ∧ LM - j ≤ kx ∧ Hid (SSo w Z rb y fn tn (.slice sa PN sc) (.slice ta LM tc) now rn (.slice rsa PN rsc) (.slice rfa i rfc) pn (.slice psa LN psc) (.slice pfa LM pfc) (now, p, fl) pl wr) ∧ Hid (Below w8.heap.size w8 wr))
        case atStart => exact ⟨0, rfl, Nat.zero_le _, Nat.le_refl _, H8, Hid.of (Below.refl _ _)⟩
        case round =>
          clear H8
          obtain ⟨j, rfl, hj, hk, H, HB8⟩ := hrel
          have j0 : (0 : Int) ≤ (j : Int) := Int.natCast_nonneg _
          by_cases hlt : (j : Int) < (LM : Int)
          · as_aux_lemma =>
              obtain ⟨x, hx⟩ : ∃ x, q.2[j]? = some x := ⟨_, List.getElem?_eq_getElem (by have := NQ.out; omega)⟩
              obtain ⟨k, z, f, b, s1, s2, s3, s4, s5, s6, s7, s8, s9, s10, s11, s12, s13, s14⟩ := sources_facts MK.out.1 N0.out N1.out FLB.out hx
              have HJ : Hid (j < LM) := Hid.of (by omega)
              have HKS : Hid (pl.2.getD j 0 = (k : Int)) := Hid.of (by
                rw [PLE.out, List.getD_eq_getElem?_getD, List.getElem?_map, hx]
                show ((mFur (now, p, fl) x.2.1 p.2 : Nat) : Int) = _
                rw [s1])
              have HFK : Hid (rFrom (now, p, fl) (k : Int) = f) := Hid.of (by rw [rFrom_nat2]; exact s7)
              have HBK : Hid ((mBases pl (now, p, fl)).getD j 0 = b) := Hid.of (by
                have hb : (mBases pl (now, p, fl))[j]? = some (gCeil (rFrom (now, p, fl) (mSrc pl j)) x.2.1) := by
                  unfold mBases
                  rw [List.getElem?_mapIdx, PLE.out, hx]
                  rfl
                have hs : mSrc pl j = (k : Int) := by
                  unfold mSrc
                  rw [PLE.out, List.getElem?_map, hx]
                  show ((mFur (now, p, fl) x.2.1 p.2 : Nat) : Int) = _
                  rw [s1]
                rw [List.getD_eq_getElem?_getD, hb, hs, HFK.out, s10]
                rfl)
              have kP : k < PN := by have := (List.getElem?_eq_some_iff.1 s2).1; rw [NP.out] at this; exact this
              have HX := Hid.of hx
              have HZK := Hid.of s2
              have LEAST := Hid.of s14
              have HBF : Hid (0 ≤ f ∧ f ≤ 2199023255552 ∧ f ≤ b ∧ b - f < x.2.1 ∧ 1 ≤ x.2.1 ∧ x.2.1 ≤ 1000000) := Hid.of ⟨s8, s9, s12, s13, s5, s6⟩
              have HRM : Hid (x.2.1.tmod z.2.1 = 0 ∧ 1 ≤ z.2.1 ∧ b.tmod x.2.1 = 0) := Hid.of ⟨s4, s3, s11⟩
              clear s1 s2 s3 s4 s5 s6 s7 s8 s9 s10 s11 s12 s13 s14 hx
              obtain ⟨x0, ev, x2, sh⟩ := x
              obtain ⟨z0, zv, z2, zh⟩ := z
              simp only at HBF HRM LEAST
              -- what is read
              have lrow : CellRow wr (.slice pfa LM pfc) pl.2.length (pl.2.map (Value.int .i64)) := by
                obtain ⟨s', f', he, -, hf', -, -⟩ := H.out.l
                unfold plVal at he
                simp only [Value.agg.injEq, Array.mk.injEq, List.cons.injEq, and_true] at he
                rw [← he.2.2] at hf'
                exact hf'
              rw [LL.out.2] at lrow
              obtain ⟨lb, lo, hla, hlb, hlx⟩ := int_at lrow j (by rw [LL.out.2]; omega) LL.out.2.symm
              rw [HKS.out] at hlx
              subst hla
              have urow := U8.out.kept HB8.out
              obtain ⟨ub, uo, hua, hub, hux⟩ := int_at urow j (by rw [UL2.out]; omega) UL2.out.symm
              rw [HBK.out] at hux
              subst hua
              obtain ⟨sb, so, hsa, hsb, -, d1, -, -⟩ := p_at (HS1.out.kept H.out.fr) k _ HZK.out
              subst hsa
              obtain ⟨tb, to_, hta, htb, -, e1', -, -⟩ := p_at (HS2.out.kept H.out.fr) j _ HX.out
              subst hta
              simp only at d1 e1'
              obtain ⟨l0, l1, l2⟩ := H.out.lat
              have ff := H.out.fat
              have tt := H.out.tat
              have k0 : (0 : Int) ≤ (k : Int) := Int.natCast_nonneg _
              have k1 : (k : Int) < (PN : Int) := by omega
              have z1 : ¬ zv = 0 := by have := HRM.out.2.1; omega
              have z3 : ¬ ev = 0 := by have := HBF.out; omega
              have r1 : ev.tmod zv = 0 := HRM.out.1
              have r2 : b.tmod ev = 0 := HRM.out.2.2
              have KK := Hid.of kP
              obtain ⟨c4, c5, c6, c7⟩ := H.out.rat
              clear lrow urow hlb kP
              have e1 : decide ((k : Int) < 0) = false := decide_eq_false (by omega)
              have e2 : decide ((PN : Int) ≤ (k : Int)) = false := decide_eq_false (by omega)
              have e2' : decide (PN ≤ k) = false := decide_eq_false (by omega)
              have e5 : decide (b < f) = false := decide_eq_false (by have := HBF.out; omega)
              have e6 : decide (ev ≤ b - f) = false := decide_eq_false (by have := HBF.out; omega)
              have e7 : IntKind.i64.wrap (b - f) = b - f := by
                have := HBF.out
                simp [IntKind.wrap, IntKind.bits, IntKind.signed]
                omega
              have q1 : 0 ≤ f := HBF.out.1
              have q2 : f ≤ 2199023255552 := HBF.out.2.1
              have q3 : f ≤ b := HBF.out.2.2.1
              have q4 : b - f < ev := HBF.out.2.2.2.1
              have q5 : ev ≤ 1000000 := HBF.out.2.2.2.2.2
              have D19 : Hid (Dc wr [(⟨Z, 1, none⟩, .slice (some ⟨sb, so, none⟩) PN sc), (⟨Z + 1, 1, none⟩, .slice (some ⟨tb, to_, none⟩) LM tc), (⟨tb, to_ + j * 4 + 1, none⟩, .int .i64 ev), (⟨sb, so + k * 4 + 1, none⟩, .int .i64 zv), (⟨ub, uo + j, none⟩, .int .i64 b), (⟨rb, 0, none⟩, .int .i64 now), (⟨rb, 1, none⟩, .string rn), (⟨rb, 2, none⟩, .slice rsa PN rsc), (⟨rb, 3, none⟩, .slice rfa i rfc)]) := Hid.of
                (.cons H.out.cs.tail.lt ff (.cons H.out.cs.tail.tail.tail.lt tt (.cons htb e1' (.cons hsb d1 (.cons hub hux (.cons H.out.cs.tail.tail.tail.tail.lt c4 (.cons H.out.cs.tail.tail.tail.tail.tail.lt c5 (.cons H.out.cs.tail.tail.tail.tail.tail.tail.lt c6 (.cons H.out.cs.tail.tail.tail.tail.tail.tail.tail.lt c7 (Dc.nil _))))))))))
              go_upto_region 19 with fail
              clear l0 l1 l2 hlx hub hsb htb ff tt d1 e1' hux c4 c5 c6 c7
              have bd := (Below.refl wr.heap.size wr).drew
              have HD := Hid.of (H.out.next bd)
              have HBD := Hid.of (HB8.out.trans (bd.mono HB8.out.size))
              have DD := Hid.of (D19.out.next bd)
              clear bd
              have d0 := (D19.out).head
              have d1 := ((D19.out).tail).head
              have d2 := (((D19.out).tail).tail).head
              have d3 := ((((D19.out).tail).tail).tail).head
              have d4 := (((((D19.out).tail).tail).tail).tail).head
              have d5 := ((((((D19.out).tail).tail).tail).tail).tail).head
              have d6 := (((((((D19.out).tail).tail).tail).tail).tail).tail).head
              have d7 := ((((((((D19.out).tail).tail).tail).tail).tail).tail).tail).head
              have d8 := (((((((((D19.out).tail).tail).tail).tail).tail).tail).tail).tail).head
              refine wp_region_noPanic ?_
              refine wp_region_held_drew (S := fun w' => w'.cell? ⟨Z, 1, none⟩ = some (.slice (some ⟨sb, so, none⟩) PN sc) ∧ w'.cell? ⟨Z + 1, 1, none⟩ = some (.slice (some ⟨tb, to_, none⟩) LM tc) ∧ w'.cell? ⟨tb, to_ + j * 4 + 1, none⟩ = some (.int .i64 ev) ∧ w'.cell? ⟨sb, so + k * 4 + 1, none⟩ = some (.int .i64 zv) ∧ w'.cell? ⟨ub, uo + j, none⟩ = some (.int .i64 b) ∧ w'.cell? ⟨rb, 0, none⟩ = some (.int .i64 now) ∧ w'.cell? ⟨rb, 1, none⟩ = some (.string rn) ∧ w'.cell? ⟨rb, 2, none⟩ = some (.slice rsa PN rsc) ∧ w'.cell? ⟨rb, 3, none⟩ = some (.slice rfa i rfc)) (by kernel_rfl) ?_ (fun hHeld => ?_)
              · exact ⟨d0, d1, d2, d3, d4, d5, d6, d7, d8⟩
              refine wpAnyH_take (i := 0) (oi := ⟨_, _, _, _, _, _⟩) (v := ?_) rfl (by kernel_rfl) (by kernel_rfl) (by kernel_rfl) (fun _ _ _ h => h) (Or.inl ⟨by rfl, ?_⟩) hHeld ?_
              rotate_left
              · intro w' hSw
                try dsimp only at hSw
                go_simp
                all_goals with_reducible rfl
              simp only [Act.put, List.setIfInBounds_toArray, List.set_cons_zero, List.set_cons_succ]
              refine wpAnyH_take (i := 1) (oi := ⟨_, _, _, _, _, _⟩) (v := ?_) rfl (by kernel_rfl) (by kernel_rfl) (by kernel_rfl) (fun _ _ _ h => h) (Or.inl ⟨by rfl, ?_⟩) hHeld ?_
              rotate_left
              · intro w' hSw
                try dsimp only at hSw
                go_simp
                all_goals with_reducible rfl
              simp only [Act.put, List.setIfInBounds_toArray, List.set_cons_zero, List.set_cons_succ]
              refine wpAnyH_take (i := 2) (oi := ⟨_, _, _, _, _, _⟩) (v := ?_) rfl (by kernel_rfl) (by kernel_rfl) (by kernel_rfl) (fun _ _ _ h => h) (Or.inl ⟨by rfl, ?_⟩) hHeld ?_
              rotate_left
              · intro w' hSw
                try dsimp only at hSw
                go_simp
                all_goals with_reducible rfl
              simp only [Act.put, List.setIfInBounds_toArray, List.set_cons_zero, List.set_cons_succ]
              refine wpAnyH_take (i := 3) (oi := ⟨_, _, _, _, _, _⟩) (v := ?_) rfl (by kernel_rfl) (by kernel_rfl) (by kernel_rfl) (fun _ _ _ h => h) (Or.inl ⟨by rfl, ?_⟩) hHeld ?_
              rotate_left
              · intro w' hSw
                try dsimp only at hSw
                go_simp
                all_goals with_reducible rfl
              simp only [Act.put, List.setIfInBounds_toArray, List.set_cons_zero, List.set_cons_succ]
              refine wpAnyH_take (i := 4) (oi := ⟨_, _, _, _, _, _⟩) (v := ?_) rfl (by kernel_rfl) (by kernel_rfl) (by kernel_rfl) (fun _ _ _ h => h) (Or.inl ⟨by rfl, ?_⟩) hHeld ?_
              rotate_left
              · intro w' hSw
                try dsimp only at hSw
                go_simp
                all_goals with_reducible rfl
              simp only [Act.put, List.setIfInBounds_toArray, List.set_cons_zero, List.set_cons_succ]
              refine wpAnyH_take (i := 5) (oi := ⟨_, _, _, _, _, _⟩) (v := ?_) rfl (by kernel_rfl) (by kernel_rfl) (by kernel_rfl) (fun _ _ _ h => h) (Or.inl ⟨by rfl, ?_⟩) hHeld ?_
              rotate_left
              · intro w' hSw
                try dsimp only at hSw
                go_simp
                all_goals with_reducible rfl
              simp only [Act.put, List.setIfInBounds_toArray, List.set_cons_zero, List.set_cons_succ]
              refine wpAnyH_take (i := 6) (oi := ⟨_, _, _, _, _, _⟩) (v := ?_) rfl (by kernel_rfl) (by kernel_rfl) (by kernel_rfl) (fun _ _ _ h => h) (Or.inl ⟨by rfl, ?_⟩) hHeld ?_
              rotate_left
              · intro w' hSw
                try dsimp only at hSw
                go_simp
                all_goals with_reducible rfl
              simp only [Act.put, List.setIfInBounds_toArray, List.set_cons_zero, List.set_cons_succ]
              refine wpAnyH_take (i := 7) (oi := ⟨_, _, _, _, _, _⟩) (v := ?_) rfl (by kernel_rfl) (by kernel_rfl) (by kernel_rfl) (fun _ _ _ h => h) (Or.inl ⟨by rfl, ?_⟩) hHeld ?_
              rotate_left
              · intro w' hSw
                try dsimp only at hSw
                go_simp
                all_goals with_reducible rfl
              simp only [Act.put, List.setIfInBounds_toArray, List.set_cons_zero, List.set_cons_succ]
              refine wpAnyH_take (i := 8) (oi := ⟨_, _, _, _, _, _⟩) (v := ?_) rfl (by kernel_rfl) (by kernel_rfl) (by kernel_rfl) (fun _ _ _ h => h) (Or.inl ⟨by rfl, ?_⟩) hHeld ?_
              rotate_left
              · intro w' hSw
                try dsimp only at hSw
                go_simp
                all_goals with_reducible rfl
              simp only [Act.put, List.setIfInBounds_toArray, List.set_cons_zero, List.set_cons_succ]
              refine wpAnyH_take (i := 9) (oi := ⟨_, _, _, _, _, _⟩) (v := ?_) rfl (by kernel_rfl) (by kernel_rfl) (by kernel_rfl) (fun _ _ _ h => h) (Or.inl ⟨by rfl, ?_⟩) hHeld ?_
              rotate_left
              · intro w' hSw
                try dsimp only at hSw
                go_simp
                all_goals with_reducible rfl
              simp only [Act.put, List.setIfInBounds_toArray, List.set_cons_zero, List.set_cons_succ]
              refine wpAnyH_take (i := 10) (oi := ⟨_, _, _, _, _, _⟩) (v := ?_) rfl (by kernel_rfl) (by kernel_rfl) (by kernel_rfl) (fun _ _ _ h => h) (Or.inl ⟨by rfl, ?_⟩) hHeld ?_
              rotate_left
              · intro w' hSw
                try dsimp only at hSw
                go_simp
                all_goals with_reducible rfl
              simp only [Act.put, List.setIfInBounds_toArray, List.set_cons_zero, List.set_cons_succ]
              refine wpAnyH_take (i := 11) (oi := ⟨_, _, _, _, _, _⟩) (v := ?_) rfl (by kernel_rfl) (by kernel_rfl) (by kernel_rfl) (fun _ _ _ h => h) (Or.inl ⟨by rfl, ?_⟩) hHeld ?_
              rotate_left
              · intro w' hSw
                try dsimp only at hSw
                go_simp
                all_goals with_reducible rfl
              simp only [Act.put, List.setIfInBounds_toArray, List.set_cons_zero, List.set_cons_succ]
              refine wpAnyH_take (i := 12) (oi := ⟨_, _, _, _, _, _⟩) (v := ?_) rfl (by kernel_rfl) (by kernel_rfl) (by kernel_rfl) (fun _ _ _ h => h) (Or.inl ⟨by rfl, ?_⟩) hHeld ?_
              rotate_left
              · intro w' hSw
                try dsimp only at hSw
                go_simp
                all_goals with_reducible rfl
              simp only [Act.put, List.setIfInBounds_toArray, List.set_cons_zero, List.set_cons_succ]
              refine wpAnyH_take (i := 13) (oi := ⟨_, _, _, _, _, _⟩) (v := ?_) rfl (by kernel_rfl) (by kernel_rfl) (by kernel_rfl) (fun _ _ _ h => h) (Or.inl ⟨by rfl, ?_⟩) hHeld ?_
              rotate_left
              · intro w' hSw
                try dsimp only at hSw
                go_simp
                all_goals with_reducible rfl
              simp only [Act.put, List.setIfInBounds_toArray, List.set_cons_zero, List.set_cons_succ]
              refine wpAnyH_take (i := 14) (oi := ⟨_, _, _, _, _, _⟩) (v := ?_) rfl (by kernel_rfl) (by kernel_rfl) (by kernel_rfl) (fun _ _ _ h => h) (Or.inl ⟨by rfl, ?_⟩) hHeld ?_
              rotate_left
              · intro w' hSw
                try dsimp only at hSw
                go_simp
                all_goals with_reducible rfl
              simp only [Act.put, List.setIfInBounds_toArray, List.set_cons_zero, List.set_cons_succ]
              refine wpAnyH_take (i := 15) (oi := ⟨_, _, _, _, _, _⟩) (v := ?_) rfl (by kernel_rfl) (by kernel_rfl) (by kernel_rfl) (fun _ _ _ h => h) (Or.inl ⟨by rfl, ?_⟩) hHeld ?_
              rotate_left
              · intro w' hSw
                try dsimp only at hSw
                go_simp
                all_goals with_reducible rfl
              simp only [Act.put, List.setIfInBounds_toArray, List.set_cons_zero, List.set_cons_succ]
              refine wpAnyH_take (i := 16) (oi := ⟨_, _, _, _, _, _⟩) (v := ?_) rfl (by kernel_rfl) (by kernel_rfl) (by kernel_rfl) (fun _ _ _ h => h) (Or.inl ⟨by rfl, ?_⟩) hHeld ?_
              rotate_left
              · intro w' hSw
                try dsimp only at hSw
                go_simp
                all_goals with_reducible rfl
              simp only [Act.put, List.setIfInBounds_toArray, List.set_cons_zero, List.set_cons_succ]
              refine wpAnyH_take (i := 17) (oi := ⟨_, _, _, _, _, _⟩) (v := ?_) rfl (by kernel_rfl) (by kernel_rfl) (by kernel_rfl) (fun _ _ _ h => h) (Or.inl ⟨by rfl, ?_⟩) hHeld ?_
              rotate_left
              · intro w' hSw
                try dsimp only at hSw
                go_simp
                all_goals with_reducible rfl
              simp only [Act.put, List.setIfInBounds_toArray, List.set_cons_zero, List.set_cons_succ]
              refine wpAnyH_take (i := 18) (oi := ⟨_, _, _, _, _, _⟩) (v := ?_) rfl (by kernel_rfl) (by kernel_rfl) (by kernel_rfl) (fun _ _ _ h => h) (Or.inl ⟨by rfl, ?_⟩) hHeld ?_
              rotate_left
              · intro w' hSw
                try dsimp only at hSw
                go_simp
                all_goals with_reducible rfl
              simp only [Act.put, List.setIfInBounds_toArray, List.set_cons_zero, List.set_cons_succ]
              refine wpAnyH_take (i := 19) (oi := ⟨_, _, _, _, _, _⟩) (v := ?_) rfl (by kernel_rfl) (by kernel_rfl) (by kernel_rfl) (fun _ _ _ h => h) (Or.inl ⟨by rfl, ?_⟩) hHeld ?_
              rotate_left
              · intro w' hSw
                try dsimp only at hSw
                go_simp
                all_goals with_reducible rfl
              simp only [Act.put, List.setIfInBounds_toArray, List.set_cons_zero, List.set_cons_succ]
              refine wpAnyH_take (i := 20) (oi := ⟨_, _, _, _, _, _⟩) (v := ?_) rfl (by kernel_rfl) (by kernel_rfl) (by kernel_rfl) (fun _ _ _ h => h) (Or.inl ⟨by rfl, ?_⟩) hHeld ?_
              rotate_left
              · intro w' hSw
                try dsimp only at hSw
                go_simp
                all_goals with_reducible rfl
              simp only [Act.put, List.setIfInBounds_toArray, List.set_cons_zero, List.set_cons_succ]
              refine wpAnyH_take (i := 21) (oi := ⟨_, _, _, _, _, _⟩) (v := ?_) rfl (by kernel_rfl) (by kernel_rfl) (by kernel_rfl) (fun _ _ _ h => h) (Or.inl ⟨by rfl, ?_⟩) hHeld ?_
              rotate_left
              · intro w' hSw
                try dsimp only at hSw
                go_simp
                all_goals with_reducible rfl
              simp only [Act.put, List.setIfInBounds_toArray, List.set_cons_zero, List.set_cons_succ]
              refine wpAnyH_take (i := 22) (oi := ⟨_, _, _, _, _, _⟩) (v := ?_) rfl (by kernel_rfl) (by kernel_rfl) (by kernel_rfl) (fun _ _ _ h => h) (Or.inl ⟨by rfl, ?_⟩) hHeld ?_
              rotate_left
              · intro w' hSw
                try dsimp only at hSw
                go_simp
                all_goals with_reducible rfl
              simp only [Act.put, List.setIfInBounds_toArray, List.set_cons_zero, List.set_cons_succ]
              refine wpAnyH_take (i := 23) (oi := ⟨_, _, _, _, _, _⟩) (v := ?_) rfl (by kernel_rfl) (by kernel_rfl) (by kernel_rfl) (fun _ _ _ h => h) (Or.inl ⟨by rfl, ?_⟩) hHeld ?_
              rotate_left
              · intro w' hSw
                try dsimp only at hSw
                go_simp
                all_goals with_reducible rfl
              simp only [Act.put, List.setIfInBounds_toArray, List.set_cons_zero, List.set_cons_succ]
              refine wpAnyH_take (i := 24) (oi := ⟨_, _, _, _, _, _⟩) (v := ?_) rfl (by kernel_rfl) (by kernel_rfl) (by kernel_rfl) (fun _ _ _ h => h) (Or.inl ⟨by rfl, ?_⟩) hHeld ?_
              rotate_left
              · intro w' hSw
                try dsimp only at hSw
                go_simp
                all_goals with_reducible rfl
              simp only [Act.put, List.setIfInBounds_toArray, List.set_cons_zero, List.set_cons_succ]
              refine wpAnyH_take (i := 25) (oi := ⟨_, _, _, _, _, _⟩) (v := ?_) rfl (by kernel_rfl) (by kernel_rfl) (by kernel_rfl) (fun _ _ _ h => h) (Or.inl ⟨by rfl, ?_⟩) hHeld ?_
              rotate_left
              · intro w' hSw
                try dsimp only at hSw
                go_simp
                all_goals with_reducible rfl
              simp only [Act.put, List.setIfInBounds_toArray, List.set_cons_zero, List.set_cons_succ]
              refine wpAnyH_take (i := 26) (oi := ⟨_, _, _, _, _, _⟩) (v := ?_) rfl (by kernel_rfl) (by kernel_rfl) (by kernel_rfl) (fun _ _ _ h => h) (Or.inl ⟨by rfl, ?_⟩) hHeld ?_
              rotate_left
              · intro w' hSw
                try dsimp only at hSw
                go_simp
                all_goals with_reducible rfl
              simp only [Act.put, List.setIfInBounds_toArray, List.set_cons_zero, List.set_cons_succ]
              refine wpAnyH_take (i := 27) (oi := ⟨_, _, _, _, _, _⟩) (v := ?_) rfl (by kernel_rfl) (by kernel_rfl) (by kernel_rfl) (fun _ _ _ h => h) (Or.inl ⟨by rfl, ?_⟩) hHeld ?_
              rotate_left
              · intro w' hSw
                try dsimp only at hSw
                go_simp
                all_goals with_reducible rfl
              simp only [Act.put, List.setIfInBounds_toArray, List.set_cons_zero, List.set_cons_succ]
              refine wpAnyH_take (i := 28) (oi := ⟨_, _, _, _, _, _⟩) (v := ?_) rfl (by kernel_rfl) (by kernel_rfl) (by kernel_rfl) (fun _ _ _ h => h) (Or.inl ⟨by rfl, ?_⟩) hHeld ?_
              rotate_left
              · intro w' hSw
                try dsimp only at hSw
                go_simp
                all_goals with_reducible rfl
              simp only [Act.put, List.setIfInBounds_toArray, List.set_cons_zero, List.set_cons_succ]
              refine wpAnyH_take (i := 29) (oi := ⟨_, _, _, _, _, _⟩) (v := ?_) rfl (by kernel_rfl) (by kernel_rfl) (by kernel_rfl) (fun _ _ _ h => h) (Or.inl ⟨by rfl, ?_⟩) hHeld ?_
              rotate_left
              · intro w' hSw
                try dsimp only at hSw
                go_simp
                all_goals with_reducible rfl
              simp only [Act.put, List.setIfInBounds_toArray, List.set_cons_zero, List.set_cons_succ]
              refine wpAnyH_take (i := 30) (oi := ⟨_, _, _, _, _, _⟩) (v := ?_) rfl (by kernel_rfl) (by kernel_rfl) (by kernel_rfl) (fun _ _ _ h => h) (Or.inl ⟨by rfl, ?_⟩) hHeld ?_
              rotate_left
              · intro w' hSw
                try dsimp only at hSw
                go_simp
                all_goals with_reducible rfl
              simp only [Act.put, List.setIfInBounds_toArray, List.set_cons_zero, List.set_cons_succ]
              refine wpAnyH_take (i := 31) (oi := ⟨_, _, _, _, _, _⟩) (v := ?_) rfl (by kernel_rfl) (by kernel_rfl) (by kernel_rfl) (fun _ _ _ h => h) (Or.inl ⟨by rfl, ?_⟩) hHeld ?_
              rotate_left
              · intro w' hSw
                try dsimp only at hSw
                go_simp
                all_goals with_reducible rfl
              simp only [Act.put, List.setIfInBounds_toArray, List.set_cons_zero, List.set_cons_succ]
              refine wpAnyH_take (i := 32) (oi := ⟨_, _, _, _, _, _⟩) (v := ?_) rfl (by kernel_rfl) (by kernel_rfl) (by kernel_rfl) (fun _ _ _ h => h) (Or.inl ⟨by rfl, ?_⟩) hHeld ?_
              rotate_left
              · intro w' hSw
                try dsimp only at hSw
                go_simp
                all_goals with_reducible rfl
              simp only [Act.put, List.setIfInBounds_toArray, List.set_cons_zero, List.set_cons_succ]
              refine wpAnyH_take (i := 33) (oi := ⟨_, _, _, _, _, _⟩) (v := ?_) rfl (by kernel_rfl) (by kernel_rfl) (by kernel_rfl) (fun _ _ _ h => h) (Or.inl ⟨by rfl, ?_⟩) hHeld ?_
              rotate_left
              · intro w' hSw
                try dsimp only at hSw
                go_simp
                all_goals with_reducible rfl
              simp only [Act.put, List.setIfInBounds_toArray, List.set_cons_zero, List.set_cons_succ]
              refine wpAnyH_take (i := 34) (oi := ⟨_, _, _, _, _, _⟩) (v := ?_) rfl (by kernel_rfl) (by kernel_rfl) (by kernel_rfl) (fun _ _ _ h => h) (Or.inl ⟨by rfl, ?_⟩) hHeld ?_
              rotate_left
              · intro w' hSw
                try dsimp only at hSw
                go_simp
                all_goals with_reducible rfl
              simp only [Act.put, List.setIfInBounds_toArray, List.set_cons_zero, List.set_cons_succ]
              refine wpAnyH_take (i := 35) (oi := ⟨_, _, _, _, _, _⟩) (v := ?_) rfl (by kernel_rfl) (by kernel_rfl) (by kernel_rfl) (fun _ _ _ h => h) (Or.inl ⟨by rfl, ?_⟩) hHeld ?_
              rotate_left
              · intro w' hSw
                try dsimp only at hSw
                go_simp
                all_goals with_reducible rfl
              simp only [Act.put, List.setIfInBounds_toArray, List.set_cons_zero, List.set_cons_succ]
              refine wpAnyH_take (i := 36) (oi := ⟨_, _, _, _, _, _⟩) (v := ?_) rfl (by kernel_rfl) (by kernel_rfl) (by kernel_rfl) (fun _ _ _ h => h) (Or.inl ⟨by rfl, ?_⟩) hHeld ?_
              rotate_left
              · intro w' hSw
                try dsimp only at hSw
                go_simp
                all_goals with_reducible rfl
              simp only [Act.put, List.setIfInBounds_toArray, List.set_cons_zero, List.set_cons_succ]
              refine wpAnyH_take (i := 37) (oi := ⟨_, _, _, _, _, _⟩) (v := ?_) rfl (by kernel_rfl) (by kernel_rfl) (by kernel_rfl) (fun _ _ _ h => h) (Or.inl ⟨by rfl, ?_⟩) hHeld ?_
              rotate_left
              · intro w' hSw
                try dsimp only at hSw
                go_simp
                all_goals with_reducible rfl
              simp only [Act.put, List.setIfInBounds_toArray, List.set_cons_zero, List.set_cons_succ]
              refine wpAnyH_take (i := 38) (oi := ⟨_, _, _, _, _, _⟩) (v := ?_) rfl (by kernel_rfl) (by kernel_rfl) (by kernel_rfl) (fun _ _ _ h => h) (Or.inl ⟨by rfl, ?_⟩) hHeld ?_
              rotate_left
              · intro w' hSw
                try dsimp only at hSw
                go_simp
                all_goals with_reducible rfl
              simp only [Act.put, List.setIfInBounds_toArray, List.set_cons_zero, List.set_cons_succ]
              refine wpAnyH_take (i := 39) (oi := ⟨_, _, _, _, _, _⟩) (v := ?_) rfl (by kernel_rfl) (by kernel_rfl) (by kernel_rfl) (fun _ _ _ h => h) (Or.inl ⟨by rfl, ?_⟩) hHeld ?_
              rotate_left
              · intro w' hSw
                try dsimp only at hSw
                go_simp
                all_goals with_reducible rfl
              simp only [Act.put, List.setIfInBounds_toArray, List.set_cons_zero, List.set_cons_succ]
              refine wpAnyH_take (i := 40) (oi := ⟨_, _, _, _, _, _⟩) (v := ?_) rfl (by kernel_rfl) (by kernel_rfl) (by kernel_rfl) (fun _ _ _ h => h) (Or.inl ⟨by rfl, ?_⟩) hHeld ?_
              rotate_left
              · intro w' hSw
                try dsimp only at hSw
                go_simp
                all_goals with_reducible rfl
              simp only [Act.put, List.setIfInBounds_toArray, List.set_cons_zero, List.set_cons_succ]
              refine wpAnyH_take (i := 41) (oi := ⟨_, _, _, _, _, _⟩) (v := ?_) rfl (by kernel_rfl) (by kernel_rfl) (by kernel_rfl) (fun _ _ _ h => h) (Or.inl ⟨by rfl, ?_⟩) hHeld ?_
              rotate_left
              · intro w' hSw
                try dsimp only at hSw
                go_simp
                all_goals with_reducible rfl
              simp only [Act.put, List.setIfInBounds_toArray, List.set_cons_zero, List.set_cons_succ]
              refine wpAnyH_take (i := 42) (oi := ⟨_, _, _, _, _, _⟩) (v := ?_) rfl (by kernel_rfl) (by kernel_rfl) (by kernel_rfl) (fun _ _ _ h => h) (Or.inl ⟨by rfl, ?_⟩) hHeld ?_
              rotate_left
              · intro w' hSw
                try dsimp only at hSw
                go_simp
                all_goals with_reducible rfl
              simp only [Act.put, List.setIfInBounds_toArray, List.set_cons_zero, List.set_cons_succ]
              refine wpAnyH_take (i := 43) (oi := ⟨_, _, _, _, _, _⟩) (v := ?_) rfl (by kernel_rfl) (by kernel_rfl) (by kernel_rfl) (fun _ _ _ h => h) (Or.inl ⟨by rfl, ?_⟩) hHeld ?_
              rotate_left
              · intro w' hSw
                try dsimp only at hSw
                go_simp
                all_goals with_reducible rfl
              simp only [Act.put, List.setIfInBounds_toArray, List.set_cons_zero, List.set_cons_succ]
              refine wpAnyH_take (i := 44) (oi := ⟨_, _, _, _, _, _⟩) (v := ?_) rfl (by kernel_rfl) (by kernel_rfl) (by kernel_rfl) (fun _ _ _ h => h) (Or.inl ⟨by rfl, ?_⟩) hHeld ?_
              rotate_left
              · intro w' hSw
                try dsimp only at hSw
                go_simp
                all_goals with_reducible rfl
              simp only [Act.put, List.setIfInBounds_toArray, List.set_cons_zero, List.set_cons_succ]
              refine wpAnyH_take (i := 45) (oi := ⟨_, _, _, _, _, _⟩) (v := ?_) rfl (by kernel_rfl) (by kernel_rfl) (by kernel_rfl) (fun _ _ _ h => h) (Or.inl ⟨by rfl, ?_⟩) hHeld ?_
              rotate_left
              · intro w' hSw
                try dsimp only at hSw
                go_simp
                all_goals with_reducible rfl
              simp only [Act.put, List.setIfInBounds_toArray, List.set_cons_zero, List.set_cons_succ]
              refine wpAnyH_ready (rs := [46]) (by kernel_rfl) (by simp) ?_
              refine AllReadyH.cons (o := ⟨_, _, _, _, _, _⟩) rfl (fun K hK => ?_) AllReadyH.nil
              clear H HB8
              go_simp
              refine (reaches.from_ _ (now, p, fl) (k : Int) _ trivial FT.out (by unfold In64; omega) HD.out.r_).mono ?_
              rintro e wx2 ⟨rfl, bx⟩
              rw [HFK.out]
              have H2 := Hid.of (HD.out.next bx)
              have HB2 := Hid.of (HBD.out.trans (bx.mono HBD.out.size))
              have D2 := Hid.of (DD.out.next bx)
              clear bx HD HBD DD
              clear hHeld d0 d1 d2 d3 d4 d5 d6 d7 d8
              have d0 := (D2.out).head
              have d1 := ((D2.out).tail).head
              have d2 := (((D2.out).tail).tail).head
              have d3 := ((((D2.out).tail).tail).tail).head
              have d4 := (((((D2.out).tail).tail).tail).tail).head
              have d5 := ((((((D2.out).tail).tail).tail).tail).tail).head
              have d6 := (((((((D2.out).tail).tail).tail).tail).tail).tail).head
              have d7 := ((((((((D2.out).tail).tail).tail).tail).tail).tail).tail).head
              have d8 := (((((((((D2.out).tail).tail).tail).tail).tail).tail).tail).tail).head
              refine hK.out _ _ ⟨d0, d1, d2, d3, d4, d5, d6, d7, d8⟩ (fun hHeld => ?_)
              clear hK K
              try simp only [Act.put, List.setIfInBounds_toArray, List.set_cons_zero, List.set_cons_succ]
              refine wpAnyH_take (i := 47) (oi := ⟨_, _, _, _, _, _⟩) (v := ?_) rfl (by kernel_rfl) (by kernel_rfl) (by kernel_rfl) (fun _ _ _ h => h) (Or.inl ⟨by rfl, ?_⟩) hHeld ?_
              rotate_left
              · intro w' hSw
                try dsimp only at hSw
                go_simp
                all_goals with_reducible rfl
              simp only [Act.put, List.setIfInBounds_toArray, List.set_cons_zero, List.set_cons_succ]
              refine wpAnyH_take (i := 48) (oi := ⟨_, _, _, _, _, _⟩) (v := ?_) rfl (by kernel_rfl) (by kernel_rfl) (by kernel_rfl) (fun _ _ _ h => h) (Or.inl ⟨by rfl, ?_⟩) hHeld ?_
              rotate_left
              · intro w' hSw
                try dsimp only at hSw
                go_simp
                all_goals with_reducible rfl
              simp only [Act.put, List.setIfInBounds_toArray, List.set_cons_zero, List.set_cons_succ]
              refine wpAnyH_take (i := 49) (oi := ⟨_, _, _, _, _, _⟩) (v := ?_) rfl (by kernel_rfl) (by kernel_rfl) (by kernel_rfl) (fun _ _ _ h => h) (Or.inl ⟨by rfl, ?_⟩) hHeld ?_
              rotate_left
              · intro w' hSw
                try dsimp only at hSw
                go_simp
                all_goals with_reducible rfl
              simp only [Act.put, List.setIfInBounds_toArray, List.set_cons_zero, List.set_cons_succ]
              refine wpAnyH_take (i := 50) (oi := ⟨_, _, _, _, _, _⟩) (v := ?_) rfl (by kernel_rfl) (by kernel_rfl) (by kernel_rfl) (fun _ _ _ h => h) (Or.inl ⟨by rfl, ?_⟩) hHeld ?_
              rotate_left
              · intro w' hSw
                try dsimp only at hSw
                go_simp
                all_goals with_reducible rfl
              simp only [Act.put, List.setIfInBounds_toArray, List.set_cons_zero, List.set_cons_succ]
              refine wpAnyH_take (i := 51) (oi := ⟨_, _, _, _, _, _⟩) (v := ?_) rfl (by kernel_rfl) (by kernel_rfl) (by kernel_rfl) (fun _ _ _ h => h) (Or.inl ⟨by rfl, ?_⟩) hHeld ?_
              rotate_left
              · intro w' hSw
                try dsimp only at hSw
                go_simp
                all_goals with_reducible rfl
              simp only [Act.put, List.setIfInBounds_toArray, List.set_cons_zero, List.set_cons_succ]
              refine wpAnyH_take (i := 52) (oi := ⟨_, _, _, _, _, _⟩) (v := ?_) rfl (by kernel_rfl) (by kernel_rfl) (by kernel_rfl) (fun _ _ _ h => h) (Or.inl ⟨by rfl, ?_⟩) hHeld ?_
              rotate_left
              · intro w' hSw
                try dsimp only at hSw
                go_simp
                all_goals with_reducible rfl
              simp only [Act.put, List.setIfInBounds_toArray, List.set_cons_zero, List.set_cons_succ]
              refine wpAnyH_take (i := 53) (oi := ⟨_, _, _, _, _, _⟩) (v := ?_) rfl (by kernel_rfl) (by kernel_rfl) (by kernel_rfl) (fun _ _ _ h => h) (Or.inl ⟨by rfl, ?_⟩) hHeld ?_
              rotate_left
              · intro w' hSw
                try dsimp only at hSw
                go_simp
                all_goals with_reducible rfl
              simp only [Act.put, List.setIfInBounds_toArray, List.set_cons_zero, List.set_cons_succ]
              refine wpAnyH_take (i := 54) (oi := ⟨_, _, _, _, _, _⟩) (v := ?_) rfl (by kernel_rfl) (by kernel_rfl) (by kernel_rfl) (fun _ _ _ h => h) (Or.inl ⟨by rfl, ?_⟩) hHeld ?_
              rotate_left
              · intro w' hSw
                try dsimp only at hSw
                go_simp
                all_goals with_reducible rfl
              simp only [Act.put, List.setIfInBounds_toArray, List.set_cons_zero, List.set_cons_succ]
              refine wpAnyH_take (i := 55) (oi := ⟨_, _, _, _, _, _⟩) (v := ?_) rfl (by kernel_rfl) (by kernel_rfl) (by kernel_rfl) (fun _ _ _ h => h) (Or.inl ⟨by rfl, ?_⟩) hHeld ?_
              rotate_left
              · intro w' hSw
                try dsimp only at hSw
                go_simp
                all_goals with_reducible rfl
              simp only [Act.put, List.setIfInBounds_toArray, List.set_cons_zero, List.set_cons_succ]
              refine wpAnyH_take (i := 58) (oi := ⟨_, _, _, _, _, _⟩) (v := ?_) rfl (by kernel_rfl) (by kernel_rfl) (by kernel_rfl) (fun _ _ _ h => h) (Or.inl ⟨by rfl, ?_⟩) hHeld ?_
              rotate_left
              · intro w' hSw
                try dsimp only at hSw
                go_simp
                all_goals with_reducible rfl
              simp only [Act.put, List.setIfInBounds_toArray, List.set_cons_zero, List.set_cons_succ]
              refine wpAnyH_take (i := 59) (oi := ⟨_, _, _, _, _, _⟩) (v := ?_) rfl (by kernel_rfl) (by kernel_rfl) (by kernel_rfl) (fun _ _ _ h => h) (Or.inl ⟨by rfl, ?_⟩) hHeld ?_
              rotate_left
              · intro w' hSw
                try dsimp only at hSw
                go_simp
                all_goals with_reducible rfl
              simp only [Act.put, List.setIfInBounds_toArray, List.set_cons_zero, List.set_cons_succ]
              refine wpAnyH_take (i := 60) (oi := ⟨_, _, _, _, _, _⟩) (v := ?_) rfl (by kernel_rfl) (by kernel_rfl) (by kernel_rfl) (fun _ _ _ h => h) (Or.inl ⟨by rfl, ?_⟩) hHeld ?_
              rotate_left
              · intro w' hSw
                try dsimp only at hSw
                go_simp
                all_goals with_reducible rfl
              simp only [Act.put, List.setIfInBounds_toArray, List.set_cons_zero, List.set_cons_succ]
              refine wpAnyH_take (i := 61) (oi := ⟨_, _, _, _, _, _⟩) (v := ?_) rfl (by kernel_rfl) (by kernel_rfl) (by kernel_rfl) (fun _ _ _ h => h) (Or.inl ⟨by rfl, ?_⟩) hHeld ?_
              rotate_left
              · intro w' hSw
                try dsimp only at hSw
                go_simp
                all_goals with_reducible rfl
              simp only [Act.put, List.setIfInBounds_toArray, List.set_cons_zero, List.set_cons_succ]
              refine wpAnyH_take (i := 62) (oi := ⟨_, _, _, _, _, _⟩) (v := ?_) rfl (by kernel_rfl) (by kernel_rfl) (by kernel_rfl) (fun _ _ _ h => h) (Or.inl ⟨by rfl, ?_⟩) hHeld ?_
              rotate_left
              · intro w' hSw
                try dsimp only at hSw
                go_simp
                all_goals with_reducible rfl
              simp only [Act.put, List.setIfInBounds_toArray, List.set_cons_zero, List.set_cons_succ]
              refine wpAnyH_take (i := 63) (oi := ⟨_, _, _, _, _, _⟩) (v := ?_) rfl (by kernel_rfl) (by kernel_rfl) (by kernel_rfl) (fun _ _ _ h => h) (Or.inl ⟨by rfl, ?_⟩) hHeld ?_
              rotate_left
              · intro w' hSw
                try dsimp only at hSw
                go_simp
                all_goals with_reducible rfl
              simp only [Act.put, List.setIfInBounds_toArray, List.set_cons_zero, List.set_cons_succ]
              refine wpAnyH_ready (rs := [56]) (by kernel_rfl) (by simp) ?_
              refine AllReadyH.cons (o := ⟨_, _, _, _, _, _⟩) rfl (fun K hK => ?_) AllReadyH.nil
              go_simp
              refine (reaches.from_ _ (now, p, fl) (k : Int) _ trivial FT.out (by unfold In64; omega) H2.out.r_).mono ?_
              rintro e wx3 ⟨rfl, bx⟩
              rw [HFK.out]
              have H3 := Hid.of (H2.out.next bx)
              have HB3 := Hid.of (HB2.out.trans (bx.mono HB2.out.size))
              have D3 := Hid.of (D2.out.next bx)
              clear bx H2 HB2 D2
              clear hHeld d0 d1 d2 d3 d4 d5 d6 d7 d8
              have d0 := (D3.out).head
              have d1 := ((D3.out).tail).head
              have d2 := (((D3.out).tail).tail).head
              have d3 := ((((D3.out).tail).tail).tail).head
              have d4 := (((((D3.out).tail).tail).tail).tail).head
              have d5 := ((((((D3.out).tail).tail).tail).tail).tail).head
              have d6 := (((((((D3.out).tail).tail).tail).tail).tail).tail).head
              have d7 := ((((((((D3.out).tail).tail).tail).tail).tail).tail).tail).head
              have d8 := (((((((((D3.out).tail).tail).tail).tail).tail).tail).tail).tail).head
              refine hK.out _ _ ⟨d0, d1, d2, d3, d4, d5, d6, d7, d8⟩ (fun hHeld => ?_)
              clear hK K
              try simp only [Act.put, List.setIfInBounds_toArray, List.set_cons_zero, List.set_cons_succ]
              refine wpAnyH_take (i := 57) (oi := ⟨_, _, _, _, _, _⟩) (v := ?_) rfl (by kernel_rfl) (by kernel_rfl) (by kernel_rfl) (fun _ _ _ h => h) (Or.inl ⟨by rfl, ?_⟩) hHeld ?_
              rotate_left
              · intro w' hSw
                try dsimp only at hSw
                go_simp
                all_goals with_reducible rfl
              simp only [Act.put, List.setIfInBounds_toArray, List.set_cons_zero, List.set_cons_succ]
              refine wpAnyH_take (i := 64) (oi := ⟨_, _, _, _, _, _⟩) (v := ?_) rfl (by kernel_rfl) (by kernel_rfl) (by kernel_rfl) (fun _ _ _ h => h) (Or.inl ⟨by rfl, ?_⟩) hHeld ?_
              rotate_left
              · intro w' hSw
                try dsimp only at hSw
                go_simp
                all_goals with_reducible rfl
              simp only [Act.put, List.setIfInBounds_toArray, List.set_cons_zero, List.set_cons_succ]
              refine wpAnyH_take (i := 65) (oi := ⟨_, _, _, _, _, _⟩) (v := ?_) rfl (by kernel_rfl) (by kernel_rfl) (by kernel_rfl) (fun _ _ _ h => h) (Or.inl ⟨by rfl, ?_⟩) hHeld ?_
              rotate_left
              · intro w' hSw
                try dsimp only at hSw
                go_simp
                all_goals with_reducible rfl
              simp only [Act.put, List.setIfInBounds_toArray, List.set_cons_zero, List.set_cons_succ]
              refine wpAnyH_done (by kernel_rfl) ?_ _
              refine NoPanic.normal ?_
              clear hHeld d0 d1 d2 d3 d4 d5 d6 d7 d8
              clear q1 q2 q3 q4 q5 e1 e2 e2' e5 e6 e7 r1 r2 z1
              go_upto_region 22 with fail
              go_loopg [16] PN (fun ky iv wq => ∃ (i2 : Nat), iv = .int .i64 i2 ∧ i2 ≤ PN ∧ PN - i2 ≤ ky ∧ Hid (SSo w Z rb y fn tn (.slice (some ⟨sb, so, none⟩) PN sc) (.slice (some ⟨tb, to_, none⟩) LM tc) now rn (.slice rsa PN rsc) (.slice rfa i rfc) pn (.slice psa LN psc) (.slice (some ⟨lb, lo, none⟩) LM pfc) (now, p, fl) pl wq) ∧ Hid (Below w8.heap.size w8 wq))
              case atStart => exact ⟨0, rfl, Nat.zero_le _, Nat.le_refl _, H3, HB3⟩
              case round =>
                clear H3 HB3 D19
                obtain ⟨i2, rfl, hi2, hky, H, HB8⟩ := hrel
                have i20 : (0 : Int) ≤ (i2 : Int) := Int.natCast_nonneg _
                have ff := H.out.fat
                by_cases hl2 : (i2 : Int) < (PN : Int)
                · obtain ⟨u, hu⟩ : ∃ u, p.2[i2]? = some u := ⟨_, List.getElem?_eq_getElem (by have := NP.out; omega)⟩
                  have HI2 : Hid (i2 < PN) := Hid.of (by omega)
                  obtain ⟨b2', o2', hs2, hb2, -, d1, -, -⟩ := p_at (HS1.out.kept H.out.fr) i2 _ hu
                  obtain ⟨hs2, hs3⟩ : b2' = sb ∧ o2' = so := by
                    have := Option.some.inj hs2
                    simp only [Addr.mk.injEq] at this
                    exact ⟨this.1.symm, this.2.1.symm⟩
                  subst hs2 hs3
                  obtain ⟨tb2, to2, ht2, htb, -, e1', -, -⟩ := p_at (HS2.out.kept H.out.fr) j _ HX.out
                  obtain ⟨ht2, ht3⟩ : tb2 = tb ∧ to2 = to_ := by
                    have := Option.some.inj ht2
                    simp only [Addr.mk.injEq] at this
                    exact ⟨this.1.symm, this.2.1.symm⟩
                  subst ht2 ht3
                  have HUZ : Hid (1 ≤ u.2.1) := Hid.of (tier_known (mErr_zero MK.out.1).1 hu).1
                  have HLE : Hid (ev.tmod u.2.1 = 0 → f ≤ rFromN (now, p, fl) i2) := Hid.of (LEAST.out i2 u hu)
                  obtain ⟨u0, uv, u2, uh⟩ := u
                  simp only at d1 e1' HUZ HLE
                  have tt := H.out.tat
                  obtain ⟨c4, c5, c6, c7⟩ := H.out.rat
                  have u1 : ¬ uv = 0 := by have := HUZ.out; omega
                  have D24 : Hid (Dc wr [(⟨Z, 1, none⟩, .slice (some ⟨b2', o2', none⟩) PN sc), (⟨Z + 1, 1, none⟩, .slice (some ⟨tb2, to2, none⟩) LM tc), (⟨tb2, to2 + j * 4 + 1, none⟩, .int .i64 ev), (⟨b2', o2' + i2 * 4 + 1, none⟩, .int .i64 uv), (⟨rb, 0, none⟩, .int .i64 now), (⟨rb, 1, none⟩, .string rn), (⟨rb, 2, none⟩, .slice rsa PN rsc), (⟨rb, 3, none⟩, .slice rfa i rfc)]) := Hid.of
                    (.cons H.out.cs.tail.lt ff (.cons H.out.cs.tail.tail.tail.lt tt (.cons htb e1' (.cons hb2 d1 (.cons H.out.cs.tail.tail.tail.tail.lt c4 (.cons H.out.cs.tail.tail.tail.tail.tail.lt c5 (.cons H.out.cs.tail.tail.tail.tail.tail.tail.lt c6 (.cons H.out.cs.tail.tail.tail.tail.tail.tail.tail.lt c7 (Dc.nil _)))))))))
                  obtain ⟨g, hg⟩ : ∃ g, rFromN (now, p, fl) i2 = g := ⟨_, rfl⟩
                  have HGK : Hid (rFrom (now, p, fl) (i2 : Int) = g) := Hid.of (by rw [rFrom_nat2]; exact hg)
                  rw [hg] at HLE
                  clear hg hu hb2 htb
                  by_cases hrm : ev.tmod uv = 0
                  · as_aux_lemma =>
                      have e7 : decide (g < f) = false := decide_eq_false (by have := HLE.out hrm; omega)
                      go_upto_region 24 with fail
                      clear ff tt d1 e1' c4 c5 c6 c7
                      have bd := (Below.refl wr.heap.size wr).drew
                      have HD := Hid.of (H.out.next bd)
                      have HBD := Hid.of (HB8.out.trans (bd.mono HB8.out.size))
                      have DD := Hid.of (D24.out.next bd)
                      clear bd
                      have d0 := (D24.out).head
                      have d1 := ((D24.out).tail).head
                      have d2 := (((D24.out).tail).tail).head
                      have d3 := ((((D24.out).tail).tail).tail).head
                      have d4 := (((((D24.out).tail).tail).tail).tail).head
                      have d5 := ((((((D24.out).tail).tail).tail).tail).tail).head
                      have d6 := (((((((D24.out).tail).tail).tail).tail).tail).tail).head
                      have d7 := ((((((((D24.out).tail).tail).tail).tail).tail).tail).tail).head
                      refine wp_region_noPanic ?_
                      refine wp_region_held_drew (S := fun w' => w'.cell? ⟨Z, 1, none⟩ = some (.slice (some ⟨b2', o2', none⟩) PN sc) ∧ w'.cell? ⟨Z + 1, 1, none⟩ = some (.slice (some ⟨tb2, to2, none⟩) LM tc) ∧ w'.cell? ⟨tb2, to2 + j * 4 + 1, none⟩ = some (.int .i64 ev) ∧ w'.cell? ⟨b2', o2' + i2 * 4 + 1, none⟩ = some (.int .i64 uv) ∧ w'.cell? ⟨rb, 0, none⟩ = some (.int .i64 now) ∧ w'.cell? ⟨rb, 1, none⟩ = some (.string rn) ∧ w'.cell? ⟨rb, 2, none⟩ = some (.slice rsa PN rsc) ∧ w'.cell? ⟨rb, 3, none⟩ = some (.slice rfa i rfc)) (by kernel_rfl) ?_ (fun hHeld => ?_)
                      · exact ⟨d0, d1, d2, d3, d4, d5, d6, d7⟩
                      refine wpAnyH_take (i := 0) (oi := ⟨_, _, _, _, _, _⟩) (v := ?_) rfl (by kernel_rfl) (by kernel_rfl) (by kernel_rfl) (fun _ _ _ h => h) (Or.inl ⟨by rfl, ?_⟩) hHeld ?_
                      rotate_left
                      · intro w' hSw
                        try dsimp only at hSw
                        go_simp
                        all_goals with_reducible rfl
                      simp only [Act.put, List.setIfInBounds_toArray, List.set_cons_zero, List.set_cons_succ]
                      refine wpAnyH_take (i := 1) (oi := ⟨_, _, _, _, _, _⟩) (v := ?_) rfl (by kernel_rfl) (by kernel_rfl) (by kernel_rfl) (fun _ _ _ h => h) (Or.inl ⟨by rfl, ?_⟩) hHeld ?_
                      rotate_left
                      · intro w' hSw
                        try dsimp only at hSw
                        go_simp
                        all_goals with_reducible rfl
                      simp only [Act.put, List.setIfInBounds_toArray, List.set_cons_zero, List.set_cons_succ]
                      refine wpAnyH_take (i := 2) (oi := ⟨_, _, _, _, _, _⟩) (v := ?_) rfl (by kernel_rfl) (by kernel_rfl) (by kernel_rfl) (fun _ _ _ h => h) (Or.inl ⟨by rfl, ?_⟩) hHeld ?_
                      rotate_left
                      · intro w' hSw
                        try dsimp only at hSw
                        go_simp
                        all_goals with_reducible rfl
                      simp only [Act.put, List.setIfInBounds_toArray, List.set_cons_zero, List.set_cons_succ]
                      refine wpAnyH_take (i := 3) (oi := ⟨_, _, _, _, _, _⟩) (v := ?_) rfl (by kernel_rfl) (by kernel_rfl) (by kernel_rfl) (fun _ _ _ h => h) (Or.inl ⟨by rfl, ?_⟩) hHeld ?_
                      rotate_left
                      · intro w' hSw
                        try dsimp only at hSw
                        go_simp
                        all_goals with_reducible rfl
                      simp only [Act.put, List.setIfInBounds_toArray, List.set_cons_zero, List.set_cons_succ]
                      refine wpAnyH_take (i := 4) (oi := ⟨_, _, _, _, _, _⟩) (v := ?_) rfl (by kernel_rfl) (by kernel_rfl) (by kernel_rfl) (fun _ _ _ h => h) (Or.inl ⟨by rfl, ?_⟩) hHeld ?_
                      rotate_left
                      · intro w' hSw
                        try dsimp only at hSw
                        go_simp
                        all_goals with_reducible rfl
                      simp only [Act.put, List.setIfInBounds_toArray, List.set_cons_zero, List.set_cons_succ]
                      refine wpAnyH_take (i := 5) (oi := ⟨_, _, _, _, _, _⟩) (v := ?_) rfl (by kernel_rfl) (by kernel_rfl) (by kernel_rfl) (fun _ _ _ h => h) (Or.inl ⟨by rfl, ?_⟩) hHeld ?_
                      rotate_left
                      · intro w' hSw
                        try dsimp only at hSw
                        go_simp
                        all_goals with_reducible rfl
                      simp only [Act.put, List.setIfInBounds_toArray, List.set_cons_zero, List.set_cons_succ]
                      refine wpAnyH_take (i := 6) (oi := ⟨_, _, _, _, _, _⟩) (v := ?_) rfl (by kernel_rfl) (by kernel_rfl) (by kernel_rfl) (fun _ _ _ h => h) (Or.inl ⟨by rfl, ?_⟩) hHeld ?_
                      rotate_left
                      · intro w' hSw
                        try dsimp only at hSw
                        go_simp
                        all_goals with_reducible rfl
                      simp only [Act.put, List.setIfInBounds_toArray, List.set_cons_zero, List.set_cons_succ]
                      refine wpAnyH_take (i := 7) (oi := ⟨_, _, _, _, _, _⟩) (v := ?_) rfl (by kernel_rfl) (by kernel_rfl) (by kernel_rfl) (fun _ _ _ h => h) (Or.inl ⟨by rfl, ?_⟩) hHeld ?_
                      rotate_left
                      · intro w' hSw
                        try dsimp only at hSw
                        go_simp
                        all_goals with_reducible rfl
                      simp only [Act.put, List.setIfInBounds_toArray, List.set_cons_zero, List.set_cons_succ]
                      refine wpAnyH_take (i := 8) (oi := ⟨_, _, _, _, _, _⟩) (v := ?_) rfl (by kernel_rfl) (by kernel_rfl) (by kernel_rfl) (fun _ _ _ h => h) (Or.inl ⟨by rfl, ?_⟩) hHeld ?_
                      rotate_left
                      · intro w' hSw
                        try dsimp only at hSw
                        go_simp
                        all_goals with_reducible rfl
                      simp only [Act.put, List.setIfInBounds_toArray, List.set_cons_zero, List.set_cons_succ]
                      refine wpAnyH_take (i := 9) (oi := ⟨_, _, _, _, _, _⟩) (v := ?_) rfl (by kernel_rfl) (by kernel_rfl) (by kernel_rfl) (fun _ _ _ h => h) (Or.inl ⟨by rfl, ?_⟩) hHeld ?_
                      rotate_left
                      · intro w' hSw
                        try dsimp only at hSw
                        go_simp
                        all_goals with_reducible rfl
                      simp only [Act.put, List.setIfInBounds_toArray, List.set_cons_zero, List.set_cons_succ]
                      refine wpAnyH_take (i := 10) (oi := ⟨_, _, _, _, _, _⟩) (v := ?_) rfl (by kernel_rfl) (by kernel_rfl) (by kernel_rfl) (fun _ _ _ h => h) (Or.inl ⟨by rfl, ?_⟩) hHeld ?_
                      rotate_left
                      · intro w' hSw
                        try dsimp only at hSw
                        go_simp
                        all_goals with_reducible rfl
                      simp only [Act.put, List.setIfInBounds_toArray, List.set_cons_zero, List.set_cons_succ]
                      refine wpAnyH_take (i := 11) (oi := ⟨_, _, _, _, _, _⟩) (v := ?_) rfl (by kernel_rfl) (by kernel_rfl) (by kernel_rfl) (fun _ _ _ h => h) (Or.inl ⟨by rfl, ?_⟩) hHeld ?_
                      rotate_left
                      · intro w' hSw
                        try dsimp only at hSw
                        go_simp
                        all_goals with_reducible rfl
                      simp only [Act.put, List.setIfInBounds_toArray, List.set_cons_zero, List.set_cons_succ]
                      refine wpAnyH_take (i := 12) (oi := ⟨_, _, _, _, _, _⟩) (v := ?_) rfl (by kernel_rfl) (by kernel_rfl) (by kernel_rfl) (fun _ _ _ h => h) (Or.inl ⟨by rfl, ?_⟩) hHeld ?_
                      rotate_left
                      · intro w' hSw
                        try dsimp only at hSw
                        go_simp
                        all_goals with_reducible rfl
                      simp only [Act.put, List.setIfInBounds_toArray, List.set_cons_zero, List.set_cons_succ]
                      refine wpAnyH_take (i := 13) (oi := ⟨_, _, _, _, _, _⟩) (v := ?_) rfl (by kernel_rfl) (by kernel_rfl) (by kernel_rfl) (fun _ _ _ h => h) (Or.inl ⟨by rfl, ?_⟩) hHeld ?_
                      rotate_left
                      · intro w' hSw
                        try dsimp only at hSw
                        go_simp
                        all_goals with_reducible rfl
                      simp only [Act.put, List.setIfInBounds_toArray, List.set_cons_zero, List.set_cons_succ]
                      refine wpAnyH_take (i := 14) (oi := ⟨_, _, _, _, _, _⟩) (v := ?_) rfl (by kernel_rfl) (by kernel_rfl) (by kernel_rfl) (fun _ _ _ h => h) (Or.inl ⟨by rfl, ?_⟩) hHeld ?_
                      rotate_left
                      · intro w' hSw
                        try dsimp only at hSw
                        go_simp
                        all_goals with_reducible rfl
                      simp only [Act.put, List.setIfInBounds_toArray, List.set_cons_zero, List.set_cons_succ]
                      refine wpAnyH_take (i := 15) (oi := ⟨_, _, _, _, _, _⟩) (v := ?_) rfl (by kernel_rfl) (by kernel_rfl) (by kernel_rfl) (fun _ _ _ h => h) (Or.inl ⟨by rfl, ?_⟩) hHeld ?_
                      rotate_left
                      · intro w' hSw
                        try dsimp only at hSw
                        go_simp
                        all_goals with_reducible rfl
                      simp only [Act.put, List.setIfInBounds_toArray, List.set_cons_zero, List.set_cons_succ]
                      refine wpAnyH_take (i := 16) (oi := ⟨_, _, _, _, _, _⟩) (v := ?_) rfl (by kernel_rfl) (by kernel_rfl) (by kernel_rfl) (fun _ _ _ h => h) (Or.inl ⟨by rfl, ?_⟩) hHeld ?_
                      rotate_left
                      · intro w' hSw
                        try dsimp only at hSw
                        go_simp
                        all_goals with_reducible rfl
                      simp only [Act.put, List.setIfInBounds_toArray, List.set_cons_zero, List.set_cons_succ]
                      refine wpAnyH_take (i := 18) (oi := ⟨_, _, _, _, _, _⟩) (v := ?_) rfl (by kernel_rfl) (by kernel_rfl) (by kernel_rfl) (fun _ _ _ h => h) (Or.inl ⟨by rfl, ?_⟩) hHeld ?_
                      rotate_left
                      · intro w' hSw
                        try dsimp only at hSw
                        go_simp
                        all_goals with_reducible rfl
                      simp only [Act.put, List.setIfInBounds_toArray, List.set_cons_zero, List.set_cons_succ]
                      refine wpAnyH_take (i := 19) (oi := ⟨_, _, _, _, _, _⟩) (v := ?_) rfl (by kernel_rfl) (by kernel_rfl) (by kernel_rfl) (fun _ _ _ h => h) (Or.inl ⟨by rfl, ?_⟩) hHeld ?_
                      rotate_left
                      · intro w' hSw
                        try dsimp only at hSw
                        go_simp
                        all_goals with_reducible rfl
                      simp only [Act.put, List.setIfInBounds_toArray, List.set_cons_zero, List.set_cons_succ]
                      refine wpAnyH_ready (rs := [17]) (by kernel_rfl) (by simp) ?_
                      refine AllReadyH.cons (o := ⟨_, _, _, _, _, _⟩) rfl (fun K hK => ?_) AllReadyH.nil
                      clear H HB8
                      go_simp
                      refine (reaches.from_ _ (now, p, fl) (i2 : Int) _ trivial FT.out (by unfold In64; omega) HD.out.r_).mono ?_
                      rintro e wx2 ⟨rfl, bx⟩
                      rw [HGK.out]
                      have H2 := Hid.of (HD.out.next bx)
                      have HB2 := Hid.of (HBD.out.trans (bx.mono HBD.out.size))
                      have D2 := Hid.of (DD.out.next bx)
                      clear bx HD HBD DD
                      clear hHeld d0 d1 d2 d3 d4 d5 d6 d7
                      have d0 := (D2.out).head
                      have d1 := ((D2.out).tail).head
                      have d2 := (((D2.out).tail).tail).head
                      have d3 := ((((D2.out).tail).tail).tail).head
                      have d4 := (((((D2.out).tail).tail).tail).tail).head
                      have d5 := ((((((D2.out).tail).tail).tail).tail).tail).head
                      have d6 := (((((((D2.out).tail).tail).tail).tail).tail).tail).head
                      have d7 := ((((((((D2.out).tail).tail).tail).tail).tail).tail).tail).head
                      refine hK.out _ _ ⟨d0, d1, d2, d3, d4, d5, d6, d7⟩ (fun hHeld => ?_)
                      clear hK K
                      try simp only [Act.put, List.setIfInBounds_toArray, List.set_cons_zero, List.set_cons_succ]
                      refine wpAnyH_ready (rs := [20]) (by kernel_rfl) (by simp) ?_
                      refine AllReadyH.cons (o := ⟨_, _, _, _, _, _⟩) rfl (fun K hK => ?_) AllReadyH.nil
                      go_simp
                      refine (reaches.from_ _ (now, p, fl) (k : Int) _ trivial FT.out (by unfold In64; omega) H2.out.r_).mono ?_
                      rintro e wx3 ⟨rfl, bx⟩
                      rw [HFK.out]
                      have H3 := Hid.of (H2.out.next bx)
                      have HB3 := Hid.of (HB2.out.trans (bx.mono HB2.out.size))
                      have D3 := Hid.of (D2.out.next bx)
                      clear bx H2 HB2 D2
                      clear hHeld d0 d1 d2 d3 d4 d5 d6 d7
                      have d0 := (D3.out).head
                      have d1 := ((D3.out).tail).head
                      have d2 := (((D3.out).tail).tail).head
                      have d3 := ((((D3.out).tail).tail).tail).head
                      have d4 := (((((D3.out).tail).tail).tail).tail).head
                      have d5 := ((((((D3.out).tail).tail).tail).tail).tail).head
                      have d6 := (((((((D3.out).tail).tail).tail).tail).tail).tail).head
                      have d7 := ((((((((D3.out).tail).tail).tail).tail).tail).tail).tail).head
                      refine hK.out _ _ ⟨d0, d1, d2, d3, d4, d5, d6, d7⟩ (fun hHeld => ?_)
                      clear hK K
                      try simp only [Act.put, List.setIfInBounds_toArray, List.set_cons_zero, List.set_cons_succ]
                      refine wpAnyH_take (i := 21) (oi := ⟨_, _, _, _, _, _⟩) (v := ?_) rfl (by kernel_rfl) (by kernel_rfl) (by kernel_rfl) (fun _ _ _ h => h) (Or.inl ⟨by rfl, ?_⟩) hHeld ?_
                      rotate_left
                      · intro w' hSw
                        try dsimp only at hSw
                        go_simp
                        all_goals with_reducible rfl
                      simp only [Act.put, List.setIfInBounds_toArray, List.set_cons_zero, List.set_cons_succ]
                      refine wpAnyH_take (i := 22) (oi := ⟨_, _, _, _, _, _⟩) (v := ?_) rfl (by kernel_rfl) (by kernel_rfl) (by kernel_rfl) (fun _ _ _ h => h) (Or.inl ⟨by rfl, ?_⟩) hHeld ?_
                      rotate_left
                      · intro w' hSw
                        try dsimp only at hSw
                        go_simp
                        all_goals with_reducible rfl
                      simp only [Act.put, List.setIfInBounds_toArray, List.set_cons_zero, List.set_cons_succ]
                      refine wpAnyH_done (by kernel_rfl) ?_ _
                      refine NoPanic.normal ?_
                      clear hHeld d0 d1 d2 d3 d4 d5 d6 d7
                      go_wp2
                      go_roundg (PN - (i2 + 1))
                      case measure => have := HI2.out; omega
                      case rel => exact ⟨i2 + 1, by go_num, HI2.out, Nat.le_refl _, H3, HB3⟩
                  · as_aux_lemma =>
                      have e7 : (ev.tmod uv == 0) = false := beq_eq_false_iff_ne.2 hrm
                      have e8 : decide (ev.tmod uv = 0) = false := decide_eq_false hrm
                      go_upto_region 24 with fail
                      clear ff tt d1 e1' c4 c5 c6 c7
                      have bd := (Below.refl wr.heap.size wr).drew
                      have HD := Hid.of (H.out.next bd)
                      have HBD := Hid.of (HB8.out.trans (bd.mono HB8.out.size))
                      have DD := Hid.of (D24.out.next bd)
                      clear bd
                      have d0 := (D24.out).head
                      have d1 := ((D24.out).tail).head
                      have d2 := (((D24.out).tail).tail).head
                      have d3 := ((((D24.out).tail).tail).tail).head
                      have d4 := (((((D24.out).tail).tail).tail).tail).head
                      have d5 := ((((((D24.out).tail).tail).tail).tail).tail).head
                      have d6 := (((((((D24.out).tail).tail).tail).tail).tail).tail).head
                      have d7 := ((((((((D24.out).tail).tail).tail).tail).tail).tail).tail).head
                      refine wp_region_noPanic ?_
                      refine wp_region_held_drew (S := fun w' => w'.cell? ⟨Z, 1, none⟩ = some (.slice (some ⟨b2', o2', none⟩) PN sc) ∧ w'.cell? ⟨Z + 1, 1, none⟩ = some (.slice (some ⟨tb2, to2, none⟩) LM tc) ∧ w'.cell? ⟨tb2, to2 + j * 4 + 1, none⟩ = some (.int .i64 ev) ∧ w'.cell? ⟨b2', o2' + i2 * 4 + 1, none⟩ = some (.int .i64 uv) ∧ w'.cell? ⟨rb, 0, none⟩ = some (.int .i64 now) ∧ w'.cell? ⟨rb, 1, none⟩ = some (.string rn) ∧ w'.cell? ⟨rb, 2, none⟩ = some (.slice rsa PN rsc) ∧ w'.cell? ⟨rb, 3, none⟩ = some (.slice rfa i rfc)) (by kernel_rfl) ?_ (fun hHeld => ?_)
                      · exact ⟨d0, d1, d2, d3, d4, d5, d6, d7⟩
                      refine wpAnyH_take (i := 0) (oi := ⟨_, _, _, _, _, _⟩) (v := ?_) rfl (by kernel_rfl) (by kernel_rfl) (by kernel_rfl) (fun _ _ _ h => h) (Or.inl ⟨by rfl, ?_⟩) hHeld ?_
                      rotate_left
                      · intro w' hSw
                        try dsimp only at hSw
                        go_simp
                        all_goals with_reducible rfl
                      simp only [Act.put, List.setIfInBounds_toArray, List.set_cons_zero, List.set_cons_succ]
                      refine wpAnyH_take (i := 1) (oi := ⟨_, _, _, _, _, _⟩) (v := ?_) rfl (by kernel_rfl) (by kernel_rfl) (by kernel_rfl) (fun _ _ _ h => h) (Or.inl ⟨by rfl, ?_⟩) hHeld ?_
                      rotate_left
                      · intro w' hSw
                        try dsimp only at hSw
                        go_simp
                        all_goals with_reducible rfl
                      simp only [Act.put, List.setIfInBounds_toArray, List.set_cons_zero, List.set_cons_succ]
                      refine wpAnyH_take (i := 2) (oi := ⟨_, _, _, _, _, _⟩) (v := ?_) rfl (by kernel_rfl) (by kernel_rfl) (by kernel_rfl) (fun _ _ _ h => h) (Or.inl ⟨by rfl, ?_⟩) hHeld ?_
                      rotate_left
                      · intro w' hSw
                        try dsimp only at hSw
                        go_simp
                        all_goals with_reducible rfl
                      simp only [Act.put, List.setIfInBounds_toArray, List.set_cons_zero, List.set_cons_succ]
                      refine wpAnyH_take (i := 3) (oi := ⟨_, _, _, _, _, _⟩) (v := ?_) rfl (by kernel_rfl) (by kernel_rfl) (by kernel_rfl) (fun _ _ _ h => h) (Or.inl ⟨by rfl, ?_⟩) hHeld ?_
                      rotate_left
                      · intro w' hSw
                        try dsimp only at hSw
                        go_simp
                        all_goals with_reducible rfl
                      simp only [Act.put, List.setIfInBounds_toArray, List.set_cons_zero, List.set_cons_succ]
                      refine wpAnyH_take (i := 4) (oi := ⟨_, _, _, _, _, _⟩) (v := ?_) rfl (by kernel_rfl) (by kernel_rfl) (by kernel_rfl) (fun _ _ _ h => h) (Or.inl ⟨by rfl, ?_⟩) hHeld ?_
                      rotate_left
                      · intro w' hSw
                        try dsimp only at hSw
                        go_simp
                        all_goals with_reducible rfl
                      simp only [Act.put, List.setIfInBounds_toArray, List.set_cons_zero, List.set_cons_succ]
                      refine wpAnyH_take (i := 5) (oi := ⟨_, _, _, _, _, _⟩) (v := ?_) rfl (by kernel_rfl) (by kernel_rfl) (by kernel_rfl) (fun _ _ _ h => h) (Or.inl ⟨by rfl, ?_⟩) hHeld ?_
                      rotate_left
                      · intro w' hSw
                        try dsimp only at hSw
                        go_simp
                        all_goals with_reducible rfl
                      simp only [Act.put, List.setIfInBounds_toArray, List.set_cons_zero, List.set_cons_succ]
                      refine wpAnyH_take (i := 6) (oi := ⟨_, _, _, _, _, _⟩) (v := ?_) rfl (by kernel_rfl) (by kernel_rfl) (by kernel_rfl) (fun _ _ _ h => h) (Or.inl ⟨by rfl, ?_⟩) hHeld ?_
                      rotate_left
                      · intro w' hSw
                        try dsimp only at hSw
                        go_simp
                        all_goals with_reducible rfl
                      simp only [Act.put, List.setIfInBounds_toArray, List.set_cons_zero, List.set_cons_succ]
                      refine wpAnyH_take (i := 7) (oi := ⟨_, _, _, _, _, _⟩) (v := ?_) rfl (by kernel_rfl) (by kernel_rfl) (by kernel_rfl) (fun _ _ _ h => h) (Or.inl ⟨by rfl, ?_⟩) hHeld ?_
                      rotate_left
                      · intro w' hSw
                        try dsimp only at hSw
                        go_simp
                        all_goals with_reducible rfl
                      simp only [Act.put, List.setIfInBounds_toArray, List.set_cons_zero, List.set_cons_succ]
                      refine wpAnyH_take (i := 8) (oi := ⟨_, _, _, _, _, _⟩) (v := ?_) rfl (by kernel_rfl) (by kernel_rfl) (by kernel_rfl) (fun _ _ _ h => h) (Or.inl ⟨by rfl, ?_⟩) hHeld ?_
                      rotate_left
                      · intro w' hSw
                        try dsimp only at hSw
                        go_simp
                        all_goals with_reducible rfl
                      simp only [Act.put, List.setIfInBounds_toArray, List.set_cons_zero, List.set_cons_succ]
                      refine wpAnyH_take (i := 9) (oi := ⟨_, _, _, _, _, _⟩) (v := ?_) rfl (by kernel_rfl) (by kernel_rfl) (by kernel_rfl) (fun _ _ _ h => h) (Or.inl ⟨by rfl, ?_⟩) hHeld ?_
                      rotate_left
                      · intro w' hSw
                        try dsimp only at hSw
                        go_simp
                        all_goals with_reducible rfl
                      simp only [Act.put, List.setIfInBounds_toArray, List.set_cons_zero, List.set_cons_succ]
                      refine wpAnyH_take (i := 10) (oi := ⟨_, _, _, _, _, _⟩) (v := ?_) rfl (by kernel_rfl) (by kernel_rfl) (by kernel_rfl) (fun _ _ _ h => h) (Or.inl ⟨by rfl, ?_⟩) hHeld ?_
                      rotate_left
                      · intro w' hSw
                        try dsimp only at hSw
                        go_simp
                        all_goals with_reducible rfl
                      simp only [Act.put, List.setIfInBounds_toArray, List.set_cons_zero, List.set_cons_succ]
                      refine wpAnyH_take (i := 11) (oi := ⟨_, _, _, _, _, _⟩) (v := ?_) rfl (by kernel_rfl) (by kernel_rfl) (by kernel_rfl) (fun _ _ _ h => h) (Or.inl ⟨by rfl, ?_⟩) hHeld ?_
                      rotate_left
                      · intro w' hSw
                        try dsimp only at hSw
                        go_simp
                        all_goals with_reducible rfl
                      simp only [Act.put, List.setIfInBounds_toArray, List.set_cons_zero, List.set_cons_succ]
                      refine wpAnyH_take (i := 12) (oi := ⟨_, _, _, _, _, _⟩) (v := ?_) rfl (by kernel_rfl) (by kernel_rfl) (by kernel_rfl) (fun _ _ _ h => h) (Or.inl ⟨by rfl, ?_⟩) hHeld ?_
                      rotate_left
                      · intro w' hSw
                        try dsimp only at hSw
                        go_simp
                        all_goals with_reducible rfl
                      simp only [Act.put, List.setIfInBounds_toArray, List.set_cons_zero, List.set_cons_succ]
                      refine wpAnyH_take (i := 13) (oi := ⟨_, _, _, _, _, _⟩) (v := ?_) rfl (by kernel_rfl) (by kernel_rfl) (by kernel_rfl) (fun _ _ _ h => h) (Or.inl ⟨by rfl, ?_⟩) hHeld ?_
                      rotate_left
                      · intro w' hSw
                        try dsimp only at hSw
                        go_simp
                        all_goals with_reducible rfl
                      simp only [Act.put, List.setIfInBounds_toArray, List.set_cons_zero, List.set_cons_succ]
                      refine wpAnyH_take (i := 14) (oi := ⟨_, _, _, _, _, _⟩) (v := ?_) rfl (by kernel_rfl) (by kernel_rfl) (by kernel_rfl) (fun _ _ _ h => h) (Or.inl ⟨by rfl, ?_⟩) hHeld ?_
                      rotate_left
                      · intro w' hSw
                        try dsimp only at hSw
                        go_simp
                        all_goals with_reducible rfl
                      simp only [Act.put, List.setIfInBounds_toArray, List.set_cons_zero, List.set_cons_succ]
                      refine wpAnyH_take (i := 15) (oi := ⟨_, _, _, _, _, _⟩) (v := undef) rfl (by kernel_rfl) (by kernel_rfl) (by kernel_rfl) (fun _ _ _ h => h) (Or.inr ⟨by rfl, rfl⟩) hHeld ?_
                      simp only [Act.put, List.setIfInBounds_toArray, List.set_cons_zero, List.set_cons_succ]
                      refine wpAnyH_take (i := 16) (oi := ⟨_, _, _, _, _, _⟩) (v := undef) rfl (by kernel_rfl) (by kernel_rfl) (by kernel_rfl) (fun _ _ _ h => h) (Or.inr ⟨by rfl, rfl⟩) hHeld ?_
                      simp only [Act.put, List.setIfInBounds_toArray, List.set_cons_zero, List.set_cons_succ]
                      refine wpAnyH_take (i := 17) (oi := ⟨_, _, _, _, _, _⟩) (v := undef) rfl (by kernel_rfl) (by kernel_rfl) (by kernel_rfl) (fun _ _ _ h => h) (Or.inr ⟨by rfl, rfl⟩) hHeld ?_
                      simp only [Act.put, List.setIfInBounds_toArray, List.set_cons_zero, List.set_cons_succ]
                      refine wpAnyH_take (i := 18) (oi := ⟨_, _, _, _, _, _⟩) (v := undef) rfl (by kernel_rfl) (by kernel_rfl) (by kernel_rfl) (fun _ _ _ h => h) (Or.inr ⟨by rfl, rfl⟩) hHeld ?_
                      simp only [Act.put, List.setIfInBounds_toArray, List.set_cons_zero, List.set_cons_succ]
                      refine wpAnyH_take (i := 19) (oi := ⟨_, _, _, _, _, _⟩) (v := undef) rfl (by kernel_rfl) (by kernel_rfl) (by kernel_rfl) (fun _ _ _ h => h) (Or.inr ⟨by rfl, rfl⟩) hHeld ?_
                      simp only [Act.put, List.setIfInBounds_toArray, List.set_cons_zero, List.set_cons_succ]
                      refine wpAnyH_take (i := 20) (oi := ⟨_, _, _, _, _, _⟩) (v := undef) rfl (by kernel_rfl) (by kernel_rfl) (by kernel_rfl) (fun _ _ _ h => h) (Or.inr ⟨by rfl, rfl⟩) hHeld ?_
                      simp only [Act.put, List.setIfInBounds_toArray, List.set_cons_zero, List.set_cons_succ]
                      refine wpAnyH_take (i := 21) (oi := ⟨_, _, _, _, _, _⟩) (v := undef) rfl (by kernel_rfl) (by kernel_rfl) (by kernel_rfl) (fun _ _ _ h => h) (Or.inr ⟨by rfl, rfl⟩) hHeld ?_
                      simp only [Act.put, List.setIfInBounds_toArray, List.set_cons_zero, List.set_cons_succ]
                      refine wpAnyH_take (i := 22) (oi := ⟨_, _, _, _, _, _⟩) (v := ?_) rfl (by kernel_rfl) (by kernel_rfl) (by kernel_rfl) (fun _ _ _ h => h) (Or.inl ⟨by rfl, ?_⟩) hHeld ?_
                      rotate_left
                      · intro w' hSw
                        try dsimp only at hSw
                        go_simp
                        all_goals with_reducible rfl
                      simp only [Act.put, List.setIfInBounds_toArray, List.set_cons_zero, List.set_cons_succ]
                      refine wpAnyH_done (by kernel_rfl) ?_ _
                      refine NoPanic.normal ?_
                      clear hHeld d0 d1 d2 d3 d4 d5 d6 d7
                      have H3 := HD
                      have HB3 := HBD
                      go_wp2
                      go_roundg (PN - (i2 + 1))
                      case measure => have := HI2.out; omega
                      case rel => exact ⟨i2 + 1, by go_num, HI2.out, Nat.le_refl _, H3, HB3⟩
                · go_wp2
                  go_roundg (LM - (j + 1))
                  case measure => have := HJ.out; omega
                  case rel => exact ⟨j + 1, by go_num, HJ.out, Nat.le_refl _, H, HB8⟩
          · obtain rfl : j = LM := by omega
            have tt := H.out.tat
            go_wp2_with fail
            refine (planAlive_any _).mono ?_
            rintro e w9 ⟨rfl, b9⟩
            have H9 := Hid.of (H.out.next b9)
            clear b9
            go_wp2
            go_ret
            exact ⟨rfl, H9.out.fr⟩

end Go.Proofs.Ytiomoobeklpkmaa
