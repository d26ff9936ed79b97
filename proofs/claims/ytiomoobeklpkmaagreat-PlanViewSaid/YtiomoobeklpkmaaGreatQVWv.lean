/-
 PlanView: what a plan builds is just what an empty store under the new policy has, down to the plan's bases, of all samples that ever came.
-/
import Derived.Test.YtiomoobeklpkmaaGreatV45
import Derived.Test.YtiomoobeklpkmaaGreatV53
import Derived.Test.YtiomoobeklpkmaaGreatV52
import Derived.Test.YtiomoobeklpkmaaGreatV46
import Derived.Test.YtiomoobeklpkmaaGreatV05
namespace Go.Proofs.YtiomoobeklpkmaaGreat
open Go.RowKit Go.Lib

theorem blk_next {w w' : World} {y : Nat} {o : Obj} (h : w.heap[y]? = some o) (c : Below w.heap.size w w') : w'.heap[y]? = some o := by
 rw [c.block y (Array.getElem?_eq_some_iff.1 h).1]
 exact h

theorem asam_info2 : (Tryz.prog.info? 178).map (fun i => (i.zero, i.size, i.bytes)) = some (some (.agg #[.string ⟨#[]⟩, .int .i64 0, .int .i64 0]), 3, 32) := by kernel_rfl

set_option maxRecDepth 20000 in
set_option maxHeartbeats 12800000 in
theorem planView_main {TS : TableSpec} (S : TiersSpec TS) (pv tv lv : Value) (p0 q : PolL) (now : Int) (l : List IOpL) (w : World) (hS : S.Ok w) (hp : PolRow w pv p0) (fp : ∀ x ∈ p0.2, TIn x) (ht : PolRow w tv q) (fq : ∀ x ∈ q.2, TIn x) (hn : In64 now) (hl : IOpsRow w lv l) :
  Calls Tryz.prog 5 #[pv, tv, .int .i64 now, lv] w fun e w' => e = .returned (.bool true) ∧ Below w.heap.size w w' := by
 have HP0 := Hid.of hp
 have HT0 := Hid.of ht
 obtain ⟨pn, pt⟩ := p0
 obtain ⟨qs, rfl, hps, -⟩ := hp
 obtain ⟨psa, psc, rfl, -⟩ := hps
 obtain ⟨PN, hPN⟩ : ∃ PN, pt.length = PN := ⟨_, rfl⟩
 simp only at HP0 ⊢
 rw [hPN] at HP0 ⊢
 have HPN := Hid.of hPN
 obtain ⟨tn, tt⟩ := q
 obtain ⟨ts, rfl, hts, -⟩ := ht
 have HTS := Hid.of hts
 obtain ⟨ta, tc, rfl, -⟩ := hts
 obtain ⟨QN, hQN⟩ : ∃ QN, tt.length = QN := ⟨_, rfl⟩
 simp only at HT0 HTS ⊢
 rw [hQN] at HT0 HTS ⊢
 have HQN := Hid.of hQN
 clear hPN hQN
 obtain ⟨z, hz⟩ : ∃ z, w.heap.size = z := ⟨_, rfl⟩
 obtain ⟨w1, hw1⟩ : ∃ w1, (w.alloc (.cells #[.string pn, .slice psa PN psc] 24)).alloc (.cells #[.string tn, .slice ta QN tc] 24) = w1 := ⟨_, rfl⟩
 have htwo : Below w.heap.size w w1 ∧ w1.heap[z]? = some (.cells #[.string pn, .slice psa PN psc] 24 (0, 0)) ∧ w1.heap[z + 1]? = some (.cells #[.string tn, .slice ta QN tc] 24 (0, 0)) := by
  rw [← hw1, ← hz]
  obtain ⟨wa, ha⟩ : ∃ wa, w.alloc (.cells #[.string pn, .slice psa PN psc] 24) = wa := ⟨_, rfl⟩
  have a0 : wa.heap[w.heap.size]? = some (.cells #[.string pn, .slice psa PN psc] 24 (0, 0)) := by rw [← ha]; exact (MapKept.heap_alloc w _).1
  have asz : wa.heap.size = w.heap.size + 1 := by rw [← ha]; simp
  have ab : Below w.heap.size w wa := by rw [← ha]; exact (Below.refl _ _).alloc (Nat.le_refl _) _
  rw [ha]
  obtain ⟨wb, hb⟩ : ∃ wb, wa.alloc (.cells #[.string tn, .slice ta QN tc] 24) = wb := ⟨_, rfl⟩
  have b0 : wb.heap[w.heap.size + 1]? = some (.cells #[.string tn, .slice ta QN tc] 24 (0, 0)) := by rw [← hb, ← asz]; exact (MapKept.heap_alloc wa _).1
  have bb : Below wa.heap.size wa wb := by rw [← hb]; exact (Below.refl _ _).alloc (Nat.le_refl _) _
  rw [hb]
  exact ⟨ab.trans (bb.mono (by omega)), by rw [bb.block _ (by omega)]; exact a0, b0⟩
 obtain ⟨b1, k0, k1⟩ := htwo
 have CS1 : Hid (Dc w1 [(⟨z, 0, none⟩, .string pn), (⟨z, 1, none⟩, .slice psa PN psc), (⟨z + 1, 0, none⟩, .string tn), (⟨z + 1, 1, none⟩, .slice ta QN tc)]) := Hid.of (Dc.app (Dc.one k0 (i := 0) rfl) (Dc.app (Dc.one k0 (i := 1) rfl) (Dc.app (Dc.one k1 (i := 0) rfl) (Dc.one k1 (i := 1) rfl))))
 have B1 := Hid.of b1
 have OK := Hid.of (S.okKept hS b1)
 have FP := Hid.of fp
 have FQ := Hid.of fq
 have HL := Hid.of hl
 obtain ⟨⟨va, vc, rfl, -⟩, -⟩ := hl
 obtain ⟨N, hN⟩ : ∃ N, l.length = N := ⟨_, rfl⟩
 have NL := Hid.of hN
 have HR : Hid (CellRow w (.slice va N vc) N (flat IOpL.cells l)) := Hid.of (by rw [← hN]; exact HL.out.1)
 have HN := Hid.of hn
 obtain ⟨i0, hi0, hz0, hz1, hz2⟩ := info_parts asam_info2
 have HI := Hid.of hi0
 have HZ0 := Hid.of hz0
 have HZ1 := Hid.of hz1
 have HZ2 := Hid.of hz2
 rw [hN]
 have HW := Hid.of hw1
 have HZ := Hid.of hz
 have BF : ∀ u, Below w1.heap.size w1 u → Hid (Below w.heap.size w u) := fun u hu => Hid.of (B1.out.trans (hu.mono B1.out.size))
 clear hS fp fq hN hw1 hz hn hi0 hz0 hz1 hz2 b1 k0 k1
 obtain ⟨q0, q1⟩ : w1.cell? ⟨z, 0, none⟩ = some (.string pn) ∧ w1.cell? ⟨z, 1, none⟩ = some (.slice psa PN psc) := ⟨CS1.out.head, CS1.out.tail.head⟩
 go_enter Tryz.func5, Tryz.ntmps5
 go_upto_region 1 with fail
 rw [HW.out, HZ.out]
 clear HW
 go_wp2_with fail
 refine (Small_any _ (pn, pt) w1 (HP0.out.kept B1.out)).mono ?_
 rintro e w2 ⟨small, rfl, HSM, b2⟩
 have D2 := Hid.of b2
 have B2 := BF _ b2
 have CS2 := Hid.of (CS1.out.next b2)
 clear b2 q0 q1
 cases small
 ·go_wp2_with fail
  refine (planAlive_any _).mono ?_
  rintro e w9 ⟨rfl, b9⟩
  have B9 := Hid.of (B2.out.trans (b9.mono B2.out.size))
  go_wp2
  go_ret
  exact ⟨rfl, B9.out⟩
 have PS := Hid.of (HSM.out (by first | rfl | trivial))
 clear HSM
 obtain ⟨q0, q1⟩ : w2.cell? ⟨z + 1, 0, none⟩ = some (.string tn) ∧ w2.cell? ⟨z + 1, 1, none⟩ = some (.slice ta QN tc) := ⟨CS2.out.tail.tail.head, CS2.out.tail.tail.tail.head⟩
 go_wp2_with fail
 refine (Small_any _ (tn, tt) w2 (HT0.out.kept B2.out)).mono ?_
 rintro e w2b ⟨small, rfl, HSM, b2⟩
 have D2b := Hid.of (D2.out.trans (b2.mono D2.out.size))
 have B2b := BF _ D2b.out
 clear b2 q0 q1 D2 B2 CS2
 cases small
 ·go_wp2_with fail
  refine (planAlive_any _).mono ?_
  rintro e w9 ⟨rfl, b9⟩
  have B9 := Hid.of (B2b.out.trans (b9.mono B2b.out.size))
  go_wp2
  go_ret
  exact ⟨rfl, B9.out⟩
 have QS := Hid.of (HSM.out (by first | rfl | trivial))
 clear HSM
 have hlt := Light_any (.slice va l.length vc) l w2b (HL.out.kept B2b.out)
 rw [NL.out] at hlt
 go_wp2_with fail
 refine hlt.mono ?_
 rintro e w3 ⟨light, rfl, HLI, b3⟩
 have D3 := Hid.of (D2b.out.trans (b3.mono D2b.out.size))
 have B3 := BF _ D3.out
 have CS3 := Hid.of (CS1.out.next D3.out)
 clear b3 hlt D2b B2b
 cases light
 ·go_wp2_with fail
  refine (planAlive_any _).mono ?_
  rintro e w9 ⟨rfl, b9⟩
  have B9 := Hid.of (B3.out.trans (b9.mono B3.out.size))
  go_wp2
  go_ret
  exact ⟨rfl, B9.out⟩
 have LI := Hid.of (HLI.out (by first | rfl | trivial))
 clear HLI
 obtain ⟨q0, q1⟩ : w3.cell? ⟨z, 0, none⟩ = some (.string pn) ∧ w3.cell? ⟨z, 1, none⟩ = some (.slice psa PN psc) := ⟨CS3.out.head, CS3.out.tail.head⟩
 have hnew := S.new (.agg #[.string pn, (.slice psa PN psc)]) (.slice none 0 0) (pn, pt) now [] w3 (S.okKept OK.out D3.out) (HP0.out.kept B3.out) PS.out.2.1 PS.out.1 (fun x hx => ⟨PS.out.2.2 x hx, (FP.out x hx).2⟩) HN.out ⟨_, _, rfl, .inl rfl⟩ (Nat.le_refl _) (by decide) (fun x hx => absurd hx List.not_mem_nil)
 go_wp2_with fail
 refine hnew.mono ?_
 rintro e w4 ⟨h1, h2, b4⟩
 have D4 := Hid.of (D3.out.trans (b4.mono D3.out.size))
 have B4 := BF _ D4.out
 clear q0 q1 CS3
 by_cases he : iNewE (pn, pt) now [] = 0
 case neg =>
  obtain rfl := h2 he
  obtain ⟨er, her⟩ : ∃ er, iNewE (pn, pt) now [] = er := ⟨_, rfl⟩
  rw [her] at he ⊢
  clear her h1 h2 b4 hnew
  go_wp2_with fail
  refine (planAlive_any _).mono ?_
  rintro e w9 ⟨rfl, b9⟩
  have B9 := Hid.of (B4.out.trans (b9.mono B4.out.size))
  go_wp2
  go_ret
  exact ⟨rfl, B9.out⟩
 obtain ⟨p, F, rfl, rep, hF⟩ := h1 he
 have H4 : Hid (IHere S w1.heap.size w1 w4 p (now, (pn, pt), []) (iViews (now, (pn, pt), []) []) F) := Hid.of ⟨by rw [iViews_nil]; exact rep, fun k hk => Nat.le_trans D3.out.size (hF k (S.sub rep k hk)), D4.out.size, D4.out⟩
 have HN50 : N ≤ 50 := by have := LI.out.1; rw [NL.out] at this; exact this
 clear rep hF b4 h1 h2 hnew he B3 B4 D3 D4
 go_wp2
 go_loopg [11, 12] N (fun kx av iv wr => ∃ (i m : Nat) (nw : Int) (all : List SamL) (a : Value) (G : TFoot), a = av ∧ iv = .int .i64 i ∧ i ≤ N ∧ N - i ≤ kx ∧ m ≤ 8 * i ∧ Hid (all.length = m) ∧ Hid (∀ x ∈ all, SFit x) ∧ Hid (∀ x ∈ iViews (nw, (pn, pt), []) all, x.length ≤ 8 * i) ∧ Hid (IHere S w1.heap.size w1 wr p (nw, (pn, pt), []) (iViews (nw, (pn, pt), []) all) G) ∧ Hid (wr.ownsRow w1.heap.size 178 3 a m (flat aenc all)) ∧ Hid (∀ g, a.ownBlock = some g → ¬ G.all g))
 case atStart => exact ⟨0, 0, now, [], _, F, rfl, rfl, Nat.zero_le _, Nat.le_refl _, Nat.zero_le _, Hid.of rfl, Hid.of (fun x hx => absurd hx List.not_mem_nil), Hid.of (fun x hx => by rw [iViews_nil] at hx; rw [List.eq_of_mem_replicate hx]; exact Nat.le_refl _), H4, Hid.of (World.ownsRow_nil _ _ _ _), Hid.of (fun g hg => by cases hg)⟩
 case round =>
  clear H4
  obtain ⟨i, m, nw, all, a, G, rfl, rfl, hiN, hkx, hm, HM, HAF, HT, H, HO, HOF⟩ := hrel
  have hm400 : m ≤ 400 := by omega
  have HMI := Hid.of hm
  have BR := BF _ H.out.fr
  clear hm
  by_cases hlt : (i : Int) < (N : Int)
  ·obtain ⟨o, ho⟩ : ∃ o, l[i]? = some o := ⟨_, List.getElem?_eq_getElem (by have := NL.out; omega)⟩
   have hom := List.mem_of_getElem? ho
   have OI := Hid.of (HL.out.2 o hom)
   have OL := Hid.of (LI.out.2 o hom)
   obtain ⟨bq, o1, rfl, hb1, c0, c1, c2, c3⟩ := iop_at (HR.out.kept BR.out) i o ho
   have HO1 := Hid.of ho
   have hi0 : (0 : Int) ≤ (i : Int) := by omega
   have HIN : Hid (i < N) := Hid.of (by omega)
   have hle8 : ∀ x ∈ iViews (nw, (pn, pt), []) all, x.length + 8 ≤ 1000 := fun x hx => by have := HT.out x hx; omega
   have HLE8 := Hid.of hle8
   clear ho hom hb1 c3 hle8
   by_cases hk : o.k = 1
   ·have hput := S.put _ o.ss (H.out.ok OK.out) H.out.rep HLE8.out (OI.out.s.kept BR.out) OI.out.sc (by have := OL.out.1.1; omega) (fun hne => off_in OI.out.s (sams_ne hne) (fun k hk => Nat.le_trans B1.out.size (H.out.ge k hk))) OI.out.sf
    have hk2 : ¬ o.k = 2 := by omega
    clear c1
    go_wp2_with fail
    refine hput.mono ?_
    rintro e w5 ⟨rfl, G5, rep5, st5⟩
    obtain ⟨ce, hce⟩ : ∃ ce, iCheck (nw, (pn, pt), []) o.ss = ce := ⟨_, rfl⟩
    rw [hce] at rep5 ⊢
    have O5 := Hid.of (st5.own.own HO.out (fun g hg c => HOF.out g hg (S.sub H.out.rep g c)))
    have OF5 : Hid (∀ g, a.ownBlock = some g → ¬ G5.all g) := Hid.of (fun g hg c => by
     rcases st5.more g c with d | d
     ·exact HOF.out g hg d
     ·have := iown_lt' HO.out hg
      omega)
    by_cases hc0 : ce = 0
    ·rw [if_pos hc0] at rep5
     have CZ := Hid.of (iCheck_zero' (hce.trans hc0))
     rw [iViews_put CZ.out.2.2] at rep5
     have H5 := Hid.of (H.out.step rep5 st5)
     have k0 : (ce == 0) = true := by rw [hc0]; rfl
     have BR5 := BF _ H5.out.fr
     obtain ⟨bq', o1', hq', hb1', c0', -, c2', -⟩ := iop_at (HR.out.kept BR5.out) i o HO1.out
     obtain ⟨rfl, rfl⟩ : bq' = bq ∧ o1' = o1 := by
      have := Option.some.inj hq'
      simp only [Addr.mk.injEq] at this
      exact ⟨this.1.symm, this.2.1.symm⟩
     have hsr := OI.out.s.kept BR5.out
     obtain ⟨sb, so, hsa, hsl, hsc⟩ := addr_of hsr (sams_ne CZ.out.1)
     obtain ⟨n8, hn8⟩ : ∃ n, o.ss.length = n := ⟨_, rfl⟩
     have hn8l : n8 ≤ 8 := by rw [← hn8]; exact CZ.out.2.1
     rw [hsa] at c2'
     rw [hn8] at c2'
     have HSC := Hid.of hsc
     have HN8 := Hid.of hn8
     have HT5 : Hid (∀ x ∈ iViews (nw, (pn, pt), []) (all ++ o.ss), x.length ≤ 8 * (i + 1)) := Hid.of (fun x hx => by
      rw [← iViews_put CZ.out.2.2] at hx
      have := iPut_le HT.out x hx
      have := CZ.out.2.1
      omega)
     clear rep5 st5 hput H c0 c2 hce hc0 hq' hb1' hsr hsl hsc hn8 hsa HOF HO HT BR BR5
     go_wp2_with (at_builtin; refine append_keep_law rfl (.tmp 68) (.tmp 73) 87 rfl w1.heap.size 178 i0 _ 3 32 Tryz.underlying87 HI.out HZ0.out HZ1.out HZ2.out rfl (by decide) a m _ rfl O5.out sb so n8 _ (flat aenc o.ss) rfl HSC.out (by rw [flat_length aenc_len, HN8.out]) (by intro x hx; exact flat_ones aenc_one _ x hx) (by unfold maxLen; omega) (by omega) (by have := H5.out.hB; omega) ?_; intro a6 w6 o6 g6 _ m6; have O6 := Hid.of o6; have G6 := Hid.of g6; have M6 := Hid.of m6; have H6 := Hid.of (H5.out.grown g6 (fun k hk => ⟨own_ge O5.out hk, OF5.out k hk⟩)); have BR6 := BF _ H6.out.fr; clear o6 g6 m6 c0' c2'; obtain ⟨bq2, o2, hq2, hb2, c0, c1, c2, c3⟩ := iop_at (HR.out.kept BR6.out) i o HO1.out; obtain ⟨rfl, rfl⟩ : bq2 = bq' ∧ o2 = o1' := (by have := Option.some.inj hq2; simp only [Addr.mk.injEq] at this; exact ⟨this.1.symm, this.2.1.symm⟩); clear hq2 hb2 c1 c2 c3)
     go_roundg (N - (i + 1))
     case measure => have := HIN.out; omega
     case rel =>
      refine ⟨i + 1, m + n8, nw, all ++ o.ss, a6, G5, rfl, by go_num, HIN.out, Nat.le_refl _, by have := HMI.out; omega, Hid.of (by rw [List.length_append, HM.out, HN8.out]), Hid.of (fun x hx => ?_), HT5, H6, Hid.of (by rw [flat_append]; exact O6.out), Hid.of (fun g hg c => ?_)⟩
      ·rcases List.mem_append.1 hx with hx | hx
       ·exact HAF.out x hx
       ·exact OI.out.sf x hx
      ·rcases M6.out with e | ⟨g', e, hg'⟩
       ·exact OF5.out g (e ▸ hg) c
       ·rw [e] at hg
        cases hg
        have := S.lt H5.out.rep _ c
        omega
    ·rw [if_neg hc0] at rep5
     have H5 := Hid.of (H.out.step rep5 st5)
     have k0 : (ce == 0) = false := beq_eq_false_iff_ne.2 hc0
     have BR5 := BF _ H5.out.fr
     obtain ⟨bq', o1', hq', hb1', c0', -, -, -⟩ := iop_at (HR.out.kept BR5.out) i o HO1.out
     obtain ⟨rfl, rfl⟩ : bq' = bq ∧ o1' = o1 := by
      have := Option.some.inj hq'
      simp only [Addr.mk.injEq] at this
      exact ⟨this.1.symm, this.2.1.symm⟩
     clear rep5 st5 hput H c0 c2 hce hc0 hq' hb1' HOF HO BR BR5
     go_wp2
     go_roundg (N - (i + 1))
     case measure => have := HIN.out; omega
     case rel => exact ⟨i + 1, m, nw, all, a, G5, rfl, by go_num, HIN.out, Nat.le_refl _, by have := HMI.out; omega, HM, HAF, Hid.of (fun x hx => by have := HT.out x hx; omega), H5, O5, OF5⟩
   ·by_cases hk2 : o.k = 2
    ·have htk := S.tick o.n (H.out.ok OK.out) H.out.rep (fun x hx => by have := HLE8.out x hx; omega) OI.out.n
     clear c2
     go_wp2_with fail
     refine htk.mono ?_
     rintro e w5 ⟨rfl, G5, rep5, st5⟩
     obtain ⟨te, hte⟩ : ∃ te, iTickE (nw, (pn, pt), []) o.n = te := ⟨_, rfl⟩
     rw [hte] at rep5 ⊢
     have O5 := Hid.of (st5.own.own HO.out (fun g hg c => HOF.out g hg (S.sub H.out.rep g c)))
     have OF5 : Hid (∀ g, a.ownBlock = some g → ¬ G5.all g) := Hid.of (fun g hg c => by
      rcases st5.more g c with d | d
      ·exact HOF.out g hg d
      ·have := iown_lt' HO.out hg
       omega)
     obtain ⟨nw5, T5, rep6⟩ : ∃ nw5 : Int, Hid (∀ x ∈ iViews (nw5, (pn, pt), []) all, x.length ≤ 8 * (i + 1)) ∧ S.Rep w5 p (nw5, (pn, pt), []) (iViews (nw5, (pn, pt), []) all) G5 := by
      by_cases ht0 : te = 0
      ·have tl := tick_len (hte.trans ht0)
       have gd := S.good H.out.rep
       have gn0 : 0 ≤ nw := gd.n0
       have tl2 : o.n ≤ maxT - nw := tl.2
       have ev := iViews_tick gd tl.1 (by unfold maxT at tl2; omega)
       rw [if_pos ht0, if_pos ht0, ev] at rep5
       refine ⟨nw + o.n, Hid.of (fun x hx => ?_), rep5⟩
       have : x ∈ iKeep (iNow (nw, (pn, pt), []) o.n) (iViews (nw, (pn, pt), []) all) := by rw [ev]; exact hx
       have := iKeep_le HT.out x this
       omega
      ·rw [if_neg ht0, if_neg ht0] at rep5
       exact ⟨nw, Hid.of (fun x hx => by have := HT.out x hx; omega), rep5⟩
     have H5 := Hid.of (H.out.step rep6 st5)
     clear rep5 rep6 st5 htk H c0 c1 hte HOF HO BR HT
     go_wp2
     go_roundg (N - (i + 1))
     case measure => have := HIN.out; omega
     case rel => exact ⟨i + 1, m, nw5, all, a, G5, rfl, by go_num, HIN.out, Nat.le_refl _, by have := HMI.out; omega, HM, HAF, T5, H5, O5, OF5⟩
    ·clear c1 c2
     go_wp2
     go_roundg (N - (i + 1))
     case measure => have := HIN.out; omega
     case rel => exact ⟨i + 1, m, nw, all, a, G, rfl, by go_num, HIN.out, Nat.le_refl _, by have := HMI.out; omega, HM, HAF, Hid.of (fun x hx => by have := HT.out x hx; omega), H, HO, HOF⟩
  ·obtain rfl : i = N := by omega
   obtain ⟨sq, fq, d0, d1, d2, d3, drr⟩ := S.cells H.out.rep
   have GD := Hid.of (S.good H.out.rep)
   have FIT := Hid.of (S.fit H.out.rep)
   have cs := CS1.out.next H.out.fr
   have CS0 : Hid (Dc wr [(⟨z, 0, none⟩, .string pn), (⟨z, 1, none⟩, .slice psa PN psc), (⟨z + 1, 0, none⟩, .string tn), (⟨z + 1, 1, none⟩, .slice ta QN tc), (⟨p, 0, none⟩, .int .i64 nw), (⟨p, 1, none⟩, .string pn), (⟨p, 2, none⟩, sq), (⟨p, 3, none⟩, fq)]) := Hid.of (Dc.app cs (.cons (cell_lt d0) d0 (.cons (cell_lt d1) d1 (.cons (cell_lt d2) d2 (.cons (cell_lt d3) d3 (Dc.nil _))))))
   have R0 : Hid (RchRow wr (.agg #[.int .i64 nw, .string pn, sq, fq]) (nw, (pn, pt), [])) := Hid.of drr
   have T0 : Hid (PolRow wr (.agg #[.string pn, .slice psa PN psc]) (pn, pt)) := Hid.of (HP0.out.kept BR.out)
   have U0 : Hid (PolRow wr (.agg #[.string tn, .slice ta QN tc]) (tn, tt)) := Hid.of (HT0.out.kept BR.out)
   have FP0 := Hid.of (fit_of FP.out PS.out)
   have FQ0 := Hid.of (fit_of FQ.out QS.out)
   have HLE : Hid (∀ x ∈ iViews (nw, (pn, pt), []) all, x.length ≤ 1000) := Hid.of (fun x hx => by have := HT.out x hx; omega)
   have H0 := H
   have B0 := BR
   have A0 := HO
   obtain ⟨pl, hpl⟩ : ∃ pl, mMake (pn, pt) (nw, (pn, pt), []) (tn, tt) = pl := ⟨_, rfl⟩
   obtain ⟨er, her⟩ : ∃ er, mErr (pn, pt) (tn, tt) = er := ⟨_, rfl⟩
   have MK : Hid (mErr (pn, pt) (tn, tt) = er ∧ mMake (pn, pt) (nw, (pn, pt), []) (tn, tt) = pl) := Hid.of ⟨her, hpl⟩
   obtain ⟨LN, hLN⟩ : ∃ n, pl.1.2.length = n := ⟨_, rfl⟩
   obtain ⟨LM, hLM⟩ : ∃ n, pl.2.length = n := ⟨_, rfl⟩
   have LL : Hid (pl.1.2.length = LN ∧ pl.2.length = LM) := Hid.of ⟨hLN, hLM⟩
   clear d0 d1 d2 d3 drr cs HT HOF HO H BR hpl her hLN hLM
   go_upto_region 14 with fail
   go_cut [13, 14] from 88 to 97 (fun pv ev wx => ∃ (y : Nat) (an : ByteArray) (asa afa : Option Addr) (asc afc : Nat), pv = .pointer (some ⟨y, 0, none⟩) ∧ ev = .int .i64 er ∧ Hid (Dc wx [(⟨y, 0, none⟩, .string an), (⟨y, 1, none⟩, .slice asa LN asc), (⟨y, 2, none⟩, .slice afa LM afc)]) ∧ Hid (PlanRow wx (.agg #[.string an, .slice asa LN asc, .slice afa LM afc]) pl) ∧ Hid (IHere S w1.heap.size w1 wx p (nw, (pn, pt), []) (iViews (nw, (pn, pt), []) all) G) ∧ Hid (wx.ownsRow w1.heap.size 178 3 a m (flat aenc all)))
   case first =>
    have bD := (Below.refl wr.heap.size wr).drew
    have BD := Hid.of (B0.out.trans (bD.mono B0.out.size))
    have CSD := Hid.of (CS0.out.next bD)
    have TD := Hid.of (T0.out.kept bD)
    have UD := Hid.of (U0.out.kept bD)
    have RD := Hid.of (R0.out.kept bD)
    have HD := Hid.of (H0.out.next bD)
    have AD := Hid.of (iown_kept' A0.out bD)
    clear bD
    have d0 := (CS0.out).head
    have d1 := ((CS0.out).tail).head
    have d2 := (((CS0.out).tail).tail).head
    have d3 := ((((CS0.out).tail).tail).tail).head
    have d4 := (((((CS0.out).tail).tail).tail).tail).head
    have d5 := ((((((CS0.out).tail).tail).tail).tail).tail).head
    have d6 := (((((((CS0.out).tail).tail).tail).tail).tail).tail).head
    have d7 := ((((((((CS0.out).tail).tail).tail).tail).tail).tail).tail).head
    refine wp_region_noPanic ?_
    refine wp_region_held_drew (S := fun w' => w'.cell? ⟨z, 0, none⟩ = some (.string pn) ∧ w'.cell? ⟨z, 1, none⟩ = some (.slice psa PN psc) ∧ w'.cell? ⟨z + 1, 0, none⟩ = some (.string tn) ∧ w'.cell? ⟨z + 1, 1, none⟩ = some (.slice ta QN tc) ∧ w'.cell? ⟨p, 0, none⟩ = some (.int .i64 nw) ∧ w'.cell? ⟨p, 1, none⟩ = some (.string pn) ∧ w'.cell? ⟨p, 2, none⟩ = some (sq) ∧ w'.cell? ⟨p, 3, none⟩ = some (fq)) (by kernel_rfl) ?_ (fun hHeld => ?_)
    ·exact ⟨d0, d1, d2, d3, d4, d5, d6, d7⟩
    clear B0 CS0 T0 U0 R0 H0 A0
    refine takeOp 0 (o := ⟨_, _, _, _, _, _⟩) (v := ?_) rfl (by kernel_rfl) (by rfl) hHeld ?_ ?_; rotate_left; (next => intro w' hSw; (try dsimp only at hSw); go_simp; all_goals with_reducible rfl); simp only [Act.put, pA9, pB9, pC9]
    refine takeOp 1 (o := ⟨_, _, _, _, _, _⟩) (v := ?_) rfl (by kernel_rfl) (by rfl) hHeld ?_ ?_; rotate_left; (next => intro w' hSw; (try dsimp only at hSw); go_simp; all_goals with_reducible rfl); simp only [Act.put, pA9, pB9, pC9]
    refine takeOp 2 (o := ⟨_, _, _, _, _, _⟩) (v := ?_) rfl (by kernel_rfl) (by rfl) hHeld ?_ ?_; rotate_left; (next => intro w' hSw; (try dsimp only at hSw); go_simp; all_goals with_reducible rfl); simp only [Act.put, pA9, pB9, pC9]
    refine takeOp 3 (o := ⟨_, _, _, _, _, _⟩) (v := ?_) rfl (by kernel_rfl) (by rfl) hHeld ?_ ?_; rotate_left; (next => intro w' hSw; (try dsimp only at hSw); go_simp; all_goals with_reducible rfl); simp only [Act.put, pA9, pB9, pC9]
    refine takeOp 4 (o := ⟨_, _, _, _, _, _⟩) (v := ?_) rfl (by kernel_rfl) (by rfl) hHeld ?_ ?_; rotate_left; (next => intro w' hSw; (try dsimp only at hSw); go_simp; all_goals with_reducible rfl); simp only [Act.put, pA9, pB9, pC9]
    refine takeOp 5 (o := ⟨_, _, _, _, _, _⟩) (v := ?_) rfl (by kernel_rfl) (by rfl) hHeld ?_ ?_; rotate_left; (next => intro w' hSw; (try dsimp only at hSw); go_simp; all_goals with_reducible rfl); simp only [Act.put, pA9, pB9, pC9]
    refine wpAnyH_ready (rs := [6, 10]) (by kernel_rfl) (by simp) ?_
    refine AllReadyH.cons (o := ⟨_, _, _, _, _, _⟩) rfl (fun K hK => ?_) (AllReadyH.cons (o := ⟨_, _, _, _, _, _⟩) rfl (fun K hK => ?_) AllReadyH.nil)
    ·go_simp
     refine (make_any _ _ _ (pn, pt) (tn, tt) (nw, (pn, pt), []) _ FP0.out FQ0.out FIT.out TD.out RD.out UD.out).mono ?_
     rintro e w91 ⟨u6, rfl, ou, b91⟩
     rw [MK.out.1]
     rw [MK.out.2] at ou
     have L91 := Hid.of ou.row
     clear ou
     obtain ⟨ps, pf, hu, hps, hpf, -⟩ := L91.out
     subst hu
     obtain ⟨asa, asc, rfl, -⟩ := hps
     obtain ⟨afa, afc, rfl, -⟩ := hpf
     unfold plVal at L91 ⊢
     obtain ⟨an, hpn⟩ : ∃ pn, pl.1.1 = pn := ⟨_, rfl⟩
     rw [hpn, LL.out.1, LL.out.2] at L91 ⊢
     clear hpn
     have B91 := Hid.of (BD.out.trans (b91.mono BD.out.size))
     have CS91 := Hid.of (CSD.out.next b91)
     have H91 := Hid.of (HD.out.next b91)
     have A91 := Hid.of (iown_kept' AD.out b91)
     clear b91 BD CSD HD AD
     clear RD TD UD
     clear hHeld d0 d1 d2 d3 d4 d5 d6 d7
     have d0 := (CS91.out).head
     have d1 := ((CS91.out).tail).head
     have d2 := (((CS91.out).tail).tail).head
     have d3 := ((((CS91.out).tail).tail).tail).head
     have d4 := (((((CS91.out).tail).tail).tail).tail).head
     have d5 := ((((((CS91.out).tail).tail).tail).tail).tail).head
     have d6 := (((((((CS91.out).tail).tail).tail).tail).tail).tail).head
     have d7 := ((((((((CS91.out).tail).tail).tail).tail).tail).tail).tail).head
     refine hK.out _ _ ⟨d0, d1, d2, d3, d4, d5, d6, d7⟩ (fun hHeld => ?_)
     clear hK K
     try simp only [Act.put, pA9, pB9, pC9]
     refine takeOp 7 (o := ⟨_, _, _, _, _, _⟩) (v := ?_) rfl (by kernel_rfl) (by rfl) hHeld ?_ ?_; rotate_left; (next => intro w' hSw; (try dsimp only at hSw); go_simp; all_goals with_reducible rfl); simp only [Act.put, pA9, pB9, pC9]
     refine takeOp 8 (o := ⟨_, _, _, _, _, _⟩) (v := ?_) rfl (by kernel_rfl) (by rfl) hHeld ?_ ?_; rotate_left; (next => intro w' hSw; (try dsimp only at hSw); go_simp; all_goals with_reducible rfl); simp only [Act.put, pA9, pB9, pC9]
     refine takeOp 9 (o := ⟨_, _, _, _, _, _⟩) (v := ?_) rfl (by kernel_rfl) (by rfl) hHeld ?_ ?_; rotate_left; (next => intro w' hSw; (try dsimp only at hSw); go_simp; all_goals with_reducible rfl); simp only [Act.put, pA9, pB9, pC9]
     refine wpAnyH_ready (rs := [10]) (by kernel_rfl) (by simp) ?_
     refine AllReadyH.cons (o := ⟨_, _, _, _, _, _⟩) rfl (fun K hK => ?_) AllReadyH.nil
     go_simp
     obtain ⟨y, hy⟩ : ∃ y, (w91).heap.size = y := ⟨_, rfl⟩
     obtain ⟨w92, hw92⟩ : ∃ w92, (w91).alloc (.cells #[.string ⟨#[]⟩, .slice none 0 0, .slice none 0 0] 49) = w92 := ⟨_, rfl⟩
     have hx92 : (w91).alloc (.cells #[.string ⟨#[]⟩, .slice none 0 0, .slice none 0 0] 49) = w92 := hw92
     have b92 : Below (w91).heap.size (w91) w92 := by rw [← hx92]; exact (Below.refl _ _).alloc (Nat.le_refl _) _
     have K92 : Hid (w92.heap[y]? = some (.cells #[.string ⟨#[]⟩, .slice none 0 0, .slice none 0 0] 49 (0, 0))) := Hid.of (by rw [← hx92, ← hy]; exact (MapKept.heap_alloc (w91) _).1)
     have HLY : Hid (w.heap.size ≤ y) := Hid.of (by rw [← hy]; exact B91.out.size)
     have HLZ : Hid (∀ x ∈ ([(⟨z, 0, none⟩, .string pn), (⟨z, 1, none⟩, .slice psa PN psc), (⟨z + 1, 0, none⟩, .string tn), (⟨z + 1, 1, none⟩, .slice ta QN tc), (⟨p, 0, none⟩, .int .i64 nw), (⟨p, 1, none⟩, .string pn), (⟨p, 2, none⟩, sq), (⟨p, 3, none⟩, fq)] : List (Addr × Value)), x.1.block < y) := Hid.of (fun x hx => by rw [← hy]; exact (CS91.out x hx).1)
     have HFY : Hid (∀ k, G.all k → k < y) := Hid.of (fun k hk => by rw [← hy]; exact S.lt H91.out.rep k hk)
     have HLY1 : Hid (w1.heap.size ≤ y) := Hid.of (by rw [← hy]; exact H91.out.fr.size)
     have HAY : Hid (∀ g, a.ownBlock = some g → g < y) := Hid.of (fun g hg => by rw [← hy]; exact iown_lt A91.out hg)
     rw [hw92, hy]
     clear hw92 hx92 hy
     have B92 := Hid.of (B91.out.trans (b92.mono B91.out.size))
     have CS92 := Hid.of (CS91.out.next b92)
     have H92 := Hid.of (H91.out.next b92)
     have A92 := Hid.of (iown_kept' A91.out b92)
     have L92 := Hid.of (L91.out.kept b92)
     clear b92 B91 CS91 H91 A91 L91
     clear hHeld d0 d1 d2 d3 d4 d5 d6 d7
     have d0 := (CS92.out).head
     have d1 := ((CS92.out).tail).head
     have d2 := (((CS92.out).tail).tail).head
     have d3 := ((((CS92.out).tail).tail).tail).head
     have d4 := (((((CS92.out).tail).tail).tail).tail).head
     have d5 := ((((((CS92.out).tail).tail).tail).tail).tail).head
     have d6 := (((((((CS92.out).tail).tail).tail).tail).tail).tail).head
     have d7 := ((((((((CS92.out).tail).tail).tail).tail).tail).tail).tail).head
     refine hK.out _ _ ⟨d0, d1, d2, d3, d4, d5, d6, d7⟩ (fun hHeld => ?_)
     clear hK K
     try simp only [Act.put, pA9, pB9, pC9]
     refine wpAnyH_ready (rs := [11]) (by kernel_rfl) (by simp) ?_
     refine AllReadyH.cons (o := ⟨_, _, _, _, _, _⟩) rfl (fun K hK => ?_) AllReadyH.nil
     have k0 := K92.out
     have f0 := row_frozen (i := 0) k0
     have f1 := row_frozen (i := 1) k0
     have f2 := row_frozen (i := 2) k0
     obtain ⟨t0, t1, t2⟩ := lblk_at k0
     go_simp
     clear f0 f1 f2 t0 t1 t2
     have KZ := Hid.of (lblk_set (n' := an) (s' := .slice asa LN asc) (f' := .slice afa LM afc) k0)
     have gz := setL_grown w92 y an (.slice asa LN asc) (.slice afa LM afc)
     have CSZ := Hid.of (CS92.out.grown gz (fun x hx c => by have h1 := Option.some.inj c; have h2 := HLZ.out x hx; omega))
     have LZ : Hid (PlanRow (setL w92 y an (.slice asa LN asc) (.slice afa LM afc)) (.agg #[.string an, .slice asa LN asc, .slice afa LM afc]) pl) := Hid.of (plan_off k0 gz L92.out)
     have HZ9 : Hid (IHere S w1.heap.size w1 (setL w92 y an (.slice asa LN asc) (.slice afa LM afc)) p (nw, (pn, pt), []) (iViews (nw, (pn, pt), []) all) G) := Hid.of (H92.out.new_off gz HLY1.out HFY.out)
     have AZ9 : Hid ((setL w92 y an (.slice asa LN asc) (.slice afa LM afc)).ownsRow w1.heap.size 178 3 a m (flat aenc all)) := Hid.of (iown_at A92.out (fun g hg => gz.block g (iown_lt A92.out hg) (fun c => by have h1 := Option.some.inj c; have h2 := HAY.out g hg; omega)))
     clear gz k0
     unfold setL at KZ CSZ LZ HZ9 AZ9
     clear hHeld d0 d1 d2 d3 d4 d5 d6 d7
     have d0 := (CSZ.out).head
     have d1 := ((CSZ.out).tail).head
     have d2 := (((CSZ.out).tail).tail).head
     have d3 := ((((CSZ.out).tail).tail).tail).head
     have d4 := (((((CSZ.out).tail).tail).tail).tail).head
     have d5 := ((((((CSZ.out).tail).tail).tail).tail).tail).head
     have d6 := (((((((CSZ.out).tail).tail).tail).tail).tail).tail).head
     have d7 := ((((((((CSZ.out).tail).tail).tail).tail).tail).tail).tail).head
     refine hK.out _ _ ⟨d0, d1, d2, d3, d4, d5, d6, d7⟩ (fun hHeld => ?_)
     clear hK K
     try simp only [Act.put, pA9, pB9, pC9]
     refine takeOp 12 (o := ⟨_, _, _, _, _, _⟩) (v := ?_) rfl (by kernel_rfl) (by rfl) hHeld ?_ ?_; rotate_left; (next => intro w' hSw; (try dsimp only at hSw); go_simp; all_goals with_reducible rfl); simp only [Act.put, pA9, pB9, pC9]
     refine wpAnyH_done (by kernel_rfl) ?_ _
     refine NoPanic.normal ?_
     clear hHeld d0 d1 d2 d3 d4 d5 d6 d7
     go_wp2_with fail
     go_meet
     exact ⟨y, an, asa, afa, asc, afc, rfl, rfl, Hid.of (Dc.app (Dc.one KZ.out (i := 0) rfl) (Dc.app (Dc.one KZ.out (i := 1) rfl) (Dc.one KZ.out (i := 2) rfl))), LZ, HZ9, AZ9⟩
    ·go_simp
     obtain ⟨y, hy⟩ : ∃ y, (wr).heap.size = y := ⟨_, rfl⟩
     obtain ⟨w93, hw93⟩ : ∃ w93, (wr.alloc (.cells #[.string ⟨#[]⟩, .slice none 0 0, .slice none 0 0] 49)).drew = w93 := ⟨_, rfl⟩
     have hx93 : (wr.drew).alloc (.cells #[.string ⟨#[]⟩, .slice none 0 0, .slice none 0 0] 49) = w93 := hw93
     have b93 : Below (wr.drew).heap.size (wr.drew) w93 := by rw [← hx93]; exact (Below.refl _ _).alloc (Nat.le_refl _) _
     have K93 : Hid (w93.heap[y]? = some (.cells #[.string ⟨#[]⟩, .slice none 0 0, .slice none 0 0] 49 (0, 0))) := Hid.of (by rw [← hx93, ← hy]; exact (MapKept.heap_alloc (wr.drew) _).1)
     have HLY : Hid (w.heap.size ≤ y) := Hid.of (by rw [← hy]; exact BD.out.size)
     have HLZ : Hid (∀ x ∈ ([(⟨z, 0, none⟩, .string pn), (⟨z, 1, none⟩, .slice psa PN psc), (⟨z + 1, 0, none⟩, .string tn), (⟨z + 1, 1, none⟩, .slice ta QN tc), (⟨p, 0, none⟩, .int .i64 nw), (⟨p, 1, none⟩, .string pn), (⟨p, 2, none⟩, sq), (⟨p, 3, none⟩, fq)] : List (Addr × Value)), x.1.block < y) := Hid.of (fun x hx => by rw [← hy]; exact (CSD.out x hx).1)
     have HFY : Hid (∀ k, G.all k → k < y) := Hid.of (fun k hk => by rw [← hy]; exact S.lt HD.out.rep k hk)
     have HLY1 : Hid (w1.heap.size ≤ y) := Hid.of (by rw [← hy]; exact HD.out.fr.size)
     have HAY : Hid (∀ g, a.ownBlock = some g → g < y) := Hid.of (fun g hg => by rw [← hy]; exact iown_lt AD.out hg)
     rw [hw93, hy]
     clear hw93 hx93 hy
     have B93 := Hid.of (BD.out.trans (b93.mono BD.out.size))
     have CS93 := Hid.of (CSD.out.next b93)
     have T93 := Hid.of (TD.out.kept b93)
     have U93 := Hid.of (UD.out.kept b93)
     have R93 := Hid.of (RD.out.kept b93)
     have H93 := Hid.of (HD.out.next b93)
     have A93 := Hid.of (iown_kept' AD.out b93)
     clear b93 BD CSD TD UD RD HD AD
     clear hHeld d0 d1 d2 d3 d4 d5 d6 d7
     have d0 := (CS93.out).head
     have d1 := ((CS93.out).tail).head
     have d2 := (((CS93.out).tail).tail).head
     have d3 := ((((CS93.out).tail).tail).tail).head
     have d4 := (((((CS93.out).tail).tail).tail).tail).head
     have d5 := ((((((CS93.out).tail).tail).tail).tail).tail).head
     have d6 := (((((((CS93.out).tail).tail).tail).tail).tail).tail).head
     have d7 := ((((((((CS93.out).tail).tail).tail).tail).tail).tail).tail).head
     refine hK.out _ _ ⟨d0, d1, d2, d3, d4, d5, d6, d7⟩ (fun hHeld => ?_)
     clear hK K
     try simp only [Act.put, pA9, pB9, pC9]
     refine wpAnyH_ready (rs := [6]) (by kernel_rfl) (by simp) ?_
     refine AllReadyH.cons (o := ⟨_, _, _, _, _, _⟩) rfl (fun K hK => ?_) AllReadyH.nil
     go_simp
     refine (make_any _ _ _ (pn, pt) (tn, tt) (nw, (pn, pt), []) _ FP0.out FQ0.out FIT.out T93.out R93.out U93.out).mono ?_
     rintro e w94 ⟨u6, rfl, ou, b94⟩
     rw [MK.out.1]
     rw [MK.out.2] at ou
     have L94 := Hid.of ou.row
     clear ou
     obtain ⟨ps, pf, hu, hps, hpf, -⟩ := L94.out
     subst hu
     obtain ⟨asa, asc, rfl, -⟩ := hps
     obtain ⟨afa, afc, rfl, -⟩ := hpf
     unfold plVal at L94 ⊢
     obtain ⟨an, hpn⟩ : ∃ pn, pl.1.1 = pn := ⟨_, rfl⟩
     rw [hpn, LL.out.1, LL.out.2] at L94 ⊢
     clear hpn
     have B94 := Hid.of (B93.out.trans (b94.mono B93.out.size))
     have CS94 := Hid.of (CS93.out.next b94)
     have H94 := Hid.of (H93.out.next b94)
     have A94 := Hid.of (iown_kept' A93.out b94)
     have K94 := Hid.of (lblk_next K93.out b94)
     clear b94 B93 CS93 H93 A93 K93
     clear R93 T93 U93
     clear hHeld d0 d1 d2 d3 d4 d5 d6 d7
     have d0 := (CS94.out).head
     have d1 := ((CS94.out).tail).head
     have d2 := (((CS94.out).tail).tail).head
     have d3 := ((((CS94.out).tail).tail).tail).head
     have d4 := (((((CS94.out).tail).tail).tail).tail).head
     have d5 := ((((((CS94.out).tail).tail).tail).tail).tail).head
     have d6 := (((((((CS94.out).tail).tail).tail).tail).tail).tail).head
     have d7 := ((((((((CS94.out).tail).tail).tail).tail).tail).tail).tail).head
     refine hK.out _ _ ⟨d0, d1, d2, d3, d4, d5, d6, d7⟩ (fun hHeld => ?_)
     clear hK K
     try simp only [Act.put, pA9, pB9, pC9]
     refine takeOp 7 (o := ⟨_, _, _, _, _, _⟩) (v := ?_) rfl (by kernel_rfl) (by rfl) hHeld ?_ ?_; rotate_left; (next => intro w' hSw; (try dsimp only at hSw); go_simp; all_goals with_reducible rfl); simp only [Act.put, pA9, pB9, pC9]
     refine takeOp 8 (o := ⟨_, _, _, _, _, _⟩) (v := ?_) rfl (by kernel_rfl) (by rfl) hHeld ?_ ?_; rotate_left; (next => intro w' hSw; (try dsimp only at hSw); go_simp; all_goals with_reducible rfl); simp only [Act.put, pA9, pB9, pC9]
     refine takeOp 9 (o := ⟨_, _, _, _, _, _⟩) (v := ?_) rfl (by kernel_rfl) (by rfl) hHeld ?_ ?_; rotate_left; (next => intro w' hSw; (try dsimp only at hSw); go_simp; all_goals with_reducible rfl); simp only [Act.put, pA9, pB9, pC9]
     refine wpAnyH_ready (rs := [11]) (by kernel_rfl) (by simp) ?_
     refine AllReadyH.cons (o := ⟨_, _, _, _, _, _⟩) rfl (fun K hK => ?_) AllReadyH.nil
     have k0 := K94.out
     have f0 := row_frozen (i := 0) k0
     have f1 := row_frozen (i := 1) k0
     have f2 := row_frozen (i := 2) k0
     obtain ⟨t0, t1, t2⟩ := lblk_at k0
     go_simp
     clear f0 f1 f2 t0 t1 t2
     have KZ := Hid.of (lblk_set (n' := an) (s' := .slice asa LN asc) (f' := .slice afa LM afc) k0)
     have gz := setL_grown w94 y an (.slice asa LN asc) (.slice afa LM afc)
     have CSZ := Hid.of (CS94.out.grown gz (fun x hx c => by have h1 := Option.some.inj c; have h2 := HLZ.out x hx; omega))
     have LZ : Hid (PlanRow (setL w94 y an (.slice asa LN asc) (.slice afa LM afc)) (.agg #[.string an, .slice asa LN asc, .slice afa LM afc]) pl) := Hid.of (plan_off k0 gz L94.out)
     have HZ9 : Hid (IHere S w1.heap.size w1 (setL w94 y an (.slice asa LN asc) (.slice afa LM afc)) p (nw, (pn, pt), []) (iViews (nw, (pn, pt), []) all) G) := Hid.of (H94.out.new_off gz HLY1.out HFY.out)
     have AZ9 : Hid ((setL w94 y an (.slice asa LN asc) (.slice afa LM afc)).ownsRow w1.heap.size 178 3 a m (flat aenc all)) := Hid.of (iown_at A94.out (fun g hg => gz.block g (iown_lt A94.out hg) (fun c => by have h1 := Option.some.inj c; have h2 := HAY.out g hg; omega)))
     clear gz k0
     unfold setL at KZ CSZ LZ HZ9 AZ9
     clear hHeld d0 d1 d2 d3 d4 d5 d6 d7
     have d0 := (CSZ.out).head
     have d1 := ((CSZ.out).tail).head
     have d2 := (((CSZ.out).tail).tail).head
     have d3 := ((((CSZ.out).tail).tail).tail).head
     have d4 := (((((CSZ.out).tail).tail).tail).tail).head
     have d5 := ((((((CSZ.out).tail).tail).tail).tail).tail).head
     have d6 := (((((((CSZ.out).tail).tail).tail).tail).tail).tail).head
     have d7 := ((((((((CSZ.out).tail).tail).tail).tail).tail).tail).tail).head
     refine hK.out _ _ ⟨d0, d1, d2, d3, d4, d5, d6, d7⟩ (fun hHeld => ?_)
     clear hK K
     try simp only [Act.put, pA9, pB9, pC9]
     refine takeOp 12 (o := ⟨_, _, _, _, _, _⟩) (v := ?_) rfl (by kernel_rfl) (by rfl) hHeld ?_ ?_; rotate_left; (next => intro w' hSw; (try dsimp only at hSw); go_simp; all_goals with_reducible rfl); simp only [Act.put, pA9, pB9, pC9]
     refine wpAnyH_done (by kernel_rfl) ?_ _
     refine NoPanic.normal ?_
     clear hHeld d0 d1 d2 d3 d4 d5 d6 d7
     go_wp2_with fail
     go_meet
     exact ⟨y, an, asa, afa, asc, afc, rfl, rfl, Hid.of (Dc.app (Dc.one KZ.out (i := 0) rfl) (Dc.app (Dc.one KZ.out (i := 1) rfl) (Dc.one KZ.out (i := 2) rfl))), LZ, HZ9, AZ9⟩
   case rest =>
    obtain ⟨y, an, asa, afa, asc, afc, rfl, rfl, CS, L, H, AA⟩ := hcut
    clear B0 CS0 T0 U0 R0 H0 A0
    have B9 := BF _ H.out.fr
    by_cases he : er = 0
    case neg =>
     have he2 : (er == 0) = false := beq_eq_false_iff_ne.2 he
     go_wp2_with fail
     refine (planAlive_any _).mono ?_
     rintro e w9 ⟨rfl, b9⟩
     have B9 := Hid.of (B9.out.trans (b9.mono B9.out.size))
     go_wp2
     go_ret
     exact ⟨rfl, B9.out⟩
    subst he
    have PO : Hid (PlanOk nw (pn, pt) (tn, tt) all) := Hid.of ⟨MK.out.1, GD.out, HAF.out⟩
    have PLQ : Hid (pl.1 = (tn, tt)) := Hid.of (by rw [← MK.out.2]; exact PO.out.to_)
    have QCH := Hid.of (mErr_zero MK.out.1).2
    have FM : Hid (MFit pl) := Hid.of (by
     rw [← MK.out.2, mMake_ok MK.out.1]
     refine ⟨FQ0.out, by rw [List.length_map]; exact FQ0.out.1, fun x hx => ?_⟩
     obtain ⟨u, hu, rfl⟩ := List.mem_map.1 hx
     exact fur_in _ _ _ FP0.out.1)
    have hb := build_any S (.agg #[.string an, .slice asa LN asc, .slice afa LM afc]) pl (S.okKept OK.out H.out.fr) L.out FM.out (by rw [PLQ.out]; exact QS.out.2.1) (by rw [PLQ.out]; exact QS.out.1) (by rw [PLQ.out]; exact QS.out.2.2) H.out.rep HLE.out (fun l hl => by
     obtain ⟨i, hi⟩ := List.getElem?_of_mem hl
     exact GD.out.fit i l hi)
    obtain ⟨c0, c1⟩ : wc.cell? ⟨y, 0, none⟩ = some (.string an) ∧ wc.cell? ⟨y, 1, none⟩ = some (.slice asa LN asc) := ⟨CS.out.head, CS.out.tail.head⟩
    have c2 : wc.cell? ⟨y, 2, none⟩ = some (.slice afa LM afc) := CS.out.tail.tail.head
    go_wp2_with fail
    refine hb.mono ?_
    rintro e w5 ⟨hs1, -, b5⟩
    obtain ⟨q, F5, rfl, rep5, fa5⟩ := (hs1 (by have := PO.out.fits; rw [MK.out.2] at this; exact this)).1 (by have := PO.out.new; rw [MK.out.2] at this; exact this)
    obtain ⟨BS, hBS⟩ : ∃ BS, mBases pl (nw, (pn, pt), []) = BS := ⟨_, rfl⟩
    have hrto : mTo pl (nw, (pn, pt), []) = (nw, (tn, tt), BS) := by unfold mTo; rw [PLQ.out, hBS]
    have hbl : mBuilt pl (nw, (pn, pt), []) (iViews (nw, (pn, pt), []) all) = iViews (nw, (tn, tt), BS) all := by have := PO.out.built; rwa [MK.out.2, hrto] at this
    have HLB : Hid (∀ x ∈ iViews (nw, (tn, tt), BS) all, x.length ≤ 1000) := Hid.of (by rw [← hbl]; exact mBuilt_le HLE.out)
    rw [hrto, hbl] at rep5
    have HBS := Hid.of hBS
    have BSL : Hid (BS.length = QN) := Hid.of (by rw [← hBS, mBases_len, PLQ.out]; exact HQN.out)
    have G5 : Hid (IHere S w1.heap.size w1 w5 q (nw, (tn, tt), BS) (iViews (nw, (tn, tt), BS) all) F5) := Hid.of ⟨rep5, fun k hk => Nat.le_trans H.out.fr.size (fa5 k (S.sub rep5 k hk)), Nat.le_trans H.out.fr.size b5.size, H.out.fr.trans (b5.mono H.out.fr.size)⟩
    have H5 := Hid.of (H.out.next b5)
    have CS5 := Hid.of (CS.out.next b5)
    have L5 := Hid.of (L.out.kept b5)
    have A5 := Hid.of (iown_kept' AA.out b5)
    have FTO := Hid.of (S.fit rep5)
    clear hb hs1 rep5 fa5 b5 hrto hbl hBS c0 c1 c2 CS H L AA B9
    obtain ⟨sq, fq, d0, d1, d2, d3, drr⟩ := S.cells H5.out.rep
    have cs := CS1.out.next H5.out.fr
    have CS0 : Hid (Dc w5 [(⟨z + 1, 0, none⟩, .string tn), (⟨z + 1, 1, none⟩, .slice ta QN tc), (⟨y, 0, none⟩, .string an), (⟨y, 1, none⟩, .slice asa LN asc), (⟨y, 2, none⟩, .slice afa LM afc), (⟨p, 0, none⟩, .int .i64 nw), (⟨p, 1, none⟩, .string pn), (⟨p, 2, none⟩, sq), (⟨p, 3, none⟩, fq)]) := Hid.of (.cons cs.tail.tail.lt cs.tail.tail.head (.cons cs.tail.tail.tail.lt cs.tail.tail.tail.head (Dc.app CS5.out (.cons (cell_lt d0) d0 (.cons (cell_lt d1) d1 (.cons (cell_lt d2) d2 (.cons (cell_lt d3) d3 (Dc.nil _))))))))
    have R0 : Hid (RchRow w5 (.agg #[.int .i64 nw, .string pn, sq, fq]) (nw, (pn, pt), [])) := Hid.of drr
    have B0 := BF _ H5.out.fr
    have L0 := L5
    have G0 := G5
    have A0 := A5
    clear d0 d1 d2 d3 drr cs CS5 H5 L5 G5 A5
    go_upto_region 20 with fail
    go_cut [17] from 113 to 125 (fun xv wx => ∃ (x : Nat) (ua : Option Addr) (uc : Nat), xv = .pointer (some ⟨x, 0, none⟩) ∧ Hid (Dc wx [(⟨x, 0, none⟩, .int .i64 nw), (⟨x, 1, none⟩, .string tn), (⟨x, 2, none⟩, .slice ta QN tc), (⟨x, 3, none⟩, .slice ua QN uc)]) ∧ Hid (CellRow wx (.slice ua QN uc) QN (BS.map (Value.int .i64))) ∧ Hid (IHere S w1.heap.size w1 wx q (nw, (tn, tt), BS) (iViews (nw, (tn, tt), BS) all) F5) ∧ Hid (wx.ownsRow w1.heap.size 178 3 a m (flat aenc all)))
    case first =>
     have bD := (Below.refl w5.heap.size w5).drew
     have BD := Hid.of (B0.out.trans (bD.mono B0.out.size))
     have CSD := Hid.of (CS0.out.next bD)
     have RD := Hid.of (R0.out.kept bD)
     have LD := Hid.of (L0.out.kept bD)
     have GD := Hid.of (G0.out.next bD)
     have AD := Hid.of (iown_kept' A0.out bD)
     clear bD
     have d0 := (CS0.out).head
     have d1 := ((CS0.out).tail).head
     have d2 := (((CS0.out).tail).tail).head
     have d3 := ((((CS0.out).tail).tail).tail).head
     have d4 := (((((CS0.out).tail).tail).tail).tail).head
     have d5 := ((((((CS0.out).tail).tail).tail).tail).tail).head
     have d6 := (((((((CS0.out).tail).tail).tail).tail).tail).tail).head
     have d7 := ((((((((CS0.out).tail).tail).tail).tail).tail).tail).tail).head
     have d8 := (((((((((CS0.out).tail).tail).tail).tail).tail).tail).tail).tail).head
     refine wp_region_noPanic ?_
     refine wp_region_held_drew (S := fun w' => w'.cell? ⟨z + 1, 0, none⟩ = some (.string tn) ∧ w'.cell? ⟨z + 1, 1, none⟩ = some (.slice ta QN tc) ∧ w'.cell? ⟨y, 0, none⟩ = some (.string an) ∧ w'.cell? ⟨y, 1, none⟩ = some (.slice asa LN asc) ∧ w'.cell? ⟨y, 2, none⟩ = some (.slice afa LM afc) ∧ w'.cell? ⟨p, 0, none⟩ = some (.int .i64 nw) ∧ w'.cell? ⟨p, 1, none⟩ = some (.string pn) ∧ w'.cell? ⟨p, 2, none⟩ = some (sq) ∧ w'.cell? ⟨p, 3, none⟩ = some (fq)) (by kernel_rfl) ?_ (fun hHeld => ?_)
     ·exact ⟨d0, d1, d2, d3, d4, d5, d6, d7, d8⟩
     clear B0 CS0 R0 L0 G0 A0
     refine takeOp 0 (o := ⟨_, _, _, _, _, _⟩) (v := ?_) rfl (by kernel_rfl) (by rfl) hHeld ?_ ?_; rotate_left; (next => intro w' hSw; (try dsimp only at hSw); go_simp; all_goals with_reducible rfl); simp only [Act.put, pA9, pB9, pC9]
     refine takeOp 1 (o := ⟨_, _, _, _, _, _⟩) (v := ?_) rfl (by kernel_rfl) (by rfl) hHeld ?_ ?_; rotate_left; (next => intro w' hSw; (try dsimp only at hSw); go_simp; all_goals with_reducible rfl); simp only [Act.put, pA9, pB9, pC9]
     refine takeOp 2 (o := ⟨_, _, _, _, _, _⟩) (v := ?_) rfl (by kernel_rfl) (by rfl) hHeld ?_ ?_; rotate_left; (next => intro w' hSw; (try dsimp only at hSw); go_simp; all_goals with_reducible rfl); simp only [Act.put, pA9, pB9, pC9]
     refine takeOp 3 (o := ⟨_, _, _, _, _, _⟩) (v := ?_) rfl (by kernel_rfl) (by rfl) hHeld ?_ ?_; rotate_left; (next => intro w' hSw; (try dsimp only at hSw); go_simp; all_goals with_reducible rfl); simp only [Act.put, pA9, pB9, pC9]
     refine takeOp 4 (o := ⟨_, _, _, _, _, _⟩) (v := ?_) rfl (by kernel_rfl) (by rfl) hHeld ?_ ?_; rotate_left; (next => intro w' hSw; (try dsimp only at hSw); go_simp; all_goals with_reducible rfl); simp only [Act.put, pA9, pB9, pC9]
     refine takeOp 5 (o := ⟨_, _, _, _, _, _⟩) (v := ?_) rfl (by kernel_rfl) (by rfl) hHeld ?_ ?_; rotate_left; (next => intro w' hSw; (try dsimp only at hSw); go_simp; all_goals with_reducible rfl); simp only [Act.put, pA9, pB9, pC9]
     refine takeOp 6 (o := ⟨_, _, _, _, _, _⟩) (v := ?_) rfl (by kernel_rfl) (by rfl) hHeld ?_ ?_; rotate_left; (next => intro w' hSw; (try dsimp only at hSw); go_simp; all_goals with_reducible rfl); simp only [Act.put, pA9, pB9, pC9]
     refine takeOp 7 (o := ⟨_, _, _, _, _, _⟩) (v := ?_) rfl (by kernel_rfl) (by rfl) hHeld ?_ ?_; rotate_left; (next => intro w' hSw; (try dsimp only at hSw); go_simp; all_goals with_reducible rfl); simp only [Act.put, pA9, pB9, pC9]
     refine takeOp 8 (o := ⟨_, _, _, _, _, _⟩) (v := ?_) rfl (by kernel_rfl) (by rfl) hHeld ?_ ?_; rotate_left; (next => intro w' hSw; (try dsimp only at hSw); go_simp; all_goals with_reducible rfl); simp only [Act.put, pA9, pB9, pC9]
     refine takeOp 9 (o := ⟨_, _, _, _, _, _⟩) (v := ?_) rfl (by kernel_rfl) (by rfl) hHeld ?_ ?_; rotate_left; (next => intro w' hSw; (try dsimp only at hSw); go_simp; all_goals with_reducible rfl); simp only [Act.put, pA9, pB9, pC9]
     refine takeOp 10 (o := ⟨_, _, _, _, _, _⟩) (v := ?_) rfl (by kernel_rfl) (by rfl) hHeld ?_ ?_; rotate_left; (next => intro w' hSw; (try dsimp only at hSw); go_simp; all_goals with_reducible rfl); simp only [Act.put, pA9, pB9, pC9]
     refine wpAnyH_ready (rs := [11, 13]) (by kernel_rfl) (by simp) ?_
     refine AllReadyH.cons (o := ⟨_, _, _, _, _, _⟩) rfl (fun K hK => ?_) (AllReadyH.cons (o := ⟨_, _, _, _, _, _⟩) rfl (fun K hK => ?_) AllReadyH.nil)
     ·go_simp
      refine (bases_any _ _ pl (nw, (pn, pt), []) _ FM.out FIT.out LD.out RD.out).mono ?_
      rintro e w91 ⟨u, rfl, ou, b91⟩
      rw [HBS.out, BSL.out] at ou
      obtain ⟨ua, uc, rfl, -⟩ := own_one ou
      skip
      have O91 := Hid.of (own_mono ou (Nat.zero_le _))
      clear ou
      have B91 := Hid.of (BD.out.trans (b91.mono BD.out.size))
      have CS91 := Hid.of (CSD.out.next b91)
      have G91 := Hid.of (GD.out.next b91)
      have A91 := Hid.of (iown_kept' AD.out b91)
      clear b91 BD CSD GD AD
      clear RD LD
      clear hHeld d0 d1 d2 d3 d4 d5 d6 d7 d8
      have d0 := (CS91.out).head
      have d1 := ((CS91.out).tail).head
      have d2 := (((CS91.out).tail).tail).head
      have d3 := ((((CS91.out).tail).tail).tail).head
      have d4 := (((((CS91.out).tail).tail).tail).tail).head
      have d5 := ((((((CS91.out).tail).tail).tail).tail).tail).head
      have d6 := (((((((CS91.out).tail).tail).tail).tail).tail).tail).head
      have d7 := ((((((((CS91.out).tail).tail).tail).tail).tail).tail).tail).head
      have d8 := (((((((((CS91.out).tail).tail).tail).tail).tail).tail).tail).tail).head
      refine hK.out _ _ ⟨d0, d1, d2, d3, d4, d5, d6, d7, d8⟩ (fun hHeld => ?_)
      clear hK K
      try simp only [Act.put, pA9, pB9, pC9]
      refine takeOp 12 (o := ⟨_, _, _, _, _, _⟩) (v := ?_) rfl (by kernel_rfl) (by rfl) hHeld ?_ ?_; rotate_left; (next => intro w' hSw; (try dsimp only at hSw); go_simp; all_goals with_reducible rfl); simp only [Act.put, pA9, pB9, pC9]
      refine wpAnyH_ready (rs := [13]) (by kernel_rfl) (by simp) ?_
      refine AllReadyH.cons (o := ⟨_, _, _, _, _, _⟩) rfl (fun K hK => ?_) AllReadyH.nil
      go_simp
      obtain ⟨y9, hy⟩ : ∃ y9, (w91).heap.size = y9 := ⟨_, rfl⟩
      obtain ⟨w92, hw92⟩ : ∃ w92, (w91).alloc (.cells #[.int .i64 0, .string ⟨#[]⟩, .slice none 0 0, .slice none 0 0] 29) = w92 := ⟨_, rfl⟩
      have hx92 : (w91).alloc (.cells #[.int .i64 0, .string ⟨#[]⟩, .slice none 0 0, .slice none 0 0] 29) = w92 := hw92
      have b92 : Below (w91).heap.size (w91) w92 := by rw [← hx92]; exact (Below.refl _ _).alloc (Nat.le_refl _) _
      have K92 : Hid (w92.heap[y9]? = some (.cells #[.int .i64 0, .string ⟨#[]⟩, .slice none 0 0, .slice none 0 0] 29 (0, 0))) := Hid.of (by rw [← hx92, ← hy]; exact (MapKept.heap_alloc (w91) _).1)
      have HLY : Hid (w.heap.size ≤ y9) := Hid.of (by rw [← hy]; exact B91.out.size)
      have HLZ : Hid (∀ x ∈ ([(⟨z + 1, 0, none⟩, .string tn), (⟨z + 1, 1, none⟩, .slice ta QN tc), (⟨y, 0, none⟩, .string an), (⟨y, 1, none⟩, .slice asa LN asc), (⟨y, 2, none⟩, .slice afa LM afc), (⟨p, 0, none⟩, .int .i64 nw), (⟨p, 1, none⟩, .string pn), (⟨p, 2, none⟩, sq), (⟨p, 3, none⟩, fq)] : List (Addr × Value)), x.1.block < y9) := Hid.of (fun x hx => by rw [← hy]; exact (CS91.out x hx).1)
      have HFY : Hid (∀ k, F5.all k → k < y9) := Hid.of (fun k hk => by rw [← hy]; exact S.lt G91.out.rep k hk)
      have HLY1 : Hid (w1.heap.size ≤ y9) := Hid.of (by rw [← hy]; exact G91.out.fr.size)
      have HAY : Hid (∀ g, a.ownBlock = some g → g < y9) := Hid.of (fun g hg => by rw [← hy]; exact iown_lt A91.out hg)
      have HUX : Hid (∀ g, (Value.slice ua QN uc).ownBlock = some g → g ≠ y9) := Hid.of (fun g hg c => by have h1 := iown_lt O91.out hg; rw [c, ← hy] at h1; exact Nat.lt_irrefl _ h1)
      rw [hw92, hy]
      clear hw92 hx92 hy
      have B92 := Hid.of (B91.out.trans (b92.mono B91.out.size))
      have CS92 := Hid.of (CS91.out.next b92)
      have G92 := Hid.of (G91.out.next b92)
      have A92 := Hid.of (iown_kept' A91.out b92)
      have O92 := Hid.of (iown_kept' O91.out b92)
      clear b92 B91 CS91 G91 A91 O91
      clear hHeld d0 d1 d2 d3 d4 d5 d6 d7 d8
      have d0 := (CS92.out).head
      have d1 := ((CS92.out).tail).head
      have d2 := (((CS92.out).tail).tail).head
      have d3 := ((((CS92.out).tail).tail).tail).head
      have d4 := (((((CS92.out).tail).tail).tail).tail).head
      have d5 := ((((((CS92.out).tail).tail).tail).tail).tail).head
      have d6 := (((((((CS92.out).tail).tail).tail).tail).tail).tail).head
      have d7 := ((((((((CS92.out).tail).tail).tail).tail).tail).tail).tail).head
      have d8 := (((((((((CS92.out).tail).tail).tail).tail).tail).tail).tail).tail).head
      refine hK.out _ _ ⟨d0, d1, d2, d3, d4, d5, d6, d7, d8⟩ (fun hHeld => ?_)
      clear hK K
      try simp only [Act.put, pA9, pB9, pC9]
      refine wpAnyH_ready (rs := [14]) (by kernel_rfl) (by simp) ?_
      refine AllReadyH.cons (o := ⟨_, _, _, _, _, _⟩) rfl (fun K hK => ?_) AllReadyH.nil
      have k0 := K92.out
      have f0 := row_frozen (i := 0) k0
      have f1 := row_frozen (i := 1) k0
      have f2 := row_frozen (i := 2) k0
      have f3 := row_frozen (i := 3) k0
      have t0 : w92.cell? ⟨y9, 0, none⟩ = some (.int .i64 0) := by rw [cell_of_row _ _ _ _ _ _ k0]; rfl
      have t1 : w92.cell? ⟨y9, 1, none⟩ = some (.string ⟨#[]⟩) := by rw [cell_of_row _ _ _ _ _ _ k0]; rfl
      have t2 : w92.cell? ⟨y9, 2, none⟩ = some (.slice none 0 0) := by rw [cell_of_row _ _ _ _ _ _ k0]; rfl
      have t3 : w92.cell? ⟨y9, 3, none⟩ = some (.slice none 0 0) := by rw [cell_of_row _ _ _ _ _ _ k0]; rfl
      go_simp
      clear f0 f1 f2 f3 t0 t1 t2 t3
      have z7 := row_set (i := 3) (row_set (i := 2) (row_set (i := 1) (row_set (i := 0) k0 (.int .i64 nw)) (.string tn)) (.slice ta QN tc)) (.slice ua QN uc)
      have gz : w92.grownBy ((((w92.setCell ⟨y9, 0, none⟩ (.int .i64 nw)).setCell ⟨y9, 1, none⟩ (.string tn)).setCell ⟨y9, 2, none⟩ (.slice ta QN tc)).setCell ⟨y9, 3, none⟩ (.slice ua QN uc)) (some y9) := grownBy_trans (grownBy_trans (grownBy_trans (grownBy_setCell _ _ _ _) (grownBy_setCell _ _ _ _)) (grownBy_setCell _ _ _ _)) (grownBy_setCell _ _ _ _)
      obtain ⟨w7, hw7⟩ : ∃ w7, (((w92.setCell ⟨y9, 0, none⟩ (.int .i64 nw)).setCell ⟨y9, 1, none⟩ (.string tn)).setCell ⟨y9, 2, none⟩ (.slice ta QN tc)).setCell ⟨y9, 3, none⟩ (.slice ua QN uc) = w7 := ⟨_, rfl⟩
      rw [hw7] at z7 gz ⊢
      have z8 : w7.heap[y9]? = some (.cells #[.int .i64 nw, .string tn, .slice ta QN tc, .slice ua QN uc] 29 (0, 0)) := by rw [z7]; simp
      have CSZ := Hid.of (CS92.out.grown gz (fun x hx c => by have h1 := Option.some.inj c; have h2 := HLZ.out x hx; omega))
      have UZ9 : Hid (CellRow w7 (.slice ua QN uc) QN (BS.map (Value.int .i64))) := Hid.of (own_row (iown_at O92.out (fun g hg => gz.block g (iown_lt O92.out hg) (fun c => HUX.out g hg (Option.some.inj c)))))
      have GZ9 : Hid (IHere S w1.heap.size w1 w7 q (nw, (tn, tt), BS) (iViews (nw, (tn, tt), BS) all) F5) := Hid.of (G92.out.new_off gz HLY1.out HFY.out)
      have AZ9 : Hid (w7.ownsRow w1.heap.size 178 3 a m (flat aenc all)) := Hid.of (iown_at A92.out (fun g hg => gz.block g (iown_lt A92.out hg) (fun c => by have h1 := Option.some.inj c; have h2 := HAY.out g hg; omega)))
      have Z9 := Hid.of z8
      clear gz k0 z7 z8 hw7
      clear hHeld d0 d1 d2 d3 d4 d5 d6 d7 d8
      have d0 := (CSZ.out).head
      have d1 := ((CSZ.out).tail).head
      have d2 := (((CSZ.out).tail).tail).head
      have d3 := ((((CSZ.out).tail).tail).tail).head
      have d4 := (((((CSZ.out).tail).tail).tail).tail).head
      have d5 := ((((((CSZ.out).tail).tail).tail).tail).tail).head
      have d6 := (((((((CSZ.out).tail).tail).tail).tail).tail).tail).head
      have d7 := ((((((((CSZ.out).tail).tail).tail).tail).tail).tail).tail).head
      have d8 := (((((((((CSZ.out).tail).tail).tail).tail).tail).tail).tail).tail).head
      refine hK.out _ _ ⟨d0, d1, d2, d3, d4, d5, d6, d7, d8⟩ (fun hHeld => ?_)
      clear hK K
      try simp only [Act.put, pA9, pB9, pC9]
      refine wpAnyH_done (by kernel_rfl) ?_ _
      refine NoPanic.normal ?_
      clear hHeld d0 d1 d2 d3 d4 d5 d6 d7 d8
      go_wp2_with fail
      go_meet
      exact ⟨y9, ua, uc, rfl, Hid.of (Dc.app (Dc.one Z9.out (i := 0) rfl) (Dc.app (Dc.one Z9.out (i := 1) rfl) (Dc.app (Dc.one Z9.out (i := 2) rfl) (Dc.one Z9.out (i := 3) rfl)))), UZ9, GZ9, AZ9⟩
     ·go_simp
      obtain ⟨y9, hy⟩ : ∃ y9, (w5).heap.size = y9 := ⟨_, rfl⟩
      obtain ⟨w93, hw93⟩ : ∃ w93, (w5.alloc (.cells #[.int .i64 0, .string ⟨#[]⟩, .slice none 0 0, .slice none 0 0] 29)).drew = w93 := ⟨_, rfl⟩
      have hx93 : (w5.drew).alloc (.cells #[.int .i64 0, .string ⟨#[]⟩, .slice none 0 0, .slice none 0 0] 29) = w93 := hw93
      have b93 : Below (w5.drew).heap.size (w5.drew) w93 := by rw [← hx93]; exact (Below.refl _ _).alloc (Nat.le_refl _) _
      have K93 : Hid (w93.heap[y9]? = some (.cells #[.int .i64 0, .string ⟨#[]⟩, .slice none 0 0, .slice none 0 0] 29 (0, 0))) := Hid.of (by rw [← hx93, ← hy]; exact (MapKept.heap_alloc (w5.drew) _).1)
      have HLY : Hid (w.heap.size ≤ y9) := Hid.of (by rw [← hy]; exact BD.out.size)
      have HLZ : Hid (∀ x ∈ ([(⟨z + 1, 0, none⟩, .string tn), (⟨z + 1, 1, none⟩, .slice ta QN tc), (⟨y, 0, none⟩, .string an), (⟨y, 1, none⟩, .slice asa LN asc), (⟨y, 2, none⟩, .slice afa LM afc), (⟨p, 0, none⟩, .int .i64 nw), (⟨p, 1, none⟩, .string pn), (⟨p, 2, none⟩, sq), (⟨p, 3, none⟩, fq)] : List (Addr × Value)), x.1.block < y9) := Hid.of (fun x hx => by rw [← hy]; exact (CSD.out x hx).1)
      have HFY : Hid (∀ k, F5.all k → k < y9) := Hid.of (fun k hk => by rw [← hy]; exact S.lt GD.out.rep k hk)
      have HLY1 : Hid (w1.heap.size ≤ y9) := Hid.of (by rw [← hy]; exact GD.out.fr.size)
      have HAY : Hid (∀ g, a.ownBlock = some g → g < y9) := Hid.of (fun g hg => by rw [← hy]; exact iown_lt AD.out hg)
      rw [hw93, hy]
      clear hw93 hx93 hy
      have B93 := Hid.of (BD.out.trans (b93.mono BD.out.size))
      have CS93 := Hid.of (CSD.out.next b93)
      have R93 := Hid.of (RD.out.kept b93)
      have L93 := Hid.of (LD.out.kept b93)
      have G93 := Hid.of (GD.out.next b93)
      have A93 := Hid.of (iown_kept' AD.out b93)
      clear b93 BD CSD RD LD GD AD
      clear hHeld d0 d1 d2 d3 d4 d5 d6 d7 d8
      have d0 := (CS93.out).head
      have d1 := ((CS93.out).tail).head
      have d2 := (((CS93.out).tail).tail).head
      have d3 := ((((CS93.out).tail).tail).tail).head
      have d4 := (((((CS93.out).tail).tail).tail).tail).head
      have d5 := ((((((CS93.out).tail).tail).tail).tail).tail).head
      have d6 := (((((((CS93.out).tail).tail).tail).tail).tail).tail).head
      have d7 := ((((((((CS93.out).tail).tail).tail).tail).tail).tail).tail).head
      have d8 := (((((((((CS93.out).tail).tail).tail).tail).tail).tail).tail).tail).head
      refine hK.out _ _ ⟨d0, d1, d2, d3, d4, d5, d6, d7, d8⟩ (fun hHeld => ?_)
      clear hK K
      try simp only [Act.put, pA9, pB9, pC9]
      refine wpAnyH_ready (rs := [11]) (by kernel_rfl) (by simp) ?_
      refine AllReadyH.cons (o := ⟨_, _, _, _, _, _⟩) rfl (fun K hK => ?_) AllReadyH.nil
      go_simp
      refine (bases_any _ _ pl (nw, (pn, pt), []) _ FM.out FIT.out L93.out R93.out).mono ?_
      rintro e w94 ⟨u, rfl, ou, b94⟩
      rw [HBS.out, BSL.out] at ou
      obtain ⟨ua, uc, rfl, -⟩ := own_one ou
      skip
      have HUX : Hid (∀ g, (Value.slice ua QN uc).ownBlock = some g → g ≠ y9) := Hid.of (fun g hg c => by have h1 := (ou.lt g hg).1; have h2 := (Array.getElem?_eq_some_iff.1 K93.out).1; omega)
      have O94 := Hid.of (own_mono ou (Nat.zero_le _))
      clear ou
      have B94 := Hid.of (B93.out.trans (b94.mono B93.out.size))
      have CS94 := Hid.of (CS93.out.next b94)
      have G94 := Hid.of (G93.out.next b94)
      have A94 := Hid.of (iown_kept' A93.out b94)
      have K94 := Hid.of (blk_next K93.out b94)
      clear b94 B93 CS93 G93 A93 K93
      clear R93 L93
      clear hHeld d0 d1 d2 d3 d4 d5 d6 d7 d8
      have d0 := (CS94.out).head
      have d1 := ((CS94.out).tail).head
      have d2 := (((CS94.out).tail).tail).head
      have d3 := ((((CS94.out).tail).tail).tail).head
      have d4 := (((((CS94.out).tail).tail).tail).tail).head
      have d5 := ((((((CS94.out).tail).tail).tail).tail).tail).head
      have d6 := (((((((CS94.out).tail).tail).tail).tail).tail).tail).head
      have d7 := ((((((((CS94.out).tail).tail).tail).tail).tail).tail).tail).head
      have d8 := (((((((((CS94.out).tail).tail).tail).tail).tail).tail).tail).tail).head
      refine hK.out _ _ ⟨d0, d1, d2, d3, d4, d5, d6, d7, d8⟩ (fun hHeld => ?_)
      clear hK K
      try simp only [Act.put, pA9, pB9, pC9]
      refine takeOp 12 (o := ⟨_, _, _, _, _, _⟩) (v := ?_) rfl (by kernel_rfl) (by rfl) hHeld ?_ ?_; rotate_left; (next => intro w' hSw; (try dsimp only at hSw); go_simp; all_goals with_reducible rfl); simp only [Act.put, pA9, pB9, pC9]
      refine wpAnyH_ready (rs := [14]) (by kernel_rfl) (by simp) ?_
      refine AllReadyH.cons (o := ⟨_, _, _, _, _, _⟩) rfl (fun K hK => ?_) AllReadyH.nil
      have k0 := K94.out
      have f0 := row_frozen (i := 0) k0
      have f1 := row_frozen (i := 1) k0
      have f2 := row_frozen (i := 2) k0
      have f3 := row_frozen (i := 3) k0
      have t0 : w94.cell? ⟨y9, 0, none⟩ = some (.int .i64 0) := by rw [cell_of_row _ _ _ _ _ _ k0]; rfl
      have t1 : w94.cell? ⟨y9, 1, none⟩ = some (.string ⟨#[]⟩) := by rw [cell_of_row _ _ _ _ _ _ k0]; rfl
      have t2 : w94.cell? ⟨y9, 2, none⟩ = some (.slice none 0 0) := by rw [cell_of_row _ _ _ _ _ _ k0]; rfl
      have t3 : w94.cell? ⟨y9, 3, none⟩ = some (.slice none 0 0) := by rw [cell_of_row _ _ _ _ _ _ k0]; rfl
      go_simp
      clear f0 f1 f2 f3 t0 t1 t2 t3
      have z7 := row_set (i := 3) (row_set (i := 2) (row_set (i := 1) (row_set (i := 0) k0 (.int .i64 nw)) (.string tn)) (.slice ta QN tc)) (.slice ua QN uc)
      have gz : w94.grownBy ((((w94.setCell ⟨y9, 0, none⟩ (.int .i64 nw)).setCell ⟨y9, 1, none⟩ (.string tn)).setCell ⟨y9, 2, none⟩ (.slice ta QN tc)).setCell ⟨y9, 3, none⟩ (.slice ua QN uc)) (some y9) := grownBy_trans (grownBy_trans (grownBy_trans (grownBy_setCell _ _ _ _) (grownBy_setCell _ _ _ _)) (grownBy_setCell _ _ _ _)) (grownBy_setCell _ _ _ _)
      obtain ⟨w7, hw7⟩ : ∃ w7, (((w94.setCell ⟨y9, 0, none⟩ (.int .i64 nw)).setCell ⟨y9, 1, none⟩ (.string tn)).setCell ⟨y9, 2, none⟩ (.slice ta QN tc)).setCell ⟨y9, 3, none⟩ (.slice ua QN uc) = w7 := ⟨_, rfl⟩
      rw [hw7] at z7 gz ⊢
      have z8 : w7.heap[y9]? = some (.cells #[.int .i64 nw, .string tn, .slice ta QN tc, .slice ua QN uc] 29 (0, 0)) := by rw [z7]; simp
      have CSZ := Hid.of (CS94.out.grown gz (fun x hx c => by have h1 := Option.some.inj c; have h2 := HLZ.out x hx; omega))
      have UZ9 : Hid (CellRow w7 (.slice ua QN uc) QN (BS.map (Value.int .i64))) := Hid.of (own_row (iown_at O94.out (fun g hg => gz.block g (iown_lt O94.out hg) (fun c => HUX.out g hg (Option.some.inj c)))))
      have GZ9 : Hid (IHere S w1.heap.size w1 w7 q (nw, (tn, tt), BS) (iViews (nw, (tn, tt), BS) all) F5) := Hid.of (G94.out.new_off gz HLY1.out HFY.out)
      have AZ9 : Hid (w7.ownsRow w1.heap.size 178 3 a m (flat aenc all)) := Hid.of (iown_at A94.out (fun g hg => gz.block g (iown_lt A94.out hg) (fun c => by have h1 := Option.some.inj c; have h2 := HAY.out g hg; omega)))
      have Z9 := Hid.of z8
      clear gz k0 z7 z8 hw7
      clear hHeld d0 d1 d2 d3 d4 d5 d6 d7 d8
      have d0 := (CSZ.out).head
      have d1 := ((CSZ.out).tail).head
      have d2 := (((CSZ.out).tail).tail).head
      have d3 := ((((CSZ.out).tail).tail).tail).head
      have d4 := (((((CSZ.out).tail).tail).tail).tail).head
      have d5 := ((((((CSZ.out).tail).tail).tail).tail).tail).head
      have d6 := (((((((CSZ.out).tail).tail).tail).tail).tail).tail).head
      have d7 := ((((((((CSZ.out).tail).tail).tail).tail).tail).tail).tail).head
      have d8 := (((((((((CSZ.out).tail).tail).tail).tail).tail).tail).tail).tail).head
      refine hK.out _ _ ⟨d0, d1, d2, d3, d4, d5, d6, d7, d8⟩ (fun hHeld => ?_)
      clear hK K
      try simp only [Act.put, pA9, pB9, pC9]
      refine wpAnyH_done (by kernel_rfl) ?_ _
      refine NoPanic.normal ?_
      clear hHeld d0 d1 d2 d3 d4 d5 d6 d7 d8
      go_wp2_with fail
      go_meet
      exact ⟨y9, ua, uc, rfl, Hid.of (Dc.app (Dc.one Z9.out (i := 0) rfl) (Dc.app (Dc.one Z9.out (i := 1) rfl) (Dc.app (Dc.one Z9.out (i := 2) rfl) (Dc.one Z9.out (i := 3) rfl)))), UZ9, GZ9, AZ9⟩
    case rest =>
     obtain ⟨x, ua, uc, rfl, CX, UX, GX, AX⟩ := hcut
     clear B0 CS0 R0 L0 G0 A0
     generalize wc = w8 at *
     obtain ⟨sb, fb, e0, e1, e2, e3, err⟩ := S.cells GX.out.rep
     have cs := CS1.out.next GX.out.fr
     have CS8 : Hid (Dc w8 [(⟨z + 1, 1, none⟩, .slice ta QN tc), (⟨q, 0, none⟩, .int .i64 nw), (⟨q, 1, none⟩, .string tn), (⟨q, 2, none⟩, sb), (⟨q, 3, none⟩, fb), (⟨x, 0, none⟩, .int .i64 nw), (⟨x, 1, none⟩, .string tn), (⟨x, 2, none⟩, .slice ta QN tc), (⟨x, 3, none⟩, .slice ua QN uc)]) := Hid.of (.cons cs.tail.tail.tail.lt cs.tail.tail.tail.head (.cons (cell_lt e0) e0 (.cons (cell_lt e1) e1 (.cons (cell_lt e2) e2 (.cons (cell_lt e3) e3 CX.out)))))
     have RB : Hid (RchRow w8 (.agg #[.int .i64 nw, .string tn, sb, fb]) (nw, (tn, tt), BS)) := Hid.of err
     have FR8 := BF _ GX.out.fr
     clear e0 e1 e2 e3 err cs CX
     have n9 : QN ≤ 10 := by have := QS.out.1; rw [← HQN.out]; exact this
     go_upto_region 22 with fail
     go_loopg [18] QN (fun kx jv wr => ∃ (j : Nat), jv = .int .i64 j ∧ j ≤ QN ∧ QN - j ≤ kx ∧ Hid (Dc wr [(⟨z + 1, 1, none⟩, .slice ta QN tc), (⟨q, 0, none⟩, .int .i64 nw), (⟨q, 1, none⟩, .string tn), (⟨q, 2, none⟩, sb), (⟨q, 3, none⟩, fb), (⟨x, 0, none⟩, .int .i64 nw), (⟨x, 1, none⟩, .string tn), (⟨x, 2, none⟩, .slice ta QN tc), (⟨x, 3, none⟩, .slice ua QN uc)]) ∧ Hid (Below w8.heap.size w8 wr))
     case atStart => exact ⟨0, rfl, Nat.zero_le _, Nat.le_refl _, CS8, Hid.of (Below.refl _ _)⟩
     case round =>
      clear CS8
      obtain ⟨j, rfl, hj, hk, CS, BB⟩ := hrel
      have j0 : (0 : Int) ≤ (j : Int) := Int.natCast_nonneg _
      have c1 := CS.out.head
      by_cases hlt : (j : Int) < (QN : Int)
      ·have HJ : Hid (j < QN) := Hid.of (by omega)
       have hjt : j < tt.length := by have := HQN.out; omega
       obtain ⟨Y, hY⟩ : ∃ Y, iView (nw, (tn, tt), BS) j all = Y := ⟨_, rfl⟩
       have HYE : Hid (iTab (iViews (nw, (tn, tt), BS) all) (j : Int) = Y) := Hid.of (by
        rw [iTab_views, if_pos ⟨j0, by rw [show ((j : Int).toNat) = j by omega]; exact hjt⟩, show ((j : Int).toNat) = j by omega]
        exact hY)
       have HYV : Hid ((if 0 ≤ (j : Int) ∧ ((j : Int)).toNat < ((tn, tt) : PolL).2.length then iView (nw, (tn, tt), BS) ((j : Int)).toNat all else []) = Y) := Hid.of (by
        rw [if_pos ⟨j0, by rw [show ((j : Int).toNat) = j by omega]; exact hjt⟩, show ((j : Int).toNat) = j by omega]
        exact hY)
       have YL : Hid (Y.length ≤ 1000) := Hid.of (by rw [← hY]; exact HLB.out _ (List.mem_of_getElem? (iViews_get (r := (nw, (tn, tt), BS)) hjt)))
       obtain ⟨fx, hfx⟩ : ∃ fx, rFrom (nw, (tn, tt), BS) (j : Int) = fx := ⟨_, rfl⟩
       have HFX := Hid.of hfx
       clear hY hjt hfx
       go_upto_region 24 with fail
       clear c1
       have D24 : Hid (Dc wr [(⟨q, 0, none⟩, .int .i64 nw), (⟨q, 1, none⟩, .string tn), (⟨q, 2, none⟩, sb), (⟨q, 3, none⟩, fb), (⟨x, 0, none⟩, .int .i64 nw), (⟨x, 1, none⟩, .string tn), (⟨x, 2, none⟩, .slice ta QN tc), (⟨x, 3, none⟩, .slice ua QN uc)]) := Hid.of CS.out.tail
       have bd := (Below.refl wr.heap.size wr).drew
       have BBa := Hid.of (BB.out.trans (bd.mono BB.out.size))
       have CSa := Hid.of (CS.out.next bd)
       have Da := Hid.of (D24.out.next bd)
       clear bd BB CS
       have d0 := (D24.out).head
       have d1 := ((D24.out).tail).head
       have d2 := (((D24.out).tail).tail).head
       have d3 := ((((D24.out).tail).tail).tail).head
       have d4 := (((((D24.out).tail).tail).tail).tail).head
       have d5 := ((((((D24.out).tail).tail).tail).tail).tail).head
       have d6 := (((((((D24.out).tail).tail).tail).tail).tail).tail).head
       have d7 := ((((((((D24.out).tail).tail).tail).tail).tail).tail).tail).head
       refine wp_region_noPanic ?_
       refine wp_region_held_drew (S := fun w' => w'.cell? ⟨q, 0, none⟩ = some (.int .i64 nw) ∧ w'.cell? ⟨q, 1, none⟩ = some (.string tn) ∧ w'.cell? ⟨q, 2, none⟩ = some (sb) ∧ w'.cell? ⟨q, 3, none⟩ = some (fb) ∧ w'.cell? ⟨x, 0, none⟩ = some (.int .i64 nw) ∧ w'.cell? ⟨x, 1, none⟩ = some (.string tn) ∧ w'.cell? ⟨x, 2, none⟩ = some (.slice ta QN tc) ∧ w'.cell? ⟨x, 3, none⟩ = some (.slice ua QN uc)) (by kernel_rfl) ?_ (fun hHeld => ?_)
       ·exact ⟨d0, d1, d2, d3, d4, d5, d6, d7⟩
       refine takeOp 0 (o := ⟨_, _, _, _, _, _⟩) (v := ?_) rfl (by kernel_rfl) (by rfl) hHeld ?_ ?_; rotate_left; (next => intro w' hSw; (try dsimp only at hSw); go_simp; all_goals with_reducible rfl); simp only [Act.put, pA9, pB9, pC9]
       refine takeOp 1 (o := ⟨_, _, _, _, _, _⟩) (v := ?_) rfl (by kernel_rfl) (by rfl) hHeld ?_ ?_; rotate_left; (next => intro w' hSw; (try dsimp only at hSw); go_simp; all_goals with_reducible rfl); simp only [Act.put, pA9, pB9, pC9]
       refine takeOp 2 (o := ⟨_, _, _, _, _, _⟩) (v := ?_) rfl (by kernel_rfl) (by rfl) hHeld ?_ ?_; rotate_left; (next => intro w' hSw; (try dsimp only at hSw); go_simp; all_goals with_reducible rfl); simp only [Act.put, pA9, pB9, pC9]
       refine takeOp 3 (o := ⟨_, _, _, _, _, _⟩) (v := ?_) rfl (by kernel_rfl) (by rfl) hHeld ?_ ?_; rotate_left; (next => intro w' hSw; (try dsimp only at hSw); go_simp; all_goals with_reducible rfl); simp only [Act.put, pA9, pB9, pC9]
       refine takeOp 4 (o := ⟨_, _, _, _, _, _⟩) (v := ?_) rfl (by kernel_rfl) (by rfl) hHeld ?_ ?_; rotate_left; (next => intro w' hSw; (try dsimp only at hSw); go_simp; all_goals with_reducible rfl); simp only [Act.put, pA9, pB9, pC9]
       refine takeOp 6 (o := ⟨_, _, _, _, _, _⟩) (v := ?_) rfl (by kernel_rfl) (by rfl) hHeld ?_ ?_; rotate_left; (next => intro w' hSw; (try dsimp only at hSw); go_simp; all_goals with_reducible rfl); simp only [Act.put, pA9, pB9, pC9]
       refine takeOp 7 (o := ⟨_, _, _, _, _, _⟩) (v := ?_) rfl (by kernel_rfl) (by rfl) hHeld ?_ ?_; rotate_left; (next => intro w' hSw; (try dsimp only at hSw); go_simp; all_goals with_reducible rfl); simp only [Act.put, pA9, pB9, pC9]
       refine wpAnyH_ready (rs := [5]) (by kernel_rfl) (by simp) ?_
       refine AllReadyH.cons (o := ⟨_, _, _, _, _, _⟩) rfl (fun K hK => ?_) AllReadyH.nil
       go_simp
       refine (reaches.from_ _ (nw, (tn, tt), BS) (j : Int) _ trivial FTO.out (by unfold In64; omega) (RB.out.kept BBa.out)).mono ?_
       rintro e wb ⟨rfl, b⟩
       rw [HFX.out]
       have BBb := Hid.of (BBa.out.trans (b.mono BBa.out.size))
       have CSb := Hid.of (CSa.out.next b)
       have Db := Hid.of (Da.out.next b)
       clear b BBa CSa Da D24
       clear hHeld d0 d1 d2 d3 d4 d5 d6 d7
       have d0 := (Db.out).head
       have d1 := ((Db.out).tail).head
       have d2 := (((Db.out).tail).tail).head
       have d3 := ((((Db.out).tail).tail).tail).head
       have d4 := (((((Db.out).tail).tail).tail).tail).head
       have d5 := ((((((Db.out).tail).tail).tail).tail).tail).head
       have d6 := (((((((Db.out).tail).tail).tail).tail).tail).tail).head
       have d7 := ((((((((Db.out).tail).tail).tail).tail).tail).tail).tail).head
       refine hK.out _ _ ⟨d0, d1, d2, d3, d4, d5, d6, d7⟩ (fun hHeld => ?_)
       clear hK K
       try simp only [Act.put, pA9, pB9, pC9]
       refine wpAnyH_ready (rs := [8]) (by kernel_rfl) (by simp) ?_
       refine AllReadyH.cons (o := ⟨_, _, _, _, _, _⟩) rfl (fun K hK => ?_) AllReadyH.nil
       go_simp
       refine (refFrom_any nw tn (.slice ta QN tc) (.slice ua QN uc) (tn, tt) BS (j : Int) _ (by have := HTS.out.kept (FR8.out.trans (BBb.out.mono FR8.out.size)); rwa [← HQN.out] at this ⊢) (by have := UX.out.kept BBb.out; rwa [← BSL.out] at this ⊢) FTO.out (by unfold In64; omega)).mono ?_
       rintro e wc ⟨rfl, b⟩
       rw [HFX.out]
       have BBc := Hid.of (BBb.out.trans (b.mono BBb.out.size))
       have CSc := Hid.of (CSb.out.next b)
       have Dc := Hid.of (Db.out.next b)
       clear b BBb CSb Db
       clear hHeld d0 d1 d2 d3 d4 d5 d6 d7
       have d0 := (Dc.out).head
       have d1 := ((Dc.out).tail).head
       have d2 := (((Dc.out).tail).tail).head
       have d3 := ((((Dc.out).tail).tail).tail).head
       have d4 := (((((Dc.out).tail).tail).tail).tail).head
       have d5 := ((((((Dc.out).tail).tail).tail).tail).tail).head
       have d6 := (((((((Dc.out).tail).tail).tail).tail).tail).tail).head
       have d7 := ((((((((Dc.out).tail).tail).tail).tail).tail).tail).tail).head
       refine hK.out _ _ ⟨d0, d1, d2, d3, d4, d5, d6, d7⟩ (fun hHeld => ?_)
       clear hK K
       try simp only [Act.put, pA9, pB9, pC9]
       refine takeOp 9 (o := ⟨_, _, _, _, _, _⟩) (v := ?_) rfl (by kernel_rfl) (by rfl) hHeld ?_ ?_; rotate_left; (next => intro w' hSw; (try dsimp only at hSw); go_simp; all_goals with_reducible rfl); simp only [Act.put, pA9, pB9, pC9]
       refine takeOp 10 (o := ⟨_, _, _, _, _, _⟩) (v := ?_) rfl (by kernel_rfl) (by rfl) hHeld ?_ ?_; rotate_left; (next => intro w' hSw; (try dsimp only at hSw); go_simp; all_goals with_reducible rfl); simp only [Act.put, pA9, pB9, pC9]
       refine takeOp 11 (o := ⟨_, _, _, _, _, _⟩) (v := ?_) rfl (by kernel_rfl) (by rfl) hHeld ?_ ?_; rotate_left; (next => intro w' hSw; (try dsimp only at hSw); go_simp; all_goals with_reducible rfl); simp only [Act.put, pA9, pB9, pC9]
       refine takeOp 12 (o := ⟨_, _, _, _, _, _⟩) (v := ?_) rfl (by kernel_rfl) (by rfl) hHeld ?_ ?_; rotate_left; (next => intro w' hSw; (try dsimp only at hSw); go_simp; all_goals with_reducible rfl); simp only [Act.put, pA9, pB9, pC9]
       refine takeOp 14 (o := ⟨_, _, _, _, _, _⟩) (v := ?_) rfl (by kernel_rfl) (by rfl) hHeld ?_ ?_; rotate_left; (next => intro w' hSw; (try dsimp only at hSw); go_simp; all_goals with_reducible rfl); simp only [Act.put, pA9, pB9, pC9]
       refine takeOp 15 (o := ⟨_, _, _, _, _, _⟩) (v := ?_) rfl (by kernel_rfl) (by rfl) hHeld ?_ ?_; rotate_left; (next => intro w' hSw; (try dsimp only at hSw); go_simp; all_goals with_reducible rfl); simp only [Act.put, pA9, pB9, pC9]
       refine takeOp 16 (o := ⟨_, _, _, _, _, _⟩) (v := ?_) rfl (by kernel_rfl) (by rfl) hHeld ?_ ?_; rotate_left; (next => intro w' hSw; (try dsimp only at hSw); go_simp; all_goals with_reducible rfl); simp only [Act.put, pA9, pB9, pC9]
       refine wpAnyH_ready (rs := [13]) (by kernel_rfl) (by simp) ?_
       refine AllReadyH.cons (o := ⟨_, _, _, _, _, _⟩) rfl (fun K hK => ?_) AllReadyH.nil
       have HGX := Hid.of (GX.out.next BBc.out)
       have hrx := S.records (j : Int) (S.okKept OK.out HGX.out.fr) HGX.out.rep HLB.out (by unfold In64; omega)
       rw [HYE.out] at hrx
       go_simp
       refine hrx.mono ?_
       rintro e wd ⟨ux, rfl, ox, b⟩
       have OX := Hid.of (own_row ox)
       have BBd := Hid.of (BBc.out.trans (b.mono BBc.out.size))
       have CSd := Hid.of (CSc.out.next b)
       have Dd := Hid.of (Dc.out.next b)
       clear b BBc CSc Dc hrx ox HGX
       clear hHeld d0 d1 d2 d3 d4 d5 d6 d7
       have d0 := (Dd.out).head
       have d1 := ((Dd.out).tail).head
       have d2 := (((Dd.out).tail).tail).head
       have d3 := ((((Dd.out).tail).tail).tail).head
       have d4 := (((((Dd.out).tail).tail).tail).tail).head
       have d5 := ((((((Dd.out).tail).tail).tail).tail).tail).head
       have d6 := (((((((Dd.out).tail).tail).tail).tail).tail).tail).head
       have d7 := ((((((((Dd.out).tail).tail).tail).tail).tail).tail).tail).head
       refine hK.out _ _ ⟨d0, d1, d2, d3, d4, d5, d6, d7⟩ (fun hHeld => ?_)
       clear hK K
       try simp only [Act.put, pA9, pB9, pC9]
       refine wpAnyH_ready (rs := [17]) (by kernel_rfl) (by simp) ?_
       refine AllReadyH.cons (o := ⟨_, _, _, _, _, _⟩) rfl (fun K hK => ?_) AllReadyH.nil
       have AXd := Hid.of (iown_kept' AX.out BBd.out)
       have hvw := refView_every nw tn (.slice ta QN tc) (.slice ua QN uc) (tn, tt) BS (j : Int) a all wd (by have := HTS.out.kept (FR8.out.trans (BBd.out.mono FR8.out.size)); rwa [← HQN.out] at this ⊢) (by have := UX.out.kept BBd.out; rwa [← BSL.out] at this ⊢) FTO.out (fun t ht => by obtain ⟨i, hi⟩ := List.getElem?_of_mem ht; exact (tier_known QCH.out hi).1) (by unfold In64; omega) (by have := own_row AXd.out; rwa [← HM.out] at this) (by rw [HM.out]; omega) HAF.out
       rw [HYV.out] at hvw
       go_simp
       refine hvw.mono ?_
       rintro e we ⟨uy, rfl, oy, b⟩
       have OY := Hid.of oy
       have OXe := Hid.of (OX.out.kept b)
       have BBe := Hid.of (BBd.out.trans (b.mono BBd.out.size))
       have CSe := Hid.of (CSd.out.next b)
       have De := Hid.of (Dd.out.next b)
       clear b BBd CSd Dd hvw oy AXd OX
       clear hHeld d0 d1 d2 d3 d4 d5 d6 d7
       have d0 := (De.out).head
       have d1 := ((De.out).tail).head
       have d2 := (((De.out).tail).tail).head
       have d3 := ((((De.out).tail).tail).tail).head
       have d4 := (((((De.out).tail).tail).tail).tail).head
       have d5 := ((((((De.out).tail).tail).tail).tail).tail).head
       have d6 := (((((((De.out).tail).tail).tail).tail).tail).tail).head
       have d7 := ((((((((De.out).tail).tail).tail).tail).tail).tail).tail).head
       refine hK.out _ _ ⟨d0, d1, d2, d3, d4, d5, d6, d7⟩ (fun hHeld => ?_)
       clear hK K
       try simp only [Act.put, pA9, pB9, pC9]
       refine wpAnyH_ready (rs := [18]) (by kernel_rfl) (by simp) ?_
       refine AllReadyH.cons (o := ⟨_, _, _, _, _, _⟩) rfl (fun K hK => ?_) AllReadyH.nil
       go_simp
       refine (SameRecords_named ux uy (Y.map rl) _ (List.length_map _) _ OXe.out OY.out (by have := YL.out; omega)).mono ?_
       rintro e wf ⟨rfl, kq, hwf⟩
       have b : Below we.heap.size we wf := by rw [hwf]; exact below_drewN (Below.refl _ _) kq
       have BBf := Hid.of (BBe.out.trans (b.mono BBe.out.size))
       have CSf := Hid.of (CSe.out.next b)
       have Df := Hid.of (De.out.next b)
       clear b hwf BBe CSe De OXe OY
       clear hHeld d0 d1 d2 d3 d4 d5 d6 d7
       have d0 := (Df.out).head
       have d1 := ((Df.out).tail).head
       have d2 := (((Df.out).tail).tail).head
       have d3 := ((((Df.out).tail).tail).tail).head
       have d4 := (((((Df.out).tail).tail).tail).tail).head
       have d5 := ((((((Df.out).tail).tail).tail).tail).tail).head
       have d6 := (((((((Df.out).tail).tail).tail).tail).tail).tail).head
       have d7 := ((((((((Df.out).tail).tail).tail).tail).tail).tail).tail).head
       refine hK.out _ _ ⟨d0, d1, d2, d3, d4, d5, d6, d7⟩ (fun hHeld => ?_)
       clear hK K
       try simp only [Act.put, pA9, pB9, pC9]
       refine takeOp 19 (o := ⟨_, _, _, _, _, _⟩) (v := ?_) rfl (by kernel_rfl) (by rfl) hHeld ?_ ?_; rotate_left; (next => intro w' hSw; (try dsimp only at hSw); go_simp; all_goals with_reducible rfl); simp only [Act.put, pA9, pB9, pC9]
       refine takeOp 20 (o := ⟨_, _, _, _, _, _⟩) (v := ?_) rfl (by kernel_rfl) (by rfl) hHeld ?_ ?_; rotate_left; (next => intro w' hSw; (try dsimp only at hSw); go_simp; all_goals with_reducible rfl); simp only [Act.put, pA9, pB9, pC9]
       refine wpAnyH_done (by kernel_rfl) ?_ _
       refine NoPanic.normal ?_
       clear hHeld Df d0 d1 d2 d3 d4 d5 d6 d7
       go_wp2
       go_roundg (QN - (j + 1))
       case measure => have := HJ.out; omega
       case rel => exact ⟨j + 1, by go_num, HJ.out, Nat.le_refl _, CSf, BBf⟩
      ·obtain rfl : j = QN := by omega
       have BE := Hid.of (FR8.out.trans (BB.out.mono FR8.out.size))
       go_wp2_with fail
       refine (planAlive_any _).mono ?_
       rintro e w9 ⟨rfl, b9⟩
       have B9 := Hid.of (BE.out.trans (b9.mono BE.out.size))
       go_wp2
       go_ret
       exact ⟨rfl, B9.out⟩

end Go.Proofs.YtiomoobeklpkmaaGreat
