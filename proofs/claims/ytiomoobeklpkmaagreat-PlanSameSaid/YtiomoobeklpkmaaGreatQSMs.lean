/-
  PlanSame: to the same policy again nothing is lost and nothing is new.
-/
import Derived.Test.YtiomoobeklpkmaaGreatS42
import Derived.Test.YtiomoobeklpkmaaGreatS50
import Derived.Test.YtiomoobeklpkmaaGreatS49
import Derived.Test.YtiomoobeklpkmaaGreatS43
import Derived.Test.YtiomoobeklpkmaaGreatS05
namespace Go.Proofs.YtiomoobeklpkmaaGreat
open Go.RowKit Go.Lib

theorem keep_next {Y : List TRec} {i : Nat} {u : TRec} (hu : Y[i]? = some u) {f : Int} : (tKeep (Y.take (i + 1)) f).length = if f ≤ u.s then (tKeep (Y.take i) f).length + 1 else (tKeep (Y.take i) f).length := by
  rw [take_next hu]
  unfold tKeep
  rw [List.filter_append, List.length_append, List.filter_cons, List.filter_nil]
  by_cases c : f ≤ u.s
  · rw [if_pos (decide_eq_true c), if_pos c]
    rfl
  · rw [if_neg (by simpa using c), if_neg c]
    rfl

theorem keep_here {Y : List TRec} {i : Nat} {u : TRec} (hu : Y[i]? = some u) {f : Int} (h : f ≤ u.s) : (tKeep Y f)[(tKeep (Y.take i) f).length]? = some u := by
  obtain ⟨hi, e⟩ := List.getElem?_eq_some_iff.1 hu
  have hs : tKeep Y f = tKeep (Y.take i) f ++ u :: tKeep (Y.drop (i + 1)) f := by
    have h1 : Y = Y.take i ++ u :: Y.drop (i + 1) := by rw [← e, ← List.drop_eq_getElem_cons hi, List.take_append_drop]
    show Y.filter _ = _
    rw [h1, List.filter_append, List.filter_cons, if_pos (decide_eq_true h)]
    rw [← h1]
    rfl
  rw [hs, List.getElem?_append_right (Nat.le_refl _), Nat.sub_self]
  rfl

set_option maxRecDepth 20000 in
set_option maxHeartbeats 12800000 in
theorem planSame_main {TS : TableSpec} (S : TiersSpec TS) (pv lv : Value) (p : PolL) (now : Int) (l : List IOpL) (w : World) (hS : S.Ok w) (hp : PolRow w pv p) (fp : ∀ x ∈ p.2, TIn x) (hn : In64 now) (hl : IOpsRow w lv l) :
    Calls Tryz.prog 6 #[pv, .int .i64 now, lv] w fun e w' => e = .returned (.bool true) ∧ Below w.heap.size w w' := by
  have HP0 := Hid.of hp
  obtain ⟨pn, pt⟩ := p
  obtain ⟨qs, rfl, hps, -⟩ := hp
  obtain ⟨psa, psc, rfl, -⟩ := hps
  obtain ⟨PN, hPN⟩ : ∃ PN, pt.length = PN := ⟨_, rfl⟩
  simp only at HP0 ⊢
  rw [hPN] at HP0 ⊢
  have HPN := Hid.of hPN
  clear hPN
  obtain ⟨w1, hw1⟩ : ∃ w1, w.alloc (.cells #[.string pn, (.slice psa PN psc)] 24) = w1 := ⟨_, rfl⟩
  obtain ⟨z, hz⟩ : ∃ z, w.heap.size = z := ⟨_, rfl⟩
  have B1 : Hid (Below w.heap.size w w1) := Hid.of (by rw [← hw1]; exact (Below.refl _ _).alloc (Nat.le_refl _) _)
  have K1 : Hid (PBlk w1 z pn (.slice psa PN psc)) := Hid.of (by rw [← hw1, ← hz]; exact PBlk.made w pn (.slice psa PN psc))
  have OK := Hid.of hS
  have FP := Hid.of fp
  have HL := Hid.of hl
  obtain ⟨⟨va, vc, rfl, -⟩, -⟩ := hl
  obtain ⟨N, hN⟩ : ∃ N, l.length = N := ⟨_, rfl⟩
  have NL := Hid.of hN
  have HR : Hid (CellRow w (.slice va N vc) N (flat IOpL.cells l)) := Hid.of (by rw [← hN]; exact HL.out.1)
  have hsm := Small_any _ (pn, pt) w1 (HP0.out.kept B1.out)
  have HN := Hid.of hn
  rw [hN]
  have HW := Hid.of hw1
  have HZ := Hid.of hz
  obtain ⟨q0, q1⟩ := K1.out.at
  clear hS fp hN hw1 hz hn
  go_enter Tryz.func6, Tryz.ntmps6
  go_upto_region 1 with fail
  rw [HW.out, HZ.out]
  clear HW
  go_wp2_with fail
  refine hsm.mono ?_
  rintro e w2 ⟨small, rfl, HSM, b2⟩
  have B2 := Hid.of (B1.out.trans (b2.mono B1.out.size))
  have K2 := Hid.of (K1.out.kept b2)
  clear b2 hsm q0 q1 K1 B1
  cases small
  · go_wp2_with fail
    refine (planAlive_any _).mono ?_
    rintro e w9 ⟨rfl, b9⟩
    have B9 := Hid.of (B2.out.trans (b9.mono B2.out.size))
    go_wp2
    go_ret
    exact ⟨rfl, B9.out⟩
  have PS := Hid.of (HSM.out (by first | rfl | trivial))
  clear HSM
  have hlt := Light_any (.slice va l.length vc) l w2 (HL.out.kept B2.out)
  rw [NL.out] at hlt
  go_wp2_with fail
  refine hlt.mono ?_
  rintro e w3 ⟨light, rfl, HLI, b3⟩
  have B3 := Hid.of (B2.out.trans (b3.mono B2.out.size))
  have K3 := Hid.of (K2.out.kept b3)
  clear b3 hlt K2 B2
  cases light
  · go_wp2_with fail
    refine (planAlive_any _).mono ?_
    rintro e w9 ⟨rfl, b9⟩
    have B9 := Hid.of (B3.out.trans (b9.mono B3.out.size))
    go_wp2
    go_ret
    exact ⟨rfl, B9.out⟩
  have LI := Hid.of (HLI.out (by first | rfl | trivial))
  clear HLI
  obtain ⟨q0, q1⟩ := K3.out.at
  have hnew := S.new (.agg #[.string pn, (.slice psa PN psc)]) (.slice none 0 0) (pn, pt) now [] w3 (S.okKept OK.out B3.out) (HP0.out.kept B3.out) PS.out.2.1 PS.out.1 (fun x hx => ⟨PS.out.2.2 x hx, (FP.out x hx).2⟩) HN.out ⟨_, _, rfl, .inl rfl⟩ (Nat.le_refl _) (by decide) (fun x hx => absurd hx List.not_mem_nil)
  go_wp2_with fail
  refine hnew.mono ?_
  rintro e w4 ⟨h1, h2, b4⟩
  have B4 := Hid.of (B3.out.trans (b4.mono B3.out.size))
  have K4 := Hid.of (K3.out.kept b4)
  have HZL : Hid (z < w3.heap.size) := Hid.of (Array.getElem?_eq_some_iff.1 K3.out).1
  clear q0 q1 K3
  by_cases he : iNewE (pn, pt) now [] = 0
  case neg =>
    obtain rfl := h2 he
    obtain ⟨er, her⟩ : ∃ er, iNewE (pn, pt) now [] = er := ⟨_, rfl⟩
    rw [her] at he ⊢
    clear her h1 h2 b4 hnew
    go_wp2_with fail
    refine (planAlive_any _).mono ?_
    rintro e w9 ⟨rfl, b9⟩
    have B9 := Hid.of (B4.out.trans (b9.mono B4.out.size))
    go_wp2
    go_ret
    exact ⟨rfl, B9.out⟩
  obtain ⟨p, F, rfl, rep, hF⟩ := h1 he
  have GD0 := Hid.of (IGood.new he)
  have H4 : Hid (IHere S w.heap.size w w4 p (now, (pn, pt), []) (iViews (now, (pn, pt), []) []) F) := Hid.of ⟨by rw [iViews_nil]; exact rep, fun k hk => Nat.le_trans B3.out.size (hF k (S.sub rep k hk)), B4.out.size, B4.out⟩
  have HZF : Hid (¬ F.own z) := Hid.of (fun c => by have := hF z (S.sub rep z c); have := HZL.out; omega)
  have HN50 : N ≤ 50 := by have := LI.out.1; rw [NL.out] at this; exact this
  clear rep hF b4 h1 h2 hnew he B3 B4
  go_wp2
  go_loopg [9] N (fun kx iv wr => ∃ (i : Nat) (nw : Int) (all : List SamL) (G : TFoot), iv = .int .i64 i ∧ i ≤ N ∧ N - i ≤ kx ∧ Hid (all.length ≤ 8 * i) ∧ Hid (∀ x ∈ all, SFit x) ∧ Hid (∀ x ∈ iViews (nw, (pn, pt), []) all, x.length ≤ 8 * i) ∧ Hid (IHere S w.heap.size w wr p (nw, (pn, pt), []) (iViews (nw, (pn, pt), []) all) G) ∧ Hid (PBlk wr z pn (.slice psa PN psc)) ∧ Hid (¬ G.own z))
  case atStart => exact ⟨0, now, [], F, rfl, Nat.zero_le _, Nat.le_refl _, Hid.of (Nat.le_refl _), Hid.of (fun x hx => absurd hx List.not_mem_nil), Hid.of (fun x hx => by rw [iViews_nil] at hx; rw [List.eq_of_mem_replicate hx]; exact Nat.le_refl _), H4, K4, HZF⟩
  case round =>
    clear H4 K4 HZF
    obtain ⟨i, nw, all, G, rfl, hiN, hkx, HM, HAF, HT, H, K, HZG⟩ := hrel
    by_cases hlt : (i : Int) < (N : Int)
    · obtain ⟨o, ho⟩ : ∃ o, l[i]? = some o := ⟨_, List.getElem?_eq_getElem (by have := NL.out; omega)⟩
      have hom := List.mem_of_getElem? ho
      have OI := Hid.of (HL.out.2 o hom)
      have OL := Hid.of (LI.out.2 o hom)
      obtain ⟨bq, o1, rfl, hb1, c0, c1, c2, c3⟩ := iop_at (HR.out.kept H.out.fr) i o ho
      have HO1 := Hid.of ho
      have hi0 : (0 : Int) ≤ (i : Int) := by omega
      have HIN : Hid (i < N) := Hid.of (by omega)
      have hle8 : ∀ x ∈ iViews (nw, (pn, pt), []) all, x.length + 8 ≤ 1000 := fun x hx => by have := HT.out x hx; omega
      have HLE8 := Hid.of hle8
      clear ho hom hb1 c3 hle8
      by_cases hk : o.k = 1
      · have hput := S.put _ o.ss (H.out.ok OK.out) H.out.rep HLE8.out (OI.out.s.kept H.out.fr) OI.out.sc (by have := OL.out.1.1; omega) (fun hne => off_in OI.out.s (sams_ne hne) H.out.ge) OI.out.sf
        have hk2 : ¬ o.k = 2 := by omega
        clear c1
        go_wp2_with fail
        refine hput.mono ?_
        rintro e w5 ⟨rfl, G5, rep5, st5⟩
        obtain ⟨ce, hce⟩ : ∃ ce, iCheck (nw, (pn, pt), []) o.ss = ce := ⟨_, rfl⟩
        rw [hce] at rep5 ⊢
        have KL : Hid (z < wr.heap.size) := Hid.of (Array.getElem?_eq_some_iff.1 K.out).1
        have K5 : Hid (PBlk w5 z pn (.slice psa PN psc)) := Hid.of ((st5.own.block z KL.out HZG.out).trans K.out)
        have ZG5 : Hid (¬ G5.own z) := Hid.of (fun c => by
          rcases st5.own.foot z c with d | d
          · exact HZG.out d
          · have := KL.out; omega)
        obtain ⟨all5, A5, AF5, T5, rep6⟩ : ∃ all5 : List SamL, Hid (all5.length ≤ 8 * (i + 1)) ∧ Hid (∀ x ∈ all5, SFit x) ∧ Hid (∀ x ∈ iViews (nw, (pn, pt), []) all5, x.length ≤ 8 * (i + 1)) ∧ S.Rep w5 p (nw, (pn, pt), []) (iViews (nw, (pn, pt), []) all5) G5 := by
          by_cases hc0 : ce = 0
          · rw [if_pos hc0] at rep5
            have CZ := iCheck_zero' (hce.trans hc0)
            rw [iViews_put CZ.2.2] at rep5
            refine ⟨all ++ o.ss, Hid.of (by rw [List.length_append]; have := HM.out; have := CZ.2.1; omega), Hid.of (fun x hx => ?_), Hid.of (fun x hx => ?_), rep5⟩
            · rcases List.mem_append.1 hx with hx | hx
              · exact HAF.out x hx
              · exact OI.out.sf x hx
            · rw [← iViews_put CZ.2.2] at hx
              have := iPut_le HT.out x hx
              have := CZ.2.1
              omega
          · rw [if_neg hc0] at rep5
            exact ⟨all, Hid.of (by have := HM.out; omega), HAF, Hid.of (fun x hx => by have := HT.out x hx; omega), rep5⟩
        have H5 := Hid.of (H.out.step rep6 st5)
        obtain ⟨bq', o1', hq', hb1', c0', -, -, -⟩ := iop_at (HR.out.kept H5.out.fr) i o HO1.out
        obtain ⟨rfl, rfl⟩ : bq' = bq ∧ o1' = o1 := by
          have := Option.some.inj hq'
          simp only [Addr.mk.injEq] at this
          exact ⟨this.1.symm, this.2.1.symm⟩
        clear rep5 rep6 st5 hput H c0 c2 hce hq' hb1' K KL HZG HT HM HAF
        go_wp2
        go_roundg (N - (i + 1))
        case measure => have := HIN.out; omega
        case rel => exact ⟨i + 1, nw, all5, G5, by go_num, HIN.out, Nat.le_refl _, A5, AF5, T5, H5, K5, ZG5⟩
      · by_cases hk2 : o.k = 2
        · have htk := S.tick o.n (H.out.ok OK.out) H.out.rep (fun x hx => by have := HLE8.out x hx; omega) OI.out.n
          clear c2
          go_wp2_with fail
          refine htk.mono ?_
          rintro e w5 ⟨rfl, G5, rep5, st5⟩
          obtain ⟨te, hte⟩ : ∃ te, iTickE (nw, (pn, pt), []) o.n = te := ⟨_, rfl⟩
          rw [hte] at rep5 ⊢
          have KL : Hid (z < wr.heap.size) := Hid.of (Array.getElem?_eq_some_iff.1 K.out).1
          have K5 : Hid (PBlk w5 z pn (.slice psa PN psc)) := Hid.of ((st5.own.block z KL.out HZG.out).trans K.out)
          have ZG5 : Hid (¬ G5.own z) := Hid.of (fun c => by
            rcases st5.own.foot z c with d | d
            · exact HZG.out d
            · have := KL.out; omega)
          obtain ⟨nw5, T5, rep6⟩ : ∃ nw5 : Int, Hid (∀ x ∈ iViews (nw5, (pn, pt), []) all, x.length ≤ 8 * (i + 1)) ∧ S.Rep w5 p (nw5, (pn, pt), []) (iViews (nw5, (pn, pt), []) all) G5 := by
            by_cases ht0 : te = 0
            · have tl := tick_len (hte.trans ht0)
              have gd := S.good H.out.rep
              have gn0 : 0 ≤ nw := gd.n0
              have tl2 : o.n ≤ maxT - nw := tl.2
              have ev := iViews_tick gd tl.1 (by unfold maxT at tl2; omega)
              rw [if_pos ht0, if_pos ht0, ev] at rep5
              refine ⟨nw + o.n, Hid.of (fun x hx => ?_), rep5⟩
              have : x ∈ iKeep (iNow (nw, (pn, pt), []) o.n) (iViews (nw, (pn, pt), []) all) := by rw [ev]; exact hx
              have := iKeep_le HT.out x this
              omega
            · rw [if_neg ht0, if_neg ht0] at rep5
              exact ⟨nw, Hid.of (fun x hx => by have := HT.out x hx; omega), rep5⟩
          have H5 := Hid.of (H.out.step rep6 st5)
          clear rep5 rep6 st5 htk H c0 c1 hte K KL HZG HT
          go_wp2
          go_roundg (N - (i + 1))
          case measure => have := HIN.out; omega
          case rel => exact ⟨i + 1, nw5, all, G5, by go_num, HIN.out, Nat.le_refl _, Hid.of (by have := HM.out; omega), HAF, T5, H5, K5, ZG5⟩
        · clear c1 c2
          go_wp2
          go_roundg (N - (i + 1))
          case measure => have := HIN.out; omega
          case rel => exact ⟨i + 1, nw, all, G, by go_num, HIN.out, Nat.le_refl _, Hid.of (by have := HM.out; omega), HAF, Hid.of (fun x hx => by have := HT.out x hx; omega), H, K, HZG⟩
    · obtain rfl : i = N := by omega
      obtain ⟨sq, fq, d0, d1, d2, d3, drr⟩ := S.cells H.out.rep
      have GD := Hid.of (S.good H.out.rep)
      have FIT := Hid.of (S.fit H.out.rep)
      obtain ⟨k0, k1⟩ := K.out.at
      have kz := (Array.getElem?_eq_some_iff.1 K.out).1
      have ER0 : Hid (mErr (pn, pt) (pn, pt) = 0) := Hid.of (by have := GD.out.chk; unfold mErr; rw [if_neg (by rw [this]; simp)]; exact this)
      have PO : Hid (PlanOk nw (pn, pt) (pn, pt) all) := Hid.of ⟨ER0.out, GD.out, HAF.out⟩
      have CS0 : Hid (Dc wr [(⟨z, 0, none⟩, .string pn), (⟨z, 1, none⟩, .slice psa PN psc), (⟨p, 0, none⟩, .int .i64 nw), (⟨p, 1, none⟩, .string pn), (⟨p, 2, none⟩, sq), (⟨p, 3, none⟩, fq)]) := Hid.of (.cons kz k0 (.cons kz k1 (.cons (cell_lt d0) d0 (.cons (cell_lt d1) d1 (.cons (cell_lt d2) d2 (.cons (cell_lt d3) d3 (Dc.nil _)))))))
      have R0 : Hid (RchRow wr (.agg #[.int .i64 nw, .string pn, sq, fq]) (nw, (pn, pt), [])) := Hid.of drr
      have T0 : Hid (PolRow wr (.agg #[.string pn, .slice psa PN psc]) (pn, pt)) := Hid.of (HP0.out.kept H.out.fr)
      have FP0 := Hid.of (fit_of FP.out PS.out)
      have HLE : Hid (∀ x ∈ iViews (nw, (pn, pt), []) all, x.length ≤ 1000) := Hid.of (fun x hx => by have := HT.out x hx; omega)
      have H0 := H
      have B0 := Hid.of H.out.fr
      obtain ⟨pl, hpl⟩ : ∃ pl, mMake (pn, pt) (nw, (pn, pt), []) (pn, pt) = pl := ⟨_, rfl⟩
      have MK : Hid (mErr (pn, pt) (pn, pt) = 0 ∧ mMake (pn, pt) (nw, (pn, pt), []) (pn, pt) = pl) := Hid.of ⟨ER0.out, hpl⟩
      obtain ⟨LN, hLN⟩ : ∃ n, pl.1.2.length = n := ⟨_, rfl⟩
      obtain ⟨LM, hLM⟩ : ∃ n, pl.2.length = n := ⟨_, rfl⟩
      have LL : Hid (pl.1.2.length = LN ∧ pl.2.length = LM) := Hid.of ⟨hLN, hLM⟩
      clear d0 d1 d2 d3 drr k0 k1 kz HT HZG K H hpl hLN hLM
      go_upto_region 13 with fail
      go_cut [10, 11] from 73 to 82 (fun pv ev wx => ∃ (y : Nat) (an : ByteArray) (asa afa : Option Addr) (asc afc : Nat), pv = .pointer (some ⟨y, 0, none⟩) ∧ ev = .int .i64 0 ∧ Hid (Dc wx [(⟨z, 0, none⟩, .string pn), (⟨z, 1, none⟩, .slice psa PN psc), (⟨y, 0, none⟩, .string an), (⟨y, 1, none⟩, .slice asa LN asc), (⟨y, 2, none⟩, .slice afa LM afc)]) ∧ Hid (PlanRow wx (.agg #[.string an, .slice asa LN asc, .slice afa LM afc]) pl) ∧ Hid (IHere S w.heap.size w wx p (nw, (pn, pt), []) (iViews (nw, (pn, pt), []) all) G))
      case first =>
        have bD := (Below.refl wr.heap.size wr).drew
        have BD := Hid.of (B0.out.trans (bD.mono B0.out.size))
        have CSD := Hid.of (CS0.out.next bD)
        have TD := Hid.of (T0.out.kept bD)
        have RD := Hid.of (R0.out.kept bD)
        have HD := Hid.of (H0.out.next bD)
        clear bD
        have d0 := (CS0.out).head
        have d1 := ((CS0.out).tail).head
        have d2 := (((CS0.out).tail).tail).head
        have d3 := ((((CS0.out).tail).tail).tail).head
        have d4 := (((((CS0.out).tail).tail).tail).tail).head
        have d5 := ((((((CS0.out).tail).tail).tail).tail).tail).head
        refine wp_region_noPanic ?_
        refine wp_region_held_drew (S := fun w' => w'.cell? ⟨z, 0, none⟩ = some (.string pn) ∧ w'.cell? ⟨z, 1, none⟩ = some (.slice psa PN psc) ∧ w'.cell? ⟨p, 0, none⟩ = some (.int .i64 nw) ∧ w'.cell? ⟨p, 1, none⟩ = some (.string pn) ∧ w'.cell? ⟨p, 2, none⟩ = some (sq) ∧ w'.cell? ⟨p, 3, none⟩ = some (fq)) (by kernel_rfl) ?_ (fun hHeld => ?_)
        · exact ⟨d0, d1, d2, d3, d4, d5⟩
        clear B0 CS0 T0 R0 H0
        refine takeOp 0 (o := ⟨_, _, _, _, _, _⟩) (v := ?_) rfl (by kernel_rfl) (by rfl) hHeld ?_ ?_; rotate_left; (next => intro w' hSw; (try dsimp only at hSw); go_simp; all_goals with_reducible rfl); simp only [Act.put, pA9, pB9, pC9]
        refine takeOp 1 (o := ⟨_, _, _, _, _, _⟩) (v := ?_) rfl (by kernel_rfl) (by rfl) hHeld ?_ ?_; rotate_left; (next => intro w' hSw; (try dsimp only at hSw); go_simp; all_goals with_reducible rfl); simp only [Act.put, pA9, pB9, pC9]
        refine takeOp 2 (o := ⟨_, _, _, _, _, _⟩) (v := ?_) rfl (by kernel_rfl) (by rfl) hHeld ?_ ?_; rotate_left; (next => intro w' hSw; (try dsimp only at hSw); go_simp; all_goals with_reducible rfl); simp only [Act.put, pA9, pB9, pC9]
        refine takeOp 3 (o := ⟨_, _, _, _, _, _⟩) (v := ?_) rfl (by kernel_rfl) (by rfl) hHeld ?_ ?_; rotate_left; (next => intro w' hSw; (try dsimp only at hSw); go_simp; all_goals with_reducible rfl); simp only [Act.put, pA9, pB9, pC9]
        refine takeOp 4 (o := ⟨_, _, _, _, _, _⟩) (v := ?_) rfl (by kernel_rfl) (by rfl) hHeld ?_ ?_; rotate_left; (next => intro w' hSw; (try dsimp only at hSw); go_simp; all_goals with_reducible rfl); simp only [Act.put, pA9, pB9, pC9]
        refine takeOp 5 (o := ⟨_, _, _, _, _, _⟩) (v := ?_) rfl (by kernel_rfl) (by rfl) hHeld ?_ ?_; rotate_left; (next => intro w' hSw; (try dsimp only at hSw); go_simp; all_goals with_reducible rfl); simp only [Act.put, pA9, pB9, pC9]
        refine wpAnyH_ready (rs := [6, 10]) (by kernel_rfl) (by simp) ?_
        refine AllReadyH.cons (o := ⟨_, _, _, _, _, _⟩) rfl (fun K hK => ?_) (AllReadyH.cons (o := ⟨_, _, _, _, _, _⟩) rfl (fun K hK => ?_) AllReadyH.nil)
        · go_simp
          refine (make_any _ _ _ (pn, pt) (pn, pt) (nw, (pn, pt), []) _ FP0.out FP0.out FIT.out TD.out RD.out TD.out).mono ?_
          rintro e w91 ⟨u6, rfl, ou, b91⟩
          rw [MK.out.1]
          rw [MK.out.2] at ou
          have L91 := Hid.of ou.row
          clear ou
          obtain ⟨ps, pf, hu, hps, hpf, -⟩ := L91.out
          subst hu
          obtain ⟨asa, asc, rfl, -⟩ := hps
          obtain ⟨afa, afc, rfl, -⟩ := hpf
          unfold plVal at L91 ⊢
          obtain ⟨an, hpn⟩ : ∃ pn, pl.1.1 = pn := ⟨_, rfl⟩
          rw [hpn, LL.out.1, LL.out.2] at L91 ⊢
          clear hpn
          have B91 := Hid.of (BD.out.trans (b91.mono BD.out.size))
          have CS91 := Hid.of (CSD.out.next b91)
          have H91 := Hid.of (HD.out.next b91)
          clear b91 BD CSD HD
          clear RD TD
          clear hHeld d0 d1 d2 d3 d4 d5
          have d0 := (CS91.out).head
          have d1 := ((CS91.out).tail).head
          have d2 := (((CS91.out).tail).tail).head
          have d3 := ((((CS91.out).tail).tail).tail).head
          have d4 := (((((CS91.out).tail).tail).tail).tail).head
          have d5 := ((((((CS91.out).tail).tail).tail).tail).tail).head
          refine hK.out _ _ ⟨d0, d1, d2, d3, d4, d5⟩ (fun hHeld => ?_)
          clear hK K
          try simp only [Act.put, pA9, pB9, pC9]
          refine takeOp 7 (o := ⟨_, _, _, _, _, _⟩) (v := ?_) rfl (by kernel_rfl) (by rfl) hHeld ?_ ?_; rotate_left; (next => intro w' hSw; (try dsimp only at hSw); go_simp; all_goals with_reducible rfl); simp only [Act.put, pA9, pB9, pC9]
          refine takeOp 8 (o := ⟨_, _, _, _, _, _⟩) (v := ?_) rfl (by kernel_rfl) (by rfl) hHeld ?_ ?_; rotate_left; (next => intro w' hSw; (try dsimp only at hSw); go_simp; all_goals with_reducible rfl); simp only [Act.put, pA9, pB9, pC9]
          refine takeOp 9 (o := ⟨_, _, _, _, _, _⟩) (v := ?_) rfl (by kernel_rfl) (by rfl) hHeld ?_ ?_; rotate_left; (next => intro w' hSw; (try dsimp only at hSw); go_simp; all_goals with_reducible rfl); simp only [Act.put, pA9, pB9, pC9]
          refine wpAnyH_ready (rs := [10]) (by kernel_rfl) (by simp) ?_
          refine AllReadyH.cons (o := ⟨_, _, _, _, _, _⟩) rfl (fun K hK => ?_) AllReadyH.nil
          go_simp
          obtain ⟨y, hy⟩ : ∃ y, (w91).heap.size = y := ⟨_, rfl⟩
          obtain ⟨w92, hw92⟩ : ∃ w92, (w91).alloc (.cells #[.string ⟨#[]⟩, .slice none 0 0, .slice none 0 0] 49) = w92 := ⟨_, rfl⟩
          have hx92 : (w91).alloc (.cells #[.string ⟨#[]⟩, .slice none 0 0, .slice none 0 0] 49) = w92 := hw92
          have b92 : Below (w91).heap.size (w91) w92 := by rw [← hx92]; exact (Below.refl _ _).alloc (Nat.le_refl _) _
          have K92 : Hid (w92.heap[y]? = some (.cells #[.string ⟨#[]⟩, .slice none 0 0, .slice none 0 0] 49 (0, 0))) := Hid.of (by rw [← hx92, ← hy]; exact (MapKept.heap_alloc (w91) _).1)
          have HLY : Hid (w.heap.size ≤ y) := Hid.of (by rw [← hy]; exact B91.out.size)
          have HLZ : Hid (∀ x ∈ ([(⟨z, 0, none⟩, .string pn), (⟨z, 1, none⟩, .slice psa PN psc), (⟨p, 0, none⟩, .int .i64 nw), (⟨p, 1, none⟩, .string pn), (⟨p, 2, none⟩, sq), (⟨p, 3, none⟩, fq)] : List (Addr × Value)), x.1.block < y) := Hid.of (fun x hx => by rw [← hy]; exact (CS91.out x hx).1)
          have HFY : Hid (∀ k, G.all k → k < y) := Hid.of (fun k hk => by rw [← hy]; exact S.lt H91.out.rep k hk)
          rw [hw92, hy]
          clear hw92 hx92 hy
          have B92 := Hid.of (B91.out.trans (b92.mono B91.out.size))
          have CS92 := Hid.of (CS91.out.next b92)
          have H92 := Hid.of (H91.out.next b92)
          have L92 := Hid.of (L91.out.kept b92)
          clear b92 B91 CS91 H91 L91
          clear hHeld d0 d1 d2 d3 d4 d5
          have d0 := (CS92.out).head
          have d1 := ((CS92.out).tail).head
          have d2 := (((CS92.out).tail).tail).head
          have d3 := ((((CS92.out).tail).tail).tail).head
          have d4 := (((((CS92.out).tail).tail).tail).tail).head
          have d5 := ((((((CS92.out).tail).tail).tail).tail).tail).head
          refine hK.out _ _ ⟨d0, d1, d2, d3, d4, d5⟩ (fun hHeld => ?_)
          clear hK K
          try simp only [Act.put, pA9, pB9, pC9]
          refine wpAnyH_ready (rs := [11]) (by kernel_rfl) (by simp) ?_
          refine AllReadyH.cons (o := ⟨_, _, _, _, _, _⟩) rfl (fun K hK => ?_) AllReadyH.nil
          have k0 := K92.out
          have f0 := row_frozen (i := 0) k0
          have f1 := row_frozen (i := 1) k0
          have f2 := row_frozen (i := 2) k0
          obtain ⟨t0, t1, t2⟩ := lblk_at k0
          go_simp
          clear f0 f1 f2 t0 t1 t2
          have KZ := Hid.of (lblk_set (n' := an) (s' := .slice asa LN asc) (f' := .slice afa LM afc) k0)
          have gz := setL_grown w92 y an (.slice asa LN asc) (.slice afa LM afc)
          have CSZ := Hid.of (CS92.out.grown gz (fun x hx c => by have h1 := Option.some.inj c; have h2 := HLZ.out x hx; omega))
          have LZ : Hid (PlanRow (setL w92 y an (.slice asa LN asc) (.slice afa LM afc)) (.agg #[.string an, .slice asa LN asc, .slice afa LM afc]) pl) := Hid.of (plan_off k0 gz L92.out)
          have HZ9 : Hid (IHere S w.heap.size w (setL w92 y an (.slice asa LN asc) (.slice afa LM afc)) p (nw, (pn, pt), []) (iViews (nw, (pn, pt), []) all) G) := Hid.of (H92.out.new_off gz HLY.out HFY.out)
          clear gz k0
          unfold setL at KZ CSZ LZ HZ9
          clear hHeld d0 d1 d2 d3 d4 d5
          have d0 := (CSZ.out).head
          have d1 := ((CSZ.out).tail).head
          have d2 := (((CSZ.out).tail).tail).head
          have d3 := ((((CSZ.out).tail).tail).tail).head
          have d4 := (((((CSZ.out).tail).tail).tail).tail).head
          have d5 := ((((((CSZ.out).tail).tail).tail).tail).tail).head
          refine hK.out _ _ ⟨d0, d1, d2, d3, d4, d5⟩ (fun hHeld => ?_)
          clear hK K
          try simp only [Act.put, pA9, pB9, pC9]
          refine takeOp 12 (o := ⟨_, _, _, _, _, _⟩) (v := ?_) rfl (by kernel_rfl) (by rfl) hHeld ?_ ?_; rotate_left; (next => intro w' hSw; (try dsimp only at hSw); go_simp; all_goals with_reducible rfl); simp only [Act.put, pA9, pB9, pC9]
          refine wpAnyH_done (by kernel_rfl) ?_ _
          refine NoPanic.normal ?_
          clear hHeld d0 d1 d2 d3 d4 d5
          go_wp2_with fail
          go_meet
          exact ⟨y, an, asa, afa, asc, afc, rfl, rfl, Hid.of (Dc.app (Dc.left (k := [(⟨z, 0, none⟩, .string pn), (⟨z, 1, none⟩, .slice psa PN psc)]) (l := [(⟨p, 0, none⟩, .int .i64 nw), (⟨p, 1, none⟩, .string pn), (⟨p, 2, none⟩, sq), (⟨p, 3, none⟩, fq)]) CSZ.out) (Dc.app (Dc.one KZ.out (i := 0) rfl) (Dc.app (Dc.one KZ.out (i := 1) rfl) (Dc.one KZ.out (i := 2) rfl)))), LZ, HZ9⟩
        · go_simp
          obtain ⟨y, hy⟩ : ∃ y, (wr).heap.size = y := ⟨_, rfl⟩
          obtain ⟨w93, hw93⟩ : ∃ w93, (wr.alloc (.cells #[.string ⟨#[]⟩, .slice none 0 0, .slice none 0 0] 49)).drew = w93 := ⟨_, rfl⟩
          have hx93 : (wr.drew).alloc (.cells #[.string ⟨#[]⟩, .slice none 0 0, .slice none 0 0] 49) = w93 := hw93
          have b93 : Below (wr.drew).heap.size (wr.drew) w93 := by rw [← hx93]; exact (Below.refl _ _).alloc (Nat.le_refl _) _
          have K93 : Hid (w93.heap[y]? = some (.cells #[.string ⟨#[]⟩, .slice none 0 0, .slice none 0 0] 49 (0, 0))) := Hid.of (by rw [← hx93, ← hy]; exact (MapKept.heap_alloc (wr.drew) _).1)
          have HLY : Hid (w.heap.size ≤ y) := Hid.of (by rw [← hy]; exact BD.out.size)
          have HLZ : Hid (∀ x ∈ ([(⟨z, 0, none⟩, .string pn), (⟨z, 1, none⟩, .slice psa PN psc), (⟨p, 0, none⟩, .int .i64 nw), (⟨p, 1, none⟩, .string pn), (⟨p, 2, none⟩, sq), (⟨p, 3, none⟩, fq)] : List (Addr × Value)), x.1.block < y) := Hid.of (fun x hx => by rw [← hy]; exact (CSD.out x hx).1)
          have HFY : Hid (∀ k, G.all k → k < y) := Hid.of (fun k hk => by rw [← hy]; exact S.lt HD.out.rep k hk)
          rw [hw93, hy]
          clear hw93 hx93 hy
          have B93 := Hid.of (BD.out.trans (b93.mono BD.out.size))
          have CS93 := Hid.of (CSD.out.next b93)
          have T93 := Hid.of (TD.out.kept b93)
          have R93 := Hid.of (RD.out.kept b93)
          have H93 := Hid.of (HD.out.next b93)
          clear b93 BD CSD TD RD HD
          clear hHeld d0 d1 d2 d3 d4 d5
          have d0 := (CS93.out).head
          have d1 := ((CS93.out).tail).head
          have d2 := (((CS93.out).tail).tail).head
          have d3 := ((((CS93.out).tail).tail).tail).head
          have d4 := (((((CS93.out).tail).tail).tail).tail).head
          have d5 := ((((((CS93.out).tail).tail).tail).tail).tail).head
          refine hK.out _ _ ⟨d0, d1, d2, d3, d4, d5⟩ (fun hHeld => ?_)
          clear hK K
          try simp only [Act.put, pA9, pB9, pC9]
          refine wpAnyH_ready (rs := [6]) (by kernel_rfl) (by simp) ?_
          refine AllReadyH.cons (o := ⟨_, _, _, _, _, _⟩) rfl (fun K hK => ?_) AllReadyH.nil
          go_simp
          refine (make_any _ _ _ (pn, pt) (pn, pt) (nw, (pn, pt), []) _ FP0.out FP0.out FIT.out T93.out R93.out T93.out).mono ?_
          rintro e w94 ⟨u6, rfl, ou, b94⟩
          rw [MK.out.1]
          rw [MK.out.2] at ou
          have L94 := Hid.of ou.row
          clear ou
          obtain ⟨ps, pf, hu, hps, hpf, -⟩ := L94.out
          subst hu
          obtain ⟨asa, asc, rfl, -⟩ := hps
          obtain ⟨afa, afc, rfl, -⟩ := hpf
          unfold plVal at L94 ⊢
          obtain ⟨an, hpn⟩ : ∃ pn, pl.1.1 = pn := ⟨_, rfl⟩
          rw [hpn, LL.out.1, LL.out.2] at L94 ⊢
          clear hpn
          have B94 := Hid.of (B93.out.trans (b94.mono B93.out.size))
          have CS94 := Hid.of (CS93.out.next b94)
          have H94 := Hid.of (H93.out.next b94)
          have K94 := Hid.of (lblk_next K93.out b94)
          clear b94 B93 CS93 H93 K93
          clear R93 T93
          clear hHeld d0 d1 d2 d3 d4 d5
          have d0 := (CS94.out).head
          have d1 := ((CS94.out).tail).head
          have d2 := (((CS94.out).tail).tail).head
          have d3 := ((((CS94.out).tail).tail).tail).head
          have d4 := (((((CS94.out).tail).tail).tail).tail).head
          have d5 := ((((((CS94.out).tail).tail).tail).tail).tail).head
          refine hK.out _ _ ⟨d0, d1, d2, d3, d4, d5⟩ (fun hHeld => ?_)
          clear hK K
          try simp only [Act.put, pA9, pB9, pC9]
          refine takeOp 7 (o := ⟨_, _, _, _, _, _⟩) (v := ?_) rfl (by kernel_rfl) (by rfl) hHeld ?_ ?_; rotate_left; (next => intro w' hSw; (try dsimp only at hSw); go_simp; all_goals with_reducible rfl); simp only [Act.put, pA9, pB9, pC9]
          refine takeOp 8 (o := ⟨_, _, _, _, _, _⟩) (v := ?_) rfl (by kernel_rfl) (by rfl) hHeld ?_ ?_; rotate_left; (next => intro w' hSw; (try dsimp only at hSw); go_simp; all_goals with_reducible rfl); simp only [Act.put, pA9, pB9, pC9]
          refine takeOp 9 (o := ⟨_, _, _, _, _, _⟩) (v := ?_) rfl (by kernel_rfl) (by rfl) hHeld ?_ ?_; rotate_left; (next => intro w' hSw; (try dsimp only at hSw); go_simp; all_goals with_reducible rfl); simp only [Act.put, pA9, pB9, pC9]
          refine wpAnyH_ready (rs := [11]) (by kernel_rfl) (by simp) ?_
          refine AllReadyH.cons (o := ⟨_, _, _, _, _, _⟩) rfl (fun K hK => ?_) AllReadyH.nil
          have k0 := K94.out
          have f0 := row_frozen (i := 0) k0
          have f1 := row_frozen (i := 1) k0
          have f2 := row_frozen (i := 2) k0
          obtain ⟨t0, t1, t2⟩ := lblk_at k0
          go_simp
          clear f0 f1 f2 t0 t1 t2
          have KZ := Hid.of (lblk_set (n' := an) (s' := .slice asa LN asc) (f' := .slice afa LM afc) k0)
          have gz := setL_grown w94 y an (.slice asa LN asc) (.slice afa LM afc)
          have CSZ := Hid.of (CS94.out.grown gz (fun x hx c => by have h1 := Option.some.inj c; have h2 := HLZ.out x hx; omega))
          have LZ : Hid (PlanRow (setL w94 y an (.slice asa LN asc) (.slice afa LM afc)) (.agg #[.string an, .slice asa LN asc, .slice afa LM afc]) pl) := Hid.of (plan_off k0 gz L94.out)
          have HZ9 : Hid (IHere S w.heap.size w (setL w94 y an (.slice asa LN asc) (.slice afa LM afc)) p (nw, (pn, pt), []) (iViews (nw, (pn, pt), []) all) G) := Hid.of (H94.out.new_off gz HLY.out HFY.out)
          clear gz k0
          unfold setL at KZ CSZ LZ HZ9
          clear hHeld d0 d1 d2 d3 d4 d5
          have d0 := (CSZ.out).head
          have d1 := ((CSZ.out).tail).head
          have d2 := (((CSZ.out).tail).tail).head
          have d3 := ((((CSZ.out).tail).tail).tail).head
          have d4 := (((((CSZ.out).tail).tail).tail).tail).head
          have d5 := ((((((CSZ.out).tail).tail).tail).tail).tail).head
          refine hK.out _ _ ⟨d0, d1, d2, d3, d4, d5⟩ (fun hHeld => ?_)
          clear hK K
          try simp only [Act.put, pA9, pB9, pC9]
          refine takeOp 12 (o := ⟨_, _, _, _, _, _⟩) (v := ?_) rfl (by kernel_rfl) (by rfl) hHeld ?_ ?_; rotate_left; (next => intro w' hSw; (try dsimp only at hSw); go_simp; all_goals with_reducible rfl); simp only [Act.put, pA9, pB9, pC9]
          refine wpAnyH_done (by kernel_rfl) ?_ _
          refine NoPanic.normal ?_
          clear hHeld d0 d1 d2 d3 d4 d5
          go_wp2_with fail
          go_meet
          exact ⟨y, an, asa, afa, asc, afc, rfl, rfl, Hid.of (Dc.app (Dc.left (k := [(⟨z, 0, none⟩, .string pn), (⟨z, 1, none⟩, .slice psa PN psc)]) (l := [(⟨p, 0, none⟩, .int .i64 nw), (⟨p, 1, none⟩, .string pn), (⟨p, 2, none⟩, sq), (⟨p, 3, none⟩, fq)]) CSZ.out) (Dc.app (Dc.one KZ.out (i := 0) rfl) (Dc.app (Dc.one KZ.out (i := 1) rfl) (Dc.one KZ.out (i := 2) rfl)))), LZ, HZ9⟩
      case rest =>
        obtain ⟨y, an, asa, afa, asc, afc, rfl, rfl, CS, L, H⟩ := hcut
        clear B0 CS0 T0 R0 H0
        have PLQ : Hid (pl.1 = (pn, pt)) := Hid.of (by rw [← MK.out.2]; exact PO.out.to_)
        have FM : Hid (MFit pl) := Hid.of (by
          rw [← MK.out.2, mMake_ok MK.out.1]
          refine ⟨FP0.out, by rw [List.length_map]; exact FP0.out.1, fun x hx => ?_⟩
          obtain ⟨u, hu, rfl⟩ := List.mem_map.1 hx
          exact fur_in _ _ _ FP0.out.1)
        have hb := build_any S (.agg #[.string an, .slice asa LN asc, .slice afa LM afc]) pl (S.okKept OK.out H.out.fr) L.out FM.out (by rw [PLQ.out]; exact PS.out.2.1) (by rw [PLQ.out]; exact PS.out.1) (by rw [PLQ.out]; exact PS.out.2.2) H.out.rep HLE.out (fun l hl => by
          obtain ⟨i, hi⟩ := List.getElem?_of_mem hl
          exact GD.out.fit i l hi)
        obtain ⟨c0, c1⟩ : wc.cell? ⟨y, 0, none⟩ = some (.string an) ∧ wc.cell? ⟨y, 1, none⟩ = some (.slice asa LN asc) := ⟨CS.out.tail.tail.head, CS.out.tail.tail.tail.head⟩
        have c2 : wc.cell? ⟨y, 2, none⟩ = some (.slice afa LM afc) := CS.out.tail.tail.tail.tail.head
        go_wp2_with fail
        refine hb.mono ?_
        rintro e w5 ⟨hs1, -, b5⟩
        obtain ⟨q, F5, rfl, rep5, fa5⟩ := (hs1 (by have := PO.out.fits; rw [MK.out.2] at this; exact this)).1 (by have := PO.out.new; rw [MK.out.2] at this; exact this)
        obtain ⟨rto, hrto⟩ : ∃ rto, mTo pl (nw, (pn, pt), []) = rto := ⟨_, rfl⟩
        have RTO := Hid.of hrto
        have hbl : mBuilt pl (nw, (pn, pt), []) (iViews (nw, (pn, pt), []) all) = iViews rto all := by have := PO.out.built; rwa [MK.out.2, hrto] at this
        have HLB : Hid (∀ x ∈ iViews rto all, x.length ≤ 1000) := Hid.of (by rw [← hbl]; exact mBuilt_le HLE.out)
        rw [hrto, hbl] at rep5
        have HB5 : Hid (IHere S w.heap.size w w5 q rto (iViews rto all) F5) := Hid.of ⟨rep5, fun k hk => Nat.le_trans H.out.fr.size (fa5 k (S.sub rep5 k hk)), Nat.le_trans H.out.fr.size b5.size, H.out.fr.trans (b5.mono H.out.fr.size)⟩
        have H5 := Hid.of (H.out.next b5)
        have CS5 := Hid.of (CS.out.next b5)
        have R1 : Hid (rto.1 = nw) := Hid.of (by rw [← hrto]; rfl)
        have RPN : Hid (rto.2.1 = (pn, pt)) := Hid.of (by rw [← hrto]; exact PLQ.out)
        have FTO := Hid.of (S.fit rep5)
        clear hb hs1 rep5 fa5 b5 hrto hbl c0 c1 c2 CS H L
        obtain ⟨sq, fq, d0, d1, d2, d3, drr⟩ := S.cells H5.out.rep
        obtain ⟨sb, fb, e0, e1, e2, e3, err⟩ := S.cells HB5.out.rep
        unfold rVal at err
        rw [R1.out, RPN.out] at err
        rw [R1.out] at e0
        rw [RPN.out] at e1
        have CS6 : Hid (Dc w5 [(⟨z, 1, none⟩, .slice psa PN psc), (⟨p, 0, none⟩, .int .i64 nw), (⟨p, 1, none⟩, .string pn), (⟨p, 2, none⟩, sq), (⟨p, 3, none⟩, fq), (⟨q, 0, none⟩, .int .i64 nw), (⟨q, 1, none⟩, .string pn), (⟨q, 2, none⟩, sb), (⟨q, 3, none⟩, fb)]) := Hid.of (.cons CS5.out.tail.lt CS5.out.tail.head (.cons (cell_lt d0) d0 (.cons (cell_lt d1) d1 (.cons (cell_lt d2) d2 (.cons (cell_lt d3) d3 (.cons (cell_lt e0) e0 (.cons (cell_lt e1) e1 (.cons (cell_lt e2) e2 (.cons (cell_lt e3) e3 (Dc.nil _))))))))))
        have RT : Hid (RchRow w5 (.agg #[.int .i64 nw, .string pn, sq, fq]) (nw, (pn, pt), [])) := Hid.of drr
        have RB : Hid (RchRow w5 (.agg #[.int .i64 nw, .string pn, sb, fb]) rto) := Hid.of err
        clear d0 d1 d2 d3 drr e0 e1 e2 e3 err CS5
        have n9 : PN ≤ 10 := by have := PS.out.1; rw [← HPN.out]; exact this
        go_upto_region 17 with fail
        have bd := (Below.refl w5.heap.size w5).drew
        have CS7 := Hid.of (CS6.out.next bd)
        have BB7 := Hid.of bd
        clear bd
        have d0 := (CS6.out).head
        have d1 := ((CS6.out).tail).head
        have d2 := (((CS6.out).tail).tail).head
        have d3 := ((((CS6.out).tail).tail).tail).head
        have d4 := (((((CS6.out).tail).tail).tail).tail).head
        have d5 := ((((((CS6.out).tail).tail).tail).tail).tail).head
        have d6 := (((((((CS6.out).tail).tail).tail).tail).tail).tail).head
        have d7 := ((((((((CS6.out).tail).tail).tail).tail).tail).tail).tail).head
        have d8 := (((((((((CS6.out).tail).tail).tail).tail).tail).tail).tail).tail).head
        refine wp_region_noPanic ?_
        refine wp_region_held_drew (S := fun w' => w'.cell? ⟨z, 1, none⟩ = some (.slice psa PN psc) ∧ w'.cell? ⟨p, 0, none⟩ = some (.int .i64 nw) ∧ w'.cell? ⟨p, 1, none⟩ = some (.string pn) ∧ w'.cell? ⟨p, 2, none⟩ = some (sq) ∧ w'.cell? ⟨p, 3, none⟩ = some (fq) ∧ w'.cell? ⟨q, 0, none⟩ = some (.int .i64 nw) ∧ w'.cell? ⟨q, 1, none⟩ = some (.string pn) ∧ w'.cell? ⟨q, 2, none⟩ = some (sb) ∧ w'.cell? ⟨q, 3, none⟩ = some (fb)) (by kernel_rfl) ?_ (fun hHeld => ?_)
        · exact ⟨d0, d1, d2, d3, d4, d5, d6, d7, d8⟩
        refine takeOp 0 (o := ⟨_, _, _, _, _, _⟩) (v := ?_) rfl (by kernel_rfl) (by rfl) hHeld ?_ ?_; rotate_left; (next => intro w' hSw; (try dsimp only at hSw); go_simp; all_goals with_reducible rfl); simp only [Act.put, pA9, pB9, pC9]
        refine takeOp 1 (o := ⟨_, _, _, _, _, _⟩) (v := ?_) rfl (by kernel_rfl) (by rfl) hHeld ?_ ?_; rotate_left; (next => intro w' hSw; (try dsimp only at hSw); go_simp; all_goals with_reducible rfl); simp only [Act.put, pA9, pB9, pC9]
        refine takeOp 2 (o := ⟨_, _, _, _, _, _⟩) (v := ?_) rfl (by kernel_rfl) (by rfl) hHeld ?_ ?_; rotate_left; (next => intro w' hSw; (try dsimp only at hSw); go_simp; all_goals with_reducible rfl); simp only [Act.put, pA9, pB9, pC9]
        refine takeOp 3 (o := ⟨_, _, _, _, _, _⟩) (v := ?_) rfl (by kernel_rfl) (by rfl) hHeld ?_ ?_; rotate_left; (next => intro w' hSw; (try dsimp only at hSw); go_simp; all_goals with_reducible rfl); simp only [Act.put, pA9, pB9, pC9]
        refine takeOp 4 (o := ⟨_, _, _, _, _, _⟩) (v := ?_) rfl (by kernel_rfl) (by rfl) hHeld ?_ ?_; rotate_left; (next => intro w' hSw; (try dsimp only at hSw); go_simp; all_goals with_reducible rfl); simp only [Act.put, pA9, pB9, pC9]
        refine takeOp 5 (o := ⟨_, _, _, _, _, _⟩) (v := ?_) rfl (by kernel_rfl) (by rfl) hHeld ?_ ?_; rotate_left; (next => intro w' hSw; (try dsimp only at hSw); go_simp; all_goals with_reducible rfl); simp only [Act.put, pA9, pB9, pC9]
        refine takeOp 6 (o := ⟨_, _, _, _, _, _⟩) (v := ?_) rfl (by kernel_rfl) (by rfl) hHeld ?_ ?_; rotate_left; (next => intro w' hSw; (try dsimp only at hSw); go_simp; all_goals with_reducible rfl); simp only [Act.put, pA9, pB9, pC9]
        refine takeOp 7 (o := ⟨_, _, _, _, _, _⟩) (v := ?_) rfl (by kernel_rfl) (by rfl) hHeld ?_ ?_; rotate_left; (next => intro w' hSw; (try dsimp only at hSw); go_simp; all_goals with_reducible rfl); simp only [Act.put, pA9, pB9, pC9]
        refine takeOp 8 (o := ⟨_, _, _, _, _, _⟩) (v := ?_) rfl (by kernel_rfl) (by rfl) hHeld ?_ ?_; rotate_left; (next => intro w' hSw; (try dsimp only at hSw); go_simp; all_goals with_reducible rfl); simp only [Act.put, pA9, pB9, pC9]
        refine takeOp 9 (o := ⟨_, _, _, _, _, _⟩) (v := ?_) rfl (by kernel_rfl) (by rfl) hHeld ?_ ?_; rotate_left; (next => intro w' hSw; (try dsimp only at hSw); go_simp; all_goals with_reducible rfl); simp only [Act.put, pA9, pB9, pC9]
        refine takeOp 10 (o := ⟨_, _, _, _, _, _⟩) (v := ?_) rfl (by kernel_rfl) (by rfl) hHeld ?_ ?_; rotate_left; (next => intro w' hSw; (try dsimp only at hSw); go_simp; all_goals with_reducible rfl); simp only [Act.put, pA9, pB9, pC9]
        refine takeOp 11 (o := ⟨_, _, _, _, _, _⟩) (v := ?_) rfl (by kernel_rfl) (by rfl) hHeld ?_ ?_; rotate_left; (next => intro w' hSw; (try dsimp only at hSw); go_simp; all_goals with_reducible rfl); simp only [Act.put, pA9, pB9, pC9]
        refine takeOp 12 (o := ⟨_, _, _, _, _, _⟩) (v := ?_) rfl (by kernel_rfl) (by rfl) hHeld ?_ ?_; rotate_left; (next => intro w' hSw; (try dsimp only at hSw); go_simp; all_goals with_reducible rfl); simp only [Act.put, pA9, pB9, pC9]
        refine takeOp 13 (o := ⟨_, _, _, _, _, _⟩) (v := ?_) rfl (by kernel_rfl) (by rfl) hHeld ?_ ?_; rotate_left; (next => intro w' hSw; (try dsimp only at hSw); go_simp; all_goals with_reducible rfl); simp only [Act.put, pA9, pB9, pC9]
        refine takeOp 14 (o := ⟨_, _, _, _, _, _⟩) (v := ?_) rfl (by kernel_rfl) (by rfl) hHeld ?_ ?_; rotate_left; (next => intro w' hSw; (try dsimp only at hSw); go_simp; all_goals with_reducible rfl); simp only [Act.put, pA9, pB9, pC9]
        refine takeOp 15 (o := ⟨_, _, _, _, _, _⟩) (v := ?_) rfl (by kernel_rfl) (by rfl) hHeld ?_ ?_; rotate_left; (next => intro w' hSw; (try dsimp only at hSw); go_simp; all_goals with_reducible rfl); simp only [Act.put, pA9, pB9, pC9]
        refine takeOp 16 (o := ⟨_, _, _, _, _, _⟩) (v := ?_) rfl (by kernel_rfl) (by rfl) hHeld ?_ ?_; rotate_left; (next => intro w' hSw; (try dsimp only at hSw); go_simp; all_goals with_reducible rfl); simp only [Act.put, pA9, pB9, pC9]
        refine takeOp 17 (o := ⟨_, _, _, _, _, _⟩) (v := ?_) rfl (by kernel_rfl) (by rfl) hHeld ?_ ?_; rotate_left; (next => intro w' hSw; (try dsimp only at hSw); go_simp; all_goals with_reducible rfl); simp only [Act.put, pA9, pB9, pC9]
        refine takeOp 18 (o := ⟨_, _, _, _, _, _⟩) (v := ?_) rfl (by kernel_rfl) (by rfl) hHeld ?_ ?_; rotate_left; (next => intro w' hSw; (try dsimp only at hSw); go_simp; all_goals with_reducible rfl); simp only [Act.put, pA9, pB9, pC9]
        refine wpAnyH_done (by kernel_rfl) ?_ _
        refine NoPanic.normal ?_
        clear hHeld d0 d1 d2 d3 d4 d5 d6 d7 d8
        go_upto_region 20 with fail
        go_loopg [14] PN (fun kx jv wr => ∃ (j : Nat), jv = .int .i64 j ∧ j ≤ PN ∧ PN - j ≤ kx ∧ Hid (Dc wr [(⟨z, 1, none⟩, .slice psa PN psc), (⟨p, 0, none⟩, .int .i64 nw), (⟨p, 1, none⟩, .string pn), (⟨p, 2, none⟩, sq), (⟨p, 3, none⟩, fq), (⟨q, 0, none⟩, .int .i64 nw), (⟨q, 1, none⟩, .string pn), (⟨q, 2, none⟩, sb), (⟨q, 3, none⟩, fb)]) ∧ Hid (Below w5.heap.size w5 wr))
        case atStart => exact ⟨0, rfl, Nat.zero_le _, Nat.le_refl _, CS7, BB7⟩
        case round =>
          clear CS6 CS7 BB7
          obtain ⟨j, rfl, hj, hk, CS, BB⟩ := hrel
          have j0 : (0 : Int) ≤ (j : Int) := Int.natCast_nonneg _
          have c1 := CS.out.head
          by_cases hlt : (j : Int) < (PN : Int)
          · obtain ⟨t, ht⟩ : ∃ t, pt[j]? = some t := ⟨_, List.getElem?_eq_getElem (by have := HPN.out; omega)⟩
            have hsm := PO.out.same ht
            rw [MK.out.2, RTO.out] at hsm
            have HJ : Hid (j < PN) := Hid.of (by omega)
            have hpt : j < pt.length := by have := HPN.out; omega
            obtain ⟨Y, hY⟩ : ∃ Y, iView (nw, (pn, pt), []) j all = Y := ⟨_, rfl⟩
            obtain ⟨fx, hfx⟩ : ∃ fx, rFromN rto j = fx := ⟨_, rfl⟩
            obtain ⟨ft, hft⟩ : ∃ ft, rFromN (nw, (pn, pt), []) j = ft := ⟨_, rfl⟩
            rw [hY, hfx, hft] at hsm
            have HFX : Hid (rFrom rto (j : Int) = fx) := Hid.of (by rw [rFrom_nat2]; exact hfx)
            have HFT : Hid (rFrom (nw, (pn, pt), []) (j : Int) = ft) := Hid.of (by rw [rFrom_nat2]; exact hft)
            have HXE : Hid (iTab (iViews rto all) (j : Int) = tKeep Y fx) := Hid.of (by
              rw [iTab_views, if_pos ⟨j0, by rw [RPN.out, show ((j : Int).toNat) = j by omega]; exact hpt⟩, show ((j : Int).toNat) = j by omega]
              exact hsm.2)
            have HYE : Hid (iTab (iViews (nw, (pn, pt), []) all) (j : Int) = Y) := Hid.of (by
              rw [iTab_views, if_pos ⟨j0, by rw [show ((j : Int).toNat) = j by omega]; exact hpt⟩, show ((j : Int).toNat) = j by omega]
              exact hY)
            have YL : Hid (Y.length ≤ 1000) := Hid.of (by rw [← hY]; exact HLE.out _ (List.mem_of_getElem? (iViews_get (r := (nw, (pn, pt), [])) hpt)))
            have e7 : decide (fx < ft) = false := decide_eq_false (by have := hsm.1; omega)
            clear ht hsm hY hfx hft hpt
            go_upto_region 22 with fail
            clear c1
            have bd := (Below.refl wr.heap.size wr).drew
            have BBd := Hid.of (BB.out.trans (bd.mono BB.out.size))
            have CSd := Hid.of (CS.out.next bd)
            clear bd BB
            have d0 := (CS.out).head
            have d1 := ((CS.out).tail).head
            have d2 := (((CS.out).tail).tail).head
            have d3 := ((((CS.out).tail).tail).tail).head
            have d4 := (((((CS.out).tail).tail).tail).tail).head
            have d5 := ((((((CS.out).tail).tail).tail).tail).tail).head
            have d6 := (((((((CS.out).tail).tail).tail).tail).tail).tail).head
            have d7 := ((((((((CS.out).tail).tail).tail).tail).tail).tail).tail).head
            have d8 := (((((((((CS.out).tail).tail).tail).tail).tail).tail).tail).tail).head
            refine wp_region_noPanic ?_
            refine wp_region_held_drew (S := fun w' => w'.cell? ⟨z, 1, none⟩ = some (.slice psa PN psc) ∧ w'.cell? ⟨p, 0, none⟩ = some (.int .i64 nw) ∧ w'.cell? ⟨p, 1, none⟩ = some (.string pn) ∧ w'.cell? ⟨p, 2, none⟩ = some (sq) ∧ w'.cell? ⟨p, 3, none⟩ = some (fq) ∧ w'.cell? ⟨q, 0, none⟩ = some (.int .i64 nw) ∧ w'.cell? ⟨q, 1, none⟩ = some (.string pn) ∧ w'.cell? ⟨q, 2, none⟩ = some (sb) ∧ w'.cell? ⟨q, 3, none⟩ = some (fb)) (by kernel_rfl) ?_ (fun hHeld => ?_)
            · exact ⟨d0, d1, d2, d3, d4, d5, d6, d7, d8⟩
            refine takeOp 0 (o := ⟨_, _, _, _, _, _⟩) (v := ?_) rfl (by kernel_rfl) (by rfl) hHeld ?_ ?_; rotate_left; (next => intro w' hSw; (try dsimp only at hSw); go_simp; all_goals with_reducible rfl); simp only [Act.put, pA9, pB9, pC9]
            refine takeOp 1 (o := ⟨_, _, _, _, _, _⟩) (v := ?_) rfl (by kernel_rfl) (by rfl) hHeld ?_ ?_; rotate_left; (next => intro w' hSw; (try dsimp only at hSw); go_simp; all_goals with_reducible rfl); simp only [Act.put, pA9, pB9, pC9]
            refine takeOp 2 (o := ⟨_, _, _, _, _, _⟩) (v := ?_) rfl (by kernel_rfl) (by rfl) hHeld ?_ ?_; rotate_left; (next => intro w' hSw; (try dsimp only at hSw); go_simp; all_goals with_reducible rfl); simp only [Act.put, pA9, pB9, pC9]
            refine takeOp 3 (o := ⟨_, _, _, _, _, _⟩) (v := ?_) rfl (by kernel_rfl) (by rfl) hHeld ?_ ?_; rotate_left; (next => intro w' hSw; (try dsimp only at hSw); go_simp; all_goals with_reducible rfl); simp only [Act.put, pA9, pB9, pC9]
            refine takeOp 4 (o := ⟨_, _, _, _, _, _⟩) (v := ?_) rfl (by kernel_rfl) (by rfl) hHeld ?_ ?_; rotate_left; (next => intro w' hSw; (try dsimp only at hSw); go_simp; all_goals with_reducible rfl); simp only [Act.put, pA9, pB9, pC9]
            refine takeOp 6 (o := ⟨_, _, _, _, _, _⟩) (v := ?_) rfl (by kernel_rfl) (by rfl) hHeld ?_ ?_; rotate_left; (next => intro w' hSw; (try dsimp only at hSw); go_simp; all_goals with_reducible rfl); simp only [Act.put, pA9, pB9, pC9]
            refine takeOp 7 (o := ⟨_, _, _, _, _, _⟩) (v := ?_) rfl (by kernel_rfl) (by rfl) hHeld ?_ ?_; rotate_left; (next => intro w' hSw; (try dsimp only at hSw); go_simp; all_goals with_reducible rfl); simp only [Act.put, pA9, pB9, pC9]
            refine takeOp 8 (o := ⟨_, _, _, _, _, _⟩) (v := ?_) rfl (by kernel_rfl) (by rfl) hHeld ?_ ?_; rotate_left; (next => intro w' hSw; (try dsimp only at hSw); go_simp; all_goals with_reducible rfl); simp only [Act.put, pA9, pB9, pC9]
            refine takeOp 9 (o := ⟨_, _, _, _, _, _⟩) (v := ?_) rfl (by kernel_rfl) (by rfl) hHeld ?_ ?_; rotate_left; (next => intro w' hSw; (try dsimp only at hSw); go_simp; all_goals with_reducible rfl); simp only [Act.put, pA9, pB9, pC9]
            refine takeOp 10 (o := ⟨_, _, _, _, _, _⟩) (v := ?_) rfl (by kernel_rfl) (by rfl) hHeld ?_ ?_; rotate_left; (next => intro w' hSw; (try dsimp only at hSw); go_simp; all_goals with_reducible rfl); simp only [Act.put, pA9, pB9, pC9]
            refine wpAnyH_ready (rs := [5]) (by kernel_rfl) (by simp) ?_
            refine AllReadyH.cons (o := ⟨_, _, _, _, _, _⟩) rfl (fun K hK => ?_) AllReadyH.nil
            go_simp
            refine (reaches.from_ _ rto (j : Int) _ trivial FTO.out (by unfold In64; omega) (RB.out.kept BBd.out)).mono ?_
            rintro e wfa ⟨rfl, bf⟩
            rw [HFX.out]
            have BBa := Hid.of (BBd.out.trans (bf.mono BBd.out.size))
            have CSa := Hid.of (CSd.out.next bf)
            clear bf BBd CSd
            clear hHeld d0 d1 d2 d3 d4 d5 d6 d7 d8
            have d0 := (CSa.out).head
            have d1 := ((CSa.out).tail).head
            have d2 := (((CSa.out).tail).tail).head
            have d3 := ((((CSa.out).tail).tail).tail).head
            have d4 := (((((CSa.out).tail).tail).tail).tail).head
            have d5 := ((((((CSa.out).tail).tail).tail).tail).tail).head
            have d6 := (((((((CSa.out).tail).tail).tail).tail).tail).tail).head
            have d7 := ((((((((CSa.out).tail).tail).tail).tail).tail).tail).tail).head
            have d8 := (((((((((CSa.out).tail).tail).tail).tail).tail).tail).tail).tail).head
            refine hK.out _ _ ⟨d0, d1, d2, d3, d4, d5, d6, d7, d8⟩ (fun hHeld => ?_)
            clear hK K
            try simp only [Act.put, pA9, pB9, pC9]
            refine wpAnyH_ready (rs := [11]) (by kernel_rfl) (by simp) ?_
            refine AllReadyH.cons (o := ⟨_, _, _, _, _, _⟩) rfl (fun K hK => ?_) AllReadyH.nil
            go_simp
            refine (reaches.from_ _ (nw, (pn, pt), []) (j : Int) _ trivial FIT.out (by unfold In64; omega) (RT.out.kept BBa.out)).mono ?_
            rintro e wfb ⟨rfl, bf⟩
            rw [HFT.out]
            have BBb := Hid.of (BBa.out.trans (bf.mono BBa.out.size))
            have CSb := Hid.of (CSa.out.next bf)
            clear bf BBa CSa
            clear hHeld d0 d1 d2 d3 d4 d5 d6 d7 d8
            have d0 := (CSb.out).head
            have d1 := ((CSb.out).tail).head
            have d2 := (((CSb.out).tail).tail).head
            have d3 := ((((CSb.out).tail).tail).tail).head
            have d4 := (((((CSb.out).tail).tail).tail).tail).head
            have d5 := ((((((CSb.out).tail).tail).tail).tail).tail).head
            have d6 := (((((((CSb.out).tail).tail).tail).tail).tail).tail).head
            have d7 := ((((((((CSb.out).tail).tail).tail).tail).tail).tail).tail).head
            have d8 := (((((((((CSb.out).tail).tail).tail).tail).tail).tail).tail).tail).head
            refine hK.out _ _ ⟨d0, d1, d2, d3, d4, d5, d6, d7, d8⟩ (fun hHeld => ?_)
            clear hK K
            try simp only [Act.put, pA9, pB9, pC9]
            refine takeOp 12 (o := ⟨_, _, _, _, _, _⟩) (v := ?_) rfl (by kernel_rfl) (by rfl) hHeld ?_ ?_; rotate_left; (next => intro w' hSw; (try dsimp only at hSw); go_simp; all_goals with_reducible rfl); simp only [Act.put, pA9, pB9, pC9]
            refine wpAnyH_done (by kernel_rfl) ?_ _
            refine NoPanic.normal ?_
            clear hHeld CS d0 d1 d2 d3 d4 d5 d6 d7 d8
            have HHb : Hid (IHere S w.heap.size w wfb q rto (iViews rto all) F5) := Hid.of (HB5.out.next BBb.out)
            have hrx := S.records (j : Int) (S.okKept OK.out HHb.out.fr) HHb.out.rep HLB.out (by unfold In64; omega)
            rw [HXE.out] at hrx
            go_wp2_with fail
            refine hrx.mono ?_
            rintro e wg ⟨ux, rfl, ox, bx⟩
            have BBg := Hid.of (BBb.out.trans (bx.mono BBb.out.size))
            have CSg := Hid.of (CSb.out.next bx)
            have OX := Hid.of (own_row ox)
            obtain ⟨xa, xc, rfl, -⟩ := own_one ox
            have HHt : Hid (IHere S w.heap.size w wg p (nw, (pn, pt), []) (iViews (nw, (pn, pt), []) all) G) := Hid.of (H5.out.next BBg.out)
            have hry := S.records (j : Int) (S.okKept OK.out HHt.out.fr) HHt.out.rep HLE.out (by unfold In64; omega)
            rw [HYE.out] at hry
            clear hrx bx ox HHb BBb CSb
            go_wp2_with fail
            refine hry.mono ?_
            rintro e wh ⟨uy, rfl, oy, by_⟩
            have BBh := Hid.of (BBg.out.trans (by_.mono BBg.out.size))
            have CSh := Hid.of (CSg.out.next by_)
            have OXh := Hid.of (OX.out.kept by_)
            have OYh := Hid.of (own_row oy)
            obtain ⟨ya, yc, rfl, -⟩ := own_one oy
            clear hry by_ oy HHt BBg CSg OX
            obtain ⟨XN, hXN⟩ : ∃ n, (tKeep Y fx).length = n := ⟨_, rfl⟩
            obtain ⟨YN, hYN⟩ : ∃ n, Y.length = n := ⟨_, rfl⟩
            have NX := Hid.of hXN
            have NY := Hid.of hYN
            rw [hXN] at OXh ⊢
            rw [hYN] at OYh ⊢
            have yn9 : YN ≤ 1000 := by have := YL.out; omega
            have xn9 : XN ≤ 1000 := by have h1 := List.length_filter_le (fun x : TRec => decide (fx ≤ x.s)) Y; have h2 : (tKeep Y fx).length ≤ Y.length := h1; omega
            clear hXN hYN
            go_upto_region 27 with fail
            go_loopg [17, 18] YN (fun ky kv iv wr => ∃ (i2 k : Nat), iv = .int .i64 i2 ∧ kv = .int .i64 k ∧ i2 ≤ YN ∧ YN - i2 ≤ ky ∧ k ≤ 1000 ∧ Hid ((tKeep (Y.take i2) fx).length = k) ∧ Hid (Dc wr [(⟨z, 1, none⟩, .slice psa PN psc), (⟨p, 0, none⟩, .int .i64 nw), (⟨p, 1, none⟩, .string pn), (⟨p, 2, none⟩, sq), (⟨p, 3, none⟩, fq), (⟨q, 0, none⟩, .int .i64 nw), (⟨q, 1, none⟩, .string pn), (⟨q, 2, none⟩, sb), (⟨q, 3, none⟩, fb)]) ∧ Hid (Below w5.heap.size w5 wr) ∧ Hid (Below wh.heap.size wh wr))
            case atStart => exact ⟨0, 0, rfl, rfl, Nat.zero_le _, Nat.le_refl _, Nat.zero_le _, Hid.of rfl, CSh, BBh, Hid.of (Below.refl _ _)⟩
            case round =>
              clear CSh BBh
              obtain ⟨i2, k, rfl, rfl, hi2, hky, hk9, HK, CS, BB, BH⟩ := hrel
              have i20 : (0 : Int) ≤ (i2 : Int) := Int.natCast_nonneg _
              have k0 : (0 : Int) ≤ (k : Int) := Int.natCast_nonneg _
              by_cases hl2 : (i2 : Int) < (YN : Int)
              · obtain ⟨u, hu⟩ : ∃ u, Y[i2]? = some u := ⟨_, List.getElem?_eq_getElem (by have := NY.out; omega)⟩
                have HU := Hid.of hu
                have HI2 : Hid (i2 < YN) := Hid.of (by omega)
                obtain ⟨yb, yo, hya, ylt, u0, u1, u2, u3, u4, u5, u6⟩ := r_at (OYh.out.kept BH.out) i2 (rl u) (by rw [List.getElem?_map, hu]; rfl)
                subst hya
                obtain ⟨rn, rs, ra⟩ := u
                unfold rl at u0 u1 u2 u3 u4 u5 u6
                simp only at u0 u1 u2 u3 u4 u5 u6
                have DY : Hid (Dc wr [(⟨yb, yo + i2 * 7, none⟩, .string rn), (⟨yb, yo + i2 * 7 + 1, none⟩, .int .i64 rs), (⟨yb, yo + i2 * 7 + 2, none⟩, .int .i64 ra.c), (⟨yb, yo + i2 * 7 + 3, none⟩, .int .i64 ra.hi), (⟨yb, yo + i2 * 7 + 4, none⟩, .int .u64 ra.lo), (⟨yb, yo + i2 * 7 + 5, none⟩, .int .i64 ra.mn), (⟨yb, yo + i2 * 7 + 6, none⟩, .int .i64 ra.mx)]) := Hid.of (.cons ylt u0 (.cons ylt u1 (.cons ylt u2 (.cons ylt u3 (.cons ylt u4 (.cons ylt u5 (.cons ylt u6 (Dc.nil _))))))))
                have DQ : Hid (Dc wr [(⟨q, 0, none⟩, .int .i64 nw), (⟨q, 1, none⟩, .string pn), (⟨q, 2, none⟩, sb), (⟨q, 3, none⟩, fb)]) := Hid.of CS.out.tail.tail.tail.tail.tail
                have D29 : Hid (Dc wr [(⟨yb, yo + i2 * 7 + 1, none⟩, .int .i64 rs), (⟨q, 0, none⟩, .int .i64 nw), (⟨q, 1, none⟩, .string pn), (⟨q, 2, none⟩, sb), (⟨q, 3, none⟩, fb)]) := Hid.of (.cons ylt u1 DQ.out)
                clear u0 u1 u2 u3 u4 u5 u6 ylt hu
                go_upto_region 29 with fail
                have bd := (Below.refl wr.heap.size wr).drew
                have BBd := Hid.of (BB.out.trans (bd.mono BB.out.size))
                have BHd := Hid.of (BH.out.trans (bd.mono BH.out.size))
                have CSd := Hid.of (CS.out.next bd)
                have DYd := Hid.of (DY.out.next bd)
                have D29d := Hid.of (D29.out.next bd)
                clear bd BB BH CS DY DQ
                have d0 := (D29.out).head
                have d1 := ((D29.out).tail).head
                have d2 := (((D29.out).tail).tail).head
                have d3 := ((((D29.out).tail).tail).tail).head
                have d4 := (((((D29.out).tail).tail).tail).tail).head
                refine wp_region_noPanic ?_
                refine wp_region_held_drew (S := fun w' => w'.cell? ⟨yb, yo + i2 * 7 + 1, none⟩ = some (.int .i64 rs) ∧ w'.cell? ⟨q, 0, none⟩ = some (.int .i64 nw) ∧ w'.cell? ⟨q, 1, none⟩ = some (.string pn) ∧ w'.cell? ⟨q, 2, none⟩ = some (sb) ∧ w'.cell? ⟨q, 3, none⟩ = some (fb)) (by kernel_rfl) ?_ (fun hHeld => ?_)
                · exact ⟨d0, d1, d2, d3, d4⟩
                refine takeOp 0 (o := ⟨_, _, _, _, _, _⟩) (v := ?_) rfl (by kernel_rfl) (by rfl) hHeld ?_ ?_; rotate_left; (next => intro w' hSw; (try dsimp only at hSw); go_simp; all_goals with_reducible rfl); simp only [Act.put, pA9, pB9, pC9]
                refine takeOp 1 (o := ⟨_, _, _, _, _, _⟩) (v := ?_) rfl (by kernel_rfl) (by rfl) hHeld ?_ ?_; rotate_left; (next => intro w' hSw; (try dsimp only at hSw); go_simp; all_goals with_reducible rfl); simp only [Act.put, pA9, pB9, pC9]
                refine takeOp 2 (o := ⟨_, _, _, _, _, _⟩) (v := ?_) rfl (by kernel_rfl) (by rfl) hHeld ?_ ?_; rotate_left; (next => intro w' hSw; (try dsimp only at hSw); go_simp; all_goals with_reducible rfl); simp only [Act.put, pA9, pB9, pC9]
                refine takeOp 3 (o := ⟨_, _, _, _, _, _⟩) (v := ?_) rfl (by kernel_rfl) (by rfl) hHeld ?_ ?_; rotate_left; (next => intro w' hSw; (try dsimp only at hSw); go_simp; all_goals with_reducible rfl); simp only [Act.put, pA9, pB9, pC9]
                refine takeOp 4 (o := ⟨_, _, _, _, _, _⟩) (v := ?_) rfl (by kernel_rfl) (by rfl) hHeld ?_ ?_; rotate_left; (next => intro w' hSw; (try dsimp only at hSw); go_simp; all_goals with_reducible rfl); simp only [Act.put, pA9, pB9, pC9]
                refine takeOp 5 (o := ⟨_, _, _, _, _, _⟩) (v := ?_) rfl (by kernel_rfl) (by rfl) hHeld ?_ ?_; rotate_left; (next => intro w' hSw; (try dsimp only at hSw); go_simp; all_goals with_reducible rfl); simp only [Act.put, pA9, pB9, pC9]
                refine takeOp 6 (o := ⟨_, _, _, _, _, _⟩) (v := ?_) rfl (by kernel_rfl) (by rfl) hHeld ?_ ?_; rotate_left; (next => intro w' hSw; (try dsimp only at hSw); go_simp; all_goals with_reducible rfl); simp only [Act.put, pA9, pB9, pC9]
                refine takeOp 7 (o := ⟨_, _, _, _, _, _⟩) (v := ?_) rfl (by kernel_rfl) (by rfl) hHeld ?_ ?_; rotate_left; (next => intro w' hSw; (try dsimp only at hSw); go_simp; all_goals with_reducible rfl); simp only [Act.put, pA9, pB9, pC9]
                refine takeOp 8 (o := ⟨_, _, _, _, _, _⟩) (v := ?_) rfl (by kernel_rfl) (by rfl) hHeld ?_ ?_; rotate_left; (next => intro w' hSw; (try dsimp only at hSw); go_simp; all_goals with_reducible rfl); simp only [Act.put, pA9, pB9, pC9]
                refine takeOp 9 (o := ⟨_, _, _, _, _, _⟩) (v := ?_) rfl (by kernel_rfl) (by rfl) hHeld ?_ ?_; rotate_left; (next => intro w' hSw; (try dsimp only at hSw); go_simp; all_goals with_reducible rfl); simp only [Act.put, pA9, pB9, pC9]
                refine wpAnyH_ready (rs := [10]) (by kernel_rfl) (by simp) ?_
                refine AllReadyH.cons (o := ⟨_, _, _, _, _, _⟩) rfl (fun K hK => ?_) AllReadyH.nil
                go_simp
                refine (reaches.from_ _ rto (j : Int) _ trivial FTO.out (by unfold In64; omega) (RB.out.kept BBd.out)).mono ?_
                rintro e wfa ⟨rfl, bf⟩
                rw [HFX.out]
                have BBa := Hid.of (BBd.out.trans (bf.mono BBd.out.size))
                have BHa := Hid.of (BHd.out.trans (bf.mono BHd.out.size))
                have CSa := Hid.of (CSd.out.next bf)
                have DYa := Hid.of (DYd.out.next bf)
                have D29a := Hid.of (D29d.out.next bf)
                clear bf BBd BHd CSd DYd D29d D29
                clear hHeld d0 d1 d2 d3 d4
                have d0 := (D29a.out).head
                have d1 := ((D29a.out).tail).head
                have d2 := (((D29a.out).tail).tail).head
                have d3 := ((((D29a.out).tail).tail).tail).head
                have d4 := (((((D29a.out).tail).tail).tail).tail).head
                refine hK.out _ _ ⟨d0, d1, d2, d3, d4⟩ (fun hHeld => ?_)
                clear hK K
                try simp only [Act.put, pA9, pB9, pC9]
                refine takeOp 11 (o := ⟨_, _, _, _, _, _⟩) (v := ?_) rfl (by kernel_rfl) (by rfl) hHeld ?_ ?_; rotate_left; (next => intro w' hSw; (try dsimp only at hSw); go_simp; all_goals with_reducible rfl); simp only [Act.put, pA9, pB9, pC9]
                refine wpAnyH_done (by kernel_rfl) ?_ _
                refine NoPanic.normal ?_
                clear hHeld D29a d0 d1 d2 d3 d4
                by_cases hge : fx ≤ rs
                · have hx := keep_here HU.out hge
                  rw [HK.out] at hx
                  have hkX : k < XN := by have := (List.getElem?_eq_some_iff.1 hx).1; rw [NX.out] at this; exact this
                  have HK2 : Hid ((tKeep (Y.take (i2 + 1)) fx).length = k + 1) := Hid.of (by rw [keep_next HU.out, if_pos hge, HK.out])
                  obtain ⟨xb, xo, hxa, xlt, x0, x1, x2, x3, x4, x5, x6⟩ := r_at (OXh.out.kept BHa.out) k (rl ⟨rn, rs, ra⟩) (by rw [List.getElem?_map, hx]; rfl)
                  subst hxa
                  unfold rl at x0 x1 x2 x3 x4 x5 x6
                  simp only at x0 x1 x2 x3 x4 x5 x6
                  have D30 : Hid (Dc wfa [(⟨xb, xo + k * 7, none⟩, .string rn), (⟨xb, xo + k * 7 + 1, none⟩, .int .i64 rs), (⟨xb, xo + k * 7 + 2, none⟩, .int .i64 ra.c), (⟨xb, xo + k * 7 + 3, none⟩, .int .i64 ra.hi), (⟨xb, xo + k * 7 + 4, none⟩, .int .u64 ra.lo), (⟨xb, xo + k * 7 + 5, none⟩, .int .i64 ra.mn), (⟨xb, xo + k * 7 + 6, none⟩, .int .i64 ra.mx), (⟨yb, yo + i2 * 7, none⟩, .string rn), (⟨yb, yo + i2 * 7 + 1, none⟩, .int .i64 rs), (⟨yb, yo + i2 * 7 + 2, none⟩, .int .i64 ra.c), (⟨yb, yo + i2 * 7 + 3, none⟩, .int .i64 ra.hi), (⟨yb, yo + i2 * 7 + 4, none⟩, .int .u64 ra.lo), (⟨yb, yo + i2 * 7 + 5, none⟩, .int .i64 ra.mn), (⟨yb, yo + i2 * 7 + 6, none⟩, .int .i64 ra.mx)]) := Hid.of (Dc.cons xlt x0 (.cons xlt x1 (.cons xlt x2 (.cons xlt x3 (.cons xlt x4 (.cons xlt x5 (.cons xlt x6 DYa.out)))))))
                  have kd : decide ((XN : Int) ≤ (k : Int)) = false := decide_eq_false (by omega)
                  have kd2 : decide (XN ≤ k) = false := decide_eq_false (by omega)
                  have kl : (k : Int) < (XN : Int) := by omega
                  clear x0 x1 x2 x3 x4 x5 x6 xlt hx hkX
                  go_upto_region 30 with fail
                  clear hge
                  have bd := (Below.refl wfa.heap.size wfa).drew
                  have BBz := Hid.of (BBa.out.trans (bd.mono BBa.out.size))
                  have BHz := Hid.of (BHa.out.trans (bd.mono BHa.out.size))
                  have CSz := Hid.of (CSa.out.next bd)
                  clear bd BBa BHa CSa DYa
                  have d0 := (D30.out).head
                  have d1 := ((D30.out).tail).head
                  have d2 := (((D30.out).tail).tail).head
                  have d3 := ((((D30.out).tail).tail).tail).head
                  have d4 := (((((D30.out).tail).tail).tail).tail).head
                  have d5 := ((((((D30.out).tail).tail).tail).tail).tail).head
                  have d6 := (((((((D30.out).tail).tail).tail).tail).tail).tail).head
                  have d7 := ((((((((D30.out).tail).tail).tail).tail).tail).tail).tail).head
                  have d8 := (((((((((D30.out).tail).tail).tail).tail).tail).tail).tail).tail).head
                  have d9 := ((((((((((D30.out).tail).tail).tail).tail).tail).tail).tail).tail).tail).head
                  have d10 := (((((((((((D30.out).tail).tail).tail).tail).tail).tail).tail).tail).tail).tail).head
                  have d11 := ((((((((((((D30.out).tail).tail).tail).tail).tail).tail).tail).tail).tail).tail).tail).head
                  have d12 := (((((((((((((D30.out).tail).tail).tail).tail).tail).tail).tail).tail).tail).tail).tail).tail).head
                  have d13 := ((((((((((((((D30.out).tail).tail).tail).tail).tail).tail).tail).tail).tail).tail).tail).tail).tail).head
                  refine wp_region_noPanic ?_
                  refine wp_region_held_drew (S := fun w' => w'.cell? ⟨xb, xo + k * 7, none⟩ = some (.string rn) ∧ w'.cell? ⟨xb, xo + k * 7 + 1, none⟩ = some (.int .i64 rs) ∧ w'.cell? ⟨xb, xo + k * 7 + 2, none⟩ = some (.int .i64 ra.c) ∧ w'.cell? ⟨xb, xo + k * 7 + 3, none⟩ = some (.int .i64 ra.hi) ∧ w'.cell? ⟨xb, xo + k * 7 + 4, none⟩ = some (.int .u64 ra.lo) ∧ w'.cell? ⟨xb, xo + k * 7 + 5, none⟩ = some (.int .i64 ra.mn) ∧ w'.cell? ⟨xb, xo + k * 7 + 6, none⟩ = some (.int .i64 ra.mx) ∧ w'.cell? ⟨yb, yo + i2 * 7, none⟩ = some (.string rn) ∧ w'.cell? ⟨yb, yo + i2 * 7 + 1, none⟩ = some (.int .i64 rs) ∧ w'.cell? ⟨yb, yo + i2 * 7 + 2, none⟩ = some (.int .i64 ra.c) ∧ w'.cell? ⟨yb, yo + i2 * 7 + 3, none⟩ = some (.int .i64 ra.hi) ∧ w'.cell? ⟨yb, yo + i2 * 7 + 4, none⟩ = some (.int .u64 ra.lo) ∧ w'.cell? ⟨yb, yo + i2 * 7 + 5, none⟩ = some (.int .i64 ra.mn) ∧ w'.cell? ⟨yb, yo + i2 * 7 + 6, none⟩ = some (.int .i64 ra.mx)) (by kernel_rfl) ?_ (fun hHeld => ?_)
                  · exact ⟨d0, d1, d2, d3, d4, d5, d6, d7, d8, d9, d10, d11, d12, d13⟩
                  refine takeOp 0 (o := ⟨_, _, _, _, _, _⟩) (v := ?_) rfl (by kernel_rfl) (by rfl) hHeld ?_ ?_; rotate_left; (next => intro w' hSw; (try dsimp only at hSw); go_simp; all_goals with_reducible rfl); simp only [Act.put, pA9, pB9, pC9]
                  refine takeOp 1 (o := ⟨_, _, _, _, _, _⟩) (v := ?_) rfl (by kernel_rfl) (by rfl) hHeld ?_ ?_; rotate_left; (next => intro w' hSw; (try dsimp only at hSw); go_simp; all_goals with_reducible rfl); simp only [Act.put, pA9, pB9, pC9]
                  refine takeOp 2 (o := ⟨_, _, _, _, _, _⟩) (v := ?_) rfl (by kernel_rfl) (by rfl) hHeld ?_ ?_; rotate_left; (next => intro w' hSw; (try dsimp only at hSw); go_simp; all_goals with_reducible rfl); simp only [Act.put, pA9, pB9, pC9]
                  refine takeOp 3 (o := ⟨_, _, _, _, _, _⟩) (v := ?_) rfl (by kernel_rfl) (by rfl) hHeld ?_ ?_; rotate_left; (next => intro w' hSw; (try dsimp only at hSw); go_simp; all_goals with_reducible rfl); simp only [Act.put, pA9, pB9, pC9]
                  refine takeOp 4 (o := ⟨_, _, _, _, _, _⟩) (v := ?_) rfl (by kernel_rfl) (by rfl) hHeld ?_ ?_; rotate_left; (next => intro w' hSw; (try dsimp only at hSw); go_simp; all_goals with_reducible rfl); simp only [Act.put, pA9, pB9, pC9]
                  refine takeOp 5 (o := ⟨_, _, _, _, _, _⟩) (v := ?_) rfl (by kernel_rfl) (by rfl) hHeld ?_ ?_; rotate_left; (next => intro w' hSw; (try dsimp only at hSw); go_simp; all_goals with_reducible rfl); simp only [Act.put, pA9, pB9, pC9]
                  refine takeOp 6 (o := ⟨_, _, _, _, _, _⟩) (v := ?_) rfl (by kernel_rfl) (by rfl) hHeld ?_ ?_; rotate_left; (next => intro w' hSw; (try dsimp only at hSw); go_simp; all_goals with_reducible rfl); simp only [Act.put, pA9, pB9, pC9]
                  refine takeOp 7 (o := ⟨_, _, _, _, _, _⟩) (v := ?_) rfl (by kernel_rfl) (by rfl) hHeld ?_ ?_; rotate_left; (next => intro w' hSw; (try dsimp only at hSw); go_simp; all_goals with_reducible rfl); simp only [Act.put, pA9, pB9, pC9]
                  refine takeOp 8 (o := ⟨_, _, _, _, _, _⟩) (v := ?_) rfl (by kernel_rfl) (by rfl) hHeld ?_ ?_; rotate_left; (next => intro w' hSw; (try dsimp only at hSw); go_simp; all_goals with_reducible rfl); simp only [Act.put, pA9, pB9, pC9]
                  refine takeOp 9 (o := ⟨_, _, _, _, _, _⟩) (v := ?_) rfl (by kernel_rfl) (by rfl) hHeld ?_ ?_; rotate_left; (next => intro w' hSw; (try dsimp only at hSw); go_simp; all_goals with_reducible rfl); simp only [Act.put, pA9, pB9, pC9]
                  refine takeOp 10 (o := ⟨_, _, _, _, _, _⟩) (v := ?_) rfl (by kernel_rfl) (by rfl) hHeld ?_ ?_; rotate_left; (next => intro w' hSw; (try dsimp only at hSw); go_simp; all_goals with_reducible rfl); simp only [Act.put, pA9, pB9, pC9]
                  refine takeOp 11 (o := ⟨_, _, _, _, _, _⟩) (v := ?_) rfl (by kernel_rfl) (by rfl) hHeld ?_ ?_; rotate_left; (next => intro w' hSw; (try dsimp only at hSw); go_simp; all_goals with_reducible rfl); simp only [Act.put, pA9, pB9, pC9]
                  refine takeOp 12 (o := ⟨_, _, _, _, _, _⟩) (v := ?_) rfl (by kernel_rfl) (by rfl) hHeld ?_ ?_; rotate_left; (next => intro w' hSw; (try dsimp only at hSw); go_simp; all_goals with_reducible rfl); simp only [Act.put, pA9, pB9, pC9]
                  refine takeOp 13 (o := ⟨_, _, _, _, _, _⟩) (v := ?_) rfl (by kernel_rfl) (by rfl) hHeld ?_ ?_; rotate_left; (next => intro w' hSw; (try dsimp only at hSw); go_simp; all_goals with_reducible rfl); simp only [Act.put, pA9, pB9, pC9]
                  refine takeOp 14 (o := ⟨_, _, _, _, _, _⟩) (v := ?_) rfl (by kernel_rfl) (by rfl) hHeld ?_ ?_; rotate_left; (next => intro w' hSw; (try dsimp only at hSw); go_simp; all_goals with_reducible rfl); simp only [Act.put, pA9, pB9, pC9]
                  refine wpAnyH_done (by kernel_rfl) ?_ _
                  refine NoPanic.normal ?_
                  clear hHeld D30 d0 d1 d2 d3 d4 d5 d6 d7 d8 d9 d10 d11 d12 d13
                  clear kd kd2 kl
                  go_wp2
                  go_roundg (YN - (i2 + 1))
                  case measure => have := HI2.out; omega
                  case rel => exact ⟨i2 + 1, k + 1, by go_num, by go_num, HI2.out, Nat.le_refl _, by have h1 := HK2.out; have h2 := List.length_filter_le (fun x : TRec => decide (fx ≤ x.s)) (Y.take (i2 + 1)); have h3 : (tKeep (Y.take (i2 + 1)) fx).length ≤ (Y.take (i2 + 1)).length := h2; rw [List.length_take] at h3; omega, HK2, CSz, BBz, BHz⟩
                · have HK2 : Hid ((tKeep (Y.take (i2 + 1)) fx).length = k) := Hid.of (by rw [keep_next HU.out, if_neg hge]; exact HK.out)
                  go_wp2
                  go_roundg (YN - (i2 + 1))
                  case measure => have := HI2.out; omega
                  case rel => exact ⟨i2 + 1, k, by go_num, rfl, HI2.out, Nat.le_refl _, hk9, HK2, CSa, BBa, BHa⟩
              · obtain rfl : i2 = YN := by omega
                have hkx : k = XN := by rw [← HK.out, ← NY.out, List.take_length, NX.out]
                subst hkx
                go_wp2
                go_roundg (PN - (j + 1))
                case measure => have := HJ.out; omega
                case rel => exact ⟨j + 1, by go_num, HJ.out, Nat.le_refl _, CS, BB⟩
          · obtain rfl : j = PN := by omega
            have BE := Hid.of (H5.out.next BB.out).fr
            go_wp2_with fail
            refine (planAlive_any _).mono ?_
            rintro e w9 ⟨rfl, b9⟩
            have B9 := Hid.of (BE.out.trans (b9.mono BE.out.size))
            go_wp2
            go_ret
            exact ⟨rfl, B9.out⟩

end Go.Proofs.YtiomoobeklpkmaaGreat
