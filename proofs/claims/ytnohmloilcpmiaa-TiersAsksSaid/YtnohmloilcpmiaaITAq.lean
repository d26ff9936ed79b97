/-
  What statement TiersAsks answers: true, for every input.
-/
import Derived.Deep.QuietTactic
import Derived.BigQuiet
import Derived.Deep.RegionHeld3
import Derived.Test.YtnohmloilcpmiaaITKq
import Derived.Test.YtnohmloilcpmiaaIAFq
import Derived.Test.YtnohmloilcpmiaaQ38
import Derived.Test.YtnohmloilcpmiaaQ34
import Derived.Test.YtnohmloilcpmiaaQ17
import Derived.Test.YtnohmloilcpmiaaQ10
import Derived.Test.YtnohmloilcpmiaaBKRq
namespace Go.Proofs.Ytnohmloilcpmiaa
open Go.RowKit Go.Lib

theorem arec_info : (Try.prog.info? 47).map (fun i => (i.zero, i.size, i.bytes)) = some (some (.agg #[.string ⟨#[]⟩, .int .i64 0, .int .i64 0, .int .i64 0, .int .u64 0, .int .i64 0, .int .i64 0]), 7, 64) := by kernel_rfl

theorem IGood.pos' {r : RchL} {T : List (List TRec)} (h : IGood r T) : 0 < T.length := by
  have h1 := (pCheck_ok h.chk).2.2.1
  rw [h.len]
  exact h1

theorem step_if {P : Program} {ops : Array Oper} {o : Oper} {a : Act} {w : World} {K : Act → World → Prop} {Q : Exit → Act → World → Prop} {E : Prop}
    (hw : Region.wanted o (yielded ops a.tmps) = true) (h : if Region.wanted { o with guard := none } (yielded ops a.tmps) = true then Oper.wp P { o with guard := none } a w K Q else True) :
    if Region.wanted o (yielded ops a.tmps) = true then Oper.wp P o a w K Q else E := by
  rw [if_pos hw]
  rw [if_pos (by simp [Region.wanted])] at h
  cases o
  exact h

/-- An answer in a variable. -/
theorem ans_cs (w : World) (t : Int) (u : Value) {l : List (Addr × Value)} (h : Cs w l) : Cs (w.alloc (.cells #[.int .i64 t, u] 40)) ((⟨w.heap.size, 0, none⟩, .int .i64 t) :: (⟨w.heap.size, 1, none⟩, u) :: l) := by
  have hz := (MapKept.heap_alloc w (.cells #[.int .i64 t, u] 40 (0, 0))).1
  have hl : w.heap.size < (w.alloc (.cells #[.int .i64 t, u] 40)).heap.size := by simp
  exact .cons hl (by rw [cell_of_row _ _ _ _ _ _ hz]; rfl) (.cons hl (by rw [cell_of_row _ _ _ _ _ _ hz]; rfl) (h.next ((Below.refl _ _).alloc (Nat.le_refl _) _)))

set_option maxRecDepth 20000 in
set_option maxHeartbeats 12800000 in
theorem tiersAsks_main {TS : TableSpec} (S : TiersSpec TS) (pv lv : Value) (p : PolL) (now : Int) (l : List IOpL) (nm : ByteArray) (fr mid to_ : Int) (w : World) (hS : S.Ok w) (hp : PolRow w pv p) (fp : ∀ x ∈ p.2, TIn x) (hn : In64 now) (hl : IOpsRow w lv l) (hfr : In64 fr) (hmi : In64 mid) (hto : In64 to_) :
    Calls Try.prog 3 #[pv, .int .i64 now, lv, .string nm, .int .i64 fr, .int .i64 mid, .int .i64 to_] w fun e w' => e = .returned (.bool true) ∧ Below w.heap.size w w' := by
  have HP0 := Hid.of hp
  obtain ⟨pn, pt⟩ := p
  obtain ⟨qs, rfl, hps, -⟩ := hp
  have HPS := Hid.of hps
  obtain ⟨psa, psc, rfl, -⟩ := hps
  obtain ⟨PN, hPN⟩ : ∃ PN, pt.length = PN := ⟨_, rfl⟩
  simp only at HP0 HPS ⊢
  rw [hPN] at HP0 HPS ⊢
  have HPN := Hid.of hPN
  clear hPN
  obtain ⟨w1, hw1⟩ : ∃ w1, w.alloc (.cells #[.string pn, .slice psa PN psc] 24) = w1 := ⟨_, rfl⟩
  obtain ⟨z, hz⟩ : ∃ z, w.heap.size = z := ⟨_, rfl⟩
  have B1 : Hid (Below w.heap.size w w1) := Hid.of (by rw [← hw1]; exact (Below.refl _ _).alloc (Nat.le_refl _) _)
  have K1 : Hid (PBlk w1 z pn (.slice psa PN psc)) := Hid.of (by rw [← hw1, ← hz]; exact PBlk.made w pn _)
  have OK := Hid.of hS
  have FP := Hid.of fp
  have HL := Hid.of hl
  obtain ⟨⟨va, vc, rfl, -⟩, -⟩ := hl
  obtain ⟨N, hN⟩ : ∃ N, l.length = N := ⟨_, rfl⟩
  have NL := Hid.of hN
  have HR : Hid (CellRow w (.slice va N vc) N (flat IOpL.cells l)) := Hid.of (by rw [← hN]; exact HL.out.1)
  have hsm := Small_any _ (pn, pt) w1 (HP0.out.kept B1.out)
  have HN := Hid.of hn
  have HFR := Hid.of hfr
  have HMI := Hid.of hmi
  have HTO := Hid.of hto
  obtain ⟨i0, hi0, hz0, hz1, hz2⟩ := info_parts arec_info
  have HI := Hid.of hi0
  have HZ0 := Hid.of hz0
  have HZ1 := Hid.of hz1
  have HZ2 := Hid.of hz2
  rw [hN]
  have HW := Hid.of hw1
  have HZ := Hid.of hz
  obtain ⟨q0, q1⟩ := K1.out.at
  clear hS fp hN hw1 hz hn hfr hmi hto hi0 hz0 hz1 hz2
  go_enter Try.func3, Try.ntmps3
  go_upto_region 1 with fail
  rw [HW.out, HZ.out]
  clear HW
  go_wp2_with fail
  refine hsm.mono ?_
  rintro e w2 ⟨small, rfl, HSM, b2⟩
  have B2 := Hid.of (B1.out.trans (b2.mono B1.out.size))
  have K2 := Hid.of (K1.out.kept b2)
  clear b2 hsm q0 q1 K1 B1
  cases small
  · go_wp2_with fail
    refine (tiersAlive_any S _ (S.okKept OK.out B2.out)).mono ?_
    rintro e w9 ⟨rfl, b9⟩
    have B9 := Hid.of (B2.out.trans (b9.mono B2.out.size))
    go_wp2
    go_ret
    exact ⟨rfl, B9.out⟩
  have PS := Hid.of (HSM.out (by first | rfl | trivial))
  clear HSM
  have hlt := Light_any (.slice va l.length vc) l w2 (HL.out.kept B2.out)
  rw [NL.out] at hlt
  go_wp2_with fail
  refine hlt.mono ?_
  rintro e w3 ⟨light, rfl, HLI, b3⟩
  have B3 := Hid.of (B2.out.trans (b3.mono B2.out.size))
  have K3 := Hid.of (K2.out.kept b3)
  clear b3 hlt K2 B2
  cases light
  · go_wp2_with fail
    refine (tiersAlive_any S _ (S.okKept OK.out B3.out)).mono ?_
    rintro e w9 ⟨rfl, b9⟩
    have B9 := Hid.of (B3.out.trans (b9.mono B3.out.size))
    go_wp2
    go_ret
    exact ⟨rfl, B9.out⟩
  have LI := Hid.of (HLI.out (by first | rfl | trivial))
  clear HLI
  by_cases h60 : 60 < nm.size
  · have k60 : (nm.size : Int) > 60 := by omega
    go_wp2_with fail
    refine (tiersAlive_any S _ (S.okKept OK.out B3.out)).mono ?_
    rintro e w9 ⟨rfl, b9⟩
    have B9 := Hid.of (B3.out.trans (b9.mono B3.out.size))
    go_wp2
    go_ret
    exact ⟨rfl, B9.out⟩
  have k60 : ¬ (nm.size : Int) > 60 := by omega
  by_cases hf0 : fr < 0
  · go_wp2_with fail
    refine (tiersAlive_any S _ (S.okKept OK.out B3.out)).mono ?_
    rintro e w9 ⟨rfl, b9⟩
    have B9 := Hid.of (B3.out.trans (b9.mono B3.out.size))
    go_wp2
    go_ret
    exact ⟨rfl, B9.out⟩
  by_cases hmf : mid < fr
  · go_wp2_with fail
    refine (tiersAlive_any S _ (S.okKept OK.out B3.out)).mono ?_
    rintro e w9 ⟨rfl, b9⟩
    have B9 := Hid.of (B3.out.trans (b9.mono B3.out.size))
    go_wp2
    go_ret
    exact ⟨rfl, B9.out⟩
  by_cases htm : to_ < mid
  · go_wp2_with fail
    refine (tiersAlive_any S _ (S.okKept OK.out B3.out)).mono ?_
    rintro e w9 ⟨rfl, b9⟩
    have B9 := Hid.of (B3.out.trans (b9.mono B3.out.size))
    go_wp2
    go_ret
    exact ⟨rfl, B9.out⟩
  obtain ⟨q0, q1⟩ := K3.out.at
  have hnew := S.new (.agg #[.string pn, .slice psa PN psc]) (.slice none 0 0) (pn, pt) now [] w3 (S.okKept OK.out B3.out) (HP0.out.kept B3.out) PS.out.2.1 PS.out.1 (fun x hx => ⟨PS.out.2.2 x hx, (FP.out x hx).2⟩) HN.out ⟨_, _, rfl, .inl rfl⟩ (Nat.le_refl _) (by decide) (fun x hx => absurd hx List.not_mem_nil)
  go_wp2_with fail
  refine hnew.mono ?_
  rintro e w4 ⟨h1, h2, b4⟩
  have B4 := Hid.of (B3.out.trans (b4.mono B3.out.size))
  have K4 := Hid.of (K3.out.kept b4)
  have HZL : Hid (z < w3.heap.size) := Hid.of (Array.getElem?_eq_some_iff.1 K3.out).1
  clear q0 q1 K3
  by_cases he : iNewE (pn, pt) now [] = 0
  case neg =>
    obtain rfl := h2 he
    obtain ⟨er, her⟩ : ∃ er, iNewE (pn, pt) now [] = er := ⟨_, rfl⟩
    rw [her] at he ⊢
    clear her h1 h2 b4 hnew
    go_wp2_with fail
    refine (tiersAlive_any S _ (S.okKept OK.out B4.out)).mono ?_
    rintro e w9 ⟨rfl, b9⟩
    have B9 := Hid.of (B4.out.trans (b9.mono B4.out.size))
    go_wp2
    go_ret
    exact ⟨rfl, B9.out⟩
  obtain ⟨p, F, rfl, rep, hF⟩ := h1 he
  have H4 : Hid (IHere S w.heap.size w w4 p (now, (pn, pt), []) (List.replicate pt.length []) F) := Hid.of ⟨rep, fun k hk => Nat.le_trans B3.out.size (hF k (S.sub rep k hk)), B4.out.size, B4.out⟩
  have HZF : Hid (¬ F.own z) := Hid.of (fun c => by have := hF z (S.sub rep z c); have := HZL.out; omega)
  have HN50 : N ≤ 50 := by have := LI.out.1; rw [NL.out] at this; exact this
  clear rep hF b4 h1 h2 hnew he B3 B4
  go_wp2
  go_loopg [17] N (fun kx iv wr => ∃ (i : Nat) (nw : Int) (T : List (List TRec)) (G : TFoot), iv = .int .i64 i ∧ i ≤ N ∧ N - i ≤ kx ∧ Hid (∀ x ∈ T, x.length ≤ 8 * i) ∧ Hid (IHere S w.heap.size w wr p (nw, (pn, pt), []) T G) ∧ Hid (PBlk wr z pn (.slice psa PN psc)) ∧ Hid (¬ G.own z))
  case atStart => exact ⟨0, now, _, F, rfl, Nat.zero_le _, Nat.le_refl _, Hid.of (fun x hx => by rw [List.eq_of_mem_replicate hx]; exact Nat.le_refl _), H4, K4, HZF⟩
  case round =>
    clear H4 K4 HZF
    obtain ⟨i, nw, T, G, rfl, hiN, hkx, HT, H, K, HZG⟩ := hrel
    by_cases hlt : (i : Int) < (N : Int)
    · obtain ⟨o, ho⟩ : ∃ o, l[i]? = some o := ⟨_, List.getElem?_eq_getElem (by have := NL.out; omega)⟩
      have hom := List.mem_of_getElem? ho
      have OI := Hid.of (HL.out.2 o hom)
      have OL := Hid.of (LI.out.2 o hom)
      obtain ⟨bq, o1, rfl, hb1, c0, c1, c2, c3⟩ := iop_at (HR.out.kept H.out.fr) i o ho
      have HO1 := Hid.of ho
      have hi0 : (0 : Int) ≤ (i : Int) := by omega
      have HIN : Hid (i < N) := Hid.of (by omega)
      have hle8 : ∀ x ∈ T, x.length + 8 ≤ 1000 := fun x hx => by have := HT.out x hx; omega
      have HLE8 := Hid.of hle8
      have KL : Hid (z < wr.heap.size) := Hid.of (Array.getElem?_eq_some_iff.1 K.out).1
      clear ho hom hb1 c3 hle8
      by_cases hk : o.k = 1
      · have hput := S.put _ o.ss (H.out.ok OK.out) H.out.rep HLE8.out (OI.out.s.kept H.out.fr) OI.out.sc (by have := OL.out.1.1; omega) (fun hne => off_in OI.out.s (sams_ne hne) H.out.ge) OI.out.sf
        have hk2 : ¬ o.k = 2 := by omega
        clear c1
        go_wp2_with fail
        refine hput.mono ?_
        rintro e w5 ⟨rfl, G5, rep5, st5⟩
        have H5 := Hid.of (H.out.step rep5 st5)
        have K5 : Hid (PBlk w5 z pn (.slice psa PN psc)) := Hid.of ((st5.own.block z KL.out HZG.out).trans K.out)
        have ZG5 : Hid (¬ G5.own z) := Hid.of (fun c => by
          rcases st5.own.foot z c with d | d
          · exact HZG.out d
          · have := KL.out; omega)
        obtain ⟨bq', o1', hq', hb1', c0', -, -, -⟩ := iop_at (HR.out.kept H5.out.fr) i o HO1.out
        obtain ⟨rfl, rfl⟩ : bq' = bq ∧ o1' = o1 := by
          have := Option.some.inj hq'
          simp only [Addr.mk.injEq] at this
          exact ⟨this.1.symm, this.2.1.symm⟩
        clear rep5 st5 hput H c0 c2 hq' hb1' K KL HZG
        go_wp2
        go_roundg (N - (i + 1))
        case measure => have := HIN.out; omega
        case rel =>
          refine ⟨i + 1, nw, _, G5, by go_num, HIN.out, Nat.le_refl _, Hid.of (fun x hx => ?_), H5, K5, ZG5⟩
          split at hx
          · rename_i hc
            have := iPut_le HT.out x hx
            have := iCheck_len hc
            omega
          · have := HT.out x hx
            omega
      · by_cases hk2 : o.k = 2
        · have htk := S.tick o.n (H.out.ok OK.out) H.out.rep (fun x hx => by have := HLE8.out x hx; omega) OI.out.n
          clear c2
          go_wp2_with fail
          refine htk.mono ?_
          rintro e w5 ⟨rfl, G5, rep5, st5⟩
          have K5 : Hid (PBlk w5 z pn (.slice psa PN psc)) := Hid.of ((st5.own.block z KL.out HZG.out).trans K.out)
          have ZG5 : Hid (¬ G5.own z) := Hid.of (fun c => by
            rcases st5.own.foot z c with d | d
            · exact HZG.out d
            · have := KL.out; omega)
          have HX : Hid (∃ (nw' : Int) (T' : List (List TRec)), IHere S w.heap.size w w5 p (nw', (pn, pt), []) T' G5 ∧ ∀ x ∈ T', x.length ≤ 8 * (i + 1)) := Hid.of (by
            by_cases ht0 : iTickE (nw, (pn, pt), []) o.n = 0
            · rw [if_pos ht0, if_pos ht0] at rep5
              exact ⟨nw + o.n, _, H.out.step rep5 st5, fun x hx => by have := iKeep_le HT.out x hx; omega⟩
            · rw [if_neg ht0, if_neg ht0] at rep5
              exact ⟨nw, _, H.out.step rep5 st5, fun x hx => by have := HT.out x hx; omega⟩)
          obtain ⟨te, hte⟩ : ∃ te, iTickE (nw, (pn, pt), []) o.n = te := ⟨_, rfl⟩
          rw [hte]
          clear rep5 st5 htk H c0 c1 K KL HZG hte
          go_wp2
          go_roundg (N - (i + 1))
          case measure => have := HIN.out; omega
          case rel =>
            obtain ⟨nw', T', hx1, hx2⟩ := HX.out
            exact ⟨i + 1, nw', T', G5, by go_num, HIN.out, Nat.le_refl _, Hid.of hx2, Hid.of hx1, K5, ZG5⟩
        · clear c1 c2
          go_wp2
          go_roundg (N - (i + 1))
          case measure => have := HIN.out; omega
          case rel => exact ⟨i + 1, nw, T, G, by go_num, HIN.out, Nat.le_refl _, Hid.of (fun x hx => by have := HT.out x hx; omega), H, K, HZG⟩
    · obtain rfl : i = N := by omega
      have HLE : Hid (∀ x ∈ T, x.length ≤ 1000) := Hid.of (fun x hx => by have := HT.out x hx; omega)
      have GD := Hid.of (S.good H.out.rep)
      have FIT := Hid.of (S.fit H.out.rep)
      obtain ⟨r, hr⟩ : ∃ r : RchL, (nw, (pn, pt), []) = r := ⟨_, rfl⟩
      rw [hr] at H GD FIT
      have HRR := Hid.of hr
      clear HT HZG HZL hr
      have hask := S.ask nm fr to_ (H.out.ok OK.out) H.out.rep HLE.out (by omega) HFR.out HTO.out
      have KL : Hid (z < wr.heap.size) := Hid.of (Array.getElem?_eq_some_iff.1 K.out).1
      by_cases hae : iAskE nm fr to_ = 0
      case neg =>
        have he1 : iAskE nm fr to_ = 1 := by
          unfold iAskE at hae ⊢
          split
          · rfl
          · rename_i hc
            rw [if_neg hc] at hae
            exact absurd rfl hae
        rw [he1] at hask hae
        go_wp2_with fail
        refine hask.mono ?_
        rintro e w5 ⟨u, -, h2, b5⟩
        obtain ⟨rfl, o5⟩ := h2 hae
        obtain ⟨ua, uc, rfl, -⟩ := own_one o5
        have B5 := Hid.of (H.out.fr.trans (b5.mono H.out.hB))
        clear b5 hask o5 h2 he1 hae
        have B6 : Hid (Below w.heap.size w (w5.alloc (.cells #[.int .i64 0, .slice ua 0 uc] 40))) := Hid.of (B5.out.alloc B5.out.size _)
        obtain ⟨w6, hw6⟩ : ∃ w6, w5.alloc (.cells #[.int .i64 0, .slice ua 0 uc] 40) = w6 := ⟨_, rfl⟩
        rw [hw6] at B6
        have HW6 := Hid.of hw6
        clear hw6
        go_upto_region 14 with fail
        rw [HW6.out]
        clear HW6
        go_wp2_with fail
        refine (tiersAlive_any S _ (S.okKept OK.out B6.out)).mono ?_
        rintro e w9 ⟨rfl, b9⟩
        have B9 := Hid.of (B6.out.trans (b9.mono B6.out.size))
        go_wp2
        go_ret
        exact ⟨rfl, B9.out⟩
      obtain ⟨c, hc, hcl, -⟩ := cover_some (r := r) fr (by have := GD.out.pos'; rw [GD.out.len] at this; exact this)
      have hcT : c < T.length := by rw [GD.out.len]; exact hcl
      obtain ⟨tl, hT⟩ : ∃ l, T[c]? = some l := ⟨_, List.getElem?_eq_getElem hcT⟩
      obtain ⟨tt, htt, hev, het⟩ := GD.out.tier hT
      have htab : ∀ i : Nat, iTab T (i : Int) = (T[i]?).getD [] := fun i => by
        unfold iTab
        rw [if_neg (by omega), show ((i : Int).toNat) = i by omega, List.getD_eq_getElem?_getD]
      rw [hc, htab, hT, Option.getD_some] at hask
      have MD := Hid.of (GD.out.made c tl hT)
      have HTL := Hid.of hT
      have HC := Hid.of hc
      have HTAB := Hid.of htab
      have HPT : Hid (pt[c]? = some tt) := Hid.of (by rw [← HRR.out] at htt; exact htt)
      have HCP : Hid (c < PN) := Hid.of (by rw [← HPN.out]; exact (List.getElem?_eq_some_iff.1 HPT.out).1)
      have MO : Hid (∀ x ∈ tl, 0 ≤ x.s ∧ x.s.tmod tt.2.1 = 0) := Hid.of (fun x hx => made_on (by rw [← hev]; exact MD.out) hx)
      have HET := Hid.of het
      have HAE := Hid.of hae
      clear hc hcl hcT hT htt hev htab het hae
      obtain ⟨tn, ev, tk, tsh⟩ := tt
      simp only at MO HET
      go_wp2_with fail
      refine hask.mono ?_
      rintro e w5 ⟨u, h1, -, b5⟩
      obtain ⟨rfl, o5⟩ := h1 HAE.out
      obtain ⟨ua, uc, rfl, -⟩ := own_one o5
      obtain ⟨L, hL⟩ : ∃ L, tRange tl nm fr to_ = L := ⟨_, rfl⟩
      obtain ⟨M, hM⟩ : ∃ M, L.length = M := ⟨_, rfl⟩
      rw [hL, hM] at o5
      have e9 : (tRange tl nm fr to_).length = M := by rw [hL]; exact hM
      rw [e9]
      have HLL := Hid.of hL
      have HM := Hid.of hM
      have hM1 : M ≤ 1000 := by
        rw [← e9]
        exact Nat.le_trans (List.length_filter_le ..) (HLE.out tl (List.mem_of_getElem? HTL.out))
      have H5 := Hid.of (H.out.next b5)
      have K5 := Hid.of (K.out.kept b5)
      have U5 := Hid.of (own_row o5)
      clear b5 hask o5 h1 hL hM e9 H K
      obtain ⟨y, hy⟩ : ∃ y, w5.heap.size = y := ⟨_, rfl⟩
      obtain ⟨w6, hw6⟩ : ∃ w6, w5.alloc (.cells #[.int .i64 c, .slice ua M uc] 40) = w6 := ⟨_, rfl⟩
      obtain ⟨k0, k1⟩ := K5.out.at
      have hzl : z < w5.heap.size := (Array.getElem?_eq_some_iff.1 K5.out).1
      have CS6 : Hid (Cs w6 [(⟨y, 0, none⟩, .int .i64 c), (⟨y, 1, none⟩, .slice ua M uc), (⟨z, 0, none⟩, .string pn), (⟨z, 1, none⟩, .slice psa PN psc)]) := Hid.of (by rw [← hw6, ← hy]; exact ans_cs w5 _ _ (.cons hzl k0 (.cons hzl k1 (.nil _))))
      have b6 : Below w5.heap.size w5 w6 := by rw [← hw6]; exact (Below.refl _ _).alloc (Nat.le_refl _) _
      have H6 := Hid.of (H5.out.next b6)
      have U6 := Hid.of (U5.out.kept b6)
      have HW6 := Hid.of hw6
      have HY := Hid.of hy
      clear hw6 hy b6 k0 k1 hzl H5 K5 U5
      go_upto_region 14 with fail
      rw [HW6.out, HY.out]
      clear HW6 HY
      have d1 := CS6.out.tail.head
      go_wp2
      clear d1
      go_loopg [20, 21] M (fun kx iv _ wr => ∃ j : Nat, iv = .int .i64 j ∧ j ≤ M ∧ M - j ≤ kx ∧ Hid (Below w6.heap.size w6 wr))
      case atStart => exact ⟨0, rfl, Nat.zero_le _, Nat.le_refl _, Hid.of (Below.refl _ _)⟩
      case round =>
        obtain ⟨j, rfl, hj, hk, HB⟩ := hrel
        have j0 : (0 : Int) ≤ (j : Int) := Int.natCast_nonneg _
        have CSQ := Hid.of (CS6.out.next HB.out)
        have d0 := CSQ.out.head
        have d1 := CSQ.out.tail.head
        have d3 := CSQ.out.tail.tail.tail.head
        by_cases hlt2 : (j : Int) < (M : Int)
        · obtain ⟨x, hx⟩ : ∃ x, L[j]? = some x := ⟨_, List.getElem?_eq_getElem (by have := HM.out; omega)⟩
          have hmem : x ∈ tRange tl nm fr to_ := by rw [HLL.out]; exact List.mem_of_getElem? hx
          obtain ⟨m1, m2, m3, m4⟩ := tRange_mem hmem
          obtain ⟨m5, m6⟩ := MO.out x m1
          obtain ⟨b1, o1, rfl, g1, x0, x1, x2, x3, x4, x5, x6⟩ := r_at (U6.out.kept HB.out) j (rl x) (by rw [List.getElem?_map, hx]; rfl)
          have HX := Hid.of hx
          have HJ : Hid (j < M) := Hid.of (by omega)
          obtain ⟨b2, o2, rfl, g2, t0, t1, t2, t3⟩ := p_at (HPS.out.kept (H6.out.fr.trans (HB.out.mono H6.out.hB))) c _ HPT.out
          obtain ⟨xn, xs, a⟩ := x
          simp only at m2 m3 m4 m5 m6
          subst m2
          unfold rl at x0 x1 x2 x3 x4 x5 x6
          simp only at x0 x1 x2 x3 x4 x5 x6 t0 t1 t2 t3
          obtain ⟨v, hv⟩ : ∃ v, wr.heap.size = v := ⟨_, rfl⟩
          obtain ⟨w7, hw7⟩ : ∃ w7, wr.alloc (.cells #[.string xn, .int .i64 xs, .int .i64 a.c, .int .i64 a.hi, .int .u64 a.lo, .int .i64 a.mn, .int .i64 a.mx] 47) = w7 := ⟨_, rfl⟩
          have b7 : Below wr.heap.size wr w7 := by rw [← hw7]; exact (Below.refl _ _).alloc (Nat.le_refl _) _
          have z7 : w7.heap[v]? = some (.cells #[.string xn, .int .i64 xs, .int .i64 a.c, .int .i64 a.hi, .int .u64 a.lo, .int .i64 a.mn, .int .i64 a.mx] 47 (0, 0)) := by rw [← hw7, ← hv]; exact (MapKept.heap_alloc wr _).1
          have B7 := Hid.of (HB.out.trans (b7.mono HB.out.size))
          have HW7 := Hid.of hw7
          have HV := Hid.of hv
          have y0 : w7.cell? ⟨y, 0, none⟩ = some (.int .i64 c) := (CSQ.out.next b7).head
          have y1 : w7.cell? ⟨y, 1, none⟩ = some (.slice (some ⟨b1, o1, none⟩) M uc) := (CSQ.out.next b7).tail.head
          have y3 : w7.cell? ⟨z, 1, none⟩ = some (.slice (some ⟨b2, o2, none⟩) PN psc) := (CSQ.out.next b7).tail.tail.tail.head
          have v0 : w7.cell? ⟨v, 0, none⟩ = some (.string xn) := by rw [cell_of_row _ _ _ _ _ _ z7]; rfl
          have v1 : w7.cell? ⟨v, 1, none⟩ = some (.int .i64 xs) := by rw [cell_of_row _ _ _ _ _ _ z7]; rfl
          have s1 : w7.cell? ⟨b2, o2 + c * 4 + 1, none⟩ = some (.int .i64 ev) := (World.cell?_of_block (a := ⟨b2, o2 + c * 4 + 1, none⟩) (b7.block b2 g2)).trans t1
          have c0 : (0 : Int) ≤ (c : Int) := Int.natCast_nonneg _
          have cP : (c : Int) < (PN : Int) := by have := HCP.out; omega
          have f1 : decide (xs < fr) = false := decide_eq_false (by omega)
          have f2 : decide (xs ≥ to_) = false := decide_eq_false (by omega)
          have f2b : decide (to_ ≤ xs) = false := decide_eq_false (by omega)
          have ev1 : 1 ≤ ev := HET.out
          have ev0 : ¬ ev = 0 := by omega
          have f3 : (xs.tmod ev != 0) = false := by rw [m6]; rfl
          have f4 : xs % ev = 0 := by rw [← Int.tmod_eq_emod_of_nonneg m5]; exact m6
          have f5 : (xs % ev != 0) = false := by rw [f4]; rfl
          have GAP := Hid.of g1
          clear hx g1 g2 t0 t1 t2 t3 hw7 hv z7 d0 d3 hmem m1 f4
          by_cases hj1 : j = 0
          · have p1 : decide ((j : Int) > 0) = false := decide_eq_false (by omega)
            have p2 : decide (0 < (j : Int)) = false := decide_eq_false (by omega)
            have p3 : decide (0 < j) = false := decide_eq_false (by omega)
            clear hj1
            go_upto_region 20 with fail
            rw [HW7.out, HV.out]
            clear HW7 HV x0 x1 x2 x3 x4 x5 x6 d1
            go_quiet (fail)
            go_wp2
            go_roundg (M - (j + 1))
            case measure => have := HJ.out; omega
            case rel => exact ⟨j + 1, by go_num, HJ.out, Nat.le_refl _, Hid.of (B7.out.trans ((below_drewN (Below.refl _ _) _).mono B7.out.size))⟩
          · obtain ⟨i, rfl⟩ : ∃ i, j = i + 1 := ⟨j - 1, by omega⟩
            obtain ⟨q, hq⟩ : ∃ q, L[i]? = some q := ⟨_, List.getElem?_eq_getElem (by have := HM.out; have := HJ.out; omega)⟩
            have hr := tRange_rise MD.out.so xn fr to_
            rw [HLL.out] at hr
            have hlt3 := List.pairwise_iff_getElem.1 hr i (i + 1) (List.getElem?_eq_some_iff.1 hq).1 (List.getElem?_eq_some_iff.1 HX.out).1 (Nat.lt_succ_self _)
            rw [(List.getElem?_eq_some_iff.1 hq).2, (List.getElem?_eq_some_iff.1 HX.out).2] at hlt3
            obtain ⟨bq, oq, hbo, gq, q0, q1, -⟩ := r_at (U6.out.kept B7.out) i (rl q) (by rw [List.getElem?_map, hq]; rfl)
            obtain ⟨rfl, rfl⟩ : bq = b1 ∧ oq = o1 := by
              have := Option.some.inj hbo
              simp only [Addr.mk.injEq] at this
              exact ⟨this.1.symm, this.2.1.symm⟩
            obtain ⟨qn, qs', qa⟩ := q
            unfold rl at q1
            simp only at q1 hlt3
            have p1 : decide (((i + 1 : Nat) : Int) > 0) = true := decide_eq_true (by omega)
            have p2 : decide (0 < ((i + 1 : Nat) : Int)) = true := decide_eq_true (by omega)
            have p3 : IntKind.i64.wrap (((i + 1 : Nat) : Int) - 1) = (i : Int) := by rw [IntKind.wrap_i64]; omega
            have p4 : decide (xs ≤ qs') = false := decide_eq_false (by omega)
            have i0 : (0 : Int) ≤ (i : Int) := by omega
            have i1 : (i : Int) < (M : Int) := by omega
            clear hr hq hbo gq q0 hj1
            go_upto_region 20 with fail
            rw [HW7.out, HV.out]
            clear HW7 HV x0 x1 x2 x3 x4 x5 x6 d1
            go_quiet (fail)
            go_wp2
            go_roundg (M - (i + 1 + 1))
            case measure => have := HJ.out; omega
            case rel => exact ⟨i + 1 + 1, by go_num, HJ.out, Nat.le_refl _, Hid.of (B7.out.trans ((below_drewN (Below.refl _ _) _).mono B7.out.size))⟩
        · obtain rfl : j = M := by omega
          clear d0 d3 hlt2
          have H7 := Hid.of (H6.out.next HB.out)
          have U7 := Hid.of (U6.out.kept HB.out)
          clear H6 U6 HB CS6
          have E2 : iAskE nm fr mid = 0 := by
            have h := HAE.out
            unfold iAskE at h ⊢
            split at h
            · cases h
            · rename_i hc
              rw [if_neg (by simp only [not_or] at hc ⊢; exact ⟨hc.1, hc.2.1, by omega⟩)]
          have E3 : iAskE nm mid to_ = 0 := by
            have h := HAE.out
            unfold iAskE at h ⊢
            split at h
            · cases h
            · rename_i hc
              rw [if_neg (by simp only [not_or] at hc ⊢; exact ⟨hc.1, by omega, by omega⟩)]
          have EB := Hid.of E2
          have EC := Hid.of E3
          clear E2 E3
          have ask2 := S.ask nm fr mid (H7.out.ok OK.out) H7.out.rep HLE.out (by omega) HFR.out HMI.out
          rw [HC.out, HTAB.out, HTL.out, Option.getD_some] at ask2
          go_wp2_with fail
          refine ask2.mono ?_
          rintro e w8 ⟨u, h1, -, b8⟩
          obtain ⟨rfl, o8⟩ := h1 EB.out
          obtain ⟨ub, uc2, rfl, -⟩ := own_one o8
          obtain ⟨Lb, hLb⟩ : ∃ L, tRange tl nm fr mid = L := ⟨_, rfl⟩
          obtain ⟨Mb, hMb⟩ : ∃ M, Lb.length = M := ⟨_, rfl⟩
          rw [hLb, hMb] at o8
          rw [hLb, hMb]
          have hMb1 : Mb ≤ 1000 := by rw [← hMb, ← hLb]; exact Nat.le_trans (List.length_filter_le ..) (HLE.out tl (List.mem_of_getElem? HTL.out))
          have HLB := Hid.of hLb
          have HMB := Hid.of hMb
          have H8 := Hid.of (H7.out.next b8)
          have U8 := Hid.of (U7.out.kept b8)
          have V8 := Hid.of (own_row o8)
          have CS8 := Hid.of (CSQ.out.next b8)
          clear b8 ask2 o8 h1 hLb hMb H7 U7 CSQ d1
          obtain ⟨yb, hyb⟩ : ∃ y, w8.heap.size = y := ⟨_, rfl⟩
          obtain ⟨w9, hw9⟩ : ∃ w9, w8.alloc (.cells #[.int .i64 c, .slice ub Mb uc2] 40) = w9 := ⟨_, rfl⟩
          have CS9 : Hid (Cs w9 ((⟨yb, 0, none⟩, .int .i64 c) :: (⟨yb, 1, none⟩, .slice ub Mb uc2) :: _)) := Hid.of (by rw [← hw9, ← hyb]; exact ans_cs w8 _ _ CS8.out)
          have b9 : Below w8.heap.size w8 w9 := by rw [← hw9]; exact (Below.refl _ _).alloc (Nat.le_refl _) _
          have H9 := Hid.of (H8.out.next b9)
          have U9 := Hid.of (U8.out.kept b9)
          have V9 := Hid.of (V8.out.kept b9)
          have HW9 := Hid.of hw9
          have HYB := Hid.of hyb
          clear hw9 hyb b9 H8 U8 V8 CS8
          go_upto_region 23 with fail
          rw [HW9.out, HYB.out]
          clear HW9 HYB
          obtain ⟨c2, hc2, hcl2, -⟩ := cover_some (r := r) mid (by have := GD.out.pos'; rw [GD.out.len] at this; exact this)
          obtain ⟨tl2, hT2⟩ : ∃ l, T[c2]? = some l := ⟨_, List.getElem?_eq_getElem (by rw [GD.out.len]; exact hcl2)⟩
          have ask3 := S.ask nm mid to_ (H9.out.ok OK.out) H9.out.rep HLE.out (by omega) HMI.out HTO.out
          rw [hc2, HTAB.out, hT2, Option.getD_some] at ask3
          have HT2 := Hid.of hT2
          clear hc2 hcl2 hT2
          go_wp2_with fail
          refine ask3.mono ?_
          rintro e w10 ⟨u, h1, -, b10⟩
          obtain ⟨rfl, o10⟩ := h1 EC.out
          obtain ⟨ud, uc3, rfl, -⟩ := own_one o10
          obtain ⟨Lc, hLc⟩ : ∃ L, tRange tl2 nm mid to_ = L := ⟨_, rfl⟩
          obtain ⟨Mc, hMc⟩ : ∃ M, Lc.length = M := ⟨_, rfl⟩
          rw [hLc, hMc] at o10
          rw [hLc, hMc]
          have hMc1 : Mc ≤ 1000 := by rw [← hMc, ← hLc]; exact Nat.le_trans (List.length_filter_le ..) (HLE.out tl2 (List.mem_of_getElem? HT2.out))
          have HLC := Hid.of hLc
          have HMC := Hid.of hMc
          have H10 := Hid.of (H9.out.next b10)
          have U10 := Hid.of (U9.out.kept b10)
          have V10 := Hid.of (V9.out.kept b10)
          have X10 := Hid.of (own_row o10)
          have CS10 := Hid.of (CS9.out.next b10)
          clear b10 ask3 o10 h1 hLc hMc H9 U9 V9 CS9
          obtain ⟨yc, hyc⟩ : ∃ y, w10.heap.size = y := ⟨_, rfl⟩
          obtain ⟨w11, hw11⟩ : ∃ w11, w10.alloc (.cells #[.int .i64 c2, .slice ud Mc uc3] 40) = w11 := ⟨_, rfl⟩
          have CS11 : Hid (Cs w11 ((⟨yc, 0, none⟩, .int .i64 c2) :: (⟨yc, 1, none⟩, .slice ud Mc uc3) :: _)) := Hid.of (by rw [← hw11, ← hyc]; exact ans_cs w10 _ _ CS10.out)
          have b11 : Below w10.heap.size w10 w11 := by rw [← hw11]; exact (Below.refl _ _).alloc (Nat.le_refl _) _
          have H11 := Hid.of (H10.out.next b11)
          have U11 := Hid.of (U10.out.kept b11)
          have V11 := Hid.of (V10.out.kept b11)
          have X11 := Hid.of (X10.out.kept b11)
          have HW11 := Hid.of hw11
          have HYC := Hid.of hyc
          clear hw11 hyc b11 H10 U10 V10 X10 CS10
          go_upto_region 24 with fail
          rw [HW11.out, HYC.out]
          clear HW11 HYC
          obtain ⟨sq, fq, c0, c1, c2', c3, RR⟩ := S.cells H11.out.rep
          have hpl : p < w11.heap.size := cell_lt c0
          have RRH := Hid.of RR
          have CSW : Hid (Cs w11 [(⟨p, 0, none⟩, .int .i64 r.1), (⟨p, 1, none⟩, .string r.2.1.1), (⟨p, 2, none⟩, sq), (⟨p, 3, none⟩, fq), (⟨y, 0, none⟩, .int .i64 c), (⟨y, 1, none⟩, .slice ua j uc), (⟨yb, 0, none⟩, .int .i64 c), (⟨yb, 1, none⟩, .slice ub Mb uc2), (⟨yc, 0, none⟩, .int .i64 c2), (⟨yc, 1, none⟩, .slice ud Mc uc3)]) := Hid.of (by
            have k := CS11.out
            have k2 := k.tail.tail
            have k4 := k2.tail.tail
            exact .cons hpl c0 (.cons hpl c1 (.cons hpl c2' (.cons hpl c3 (.cons (k4 _ (List.mem_cons_self ..)).1 k4.head (.cons (k4.tail _ (List.mem_cons_self ..)).1 k4.tail.head (.cons (k2 _ (List.mem_cons_self ..)).1 k2.head (.cons (k2.tail _ (List.mem_cons_self ..)).1 k2.tail.head (.cons (k _ (List.mem_cons_self ..)).1 k.head (.cons (k.tail _ (List.mem_cons_self ..)).1 k.tail.head (.nil _)))))))))))
          clear c0 c1 c2' c3 hpl RR CS11
          have bd := (Below.refl w11.heap.size w11).drew
          have H12 := Hid.of (H11.out.next bd)
          have U12 := Hid.of (U11.out.kept bd)
          have V12 := Hid.of (V11.out.kept bd)
          have X12 := Hid.of (X11.out.kept bd)
          have CS12 := Hid.of (CSW.out.next bd)
          have RR12 := Hid.of (RRH.out.kept bd)
          clear bd H11 U11 V11 X11 RRH
          have d0 := (CSW.out).head
          have d1 := ((CSW.out).tail).head
          have d2 := (((CSW.out).tail).tail).head
          have d3 := ((((CSW.out).tail).tail).tail).head
          have d4 := (((((CSW.out).tail).tail).tail).tail).head
          have d5 := ((((((CSW.out).tail).tail).tail).tail).tail).head
          have d6 := (((((((CSW.out).tail).tail).tail).tail).tail).tail).head
          have d7 := ((((((((CSW.out).tail).tail).tail).tail).tail).tail).tail).head
          have d8 := (((((((((CSW.out).tail).tail).tail).tail).tail).tail).tail).tail).head
          have d9 := ((((((((((CSW.out).tail).tail).tail).tail).tail).tail).tail).tail).tail).head
          refine wp_region_noPanic ?_
          refine wp_region_held_drew (S := fun w' => w'.cell? ⟨p, 0, none⟩ = some (.int .i64 r.1) ∧ w'.cell? ⟨p, 1, none⟩ = some (.string r.2.1.1) ∧ w'.cell? ⟨p, 2, none⟩ = some (sq) ∧ w'.cell? ⟨p, 3, none⟩ = some (fq) ∧ w'.cell? ⟨y, 0, none⟩ = some (.int .i64 c) ∧ w'.cell? ⟨y, 1, none⟩ = some (.slice ua j uc) ∧ w'.cell? ⟨yb, 0, none⟩ = some (.int .i64 c) ∧ w'.cell? ⟨yb, 1, none⟩ = some (.slice ub Mb uc2) ∧ w'.cell? ⟨yc, 0, none⟩ = some (.int .i64 c2) ∧ w'.cell? ⟨yc, 1, none⟩ = some (.slice ud Mc uc3)) (by kernel_rfl) ?_ (fun hHeld => ?_)
          · exact ⟨d0, d1, d2, d3, d4, d5, d6, d7, d8, d9⟩
          refine wpAnyH_ready (rs := [0]) (by kernel_rfl) (by simp) ?_
          refine AllReadyH.cons (o := ⟨_, _, _, _, _, _⟩) rfl (fun K hK => ?_) AllReadyH.nil
          go_simp
          refine (tiersAlive_any S _ (S.okKept OK.out H12.out.fr)).mono ?_
          rintro e w13 ⟨rfl, b13⟩
          have RR13 := Hid.of (RR12.out.kept b13)
          have H13 := Hid.of (H12.out.next b13)
          have U13 := Hid.of (U12.out.kept b13)
          have V13 := Hid.of (V12.out.kept b13)
          have X13 := Hid.of (X12.out.kept b13)
          have CS13 := Hid.of (CS12.out.next b13)
          clear b13 H12 U12 V12 X12 CS12
          clear hHeld d0 d1 d2 d3 d4 d5 d6 d7 d8 d9
          have d0 := (CS13.out).head
          have d1 := ((CS13.out).tail).head
          have d2 := (((CS13.out).tail).tail).head
          have d3 := ((((CS13.out).tail).tail).tail).head
          have d4 := (((((CS13.out).tail).tail).tail).tail).head
          have d5 := ((((((CS13.out).tail).tail).tail).tail).tail).head
          have d6 := (((((((CS13.out).tail).tail).tail).tail).tail).tail).head
          have d7 := ((((((((CS13.out).tail).tail).tail).tail).tail).tail).tail).head
          have d8 := (((((((((CS13.out).tail).tail).tail).tail).tail).tail).tail).tail).head
          have d9 := ((((((((((CS13.out).tail).tail).tail).tail).tail).tail).tail).tail).tail).head
          refine hK.out _ _ ⟨d0, d1, d2, d3, d4, d5, d6, d7, d8, d9⟩ (fun hHeld => ?_)
          clear hK K
          try simp only [Act.put, List.setIfInBounds_toArray, List.set_cons_zero, List.set_cons_succ]
          refine wpAnyH_take (i := 1) (oi := ⟨_, _, _, _, _, _⟩) (v := ?_) rfl (by kernel_rfl) (by kernel_rfl) (by kernel_rfl) (fun _ _ _ h => h) (Or.inl ⟨by rfl, ?_⟩) hHeld ?_
          rotate_left
          · intro w' hSw
            try dsimp only at hSw
            go_simp
            all_goals with_reducible rfl
          simp only [Act.put, List.setIfInBounds_toArray, List.set_cons_zero, List.set_cons_succ]
          refine wpAnyH_take (i := 2) (oi := ⟨_, _, _, _, _, _⟩) (v := ?_) rfl (by kernel_rfl) (by kernel_rfl) (by kernel_rfl) (fun _ _ _ h => h) (Or.inl ⟨by rfl, ?_⟩) hHeld ?_
          rotate_left
          · intro w' hSw
            try dsimp only at hSw
            go_simp
            all_goals with_reducible rfl
          simp only [Act.put, List.setIfInBounds_toArray, List.set_cons_zero, List.set_cons_succ]
          refine wpAnyH_take (i := 3) (oi := ⟨_, _, _, _, _, _⟩) (v := ?_) rfl (by kernel_rfl) (by kernel_rfl) (by kernel_rfl) (fun _ _ _ h => h) (Or.inl ⟨by rfl, ?_⟩) hHeld ?_
          rotate_left
          · intro w' hSw
            try dsimp only at hSw
            go_simp
            all_goals with_reducible rfl
          simp only [Act.put, List.setIfInBounds_toArray, List.set_cons_zero, List.set_cons_succ]
          refine wpAnyH_take (i := 4) (oi := ⟨_, _, _, _, _, _⟩) (v := ?_) rfl (by kernel_rfl) (by kernel_rfl) (by kernel_rfl) (fun _ _ _ h => h) (Or.inl ⟨by rfl, ?_⟩) hHeld ?_
          rotate_left
          · intro w' hSw
            try dsimp only at hSw
            go_simp
            all_goals with_reducible rfl
          simp only [Act.put, List.setIfInBounds_toArray, List.set_cons_zero, List.set_cons_succ]
          refine wpAnyH_take (i := 5) (oi := ⟨_, _, _, _, _, _⟩) (v := ?_) rfl (by kernel_rfl) (by kernel_rfl) (by kernel_rfl) (fun _ _ _ h => h) (Or.inl ⟨by rfl, ?_⟩) hHeld ?_
          rotate_left
          · intro w' hSw
            try dsimp only at hSw
            go_simp
            all_goals with_reducible rfl
          simp only [Act.put, List.setIfInBounds_toArray, List.set_cons_zero, List.set_cons_succ]
          refine wpAnyH_take (i := 6) (oi := ⟨_, _, _, _, _, _⟩) (v := ?_) rfl (by kernel_rfl) (by kernel_rfl) (by kernel_rfl) (fun _ _ _ h => h) (Or.inl ⟨by rfl, ?_⟩) hHeld ?_
          rotate_left
          · intro w' hSw
            try dsimp only at hSw
            go_simp
            all_goals with_reducible rfl
          simp only [Act.put, List.setIfInBounds_toArray, List.set_cons_zero, List.set_cons_succ]
          refine wpAnyH_take (i := 7) (oi := ⟨_, _, _, _, _, _⟩) (v := ?_) rfl (by kernel_rfl) (by kernel_rfl) (by kernel_rfl) (fun _ _ _ h => h) (Or.inl ⟨by rfl, ?_⟩) hHeld ?_
          rotate_left
          · intro w' hSw
            try dsimp only at hSw
            go_simp
            all_goals with_reducible rfl
          simp only [Act.put, List.setIfInBounds_toArray, List.set_cons_zero, List.set_cons_succ]
          refine wpAnyH_take (i := 8) (oi := ⟨_, _, _, _, _, _⟩) (v := ?_) rfl (by kernel_rfl) (by kernel_rfl) (by kernel_rfl) (fun _ _ _ h => h) (Or.inl ⟨by rfl, ?_⟩) hHeld ?_
          rotate_left
          · intro w' hSw
            try dsimp only at hSw
            go_simp
            all_goals with_reducible rfl
          simp only [Act.put, List.setIfInBounds_toArray, List.set_cons_zero, List.set_cons_succ]
          refine wpAnyH_ready (rs := [9]) (by kernel_rfl) (by simp) ?_
          refine AllReadyH.cons (o := ⟨_, _, _, _, _, _⟩) rfl (fun K hK => ?_) AllReadyH.nil
          go_simp
          refine (reaches.cover (.agg #[.int .i64 r.1, .string r.2.1.1, sq, fq]) r fr _ trivial FIT.out HFR.out RR13.out).mono ?_
          rintro e w14 ⟨rfl, b14⟩
          rw [HC.out]
          have H14 := Hid.of (H13.out.next b14)
          have U14 := Hid.of (U13.out.kept b14)
          have V14 := Hid.of (V13.out.kept b14)
          have X14 := Hid.of (X13.out.kept b14)
          have CS14 := Hid.of (CS13.out.next b14)
          clear b14 H13 U13 V13 X13 CS13
          clear hHeld d0 d1 d2 d3 d4 d5 d6 d7 d8 d9
          have d0 := (CS14.out).head
          have d1 := ((CS14.out).tail).head
          have d2 := (((CS14.out).tail).tail).head
          have d3 := ((((CS14.out).tail).tail).tail).head
          have d4 := (((((CS14.out).tail).tail).tail).tail).head
          have d5 := ((((((CS14.out).tail).tail).tail).tail).tail).head
          have d6 := (((((((CS14.out).tail).tail).tail).tail).tail).tail).head
          have d7 := ((((((((CS14.out).tail).tail).tail).tail).tail).tail).tail).head
          have d8 := (((((((((CS14.out).tail).tail).tail).tail).tail).tail).tail).tail).head
          have d9 := ((((((((((CS14.out).tail).tail).tail).tail).tail).tail).tail).tail).tail).head
          refine hK.out _ _ ⟨d0, d1, d2, d3, d4, d5, d6, d7, d8, d9⟩ (fun hHeld => ?_)
          clear hK K
          try simp only [Act.put, List.setIfInBounds_toArray, List.set_cons_zero, List.set_cons_succ]
          refine wpAnyH_take (i := 10) (oi := ⟨_, _, _, _, _, _⟩) (v := ?_) rfl (by kernel_rfl) (by kernel_rfl) (by kernel_rfl) (fun _ _ _ h => h) (Or.inl ⟨by rfl, ?_⟩) hHeld ?_
          rotate_left
          · intro w' hSw
            try dsimp only at hSw
            go_simp
            all_goals with_reducible rfl
          simp only [Act.put, List.setIfInBounds_toArray, List.set_cons_zero, List.set_cons_succ]
          refine wpAnyH_take (i := 11) (oi := ⟨_, _, _, _, _, _⟩) (v := ?_) rfl (by kernel_rfl) (by kernel_rfl) (by kernel_rfl) (fun _ _ _ h => h) (Or.inl ⟨by rfl, ?_⟩) hHeld ?_
          rotate_left
          · intro w' hSw
            try dsimp only at hSw
            go_simp
            all_goals with_reducible rfl
          simp only [Act.put, List.setIfInBounds_toArray, List.set_cons_zero, List.set_cons_succ]
          refine wpAnyH_take (i := 12) (oi := ⟨_, _, _, _, _, _⟩) (v := ?_) rfl (by kernel_rfl) (by kernel_rfl) (by kernel_rfl) (fun _ _ _ h => h) (Or.inl ⟨by rfl, ?_⟩) hHeld ?_
          rotate_left
          · intro w' hSw
            try dsimp only at hSw
            go_simp
            all_goals with_reducible rfl
          simp only [Act.put, List.setIfInBounds_toArray, List.set_cons_zero, List.set_cons_succ]
          refine wpAnyH_take (i := 13) (oi := ⟨_, _, _, _, _, _⟩) (v := ?_) rfl (by kernel_rfl) (by kernel_rfl) (by kernel_rfl) (fun _ _ _ h => h) (Or.inl ⟨by rfl, ?_⟩) hHeld ?_
          rotate_left
          · intro w' hSw
            try dsimp only at hSw
            go_simp
            all_goals with_reducible rfl
          simp only [Act.put, List.setIfInBounds_toArray, List.set_cons_zero, List.set_cons_succ]
          refine wpAnyH_take (i := 14) (oi := ⟨_, _, _, _, _, _⟩) (v := ?_) rfl (by kernel_rfl) (by kernel_rfl) (by kernel_rfl) (fun _ _ _ h => h) (Or.inl ⟨by rfl, ?_⟩) hHeld ?_
          rotate_left
          · intro w' hSw
            try dsimp only at hSw
            go_simp
            all_goals with_reducible rfl
          simp only [Act.put, List.setIfInBounds_toArray, List.set_cons_zero, List.set_cons_succ]
          refine wpAnyH_take (i := 15) (oi := ⟨_, _, _, _, _, _⟩) (v := ?_) rfl (by kernel_rfl) (by kernel_rfl) (by kernel_rfl) (fun _ _ _ h => h) (Or.inl ⟨by rfl, ?_⟩) hHeld ?_
          rotate_left
          · intro w' hSw
            try dsimp only at hSw
            go_simp
            all_goals with_reducible rfl
          simp only [Act.put, List.setIfInBounds_toArray, List.set_cons_zero, List.set_cons_succ]
          refine wpAnyH_take (i := 16) (oi := ⟨_, _, _, _, _, _⟩) (v := ?_) rfl (by kernel_rfl) (by kernel_rfl) (by kernel_rfl) (fun _ _ _ h => h) (Or.inl ⟨by rfl, ?_⟩) hHeld ?_
          rotate_left
          · intro w' hSw
            try dsimp only at hSw
            go_simp
            all_goals with_reducible rfl
          simp only [Act.put, List.setIfInBounds_toArray, List.set_cons_zero, List.set_cons_succ]
          by_cases hcc : c = c2
          · obtain rfl := hcc
            refine wpAnyH_take (i := 17) (oi := ⟨_, _, _, _, _, _⟩) (v := ?_) rfl (by kernel_rfl) (by kernel_rfl) (by kernel_rfl) (fun _ _ _ h => h) (Or.inl ⟨by rfl, ?_⟩) hHeld ?_
            rotate_left
            · intro w' hSw
              try dsimp only at hSw
              go_simp
              all_goals with_reducible rfl
            simp only [Act.put, List.setIfInBounds_toArray, List.set_cons_zero, List.set_cons_succ]
            refine wpAnyH_take (i := 18) (oi := ⟨_, _, _, _, _, _⟩) (v := ?_) rfl (by kernel_rfl) (by kernel_rfl) (by kernel_rfl) (fun _ _ _ h => h) (Or.inl ⟨by rfl, ?_⟩) hHeld ?_
            rotate_left
            · intro w' hSw
              try dsimp only at hSw
              go_simp
              all_goals with_reducible rfl
            simp only [Act.put, List.setIfInBounds_toArray, List.set_cons_zero, List.set_cons_succ]
            refine wpAnyH_take (i := 19) (oi := ⟨_, _, _, _, _, _⟩) (v := ?_) rfl (by kernel_rfl) (by kernel_rfl) (by kernel_rfl) (fun _ _ _ h => h) (Or.inl ⟨by rfl, ?_⟩) hHeld ?_
            rotate_left
            · intro w' hSw
              try dsimp only at hSw
              go_simp
              all_goals with_reducible rfl
            simp only [Act.put, List.setIfInBounds_toArray, List.set_cons_zero, List.set_cons_succ]
            refine wpAnyH_take (i := 20) (oi := ⟨_, _, _, _, _, _⟩) (v := ?_) rfl (by kernel_rfl) (by kernel_rfl) (by kernel_rfl) (fun _ _ _ h => h) (Or.inl ⟨by rfl, ?_⟩) hHeld ?_
            rotate_left
            · intro w' hSw
              try dsimp only at hSw
              go_simp
              all_goals with_reducible rfl
            simp only [Act.put, List.setIfInBounds_toArray, List.set_cons_zero, List.set_cons_succ]
            refine wpAnyH_take (i := 22) (oi := ⟨_, _, _, _, _, _⟩) (v := ?_) rfl (by kernel_rfl) (by kernel_rfl) (by kernel_rfl) (fun _ _ _ h => h) (Or.inl ⟨by rfl, ?_⟩) hHeld ?_
            rotate_left
            · intro w' hSw
              try dsimp only at hSw
              go_simp
              all_goals with_reducible rfl
            simp only [Act.put, List.setIfInBounds_toArray, List.set_cons_zero, List.set_cons_succ]
            refine wpAnyH_take (i := 23) (oi := ⟨_, _, _, _, _, _⟩) (v := ?_) rfl (by kernel_rfl) (by kernel_rfl) (by kernel_rfl) (fun _ _ _ h => h) (Or.inl ⟨by rfl, ?_⟩) hHeld ?_
            rotate_left
            · intro w' hSw
              try dsimp only at hSw
              go_simp
              all_goals with_reducible rfl
            simp only [Act.put, List.setIfInBounds_toArray, List.set_cons_zero, List.set_cons_succ]
            refine wpAnyH_take (i := 25) (oi := ⟨_, _, _, _, _, _⟩) (v := ?_) rfl (by kernel_rfl) (by kernel_rfl) (by kernel_rfl) (fun _ _ _ h => h) (Or.inl ⟨by rfl, ?_⟩) hHeld ?_
            rotate_left
            · intro w' hSw
              try dsimp only at hSw
              go_simp
              all_goals with_reducible rfl
            simp only [Act.put, List.setIfInBounds_toArray, List.set_cons_zero, List.set_cons_succ]
            refine wpAnyH_take (i := 26) (oi := ⟨_, _, _, _, _, _⟩) (v := ?_) rfl (by kernel_rfl) (by kernel_rfl) (by kernel_rfl) (fun _ _ _ h => h) (Or.inl ⟨by rfl, ?_⟩) hHeld ?_
            rotate_left
            · intro w' hSw
              try dsimp only at hSw
              go_simp
              all_goals with_reducible rfl
            simp only [Act.put, List.setIfInBounds_toArray, List.set_cons_zero, List.set_cons_succ]
            refine wpAnyH_ready (rs := [21]) (by kernel_rfl) (by simp) ?_
            refine AllReadyH.cons (o := ⟨_, _, _, _, _, _⟩) rfl (fun K hK => ?_) AllReadyH.nil
            refine step_if (by rfl) ?_
            refine step_append_any rfl (.const (.slice none 0 0)) (.tmp 203) 34 rfl w14.heap.size 47 i0 _ 7 64 Try.underlying34 HI.out HZ0.out HZ1.out HZ2.out rfl (by decide) (.slice none 0 0) 0 [] rfl (World.ownsRow_nil _ _ _ 7) (.slice ub Mb uc2) Mb (flat renc (Lb.map rl)) (by simp [Act.eval]) V14.out (by rw [flat_length renc_len, List.length_map, HMB.out]) (flat_ones renc_one _) (by unfold maxLen; omega) (by omega) (Nat.le_refl _) ?_
            intro u15 w15 o15 g15 _
            rw [Nat.zero_add, List.nil_append] at o15
            have b15 : Below w14.heap.size w14 w15 := (Below.refl _ _).grown g15 (Nat.le_refl _) (fun k hk => by cases hk)
            have B15 := Hid.of b15
            have H14' := Hid.of H14.out
            have U14' := Hid.of U14.out
            have CS14' := Hid.of CS14.out
            have O15 := Hid.of o15
            have H15 := Hid.of (H14.out.next b15)
            have U15 := Hid.of (U14.out.kept b15)
            have V15 := Hid.of (V14.out.kept b15)
            have X15 := Hid.of (X14.out.kept b15)
            have CS15 := Hid.of (CS14.out.next b15)
            clear b15 H14 U14 V14 X14 CS14
            clear o15 g15
            clear hHeld d0 d1 d2 d3 d4 d5 d6 d7 d8 d9
            have d0 := (CS15.out).head
            have d1 := ((CS15.out).tail).head
            have d2 := (((CS15.out).tail).tail).head
            have d3 := ((((CS15.out).tail).tail).tail).head
            have d4 := (((((CS15.out).tail).tail).tail).tail).head
            have d5 := ((((((CS15.out).tail).tail).tail).tail).tail).head
            have d6 := (((((((CS15.out).tail).tail).tail).tail).tail).tail).head
            have d7 := ((((((((CS15.out).tail).tail).tail).tail).tail).tail).tail).head
            have d8 := (((((((((CS15.out).tail).tail).tail).tail).tail).tail).tail).tail).head
            have d9 := ((((((((((CS15.out).tail).tail).tail).tail).tail).tail).tail).tail).tail).head
            refine hK.out _ _ ⟨d0, d1, d2, d3, d4, d5, d6, d7, d8, d9⟩ (fun hHeld => ?_)
            clear hK K
            try simp only [Act.put, List.setIfInBounds_toArray, List.set_cons_zero, List.set_cons_succ]
            refine wpAnyH_ready (rs := [24]) (by kernel_rfl) (by simp) ?_
            refine AllReadyH.cons (o := ⟨_, _, _, _, _, _⟩) rfl (fun K hK => ?_) AllReadyH.nil
            refine step_if (by rfl) ?_
            refine step_append_any rfl (.tmp 204) (.tmp 206) 34 rfl w14.heap.size 47 i0 _ 7 64 Try.underlying34 HI.out HZ0.out HZ1.out HZ2.out rfl (by decide) u15 Mb _ (by simp [Act.eval]) O15.out (.slice ud Mc uc3) Mc (flat renc (Lc.map rl)) (by simp [Act.eval]) X15.out (by rw [flat_length renc_len, List.length_map, HMC.out]) (flat_ones renc_one _) (by unfold maxLen; omega) (by omega) B15.out.size ?_
            intro u16 w16 o16 g16 _
            rw [← flat_append, ← List.map_append] at o16
            have b16 : Below w14.heap.size w14 w16 := B15.out.grown g16 B15.out.size (fun k hk => own_ge O15.out hk)
            have O16 := Hid.of o16
            have H16 : Hid (IHere S w.heap.size w w16 p r T G) := Hid.of (H14'.out.next b16)
            have U16 := Hid.of (U14'.out.kept b16)
            have CS16 := Hid.of (CS14'.out.next b16)
            clear o16 g16 b16 H15 U15 V15 X15 CS15 H14' U14' CS14'
            clear hHeld d0 d1 d2 d3 d4 d5 d6 d7 d8 d9
            have d0 := (CS16.out).head
            have d1 := ((CS16.out).tail).head
            have d2 := (((CS16.out).tail).tail).head
            have d3 := ((((CS16.out).tail).tail).tail).head
            have d4 := (((((CS16.out).tail).tail).tail).tail).head
            have d5 := ((((((CS16.out).tail).tail).tail).tail).tail).head
            have d6 := (((((((CS16.out).tail).tail).tail).tail).tail).tail).head
            have d7 := ((((((((CS16.out).tail).tail).tail).tail).tail).tail).tail).head
            have d8 := (((((((((CS16.out).tail).tail).tail).tail).tail).tail).tail).tail).head
            have d9 := ((((((((((CS16.out).tail).tail).tail).tail).tail).tail).tail).tail).tail).head
            refine hK.out _ _ ⟨d0, d1, d2, d3, d4, d5, d6, d7, d8, d9⟩ (fun hHeld => ?_)
            clear hK K
            try simp only [Act.put, List.setIfInBounds_toArray, List.set_cons_zero, List.set_cons_succ]
            refine wpAnyH_ready (rs := [27]) (by kernel_rfl) (by simp) ?_
            refine AllReadyH.cons (o := ⟨_, _, _, _, _, _⟩) rfl (fun K hK => ?_) AllReadyH.nil
            go_simp
            have hLL : Lb ++ Lc = L := by rw [← HLB.out, ← HLC.out, ← HLL.out, show tl2 = tl from Option.some.inj (HT2.out.symm.trans HTL.out)]; exact tRange_cut MD.out.so nm (by omega) (by omega)
            have hlen : Mb + Mc = j := by rw [← HMB.out, ← HMC.out, ← HM.out, ← hLL, List.length_append]
            have row16 := own_row O16.out
            rw [hLL, hlen] at row16
            have hj9 : (L.map rl).length = j := by rw [List.length_map, HM.out]
            refine (SameRecords_quiet u16 (.slice ua j uc) (L.map rl) _ (by rw [hj9]; exact row16) (by rw [hj9]; exact U16.out) (by rw [hj9]; omega)).mono ?_
            rintro e w17 ⟨rfl, kq, hw17⟩
            have b17 : Below w16.heap.size w16 w17 := by rw [hw17]; exact below_drewN (Below.refl _ _) kq
            have H17 := Hid.of (H16.out.next b17)
            have CS17 := Hid.of (CS16.out.next b17)
            clear b17 hw17 row16 hLL hlen H16 CS16 hj9
            clear hHeld d0 d1 d2 d3 d4 d5 d6 d7 d8 d9
            have d0 := (CS17.out).head
            have d1 := ((CS17.out).tail).head
            have d2 := (((CS17.out).tail).tail).head
            have d3 := ((((CS17.out).tail).tail).tail).head
            have d4 := (((((CS17.out).tail).tail).tail).tail).head
            have d5 := ((((((CS17.out).tail).tail).tail).tail).tail).head
            have d6 := (((((((CS17.out).tail).tail).tail).tail).tail).tail).head
            have d7 := ((((((((CS17.out).tail).tail).tail).tail).tail).tail).tail).head
            have d8 := (((((((((CS17.out).tail).tail).tail).tail).tail).tail).tail).tail).head
            have d9 := ((((((((((CS17.out).tail).tail).tail).tail).tail).tail).tail).tail).tail).head
            refine hK.out _ _ ⟨d0, d1, d2, d3, d4, d5, d6, d7, d8, d9⟩ (fun hHeld => ?_)
            clear hK K
            try simp only [Act.put, List.setIfInBounds_toArray, List.set_cons_zero, List.set_cons_succ]
            refine wpAnyH_take (i := 28) (oi := ⟨_, _, _, _, _, _⟩) (v := ?_) rfl (by kernel_rfl) (by kernel_rfl) (by kernel_rfl) (fun _ _ _ h => h) (Or.inl ⟨by rfl, ?_⟩) hHeld ?_
            rotate_left
            · intro w' hSw
              try dsimp only at hSw
              go_simp
              all_goals with_reducible rfl
            simp only [Act.put, List.setIfInBounds_toArray, List.set_cons_zero, List.set_cons_succ]
            refine wpAnyH_take (i := 29) (oi := ⟨_, _, _, _, _, _⟩) (v := ?_) rfl (by kernel_rfl) (by kernel_rfl) (by kernel_rfl) (fun _ _ _ h => h) (Or.inl ⟨by rfl, ?_⟩) hHeld ?_
            rotate_left
            · intro w' hSw
              try dsimp only at hSw
              go_simp
              all_goals with_reducible rfl
            simp only [Act.put, List.setIfInBounds_toArray, List.set_cons_zero, List.set_cons_succ]
            refine wpAnyH_take (i := 30) (oi := ⟨_, _, _, _, _, _⟩) (v := ?_) rfl (by kernel_rfl) (by kernel_rfl) (by kernel_rfl) (fun _ _ _ h => h) (Or.inl ⟨by rfl, ?_⟩) hHeld ?_
            rotate_left
            · intro w' hSw
              try dsimp only at hSw
              go_simp
              all_goals with_reducible rfl
            simp only [Act.put, List.setIfInBounds_toArray, List.set_cons_zero, List.set_cons_succ]
            refine wpAnyH_done (by kernel_rfl) ?_ _
            refine NoPanic.normal ?_
            go_wp2
            go_ret
            exact ⟨rfl, H17.out.fr⟩
          · have kc : ((c : Int) != (c2 : Int)) = true := by simp; omega
            refine wpAnyH_take (i := 17) (oi := ⟨_, _, _, _, _, _⟩) (v := ?_) rfl (by kernel_rfl) (by kernel_rfl) (by kernel_rfl) (fun _ _ _ h => h) (Or.inl ⟨by rfl, ?_⟩) hHeld ?_
            rotate_left
            · intro w' hSw
              try dsimp only at hSw
              go_simp
              all_goals with_reducible rfl
            simp only [Act.put, List.setIfInBounds_toArray, List.set_cons_zero, List.set_cons_succ]
            refine wpAnyH_take (i := 18) (oi := ⟨_, _, _, _, _, _⟩) (v := ?_) rfl (by kernel_rfl) (by kernel_rfl) (by kernel_rfl) (fun _ _ _ h => h) (Or.inl ⟨by rfl, ?_⟩) hHeld ?_
            rotate_left
            · intro w' hSw
              try dsimp only at hSw
              go_simp
              all_goals with_reducible rfl
            simp only [Act.put, List.setIfInBounds_toArray, List.set_cons_zero, List.set_cons_succ]
            refine wpAnyH_take (i := 19) (oi := ⟨_, _, _, _, _, _⟩) (v := undef) rfl (by kernel_rfl) (by kernel_rfl) (by kernel_rfl) (fun _ _ _ h => h) (Or.inr ⟨by rfl, rfl⟩) hHeld ?_
            simp only [Act.put, List.setIfInBounds_toArray, List.set_cons_zero, List.set_cons_succ]
            refine wpAnyH_take (i := 20) (oi := ⟨_, _, _, _, _, _⟩) (v := undef) rfl (by kernel_rfl) (by kernel_rfl) (by kernel_rfl) (fun _ _ _ h => h) (Or.inr ⟨by rfl, rfl⟩) hHeld ?_
            simp only [Act.put, List.setIfInBounds_toArray, List.set_cons_zero, List.set_cons_succ]
            refine wpAnyH_take (i := 21) (oi := ⟨_, _, _, _, _, _⟩) (v := undef) rfl (by kernel_rfl) (by kernel_rfl) (by kernel_rfl) (fun _ _ _ h => h) (Or.inr ⟨by rfl, rfl⟩) hHeld ?_
            simp only [Act.put, List.setIfInBounds_toArray, List.set_cons_zero, List.set_cons_succ]
            refine wpAnyH_take (i := 22) (oi := ⟨_, _, _, _, _, _⟩) (v := undef) rfl (by kernel_rfl) (by kernel_rfl) (by kernel_rfl) (fun _ _ _ h => h) (Or.inr ⟨by rfl, rfl⟩) hHeld ?_
            simp only [Act.put, List.setIfInBounds_toArray, List.set_cons_zero, List.set_cons_succ]
            refine wpAnyH_take (i := 23) (oi := ⟨_, _, _, _, _, _⟩) (v := undef) rfl (by kernel_rfl) (by kernel_rfl) (by kernel_rfl) (fun _ _ _ h => h) (Or.inr ⟨by rfl, rfl⟩) hHeld ?_
            simp only [Act.put, List.setIfInBounds_toArray, List.set_cons_zero, List.set_cons_succ]
            refine wpAnyH_take (i := 24) (oi := ⟨_, _, _, _, _, _⟩) (v := undef) rfl (by kernel_rfl) (by kernel_rfl) (by kernel_rfl) (fun _ _ _ h => h) (Or.inr ⟨by rfl, rfl⟩) hHeld ?_
            simp only [Act.put, List.setIfInBounds_toArray, List.set_cons_zero, List.set_cons_succ]
            refine wpAnyH_take (i := 25) (oi := ⟨_, _, _, _, _, _⟩) (v := undef) rfl (by kernel_rfl) (by kernel_rfl) (by kernel_rfl) (fun _ _ _ h => h) (Or.inr ⟨by rfl, rfl⟩) hHeld ?_
            simp only [Act.put, List.setIfInBounds_toArray, List.set_cons_zero, List.set_cons_succ]
            refine wpAnyH_take (i := 26) (oi := ⟨_, _, _, _, _, _⟩) (v := undef) rfl (by kernel_rfl) (by kernel_rfl) (by kernel_rfl) (fun _ _ _ h => h) (Or.inr ⟨by rfl, rfl⟩) hHeld ?_
            simp only [Act.put, List.setIfInBounds_toArray, List.set_cons_zero, List.set_cons_succ]
            refine wpAnyH_take (i := 27) (oi := ⟨_, _, _, _, _, _⟩) (v := undef) rfl (by kernel_rfl) (by kernel_rfl) (by kernel_rfl) (fun _ _ _ h => h) (Or.inr ⟨by rfl, rfl⟩) hHeld ?_
            simp only [Act.put, List.setIfInBounds_toArray, List.set_cons_zero, List.set_cons_succ]
            refine wpAnyH_take (i := 28) (oi := ⟨_, _, _, _, _, _⟩) (v := ?_) rfl (by kernel_rfl) (by kernel_rfl) (by kernel_rfl) (fun _ _ _ h => h) (Or.inl ⟨by rfl, ?_⟩) hHeld ?_
            rotate_left
            · intro w' hSw
              try dsimp only at hSw
              go_simp
              all_goals with_reducible rfl
            simp only [Act.put, List.setIfInBounds_toArray, List.set_cons_zero, List.set_cons_succ]
            refine wpAnyH_take (i := 29) (oi := ⟨_, _, _, _, _, _⟩) (v := ?_) rfl (by kernel_rfl) (by kernel_rfl) (by kernel_rfl) (fun _ _ _ h => h) (Or.inl ⟨by rfl, ?_⟩) hHeld ?_
            rotate_left
            · intro w' hSw
              try dsimp only at hSw
              go_simp
              all_goals with_reducible rfl
            simp only [Act.put, List.setIfInBounds_toArray, List.set_cons_zero, List.set_cons_succ]
            refine wpAnyH_take (i := 30) (oi := ⟨_, _, _, _, _, _⟩) (v := ?_) rfl (by kernel_rfl) (by kernel_rfl) (by kernel_rfl) (fun _ _ _ h => h) (Or.inl ⟨by rfl, ?_⟩) hHeld ?_
            rotate_left
            · intro w' hSw
              try dsimp only at hSw
              go_simp
              all_goals with_reducible rfl
            simp only [Act.put, List.setIfInBounds_toArray, List.set_cons_zero, List.set_cons_succ]
            refine wpAnyH_done (by kernel_rfl) ?_ _
            refine NoPanic.normal ?_
            go_wp2
            go_ret
            exact ⟨rfl, H14.out.fr⟩

end Go.Proofs.Ytnohmloilcpmiaa
