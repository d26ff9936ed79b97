/-
  What statement TiersView answers: true, for every input.
-/
import Derived.Test.YtnohmloilcpmiaaGreatITKs
import Derived.Test.YtnohmloilcpmiaaGreatS42
import Derived.Test.YtnohmloilcpmiaaGreatKRMs
import Derived.Test.YtnohmloilcpmiaaGreatS18
import Derived.Test.YtnohmloilcpmiaaGreatS11
import Derived.Test.YtnohmloilcpmiaaGreatS05
namespace Go.Proofs.YtnohmloilcpmiaaGreat
open Go.RowKit Go.Lib

theorem asam_info : (Tryz.prog.info? 23).map (fun i => (i.zero, i.size, i.bytes)) = some (some (.agg #[.string ⟨#[]⟩, .int .i64 0, .int .i64 0]), 3, 32) := by kernel_rfl

/-- All tiers' views. -/
def iViews (r : RchL) (all : List SamL) : List (List TRec) := (List.range r.2.1.2.length).map fun i => iView r i all

theorem iViews_get {r : RchL} {all : List SamL} {i : Nat} (h : i < r.2.1.2.length) : (iViews r all)[i]? = some (iView r i all) := by
  unfold iViews
  rw [List.getElem?_map, List.getElem?_range h]
  rfl
theorem iViews_none {r : RchL} {all : List SamL} {i : Nat} (h : r.2.1.2.length ≤ i) : (iViews r all)[i]? = none := by
  unfold iViews
  rw [List.getElem?_map, List.getElem?_eq_none (by rw [List.length_range]; exact h)]
  rfl
theorem iViews_nil (r : RchL) : iViews r [] = List.replicate r.2.1.2.length [] := by
  refine List.ext_getElem? fun i => ?_
  rw [List.getElem?_replicate]
  split
  · rw [iViews_get ‹_›, iView_nil]
  · rw [iViews_none (by omega)]
theorem iViews_put {r : RchL} {all ss : List SamL} (h : ∀ s ∈ ss, rTakes r s.1 s.2.1 = 0) : iPut r (iViews r all) ss = iViews r (all ++ ss) := by
  refine List.ext_getElem? fun i => ?_
  unfold iPut
  rw [List.getElem?_mapIdx]
  by_cases c : i < r.2.1.2.length
  · rw [iViews_get c, iViews_get c, iView_put h]
    rfl
  · rw [iViews_none (by omega), iViews_none (by omega)]
    rfl
theorem iViews_tick {r : RchL} {all : List SamL} {n : Int} (h : IGood r (iViews r all)) (n0 : 0 ≤ n) (n1 : n ≤ 2199023255552) : iKeep (iNow r n) (iViews r all) = iViews (iNow r n) all := by
  refine List.ext_getElem? fun i => ?_
  unfold iKeep
  rw [List.getElem?_mapIdx]
  by_cases c : i < r.2.1.2.length
  · obtain ⟨x, hx⟩ : ∃ x, r.2.1.2[i]? = some x := ⟨_, List.getElem?_eq_getElem c⟩
    rw [iViews_get c, iViews_get (r := iNow r n) c]
    show some (tKeep (iView r i all) (rFromN (iNow r n) i)) = _
    rw [iView_tick hx (h.rises n0 n1 hx).1]
  · rw [iViews_none (by omega), iViews_none (r := iNow r n) (by show r.2.1.2.length ≤ i; omega)]
    rfl
theorem iTab_views (r : RchL) (all : List SamL) (tier : Int) : iTab (iViews r all) tier = if 0 ≤ tier ∧ tier.toNat < r.2.1.2.length then iView r tier.toNat all else [] := by
  unfold iTab
  by_cases h0 : tier < 0
  · rw [if_pos h0, if_neg (by omega)]
  · rw [if_neg h0, List.getD_eq_getElem?_getD]
    by_cases c : tier.toNat < r.2.1.2.length
    · rw [iViews_get c, if_pos ⟨by omega, c⟩]
      rfl
    · rw [iViews_none (by omega), if_neg (by omega)]
      rfl

theorem iown_lt' {w : World} {D : Nat} {e : TypeId} {sz n : Nat} {v : Value} {xs : List Value} (h : w.ownsRow D e sz v n xs) {g : Nat} (hg : v.ownBlock = some g) : g < w.heap.size := (h.lt g hg).2
theorem iown_kept' {w w' : World} {D : Nat} {e : TypeId} {sz n : Nat} {v : Value} {xs : List Value} (h : w.ownsRow D e sz v n xs) (b : Below w.heap.size w w') : w'.ownsRow D e sz v n xs := (Step.of_below (F := fun _ => False) b).own h (fun _ _ c => c)
theorem iTab_len {T : List (List TRec)} (h : ∀ x ∈ T, x.length ≤ 1000) (tier : Int) : (iTab T tier).length ≤ 1000000 := by
  unfold iTab
  split
  · exact Nat.zero_le _
  · rw [List.getD_eq_getElem?_getD]
    cases c : T[tier.toNat]? with
    | none => exact Nat.zero_le _
    | some l =>
      have := h l (List.mem_of_getElem? c)
      show l.length ≤ _
      omega
theorem addr_of {w : World} {a : Option Addr} {n c : Nat} {xs : List Value} (h : CellRow w (.slice a n c) n xs) (hx : xs ≠ []) : ∃ b o, a = some ⟨b, o, none⟩ ∧ b < w.heap.size ∧ Cells w b o xs := by
  obtain ⟨a', c', hv, h⟩ := h
  simp only [Value.slice.injEq] at hv
  obtain ⟨rfl, _, rfl⟩ := hv
  rcases h with h | h
  · exact absurd h hx
  · exact h
theorem iCheck_zero' {r : RchL} {ss : List SamL} (h : iCheck r ss = 0) : ss ≠ [] ∧ ss.length ≤ 8 ∧ ∀ s ∈ ss, rTakes r s.1 s.2.1 = 0 := by
  obtain ⟨h1, h2, h3⟩ := iCheck_len h
  exact ⟨h1, h2, iTakes_zero.1 h3⟩

theorem IHere.grown {TS : TableSpec} {S : TiersSpec TS} {B p : Nat} {w0 w w' : World} {r : RchL} {T : List (List TRec)} {F : TFoot} {o : Option Nat} (h : IHere S B w0 w p r T F) (g : w.grownBy w' o) (ho : ∀ k, o = some k → B ≤ k ∧ ¬ F.all k) : IHere S B w0 w' p r T F :=
  ⟨S.kept h.rep g.size (fun k hk => g.block k (S.lt h.rep k hk) (fun c => (ho k c.symm).2 hk)), h.ge, Nat.le_trans h.hB g.size, h.fr.grown g h.hB (fun k hk => (ho k hk).1)⟩

theorem tick_len {r : RchL} {n : Int} (h : iTickE r n = 0) : 0 ≤ n ∧ n ≤ maxT - r.1 := by
  unfold iTickE at h
  split at h
  · cases h
  · split at h
    · cases h
    · omega

set_option maxRecDepth 20000 in
set_option maxHeartbeats 12800000 in
theorem tiersView_main {TS : TableSpec} (S : TiersSpec TS) (pv lv : Value) (p : PolL) (now : Int) (l : List IOpL) (tier : Int) (w : World) (hS : S.Ok w) (hp : PolRow w pv p) (fp : ∀ x ∈ p.2, TIn x) (hn : In64 now) (hl : IOpsRow w lv l) (ht : In64 tier) :
    Calls Tryz.prog 7 #[pv, .int .i64 now, lv, .int .i64 tier] w fun e w' => e = .returned (.bool true) ∧ Below w.heap.size w w' := by
  have HP0 := Hid.of hp
  obtain ⟨pn, pt⟩ := p
  obtain ⟨qs, rfl, hps, -⟩ := hp
  obtain ⟨psa, psc, rfl, -⟩ := hps
  obtain ⟨PN, hPN⟩ : ∃ PN, pt.length = PN := ⟨_, rfl⟩
  simp only at HP0 ⊢
  rw [hPN] at HP0 ⊢
  have HPN := Hid.of hPN
  clear hPN
  obtain ⟨w1, hw1⟩ : ∃ w1, w.alloc (.cells #[.string pn, (.slice psa PN psc)] 44) = w1 := ⟨_, rfl⟩
  obtain ⟨z, hz⟩ : ∃ z, w.heap.size = z := ⟨_, rfl⟩
  have B1 : Hid (Below w.heap.size w w1) := Hid.of (by rw [← hw1]; exact (Below.refl _ _).alloc (Nat.le_refl _) _)
  have K1 : Hid (PBlk w1 z pn (.slice psa PN psc)) := Hid.of (by rw [← hw1, ← hz]; exact PBlk.made w pn (.slice psa PN psc))
  have OK := Hid.of hS
  have FP := Hid.of fp
  have HL := Hid.of hl
  obtain ⟨⟨va, vc, rfl, -⟩, -⟩ := hl
  obtain ⟨N, hN⟩ : ∃ N, l.length = N := ⟨_, rfl⟩
  have NL := Hid.of hN
  have HR : Hid (CellRow w (.slice va N vc) N (flat IOpL.cells l)) := Hid.of (by rw [← hN]; exact HL.out.1)
  have hsm := Small_any _ (pn, pt) w1 (HP0.out.kept B1.out)
  have HN := Hid.of hn
  have HTI := Hid.of ht
  obtain ⟨i0, hi0, hz0, hz1, hz2⟩ := info_parts asam_info
  have HI := Hid.of hi0
  have HZ0 := Hid.of hz0
  have HZ1 := Hid.of hz1
  have HZ2 := Hid.of hz2
  rw [hN]
  have HW := Hid.of hw1
  have HZ := Hid.of hz
  obtain ⟨q0, q1⟩ := K1.out.at
  clear hS fp hN hw1 hz hn ht hi0 hz0 hz1 hz2
  go_enter Tryz.func7, Tryz.ntmps7
  go_upto_region 1 with fail
  rw [HW.out, HZ.out]
  clear HW
  go_wp2_with fail
  refine hsm.mono ?_
  rintro e w2 ⟨small, rfl, HSM, b2⟩
  have B2 := Hid.of (B1.out.trans (b2.mono B1.out.size))
  have K2 := Hid.of (K1.out.kept b2)
  clear b2 hsm q0 q1 K1 B1
  cases small
  · go_wp2_with fail
    refine (tiersAlive_any S _ (S.okKept OK.out B2.out)).mono ?_
    rintro e w9 ⟨rfl, b9⟩
    have B9 := Hid.of (B2.out.trans (b9.mono B2.out.size))
    go_wp2
    go_ret
    exact ⟨rfl, B9.out⟩
  have PS := Hid.of (HSM.out (by first | rfl | trivial))
  clear HSM
  have hlt := Light_any (.slice va l.length vc) l w2 (HL.out.kept B2.out)
  rw [NL.out] at hlt
  go_wp2_with fail
  refine hlt.mono ?_
  rintro e w3 ⟨light, rfl, HLI, b3⟩
  have B3 := Hid.of (B2.out.trans (b3.mono B2.out.size))
  have K3 := Hid.of (K2.out.kept b3)
  clear b3 hlt K2 B2
  cases light
  · go_wp2_with fail
    refine (tiersAlive_any S _ (S.okKept OK.out B3.out)).mono ?_
    rintro e w9 ⟨rfl, b9⟩
    have B9 := Hid.of (B3.out.trans (b9.mono B3.out.size))
    go_wp2
    go_ret
    exact ⟨rfl, B9.out⟩
  have LI := Hid.of (HLI.out (by first | rfl | trivial))
  clear HLI
  obtain ⟨q0, q1⟩ := K3.out.at
  have hnew := S.new (.agg #[.string pn, (.slice psa PN psc)]) (.slice none 0 0) (pn, pt) now [] w3 (S.okKept OK.out B3.out) (HP0.out.kept B3.out) PS.out.2.1 PS.out.1 (fun x hx => ⟨PS.out.2.2 x hx, (FP.out x hx).2⟩) HN.out ⟨_, _, rfl, .inl rfl⟩ (Nat.le_refl _) (by decide) (fun x hx => absurd hx List.not_mem_nil)
  go_wp2_with fail
  refine hnew.mono ?_
  rintro e w4 ⟨h1, h2, b4⟩
  have B4 := Hid.of (B3.out.trans (b4.mono B3.out.size))
  have K4 := Hid.of (K3.out.kept b4)
  have HZL : Hid (z < w3.heap.size) := Hid.of (Array.getElem?_eq_some_iff.1 K3.out).1
  clear q0 q1 K3
  by_cases he : iNewE (pn, pt) now [] = 0
  case neg =>
    obtain rfl := h2 he
    obtain ⟨er, her⟩ : ∃ er, iNewE (pn, pt) now [] = er := ⟨_, rfl⟩
    rw [her] at he ⊢
    clear her h1 h2 b4 hnew
    go_wp2_with fail
    refine (tiersAlive_any S _ (S.okKept OK.out B4.out)).mono ?_
    rintro e w9 ⟨rfl, b9⟩
    have B9 := Hid.of (B4.out.trans (b9.mono B4.out.size))
    go_wp2
    go_ret
    exact ⟨rfl, B9.out⟩
  obtain ⟨p, F, rfl, rep, hF⟩ := h1 he
  have GD0 := Hid.of (IGood.new he)
  have H4 : Hid (IHere S w.heap.size w w4 p (now, (pn, pt), []) (iViews (now, (pn, pt), []) []) F) := Hid.of ⟨by rw [iViews_nil]; exact rep, fun k hk => Nat.le_trans B3.out.size (hF k (S.sub rep k hk)), B4.out.size, B4.out⟩
  have HZF : Hid (¬ F.own z) := Hid.of (fun c => by have := hF z (S.sub rep z c); have := HZL.out; omega)
  have HN50 : N ≤ 50 := by have := LI.out.1; rw [NL.out] at this; exact this
  clear rep hF b4 h1 h2 hnew he B3 B4
  go_wp2
  go_loopg [11, 12] N (fun kx av iv wr => ∃ (i m : Nat) (nw : Int) (all : List SamL) (a : Value) (G : TFoot), a = av ∧ iv = .int .i64 i ∧ i ≤ N ∧ N - i ≤ kx ∧ m ≤ 8 * i ∧ Hid (all.length = m) ∧ Hid (∀ x ∈ all, SFit x) ∧ Hid (∀ x ∈ iViews (nw, (pn, pt), []) all, x.length ≤ 8 * i) ∧ Hid (IHere S w.heap.size w wr p (nw, (pn, pt), []) (iViews (nw, (pn, pt), []) all) G) ∧ Hid (wr.ownsRow w.heap.size 23 3 a m (flat aenc all)) ∧ Hid (∀ g, a.ownBlock = some g → ¬ G.all g) ∧ Hid (PBlk wr z pn (.slice psa PN psc)) ∧ Hid (¬ G.own z) ∧ Hid (∀ g, a.ownBlock = some g → g ≠ z))
  case atStart => exact ⟨0, 0, now, [], _, F, rfl, rfl, Nat.zero_le _, Nat.le_refl _, Nat.zero_le _, Hid.of rfl, Hid.of (fun x hx => absurd hx List.not_mem_nil), Hid.of (fun x hx => by rw [iViews_nil] at hx; rw [List.eq_of_mem_replicate hx]; exact Nat.le_refl _), H4, Hid.of (World.ownsRow_nil _ _ _ _), Hid.of (fun g hg => by cases hg), K4, HZF, Hid.of (fun g hg => by cases hg)⟩
  case round =>
    clear H4 K4 HZF
    obtain ⟨i, m, nw, all, a, G, rfl, rfl, hiN, hkx, hm, HM, HAF, HT, H, HO, HOF, K, HZG, HAZ⟩ := hrel
    have hm400 : m ≤ 400 := by omega
    have HMI := Hid.of hm
    clear hm
    by_cases hlt : (i : Int) < (N : Int)
    · obtain ⟨o, ho⟩ : ∃ o, l[i]? = some o := ⟨_, List.getElem?_eq_getElem (by have := NL.out; omega)⟩
      have hom := List.mem_of_getElem? ho
      have OI := Hid.of (HL.out.2 o hom)
      have OL := Hid.of (LI.out.2 o hom)
      obtain ⟨bq, o1, rfl, hb1, c0, c1, c2, c3⟩ := iop_at (HR.out.kept H.out.fr) i o ho
      have HO1 := Hid.of ho
      have hi0 : (0 : Int) ≤ (i : Int) := by omega
      have HIN : Hid (i < N) := Hid.of (by omega)
      have hle8 : ∀ x ∈ iViews (nw, (pn, pt), []) all, x.length + 8 ≤ 1000 := fun x hx => by have := HT.out x hx; omega
      have HLE8 := Hid.of hle8
      clear ho hom hb1 c3 hle8
      by_cases hk : o.k = 1
      · have hput := S.put _ o.ss (H.out.ok OK.out) H.out.rep HLE8.out (OI.out.s.kept H.out.fr) OI.out.sc (by have := OL.out.1.1; omega) (fun hne => off_in OI.out.s (sams_ne hne) H.out.ge) OI.out.sf
        have hk2 : ¬ o.k = 2 := by omega
        have HK := Hid.of hk
        clear c1
        go_wp2_with fail
        refine hput.mono ?_
        rintro e w5 ⟨rfl, G5, rep5, st5⟩
        obtain ⟨ce, hce⟩ : ∃ ce, iCheck (nw, (pn, pt), []) o.ss = ce := ⟨_, rfl⟩
        rw [hce] at rep5 ⊢
        have O5 := Hid.of (st5.own.own HO.out (fun g hg c => HOF.out g hg (S.sub H.out.rep g c)))
        have OF5 : Hid (∀ g, a.ownBlock = some g → ¬ G5.all g) := Hid.of (fun g hg c => by
          rcases st5.more g c with d | d
          · exact HOF.out g hg d
          · have := iown_lt' HO.out hg
            omega)
        have KL : Hid (z < wr.heap.size) := Hid.of (Array.getElem?_eq_some_iff.1 K.out).1
        have K5 : Hid (PBlk w5 z pn (.slice psa PN psc)) := Hid.of ((st5.own.block z KL.out HZG.out).trans K.out)
        have ZG5 : Hid (¬ G5.own z) := Hid.of (fun c => by
          rcases st5.own.foot z c with d | d
          · exact HZG.out d
          · have := KL.out; omega)
        by_cases hc0 : ce = 0
        · rw [if_pos hc0] at rep5
          have CZ := Hid.of (iCheck_zero' (hce.trans hc0))
          rw [iViews_put CZ.out.2.2] at rep5
          have H5 := Hid.of (H.out.step rep5 st5)
          have k0 : (ce == 0) = true := by rw [hc0]; rfl
          obtain ⟨bq', o1', hq', hb1', c0', -, c2', -⟩ := iop_at (HR.out.kept H5.out.fr) i o HO1.out
          obtain ⟨rfl, rfl⟩ : bq' = bq ∧ o1' = o1 := by
            have := Option.some.inj hq'
            simp only [Addr.mk.injEq] at this
            exact ⟨this.1.symm, this.2.1.symm⟩
          have hsr := OI.out.s.kept H5.out.fr
          obtain ⟨sb, so, hsa, hsl, hsc⟩ := addr_of hsr (sams_ne CZ.out.1)
          obtain ⟨n8, hn8⟩ : ∃ n, o.ss.length = n := ⟨_, rfl⟩
          have hn8l : n8 ≤ 8 := by rw [← hn8]; exact CZ.out.2.1
          rw [hsa] at c2' 
          rw [hn8] at c2'
          have HSC := Hid.of hsc
          have HN8 := Hid.of hn8
          have HT5 : Hid (∀ x ∈ iViews (nw, (pn, pt), []) (all ++ o.ss), x.length ≤ 8 * (i + 1)) := Hid.of (fun x hx => by
            rw [← iViews_put CZ.out.2.2] at hx
            have := iPut_le HT.out x hx
            have := CZ.out.2.1
            omega)
          clear rep5 st5 hput H c0 c2 hce hc0 hq' hb1' hsr hsl hsc hn8 hsa HOF HO K KL HZG HT
          go_wp2_with (at_builtin; refine append_keep_law rfl (.tmp 62) (.tmp 67) 50 rfl w.heap.size 23 i0 _ 3 32 Tryz.underlying50 HI.out HZ0.out HZ1.out HZ2.out rfl (by decide) a m _ rfl O5.out sb so n8 _ (flat aenc o.ss) rfl HSC.out (by rw [flat_length aenc_len, HN8.out]) (by intro x hx; exact flat_ones aenc_one _ x hx) (by unfold maxLen; omega) (by omega) (by have := H5.out.hB; omega) ?_; intro a6 w6 o6 g6 _ m6; have O6 := Hid.of o6; have G6 := Hid.of g6; have M6 := Hid.of m6; have H6 := Hid.of (H5.out.grown g6 (fun k hk => ⟨own_ge O5.out hk, OF5.out k hk⟩)); have K6 : Hid (PBlk w6 z pn (.slice psa PN psc)) := Hid.of ((g6.block z (Array.getElem?_eq_some_iff.1 K5.out).1 (fun c => HAZ.out z c.symm rfl)).trans K5.out); clear o6 g6 m6 c0' c2'; obtain ⟨bq2, o2, hq2, hb2, c0, c1, c2, c3⟩ := iop_at (HR.out.kept H6.out.fr) i o HO1.out; obtain ⟨rfl, rfl⟩ : bq2 = bq' ∧ o2 = o1' := (by have := Option.some.inj hq2; simp only [Addr.mk.injEq] at this; exact ⟨this.1.symm, this.2.1.symm⟩); clear hq2 hb2 c1 c2 c3)
          go_roundg (N - (i + 1))
          case measure => have := HIN.out; omega
          case rel =>
            refine ⟨i + 1, m + n8, nw, all ++ o.ss, a6, G5, rfl, by go_num, HIN.out, Nat.le_refl _, by have := HMI.out; omega, Hid.of (by rw [List.length_append, HM.out, HN8.out]), Hid.of (fun x hx => ?_), HT5, H6, Hid.of (by rw [flat_append]; exact O6.out), Hid.of (fun g hg c => ?_), K6, ZG5, Hid.of (fun g hg c => ?_)⟩
            · rcases List.mem_append.1 hx with hx | hx
              · exact HAF.out x hx
              · exact OI.out.sf x hx
            · rcases M6.out with e | ⟨g', e, hg'⟩
              · exact OF5.out g (e ▸ hg) c
              · rw [e] at hg
                cases hg
                have := S.lt H5.out.rep _ c
                omega
            · rcases M6.out with e | ⟨g', e, hg'⟩
              · exact HAZ.out g (e ▸ hg) c
              · rw [e] at hg
                cases hg
                have := (Array.getElem?_eq_some_iff.1 K5.out).1
                omega
        · rw [if_neg hc0] at rep5
          have H5 := Hid.of (H.out.step rep5 st5)
          have k0 : (ce == 0) = false := beq_eq_false_iff_ne.2 hc0
          obtain ⟨bq', o1', hq', hb1', c0', -, -, -⟩ := iop_at (HR.out.kept H5.out.fr) i o HO1.out
          obtain ⟨rfl, rfl⟩ : bq' = bq ∧ o1' = o1 := by
            have := Option.some.inj hq'
            simp only [Addr.mk.injEq] at this
            exact ⟨this.1.symm, this.2.1.symm⟩
          clear rep5 st5 hput H c0 c2 hce hc0 hq' hb1' HOF HO K KL HZG
          go_wp2
          go_roundg (N - (i + 1))
          case measure => have := HIN.out; omega
          case rel => exact ⟨i + 1, m, nw, all, a, G5, rfl, by go_num, HIN.out, Nat.le_refl _, by have := HMI.out; omega, HM, HAF, Hid.of (fun x hx => by have := HT.out x hx; omega), H5, O5, OF5, K5, ZG5, HAZ⟩
      · by_cases hk2 : o.k = 2
        · have htk := S.tick o.n (H.out.ok OK.out) H.out.rep (fun x hx => by have := HLE8.out x hx; omega) OI.out.n
          clear c2
          go_wp2_with fail
          refine htk.mono ?_
          rintro e w5 ⟨rfl, G5, rep5, st5⟩
          obtain ⟨te, hte⟩ : ∃ te, iTickE (nw, (pn, pt), []) o.n = te := ⟨_, rfl⟩
          rw [hte] at rep5 ⊢
          have O5 := Hid.of (st5.own.own HO.out (fun g hg c => HOF.out g hg (S.sub H.out.rep g c)))
          have OF5 : Hid (∀ g, a.ownBlock = some g → ¬ G5.all g) := Hid.of (fun g hg c => by
            rcases st5.more g c with d | d
            · exact HOF.out g hg d
            · have := iown_lt' HO.out hg
              omega)
          have KL : Hid (z < wr.heap.size) := Hid.of (Array.getElem?_eq_some_iff.1 K.out).1
          have K5 : Hid (PBlk w5 z pn (.slice psa PN psc)) := Hid.of ((st5.own.block z KL.out HZG.out).trans K.out)
          have ZG5 : Hid (¬ G5.own z) := Hid.of (fun c => by
            rcases st5.own.foot z c with d | d
            · exact HZG.out d
            · have := KL.out; omega)
          by_cases ht0 : te = 0
          · have tl := tick_len (hte.trans ht0)
            have gd := S.good H.out.rep
            have gn0 : 0 ≤ nw := gd.n0
            have tl2 : o.n ≤ maxT - nw := tl.2
            have ev := iViews_tick gd tl.1 (by unfold maxT at tl2; omega)
            rw [if_pos ht0, if_pos ht0, ev] at rep5
            have H5 : Hid (IHere S w.heap.size w w5 p (nw + o.n, (pn, pt), []) (iViews (nw + o.n, (pn, pt), []) all) G5) := Hid.of (H.out.step rep5 st5)
            have HT5 : Hid (∀ x ∈ iViews (nw + o.n, (pn, pt), []) all, x.length ≤ 8 * (i + 1)) := Hid.of (fun x hx => by
              have : x ∈ iKeep (iNow (nw, (pn, pt), []) o.n) (iViews (nw, (pn, pt), []) all) := by rw [ev]; exact hx
              have := iKeep_le HT.out x this
              omega)
            clear rep5 st5 htk H c0 c1 hte ht0 tl gd gn0 tl2 ev HOF HO K KL HZG
            go_wp2
            go_roundg (N - (i + 1))
            case measure => have := HIN.out; omega
            case rel => exact ⟨i + 1, m, nw + o.n, all, a, G5, rfl, by go_num, HIN.out, Nat.le_refl _, by have := HMI.out; omega, HM, HAF, HT5, H5, O5, OF5, K5, ZG5, HAZ⟩
          · rw [if_neg ht0, if_neg ht0] at rep5
            have H5 := Hid.of (H.out.step rep5 st5)
            clear rep5 st5 htk H c0 c1 hte ht0 HOF HO K KL HZG
            go_wp2
            go_roundg (N - (i + 1))
            case measure => have := HIN.out; omega
            case rel => exact ⟨i + 1, m, nw, all, a, G5, rfl, by go_num, HIN.out, Nat.le_refl _, by have := HMI.out; omega, HM, HAF, Hid.of (fun x hx => by have := HT.out x hx; omega), H5, O5, OF5, K5, ZG5, HAZ⟩
        · clear c1 c2
          go_wp2
          go_roundg (N - (i + 1))
          case measure => have := HIN.out; omega
          case rel => exact ⟨i + 1, m, nw, all, a, G, rfl, by go_num, HIN.out, Nat.le_refl _, by have := HMI.out; omega, HM, HAF, Hid.of (fun x hx => by have := HT.out x hx; omega), H, HO, HOF, K, HZG, HAZ⟩
    · obtain rfl : i = N := by omega
      obtain ⟨sq, fq, d0, -⟩ := S.cells H.out.rep
      have hpl : p < wr.heap.size := cell_lt d0
      have GD := Hid.of (S.good H.out.rep)
      have FIT := Hid.of (S.fit H.out.rep)
      obtain ⟨k0, k1⟩ := K.out.at
      have CS5 : Hid (Cs wr [(⟨p, 0, none⟩, .int .i64 nw), (⟨z, 0, none⟩, .string pn), (⟨z, 1, none⟩, (.slice psa PN psc))]) := Hid.of (.cons hpl d0 (.cons (Array.getElem?_eq_some_iff.1 K.out).1 k0 (.cons (Array.getElem?_eq_some_iff.1 K.out).1 k1 (.nil _))))
      have PR : Hid (PolRow w (.agg #[.string pn, (.slice psa PN psc)]) (pn, pt)) := HP0
      have HLE : Hid (∀ x ∈ iViews (nw, (pn, pt), []) all, x.length ≤ 1000) := Hid.of (fun x hx => by have := HT.out x hx; omega)
      have EQ := Hid.of (iTab_views (nw, (pn, pt), []) all tier)
      have HML : Hid (all.length ≤ 1000) := Hid.of (by rw [HM.out]; omega)
      clear d0 hpl k0 k1 HT HZG HAZ K
      go_upto_region 14 with fail
      have d0 := (CS5.out).head
      have d1 := ((CS5.out).tail).head
      have d2 := (((CS5.out).tail).tail).head
      refine wp_region_noPanic ?_
      refine wp_region_held_drew (S := fun w' => w'.cell? ⟨p, 0, none⟩ = some (.int .i64 nw) ∧ w'.cell? ⟨z, 0, none⟩ = some (.string pn) ∧ w'.cell? ⟨z, 1, none⟩ = some (.slice psa PN psc)) (by kernel_rfl) ?_ (fun hHeld => ?_)
      · exact ⟨d0, d1, d2⟩
      refine takeOp 0 (o := ⟨_, _, _, _, _, _⟩) (v := ?_) rfl (by kernel_rfl) (by rfl) hHeld ?_ ?_
      rotate_left
      · intro w' hSw; (try dsimp only at hSw); go_simp; all_goals with_reducible rfl
      simp only [Act.put, List.setIfInBounds_toArray, List.set_cons_zero, List.set_cons_succ]
      refine takeOp 1 (o := ⟨_, _, _, _, _, _⟩) (v := ?_) rfl (by kernel_rfl) (by rfl) hHeld ?_ ?_
      rotate_left
      · intro w' hSw; (try dsimp only at hSw); go_simp; all_goals with_reducible rfl
      simp only [Act.put, List.setIfInBounds_toArray, List.set_cons_zero, List.set_cons_succ]
      refine takeOp 2 (o := ⟨_, _, _, _, _, _⟩) (v := ?_) rfl (by kernel_rfl) (by rfl) hHeld ?_ ?_
      rotate_left
      · intro w' hSw; (try dsimp only at hSw); go_simp; all_goals with_reducible rfl
      simp only [Act.put, List.setIfInBounds_toArray, List.set_cons_zero, List.set_cons_succ]
      refine takeOp 3 (o := ⟨_, _, _, _, _, _⟩) (v := ?_) rfl (by kernel_rfl) (by rfl) hHeld ?_ ?_
      rotate_left
      · intro w' hSw; (try dsimp only at hSw); go_simp; all_goals with_reducible rfl
      simp only [Act.put, List.setIfInBounds_toArray, List.set_cons_zero, List.set_cons_succ]
      refine takeOp 4 (o := ⟨_, _, _, _, _, _⟩) (v := ?_) rfl (by kernel_rfl) (by rfl) hHeld ?_ ?_
      rotate_left
      · intro w' hSw; (try dsimp only at hSw); go_simp; all_goals with_reducible rfl
      simp only [Act.put, List.setIfInBounds_toArray, List.set_cons_zero, List.set_cons_succ]
      refine takeOp 5 (o := ⟨_, _, _, _, _, _⟩) (v := ?_) rfl (by kernel_rfl) (by rfl) hHeld ?_ ?_
      rotate_left
      · intro w' hSw; (try dsimp only at hSw); go_simp; all_goals with_reducible rfl
      simp only [Act.put, List.setIfInBounds_toArray, List.set_cons_zero, List.set_cons_succ]
      refine takeOp 6 (o := ⟨_, _, _, _, _, _⟩) (v := ?_) rfl (by kernel_rfl) (by rfl) hHeld ?_ ?_
      rotate_left
      · intro w' hSw; (try dsimp only at hSw); go_simp; all_goals with_reducible rfl
      simp only [Act.put, List.setIfInBounds_toArray, List.set_cons_zero, List.set_cons_succ]
      refine wpAnyH_ready (rs := [7]) (by kernel_rfl) (by simp) ?_
      refine AllReadyH.cons (o := ⟨_, _, _, _, _, _⟩) rfl (fun K hK => ?_) AllReadyH.nil
      go_simp
      obtain ⟨y, hy⟩ : ∃ y, wr.heap.size = y := ⟨_, rfl⟩
      obtain ⟨w6, hw6⟩ : ∃ w6, (wr.alloc (.cells #[.int .i64 0, .string ⟨#[]⟩, .slice none 0 0, .slice none 0 0] 71)).drew = w6 := ⟨_, rfl⟩
      have b6 : Below wr.heap.size wr w6 := by rw [← hw6]; exact ((Below.refl _ _).alloc (Nat.le_refl _) _).drew
      have z6 : w6.heap[y]? = some (.cells #[.int .i64 0, .string ⟨#[]⟩, .slice none 0 0, .slice none 0 0] 71 (0, 0)) := by rw [← hw6, ← hy]; exact (MapKept.heap_alloc wr _).1
      have HY : Hid (wr.heap.size = y) := Hid.of hy
      have CS6 := Hid.of (CS5.out.next b6)
      have Z6 := Hid.of z6
      have B6 := Hid.of b6
      rw [hw6, hy]
      clear hw6 hy b6 z6
      clear hHeld d0 d1 d2
      have d0 := (CS6.out).head
      have d1 := ((CS6.out).tail).head
      have d2 := (((CS6.out).tail).tail).head
      refine hK.out _ _ ⟨d0, d1, d2⟩ (fun hHeld => ?_)
      clear hK K
      try simp only [Act.put, List.setIfInBounds_toArray, List.set_cons_zero, List.set_cons_succ]
      refine wpAnyH_ready (rs := [8]) (by kernel_rfl) (by simp) ?_
      refine AllReadyH.cons (o := ⟨_, _, _, _, _, _⟩) rfl (fun K hK => ?_) AllReadyH.nil
      have f0 := row_frozen (i := 0) Z6.out
      have f1 := row_frozen (i := 1) Z6.out
      have f2 := row_frozen (i := 2) Z6.out
      have f3 := row_frozen (i := 3) Z6.out
      have t0 : w6.cell? ⟨y, 0, none⟩ = some (.int .i64 0) := by rw [cell_of_row _ _ _ _ _ _ Z6.out]; rfl
      have t1 : w6.cell? ⟨y, 1, none⟩ = some (.string ⟨#[]⟩) := by rw [cell_of_row _ _ _ _ _ _ Z6.out]; rfl
      have t2 : w6.cell? ⟨y, 2, none⟩ = some (.slice none 0 0) := by rw [cell_of_row _ _ _ _ _ _ Z6.out]; rfl
      have t3 : w6.cell? ⟨y, 3, none⟩ = some (.slice none 0 0) := by rw [cell_of_row _ _ _ _ _ _ Z6.out]; rfl
      go_simp
      clear f0 f1 f2 f3 t0 t1 t2 t3
      have z7 := row_set (i := 3) (row_set (i := 2) (row_set (i := 1) (row_set (i := 0) Z6.out (.int .i64 nw)) (.string pn)) (.slice psa PN psc)) (.slice none 0 0)
      have g7 : w6.grownBy ((((w6.setCell ⟨y, 0, none⟩ (.int .i64 nw)).setCell ⟨y, 1, none⟩ (.string pn)).setCell ⟨y, 2, none⟩ (.slice psa PN psc)).setCell ⟨y, 3, none⟩ (.slice none 0 0)) (some y) := grownBy_trans (grownBy_trans (grownBy_trans (grownBy_setCell _ _ _ _) (grownBy_setCell _ _ _ _)) (grownBy_setCell _ _ _ _)) (grownBy_setCell _ _ _ _)
      obtain ⟨w7, hw7⟩ : ∃ w7, (((w6.setCell ⟨y, 0, none⟩ (.int .i64 nw)).setCell ⟨y, 1, none⟩ (.string pn)).setCell ⟨y, 2, none⟩ (.slice psa PN psc)).setCell ⟨y, 3, none⟩ (.slice none 0 0) = w7 := ⟨_, rfl⟩
      rw [hw7] at z7 g7 ⊢
      have b7 : Below wr.heap.size wr w7 := B6.out.grown g7 B6.out.size (fun k hk => by cases hk; exact Nat.le_of_eq HY.out)
      have z8 : w7.heap[y]? = some (.cells #[.int .i64 nw, .string pn, (.slice psa PN psc), .slice none 0 0] 71 (0, 0)) := by rw [z7]; simp
      have CS7 := Hid.of (CS5.out.next b7)
      have H7 := Hid.of (H.out.next b7)
      have O7 := Hid.of (iown_kept' HO.out b7)
      have Z7 := Hid.of z8
      have ZL : Hid (y < w7.heap.size) := Hid.of (Array.getElem?_eq_some_iff.1 z8).1
      clear hw7 z7 g7 z8 b7 H HO CS6 Z6 B6 HY
      clear hHeld d0 d1 d2
      have d0 := (CS7.out).head
      have d1 := ((CS7.out).tail).head
      have d2 := (((CS7.out).tail).tail).head
      refine hK.out _ _ ⟨d0, d1, d2⟩ (fun hHeld => ?_)
      clear hK K
      refine wpAnyH_done (by kernel_rfl) ?_ _
      refine NoPanic.normal ?_
      clear hHeld d0 d1 d2 CS7 CS5
      go_upto_region 15 with fail
      have CS8 : Hid (Cs w7 [(⟨y, 0, none⟩, .int .i64 nw), (⟨y, 1, none⟩, .string pn), (⟨y, 2, none⟩, .slice psa PN psc), (⟨y, 3, none⟩, .slice none 0 0)]) := Hid.of (.cons ZL.out (by rw [cell_of_row _ _ _ _ _ _ Z7.out]; rfl) (.cons ZL.out (by rw [cell_of_row _ _ _ _ _ _ Z7.out]; rfl) (.cons ZL.out (by rw [cell_of_row _ _ _ _ _ _ Z7.out]; rfl) (.cons ZL.out (by rw [cell_of_row _ _ _ _ _ _ Z7.out]; rfl) (.nil _)))))
      have bd := (Below.refl w7.heap.size w7).drew
      have H8 := Hid.of (H7.out.next bd)
      have O8 := Hid.of (iown_kept' O7.out bd)
      have CS8d := Hid.of (CS8.out.next bd)
      clear bd H7 O7 Z7 ZL
      have d0 := (CS8.out).head
      have d1 := ((CS8.out).tail).head
      have d2 := (((CS8.out).tail).tail).head
      have d3 := ((((CS8.out).tail).tail).tail).head
      refine wp_region_noPanic ?_
      refine wp_region_held_drew (S := fun w' => w'.cell? ⟨y, 0, none⟩ = some (.int .i64 nw) ∧ w'.cell? ⟨y, 1, none⟩ = some (.string pn) ∧ w'.cell? ⟨y, 2, none⟩ = some (.slice psa PN psc) ∧ w'.cell? ⟨y, 3, none⟩ = some (.slice none 0 0)) (by kernel_rfl) ?_ (fun hHeld => ?_)
      · exact ⟨d0, d1, d2, d3⟩
      refine wpAnyH_ready (rs := [0]) (by kernel_rfl) (by simp) ?_
      refine AllReadyH.cons (o := ⟨_, _, _, _, _, _⟩) rfl (fun K hK => ?_) AllReadyH.nil
      go_simp
      refine (tiersAlive_any S _ (S.okKept OK.out H8.out.fr)).mono ?_
      rintro e w9 ⟨rfl, b9⟩
      have H9 := Hid.of (H8.out.next b9)
      have O9 := Hid.of (iown_kept' O8.out b9)
      have CS9 := Hid.of (CS8d.out.next b9)
      clear b9 H8 O8 CS8d CS8
      clear hHeld d0 d1 d2 d3
      have d0 := (CS9.out).head
      have d1 := ((CS9.out).tail).head
      have d2 := (((CS9.out).tail).tail).head
      have d3 := ((((CS9.out).tail).tail).tail).head
      refine hK.out _ _ ⟨d0, d1, d2, d3⟩ (fun hHeld => ?_)
      clear hK K
      try simp only [Act.put, List.setIfInBounds_toArray, List.set_cons_zero, List.set_cons_succ]
      refine takeOp 1 (o := ⟨_, _, _, _, _, _⟩) (v := ?_) rfl (by kernel_rfl) (by rfl) hHeld ?_ ?_
      rotate_left
      · intro w' hSw; (try dsimp only at hSw); go_simp; all_goals with_reducible rfl
      simp only [Act.put, List.setIfInBounds_toArray, List.set_cons_zero, List.set_cons_succ]
      refine takeOp 2 (o := ⟨_, _, _, _, _, _⟩) (v := ?_) rfl (by kernel_rfl) (by rfl) hHeld ?_ ?_
      rotate_left
      · intro w' hSw; (try dsimp only at hSw); go_simp; all_goals with_reducible rfl
      simp only [Act.put, List.setIfInBounds_toArray, List.set_cons_zero, List.set_cons_succ]
      refine takeOp 3 (o := ⟨_, _, _, _, _, _⟩) (v := ?_) rfl (by kernel_rfl) (by rfl) hHeld ?_ ?_
      rotate_left
      · intro w' hSw; (try dsimp only at hSw); go_simp; all_goals with_reducible rfl
      simp only [Act.put, List.setIfInBounds_toArray, List.set_cons_zero, List.set_cons_succ]
      refine takeOp 5 (o := ⟨_, _, _, _, _, _⟩) (v := ?_) rfl (by kernel_rfl) (by rfl) hHeld ?_ ?_
      rotate_left
      · intro w' hSw; (try dsimp only at hSw); go_simp; all_goals with_reducible rfl
      simp only [Act.put, List.setIfInBounds_toArray, List.set_cons_zero, List.set_cons_succ]
      refine takeOp 6 (o := ⟨_, _, _, _, _, _⟩) (v := ?_) rfl (by kernel_rfl) (by rfl) hHeld ?_ ?_
      rotate_left
      · intro w' hSw; (try dsimp only at hSw); go_simp; all_goals with_reducible rfl
      simp only [Act.put, List.setIfInBounds_toArray, List.set_cons_zero, List.set_cons_succ]
      refine takeOp 7 (o := ⟨_, _, _, _, _, _⟩) (v := ?_) rfl (by kernel_rfl) (by rfl) hHeld ?_ ?_
      rotate_left
      · intro w' hSw; (try dsimp only at hSw); go_simp; all_goals with_reducible rfl
      simp only [Act.put, List.setIfInBounds_toArray, List.set_cons_zero, List.set_cons_succ]
      refine wpAnyH_ready (rs := [4]) (by kernel_rfl) (by simp) ?_
      refine AllReadyH.cons (o := ⟨_, _, _, _, _, _⟩) rfl (fun K hK => ?_) AllReadyH.nil
      go_simp
      refine (S.records tier (S.okKept OK.out H9.out.fr) H9.out.rep HLE.out HTI.out).mono ?_
      rintro e w10 ⟨u, rfl, o10, b10⟩
      have U := Hid.of (own_row o10)
      have H10 := Hid.of (H9.out.next b10)
      have O10 := Hid.of (iown_kept' O9.out b10)
      have CS10 := Hid.of (CS9.out.next b10)
      clear o10 b10 H9 O9 CS9
      clear hHeld d0 d1 d2 d3
      have d0 := (CS10.out).head
      have d1 := ((CS10.out).tail).head
      have d2 := (((CS10.out).tail).tail).head
      have d3 := ((((CS10.out).tail).tail).tail).head
      refine hK.out _ _ ⟨d0, d1, d2, d3⟩ (fun hHeld => ?_)
      clear hK K
      try simp only [Act.put, List.setIfInBounds_toArray, List.set_cons_zero, List.set_cons_succ]
      refine wpAnyH_ready (rs := [8]) (by kernel_rfl) (by simp) ?_
      refine AllReadyH.cons (o := ⟨_, _, _, _, _, _⟩) rfl (fun K hK => ?_) AllReadyH.nil
      go_simp
      have hvw := refView_any nw pn (.slice psa PN psc) (.slice none 0 0) (pn, pt) [] tier a all w10 (by obtain ⟨s', he, hs', -⟩ := PR.out.kept H10.out.fr; unfold polVal at he; simp only [Value.agg.injEq, Array.mk.injEq, List.cons.injEq, and_true] at he; rw [he.2]; exact hs') ⟨_, _, rfl, .inl rfl⟩ FIT.out GD.out.chk HTI.out (by have := own_row O10.out; rwa [← HM.out] at this) HML.out HAF.out
      rw [← show iTab (iViews (nw, (pn, pt), []) all) tier = _ from EQ.out] at hvw
      refine hvw.mono ?_
      rintro e w11 ⟨u', rfl, row', b11⟩
      have U' := Hid.of row'
      have UU := Hid.of (U.out.kept b11)
      have H11 := Hid.of (H10.out.next b11)
      have CS11 := Hid.of (CS10.out.next b11)
      clear row' b11 hvw H10 O10 CS10 U
      clear hHeld d0 d1 d2 d3
      have d0 := (CS11.out).head
      have d1 := ((CS11.out).tail).head
      have d2 := (((CS11.out).tail).tail).head
      have d3 := ((((CS11.out).tail).tail).tail).head
      refine hK.out _ _ ⟨d0, d1, d2, d3⟩ (fun hHeld => ?_)
      clear hK K
      try simp only [Act.put, List.setIfInBounds_toArray, List.set_cons_zero, List.set_cons_succ]
      refine wpAnyH_ready (rs := [9]) (by kernel_rfl) (by simp) ?_
      refine AllReadyH.cons (o := ⟨_, _, _, _, _, _⟩) rfl (fun K hK => ?_) AllReadyH.nil
      go_simp
      refine (SameRecords_named u u' ((iTab (iViews (nw, (pn, pt), []) all) tier).map rl) _ (List.length_map _) _ UU.out U'.out (iTab_len HLE.out tier)).mono ?_
      rintro e w12 ⟨rfl, kq, hw12⟩
      have b12 : Below w11.heap.size w11 w12 := by rw [hw12]; exact below_drewN (Below.refl _ _) kq
      have H12 := Hid.of (H11.out.next b12)
      have CS12 := Hid.of (CS11.out.next b12)
      clear b12 hw12 H11 CS11
      clear hHeld d0 d1 d2 d3
      have d0 := (CS12.out).head
      have d1 := ((CS12.out).tail).head
      have d2 := (((CS12.out).tail).tail).head
      have d3 := ((((CS12.out).tail).tail).tail).head
      refine hK.out _ _ ⟨d0, d1, d2, d3⟩ (fun hHeld => ?_)
      clear hK K
      try simp only [Act.put, List.setIfInBounds_toArray, List.set_cons_zero, List.set_cons_succ]
      refine takeOp 10 (o := ⟨_, _, _, _, _, _⟩) (v := ?_) rfl (by kernel_rfl) (by rfl) hHeld ?_ ?_
      rotate_left
      · intro w' hSw; (try dsimp only at hSw); go_simp; all_goals with_reducible rfl
      simp only [Act.put, List.setIfInBounds_toArray, List.set_cons_zero, List.set_cons_succ]
      refine takeOp 11 (o := ⟨_, _, _, _, _, _⟩) (v := ?_) rfl (by kernel_rfl) (by rfl) hHeld ?_ ?_
      rotate_left
      · intro w' hSw; (try dsimp only at hSw); go_simp; all_goals with_reducible rfl
      simp only [Act.put, List.setIfInBounds_toArray, List.set_cons_zero, List.set_cons_succ]
      refine wpAnyH_done (by kernel_rfl) ?_ _
      refine NoPanic.normal ?_
      go_wp2
      go_ret
      exact ⟨rfl, H12.out.fr⟩

end Go.Proofs.YtnohmloilcpmiaaGreat
