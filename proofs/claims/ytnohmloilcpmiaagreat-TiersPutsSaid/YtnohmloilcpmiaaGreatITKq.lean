/-
  What statement TiersTicks answers: true, for every input.
-/
import Derived.Test.YtnohmloilcpmiaaGreatQ28
import Derived.Test.YtnohmloilcpmiaaGreatQ41
namespace Go.Proofs.YtnohmloilcpmiaaGreat
open Go.RowKit Go.Lib

theorem sams_ne {ss : List SamL} (h : ss ≠ []) : flat aenc ss ≠ [] := fun c => by
  have := flat_length aenc_len ss
  rw [c, List.length_nil] at this
  exact h (List.length_eq_zero_iff.1 (by omega))
theorem iCheck_len {r : RchL} {ss : List SamL} (h : iCheck r ss = 0) : ss ≠ [] ∧ ss.length ≤ 8 ∧ iTakes r ss = 0 := by
  unfold iCheck at h
  split at h
  · cases h
  · split at h
    · cases h
    · exact ⟨‹_›, by omega, h⟩
theorem ISame.symm {r r' : RchL} {T T' : List (List TRec)} (h : ISame r r' T T') : ISame r' r T' T := ⟨h.1.symm, h.2.1.symm, h.2.2.1.symm, h.2.2.2.symm⟩

set_option maxRecDepth 20000 in
set_option maxHeartbeats 6400000 in
theorem tiersTicks_main {TS : TableSpec} (S : TiersSpec TS) (pv lv : Value) (p : PolL) (now : Int) (l : List IOpL) (a b : Int) (w : World) (hS : S.Ok w) (hp : PolRow w pv p) (fp : ∀ x ∈ p.2, TIn x) (hn : In64 now) (hl : IOpsRow w lv l) (ha : In64 a) (hb : In64 b) :
    Calls Tryz.prog 4 #[pv, .int .i64 now, lv, .int .i64 a, .int .i64 b] w fun e w' => e = .returned (.bool true) ∧ Below w.heap.size w w' := by
  have HP0 := Hid.of hp
  obtain ⟨pn, pt⟩ := p
  obtain ⟨ps, rfl, -, -⟩ := hp
  obtain ⟨w1, hw1⟩ : ∃ w1, w.alloc (.cells #[.string pn, ps] 44) = w1 := ⟨_, rfl⟩
  obtain ⟨z, hz⟩ : ∃ z, w.heap.size = z := ⟨_, rfl⟩
  have B1 : Hid (Below w.heap.size w w1) := Hid.of (by rw [← hw1]; exact (Below.refl _ _).alloc (Nat.le_refl _) _)
  have K1 : Hid (PBlk w1 z pn ps) := Hid.of (by rw [← hw1, ← hz]; exact PBlk.made w pn ps)
  have OK := Hid.of hS
  have FP := Hid.of fp
  have HL := Hid.of hl
  obtain ⟨⟨va, vc, rfl, -⟩, -⟩ := hl
  obtain ⟨N, hN⟩ : ∃ N, l.length = N := ⟨_, rfl⟩
  have NL := Hid.of hN
  have HR : Hid (CellRow w (.slice va N vc) N (flat IOpL.cells l)) := Hid.of (by rw [← hN]; exact HL.out.1)
  have hsm := Small_any _ (pn, pt) w1 (HP0.out.kept B1.out)
  have HN := Hid.of hn
  have HA := Hid.of ha
  have HBB := Hid.of hb
  rw [hN]
  have HW := Hid.of hw1
  have HZ := Hid.of hz
  obtain ⟨q0, q1⟩ := K1.out.at
  clear hS fp hN hw1 hz hn ha hb
  go_enter Tryz.func4, Tryz.ntmps4
  go_upto_region 1 with fail
  rw [HW.out, HZ.out]
  clear HW HZ
  go_wp2_with fail
  refine hsm.mono ?_
  rintro e w2 ⟨small, rfl, HSM, b2⟩
  have B2 := Hid.of (B1.out.trans (b2.mono B1.out.size))
  have K2 := Hid.of (K1.out.kept b2)
  clear b2 hsm q0 q1 K1 B1
  cases small
  · go_wp2_with fail
    refine (tiersAlive_any S _ (S.okKept OK.out B2.out)).mono ?_
    rintro e w9 ⟨rfl, b9⟩
    have B9 := Hid.of (B2.out.trans (b9.mono B2.out.size))
    go_wp2
    go_ret
    exact ⟨rfl, B9.out⟩
  have PS := Hid.of (HSM.out (by first | rfl | trivial))
  clear HSM
  have hlt := Light_any (.slice va l.length vc) l w2 (HL.out.kept B2.out)
  rw [NL.out] at hlt
  go_wp2_with fail
  refine hlt.mono ?_
  rintro e w3 ⟨light, rfl, HLI, b3⟩
  have B3 := Hid.of (B2.out.trans (b3.mono B2.out.size))
  have K3 := Hid.of (K2.out.kept b3)
  clear b3 hlt K2 B2
  cases light
  · go_wp2_with fail
    refine (tiersAlive_any S _ (S.okKept OK.out B3.out)).mono ?_
    rintro e w9 ⟨rfl, b9⟩
    have B9 := Hid.of (B3.out.trans (b9.mono B3.out.size))
    go_wp2
    go_ret
    exact ⟨rfl, B9.out⟩
  have LI := Hid.of (HLI.out (by first | rfl | trivial))
  clear HLI
  by_cases ha0 : a < 0
  · go_wp2_with fail
    refine (tiersAlive_any S _ (S.okKept OK.out B3.out)).mono ?_
    rintro e w9 ⟨rfl, b9⟩
    have B9 := Hid.of (B3.out.trans (b9.mono B3.out.size))
    go_wp2
    go_ret
    exact ⟨rfl, B9.out⟩
  by_cases ha1 : 1000 < a
  · go_wp2_with fail
    refine (tiersAlive_any S _ (S.okKept OK.out B3.out)).mono ?_
    rintro e w9 ⟨rfl, b9⟩
    have B9 := Hid.of (B3.out.trans (b9.mono B3.out.size))
    go_wp2
    go_ret
    exact ⟨rfl, B9.out⟩
  by_cases hb0 : b < 0
  · go_wp2_with fail
    refine (tiersAlive_any S _ (S.okKept OK.out B3.out)).mono ?_
    rintro e w9 ⟨rfl, b9⟩
    have B9 := Hid.of (B3.out.trans (b9.mono B3.out.size))
    go_wp2
    go_ret
    exact ⟨rfl, B9.out⟩
  by_cases hb1 : 1000 < b
  · go_wp2_with fail
    refine (tiersAlive_any S _ (S.okKept OK.out B3.out)).mono ?_
    rintro e w9 ⟨rfl, b9⟩
    have B9 := Hid.of (B3.out.trans (b9.mono B3.out.size))
    go_wp2
    go_ret
    exact ⟨rfl, B9.out⟩
  obtain ⟨q0, q1⟩ := K3.out.at
  have hnew := S.new (.agg #[.string pn, ps]) (.slice none 0 0) (pn, pt) now [] w3 (S.okKept OK.out B3.out) (HP0.out.kept B3.out) PS.out.2.1 PS.out.1 (fun x hx => ⟨PS.out.2.2 x hx, (FP.out x hx).2⟩) HN.out ⟨_, _, rfl, .inl rfl⟩ (Nat.le_refl _) (by decide) (fun x hx => absurd hx List.not_mem_nil)
  go_wp2_with fail
  refine hnew.mono ?_
  rintro e w4 ⟨h1, h2, b4⟩
  have B4 := Hid.of (B3.out.trans (b4.mono B3.out.size))
  clear q0 q1 K3
  by_cases he : iNewE (pn, pt) now [] = 0
  · obtain ⟨p, F, rfl, rep, hF⟩ := h1 he
    have hE := Hid.of he
    have H4 : Hid (IHere S w.heap.size w w4 p (now, (pn, pt), []) (List.replicate pt.length []) F) := Hid.of ⟨rep, fun k hk => Nat.le_trans B3.out.size (hF k (S.sub rep k hk)), B4.out.size, B4.out⟩
    clear rep hF b4 h1 h2 hnew he B3
    by_cases hn1 : 1000000 < now
    · go_wp2_with fail
      refine (tiersAlive_any S _ (S.okKept OK.out B4.out)).mono ?_
      rintro e w9 ⟨rfl, b9⟩
      have B9 := Hid.of (B4.out.trans (b9.mono B4.out.size))
      go_wp2
      go_ret
      exact ⟨rfl, B9.out⟩
    clear B4
    have HN50 : N ≤ 50 := by have := LI.out.1; rw [NL.out] at this; exact this
    go_wp2
    go_loopg [13] N (fun kx iv wr => ∃ (i : Nat) (T : List (List TRec)) (G : TFoot), iv = .int .i64 i ∧ i ≤ N ∧ N - i ≤ kx ∧ Hid (∀ x ∈ T, x.length ≤ 8 * i) ∧ Hid (IHere S w.heap.size w wr p (now, (pn, pt), []) T G))
    case atStart => exact ⟨0, _, F, rfl, Nat.zero_le _, Nat.le_refl _, Hid.of (fun x hx => by rw [List.eq_of_mem_replicate hx]; exact Nat.le_refl _), H4⟩
    case round =>
      clear H4
      obtain ⟨i, T, G, rfl, hiN, hkx, HT, H⟩ := hrel
      by_cases hlt : (i : Int) < (N : Int)
      · obtain ⟨o, ho⟩ : ∃ o, l[i]? = some o := ⟨_, List.getElem?_eq_getElem (by have := NL.out; omega)⟩
        have hom := List.mem_of_getElem? ho
        have OI := Hid.of (HL.out.2 o hom)
        have OL := Hid.of (LI.out.2 o hom)
        obtain ⟨bq, o1, rfl, hb1, c0, c1, c2, c3⟩ := iop_at (HR.out.kept H.out.fr) i o ho
        have hi0 : (0 : Int) ≤ (i : Int) := by omega
        have HIN : Hid (i < N) := Hid.of (by omega)
        clear ho hom hb1 c1 c3
        by_cases hk : o.k = 1
        · have hle : ∀ x ∈ T, x.length + 8 ≤ 1000 := fun x hx => by have := HT.out x hx; omega
          have hput := S.put _ o.ss (H.out.ok OK.out) H.out.rep hle (OI.out.s.kept H.out.fr) OI.out.sc (by have := OL.out.1.1; omega) (fun hne => off_in OI.out.s (sams_ne hne) H.out.ge) OI.out.sf
          clear hle
          go_wp2_with fail
          refine hput.mono ?_
          rintro e w5 ⟨rfl, G5, rep5, st5⟩
          have H5 := Hid.of (H.out.step rep5 st5)
          clear rep5 st5 hput H c0 c2
          go_wp2
          go_roundg (N - (i + 1))
          case measure => have := HIN.out; omega
          case rel =>
            refine ⟨i + 1, _, G5, by go_num, HIN.out, Nat.le_refl _, Hid.of (fun x hx => ?_), H5⟩
            split at hx
            · rename_i hc
              have := iPut_le HT.out x hx
              have := iCheck_len hc
              omega
            · have := HT.out x hx
              omega
        · go_wp2
          go_roundg (N - (i + 1))
          case measure => have := HIN.out; omega
          case rel => exact ⟨i + 1, T, G, by go_num, HIN.out, Nat.le_refl _, Hid.of (fun x hx => by have := HT.out x hx; omega), H⟩
      · obtain rfl : i = N := by omega
        have hle : ∀ x ∈ T, x.length ≤ 1000 := fun x hx => by have := HT.out x hx; omega
        have LE := Hid.of hle
        have GD := Hid.of (S.good H.out.rep)
        have nw0 : 0 ≤ now := GD.out.n0
        have T1 : iTickE (now, (pn, pt), []) a = 0 := by unfold iTickE maxT; rw [if_neg (by omega), if_neg (by show ¬ 1099511627776 - now < a; omega)]
        have T2 : iTickE (iNow (now, (pn, pt), []) a) b = 0 := by unfold iTickE maxT; rw [if_neg (by omega), if_neg (by show ¬ 1099511627776 - (now + a) < b; omega)]
        have T3 : iTickE (now, (pn, pt), []) (a + b) = 0 := by unfold iTickE maxT; rw [if_neg (by omega), if_neg (by show ¬ 1099511627776 - now < a + b; omega)]
        have TW : Hid (iKeep (iNow (iNow (now, (pn, pt), []) a) b) (iKeep (iNow (now, (pn, pt), []) a) T) = iKeep (iNow (now, (pn, pt), []) (a + b)) T) := Hid.of (iKeep_twice GD.out (by omega) (by unfold maxT; show a ≤ 1099511627776 - now; omega) (by omega) (by omega))
        have E1 := Hid.of T1
        have E2 := Hid.of T2
        have E3 := Hid.of T3
        have hcp := S.copy (H.out.ok OK.out) H.out.rep hle
        clear hle T1 T2 T3
        go_wp2_with fail
        refine hcp.mono ?_
        rintro e w5 ⟨q, G2, rfl, rep5, g1, g2, b5⟩
        have P5 := Hid.of (H.out.pair b5 rep5 g1 g2)
        clear rep5 g1 g2 b5 hcp H
        go_wp2_with fail
        refine (tiersAlive_any S _ (P5.out.a.ok OK.out)).mono ?_
        rintro e w6 ⟨rfl, b6⟩
        have P6 := Hid.of (P5.out.next b6)
        clear b6 P5
        go_wp2_with fail
        refine (S.tick a (P6.out.a.ok OK.out) P6.out.a.rep LE.out HA.out).mono ?_
        rintro e w7 ⟨rfl, F7, rep7, st7⟩
        rw [E1.out, if_pos rfl, if_pos rfl] at rep7
        rw [E1.out]
        have P7 := Hid.of (P6.out.step rep7 st7)
        clear rep7 st7 P6
        go_wp2_with fail
        refine (S.tick b (P7.out.a.ok OK.out) P7.out.a.rep (iKeep_le LE.out) HBB.out).mono ?_
        rintro e w8 ⟨rfl, F8, rep8, st8⟩
        rw [E2.out, if_pos rfl, if_pos rfl] at rep8
        rw [E2.out]
        have P8 := Hid.of (P7.out.step rep8 st8)
        clear rep8 st8 P7
        have hsum : In64 (a + b) := by unfold In64; omega
        have HSU := Hid.of hsum
        clear hsum
        go_wp2_with fail
        refine (S.tick (a + b) (P8.out.b.ok OK.out) P8.out.b.rep LE.out HSU.out).mono ?_
        rintro e w9 ⟨rfl, F9, rep9, st9⟩
        rw [E3.out, if_pos rfl, if_pos rfl] at rep9
        rw [E3.out]
        have P9 := Hid.of (P8.out.swap.step rep9 st9).swap
        clear rep9 st9 P8
        have SM : ISame (iNow (iNow (now, (pn, pt), []) a) b) (iNow (now, (pn, pt), []) (a + b)) (iKeep (iNow (iNow (now, (pn, pt), []) a) b) (iKeep (iNow (now, (pn, pt), []) a) T)) (iKeep (iNow (now, (pn, pt), []) (a + b)) T) := by
          have e : iNow (iNow (now, (pn, pt), []) a) b = iNow (now, (pn, pt), []) (a + b) := by unfold iNow; simp only; rw [Int.add_assoc]
          rw [TW.out, e]
          exact ⟨rfl, rfl, rfl, rfl⟩
        have SMH := Hid.of SM
        clear SM
        go_wp2_with fail
        refine (S.same (P9.out.a.ok OK.out) P9.out.a.rep P9.out.b.rep (iKeep_le (iKeep_le LE.out)) (iKeep_le LE.out)).mono ?_
        rintro e w10 ⟨s1, rfl, hs1, b10⟩
        obtain rfl : s1 = true := hs1.out.2 SMH.out
        have P10 := Hid.of (P9.out.next b10)
        clear b10 hs1 P9
        go_wp2_with fail
        refine (S.same (P10.out.a.ok OK.out) P10.out.b.rep P10.out.a.rep (iKeep_le LE.out) (iKeep_le (iKeep_le LE.out))).mono ?_
        rintro e w11 ⟨s2, rfl, hs2, b11⟩
        obtain rfl : s2 = true := hs2.out.2 SMH.out.symm
        have P11 := Hid.of (P10.out.next b11)
        clear b11 hs2 P10
        go_wp2
        go_ret
        exact ⟨rfl, P11.out.a.fr⟩
  · obtain rfl := h2 he
    obtain ⟨er, her⟩ : ∃ er, iNewE (pn, pt) now [] = er := ⟨_, rfl⟩
    rw [her] at he ⊢
    clear her h1 h2 b4 hnew
    go_wp2_with fail
    refine (tiersAlive_any S _ (S.okKept OK.out B4.out)).mono ?_
    rintro e w9 ⟨rfl, b9⟩
    have B9 := Hid.of (B4.out.trans (b9.mono B4.out.size))
    go_wp2
    go_ret
    exact ⟨rfl, B9.out⟩

end Go.Proofs.YtnohmloilcpmiaaGreat
