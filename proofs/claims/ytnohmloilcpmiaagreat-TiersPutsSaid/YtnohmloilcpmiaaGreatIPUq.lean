/-
  What statement TiersPuts answers: true, for every input.
-/
import Derived.Test.YtnohmloilcpmiaaGreatITKq
namespace Go.Proofs.YtnohmloilcpmiaaGreat
open Go.RowKit Go.Lib

/-- The first i samples that are put one by one: from the front, or from the back. -/
def pDone (ss : List SamL) (back : Bool) (i : Nat) : List SamL := if back = true then (ss.drop (ss.length - i)).reverse else ss.take i
def pIdx (n : Nat) (back : Bool) (i : Nat) : Nat := if back = true then n - 1 - i else i

theorem pDone_start (ss : List SamL) (back : Bool) : pDone ss back 0 = [] := by
  unfold pDone
  split
  · rw [Nat.sub_zero, List.drop_length]; rfl
  · rfl
theorem pDone_next {ss : List SamL} {back : Bool} {i : Nat} {s : SamL} (hi : i < ss.length) (h : ss[pIdx ss.length back i]? = some s) : pDone ss back (i + 1) = pDone ss back i ++ [s] := by
  unfold pDone
  unfold pIdx at h
  cases back with
  | false => exact take_next h
  | true =>
    simp only [if_true] at h ⊢
    obtain ⟨hk, hs⟩ := List.getElem?_eq_some_iff.1 h
    rw [show ss.length - (i + 1) = ss.length - 1 - i by omega, List.drop_eq_getElem_cons hk, hs, show ss.length - 1 - i + 1 = ss.length - i by omega, List.reverse_cons]
theorem pDone_end (ss : List SamL) (back : Bool) : (pDone ss back ss.length).Perm ss := by
  unfold pDone
  split
  · rw [Nat.sub_self, List.drop_zero]; exact List.reverse_perm ss
  · rw [List.take_length]
theorem pDone_len (ss : List SamL) (back : Bool) (i : Nat) : (pDone ss back i).length ≤ i := by
  unfold pDone
  split
  · rw [List.length_reverse, List.length_drop]; omega
  · exact List.length_take_le ..

theorem one_check {r : RchL} {ss : List SamL} (h : iCheck r ss = 0) {s : SamL} (hs : s ∈ ss) : iCheck r [s] = 0 := by
  have h1 := iTakes_zero.1 (iCheck_len h).2.2 s hs
  unfold iCheck
  rw [if_neg (by simp), if_neg (show ¬ 8 < [s].length from (by decide : ¬ 8 < 1))]
  exact iTakes_zero.2 (fun x hx => by rw [List.mem_singleton.1 hx]; exact h1)

theorem one_below (w : World) (s : SamL) : Below w.heap.size w (w.alloc (.cells #[.string s.1, .int .i64 s.2.1, .int .i64 s.2.2] 23)) := (Below.refl _ _).alloc (Nat.le_refl _) _

set_option maxRecDepth 20000 in
set_option maxHeartbeats 6400000 in
theorem tiersPuts_main {TS : TableSpec} (S : TiersSpec TS) (pv sv : Value) (p : PolL) (now : Int) (ss : List SamL) (back : Bool) (w : World) (hS : S.Ok w) (hp : PolRow w pv p) (fp : ∀ x ∈ p.2, TIn x) (hn : In64 now) (hs : CellRow w sv ss.length (flat aenc ss)) (hc : CapOk sv) (fs : ∀ s ∈ ss, SFit s) :
    Calls Tryz.prog 5 #[pv, .int .i64 now, sv, .bool back] w fun e w' => e = .returned (.bool true) ∧ Below w.heap.size w w' := by
  have HP0 := Hid.of hp
  obtain ⟨pn, pt⟩ := p
  obtain ⟨ps, rfl, -, -⟩ := hp
  obtain ⟨w1, hw1⟩ : ∃ w1, w.alloc (.cells #[.string pn, ps] 44) = w1 := ⟨_, rfl⟩
  obtain ⟨z, hz⟩ : ∃ z, w.heap.size = z := ⟨_, rfl⟩
  have B1 : Hid (Below w.heap.size w w1) := Hid.of (by rw [← hw1]; exact (Below.refl _ _).alloc (Nat.le_refl _) _)
  have K1 : Hid (PBlk w1 z pn ps) := Hid.of (by rw [← hw1, ← hz]; exact PBlk.made w pn ps)
  have OK := Hid.of hS
  have FP := Hid.of fp
  have FS := Hid.of fs
  have HV0 := Hid.of hs
  have HC := Hid.of hc
  obtain ⟨va, vc, rfl, -⟩ := hs
  obtain ⟨N, hN⟩ : ∃ N, ss.length = N := ⟨_, rfl⟩
  have NL := Hid.of hN
  have HV : Hid (CellRow w (.slice va N vc) N (flat aenc ss)) := Hid.of (by rw [← hN]; exact HV0.out)
  have hsm := Small_any _ (pn, pt) w1 (HP0.out.kept B1.out)
  have HN := Hid.of hn
  rw [hN] at HC ⊢
  have HW := Hid.of hw1
  have HZ := Hid.of hz
  obtain ⟨q0, q1⟩ := K1.out.at
  clear hS fp fs hN hw1 hz hn hc
  go_enter Tryz.func5, Tryz.ntmps5
  go_upto_region 1 with fail
  rw [HW.out, HZ.out]
  clear HW HZ
  go_wp2_with fail
  refine hsm.mono ?_
  rintro e w2 ⟨small, rfl, HSM, b2⟩
  have B2 := Hid.of (B1.out.trans (b2.mono B1.out.size))
  have K2 := Hid.of (K1.out.kept b2)
  clear b2 hsm q0 q1 K1 B1
  cases small
  · go_wp2_with fail
    refine (tiersAlive_any S _ (S.okKept OK.out B2.out)).mono ?_
    rintro e w9 ⟨rfl, b9⟩
    have B9 := Hid.of (B2.out.trans (b9.mono B2.out.size))
    go_wp2
    go_ret
    exact ⟨rfl, B9.out⟩
  have PS := Hid.of (HSM.out (by first | rfl | trivial))
  clear HSM
  have hsom := Some_any 8 (.slice va ss.length vc) ss w2 (HV0.out.kept B2.out) (by decide)
  rw [NL.out] at hsom
  go_wp2_with fail
  refine hsom.mono ?_
  rintro e w3 ⟨light, rfl, HLI, b3⟩
  have B3 := Hid.of (B2.out.trans (b3.mono B2.out.size))
  have K3 := Hid.of (K2.out.kept b3)
  clear b3 hsom K2 B2
  cases light
  · go_wp2_with fail
    refine (tiersAlive_any S _ (S.okKept OK.out B3.out)).mono ?_
    rintro e w9 ⟨rfl, b9⟩
    have B9 := Hid.of (B3.out.trans (b9.mono B3.out.size))
    go_wp2
    go_ret
    exact ⟨rfl, B9.out⟩
  have hN8 : N ≤ 8 := by have := (HLI.out (by first | rfl | trivial)).1; rw [NL.out] at this; exact this
  clear HLI
  obtain ⟨q0, q1⟩ := K3.out.at
  have hnew := S.new (.agg #[.string pn, ps]) (.slice none 0 0) (pn, pt) now [] w3 (S.okKept OK.out B3.out) (HP0.out.kept B3.out) PS.out.2.1 PS.out.1 (fun x hx => ⟨PS.out.2.2 x hx, (FP.out x hx).2⟩) HN.out ⟨_, _, rfl, .inl rfl⟩ (Nat.le_refl _) (by decide) (fun x hx => absurd hx List.not_mem_nil)
  go_wp2_with fail
  refine hnew.mono ?_
  rintro e w4 ⟨h1, h2, b4⟩
  have B4 := Hid.of (B3.out.trans (b4.mono B3.out.size))
  have K4 := Hid.of (K3.out.kept b4)
  clear q0 q1 K3
  obtain ⟨q0, q1⟩ := K4.out.at
  have hnew2 := S.new (.agg #[.string pn, ps]) (.slice none 0 0) (pn, pt) now [] w4 (S.okKept OK.out B4.out) (HP0.out.kept B4.out) PS.out.2.1 PS.out.1 (fun x hx => ⟨PS.out.2.2 x hx, (FP.out x hx).2⟩) HN.out ⟨_, _, rfl, .inl rfl⟩ (Nat.le_refl _) (by decide) (fun x hx => absurd hx List.not_mem_nil)
  by_cases he : iNewE (pn, pt) now [] = 0
  · obtain ⟨p, F, rfl, rep, hF⟩ := h1 he
    have H4 : Hid (IHere S w.heap.size w w4 p (now, (pn, pt), []) (List.replicate pt.length []) F) := Hid.of ⟨rep, fun k hk => Nat.le_trans B3.out.size (hF k (S.sub rep k hk)), B4.out.size, B4.out⟩
    have hE := Hid.of he
    clear rep hF b4 h1 h2 hnew he B3
    go_wp2_with fail
    refine hnew2.mono ?_
    rintro e w5 ⟨h1, -, b5⟩
    obtain ⟨q, F2, rfl, rep2, hF2⟩ := h1 hE.out
    have P5 : Hid (IPair S w.heap.size w w5 p (now, (pn, pt), []) (List.replicate pt.length []) F q (now, (pn, pt), []) (List.replicate pt.length []) F2) := Hid.of (H4.out.pair b5 rep2 (fun k hk => hF2 k (S.sub rep2 k hk)) (fun k hk hf => by
      have := S.lt H4.out.rep k (S.sub H4.out.rep k hf)
      have := hF2 k hk
      omega))
    clear rep2 hF2 b5 h1 hnew2 H4 B4 K4 q0 q1
    have T0 : Hid (∀ x ∈ List.replicate pt.length ([] : List TRec), x.length ≤ 0) := Hid.of (fun x hx => by rw [List.eq_of_mem_replicate hx]; exact Nat.le_refl _)
    have hput := S.put _ ss (P5.out.a.ok OK.out) P5.out.a.rep (fun x hx => by have := T0.out x hx; omega) (HV0.out.kept P5.out.a.fr) (by rw [NL.out]; exact HC.out) (by rw [NL.out]; omega) (fun hne => off_in HV0.out (sams_ne hne) P5.out.a.ge) FS.out
    rw [NL.out] at hput
    go_wp2_with fail
    refine hput.mono ?_
    rintro e w6 ⟨rfl, F6, rep6, st6⟩
    have P6 := Hid.of (P5.out.step rep6 st6)
    clear rep6 st6 hput P5
    by_cases hck : iCheck (now, (pn, pt), []) ss = 0
    · rw [if_pos hck] at P6
      rw [hck]
      have CK := Hid.of hck
      have B6 := Hid.of P6.out.a.fr
      clear hck
      go_wp2
      have LE : Hid (∀ (i : Nat) (x : List TRec), x ∈ iPut (now, (pn, pt), []) (List.replicate pt.length []) (pDone ss back i) → x.length ≤ i) := Hid.of (fun i x hx => by
        have h1 := iPut_le T0.out x hx
        have h2 := pDone_len ss back i
        omega)
      go_loopg [13] N (fun kx iv wr => ∃ (i : Nat) (G : TFoot), iv = .int .i64 i ∧ i ≤ N ∧ N - i ≤ kx ∧ Hid (IPair S w.heap.size w wr p (now, (pn, pt), []) (iPut (now, (pn, pt), []) (List.replicate pt.length []) ss) F6 q (now, (pn, pt), []) (iPut (now, (pn, pt), []) (List.replicate pt.length []) (pDone ss back i)) G))
      case atStart => exact ⟨0, F2, rfl, Nat.zero_le _, Nat.le_refl _, Hid.of (by rw [pDone_start, iPut_nil]; exact P6.out)⟩
      case round =>
        clear P6 B6
        obtain ⟨i, G, rfl, hiN, hkx, H⟩ := hrel
        by_cases hlt : (i : Int) < (N : Int)
        · have HIN : Hid (i < N) := Hid.of (by omega)
          have hi0 : (0 : Int) ≤ (i : Int) := by omega
          obtain ⟨k, hk⟩ : ∃ k, pIdx N back i = k := ⟨_, rfl⟩
          have hkN : k < N := by rw [← hk]; unfold pIdx; split <;> omega
          obtain ⟨s, hss⟩ : ∃ s, ss[k]? = some s := ⟨_, List.getElem?_eq_getElem (by have := NL.out; omega)⟩
          have SM := Hid.of (List.mem_of_getElem? hss)
          have SF := Hid.of (FS.out s SM.out)
          have NX := Hid.of (pDone_next (back := back) (i := i) (s := s) (by rw [NL.out]; exact HIN.out) (by rw [NL.out, hk]; exact hss))
          obtain ⟨bq, o1, rfl, hb1, c0, c1, c2⟩ := a_at (HV.out.kept H.out.a.fr) k s hss
          have hk0 : (0 : Int) ≤ (k : Int) := by omega
          have hkN' : (k : Int) < (N : Int) := by omega
          clear hss hb1
          cases back
          · obtain rfl : i = k := by rw [← hk]; rfl
            clear hk
            have hput := S.put (.slice (some ⟨wr.heap.size, 0, none⟩) 1 1) [s] (H.out.a.ok OK.out |> fun k => S.okKept k (one_below wr s)) (H.out.next (one_below wr s)).b.rep (fun x hx => by have := LE.out _ x hx; omega) (one_sam wr s _) (Nat.le_refl _) (show 1 ≤ 1000 by decide) (fun _ g hg hF => by
              have := S.lt H.out.b.rep g (S.sub H.out.b.rep g hF)
              simp [Value.ownBlock] at hg
              omega) (fun y hy => by rw [List.mem_singleton.1 hy]; exact SF.out)
            rw [one_check CK.out SM.out] at hput
            have H1 := Hid.of (H.out.next (one_below wr s))
            go_wp2_with fail
            clear c0 c1 c2
            refine hput.mono ?_
            rintro e w7 ⟨rfl, F7, rep7, st7⟩
            rw [if_pos trivial] at rep7
            have rep8 : S.Rep w7 q (now, (pn, pt), []) (iPut (now, (pn, pt), []) (List.replicate pt.length []) (pDone ss false (i + 1))) F7 := by
              rw [NX.out, iPut_append]
              exact rep7
            have P8 := Hid.of (H1.out.swap.step rep8 st7).swap
            clear rep7 rep8 st7 hput H H1
            go_wp2
            go_roundg (N - (i + 1))
            case measure => have := HIN.out; omega
            case rel => exact ⟨i + 1, F7, by go_num, HIN.out, Nat.le_refl _, P8⟩
          · have hkI : (N : Int) - 1 - (i : Int) = (k : Int) := by rw [← hk]; unfold pIdx; rw [if_pos rfl]; omega
            clear hk
            go_upto_region 13 with fail
            clear hkI
            have hput := S.put (.slice (some ⟨wr.heap.size, 0, none⟩) 1 1) [s] (H.out.a.ok OK.out |> fun k => S.okKept k (one_below wr s)) (H.out.next (one_below wr s)).b.rep (fun x hx => by have := LE.out _ x hx; omega) (one_sam wr s _) (Nat.le_refl _) (show 1 ≤ 1000 by decide) (fun _ g hg hF => by
              have := S.lt H.out.b.rep g (S.sub H.out.b.rep g hF)
              simp [Value.ownBlock] at hg
              omega) (fun y hy => by rw [List.mem_singleton.1 hy]; exact SF.out)
            rw [one_check CK.out SM.out] at hput
            have H1 := Hid.of (H.out.next (one_below wr s))
            go_wp2_with fail
            clear c0 c1 c2
            refine hput.mono ?_
            rintro e w7 ⟨rfl, F7, rep7, st7⟩
            rw [if_pos trivial] at rep7
            have rep8 : S.Rep w7 q (now, (pn, pt), []) (iPut (now, (pn, pt), []) (List.replicate pt.length []) (pDone ss true (i + 1))) F7 := by
              rw [NX.out, iPut_append]
              exact rep7
            have P8 := Hid.of (H1.out.swap.step rep8 st7).swap
            clear rep7 rep8 st7 hput H H1
            go_wp2
            go_roundg (N - (i + 1))
            case measure => have := HIN.out; omega
            case rel => exact ⟨i + 1, F7, by go_num, HIN.out, Nat.le_refl _, P8⟩
        · obtain rfl : i = N := by omega
          have hsame : iPut (now, (pn, pt), []) (List.replicate pt.length []) (pDone ss back i) = iPut (now, (pn, pt), []) (List.replicate pt.length []) ss := by
            have := pDone_end ss back
            rw [NL.out] at this
            exact (iPut_perm FS.out this.symm).symm
          rw [hsame] at H
          have HB : Hid (∀ x ∈ iPut (now, (pn, pt), []) (List.replicate pt.length []) ss, x.length ≤ 1000) := Hid.of (fun x hx => by
            have h1 := iPut_le T0.out x hx
            have := NL.out
            omega)
          have H0 := Hid.of H.out
          clear hsame H LE
          go_wp2_with fail
          refine (tiersAlive_any S _ (H0.out.a.ok OK.out)).mono ?_
          rintro e w7 ⟨rfl, b7⟩
          have P7 := Hid.of (H0.out.next b7)
          clear b7 H0
          go_wp2_with fail
          refine (S.same (P7.out.a.ok OK.out) P7.out.a.rep P7.out.b.rep HB.out HB.out).mono ?_
          rintro e w8 ⟨s1, rfl, hs1, b8⟩
          obtain rfl : s1 = true := hs1.out.2 ⟨rfl, rfl, rfl, rfl⟩
          have P8 := Hid.of (P7.out.next b8)
          clear b8 hs1 P7
          go_wp2_with fail
          refine (S.need (P8.out.a.ok OK.out) P8.out.a.rep HB.out).mono ?_
          rintro e w9 ⟨rfl, b9⟩
          have P9 := Hid.of (P8.out.next b9)
          clear b9 P8
          go_wp2_with fail
          refine (S.need (P9.out.a.ok OK.out) P9.out.b.rep HB.out).mono ?_
          rintro e w10 ⟨rfl, b10⟩
          have P10 := Hid.of (P9.out.next b10)
          clear b10 P9
          go_wp2_with fail
          refine (S.len (P10.out.a.ok OK.out) P10.out.a.rep HB.out).mono ?_
          rintro e w11 ⟨rfl, b11⟩
          have P11 := Hid.of (P10.out.next b11)
          clear b11 P10
          go_wp2_with fail
          refine (S.len (P11.out.a.ok OK.out) P11.out.b.rep HB.out).mono ?_
          rintro e w12 ⟨rfl, b12⟩
          have P12 := Hid.of (P11.out.next b12)
          clear b12 P11
          go_wp2
          go_ret
          exact ⟨rfl, P12.out.a.fr⟩
    · obtain ⟨er, her⟩ : ∃ er, iCheck (now, (pn, pt), []) ss = er := ⟨_, rfl⟩
      rw [her] at hck ⊢
      have B6 := Hid.of P6.out.a.fr
      clear her
      go_wp2_with fail
      refine (tiersAlive_any S _ (S.okKept OK.out B6.out)).mono ?_
      rintro e w9 ⟨rfl, b9⟩
      have B9 := Hid.of (B6.out.trans (b9.mono B6.out.size))
      go_wp2
      go_ret
      exact ⟨rfl, B9.out⟩
  · obtain rfl := h2 he
    obtain ⟨er, her⟩ : ∃ er, iNewE (pn, pt) now [] = er := ⟨_, rfl⟩
    have hE := Hid.of he
    rw [her] at he ⊢
    clear h1 h2 b4 hnew
    go_wp2_with fail
    refine hnew2.mono ?_
    rintro e w5 ⟨-, h2, b5⟩
    obtain rfl := h2 hE.out
    have B5 := Hid.of (B4.out.trans (b5.mono B4.out.size))
    rw [her]
    clear her h2 b5 hnew2 q0 q1
    go_wp2_with fail
    refine (tiersAlive_any S _ (S.okKept OK.out B5.out)).mono ?_
    rintro e w9 ⟨rfl, b9⟩
    have B9 := Hid.of (B5.out.trans (b9.mono B5.out.size))
    go_wp2
    go_ret
    exact ⟨rfl, B9.out⟩

end Go.Proofs.YtnohmloilcpmiaaGreat
