/-
  A bundle of texts: IEI IEF.
-/
import Derived.Test.YtnohmloilcpmiaaGreatS45
import Derived.Test.YtnohmloilcpmiaaGreatS24
import Derived.Test.YtnohmloilcpmiaaGreatS05
import Derived.Test.YtnohmloilcpmiaaGreatS39
namespace Go.Proofs.YtnohmloilcpmiaaGreat
open Go.RowKit Go.Lib

theorem OwnRch.mono {B B' : Nat} {w : World} {v : Value} {r : RchL} (h : OwnRch B w v r) (hb : B' ≤ B) : OwnRch B' w v r := by
  obtain ⟨s, f, hv, h1, h2, h3⟩ := h
  exact ⟨s, f, hv, own_mono h1 hb, own_mono h2 hb, h3⟩

set_option maxRecDepth 20000 in
set_option maxHeartbeats 6400000 in
theorem inew_any {TS : TableSpec} (v f : Value) (p : PolL) (now : Int) (fl : List Int) (w : World) (hv : PolRow w v p) (h60 : p.1.size ≤ 60) (h10 : p.2.length ≤ 10) (ht : ∀ x ∈ p.2, x.1.size ≤ 60 ∧ In64 x.2.1 ∧ In64 x.2.2.1 ∧ In64 x.2.2.2) (hn : In64 now) (hf : CellRow w f fl.length (fl.map (Value.int .i64))) (hfc : CapOk f) (hfl : fl.length ≤ 1000) (hx : ∀ x ∈ fl, In64 x) :
    Calls Tryz.prog 24 #[v, .int .i64 now, f] w fun x w' => (iNewE p now fl = 0 → ∃ q F, x = .returned (.tuple #[tptr q, .int .i64 0]) ∧ IRep TS w' q (now, p, fl) (List.replicate p.2.length []) F ∧ (∀ k, F.all k → w.heap.size ≤ k)) ∧ (iNewE p now fl ≠ 0 → x = .returned (.tuple #[.pointer none, .int .i64 (iNewE p now fl)])) ∧ Below w.heap.size w w' := by
  have PF : PFit p := ⟨by omega, by omega, fun x hx => ⟨by have := (ht x hx).1; omega, (ht x hx).2⟩⟩
  have RF : Hid (RFit (now, p, fl)) := Hid.of ⟨hn, PF, by show fl.length ≤ _; omega, hx⟩
  have HV := Hid.of hv
  have HF := Hid.of hf
  have HFC := Hid.of hfc
  have HFL := Hid.of hfl
  obtain ⟨s, rfl, hs, hsc⟩ := hv
  obtain ⟨pn, pt⟩ := p
  obtain ⟨w1, hw1⟩ : ∃ w1, w.alloc (.cells #[.string pn, s] 44) = w1 := ⟨_, rfl⟩
  obtain ⟨z, hz⟩ : ∃ z, w.heap.size = z := ⟨_, rfl⟩
  have b1 : Below w.heap.size w w1 := by rw [← hw1]; exact (Below.refl _ _).alloc (Nat.le_refl _) _
  have k1 : PBlk w1 z pn s := by rw [← hw1, ← hz]; exact PBlk.made w pn s
  have HS := Hid.of hs
  obtain ⟨sa, sc, rfl, -⟩ := hs
  obtain ⟨fa, fc, rfl, -⟩ := hf
  simp only at HS hw1 k1 h10 ht h60
  obtain ⟨N, hN⟩ : ∃ N, pt.length = N := ⟨_, rfl⟩
  have HN := Hid.of hN
  rw [hN] at HS hw1 k1 h10
  have hpr : PolRow w1 (.agg #[.string pn, .slice sa N sc]) (pn, pt) := by
    have := HV.out.kept b1
    unfold polVal at this
    rw [hN] at this
    exact this
  have hck := check_any _ (pn, pt) w1 PF hpr
  have HPR := Hid.of hpr
  have B1 := Hid.of b1
  have K1 := Hid.of k1
  have HPT := Hid.of PF
  have H10 := Hid.of h10
  obtain ⟨ce, hce⟩ : ∃ ce, (pCheck (pn, pt)).1 = ce := ⟨_, rfl⟩
  obtain ⟨cl, hcl⟩ : ∃ cl, (pCheck (pn, pt)).2 = cl := ⟨_, rfl⟩
  rw [hce, hcl] at hck
  obtain ⟨er, her⟩ : ∃ er, iNewE (pn, pt) now fl = er := ⟨_, rfl⟩
  have HER := Hid.of her
  rw [her]
  have HCE := Hid.of hce
  have HW := Hid.of hw1
  have HZ : Hid (w.heap.size = z) := Hid.of hz
  obtain ⟨c0, c1⟩ := k1.at
  unfold polVal
  show Calls _ _ #[.agg #[.string pn, .slice sa pt.length sc], _, _] _ _
  rw [hN]
  clear hpr b1 k1 PF hx hn hfl hfc hce hcl her hw1 hz hsc hN h10 ht h60 HV
  by_cases h0 : ce = 0
  case neg =>
    have HE : Hid (er = ce) := Hid.of (by rw [← HER.out]; unfold iNewE; rw [HCE.out, if_pos h0])
    have k0 : (ce != 0) = true := by simp [h0]
    go_enter Tryz.func24, Tryz.ntmps24
    go_upto_region 1 with fail
    rw [HW.out, HZ.out]
    clear HW
    go_wp2_with fail
    refine hck.mono ?_
    rintro e w2 ⟨rfl, b2⟩
    have B2 := Hid.of (B1.out.trans (b2.mono B1.out.size))
    clear b2 hck c0 c1
    go_wp2
    go_ret2
    rw [HE.out]
    exact ⟨fun c => absurd c h0, fun _ => rfl, B2.out⟩
  subst h0
  have HE : Hid (er = if now < 0 ∨ maxT < now ∨ pt.length < fl.length ∨ flBad fl pt = true then 1 else 0) := Hid.of (by rw [← HER.out]; unfold iNewE; rw [HCE.out]; rfl)
  by_cases hn0 : now < 0
  · have HE1 : Hid (er = 1) := Hid.of (by rw [HE.out, if_pos (.inl hn0)])
    go_enter Tryz.func24, Tryz.ntmps24
    go_upto_region 1 with fail
    rw [HW.out, HZ.out]
    clear HW
    go_wp2_with fail
    refine hck.mono ?_
    rintro e w2 ⟨rfl, b2⟩
    have B2 := Hid.of (B1.out.trans (b2.mono B1.out.size))
    clear b2 hck c0 c1
    go_wp2
    go_ret2
    rw [HE1.out]
    exact ⟨fun c => absurd c (by decide), fun _ => rfl, B2.out⟩
  by_cases hn1 : now > 1099511627776
  · have HE1 : Hid (er = 1) := Hid.of (by rw [HE.out, if_pos (.inr (.inl (by unfold maxT; omega)))])
    go_enter Tryz.func24, Tryz.ntmps24
    go_upto_region 1 with fail
    rw [HW.out, HZ.out]
    clear HW
    go_wp2_with fail
    refine hck.mono ?_
    rintro e w2 ⟨rfl, b2⟩
    have B2 := Hid.of (B1.out.trans (b2.mono B1.out.size))
    clear b2 hck c0 c1
    go_wp2
    go_ret2
    rw [HE1.out]
    exact ⟨fun c => absurd c (by decide), fun _ => rfl, B2.out⟩
  obtain ⟨ff, hff⟩ : ∃ ff, flFit fl pt = ff := ⟨_, rfl⟩
  have HFF := Hid.of hff
  have hN0 := Hid.of hn0
  have hN1 := Hid.of hn1
  clear hff
  go_enter Tryz.func24, Tryz.ntmps24
  go_upto_region 1 with fail
  rw [HW.out, HZ.out]
  clear HW
  go_wp2_with fail
  refine hck.mono ?_
  rintro e w2 ⟨rfl, b2⟩
  have B2 := Hid.of (B1.out.trans (b2.mono B1.out.size))
  have K2 := Hid.of (K1.out.kept b2)
  have B12 := Hid.of b2
  have HS2 := Hid.of (HS.out.kept B2.out)
  have hfit := iFit_any (.slice sa N sc) (.slice fa fl.length fc) pt fl w2 (by rw [HN.out]; exact HS2.out) (HF.out.kept B2.out) (by have := H10.out; have := HN.out; omega) (by have := HFL.out; omega)
  rw [HFF.out] at hfit
  clear b2 hck c0 c1
  obtain ⟨c0, c1⟩ := K2.out.at
  go_wp2_with fail
  refine hfit.mono ?_
  rintro e w3 ⟨rfl, kd, hw3⟩
  have b3 : Below w2.heap.size w2 w3 := by rw [hw3]; exact below_drewN (Below.refl _ _) kd
  have B3 := Hid.of (B2.out.trans (b3.mono B2.out.size))
  have K3 := Hid.of (K2.out.kept b3)
  have B13 := Hid.of (B12.out.trans (b3.mono B12.out.size))
  clear hw3 b3 hfit c0 c1
  cases ff
  · have HE1 : Hid (er = 1) := Hid.of (by
      rw [HE.out, if_pos]
      have h := HFF.out
      unfold flFit at h
      simp only [Bool.and_eq_false_imp, decide_eq_true_eq, Bool.not_eq_false'] at h
      by_cases c : fl.length ≤ pt.length
      · exact .inr (.inr (.inr (h c)))
      · exact .inr (.inr (.inl (by omega))))
    go_wp2
    go_ret2
    rw [HE1.out]
    exact ⟨fun c => absurd c (by decide), fun _ => rfl, B3.out⟩
  · have HE0 : Hid (er = 0) := Hid.of (by
      rw [HE.out, if_neg]
      have h := HFF.out
      unfold flFit at h
      simp only [Bool.and_eq_true, decide_eq_true_eq, Bool.not_eq_true'] at h
      rintro (c | c | c | c)
      · have := hN0.out
        omega
      · unfold maxT at c
        have := hN1.out
        omega
      · omega
      · rw [h.2] at c
        cases c)
    have GD : Hid (IGood (now, (pn, pt), fl) (List.replicate pt.length [])) := Hid.of (IGood.new (HER.out.trans HE0.out))
    obtain ⟨i0, hi0, hz0, hz1, hz2⟩ := info_parts ptab_info
    have HI := Hid.of hi0
    have HZ0 := Hid.of hz0
    have HZ1 := Hid.of hz1
    have HZ2 := Hid.of hz2
    have hof := reaches.of _ (.slice fa fl.length fc) (pn, pt) now fl w3 trivial RF.out (HPR.out.kept B13.out) (HF.out.kept B3.out) HFC.out
    clear hi0 hz0 hz1 hz2 HE HS2 B1 B2 K1 K2 B12 B13
    obtain ⟨c0, c1⟩ := K3.out.at
    go_wp2_with fail
    refine hof.mono ?_
    rintro e w4 ⟨u, rfl, ou, b4⟩
    have B4 := Hid.of (B3.out.trans (b4.mono B3.out.size))
    obtain ⟨s2, f2, hu, G5⟩ := IGrow.new (TS := TS) (w0 := w) RF.out (ou.mono B3.out.size) B4.out
    subst hu
    obtain ⟨q, hq⟩ : ∃ q, w4.heap.size = q := ⟨_, rfl⟩
    obtain ⟨w5, hw5⟩ : ∃ w5, w4.alloc (.cells #[.int .i64 now, .string pn, s2, f2, .slice none 0 0] 69) = w5 := ⟨_, rfl⟩
    have b5 : Below w4.heap.size w4 w5 := by rw [← hw5]; exact (Below.refl _ _).alloc (Nat.le_refl _) _
    have GR5 : Hid (IGrow TS w w5 q (now, (pn, pt), fl) [] s2 f2 (.slice none 0 0) [] []) := Hid.of (by rw [← hw5, ← hq]; exact G5)
    have K5 := Hid.of ((K3.out.kept b4).kept b5)
    have HQ : Hid (w4.heap.size = q) := Hid.of hq
    have HW5 := Hid.of hw5
    clear b4 b5 ou hof c0 c1 K3 B3 B4 hq hw5 G5
    unfold rVal
    obtain ⟨c0, c1⟩ := K5.out.at
    go_upto_region 7 with fail
    rw [HW5.out, HQ.out]
    clear HW5 HQ
    go_wp2
    clear c0 c1
    go_loopg [12, 43] N (fun kx _ iv wr => ∃ (j : Nat) (v : Value) (qs : List Nat) (Fs : List TFoot), iv = .int .i64 j ∧ j ≤ N ∧ N - j ≤ kx ∧ Hid (IGrow TS w wr q (now, (pn, pt), fl) (List.replicate j []) s2 f2 v qs Fs))
    case atStart => exact ⟨0, _, [], [], rfl, Nat.zero_le _, Nat.le_refl _, GR5⟩
    case round =>
      clear GR5 K5
      obtain ⟨j, v, qs, Fs, rfl, hj, hk, GR⟩ := hrel
      have j0 : (0 : Int) ≤ (j : Int) := Int.natCast_nonneg _
      by_cases hlt : (j : Int) < (N : Int)
      · obtain ⟨t, ht⟩ : ∃ t, pt[j]? = some t := ⟨_, List.getElem?_eq_getElem (by have := HN.out; omega)⟩
        obtain ⟨b1, o1, rfl, g1, d0, d1, d2, d3⟩ := p_at (HS.out.kept GR.out.fr) j t ht
        have htk := tier_known GD.out.chk ht
        obtain ⟨t0, ev, t2, t3⟩ := t
        simp only at d0 d1 d2 d3 htk
        have HEV : Hid (tEv (now, (pn, pt), fl) (List.replicate j ([] : List TRec)).length = max ev 1) := Hid.of (by
          rw [List.length_replicate]
          unfold tEv
          show (match pt[j]? with | some t => t.2.1 | none => 1) = _
          rw [ht]
          show ev = _
          omega)
        have HE64 : Hid (TIn64 ev) := Hid.of ⟨by omega, by omega⟩
        have HJ : Hid (j < N) := Hid.of (by omega)
        have hj10 : j ≤ 10 := by have := H10.out; omega
        obtain ⟨va, vc, rfl, -⟩ := GR.out.is.tabs
        rw [List.length_replicate] at GR
        obtain ⟨y, hy⟩ : ∃ y, wr.heap.size = y := ⟨_, rfl⟩
        obtain ⟨w6, hw6⟩ : ∃ w6, wr.alloc (.cells #[.string t0, .int .i64 ev, .int .i64 t2, .int .i64 t3] 57) = w6 := ⟨_, rfl⟩
        have z6 : w6.heap[y]? = some (.cells #[.string t0, .int .i64 ev, .int .i64 t2, .int .i64 t3] 57 (0, 0)) := by rw [← hw6, ← hy]; exact (MapKept.heap_alloc wr _).1
        have b6 : Below wr.heap.size wr w6 := by rw [← hw6]; exact (Below.refl _ _).alloc (Nat.le_refl _) _
        have GR6 := Hid.of (GR.out.next b6)
        have HVY : Hid (∀ g, (Value.slice va j vc).ownBlock = some g → g < y) := Hid.of (fun g hg => by rw [← hy]; exact iown_lt GR.out.is.hv hg)
        have HQY : Hid (q < y) := Hid.of (by rw [← hy]; exact GR.out.is.lt_p)
        have CS6 : Hid (Cs w6 [(⟨y, 1, none⟩, .int .i64 ev)]) := Hid.of (.cons (Array.getElem?_eq_some_iff.1 z6).1 (by rw [cell_of_row _ _ _ _ _ _ z6]; rfl) (.nil _))
        clear ht g1 htk z6 b6 GR
        go_upto_region 10 with fail
        clear d0 d1 d2 d3 hy hw6
        obtain ⟨WD, hWD⟩ : ∃ WD, w6.drew = WD := ⟨_, rfl⟩
        have b6d : Below w6.heap.size w6 WD := by rw [← hWD]; exact (Below.refl _ _).drew
        have GR6d := Hid.of (GR6.out.next b6d)
        have B6d := Hid.of b6d
        have CSD := Hid.of (CS6.out.next b6d)
        clear b6d
        have d0 := (CS6.out).head
        refine wp_region_noPanic ?_
        refine wp_region_held_drew (S := fun w' => w'.cell? ⟨y, 1, none⟩ = some (.int .i64 ev)) (by kernel_rfl) ?_ (fun hHeld => ?_)
        · exact d0
        refine takeOp 0 (o := ⟨_, _, _, _, _, _⟩) (v := ?_) rfl (by kernel_rfl) (by rfl) hHeld ?_ ?_
        rotate_left
        · intro w' hSw; (try dsimp only at hSw); go_simp; all_goals with_reducible rfl
        simp only [Act.put, List.setIfInBounds_toArray, List.set_cons_zero, List.set_cons_succ]
        refine takeOp 1 (o := ⟨_, _, _, _, _, _⟩) (v := ?_) rfl (by kernel_rfl) (by rfl) hHeld ?_ ?_
        rotate_left
        · intro w' hSw; (try dsimp only at hSw); go_simp; all_goals with_reducible rfl
        simp only [Act.put, List.setIfInBounds_toArray, List.set_cons_zero, List.set_cons_succ]
        refine takeOp 2 (o := ⟨_, _, _, _, _, _⟩) (v := ?_) rfl (by kernel_rfl) (by rfl) hHeld ?_ ?_
        rotate_left
        · intro w' hSw; (try dsimp only at hSw); go_simp; all_goals with_reducible rfl
        simp only [Act.put, List.setIfInBounds_toArray, List.set_cons_zero, List.set_cons_succ]
        refine takeOp 3 (o := ⟨_, _, _, _, _, _⟩) (v := ?_) rfl (by kernel_rfl) (by rfl) hHeld ?_ ?_
        rotate_left
        · intro w' hSw; (try dsimp only at hSw); go_simp; all_goals with_reducible rfl
        simp only [Act.put, List.setIfInBounds_toArray, List.set_cons_zero, List.set_cons_succ]
        refine takeOp 5 (o := ⟨_, _, _, _, _, _⟩) (v := ?_) rfl (by kernel_rfl) (by rfl) hHeld ?_ ?_
        rotate_left
        · intro w' hSw; (try dsimp only at hSw); go_simp; all_goals with_reducible rfl
        simp only [Act.put, List.setIfInBounds_toArray, List.set_cons_zero, List.set_cons_succ]
        refine takeOp 6 (o := ⟨_, _, _, _, _, _⟩) (v := ?_) rfl (by kernel_rfl) (by rfl) hHeld ?_ ?_
        rotate_left
        · intro w' hSw; (try dsimp only at hSw); go_simp; all_goals with_reducible rfl
        simp only [Act.put, List.setIfInBounds_toArray, List.set_cons_zero, List.set_cons_succ]
        refine wpAnyH_ready (rs := [4, 7]) (by kernel_rfl) (by simp) ?_
        refine AllReadyH.cons (o := ⟨_, _, _, _, _, _⟩) rfl (fun K hK => ?_) (AllReadyH.cons (o := ⟨_, _, _, _, _, _⟩) rfl (fun K hK => ?_) AllReadyH.nil)
        · have e4 : WD.cell? ⟨q, 4, none⟩ = some (.slice va j vc) := GR6d.out.is.c.2.2.2.2
          go_simp
          clear e4
          clear hHeld d0
          have d0 := (CSD.out).head
          refine hK.out _ _ d0 (fun hHeld => ?_)
          clear hK K
          try simp only [Act.put, List.setIfInBounds_toArray, List.set_cons_zero, List.set_cons_succ]
          refine wpAnyH_ready (rs := [7]) (by kernel_rfl) (by simp) ?_
          refine AllReadyH.cons (o := ⟨_, _, _, _, _, _⟩) rfl (fun K hK => ?_) AllReadyH.nil
          go_simp
          refine (TS.new ev _ HE64.out).mono ?_
          rintro e w7 ⟨q7, G7, rfl, r7, rf7, b7⟩
          have R7 : Hid (TS.Rep w7 q7 (tEv (now, (pn, pt), fl) (List.replicate j ([] : List TRec)).length) [] G7) := Hid.of (by rw [HEV.out]; exact r7)
          have R7F : Hid (∀ k, G7.all k → w6.heap.size ≤ k) := Hid.of (fun k hk => Nat.le_trans B6d.out.size (rf7 k hk))
          have B7 := Hid.of (B6d.out.trans (b7.mono B6d.out.size))
          have GR7 := Hid.of (GR6d.out.next b7)
          have CS7 := Hid.of (CSD.out.next b7)
          clear b7 r7 rf7
          clear hHeld d0
          have d0 := (CS7.out).head
          refine hK.out _ _ d0 (fun hHeld => ?_)
          clear hK K
          try simp only [Act.put, List.setIfInBounds_toArray, List.set_cons_zero, List.set_cons_succ]
          refine wpAnyH_ready (rs := [8]) (by kernel_rfl) (by simp) ?_
          refine AllReadyH.cons (o := ⟨_, _, _, _, _, _⟩) rfl (fun K hK => ?_) AllReadyH.nil
          go_simp
          obtain ⟨w8, hw8⟩ : ∃ w8, w7.alloc (.cells #[tptr q7] 35) = w8 := ⟨_, rfl⟩
          have b8 : Below w7.heap.size w7 w8 := by rw [← hw8]; exact (Below.refl _ _).alloc (Nat.le_refl _) _
          have K8 : Hid (Cells w8 w7.heap.size 0 [tptr q7]) := Hid.of (by rw [← hw8]; exact one_cell w7 _ _)
          have B8 := Hid.of (B7.out.trans (b8.mono B7.out.size))
          have R8 := Hid.of (TS.kept R7.out b8.size (fun k hk => b8.block k (TS.lt R7.out k hk)))
          have GR8 := Hid.of (GR7.out.next b8)
          have CS8 := Hid.of (CS7.out.next b8)
          rw [hw8]
          clear hw8 b8 R7 B7 GR7 CS7
          clear hHeld d0
          have d0 := (CS8.out).head
          refine hK.out _ _ d0 (fun hHeld => ?_)
          clear hK K
          try simp only [Act.put, List.setIfInBounds_toArray, List.set_cons_zero, List.set_cons_succ]
          refine wpAnyH_ready (rs := [9]) (by kernel_rfl) (by simp) ?_
          refine AllReadyH.cons (o := ⟨_, _, _, _, _, _⟩) rfl (fun K hK => ?_) AllReadyH.nil
          refine step_append_keep rfl (.tmp 51) (.tmp 55) 67 rfl 0 35 i0 _ 1 8 Tryz.underlying67 HI.out HZ0.out HZ1.out HZ2.out rfl (by decide) (.slice va j vc) j (qs.map tptr) (by simp [Act.eval]) (by have := GR8.out.is.hv; rwa [GR8.out.is.ql, List.length_replicate] at this) w7.heap.size 0 1 1 [tptr q7] (by simp [Act.eval]) K8.out rfl (by simp [Value.oneCell']) (by unfold maxLen; omega) (by omega) (Nat.zero_le _) ?_
          intro v9 w9 o9 g9 _ m9
          obtain ⟨a9, c9, hv9, _⟩ := own_one o9
          subst hv9
          have O9 := Hid.of o9
          have G9 := Hid.of g9
          have M9 := Hid.of m9
          have z9 : w9.heap[q]? = some (.cells #[.int .i64 now, .string pn, s2, f2, .slice va j vc] 69 (0, 0)) := (g9.block q GR8.out.is.lt_p (fun c => GR8.out.is.pp (.inr (.inr c.symm)))).trans GR8.out.is.cell
          have f9 : w9.frozen? ⟨q, 4, none⟩ = false := row_frozen z9
          have e9 : w9.cell? ⟨q, 4, none⟩ = some (.slice va j vc) := by rw [cell_of_row _ _ _ _ _ _ z9]; rfl
          have CS9 := Hid.of (CS8.out.grown g9 (fun x hx c => by simp only [List.mem_cons, List.not_mem_nil, or_false] at hx; subst hx; have h : y < y := HVY.out _ c.symm; omega))
          clear o9 g9 m9 z9
          clear hHeld d0
          have d0 := (CS9.out).head
          refine hK.out _ _ d0 (fun hHeld => ?_)
          clear hK K
          try simp only [Act.put, List.setIfInBounds_toArray, List.set_cons_zero, List.set_cons_succ]
          refine takeOp 10 (o := ⟨_, _, _, _, _, _⟩) (v := ?_) rfl (by kernel_rfl) (by rfl) hHeld ?_ ?_
          rotate_left
          · intro w' hSw; (try dsimp only at hSw); go_simp; all_goals with_reducible rfl
          simp only [Act.put, List.setIfInBounds_toArray, List.set_cons_zero, List.set_cons_succ]
          refine takeOp 11 (o := ⟨_, _, _, _, _, _⟩) (v := ?_) rfl (by kernel_rfl) (by rfl) hHeld ?_ ?_
          rotate_left
          · intro w' hSw; (try dsimp only at hSw); go_simp; all_goals with_reducible rfl
          simp only [Act.put, List.setIfInBounds_toArray, List.set_cons_zero, List.set_cons_succ]
          refine wpAnyH_ready (rs := [12]) (by kernel_rfl) (by simp) ?_
          refine AllReadyH.cons (o := ⟨_, _, _, _, _, _⟩) rfl (fun K hK => ?_) AllReadyH.nil
          go_simp
          clear f9 e9
          have GRZ := Hid.of (GR6.out.more B8.out R8.out R7F.out (v' := .slice a9 (j + 1) c9) (w2 := w9) (by rw [GR6.out.is.ql, List.length_replicate]; exact O9.out) G9.out M9.out)
          obtain ⟨wz, hwz⟩ : ∃ wz, w9.setCell ⟨q, 4, none⟩ (.slice a9 (j + 1) c9) = wz := ⟨_, rfl⟩
          rw [hwz] at GRZ ⊢
          have gz : w9.grownBy wz (some q) := by rw [← hwz]; exact grownBy_setCell w9 q 4 (.slice a9 (j + 1) c9)
          have CSZ := Hid.of (CS9.out.grown gz (fun x hx c => by simp only [List.mem_cons, List.not_mem_nil, or_false] at hx; subst hx; have h : y = q := Option.some.inj c; have := HQY.out; omega))
          clear hwz gz
          clear hHeld d0
          have d0 := (CSZ.out).head
          refine hK.out _ _ d0 (fun hHeld => ?_)
          clear hK K
          refine wpAnyH_done (by kernel_rfl) ?_ _
          refine NoPanic.normal ?_
          clear hHeld
          clear d0
          go_wp2
          go_roundg (N - (j + 1))
          case measure => have := HJ.out; omega
          case rel => exact ⟨j + 1, _, _, _, by go_num, HJ.out, Nat.le_refl _, Hid.of (by have := GRZ.out; rwa [← List.replicate_succ'] at this)⟩
        · go_simp
          refine (TS.new ev _ HE64.out).mono ?_
          rintro e w7 ⟨q7, G7, rfl, r7, rf7, b7⟩
          have R7 : Hid (TS.Rep w7 q7 (tEv (now, (pn, pt), fl) (List.replicate j ([] : List TRec)).length) [] G7) := Hid.of (by rw [HEV.out]; exact r7)
          have R7F : Hid (∀ k, G7.all k → w6.heap.size ≤ k) := Hid.of (fun k hk => Nat.le_trans B6d.out.size (rf7 k hk))
          have B7 := Hid.of (B6d.out.trans (b7.mono B6d.out.size))
          have GR7 := Hid.of (GR6d.out.next b7)
          have CS7 := Hid.of (CSD.out.next b7)
          clear b7 r7 rf7
          clear hHeld d0
          have d0 := (CS7.out).head
          refine hK.out _ _ d0 (fun hHeld => ?_)
          clear hK K
          try simp only [Act.put, List.setIfInBounds_toArray, List.set_cons_zero, List.set_cons_succ]
          refine wpAnyH_ready (rs := [4, 8]) (by kernel_rfl) (by simp) ?_
          refine AllReadyH.cons (o := ⟨_, _, _, _, _, _⟩) rfl (fun K hK => ?_) (AllReadyH.cons (o := ⟨_, _, _, _, _, _⟩) rfl (fun K hK => ?_) AllReadyH.nil)
          · have e4 : w7.cell? ⟨q, 4, none⟩ = some (.slice va j vc) := GR7.out.is.c.2.2.2.2
            go_simp
            clear e4
            clear hHeld d0
            have d0 := (CS7.out).head
            refine hK.out _ _ d0 (fun hHeld => ?_)
            clear hK K
            try simp only [Act.put, List.setIfInBounds_toArray, List.set_cons_zero, List.set_cons_succ]
            refine wpAnyH_ready (rs := [8]) (by kernel_rfl) (by simp) ?_
            refine AllReadyH.cons (o := ⟨_, _, _, _, _, _⟩) rfl (fun K hK => ?_) AllReadyH.nil
            go_simp
            obtain ⟨w8, hw8⟩ : ∃ w8, w7.alloc (.cells #[tptr q7] 35) = w8 := ⟨_, rfl⟩
            have b8 : Below w7.heap.size w7 w8 := by rw [← hw8]; exact (Below.refl _ _).alloc (Nat.le_refl _) _
            have K8 : Hid (Cells w8 w7.heap.size 0 [tptr q7]) := Hid.of (by rw [← hw8]; exact one_cell w7 _ _)
            have B8 := Hid.of (B7.out.trans (b8.mono B7.out.size))
            have R8 := Hid.of (TS.kept R7.out b8.size (fun k hk => b8.block k (TS.lt R7.out k hk)))
            have GR8 := Hid.of (GR7.out.next b8)
            have CS8 := Hid.of (CS7.out.next b8)
            rw [hw8]
            clear hw8 b8 R7 B7 GR7 CS7
            clear hHeld d0
            have d0 := (CS8.out).head
            refine hK.out _ _ d0 (fun hHeld => ?_)
            clear hK K
            try simp only [Act.put, List.setIfInBounds_toArray, List.set_cons_zero, List.set_cons_succ]
            refine wpAnyH_ready (rs := [9]) (by kernel_rfl) (by simp) ?_
            refine AllReadyH.cons (o := ⟨_, _, _, _, _, _⟩) rfl (fun K hK => ?_) AllReadyH.nil
            refine step_append_keep rfl (.tmp 51) (.tmp 55) 67 rfl 0 35 i0 _ 1 8 Tryz.underlying67 HI.out HZ0.out HZ1.out HZ2.out rfl (by decide) (.slice va j vc) j (qs.map tptr) (by simp [Act.eval]) (by have := GR8.out.is.hv; rwa [GR8.out.is.ql, List.length_replicate] at this) w7.heap.size 0 1 1 [tptr q7] (by simp [Act.eval]) K8.out rfl (by simp [Value.oneCell']) (by unfold maxLen; omega) (by omega) (Nat.zero_le _) ?_
            intro v9 w9 o9 g9 _ m9
            obtain ⟨a9, c9, hv9, _⟩ := own_one o9
            subst hv9
            have O9 := Hid.of o9
            have G9 := Hid.of g9
            have M9 := Hid.of m9
            have z9 : w9.heap[q]? = some (.cells #[.int .i64 now, .string pn, s2, f2, .slice va j vc] 69 (0, 0)) := (g9.block q GR8.out.is.lt_p (fun c => GR8.out.is.pp (.inr (.inr c.symm)))).trans GR8.out.is.cell
            have f9 : w9.frozen? ⟨q, 4, none⟩ = false := row_frozen z9
            have e9 : w9.cell? ⟨q, 4, none⟩ = some (.slice va j vc) := by rw [cell_of_row _ _ _ _ _ _ z9]; rfl
            have CS9 := Hid.of (CS8.out.grown g9 (fun x hx c => by simp only [List.mem_cons, List.not_mem_nil, or_false] at hx; subst hx; have h : y < y := HVY.out _ c.symm; omega))
            clear o9 g9 m9 z9
            clear hHeld d0
            have d0 := (CS9.out).head
            refine hK.out _ _ d0 (fun hHeld => ?_)
            clear hK K
            try simp only [Act.put, List.setIfInBounds_toArray, List.set_cons_zero, List.set_cons_succ]
            refine takeOp 10 (o := ⟨_, _, _, _, _, _⟩) (v := ?_) rfl (by kernel_rfl) (by rfl) hHeld ?_ ?_
            rotate_left
            · intro w' hSw; (try dsimp only at hSw); go_simp; all_goals with_reducible rfl
            simp only [Act.put, List.setIfInBounds_toArray, List.set_cons_zero, List.set_cons_succ]
            refine takeOp 11 (o := ⟨_, _, _, _, _, _⟩) (v := ?_) rfl (by kernel_rfl) (by rfl) hHeld ?_ ?_
            rotate_left
            · intro w' hSw; (try dsimp only at hSw); go_simp; all_goals with_reducible rfl
            simp only [Act.put, List.setIfInBounds_toArray, List.set_cons_zero, List.set_cons_succ]
            refine wpAnyH_ready (rs := [12]) (by kernel_rfl) (by simp) ?_
            refine AllReadyH.cons (o := ⟨_, _, _, _, _, _⟩) rfl (fun K hK => ?_) AllReadyH.nil
            go_simp
            clear f9 e9
            have GRZ := Hid.of (GR6.out.more B8.out R8.out R7F.out (v' := .slice a9 (j + 1) c9) (w2 := w9) (by rw [GR6.out.is.ql, List.length_replicate]; exact O9.out) G9.out M9.out)
            obtain ⟨wz, hwz⟩ : ∃ wz, w9.setCell ⟨q, 4, none⟩ (.slice a9 (j + 1) c9) = wz := ⟨_, rfl⟩
            rw [hwz] at GRZ ⊢
            have gz : w9.grownBy wz (some q) := by rw [← hwz]; exact grownBy_setCell w9 q 4 (.slice a9 (j + 1) c9)
            have CSZ := Hid.of (CS9.out.grown gz (fun x hx c => by simp only [List.mem_cons, List.not_mem_nil, or_false] at hx; subst hx; have h : y = q := Option.some.inj c; have := HQY.out; omega))
            clear hwz gz
            clear hHeld d0
            have d0 := (CSZ.out).head
            refine hK.out _ _ d0 (fun hHeld => ?_)
            clear hK K
            refine wpAnyH_done (by kernel_rfl) ?_ _
            refine NoPanic.normal ?_
            clear hHeld
            clear d0
            go_wp2
            go_roundg (N - (j + 1))
            case measure => have := HJ.out; omega
            case rel => exact ⟨j + 1, _, _, _, by go_num, HJ.out, Nat.le_refl _, Hid.of (by have := GRZ.out; rwa [← List.replicate_succ'] at this)⟩
          · go_simp
            obtain ⟨w8, hw8⟩ : ∃ w8, w7.alloc (.cells #[tptr q7] 35) = w8 := ⟨_, rfl⟩
            have b8 : Below w7.heap.size w7 w8 := by rw [← hw8]; exact (Below.refl _ _).alloc (Nat.le_refl _) _
            have K8 : Hid (Cells w8 w7.heap.size 0 [tptr q7]) := Hid.of (by rw [← hw8]; exact one_cell w7 _ _)
            have B8 := Hid.of (B7.out.trans (b8.mono B7.out.size))
            have R8 := Hid.of (TS.kept R7.out b8.size (fun k hk => b8.block k (TS.lt R7.out k hk)))
            have GR8 := Hid.of (GR7.out.next b8)
            have CS8 := Hid.of (CS7.out.next b8)
            rw [hw8]
            clear hw8 b8 R7 B7 GR7 CS7
            clear hHeld d0
            have d0 := (CS8.out).head
            refine hK.out _ _ d0 (fun hHeld => ?_)
            clear hK K
            try simp only [Act.put, List.setIfInBounds_toArray, List.set_cons_zero, List.set_cons_succ]
            refine wpAnyH_ready (rs := [4]) (by kernel_rfl) (by simp) ?_
            refine AllReadyH.cons (o := ⟨_, _, _, _, _, _⟩) rfl (fun K hK => ?_) AllReadyH.nil
            have e4 : w8.cell? ⟨q, 4, none⟩ = some (.slice va j vc) := GR8.out.is.c.2.2.2.2
            go_simp
            clear e4
            clear hHeld d0
            have d0 := (CS8.out).head
            refine hK.out _ _ d0 (fun hHeld => ?_)
            clear hK K
            try simp only [Act.put, List.setIfInBounds_toArray, List.set_cons_zero, List.set_cons_succ]
            refine wpAnyH_ready (rs := [9]) (by kernel_rfl) (by simp) ?_
            refine AllReadyH.cons (o := ⟨_, _, _, _, _, _⟩) rfl (fun K hK => ?_) AllReadyH.nil
            refine step_append_keep rfl (.tmp 51) (.tmp 55) 67 rfl 0 35 i0 _ 1 8 Tryz.underlying67 HI.out HZ0.out HZ1.out HZ2.out rfl (by decide) (.slice va j vc) j (qs.map tptr) (by simp [Act.eval]) (by have := GR8.out.is.hv; rwa [GR8.out.is.ql, List.length_replicate] at this) w7.heap.size 0 1 1 [tptr q7] (by simp [Act.eval]) K8.out rfl (by simp [Value.oneCell']) (by unfold maxLen; omega) (by omega) (Nat.zero_le _) ?_
            intro v9 w9 o9 g9 _ m9
            obtain ⟨a9, c9, hv9, _⟩ := own_one o9
            subst hv9
            have O9 := Hid.of o9
            have G9 := Hid.of g9
            have M9 := Hid.of m9
            have z9 : w9.heap[q]? = some (.cells #[.int .i64 now, .string pn, s2, f2, .slice va j vc] 69 (0, 0)) := (g9.block q GR8.out.is.lt_p (fun c => GR8.out.is.pp (.inr (.inr c.symm)))).trans GR8.out.is.cell
            have f9 : w9.frozen? ⟨q, 4, none⟩ = false := row_frozen z9
            have e9 : w9.cell? ⟨q, 4, none⟩ = some (.slice va j vc) := by rw [cell_of_row _ _ _ _ _ _ z9]; rfl
            have CS9 := Hid.of (CS8.out.grown g9 (fun x hx c => by simp only [List.mem_cons, List.not_mem_nil, or_false] at hx; subst hx; have h : y < y := HVY.out _ c.symm; omega))
            clear o9 g9 m9 z9
            clear hHeld d0
            have d0 := (CS9.out).head
            refine hK.out _ _ d0 (fun hHeld => ?_)
            clear hK K
            try simp only [Act.put, List.setIfInBounds_toArray, List.set_cons_zero, List.set_cons_succ]
            refine takeOp 10 (o := ⟨_, _, _, _, _, _⟩) (v := ?_) rfl (by kernel_rfl) (by rfl) hHeld ?_ ?_
            rotate_left
            · intro w' hSw; (try dsimp only at hSw); go_simp; all_goals with_reducible rfl
            simp only [Act.put, List.setIfInBounds_toArray, List.set_cons_zero, List.set_cons_succ]
            refine takeOp 11 (o := ⟨_, _, _, _, _, _⟩) (v := ?_) rfl (by kernel_rfl) (by rfl) hHeld ?_ ?_
            rotate_left
            · intro w' hSw; (try dsimp only at hSw); go_simp; all_goals with_reducible rfl
            simp only [Act.put, List.setIfInBounds_toArray, List.set_cons_zero, List.set_cons_succ]
            refine wpAnyH_ready (rs := [12]) (by kernel_rfl) (by simp) ?_
            refine AllReadyH.cons (o := ⟨_, _, _, _, _, _⟩) rfl (fun K hK => ?_) AllReadyH.nil
            go_simp
            clear f9 e9
            have GRZ := Hid.of (GR6.out.more B8.out R8.out R7F.out (v' := .slice a9 (j + 1) c9) (w2 := w9) (by rw [GR6.out.is.ql, List.length_replicate]; exact O9.out) G9.out M9.out)
            obtain ⟨wz, hwz⟩ : ∃ wz, w9.setCell ⟨q, 4, none⟩ (.slice a9 (j + 1) c9) = wz := ⟨_, rfl⟩
            rw [hwz] at GRZ ⊢
            have gz : w9.grownBy wz (some q) := by rw [← hwz]; exact grownBy_setCell w9 q 4 (.slice a9 (j + 1) c9)
            have CSZ := Hid.of (CS9.out.grown gz (fun x hx c => by simp only [List.mem_cons, List.not_mem_nil, or_false] at hx; subst hx; have h : y = q := Option.some.inj c; have := HQY.out; omega))
            clear hwz gz
            clear hHeld d0
            have d0 := (CSZ.out).head
            refine hK.out _ _ d0 (fun hHeld => ?_)
            clear hK K
            refine wpAnyH_done (by kernel_rfl) ?_ _
            refine NoPanic.normal ?_
            clear hHeld
            clear d0
            go_wp2
            go_roundg (N - (j + 1))
            case measure => have := HJ.out; omega
            case rel => exact ⟨j + 1, _, _, _, by go_num, HJ.out, Nat.le_refl _, Hid.of (by have := GRZ.out; rwa [← List.replicate_succ'] at this)⟩
      · obtain rfl : j = N := by omega
        have X : Hid (IRep TS wr q (now, (pn, pt), fl) (List.replicate j []) (iFoot q s2 f2 v Fs)) := Hid.of ⟨s2, f2, v, qs, Fs, GR.out.is, by have := GD.out; rwa [HN.out] at this, rfl⟩
        go_wp2
        go_ret2
        rw [HE0.out]
        exact ⟨fun _ => ⟨q, rfl, _, X.out, GR.out.ge⟩, fun c => absurd rfl c, GR.out.fr⟩

set_option maxRecDepth 20000 in
set_option maxHeartbeats 6400000 in
theorem icopy_any {TS : TableSpec} {w : World} {p : Nat} {r : RchL} {T : List (List TRec)} {F : TFoot} (h : IRep TS w p r T F) (hl : ∀ l ∈ T, l.length ≤ 1000) :
    Calls Tryz.prog 21 #[tptr p] w fun x w' => ∃ q G, x = .returned (tptr q) ∧ IRep TS w' q r T G ∧ (∀ k, G.own k → w.heap.size ≤ k) ∧ (∀ k, G.all k → ¬ F.own k) ∧ Below w.heap.size w w' := by
  obtain ⟨s, f, v, qs, Fs, h, hg, rfl⟩ := h
  obtain ⟨now, ⟨pn, pt⟩, fl⟩ := r
  have H := Hid.of h
  have HL := Hid.of hl
  have GD := Hid.of hg
  have hN5 := hg.pos.2
  have B0 := (Below.refl w.heap.size w).drew
  have CS0 : Hid (Cs w [(⟨p, 0, none⟩, .int .i64 now), (⟨p, 1, none⟩, .string pn), (⟨p, 2, none⟩, s), (⟨p, 3, none⟩, f)]) := Hid.of h.cs
  have hof := reaches.of (.agg #[.string pn, s]) f (pn, pt) now fl w.drew trivial h.fit (h.below B0).pol (own_row (h.below B0).hf) (own_cap h.hf)
  have B1 := Hid.of B0
  have CS1 := Hid.of (CS0.out.next B0)
  obtain ⟨i0, hi0, hz0, hz1, hz2⟩ := info_parts ptab_info
  have HI := Hid.of hi0
  have HZ0 := Hid.of hz0
  have HZ1 := Hid.of hz1
  have HZ2 := Hid.of hz2
  obtain ⟨va, vc, rfl, -⟩ := h.tabs
  obtain ⟨N, hN⟩ : ∃ N, T.length = N := ⟨_, rfl⟩
  have HN := Hid.of hN
  rw [hN] at H hN5
  clear h hg hl hi0 hz0 hz1 hz2 B0 hN
  go_enter Tryz.func21, Tryz.ntmps21
  go_upto_region 3 with fail
  have d0 := (CS0.out).head
  have d1 := ((CS0.out).tail).head
  have d2 := (((CS0.out).tail).tail).head
  have d3 := ((((CS0.out).tail).tail).tail).head
  refine wp_region_noPanic ?_
  refine wp_region_held_drew (S := fun w' => w'.cell? ⟨p, 0, none⟩ = some (.int .i64 now) ∧ w'.cell? ⟨p, 1, none⟩ = some (.string pn) ∧ w'.cell? ⟨p, 2, none⟩ = some (s) ∧ w'.cell? ⟨p, 3, none⟩ = some (f)) (by kernel_rfl) ?_ (fun hHeld => ?_)
  · exact ⟨d0, d1, d2, d3⟩
  refine takeOp 0 (o := ⟨_, _, _, _, _, _⟩) (v := ?_) rfl (by kernel_rfl) (by rfl) hHeld ?_ ?_
  rotate_left
  · intro w' hSw; (try dsimp only at hSw); go_simp; all_goals with_reducible rfl
  simp only [Act.put, List.setIfInBounds_toArray, List.set_cons_zero, List.set_cons_succ]
  refine takeOp 1 (o := ⟨_, _, _, _, _, _⟩) (v := ?_) rfl (by kernel_rfl) (by rfl) hHeld ?_ ?_
  rotate_left
  · intro w' hSw; (try dsimp only at hSw); go_simp; all_goals with_reducible rfl
  simp only [Act.put, List.setIfInBounds_toArray, List.set_cons_zero, List.set_cons_succ]
  refine takeOp 2 (o := ⟨_, _, _, _, _, _⟩) (v := ?_) rfl (by kernel_rfl) (by rfl) hHeld ?_ ?_
  rotate_left
  · intro w' hSw; (try dsimp only at hSw); go_simp; all_goals with_reducible rfl
  simp only [Act.put, List.setIfInBounds_toArray, List.set_cons_zero, List.set_cons_succ]
  refine takeOp 3 (o := ⟨_, _, _, _, _, _⟩) (v := ?_) rfl (by kernel_rfl) (by rfl) hHeld ?_ ?_
  rotate_left
  · intro w' hSw; (try dsimp only at hSw); go_simp; all_goals with_reducible rfl
  simp only [Act.put, List.setIfInBounds_toArray, List.set_cons_zero, List.set_cons_succ]
  refine takeOp 4 (o := ⟨_, _, _, _, _, _⟩) (v := ?_) rfl (by kernel_rfl) (by rfl) hHeld ?_ ?_
  rotate_left
  · intro w' hSw; (try dsimp only at hSw); go_simp; all_goals with_reducible rfl
  simp only [Act.put, List.setIfInBounds_toArray, List.set_cons_zero, List.set_cons_succ]
  refine takeOp 5 (o := ⟨_, _, _, _, _, _⟩) (v := ?_) rfl (by kernel_rfl) (by rfl) hHeld ?_ ?_
  rotate_left
  · intro w' hSw; (try dsimp only at hSw); go_simp; all_goals with_reducible rfl
  simp only [Act.put, List.setIfInBounds_toArray, List.set_cons_zero, List.set_cons_succ]
  refine takeOp 6 (o := ⟨_, _, _, _, _, _⟩) (v := ?_) rfl (by kernel_rfl) (by rfl) hHeld ?_ ?_
  rotate_left
  · intro w' hSw; (try dsimp only at hSw); go_simp; all_goals with_reducible rfl
  simp only [Act.put, List.setIfInBounds_toArray, List.set_cons_zero, List.set_cons_succ]
  refine takeOp 7 (o := ⟨_, _, _, _, _, _⟩) (v := ?_) rfl (by kernel_rfl) (by rfl) hHeld ?_ ?_
  rotate_left
  · intro w' hSw; (try dsimp only at hSw); go_simp; all_goals with_reducible rfl
  simp only [Act.put, List.setIfInBounds_toArray, List.set_cons_zero, List.set_cons_succ]
  refine takeOp 8 (o := ⟨_, _, _, _, _, _⟩) (v := ?_) rfl (by kernel_rfl) (by rfl) hHeld ?_ ?_
  rotate_left
  · intro w' hSw; (try dsimp only at hSw); go_simp; all_goals with_reducible rfl
  simp only [Act.put, List.setIfInBounds_toArray, List.set_cons_zero, List.set_cons_succ]
  refine takeOp 9 (o := ⟨_, _, _, _, _, _⟩) (v := ?_) rfl (by kernel_rfl) (by rfl) hHeld ?_ ?_
  rotate_left
  · intro w' hSw; (try dsimp only at hSw); go_simp; all_goals with_reducible rfl
  simp only [Act.put, List.setIfInBounds_toArray, List.set_cons_zero, List.set_cons_succ]
  refine takeOp 10 (o := ⟨_, _, _, _, _, _⟩) (v := ?_) rfl (by kernel_rfl) (by rfl) hHeld ?_ ?_
  rotate_left
  · intro w' hSw; (try dsimp only at hSw); go_simp; all_goals with_reducible rfl
  simp only [Act.put, List.setIfInBounds_toArray, List.set_cons_zero, List.set_cons_succ]
  refine takeOp 11 (o := ⟨_, _, _, _, _, _⟩) (v := ?_) rfl (by kernel_rfl) (by rfl) hHeld ?_ ?_
  rotate_left
  · intro w' hSw; (try dsimp only at hSw); go_simp; all_goals with_reducible rfl
  simp only [Act.put, List.setIfInBounds_toArray, List.set_cons_zero, List.set_cons_succ]
  refine takeOp 12 (o := ⟨_, _, _, _, _, _⟩) (v := ?_) rfl (by kernel_rfl) (by rfl) hHeld ?_ ?_
  rotate_left
  · intro w' hSw; (try dsimp only at hSw); go_simp; all_goals with_reducible rfl
  simp only [Act.put, List.setIfInBounds_toArray, List.set_cons_zero, List.set_cons_succ]
  refine takeOp 13 (o := ⟨_, _, _, _, _, _⟩) (v := ?_) rfl (by kernel_rfl) (by rfl) hHeld ?_ ?_
  rotate_left
  · intro w' hSw; (try dsimp only at hSw); go_simp; all_goals with_reducible rfl
  simp only [Act.put, List.setIfInBounds_toArray, List.set_cons_zero, List.set_cons_succ]
  refine takeOp 14 (o := ⟨_, _, _, _, _, _⟩) (v := ?_) rfl (by kernel_rfl) (by rfl) hHeld ?_ ?_
  rotate_left
  · intro w' hSw; (try dsimp only at hSw); go_simp; all_goals with_reducible rfl
  simp only [Act.put, List.setIfInBounds_toArray, List.set_cons_zero, List.set_cons_succ]
  refine wpAnyH_ready (rs := [15]) (by kernel_rfl) (by simp) ?_
  refine AllReadyH.cons (o := ⟨_, _, _, _, _, _⟩) rfl (fun K hK => ?_) AllReadyH.nil
  go_simp
  refine hof.mono ?_
  rintro e w4 ⟨u, rfl, ou, b4⟩
  have B4 := Hid.of (B1.out.trans (b4.mono B1.out.size))
  have CS4 := Hid.of (CS1.out.next b4)
  obtain ⟨s2, f2, hu, G5⟩ := IGrow.new (TS := TS) (w0 := w) H.out.fit (ou.mono B1.out.size) B4.out
  subst hu
  unfold rVal
  clear b4 hof ou CS1 CS0
  clear hHeld d0 d1 d2 d3
  have d0 := (CS4.out).head
  have d1 := ((CS4.out).tail).head
  have d2 := (((CS4.out).tail).tail).head
  have d3 := ((((CS4.out).tail).tail).tail).head
  refine hK.out _ _ ⟨d0, d1, d2, d3⟩ (fun hHeld => ?_)
  clear hK K
  refine takeOp 16 (o := ⟨_, _, _, _, _, _⟩) (v := ?_) rfl (by kernel_rfl) (by rfl) hHeld ?_ ?_
  rotate_left
  · intro w' hSw; (try dsimp only at hSw); go_simp; all_goals with_reducible rfl
  simp only [Act.put, List.setIfInBounds_toArray, List.set_cons_zero, List.set_cons_succ]
  refine wpAnyH_ready (rs := [17]) (by kernel_rfl) (by simp) ?_
  refine AllReadyH.cons (o := ⟨_, _, _, _, _, _⟩) rfl (fun K hK => ?_) AllReadyH.nil
  go_simp
  obtain ⟨q, hq⟩ : ∃ q, w4.heap.size = q := ⟨_, rfl⟩
  obtain ⟨w5, hw5⟩ : ∃ w5, w4.alloc (.cells #[.int .i64 now, .string pn, s2, f2, .slice none 0 0] 69) = w5 := ⟨_, rfl⟩
  have b5 : Below w4.heap.size w4 w5 := by rw [← hw5]; exact (Below.refl _ _).alloc (Nat.le_refl _) _
  have GR5 : Hid (IGrow TS w w5 q (now, (pn, pt), fl) [] s2 f2 (.slice none 0 0) [] []) := Hid.of (by rw [← hw5, ← hq]; exact G5)
  have B5 := Hid.of (B4.out.trans (b5.mono B4.out.size))
  have CS5 := Hid.of (CS4.out.next b5)
  rw [hw5, hq]
  clear hw5 hq b5 G5 CS4 B4
  clear hHeld d0 d1 d2 d3
  have d0 := (CS5.out).head
  have d1 := ((CS5.out).tail).head
  have d2 := (((CS5.out).tail).tail).head
  have d3 := ((((CS5.out).tail).tail).tail).head
  refine hK.out _ _ ⟨d0, d1, d2, d3⟩ (fun hHeld => ?_)
  clear hK K
  try simp only [Act.put, List.setIfInBounds_toArray, List.set_cons_zero, List.set_cons_succ]
  refine takeOp 18 (o := ⟨_, _, _, _, _, _⟩) (v := ?_) rfl (by kernel_rfl) (by rfl) hHeld ?_ ?_
  rotate_left
  · intro w' hSw; (try dsimp only at hSw); go_simp; all_goals with_reducible rfl
  simp only [Act.put, List.setIfInBounds_toArray, List.set_cons_zero, List.set_cons_succ]
  refine wpAnyH_done (by kernel_rfl) ?_ _
  refine NoPanic.normal ?_
  clear hHeld d0 d1 d2 d3
  obtain ⟨-, -, -, -, c4⟩ := (H.out.below B5.out).c
  go_wp2
  clear c4
  go_loopg [5, 31] N (fun kx _ iv wr => ∃ (j : Nat) (v : Value) (qs' : List Nat) (Gs : List TFoot), iv = .int .i64 j ∧ j ≤ N ∧ N - j ≤ kx ∧ Hid (IGrow TS w wr q (now, (pn, pt), fl) (T.take j) s2 f2 v qs' Gs))
  case atStart => exact ⟨0, _, [], [], rfl, Nat.zero_le _, Nat.le_refl _, GR5⟩
  case round =>
    clear GR5
    obtain ⟨j, v, qs', Gs, rfl, hj, hk, GR⟩ := hrel
    have j0 : (0 : Int) ≤ (j : Int) := Int.natCast_nonneg _
    by_cases hlt : (j : Int) < (N : Int)
    · obtain ⟨l, hT⟩ : ∃ l, T[j]? = some l := ⟨_, List.getElem?_eq_getElem (by have := HN.out; omega)⟩
      have IT := H.out.below GR.out.fr
      obtain ⟨qo, G, hq, hG, hrep⟩ := IT.at_i hT
      have hcr := IT.tabs
      rw [HN.out] at hcr
      obtain ⟨b1, o1, rfl, g1, d0⟩ := hcr.at j (tptr qo) (by rw [List.getElem?_map, hq]; rfl)
      have hTL : (T.take j).length = j := by rw [List.length_take, HN.out]; omega
      have HTS : Hid (T.take (j + 1) = T.take j ++ [l]) := Hid.of (by rw [List.take_succ_eq_append_getElem (by have := HN.out; omega), (List.getElem?_eq_some_iff.1 hT).2])
      have HTL := Hid.of hTL
      have HLE : Hid (l.length ≤ 1000) := Hid.of (HL.out l (List.mem_of_getElem? hT))
      have HQ := Hid.of hq
      have HGG := Hid.of hG
      have HT := Hid.of hT
      have HJ : Hid (j < N) := Hid.of (by omega)
      obtain ⟨wa, wc, rfl, -⟩ := GR.out.is.tabs
      rw [hTL] at GR
      obtain ⟨w6, hw6⟩ : ∃ w6, wr = w6 := ⟨_, rfl⟩
      subst hw6
      have GR6 := GR
      clear hT IT hq hG hrep hcr g1 hTL GR
      go_upto_region 7 with fail
      clear d0
      obtain ⟨WD, hWD⟩ : ∃ WD, wr.drew = WD := ⟨_, rfl⟩
      have b6d : Below wr.heap.size wr WD := by rw [← hWD]; exact (Below.refl _ _).drew
      have GR6d := Hid.of (GR6.out.next b6d)
      have B6d := Hid.of b6d
      have IT6 := H.out.below (GR6.out.fr.trans (b6d.mono GR6.out.fr.size))
      clear b6d
      refine wp_region_noPanic ?_
      refine wp_region_held_drew (S := fun w' => True) (by kernel_rfl) ?_ (fun hHeld => ?_)
      · exact trivial
      refine takeOp 0 (o := ⟨_, _, _, _, _, _⟩) (v := ?_) rfl (by kernel_rfl) (by rfl) hHeld ?_ ?_
      rotate_left
      · intro w' hSw; (try dsimp only at hSw); go_simp; all_goals with_reducible rfl
      simp only [Act.put, List.setIfInBounds_toArray, List.set_cons_zero, List.set_cons_succ]
      refine takeOp 1 (o := ⟨_, _, _, _, _, _⟩) (v := ?_) rfl (by kernel_rfl) (by rfl) hHeld ?_ ?_
      rotate_left
      · intro w' hSw; (try dsimp only at hSw); go_simp; all_goals with_reducible rfl
      simp only [Act.put, List.setIfInBounds_toArray, List.set_cons_zero, List.set_cons_succ]
      refine takeOp 2 (o := ⟨_, _, _, _, _, _⟩) (v := ?_) rfl (by kernel_rfl) (by rfl) hHeld ?_ ?_
      rotate_left
      · intro w' hSw; (try dsimp only at hSw); go_simp; all_goals with_reducible rfl
      simp only [Act.put, List.setIfInBounds_toArray, List.set_cons_zero, List.set_cons_succ]
      refine takeOp 3 (o := ⟨_, _, _, _, _, _⟩) (v := ?_) rfl (by kernel_rfl) (by rfl) hHeld ?_ ?_
      rotate_left
      · intro w' hSw; (try dsimp only at hSw); go_simp; all_goals with_reducible rfl
      simp only [Act.put, List.setIfInBounds_toArray, List.set_cons_zero, List.set_cons_succ]
      refine takeOp 5 (o := ⟨_, _, _, _, _, _⟩) (v := ?_) rfl (by kernel_rfl) (by rfl) hHeld ?_ ?_
      rotate_left
      · intro w' hSw; (try dsimp only at hSw); go_simp; all_goals with_reducible rfl
      simp only [Act.put, List.setIfInBounds_toArray, List.set_cons_zero, List.set_cons_succ]
      refine wpAnyH_ready (rs := [4, 6]) (by kernel_rfl) (by simp) ?_
      refine AllReadyH.cons (o := ⟨_, _, _, _, _, _⟩) rfl (fun K hK => ?_) (AllReadyH.cons (o := ⟨_, _, _, _, _, _⟩) rfl (fun K hK => ?_) AllReadyH.nil)
      · have e4 : WD.cell? ⟨q, 4, none⟩ = some (.slice wa j wc) := GR6d.out.is.c.2.2.2.2
        go_simp
        clear e4
        clear hHeld
        refine hK.out _ _ trivial (fun hHeld => ?_)
        clear hK K
        try simp only [Act.put, List.setIfInBounds_toArray, List.set_cons_zero, List.set_cons_succ]
        refine wpAnyH_ready (rs := [6]) (by kernel_rfl) (by simp) ?_
        refine AllReadyH.cons (o := ⟨_, _, _, _, _, _⟩) rfl (fun K hK => ?_) AllReadyH.nil
        go_simp
        refine (TS.copy (IT6.rep j qo l G HQ.out HT.out HGG.out) HLE.out).mono ?_
        rintro e w7 ⟨q7, G7, rfl, r7, -, rf7, b7⟩
        have R7 : Hid (TS.Rep w7 q7 (tEv (now, (pn, pt), fl) (T.take j).length) l G7) := Hid.of (by rw [HTL.out]; exact r7)
        have R7F : Hid (∀ k, G7.all k → wr.heap.size ≤ k) := Hid.of (fun k hk => Nat.le_trans B6d.out.size (rf7 k hk))
        have B7 := Hid.of (B6d.out.trans (b7.mono B6d.out.size))
        have GR7 := Hid.of (GR6d.out.next b7)
        clear b7 r7 rf7
        clear hHeld
        refine hK.out _ _ trivial (fun hHeld => ?_)
        clear hK K
        try simp only [Act.put, List.setIfInBounds_toArray, List.set_cons_zero, List.set_cons_succ]
        refine wpAnyH_ready (rs := [7]) (by kernel_rfl) (by simp) ?_
        refine AllReadyH.cons (o := ⟨_, _, _, _, _, _⟩) rfl (fun K hK => ?_) AllReadyH.nil
        go_simp
        obtain ⟨w8, hw8⟩ : ∃ w8, w7.alloc (.cells #[tptr q7] 35) = w8 := ⟨_, rfl⟩
        have b8 : Below w7.heap.size w7 w8 := by rw [← hw8]; exact (Below.refl _ _).alloc (Nat.le_refl _) _
        have K8 : Hid (Cells w8 w7.heap.size 0 [tptr q7]) := Hid.of (by rw [← hw8]; exact one_cell w7 _ _)
        have B8 := Hid.of (B7.out.trans (b8.mono B7.out.size))
        have R8 := Hid.of (TS.kept R7.out b8.size (fun k hk => b8.block k (TS.lt R7.out k hk)))
        have GR8 := Hid.of (GR7.out.next b8)
        rw [hw8]
        clear hw8 b8 R7 B7 GR7
        clear hHeld
        refine hK.out _ _ trivial (fun hHeld => ?_)
        clear hK K
        try simp only [Act.put, List.setIfInBounds_toArray, List.set_cons_zero, List.set_cons_succ]
        refine wpAnyH_ready (rs := [8]) (by kernel_rfl) (by simp) ?_
        refine AllReadyH.cons (o := ⟨_, _, _, _, _, _⟩) rfl (fun K hK => ?_) AllReadyH.nil
        refine step_append_keep rfl (.tmp 39) (.tmp 42) 67 rfl 0 35 i0 _ 1 8 Tryz.underlying67 HI.out HZ0.out HZ1.out HZ2.out rfl (by decide) (.slice wa j wc) j (qs'.map tptr) (by simp [Act.eval]) (by have := GR8.out.is.hv; rwa [GR8.out.is.ql, HTL.out] at this) w7.heap.size 0 1 1 [tptr q7] (by simp [Act.eval]) K8.out rfl (by simp [Value.oneCell']) (by unfold maxLen; omega) (by omega) (Nat.zero_le _) ?_
        intro v9 w9 o9 g9 _ m9
        obtain ⟨a9, c9, hv9, _⟩ := own_one o9
        subst hv9
        have O9 := Hid.of o9
        have G9 := Hid.of g9
        have M9 := Hid.of m9
        have z9 : w9.heap[q]? = some (.cells #[.int .i64 now, .string pn, s2, f2, .slice wa j wc] 69 (0, 0)) := (g9.block q GR8.out.is.lt_p (fun c => GR8.out.is.pp (.inr (.inr c.symm)))).trans GR8.out.is.cell
        have f9 : w9.frozen? ⟨q, 4, none⟩ = false := row_frozen z9
        have e9 : w9.cell? ⟨q, 4, none⟩ = some (.slice wa j wc) := by rw [cell_of_row _ _ _ _ _ _ z9]; rfl
        clear o9 g9 m9 z9
        clear hHeld
        refine hK.out _ _ trivial (fun hHeld => ?_)
        clear hK K
        try simp only [Act.put, List.setIfInBounds_toArray, List.set_cons_zero, List.set_cons_succ]
        refine takeOp 9 (o := ⟨_, _, _, _, _, _⟩) (v := ?_) rfl (by kernel_rfl) (by rfl) hHeld ?_ ?_
        rotate_left
        · intro w' hSw; (try dsimp only at hSw); go_simp; all_goals with_reducible rfl
        simp only [Act.put, List.setIfInBounds_toArray, List.set_cons_zero, List.set_cons_succ]
        refine takeOp 10 (o := ⟨_, _, _, _, _, _⟩) (v := ?_) rfl (by kernel_rfl) (by rfl) hHeld ?_ ?_
        rotate_left
        · intro w' hSw; (try dsimp only at hSw); go_simp; all_goals with_reducible rfl
        simp only [Act.put, List.setIfInBounds_toArray, List.set_cons_zero, List.set_cons_succ]
        refine wpAnyH_ready (rs := [11]) (by kernel_rfl) (by simp) ?_
        refine AllReadyH.cons (o := ⟨_, _, _, _, _, _⟩) rfl (fun K hK => ?_) AllReadyH.nil
        go_simp
        clear f9 e9
        have GRZ := Hid.of (GR6.out.more B8.out R8.out R7F.out (v' := .slice a9 (j + 1) c9) (w2 := w9) (by rw [GR6.out.is.ql, HTL.out]; exact O9.out) G9.out M9.out)
        obtain ⟨wz, hwz⟩ : ∃ wz, w9.setCell ⟨q, 4, none⟩ (.slice a9 (j + 1) c9) = wz := ⟨_, rfl⟩
        rw [hwz] at GRZ ⊢
        clear hwz
        clear hHeld
        refine hK.out _ _ trivial (fun hHeld => ?_)
        clear hK K
        refine wpAnyH_done (by kernel_rfl) ?_ _
        refine NoPanic.normal ?_
        clear hHeld
        go_wp2
        go_roundg (N - (j + 1))
        case measure => have := HJ.out; omega
        case rel => exact ⟨j + 1, _, _, _, by go_num, HJ.out, Nat.le_refl _, Hid.of (by rw [HTS.out]; exact GRZ.out)⟩
      · go_simp
        refine (TS.copy (IT6.rep j qo l G HQ.out HT.out HGG.out) HLE.out).mono ?_
        rintro e w7 ⟨q7, G7, rfl, r7, -, rf7, b7⟩
        have R7 : Hid (TS.Rep w7 q7 (tEv (now, (pn, pt), fl) (T.take j).length) l G7) := Hid.of (by rw [HTL.out]; exact r7)
        have R7F : Hid (∀ k, G7.all k → wr.heap.size ≤ k) := Hid.of (fun k hk => Nat.le_trans B6d.out.size (rf7 k hk))
        have B7 := Hid.of (B6d.out.trans (b7.mono B6d.out.size))
        have GR7 := Hid.of (GR6d.out.next b7)
        clear b7 r7 rf7
        clear hHeld
        refine hK.out _ _ trivial (fun hHeld => ?_)
        clear hK K
        try simp only [Act.put, List.setIfInBounds_toArray, List.set_cons_zero, List.set_cons_succ]
        refine wpAnyH_ready (rs := [4, 7]) (by kernel_rfl) (by simp) ?_
        refine AllReadyH.cons (o := ⟨_, _, _, _, _, _⟩) rfl (fun K hK => ?_) (AllReadyH.cons (o := ⟨_, _, _, _, _, _⟩) rfl (fun K hK => ?_) AllReadyH.nil)
        · have e4 : w7.cell? ⟨q, 4, none⟩ = some (.slice wa j wc) := GR7.out.is.c.2.2.2.2
          go_simp
          clear e4
          clear hHeld
          refine hK.out _ _ trivial (fun hHeld => ?_)
          clear hK K
          try simp only [Act.put, List.setIfInBounds_toArray, List.set_cons_zero, List.set_cons_succ]
          refine wpAnyH_ready (rs := [7]) (by kernel_rfl) (by simp) ?_
          refine AllReadyH.cons (o := ⟨_, _, _, _, _, _⟩) rfl (fun K hK => ?_) AllReadyH.nil
          go_simp
          obtain ⟨w8, hw8⟩ : ∃ w8, w7.alloc (.cells #[tptr q7] 35) = w8 := ⟨_, rfl⟩
          have b8 : Below w7.heap.size w7 w8 := by rw [← hw8]; exact (Below.refl _ _).alloc (Nat.le_refl _) _
          have K8 : Hid (Cells w8 w7.heap.size 0 [tptr q7]) := Hid.of (by rw [← hw8]; exact one_cell w7 _ _)
          have B8 := Hid.of (B7.out.trans (b8.mono B7.out.size))
          have R8 := Hid.of (TS.kept R7.out b8.size (fun k hk => b8.block k (TS.lt R7.out k hk)))
          have GR8 := Hid.of (GR7.out.next b8)
          rw [hw8]
          clear hw8 b8 R7 B7 GR7
          clear hHeld
          refine hK.out _ _ trivial (fun hHeld => ?_)
          clear hK K
          try simp only [Act.put, List.setIfInBounds_toArray, List.set_cons_zero, List.set_cons_succ]
          refine wpAnyH_ready (rs := [8]) (by kernel_rfl) (by simp) ?_
          refine AllReadyH.cons (o := ⟨_, _, _, _, _, _⟩) rfl (fun K hK => ?_) AllReadyH.nil
          refine step_append_keep rfl (.tmp 39) (.tmp 42) 67 rfl 0 35 i0 _ 1 8 Tryz.underlying67 HI.out HZ0.out HZ1.out HZ2.out rfl (by decide) (.slice wa j wc) j (qs'.map tptr) (by simp [Act.eval]) (by have := GR8.out.is.hv; rwa [GR8.out.is.ql, HTL.out] at this) w7.heap.size 0 1 1 [tptr q7] (by simp [Act.eval]) K8.out rfl (by simp [Value.oneCell']) (by unfold maxLen; omega) (by omega) (Nat.zero_le _) ?_
          intro v9 w9 o9 g9 _ m9
          obtain ⟨a9, c9, hv9, _⟩ := own_one o9
          subst hv9
          have O9 := Hid.of o9
          have G9 := Hid.of g9
          have M9 := Hid.of m9
          have z9 : w9.heap[q]? = some (.cells #[.int .i64 now, .string pn, s2, f2, .slice wa j wc] 69 (0, 0)) := (g9.block q GR8.out.is.lt_p (fun c => GR8.out.is.pp (.inr (.inr c.symm)))).trans GR8.out.is.cell
          have f9 : w9.frozen? ⟨q, 4, none⟩ = false := row_frozen z9
          have e9 : w9.cell? ⟨q, 4, none⟩ = some (.slice wa j wc) := by rw [cell_of_row _ _ _ _ _ _ z9]; rfl
          clear o9 g9 m9 z9
          clear hHeld
          refine hK.out _ _ trivial (fun hHeld => ?_)
          clear hK K
          try simp only [Act.put, List.setIfInBounds_toArray, List.set_cons_zero, List.set_cons_succ]
          refine takeOp 9 (o := ⟨_, _, _, _, _, _⟩) (v := ?_) rfl (by kernel_rfl) (by rfl) hHeld ?_ ?_
          rotate_left
          · intro w' hSw; (try dsimp only at hSw); go_simp; all_goals with_reducible rfl
          simp only [Act.put, List.setIfInBounds_toArray, List.set_cons_zero, List.set_cons_succ]
          refine takeOp 10 (o := ⟨_, _, _, _, _, _⟩) (v := ?_) rfl (by kernel_rfl) (by rfl) hHeld ?_ ?_
          rotate_left
          · intro w' hSw; (try dsimp only at hSw); go_simp; all_goals with_reducible rfl
          simp only [Act.put, List.setIfInBounds_toArray, List.set_cons_zero, List.set_cons_succ]
          refine wpAnyH_ready (rs := [11]) (by kernel_rfl) (by simp) ?_
          refine AllReadyH.cons (o := ⟨_, _, _, _, _, _⟩) rfl (fun K hK => ?_) AllReadyH.nil
          go_simp
          clear f9 e9
          have GRZ := Hid.of (GR6.out.more B8.out R8.out R7F.out (v' := .slice a9 (j + 1) c9) (w2 := w9) (by rw [GR6.out.is.ql, HTL.out]; exact O9.out) G9.out M9.out)
          obtain ⟨wz, hwz⟩ : ∃ wz, w9.setCell ⟨q, 4, none⟩ (.slice a9 (j + 1) c9) = wz := ⟨_, rfl⟩
          rw [hwz] at GRZ ⊢
          clear hwz
          clear hHeld
          refine hK.out _ _ trivial (fun hHeld => ?_)
          clear hK K
          refine wpAnyH_done (by kernel_rfl) ?_ _
          refine NoPanic.normal ?_
          clear hHeld
          go_wp2
          go_roundg (N - (j + 1))
          case measure => have := HJ.out; omega
          case rel => exact ⟨j + 1, _, _, _, by go_num, HJ.out, Nat.le_refl _, Hid.of (by rw [HTS.out]; exact GRZ.out)⟩
        · go_simp
          obtain ⟨w8, hw8⟩ : ∃ w8, w7.alloc (.cells #[tptr q7] 35) = w8 := ⟨_, rfl⟩
          have b8 : Below w7.heap.size w7 w8 := by rw [← hw8]; exact (Below.refl _ _).alloc (Nat.le_refl _) _
          have K8 : Hid (Cells w8 w7.heap.size 0 [tptr q7]) := Hid.of (by rw [← hw8]; exact one_cell w7 _ _)
          have B8 := Hid.of (B7.out.trans (b8.mono B7.out.size))
          have R8 := Hid.of (TS.kept R7.out b8.size (fun k hk => b8.block k (TS.lt R7.out k hk)))
          have GR8 := Hid.of (GR7.out.next b8)
          rw [hw8]
          clear hw8 b8 R7 B7 GR7
          clear hHeld
          refine hK.out _ _ trivial (fun hHeld => ?_)
          clear hK K
          try simp only [Act.put, List.setIfInBounds_toArray, List.set_cons_zero, List.set_cons_succ]
          refine wpAnyH_ready (rs := [4]) (by kernel_rfl) (by simp) ?_
          refine AllReadyH.cons (o := ⟨_, _, _, _, _, _⟩) rfl (fun K hK => ?_) AllReadyH.nil
          have e4 : w8.cell? ⟨q, 4, none⟩ = some (.slice wa j wc) := GR8.out.is.c.2.2.2.2
          go_simp
          clear e4
          clear hHeld
          refine hK.out _ _ trivial (fun hHeld => ?_)
          clear hK K
          try simp only [Act.put, List.setIfInBounds_toArray, List.set_cons_zero, List.set_cons_succ]
          refine wpAnyH_ready (rs := [8]) (by kernel_rfl) (by simp) ?_
          refine AllReadyH.cons (o := ⟨_, _, _, _, _, _⟩) rfl (fun K hK => ?_) AllReadyH.nil
          refine step_append_keep rfl (.tmp 39) (.tmp 42) 67 rfl 0 35 i0 _ 1 8 Tryz.underlying67 HI.out HZ0.out HZ1.out HZ2.out rfl (by decide) (.slice wa j wc) j (qs'.map tptr) (by simp [Act.eval]) (by have := GR8.out.is.hv; rwa [GR8.out.is.ql, HTL.out] at this) w7.heap.size 0 1 1 [tptr q7] (by simp [Act.eval]) K8.out rfl (by simp [Value.oneCell']) (by unfold maxLen; omega) (by omega) (Nat.zero_le _) ?_
          intro v9 w9 o9 g9 _ m9
          obtain ⟨a9, c9, hv9, _⟩ := own_one o9
          subst hv9
          have O9 := Hid.of o9
          have G9 := Hid.of g9
          have M9 := Hid.of m9
          have z9 : w9.heap[q]? = some (.cells #[.int .i64 now, .string pn, s2, f2, .slice wa j wc] 69 (0, 0)) := (g9.block q GR8.out.is.lt_p (fun c => GR8.out.is.pp (.inr (.inr c.symm)))).trans GR8.out.is.cell
          have f9 : w9.frozen? ⟨q, 4, none⟩ = false := row_frozen z9
          have e9 : w9.cell? ⟨q, 4, none⟩ = some (.slice wa j wc) := by rw [cell_of_row _ _ _ _ _ _ z9]; rfl
          clear o9 g9 m9 z9
          clear hHeld
          refine hK.out _ _ trivial (fun hHeld => ?_)
          clear hK K
          try simp only [Act.put, List.setIfInBounds_toArray, List.set_cons_zero, List.set_cons_succ]
          refine takeOp 9 (o := ⟨_, _, _, _, _, _⟩) (v := ?_) rfl (by kernel_rfl) (by rfl) hHeld ?_ ?_
          rotate_left
          · intro w' hSw; (try dsimp only at hSw); go_simp; all_goals with_reducible rfl
          simp only [Act.put, List.setIfInBounds_toArray, List.set_cons_zero, List.set_cons_succ]
          refine takeOp 10 (o := ⟨_, _, _, _, _, _⟩) (v := ?_) rfl (by kernel_rfl) (by rfl) hHeld ?_ ?_
          rotate_left
          · intro w' hSw; (try dsimp only at hSw); go_simp; all_goals with_reducible rfl
          simp only [Act.put, List.setIfInBounds_toArray, List.set_cons_zero, List.set_cons_succ]
          refine wpAnyH_ready (rs := [11]) (by kernel_rfl) (by simp) ?_
          refine AllReadyH.cons (o := ⟨_, _, _, _, _, _⟩) rfl (fun K hK => ?_) AllReadyH.nil
          go_simp
          clear f9 e9
          have GRZ := Hid.of (GR6.out.more B8.out R8.out R7F.out (v' := .slice a9 (j + 1) c9) (w2 := w9) (by rw [GR6.out.is.ql, HTL.out]; exact O9.out) G9.out M9.out)
          obtain ⟨wz, hwz⟩ : ∃ wz, w9.setCell ⟨q, 4, none⟩ (.slice a9 (j + 1) c9) = wz := ⟨_, rfl⟩
          rw [hwz] at GRZ ⊢
          clear hwz
          clear hHeld
          refine hK.out _ _ trivial (fun hHeld => ?_)
          clear hK K
          refine wpAnyH_done (by kernel_rfl) ?_ _
          refine NoPanic.normal ?_
          clear hHeld
          go_wp2
          go_roundg (N - (j + 1))
          case measure => have := HJ.out; omega
          case rel => exact ⟨j + 1, _, _, _, by go_num, HJ.out, Nat.le_refl _, Hid.of (by rw [HTS.out]; exact GRZ.out)⟩
    · obtain rfl : j = N := by omega
      have X : Hid (IRep TS wr q (now, (pn, pt), fl) T (iFoot q s2 f2 v Gs)) := Hid.of ⟨s2, f2, v, qs', Gs, by have := GR.out.is; rwa [List.take_of_length_le (by rw [HN.out]; exact Nat.le_refl _)] at this, GD.out, rfl⟩
      have Y : Hid (∀ k, (iFoot q s2 f2 v Gs).all k → ¬ (iFoot p s f (.slice va T.length vc) Fs).own k) := Hid.of (fun k hk c => by
        have h1 := GR.out.ge k hk
        rw [HN.out] at c
        have h2 := H.out.lt (H.out.sub c)
        omega)
      go_wp2
      go_ret
      exact ⟨q, rfl, _, X.out, fun k hk => GR.out.ge k (GR.out.is.sub hk), Y.out, GR.out.fr⟩

end Go.Proofs.YtnohmloilcpmiaaGreat

namespace Go.Proofs.YtnohmloilcpmiaaGreat
open Go.RowKit Go.Lib

/-- An answer: true just where P holds. -/
def Says (w : World) (P : Prop) (x : Ending) (w' : World) : Prop := ∃ z : Bool, x = .returned (.bool z) ∧ Hid (z = true ↔ P) ∧ Below w.heap.size w w'

theorem lists_ne {α : Type} {l k : List α} {j : Nat} {x y : α} (hx : l[j]? = some x) (hy : k[j]? = some y) (h : ¬ x = y) : ¬ l = k := fun e => h (by
  rw [e, hy] at hx
  exact (Option.some.inj hx).symm)

set_option maxRecDepth 20000 in
set_option maxHeartbeats 1600000 in
theorem equalInts_any (u v : Value) (l k : List Int) (w : World) (hu : CellRow w u l.length (l.map (Value.int .i64))) (hv : CellRow w v k.length (k.map (Value.int .i64))) (hl : l.length ≤ 1000000) :
    Calls Tryz.prog 139 #[u, v] w (Says w (l = k)) := by
  have HS := Hid.of hu
  have HT := Hid.of hv
  obtain ⟨sa, sc, rfl, -⟩ := hu
  obtain ⟨ta, tc, rfl, -⟩ := hv
  by_cases hlk : l.length = k.length
  · have e1 : (l.length : Int) = (k.length : Int) := by omega
    have hne : ((l.length : Int) != (k.length : Int)) = false := by rw [e1]; simp
    go_enter Tryz.func139, Tryz.ntmps139
    go_wp2
    go_loopw [13] (fun i wr => ∃ j : Nat, j ≤ l.length ∧ i = .int .i64 j ∧ Hid (l.take j = k.take j) ∧ ∃ q, wr = w.drewN q) (fun i _ => l.length - (RowKit.intOf i).toNat)
    case atStart => exact ⟨0, Nat.zero_le _, rfl, Hid.of rfl, 0, rfl⟩
    case round =>
      obtain ⟨j, hj, rfl, E, r, rfl⟩ := hrel
      have i0 : (0 : Int) ≤ (j : Int) := Int.natCast_nonneg _
      by_cases hlt : j < l.length
      · obtain ⟨b1, o1, rfl, g1, f0⟩ := HS.out.at j (.int .i64 l[j]) (by rw [List.getElem?_map, List.getElem?_eq_getElem hlt]; rfl)
        obtain ⟨b2, o2, rfl, g2, h0⟩ := HT.out.at j (.int .i64 (k[j]'(by omega))) (by rw [List.getElem?_map, List.getElem?_eq_getElem (by omega)]; rfl)
        obtain ⟨x0, hx⟩ : ∃ x, l[j] = x := ⟨_, rfl⟩
        obtain ⟨y0, hy⟩ : ∃ y, (k[j]'(by omega)) = y := ⟨_, rfl⟩
        rw [hx] at f0
        rw [hy] at h0
        have i1 : (j : Int) < (l.length : Int) := by omega
        have i2 : (j : Int) < (k.length : Int) := by omega
        have HX : Hid (l[j]? = some x0) := Hid.of (by rw [← hx]; exact List.getElem?_eq_getElem hlt)
        have HY : Hid (k[j]? = some y0) := Hid.of (by rw [← hy]; exact List.getElem?_eq_getElem (by omega))
        clear hx hy e1 hne
        by_cases hx0 : x0 = y0
        · subst hx0
          go_wp2
          go_quiet (fail)
          go_wp2
          go_roundw
          case rel =>
            refine ⟨j + 1, by omega, by go_num, Hid.of ?_, _, rfl⟩
            have h1 := HX.out
            rw [List.take_add_one, List.take_add_one, h1, HY.out, E.out]
          case measure => simp [RowKit.intOf]; omega
        · have e0 : (x0 == y0) = false := beq_eq_false_iff_ne.2 hx0
          go_wp2
          go_quiet (fail)
          go_wp2
          go_ret
          exact ⟨false, rfl, Hid.of ⟨fun c => (by cases c), fun c => absurd c (lists_ne HX.out HY.out (hx0))⟩, below_drewN (below_drewN (Below.refl _ _) _) _⟩
      · have hjl : j = l.length := by omega
        have HE : Hid (l = k) := Hid.of (by
          have h := E.out
          rw [hjl, List.take_length, hlk, List.take_length] at h
          exact h)
        clear hjl
        go_wp2
        go_ret
        exact ⟨true, rfl, Hid.of ⟨fun _ => HE.out, fun _ => rfl⟩, below_drewN (Below.refl _ _) _⟩
  · have e1 : ¬ (l.length : Int) = (k.length : Int) := by omega
    have HE : Hid (¬ l = k) := Hid.of (fun e => hlk (by rw [e]))
    go_enter Tryz.func139, Tryz.ntmps139
    go_wp2
    go_ret
    exact ⟨false, rfl, Hid.of ⟨fun c => (by cases c), fun c => absurd c HE.out⟩, Below.refl _ _⟩

set_option maxRecDepth 20000 in
set_option maxHeartbeats 1600000 in
theorem equalRecs_any (u v : Value) (l k : List RecL) (w : World) (hu : CellRow w u l.length (flat renc l)) (hv : CellRow w v k.length (flat renc k)) (hl : l.length ≤ 1000000) :
    Calls Tryz.prog 141 #[u, v] w (Says w (l = k)) := by
  have HS := Hid.of hu
  have HT := Hid.of hv
  obtain ⟨sa, sc, rfl, -⟩ := hu
  obtain ⟨ta, tc, rfl, -⟩ := hv
  by_cases hlk : l.length = k.length
  · have e1 : (l.length : Int) = (k.length : Int) := by omega
    have hne : ((l.length : Int) != (k.length : Int)) = false := by rw [e1]; simp
    go_enter Tryz.func141, Tryz.ntmps141
    go_wp2
    go_loopw [13] (fun i wr => ∃ j : Nat, j ≤ l.length ∧ i = .int .i64 j ∧ Hid (l.take j = k.take j) ∧ ∃ q, wr = w.drewN q) (fun i _ => l.length - (RowKit.intOf i).toNat)
    case atStart => exact ⟨0, Nat.zero_le _, rfl, Hid.of rfl, 0, rfl⟩
    case round =>
      obtain ⟨j, hj, rfl, E, r, rfl⟩ := hrel
      have i0 : (0 : Int) ≤ (j : Int) := Int.natCast_nonneg _
      by_cases hlt : j < l.length
      · obtain ⟨b1, o1, rfl, g1, hc1⟩ := r_at HS.out j l[j] (by simp [hlt])
        obtain ⟨b2, o2, rfl, g2, hc2⟩ := r_at HT.out j (k[j]'(by omega)) (by simp)
        obtain ⟨x, hx⟩ : ∃ x, l[j] = x := ⟨_, rfl⟩
        obtain ⟨y, hy⟩ : ∃ y, (k[j]'(by omega)) = y := ⟨_, rfl⟩
        rw [hx] at hc1
        rw [hy] at hc2
        obtain ⟨x0, x1, x2, x3, x4, x5, x6⟩ := x
        obtain ⟨y0, y1, y2, y3, y4, y5, y6⟩ := y
        obtain ⟨f0, f1, f2, f3, f4, f5, f6⟩ := hc1
        obtain ⟨h0, h1, h2, h3, h4, h5, h6⟩ := hc2
        simp only at f0 h0 f1 h1 f2 h2 f3 h3 f4 h4 f5 h5 f6 h6
        have i1 : (j : Int) < (l.length : Int) := by omega
        have i2 : (j : Int) < (k.length : Int) := by omega
        have HX : Hid (l[j]? = some (x0, x1, x2, x3, x4, x5, x6)) := Hid.of (by rw [← hx]; exact List.getElem?_eq_getElem hlt)
        have HY : Hid (k[j]? = some (y0, y1, y2, y3, y4, y5, y6)) := Hid.of (by rw [← hy]; exact List.getElem?_eq_getElem (by omega))
        clear hx hy e1 hne
        by_cases hx0 : x0 = y0
        · have e0 : (x0.toList == y0.toList) = true := by rw [hx0]; exact beq_self_eq_true _
          have HX0 := Hid.of hx0
          clear hx0
          by_cases hx1 : x1 = y1
          · subst hx1
            by_cases hx2 : x2 = y2
            · subst hx2
              by_cases hx3 : x3 = y3
              · subst hx3
                by_cases hx4 : x4 = y4
                · subst hx4
                  by_cases hx5 : x5 = y5
                  · subst hx5
                    by_cases hx6 : x6 = y6
                    · subst hx6
                      go_wp2
                      go_quiet (fail)
                      go_wp2
                      go_roundw
                      case rel =>
                        refine ⟨j + 1, by omega, by go_num, Hid.of ?_, _, rfl⟩
                        have h1 := HX.out
                        rw [HX0.out] at h1
                        rw [List.take_add_one, List.take_add_one, h1, HY.out, E.out]
                      case measure => simp [RowKit.intOf]; omega
                    · have e6 : (x6 == y6) = false := beq_eq_false_iff_ne.2 hx6
                      go_wp2
                      go_quiet (fail)
                      go_wp2
                      go_ret
                      exact ⟨false, rfl, Hid.of ⟨fun c => (by cases c), fun c => absurd c (lists_ne HX.out HY.out (fun e => hx6 (by simp only [Prod.mk.injEq] at e; exact e.2.2.2.2.2.2)))⟩, below_drewN (below_drewN (Below.refl _ _) _) _⟩
                  · have e5 : (x5 == y5) = false := beq_eq_false_iff_ne.2 hx5
                    go_wp2
                    go_quiet (fail)
                    go_wp2
                    go_ret
                    exact ⟨false, rfl, Hid.of ⟨fun c => (by cases c), fun c => absurd c (lists_ne HX.out HY.out (fun e => hx5 (by simp only [Prod.mk.injEq] at e; exact e.2.2.2.2.2.1)))⟩, below_drewN (below_drewN (Below.refl _ _) _) _⟩
                · have e4 : (x4 == y4) = false := beq_eq_false_iff_ne.2 hx4
                  go_wp2
                  go_quiet (fail)
                  go_wp2
                  go_ret
                  exact ⟨false, rfl, Hid.of ⟨fun c => (by cases c), fun c => absurd c (lists_ne HX.out HY.out (fun e => hx4 (by simp only [Prod.mk.injEq] at e; exact e.2.2.2.2.1)))⟩, below_drewN (below_drewN (Below.refl _ _) _) _⟩
              · have e3 : (x3 == y3) = false := beq_eq_false_iff_ne.2 hx3
                go_wp2
                go_quiet (fail)
                go_wp2
                go_ret
                exact ⟨false, rfl, Hid.of ⟨fun c => (by cases c), fun c => absurd c (lists_ne HX.out HY.out (fun e => hx3 (by simp only [Prod.mk.injEq] at e; exact e.2.2.2.1)))⟩, below_drewN (below_drewN (Below.refl _ _) _) _⟩
            · have e2 : (x2 == y2) = false := beq_eq_false_iff_ne.2 hx2
              go_wp2
              go_quiet (fail)
              go_wp2
              go_ret
              exact ⟨false, rfl, Hid.of ⟨fun c => (by cases c), fun c => absurd c (lists_ne HX.out HY.out (fun e => hx2 (by simp only [Prod.mk.injEq] at e; exact e.2.2.1)))⟩, below_drewN (below_drewN (Below.refl _ _) _) _⟩
          · have e1 : (x1 == y1) = false := beq_eq_false_iff_ne.2 hx1
            go_wp2
            go_quiet (fail)
            go_wp2
            go_ret
            exact ⟨false, rfl, Hid.of ⟨fun c => (by cases c), fun c => absurd c (lists_ne HX.out HY.out (fun e => hx1 (by simp only [Prod.mk.injEq] at e; exact e.2.1)))⟩, below_drewN (below_drewN (Below.refl _ _) _) _⟩
        · have e0 : (x0.toList == y0.toList) = false := beq_eq_false_iff_ne.2 (fun c => hx0 (toList_eq c))
          go_wp2
          go_quiet (fail)
          go_wp2
          go_ret
          exact ⟨false, rfl, Hid.of ⟨fun c => (by cases c), fun c => absurd c (lists_ne HX.out HY.out (fun e => hx0 (by simp only [Prod.mk.injEq] at e; exact e.1)))⟩, below_drewN (below_drewN (Below.refl _ _) _) _⟩
      · have hjl : j = l.length := by omega
        have HE : Hid (l = k) := Hid.of (by
          have h := E.out
          rw [hjl, List.take_length, hlk, List.take_length] at h
          exact h)
        clear hjl
        go_wp2
        go_ret
        exact ⟨true, rfl, Hid.of ⟨fun _ => HE.out, fun _ => rfl⟩, below_drewN (Below.refl _ _) _⟩
  · have e1 : ¬ (l.length : Int) = (k.length : Int) := by omega
    have HE : Hid (¬ l = k) := Hid.of (fun e => hlk (by rw [e]))
    go_enter Tryz.func141, Tryz.ntmps141
    go_wp2
    go_ret
    exact ⟨false, rfl, Hid.of ⟨fun c => (by cases c), fun c => absurd c HE.out⟩, Below.refl _ _⟩

theorem rl_inj {l k : List TRec} (h : l.map rl = k.map rl) : l = k := by
  refine List.map_inj_right ?_ |>.1 h
  intro x y e
  obtain ⟨xn, xs, xa⟩ := x
  obtain ⟨yn, ys, ya⟩ := y
  obtain ⟨a1, a2, a3, a4, a5⟩ := xa
  obtain ⟨b1, b2, b3, b4, b5⟩ := ya
  simp only [rl, Prod.mk.injEq] at e
  obtain ⟨rfl, rfl, rfl, rfl, rfl, rfl, rfl⟩ := e
  rfl

theorem iAlike_any {TS : TableSpec} {w : World} {p q : Nat} {e e' : Int} {l l' : List TRec} {F G : TFoot} (h : TS.Rep w p e l F) (h' : TS.Rep w q e' l' G) (hl : l.length ≤ 1000) (hl' : l'.length ≤ 1000) :
    Calls Tryz.prog 62 #[tptr p, tptr q] w (Says w (l = l')) := by
  have ha := TS.all h hl
  have HG := Hid.of h'
  have HL := Hid.of hl
  have HL' := Hid.of hl'
  clear h hl hl' h'
  go_enter Tryz.func62, Tryz.ntmps62
  go_wp2_with fail
  refine ha.mono ?_
  rintro x w1 ⟨u, rfl, o1, b1⟩
  have B1 := Hid.of b1
  have O1 := Hid.of (own_row o1)
  have hb := TS.all (TS.kept HG.out b1.size (fun k hk => b1.block k (TS.lt HG.out k hk))) HL'.out
  clear ha b1 o1
  go_wp2_with fail
  refine hb.mono ?_
  rintro x w2 ⟨v, rfl, o2, b2⟩
  have B2 := Hid.of (B1.out.trans (b2.mono B1.out.size))
  have heq := equalRecs_any u v (l.map rl) (l'.map rl) w2 (by rw [List.length_map]; exact O1.out.kept b2) (by rw [List.length_map]; exact own_row o2) (by rw [List.length_map]; have := HL.out; omega)
  clear b2 o2 hb
  go_wp2_with fail
  refine heq.mono ?_
  rintro x w3 ⟨z, rfl, hz, b3⟩
  have B3 := Hid.of (B2.out.trans (b3.mono B2.out.size))
  have HZ : Hid (z = true ↔ l = l') := Hid.of ⟨fun k => rl_inj (hz.out.1 k), fun k => hz.out.2 (by rw [k])⟩
  clear b3 heq hz
  go_wp2
  go_ret
  exact ⟨z, rfl, HZ, B3.out⟩

set_option maxRecDepth 20000 in
set_option maxHeartbeats 1600000 in
theorem iEqFunc_any {TS : TableSpec} {w : World} {p p' : Nat} {r r' : RchL} {T T' : List (List TRec)} {s f s' f' va va' : Value} {qs qs' : List Nat} {Fs Fs' : List TFoot} (h : ITs TS w p r T s f va qs Fs) (h' : ITs TS w p' r' T' s' f' va' qs' Fs') (hT : T.length ≤ 1000) (hl : ∀ l ∈ T, l.length ≤ 1000) (hl' : ∀ l ∈ T', l.length ≤ 1000) :
    Calls Tryz.prog 61 #[va, va', .func (.func 62) #[] #[]] w (Says w (T = T')) := by
  have H := Hid.of h
  have H' := Hid.of h'
  have HL := Hid.of hl
  have HL' := Hid.of hl'
  obtain ⟨xa, xc, rfl, -⟩ := h.tabs
  obtain ⟨ya, yc, rfl, -⟩ := h'.tabs
  obtain ⟨N, hN⟩ : ∃ N, T.length = N := ⟨_, rfl⟩
  obtain ⟨M, hM⟩ : ∃ M, T'.length = M := ⟨_, rfl⟩
  rw [hN] at H
  rw [hM] at H'
  have HN := Hid.of hN
  have HM := Hid.of hM
  rw [hN, hM]
  rw [hN] at hT
  clear h h' hl hl' hN hM
  by_cases hNM : N = M
  · subst hNM
    have hne : ((N : Int) != (N : Int)) = false := by simp
    go_enter Tryz.func61, Tryz.ntmps61
    go_wp2
    go_loopg [7, 8, 9, 17] N (fun kx _ _ _ iv wr => ∃ j : Nat, iv = .int .i64 j ∧ j ≤ N ∧ N - j ≤ kx ∧ Hid (T.take j = T'.take j) ∧ Hid (Below w.heap.size w wr))
    case atStart => exact ⟨0, rfl, Nat.zero_le _, Nat.le_refl _, Hid.of (by rw [List.take_zero, List.take_zero]), Hid.of (Below.refl _ _)⟩
    case round =>
      obtain ⟨j, rfl, hj, hk, HE, HB⟩ := hrel
      have j0 : (0 : Int) ≤ (j : Int) := Int.natCast_nonneg _
      by_cases hlt : (j : Int) < (N : Int)
      · obtain ⟨l, hT⟩ : ∃ l, T[j]? = some l := ⟨_, List.getElem?_eq_getElem (by have := HN.out; omega)⟩
        obtain ⟨l', hT'⟩ : ∃ l, T'[j]? = some l := ⟨_, List.getElem?_eq_getElem (by have := HM.out; omega)⟩
        have IT := H.out.below HB.out
        have IT' := H'.out.below HB.out
        obtain ⟨q, G, hq, hG, hrep⟩ := IT.at_i hT
        obtain ⟨q', G', hq', hG', hrep'⟩ := IT'.at_i hT'
        have hcr := IT.tabs
        have hcr' := IT'.tabs
        rw [HN.out] at hcr
        rw [HM.out] at hcr'
        obtain ⟨b1, o1, rfl, g1, d0⟩ := hcr.at j (tptr q) (by rw [List.getElem?_map, hq]; rfl)
        obtain ⟨b2, o2, rfl, g2, d1⟩ := hcr'.at j (tptr q') (by rw [List.getElem?_map, hq']; rfl)
        have hal := iAlike_any hrep hrep' (HL.out l (List.mem_of_getElem? hT)) (HL'.out l' (List.mem_of_getElem? hT'))
        have HJ : Hid (j < N) := Hid.of (by omega)
        have HT := Hid.of hT
        have HT' := Hid.of hT'
        clear hq hG hrep hcr g1 IT hq' hG' hrep' hcr' g2 IT' hT hT'
        go_wp2_with fail
        refine hal.mono ?_
        rintro e w2 ⟨z, rfl, HZ, b2⟩
        have B2 := Hid.of (HB.out.trans (b2.mono HB.out.size))
        clear b2 hal d0 d1 HB
        cases z
        · go_wp2
          go_ret
          refine ⟨_, rfl, Hid.of ⟨fun k => (by cases k), fun k => ?_⟩, B2.out⟩
          have e := HT.out
          rw [k, HT'.out] at e
          exact absurd (HZ.out.2 (Option.some.inj e).symm) (by simp)
        · have HE2 : Hid (T.take (j + 1) = T'.take (j + 1)) := Hid.of (by
            rw [List.take_add_one, List.take_add_one, HT.out, HT'.out, HE.out, HZ.out.1 rfl])
          go_wp2
          go_roundg (N - (j + 1))
          case measure => have := HJ.out; omega
          case rel => exact ⟨j + 1, by go_num, HJ.out, Nat.le_refl _, HE2, B2⟩
      · obtain rfl : j = N := by omega
        have HZ : Hid (T = T') := Hid.of (by
          have := HE.out
          rwa [List.take_of_length_le (by rw [HN.out]; exact Nat.le_refl _), List.take_of_length_le (by rw [HM.out]; exact Nat.le_refl _)] at this)
        go_wp2
        go_ret
        exact ⟨_, rfl, Hid.of ⟨fun _ => HZ.out, fun _ => rfl⟩, HB.out⟩
  · have hne : ((N : Int) != (M : Int)) = true := by simp; omega
    have HZ : Hid (¬ T = T') := Hid.of (fun e => hNM (by rw [← HN.out, ← HM.out, e]))
    have hne2 : ¬ (N : Int) = (M : Int) := by omega
    clear hNM
    go_enter Tryz.func61, Tryz.ntmps61
    go_wp2
    go_ret
    exact ⟨_, rfl, Hid.of ⟨fun k => (by cases k), fun k => absurd k HZ.out⟩, Below.refl _ _⟩

end Go.Proofs.YtnohmloilcpmiaaGreat
