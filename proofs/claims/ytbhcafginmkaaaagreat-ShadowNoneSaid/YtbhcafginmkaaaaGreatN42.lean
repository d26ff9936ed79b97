/-
  A bundle of texts: HEB HEE.
-/
import Derived.Test.YtbhcafginmkaaaaGreatN41
import Derived.Test.YtbhcafginmkaaaaGreatN05
import Derived.Test.YtbhcafginmkaaaaGreatN38
namespace Go.Proofs.YtbhcafginmkaaaaGreat
open Go.RowKit Go.Lib

set_option maxRecDepth 20000 in
theorem hAt_any {TS : TableSpec} {w : World} {p : Nat} {pl : PlanL} {bd dn : Int} {T : List (List TRec)} {s f v : Value} {qs : List Nat} {Fs : List TFoot} (h : HIs TS w p pl bd dn T s f v qs Fs) {j q : Nat} (hq : qs[j]? = some q) :
    Calls Tryz.prog 195 #[tptr p, .int .i64 j] w fun e w' => e = .returned (tptr q) ∧ w' = w := by
  obtain ⟨-, -, -, -, -, c4⟩ := h.c
  have hr := h.tabs
  obtain ⟨va, vc, rfl, -⟩ := h.tabs
  have hj : j < T.length := by rw [← h.ql]; exact (List.getElem?_eq_some_iff.1 hq).1
  obtain ⟨b, o, rfl, hb, c⟩ := hr.at j (tptr q) (by rw [List.getElem?_map, hq]; rfl)
  obtain ⟨N, hN⟩ : ∃ N, T.length = N := ⟨_, rfl⟩
  rw [hN] at c4 hj
  have h1 : ¬ (j : Int) < 0 := by omega
  have h2 : ¬ (j : Int) ≥ (N : Int) := by omega
  have h3 : (j : Int) < (N : Int) := by omega
  have h4 : (0 : Int) ≤ (j : Int) := by omega
  clear h hN hr hq hb hj
  go_enter Tryz.func195, Tryz.ntmps195
  go_wp2
  go_ret
  exact ⟨rfl, rfl⟩

set_option maxRecDepth 20000 in
theorem hAt_no {TS : TableSpec} {w : World} {p : Nat} {pl : PlanL} {bd dn : Int} {T : List (List TRec)} {s f v : Value} {qs : List Nat} {Fs : List TFoot} (h : HIs TS w p pl bd dn T s f v qs Fs) {i : Int} (hi : ¬ (0 ≤ i ∧ i.toNat < T.length)) :
    Calls Tryz.prog 195 #[tptr p, .int .i64 i] w fun e w' => e = .returned (.pointer none) ∧ w' = w := by
  obtain ⟨-, -, -, -, -, c4⟩ := h.c
  obtain ⟨va, vc, rfl, -⟩ := h.tabs
  obtain ⟨N, hN⟩ : ∃ N, T.length = N := ⟨_, rfl⟩
  rw [hN] at c4 hi
  have hc : i < 0 ∨ ¬ i < 0 ∧ i ≥ (N : Int) := by omega
  clear h hN hi
  rcases hc with h1 | ⟨h1, h2⟩
  all_goals
    go_enter Tryz.func195, Tryz.ntmps195
    go_wp2
    go_ret
    exact ⟨rfl, rfl⟩

theorem hAt_nil (w : World) (i : Int) : Calls Tryz.prog 195 #[.pointer none, .int .i64 i] w fun e w' => e = .returned (.pointer none) ∧ w' = w := by
  go_enter Tryz.func195, Tryz.ntmps195
  go_wp2
  go_ret
  exact ⟨rfl, rfl⟩

theorem hOpen_nil (w : World) (i : Int) : Calls Tryz.prog 193 #[.pointer none, .int .i64 i] w fun e w' => e = .returned (.pointer none) ∧ w' = w := by
  go_enter Tryz.func193, Tryz.ntmps193
  go_wp2
  go_ret
  exact ⟨rfl, rfl⟩

theorem HIs.cs1 {TS : TableSpec} {w : World} {p : Nat} {pl : PlanL} {bd dn : Int} {T : List (List TRec)} {f v : Value} {qs : List Nat} {Fs : List TFoot} {sb so N sc : Nat} (h : HIs TS w p pl bd dn T (.slice (some ⟨sb, so, none⟩) N sc) f v qs Fs) (hN : pl.1.2.length = N) {j : Nat} {t : TierL} (ht : pl.1.2[j]? = some t) :
    Cs w [(⟨p, 1, none⟩, .slice (some ⟨sb, so, none⟩) N sc), (⟨sb, so + j * 4 + 1, none⟩, .int .i64 t.2.1)] := by
  have hr := own_row h.hs
  rw [hN] at hr
  obtain ⟨b1, o1, e, g1, d0, d1, d2, d3⟩ := p_at hr j t ht
  cases e
  exact .cons h.lt_p h.c.2.1 (.cons g1 d1 (.nil _))

set_option maxRecDepth 20000 in
set_option maxHeartbeats 6400000 in
theorem hOpen_any {TS : TableSpec} {w : World} {p : Nat} {pl : PlanL} {bd dn : Int} {T : List (List TRec)} {s f v : Value} {qs : List Nat} {Fs : List TFoot} (h : HIs TS w p pl bd dn T s f v qs Fs) (hck : (pCheck pl.1).1 = 0) (h10 : pl.1.2.length ≤ 10) {i : Nat} (hi : i < pl.1.2.length) :
    Calls Tryz.prog 193 #[tptr p, .int .i64 i] w fun x w' => ∃ v' qs' Fs' q, x = .returned (tptr q) ∧ qs'[i]? = some q ∧ HIs TS w' p pl bd dn (hOpen T (i + 1)) s f v' qs' Fs' ∧ TStep (hFoot p s f v Fs) (hFoot p s f v' Fs') w w' := by
  have H := Hid.of h
  obtain ⟨-, c1, -, -, -, c5⟩ := h.c
  have hs := own_row h.hs
  obtain ⟨sa, sc, rfl, -⟩ := own_one h.hs
  obtain ⟨va, vc, rfl, -⟩ := h.tabs
  obtain ⟨N, hN⟩ : ∃ N, pl.1.2.length = N := ⟨_, rfl⟩
  obtain ⟨M, hM⟩ : ∃ M, T.length = M := ⟨_, rfl⟩
  obtain ⟨ti, hti⟩ : ∃ t, pl.1.2[i]? = some t := ⟨_, List.getElem?_eq_getElem hi⟩
  obtain ⟨sb, so, rfl, -⟩ := p_at hs i ti hti
  have HN := Hid.of hN
  have HM := Hid.of hM
  have HCK := Hid.of hck
  rw [hN] at c1 H h10 hi
  rw [hM] at c5 H
  have hi10 : i ≤ 10 := by omega
  have h1 : ¬ (i : Int) < 0 := by omega
  have h2 : ¬ (i : Int) ≥ (N : Int) := by omega
  have i0 : (0 : Int) ≤ (i : Int) := by omega
  obtain ⟨z0, hi0, hz0, hz1, hz2⟩ := info_parts ptab_info
  have HI := Hid.of hi0
  have HZ0 := Hid.of hz0
  have HZ1 := Hid.of hz1
  have HZ2 := Hid.of hz2
  have HIN := Hid.of hi
  have ST0 : Hid (TStep (hFoot p (.slice (some ⟨sb, so, none⟩) N sc) f (.slice va M vc) Fs) (hFoot p (.slice (some ⟨sb, so, none⟩) N sc) f (.slice va M vc) Fs) w w) := Hid.of (TStep.of_below (Below.refl _ _))
  clear h hs hN hM hck hti hi0 hz0 hz1 hz2 hi
  rw [HN.out, HM.out]
  go_enter Tryz.func193, Tryz.ntmps193
  go_upto_region 4 with fail
  clear c1 c5
  go_loopg [5] (i + 1) (fun kx jv wr => ∃ (j : Nat) (va' : Option Addr) (vc' : Nat) (qs' : List Nat) (Fs' : List TFoot), jv = .int .i64 j ∧ M ≤ j ∧ j ≤ max M (i + 1) ∧ i + 1 - j ≤ kx ∧ Hid (HIs TS wr p pl bd dn (hOpen T j) (.slice (some ⟨sb, so, none⟩) N sc) f (.slice va' j vc') qs' Fs') ∧ Hid (TStep (hFoot p (.slice (some ⟨sb, so, none⟩) N sc) f (.slice va M vc) Fs) (hFoot p (.slice (some ⟨sb, so, none⟩) N sc) f (.slice va' j vc') Fs') w wr))
  case atStart => exact ⟨M, va, vc, qs, Fs, rfl, Nat.le_refl _, by omega, by omega, Hid.of (by rw [hOpen_self (by rw [HM.out]; exact Nat.le_refl _)]; exact H.out), ST0⟩
  case round =>
    clear H ST0
    obtain ⟨j, va', vc', qs', Fs', rfl, hMj, hjm, hk, HH, ST⟩ := hrel
    have j0 : (0 : Int) ≤ (j : Int) := Int.natCast_nonneg _
    have HLEN : Hid ((hOpen T j).length = j) := Hid.of (by rw [hOpen_len, HM.out]; omega)
    by_cases hlt : (j : Int) ≤ (i : Int)
    · obtain ⟨t, ht⟩ : ∃ t, pl.1.2[j]? = some t := ⟨_, List.getElem?_eq_getElem (by have := HN.out; have := HIN.out; omega)⟩
      have htk := tier_known HCK.out ht
      have CS6 := Hid.of (HH.out.cs1 HN.out ht)
      have HEV : Hid (tEv (sR pl) (hOpen T j).length = max t.2.1 1) := Hid.of (by
        rw [HLEN.out]
        unfold tEv
        show (match pl.1.2[j]? with | some t => t.2.1 | none => 1) = _
        rw [ht]
        show t.2.1 = _
        omega)
      obtain ⟨ev, hev⟩ : ∃ ev, t.2.1 = ev := ⟨_, rfl⟩
      rw [hev] at CS6 HEV htk
      have HE64 : Hid (TIn64 ev) := Hid.of ⟨by omega, by omega⟩
      have HT := Hid.of ht
      have HTV := Hid.of hev
      have HJ : Hid (j < i + 1) := Hid.of (by omega)
      have HMJ := Hid.of hMj
      have j3 : (j : Int) < (N : Int) := by have := HIN.out; omega
      have GR6 := HH
      clear ht htk hev
      go_upto_region 6 with fail
      clear HH
      obtain ⟨WD, hWD⟩ : ∃ WD, wr.drew = WD := ⟨_, rfl⟩
      have b6d : Below wr.heap.size wr WD := by rw [← hWD]; exact (Below.refl _ _).drew
      have GR6d := Hid.of (GR6.out.below b6d)
      have B6d := Hid.of b6d
      have CSD := Hid.of (CS6.out.next b6d)
      clear b6d
      have d0 := CS6.out.head
      have d1 := CS6.out.tail.head
      refine wp_region_noPanic ?_
      refine wp_region_held_drew (S := fun w' => w'.cell? ⟨p, 1, none⟩ = some (.slice (some ⟨sb, so, none⟩) N sc) ∧ w'.cell? ⟨sb, so + j * 4 + 1, none⟩ = some (.int .i64 ev)) (by kernel_rfl) ?_ (fun hHeld => ?_)
      · exact ⟨d0, d1⟩
      rw [hWD] at hHeld ⊢
      refine takeOp 0 (o := ⟨_, _, _, _, _, _⟩) (v := ?_) rfl (by kernel_rfl) (by rfl) hHeld ?_ ?_; rotate_left; (next => intro w' hSw; (try dsimp only at hSw); go_simp; all_goals with_reducible rfl); simp only [Act.put, pA9, pB9, pC9]
      refine takeOp 1 (o := ⟨_, _, _, _, _, _⟩) (v := ?_) rfl (by kernel_rfl) (by rfl) hHeld ?_ ?_; rotate_left; (next => intro w' hSw; (try dsimp only at hSw); go_simp; all_goals with_reducible rfl); simp only [Act.put, pA9, pB9, pC9]
      refine takeOp 2 (o := ⟨_, _, _, _, _, _⟩) (v := ?_) rfl (by kernel_rfl) (by rfl) hHeld ?_ ?_; rotate_left; (next => intro w' hSw; (try dsimp only at hSw); go_simp; all_goals with_reducible rfl); simp only [Act.put, pA9, pB9, pC9]
      refine takeOp 3 (o := ⟨_, _, _, _, _, _⟩) (v := ?_) rfl (by kernel_rfl) (by rfl) hHeld ?_ ?_; rotate_left; (next => intro w' hSw; (try dsimp only at hSw); go_simp; all_goals with_reducible rfl); simp only [Act.put, pA9, pB9, pC9]
      refine takeOp 5 (o := ⟨_, _, _, _, _, _⟩) (v := ?_) rfl (by kernel_rfl) (by rfl) hHeld ?_ ?_; rotate_left; (next => intro w' hSw; (try dsimp only at hSw); go_simp; all_goals with_reducible rfl); simp only [Act.put, pA9, pB9, pC9]
      refine takeOp 6 (o := ⟨_, _, _, _, _, _⟩) (v := ?_) rfl (by kernel_rfl) (by rfl) hHeld ?_ ?_; rotate_left; (next => intro w' hSw; (try dsimp only at hSw); go_simp; all_goals with_reducible rfl); simp only [Act.put, pA9, pB9, pC9]
      refine takeOp 7 (o := ⟨_, _, _, _, _, _⟩) (v := ?_) rfl (by kernel_rfl) (by rfl) hHeld ?_ ?_; rotate_left; (next => intro w' hSw; (try dsimp only at hSw); go_simp; all_goals with_reducible rfl); simp only [Act.put, pA9, pB9, pC9]
      refine takeOp 8 (o := ⟨_, _, _, _, _, _⟩) (v := ?_) rfl (by kernel_rfl) (by rfl) hHeld ?_ ?_; rotate_left; (next => intro w' hSw; (try dsimp only at hSw); go_simp; all_goals with_reducible rfl); simp only [Act.put, pA9, pB9, pC9]
      refine takeOp 9 (o := ⟨_, _, _, _, _, _⟩) (v := ?_) rfl (by kernel_rfl) (by rfl) hHeld ?_ ?_; rotate_left; (next => intro w' hSw; (try dsimp only at hSw); go_simp; all_goals with_reducible rfl); simp only [Act.put, pA9, pB9, pC9]
      refine takeOp 10 (o := ⟨_, _, _, _, _, _⟩) (v := ?_) rfl (by kernel_rfl) (by rfl) hHeld ?_ ?_; rotate_left; (next => intro w' hSw; (try dsimp only at hSw); go_simp; all_goals with_reducible rfl); simp only [Act.put, pA9, pB9, pC9]
      refine takeOp 11 (o := ⟨_, _, _, _, _, _⟩) (v := ?_) rfl (by kernel_rfl) (by rfl) hHeld ?_ ?_; rotate_left; (next => intro w' hSw; (try dsimp only at hSw); go_simp; all_goals with_reducible rfl); simp only [Act.put, pA9, pB9, pC9]
      refine takeOp 12 (o := ⟨_, _, _, _, _, _⟩) (v := ?_) rfl (by kernel_rfl) (by rfl) hHeld ?_ ?_; rotate_left; (next => intro w' hSw; (try dsimp only at hSw); go_simp; all_goals with_reducible rfl); simp only [Act.put, pA9, pB9, pC9]
      refine takeOp 13 (o := ⟨_, _, _, _, _, _⟩) (v := ?_) rfl (by kernel_rfl) (by rfl) hHeld ?_ ?_; rotate_left; (next => intro w' hSw; (try dsimp only at hSw); go_simp; all_goals with_reducible rfl); simp only [Act.put, pA9, pB9, pC9]
      refine takeOp 14 (o := ⟨_, _, _, _, _, _⟩) (v := ?_) rfl (by kernel_rfl) (by rfl) hHeld ?_ ?_; rotate_left; (next => intro w' hSw; (try dsimp only at hSw); go_simp; all_goals with_reducible rfl); simp only [Act.put, pA9, pB9, pC9]
      refine wpAnyH_ready (rs := [4, 15]) (by kernel_rfl) (by simp) ?_
      refine AllReadyH.cons (o := ⟨_, _, _, _, _, _⟩) rfl (fun K hK => ?_) (AllReadyH.cons (o := ⟨_, _, _, _, _, _⟩) rfl (fun K hK => ?_) AllReadyH.nil)
      · have e4 : WD.cell? ⟨p, 5, none⟩ = some (.slice va' j vc') := GR6d.out.c.2.2.2.2.2
        go_simp
        clear e4
        clear hHeld d0 d1
        have d0 := CSD.out.head
        have d1 := CSD.out.tail.head
        refine hK.out _ _ ⟨d0, d1⟩ (fun hHeld => ?_)
        clear hK K
        try simp only [Act.put, pA9, pB9, pC9]
        refine wpAnyH_ready (rs := [15]) (by kernel_rfl) (by simp) ?_
        refine AllReadyH.cons (o := ⟨_, _, _, _, _, _⟩) rfl (fun K hK => ?_) AllReadyH.nil
        go_simp
        refine (TS.new ev _ HE64.out).mono ?_
        rintro e w7 ⟨q7, G7, rfl, r7, rf7, b7⟩
        have R7 : Hid (TS.Rep w7 q7 (tEv (sR pl) (hOpen T j).length) [] G7) := Hid.of (by rw [HEV.out]; exact r7)
        have R7F : Hid (∀ k, G7.all k → wr.heap.size ≤ k) := Hid.of (fun k hk => Nat.le_trans B6d.out.size (rf7 k hk))
        have B7 := Hid.of (B6d.out.trans (b7.mono B6d.out.size))
        have GR7 := Hid.of (GR6d.out.below b7)
        have CS7 := Hid.of (CSD.out.next b7)
        clear b7 r7 rf7
        clear hHeld d0 d1
        have d0 := CS7.out.head
        have d1 := CS7.out.tail.head
        refine hK.out _ _ ⟨d0, d1⟩ (fun hHeld => ?_)
        clear hK K
        try simp only [Act.put, pA9, pB9, pC9]
        refine wpAnyH_ready (rs := [16]) (by kernel_rfl) (by simp) ?_
        refine AllReadyH.cons (o := ⟨_, _, _, _, _, _⟩) rfl (fun K hK => ?_) AllReadyH.nil
        go_simp
        obtain ⟨w8, hw8⟩ : ∃ w8, w7.alloc (.cells #[tptr q7] 192) = w8 := ⟨_, rfl⟩
        have b8 : Below w7.heap.size w7 w8 := by rw [← hw8]; exact (Below.refl _ _).alloc (Nat.le_refl _) _
        have K8 : Hid (Cells w8 w7.heap.size 0 [tptr q7]) := Hid.of (by rw [← hw8]; exact one_cell w7 _ _)
        have B8 := Hid.of (B7.out.trans (b8.mono B7.out.size))
        have R8 := Hid.of (TS.kept R7.out b8.size (fun k hk => b8.block k (TS.lt R7.out k hk)))
        have GR8 := Hid.of (GR7.out.below b8)
        have CS8 := Hid.of (CS7.out.next b8)
        rw [hw8]
        clear hw8 b8 R7 B7 GR7 CS7
        clear hHeld d0 d1
        have d0 := CS8.out.head
        have d1 := CS8.out.tail.head
        refine hK.out _ _ ⟨d0, d1⟩ (fun hHeld => ?_)
        clear hK K
        try simp only [Act.put, pA9, pB9, pC9]
        refine wpAnyH_ready (rs := [17]) (by kernel_rfl) (by simp) ?_
        refine AllReadyH.cons (o := ⟨_, _, _, _, _, _⟩) rfl (fun K hK => ?_) AllReadyH.nil
        refine step_append_keep rfl (.tmp 37) (.tmp 49) 74 rfl 0 192 z0 _ 1 8 Tryz.underlying74 HI.out HZ0.out HZ1.out HZ2.out rfl (by decide) (.slice va' j vc') j (qs'.map tptr) (by simp [Act.eval]) (by have := GR8.out.hv; rwa [GR8.out.ql, HLEN.out] at this) w7.heap.size 0 1 1 [tptr q7] (by simp [Act.eval]) K8.out rfl (by simp [Value.oneCell']) (by unfold maxLen; omega) (by omega) (Nat.zero_le _) ?_
        intro v9 w9 o9 g9 _ m9
        obtain ⟨a9, c9, hv9, _⟩ := own_one o9
        subst hv9
        have O9 := Hid.of o9
        have G9 := Hid.of g9
        have M9 := Hid.of m9
        have z9 : w9.heap[p]? = some (.cells #[.string pl.1.1, .slice (some ⟨sb, so, none⟩) N sc, f, .int .i64 bd, .int .i64 dn, .slice va' j vc'] 138 (0, 0)) := (g9.block p GR8.out.lt_p (fun c => GR8.out.pp (.inr (.inr c.symm)))).trans GR8.out.cell
        have f9 : w9.frozen? ⟨p, 5, none⟩ = false := row_frozen z9
        have e9 : w9.cell? ⟨p, 5, none⟩ = some (.slice va' j vc') := by rw [cell_of_row _ _ _ _ _ _ z9]; rfl
        have CS9 := Hid.of (CS8.out.grown g9 (fun x hx c => by
          simp only [List.mem_cons, List.not_mem_nil, or_false] at hx
          rcases hx with rfl | rfl
          · exact GR8.out.pp (.inr (.inr c.symm))
          · exact (GR8.out.sv _ c.symm).1 rfl))
        clear o9 g9 m9 z9
        clear hHeld d0 d1
        have d0 := CS9.out.head
        have d1 := CS9.out.tail.head
        refine hK.out _ _ ⟨d0, d1⟩ (fun hHeld => ?_)
        clear hK K
        try simp only [Act.put, pA9, pB9, pC9]
        refine takeOp 18 (o := ⟨_, _, _, _, _, _⟩) (v := ?_) rfl (by kernel_rfl) (by rfl) hHeld ?_ ?_; rotate_left; (next => intro w' hSw; (try dsimp only at hSw); go_simp; all_goals with_reducible rfl); simp only [Act.put, pA9, pB9, pC9]
        refine takeOp 19 (o := ⟨_, _, _, _, _, _⟩) (v := ?_) rfl (by kernel_rfl) (by rfl) hHeld ?_ ?_; rotate_left; (next => intro w' hSw; (try dsimp only at hSw); go_simp; all_goals with_reducible rfl); simp only [Act.put, pA9, pB9, pC9]
        refine wpAnyH_ready (rs := [20]) (by kernel_rfl) (by simp) ?_
        refine AllReadyH.cons (o := ⟨_, _, _, _, _, _⟩) rfl (fun K hK => ?_) AllReadyH.nil
        go_simp
        clear f9 e9
        have HRZ := GR6.out.more B8.out R8.out R7F.out (v' := .slice a9 (j + 1) c9) (w2 := w9) (by rw [GR6.out.ql, HLEN.out]; exact O9.out) G9.out M9.out
        obtain ⟨wz, hwz⟩ : ∃ wz, w9.setCell ⟨p, 5, none⟩ (.slice a9 (j + 1) c9) = wz := ⟨_, rfl⟩
        rw [hwz] at HRZ ⊢
        rw [← hOpen_succ (by rw [HM.out]; exact HMJ.out)] at HRZ
        have GRZ := Hid.of HRZ.1
        have STZ := Hid.of (ST.out.trans HRZ.2)
        have CSZ := Hid.of (GRZ.out.cs1 HN.out HT.out)
        rw [HTV.out] at CSZ
        clear hwz HRZ
        clear hHeld d0 d1
        have d0 := CSZ.out.head
        have d1 := CSZ.out.tail.head
        refine hK.out _ _ ⟨d0, d1⟩ (fun hHeld => ?_)
        clear hK K
        refine wpAnyH_done (by kernel_rfl) ?_ _
        refine NoPanic.normal ?_
        clear hHeld d0 d1
        go_wp2
        go_roundg (i + 1 - (j + 1))
        case measure => have := HJ.out; omega
        case rel => exact ⟨j + 1, _, _, _, _, by go_num, by have := HMJ.out; omega, by have := HJ.out; omega, Nat.le_refl _, GRZ, STZ⟩
      · go_simp
        refine (TS.new ev _ HE64.out).mono ?_
        rintro e w7 ⟨q7, G7, rfl, r7, rf7, b7⟩
        have R7 : Hid (TS.Rep w7 q7 (tEv (sR pl) (hOpen T j).length) [] G7) := Hid.of (by rw [HEV.out]; exact r7)
        have R7F : Hid (∀ k, G7.all k → wr.heap.size ≤ k) := Hid.of (fun k hk => Nat.le_trans B6d.out.size (rf7 k hk))
        have B7 := Hid.of (B6d.out.trans (b7.mono B6d.out.size))
        have GR7 := Hid.of (GR6d.out.below b7)
        have CS7 := Hid.of (CSD.out.next b7)
        clear b7 r7 rf7
        clear hHeld d0 d1
        have d0 := CS7.out.head
        have d1 := CS7.out.tail.head
        refine hK.out _ _ ⟨d0, d1⟩ (fun hHeld => ?_)
        clear hK K
        try simp only [Act.put, pA9, pB9, pC9]
        refine wpAnyH_ready (rs := [4, 16]) (by kernel_rfl) (by simp) ?_
        refine AllReadyH.cons (o := ⟨_, _, _, _, _, _⟩) rfl (fun K hK => ?_) (AllReadyH.cons (o := ⟨_, _, _, _, _, _⟩) rfl (fun K hK => ?_) AllReadyH.nil)
        · have e4 : w7.cell? ⟨p, 5, none⟩ = some (.slice va' j vc') := GR7.out.c.2.2.2.2.2
          go_simp
          clear e4
          clear hHeld d0 d1
          have d0 := CS7.out.head
          have d1 := CS7.out.tail.head
          refine hK.out _ _ ⟨d0, d1⟩ (fun hHeld => ?_)
          clear hK K
          try simp only [Act.put, pA9, pB9, pC9]
          refine wpAnyH_ready (rs := [16]) (by kernel_rfl) (by simp) ?_
          refine AllReadyH.cons (o := ⟨_, _, _, _, _, _⟩) rfl (fun K hK => ?_) AllReadyH.nil
          go_simp
          obtain ⟨w8, hw8⟩ : ∃ w8, w7.alloc (.cells #[tptr q7] 192) = w8 := ⟨_, rfl⟩
          have b8 : Below w7.heap.size w7 w8 := by rw [← hw8]; exact (Below.refl _ _).alloc (Nat.le_refl _) _
          have K8 : Hid (Cells w8 w7.heap.size 0 [tptr q7]) := Hid.of (by rw [← hw8]; exact one_cell w7 _ _)
          have B8 := Hid.of (B7.out.trans (b8.mono B7.out.size))
          have R8 := Hid.of (TS.kept R7.out b8.size (fun k hk => b8.block k (TS.lt R7.out k hk)))
          have GR8 := Hid.of (GR7.out.below b8)
          have CS8 := Hid.of (CS7.out.next b8)
          rw [hw8]
          clear hw8 b8 R7 B7 GR7 CS7
          clear hHeld d0 d1
          have d0 := CS8.out.head
          have d1 := CS8.out.tail.head
          refine hK.out _ _ ⟨d0, d1⟩ (fun hHeld => ?_)
          clear hK K
          try simp only [Act.put, pA9, pB9, pC9]
          refine wpAnyH_ready (rs := [17]) (by kernel_rfl) (by simp) ?_
          refine AllReadyH.cons (o := ⟨_, _, _, _, _, _⟩) rfl (fun K hK => ?_) AllReadyH.nil
          refine step_append_keep rfl (.tmp 37) (.tmp 49) 74 rfl 0 192 z0 _ 1 8 Tryz.underlying74 HI.out HZ0.out HZ1.out HZ2.out rfl (by decide) (.slice va' j vc') j (qs'.map tptr) (by simp [Act.eval]) (by have := GR8.out.hv; rwa [GR8.out.ql, HLEN.out] at this) w7.heap.size 0 1 1 [tptr q7] (by simp [Act.eval]) K8.out rfl (by simp [Value.oneCell']) (by unfold maxLen; omega) (by omega) (Nat.zero_le _) ?_
          intro v9 w9 o9 g9 _ m9
          obtain ⟨a9, c9, hv9, _⟩ := own_one o9
          subst hv9
          have O9 := Hid.of o9
          have G9 := Hid.of g9
          have M9 := Hid.of m9
          have z9 : w9.heap[p]? = some (.cells #[.string pl.1.1, .slice (some ⟨sb, so, none⟩) N sc, f, .int .i64 bd, .int .i64 dn, .slice va' j vc'] 138 (0, 0)) := (g9.block p GR8.out.lt_p (fun c => GR8.out.pp (.inr (.inr c.symm)))).trans GR8.out.cell
          have f9 : w9.frozen? ⟨p, 5, none⟩ = false := row_frozen z9
          have e9 : w9.cell? ⟨p, 5, none⟩ = some (.slice va' j vc') := by rw [cell_of_row _ _ _ _ _ _ z9]; rfl
          have CS9 := Hid.of (CS8.out.grown g9 (fun x hx c => by
            simp only [List.mem_cons, List.not_mem_nil, or_false] at hx
            rcases hx with rfl | rfl
            · exact GR8.out.pp (.inr (.inr c.symm))
            · exact (GR8.out.sv _ c.symm).1 rfl))
          clear o9 g9 m9 z9
          clear hHeld d0 d1
          have d0 := CS9.out.head
          have d1 := CS9.out.tail.head
          refine hK.out _ _ ⟨d0, d1⟩ (fun hHeld => ?_)
          clear hK K
          try simp only [Act.put, pA9, pB9, pC9]
          refine takeOp 18 (o := ⟨_, _, _, _, _, _⟩) (v := ?_) rfl (by kernel_rfl) (by rfl) hHeld ?_ ?_; rotate_left; (next => intro w' hSw; (try dsimp only at hSw); go_simp; all_goals with_reducible rfl); simp only [Act.put, pA9, pB9, pC9]
          refine takeOp 19 (o := ⟨_, _, _, _, _, _⟩) (v := ?_) rfl (by kernel_rfl) (by rfl) hHeld ?_ ?_; rotate_left; (next => intro w' hSw; (try dsimp only at hSw); go_simp; all_goals with_reducible rfl); simp only [Act.put, pA9, pB9, pC9]
          refine wpAnyH_ready (rs := [20]) (by kernel_rfl) (by simp) ?_
          refine AllReadyH.cons (o := ⟨_, _, _, _, _, _⟩) rfl (fun K hK => ?_) AllReadyH.nil
          go_simp
          clear f9 e9
          have HRZ := GR6.out.more B8.out R8.out R7F.out (v' := .slice a9 (j + 1) c9) (w2 := w9) (by rw [GR6.out.ql, HLEN.out]; exact O9.out) G9.out M9.out
          obtain ⟨wz, hwz⟩ : ∃ wz, w9.setCell ⟨p, 5, none⟩ (.slice a9 (j + 1) c9) = wz := ⟨_, rfl⟩
          rw [hwz] at HRZ ⊢
          rw [← hOpen_succ (by rw [HM.out]; exact HMJ.out)] at HRZ
          have GRZ := Hid.of HRZ.1
          have STZ := Hid.of (ST.out.trans HRZ.2)
          have CSZ := Hid.of (GRZ.out.cs1 HN.out HT.out)
          rw [HTV.out] at CSZ
          clear hwz HRZ
          clear hHeld d0 d1
          have d0 := CSZ.out.head
          have d1 := CSZ.out.tail.head
          refine hK.out _ _ ⟨d0, d1⟩ (fun hHeld => ?_)
          clear hK K
          refine wpAnyH_done (by kernel_rfl) ?_ _
          refine NoPanic.normal ?_
          clear hHeld d0 d1
          go_wp2
          go_roundg (i + 1 - (j + 1))
          case measure => have := HJ.out; omega
          case rel => exact ⟨j + 1, _, _, _, _, by go_num, by have := HMJ.out; omega, by have := HJ.out; omega, Nat.le_refl _, GRZ, STZ⟩
        · go_simp
          obtain ⟨w8, hw8⟩ : ∃ w8, w7.alloc (.cells #[tptr q7] 192) = w8 := ⟨_, rfl⟩
          have b8 : Below w7.heap.size w7 w8 := by rw [← hw8]; exact (Below.refl _ _).alloc (Nat.le_refl _) _
          have K8 : Hid (Cells w8 w7.heap.size 0 [tptr q7]) := Hid.of (by rw [← hw8]; exact one_cell w7 _ _)
          have B8 := Hid.of (B7.out.trans (b8.mono B7.out.size))
          have R8 := Hid.of (TS.kept R7.out b8.size (fun k hk => b8.block k (TS.lt R7.out k hk)))
          have GR8 := Hid.of (GR7.out.below b8)
          have CS8 := Hid.of (CS7.out.next b8)
          rw [hw8]
          clear hw8 b8 R7 B7 GR7 CS7
          clear hHeld d0 d1
          have d0 := CS8.out.head
          have d1 := CS8.out.tail.head
          refine hK.out _ _ ⟨d0, d1⟩ (fun hHeld => ?_)
          clear hK K
          try simp only [Act.put, pA9, pB9, pC9]
          refine wpAnyH_ready (rs := [4]) (by kernel_rfl) (by simp) ?_
          refine AllReadyH.cons (o := ⟨_, _, _, _, _, _⟩) rfl (fun K hK => ?_) AllReadyH.nil
          have e4 : w8.cell? ⟨p, 5, none⟩ = some (.slice va' j vc') := GR8.out.c.2.2.2.2.2
          go_simp
          clear e4
          clear hHeld d0 d1
          have d0 := CS8.out.head
          have d1 := CS8.out.tail.head
          refine hK.out _ _ ⟨d0, d1⟩ (fun hHeld => ?_)
          clear hK K
          try simp only [Act.put, pA9, pB9, pC9]
          refine wpAnyH_ready (rs := [17]) (by kernel_rfl) (by simp) ?_
          refine AllReadyH.cons (o := ⟨_, _, _, _, _, _⟩) rfl (fun K hK => ?_) AllReadyH.nil
          refine step_append_keep rfl (.tmp 37) (.tmp 49) 74 rfl 0 192 z0 _ 1 8 Tryz.underlying74 HI.out HZ0.out HZ1.out HZ2.out rfl (by decide) (.slice va' j vc') j (qs'.map tptr) (by simp [Act.eval]) (by have := GR8.out.hv; rwa [GR8.out.ql, HLEN.out] at this) w7.heap.size 0 1 1 [tptr q7] (by simp [Act.eval]) K8.out rfl (by simp [Value.oneCell']) (by unfold maxLen; omega) (by omega) (Nat.zero_le _) ?_
          intro v9 w9 o9 g9 _ m9
          obtain ⟨a9, c9, hv9, _⟩ := own_one o9
          subst hv9
          have O9 := Hid.of o9
          have G9 := Hid.of g9
          have M9 := Hid.of m9
          have z9 : w9.heap[p]? = some (.cells #[.string pl.1.1, .slice (some ⟨sb, so, none⟩) N sc, f, .int .i64 bd, .int .i64 dn, .slice va' j vc'] 138 (0, 0)) := (g9.block p GR8.out.lt_p (fun c => GR8.out.pp (.inr (.inr c.symm)))).trans GR8.out.cell
          have f9 : w9.frozen? ⟨p, 5, none⟩ = false := row_frozen z9
          have e9 : w9.cell? ⟨p, 5, none⟩ = some (.slice va' j vc') := by rw [cell_of_row _ _ _ _ _ _ z9]; rfl
          have CS9 := Hid.of (CS8.out.grown g9 (fun x hx c => by
            simp only [List.mem_cons, List.not_mem_nil, or_false] at hx
            rcases hx with rfl | rfl
            · exact GR8.out.pp (.inr (.inr c.symm))
            · exact (GR8.out.sv _ c.symm).1 rfl))
          clear o9 g9 m9 z9
          clear hHeld d0 d1
          have d0 := CS9.out.head
          have d1 := CS9.out.tail.head
          refine hK.out _ _ ⟨d0, d1⟩ (fun hHeld => ?_)
          clear hK K
          try simp only [Act.put, pA9, pB9, pC9]
          refine takeOp 18 (o := ⟨_, _, _, _, _, _⟩) (v := ?_) rfl (by kernel_rfl) (by rfl) hHeld ?_ ?_; rotate_left; (next => intro w' hSw; (try dsimp only at hSw); go_simp; all_goals with_reducible rfl); simp only [Act.put, pA9, pB9, pC9]
          refine takeOp 19 (o := ⟨_, _, _, _, _, _⟩) (v := ?_) rfl (by kernel_rfl) (by rfl) hHeld ?_ ?_; rotate_left; (next => intro w' hSw; (try dsimp only at hSw); go_simp; all_goals with_reducible rfl); simp only [Act.put, pA9, pB9, pC9]
          refine wpAnyH_ready (rs := [20]) (by kernel_rfl) (by simp) ?_
          refine AllReadyH.cons (o := ⟨_, _, _, _, _, _⟩) rfl (fun K hK => ?_) AllReadyH.nil
          go_simp
          clear f9 e9
          have HRZ := GR6.out.more B8.out R8.out R7F.out (v' := .slice a9 (j + 1) c9) (w2 := w9) (by rw [GR6.out.ql, HLEN.out]; exact O9.out) G9.out M9.out
          obtain ⟨wz, hwz⟩ : ∃ wz, w9.setCell ⟨p, 5, none⟩ (.slice a9 (j + 1) c9) = wz := ⟨_, rfl⟩
          rw [hwz] at HRZ ⊢
          rw [← hOpen_succ (by rw [HM.out]; exact HMJ.out)] at HRZ
          have GRZ := Hid.of HRZ.1
          have STZ := Hid.of (ST.out.trans HRZ.2)
          have CSZ := Hid.of (GRZ.out.cs1 HN.out HT.out)
          rw [HTV.out] at CSZ
          clear hwz HRZ
          clear hHeld d0 d1
          have d0 := CSZ.out.head
          have d1 := CSZ.out.tail.head
          refine hK.out _ _ ⟨d0, d1⟩ (fun hHeld => ?_)
          clear hK K
          refine wpAnyH_done (by kernel_rfl) ?_ _
          refine NoPanic.normal ?_
          clear hHeld d0 d1
          go_wp2
          go_roundg (i + 1 - (j + 1))
          case measure => have := HJ.out; omega
          case rel => exact ⟨j + 1, _, _, _, _, by go_num, by have := HMJ.out; omega, by have := HJ.out; omega, Nat.le_refl _, GRZ, STZ⟩
    · have hlt2 : ¬ (j : Int) ≤ (i : Int) := hlt
      have HJ : Hid (hOpen T j = hOpen T (i + 1)) := Hid.of (by
        by_cases c : M ≤ i + 1
        · rw [show j = i + 1 by omega]
        · rw [hOpen_self (by rw [HM.out]; omega), hOpen_self (by rw [HM.out]; omega)])
      have HQL : Hid (qs'.length = j) := Hid.of (by rw [HH.out.ql, HLEN.out])
      obtain ⟨q, hq⟩ : ∃ q, qs'[i]? = some q := ⟨_, List.getElem?_eq_getElem (by have := HQL.out; omega)⟩
      have hr := HH.out.tabs
      rw [HLEN.out] at hr
      obtain ⟨b, o, rfl, hb, c⟩ := hr.at i (tptr q) (by rw [List.getElem?_map, hq]; rfl)
      obtain ⟨-, -, -, -, -, c5⟩ := HH.out.c
      have h3 : (i : Int) < (j : Int) := by omega
      have HQ := Hid.of hq
      clear hr hb hq
      go_wp2
      go_ret
      exact ⟨_, qs', Fs', q, rfl, HQ.out, by rw [← HJ.out]; exact HH.out, ST.out⟩

end Go.Proofs.YtbhcafginmkaaaaGreat

namespace Go.Proofs.YtbhcafginmkaaaaGreat
open Go.RowKit Go.Lib

theorem hBound_nil (w : World) : Calls Tryz.prog 90 #[.pointer none] w fun x w' => x = .returned (.int .i64 0) ∧ w' = w := by
  go_enter Tryz.func90, Tryz.ntmps90
  go_wp2
  go_ret
  exact ⟨rfl, rfl⟩
theorem hDone_nil (w : World) : Calls Tryz.prog 91 #[.pointer none] w fun x w' => x = .returned (.int .i64 0) ∧ w' = w := by
  go_enter Tryz.func91, Tryz.ntmps91
  go_wp2
  go_ret
  exact ⟨rfl, rfl⟩

section
variable {TS : TableSpec} {w : World} {p : Nat} {pl : PlanL} {bd dn : Int} {T : List (List TRec)} {s f v : Value} {qs : List Nat} {Fs : List TFoot}
theorem hBound_any (h : HIs TS w p pl bd dn T s f v qs Fs) : Calls Tryz.prog 90 #[tptr p] w fun x w' => x = .returned (.int .i64 bd) ∧ w' = w := by
  obtain ⟨-, -, -, c3, -, -⟩ := h.c
  clear h
  go_enter Tryz.func90, Tryz.ntmps90
  go_wp2
  go_ret
  exact ⟨rfl, rfl⟩
theorem hDone_any (h : HIs TS w p pl bd dn T s f v qs Fs) : Calls Tryz.prog 91 #[tptr p] w fun x w' => x = .returned (.int .i64 dn) ∧ w' = w := by
  obtain ⟨-, -, -, -, c4, -⟩ := h.c
  clear h
  go_enter Tryz.func91, Tryz.ntmps91
  go_wp2
  go_ret
  exact ⟨rfl, rfl⟩

set_option maxRecDepth 20000 in
set_option maxHeartbeats 1600000 in
theorem hNext_any (h : HIs TS w p pl bd dn T s f v qs Fs) (fm : MFit pl) (hdn : I64 dn) : Calls Tryz.prog 89 #[tptr p] w fun x w' => x = .returned (atVal (mAt pl dn)) ∧ Below w.heap.size w w' := by
  have FM := Hid.of fm
  have HDN := Hid.of hdn
  obtain ⟨z, hz⟩ : ∃ z, w.heap.size = z := ⟨_, rfl⟩
  obtain ⟨w1, hw1⟩ : ∃ w1, w.alloc (.cells #[.int .i64 0, .int .i64 0, .int .i64 0] 59) = w1 := ⟨_, rfl⟩
  have b1 : Below w.heap.size w w1 := by rw [← hw1]; exact (Below.refl _ _).alloc (Nat.le_refl _) _
  have k1 : SBlk w1 z 0 0 0 := by rw [← hw1, ← hz]; exact (MapKept.heap_alloc w _).1
  have H1 := Hid.of (h.below b1)
  have B1 := Hid.of b1
  have Z1 := Hid.of k1
  have HPZ : Hid (p < z) := Hid.of (by rw [← hz]; exact h.lt_p)
  obtain ⟨sa, sc, rfl, -⟩ := own_one h.hs
  obtain ⟨fa, fc, rfl, -⟩ := own_one h.hf
  obtain ⟨N, hN⟩ : ∃ N, pl.1.2.length = N := ⟨_, rfl⟩
  obtain ⟨M, hM⟩ : ∃ M, pl.2.length = M := ⟨_, rfl⟩
  obtain ⟨pn, hpn⟩ : ∃ n, pl.1.1 = n := ⟨_, rfl⟩
  have PR : Hid (∀ w2, Below w1.heap.size w1 w2 → PlanRow w2 (.agg #[.string pn, .slice sa N sc, .slice fa M fc]) pl) := Hid.of (fun w2 b => by
    rw [← hpn, ← hN, ← hM]
    exact (H1.out.below b).plan)
  have CS1 : Hid (Cs w1 [(⟨p, 0, none⟩, .string pn), (⟨p, 1, none⟩, .slice sa N sc), (⟨p, 2, none⟩, .slice fa M fc), (⟨p, 4, none⟩, .int .i64 dn)]) := Hid.of (by
    rw [← hpn, ← hN, ← hM]
    obtain ⟨c0, c1, c2, -, c4, -⟩ := H1.out.c
    exact .cons H1.out.lt_p c0 (.cons H1.out.lt_p c1 (.cons H1.out.lt_p c2 (.cons H1.out.lt_p c4 (.nil _)))))
  obtain ⟨kd, tr, sh, is_, hat⟩ : ∃ a b c d, mAt pl dn = ((a, b, c), d) := ⟨_, _, _, _, rfl⟩
  have AT : Hid (mAt pl dn = ((kd, tr, sh), is_)) := Hid.of hat
  have HW := Hid.of hw1
  have HZ := Hid.of hz
  rw [hat]
  unfold atVal
  simp only
  clear h fm hdn hw1 hz b1 k1 H1 hN hM hpn hat
  go_enter Tryz.func89, Tryz.ntmps89
  go_upto_region 3 with fail
  rw [HW.out, HZ.out]
  clear HW
  have b2 : Below w1.heap.size w1 w1.drew := (Below.refl _ _).drew
  have B2 := Hid.of (B1.out.trans (b2.mono B1.out.size))
  have CS2 := Hid.of (CS1.out.next b2)
  have Z2 := Hid.of (sblk_next Z1.out b2)
  have BD := Hid.of b2
  clear b2 B1 Z1
  have d0 := (CS1.out).head
  have d1 := ((CS1.out).tail).head
  have d2 := (((CS1.out).tail).tail).head
  have d3 := ((((CS1.out).tail).tail).tail).head
  refine wp_region_noPanic ?_
  refine wp_region_held_drew (S := fun w' => w'.cell? ⟨p, 0, none⟩ = some (.string pn) ∧ w'.cell? ⟨p, 1, none⟩ = some (.slice sa N sc) ∧ w'.cell? ⟨p, 2, none⟩ = some (.slice fa M fc) ∧ w'.cell? ⟨p, 4, none⟩ = some (.int .i64 dn)) (by kernel_rfl) ?_ (fun hHeld => ?_)
  · exact ⟨d0, d1, d2, d3⟩
  refine takeOp 0 (o := ⟨_, _, _, _, _, _⟩) (v := ?_) rfl (by kernel_rfl) (by rfl) hHeld ?_ ?_; rotate_left; (next => intro w' hSw; (try dsimp only at hSw); go_simp; all_goals with_reducible rfl); simp only [Act.put, pA9, pB9, pC9]
  refine takeOp 1 (o := ⟨_, _, _, _, _, _⟩) (v := ?_) rfl (by kernel_rfl) (by rfl) hHeld ?_ ?_; rotate_left; (next => intro w' hSw; (try dsimp only at hSw); go_simp; all_goals with_reducible rfl); simp only [Act.put, pA9, pB9, pC9]
  refine takeOp 2 (o := ⟨_, _, _, _, _, _⟩) (v := ?_) rfl (by kernel_rfl) (by rfl) hHeld ?_ ?_; rotate_left; (next => intro w' hSw; (try dsimp only at hSw); go_simp; all_goals with_reducible rfl); simp only [Act.put, pA9, pB9, pC9]
  refine takeOp 3 (o := ⟨_, _, _, _, _, _⟩) (v := ?_) rfl (by kernel_rfl) (by rfl) hHeld ?_ ?_; rotate_left; (next => intro w' hSw; (try dsimp only at hSw); go_simp; all_goals with_reducible rfl); simp only [Act.put, pA9, pB9, pC9]
  refine takeOp 4 (o := ⟨_, _, _, _, _, _⟩) (v := ?_) rfl (by kernel_rfl) (by rfl) hHeld ?_ ?_; rotate_left; (next => intro w' hSw; (try dsimp only at hSw); go_simp; all_goals with_reducible rfl); simp only [Act.put, pA9, pB9, pC9]
  refine takeOp 5 (o := ⟨_, _, _, _, _, _⟩) (v := ?_) rfl (by kernel_rfl) (by rfl) hHeld ?_ ?_; rotate_left; (next => intro w' hSw; (try dsimp only at hSw); go_simp; all_goals with_reducible rfl); simp only [Act.put, pA9, pB9, pC9]
  refine takeOp 6 (o := ⟨_, _, _, _, _, _⟩) (v := ?_) rfl (by kernel_rfl) (by rfl) hHeld ?_ ?_; rotate_left; (next => intro w' hSw; (try dsimp only at hSw); go_simp; all_goals with_reducible rfl); simp only [Act.put, pA9, pB9, pC9]
  refine takeOp 7 (o := ⟨_, _, _, _, _, _⟩) (v := ?_) rfl (by kernel_rfl) (by rfl) hHeld ?_ ?_; rotate_left; (next => intro w' hSw; (try dsimp only at hSw); go_simp; all_goals with_reducible rfl); simp only [Act.put, pA9, pB9, pC9]
  refine wpAnyH_ready (rs := [8]) (by kernel_rfl) (by simp) ?_
  refine AllReadyH.cons (o := ⟨_, _, _, _, _, _⟩) rfl (fun K hK => ?_) AllReadyH.nil
  clear CS1
  go_simp
  refine (at_any _ pl dn _ (PR.out _ BD.out) FM.out HDN.out).mono ?_
  rintro e w3 ⟨rfl, b3⟩
  rw [AT.out]
  unfold atVal
  simp only
  have B3 := Hid.of (B2.out.trans (b3.mono B2.out.size))
  have CS3 := Hid.of (CS2.out.next b3)
  have Z3 := Hid.of (sblk_next Z2.out b3)
  clear b3 B2 CS2 Z2
  clear hHeld d0 d1 d2 d3
  have d0 := (CS3.out).head
  have d1 := ((CS3.out).tail).head
  have d2 := (((CS3.out).tail).tail).head
  have d3 := ((((CS3.out).tail).tail).tail).head
  refine hK.out _ _ ⟨d0, d1, d2, d3⟩ (fun hHeld => ?_)
  clear hK K
  try simp only [Act.put, pA9, pB9, pC9]
  refine takeOp 9 (o := ⟨_, _, _, _, _, _⟩) (v := ?_) rfl (by kernel_rfl) (by rfl) hHeld ?_ ?_; rotate_left; (next => intro w' hSw; (try dsimp only at hSw); go_simp; all_goals with_reducible rfl); simp only [Act.put, pA9, pB9, pC9]
  refine takeOp 10 (o := ⟨_, _, _, _, _, _⟩) (v := ?_) rfl (by kernel_rfl) (by rfl) hHeld ?_ ?_; rotate_left; (next => intro w' hSw; (try dsimp only at hSw); go_simp; all_goals with_reducible rfl); simp only [Act.put, pA9, pB9, pC9]
  refine wpAnyH_ready (rs := [11]) (by kernel_rfl) (by simp) ?_
  refine AllReadyH.cons (o := ⟨_, _, _, _, _, _⟩) rfl (fun K hK => ?_) AllReadyH.nil
  have k0 := Z3.out
  have f0 := row_frozen (i := 0) k0
  have f1 := row_frozen (i := 1) k0
  have f2 := row_frozen (i := 2) k0
  obtain ⟨t0, t1, t2⟩ := sblk_at k0
  go_simp
  clear f0 f1 f2 t0 t1 t2
  have KZ : Hid (SBlk (setS w3 z kd tr sh) z kd tr sh) := Hid.of (sblk_set k0)
  have gz := setS_grown w3 z kd tr sh
  have CSZ := Hid.of (CS3.out.grown gz (fun x hx c => by
    have h2 := HPZ.out
    have h1 := Option.some.inj c
    simp only [List.mem_cons, List.not_mem_nil, or_false] at hx
    rcases hx with rfl | rfl | rfl | rfl <;> (simp only at h1; omega)))
  have BZ : Hid (Below w.heap.size w (setS w3 z kd tr sh)) := Hid.of (B3.out.grown gz B3.out.size (fun k hk => by cases hk; rw [HZ.out]; exact Nat.le_refl _))
  clear gz k0
  unfold setS at CSZ
  clear hHeld d0 d1 d2 d3
  have d0 := (CSZ.out).head
  have d1 := ((CSZ.out).tail).head
  have d2 := (((CSZ.out).tail).tail).head
  have d3 := ((((CSZ.out).tail).tail).tail).head
  refine hK.out _ _ ⟨d0, d1, d2, d3⟩ (fun hHeld => ?_)
  clear hK K
  try simp only [Act.put, pA9, pB9, pC9]
  refine takeOp 12 (o := ⟨_, _, _, _, _, _⟩) (v := ?_) rfl (by kernel_rfl) (by rfl) hHeld ?_ ?_; rotate_left; (next => intro w' hSw; (try dsimp only at hSw); go_simp; all_goals with_reducible rfl); simp only [Act.put, pA9, pB9, pC9]
  refine wpAnyH_done (by kernel_rfl) ?_ _
  refine NoPanic.normal ?_
  clear hHeld d0 d1 d2 d3 CSZ
  obtain ⟨q0, q1, q2⟩ := sblk_at KZ.out
  unfold setS at q0 q1 q2 BZ
  clear KZ
  go_wp2
  refine bodyPost_ret (v := .tuple #[.agg #[.int .i64 kd, .int .i64 tr, .int .i64 sh], .bool is_]) ?_ rfl ⟨rfl, BZ.out⟩
  simp [results, Tryz.results89, go_sem, q0, q1, q2]

set_option maxRecDepth 20000 in
theorem hNext_nil (w : World) : Calls Tryz.prog 89 #[.pointer none] w fun x w' => x = .returned (.tuple #[.agg #[.int .i64 0, .int .i64 0, .int .i64 0], .bool false]) ∧ Below w.heap.size w w' := by
  obtain ⟨z, hz⟩ : ∃ z, w.heap.size = z := ⟨_, rfl⟩
  obtain ⟨w1, hw1⟩ : ∃ w1, w.alloc (.cells #[.int .i64 0, .int .i64 0, .int .i64 0] 59) = w1 := ⟨_, rfl⟩
  have b1 : Below w.heap.size w w1 := by rw [← hw1]; exact (Below.refl _ _).alloc (Nat.le_refl _) _
  have Z1 : SBlk w1 z 0 0 0 := by rw [← hw1, ← hz]; exact (MapKept.heap_alloc w _).1
  have f0 := row_frozen (i := 0) Z1
  have f1 := row_frozen (i := 1) Z1
  have f2 := row_frozen (i := 2) Z1
  obtain ⟨t0, t1, t2⟩ := sblk_at Z1
  obtain ⟨q0, q1, q2⟩ := sblk_at (sblk_set (k' := 0) (t' := 0) (s' := 0) Z1)
  have BN : Hid (Below w.heap.size w (setS w1 z 0 0 0)) := Hid.of (b1.grown (setS_grown _ _ _ _ _) b1.size (fun k hk => by cases hk; omega))
  unfold setS at q0 q1 q2 BN
  have HW := Hid.of hw1
  have HZ := Hid.of hz
  clear b1 Z1 hw1 hz
  go_enter Tryz.func89, Tryz.ntmps89
  go_upto_region 1 with fail
  rw [HW.out, HZ.out]
  clear HW
  go_wp2
  refine bodyPost_ret (v := .tuple #[.agg #[.int .i64 0, .int .i64 0, .int .i64 0], .bool false]) ?_ rfl ⟨rfl, BN.out⟩
  simp [results, Tryz.results89, go_sem, q0, q1, q2]
end

end Go.Proofs.YtbhcafginmkaaaaGreat
