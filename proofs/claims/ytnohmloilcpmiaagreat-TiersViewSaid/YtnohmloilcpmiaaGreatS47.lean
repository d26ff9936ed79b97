/-
  A bundle of texts: IEG.
-/
import Derived.Test.YtnohmloilcpmiaaGreatS46
import Derived.Test.YtnohmloilcpmiaaGreatS05
namespace Go.Proofs.YtnohmloilcpmiaaGreat
open Go.RowKit Go.Lib

set_option maxRecDepth 100000 in
set_option maxHeartbeats 6400000 in
theorem iReachesAs_any {TS : TableSpec} {w : World} {p q : Nat} {r r' : RchL} {T T' : List (List TRec)} {s f s' f' v v' : Value} {qs qs' : List Nat} {Fs Fs' : List TFoot} (h : ITs TS w p r T s f v qs Fs) (h' : ITs TS w q r' T' s' f' v' qs' Fs') :
    Calls Tryz.prog 60 #[tptr p, tptr q] w (Says w (r.1 = r'.1 ∧ r.2.1 = r'.2.1 ∧ rAll r = rAll r')) := by
  have H := Hid.of h
  have H' := Hid.of h'
  have RL : Hid ((rAll r).length ≤ 1000000) := Hid.of (by unfold rAll; rw [List.length_map, List.length_range]; exact h.fit.2.1.1)
  obtain ⟨n1, hn1⟩ : ∃ n, r.1 = n := ⟨_, rfl⟩
  obtain ⟨n2, hn2⟩ : ∃ n, r'.1 = n := ⟨_, rfl⟩
  have CS0 : Hid (Cs w [(⟨p, 0, none⟩, .int .i64 n1), (⟨p, 1, none⟩, .string r.2.1.1), (⟨p, 2, none⟩, s), (⟨p, 3, none⟩, f), (⟨q, 0, none⟩, .int .i64 n2), (⟨q, 1, none⟩, .string r'.2.1.1), (⟨q, 2, none⟩, s'), (⟨q, 3, none⟩, f')]) := Hid.of (by
    obtain ⟨c0, c1, c2, c3, _⟩ := h.c
    rw [hn1] at c0
    exact .cons h.lt_p c0 (.cons h.lt_p c1 (.cons h.lt_p c2 (.cons h.lt_p c3 (by rw [← hn2]; exact h'.cs)))))
  have B0 := (Below.refl w.heap.size w).drew
  have B1 := Hid.of B0
  have CS1 := Hid.of (CS0.out.next B0)
  have hsm := polSame_any _ _ r.2.1 r'.2.1 w.drew h.fit.2.1 (h.below B0).pol (h'.below B0).pol
  clear h h' B0
  rw [hn1, hn2]
  by_cases hp : r.2.1 = r'.2.1
  · rw [decide_eq_true hp] at hsm
    have HP := Hid.of hp
    clear hp
    by_cases hn : n1 = n2
    · subst hn
      have HN : Hid (n1 = n1) := Hid.of rfl
      have E1 := Hid.of hn1
      have E2 := Hid.of hn2
      clear hn1 hn2
      go_enter Tryz.func60, Tryz.ntmps60
      go_upto_region 1 with fail
      have d0 := (CS0.out).head
      have d1 := ((CS0.out).tail).head
      have d2 := (((CS0.out).tail).tail).head
      have d3 := ((((CS0.out).tail).tail).tail).head
      have d4 := (((((CS0.out).tail).tail).tail).tail).head
      have d5 := ((((((CS0.out).tail).tail).tail).tail).tail).head
      have d6 := (((((((CS0.out).tail).tail).tail).tail).tail).tail).head
      have d7 := ((((((((CS0.out).tail).tail).tail).tail).tail).tail).tail).head
      refine wp_region_noPanic ?_
      refine wp_region_held_drew (S := fun w' => w'.cell? ⟨p, 0, none⟩ = some (.int .i64 n1) ∧ w'.cell? ⟨p, 1, none⟩ = some (.string r.2.1.1) ∧ w'.cell? ⟨p, 2, none⟩ = some (s) ∧ w'.cell? ⟨p, 3, none⟩ = some (f) ∧ w'.cell? ⟨q, 0, none⟩ = some (.int .i64 n1) ∧ w'.cell? ⟨q, 1, none⟩ = some (.string r'.2.1.1) ∧ w'.cell? ⟨q, 2, none⟩ = some (s') ∧ w'.cell? ⟨q, 3, none⟩ = some (f')) (by kernel_rfl) ?_ (fun hHeld => ?_)
      · exact ⟨d0, d1, d2, d3, d4, d5, d6, d7⟩
      refine takeOp 0 (o := ⟨_, _, _, _, _, _⟩) (v := ?_) rfl (by kernel_rfl) (by rfl) hHeld ?_ ?_
      rotate_left
      · intro w' hSw; (try dsimp only at hSw); go_simp; all_goals with_reducible rfl
      simp only [Act.put, List.setIfInBounds_toArray, List.set_cons_zero, List.set_cons_succ]
      refine takeOp 1 (o := ⟨_, _, _, _, _, _⟩) (v := ?_) rfl (by kernel_rfl) (by rfl) hHeld ?_ ?_
      rotate_left
      · intro w' hSw; (try dsimp only at hSw); go_simp; all_goals with_reducible rfl
      simp only [Act.put, List.setIfInBounds_toArray, List.set_cons_zero, List.set_cons_succ]
      refine takeOp 2 (o := ⟨_, _, _, _, _, _⟩) (v := ?_) rfl (by kernel_rfl) (by rfl) hHeld ?_ ?_
      rotate_left
      · intro w' hSw; (try dsimp only at hSw); go_simp; all_goals with_reducible rfl
      simp only [Act.put, List.setIfInBounds_toArray, List.set_cons_zero, List.set_cons_succ]
      refine takeOp 3 (o := ⟨_, _, _, _, _, _⟩) (v := ?_) rfl (by kernel_rfl) (by rfl) hHeld ?_ ?_
      rotate_left
      · intro w' hSw; (try dsimp only at hSw); go_simp; all_goals with_reducible rfl
      simp only [Act.put, List.setIfInBounds_toArray, List.set_cons_zero, List.set_cons_succ]
      refine takeOp 4 (o := ⟨_, _, _, _, _, _⟩) (v := ?_) rfl (by kernel_rfl) (by rfl) hHeld ?_ ?_
      rotate_left
      · intro w' hSw; (try dsimp only at hSw); go_simp; all_goals with_reducible rfl
      simp only [Act.put, List.setIfInBounds_toArray, List.set_cons_zero, List.set_cons_succ]
      refine takeOp 5 (o := ⟨_, _, _, _, _, _⟩) (v := ?_) rfl (by kernel_rfl) (by rfl) hHeld ?_ ?_
      rotate_left
      · intro w' hSw; (try dsimp only at hSw); go_simp; all_goals with_reducible rfl
      simp only [Act.put, List.setIfInBounds_toArray, List.set_cons_zero, List.set_cons_succ]
      refine takeOp 6 (o := ⟨_, _, _, _, _, _⟩) (v := ?_) rfl (by kernel_rfl) (by rfl) hHeld ?_ ?_
      rotate_left
      · intro w' hSw; (try dsimp only at hSw); go_simp; all_goals with_reducible rfl
      simp only [Act.put, List.setIfInBounds_toArray, List.set_cons_zero, List.set_cons_succ]
      refine takeOp 7 (o := ⟨_, _, _, _, _, _⟩) (v := ?_) rfl (by kernel_rfl) (by rfl) hHeld ?_ ?_
      rotate_left
      · intro w' hSw; (try dsimp only at hSw); go_simp; all_goals with_reducible rfl
      simp only [Act.put, List.setIfInBounds_toArray, List.set_cons_zero, List.set_cons_succ]
      refine takeOp 8 (o := ⟨_, _, _, _, _, _⟩) (v := ?_) rfl (by kernel_rfl) (by rfl) hHeld ?_ ?_
      rotate_left
      · intro w' hSw; (try dsimp only at hSw); go_simp; all_goals with_reducible rfl
      simp only [Act.put, List.setIfInBounds_toArray, List.set_cons_zero, List.set_cons_succ]
      refine takeOp 9 (o := ⟨_, _, _, _, _, _⟩) (v := ?_) rfl (by kernel_rfl) (by rfl) hHeld ?_ ?_
      rotate_left
      · intro w' hSw; (try dsimp only at hSw); go_simp; all_goals with_reducible rfl
      simp only [Act.put, List.setIfInBounds_toArray, List.set_cons_zero, List.set_cons_succ]
      refine wpAnyH_ready (rs := [10]) (by kernel_rfl) (by simp) ?_
      refine AllReadyH.cons (o := ⟨_, _, _, _, _, _⟩) rfl (fun K hK => ?_) AllReadyH.nil
      go_simp
      refine hsm.mono ?_
      rintro e w2 ⟨rfl, b2⟩
      have B2 := Hid.of (B1.out.trans (b2.mono B1.out.size))
      have CS2 := Hid.of (CS1.out.next b2)
      clear b2 hsm CS1 CS0 B1
      clear hHeld d0 d1 d2 d3 d4 d5 d6 d7
      have d0 := (CS2.out).head
      have d1 := ((CS2.out).tail).head
      have d2 := (((CS2.out).tail).tail).head
      have d3 := ((((CS2.out).tail).tail).tail).head
      have d4 := (((((CS2.out).tail).tail).tail).tail).head
      have d5 := ((((((CS2.out).tail).tail).tail).tail).tail).head
      have d6 := (((((((CS2.out).tail).tail).tail).tail).tail).tail).head
      have d7 := ((((((((CS2.out).tail).tail).tail).tail).tail).tail).tail).head
      refine hK.out _ _ ⟨d0, d1, d2, d3, d4, d5, d6, d7⟩ (fun hHeld => ?_)
      clear hK K
      try simp only [Act.put, List.setIfInBounds_toArray, List.set_cons_zero, List.set_cons_succ]
      refine takeOp 11 (o := ⟨_, _, _, _, _, _⟩) (v := ?_) rfl (by kernel_rfl) (by rfl) hHeld ?_ ?_
      rotate_left
      · intro w' hSw; (try dsimp only at hSw); go_simp; all_goals with_reducible rfl
      simp only [Act.put, List.setIfInBounds_toArray, List.set_cons_zero, List.set_cons_succ]
      refine takeOp 12 (o := ⟨_, _, _, _, _, _⟩) (v := ?_) rfl (by kernel_rfl) (by rfl) hHeld ?_ ?_
      rotate_left
      · intro w' hSw; (try dsimp only at hSw); go_simp; all_goals with_reducible rfl
      simp only [Act.put, List.setIfInBounds_toArray, List.set_cons_zero, List.set_cons_succ]
      refine takeOp 13 (o := ⟨_, _, _, _, _, _⟩) (v := ?_) rfl (by kernel_rfl) (by rfl) hHeld ?_ ?_
      rotate_left
      · intro w' hSw; (try dsimp only at hSw); go_simp; all_goals with_reducible rfl
      simp only [Act.put, List.setIfInBounds_toArray, List.set_cons_zero, List.set_cons_succ]
      refine takeOp 14 (o := ⟨_, _, _, _, _, _⟩) (v := ?_) rfl (by kernel_rfl) (by rfl) hHeld ?_ ?_
      rotate_left
      · intro w' hSw; (try dsimp only at hSw); go_simp; all_goals with_reducible rfl
      simp only [Act.put, List.setIfInBounds_toArray, List.set_cons_zero, List.set_cons_succ]
      refine takeOp 15 (o := ⟨_, _, _, _, _, _⟩) (v := ?_) rfl (by kernel_rfl) (by rfl) hHeld ?_ ?_
      rotate_left
      · intro w' hSw; (try dsimp only at hSw); go_simp; all_goals with_reducible rfl
      simp only [Act.put, List.setIfInBounds_toArray, List.set_cons_zero, List.set_cons_succ]
      refine takeOp 16 (o := ⟨_, _, _, _, _, _⟩) (v := ?_) rfl (by kernel_rfl) (by rfl) hHeld ?_ ?_
      rotate_left
      · intro w' hSw; (try dsimp only at hSw); go_simp; all_goals with_reducible rfl
      simp only [Act.put, List.setIfInBounds_toArray, List.set_cons_zero, List.set_cons_succ]
      refine takeOp 17 (o := ⟨_, _, _, _, _, _⟩) (v := ?_) rfl (by kernel_rfl) (by rfl) hHeld ?_ ?_
      rotate_left
      · intro w' hSw; (try dsimp only at hSw); go_simp; all_goals with_reducible rfl
      simp only [Act.put, List.setIfInBounds_toArray, List.set_cons_zero, List.set_cons_succ]
      refine takeOp 18 (o := ⟨_, _, _, _, _, _⟩) (v := ?_) rfl (by kernel_rfl) (by rfl) hHeld ?_ ?_
      rotate_left
      · intro w' hSw; (try dsimp only at hSw); go_simp; all_goals with_reducible rfl
      simp only [Act.put, List.setIfInBounds_toArray, List.set_cons_zero, List.set_cons_succ]
      refine takeOp 19 (o := ⟨_, _, _, _, _, _⟩) (v := ?_) rfl (by kernel_rfl) (by rfl) hHeld ?_ ?_
      rotate_left
      · intro w' hSw; (try dsimp only at hSw); go_simp; all_goals with_reducible rfl
      simp only [Act.put, List.setIfInBounds_toArray, List.set_cons_zero, List.set_cons_succ]
      refine takeOp 20 (o := ⟨_, _, _, _, _, _⟩) (v := ?_) rfl (by kernel_rfl) (by rfl) hHeld ?_ ?_
      rotate_left
      · intro w' hSw; (try dsimp only at hSw); go_simp; all_goals with_reducible rfl
      simp only [Act.put, List.setIfInBounds_toArray, List.set_cons_zero, List.set_cons_succ]
      refine takeOp 21 (o := ⟨_, _, _, _, _, _⟩) (v := ?_) rfl (by kernel_rfl) (by rfl) hHeld ?_ ?_
      rotate_left
      · intro w' hSw; (try dsimp only at hSw); go_simp; all_goals with_reducible rfl
      simp only [Act.put, List.setIfInBounds_toArray, List.set_cons_zero, List.set_cons_succ]
      refine takeOp 22 (o := ⟨_, _, _, _, _, _⟩) (v := ?_) rfl (by kernel_rfl) (by rfl) hHeld ?_ ?_
      rotate_left
      · intro w' hSw; (try dsimp only at hSw); go_simp; all_goals with_reducible rfl
      simp only [Act.put, List.setIfInBounds_toArray, List.set_cons_zero, List.set_cons_succ]
      refine takeOp 23 (o := ⟨_, _, _, _, _, _⟩) (v := ?_) rfl (by kernel_rfl) (by rfl) hHeld ?_ ?_
      rotate_left
      · intro w' hSw; (try dsimp only at hSw); go_simp; all_goals with_reducible rfl
      simp only [Act.put, List.setIfInBounds_toArray, List.set_cons_zero, List.set_cons_succ]
      refine takeOp 24 (o := ⟨_, _, _, _, _, _⟩) (v := ?_) rfl (by kernel_rfl) (by rfl) hHeld ?_ ?_
      rotate_left
      · intro w' hSw; (try dsimp only at hSw); go_simp; all_goals with_reducible rfl
      simp only [Act.put, List.setIfInBounds_toArray, List.set_cons_zero, List.set_cons_succ]
      refine takeOp 25 (o := ⟨_, _, _, _, _, _⟩) (v := ?_) rfl (by kernel_rfl) (by rfl) hHeld ?_ ?_
      rotate_left
      · intro w' hSw; (try dsimp only at hSw); go_simp; all_goals with_reducible rfl
      simp only [Act.put, List.setIfInBounds_toArray, List.set_cons_zero, List.set_cons_succ]
      refine takeOp 26 (o := ⟨_, _, _, _, _, _⟩) (v := ?_) rfl (by kernel_rfl) (by rfl) hHeld ?_ ?_
      rotate_left
      · intro w' hSw; (try dsimp only at hSw); go_simp; all_goals with_reducible rfl
      simp only [Act.put, List.setIfInBounds_toArray, List.set_cons_zero, List.set_cons_succ]
      refine takeOp 27 (o := ⟨_, _, _, _, _, _⟩) (v := ?_) rfl (by kernel_rfl) (by rfl) hHeld ?_ ?_
      rotate_left
      · intro w' hSw; (try dsimp only at hSw); go_simp; all_goals with_reducible rfl
      simp only [Act.put, List.setIfInBounds_toArray, List.set_cons_zero, List.set_cons_succ]
      refine takeOp 28 (o := ⟨_, _, _, _, _, _⟩) (v := ?_) rfl (by kernel_rfl) (by rfl) hHeld ?_ ?_
      rotate_left
      · intro w' hSw; (try dsimp only at hSw); go_simp; all_goals with_reducible rfl
      simp only [Act.put, List.setIfInBounds_toArray, List.set_cons_zero, List.set_cons_succ]
      refine takeOp 30 (o := ⟨_, _, _, _, _, _⟩) (v := ?_) rfl (by kernel_rfl) (by rfl) hHeld ?_ ?_
      rotate_left
      · intro w' hSw; (try dsimp only at hSw); go_simp; all_goals with_reducible rfl
      simp only [Act.put, List.setIfInBounds_toArray, List.set_cons_zero, List.set_cons_succ]
      refine takeOp 31 (o := ⟨_, _, _, _, _, _⟩) (v := ?_) rfl (by kernel_rfl) (by rfl) hHeld ?_ ?_
      rotate_left
      · intro w' hSw; (try dsimp only at hSw); go_simp; all_goals with_reducible rfl
      simp only [Act.put, List.setIfInBounds_toArray, List.set_cons_zero, List.set_cons_succ]
      refine takeOp 32 (o := ⟨_, _, _, _, _, _⟩) (v := ?_) rfl (by kernel_rfl) (by rfl) hHeld ?_ ?_
      rotate_left
      · intro w' hSw; (try dsimp only at hSw); go_simp; all_goals with_reducible rfl
      simp only [Act.put, List.setIfInBounds_toArray, List.set_cons_zero, List.set_cons_succ]
      refine takeOp 33 (o := ⟨_, _, _, _, _, _⟩) (v := ?_) rfl (by kernel_rfl) (by rfl) hHeld ?_ ?_
      rotate_left
      · intro w' hSw; (try dsimp only at hSw); go_simp; all_goals with_reducible rfl
      simp only [Act.put, List.setIfInBounds_toArray, List.set_cons_zero, List.set_cons_succ]
      refine wpAnyH_ready (rs := [29]) (by kernel_rfl) (by simp) ?_
      refine AllReadyH.cons (o := ⟨_, _, _, _, _, _⟩) rfl (fun K hK => ?_) AllReadyH.nil
      go_simp
      have RR1 : RchRow w2 (.agg #[.int .i64 n1, .string r.2.1.1, s, f]) r := by have h := (H.out.below B2.out).reach; unfold rVal at h; rwa [E1.out] at h
      refine (reaches.all _ r _ trivial H.out.fit RR1).mono ?_
      rintro e w3 ⟨ua, rfl, o3, b3⟩
      have B3 := Hid.of (B2.out.trans (b3.mono B2.out.size))
      have CS3 := Hid.of (CS2.out.next b3)
      have O3 := Hid.of (own_row o3)
      clear b3 o3 CS2 B2 RR1
      clear hHeld d0 d1 d2 d3 d4 d5 d6 d7
      have d0 := (CS3.out).head
      have d1 := ((CS3.out).tail).head
      have d2 := (((CS3.out).tail).tail).head
      have d3 := ((((CS3.out).tail).tail).tail).head
      have d4 := (((((CS3.out).tail).tail).tail).tail).head
      have d5 := ((((((CS3.out).tail).tail).tail).tail).tail).head
      have d6 := (((((((CS3.out).tail).tail).tail).tail).tail).tail).head
      have d7 := ((((((((CS3.out).tail).tail).tail).tail).tail).tail).tail).head
      refine hK.out _ _ ⟨d0, d1, d2, d3, d4, d5, d6, d7⟩ (fun hHeld => ?_)
      clear hK K
      try simp only [Act.put, List.setIfInBounds_toArray, List.set_cons_zero, List.set_cons_succ]
      refine wpAnyH_ready (rs := [34]) (by kernel_rfl) (by simp) ?_
      refine AllReadyH.cons (o := ⟨_, _, _, _, _, _⟩) rfl (fun K hK => ?_) AllReadyH.nil
      go_simp
      have RR2 : RchRow w3 (.agg #[.int .i64 n1, .string r'.2.1.1, s', f']) r' := by have h := (H'.out.below B3.out).reach; unfold rVal at h; rwa [E2.out] at h
      refine (reaches.all _ r' _ trivial H'.out.fit RR2).mono ?_
      rintro e w4 ⟨ub, rfl, o4, b4⟩
      have B4 := Hid.of (B3.out.trans (b4.mono B3.out.size))
      have CS4 := Hid.of (CS3.out.next b4)
      have O4 := Hid.of (own_row o4)
      have O3' := Hid.of (O3.out.kept b4)
      clear b4 o4 CS3 B3 O3 RR2
      clear hHeld d0 d1 d2 d3 d4 d5 d6 d7
      have d0 := (CS4.out).head
      have d1 := ((CS4.out).tail).head
      have d2 := (((CS4.out).tail).tail).head
      have d3 := ((((CS4.out).tail).tail).tail).head
      have d4 := (((((CS4.out).tail).tail).tail).tail).head
      have d5 := ((((((CS4.out).tail).tail).tail).tail).tail).head
      have d6 := (((((((CS4.out).tail).tail).tail).tail).tail).tail).head
      have d7 := ((((((((CS4.out).tail).tail).tail).tail).tail).tail).tail).head
      refine hK.out _ _ ⟨d0, d1, d2, d3, d4, d5, d6, d7⟩ (fun hHeld => ?_)
      clear hK K
      try simp only [Act.put, List.setIfInBounds_toArray, List.set_cons_zero, List.set_cons_succ]
      refine wpAnyH_ready (rs := [35]) (by kernel_rfl) (by simp) ?_
      refine AllReadyH.cons (o := ⟨_, _, _, _, _, _⟩) rfl (fun K hK => ?_) AllReadyH.nil
      go_simp
      refine (equalInts_any ua ub (rAll r) (rAll r') _ O3'.out O4.out RL.out).mono ?_
      rintro e w5 ⟨z, rfl, HZ, b5⟩
      have B5 := Hid.of (B4.out.trans (b5.mono B4.out.size))
      have CS5 := Hid.of (CS4.out.next b5)
      clear b5 CS4 B4 O3' O4
      clear hHeld d0 d1 d2 d3 d4 d5 d6 d7
      have d0 := (CS5.out).head
      have d1 := ((CS5.out).tail).head
      have d2 := (((CS5.out).tail).tail).head
      have d3 := ((((CS5.out).tail).tail).tail).head
      have d4 := (((((CS5.out).tail).tail).tail).tail).head
      have d5 := ((((((CS5.out).tail).tail).tail).tail).tail).head
      have d6 := (((((((CS5.out).tail).tail).tail).tail).tail).tail).head
      have d7 := ((((((((CS5.out).tail).tail).tail).tail).tail).tail).tail).head
      refine hK.out _ _ ⟨d0, d1, d2, d3, d4, d5, d6, d7⟩ (fun hHeld => ?_)
      clear hK K
      try simp only [Act.put, List.setIfInBounds_toArray, List.set_cons_zero, List.set_cons_succ]
      refine takeOp 36 (o := ⟨_, _, _, _, _, _⟩) (v := ?_) rfl (by kernel_rfl) (by rfl) hHeld ?_ ?_
      rotate_left
      · intro w' hSw; (try dsimp only at hSw); go_simp; all_goals with_reducible rfl
      simp only [Act.put, List.setIfInBounds_toArray, List.set_cons_zero, List.set_cons_succ]
      refine takeOp 37 (o := ⟨_, _, _, _, _, _⟩) (v := ?_) rfl (by kernel_rfl) (by rfl) hHeld ?_ ?_
      rotate_left
      · intro w' hSw; (try dsimp only at hSw); go_simp; all_goals with_reducible rfl
      simp only [Act.put, List.setIfInBounds_toArray, List.set_cons_zero, List.set_cons_succ]
      refine wpAnyH_done (by kernel_rfl) ?_ _
      refine NoPanic.normal ?_
      go_wp2
      go_ret
      exact ⟨_, rfl, Hid.of ⟨fun k => ⟨HP.out, HZ.out.1 k⟩, fun k => HZ.out.2 k.2⟩, B5.out⟩
    · have k0 : (n1 == n2) = false := beq_eq_false_iff_ne.2 hn
      have k1 : decide (n1 = n2) = false := decide_eq_false hn
      have HN := Hid.of hn
      clear hn1 hn2
      go_enter Tryz.func60, Tryz.ntmps60
      go_upto_region 1 with fail
      have d0 := (CS0.out).head
      have d1 := ((CS0.out).tail).head
      have d2 := (((CS0.out).tail).tail).head
      have d3 := ((((CS0.out).tail).tail).tail).head
      have d4 := (((((CS0.out).tail).tail).tail).tail).head
      have d5 := ((((((CS0.out).tail).tail).tail).tail).tail).head
      have d6 := (((((((CS0.out).tail).tail).tail).tail).tail).tail).head
      have d7 := ((((((((CS0.out).tail).tail).tail).tail).tail).tail).tail).head
      refine wp_region_noPanic ?_
      refine wp_region_held_drew (S := fun w' => w'.cell? ⟨p, 0, none⟩ = some (.int .i64 n1) ∧ w'.cell? ⟨p, 1, none⟩ = some (.string r.2.1.1) ∧ w'.cell? ⟨p, 2, none⟩ = some (s) ∧ w'.cell? ⟨p, 3, none⟩ = some (f) ∧ w'.cell? ⟨q, 0, none⟩ = some (.int .i64 n2) ∧ w'.cell? ⟨q, 1, none⟩ = some (.string r'.2.1.1) ∧ w'.cell? ⟨q, 2, none⟩ = some (s') ∧ w'.cell? ⟨q, 3, none⟩ = some (f')) (by kernel_rfl) ?_ (fun hHeld => ?_)
      · exact ⟨d0, d1, d2, d3, d4, d5, d6, d7⟩
      refine takeOp 0 (o := ⟨_, _, _, _, _, _⟩) (v := ?_) rfl (by kernel_rfl) (by rfl) hHeld ?_ ?_
      rotate_left
      · intro w' hSw; (try dsimp only at hSw); go_simp; all_goals with_reducible rfl
      simp only [Act.put, List.setIfInBounds_toArray, List.set_cons_zero, List.set_cons_succ]
      refine takeOp 1 (o := ⟨_, _, _, _, _, _⟩) (v := ?_) rfl (by kernel_rfl) (by rfl) hHeld ?_ ?_
      rotate_left
      · intro w' hSw; (try dsimp only at hSw); go_simp; all_goals with_reducible rfl
      simp only [Act.put, List.setIfInBounds_toArray, List.set_cons_zero, List.set_cons_succ]
      refine takeOp 2 (o := ⟨_, _, _, _, _, _⟩) (v := ?_) rfl (by kernel_rfl) (by rfl) hHeld ?_ ?_
      rotate_left
      · intro w' hSw; (try dsimp only at hSw); go_simp; all_goals with_reducible rfl
      simp only [Act.put, List.setIfInBounds_toArray, List.set_cons_zero, List.set_cons_succ]
      refine takeOp 3 (o := ⟨_, _, _, _, _, _⟩) (v := ?_) rfl (by kernel_rfl) (by rfl) hHeld ?_ ?_
      rotate_left
      · intro w' hSw; (try dsimp only at hSw); go_simp; all_goals with_reducible rfl
      simp only [Act.put, List.setIfInBounds_toArray, List.set_cons_zero, List.set_cons_succ]
      refine takeOp 4 (o := ⟨_, _, _, _, _, _⟩) (v := ?_) rfl (by kernel_rfl) (by rfl) hHeld ?_ ?_
      rotate_left
      · intro w' hSw; (try dsimp only at hSw); go_simp; all_goals with_reducible rfl
      simp only [Act.put, List.setIfInBounds_toArray, List.set_cons_zero, List.set_cons_succ]
      refine takeOp 5 (o := ⟨_, _, _, _, _, _⟩) (v := ?_) rfl (by kernel_rfl) (by rfl) hHeld ?_ ?_
      rotate_left
      · intro w' hSw; (try dsimp only at hSw); go_simp; all_goals with_reducible rfl
      simp only [Act.put, List.setIfInBounds_toArray, List.set_cons_zero, List.set_cons_succ]
      refine takeOp 6 (o := ⟨_, _, _, _, _, _⟩) (v := ?_) rfl (by kernel_rfl) (by rfl) hHeld ?_ ?_
      rotate_left
      · intro w' hSw; (try dsimp only at hSw); go_simp; all_goals with_reducible rfl
      simp only [Act.put, List.setIfInBounds_toArray, List.set_cons_zero, List.set_cons_succ]
      refine takeOp 7 (o := ⟨_, _, _, _, _, _⟩) (v := ?_) rfl (by kernel_rfl) (by rfl) hHeld ?_ ?_
      rotate_left
      · intro w' hSw; (try dsimp only at hSw); go_simp; all_goals with_reducible rfl
      simp only [Act.put, List.setIfInBounds_toArray, List.set_cons_zero, List.set_cons_succ]
      refine takeOp 8 (o := ⟨_, _, _, _, _, _⟩) (v := ?_) rfl (by kernel_rfl) (by rfl) hHeld ?_ ?_
      rotate_left
      · intro w' hSw; (try dsimp only at hSw); go_simp; all_goals with_reducible rfl
      simp only [Act.put, List.setIfInBounds_toArray, List.set_cons_zero, List.set_cons_succ]
      refine takeOp 9 (o := ⟨_, _, _, _, _, _⟩) (v := ?_) rfl (by kernel_rfl) (by rfl) hHeld ?_ ?_
      rotate_left
      · intro w' hSw; (try dsimp only at hSw); go_simp; all_goals with_reducible rfl
      simp only [Act.put, List.setIfInBounds_toArray, List.set_cons_zero, List.set_cons_succ]
      refine wpAnyH_ready (rs := [10]) (by kernel_rfl) (by simp) ?_
      refine AllReadyH.cons (o := ⟨_, _, _, _, _, _⟩) rfl (fun K hK => ?_) AllReadyH.nil
      go_simp
      refine hsm.mono ?_
      rintro e w2 ⟨rfl, b2⟩
      have B2 := Hid.of (B1.out.trans (b2.mono B1.out.size))
      have CS2 := Hid.of (CS1.out.next b2)
      clear b2 hsm CS1 CS0 B1
      clear hHeld d0 d1 d2 d3 d4 d5 d6 d7
      have d0 := (CS2.out).head
      have d1 := ((CS2.out).tail).head
      have d2 := (((CS2.out).tail).tail).head
      have d3 := ((((CS2.out).tail).tail).tail).head
      have d4 := (((((CS2.out).tail).tail).tail).tail).head
      have d5 := ((((((CS2.out).tail).tail).tail).tail).tail).head
      have d6 := (((((((CS2.out).tail).tail).tail).tail).tail).tail).head
      have d7 := ((((((((CS2.out).tail).tail).tail).tail).tail).tail).tail).head
      refine hK.out _ _ ⟨d0, d1, d2, d3, d4, d5, d6, d7⟩ (fun hHeld => ?_)
      clear hK K
      try simp only [Act.put, List.setIfInBounds_toArray, List.set_cons_zero, List.set_cons_succ]
      refine takeOp 11 (o := ⟨_, _, _, _, _, _⟩) (v := ?_) rfl (by kernel_rfl) (by rfl) hHeld ?_ ?_
      rotate_left
      · intro w' hSw; (try dsimp only at hSw); go_simp; all_goals with_reducible rfl
      simp only [Act.put, List.setIfInBounds_toArray, List.set_cons_zero, List.set_cons_succ]
      refine takeOp 12 (o := ⟨_, _, _, _, _, _⟩) (v := ?_) rfl (by kernel_rfl) (by rfl) hHeld ?_ ?_
      rotate_left
      · intro w' hSw; (try dsimp only at hSw); go_simp; all_goals with_reducible rfl
      simp only [Act.put, List.setIfInBounds_toArray, List.set_cons_zero, List.set_cons_succ]
      refine takeOp 13 (o := ⟨_, _, _, _, _, _⟩) (v := ?_) rfl (by kernel_rfl) (by rfl) hHeld ?_ ?_
      rotate_left
      · intro w' hSw; (try dsimp only at hSw); go_simp; all_goals with_reducible rfl
      simp only [Act.put, List.setIfInBounds_toArray, List.set_cons_zero, List.set_cons_succ]
      refine takeOp 14 (o := ⟨_, _, _, _, _, _⟩) (v := ?_) rfl (by kernel_rfl) (by rfl) hHeld ?_ ?_
      rotate_left
      · intro w' hSw; (try dsimp only at hSw); go_simp; all_goals with_reducible rfl
      simp only [Act.put, List.setIfInBounds_toArray, List.set_cons_zero, List.set_cons_succ]
      refine takeOp 15 (o := ⟨_, _, _, _, _, _⟩) (v := ?_) rfl (by kernel_rfl) (by rfl) hHeld ?_ ?_
      rotate_left
      · intro w' hSw; (try dsimp only at hSw); go_simp; all_goals with_reducible rfl
      simp only [Act.put, List.setIfInBounds_toArray, List.set_cons_zero, List.set_cons_succ]
      refine takeOp 16 (o := ⟨_, _, _, _, _, _⟩) (v := ?_) rfl (by kernel_rfl) (by rfl) hHeld ?_ ?_
      rotate_left
      · intro w' hSw; (try dsimp only at hSw); go_simp; all_goals with_reducible rfl
      simp only [Act.put, List.setIfInBounds_toArray, List.set_cons_zero, List.set_cons_succ]
      refine takeOp 17 (o := ⟨_, _, _, _, _, _⟩) (v := ?_) rfl (by kernel_rfl) (by rfl) hHeld ?_ ?_
      rotate_left
      · intro w' hSw; (try dsimp only at hSw); go_simp; all_goals with_reducible rfl
      simp only [Act.put, List.setIfInBounds_toArray, List.set_cons_zero, List.set_cons_succ]
      refine takeOp 18 (o := ⟨_, _, _, _, _, _⟩) (v := ?_) rfl (by kernel_rfl) (by rfl) hHeld ?_ ?_
      rotate_left
      · intro w' hSw; (try dsimp only at hSw); go_simp; all_goals with_reducible rfl
      simp only [Act.put, List.setIfInBounds_toArray, List.set_cons_zero, List.set_cons_succ]
      refine takeOp 19 (o := ⟨_, _, _, _, _, _⟩) (v := ?_) rfl (by kernel_rfl) (by rfl) hHeld ?_ ?_
      rotate_left
      · intro w' hSw; (try dsimp only at hSw); go_simp; all_goals with_reducible rfl
      simp only [Act.put, List.setIfInBounds_toArray, List.set_cons_zero, List.set_cons_succ]
      refine takeOp 20 (o := ⟨_, _, _, _, _, _⟩) (v := ?_) rfl (by kernel_rfl) (by rfl) hHeld ?_ ?_
      rotate_left
      · intro w' hSw; (try dsimp only at hSw); go_simp; all_goals with_reducible rfl
      simp only [Act.put, List.setIfInBounds_toArray, List.set_cons_zero, List.set_cons_succ]
      refine takeOp 21 (o := ⟨_, _, _, _, _, _⟩) (v := ?_) rfl (by kernel_rfl) (by rfl) hHeld ?_ ?_
      rotate_left
      · intro w' hSw; (try dsimp only at hSw); go_simp; all_goals with_reducible rfl
      simp only [Act.put, List.setIfInBounds_toArray, List.set_cons_zero, List.set_cons_succ]
      refine takeOp 22 (o := ⟨_, _, _, _, _, _⟩) (v := ?_) rfl (by kernel_rfl) (by rfl) hHeld ?_ ?_
      rotate_left
      · intro w' hSw; (try dsimp only at hSw); go_simp; all_goals with_reducible rfl
      simp only [Act.put, List.setIfInBounds_toArray, List.set_cons_zero, List.set_cons_succ]
      refine takeOp 23 (o := ⟨_, _, _, _, _, _⟩) (v := ?_) rfl (by kernel_rfl) (by rfl) hHeld ?_ ?_
      rotate_left
      · intro w' hSw; (try dsimp only at hSw); go_simp; all_goals with_reducible rfl
      simp only [Act.put, List.setIfInBounds_toArray, List.set_cons_zero, List.set_cons_succ]
      refine takeOp 24 (o := ⟨_, _, _, _, _, _⟩) (v := ?_) rfl (by kernel_rfl) (by rfl) hHeld ?_ ?_
      rotate_left
      · intro w' hSw; (try dsimp only at hSw); go_simp; all_goals with_reducible rfl
      simp only [Act.put, List.setIfInBounds_toArray, List.set_cons_zero, List.set_cons_succ]
      refine skipOp 25 (o := ⟨_, _, _, _, _, _⟩) rfl (by kernel_rfl) (by rfl) hHeld ?_
      simp only [Act.put, List.setIfInBounds_toArray, List.set_cons_zero, List.set_cons_succ]
      refine skipOp 26 (o := ⟨_, _, _, _, _, _⟩) rfl (by kernel_rfl) (by rfl) hHeld ?_
      simp only [Act.put, List.setIfInBounds_toArray, List.set_cons_zero, List.set_cons_succ]
      refine skipOp 27 (o := ⟨_, _, _, _, _, _⟩) rfl (by kernel_rfl) (by rfl) hHeld ?_
      simp only [Act.put, List.setIfInBounds_toArray, List.set_cons_zero, List.set_cons_succ]
      refine skipOp 28 (o := ⟨_, _, _, _, _, _⟩) rfl (by kernel_rfl) (by rfl) hHeld ?_
      simp only [Act.put, List.setIfInBounds_toArray, List.set_cons_zero, List.set_cons_succ]
      refine skipOp 29 (o := ⟨_, _, _, _, _, _⟩) rfl (by kernel_rfl) (by rfl) hHeld ?_
      simp only [Act.put, List.setIfInBounds_toArray, List.set_cons_zero, List.set_cons_succ]
      refine skipOp 30 (o := ⟨_, _, _, _, _, _⟩) rfl (by kernel_rfl) (by rfl) hHeld ?_
      simp only [Act.put, List.setIfInBounds_toArray, List.set_cons_zero, List.set_cons_succ]
      refine skipOp 31 (o := ⟨_, _, _, _, _, _⟩) rfl (by kernel_rfl) (by rfl) hHeld ?_
      simp only [Act.put, List.setIfInBounds_toArray, List.set_cons_zero, List.set_cons_succ]
      refine skipOp 32 (o := ⟨_, _, _, _, _, _⟩) rfl (by kernel_rfl) (by rfl) hHeld ?_
      simp only [Act.put, List.setIfInBounds_toArray, List.set_cons_zero, List.set_cons_succ]
      refine skipOp 33 (o := ⟨_, _, _, _, _, _⟩) rfl (by kernel_rfl) (by rfl) hHeld ?_
      simp only [Act.put, List.setIfInBounds_toArray, List.set_cons_zero, List.set_cons_succ]
      refine skipOp 34 (o := ⟨_, _, _, _, _, _⟩) rfl (by kernel_rfl) (by rfl) hHeld ?_
      simp only [Act.put, List.setIfInBounds_toArray, List.set_cons_zero, List.set_cons_succ]
      refine skipOp 35 (o := ⟨_, _, _, _, _, _⟩) rfl (by kernel_rfl) (by rfl) hHeld ?_
      simp only [Act.put, List.setIfInBounds_toArray, List.set_cons_zero, List.set_cons_succ]
      refine takeOp 36 (o := ⟨_, _, _, _, _, _⟩) (v := ?_) rfl (by kernel_rfl) (by rfl) hHeld ?_ ?_
      rotate_left
      · intro w' hSw; (try dsimp only at hSw); go_simp; all_goals with_reducible rfl
      simp only [Act.put, List.setIfInBounds_toArray, List.set_cons_zero, List.set_cons_succ]
      refine takeOp 37 (o := ⟨_, _, _, _, _, _⟩) (v := ?_) rfl (by kernel_rfl) (by rfl) hHeld ?_ ?_
      rotate_left
      · intro w' hSw; (try dsimp only at hSw); go_simp; all_goals with_reducible rfl
      simp only [Act.put, List.setIfInBounds_toArray, List.set_cons_zero, List.set_cons_succ]
      refine wpAnyH_done (by kernel_rfl) ?_ _
      refine NoPanic.normal ?_
      go_wp2
      go_ret
      exact ⟨_, rfl, Hid.of ⟨fun k => (by cases k), fun k => absurd k.1 HN.out⟩, B2.out⟩
  · rw [decide_eq_false hp] at hsm
    have HP := Hid.of hp
    clear hp hn1 hn2
    go_enter Tryz.func60, Tryz.ntmps60
    go_upto_region 1 with fail
    have d0 := (CS0.out).head
    have d1 := ((CS0.out).tail).head
    have d2 := (((CS0.out).tail).tail).head
    have d3 := ((((CS0.out).tail).tail).tail).head
    have d4 := (((((CS0.out).tail).tail).tail).tail).head
    have d5 := ((((((CS0.out).tail).tail).tail).tail).tail).head
    have d6 := (((((((CS0.out).tail).tail).tail).tail).tail).tail).head
    have d7 := ((((((((CS0.out).tail).tail).tail).tail).tail).tail).tail).head
    refine wp_region_noPanic ?_
    refine wp_region_held_drew (S := fun w' => w'.cell? ⟨p, 0, none⟩ = some (.int .i64 n1) ∧ w'.cell? ⟨p, 1, none⟩ = some (.string r.2.1.1) ∧ w'.cell? ⟨p, 2, none⟩ = some (s) ∧ w'.cell? ⟨p, 3, none⟩ = some (f) ∧ w'.cell? ⟨q, 0, none⟩ = some (.int .i64 n2) ∧ w'.cell? ⟨q, 1, none⟩ = some (.string r'.2.1.1) ∧ w'.cell? ⟨q, 2, none⟩ = some (s') ∧ w'.cell? ⟨q, 3, none⟩ = some (f')) (by kernel_rfl) ?_ (fun hHeld => ?_)
    · exact ⟨d0, d1, d2, d3, d4, d5, d6, d7⟩
    refine takeOp 0 (o := ⟨_, _, _, _, _, _⟩) (v := ?_) rfl (by kernel_rfl) (by rfl) hHeld ?_ ?_
    rotate_left
    · intro w' hSw; (try dsimp only at hSw); go_simp; all_goals with_reducible rfl
    simp only [Act.put, List.setIfInBounds_toArray, List.set_cons_zero, List.set_cons_succ]
    refine takeOp 1 (o := ⟨_, _, _, _, _, _⟩) (v := ?_) rfl (by kernel_rfl) (by rfl) hHeld ?_ ?_
    rotate_left
    · intro w' hSw; (try dsimp only at hSw); go_simp; all_goals with_reducible rfl
    simp only [Act.put, List.setIfInBounds_toArray, List.set_cons_zero, List.set_cons_succ]
    refine takeOp 2 (o := ⟨_, _, _, _, _, _⟩) (v := ?_) rfl (by kernel_rfl) (by rfl) hHeld ?_ ?_
    rotate_left
    · intro w' hSw; (try dsimp only at hSw); go_simp; all_goals with_reducible rfl
    simp only [Act.put, List.setIfInBounds_toArray, List.set_cons_zero, List.set_cons_succ]
    refine takeOp 3 (o := ⟨_, _, _, _, _, _⟩) (v := ?_) rfl (by kernel_rfl) (by rfl) hHeld ?_ ?_
    rotate_left
    · intro w' hSw; (try dsimp only at hSw); go_simp; all_goals with_reducible rfl
    simp only [Act.put, List.setIfInBounds_toArray, List.set_cons_zero, List.set_cons_succ]
    refine takeOp 4 (o := ⟨_, _, _, _, _, _⟩) (v := ?_) rfl (by kernel_rfl) (by rfl) hHeld ?_ ?_
    rotate_left
    · intro w' hSw; (try dsimp only at hSw); go_simp; all_goals with_reducible rfl
    simp only [Act.put, List.setIfInBounds_toArray, List.set_cons_zero, List.set_cons_succ]
    refine takeOp 5 (o := ⟨_, _, _, _, _, _⟩) (v := ?_) rfl (by kernel_rfl) (by rfl) hHeld ?_ ?_
    rotate_left
    · intro w' hSw; (try dsimp only at hSw); go_simp; all_goals with_reducible rfl
    simp only [Act.put, List.setIfInBounds_toArray, List.set_cons_zero, List.set_cons_succ]
    refine takeOp 6 (o := ⟨_, _, _, _, _, _⟩) (v := ?_) rfl (by kernel_rfl) (by rfl) hHeld ?_ ?_
    rotate_left
    · intro w' hSw; (try dsimp only at hSw); go_simp; all_goals with_reducible rfl
    simp only [Act.put, List.setIfInBounds_toArray, List.set_cons_zero, List.set_cons_succ]
    refine takeOp 7 (o := ⟨_, _, _, _, _, _⟩) (v := ?_) rfl (by kernel_rfl) (by rfl) hHeld ?_ ?_
    rotate_left
    · intro w' hSw; (try dsimp only at hSw); go_simp; all_goals with_reducible rfl
    simp only [Act.put, List.setIfInBounds_toArray, List.set_cons_zero, List.set_cons_succ]
    refine takeOp 8 (o := ⟨_, _, _, _, _, _⟩) (v := ?_) rfl (by kernel_rfl) (by rfl) hHeld ?_ ?_
    rotate_left
    · intro w' hSw; (try dsimp only at hSw); go_simp; all_goals with_reducible rfl
    simp only [Act.put, List.setIfInBounds_toArray, List.set_cons_zero, List.set_cons_succ]
    refine takeOp 9 (o := ⟨_, _, _, _, _, _⟩) (v := ?_) rfl (by kernel_rfl) (by rfl) hHeld ?_ ?_
    rotate_left
    · intro w' hSw; (try dsimp only at hSw); go_simp; all_goals with_reducible rfl
    simp only [Act.put, List.setIfInBounds_toArray, List.set_cons_zero, List.set_cons_succ]
    refine wpAnyH_ready (rs := [10]) (by kernel_rfl) (by simp) ?_
    refine AllReadyH.cons (o := ⟨_, _, _, _, _, _⟩) rfl (fun K hK => ?_) AllReadyH.nil
    go_simp
    refine hsm.mono ?_
    rintro e w2 ⟨rfl, b2⟩
    have B2 := Hid.of (B1.out.trans (b2.mono B1.out.size))
    have CS2 := Hid.of (CS1.out.next b2)
    clear b2 hsm CS1 CS0 B1
    clear hHeld d0 d1 d2 d3 d4 d5 d6 d7
    have d0 := (CS2.out).head
    have d1 := ((CS2.out).tail).head
    have d2 := (((CS2.out).tail).tail).head
    have d3 := ((((CS2.out).tail).tail).tail).head
    have d4 := (((((CS2.out).tail).tail).tail).tail).head
    have d5 := ((((((CS2.out).tail).tail).tail).tail).tail).head
    have d6 := (((((((CS2.out).tail).tail).tail).tail).tail).tail).head
    have d7 := ((((((((CS2.out).tail).tail).tail).tail).tail).tail).tail).head
    refine hK.out _ _ ⟨d0, d1, d2, d3, d4, d5, d6, d7⟩ (fun hHeld => ?_)
    clear hK K
    try simp only [Act.put, List.setIfInBounds_toArray, List.set_cons_zero, List.set_cons_succ]
    refine takeOp 11 (o := ⟨_, _, _, _, _, _⟩) (v := ?_) rfl (by kernel_rfl) (by rfl) hHeld ?_ ?_
    rotate_left
    · intro w' hSw; (try dsimp only at hSw); go_simp; all_goals with_reducible rfl
    simp only [Act.put, List.setIfInBounds_toArray, List.set_cons_zero, List.set_cons_succ]
    refine skipOp 12 (o := ⟨_, _, _, _, _, _⟩) rfl (by kernel_rfl) (by rfl) hHeld ?_
    simp only [Act.put, List.setIfInBounds_toArray, List.set_cons_zero, List.set_cons_succ]
    refine skipOp 13 (o := ⟨_, _, _, _, _, _⟩) rfl (by kernel_rfl) (by rfl) hHeld ?_
    simp only [Act.put, List.setIfInBounds_toArray, List.set_cons_zero, List.set_cons_succ]
    refine skipOp 14 (o := ⟨_, _, _, _, _, _⟩) rfl (by kernel_rfl) (by rfl) hHeld ?_
    simp only [Act.put, List.setIfInBounds_toArray, List.set_cons_zero, List.set_cons_succ]
    refine skipOp 15 (o := ⟨_, _, _, _, _, _⟩) rfl (by kernel_rfl) (by rfl) hHeld ?_
    simp only [Act.put, List.setIfInBounds_toArray, List.set_cons_zero, List.set_cons_succ]
    refine skipOp 16 (o := ⟨_, _, _, _, _, _⟩) rfl (by kernel_rfl) (by rfl) hHeld ?_
    simp only [Act.put, List.setIfInBounds_toArray, List.set_cons_zero, List.set_cons_succ]
    refine skipOp 17 (o := ⟨_, _, _, _, _, _⟩) rfl (by kernel_rfl) (by rfl) hHeld ?_
    simp only [Act.put, List.setIfInBounds_toArray, List.set_cons_zero, List.set_cons_succ]
    refine skipOp 18 (o := ⟨_, _, _, _, _, _⟩) rfl (by kernel_rfl) (by rfl) hHeld ?_
    simp only [Act.put, List.setIfInBounds_toArray, List.set_cons_zero, List.set_cons_succ]
    refine skipOp 19 (o := ⟨_, _, _, _, _, _⟩) rfl (by kernel_rfl) (by rfl) hHeld ?_
    simp only [Act.put, List.setIfInBounds_toArray, List.set_cons_zero, List.set_cons_succ]
    refine skipOp 20 (o := ⟨_, _, _, _, _, _⟩) rfl (by kernel_rfl) (by rfl) hHeld ?_
    simp only [Act.put, List.setIfInBounds_toArray, List.set_cons_zero, List.set_cons_succ]
    refine skipOp 21 (o := ⟨_, _, _, _, _, _⟩) rfl (by kernel_rfl) (by rfl) hHeld ?_
    simp only [Act.put, List.setIfInBounds_toArray, List.set_cons_zero, List.set_cons_succ]
    refine skipOp 22 (o := ⟨_, _, _, _, _, _⟩) rfl (by kernel_rfl) (by rfl) hHeld ?_
    simp only [Act.put, List.setIfInBounds_toArray, List.set_cons_zero, List.set_cons_succ]
    refine takeOp 23 (o := ⟨_, _, _, _, _, _⟩) (v := ?_) rfl (by kernel_rfl) (by rfl) hHeld ?_ ?_
    rotate_left
    · intro w' hSw; (try dsimp only at hSw); go_simp; all_goals with_reducible rfl
    simp only [Act.put, List.setIfInBounds_toArray, List.set_cons_zero, List.set_cons_succ]
    refine takeOp 24 (o := ⟨_, _, _, _, _, _⟩) (v := ?_) rfl (by kernel_rfl) (by rfl) hHeld ?_ ?_
    rotate_left
    · intro w' hSw; (try dsimp only at hSw); go_simp; all_goals with_reducible rfl
    simp only [Act.put, List.setIfInBounds_toArray, List.set_cons_zero, List.set_cons_succ]
    refine skipOp 25 (o := ⟨_, _, _, _, _, _⟩) rfl (by kernel_rfl) (by rfl) hHeld ?_
    simp only [Act.put, List.setIfInBounds_toArray, List.set_cons_zero, List.set_cons_succ]
    refine skipOp 26 (o := ⟨_, _, _, _, _, _⟩) rfl (by kernel_rfl) (by rfl) hHeld ?_
    simp only [Act.put, List.setIfInBounds_toArray, List.set_cons_zero, List.set_cons_succ]
    refine skipOp 27 (o := ⟨_, _, _, _, _, _⟩) rfl (by kernel_rfl) (by rfl) hHeld ?_
    simp only [Act.put, List.setIfInBounds_toArray, List.set_cons_zero, List.set_cons_succ]
    refine skipOp 28 (o := ⟨_, _, _, _, _, _⟩) rfl (by kernel_rfl) (by rfl) hHeld ?_
    simp only [Act.put, List.setIfInBounds_toArray, List.set_cons_zero, List.set_cons_succ]
    refine skipOp 29 (o := ⟨_, _, _, _, _, _⟩) rfl (by kernel_rfl) (by rfl) hHeld ?_
    simp only [Act.put, List.setIfInBounds_toArray, List.set_cons_zero, List.set_cons_succ]
    refine skipOp 30 (o := ⟨_, _, _, _, _, _⟩) rfl (by kernel_rfl) (by rfl) hHeld ?_
    simp only [Act.put, List.setIfInBounds_toArray, List.set_cons_zero, List.set_cons_succ]
    refine skipOp 31 (o := ⟨_, _, _, _, _, _⟩) rfl (by kernel_rfl) (by rfl) hHeld ?_
    simp only [Act.put, List.setIfInBounds_toArray, List.set_cons_zero, List.set_cons_succ]
    refine skipOp 32 (o := ⟨_, _, _, _, _, _⟩) rfl (by kernel_rfl) (by rfl) hHeld ?_
    simp only [Act.put, List.setIfInBounds_toArray, List.set_cons_zero, List.set_cons_succ]
    refine skipOp 33 (o := ⟨_, _, _, _, _, _⟩) rfl (by kernel_rfl) (by rfl) hHeld ?_
    simp only [Act.put, List.setIfInBounds_toArray, List.set_cons_zero, List.set_cons_succ]
    refine skipOp 34 (o := ⟨_, _, _, _, _, _⟩) rfl (by kernel_rfl) (by rfl) hHeld ?_
    simp only [Act.put, List.setIfInBounds_toArray, List.set_cons_zero, List.set_cons_succ]
    refine skipOp 35 (o := ⟨_, _, _, _, _, _⟩) rfl (by kernel_rfl) (by rfl) hHeld ?_
    simp only [Act.put, List.setIfInBounds_toArray, List.set_cons_zero, List.set_cons_succ]
    refine takeOp 36 (o := ⟨_, _, _, _, _, _⟩) (v := ?_) rfl (by kernel_rfl) (by rfl) hHeld ?_ ?_
    rotate_left
    · intro w' hSw; (try dsimp only at hSw); go_simp; all_goals with_reducible rfl
    simp only [Act.put, List.setIfInBounds_toArray, List.set_cons_zero, List.set_cons_succ]
    refine takeOp 37 (o := ⟨_, _, _, _, _, _⟩) (v := ?_) rfl (by kernel_rfl) (by rfl) hHeld ?_ ?_
    rotate_left
    · intro w' hSw; (try dsimp only at hSw); go_simp; all_goals with_reducible rfl
    simp only [Act.put, List.setIfInBounds_toArray, List.set_cons_zero, List.set_cons_succ]
    refine wpAnyH_done (by kernel_rfl) ?_ _
    refine NoPanic.normal ?_
    go_wp2
    go_ret
    exact ⟨_, rfl, Hid.of ⟨fun k => (by cases k), fun k => absurd k.2.1 HP.out⟩, B2.out⟩

set_option maxRecDepth 20000 in
set_option maxHeartbeats 3200000 in
theorem isame_any {TS : TableSpec} {w : World} {p q : Nat} {r r' : RchL} {T T' : List (List TRec)} {F G : TFoot} (h : IRep TS w p r T F) (h' : IRep TS w q r' T' G) (hl : ∀ l ∈ T, l.length ≤ 1000) (hl' : ∀ l ∈ T', l.length ≤ 1000) :
    Calls Tryz.prog 20 #[tptr p, tptr q] w (Says w (ISame r r' T T')) := by
  obtain ⟨s, f, v, qs, Fs, h, hg, rfl⟩ := h
  obtain ⟨s', f', v', qs', Fs', h', hg', rfl⟩ := h'
  obtain ⟨va, vc, rfl, -⟩ := h.tabs
  obtain ⟨va', vc', rfl, -⟩ := h'.tabs
  obtain ⟨N, hN⟩ : ∃ N, T.length = N := ⟨_, rfl⟩
  obtain ⟨N', hN'⟩ : ∃ N, T'.length = N := ⟨_, rfl⟩
  rw [hN] at h
  rw [hN'] at h'
  have H := Hid.of h
  have H' := Hid.of h'
  have HL := Hid.of hl
  have HL' := Hid.of hl'
  have CS0 : Hid (Cs w [(⟨p, 4, none⟩, .slice va N vc), (⟨q, 4, none⟩, .slice va' N' vc')]) := Hid.of (.cons h.lt_p h.c.2.2.2.2 (.cons h'.lt_p h'.c.2.2.2.2 (.nil _)))
  have B0 := (Below.refl w.heap.size w).drew
  have B1 := Hid.of B0
  have CS1 := Hid.of (CS0.out.next B0)
  have hra := iReachesAs_any (h.below B0) (h'.below B0)
  have NN : Hid (T.length ≤ 1000) := Hid.of (by have := hg.pos.2; omega)
  clear h h' B0 hg hg' hl hl' hN hN'
  unfold ISame
  go_enter Tryz.func20, Tryz.ntmps20
  go_upto_region 3 with fail
  have d0 := (CS0.out).head
  have d1 := ((CS0.out).tail).head
  refine wp_region_noPanic ?_
  refine wp_region_held_drew (S := fun w' => w'.cell? ⟨p, 4, none⟩ = some (.slice va N vc) ∧ w'.cell? ⟨q, 4, none⟩ = some (.slice va' N' vc')) (by kernel_rfl) ?_ (fun hHeld => ?_)
  · exact ⟨d0, d1⟩
  refine takeOp 0 (o := ⟨_, _, _, _, _, _⟩) (v := ?_) rfl (by kernel_rfl) (by rfl) hHeld ?_ ?_
  rotate_left
  · intro w' hSw; (try dsimp only at hSw); go_simp; all_goals with_reducible rfl
  simp only [Act.put, List.setIfInBounds_toArray, List.set_cons_zero, List.set_cons_succ]
  refine takeOp 1 (o := ⟨_, _, _, _, _, _⟩) (v := ?_) rfl (by kernel_rfl) (by rfl) hHeld ?_ ?_
  rotate_left
  · intro w' hSw; (try dsimp only at hSw); go_simp; all_goals with_reducible rfl
  simp only [Act.put, List.setIfInBounds_toArray, List.set_cons_zero, List.set_cons_succ]
  refine wpAnyH_ready (rs := [2]) (by kernel_rfl) (by simp) ?_
  refine AllReadyH.cons (o := ⟨_, _, _, _, _, _⟩) rfl (fun K hK => ?_) AllReadyH.nil
  go_simp
  refine hra.mono ?_
  rintro e w2 ⟨z, rfl, hz, b2⟩
  have B2 := Hid.of (B1.out.trans (b2.mono B1.out.size))
  have CS2 := Hid.of (CS1.out.next b2)
  clear b2 hra CS1 CS0 B1
  clear hHeld d0 d1
  have d0 := (CS2.out).head
  have d1 := ((CS2.out).tail).head
  refine hK.out _ _ ⟨d0, d1⟩ (fun hHeld => ?_)
  clear hK K
  try simp only [Act.put, List.setIfInBounds_toArray, List.set_cons_zero, List.set_cons_succ]
  refine takeOp 3 (o := ⟨_, _, _, _, _, _⟩) (v := ?_) rfl (by kernel_rfl) (by rfl) hHeld ?_ ?_
  rotate_left
  · intro w' hSw; (try dsimp only at hSw); go_simp; all_goals with_reducible rfl
  simp only [Act.put, List.setIfInBounds_toArray, List.set_cons_zero, List.set_cons_succ]
  cases z
  · refine skipOp 4 (o := ⟨_, _, _, _, _, _⟩) rfl (by kernel_rfl) (by rfl) hHeld ?_
    simp only [Act.put, List.setIfInBounds_toArray, List.set_cons_zero, List.set_cons_succ]
    refine skipOp 5 (o := ⟨_, _, _, _, _, _⟩) rfl (by kernel_rfl) (by rfl) hHeld ?_
    simp only [Act.put, List.setIfInBounds_toArray, List.set_cons_zero, List.set_cons_succ]
    refine skipOp 6 (o := ⟨_, _, _, _, _, _⟩) rfl (by kernel_rfl) (by rfl) hHeld ?_
    simp only [Act.put, List.setIfInBounds_toArray, List.set_cons_zero, List.set_cons_succ]
    refine skipOp 7 (o := ⟨_, _, _, _, _, _⟩) rfl (by kernel_rfl) (by rfl) hHeld ?_
    simp only [Act.put, List.setIfInBounds_toArray, List.set_cons_zero, List.set_cons_succ]
    refine skipOp 8 (o := ⟨_, _, _, _, _, _⟩) rfl (by kernel_rfl) (by rfl) hHeld ?_
    simp only [Act.put, List.setIfInBounds_toArray, List.set_cons_zero, List.set_cons_succ]
    refine skipOp 9 (o := ⟨_, _, _, _, _, _⟩) rfl (by kernel_rfl) (by rfl) hHeld ?_
    simp only [Act.put, List.setIfInBounds_toArray, List.set_cons_zero, List.set_cons_succ]
    refine skipOp 10 (o := ⟨_, _, _, _, _, _⟩) rfl (by kernel_rfl) (by rfl) hHeld ?_
    simp only [Act.put, List.setIfInBounds_toArray, List.set_cons_zero, List.set_cons_succ]
    refine skipOp 11 (o := ⟨_, _, _, _, _, _⟩) rfl (by kernel_rfl) (by rfl) hHeld ?_
    simp only [Act.put, List.setIfInBounds_toArray, List.set_cons_zero, List.set_cons_succ]
    refine skipOp 12 (o := ⟨_, _, _, _, _, _⟩) rfl (by kernel_rfl) (by rfl) hHeld ?_
    simp only [Act.put, List.setIfInBounds_toArray, List.set_cons_zero, List.set_cons_succ]
    refine takeOp 13 (o := ⟨_, _, _, _, _, _⟩) (v := ?_) rfl (by kernel_rfl) (by rfl) hHeld ?_ ?_
    rotate_left
    · intro w' hSw; (try dsimp only at hSw); go_simp; all_goals with_reducible rfl
    simp only [Act.put, List.setIfInBounds_toArray, List.set_cons_zero, List.set_cons_succ]
    refine takeOp 14 (o := ⟨_, _, _, _, _, _⟩) (v := ?_) rfl (by kernel_rfl) (by rfl) hHeld ?_ ?_
    rotate_left
    · intro w' hSw; (try dsimp only at hSw); go_simp; all_goals with_reducible rfl
    simp only [Act.put, List.setIfInBounds_toArray, List.set_cons_zero, List.set_cons_succ]
    refine wpAnyH_done (by kernel_rfl) ?_ _
    refine NoPanic.normal ?_
    go_wp2
    go_ret
    exact ⟨_, rfl, Hid.of ⟨fun k => (by cases k), fun k => absurd (hz.out.2 ⟨k.1, k.2.1, k.2.2.1⟩) (by simp)⟩, B2.out⟩
  · refine takeOp 4 (o := ⟨_, _, _, _, _, _⟩) (v := ?_) rfl (by kernel_rfl) (by rfl) hHeld ?_ ?_
    rotate_left
    · intro w' hSw; (try dsimp only at hSw); go_simp; all_goals with_reducible rfl
    simp only [Act.put, List.setIfInBounds_toArray, List.set_cons_zero, List.set_cons_succ]
    refine takeOp 5 (o := ⟨_, _, _, _, _, _⟩) (v := ?_) rfl (by kernel_rfl) (by rfl) hHeld ?_ ?_
    rotate_left
    · intro w' hSw; (try dsimp only at hSw); go_simp; all_goals with_reducible rfl
    simp only [Act.put, List.setIfInBounds_toArray, List.set_cons_zero, List.set_cons_succ]
    refine takeOp 6 (o := ⟨_, _, _, _, _, _⟩) (v := ?_) rfl (by kernel_rfl) (by rfl) hHeld ?_ ?_
    rotate_left
    · intro w' hSw; (try dsimp only at hSw); go_simp; all_goals with_reducible rfl
    simp only [Act.put, List.setIfInBounds_toArray, List.set_cons_zero, List.set_cons_succ]
    refine takeOp 7 (o := ⟨_, _, _, _, _, _⟩) (v := ?_) rfl (by kernel_rfl) (by rfl) hHeld ?_ ?_
    rotate_left
    · intro w' hSw; (try dsimp only at hSw); go_simp; all_goals with_reducible rfl
    simp only [Act.put, List.setIfInBounds_toArray, List.set_cons_zero, List.set_cons_succ]
    refine takeOp 8 (o := ⟨_, _, _, _, _, _⟩) (v := ?_) rfl (by kernel_rfl) (by rfl) hHeld ?_ ?_
    rotate_left
    · intro w' hSw; (try dsimp only at hSw); go_simp; all_goals with_reducible rfl
    simp only [Act.put, List.setIfInBounds_toArray, List.set_cons_zero, List.set_cons_succ]
    refine takeOp 9 (o := ⟨_, _, _, _, _, _⟩) (v := ?_) rfl (by kernel_rfl) (by rfl) hHeld ?_ ?_
    rotate_left
    · intro w' hSw; (try dsimp only at hSw); go_simp; all_goals with_reducible rfl
    simp only [Act.put, List.setIfInBounds_toArray, List.set_cons_zero, List.set_cons_succ]
    refine takeOp 10 (o := ⟨_, _, _, _, _, _⟩) (v := ?_) rfl (by kernel_rfl) (by rfl) hHeld ?_ ?_
    rotate_left
    · intro w' hSw; (try dsimp only at hSw); go_simp; all_goals with_reducible rfl
    simp only [Act.put, List.setIfInBounds_toArray, List.set_cons_zero, List.set_cons_succ]
    refine takeOp 11 (o := ⟨_, _, _, _, _, _⟩) (v := ?_) rfl (by kernel_rfl) (by rfl) hHeld ?_ ?_
    rotate_left
    · intro w' hSw; (try dsimp only at hSw); go_simp; all_goals with_reducible rfl
    simp only [Act.put, List.setIfInBounds_toArray, List.set_cons_zero, List.set_cons_succ]
    refine wpAnyH_ready (rs := [12]) (by kernel_rfl) (by simp) ?_
    refine AllReadyH.cons (o := ⟨_, _, _, _, _, _⟩) rfl (fun K hK => ?_) AllReadyH.nil
    go_simp
    refine (iEqFunc_any  (H.out.below B2.out) (H'.out.below B2.out) NN.out HL.out HL'.out).mono ?_
    rintro e w3 ⟨z, rfl, hz3, b3⟩
    have B3 := Hid.of (B2.out.trans (b3.mono B2.out.size))
    have CS3 := Hid.of (CS2.out.next b3)
    clear b3 CS2 B2
    clear hHeld d0 d1
    have d0 := (CS3.out).head
    have d1 := ((CS3.out).tail).head
    refine hK.out _ _ ⟨d0, d1⟩ (fun hHeld => ?_)
    clear hK K
    try simp only [Act.put, List.setIfInBounds_toArray, List.set_cons_zero, List.set_cons_succ]
    refine takeOp 13 (o := ⟨_, _, _, _, _, _⟩) (v := ?_) rfl (by kernel_rfl) (by rfl) hHeld ?_ ?_
    rotate_left
    · intro w' hSw; (try dsimp only at hSw); go_simp; all_goals with_reducible rfl
    simp only [Act.put, List.setIfInBounds_toArray, List.set_cons_zero, List.set_cons_succ]
    refine takeOp 14 (o := ⟨_, _, _, _, _, _⟩) (v := ?_) rfl (by kernel_rfl) (by rfl) hHeld ?_ ?_
    rotate_left
    · intro w' hSw; (try dsimp only at hSw); go_simp; all_goals with_reducible rfl
    simp only [Act.put, List.setIfInBounds_toArray, List.set_cons_zero, List.set_cons_succ]
    refine wpAnyH_done (by kernel_rfl) ?_ _
    refine NoPanic.normal ?_
    go_wp2
    go_ret
    exact ⟨_, rfl, Hid.of ⟨fun k => ⟨(hz.out.1 (by first | rfl | trivial)).1, (hz.out.1 (by first | rfl | trivial)).2.1, (hz.out.1 (by first | rfl | trivial)).2.2, hz3.out.1 k⟩, fun k => hz3.out.2 k.2.2.2⟩, B3.out⟩

end Go.Proofs.YtnohmloilcpmiaaGreat
