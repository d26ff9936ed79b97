/-
  What statement AggSums answers: true, for every input.
-/
import Derived.Test.YtfoffoiimlgoeaaAGT
namespace Go.Proofs.Ytfoffoiimlgoeaa
open Go.RowKit Go.Lib

theorem sums_light (v : Value) (xs : List Int) (h : 60 < xs.length) (w : World) (hv : NumRow .i64 w v xs) :
    Calls Try.prog 5 #[v] w fun e w' => e = .returned (.bool true) ∧ Below w.heap.size w w' := by
  obtain ⟨sa, c, rfl, _⟩ := hv
  go_enter Try.func5, Try.ntmps5
  go_wp2_with fail
  refine (aggAlive_any _).mono ?_
  rintro e w1 ⟨rfl, b1⟩
  go_wp2
  go_ret
  exact ⟨rfl, b1⟩

theorem Mean_named (a : Ag) (m : Int) (hm : agMean a = m) (w : World) : Calls Try.prog 25 #[agv a] w fun e w' => e = .returned (.int .i64 m) ∧ Below w.heap.size w w' := by
  subst hm
  exact aggMean_any a w

set_option maxRecDepth 100000 in
set_option maxHeartbeats 3200000 in
theorem sums_main (v : Value) (xs : List Int) (hn : xs.length ≤ 60) (w : World) (hv : NumRow .i64 w v xs) (hl : Ints xs) :
    Calls Try.prog 5 #[v] w fun e w' => e = .returned (.bool true) ∧ Below w.heap.size w w' := by
  have NV := Hid.of hv
  obtain ⟨sa, c, rfl, hv⟩ := hv
  have HV := Hid.of hv
  have HL := Hid.of hl
  clear hv hl
  go_enter Try.func5, Try.ntmps5
  go_wp2
  go_loop [3, 4, 5] (fun a b i => ∃ (j : Nat) (h l : Int), j ≤ xs.length ∧ i = .int .i64 j ∧ a = .int .i64 h ∧ b = .int .u64 l ∧ Hid (h = (agOf (xs.take j)).hi) ∧ Hid (l = (agOf (xs.take j)).lo) ∧ 0 ≤ l) (fun _ _ i => xs.length - (RowKit.intOf i).toNat)
  case atStart => exact ⟨0, 0, 0, Nat.zero_le _, rfl, rfl, rfl, Hid.of rfl, Hid.of rfl, by decide⟩
  case round =>
    obtain ⟨j, h, l, hj, rfl, rfl, rfl, hh, hlo, hl0⟩ := hrel
    by_cases hlt : j < xs.length
    · have hne : xs ≠ [] := by intro e; subst e; simp at hlt
      obtain ⟨vb, vo, rfl, hvb, hcs⟩ := (HV.out).resolve_left hne
      obtain ⟨x, hxx⟩ : ∃ x, xs.getD j 0 = x := ⟨_, rfl⟩
      have hcell : w.cell? ⟨vb, vo + j, none⟩ = some (.int .i64 x) := by rw [hcs j hlt, hxx]
      have IX : Hid (IsInt x) := Hid.of (by rw [← hxx]; exact ints_get HL.out j hlt)
      have hb := (num_all xs HL.out hn j hj).2
      have hg := agOf_good (ints_take HL.out j)
      obtain ⟨_, k2, k3, k4, k5, k6, _, _⟩ := num_step hg.1 ⟨by omega, by omega⟩ IX.out hg.2
      rw [← hxx, ← agOf_take xs j hlt, hxx, ← hh.out, ← hlo.out] at k3 k4 k5 k6
      rw [← hxx, ← agOf_take xs j hlt, hxx, ← hlo.out] at k2
      have hb1 : -60 ≤ h := by rw [hh.out]; omega
      have hb2 : h ≤ 60 := by rw [hh.out]; omega
      obtain ⟨L, hL⟩ : ∃ L, IntKind.u64.wrap (l + IntKind.u64.wrap x) = L := ⟨_, rfl⟩
      rw [hL] at k2 k3 k4 k5 k6
      have hL0 : 0 ≤ L := by rw [← hL, u64_wrap]; omega
      have K2 := Hid.of k2
      have K3 := Hid.of k3
      have K4 := Hid.of k4
      have K5 := Hid.of k5
      have K6 := Hid.of k6
      have i0 : (0 : Int) ≤ (j : Int) := Int.natCast_nonneg _
      have i1 : (j : Int) < (xs.length : Int) := by omega
      clear hne hcs hxx hb hg k2 k3 k4 k5 k6
      by_cases g1 : L < l <;> by_cases g2 : x < 0
      all_goals
        go_wp2
        exact ⟨⟨j + 1, _, _, by omega, by go_num, rfl, rfl, Hid.of (by first | exact (K4.out g1 g2).symm | exact (K3.out g1 (by omega)).symm | exact (K6.out (by omega) g2).symm | exact (K5.out (by omega) (by omega)).symm), K2, hL0⟩, by simp [intOf]; omega⟩
    · have hjl : j = xs.length := by omega
      subst hjl
      have hh2 := hh.out
      have hl2 := hlo.out
      rw [List.take_length] at hh2 hl2
      obtain ⟨s, hs⟩ : ∃ s, agOf xs = s := ⟨_, rfl⟩
      have hw := val_ways _ (agOf_good HL.out).1
      have hmean : 0 < xs.length → agFits (agOf xs) = true → (agOf xs).mn ≤ agMean (agOf xs) ∧ agMean (agOf xs) ≤ (agOf xs).mx := fun h0 hf => mean_between HL.out h0 hn hf
      have hnil : xs.length = 0 → agOf xs = agZero := fun h0 => by
        have : xs = [] := List.eq_nil_of_length_eq_zero h0
        rw [this]; rfl
      rw [hs] at hh2 hl2 hw hmean hnil
      have HS := Hid.of hs
      have HM := Hid.of hmean
      have HN := Hid.of hnil
      obtain ⟨c0, hi, lo, mn, mx⟩ := s
      simp only at hh2 hl2 hw
      subst hh2 hl2
      clear hh hlo hs hmean hnil
      go_wp2_with fail
      refine (aggOf_any _ xs _ NV.out HL.out (by omega)).mono ?_
      rintro e w1 ⟨rfl, b1⟩
      rw [HS.out]
      have B1 := Hid.of (b1.alloc b1.size (.cells (agCells ⟨c0, h, l, mn, mx⟩) 27))
      have g1 := Hid.of (AgBlk.new w1 ⟨c0, h, l, mn, mx⟩)
      clear b1
      simp only [agv]
      obtain ⟨f, hf⟩ : ∃ f, agFits ⟨c0, h, l, mn, mx⟩ = f := ⟨_, rfl⟩
      obtain ⟨v, hv⟩ : ∃ v, agVal ⟨c0, h, l, mn, mx⟩ = v := ⟨_, rfl⟩
      rw [hf, hv] at hw
      have HF := Hid.of hf
      have HV2 := Hid.of hv
      have hM := HM.out
      rw [hf] at hM
      have HM' := Hid.of hM
      clear hf hv hM HM
      go_wp2_with fail
      refine (Sum_named ⟨c0, h, l, mn, mx⟩ v f HV2.out HF.out _).mono ?_
      rintro e w2 ⟨rfl, b2⟩
      have g2 := Hid.of (g1.out.kept b2)
      have B2 := Hid.of (B1.out.trans (b2.mono B1.out.size))
      clear b2
      obtain ⟨s0, s1, s2, s3, s4⟩ := g2.out.at
      by_cases h0 : xs.length = 0
      · have hz := HN.out h0
        have e0 : ((xs.length : Int) == 0) = true := by simpa using h0
        have l0 : (0 : Int) < 9223372036854775808 := by decide
        simp only [agZero, Ag.mk.injEq] at hz
        obtain ⟨z0, z1, z2, z3, z4⟩ := hz
        subst z0 z1 z2 z3 z4
        have hf : f = true := by rw [← HF.out]; decide
        have hv : v = 0 := by rw [← HV2.out]; decide
        subst hf hv
        have S0 := Hid.of s0
        clear hw h0
        go_wp2
        refine wp_region_noPanic ?_
        refine wp_region_any (by kernel_rfl) ?_
        change wpAny _ _ _ _ _ _ _ (World.drew _)
        refine wpAny_ready (rs := [0]) (by kernel_rfl) (by simp) ?_
        refine AllReady.cons (o := ⟨_, _, _, _, _, _⟩) rfl (fun K hK => ?_) AllReady.nil
        go_simp
        go_wp2_with (go_at_call 10; refine (aggAlive_any _).mono ?_; rintro e w3 ⟨rfl, b3⟩; have c3 := (Below.refl w2.heap.size w2).drew.trans b3; have G3 := Hid.of (g2.out.kept c3); have B3 := Hid.of (B2.out.trans (c3.mono B2.out.size)); clear b3 c3)
        refine wpAny_take (i := 1) (oi := ⟨_, _, _, _, _, _⟩) (v := ?_) rfl (by kernel_rfl) (by kernel_rfl) (by kernel_rfl) (fun _ _ _ h => h) (Or.inl ⟨by rfl, ?_⟩) ?_
        rotate_left
        · intro w
          go_simp
          all_goals with_reducible rfl
        simp only [Act.put, List.setIfInBounds_toArray, List.set_cons_zero, List.set_cons_succ]
        refine wpAny_take (i := 2) (oi := ⟨_, _, _, _, _, _⟩) (v := ?_) rfl (by kernel_rfl) (by kernel_rfl) (by kernel_rfl) (fun _ _ _ h => h) (Or.inl ⟨by rfl, ?_⟩) ?_
        rotate_left
        · intro w
          go_simp
          all_goals with_reducible rfl
        simp only [Act.put, List.setIfInBounds_toArray, List.set_cons_zero, List.set_cons_succ]
        refine wpAny_take (i := 3) (oi := ⟨_, _, _, _, _, _⟩) (v := ?_) rfl (by kernel_rfl) (by kernel_rfl) (by kernel_rfl) (fun _ _ _ h => h) (Or.inl ⟨by rfl, ?_⟩) ?_
        rotate_left
        · intro w
          go_simp
          all_goals with_reducible rfl
        simp only [Act.put, List.setIfInBounds_toArray, List.set_cons_zero, List.set_cons_succ]
        refine wpAny_take (i := 4) (oi := ⟨_, _, _, _, _, _⟩) (v := ?_) rfl (by kernel_rfl) (by kernel_rfl) (by kernel_rfl) (fun _ _ _ h => h) (Or.inl ⟨by rfl, ?_⟩) ?_
        rotate_left
        · intro w
          go_simp
          all_goals with_reducible rfl
        simp only [Act.put, List.setIfInBounds_toArray, List.set_cons_zero, List.set_cons_succ]
        refine wpAny_take (i := 5) (oi := ⟨_, _, _, _, _, _⟩) (v := ?_) rfl (by kernel_rfl) (by kernel_rfl) (by kernel_rfl) (fun _ _ _ h => h) (Or.inl ⟨by rfl, ?_⟩) ?_
        rotate_left
        · intro w
          go_simp
          all_goals with_reducible rfl
        simp only [Act.put, List.setIfInBounds_toArray, List.set_cons_zero, List.set_cons_succ]
        refine wpAny_take (i := 6) (oi := ⟨_, _, _, _, _, _⟩) (v := undef) rfl (by kernel_rfl) (by kernel_rfl) (by kernel_rfl) (fun _ _ _ h => h) (Or.inr ⟨by rfl, rfl⟩) ?_
        simp only [Act.put, List.setIfInBounds_toArray, List.set_cons_zero, List.set_cons_succ]
        refine wpAny_take (i := 7) (oi := ⟨_, _, _, _, _, _⟩) (v := ?_) rfl (by kernel_rfl) (by kernel_rfl) (by kernel_rfl) (fun _ _ _ h => h) (Or.inl ⟨by rfl, ?_⟩) ?_
        rotate_left
        · intro w
          go_simp
          all_goals with_reducible rfl
        simp only [Act.put, List.setIfInBounds_toArray, List.set_cons_zero, List.set_cons_succ]
        refine wpAny_take (i := 8) (oi := ⟨_, _, _, _, _, _⟩) (v := ?_) rfl (by kernel_rfl) (by kernel_rfl) (by kernel_rfl) (fun _ _ _ h => h) (Or.inl ⟨by rfl, ?_⟩) ?_
        rotate_left
        · intro w
          go_simp
          all_goals with_reducible rfl
        simp only [Act.put, List.setIfInBounds_toArray, List.set_cons_zero, List.set_cons_succ]
        refine wpAny_take (i := 9) (oi := ⟨_, _, _, _, _, _⟩) (v := undef) rfl (by kernel_rfl) (by kernel_rfl) (by kernel_rfl) (fun _ _ _ h => h) (Or.inr ⟨by rfl, rfl⟩) ?_
        simp only [Act.put, List.setIfInBounds_toArray, List.set_cons_zero, List.set_cons_succ]
        refine wpAny_take (i := 10) (oi := ⟨_, _, _, _, _, _⟩) (v := undef) rfl (by kernel_rfl) (by kernel_rfl) (by kernel_rfl) (fun _ _ _ h => h) (Or.inr ⟨by rfl, rfl⟩) ?_
        simp only [Act.put, List.setIfInBounds_toArray, List.set_cons_zero, List.set_cons_succ]
        refine wpAny_take (i := 11) (oi := ⟨_, _, _, _, _, _⟩) (v := undef) rfl (by kernel_rfl) (by kernel_rfl) (by kernel_rfl) (fun _ _ _ h => h) (Or.inr ⟨by rfl, rfl⟩) ?_
        simp only [Act.put, List.setIfInBounds_toArray, List.set_cons_zero, List.set_cons_succ]
        refine wpAny_take (i := 12) (oi := ⟨_, _, _, _, _, _⟩) (v := undef) rfl (by kernel_rfl) (by kernel_rfl) (by kernel_rfl) (fun _ _ _ h => h) (Or.inr ⟨by rfl, rfl⟩) ?_
        simp only [Act.put, List.setIfInBounds_toArray, List.set_cons_zero, List.set_cons_succ]
        refine wpAny_take (i := 13) (oi := ⟨_, _, _, _, _, _⟩) (v := undef) rfl (by kernel_rfl) (by kernel_rfl) (by kernel_rfl) (fun _ _ _ h => h) (Or.inr ⟨by rfl, rfl⟩) ?_
        simp only [Act.put, List.setIfInBounds_toArray, List.set_cons_zero, List.set_cons_succ]
        refine wpAny_take (i := 14) (oi := ⟨_, _, _, _, _, _⟩) (v := undef) rfl (by kernel_rfl) (by kernel_rfl) (by kernel_rfl) (fun _ _ _ h => h) (Or.inr ⟨by rfl, rfl⟩) ?_
        simp only [Act.put, List.setIfInBounds_toArray, List.set_cons_zero, List.set_cons_succ]
        refine wpAny_take (i := 15) (oi := ⟨_, _, _, _, _, _⟩) (v := undef) rfl (by kernel_rfl) (by kernel_rfl) (by kernel_rfl) (fun _ _ _ h => h) (Or.inr ⟨by rfl, rfl⟩) ?_
        simp only [Act.put, List.setIfInBounds_toArray, List.set_cons_zero, List.set_cons_succ]
        refine wpAny_take (i := 16) (oi := ⟨_, _, _, _, _, _⟩) (v := undef) rfl (by kernel_rfl) (by kernel_rfl) (by kernel_rfl) (fun _ _ _ h => h) (Or.inr ⟨by rfl, rfl⟩) ?_
        simp only [Act.put, List.setIfInBounds_toArray, List.set_cons_zero, List.set_cons_succ]
        refine wpAny_take (i := 17) (oi := ⟨_, _, _, _, _, _⟩) (v := undef) rfl (by kernel_rfl) (by kernel_rfl) (by kernel_rfl) (fun _ _ _ h => h) (Or.inr ⟨by rfl, rfl⟩) ?_
        simp only [Act.put, List.setIfInBounds_toArray, List.set_cons_zero, List.set_cons_succ]
        refine wpAny_take (i := 18) (oi := ⟨_, _, _, _, _, _⟩) (v := undef) rfl (by kernel_rfl) (by kernel_rfl) (by kernel_rfl) (fun _ _ _ h => h) (Or.inr ⟨by rfl, rfl⟩) ?_
        simp only [Act.put, List.setIfInBounds_toArray, List.set_cons_zero, List.set_cons_succ]
        refine wpAny_take (i := 19) (oi := ⟨_, _, _, _, _, _⟩) (v := undef) rfl (by kernel_rfl) (by kernel_rfl) (by kernel_rfl) (fun _ _ _ h => h) (Or.inr ⟨by rfl, rfl⟩) ?_
        simp only [Act.put, List.setIfInBounds_toArray, List.set_cons_zero, List.set_cons_succ]
        refine wpAny_take (i := 20) (oi := ⟨_, _, _, _, _, _⟩) (v := undef) rfl (by kernel_rfl) (by kernel_rfl) (by kernel_rfl) (fun _ _ _ h => h) (Or.inr ⟨by rfl, rfl⟩) ?_
        simp only [Act.put, List.setIfInBounds_toArray, List.set_cons_zero, List.set_cons_succ]
        refine wpAny_take (i := 21) (oi := ⟨_, _, _, _, _, _⟩) (v := ?_) rfl (by kernel_rfl) (by kernel_rfl) (by kernel_rfl) (fun _ _ _ h => h) (Or.inl ⟨by rfl, ?_⟩) ?_
        rotate_left
        · intro w
          go_simp
          all_goals with_reducible rfl
        simp only [Act.put, List.setIfInBounds_toArray, List.set_cons_zero, List.set_cons_succ]
        refine wpAny_take (i := 22) (oi := ⟨_, _, _, _, _, _⟩) (v := ?_) rfl (by kernel_rfl) (by kernel_rfl) (by kernel_rfl) (fun _ _ _ h => h) (Or.inl ⟨by rfl, ?_⟩) ?_
        rotate_left
        · intro w
          go_simp
          all_goals with_reducible rfl
        simp only [Act.put, List.setIfInBounds_toArray, List.set_cons_zero, List.set_cons_succ]
        refine wpAny_take (i := 23) (oi := ⟨_, _, _, _, _, _⟩) (v := ?_) rfl (by kernel_rfl) (by kernel_rfl) (by kernel_rfl) (fun _ _ _ h => h) (Or.inl ⟨by rfl, ?_⟩) ?_
        rotate_left
        · intro w
          go_simp
          all_goals with_reducible rfl
        simp only [Act.put, List.setIfInBounds_toArray, List.set_cons_zero, List.set_cons_succ]
        refine wpAny_done (by kernel_rfl) ?_ _
        refine NoPanic.normal ?_
        go_wp2
        go_ret
        exact ⟨rfl, B3.out⟩
      · have e0 : ((xs.length : Int) == 0) = false := by simpa using h0
        have h1 : 0 < xs.length := by omega
        obtain ⟨m, hm⟩ : ∃ m, agMean ⟨c0, h, l, mn, mx⟩ = m := ⟨_, rfl⟩
        have HMM := Hid.of hm
        rcases hw with ⟨rfl, hl, rfl, rfl⟩ | ⟨rfl, hl, rfl, hv⟩ | ⟨rfl, hl, rfl, rfl⟩ | ⟨rfl, hl, rfl, rfl⟩ | ⟨q0, q1, hl, rfl, rfl⟩ | ⟨q0, q1, hl, rfl, rfl⟩
        · obtain ⟨m1, m2⟩ := HM'.out h1 rfl
          rw [hm] at m1 m2
          clear hm h0 h1
          go_wp2
          go_region_held3 (fun w' => w'.cell? ⟨w1.heap.size, 0, none⟩ = some (.int .i64 c0) ∧ w'.cell? ⟨w1.heap.size, 1, none⟩ = some (.int .i64 0) ∧ w'.cell? ⟨w1.heap.size, 2, none⟩ = some (.int .u64 v) ∧ w'.cell? ⟨w1.heap.size, 3, none⟩ = some (.int .i64 mn) ∧ w'.cell? ⟨w1.heap.size, 4, none⟩ = some (.int .i64 mx)) (go_keep) (first | (go_at_call 10; refine (aggAlive_any _).mono ?_; rintro e w3 ⟨rfl, b3⟩; have c3 := (Below.refl w2.heap.size w2).drew.trans b3; have G3 := Hid.of (g2.out.kept c3); have B3 := Hid.of (B2.out.trans (c3.mono B2.out.size)); clear b3 c3; clear s0 s1 s2 s3 s4; obtain ⟨s0, s1, s2, s3, s4⟩ := G3.out.at) | (go_at_call 25; refine (Mean_named ⟨c0, 0, v, mn, mx⟩ m HMM.out _).mono ?_; first | (rintro e w5 ⟨rfl, b5⟩; have G5 := Hid.of (G4.out.kept b5); have B5 := Hid.of (B4.out.trans (b5.mono B4.out.size)); clear b5; clear s0 s1 s2 s3 s4; obtain ⟨s0, s1, s2, s3, s4⟩ := G5.out.at) | (rintro e w4 ⟨rfl, b4⟩; have G4 := Hid.of (G3.out.kept b4); have B4 := Hid.of (B3.out.trans (b4.mono B3.out.size)); clear b4; clear s0 s1 s2 s3 s4; obtain ⟨s0, s1, s2, s3, s4⟩ := G4.out.at)))
          all_goals
            go_wp2
            go_ret
            exact ⟨rfl, B5.out⟩
        · obtain ⟨m1, m2⟩ := HM'.out h1 rfl
          rw [hm] at m1 m2
          have hw := i64_wrap l
          rw [← hv] at hw
          clear hm h0 h1 hv
          go_wp2
          go_region_held3 (fun w' => w'.cell? ⟨w1.heap.size, 0, none⟩ = some (.int .i64 c0) ∧ w'.cell? ⟨w1.heap.size, 1, none⟩ = some (.int .i64 (-1)) ∧ w'.cell? ⟨w1.heap.size, 2, none⟩ = some (.int .u64 l) ∧ w'.cell? ⟨w1.heap.size, 3, none⟩ = some (.int .i64 mn) ∧ w'.cell? ⟨w1.heap.size, 4, none⟩ = some (.int .i64 mx)) (go_keep) (first | (go_at_call 10; refine (aggAlive_any _).mono ?_; rintro e w3 ⟨rfl, b3⟩; have c3 := (Below.refl w2.heap.size w2).drew.trans b3; have G3 := Hid.of (g2.out.kept c3); have B3 := Hid.of (B2.out.trans (c3.mono B2.out.size)); clear b3 c3; clear s0 s1 s2 s3 s4; obtain ⟨s0, s1, s2, s3, s4⟩ := G3.out.at) | (go_at_call 25; refine (Mean_named ⟨c0, (-1), l, mn, mx⟩ m HMM.out _).mono ?_; first | (rintro e w5 ⟨rfl, b5⟩; have G5 := Hid.of (G4.out.kept b5); have B5 := Hid.of (B4.out.trans (b5.mono B4.out.size)); clear b5; clear s0 s1 s2 s3 s4; obtain ⟨s0, s1, s2, s3, s4⟩ := G5.out.at) | (rintro e w4 ⟨rfl, b4⟩; have G4 := Hid.of (G3.out.kept b4); have B4 := Hid.of (B3.out.trans (b4.mono B3.out.size)); clear b4; clear s0 s1 s2 s3 s4; obtain ⟨s0, s1, s2, s3, s4⟩ := G4.out.at)))
          all_goals
            go_wp2
            go_ret
            exact ⟨rfl, B5.out⟩
        all_goals
          clear hm h0 h1
          go_wp2
          refine wp_region_noPanic ?_
          refine wp_region_any (by kernel_rfl) ?_
          change wpAny _ _ _ _ _ _ _ (World.drew _)
          refine wpAny_ready (rs := [0]) (by kernel_rfl) (by simp) ?_
          refine AllReady.cons (o := ⟨_, _, _, _, _, _⟩) rfl (fun K hK => ?_) AllReady.nil
          go_simp
          go_wp2_with (go_at_call 10; refine (aggAlive_any _).mono ?_; rintro e w3 ⟨rfl, b3⟩; have c3 := (Below.refl w2.heap.size w2).drew.trans b3; have G3 := Hid.of (g2.out.kept c3); have B3 := Hid.of (B2.out.trans (c3.mono B2.out.size)); clear b3 c3)
          refine wpAny_take (i := 1) (oi := ⟨_, _, _, _, _, _⟩) (v := ?_) rfl (by kernel_rfl) (by kernel_rfl) (by kernel_rfl) (fun _ _ _ h => h) (Or.inl ⟨by rfl, ?_⟩) ?_
          rotate_left
          · intro w
            go_simp
            all_goals with_reducible rfl
          simp only [Act.put, List.setIfInBounds_toArray, List.set_cons_zero, List.set_cons_succ]
          refine wpAny_take (i := 2) (oi := ⟨_, _, _, _, _, _⟩) (v := ?_) rfl (by kernel_rfl) (by kernel_rfl) (by kernel_rfl) (fun _ _ _ h => h) (Or.inl ⟨by rfl, ?_⟩) ?_
          rotate_left
          · intro w
            go_simp
            all_goals with_reducible rfl
          simp only [Act.put, List.setIfInBounds_toArray, List.set_cons_zero, List.set_cons_succ]
          refine wpAny_take (i := 3) (oi := ⟨_, _, _, _, _, _⟩) (v := ?_) rfl (by kernel_rfl) (by kernel_rfl) (by kernel_rfl) (fun _ _ _ h => h) (Or.inl ⟨by rfl, ?_⟩) ?_
          rotate_left
          · intro w
            go_simp
            all_goals with_reducible rfl
          simp only [Act.put, List.setIfInBounds_toArray, List.set_cons_zero, List.set_cons_succ]
          refine wpAny_take (i := 4) (oi := ⟨_, _, _, _, _, _⟩) (v := ?_) rfl (by kernel_rfl) (by kernel_rfl) (by kernel_rfl) (fun _ _ _ h => h) (Or.inl ⟨by rfl, ?_⟩) ?_
          rotate_left
          · intro w
            go_simp
            all_goals with_reducible rfl
          simp only [Act.put, List.setIfInBounds_toArray, List.set_cons_zero, List.set_cons_succ]
          refine wpAny_take (i := 5) (oi := ⟨_, _, _, _, _, _⟩) (v := ?_) rfl (by kernel_rfl) (by kernel_rfl) (by kernel_rfl) (fun _ _ _ h => h) (Or.inl ⟨by rfl, ?_⟩) ?_
          rotate_left
          · intro w
            go_simp
            all_goals with_reducible rfl
          simp only [Act.put, List.setIfInBounds_toArray, List.set_cons_zero, List.set_cons_succ]
          refine wpAny_take (i := 6) (oi := ⟨_, _, _, _, _, _⟩) (v := ?_) rfl (by kernel_rfl) (by kernel_rfl) (by kernel_rfl) (fun _ _ _ h => h) (Or.inl ⟨by rfl, ?_⟩) ?_
          rotate_left
          · intro w
            go_simp
            all_goals with_reducible rfl
          simp only [Act.put, List.setIfInBounds_toArray, List.set_cons_zero, List.set_cons_succ]
          refine wpAny_take (i := 7) (oi := ⟨_, _, _, _, _, _⟩) (v := ?_) rfl (by kernel_rfl) (by kernel_rfl) (by kernel_rfl) (fun _ _ _ h => h) (Or.inl ⟨by rfl, ?_⟩) ?_
          rotate_left
          · intro w
            go_simp
            all_goals with_reducible rfl
          simp only [Act.put, List.setIfInBounds_toArray, List.set_cons_zero, List.set_cons_succ]
          refine wpAny_take (i := 8) (oi := ⟨_, _, _, _, _, _⟩) (v := ?_) rfl (by kernel_rfl) (by kernel_rfl) (by kernel_rfl) (fun _ _ _ h => h) (Or.inl ⟨by rfl, ?_⟩) ?_
          rotate_left
          · intro w
            go_simp
            all_goals with_reducible rfl
          simp only [Act.put, List.setIfInBounds_toArray, List.set_cons_zero, List.set_cons_succ]
          refine wpAny_take (i := 9) (oi := ⟨_, _, _, _, _, _⟩) (v := undef) rfl (by kernel_rfl) (by kernel_rfl) (by kernel_rfl) (fun _ _ _ h => h) (Or.inr ⟨by rfl, rfl⟩) ?_
          simp only [Act.put, List.setIfInBounds_toArray, List.set_cons_zero, List.set_cons_succ]
          refine wpAny_take (i := 10) (oi := ⟨_, _, _, _, _, _⟩) (v := undef) rfl (by kernel_rfl) (by kernel_rfl) (by kernel_rfl) (fun _ _ _ h => h) (Or.inr ⟨by rfl, rfl⟩) ?_
          simp only [Act.put, List.setIfInBounds_toArray, List.set_cons_zero, List.set_cons_succ]
          refine wpAny_take (i := 11) (oi := ⟨_, _, _, _, _, _⟩) (v := undef) rfl (by kernel_rfl) (by kernel_rfl) (by kernel_rfl) (fun _ _ _ h => h) (Or.inr ⟨by rfl, rfl⟩) ?_
          simp only [Act.put, List.setIfInBounds_toArray, List.set_cons_zero, List.set_cons_succ]
          refine wpAny_take (i := 12) (oi := ⟨_, _, _, _, _, _⟩) (v := undef) rfl (by kernel_rfl) (by kernel_rfl) (by kernel_rfl) (fun _ _ _ h => h) (Or.inr ⟨by rfl, rfl⟩) ?_
          simp only [Act.put, List.setIfInBounds_toArray, List.set_cons_zero, List.set_cons_succ]
          refine wpAny_take (i := 13) (oi := ⟨_, _, _, _, _, _⟩) (v := undef) rfl (by kernel_rfl) (by kernel_rfl) (by kernel_rfl) (fun _ _ _ h => h) (Or.inr ⟨by rfl, rfl⟩) ?_
          simp only [Act.put, List.setIfInBounds_toArray, List.set_cons_zero, List.set_cons_succ]
          refine wpAny_take (i := 14) (oi := ⟨_, _, _, _, _, _⟩) (v := undef) rfl (by kernel_rfl) (by kernel_rfl) (by kernel_rfl) (fun _ _ _ h => h) (Or.inr ⟨by rfl, rfl⟩) ?_
          simp only [Act.put, List.setIfInBounds_toArray, List.set_cons_zero, List.set_cons_succ]
          refine wpAny_take (i := 15) (oi := ⟨_, _, _, _, _, _⟩) (v := undef) rfl (by kernel_rfl) (by kernel_rfl) (by kernel_rfl) (fun _ _ _ h => h) (Or.inr ⟨by rfl, rfl⟩) ?_
          simp only [Act.put, List.setIfInBounds_toArray, List.set_cons_zero, List.set_cons_succ]
          refine wpAny_take (i := 16) (oi := ⟨_, _, _, _, _, _⟩) (v := undef) rfl (by kernel_rfl) (by kernel_rfl) (by kernel_rfl) (fun _ _ _ h => h) (Or.inr ⟨by rfl, rfl⟩) ?_
          simp only [Act.put, List.setIfInBounds_toArray, List.set_cons_zero, List.set_cons_succ]
          refine wpAny_take (i := 17) (oi := ⟨_, _, _, _, _, _⟩) (v := undef) rfl (by kernel_rfl) (by kernel_rfl) (by kernel_rfl) (fun _ _ _ h => h) (Or.inr ⟨by rfl, rfl⟩) ?_
          simp only [Act.put, List.setIfInBounds_toArray, List.set_cons_zero, List.set_cons_succ]
          refine wpAny_take (i := 18) (oi := ⟨_, _, _, _, _, _⟩) (v := undef) rfl (by kernel_rfl) (by kernel_rfl) (by kernel_rfl) (fun _ _ _ h => h) (Or.inr ⟨by rfl, rfl⟩) ?_
          simp only [Act.put, List.setIfInBounds_toArray, List.set_cons_zero, List.set_cons_succ]
          refine wpAny_take (i := 19) (oi := ⟨_, _, _, _, _, _⟩) (v := undef) rfl (by kernel_rfl) (by kernel_rfl) (by kernel_rfl) (fun _ _ _ h => h) (Or.inr ⟨by rfl, rfl⟩) ?_
          simp only [Act.put, List.setIfInBounds_toArray, List.set_cons_zero, List.set_cons_succ]
          refine wpAny_take (i := 20) (oi := ⟨_, _, _, _, _, _⟩) (v := undef) rfl (by kernel_rfl) (by kernel_rfl) (by kernel_rfl) (fun _ _ _ h => h) (Or.inr ⟨by rfl, rfl⟩) ?_
          simp only [Act.put, List.setIfInBounds_toArray, List.set_cons_zero, List.set_cons_succ]
          refine wpAny_take (i := 21) (oi := ⟨_, _, _, _, _, _⟩) (v := ?_) rfl (by kernel_rfl) (by kernel_rfl) (by kernel_rfl) (fun _ _ _ h => h) (Or.inl ⟨by rfl, ?_⟩) ?_
          rotate_left
          · intro w
            go_simp
            all_goals with_reducible rfl
          simp only [Act.put, List.setIfInBounds_toArray, List.set_cons_zero, List.set_cons_succ]
          refine wpAny_take (i := 22) (oi := ⟨_, _, _, _, _, _⟩) (v := ?_) rfl (by kernel_rfl) (by kernel_rfl) (by kernel_rfl) (fun _ _ _ h => h) (Or.inl ⟨by rfl, ?_⟩) ?_
          rotate_left
          · intro w
            go_simp
            all_goals with_reducible rfl
          simp only [Act.put, List.setIfInBounds_toArray, List.set_cons_zero, List.set_cons_succ]
          refine wpAny_take (i := 23) (oi := ⟨_, _, _, _, _, _⟩) (v := ?_) rfl (by kernel_rfl) (by kernel_rfl) (by kernel_rfl) (fun _ _ _ h => h) (Or.inl ⟨by rfl, ?_⟩) ?_
          rotate_left
          · intro w
            go_simp
            all_goals with_reducible rfl
          simp only [Act.put, List.setIfInBounds_toArray, List.set_cons_zero, List.set_cons_succ]
          refine wpAny_done (by kernel_rfl) ?_ _
          refine NoPanic.normal ?_
          go_wp2
          go_ret
          exact ⟨rfl, B3.out⟩

theorem sums_any (v : Value) (xs : List Int) (w : World) (hv : NumRow .i64 w v xs) (hl : Ints xs) :
    Calls Try.prog 5 #[v] w fun e w' => e = .returned (.bool true) ∧ Below w.heap.size w w' := by
  by_cases h : 60 < xs.length
  · exact sums_light v xs h w hv
  · exact sums_main v xs (by omega) w hv hl

end Go.Proofs.Ytfoffoiimlgoeaa
