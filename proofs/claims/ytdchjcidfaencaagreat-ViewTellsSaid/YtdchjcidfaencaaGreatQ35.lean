/-
  A bundle of texts: RSA RSB RSC RSE RSF.
-/
import Derived.Deep.DeepCutAuto
import Derived.Deep.RegionHeld3
import Derived.Test.YtdchjcidfaencaaGreatQ31
import Derived.Test.YtdchjcidfaencaaGreatQ16
import Derived.Test.YtdchjcidfaencaaGreatQ08
import Derived.Test.YtdchjcidfaencaaGreatQ14
import Derived.Test.YtdchjcidfaencaaGreatQ29
import Derived.Test.YtdchjcidfaencaaGreatQ13
import Derived.Test.YtdchjcidfaencaaGreatQ21
import Derived.Test.YtdchjcidfaencaaGreatQ03
namespace Go.Proofs.YtdchjcidfaencaaGreat
open Go.RowKit Go.Lib

/-- A variable that holds a Reach. -/
structure VH (w0 : World) (b : Nat) (now : Int) (n : ByteArray) (s f : Value) (p : PolL) (fl : List Int) (w : World) : Prop where
  k : w.heap[b]? = some (.cells #[.int .i64 now, .string n, s, f] 46 (0, 0))
  hs : CellRow w s p.2.length (flat penc p.2)
  hf : CellRow w f fl.length (fl.map (Value.int .i64))
  fr : Below w0.heap.size w0 w

section
variable {w0 w w' : World} {b : Nat} {n : ByteArray} {now : Int} {s f : Value} {p : PolL} {fl : List Int}
theorem VH.next (h : VH w0 b now n s f p fl w) (c : Below w.heap.size w w') : VH w0 b now n s f p fl w' :=
  ⟨by rw [c.block b (Array.getElem?_eq_some_iff.1 h.k).1]; exact h.k, h.hs.kept c, h.hf.kept c, h.fr.trans (c.mono h.fr.size)⟩
theorem VH.at (h : VH w0 b now n s f p fl w) : w.cell? ⟨b, 0, none⟩ = some (.int .i64 now) ∧ w.cell? ⟨b, 1, none⟩ = some (.string n) ∧ w.cell? ⟨b, 2, none⟩ = some s ∧ w.cell? ⟨b, 3, none⟩ = some f := by
  refine ⟨?_, ?_, ?_, ?_⟩ <;> (rw [cell_of_row w b _ _ _ _ h.k]; rfl)
theorem VH.made (hs : CellRow w s p.2.length (flat penc p.2)) (hf : CellRow w f fl.length (fl.map (Value.int .i64))) : VH w w.heap.size now n s f p fl (w.alloc (.cells #[.int .i64 now, .string n, s, f] 46)) := by
  have b : Below w.heap.size w (w.alloc (.cells #[.int .i64 now, .string n, s, f] 46)) := (Below.refl _ _).alloc (Nat.le_refl _) _
  exact ⟨Go.heap_alloc_new _ _, hs.kept b, hf.kept b, b⟩
end

set_option maxRecDepth 20000 in
theorem has_no (now : Int) (n : ByteArray) (sa : Option Addr) (N sc : Nat) (f : Value) (i : Int) (w : World) (h : i < 0 ∨ (N : Int) ≤ i) :
    Calls Tryz.prog 101 #[.agg #[.int .i64 now, .string n, .slice sa N sc, f], .int .i64 i] w fun e w' => e = .returned (.bool false) ∧ Below w.heap.size w w' := by
  have k : (i < 0) ∨ (¬ i < 0 ∧ ¬ i < (N : Int)) := by omega
  clear h
  rcases k with h1 | ⟨h1, h2⟩
  all_goals
    go_enter Tryz.func101, Tryz.ntmps101
    go_wp2
    go_ret
    exact ⟨rfl, (Below.refl _ _).alloc (Nat.le_refl _) _⟩

set_option maxRecDepth 20000 in
theorem has_in (now : Int) (n : ByteArray) (sa : Option Addr) (N sc : Nat) (f : Value) (j : Nat) (w : World) (h : j < N) :
    Calls Tryz.prog 101 #[.agg #[.int .i64 now, .string n, .slice sa N sc, f], .int .i64 j] w fun e w' => e = .returned (.bool true) ∧ Below w.heap.size w w' := by
  have h1 : ¬ (j : Int) < 0 := by omega
  have h2 : (j : Int) < (N : Int) := by omega
  clear h
  go_enter Tryz.func101, Tryz.ntmps101
  go_wp2
  go_ret
  exact ⟨rfl, (Below.refl _ _).alloc (Nat.le_refl _) _⟩

set_option maxRecDepth 20000 in
set_option maxHeartbeats 800000 in
theorem floor_any (now : Int) (n : ByteArray) (s f : Value) (p : PolL) (fl : List Int) (j : Nat) (w : World) (hs : CellRow w s p.2.length (flat penc p.2)) (hf : CellRow w f fl.length (fl.map (Value.int .i64))) :
    Calls Tryz.prog 111 #[.agg #[.int .i64 now, .string n, s, f], .int .i64 j] w fun e w' => e = .returned (.int .i64 (fl.getD j 0)) ∧ Below w.heap.size w w' := by
  have H0 := Hid.of (VH.made (now := now) (n := n) hs hf)
  obtain ⟨fa, fc, rfl, -⟩ := hf
  obtain ⟨M, hM⟩ : ∃ M, fl.length = M := ⟨_, rfl⟩
  rw [hM] at H0 ⊢
  obtain ⟨w1, hw1⟩ : ∃ w1, w.alloc (.cells #[.int .i64 now, .string n, s, .slice fa M fc] 46) = w1 := ⟨_, rfl⟩
  rw [hw1] at H0
  have HW := Hid.of hw1
  have HM := Hid.of hM
  clear hM hw1 hs
  obtain ⟨c0, c1, c2, c3⟩ := H0.out.at
  by_cases hj : j < M
  · have hj1 : ¬ (j : Int) ≥ (M : Int) := by omega
    have hj2 : (j : Int) < (M : Int) := by omega
    have j0 : (0 : Int) ≤ (j : Int) := by omega
    have row := H0.out.hf
    rw [HM.out] at row
    obtain ⟨fb, fo, rfl, -, hfc⟩ := int_at row j (by rw [HM.out]; exact hj) HM.out.symm
    obtain ⟨x, hx⟩ : ∃ x, fl.getD j 0 = x := ⟨_, rfl⟩
    rw [hx] at hfc ⊢
    clear row hx hj
    go_enter Tryz.func111, Tryz.ntmps111
    go_upto_region 1 with fail
    rw [HW.out]
    clear HW
    go_wp2
    go_ret
    exact ⟨rfl, H0.out.fr⟩
  · have hj1 : (j : Int) ≥ (M : Int) := by omega
    have hr : fl.getD j 0 = 0 := by rw [List.getD_eq_getElem?_getD, List.getElem?_eq_none (by rw [HM.out]; omega)]; rfl
    rw [hr]
    clear hr hj
    go_enter Tryz.func111, Tryz.ntmps111
    go_upto_region 1 with fail
    rw [HW.out]
    clear HW
    go_wp2
    go_ret
    exact ⟨rfl, H0.out.fr⟩

set_option maxRecDepth 20000 in
set_option maxHeartbeats 800000 in
theorem grain_any (now : Int) (n : ByteArray) (s f : Value) (p : PolL) (fl : List Int) (j : Nat) (w : World) (hs : CellRow w s p.2.length (flat penc p.2)) (hf : CellRow w f fl.length (fl.map (Value.int .i64))) (hp : p.2.length ≤ 1000000) (hj : j < p.2.length) :
    Calls Tryz.prog 110 #[.agg #[.int .i64 now, .string n, s, f], .int .i64 j] w fun e w' => e = .returned (.int .i64 (rEvery p.2 j)) ∧ Below w.heap.size w w' := by
  have H0 := Hid.of (VH.made (now := now) (n := n) hs hf)
  obtain ⟨sa, sc, rfl, -⟩ := hs
  obtain ⟨N, hN⟩ : ∃ N, p.2.length = N := ⟨_, rfl⟩
  rw [hN] at H0 hp hj ⊢
  obtain ⟨w1, hw1⟩ : ∃ w1, w.alloc (.cells #[.int .i64 now, .string n, .slice sa N sc, f] 46) = w1 := ⟨_, rfl⟩
  rw [hw1] at H0
  have HW := Hid.of hw1
  have HN := Hid.of hN
  clear hN hw1
  have n9 : (N : Int) ≤ 1000000 := by omega
  have j0 : (0 : Int) ≤ (j : Int) := by omega
  have j1 : (j : Int) < (N : Int) := by omega
  have row := H0.out.hs
  rw [HN.out] at row
  obtain ⟨c0, c1, c2, c3⟩ := H0.out.at
  by_cases hx : j + 1 < N
  · have hx1 : (j : Int) + 1 < (N : Int) := by omega
    obtain ⟨m, hm⟩ : ∃ m, j + 1 = m := ⟨_, rfl⟩
    have hmin : min ((j : Int) + 1) ((N : Int) - 1) = (m : Int) := by omega
    have m0 : (0 : Int) ≤ (m : Int) := by omega
    have m1 : (m : Int) < (N : Int) := by omega
    obtain ⟨t, ht⟩ : ∃ t, p.2[j + 1]? = some t := ⟨_, List.getElem?_eq_getElem (by rw [HN.out]; omega)⟩
    obtain ⟨sb, so, rfl, sl, q0, q1, q2, q3⟩ := p_at row (j + 1) t ht
    have hev : rEvery p.2 j = t.2.1 := by unfold rEvery; rw [ht]
    rw [hev]
    obtain ⟨ev, he⟩ : ∃ ev, t.2.1 = ev := ⟨_, rfl⟩
    rw [he] at q1 ⊢
    rw [hm] at q1
    clear he hev ht row sl q0 q2 q3 hx hp hj hm hx1
    go_enter Tryz.func110, Tryz.ntmps110
    go_upto_region 1 with fail
    rw [HW.out]
    clear HW
    go_upto_region 2 with fail
    try rw [hmin]
    clear hmin
    go_wp2
    go_ret
    exact ⟨rfl, H0.out.fr⟩
  · have hx1 : (N : Int) - 1 < (j : Int) + 1 := by omega
    have hmin : min ((j : Int) + 1) ((N : Int) - 1) = (j : Int) := by omega
    obtain ⟨t, ht⟩ : ∃ t, p.2[j]? = some t := ⟨_, List.getElem?_eq_getElem (by rw [HN.out]; omega)⟩
    obtain ⟨sb, so, rfl, sl, q0, q1, q2, q3⟩ := p_at row j t ht
    have hev : rEvery p.2 j = t.2.1 := by unfold rEvery; rw [List.getElem?_eq_none (by rw [HN.out]; omega), ht]
    rw [hev]
    obtain ⟨ev, he⟩ : ∃ ev, t.2.1 = ev := ⟨_, rfl⟩
    rw [he] at q1 ⊢
    clear he hev ht row sl q0 q2 q3 hx hp hj hx1
    go_enter Tryz.func110, Tryz.ntmps110
    go_upto_region 1 with fail
    rw [HW.out]
    clear HW
    go_upto_region 2 with fail
    try rw [hmin]
    clear hmin
    go_wp2
    go_ret
    exact ⟨rfl, H0.out.fr⟩

end Go.Proofs.YtdchjcidfaencaaGreat

namespace Go.Proofs.YtdchjcidfaencaaGreat
open Go.RowKit Go.Lib

theorem rFrom_none {now : Int} {p : PolL} {fl : List Int} {i : Int} (h : i < 0 ∨ (p.2.length : Int) ≤ i) : rFrom (now, p, fl) i = 0 := by
  unfold rFrom
  split
  · rfl
  · unfold rFromN
    rw [List.getElem?_eq_none (show ((now, p, fl) : RchL).2.1.2.length ≤ i.toNat by show p.2.length ≤ _; omega)]

theorem rFrom_max {now : Int} {p : PolL} {fl : List Int} {j : Nat} {t : TierL} (h : p.2[j]? = some t) : rFromN (now, p, fl) j = max (gBack now t.2.2.1 (rEvery p.2 j)) (fl.getD j 0) := by
  rw [floors_max (List.getElem?_eq_some_iff.1 h).1]
  congr 1
  unfold rFromN
  rw [show ((now, p, []) : RchL).2.1.2[j]? = some t from h]
  rfl

theorem rEvery_in64 {p : PolL} {j : Nat} (h : PFit p) (hj : j < p.2.length) : In64 (rEvery p.2 j) := by
  unfold rEvery
  cases h1 : p.2[j + 1]? with
  | some t => exact (h.2.2 t (List.mem_of_getElem? h1)).2.1
  | none =>
    obtain ⟨t, ht⟩ : ∃ t, p.2[j]? = some t := ⟨_, List.getElem?_eq_getElem hj⟩
    rw [ht]
    exact (h.2.2 t (List.mem_of_getElem? ht)).2.1

set_option maxRecDepth 20000 in
set_option maxHeartbeats 3200000 in
theorem from_any (now : Int) (n : ByteArray) (s f : Value) (p : PolL) (fl : List Int) (i : Int) (w : World) (hs : CellRow w s p.2.length (flat penc p.2)) (hf : CellRow w f fl.length (fl.map (Value.int .i64))) (fit : RFit (now, p, fl)) :
    Calls Tryz.prog 84 #[.agg #[.int .i64 now, .string n, s, f], .int .i64 i] w fun e w' => e = .returned (.int .i64 (rFrom (now, p, fl) i)) ∧ Below w.heap.size w w' := by
  have H0 := Hid.of (VH.made (now := now) (n := n) hs hf)
  obtain ⟨sa, sc, rfl, -⟩ := hs
  obtain ⟨fa, fc, rfl, -⟩ := hf
  obtain ⟨N, hN⟩ : ∃ N, p.2.length = N := ⟨_, rfl⟩
  obtain ⟨M, hM⟩ : ∃ M, fl.length = M := ⟨_, rfl⟩
  rw [hN, hM] at H0 ⊢
  obtain ⟨w1, hw1⟩ : ∃ w1, w.alloc (.cells #[.int .i64 now, .string n, .slice sa N sc, .slice fa M fc] 46) = w1 := ⟨_, rfl⟩
  rw [hw1] at H0
  have HW := Hid.of hw1
  have HN := Hid.of hN
  have HM := Hid.of hM
  have FT := Hid.of fit
  have n9 : (N : Int) ≤ 1000000 := by have := fit.2.1.1; rw [hN] at this; omega
  clear hN hM hw1 fit
  obtain ⟨c0, c1, c2, c3⟩ := H0.out.at
  by_cases hi : i < 0 ∨ (N : Int) ≤ i
  · have hr : rFrom (now, p, fl) i = 0 := rFrom_none (by rw [HN.out]; exact hi)
    rw [hr]
    have HI := Hid.of hi
    clear hr hi
    go_enter Tryz.func84, Tryz.ntmps84
    go_upto_region 1 with fail
    rw [HW.out]
    clear HW
    go_wp2_with fail
    refine (has_no now n sa N sc _ i _ HI.out).mono ?_
    rintro e w2 ⟨rfl, b2⟩
    have H2 := Hid.of (H0.out.next b2)
    go_wp2
    go_ret
    exact ⟨rfl, H2.out.fr⟩
  · obtain ⟨j, rfl⟩ : ∃ j : Nat, i = j := ⟨i.toNat, by omega⟩
    have hj : j < N := by omega
    have HJ := Hid.of hj
    have j0 : (0 : Int) ≤ (j : Int) := by omega
    have j1 : (j : Int) < (N : Int) := by omega
    rw [rFrom_nat]
    obtain ⟨t, ht⟩ : ∃ t, p.2[j]? = some t := ⟨_, List.getElem?_eq_getElem (by rw [HN.out]; exact hj)⟩
    have RM := Hid.of (rFrom_max (now := now) (fl := fl) ht)
    have IT := Hid.of (in_tier FT.out.2.1 ht)
    have row := H0.out.hs
    rw [HN.out] at row
    obtain ⟨sb, so, rfl, sl, q0, q1, q2, q3⟩ := p_at row j t ht
    obtain ⟨tk, htk⟩ : ∃ tk, t.2.2.1 = tk := ⟨_, rfl⟩
    rw [htk] at q2 IT RM
    have EV := Hid.of (rEvery_in64 FT.out.2.1 (show j < p.2.length by rw [HN.out]; exact hj))
    obtain ⟨ev, hev⟩ : ∃ ev, rEvery p.2 j = ev := ⟨_, rfl⟩
    rw [hev] at EV RM
    have HEV := Hid.of hev
    obtain ⟨ba, hba⟩ : ∃ ba, gBack now tk ev = ba := ⟨_, rfl⟩
    rw [hba] at RM
    have HBA := Hid.of hba
    obtain ⟨fv, hfv⟩ : ∃ fv, fl.getD j 0 = fv := ⟨_, rfl⟩
    rw [hfv] at RM
    have HFV := Hid.of hfv
    have SL := Hid.of sl
    have Q2 : Hid (∀ w9, Below w1.heap.size w1 w9 → w9.cell? ⟨sb, so + j * 4 + 2, none⟩ = some (.int .i64 tk)) := Hid.of (fun w9 b9 => by rw [b9.cell SL.out]; exact q2)
    clear row ht htk hev hba hfv q0 q1 q2 q3 sl hi hj
    go_enter Tryz.func84, Tryz.ntmps84
    go_upto_region 1 with fail
    rw [HW.out]
    clear HW
    go_wp2_with fail
    refine (has_in now n _ N sc _ j _ HJ.out).mono ?_
    rintro e w2 ⟨rfl, b2⟩
    have H2 := Hid.of (H0.out.next b2)
    have B2 := Hid.of b2
    have q2 := Q2.out _ b2
    clear b2 c0 c1 c2 c3
    obtain ⟨c0, c1, c2, c3⟩ := H2.out.at
    go_upto_region 3 with fail
    refine wp_region_noPanic ?_
    refine wp_region_held_drew (S := fun w' => w'.cell? ⟨w.heap.size, 0, none⟩ = some (.int .i64 now) ∧ w'.cell? ⟨w.heap.size, 1, none⟩ = some (.string n) ∧ w'.cell? ⟨w.heap.size, 2, none⟩ = some (.slice (some ⟨sb, so, none⟩) N sc) ∧ w'.cell? ⟨w.heap.size, 3, none⟩ = some (.slice fa M fc) ∧ w'.cell? ⟨sb, so + j * 4 + 2, none⟩ = some (.int .i64 tk)) (by kernel_rfl) ?_ (fun hHeld => ?_)
    · exact ⟨c0, c1, c2, c3, q2⟩
    refine wpAnyH_take (i := 0) (oi := ⟨_, _, _, _, _, _⟩) (v := ?_) rfl (by kernel_rfl) (by kernel_rfl) (by kernel_rfl) (fun _ _ _ h => h) (Or.inl ⟨by rfl, ?_⟩) hHeld ?_
    rotate_left
    · intro w' hSw
      try dsimp only at hSw
      go_simp
      all_goals with_reducible rfl
    simp only [Act.put, List.setIfInBounds_toArray, List.set_cons_zero, List.set_cons_succ]
    refine wpAnyH_take (i := 1) (oi := ⟨_, _, _, _, _, _⟩) (v := ?_) rfl (by kernel_rfl) (by kernel_rfl) (by kernel_rfl) (fun _ _ _ h => h) (Or.inl ⟨by rfl, ?_⟩) hHeld ?_
    rotate_left
    · intro w' hSw
      try dsimp only at hSw
      go_simp
      all_goals with_reducible rfl
    simp only [Act.put, List.setIfInBounds_toArray, List.set_cons_zero, List.set_cons_succ]
    refine wpAnyH_take (i := 2) (oi := ⟨_, _, _, _, _, _⟩) (v := ?_) rfl (by kernel_rfl) (by kernel_rfl) (by kernel_rfl) (fun _ _ _ h => h) (Or.inl ⟨by rfl, ?_⟩) hHeld ?_
    rotate_left
    · intro w' hSw
      try dsimp only at hSw
      go_simp
      all_goals with_reducible rfl
    simp only [Act.put, List.setIfInBounds_toArray, List.set_cons_zero, List.set_cons_succ]
    refine wpAnyH_take (i := 3) (oi := ⟨_, _, _, _, _, _⟩) (v := ?_) rfl (by kernel_rfl) (by kernel_rfl) (by kernel_rfl) (fun _ _ _ h => h) (Or.inl ⟨by rfl, ?_⟩) hHeld ?_
    rotate_left
    · intro w' hSw
      try dsimp only at hSw
      go_simp
      all_goals with_reducible rfl
    simp only [Act.put, List.setIfInBounds_toArray, List.set_cons_zero, List.set_cons_succ]
    refine wpAnyH_take (i := 4) (oi := ⟨_, _, _, _, _, _⟩) (v := ?_) rfl (by kernel_rfl) (by kernel_rfl) (by kernel_rfl) (fun _ _ _ h => h) (Or.inl ⟨by rfl, ?_⟩) hHeld ?_
    rotate_left
    · intro w' hSw
      try dsimp only at hSw
      go_simp
      all_goals with_reducible rfl
    simp only [Act.put, List.setIfInBounds_toArray, List.set_cons_zero, List.set_cons_succ]
    refine wpAnyH_take (i := 5) (oi := ⟨_, _, _, _, _, _⟩) (v := ?_) rfl (by kernel_rfl) (by kernel_rfl) (by kernel_rfl) (fun _ _ _ h => h) (Or.inl ⟨by rfl, ?_⟩) hHeld ?_
    rotate_left
    · intro w' hSw
      try dsimp only at hSw
      go_simp
      all_goals with_reducible rfl
    simp only [Act.put, List.setIfInBounds_toArray, List.set_cons_zero, List.set_cons_succ]
    refine wpAnyH_take (i := 6) (oi := ⟨_, _, _, _, _, _⟩) (v := ?_) rfl (by kernel_rfl) (by kernel_rfl) (by kernel_rfl) (fun _ _ _ h => h) (Or.inl ⟨by rfl, ?_⟩) hHeld ?_
    rotate_left
    · intro w' hSw
      try dsimp only at hSw
      go_simp
      all_goals with_reducible rfl
    simp only [Act.put, List.setIfInBounds_toArray, List.set_cons_zero, List.set_cons_succ]
    refine wpAnyH_take (i := 7) (oi := ⟨_, _, _, _, _, _⟩) (v := ?_) rfl (by kernel_rfl) (by kernel_rfl) (by kernel_rfl) (fun _ _ _ h => h) (Or.inl ⟨by rfl, ?_⟩) hHeld ?_
    rotate_left
    · intro w' hSw
      try dsimp only at hSw
      go_simp
      all_goals with_reducible rfl
    simp only [Act.put, List.setIfInBounds_toArray, List.set_cons_zero, List.set_cons_succ]
    refine wpAnyH_take (i := 8) (oi := ⟨_, _, _, _, _, _⟩) (v := ?_) rfl (by kernel_rfl) (by kernel_rfl) (by kernel_rfl) (fun _ _ _ h => h) (Or.inl ⟨by rfl, ?_⟩) hHeld ?_
    rotate_left
    · intro w' hSw
      try dsimp only at hSw
      go_simp
      all_goals with_reducible rfl
    simp only [Act.put, List.setIfInBounds_toArray, List.set_cons_zero, List.set_cons_succ]
    refine wpAnyH_take (i := 9) (oi := ⟨_, _, _, _, _, _⟩) (v := ?_) rfl (by kernel_rfl) (by kernel_rfl) (by kernel_rfl) (fun _ _ _ h => h) (Or.inl ⟨by rfl, ?_⟩) hHeld ?_
    rotate_left
    · intro w' hSw
      try dsimp only at hSw
      go_simp
      all_goals with_reducible rfl
    simp only [Act.put, List.setIfInBounds_toArray, List.set_cons_zero, List.set_cons_succ]
    refine wpAnyH_take (i := 10) (oi := ⟨_, _, _, _, _, _⟩) (v := ?_) rfl (by kernel_rfl) (by kernel_rfl) (by kernel_rfl) (fun _ _ _ h => h) (Or.inl ⟨by rfl, ?_⟩) hHeld ?_
    rotate_left
    · intro w' hSw
      try dsimp only at hSw
      go_simp
      all_goals with_reducible rfl
    simp only [Act.put, List.setIfInBounds_toArray, List.set_cons_zero, List.set_cons_succ]
    refine wpAnyH_ready (rs := [11]) (by kernel_rfl) (by simp) ?_
    refine AllReadyH.cons (o := ⟨_, _, _, _, _, _⟩) rfl (fun K hK => ?_) AllReadyH.nil
    go_simp
    refine (grain_any now n _ _ p fl j _ (H2.out.next (Below.refl _ _).drew).hs (H2.out.next (Below.refl _ _).drew).hf FT.out.2.1.1 (by rw [HN.out]; exact HJ.out)).mono ?_
    rintro e w3 ⟨rfl, b3⟩
    rw [HEV.out]
    have c9 := (Below.refl _ _).drew.trans b3
    have H3 := Hid.of (H2.out.next c9)
    have B3 := Hid.of (B2.out.trans (c9.mono B2.out.size))
    have q2 := Q2.out _ B3.out
    clear b3 c9 c0 c1 c2 c3 hHeld
    obtain ⟨c0, c1, c2, c3⟩ := H3.out.at
    refine hK.out _ _ ⟨c0, c1, c2, c3, q2⟩ (fun hHeld => ?_)
    clear hK K
    try simp only [Act.put, List.setIfInBounds_toArray, List.set_cons_zero, List.set_cons_succ]
    refine wpAnyH_ready (rs := [12]) (by kernel_rfl) (by simp) ?_
    refine AllReadyH.cons (o := ⟨_, _, _, _, _, _⟩) rfl (fun K hK => ?_) AllReadyH.nil
    go_simp
    refine (Back_any now tk ev FT.out.1 IT.out.2 EV.out _).mono ?_
    rintro e w4 ⟨rfl, q, rfl⟩
    rw [HBA.out]
    have c9 := below_drewN (Below.refl w3.heap.size w3) q
    have H4 := Hid.of (H3.out.next c9)
    have q2 := Q2.out _ (B3.out.trans (c9.mono B3.out.size))
    generalize w3.drewN q = w4 at *
    clear c9 c0 c1 c2 c3 hHeld
    obtain ⟨c0, c1, c2, c3⟩ := H4.out.at
    refine hK.out _ _ ⟨c0, c1, c2, c3, q2⟩ (fun hHeld => ?_)
    clear hK K
    try simp only [Act.put, List.setIfInBounds_toArray, List.set_cons_zero, List.set_cons_succ]
    refine wpAnyH_take (i := 13) (oi := ⟨_, _, _, _, _, _⟩) (v := ?_) rfl (by kernel_rfl) (by kernel_rfl) (by kernel_rfl) (fun _ _ _ h => h) (Or.inl ⟨by rfl, ?_⟩) hHeld ?_
    rotate_left
    · intro w' hSw
      try dsimp only at hSw
      go_simp
      all_goals with_reducible rfl
    simp only [Act.put, List.setIfInBounds_toArray, List.set_cons_zero, List.set_cons_succ]
    refine wpAnyH_done (by kernel_rfl) ?_ _
    refine NoPanic.normal ?_
    go_wp2_with fail
    refine (floor_any now n _ _ p fl j _ H4.out.hs H4.out.hf).mono ?_
    rintro e w5 ⟨rfl, b5⟩
    rw [HFV.out]
    have H5 := Hid.of (H4.out.next b5)
    clear b5 c0 c1 c2 c3 q2
    go_wp2
    all_goals
      go_ret
      refine ⟨?_, H5.out.fr⟩
      rw [RM.out]
      refine congrArg (fun z => Ending.returned (Value.int .i64 z)) ?_
      omega

end Go.Proofs.YtdchjcidfaencaaGreat

namespace Go.Proofs.YtdchjcidfaencaaGreat
open Go.RowKit Go.Lib

set_option maxRecDepth 20000 in
set_option maxHeartbeats 3200000 in
theorem cover_any (now : Int) (n : ByteArray) (s f : Value) (p : PolL) (fl : List Int) (x : Int) (w : World) (hs : CellRow w s p.2.length (flat penc p.2)) (hf : CellRow w f fl.length (fl.map (Value.int .i64))) (fit : RFit (now, p, fl)) :
    Calls Tryz.prog 35 #[.agg #[.int .i64 now, .string n, s, f], .int .i64 x] w fun e w' => e = .returned (.int .i64 (rCover (now, p, fl) x)) ∧ Below w.heap.size w w' := by
  have H0 := Hid.of (VH.made (now := now) (n := n) hs hf)
  obtain ⟨sa, sc, rfl, -⟩ := hs
  obtain ⟨fa, fc, rfl, -⟩ := hf
  obtain ⟨N, hN⟩ : ∃ N, p.2.length = N := ⟨_, rfl⟩
  obtain ⟨M, hM⟩ : ∃ M, fl.length = M := ⟨_, rfl⟩
  rw [hN, hM] at H0 ⊢
  obtain ⟨w1, hw1⟩ : ∃ w1, w.alloc (.cells #[.int .i64 now, .string n, .slice sa N sc, .slice fa M fc] 46) = w1 := ⟨_, rfl⟩
  rw [hw1] at H0
  have HW := Hid.of hw1
  have HN := Hid.of hN
  have FT := Hid.of fit
  have n9 : (N : Int) ≤ 1000000 := by have := fit.2.1.1; rw [hN] at this; omega
  clear hN hM hw1 fit
  obtain ⟨c0, c1, c2, c3⟩ := H0.out.at
  go_enter Tryz.func35, Tryz.ntmps35
  go_upto_region 1 with fail
  rw [HW.out]
  clear HW
  go_wp2
  clear c0 c1 c2 c3
  go_loopw [5, 10] (fun _ iv wr => ∃ j : Nat, j ≤ N ∧ iv = .int .i64 j ∧ Hid (VH w w.heap.size now n (.slice sa N sc) (.slice fa M fc) p fl wr) ∧ Hid (rFind (now, p, fl) x 0 N = rFind (now, p, fl) x j (N - j))) (fun _ iv _ => N - (RowKit.intOf iv).toNat)
  case atStart => exact ⟨0, Nat.zero_le _, rfl, H0, Hid.of rfl⟩
  case round =>
    clear H0
    obtain ⟨j, hj, rfl, H, E⟩ := hrel
    obtain ⟨c0, c1, c2, c3⟩ := H.out.at
    have j0 : (0 : Int) ≤ (j : Int) := Int.natCast_nonneg _
    by_cases hlt : j < N
    · have hlt1 : (j : Int) < (N : Int) := by omega
      obtain ⟨a, ha⟩ : ∃ a, rFromN (now, p, fl) j = a := ⟨_, rfl⟩
      have HA := Hid.of ha
      clear ha hj
      have E2 : Hid (rFind (now, p, fl) x 0 N = if a ≤ x then some j else rFind (now, p, fl) x (j + 1) (N - (j + 1))) := Hid.of (by
        rw [E.out, show N - j = (N - (j + 1)) + 1 by omega, rFind, HA.out])
      go_wp2_with fail
      refine (from_any now n _ _ p fl j _ H.out.hs H.out.hf FT.out).mono ?_
      rintro e w2 ⟨rfl, b2⟩
      rw [rFrom_nat, HA.out]
      have H2 := Hid.of (H.out.next b2)
      clear b2 H
      by_cases hx : a ≤ x
      · have RES : Hid (rCover (now, p, fl) x = (j : Int)) := Hid.of (by
          unfold rCover
          rw [show ((now, p, fl) : RchL).2.1.2.length = N from HN.out, E2.out, if_pos hx])
        go_wp2
        go_ret
        rw [RES.out]
        exact ⟨rfl, H2.out.fr⟩
      · have E3 : Hid (rFind (now, p, fl) x 0 N = rFind (now, p, fl) x (j + 1) (N - (j + 1))) := Hid.of (by rw [E2.out, if_neg hx])
        go_wp2
        go_roundw
        case rel => exact ⟨j + 1, by omega, by go_num, H2, E3⟩
        case measure => simp [RowKit.intOf]; omega
    · obtain rfl : N = j := by omega
      have RES : Hid (rCover (now, p, fl) x = (N : Int) - 1) := Hid.of (by
        unfold rCover
        rw [show ((now, p, fl) : RchL).2.1.2.length = N from HN.out, E.out, Nat.sub_self, rFind])
      clear hj hlt
      go_wp2
      go_ret
      rw [RES.out]
      exact ⟨rfl, H.out.fr⟩

set_option maxRecDepth 20000 in
set_option maxHeartbeats 3200000 in
theorem start_any (now : Int) (n : ByteArray) (s f : Value) (p : PolL) (fl : List Int) (i t : Int) (w : World) (hs : CellRow w s p.2.length (flat penc p.2)) (hf : CellRow w f fl.length (fl.map (Value.int .i64))) (fit : RFit (now, p, fl)) (ht : In64 t) :
    Calls Tryz.prog 73 #[.agg #[.int .i64 now, .string n, s, f], .int .i64 i, .int .i64 t] w fun e w' => e = .returned (.tuple #[.int .i64 (rStart (now, p, fl) i t).1, .bool (rStart (now, p, fl) i t).2]) ∧ Below w.heap.size w w' := by
  have H0 := Hid.of (VH.made (now := now) (n := n) hs hf)
  obtain ⟨sa, sc, rfl, -⟩ := hs
  obtain ⟨fa, fc, rfl, -⟩ := hf
  obtain ⟨N, hN⟩ : ∃ N, p.2.length = N := ⟨_, rfl⟩
  obtain ⟨M, hM⟩ : ∃ M, fl.length = M := ⟨_, rfl⟩
  rw [hN, hM] at H0 ⊢
  obtain ⟨w1, hw1⟩ : ∃ w1, w.alloc (.cells #[.int .i64 now, .string n, .slice sa N sc, .slice fa M fc] 46) = w1 := ⟨_, rfl⟩
  rw [hw1] at H0
  have HW := Hid.of hw1
  have HN := Hid.of hN
  have FT := Hid.of fit
  have HT := Hid.of ht
  have n9 : (N : Int) ≤ 1000000 := by have := fit.2.1.1; rw [hN] at this; omega
  clear hN hM hw1 fit ht
  obtain ⟨c0, c1, c2, c3⟩ := H0.out.at
  by_cases hi : i < 0 ∨ (N : Int) ≤ i
  · have hr : rStart (now, p, fl) i t = (0, false) := by
      unfold rStart
      split
      · rfl
      · rw [List.getElem?_eq_none (show ((now, p, fl) : RchL).2.1.2.length ≤ i.toNat by show p.2.length ≤ _; rw [HN.out]; omega)]
    rw [hr]
    have HI := Hid.of hi
    clear hr hi
    go_enter Tryz.func73, Tryz.ntmps73
    go_upto_region 1 with fail
    rw [HW.out]
    clear HW
    go_wp2_with fail
    refine (has_no now n sa N sc _ i _ HI.out).mono ?_
    rintro e w2 ⟨rfl, b2⟩
    have H2 := Hid.of (H0.out.next b2)
    go_wp2
    go_ret2
    exact ⟨rfl, H2.out.fr⟩
  · obtain ⟨j, rfl⟩ : ∃ j : Nat, i = j := ⟨i.toNat, by omega⟩
    have hj : j < N := by omega
    have HJ := Hid.of hj
    have j0 : (0 : Int) ≤ (j : Int) := by omega
    have j1 : (j : Int) < (N : Int) := by omega
    obtain ⟨y, hy⟩ : ∃ y, p.2[j]? = some y := ⟨_, List.getElem?_eq_getElem (by rw [HN.out]; exact hj)⟩
    have IT := Hid.of (in_tier FT.out.2.1 hy)
    have row := H0.out.hs
    rw [HN.out] at row
    obtain ⟨sb, so, rfl, sl, q0, q1, q2, q3⟩ := p_at row j y hy
    obtain ⟨ye, hye⟩ : ∃ ye, y.2.1 = ye := ⟨_, rfl⟩
    rw [hye] at q1 IT
    have SL := Hid.of sl
    have Q1 : Hid (∀ w9, Below w1.heap.size w1 w9 → w9.cell? ⟨sb, so + j * 4 + 1, none⟩ = some (.int .i64 ye)) := Hid.of (fun w9 b9 => by rw [b9.cell SL.out]; exact q1)
    by_cases htn : t < 0
    · have hr : rStart (now, p, fl) (j : Int) t = (0, false) := by
        unfold rStart
        exact if_pos (Or.inr htn)
      rw [hr]
      clear hr row sl q0 q1 q2 q3 hy hye hi hj
      go_enter Tryz.func73, Tryz.ntmps73
      go_upto_region 1 with fail
      rw [HW.out]
      clear HW
      go_wp2_with fail
      refine (has_in now n _ N sc _ j _ HJ.out).mono ?_
      rintro e w2 ⟨rfl, b2⟩
      have H2 := Hid.of (H0.out.next b2)
      go_wp2
      go_ret2
      exact ⟨rfl, H2.out.fr⟩
    · obtain ⟨a, ha⟩ : ∃ a, rFromN (now, p, fl) j = a := ⟨_, rfl⟩
      obtain ⟨fv, hfv⟩ : ∃ fv, gFloor t ye = fv := ⟨_, rfl⟩
      have hr : rStart (now, p, fl) (j : Int) t = (fv, decide (a ≤ fv)) := by
        unfold rStart
        rw [if_neg (by omega)]
        have e : ((now, p, fl) : RchL).2.1.2[(j : Int).toNat]? = some y := hy
        rw [e]
        show (gFloor t y.2.1, decide (rFromN (now, p, fl) j ≤ gFloor t y.2.1)) = _
        rw [hye, ha, hfv]
      rw [hr]
      have HF := Hid.of hfv
      have HA := Hid.of ha
      clear hr hfv ha hy row sl q0 q1 q2 q3 hye hi hj
      go_enter Tryz.func73, Tryz.ntmps73
      go_upto_region 1 with fail
      rw [HW.out]
      clear HW
      go_wp2_with fail
      refine (has_in now n _ N sc _ j _ HJ.out).mono ?_
      rintro e w2 ⟨rfl, b2⟩
      have H2 := Hid.of (H0.out.next b2)
      have q1 := Q1.out _ b2
      clear b2 H0 c0 c1 c2 c3
      obtain ⟨c0, c1, c2, c3⟩ := H2.out.at
      go_wp2_with fail
      refine (Floor_any t ye HT.out IT.out.1 _).mono ?_
      rintro e w3 ⟨rfl, q, rfl⟩
      rw [HF.out]
      have H3 := Hid.of (H2.out.next (below_drewN (Below.refl _ _) q))
      clear H2 c0 c1 c2 c3 q1
      obtain ⟨c0, c1, c2, c3⟩ := H3.out.at
      go_wp2_with fail
      refine (from_any now n _ _ p fl j _ H3.out.hs H3.out.hf FT.out).mono ?_
      rintro e w4 ⟨rfl, b4⟩
      rw [rFrom_nat, HA.out]
      go_wp2
      go_ret2
      exact ⟨rfl, H3.out.fr.trans (b4.mono H3.out.fr.size)⟩

section
variable {w0 w w' : World} {b c : Nat} {n sn : ByteArray} {now t x : Int} {s f : Value} {p : PolL} {fl : List Int}
end

end Go.Proofs.YtdchjcidfaencaaGreat

namespace Go.Proofs.YtdchjcidfaencaaGreat
open Go.RowKit Go.Lib

theorem cloneInts_any (v : Value) (xs : List Int) (w : World) (hv : CellRow w v xs.length (xs.map (Value.int .i64))) (hn : xs.length ≤ 1000000) :
    Calls Tryz.prog 24 #[v] w fun e w' => ∃ u, e = .returned u ∧ w'.ownsRow w.heap.size 3 1 u xs.length (xs.map (Value.int .i64)) ∧ Below w.heap.size w w' := by
  obtain ⟨a, c, rfl, h⟩ := hv
  cases xs with
  | nil =>
    cases a with
    | none =>
      refine (Tryz.slices_Clone_int_nil 0 c w).mono ?_
      rintro e w' ⟨rfl, rfl⟩
      exact ⟨_, rfl, World.ownsRow_nil _ _ _ 1, Below.refl _ _⟩
    | some b =>
      refine (Tryz.slices_Clone_int_zero b c w).mono ?_
      rintro e w' ⟨u, rfl, ho, -, hb⟩
      exact ⟨_, rfl, ho, hb⟩
  | cons x xs =>
    rcases h with h | ⟨b, o, rfl, hl, hc⟩
    · cases h
    · refine (Tryz.slices_Clone_int b o (x :: xs).length c (x :: xs) w (Nat.le_refl _) (by omega) (fun j hj => ?_)).mono ?_
      · rw [hc j (.int .i64 (x :: xs)[j]) (by rw [List.getElem?_map, List.getElem?_eq_getElem hj]; rfl)]
        rw [List.getD_eq_getElem?_getD, List.getElem?_eq_getElem hj]
        rfl
      · rintro e w' ⟨u, rfl, ho, -, hb⟩
        rw [List.take_length] at ho
        exact ⟨_, rfl, ho, hb⟩

/-- A row beside the block that was written. -/
theorem own_kept {w w' : World} {b : Nat} {e : TypeId} {k : Nat} {v : Value} {n : Nat} {xs : List Value} (h : w.ownsRow (b + 1) e k v n xs) (g : w.grownBy w' (some b)) : w'.ownsRow (b + 1) e k v n xs := by
  refine ⟨h.1, ?_⟩
  rcases h.2 with h0 | ⟨g', cap, cur, e, hB', hrow, rest⟩
  · exact .inl h0
  · refine .inr ⟨g', cap, cur, e, hB', ?_, rest⟩
    rw [g.block g' (Array.getElem?_eq_some_iff.1 hrow).1 (fun c => by have := Option.some.inj c; omega)]
    exact hrow

set_option maxRecDepth 20000 in
set_option maxHeartbeats 3200000 in
theorem of_any (v f : Value) (p : PolL) (now : Int) (fl : List Int) (w : World) (fit : RFit (now, p, fl)) (hv : PolRow w v p) (hf : CellRow w f fl.length (fl.map (Value.int .i64))) :
    Calls Tryz.prog 7 #[v, .int .i64 now, f] w fun e w' => ∃ u, e = .returned u ∧ OwnRch w.heap.size w' u (now, p, fl) ∧ Below w.heap.size w w' := by
  have hv0 := hv
  have HF := Hid.of hf
  have HV := Hid.of hv0
  obtain ⟨s, rfl, hs, -⟩ := hv
  obtain ⟨sa, sc, rfl, -⟩ := hs
  obtain ⟨n, hn⟩ : ∃ n, p.1 = n := ⟨_, rfl⟩
  obtain ⟨N, hN⟩ : ∃ N, p.2.length = N := ⟨_, rfl⟩
  rw [hn, hN]
  rw [hn, hN] at HV
  have FT := Hid.of fit
  have HN := Hid.of hN
  have Hn := Hid.of hn
  obtain ⟨w1, hw1⟩ : ∃ w1, (w.alloc (.cells #[.string n, .slice sa N sc] 24)).alloc (.cells #[.int .i64 0, .string ⟨#[]⟩, .slice none 0 0, .slice none 0 0] 46) = w1 := ⟨_, rfl⟩
  have b1 : Below w.heap.size w w1 := by rw [← hw1]; exact ((Below.refl _ _).alloc (Nat.le_refl _) _).alloc (by simp) _
  have k1 : PBlk w1 w.heap.size n (.slice sa N sc) := by rw [← hw1]; exact (PBlk.made w _ _).kept ((Below.refl _ _).alloc (Nat.le_refl _) _)
  have K2 : Hid (KBlk w1 (w.heap.size + 1) 0 ⟨#[]⟩ (.slice none 0 0) (.slice none 0 0)) := Hid.of (by rw [← hw1]; have := Go.heap_alloc_new (w.alloc (.cells #[.string n, .slice sa N sc] 24)) (.cells #[.int .i64 0, .string ⟨#[]⟩, .slice none 0 0, .slice none 0 0] 46 (0, 0)); rw [show (w.alloc (.cells #[.string n, .slice sa N sc] 24)).heap.size = w.heap.size + 1 by simp] at this; exact this)
  have B1 := Hid.of b1
  have HW := Hid.of hw1
  obtain ⟨c0, c1⟩ := k1.at
  clear hN hn hw1 b1 fit hv0 hf k1
  go_enter Tryz.func7, Tryz.ntmps7
  go_upto_region 1 with fail
  rw [HW.out]
  clear HW
  go_wp2_with fail
  refine (copy_any _ p _ FT.out.2.1 (HV.out.kept B1.out)).mono ?_
  rintro e w2 ⟨u, rfl, ou, b2⟩
  obtain ⟨s2, rfl, o2⟩ := ou
  rw [Hn.out]
  obtain ⟨sa2, sc2, rfl, -⟩ := own_one o2
  rw [HN.out] at o2 ⊢
  unfold polVal
  have O2 := Hid.of (own_mono o2 (D := w.heap.size + 2) (by have := (Array.getElem?_eq_some_iff.1 K2.out).1; omega))
  have K3 := Hid.of (kblk_next K2.out b2)
  have B2 := Hid.of (B1.out.trans (b2.mono B1.out.size))
  clear o2 b2 K2 c0 c1
  go_wp2_with fail
  refine (cloneInts_any _ fl _ (HF.out.kept B2.out) FT.out.2.2.1).mono ?_
  rintro e w3 ⟨v3, rfl, o3, b3⟩
  obtain ⟨fa3, fc3, rfl, -⟩ := own_one o3
  have O3 := Hid.of (own_mono o3 (D := w.heap.size + 2) (by have := (Array.getElem?_eq_some_iff.1 K3.out).1; omega))
  have AP : Hid (Apart (.slice sa2 N sc2) (.slice fa3 fl.length fc3)) := Hid.of (fun g h1 h2 => by have := (O2.out.lt g h1).2; have := own_ge o3 h2; omega)
  have O4 := Hid.of ((Step.of_below (F := fun _ => False) b3).own O2.out (fun _ _ c => c))
  have K4 := Hid.of (kblk_next K3.out b3)
  have B3 := Hid.of (B2.out.trans (b3.mono B2.out.size))
  clear o3 b3 O2 K3
  obtain ⟨q0, q1, q2, q3⟩ := kblk_at K4.out
  have y0 := row_frozen (i := 0) K4.out
  have y1 := row_frozen (i := 1) K4.out
  have y2 := row_frozen (i := 2) K4.out
  have y3 := row_frozen (i := 3) K4.out
  have K5 := kblk_set (now' := now) (n' := n) (s' := .slice sa2 N sc2) (f' := .slice fa3 fl.length fc3) K4.out
  have g5 := setR_grown w3 (w.heap.size + 1) now n (.slice sa2 N sc2) (.slice fa3 fl.length fc3)
  obtain ⟨r0, r1, r2, r3⟩ := kblk_at K5
  have Q1 : Hid (OwnRch w.heap.size (setR w3 (w.heap.size + 1) now n (.slice sa2 N sc2) (.slice fa3 fl.length fc3)) (.agg #[.int .i64 now, .string n, .slice sa2 N sc2, .slice fa3 fl.length fc3]) (now, p, fl)) := Hid.of
    ⟨_, _, by unfold rVal; rw [Hn.out], by
      show World.ownsRow _ _ _ _ _ p.2.length _
      rw [HN.out]
      exact own_mono (own_kept O4.out g5) (by omega), own_mono (own_kept O3.out g5) (by omega), AP.out⟩
  have Q2 : Hid (Below w.heap.size w (setR w3 (w.heap.size + 1) now n (.slice sa2 N sc2) (.slice fa3 fl.length fc3))) := Hid.of (B3.out.grown g5 B3.out.size (fun k hk => by cases hk; omega))
  clear K5 g5
  unfold setR at r0 r1 r2 r3
  unfold setR at Q1 Q2
  go_wp2
  refine bodyPost_ret (v := .agg #[.int .i64 now, .string n, .slice sa2 N sc2, .slice fa3 fl.length fc3]) ?_ rfl ⟨_, rfl, Q1.out, Q2.out⟩
  simp [results, Tryz.results7, go_sem, r0, r1, r2, r3]

end Go.Proofs.YtdchjcidfaencaaGreat

namespace Go.Proofs.YtdchjcidfaencaaGreat
open Go.RowKit Go.Lib

/-- What the landed package answers is what chapter 9 says. -/
def reaches : ReachSpec where
  Ok := fun _ => True
  kept := fun _ _ => trivial
  of := fun v f p now fl w _ fit hv hf _ => of_any v f p now fl w fit hv hf
  from_ := fun v r i w _ fit _ hr => by
    obtain ⟨now, p, fl⟩ := r
    obtain ⟨s, f, rfl, hs, hf, -⟩ := hr
    exact from_any now p.1 s f p fl i w hs hf fit
  start := fun v r i t w _ fit _ ht hr => by
    obtain ⟨now, p, fl⟩ := r
    obtain ⟨s, f, rfl, hs, hf, -⟩ := hr
    exact start_any now p.1 s f p fl i t w hs hf fit ht
  cover := fun v r x w _ fit _ hr => by
    obtain ⟨now, p, fl⟩ := r
    obtain ⟨s, f, rfl, hs, hf, -⟩ := hr
    exact cover_any now p.1 s f p fl x w hs hf fit

end Go.Proofs.YtdchjcidfaencaaGreat
