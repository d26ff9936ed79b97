/-
  A bundle of texts: RSA RSB RSC RSE RSF QRW QEA QEB QED QEF.
-/
import Derived.Deep.DeepCutAuto
import Derived.Deep.RegionHeld3
import Derived.BigQuiet
import Derived.Test.YtbhcafginmkaaaaGreatN36
import Derived.Test.YtbhcafginmkaaaaGreatN11
import Derived.Test.YtbhcafginmkaaaaGreatN06
import Derived.Test.YtbhcafginmkaaaaGreatN15
import Derived.Test.YtbhcafginmkaaaaGreatN16
import Derived.Test.YtbhcafginmkaaaaGreatN35
import Derived.Test.YtbhcafginmkaaaaGreatN05
import Derived.Test.YtbhcafginmkaaaaGreatN21
import Derived.Test.YtbhcafginmkaaaaGreatN10
import Derived.Test.YtbhcafginmkaaaaGreatN22
import Derived.Test.YtbhcafginmkaaaaGreatN13
namespace Go.Proofs.YtbhcafginmkaaaaGreat
open Go.RowKit Go.Lib

/-- A variable that holds a Reach. -/
structure VH (w0 : World) (b : Nat) (now : Int) (n : ByteArray) (s f : Value) (p : PolL) (fl : List Int) (w : World) : Prop where
  k : w.heap[b]? = some (.cells #[.int .i64 now, .string n, s, f] 47 (0, 0))
  hs : CellRow w s p.2.length (flat penc p.2)
  hf : CellRow w f fl.length (fl.map (Value.int .i64))
  fr : Below w0.heap.size w0 w

section
variable {w0 w w' : World} {b : Nat} {n : ByteArray} {now : Int} {s f : Value} {p : PolL} {fl : List Int}
theorem VH.next (h : VH w0 b now n s f p fl w) (c : Below w.heap.size w w') : VH w0 b now n s f p fl w' :=
  ⟨by rw [c.block b (Array.getElem?_eq_some_iff.1 h.k).1]; exact h.k, h.hs.kept c, h.hf.kept c, h.fr.trans (c.mono h.fr.size)⟩
theorem VH.at (h : VH w0 b now n s f p fl w) : w.cell? ⟨b, 0, none⟩ = some (.int .i64 now) ∧ w.cell? ⟨b, 1, none⟩ = some (.string n) ∧ w.cell? ⟨b, 2, none⟩ = some s ∧ w.cell? ⟨b, 3, none⟩ = some f := by
  refine ⟨?_, ?_, ?_, ?_⟩ <;> (rw [cell_of_row w b _ _ _ _ h.k]; rfl)
theorem VH.made (hs : CellRow w s p.2.length (flat penc p.2)) (hf : CellRow w f fl.length (fl.map (Value.int .i64))) : VH w w.heap.size now n s f p fl (w.alloc (.cells #[.int .i64 now, .string n, s, f] 47)) := by
  have b : Below w.heap.size w (w.alloc (.cells #[.int .i64 now, .string n, s, f] 47)) := (Below.refl _ _).alloc (Nat.le_refl _) _
  exact ⟨Go.heap_alloc_new _ _, hs.kept b, hf.kept b, b⟩
end

set_option maxRecDepth 20000 in
theorem has_no (now : Int) (n : ByteArray) (sa : Option Addr) (N sc : Nat) (f : Value) (i : Int) (w : World) (h : i < 0 ∨ (N : Int) ≤ i) :
    Calls Tryz.prog 201 #[.agg #[.int .i64 now, .string n, .slice sa N sc, f], .int .i64 i] w fun e w' => e = .returned (.bool false) ∧ Below w.heap.size w w' := by
  have k : (i < 0) ∨ (¬ i < 0 ∧ ¬ i < (N : Int)) := by omega
  clear h
  rcases k with h1 | ⟨h1, h2⟩
  all_goals
    go_enter Tryz.func201, Tryz.ntmps201
    go_wp2
    go_ret
    exact ⟨rfl, (Below.refl _ _).alloc (Nat.le_refl _) _⟩

set_option maxRecDepth 20000 in
theorem has_in (now : Int) (n : ByteArray) (sa : Option Addr) (N sc : Nat) (f : Value) (j : Nat) (w : World) (h : j < N) :
    Calls Tryz.prog 201 #[.agg #[.int .i64 now, .string n, .slice sa N sc, f], .int .i64 j] w fun e w' => e = .returned (.bool true) ∧ Below w.heap.size w w' := by
  have h1 : ¬ (j : Int) < 0 := by omega
  have h2 : (j : Int) < (N : Int) := by omega
  clear h
  go_enter Tryz.func201, Tryz.ntmps201
  go_wp2
  go_ret
  exact ⟨rfl, (Below.refl _ _).alloc (Nat.le_refl _) _⟩

set_option maxRecDepth 20000 in
set_option maxHeartbeats 800000 in
theorem floor_any (now : Int) (n : ByteArray) (s f : Value) (p : PolL) (fl : List Int) (j : Nat) (w : World) (hs : CellRow w s p.2.length (flat penc p.2)) (hf : CellRow w f fl.length (fl.map (Value.int .i64))) :
    Calls Tryz.prog 204 #[.agg #[.int .i64 now, .string n, s, f], .int .i64 j] w fun e w' => e = .returned (.int .i64 (fl.getD j 0)) ∧ Below w.heap.size w w' := by
  have H0 := Hid.of (VH.made (now := now) (n := n) hs hf)
  obtain ⟨fa, fc, rfl, -⟩ := hf
  obtain ⟨M, hM⟩ : ∃ M, fl.length = M := ⟨_, rfl⟩
  rw [hM] at H0 ⊢
  obtain ⟨w1, hw1⟩ : ∃ w1, w.alloc (.cells #[.int .i64 now, .string n, s, .slice fa M fc] 47) = w1 := ⟨_, rfl⟩
  rw [hw1] at H0
  have HW := Hid.of hw1
  have HM := Hid.of hM
  clear hM hw1 hs
  obtain ⟨c0, c1, c2, c3⟩ := H0.out.at
  by_cases hj : j < M
  · have hj1 : ¬ (j : Int) ≥ (M : Int) := by omega
    have hj2 : (j : Int) < (M : Int) := by omega
    have j0 : (0 : Int) ≤ (j : Int) := by omega
    have row := H0.out.hf
    rw [HM.out] at row
    obtain ⟨fb, fo, rfl, -, hfc⟩ := int_at row j (by rw [HM.out]; exact hj) HM.out.symm
    obtain ⟨x, hx⟩ : ∃ x, fl.getD j 0 = x := ⟨_, rfl⟩
    rw [hx] at hfc ⊢
    clear row hx hj
    go_enter Tryz.func204, Tryz.ntmps204
    go_upto_region 1 with fail
    rw [HW.out]
    clear HW
    go_wp2
    go_ret
    exact ⟨rfl, H0.out.fr⟩
  · have hj1 : (j : Int) ≥ (M : Int) := by omega
    have hr : fl.getD j 0 = 0 := by rw [List.getD_eq_getElem?_getD, List.getElem?_eq_none (by rw [HM.out]; omega)]; rfl
    rw [hr]
    clear hr hj
    go_enter Tryz.func204, Tryz.ntmps204
    go_upto_region 1 with fail
    rw [HW.out]
    clear HW
    go_wp2
    go_ret
    exact ⟨rfl, H0.out.fr⟩

set_option maxRecDepth 20000 in
set_option maxHeartbeats 800000 in
theorem grain_any (now : Int) (n : ByteArray) (s f : Value) (p : PolL) (fl : List Int) (j : Nat) (w : World) (hs : CellRow w s p.2.length (flat penc p.2)) (hf : CellRow w f fl.length (fl.map (Value.int .i64))) (hp : p.2.length ≤ 1000000) (hj : j < p.2.length) :
    Calls Tryz.prog 203 #[.agg #[.int .i64 now, .string n, s, f], .int .i64 j] w fun e w' => e = .returned (.int .i64 (rEvery p.2 j)) ∧ Below w.heap.size w w' := by
  have H0 := Hid.of (VH.made (now := now) (n := n) hs hf)
  obtain ⟨sa, sc, rfl, -⟩ := hs
  obtain ⟨N, hN⟩ : ∃ N, p.2.length = N := ⟨_, rfl⟩
  rw [hN] at H0 hp hj ⊢
  obtain ⟨w1, hw1⟩ : ∃ w1, w.alloc (.cells #[.int .i64 now, .string n, .slice sa N sc, f] 47) = w1 := ⟨_, rfl⟩
  rw [hw1] at H0
  have HW := Hid.of hw1
  have HN := Hid.of hN
  clear hN hw1
  have n9 : (N : Int) ≤ 1000000 := by omega
  have j0 : (0 : Int) ≤ (j : Int) := by omega
  have j1 : (j : Int) < (N : Int) := by omega
  have row := H0.out.hs
  rw [HN.out] at row
  obtain ⟨c0, c1, c2, c3⟩ := H0.out.at
  by_cases hx : j + 1 < N
  · have hx1 : (j : Int) + 1 < (N : Int) := by omega
    obtain ⟨m, hm⟩ : ∃ m, j + 1 = m := ⟨_, rfl⟩
    have hmin : min ((j : Int) + 1) ((N : Int) - 1) = (m : Int) := by omega
    have m0 : (0 : Int) ≤ (m : Int) := by omega
    have m1 : (m : Int) < (N : Int) := by omega
    obtain ⟨t, ht⟩ : ∃ t, p.2[j + 1]? = some t := ⟨_, List.getElem?_eq_getElem (by rw [HN.out]; omega)⟩
    obtain ⟨sb, so, rfl, sl, q0, q1, q2, q3⟩ := p_at row (j + 1) t ht
    have hev : rEvery p.2 j = t.2.1 := by unfold rEvery; rw [ht]
    rw [hev]
    obtain ⟨ev, he⟩ : ∃ ev, t.2.1 = ev := ⟨_, rfl⟩
    rw [he] at q1 ⊢
    rw [hm] at q1
    clear he hev ht row sl q0 q2 q3 hx hp hj hm hx1
    go_enter Tryz.func203, Tryz.ntmps203
    go_upto_region 1 with fail
    rw [HW.out]
    clear HW
    go_upto_region 2 with fail
    try rw [hmin]
    clear hmin
    go_wp2
    go_ret
    exact ⟨rfl, H0.out.fr⟩
  · have hx1 : (N : Int) - 1 < (j : Int) + 1 := by omega
    have hmin : min ((j : Int) + 1) ((N : Int) - 1) = (j : Int) := by omega
    obtain ⟨t, ht⟩ : ∃ t, p.2[j]? = some t := ⟨_, List.getElem?_eq_getElem (by rw [HN.out]; omega)⟩
    obtain ⟨sb, so, rfl, sl, q0, q1, q2, q3⟩ := p_at row j t ht
    have hev : rEvery p.2 j = t.2.1 := by unfold rEvery; rw [List.getElem?_eq_none (by rw [HN.out]; omega), ht]
    rw [hev]
    obtain ⟨ev, he⟩ : ∃ ev, t.2.1 = ev := ⟨_, rfl⟩
    rw [he] at q1 ⊢
    clear he hev ht row sl q0 q2 q3 hx hp hj hx1
    go_enter Tryz.func203, Tryz.ntmps203
    go_upto_region 1 with fail
    rw [HW.out]
    clear HW
    go_upto_region 2 with fail
    try rw [hmin]
    clear hmin
    go_wp2
    go_ret
    exact ⟨rfl, H0.out.fr⟩

end Go.Proofs.YtbhcafginmkaaaaGreat

namespace Go.Proofs.YtbhcafginmkaaaaGreat
open Go.RowKit Go.Lib

theorem rFrom_none {now : Int} {p : PolL} {fl : List Int} {i : Int} (h : i < 0 ∨ (p.2.length : Int) ≤ i) : rFrom (now, p, fl) i = 0 := by
  unfold rFrom
  split
  · rfl
  · unfold rFromN
    rw [List.getElem?_eq_none (show ((now, p, fl) : RchL).2.1.2.length ≤ i.toNat by show p.2.length ≤ _; omega)]

theorem rFrom_max {now : Int} {p : PolL} {fl : List Int} {j : Nat} {t : TierL} (h : p.2[j]? = some t) : rFromN (now, p, fl) j = max (gBack now t.2.2.1 (rEvery p.2 j)) (fl.getD j 0) := by
  rw [floors_max (List.getElem?_eq_some_iff.1 h).1]
  congr 1
  unfold rFromN
  rw [show ((now, p, []) : RchL).2.1.2[j]? = some t from h]
  rfl

theorem rEvery_in64 {p : PolL} {j : Nat} (h : PFit p) (hj : j < p.2.length) : In64 (rEvery p.2 j) := by
  unfold rEvery
  cases h1 : p.2[j + 1]? with
  | some t => exact (h.2.2 t (List.mem_of_getElem? h1)).2.1
  | none =>
    obtain ⟨t, ht⟩ : ∃ t, p.2[j]? = some t := ⟨_, List.getElem?_eq_getElem hj⟩
    rw [ht]
    exact (h.2.2 t (List.mem_of_getElem? ht)).2.1

set_option maxRecDepth 20000 in
set_option maxHeartbeats 3200000 in
theorem from_any (now : Int) (n : ByteArray) (s f : Value) (p : PolL) (fl : List Int) (i : Int) (w : World) (hs : CellRow w s p.2.length (flat penc p.2)) (hf : CellRow w f fl.length (fl.map (Value.int .i64))) (fit : RFit (now, p, fl)) :
    Calls Tryz.prog 95 #[.agg #[.int .i64 now, .string n, s, f], .int .i64 i] w fun e w' => e = .returned (.int .i64 (rFrom (now, p, fl) i)) ∧ Below w.heap.size w w' := by
  have H0 := Hid.of (VH.made (now := now) (n := n) hs hf)
  obtain ⟨sa, sc, rfl, -⟩ := hs
  obtain ⟨fa, fc, rfl, -⟩ := hf
  obtain ⟨N, hN⟩ : ∃ N, p.2.length = N := ⟨_, rfl⟩
  obtain ⟨M, hM⟩ : ∃ M, fl.length = M := ⟨_, rfl⟩
  rw [hN, hM] at H0 ⊢
  obtain ⟨w1, hw1⟩ : ∃ w1, w.alloc (.cells #[.int .i64 now, .string n, .slice sa N sc, .slice fa M fc] 47) = w1 := ⟨_, rfl⟩
  rw [hw1] at H0
  have HW := Hid.of hw1
  have HN := Hid.of hN
  have HM := Hid.of hM
  have FT := Hid.of fit
  have n9 : (N : Int) ≤ 1000000 := by have := fit.2.1.1; rw [hN] at this; omega
  clear hN hM hw1 fit
  obtain ⟨c0, c1, c2, c3⟩ := H0.out.at
  by_cases hi : i < 0 ∨ (N : Int) ≤ i
  · have hr : rFrom (now, p, fl) i = 0 := rFrom_none (by rw [HN.out]; exact hi)
    rw [hr]
    have HI := Hid.of hi
    clear hr hi
    go_enter Tryz.func95, Tryz.ntmps95
    go_upto_region 1 with fail
    rw [HW.out]
    clear HW
    go_wp2_with fail
    refine (has_no now n sa N sc _ i _ HI.out).mono ?_
    rintro e w2 ⟨rfl, b2⟩
    have H2 := Hid.of (H0.out.next b2)
    go_wp2
    go_ret
    exact ⟨rfl, H2.out.fr⟩
  · obtain ⟨j, rfl⟩ : ∃ j : Nat, i = j := ⟨i.toNat, by omega⟩
    have hj : j < N := by omega
    have HJ := Hid.of hj
    have j0 : (0 : Int) ≤ (j : Int) := by omega
    have j1 : (j : Int) < (N : Int) := by omega
    rw [rFrom_nat]
    obtain ⟨t, ht⟩ : ∃ t, p.2[j]? = some t := ⟨_, List.getElem?_eq_getElem (by rw [HN.out]; exact hj)⟩
    have RM := Hid.of (rFrom_max (now := now) (fl := fl) ht)
    have IT := Hid.of (in_tier FT.out.2.1 ht)
    have row := H0.out.hs
    rw [HN.out] at row
    obtain ⟨sb, so, rfl, sl, q0, q1, q2, q3⟩ := p_at row j t ht
    obtain ⟨tk, htk⟩ : ∃ tk, t.2.2.1 = tk := ⟨_, rfl⟩
    rw [htk] at q2 IT RM
    have EV := Hid.of (rEvery_in64 FT.out.2.1 (show j < p.2.length by rw [HN.out]; exact hj))
    obtain ⟨ev, hev⟩ : ∃ ev, rEvery p.2 j = ev := ⟨_, rfl⟩
    rw [hev] at EV RM
    have HEV := Hid.of hev
    obtain ⟨ba, hba⟩ : ∃ ba, gBack now tk ev = ba := ⟨_, rfl⟩
    rw [hba] at RM
    have HBA := Hid.of hba
    obtain ⟨fv, hfv⟩ : ∃ fv, fl.getD j 0 = fv := ⟨_, rfl⟩
    rw [hfv] at RM
    have HFV := Hid.of hfv
    have SL := Hid.of sl
    have Q2 : Hid (∀ w9, Below w1.heap.size w1 w9 → w9.cell? ⟨sb, so + j * 4 + 2, none⟩ = some (.int .i64 tk)) := Hid.of (fun w9 b9 => by rw [b9.cell SL.out]; exact q2)
    clear row ht htk hev hba hfv q0 q1 q2 q3 sl hi hj
    go_enter Tryz.func95, Tryz.ntmps95
    go_upto_region 1 with fail
    rw [HW.out]
    clear HW
    go_wp2_with fail
    refine (has_in now n _ N sc _ j _ HJ.out).mono ?_
    rintro e w2 ⟨rfl, b2⟩
    have H2 := Hid.of (H0.out.next b2)
    have B2 := Hid.of b2
    have q2 := Q2.out _ b2
    clear b2 c0 c1 c2 c3
    obtain ⟨c0, c1, c2, c3⟩ := H2.out.at
    go_upto_region 3 with fail
    refine wp_region_noPanic ?_
    refine wp_region_held_drew (S := fun w' => w'.cell? ⟨w.heap.size, 0, none⟩ = some (.int .i64 now) ∧ w'.cell? ⟨w.heap.size, 1, none⟩ = some (.string n) ∧ w'.cell? ⟨w.heap.size, 2, none⟩ = some (.slice (some ⟨sb, so, none⟩) N sc) ∧ w'.cell? ⟨w.heap.size, 3, none⟩ = some (.slice fa M fc) ∧ w'.cell? ⟨sb, so + j * 4 + 2, none⟩ = some (.int .i64 tk)) (by kernel_rfl) ?_ (fun hHeld => ?_)
    · exact ⟨c0, c1, c2, c3, q2⟩
    refine takeOp 0 (o := ⟨_, _, _, _, _, _⟩) (v := ?_) rfl (by kernel_rfl) (by rfl) hHeld ?_ ?_; rotate_left; (next => intro w' hSw; (try dsimp only at hSw); go_simp; all_goals with_reducible rfl); simp only [Act.put, pA9, pB9, pC9]
    refine takeOp 1 (o := ⟨_, _, _, _, _, _⟩) (v := ?_) rfl (by kernel_rfl) (by rfl) hHeld ?_ ?_; rotate_left; (next => intro w' hSw; (try dsimp only at hSw); go_simp; all_goals with_reducible rfl); simp only [Act.put, pA9, pB9, pC9]
    refine takeOp 2 (o := ⟨_, _, _, _, _, _⟩) (v := ?_) rfl (by kernel_rfl) (by rfl) hHeld ?_ ?_; rotate_left; (next => intro w' hSw; (try dsimp only at hSw); go_simp; all_goals with_reducible rfl); simp only [Act.put, pA9, pB9, pC9]
    refine takeOp 3 (o := ⟨_, _, _, _, _, _⟩) (v := ?_) rfl (by kernel_rfl) (by rfl) hHeld ?_ ?_; rotate_left; (next => intro w' hSw; (try dsimp only at hSw); go_simp; all_goals with_reducible rfl); simp only [Act.put, pA9, pB9, pC9]
    refine takeOp 4 (o := ⟨_, _, _, _, _, _⟩) (v := ?_) rfl (by kernel_rfl) (by rfl) hHeld ?_ ?_; rotate_left; (next => intro w' hSw; (try dsimp only at hSw); go_simp; all_goals with_reducible rfl); simp only [Act.put, pA9, pB9, pC9]
    refine takeOp 5 (o := ⟨_, _, _, _, _, _⟩) (v := ?_) rfl (by kernel_rfl) (by rfl) hHeld ?_ ?_; rotate_left; (next => intro w' hSw; (try dsimp only at hSw); go_simp; all_goals with_reducible rfl); simp only [Act.put, pA9, pB9, pC9]
    refine takeOp 6 (o := ⟨_, _, _, _, _, _⟩) (v := ?_) rfl (by kernel_rfl) (by rfl) hHeld ?_ ?_; rotate_left; (next => intro w' hSw; (try dsimp only at hSw); go_simp; all_goals with_reducible rfl); simp only [Act.put, pA9, pB9, pC9]
    refine takeOp 7 (o := ⟨_, _, _, _, _, _⟩) (v := ?_) rfl (by kernel_rfl) (by rfl) hHeld ?_ ?_; rotate_left; (next => intro w' hSw; (try dsimp only at hSw); go_simp; all_goals with_reducible rfl); simp only [Act.put, pA9, pB9, pC9]
    refine takeOp 8 (o := ⟨_, _, _, _, _, _⟩) (v := ?_) rfl (by kernel_rfl) (by rfl) hHeld ?_ ?_; rotate_left; (next => intro w' hSw; (try dsimp only at hSw); go_simp; all_goals with_reducible rfl); simp only [Act.put, pA9, pB9, pC9]
    refine takeOp 9 (o := ⟨_, _, _, _, _, _⟩) (v := ?_) rfl (by kernel_rfl) (by rfl) hHeld ?_ ?_; rotate_left; (next => intro w' hSw; (try dsimp only at hSw); go_simp; all_goals with_reducible rfl); simp only [Act.put, pA9, pB9, pC9]
    refine takeOp 10 (o := ⟨_, _, _, _, _, _⟩) (v := ?_) rfl (by kernel_rfl) (by rfl) hHeld ?_ ?_; rotate_left; (next => intro w' hSw; (try dsimp only at hSw); go_simp; all_goals with_reducible rfl); simp only [Act.put, pA9, pB9, pC9]
    refine wpAnyH_ready (rs := [11]) (by kernel_rfl) (by simp) ?_
    refine AllReadyH.cons (o := ⟨_, _, _, _, _, _⟩) rfl (fun K hK => ?_) AllReadyH.nil
    go_simp
    refine (grain_any now n _ _ p fl j _ (H2.out.next (Below.refl _ _).drew).hs (H2.out.next (Below.refl _ _).drew).hf FT.out.2.1.1 (by rw [HN.out]; exact HJ.out)).mono ?_
    rintro e w3 ⟨rfl, b3⟩
    rw [HEV.out]
    have c9 := (Below.refl _ _).drew.trans b3
    have H3 := Hid.of (H2.out.next c9)
    have B3 := Hid.of (B2.out.trans (c9.mono B2.out.size))
    have q2 := Q2.out _ B3.out
    clear b3 c9 c0 c1 c2 c3 hHeld
    obtain ⟨c0, c1, c2, c3⟩ := H3.out.at
    refine hK.out _ _ ⟨c0, c1, c2, c3, q2⟩ (fun hHeld => ?_)
    clear hK K
    try simp only [Act.put, pA9, pB9, pC9]
    refine wpAnyH_ready (rs := [12]) (by kernel_rfl) (by simp) ?_
    refine AllReadyH.cons (o := ⟨_, _, _, _, _, _⟩) rfl (fun K hK => ?_) AllReadyH.nil
    go_simp
    refine (Back_any now tk ev FT.out.1 IT.out.2 EV.out _).mono ?_
    rintro e w4 ⟨rfl, q, rfl⟩
    rw [HBA.out]
    have c9 := below_drewN (Below.refl w3.heap.size w3) q
    have H4 := Hid.of (H3.out.next c9)
    have q2 := Q2.out _ (B3.out.trans (c9.mono B3.out.size))
    generalize w3.drewN q = w4 at *
    clear c9 c0 c1 c2 c3 hHeld
    obtain ⟨c0, c1, c2, c3⟩ := H4.out.at
    refine hK.out _ _ ⟨c0, c1, c2, c3, q2⟩ (fun hHeld => ?_)
    clear hK K
    try simp only [Act.put, pA9, pB9, pC9]
    refine takeOp 13 (o := ⟨_, _, _, _, _, _⟩) (v := ?_) rfl (by kernel_rfl) (by rfl) hHeld ?_ ?_; rotate_left; (next => intro w' hSw; (try dsimp only at hSw); go_simp; all_goals with_reducible rfl); simp only [Act.put, pA9, pB9, pC9]
    refine wpAnyH_done (by kernel_rfl) ?_ _
    refine NoPanic.normal ?_
    go_wp2_with fail
    refine (floor_any now n _ _ p fl j _ H4.out.hs H4.out.hf).mono ?_
    rintro e w5 ⟨rfl, b5⟩
    rw [HFV.out]
    have H5 := Hid.of (H4.out.next b5)
    clear b5 c0 c1 c2 c3 q2
    go_wp2
    all_goals
      go_ret
      refine ⟨?_, H5.out.fr⟩
      rw [RM.out]
      refine congrArg (fun z => Ending.returned (Value.int .i64 z)) ?_
      omega

end Go.Proofs.YtbhcafginmkaaaaGreat

namespace Go.Proofs.YtbhcafginmkaaaaGreat
open Go.RowKit Go.Lib

set_option maxRecDepth 20000 in
set_option maxHeartbeats 3200000 in
theorem start_any (now : Int) (n : ByteArray) (s f : Value) (p : PolL) (fl : List Int) (i t : Int) (w : World) (hs : CellRow w s p.2.length (flat penc p.2)) (hf : CellRow w f fl.length (fl.map (Value.int .i64))) (fit : RFit (now, p, fl)) (ht : In64 t) :
    Calls Tryz.prog 241 #[.agg #[.int .i64 now, .string n, s, f], .int .i64 i, .int .i64 t] w fun e w' => e = .returned (.tuple #[.int .i64 (rStart (now, p, fl) i t).1, .bool (rStart (now, p, fl) i t).2]) ∧ Below w.heap.size w w' := by
  have H0 := Hid.of (VH.made (now := now) (n := n) hs hf)
  obtain ⟨sa, sc, rfl, -⟩ := hs
  obtain ⟨fa, fc, rfl, -⟩ := hf
  obtain ⟨N, hN⟩ : ∃ N, p.2.length = N := ⟨_, rfl⟩
  obtain ⟨M, hM⟩ : ∃ M, fl.length = M := ⟨_, rfl⟩
  rw [hN, hM] at H0 ⊢
  obtain ⟨w1, hw1⟩ : ∃ w1, w.alloc (.cells #[.int .i64 now, .string n, .slice sa N sc, .slice fa M fc] 47) = w1 := ⟨_, rfl⟩
  rw [hw1] at H0
  have HW := Hid.of hw1
  have HN := Hid.of hN
  have FT := Hid.of fit
  have HT := Hid.of ht
  have n9 : (N : Int) ≤ 1000000 := by have := fit.2.1.1; rw [hN] at this; omega
  clear hN hM hw1 fit ht
  obtain ⟨c0, c1, c2, c3⟩ := H0.out.at
  by_cases hi : i < 0 ∨ (N : Int) ≤ i
  · have hr : rStart (now, p, fl) i t = (0, false) := by
      unfold rStart
      split
      · rfl
      · rw [List.getElem?_eq_none (show ((now, p, fl) : RchL).2.1.2.length ≤ i.toNat by show p.2.length ≤ _; rw [HN.out]; omega)]
    rw [hr]
    have HI := Hid.of hi
    clear hr hi
    go_enter Tryz.func241, Tryz.ntmps241
    go_upto_region 1 with fail
    rw [HW.out]
    clear HW
    go_wp2_with fail
    refine (has_no now n sa N sc _ i _ HI.out).mono ?_
    rintro e w2 ⟨rfl, b2⟩
    have H2 := Hid.of (H0.out.next b2)
    go_wp2
    go_ret2
    exact ⟨rfl, H2.out.fr⟩
  · obtain ⟨j, rfl⟩ : ∃ j : Nat, i = j := ⟨i.toNat, by omega⟩
    have hj : j < N := by omega
    have HJ := Hid.of hj
    have j0 : (0 : Int) ≤ (j : Int) := by omega
    have j1 : (j : Int) < (N : Int) := by omega
    obtain ⟨y, hy⟩ : ∃ y, p.2[j]? = some y := ⟨_, List.getElem?_eq_getElem (by rw [HN.out]; exact hj)⟩
    have IT := Hid.of (in_tier FT.out.2.1 hy)
    have row := H0.out.hs
    rw [HN.out] at row
    obtain ⟨sb, so, rfl, sl, q0, q1, q2, q3⟩ := p_at row j y hy
    obtain ⟨ye, hye⟩ : ∃ ye, y.2.1 = ye := ⟨_, rfl⟩
    rw [hye] at q1 IT
    have SL := Hid.of sl
    have Q1 : Hid (∀ w9, Below w1.heap.size w1 w9 → w9.cell? ⟨sb, so + j * 4 + 1, none⟩ = some (.int .i64 ye)) := Hid.of (fun w9 b9 => by rw [b9.cell SL.out]; exact q1)
    by_cases htn : t < 0
    · have hr : rStart (now, p, fl) (j : Int) t = (0, false) := by
        unfold rStart
        exact if_pos (Or.inr htn)
      rw [hr]
      clear hr row sl q0 q1 q2 q3 hy hye hi hj
      go_enter Tryz.func241, Tryz.ntmps241
      go_upto_region 1 with fail
      rw [HW.out]
      clear HW
      go_wp2_with fail
      refine (has_in now n _ N sc _ j _ HJ.out).mono ?_
      rintro e w2 ⟨rfl, b2⟩
      have H2 := Hid.of (H0.out.next b2)
      go_wp2
      go_ret2
      exact ⟨rfl, H2.out.fr⟩
    · obtain ⟨a, ha⟩ : ∃ a, rFromN (now, p, fl) j = a := ⟨_, rfl⟩
      obtain ⟨fv, hfv⟩ : ∃ fv, gFloor t ye = fv := ⟨_, rfl⟩
      have hr : rStart (now, p, fl) (j : Int) t = (fv, decide (a ≤ fv)) := by
        unfold rStart
        rw [if_neg (by omega)]
        have e : ((now, p, fl) : RchL).2.1.2[(j : Int).toNat]? = some y := hy
        rw [e]
        show (gFloor t y.2.1, decide (rFromN (now, p, fl) j ≤ gFloor t y.2.1)) = _
        rw [hye, ha, hfv]
      rw [hr]
      have HF := Hid.of hfv
      have HA := Hid.of ha
      clear hr hfv ha hy row sl q0 q1 q2 q3 hye hi hj
      go_enter Tryz.func241, Tryz.ntmps241
      go_upto_region 1 with fail
      rw [HW.out]
      clear HW
      go_wp2_with fail
      refine (has_in now n _ N sc _ j _ HJ.out).mono ?_
      rintro e w2 ⟨rfl, b2⟩
      have H2 := Hid.of (H0.out.next b2)
      have q1 := Q1.out _ b2
      clear b2 H0 c0 c1 c2 c3
      obtain ⟨c0, c1, c2, c3⟩ := H2.out.at
      go_wp2_with fail
      refine (Floor_any t ye HT.out IT.out.1 _).mono ?_
      rintro e w3 ⟨rfl, q, rfl⟩
      rw [HF.out]
      have H3 := Hid.of (H2.out.next (below_drewN (Below.refl _ _) q))
      clear H2 c0 c1 c2 c3 q1
      obtain ⟨c0, c1, c2, c3⟩ := H3.out.at
      go_wp2_with fail
      refine (from_any now n _ _ p fl j _ H3.out.hs H3.out.hf FT.out).mono ?_
      rintro e w4 ⟨rfl, b4⟩
      rw [rFrom_nat, HA.out]
      go_wp2
      go_ret2
      exact ⟨rfl, H3.out.fr.trans (b4.mono H3.out.fr.size)⟩

/-- A Reach and a sample, in variables. -/
structure VS (w0 : World) (b c : Nat) (now : Int) (n sn : ByteArray) (t x : Int) (s f : Value) (p : PolL) (fl : List Int) (w : World) : Prop where
  h : VH w0 b now n s f p fl w
  g : w.heap[c]? = some (.cells #[.string sn, .int .i64 t, .int .i64 x] 159 (0, 0))

section
variable {w0 w w' : World} {b c : Nat} {n sn : ByteArray} {now t x : Int} {s f : Value} {p : PolL} {fl : List Int}
theorem VS.next (h : VS w0 b c now n sn t x s f p fl w) (k : Below w.heap.size w w') : VS w0 b c now n sn t x s f p fl w' :=
  ⟨h.h.next k, by rw [k.block c (Array.getElem?_eq_some_iff.1 h.g).1]; exact h.g⟩
theorem VS.at (h : VS w0 b c now n sn t x s f p fl w) : w.cell? ⟨c, 0, none⟩ = some (.string sn) ∧ w.cell? ⟨c, 1, none⟩ = some (.int .i64 t) ∧ w.cell? ⟨b, 0, none⟩ = some (.int .i64 now) ∧ w.cell? ⟨b, 1, none⟩ = some (.string n) ∧ w.cell? ⟨b, 2, none⟩ = some s ∧ w.cell? ⟨b, 3, none⟩ = some f := by
  refine ⟨?_, ?_, h.h.at⟩ <;> (rw [cell_of_row w c _ _ _ _ h.g]; rfl)
end

set_option maxRecDepth 20000 in
set_option maxHeartbeats 3200000 in
theorem takes_any (now : Int) (n sn : ByteArray) (s f : Value) (p : PolL) (fl : List Int) (t x : Int) (w : World) (hs : CellRow w s p.2.length (flat penc p.2)) (hf : CellRow w f fl.length (fl.map (Value.int .i64))) (fit : RFit (now, p, fl)) (hsn : sn.size ≤ maxLen) :
    Calls Tryz.prog 248 #[.agg #[.int .i64 now, .string n, s, f], .agg #[.string sn, .int .i64 t, .int .i64 x]] w fun e w' => e = .returned (.int .i64 (rTakes (now, p, fl) sn t)) ∧ Below w.heap.size w w' := by
  have H00 := VH.made (now := now) (n := n) hs hf
  obtain ⟨sa, sc, rfl, -⟩ := hs
  obtain ⟨fa, fc, rfl, -⟩ := hf
  obtain ⟨N, hN⟩ : ∃ N, p.2.length = N := ⟨_, rfl⟩
  obtain ⟨M, hM⟩ : ∃ M, fl.length = M := ⟨_, rfl⟩
  rw [hN, hM] at H00 ⊢
  obtain ⟨w1, hw1⟩ : ∃ w1, (w.alloc (.cells #[.int .i64 now, .string n, .slice sa N sc, .slice fa M fc] 47)).alloc (.cells #[.string sn, .int .i64 t, .int .i64 x] 159) = w1 := ⟨_, rfl⟩
  have h1 : VS w w.heap.size (w.heap.size + 1) now n sn t x (.slice sa N sc) (.slice fa M fc) p fl w1 := by
    have g := Go.heap_alloc_new (w.alloc (.cells #[.int .i64 now, .string n, .slice sa N sc, .slice fa M fc] 47)) (.cells #[.string sn, .int .i64 t, .int .i64 x] 159 (0, 0))
    rw [hw1] at g
    exact ⟨by rw [← hw1]; exact H00.next ((Below.refl _ _).alloc (Nat.le_refl _) _), by simpa using g⟩
  obtain ⟨w2, hw2⟩ : ∃ w2, w1.alloc (.cells #[.string sn] 9) = w2 := ⟨_, rfl⟩
  have b2 : Below w1.heap.size w1 w2 := by rw [← hw2]; exact (Below.refl _ _).alloc (Nat.le_refl _) _
  have H2 := Hid.of (h1.next b2)
  have NR := Hid.of (pol_name_row w1 sn 9)
  have SZ : Hid (w1.heap.size = w.heap.size + 2) := Hid.of (by rw [← hw1]; simp)
  have HW1 := Hid.of hw1
  have HW2 := Hid.of hw2
  have HN := Hid.of hN
  have FT := Hid.of fit
  have SN := Hid.of hsn
  obtain ⟨c0, c1, c2, c3, c4, c5⟩ := h1.at
  clear hN hM hw1 hw2 fit hsn H00 h1 b2
  obtain ⟨ok, hok⟩ : ∃ ok, nOk sn = ok := ⟨_, rfl⟩
  have OK := Hid.of hok
  clear hok
  go_enter Tryz.func248, Tryz.ntmps248
  go_upto_region 1 with fail
  rw [HW1.out]
  go_wp2_with fail
  rw [HW2.out]
  clear c0 c1 c2 c3 c4 c5
  have nr := NR.out
  rw [HW2.out, SZ.out] at nr
  clear HW1 HW2 NR
  try rw [SZ.out]
  refine (valid_any _ [sn] _ nr (by simp) (fun s hs => by rw [List.mem_singleton.1 hs]; exact SN.out)).mono ?_
  rintro e w3 ⟨rfl, q, rfl⟩
  rw [show [sn].all nOk = ok by rw [List.all_cons, List.all_nil, Bool.and_true, OK.out]]
  have H3 := Hid.of (H2.out.next (below_drewN (Below.refl _ _) q))
  generalize w2.drewN q = w3 at *
  clear H2 nr
  obtain ⟨c0, c1, c2, c3, c4, c5⟩ := H3.out.at
  cases ok with
  | false =>
    have hr : rTakes (now, p, fl) sn t = 1 := by unfold rTakes; rw [if_pos (.inl OK.out)]
    have HR := Hid.of hr
    clear hr
    go_wp2
    go_ret
    rw [HR.out]
    exact ⟨rfl, H3.out.h.fr⟩
  | true =>
    have key : t < 0 ∨ (¬ t < 0 ∧ now < t) ∨ (¬ t < 0 ∧ ¬ now < t) := by omega
    rcases key with h1 | ⟨h1, h2⟩ | ⟨h1, h2⟩
    · have hr : rTakes (now, p, fl) sn t = 1 := by unfold rTakes; rw [if_pos (.inr h1)]
      have HR := Hid.of hr
      clear hr
      go_wp2
      go_ret
      rw [HR.out]
      exact ⟨rfl, H3.out.h.fr⟩
    · have hr : rTakes (now, p, fl) sn t = 25 := by
        unfold rTakes
        rw [if_neg (by rw [OK.out]; simp; omega), if_pos h2]
      have HR := Hid.of hr
      clear hr
      go_wp2
      go_ret
      rw [HR.out]
      exact ⟨rfl, H3.out.h.fr⟩
    · have hr : rTakes (now, p, fl) sn t = if p.2 = [] ∨ t < rFromN (now, p, fl) 0 then 24 else 0 := by
        unfold rTakes
        rw [if_neg (by rw [OK.out]; simp; omega), if_neg h2]
      by_cases hN0 : N = 0
      · have e0 : p.2 = [] := List.eq_nil_of_length_eq_zero (by rw [HN.out]; exact hN0)
        rw [if_pos (.inl e0)] at hr
        have HR := Hid.of hr
        have HNO : Hid ((0 : Int) < 0 ∨ (N : Int) ≤ 0) := Hid.of (by omega)
        clear e0 hr hN0
        go_upto_region 5 with fail
        refine wp_region_noPanic ?_
        refine wp_region_held_drew (S := fun w' => w'.cell? ⟨w.heap.size + 1, 0, none⟩ = some (.string sn) ∧ w'.cell? ⟨w.heap.size + 1, 1, none⟩ = some (.int .i64 t) ∧ w'.cell? ⟨w.heap.size, 0, none⟩ = some (.int .i64 now) ∧ w'.cell? ⟨w.heap.size, 1, none⟩ = some (.string n) ∧ w'.cell? ⟨w.heap.size, 2, none⟩ = some (.slice sa N sc) ∧ w'.cell? ⟨w.heap.size, 3, none⟩ = some (.slice fa M fc)) (by kernel_rfl) ?_ (fun hHeld => ?_)
        · exact ⟨c0, c1, c2, c3, c4, c5⟩
        refine takeOp 0 (o := ⟨_, _, _, _, _, _⟩) (v := ?_) rfl (by kernel_rfl) (by rfl) hHeld ?_ ?_; rotate_left; (next => intro w' hSw; (try dsimp only at hSw); go_simp; all_goals with_reducible rfl); simp only [Act.put, pA9, pB9, pC9]
        refine wpAnyH_ready (rs := [1]) (by kernel_rfl) (by simp) ?_
        refine AllReadyH.cons (o := ⟨_, _, _, _, _, _⟩) rfl (fun K hK => ?_) AllReadyH.nil
        go_simp
        refine (has_no now n sa N sc _ 0 _ HNO.out).mono ?_
        rintro e w_H4 ⟨rfl, b8⟩
        have H4 := Hid.of (H3.out.next ((Below.refl _ _).drew.trans b8))
        clear b8 c0 c1 c2 c3 c4 c5 hHeld
        obtain ⟨c0, c1, c2, c3, c4, c5⟩ := H4.out.at
        refine hK.out _ _ ⟨c0, c1, c2, c3, c4, c5⟩ (fun hHeld => ?_)
        clear hK K
        try simp only [Act.put, pA9, pB9, pC9]
        refine takeOp 2 (o := ⟨_, _, _, _, _, _⟩) (v := ?_) rfl (by kernel_rfl) (by rfl) hHeld ?_ ?_; rotate_left; (next => intro w' hSw; (try dsimp only at hSw); go_simp; all_goals with_reducible rfl); simp only [Act.put, pA9, pB9, pC9]
        refine takeOp 3 (o := ⟨_, _, _, _, _, _⟩) (v := ?_) rfl (by kernel_rfl) (by rfl) hHeld ?_ ?_; rotate_left; (next => intro w' hSw; (try dsimp only at hSw); go_simp; all_goals with_reducible rfl); simp only [Act.put, pA9, pB9, pC9]
        refine skipOp 4 (o := ⟨_, _, _, _, _, _⟩) rfl (by kernel_rfl) (by rfl) hHeld ?_
        simp only [Act.put, pA9, pB9, pC9]
        refine skipOp 5 (o := ⟨_, _, _, _, _, _⟩) rfl (by kernel_rfl) (by rfl) hHeld ?_
        simp only [Act.put, pA9, pB9, pC9]
        refine skipOp 6 (o := ⟨_, _, _, _, _, _⟩) rfl (by kernel_rfl) (by rfl) hHeld ?_
        simp only [Act.put, pA9, pB9, pC9]
        refine skipOp 7 (o := ⟨_, _, _, _, _, _⟩) rfl (by kernel_rfl) (by rfl) hHeld ?_
        simp only [Act.put, pA9, pB9, pC9]
        refine skipOp 8 (o := ⟨_, _, _, _, _, _⟩) rfl (by kernel_rfl) (by rfl) hHeld ?_
        simp only [Act.put, pA9, pB9, pC9]
        refine takeOp 9 (o := ⟨_, _, _, _, _, _⟩) (v := ?_) rfl (by kernel_rfl) (by rfl) hHeld ?_ ?_; rotate_left; (next => intro w' hSw; (try dsimp only at hSw); go_simp; all_goals with_reducible rfl); simp only [Act.put, pA9, pB9, pC9]
        refine takeOp 10 (o := ⟨_, _, _, _, _, _⟩) (v := ?_) rfl (by kernel_rfl) (by rfl) hHeld ?_ ?_; rotate_left; (next => intro w' hSw; (try dsimp only at hSw); go_simp; all_goals with_reducible rfl); simp only [Act.put, pA9, pB9, pC9]
        refine wpAnyH_done (by kernel_rfl) ?_ _
        refine NoPanic.normal ?_
        go_wp2
        go_ret
        rw [HR.out]
        exact ⟨rfl, H4.out.h.fr⟩
      · have e0 : ¬ p.2 = [] := fun c => hN0 (by rw [← HN.out, c]; rfl)
        have HIN : Hid (0 < N) := Hid.of (by omega)
        obtain ⟨a, ha⟩ : ∃ a, rFromN (now, p, fl) 0 = a := ⟨_, rfl⟩
        rw [ha] at hr
        have HA := Hid.of ha
        clear ha hN0
        by_cases hta : t < a
        · rw [if_pos (.inr hta)] at hr
          have HR := Hid.of hr
          clear e0 hr
          go_upto_region 5 with fail
          refine wp_region_noPanic ?_
          refine wp_region_held_drew (S := fun w' => w'.cell? ⟨w.heap.size + 1, 0, none⟩ = some (.string sn) ∧ w'.cell? ⟨w.heap.size + 1, 1, none⟩ = some (.int .i64 t) ∧ w'.cell? ⟨w.heap.size, 0, none⟩ = some (.int .i64 now) ∧ w'.cell? ⟨w.heap.size, 1, none⟩ = some (.string n) ∧ w'.cell? ⟨w.heap.size, 2, none⟩ = some (.slice sa N sc) ∧ w'.cell? ⟨w.heap.size, 3, none⟩ = some (.slice fa M fc)) (by kernel_rfl) ?_ (fun hHeld => ?_)
          · exact ⟨c0, c1, c2, c3, c4, c5⟩
          refine takeOp 0 (o := ⟨_, _, _, _, _, _⟩) (v := ?_) rfl (by kernel_rfl) (by rfl) hHeld ?_ ?_; rotate_left; (next => intro w' hSw; (try dsimp only at hSw); go_simp; all_goals with_reducible rfl); simp only [Act.put, pA9, pB9, pC9]
          refine wpAnyH_ready (rs := [1]) (by kernel_rfl) (by simp) ?_
          refine AllReadyH.cons (o := ⟨_, _, _, _, _, _⟩) rfl (fun K hK => ?_) AllReadyH.nil
          go_simp
          refine (has_in now n sa N sc _ 0 _ HIN.out).mono ?_
          rintro e w_H4 ⟨rfl, b8⟩
          have H4 := Hid.of (H3.out.next ((Below.refl _ _).drew.trans b8))
          clear b8 c0 c1 c2 c3 c4 c5 hHeld
          obtain ⟨c0, c1, c2, c3, c4, c5⟩ := H4.out.at
          refine hK.out _ _ ⟨c0, c1, c2, c3, c4, c5⟩ (fun hHeld => ?_)
          clear hK K
          try simp only [Act.put, pA9, pB9, pC9]
          refine takeOp 2 (o := ⟨_, _, _, _, _, _⟩) (v := ?_) rfl (by kernel_rfl) (by rfl) hHeld ?_ ?_; rotate_left; (next => intro w' hSw; (try dsimp only at hSw); go_simp; all_goals with_reducible rfl); simp only [Act.put, pA9, pB9, pC9]
          refine takeOp 3 (o := ⟨_, _, _, _, _, _⟩) (v := ?_) rfl (by kernel_rfl) (by rfl) hHeld ?_ ?_; rotate_left; (next => intro w' hSw; (try dsimp only at hSw); go_simp; all_goals with_reducible rfl); simp only [Act.put, pA9, pB9, pC9]
          refine takeOp 4 (o := ⟨_, _, _, _, _, _⟩) (v := ?_) rfl (by kernel_rfl) (by rfl) hHeld ?_ ?_; rotate_left; (next => intro w' hSw; (try dsimp only at hSw); go_simp; all_goals with_reducible rfl); simp only [Act.put, pA9, pB9, pC9]
          refine takeOp 5 (o := ⟨_, _, _, _, _, _⟩) (v := ?_) rfl (by kernel_rfl) (by rfl) hHeld ?_ ?_; rotate_left; (next => intro w' hSw; (try dsimp only at hSw); go_simp; all_goals with_reducible rfl); simp only [Act.put, pA9, pB9, pC9]
          refine takeOp 6 (o := ⟨_, _, _, _, _, _⟩) (v := ?_) rfl (by kernel_rfl) (by rfl) hHeld ?_ ?_; rotate_left; (next => intro w' hSw; (try dsimp only at hSw); go_simp; all_goals with_reducible rfl); simp only [Act.put, pA9, pB9, pC9]
          refine wpAnyH_ready (rs := [7]) (by kernel_rfl) (by simp) ?_
          refine AllReadyH.cons (o := ⟨_, _, _, _, _, _⟩) rfl (fun K hK => ?_) AllReadyH.nil
          go_simp
          refine (from_any now n _ _ p fl 0 _ H4.out.h.hs H4.out.h.hf FT.out).mono ?_
          rintro e w_H5 ⟨rfl, b8⟩
          rw [show rFrom (now, p, fl) 0 = a from (rFrom_nat (now, p, fl) 0).trans HA.out]
          have H5 := Hid.of (H4.out.next b8)
          clear b8 c0 c1 c2 c3 c4 c5 hHeld
          obtain ⟨c0, c1, c2, c3, c4, c5⟩ := H5.out.at
          refine hK.out _ _ ⟨c0, c1, c2, c3, c4, c5⟩ (fun hHeld => ?_)
          clear hK K
          try simp only [Act.put, pA9, pB9, pC9]
          refine takeOp 8 (o := ⟨_, _, _, _, _, _⟩) (v := ?_) rfl (by kernel_rfl) (by rfl) hHeld ?_ ?_; rotate_left; (next => intro w' hSw; (try dsimp only at hSw); go_simp; all_goals with_reducible rfl); simp only [Act.put, pA9, pB9, pC9]
          refine takeOp 9 (o := ⟨_, _, _, _, _, _⟩) (v := ?_) rfl (by kernel_rfl) (by rfl) hHeld ?_ ?_; rotate_left; (next => intro w' hSw; (try dsimp only at hSw); go_simp; all_goals with_reducible rfl); simp only [Act.put, pA9, pB9, pC9]
          refine takeOp 10 (o := ⟨_, _, _, _, _, _⟩) (v := ?_) rfl (by kernel_rfl) (by rfl) hHeld ?_ ?_; rotate_left; (next => intro w' hSw; (try dsimp only at hSw); go_simp; all_goals with_reducible rfl); simp only [Act.put, pA9, pB9, pC9]
          refine wpAnyH_done (by kernel_rfl) ?_ _
          refine NoPanic.normal ?_
          go_wp2
          go_ret
          rw [HR.out]
          exact ⟨rfl, H5.out.h.fr⟩
        · rw [if_neg (fun c => c.elim e0 hta)] at hr
          have HR := Hid.of hr
          clear e0 hr
          go_upto_region 5 with fail
          refine wp_region_noPanic ?_
          refine wp_region_held_drew (S := fun w' => w'.cell? ⟨w.heap.size + 1, 0, none⟩ = some (.string sn) ∧ w'.cell? ⟨w.heap.size + 1, 1, none⟩ = some (.int .i64 t) ∧ w'.cell? ⟨w.heap.size, 0, none⟩ = some (.int .i64 now) ∧ w'.cell? ⟨w.heap.size, 1, none⟩ = some (.string n) ∧ w'.cell? ⟨w.heap.size, 2, none⟩ = some (.slice sa N sc) ∧ w'.cell? ⟨w.heap.size, 3, none⟩ = some (.slice fa M fc)) (by kernel_rfl) ?_ (fun hHeld => ?_)
          · exact ⟨c0, c1, c2, c3, c4, c5⟩
          refine takeOp 0 (o := ⟨_, _, _, _, _, _⟩) (v := ?_) rfl (by kernel_rfl) (by rfl) hHeld ?_ ?_; rotate_left; (next => intro w' hSw; (try dsimp only at hSw); go_simp; all_goals with_reducible rfl); simp only [Act.put, pA9, pB9, pC9]
          refine wpAnyH_ready (rs := [1]) (by kernel_rfl) (by simp) ?_
          refine AllReadyH.cons (o := ⟨_, _, _, _, _, _⟩) rfl (fun K hK => ?_) AllReadyH.nil
          go_simp
          refine (has_in now n sa N sc _ 0 _ HIN.out).mono ?_
          rintro e w_H4 ⟨rfl, b8⟩
          have H4 := Hid.of (H3.out.next ((Below.refl _ _).drew.trans b8))
          clear b8 c0 c1 c2 c3 c4 c5 hHeld
          obtain ⟨c0, c1, c2, c3, c4, c5⟩ := H4.out.at
          refine hK.out _ _ ⟨c0, c1, c2, c3, c4, c5⟩ (fun hHeld => ?_)
          clear hK K
          try simp only [Act.put, pA9, pB9, pC9]
          refine takeOp 2 (o := ⟨_, _, _, _, _, _⟩) (v := ?_) rfl (by kernel_rfl) (by rfl) hHeld ?_ ?_; rotate_left; (next => intro w' hSw; (try dsimp only at hSw); go_simp; all_goals with_reducible rfl); simp only [Act.put, pA9, pB9, pC9]
          refine takeOp 3 (o := ⟨_, _, _, _, _, _⟩) (v := ?_) rfl (by kernel_rfl) (by rfl) hHeld ?_ ?_; rotate_left; (next => intro w' hSw; (try dsimp only at hSw); go_simp; all_goals with_reducible rfl); simp only [Act.put, pA9, pB9, pC9]
          refine takeOp 4 (o := ⟨_, _, _, _, _, _⟩) (v := ?_) rfl (by kernel_rfl) (by rfl) hHeld ?_ ?_; rotate_left; (next => intro w' hSw; (try dsimp only at hSw); go_simp; all_goals with_reducible rfl); simp only [Act.put, pA9, pB9, pC9]
          refine takeOp 5 (o := ⟨_, _, _, _, _, _⟩) (v := ?_) rfl (by kernel_rfl) (by rfl) hHeld ?_ ?_; rotate_left; (next => intro w' hSw; (try dsimp only at hSw); go_simp; all_goals with_reducible rfl); simp only [Act.put, pA9, pB9, pC9]
          refine takeOp 6 (o := ⟨_, _, _, _, _, _⟩) (v := ?_) rfl (by kernel_rfl) (by rfl) hHeld ?_ ?_; rotate_left; (next => intro w' hSw; (try dsimp only at hSw); go_simp; all_goals with_reducible rfl); simp only [Act.put, pA9, pB9, pC9]
          refine wpAnyH_ready (rs := [7]) (by kernel_rfl) (by simp) ?_
          refine AllReadyH.cons (o := ⟨_, _, _, _, _, _⟩) rfl (fun K hK => ?_) AllReadyH.nil
          go_simp
          refine (from_any now n _ _ p fl 0 _ H4.out.h.hs H4.out.h.hf FT.out).mono ?_
          rintro e w_H5 ⟨rfl, b8⟩
          rw [show rFrom (now, p, fl) 0 = a from (rFrom_nat (now, p, fl) 0).trans HA.out]
          have H5 := Hid.of (H4.out.next b8)
          clear b8 c0 c1 c2 c3 c4 c5 hHeld
          obtain ⟨c0, c1, c2, c3, c4, c5⟩ := H5.out.at
          refine hK.out _ _ ⟨c0, c1, c2, c3, c4, c5⟩ (fun hHeld => ?_)
          clear hK K
          try simp only [Act.put, pA9, pB9, pC9]
          refine takeOp 8 (o := ⟨_, _, _, _, _, _⟩) (v := ?_) rfl (by kernel_rfl) (by rfl) hHeld ?_ ?_; rotate_left; (next => intro w' hSw; (try dsimp only at hSw); go_simp; all_goals with_reducible rfl); simp only [Act.put, pA9, pB9, pC9]
          refine takeOp 9 (o := ⟨_, _, _, _, _, _⟩) (v := ?_) rfl (by kernel_rfl) (by rfl) hHeld ?_ ?_; rotate_left; (next => intro w' hSw; (try dsimp only at hSw); go_simp; all_goals with_reducible rfl); simp only [Act.put, pA9, pB9, pC9]
          refine takeOp 10 (o := ⟨_, _, _, _, _, _⟩) (v := ?_) rfl (by kernel_rfl) (by rfl) hHeld ?_ ?_; rotate_left; (next => intro w' hSw; (try dsimp only at hSw); go_simp; all_goals with_reducible rfl); simp only [Act.put, pA9, pB9, pC9]
          refine wpAnyH_done (by kernel_rfl) ?_ _
          refine NoPanic.normal ?_
          go_wp2
          go_ret
          rw [HR.out]
          exact ⟨rfl, H5.out.h.fr⟩

end Go.Proofs.YtbhcafginmkaaaaGreat

namespace Go.Proofs.YtbhcafginmkaaaaGreat
open Go.RowKit Go.Lib

theorem cloneInts_any (v : Value) (xs : List Int) (w : World) (hv : CellRow w v xs.length (xs.map (Value.int .i64))) (hn : xs.length ≤ 1000000) :
    Calls Tryz.prog 100 #[v] w fun e w' => ∃ u, e = .returned u ∧ w'.ownsRow w.heap.size 3 1 u xs.length (xs.map (Value.int .i64)) ∧ Below w.heap.size w w' := by
  obtain ⟨a, c, rfl, h⟩ := hv
  cases xs with
  | nil =>
    cases a with
    | none =>
      refine (Tryz.slices_Clone_int_nil 0 c w).mono ?_
      rintro e w' ⟨rfl, rfl⟩
      exact ⟨_, rfl, World.ownsRow_nil _ _ _ 1, Below.refl _ _⟩
    | some b =>
      refine (Tryz.slices_Clone_int_zero b c w).mono ?_
      rintro e w' ⟨u, rfl, ho, -, hb⟩
      exact ⟨_, rfl, ho, hb⟩
  | cons x xs =>
    rcases h with h | ⟨b, o, rfl, hl, hc⟩
    · cases h
    · refine (Tryz.slices_Clone_int b o (x :: xs).length c (x :: xs) w (Nat.le_refl _) (by omega) (fun j hj => ?_)).mono ?_
      · rw [hc j (.int .i64 (x :: xs)[j]) (by rw [List.getElem?_map, List.getElem?_eq_getElem hj]; rfl)]
        rw [List.getD_eq_getElem?_getD, List.getElem?_eq_getElem hj]
        rfl
      · rintro e w' ⟨u, rfl, ho, -, hb⟩
        rw [List.take_length] at ho
        exact ⟨_, rfl, ho, hb⟩

/-- A row beside the block that was written. -/
theorem own_kept {w w' : World} {b : Nat} {e : TypeId} {k : Nat} {v : Value} {n : Nat} {xs : List Value} (h : w.ownsRow (b + 1) e k v n xs) (g : w.grownBy w' (some b)) : w'.ownsRow (b + 1) e k v n xs := by
  refine ⟨h.1, ?_⟩
  rcases h.2 with h0 | ⟨g', cap, cur, e, hB', hrow, rest⟩
  · exact .inl h0
  · refine .inr ⟨g', cap, cur, e, hB', ?_, rest⟩
    rw [g.block g' (Array.getElem?_eq_some_iff.1 hrow).1 (fun c => by have := Option.some.inj c; omega)]
    exact hrow

set_option maxRecDepth 20000 in
set_option maxHeartbeats 3200000 in
theorem of_any (v f : Value) (p : PolL) (now : Int) (fl : List Int) (w : World) (fit : RFit (now, p, fl)) (hv : PolRow w v p) (hf : CellRow w f fl.length (fl.map (Value.int .i64))) :
    Calls Tryz.prog 15 #[v, .int .i64 now, f] w fun e w' => ∃ u, e = .returned u ∧ OwnRch w.heap.size w' u (now, p, fl) ∧ Below w.heap.size w w' := by
  have hv0 := hv
  have HF := Hid.of hf
  have HV := Hid.of hv0
  obtain ⟨s, rfl, hs, -⟩ := hv
  obtain ⟨sa, sc, rfl, -⟩ := hs
  obtain ⟨n, hn⟩ : ∃ n, p.1 = n := ⟨_, rfl⟩
  obtain ⟨N, hN⟩ : ∃ N, p.2.length = N := ⟨_, rfl⟩
  rw [hn, hN]
  rw [hn, hN] at HV
  have FT := Hid.of fit
  have HN := Hid.of hN
  have Hn := Hid.of hn
  obtain ⟨w1, hw1⟩ : ∃ w1, (w.alloc (.cells #[.string n, .slice sa N sc] 24)).alloc (.cells #[.int .i64 0, .string ⟨#[]⟩, .slice none 0 0, .slice none 0 0] 47) = w1 := ⟨_, rfl⟩
  have b1 : Below w.heap.size w w1 := by rw [← hw1]; exact ((Below.refl _ _).alloc (Nat.le_refl _) _).alloc (by simp) _
  have k1 : PBlk w1 w.heap.size n (.slice sa N sc) := by rw [← hw1]; exact (PBlk.made w _ _).kept ((Below.refl _ _).alloc (Nat.le_refl _) _)
  have K2 : Hid (KBlk w1 (w.heap.size + 1) 0 ⟨#[]⟩ (.slice none 0 0) (.slice none 0 0)) := Hid.of (by rw [← hw1]; have := Go.heap_alloc_new (w.alloc (.cells #[.string n, .slice sa N sc] 24)) (.cells #[.int .i64 0, .string ⟨#[]⟩, .slice none 0 0, .slice none 0 0] 47 (0, 0)); rw [show (w.alloc (.cells #[.string n, .slice sa N sc] 24)).heap.size = w.heap.size + 1 by simp] at this; exact this)
  have B1 := Hid.of b1
  have HW := Hid.of hw1
  obtain ⟨c0, c1⟩ := k1.at
  clear hN hn hw1 b1 fit hv0 hf k1
  go_enter Tryz.func15, Tryz.ntmps15
  go_upto_region 1 with fail
  rw [HW.out]
  clear HW
  go_wp2_with fail
  refine (copy_any _ p _ FT.out.2.1 (HV.out.kept B1.out)).mono ?_
  rintro e w2 ⟨u, rfl, ou, b2⟩
  obtain ⟨s2, rfl, o2⟩ := ou
  rw [Hn.out]
  obtain ⟨sa2, sc2, rfl, -⟩ := own_one o2
  rw [HN.out] at o2 ⊢
  unfold polVal
  have O2 := Hid.of (own_mono o2 (D := w.heap.size + 2) (by have := (Array.getElem?_eq_some_iff.1 K2.out).1; omega))
  have K3 := Hid.of (kblk_next K2.out b2)
  have B2 := Hid.of (B1.out.trans (b2.mono B1.out.size))
  clear o2 b2 K2 c0 c1
  go_wp2_with fail
  refine (cloneInts_any _ fl _ (HF.out.kept B2.out) FT.out.2.2.1).mono ?_
  rintro e w3 ⟨v3, rfl, o3, b3⟩
  obtain ⟨fa3, fc3, rfl, -⟩ := own_one o3
  have O3 := Hid.of (own_mono o3 (D := w.heap.size + 2) (by have := (Array.getElem?_eq_some_iff.1 K3.out).1; omega))
  have AP : Hid (Apart (.slice sa2 N sc2) (.slice fa3 fl.length fc3)) := Hid.of (fun g h1 h2 => by have := (O2.out.lt g h1).2; have := own_ge o3 h2; omega)
  have O4 := Hid.of ((Step.of_below (F := fun _ => False) b3).own O2.out (fun _ _ c => c))
  have K4 := Hid.of (kblk_next K3.out b3)
  have B3 := Hid.of (B2.out.trans (b3.mono B2.out.size))
  clear o3 b3 O2 K3
  obtain ⟨q0, q1, q2, q3⟩ := kblk_at K4.out
  have y0 := row_frozen (i := 0) K4.out
  have y1 := row_frozen (i := 1) K4.out
  have y2 := row_frozen (i := 2) K4.out
  have y3 := row_frozen (i := 3) K4.out
  have K5 := kblk_set (now' := now) (n' := n) (s' := .slice sa2 N sc2) (f' := .slice fa3 fl.length fc3) K4.out
  have g5 := setR_grown w3 (w.heap.size + 1) now n (.slice sa2 N sc2) (.slice fa3 fl.length fc3)
  obtain ⟨r0, r1, r2, r3⟩ := kblk_at K5
  have Q1 : Hid (OwnRch w.heap.size (setR w3 (w.heap.size + 1) now n (.slice sa2 N sc2) (.slice fa3 fl.length fc3)) (.agg #[.int .i64 now, .string n, .slice sa2 N sc2, .slice fa3 fl.length fc3]) (now, p, fl)) := Hid.of
    ⟨_, _, by unfold rVal; rw [Hn.out], by
      show World.ownsRow _ _ _ _ _ p.2.length _
      rw [HN.out]
      exact own_mono (own_kept O4.out g5) (by omega), own_mono (own_kept O3.out g5) (by omega), AP.out⟩
  have Q2 : Hid (Below w.heap.size w (setR w3 (w.heap.size + 1) now n (.slice sa2 N sc2) (.slice fa3 fl.length fc3))) := Hid.of (B3.out.grown g5 B3.out.size (fun k hk => by cases hk; omega))
  clear K5 g5
  unfold setR at r0 r1 r2 r3
  unfold setR at Q1 Q2
  go_wp2
  refine bodyPost_ret (v := .agg #[.int .i64 now, .string n, .slice sa2 N sc2, .slice fa3 fl.length fc3]) ?_ rfl ⟨_, rfl, Q1.out, Q2.out⟩
  simp [results, Tryz.results15, go_sem, r0, r1, r2, r3]

end Go.Proofs.YtbhcafginmkaaaaGreat

namespace Go.Proofs.YtbhcafginmkaaaaGreat
open Go.RowKit Go.Lib

/-- What the landed package answers is what chapter 9 says. -/
def reaches : ReachSpec where
  Ok := fun _ => True
  kept := fun _ _ => trivial
  of := fun v f p now fl w _ fit hv hf _ => of_any v f p now fl w fit hv hf
  from_ := fun v r i w _ fit _ hr => by
    obtain ⟨now, p, fl⟩ := r
    obtain ⟨s, f, rfl, hs, hf, -⟩ := hr
    exact from_any now p.1 s f p fl i w hs hf fit
  takes := fun v r n t x w _ fit hn _ hr => by
    obtain ⟨now, p, fl⟩ := r
    obtain ⟨s, f, rfl, hs, hf, -⟩ := hr
    exact takes_any now p.1 n s f p fl t x w hs hf fit hn
  start := fun v r i t w _ fit _ ht hr => by
    obtain ⟨now, p, fl⟩ := r
    obtain ⟨s, f, rfl, hs, hf, -⟩ := hr
    exact start_any now p.1 s f p fl i t w hs hf fit ht

end Go.Proofs.YtbhcafginmkaaaaGreat

namespace Go.Proofs.YtbhcafginmkaaaaGreat
open Go.RowKit Go.Lib

def plVal (p : PlanL) (s f : Value) : Value := .agg #[.string p.1.1, s, f]

/-- A plan that came in or was answered. -/
def PlanRow (w : World) (v : Value) (p : PlanL) : Prop := ∃ s f, v = plVal p s f ∧ CellRow w s p.1.2.length (flat penc p.1.2) ∧ CellRow w f p.2.length (p.2.map (Value.int .i64)) ∧ CapOk s ∧ CapOk f

/-- A plan of one's own. -/
def OwnPlan (B : Nat) (w : World) (v : Value) (p : PlanL) : Prop := ∃ s f, v = plVal p s f ∧ w.ownsRow B 89 4 s p.1.2.length (flat penc p.1.2) ∧ w.ownsRow B 3 1 f p.2.length (p.2.map (Value.int .i64)) ∧ Apart s f

theorem OwnPlan.row {B : Nat} {w : World} {v : Value} {p : PlanL} (h : OwnPlan B w v p) : PlanRow w v p := by
  obtain ⟨s, f, hv, h1, h2, _⟩ := h
  exact ⟨s, f, hv, own_row h1, own_row h2, own_cap h1, own_cap h2⟩

theorem PlanRow.kept {w w' : World} {v : Value} {p : PlanL} (h : PlanRow w v p) (b : Below w.heap.size w w') : PlanRow w' v p := by
  obtain ⟨s, f, hv, h1, h2, h3⟩ := h
  exact ⟨s, f, hv, h1.kept b, h2.kept b, h3⟩

/-- Of a size that a call can take. -/
def MFit (p : PlanL) : Prop := PFit p.1 ∧ p.2.length ≤ 1000000 ∧ ∀ x ∈ p.2, In64 x

/-- A variable that holds a plan. -/
structure PlH (w0 : World) (b : Nat) (n : ByteArray) (s f : Value) (p : PlanL) (w : World) : Prop where
  k : w.heap[b]? = some (.cells #[.string n, s, f] 49 (0, 0))
  hs : CellRow w s p.1.2.length (flat penc p.1.2)
  hf : CellRow w f p.2.length (p.2.map (Value.int .i64))
  fr : Below w0.heap.size w0 w

section
variable {w0 w w' : World} {b : Nat} {n : ByteArray} {s f : Value} {p : PlanL}
theorem PlH.next (h : PlH w0 b n s f p w) (c : Below w.heap.size w w') : PlH w0 b n s f p w' :=
  ⟨by rw [c.block b (Array.getElem?_eq_some_iff.1 h.k).1]; exact h.k, h.hs.kept c, h.hf.kept c, h.fr.trans (c.mono h.fr.size)⟩
theorem PlH.at (h : PlH w0 b n s f p w) : w.cell? ⟨b, 0, none⟩ = some (.string n) ∧ w.cell? ⟨b, 1, none⟩ = some s ∧ w.cell? ⟨b, 2, none⟩ = some f := by
  refine ⟨?_, ?_, ?_⟩ <;> (rw [cell_of_row w b _ _ _ _ h.k]; rfl)
theorem PlH.made (hs : CellRow w s p.1.2.length (flat penc p.1.2)) (hf : CellRow w f p.2.length (p.2.map (Value.int .i64))) : PlH w w.heap.size n s f p (w.alloc (.cells #[.string n, s, f] 49)) := by
  have b : Below w.heap.size w (w.alloc (.cells #[.string n, s, f] 49)) := (Below.refl _ _).alloc (Nat.le_refl _) _
  exact ⟨Go.heap_alloc_new _ _, hs.kept b, hf.kept b, b⟩
end

/-- A plan is put into a variable. -/
def setL (v : World) (b : Nat) (n : ByteArray) (s f : Value) : World := ((v.setCell ⟨b, 0, none⟩ (.string n)).setCell ⟨b, 1, none⟩ s).setCell ⟨b, 2, none⟩ f

abbrev LBlk (w : World) (b : Nat) (n : ByteArray) (s f : Value) : Prop := w.heap[b]? = some (.cells #[.string n, s, f] 49 (0, 0))

theorem lblk_set {w : World} {b : Nat} {n n' : ByteArray} {s f s' f' : Value} (h : LBlk w b n s f) : LBlk (setL w b n' s' f') b n' s' f' := by
  have := row_set (i := 2) (row_set (i := 1) (row_set (i := 0) h (.string n')) s') f'
  unfold setL
  show _ = _
  rw [this]
  simp

theorem setL_grown (w : World) (b : Nat) (n : ByteArray) (s f : Value) : w.grownBy (setL w b n s f) (some b) :=
  grownBy_trans (grownBy_trans (grownBy_setCell _ _ _ _) (grownBy_setCell _ _ _ _)) (grownBy_setCell _ _ _ _)

theorem lblk_next {w w' : World} {b : Nat} {n : ByteArray} {s f : Value} (h : LBlk w b n s f) (c : Below w.heap.size w w') : LBlk w' b n s f := by
  show _ = _
  rw [c.block b (Array.getElem?_eq_some_iff.1 h).1]
  exact h

theorem lblk_at {w : World} {b : Nat} {n : ByteArray} {s f : Value} (h : LBlk w b n s f) : w.cell? ⟨b, 0, none⟩ = some (.string n) ∧ w.cell? ⟨b, 1, none⟩ = some s ∧ w.cell? ⟨b, 2, none⟩ = some f := by
  refine ⟨?_, ?_, ?_⟩ <;> (rw [cell_of_row w b _ _ _ _ h]; rfl)

end Go.Proofs.YtbhcafginmkaaaaGreat

namespace Go.Proofs.YtbhcafginmkaaaaGreat
open Go.RowKit Go.Lib

set_option maxHeartbeats 800000 in
theorem padd_any (a b : Int) (ha : I64 a) (hb : I64 b) (w : World) : Calls Tryz.prog 106 #[.int .i64 a, .int .i64 b] w fun x w' => x = .returned (.int .i64 (mAdd a b)) ∧ Below w.heap.size w w' := by
  unfold I64 at ha hb
  by_cases h1 : 0 < b
  · have hn : ¬ b < 0 := by omega
    by_cases h2 : 9223372036854775807 - b < a
    · have e : mAdd a b = 9223372036854775807 := by unfold mAdd mSat; omega
      rw [e]
      go_enter Tryz.func106, Tryz.ntmps106
      go_wp2
      go_ret
      exact ⟨rfl, Below.refl _ _⟩
    · have e : mAdd a b = a + b := mAdd_of (by unfold I64; omega)
      rw [e]
      go_enter Tryz.func106, Tryz.ntmps106
      go_wp2
      go_ret
      exact ⟨rfl, Below.refl _ _⟩
  · by_cases h3 : b < 0
    · by_cases h2 : a < -9223372036854775808 - b
      · have e : mAdd a b = -9223372036854775808 := by unfold mAdd mSat; omega
        rw [e]
        go_enter Tryz.func106, Tryz.ntmps106
        go_wp2
        go_ret
        exact ⟨rfl, Below.refl _ _⟩
      · have e : mAdd a b = a + b := mAdd_of (by unfold I64; omega)
        rw [e]
        go_enter Tryz.func106, Tryz.ntmps106
        go_wp2
        go_ret
        exact ⟨rfl, Below.refl _ _⟩
    · have e : mAdd a b = a + b := mAdd_of (by unfold I64; omega)
      rw [e]
      go_enter Tryz.func106, Tryz.ntmps106
      go_wp2
      go_ret
      exact ⟨rfl, Below.refl _ _⟩

theorem mFillsN_drop {l : List TierL} {i : Nat} {x : TierL} (hx : l[i]? = some x) (n : Int) : mFillsN n (l.drop i) = mFillsN (mAdd n (max x.2.2.2 0)) (l.drop (i + 1)) := by
  obtain ⟨hi, e⟩ := List.getElem?_eq_some_iff.1 hx
  rw [List.drop_eq_getElem_cons hi, e]
  rfl

set_option maxRecDepth 20000 in
set_option maxHeartbeats 1600000 in
theorem fills_any (v : Value) (l : List TierL) (w : World) (hv : CellRow w v l.length (flat penc l)) (hn : l.length ≤ 1000000) (hi : ∀ x ∈ l, I64 x.2.2.2) : Calls Tryz.prog 107 #[v] w fun x w' => x = .returned (.int .i64 (mFills l)) ∧ Below w.heap.size w w' := by
  have HV := Hid.of hv
  obtain ⟨va, vc, rfl, -⟩ := hv
  obtain ⟨N, hN⟩ : ∃ N, l.length = N := ⟨_, rfl⟩
  have NL := Hid.of hN
  have HI := Hid.of hi
  rw [hN] at HV ⊢
  have n9 : (N : Int) ≤ 1000000 := by omega
  clear hN hn hi
  go_enter Tryz.func107, Tryz.ntmps107
  go_wp2
  go_loopg [3, 8] N (fun kx nv iv wr => ∃ (j : Nat) (m : Int), iv = .int .i64 j ∧ nv = .int .i64 m ∧ j ≤ N ∧ N - j ≤ kx ∧ Hid (I64 m) ∧ Hid (mFills l = mFillsN m (l.drop j)) ∧ Hid (Below w.heap.size w wr))
  case atStart => exact ⟨0, 0, rfl, rfl, Nat.zero_le _, Nat.le_refl _, Hid.of (by unfold I64; omega), Hid.of rfl, Hid.of (Below.refl _ _)⟩
  case round =>
    obtain ⟨j, m, rfl, rfl, hj, hk, HM, HE, HB⟩ := hrel
    have j0 : (0 : Int) ≤ (j : Int) := Int.natCast_nonneg _
    by_cases hlt : (j : Int) < (N : Int)
    · obtain ⟨t, ht⟩ : ∃ t, l[j]? = some t := ⟨_, List.getElem?_eq_getElem (by have := NL.out; omega)⟩
      obtain ⟨b1, o1, rfl, g1, d0, d1, d2, d3⟩ := p_at (HV.out.kept HB.out) j t ht
      have HT := Hid.of ht
      have HSH := Hid.of (HI.out t (List.mem_of_getElem? ht))
      obtain ⟨t0, ev, t2, sh⟩ := t
      simp only at d0 d1 d2 d3 HSH
      have HJ : Hid (j < N) := Hid.of (by omega)
      obtain ⟨y, hy⟩ : ∃ y, wr.heap.size = y := ⟨_, rfl⟩
      obtain ⟨w2, hw2⟩ : ∃ w2, wr.alloc (.cells #[.string t0, .int .i64 ev, .int .i64 t2, .int .i64 sh] 89) = w2 := ⟨_, rfl⟩
      have z2 : w2.heap[y]? = some (.cells #[.string t0, .int .i64 ev, .int .i64 t2, .int .i64 sh] 89 (0, 0)) := by rw [← hw2, ← hy]; exact (MapKept.heap_alloc wr _).1
      have b2 : Below wr.heap.size wr w2 := by rw [← hw2]; exact (Below.refl _ _).alloc (Nat.le_refl _) _
      have B2 := Hid.of (HB.out.trans (b2.mono HB.out.size))
      have HW := Hid.of hw2
      have HY := Hid.of hy
      obtain ⟨mx, hmx⟩ : ∃ mx, max sh 0 = mx := ⟨_, rfl⟩
      have HMX := Hid.of hmx
      have hmi : I64 mx := by have := HSH.out; unfold I64 at this ⊢; omega
      have HMI := Hid.of hmi
      clear ht g1 hw2 b2 hy HB hmi
      go_upto_region 5 with fail
      rw [HW.out, HY.out]
      clear HW HY d0 d1 d2 d3
      have e3 : w2.cell? ⟨y, 3, none⟩ = some (.int .i64 sh) := by rw [cell_of_row _ _ _ _ _ _ z2]; rfl
      clear z2
      go_wp2_with fail
      refine (padd_any m mx HM.out HMI.out _).mono ?_
      rintro e w3 ⟨rfl, b3⟩
      obtain ⟨m', hm'⟩ : ∃ m', mAdd m mx = m' := ⟨_, rfl⟩
      have HM' := Hid.of hm'
      rw [hm']
      have HMN : Hid (I64 m') := Hid.of (by rw [← hm']; exact mSat_in _)
      have HE' : Hid (mFills l = mFillsN m' (l.drop (j + 1))) := Hid.of (by rw [HE.out, mFillsN_drop HT.out]; show mFillsN (mAdd m (max sh 0)) _ = _; rw [HMX.out, hm'])
      have B3 := Hid.of (B2.out.trans (b3.mono B2.out.size))
      clear b3 hm' hmx e3 B2 HM HE
      go_wp2
      go_roundg (N - (j + 1))
      case measure => have := HJ.out; omega
      case rel => exact ⟨j + 1, m', by go_num, rfl, HJ.out, Nat.le_refl _, HMN, HE', B3⟩
    · obtain rfl : j = N := by omega
      have e : Hid (mFills l = m) := Hid.of (by rw [HE.out, ← NL.out, List.drop_length]; rfl)
      go_wp2
      go_ret
      rw [e.out]
      exact ⟨rfl, HB.out⟩

set_option maxRecDepth 20000 in
set_option maxHeartbeats 1600000 in
theorem pzero_any (v : Value) (p : PlanL) (w : World) (hv : PlanRow w v p) : Calls Tryz.prog 105 #[v] w fun x w' => x = .returned (.bool (mZero p)) ∧ Below w.heap.size w w' := by
  obtain ⟨s, f, rfl, hs, hf, -, -⟩ := hv
  have h0 := Hid.of (PlH.made (n := p.1.1) hs hf)
  obtain ⟨sa, sc, rfl, -⟩ := hs
  obtain ⟨fa, fc, rfl, -⟩ := hf
  obtain ⟨⟨n, l⟩, k⟩ := p
  simp only at h0 ⊢
  unfold plVal
  simp only
  obtain ⟨N, hN⟩ : ∃ N, l.length = N := ⟨_, rfl⟩
  obtain ⟨M, hM⟩ : ∃ M, k.length = M := ⟨_, rfl⟩
  rw [hN, hM] at h0 ⊢
  obtain ⟨w1, hw1⟩ : ∃ w1, w.alloc (.cells #[.string n, .slice sa N sc, .slice fa M fc] 49) = w1 := ⟨_, rfl⟩
  rw [hw1] at h0
  have HW := Hid.of hw1
  have HZ : Hid (mZero ((n, l), k) = (decide (n = ⟨#[]⟩) && decide (N = 0) && decide (M = 0))) := Hid.of (by
    unfold mZero
    simp only
    rw [show decide (l = []) = decide (N = 0) from decide_eq_decide.2 (by rw [← hN, List.length_eq_zero_iff]), show decide (k = []) = decide (M = 0) from decide_eq_decide.2 (by rw [← hM, List.length_eq_zero_iff])])
  clear hw1 hN hM
  obtain ⟨c0, c1, c2⟩ := h0.out.at
  rw [HZ.out]
  clear HZ
  by_cases hn : n = ⟨#[]⟩
  · by_cases h1 : N = 0
    · by_cases h2 : M = 0
      · subst hn h1 h2
        go_enter Tryz.func105, Tryz.ntmps105
        go_upto_region 1 with fail
        rw [HW.out]
        clear HW
        go_wp2
        go_ret
        exact ⟨rfl, h0.out.fr⟩
      · have e2 : ((M : Int) == 0) = false := beq_eq_false_iff_ne.2 (by omega)
        subst hn h1
        rw [decide_eq_false h2, Bool.and_false]
        have E2 := Hid.of e2
        clear e2
        go_enter Tryz.func105, Tryz.ntmps105
        go_upto_region 1 with fail
        rw [HW.out]
        clear HW
        go_wp2
        go_ret
        refine ⟨?_, h0.out.fr⟩
        show Ending.returned (Value.bool ((M : Int) == 0)) = _
        rw [E2.out]
    · have e2 : ((N : Int) == 0) = false := beq_eq_false_iff_ne.2 (by omega)
      subst hn
      rw [decide_eq_false h1, Bool.and_false, Bool.false_and]
      go_enter Tryz.func105, Tryz.ntmps105
      go_upto_region 1 with fail
      rw [HW.out]
      clear HW
      go_wp2
      go_ret
      exact ⟨rfl, h0.out.fr⟩
  · have e2 : ¬ n.toList = [] := fun c => hn (by
      rw [ByteArray.toList_eq] at c
      have h3 : n.data = #[] := by rw [← Array.toList_eq_nil_iff]; exact c
      obtain ⟨d⟩ := n
      show ByteArray.mk d = _
      rw [show d = #[] from h3])
    rw [decide_eq_false hn, Bool.false_and, Bool.false_and]
    go_enter Tryz.func105, Tryz.ntmps105
    go_upto_region 1 with fail
    rw [HW.out]
    clear HW
    go_wp2
    go_ret
    exact ⟨rfl, h0.out.fr⟩

set_option maxRecDepth 20000 in
set_option maxHeartbeats 1600000 in
theorem psource_any (v : Value) (p : PlanL) (j : Nat) (w : World) (hv : PlanRow w v p) : Calls Tryz.prog 109 #[v, .int .i64 j] w fun x w' => x = .returned (.int .i64 (mSrc p j)) ∧ Below w.heap.size w w' := by
  obtain ⟨s, f, rfl, hs, hf, -, -⟩ := hv
  have h0 := Hid.of (PlH.made (n := p.1.1) hs hf)
  obtain ⟨fa, fc, rfl, -⟩ := hf
  obtain ⟨⟨n, l⟩, k⟩ := p
  simp only at h0 ⊢
  unfold plVal
  simp only
  obtain ⟨M, hM⟩ : ∃ M, k.length = M := ⟨_, rfl⟩
  rw [hM] at h0 ⊢
  obtain ⟨w1, hw1⟩ : ∃ w1, w.alloc (.cells #[.string n, s, .slice fa M fc] 49) = w1 := ⟨_, rfl⟩
  rw [hw1] at h0
  have HW := Hid.of hw1
  have HM := Hid.of hM
  clear hw1 hM
  obtain ⟨c0, c1, c2⟩ := h0.out.at
  have j0 : (0 : Int) ≤ (j : Int) := Int.natCast_nonneg _
  by_cases hj : j < M
  · have hj1 : ¬ (j : Int) ≥ (M : Int) := by omega
    have hj2 : (j : Int) < (M : Int) := by omega
    have row := h0.out.hf
    simp only at row
    rw [HM.out] at row
    obtain ⟨fb, fo, rfl, -, hfc⟩ := int_at row j (by rw [HM.out]; exact hj) HM.out.symm
    obtain ⟨x, hx⟩ : ∃ x, k.getD j 0 = x := ⟨_, rfl⟩
    have hr : mSrc ((n, l), k) j = x := by
      unfold mSrc
      rw [← hx, List.getD_eq_getElem?_getD]
      show (match k[j]? with | some i => i | none => -1) = _
      rw [List.getElem?_eq_getElem (by rw [HM.out]; exact hj)]
      rfl
    rw [hr]
    rw [hx] at hfc
    clear row hx hj hr
    go_enter Tryz.func109, Tryz.ntmps109
    go_upto_region 1 with fail
    rw [HW.out]
    clear HW
    go_wp2
    go_ret
    exact ⟨rfl, h0.out.fr⟩
  · have hj1 : (j : Int) ≥ (M : Int) := by omega
    have hr : mSrc ((n, l), k) j = -1 := by
      unfold mSrc
      show (match k[j]? with | some i => i | none => -1) = _
      rw [List.getElem?_eq_none (by rw [HM.out]; omega)]
    rw [hr]
    clear hr hj
    go_enter Tryz.func109, Tryz.ntmps109
    go_upto_region 1 with fail
    rw [HW.out]
    clear HW
    go_wp2
    go_ret
    exact ⟨rfl, h0.out.fr⟩

end Go.Proofs.YtbhcafginmkaaaaGreat

namespace Go.Proofs.YtbhcafginmkaaaaGreat
open Go.RowKit Go.Lib

theorem MFit.shards {p : PlanL} (h : MFit p) : ∀ x ∈ p.1.2, I64 x.2.2.2 := fun x hx => (h.1.2.2 x hx).2.2.2

set_option maxRecDepth 20000 in
set_option maxHeartbeats 1600000 in
theorem steps_any (v : Value) (p : PlanL) (w : World) (hv : PlanRow w v p) (fit : MFit p) : Calls Tryz.prog 21 #[v] w fun x w' => x = .returned (.int .i64 (mSteps p)) ∧ Below w.heap.size w w' := by
  have HV := Hid.of hv
  have FT := Hid.of fit
  obtain ⟨s, f, rfl, hs, hf, -, -⟩ := hv
  have h0 := Hid.of (PlH.made (n := p.1.1) hs hf)
  unfold plVal at HV ⊢
  obtain ⟨n, hn⟩ : ∃ n, p.1.1 = n := ⟨_, rfl⟩
  rw [hn] at h0 HV ⊢
  obtain ⟨w1, hw1⟩ : ∃ w1, w.alloc (.cells #[.string n, s, f] 49) = w1 := ⟨_, rfl⟩
  rw [hw1] at h0
  have HW := Hid.of hw1
  clear hw1 fit hn hs hf
  obtain ⟨c0, c1, c2⟩ := h0.out.at
  go_enter Tryz.func21, Tryz.ntmps21
  go_upto_region 1 with fail
  rw [HW.out]
  clear HW
  go_wp2_with fail
  refine (pzero_any _ p _ (HV.out.kept h0.out.fr)).mono ?_
  rintro e w2 ⟨rfl, b2⟩
  have h2 := Hid.of (h0.out.next b2)
  clear b2 h0 c0 c1 c2
  obtain ⟨c0, c1, c2⟩ := h2.out.at
  obtain ⟨z, hz⟩ : ∃ z, mZero p = z := ⟨_, rfl⟩
  have HZ := Hid.of hz
  rw [hz]
  clear hz
  cases z with
  | true =>
    have E : Hid (mSteps p = 0) := Hid.of (by unfold mSteps; rw [HZ.out]; rfl)
    go_wp2
    go_ret
    rw [E.out]
    exact ⟨rfl, h2.out.fr⟩
  | false =>
    have E : Hid (mSteps p = mAdd (mFills p.1.2) 2) := Hid.of (by unfold mSteps; rw [HZ.out]; rfl)
    have hfi := fills_any s p.1.2 w2 h2.out.hs FT.out.1.1 FT.out.shards
    go_wp2_with fail
    refine hfi.mono ?_
    rintro e w3 ⟨rfl, b3⟩
    have B3 := Hid.of (h2.out.fr.trans (b3.mono h2.out.fr.size))
    clear b3 hfi h2 c0 c1 c2
    go_wp2_with fail
    refine (padd_any _ 2 (mFills_in _) (by unfold I64; omega) _).mono ?_
    rintro e w4 ⟨rfl, b4⟩
    have B4 := Hid.of (B3.out.trans (b4.mono B3.out.size))
    clear b4 B3
    go_wp2
    go_ret
    rw [E.out]
    exact ⟨rfl, B4.out⟩

set_option maxRecDepth 20000 in
set_option maxHeartbeats 1600000 in
theorem bound_any (v : Value) (p : PlanL) (need : Int) (w : World) (hv : PlanRow w v p) (fit : MFit p) (hn : I64 need) : Calls Tryz.prog 27 #[v, .int .i64 need] w fun x w' => x = .returned (.int .i64 (mBound p need)) ∧ Below w.heap.size w w' := by
  have FT := Hid.of fit
  have HNE := Hid.of hn
  obtain ⟨s, f, rfl, hs, hf, -, -⟩ := hv
  have h0 := Hid.of (PlH.made (n := p.1.1) hs hf)
  unfold plVal
  obtain ⟨n, hn⟩ : ∃ n, p.1.1 = n := ⟨_, rfl⟩
  rw [hn] at h0 ⊢
  obtain ⟨w1, hw1⟩ : ∃ w1, w.alloc (.cells #[.string n, s, f] 49) = w1 := ⟨_, rfl⟩
  rw [hw1] at h0
  have HW := Hid.of hw1
  clear hw1 fit hn hs hf
  obtain ⟨c0, c1, c2⟩ := h0.out.at
  have hfi := fills_any s p.1.2 w1 h0.out.hs FT.out.1.1 FT.out.shards
  go_enter Tryz.func27, Tryz.ntmps27
  go_upto_region 1 with fail
  rw [HW.out]
  clear HW
  go_wp2_with fail
  refine hfi.mono ?_
  rintro e w3 ⟨rfl, b3⟩
  have B3 := Hid.of (h0.out.fr.trans (b3.mono h0.out.fr.size))
  clear b3 hfi h0 c0 c1 c2
  go_wp2_with fail
  refine (padd_any need _ HNE.out (mFills_in _) _).mono ?_
  rintro e w4 ⟨rfl, b4⟩
  have B4 := Hid.of (B3.out.trans (b4.mono B3.out.size))
  clear b4 B3
  go_wp2_with fail
  refine (padd_any need _ HNE.out (mSat_in _) _).mono ?_
  rintro e w5 ⟨rfl, b5⟩
  have B5 := Hid.of (B4.out.trans (b5.mono B4.out.size))
  clear b5 B4
  go_wp2
  go_ret
  exact ⟨rfl, B5.out⟩

/-- A variable that holds a step. -/
abbrev SBlk (w : World) (b : Nat) (k t s : Int) : Prop := w.heap[b]? = some (.cells #[.int .i64 k, .int .i64 t, .int .i64 s] 59 (0, 0))

def setS (v : World) (b : Nat) (k t s : Int) : World := ((v.setCell ⟨b, 0, none⟩ (.int .i64 k)).setCell ⟨b, 1, none⟩ (.int .i64 t)).setCell ⟨b, 2, none⟩ (.int .i64 s)

theorem sblk_set {w : World} {b : Nat} {k t s k' t' s' : Int} (h : SBlk w b k t s) : SBlk (setS w b k' t' s') b k' t' s' := by
  have := row_set (i := 2) (row_set (i := 1) (row_set (i := 0) h (.int .i64 k')) (.int .i64 t')) (.int .i64 s')
  unfold setS
  show _ = _
  rw [this]
  simp

theorem setS_grown (w : World) (b : Nat) (k t s : Int) : w.grownBy (setS w b k t s) (some b) :=
  grownBy_trans (grownBy_trans (grownBy_setCell _ _ _ _) (grownBy_setCell _ _ _ _)) (grownBy_setCell _ _ _ _)

theorem sblk_next {w w' : World} {b : Nat} {k t s : Int} (h : SBlk w b k t s) (c : Below w.heap.size w w') : SBlk w' b k t s := by
  show _ = _
  rw [c.block b (Array.getElem?_eq_some_iff.1 h).1]
  exact h

theorem sblk_at {w : World} {b : Nat} {k t s : Int} (h : SBlk w b k t s) : w.cell? ⟨b, 0, none⟩ = some (.int .i64 k) ∧ w.cell? ⟨b, 1, none⟩ = some (.int .i64 t) ∧ w.cell? ⟨b, 2, none⟩ = some (.int .i64 s) := by
  refine ⟨?_, ?_, ?_⟩ <;> (rw [cell_of_row w b _ _ _ _ h]; rfl)

/-- What At answers, as a value. -/
abbrev atVal (x : StepL) : Value := .tuple #[.agg #[.int .i64 x.1.1, .int .i64 x.1.2.1, .int .i64 x.1.2.2], .bool x.2]

theorem mAtN_drop {l : List TierL} {i : Nat} {x : TierL} (hx : l[i]? = some x) (k : Int) : mAtN k i (l.drop i) = if k < max x.2.2.2 0 then ((1, (i : Int), k), true) else mAtN (k - max x.2.2.2 0) (i + 1) (l.drop (i + 1)) := by
  obtain ⟨hi, e⟩ := List.getElem?_eq_some_iff.1 hx
  rw [List.drop_eq_getElem_cons hi, e]
  rfl

set_option maxRecDepth 20000 in
set_option maxHeartbeats 3200000 in
theorem at_any (v : Value) (p : PlanL) (k : Int) (w : World) (hv : PlanRow w v p) (fit : MFit p) (hk : I64 k) : Calls Tryz.prog 24 #[v, .int .i64 k] w fun x w' => x = .returned (atVal (mAt p k)) ∧ Below w.heap.size w w' := by
  have HV := Hid.of hv
  have FT := Hid.of fit
  obtain ⟨s, f, rfl, hs, hf, -, -⟩ := hv
  have h0 := Hid.of (PlH.made (n := p.1.1) hs hf)
  unfold plVal at HV ⊢
  obtain ⟨n, hn⟩ : ∃ n, p.1.1 = n := ⟨_, rfl⟩
  rw [hn] at h0 HV ⊢
  obtain ⟨w1, hw1⟩ : ∃ w1, (w.alloc (.cells #[.string n, s, f] 49)).alloc (.cells #[.int .i64 0, .int .i64 0, .int .i64 0] 59) = w1 := ⟨_, rfl⟩
  obtain ⟨z, hz⟩ : ∃ z, w.heap.size + 1 = z := ⟨_, rfl⟩
  have h1 : Hid (PlH w w.heap.size n s f p w1) := Hid.of (by rw [← hw1]; exact h0.out.next ((Below.refl _ _).alloc (Nat.le_refl _) _))
  have Z1 : Hid (SBlk w1 z 0 0 0) := Hid.of (by
    rw [← hw1, ← hz]
    have := Go.heap_alloc_new (w.alloc (.cells #[.string n, s, f] 49)) (.cells #[.int .i64 0, .int .i64 0, .int .i64 0] 59 (0, 0))
    rw [show (w.alloc (.cells #[.string n, s, f] 49)).heap.size = w.heap.size + 1 by simp] at this
    exact this)
  have HW := Hid.of hw1
  have HZ := Hid.of hz
  clear hw1 fit hn hs hf h0 hz
  obtain ⟨c0, c1, c2⟩ := h1.out.at
  go_enter Tryz.func24, Tryz.ntmps24
  go_upto_region 1 with fail
  rw [HW.out, HZ.out]
  clear HW
  go_wp2_with fail
  refine (pzero_any _ p _ (HV.out.kept h1.out.fr)).mono ?_
  rintro e w2 ⟨rfl, b2⟩
  have h2 := Hid.of (h1.out.next b2)
  have Z2 := Hid.of (sblk_next Z1.out b2)
  clear b2 h1 Z1 c0 c1 c2
  have f0 := row_frozen (i := 0) Z2.out
  have f1 := row_frozen (i := 1) Z2.out
  have f2 := row_frozen (i := 2) Z2.out
  obtain ⟨t0, t1, t2⟩ := sblk_at Z2.out
  obtain ⟨ze, hze⟩ : ∃ ze, mZero p = ze := ⟨_, rfl⟩
  have HZE := Hid.of hze
  rw [hze]
  clear hze
  -- what is answered where there is no step
  have NONE : Hid (SBlk (setS w2 z 0 0 0) z 0 0 0 ∧ Below w.heap.size w (setS w2 z 0 0 0)) := Hid.of
    ⟨sblk_set Z2.out, h2.out.fr.grown (setS_grown _ _ _ _ _) h2.out.fr.size (fun k hk => by cases hk; have := HZ.out; omega)⟩
  cases ze with
  | true =>
    have E : Hid (mAt p k = ((0, 0, 0), false)) := Hid.of (by unfold mAt; rw [if_pos (.inl HZE.out)])
    obtain ⟨q0, q1, q2⟩ := sblk_at NONE.out.1
    have BN := Hid.of NONE.out.2
    unfold setS at q0 q1 q2 BN
    clear NONE
    go_wp2
    refine bodyPost_ret (v := .tuple #[.agg #[.int .i64 0, .int .i64 0, .int .i64 0], .bool false]) ?_ rfl ⟨by rw [E.out], BN.out⟩
    simp [results, Tryz.results24, go_sem, q0, q1, q2]
  | false =>
    by_cases hneg : k < 0
    · have E : Hid (mAt p k = ((0, 0, 0), false)) := Hid.of (by unfold mAt; rw [if_pos (.inr hneg)])
      obtain ⟨q0, q1, q2⟩ := sblk_at NONE.out.1
      have BN := Hid.of NONE.out.2
      unfold setS at q0 q1 q2 BN
      clear NONE
      go_wp2
      refine bodyPost_ret (v := .tuple #[.agg #[.int .i64 0, .int .i64 0, .int .i64 0], .bool false]) ?_ rfl ⟨by rw [E.out], BN.out⟩
      simp [results, Tryz.results24, go_sem, q0, q1, q2]
    · have E : Hid (mAt p k = mAtN k 0 p.1.2) := Hid.of (by unfold mAt; rw [if_neg (by rw [HZE.out]; simp only [Bool.false_eq_true, false_or]; exact hneg)])
      have k0 : 0 ≤ k := by omega
      have HK := Hid.of hk
      have HS : Hid (CellRow w2 s p.1.2.length (flat penc p.1.2)) := Hid.of h2.out.hs
      obtain ⟨sa, sc, rfl, -⟩ := h2.out.hs
      obtain ⟨N, hN⟩ : ∃ N, p.1.2.length = N := ⟨_, rfl⟩
      have NL := Hid.of hN
      obtain ⟨q0, q1, q2⟩ := h2.out.at
      rw [hN] at HS q1 ⊢
      have HB2 := Hid.of h2.out.fr
      have n9 : (N : Int) ≤ 1000000 := by have := FT.out.1.1; omega
      clear NONE f0 f1 f2 t0 t1 t2 h2 HV hN
      go_upto_region 4 with fail
      clear q0 q1 q2
      go_loopg [1, 20] N (fun kx kv iv wr => ∃ (j : Nat) (m : Int), iv = .int .i64 j ∧ kv = .int .i64 m ∧ j ≤ N ∧ N - j ≤ kx ∧ 0 ≤ m ∧ Hid (I64 m) ∧ Hid (mAtN k 0 p.1.2 = mAtN m j (p.1.2.drop j)) ∧ Hid (SBlk wr z 0 0 0) ∧ Hid (Below w2.heap.size w2 wr))
      case atStart => exact ⟨0, k, rfl, rfl, Nat.zero_le _, Nat.le_refl _, k0, HK, Hid.of rfl, Z2, Hid.of (Below.refl _ _)⟩
      case round =>
        clear Z2
        obtain ⟨j, m, rfl, rfl, hj, hkx, m0, HM, HE, Z, HB⟩ := hrel
        have j0 : (0 : Int) ≤ (j : Int) := Int.natCast_nonneg _
        by_cases hlt : (j : Int) < (N : Int)
        · obtain ⟨t, ht⟩ : ∃ t, p.1.2[j]? = some t := ⟨_, List.getElem?_eq_getElem (by have := NL.out; omega)⟩
          obtain ⟨b1, o1, rfl, g1, d0, d1, d2, d3⟩ := p_at (HS.out.kept HB.out) j t ht
          have HT := Hid.of ht
          have HSH := Hid.of (FT.out.shards t (List.mem_of_getElem? ht))
          obtain ⟨x0, ev, x2, sh⟩ := t
          simp only at d0 d1 d2 d3 HSH
          have HJ : Hid (j < N) := Hid.of (by omega)
          obtain ⟨y, hy⟩ : ∃ y, wr.heap.size = y := ⟨_, rfl⟩
          obtain ⟨w3, hw3⟩ : ∃ w3, wr.alloc (.cells #[.string x0, .int .i64 ev, .int .i64 x2, .int .i64 sh] 89) = w3 := ⟨_, rfl⟩
          have z3 : w3.heap[y]? = some (.cells #[.string x0, .int .i64 ev, .int .i64 x2, .int .i64 sh] 89 (0, 0)) := by rw [← hw3, ← hy]; exact (MapKept.heap_alloc wr _).1
          have b3 : Below wr.heap.size wr w3 := by rw [← hw3]; exact (Below.refl _ _).alloc (Nat.le_refl _) _
          have B3 := Hid.of (HB.out.trans (b3.mono HB.out.size))
          have Z3 := Hid.of (sblk_next Z.out b3)
          have HW := Hid.of hw3
          have HY := Hid.of hy
          clear ht g1 hw3 b3 hy HB Z
          go_upto_region 6 with fail
          rw [HW.out, HY.out]
          clear HW HY d0 d1 d2 d3
          have e0 : w3.cell? ⟨y, 0, none⟩ = some (.string x0) := by rw [cell_of_row _ _ _ _ _ _ z3]; rfl
          have e1 : w3.cell? ⟨y, 1, none⟩ = some (.int .i64 ev) := by rw [cell_of_row _ _ _ _ _ _ z3]; rfl
          have e2 : w3.cell? ⟨y, 2, none⟩ = some (.int .i64 x2) := by rw [cell_of_row _ _ _ _ _ _ z3]; rfl
          have e3 : w3.cell? ⟨y, 3, none⟩ = some (.int .i64 sh) := by rw [cell_of_row _ _ _ _ _ _ z3]; rfl
          have row : CellRow (w3.alloc (.cells #[.string x0, .int .i64 ev, .int .i64 x2, .int .i64 sh] 89)) (.slice (some ⟨w3.heap.size, 0, none⟩) 1 1) [((x0, ev, x2, sh) : TierL)].length (flat penc [((x0, ev, x2, sh) : TierL)]) := ⟨_, 1, rfl, .inr ⟨_, 0, rfl, by simp, by rw [flat_one]; exact new_cells w3 _ _⟩⟩
          have hfi := fills_any _ [((x0, ev, x2, sh) : TierL)] _ row (by simp) (fun u hu => by rw [List.mem_singleton.1 hu]; exact HSH.out)
          rw [mFills_one (x := (x0, ev, x2, sh)) HSH.out] at hfi
          clear z3 row
          go_wp2_with fail
          refine hfi.mono ?_
          rintro e w4 ⟨rfl, b4⟩
          have bb := ((Below.refl w3.heap.size w3).alloc (Nat.le_refl _) (.cells #[.string x0, .int .i64 ev, .int .i64 x2, .int .i64 sh] 89)).trans (b4.mono (by simp))
          have Z4 := Hid.of (sblk_next Z3.out bb)
          have B4 := Hid.of (B3.out.trans (bb.mono B3.out.size))
          clear b4 bb hfi Z3 B3 e0 e1 e2 e3
          obtain ⟨mx, hmx⟩ : ∃ mx, max sh 0 = mx := ⟨_, rfl⟩
          have HE2 : Hid (mAtN k 0 p.1.2 = if m < mx then ((1, (j : Int), m), true) else mAtN (m - mx) (j + 1) (p.1.2.drop (j + 1))) := Hid.of (by rw [HE.out, mAtN_drop HT.out]; show (if m < max sh 0 then _ else mAtN (m - max sh 0) _ _) = _; rw [hmx])
          have mx0 : 0 ≤ mx := by omega
          have hmI := HM.out
          unfold I64 at hmI
          simp only [hmx]
          clear hmx HE
          by_cases hc : m < mx
          · have ER : Hid (mAt p k = ((1, (j : Int), m), true)) := Hid.of (by rw [E.out, HE2.out, if_pos hc])
            have BN : Hid (Below w.heap.size w (setS w4 z 1 j m)) := Hid.of ((HB2.out.trans (B4.out.mono HB2.out.size)).grown (setS_grown _ _ _ _ _) (Nat.le_trans HB2.out.size B4.out.size) (fun k hk => by cases hk; have := HZ.out; omega))
            obtain ⟨q0, q1, q2⟩ := sblk_at (sblk_set (k' := 1) (t' := (j : Int)) (s' := m) Z4.out)
            have f0 := row_frozen (i := 0) Z4.out
            have f1 := row_frozen (i := 1) Z4.out
            have f2 := row_frozen (i := 2) Z4.out
            obtain ⟨t0, t1, t2⟩ := sblk_at Z4.out
            unfold setS at q0 q1 q2 BN
            go_wp2
            refine bodyPost_ret (v := .tuple #[.agg #[.int .i64 1, .int .i64 j, .int .i64 m], .bool true]) ?_ rfl ⟨by rw [ER.out], BN.out⟩
            simp [results, Tryz.results24, go_sem, q0, q1, q2]
          · have HE3 : Hid (mAtN k 0 p.1.2 = mAtN (m - mx) (j + 1) (p.1.2.drop (j + 1))) := Hid.of (by rw [HE2.out, if_neg hc])
            have HM3 : Hid (I64 (m - mx)) := Hid.of (by unfold I64; omega)
            go_wp2
            go_roundg (N - (j + 1))
            case measure => have := HJ.out; omega
            case rel => exact ⟨j + 1, m - mx, by go_num, by go_num, HJ.out, Nat.le_refl _, by omega, HM3, HE3, Z4, B4⟩
        · obtain rfl : j = N := by omega
          have hd : p.1.2.drop j = [] := List.drop_eq_nil_of_le (by have := NL.out; omega)
          have HE2 : Hid (mAt p k = mAtN m j []) := Hid.of (by rw [E.out, HE.out, hd])
          have FR := Hid.of (HB2.out.trans (HB.out.mono HB2.out.size))
          have BN : ∀ a b c, Hid (Below w.heap.size w (setS wr z a b c)) := fun a b c => Hid.of (FR.out.grown (setS_grown _ _ _ _ _) FR.out.size (fun k hk => by cases hk; have := HZ.out; omega))
          have f0 := row_frozen (i := 0) Z.out
          have f1 := row_frozen (i := 1) Z.out
          have f2 := row_frozen (i := 2) Z.out
          obtain ⟨t0, t1, t2⟩ := sblk_at Z.out
          clear hd HE
          by_cases h0 : m = 0
          · subst h0
            have ER : Hid (mAt p k = ((2, 0, 0), true)) := Hid.of (by rw [HE2.out]; rfl)
            obtain ⟨q0, q1, q2⟩ := sblk_at (sblk_set (k' := 2) (t' := 0) (s' := 0) Z.out)
            have BB := BN 2 0 0
            unfold setS at q0 q1 q2 BB
            clear BN
            go_wp2
            refine bodyPost_ret (v := .tuple #[.agg #[.int .i64 2, .int .i64 0, .int .i64 0], .bool true]) ?_ rfl ⟨by rw [ER.out], BB.out⟩
            simp [results, Tryz.results24, go_sem, q0, q1, q2]
          · by_cases h1 : m = 1
            · subst h1
              have ER : Hid (mAt p k = ((3, 0, 0), true)) := Hid.of (by rw [HE2.out]; rfl)
              obtain ⟨q0, q1, q2⟩ := sblk_at (sblk_set (k' := 3) (t' := 0) (s' := 0) Z.out)
              have BB := BN 3 0 0
              unfold setS at q0 q1 q2 BB
              clear BN
              go_wp2
              refine bodyPost_ret (v := .tuple #[.agg #[.int .i64 3, .int .i64 0, .int .i64 0], .bool true]) ?_ rfl ⟨by rw [ER.out], BB.out⟩
              simp [results, Tryz.results24, go_sem, q0, q1, q2]
            · have ER : Hid (mAt p k = ((0, 0, 0), false)) := Hid.of (by rw [HE2.out]; unfold mAtN; rw [if_neg h0, if_neg h1])
              obtain ⟨q0, q1, q2⟩ := sblk_at (sblk_set (k' := 0) (t' := 0) (s' := 0) Z.out)
              have BB := BN 0 0 0
              unfold setS at q0 q1 q2 BB
              have c1 : (m == 0) = false := beq_eq_false_iff_ne.2 h0
              have c2 : (m == 1) = false := beq_eq_false_iff_ne.2 h1
              clear BN
              go_wp2
              refine bodyPost_ret (v := .tuple #[.agg #[.int .i64 0, .int .i64 0, .int .i64 0], .bool false]) ?_ rfl ⟨by rw [ER.out], BB.out⟩
              simp [results, Tryz.results24, go_sem, q0, q1, q2]

end Go.Proofs.YtbhcafginmkaaaaGreat

namespace Go.Proofs.YtbhcafginmkaaaaGreat
open Go.RowKit Go.Lib

theorem mFurN_drop {r : RchL} {e : Int} {l : List TierL} {i : Nat} {x : TierL} (hx : l[i]? = some x) (b : Nat) : mFurN r e i b (l.drop i) = mFurN r e (i + 1) (if gOn e x.2.1 = true ∧ rFromN r i ≤ rFromN r b then i else b) (l.drop (i + 1)) := by
  obtain ⟨hi, e⟩ := List.getElem?_eq_some_iff.1 hx
  rw [List.drop_eq_getElem_cons hi, e]
  rfl

theorem rFrom_nat2 (r : RchL) (i : Nat) : rFrom r (i : Int) = rFromN r i := by
  unfold rFrom
  rw [if_neg (by omega), show ((i : Int).toNat) = i by omega]

theorem divides_named2 {E e : Int} {dv : Bool} (h : gOn E e = dv) (w : World) : Calls Tryz.prog 211 #[.int .i64 e, .int .i64 E] w fun x w' => x = .returned (.bool dv) ∧ Below w.heap.size w w' := by
  rw [← h]
  refine (Divides_any e E w).mono ?_
  rintro x w' ⟨rfl, q, rfl⟩
  exact ⟨rfl, below_drewN (Below.refl _ _) q⟩

set_option maxRecDepth 20000 in
set_option maxHeartbeats 3200000 in
theorem furthest_any (v tv : Value) (r : RchL) (E : Int) (l : List TierL) (w : World) (hr : RchRow w v r) (fit : RFit r) (hl : CellRow w tv l.length (flat penc l)) (hn : l.length ≤ 1000000) :
    Calls Tryz.prog 102 #[v, .int .i64 E, tv] w fun x w' => x = .returned (.int .i64 ((mFur r E l : Nat) : Int)) ∧ Below w.heap.size w w' := by
  have HR0 := Hid.of hr
  have FT := Hid.of fit
  have HL := Hid.of hl
  obtain ⟨s, f, rfl, hs, hf, -, -⟩ := hr
  unfold rVal at HR0 ⊢
  obtain ⟨ta, tc, rfl, -⟩ := hl
  obtain ⟨N, hN⟩ : ∃ N, l.length = N := ⟨_, rfl⟩
  obtain ⟨now, hnow⟩ : ∃ now, r.1 = now := ⟨_, rfl⟩
  obtain ⟨n, hnn⟩ : ∃ n, r.2.1.1 = n := ⟨_, rfl⟩
  rw [hN] at HL
  rw [hnow, hnn] at HR0
  rw [hN, hnow, hnn]
  obtain ⟨z, hz⟩ : ∃ z, w.heap.size = z := ⟨_, rfl⟩
  obtain ⟨w1, hw1⟩ : ∃ w1, w.alloc (.cells #[.int .i64 now, .string n, s, f] 47) = w1 := ⟨_, rfl⟩
  have b1 : Below w.heap.size w w1 := by rw [← hw1]; exact (Below.refl _ _).alloc (Nat.le_refl _) _
  have k1 : w1.heap[z]? = some (.cells #[.int .i64 now, .string n, s, f] 47 (0, 0)) := by rw [← hw1, ← hz]; exact (MapKept.heap_alloc w _).1
  have CS1 : Hid (Dc w1 [(⟨z, 0, none⟩, .int .i64 now), (⟨z, 1, none⟩, .string n), (⟨z, 2, none⟩, s), (⟨z, 3, none⟩, f)]) := Hid.of (Dc.cons (Array.getElem?_eq_some_iff.1 k1).1 (by rw [cell_of_row _ _ _ _ _ _ k1]; rfl) (Dc.cons (Array.getElem?_eq_some_iff.1 k1).1 (by rw [cell_of_row _ _ _ _ _ _ k1]; rfl) (Dc.cons (Array.getElem?_eq_some_iff.1 k1).1 (by rw [cell_of_row _ _ _ _ _ _ k1]; rfl) (Dc.cons (Array.getElem?_eq_some_iff.1 k1).1 (by rw [cell_of_row _ _ _ _ _ _ k1]; rfl) (Dc.nil _)))))
  have B1 := Hid.of b1
  have HW := Hid.of hw1
  have HZ := Hid.of hz
  have NL := Hid.of hN
  have n9 : N ≤ 1000000 := by omega
  clear hw1 fit hN hn b1 k1 hs hf hz hnow hnn
  go_enter Tryz.func102, Tryz.ntmps102
  go_upto_region 1 with fail
  rw [HW.out, HZ.out]
  clear HW
  go_wp2
  go_loopg [7, 12] N (fun kx bv iv wr => ∃ (j b : Nat), iv = .int .i64 j ∧ bv = .int .i64 b ∧ j ≤ N ∧ N - j ≤ kx ∧ Hid (b ≤ 1000000) ∧ Hid (mFur r E l = mFurN r E j b (l.drop j)) ∧ Hid (Dc wr [(⟨z, 0, none⟩, .int .i64 now), (⟨z, 1, none⟩, .string n), (⟨z, 2, none⟩, s), (⟨z, 3, none⟩, f)]) ∧ Hid (Below w.heap.size w wr))
  case atStart => exact ⟨0, 0, rfl, rfl, Nat.zero_le _, Nat.le_refl _, Hid.of (Nat.zero_le _), Hid.of rfl, CS1, B1⟩
  case round =>
    clear CS1 B1
    obtain ⟨j, b, rfl, rfl, hj, hk, HB9, HE, CS, HB⟩ := hrel
    have j0 : (0 : Int) ≤ (j : Int) := Int.natCast_nonneg _
    by_cases hlt : (j : Int) < (N : Int)
    · obtain ⟨t, ht⟩ : ∃ t, l[j]? = some t := ⟨_, List.getElem?_eq_getElem (by have := NL.out; omega)⟩
      obtain ⟨b1, o1, rfl, g1, d0, d1, d2, d3⟩ := p_at (HL.out.kept HB.out) j t ht
      have HT := Hid.of ht
      obtain ⟨t0, ev, t2, sh⟩ := t
      simp only at d0 d1 d2 d3
      have HJ : Hid (j < N) := Hid.of (by omega)
      obtain ⟨y, hy⟩ : ∃ y, wr.heap.size = y := ⟨_, rfl⟩
      obtain ⟨w2, hw2⟩ : ∃ w2, wr.alloc (.cells #[.string t0, .int .i64 ev, .int .i64 t2, .int .i64 sh] 89) = w2 := ⟨_, rfl⟩
      have z2 : w2.heap[y]? = some (.cells #[.string t0, .int .i64 ev, .int .i64 t2, .int .i64 sh] 89 (0, 0)) := by rw [← hw2, ← hy]; exact (MapKept.heap_alloc wr _).1
      have b2 : Below wr.heap.size wr w2 := by rw [← hw2]; exact (Below.refl _ _).alloc (Nat.le_refl _) _
      have B2 := Hid.of (HB.out.trans (b2.mono HB.out.size))
      have CS2 := Hid.of (CS.out.next b2)
      have CSY : Hid (Dc w2 [(⟨z, 0, none⟩, .int .i64 now), (⟨z, 1, none⟩, .string n), (⟨z, 2, none⟩, s), (⟨z, 3, none⟩, f), (⟨y, 1, none⟩, .int .i64 ev)]) := Hid.of (by
        obtain ⟨q1, q2⟩ := List.forall_mem_cons.1 CS2.out
        obtain ⟨q3, q4⟩ := List.forall_mem_cons.1 q2
        obtain ⟨q5, q6⟩ := List.forall_mem_cons.1 q4
        obtain ⟨q7, _⟩ := List.forall_mem_cons.1 q6
        exact Dc.cons q1.1 q1.2 (Dc.cons q3.1 q3.2 (Dc.cons q5.1 q5.2 (Dc.cons q7.1 q7.2 (Dc.cons (Array.getElem?_eq_some_iff.1 z2).1 (by rw [cell_of_row _ _ _ _ _ _ z2]; rfl) (Dc.nil _))))))
      have HW := Hid.of hw2
      have HY := Hid.of hy
      obtain ⟨dv, hdv⟩ : ∃ dv, gOn E ev = dv := ⟨_, rfl⟩
      have HDV := Hid.of hdv
      obtain ⟨fj, hfj⟩ : ∃ fj, rFromN r j = fj := ⟨_, rfl⟩
      obtain ⟨fb, hfb⟩ : ∃ fb, rFromN r b = fb := ⟨_, rfl⟩
      have HFJ := Hid.of hfj
      have HFB := Hid.of hfb
      have HE2 : Hid (mFur r E l = mFurN r E (j + 1) (if dv = true ∧ fj ≤ fb then j else b) (l.drop (j + 1))) := Hid.of (by rw [HE.out, mFurN_drop HT.out, hfj, hfb]; show mFurN r E (j + 1) (if gOn E ev = true ∧ _ then _ else _) _ = _; rw [hdv])
      have IJ : Hid (In64 (j : Int)) := Hid.of (by unfold In64; omega)
      have IB : Hid (In64 (b : Int)) := Hid.of (by have := HB9.out; unfold In64; omega)
      have RR : ∀ u, Below w.heap.size w u → Hid (RchRow u (.agg #[.int .i64 now, .string n, s, f]) r) := fun u hu => Hid.of (HR0.out.kept hu)
      clear ht g1 hw2 b2 hy HB z2 CS CS2 hdv hfj hfb HE HT
      go_upto_region 5 with fail
      rw [HW.out, HY.out]
      clear HW HY d0 d1 d2 d3
      cases dv with
      | false =>
        have bd := (Below.refl w2.heap.size w2).drew
        have B3 := Hid.of (B2.out.trans (bd.mono B2.out.size))
        have CS3 := Hid.of (CSY.out.next bd)
        clear bd
        have d0 := (CSY.out).head
        have d1 := ((CSY.out).tail).head
        have d2 := (((CSY.out).tail).tail).head
        have d3 := ((((CSY.out).tail).tail).tail).head
        have d4 := (((((CSY.out).tail).tail).tail).tail).head
        refine wp_region_noPanic ?_
        refine wp_region_held_drew (S := fun w' => w'.cell? ⟨z, 0, none⟩ = some (.int .i64 now) ∧ w'.cell? ⟨z, 1, none⟩ = some (.string n) ∧ w'.cell? ⟨z, 2, none⟩ = some (s) ∧ w'.cell? ⟨z, 3, none⟩ = some (f) ∧ w'.cell? ⟨y, 1, none⟩ = some (.int .i64 ev)) (by kernel_rfl) ?_ (fun hHeld => ?_)
        · exact ⟨d0, d1, d2, d3, d4⟩
        refine takeOp 0 (o := ⟨_, _, _, _, _, _⟩) (v := ?_) rfl (by kernel_rfl) (by rfl) hHeld ?_ ?_; rotate_left; (next => intro w' hSw; (try dsimp only at hSw); go_simp; all_goals with_reducible rfl); simp only [Act.put, pA9, pB9, pC9]
        refine takeOp 1 (o := ⟨_, _, _, _, _, _⟩) (v := ?_) rfl (by kernel_rfl) (by rfl) hHeld ?_ ?_; rotate_left; (next => intro w' hSw; (try dsimp only at hSw); go_simp; all_goals with_reducible rfl); simp only [Act.put, pA9, pB9, pC9]
        refine takeOp 2 (o := ⟨_, _, _, _, _, _⟩) (v := ?_) rfl (by kernel_rfl) (by rfl) hHeld ?_ ?_; rotate_left; (next => intro w' hSw; (try dsimp only at hSw); go_simp; all_goals with_reducible rfl); simp only [Act.put, pA9, pB9, pC9]
        refine wpAnyH_ready (rs := [3]) (by kernel_rfl) (by simp) ?_
        refine AllReadyH.cons (o := ⟨_, _, _, _, _, _⟩) rfl (fun K hK => ?_) AllReadyH.nil
        go_simp
        refine (divides_named2 HDV.out _).mono ?_
        rintro e w4 ⟨rfl, b4⟩
        have B4 := Hid.of (B3.out.trans (b4.mono B3.out.size))
        have CS4 := Hid.of (CS3.out.next b4)
        clear b4 CS3 B3
        clear hHeld d0 d1 d2 d3 d4
        have d0 := (CS4.out).head
        have d1 := ((CS4.out).tail).head
        have d2 := (((CS4.out).tail).tail).head
        have d3 := ((((CS4.out).tail).tail).tail).head
        have d4 := (((((CS4.out).tail).tail).tail).tail).head
        refine hK.out _ _ ⟨d0, d1, d2, d3, d4⟩ (fun hHeld => ?_)
        clear hK K
        try simp only [Act.put, pA9, pB9, pC9]
        refine takeOp 4 (o := ⟨_, _, _, _, _, _⟩) (v := ?_) rfl (by kernel_rfl) (by rfl) hHeld ?_ ?_; rotate_left; (next => intro w' hSw; (try dsimp only at hSw); go_simp; all_goals with_reducible rfl); simp only [Act.put, pA9, pB9, pC9]
        refine skipOp 5 (o := ⟨_, _, _, _, _, _⟩) rfl (by kernel_rfl) (by rfl) hHeld ?_
        simp only [Act.put, pA9, pB9, pC9]
        refine skipOp 6 (o := ⟨_, _, _, _, _, _⟩) rfl (by kernel_rfl) (by rfl) hHeld ?_
        simp only [Act.put, pA9, pB9, pC9]
        refine skipOp 7 (o := ⟨_, _, _, _, _, _⟩) rfl (by kernel_rfl) (by rfl) hHeld ?_
        simp only [Act.put, pA9, pB9, pC9]
        refine skipOp 8 (o := ⟨_, _, _, _, _, _⟩) rfl (by kernel_rfl) (by rfl) hHeld ?_
        simp only [Act.put, pA9, pB9, pC9]
        refine skipOp 9 (o := ⟨_, _, _, _, _, _⟩) rfl (by kernel_rfl) (by rfl) hHeld ?_
        simp only [Act.put, pA9, pB9, pC9]
        refine skipOp 10 (o := ⟨_, _, _, _, _, _⟩) rfl (by kernel_rfl) (by rfl) hHeld ?_
        simp only [Act.put, pA9, pB9, pC9]
        refine skipOp 11 (o := ⟨_, _, _, _, _, _⟩) rfl (by kernel_rfl) (by rfl) hHeld ?_
        simp only [Act.put, pA9, pB9, pC9]
        refine takeOp 12 (o := ⟨_, _, _, _, _, _⟩) (v := ?_) rfl (by kernel_rfl) (by rfl) hHeld ?_ ?_; rotate_left; (next => intro w' hSw; (try dsimp only at hSw); go_simp; all_goals with_reducible rfl); simp only [Act.put, pA9, pB9, pC9]
        refine wpAnyH_done (by kernel_rfl) ?_ _
        refine NoPanic.normal ?_
        clear hHeld d0 d1 d2 d3 d4
        have B9 := B4
        have CS9 : Hid (Dc _ [(⟨z, 0, none⟩, .int .i64 now), (⟨z, 1, none⟩, .string n), (⟨z, 2, none⟩, s), (⟨z, 3, none⟩, f)]) := Hid.of (Dc.left (l := [(⟨y, 1, none⟩, .int .i64 ev)]) CS4.out)
        clear CS4 B4 CSY B2
        go_wp2
        go_roundg (N - (j + 1))
        case measure => have := HJ.out; omega
        case rel => exact ⟨j + 1, b, by go_num, rfl, HJ.out, Nat.le_refl _, HB9, Hid.of (by rw [HE2.out, if_neg (by simp)]), CS9, B9⟩
      | true =>
        go_cut [29] from 17 to 29 (fun xv wx => xv = .bool (decide (fj ≤ fb)) ∧ Hid (Dc wx [(⟨z, 0, none⟩, .int .i64 now), (⟨z, 1, none⟩, .string n), (⟨z, 2, none⟩, s), (⟨z, 3, none⟩, f)]) ∧ Hid (Below w.heap.size w wx))
        case first =>
          have bd := (Below.refl w2.heap.size w2).drew
          have B3 := Hid.of (B2.out.trans (bd.mono B2.out.size))
          have CS3 := Hid.of (CSY.out.next bd)
          clear bd
          have d0 := (CSY.out).head
          have d1 := ((CSY.out).tail).head
          have d2 := (((CSY.out).tail).tail).head
          have d3 := ((((CSY.out).tail).tail).tail).head
          have d4 := (((((CSY.out).tail).tail).tail).tail).head
          refine wp_region_noPanic ?_
          refine wp_region_held_drew (S := fun w' => w'.cell? ⟨z, 0, none⟩ = some (.int .i64 now) ∧ w'.cell? ⟨z, 1, none⟩ = some (.string n) ∧ w'.cell? ⟨z, 2, none⟩ = some (s) ∧ w'.cell? ⟨z, 3, none⟩ = some (f) ∧ w'.cell? ⟨y, 1, none⟩ = some (.int .i64 ev)) (by kernel_rfl) ?_ (fun hHeld => ?_)
          · exact ⟨d0, d1, d2, d3, d4⟩
          refine takeOp 0 (o := ⟨_, _, _, _, _, _⟩) (v := ?_) rfl (by kernel_rfl) (by rfl) hHeld ?_ ?_; rotate_left; (next => intro w' hSw; (try dsimp only at hSw); go_simp; all_goals with_reducible rfl); simp only [Act.put, pA9, pB9, pC9]
          refine takeOp 1 (o := ⟨_, _, _, _, _, _⟩) (v := ?_) rfl (by kernel_rfl) (by rfl) hHeld ?_ ?_; rotate_left; (next => intro w' hSw; (try dsimp only at hSw); go_simp; all_goals with_reducible rfl); simp only [Act.put, pA9, pB9, pC9]
          refine takeOp 2 (o := ⟨_, _, _, _, _, _⟩) (v := ?_) rfl (by kernel_rfl) (by rfl) hHeld ?_ ?_; rotate_left; (next => intro w' hSw; (try dsimp only at hSw); go_simp; all_goals with_reducible rfl); simp only [Act.put, pA9, pB9, pC9]
          refine wpAnyH_ready (rs := [3]) (by kernel_rfl) (by simp) ?_
          refine AllReadyH.cons (o := ⟨_, _, _, _, _, _⟩) rfl (fun K hK => ?_) AllReadyH.nil
          go_simp
          refine (divides_named2 HDV.out _).mono ?_
          rintro e w4 ⟨rfl, b4⟩
          have B4 := Hid.of (B3.out.trans (b4.mono B3.out.size))
          have CS4 := Hid.of (CS3.out.next b4)
          clear b4 CS3 B3
          clear hHeld d0 d1 d2 d3 d4
          have d0 := (CS4.out).head
          have d1 := ((CS4.out).tail).head
          have d2 := (((CS4.out).tail).tail).head
          have d3 := ((((CS4.out).tail).tail).tail).head
          have d4 := (((((CS4.out).tail).tail).tail).tail).head
          refine hK.out _ _ ⟨d0, d1, d2, d3, d4⟩ (fun hHeld => ?_)
          clear hK K
          try simp only [Act.put, pA9, pB9, pC9]
          refine takeOp 4 (o := ⟨_, _, _, _, _, _⟩) (v := ?_) rfl (by kernel_rfl) (by rfl) hHeld ?_ ?_; rotate_left; (next => intro w' hSw; (try dsimp only at hSw); go_simp; all_goals with_reducible rfl); simp only [Act.put, pA9, pB9, pC9]
          refine takeOp 5 (o := ⟨_, _, _, _, _, _⟩) (v := ?_) rfl (by kernel_rfl) (by rfl) hHeld ?_ ?_; rotate_left; (next => intro w' hSw; (try dsimp only at hSw); go_simp; all_goals with_reducible rfl); simp only [Act.put, pA9, pB9, pC9]
          refine takeOp 6 (o := ⟨_, _, _, _, _, _⟩) (v := ?_) rfl (by kernel_rfl) (by rfl) hHeld ?_ ?_; rotate_left; (next => intro w' hSw; (try dsimp only at hSw); go_simp; all_goals with_reducible rfl); simp only [Act.put, pA9, pB9, pC9]
          refine takeOp 8 (o := ⟨_, _, _, _, _, _⟩) (v := ?_) rfl (by kernel_rfl) (by rfl) hHeld ?_ ?_; rotate_left; (next => intro w' hSw; (try dsimp only at hSw); go_simp; all_goals with_reducible rfl); simp only [Act.put, pA9, pB9, pC9]
          refine takeOp 9 (o := ⟨_, _, _, _, _, _⟩) (v := ?_) rfl (by kernel_rfl) (by rfl) hHeld ?_ ?_; rotate_left; (next => intro w' hSw; (try dsimp only at hSw); go_simp; all_goals with_reducible rfl); simp only [Act.put, pA9, pB9, pC9]
          refine wpAnyH_ready (rs := [7]) (by kernel_rfl) (by simp) ?_
          refine AllReadyH.cons (o := ⟨_, _, _, _, _, _⟩) rfl (fun K hK => ?_) AllReadyH.nil
          go_simp
          refine (reaches.from_ _ r (j : Int) _ trivial FT.out IJ.out (RR _ B4.out).out).mono ?_
          rintro e w5 ⟨rfl, b5⟩
          rw [rFrom_nat2, HFJ.out]
          have B5 := Hid.of (B4.out.trans (b5.mono B4.out.size))
          have CS5 := Hid.of (CS4.out.next b5)
          clear b5 CS4 B4
          clear hHeld d0 d1 d2 d3 d4
          have d0 := (CS5.out).head
          have d1 := ((CS5.out).tail).head
          have d2 := (((CS5.out).tail).tail).head
          have d3 := ((((CS5.out).tail).tail).tail).head
          have d4 := (((((CS5.out).tail).tail).tail).tail).head
          refine hK.out _ _ ⟨d0, d1, d2, d3, d4⟩ (fun hHeld => ?_)
          clear hK K
          try simp only [Act.put, pA9, pB9, pC9]
          refine wpAnyH_ready (rs := [10]) (by kernel_rfl) (by simp) ?_
          refine AllReadyH.cons (o := ⟨_, _, _, _, _, _⟩) rfl (fun K hK => ?_) AllReadyH.nil
          go_simp
          refine (reaches.from_ _ r (b : Int) _ trivial FT.out IB.out (RR _ B5.out).out).mono ?_
          rintro e w6 ⟨rfl, b6⟩
          rw [rFrom_nat2, HFB.out]
          have B6 := Hid.of (B5.out.trans (b6.mono B5.out.size))
          have CS6 := Hid.of (CS5.out.next b6)
          clear b6 CS5 B5
          clear hHeld d0 d1 d2 d3 d4
          have d0 := (CS6.out).head
          have d1 := ((CS6.out).tail).head
          have d2 := (((CS6.out).tail).tail).head
          have d3 := ((((CS6.out).tail).tail).tail).head
          have d4 := (((((CS6.out).tail).tail).tail).tail).head
          refine hK.out _ _ ⟨d0, d1, d2, d3, d4⟩ (fun hHeld => ?_)
          clear hK K
          try simp only [Act.put, pA9, pB9, pC9]
          refine takeOp 11 (o := ⟨_, _, _, _, _, _⟩) (v := ?_) rfl (by kernel_rfl) (by rfl) hHeld ?_ ?_; rotate_left; (next => intro w' hSw; (try dsimp only at hSw); go_simp; all_goals with_reducible rfl); simp only [Act.put, pA9, pB9, pC9]
          refine takeOp 12 (o := ⟨_, _, _, _, _, _⟩) (v := ?_) rfl (by kernel_rfl) (by rfl) hHeld ?_ ?_; rotate_left; (next => intro w' hSw; (try dsimp only at hSw); go_simp; all_goals with_reducible rfl); simp only [Act.put, pA9, pB9, pC9]
          refine wpAnyH_done (by kernel_rfl) ?_ _
          refine NoPanic.normal ?_
          clear hHeld d0 d1 d2 d3 d4
          go_wp2_with fail
          go_meet
          exact ⟨rfl, Hid.of (Dc.left (k := [(⟨z, 0, none⟩, .int .i64 now), (⟨z, 1, none⟩, .string n), (⟨z, 2, none⟩, s), (⟨z, 3, none⟩, f)]) (l := [(⟨y, 1, none⟩, .int .i64 ev)]) CS6.out), B6⟩
        case rest =>
          obtain ⟨rfl, CS9, B9⟩ := hcut
          clear CSY B2
          by_cases hle : fj ≤ fb
          · have LE := Hid.of hle
            go_wp2
            go_roundg (N - (j + 1))
            case measure => have := HJ.out; omega
            case rel => exact ⟨j + 1, j, by go_num, rfl, HJ.out, Nat.le_refl _, Hid.of (by have := HJ.out; omega), Hid.of (by rw [HE2.out, if_pos ⟨by trivial, LE.out⟩]), CS9, B9⟩
          · have LE := Hid.of hle
            go_wp2
            go_roundg (N - (j + 1))
            case measure => have := HJ.out; omega
            case rel => exact ⟨j + 1, b, by go_num, rfl, HJ.out, Nat.le_refl _, HB9, Hid.of (by rw [HE2.out, if_neg (fun c => by have h1 := LE.out; have h2 := c.2; omega)]), CS9, B9⟩
    · obtain rfl : j = N := by omega
      have e : Hid (mFur r E l = b) := Hid.of (by rw [HE.out, ← NL.out, List.drop_length]; rfl)
      go_wp2
      go_ret
      rw [e.out]
      exact ⟨rfl, HB.out⟩

end Go.Proofs.YtbhcafginmkaaaaGreat

namespace Go.Proofs.YtbhcafginmkaaaaGreat
open Go.RowKit Go.Lib

/-- While a plan is made: it lies in block m, its sources so far in fv. -/
structure MG (w0 w1 : World) (zb m : Nat) (n : ByteArray) (s2 fv : Value) (q : PolL) (L : List (Addr × Value)) (xs : List Int) (w : World) : Prop where
  k : LBlk w m n s2 fv
  kz : LBlk w zb ⟨#[]⟩ (.slice none 0 0) (.slice none 0 0)
  lz : zb < w1.heap.size
  os : w.ownsRow w1.heap.size 89 4 s2 q.2.length (flat penc q.2)
  of : w.ownsRow w1.heap.size 3 1 fv xs.length (xs.map (Value.int .i64))
  ap : Apart s2 fv
  hm : w1.heap.size ≤ m
  ms : s2.ownBlock ≠ some m
  mf : fv.ownBlock ≠ some m
  cs : Dc w L
  ll : ∀ x ∈ L, x.1.block < w1.heap.size
  fr : Below w0.heap.size w0 w
  f1 : w0.heap.size ≤ w1.heap.size

section
variable {w0 w1 w w' : World} {zb m : Nat} {n : ByteArray} {s2 fv : Value} {q : PolL} {L : List (Addr × Value)} {xs : List Int}

theorem MG.lt (h : MG w0 w1 zb m n s2 fv q L xs w) : m < w.heap.size := (Array.getElem?_eq_some_iff.1 h.k).1

theorem MG.next (h : MG w0 w1 zb m n s2 fv q L xs w) (b : Below w.heap.size w w') : MG w0 w1 zb m n s2 fv q L xs w' :=
  ⟨lblk_next h.k b, lblk_next h.kz b, h.lz, (Step.of_below (F := fun _ => False) b).own h.os (fun _ _ c => c), (Step.of_below (F := fun _ => False) b).own h.of (fun _ _ c => c), h.ap, h.hm, h.ms, h.mf, h.cs.next b, h.ll, h.fr.trans (b.mono h.fr.size), h.f1⟩

/-- One source more. -/
theorem MG.more (h : MG w0 w1 zb m n s2 fv q L xs w) {x : Int} {fv' : Value} {w2 : World} (b : Below w.heap.size w w') (g : w'.grownBy w2 fv.ownBlock) (o : w2.ownsRow w1.heap.size 3 1 fv' (xs.length + 1) (xs.map (Value.int .i64) ++ [.int .i64 x]))
    (hb : fv'.ownBlock = fv.ownBlock ∨ ∃ g, fv'.ownBlock = some g ∧ w'.heap.size ≤ g) : MG w0 w1 zb m n s2 fv' q L (xs ++ [x]) (w2.setCell ⟨m, 2, none⟩ fv') := by
  have h' := h.next b
  have hlt : m < w'.heap.size := h'.lt
  have k2 : LBlk w2 m n s2 fv := by
    show _ = _
    rw [g.block m hlt (fun c => h.mf c.symm)]
    exact h'.k
  have g3 : w2.grownBy (w2.setCell ⟨m, 2, none⟩ fv') (some m) := grownBy_setCell _ _ _ _
  have mf' : fv'.ownBlock ≠ some m := by
    rcases hb with e | ⟨g', e, hg⟩
    · rw [e]; exact h.mf
    · rw [e]
      intro c
      cases c
      omega
  have ap' : Apart s2 fv' := by
    rcases hb with e | ⟨g', e, hg⟩
    · intro k hk hk'
      rw [e] at hk'
      exact h.ap k hk hk'
    · intro k hk hk'
      rw [e] at hk'
      cases hk'
      have := (h'.os.lt _ hk).2
      omega
  have keep : ∀ {e : TypeId} {sz N : Nat} {v : Value} {ys : List Value}, w2.ownsRow w1.heap.size e sz v N ys → v.ownBlock ≠ some m → (w2.setCell ⟨m, 2, none⟩ fv').ownsRow w1.heap.size e sz v N ys := fun {e sz N v ys} hh hne => by
    refine ⟨hh.1, ?_⟩
    rcases hh.2 with c | ⟨g', cap, cur, ev, hB', hrow, rest⟩
    · exact .inl c
    · refine .inr ⟨g', cap, cur, ev, hB', ?_, rest⟩
      rw [g3.block g' (Array.getElem?_eq_some_iff.1 hrow).1 (fun c => hne (by rw [ev, c.symm]; rfl))]
      exact hrow
  have os2 : w2.ownsRow w1.heap.size 89 4 s2 q.2.length (flat penc q.2) := by
    refine ⟨h'.os.1, ?_⟩
    rcases h'.os.2 with c | ⟨g', cap, cur, ev, hB', hrow, rest⟩
    · exact .inl c
    · refine .inr ⟨g', cap, cur, ev, hB', ?_, rest⟩
      rw [g.block g' (Array.getElem?_eq_some_iff.1 hrow).1 (fun c => h.ap g' (by rw [ev]; rfl) c.symm)]
      exact hrow
  refine ⟨?_, ?_, h.lz, keep os2 h.ms, ?_, ap', h.hm, h.ms, mf', ?_, h.ll, ?_, h.f1⟩
  · have := row_set (i := 2) k2 fv'
    show _ = _
    rw [this]
    simp
  · have hz := h'.kz
    have hzl := (Array.getElem?_eq_some_iff.1 hz).1
    show _ = _
    rw [g3.block zb (by have := g.size; omega) (fun c => by have := Option.some.inj c; have := h.lz; have := h.hm; omega), g.block zb hzl (fun c => by have := (h'.of.lt _ c.symm).1; have := h.lz; omega)]
    exact hz
  · rw [List.length_append, List.map_append]
    exact keep o mf'
  · refine (h'.cs.grown g (fun x hx c => ?_)).grown g3 (fun x hx c => ?_)
    · have h1 := h.ll x hx
      have h2 := (h'.of.lt _ c.symm).1
      omega
    · have h1 := h.ll x hx
      have h2 := h.hm
      have := Option.some.inj c
      omega
  · have hf := h'.fr
    exact (hf.grown g hf.size (fun k hk => by have := (h'.of.lt _ hk).1; have := h.f1; omega)).grown g3 (by have := g.size; have := hf.size; omega) (fun k hk => by cases hk; have := h.hm; have := h.f1; omega)
end

theorem int_info' : (Tryz.prog.info? 3).map (fun i => (i.zero, i.size, i.bytes)) = some (some (.int .i64 0), 1, 8) := by kernel_rfl

set_option maxRecDepth 20000 in
set_option maxHeartbeats 6400000 in
theorem make_any (v rv tv : Value) (p q : PolL) (r : RchL) (w : World) (fp : PFit p) (fq : PFit q) (fr : RFit r) (hv : PolRow w v p) (hr : RchRow w rv r) (ht : PolRow w tv q) :
    Calls Tryz.prog 16 #[v, rv, tv] w fun x w' => ∃ u, x = .returned (.tuple #[u, .int .i64 (mErr p q)]) ∧ OwnPlan w.heap.size w' u (mMake p r q) ∧ Below w.heap.size w w' := by
  have FP := Hid.of fp
  have FQ := Hid.of fq
  have FR := Hid.of fr
  have HV := Hid.of hv
  have HR := Hid.of hr
  have HT := Hid.of ht
  obtain ⟨s, rfl, hs, -⟩ := hv
  obtain ⟨rs, rf, rfl, -, -, -, -⟩ := hr
  obtain ⟨s3, rfl, hs3, -⟩ := ht
  have HS := Hid.of hs
  have HS3 := Hid.of hs3
  obtain ⟨sa, sc, rfl, -⟩ := hs
  obtain ⟨ta, tc, rfl, -⟩ := hs3
  unfold rVal at HR ⊢
  obtain ⟨pn, hpn⟩ : ∃ n, p.1 = n := ⟨_, rfl⟩
  obtain ⟨qn, hqn⟩ : ∃ n, q.1 = n := ⟨_, rfl⟩
  obtain ⟨PN, hPN⟩ : ∃ N, p.2.length = N := ⟨_, rfl⟩
  obtain ⟨QN, hQN⟩ : ∃ N, q.2.length = N := ⟨_, rfl⟩
  obtain ⟨now, hnow⟩ : ∃ now, r.1 = now := ⟨_, rfl⟩
  obtain ⟨rn, hrn⟩ : ∃ n, r.2.1.1 = n := ⟨_, rfl⟩
  rw [hpn, hPN] at HV
  rw [hqn, hQN] at HT
  rw [hnow, hrn] at HR
  rw [hPN] at HS
  rw [hQN] at HS3
  rw [hpn, hqn, hPN, hQN, hnow, hrn]
  obtain ⟨B, hB⟩ : ∃ B, w.heap.size = B := ⟨_, rfl⟩
  obtain ⟨w1, hw1⟩ : ∃ w1, (((w.alloc (.cells #[.string pn, .slice sa PN sc] 24)).alloc (.cells #[.int .i64 now, .string rn, rs, rf] 47)).alloc (.cells #[.string qn, .slice ta QN tc] 24)).alloc (.cells #[.string ⟨#[]⟩, .slice none 0 0, .slice none 0 0] 49) = w1 := ⟨_, rfl⟩
  have hfour : Below w.heap.size w w1 ∧ w1.heap.size = B + 4 ∧ w1.heap[B]? = some (.cells #[.string pn, .slice sa PN sc] 24 (0, 0)) ∧ w1.heap[B + 1]? = some (.cells #[.int .i64 now, .string rn, rs, rf] 47 (0, 0)) ∧ w1.heap[B + 2]? = some (.cells #[.string qn, .slice ta QN tc] 24 (0, 0)) ∧ LBlk w1 (B + 3) ⟨#[]⟩ (.slice none 0 0) (.slice none 0 0) := by
    rw [← hw1, ← hB]
    obtain ⟨wa, ha⟩ : ∃ wa, w.alloc (.cells #[.string pn, .slice sa PN sc] 24) = wa := ⟨_, rfl⟩
    have a0 : wa.heap[w.heap.size]? = some (.cells #[.string pn, .slice sa PN sc] 24 (0, 0)) := by rw [← ha]; exact (MapKept.heap_alloc w _).1
    have asz : wa.heap.size = w.heap.size + 1 := by rw [← ha]; simp
    have ab : Below w.heap.size w wa := by rw [← ha]; exact (Below.refl _ _).alloc (Nat.le_refl _) _
    rw [ha]
    obtain ⟨wb, hb⟩ : ∃ wb, wa.alloc (.cells #[.int .i64 now, .string rn, rs, rf] 47) = wb := ⟨_, rfl⟩
    have b0 : wb.heap[w.heap.size + 1]? = some (.cells #[.int .i64 now, .string rn, rs, rf] 47 (0, 0)) := by rw [← hb, ← asz]; exact (MapKept.heap_alloc wa _).1
    have bs : wb.heap.size = w.heap.size + 2 := by rw [← hb]; simp [asz]
    have bb : Below wa.heap.size wa wb := by rw [← hb]; exact (Below.refl _ _).alloc (Nat.le_refl _) _
    rw [hb]
    obtain ⟨wc, hc⟩ : ∃ wc, wb.alloc (.cells #[.string qn, .slice ta QN tc] 24) = wc := ⟨_, rfl⟩
    have c0 : wc.heap[w.heap.size + 2]? = some (.cells #[.string qn, .slice ta QN tc] 24 (0, 0)) := by rw [← hc, ← bs]; exact (MapKept.heap_alloc wb _).1
    have cs : wc.heap.size = w.heap.size + 3 := by rw [← hc]; simp [bs]
    have cb : Below wb.heap.size wb wc := by rw [← hc]; exact (Below.refl _ _).alloc (Nat.le_refl _) _
    rw [hc]
    obtain ⟨wd, hd⟩ : ∃ wd, wc.alloc (.cells #[.string ⟨#[]⟩, .slice none 0 0, .slice none 0 0] 49) = wd := ⟨_, rfl⟩
    have d0 : wd.heap[w.heap.size + 3]? = some (.cells #[.string ⟨#[]⟩, .slice none 0 0, .slice none 0 0] 49 (0, 0)) := by rw [← hd, ← cs]; exact (MapKept.heap_alloc wc _).1
    have ds : wd.heap.size = w.heap.size + 4 := by rw [← hd]; simp [cs]
    have db : Below wc.heap.size wc wd := by rw [← hd]; exact (Below.refl _ _).alloc (Nat.le_refl _) _
    rw [hd]
    refine ⟨((ab.trans (bb.mono (by omega))).trans (cb.mono (by omega))).trans (db.mono (by omega)), ds, ?_, ?_, ?_, d0⟩
    · rw [db.block _ (by omega), cb.block _ (by omega), bb.block _ (by omega)]; exact a0
    · rw [db.block _ (by omega), cb.block _ (by omega)]; exact b0
    · rw [db.block _ (by omega)]; exact c0
  obtain ⟨b1, z1, k0, k1, k2, k3⟩ := hfour
  have CS1 : Hid (Dc w1 [(⟨B, 0, none⟩, .string pn), (⟨B, 1, none⟩, .slice sa PN sc), (⟨B + 1, 0, none⟩, .int .i64 now), (⟨B + 1, 1, none⟩, .string rn), (⟨B + 1, 2, none⟩, rs), (⟨B + 1, 3, none⟩, rf), (⟨B + 2, 0, none⟩, .string qn), (⟨B + 2, 1, none⟩, .slice ta QN tc)]) := Hid.of (Dc.app (Dc.one k0 (i := 0) rfl) (Dc.app (Dc.one k0 (i := 1) rfl) (Dc.app (Dc.one k1 (i := 0) rfl) (Dc.app (Dc.one k1 (i := 1) rfl) (Dc.app (Dc.one k1 (i := 2) rfl) (Dc.app (Dc.one k1 (i := 3) rfl) (Dc.app (Dc.one k2 (i := 0) rfl) (Dc.one k2 (i := 1) rfl))))))))
  have K3 : Hid (LBlk w1 (B + 3) ⟨#[]⟩ (.slice none 0 0) (.slice none 0 0)) := Hid.of k3
  have B1 := Hid.of b1
  have Z1 := Hid.of z1
  have HW := Hid.of hw1
  have HBB := Hid.of hB
  have NP := Hid.of hPN
  have NQ := Hid.of hQN
  have HN := Hid.of hqn
  clear hw1 b1 z1 k0 k1 k2 k3 hB fp fq fr hpn hqn hPN hQN hnow hrn
  go_enter Tryz.func16, Tryz.ntmps16
  go_upto_region 1 with fail
  rw [HW.out, HBB.out]
  clear HW
  obtain ⟨q0, q1⟩ : w1.cell? ⟨B, 0, none⟩ = some (.string pn) ∧ w1.cell? ⟨B, 1, none⟩ = some (.slice sa PN sc) := ⟨CS1.out.head, CS1.out.tail.head⟩
  go_wp2_with fail
  refine (check_any _ p _ FP.out (HV.out.kept B1.out)).mono ?_
  rintro e w2 ⟨rfl, b2⟩
  have B2 := Hid.of (B1.out.trans (b2.mono B1.out.size))
  have CS2 := Hid.of (CS1.out.next b2)
  have K2 := Hid.of (lblk_next K3.out b2)
  have S2 : Hid (w1.heap.size ≤ w2.heap.size) := Hid.of b2.size
  clear b2 q0 q1 CS1 K3
  obtain ⟨ce, cn, hce⟩ : ∃ ce cn, pCheck p = (ce, cn) := ⟨_, _, rfl⟩
  have HCE := Hid.of hce
  rw [hce]
  simp only
  clear hce
  by_cases hc : ce = 0
  case neg =>
    have hc2 : (ce == 0) = false := beq_eq_false_iff_ne.2 hc
    have ER : Hid (mErr p q = ce ∧ mMake p r q = ((⟨#[]⟩, []), [])) := Hid.of (by
      have e : mErr p q = ce := by unfold mErr; rw [HCE.out]; exact if_pos hc
      exact ⟨e, by unfold mMake; rw [if_neg (by rw [e]; exact hc)]⟩)
    have f0 := row_frozen (i := 0) K2.out
    have f1 := row_frozen (i := 1) K2.out
    have f2 := row_frozen (i := 2) K2.out
    obtain ⟨t0, t1, t2⟩ := lblk_at K2.out
    have KZ := lblk_set (n' := ⟨#[]⟩) (s' := .slice none 0 0) (f' := .slice none 0 0) K2.out
    have gz := setL_grown w2 (B + 3) ⟨#[]⟩ (.slice none 0 0) (.slice none 0 0)
    have BZ : Hid (Below w.heap.size w (setL w2 (B + 3) ⟨#[]⟩ (.slice none 0 0) (.slice none 0 0))) := Hid.of (B2.out.grown gz B2.out.size (fun k hk => by cases hk; have := HBB.out; omega))
    obtain ⟨r0, r1, r2⟩ := lblk_at KZ
    clear KZ gz
    unfold setL at r0 r1 r2 BZ
    go_wp2
    refine bodyPost_ret (v := .tuple #[.agg #[.string ⟨#[]⟩, .slice none 0 0, .slice none 0 0], .int .i64 ce]) ?_ rfl ⟨.agg #[.string ⟨#[]⟩, .slice none 0 0, .slice none 0 0], by rw [ER.out.1], by rw [ER.out.2]; exact ⟨_, _, rfl, World.ownsRow_nil _ _ _ _, World.ownsRow_nil _ _ _ _, fun g hg => by cases hg⟩, BZ.out⟩
    simp [results, Tryz.results16, go_sem, r0, r1, r2]
  subst hc
  obtain ⟨q0, q1⟩ : w2.cell? ⟨B + 2, 0, none⟩ = some (.string qn) ∧ w2.cell? ⟨B + 2, 1, none⟩ = some (.slice ta QN tc) := ⟨CS2.out.tail.tail.tail.tail.tail.tail.head, CS2.out.tail.tail.tail.tail.tail.tail.tail.head⟩
  go_wp2_with fail
  refine (check_any _ q _ FQ.out (HT.out.kept B2.out)).mono ?_
  rintro e w3 ⟨rfl, b3⟩
  have B3 := Hid.of (B2.out.trans (b3.mono B2.out.size))
  have CS3 := Hid.of (CS2.out.next b3)
  have K3 := Hid.of (lblk_next K2.out b3)
  have S3 : Hid (w1.heap.size ≤ w3.heap.size) := Hid.of (Nat.le_trans S2.out b3.size)
  clear b3 q0 q1 CS2 K2 B2 S2
  obtain ⟨de, dn, hde⟩ : ∃ de dn, pCheck q = (de, dn) := ⟨_, _, rfl⟩
  have HDE := Hid.of hde
  rw [hde]
  simp only
  clear hde
  by_cases hd : de = 0
  case neg =>
    have hc2 : (de == 0) = false := beq_eq_false_iff_ne.2 hd
    have ER : Hid (mErr p q = de ∧ mMake p r q = ((⟨#[]⟩, []), [])) := Hid.of (by
      have e : mErr p q = de := by unfold mErr; rw [HCE.out, HDE.out]; rfl
      exact ⟨e, by unfold mMake; rw [if_neg (by rw [e]; exact hd)]⟩)
    have B2 := B3
    have K2 := K3
    have f0 := row_frozen (i := 0) K2.out
    have f1 := row_frozen (i := 1) K2.out
    have f2 := row_frozen (i := 2) K2.out
    obtain ⟨t0, t1, t2⟩ := lblk_at K2.out
    have KZ := lblk_set (n' := ⟨#[]⟩) (s' := .slice none 0 0) (f' := .slice none 0 0) K2.out
    have gz := setL_grown w3 (B + 3) ⟨#[]⟩ (.slice none 0 0) (.slice none 0 0)
    have BZ : Hid (Below w.heap.size w (setL w3 (B + 3) ⟨#[]⟩ (.slice none 0 0) (.slice none 0 0))) := Hid.of (B2.out.grown gz B2.out.size (fun k hk => by cases hk; have := HBB.out; omega))
    obtain ⟨r0, r1, r2⟩ := lblk_at KZ
    clear KZ gz
    unfold setL at r0 r1 r2 BZ
    go_wp2
    refine bodyPost_ret (v := .tuple #[.agg #[.string ⟨#[]⟩, .slice none 0 0, .slice none 0 0], .int .i64 de]) ?_ rfl ⟨.agg #[.string ⟨#[]⟩, .slice none 0 0, .slice none 0 0], by rw [ER.out.1], by rw [ER.out.2]; exact ⟨_, _, rfl, World.ownsRow_nil _ _ _ _, World.ownsRow_nil _ _ _ _, fun g hg => by cases hg⟩, BZ.out⟩
    simp [results, Tryz.results16, go_sem, r0, r1, r2]
  subst hd
  have E0 : Hid (mErr p q = 0) := Hid.of (by unfold mErr; rw [HCE.out, HDE.out]; rfl)
  obtain ⟨q0, q1⟩ : w3.cell? ⟨B + 2, 0, none⟩ = some (.string qn) ∧ w3.cell? ⟨B + 2, 1, none⟩ = some (.slice ta QN tc) := ⟨CS3.out.tail.tail.tail.tail.tail.tail.head, CS3.out.tail.tail.tail.tail.tail.tail.tail.head⟩
  go_wp2_with fail
  refine (copy_any _ q _ FQ.out (HT.out.kept B3.out)).mono ?_
  rintro e w4 ⟨u, rfl, ou, b4⟩
  obtain ⟨s2, rfl, o2⟩ := ou
  rw [HN.out]
  obtain ⟨sa2, sc2, rfl, -⟩ := own_one o2
  rw [NQ.out] at o2 ⊢
  unfold polVal
  have B4 := Hid.of (B3.out.trans (b4.mono B3.out.size))
  obtain ⟨m, hm⟩ : ∃ m, w4.heap.size = m := ⟨_, rfl⟩
  obtain ⟨w5, hw5⟩ : ∃ w5, w4.alloc (.cells #[.string qn, .slice sa2 QN sc2, .slice none 0 0] 49) = w5 := ⟨_, rfl⟩
  have b5 : Below w4.heap.size w4 w5 := by rw [← hw5]; exact (Below.refl _ _).alloc (Nat.le_refl _) _
  have k5 : LBlk w5 m qn (.slice sa2 QN sc2) (.slice none 0 0) := by rw [← hw5, ← hm]; exact (MapKept.heap_alloc w4 _).1
  have M5 : Hid (MG w w1 (B + 3) m qn (.slice sa2 QN sc2) (.slice none 0 0) q [(⟨B, 0, none⟩, .string pn), (⟨B, 1, none⟩, .slice sa PN sc), (⟨B + 1, 0, none⟩, .int .i64 now), (⟨B + 1, 1, none⟩, .string rn), (⟨B + 1, 2, none⟩, rs), (⟨B + 1, 3, none⟩, rf), (⟨B + 2, 0, none⟩, .string qn), (⟨B + 2, 1, none⟩, .slice ta QN tc)] [] w5) := Hid.of
    ⟨k5, lblk_next (lblk_next K3.out b4) b5, by have := Z1.out; omega, by rw [NQ.out]; exact own_mono ((Step.of_below (F := fun _ => False) b5).own o2 (fun _ _ c => c)) S3.out, World.ownsRow_nil _ _ _ _, (fun g _ hg => by cases hg), (by have := b4.size; have := S3.out; omega), (fun c => by have := (o2.lt m c).2; omega), (fun c => by cases c), (CS3.out.next b4).next b5, fun x hx => by
      have := Z1.out
      simp only [List.mem_cons, List.not_mem_nil, or_false] at hx
      rcases hx with rfl | rfl | rfl | rfl | rfl | rfl | rfl | rfl <;> (simp only; omega), B4.out.trans (b5.mono B4.out.size), B1.out.size⟩
  have HW := Hid.of hw5
  have HMM := Hid.of hm
  clear hw5 hm b5 k5 b4 o2 q0 q1 CS3 K3 S3 B3
  obtain ⟨i0, hi, hz0, hz1, hz2⟩ := info_parts int_info'
  have HI := Hid.of hi
  have HZ0 := Hid.of hz0
  have HZ1 := Hid.of hz1
  have HZ2 := Hid.of hz2
  clear hi hz0 hz1 hz2
  go_upto_region 8 with fail
  rw [HW.out, HMM.out]
  clear HW HMM
  obtain ⟨q0, q1⟩ : w5.cell? ⟨B + 2, 0, none⟩ = some (.string qn) ∧ w5.cell? ⟨B + 2, 1, none⟩ = some (.slice ta QN tc) := ⟨M5.out.cs.tail.tail.tail.tail.tail.tail.head, M5.out.cs.tail.tail.tail.tail.tail.tail.tail.head⟩
  go_upto_region 9 with fail
  clear q0 q1
  go_loopg [39] QN (fun kx iv wr => ∃ (j : Nat) (fv : Value) (xs : List Int), iv = .int .i64 j ∧ j ≤ QN ∧ QN - j ≤ kx ∧ Hid (xs = (q.2.take j).map fun x => ((mFur r x.2.1 p.2 : Nat) : Int)) ∧ Hid (xs.length = j) ∧ Hid (MG w w1 (B + 3) m qn (.slice sa2 QN sc2) fv q [(⟨B, 0, none⟩, .string pn), (⟨B, 1, none⟩, .slice sa PN sc), (⟨B + 1, 0, none⟩, .int .i64 now), (⟨B + 1, 1, none⟩, .string rn), (⟨B + 1, 2, none⟩, rs), (⟨B + 1, 3, none⟩, rf), (⟨B + 2, 0, none⟩, .string qn), (⟨B + 2, 1, none⟩, .slice ta QN tc)] xs wr))
  case atStart => exact ⟨0, _, [], rfl, Nat.zero_le _, Nat.le_refl _, Hid.of rfl, Hid.of rfl, M5⟩
  case round =>
    clear M5
    obtain ⟨j, fv, xs, rfl, hj, hk, HX, HXL, M⟩ := hrel
    have j0 : (0 : Int) ≤ (j : Int) := Int.natCast_nonneg _
    have n9 : QN ≤ 1000000 := by have := FQ.out.1; rw [NQ.out] at this; exact this
    by_cases hlt : (j : Int) < (QN : Int)
    · obtain ⟨t, ht⟩ : ∃ t, q.2[j]? = some t := ⟨_, List.getElem?_eq_getElem (by have := NQ.out; omega)⟩
      obtain ⟨b1, o1, rfl, g1, d0, d1, d2, d3⟩ := p_at (HS3.out.kept M.out.fr) j t ht
      have HTT := Hid.of ht
      obtain ⟨t0, ev, t2, sh⟩ := t
      simp only at d0 d1 d2 d3
      have HJ : Hid (j < QN) := Hid.of (by omega)
      obtain ⟨va, vc, rfl, -⟩ := own_one M.out.of
      rw [HXL.out] at M
      obtain ⟨y, hy⟩ : ∃ y, wr.heap.size = y := ⟨_, rfl⟩
      obtain ⟨w6, hw6⟩ : ∃ w6, wr.alloc (.cells #[.string t0, .int .i64 ev, .int .i64 t2, .int .i64 sh] 89) = w6 := ⟨_, rfl⟩
      have z6 : w6.heap[y]? = some (.cells #[.string t0, .int .i64 ev, .int .i64 t2, .int .i64 sh] 89 (0, 0)) := by rw [← hw6, ← hy]; exact (MapKept.heap_alloc wr _).1
      have b6 : Below wr.heap.size wr w6 := by rw [← hw6]; exact (Below.refl _ _).alloc (Nat.le_refl _) _
      have M6 := Hid.of (M.out.next b6)
      have HVY : Hid (∀ g, (Value.slice va j vc).ownBlock = some g → g < y) := Hid.of (fun g hg => by rw [← hy]; exact (M.out.of.lt g hg).2)
      have HMY : Hid (m < y) := Hid.of (by rw [← hy]; exact M.out.lt)
      have CS6 : Hid (Dc w6 [(⟨B, 1, none⟩, .slice sa PN sc), (⟨B + 1, 0, none⟩, .int .i64 now), (⟨B + 1, 1, none⟩, .string rn), (⟨B + 1, 2, none⟩, rs), (⟨B + 1, 3, none⟩, rf), (⟨y, 1, none⟩, .int .i64 ev)]) := Hid.of (by
        have hc := M6.out.cs
        exact .cons hc.tail.lt hc.tail.head (.cons hc.tail.tail.lt hc.tail.tail.head (.cons hc.tail.tail.tail.lt hc.tail.tail.tail.head (.cons hc.tail.tail.tail.tail.lt hc.tail.tail.tail.tail.head (.cons hc.tail.tail.tail.tail.tail.lt hc.tail.tail.tail.tail.tail.head (Dc.one z6 (i := 1) rfl))))))
      have HLY : Hid (∀ x ∈ [(⟨B, 1, none⟩, .slice sa PN sc), (⟨B + 1, 0, none⟩, .int .i64 now), (⟨B + 1, 1, none⟩, .string rn), (⟨B + 1, 2, none⟩, rs), (⟨B + 1, 3, none⟩, rf), ((⟨y, 1, none⟩ : Addr), Value.int .i64 ev)], x.1.block < w1.heap.size ∨ x.1.block = y) := Hid.of (fun x hx => by
        have := Z1.out
        simp only [List.mem_cons, List.not_mem_nil, or_false] at hx
        rcases hx with rfl | rfl | rfl | rfl | rfl | rfl <;> first | (right; rfl) | (left; simp only; omega))
      have HFU : Hid (∀ u, Below w.heap.size w u → Calls Tryz.prog 102 #[.agg #[.int .i64 now, .string rn, rs, rf], .int .i64 ev, .slice sa PN sc] u fun x w' => x = .returned (.int .i64 ((mFur r ev p.2 : Nat) : Int)) ∧ Below u.heap.size u w') := Hid.of (fun u hu => by
        have := furthest_any (.agg #[.int .i64 now, .string rn, rs, rf]) (.slice sa PN sc) r ev p.2 u (HR.out.kept hu) FR.out (by rw [NP.out]; exact HS.out.kept hu) FP.out.1
        exact this)
      obtain ⟨sx, hsx⟩ : ∃ sx : Int, ((mFur r ev p.2 : Nat) : Int) = sx := ⟨_, rfl⟩
      rw [hsx] at HFU
      have HX2 : Hid (xs ++ [sx] = (q.2.take (j + 1)).map fun x => ((mFur r x.2.1 p.2 : Nat) : Int)) := Hid.of (by
        rw [List.take_add_one, HTT.out, List.map_append, ← HX.out]
        show xs ++ [sx] = xs ++ [((mFur r ev p.2 : Nat) : Int)]
        rw [hsx])
      have HW := Hid.of hw6
      have HY := Hid.of hy
      clear ht g1 z6 b6 M hw6 hy hsx HX HTT
      go_upto_region 11 with fail
      rw [HW.out, HY.out]
      clear d0 d1 d2 d3 HW HY
      obtain ⟨WD, hWD⟩ : ∃ WD, w6.drew = WD := ⟨_, rfl⟩
      have b6d : Below w6.heap.size w6 WD := by rw [← hWD]; exact (Below.refl _ _).drew
      have M6d := Hid.of (M6.out.next b6d)
      have CSD := Hid.of (CS6.out.next b6d)
      clear b6d
      have d0 := (CS6.out).head
      have d1 := ((CS6.out).tail).head
      have d2 := (((CS6.out).tail).tail).head
      have d3 := ((((CS6.out).tail).tail).tail).head
      have d4 := (((((CS6.out).tail).tail).tail).tail).head
      have d5 := ((((((CS6.out).tail).tail).tail).tail).tail).head
      refine wp_region_noPanic ?_
      refine wp_region_held_drew (S := fun w' => w'.cell? ⟨B, 1, none⟩ = some (.slice sa PN sc) ∧ w'.cell? ⟨B + 1, 0, none⟩ = some (.int .i64 now) ∧ w'.cell? ⟨B + 1, 1, none⟩ = some (.string rn) ∧ w'.cell? ⟨B + 1, 2, none⟩ = some (rs) ∧ w'.cell? ⟨B + 1, 3, none⟩ = some (rf) ∧ w'.cell? ⟨y, 1, none⟩ = some (.int .i64 ev)) (by kernel_rfl) ?_ (fun hHeld => ?_)
      · exact ⟨d0, d1, d2, d3, d4, d5⟩
      refine takeOp 0 (o := ⟨_, _, _, _, _, _⟩) (v := ?_) rfl (by kernel_rfl) (by rfl) hHeld ?_ ?_; rotate_left; (next => intro w' hSw; (try dsimp only at hSw); go_simp; all_goals with_reducible rfl); simp only [Act.put, pA9, pB9, pC9]
      refine takeOp 2 (o := ⟨_, _, _, _, _, _⟩) (v := ?_) rfl (by kernel_rfl) (by rfl) hHeld ?_ ?_; rotate_left; (next => intro w' hSw; (try dsimp only at hSw); go_simp; all_goals with_reducible rfl); simp only [Act.put, pA9, pB9, pC9]
      refine takeOp 3 (o := ⟨_, _, _, _, _, _⟩) (v := ?_) rfl (by kernel_rfl) (by rfl) hHeld ?_ ?_; rotate_left; (next => intro w' hSw; (try dsimp only at hSw); go_simp; all_goals with_reducible rfl); simp only [Act.put, pA9, pB9, pC9]
      refine takeOp 4 (o := ⟨_, _, _, _, _, _⟩) (v := ?_) rfl (by kernel_rfl) (by rfl) hHeld ?_ ?_; rotate_left; (next => intro w' hSw; (try dsimp only at hSw); go_simp; all_goals with_reducible rfl); simp only [Act.put, pA9, pB9, pC9]
      refine takeOp 5 (o := ⟨_, _, _, _, _, _⟩) (v := ?_) rfl (by kernel_rfl) (by rfl) hHeld ?_ ?_; rotate_left; (next => intro w' hSw; (try dsimp only at hSw); go_simp; all_goals with_reducible rfl); simp only [Act.put, pA9, pB9, pC9]
      refine takeOp 6 (o := ⟨_, _, _, _, _, _⟩) (v := ?_) rfl (by kernel_rfl) (by rfl) hHeld ?_ ?_; rotate_left; (next => intro w' hSw; (try dsimp only at hSw); go_simp; all_goals with_reducible rfl); simp only [Act.put, pA9, pB9, pC9]
      refine wpAnyH_ready (rs := [1, 7]) (by kernel_rfl) (by simp) ?_
      refine AllReadyH.cons (o := ⟨_, _, _, _, _, _⟩) rfl (fun K hK => ?_) (AllReadyH.cons (o := ⟨_, _, _, _, _, _⟩) rfl (fun K hK => ?_) AllReadyH.nil)
      · have e4 : WD.cell? ⟨m, 2, none⟩ = some (.slice va j vc) := (lblk_at M6d.out.k).2.2
        go_simp
        clear e4
        clear hHeld d0 d1 d2 d3 d4 d5
        have d0 := (CSD.out).head
        have d1 := ((CSD.out).tail).head
        have d2 := (((CSD.out).tail).tail).head
        have d3 := ((((CSD.out).tail).tail).tail).head
        have d4 := (((((CSD.out).tail).tail).tail).tail).head
        have d5 := ((((((CSD.out).tail).tail).tail).tail).tail).head
        refine hK.out _ _ ⟨d0, d1, d2, d3, d4, d5⟩ (fun hHeld => ?_)
        clear hK K
        try simp only [Act.put, pA9, pB9, pC9]
        refine wpAnyH_ready (rs := [7]) (by kernel_rfl) (by simp) ?_
        refine AllReadyH.cons (o := ⟨_, _, _, _, _, _⟩) rfl (fun K hK => ?_) AllReadyH.nil
        go_simp
        refine (HFU.out _ M6d.out.fr).mono ?_
        rintro e w7 ⟨rfl, b7⟩
        have M7 := Hid.of (M6d.out.next b7)
        have CS7 := Hid.of (CSD.out.next b7)
        clear b7
        clear hHeld d0 d1 d2 d3 d4 d5
        have d0 := (CS7.out).head
        have d1 := ((CS7.out).tail).head
        have d2 := (((CS7.out).tail).tail).head
        have d3 := ((((CS7.out).tail).tail).tail).head
        have d4 := (((((CS7.out).tail).tail).tail).tail).head
        have d5 := ((((((CS7.out).tail).tail).tail).tail).tail).head
        refine hK.out _ _ ⟨d0, d1, d2, d3, d4, d5⟩ (fun hHeld => ?_)
        clear hK K
        try simp only [Act.put, pA9, pB9, pC9]
        refine wpAnyH_ready (rs := [8]) (by kernel_rfl) (by simp) ?_
        refine AllReadyH.cons (o := ⟨_, _, _, _, _, _⟩) rfl (fun K hK => ?_) AllReadyH.nil
        go_simp
        obtain ⟨w8, hw8⟩ : ∃ w8, w7.alloc (.cells #[.int .i64 sx] 3) = w8 := ⟨_, rfl⟩
        have b8 : Below w7.heap.size w7 w8 := by rw [← hw8]; exact (Below.refl _ _).alloc (Nat.le_refl _) _
        have K8 : Hid (Cells w8 w7.heap.size 0 [.int .i64 sx]) := Hid.of (by rw [← hw8]; exact one_cell w7 _ _)
        have M8 := Hid.of (M7.out.next b8)
        have CS8 := Hid.of (CS7.out.next b8)
        rw [hw8]
        clear hw8 b8 M7 CS7
        clear hHeld d0 d1 d2 d3 d4 d5
        have d0 := (CS8.out).head
        have d1 := ((CS8.out).tail).head
        have d2 := (((CS8.out).tail).tail).head
        have d3 := ((((CS8.out).tail).tail).tail).head
        have d4 := (((((CS8.out).tail).tail).tail).tail).head
        have d5 := ((((((CS8.out).tail).tail).tail).tail).tail).head
        refine hK.out _ _ ⟨d0, d1, d2, d3, d4, d5⟩ (fun hHeld => ?_)
        clear hK K
        try simp only [Act.put, pA9, pB9, pC9]
        refine wpAnyH_ready (rs := [9]) (by kernel_rfl) (by simp) ?_
        refine AllReadyH.cons (o := ⟨_, _, _, _, _, _⟩) rfl (fun K hK => ?_) AllReadyH.nil
        refine step_append_keep rfl (.tmp 44) (.tmp 51) 25 rfl w1.heap.size 3 i0 _ 1 8 Tryz.underlying25 HI.out HZ0.out HZ1.out HZ2.out rfl (by decide) (.slice va j vc) j (xs.map (Value.int .i64)) (by simp [Act.eval]) (by have := M8.out.of; rwa [HXL.out] at this) w7.heap.size 0 1 1 [.int .i64 sx] (by simp [Act.eval]) K8.out rfl (by simp [Value.oneCell']) (by unfold maxLen; omega) (by omega) (by have := M8.out.hm; have := M8.out.lt; omega) ?_
        intro v9 w9 o9 g9 _ m9
        obtain ⟨a9, c9, hv9, _⟩ := own_one o9
        subst hv9
        have O9 := Hid.of o9
        have G9 := Hid.of g9
        have M9 := Hid.of m9
        have z9 : LBlk w9 m qn (.slice sa2 QN sc2) (.slice va j vc) := (g9.block m M8.out.lt (fun c => M8.out.mf c.symm)).trans M8.out.k
        have f9 : w9.frozen? ⟨m, 2, none⟩ = false := row_frozen z9
        have e9 : w9.cell? ⟨m, 2, none⟩ = some (.slice va j vc) := (lblk_at z9).2.2
        have CS9 := Hid.of (CS8.out.grown g9 (fun x hx c => by rcases HLY.out x hx with h | h <;> (have h1 := (M8.out.of.lt _ c.symm).1; have h2 := HVY.out _ c.symm; omega)))
        clear o9 g9 m9 z9
        clear hHeld d0 d1 d2 d3 d4 d5
        have d0 := (CS9.out).head
        have d1 := ((CS9.out).tail).head
        have d2 := (((CS9.out).tail).tail).head
        have d3 := ((((CS9.out).tail).tail).tail).head
        have d4 := (((((CS9.out).tail).tail).tail).tail).head
        have d5 := ((((((CS9.out).tail).tail).tail).tail).tail).head
        refine hK.out _ _ ⟨d0, d1, d2, d3, d4, d5⟩ (fun hHeld => ?_)
        clear hK K
        try simp only [Act.put, pA9, pB9, pC9]
        refine takeOp 10 (o := ⟨_, _, _, _, _, _⟩) (v := ?_) rfl (by kernel_rfl) (by rfl) hHeld ?_ ?_; rotate_left; (next => intro w' hSw; (try dsimp only at hSw); go_simp; all_goals with_reducible rfl); simp only [Act.put, pA9, pB9, pC9]
        refine wpAnyH_ready (rs := [11]) (by kernel_rfl) (by simp) ?_
        refine AllReadyH.cons (o := ⟨_, _, _, _, _, _⟩) rfl (fun K hK => ?_) AllReadyH.nil
        go_simp
        clear f9 e9
        have MZ := Hid.of (M8.out.more (Below.refl _ _) G9.out (fv' := .slice a9 (j + 1) c9) (w2 := w9) (by rw [HXL.out]; exact O9.out) M9.out)
        obtain ⟨wz, hwz⟩ : ∃ wz, w9.setCell ⟨m, 2, none⟩ (.slice a9 (j + 1) c9) = wz := ⟨_, rfl⟩
        rw [hwz] at MZ ⊢
        have gz : w9.grownBy wz (some m) := by rw [← hwz]; exact grownBy_setCell w9 m 2 (.slice a9 (j + 1) c9)
        have CSZ := Hid.of (CS9.out.grown gz (fun x hx c => by have h1 := Option.some.inj c; have h2 := HMY.out; have h3 := MZ.out.hm; have h4 := HLY.out x hx; omega))
        clear hwz gz
        clear hHeld d0 d1 d2 d3 d4 d5
        have d0 := (CSZ.out).head
        have d1 := ((CSZ.out).tail).head
        have d2 := (((CSZ.out).tail).tail).head
        have d3 := ((((CSZ.out).tail).tail).tail).head
        have d4 := (((((CSZ.out).tail).tail).tail).tail).head
        have d5 := ((((((CSZ.out).tail).tail).tail).tail).tail).head
        refine hK.out _ _ ⟨d0, d1, d2, d3, d4, d5⟩ (fun hHeld => ?_)
        clear hK K
        refine wpAnyH_done (by kernel_rfl) ?_ _
        refine NoPanic.normal ?_
        clear hHeld
        clear d0 d1 d2 d3 d4 d5
        go_wp2
        go_roundg (QN - (j + 1))
        case measure => have := HJ.out; omega
        case rel => exact ⟨j + 1, _, xs ++ [sx], by go_num, HJ.out, Nat.le_refl _, HX2, Hid.of (by rw [List.length_append, HXL.out]; rfl), MZ⟩
      · go_simp
        refine (HFU.out _ M6d.out.fr).mono ?_
        rintro e w7 ⟨rfl, b7⟩
        have M7 := Hid.of (M6d.out.next b7)
        have CS7 := Hid.of (CSD.out.next b7)
        clear b7
        clear hHeld d0 d1 d2 d3 d4 d5
        have d0 := (CS7.out).head
        have d1 := ((CS7.out).tail).head
        have d2 := (((CS7.out).tail).tail).head
        have d3 := ((((CS7.out).tail).tail).tail).head
        have d4 := (((((CS7.out).tail).tail).tail).tail).head
        have d5 := ((((((CS7.out).tail).tail).tail).tail).tail).head
        refine hK.out _ _ ⟨d0, d1, d2, d3, d4, d5⟩ (fun hHeld => ?_)
        clear hK K
        try simp only [Act.put, pA9, pB9, pC9]
        refine wpAnyH_ready (rs := [1, 8]) (by kernel_rfl) (by simp) ?_
        refine AllReadyH.cons (o := ⟨_, _, _, _, _, _⟩) rfl (fun K hK => ?_) (AllReadyH.cons (o := ⟨_, _, _, _, _, _⟩) rfl (fun K hK => ?_) AllReadyH.nil)
        · have e4 : w7.cell? ⟨m, 2, none⟩ = some (.slice va j vc) := (lblk_at M7.out.k).2.2
          go_simp
          clear e4
          clear hHeld d0 d1 d2 d3 d4 d5
          have d0 := (CS7.out).head
          have d1 := ((CS7.out).tail).head
          have d2 := (((CS7.out).tail).tail).head
          have d3 := ((((CS7.out).tail).tail).tail).head
          have d4 := (((((CS7.out).tail).tail).tail).tail).head
          have d5 := ((((((CS7.out).tail).tail).tail).tail).tail).head
          refine hK.out _ _ ⟨d0, d1, d2, d3, d4, d5⟩ (fun hHeld => ?_)
          clear hK K
          try simp only [Act.put, pA9, pB9, pC9]
          refine wpAnyH_ready (rs := [8]) (by kernel_rfl) (by simp) ?_
          refine AllReadyH.cons (o := ⟨_, _, _, _, _, _⟩) rfl (fun K hK => ?_) AllReadyH.nil
          go_simp
          obtain ⟨w8, hw8⟩ : ∃ w8, w7.alloc (.cells #[.int .i64 sx] 3) = w8 := ⟨_, rfl⟩
          have b8 : Below w7.heap.size w7 w8 := by rw [← hw8]; exact (Below.refl _ _).alloc (Nat.le_refl _) _
          have K8 : Hid (Cells w8 w7.heap.size 0 [.int .i64 sx]) := Hid.of (by rw [← hw8]; exact one_cell w7 _ _)
          have M8 := Hid.of (M7.out.next b8)
          have CS8 := Hid.of (CS7.out.next b8)
          rw [hw8]
          clear hw8 b8 M7 CS7
          clear hHeld d0 d1 d2 d3 d4 d5
          have d0 := (CS8.out).head
          have d1 := ((CS8.out).tail).head
          have d2 := (((CS8.out).tail).tail).head
          have d3 := ((((CS8.out).tail).tail).tail).head
          have d4 := (((((CS8.out).tail).tail).tail).tail).head
          have d5 := ((((((CS8.out).tail).tail).tail).tail).tail).head
          refine hK.out _ _ ⟨d0, d1, d2, d3, d4, d5⟩ (fun hHeld => ?_)
          clear hK K
          try simp only [Act.put, pA9, pB9, pC9]
          refine wpAnyH_ready (rs := [9]) (by kernel_rfl) (by simp) ?_
          refine AllReadyH.cons (o := ⟨_, _, _, _, _, _⟩) rfl (fun K hK => ?_) AllReadyH.nil
          refine step_append_keep rfl (.tmp 44) (.tmp 51) 25 rfl w1.heap.size 3 i0 _ 1 8 Tryz.underlying25 HI.out HZ0.out HZ1.out HZ2.out rfl (by decide) (.slice va j vc) j (xs.map (Value.int .i64)) (by simp [Act.eval]) (by have := M8.out.of; rwa [HXL.out] at this) w7.heap.size 0 1 1 [.int .i64 sx] (by simp [Act.eval]) K8.out rfl (by simp [Value.oneCell']) (by unfold maxLen; omega) (by omega) (by have := M8.out.hm; have := M8.out.lt; omega) ?_
          intro v9 w9 o9 g9 _ m9
          obtain ⟨a9, c9, hv9, _⟩ := own_one o9
          subst hv9
          have O9 := Hid.of o9
          have G9 := Hid.of g9
          have M9 := Hid.of m9
          have z9 : LBlk w9 m qn (.slice sa2 QN sc2) (.slice va j vc) := (g9.block m M8.out.lt (fun c => M8.out.mf c.symm)).trans M8.out.k
          have f9 : w9.frozen? ⟨m, 2, none⟩ = false := row_frozen z9
          have e9 : w9.cell? ⟨m, 2, none⟩ = some (.slice va j vc) := (lblk_at z9).2.2
          have CS9 := Hid.of (CS8.out.grown g9 (fun x hx c => by rcases HLY.out x hx with h | h <;> (have h1 := (M8.out.of.lt _ c.symm).1; have h2 := HVY.out _ c.symm; omega)))
          clear o9 g9 m9 z9
          clear hHeld d0 d1 d2 d3 d4 d5
          have d0 := (CS9.out).head
          have d1 := ((CS9.out).tail).head
          have d2 := (((CS9.out).tail).tail).head
          have d3 := ((((CS9.out).tail).tail).tail).head
          have d4 := (((((CS9.out).tail).tail).tail).tail).head
          have d5 := ((((((CS9.out).tail).tail).tail).tail).tail).head
          refine hK.out _ _ ⟨d0, d1, d2, d3, d4, d5⟩ (fun hHeld => ?_)
          clear hK K
          try simp only [Act.put, pA9, pB9, pC9]
          refine takeOp 10 (o := ⟨_, _, _, _, _, _⟩) (v := ?_) rfl (by kernel_rfl) (by rfl) hHeld ?_ ?_; rotate_left; (next => intro w' hSw; (try dsimp only at hSw); go_simp; all_goals with_reducible rfl); simp only [Act.put, pA9, pB9, pC9]
          refine wpAnyH_ready (rs := [11]) (by kernel_rfl) (by simp) ?_
          refine AllReadyH.cons (o := ⟨_, _, _, _, _, _⟩) rfl (fun K hK => ?_) AllReadyH.nil
          go_simp
          clear f9 e9
          have MZ := Hid.of (M8.out.more (Below.refl _ _) G9.out (fv' := .slice a9 (j + 1) c9) (w2 := w9) (by rw [HXL.out]; exact O9.out) M9.out)
          obtain ⟨wz, hwz⟩ : ∃ wz, w9.setCell ⟨m, 2, none⟩ (.slice a9 (j + 1) c9) = wz := ⟨_, rfl⟩
          rw [hwz] at MZ ⊢
          have gz : w9.grownBy wz (some m) := by rw [← hwz]; exact grownBy_setCell w9 m 2 (.slice a9 (j + 1) c9)
          have CSZ := Hid.of (CS9.out.grown gz (fun x hx c => by have h1 := Option.some.inj c; have h2 := HMY.out; have h3 := MZ.out.hm; have h4 := HLY.out x hx; omega))
          clear hwz gz
          clear hHeld d0 d1 d2 d3 d4 d5
          have d0 := (CSZ.out).head
          have d1 := ((CSZ.out).tail).head
          have d2 := (((CSZ.out).tail).tail).head
          have d3 := ((((CSZ.out).tail).tail).tail).head
          have d4 := (((((CSZ.out).tail).tail).tail).tail).head
          have d5 := ((((((CSZ.out).tail).tail).tail).tail).tail).head
          refine hK.out _ _ ⟨d0, d1, d2, d3, d4, d5⟩ (fun hHeld => ?_)
          clear hK K
          refine wpAnyH_done (by kernel_rfl) ?_ _
          refine NoPanic.normal ?_
          clear hHeld
          clear d0 d1 d2 d3 d4 d5
          go_wp2
          go_roundg (QN - (j + 1))
          case measure => have := HJ.out; omega
          case rel => exact ⟨j + 1, _, xs ++ [sx], by go_num, HJ.out, Nat.le_refl _, HX2, Hid.of (by rw [List.length_append, HXL.out]; rfl), MZ⟩
        · go_simp
          obtain ⟨w8, hw8⟩ : ∃ w8, w7.alloc (.cells #[.int .i64 sx] 3) = w8 := ⟨_, rfl⟩
          have b8 : Below w7.heap.size w7 w8 := by rw [← hw8]; exact (Below.refl _ _).alloc (Nat.le_refl _) _
          have K8 : Hid (Cells w8 w7.heap.size 0 [.int .i64 sx]) := Hid.of (by rw [← hw8]; exact one_cell w7 _ _)
          have M8 := Hid.of (M7.out.next b8)
          have CS8 := Hid.of (CS7.out.next b8)
          rw [hw8]
          clear hw8 b8 M7 CS7
          clear hHeld d0 d1 d2 d3 d4 d5
          have d0 := (CS8.out).head
          have d1 := ((CS8.out).tail).head
          have d2 := (((CS8.out).tail).tail).head
          have d3 := ((((CS8.out).tail).tail).tail).head
          have d4 := (((((CS8.out).tail).tail).tail).tail).head
          have d5 := ((((((CS8.out).tail).tail).tail).tail).tail).head
          refine hK.out _ _ ⟨d0, d1, d2, d3, d4, d5⟩ (fun hHeld => ?_)
          clear hK K
          try simp only [Act.put, pA9, pB9, pC9]
          refine wpAnyH_ready (rs := [1]) (by kernel_rfl) (by simp) ?_
          refine AllReadyH.cons (o := ⟨_, _, _, _, _, _⟩) rfl (fun K hK => ?_) AllReadyH.nil
          have e4 : w8.cell? ⟨m, 2, none⟩ = some (.slice va j vc) := (lblk_at M8.out.k).2.2
          go_simp
          clear e4
          clear hHeld d0 d1 d2 d3 d4 d5
          have d0 := (CS8.out).head
          have d1 := ((CS8.out).tail).head
          have d2 := (((CS8.out).tail).tail).head
          have d3 := ((((CS8.out).tail).tail).tail).head
          have d4 := (((((CS8.out).tail).tail).tail).tail).head
          have d5 := ((((((CS8.out).tail).tail).tail).tail).tail).head
          refine hK.out _ _ ⟨d0, d1, d2, d3, d4, d5⟩ (fun hHeld => ?_)
          clear hK K
          try simp only [Act.put, pA9, pB9, pC9]
          refine wpAnyH_ready (rs := [9]) (by kernel_rfl) (by simp) ?_
          refine AllReadyH.cons (o := ⟨_, _, _, _, _, _⟩) rfl (fun K hK => ?_) AllReadyH.nil
          refine step_append_keep rfl (.tmp 44) (.tmp 51) 25 rfl w1.heap.size 3 i0 _ 1 8 Tryz.underlying25 HI.out HZ0.out HZ1.out HZ2.out rfl (by decide) (.slice va j vc) j (xs.map (Value.int .i64)) (by simp [Act.eval]) (by have := M8.out.of; rwa [HXL.out] at this) w7.heap.size 0 1 1 [.int .i64 sx] (by simp [Act.eval]) K8.out rfl (by simp [Value.oneCell']) (by unfold maxLen; omega) (by omega) (by have := M8.out.hm; have := M8.out.lt; omega) ?_
          intro v9 w9 o9 g9 _ m9
          obtain ⟨a9, c9, hv9, _⟩ := own_one o9
          subst hv9
          have O9 := Hid.of o9
          have G9 := Hid.of g9
          have M9 := Hid.of m9
          have z9 : LBlk w9 m qn (.slice sa2 QN sc2) (.slice va j vc) := (g9.block m M8.out.lt (fun c => M8.out.mf c.symm)).trans M8.out.k
          have f9 : w9.frozen? ⟨m, 2, none⟩ = false := row_frozen z9
          have e9 : w9.cell? ⟨m, 2, none⟩ = some (.slice va j vc) := (lblk_at z9).2.2
          have CS9 := Hid.of (CS8.out.grown g9 (fun x hx c => by rcases HLY.out x hx with h | h <;> (have h1 := (M8.out.of.lt _ c.symm).1; have h2 := HVY.out _ c.symm; omega)))
          clear o9 g9 m9 z9
          clear hHeld d0 d1 d2 d3 d4 d5
          have d0 := (CS9.out).head
          have d1 := ((CS9.out).tail).head
          have d2 := (((CS9.out).tail).tail).head
          have d3 := ((((CS9.out).tail).tail).tail).head
          have d4 := (((((CS9.out).tail).tail).tail).tail).head
          have d5 := ((((((CS9.out).tail).tail).tail).tail).tail).head
          refine hK.out _ _ ⟨d0, d1, d2, d3, d4, d5⟩ (fun hHeld => ?_)
          clear hK K
          try simp only [Act.put, pA9, pB9, pC9]
          refine takeOp 10 (o := ⟨_, _, _, _, _, _⟩) (v := ?_) rfl (by kernel_rfl) (by rfl) hHeld ?_ ?_; rotate_left; (next => intro w' hSw; (try dsimp only at hSw); go_simp; all_goals with_reducible rfl); simp only [Act.put, pA9, pB9, pC9]
          refine wpAnyH_ready (rs := [11]) (by kernel_rfl) (by simp) ?_
          refine AllReadyH.cons (o := ⟨_, _, _, _, _, _⟩) rfl (fun K hK => ?_) AllReadyH.nil
          go_simp
          clear f9 e9
          have MZ := Hid.of (M8.out.more (Below.refl _ _) G9.out (fv' := .slice a9 (j + 1) c9) (w2 := w9) (by rw [HXL.out]; exact O9.out) M9.out)
          obtain ⟨wz, hwz⟩ : ∃ wz, w9.setCell ⟨m, 2, none⟩ (.slice a9 (j + 1) c9) = wz := ⟨_, rfl⟩
          rw [hwz] at MZ ⊢
          have gz : w9.grownBy wz (some m) := by rw [← hwz]; exact grownBy_setCell w9 m 2 (.slice a9 (j + 1) c9)
          have CSZ := Hid.of (CS9.out.grown gz (fun x hx c => by have h1 := Option.some.inj c; have h2 := HMY.out; have h3 := MZ.out.hm; have h4 := HLY.out x hx; omega))
          clear hwz gz
          clear hHeld d0 d1 d2 d3 d4 d5
          have d0 := (CSZ.out).head
          have d1 := ((CSZ.out).tail).head
          have d2 := (((CSZ.out).tail).tail).head
          have d3 := ((((CSZ.out).tail).tail).tail).head
          have d4 := (((((CSZ.out).tail).tail).tail).tail).head
          have d5 := ((((((CSZ.out).tail).tail).tail).tail).tail).head
          refine hK.out _ _ ⟨d0, d1, d2, d3, d4, d5⟩ (fun hHeld => ?_)
          clear hK K
          refine wpAnyH_done (by kernel_rfl) ?_ _
          refine NoPanic.normal ?_
          clear hHeld
          clear d0 d1 d2 d3 d4 d5
          go_wp2
          go_roundg (QN - (j + 1))
          case measure => have := HJ.out; omega
          case rel => exact ⟨j + 1, _, xs ++ [sx], by go_num, HJ.out, Nat.le_refl _, HX2, Hid.of (by rw [List.length_append, HXL.out]; rfl), MZ⟩
    · obtain rfl : j = QN := by omega
      obtain ⟨va, vc, rfl, -⟩ := own_one M.out.of
      rw [HXL.out] at M
      have HXE : Hid (mMake p r q = (q, xs)) := Hid.of (by rw [mMake_ok E0.out, HX.out, ← NQ.out, List.take_length])
      obtain ⟨q0, q1, q2⟩ := lblk_at M.out.k
      have f0 := row_frozen (i := 0) M.out.kz
      have f1 := row_frozen (i := 1) M.out.kz
      have f2 := row_frozen (i := 2) M.out.kz
      obtain ⟨t0, t1, t2⟩ := lblk_at M.out.kz
      have KZ := lblk_set (n' := qn) (s' := .slice sa2 j sc2) (f' := .slice va j vc) M.out.kz
      have gz := setL_grown wr (B + 3) qn (.slice sa2 j sc2) (.slice va j vc)
      have keep : ∀ {e : TypeId} {sz N : Nat} {v : Value} {ys : List Value}, wr.ownsRow w1.heap.size e sz v N ys → Hid ((setL wr (B + 3) qn (.slice sa2 j sc2) (.slice va j vc)).ownsRow w.heap.size e sz v N ys) := fun {e sz N v ys} hh => Hid.of (by
        suffices h1 : (setL wr (B + 3) qn (.slice sa2 j sc2) (.slice va j vc)).ownsRow w1.heap.size e sz v N ys from own_mono h1 B1.out.size
        refine ⟨hh.1, ?_⟩
        rcases hh.2 with c | ⟨g', cap, cur, ev, hB', hrow, rest⟩
        · exact .inl c
        · refine .inr ⟨g', cap, cur, ev, hB', ?_, rest⟩
          rw [gz.block g' (Array.getElem?_eq_some_iff.1 hrow).1 (fun c => by have := Option.some.inj c; have := Z1.out; omega)]
          exact hrow)
      have OO : Hid (OwnPlan w.heap.size (setL wr (B + 3) qn (.slice sa2 j sc2) (.slice va j vc)) (.agg #[.string qn, .slice sa2 j sc2, .slice va j vc]) (q, xs)) := Hid.of
        ⟨_, _, by unfold plVal; rw [← HN.out], (keep M.out.os).out, (keep (by have := M.out.of; exact this)).out, M.out.ap⟩
      have BZ : Hid (Below w.heap.size w (setL wr (B + 3) qn (.slice sa2 j sc2) (.slice va j vc))) := Hid.of (M.out.fr.grown gz M.out.fr.size (fun k hk => by cases hk; have := HBB.out; omega))
      obtain ⟨r0, r1, r2⟩ := lblk_at KZ
      clear KZ gz keep
      unfold setL at r0 r1 r2 BZ OO
      go_wp2
      refine bodyPost_ret (v := .tuple #[.agg #[.string qn, .slice sa2 j sc2, .slice va j vc], .int .i64 0]) ?_ rfl ⟨.agg #[.string qn, .slice sa2 j sc2, .slice va j vc], by rw [E0.out], by rw [HXE.out]; exact OO.out, BZ.out⟩
      simp [results, Tryz.results16, go_sem, r0, r1, r2]

end Go.Proofs.YtbhcafginmkaaaaGreat
