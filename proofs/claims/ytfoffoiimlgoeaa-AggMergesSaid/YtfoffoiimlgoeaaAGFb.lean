/-
  Statement AggMerges where one of the aggregates is neither valid nor none.
-/
import Derived.Test.YtfoffoiimlgoeaaAGE
import Derived.Test.YtfoffoiimlgoeaaAGF
import Derived.Test.YtfoffoiimlgoeaaBR
namespace Go.Proofs.Ytfoffoiimlgoeaa
open Go.RowKit Go.Lib

open Go.ChangeShapes Go.WideShapes in
/-- A slice that came in is no longer than its room. -/
theorem caps_of_trod {H : Type} {enc : TypeId × Value → H} {W : World} {sp : Nat → Bool} {a : Option Addr} {len cap : Nat} {d : DataW H} {ps : List MemPlace} (h : DataW.Trod enc Try.prog W 0 sp true 22 (.slice a len cap) d ps) : len ≤ cap := by
  obtain ⟨fuel, hf⟩ := h
  rcases open_ints Try.underlying22 Try.underlying3 cells1 hf with ⟨hcs, _⟩ | ⟨ad, len', cap', zs, hcs, _, hl, _⟩
  · simp only [Value.cells, List.cons.injEq, Value.slice.injEq, and_true] at hcs
    omega
  · simp only [Value.cells, List.cons.injEq, Value.slice.injEq, and_true] at hcs
    omega

/-- The first field that is not 0. -/
theorem ag_nonzero {x : Ag} (h : x ≠ agZero) : ¬ x.c = 0 ∨ (x.c = 0 ∧ ¬ x.hi = 0) ∨ (x.c = 0 ∧ x.hi = 0 ∧ ¬ x.lo = 0) ∨ (x.c = 0 ∧ x.hi = 0 ∧ x.lo = 0 ∧ ¬ x.mn = 0) ∨ (x.c = 0 ∧ x.hi = 0 ∧ x.lo = 0 ∧ x.mn = 0 ∧ ¬ x.mx = 0) := by
  by_cases h0 : x.c = 0 <;> by_cases h1 : x.hi = 0 <;> by_cases h2 : x.lo = 0 <;> by_cases h3 : x.mn = 0 <;> by_cases h4 : x.mx = 0 <;> simp only [h0, h1, h2, h3, h4, not_true_eq_false, not_false_eq_true, true_and, and_true, or_true, or_false, and_self]
  exact h (Ag.same h0 h1 h2 h3 h4)

set_option maxRecDepth 100000 in
set_option maxHeartbeats 3200000 in
theorem merges_bad1 (a b c : Ag) (oa : agOk a = false) (ha : a ≠ agZero) (v : Value) (xs : List Int) (h1 : xs.length ≤ 60) (cut : Nat) (h2 : cut ≤ xs.length) (w : World) (hv : NumRow .i64 w v xs) :
    Calls Try.prog 4 #[agv a, agv b, agv c, v, .int .i64 cut] w fun e w' => e = .returned (.bool true) ∧ Below w.heap.size w w' := by
  obtain ⟨sa, cp, rfl, _⟩ := hv
  have B0 := Hid.of ((((Below.refl w.heap.size w).alloc (Nat.le_refl _) (.cells (agCells a) 27)).alloc (by simp) (.cells (agCells b) 27)).alloc (by simp; omega) (.cells (agCells c) 27))
  have g0 := Hid.of (((AgBlk.new w a).alloc (.cells (agCells b) 27)).alloc (.cells (agCells c) 27))
  have g1 : Hid (AgBlk (((w.alloc (.cells (agCells a) 27)).alloc (.cells (agCells b) 27)).alloc (.cells (agCells c) 27)) (w.heap.size + 1) b) := Hid.of ((AgBlk.made (w.alloc (.cells (agCells a) 27)) b _ _ (by simp) (by rfl)).alloc _)
  have g2 : Hid (AgBlk (((w.alloc (.cells (agCells a) 27)).alloc (.cells (agCells b) 27)).alloc (.cells (agCells c) 27)) (w.heap.size + 1 + 1) c) := Hid.of (AgBlk.made ((w.alloc (.cells (agCells a) 27)).alloc (.cells (agCells b) 27)) c _ _ (by simp) (by rfl))
  have i0 : (0 : Int) ≤ (cut : Int) := Int.natCast_nonneg _
  have i1 : (cut : Int) ≤ (xs.length : Int) := by omega
  have HX := Hid.of (ag_nonzero ha)
  have HO := Hid.of oa
  clear h2 ha oa
  go_enter Try.func4, Try.ntmps4
  go_wp2_with fail
  refine (Valid_named a false HO.out _).mono ?_
  rintro e w1 ⟨rfl, b1⟩
  have K10 := Hid.of (g0.out.kept b1)
  have K11 := Hid.of (g1.out.kept b1)
  have K12 := Hid.of (g2.out.kept b1)
  have B1 := Hid.of (B0.out.trans (b1.mono B0.out.size))
  clear b1
  obtain ⟨q0, q1, q2, q3, q4⟩ := K10.out.at
  obtain ⟨p0, p1, p2, p3, p4⟩ := K11.out.at
  rcases HX.out with e0 | ⟨e0, e1⟩ | ⟨e0, e1, e2⟩ | ⟨e0, e1, e2, e3⟩ | ⟨e0, e1, e2, e3, e4⟩
  all_goals
    go_wp2_with fail
    refine (aggAlive_any _).mono ?_
    rintro e w9 ⟨rfl, b9⟩
    have B9 := Hid.of (B1.out.trans (b9.mono B1.out.size))
    clear b9
    go_wp2
    go_ret
    exact ⟨rfl, B9.out⟩

set_option maxRecDepth 100000 in
set_option maxHeartbeats 3200000 in
theorem merges_bad2 (a b c : Ag) (ha : agOk a = true ∨ a = agZero) (ob : agOk b = false) (hb : b ≠ agZero) (v : Value) (xs : List Int) (h1 : xs.length ≤ 60) (cut : Nat) (h2 : cut ≤ xs.length) (w : World) (hv : NumRow .i64 w v xs) :
    Calls Try.prog 4 #[agv a, agv b, agv c, v, .int .i64 cut] w fun e w' => e = .returned (.bool true) ∧ Below w.heap.size w w' := by
  obtain ⟨sa, cp, rfl, _⟩ := hv
  have B0 := Hid.of ((((Below.refl w.heap.size w).alloc (Nat.le_refl _) (.cells (agCells a) 27)).alloc (by simp) (.cells (agCells b) 27)).alloc (by simp; omega) (.cells (agCells c) 27))
  have g0 := Hid.of (((AgBlk.new w a).alloc (.cells (agCells b) 27)).alloc (.cells (agCells c) 27))
  have g1 : Hid (AgBlk (((w.alloc (.cells (agCells a) 27)).alloc (.cells (agCells b) 27)).alloc (.cells (agCells c) 27)) (w.heap.size + 1) b) := Hid.of ((AgBlk.made (w.alloc (.cells (agCells a) 27)) b _ _ (by simp) (by rfl)).alloc _)
  have g2 : Hid (AgBlk (((w.alloc (.cells (agCells a) 27)).alloc (.cells (agCells b) 27)).alloc (.cells (agCells c) 27)) (w.heap.size + 1 + 1) c) := Hid.of (AgBlk.made ((w.alloc (.cells (agCells a) 27)).alloc (.cells (agCells b) 27)) c _ _ (by simp) (by rfl))
  have i0 : (0 : Int) ≤ (cut : Int) := Int.natCast_nonneg _
  have i1 : (cut : Int) ≤ (xs.length : Int) := by omega
  have HX := Hid.of (ag_nonzero hb)
  have HO := Hid.of ob
  clear h2 hb ob
  rcases ha with oa | rfl
  all_goals
    have z0 := zero_c
    have z1 := zero_hi
    have z2 := zero_lo
    have z3 := zero_mn
    have z4 := zero_mx
    go_enter Try.func4, Try.ntmps4
    go_wp2_with fail
    first | (refine (Valid_named a true oa _).mono ?_) | (refine (Valid_named agZero false agOk_zero _).mono ?_)
    rintro e w1 ⟨rfl, b1⟩
    have K10 := Hid.of (g0.out.kept b1)
    have K11 := Hid.of (g1.out.kept b1)
    have K12 := Hid.of (g2.out.kept b1)
    have B1 := Hid.of (B0.out.trans (b1.mono B0.out.size))
    clear b1
    obtain ⟨q0, q1, q2, q3, q4⟩ := K10.out.at
    obtain ⟨p0, p1, p2, p3, p4⟩ := K11.out.at
    go_wp2_with fail
    refine (Valid_named b false HO.out _).mono ?_
    rintro e w2 ⟨rfl, b2⟩
    have K20 := Hid.of (K10.out.kept b2)
    have K21 := Hid.of (K11.out.kept b2)
    have K22 := Hid.of (K12.out.kept b2)
    have B2 := Hid.of (B1.out.trans (b2.mono B1.out.size))
    clear b2 q0 q1 q2 q3 q4 p0 p1 p2 p3 p4
    obtain ⟨q0, q1, q2, q3, q4⟩ := K21.out.at
    obtain ⟨p0, p1, p2, p3, p4⟩ := K22.out.at
    rcases HX.out with e0 | ⟨e0, e1⟩ | ⟨e0, e1, e2⟩ | ⟨e0, e1, e2, e3⟩ | ⟨e0, e1, e2, e3, e4⟩
    all_goals
      go_wp2_with fail
      refine (aggAlive_any _).mono ?_
      rintro e w9 ⟨rfl, b9⟩
      have B9 := Hid.of (B2.out.trans (b9.mono B2.out.size))
      clear b9
      go_wp2
      go_ret
      exact ⟨rfl, B9.out⟩

set_option maxRecDepth 100000 in
set_option maxHeartbeats 3200000 in
theorem merges_bad3 (a b c : Ag) (ha : agOk a = true ∨ a = agZero) (hb : agOk b = true ∨ b = agZero) (oc : agOk c = false) (hc : c ≠ agZero) (v : Value) (xs : List Int) (h1 : xs.length ≤ 60) (cut : Nat) (h2 : cut ≤ xs.length) (w : World) (hv : NumRow .i64 w v xs) :
    Calls Try.prog 4 #[agv a, agv b, agv c, v, .int .i64 cut] w fun e w' => e = .returned (.bool true) ∧ Below w.heap.size w w' := by
  obtain ⟨sa, cp, rfl, _⟩ := hv
  have B0 := Hid.of ((((Below.refl w.heap.size w).alloc (Nat.le_refl _) (.cells (agCells a) 27)).alloc (by simp) (.cells (agCells b) 27)).alloc (by simp; omega) (.cells (agCells c) 27))
  have g0 := Hid.of (((AgBlk.new w a).alloc (.cells (agCells b) 27)).alloc (.cells (agCells c) 27))
  have g1 : Hid (AgBlk (((w.alloc (.cells (agCells a) 27)).alloc (.cells (agCells b) 27)).alloc (.cells (agCells c) 27)) (w.heap.size + 1) b) := Hid.of ((AgBlk.made (w.alloc (.cells (agCells a) 27)) b _ _ (by simp) (by rfl)).alloc _)
  have g2 : Hid (AgBlk (((w.alloc (.cells (agCells a) 27)).alloc (.cells (agCells b) 27)).alloc (.cells (agCells c) 27)) (w.heap.size + 1 + 1) c) := Hid.of (AgBlk.made ((w.alloc (.cells (agCells a) 27)).alloc (.cells (agCells b) 27)) c _ _ (by simp) (by rfl))
  have i0 : (0 : Int) ≤ (cut : Int) := Int.natCast_nonneg _
  have i1 : (cut : Int) ≤ (xs.length : Int) := by omega
  have HX := Hid.of (ag_nonzero hc)
  have HO := Hid.of oc
  clear h2 hc oc
  rcases ha with oa | rfl <;> rcases hb with ob | rfl
  all_goals
    have z0 := zero_c
    have z1 := zero_hi
    have z2 := zero_lo
    have z3 := zero_mn
    have z4 := zero_mx
    go_enter Try.func4, Try.ntmps4
    go_wp2_with fail
    first | (refine (Valid_named a true oa _).mono ?_) | (refine (Valid_named agZero false agOk_zero _).mono ?_)
    rintro e w1 ⟨rfl, b1⟩
    have K10 := Hid.of (g0.out.kept b1)
    have K11 := Hid.of (g1.out.kept b1)
    have K12 := Hid.of (g2.out.kept b1)
    have B1 := Hid.of (B0.out.trans (b1.mono B0.out.size))
    clear b1
    obtain ⟨q0, q1, q2, q3, q4⟩ := K10.out.at
    obtain ⟨p0, p1, p2, p3, p4⟩ := K11.out.at
    go_wp2_with fail
    first | (refine (Valid_named b true ob _).mono ?_) | (refine (Valid_named agZero false agOk_zero _).mono ?_)
    rintro e w2 ⟨rfl, b2⟩
    have K20 := Hid.of (K10.out.kept b2)
    have K21 := Hid.of (K11.out.kept b2)
    have K22 := Hid.of (K12.out.kept b2)
    have B2 := Hid.of (B1.out.trans (b2.mono B1.out.size))
    clear b2 q0 q1 q2 q3 q4 p0 p1 p2 p3 p4
    obtain ⟨q0, q1, q2, q3, q4⟩ := K21.out.at
    obtain ⟨p0, p1, p2, p3, p4⟩ := K22.out.at
    go_wp2_with fail
    refine (Valid_named c false HO.out _).mono ?_
    rintro e w3 ⟨rfl, b3⟩
    have K30 := Hid.of (K20.out.kept b3)
    have K31 := Hid.of (K21.out.kept b3)
    have K32 := Hid.of (K22.out.kept b3)
    have B3 := Hid.of (B2.out.trans (b3.mono B2.out.size))
    clear b3 q0 q1 q2 q3 q4 p0 p1 p2 p3 p4
    obtain ⟨q0, q1, q2, q3, q4⟩ := K32.out.at
    obtain ⟨p0, p1, p2, p3, p4⟩ := K32.out.at
    rcases HX.out with e0 | ⟨e0, e1⟩ | ⟨e0, e1, e2⟩ | ⟨e0, e1, e2, e3⟩ | ⟨e0, e1, e2, e3, e4⟩
    all_goals
      go_wp2_with fail
      refine (aggAlive_any _).mono ?_
      rintro e w9 ⟨rfl, b9⟩
      have B9 := Hid.of (B3.out.trans (b9.mono B3.out.size))
      clear b9
      go_wp2
      go_ret
      exact ⟨rfl, B9.out⟩

theorem merges_any (a b c : Ag) (ia : AgIn a) (ib : AgIn b) (ic : AgIn c) (v : Value) (xs : List Int) (cut : Int) (w : World) (hv : NumRow .i64 w v xs) (hcap : ∀ a n c, v = .slice a n c → n ≤ c) (hl : Ints xs) :
    Calls Try.prog 4 #[agv a, agv b, agv c, v, .int .i64 cut] w fun e w' => e = .returned (.bool true) ∧ Below w.heap.size w w' := by
  by_cases h : 60 < xs.length ∨ cut < 0 ∨ (xs.length : Int) < cut
  · exact merges_light a b c v xs cut h w hv
  · obtain ⟨n, rfl⟩ := Int.eq_ofNat_of_zero_le (show 0 ≤ cut by omega)
    have way : ∀ x : Ag, (agOk x = true ∨ x = agZero) ∨ (agOk x = false ∧ x ≠ agZero) := by
      intro x
      by_cases h1 : agOk x = true
      · exact .inl (.inl h1)
      · by_cases h2 : x = agZero
        · exact .inl (.inr h2)
        · exact .inr ⟨by simpa using h1, h2⟩
    rcases way a with ha | ⟨ha, ha'⟩
    · rcases way b with hb | ⟨hb, hb'⟩
      · rcases way c with hc | ⟨hc, hc'⟩
        · exact merges_main a b c ⟨ia, ha⟩ ⟨ib, hb⟩ ⟨ic, hc⟩ v xs n (by omega) (by omega) w hv hcap hl
        · exact merges_bad3 a b c ha hb hc hc' v xs (by omega) n (by omega) w hv
      · exact merges_bad2 a b c ha hb hb' v xs (by omega) n (by omega) w hv
    · exact merges_bad1 a b c ha ha' v xs (by omega) n (by omega) w hv

end Go.Proofs.Ytfoffoiimlgoeaa
