/-
  What functions Sum and Mean of package agg, and the document's own Value and Mean, answer.
-/
import Derived.Test.YtfoffoiimlgoeaaAGL
import Derived.Deep.QuietTactic
import Derived.BigQuiet
namespace Go.Proofs.Ytfoffoiimlgoeaa
open Go.RowKit Go.Lib

theorem quiet_here {P : Program} {f : FuncId} {args : Array Value} {w : World} {n : Nat} {v : Value}
    (h : Calls P f args (w.drewN n) fun e w' => e = .returned v ∧ w.drewN n = w') : Calls P f args (w.drewN n) fun e w'' => e = .returned v ∧ ∃ m, w'' = w.drewN m :=
  h.mono fun _ _ ⟨he, hm⟩ => ⟨he, n, hm.symm⟩

def agFits (a : Ag) : Bool := decide (a.hi = agSign (w64 a.lo))

/-- The sum, or the end that it passes. -/
def agVal (a : Ag) : Int := if agFits a = true then w64 a.lo else if a.hi < 0 then -9223372036854775808 else 9223372036854775807

/-- What Sum answers. -/
def SumEnd (a : Ag) (w : World) (e : Ending) (w' : World) : Prop := e = .returned (.tuple #[.int .i64 (agVal a), .bool (!agFits a)]) ∧ Below w.heap.size w w'

theorem i64_wrap (x : Int) : wrap64 x = w64 x := by
  unfold wrap64 w64
  omega

set_option maxHeartbeats 800000 in
theorem aggSum_fits (a : Ag) (h : agFits a = true) (w : World) : Calls Try.prog 23 #[agv a] w (SumEnd a w) := by
  have hV : agVal a = w64 a.lo := by unfold agVal; rw [if_pos h]
  unfold SumEnd
  rw [hV, h]
  clear hV
  obtain ⟨c, hi, lo, mn, mx⟩ := a
  have e : hi = agSign (w64 lo) := by simpa [agFits] using h
  have HW := Hid.of (w64_bounds lo)
  have hw := i64_wrap lo
  subst e
  clear h
  simp only
  generalize w64 lo = v at *
  go_enter Try.func23, Try.ntmps23
  go_wp2
  go_quiet ((go_at_call 37; exact quiet_here (aggSign_any v HW.out.1 HW.out.2 _)))
  go_wp2
  simp only [hw]
  go_ret2
  exact ⟨rfl, below_drewN ((Below.refl _ _).alloc (Nat.le_refl _) _) _⟩

set_option maxHeartbeats 800000 in
theorem aggSum_over (a : Ag) (h : agFits a = false) (w : World) : Calls Try.prog 23 #[agv a] w (SumEnd a w) := by
  have hV : agVal a = if a.hi < 0 then -9223372036854775808 else 9223372036854775807 := by unfold agVal; rw [h, if_neg (by decide)]
  unfold SumEnd
  rw [hV, h]
  clear hV
  obtain ⟨c, hi, lo, mn, mx⟩ := a
  have e : (hi == agSign (w64 lo)) = false := by simpa [agFits] using h
  have HW := Hid.of (w64_bounds lo)
  have hw := i64_wrap lo
  clear h
  simp only
  generalize w64 lo = v at *
  by_cases hn : hi < 0
  · rw [if_pos hn]
    go_enter Try.func23, Try.ntmps23
    go_wp2
    go_quiet ((go_at_call 37; exact quiet_here (aggSign_any v HW.out.1 HW.out.2 _)))
    go_wp2
    go_ret2
    exact ⟨rfl, below_drewN ((Below.refl _ _).alloc (Nat.le_refl _) _) _⟩
  · rw [if_neg hn]
    go_enter Try.func23, Try.ntmps23
    go_wp2
    go_quiet ((go_at_call 37; exact quiet_here (aggSign_any v HW.out.1 HW.out.2 _)))
    go_wp2
    go_ret2
    exact ⟨rfl, below_drewN ((Below.refl _ _).alloc (Nat.le_refl _) _) _⟩

theorem aggSum_any' (a : Ag) (w : World) : Calls Try.prog 23 #[agv a] w (SumEnd a w) := by
  by_cases h : agFits a = true
  · exact aggSum_fits a h w
  · exact aggSum_over a (by simpa using h) w

/-- The mean. -/
def agMean (a : Ag) : Int := if agOk a = true then (if agFits a = true then w64 ((agVal a).tdiv a.c) else agVal a) else 0

set_option maxHeartbeats 800000 in
theorem aggMean_any (a : Ag) (w : World) : Calls Try.prog 25 #[agv a] w fun e w' => e = .returned (.int .i64 (agMean a)) ∧ Below w.heap.size w w' := by
  unfold agMean
  have B0 := Hid.of ((Below.refl w.heap.size w).alloc (Nat.le_refl _) (.cells (agCells a) 27))
  by_cases h : agOk a = true
  · rw [if_pos h]
    have HO := Hid.of h
    by_cases hf : agFits a = true
    · rw [if_pos hf]
      have HF := Hid.of hf
      have ha := ((agOk_iff a).1 h).1
      clear h hf
      have k0 := Hid.of (AgBlk.new w a)
      go_enter Try.func25, Try.ntmps25
      go_wp2_with fail
      refine (aggValid_any a _).mono ?_
      rintro e w1 ⟨rfl, b1⟩
      rw [HO.out]
      have B1 := Hid.of (B0.out.trans (b1.mono B0.out.size))
      have k1 := Hid.of (k0.out.kept b1)
      obtain ⟨q0, q1, q2, q3, q4⟩ := k1.out.at
      clear b1
      go_wp2_with fail
      refine (aggSum_any' a _).mono ?_
      rintro e w2 ⟨rfl, b2⟩
      rw [HF.out]
      have B2 := Hid.of (B1.out.trans (b2.mono B1.out.size))
      have k2 := Hid.of (k1.out.kept b2)
      clear q0 q1 q2 q3 q4
      obtain ⟨q0, q1, q2, q3, q4⟩ := k2.out.at
      clear b2
      go_wp2
      rw [i64_wrap]
      go_ret
      exact ⟨rfl, B2.out⟩
    · rw [if_neg hf]
      have hf : agFits a = false := by simpa using hf
      have HF := Hid.of hf
      clear h hf
      have k0 := Hid.of (AgBlk.new w a)
      go_enter Try.func25, Try.ntmps25
      go_wp2_with fail
      refine (aggValid_any a _).mono ?_
      rintro e w1 ⟨rfl, b1⟩
      rw [HO.out]
      have B1 := Hid.of (B0.out.trans (b1.mono B0.out.size))
      have k1 := Hid.of (k0.out.kept b1)
      obtain ⟨q0, q1, q2, q3, q4⟩ := k1.out.at
      clear b1
      go_wp2_with fail
      refine (aggSum_any' a _).mono ?_
      rintro e w2 ⟨rfl, b2⟩
      rw [HF.out]
      have B2 := Hid.of (B1.out.trans (b2.mono B1.out.size))
      have k2 := Hid.of (k1.out.kept b2)
      clear q0 q1 q2 q3 q4
      obtain ⟨q0, q1, q2, q3, q4⟩ := k2.out.at
      clear b2
      go_wp2
      go_ret
      exact ⟨rfl, B2.out⟩
  · have h0 : agOk a = false := by simpa using h
    rw [if_neg h]
    have HO := Hid.of h0
    clear h h0
    go_enter Try.func25, Try.ntmps25
    go_wp2_with fail
    refine (aggValid_any a _).mono ?_
    rintro e w1 ⟨rfl, b1⟩
    rw [HO.out]
    have B1 := Hid.of (B0.out.trans (b1.mono B0.out.size))
    clear b1
    go_wp2
    go_ret
    exact ⟨rfl, B1.out⟩

end Go.Proofs.Ytfoffoiimlgoeaa
