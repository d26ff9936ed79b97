/-
  What the document's own functions of chapter 3 answer: One, Merge, Value, Mean.
-/
import Derived.Test.YtfoffoiimlgoeaaAGN
namespace Go.Proofs.Ytfoffoiimlgoeaa
open Go.RowKit Go.Lib

theorem refOne_any (v : Int) (w : World) : Calls Try.prog 12 #[.int .i64 v] w fun e w' => e = .returned (agv (agOne v)) ∧ Below w.heap.size w w' := by
  have HW := Hid.of (u64_wrap v)
  by_cases h : v < 0
  · have HS : Hid (agSign v = -1) := Hid.of (by unfold agSign; rw [if_pos h])
    go_enter Try.func12, Try.ntmps12
    go_wp2
    refine bodyPost_ret (v := agv (agOne v)) ?_ rfl ⟨rfl, ?_⟩
    · simp [results, Try.results12, go_sem, agOne, HS.out, HW.out]
    · exact (Below.refl _ _).alloc (Nat.le_refl _) _
  · have HS : Hid (agSign v = 0) := Hid.of (by unfold agSign; rw [if_neg h])
    go_enter Try.func12, Try.ntmps12
    go_wp2
    refine bodyPost_ret (v := agv (agOne v)) ?_ rfl ⟨rfl, ?_⟩
    · simp [results, Try.results12, go_sem, agOne, HS.out, HW.out]
    · exact (Below.refl _ _).alloc (Nat.le_refl _) _

set_option maxHeartbeats 800000 in
theorem refValue_any (a : Ag) (ha : AgIn a) (w : World) : Calls Try.prog 24 #[agv a] w (SumEnd a w) := by
  have hlo := ha.2.2.1
  have hs : agSign (w64 a.lo) = if a.lo < 9223372036854775808 then 0 else -1 := by
    unfold agSign w64
    split <;> split <;> omega
  have key : ∀ f : Bool, agFits a = f → ∀ v, agVal a = v → Calls Try.prog 24 #[agv a] w fun e w' => e = .returned (.tuple #[.int .i64 v, .bool (!f)]) ∧ Below w.heap.size w w' := by
    intro f hf v hv
    unfold agVal at hv
    rw [hf] at hv
    unfold agFits at hf
    rw [hs] at hf
    clear hs
    obtain ⟨c, hi, lo, mn, mx⟩ := a
    simp only at hf hv hlo
    by_cases hl : lo < 9223372036854775808
    · rw [if_pos hl] at hf
      by_cases h0 : hi = 0
      · obtain rfl : f = true := by rw [← hf]; simpa using h0
        rw [if_pos rfl, w64_in (by omega) (by omega)] at hv
        subst h0 hv
        clear hf
        go_enter Try.func24, Try.ntmps24
        go_wp2
        go_ret2
        exact ⟨rfl, (Below.refl _ _).alloc (Nat.le_refl _) _⟩
      · obtain rfl : f = false := by rw [← hf]; simpa using h0
        rw [if_neg (by decide)] at hv
        subst hv
        clear hf
        have q0 : (hi == 0) = false := by simpa using h0
        by_cases h1 : hi = -1
        · subst h1
          clear h0
          go_enter Try.func24, Try.ntmps24
          go_wp2
          go_ret2
          exact ⟨rfl, (Below.refl _ _).alloc (Nat.le_refl _) _⟩
        · have q1 : (hi == -1) = false := by simpa using h1
          by_cases hn : hi < 0
          · rw [if_pos hn]
            go_enter Try.func24, Try.ntmps24
            go_wp2
            go_ret2
            exact ⟨rfl, (Below.refl _ _).alloc (Nat.le_refl _) _⟩
          · rw [if_neg hn]
            go_enter Try.func24, Try.ntmps24
            go_wp2
            go_ret2
            exact ⟨rfl, (Below.refl _ _).alloc (Nat.le_refl _) _⟩
    · rw [if_neg hl] at hf
      by_cases h1 : hi = -1
      · obtain rfl : f = true := by rw [← hf]; simpa using h1
        rw [if_pos rfl] at hv
        have hw := i64_wrap lo
        rw [hv] at hw
        subst h1
        clear hf hv
        go_enter Try.func24, Try.ntmps24
        go_wp2
        (try simp only [hw])
        go_ret2
        exact ⟨rfl, (Below.refl _ _).alloc (Nat.le_refl _) _⟩
      · obtain rfl : f = false := by rw [← hf]; simpa using h1
        rw [if_neg (by decide)] at hv
        subst hv
        clear hf
        have q1 : (hi == -1) = false := by simpa using h1
        by_cases h0 : hi = 0
        · subst h0
          clear h1
          go_enter Try.func24, Try.ntmps24
          go_wp2
          go_ret2
          exact ⟨rfl, (Below.refl _ _).alloc (Nat.le_refl _) _⟩
        · have q0 : (hi == 0) = false := by simpa using h0
          by_cases hn : hi < 0
          · rw [if_pos hn]
            go_enter Try.func24, Try.ntmps24
            go_wp2
            go_ret2
            exact ⟨rfl, (Below.refl _ _).alloc (Nat.le_refl _) _⟩
          · rw [if_neg hn]
            go_enter Try.func24, Try.ntmps24
            go_wp2
            go_ret2
            exact ⟨rfl, (Below.refl _ _).alloc (Nat.le_refl _) _⟩
  exact key _ rfl _ rfl

set_option maxHeartbeats 800000 in
theorem refMean_any (a : Ag) (ia : AgIn a) (w : World) : Calls Try.prog 26 #[agv a] w fun e w' => e = .returned (.int .i64 (agMean a)) ∧ Below w.heap.size w w' := by
  unfold agMean
  have B0 := Hid.of ((Below.refl w.heap.size w).alloc (Nat.le_refl _) (.cells (agCells a) 27))
  have IA := Hid.of ia
  clear ia
  by_cases h : agOk a = true
  · rw [if_pos h]
    have HO := Hid.of h
    by_cases hf : agFits a = true
    · rw [if_pos hf]
      have HF := Hid.of hf
      have ha := ((agOk_iff a).1 h).1
      clear h hf
      have k0 := Hid.of (AgBlk.new w a)
      go_enter Try.func26, Try.ntmps26
      go_wp2_with fail
      refine (refValid_any a _).mono ?_
      rintro e w1 ⟨rfl, b1⟩
      rw [HO.out]
      have B1 := Hid.of (B0.out.trans (b1.mono B0.out.size))
      have k1 := Hid.of (k0.out.kept b1)
      obtain ⟨q0, q1, q2, q3, q4⟩ := k1.out.at
      clear b1
      go_wp2_with fail
      refine (refValue_any a IA.out _).mono ?_
      rintro e w2 ⟨rfl, b2⟩
      rw [HF.out]
      have B2 := Hid.of (B1.out.trans (b2.mono B1.out.size))
      have k2 := Hid.of (k1.out.kept b2)
      clear q0 q1 q2 q3 q4
      obtain ⟨q0, q1, q2, q3, q4⟩ := k2.out.at
      clear b2
      go_wp2
      rw [i64_wrap]
      go_ret
      exact ⟨rfl, B2.out⟩
    · rw [if_neg hf]
      have hf : agFits a = false := by simpa using hf
      have HF := Hid.of hf
      clear h hf
      have k0 := Hid.of (AgBlk.new w a)
      go_enter Try.func26, Try.ntmps26
      go_wp2_with fail
      refine (refValid_any a _).mono ?_
      rintro e w1 ⟨rfl, b1⟩
      rw [HO.out]
      have B1 := Hid.of (B0.out.trans (b1.mono B0.out.size))
      have k1 := Hid.of (k0.out.kept b1)
      obtain ⟨q0, q1, q2, q3, q4⟩ := k1.out.at
      clear b1
      go_wp2_with fail
      refine (refValue_any a IA.out _).mono ?_
      rintro e w2 ⟨rfl, b2⟩
      rw [HF.out]
      have B2 := Hid.of (B1.out.trans (b2.mono B1.out.size))
      have k2 := Hid.of (k1.out.kept b2)
      clear q0 q1 q2 q3 q4
      obtain ⟨q0, q1, q2, q3, q4⟩ := k2.out.at
      clear b2
      go_wp2
      go_ret
      exact ⟨rfl, B2.out⟩
  · have h0 : agOk a = false := by simpa using h
    rw [if_neg h]
    have HO := Hid.of h0
    clear h h0
    go_enter Try.func26, Try.ntmps26
    go_wp2_with fail
    refine (refValid_any a _).mono ?_
    rintro e w1 ⟨rfl, b1⟩
    rw [HO.out]
    have B1 := Hid.of (B0.out.trans (b1.mono B0.out.size))
    clear b1
    go_wp2
    go_ret
    exact ⟨rfl, B1.out⟩

end Go.Proofs.Ytfoffoiimlgoeaa
