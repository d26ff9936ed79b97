/-
  A bundle of texts: AGR AGQ.
-/
import Derived.Deep.QuietTactic
import Derived.BigQuiet
import Derived.Test.YtdchjcidfaencaaGreatQ12
namespace Go.Proofs.YtdchjcidfaencaaGreat
open Go.RowKit Go.Lib

theorem refOne_any (v : Int) (w : World) : Calls Tryz.prog 33 #[.int .i64 v] w fun e w' => e = .returned (agv (agOne v)) ∧ Below w.heap.size w w' := by
  have HW := Hid.of (u64_wrap v)
  by_cases h : v < 0
  · have HS : Hid (agSign v = -1) := Hid.of (by unfold agSign; rw [if_pos h])
    go_enter Tryz.func33, Tryz.ntmps33
    go_wp2
    refine bodyPost_ret (v := agv (agOne v)) ?_ rfl ⟨rfl, ?_⟩
    · simp [results, Tryz.results33, go_sem, agOne, HS.out, HW.out]
    · exact (Below.refl _ _).alloc (Nat.le_refl _) _
  · have HS : Hid (agSign v = 0) := Hid.of (by unfold agSign; rw [if_neg h])
    go_enter Tryz.func33, Tryz.ntmps33
    go_wp2
    refine bodyPost_ret (v := agv (agOne v)) ?_ rfl ⟨rfl, ?_⟩
    · simp [results, Tryz.results33, go_sem, agOne, HS.out, HW.out]
    · exact (Below.refl _ _).alloc (Nat.le_refl _) _

end Go.Proofs.YtdchjcidfaencaaGreat

namespace Go.Proofs.YtdchjcidfaencaaGreat
open Go.RowKit Go.Lib

/-- Two together. -/
def agRef (a b : Ag) : Ag := if agOk a = true then (if agOk b = true then agBoth a b else a) else if agOk b = true then b else agZero

theorem refLo (a b : Ag) (ia : AgIn a) (ib : AgIn b) : IntKind.u64.wrap (a.lo + b.lo) = (agBoth a b).lo ∧ (IntKind.u64.wrap (a.lo + b.lo) < a.lo → agCarry a b = 1) ∧ (¬ IntKind.u64.wrap (a.lo + b.lo) < a.lo → agCarry a b = 0) := by
  obtain ⟨_, _, ha, _⟩ := ia
  obtain ⟨_, _, hb, _⟩ := ib
  rw [u64_wrap]
  refine ⟨rfl, ?_, ?_⟩ <;> unfold agCarry <;> omega

theorem refHi (a b : Ag) : (agCarry a b = 1 → wrap64 (wrap64 (a.hi + b.hi) + 1) = (agBoth a b).hi) ∧ (agCarry a b = 0 → wrap64 (a.hi + b.hi) = (agBoth a b).hi) := by
  simp only [agBoth]
  constructor <;> intro h <;> rw [h] <;> unfold wrap64 w64 <;> omega

set_option maxHeartbeats 1600000 in
theorem refMerge_both (a b : Ag) (ha : agOk a = true) (hb : agOk b = true) (ia : AgIn a) (ib : AgIn b) (w : World) : Calls Tryz.prog 83 #[agv a, agv b] w fun e w' => e = .returned (agv (agBoth a b)) ∧ Below w.heap.size w w' := by
  have HA := Hid.of ha
  have HB := Hid.of hb
  have HC := Hid.of ((agOk_iff a).1 ha)
  have HD := Hid.of ((agOk_iff b).1 hb)
  have IA := Hid.of ia
  have IB := Hid.of ib
  clear ha hb ia ib
  go_enter Tryz.func83, Tryz.ntmps83
  go_wp2_with fail
  refine (refValid_any a _).mono ?_
  rintro e w1 ⟨rfl, b1⟩
  rw [HA.out]
  obtain ⟨hc, hf⟩ := bcell b1
  have C1 := Hid.of b1
  clear b1
  go_wp2_with fail
  refine (refValid_any a _).mono ?_
  rintro e w2 ⟨rfl, b2⟩
  rw [HA.out]
  have c2 := C1.out.trans (b2.mono C1.out.size)
  clear C1 b2 hc hf
  obtain ⟨hc, hf⟩ := bcell c2
  have C2 := Hid.of c2
  clear c2
  go_wp2_with fail
  refine (refValid_any b _).mono ?_
  rintro e w3 ⟨rfl, b3⟩
  rw [HB.out]
  have c3 := C2.out.trans (b3.mono C2.out.size)
  clear C2 b3 hc hf
  obtain ⟨hc, hf⟩ := bcell c3
  obtain ⟨q0, q1, q2, q3, q4, p0, p1, p2, p3, p4⟩ := two_kept _ _ _ c3
  have z2 : w.heap.size + 1 + 1 < w3.heap.size := by have := c3.size; simp at this; omega
  have z1 : w.heap.size + 1 < w3.heap.size := by omega
  have z0 : w.heap.size < w3.heap.size := by omega
  have C3 := Hid.of c3
  clear c3
  obtain ⟨L, hL⟩ : ∃ L, IntKind.u64.wrap (a.lo + b.lo) = L := ⟨_, rfl⟩
  obtain ⟨H, hH⟩ : ∃ H, wrap64 (a.hi + b.hi) = H := ⟨_, rfl⟩
  obtain ⟨d0, d1, d4⟩ := HC.out
  obtain ⟨d2, d3, d5⟩ := HD.out
  obtain ⟨m, hm⟩ : ∃ m, (if b.mn < a.mn then b.mn else a.mn) = m := ⟨_, rfl⟩
  obtain ⟨n, hn⟩ : ∃ n, (if a.mx < b.mx then b.mx else a.mx) = n := ⟨_, rfl⟩
  have hlo := refLo a b IA.out IB.out
  have hhi := refHi a b
  rw [hL] at hlo
  rw [hH] at hhi
  have em : m = (agBoth a b).mn := by rw [← hm]; simp only [agBoth]; split <;> omega
  have en : n = (agBoth a b).mx := by rw [← hn]; simp only [agBoth]; split <;> omega
  have EM := Hid.of em
  have EN := Hid.of en
  have HLO := Hid.of hlo
  have HHI := Hid.of hhi
  clear em en hlo hhi d4 d5
  by_cases g1 : a.c ≤ 4611686018427387904 - b.c <;> by_cases g2 : L < a.lo
  all_goals
    go_wp2
  · have ec : a.c + b.c = (agBoth a b).c := by simp only [agBoth]; omega
    have eh : wrap64 (H + 1) = (agBoth a b).hi := (HHI.out).1 ((HLO.out).2.1 g2)
    rw [ec, eh]
    have el : L = (agBoth a b).lo := (HLO.out).1
    obtain rfl := el
    obtain rfl := EM.out
    obtain rfl := EN.out
    refine bodyPost_ret (v := agv (agBoth a b)) ?_ rfl ⟨rfl, ?_⟩
    · simp [results, Tryz.results83, go_sem, hc, z2]
    · exact (below_set5 (below3 _ _ _ _ C3.out) (by omega) (agBoth a b)).alloc (by have := C3.out.size; simp at this; simp [World.setCell, set5]; omega) _
  · have ec : a.c + b.c = (agBoth a b).c := by simp only [agBoth]; omega
    have eh : H = (agBoth a b).hi := (HHI.out).2 ((HLO.out).2.2 g2)
    rw [ec]
    subst eh
    have el : L = (agBoth a b).lo := (HLO.out).1
    obtain rfl := el
    obtain rfl := EM.out
    obtain rfl := EN.out
    refine bodyPost_ret (v := agv (agBoth a b)) ?_ rfl ⟨rfl, ?_⟩
    · simp [results, Tryz.results83, go_sem, hc, z2]
    · exact (below_set5 (below3 _ _ _ _ C3.out) (by omega) (agBoth a b)).alloc (by have := C3.out.size; simp at this; simp [World.setCell, set5]; omega) _
  · have ec : 4611686018427387904 = (agBoth a b).c := by simp only [agBoth]; omega
    have eh : wrap64 (H + 1) = (agBoth a b).hi := (HHI.out).1 ((HLO.out).2.1 g2)
    rw [eh]
    have el : L = (agBoth a b).lo := (HLO.out).1
    obtain rfl := el
    obtain rfl := EM.out
    obtain rfl := EN.out
    refine bodyPost_ret (v := .agg #[.int .i64 4611686018427387904, .int .i64 (agBoth a b).hi, .int .u64 (agBoth a b).lo, .int .i64 (agBoth a b).mn, .int .i64 (agBoth a b).mx]) ?_ rfl ⟨by rw [ec], ?_⟩
    · simp [results, Tryz.results83, go_sem, hc, z2]
    · exact (below_set5 (below3 _ _ _ _ C3.out) (by omega) ⟨_, _, _, _, _⟩).alloc (by have := C3.out.size; simp at this; simp [World.setCell, set5]; omega) _
  · have ec : 4611686018427387904 = (agBoth a b).c := by simp only [agBoth]; omega
    have eh : H = (agBoth a b).hi := (HHI.out).2 ((HLO.out).2.2 g2)
    subst eh
    have el : L = (agBoth a b).lo := (HLO.out).1
    obtain rfl := el
    obtain rfl := EM.out
    obtain rfl := EN.out
    refine bodyPost_ret (v := .agg #[.int .i64 4611686018427387904, .int .i64 (agBoth a b).hi, .int .u64 (agBoth a b).lo, .int .i64 (agBoth a b).mn, .int .i64 (agBoth a b).mx]) ?_ rfl ⟨by rw [ec], ?_⟩
    · simp [results, Tryz.results83, go_sem, hc, z2]
    · exact (below_set5 (below3 _ _ _ _ C3.out) (by omega) ⟨_, _, _, _, _⟩).alloc (by have := C3.out.size; simp at this; simp [World.setCell, set5]; omega) _

set_option maxHeartbeats 800000 in
theorem refMerge_none (a b : Ag) (ha : agOk a = false) (hb : agOk b = false) (w : World) : Calls Tryz.prog 83 #[agv a, agv b] w fun e w' => e = .returned (agv agZero) ∧ Below w.heap.size w w' := by
  have HA := Hid.of ha
  have HB := Hid.of hb
  clear ha hb
  go_enter Tryz.func83, Tryz.ntmps83
  go_wp2_with fail
  refine (refValid_any a _).mono ?_
  rintro e w1 ⟨rfl, b1⟩
  rw [HA.out]
  have c1 := b1
  clear b1
  obtain ⟨hc, hf⟩ := bcell c1
  have z2 : w.heap.size + 1 + 1 < w1.heap.size := by have := c1.size; simp at this; omega
  have C1 := Hid.of c1
  clear c1
  go_wp2_with fail
  refine (refValid_any b _).mono ?_
  rintro e w2 ⟨rfl, b2⟩
  rw [HB.out]
  have c2 := C1.out.trans (b2.mono C1.out.size)
  clear C1 b2 hc hf z2
  obtain ⟨hc, hf⟩ := bcell c2
  have z2 : w.heap.size + 1 + 1 < w2.heap.size := by have := c2.size; simp at this; omega
  have C2 := Hid.of c2
  clear c2
  go_wp2
  refine bodyPost_ret (v := agv agZero) ?_ rfl ⟨rfl, ?_⟩
  · simp [results, Tryz.results83, go_sem, hc, agZero]
  · exact below_set5 (below3 _ _ _ _ C2.out) (by omega) agZero

set_option maxHeartbeats 800000 in
theorem refMerge_right (a b : Ag) (ha : agOk a = false) (hb : agOk b = true) (w : World) : Calls Tryz.prog 83 #[agv a, agv b] w fun e w' => e = .returned (agv b) ∧ Below w.heap.size w w' := by
  have HA := Hid.of ha
  have HB := Hid.of hb
  clear ha hb
  go_enter Tryz.func83, Tryz.ntmps83
  go_wp2_with fail
  refine (refValid_any a _).mono ?_
  rintro e w1 ⟨rfl, b1⟩
  rw [HA.out]
  have c1 := b1
  clear b1
  obtain ⟨hc, hf⟩ := bcell c1
  have z2 : w.heap.size + 1 + 1 < w1.heap.size := by have := c1.size; simp at this; omega
  have C1 := Hid.of c1
  clear c1
  go_wp2_with fail
  refine (refValid_any b _).mono ?_
  rintro e w2 ⟨rfl, b2⟩
  rw [HB.out]
  have c2 := C1.out.trans (b2.mono C1.out.size)
  clear C1 b2 hc hf z2
  obtain ⟨hc, hf⟩ := bcell c2
  have z2 : w.heap.size + 1 + 1 < w2.heap.size := by have := c2.size; simp at this; omega
  have C2 := Hid.of c2
  clear c2
  go_wp2_with fail
  refine (refValid_any a _).mono ?_
  rintro e w3 ⟨rfl, b3⟩
  rw [HA.out]
  have c3 := C2.out.trans (b3.mono C2.out.size)
  clear C2 b3 hc hf z2
  obtain ⟨hc, hf⟩ := bcell c3
  have z2 : w.heap.size + 1 + 1 < w3.heap.size := by have := c3.size; simp at this; omega
  have C3 := Hid.of c3
  clear c3
  go_wp2
  refine bodyPost_ret (v := agv b) ?_ rfl ⟨rfl, ?_⟩
  · simp [results, Tryz.results83, go_sem, hc]
  · exact below_set5 (below3 _ _ _ _ C3.out) (by omega) b

set_option maxHeartbeats 800000 in
theorem refMerge_left (a b : Ag) (ha : agOk a = true) (hb : agOk b = false) (w : World) : Calls Tryz.prog 83 #[agv a, agv b] w fun e w' => e = .returned (agv a) ∧ Below w.heap.size w w' := by
  have HA := Hid.of ha
  have HB := Hid.of hb
  clear ha hb
  go_enter Tryz.func83, Tryz.ntmps83
  go_wp2_with fail
  refine (refValid_any a _).mono ?_
  rintro e w1 ⟨rfl, b1⟩
  rw [HA.out]
  have c1 := b1
  clear b1
  obtain ⟨hc, hf⟩ := bcell c1
  have z2 : w.heap.size + 1 + 1 < w1.heap.size := by have := c1.size; simp at this; omega
  have C1 := Hid.of c1
  clear c1
  go_wp2_with fail
  refine (refValid_any a _).mono ?_
  rintro e w2 ⟨rfl, b2⟩
  rw [HA.out]
  have c2 := C1.out.trans (b2.mono C1.out.size)
  clear C1 b2 hc hf z2
  obtain ⟨hc, hf⟩ := bcell c2
  have z2 : w.heap.size + 1 + 1 < w2.heap.size := by have := c2.size; simp at this; omega
  have C2 := Hid.of c2
  clear c2
  go_wp2_with fail
  refine (refValid_any b _).mono ?_
  rintro e w3 ⟨rfl, b3⟩
  rw [HB.out]
  have c3 := C2.out.trans (b3.mono C2.out.size)
  clear C2 b3 hc hf z2
  obtain ⟨hc, hf⟩ := bcell c3
  have z2 : w.heap.size + 1 + 1 < w3.heap.size := by have := c3.size; simp at this; omega
  have C3 := Hid.of c3
  clear c3
  go_wp2
  refine bodyPost_ret (v := agv a) ?_ rfl ⟨rfl, ?_⟩
  · simp [results, Tryz.results83, go_sem, hc]
  · exact below_set5 (below3 _ _ _ _ C3.out) (by omega) a

theorem refMerge_any (a b : Ag) (ia : AgIn a) (ib : AgIn b) (w : World) : Calls Tryz.prog 83 #[agv a, agv b] w fun e w' => e = .returned (agv (agRef a b)) ∧ Below w.heap.size w w' := by
  unfold agRef
  by_cases ha : agOk a = true
  · by_cases hb : agOk b = true
    · rw [if_pos ha, if_pos hb]
      exact refMerge_both a b ha hb ia ib w
    · rw [if_pos ha, if_neg hb]
      exact refMerge_left a b ha (by simpa using hb) w
  · by_cases hb : agOk b = true
    · rw [if_neg ha, if_pos hb]
      exact refMerge_right a b (by simpa using ha) hb w
    · rw [if_neg ha, if_neg hb]
      exact refMerge_none a b (by simpa using ha) (by simpa using hb) w

end Go.Proofs.YtdchjcidfaencaaGreat
