/-
  What function join of package agg answers.
-/
import Derived.Test.YtfoffoiimlgoeaaAGS
namespace Go.Proofs.Ytfoffoiimlgoeaa
open Go.RowKit Go.Lib

theorem bcell {W w1 : World} (hb : Below W.heap.size W w1) : (∀ b o, b < W.heap.size → w1.cell? ⟨b, o, none⟩ = W.cell? ⟨b, o, none⟩) ∧ (∀ b o, b < W.heap.size → w1.frozen? ⟨b, o, none⟩ = W.frozen? ⟨b, o, none⟩) :=
  ⟨fun b o h => hb.cell (p := ⟨b, o, none⟩) h, fun b o h => hb.frozen (p := ⟨b, o, none⟩) h⟩

theorem below3 (w : World) (o p q : Obj) {w1 : World} (h : Below (((w.alloc o).alloc p).alloc q).heap.size (((w.alloc o).alloc p).alloc q) w1) : Below w.heap.size w w1 :=
  ((((Below.refl _ _).alloc (Nat.le_refl _) _).alloc (by simp) _).alloc (by simp; omega) _).trans (h.mono (by simp; omega))

theorem below5 {w w1 : World} (h : Below w.heap.size w w1) (p : Nat) (hp : w.heap.size ≤ p) (v0 v1 v2 v3 v4 : Value) :
    Below w.heap.size w (((((w1.setCell ⟨p, 0, none⟩ v0).setCell ⟨p, 1, none⟩ v1).setCell ⟨p, 2, none⟩ v2).setCell ⟨p, 3, none⟩ v3).setCell ⟨p, 4, none⟩ v4) :=
  ((((h.setCell hp _).setCell hp _).setCell hp _).setCell hp _).setCell hp _

theorem join_bad (a b : Ag) (hb : agOk b = false) (w : World) : Calls Try.prog 29 #[agv a, agv b] w fun e w' => e = .returned (agv a) ∧ Below w.heap.size w w' := by
  have HB := Hid.of hb
  clear hb
  go_enter Try.func29, Try.ntmps29
  go_wp2_with fail
  refine (aggValid_any b _).mono ?_
  rintro e w1 ⟨rfl, b1⟩
  rw [HB.out]
  obtain ⟨hc, hf⟩ := bcell b1
  have hz : w.heap.size + 2 < w1.heap.size := by have := b1.size; simp at this; omega
  have B1 := Hid.of (below3 _ _ _ _ b1)
  clear b1
  go_wp2
  refine bodyPost_ret (v := agv a) ?_ rfl ⟨rfl, ?_⟩
  · simp [results, Try.results29, go_sem, hc]
  · exact below5 B1.out _ (by omega) _ _ _ _ _

set_option maxHeartbeats 400000 in
theorem join_one (a b : Ag) (ha : agOk a = false) (hb : agOk b = true) (w : World) : Calls Try.prog 29 #[agv a, agv b] w fun e w' => e = .returned (agv b) ∧ Below w.heap.size w w' := by
  have HA := Hid.of ha
  have HB := Hid.of hb
  clear ha hb
  go_enter Try.func29, Try.ntmps29
  go_wp2_with fail
  refine (aggValid_any b _).mono ?_
  rintro e w1 ⟨rfl, b1⟩
  rw [HB.out]
  obtain ⟨hc, hf⟩ := bcell b1
  have C1 := Hid.of b1
  clear b1
  go_wp2_with fail
  refine (aggValid_any a _).mono ?_
  rintro e w2 ⟨rfl, b2⟩
  rw [HA.out]
  have c2 := C1.out.trans (b2.mono C1.out.size)
  clear C1 b2 hc hf
  obtain ⟨hc, hf⟩ := bcell c2
  have hz : w.heap.size + 2 < w2.heap.size := by have := c2.size; simp at this; omega
  have B2 := Hid.of (below3 _ _ _ _ c2)
  clear c2
  go_wp2
  refine bodyPost_ret (v := agv b) ?_ rfl ⟨rfl, ?_⟩
  · simp [results, Try.results29, go_sem, hc]
  · exact below5 B2.out _ (by omega) _ _ _ _ _

theorem far5 {W : World} {p b o : Nat} (v0 v1 v2 v3 v4 : Value) (h : p ≠ b) :
    (((((W.setCell ⟨p, 0, none⟩ v0).setCell ⟨p, 1, none⟩ v1).setCell ⟨p, 2, none⟩ v2).setCell ⟨p, 3, none⟩ v3).setCell ⟨p, 4, none⟩ v4).cell? ⟨b, o, none⟩ = W.cell? ⟨b, o, none⟩ := by
  rw [World.cell?_setCell_far _ _ _ _ h, World.cell?_setCell_far _ _ _ _ h, World.cell?_setCell_far _ _ _ _ h, World.cell?_setCell_far _ _ _ _ h, World.cell?_setCell_far _ _ _ _ h]

theorem two_kept {w w1 : World} (a b : Ag) (o : Obj) (h : Below (((w.alloc (.cells #[.int .i64 a.c, .int .i64 a.hi, .int .u64 a.lo, .int .i64 a.mn, .int .i64 a.mx] 27)).alloc (.cells #[.int .i64 b.c, .int .i64 b.hi, .int .u64 b.lo, .int .i64 b.mn, .int .i64 b.mx] 27)).alloc o).heap.size (((w.alloc (.cells #[.int .i64 a.c, .int .i64 a.hi, .int .u64 a.lo, .int .i64 a.mn, .int .i64 a.mx] 27)).alloc (.cells #[.int .i64 b.c, .int .i64 b.hi, .int .u64 b.lo, .int .i64 b.mn, .int .i64 b.mx] 27)).alloc o) w1) :
    w1.cell? ⟨w.heap.size, 0, none⟩ = some (.int .i64 a.c) ∧ w1.cell? ⟨w.heap.size, 1, none⟩ = some (.int .i64 a.hi) ∧ w1.cell? ⟨w.heap.size, 2, none⟩ = some (.int .u64 a.lo) ∧ w1.cell? ⟨w.heap.size, 3, none⟩ = some (.int .i64 a.mn) ∧ w1.cell? ⟨w.heap.size, 4, none⟩ = some (.int .i64 a.mx) ∧ w1.cell? ⟨w.heap.size + 1, 0, none⟩ = some (.int .i64 b.c) ∧ w1.cell? ⟨w.heap.size + 1, 1, none⟩ = some (.int .i64 b.hi) ∧ w1.cell? ⟨w.heap.size + 1, 2, none⟩ = some (.int .u64 b.lo) ∧ w1.cell? ⟨w.heap.size + 1, 3, none⟩ = some (.int .i64 b.mn) ∧ w1.cell? ⟨w.heap.size + 1, 4, none⟩ = some (.int .i64 b.mx) := by
  obtain ⟨hc, _⟩ := bcell h
  refine ⟨?_, ?_, ?_, ?_, ?_, ?_, ?_, ?_, ?_, ?_⟩ <;> (rw [hc _ _ (by simp <;> omega)]; simp [go_sem])

set_option maxHeartbeats 800000 in
theorem join_both (a b : Ag) (ha : agOk a = true) (hb : agOk b = true) (ia : AgIn a) (ib : AgIn b) (w : World) : Calls Try.prog 29 #[agv a, agv b] w fun e w' => e = .returned (agv (agBoth a b)) ∧ Below w.heap.size w w' := by
  have HA := Hid.of ha
  have HB := Hid.of hb
  have IA := Hid.of ia
  have IB := Hid.of ib
  clear ha hb ia ib
  go_enter Try.func29, Try.ntmps29
  go_wp2_with fail
  refine (aggValid_any b _).mono ?_
  rintro e w1 ⟨rfl, b1⟩
  rw [HB.out]
  obtain ⟨hc, hf⟩ := bcell b1
  have C1 := Hid.of b1
  clear b1
  go_wp2_with fail
  refine (aggValid_any a _).mono ?_
  rintro e w2 ⟨rfl, b2⟩
  rw [HA.out]
  have c2 := C1.out.trans (b2.mono C1.out.size)
  clear C1 b2 hc hf
  obtain ⟨hc, hf⟩ := bcell c2
  have C2 := Hid.of c2
  clear c2
  go_wp2_with fail
  refine (aggSum_any a b IA.out IB.out _).mono ?_
  rintro e w3 ⟨rfl, b3⟩
  have c3 := C2.out.trans (b3.mono C2.out.size)
  clear C2 b3 hc hf
  obtain ⟨q0, q1, q2, q3, q4, p0, p1, p2, p3, p4⟩ := two_kept _ _ _ c3
  have C3 := Hid.of c3
  clear c3
  go_wp2
  obtain ⟨m, hm⟩ : ∃ m, (if b.mn < a.mn then b.mn else a.mn) = m := ⟨_, rfl⟩
  obtain ⟨n, hn⟩ : ∃ n, (if a.mx < b.mx then b.mx else a.mx) = n := ⟨_, rfl⟩
  go_region_held3 (fun w' => w'.cell? ⟨w.heap.size, 0, none⟩ = some (.int .i64 a.c) ∧ w'.cell? ⟨w.heap.size, 1, none⟩ = some (.int .i64 a.hi) ∧ w'.cell? ⟨w.heap.size, 2, none⟩ = some (.int .u64 a.lo) ∧ w'.cell? ⟨w.heap.size, 3, none⟩ = some (.int .i64 a.mn) ∧ w'.cell? ⟨w.heap.size, 4, none⟩ = some (.int .i64 a.mx) ∧ w'.cell? ⟨w.heap.size + 1, 0, none⟩ = some (.int .i64 b.c) ∧ w'.cell? ⟨w.heap.size + 1, 1, none⟩ = some (.int .i64 b.hi) ∧ w'.cell? ⟨w.heap.size + 1, 2, none⟩ = some (.int .u64 b.lo) ∧ w'.cell? ⟨w.heap.size + 1, 3, none⟩ = some (.int .i64 b.mn) ∧ w'.cell? ⟨w.heap.size + 1, 4, none⟩ = some (.int .i64 b.mx)) (refine ⟨?_, ?_, ?_, ?_, ?_, ?_, ?_, ?_, ?_, ?_⟩ <;> (first | (rw [far5 _ _ _ _ _ (by omega)]; with_reducible assumption) | (go_keep; done))) ((go_at_call 44; refine (aggCount_any a b HA.out HB.out _).mono ?_; rintro e w4 ⟨rfl, b4⟩; have c4 := C3.out.drew.trans (b4.mono C3.out.drew.size); obtain ⟨hc, hf⟩ := bcell c4; obtain ⟨r0, r1, r2, r3, r4, s0, s1, s2, s3, s4⟩ := two_kept _ _ _ c4; have hz4 : w.heap.size + 2 < w4.heap.size := by have := c4.size; simp at this; omega))
  all_goals
    have em : m = (agBoth a b).mn := by rw [← hm]; simp only [agBoth]; split <;> omega
    have en : n = (agBoth a b).mx := by rw [← hn]; simp only [agBoth]; split <;> omega
    clear hm hn
    subst em en
    go_wp2
    refine bodyPost_ret (v := agv (agBoth a b)) ?_ rfl ⟨rfl, ?_⟩
    · simp [results, Try.results29, go_sem, hc]
    · exact below5 (below3 _ _ _ _ c4) _ (by omega) _ _ _ _ _

theorem aggJoin_any (a b : Ag) (ia : AgIn a) (ib : AgIn b) (w : World) : Calls Try.prog 29 #[agv a, agv b] w fun e w' => e = .returned (agv (agJoin a b)) ∧ Below w.heap.size w w' := by
  unfold agJoin
  by_cases hb : agOk b = true
  · by_cases ha : agOk a = true
    · rw [if_pos hb, if_pos ha]
      exact join_both a b ha hb ia ib w
    · rw [if_pos hb, if_neg ha]
      exact join_one a b (by simpa using ha) hb w
  · rw [if_neg hb]
    exact join_bad a b (by simpa using hb) w

end Go.Proofs.Ytfoffoiimlgoeaa
