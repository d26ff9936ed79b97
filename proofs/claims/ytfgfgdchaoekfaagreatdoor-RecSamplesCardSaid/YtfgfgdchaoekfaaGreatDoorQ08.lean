/-
  A bundle of texts: AGS AGJ.
-/
import Derived.Laws.Externs
import Derived.Deep.RegionHeld3
import Derived.Test.YtfgfgdchaoekfaaGreatDoorQ04
namespace Go.Proofs.YtfgfgdchaoekfaaGreatDoor
open Go.RowKit Go.Lib

theorem agSign_shift (v : Int) (h1 : -9223372036854775808 ≤ v) (h2 : v ≤ 9223372036854775807) : v / 9223372036854775808 = agSign v := by
  unfold agSign
  split <;> omega

theorem aggSign_any (v : Int) (h1 : -9223372036854775808 ≤ v) (h2 : v ≤ 9223372036854775807) (w : World) : Calls Tryz.prog 117 #[.int .i64 v] w fun e w' => e = .returned (.int .i64 (agSign v)) ∧ w = w' := by
  have H := Hid.of (agSign_shift v h1 h2)
  go_enter Tryz.func117, Tryz.ntmps117
  go_wp2
  rw [H.out]
  go_ret
  exact ⟨rfl, rfl⟩

theorem u64_wrap (x : Int) : IntKind.u64.wrap x = x % 18446744073709551616 := by
  unfold IntKind.wrap
  rfl

theorem aggOne_any (v : Int) (h1 : -9223372036854775808 ≤ v) (h2 : v ≤ 9223372036854775807) (w : World) : Calls Tryz.prog 83 #[.int .i64 v] w fun e w' => e = .returned (agv (agOne v)) ∧ Below w.heap.size w w' := by
  go_enter Tryz.func83, Tryz.ntmps83
  go_wp2_with fail
  refine (aggSign_any v h1 h2 _).mono ?_
  rintro e w1 ⟨rfl, rfl⟩
  go_wp2
  refine bodyPost_ret (v := agv (agOne v)) ?_ rfl ⟨rfl, ?_⟩
  · rw [u64_wrap]
    simp [results, Tryz.results83, go_sem, agOne]
  · exact (Below.refl _ _).alloc (Nat.le_refl _) _

theorem add64 (x y c : Int) (hx : 0 ≤ x) (hy : 0 ≤ y) (hc0 : 0 ≤ c) (hc : c ≤ 1) (w : World) : (callFunc 133 #[.int .u64 x, .int .u64 y, .int .u64 c]).run Tryz.prog w =
    .ok (.value (.tuple #[.int .u64 ((x + y + c) % 18446744073709551616), .int .u64 ((x + y + c) / 18446744073709551616)])) w := by
  rw [run_callFunc_extern Tryz.func133 (by kernel_rfl) (by kernel_rfl) (by kernel_rfl) (e := add64Entry) (by kernel_rfl), run_add64 x y c hx hy hc0 hc]
  rfl

theorem add64_0 (x y : Int) (hx : 0 ≤ x) (hy : 0 ≤ y) (w : World) : (callFunc 133 #[.int .u64 x, .int .u64 y, .int .u64 0]).run Tryz.prog w =
    .ok (.value (.tuple #[.int .u64 ((x + y) % 18446744073709551616), .int .u64 ((x + y) / 18446744073709551616)])) w := by
  simpa using add64 x y 0 hx hy (Int.le_refl 0) (by decide) w

theorem agHigh (x y k : Int) : wrap64 ((IntKind.u64.wrap x + IntKind.u64.wrap y + k) % 18446744073709551616) = w64 (x + y + k) := by
  rw [u64_wrap, u64_wrap]
  unfold w64 wrap64
  omega

theorem aggSum_any (a b : Ag) (ha : AgIn a) (hb : AgIn b) (w : World) : Calls Tryz.prog 115 #[agv a, agv b] w fun e w' => e = .returned (.tuple #[.int .i64 (agBoth a b).hi, .int .u64 (agBoth a b).lo]) ∧ Below w.heap.size w w' := by
  obtain ⟨c, hi, lo, mn, mx⟩ := a
  obtain ⟨c', hi', lo', mn', mx'⟩ := b
  obtain ⟨a1, a2, a3, a4, a5⟩ := ha
  obtain ⟨b1, b2, b3, b4, b5⟩ := hb
  simp only at a1 a2 a3 a4 a5 b1 b2 b3 b4 b5
  have k0 : 0 ≤ (lo + lo') / 18446744073709551616 := by omega
  have k1 : (lo + lo') / 18446744073709551616 ≤ 1 := by omega
  have k2 : 0 ≤ IntKind.u64.wrap hi := by rw [u64_wrap]; omega
  have k3 : 0 ≤ IntKind.u64.wrap hi' := by rw [u64_wrap]; omega
  go_enter Tryz.func115, Tryz.ntmps115
  go_wp2_with (first | simp only [add64_0 lo lo' a3.1 b3.1] | simp only [add64 _ _ _ k2 k3 k0 k1])
  rw [agHigh hi hi']
  go_ret2
  exact ⟨rfl, ((Below.refl _ _).alloc (Nat.le_refl _) _).alloc (by simp) _⟩

set_option maxHeartbeats 400000 in
theorem aggCount_any (a b : Ag) (ha : agOk a = true) (hb : agOk b = true) (w : World) : Calls Tryz.prog 116 #[agv a, agv b] w fun e w' => e = .returned (.int .i64 (agBoth a b).c) ∧ Below w.heap.size w w' := by
  rw [agOk_iff] at ha hb
  obtain ⟨c, hi, lo, mn, mx⟩ := a
  obtain ⟨c', hi', lo', mn', mx'⟩ := b
  simp only [agBoth] at ha hb ⊢
  by_cases h : 4611686018427387904 - c' < c
  · have e : min (c + c') 4611686018427387904 = 4611686018427387904 := by omega
    rw [e]
    clear e
    go_enter Tryz.func116, Tryz.ntmps116
    go_wp2
    go_ret
    exact ⟨rfl, ((Below.refl _ _).alloc (Nat.le_refl _) _).alloc (by simp) _⟩
  · have e : min (c + c') 4611686018427387904 = c + c' := by omega
    rw [e]
    clear e
    go_enter Tryz.func116, Tryz.ntmps116
    go_wp2
    go_ret
    exact ⟨rfl, ((Below.refl _ _).alloc (Nat.le_refl _) _).alloc (by simp) _⟩

end Go.Proofs.YtfgfgdchaoekfaaGreatDoor

namespace Go.Proofs.YtfgfgdchaoekfaaGreatDoor
open Go.RowKit Go.Lib

theorem bcell {W w1 : World} (hb : Below W.heap.size W w1) : (∀ b o, b < W.heap.size → w1.cell? ⟨b, o, none⟩ = W.cell? ⟨b, o, none⟩) ∧ (∀ b o, b < W.heap.size → w1.frozen? ⟨b, o, none⟩ = W.frozen? ⟨b, o, none⟩) :=
  ⟨fun b o h => hb.cell (p := ⟨b, o, none⟩) h, fun b o h => hb.frozen (p := ⟨b, o, none⟩) h⟩

theorem below3 (w : World) (o p q : Obj) {w1 : World} (h : Below (((w.alloc o).alloc p).alloc q).heap.size (((w.alloc o).alloc p).alloc q) w1) : Below w.heap.size w w1 :=
  ((((Below.refl _ _).alloc (Nat.le_refl _) _).alloc (by simp) _).alloc (by simp; omega) _).trans (h.mono (by simp; omega))

theorem below5 {w w1 : World} (h : Below w.heap.size w w1) (p : Nat) (hp : w.heap.size ≤ p) (v0 v1 v2 v3 v4 : Value) :
    Below w.heap.size w (((((w1.setCell ⟨p, 0, none⟩ v0).setCell ⟨p, 1, none⟩ v1).setCell ⟨p, 2, none⟩ v2).setCell ⟨p, 3, none⟩ v3).setCell ⟨p, 4, none⟩ v4) :=
  ((((h.setCell hp _).setCell hp _).setCell hp _).setCell hp _).setCell hp _

theorem join_bad (a b : Ag) (hb : agOk b = false) (w : World) : Calls Tryz.prog 82 #[agv a, agv b] w fun e w' => e = .returned (agv a) ∧ Below w.heap.size w w' := by
  have HB := Hid.of hb
  clear hb
  go_enter Tryz.func82, Tryz.ntmps82
  go_wp2_with fail
  refine (aggValid_any b _).mono ?_
  rintro e w1 ⟨rfl, b1⟩
  rw [HB.out]
  obtain ⟨hc, hf⟩ := bcell b1
  have hz : w.heap.size + 2 < w1.heap.size := by have := b1.size; simp at this; omega
  have B1 := Hid.of (below3 _ _ _ _ b1)
  clear b1
  go_wp2
  refine bodyPost_ret (v := agv a) ?_ rfl ⟨rfl, ?_⟩
  · simp [results, Tryz.results82, go_sem, hc]
  · exact below5 B1.out _ (by omega) _ _ _ _ _

set_option maxHeartbeats 400000 in
theorem join_one (a b : Ag) (ha : agOk a = false) (hb : agOk b = true) (w : World) : Calls Tryz.prog 82 #[agv a, agv b] w fun e w' => e = .returned (agv b) ∧ Below w.heap.size w w' := by
  have HA := Hid.of ha
  have HB := Hid.of hb
  clear ha hb
  go_enter Tryz.func82, Tryz.ntmps82
  go_wp2_with fail
  refine (aggValid_any b _).mono ?_
  rintro e w1 ⟨rfl, b1⟩
  rw [HB.out]
  obtain ⟨hc, hf⟩ := bcell b1
  have C1 := Hid.of b1
  clear b1
  go_wp2_with fail
  refine (aggValid_any a _).mono ?_
  rintro e w2 ⟨rfl, b2⟩
  rw [HA.out]
  have c2 := C1.out.trans (b2.mono C1.out.size)
  clear C1 b2 hc hf
  obtain ⟨hc, hf⟩ := bcell c2
  have hz : w.heap.size + 2 < w2.heap.size := by have := c2.size; simp at this; omega
  have B2 := Hid.of (below3 _ _ _ _ c2)
  clear c2
  go_wp2
  refine bodyPost_ret (v := agv b) ?_ rfl ⟨rfl, ?_⟩
  · simp [results, Tryz.results82, go_sem, hc]
  · exact below5 B2.out _ (by omega) _ _ _ _ _

theorem far5 {W : World} {p b o : Nat} (v0 v1 v2 v3 v4 : Value) (h : p ≠ b) :
    (((((W.setCell ⟨p, 0, none⟩ v0).setCell ⟨p, 1, none⟩ v1).setCell ⟨p, 2, none⟩ v2).setCell ⟨p, 3, none⟩ v3).setCell ⟨p, 4, none⟩ v4).cell? ⟨b, o, none⟩ = W.cell? ⟨b, o, none⟩ := by
  rw [World.cell?_setCell_far _ _ _ _ h, World.cell?_setCell_far _ _ _ _ h, World.cell?_setCell_far _ _ _ _ h, World.cell?_setCell_far _ _ _ _ h, World.cell?_setCell_far _ _ _ _ h]

theorem two_kept {w w1 : World} (a b : Ag) (o : Obj) (h : Below (((w.alloc (.cells #[.int .i64 a.c, .int .i64 a.hi, .int .u64 a.lo, .int .i64 a.mn, .int .i64 a.mx] 48)).alloc (.cells #[.int .i64 b.c, .int .i64 b.hi, .int .u64 b.lo, .int .i64 b.mn, .int .i64 b.mx] 48)).alloc o).heap.size (((w.alloc (.cells #[.int .i64 a.c, .int .i64 a.hi, .int .u64 a.lo, .int .i64 a.mn, .int .i64 a.mx] 48)).alloc (.cells #[.int .i64 b.c, .int .i64 b.hi, .int .u64 b.lo, .int .i64 b.mn, .int .i64 b.mx] 48)).alloc o) w1) :
    w1.cell? ⟨w.heap.size, 0, none⟩ = some (.int .i64 a.c) ∧ w1.cell? ⟨w.heap.size, 1, none⟩ = some (.int .i64 a.hi) ∧ w1.cell? ⟨w.heap.size, 2, none⟩ = some (.int .u64 a.lo) ∧ w1.cell? ⟨w.heap.size, 3, none⟩ = some (.int .i64 a.mn) ∧ w1.cell? ⟨w.heap.size, 4, none⟩ = some (.int .i64 a.mx) ∧ w1.cell? ⟨w.heap.size + 1, 0, none⟩ = some (.int .i64 b.c) ∧ w1.cell? ⟨w.heap.size + 1, 1, none⟩ = some (.int .i64 b.hi) ∧ w1.cell? ⟨w.heap.size + 1, 2, none⟩ = some (.int .u64 b.lo) ∧ w1.cell? ⟨w.heap.size + 1, 3, none⟩ = some (.int .i64 b.mn) ∧ w1.cell? ⟨w.heap.size + 1, 4, none⟩ = some (.int .i64 b.mx) := by
  obtain ⟨hc, _⟩ := bcell h
  refine ⟨?_, ?_, ?_, ?_, ?_, ?_, ?_, ?_, ?_, ?_⟩ <;> (rw [hc _ _ (by simp <;> omega)]; simp [go_sem])

set_option maxHeartbeats 800000 in
theorem join_both (a b : Ag) (ha : agOk a = true) (hb : agOk b = true) (ia : AgIn a) (ib : AgIn b) (w : World) : Calls Tryz.prog 82 #[agv a, agv b] w fun e w' => e = .returned (agv (agBoth a b)) ∧ Below w.heap.size w w' := by
  have HA := Hid.of ha
  have HB := Hid.of hb
  have IA := Hid.of ia
  have IB := Hid.of ib
  clear ha hb ia ib
  go_enter Tryz.func82, Tryz.ntmps82
  go_wp2_with fail
  refine (aggValid_any b _).mono ?_
  rintro e w1 ⟨rfl, b1⟩
  rw [HB.out]
  obtain ⟨hc, hf⟩ := bcell b1
  have C1 := Hid.of b1
  clear b1
  go_wp2_with fail
  refine (aggValid_any a _).mono ?_
  rintro e w2 ⟨rfl, b2⟩
  rw [HA.out]
  have c2 := C1.out.trans (b2.mono C1.out.size)
  clear C1 b2 hc hf
  obtain ⟨hc, hf⟩ := bcell c2
  have C2 := Hid.of c2
  clear c2
  go_wp2_with fail
  refine (aggSum_any a b IA.out IB.out _).mono ?_
  rintro e w3 ⟨rfl, b3⟩
  have c3 := C2.out.trans (b3.mono C2.out.size)
  clear C2 b3 hc hf
  obtain ⟨q0, q1, q2, q3, q4, p0, p1, p2, p3, p4⟩ := two_kept _ _ _ c3
  have C3 := Hid.of c3
  clear c3
  go_wp2
  obtain ⟨m, hm⟩ : ∃ m, (if b.mn < a.mn then b.mn else a.mn) = m := ⟨_, rfl⟩
  obtain ⟨n, hn⟩ : ∃ n, (if a.mx < b.mx then b.mx else a.mx) = n := ⟨_, rfl⟩
  go_region_held3 (fun w' => w'.cell? ⟨w.heap.size, 0, none⟩ = some (.int .i64 a.c) ∧ w'.cell? ⟨w.heap.size, 1, none⟩ = some (.int .i64 a.hi) ∧ w'.cell? ⟨w.heap.size, 2, none⟩ = some (.int .u64 a.lo) ∧ w'.cell? ⟨w.heap.size, 3, none⟩ = some (.int .i64 a.mn) ∧ w'.cell? ⟨w.heap.size, 4, none⟩ = some (.int .i64 a.mx) ∧ w'.cell? ⟨w.heap.size + 1, 0, none⟩ = some (.int .i64 b.c) ∧ w'.cell? ⟨w.heap.size + 1, 1, none⟩ = some (.int .i64 b.hi) ∧ w'.cell? ⟨w.heap.size + 1, 2, none⟩ = some (.int .u64 b.lo) ∧ w'.cell? ⟨w.heap.size + 1, 3, none⟩ = some (.int .i64 b.mn) ∧ w'.cell? ⟨w.heap.size + 1, 4, none⟩ = some (.int .i64 b.mx)) (refine ⟨?_, ?_, ?_, ?_, ?_, ?_, ?_, ?_, ?_, ?_⟩ <;> (first | (rw [far5 _ _ _ _ _ (by omega)]; with_reducible assumption) | (go_keep; done))) ((go_at_call 116; refine (aggCount_any a b HA.out HB.out _).mono ?_; rintro e w4 ⟨rfl, b4⟩; have c4 := C3.out.drew.trans (b4.mono C3.out.drew.size); obtain ⟨hc, hf⟩ := bcell c4; obtain ⟨r0, r1, r2, r3, r4, s0, s1, s2, s3, s4⟩ := two_kept _ _ _ c4; have hz4 : w.heap.size + 2 < w4.heap.size := by have := c4.size; simp at this; omega))
  all_goals
    have em : m = (agBoth a b).mn := by rw [← hm]; simp only [agBoth]; split <;> omega
    have en : n = (agBoth a b).mx := by rw [← hn]; simp only [agBoth]; split <;> omega
    clear hm hn
    subst em en
    go_wp2
    refine bodyPost_ret (v := agv (agBoth a b)) ?_ rfl ⟨rfl, ?_⟩
    · simp [results, Tryz.results82, go_sem, hc]
    · exact below5 (below3 _ _ _ _ c4) _ (by omega) _ _ _ _ _

theorem aggJoin_any (a b : Ag) (ia : AgIn a) (ib : AgIn b) (w : World) : Calls Tryz.prog 82 #[agv a, agv b] w fun e w' => e = .returned (agv (agJoin a b)) ∧ Below w.heap.size w w' := by
  unfold agJoin
  by_cases hb : agOk b = true
  · by_cases ha : agOk a = true
    · rw [if_pos hb, if_pos ha]
      exact join_both a b ha hb ia ib w
    · rw [if_pos hb, if_neg ha]
      exact join_one a b (by simpa using ha) hb w
  · rw [if_neg hb]
    exact join_bad a b (by simpa using hb) w

end Go.Proofs.YtfgfgdchaoekfaaGreatDoor
