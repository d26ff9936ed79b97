/-
  What statement AggMany answers: true, for every input.
-/
import Derived.Test.YtfoffoiimlgoeaaAGE
namespace Go.Proofs.Ytfoffoiimlgoeaa
open Go.RowKit Go.Lib

theorem many_light (n m v : Int) (h : n < 1 ∨ 4611686018427387904 < n ∨ m < 1 ∨ 4611686018427387904 < m) (w : World) :
    Calls Try.prog 9 #[.int .i64 n, .int .i64 m, .int .i64 v] w fun e w' => e = .returned (.bool true) ∧ Below w.heap.size w w' := by
  have key : ∀ hs : n < 1 ∨ (¬ n < 1 ∧ 4611686018427387904 < n) ∨ (¬ n < 1 ∧ ¬ 4611686018427387904 < n ∧ m < 1) ∨ (¬ n < 1 ∧ ¬ 4611686018427387904 < n ∧ ¬ m < 1 ∧ 4611686018427387904 < m), Calls Try.prog 9 #[.int .i64 n, .int .i64 m, .int .i64 v] w fun e w' => e = .returned (.bool true) ∧ Below w.heap.size w w' := by
    clear h
    intro hs
    rcases hs with h1 | ⟨h1, h2⟩ | ⟨h1, h2, h3⟩ | ⟨h1, h2, h3, h4⟩
    all_goals
      go_enter Try.func9, Try.ntmps9
      go_wp2_with fail
      refine (aggAlive_any _).mono ?_
      rintro e w1 ⟨rfl, b1⟩
      go_wp2
      go_ret
      exact ⟨rfl, b1⟩
  exact key (by omega)

theorem agOf_one (v : Int) (h : IsInt v) : agOf [v] = agOne v := agJoin_zero_left _ (agOne_good h.1 h.2)

theorem agAll_two {a b : Ag} (ha : AgGood a) : agAll agZero [a, b] = agJoin a b := by
  show agJoin (agJoin agZero a) b = agJoin a b
  rw [agJoin_zero_left a ha]

/-- The aggregate of v, as if of n values. -/
def agAs (n v : Int) : Ag := ⟨n, (agOne v).hi, (agOne v).lo, v, v⟩

theorem agAs_good (n v : Int) (h1 : 1 ≤ n) (h2 : n ≤ 4611686018427387904) (h : IsInt v) : AgIn (agAs n v) ∧ agOk (agAs n v) = true := by
  obtain ⟨_, b, c, _, _⟩ := (agOne_good h.1 h.2).1
  refine ⟨⟨?_, b, c, h, h⟩, ?_⟩
  · simp only [agAs]; omega
  · rw [agOk_iff]; simp only [agAs]; omega

set_option maxHeartbeats 800000 in
theorem many_main (n m v : Int) (n1 : ¬ n < 1) (n2 : ¬ 4611686018427387904 < n) (m1 : ¬ m < 1) (m2 : ¬ 4611686018427387904 < m) (hv : IsInt v) (w : World) :
    Calls Try.prog 9 #[.int .i64 n, .int .i64 m, .int .i64 v] w fun e w' => e = .returned (.bool true) ∧ Below w.heap.size w w' := by
  have HV := Hid.of hv
  have HO := Hid.of (agOf_one v hv)
  obtain ⟨ia, oa⟩ := agAs_good n v (by omega) (by omega) hv
  obtain ⟨ib, ob⟩ := agAs_good m v (by omega) (by omega) hv
  have IA := Hid.of ia
  have IB := Hid.of ib
  obtain ⟨y, hy⟩ : ∃ y, agAll agZero [agAs n v, agAs m v] = y := ⟨_, rfl⟩
  have e1 : y = agBoth (agAs n v) (agAs m v) := by
    rw [← hy, agAll_two ⟨ia, .inl oa⟩]
    unfold agJoin
    rw [if_pos ob, if_pos oa]
  have oy : agOk y = true := by rw [e1]; exact agBoth_ok oa ob
  have iy : AgIn y := by rw [e1]; exact agBoth_in ia ib oa ob
  have cy : y.c = min (n + m) 4611686018427387904 := by rw [e1]; rfl
  obtain ⟨z, hz⟩ : ∃ z, agAll agZero [y, y] = z := ⟨_, rfl⟩
  have cz : z.c ≤ 4611686018427387904 := by
    have : agOk z = true := by
      rw [← hz, agAll_two ⟨iy, .inl oy⟩]
      unfold agJoin
      rw [if_pos oy, if_pos oy]
      exact agBoth_ok oy oy
    exact ((agOk_iff z).1 this).2.1
  have HY := Hid.of hy
  have HZ := Hid.of hz
  have OY := Hid.of oy
  have IY := Hid.of iy
  have CY := Hid.of cy
  clear hv ia oa ib ob hy e1 oy iy cy hz
  go_enter Try.func9, Try.ntmps9
  go_wp2_with fail
  refine (Of_named [v] (agOne v) HO.out (by intro x hx; simp at hx; subst hx; exact HV.out) (by simp) _ _ _ (by rfl) _ _ _ (by rfl) (by rfl)).mono ?_
  rintro e w1 ⟨rfl, b1⟩
  go_wp2_with fail
  refine (Of_named [v] (agOne v) HO.out (by intro x hx; simp at hx; subst hx; exact HV.out) (by simp) _ _ _ (by rfl) _ _ _ (by rfl) (by rfl)).mono ?_
  rintro e w2 ⟨rfl, c2⟩
  have b2 : Below w.heap.size w w2 := b1.trans (c2.mono b1.size)
  clear b1 c2
  simp only [agv]
  go_wp2_with fail
  refine (Merge_2n y (agAs n v) (agAs m v) HY.out IA.out IB.out _ _ _ (by rfl) _ (by simp)).mono ?_
  rintro e w3 ⟨rfl, c3⟩
  have b3 : Below w.heap.size w w3 := ((b2.alloc b2.size _).alloc (by have := b2.size; simp; omega) _).trans (c3.mono (by have := b2.size; simp; omega))
  have g3 := Hid.of (AgBlk.new w3 y)
  have B3 := Hid.of (b3.alloc b3.size (.cells (agCells y) 27))
  clear b2 c3 b3
  simp only [agv]
  by_cases g : n ≤ 4611686018427387904 - m
  all_goals
    have hq : (y.c == (if n ≤ 4611686018427387904 - m then n + m else 4611686018427387904)) = true := by rw [CY.out]; split <;> simp <;> omega
  · rw [if_pos g] at hq
    go_wp2_with fail
    refine (aggAlive_any _).mono ?_
    rintro e w4 ⟨rfl, c4⟩
    have g4 := Hid.of (g3.out.kept c4)
    have B4 := Hid.of (B3.out.trans (c4.mono B3.out.size))
    clear c4
    obtain ⟨q0, q1, q2, q3, q4⟩ := g4.out.at
    go_wp2_with fail
    refine (Valid_named y _ OY.out _).mono ?_
    rintro e w5 ⟨rfl, c5⟩
    have g5 := Hid.of (g4.out.kept c5)
    have B5 := Hid.of (B4.out.trans (c5.mono B4.out.size))
    clear c5 q0 q1 q2 q3 q4
    obtain ⟨q0, q1, q2, q3, q4⟩ := g5.out.at
    go_wp2_with fail
    refine (Merge_2n z y y HZ.out IY.out IY.out _ _ _ (by rfl) _ (by rfl)).mono ?_
    rintro e w6 ⟨rfl, c6⟩
    have B6 := Hid.of (B5.out.trans (c6.mono B5.out.size))
    clear c6 q0 q1 q2 q3 q4
    have F0 := field_c
    simp only [agv]
    go_wp2
    go_ret
    exact ⟨rfl, B6.out⟩
  · rw [if_neg g] at hq
    go_wp2_with fail
    refine (aggAlive_any _).mono ?_
    rintro e w4 ⟨rfl, c4⟩
    have g4 := Hid.of (g3.out.kept c4)
    have B4 := Hid.of (B3.out.trans (c4.mono B3.out.size))
    clear c4
    obtain ⟨q0, q1, q2, q3, q4⟩ := g4.out.at
    go_wp2_with fail
    refine (Valid_named y _ OY.out _).mono ?_
    rintro e w5 ⟨rfl, c5⟩
    have g5 := Hid.of (g4.out.kept c5)
    have B5 := Hid.of (B4.out.trans (c5.mono B4.out.size))
    clear c5 q0 q1 q2 q3 q4
    obtain ⟨q0, q1, q2, q3, q4⟩ := g5.out.at
    go_wp2_with fail
    refine (Merge_2n z y y HZ.out IY.out IY.out _ _ _ (by rfl) _ (by rfl)).mono ?_
    rintro e w6 ⟨rfl, c6⟩
    have B6 := Hid.of (B5.out.trans (c6.mono B5.out.size))
    clear c6 q0 q1 q2 q3 q4
    have F0 := field_c
    simp only [agv]
    go_wp2
    go_ret
    exact ⟨rfl, B6.out⟩

theorem many_any (n m v : Int) (hv : IsInt v) (w : World) :
    Calls Try.prog 9 #[.int .i64 n, .int .i64 m, .int .i64 v] w fun e w' => e = .returned (.bool true) ∧ Below w.heap.size w w' := by
  by_cases h : n < 1 ∨ 4611686018427387904 < n ∨ m < 1 ∨ 4611686018427387904 < m
  · exact many_light n m v h w
  · exact many_main n m v (fun c => h (.inl c)) (fun c => h (.inr (.inl c))) (fun c => h (.inr (.inr (.inl c)))) (fun c => h (.inr (.inr (.inr c)))) hv w

end Go.Proofs.Ytfoffoiimlgoeaa
