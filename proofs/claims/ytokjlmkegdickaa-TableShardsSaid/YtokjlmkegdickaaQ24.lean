/-
  A bundle of texts: TAL TDR TSH.
-/
import Derived.Deep.RegionHeld3
import Derived.Deep.QuietTactic
import Derived.BigQuiet
import Derived.Test.YtokjlmkegdickaaQ21
import Derived.Test.YtokjlmkegdickaaQ14
/-
  Package table: a first call whose answer the document fixes.
-/
namespace Go.Proofs.Ytokjlmkegdickaa
open Go.RowKit Go.Lib

def ta (s : Int) (a : Ag) : TRec := ⟨⟨#[97]⟩, s, a⟩
def g1 : Ag := ⟨1, 0, 1, 1, 1⟩
def g3 : Ag := ⟨1, 0, 3, 3, 3⟩
def g13 : Ag := ⟨2, 0, 4, 1, 3⟩

theorem of_1 : agOf [1] = g1 := by kernel_rfl
theorem of_3 : agOf [3] = g3 := by kernel_rfl
theorem of_13 : agOf [1, 3] = g13 := by kernel_rfl

def aliveRs : List TRec := [ta 20 g1, ta 21 g1, ta 20 g3]

theorem alive_adds : tAdds (max 10 1) [] aliveRs = [ta 20 g13] := by kernel_rfl
theorem alive_count : tCount (max 10 1) aliveRs = 2 := by kernel_rfl
theorem alive_at : tAt [ta 20 g13] (⟨#[97]⟩, 20) = g13 ∧ tHas [ta 20 g13] (⟨#[97]⟩, 20) = true := ⟨by kernel_rfl, by kernel_rfl⟩
theorem alive_need : tNeed [ta 20 g13] 1 = 1 := by kernel_rfl

theorem alive_fit : ∀ r ∈ aliveRs, TFit r := by
  intro r hr
  simp only [aliveRs, List.mem_cons, List.not_mem_nil, or_false] at hr
  rcases hr with rfl | rfl | rfl
  all_goals
    refine ⟨by unfold maxLen; decide, by unfold TIn64 ta; decide, ?_⟩
    unfold AgIn ta
    decide

/-- The cells of the three records. -/
def aliveCells : Array Value := #[.string ⟨#[97]⟩, .int .i64 20, .int .i64 g1.c, .int .i64 g1.hi, .int .u64 g1.lo, .int .i64 g1.mn, .int .i64 g1.mx, .string ⟨#[97]⟩, .int .i64 21, .int .i64 g1.c, .int .i64 g1.hi, .int .u64 g1.lo, .int .i64 g1.mn, .int .i64 g1.mx, .string ⟨#[97]⟩, .int .i64 20, .int .i64 g3.c, .int .i64 g3.hi, .int .u64 g3.lo, .int .i64 g3.mn, .int .i64 g3.mx]

theorem alive_row (w : World) (T : TypeId) : CellRow (w.alloc (.cells aliveCells T)) (.slice (some ⟨w.heap.size, 0, none⟩) 3 3) aliveRs.length (flat renc (aliveRs.map rl)) :=
  ⟨_, _, rfl, .inr ⟨w.heap.size, 0, rfl, by simp, new_cells w aliveCells T⟩⟩

theorem ints_1 (x : Int) (h : -9223372036854775808 ≤ x ∧ x ≤ 9223372036854775807) : Ints [x] := fun y hy => by rw [List.mem_singleton.1 hy]; exact h

theorem num_1 (w : World) (x : Int) (T : TypeId) : NumRow .i64 (w.alloc (.cells #[.int .i64 x] T)) (.slice (some ⟨w.heap.size, 0, none⟩) 1 1) [x] :=
  CellRow.ints (xs := [x]) ⟨_, _, rfl, .inr ⟨w.heap.size, 0, rfl, by simp, new_cells w #[.int .i64 x] T⟩⟩

theorem num_13 (w : World) (T : TypeId) : NumRow .i64 (w.alloc (.cells #[.int .i64 1, .int .i64 3] T)) (.slice (some ⟨w.heap.size, 0, none⟩) 2 2) [1, 3] :=
  CellRow.ints (xs := [1, 3]) ⟨_, _, rfl, .inr ⟨w.heap.size, 0, rfl, by simp, new_cells w #[.int .i64 1, .int .i64 3] T⟩⟩

set_option maxRecDepth 20000 in
set_option maxHeartbeats 3200000 in
theorem tableAlive_any (S : TableSpec) (w : World) : Calls Try.prog 9 #[] w fun e w' => e = .returned (.bool true) ∧ Below w.heap.size w w' := by
  go_enter Try.func9, Try.ntmps9
  go_wp2_with fail
  refine (S.new 10 _ (by unfold TIn64; decide)).mono ?_
  rintro e w1 ⟨p, F, rfl, rep, hF, b1⟩
  have T1 : Hid (THere S w.heap.size w w1 p (max 10 1) [] F) := Hid.of ⟨rep, hF, b1.size, b1⟩
  clear rep hF b1
  go_upto_region 2 with fail
  go_wp2_with fail
  refine (aggOf_any _ [1] _ (num_1 w1 1 3) (ints_1 1 (by decide)) (by simp)).mono ?_
  rintro e w2 ⟨rfl, b2⟩
  rw [of_1]
  have T2 := Hid.of (T1.out.next (((Below.refl _ _).alloc (Nat.le_refl _) _).trans (b2.mono (by simp))))
  clear b2 T1
  go_wp2_with fail
  refine (aggOf_any _ [1] _ (num_1 w2 1 3) (ints_1 1 (by decide)) (by simp)).mono ?_
  rintro e w3 ⟨rfl, b3⟩
  rw [of_1]
  have T3 := Hid.of (T2.out.next (((Below.refl _ _).alloc (Nat.le_refl _) _).trans (b3.mono (by simp))))
  clear b3 T2
  go_wp2_with fail
  refine (aggOf_any _ [3] _ (num_1 w3 3 3) (ints_1 3 (by decide)) (by simp)).mono ?_
  rintro e w4 ⟨rfl, b4⟩
  rw [of_3]
  have T4 := Hid.of (T3.out.next (((Below.refl _ _).alloc (Nat.le_refl _) _).trans (b4.mono (by simp))))
  clear b4 T3
  go_wp2_with fail
  obtain ⟨w5, hw5⟩ : ∃ w5, w4.alloc (.cells #[.string ⟨#[97]⟩, .int .i64 20, .int .i64 g1.c, .int .i64 g1.hi, .int .u64 g1.lo, .int .i64 g1.mn, .int .i64 g1.mx, .string ⟨#[97]⟩, .int .i64 21, .int .i64 g1.c, .int .i64 g1.hi, .int .u64 g1.lo, .int .i64 g1.mn, .int .i64 g1.mx, .string ⟨#[97]⟩, .int .i64 20, .int .i64 g3.c, .int .i64 g3.hi, .int .u64 g3.lo, .int .i64 g3.mn, .int .i64 g3.mx] 26) = w5 := ⟨_, rfl⟩
  rw [hw5]
  have row : CellRow w5 (.slice (some ⟨w4.heap.size, 0, none⟩) 3 3) aliveRs.length (flat renc (aliveRs.map rl)) := by rw [← hw5]; exact alive_row w4 _
  have b5 : Below w4.heap.size w4 w5 := by rw [← hw5]; exact (Below.refl _ _).alloc (Nat.le_refl _) _
  have T5 := Hid.of (T4.out.next b5)
  have off : aliveRs ≠ [] → Off F.own (.slice (some ⟨w4.heap.size, 0, none⟩) 3 3) := fun _ g hg hF => by
    have := S.lt T4.out.rep g (S.sub T4.out.rep g hF)
    simp [Value.ownBlock] at hg
    omega
  clear hw5 b5 T4
  refine (S.add _ aliveRs T5.out.rep (by decide) row off alive_fit).mono ?_
  clear row off
  rintro e w6 ⟨he, F6, rep6, st6⟩
  rw [alive_count] at he
  rw [alive_adds] at rep6
  subst he
  have T6 := Hid.of (T5.out.step rep6 st6)
  clear rep6 st6 T5
  go_wp2_with fail
  refine (S.find ⟨#[97]⟩ 20 T6.out.rep (by decide) (by decide) (by unfold TIn64; decide)).mono ?_
  rintro e w7 ⟨he, b7⟩
  rw [alive_at.1, alive_at.2] at he
  subst he
  have T7 := Hid.of (T6.out.next b7)
  clear b7 T6
  go_upto_region 5 with fail
  obtain ⟨w8, hw8⟩ : ∃ w8, w7.alloc (.cells #[.int .i64 g13.c, .int .i64 g13.hi, .int .u64 g13.lo, .int .i64 g13.mn, .int .i64 g13.mx] 24) = w8 := ⟨_, rfl⟩
  rw [hw8]
  have b8 : Below w7.heap.size w7 w8 := by rw [← hw8]; exact (Below.refl _ _).alloc (Nat.le_refl _) _
  have KZ : Hid (AgBlk w8 w7.heap.size g13) := Hid.of (by rw [← hw8]; exact AgBlk.new w7 g13)
  have T8 := Hid.of (T7.out.next b8)
  clear hw8 b8 T7
  generalize w7.heap.size = bz at *
  obtain ⟨c0, c1, c2, c3, c4⟩ := KZ.out.at
  refine wp_region_noPanic ?_
  refine wp_region_held_drew (S := fun w' => w'.cell? ⟨bz, 0, none⟩ = some (.int .i64 g13.c) ∧ w'.cell? ⟨bz, 1, none⟩ = some (.int .i64 g13.hi) ∧ w'.cell? ⟨bz, 2, none⟩ = some (.int .u64 g13.lo) ∧ w'.cell? ⟨bz, 3, none⟩ = some (.int .i64 g13.mn) ∧ w'.cell? ⟨bz, 4, none⟩ = some (.int .i64 g13.mx)) (by kernel_rfl) ?_ (fun hHeld => ?_)
  · exact ⟨c0, c1, c2, c3, c4⟩
  refine wpAnyH_take (i := 0) (oi := ⟨_, _, _, _, _, _⟩) (v := ?_) rfl (by kernel_rfl) (by kernel_rfl) (by kernel_rfl) (fun _ _ _ h => h) (Or.inl ⟨by rfl, ?_⟩) hHeld ?_
  rotate_left
  · intro w' hSw
    try dsimp only at hSw
    go_simp
    all_goals with_reducible rfl
  simp only [Act.put, List.setIfInBounds_toArray, List.set_cons_zero, List.set_cons_succ]
  refine wpAnyH_take (i := 1) (oi := ⟨_, _, _, _, _, _⟩) (v := ?_) rfl (by kernel_rfl) (by kernel_rfl) (by kernel_rfl) (fun _ _ _ h => h) (Or.inl ⟨by rfl, ?_⟩) hHeld ?_
  rotate_left
  · intro w' hSw
    try dsimp only at hSw
    go_simp
    all_goals with_reducible rfl
  simp only [Act.put, List.setIfInBounds_toArray, List.set_cons_zero, List.set_cons_succ]
  refine wpAnyH_take (i := 2) (oi := ⟨_, _, _, _, _, _⟩) (v := ?_) rfl (by kernel_rfl) (by kernel_rfl) (by kernel_rfl) (fun _ _ _ h => h) (Or.inl ⟨by rfl, ?_⟩) hHeld ?_
  rotate_left
  · intro w' hSw
    try dsimp only at hSw
    go_simp
    all_goals with_reducible rfl
  simp only [Act.put, List.setIfInBounds_toArray, List.set_cons_zero, List.set_cons_succ]
  refine wpAnyH_ready (rs := [3]) (by kernel_rfl) (by simp) ?_
  refine AllReadyH.cons (o := ⟨_, _, _, _, _, _⟩) rfl (fun K hK => ?_) AllReadyH.nil
  go_simp
  obtain ⟨w9, hw9⟩ : ∃ w9, (w8.alloc (.cells #[.int .i64 1, .int .i64 3] 3)).drew = w9 := ⟨_, rfl⟩
  have b9 : Below w8.heap.size w8 w9 := by rw [← hw9]; exact ((Below.refl _ _).alloc (Nat.le_refl _) _).drew
  have N9 : Hid (NumRow .i64 w9 (.slice (some ⟨w8.heap.size, 0, none⟩) 2 2) [1, 3]) := Hid.of (by rw [← hw9]; exact num_13 w8 _)
  rw [hw9]
  clear hw9
  have T9 := Hid.of (T8.out.next b9)
  have KZ9 := Hid.of (KZ.out.kept b9)
  clear b9 hHeld c0 c1 c2 c3 c4 T8 KZ
  obtain ⟨c0, c1, c2, c3, c4⟩ := KZ9.out.at
  refine hK.out _ _ ⟨c0, c1, c2, c3, c4⟩ (fun hHeld => ?_)
  clear hK K
  try simp only [Act.put, List.setIfInBounds_toArray, List.set_cons_zero, List.set_cons_succ]
  refine wpAnyH_ready (rs := [4]) (by kernel_rfl) (by simp) ?_
  refine AllReadyH.cons (o := ⟨_, _, _, _, _, _⟩) rfl (fun K hK => ?_) AllReadyH.nil
  go_simp
  refine (aggOf_any _ [1, 3] _ N9.out (fun y hy => by simp only [List.mem_cons, List.not_mem_nil, or_false] at hy; rcases hy with rfl | rfl <;> decide) (by simp)).mono ?_
  rintro e w10 ⟨rfl, b8⟩
  rw [of_13]
  clear N9
  have T10 := Hid.of (T9.out.next b8)
  have KZ10 := Hid.of (KZ9.out.kept b8)
  clear b8 hHeld c0 c1 c2 c3 c4 T9 KZ9
  obtain ⟨c0, c1, c2, c3, c4⟩ := KZ10.out.at
  refine hK.out _ _ ⟨c0, c1, c2, c3, c4⟩ (fun hHeld => ?_)
  clear hK K
  try simp only [Act.put, List.setIfInBounds_toArray, List.set_cons_zero, List.set_cons_succ]
  refine wpAnyH_take (i := 5) (oi := ⟨_, _, _, _, _, _⟩) (v := ?_) rfl (by kernel_rfl) (by kernel_rfl) (by kernel_rfl) (fun _ _ _ h => h) (Or.inl ⟨by rfl, ?_⟩) hHeld ?_
  rotate_left
  · intro w' hSw
    try dsimp only at hSw
    go_simp
    all_goals with_reducible rfl
  simp only [Act.put, List.setIfInBounds_toArray, List.set_cons_zero, List.set_cons_succ]
  refine wpAnyH_take (i := 6) (oi := ⟨_, _, _, _, _, _⟩) (v := ?_) rfl (by kernel_rfl) (by kernel_rfl) (by kernel_rfl) (fun _ _ _ h => h) (Or.inl ⟨by rfl, ?_⟩) hHeld ?_
  rotate_left
  · intro w' hSw
    try dsimp only at hSw
    go_simp
    all_goals with_reducible rfl
  simp only [Act.put, List.setIfInBounds_toArray, List.set_cons_zero, List.set_cons_succ]
  refine wpAnyH_take (i := 7) (oi := ⟨_, _, _, _, _, _⟩) (v := ?_) rfl (by kernel_rfl) (by kernel_rfl) (by kernel_rfl) (fun _ _ _ h => h) (Or.inl ⟨by rfl, ?_⟩) hHeld ?_
  rotate_left
  · intro w' hSw
    try dsimp only at hSw
    go_simp
    all_goals with_reducible rfl
  simp only [Act.put, List.setIfInBounds_toArray, List.set_cons_zero, List.set_cons_succ]
  refine wpAnyH_take (i := 8) (oi := ⟨_, _, _, _, _, _⟩) (v := ?_) rfl (by kernel_rfl) (by kernel_rfl) (by kernel_rfl) (fun _ _ _ h => h) (Or.inl ⟨by rfl, ?_⟩) hHeld ?_
  rotate_left
  · intro w' hSw
    try dsimp only at hSw
    go_simp
    all_goals with_reducible rfl
  simp only [Act.put, List.setIfInBounds_toArray, List.set_cons_zero, List.set_cons_succ]
  refine wpAnyH_ready (rs := [9]) (by kernel_rfl) (by simp) ?_
  refine AllReadyH.cons (o := ⟨_, _, _, _, _, _⟩) rfl (fun K hK => ?_) AllReadyH.nil
  go_simp
  refine (S.len T10.out.rep (by decide)).mono ?_
  rintro e w11 ⟨rfl, b8⟩
  have T11 := Hid.of (T10.out.next b8)
  have KZ11 := Hid.of (KZ10.out.kept b8)
  clear b8 hHeld c0 c1 c2 c3 c4 T10 KZ10
  obtain ⟨c0, c1, c2, c3, c4⟩ := KZ11.out.at
  refine hK.out _ _ ⟨c0, c1, c2, c3, c4⟩ (fun hHeld => ?_)
  clear hK K
  try simp only [Act.put, List.setIfInBounds_toArray, List.set_cons_zero, List.set_cons_succ]
  refine wpAnyH_take (i := 10) (oi := ⟨_, _, _, _, _, _⟩) (v := ?_) rfl (by kernel_rfl) (by kernel_rfl) (by kernel_rfl) (fun _ _ _ h => h) (Or.inl ⟨by rfl, ?_⟩) hHeld ?_
  rotate_left
  · intro w' hSw
    try dsimp only at hSw
    go_simp
    all_goals with_reducible rfl
  simp only [Act.put, List.setIfInBounds_toArray, List.set_cons_zero, List.set_cons_succ]
  refine wpAnyH_take (i := 11) (oi := ⟨_, _, _, _, _, _⟩) (v := ?_) rfl (by kernel_rfl) (by kernel_rfl) (by kernel_rfl) (fun _ _ _ h => h) (Or.inl ⟨by rfl, ?_⟩) hHeld ?_
  rotate_left
  · intro w' hSw
    try dsimp only at hSw
    go_simp
    all_goals with_reducible rfl
  simp only [Act.put, List.setIfInBounds_toArray, List.set_cons_zero, List.set_cons_succ]
  refine wpAnyH_take (i := 12) (oi := ⟨_, _, _, _, _, _⟩) (v := ?_) rfl (by kernel_rfl) (by kernel_rfl) (by kernel_rfl) (fun _ _ _ h => h) (Or.inl ⟨by rfl, ?_⟩) hHeld ?_
  rotate_left
  · intro w' hSw
    try dsimp only at hSw
    go_simp
    all_goals with_reducible rfl
  simp only [Act.put, List.setIfInBounds_toArray, List.set_cons_zero, List.set_cons_succ]
  refine wpAnyH_take (i := 13) (oi := ⟨_, _, _, _, _, _⟩) (v := ?_) rfl (by kernel_rfl) (by kernel_rfl) (by kernel_rfl) (fun _ _ _ h => h) (Or.inl ⟨by rfl, ?_⟩) hHeld ?_
  rotate_left
  · intro w' hSw
    try dsimp only at hSw
    go_simp
    all_goals with_reducible rfl
  simp only [Act.put, List.setIfInBounds_toArray, List.set_cons_zero, List.set_cons_succ]
  refine wpAnyH_ready (rs := [14]) (by kernel_rfl) (by simp) ?_
  refine AllReadyH.cons (o := ⟨_, _, _, _, _, _⟩) rfl (fun K hK => ?_) AllReadyH.nil
  go_simp
  refine (S.every T11.out.rep).mono ?_
  rintro e w12 ⟨rfl, b8⟩
  have T12 := Hid.of (T11.out.next b8)
  have KZ12 := Hid.of (KZ11.out.kept b8)
  clear b8 hHeld c0 c1 c2 c3 c4 T11 KZ11
  obtain ⟨c0, c1, c2, c3, c4⟩ := KZ12.out.at
  refine hK.out _ _ ⟨c0, c1, c2, c3, c4⟩ (fun hHeld => ?_)
  clear hK K
  try simp only [Act.put, List.setIfInBounds_toArray, List.set_cons_zero, List.set_cons_succ]
  refine wpAnyH_take (i := 15) (oi := ⟨_, _, _, _, _, _⟩) (v := ?_) rfl (by kernel_rfl) (by kernel_rfl) (by kernel_rfl) (fun _ _ _ h => h) (Or.inl ⟨by rfl, ?_⟩) hHeld ?_
  rotate_left
  · intro w' hSw
    try dsimp only at hSw
    go_simp
    all_goals with_reducible rfl
  simp only [Act.put, List.setIfInBounds_toArray, List.set_cons_zero, List.set_cons_succ]
  refine wpAnyH_take (i := 16) (oi := ⟨_, _, _, _, _, _⟩) (v := ?_) rfl (by kernel_rfl) (by kernel_rfl) (by kernel_rfl) (fun _ _ _ h => h) (Or.inl ⟨by rfl, ?_⟩) hHeld ?_
  rotate_left
  · intro w' hSw
    try dsimp only at hSw
    go_simp
    all_goals with_reducible rfl
  simp only [Act.put, List.setIfInBounds_toArray, List.set_cons_zero, List.set_cons_succ]
  refine wpAnyH_take (i := 17) (oi := ⟨_, _, _, _, _, _⟩) (v := ?_) rfl (by kernel_rfl) (by kernel_rfl) (by kernel_rfl) (fun _ _ _ h => h) (Or.inl ⟨by rfl, ?_⟩) hHeld ?_
  rotate_left
  · intro w' hSw
    try dsimp only at hSw
    go_simp
    all_goals with_reducible rfl
  simp only [Act.put, List.setIfInBounds_toArray, List.set_cons_zero, List.set_cons_succ]
  refine wpAnyH_take (i := 18) (oi := ⟨_, _, _, _, _, _⟩) (v := ?_) rfl (by kernel_rfl) (by kernel_rfl) (by kernel_rfl) (fun _ _ _ h => h) (Or.inl ⟨by rfl, ?_⟩) hHeld ?_
  rotate_left
  · intro w' hSw
    try dsimp only at hSw
    go_simp
    all_goals with_reducible rfl
  simp only [Act.put, List.setIfInBounds_toArray, List.set_cons_zero, List.set_cons_succ]
  refine wpAnyH_ready (rs := [19]) (by kernel_rfl) (by simp) ?_
  refine AllReadyH.cons (o := ⟨_, _, _, _, _, _⟩) rfl (fun K hK => ?_) AllReadyH.nil
  go_simp
  refine (S.need 1 T12.out.rep (by decide) (by unfold TIn64; decide)).mono ?_
  rintro e w13 ⟨he, b8⟩
  rw [alive_need] at he
  subst he
  have T13 := Hid.of (T12.out.next b8)
  have KZ13 := Hid.of (KZ12.out.kept b8)
  clear b8 hHeld c0 c1 c2 c3 c4 T12 KZ12
  obtain ⟨c0, c1, c2, c3, c4⟩ := KZ13.out.at
  refine hK.out _ _ ⟨c0, c1, c2, c3, c4⟩ (fun hHeld => ?_)
  clear hK K
  try simp only [Act.put, List.setIfInBounds_toArray, List.set_cons_zero, List.set_cons_succ]
  refine wpAnyH_take (i := 20) (oi := ⟨_, _, _, _, _, _⟩) (v := ?_) rfl (by kernel_rfl) (by kernel_rfl) (by kernel_rfl) (fun _ _ _ h => h) (Or.inl ⟨by rfl, ?_⟩) hHeld ?_
  rotate_left
  · intro w' hSw
    try dsimp only at hSw
    go_simp
    all_goals with_reducible rfl
  simp only [Act.put, List.setIfInBounds_toArray, List.set_cons_zero, List.set_cons_succ]
  refine wpAnyH_take (i := 21) (oi := ⟨_, _, _, _, _, _⟩) (v := ?_) rfl (by kernel_rfl) (by kernel_rfl) (by kernel_rfl) (fun _ _ _ h => h) (Or.inl ⟨by rfl, ?_⟩) hHeld ?_
  rotate_left
  · intro w' hSw
    try dsimp only at hSw
    go_simp
    all_goals with_reducible rfl
  simp only [Act.put, List.setIfInBounds_toArray, List.set_cons_zero, List.set_cons_succ]
  refine wpAnyH_take (i := 22) (oi := ⟨_, _, _, _, _, _⟩) (v := ?_) rfl (by kernel_rfl) (by kernel_rfl) (by kernel_rfl) (fun _ _ _ h => h) (Or.inl ⟨by rfl, ?_⟩) hHeld ?_
  rotate_left
  · intro w' hSw
    try dsimp only at hSw
    go_simp
    all_goals with_reducible rfl
  simp only [Act.put, List.setIfInBounds_toArray, List.set_cons_zero]
  refine wpAnyH_done (by kernel_rfl) ?_ _
  refine NoPanic.normal ?_
  go_wp2
  go_ret
  exact ⟨rfl, T13.out.fr⟩

end Go.Proofs.Ytokjlmkegdickaa

/-
  TableDrops: what is older than a time goes, and nothing else; once more nothing goes.
-/
namespace Go.Proofs.Ytokjlmkegdickaa
open Go.RowKit Go.Lib

theorem tIns_len (l : List TRec) (r : TRec) : (tIns l r).length ≤ l.length + 1 := by
  induction l with
  | nil => simp [tIns]
  | cons x l ih =>
    unfold tIns
    split
    · simp only [List.length_cons]; omega
    · split
      · simp only [List.length_cons]; omega
      · simp only [List.length_cons]; omega

theorem tAdds_len (e : Int) (l rs : List TRec) : (tAdds e l rs).length ≤ l.length + rs.length := by
  induction rs generalizing l with
  | nil => exact Nat.le_refl _
  | cons r rs ih =>
    have h1 := ih (tAdd e l r)
    have h2 : (tAdd e l r).length ≤ l.length + 1 := by
      unfold tAdd
      split
      · exact tIns_len l r
      · omega
    have h3 : tAdds e l (r :: rs) = tAdds e (tAdd e l r) rs := rfl
    rw [h3, List.length_cons]
    omega

/-- Of a list that is sifted: the next one that stays. -/
theorem filter_next {α : Type} {P : α → Bool} {L : List α} {i : Nat} {x : α} (hx : L[i]? = some x) (hp : P x = true) : (L.filter P)[((L.take i).filter P).length]? = some x := by
  have hl := (List.getElem?_eq_some_iff.1 hx)
  have e : L.filter P = (L.take i).filter P ++ (L.drop i).filter P := by rw [← List.filter_append, List.take_append_drop]
  rw [e, List.getElem?_append_right (Nat.le_refl _), Nat.sub_self, List.drop_eq_getElem_cons hl.1, hl.2, List.filter_cons, if_pos hp]
  rfl

theorem filter_take {α : Type} {P : α → Bool} {L : List α} {i : Nat} {x : α} (hx : L[i]? = some x) : ((L.take (i + 1)).filter P).length = ((L.take i).filter P).length + if P x = true then 1 else 0 := by
  rw [List.take_add_one, hx, List.filter_append, List.length_append]
  congr 1
  show (List.filter P [x]).length = _
  rw [List.filter_cons]
  split <;> simp

theorem filter_len {α : Type} (P : α → Bool) (L : List α) (i : Nat) : ((L.take i).filter P).length ≤ (L.filter P).length :=
  ((List.take_sublist i L).filter P).length_le

theorem filter_twice {α : Type} (P : α → Bool) (L : List α) : (L.filter P).filter P = L.filter P := by rw [List.filter_filter]; simp

set_option maxRecDepth 20000 in
set_option maxHeartbeats 3200000 in
theorem tableDrops_main (S : TableSpec) (v : Value) (rs : List TRec) (below : Int) (w : World) (hv : CellRow w v rs.length (flat renc (rs.map rl))) (hr : ∀ r ∈ rs, TFit r) (hb : TIn64 below) :
    Calls Try.prog 8 #[v, .int .i64 below] w fun e w' => e = .returned (.bool true) ∧ Below w.heap.size w w' := by
  have hl : (rs.map rl).length = rs.length := List.length_map ..
  have HV0 := Hid.of (show CellRow w v (rs.map rl).length (flat renc (rs.map rl)) by rw [hl]; exact hv)
  have HV := Hid.of hv
  have OFF : Hid (∀ (F : TFoot), (∀ k, F.all k → w.heap.size ≤ k) → (∀ k, F.own k → F.all k) → rs ≠ [] → Off F.own v) := Hid.of (fun F h1 h2 hne g hg hF => by
    obtain ⟨a, c, rfl, hc⟩ := HV.out
    rcases hc with hc | ⟨b, o, rfl, hlt, _⟩
    · have := flat_length renc_len (rs.map rl)
      rw [hc, hl] at this
      simp at this
      exact hne (List.eq_nil_of_length_eq_zero (by omega))
    · simp [Value.ownBlock] at hg
      have := h1 g (h2 g hF)
      omega)
  have HR := Hid.of hr
  have HB := Hid.of hb
  clear hv hr hb hl
  go_enter Try.func8, Try.ntmps8
  go_wp2_with fail
  refine (Few_any 40 v _ w HV0.out (by decide)).mono ?_
  rintro e w1 ⟨r, rfl, hf, b1⟩
  have B1 := Hid.of b1
  clear b1
  cases r with
  | false =>
    go_wp2_with fail
    refine (tableAlive_any S _).mono ?_
    rintro e w2 ⟨rfl, b2⟩
    go_wp2
    go_ret
    exact ⟨rfl, B1.out.trans (b2.mono B1.out.size)⟩
  | true =>
    have RF : Hid (rs.length ≤ 40) := Hid.of (by have := (hf.out rfl).1; rwa [List.length_map] at this)
    clear hf
    go_wp2_with fail
    refine (S.new 1 _ (by unfold TIn64; decide)).mono ?_
    rintro e w2 ⟨p, F, rfl, rep, hF, b2⟩
    rw [show max (1 : Int) 1 = 1 by decide] at rep
    have T2 : Hid (THere S w.heap.size w w2 p 1 [] F) := Hid.of ⟨rep, fun k hk => Nat.le_trans B1.out.size (hF k hk), Nat.le_trans B1.out.size b2.size, B1.out.trans (b2.mono B1.out.size)⟩
    have V2 := Hid.of (HV.out.kept (B1.out.trans (b2.mono B1.out.size)))
    clear rep hF b2 B1
    go_wp2_with fail
    refine (S.add v rs T2.out.rep (by show 0 + rs.length ≤ 1000; have := RF.out; omega) V2.out (OFF.out F T2.out.ge (S.sub T2.out.rep)) HR.out).mono ?_
    rintro e w3 ⟨rfl, F3, rep3, st3⟩
    have hL := tAdds_len 1 [] rs
    obtain ⟨L, hLe⟩ : ∃ L, tAdds 1 [] rs = L := ⟨_, rfl⟩
    rw [hLe] at rep3 hL
    have T3 := Hid.of (T2.out.step rep3 st3)
    have L40 : Hid (L.length ≤ 40) := Hid.of (by have := RF.out; simp at hL; omega)
    clear rep3 st3 T2 V2 hL hLe
    go_wp2_with fail
    refine (S.all T3.out.rep (by have := L40.out; omega)).mono ?_
    rintro e w4 ⟨u, rfl, o4, b4⟩
    have OU : Hid (Off F3.own u) := Hid.of (fun g hg hF => by have := own_ge o4 hg; have := S.lt T3.out.rep g (S.sub T3.out.rep g hF); omega)
    have T4 := Hid.of (T3.out.next b4)
    have O4 := Hid.of o4
    clear o4 b4 T3
    go_wp2_with fail
    refine (S.drop below T4.out.rep (by have := L40.out; omega) HB.out).mono ?_
    rintro e w5 ⟨rfl, F5, rep5, st5⟩
    have O5 := Hid.of (st5.own.own O4.out OU.out)
    have T5 := Hid.of (T4.out.step rep5 st5)
    clear rep5 st5 T4 O4 OU
    have K40 : Hid ((tKeep L below).length ≤ L.length) := Hid.of (by unfold tKeep; exact List.length_filter_le _ _)
    go_wp2_with fail
    refine (S.all T5.out.rep (by have := L40.out; have := K40.out; omega)).mono ?_
    rintro e w6 ⟨u2, rfl, o6, b6⟩
    have T6 := Hid.of (T5.out.next b6)
    have C1 := Hid.of (own_row ((Step.of_below (F := fun _ => False) b6).own O5.out (fun _ _ c => c)))
    have C2 := Hid.of (own_row o6)
    obtain ⟨ua, uc, rfl, -⟩ := own_one O5.out
    obtain ⟨u2a, u2c, rfl, -⟩ := own_one o6
    clear o6 b6 T5 O5
    obtain ⟨K, hK⟩ : ∃ K, (tKeep L below).length = K := ⟨_, rfl⟩
    obtain ⟨N, hN⟩ : ∃ N, L.length = N := ⟨_, rfl⟩
    have HK := Hid.of hK
    have HN := Hid.of hN
    rw [hK] at K40 C2 ⊢
    rw [hN] at K40 L40 C1 ⊢
    clear hK hN
    have k9 : K ≤ N := K40.out
    have n9 : N ≤ 40 := L40.out
    go_wp2_with fail
    go_loopw [9, 10] (fun kv iv wr => ∃ i : Nat, i ≤ N ∧ iv = .int .i64 i ∧ kv = .int .i64 ((tKeep (L.take i) below).length : Nat) ∧ Below w6.heap.size w6 wr) (fun _ iv _ => N - (RowKit.intOf iv).toNat)
    case atStart => exact ⟨0, Nat.zero_le _, rfl, rfl, Below.refl _ _⟩
    case round =>
      obtain ⟨i, hi, rfl, rfl, hb⟩ := hrel
      obtain ⟨k, hk⟩ : ∃ k, (tKeep (L.take i) below).length = k := ⟨_, rfl⟩
      have HKI := Hid.of hk
      rw [hk]
      clear hk
      have i0 : (0 : Int) ≤ (i : Int) := Int.natCast_nonneg _
      by_cases hlt : i < N
      · have i1 : (i : Int) < (N : Int) := by omega
        obtain ⟨x, hx⟩ : ∃ x, L[i]? = some x := ⟨_, List.getElem?_eq_getElem (by rw [HN.out]; exact hlt)⟩
        obtain ⟨b1, o1, rfl, hl1, x0, x1, x2, x3, x4, x5, x6⟩ := r_at C1.out i (rl x) (by rw [List.getElem?_map, hx]; rfl)
        have q1 := x1
        rw [← hb.cell hl1] at q1
        simp only [rl] at q1
        by_cases hbx : below ≤ x.s
        · have hge : x.s ≥ below := hbx
          have hp : (fun y : TRec => decide (below ≤ y.s)) x = true := decide_eq_true hbx
          have hnx := filter_next (P := fun y : TRec => decide (below ≤ y.s)) hx hp
          have hk2 : k < K := by
            have h1 := (List.getElem?_eq_some_iff.1 hnx).1
            have h2 := HKI.out
            have h3 := HK.out
            unfold tKeep at h2 h3
            omega
          have KK : Hid ((tKeep (L.take (i + 1)) below).length = k + 1) := Hid.of (by
            have h1 := filter_take (P := fun y : TRec => decide (below ≤ y.s)) hx
            rw [if_pos hp] at h1
            have h2 := HKI.out
            unfold tKeep at h2 ⊢
            omega)
          have hx2 : (tKeep L below)[k]? = some x := by
            have h2 := HKI.out
            unfold tKeep at h2 ⊢
            rw [← h2]
            exact hnx
          obtain ⟨b2, o2, rfl, hl2, y0, y1, y2, y3, y4, y5, y6⟩ := r_at C2.out k (rl x) (by rw [List.getElem?_map, hx2]; rfl)
          rw [← hb.cell hl1] at x0 x1 x2 x3 x4 x5 x6
          rw [← hb.cell hl2] at y0 y1 y2 y3 y4 y5 y6
          simp only [rl] at x0 x1 x2 x3 x4 x5 x6 y0 y1 y2 y3 y4 y5 y6
          have k0 : (0 : Int) ≤ (k : Int) := Int.natCast_nonneg _
          have k1 : (k : Int) < (K : Int) := by omega
          have k2 : decide ((K : Int) ≤ (k : Int)) = false := decide_eq_false (by omega)
          have k3 : decide (K ≤ k) = false := decide_eq_false (by omega)
          have HX := Hid.of hx
          clear hnx hp hx hx2 hk2 q1
          go_upto_region 15 with fail
          go_quiet (fail)
          go_wp2
          go_roundw
          case rel => exact ⟨i + 1, by omega, by go_num, by rw [KK.out]; go_num, below_drewN hb _⟩
          case measure => simp [RowKit.intOf]; omega
        · have hge : ¬ x.s ≥ below := hbx
          have KK : Hid ((tKeep (L.take (i + 1)) below).length = k) := Hid.of (by
            have h1 := filter_take (P := fun y : TRec => decide (below ≤ y.s)) hx
            rw [if_neg (by simpa using hbx)] at h1
            have h2 := HKI.out
            unfold tKeep at h2 ⊢
            omega)
          clear x0 x1 x2 x3 x4 x5 x6 hx
          go_wp2
          go_roundw
          case rel => exact ⟨i + 1, by omega, by go_num, by rw [KK.out], hb⟩
          case measure => simp [RowKit.intOf]; omega
      · obtain rfl : N = i := by omega
        have hkK : k = K := by
          have h1 := HKI.out
          rw [← HN.out, List.take_length, HK.out] at h1
          exact h1.symm
        subst hkK
        clear hi hlt i0
        obtain ⟨d, hd⟩ : ∃ d, N - k = d := ⟨_, rfl⟩
        have hd2 : (N : Int) - (k : Int) = (d : Int) := by omega
        rw [hd]
        go_wp2_with fail
        refine (tableAlive_any S _).mono ?_
        rintro e w7 ⟨rfl, b7⟩
        have T7 := Hid.of ((T6.out.next hb).next b7)
        clear b7 hb T6
        go_wp2_with fail
        refine (S.drop below T7.out.rep (by rw [HK.out]; omega) HB.out).mono ?_
        rintro e w8 ⟨he, F8, rep8, st8⟩
        have h2 : tKeep (tKeep L below) below = tKeep L below := by unfold tKeep; exact filter_twice _ _
        rw [h2, Nat.sub_self] at he
        subst he
        have T8 := Hid.of (T7.out.step rep8 st8)
        clear rep8 st8 T7 h2
        go_wp2
        go_ret
        exact ⟨rfl, T8.out.fr⟩

end Go.Proofs.Ytokjlmkegdickaa

/-
  TableShards: each record is in just one shard; what is needed is no less than a third of them, and no more than one block a record.
-/
namespace Go.Proofs.Ytokjlmkegdickaa
open Go.RowKit Go.Lib

/-- How many records are in the first k shards. -/
def tUpto (L : List TRec) (n : Int) (k : Nat) : Nat := (L.filter fun x => decide (nShard x.n n < (k : Int))).length
/-- Those that are in later ones. -/
def tFrom (L : List TRec) (n : Int) (k : Nat) : List TRec := L.filter fun x => !decide (nShard x.n n < (k : Int))
/-- What the first k shards need. -/
def tNeedTo (L : List TRec) (n : Int) (k : Nat) : Nat := ((List.range k).map fun j : Nat => ((tShard L (j : Int) n).length + 2) / 3).sum

theorem filter_split {α : Type} (P Q R : α → Bool) (l : List α) (h : ∀ x, P x = (Q x || R x)) (hd : ∀ x, Q x = true → R x = true → False) : (l.filter P).length = (l.filter Q).length + (l.filter R).length := by
  induction l with
  | nil => rfl
  | cons x l ih =>
    rw [List.filter_cons, List.filter_cons, List.filter_cons, h x]
    cases hq : Q x <;> cases hr : R x
    · simpa using ih
    · simp [ih]; omega
    · simp [ih]; omega
    · exact (hd x hq hr).elim

theorem tUpto_succ (L : List TRec) (n : Int) (k : Nat) : tUpto L n (k + 1) = tUpto L n k + (tShard L (k : Int) n).length := by
  unfold tUpto tShard
  refine filter_split _ _ _ L (fun x => ?_) (fun x h1 h2 => ?_)
  · rw [Bool.eq_iff_iff, Bool.or_eq_true, decide_eq_true_eq, decide_eq_true_eq, decide_eq_true_eq]
    omega
  · simp only [decide_eq_true_eq] at h1 h2
    omega

theorem tUpto_zero (L : List TRec) (n : Int) (hn : 1 ≤ n) : tUpto L n 0 = 0 := by
  unfold tUpto
  rw [List.filter_eq_nil_iff.2 (fun x _ => by have := (nShard_in x.n n hn).1; simp; omega)]
  rfl

theorem tUpto_all (L : List TRec) (n : Int) (hn : 1 ≤ n) (k : Nat) (hk : n ≤ (k : Int)) : tUpto L n k = L.length := by
  unfold tUpto
  rw [List.filter_eq_self.2 (fun x _ => by have := (nShard_in x.n n hn).2; simp; omega)]

theorem tUpto_le (L : List TRec) (n : Int) (k : Nat) : tUpto L n k ≤ L.length := List.length_filter_le _ _

theorem tFrom_zero (L : List TRec) (n : Int) (hn : 1 ≤ n) : tFrom L n 0 = L := by
  unfold tFrom
  exact List.filter_eq_self.2 (fun x _ => by have := (nShard_in x.n n hn).1; simp; omega)

theorem tFrom_all (L : List TRec) (n : Int) (hn : 1 ≤ n) (k : Nat) (hk : n ≤ (k : Int)) : tFrom L n k = [] := by
  unfold tFrom
  exact List.filter_eq_nil_iff.2 (fun x _ => by have := (nShard_in x.n n hn).2; simp; omega)

theorem tFrom_shard (L : List TRec) (n : Int) (k : Nat) : tShard (tFrom L n k) (k : Int) n = tShard L (k : Int) n := by
  unfold tShard tFrom
  rw [List.filter_filter]
  congr 1
  funext x
  rw [Bool.eq_iff_iff]
  simp only [Bool.and_eq_true, Bool.not_eq_true', decide_eq_true_eq, decide_eq_false_iff_not]
  omega

theorem tFrom_rest (L : List TRec) (n : Int) (k : Nat) : tRest (tFrom L n k) (k : Int) n = tFrom L n (k + 1) := by
  unfold tRest tFrom
  rw [List.filter_filter]
  congr 1
  funext x
  rw [Bool.eq_iff_iff]
  simp only [Bool.and_eq_true, Bool.not_eq_true', decide_eq_false_iff_not]
  omega

theorem tNeedTo_bounds (L : List TRec) (n : Int) (hn : 1 ≤ n) (k : Nat) : tUpto L n k ≤ 3 * tNeedTo L n k ∧ tNeedTo L n k ≤ tUpto L n k := by
  induction k with
  | zero =>
    rw [tUpto_zero L n hn]
    exact ⟨Nat.zero_le _, Nat.le_refl _⟩
  | succ k ih =>
    have h : tNeedTo L n (k + 1) = tNeedTo L n k + ((tShard L (k : Int) n).length + 2) / 3 := by
      unfold tNeedTo
      rw [List.range_succ, List.map_append, List.sum_append]
      simp
    rw [h, tUpto_succ L n k]
    omega

theorem tNeed_bounds (L : List TRec) (n : Int) (hn : 1 ≤ n) : L.length ≤ 3 * tNeed L n ∧ tNeed L n ≤ L.length := by
  have h := tNeedTo_bounds L n hn (max n 1).toNat
  rw [tUpto_all L n hn _ (by omega)] at h
  exact h

/-- Two tables of one's own; what the second one writes into is none of the first one's. -/
structure TTwo (S : TableSpec) (B : Nat) (w0 w : World) (p q : Nat) (e e' : Int) (l l' : List TRec) (F G : TFoot) : Prop where
  t : THere S B w0 w p e l F
  c : THere S B w0 w q e' l' G
  dj : ∀ k, F.all k → ¬ G.own k

theorem TTwo.next {S : TableSpec} {B p q : Nat} {w0 w w' : World} {e e' : Int} {l l' : List TRec} {F G : TFoot} (h : TTwo S B w0 w p q e e' l l' F G) (b : Below w.heap.size w w') : TTwo S B w0 w' p q e e' l l' F G :=
  ⟨h.t.next b, h.c.next b, h.dj⟩

theorem TTwo.step {S : TableSpec} {B p q : Nat} {w0 w w' : World} {e e' : Int} {l l' l2 : List TRec} {F G G' : TFoot} (h : TTwo S B w0 w p q e e' l l' F G) (r : S.Rep w' q e' l2 G') (st : TStep G G' w w') : TTwo S B w0 w' p q e e' l l2 F G' :=
  ⟨⟨S.kept h.t.rep st.own.size (fun k hk => st.own.block k (S.lt h.t.rep k hk) (h.dj k hk)), h.t.ge, Nat.le_trans h.t.hB st.own.size, st.own.below h.t.fr h.t.hB (fun k hk => h.c.ge k (S.sub h.c.rep k hk))⟩,
    h.c.step r st, fun k hk hg => by
      rcases st.own.foot k hg with c | c
      · exact h.dj k hk c
      · have := S.lt h.t.rep k hk
        omega⟩

set_option maxRecDepth 20000 in
set_option maxHeartbeats 3200000 in
theorem tableShards_main (S : TableSpec) (v : Value) (rs : List TRec) (n : Int) (w : World) (hv : CellRow w v rs.length (flat renc (rs.map rl))) (hr : ∀ r ∈ rs, TFit r) :
    Calls Try.prog 5 #[v, .int .i64 n] w fun e w' => e = .returned (.bool true) ∧ Below w.heap.size w w' := by
  have hl : (rs.map rl).length = rs.length := List.length_map ..
  have HV0 := Hid.of (show CellRow w v (rs.map rl).length (flat renc (rs.map rl)) by rw [hl]; exact hv)
  have HV := Hid.of hv
  have OFF : Hid (∀ (F : TFoot), (∀ k, F.all k → w.heap.size ≤ k) → (∀ k, F.own k → F.all k) → rs ≠ [] → Off F.own v) := Hid.of (fun F h1 h2 hne g hg hF => by
    obtain ⟨a, c, rfl, hc⟩ := HV.out
    rcases hc with hc | ⟨b, o, rfl, hlt, _⟩
    · have := flat_length renc_len (rs.map rl)
      rw [hc, hl] at this
      simp at this
      exact hne (List.eq_nil_of_length_eq_zero (by omega))
    · simp [Value.ownBlock] at hg
      have := h1 g (h2 g hF)
      omega)
  have HR := Hid.of hr
  clear hv hr hl
  go_enter Try.func5, Try.ntmps5
  go_wp2_with fail
  refine (Few_any 60 v _ w HV0.out (by decide)).mono ?_
  rintro e w1 ⟨r, rfl, hf, b1⟩
  have B1 := Hid.of b1
  clear b1
  have ALV : Hid (Calls Try.prog 9 #[] w1 fun e w' => e = .returned (.bool true) ∧ Below w.heap.size w w') := Hid.of (by
    refine (tableAlive_any S w1).mono ?_
    rintro e w' ⟨he, b⟩
    exact ⟨he, B1.out.trans (b.mono B1.out.size)⟩)
  cases r with
  | false =>
    go_wp2_with fail
    refine ALV.out.mono ?_
    rintro e w2 ⟨rfl, b2⟩
    go_wp2
    go_ret
    exact ⟨rfl, b2⟩
  | true =>
    have RF : Hid (rs.length ≤ 60) := Hid.of (by have := (hf.out rfl).1; rwa [List.length_map] at this)
    clear hf
    by_cases hbad : n < 1 ∨ (¬ n < 1 ∧ 20 < n)
    · rcases hbad with h1 | ⟨h1, h2⟩
      all_goals
        go_wp2_with fail
        refine ALV.out.mono ?_
        rintro e w3 ⟨rfl, b3⟩
        go_wp2
        go_ret
        exact ⟨rfl, b3⟩
    · obtain ⟨h1, h2⟩ : ¬ n < 1 ∧ ¬ 20 < n := by omega
      obtain ⟨m, rfl⟩ : ∃ m : Nat, n = m := ⟨n.toNat, by omega⟩
      have m1 : 1 ≤ m := by omega
      have m20 : m ≤ 20 := by omega
      have M1 : Hid ((1 : Int) ≤ (m : Int)) := Hid.of (by omega)
      have MI : Hid (TIn64 (m : Int)) := Hid.of (by unfold TIn64; omega)
      clear hbad ALV
      go_wp2_with fail
      clear h1 h2
      refine (S.new 1 _ (by unfold TIn64; decide)).mono ?_
      rintro e w2 ⟨p, F, rfl, rep, hF, b2⟩
      rw [show max (1 : Int) 1 = 1 by decide] at rep
      have T2 : Hid (THere S w.heap.size w w2 p 1 [] F) := Hid.of ⟨rep, fun k hk => Nat.le_trans B1.out.size (hF k hk), Nat.le_trans B1.out.size b2.size, B1.out.trans (b2.mono B1.out.size)⟩
      have V2 := Hid.of (HV.out.kept (B1.out.trans (b2.mono B1.out.size)))
      clear rep hF b2 B1
      go_wp2_with fail
      refine (S.add v rs T2.out.rep (by show 0 + rs.length ≤ 1000; have := RF.out; omega) V2.out (OFF.out F T2.out.ge (S.sub T2.out.rep)) HR.out).mono ?_
      rintro e w3 ⟨rfl, F3, rep3, st3⟩
      have hL := tAdds_len 1 [] rs
      obtain ⟨L, hLe⟩ : ∃ L, tAdds 1 [] rs = L := ⟨_, rfl⟩
      rw [hLe] at rep3 hL
      have T3 := Hid.of (T2.out.step rep3 st3)
      have L60 : Hid (L.length ≤ 60) := Hid.of (by have := RF.out; simp at hL; omega)
      clear rep3 st3 T2 V2 hL hLe
      obtain ⟨N, hN⟩ : ∃ N, L.length = N := ⟨_, rfl⟩
      have HN := Hid.of hN
      rw [hN] at L60
      clear hN
      have n9 : N ≤ 60 := L60.out
      go_wp2_with fail
      go_loopw [6, 7] (fun cv iv wr => ∃ i : Nat, i ≤ m ∧ iv = .int .i64 i ∧ cv = .int .i64 ((tUpto L m i : Nat) : Int) ∧ Hid (THere S w.heap.size w wr p 1 L F3)) (fun _ iv _ => m - (RowKit.intOf iv).toNat)
      case atStart => exact ⟨0, Nat.zero_le _, rfl, by rw [tUpto_zero L _ M1.out]; rfl, T3⟩
      case round =>
        clear T3
        obtain ⟨i, hi, rfl, rfl, T⟩ := hrel
        have i0 : (0 : Int) ≤ (i : Int) := Int.natCast_nonneg _
        by_cases hlt : i < m
        · have i1 : (i : Int) < (m : Int) := by omega
          obtain ⟨s, hs⟩ : ∃ s, (tShard L (i : Int) m).length = s := ⟨_, rfl⟩
          obtain ⟨c, hc⟩ : ∃ c, tUpto L m i = c := ⟨_, rfl⟩
          have UP : Hid (tUpto L m (i + 1) = c + s) := Hid.of (by rw [tUpto_succ L _, hs, hc])
          have CS : c + s ≤ 60 := by have h1 := tUpto_le L m (i + 1); rw [UP.out, HN.out] at h1; omega
          have HS := Hid.of hs
          rw [hc]
          clear hs hc
          go_wp2_with fail
          refine (S.shard (i : Int) m T.out.rep (by rw [HN.out]; omega) (by unfold TIn64; omega) MI.out).mono ?_
          rintro e w4 ⟨u, rfl, o4, b4⟩
          obtain ⟨ua, uc, rfl, -⟩ := own_one o4
          rw [HS.out]
          have T4 := Hid.of (T.out.next b4)
          clear o4 b4 T
          go_wp2
          go_roundw
          case rel => exact ⟨i + 1, by omega, by go_num, by rw [UP.out]; go_num, T4⟩
          case measure => simp [RowKit.intOf]; omega
        · obtain rfl : m = i := by omega
          have UA : tUpto L m m = N := by rw [tUpto_all L _ M1.out m (by omega), HN.out]
          rw [UA]
          clear hi hlt i0 UA
          obtain ⟨d, hd⟩ : ∃ d, tNeed L m = d := ⟨_, rfl⟩
          have DB : N ≤ 3 * d ∧ d ≤ N := by have h := tNeed_bounds L m M1.out; rw [hd, HN.out] at h; exact h
          have HD := Hid.of hd
          clear hd
          go_wp2_with fail
          refine (S.need m T.out.rep (by rw [HN.out]; omega) MI.out).mono ?_
          rintro e w5 ⟨rfl, b5⟩
          rw [HD.out]
          have T5 := Hid.of (T.out.next b5)
          clear b5 T
          go_wp2_with fail
          refine (S.copy T5.out.rep (by rw [HN.out]; omega)).mono ?_
          rintro e w6 ⟨q, G, rfl, repc, g1, g2, b6⟩
          have C6 : Hid (TTwo S w.heap.size w w6 p q 1 1 L (tFrom L m 0) F3 G) := Hid.of (by
            rw [tFrom_zero L _ M1.out]
            exact ⟨T5.out.next b6, ⟨repc, fun k hk => by
              rcases g2 k hk with c | c
              · exact T5.out.ge k c
              · exact Nat.le_trans T5.out.hB c, Nat.le_trans T5.out.hB b6.size, T5.out.fr.trans (b6.mono T5.out.hB)⟩, fun k hk hg => by
              have h1 := g1 k hg
              have h2 := S.lt T5.out.rep k hk
              omega⟩)
          clear repc g1 g2 b6 T5
          go_wp2_with fail
          go_loopw [10, 11] (fun cv iv wr => ∃ (i : Nat) (G' : TFoot), i ≤ m ∧ iv = .int .i64 i ∧ cv = .int .i64 ((tUpto L m i : Nat) : Int) ∧ Hid (TTwo S w.heap.size w wr p q 1 1 L (tFrom L m i) F3 G')) (fun _ iv _ => m - (RowKit.intOf iv).toNat)
          case atStart => exact ⟨0, G, Nat.zero_le _, rfl, by rw [tUpto_zero L _ M1.out]; rfl, C6⟩
          case round =>
            clear C6
            obtain ⟨i, G', hi, rfl, rfl, C⟩ := hrel
            have i0 : (0 : Int) ≤ (i : Int) := Int.natCast_nonneg _
            by_cases hlt : i < m
            · have i1 : (i : Int) < (m : Int) := by omega
              obtain ⟨s, hs⟩ : ∃ s, (tShard L (i : Int) m).length = s := ⟨_, rfl⟩
              obtain ⟨c, hc⟩ : ∃ c, tUpto L m i = c := ⟨_, rfl⟩
              have UP : Hid (tUpto L m (i + 1) = c + s) := Hid.of (by rw [tUpto_succ L _, hs, hc])
              have CS : c + s ≤ 60 := by have h1 := tUpto_le L m (i + 1); rw [UP.out, HN.out] at h1; omega
              have HS := Hid.of hs
              rw [hc]
              clear hs hc
              go_wp2_with fail
              refine (S.clear_ (i : Int) m C.out.c.rep (by have h1 : (tFrom L m i).length ≤ L.length := List.length_filter_le _ _; rw [HN.out] at h1; omega) (by unfold TIn64; omega) MI.out).mono ?_
              rintro e w7 ⟨he, G7, rep7, st7⟩
              rw [tFrom_shard, HS.out] at he
              subst he
              rw [tFrom_rest] at rep7
              have C7 := Hid.of (C.out.step rep7 st7)
              clear rep7 st7 C
              go_wp2
              go_roundw
              case rel => exact ⟨i + 1, G7, by omega, by go_num, by rw [UP.out]; go_num, C7⟩
              case measure => simp [RowKit.intOf]; omega
            · obtain rfl : m = i := by omega
              have UA : tUpto L m m = N := by rw [tUpto_all L _ M1.out m (by omega), HN.out]
              rw [UA]
              have FA := tFrom_all L (m : Int) M1.out m (by omega)
              rw [FA] at C
              clear hi hlt i0 UA FA
              obtain ⟨d0, d1⟩ := DB
              go_wp2_with fail
              refine (tableAlive_any S _).mono ?_
              rintro e w8 ⟨rfl, b8⟩
              have C8 := Hid.of (C.out.next b8)
              clear b8 C
              go_wp2_with fail
              refine (S.len C8.out.t.rep (by rw [HN.out]; omega)).mono ?_
              rintro e w9 ⟨rfl, b9⟩
              rw [HN.out]
              have C9 := Hid.of (C8.out.next b9)
              clear b9 C8
              go_wp2_with fail
              refine (S.len C9.out.c.rep (by simp)).mono ?_
              rintro e w10 ⟨rfl, b10⟩
              have FR := Hid.of ((C9.out.next b10).t.fr)
              clear b10 C9
              have e3 : (N : Int) ≤ 3 * (d : Int) := by omega
              have e4 : (d : Int) ≤ (N : Int) := by omega
              have d9 : (d : Int) ≤ 60 := by omega
              go_wp2
              go_ret
              exact ⟨rfl, FR.out⟩

end Go.Proofs.Ytokjlmkegdickaa
