/-
  What function alive of package sedimentlaw3 answers: true. And the row of AggMany.
-/
import Derived.Test.YtfoffoiimlgoeaaAGA
import Derived.Test.YtfoffoiimlgoeaaAGN
namespace Go.Proofs.Ytfoffoiimlgoeaa
open Go.RowKit Go.Lib

/-- What Of answers of numbers that are laid in a new block. -/
theorem Of_made (xs : List Int) (hl : Ints xs) (hn : xs.length ≤ 1000000) (w1 : World) (t : TypeId) (cs : Array Value) (hcs : cs = (xs.map (Value.int .i64)).toArray) (b n c : Nat) (hb : b = w1.heap.size) (hk : n = xs.length) :
    Calls Try.prog 15 #[.slice (some ⟨b, 0, none⟩) n c] (w1.alloc (.cells cs t)) fun e w' => e = .returned (agv (agOf xs)) ∧ Below w1.heap.size w1 w' := by
  refine (aggOf_any _ xs _ (NumRow.made .i64 w1 t xs cs hcs b n c hb hk) hl hn).mono ?_
  rintro e w' ⟨rfl, h⟩
  exact ⟨rfl, ((Below.refl _ _).alloc (Nat.le_refl _) _).trans (h.mono (by simp))⟩

theorem Of_named (xs : List Int) (x : Ag) (hx : agOf xs = x) (hl : Ints xs) (hn : xs.length ≤ 1000000) (w1 : World) (t : TypeId) (cs : Array Value) (hcs : cs = (xs.map (Value.int .i64)).toArray) (b n c : Nat) (hb : b = w1.heap.size) (hk : n = xs.length) :
    Calls Try.prog 15 #[.slice (some ⟨b, 0, none⟩) n c] (w1.alloc (.cells cs t)) fun e w' => e = .returned (agv x) ∧ Below w1.heap.size w1 w' := by
  subst hx
  exact Of_made xs hl hn w1 t cs hcs b n c hb hk

theorem Of_none (x : Ag) (hx : agOf [] = x) (w : World) : Calls Try.prog 15 #[.slice none 0 0] w fun e w' => e = .returned (agv x) ∧ Below w.heap.size w w' := by
  subst hx
  exact aggOf_any _ [] w ⟨none, 0, rfl, .inl rfl⟩ (fun _ h => by cases h) (by simp)

theorem Sum_named (a : Ag) (v : Int) (f : Bool) (hv : agVal a = v) (hf : agFits a = f) (w : World) : Calls Try.prog 23 #[agv a] w fun e w' => e = .returned (.tuple #[.int .i64 v, .bool (!f)]) ∧ Below w.heap.size w w' := by
  subst hv hf
  exact aggSum_any' a w

theorem Merge_2n (x a a' : Ag) (hx : agAll agZero [a, a'] = x) (ha : AgIn a) (ha' : AgIn a') (w1 : World) (t : TypeId) (cs : Array Value) (hcs : cs = agCells a ++ agCells a') (b : Nat) (hb : b = w1.heap.size) :
    Calls Try.prog 16 #[.slice (some ⟨b, 0, none⟩) 2 2] (w1.alloc (.cells cs t)) fun e w' => e = .returned (agv x) ∧ Below w1.heap.size w1 w' := by
  subst hx
  exact Merge_2 a a' ha ha' w1 t cs hcs b hb

theorem Merge_1n (x a : Ag) (hx : agAll agZero [a] = x) (ha : AgIn a) (w1 : World) (t : TypeId) (cs : Array Value) (hcs : cs = agCells a) (b : Nat) (hb : b = w1.heap.size) :
    Calls Try.prog 16 #[.slice (some ⟨b, 0, none⟩) 1 1] (w1.alloc (.cells cs t)) fun e w' => e = .returned (agv x) ∧ Below w1.heap.size w1 w' := by
  subst hx
  exact Merge_1 a ha w1 t cs hcs b hb

theorem Merge_3n (x a a' a'' : Ag) (hx : agAll agZero [a, a', a''] = x) (ha : AgIn a) (ha' : AgIn a') (ha'' : AgIn a'') (w1 : World) (t : TypeId) (cs : Array Value) (hcs : cs = agCells a ++ agCells a' ++ agCells a'') (b : Nat) (hb : b = w1.heap.size) :
    Calls Try.prog 16 #[.slice (some ⟨b, 0, none⟩) 3 3] (w1.alloc (.cells cs t)) fun e w' => e = .returned (agv x) ∧ Below w1.heap.size w1 w' := by
  subst hx
  exact Merge_3 a a' a'' ha ha' ha'' w1 t cs hcs b hb

theorem Valid_named (a : Ag) (f : Bool) (hf : agOk a = f) (w : World) : Calls Try.prog 21 #[agv a] w fun e w' => e = .returned (.bool f) ∧ Below w.heap.size w w' := by
  subst hf
  exact aggValid_any a w

theorem ints_lit {l : List Int} (h : (l.all fun x => decide (-9223372036854775808 ≤ x) && decide (x ≤ 9223372036854775807)) = true) : Ints l := by
  intro x hx
  have := List.all_eq_true.1 h x hx
  simpa using this

theorem field_c (v0 v1 v2 v3 v4 : Value) (w : World) : (Instr.field 27 (.agg #[v0, v1, v2, v3, v4]) 0).run Try.prog w = .ok v0 w := by kernel_rfl

set_option maxHeartbeats 800000 in
theorem aggAlive_any (w : World) : Calls Try.prog 10 #[] w fun e w' => e = .returned (.bool true) ∧ Below w.heap.size w w' := by
  obtain ⟨x1, h1⟩ : ∃ x, agOf [9223372036854775807, 1] = x := ⟨_, rfl⟩
  obtain ⟨x2, h2⟩ : ∃ x, agOf [5, -7] = x := ⟨_, rfl⟩
  obtain ⟨x3, h3⟩ : ∃ x, agOf [3, 4] = x := ⟨_, rfl⟩
  obtain ⟨x4, h4⟩ : ∃ x, agOf [1] = x := ⟨_, rfl⟩
  obtain ⟨x5, h5⟩ : ∃ x, agOf [] = x := ⟨_, rfl⟩
  have v1 : Hid (agVal x1 = 9223372036854775807) := Hid.of (by rw [← h1]; decide)
  have f1 : Hid (agFits x1 = false) := Hid.of (by rw [← h1]; decide)
  have v2 : Hid (agVal x2 = -2) := Hid.of (by rw [← h2]; decide)
  have f2 : Hid (agFits x2 = true) := Hid.of (by rw [← h2]; decide)
  have c3 : x3.c = 2 := by rw [← h3]; decide
  have o4 : Hid (agOk x4 = true) := Hid.of (by rw [← h4]; decide)
  have o5 : Hid (agOk x5 = false) := Hid.of (by rw [← h5]; decide)
  have H1 := Hid.of h1
  have H2 := Hid.of h2
  have H3 := Hid.of h3
  have H4 := Hid.of h4
  have H5 := Hid.of h5
  clear h1 h2 h3 h4 h5
  go_enter Try.func10, Try.ntmps10
  go_wp2_with fail
  refine (Of_named _ x1 H1.out (ints_lit (by decide)) (by decide) _ _ _ (by rfl) _ _ _ (by rfl) (by rfl)).mono ?_
  rintro e w1 ⟨rfl, b1⟩
  go_wp2_with fail
  refine (Sum_named x1 _ _ v1.out f1.out _).mono ?_
  rintro e w2 ⟨rfl, c2⟩
  have b2 : Below w.heap.size w w2 := b1.trans (c2.mono b1.size)
  clear b1 c2
  go_wp2_with fail
  refine (Of_named _ x2 H2.out (ints_lit (by decide)) (by decide) _ _ _ (by rfl) _ _ _ (by rfl) (by rfl)).mono ?_
  rintro e w3 ⟨rfl, c3'⟩
  have b3 : Below w.heap.size w w3 := b2.trans (c3'.mono b2.size)
  clear b2 c3'
  go_wp2_with fail
  refine (Sum_named x2 _ _ v2.out f2.out _).mono ?_
  rintro e w4 ⟨rfl, c4⟩
  have b4 : Below w.heap.size w w4 := b3.trans (c4.mono b3.size)
  clear b3 c4
  go_wp2_with fail
  refine (Of_named _ x3 H3.out (ints_lit (by decide)) (by decide) _ _ _ (by rfl) _ _ _ (by rfl) (by rfl)).mono ?_
  rintro e w5 ⟨rfl, c5⟩
  have b5 : Below w.heap.size w w5 := b4.trans (c5.mono b4.size)
  clear b4 c5
  simp only [agv]
  have F0 := field_c
  go_wp2_with fail
  refine (Of_named _ x4 H4.out (ints_lit (by decide)) (by decide) _ _ _ (by rfl) _ _ _ (by rfl) (by rfl)).mono ?_
  rintro e w6 ⟨rfl, c6⟩
  have b6 : Below w.heap.size w w6 := b5.trans (c6.mono b5.size)
  clear b5 c6
  go_wp2_with fail
  refine (Valid_named x4 _ o4.out _).mono ?_
  rintro e w7 ⟨rfl, c7⟩
  have b7 : Below w.heap.size w w7 := b6.trans (c7.mono b6.size)
  clear b6 c7
  go_wp2_with fail
  refine (Of_none x5 H5.out _).mono ?_
  rintro e w8 ⟨rfl, c8⟩
  have b8 : Below w.heap.size w w8 := b7.trans (c8.mono b7.size)
  clear b7 c8
  go_wp2_with fail
  refine (Valid_named x5 _ o5.out _).mono ?_
  rintro e w9 ⟨rfl, c9⟩
  have b9 : Below w.heap.size w w9 := b8.trans (c9.mono b8.size)
  clear b8 c9
  go_wp2
  go_ret
  exact ⟨rfl, b9⟩

end Go.Proofs.Ytfoffoiimlgoeaa
