/-
  A bundle of texts: AGM.
-/
import Derived.WalkKit
namespace Go.Proofs.YtfgfgdchaoekfaaGreatDoor
open Go.RowKit

/-- An aggregate: how many, the two words of the sum, the least, the greatest. -/
structure Ag where
  c : Int
  hi : Int
  lo : Int
  mn : Int
  mx : Int

theorem Ag.same {a b : Ag} (h1 : a.c = b.c) (h2 : a.hi = b.hi) (h3 : a.lo = b.lo) (h4 : a.mn = b.mn) (h5 : a.mx = b.mx) : a = b := by
  cases a; cases b
  simp only at h1 h2 h3 h4 h5
  subst h1 h2 h3 h4 h5
  rfl

abbrev agv (a : Ag) : Value := .agg #[.int .i64 a.c, .int .i64 a.hi, .int .u64 a.lo, .int .i64 a.mn, .int .i64 a.mx]

def agZero : Ag := ⟨0, 0, 0, 0, 0⟩

def agOk (a : Ag) : Bool := decide (1 ≤ a.c) && decide (a.c ≤ 4611686018427387904) && decide (a.mn ≤ a.mx)

theorem agOk_iff (a : Ag) : agOk a = true ↔ 1 ≤ a.c ∧ a.c ≤ 4611686018427387904 ∧ a.mn ≤ a.mx := by
  unfold agOk
  simp only [Bool.and_eq_true, decide_eq_true_eq, and_assoc]

/-- An int of 64 bits. -/
def w64 (x : Int) : Int := (x + 9223372036854775808) % 18446744073709551616 - 9223372036854775808

theorem w64_bounds (x : Int) : -9223372036854775808 ≤ w64 x ∧ w64 x ≤ 9223372036854775807 := by
  unfold w64; omega

/-- It is one that memory can hold. -/
def AgIn (a : Ag) : Prop := (-9223372036854775808 ≤ a.c ∧ a.c ≤ 9223372036854775807) ∧ (-9223372036854775808 ≤ a.hi ∧ a.hi ≤ 9223372036854775807) ∧ (0 ≤ a.lo ∧ a.lo < 18446744073709551616) ∧
  (-9223372036854775808 ≤ a.mn ∧ a.mn ≤ 9223372036854775807) ∧ (-9223372036854775808 ≤ a.mx ∧ a.mx ≤ 9223372036854775807)

theorem agZero_in : AgIn agZero := by unfold AgIn agZero; decide

/-- The carry of the lower words. -/
def agCarry (a b : Ag) : Int := (a.lo + b.lo) / 18446744073709551616

/-- Two valid ones together. -/
def agBoth (a b : Ag) : Ag :=
  ⟨min (a.c + b.c) 4611686018427387904, w64 (a.hi + b.hi + agCarry a b), (a.lo + b.lo) % 18446744073709551616, min a.mn b.mn, max a.mx b.mx⟩

/-- What was put together already, and one more. -/
def agJoin (a b : Ag) : Ag := if agOk b = true then (if agOk a = true then agBoth a b else b) else a

/-- None, or a valid one. -/
def AgGood (a : Ag) : Prop := AgIn a ∧ (agOk a = true ∨ a = agZero)

theorem agZero_good : AgGood agZero := ⟨agZero_in, .inr rfl⟩

theorem agBoth_in {a b : Ag} (ha : AgIn a) (hb : AgIn b) (h1 : agOk a = true) (h2 : agOk b = true) : AgIn (agBoth a b) := by
  rw [agOk_iff] at h1 h2
  obtain ⟨a1, a2, a3, a4, a5⟩ := ha
  obtain ⟨b1, b2, b3, b4, b5⟩ := hb
  refine ⟨?_, w64_bounds _, ?_, ?_, ?_⟩
  all_goals simp only [agBoth]; omega

theorem agBoth_ok {a b : Ag} (h1 : agOk a = true) (h2 : agOk b = true) : agOk (agBoth a b) = true := by
  rw [agOk_iff] at h1 h2 ⊢
  simp only [agBoth]
  omega

theorem agJoin_in {a b : Ag} (ha : AgIn a) (hb : AgIn b) : AgIn (agJoin a b) := by
  unfold agJoin
  split
  · split
    · exact agBoth_in ha hb ‹_› ‹_›
    · exact hb
  · exact ha

theorem agJoin_good {a b : Ag} (ha : AgGood a) (hb : AgIn b) : AgGood (agJoin a b) := by
  refine ⟨agJoin_in ha.1 hb, ?_⟩
  unfold agJoin
  split
  · split
    · exact .inl (agBoth_ok ‹_› ‹_›)
    · exact .inl ‹_›
  · exact ha.2

/-- The word above an int. -/
def agSign (v : Int) : Int := if v < 0 then -1 else 0

/-- The aggregate of one value. -/
def agOne (v : Int) : Ag := ⟨1, agSign v, v % 18446744073709551616, v, v⟩

theorem agOne_good {v : Int} (h1 : -9223372036854775808 ≤ v) (h2 : v ≤ 9223372036854775807) : AgGood (agOne v) := by
  refine ⟨⟨?_, ?_, ?_, ⟨h1, h2⟩, ⟨h1, h2⟩⟩, .inl ?_⟩
  · simp [agOne]
  · simp only [agOne, agSign]; split <;> omega
  · simp only [agOne]; omega
  · rw [agOk_iff]; simp [agOne]

/-- Those of a list, behind a. -/
def agAll (a : Ag) (l : List Ag) : Ag := l.foldl agJoin a

theorem agAll_good {a : Ag} {l : List Ag} (ha : AgGood a) (hl : ∀ x ∈ l, AgIn x) : AgGood (agAll a l) := by
  induction l generalizing a with
  | nil => exact ha
  | cons x l ih => exact ih (agJoin_good ha (hl x (by simp))) (fun y hy => hl y (by simp [hy]))

theorem agAll_append (a : Ag) (l r : List Ag) : agAll a (l ++ r) = agAll (agAll a l) r := List.foldl_append

/-- The aggregate of values. -/
def agOf (l : List Int) : Ag := agAll agZero (l.map agOne)

/-- Ints. -/
def Ints (l : List Int) : Prop := ∀ x ∈ l, -9223372036854775808 ≤ x ∧ x ≤ 9223372036854775807

theorem ones_in {l : List Int} (h : Ints l) : ∀ x ∈ l.map agOne, AgIn x := by
  intro x hx
  obtain ⟨v, hv, rfl⟩ := List.mem_map.1 hx
  exact (agOne_good (h v hv).1 (h v hv).2).1

theorem agOf_good {l : List Int} (h : Ints l) : AgGood (agOf l) := agAll_good agZero_good (ones_in h)

end Go.Proofs.YtfgfgdchaoekfaaGreatDoor
