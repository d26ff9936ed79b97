/-
  For statement AggTells: the contracts by name, and what is laid out ahead of its walk.
-/
import Derived.Test.YtfoffoiimlgoeaaAGI
import Derived.Test.YtfoffoiimlgoeaaAGE
import Derived.Test.YtfoffoiimlgoeaaAGK
import Derived.Test.YtfoffoiimlgoeaaBI
import Derived.Deep.DeepCutAuto
namespace Go.Proofs.Ytfoffoiimlgoeaa
open Go.RowKit Go.Lib

set_option maxRecDepth 100000 in
set_option maxHeartbeats 800000 in
theorem tells_light (v u : Value) (xs : List Int) (l : List Ag) (b : ByteArray) (h : 60 < xs.length ∨ 60 < l.length ∨ 300 < b.size) (w : World) (hv : NumRow .i64 w v xs) (hu : AgRow w u l) :
    Calls Try.prog 3 #[v, u, .string b] w fun e w' => e = .returned (.bool true) ∧ Below w.heap.size w w' := by
  obtain ⟨sa, cp, rfl, _⟩ := hv
  obtain ⟨sb, cq, rfl, _⟩ := hu
  have key : ∀ hs : 60 < xs.length ∨ (¬ 60 < xs.length ∧ 60 < l.length) ∨ (¬ 60 < xs.length ∧ ¬ 60 < l.length ∧ 300 < b.size), Calls Try.prog 3 #[.slice sa xs.length cp, .slice sb l.length cq, .string b] w fun e w' => e = .returned (.bool true) ∧ Below w.heap.size w w' := by
    clear h
    intro hs
    rcases hs with h1 | ⟨h1, h2⟩ | ⟨h1, h2, h3⟩
    all_goals
      go_enter Try.func3, Try.ntmps3
      go_wp2_with fail
      refine (aggAlive_any _).mono ?_
      rintro e w1 ⟨rfl, b1⟩
      go_wp2
      go_ret
      exact ⟨rfl, b1⟩
  exact key (by omega)

theorem agAll_pair {a b : Ag} (ha : AgGood a) : agAll agZero [a, b] = agJoin a b := by
  show agJoin (agJoin agZero a) b = agJoin a b
  rw [agJoin_zero_left a ha]

theorem refMerge_named (a b y : Ag) (ia : AgIn a) (ib : AgIn b) (hy : agRef a b = y) (w : World) : Calls Try.prog 11 #[agv a, agv b] w fun e w' => e = .returned (agv y) ∧ Below w.heap.size w w' := by
  subst hy
  exact refMerge_any a b ia ib w

theorem Of_row (v : Value) (xs : List Int) (y : Ag) (hy : agOf xs = y) (w : World) (hv : NumRow .i64 w v xs) (hl : Ints xs) (hn : xs.length ≤ 1000000) : Calls Try.prog 15 #[v] w fun e w' => e = .returned (agv y) ∧ Below w.heap.size w w' := by
  subst hy
  exact aggOf_any v xs w hv hl hn

theorem Merge_row (v : Value) (l : List Ag) (y : Ag) (hy : agAll agZero l = y) (w : World) (hv : AgRow w v l) (hl : ∀ x ∈ l, AgIn x) (hn : l.length ≤ 1000000) : Calls Try.prog 16 #[v] w fun e w' => e = .returned (agv y) ∧ Below w.heap.size w w' := by
  subst hy
  exact aggMerge_any v l w hv hl hn

theorem all_row (v : Value) (l : List Ag) (y : Ag) (hy : agAll agZero l = y) (w : World) (hv : AgRow w v l) (hl : ∀ x ∈ l, AgIn x) (hn : l.length ≤ 1000000) : Calls Try.prog 14 #[v] w fun e w' => e = .returned (agv y) ∧ Below w.heap.size w w' := by
  subst hy
  exact lawAll_any v l w hv hl hn

theorem Add_row (x y : Ag) (hx : AgIn x) (v : Value) (xs : List Int) (hy : agAll agZero [x, agOf xs] = y) (w : World) (hv : NumRow .i64 w v xs) (hl : Ints xs) (hn : xs.length ≤ 1000000) :
    Calls Try.prog 17 #[agv x, v] w fun e w' => e = .returned (agv y) ∧ Below w.heap.size w w' := by
  subst hy
  exact aggAdd_any x hx v xs w hv hl hn

/-- What Put answers, and the document's own. -/
theorem Put_two (a : Ag) (ha : AgIn a) : ∃ (t : ByteArray) (e : Int), (∀ w, Calls Try.prog 19 #[agv a] w fun r w' => r = .returned (.tuple #[.string t, .int .i64 e]) ∧ Below w.heap.size w w') ∧
    (∀ w, Calls Try.prog 20 #[agv a] w fun r w' => r = .returned (.tuple #[.string t, .int .i64 e]) ∧ Below w.heap.size w w') := by
  by_cases h : agOk a = true
  · exact ⟨agText a, 0, Put_good a h ha, refPut_good a h ha⟩
  · have h : agOk a = false := by simpa using h
    exact ⟨⟨#[]⟩, 1, Put_bad a h, refPut_bad a h⟩

theorem Get_two (b : ByteArray) : ∃ (r : Ag) (k : Int), (∀ w, Calls Try.prog 27 #[.string b] w fun e w' => e = .returned (.tuple #[agv r, .int .i64 k]) ∧ Below w.heap.size w w') ∧
    (∀ w, Calls Try.prog 28 #[.string b] w fun e w' => e = .returned (.tuple #[agv r, .int .i64 k]) ∧ Below w.heap.size w w') := by
  by_cases h : b.size = 40
  · exact ⟨_, _, Get_full b h _ rfl, refGet_full b h _ rfl⟩
  · exact ⟨agZero, 5, Get_short b h, refGet_short b h⟩

theorem refValue_named (a : Ag) (ia : AgIn a) (v : Int) (f : Bool) (hv : agVal a = v) (hf : agFits a = f) (w : World) : Calls Try.prog 24 #[agv a] w fun e w' => e = .returned (.tuple #[.int .i64 v, .bool (!f)]) ∧ Below w.heap.size w w' := by
  subst hv hf
  exact refValue_any a ia w

theorem refMean_named (a : Ag) (ia : AgIn a) (m : Int) (hm : agMean a = m) (w : World) : Calls Try.prog 26 #[agv a] w fun e w' => e = .returned (.int .i64 m) ∧ Below w.heap.size w w' := by
  subst hm
  exact refMean_any a ia w

theorem aggMean_named (a : Ag) (m : Int) (hm : agMean a = m) (w : World) : Calls Try.prog 25 #[agv a] w fun e w' => e = .returned (.int .i64 m) ∧ Below w.heap.size w w' := by
  subst hm
  exact aggMean_any a w

theorem refValid_named (a : Ag) (f : Bool) (hf : agOk a = f) (w : World) : Calls Try.prog 22 #[agv a] w fun e w' => e = .returned (.bool f) ∧ Below w.heap.size w w' := by
  subst hf
  exact refValid_any a w

end Go.Proofs.Ytfoffoiimlgoeaa
