/-
  A bundle of texts: BS.
-/
import Derived.Deep.Slices
import Derived.Deep.Fields
import Derived.ChangeSame
import Derived.Test.YtokjlmkegdickaaQ20
/-
  Structs that came in: their cells, leaf by leaf (a struct inside a struct lies flat).
-/
namespace Go.Proofs.Ytokjlmkegdickaa
open Go.ChangeShapes Go.WideShapes Go.ChangeAt Go.RowKit Go.Deep

/-- The types of the cells of t, in order: a struct's fields are gone into. -/
def leaves (P : Program) : Nat → TypeId → Option (List TypeId)
  | 0, _ => none
  | n + 1, t => match P.underlying t with
    | some (.struct fs) => fs.toList.foldl (fun acc f => acc.bind fun l => if f.offset = l.length then (leaves P n f.type).bind fun ms => if ms.length = P.cellsOf f.type then some (l ++ ms) else none else none) (some [])
    | some _ => if P.cellsOf t = 1 then some [t] else none
    | none => none

theorem leaves_fold (P : Program) (n : Nat) (fs : List Field) : ∀ (acc ls : List TypeId),
    fs.foldl (fun acc f => acc.bind fun l => if f.offset = l.length then (leaves P n f.type).bind fun ms => if ms.length = P.cellsOf f.type then some (l ++ ms) else none else none) (some acc) = some ls →
    ∀ i u, ls[i]? = some u → acc[i]? = some u ∨ ∃ f ∈ fs, ∃ ms, leaves P n f.type = some ms ∧ f.offset ≤ i ∧ ms.length = P.cellsOf f.type ∧ ms[i - f.offset]? = some u := by
  induction fs with
  | nil =>
    intro acc ls h i u hi
    simp only [List.foldl_nil, Option.some.injEq] at h
    subst h
    exact .inl hi
  | cons f fs ih =>
    intro acc ls h i u hi
    have none_fold : ∀ (fs : List Field), fs.foldl (fun acc f => acc.bind fun l => if f.offset = l.length then (leaves P n f.type).bind fun ms => if ms.length = P.cellsOf f.type then some (l ++ ms) else none else none) none = none := by
      intro fs
      induction fs with
      | nil => rfl
      | cons g gs ih => rw [List.foldl_cons]; exact ih
    rw [List.foldl_cons] at h
    simp only [Option.bind_some] at h
    by_cases ho : f.offset = acc.length
    · rw [if_pos ho] at h
      cases hl : leaves P n f.type with
      | none => rw [hl, Option.bind_none, none_fold] at h; cases h
      | some ms =>
        rw [hl, Option.bind_some] at h
        by_cases hm : ms.length = P.cellsOf f.type
        · rw [if_pos hm] at h
          rcases ih _ _ h i u hi with k | ⟨g, hg, k⟩
          · by_cases hlt : i < acc.length
            · rw [List.getElem?_append_left hlt] at k
              exact .inl k
            · rw [List.getElem?_append_right (by omega)] at k
              exact .inr ⟨f, List.mem_cons_self .., ms, hl, by omega, hm, by rw [ho]; exact k⟩
          · exact .inr ⟨g, List.mem_cons_of_mem _ hg, k⟩
        · rw [if_neg hm, none_fold] at h
          cases h
    · rw [if_neg ho, none_fold] at h
      cases h

section
variable {H : Type} {enc : TypeId × Value → H} {P : Program} {W : World} {base : Nat} {sp : Nat → Bool} {held : Bool}

theorem leaf_at (n : Nat) : ∀ (t : TypeId) (ls : List TypeId) (cs : List Value) (fuel : Nat) (x : DataW H × List MemPlace), leaves P n t = some ls → cs.length ≤ P.cellsOf t → DataW.trod enc P W base sp held fuel t cs = some x →
    ∀ i u, ls[i]? = some u → ∃ m y, DataW.trod enc P W base sp held m u ((cs.drop i).take 1) = some y := by
  induction n with
  | zero => intro t ls cs fuel x h; cases h
  | succ n ih =>
    intro t ls cs fuel x h hc ht i u hi
    unfold leaves at h
    split at h
    · next fs hu =>
      obtain ⟨xs, m, _, _, _, hxl, hg⟩ := DataW.trod_struct hu ht
      rcases leaves_fold P n fs.toList [] ls h i u hi with k | ⟨f, hf, ms, hms, ho, hml, hk⟩
      · simp at k
      · obtain ⟨j, hj⟩ := List.getElem?_of_mem hf
        have hj' : fs[j]? = some f := by simpa using hj
        have hjl : j < xs.length := by rw [hxl]; exact (Array.getElem?_eq_some_iff.1 hj').1
        have h1 := hg j f hj'
        rw [List.getElem?_eq_getElem hjl] at h1
        obtain ⟨m', y, hy⟩ := ih f.type ms _ _ _ hms (by rw [List.length_take]; omega) h1 (i - f.offset) u hk
        refine ⟨m', y, ?_⟩
        have hlt := (List.getElem?_eq_some_iff.1 hk).1
        rw [hml] at hlt
        have e : (((cs.drop f.offset).take (P.cellsOf f.type)).drop (i - f.offset)).take 1 = (cs.drop i).take 1 := by
          rw [List.drop_take, List.drop_drop, List.take_take, show f.offset + (i - f.offset) = i by omega, Nat.min_eq_left (by omega)]
        rw [e] at hy
        exact hy
    · next hu =>
      split at h
      · next h1 =>
        simp only [Option.some.injEq] at h
        subst h
        have hi0 : i = 0 := by
          have := (List.getElem?_eq_some_iff.1 hi).1
          simpa using this
        subst hi0
        simp only [List.getElem?_cons_zero, Option.some.injEq] at hi
        subst hi
        refine ⟨fuel, x, ?_⟩
        rw [List.drop_zero, List.take_of_length_le (by omega)]
        exact ht
      · cases h
    · cases h

theorem leaf_int {k : IntKind} {u : TypeId} {cs : List Value} {i : Nat} (hu : P.underlying u = some (.int k)) (h : ∃ m y, DataW.trod enc P W base sp held m u ((cs.drop i).take 1) = some y) : ∃ n, cs[i]? = some (.int k n) ∧ (Lit.int k n).wf = true := by
  obtain ⟨m, y, h⟩ := h
  obtain ⟨n, e, _, w⟩ := DataW.trod_int hu h
  refine ⟨n, ?_, w⟩
  have : ((cs.drop i).take 1)[0]? = some (.int k n) := by rw [e]; rfl
  rw [List.getElem?_take_of_lt (by omega), List.getElem?_drop, Nat.add_zero] at this
  exact this

theorem leaf_bool {u : TypeId} {cs : List Value} {i : Nat} (hu : P.underlying u = some .bool) (h : ∃ m y, DataW.trod enc P W base sp held m u ((cs.drop i).take 1) = some y) : ∃ b, cs[i]? = some (.bool b) := by
  obtain ⟨m, y, h⟩ := h
  obtain ⟨n, e, _⟩ := DataW.trod_bool hu h
  refine ⟨n, ?_⟩
  have : ((cs.drop i).take 1)[0]? = some (.bool n) := by rw [e]; rfl
  rw [List.getElem?_take_of_lt (by omega), List.getElem?_drop, Nat.add_zero] at this
  exact this

theorem leaf_string {u : TypeId} {cs : List Value} {i : Nat} (hu : P.underlying u = some .string) (h : ∃ m y, DataW.trod enc P W base sp held m u ((cs.drop i).take 1) = some y) : ∃ s : ByteArray, cs[i]? = some (.string s) ∧ s.size ≤ maxLen := by
  obtain ⟨m, y, h⟩ := h
  obtain ⟨n, e, _, w⟩ := DataW.trod_string hu h
  refine ⟨n, ?_, w⟩
  have : ((cs.drop i).take 1)[0]? = some (.string n) := by rw [e]; rfl
  rw [List.getElem?_take_of_lt (by omega), List.getElem?_drop, Nat.add_zero] at this
  exact this
end

/-- A record, as its cells. -/
structure RecIn where
  n : ByteArray
  t : Int
  c : Int
  hi : Int
  lo : Int
  mn : Int
  mx : Int

def RecIn.cells (a : RecIn) : List Value := [.string a.n, .int .i64 a.t, .int .i64 a.c, .int .i64 a.hi, .int .u64 a.lo, .int .i64 a.mn, .int .i64 a.mx]

/-- What any record that can be read keeps. -/
def RecIn.Ok (a : RecIn) : Prop := a.n.size ≤ maxLen ∧ (Lit.int .i64 a.t).wf = true ∧ (Lit.int .i64 a.c).wf = true ∧ (Lit.int .i64 a.hi).wf = true ∧ (Lit.int .u64 a.lo).wf = true ∧ (Lit.int .i64 a.mn).wf = true ∧ (Lit.int .i64 a.mx).wf = true

theorem rec_leaves : leaves Try.prog 3 26 = some [9, 3, 3, 3, 22, 3, 3] := by kernel_rfl
theorem rec_size : Try.prog.cellsOf 26 = 7 := by kernel_rfl

theorem rec_of_cells {H : Type} {enc : TypeId × Value → H} {W : World} {base : Nat} {sp : Nat → Bool} {held : Bool} {fuel : Nat} {cs : List Value} {x : DataW H × List MemPlace} (hl : cs.length = 7)
    (h : DataW.trod enc Try.prog W base sp held fuel 26 cs = some x) : ∃ a : RecIn, cs = a.cells ∧ a.Ok := by
  have hF := leaf_at 3 _ _ cs fuel x rec_leaves (by rw [rec_size]; omega) h
  obtain ⟨n0, c0, w0⟩ := leaf_string Try.underlying9 (hF 0 _ rfl)
  obtain ⟨n1, c1, w1⟩ := leaf_int Try.underlying3 (hF 1 _ rfl)
  obtain ⟨n2, c2, w2⟩ := leaf_int Try.underlying3 (hF 2 _ rfl)
  obtain ⟨n3, c3, w3⟩ := leaf_int Try.underlying3 (hF 3 _ rfl)
  obtain ⟨n4, c4, w4⟩ := leaf_int Try.underlying22 (hF 4 _ rfl)
  obtain ⟨n5, c5, w5⟩ := leaf_int Try.underlying3 (hF 5 _ rfl)
  obtain ⟨n6, c6, w6⟩ := leaf_int Try.underlying3 (hF 6 _ rfl)
  refine ⟨⟨n0, n1, n2, n3, n4, n5, n6⟩, ?_, w0, w1, w2, w3, w4, w5, w6⟩
  match cs, hl with
  | [a0, a1, a2, a3, a4, a5, a6], _ =>
    simp at c0 c1 c2 c3 c4 c5 c6
    subst c0 c1 c2 c3 c4 c5 c6
    rfl

set_option maxRecDepth 20000 in
/-- One that came in by value. -/
theorem rec_of_trod {H : Type} {enc : TypeId × Value → H} {W : World} {sp : Nat → Bool} {r : Reach} {b0 : Nat} {v : Value} {d : DataW H} {ps : List MemPlace} (hv : Value.okWide Try.prog W r b0 26 v)
    (h : DataW.Trod enc Try.prog W 0 sp true 26 v d ps) : ∃ a : RecIn, v = .agg a.cells.toArray ∧ a.Ok := by
  obtain ⟨cs, rfl, hsz⟩ := okWide_struct Try.underlying26 hv
  obtain ⟨fuel, hf⟩ := h
  have hl : cs.toList.length = 7 := Array.length_toList.trans (hsz.trans rec_size)
  obtain ⟨a, ha, hi⟩ := rec_of_cells hl hf
  refine ⟨a, ?_, hi⟩
  rw [← ha, Array.toArray_toList]

end Go.Proofs.Ytokjlmkegdickaa
