/-
  A bundle of texts: BS.
-/
import Derived.Deep.Slices
import Derived.Deep.Fields
import Derived.ChangeSame
import Derived.Test.YtfgfgdchaoekfaaGreatDoorQ17
namespace Go.Proofs.YtfgfgdchaoekfaaGreatDoor
open Go.ChangeShapes Go.WideShapes Go.ChangeAt Go.RowKit Go.Deep

/-- The types of the cells of t, in order: a struct's fields are gone into. -/
def leaves (P : Program) : Nat → TypeId → Option (List TypeId)
  | 0, _ => none
  | n + 1, t => match P.underlying t with
    | some (.struct fs) => fs.toList.foldl (fun acc f => acc.bind fun l => if f.offset = l.length then (leaves P n f.type).bind fun ms => if ms.length = P.cellsOf f.type then some (l ++ ms) else none else none) (some [])
    | some _ => if P.cellsOf t = 1 then some [t] else none
    | none => none

theorem leaves_fold (P : Program) (n : Nat) (fs : List Field) : ∀ (acc ls : List TypeId),
    fs.foldl (fun acc f => acc.bind fun l => if f.offset = l.length then (leaves P n f.type).bind fun ms => if ms.length = P.cellsOf f.type then some (l ++ ms) else none else none) (some acc) = some ls →
    ∀ i u, ls[i]? = some u → acc[i]? = some u ∨ ∃ f ∈ fs, ∃ ms, leaves P n f.type = some ms ∧ f.offset ≤ i ∧ ms.length = P.cellsOf f.type ∧ ms[i - f.offset]? = some u := by
  induction fs with
  | nil =>
    intro acc ls h i u hi
    simp only [List.foldl_nil, Option.some.injEq] at h
    subst h
    exact .inl hi
  | cons f fs ih =>
    intro acc ls h i u hi
    have none_fold : ∀ (fs : List Field), fs.foldl (fun acc f => acc.bind fun l => if f.offset = l.length then (leaves P n f.type).bind fun ms => if ms.length = P.cellsOf f.type then some (l ++ ms) else none else none) none = none := by
      intro fs
      induction fs with
      | nil => rfl
      | cons g gs ih => rw [List.foldl_cons]; exact ih
    rw [List.foldl_cons] at h
    simp only [Option.bind_some] at h
    by_cases ho : f.offset = acc.length
    · rw [if_pos ho] at h
      cases hl : leaves P n f.type with
      | none => rw [hl, Option.bind_none, none_fold] at h; cases h
      | some ms =>
        rw [hl, Option.bind_some] at h
        by_cases hm : ms.length = P.cellsOf f.type
        · rw [if_pos hm] at h
          rcases ih _ _ h i u hi with k | ⟨g, hg, k⟩
          · by_cases hlt : i < acc.length
            · rw [List.getElem?_append_left hlt] at k
              exact .inl k
            · rw [List.getElem?_append_right (by omega)] at k
              exact .inr ⟨f, List.mem_cons_self .., ms, hl, by omega, hm, by rw [ho]; exact k⟩
          · exact .inr ⟨g, List.mem_cons_of_mem _ hg, k⟩
        · rw [if_neg hm, none_fold] at h
          cases h
    · rw [if_neg ho, none_fold] at h
      cases h

section
variable {H : Type} {enc : TypeId × Value → H} {P : Program} {W : World} {base : Nat} {sp : Nat → Bool} {held : Bool}

theorem leaf_at (n : Nat) : ∀ (t : TypeId) (ls : List TypeId) (cs : List Value) (fuel : Nat) (x : DataW H × List MemPlace), leaves P n t = some ls → cs.length ≤ P.cellsOf t → DataW.trod enc P W base sp held fuel t cs = some x →
    ∀ i u, ls[i]? = some u → ∃ m y, DataW.trod enc P W base sp held m u ((cs.drop i).take 1) = some y := by
  induction n with
  | zero => intro t ls cs fuel x h; cases h
  | succ n ih =>
    intro t ls cs fuel x h hc ht i u hi
    unfold leaves at h
    split at h
    · next fs hu =>
      obtain ⟨xs, m, _, _, _, hxl, hg⟩ := DataW.trod_struct hu ht
      rcases leaves_fold P n fs.toList [] ls h i u hi with k | ⟨f, hf, ms, hms, ho, hml, hk⟩
      · simp at k
      · obtain ⟨j, hj⟩ := List.getElem?_of_mem hf
        have hj' : fs[j]? = some f := by simpa using hj
        have hjl : j < xs.length := by rw [hxl]; exact (Array.getElem?_eq_some_iff.1 hj').1
        have h1 := hg j f hj'
        rw [List.getElem?_eq_getElem hjl] at h1
        obtain ⟨m', y, hy⟩ := ih f.type ms _ _ _ hms (by rw [List.length_take]; omega) h1 (i - f.offset) u hk
        refine ⟨m', y, ?_⟩
        have hlt := (List.getElem?_eq_some_iff.1 hk).1
        rw [hml] at hlt
        have e : (((cs.drop f.offset).take (P.cellsOf f.type)).drop (i - f.offset)).take 1 = (cs.drop i).take 1 := by
          rw [List.drop_take, List.drop_drop, List.take_take, show f.offset + (i - f.offset) = i by omega, Nat.min_eq_left (by omega)]
        rw [e] at hy
        exact hy
    · next hu =>
      split at h
      · next h1 =>
        simp only [Option.some.injEq] at h
        subst h
        have hi0 : i = 0 := by
          have := (List.getElem?_eq_some_iff.1 hi).1
          simpa using this
        subst hi0
        simp only [List.getElem?_cons_zero, Option.some.injEq] at hi
        subst hi
        refine ⟨fuel, x, ?_⟩
        rw [List.drop_zero, List.take_of_length_le (by omega)]
        exact ht
      · cases h
    · cases h

theorem leaf_int {k : IntKind} {u : TypeId} {cs : List Value} {i : Nat} (hu : P.underlying u = some (.int k)) (h : ∃ m y, DataW.trod enc P W base sp held m u ((cs.drop i).take 1) = some y) : ∃ n, cs[i]? = some (.int k n) ∧ (Lit.int k n).wf = true := by
  obtain ⟨m, y, h⟩ := h
  obtain ⟨n, e, _, w⟩ := DataW.trod_int hu h
  refine ⟨n, ?_, w⟩
  have : ((cs.drop i).take 1)[0]? = some (.int k n) := by rw [e]; rfl
  rw [List.getElem?_take_of_lt (by omega), List.getElem?_drop, Nat.add_zero] at this
  exact this

theorem leaf_string {u : TypeId} {cs : List Value} {i : Nat} (hu : P.underlying u = some .string) (h : ∃ m y, DataW.trod enc P W base sp held m u ((cs.drop i).take 1) = some y) : ∃ s : ByteArray, cs[i]? = some (.string s) ∧ s.size ≤ maxLen := by
  obtain ⟨m, y, h⟩ := h
  obtain ⟨n, e, _, w⟩ := DataW.trod_string hu h
  refine ⟨n, ?_, w⟩
  have : ((cs.drop i).take 1)[0]? = some (.string n) := by rw [e]; rfl
  rw [List.getElem?_take_of_lt (by omega), List.getElem?_drop, Nat.add_zero] at this
  exact this
end

end Go.Proofs.YtfgfgdchaoekfaaGreatDoor
