/-
  Rows whose elements are several cells each: their cells laid flat.
-/
import Derived.Test.YtcjfejhfafiaiaaBA
namespace Go.Proofs.Ytcjfejhfafiaiaa
open Go.RowKit Go.Lib

/-- The cells of a list, each element's as enc says. -/
def flat {α : Type} (enc : α → List Value) (l : List α) : List Value := l.flatMap enc

section
variable {α : Type} {enc : α → List Value} {s : Nat}

theorem flat_nil : flat enc [] = [] := rfl

theorem flat_append (a b : List α) : flat enc (a ++ b) = flat enc a ++ flat enc b := by simp [flat]

theorem flat_one (a : α) : flat enc [a] = enc a := by simp [flat]

theorem flat_length (h : ∀ x, (enc x).length = s) (l : List α) : (flat enc l).length = l.length * s := by
  induction l with
  | nil => simp [flat]
  | cons a l ih =>
    have e : flat enc (a :: l) = enc a ++ flat enc l := rfl
    rw [e, List.length_append, ih, h, List.length_cons, Nat.add_mul, Nat.one_mul, Nat.add_comm]

theorem flat_at (h : ∀ x, (enc x).length = s) (l : List α) (j : Nat) (x : α) (hx : l[j]? = some x) (i : Nat) (hi : i < s) : (flat enc l)[j * s + i]? = (enc x)[i]? := by
  induction l generalizing j with
  | nil => simp at hx
  | cons a l ih =>
    have e : flat enc (a :: l) = enc a ++ flat enc l := rfl
    rw [e]
    match j with
    | 0 =>
      simp at hx
      subst hx
      rw [Nat.zero_mul, Nat.zero_add, List.getElem?_append_left (by rw [h]; exact hi)]
    | j + 1 =>
      have e2 : (j + 1) * s + i = s + (j * s + i) := by rw [Nat.add_mul, Nat.one_mul]; omega
      rw [e2, List.getElem?_append_right (by rw [h]; omega), h]
      have e3 : s + (j * s + i) - s = j * s + i := by omega
      rw [e3]
      exact ih j (by simpa using hx)

theorem flat_ones (h : ∀ x, ∀ u ∈ enc x, u.oneCell' = true) (l : List α) : ∀ u ∈ flat enc l, u.oneCell' = true := by
  intro u hu
  obtain ⟨x, _, hx⟩ := List.mem_flatMap.1 hu
  exact h x u hx

end

end Go.Proofs.Ytcjfejhfafiaiaa
