/-
  The lines of a printed policy, counted.
-/
import Derived.Test.YtadepjpmpjipmaaDoorPOHq
namespace Go.Proofs.YtadepjpmpjipmaaDoor
open Go.RowKit Go.Lib

theorem ends_append (a b : List UInt8) : wEnds (a ++ b) = wEnds a + wEnds b := by
  unfold wEnds
  rw [List.filter_append, List.length_append]

theorem ends_take_le (l : List UInt8) (k : Nat) : wEnds (l.take k) ≤ wEnds l := by
  conv => rhs; rw [← List.take_append_drop k l]
  rw [ends_append]
  omega

theorem ends_none : ∀ l : List UInt8, (∀ c ∈ l, ¬ c.toNat = 10) → wEnds l = 0
  | [], _ => rfl
  | c :: l, h => by
    have hc : (c.toNat == 10) = false := by simpa using h c (List.mem_cons_self ..)
    have := ends_none l (fun d hd => h d (List.mem_cons_of_mem _ hd))
    unfold wEnds at this ⊢
    rw [List.filter_cons, hc]
    simpa using this

theorem flatLines_join (a b : List (List (List UInt8))) : flatLines (a ++ b) = flatLines a ++ flatLines b := by
  unfold flatLines
  rw [List.map_append, List.flatten_append]

theorem oneLine_mem : ∀ (l : List (List UInt8)) (c : UInt8), c ∈ oneLine l → c.toNat = 32 ∨ ∃ w ∈ l, c ∈ w
  | [], c, h => by cases h
  | [w], c, h => .inr ⟨w, List.mem_cons_self .., h⟩
  | w :: x :: r, c, h => by
    rw [oneLine] at h
    rcases List.mem_append.1 h with h | h
    · exact .inr ⟨w, List.mem_cons_self .., h⟩
    · rcases List.mem_cons.1 h with rfl | h
      · exact .inl rfl
      · rcases oneLine_mem (x :: r) c h with h | ⟨y, hy, hc⟩
        · exact .inl h
        · exact .inr ⟨y, List.mem_cons_of_mem _ hy, hc⟩

theorem oneLine_ends {l : List (List UInt8)} (h : ∀ w ∈ l, goodWord w) : wEnds (oneLine l) = 0 := by
  refine ends_none _ (fun c hc => ?_)
  rcases oneLine_mem l c hc with e | ⟨w, hw, hcw⟩
  · omega
  · have := (h w hw).all c hcw
    unfold goodByte at this
    omega

theorem flatLines_ends : ∀ (ls : List (List (List UInt8))), (∀ l ∈ ls, l ≠ [] ∧ ∀ w ∈ l, goodWord w) → wEnds (flatLines ls) = ls.length
  | [], _ => rfl
  | l :: ls, h => by
    have h1 := oneLine_ends (h l (List.mem_cons_self ..)).2
    have h2 := flatLines_ends ls (fun x hx => h x (List.mem_cons_of_mem _ hx))
    have e : flatLines (l :: ls) = (oneLine l ++ [10]) ++ flatLines ls := rfl
    rw [e, ends_append, ends_append, h1, h2, List.length_cons]
    have : wEnds [(10 : UInt8)] = 1 := rfl
    omega

/-- The first lines: fewer line ends ahead of their end. -/
theorem lines_before {ls : List (List (List UInt8))} (h : ∀ l ∈ ls, l ≠ [] ∧ ∀ w ∈ l, goodWord w) {a k : Nat} (ha : a < ls.length) (hk : k < (flatLines (ls.take (a + 1))).length) :
    wEnds ((flatLines ls).take k) ≤ a := by
  obtain ⟨x, hx⟩ : ∃ x, ls[a]? = some x := ⟨_, List.getElem?_eq_getElem ha⟩
  have hxl : x ∈ ls := List.mem_of_getElem? hx
  have e1 : ls.take (a + 1) = ls.take a ++ [x] := by rw [List.take_add_one, hx]; rfl
  have e2 : flatLines (ls.take (a + 1)) = flatLines (ls.take a) ++ oneLine x ++ [10] := by
    rw [e1, flatLines_join, List.append_assoc]
    congr 1
    unfold flatLines
    simp
  have e3 : flatLines ls = flatLines (ls.take (a + 1)) ++ flatLines (ls.drop (a + 1)) := by
    conv => lhs; rw [← List.take_append_drop (a + 1) ls]
    rw [flatLines_join]
  rw [e3, List.take_append_of_le_length (by omega), e2]
  rw [e2, List.length_append, List.length_singleton] at hk
  rw [List.take_append_of_le_length (by omega)]
  have h1 := ends_take_le (flatLines (ls.take a) ++ oneLine x) k
  rw [ends_append, oneLine_ends (h x hxl).2, flatLines_ends _ (fun l hl => h l (List.mem_of_mem_take hl)), List.length_take] at h1
  omega

theorem lines_at {ls : List (List (List UInt8))} (h : ∀ l ∈ ls, l ≠ [] ∧ ∀ w ∈ l, goodWord w) {a : Nat} (ha : a < ls.length) :
    flatLines ls = flatLines (ls.take (a + 1)) ++ flatLines (ls.drop (a + 1)) ∧ wEnds (flatLines (ls.take (a + 1))) = a + 1 := by
  refine ⟨?_, ?_⟩
  · conv => lhs; rw [← List.take_append_drop (a + 1) ls]
    rw [flatLines_join]
  · rw [flatLines_ends _ (fun l hl => h l (List.mem_of_mem_take hl)), List.length_take]
    omega

end Go.Proofs.YtadepjpmpjipmaaDoor
