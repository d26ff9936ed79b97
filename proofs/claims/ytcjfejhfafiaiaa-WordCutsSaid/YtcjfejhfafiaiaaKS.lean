/-
  Rows whose elements are several cells each (package sedimentbook's lists of structs): cells, growth, stores.
-/
import Derived.Test.YtcjfejhfafiaiaaKH
import Derived.Test.YtcjfejhfafiaiaaBFL
import Derived.Test.YtcjfejhfafiaiaaBKP
namespace Go.Proofs.Ytcjfejhfafiaiaa
open Go.RowKit Go.Lib

section
variable {α : Type} {enc : α → List Value} {s : Nat}

/-- The first k of M, and what is behind the first k of xs. -/
def parts (M xs : List α) (k : Nat) : List α := M.take k ++ xs.drop k

theorem parts_zero (M xs : List α) : parts M xs 0 = xs := by simp [parts]

theorem parts_all (M xs : List α) (h : M.length = xs.length) : parts M xs xs.length = M := by
  unfold parts
  rw [← h, List.take_length, h, List.drop_length, List.append_nil]

theorem parts_length (M xs : List α) (k : Nat) (h : M.length = xs.length) : (parts M xs k).length = xs.length := by
  unfold parts
  rw [List.length_append, List.length_take, List.length_drop]
  omega

/-- Cells written one behind the other. -/
def setMany : List Value → Nat → List Value → List Value
  | xs, _, [] => xs
  | xs, o, y :: ys => setMany (xs.set o y) (o + 1) ys

theorem setMany_eq (ys xs : List Value) (o : Nat) (h : o + ys.length ≤ xs.length) : setMany xs o ys = xs.take o ++ ys ++ xs.drop (o + ys.length) := by
  induction ys generalizing xs o with
  | nil => simp [setMany]
  | cons y ys ih =>
    simp only [List.length_cons] at h
    rw [setMany, ih _ _ (by rw [List.length_set]; omega)]
    have e1 : (xs.set o y).take (o + 1) = xs.take o ++ [y] := by
      rw [List.take_succ_eq_append_getElem (by rw [List.length_set]; omega), List.take_set, List.set_eq_of_length_le (by rw [List.length_take]; omega)]
      simp
    have e2 : (xs.set o y).drop (o + 1 + ys.length) = xs.drop (o + (ys.length + 1)) := by
      rw [List.drop_set_of_lt (by omega)]
      congr 1
      omega
    rw [e1, e2]
    simp

theorem flat_take (h : ∀ x, (enc x).length = s) (l : List α) (k : Nat) : (flat enc l).take (k * s) = flat enc (l.take k) := by
  by_cases hk : k ≤ l.length
  · have e : flat enc l = flat enc (l.take k) ++ flat enc (l.drop k) := by rw [← flat_append, List.take_append_drop]
    have hl : (flat enc (l.take k)).length = k * s := by rw [flat_length h, List.length_take]; congr 1; omega
    rw [e, ← hl, List.take_left]
  · have e1 : l.take k = l := List.take_of_length_le (by omega)
    have := Nat.mul_le_mul_right s (show l.length ≤ k by omega)
    rw [e1, List.take_of_length_le (by rw [flat_length h]; exact this)]

theorem flat_drop (h : ∀ x, (enc x).length = s) (l : List α) (k : Nat) : (flat enc l).drop (k * s) = flat enc (l.drop k) := by
  by_cases hk : k ≤ l.length
  · have e : flat enc l = flat enc (l.take k) ++ flat enc (l.drop k) := by rw [← flat_append, List.take_append_drop]
    have hl : (flat enc (l.take k)).length = k * s := by rw [flat_length h, List.length_take]; congr 1; omega
    rw [e, ← hl, List.drop_left]
  · have e1 : l.drop k = [] := List.drop_of_length_le (by omega)
    have := Nat.mul_le_mul_right s (show l.length ≤ k by omega)
    rw [e1, List.drop_of_length_le (by rw [flat_length h]; exact this)]
    rfl

/-- One element written. -/
theorem parts_set (h : ∀ x, (enc x).length = s) (M xs : List α) (k : Nat) (m : α) (hm : M[k]? = some m) (hl : M.length = xs.length) : setMany (flat enc (parts M xs k)) (k * s) (enc m) = flat enc (parts M xs (k + 1)) := by
  obtain ⟨hk, rfl⟩ := List.getElem?_eq_some_iff.1 hm
  have hpl := parts_length M xs k hl
  have hbig := Nat.mul_le_mul_right s (show k + 1 ≤ xs.length by omega)
  rw [setMany_eq _ _ _ (by rw [flat_length h, hpl, h]; rw [Nat.add_mul, Nat.one_mul] at hbig; omega), h, flat_take h]
  have e1 : k * s + s = (k + 1) * s := by rw [Nat.add_mul, Nat.one_mul]
  rw [e1, flat_drop h, ← flat_one (enc := enc) M[k], ← flat_append, ← flat_append]
  congr 1
  have h1 : (M.take k).length = k := by rw [List.length_take]; omega
  have e2 : (parts M xs k).take k = M.take k := by
    unfold parts
    rw [List.take_append_of_le_length (by omega), List.take_of_length_le (by omega)]
  have e3 : (parts M xs k).drop (k + 1) = xs.drop (k + 1) := by
    unfold parts
    rw [List.drop_append, List.drop_of_length_le (by omega), List.nil_append, h1, List.drop_drop]
    congr 1
    omega
  rw [e2, e3]
  unfold parts
  rw [List.take_succ_eq_append_getElem hk]
end

/-- Cells of a block written one behind the other. -/
def setCells (w : World) (g : Nat) : Nat → List Value → World
  | _, [] => w
  | o, y :: ys => setCells (w.setCell ⟨g, o, none⟩ y) g (o + 1) ys

theorem setCells_own {D : Nat} {e : TypeId} {s n cap g : Nat} (ys : List Value) {w : World} {xs : List Value} (o : Nat) (h : w.ownsRow D e s (.slice (some ⟨g, 0, none⟩) n cap) n xs) :
    (setCells w g o ys).ownsRow D e s (.slice (some ⟨g, 0, none⟩) n cap) n (setMany xs o ys) ∧ w.grownBy (setCells w g o ys) (some g) := by
  induction ys generalizing w xs o with
  | nil => exact ⟨h, grownBy_refl _ _⟩
  | cons y ys ih =>
    obtain ⟨h1, h2⟩ := h.stored o y
    obtain ⟨h3, h4⟩ := ih (o + 1) h1
    exact ⟨h3, grownBy_trans h2 h4⟩

/-- A row's cells that are laid anew. -/
theorem new_cells (w : World) (cs : Array Value) (t : TypeId) : Cells (w.alloc (.cells cs t)) w.heap.size 0 cs.toList := by
  intro j u hj
  rw [Nat.zero_add, World.cell?_alloc_new]
  simpa using hj

/-- As GrewRow, of elements of s cells. -/
structure GrewS (D : Nat) (e : TypeId) (s : Nat) (w0 w : World) (u : Value) (n : Nat) (v : Value) (m : Nat) (ys : List Value) : Prop where
  own : w.ownsRow D e s v m ys
  le : n ≤ m
  grown : w0.grownBy w u.ownBlock
  kept : ∀ g, u.ownBlock = some g → ∀ j, j < n * s → w.cell? ⟨g, j, none⟩ = w0.cell? ⟨g, j, none⟩
  where_ : v.ownBlock = u.ownBlock ∨ ∃ g, v.ownBlock = some g ∧ w0.heap.size ≤ g

theorem GrewS.refl {D : Nat} {e : TypeId} {s : Nat} {w : World} {u : Value} {n : Nat} {xs : List Value} (h : w.ownsRow D e s u n xs) : GrewS D e s w w u n u n xs :=
  ⟨h, Nat.le_refl _, ⟨rfl, rfl, rfl, Nat.le_refl _, fun _ _ _ => rfl⟩, fun _ _ _ _ => rfl, .inl rfl⟩

theorem GrewS.below {D : Nat} {e : TypeId} {s : Nat} {w0 w w' : World} {u v : Value} {n m : Nat} {xs ys : List Value} (h0 : w0.ownsRow D e s u n xs) (h : GrewS D e s w0 w u n v m ys) (b : Below w.heap.size w w') : GrewS D e s w0 w' u n v m ys := by
  have hs := h.grown.size
  refine ⟨h.own.kept (grown_of_below b) ?_, h.le, ⟨b.os.trans h.grown.os, b.tape.trans h.grown.tape, b.output.trans h.grown.output, Nat.le_trans hs b.size, fun k hk hne => ?_⟩, fun g hg j hj => ?_, h.where_⟩
  · cases v.ownBlock <;> simp
  · rw [b.block k (by omega)]
    exact h.grown.block k hk hne
  · rw [b.cell (Nat.lt_of_lt_of_le (h0.lt g hg).2 hs)]
    exact h.kept g hg j hj

theorem GrewS.append {D : Nat} {e : TypeId} {s : Nat} {w0 w w' : World} {u v v' : Value} {n m m' : Nat} {xs ys ys' : List Value} (h0 : w0.ownsRow D e s u n xs) (h : GrewS D e s w0 w u n v m ys)
    (ho : w'.ownsRow D e s v' m' ys') (hm : m ≤ m') (hg : w.grownBy w' v.ownBlock) (hk : ∀ g, v.ownBlock = some g → ∀ j, j < m * s → w'.cell? ⟨g, j, none⟩ = w.cell? ⟨g, j, none⟩)
    (hw : v'.ownBlock = v.ownBlock ∨ ∃ g, v'.ownBlock = some g ∧ w.heap.size ≤ g) : GrewS D e s w0 w' u n v' m' ys' := by
  have hs := h.grown.size
  have other : ∀ k, k < w0.heap.size → u.ownBlock ≠ some k → v.ownBlock ≠ some k := by
    intro k hk' hne he
    rcases h.where_ with e1 | ⟨g, e1, e2⟩
    · exact hne (e1 ▸ he)
    · rw [e1] at he
      simp at he
      omega
  refine ⟨ho, Nat.le_trans h.le hm, ⟨hg.os.trans h.grown.os, hg.tape.trans h.grown.tape, hg.output.trans h.grown.output, Nat.le_trans hs hg.size, fun k hk' hne => ?_⟩, fun g hgu j hj => ?_, ?_⟩
  · have h1 := other k hk' (fun h => hne h.symm)
    rw [hg.block k (by omega) (fun h => h1 h.symm)]
    exact h.grown.block k hk' hne
  · rw [← h.kept g hgu j hj]
    have hle := Nat.mul_le_mul_right s h.le
    by_cases hv : v.ownBlock = some g
    · exact hk g hv j (by omega)
    · have hlt := (h0.lt g hgu).2
      unfold World.cell?
      rw [hg.block g (by omega) (fun h => hv h.symm)]
  · rcases hw with e1 | ⟨g, e1, e2⟩
    · rw [e1]
      exact h.where_
    · exact .inr ⟨g, e1, by omega⟩

theorem Bag.regrownS {D : Nat} {w w' : World} {rs qs : List Row1} {e : TypeId} {s : Nat} {v v' : Value} {n m : Nat} {xs ys : List Value} (h : Bag D w (⟨e, s, v, n, xs⟩ :: rs) qs) (g : GrewS D e s w w' v n v' m ys) : Bag D w' rs (⟨e, s, v, n, xs⟩ :: ⟨e, s, v', m, ys⟩ :: qs) := by
  obtain ⟨h1, h2⟩ := List.pairwise_cons.1 h.apart
  have k1 : Bag D w' (⟨e, s, v', m, ys⟩ :: rs) qs := h.grow g.grown g.own g.where_
  have k2 := k1.aside
  have o : w.ownsRow D e s v n xs := h.own _ (List.mem_cons_self ..)
  refine ⟨k2.own, k2.apart, fun q hq => ?_, fun q hq x hx => ?_⟩
  · rcases List.mem_cons.1 hq with rfl | hq
    · refine ⟨?_, fun b hb => Nat.lt_of_lt_of_le (o.lt b hb).2 g.grown.size⟩
      have c := own_row o
      obtain ⟨a, cc, rfl, c⟩ := c
      refine ⟨a, cc, rfl, ?_⟩
      rcases c with c | ⟨b, off, rfl, hl, hc⟩
      · exact .inl c
      · have hb : off = 0 := by
          rcases o.2 with ⟨h, _⟩ | ⟨b', cap, cur, h, _⟩
          · simp at h
          · simp only [Value.slice.injEq, Option.some.injEq, Addr.mk.injEq] at h
            exact h.1.2.1
        subst hb
        refine .inr ⟨b, 0, rfl, Nat.lt_of_lt_of_le hl g.grown.size, fun j u hj => ?_⟩
        have hlt : j < n * s := by
          have a1 : j < xs.length := (List.getElem?_eq_some_iff.1 hj).1
          have a2 : xs.length = n * s := o.1
          omega
        rw [Nat.zero_add, g.kept b rfl j hlt]
        have := hc j u hj
        rwa [Nat.zero_add] at this
    · exact k2.seen q hq
  · rcases List.mem_cons.1 hq with rfl | hq
    · exact h1 x hx
    · exact k2.off q hq x hx

end Go.Proofs.Ytcjfejhfafiaiaa
