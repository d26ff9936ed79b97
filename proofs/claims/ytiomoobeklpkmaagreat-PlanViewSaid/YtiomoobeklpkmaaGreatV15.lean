/-
 A bundle of texts: BG BKN BKP KS BKR.
-/
import Derived.Deep.RegionHeld3
import Derived.Test.YtiomoobeklpkmaaGreatV13
import Derived.Test.YtiomoobeklpkmaaGreatV11
import Derived.Test.YtiomoobeklpkmaaGreatV04
namespace Go.Proofs.YtiomoobeklpkmaaGreat
open Go.RowKit Go.Lib

/-- A row: its elements' type, the cells of one, the slice, how many there are, the cells. -/
structure Row1 where
 e : TypeId
 s : Nat
 v : Value
 n : Nat
 xs : List Value

/-- Two slices that lie in no common block. -/
def Apart (a b : Value) : Prop := ∀ g, a.ownBlock = some g → b.ownBlock ≠ some g

theorem Apart.symm {a b : Value} (h : Apart a b) : Apart b a := fun g h1 h2 => h g h2 h1

theorem Apart.ne {a b : Value} (h : Apart a b) : a.ownBlock = none ∨ a.ownBlock ≠ b.ownBlock := by
 cases ha : a.ownBlock with
 | none => exact .inl rfl
 | some g => exact .inr fun hb => h g ha hb.symm

theorem CellRow.grown {w w' : World} {row : Option Nat} {v : Value} {n : Nat} {xs : List Value} (h : CellRow w v n xs) (hg : w.grownBy w' row) (hne : v.ownBlock = none ∨ v.ownBlock ≠ row) : CellRow w' v n xs := by
 obtain ⟨a, c, rfl, h⟩ := h
 refine ⟨a, c, rfl, ?_⟩
 rcases h with h | ⟨b, o, rfl, hl, hc⟩
 ·exact .inl h
 ·refine .inr ⟨b, o, rfl, Nat.lt_of_lt_of_le hl hg.size, fun j u hj => ?_⟩
  rw [World.cell?_of_block (hg.block b hl (by simpa [Value.ownBlock] using hne))]
  exact hc j u hj

theorem own_mono {w : World} {B D : Nat} {e : TypeId} {s : Nat} {v : Value} {n : Nat} {xs : List Value} (h : w.ownsRow B e s v n xs) (hD : D ≤ B) : w.ownsRow D e s v n xs := by
 refine ⟨h.1, ?_⟩
 rcases h.2 with hn | ⟨g, cap, cur, hv, hb, rest⟩
 ·exact .inl hn
 ·exact .inr ⟨g, cap, cur, hv, Nat.le_trans hD hb, rest⟩

/-- An own row's cells, whatever their number for each element. -/
theorem own_row {w : World} {B : Nat} {e : TypeId} {s : Nat} {v : Value} {n : Nat} {xs : List Value} (h : w.ownsRow B e s v n xs) : CellRow w v n xs := by
 obtain ⟨hl, h⟩ := h
 rcases h with ⟨rfl, rfl⟩ | ⟨g, cap, cur, rfl, hB, hrow, hcap, hmax, hcs, htk⟩
 ·exact ⟨none, 0, rfl, .inl (by simpa using hl)⟩
 ·refine ⟨_, _, rfl, .inr ⟨g, 0, rfl, (Array.getElem?_eq_some_iff.1 hrow).1, fun j u hj => ?_⟩⟩
  rw [Nat.zero_add, cell_of_row w g j _ _ _ hrow]
  rw [← htk, List.getElem?_take] at hj
  split at hj
  ·simpa using hj
  ·cases hj

variable {D : Nat} {w w' : World} {rs qs : List Row1}

end Go.Proofs.YtiomoobeklpkmaaGreat

namespace Go.Proofs.YtiomoobeklpkmaaGreat
open Go.RowKit Go.Lib

theorem one_cell (w : World) (x : Value) (t : TypeId) : Cells (w.alloc (.cells #[x] t)) w.heap.size 0 [x] := by
 intro j u hj
 match j, hj with
 | 0, hj =>
  simp at hj
  subst hj
  rw [World.cell?_alloc_new]
  rfl
 | j + 1, hj => simp at hj

theorem own_one {w : World} {B : Nat} {e : TypeId} {s : Nat} {v : Value} {n : Nat} {xs : List Value} (h : w.ownsRow B e s v n xs) : ∃ a c, v = .slice a n c ∧ v.oneCell' = true := by
 rcases h.2 with ⟨rfl, rfl⟩ | ⟨g, cap, cur, rfl, _⟩
 ·exact ⟨_, _, rfl, rfl⟩
 ·exact ⟨_, _, rfl, rfl⟩

end Go.Proofs.YtiomoobeklpkmaaGreat

namespace Go.Proofs.YtiomoobeklpkmaaGreat
open Go.RowKit Go.Lib

/-- The first k of M, and what is behind the first k of xs. -/
def part (M xs : List Value) (k : Nat) : List Value := M.take k ++ xs.drop k

end Go.Proofs.YtiomoobeklpkmaaGreat

namespace Go.Proofs.YtiomoobeklpkmaaGreat
open Go.RowKit Go.Lib

section
variable {α : Type} {enc : α → List Value} {s : Nat}

/-- The first k of M, and what is behind the first k of xs. -/
def parts (M xs : List α) (k : Nat) : List α := M.take k ++ xs.drop k

/-- Cells written one behind the other. -/
def setMany : List Value → Nat → List Value → List Value
 | xs, _, [] => xs
 | xs, o, y :: ys => setMany (xs.set o y) (o + 1) ys

theorem setMany_eq (ys xs : List Value) (o : Nat) (h : o + ys.length ≤ xs.length) : setMany xs o ys = xs.take o ++ ys ++ xs.drop (o + ys.length) := by
 induction ys generalizing xs o with
 | nil => simp [setMany]
 | cons y ys ih =>
  simp only [List.length_cons] at h
  rw [setMany, ih _ _ (by rw [List.length_set]; omega)]
  have e1 : (xs.set o y).take (o + 1) = xs.take o ++ [y] := by
   rw [List.take_succ_eq_append_getElem (by rw [List.length_set]; omega), List.take_set, List.set_eq_of_length_le (by rw [List.length_take]; omega)]
   simp
  have e2 : (xs.set o y).drop (o + 1 + ys.length) = xs.drop (o + (ys.length + 1)) := by
   rw [List.drop_set_of_lt (by omega)]
   congr 1
   omega
  rw [e1, e2]
  simp

theorem flat_take (h : ∀ x, (enc x).length = s) (l : List α) (k : Nat) : (flat enc l).take (k * s) = flat enc (l.take k) := by
 by_cases hk : k ≤ l.length
 ·have e : flat enc l = flat enc (l.take k) ++ flat enc (l.drop k) := by rw [← flat_append, List.take_append_drop]
  have hl : (flat enc (l.take k)).length = k * s := by rw [flat_length h, List.length_take]; congr 1; omega
  rw [e, ← hl, List.take_left]
 ·have e1 : l.take k = l := List.take_of_length_le (by omega)
  have := Nat.mul_le_mul_right s (show l.length ≤ k by omega)
  rw [e1, List.take_of_length_le (by rw [flat_length h]; exact this)]

theorem flat_drop (h : ∀ x, (enc x).length = s) (l : List α) (k : Nat) : (flat enc l).drop (k * s) = flat enc (l.drop k) := by
 by_cases hk : k ≤ l.length
 ·have e : flat enc l = flat enc (l.take k) ++ flat enc (l.drop k) := by rw [← flat_append, List.take_append_drop]
  have hl : (flat enc (l.take k)).length = k * s := by rw [flat_length h, List.length_take]; congr 1; omega
  rw [e, ← hl, List.drop_left]
 ·have e1 : l.drop k = [] := List.drop_of_length_le (by omega)
  have := Nat.mul_le_mul_right s (show l.length ≤ k by omega)
  rw [e1, List.drop_of_length_le (by rw [flat_length h]; exact this)]
  rfl

end

/-- Cells of a block written one behind the other. -/
def setCells (w : World) (g : Nat) : Nat → List Value → World
 | _, [] => w
 | o, y :: ys => setCells (w.setCell ⟨g, o, none⟩ y) g (o + 1) ys

theorem setCells_own {D : Nat} {e : TypeId} {s n cap g : Nat} (ys : List Value) {w : World} {xs : List Value} (o : Nat) (h : w.ownsRow D e s (.slice (some ⟨g, 0, none⟩) n cap) n xs) :
  (setCells w g o ys).ownsRow D e s (.slice (some ⟨g, 0, none⟩) n cap) n (setMany xs o ys) ∧ w.grownBy (setCells w g o ys) (some g) := by
 induction ys generalizing w xs o with
 | nil => exact ⟨h, grownBy_refl _ _⟩
 | cons y ys ih =>
  obtain ⟨h1, h2⟩ := h.stored o y
  obtain ⟨h3, h4⟩ := ih (o + 1) h1
  exact ⟨h3, grownBy_trans h2 h4⟩

/-- A row's cells that are laid anew. -/
theorem new_cells (w : World) (cs : Array Value) (t : TypeId) : Cells (w.alloc (.cells cs t)) w.heap.size 0 cs.toList := by
 intro j u hj
 rw [Nat.zero_add, World.cell?_alloc_new]
 simpa using hj

end Go.Proofs.YtiomoobeklpkmaaGreat

namespace Go.Proofs.YtiomoobeklpkmaaGreat
open Go.RowKit Go.Lib

section
variable {P : Program}

/-- 'append(r, x...)', r one's own row (or nil), x any slice: what r held stays where it was. -/
theorem step_append_any {ops : Array Oper} {o : Oper} {a : Act} {w : World} {K : Act → World → Prop} {Q : Exit → Act → World → Prop} {E : Prop} (hgd : o.guard = none) (s x : Operand) (t : TypeId)
  (ho : o.op = .call { callee := .builtin .append, args := #[s, x], argTypes := #[t, t] })
  (base : Nat) (e : TypeId) (i : TypeInfo) (z : Value) (size bytes : Nat) (ht : P.underlying t = some (.slice e)) (hi : P.info? e = some i) (hz : i.zero = some z)
  (hsize : i.size = size) (hby : i.bytes = bytes) (hzs : z.cells.size = size) (hsz : 0 < size)
  (v : Value) (n : Nat) (xs : List Value) (hs : a.eval s = v) (hown : w.ownsRow base e size v n xs)
  (u : Value) (m : Nat) (news : List Value) (hx : a.eval x = u) (hrow : CellRow w u m news) (hl : news.length = m * size) (h1 : ∀ u ∈ news, u.oneCell' = true)
  (h63 : n + m ≤ maxLen) (hbytes : (n + m) * bytes ≤ 140737488355328) (hbase : base ≤ w.heap.size)
  (h : ∀ v' w', w'.ownsRow base e size v' (n + m) (xs ++ news) → w.grownBy w' v.ownBlock → (v'.ownBlock = v.ownBlock ∨ ∃ g, v'.ownBlock = some g ∧ w.heap.size ≤ g) → K (a.put o.dst v') w') :
  if Region.wanted o (yielded ops a.tmps) = true then Oper.wp P o a w K Q else E := by
 obtain ⟨sa, c, rfl, hc⟩ := hrow
 by_cases hm : m = 0
 ·subst hm
  have hn : news = [] := List.eq_nil_of_length_eq_zero (by simpa using hl)
  subst hn
  cases sa with
  | none =>
   have hw : Region.wanted o (yielded ops a.tmps) = true := by simp [Region.wanted, hgd]
   rw [if_pos hw]
   have hr := run_append_none (P := P) w base t o.type e i size c ht hi v n xs hown
   unfold Oper.wp
   simp [execOp, ho, resolve, invoke, builtin, hs, hx, hr, Result.andThen]
   exact h v w (by simpa using hown) (grownBy_refl _ _) (.inl rfl)
  | some ad =>
   obtain ⟨b, off, f⟩ := ad
   have hw : Region.wanted o (yielded ops a.tmps) = true := by simp [Region.wanted, hgd]
   rw [if_pos hw]
   obtain ⟨v', w', hr, h2, h3, h4, h5⟩ := run_append_keep (P := P) w base t o.type e i z size bytes ht hi hz hsize hby hzs hsz v n xs hown ⟨b, off, f⟩ 0 c [] (by simp) (fun j u hj => by simp at hj) (fun u hu => absurd hu List.not_mem_nil) h63 hbytes hbase
   unfold Oper.wp
   simp [execOp, ho, resolve, invoke, builtin, hs, hx, hr, Result.andThen]
   exact h v' w' h2 h3 h5
 ·obtain ⟨b, oo, rfl, _, hcs⟩ := hc.resolve_left (by intro hn; rw [hn] at hl; simp at hl; have := Nat.mul_pos (Nat.pos_of_ne_zero hm) hsz; omega)
  exact step_append_keep hgd s x t ho base e i z size bytes ht hi hz hsize hby hzs hsz v n xs hs hown b oo m c news hx hcs hl h1 h63 hbytes hbase (fun v' w' h2 h3 _ h5 => h v' w' h2 h3 h5)
end

/-- The first k of a row, and those behind. -/
theorem CellRow.take {w : World} {a : Option Addr} {n c c' : Nat} {xs : List Value} (h : CellRow w (.slice a n c) n xs) (k : Nat) : CellRow w (.slice a k c') k (xs.take k) := by
 obtain ⟨a', c1, hv, h⟩ := h
 simp only [Value.slice.injEq] at hv
 obtain ⟨rfl, _, rfl⟩ := hv
 refine ⟨_, _, rfl, ?_⟩
 rcases h with h | ⟨b, o, ha, hl, hc⟩
 ·exact .inl (by rw [h]; simp)
 ·refine .inr ⟨b, o, ha, hl, fun j u hj => hc j u ?_⟩
  rw [List.getElem?_take] at hj
  split at hj
  ·exact hj
  ·cases hj

theorem CellRow.drop {w : World} {b o n c c' : Nat} {xs : List Value} (h : CellRow w (.slice (some ⟨b, o, none⟩) n c) n xs) (k : Nat) : CellRow w (.slice (some ⟨b, o + k, none⟩) (n - k) c') (n - k) (xs.drop k) := by
 obtain ⟨a', c1, hv, h⟩ := h
 simp only [Value.slice.injEq] at hv
 obtain ⟨rfl, _, rfl⟩ := hv
 refine ⟨_, _, rfl, ?_⟩
 rcases h with h | ⟨b', o', ha, hl, hc⟩
 ·exact .inl (by rw [h]; simp)
 ·simp only [Option.some.injEq, Addr.mk.injEq, and_true] at ha
  obtain ⟨rfl, rfl⟩ := ha
  refine .inr ⟨_, _, rfl, hl, fun j u hj => ?_⟩
  rw [List.getElem?_drop] at hj
  have := hc (k + j) u hj
  rwa [← Nat.add_assoc] at this

end Go.Proofs.YtiomoobeklpkmaaGreat
