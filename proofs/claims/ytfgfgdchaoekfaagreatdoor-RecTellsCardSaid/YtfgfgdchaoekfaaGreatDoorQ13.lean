/-
  A bundle of texts: BG BKN KH KS.
-/
import Derived.Deep.RegionHeld3
import Derived.Test.YtfgfgdchaoekfaaGreatDoorQ12
import Derived.Test.YtfgfgdchaoekfaaGreatDoorQ09
import Derived.Test.YtfgfgdchaoekfaaGreatDoorQ02
namespace Go.Proofs.YtfgfgdchaoekfaaGreatDoor
open Go.RowKit Go.Lib

/-- A row: its elements' type, the cells of one, the slice, how many there are, the cells. -/
structure Row1 where
  e : TypeId
  s : Nat
  v : Value
  n : Nat
  xs : List Value

/-- Two slices that lie in no common block. -/
def Apart (a b : Value) : Prop := ∀ g, a.ownBlock = some g → b.ownBlock ≠ some g

theorem Apart.symm {a b : Value} (h : Apart a b) : Apart b a := fun g h1 h2 => h g h2 h1

theorem Apart.ne {a b : Value} (h : Apart a b) : a.ownBlock = none ∨ a.ownBlock ≠ b.ownBlock := by
  cases ha : a.ownBlock with
  | none => exact .inl rfl
  | some g => exact .inr fun hb => h g ha hb.symm

theorem Apart.moved {a b b' : Value} {n : Nat} (h : Apart a b) (ha : ∀ g, a.ownBlock = some g → g < n) (hb : b'.ownBlock = b.ownBlock ∨ ∃ g, b'.ownBlock = some g ∧ n ≤ g) : Apart a b' := by
  intro g hg he
  rcases hb with e1 | ⟨k, e1, e2⟩
  · exact h g hg (e1 ▸ he)
  · have := ha g hg
    rw [e1] at he
    simp at he
    omega

/-- Rows rs above D, each one's own, which lie apart; and rows qs that are only looked at, in no block of those. -/
structure Bag (D : Nat) (w : World) (rs qs : List Row1) : Prop where
  own : ∀ r ∈ rs, w.ownsRow D r.e r.s r.v r.n r.xs
  apart : rs.Pairwise fun a b => Apart a.v b.v
  seen : ∀ q ∈ qs, CellRow w q.v q.n q.xs ∧ ∀ g, q.v.ownBlock = some g → g < w.heap.size
  off : ∀ q ∈ qs, ∀ r ∈ rs, Apart q.v r.v

theorem CellRow.grown {w w' : World} {row : Option Nat} {v : Value} {n : Nat} {xs : List Value} (h : CellRow w v n xs) (hg : w.grownBy w' row) (hne : v.ownBlock = none ∨ v.ownBlock ≠ row) : CellRow w' v n xs := by
  obtain ⟨a, c, rfl, h⟩ := h
  refine ⟨a, c, rfl, ?_⟩
  rcases h with h | ⟨b, o, rfl, hl, hc⟩
  · exact .inl h
  · refine .inr ⟨b, o, rfl, Nat.lt_of_lt_of_le hl hg.size, fun j u hj => ?_⟩
    rw [World.cell?_of_block (hg.block b hl (by simpa [Value.ownBlock] using hne))]
    exact hc j u hj

theorem own_mono {w : World} {B D : Nat} {e : TypeId} {s : Nat} {v : Value} {n : Nat} {xs : List Value} (h : w.ownsRow B e s v n xs) (hD : D ≤ B) : w.ownsRow D e s v n xs := by
  refine ⟨h.1, ?_⟩
  rcases h.2 with hn | ⟨g, cap, cur, hv, hb, rest⟩
  · exact .inl hn
  · exact .inr ⟨g, cap, cur, hv, Nat.le_trans hD hb, rest⟩

/-- An own row's cells, whatever their number for each element. -/
theorem own_row {w : World} {B : Nat} {e : TypeId} {s : Nat} {v : Value} {n : Nat} {xs : List Value} (h : w.ownsRow B e s v n xs) : CellRow w v n xs := by
  obtain ⟨hl, h⟩ := h
  rcases h with ⟨rfl, rfl⟩ | ⟨g, cap, cur, rfl, hB, hrow, hcap, hmax, hcs, htk⟩
  · exact ⟨none, 0, rfl, .inl (by simpa using hl)⟩
  · refine ⟨_, _, rfl, .inr ⟨g, 0, rfl, (Array.getElem?_eq_some_iff.1 hrow).1, fun j u hj => ?_⟩⟩
    rw [Nat.zero_add, cell_of_row w g j _ _ _ hrow]
    rw [← htk, List.getElem?_take] at hj
    split at hj
    · simpa using hj
    · cases hj

variable {D : Nat} {w w' : World} {rs qs : List Row1}

theorem Bag.nil (D : Nat) (w : World) : Bag D w [] [] := ⟨fun _ h => absurd h List.not_mem_nil, List.Pairwise.nil, fun _ h => absurd h List.not_mem_nil, fun _ h => absurd h List.not_mem_nil⟩

/-- All that lay is as it was. -/
theorem Bag.below (h : Bag D w rs qs) (hb : Below w.heap.size w w') : Bag D w' rs qs :=
  ⟨fun r hr => (h.own r hr).kept (grown_of_below hb) (by cases r.v.ownBlock <;> simp), h.apart, fun q hq => ⟨(h.seen q hq).1.kept hb, fun g hg => Nat.lt_of_lt_of_le ((h.seen q hq).2 g hg) hb.size⟩, h.off⟩

/-- A block below D is written to. -/
theorem Bag.stored {p : Nat} (h : Bag D w rs []) (hg : w.grownBy w' (some p)) (hp : p < D) : Bag D w' rs [] := by
  refine ⟨fun r hr => (h.own r hr).kept hg ?_, h.apart, fun _ h => absurd h List.not_mem_nil, fun _ h => absurd h List.not_mem_nil⟩
  cases hv : r.v.ownBlock with
  | none => exact .inl rfl
  | some g =>
    refine .inr fun he => ?_
    have := ((h.own r hr).lt g hv).1
    simp at he
    omega

theorem Bag.perm {rs' : List Row1} (h : Bag D w rs qs) (hp : rs.Perm rs') : Bag D w rs' qs :=
  ⟨fun r hr => h.own r (hp.mem_iff.2 hr), (hp.pairwise_iff (fun h => Apart.symm h)).1 h.apart, h.seen, fun q hq r hr => h.off q hq r (hp.mem_iff.2 hr)⟩

/-- A new row. -/
theorem Bag.new {e : TypeId} {s : Nat} {v : Value} {n : Nat} {xs : List Value} (h : Bag D w rs qs) (hb : Below w.heap.size w w') (ho : w'.ownsRow w.heap.size e s v n xs) (hD : D ≤ w.heap.size) :
    Bag D w' (⟨e, s, v, n, xs⟩ :: rs) qs := by
  have k := h.below hb
  refine ⟨fun r hr => ?_, List.pairwise_cons.2 ⟨fun r hr g hg hg' => ?_, k.apart⟩, k.seen, fun q hq' r hr => ?_⟩
  · rcases List.mem_cons.1 hr with rfl | hr
    · exact own_mono ho hD
    · exact k.own r hr
  · have h1 := (ho.lt g hg).1
    have h2 := ((h.own r hr).lt g hg').2
    omega
  · rcases List.mem_cons.1 hr with rfl | hr
    · intro g hg hg'
      have h1 := (ho.lt g hg').1
      have h2 := (h.seen q hq').2 g hg
      omega
    · exact k.off q hq' r hr

/-- The first row has grown, or was written to. -/
theorem Bag.grow {r : Row1} {v' : Value} {n' : Nat} {xs' : List Value} (h : Bag D w (r :: rs) qs) (hg : w.grownBy w' r.v.ownBlock) (ho : w'.ownsRow D r.e r.s v' n' xs')
    (hw : v'.ownBlock = r.v.ownBlock ∨ ∃ g, v'.ownBlock = some g ∧ w.heap.size ≤ g) : Bag D w' (⟨r.e, r.s, v', n', xs'⟩ :: rs) qs := by
  obtain ⟨h1, h2⟩ := List.pairwise_cons.1 h.apart
  refine ⟨fun x hx => ?_, List.pairwise_cons.2 ⟨fun x hx => ?_, h2⟩, fun q hq' => ?_, fun q hq' x hx => ?_⟩
  · rcases List.mem_cons.1 hx with rfl | hx
    · exact ho
    · exact (h.own x (List.mem_cons_of_mem _ hx)).kept hg (h1 x hx).symm.ne
  · refine ((h1 x hx).symm.moved (fun g hg => ((h.own x (List.mem_cons_of_mem _ hx)).lt g hg).2) hw).symm
  · exact ⟨(h.seen q hq').1.grown hg (h.off q hq' r (List.mem_cons_self ..)).ne, fun g hg' => Nat.lt_of_lt_of_le ((h.seen q hq').2 g hg') hg.size⟩
  · rcases List.mem_cons.1 hx with rfl | hx
    · exact (h.off q hq' r (List.mem_cons_self ..)).moved (h.seen q hq').2 hw
    · exact h.off q hq' x (List.mem_cons_of_mem _ hx)

/-- The first row is put aside: it is only looked at from now on. -/
theorem Bag.aside {r : Row1} (h : Bag D w (r :: rs) qs) : Bag D w rs (r :: qs) := by
  obtain ⟨h1, h2⟩ := List.pairwise_cons.1 h.apart
  refine ⟨fun x hx => h.own x (List.mem_cons_of_mem _ hx), h2, fun q hq => ?_, fun q hq x hx => ?_⟩
  · rcases List.mem_cons.1 hq with rfl | hq
    · exact ⟨own_row (h.own _ (List.mem_cons_self ..)), fun g hg => ((h.own _ (List.mem_cons_self ..)).lt g hg).2⟩
    · exact h.seen q hq
  · rcases List.mem_cons.1 hq with rfl | hq
    · exact h1 x hx
    · exact h.off q hq x (List.mem_cons_of_mem _ hx)

/-- Rows are forgotten. -/
theorem Bag.sublist {rs' : List Row1} (h : Bag D w rs qs) (s : rs'.Sublist rs) : Bag D w rs' qs :=
  ⟨fun r hr => h.own r (s.subset hr), h.apart.sublist s, h.seen, fun q hq r hr => h.off q hq r (s.subset hr)⟩

/-- A row is forgotten. -/
theorem Bag.drop {r : Row1} (h : Bag D w (r :: rs) qs) : Bag D w rs qs :=
  ⟨fun x hx => h.own x (List.mem_cons_of_mem _ hx), (List.pairwise_cons.1 h.apart).2, h.seen, fun q hq x hx => h.off q hq x (List.mem_cons_of_mem _ hx)⟩

theorem split_at {A : List Row1} {j : Nat} {r : Row1} (h : A[j]? = some r) : A = A.take j ++ r :: A.drop (j + 1) := by
  obtain ⟨hj, rfl⟩ := List.getElem?_eq_some_iff.1 h
  rw [List.getElem_cons_drop, List.take_append_drop]

/-- The j-th row of A comes to the front. -/
theorem Bag.front {a r : Row1} {A : List Row1} {j : Nat} (h : Bag D w (a :: (A ++ rs)) qs) (hj : A[j]? = some r) : Bag D w (r :: a :: (A.take j ++ A.drop (j + 1) ++ rs)) qs := by
  have e := split_at hj
  refine h.perm ?_
  have p1 : (A ++ rs).Perm (r :: (A.take j ++ A.drop (j + 1) ++ rs)) := by
    have : A ++ rs = A.take j ++ r :: (A.drop (j + 1) ++ rs) := by
      conv => lhs; rw [e]
      simp
    rw [this, List.append_assoc]
    exact List.perm_middle
  exact (p1.cons a).trans (List.Perm.swap _ _ _)

/-- And back. -/
theorem Bag.back {a r : Row1} {A : List Row1} {j : Nat} (h : Bag D w (r :: a :: (A.take j ++ A.drop (j + 1) ++ rs)) qs) (hj : j < A.length) : Bag D w (a :: (A.set j r ++ rs)) qs := by
  refine h.perm ((List.Perm.swap _ _ _).trans (List.Perm.cons a ?_))
  have : A.set j r ++ rs = A.take j ++ r :: (A.drop (j + 1) ++ rs) := by
    rw [List.set_eq_take_append_cons_drop, if_pos hj]
    simp
  rw [this, List.append_assoc]
  exact List.perm_middle.symm

end Go.Proofs.YtfgfgdchaoekfaaGreatDoor

namespace Go.Proofs.YtfgfgdchaoekfaaGreatDoor
open Go.RowKit Go.Lib

theorem one_cell (w : World) (x : Value) (t : TypeId) : Cells (w.alloc (.cells #[x] t)) w.heap.size 0 [x] := by
  intro j u hj
  match j, hj with
  | 0, hj =>
    simp at hj
    subst hj
    rw [World.cell?_alloc_new]
    rfl
  | j + 1, hj => simp at hj

theorem own_one {w : World} {B : Nat} {e : TypeId} {s : Nat} {v : Value} {n : Nat} {xs : List Value} (h : w.ownsRow B e s v n xs) : ∃ a c, v = .slice a n c ∧ v.oneCell' = true := by
  rcases h.2 with ⟨rfl, rfl⟩ | ⟨g, cap, cur, rfl, _⟩
  · exact ⟨_, _, rfl, rfl⟩
  · exact ⟨_, _, rfl, rfl⟩

theorem block_kept {w w' : World} {p D : Nat} {row : Option Nat} {o : Obj} (h : w.heap[p]? = some o) (hp : p < D) (hg : w.grownBy w' row) (hr : ∀ g, row = some g → D ≤ g) : w'.heap[p]? = some o := by
  rw [hg.block p (Array.getElem?_eq_some_iff.1 h).1 ?_]
  · exact h
  · intro he
    have := hr p he.symm
    omega

theorem grown_alloc {w w' : World} {row : Option Nat} {o : Obj} (h : (w.alloc o).grownBy w' row) : w.grownBy w' row := by
  have h1 : w.grownBy (w.alloc o) row := World.grownBy_alloc w o row
  exact grownBy_trans h1 h

end Go.Proofs.YtfgfgdchaoekfaaGreatDoor

namespace Go.Proofs.YtfgfgdchaoekfaaGreatDoor
open Go.RowKit Go.Lib

/-- The Book lies at p, rows of one's own above D, all that is below p as it was. -/
structure Here (p D : Nat) (cs : Array Value) (T : TypeId) (w0 w : World) (rs qs : List Row1) : Prop where
  hp : p < D
  hD : D ≤ w.heap.size
  blk : w.heap[p]? = some (.cells cs T (0, 0))
  fr : Below p w0 w
  bag : Bag D w rs qs

theorem Here.next {p D : Nat} {cs : Array Value} {T : TypeId} {w0 w w' : World} {rs qs : List Row1} (h : Here p D cs T w0 w rs qs) (b : Below w.heap.size w w') : Here p D cs T w0 w' rs qs := by
  have h1 := h.hp
  have h2 := h.hD
  exact ⟨h1, Nat.le_trans h2 b.size, block_kept h.blk h1 (grown_of_below b) (fun g hg => by cases hg), h.fr.trans (b.mono (by omega)), h.bag.below b⟩

theorem Here.drewN {p D : Nat} {cs : Array Value} {T : TypeId} {w0 w : World} {rs qs : List Row1} (h : Here p D cs T w0 w rs qs) (q : Nat) : Here p D cs T w0 (w.drewN q) rs qs := h.next (below_drewN (Below.refl _ _) q)

theorem Here.cell {p D : Nat} {cs : Array Value} {T : TypeId} {w0 w : World} {rs qs : List Row1} (h : Here p D cs T w0 w rs qs) (i : Nat) (v : Value) (hv : cs[i]? = some v) : w.cell? ⟨p, i, none⟩ = some v := by
  rw [cell_of_row w p i _ _ _ h.blk]
  exact hv

theorem Here.more {p D : Nat} {cs : Array Value} {T : TypeId} {w0 w w' : World} {rs qs : List Row1} {e : TypeId} {s : Nat} {v : Value} {n : Nat} {xs : List Value} (h : Here p D cs T w0 w rs qs) (b : Below w.heap.size w w') (o : w'.ownsRow w.heap.size e s v n xs) : Here p D cs T w0 w' (⟨e, s, v, n, xs⟩ :: rs) qs := by
  have k := h.next b
  exact ⟨k.hp, k.hD, k.blk, k.fr, h.bag.new b o h.hD⟩

theorem Here.perm {p D : Nat} {cs : Array Value} {T : TypeId} {w0 w : World} {rs rs' qs : List Row1} (h : Here p D cs T w0 w rs qs) (k : rs.Perm rs') : Here p D cs T w0 w rs' qs := ⟨h.hp, h.hD, h.blk, h.fr, h.bag.perm k⟩

theorem Here.sublist {p D : Nat} {cs : Array Value} {T : TypeId} {w0 w : World} {rs rs' qs : List Row1} (h : Here p D cs T w0 w rs qs) (k : rs'.Sublist rs) : Here p D cs T w0 w rs' qs := ⟨h.hp, h.hD, h.blk, h.fr, h.bag.sublist k⟩

theorem Here.at {p D : Nat} {cs : Array Value} {T : TypeId} {w0 w : World} {rs qs : List Row1} (h : Here p D cs T w0 w rs qs) (r : Row1) (hr : r ∈ rs) : CellRow w r.v r.n r.xs := own_row (h.bag.own r hr)

end Go.Proofs.YtfgfgdchaoekfaaGreatDoor

namespace Go.Proofs.YtfgfgdchaoekfaaGreatDoor
open Go.RowKit Go.Lib

section
variable {α : Type} {enc : α → List Value} {s : Nat}

/-- The first k of M, and what is behind the first k of xs. -/
def parts (M xs : List α) (k : Nat) : List α := M.take k ++ xs.drop k

theorem parts_zero (M xs : List α) : parts M xs 0 = xs := by simp [parts]

theorem parts_all (M xs : List α) (h : M.length = xs.length) : parts M xs xs.length = M := by
  unfold parts
  rw [← h, List.take_length, h, List.drop_length, List.append_nil]

theorem parts_length (M xs : List α) (k : Nat) (h : M.length = xs.length) : (parts M xs k).length = xs.length := by
  unfold parts
  rw [List.length_append, List.length_take, List.length_drop]
  omega

/-- Cells written one behind the other. -/
def setMany : List Value → Nat → List Value → List Value
  | xs, _, [] => xs
  | xs, o, y :: ys => setMany (xs.set o y) (o + 1) ys

theorem setMany_eq (ys xs : List Value) (o : Nat) (h : o + ys.length ≤ xs.length) : setMany xs o ys = xs.take o ++ ys ++ xs.drop (o + ys.length) := by
  induction ys generalizing xs o with
  | nil => simp [setMany]
  | cons y ys ih =>
    simp only [List.length_cons] at h
    rw [setMany, ih _ _ (by rw [List.length_set]; omega)]
    have e1 : (xs.set o y).take (o + 1) = xs.take o ++ [y] := by
      rw [List.take_succ_eq_append_getElem (by rw [List.length_set]; omega), List.take_set, List.set_eq_of_length_le (by rw [List.length_take]; omega)]
      simp
    have e2 : (xs.set o y).drop (o + 1 + ys.length) = xs.drop (o + (ys.length + 1)) := by
      rw [List.drop_set_of_lt (by omega)]
      congr 1
      omega
    rw [e1, e2]
    simp

theorem flat_take (h : ∀ x, (enc x).length = s) (l : List α) (k : Nat) : (flat enc l).take (k * s) = flat enc (l.take k) := by
  by_cases hk : k ≤ l.length
  · have e : flat enc l = flat enc (l.take k) ++ flat enc (l.drop k) := by rw [← flat_append, List.take_append_drop]
    have hl : (flat enc (l.take k)).length = k * s := by rw [flat_length h, List.length_take]; congr 1; omega
    rw [e, ← hl, List.take_left]
  · have e1 : l.take k = l := List.take_of_length_le (by omega)
    have := Nat.mul_le_mul_right s (show l.length ≤ k by omega)
    rw [e1, List.take_of_length_le (by rw [flat_length h]; exact this)]

theorem flat_drop (h : ∀ x, (enc x).length = s) (l : List α) (k : Nat) : (flat enc l).drop (k * s) = flat enc (l.drop k) := by
  by_cases hk : k ≤ l.length
  · have e : flat enc l = flat enc (l.take k) ++ flat enc (l.drop k) := by rw [← flat_append, List.take_append_drop]
    have hl : (flat enc (l.take k)).length = k * s := by rw [flat_length h, List.length_take]; congr 1; omega
    rw [e, ← hl, List.drop_left]
  · have e1 : l.drop k = [] := List.drop_of_length_le (by omega)
    have := Nat.mul_le_mul_right s (show l.length ≤ k by omega)
    rw [e1, List.drop_of_length_le (by rw [flat_length h]; exact this)]
    rfl

/-- One element written. -/
theorem parts_set (h : ∀ x, (enc x).length = s) (M xs : List α) (k : Nat) (m : α) (hm : M[k]? = some m) (hl : M.length = xs.length) : setMany (flat enc (parts M xs k)) (k * s) (enc m) = flat enc (parts M xs (k + 1)) := by
  obtain ⟨hk, rfl⟩ := List.getElem?_eq_some_iff.1 hm
  have hpl := parts_length M xs k hl
  have hbig := Nat.mul_le_mul_right s (show k + 1 ≤ xs.length by omega)
  rw [setMany_eq _ _ _ (by rw [flat_length h, hpl, h]; rw [Nat.add_mul, Nat.one_mul] at hbig; omega), h, flat_take h]
  have e1 : k * s + s = (k + 1) * s := by rw [Nat.add_mul, Nat.one_mul]
  rw [e1, flat_drop h, ← flat_one (enc := enc) M[k], ← flat_append, ← flat_append]
  congr 1
  have h1 : (M.take k).length = k := by rw [List.length_take]; omega
  have e2 : (parts M xs k).take k = M.take k := by
    unfold parts
    rw [List.take_append_of_le_length (by omega), List.take_of_length_le (by omega)]
  have e3 : (parts M xs k).drop (k + 1) = xs.drop (k + 1) := by
    unfold parts
    rw [List.drop_append, List.drop_of_length_le (by omega), List.nil_append, h1, List.drop_drop]
    congr 1
    omega
  rw [e2, e3]
  unfold parts
  rw [List.take_succ_eq_append_getElem hk]
end

/-- Cells of a block written one behind the other. -/
def setCells (w : World) (g : Nat) : Nat → List Value → World
  | _, [] => w
  | o, y :: ys => setCells (w.setCell ⟨g, o, none⟩ y) g (o + 1) ys

theorem setCells_own {D : Nat} {e : TypeId} {s n cap g : Nat} (ys : List Value) {w : World} {xs : List Value} (o : Nat) (h : w.ownsRow D e s (.slice (some ⟨g, 0, none⟩) n cap) n xs) :
    (setCells w g o ys).ownsRow D e s (.slice (some ⟨g, 0, none⟩) n cap) n (setMany xs o ys) ∧ w.grownBy (setCells w g o ys) (some g) := by
  induction ys generalizing w xs o with
  | nil => exact ⟨h, grownBy_refl _ _⟩
  | cons y ys ih =>
    obtain ⟨h1, h2⟩ := h.stored o y
    obtain ⟨h3, h4⟩ := ih (o + 1) h1
    exact ⟨h3, grownBy_trans h2 h4⟩

/-- A row's cells that are laid anew. -/
theorem new_cells (w : World) (cs : Array Value) (t : TypeId) : Cells (w.alloc (.cells cs t)) w.heap.size 0 cs.toList := by
  intro j u hj
  rw [Nat.zero_add, World.cell?_alloc_new]
  simpa using hj

/-- As GrewRow, of elements of s cells. -/
structure GrewS (D : Nat) (e : TypeId) (s : Nat) (w0 w : World) (u : Value) (n : Nat) (v : Value) (m : Nat) (ys : List Value) : Prop where
  own : w.ownsRow D e s v m ys
  le : n ≤ m
  grown : w0.grownBy w u.ownBlock
  kept : ∀ g, u.ownBlock = some g → ∀ j, j < n * s → w.cell? ⟨g, j, none⟩ = w0.cell? ⟨g, j, none⟩
  where_ : v.ownBlock = u.ownBlock ∨ ∃ g, v.ownBlock = some g ∧ w0.heap.size ≤ g

theorem GrewS.refl {D : Nat} {e : TypeId} {s : Nat} {w : World} {u : Value} {n : Nat} {xs : List Value} (h : w.ownsRow D e s u n xs) : GrewS D e s w w u n u n xs :=
  ⟨h, Nat.le_refl _, ⟨rfl, rfl, rfl, Nat.le_refl _, fun _ _ _ => rfl⟩, fun _ _ _ _ => rfl, .inl rfl⟩

theorem GrewS.below {D : Nat} {e : TypeId} {s : Nat} {w0 w w' : World} {u v : Value} {n m : Nat} {xs ys : List Value} (h0 : w0.ownsRow D e s u n xs) (h : GrewS D e s w0 w u n v m ys) (b : Below w.heap.size w w') : GrewS D e s w0 w' u n v m ys := by
  have hs := h.grown.size
  refine ⟨h.own.kept (grown_of_below b) ?_, h.le, ⟨b.os.trans h.grown.os, b.tape.trans h.grown.tape, b.output.trans h.grown.output, Nat.le_trans hs b.size, fun k hk hne => ?_⟩, fun g hg j hj => ?_, h.where_⟩
  · cases v.ownBlock <;> simp
  · rw [b.block k (by omega)]
    exact h.grown.block k hk hne
  · rw [b.cell (Nat.lt_of_lt_of_le (h0.lt g hg).2 hs)]
    exact h.kept g hg j hj

theorem GrewS.append {D : Nat} {e : TypeId} {s : Nat} {w0 w w' : World} {u v v' : Value} {n m m' : Nat} {xs ys ys' : List Value} (h0 : w0.ownsRow D e s u n xs) (h : GrewS D e s w0 w u n v m ys)
    (ho : w'.ownsRow D e s v' m' ys') (hm : m ≤ m') (hg : w.grownBy w' v.ownBlock) (hk : ∀ g, v.ownBlock = some g → ∀ j, j < m * s → w'.cell? ⟨g, j, none⟩ = w.cell? ⟨g, j, none⟩)
    (hw : v'.ownBlock = v.ownBlock ∨ ∃ g, v'.ownBlock = some g ∧ w.heap.size ≤ g) : GrewS D e s w0 w' u n v' m' ys' := by
  have hs := h.grown.size
  have other : ∀ k, k < w0.heap.size → u.ownBlock ≠ some k → v.ownBlock ≠ some k := by
    intro k hk' hne he
    rcases h.where_ with e1 | ⟨g, e1, e2⟩
    · exact hne (e1 ▸ he)
    · rw [e1] at he
      simp at he
      omega
  refine ⟨ho, Nat.le_trans h.le hm, ⟨hg.os.trans h.grown.os, hg.tape.trans h.grown.tape, hg.output.trans h.grown.output, Nat.le_trans hs hg.size, fun k hk' hne => ?_⟩, fun g hgu j hj => ?_, ?_⟩
  · have h1 := other k hk' (fun h => hne h.symm)
    rw [hg.block k (by omega) (fun h => h1 h.symm)]
    exact h.grown.block k hk' hne
  · rw [← h.kept g hgu j hj]
    have hle := Nat.mul_le_mul_right s h.le
    by_cases hv : v.ownBlock = some g
    · exact hk g hv j (by omega)
    · have hlt := (h0.lt g hgu).2
      unfold World.cell?
      rw [hg.block g (by omega) (fun h => hv h.symm)]
  · rcases hw with e1 | ⟨g, e1, e2⟩
    · rw [e1]
      exact h.where_
    · exact .inr ⟨g, e1, by omega⟩

theorem Bag.regrownS {D : Nat} {w w' : World} {rs qs : List Row1} {e : TypeId} {s : Nat} {v v' : Value} {n m : Nat} {xs ys : List Value} (h : Bag D w (⟨e, s, v, n, xs⟩ :: rs) qs) (g : GrewS D e s w w' v n v' m ys) : Bag D w' rs (⟨e, s, v, n, xs⟩ :: ⟨e, s, v', m, ys⟩ :: qs) := by
  obtain ⟨h1, h2⟩ := List.pairwise_cons.1 h.apart
  have k1 : Bag D w' (⟨e, s, v', m, ys⟩ :: rs) qs := h.grow g.grown g.own g.where_
  have k2 := k1.aside
  have o : w.ownsRow D e s v n xs := h.own _ (List.mem_cons_self ..)
  refine ⟨k2.own, k2.apart, fun q hq => ?_, fun q hq x hx => ?_⟩
  · rcases List.mem_cons.1 hq with rfl | hq
    · refine ⟨?_, fun b hb => Nat.lt_of_lt_of_le (o.lt b hb).2 g.grown.size⟩
      have c := own_row o
      obtain ⟨a, cc, rfl, c⟩ := c
      refine ⟨a, cc, rfl, ?_⟩
      rcases c with c | ⟨b, off, rfl, hl, hc⟩
      · exact .inl c
      · have hb : off = 0 := by
          rcases o.2 with ⟨h, _⟩ | ⟨b', cap, cur, h, _⟩
          · simp at h
          · simp only [Value.slice.injEq, Option.some.injEq, Addr.mk.injEq] at h
            exact h.1.2.1
        subst hb
        refine .inr ⟨b, 0, rfl, Nat.lt_of_lt_of_le hl g.grown.size, fun j u hj => ?_⟩
        have hlt : j < n * s := by
          have a1 : j < xs.length := (List.getElem?_eq_some_iff.1 hj).1
          have a2 : xs.length = n * s := o.1
          omega
        rw [Nat.zero_add, g.kept b rfl j hlt]
        have := hc j u hj
        rwa [Nat.zero_add] at this
    · exact k2.seen q hq
  · rcases List.mem_cons.1 hq with rfl | hq
    · exact h1 x hx
    · exact k2.off q hq x hx

end Go.Proofs.YtfgfgdchaoekfaaGreatDoor
