/-
  A disk in memory, as the landed package dev lays it: one block of 136 cells; shelves of 64 texts, and writes that wait, in blocks that are never written into again.
-/
import Derived.Test.YtpgiknejgolllaaDW
import Derived.Deep.MidRow
namespace Go.Proofs.Ytpgiknejgolllaa
open Go.RowKit Go.Lib

/-- What the cells of a disk hold. -/
structure DV where
  on : Bool
  done : Int
  armed : Bool
  left : Int
  keep : Value
  blocks : Int
  now : List Value
  last : List Value
  latest : Value
  waiting : Int

def DV.head (d : DV) : List Value := [.bool d.on, .int .i64 d.done, .bool d.armed, .int .i64 d.left, d.keep, .int .i64 d.blocks]
def DV.cells (d : DV) : List Value := d.head ++ (d.now ++ (d.last ++ [d.latest, .int .i64 d.waiting]))

/-- Block p is a disk that holds d. -/
structure DBlk (w : World) (p : Nat) (d : DV) : Prop where
  blk : w.heap[p]? = some (.cells d.cells.toArray 31 (0, 0))
  now : d.now.length = 64
  last : d.last.length = 64

theorem DBlk.lt {w : World} {p : Nat} {d : DV} (h : DBlk w p d) : p < w.heap.size := (Array.getElem?_eq_some_iff.1 h.blk).1

theorem DBlk.free {w : World} {p : Nat} {d : DV} (h : DBlk w p d) (i : Nat) : w.frozen? ⟨p, i, none⟩ = false := row_frozen h.blk

theorem DBlk.cell {w : World} {p : Nat} {d : DV} (h : DBlk w p d) (i : Nat) (v : Value) (hv : d.cells[i]? = some v) : w.cell? ⟨p, i, none⟩ = some v := by
  rw [cell_of_row w p i d.cells.toArray _ (0, 0) h.blk]; simpa using hv

theorem DBlk.c0 {w : World} {p : Nat} {d : DV} (h : DBlk w p d) : w.cell? ⟨p, 0, none⟩ = some (.bool d.on) := h.cell 0 _ rfl
theorem DBlk.c1 {w : World} {p : Nat} {d : DV} (h : DBlk w p d) : w.cell? ⟨p, 1, none⟩ = some (.int .i64 d.done) := h.cell 1 _ rfl
theorem DBlk.c2 {w : World} {p : Nat} {d : DV} (h : DBlk w p d) : w.cell? ⟨p, 2, none⟩ = some (.bool d.armed) := h.cell 2 _ rfl
theorem DBlk.c3 {w : World} {p : Nat} {d : DV} (h : DBlk w p d) : w.cell? ⟨p, 3, none⟩ = some (.int .i64 d.left) := h.cell 3 _ rfl
theorem DBlk.c4 {w : World} {p : Nat} {d : DV} (h : DBlk w p d) : w.cell? ⟨p, 4, none⟩ = some d.keep := h.cell 4 _ rfl
theorem DBlk.c5 {w : World} {p : Nat} {d : DV} (h : DBlk w p d) : w.cell? ⟨p, 5, none⟩ = some (.int .i64 d.blocks) := h.cell 5 _ rfl

theorem DV.at_now (d : DV) (j : Nat) (hj : j < d.now.length) : d.cells[6 + j]? = d.now[j]? := by
  unfold DV.cells
  rw [List.getElem?_append_right (by simp [DV.head]), List.getElem?_append_left (by simp [DV.head]; omega)]
  congr 1
  simp [DV.head]

theorem DV.at_last (d : DV) (hn : d.now.length = 64) (j : Nat) (hj : j < d.last.length) : d.cells[70 + j]? = d.last[j]? := by
  unfold DV.cells
  rw [List.getElem?_append_right (by simp [DV.head]; omega), List.getElem?_append_right (by simp [DV.head]; omega), List.getElem?_append_left (by simp [DV.head]; omega)]
  congr 1
  simp [DV.head]
  omega

theorem DV.at_end (d : DV) (hn : d.now.length = 64) (hl : d.last.length = 64) (j : Nat) : d.cells[134 + j]? = [d.latest, .int .i64 d.waiting][j]? := by
  unfold DV.cells
  rw [List.getElem?_append_right (by simp [DV.head]; omega), List.getElem?_append_right (by simp [DV.head]; omega), List.getElem?_append_right (by simp [DV.head]; omega)]
  congr 1
  simp [DV.head]
  omega

theorem DBlk.c134 {w : World} {p : Nat} {d : DV} (h : DBlk w p d) : w.cell? ⟨p, 134, none⟩ = some d.latest := h.cell 134 _ (d.at_end h.now h.last 0)
theorem DBlk.c135 {w : World} {p : Nat} {d : DV} (h : DBlk w p d) : w.cell? ⟨p, 135, none⟩ = some (.int .i64 d.waiting) := h.cell 135 _ (d.at_end h.now h.last 1)

theorem DBlk.rnow {w : World} {p : Nat} {d : DV} (h : DBlk w p d) : w.rangeAt p 6 d.now := fun j v hv =>
  h.cell (6 + j) v (by rw [d.at_now j (List.getElem?_eq_some_iff.1 hv).1]; exact hv)

theorem DBlk.cnow {w : World} {p : Nat} {d : DV} (h : DBlk w p d) (j : Nat) (v : Value) (hv : d.now[j]? = some v) : w.cell? ⟨p, 6 + j, none⟩ = some v := h.rnow j v hv

theorem DBlk.rlast {w : World} {p : Nat} {d : DV} (h : DBlk w p d) : w.rangeAt p 70 d.last := fun j v hv =>
  h.cell (70 + j) v (by rw [d.at_last h.now j (List.getElem?_eq_some_iff.1 hv).1]; exact hv)

theorem DBlk.rall {w : World} {p : Nat} {d : DV} (h : DBlk w p d) : w.rangeAt p 0 d.cells := fun j v hv => by
  rw [Nat.zero_add]
  exact h.cell j v hv

theorem DBlk.there_last {w : World} {p : Nat} {d : DV} (h : DBlk w p d) : w.there p 70 64 := fun j hj =>
  ⟨h.rlast.isSome j (by rw [h.last]; exact hj), h.free _⟩

theorem DBlk.there_now {w : World} {p : Nat} {d : DV} (h : DBlk w p d) : w.there p 6 64 := fun j hj =>
  ⟨h.rnow.isSome j (by rw [h.now]; exact hj), h.free _⟩

theorem DBlk.kept {w w' : World} {p : Nat} {d : DV} (h : DBlk w p d) (hb : w'.heap[p]? = w.heap[p]?) : DBlk w' p d := ⟨by rw [hb]; exact h.blk, h.now, h.last⟩

theorem DBlk.below {w w' : World} {p : Nat} {d : DV} (h : DBlk w p d) (hb : Below w.heap.size w w') : DBlk w' p d := h.kept (hb.block p h.lt)

theorem DBlk.put {w : World} {p : Nat} {d d' : DV} (h : DBlk w p d) (i : Nat) (v : Value) (hc : d.cells.set i v = d'.cells) (hn : d'.now.length = 64) (hl : d'.last.length = 64) : DBlk (w.setCell ⟨p, i, none⟩ v) p d' := by
  refine ⟨?_, hn, hl⟩
  rw [row_set h.blk]
  simp [hc]

theorem DBlk.on_ {w : World} {p : Nat} {d : DV} (h : DBlk w p d) (b : Bool) : DBlk (w.setCell ⟨p, 0, none⟩ (.bool b)) p { d with on := b } := h.put 0 _ rfl h.now h.last
theorem DBlk.done_ {w : World} {p : Nat} {d : DV} (h : DBlk w p d) (b : Int) : DBlk (w.setCell ⟨p, 1, none⟩ (.int .i64 b)) p { d with done := b } := h.put 1 _ rfl h.now h.last
theorem DBlk.armed_ {w : World} {p : Nat} {d : DV} (h : DBlk w p d) (b : Bool) : DBlk (w.setCell ⟨p, 2, none⟩ (.bool b)) p { d with armed := b } := h.put 2 _ rfl h.now h.last
theorem DBlk.left_ {w : World} {p : Nat} {d : DV} (h : DBlk w p d) (b : Int) : DBlk (w.setCell ⟨p, 3, none⟩ (.int .i64 b)) p { d with left := b } := h.put 3 _ rfl h.now h.last
theorem DBlk.keep_ {w : World} {p : Nat} {d : DV} (h : DBlk w p d) (b : Value) : DBlk (w.setCell ⟨p, 4, none⟩ b) p { d with keep := b } := h.put 4 _ rfl h.now h.last

theorem set_append_at {α : Type} (a b : List α) (n i : Nat) (v : α) (hn : a.length = n) : (a ++ b).set (n + i) v = a ++ b.set i v := by
  subst hn
  rw [List.set_append_right _ _ (by omega)]
  congr 2
  omega

theorem DBlk.now_ {w : World} {p : Nat} {d : DV} (h : DBlk w p d) (j : Nat) (hj : j < 64) (v : Value) : DBlk (w.setCell ⟨p, 6 + j, none⟩ v) p { d with now := d.now.set j v } := by
  refine h.put (6 + j) v ?_ (by simp [h.now]) h.last
  unfold DV.cells
  rw [set_append_at _ _ 6 j v rfl, List.set_append_left _ _ (by rw [h.now]; exact hj)]
  rfl

theorem DBlk.latest_ {w : World} {p : Nat} {d : DV} (h : DBlk w p d) (v : Value) : DBlk (w.setCell ⟨p, 134, none⟩ v) p { d with latest := v } := by
  refine h.put 134 v ?_ h.now h.last
  unfold DV.cells
  rw [show 134 = 6 + (64 + (64 + 0)) from rfl, set_append_at _ _ 6 _ v rfl, set_append_at _ _ 64 _ v h.now, set_append_at _ _ 64 _ v h.last]
  rfl

theorem DBlk.waiting_ {w : World} {p : Nat} {d : DV} (h : DBlk w p d) (b : Int) : DBlk (w.setCell ⟨p, 135, none⟩ (.int .i64 b)) p { d with waiting := b } := by
  refine h.put 135 _ ?_ h.now h.last
  unfold DV.cells
  rw [show 135 = 6 + (64 + (64 + 1)) from rfl, set_append_at _ _ 6 _ _ rfl, set_append_at _ _ 64 _ _ h.now, set_append_at _ _ 64 _ _ h.last]
  rfl

/-- The cells of a block from o on are set. -/
theorem heap_setCells (b : Nat) (t : TypeId) : ∀ (vs pre old post : List Value) (o : Nat) (w : World), w.heap[b]? = some (.cells (pre ++ (old ++ post)).toArray t (0, 0)) → pre.length = o → old.length = vs.length →
    (w.setCells b o vs).heap[b]? = some (.cells (pre ++ (vs ++ post)).toArray t (0, 0))
  | [], pre, old, post, o, w, h, _, hl => by
    have : old = [] := List.eq_nil_of_length_eq_zero (by simpa using hl)
    subst this
    exact h
  | v :: vs, pre, old, post, o, w, h, ho, hl => by
    cases old with
    | nil => simp at hl
    | cons u old =>
      have h1 := row_set h (i := o) v
      have e : ((pre ++ (u :: old ++ post)).toArray).setIfInBounds o v = ((pre ++ [v]) ++ (old ++ post)).toArray := by
        rw [List.setIfInBounds_toArray]
        congr 1
        have := set_append_at pre (u :: old ++ post) o 0 v ho
        simpa using this
      rw [e] at h1
      have := heap_setCells b t vs (pre ++ [v]) old post (o + 1) _ h1 (by simp [ho]) (by simpa using hl)
      rw [World.setCells, this]
      simp

theorem setCells_other (b : Nat) : ∀ (vs : List Value) (o : Nat) (w : World), w.grownBy (w.setCells b o vs) (some b)
  | [], _, _ => grownBy_refl _ _
  | v :: vs, o, w => grownBy_trans (grownBy_setCell w b o v) (setCells_other b vs (o + 1) _)

theorem DBlk.last_ {w : World} {p : Nat} {d : DV} (h : DBlk w p d) (l : List Value) (hl : l.length = 64) : DBlk (w.setCells p 70 l) p { d with last := l } := by
  refine ⟨?_, h.now, hl⟩
  have := h.blk
  unfold DV.cells at this
  rw [← List.append_assoc] at this
  have := heap_setCells p 31 l (d.head ++ d.now) d.last _ 70 w this (by simp [DV.head, h.now]) (by rw [h.last, hl])
  rw [this]
  unfold DV.cells
  rw [List.append_assoc]
  rfl

theorem DBlk.nows {w : World} {p : Nat} {d : DV} (h : DBlk w p d) (l : List Value) (hl : l.length = 64) : DBlk (w.setCells p 6 l) p { d with now := l } := by
  refine ⟨?_, hl, h.last⟩
  have := heap_setCells p 31 l d.head d.now _ 6 w h.blk rfl (by rw [h.now, hl])
  rw [this]
  rfl

/-! ## Shelves -/

/-- What lies in the blocks of a shelf: "" in one that was never written. -/
def shelfCells (f : Nat → ByteArray) (j : Nat) : List Value := (List.range 64).map (fun r => Value.string (f (64 * j + r)))

def ShelfAt (w : World) (A : Nat → Prop) (p : Nat) (f : Nat → ByteArray) (j : Nat) (v : Value) : Prop :=
  (v = .pointer none ∧ ∀ r, r < 64 → f (64 * j + r) = ⟨#[]⟩) ∨ ∃ g, v = .pointer (some ⟨g, 0, none⟩) ∧ A g ∧ g ≠ p ∧ w.heap[g]? = some (.cells (shelfCells f j).toArray 73 (0, 0))

def Shelves (w : World) (A : Nat → Prop) (p : Nat) (l : List Value) (f : Nat → ByteArray) : Prop := ∀ j v, l[j]? = some v → ShelfAt w A p f j v

/-- The blocks are those that the shelves hold. -/
def textAt (f : Nat → ByteArray) (i : Nat) : ByteArray := if (f i).size = 0 then fillText 0 else f i

structure Holds (f : Nat → ByteArray) (bs : List ByteArray) : Prop where
  at_ : ∀ i t, bs[i]? = some t → t = textAt f i
  size : ∀ i, (f i).size = 0 ∨ (f i).size = 256

theorem ShelfAt.kept {w w' : World} {A A' : Nat → Prop} {p : Nat} {f : Nat → ByteArray} {j : Nat} {v : Value} (h : ShelfAt w A p f j v) (hA : ∀ k, A k → A' k) (hb : ∀ k, A k → k ≠ p → w'.heap[k]? = w.heap[k]?) : ShelfAt w' A' p f j v := by
  rcases h with h | ⟨g, hv, ha, hp, hg⟩
  · exact .inl h
  · exact .inr ⟨g, hv, hA g ha, hp, by rw [hb g ha hp]; exact hg⟩

theorem Shelves.kept {w w' : World} {A A' : Nat → Prop} {p : Nat} {l : List Value} {f : Nat → ByteArray} (h : Shelves w A p l f) (hA : ∀ k, A k → A' k) (hb : ∀ k, A k → k ≠ p → w'.heap[k]? = w.heap[k]?) : Shelves w' A' p l f :=
  fun j v hv => (h j v hv).kept hA hb

theorem ShelfAt.one {w : World} {A : Nat → Prop} {p : Nat} {f : Nat → ByteArray} {j : Nat} {v : Value} (h : ShelfAt w A p f j v) : v.oneCell' = true := by
  rcases h with ⟨rfl, _⟩ | ⟨g, rfl, _⟩ <;> rfl

theorem Shelves.one {w : World} {A : Nat → Prop} {p : Nat} {l : List Value} {f : Nat → ByteArray} (h : Shelves w A p l f) : ∀ v ∈ l, v.oneCell' = true := by
  intro v hv
  obtain ⟨j, hj, rfl⟩ := List.mem_iff_getElem.1 hv
  exact (h j _ (List.getElem?_eq_getElem hj)).one

theorem shelfCells_at (f : Nat → ByteArray) (j r : Nat) (hr : r < 64) : (shelfCells f j)[r]? = some (.string (f (64 * j + r))) := by
  simp [shelfCells, hr]

/-- One block is given another text. -/
def fset (f : Nat → ByteArray) (i : Nat) (t : ByteArray) : Nat → ByteArray := fun k => if k = i then t else f k

theorem shelfCells_set (f : Nat → ByteArray) (j r : Nat) (hr : r < 64) (t : ByteArray) : (shelfCells f j).set r (.string t) = shelfCells (fset f (64 * j + r) t) j := by
  refine List.ext_getElem? fun k => ?_
  rw [List.getElem?_set]
  by_cases hk : k < 64
  · rw [shelfCells_at _ j k hk]
    by_cases e : r = k
    · subst e
      simp [shelfCells, fset, hr]
    · rw [if_neg e, shelfCells_at _ j k hk, fset, if_neg (by omega)]
  · have h1 : (shelfCells (fset f (64 * j + r) t) j)[k]? = none := by simp [shelfCells]; omega
    rw [h1, if_neg (by omega)]
    simp [shelfCells]
    omega

theorem shelfCells_other (f : Nat → ByteArray) (i j : Nat) (t : ByteArray) (h : i / 64 ≠ j) : shelfCells (fset f i t) j = shelfCells f j := by
  unfold shelfCells
  refine List.map_congr_left fun r hr => ?_
  simp only [List.mem_range] at hr
  rw [fset, if_neg (by omega)]

theorem Shelves.set {w w' : World} {A A' : Nat → Prop} {p g : Nat} {l : List Value} {f : Nat → ByteArray} (h : Shelves w A p l f) (i : Nat) (t : ByteArray) (hA : ∀ k, A k → A' k) (hb : ∀ k, A k → k ≠ p → w'.heap[k]? = w.heap[k]?)
    (hg : A' g) (hp : g ≠ p) (hc : w'.heap[g]? = some (.cells (shelfCells (fset f i t) (i / 64)).toArray 73 (0, 0))) : Shelves w' A' p (l.set (i / 64) (.pointer (some ⟨g, 0, none⟩))) (fset f i t) := by
  intro j v hv
  rw [List.getElem?_set] at hv
  split at hv
  · rename_i e
    subst e
    split at hv
    · simp only [Option.some.injEq] at hv
      exact .inr ⟨g, hv.symm, hg, hp, hc⟩
    · cases hv
  · rename_i e
    rcases h j v hv with ⟨h1, h2⟩ | ⟨k, h1, h2, h3, h4⟩
    · refine .inl ⟨h1, fun r hr => ?_⟩
      rw [fset, if_neg (by omega)]
      exact h2 r hr
    · refine .inr ⟨k, h1, hA k h2, h3, ?_⟩
      rw [shelfCells_other f i j t e, hb k h2 h3]
      exact h4

theorem Holds.set {f : Nat → ByteArray} {bs : List ByteArray} (h : Holds f bs) (i : Nat) (t : ByteArray) (ht : t.size = 256) : Holds (fset f i t) (bs.set i t) := by
  refine ⟨?_, fun k => ?_⟩
  · intro k u hu
    rw [List.getElem?_set] at hu
    unfold textAt fset
    split at hu
    · rename_i e
      subst e
      split at hu
      · simp only [Option.some.injEq] at hu
        rw [if_pos rfl, if_neg (by omega), hu]
      · cases hu
    · rename_i e
      rw [show (if k = i then t else f k) = f k from if_neg (fun c => e c.symm)]
      exact h.at_ k u hu
  · unfold fset
    split
    · exact .inr ht
    · exact h.size k

/-! ## Writes that wait -/

/-- The writes that wait, the last one first. -/
def Chain (w : World) (A : Nat → Prop) (p : Nat) : Value → List (Nat × ByteArray) → Prop
  | v, [] => v = .pointer none
  | v, x :: xs => ∃ g u, v = .pointer (some ⟨g, 0, none⟩) ∧ A g ∧ g ≠ p ∧ w.heap[g]? = some (.cells #[u, .int .i64 x.1, .string x.2] 60 (0, 0)) ∧ Chain w A p u xs

theorem Chain.kept {w w' : World} {A A' : Nat → Prop} {p : Nat} (hA : ∀ k, A k → A' k) (hb : ∀ k, A k → k ≠ p → w'.heap[k]? = w.heap[k]?) : ∀ {v : Value} {xs : List (Nat × ByteArray)}, Chain w A p v xs → Chain w' A' p v xs
  | _, [], h => h
  | _, _ :: _, h => by
    obtain ⟨g, u, hv, ha, hp, hg, hr⟩ := h
    exact ⟨g, u, hv, hA g ha, hp, by rw [hb g ha hp]; exact hg, Chain.kept hA hb hr⟩

theorem Chain.one {w : World} {A : Nat → Prop} {p : Nat} {v : Value} : ∀ {xs : List (Nat × ByteArray)}, Chain w A p v xs → v.oneCell' = true ∧ ∃ a, v = .pointer a
  | [], h => by
    have h : v = .pointer none := h
    subst h
    exact ⟨rfl, _, rfl⟩
  | _ :: _, h => by
    obtain ⟨g, u, rfl, _⟩ := h
    exact ⟨rfl, _, rfl⟩

/-! ## What it is armed with -/

def Arms (w : World) (A : Nat → Prop) (p : Nat) (d : DV) : Option (Nat × List Int) → Prop
  | none => d.armed = false ∧ ∃ a n c, d.keep = .slice a n c
  | some (n, ks) => d.armed = true ∧ d.left = n ∧ n ≤ 1000000 ∧ ks.length ≤ 100000 ∧ CellRow w d.keep ks.length (ks.map (Value.int .i64)) ∧ (ks ≠ [] → ∀ g, d.keep.ownBlock = some g → A g ∧ g ≠ p)

theorem Arms.kept {w w' : World} {A A' : Nat → Prop} {p : Nat} {d d' : DV} {a : Option (Nat × List Int)} (h : Arms w A p d a) (hA : ∀ k, A k → A' k) (hs : w.heap.size ≤ w'.heap.size) (hb : ∀ k, A k → k ≠ p → w'.heap[k]? = w.heap[k]?)
    (h1 : d'.armed = d.armed) (h2 : d'.left = d.left) (h3 : d'.keep = d.keep) : Arms w' A' p d' a := by
  cases a with
  | none =>
    obtain ⟨a, b⟩ := h
    exact ⟨h1.trans a, by rw [h3]; exact b⟩
  | some x =>
    obtain ⟨n, ks⟩ := x
    obtain ⟨a, b, c, e, r, o⟩ := h
    refine ⟨h1.trans a, h2.trans b, c, e, ?_, by rw [h3]; exact fun hk g hg => ⟨hA g (o hk g hg).1, (o hk g hg).2⟩⟩
    rw [h3]
    obtain ⟨q, k, hv, hr⟩ := r
    rcases hr with hr | ⟨b, z, hq, hl, hc⟩
    · exact ⟨q, k, hv, .inl hr⟩
    · by_cases hk : ks = []
      · exact ⟨q, k, hv, .inl (by rw [hk]; rfl)⟩
      · have hab := o hk b (by rw [hv, hq]; rfl)
        refine ⟨q, k, hv, .inr ⟨b, z, hq, Nat.lt_of_lt_of_le hl hs, fun j u hj => ?_⟩⟩
        rw [World.cell?_of_block (hb b hab.1 hab.2)]
        exact hc j u hj

/-! ## Another disk that shares what is never written into -/

theorem Shelves.moved {w w' : World} {A A' : Nat → Prop} {p q : Nat} {l : List Value} {f : Nat → ByteArray} (h : Shelves w A p l f) (hA : ∀ k, A k → k ≠ p → A' k ∧ k ≠ q) (hb : ∀ k, A k → k ≠ p → w'.heap[k]? = w.heap[k]?) : Shelves w' A' q l f := fun j v hv => by
  rcases h j v hv with h | ⟨g, h1, h2, h3, h4⟩
  · exact .inl h
  · exact .inr ⟨g, h1, (hA g h2 h3).1, (hA g h2 h3).2, by rw [hb g h2 h3]; exact h4⟩

theorem Chain.moved {w w' : World} {A A' : Nat → Prop} {p q : Nat} (hA : ∀ k, A k → k ≠ p → A' k ∧ k ≠ q) (hb : ∀ k, A k → k ≠ p → w'.heap[k]? = w.heap[k]?) : ∀ {v : Value} {xs : List (Nat × ByteArray)}, Chain w A p v xs → Chain w' A' q v xs
  | _, [], h => h
  | _, _ :: _, h => by
    obtain ⟨g, u, hv, ha, hp, hg, hr⟩ := h
    exact ⟨g, u, hv, (hA g ha hp).1, (hA g ha hp).2, by rw [hb g ha hp]; exact hg, Chain.moved hA hb hr⟩

theorem Arms.moved {w w' : World} {A A' : Nat → Prop} {p q : Nat} {d d' : DV} {a : Option (Nat × List Int)} (h : Arms w A p d a) (hA : ∀ k, A k → k ≠ p → A' k ∧ k ≠ q) (hs : w.heap.size ≤ w'.heap.size) (hb : ∀ k, A k → k ≠ p → w'.heap[k]? = w.heap[k]?)
    (h1 : d'.armed = d.armed) (h2 : d'.left = d.left) (h3 : d'.keep = d.keep) : Arms w' A' q d' a := by
  cases a with
  | none =>
    obtain ⟨a, b⟩ := h
    exact ⟨h1.trans a, by rw [h3]; exact b⟩
  | some x =>
    obtain ⟨n, ks⟩ := x
    have h0 := h
    obtain ⟨a, b, c, e, r, o⟩ := h
    refine ⟨h1.trans a, h2.trans b, c, e, ?_, by rw [h3]; exact fun hk g hg => hA g (o hk g hg).1 (o hk g hg).2⟩
    have := h0.kept (A' := A) (w' := w') (fun _ k => k) hs hb h1 h2 h3
    obtain ⟨_, _, _, _, r', _⟩ := this
    exact r'

/-! ## The whole -/

structure DIn (w : World) (p : Nat) (d : DV) (A : Nat → Prop) (s : DSt) (f g : Nat → ByteArray) : Prop where
  blk : DBlk w p d
  on : d.on = s.on
  done : d.done = s.cnt
  blocks : d.blocks = s.last.length
  waiting : d.waiting = s.waits.length
  now : Shelves w A p d.now f
  cur : Holds f s.cur
  lasts : Shelves w A p d.last g
  last : Holds g s.last
  chain : Chain w A p d.latest s.waits.reverse
  arms : Arms w A p d s.armed
  own : A p
  lt : ∀ k, A k → k < w.heap.size
  room : 1 ≤ s.last.length ∧ s.last.length ≤ 4096
  good : ∀ x ∈ s.waits, x.1 < s.last.length ∧ x.2.size = 256

def DRep (w : World) (p : Nat) (s : DSt) (F : Foot) : Prop := (∀ k, F.own k ↔ k = p) ∧ ∃ d f g, DIn w p d F.all s f g

theorem DIn.kept {w w' : World} {p : Nat} {d : DV} {A : Nat → Prop} {s : DSt} {f g : Nat → ByteArray} (h : DIn w p d A s f g) (hs : w.heap.size ≤ w'.heap.size) (hb : ∀ k, A k → w'.heap[k]? = w.heap[k]?) : DIn w' p d A s f g :=
  ⟨h.blk.kept (hb p h.own), h.on, h.done, h.blocks, h.waiting, h.now.kept (fun _ k => k) (fun k hk _ => hb k hk), h.cur, h.lasts.kept (fun _ k => k) (fun k hk _ => hb k hk), h.last,
    h.chain.kept (fun _ k => k) (fun k hk _ => hb k hk), h.arms.kept (fun _ k => k) hs (fun k hk _ => hb k hk) rfl rfl rfl, h.own, fun k hk => Nat.lt_of_lt_of_le (h.lt k hk) hs, h.room, h.good⟩

theorem DIn.next {w w' : World} {p : Nat} {d : DV} {A : Nat → Prop} {s : DSt} {f g : Nat → ByteArray} (h : DIn w p d A s f g) (b : Below w.heap.size w w') : DIn w' p d A s f g :=
  h.kept b.size (fun k hk => b.block k (h.lt k hk))

end Go.Proofs.Ytpgiknejgolllaa
