/-
  Rows of one's own that lie apart (package sedimentbook's lists): they are made, grown, put aside.
-/
import Derived.Test.YtcjfejhfafiaiaaBKG
import Derived.Test.YtcjfejhfafiaiaaBKM
namespace Go.Proofs.Ytcjfejhfafiaiaa
open Go.RowKit Go.Lib

/-- A row: its elements' type, the cells of one, the slice, how many there are, the cells. -/
structure Row1 where
  e : TypeId
  s : Nat
  v : Value
  n : Nat
  xs : List Value

/-- Two slices that lie in no common block. -/
def Apart (a b : Value) : Prop := ∀ g, a.ownBlock = some g → b.ownBlock ≠ some g

theorem Apart.symm {a b : Value} (h : Apart a b) : Apart b a := fun g h1 h2 => h g h2 h1

theorem Apart.ne {a b : Value} (h : Apart a b) : a.ownBlock = none ∨ a.ownBlock ≠ b.ownBlock := by
  cases ha : a.ownBlock with
  | none => exact .inl rfl
  | some g => exact .inr fun hb => h g ha hb.symm

theorem Apart.moved {a b b' : Value} {n : Nat} (h : Apart a b) (ha : ∀ g, a.ownBlock = some g → g < n) (hb : b'.ownBlock = b.ownBlock ∨ ∃ g, b'.ownBlock = some g ∧ n ≤ g) : Apart a b' := by
  intro g hg he
  rcases hb with e1 | ⟨k, e1, e2⟩
  · exact h g hg (e1 ▸ he)
  · have := ha g hg
    rw [e1] at he
    simp at he
    omega

/-- Rows rs above D, each one's own, which lie apart; and rows qs that are only looked at, in no block of those. -/
structure Bag (D : Nat) (w : World) (rs qs : List Row1) : Prop where
  own : ∀ r ∈ rs, w.ownsRow D r.e r.s r.v r.n r.xs
  apart : rs.Pairwise fun a b => Apart a.v b.v
  seen : ∀ q ∈ qs, CellRow w q.v q.n q.xs ∧ ∀ g, q.v.ownBlock = some g → g < w.heap.size
  off : ∀ q ∈ qs, ∀ r ∈ rs, Apart q.v r.v

theorem CellRow.grown {w w' : World} {row : Option Nat} {v : Value} {n : Nat} {xs : List Value} (h : CellRow w v n xs) (hg : w.grownBy w' row) (hne : v.ownBlock = none ∨ v.ownBlock ≠ row) : CellRow w' v n xs := by
  obtain ⟨a, c, rfl, h⟩ := h
  refine ⟨a, c, rfl, ?_⟩
  rcases h with h | ⟨b, o, rfl, hl, hc⟩
  · exact .inl h
  · refine .inr ⟨b, o, rfl, Nat.lt_of_lt_of_le hl hg.size, fun j u hj => ?_⟩
    rw [World.cell?_of_block (hg.block b hl (by simpa [Value.ownBlock] using hne))]
    exact hc j u hj

theorem own_mono {w : World} {B D : Nat} {e : TypeId} {s : Nat} {v : Value} {n : Nat} {xs : List Value} (h : w.ownsRow B e s v n xs) (hD : D ≤ B) : w.ownsRow D e s v n xs := by
  refine ⟨h.1, ?_⟩
  rcases h.2 with hn | ⟨g, cap, cur, hv, hb, rest⟩
  · exact .inl hn
  · exact .inr ⟨g, cap, cur, hv, Nat.le_trans hD hb, rest⟩

/-- An own row's cells, whatever their number for each element. -/
theorem own_row {w : World} {B : Nat} {e : TypeId} {s : Nat} {v : Value} {n : Nat} {xs : List Value} (h : w.ownsRow B e s v n xs) : CellRow w v n xs := by
  obtain ⟨hl, h⟩ := h
  rcases h with ⟨rfl, rfl⟩ | ⟨g, cap, cur, rfl, hB, hrow, hcap, hmax, hcs, htk⟩
  · exact ⟨none, 0, rfl, .inl (by simpa using hl)⟩
  · refine ⟨_, _, rfl, .inr ⟨g, 0, rfl, (Array.getElem?_eq_some_iff.1 hrow).1, fun j u hj => ?_⟩⟩
    rw [Nat.zero_add, cell_of_row w g j _ _ _ hrow]
    rw [← htk, List.getElem?_take] at hj
    split at hj
    · simpa using hj
    · cases hj

variable {D : Nat} {w w' : World} {rs qs : List Row1}

theorem Bag.nil (D : Nat) (w : World) : Bag D w [] [] := ⟨fun _ h => absurd h List.not_mem_nil, List.Pairwise.nil, fun _ h => absurd h List.not_mem_nil, fun _ h => absurd h List.not_mem_nil⟩

/-- All that lay is as it was. -/
theorem Bag.below (h : Bag D w rs qs) (hb : Below w.heap.size w w') : Bag D w' rs qs :=
  ⟨fun r hr => (h.own r hr).kept (grown_of_below hb) (by cases r.v.ownBlock <;> simp), h.apart, fun q hq => ⟨(h.seen q hq).1.kept hb, fun g hg => Nat.lt_of_lt_of_le ((h.seen q hq).2 g hg) hb.size⟩, h.off⟩

/-- A block below D is written to. -/
theorem Bag.stored {p : Nat} (h : Bag D w rs []) (hg : w.grownBy w' (some p)) (hp : p < D) : Bag D w' rs [] := by
  refine ⟨fun r hr => (h.own r hr).kept hg ?_, h.apart, fun _ h => absurd h List.not_mem_nil, fun _ h => absurd h List.not_mem_nil⟩
  cases hv : r.v.ownBlock with
  | none => exact .inl rfl
  | some g =>
    refine .inr fun he => ?_
    have := ((h.own r hr).lt g hv).1
    simp at he
    omega

theorem Bag.perm {rs' : List Row1} (h : Bag D w rs qs) (hp : rs.Perm rs') : Bag D w rs' qs :=
  ⟨fun r hr => h.own r (hp.mem_iff.2 hr), (hp.pairwise_iff (fun h => Apart.symm h)).1 h.apart, h.seen, fun q hq r hr => h.off q hq r (hp.mem_iff.2 hr)⟩

/-- A new row. -/
theorem Bag.new {e : TypeId} {s : Nat} {v : Value} {n : Nat} {xs : List Value} (h : Bag D w rs qs) (hb : Below w.heap.size w w') (ho : w'.ownsRow w.heap.size e s v n xs) (hD : D ≤ w.heap.size) :
    Bag D w' (⟨e, s, v, n, xs⟩ :: rs) qs := by
  have k := h.below hb
  refine ⟨fun r hr => ?_, List.pairwise_cons.2 ⟨fun r hr g hg hg' => ?_, k.apart⟩, k.seen, fun q hq' r hr => ?_⟩
  · rcases List.mem_cons.1 hr with rfl | hr
    · exact own_mono ho hD
    · exact k.own r hr
  · have h1 := (ho.lt g hg).1
    have h2 := ((h.own r hr).lt g hg').2
    omega
  · rcases List.mem_cons.1 hr with rfl | hr
    · intro g hg hg'
      have h1 := (ho.lt g hg').1
      have h2 := (h.seen q hq').2 g hg
      omega
    · exact k.off q hq' r hr

/-- The first row has grown, or was written to. -/
theorem Bag.grow {r : Row1} {v' : Value} {n' : Nat} {xs' : List Value} (h : Bag D w (r :: rs) qs) (hg : w.grownBy w' r.v.ownBlock) (ho : w'.ownsRow D r.e r.s v' n' xs')
    (hw : v'.ownBlock = r.v.ownBlock ∨ ∃ g, v'.ownBlock = some g ∧ w.heap.size ≤ g) : Bag D w' (⟨r.e, r.s, v', n', xs'⟩ :: rs) qs := by
  obtain ⟨h1, h2⟩ := List.pairwise_cons.1 h.apart
  refine ⟨fun x hx => ?_, List.pairwise_cons.2 ⟨fun x hx => ?_, h2⟩, fun q hq' => ?_, fun q hq' x hx => ?_⟩
  · rcases List.mem_cons.1 hx with rfl | hx
    · exact ho
    · exact (h.own x (List.mem_cons_of_mem _ hx)).kept hg (h1 x hx).symm.ne
  · refine ((h1 x hx).symm.moved (fun g hg => ((h.own x (List.mem_cons_of_mem _ hx)).lt g hg).2) hw).symm
  · exact ⟨(h.seen q hq').1.grown hg (h.off q hq' r (List.mem_cons_self ..)).ne, fun g hg' => Nat.lt_of_lt_of_le ((h.seen q hq').2 g hg') hg.size⟩
  · rcases List.mem_cons.1 hx with rfl | hx
    · exact (h.off q hq' r (List.mem_cons_self ..)).moved (h.seen q hq').2 hw
    · exact h.off q hq' x (List.mem_cons_of_mem _ hx)

/-- The first row is put aside: it is only looked at from now on. -/
theorem Bag.aside {r : Row1} (h : Bag D w (r :: rs) qs) : Bag D w rs (r :: qs) := by
  obtain ⟨h1, h2⟩ := List.pairwise_cons.1 h.apart
  refine ⟨fun x hx => h.own x (List.mem_cons_of_mem _ hx), h2, fun q hq => ?_, fun q hq x hx => ?_⟩
  · rcases List.mem_cons.1 hq with rfl | hq
    · exact ⟨own_row (h.own _ (List.mem_cons_self ..)), fun g hg => ((h.own _ (List.mem_cons_self ..)).lt g hg).2⟩
    · exact h.seen q hq
  · rcases List.mem_cons.1 hq with rfl | hq
    · exact h1 x hx
    · exact h.off q hq x (List.mem_cons_of_mem _ hx)

/-- Rows are forgotten. -/
theorem Bag.sublist {rs' : List Row1} (h : Bag D w rs qs) (s : rs'.Sublist rs) : Bag D w rs' qs :=
  ⟨fun r hr => h.own r (s.subset hr), h.apart.sublist s, h.seen, fun q hq r hr => h.off q hq r (s.subset hr)⟩

/-- A row is forgotten. -/
theorem Bag.drop {r : Row1} (h : Bag D w (r :: rs) qs) : Bag D w rs qs :=
  ⟨fun x hx => h.own x (List.mem_cons_of_mem _ hx), (List.pairwise_cons.1 h.apart).2, h.seen, fun q hq x hx => h.off q hq x (List.mem_cons_of_mem _ hx)⟩

/-- The first row has been grown, step by step: what it was and what it is are both put aside. -/
theorem Bag.regrown {e : TypeId} {v v' : Value} {n m : Nat} {xs ys : List Value} (h : Bag D w (⟨e, 1, v, n, xs⟩ :: rs) qs) (g : GrewRow D e w w' v n v' m ys) : Bag D w' rs (⟨e, 1, v, n, xs⟩ :: ⟨e, 1, v', m, ys⟩ :: qs) := by
  obtain ⟨h1, h2⟩ := List.pairwise_cons.1 h.apart
  have k1 : Bag D w' (⟨e, 1, v', m, ys⟩ :: rs) qs := h.grow g.grown g.own g.where_
  have k2 := k1.aside
  have o : w.ownsRow D e 1 v n xs := h.own _ (List.mem_cons_self ..)
  refine ⟨k2.own, k2.apart, fun q hq => ?_, fun q hq x hx => ?_⟩
  · rcases List.mem_cons.1 hq with rfl | hq
    · refine ⟨?_, fun b hb => Nat.lt_of_lt_of_le (o.lt b hb).2 g.grown.size⟩
      have c := own_row o
      obtain ⟨a, cc, rfl, c⟩ := c
      refine ⟨a, cc, rfl, ?_⟩
      rcases c with c | ⟨b, off, rfl, hl, hc⟩
      · exact .inl c
      · have hb : off = 0 := by
          rcases o.2 with ⟨h, _⟩ | ⟨b', cap, cur, h, _⟩
          · simp at h
          · simp only [Value.slice.injEq, Option.some.injEq, Addr.mk.injEq] at h
            exact h.1.2.1
        subst hb
        refine .inr ⟨b, 0, rfl, Nat.lt_of_lt_of_le hl g.grown.size, fun j u hj => ?_⟩
        have hlt : j < n := by
          have a1 : j < xs.length := (List.getElem?_eq_some_iff.1 hj).1
          have a2 : xs.length = n * 1 := o.1
          omega
        rw [Nat.zero_add, g.kept b rfl j hlt]
        have := hc j u hj
        rwa [Nat.zero_add] at this
    · exact k2.seen q hq
  · rcases List.mem_cons.1 hq with rfl | hq
    · exact h1 x hx
    · exact k2.off q hq x hx

theorem split_at {A : List Row1} {j : Nat} {r : Row1} (h : A[j]? = some r) : A = A.take j ++ r :: A.drop (j + 1) := by
  obtain ⟨hj, rfl⟩ := List.getElem?_eq_some_iff.1 h
  rw [List.getElem_cons_drop, List.take_append_drop]

/-- The j-th row of A comes to the front. -/
theorem Bag.front {a r : Row1} {A : List Row1} {j : Nat} (h : Bag D w (a :: (A ++ rs)) qs) (hj : A[j]? = some r) : Bag D w (r :: a :: (A.take j ++ A.drop (j + 1) ++ rs)) qs := by
  have e := split_at hj
  refine h.perm ?_
  have p1 : (A ++ rs).Perm (r :: (A.take j ++ A.drop (j + 1) ++ rs)) := by
    have : A ++ rs = A.take j ++ r :: (A.drop (j + 1) ++ rs) := by
      conv => lhs; rw [e]
      simp
    rw [this, List.append_assoc]
    exact List.perm_middle
  exact (p1.cons a).trans (List.Perm.swap _ _ _)

/-- And back. -/
theorem Bag.back {a r : Row1} {A : List Row1} {j : Nat} (h : Bag D w (r :: a :: (A.take j ++ A.drop (j + 1) ++ rs)) qs) (hj : j < A.length) : Bag D w (a :: (A.set j r ++ rs)) qs := by
  refine h.perm ((List.Perm.swap _ _ _).trans (List.Perm.cons a ?_))
  have : A.set j r ++ rs = A.take j ++ r :: (A.drop (j + 1) ++ rs) := by
    rw [List.set_eq_take_append_cons_drop, if_pos hj]
    simp
  rw [this, List.append_assoc]
  exact List.perm_middle.symm

end Go.Proofs.Ytcjfejhfafiaiaa
