/-
  A bundle of texts: BG BKN BKP KS BKR.
-/
import Derived.Deep.RegionHeld3
import Derived.Test.YtdhkmcmipkfkjaaR10
import Derived.Test.YtdhkmcmipkfkjaaR08
import Derived.Test.YtdhkmcmipkfkjaaR04
namespace Go.Proofs.Ytdhkmcmipkfkjaa
open Go.RowKit Go.Lib

/-- A row: its elements' type, the cells of one, the slice, how many there are, the cells. -/
structure Row1 where
  e : TypeId
  s : Nat
  v : Value
  n : Nat
  xs : List Value

/-- Two slices that lie in no common block. -/
def Apart (a b : Value) : Prop := ∀ g, a.ownBlock = some g → b.ownBlock ≠ some g

theorem Apart.symm {a b : Value} (h : Apart a b) : Apart b a := fun g h1 h2 => h g h2 h1

theorem Apart.ne {a b : Value} (h : Apart a b) : a.ownBlock = none ∨ a.ownBlock ≠ b.ownBlock := by
  cases ha : a.ownBlock with
  | none => exact .inl rfl
  | some g => exact .inr fun hb => h g ha hb.symm

theorem Apart.moved {a b b' : Value} {n : Nat} (h : Apart a b) (ha : ∀ g, a.ownBlock = some g → g < n) (hb : b'.ownBlock = b.ownBlock ∨ ∃ g, b'.ownBlock = some g ∧ n ≤ g) : Apart a b' := by
  intro g hg he
  rcases hb with e1 | ⟨k, e1, e2⟩
  · exact h g hg (e1 ▸ he)
  · have := ha g hg
    rw [e1] at he
    simp at he
    omega

/-- Rows rs above D, each one's own, which lie apart; and rows qs that are only looked at, in no block of those. -/
structure Bag (D : Nat) (w : World) (rs qs : List Row1) : Prop where
  own : ∀ r ∈ rs, w.ownsRow D r.e r.s r.v r.n r.xs
  apart : rs.Pairwise fun a b => Apart a.v b.v
  seen : ∀ q ∈ qs, CellRow w q.v q.n q.xs ∧ ∀ g, q.v.ownBlock = some g → g < w.heap.size
  off : ∀ q ∈ qs, ∀ r ∈ rs, Apart q.v r.v

theorem CellRow.grown {w w' : World} {row : Option Nat} {v : Value} {n : Nat} {xs : List Value} (h : CellRow w v n xs) (hg : w.grownBy w' row) (hne : v.ownBlock = none ∨ v.ownBlock ≠ row) : CellRow w' v n xs := by
  obtain ⟨a, c, rfl, h⟩ := h
  refine ⟨a, c, rfl, ?_⟩
  rcases h with h | ⟨b, o, rfl, hl, hc⟩
  · exact .inl h
  · refine .inr ⟨b, o, rfl, Nat.lt_of_lt_of_le hl hg.size, fun j u hj => ?_⟩
    rw [World.cell?_of_block (hg.block b hl (by simpa [Value.ownBlock] using hne))]
    exact hc j u hj

theorem own_mono {w : World} {B D : Nat} {e : TypeId} {s : Nat} {v : Value} {n : Nat} {xs : List Value} (h : w.ownsRow B e s v n xs) (hD : D ≤ B) : w.ownsRow D e s v n xs := by
  refine ⟨h.1, ?_⟩
  rcases h.2 with hn | ⟨g, cap, cur, hv, hb, rest⟩
  · exact .inl hn
  · exact .inr ⟨g, cap, cur, hv, Nat.le_trans hD hb, rest⟩

/-- An own row's cells, whatever their number for each element. -/
theorem own_row {w : World} {B : Nat} {e : TypeId} {s : Nat} {v : Value} {n : Nat} {xs : List Value} (h : w.ownsRow B e s v n xs) : CellRow w v n xs := by
  obtain ⟨hl, h⟩ := h
  rcases h with ⟨rfl, rfl⟩ | ⟨g, cap, cur, rfl, hB, hrow, hcap, hmax, hcs, htk⟩
  · exact ⟨none, 0, rfl, .inl (by simpa using hl)⟩
  · refine ⟨_, _, rfl, .inr ⟨g, 0, rfl, (Array.getElem?_eq_some_iff.1 hrow).1, fun j u hj => ?_⟩⟩
    rw [Nat.zero_add, cell_of_row w g j _ _ _ hrow]
    rw [← htk, List.getElem?_take] at hj
    split at hj
    · simpa using hj
    · cases hj

variable {D : Nat} {w w' : World} {rs qs : List Row1}

theorem Bag.nil (D : Nat) (w : World) : Bag D w [] [] := ⟨fun _ h => absurd h List.not_mem_nil, List.Pairwise.nil, fun _ h => absurd h List.not_mem_nil, fun _ h => absurd h List.not_mem_nil⟩

/-- All that lay is as it was. -/
theorem Bag.below (h : Bag D w rs qs) (hb : Below w.heap.size w w') : Bag D w' rs qs :=
  ⟨fun r hr => (h.own r hr).kept (grown_of_below hb) (by cases r.v.ownBlock <;> simp), h.apart, fun q hq => ⟨(h.seen q hq).1.kept hb, fun g hg => Nat.lt_of_lt_of_le ((h.seen q hq).2 g hg) hb.size⟩, h.off⟩

/-- A block below D is written to. -/
theorem Bag.stored {p : Nat} (h : Bag D w rs []) (hg : w.grownBy w' (some p)) (hp : p < D) : Bag D w' rs [] := by
  refine ⟨fun r hr => (h.own r hr).kept hg ?_, h.apart, fun _ h => absurd h List.not_mem_nil, fun _ h => absurd h List.not_mem_nil⟩
  cases hv : r.v.ownBlock with
  | none => exact .inl rfl
  | some g =>
    refine .inr fun he => ?_
    have := ((h.own r hr).lt g hv).1
    simp at he
    omega

theorem Bag.perm {rs' : List Row1} (h : Bag D w rs qs) (hp : rs.Perm rs') : Bag D w rs' qs :=
  ⟨fun r hr => h.own r (hp.mem_iff.2 hr), (hp.pairwise_iff (fun h => Apart.symm h)).1 h.apart, h.seen, fun q hq r hr => h.off q hq r (hp.mem_iff.2 hr)⟩

/-- A new row. -/
theorem Bag.new {e : TypeId} {s : Nat} {v : Value} {n : Nat} {xs : List Value} (h : Bag D w rs qs) (hb : Below w.heap.size w w') (ho : w'.ownsRow w.heap.size e s v n xs) (hD : D ≤ w.heap.size) :
    Bag D w' (⟨e, s, v, n, xs⟩ :: rs) qs := by
  have k := h.below hb
  refine ⟨fun r hr => ?_, List.pairwise_cons.2 ⟨fun r hr g hg hg' => ?_, k.apart⟩, k.seen, fun q hq' r hr => ?_⟩
  · rcases List.mem_cons.1 hr with rfl | hr
    · exact own_mono ho hD
    · exact k.own r hr
  · have h1 := (ho.lt g hg).1
    have h2 := ((h.own r hr).lt g hg').2
    omega
  · rcases List.mem_cons.1 hr with rfl | hr
    · intro g hg hg'
      have h1 := (ho.lt g hg').1
      have h2 := (h.seen q hq').2 g hg
      omega
    · exact k.off q hq' r hr

/-- The first row has grown, or was written to. -/
theorem Bag.grow {r : Row1} {v' : Value} {n' : Nat} {xs' : List Value} (h : Bag D w (r :: rs) qs) (hg : w.grownBy w' r.v.ownBlock) (ho : w'.ownsRow D r.e r.s v' n' xs')
    (hw : v'.ownBlock = r.v.ownBlock ∨ ∃ g, v'.ownBlock = some g ∧ w.heap.size ≤ g) : Bag D w' (⟨r.e, r.s, v', n', xs'⟩ :: rs) qs := by
  obtain ⟨h1, h2⟩ := List.pairwise_cons.1 h.apart
  refine ⟨fun x hx => ?_, List.pairwise_cons.2 ⟨fun x hx => ?_, h2⟩, fun q hq' => ?_, fun q hq' x hx => ?_⟩
  · rcases List.mem_cons.1 hx with rfl | hx
    · exact ho
    · exact (h.own x (List.mem_cons_of_mem _ hx)).kept hg (h1 x hx).symm.ne
  · refine ((h1 x hx).symm.moved (fun g hg => ((h.own x (List.mem_cons_of_mem _ hx)).lt g hg).2) hw).symm
  · exact ⟨(h.seen q hq').1.grown hg (h.off q hq' r (List.mem_cons_self ..)).ne, fun g hg' => Nat.lt_of_lt_of_le ((h.seen q hq').2 g hg') hg.size⟩
  · rcases List.mem_cons.1 hx with rfl | hx
    · exact (h.off q hq' r (List.mem_cons_self ..)).moved (h.seen q hq').2 hw
    · exact h.off q hq' x (List.mem_cons_of_mem _ hx)

/-- A row is forgotten. -/
theorem Bag.drop {r : Row1} (h : Bag D w (r :: rs) qs) : Bag D w rs qs :=
  ⟨fun x hx => h.own x (List.mem_cons_of_mem _ hx), (List.pairwise_cons.1 h.apart).2, h.seen, fun q hq x hx => h.off q hq x (List.mem_cons_of_mem _ hx)⟩

end Go.Proofs.Ytdhkmcmipkfkjaa

namespace Go.Proofs.Ytdhkmcmipkfkjaa
open Go.RowKit Go.Lib

theorem one_cell (w : World) (x : Value) (t : TypeId) : Cells (w.alloc (.cells #[x] t)) w.heap.size 0 [x] := by
  intro j u hj
  match j, hj with
  | 0, hj =>
    simp at hj
    subst hj
    rw [World.cell?_alloc_new]
    rfl
  | j + 1, hj => simp at hj

theorem own_one {w : World} {B : Nat} {e : TypeId} {s : Nat} {v : Value} {n : Nat} {xs : List Value} (h : w.ownsRow B e s v n xs) : ∃ a c, v = .slice a n c ∧ v.oneCell' = true := by
  rcases h.2 with ⟨rfl, rfl⟩ | ⟨g, cap, cur, rfl, _⟩
  · exact ⟨_, _, rfl, rfl⟩
  · exact ⟨_, _, rfl, rfl⟩

end Go.Proofs.Ytdhkmcmipkfkjaa

namespace Go.Proofs.Ytdhkmcmipkfkjaa
open Go.RowKit Go.Lib

/-- The first k of M, and what is behind the first k of xs. -/
def part (M xs : List Value) (k : Nat) : List Value := M.take k ++ xs.drop k

end Go.Proofs.Ytdhkmcmipkfkjaa

namespace Go.Proofs.Ytdhkmcmipkfkjaa
open Go.RowKit Go.Lib

section
variable {α : Type} {enc : α → List Value} {s : Nat}

end

/-- A row's cells that are laid anew. -/
theorem new_cells (w : World) (cs : Array Value) (t : TypeId) : Cells (w.alloc (.cells cs t)) w.heap.size 0 cs.toList := by
  intro j u hj
  rw [Nat.zero_add, World.cell?_alloc_new]
  simpa using hj

end Go.Proofs.Ytdhkmcmipkfkjaa

namespace Go.Proofs.Ytdhkmcmipkfkjaa
open Go.RowKit Go.Lib

section
variable {P : Program}

/-- 'append(r, x...)', r one's own row (or nil), x any slice: what r held stays where it was. -/
theorem step_append_any {ops : Array Oper} {o : Oper} {a : Act} {w : World} {K : Act → World → Prop} {Q : Exit → Act → World → Prop} {E : Prop} (hgd : o.guard = none) (s x : Operand) (t : TypeId)
    (ho : o.op = .call { callee := .builtin .append, args := #[s, x], argTypes := #[t, t] })
    (base : Nat) (e : TypeId) (i : TypeInfo) (z : Value) (size bytes : Nat) (ht : P.underlying t = some (.slice e)) (hi : P.info? e = some i) (hz : i.zero = some z)
    (hsize : i.size = size) (hby : i.bytes = bytes) (hzs : z.cells.size = size) (hsz : 0 < size)
    (v : Value) (n : Nat) (xs : List Value) (hs : a.eval s = v) (hown : w.ownsRow base e size v n xs)
    (u : Value) (m : Nat) (news : List Value) (hx : a.eval x = u) (hrow : CellRow w u m news) (hl : news.length = m * size) (h1 : ∀ u ∈ news, u.oneCell' = true)
    (h63 : n + m ≤ maxLen) (hbytes : (n + m) * bytes ≤ 140737488355328) (hbase : base ≤ w.heap.size)
    (h : ∀ v' w', w'.ownsRow base e size v' (n + m) (xs ++ news) → w.grownBy w' v.ownBlock → (v'.ownBlock = v.ownBlock ∨ ∃ g, v'.ownBlock = some g ∧ w.heap.size ≤ g) → K (a.put o.dst v') w') :
    if Region.wanted o (yielded ops a.tmps) = true then Oper.wp P o a w K Q else E := by
  obtain ⟨sa, c, rfl, hc⟩ := hrow
  by_cases hm : m = 0
  · subst hm
    have hn : news = [] := List.eq_nil_of_length_eq_zero (by simpa using hl)
    subst hn
    cases sa with
    | none =>
      have hw : Region.wanted o (yielded ops a.tmps) = true := by simp [Region.wanted, hgd]
      rw [if_pos hw]
      have hr := run_append_none (P := P) w base t o.type e i size c ht hi v n xs hown
      unfold Oper.wp
      simp [execOp, ho, resolve, invoke, builtin, hs, hx, hr, Result.andThen]
      exact h v w (by simpa using hown) (grownBy_refl _ _) (.inl rfl)
    | some ad =>
      obtain ⟨b, off, f⟩ := ad
      have hw : Region.wanted o (yielded ops a.tmps) = true := by simp [Region.wanted, hgd]
      rw [if_pos hw]
      obtain ⟨v', w', hr, h2, h3, h4, h5⟩ := run_append_keep (P := P) w base t o.type e i z size bytes ht hi hz hsize hby hzs hsz v n xs hown ⟨b, off, f⟩ 0 c [] (by simp) (fun j u hj => by simp at hj) (fun u hu => absurd hu List.not_mem_nil) h63 hbytes hbase
      unfold Oper.wp
      simp [execOp, ho, resolve, invoke, builtin, hs, hx, hr, Result.andThen]
      exact h v' w' h2 h3 h5
  · obtain ⟨b, oo, rfl, _, hcs⟩ := hc.resolve_left (by intro hn; rw [hn] at hl; simp at hl; have := Nat.mul_pos (Nat.pos_of_ne_zero hm) hsz; omega)
    exact step_append_keep hgd s x t ho base e i z size bytes ht hi hz hsize hby hzs hsz v n xs hs hown b oo m c news hx hcs hl h1 h63 hbytes hbase (fun v' w' h2 h3 _ h5 => h v' w' h2 h3 h5)
end

/-- The first k of a row, and those behind. -/
theorem CellRow.take {w : World} {a : Option Addr} {n c c' : Nat} {xs : List Value} (h : CellRow w (.slice a n c) n xs) (k : Nat) : CellRow w (.slice a k c') k (xs.take k) := by
  obtain ⟨a', c1, hv, h⟩ := h
  simp only [Value.slice.injEq] at hv
  obtain ⟨rfl, _, rfl⟩ := hv
  refine ⟨_, _, rfl, ?_⟩
  rcases h with h | ⟨b, o, ha, hl, hc⟩
  · exact .inl (by rw [h]; simp)
  · refine .inr ⟨b, o, ha, hl, fun j u hj => hc j u ?_⟩
    rw [List.getElem?_take] at hj
    split at hj
    · exact hj
    · cases hj

theorem CellRow.drop {w : World} {b o n c c' : Nat} {xs : List Value} (h : CellRow w (.slice (some ⟨b, o, none⟩) n c) n xs) (k : Nat) : CellRow w (.slice (some ⟨b, o + k, none⟩) (n - k) c') (n - k) (xs.drop k) := by
  obtain ⟨a', c1, hv, h⟩ := h
  simp only [Value.slice.injEq] at hv
  obtain ⟨rfl, _, rfl⟩ := hv
  refine ⟨_, _, rfl, ?_⟩
  rcases h with h | ⟨b', o', ha, hl, hc⟩
  · exact .inl (by rw [h]; simp)
  · simp only [Option.some.injEq, Addr.mk.injEq, and_true] at ha
    obtain ⟨rfl, rfl⟩ := ha
    refine .inr ⟨_, _, rfl, hl, fun j u hj => ?_⟩
    rw [List.getElem?_drop] at hj
    have := hc (k + j) u hj
    rwa [← Nat.add_assoc] at this

end Go.Proofs.Ytdhkmcmipkfkjaa
