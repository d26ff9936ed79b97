/-
  A bundle of texts: BG BKN KH BKP KS BKQ KIH BKR.
-/
import Derived.Deep.RegionHeld3
import Derived.Test.YtdchjcidfaencaaGreatQ10
import Derived.Test.YtdchjcidfaencaaGreatQ11
import Derived.Test.YtdchjcidfaencaaGreatQ04
namespace Go.Proofs.YtdchjcidfaencaaGreat
open Go.RowKit Go.Lib

/-- A row: its elements' type, the cells of one, the slice, how many there are, the cells. -/
structure Row1 where
  e : TypeId
  s : Nat
  v : Value
  n : Nat
  xs : List Value

/-- Two slices that lie in no common block. -/
def Apart (a b : Value) : Prop := ∀ g, a.ownBlock = some g → b.ownBlock ≠ some g

theorem Apart.symm {a b : Value} (h : Apart a b) : Apart b a := fun g h1 h2 => h g h2 h1

theorem Apart.ne {a b : Value} (h : Apart a b) : a.ownBlock = none ∨ a.ownBlock ≠ b.ownBlock := by
  cases ha : a.ownBlock with
  | none => exact .inl rfl
  | some g => exact .inr fun hb => h g ha hb.symm

theorem Apart.moved {a b b' : Value} {n : Nat} (h : Apart a b) (ha : ∀ g, a.ownBlock = some g → g < n) (hb : b'.ownBlock = b.ownBlock ∨ ∃ g, b'.ownBlock = some g ∧ n ≤ g) : Apart a b' := by
  intro g hg he
  rcases hb with e1 | ⟨k, e1, e2⟩
  · exact h g hg (e1 ▸ he)
  · have := ha g hg
    rw [e1] at he
    simp at he
    omega

/-- Rows rs above D, each one's own, which lie apart; and rows qs that are only looked at, in no block of those. -/
structure Bag (D : Nat) (w : World) (rs qs : List Row1) : Prop where
  own : ∀ r ∈ rs, w.ownsRow D r.e r.s r.v r.n r.xs
  apart : rs.Pairwise fun a b => Apart a.v b.v
  seen : ∀ q ∈ qs, CellRow w q.v q.n q.xs ∧ ∀ g, q.v.ownBlock = some g → g < w.heap.size
  off : ∀ q ∈ qs, ∀ r ∈ rs, Apart q.v r.v

theorem CellRow.grown {w w' : World} {row : Option Nat} {v : Value} {n : Nat} {xs : List Value} (h : CellRow w v n xs) (hg : w.grownBy w' row) (hne : v.ownBlock = none ∨ v.ownBlock ≠ row) : CellRow w' v n xs := by
  obtain ⟨a, c, rfl, h⟩ := h
  refine ⟨a, c, rfl, ?_⟩
  rcases h with h | ⟨b, o, rfl, hl, hc⟩
  · exact .inl h
  · refine .inr ⟨b, o, rfl, Nat.lt_of_lt_of_le hl hg.size, fun j u hj => ?_⟩
    rw [World.cell?_of_block (hg.block b hl (by simpa [Value.ownBlock] using hne))]
    exact hc j u hj

theorem own_mono {w : World} {B D : Nat} {e : TypeId} {s : Nat} {v : Value} {n : Nat} {xs : List Value} (h : w.ownsRow B e s v n xs) (hD : D ≤ B) : w.ownsRow D e s v n xs := by
  refine ⟨h.1, ?_⟩
  rcases h.2 with hn | ⟨g, cap, cur, hv, hb, rest⟩
  · exact .inl hn
  · exact .inr ⟨g, cap, cur, hv, Nat.le_trans hD hb, rest⟩

/-- An own row's cells, whatever their number for each element. -/
theorem own_row {w : World} {B : Nat} {e : TypeId} {s : Nat} {v : Value} {n : Nat} {xs : List Value} (h : w.ownsRow B e s v n xs) : CellRow w v n xs := by
  obtain ⟨hl, h⟩ := h
  rcases h with ⟨rfl, rfl⟩ | ⟨g, cap, cur, rfl, hB, hrow, hcap, hmax, hcs, htk⟩
  · exact ⟨none, 0, rfl, .inl (by simpa using hl)⟩
  · refine ⟨_, _, rfl, .inr ⟨g, 0, rfl, (Array.getElem?_eq_some_iff.1 hrow).1, fun j u hj => ?_⟩⟩
    rw [Nat.zero_add, cell_of_row w g j _ _ _ hrow]
    rw [← htk, List.getElem?_take] at hj
    split at hj
    · simpa using hj
    · cases hj

variable {D : Nat} {w w' : World} {rs qs : List Row1}

theorem Bag.nil (D : Nat) (w : World) : Bag D w [] [] := ⟨fun _ h => absurd h List.not_mem_nil, List.Pairwise.nil, fun _ h => absurd h List.not_mem_nil, fun _ h => absurd h List.not_mem_nil⟩

/-- All that lay is as it was. -/
theorem Bag.below (h : Bag D w rs qs) (hb : Below w.heap.size w w') : Bag D w' rs qs :=
  ⟨fun r hr => (h.own r hr).kept (grown_of_below hb) (by cases r.v.ownBlock <;> simp), h.apart, fun q hq => ⟨(h.seen q hq).1.kept hb, fun g hg => Nat.lt_of_lt_of_le ((h.seen q hq).2 g hg) hb.size⟩, h.off⟩

/-- A block below D is written to. -/
theorem Bag.stored {p : Nat} (h : Bag D w rs []) (hg : w.grownBy w' (some p)) (hp : p < D) : Bag D w' rs [] := by
  refine ⟨fun r hr => (h.own r hr).kept hg ?_, h.apart, fun _ h => absurd h List.not_mem_nil, fun _ h => absurd h List.not_mem_nil⟩
  cases hv : r.v.ownBlock with
  | none => exact .inl rfl
  | some g =>
    refine .inr fun he => ?_
    have := ((h.own r hr).lt g hv).1
    simp at he
    omega

theorem Bag.perm {rs' : List Row1} (h : Bag D w rs qs) (hp : rs.Perm rs') : Bag D w rs' qs :=
  ⟨fun r hr => h.own r (hp.mem_iff.2 hr), (hp.pairwise_iff (fun h => Apart.symm h)).1 h.apart, h.seen, fun q hq r hr => h.off q hq r (hp.mem_iff.2 hr)⟩

/-- A new row. -/
theorem Bag.new {e : TypeId} {s : Nat} {v : Value} {n : Nat} {xs : List Value} (h : Bag D w rs qs) (hb : Below w.heap.size w w') (ho : w'.ownsRow w.heap.size e s v n xs) (hD : D ≤ w.heap.size) :
    Bag D w' (⟨e, s, v, n, xs⟩ :: rs) qs := by
  have k := h.below hb
  refine ⟨fun r hr => ?_, List.pairwise_cons.2 ⟨fun r hr g hg hg' => ?_, k.apart⟩, k.seen, fun q hq' r hr => ?_⟩
  · rcases List.mem_cons.1 hr with rfl | hr
    · exact own_mono ho hD
    · exact k.own r hr
  · have h1 := (ho.lt g hg).1
    have h2 := ((h.own r hr).lt g hg').2
    omega
  · rcases List.mem_cons.1 hr with rfl | hr
    · intro g hg hg'
      have h1 := (ho.lt g hg').1
      have h2 := (h.seen q hq').2 g hg
      omega
    · exact k.off q hq' r hr

/-- The first row has grown, or was written to. -/
theorem Bag.grow {r : Row1} {v' : Value} {n' : Nat} {xs' : List Value} (h : Bag D w (r :: rs) qs) (hg : w.grownBy w' r.v.ownBlock) (ho : w'.ownsRow D r.e r.s v' n' xs')
    (hw : v'.ownBlock = r.v.ownBlock ∨ ∃ g, v'.ownBlock = some g ∧ w.heap.size ≤ g) : Bag D w' (⟨r.e, r.s, v', n', xs'⟩ :: rs) qs := by
  obtain ⟨h1, h2⟩ := List.pairwise_cons.1 h.apart
  refine ⟨fun x hx => ?_, List.pairwise_cons.2 ⟨fun x hx => ?_, h2⟩, fun q hq' => ?_, fun q hq' x hx => ?_⟩
  · rcases List.mem_cons.1 hx with rfl | hx
    · exact ho
    · exact (h.own x (List.mem_cons_of_mem _ hx)).kept hg (h1 x hx).symm.ne
  · refine ((h1 x hx).symm.moved (fun g hg => ((h.own x (List.mem_cons_of_mem _ hx)).lt g hg).2) hw).symm
  · exact ⟨(h.seen q hq').1.grown hg (h.off q hq' r (List.mem_cons_self ..)).ne, fun g hg' => Nat.lt_of_lt_of_le ((h.seen q hq').2 g hg') hg.size⟩
  · rcases List.mem_cons.1 hx with rfl | hx
    · exact (h.off q hq' r (List.mem_cons_self ..)).moved (h.seen q hq').2 hw
    · exact h.off q hq' x (List.mem_cons_of_mem _ hx)

/-- The first row is put aside: it is only looked at from now on. -/
theorem Bag.aside {r : Row1} (h : Bag D w (r :: rs) qs) : Bag D w rs (r :: qs) := by
  obtain ⟨h1, h2⟩ := List.pairwise_cons.1 h.apart
  refine ⟨fun x hx => h.own x (List.mem_cons_of_mem _ hx), h2, fun q hq => ?_, fun q hq x hx => ?_⟩
  · rcases List.mem_cons.1 hq with rfl | hq
    · exact ⟨own_row (h.own _ (List.mem_cons_self ..)), fun g hg => ((h.own _ (List.mem_cons_self ..)).lt g hg).2⟩
    · exact h.seen q hq
  · rcases List.mem_cons.1 hq with rfl | hq
    · exact h1 x hx
    · exact h.off q hq x (List.mem_cons_of_mem _ hx)

/-- Rows are forgotten. -/
theorem Bag.sublist {rs' : List Row1} (h : Bag D w rs qs) (s : rs'.Sublist rs) : Bag D w rs' qs :=
  ⟨fun r hr => h.own r (s.subset hr), h.apart.sublist s, h.seen, fun q hq r hr => h.off q hq r (s.subset hr)⟩

/-- A row is forgotten. -/
theorem Bag.drop {r : Row1} (h : Bag D w (r :: rs) qs) : Bag D w rs qs :=
  ⟨fun x hx => h.own x (List.mem_cons_of_mem _ hx), (List.pairwise_cons.1 h.apart).2, h.seen, fun q hq x hx => h.off q hq x (List.mem_cons_of_mem _ hx)⟩

/-- The first row has been grown, step by step: what it was and what it is are both put aside. -/
theorem Bag.regrown {e : TypeId} {v v' : Value} {n m : Nat} {xs ys : List Value} (h : Bag D w (⟨e, 1, v, n, xs⟩ :: rs) qs) (g : GrewRow D e w w' v n v' m ys) : Bag D w' rs (⟨e, 1, v, n, xs⟩ :: ⟨e, 1, v', m, ys⟩ :: qs) := by
  obtain ⟨h1, h2⟩ := List.pairwise_cons.1 h.apart
  have k1 : Bag D w' (⟨e, 1, v', m, ys⟩ :: rs) qs := h.grow g.grown g.own g.where_
  have k2 := k1.aside
  have o : w.ownsRow D e 1 v n xs := h.own _ (List.mem_cons_self ..)
  refine ⟨k2.own, k2.apart, fun q hq => ?_, fun q hq x hx => ?_⟩
  · rcases List.mem_cons.1 hq with rfl | hq
    · refine ⟨?_, fun b hb => Nat.lt_of_lt_of_le (o.lt b hb).2 g.grown.size⟩
      have c := own_row o
      obtain ⟨a, cc, rfl, c⟩ := c
      refine ⟨a, cc, rfl, ?_⟩
      rcases c with c | ⟨b, off, rfl, hl, hc⟩
      · exact .inl c
      · have hb : off = 0 := by
          rcases o.2 with ⟨h, _⟩ | ⟨b', cap, cur, h, _⟩
          · simp at h
          · simp only [Value.slice.injEq, Option.some.injEq, Addr.mk.injEq] at h
            exact h.1.2.1
        subst hb
        refine .inr ⟨b, 0, rfl, Nat.lt_of_lt_of_le hl g.grown.size, fun j u hj => ?_⟩
        have hlt : j < n := by
          have a1 : j < xs.length := (List.getElem?_eq_some_iff.1 hj).1
          have a2 : xs.length = n * 1 := o.1
          omega
        rw [Nat.zero_add, g.kept b rfl j hlt]
        have := hc j u hj
        rwa [Nat.zero_add] at this
    · exact k2.seen q hq
  · rcases List.mem_cons.1 hq with rfl | hq
    · exact h1 x hx
    · exact k2.off q hq x hx

theorem split_at {A : List Row1} {j : Nat} {r : Row1} (h : A[j]? = some r) : A = A.take j ++ r :: A.drop (j + 1) := by
  obtain ⟨hj, rfl⟩ := List.getElem?_eq_some_iff.1 h
  rw [List.getElem_cons_drop, List.take_append_drop]

/-- The j-th row of A comes to the front. -/
theorem Bag.front {a r : Row1} {A : List Row1} {j : Nat} (h : Bag D w (a :: (A ++ rs)) qs) (hj : A[j]? = some r) : Bag D w (r :: a :: (A.take j ++ A.drop (j + 1) ++ rs)) qs := by
  have e := split_at hj
  refine h.perm ?_
  have p1 : (A ++ rs).Perm (r :: (A.take j ++ A.drop (j + 1) ++ rs)) := by
    have : A ++ rs = A.take j ++ r :: (A.drop (j + 1) ++ rs) := by
      conv => lhs; rw [e]
      simp
    rw [this, List.append_assoc]
    exact List.perm_middle
  exact (p1.cons a).trans (List.Perm.swap _ _ _)

/-- And back. -/
theorem Bag.back {a r : Row1} {A : List Row1} {j : Nat} (h : Bag D w (r :: a :: (A.take j ++ A.drop (j + 1) ++ rs)) qs) (hj : j < A.length) : Bag D w (a :: (A.set j r ++ rs)) qs := by
  refine h.perm ((List.Perm.swap _ _ _).trans (List.Perm.cons a ?_))
  have : A.set j r ++ rs = A.take j ++ r :: (A.drop (j + 1) ++ rs) := by
    rw [List.set_eq_take_append_cons_drop, if_pos hj]
    simp
  rw [this, List.append_assoc]
  exact List.perm_middle.symm

end Go.Proofs.YtdchjcidfaencaaGreat

namespace Go.Proofs.YtdchjcidfaencaaGreat
open Go.RowKit Go.Lib

theorem one_cell (w : World) (x : Value) (t : TypeId) : Cells (w.alloc (.cells #[x] t)) w.heap.size 0 [x] := by
  intro j u hj
  match j, hj with
  | 0, hj =>
    simp at hj
    subst hj
    rw [World.cell?_alloc_new]
    rfl
  | j + 1, hj => simp at hj

theorem own_one {w : World} {B : Nat} {e : TypeId} {s : Nat} {v : Value} {n : Nat} {xs : List Value} (h : w.ownsRow B e s v n xs) : ∃ a c, v = .slice a n c ∧ v.oneCell' = true := by
  rcases h.2 with ⟨rfl, rfl⟩ | ⟨g, cap, cur, rfl, _⟩
  · exact ⟨_, _, rfl, rfl⟩
  · exact ⟨_, _, rfl, rfl⟩

theorem block_kept {w w' : World} {p D : Nat} {row : Option Nat} {o : Obj} (h : w.heap[p]? = some o) (hp : p < D) (hg : w.grownBy w' row) (hr : ∀ g, row = some g → D ≤ g) : w'.heap[p]? = some o := by
  rw [hg.block p (Array.getElem?_eq_some_iff.1 h).1 ?_]
  · exact h
  · intro he
    have := hr p he.symm
    omega

theorem grown_alloc {w w' : World} {row : Option Nat} {o : Obj} (h : (w.alloc o).grownBy w' row) : w.grownBy w' row := by
  have h1 : w.grownBy (w.alloc o) row := World.grownBy_alloc w o row
  exact grownBy_trans h1 h

set_option maxRecDepth 20000 in
set_option maxHeartbeats 1600000 in
theorem Ints_any (p D : Nat) (V W l : Value) (N : Nat) (LV LW : List Value) (ss : List Int) (rs : List Row1) (cs : Array Value) (T : TypeId) (w : World)
    (hp : p < D) (hD : D ≤ w.heap.size) (hB : w.heap[p]? = some (.cells cs T (0, 0))) (h2 : cs[2]? = some V) (h3 : cs[3]? = some W) (hN : N < 250) (hn : ss.length ≤ 1000000)
    (hb : Bag D w (⟨25, 1, V, N, LV⟩ :: ⟨25, 1, W, N, LW⟩ :: ⟨3, 1, l, ss.length, ss.map (Value.int .i64)⟩ :: rs) []) :
    Calls Tryz.prog 13 #[.pointer (some ⟨p, 0, none⟩), l] w fun e w' => e = .returned (.tuple #[]) ∧ ∃ V' W' u,
      w'.heap[p]? = some (.cells ((cs.setIfInBounds 2 V').setIfInBounds 3 W') T (0, 0)) ∧ Below p w w' ∧
      Bag D w' (⟨25, 1, V', N + 1, LV ++ [l]⟩ :: ⟨25, 1, W', N + 1, LW ++ [u]⟩ :: ⟨3, 1, l, ss.length, ss.map (Value.int .i64)⟩ :: ⟨3, 1, u, ss.length, ss.map (Value.int .i64)⟩ :: rs) [] := by
  obtain ⟨i0, hi, hz0, hz1, hz2⟩ := info_parts (show (Tryz.prog.info? 25).map (fun i => (i.zero, i.size, i.bytes)) = some (some (.slice none 0 0), 1, 24) by kernel_rfl)
  have HI := Hid.of hi
  have HZ0 := Hid.of hz0
  have HZ1 := Hid.of hz1
  have HZ2 := Hid.of hz2
  clear hi hz0 hz1 hz2
  have HB := Hid.of hb
  have oV : Hid (w.ownsRow D 25 1 V N LV) := Hid.of (hb.own _ (List.mem_cons_self ..))
  have oW : w.ownsRow D 25 1 W N LW := hb.own _ (List.mem_cons_of_mem _ (List.mem_cons_self ..))
  have ol := hb.own _ (List.mem_cons_of_mem _ (List.mem_cons_of_mem _ (List.mem_cons_self ..)))
  obtain ⟨la, lc, hle, _⟩ := own_one ol
  simp only at hle
  obtain ⟨Va, Vc, hVe, _⟩ := own_one oV.out
  obtain ⟨Wa, Wc, hWe, _⟩ := own_one oW
  subst hVe
  subst hWe
  subst hle
  have hpl : p < w.heap.size := by omega
  have c2 : w.cell? ⟨p, 2, none⟩ = some (.slice Va N Vc) := by rw [cell_of_row w p 2 _ _ _ hB]; exact h2
  have N0 : (N : Int) < 250 := by omega
  have HBk := Hid.of hB
  have H2 := Hid.of h2
  have H3 := Hid.of h3
  obtain ⟨n, hnn⟩ : ∃ n, ss.length = n := ⟨_, rfl⟩
  clear hb ol oW hB h2 h3
  rw [hnn] at HB hn ⊢
  have HNN := Hid.of hnn
  clear hnn
  go_enter Tryz.func13, Tryz.ntmps13
  go_wp2_with (at_builtin; refine append_keep_law rfl _ _ 36 rfl D 25 i0 (.slice none 0 0) 1 24 Tryz.underlying36 HI.out HZ0.out HZ1.out HZ2.out rfl (by decide) (.slice Va N Vc) N LV rfl (oV.out.alloc _) w.heap.size 0 1 1 [.slice la n lc] rfl (one_cell w _ _) rfl (by simp [Value.oneCell']) (by unfold maxLen; omega) (by omega) (by simp; omega) ?_; intro v1 w1 o1 g1 k1 m1; obtain ⟨a1, d1, e1, _⟩ := own_one o1; subst e1; have O1 := Hid.of o1; have G1 := Hid.of (grown_alloc g1); have M1 := Hid.of m1; have P1 := Hid.of (block_kept HBk.out hp G1.out (fun g hg => (oV.out.lt g hg).1)); have c3 : w1.cell? ⟨p, 2, none⟩ = some (.slice Va N Vc) := (cell_of_row w1 p 2 _ _ _ P1.out).trans H2.out; have f3 : w1.frozen? ⟨p, 2, none⟩ = false := row_frozen P1.out; clear o1 g1 k1 m1)
  have hm := M1.out
  have B1 : Bag D w1 _ [] := HB.out.grow G1.out O1.out (hm.imp_right fun ⟨g, e, h⟩ => ⟨g, e, by simp at h; omega⟩)
  have B2 := B1.stored (p := p) (grownBy_setCell w1 p 2 (.slice a1 (N + 1) d1)) hp
  have P2 := row_set (i := 2) P1.out (.slice a1 (N + 1) d1)
  have b2 : Below p w (w1.setCell ⟨p, 2, none⟩ (.slice a1 (N + 1) d1)) := by
    have x1 := (Below.refl p w).grown G1.out (by omega) (fun k hk => by have := (oV.out.lt k hk).1; omega)
    exact x1.grown (grownBy_setCell w1 p 2 (.slice a1 (N + 1) d1)) (by have := x1.size; omega) (fun k hk => by simp at hk; omega)
  obtain ⟨w2, hw2⟩ : ∃ w2, w1.setCell ⟨p, 2, none⟩ (.slice a1 (N + 1) d1) = w2 := ⟨_, rfl⟩
  rw [hw2] at B2 P2 b2 ⊢
  clear hw2 B1 hm O1 G1 M1 P1 c3 f3 c2 oV HBk HB
  have hc3 : (cs.setIfInBounds 2 (.slice a1 (N + 1) d1))[3]? = some (.slice Wa N Wc) := by
    rw [Array.getElem?_setIfInBounds_ne (by decide)]; exact H3.out
  have hpl2 : p < w2.heap.size := (Array.getElem?_eq_some_iff.1 P2).1
  have q0 : w2.cell? ⟨p, 3, none⟩ = some (.slice Wa N Wc) := by rw [cell_of_row w2 p 3 _ _ _ P2]; exact hc3
  have Q0 := Hid.of q0
  have BB2 := Hid.of B2
  have PP2 := Hid.of P2
  have Bb2 := Hid.of b2
  have hD2 : D ≤ w2.heap.size := Nat.le_trans hD b2.size
  have HL : Hid (CellRow w2 (.slice la n lc) n (ss.map (Value.int .i64))) := Hid.of (own_row (B2.own _ (List.mem_cons_of_mem _ (List.mem_cons_of_mem _ (List.mem_cons_self ..)))))
  have H33 := Hid.of hc3
  have HLC : Hid (CellRow w2 (.slice la n lc) ss.length (ss.map (Value.int .i64))) := Hid.of (by rw [HNN.out]; exact HL.out)
  clear B2 P2 b2 hc3
  go_region_law (first | (refine step_append_keep rfl (.tmp 24) (.tmp 27) 36 rfl D 25 i0 (.slice none 0 0) 1 24 Tryz.underlying36 HI.out HZ0.out HZ1.out HZ2.out rfl (by decide) (.slice Wa N Wc) N LW (by simp [Act.eval]) (OW3.out.alloc _) n3.heap.size 0 1 1 [.slice ua n uc] (by simp [Act.eval]) (one_cell n3 _ _) rfl (by simp [Value.oneCell']) (by unfold maxLen; omega) (by omega) (by simp; omega) ?_; intro v4 w4 o4 g4 k4 m4; obtain ⟨a4, d4, e4, _⟩ := own_one o4; subst e4; have O4 := Hid.of o4; have G4 := Hid.of (grown_alloc g4); have M4 := Hid.of m4; have P4 := Hid.of (block_kept P3.out hp G4.out (fun g hg => (OW3.out.lt g hg).1)); clear q0; have q0 : w4.cell? ⟨p, 3, none⟩ = some (.slice Wa N Wc) := (cell_of_row w4 p 3 _ _ _ P4.out).trans H33.out; have f4 : w4.frozen? ⟨p, 3, none⟩ = false := row_frozen P4.out; clear o4 g4 k4 m4) | (go_simp; go_at_call 29; refine (copyInts_any (.slice la n lc) ss _ (by exact HLC.out) (by rw [HNN.out]; exact hn)).mono ?_; rintro e' n3 ⟨uv, rfl, ou, c3⟩; rw [HNN.out] at ou; obtain ⟨ua, uc, hue, _⟩ := own_one ou; subst hue; have C3 : Hid (Below w2.heap.size w2 n3) := Hid.of ((Below.refl _ w2).drew.trans c3); have OU := Hid.of ou; have B3 := Hid.of (BB2.out.below C3.out); have P3 := Hid.of (block_kept PP2.out hp (grown_of_below C3.out) (fun g hg => by cases hg)); have OW3 := Hid.of (B3.out.own _ (List.mem_cons_of_mem _ (List.mem_cons_self ..))); have hD3 : D ≤ n3.heap.size := Nat.le_trans hD2 c3.size; clear c3 ou q0; have q0 : n3.cell? ⟨p, 3, none⟩ = some (.slice Wa N Wc) := (by rw [C3.out.cell hpl2]; exact Q0.out); have qA : (n3.alloc (.cells #[.slice ua n uc] 25)).cell? ⟨p, 3, none⟩ = some (.slice Wa N Wc) := (cell_of_row _ p 3 _ _ _ (row_alloc P3.out)).trans H33.out))
  all_goals
    go_end0
    have n1 := BB2.out.new C3.out OU.out hD2
    have n2 := n1.perm (List.perm_middle (l₁ := [_, _]))
    have hm := M4.out.imp_right fun ⟨g, e, (h : (n3.alloc (Obj.cells #[Value.slice ua n uc] 25)).heap.size ≤ g)⟩ => (⟨g, e, by simp at h; omega⟩ : ∃ g, (Value.slice a4 (N + 1) d4).ownBlock = some g ∧ n3.heap.size ≤ g)
    have n3' := n2.grow G4.out O4.out hm
    have n4 := n3'.stored (p := p) (grownBy_setCell w4 p 3 (.slice a4 (N + 1) d4)) hp
    refine ⟨rfl, _, _, _, row_set (i := 3) P4.out (.slice a4 (N + 1) d4), ?_, n4.perm ((((List.Perm.swap _ _ _).cons _).trans (List.Perm.swap _ _ _)).trans (((List.Perm.swap _ _ _).cons _).cons _))⟩
    have x1 : Below p w n3 := Bb2.out.trans (C3.out.mono (by omega))
    have x2 := x1.grown G4.out (by have := x1.size; omega) (fun k hk => by have := (OW3.out.lt k hk).1; omega)
    exact x2.grown (grownBy_setCell w4 p 3 (.slice a4 (N + 1) d4)) (by have := x2.size; omega) (fun k hk => by simp at hk; omega)

end Go.Proofs.YtdchjcidfaencaaGreat

namespace Go.Proofs.YtdchjcidfaencaaGreat
open Go.RowKit Go.Lib

/-- The Book lies at p, rows of one's own above D, all that is below p as it was. -/
structure Here (p D : Nat) (cs : Array Value) (T : TypeId) (w0 w : World) (rs qs : List Row1) : Prop where
  hp : p < D
  hD : D ≤ w.heap.size
  blk : w.heap[p]? = some (.cells cs T (0, 0))
  fr : Below p w0 w
  bag : Bag D w rs qs

theorem Here.next {p D : Nat} {cs : Array Value} {T : TypeId} {w0 w w' : World} {rs qs : List Row1} (h : Here p D cs T w0 w rs qs) (b : Below w.heap.size w w') : Here p D cs T w0 w' rs qs := by
  have h1 := h.hp
  have h2 := h.hD
  exact ⟨h1, Nat.le_trans h2 b.size, block_kept h.blk h1 (grown_of_below b) (fun g hg => by cases hg), h.fr.trans (b.mono (by omega)), h.bag.below b⟩

theorem Here.drewN {p D : Nat} {cs : Array Value} {T : TypeId} {w0 w : World} {rs qs : List Row1} (h : Here p D cs T w0 w rs qs) (q : Nat) : Here p D cs T w0 (w.drewN q) rs qs := h.next (below_drewN (Below.refl _ _) q)

theorem Here.cell {p D : Nat} {cs : Array Value} {T : TypeId} {w0 w : World} {rs qs : List Row1} (h : Here p D cs T w0 w rs qs) (i : Nat) (v : Value) (hv : cs[i]? = some v) : w.cell? ⟨p, i, none⟩ = some v := by
  rw [cell_of_row w p i _ _ _ h.blk]
  exact hv

theorem Here.more {p D : Nat} {cs : Array Value} {T : TypeId} {w0 w w' : World} {rs qs : List Row1} {e : TypeId} {s : Nat} {v : Value} {n : Nat} {xs : List Value} (h : Here p D cs T w0 w rs qs) (b : Below w.heap.size w w') (o : w'.ownsRow w.heap.size e s v n xs) : Here p D cs T w0 w' (⟨e, s, v, n, xs⟩ :: rs) qs := by
  have k := h.next b
  exact ⟨k.hp, k.hD, k.blk, k.fr, h.bag.new b o h.hD⟩

theorem Here.perm {p D : Nat} {cs : Array Value} {T : TypeId} {w0 w : World} {rs rs' qs : List Row1} (h : Here p D cs T w0 w rs qs) (k : rs.Perm rs') : Here p D cs T w0 w rs' qs := ⟨h.hp, h.hD, h.blk, h.fr, h.bag.perm k⟩

theorem Here.sublist {p D : Nat} {cs : Array Value} {T : TypeId} {w0 w : World} {rs rs' qs : List Row1} (h : Here p D cs T w0 w rs qs) (k : rs'.Sublist rs) : Here p D cs T w0 w rs' qs := ⟨h.hp, h.hD, h.blk, h.fr, h.bag.sublist k⟩

theorem Here.at {p D : Nat} {cs : Array Value} {T : TypeId} {w0 w : World} {rs qs : List Row1} (h : Here p D cs T w0 w rs qs) (r : Row1) (hr : r ∈ rs) : CellRow w r.v r.n r.xs := own_row (h.bag.own r hr)

end Go.Proofs.YtdchjcidfaencaaGreat

namespace Go.Proofs.YtdchjcidfaencaaGreat
open Go.RowKit Go.Lib

/-- The first k of M, and what is behind the first k of xs. -/
def part (M xs : List Value) (k : Nat) : List Value := M.take k ++ xs.drop k

theorem part_zero (M xs : List Value) : part M xs 0 = xs := by simp [part]

theorem part_all (M xs : List Value) (h : M.length = xs.length) : part M xs xs.length = M := by
  unfold part
  rw [← h, List.take_length, h, List.drop_length, List.append_nil]

theorem part_set (M xs : List Value) (k : Nat) (m : Value) (hm : M[k]? = some m) (h : M.length = xs.length) : (part M xs k).set k m = part M xs (k + 1) := by
  obtain ⟨hk, rfl⟩ := List.getElem?_eq_some_iff.1 hm
  have h1 : (M.take k).length = k := by rw [List.length_take]; omega
  have h2 : k < xs.length := by omega
  unfold part
  rw [List.set_append_right _ _ (by omega), h1, Nat.sub_self, List.drop_eq_getElem_cons h2, List.set_cons_zero, List.take_succ_eq_append_getElem hk, List.append_assoc]
  rfl

/-- A kept list of ints, and the same with its marks. -/
def itodo (x : Value × List Value) : Row1 := ⟨3, 1, x.1, x.2.length, x.2⟩
def idone (i : Nat) (x : Value × List Value) : Row1 := ⟨3, 1, x.1, x.2.length, (imarks i 0 x.2.length).map (Value.int .i64)⟩

/-- The lists, of which the first j have their marks. -/
def irows (j : Nat) (ls : List (Value × List Value)) : List Row1 := ls.mapIdx fun i x => if i < j then idone i x else itodo x

theorem irows_zero (ls : List (Value × List Value)) : irows 0 ls = ls.map itodo := by
  unfold irows
  apply List.ext_getElem?
  intro i
  simp

theorem irows_length (j : Nat) (ls : List (Value × List Value)) : (irows j ls).length = ls.length := by simp [irows]

theorem irows_at (j : Nat) (ls : List (Value × List Value)) (h : j < ls.length) : (irows j ls)[j]? = some (itodo ls[j]) := by
  simp [irows, h]

theorem irows_succ (j : Nat) (ls : List (Value × List Value)) (h : j < ls.length) : (irows j ls).set j (idone j ls[j]) = irows (j + 1) ls := by
  unfold irows
  apply List.ext_getElem?
  intro i
  rw [List.getElem?_set]
  by_cases e : j = i
  · subst e
    simp [h]
  · rw [if_neg e]
    simp only [List.getElem?_mapIdx]
    by_cases h2 : i < ls.length
    · rw [List.getElem?_eq_getElem h2]
      simp only [Option.map_some, Option.some.injEq]
      by_cases h3 : i < j
      · rw [if_pos h3, if_pos (by omega)]
      · rw [if_neg h3, if_neg (by omega)]
    · rw [List.getElem?_eq_none (by omega)]
      rfl

set_option maxHeartbeats 1600000 in
theorem putInts_any (p D : Nat) (V : Value) (ls : List (Value × List Value)) (rs : List Row1) (cs : Array Value) (T : TypeId) (w : World)
    (hp : p < D) (hD : D ≤ w.heap.size) (hB : w.heap[p]? = some (.cells cs T (0, 0))) (h2 : cs[2]? = some V) (hN : ls.length ≤ 1000) (hn : ∀ x ∈ ls, x.2.length ≤ 1000000)
    (hb : Bag D w (⟨25, 1, V, ls.length, ls.map (·.1)⟩ :: (irows 0 ls ++ rs)) []) :
    Calls Tryz.prog 49 #[.pointer (some ⟨p, 0, none⟩)] w fun e w' => e = .returned (.tuple #[]) ∧ Below p w w' ∧ w'.heap[p]? = some (.cells cs T (0, 0)) ∧
      Bag D w' (⟨25, 1, V, ls.length, ls.map (·.1)⟩ :: (irows ls.length ls ++ rs)) [] := by
  have HB := Hid.of hb
  have HBk := Hid.of hB
  have H2 := Hid.of h2
  have HNN := Hid.of hn
  obtain ⟨Va, Vc, hVe, _⟩ := own_one (hb.own _ (List.mem_cons_self ..))
  simp only at hVe
  subst hVe
  have hpl : p < w.heap.size := by omega
  clear hb hB h2 hn
  go_enter Tryz.func49, Tryz.ntmps49
  go_wp2
  go_loopw [2] (fun i wr => ∃ j : Nat, j ≤ ls.length ∧ i = .int .i64 j ∧ Hid (wr.heap[p]? = some (.cells cs T (0, 0))) ∧ Hid (Below p w wr) ∧ Hid (Bag D wr (⟨25, 1, .slice Va ls.length Vc, ls.length, ls.map (·.1)⟩ :: (irows j ls ++ rs)) [])) (fun i _ => ls.length - (RowKit.intOf i).toNat)
  case atStart => exact ⟨0, Nat.zero_le _, rfl, HBk, Hid.of (Below.refl _ _), HB⟩
  case round =>
    obtain ⟨j, hj, rfl, PB, Bw, BB⟩ := hrel
    have c2 : wr.cell? ⟨p, 2, none⟩ = some (.slice Va ls.length Vc) := by rw [cell_of_row wr p 2 _ _ _ PB.out]; exact H2.out
    have i0 : (0 : Int) ≤ (j : Int) := Int.natCast_nonneg _
    by_cases hlt : j < ls.length
    · have i1 : (j : Int) < (ls.length : Int) := by omega
      have hVr := own_row (BB.out.own _ (List.mem_cons_self ..))
      obtain ⟨bV, oV, rfl, hlV, hcV⟩ := hVr.at j ls[j].1 (by simp [hlt])
      have hat := irows_at j ls hlt
      have F0 := BB.out.front hat
      have hx := HNN.out ls[j] (List.getElem_mem hlt)
      have hset := irows_succ j ls hlt
      have hmj : (ls.map (·.1))[j]? = some ls[j].1 := by simp [hlt]
      generalize hxx : ls[j] = x at *
      obtain ⟨v, xs⟩ := x
      simp only [itodo] at hcV hx F0 hset hmj
      obtain ⟨va, vc, hve, _⟩ := own_one (F0.own _ (List.mem_cons_self ..))
      simp only at hve
      subst hve
      have FF := Hid.of F0
      have HS := Hid.of hset
      obtain ⟨n, hnn⟩ : ∃ n, xs.length = n := ⟨_, rfl⟩
      rw [hnn] at hcV hx FF hmj
      have HMJ := Hid.of hmj
      have HCV := Hid.of hcV
      have HLN := Hid.of hnn
      have hDr : D ≤ wr.heap.size := by have := Bw.out.size; omega
      clear F0 hat hset hxx hVr hnn hmj
      go_wp2_with (go_at_call 94; refine (markInts_any j 0 n (by omega) (by omega) hx _).mono ?_; rintro e' n3 ⟨mv, rfl, om, c3⟩; obtain ⟨ma, mc, hme, _⟩ := own_one om; subst hme; have OM := Hid.of om; have C3 := Hid.of c3; clear om c3)
      have N1 := (FF.out.new C3.out OM.out hDr).perm (List.Perm.swap _ _ _)
      obtain ⟨M, hM⟩ : ∃ M, (imarks j 0 n).map (Value.int .i64) = M := ⟨_, rfl⟩
      have hMl : M.length = xs.length := by rw [← hM, List.length_map, imarks_length, HLN.out]
      have hMi : ∀ k, k < n → ∃ y, M[k]? = some (.int .i64 y) := by
        intro k hk
        rw [← hM]
        refine ⟨(imarks j 0 n)[k]'(by rw [imarks_length]; exact hk), ?_⟩
        rw [List.getElem?_map, List.getElem?_eq_getElem (by rw [imarks_length]; exact hk)]
        rfl
      rw [hM] at N1
      have HM := Hid.of hM
      have HML := Hid.of hMl
      have HMI := Hid.of hMi
      obtain ⟨rest, hrest⟩ : ∃ rest, (irows j ls).take j ++ (irows j ls).drop (j + 1) ++ rs = rest := ⟨_, rfl⟩
      rw [hrest] at N1
      have HR := Hid.of hrest
      have NN : Hid (Bag D n3 (⟨3, 1, .slice va n vc, n, part M xs 0⟩ :: ⟨3, 1, .slice ma n mc, n, M⟩ :: ⟨25, 1, .slice (some ⟨bV, oV, none⟩) ls.length Vc, ls.length, ls.map (·.1)⟩ :: rest) []) := Hid.of (by rw [part_zero]; exact N1)
      have PN := Hid.of (block_kept PB.out hp (grown_of_below C3.out) (fun g hg => by cases hg))
      have BN : Hid (Below p w n3) := Hid.of (Bw.out.trans (C3.out.mono (by omega)))
      clear N1 hM hMl hMi hrest hcV c2 OM C3 FF BB
      go_loopw [4] (fun k wi => ∃ kk : Nat, kk ≤ n ∧ k = .int .i64 kk ∧ Hid (wi.heap[p]? = some (.cells cs T (0, 0))) ∧ Hid (Below p w wi) ∧
        Hid (Bag D wi (⟨3, 1, .slice va n vc, n, part M xs kk⟩ :: ⟨3, 1, .slice ma n mc, n, M⟩ :: ⟨25, 1, .slice (some ⟨bV, oV, none⟩) ls.length Vc, ls.length, ls.map (·.1)⟩ :: rest) [])) (fun k _ => n - (RowKit.intOf k).toNat)
      case atStart => exact ⟨0, Nat.zero_le _, rfl, PN, BN, NN⟩
      case round =>
        obtain ⟨k, hk, rfl, PK, BK, BB⟩ := hrel
        have c2 : wr.cell? ⟨p, 2, none⟩ = some (.slice (some ⟨bV, oV, none⟩) ls.length Vc) := by rw [cell_of_row wr p 2 _ _ _ PK.out]; exact H2.out
        by_cases hkn : k < n
        · obtain ⟨y, hy⟩ := HMI.out k hkn
          have oR := BB.out.own _ (List.mem_cons_self ..)
          have cM := own_row (BB.out.own _ (List.mem_cons_of_mem _ (List.mem_cons_self ..)))
          have cV := own_row (BB.out.own _ (List.mem_cons_of_mem _ (List.mem_cons_of_mem _ (List.mem_cons_self ..))))
          simp only at oR cM cV
          obtain ⟨bm, om, rfl, hlm, hcm⟩ := cM.at k _ hy
          obtain ⟨bW, oW, hW, hlW, hcW⟩ := cV.at j (.slice va n vc) HMJ.out
          simp only [Option.some.injEq, Addr.mk.injEq, and_true] at hW
          obtain ⟨rfl, rfl⟩ := hW
          obtain ⟨g, hg⟩ : ∃ g, va = some ⟨g, 0, none⟩ := by
            rcases oR.2 with ⟨h, h'⟩ | ⟨g, cap, cur, h, _⟩
            · omega
            · simp only [Value.slice.injEq] at h
              exact ⟨g, h.1⟩
          subst hg
          have hct := oR.cellAt k (by omega)
          have hfz := oR.frozenAt k
          obtain ⟨u, hu⟩ : ∃ u, (part M xs k)[k]? = some u := ⟨_, List.getElem?_eq_getElem (by rw [oR.1]; omega)⟩
          rw [hu] at hct
          have k0 : (0 : Int) ≤ (k : Int) := Int.natCast_nonneg _
          have k1 : (k : Int) < (n : Int) := by omega
          have OR := Hid.of oR
          have HY := Hid.of hy
          clear oR cM cV hu hy hlm hlW
          go_wp2
          go_region_law (fail)
          all_goals
            go_wp2
            go_roundw
            case rel =>
              obtain ⟨s1, s2⟩ := OR.out.stored k (.int .i64 y)
              rw [part_set M xs k _ HY.out HML.out] at s1
              have B1 := BB.out.grow s2 s1 (.inl rfl)
              refine ⟨k + 1, by omega, by go_num, Hid.of ?_, Hid.of ?_, Hid.of (B1.below ((Below.refl _ _).drew))⟩
              · exact block_kept PK.out hp (grownBy_drew s2) (fun g' hg' => by have := OR.out.lt g' (by simpa [Value.ownBlock] using hg'); omega)
              · exact (BK.out.grown s2 (by have := BK.out.size; omega) (fun g' hg' => by have := OR.out.lt g' (by simpa [Value.ownBlock] using hg'); omega)).drew
            case measure => simp [RowKit.intOf]; omega
        · have : k = n := by omega
          subst this
          go_wp2
          have hkx := HLN.out
          subst hkx
          have B1 := (BB.out.perm (List.Perm.swap _ _ _)).drop
          rw [part_all M xs HML.out, ← HM.out, ← HR.out] at B1
          have B2 := B1.back (by rw [irows_length]; exact hlt)
          have B3 : Bag D wr (⟨25, 1, .slice (some ⟨bV, oV, none⟩) ls.length Vc, ls.length, ls.map (·.1)⟩ :: (irows (j + 1) ls ++ rs)) [] := by
            have h := HS.out
            unfold idone at h
            rw [← h]
            exact B2
          exact ⟨⟨j + 1, by omega, by go_num, PK, BK, Hid.of B3⟩, by simp [RowKit.intOf]; omega⟩
    · go_wp2
      go_end0
      have : j = ls.length := by omega
      subst this
      exact ⟨rfl, Bw.out, PB.out, BB.out⟩

end Go.Proofs.YtdchjcidfaencaaGreat

namespace Go.Proofs.YtdchjcidfaencaaGreat
open Go.RowKit Go.Lib

section
variable {α : Type} {enc : α → List Value} {s : Nat}

/-- The first k of M, and what is behind the first k of xs. -/
def parts (M xs : List α) (k : Nat) : List α := M.take k ++ xs.drop k

theorem parts_zero (M xs : List α) : parts M xs 0 = xs := by simp [parts]

theorem parts_all (M xs : List α) (h : M.length = xs.length) : parts M xs xs.length = M := by
  unfold parts
  rw [← h, List.take_length, h, List.drop_length, List.append_nil]

theorem parts_length (M xs : List α) (k : Nat) (h : M.length = xs.length) : (parts M xs k).length = xs.length := by
  unfold parts
  rw [List.length_append, List.length_take, List.length_drop]
  omega

/-- Cells written one behind the other. -/
def setMany : List Value → Nat → List Value → List Value
  | xs, _, [] => xs
  | xs, o, y :: ys => setMany (xs.set o y) (o + 1) ys

theorem setMany_eq (ys xs : List Value) (o : Nat) (h : o + ys.length ≤ xs.length) : setMany xs o ys = xs.take o ++ ys ++ xs.drop (o + ys.length) := by
  induction ys generalizing xs o with
  | nil => simp [setMany]
  | cons y ys ih =>
    simp only [List.length_cons] at h
    rw [setMany, ih _ _ (by rw [List.length_set]; omega)]
    have e1 : (xs.set o y).take (o + 1) = xs.take o ++ [y] := by
      rw [List.take_succ_eq_append_getElem (by rw [List.length_set]; omega), List.take_set, List.set_eq_of_length_le (by rw [List.length_take]; omega)]
      simp
    have e2 : (xs.set o y).drop (o + 1 + ys.length) = xs.drop (o + (ys.length + 1)) := by
      rw [List.drop_set_of_lt (by omega)]
      congr 1
      omega
    rw [e1, e2]
    simp

theorem flat_take (h : ∀ x, (enc x).length = s) (l : List α) (k : Nat) : (flat enc l).take (k * s) = flat enc (l.take k) := by
  by_cases hk : k ≤ l.length
  · have e : flat enc l = flat enc (l.take k) ++ flat enc (l.drop k) := by rw [← flat_append, List.take_append_drop]
    have hl : (flat enc (l.take k)).length = k * s := by rw [flat_length h, List.length_take]; congr 1; omega
    rw [e, ← hl, List.take_left]
  · have e1 : l.take k = l := List.take_of_length_le (by omega)
    have := Nat.mul_le_mul_right s (show l.length ≤ k by omega)
    rw [e1, List.take_of_length_le (by rw [flat_length h]; exact this)]

theorem flat_drop (h : ∀ x, (enc x).length = s) (l : List α) (k : Nat) : (flat enc l).drop (k * s) = flat enc (l.drop k) := by
  by_cases hk : k ≤ l.length
  · have e : flat enc l = flat enc (l.take k) ++ flat enc (l.drop k) := by rw [← flat_append, List.take_append_drop]
    have hl : (flat enc (l.take k)).length = k * s := by rw [flat_length h, List.length_take]; congr 1; omega
    rw [e, ← hl, List.drop_left]
  · have e1 : l.drop k = [] := List.drop_of_length_le (by omega)
    have := Nat.mul_le_mul_right s (show l.length ≤ k by omega)
    rw [e1, List.drop_of_length_le (by rw [flat_length h]; exact this)]
    rfl

/-- One element written. -/
theorem parts_set (h : ∀ x, (enc x).length = s) (M xs : List α) (k : Nat) (m : α) (hm : M[k]? = some m) (hl : M.length = xs.length) : setMany (flat enc (parts M xs k)) (k * s) (enc m) = flat enc (parts M xs (k + 1)) := by
  obtain ⟨hk, rfl⟩ := List.getElem?_eq_some_iff.1 hm
  have hpl := parts_length M xs k hl
  have hbig := Nat.mul_le_mul_right s (show k + 1 ≤ xs.length by omega)
  rw [setMany_eq _ _ _ (by rw [flat_length h, hpl, h]; rw [Nat.add_mul, Nat.one_mul] at hbig; omega), h, flat_take h]
  have e1 : k * s + s = (k + 1) * s := by rw [Nat.add_mul, Nat.one_mul]
  rw [e1, flat_drop h, ← flat_one (enc := enc) M[k], ← flat_append, ← flat_append]
  congr 1
  have h1 : (M.take k).length = k := by rw [List.length_take]; omega
  have e2 : (parts M xs k).take k = M.take k := by
    unfold parts
    rw [List.take_append_of_le_length (by omega), List.take_of_length_le (by omega)]
  have e3 : (parts M xs k).drop (k + 1) = xs.drop (k + 1) := by
    unfold parts
    rw [List.drop_append, List.drop_of_length_le (by omega), List.nil_append, h1, List.drop_drop]
    congr 1
    omega
  rw [e2, e3]
  unfold parts
  rw [List.take_succ_eq_append_getElem hk]
end

/-- Cells of a block written one behind the other. -/
def setCells (w : World) (g : Nat) : Nat → List Value → World
  | _, [] => w
  | o, y :: ys => setCells (w.setCell ⟨g, o, none⟩ y) g (o + 1) ys

theorem setCells_own {D : Nat} {e : TypeId} {s n cap g : Nat} (ys : List Value) {w : World} {xs : List Value} (o : Nat) (h : w.ownsRow D e s (.slice (some ⟨g, 0, none⟩) n cap) n xs) :
    (setCells w g o ys).ownsRow D e s (.slice (some ⟨g, 0, none⟩) n cap) n (setMany xs o ys) ∧ w.grownBy (setCells w g o ys) (some g) := by
  induction ys generalizing w xs o with
  | nil => exact ⟨h, grownBy_refl _ _⟩
  | cons y ys ih =>
    obtain ⟨h1, h2⟩ := h.stored o y
    obtain ⟨h3, h4⟩ := ih (o + 1) h1
    exact ⟨h3, grownBy_trans h2 h4⟩

/-- A row's cells that are laid anew. -/
theorem new_cells (w : World) (cs : Array Value) (t : TypeId) : Cells (w.alloc (.cells cs t)) w.heap.size 0 cs.toList := by
  intro j u hj
  rw [Nat.zero_add, World.cell?_alloc_new]
  simpa using hj

/-- As GrewRow, of elements of s cells. -/
structure GrewS (D : Nat) (e : TypeId) (s : Nat) (w0 w : World) (u : Value) (n : Nat) (v : Value) (m : Nat) (ys : List Value) : Prop where
  own : w.ownsRow D e s v m ys
  le : n ≤ m
  grown : w0.grownBy w u.ownBlock
  kept : ∀ g, u.ownBlock = some g → ∀ j, j < n * s → w.cell? ⟨g, j, none⟩ = w0.cell? ⟨g, j, none⟩
  where_ : v.ownBlock = u.ownBlock ∨ ∃ g, v.ownBlock = some g ∧ w0.heap.size ≤ g

theorem GrewS.refl {D : Nat} {e : TypeId} {s : Nat} {w : World} {u : Value} {n : Nat} {xs : List Value} (h : w.ownsRow D e s u n xs) : GrewS D e s w w u n u n xs :=
  ⟨h, Nat.le_refl _, ⟨rfl, rfl, rfl, Nat.le_refl _, fun _ _ _ => rfl⟩, fun _ _ _ _ => rfl, .inl rfl⟩

theorem GrewS.below {D : Nat} {e : TypeId} {s : Nat} {w0 w w' : World} {u v : Value} {n m : Nat} {xs ys : List Value} (h0 : w0.ownsRow D e s u n xs) (h : GrewS D e s w0 w u n v m ys) (b : Below w.heap.size w w') : GrewS D e s w0 w' u n v m ys := by
  have hs := h.grown.size
  refine ⟨h.own.kept (grown_of_below b) ?_, h.le, ⟨b.os.trans h.grown.os, b.tape.trans h.grown.tape, b.output.trans h.grown.output, Nat.le_trans hs b.size, fun k hk hne => ?_⟩, fun g hg j hj => ?_, h.where_⟩
  · cases v.ownBlock <;> simp
  · rw [b.block k (by omega)]
    exact h.grown.block k hk hne
  · rw [b.cell (Nat.lt_of_lt_of_le (h0.lt g hg).2 hs)]
    exact h.kept g hg j hj

theorem GrewS.append {D : Nat} {e : TypeId} {s : Nat} {w0 w w' : World} {u v v' : Value} {n m m' : Nat} {xs ys ys' : List Value} (h0 : w0.ownsRow D e s u n xs) (h : GrewS D e s w0 w u n v m ys)
    (ho : w'.ownsRow D e s v' m' ys') (hm : m ≤ m') (hg : w.grownBy w' v.ownBlock) (hk : ∀ g, v.ownBlock = some g → ∀ j, j < m * s → w'.cell? ⟨g, j, none⟩ = w.cell? ⟨g, j, none⟩)
    (hw : v'.ownBlock = v.ownBlock ∨ ∃ g, v'.ownBlock = some g ∧ w.heap.size ≤ g) : GrewS D e s w0 w' u n v' m' ys' := by
  have hs := h.grown.size
  have other : ∀ k, k < w0.heap.size → u.ownBlock ≠ some k → v.ownBlock ≠ some k := by
    intro k hk' hne he
    rcases h.where_ with e1 | ⟨g, e1, e2⟩
    · exact hne (e1 ▸ he)
    · rw [e1] at he
      simp at he
      omega
  refine ⟨ho, Nat.le_trans h.le hm, ⟨hg.os.trans h.grown.os, hg.tape.trans h.grown.tape, hg.output.trans h.grown.output, Nat.le_trans hs hg.size, fun k hk' hne => ?_⟩, fun g hgu j hj => ?_, ?_⟩
  · have h1 := other k hk' (fun h => hne h.symm)
    rw [hg.block k (by omega) (fun h => h1 h.symm)]
    exact h.grown.block k hk' hne
  · rw [← h.kept g hgu j hj]
    have hle := Nat.mul_le_mul_right s h.le
    by_cases hv : v.ownBlock = some g
    · exact hk g hv j (by omega)
    · have hlt := (h0.lt g hgu).2
      unfold World.cell?
      rw [hg.block g (by omega) (fun h => hv h.symm)]
  · rcases hw with e1 | ⟨g, e1, e2⟩
    · rw [e1]
      exact h.where_
    · exact .inr ⟨g, e1, by omega⟩

theorem Bag.regrownS {D : Nat} {w w' : World} {rs qs : List Row1} {e : TypeId} {s : Nat} {v v' : Value} {n m : Nat} {xs ys : List Value} (h : Bag D w (⟨e, s, v, n, xs⟩ :: rs) qs) (g : GrewS D e s w w' v n v' m ys) : Bag D w' rs (⟨e, s, v, n, xs⟩ :: ⟨e, s, v', m, ys⟩ :: qs) := by
  obtain ⟨h1, h2⟩ := List.pairwise_cons.1 h.apart
  have k1 : Bag D w' (⟨e, s, v', m, ys⟩ :: rs) qs := h.grow g.grown g.own g.where_
  have k2 := k1.aside
  have o : w.ownsRow D e s v n xs := h.own _ (List.mem_cons_self ..)
  refine ⟨k2.own, k2.apart, fun q hq => ?_, fun q hq x hx => ?_⟩
  · rcases List.mem_cons.1 hq with rfl | hq
    · refine ⟨?_, fun b hb => Nat.lt_of_lt_of_le (o.lt b hb).2 g.grown.size⟩
      have c := own_row o
      obtain ⟨a, cc, rfl, c⟩ := c
      refine ⟨a, cc, rfl, ?_⟩
      rcases c with c | ⟨b, off, rfl, hl, hc⟩
      · exact .inl c
      · have hb : off = 0 := by
          rcases o.2 with ⟨h, _⟩ | ⟨b', cap, cur, h, _⟩
          · simp at h
          · simp only [Value.slice.injEq, Option.some.injEq, Addr.mk.injEq] at h
            exact h.1.2.1
        subst hb
        refine .inr ⟨b, 0, rfl, Nat.lt_of_lt_of_le hl g.grown.size, fun j u hj => ?_⟩
        have hlt : j < n * s := by
          have a1 : j < xs.length := (List.getElem?_eq_some_iff.1 hj).1
          have a2 : xs.length = n * s := o.1
          omega
        rw [Nat.zero_add, g.kept b rfl j hlt]
        have := hc j u hj
        rwa [Nat.zero_add] at this
    · exact k2.seen q hq
  · rcases List.mem_cons.1 hq with rfl | hq
    · exact h1 x hx
    · exact k2.off q hq x hx

end Go.Proofs.YtdchjcidfaencaaGreat

namespace Go.Proofs.YtdchjcidfaencaaGreat
open Go.RowKit Go.Lib

theorem marks_one (j n : Nat) : (imarks j 0 n).map (Value.int .i64) ++ (imarks j n 1).map (Value.int .i64) = (imarks j 0 (n + 1)).map (Value.int .i64) := by
  rw [← List.map_append]
  have := imarks_add j 0 n 1
  rw [Nat.zero_add] at this
  rw [this]

theorem marks_more (j n k : Nat) : (imarks j 0 n).map (Value.int .i64) ++ (imarks j n k).map (Value.int .i64) = (imarks j 0 (n + k)).map (Value.int .i64) := by
  rw [← List.map_append]
  have := imarks_add j 0 n k
  rw [Nat.zero_add] at this
  rw [this]

/-- What has been grown, up to the list j: all are put aside. -/
structure Grown (j : Nat) (ls : List (Value × List Value)) (gs : List Value) (qs0 qs : List Row1) : Prop where
  len : gs.length = j
  was : ∀ i x, i < j → ls[i]? = some x → idone i x ∈ qs
  now : ∀ i x v, i < j → ls[i]? = some x → gs[i]? = some v → (⟨3, 1, v, x.2.length + 72, (imarks i 0 (x.2.length + 72)).map (Value.int .i64)⟩ : Row1) ∈ qs
  old : ∀ q ∈ qs0, q ∈ qs

theorem Grown.step {j m : Nat} {ls : List (Value × List Value)} {gs : List Value} {qs qj : List Row1} {x : Value × List Value} {v : Value} (h : Grown j ls gs qs qj) (hx : ls[j]? = some x) (hm : m = x.2.length + 72) :
    Grown (j + 1) ls (gs ++ [v]) qs (idone j x :: ⟨3, 1, v, m, (imarks j 0 m).map (Value.int .i64)⟩ :: qj) := by
  subst hm
  refine ⟨by simp [h.len], fun i y hi hy => ?_, fun i y u hi hy hu => ?_, fun q hq => List.mem_cons_of_mem _ (List.mem_cons_of_mem _ (h.old q hq))⟩
  · by_cases e : i = j
    · subst e
      rw [hx] at hy
      simp only [Option.some.injEq] at hy
      subst hy
      exact List.mem_cons_self ..
    · exact List.mem_cons_of_mem _ (List.mem_cons_of_mem _ (h.was i y (by omega) hy))
  · by_cases e : i = j
    · subst e
      rw [hx] at hy
      simp only [Option.some.injEq] at hy
      subst hy
      rw [List.getElem?_append_right (by rw [h.len]; exact Nat.le_refl _), h.len, Nat.sub_self] at hu
      simp at hu
      subst hu
      exact List.mem_cons_of_mem _ (List.mem_cons_self ..)
    · rw [List.getElem?_append_left (by rw [h.len]; omega)] at hu
      exact List.mem_cons_of_mem _ (List.mem_cons_of_mem _ (h.now i y u (by omega) hy hu))

set_option maxHeartbeats 1600000 in
theorem growInts_any (p D : Nat) (V : Value) (ls : List (Value × List Value)) (rs qs : List Row1) (cs : Array Value) (T : TypeId) (w : World)
    (hp : p < D) (hD : D ≤ w.heap.size) (hB : w.heap[p]? = some (.cells cs T (0, 0))) (h2 : cs[2]? = some V) (hN : ls.length ≤ 1000) (hn : ∀ x ∈ ls, x.2.length ≤ 900000)
    (hb : Bag D w (⟨25, 1, V, ls.length, ls.map (·.1)⟩ :: (irows ls.length ls ++ rs)) qs) :
    Calls Tryz.prog 56 #[.pointer (some ⟨p, 0, none⟩)] w fun e w' => ∃ G gs qs', e = .returned G ∧ Below p w w' ∧ w'.heap[p]? = some (.cells cs T (0, 0)) ∧ Grown ls.length ls gs qs qs' ∧
      Bag D w' (⟨25, 1, G, ls.length, gs⟩ :: ⟨25, 1, V, ls.length, ls.map (·.1)⟩ :: rs) qs' := by
  have HB := Hid.of hb
  have HBk := Hid.of hB
  have H2 := Hid.of h2
  have HNN := Hid.of hn
  obtain ⟨Va, Vc, hVe, _⟩ := own_one (hb.own _ (List.mem_cons_self ..))
  simp only at hVe
  subst hVe
  have hpl : p < w.heap.size := by omega
  obtain ⟨A, hA⟩ : ∃ A, irows ls.length ls = A := ⟨_, rfl⟩
  have hAi : ∀ i x, ls[i]? = some x → A[i]? = some (idone i x) := by
    intro i x hx
    obtain ⟨hi, rfl⟩ := List.getElem?_eq_some_iff.1 hx
    rw [← hA]
    simp [irows, hi]
  have hAl : A.length = ls.length := by rw [← hA]; exact irows_length _ _
  rw [hA] at HB
  have HAI := Hid.of hAi
  have HAL := Hid.of hAl
  obtain ⟨i0, hi, hz0, hz1, hz2⟩ := info_parts (show (Tryz.prog.info? 3).map (fun i => (i.zero, i.size, i.bytes)) = some (some (.int .i64 0), 1, 8) by kernel_rfl)
  have HI := Hid.of hi
  have HZ0 := Hid.of hz0
  have HZ1 := Hid.of hz1
  have HZ2 := Hid.of hz2
  obtain ⟨j0, ji, jz0, jz1, jz2⟩ := info_parts (show (Tryz.prog.info? 25).map (fun i => (i.zero, i.size, i.bytes)) = some (some (.slice none 0 0), 1, 24) by kernel_rfl)
  have JI := Hid.of ji
  have JZ0 := Hid.of jz0
  have JZ1 := Hid.of jz1
  have JZ2 := Hid.of jz2
  have START : Hid (Bag D w (⟨25, 1, .slice none 0 0, 0, []⟩ :: ⟨25, 1, .slice Va ls.length Vc, ls.length, ls.map (·.1)⟩ :: (A.drop 0 ++ rs)) qs) := by
    refine Hid.of ⟨fun r hr => ?_, List.pairwise_cons.2 ⟨fun x _ g hg => ?_, HB.out.apart⟩, HB.out.seen, fun q hq r hr => ?_⟩
    · rcases List.mem_cons.1 hr with rfl | hr
      · exact World.ownsRow_nil w D _ 1
      · exact HB.out.own r hr
    · cases hg
    · rcases List.mem_cons.1 hr with rfl | hr
      · intro g _ h
        cases h
      · exact HB.out.off q hq r hr
  have GS : Hid (Grown 0 ls [] qs qs) := Hid.of ⟨rfl, fun i x h => by omega, fun i x v h => by omega, fun q hq => hq⟩
  clear hb hB h2 hn hA hAi hAl hi hz0 hz1 hz2 ji jz0 jz1 jz2 HB
  go_enter Tryz.func56, Tryz.ntmps56
  go_wp2
  go_loopw [3, 4] (fun o i wr => ∃ (j : Nat) (gs : List Value) (qj : List Row1), j ≤ ls.length ∧ i = .int .i64 j ∧ Hid (wr.heap[p]? = some (.cells cs T (0, 0))) ∧ Hid (Below p w wr) ∧ Hid (Grown j ls gs qs qj) ∧
    Hid (Bag D wr (⟨25, 1, o, j, gs⟩ :: ⟨25, 1, .slice Va ls.length Vc, ls.length, ls.map (·.1)⟩ :: (A.drop j ++ rs)) qj)) (fun _ i _ => ls.length - (RowKit.intOf i).toNat)
  case atStart => exact ⟨0, [], qs, Nat.zero_le _, rfl, HBk, Hid.of (Below.refl _ _), GS, START⟩
  case round =>
    obtain ⟨j, gs, qj, hj, rfl, PB, Bw, GJ, BB⟩ := hrel
    have c2 : wr.cell? ⟨p, 2, none⟩ = some (.slice Va ls.length Vc) := by rw [cell_of_row wr p 2 _ _ _ PB.out]; exact H2.out
    have i0' : (0 : Int) ≤ (j : Int) := Int.natCast_nonneg _
    by_cases hlt : j < ls.length
    · have i1 : (j : Int) < (ls.length : Int) := by omega
      have hVr := own_row (BB.out.own _ (List.mem_cons_of_mem _ (List.mem_cons_self ..)))
      obtain ⟨bV, oV, rfl, hlV, hcV⟩ := hVr.at j ls[j].1 (by simp [hlt])
      have hdrop : A.drop j = idone j ls[j] :: A.drop (j + 1) := by
        have h1 := HAI.out j ls[j] (by simp [hlt])
        obtain ⟨h2, h3⟩ := List.getElem?_eq_some_iff.1 h1
        rw [List.drop_eq_getElem_cons h2, h3]
      have hx := HNN.out ls[j] (List.getElem_mem hlt)
      have F0 := BB.out
      rw [hdrop] at F0
      have hls : ls[j]? = some ls[j] := List.getElem?_eq_getElem hlt
      generalize hxx : ls[j] = x at *
      obtain ⟨v, xs⟩ := x
      simp only [idone] at hcV hx F0
      have F1 := F0.perm (((List.Perm.swap _ _ _).cons _).trans (List.Perm.swap _ _ _))
      obtain ⟨va, vc, hve, _⟩ := own_one (F1.own _ (List.mem_cons_self ..))
      simp only at hve
      subst hve
      obtain ⟨oa, oc, hoe, _⟩ := own_one (BB.out.own _ (List.mem_cons_self ..))
      simp only at hoe
      subst hoe
      have FF := Hid.of F1
      have HLS := Hid.of hls
      have OWN : Hid (wr.ownsRow D 3 1 (.slice va xs.length vc) xs.length ((imarks j 0 xs.length).map (Value.int .i64))) := Hid.of (F1.own _ (List.mem_cons_self ..))
      have hDr : D ≤ wr.heap.size := by have := Bw.out.size; omega
      obtain ⟨n, hnn⟩ : ∃ n, xs.length = n := ⟨_, rfl⟩
      have HLN := Hid.of hnn
      rw [hnn] at hcV hx FF OWN
      clear F1 F0 hdrop hls hxx hVr BB hnn START GS
      go_wp2
      go_loopw [5, 6] (fun l k wi => ∃ kk : Nat, kk ≤ 12 ∧ k = .int .i64 kk ∧ Hid (GrewRow D 3 wr wi (.slice va n vc) n l (n + kk) ((imarks j 0 (n + kk)).map (Value.int .i64)))) (fun _ k _ => 12 - (RowKit.intOf k).toNat)
      case atStart => exact ⟨0, by omega, rfl, Hid.of (GrewRow.refl OWN.out)⟩
      case round =>
        obtain ⟨kk, hkk, rfl, GR⟩ := hrel
        obtain ⟨m, hm⟩ : ∃ m, n + kk = m := ⟨_, rfl⟩
        rw [hm] at GR
        obtain ⟨la, lc, hle, _⟩ := own_one GR.out.own
        subst hle
        have hm9 : m ≤ 900012 := by omega
        have k0 : (0 : Int) ≤ (kk : Int) := Int.natCast_nonneg _
        by_cases hk12 : kk < 12
        · have HMM := Hid.of hm
          have k1 : (kk : Int) < 12 := by omega
          have K12 := Hid.of hk12
          clear hm c2 hcV hk12 hkk
          go_wp2_with (first | (at_builtin; (refine append_keep_law rfl _ _ 25 rfl D 3 i0 (.int .i64 0) 1 8 Tryz.underlying25 HI.out HZ0.out HZ1.out HZ2.out rfl (by decide) (.slice la m lc) m _ rfl G3.out.own bm om' 1 mc ((imarks j m 1).map (Value.int .i64)) rfl CM.out (by simp [imarks_length]) (ints_one _) (by unfold maxLen; omega) (by omega) hD3 ?_; intro v4 w4 o4 g4 k4 m4; have G4 := Hid.of (GrewRow.append OWN.out G3.out o4 (by omega) g4 k4 m4); clear o4 g4 k4 m4)) | (go_at_call 94; (refine (markInts_any j m 1 (by omega) (by omega) (by omega) _).mono ?_; rintro e' n3 ⟨mv, rfl, om, c3⟩; have cm := own_row om; obtain ⟨am, mc, hme, cm⟩ := cm; subst hme; obtain ⟨bm, om', hma, _, cmm⟩ := cm.resolve_left (by simp [imarks]); subst hma; have CM := Hid.of cmm; have G3 := Hid.of (GrewRow.below OWN.out GR.out c3); have hD3 : D ≤ n3.heap.size := (by have := GR.out.grown.size; have := c3.size; omega); clear c3 om cm cmm)))
          have G5 := G4.out
          rw [marks_one] at G5
          have hmm := HMM.out
          exact ⟨⟨kk + 1, by have := K12.out; omega, by go_num, Hid.of (by rw [← Nat.add_assoc, hmm]; exact G5)⟩, by have := K12.out; simp [RowKit.intOf]; omega⟩
        · have hkk12 : kk = 12 := by omega
          subst hkk12
          have HMM := Hid.of hm
          clear hm c2 hcV hk12 hkk k0
          go_wp2_with (first | (at_builtin; (refine append_keep_law rfl _ _ 25 rfl D 3 i0 (.int .i64 0) 1 8 Tryz.underlying25 HI.out HZ0.out HZ1.out HZ2.out rfl (by decide) (.slice la m lc) m _ rfl G3.out.own bm om' 60 mc ((imarks j m 60).map (Value.int .i64)) rfl CM.out (by simp [imarks_length]) (ints_one _) (by unfold maxLen; omega) (by omega) hD3 ?_; intro v4 w4 o4 g4 k4 m4; have G4 := Hid.of (GrewRow.append OWN.out G3.out o4 (by omega) g4 k4 m4); obtain ⟨ra, rc, e4, _⟩ := own_one o4; subst e4; have B4 := Hid.of (FF.out.regrown G4.out); have O4 := Hid.of (B4.out.own _ (List.mem_cons_self ..)); have hD4 : D ≤ w4.heap.size := (by have := G4.out.grown.size; omega); clear o4 g4 k4 m4)) | (at_builtin; (refine append_keep_law rfl _ _ 36 rfl D 25 j0 (.slice none 0 0) 1 24 Tryz.underlying36 JI.out JZ0.out JZ1.out JZ2.out rfl (by decide) (.slice oa j oc) j gs rfl (O4.out.alloc _) w4.heap.size 0 1 1 [.slice ra (m + 60) rc] rfl (one_cell w4 _ _) rfl (by simp [Value.oneCell']) (by unfold maxLen; omega) (by omega) (by simp; omega) ?_; intro v5 w5 o5 g5 k5 m5; have O5 := Hid.of o5; have G5 := Hid.of (grown_alloc g5); have M5 := Hid.of m5; clear o5 g5 k5 m5)) | (go_at_call 94; (refine (markInts_any j m 60 (by omega) (by omega) (by omega) _).mono ?_; rintro e' n3 ⟨mv, rfl, om, c3⟩; have cm := own_row om; obtain ⟨am, mc, hme, cm⟩ := cm; subst hme; obtain ⟨bm, om', hma, _, cmm⟩ := cm.resolve_left (by simp [imarks]); subst hma; have CM := Hid.of cmm; have G3 := Hid.of (GrewRow.below OWN.out GR.out c3); have hD3 : D ≤ n3.heap.size := (by have := GR.out.grown.size; have := c3.size; omega); clear c3 om cm cmm)))
          have hkx := HLN.out
          subst hkx
          have hmm := HMM.out
          subst hmm
          have B5 := B4.out
          rw [marks_more] at B5
          have hm5 := M5.out.imp_right fun ⟨g, e, (h : (w4.alloc (Obj.cells #[Value.slice ra (xs.length + 12 + 60) rc] 25)).heap.size ≤ g)⟩ => (⟨g, e, by simp at h; omega⟩ : ∃ g, v5.ownBlock = some g ∧ w4.heap.size ≤ g)
          have B6 := B5.grow G5.out O5.out hm5
          have P4 := block_kept PB.out hp G4.out.grown (fun g hg => (OWN.out.lt g hg).1)
          have P5 := block_kept P4 hp G5.out (fun g hg => (O4.out.lt g hg).1)
          have x1 := Bw.out.grown G4.out.grown (by have := Bw.out.size; omega) (fun g hg => by have := (OWN.out.lt g hg).1; omega)
          have x2 := x1.grown G5.out (by have := x1.size; omega) (fun g hg => by have := (O4.out.lt g hg).1; omega)
          exact ⟨⟨j + 1, _, _, by omega, by go_num, Hid.of P5, Hid.of x2, Hid.of (GJ.out.step HLS.out (m := xs.length + 12 + 60) (by simp only)), Hid.of B6⟩, by simp [RowKit.intOf]; omega⟩
    · go_wp2
      go_ret
      have : j = ls.length := by omega
      subst this
      have h := BB.out
      rw [← HAL.out, List.drop_length] at h
      rw [HAL.out] at h
      exact ⟨_, gs, qj, rfl, Bw.out, PB.out, GJ.out, h⟩

end Go.Proofs.YtdchjcidfaencaaGreat

namespace Go.Proofs.YtdchjcidfaencaaGreat
open Go.RowKit Go.Lib

/-- A kept list and its copy. -/
def ikept (x : Value × Value × List Int) : Value × List Value := (x.1, x.2.2.map (Value.int .i64))
def icopy (x : Value × Value × List Int) : Row1 := ⟨3, 1, x.2.1, x.2.2.length, x.2.2.map (Value.int .i64)⟩

/-- The rows that are of lists of ints: as they came, with their marks, and what is left when they have been grown. -/
def iblk (V W : Value) (ls : List (Value × Value × List Int)) : List Row1 :=
  ⟨25, 1, V, (ls.map ikept).length, (ls.map ikept).map (·.1)⟩ :: (irows 0 (ls.map ikept) ++ (⟨25, 1, W, ls.length, ls.map (·.2.1)⟩ :: ls.map icopy))
def iput (V W : Value) (ls : List (Value × Value × List Int)) : List Row1 :=
  ⟨25, 1, V, (ls.map ikept).length, (ls.map ikept).map (·.1)⟩ :: (irows (ls.map ikept).length (ls.map ikept) ++ (⟨25, 1, W, ls.length, ls.map (·.2.1)⟩ :: ls.map icopy))
def irest (V W : Value) (ls : List (Value × Value × List Int)) : List Row1 :=
  ⟨25, 1, V, (ls.map ikept).length, (ls.map ikept).map (·.1)⟩ :: (⟨25, 1, W, ls.length, ls.map (·.2.1)⟩ :: ls.map icopy)

theorem iblk_nil (D : Nat) (w : World) (rs qs : List Row1) (h : Bag D w rs qs) : Bag D w (iblk (.slice none 0 0) (.slice none 0 0) [] ++ rs) qs := by
  have e : iblk (.slice none 0 0) (.slice none 0 0) [] ++ rs = ⟨25, 1, .slice none 0 0, 0, []⟩ :: ⟨25, 1, .slice none 0 0, 0, []⟩ :: rs := rfl
  rw [e]
  refine ⟨fun r hr => ?_, ?_, h.seen, fun q hq r hr => ?_⟩
  · rcases List.mem_cons.1 hr with rfl | hr
    · exact World.ownsRow_nil w _ _ 1
    · rcases List.mem_cons.1 hr with rfl | hr
      · exact World.ownsRow_nil w _ _ 1
      · exact h.own r hr
  · exact List.pairwise_cons.2 ⟨fun x _ g hg => (by cases hg), List.pairwise_cons.2 ⟨fun x _ g hg => (by cases hg), h.apart⟩⟩
  · rcases List.mem_cons.1 hr with rfl | hr
    · intro g _ h
      cases h
    · rcases List.mem_cons.1 hr with rfl | hr
      · intro g _ h
        cases h
      · exact h.off q hq r hr

theorem irows_zero_snoc' (ls : List (Value × Value × List Int)) (x : Value × Value × List Int) : irows 0 ((ls ++ [x]).map ikept) = irows 0 (ls.map ikept) ++ [itodo (ikept x)] := by
  rw [irows_zero, irows_zero, List.map_append, List.map_append]
  rfl

/-- One more list, one's own and apart from the others. -/
theorem iblk_add (p D : Nat) (cs : Array Value) (V W l : Value) (ls : List (Value × Value × List Int)) (ss : List Int) (rest : List Row1) (T : TypeId) (w0 w : World) (h2 : cs[2]? = some V) (h3 : cs[3]? = some W) (hN : ls.length < 250) (hn : ss.length ≤ 1000000)
    (h : Here p D cs T w0 w (⟨3, 1, l, ss.length, ss.map (Value.int .i64)⟩ :: (iblk V W ls ++ rest)) []) :
    Calls Tryz.prog 13 #[.pointer (some ⟨p, 0, none⟩), l] w fun e w' => e = .returned (.tuple #[]) ∧ ∃ V' W' u, Here p D ((cs.setIfInBounds 2 V').setIfInBounds 3 W') T w0 w' (iblk V' W' (ls ++ [(l, u, ss)]) ++ rest) [] := by
  have hb := h.bag
  unfold iblk at hb
  have e1 : (ls.map ikept).length = ls.length := List.length_map ..
  rw [e1] at hb
  have b1 : Bag D w (⟨25, 1, V, ls.length, (ls.map ikept).map (·.1)⟩ :: ⟨25, 1, W, ls.length, ls.map (·.2.1)⟩ :: ⟨3, 1, l, ss.length, ss.map (Value.int .i64)⟩ :: (irows 0 (ls.map ikept) ++ (ls.map icopy ++ rest))) [] := by
    refine hb.perm ?_
    generalize (⟨25, 1, V, ls.length, (ls.map ikept).map (·.1)⟩ : Row1) = X
    generalize (⟨25, 1, W, ls.length, ls.map (·.2.1)⟩ : Row1) = Y
    generalize (⟨3, 1, l, ss.length, ss.map (Value.int .i64)⟩ : Row1) = Z
    classical
    rw [List.perm_iff_count]
    intro a
    simp only [List.count_append, List.count_cons, List.cons_append, List.append_assoc]
    omega
  refine (Ints_any p D V W l ls.length _ _ ss _ cs T w h.hp h.hD h.blk h2 h3 hN hn b1).mono ?_
  rintro e w' ⟨rfl, V', W', u, hblk, hfr, hbag⟩
  refine ⟨rfl, V', W', u, h.hp, Nat.le_trans h.hD hfr.size, hblk, h.fr.trans hfr, ?_⟩
  unfold iblk
  have e2 : ((ls ++ [(l, u, ss)]).map ikept).length = ls.length + 1 := by simp
  have e3 : ((ls ++ [(l, u, ss)]).map ikept).map (·.1) = (ls.map ikept).map (·.1) ++ [l] := by simp [ikept]
  have e4 : (ls ++ [(l, u, ss)]).length = ls.length + 1 := by simp
  have e5 : (ls ++ [(l, u, ss)]).map (·.2.1) = ls.map (·.2.1) ++ [u] := by simp
  have e6 : (ls ++ [(l, u, ss)]).map icopy = ls.map icopy ++ [⟨3, 1, u, ss.length, ss.map (Value.int .i64)⟩] := by simp [icopy]
  have e7 : itodo (ikept (l, u, ss)) = ⟨3, 1, l, ss.length, ss.map (Value.int .i64)⟩ := by simp [itodo, ikept]
  rw [e2, e3, e4, e5, e6, irows_zero_snoc', e7]
  refine hbag.perm ?_
  generalize irows 0 (ls.map ikept) = A
  generalize ls.map icopy = B
  generalize (⟨25, 1, V', ls.length + 1, (ls.map ikept).map (·.1) ++ [l]⟩ : Row1) = Q
  generalize (⟨25, 1, W', ls.length + 1, ls.map (·.2.1) ++ [u]⟩ : Row1) = X
  generalize (⟨3, 1, l, ss.length, ss.map (Value.int .i64)⟩ : Row1) = Y
  generalize (⟨3, 1, u, ss.length, ss.map (Value.int .i64)⟩ : Row1) = Z
  classical
  rw [List.perm_iff_count]
  intro a
  simp only [List.count_append, List.count_cons, List.cons_append, List.append_assoc, List.count_nil]
  omega

theorem iblk_still (p D : Nat) (cs : Array Value) (V W : Value) (ls : List (Value × Value × List Int)) (rest : List Row1) (T : TypeId) (w0 w : World) (h2 : cs[2]? = some V) (h3 : cs[3]? = some W) (hN : ls.length ≤ 250) (hn : ∀ x ∈ ls, x.2.2.length ≤ 900000) (h : Here p D cs T w0 w (iblk V W ls ++ rest) []) :
    Calls Tryz.prog 40 #[.pointer (some ⟨p, 0, none⟩)] w fun e w' => e = .returned (.bool true) ∧ Here p D cs T w0 w' (iblk V W ls ++ rest) [] := by
  have hb := h.bag
  have eV : (ls.map ikept).map (·.1) = ls.map (·.1) := by simp [ikept, Function.comp_def]
  have oV := own_row (hb.own ⟨25, 1, V, (ls.map ikept).length, (ls.map ikept).map (·.1)⟩ (List.mem_append_left _ (List.mem_cons_self ..)))
  have oW := own_row (hb.own ⟨25, 1, W, ls.length, ls.map (·.2.1)⟩ (List.mem_append_left _ (List.mem_cons_of_mem _ (List.mem_append_right _ (List.mem_cons_self ..)))))
  simp only [List.length_map, eV] at oV
  refine (stillInts_any p V W ls w (h.cell 2 V h2) (h.cell 3 W h3) oV oW (fun x hx => ?_) (by omega)).mono ?_
  · have m1 : itodo (ikept x) ∈ iblk V W ls ++ rest := by
      refine List.mem_append_left _ (List.mem_cons_of_mem _ (List.mem_append_left _ ?_))
      rw [irows_zero, List.map_map]
      exact List.mem_map.2 ⟨x, hx, rfl⟩
    have m2 : icopy x ∈ iblk V W ls ++ rest := List.mem_append_left _ (List.mem_cons_of_mem _ (List.mem_append_right _ (List.mem_cons_of_mem _ (List.mem_map.2 ⟨x, hx, rfl⟩))))
    have o1 := own_row (hb.own _ m1)
    have o2 := own_row (hb.own _ m2)
    simp only [itodo, ikept, List.length_map] at o1
    refine ⟨o1, o2, ?_⟩
    have := hn x hx
    omega
  · rintro e w' ⟨rfl, q, rfl⟩
    exact ⟨rfl, h.drewN q⟩

theorem kept_len (ls : List (Value × Value × List Int)) (hn : ∀ x ∈ ls, x.2.2.length ≤ 900000) : ∀ x ∈ ls.map ikept, x.2.length ≤ 900000 := by
  intro x hx
  obtain ⟨y, hy, rfl⟩ := List.mem_map.1 hx
  have := hn y hy
  simp only [ikept, List.length_map]
  omega

theorem iblk_put (p D : Nat) (cs : Array Value) (V W : Value) (ls : List (Value × Value × List Int)) (rest : List Row1) (T : TypeId) (w0 w : World) (h2 : cs[2]? = some V) (hN : ls.length ≤ 250) (hn : ∀ x ∈ ls, x.2.2.length ≤ 900000) (h : Here p D cs T w0 w (iblk V W ls ++ rest) []) :
    Calls Tryz.prog 49 #[.pointer (some ⟨p, 0, none⟩)] w fun e w' => e = .returned (.tuple #[]) ∧ Here p D cs T w0 w' (iput V W ls ++ rest) [] := by
  have hb := h.bag
  unfold iblk at hb
  rw [List.cons_append, List.append_assoc] at hb
  refine (putInts_any p D V (ls.map ikept) _ cs T w h.hp h.hD h.blk h2 (by simp only [List.length_map]; omega) (fun x hx => by have := kept_len ls hn x hx; omega) hb).mono ?_
  rintro e w' ⟨rfl, b1, k1, g1⟩
  refine ⟨rfl, h.hp, Nat.le_trans h.hD b1.size, k1, h.fr.trans b1, ?_⟩
  unfold iput
  rw [List.cons_append, List.append_assoc]
  exact g1

theorem Grown.wider {j : Nat} {ls : List (Value × List Value)} {gs : List Value} {qs0 qs qs1 : List Row1} (h : Grown j ls gs qs0 qs) (k : ∀ q ∈ qs, q ∈ qs1) : Grown j ls gs qs0 qs1 :=
  ⟨h.len, fun i x hi hx => k _ (h.was i x hi hx), fun i x v hi hx hv => k _ (h.now i x v hi hx hv), fun q hq => k _ (h.old q hq)⟩

theorem iput_grow (p D : Nat) (cs : Array Value) (V W : Value) (ls : List (Value × Value × List Int)) (rest qs : List Row1) (T : TypeId) (w0 w : World) (h2 : cs[2]? = some V) (hN : ls.length ≤ 250) (hn : ∀ x ∈ ls, x.2.2.length ≤ 900000) (h : Here p D cs T w0 w (iput V W ls ++ rest) qs) :
    Calls Tryz.prog 56 #[.pointer (some ⟨p, 0, none⟩)] w fun e w' => ∃ G gs qs', e = .returned G ∧ Grown (ls.map ikept).length (ls.map ikept) gs qs qs' ∧ Here p D cs T w0 w' (⟨25, 1, G, (ls.map ikept).length, gs⟩ :: (irest V W ls ++ rest)) qs' := by
  have hb := h.bag
  unfold iput at hb
  rw [List.cons_append, List.append_assoc] at hb
  refine (growInts_any p D V (ls.map ikept) _ qs cs T w h.hp h.hD h.blk h2 (by simp only [List.length_map]; omega) (kept_len ls hn) hb).mono ?_
  rintro e w' ⟨G, gs, qs', rfl, b1, k1, g1, g2⟩
  exact ⟨G, gs, qs', rfl, g1, h.hp, Nat.le_trans h.hD b1.size, k1, h.fr.trans b1, g2⟩

/-- What is looked at, at the end. -/
def oldI (ls : List (Value × Value × List Int)) : List (Value × Nat) := (ls.map ikept).map fun x => (x.1, x.2.length)
def newI (ls : List (Value × Value × List Int)) (gs : List Value) : List (Value × Nat) := (gs.zip (ls.map ikept)).map fun x => (x.1, x.2.2.length + 72)

theorem iold_marked (p D : Nat) (cs : Array Value) (T : TypeId) (w0 w : World) (V : Value) (ls : List (Value × Value × List Int)) (gs : List Value) (rs qs0 qs : List Row1) (hN : ls.length ≤ 250) (hn : ∀ x ∈ ls, x.2.2.length ≤ 900000)
    (h : Here p D cs T w0 w rs qs) (hV : (⟨25, 1, V, (ls.map ikept).length, (ls.map ikept).map (·.1)⟩ : Row1) ∈ rs) (g : Grown (ls.map ikept).length (ls.map ikept) gs qs0 qs) :
    Calls Tryz.prog 64 #[V] w fun e w' => e = .returned (.bool true) ∧ Here p D cs T w0 w' rs qs := by
  have oV := own_row (h.bag.own _ hV)
  refine (markedInts_any V (oldI ls) w ?_ ?_ ?_).mono fun e w' ⟨he, hb⟩ => ⟨he, h.next hb⟩
  · have e1 : (oldI ls).length = (ls.map ikept).length := by simp [oldI]
    have e2 : (oldI ls).map (·.1) = (ls.map ikept).map (·.1) := by simp [oldI, Function.comp_def]
    rw [e1, e2]
    exact oV
  · intro i x hx
    simp only [oldI] at hx
    rw [List.getElem?_map] at hx
    cases hy : (ls.map ikept)[i]? with
    | none => rw [hy] at hx; cases hx
    | some y =>
      rw [hy] at hx
      simp only [Option.map_some, Option.some.injEq] at hx
      subst hx
      have m := g.was i y (List.getElem?_eq_some_iff.1 hy).1 hy
      refine ⟨(h.bag.seen _ m).1, ?_⟩
      have := kept_len ls hn y (List.mem_of_getElem? hy)
      simp only
      omega
  · simp only [oldI, List.length_map]
    omega

theorem inew_marked (p D : Nat) (cs : Array Value) (T : TypeId) (w0 w : World) (G : Value) (ls : List (Value × Value × List Int)) (gs : List Value) (rs qs0 qs : List Row1) (hN : ls.length ≤ 250) (hn : ∀ x ∈ ls, x.2.2.length ≤ 900000)
    (h : Here p D cs T w0 w rs qs) (hG : (⟨25, 1, G, (ls.map ikept).length, gs⟩ : Row1) ∈ rs) (g : Grown (ls.map ikept).length (ls.map ikept) gs qs0 qs) :
    Calls Tryz.prog 64 #[G] w fun e w' => e = .returned (.bool true) ∧ Here p D cs T w0 w' rs qs := by
  have oG := own_row (h.bag.own _ hG)
  have hl := g.len
  refine (markedInts_any G (newI ls gs) w ?_ ?_ ?_).mono fun e w' ⟨he, hb⟩ => ⟨he, h.next hb⟩
  · have e1 : (newI ls gs).length = (ls.map ikept).length := by simp only [newI, List.length_map, List.length_zip] at hl ⊢; omega
    have e2 : (newI ls gs).map (·.1) = gs := by
      simp only [newI, List.map_map, Function.comp_def]
      exact List.map_fst_zip (by omega)
    rw [e1, e2]
    exact oG
  · intro i x hx
    simp only [newI] at hx
    rw [List.getElem?_map] at hx
    cases hy : (gs.zip (ls.map ikept))[i]? with
    | none => rw [hy] at hx; cases hx
    | some y =>
      rw [hy] at hx
      simp only [Option.map_some, Option.some.injEq] at hx
      subst hx
      obtain ⟨v, z⟩ := y
      obtain ⟨h1, h2⟩ := List.getElem?_zip_eq_some.1 hy
      have m := g.now i z v (List.getElem?_eq_some_iff.1 h2).1 h2 h1
      refine ⟨(h.bag.seen _ m).1, ?_⟩
      have := kept_len ls hn z (List.mem_of_getElem? h2)
      simp only
      omega
  · simp only [newI, List.length_map, List.length_zip] at hl ⊢
    omega

end Go.Proofs.YtdchjcidfaencaaGreat

namespace Go.Proofs.YtdchjcidfaencaaGreat
open Go.RowKit Go.Lib

section
variable {P : Program}

/-- 'append(r, x...)', r one's own row (or nil), x any slice: what r held stays where it was. -/
theorem step_append_any {ops : Array Oper} {o : Oper} {a : Act} {w : World} {K : Act → World → Prop} {Q : Exit → Act → World → Prop} {E : Prop} (hgd : o.guard = none) (s x : Operand) (t : TypeId)
    (ho : o.op = .call { callee := .builtin .append, args := #[s, x], argTypes := #[t, t] })
    (base : Nat) (e : TypeId) (i : TypeInfo) (z : Value) (size bytes : Nat) (ht : P.underlying t = some (.slice e)) (hi : P.info? e = some i) (hz : i.zero = some z)
    (hsize : i.size = size) (hby : i.bytes = bytes) (hzs : z.cells.size = size) (hsz : 0 < size)
    (v : Value) (n : Nat) (xs : List Value) (hs : a.eval s = v) (hown : w.ownsRow base e size v n xs)
    (u : Value) (m : Nat) (news : List Value) (hx : a.eval x = u) (hrow : CellRow w u m news) (hl : news.length = m * size) (h1 : ∀ u ∈ news, u.oneCell' = true)
    (h63 : n + m ≤ maxLen) (hbytes : (n + m) * bytes ≤ 140737488355328) (hbase : base ≤ w.heap.size)
    (h : ∀ v' w', w'.ownsRow base e size v' (n + m) (xs ++ news) → w.grownBy w' v.ownBlock → (v'.ownBlock = v.ownBlock ∨ ∃ g, v'.ownBlock = some g ∧ w.heap.size ≤ g) → K (a.put o.dst v') w') :
    if Region.wanted o (yielded ops a.tmps) = true then Oper.wp P o a w K Q else E := by
  obtain ⟨sa, c, rfl, hc⟩ := hrow
  by_cases hm : m = 0
  · subst hm
    have hn : news = [] := List.eq_nil_of_length_eq_zero (by simpa using hl)
    subst hn
    cases sa with
    | none =>
      have hw : Region.wanted o (yielded ops a.tmps) = true := by simp [Region.wanted, hgd]
      rw [if_pos hw]
      have hr := run_append_none (P := P) w base t o.type e i size c ht hi v n xs hown
      unfold Oper.wp
      simp [execOp, ho, resolve, invoke, builtin, hs, hx, hr, Result.andThen]
      exact h v w (by simpa using hown) (grownBy_refl _ _) (.inl rfl)
    | some ad =>
      obtain ⟨b, off, f⟩ := ad
      have hw : Region.wanted o (yielded ops a.tmps) = true := by simp [Region.wanted, hgd]
      rw [if_pos hw]
      obtain ⟨v', w', hr, h2, h3, h4, h5⟩ := run_append_keep (P := P) w base t o.type e i z size bytes ht hi hz hsize hby hzs hsz v n xs hown ⟨b, off, f⟩ 0 c [] (by simp) (fun j u hj => by simp at hj) (fun u hu => absurd hu List.not_mem_nil) h63 hbytes hbase
      unfold Oper.wp
      simp [execOp, ho, resolve, invoke, builtin, hs, hx, hr, Result.andThen]
      exact h v' w' h2 h3 h5
  · obtain ⟨b, oo, rfl, _, hcs⟩ := hc.resolve_left (by intro hn; rw [hn] at hl; simp at hl; have := Nat.mul_pos (Nat.pos_of_ne_zero hm) hsz; omega)
    exact step_append_keep hgd s x t ho base e i z size bytes ht hi hz hsize hby hzs hsz v n xs hs hown b oo m c news hx hcs hl h1 h63 hbytes hbase (fun v' w' h2 h3 _ h5 => h v' w' h2 h3 h5)
end

/-- The first k of a row, and those behind. -/
theorem CellRow.take {w : World} {a : Option Addr} {n c c' : Nat} {xs : List Value} (h : CellRow w (.slice a n c) n xs) (k : Nat) : CellRow w (.slice a k c') k (xs.take k) := by
  obtain ⟨a', c1, hv, h⟩ := h
  simp only [Value.slice.injEq] at hv
  obtain ⟨rfl, _, rfl⟩ := hv
  refine ⟨_, _, rfl, ?_⟩
  rcases h with h | ⟨b, o, ha, hl, hc⟩
  · exact .inl (by rw [h]; simp)
  · refine .inr ⟨b, o, ha, hl, fun j u hj => hc j u ?_⟩
    rw [List.getElem?_take] at hj
    split at hj
    · exact hj
    · cases hj

theorem CellRow.drop {w : World} {b o n c c' : Nat} {xs : List Value} (h : CellRow w (.slice (some ⟨b, o, none⟩) n c) n xs) (k : Nat) : CellRow w (.slice (some ⟨b, o + k, none⟩) (n - k) c') (n - k) (xs.drop k) := by
  obtain ⟨a', c1, hv, h⟩ := h
  simp only [Value.slice.injEq] at hv
  obtain ⟨rfl, _, rfl⟩ := hv
  refine ⟨_, _, rfl, ?_⟩
  rcases h with h | ⟨b', o', ha, hl, hc⟩
  · exact .inl (by rw [h]; simp)
  · simp only [Option.some.injEq, Addr.mk.injEq, and_true] at ha
    obtain ⟨rfl, rfl⟩ := ha
    refine .inr ⟨_, _, rfl, hl, fun j u hj => ?_⟩
    rw [List.getElem?_drop] at hj
    have := hc (k + j) u hj
    rwa [← Nat.add_assoc] at this

end Go.Proofs.YtdchjcidfaencaaGreat
