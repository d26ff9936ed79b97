/-
  A Book that keeps lists of ints alone (package sedimentbook): what it holds, one more list, Apart.
-/
import Derived.Test.YtjmnffcmgigodaaBKQ
import Derived.Test.YtjmnffcmgigodaaBK
namespace Go.Proofs.Ytjmnffcmgigodaa
open Go.RowKit Go.Lib

/-- The Book lies at p, rows of one's own above D, all that is below p as it was. -/
structure Here (p D : Nat) (cs : Array Value) (T : TypeId) (w0 w : World) (rs qs : List Row1) : Prop where
  hp : p < D
  hD : D ≤ w.heap.size
  blk : w.heap[p]? = some (.cells cs T (0, 0))
  fr : Below p w0 w
  bag : Bag D w rs qs

theorem Here.next {p D : Nat} {cs : Array Value} {T : TypeId} {w0 w w' : World} {rs qs : List Row1} (h : Here p D cs T w0 w rs qs) (b : Below w.heap.size w w') : Here p D cs T w0 w' rs qs := by
  have h1 := h.hp
  have h2 := h.hD
  exact ⟨h1, Nat.le_trans h2 b.size, block_kept h.blk h1 (grown_of_below b) (fun g hg => by cases hg), h.fr.trans (b.mono (by omega)), h.bag.below b⟩

theorem Here.drewN {p D : Nat} {cs : Array Value} {T : TypeId} {w0 w : World} {rs qs : List Row1} (h : Here p D cs T w0 w rs qs) (q : Nat) : Here p D cs T w0 (w.drewN q) rs qs := h.next (below_drewN (Below.refl _ _) q)

theorem Here.cell {p D : Nat} {cs : Array Value} {T : TypeId} {w0 w : World} {rs qs : List Row1} (h : Here p D cs T w0 w rs qs) (i : Nat) (v : Value) (hv : cs[i]? = some v) : w.cell? ⟨p, i, none⟩ = some v := by
  rw [cell_of_row w p i _ _ _ h.blk]
  exact hv

/-- The Book's cells: it keeps ints alone. -/
def bookI (V W : Value) : Array Value := #[.slice none 0 0, .slice none 0 0, V, W, .slice none 0 0, .slice none 0 0, .slice none 0 0, .slice none 0 0, .slice none 0 0, .slice none 0 0, .slice none 0 0, .slice none 0 0, .slice none 0 0, .slice none 0 0, .slice none 0 0, .slice none 0 0]

/-- A kept list and its copy. -/
def ikept (x : Value × Value × List Int) : Value × List Value := (x.1, x.2.2.map (Value.int .i64))
def icopy (x : Value × Value × List Int) : Row1 := ⟨3, 1, x.2.1, x.2.2.length, x.2.2.map (Value.int .i64)⟩

/-- The rows of a Book that keeps lists of ints. -/
def bookRows (V W : Value) (ls : List (Value × Value × List Int)) (ex : List Row1) : List Row1 :=
  ⟨33, 1, V, (ls.map ikept).length, (ls.map ikept).map (·.1)⟩ :: (irows 0 (ls.map ikept) ++ (⟨33, 1, W, ls.length, ls.map (·.2.1)⟩ :: (ls.map icopy ++ ex)))

theorem Here.more {p D : Nat} {cs : Array Value} {T : TypeId} {w0 w w' : World} {rs qs : List Row1} {e : TypeId} {s : Nat} {v : Value} {n : Nat} {xs : List Value} (h : Here p D cs T w0 w rs qs) (b : Below w.heap.size w w') (o : w'.ownsRow w.heap.size e s v n xs) : Here p D cs T w0 w' (⟨e, s, v, n, xs⟩ :: rs) qs := by
  have k := h.next b
  exact ⟨k.hp, k.hD, k.blk, k.fr, h.bag.new b o h.hD⟩

theorem Here.perm {p D : Nat} {cs : Array Value} {T : TypeId} {w0 w : World} {rs rs' qs : List Row1} (h : Here p D cs T w0 w rs qs) (k : rs.Perm rs') : Here p D cs T w0 w rs' qs := ⟨h.hp, h.hD, h.blk, h.fr, h.bag.perm k⟩

theorem Here.sublist {p D : Nat} {cs : Array Value} {T : TypeId} {w0 w : World} {rs rs' qs : List Row1} (h : Here p D cs T w0 w rs qs) (k : rs'.Sublist rs) : Here p D cs T w0 w rs' qs := ⟨h.hp, h.hD, h.blk, h.fr, h.bag.sublist k⟩

/-- A row beside the Book's. -/
theorem bookRows_perm (V W : Value) (ls : List (Value × Value × List Int)) (ex : List Row1) (r : Row1) : (r :: bookRows V W ls ex).Perm (bookRows V W ls (r :: ex)) := by
  unfold bookRows
  refine (List.Perm.swap _ _ _).trans (List.Perm.cons _ ?_)
  refine (List.perm_middle (a := r) (l₁ := irows 0 (ls.map ikept))).symm.trans (List.Perm.append_left _ ?_)
  refine (List.Perm.swap _ _ _).trans (List.Perm.cons _ ?_)
  exact (List.perm_middle (a := r) (l₁ := ls.map icopy)).symm

/-- What is beside the Book's rows is forgotten. -/
theorem bookRows_bare {p D : Nat} {cs : Array Value} {T : TypeId} {w0 w : World} {V W : Value} {ls : List (Value × Value × List Int)} {ex qs : List Row1} (h : Here p D cs T w0 w (bookRows V W ls ex) qs) : Here p D cs T w0 w (bookRows V W ls []) qs := by
  refine h.sublist ?_
  unfold bookRows
  exact List.Sublist.cons_cons _ (List.Sublist.append (List.Sublist.refl _) (List.Sublist.cons_cons _ (List.Sublist.append (List.Sublist.refl _) (List.nil_sublist _))))

theorem bookRows_nil (p : Nat) (T : TypeId) (w0 w : World) (h1 : w.heap[p]? = some (.cells (bookI (.slice none 0 0) (.slice none 0 0)) T (0, 0))) (h2 : Below p w0 w) : Here p (p + 1) (bookI (.slice none 0 0) (.slice none 0 0)) T w0 w (bookRows (.slice none 0 0) (.slice none 0 0) [] []) [] := by
  refine ⟨by omega, (Array.getElem?_eq_some_iff.1 h1).1, h1, h2, ⟨fun r hr => ?_, ?_, fun _ h => absurd h List.not_mem_nil, fun _ h => absurd h List.not_mem_nil⟩⟩
  · simp only [bookRows, irows, List.map_nil, List.mapIdx_nil, List.nil_append, List.append_nil, List.mem_cons, List.not_mem_nil, or_false] at hr
    rcases hr with rfl | rfl
    · exact World.ownsRow_nil w _ _ 1
    · exact World.ownsRow_nil w _ _ 1
  · simp only [bookRows, irows, List.map_nil, List.mapIdx_nil, List.nil_append, List.append_nil]
    refine List.pairwise_cons.2 ⟨fun x _ g hg => (by cases hg), List.pairwise_cons.2 ⟨fun x _ g hg => (by cases hg), List.Pairwise.nil⟩⟩

theorem irows_zero_snoc (ls : List (Value × Value × List Int)) (x : Value × Value × List Int) : irows 0 ((ls ++ [x]).map ikept) = irows 0 (ls.map ikept) ++ [itodo (ikept x)] := by
  rw [irows_zero, irows_zero, List.map_append, List.map_append]
  rfl

/-- One more list, one's own and apart from the others. -/
theorem bookI_add (p D : Nat) (V W l : Value) (ls : List (Value × Value × List Int)) (ss : List Int) (ex : List Row1) (T : TypeId) (w0 w : World) (hN : ls.length < 250) (hn : ss.length ≤ 1000000)
    (h : Here p D (bookI V W) T w0 w (⟨3, 1, l, ss.length, ss.map (Value.int .i64)⟩ :: bookRows V W ls ex) []) :
    Calls Try.prog 11 #[.pointer (some ⟨p, 0, none⟩), l] w fun e w' => e = .returned (.tuple #[]) ∧ ∃ V' W' u, Here p D (bookI V' W') T w0 w' (bookRows V' W' (ls ++ [(l, u, ss)]) ex) [] := by
  have hb := h.bag
  unfold bookRows at hb
  have e1 : (ls.map ikept).length = ls.length := List.length_map ..
  rw [e1] at hb
  have b1 : Bag D w (⟨33, 1, V, ls.length, (ls.map ikept).map (·.1)⟩ :: ⟨33, 1, W, ls.length, ls.map (·.2.1)⟩ :: ⟨3, 1, l, ss.length, ss.map (Value.int .i64)⟩ :: (irows 0 (ls.map ikept) ++ (ls.map icopy ++ ex))) [] := by
    refine hb.perm ?_
    -- l :: V :: (A ++ W :: B)
    refine (List.Perm.swap _ _ _).trans (List.Perm.cons _ ?_)
    exact ((List.perm_middle).cons _).trans (List.Perm.swap _ _ _)
  refine (Ints_any p D V W l ls.length _ _ ss _ (bookI V W) T w h.hp h.hD h.blk rfl rfl hN hn b1).mono ?_
  rintro e w' ⟨rfl, V', W', u, hblk, hfr, hbag⟩
  refine ⟨rfl, V', W', u, h.hp, Nat.le_trans h.hD hfr.size, hblk, h.fr.trans hfr, ?_⟩
  unfold bookRows
  have e2 : ((ls ++ [(l, u, ss)]).map ikept).length = ls.length + 1 := by simp
  have e3 : ((ls ++ [(l, u, ss)]).map ikept).map (·.1) = (ls.map ikept).map (·.1) ++ [l] := by simp [ikept]
  have e4 : (ls ++ [(l, u, ss)]).length = ls.length + 1 := by simp
  have e5 : (ls ++ [(l, u, ss)]).map (·.2.1) = ls.map (·.2.1) ++ [u] := by simp
  have e6 : (ls ++ [(l, u, ss)]).map icopy = ls.map icopy ++ [⟨3, 1, u, ss.length, ss.map (Value.int .i64)⟩] := by simp [icopy]
  have e7 : itodo (ikept (l, u, ss)) = ⟨3, 1, l, ss.length, ss.map (Value.int .i64)⟩ := by simp [itodo, ikept]
  rw [e2, e3, e4, e5, e6, irows_zero_snoc, e7]
  refine hbag.perm (List.Perm.cons _ ?_)
  -- W :: l :: u :: (A ++ (B ++ E))  to  (A ++ [l]) ++ W :: ((B ++ [u]) ++ E)
  generalize irows 0 (ls.map ikept) = A
  generalize ls.map icopy = B
  generalize (⟨33, 1, W', ls.length + 1, ls.map (·.2.1) ++ [u]⟩ : Row1) = X
  generalize (⟨3, 1, l, ss.length, ss.map (Value.int .i64)⟩ : Row1) = Y
  generalize (⟨3, 1, u, ss.length, ss.map (Value.int .i64)⟩ : Row1) = Z
  have p0 : (Z :: (A ++ (B ++ ex))).Perm (A ++ (B ++ [Z] ++ ex)) := by
    refine (List.perm_middle (a := Z) (l₁ := A) (l₂ := B ++ ex)).symm.trans ?_
    refine List.Perm.append_left A ?_
    rw [List.append_assoc, List.singleton_append]
    exact (List.perm_middle (a := Z) (l₁ := B) (l₂ := ex)).symm
  have p1 : (X :: Y :: Z :: (A ++ (B ++ ex))).Perm (Y :: X :: (A ++ (B ++ [Z] ++ ex))) := (List.Perm.swap _ _ _).trans (List.Perm.cons _ (List.Perm.cons _ p0))
  refine p1.trans ?_
  rw [List.append_assoc A, List.singleton_append]
  refine List.Perm.trans ?_ (List.perm_middle (a := Y) (l₁ := A) (l₂ := X :: (B ++ [Z] ++ ex))).symm
  exact List.Perm.cons _ (List.perm_middle (a := X) (l₁ := A) (l₂ := B ++ [Z] ++ ex)).symm

/-- The list that came last, and a row beside the Book's, as they are. -/
theorem bookI_last {p D : Nat} {cs : Array Value} {T : TypeId} {w0 w : World} {V W l u : Value} {ls : List (Value × Value × List Int)} {ss : List Int} {ex qs : List Row1} (h : Here p D cs T w0 w (bookRows V W (ls ++ [(l, u, ss)]) ex) qs) : CellRow w l ss.length (ss.map (Value.int .i64)) := by
  have m1 : itodo (ikept (l, u, ss)) ∈ bookRows V W (ls ++ [(l, u, ss)]) ex := by
    refine List.mem_cons_of_mem _ (List.mem_append_left _ ?_)
    rw [irows_zero_snoc]
    exact List.mem_append_right _ (List.mem_singleton.2 rfl)
  have o1 := own_row (h.bag.own _ m1)
  simp only [itodo, ikept, List.length_map] at o1
  exact o1

theorem bookI_beside {p D : Nat} {cs : Array Value} {T : TypeId} {w0 w : World} {V W : Value} {ls : List (Value × Value × List Int)} {r : Row1} {ex qs : List Row1} (h : Here p D cs T w0 w (bookRows V W ls (r :: ex)) qs) : CellRow w r.v r.n r.xs :=
  own_row (h.bag.own _ (List.mem_cons_of_mem _ (List.mem_append_right _ (List.mem_cons_of_mem _ (List.mem_append_right _ (List.mem_cons_self ..))))))

theorem bookI_still (p D : Nat) (V W : Value) (ls : List (Value × Value × List Int)) (ex : List Row1) (T : TypeId) (w0 w : World) (hN : ls.length ≤ 250) (hn : ∀ x ∈ ls, x.2.2.length ≤ 900000) (h : Here p D (bookI V W) T w0 w (bookRows V W ls ex) []) :
    Calls Try.prog 28 #[.pointer (some ⟨p, 0, none⟩)] w fun e w' => e = .returned (.bool true) ∧ Here p D (bookI V W) T w0 w' (bookRows V W ls ex) [] := by
  have hb := h.bag
  have eV : (ls.map ikept).map (·.1) = ls.map (·.1) := by simp [ikept, Function.comp_def]
  have oV := own_row (hb.own ⟨33, 1, V, (ls.map ikept).length, (ls.map ikept).map (·.1)⟩ (List.mem_cons_self ..))
  have oW := own_row (hb.own ⟨33, 1, W, ls.length, ls.map (·.2.1)⟩ (List.mem_cons_of_mem _ (List.mem_append_right _ (List.mem_cons_self ..))))
  simp only [List.length_map, eV] at oV
  refine (stillInts_any p V W ls w (h.cell 2 V rfl) (h.cell 3 W rfl) oV oW (fun x hx => ?_) (by omega)).mono ?_
  · have m1 : itodo (ikept x) ∈ bookRows V W ls ex := by
      refine List.mem_cons_of_mem _ (List.mem_append_left _ ?_)
      rw [irows_zero, List.map_map]
      exact List.mem_map.2 ⟨x, hx, rfl⟩
    have m2 : icopy x ∈ bookRows V W ls ex := List.mem_cons_of_mem _ (List.mem_append_right _ (List.mem_cons_of_mem _ (List.mem_append_left _ (List.mem_map.2 ⟨x, hx, rfl⟩))))
    have o1 := own_row (hb.own _ m1)
    have o2 := own_row (hb.own _ m2)
    simp only [itodo, ikept, List.length_map] at o1
    refine ⟨o1, o2, ?_⟩
    have := hn x hx
    omega
  · rintro e w' ⟨rfl, q, rfl⟩
    exact ⟨rfl, h.drewN q⟩

/-- What is looked at, at the end. -/
def oldI (ls : List (Value × Value × List Int)) : List (Value × Nat) := (ls.map ikept).map fun x => (x.1, x.2.length)
def newI (ls : List (Value × Value × List Int)) (gs : List Value) : List (Value × Nat) := (gs.zip (ls.map ikept)).map fun x => (x.1, x.2.2.length + 72)

theorem oldI_marked (p D : Nat) (cs : Array Value) (T : TypeId) (w0 w : World) (V G : Value) (ls : List (Value × Value × List Int)) (gs : List Value) (rs qs : List Row1) (hN : ls.length ≤ 250) (hn : ∀ x ∈ ls, x.2.2.length ≤ 900000)
    (h : Here p D cs T w0 w (⟨33, 1, G, (ls.map ikept).length, gs⟩ :: ⟨33, 1, V, (ls.map ikept).length, (ls.map ikept).map (·.1)⟩ :: rs) qs) (g : Grown (ls.map ikept).length (ls.map ikept) gs [] qs) :
    Calls Try.prog 52 #[V] w fun e w' => e = .returned (.bool true) ∧ Below w.heap.size w w' := by
  have oV := own_row (h.bag.own _ (List.mem_cons_of_mem _ (List.mem_cons_self ..)))
  refine markedInts_any V (oldI ls) w ?_ ?_ ?_
  · have e1 : (oldI ls).length = (ls.map ikept).length := by simp [oldI]
    have e2 : (oldI ls).map (·.1) = (ls.map ikept).map (·.1) := by simp [oldI, Function.comp_def]
    rw [e1, e2]
    exact oV
  · intro i x hx
    simp only [oldI] at hx
    rw [List.getElem?_map] at hx
    cases hy : (ls.map ikept)[i]? with
    | none => rw [hy] at hx; cases hx
    | some y =>
      rw [hy] at hx
      simp only [Option.map_some, Option.some.injEq] at hx
      subst hx
      have m := g.was i y (List.getElem?_eq_some_iff.1 hy).1 hy
      refine ⟨(h.bag.seen _ m).1, ?_⟩
      have hy' := List.mem_of_getElem? hy
      obtain ⟨z, hz, rfl⟩ := List.mem_map.1 hy'
      have := hn z hz
      simp only [ikept, List.length_map]
      omega
  · simp only [oldI, List.length_map]
    omega

theorem newI_marked (p D : Nat) (cs : Array Value) (T : TypeId) (w0 w : World) (V G : Value) (ls : List (Value × Value × List Int)) (gs : List Value) (rs qs : List Row1) (hN : ls.length ≤ 250) (hn : ∀ x ∈ ls, x.2.2.length ≤ 900000)
    (h : Here p D cs T w0 w (⟨33, 1, G, (ls.map ikept).length, gs⟩ :: ⟨33, 1, V, (ls.map ikept).length, (ls.map ikept).map (·.1)⟩ :: rs) qs) (g : Grown (ls.map ikept).length (ls.map ikept) gs [] qs) :
    Calls Try.prog 52 #[G] w fun e w' => e = .returned (.bool true) ∧ Below w.heap.size w w' := by
  have oG := own_row (h.bag.own _ (List.mem_cons_self ..))
  have hl := g.len
  refine markedInts_any G (newI ls gs) w ?_ ?_ ?_
  · have e1 : (newI ls gs).length = (ls.map ikept).length := by simp only [newI, List.length_map, List.length_zip] at hl ⊢; omega
    have e2 : (newI ls gs).map (·.1) = gs := by
      simp only [newI, List.map_map, Function.comp_def]
      exact List.map_fst_zip (by omega)
    rw [e1, e2]
    exact oG
  · intro i x hx
    simp only [newI] at hx
    rw [List.getElem?_map] at hx
    cases hy : (gs.zip (ls.map ikept))[i]? with
    | none => rw [hy] at hx; cases hx
    | some y =>
      rw [hy] at hx
      simp only [Option.map_some, Option.some.injEq] at hx
      subst hx
      obtain ⟨v, z⟩ := y
      obtain ⟨h1, h2⟩ := List.getElem?_zip_eq_some.1 hy
      have m := g.now i z v (List.getElem?_eq_some_iff.1 h2).1 h2 h1
      refine ⟨(h.bag.seen _ m).1, ?_⟩
      obtain ⟨u, hu, rfl⟩ := List.mem_map.1 (List.mem_of_getElem? h2)
      have := hn u hu
      simp only [ikept, List.length_map]
      omega
  · simp only [newI, List.length_map, List.length_zip] at hl ⊢
    omega

set_option maxRecDepth 100000 in
set_option maxHeartbeats 6400000 in
theorem Apart_ints (p D : Nat) (V W : Value) (ls : List (Value × Value × List Int)) (ex : List Row1) (T : TypeId) (w0 w : World) (hN : ls.length ≤ 250) (hn : ∀ x ∈ ls, x.2.2.length ≤ 900000) (h : Here p D (bookI V W) T w0 w (bookRows V W ls ex) []) :
    Calls Try.prog 23 #[.pointer (some ⟨p, 0, none⟩)] w fun e w' => e = .returned (.bool true) ∧ Below p w0 w' := by
  have H := Hid.of h
  have HNN := Hid.of hn
  have HN := Hid.of hN
  clear h hn hN
  go_enter Try.func23, Try.ntmps23
  go_wp2_with fail
  refine (stillTexts_nil p _ (H.out.cell 0 _ rfl)).mono ?_
  rintro x w1 ⟨rfl, b1⟩
  have h1 := H.out.next b1
  clear H b1
  have H := Hid.of h1
  clear h1
  go_wp2_with fail
  refine (bookI_still p D V W ls ex T w0 _ HN.out HNN.out H.out).mono ?_
  rintro x w2 ⟨rfl, h1⟩
  clear H
  have H := Hid.of h1
  clear h1
  go_wp2_with fail
  refine (stillRecords_nil p _ (H.out.cell 4 _ rfl)).mono ?_
  rintro x w3 ⟨rfl, b1⟩
  have h1 := H.out.next b1
  clear H b1
  have H := Hid.of h1
  clear h1
  go_wp2_with fail
  refine (stillSamples_nil p _ (H.out.cell 6 _ rfl)).mono ?_
  rintro x w4 ⟨rfl, b1⟩
  have h1 := H.out.next b1
  clear H b1
  have H := Hid.of h1
  clear h1
  go_wp2_with fail
  refine (stillTiers_nil p _ (H.out.cell 8 _ rfl)).mono ?_
  rintro x w5 ⟨rfl, b1⟩
  have h1 := H.out.next b1
  clear H b1
  have H := Hid.of h1
  clear h1
  go_wp2_with fail
  refine (stillErrnos_nil p _ (H.out.cell 10 _ rfl)).mono ?_
  rintro x w6 ⟨rfl, b1⟩
  have h1 := H.out.next b1
  clear H b1
  have H := Hid.of h1
  clear h1
  go_wp2_with fail
  refine (stillWords_nil p _ (H.out.cell 12 _ rfl)).mono ?_
  rintro x w7 ⟨rfl, b1⟩
  have h1 := H.out.next b1
  clear H b1
  have H := Hid.of h1
  clear h1
  go_wp2_with fail
  refine (stillSteps_nil p _ (H.out.cell 14 _ rfl)).mono ?_
  rintro x w8 ⟨rfl, b1⟩
  have h1 := H.out.next b1
  clear H b1
  have H := Hid.of h1
  clear h1
  go_wp2_with fail
  refine (putSteps_nil p _ (H.out.cell 14 _ rfl)).mono ?_
  rintro x w9 ⟨rfl, b1⟩
  have h1 := H.out.next b1
  clear H b1
  have H := Hid.of h1
  clear h1
  go_wp2_with fail
  refine (putTexts_nil p _ (H.out.cell 0 _ rfl)).mono ?_
  rintro x w10 ⟨rfl, b1⟩
  have h1 := H.out.next b1
  clear H b1
  have H := Hid.of h1
  clear h1
  go_wp2_with fail
  refine (putInts_any p D V (ls.map ikept) _ (bookI V W) T _ H.out.hp H.out.hD H.out.blk rfl (by have := HN.out; simp only [List.length_map]; omega) (by intro x hx; obtain ⟨y, hy, rfl⟩ := List.mem_map.1 hx; have := HNN.out y hy; simp only [ikept, List.length_map]; omega) H.out.bag).mono ?_
  rintro x w11 ⟨rfl, b1, k1, g1⟩
  have h1 : Here p D (bookI V W) T w0 w11 _ [] := ⟨H.out.hp, Nat.le_trans H.out.hD b1.size, k1, H.out.fr.trans b1, g1⟩
  clear H b1 k1 g1
  have H := Hid.of h1
  clear h1
  go_wp2_with fail
  refine (putRecords_nil p _ (H.out.cell 4 _ rfl)).mono ?_
  rintro x w12 ⟨rfl, b1⟩
  have h1 := H.out.next b1
  clear H b1
  have H := Hid.of h1
  clear h1
  go_wp2_with fail
  refine (putSamples_nil p _ (H.out.cell 6 _ rfl)).mono ?_
  rintro x w13 ⟨rfl, b1⟩
  have h1 := H.out.next b1
  clear H b1
  have H := Hid.of h1
  clear h1
  go_wp2_with fail
  refine (putTiers_nil p _ (H.out.cell 8 _ rfl)).mono ?_
  rintro x w14 ⟨rfl, b1⟩
  have h1 := H.out.next b1
  clear H b1
  have H := Hid.of h1
  clear h1
  go_wp2_with fail
  refine (putErrnos_nil p _ (H.out.cell 10 _ rfl)).mono ?_
  rintro x w15 ⟨rfl, b1⟩
  have h1 := H.out.next b1
  clear H b1
  have H := Hid.of h1
  clear h1
  go_wp2_with fail
  refine (putWords_nil p _ (H.out.cell 12 _ rfl)).mono ?_
  rintro x w16 ⟨rfl, b1⟩
  have h1 := H.out.next b1
  clear H b1
  have H := Hid.of h1
  clear h1
  go_wp2_with fail
  refine (growTexts_nil p _ (H.out.cell 0 _ rfl)).mono ?_
  rintro x w17 ⟨rfl, b1⟩
  have h1 := H.out.next b1
  clear H b1
  have H := Hid.of h1
  clear h1
  go_wp2_with fail
  refine (growInts_any p D V (ls.map ikept) _ [] (bookI V W) T _ H.out.hp H.out.hD H.out.blk rfl (by have := HN.out; simp only [List.length_map]; omega) (by intro x hx; obtain ⟨y, hy, rfl⟩ := List.mem_map.1 hx; have := HNN.out y hy; simp only [ikept, List.length_map]; omega) H.out.bag).mono ?_
  rintro x w18 ⟨G, gs, qs, rfl, b1, k1, g1, g2⟩
  have h1 : Here p D (bookI V W) T w0 w18 _ qs := ⟨H.out.hp, Nat.le_trans H.out.hD b1.size, k1, H.out.fr.trans b1, g2⟩
  have GR := Hid.of g1
  clear H b1 k1 g1 g2
  have H := Hid.of h1
  clear h1
  go_wp2_with fail
  refine (growRecords_nil p _ (H.out.cell 4 _ rfl)).mono ?_
  rintro x w19 ⟨rfl, b1⟩
  have h1 := H.out.next b1
  clear H b1
  have H := Hid.of h1
  clear h1
  go_wp2_with fail
  refine (growSamples_nil p _ (H.out.cell 6 _ rfl)).mono ?_
  rintro x w20 ⟨rfl, b1⟩
  have h1 := H.out.next b1
  clear H b1
  have H := Hid.of h1
  clear h1
  go_wp2_with fail
  refine (growTiers_nil p _ (H.out.cell 8 _ rfl)).mono ?_
  rintro x w21 ⟨rfl, b1⟩
  have h1 := H.out.next b1
  clear H b1
  have H := Hid.of h1
  clear h1
  go_wp2_with fail
  refine (growErrnos_nil p _ (H.out.cell 10 _ rfl)).mono ?_
  rintro x w22 ⟨rfl, b1⟩
  have h1 := H.out.next b1
  clear H b1
  have H := Hid.of h1
  clear h1
  go_wp2_with fail
  refine (growWords_nil p _ (H.out.cell 12 _ rfl)).mono ?_
  rintro x w23 ⟨rfl, b1⟩
  have h1 := H.out.next b1
  clear H b1
  have H := Hid.of h1
  clear h1
  go_wp2_with fail
  refine (growSteps_nil p _ (H.out.cell 14 _ rfl)).mono ?_
  rintro x w24 ⟨rfl, b1⟩
  have h1 := H.out.next b1
  clear H b1
  have H := Hid.of h1
  clear h1
  go_wp2_with fail
  refine (markedTexts_nil _ _).mono ?_
  rintro x w25 ⟨rfl, b1⟩
  have h1 := H.out.next b1
  clear H b1
  have H := Hid.of h1
  clear h1
  have c26 : w25.cell? ⟨p, 0, none⟩ = some (.slice none 0 0) := H.out.cell 0 _ rfl
  go_wp2_with fail
  refine (markedTexts_nil _ _).mono ?_
  rintro x w26 ⟨rfl, b1⟩
  have h1 := H.out.next b1
  clear H b1
  have H := Hid.of h1
  clear h1
  clear c26
  go_wp2_with fail
  refine (newI_marked p D _ T w0 _ V G ls gs _ qs HN.out HNN.out H.out GR.out).mono ?_
  rintro x w27 ⟨rfl, b1⟩
  have h1 := H.out.next b1
  clear H b1
  have H := Hid.of h1
  clear h1
  have c28 : w27.cell? ⟨p, 2, none⟩ = some V := H.out.cell 2 _ rfl
  go_wp2_with fail
  refine (oldI_marked p D _ T w0 _ V G ls gs _ qs HN.out HNN.out H.out GR.out).mono ?_
  rintro x w28 ⟨rfl, b1⟩
  have h1 := H.out.next b1
  clear H b1
  have H := Hid.of h1
  clear h1
  clear c28
  go_wp2_with fail
  refine (markedRecords_nil _ _).mono ?_
  rintro x w29 ⟨rfl, b1⟩
  have h1 := H.out.next b1
  clear H b1
  have H := Hid.of h1
  clear h1
  have c30 : w29.cell? ⟨p, 4, none⟩ = some (.slice none 0 0) := H.out.cell 4 _ rfl
  go_wp2_with fail
  refine (markedRecords_nil _ _).mono ?_
  rintro x w30 ⟨rfl, b1⟩
  have h1 := H.out.next b1
  clear H b1
  have H := Hid.of h1
  clear h1
  clear c30
  go_wp2_with fail
  refine (markedSamples_nil _ _).mono ?_
  rintro x w31 ⟨rfl, b1⟩
  have h1 := H.out.next b1
  clear H b1
  have H := Hid.of h1
  clear h1
  have c32 : w31.cell? ⟨p, 6, none⟩ = some (.slice none 0 0) := H.out.cell 6 _ rfl
  go_wp2_with fail
  refine (markedSamples_nil _ _).mono ?_
  rintro x w32 ⟨rfl, b1⟩
  have h1 := H.out.next b1
  clear H b1
  have H := Hid.of h1
  clear h1
  clear c32
  go_wp2_with fail
  refine (markedTiers_nil _ _).mono ?_
  rintro x w33 ⟨rfl, b1⟩
  have h1 := H.out.next b1
  clear H b1
  have H := Hid.of h1
  clear h1
  have c34 : w33.cell? ⟨p, 8, none⟩ = some (.slice none 0 0) := H.out.cell 8 _ rfl
  go_wp2_with fail
  refine (markedTiers_nil _ _).mono ?_
  rintro x w34 ⟨rfl, b1⟩
  have h1 := H.out.next b1
  clear H b1
  have H := Hid.of h1
  clear h1
  clear c34
  go_wp2_with fail
  refine (markedErrnos_nil _ _).mono ?_
  rintro x w35 ⟨rfl, b1⟩
  have h1 := H.out.next b1
  clear H b1
  have H := Hid.of h1
  clear h1
  have c36 : w35.cell? ⟨p, 10, none⟩ = some (.slice none 0 0) := H.out.cell 10 _ rfl
  go_wp2_with fail
  refine (markedErrnos_nil _ _).mono ?_
  rintro x w36 ⟨rfl, b1⟩
  have h1 := H.out.next b1
  clear H b1
  have H := Hid.of h1
  clear h1
  clear c36
  go_wp2_with fail
  refine (markedWords_nil _ _).mono ?_
  rintro x w37 ⟨rfl, b1⟩
  have h1 := H.out.next b1
  clear H b1
  have H := Hid.of h1
  clear h1
  have c38 : w37.cell? ⟨p, 12, none⟩ = some (.slice none 0 0) := H.out.cell 12 _ rfl
  go_wp2_with fail
  refine (markedWords_nil _ _).mono ?_
  rintro x w38 ⟨rfl, b1⟩
  have h1 := H.out.next b1
  clear H b1
  have H := Hid.of h1
  clear h1
  clear c38
  go_wp2_with fail
  refine (markedSteps_nil _ _).mono ?_
  rintro x w39 ⟨rfl, b1⟩
  have h1 := H.out.next b1
  clear H b1
  have H := Hid.of h1
  clear h1
  have c40 : w39.cell? ⟨p, 14, none⟩ = some (.slice none 0 0) := H.out.cell 14 _ rfl
  go_wp2_with fail
  refine (markedSteps_nil _ _).mono ?_
  rintro x w40 ⟨rfl, b1⟩
  have h1 := H.out.next b1
  clear H b1
  have H := Hid.of h1
  clear h1
  clear c40
  go_wp2
  go_ret
  exact ⟨rfl, H.out.fr⟩

end Go.Proofs.Ytjmnffcmgigodaa
