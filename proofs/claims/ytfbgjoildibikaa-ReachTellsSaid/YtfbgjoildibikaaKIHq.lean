/-
  A Book's lists of ints (package sedimentbook), whatever it keeps beside: one more, still, put, grow, marked.
-/
import Derived.Test.YtfbgjoildibikaaQ10
import Derived.Test.YtfbgjoildibikaaBKQq
namespace Go.Proofs.Ytfbgjoildibikaa
open Go.RowKit Go.Lib

/-- A kept list and its copy. -/
def ikept (x : Value × Value × List Int) : Value × List Value := (x.1, x.2.2.map (Value.int .i64))
def icopy (x : Value × Value × List Int) : Row1 := ⟨3, 1, x.2.1, x.2.2.length, x.2.2.map (Value.int .i64)⟩

/-- The rows that are of lists of ints: as they came, with their marks, and what is left when they have been grown. -/
def iblk (V W : Value) (ls : List (Value × Value × List Int)) : List Row1 :=
  ⟨25, 1, V, (ls.map ikept).length, (ls.map ikept).map (·.1)⟩ :: (irows 0 (ls.map ikept) ++ (⟨25, 1, W, ls.length, ls.map (·.2.1)⟩ :: ls.map icopy))
def iput (V W : Value) (ls : List (Value × Value × List Int)) : List Row1 :=
  ⟨25, 1, V, (ls.map ikept).length, (ls.map ikept).map (·.1)⟩ :: (irows (ls.map ikept).length (ls.map ikept) ++ (⟨25, 1, W, ls.length, ls.map (·.2.1)⟩ :: ls.map icopy))
def irest (V W : Value) (ls : List (Value × Value × List Int)) : List Row1 :=
  ⟨25, 1, V, (ls.map ikept).length, (ls.map ikept).map (·.1)⟩ :: (⟨25, 1, W, ls.length, ls.map (·.2.1)⟩ :: ls.map icopy)

theorem iblk_nil (D : Nat) (w : World) (rs qs : List Row1) (h : Bag D w rs qs) : Bag D w (iblk (.slice none 0 0) (.slice none 0 0) [] ++ rs) qs := by
  have e : iblk (.slice none 0 0) (.slice none 0 0) [] ++ rs = ⟨25, 1, .slice none 0 0, 0, []⟩ :: ⟨25, 1, .slice none 0 0, 0, []⟩ :: rs := rfl
  rw [e]
  refine ⟨fun r hr => ?_, ?_, h.seen, fun q hq r hr => ?_⟩
  · rcases List.mem_cons.1 hr with rfl | hr
    · exact World.ownsRow_nil w _ _ 1
    · rcases List.mem_cons.1 hr with rfl | hr
      · exact World.ownsRow_nil w _ _ 1
      · exact h.own r hr
  · exact List.pairwise_cons.2 ⟨fun x _ g hg => (by cases hg), List.pairwise_cons.2 ⟨fun x _ g hg => (by cases hg), h.apart⟩⟩
  · rcases List.mem_cons.1 hr with rfl | hr
    · intro g _ h
      cases h
    · rcases List.mem_cons.1 hr with rfl | hr
      · intro g _ h
        cases h
      · exact h.off q hq r hr

theorem irows_zero_snoc' (ls : List (Value × Value × List Int)) (x : Value × Value × List Int) : irows 0 ((ls ++ [x]).map ikept) = irows 0 (ls.map ikept) ++ [itodo (ikept x)] := by
  rw [irows_zero, irows_zero, List.map_append, List.map_append]
  rfl

/-- One more list, one's own and apart from the others. -/
theorem iblk_add (p D : Nat) (cs : Array Value) (V W l : Value) (ls : List (Value × Value × List Int)) (ss : List Int) (rest : List Row1) (T : TypeId) (w0 w : World) (h2 : cs[2]? = some V) (h3 : cs[3]? = some W) (hN : ls.length < 250) (hn : ss.length ≤ 1000000)
    (h : Here p D cs T w0 w (⟨3, 1, l, ss.length, ss.map (Value.int .i64)⟩ :: (iblk V W ls ++ rest)) []) :
    Calls Try.prog 16 #[.pointer (some ⟨p, 0, none⟩), l] w fun e w' => e = .returned (.tuple #[]) ∧ ∃ V' W' u, Here p D ((cs.setIfInBounds 2 V').setIfInBounds 3 W') T w0 w' (iblk V' W' (ls ++ [(l, u, ss)]) ++ rest) [] := by
  have hb := h.bag
  unfold iblk at hb
  have e1 : (ls.map ikept).length = ls.length := List.length_map ..
  rw [e1] at hb
  have b1 : Bag D w (⟨25, 1, V, ls.length, (ls.map ikept).map (·.1)⟩ :: ⟨25, 1, W, ls.length, ls.map (·.2.1)⟩ :: ⟨3, 1, l, ss.length, ss.map (Value.int .i64)⟩ :: (irows 0 (ls.map ikept) ++ (ls.map icopy ++ rest))) [] := by
    refine hb.perm ?_
    generalize (⟨25, 1, V, ls.length, (ls.map ikept).map (·.1)⟩ : Row1) = X
    generalize (⟨25, 1, W, ls.length, ls.map (·.2.1)⟩ : Row1) = Y
    generalize (⟨3, 1, l, ss.length, ss.map (Value.int .i64)⟩ : Row1) = Z
    classical
    rw [List.perm_iff_count]
    intro a
    simp only [List.count_append, List.count_cons, List.cons_append, List.append_assoc]
    omega
  refine (Ints_any p D V W l ls.length _ _ ss _ cs T w h.hp h.hD h.blk h2 h3 hN hn b1).mono ?_
  rintro e w' ⟨rfl, V', W', u, hblk, hfr, hbag⟩
  refine ⟨rfl, V', W', u, h.hp, Nat.le_trans h.hD hfr.size, hblk, h.fr.trans hfr, ?_⟩
  unfold iblk
  have e2 : ((ls ++ [(l, u, ss)]).map ikept).length = ls.length + 1 := by simp
  have e3 : ((ls ++ [(l, u, ss)]).map ikept).map (·.1) = (ls.map ikept).map (·.1) ++ [l] := by simp [ikept]
  have e4 : (ls ++ [(l, u, ss)]).length = ls.length + 1 := by simp
  have e5 : (ls ++ [(l, u, ss)]).map (·.2.1) = ls.map (·.2.1) ++ [u] := by simp
  have e6 : (ls ++ [(l, u, ss)]).map icopy = ls.map icopy ++ [⟨3, 1, u, ss.length, ss.map (Value.int .i64)⟩] := by simp [icopy]
  have e7 : itodo (ikept (l, u, ss)) = ⟨3, 1, l, ss.length, ss.map (Value.int .i64)⟩ := by simp [itodo, ikept]
  rw [e2, e3, e4, e5, e6, irows_zero_snoc', e7]
  refine hbag.perm ?_
  generalize irows 0 (ls.map ikept) = A
  generalize ls.map icopy = B
  generalize (⟨25, 1, V', ls.length + 1, (ls.map ikept).map (·.1) ++ [l]⟩ : Row1) = Q
  generalize (⟨25, 1, W', ls.length + 1, ls.map (·.2.1) ++ [u]⟩ : Row1) = X
  generalize (⟨3, 1, l, ss.length, ss.map (Value.int .i64)⟩ : Row1) = Y
  generalize (⟨3, 1, u, ss.length, ss.map (Value.int .i64)⟩ : Row1) = Z
  classical
  rw [List.perm_iff_count]
  intro a
  simp only [List.count_append, List.count_cons, List.cons_append, List.append_assoc, List.count_nil]
  omega

/-- The list that came last, as it is. -/
theorem iblk_last {p D : Nat} {cs : Array Value} {T : TypeId} {w0 w : World} {V W l u : Value} {ls : List (Value × Value × List Int)} {ss : List Int} {rest qs : List Row1} (h : Here p D cs T w0 w (iblk V W (ls ++ [(l, u, ss)]) ++ rest) qs) : CellRow w l ss.length (ss.map (Value.int .i64)) := by
  have m1 : itodo (ikept (l, u, ss)) ∈ iblk V W (ls ++ [(l, u, ss)]) ++ rest := by
    refine List.mem_append_left _ (List.mem_cons_of_mem _ (List.mem_append_left _ ?_))
    rw [irows_zero_snoc']
    exact List.mem_append_right _ (List.mem_singleton.2 rfl)
  have o1 := own_row (h.bag.own _ m1)
  simp only [itodo, ikept, List.length_map] at o1
  exact o1

theorem iblk_still (p D : Nat) (cs : Array Value) (V W : Value) (ls : List (Value × Value × List Int)) (rest : List Row1) (T : TypeId) (w0 w : World) (h2 : cs[2]? = some V) (h3 : cs[3]? = some W) (hN : ls.length ≤ 250) (hn : ∀ x ∈ ls, x.2.2.length ≤ 900000) (h : Here p D cs T w0 w (iblk V W ls ++ rest) []) :
    Calls Try.prog 47 #[.pointer (some ⟨p, 0, none⟩)] w fun e w' => e = .returned (.bool true) ∧ Here p D cs T w0 w' (iblk V W ls ++ rest) [] := by
  have hb := h.bag
  have eV : (ls.map ikept).map (·.1) = ls.map (·.1) := by simp [ikept, Function.comp_def]
  have oV := own_row (hb.own ⟨25, 1, V, (ls.map ikept).length, (ls.map ikept).map (·.1)⟩ (List.mem_append_left _ (List.mem_cons_self ..)))
  have oW := own_row (hb.own ⟨25, 1, W, ls.length, ls.map (·.2.1)⟩ (List.mem_append_left _ (List.mem_cons_of_mem _ (List.mem_append_right _ (List.mem_cons_self ..)))))
  simp only [List.length_map, eV] at oV
  refine (stillInts_any p V W ls w (h.cell 2 V h2) (h.cell 3 W h3) oV oW (fun x hx => ?_) (by omega)).mono ?_
  · have m1 : itodo (ikept x) ∈ iblk V W ls ++ rest := by
      refine List.mem_append_left _ (List.mem_cons_of_mem _ (List.mem_append_left _ ?_))
      rw [irows_zero, List.map_map]
      exact List.mem_map.2 ⟨x, hx, rfl⟩
    have m2 : icopy x ∈ iblk V W ls ++ rest := List.mem_append_left _ (List.mem_cons_of_mem _ (List.mem_append_right _ (List.mem_cons_of_mem _ (List.mem_map.2 ⟨x, hx, rfl⟩))))
    have o1 := own_row (hb.own _ m1)
    have o2 := own_row (hb.own _ m2)
    simp only [itodo, ikept, List.length_map] at o1
    refine ⟨o1, o2, ?_⟩
    have := hn x hx
    omega
  · rintro e w' ⟨rfl, q, rfl⟩
    exact ⟨rfl, h.drewN q⟩

theorem kept_len (ls : List (Value × Value × List Int)) (hn : ∀ x ∈ ls, x.2.2.length ≤ 900000) : ∀ x ∈ ls.map ikept, x.2.length ≤ 900000 := by
  intro x hx
  obtain ⟨y, hy, rfl⟩ := List.mem_map.1 hx
  have := hn y hy
  simp only [ikept, List.length_map]
  omega

theorem iblk_put (p D : Nat) (cs : Array Value) (V W : Value) (ls : List (Value × Value × List Int)) (rest : List Row1) (T : TypeId) (w0 w : World) (h2 : cs[2]? = some V) (hN : ls.length ≤ 250) (hn : ∀ x ∈ ls, x.2.2.length ≤ 900000) (h : Here p D cs T w0 w (iblk V W ls ++ rest) []) :
    Calls Try.prog 56 #[.pointer (some ⟨p, 0, none⟩)] w fun e w' => e = .returned (.tuple #[]) ∧ Here p D cs T w0 w' (iput V W ls ++ rest) [] := by
  have hb := h.bag
  unfold iblk at hb
  rw [List.cons_append, List.append_assoc] at hb
  refine (putInts_any p D V (ls.map ikept) _ cs T w h.hp h.hD h.blk h2 (by simp only [List.length_map]; omega) (fun x hx => by have := kept_len ls hn x hx; omega) hb).mono ?_
  rintro e w' ⟨rfl, b1, k1, g1⟩
  refine ⟨rfl, h.hp, Nat.le_trans h.hD b1.size, k1, h.fr.trans b1, ?_⟩
  unfold iput
  rw [List.cons_append, List.append_assoc]
  exact g1

theorem Grown.wider {j : Nat} {ls : List (Value × List Value)} {gs : List Value} {qs0 qs qs1 : List Row1} (h : Grown j ls gs qs0 qs) (k : ∀ q ∈ qs, q ∈ qs1) : Grown j ls gs qs0 qs1 :=
  ⟨h.len, fun i x hi hx => k _ (h.was i x hi hx), fun i x v hi hx hv => k _ (h.now i x v hi hx hv), fun q hq => k _ (h.old q hq)⟩

theorem iput_grow (p D : Nat) (cs : Array Value) (V W : Value) (ls : List (Value × Value × List Int)) (rest qs : List Row1) (T : TypeId) (w0 w : World) (h2 : cs[2]? = some V) (hN : ls.length ≤ 250) (hn : ∀ x ∈ ls, x.2.2.length ≤ 900000) (h : Here p D cs T w0 w (iput V W ls ++ rest) qs) :
    Calls Try.prog 63 #[.pointer (some ⟨p, 0, none⟩)] w fun e w' => ∃ G gs qs', e = .returned G ∧ Grown (ls.map ikept).length (ls.map ikept) gs qs qs' ∧ Here p D cs T w0 w' (⟨25, 1, G, (ls.map ikept).length, gs⟩ :: (irest V W ls ++ rest)) qs' := by
  have hb := h.bag
  unfold iput at hb
  rw [List.cons_append, List.append_assoc] at hb
  refine (growInts_any p D V (ls.map ikept) _ qs cs T w h.hp h.hD h.blk h2 (by simp only [List.length_map]; omega) (kept_len ls hn) hb).mono ?_
  rintro e w' ⟨G, gs, qs', rfl, b1, k1, g1, g2⟩
  exact ⟨G, gs, qs', rfl, g1, h.hp, Nat.le_trans h.hD b1.size, k1, h.fr.trans b1, g2⟩

/-- What is looked at, at the end. -/
def oldI (ls : List (Value × Value × List Int)) : List (Value × Nat) := (ls.map ikept).map fun x => (x.1, x.2.length)
def newI (ls : List (Value × Value × List Int)) (gs : List Value) : List (Value × Nat) := (gs.zip (ls.map ikept)).map fun x => (x.1, x.2.2.length + 72)

theorem iold_marked (p D : Nat) (cs : Array Value) (T : TypeId) (w0 w : World) (V : Value) (ls : List (Value × Value × List Int)) (gs : List Value) (rs qs0 qs : List Row1) (hN : ls.length ≤ 250) (hn : ∀ x ∈ ls, x.2.2.length ≤ 900000)
    (h : Here p D cs T w0 w rs qs) (hV : (⟨25, 1, V, (ls.map ikept).length, (ls.map ikept).map (·.1)⟩ : Row1) ∈ rs) (g : Grown (ls.map ikept).length (ls.map ikept) gs qs0 qs) :
    Calls Try.prog 71 #[V] w fun e w' => e = .returned (.bool true) ∧ Here p D cs T w0 w' rs qs := by
  have oV := own_row (h.bag.own _ hV)
  refine (markedInts_any V (oldI ls) w ?_ ?_ ?_).mono fun e w' ⟨he, hb⟩ => ⟨he, h.next hb⟩
  · have e1 : (oldI ls).length = (ls.map ikept).length := by simp [oldI]
    have e2 : (oldI ls).map (·.1) = (ls.map ikept).map (·.1) := by simp [oldI, Function.comp_def]
    rw [e1, e2]
    exact oV
  · intro i x hx
    simp only [oldI] at hx
    rw [List.getElem?_map] at hx
    cases hy : (ls.map ikept)[i]? with
    | none => rw [hy] at hx; cases hx
    | some y =>
      rw [hy] at hx
      simp only [Option.map_some, Option.some.injEq] at hx
      subst hx
      have m := g.was i y (List.getElem?_eq_some_iff.1 hy).1 hy
      refine ⟨(h.bag.seen _ m).1, ?_⟩
      have := kept_len ls hn y (List.mem_of_getElem? hy)
      simp only
      omega
  · simp only [oldI, List.length_map]
    omega

theorem inew_marked (p D : Nat) (cs : Array Value) (T : TypeId) (w0 w : World) (G : Value) (ls : List (Value × Value × List Int)) (gs : List Value) (rs qs0 qs : List Row1) (hN : ls.length ≤ 250) (hn : ∀ x ∈ ls, x.2.2.length ≤ 900000)
    (h : Here p D cs T w0 w rs qs) (hG : (⟨25, 1, G, (ls.map ikept).length, gs⟩ : Row1) ∈ rs) (g : Grown (ls.map ikept).length (ls.map ikept) gs qs0 qs) :
    Calls Try.prog 71 #[G] w fun e w' => e = .returned (.bool true) ∧ Here p D cs T w0 w' rs qs := by
  have oG := own_row (h.bag.own _ hG)
  have hl := g.len
  refine (markedInts_any G (newI ls gs) w ?_ ?_ ?_).mono fun e w' ⟨he, hb⟩ => ⟨he, h.next hb⟩
  · have e1 : (newI ls gs).length = (ls.map ikept).length := by simp only [newI, List.length_map, List.length_zip] at hl ⊢; omega
    have e2 : (newI ls gs).map (·.1) = gs := by
      simp only [newI, List.map_map, Function.comp_def]
      exact List.map_fst_zip (by omega)
    rw [e1, e2]
    exact oG
  · intro i x hx
    simp only [newI] at hx
    rw [List.getElem?_map] at hx
    cases hy : (gs.zip (ls.map ikept))[i]? with
    | none => rw [hy] at hx; cases hx
    | some y =>
      rw [hy] at hx
      simp only [Option.map_some, Option.some.injEq] at hx
      subst hx
      obtain ⟨v, z⟩ := y
      obtain ⟨h1, h2⟩ := List.getElem?_zip_eq_some.1 hy
      have m := g.now i z v (List.getElem?_eq_some_iff.1 h2).1 h2 h1
      refine ⟨(h.bag.seen _ m).1, ?_⟩
      have := kept_len ls hn z (List.mem_of_getElem? h2)
      simp only
      omega
  · simp only [newI, List.length_map, List.length_zip] at hl ⊢
    omega

end Go.Proofs.Ytfbgjoildibikaa
