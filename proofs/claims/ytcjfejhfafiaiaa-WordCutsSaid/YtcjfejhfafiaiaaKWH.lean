/-
  A Book's lists of words (package sedimentbook), whatever it keeps beside: one more, still, put, grow, marked.
-/
import Derived.Test.YtcjfejhfafiaiaaKH
import Derived.Test.YtcjfejhfafiaiaaKWQ
namespace Go.Proofs.Ytcjfejhfafiaiaa
open Go.RowKit Go.Lib

/-- A kept list and its copy. -/
def wkept (x : Value × Value × List WordL) : Value × List WordL := (x.1, x.2.2)
def wcopy (x : Value × Value × List WordL) : Row1 := ⟨44, 3, x.2.1, x.2.2.length, flat wenc x.2.2⟩

/-- The rows that are of lists of ints: as they came, with their marks, and what is left when they have been grown. -/
def wblk (V W : Value) (ls : List (Value × Value × List WordL)) : List Row1 :=
  ⟨49, 1, V, (ls.map wkept).length, (ls.map wkept).map (·.1)⟩ :: (wrows 0 (ls.map wkept) ++ (⟨49, 1, W, ls.length, ls.map (·.2.1)⟩ :: ls.map wcopy))
def wput (V W : Value) (ls : List (Value × Value × List WordL)) : List Row1 :=
  ⟨49, 1, V, (ls.map wkept).length, (ls.map wkept).map (·.1)⟩ :: (wrows (ls.map wkept).length (ls.map wkept) ++ (⟨49, 1, W, ls.length, ls.map (·.2.1)⟩ :: ls.map wcopy))
def wrest (V W : Value) (ls : List (Value × Value × List WordL)) : List Row1 :=
  ⟨49, 1, V, (ls.map wkept).length, (ls.map wkept).map (·.1)⟩ :: (⟨49, 1, W, ls.length, ls.map (·.2.1)⟩ :: ls.map wcopy)

theorem wblk_nil (D : Nat) (w : World) (rs qs : List Row1) (h : Bag D w rs qs) : Bag D w (wblk (.slice none 0 0) (.slice none 0 0) [] ++ rs) qs := by
  have e : wblk (.slice none 0 0) (.slice none 0 0) [] ++ rs = ⟨49, 1, .slice none 0 0, 0, []⟩ :: ⟨49, 1, .slice none 0 0, 0, []⟩ :: rs := rfl
  rw [e]
  refine ⟨fun r hr => ?_, ?_, h.seen, fun q hq r hr => ?_⟩
  · rcases List.mem_cons.1 hr with rfl | hr
    · exact World.ownsRow_nil w _ _ 1
    · rcases List.mem_cons.1 hr with rfl | hr
      · exact World.ownsRow_nil w _ _ 1
      · exact h.own r hr
  · exact List.pairwise_cons.2 ⟨fun x _ g hg => (by cases hg), List.pairwise_cons.2 ⟨fun x _ g hg => (by cases hg), h.apart⟩⟩
  · rcases List.mem_cons.1 hr with rfl | hr
    · intro g _ h
      cases h
    · rcases List.mem_cons.1 hr with rfl | hr
      · intro g _ h
        cases h
      · exact h.off q hq r hr

theorem wrows_zero_snoc' (ls : List (Value × Value × List WordL)) (x : Value × Value × List WordL) : wrows 0 ((ls ++ [x]).map wkept) = wrows 0 (ls.map wkept) ++ [wtodo (wkept x)] := by
  rw [wrows_zero, wrows_zero, List.map_append, List.map_append]
  rfl

/-- One more list, one's own and apart from the others. -/
theorem wblk_add (p D : Nat) (cs : Array Value) (V W l : Value) (ls : List (Value × Value × List WordL)) (ss : List WordL) (rest : List Row1) (T : TypeId) (w0 w : World) (h2 : cs[12]? = some V) (h3 : cs[13]? = some W) (hN : ls.length < 250) (hn : ss.length ≤ 1000000)
    (h : Here p D cs T w0 w (⟨44, 3, l, ss.length, flat wenc ss⟩ :: (wblk V W ls ++ rest)) []) :
    Calls Try.prog 14 #[.pointer (some ⟨p, 0, none⟩), l] w fun e w' => e = .returned (.tuple #[]) ∧ ∃ V' W' u, Here p D ((cs.setIfInBounds 12 V').setIfInBounds 13 W') T w0 w' (wblk V' W' (ls ++ [(l, u, ss)]) ++ rest) [] := by
  have hb := h.bag
  unfold wblk at hb
  have e1 : (ls.map wkept).length = ls.length := List.length_map ..
  rw [e1] at hb
  have b1 : Bag D w (⟨49, 1, V, ls.length, (ls.map wkept).map (·.1)⟩ :: ⟨49, 1, W, ls.length, ls.map (·.2.1)⟩ :: ⟨44, 3, l, ss.length, flat wenc ss⟩ :: (wrows 0 (ls.map wkept) ++ (ls.map wcopy ++ rest))) [] := by
    refine hb.perm ?_
    generalize (⟨49, 1, V, ls.length, (ls.map wkept).map (·.1)⟩ : Row1) = X
    generalize (⟨49, 1, W, ls.length, ls.map (·.2.1)⟩ : Row1) = Y
    generalize (⟨44, 3, l, ss.length, flat wenc ss⟩ : Row1) = Z
    classical
    rw [List.perm_iff_count]
    intro a
    simp only [List.count_append, List.count_cons, List.cons_append, List.append_assoc]
    omega
  refine (Words_any p D V W l ls.length _ _ ss _ cs T w h.hp h.hD h.blk h2 h3 hN hn b1).mono ?_
  rintro e w' ⟨rfl, V', W', u, hblk, hfr, hbag⟩
  refine ⟨rfl, V', W', u, h.hp, Nat.le_trans h.hD hfr.size, hblk, h.fr.trans hfr, ?_⟩
  unfold wblk
  have e2 : ((ls ++ [(l, u, ss)]).map wkept).length = ls.length + 1 := by simp
  have e3 : ((ls ++ [(l, u, ss)]).map wkept).map (·.1) = (ls.map wkept).map (·.1) ++ [l] := by simp [wkept]
  have e4 : (ls ++ [(l, u, ss)]).length = ls.length + 1 := by simp
  have e5 : (ls ++ [(l, u, ss)]).map (·.2.1) = ls.map (·.2.1) ++ [u] := by simp
  have e6 : (ls ++ [(l, u, ss)]).map wcopy = ls.map wcopy ++ [⟨44, 3, u, ss.length, flat wenc ss⟩] := by simp [wcopy]
  have e7 : wtodo (wkept (l, u, ss)) = ⟨44, 3, l, ss.length, flat wenc ss⟩ := by simp [wtodo, wkept]
  rw [e2, e3, e4, e5, e6, wrows_zero_snoc', e7]
  refine hbag.perm ?_
  generalize wrows 0 (ls.map wkept) = A
  generalize ls.map wcopy = B
  generalize (⟨49, 1, V', ls.length + 1, (ls.map wkept).map (·.1) ++ [l]⟩ : Row1) = Q
  generalize (⟨49, 1, W', ls.length + 1, ls.map (·.2.1) ++ [u]⟩ : Row1) = X
  generalize (⟨44, 3, l, ss.length, flat wenc ss⟩ : Row1) = Y
  generalize (⟨44, 3, u, ss.length, flat wenc ss⟩ : Row1) = Z
  classical
  rw [List.perm_iff_count]
  intro a
  simp only [List.count_append, List.count_cons, List.cons_append, List.append_assoc, List.count_nil]
  omega

/-- The list that came last, as it is. -/
theorem wblk_last {p D : Nat} {cs : Array Value} {T : TypeId} {w0 w : World} {V W l u : Value} {ls : List (Value × Value × List WordL)} {ss : List WordL} {rest qs : List Row1} (h : Here p D cs T w0 w (wblk V W (ls ++ [(l, u, ss)]) ++ rest) qs) : CellRow w l ss.length (flat wenc ss) := by
  have m1 : wtodo (wkept (l, u, ss)) ∈ wblk V W (ls ++ [(l, u, ss)]) ++ rest := by
    refine List.mem_append_left _ (List.mem_cons_of_mem _ (List.mem_append_left _ ?_))
    rw [wrows_zero_snoc']
    exact List.mem_append_right _ (List.mem_singleton.2 rfl)
  have o1 := own_row (h.bag.own _ m1)
  simp only [wtodo, wkept] at o1
  exact o1

theorem wblk_still (p D : Nat) (cs : Array Value) (V W : Value) (ls : List (Value × Value × List WordL)) (rest : List Row1) (T : TypeId) (w0 w : World) (h2 : cs[12]? = some V) (h3 : cs[13]? = some W) (hN : ls.length ≤ 250) (hn : ∀ x ∈ ls, x.2.2.length ≤ 900000) (h : Here p D cs T w0 w (wblk V W ls ++ rest) []) :
    Calls Try.prog 33 #[.pointer (some ⟨p, 0, none⟩)] w fun e w' => e = .returned (.bool true) ∧ Here p D cs T w0 w' (wblk V W ls ++ rest) [] := by
  have hb := h.bag
  have eV : (ls.map wkept).map (·.1) = ls.map (·.1) := by simp [wkept, Function.comp_def]
  have oV := own_row (hb.own ⟨49, 1, V, (ls.map wkept).length, (ls.map wkept).map (·.1)⟩ (List.mem_append_left _ (List.mem_cons_self ..)))
  have oW := own_row (hb.own ⟨49, 1, W, ls.length, ls.map (·.2.1)⟩ (List.mem_append_left _ (List.mem_cons_of_mem _ (List.mem_append_right _ (List.mem_cons_self ..)))))
  simp only [List.length_map, eV] at oV
  refine (stillWords_any p V W ls w (h.cell 12 V h2) (h.cell 13 W h3) oV oW (fun x hx => ?_) (by omega)).mono ?_
  · have m1 : wtodo (wkept x) ∈ wblk V W ls ++ rest := by
      refine List.mem_append_left _ (List.mem_cons_of_mem _ (List.mem_append_left _ ?_))
      rw [wrows_zero, List.map_map]
      exact List.mem_map.2 ⟨x, hx, rfl⟩
    have m2 : wcopy x ∈ wblk V W ls ++ rest := List.mem_append_left _ (List.mem_cons_of_mem _ (List.mem_append_right _ (List.mem_cons_of_mem _ (List.mem_map.2 ⟨x, hx, rfl⟩))))
    have o1 := own_row (hb.own _ m1)
    have o2 := own_row (hb.own _ m2)
    simp only [wtodo, wkept] at o1
    refine ⟨o1, o2, ?_⟩
    have := hn x hx
    omega
  · rintro e w' ⟨rfl, q, rfl⟩
    exact ⟨rfl, h.drewN q⟩

theorem kept_lenW (ls : List (Value × Value × List WordL)) (hn : ∀ x ∈ ls, x.2.2.length ≤ 900000) : ∀ x ∈ ls.map wkept, x.2.length ≤ 900000 := by
  intro x hx
  obtain ⟨y, hy, rfl⟩ := List.mem_map.1 hx
  have := hn y hy
  simp only [wkept]
  omega

theorem wblk_put (p D : Nat) (cs : Array Value) (V W : Value) (ls : List (Value × Value × List WordL)) (rest : List Row1) (T : TypeId) (w0 w : World) (h2 : cs[12]? = some V) (hN : ls.length ≤ 250) (hn : ∀ x ∈ ls, x.2.2.length ≤ 900000) (h : Here p D cs T w0 w (wblk V W ls ++ rest) []) :
    Calls Try.prog 42 #[.pointer (some ⟨p, 0, none⟩)] w fun e w' => e = .returned (.tuple #[]) ∧ Here p D cs T w0 w' (wput V W ls ++ rest) [] := by
  have hb := h.bag
  unfold wblk at hb
  rw [List.cons_append, List.append_assoc] at hb
  refine (putWords_any p D V (ls.map wkept) _ cs T w h.hp h.hD h.blk h2 (by simp only [List.length_map]; omega) (fun x hx => by have := kept_lenW ls hn x hx; omega) hb).mono ?_
  rintro e w' ⟨rfl, b1, k1, g1⟩
  refine ⟨rfl, h.hp, Nat.le_trans h.hD b1.size, k1, h.fr.trans b1, ?_⟩
  unfold wput
  rw [List.cons_append, List.append_assoc]
  exact g1

theorem GrownW.wider {j : Nat} {ls : List (Value × List WordL)} {gs : List Value} {qs0 qs qs1 : List Row1} (h : GrownW j ls gs qs0 qs) (k : ∀ q ∈ qs, q ∈ qs1) : GrownW j ls gs qs0 qs1 :=
  ⟨h.len, fun i x hi hx => k _ (h.was i x hi hx), fun i x v hi hx hv => k _ (h.now i x v hi hx hv), fun q hq => k _ (h.old q hq)⟩

theorem wput_grow (p D : Nat) (cs : Array Value) (V W : Value) (ls : List (Value × Value × List WordL)) (rest qs : List Row1) (T : TypeId) (w0 w : World) (h2 : cs[12]? = some V) (hN : ls.length ≤ 250) (hn : ∀ x ∈ ls, x.2.2.length ≤ 900000) (h : Here p D cs T w0 w (wput V W ls ++ rest) qs) :
    Calls Try.prog 49 #[.pointer (some ⟨p, 0, none⟩)] w fun e w' => ∃ G gs qs', e = .returned G ∧ GrownW (ls.map wkept).length (ls.map wkept) gs qs qs' ∧ Here p D cs T w0 w' (⟨49, 1, G, (ls.map wkept).length, gs⟩ :: (wrest V W ls ++ rest)) qs' := by
  have hb := h.bag
  unfold wput at hb
  rw [List.cons_append, List.append_assoc] at hb
  refine (growWords_any p D V (ls.map wkept) _ qs cs T w h.hp h.hD h.blk h2 (by simp only [List.length_map]; omega) (kept_lenW ls hn) hb).mono ?_
  rintro e w' ⟨G, gs, qs', rfl, b1, k1, g1, g2⟩
  exact ⟨G, gs, qs', rfl, g1, h.hp, Nat.le_trans h.hD b1.size, k1, h.fr.trans b1, g2⟩

/-- What is looked at, at the end. -/
def oldIW (ls : List (Value × Value × List WordL)) : List (Value × Nat) := (ls.map wkept).map fun x => (x.1, x.2.length)
def newIW (ls : List (Value × Value × List WordL)) (gs : List Value) : List (Value × Nat) := (gs.zip (ls.map wkept)).map fun x => (x.1, x.2.2.length + 72)

theorem wold_marked (p D : Nat) (cs : Array Value) (T : TypeId) (w0 w : World) (V : Value) (ls : List (Value × Value × List WordL)) (gs : List Value) (rs qs0 qs : List Row1) (hN : ls.length ≤ 250) (hn : ∀ x ∈ ls, x.2.2.length ≤ 900000)
    (h : Here p D cs T w0 w rs qs) (hV : (⟨49, 1, V, (ls.map wkept).length, (ls.map wkept).map (·.1)⟩ : Row1) ∈ rs) (g : GrownW (ls.map wkept).length (ls.map wkept) gs qs0 qs) :
    Calls Try.prog 57 #[V] w fun e w' => e = .returned (.bool true) ∧ Here p D cs T w0 w' rs qs := by
  have oV := own_row (h.bag.own _ hV)
  refine (markedWords_any V (oldIW ls) w ?_ ?_ ?_).mono fun e w' ⟨he, hb⟩ => ⟨he, h.next hb⟩
  · have e1 : (oldIW ls).length = (ls.map wkept).length := by simp [oldIW]
    have e2 : (oldIW ls).map (·.1) = (ls.map wkept).map (·.1) := by simp [oldIW, Function.comp_def]
    rw [e1, e2]
    exact oV
  · intro i x hx
    simp only [oldIW] at hx
    rw [List.getElem?_map] at hx
    cases hy : (ls.map wkept)[i]? with
    | none => rw [hy] at hx; cases hx
    | some y =>
      rw [hy] at hx
      simp only [Option.map_some, Option.some.injEq] at hx
      subst hx
      have m := g.was i y (List.getElem?_eq_some_iff.1 hy).1 hy
      refine ⟨(h.bag.seen _ m).1, ?_⟩
      have := kept_lenW ls hn y (List.mem_of_getElem? hy)
      simp only
      omega
  · simp only [oldIW, List.length_map]
    omega

theorem wnew_marked (p D : Nat) (cs : Array Value) (T : TypeId) (w0 w : World) (G : Value) (ls : List (Value × Value × List WordL)) (gs : List Value) (rs qs0 qs : List Row1) (hN : ls.length ≤ 250) (hn : ∀ x ∈ ls, x.2.2.length ≤ 900000)
    (h : Here p D cs T w0 w rs qs) (hG : (⟨49, 1, G, (ls.map wkept).length, gs⟩ : Row1) ∈ rs) (g : GrownW (ls.map wkept).length (ls.map wkept) gs qs0 qs) :
    Calls Try.prog 57 #[G] w fun e w' => e = .returned (.bool true) ∧ Here p D cs T w0 w' rs qs := by
  have oG := own_row (h.bag.own _ hG)
  have hl := g.len
  refine (markedWords_any G (newIW ls gs) w ?_ ?_ ?_).mono fun e w' ⟨he, hb⟩ => ⟨he, h.next hb⟩
  · have e1 : (newIW ls gs).length = (ls.map wkept).length := by simp only [newIW, List.length_map, List.length_zip] at hl ⊢; omega
    have e2 : (newIW ls gs).map (·.1) = gs := by
      simp only [newIW, List.map_map, Function.comp_def]
      exact List.map_fst_zip (by omega)
    rw [e1, e2]
    exact oG
  · intro i x hx
    simp only [newIW] at hx
    rw [List.getElem?_map] at hx
    cases hy : (gs.zip (ls.map wkept))[i]? with
    | none => rw [hy] at hx; cases hx
    | some y =>
      rw [hy] at hx
      simp only [Option.map_some, Option.some.injEq] at hx
      subst hx
      obtain ⟨v, z⟩ := y
      obtain ⟨h1, h2⟩ := List.getElem?_zip_eq_some.1 hy
      have m := g.now i z v (List.getElem?_eq_some_iff.1 h2).1 h2 h1
      refine ⟨(h.bag.seen _ m).1, ?_⟩
      have := kept_lenW ls hn z (List.mem_of_getElem? h2)
      simp only
      omega
  · simp only [newIW, List.length_map, List.length_zip] at hl ⊢
    omega

end Go.Proofs.Ytcjfejhfafiaiaa
