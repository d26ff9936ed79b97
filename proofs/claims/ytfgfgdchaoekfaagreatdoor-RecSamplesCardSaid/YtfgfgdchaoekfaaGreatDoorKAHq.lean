/-
  A Book's lists of samples (package sedimentbook), whatever it keeps beside: one more, still, put, grow, marked.
-/
import Derived.Test.YtfgfgdchaoekfaaGreatDoorQ13
import Derived.Test.YtfgfgdchaoekfaaGreatDoorKAQq
namespace Go.Proofs.YtfgfgdchaoekfaaGreatDoor
open Go.RowKit Go.Lib

/-- A kept list and its copy. -/
def akept (x : Value × Value × List SamL) : Value × List SamL := (x.1, x.2.2)
def acopy (x : Value × Value × List SamL) : Row1 := ⟨107, 3, x.2.1, x.2.2.length, flat aenc x.2.2⟩

/-- The rows that are of lists of ints: as they came, with their marks, and what is left when they have been grown. -/
def ablk (V W : Value) (ls : List (Value × Value × List SamL)) : List Row1 :=
  ⟨52, 1, V, (ls.map akept).length, (ls.map akept).map (·.1)⟩ :: (arows 0 (ls.map akept) ++ (⟨52, 1, W, ls.length, ls.map (·.2.1)⟩ :: ls.map acopy))
def aput (V W : Value) (ls : List (Value × Value × List SamL)) : List Row1 :=
  ⟨52, 1, V, (ls.map akept).length, (ls.map akept).map (·.1)⟩ :: (arows (ls.map akept).length (ls.map akept) ++ (⟨52, 1, W, ls.length, ls.map (·.2.1)⟩ :: ls.map acopy))
def arest (V W : Value) (ls : List (Value × Value × List SamL)) : List Row1 :=
  ⟨52, 1, V, (ls.map akept).length, (ls.map akept).map (·.1)⟩ :: (⟨52, 1, W, ls.length, ls.map (·.2.1)⟩ :: ls.map acopy)

theorem ablk_nil (D : Nat) (w : World) (rs qs : List Row1) (h : Bag D w rs qs) : Bag D w (ablk (.slice none 0 0) (.slice none 0 0) [] ++ rs) qs := by
  have e : ablk (.slice none 0 0) (.slice none 0 0) [] ++ rs = ⟨52, 1, .slice none 0 0, 0, []⟩ :: ⟨52, 1, .slice none 0 0, 0, []⟩ :: rs := rfl
  rw [e]
  refine ⟨fun r hr => ?_, ?_, h.seen, fun q hq r hr => ?_⟩
  · rcases List.mem_cons.1 hr with rfl | hr
    · exact World.ownsRow_nil w _ _ 1
    · rcases List.mem_cons.1 hr with rfl | hr
      · exact World.ownsRow_nil w _ _ 1
      · exact h.own r hr
  · exact List.pairwise_cons.2 ⟨fun x _ g hg => (by cases hg), List.pairwise_cons.2 ⟨fun x _ g hg => (by cases hg), h.apart⟩⟩
  · rcases List.mem_cons.1 hr with rfl | hr
    · intro g _ h
      cases h
    · rcases List.mem_cons.1 hr with rfl | hr
      · intro g _ h
        cases h
      · exact h.off q hq r hr

theorem arows_zero_snoc' (ls : List (Value × Value × List SamL)) (x : Value × Value × List SamL) : arows 0 ((ls ++ [x]).map akept) = arows 0 (ls.map akept) ++ [atodo (akept x)] := by
  rw [arows_zero, arows_zero, List.map_append, List.map_append]
  rfl

/-- One more list, one's own and apart from the others. -/
theorem ablk_add (p D : Nat) (cs : Array Value) (V W l : Value) (ls : List (Value × Value × List SamL)) (ss : List SamL) (rest : List Row1) (T : TypeId) (w0 w : World) (h2 : cs[6]? = some V) (h3 : cs[7]? = some W) (hN : ls.length < 250) (hn : ss.length ≤ 1000000)
    (h : Here p D cs T w0 w (⟨107, 3, l, ss.length, flat aenc ss⟩ :: (ablk V W ls ++ rest)) []) :
    Calls Tryz.prog 24 #[.pointer (some ⟨p, 0, none⟩), l] w fun e w' => e = .returned (.tuple #[]) ∧ ∃ V' W' u, Here p D ((cs.setIfInBounds 6 V').setIfInBounds 7 W') T w0 w' (ablk V' W' (ls ++ [(l, u, ss)]) ++ rest) [] := by
  have hb := h.bag
  unfold ablk at hb
  have e1 : (ls.map akept).length = ls.length := List.length_map ..
  rw [e1] at hb
  have b1 : Bag D w (⟨52, 1, V, ls.length, (ls.map akept).map (·.1)⟩ :: ⟨52, 1, W, ls.length, ls.map (·.2.1)⟩ :: ⟨107, 3, l, ss.length, flat aenc ss⟩ :: (arows 0 (ls.map akept) ++ (ls.map acopy ++ rest))) [] := by
    refine hb.perm ?_
    generalize (⟨52, 1, V, ls.length, (ls.map akept).map (·.1)⟩ : Row1) = X
    generalize (⟨52, 1, W, ls.length, ls.map (·.2.1)⟩ : Row1) = Y
    generalize (⟨107, 3, l, ss.length, flat aenc ss⟩ : Row1) = Z
    classical
    rw [List.perm_iff_count]
    intro a
    simp only [List.count_append, List.count_cons, List.cons_append, List.append_assoc]
    omega
  refine (Samples_any p D V W l ls.length _ _ ss _ cs T w h.hp h.hD h.blk h2 h3 hN hn b1).mono ?_
  rintro e w' ⟨rfl, V', W', u, hblk, hfr, hbag⟩
  refine ⟨rfl, V', W', u, h.hp, Nat.le_trans h.hD hfr.size, hblk, h.fr.trans hfr, ?_⟩
  unfold ablk
  have e2 : ((ls ++ [(l, u, ss)]).map akept).length = ls.length + 1 := by simp
  have e3 : ((ls ++ [(l, u, ss)]).map akept).map (·.1) = (ls.map akept).map (·.1) ++ [l] := by simp [akept]
  have e4 : (ls ++ [(l, u, ss)]).length = ls.length + 1 := by simp
  have e5 : (ls ++ [(l, u, ss)]).map (·.2.1) = ls.map (·.2.1) ++ [u] := by simp
  have e6 : (ls ++ [(l, u, ss)]).map acopy = ls.map acopy ++ [⟨107, 3, u, ss.length, flat aenc ss⟩] := by simp [acopy]
  have e7 : atodo (akept (l, u, ss)) = ⟨107, 3, l, ss.length, flat aenc ss⟩ := by simp [atodo, akept]
  rw [e2, e3, e4, e5, e6, arows_zero_snoc', e7]
  refine hbag.perm ?_
  generalize arows 0 (ls.map akept) = A
  generalize ls.map acopy = B
  generalize (⟨52, 1, V', ls.length + 1, (ls.map akept).map (·.1) ++ [l]⟩ : Row1) = Q
  generalize (⟨52, 1, W', ls.length + 1, ls.map (·.2.1) ++ [u]⟩ : Row1) = X
  generalize (⟨107, 3, l, ss.length, flat aenc ss⟩ : Row1) = Y
  generalize (⟨107, 3, u, ss.length, flat aenc ss⟩ : Row1) = Z
  classical
  rw [List.perm_iff_count]
  intro a
  simp only [List.count_append, List.count_cons, List.cons_append, List.append_assoc, List.count_nil]
  omega

theorem ablk_still (p D : Nat) (cs : Array Value) (V W : Value) (ls : List (Value × Value × List SamL)) (rest : List Row1) (T : TypeId) (w0 w : World) (h2 : cs[6]? = some V) (h3 : cs[7]? = some W) (hN : ls.length ≤ 250) (hn : ∀ x ∈ ls, x.2.2.length ≤ 900000) (h : Here p D cs T w0 w (ablk V W ls ++ rest) []) :
    Calls Tryz.prog 48 #[.pointer (some ⟨p, 0, none⟩)] w fun e w' => e = .returned (.bool true) ∧ Here p D cs T w0 w' (ablk V W ls ++ rest) [] := by
  have hb := h.bag
  have eV : (ls.map akept).map (·.1) = ls.map (·.1) := by simp [akept, Function.comp_def]
  have oV := own_row (hb.own ⟨52, 1, V, (ls.map akept).length, (ls.map akept).map (·.1)⟩ (List.mem_append_left _ (List.mem_cons_self ..)))
  have oW := own_row (hb.own ⟨52, 1, W, ls.length, ls.map (·.2.1)⟩ (List.mem_append_left _ (List.mem_cons_of_mem _ (List.mem_append_right _ (List.mem_cons_self ..)))))
  simp only [List.length_map, eV] at oV
  refine (stillSamples_any p V W ls w (h.cell 6 V h2) (h.cell 7 W h3) oV oW (fun x hx => ?_) (by omega)).mono ?_
  · have m1 : atodo (akept x) ∈ ablk V W ls ++ rest := by
      refine List.mem_append_left _ (List.mem_cons_of_mem _ (List.mem_append_left _ ?_))
      rw [arows_zero, List.map_map]
      exact List.mem_map.2 ⟨x, hx, rfl⟩
    have m2 : acopy x ∈ ablk V W ls ++ rest := List.mem_append_left _ (List.mem_cons_of_mem _ (List.mem_append_right _ (List.mem_cons_of_mem _ (List.mem_map.2 ⟨x, hx, rfl⟩))))
    have o1 := own_row (hb.own _ m1)
    have o2 := own_row (hb.own _ m2)
    simp only [atodo, akept] at o1
    refine ⟨o1, o2, ?_⟩
    have := hn x hx
    omega
  · rintro e w' ⟨rfl, q, rfl⟩
    exact ⟨rfl, h.drewN q⟩

theorem kept_lenA (ls : List (Value × Value × List SamL)) (hn : ∀ x ∈ ls, x.2.2.length ≤ 900000) : ∀ x ∈ ls.map akept, x.2.length ≤ 900000 := by
  intro x hx
  obtain ⟨y, hy, rfl⟩ := List.mem_map.1 hx
  have := hn y hy
  simp only [akept]
  omega

theorem ablk_put (p D : Nat) (cs : Array Value) (V W : Value) (ls : List (Value × Value × List SamL)) (rest : List Row1) (T : TypeId) (w0 w : World) (h2 : cs[6]? = some V) (hN : ls.length ≤ 250) (hn : ∀ x ∈ ls, x.2.2.length ≤ 900000) (h : Here p D cs T w0 w (ablk V W ls ++ rest) []) :
    Calls Tryz.prog 57 #[.pointer (some ⟨p, 0, none⟩)] w fun e w' => e = .returned (.tuple #[]) ∧ Here p D cs T w0 w' (aput V W ls ++ rest) [] := by
  have hb := h.bag
  unfold ablk at hb
  rw [List.cons_append, List.append_assoc] at hb
  refine (putSamples_any p D V (ls.map akept) _ cs T w h.hp h.hD h.blk h2 (by simp only [List.length_map]; omega) (fun x hx => by have := kept_lenA ls hn x hx; omega) hb).mono ?_
  rintro e w' ⟨rfl, b1, k1, g1⟩
  refine ⟨rfl, h.hp, Nat.le_trans h.hD b1.size, k1, h.fr.trans b1, ?_⟩
  unfold aput
  rw [List.cons_append, List.append_assoc]
  exact g1

theorem aput_grow (p D : Nat) (cs : Array Value) (V W : Value) (ls : List (Value × Value × List SamL)) (rest qs : List Row1) (T : TypeId) (w0 w : World) (h2 : cs[6]? = some V) (hN : ls.length ≤ 250) (hn : ∀ x ∈ ls, x.2.2.length ≤ 900000) (h : Here p D cs T w0 w (aput V W ls ++ rest) qs) :
    Calls Tryz.prog 64 #[.pointer (some ⟨p, 0, none⟩)] w fun e w' => ∃ G gs qs', e = .returned G ∧ GrownA (ls.map akept).length (ls.map akept) gs qs qs' ∧ Here p D cs T w0 w' (⟨52, 1, G, (ls.map akept).length, gs⟩ :: (arest V W ls ++ rest)) qs' := by
  have hb := h.bag
  unfold aput at hb
  rw [List.cons_append, List.append_assoc] at hb
  refine (growSamples_any p D V (ls.map akept) _ qs cs T w h.hp h.hD h.blk h2 (by simp only [List.length_map]; omega) (kept_lenA ls hn) hb).mono ?_
  rintro e w' ⟨G, gs, qs', rfl, b1, k1, g1, g2⟩
  exact ⟨G, gs, qs', rfl, g1, h.hp, Nat.le_trans h.hD b1.size, k1, h.fr.trans b1, g2⟩

/-- What is looked at, at the end. -/
def oldIA (ls : List (Value × Value × List SamL)) : List (Value × Nat) := (ls.map akept).map fun x => (x.1, x.2.length)
def newIA (ls : List (Value × Value × List SamL)) (gs : List Value) : List (Value × Nat) := (gs.zip (ls.map akept)).map fun x => (x.1, x.2.2.length + 72)

theorem aold_marked (p D : Nat) (cs : Array Value) (T : TypeId) (w0 w : World) (V : Value) (ls : List (Value × Value × List SamL)) (gs : List Value) (rs qs0 qs : List Row1) (hN : ls.length ≤ 250) (hn : ∀ x ∈ ls, x.2.2.length ≤ 900000)
    (h : Here p D cs T w0 w rs qs) (hV : (⟨52, 1, V, (ls.map akept).length, (ls.map akept).map (·.1)⟩ : Row1) ∈ rs) (g : GrownA (ls.map akept).length (ls.map akept) gs qs0 qs) :
    Calls Tryz.prog 72 #[V] w fun e w' => e = .returned (.bool true) ∧ Here p D cs T w0 w' rs qs := by
  have oV := own_row (h.bag.own _ hV)
  refine (markedSamples_any V (oldIA ls) w ?_ ?_ ?_).mono fun e w' ⟨he, hb⟩ => ⟨he, h.next hb⟩
  · have e1 : (oldIA ls).length = (ls.map akept).length := by simp [oldIA]
    have e2 : (oldIA ls).map (·.1) = (ls.map akept).map (·.1) := by simp [oldIA, Function.comp_def]
    rw [e1, e2]
    exact oV
  · intro i x hx
    simp only [oldIA] at hx
    rw [List.getElem?_map] at hx
    cases hy : (ls.map akept)[i]? with
    | none => rw [hy] at hx; cases hx
    | some y =>
      rw [hy] at hx
      simp only [Option.map_some, Option.some.injEq] at hx
      subst hx
      have m := g.was i y (List.getElem?_eq_some_iff.1 hy).1 hy
      refine ⟨(h.bag.seen _ m).1, ?_⟩
      have := kept_lenA ls hn y (List.mem_of_getElem? hy)
      simp only
      omega
  · simp only [oldIA, List.length_map]
    omega

theorem anew_marked (p D : Nat) (cs : Array Value) (T : TypeId) (w0 w : World) (G : Value) (ls : List (Value × Value × List SamL)) (gs : List Value) (rs qs0 qs : List Row1) (hN : ls.length ≤ 250) (hn : ∀ x ∈ ls, x.2.2.length ≤ 900000)
    (h : Here p D cs T w0 w rs qs) (hG : (⟨52, 1, G, (ls.map akept).length, gs⟩ : Row1) ∈ rs) (g : GrownA (ls.map akept).length (ls.map akept) gs qs0 qs) :
    Calls Tryz.prog 72 #[G] w fun e w' => e = .returned (.bool true) ∧ Here p D cs T w0 w' rs qs := by
  have oG := own_row (h.bag.own _ hG)
  have hl := g.len
  refine (markedSamples_any G (newIA ls gs) w ?_ ?_ ?_).mono fun e w' ⟨he, hb⟩ => ⟨he, h.next hb⟩
  · have e1 : (newIA ls gs).length = (ls.map akept).length := by simp only [newIA, List.length_map, List.length_zip] at hl ⊢; omega
    have e2 : (newIA ls gs).map (·.1) = gs := by
      simp only [newIA, List.map_map, Function.comp_def]
      exact List.map_fst_zip (by omega)
    rw [e1, e2]
    exact oG
  · intro i x hx
    simp only [newIA] at hx
    rw [List.getElem?_map] at hx
    cases hy : (gs.zip (ls.map akept))[i]? with
    | none => rw [hy] at hx; cases hx
    | some y =>
      rw [hy] at hx
      simp only [Option.map_some, Option.some.injEq] at hx
      subst hx
      obtain ⟨v, z⟩ := y
      obtain ⟨h1, h2⟩ := List.getElem?_zip_eq_some.1 hy
      have m := g.now i z v (List.getElem?_eq_some_iff.1 h2).1 h2 h1
      refine ⟨(h.bag.seen _ m).1, ?_⟩
      have := kept_lenA ls hn z (List.mem_of_getElem? h2)
      simp only
      omega
  · simp only [newIA, List.length_map, List.length_zip] at hl ⊢
    omega

end Go.Proofs.YtfgfgdchaoekfaaGreatDoor
