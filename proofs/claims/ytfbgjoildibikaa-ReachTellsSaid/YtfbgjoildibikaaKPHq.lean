/-
  A Book's lists of tiers (package sedimentbook), whatever it keeps beside: one more, still, put, grow, marked.
-/
import Derived.Test.YtfbgjoildibikaaQ10
import Derived.Test.YtfbgjoildibikaaKPQq
namespace Go.Proofs.Ytfbgjoildibikaa
open Go.RowKit Go.Lib

/-- A kept list and its copy. -/
def pkept (x : Value × Value × List TierL) : Value × List TierL := (x.1, x.2.2)
def pcopy (x : Value × Value × List TierL) : Row1 := ⟨63, 4, x.2.1, x.2.2.length, flat penc x.2.2⟩

/-- The rows that are of lists of ints: as they came, with their marks, and what is left when they have been grown. -/
def pblk (V W : Value) (ls : List (Value × Value × List TierL)) : List Row1 :=
  ⟨22, 1, V, (ls.map pkept).length, (ls.map pkept).map (·.1)⟩ :: (prows 0 (ls.map pkept) ++ (⟨22, 1, W, ls.length, ls.map (·.2.1)⟩ :: ls.map pcopy))
def pput (V W : Value) (ls : List (Value × Value × List TierL)) : List Row1 :=
  ⟨22, 1, V, (ls.map pkept).length, (ls.map pkept).map (·.1)⟩ :: (prows (ls.map pkept).length (ls.map pkept) ++ (⟨22, 1, W, ls.length, ls.map (·.2.1)⟩ :: ls.map pcopy))
def prest (V W : Value) (ls : List (Value × Value × List TierL)) : List Row1 :=
  ⟨22, 1, V, (ls.map pkept).length, (ls.map pkept).map (·.1)⟩ :: (⟨22, 1, W, ls.length, ls.map (·.2.1)⟩ :: ls.map pcopy)

theorem pblk_nil (D : Nat) (w : World) (rs qs : List Row1) (h : Bag D w rs qs) : Bag D w (pblk (.slice none 0 0) (.slice none 0 0) [] ++ rs) qs := by
  have e : pblk (.slice none 0 0) (.slice none 0 0) [] ++ rs = ⟨22, 1, .slice none 0 0, 0, []⟩ :: ⟨22, 1, .slice none 0 0, 0, []⟩ :: rs := rfl
  rw [e]
  refine ⟨fun r hr => ?_, ?_, h.seen, fun q hq r hr => ?_⟩
  · rcases List.mem_cons.1 hr with rfl | hr
    · exact World.ownsRow_nil w _ _ 1
    · rcases List.mem_cons.1 hr with rfl | hr
      · exact World.ownsRow_nil w _ _ 1
      · exact h.own r hr
  · exact List.pairwise_cons.2 ⟨fun x _ g hg => (by cases hg), List.pairwise_cons.2 ⟨fun x _ g hg => (by cases hg), h.apart⟩⟩
  · rcases List.mem_cons.1 hr with rfl | hr
    · intro g _ h
      cases h
    · rcases List.mem_cons.1 hr with rfl | hr
      · intro g _ h
        cases h
      · exact h.off q hq r hr

theorem prows_zero_snoc' (ls : List (Value × Value × List TierL)) (x : Value × Value × List TierL) : prows 0 ((ls ++ [x]).map pkept) = prows 0 (ls.map pkept) ++ [ptodo (pkept x)] := by
  rw [prows_zero, prows_zero, List.map_append, List.map_append]
  rfl

/-- One more list, one's own and apart from the others. -/
theorem pblk_add (p D : Nat) (cs : Array Value) (V W l : Value) (ls : List (Value × Value × List TierL)) (ss : List TierL) (rest : List Row1) (T : TypeId) (w0 w : World) (h2 : cs[8]? = some V) (h3 : cs[9]? = some W) (hN : ls.length < 250) (hn : ss.length ≤ 1000000)
    (h : Here p D cs T w0 w (⟨63, 4, l, ss.length, flat penc ss⟩ :: (pblk V W ls ++ rest)) []) :
    Calls Try.prog 17 #[.pointer (some ⟨p, 0, none⟩), l] w fun e w' => e = .returned (.tuple #[]) ∧ ∃ V' W' u, Here p D ((cs.setIfInBounds 8 V').setIfInBounds 9 W') T w0 w' (pblk V' W' (ls ++ [(l, u, ss)]) ++ rest) [] := by
  have hb := h.bag
  unfold pblk at hb
  have e1 : (ls.map pkept).length = ls.length := List.length_map ..
  rw [e1] at hb
  have b1 : Bag D w (⟨22, 1, V, ls.length, (ls.map pkept).map (·.1)⟩ :: ⟨22, 1, W, ls.length, ls.map (·.2.1)⟩ :: ⟨63, 4, l, ss.length, flat penc ss⟩ :: (prows 0 (ls.map pkept) ++ (ls.map pcopy ++ rest))) [] := by
    refine hb.perm ?_
    generalize (⟨22, 1, V, ls.length, (ls.map pkept).map (·.1)⟩ : Row1) = X
    generalize (⟨22, 1, W, ls.length, ls.map (·.2.1)⟩ : Row1) = Y
    generalize (⟨63, 4, l, ss.length, flat penc ss⟩ : Row1) = Z
    classical
    rw [List.perm_iff_count]
    intro a
    simp only [List.count_append, List.count_cons, List.cons_append, List.append_assoc]
    omega
  refine (Tiers_any p D V W l ls.length _ _ ss _ cs T w h.hp h.hD h.blk h2 h3 hN hn b1).mono ?_
  rintro e w' ⟨rfl, V', W', u, hblk, hfr, hbag⟩
  refine ⟨rfl, V', W', u, h.hp, Nat.le_trans h.hD hfr.size, hblk, h.fr.trans hfr, ?_⟩
  unfold pblk
  have e2 : ((ls ++ [(l, u, ss)]).map pkept).length = ls.length + 1 := by simp
  have e3 : ((ls ++ [(l, u, ss)]).map pkept).map (·.1) = (ls.map pkept).map (·.1) ++ [l] := by simp [pkept]
  have e4 : (ls ++ [(l, u, ss)]).length = ls.length + 1 := by simp
  have e5 : (ls ++ [(l, u, ss)]).map (·.2.1) = ls.map (·.2.1) ++ [u] := by simp
  have e6 : (ls ++ [(l, u, ss)]).map pcopy = ls.map pcopy ++ [⟨63, 4, u, ss.length, flat penc ss⟩] := by simp [pcopy]
  have e7 : ptodo (pkept (l, u, ss)) = ⟨63, 4, l, ss.length, flat penc ss⟩ := by simp [ptodo, pkept]
  rw [e2, e3, e4, e5, e6, prows_zero_snoc', e7]
  refine hbag.perm ?_
  generalize prows 0 (ls.map pkept) = A
  generalize ls.map pcopy = B
  generalize (⟨22, 1, V', ls.length + 1, (ls.map pkept).map (·.1) ++ [l]⟩ : Row1) = Q
  generalize (⟨22, 1, W', ls.length + 1, ls.map (·.2.1) ++ [u]⟩ : Row1) = X
  generalize (⟨63, 4, l, ss.length, flat penc ss⟩ : Row1) = Y
  generalize (⟨63, 4, u, ss.length, flat penc ss⟩ : Row1) = Z
  classical
  rw [List.perm_iff_count]
  intro a
  simp only [List.count_append, List.count_cons, List.cons_append, List.append_assoc, List.count_nil]
  omega

/-- The list that came last, as it is. -/
theorem pblk_last {p D : Nat} {cs : Array Value} {T : TypeId} {w0 w : World} {V W l u : Value} {ls : List (Value × Value × List TierL)} {ss : List TierL} {rest qs : List Row1} (h : Here p D cs T w0 w (pblk V W (ls ++ [(l, u, ss)]) ++ rest) qs) : CellRow w l ss.length (flat penc ss) := by
  have m1 : ptodo (pkept (l, u, ss)) ∈ pblk V W (ls ++ [(l, u, ss)]) ++ rest := by
    refine List.mem_append_left _ (List.mem_cons_of_mem _ (List.mem_append_left _ ?_))
    rw [prows_zero_snoc']
    exact List.mem_append_right _ (List.mem_singleton.2 rfl)
  have o1 := own_row (h.bag.own _ m1)
  simp only [ptodo, pkept] at o1
  exact o1

theorem pblk_still (p D : Nat) (cs : Array Value) (V W : Value) (ls : List (Value × Value × List TierL)) (rest : List Row1) (T : TypeId) (w0 w : World) (h2 : cs[8]? = some V) (h3 : cs[9]? = some W) (hN : ls.length ≤ 250) (hn : ∀ x ∈ ls, x.2.2.length ≤ 900000) (h : Here p D cs T w0 w (pblk V W ls ++ rest) []) :
    Calls Try.prog 50 #[.pointer (some ⟨p, 0, none⟩)] w fun e w' => e = .returned (.bool true) ∧ Here p D cs T w0 w' (pblk V W ls ++ rest) [] := by
  have hb := h.bag
  have eV : (ls.map pkept).map (·.1) = ls.map (·.1) := by simp [pkept, Function.comp_def]
  have oV := own_row (hb.own ⟨22, 1, V, (ls.map pkept).length, (ls.map pkept).map (·.1)⟩ (List.mem_append_left _ (List.mem_cons_self ..)))
  have oW := own_row (hb.own ⟨22, 1, W, ls.length, ls.map (·.2.1)⟩ (List.mem_append_left _ (List.mem_cons_of_mem _ (List.mem_append_right _ (List.mem_cons_self ..)))))
  simp only [List.length_map, eV] at oV
  refine (stillTiers_any p V W ls w (h.cell 8 V h2) (h.cell 9 W h3) oV oW (fun x hx => ?_) (by omega)).mono ?_
  · have m1 : ptodo (pkept x) ∈ pblk V W ls ++ rest := by
      refine List.mem_append_left _ (List.mem_cons_of_mem _ (List.mem_append_left _ ?_))
      rw [prows_zero, List.map_map]
      exact List.mem_map.2 ⟨x, hx, rfl⟩
    have m2 : pcopy x ∈ pblk V W ls ++ rest := List.mem_append_left _ (List.mem_cons_of_mem _ (List.mem_append_right _ (List.mem_cons_of_mem _ (List.mem_map.2 ⟨x, hx, rfl⟩))))
    have o1 := own_row (hb.own _ m1)
    have o2 := own_row (hb.own _ m2)
    simp only [ptodo, pkept] at o1
    refine ⟨o1, o2, ?_⟩
    have := hn x hx
    omega
  · rintro e w' ⟨rfl, q, rfl⟩
    exact ⟨rfl, h.drewN q⟩

theorem kept_lenP (ls : List (Value × Value × List TierL)) (hn : ∀ x ∈ ls, x.2.2.length ≤ 900000) : ∀ x ∈ ls.map pkept, x.2.length ≤ 900000 := by
  intro x hx
  obtain ⟨y, hy, rfl⟩ := List.mem_map.1 hx
  have := hn y hy
  simp only [pkept]
  omega

theorem pblk_put (p D : Nat) (cs : Array Value) (V W : Value) (ls : List (Value × Value × List TierL)) (rest : List Row1) (T : TypeId) (w0 w : World) (h2 : cs[8]? = some V) (hN : ls.length ≤ 250) (hn : ∀ x ∈ ls, x.2.2.length ≤ 900000) (h : Here p D cs T w0 w (pblk V W ls ++ rest) []) :
    Calls Try.prog 59 #[.pointer (some ⟨p, 0, none⟩)] w fun e w' => e = .returned (.tuple #[]) ∧ Here p D cs T w0 w' (pput V W ls ++ rest) [] := by
  have hb := h.bag
  unfold pblk at hb
  rw [List.cons_append, List.append_assoc] at hb
  refine (putTiers_any p D V (ls.map pkept) _ cs T w h.hp h.hD h.blk h2 (by simp only [List.length_map]; omega) (fun x hx => by have := kept_lenP ls hn x hx; omega) hb).mono ?_
  rintro e w' ⟨rfl, b1, k1, g1⟩
  refine ⟨rfl, h.hp, Nat.le_trans h.hD b1.size, k1, h.fr.trans b1, ?_⟩
  unfold pput
  rw [List.cons_append, List.append_assoc]
  exact g1

theorem GrownP.wider {j : Nat} {ls : List (Value × List TierL)} {gs : List Value} {qs0 qs qs1 : List Row1} (h : GrownP j ls gs qs0 qs) (k : ∀ q ∈ qs, q ∈ qs1) : GrownP j ls gs qs0 qs1 :=
  ⟨h.len, fun i x hi hx => k _ (h.was i x hi hx), fun i x v hi hx hv => k _ (h.now i x v hi hx hv), fun q hq => k _ (h.old q hq)⟩

theorem pput_grow (p D : Nat) (cs : Array Value) (V W : Value) (ls : List (Value × Value × List TierL)) (rest qs : List Row1) (T : TypeId) (w0 w : World) (h2 : cs[8]? = some V) (hN : ls.length ≤ 250) (hn : ∀ x ∈ ls, x.2.2.length ≤ 900000) (h : Here p D cs T w0 w (pput V W ls ++ rest) qs) :
    Calls Try.prog 66 #[.pointer (some ⟨p, 0, none⟩)] w fun e w' => ∃ G gs qs', e = .returned G ∧ GrownP (ls.map pkept).length (ls.map pkept) gs qs qs' ∧ Here p D cs T w0 w' (⟨22, 1, G, (ls.map pkept).length, gs⟩ :: (prest V W ls ++ rest)) qs' := by
  have hb := h.bag
  unfold pput at hb
  rw [List.cons_append, List.append_assoc] at hb
  refine (growTiers_any p D V (ls.map pkept) _ qs cs T w h.hp h.hD h.blk h2 (by simp only [List.length_map]; omega) (kept_lenP ls hn) hb).mono ?_
  rintro e w' ⟨G, gs, qs', rfl, b1, k1, g1, g2⟩
  exact ⟨G, gs, qs', rfl, g1, h.hp, Nat.le_trans h.hD b1.size, k1, h.fr.trans b1, g2⟩

/-- What is looked at, at the end. -/
def oldIP (ls : List (Value × Value × List TierL)) : List (Value × Nat) := (ls.map pkept).map fun x => (x.1, x.2.length)
def newIP (ls : List (Value × Value × List TierL)) (gs : List Value) : List (Value × Nat) := (gs.zip (ls.map pkept)).map fun x => (x.1, x.2.2.length + 72)

theorem pold_marked (p D : Nat) (cs : Array Value) (T : TypeId) (w0 w : World) (V : Value) (ls : List (Value × Value × List TierL)) (gs : List Value) (rs qs0 qs : List Row1) (hN : ls.length ≤ 250) (hn : ∀ x ∈ ls, x.2.2.length ≤ 900000)
    (h : Here p D cs T w0 w rs qs) (hV : (⟨22, 1, V, (ls.map pkept).length, (ls.map pkept).map (·.1)⟩ : Row1) ∈ rs) (g : GrownP (ls.map pkept).length (ls.map pkept) gs qs0 qs) :
    Calls Try.prog 74 #[V] w fun e w' => e = .returned (.bool true) ∧ Here p D cs T w0 w' rs qs := by
  have oV := own_row (h.bag.own _ hV)
  refine (markedTiers_any V (oldIP ls) w ?_ ?_ ?_).mono fun e w' ⟨he, hb⟩ => ⟨he, h.next hb⟩
  · have e1 : (oldIP ls).length = (ls.map pkept).length := by simp [oldIP]
    have e2 : (oldIP ls).map (·.1) = (ls.map pkept).map (·.1) := by simp [oldIP, Function.comp_def]
    rw [e1, e2]
    exact oV
  · intro i x hx
    simp only [oldIP] at hx
    rw [List.getElem?_map] at hx
    cases hy : (ls.map pkept)[i]? with
    | none => rw [hy] at hx; cases hx
    | some y =>
      rw [hy] at hx
      simp only [Option.map_some, Option.some.injEq] at hx
      subst hx
      have m := g.was i y (List.getElem?_eq_some_iff.1 hy).1 hy
      refine ⟨(h.bag.seen _ m).1, ?_⟩
      have := kept_lenP ls hn y (List.mem_of_getElem? hy)
      simp only
      omega
  · simp only [oldIP, List.length_map]
    omega

theorem pnew_marked (p D : Nat) (cs : Array Value) (T : TypeId) (w0 w : World) (G : Value) (ls : List (Value × Value × List TierL)) (gs : List Value) (rs qs0 qs : List Row1) (hN : ls.length ≤ 250) (hn : ∀ x ∈ ls, x.2.2.length ≤ 900000)
    (h : Here p D cs T w0 w rs qs) (hG : (⟨22, 1, G, (ls.map pkept).length, gs⟩ : Row1) ∈ rs) (g : GrownP (ls.map pkept).length (ls.map pkept) gs qs0 qs) :
    Calls Try.prog 74 #[G] w fun e w' => e = .returned (.bool true) ∧ Here p D cs T w0 w' rs qs := by
  have oG := own_row (h.bag.own _ hG)
  have hl := g.len
  refine (markedTiers_any G (newIP ls gs) w ?_ ?_ ?_).mono fun e w' ⟨he, hb⟩ => ⟨he, h.next hb⟩
  · have e1 : (newIP ls gs).length = (ls.map pkept).length := by simp only [newIP, List.length_map, List.length_zip] at hl ⊢; omega
    have e2 : (newIP ls gs).map (·.1) = gs := by
      simp only [newIP, List.map_map, Function.comp_def]
      exact List.map_fst_zip (by omega)
    rw [e1, e2]
    exact oG
  · intro i x hx
    simp only [newIP] at hx
    rw [List.getElem?_map] at hx
    cases hy : (gs.zip (ls.map pkept))[i]? with
    | none => rw [hy] at hx; cases hx
    | some y =>
      rw [hy] at hx
      simp only [Option.map_some, Option.some.injEq] at hx
      subst hx
      obtain ⟨v, z⟩ := y
      obtain ⟨h1, h2⟩ := List.getElem?_zip_eq_some.1 hy
      have m := g.now i z v (List.getElem?_eq_some_iff.1 h2).1 h2 h1
      refine ⟨(h.bag.seen _ m).1, ?_⟩
      have := kept_lenP ls hn z (List.mem_of_getElem? h2)
      simp only
      omega
  · simp only [newIP, List.length_map, List.length_zip] at hl ⊢
    omega

end Go.Proofs.Ytfbgjoildibikaa
