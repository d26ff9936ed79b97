/-
  A Book's lists of records (package sedimentbook), whatever it keeps beside: one more, still, put, grow, marked.
-/
import Derived.Test.YtfgfgdchaoekfaaGreatDoorQ13
import Derived.Test.YtfgfgdchaoekfaaGreatDoorKRQq
namespace Go.Proofs.YtfgfgdchaoekfaaGreatDoor
open Go.RowKit Go.Lib

/-- A kept list and its copy. -/
def rkept (x : Value × Value × List RecL) : Value × List RecL := (x.1, x.2.2)
def rcopy (x : Value × Value × List RecL) : Row1 := ⟨50, 7, x.2.1, x.2.2.length, flat renc x.2.2⟩

/-- The rows that are of lists of ints: as they came, with their marks, and what is left when they have been grown. -/
def rblk (V W : Value) (ls : List (Value × Value × List RecL)) : List Row1 :=
  ⟨22, 1, V, (ls.map rkept).length, (ls.map rkept).map (·.1)⟩ :: (rrows 0 (ls.map rkept) ++ (⟨22, 1, W, ls.length, ls.map (·.2.1)⟩ :: ls.map rcopy))
def rput (V W : Value) (ls : List (Value × Value × List RecL)) : List Row1 :=
  ⟨22, 1, V, (ls.map rkept).length, (ls.map rkept).map (·.1)⟩ :: (rrows (ls.map rkept).length (ls.map rkept) ++ (⟨22, 1, W, ls.length, ls.map (·.2.1)⟩ :: ls.map rcopy))
def rrest (V W : Value) (ls : List (Value × Value × List RecL)) : List Row1 :=
  ⟨22, 1, V, (ls.map rkept).length, (ls.map rkept).map (·.1)⟩ :: (⟨22, 1, W, ls.length, ls.map (·.2.1)⟩ :: ls.map rcopy)

theorem rblk_nil (D : Nat) (w : World) (rs qs : List Row1) (h : Bag D w rs qs) : Bag D w (rblk (.slice none 0 0) (.slice none 0 0) [] ++ rs) qs := by
  have e : rblk (.slice none 0 0) (.slice none 0 0) [] ++ rs = ⟨22, 1, .slice none 0 0, 0, []⟩ :: ⟨22, 1, .slice none 0 0, 0, []⟩ :: rs := rfl
  rw [e]
  refine ⟨fun r hr => ?_, ?_, h.seen, fun q hq r hr => ?_⟩
  · rcases List.mem_cons.1 hr with rfl | hr
    · exact World.ownsRow_nil w _ _ 1
    · rcases List.mem_cons.1 hr with rfl | hr
      · exact World.ownsRow_nil w _ _ 1
      · exact h.own r hr
  · exact List.pairwise_cons.2 ⟨fun x _ g hg => (by cases hg), List.pairwise_cons.2 ⟨fun x _ g hg => (by cases hg), h.apart⟩⟩
  · rcases List.mem_cons.1 hr with rfl | hr
    · intro g _ h
      cases h
    · rcases List.mem_cons.1 hr with rfl | hr
      · intro g _ h
        cases h
      · exact h.off q hq r hr

theorem rrows_zero_snoc' (ls : List (Value × Value × List RecL)) (x : Value × Value × List RecL) : rrows 0 ((ls ++ [x]).map rkept) = rrows 0 (ls.map rkept) ++ [rtodo (rkept x)] := by
  rw [rrows_zero, rrows_zero, List.map_append, List.map_append]
  rfl

/-- One more list, one's own and apart from the others. -/
theorem rblk_add (p D : Nat) (cs : Array Value) (V W l : Value) (ls : List (Value × Value × List RecL)) (ss : List RecL) (rest : List Row1) (T : TypeId) (w0 w : World) (h2 : cs[4]? = some V) (h3 : cs[5]? = some W) (hN : ls.length < 250) (hn : ss.length ≤ 1000000)
    (h : Here p D cs T w0 w (⟨50, 7, l, ss.length, flat renc ss⟩ :: (rblk V W ls ++ rest)) []) :
    Calls Tryz.prog 12 #[.pointer (some ⟨p, 0, none⟩), l] w fun e w' => e = .returned (.tuple #[]) ∧ ∃ V' W' u, Here p D ((cs.setIfInBounds 4 V').setIfInBounds 5 W') T w0 w' (rblk V' W' (ls ++ [(l, u, ss)]) ++ rest) [] := by
  have hb := h.bag
  unfold rblk at hb
  have e1 : (ls.map rkept).length = ls.length := List.length_map ..
  rw [e1] at hb
  have b1 : Bag D w (⟨22, 1, V, ls.length, (ls.map rkept).map (·.1)⟩ :: ⟨22, 1, W, ls.length, ls.map (·.2.1)⟩ :: ⟨50, 7, l, ss.length, flat renc ss⟩ :: (rrows 0 (ls.map rkept) ++ (ls.map rcopy ++ rest))) [] := by
    refine hb.perm ?_
    generalize (⟨22, 1, V, ls.length, (ls.map rkept).map (·.1)⟩ : Row1) = X
    generalize (⟨22, 1, W, ls.length, ls.map (·.2.1)⟩ : Row1) = Y
    generalize (⟨50, 7, l, ss.length, flat renc ss⟩ : Row1) = Z
    classical
    rw [List.perm_iff_count]
    intro a
    simp only [List.count_append, List.count_cons, List.cons_append, List.append_assoc]
    omega
  refine (Records_any p D V W l ls.length _ _ ss _ cs T w h.hp h.hD h.blk h2 h3 hN hn b1).mono ?_
  rintro e w' ⟨rfl, V', W', u, hblk, hfr, hbag⟩
  refine ⟨rfl, V', W', u, h.hp, Nat.le_trans h.hD hfr.size, hblk, h.fr.trans hfr, ?_⟩
  unfold rblk
  have e2 : ((ls ++ [(l, u, ss)]).map rkept).length = ls.length + 1 := by simp
  have e3 : ((ls ++ [(l, u, ss)]).map rkept).map (·.1) = (ls.map rkept).map (·.1) ++ [l] := by simp [rkept]
  have e4 : (ls ++ [(l, u, ss)]).length = ls.length + 1 := by simp
  have e5 : (ls ++ [(l, u, ss)]).map (·.2.1) = ls.map (·.2.1) ++ [u] := by simp
  have e6 : (ls ++ [(l, u, ss)]).map rcopy = ls.map rcopy ++ [⟨50, 7, u, ss.length, flat renc ss⟩] := by simp [rcopy]
  have e7 : rtodo (rkept (l, u, ss)) = ⟨50, 7, l, ss.length, flat renc ss⟩ := by simp [rtodo, rkept]
  rw [e2, e3, e4, e5, e6, rrows_zero_snoc', e7]
  refine hbag.perm ?_
  generalize rrows 0 (ls.map rkept) = A
  generalize ls.map rcopy = B
  generalize (⟨22, 1, V', ls.length + 1, (ls.map rkept).map (·.1) ++ [l]⟩ : Row1) = Q
  generalize (⟨22, 1, W', ls.length + 1, ls.map (·.2.1) ++ [u]⟩ : Row1) = X
  generalize (⟨50, 7, l, ss.length, flat renc ss⟩ : Row1) = Y
  generalize (⟨50, 7, u, ss.length, flat renc ss⟩ : Row1) = Z
  classical
  rw [List.perm_iff_count]
  intro a
  simp only [List.count_append, List.count_cons, List.cons_append, List.append_assoc, List.count_nil]
  omega

theorem rblk_still (p D : Nat) (cs : Array Value) (V W : Value) (ls : List (Value × Value × List RecL)) (rest : List Row1) (T : TypeId) (w0 w : World) (h2 : cs[4]? = some V) (h3 : cs[5]? = some W) (hN : ls.length ≤ 250) (hn : ∀ x ∈ ls, x.2.2.length ≤ 900000) (h : Here p D cs T w0 w (rblk V W ls ++ rest) []) :
    Calls Tryz.prog 47 #[.pointer (some ⟨p, 0, none⟩)] w fun e w' => e = .returned (.bool true) ∧ Here p D cs T w0 w' (rblk V W ls ++ rest) [] := by
  have hb := h.bag
  have eV : (ls.map rkept).map (·.1) = ls.map (·.1) := by simp [rkept, Function.comp_def]
  have oV := own_row (hb.own ⟨22, 1, V, (ls.map rkept).length, (ls.map rkept).map (·.1)⟩ (List.mem_append_left _ (List.mem_cons_self ..)))
  have oW := own_row (hb.own ⟨22, 1, W, ls.length, ls.map (·.2.1)⟩ (List.mem_append_left _ (List.mem_cons_of_mem _ (List.mem_append_right _ (List.mem_cons_self ..)))))
  simp only [List.length_map, eV] at oV
  refine (stillRecords_any p V W ls w (h.cell 4 V h2) (h.cell 5 W h3) oV oW (fun x hx => ?_) (by omega)).mono ?_
  · have m1 : rtodo (rkept x) ∈ rblk V W ls ++ rest := by
      refine List.mem_append_left _ (List.mem_cons_of_mem _ (List.mem_append_left _ ?_))
      rw [rrows_zero, List.map_map]
      exact List.mem_map.2 ⟨x, hx, rfl⟩
    have m2 : rcopy x ∈ rblk V W ls ++ rest := List.mem_append_left _ (List.mem_cons_of_mem _ (List.mem_append_right _ (List.mem_cons_of_mem _ (List.mem_map.2 ⟨x, hx, rfl⟩))))
    have o1 := own_row (hb.own _ m1)
    have o2 := own_row (hb.own _ m2)
    simp only [rtodo, rkept] at o1
    refine ⟨o1, o2, ?_⟩
    have := hn x hx
    omega
  · rintro e w' ⟨rfl, q, rfl⟩
    exact ⟨rfl, h.drewN q⟩

theorem kept_lenR (ls : List (Value × Value × List RecL)) (hn : ∀ x ∈ ls, x.2.2.length ≤ 900000) : ∀ x ∈ ls.map rkept, x.2.length ≤ 900000 := by
  intro x hx
  obtain ⟨y, hy, rfl⟩ := List.mem_map.1 hx
  have := hn y hy
  simp only [rkept]
  omega

theorem rblk_put (p D : Nat) (cs : Array Value) (V W : Value) (ls : List (Value × Value × List RecL)) (rest : List Row1) (T : TypeId) (w0 w : World) (h2 : cs[4]? = some V) (hN : ls.length ≤ 250) (hn : ∀ x ∈ ls, x.2.2.length ≤ 900000) (h : Here p D cs T w0 w (rblk V W ls ++ rest) []) :
    Calls Tryz.prog 56 #[.pointer (some ⟨p, 0, none⟩)] w fun e w' => e = .returned (.tuple #[]) ∧ Here p D cs T w0 w' (rput V W ls ++ rest) [] := by
  have hb := h.bag
  unfold rblk at hb
  rw [List.cons_append, List.append_assoc] at hb
  refine (putRecords_any p D V (ls.map rkept) _ cs T w h.hp h.hD h.blk h2 (by simp only [List.length_map]; omega) (fun x hx => by have := kept_lenR ls hn x hx; omega) hb).mono ?_
  rintro e w' ⟨rfl, b1, k1, g1⟩
  refine ⟨rfl, h.hp, Nat.le_trans h.hD b1.size, k1, h.fr.trans b1, ?_⟩
  unfold rput
  rw [List.cons_append, List.append_assoc]
  exact g1

theorem rput_grow (p D : Nat) (cs : Array Value) (V W : Value) (ls : List (Value × Value × List RecL)) (rest qs : List Row1) (T : TypeId) (w0 w : World) (h2 : cs[4]? = some V) (hN : ls.length ≤ 250) (hn : ∀ x ∈ ls, x.2.2.length ≤ 900000) (h : Here p D cs T w0 w (rput V W ls ++ rest) qs) :
    Calls Tryz.prog 63 #[.pointer (some ⟨p, 0, none⟩)] w fun e w' => ∃ G gs qs', e = .returned G ∧ GrownR (ls.map rkept).length (ls.map rkept) gs qs qs' ∧ Here p D cs T w0 w' (⟨22, 1, G, (ls.map rkept).length, gs⟩ :: (rrest V W ls ++ rest)) qs' := by
  have hb := h.bag
  unfold rput at hb
  rw [List.cons_append, List.append_assoc] at hb
  refine (growRecords_any p D V (ls.map rkept) _ qs cs T w h.hp h.hD h.blk h2 (by simp only [List.length_map]; omega) (kept_lenR ls hn) hb).mono ?_
  rintro e w' ⟨G, gs, qs', rfl, b1, k1, g1, g2⟩
  exact ⟨G, gs, qs', rfl, g1, h.hp, Nat.le_trans h.hD b1.size, k1, h.fr.trans b1, g2⟩

/-- What is looked at, at the end. -/
def oldIR (ls : List (Value × Value × List RecL)) : List (Value × Nat) := (ls.map rkept).map fun x => (x.1, x.2.length)
def newIR (ls : List (Value × Value × List RecL)) (gs : List Value) : List (Value × Nat) := (gs.zip (ls.map rkept)).map fun x => (x.1, x.2.2.length + 72)

theorem rold_marked (p D : Nat) (cs : Array Value) (T : TypeId) (w0 w : World) (V : Value) (ls : List (Value × Value × List RecL)) (gs : List Value) (rs qs0 qs : List Row1) (hN : ls.length ≤ 250) (hn : ∀ x ∈ ls, x.2.2.length ≤ 900000)
    (h : Here p D cs T w0 w rs qs) (hV : (⟨22, 1, V, (ls.map rkept).length, (ls.map rkept).map (·.1)⟩ : Row1) ∈ rs) (g : GrownR (ls.map rkept).length (ls.map rkept) gs qs0 qs) :
    Calls Tryz.prog 71 #[V] w fun e w' => e = .returned (.bool true) ∧ Here p D cs T w0 w' rs qs := by
  have oV := own_row (h.bag.own _ hV)
  refine (markedRecords_any V (oldIR ls) w ?_ ?_ ?_).mono fun e w' ⟨he, hb⟩ => ⟨he, h.next hb⟩
  · have e1 : (oldIR ls).length = (ls.map rkept).length := by simp [oldIR]
    have e2 : (oldIR ls).map (·.1) = (ls.map rkept).map (·.1) := by simp [oldIR, Function.comp_def]
    rw [e1, e2]
    exact oV
  · intro i x hx
    simp only [oldIR] at hx
    rw [List.getElem?_map] at hx
    cases hy : (ls.map rkept)[i]? with
    | none => rw [hy] at hx; cases hx
    | some y =>
      rw [hy] at hx
      simp only [Option.map_some, Option.some.injEq] at hx
      subst hx
      have m := g.was i y (List.getElem?_eq_some_iff.1 hy).1 hy
      refine ⟨(h.bag.seen _ m).1, ?_⟩
      have := kept_lenR ls hn y (List.mem_of_getElem? hy)
      simp only
      omega
  · simp only [oldIR, List.length_map]
    omega

theorem rnew_marked (p D : Nat) (cs : Array Value) (T : TypeId) (w0 w : World) (G : Value) (ls : List (Value × Value × List RecL)) (gs : List Value) (rs qs0 qs : List Row1) (hN : ls.length ≤ 250) (hn : ∀ x ∈ ls, x.2.2.length ≤ 900000)
    (h : Here p D cs T w0 w rs qs) (hG : (⟨22, 1, G, (ls.map rkept).length, gs⟩ : Row1) ∈ rs) (g : GrownR (ls.map rkept).length (ls.map rkept) gs qs0 qs) :
    Calls Tryz.prog 71 #[G] w fun e w' => e = .returned (.bool true) ∧ Here p D cs T w0 w' rs qs := by
  have oG := own_row (h.bag.own _ hG)
  have hl := g.len
  refine (markedRecords_any G (newIR ls gs) w ?_ ?_ ?_).mono fun e w' ⟨he, hb⟩ => ⟨he, h.next hb⟩
  · have e1 : (newIR ls gs).length = (ls.map rkept).length := by simp only [newIR, List.length_map, List.length_zip] at hl ⊢; omega
    have e2 : (newIR ls gs).map (·.1) = gs := by
      simp only [newIR, List.map_map, Function.comp_def]
      exact List.map_fst_zip (by omega)
    rw [e1, e2]
    exact oG
  · intro i x hx
    simp only [newIR] at hx
    rw [List.getElem?_map] at hx
    cases hy : (gs.zip (ls.map rkept))[i]? with
    | none => rw [hy] at hx; cases hx
    | some y =>
      rw [hy] at hx
      simp only [Option.map_some, Option.some.injEq] at hx
      subst hx
      obtain ⟨v, z⟩ := y
      obtain ⟨h1, h2⟩ := List.getElem?_zip_eq_some.1 hy
      have m := g.now i z v (List.getElem?_eq_some_iff.1 h2).1 h2 h1
      refine ⟨(h.bag.seen _ m).1, ?_⟩
      have := kept_lenR ls hn z (List.mem_of_getElem? h2)
      simp only
      omega
  · simp only [newIR, List.length_map, List.length_zip] at hl ⊢
    omega

end Go.Proofs.YtfgfgdchaoekfaaGreatDoor
