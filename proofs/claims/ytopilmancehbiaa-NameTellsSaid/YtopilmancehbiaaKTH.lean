/-
  A Book's lists of texts (package sedimentbook), whatever it keeps beside: one more, still, put, grow, marked.
-/
import Derived.Test.YtopilmancehbiaaKH
import Derived.Test.YtopilmancehbiaaKTQ
namespace Go.Proofs.Ytopilmancehbiaa
open Go.RowKit Go.Lib

/-- A kept list and its copy. -/
def tkept (x : Value × Value × List ByteArray) : Value × List Value := (x.1, x.2.2.map Value.string)
def tcopy (x : Value × Value × List ByteArray) : Row1 := ⟨9, 1, x.2.1, x.2.2.length, x.2.2.map Value.string⟩

/-- The rows that are of lists of ints: as they came, with their marks, and what is left when they have been grown. -/
def tblk (V W : Value) (ls : List (Value × Value × List ByteArray)) : List Row1 :=
  ⟨22, 1, V, (ls.map tkept).length, (ls.map tkept).map (·.1)⟩ :: (trows 0 (ls.map tkept) ++ (⟨22, 1, W, ls.length, ls.map (·.2.1)⟩ :: ls.map tcopy))
def tput (V W : Value) (ls : List (Value × Value × List ByteArray)) : List Row1 :=
  ⟨22, 1, V, (ls.map tkept).length, (ls.map tkept).map (·.1)⟩ :: (trows (ls.map tkept).length (ls.map tkept) ++ (⟨22, 1, W, ls.length, ls.map (·.2.1)⟩ :: ls.map tcopy))
def trest (V W : Value) (ls : List (Value × Value × List ByteArray)) : List Row1 :=
  ⟨22, 1, V, (ls.map tkept).length, (ls.map tkept).map (·.1)⟩ :: (⟨22, 1, W, ls.length, ls.map (·.2.1)⟩ :: ls.map tcopy)

theorem tblk_nil (D : Nat) (w : World) (rs qs : List Row1) (h : Bag D w rs qs) : Bag D w (tblk (.slice none 0 0) (.slice none 0 0) [] ++ rs) qs := by
  have e : tblk (.slice none 0 0) (.slice none 0 0) [] ++ rs = ⟨22, 1, .slice none 0 0, 0, []⟩ :: ⟨22, 1, .slice none 0 0, 0, []⟩ :: rs := rfl
  rw [e]
  refine ⟨fun r hr => ?_, ?_, h.seen, fun q hq r hr => ?_⟩
  · rcases List.mem_cons.1 hr with rfl | hr
    · exact World.ownsRow_nil w _ _ 1
    · rcases List.mem_cons.1 hr with rfl | hr
      · exact World.ownsRow_nil w _ _ 1
      · exact h.own r hr
  · exact List.pairwise_cons.2 ⟨fun x _ g hg => (by cases hg), List.pairwise_cons.2 ⟨fun x _ g hg => (by cases hg), h.apart⟩⟩
  · rcases List.mem_cons.1 hr with rfl | hr
    · intro g _ h
      cases h
    · rcases List.mem_cons.1 hr with rfl | hr
      · intro g _ h
        cases h
      · exact h.off q hq r hr

theorem trows_zero_snoc' (ls : List (Value × Value × List ByteArray)) (x : Value × Value × List ByteArray) : trows 0 ((ls ++ [x]).map tkept) = trows 0 (ls.map tkept) ++ [ttodo (tkept x)] := by
  rw [trows_zero, trows_zero, List.map_append, List.map_append]
  rfl

/-- One more list, one's own and apart from the others. -/
theorem tblk_add (p D : Nat) (cs : Array Value) (V W l : Value) (ls : List (Value × Value × List ByteArray)) (ss : List ByteArray) (rest : List Row1) (T : TypeId) (w0 w : World) (h2 : cs[0]? = some V) (h3 : cs[1]? = some W) (hN : ls.length < 250) (hn : ss.length ≤ 1000000)
    (h : Here p D cs T w0 w (⟨9, 1, l, ss.length, ss.map Value.string⟩ :: (tblk V W ls ++ rest)) []) :
    Calls Try.prog 17 #[.pointer (some ⟨p, 0, none⟩), l] w fun e w' => e = .returned (.tuple #[]) ∧ ∃ V' W' u, Here p D ((cs.setIfInBounds 0 V').setIfInBounds 1 W') T w0 w' (tblk V' W' (ls ++ [(l, u, ss)]) ++ rest) [] := by
  have hb := h.bag
  unfold tblk at hb
  have e1 : (ls.map tkept).length = ls.length := List.length_map ..
  rw [e1] at hb
  have b1 : Bag D w (⟨22, 1, V, ls.length, (ls.map tkept).map (·.1)⟩ :: ⟨22, 1, W, ls.length, ls.map (·.2.1)⟩ :: ⟨9, 1, l, ss.length, ss.map Value.string⟩ :: (trows 0 (ls.map tkept) ++ (ls.map tcopy ++ rest))) [] := by
    refine hb.perm ?_
    generalize (⟨22, 1, V, ls.length, (ls.map tkept).map (·.1)⟩ : Row1) = X
    generalize (⟨22, 1, W, ls.length, ls.map (·.2.1)⟩ : Row1) = Y
    generalize (⟨9, 1, l, ss.length, ss.map Value.string⟩ : Row1) = Z
    classical
    rw [List.perm_iff_count]
    intro a
    simp only [List.count_append, List.count_cons, List.cons_append, List.append_assoc]
    omega
  refine (Texts_any p D V W l ls.length _ _ ss _ cs T w h.hp h.hD h.blk h2 h3 hN hn b1).mono ?_
  rintro e w' ⟨rfl, V', W', u, hblk, hfr, hbag⟩
  refine ⟨rfl, V', W', u, h.hp, Nat.le_trans h.hD hfr.size, hblk, h.fr.trans hfr, ?_⟩
  unfold tblk
  have e2 : ((ls ++ [(l, u, ss)]).map tkept).length = ls.length + 1 := by simp
  have e3 : ((ls ++ [(l, u, ss)]).map tkept).map (·.1) = (ls.map tkept).map (·.1) ++ [l] := by simp [tkept]
  have e4 : (ls ++ [(l, u, ss)]).length = ls.length + 1 := by simp
  have e5 : (ls ++ [(l, u, ss)]).map (·.2.1) = ls.map (·.2.1) ++ [u] := by simp
  have e6 : (ls ++ [(l, u, ss)]).map tcopy = ls.map tcopy ++ [⟨9, 1, u, ss.length, ss.map Value.string⟩] := by simp [tcopy]
  have e7 : ttodo (tkept (l, u, ss)) = ⟨9, 1, l, ss.length, ss.map Value.string⟩ := by simp [ttodo, tkept]
  rw [e2, e3, e4, e5, e6, trows_zero_snoc', e7]
  refine hbag.perm ?_
  generalize trows 0 (ls.map tkept) = A
  generalize ls.map tcopy = B
  generalize (⟨22, 1, V', ls.length + 1, (ls.map tkept).map (·.1) ++ [l]⟩ : Row1) = Q
  generalize (⟨22, 1, W', ls.length + 1, ls.map (·.2.1) ++ [u]⟩ : Row1) = X
  generalize (⟨9, 1, l, ss.length, ss.map Value.string⟩ : Row1) = Y
  generalize (⟨9, 1, u, ss.length, ss.map Value.string⟩ : Row1) = Z
  classical
  rw [List.perm_iff_count]
  intro a
  simp only [List.count_append, List.count_cons, List.cons_append, List.append_assoc, List.count_nil]
  omega

/-- The list that came last, as it is. -/
theorem tblk_last {p D : Nat} {cs : Array Value} {T : TypeId} {w0 w : World} {V W l u : Value} {ls : List (Value × Value × List ByteArray)} {ss : List ByteArray} {rest qs : List Row1} (h : Here p D cs T w0 w (tblk V W (ls ++ [(l, u, ss)]) ++ rest) qs) : CellRow w l ss.length (ss.map Value.string) := by
  have m1 : ttodo (tkept (l, u, ss)) ∈ tblk V W (ls ++ [(l, u, ss)]) ++ rest := by
    refine List.mem_append_left _ (List.mem_cons_of_mem _ (List.mem_append_left _ ?_))
    rw [trows_zero_snoc']
    exact List.mem_append_right _ (List.mem_singleton.2 rfl)
  have o1 := own_row (h.bag.own _ m1)
  simp only [ttodo, tkept, List.length_map] at o1
  exact o1

theorem tblk_still (p D : Nat) (cs : Array Value) (V W : Value) (ls : List (Value × Value × List ByteArray)) (rest : List Row1) (T : TypeId) (w0 w : World) (h2 : cs[0]? = some V) (h3 : cs[1]? = some W) (hN : ls.length ≤ 250) (hn : ∀ x ∈ ls, x.2.2.length ≤ 900000) (h : Here p D cs T w0 w (tblk V W ls ++ rest) []) :
    Calls Try.prog 31 #[.pointer (some ⟨p, 0, none⟩)] w fun e w' => e = .returned (.bool true) ∧ Here p D cs T w0 w' (tblk V W ls ++ rest) [] := by
  have hb := h.bag
  have eV : (ls.map tkept).map (·.1) = ls.map (·.1) := by simp [tkept, Function.comp_def]
  have oV := own_row (hb.own ⟨22, 1, V, (ls.map tkept).length, (ls.map tkept).map (·.1)⟩ (List.mem_append_left _ (List.mem_cons_self ..)))
  have oW := own_row (hb.own ⟨22, 1, W, ls.length, ls.map (·.2.1)⟩ (List.mem_append_left _ (List.mem_cons_of_mem _ (List.mem_append_right _ (List.mem_cons_self ..)))))
  simp only [List.length_map, eV] at oV
  refine (stillTexts_any p V W ls w (h.cell 0 V h2) (h.cell 1 W h3) oV oW (fun x hx => ?_) (by omega)).mono ?_
  · have m1 : ttodo (tkept x) ∈ tblk V W ls ++ rest := by
      refine List.mem_append_left _ (List.mem_cons_of_mem _ (List.mem_append_left _ ?_))
      rw [trows_zero, List.map_map]
      exact List.mem_map.2 ⟨x, hx, rfl⟩
    have m2 : tcopy x ∈ tblk V W ls ++ rest := List.mem_append_left _ (List.mem_cons_of_mem _ (List.mem_append_right _ (List.mem_cons_of_mem _ (List.mem_map.2 ⟨x, hx, rfl⟩))))
    have o1 := own_row (hb.own _ m1)
    have o2 := own_row (hb.own _ m2)
    simp only [ttodo, tkept, List.length_map] at o1
    refine ⟨o1, o2, ?_⟩
    have := hn x hx
    omega
  · rintro e w' ⟨rfl, q, rfl⟩
    exact ⟨rfl, h.drewN q⟩

theorem kept_lenT (ls : List (Value × Value × List ByteArray)) (hn : ∀ x ∈ ls, x.2.2.length ≤ 900000) : ∀ x ∈ ls.map tkept, x.2.length ≤ 900000 := by
  intro x hx
  obtain ⟨y, hy, rfl⟩ := List.mem_map.1 hx
  have := hn y hy
  simp only [tkept, List.length_map]
  omega

theorem tblk_put (p D : Nat) (cs : Array Value) (V W : Value) (ls : List (Value × Value × List ByteArray)) (rest : List Row1) (T : TypeId) (w0 w : World) (h2 : cs[0]? = some V) (hN : ls.length ≤ 250) (hn : ∀ x ∈ ls, x.2.2.length ≤ 900000) (h : Here p D cs T w0 w (tblk V W ls ++ rest) []) :
    Calls Try.prog 40 #[.pointer (some ⟨p, 0, none⟩)] w fun e w' => e = .returned (.tuple #[]) ∧ Here p D cs T w0 w' (tput V W ls ++ rest) [] := by
  have hb := h.bag
  unfold tblk at hb
  rw [List.cons_append, List.append_assoc] at hb
  refine (putTexts_any p D V (ls.map tkept) _ cs T w h.hp h.hD h.blk h2 (by simp only [List.length_map]; omega) (fun x hx => by have := kept_lenT ls hn x hx; omega) hb).mono ?_
  rintro e w' ⟨rfl, b1, k1, g1⟩
  refine ⟨rfl, h.hp, Nat.le_trans h.hD b1.size, k1, h.fr.trans b1, ?_⟩
  unfold tput
  rw [List.cons_append, List.append_assoc]
  exact g1

theorem GrownT.wider {j : Nat} {ls : List (Value × List Value)} {gs : List Value} {qs0 qs qs1 : List Row1} (h : GrownT j ls gs qs0 qs) (k : ∀ q ∈ qs, q ∈ qs1) : GrownT j ls gs qs0 qs1 :=
  ⟨h.len, fun i x hi hx => k _ (h.was i x hi hx), fun i x v hi hx hv => k _ (h.now i x v hi hx hv), fun q hq => k _ (h.old q hq)⟩

theorem tput_grow (p D : Nat) (cs : Array Value) (V W : Value) (ls : List (Value × Value × List ByteArray)) (rest qs : List Row1) (T : TypeId) (w0 w : World) (h2 : cs[0]? = some V) (hN : ls.length ≤ 250) (hn : ∀ x ∈ ls, x.2.2.length ≤ 900000) (h : Here p D cs T w0 w (tput V W ls ++ rest) qs) :
    Calls Try.prog 47 #[.pointer (some ⟨p, 0, none⟩)] w fun e w' => ∃ G gs qs', e = .returned G ∧ GrownT (ls.map tkept).length (ls.map tkept) gs qs qs' ∧ Here p D cs T w0 w' (⟨22, 1, G, (ls.map tkept).length, gs⟩ :: (trest V W ls ++ rest)) qs' := by
  have hb := h.bag
  unfold tput at hb
  rw [List.cons_append, List.append_assoc] at hb
  refine (growTexts_any p D V (ls.map tkept) _ qs cs T w h.hp h.hD h.blk h2 (by simp only [List.length_map]; omega) (kept_lenT ls hn) hb).mono ?_
  rintro e w' ⟨G, gs, qs', rfl, b1, k1, g1, g2⟩
  exact ⟨G, gs, qs', rfl, g1, h.hp, Nat.le_trans h.hD b1.size, k1, h.fr.trans b1, g2⟩

/-- What is looked at, at the end. -/
def oldIT (ls : List (Value × Value × List ByteArray)) : List (Value × Nat) := (ls.map tkept).map fun x => (x.1, x.2.length)
def newIT (ls : List (Value × Value × List ByteArray)) (gs : List Value) : List (Value × Nat) := (gs.zip (ls.map tkept)).map fun x => (x.1, x.2.2.length + 72)

theorem told_marked (p D : Nat) (cs : Array Value) (T : TypeId) (w0 w : World) (V : Value) (ls : List (Value × Value × List ByteArray)) (gs : List Value) (rs qs0 qs : List Row1) (hN : ls.length ≤ 250) (hn : ∀ x ∈ ls, x.2.2.length ≤ 900000)
    (h : Here p D cs T w0 w rs qs) (hV : (⟨22, 1, V, (ls.map tkept).length, (ls.map tkept).map (·.1)⟩ : Row1) ∈ rs) (g : GrownT (ls.map tkept).length (ls.map tkept) gs qs0 qs) :
    Calls Try.prog 55 #[V] w fun e w' => e = .returned (.bool true) ∧ Here p D cs T w0 w' rs qs := by
  have oV := own_row (h.bag.own _ hV)
  refine (markedTexts_any V (oldIT ls) w ?_ ?_ ?_).mono fun e w' ⟨he, hb⟩ => ⟨he, h.next hb⟩
  · have e1 : (oldIT ls).length = (ls.map tkept).length := by simp [oldIT]
    have e2 : (oldIT ls).map (·.1) = (ls.map tkept).map (·.1) := by simp [oldIT, Function.comp_def]
    rw [e1, e2]
    exact oV
  · intro i x hx
    simp only [oldIT] at hx
    rw [List.getElem?_map] at hx
    cases hy : (ls.map tkept)[i]? with
    | none => rw [hy] at hx; cases hx
    | some y =>
      rw [hy] at hx
      simp only [Option.map_some, Option.some.injEq] at hx
      subst hx
      have m := g.was i y (List.getElem?_eq_some_iff.1 hy).1 hy
      refine ⟨(h.bag.seen _ m).1, ?_⟩
      have := kept_lenT ls hn y (List.mem_of_getElem? hy)
      simp only
      omega
  · simp only [oldIT, List.length_map]
    omega

theorem tnew_marked (p D : Nat) (cs : Array Value) (T : TypeId) (w0 w : World) (G : Value) (ls : List (Value × Value × List ByteArray)) (gs : List Value) (rs qs0 qs : List Row1) (hN : ls.length ≤ 250) (hn : ∀ x ∈ ls, x.2.2.length ≤ 900000)
    (h : Here p D cs T w0 w rs qs) (hG : (⟨22, 1, G, (ls.map tkept).length, gs⟩ : Row1) ∈ rs) (g : GrownT (ls.map tkept).length (ls.map tkept) gs qs0 qs) :
    Calls Try.prog 55 #[G] w fun e w' => e = .returned (.bool true) ∧ Here p D cs T w0 w' rs qs := by
  have oG := own_row (h.bag.own _ hG)
  have hl := g.len
  refine (markedTexts_any G (newIT ls gs) w ?_ ?_ ?_).mono fun e w' ⟨he, hb⟩ => ⟨he, h.next hb⟩
  · have e1 : (newIT ls gs).length = (ls.map tkept).length := by simp only [newIT, List.length_map, List.length_zip] at hl ⊢; omega
    have e2 : (newIT ls gs).map (·.1) = gs := by
      simp only [newIT, List.map_map, Function.comp_def]
      exact List.map_fst_zip (by omega)
    rw [e1, e2]
    exact oG
  · intro i x hx
    simp only [newIT] at hx
    rw [List.getElem?_map] at hx
    cases hy : (gs.zip (ls.map tkept))[i]? with
    | none => rw [hy] at hx; cases hx
    | some y =>
      rw [hy] at hx
      simp only [Option.map_some, Option.some.injEq] at hx
      subst hx
      obtain ⟨v, z⟩ := y
      obtain ⟨h1, h2⟩ := List.getElem?_zip_eq_some.1 hy
      have m := g.now i z v (List.getElem?_eq_some_iff.1 h2).1 h2 h1
      refine ⟨(h.bag.seen _ m).1, ?_⟩
      have := kept_lenT ls hn z (List.mem_of_getElem? h2)
      simp only
      omega
  · simp only [newIT, List.length_map, List.length_zip] at hl ⊢
    omega

end Go.Proofs.Ytopilmancehbiaa
