/-
  One more list of records in a Book (package sedimentbook): Book.Records.
-/
import Derived.Test.YtfgfgdchaoekfaaGreatDoorKRMq
import Derived.Test.YtfgfgdchaoekfaaGreatDoorQ13
namespace Go.Proofs.YtfgfgdchaoekfaaGreatDoor
open Go.RowKit Go.Lib

set_option maxRecDepth 20000 in
set_option maxHeartbeats 1600000 in
theorem Records_any (p D : Nat) (V W l : Value) (N : Nat) (LV LW : List Value) (ss : List RecL) (rs : List Row1) (cs : Array Value) (T : TypeId) (w : World)
    (hp : p < D) (hD : D ≤ w.heap.size) (hB : w.heap[p]? = some (.cells cs T (0, 0))) (h2 : cs[4]? = some V) (h3 : cs[5]? = some W) (hN : N < 250) (hn : ss.length ≤ 1000000)
    (hb : Bag D w (⟨22, 1, V, N, LV⟩ :: ⟨22, 1, W, N, LW⟩ :: ⟨50, 7, l, ss.length, flat renc ss⟩ :: rs) []) :
    Calls Tryz.prog 12 #[.pointer (some ⟨p, 0, none⟩), l] w fun e w' => e = .returned (.tuple #[]) ∧ ∃ V' W' u,
      w'.heap[p]? = some (.cells ((cs.setIfInBounds 4 V').setIfInBounds 5 W') T (0, 0)) ∧ Below p w w' ∧
      Bag D w' (⟨22, 1, V', N + 1, LV ++ [l]⟩ :: ⟨22, 1, W', N + 1, LW ++ [u]⟩ :: ⟨50, 7, l, ss.length, flat renc ss⟩ :: ⟨50, 7, u, ss.length, flat renc ss⟩ :: rs) [] := by
  obtain ⟨i0, hi, hz0, hz1, hz2⟩ := info_parts (show (Tryz.prog.info? 22).map (fun i => (i.zero, i.size, i.bytes)) = some (some (.slice none 0 0), 1, 24) by kernel_rfl)
  have HI := Hid.of hi
  have HZ0 := Hid.of hz0
  have HZ1 := Hid.of hz1
  have HZ2 := Hid.of hz2
  clear hi hz0 hz1 hz2
  have HB := Hid.of hb
  have oV : Hid (w.ownsRow D 22 1 V N LV) := Hid.of (hb.own _ (List.mem_cons_self ..))
  have oW : w.ownsRow D 22 1 W N LW := hb.own _ (List.mem_cons_of_mem _ (List.mem_cons_self ..))
  have ol := hb.own _ (List.mem_cons_of_mem _ (List.mem_cons_of_mem _ (List.mem_cons_self ..)))
  obtain ⟨la, lc, hle, _⟩ := own_one ol
  simp only at hle
  obtain ⟨Va, Vc, hVe, _⟩ := own_one oV.out
  obtain ⟨Wa, Wc, hWe, _⟩ := own_one oW
  subst hVe
  subst hWe
  subst hle
  have hpl : p < w.heap.size := by omega
  have c2 : w.cell? ⟨p, 4, none⟩ = some (.slice Va N Vc) := by rw [cell_of_row w p 4 _ _ _ hB]; exact h2
  have N0 : (N : Int) < 250 := by omega
  have HBk := Hid.of hB
  have H2 := Hid.of h2
  have H3 := Hid.of h3
  obtain ⟨n, hnn⟩ : ∃ n, ss.length = n := ⟨_, rfl⟩
  clear hb ol oW hB h2 h3
  rw [hnn] at HB hn ⊢
  have HNN := Hid.of hnn
  clear hnn
  go_enter Tryz.func12, Tryz.ntmps12
  go_wp2_with (at_builtin; refine append_keep_law rfl _ _ 28 rfl D 22 i0 (.slice none 0 0) 1 24 Tryz.underlying28 HI.out HZ0.out HZ1.out HZ2.out rfl (by decide) (.slice Va N Vc) N LV rfl (oV.out.alloc _) w.heap.size 0 1 1 [.slice la n lc] rfl (one_cell w _ _) rfl (by simp [Value.oneCell']) (by unfold maxLen; omega) (by omega) (by simp; omega) ?_; intro v1 w1 o1 g1 k1 m1; obtain ⟨a1, d1, e1, _⟩ := own_one o1; subst e1; have O1 := Hid.of o1; have G1 := Hid.of (grown_alloc g1); have M1 := Hid.of m1; have P1 := Hid.of (block_kept HBk.out hp G1.out (fun g hg => (oV.out.lt g hg).1)); have c3 : w1.cell? ⟨p, 4, none⟩ = some (.slice Va N Vc) := (cell_of_row w1 p 4 _ _ _ P1.out).trans H2.out; have f3 : w1.frozen? ⟨p, 4, none⟩ = false := row_frozen P1.out; clear o1 g1 k1 m1)
  have hm := M1.out
  have B1 : Bag D w1 _ [] := HB.out.grow G1.out O1.out (hm.imp_right fun ⟨g, e, h⟩ => ⟨g, e, by simp at h; omega⟩)
  have B2 := B1.stored (p := p) (grownBy_setCell w1 p 4 (.slice a1 (N + 1) d1)) hp
  have P2 := row_set (i := 4) P1.out (.slice a1 (N + 1) d1)
  have b2 : Below p w (w1.setCell ⟨p, 4, none⟩ (.slice a1 (N + 1) d1)) := by
    have x1 := (Below.refl p w).grown G1.out (by omega) (fun k hk => by have := (oV.out.lt k hk).1; omega)
    exact x1.grown (grownBy_setCell w1 p 4 (.slice a1 (N + 1) d1)) (by have := x1.size; omega) (fun k hk => by simp at hk; omega)
  obtain ⟨w2, hw2⟩ : ∃ w2, w1.setCell ⟨p, 4, none⟩ (.slice a1 (N + 1) d1) = w2 := ⟨_, rfl⟩
  rw [hw2] at B2 P2 b2 ⊢
  clear hw2 B1 hm O1 G1 M1 P1 c3 f3 c2 oV HBk HB
  have hc3 : (cs.setIfInBounds 4 (.slice a1 (N + 1) d1))[5]? = some (.slice Wa N Wc) := by
    rw [Array.getElem?_setIfInBounds_ne (by decide)]; exact H3.out
  have hpl2 : p < w2.heap.size := (Array.getElem?_eq_some_iff.1 P2).1
  have q0 : w2.cell? ⟨p, 5, none⟩ = some (.slice Wa N Wc) := by rw [cell_of_row w2 p 5 _ _ _ P2]; exact hc3
  have Q0 := Hid.of q0
  have BB2 := Hid.of B2
  have PP2 := Hid.of P2
  have Bb2 := Hid.of b2
  have hD2 : D ≤ w2.heap.size := Nat.le_trans hD b2.size
  have HL : Hid (CellRow w2 (.slice la n lc) n (flat renc ss)) := Hid.of (own_row (B2.own _ (List.mem_cons_of_mem _ (List.mem_cons_of_mem _ (List.mem_cons_self ..)))))
  have H33 := Hid.of hc3
  have HLC : Hid (CellRow w2 (.slice la n lc) ss.length (flat renc ss)) := Hid.of (by rw [HNN.out]; exact HL.out)
  clear B2 P2 b2 hc3
  go_region_law (first | (refine step_append_keep rfl (.tmp 24) (.tmp 27) 28 rfl D 22 i0 (.slice none 0 0) 1 24 Tryz.underlying28 HI.out HZ0.out HZ1.out HZ2.out rfl (by decide) (.slice Wa N Wc) N LW (by simp [Act.eval]) (OW3.out.alloc _) n3.heap.size 0 1 1 [.slice ua n uc] (by simp [Act.eval]) (one_cell n3 _ _) rfl (by simp [Value.oneCell']) (by unfold maxLen; omega) (by omega) (by simp; omega) ?_; intro v4 w4 o4 g4 k4 m4; obtain ⟨a4, d4, e4, _⟩ := own_one o4; subst e4; have O4 := Hid.of o4; have G4 := Hid.of (grown_alloc g4); have M4 := Hid.of m4; have P4 := Hid.of (block_kept P3.out hp G4.out (fun g hg => (OW3.out.lt g hg).1)); clear q0; have q0 : w4.cell? ⟨p, 5, none⟩ = some (.slice Wa N Wc) := (cell_of_row w4 p 5 _ _ _ P4.out).trans H33.out; have f4 : w4.frozen? ⟨p, 5, none⟩ = false := row_frozen P4.out; clear o4 g4 k4 m4) | (go_simp; go_at_call 39; refine (copyRecords_any (.slice la n lc) ss _ (by exact HLC.out) (by rw [HNN.out]; exact hn)).mono ?_; rintro e' n3 ⟨uv, rfl, ou, c3⟩; rw [HNN.out] at ou; obtain ⟨ua, uc, hue, _⟩ := own_one ou; subst hue; have C3 : Hid (Below w2.heap.size w2 n3) := Hid.of ((Below.refl _ w2).drew.trans c3); have OU := Hid.of ou; have B3 := Hid.of (BB2.out.below C3.out); have P3 := Hid.of (block_kept PP2.out hp (grown_of_below C3.out) (fun g hg => by cases hg)); have OW3 := Hid.of (B3.out.own _ (List.mem_cons_of_mem _ (List.mem_cons_self ..))); have hD3 : D ≤ n3.heap.size := Nat.le_trans hD2 c3.size; clear c3 ou q0; have q0 : n3.cell? ⟨p, 5, none⟩ = some (.slice Wa N Wc) := (by rw [C3.out.cell hpl2]; exact Q0.out); have qA : (n3.alloc (.cells #[.slice ua n uc] 22)).cell? ⟨p, 5, none⟩ = some (.slice Wa N Wc) := (cell_of_row _ p 5 _ _ _ (row_alloc P3.out)).trans H33.out))
  all_goals
    go_end0
    have n1 := BB2.out.new C3.out OU.out hD2
    have n2 := n1.perm (List.perm_middle (l₁ := [_, _]))
    have hm := M4.out.imp_right fun ⟨g, e, (h : (n3.alloc (Obj.cells #[Value.slice ua n uc] 22)).heap.size ≤ g)⟩ => (⟨g, e, by simp at h; omega⟩ : ∃ g, (Value.slice a4 (N + 1) d4).ownBlock = some g ∧ n3.heap.size ≤ g)
    have n3' := n2.grow G4.out O4.out hm
    have n4 := n3'.stored (p := p) (grownBy_setCell w4 p 5 (.slice a4 (N + 1) d4)) hp
    refine ⟨rfl, _, _, _, row_set (i := 5) P4.out (.slice a4 (N + 1) d4), ?_, n4.perm ((((List.Perm.swap _ _ _).cons _).trans (List.Perm.swap _ _ _)).trans (((List.Perm.swap _ _ _).cons _).cons _))⟩
    have x1 : Below p w n3 := Bb2.out.trans (C3.out.mono (by omega))
    have x2 := x1.grown G4.out (by have := x1.size; omega) (fun k hk => by have := (OW3.out.lt k hk).1; omega)
    exact x2.grown (grownBy_setCell w4 p 5 (.slice a4 (N + 1) d4)) (by have := x2.size; omega) (fun k hk => by simp at hk; omega)

end Go.Proofs.YtfgfgdchaoekfaaGreatDoor
