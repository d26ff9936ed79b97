/-
  A bundle of texts: PEG PEH.
-/
import Derived.Deep.QuietTactic
import Derived.BigQuiet
import Derived.Deep.DeepCutAuto
import Derived.Deep.RegionHeld3
import Derived.Deep.CutBlock
import Derived.Test.YtdchjcidfaencaaGreatQ21
import Derived.Test.YtdchjcidfaencaaGreatQ22
import Derived.Test.YtdchjcidfaencaaGreatQ14
import Derived.Test.YtdchjcidfaencaaGreatQ13
import Derived.Test.YtdchjcidfaencaaGreatQ18
import Derived.Test.YtdchjcidfaencaaGreatQ08
namespace Go.Proofs.YtdchjcidfaencaaGreat
open Go.RowKit Go.Lib

set_option maxRecDepth 20000 in
set_option maxHeartbeats 800000 in
theorem cloneTiers_any (v : Value) (l : List TierL) (w : World) (hv : CellRow w v l.length (flat penc l)) (hn : l.length ≤ 1000000) :
    Calls Tryz.prog 72 #[v] w fun e w' => ∃ u, e = .returned u ∧ w'.ownsRow w.heap.size 31 4 u l.length (flat penc l) ∧ Below w.heap.size w w' := by
  have HC := Hid.of hv
  obtain ⟨sa, sc, rfl, hx⟩ := hv
  have HX := Hid.of hx
  obtain ⟨i0, hi, hz0, hz1, hz2⟩ := info_parts (show (Tryz.prog.info? 31).map (fun i => (i.zero, i.size, i.bytes)) = some (some (.agg #[.string ⟨#[]⟩, .int .i64 0, .int .i64 0, .int .i64 0]), 4, 40) by kernel_rfl)
  have HI := Hid.of hi
  have HZ0 := Hid.of hz0
  have HZ1 := Hid.of hz1
  have HZ2 := Hid.of hz2
  have qT : ∀ (w : World) (a : Option Addr) (n c : Nat), (binOp .eql 22 (.slice a n c) (.slice none 0 0)).run Tryz.prog w = .ok (.bool a.isNone) w := fun w a n c => Lib.run_eql_slice_nil w _ _ a n c 0 0 Tryz.underlying22
  clear hi hz0 hz1 hz2 hx
  cases sa with
  | none =>
    have hl : l = [] := by
      rcases HX.out with h | ⟨b, o, h, _⟩
      · cases l with
        | nil => rfl
        | cons x r => simp [flat, penc] at h
      · cases h
    subst hl
    go_enter Tryz.func72, Tryz.ntmps72
    go_wp2
    go_ret
    exact ⟨_, rfl, World.ownsRow_nil _ _ _ 4, Below.refl _ _⟩
  | some ad =>
    go_enter Tryz.func72, Tryz.ntmps72
    go_wp2_with (at_builtin; refine append_row_law rfl _ _ 22 rfl w.heap.size 31 i0 (.agg #[.string ⟨#[]⟩, .int .i64 0, .int .i64 0, .int .i64 0]) 4 40 Tryz.underlying22 HI.out HZ0.out HZ1.out HZ2.out rfl (by decide) (.slice (some ⟨w.heap.size, 0, none⟩) 0 0) 0 [] rfl (World.ownsRow_made w #[] 0 (Nat.le_refl _) (Nat.zero_le _) rfl) _ l.length _ rfl (HC.out.kept ((Below.refl _ _).alloc (Nat.le_refl _) _)) (flat_length penc_len l) (flat_ones penc_one l) (by unfold maxLen; omega) (by omega) (by simp) ?_; intro v1 w1 o1 g1; have O1 : Hid (w1.ownsRow w.heap.size 31 4 v1 l.length (flat penc l)) := Hid.of (by simpa using o1); have b1 : Below w.heap.size w w1 := ((Below.refl _ w).alloc (Nat.le_refl _) _).grown g1 (by simp) (by intro k hk; simp [Value.ownBlock] at hk; omega); clear o1 g1)
    go_ret
    exact ⟨_, rfl, O1.out, b1⟩

end Go.Proofs.YtdchjcidfaencaaGreat

namespace Go.Proofs.YtdchjcidfaencaaGreat
open Go.RowKit Go.Lib

/-- The two cells of a variable that holds a policy are set. -/
def set2 (v : World) (b : Nat) (v0 v1 : Value) : World := (v.setCell ⟨b, 0, none⟩ v0).setCell ⟨b, 1, none⟩ v1

theorem pblk_set2 {v : World} {b : Nat} {n : ByteArray} {s : Value} (h : PBlk v b n s) (m : ByteArray) (u : Value) : PBlk (set2 v b (.string m) u) b m u := by
  have := row_set (i := 1) (row_set (i := 0) h (.string m)) u
  unfold set2 PBlk
  rw [this]
  simp

theorem set2_grown (v : World) (b : Nat) (v0 v1 : Value) : v.grownBy (set2 v b v0 v1) (some b) :=
  grownBy_trans (grownBy_setCell _ _ _ _) (grownBy_setCell _ _ _ _)

theorem PBlk.lt {w : World} {b : Nat} {n : ByteArray} {s : Value} (h : PBlk w b n s) : b < w.heap.size := (Array.getElem?_eq_some_iff.1 h).1

theorem PBlk.grown {w w' : World} {b c : Nat} {n : ByteArray} {s : Value} (h : PBlk w b n s) (g : w.grownBy w' (some c)) (hne : b ≠ c) : PBlk w' b n s := by
  unfold PBlk at h ⊢
  rw [g.block b (Array.getElem?_eq_some_iff.1 h).1 (fun e => hne (Option.some.inj e))]
  exact h

theorem set_same {α : Type} {l : List α} {i : Nat} {v : α} (h : l[i]? = some v) : l.set i v = l := by
  obtain ⟨hi, e⟩ := List.getElem?_eq_some_iff.1 h
  rw [← e]
  exact List.set_getElem_self hi

/-- While a copy is made: what came in lies at B, the answer at B + 1, the twin (m and z so far) at b; its tiers u. -/
structure CP (B : Nat) (w0 : World) (n m : ByteArray) (x z u : Value) (l : List TierL) (b : Nat) (w : World) : Prop where
  k1 : PBlk w B n x
  k2 : PBlk w (B + 1) ⟨#[]⟩ (.slice none 0 0)
  k3 : PBlk w b m z
  own : w.ownsRow (B + 2) 31 4 u l.length (flat penc l)
  hb : B + 2 ≤ b
  off : ∀ g, u.ownBlock = some g → g ≠ b
  hB : B = w0.heap.size
  fr : Below B w0 w

section
variable {B b : Nat} {w0 w w' : World} {n m : ByteArray} {x z u : Value} {l : List TierL}

theorem CP.next (h : CP B w0 n m x z u l b w) (k : Below w.heap.size w w') : CP B w0 n m x z u l b w' :=
  ⟨h.k1.kept k, h.k2.kept k, h.k3.kept k, (Step.of_below (F := fun _ => False) k).own h.own (fun _ _ c => c), h.hb, h.off, h.hB, h.fr.trans (k.mono (by have := h.k1.lt; omega))⟩

theorem CP.done (h : CP B w0 n m x z u l b w) : CP B w0 n n x u u l b (set2 w b (.string n) u) := by
  have g := set2_grown w b (.string n) u
  have hb := h.hb
  refine ⟨h.k1.grown g (by omega), h.k2.grown g (by omega), pblk_set2 h.k3 n u, ?_, hb, h.off, h.hB, h.fr.grown g (by have := h.k1.lt; omega) (fun k hk => by cases hk; omega)⟩
  refine ⟨h.own.1, ?_⟩
  rcases h.own.2 with h0 | ⟨g', cap, cur, e, hB', hrow, rest⟩
  · exact .inl h0
  · refine .inr ⟨g', cap, cur, e, hB', ?_, rest⟩
    rw [g.block g' (Array.getElem?_eq_some_iff.1 hrow).1 (fun c => h.off g' (by rw [e]; rfl) (Option.some.inj c))]
    exact hrow

theorem CP.put {g c k : Nat} (h : CP B w0 n m x z (.slice (some ⟨g, 0, none⟩) k c) l b w) (o : Nat) (v : Value) (hv : (flat penc l)[o]? = some v) : CP B w0 n m x z (.slice (some ⟨g, 0, none⟩) k c) l b (w.setCell ⟨g, o, none⟩ v) := by
  have hk : k = l.length := by
    rcases h.own.2 with ⟨e, _⟩ | ⟨g', cap, cur, e, _⟩ <;> cases e
    rfl
  subst hk
  obtain ⟨o1, g1⟩ := h.own.stored o v
  rw [set_same hv] at o1
  have hg := (h.own.lt g rfl).1
  have hne := h.off g rfl
  exact ⟨h.k1.grown g1 (by omega), h.k2.grown g1 (by omega), h.k3.grown g1 (fun e => hne e.symm), o1, h.hb, h.off, h.hB, h.fr.grown g1 (by have := h.k1.lt; omega) (fun j hj => by cases hj; omega)⟩

theorem CP.end (h : CP B w0 n m x z u l b w) : OwnPol B (set2 w (B + 1) (.string n) u) (polVal n u) (n, l) ∧ Below B w0 (set2 w (B + 1) (.string n) u) ∧ PBlk (set2 w (B + 1) (.string n) u) (B + 1) n u := by
  have g := set2_grown w (B + 1) (.string n) u
  refine ⟨⟨u, rfl, own_mono (B := B + 2) ?_ (by omega)⟩, h.fr.grown g (by have := h.k1.lt; omega) (fun k hk => by cases hk; omega), pblk_set2 h.k2 n u⟩
  refine ⟨h.own.1, ?_⟩
  rcases h.own.2 with h0 | ⟨g', cap, cur, e, hB', hrow, rest⟩
  · exact .inl h0
  · refine .inr ⟨g', cap, cur, e, hB', ?_, rest⟩
    rw [g.block g' (Array.getElem?_eq_some_iff.1 hrow).1 (fun c => by have := Option.some.inj c; omega)]
    exact hrow
end

set_option maxRecDepth 20000 in
set_option maxHeartbeats 1600000 in
theorem copy_any (v : Value) (p : PolL) (w : World) (hf : PFit p) (hv : PolRow w v p) :
    Calls Tryz.prog 23 #[v] w fun e w' => ∃ u, e = .returned u ∧ OwnPol w.heap.size w' u p ∧ Below w.heap.size w w' := by
  obtain ⟨n, l⟩ := p
  obtain ⟨hp, hn, ht⟩ := hf
  obtain ⟨s, rfl, hs, -⟩ := hv
  simp only at hs hp ht hn
  have HS := Hid.of hs
  have HT := Hid.of ht
  have HPL := Hid.of hp
  have HN : Hid (n.size ≤ 281474976710656) := Hid.of (by omega)
  obtain ⟨sa, sc, rfl, -⟩ := hs
  obtain ⟨w1, hw1⟩ : ∃ w1, (w.alloc (.cells #[.string n, .slice sa l.length sc] 24)).alloc (.cells #[.string ⟨#[]⟩, .slice none 0 0] 24) = w1 := ⟨_, rfl⟩
  have b1 : Below w.heap.size w w1 := by rw [← hw1]; exact ((Below.refl _ _).alloc (Nat.le_refl _) _).alloc (by simp) _
  have K1 : Hid (PBlk w1 w.heap.size n (.slice sa l.length sc)) := Hid.of (by rw [← hw1]; exact (PBlk.made w _ _).kept ((Below.refl _ _).alloc (Nat.le_refl _) _))
  have K2 : Hid (PBlk w1 (w.heap.size + 1) ⟨#[]⟩ (.slice none 0 0)) := Hid.of (by rw [← hw1]; have := PBlk.made (w.alloc (.cells #[.string n, .slice sa l.length sc] 24)) ⟨#[]⟩ (.slice none 0 0); simpa using this)
  have HW := Hid.of hw1
  have B1 := Hid.of b1
  clear hw1 b1 hp hn ht
  go_enter Tryz.func23, Tryz.ntmps23
  go_upto_region 1 with fail
  rw [HW.out]
  clear HW
  go_cut [3] (fun pv wx => ∃ b u, pv = .pointer (some ⟨b, 0, none⟩) ∧ Hid (CP w.heap.size w n n (.slice sa l.length sc) u u l b wx) ∧ Hid (CapOk u))
  case first =>
    obtain ⟨c0, c1⟩ := K1.out.at
    refine wp_region_noPanic ?_
    refine wp_region_held_drew (S := fun w' => w'.cell? ⟨w.heap.size, 0, none⟩ = some (.string n) ∧ w'.cell? ⟨w.heap.size, 1, none⟩ = some (.slice sa l.length sc)) (by kernel_rfl) ?_ (fun hHeld => ?_)
    · exact ⟨c0, c1⟩
    refine wpAnyH_take (i := 0) (oi := ⟨_, _, _, _, _, _⟩) (v := ?_) rfl (by kernel_rfl) (by kernel_rfl) (by kernel_rfl) (fun _ _ _ h => h) (Or.inl ⟨by rfl, ?_⟩) hHeld ?_
    rotate_left
    · intro w' hSw
      try dsimp only at hSw
      go_simp
      all_goals with_reducible rfl
    simp only [Act.put, List.setIfInBounds_toArray, List.set_cons_zero, List.set_cons_succ]
    refine wpAnyH_take (i := 1) (oi := ⟨_, _, _, _, _, _⟩) (v := ?_) rfl (by kernel_rfl) (by kernel_rfl) (by kernel_rfl) (fun _ _ _ h => h) (Or.inl ⟨by rfl, ?_⟩) hHeld ?_
    rotate_left
    · intro w' hSw
      try dsimp only at hSw
      go_simp
      all_goals with_reducible rfl
    simp only [Act.put, List.setIfInBounds_toArray, List.set_cons_zero, List.set_cons_succ]
    refine wpAnyH_take (i := 3) (oi := ⟨_, _, _, _, _, _⟩) (v := ?_) rfl (by kernel_rfl) (by kernel_rfl) (by kernel_rfl) (fun _ _ _ h => h) (Or.inl ⟨by rfl, ?_⟩) hHeld ?_
    rotate_left
    · intro w' hSw
      try dsimp only at hSw
      go_simp
      all_goals with_reducible rfl
    simp only [Act.put, List.setIfInBounds_toArray, List.set_cons_zero, List.set_cons_succ]
    refine wpAnyH_take (i := 4) (oi := ⟨_, _, _, _, _, _⟩) (v := ?_) rfl (by kernel_rfl) (by kernel_rfl) (by kernel_rfl) (fun _ _ _ h => h) (Or.inl ⟨by rfl, ?_⟩) hHeld ?_
    rotate_left
    · intro w' hSw
      try dsimp only at hSw
      go_simp
      all_goals with_reducible rfl
    simp only [Act.put, List.setIfInBounds_toArray, List.set_cons_zero, List.set_cons_succ]
    refine wpAnyH_ready (rs := [2, 7]) (by kernel_rfl) (by simp) ?_
    refine AllReadyH.cons (o := ⟨_, _, _, _, _, _⟩) rfl (fun K hK => ?_) (AllReadyH.cons (o := ⟨_, _, _, _, _, _⟩) rfl (fun K hK => ?_) AllReadyH.nil)
    · skip
      go_simp
      refine (Clone_any n _ HN.out).mono ?_
      rintro e w2 ⟨rfl, b2⟩
      have c2 := (Below.refl _ _).drew.trans b2
      have B_w2 := Hid.of (B1.out.trans (c2.mono B1.out.size))
      have K_w2 := Hid.of (K1.out.kept c2)
      have J_w2 := Hid.of (K2.out.kept c2)
      clear b2 c2 hHeld c0 c1
      obtain ⟨c0, c1⟩ := K_w2.out.at
      refine hK.out _ _ ⟨c0, c1⟩ (fun hHeld => ?_)
      clear hK K
      try simp only [Act.put, List.setIfInBounds_toArray, List.set_cons_zero, List.set_cons_succ]
      refine wpAnyH_ready (rs := [5, 7]) (by kernel_rfl) (by simp) ?_
      refine AllReadyH.cons (o := ⟨_, _, _, _, _, _⟩) rfl (fun K hK => ?_) (AllReadyH.cons (o := ⟨_, _, _, _, _, _⟩) rfl (fun K hK => ?_) AllReadyH.nil)
      · skip
        go_simp
        refine (cloneTiers_any _ l _ (HS.out.kept B_w2.out) HPL.out).mono ?_
        rintro e w3 ⟨u, rfl, o3, c2⟩
        obtain ⟨ua, uc, rfl, -⟩ := own_one o3
        have b2 := c2
        have SZ_w3 := Hid.of J_w2.out.lt
        have O3 := Hid.of o3
        clear o3
        have B_w3 := Hid.of (B_w2.out.trans (c2.mono B_w2.out.size))
        have K_w3 := Hid.of (K_w2.out.kept c2)
        have J_w3 := Hid.of (J_w2.out.kept c2)
        clear b2 c2 hHeld c0 c1
        obtain ⟨c0, c1⟩ := K_w3.out.at
        refine hK.out _ _ ⟨c0, c1⟩ (fun hHeld => ?_)
        clear hK K
        try simp only [Act.put, List.setIfInBounds_toArray, List.set_cons_zero, List.set_cons_succ]
        refine wpAnyH_take (i := 6) (oi := ⟨_, _, _, _, _, _⟩) (v := ?_) rfl (by kernel_rfl) (by kernel_rfl) (by kernel_rfl) (fun _ _ _ h => h) (Or.inl ⟨by rfl, ?_⟩) hHeld ?_
        rotate_left
        · intro w' hSw
          try dsimp only at hSw
          go_simp
          all_goals with_reducible rfl
        simp only [Act.put, List.setIfInBounds_toArray, List.set_cons_zero, List.set_cons_succ]
        refine wpAnyH_ready (rs := [7]) (by kernel_rfl) (by simp) ?_
        refine AllReadyH.cons (o := ⟨_, _, _, _, _, _⟩) rfl (fun K hK => ?_) AllReadyH.nil
        go_simp
        obtain ⟨wz, hwz⟩ : ∃ wz, (w3).alloc (.cells #[.string ⟨#[]⟩, .slice none 0 0] 24) = wz := ⟨_, rfl⟩
        have c2 : Below (w3).heap.size w3 wz := by rw [← hwz]; exact (Below.refl _ _).alloc (Nat.le_refl _) _
        have Z_a : Hid (PBlk wz (w3).heap.size ⟨#[]⟩ (.slice none 0 0)) := Hid.of (by rw [← hwz]; exact PBlk.made w3 _ _)
        have ZG := Hid.of (show w.heap.size + 2 ≤ (w3).heap.size from J_w3.out.lt)
        have OW : Hid (∀ g, Value.ownBlock (.slice ua l.length uc) = some g → g ≠ (w3).heap.size) := Hid.of (fun g hg => by have := (O3.out.lt g hg).2; omega)
        have O4 := Hid.of ((Step.of_below (F := fun _ => False) c2).own O3.out (fun _ _ c => c))
        rw [hwz]
        have b2 := c2
        clear hwz
        have B_wz := Hid.of (B_w3.out.trans (c2.mono B_w3.out.size))
        have K_wz := Hid.of (K_w3.out.kept c2)
        have J_wz := Hid.of (J_w3.out.kept c2)
        clear b2 c2 hHeld c0 c1
        obtain ⟨c0, c1⟩ := K_wz.out.at
        refine hK.out _ _ ⟨c0, c1⟩ (fun hHeld => ?_)
        clear hK K
        try simp only [Act.put, List.setIfInBounds_toArray, List.set_cons_zero, List.set_cons_succ]
        obtain ⟨q0, q1⟩ := Z_a.out.at
        have y0 := row_frozen (i := 0) Z_a.out
        have y1 := row_frozen (i := 1) Z_a.out
        refine wpAnyH_ready (rs := [8]) (by kernel_rfl) (by simp) ?_
        refine AllReadyH.cons (o := ⟨_, _, _, _, _, _⟩) rfl (fun K hK => ?_) AllReadyH.nil
        go_simp
        have Q : Hid (CP w.heap.size w n ⟨#[]⟩ (.slice sa l.length sc) (.slice none 0 0) (.slice ua l.length uc) l (w3).heap.size wz) := Hid.of ⟨K_wz.out, J_wz.out, Z_a.out, own_mono O4.out (by have := ZG.out; have := J_w2.out.lt; omega), ZG.out, OW.out, rfl, B_wz.out⟩
        have F := Hid.of (CP.done Q.out)
        have UC := Hid.of (own_cap O3.out)
        clear c0 c1 q0 q1 y0 y1
        obtain ⟨c0, c1⟩ := F.out.k1.at
        refine hK.out _ _ ⟨c0, c1⟩ (fun hHeld => ?_)
        clear hK K
        try simp only [Act.put, List.setIfInBounds_toArray, List.set_cons_zero, List.set_cons_succ]
        refine wpAnyH_done (by kernel_rfl) ?_ _
        refine NoPanic.normal ?_
        go_wp2_with fail
        go_meet
        exact ⟨_, _, rfl, F, UC⟩
      · skip
        go_simp
        obtain ⟨wz, hwz⟩ : ∃ wz, (w2).alloc (.cells #[.string ⟨#[]⟩, .slice none 0 0] 24) = wz := ⟨_, rfl⟩
        have c2 : Below (w2).heap.size w2 wz := by rw [← hwz]; exact (Below.refl _ _).alloc (Nat.le_refl _) _
        have Z_a : Hid (PBlk wz (w2).heap.size ⟨#[]⟩ (.slice none 0 0)) := Hid.of (by rw [← hwz]; exact PBlk.made w2 _ _)
        have ZG := Hid.of (show w.heap.size + 2 ≤ (w2).heap.size from J_w2.out.lt)
        rw [hwz]
        have b2 := c2
        clear hwz
        have B_wz := Hid.of (B_w2.out.trans (c2.mono B_w2.out.size))
        have K_wz := Hid.of (K_w2.out.kept c2)
        have J_wz := Hid.of (J_w2.out.kept c2)
        clear b2 c2 hHeld c0 c1
        obtain ⟨c0, c1⟩ := K_wz.out.at
        refine hK.out _ _ ⟨c0, c1⟩ (fun hHeld => ?_)
        clear hK K
        try simp only [Act.put, List.setIfInBounds_toArray, List.set_cons_zero, List.set_cons_succ]
        refine wpAnyH_ready (rs := [5]) (by kernel_rfl) (by simp) ?_
        refine AllReadyH.cons (o := ⟨_, _, _, _, _, _⟩) rfl (fun K hK => ?_) AllReadyH.nil
        go_simp
        refine (cloneTiers_any _ l _ (HS.out.kept B_wz.out) HPL.out).mono ?_
        rintro e w3 ⟨u, rfl, o3, c2⟩
        obtain ⟨ua, uc, rfl, -⟩ := own_one o3
        have b2 := c2
        have SZ_w3 := Hid.of J_wz.out.lt
        have ZL := Hid.of Z_a.out.lt
        have O3 := Hid.of o3
        clear o3
        have B_w3 := Hid.of (B_wz.out.trans (c2.mono B_wz.out.size))
        have K_w3 := Hid.of (K_wz.out.kept c2)
        have J_w3 := Hid.of (J_wz.out.kept c2)
        have Z_w3 := Hid.of (Z_a.out.kept c2)
        clear b2 c2 hHeld c0 c1
        obtain ⟨c0, c1⟩ := K_w3.out.at
        refine hK.out _ _ ⟨c0, c1⟩ (fun hHeld => ?_)
        clear hK K
        try simp only [Act.put, List.setIfInBounds_toArray, List.set_cons_zero, List.set_cons_succ]
        refine wpAnyH_take (i := 6) (oi := ⟨_, _, _, _, _, _⟩) (v := ?_) rfl (by kernel_rfl) (by kernel_rfl) (by kernel_rfl) (fun _ _ _ h => h) (Or.inl ⟨by rfl, ?_⟩) hHeld ?_
        rotate_left
        · intro w' hSw
          try dsimp only at hSw
          go_simp
          all_goals with_reducible rfl
        simp only [Act.put, List.setIfInBounds_toArray, List.set_cons_zero, List.set_cons_succ]
        obtain ⟨q0, q1⟩ := Z_w3.out.at
        have y0 := row_frozen (i := 0) Z_w3.out
        have y1 := row_frozen (i := 1) Z_w3.out
        refine wpAnyH_ready (rs := [8]) (by kernel_rfl) (by simp) ?_
        refine AllReadyH.cons (o := ⟨_, _, _, _, _, _⟩) rfl (fun K hK => ?_) AllReadyH.nil
        go_simp
        have Q : Hid (CP w.heap.size w n ⟨#[]⟩ (.slice sa l.length sc) (.slice none 0 0) (.slice ua l.length uc) l (w2).heap.size w3) := Hid.of ⟨K_w3.out, J_w3.out, Z_w3.out, own_mono O3.out (by have := ZG.out; have := J_wz.out.lt; omega), ZG.out, (fun g hg => by have := (O3.out.lt g hg).1; have := ZL.out; omega), rfl, B_w3.out⟩
        have F := Hid.of (CP.done Q.out)
        have UC := Hid.of (own_cap O3.out)
        clear c0 c1 q0 q1 y0 y1
        obtain ⟨c0, c1⟩ := F.out.k1.at
        refine hK.out _ _ ⟨c0, c1⟩ (fun hHeld => ?_)
        clear hK K
        try simp only [Act.put, List.setIfInBounds_toArray, List.set_cons_zero, List.set_cons_succ]
        refine wpAnyH_done (by kernel_rfl) ?_ _
        refine NoPanic.normal ?_
        go_wp2_with fail
        go_meet
        exact ⟨_, _, rfl, F, UC⟩
    · skip
      go_simp
      obtain ⟨wz, hwz⟩ : ∃ wz, (w1.alloc (.cells #[.string ⟨#[]⟩, .slice none 0 0] 24)).drew = wz := ⟨_, rfl⟩
      have c2 : Below w1.heap.size w1 wz := by rw [← hwz]; exact ((Below.refl _ _).alloc (Nat.le_refl _) _).drew
      have Z_a : Hid (PBlk wz w1.heap.size ⟨#[]⟩ (.slice none 0 0)) := Hid.of (by rw [← hwz]; exact PBlk.made w1 _ _)
      have ZG := Hid.of (show w.heap.size + 2 ≤ w1.heap.size from K2.out.lt)
      rw [hwz]
      have b2 := c2
      clear hwz
      have B_wz := Hid.of (B1.out.trans (c2.mono B1.out.size))
      have K_wz := Hid.of (K1.out.kept c2)
      have J_wz := Hid.of (K2.out.kept c2)
      clear b2 c2 hHeld c0 c1
      obtain ⟨c0, c1⟩ := K_wz.out.at
      refine hK.out _ _ ⟨c0, c1⟩ (fun hHeld => ?_)
      clear hK K
      try simp only [Act.put, List.setIfInBounds_toArray, List.set_cons_zero, List.set_cons_succ]
      refine wpAnyH_ready (rs := [2]) (by kernel_rfl) (by simp) ?_
      refine AllReadyH.cons (o := ⟨_, _, _, _, _, _⟩) rfl (fun K hK => ?_) AllReadyH.nil
      go_simp
      refine (Clone_any n _ HN.out).mono ?_
      rintro e w2 ⟨rfl, b2⟩
      have c2 := b2
      have B_w2 := Hid.of (B_wz.out.trans (c2.mono B_wz.out.size))
      have K_w2 := Hid.of (K_wz.out.kept c2)
      have J_w2 := Hid.of (J_wz.out.kept c2)
      have Z_w2 := Hid.of (Z_a.out.kept c2)
      clear b2 c2 hHeld c0 c1
      obtain ⟨c0, c1⟩ := K_w2.out.at
      refine hK.out _ _ ⟨c0, c1⟩ (fun hHeld => ?_)
      clear hK K
      try simp only [Act.put, List.setIfInBounds_toArray, List.set_cons_zero, List.set_cons_succ]
      refine wpAnyH_ready (rs := [5]) (by kernel_rfl) (by simp) ?_
      refine AllReadyH.cons (o := ⟨_, _, _, _, _, _⟩) rfl (fun K hK => ?_) AllReadyH.nil
      go_simp
      refine (cloneTiers_any _ l _ (HS.out.kept B_w2.out) HPL.out).mono ?_
      rintro e w3 ⟨u, rfl, o3, c2⟩
      obtain ⟨ua, uc, rfl, -⟩ := own_one o3
      have b2 := c2
      have SZ_w3 := Hid.of J_w2.out.lt
      have ZL := Hid.of Z_w2.out.lt
      have O3 := Hid.of o3
      clear o3
      have B_w3 := Hid.of (B_w2.out.trans (c2.mono B_w2.out.size))
      have K_w3 := Hid.of (K_w2.out.kept c2)
      have J_w3 := Hid.of (J_w2.out.kept c2)
      have Z_w3 := Hid.of (Z_w2.out.kept c2)
      clear b2 c2 hHeld c0 c1
      obtain ⟨c0, c1⟩ := K_w3.out.at
      refine hK.out _ _ ⟨c0, c1⟩ (fun hHeld => ?_)
      clear hK K
      try simp only [Act.put, List.setIfInBounds_toArray, List.set_cons_zero, List.set_cons_succ]
      refine wpAnyH_take (i := 6) (oi := ⟨_, _, _, _, _, _⟩) (v := ?_) rfl (by kernel_rfl) (by kernel_rfl) (by kernel_rfl) (fun _ _ _ h => h) (Or.inl ⟨by rfl, ?_⟩) hHeld ?_
      rotate_left
      · intro w' hSw
        try dsimp only at hSw
        go_simp
        all_goals with_reducible rfl
      simp only [Act.put, List.setIfInBounds_toArray, List.set_cons_zero, List.set_cons_succ]
      obtain ⟨q0, q1⟩ := Z_w3.out.at
      have y0 := row_frozen (i := 0) Z_w3.out
      have y1 := row_frozen (i := 1) Z_w3.out
      refine wpAnyH_ready (rs := [8]) (by kernel_rfl) (by simp) ?_
      refine AllReadyH.cons (o := ⟨_, _, _, _, _, _⟩) rfl (fun K hK => ?_) AllReadyH.nil
      go_simp
      have Q : Hid (CP w.heap.size w n ⟨#[]⟩ (.slice sa l.length sc) (.slice none 0 0) (.slice ua l.length uc) l w1.heap.size w3) := Hid.of ⟨K_w3.out, J_w3.out, Z_w3.out, own_mono O3.out (by have := ZG.out; have := J_w2.out.lt; omega), ZG.out, (fun g hg => by have := (O3.out.lt g hg).1; have := ZL.out; omega), rfl, B_w3.out⟩
      have F := Hid.of (CP.done Q.out)
      have UC := Hid.of (own_cap O3.out)
      clear c0 c1 q0 q1 y0 y1
      obtain ⟨c0, c1⟩ := F.out.k1.at
      refine hK.out _ _ ⟨c0, c1⟩ (fun hHeld => ?_)
      clear hK K
      try simp only [Act.put, List.setIfInBounds_toArray, List.set_cons_zero, List.set_cons_succ]
      refine wpAnyH_done (by kernel_rfl) ?_ _
      refine NoPanic.normal ?_
      go_wp2_with fail
      go_meet
      exact ⟨_, _, rfl, F, UC⟩
  case rest =>
    obtain ⟨b, u, rfl, P, UC⟩ := hcut
    clear K1 K2 B1
    obtain ⟨c0, c1⟩ := P.out.k1.at
    go_wp2_with fail
    go_loopw [16] (fun iv wr => ∃ i : Nat, i ≤ l.length ∧ iv = .int .i64 i ∧ Hid (CP w.heap.size w n n (.slice sa l.length sc) u u l b wr)) (fun iv _ => l.length - (RowKit.intOf iv).toNat)
    case atStart => exact ⟨0, Nat.zero_le _, rfl, P⟩
    case round =>
      clear P c0 c1
      obtain ⟨i, hi, rfl, P⟩ := hrel
      have i0 : (0 : Int) ≤ (i : Int) := Int.natCast_nonneg _
      by_cases hlt : i < l.length
      · have i1 : (i : Int) < (l.length : Int) := by omega
        have i9 : (i : Int) ≤ 1000000 := by have := HPL.out; omega
        obtain ⟨x, hx⟩ : ∃ x, l[i]? = some x := ⟨_, List.getElem?_eq_getElem hlt⟩
        have FX : Hid ((flat penc l)[i * 4]? = some (.string x.1)) := Hid.of ((flat_at penc_len l i x hx 0 (by decide)).trans rfl)
        have SX : Hid (x.1.size ≤ 281474976710656) := Hid.of (by have := (HT.out x (List.mem_of_getElem? hx)).1; omega)
        obtain ⟨b1, o1, rfl, g1, hc1⟩ := p_at (HS.out.kept (P.out.fr)) i x hx
        obtain ⟨x0, x1, x2, x3⟩ := x
        obtain ⟨f0, f1, f2, f3⟩ := hc1
        simp only at f0 f1 f2 f3
        obtain ⟨g, uc, rfl⟩ : ∃ g uc, u = .slice (some ⟨g, 0, none⟩) l.length uc := by
          rcases P.out.own.2 with ⟨_, h⟩ | ⟨g, cap, cur, e, _⟩
          · omega
          · exact ⟨g, cap, e⟩
        clear hx
        go_upto_region 5 with fail
        obtain ⟨wa, hwa⟩ : ∃ wa, wr.alloc (.cells #[.string x0, .int .i64 x1, .int .i64 x2, .int .i64 x3] 31) = wa := ⟨_, rfl⟩
        have TB : Hid (TBlk wa wr.heap.size (x0, x1, x2, x3)) := Hid.of (by rw [← hwa]; exact TBlk.made wr (x0, x1, x2, x3))
        have PA : Hid (CP w.heap.size w n n (.slice (some ⟨b1, o1, none⟩) l.length sc) (.slice (some ⟨g, 0, none⟩) l.length uc) (.slice (some ⟨g, 0, none⟩) l.length uc) l b wa) := Hid.of (P.out.next (by rw [← hwa]; exact (Below.refl _ _).alloc (Nat.le_refl _) _))
        have TL : Hid (wr.heap.size < wa.heap.size) := Hid.of (by rw [← hwa]; simp)
        rw [hwa]
        have GT : Hid (g < wr.heap.size) := Hid.of (P.out.own.lt g rfl).2
        generalize wr.heap.size = tb at *
        clear f0 f1 f2 f3 P hwa
        obtain ⟨d0, d1⟩ := PA.out.k3.at
        obtain ⟨f0, -, -, -⟩ := TB.out.at
        simp only at f0
        refine wp_region_noPanic ?_
        refine wp_region_held_drew (S := fun w' => w'.cell? ⟨b, 0, none⟩ = some (.string n) ∧ w'.cell? ⟨b, 1, none⟩ = some (.slice (some ⟨g, 0, none⟩) l.length uc) ∧ w'.cell? ⟨tb, 0, none⟩ = some (.string x0)) (by kernel_rfl) ?_ (fun hHeld => ?_)
        · exact ⟨d0, d1, f0⟩
        refine wpAnyH_take (i := 0) (oi := ⟨_, _, _, _, _, _⟩) (v := ?_) rfl (by kernel_rfl) (by kernel_rfl) (by kernel_rfl) (fun _ _ _ h => h) (Or.inl ⟨by rfl, ?_⟩) hHeld ?_
        rotate_left
        · intro w' hSw
          try dsimp only at hSw
          go_simp
          all_goals with_reducible rfl
        simp only [Act.put, List.setIfInBounds_toArray, List.set_cons_zero, List.set_cons_succ]
        refine wpAnyH_take (i := 1) (oi := ⟨_, _, _, _, _, _⟩) (v := ?_) rfl (by kernel_rfl) (by kernel_rfl) (by kernel_rfl) (fun _ _ _ h => h) (Or.inl ⟨by rfl, ?_⟩) hHeld ?_
        rotate_left
        · intro w' hSw
          try dsimp only at hSw
          go_simp
          all_goals with_reducible rfl
        simp only [Act.put, List.setIfInBounds_toArray, List.set_cons_zero, List.set_cons_succ]
        refine wpAnyH_take (i := 2) (oi := ⟨_, _, _, _, _, _⟩) (v := ?_) rfl (by kernel_rfl) (by kernel_rfl) (by kernel_rfl) (fun _ _ _ h => h) (Or.inl ⟨by rfl, ?_⟩) hHeld ?_
        rotate_left
        · intro w' hSw
          try dsimp only at hSw
          go_simp
          all_goals with_reducible rfl
        simp only [Act.put, List.setIfInBounds_toArray, List.set_cons_zero, List.set_cons_succ]
        refine wpAnyH_take (i := 3) (oi := ⟨_, _, _, _, _, _⟩) (v := ?_) rfl (by kernel_rfl) (by kernel_rfl) (by kernel_rfl) (fun _ _ _ h => h) (Or.inl ⟨by rfl, ?_⟩) hHeld ?_
        rotate_left
        · intro w' hSw
          try dsimp only at hSw
          go_simp
          all_goals with_reducible rfl
        simp only [Act.put, List.setIfInBounds_toArray, List.set_cons_zero, List.set_cons_succ]
        refine wpAnyH_take (i := 4) (oi := ⟨_, _, _, _, _, _⟩) (v := ?_) rfl (by kernel_rfl) (by kernel_rfl) (by kernel_rfl) (fun _ _ _ h => h) (Or.inl ⟨by rfl, ?_⟩) hHeld ?_
        rotate_left
        · intro w' hSw
          try dsimp only at hSw
          go_simp
          all_goals with_reducible rfl
        simp only [Act.put, List.setIfInBounds_toArray, List.set_cons_zero, List.set_cons_succ]
        refine wpAnyH_ready (rs := [5]) (by kernel_rfl) (by simp) ?_
        refine AllReadyH.cons (o := ⟨_, _, _, _, _, _⟩) rfl (fun K hK => ?_) AllReadyH.nil
        go_simp
        refine (Clone_any x0 _ SX.out).mono ?_
        rintro e w5 ⟨rfl, b5⟩
        have c5 := (Below.refl _ _).drew.trans b5
        have P5 := Hid.of (PA.out.next c5)
        have T5 := Hid.of (TB.out.kept c5)
        clear b5 c5 hHeld d0 d1 f0
        obtain ⟨d0, d1⟩ := P5.out.k3.at
        obtain ⟨f0, -, -, -⟩ := T5.out.at
        simp only at f0
        have p0 : w5.cell? ⟨g, i * 4, none⟩ = some (.string x0) := by rw [P5.out.own.cellAt (i * 4) (by omega)]; exact FX.out
        have p1 : w5.frozen? ⟨g, i * 4, none⟩ = false := by
          rcases P5.out.own.2 with ⟨h1, h2⟩ | ⟨g2, cap, cur, h1, _, hrow, _⟩
          · cases h1
          · cases h1; exact row_frozen hrow
        refine hK.out _ _ ⟨d0, d1, f0⟩ (fun hHeld => ?_)
        clear hK K
        try simp only [Act.put, List.setIfInBounds_toArray, List.set_cons_zero, List.set_cons_succ]
        refine wpAnyH_take (i := 6) (oi := ⟨_, _, _, _, _, _⟩) (v := ?_) rfl (by kernel_rfl) (by kernel_rfl) (by kernel_rfl) (fun _ _ _ h => h) (Or.inl ⟨by rfl, ?_⟩) hHeld ?_
        rotate_left
        · intro w' hSw
          try dsimp only at hSw
          go_simp
          all_goals with_reducible rfl
        simp only [Act.put, List.setIfInBounds_toArray, List.set_cons_zero, List.set_cons_succ]
        refine wpAnyH_take (i := 7) (oi := ⟨_, _, _, _, _, _⟩) (v := ?_) rfl (by kernel_rfl) (by kernel_rfl) (by kernel_rfl) (fun _ _ _ h => h) (Or.inl ⟨by rfl, ?_⟩) hHeld ?_
        rotate_left
        · intro w' hSw
          try dsimp only at hSw
          go_simp
          all_goals with_reducible rfl
        simp only [Act.put, List.setIfInBounds_toArray, List.set_cons_zero, List.set_cons_succ]
        refine wpAnyH_ready (rs := [8]) (by kernel_rfl) (by simp) ?_
        refine AllReadyH.cons (o := ⟨_, _, _, _, _, _⟩) rfl (fun K hK => ?_) AllReadyH.nil
        go_simp
        have P9 := Hid.of (P5.out.put (i * 4) (.string x0) FX.out)
        clear hHeld d0 d1 f0 p0 p1
        obtain ⟨d0, d1⟩ := P9.out.k3.at
        have f9 : (w5.setCell ⟨g, i * 4, none⟩ (.string x0)).cell? ⟨tb, 0, none⟩ = some (.string x0) := by
          rw [World.cell?_of_block ((grownBy_setCell w5 g (i * 4) (.string x0)).block tb (Array.getElem?_eq_some_iff.1 T5.out).1 (fun e => by have := GT.out; have := Option.some.inj e; omega))]
          exact T5.out.at.1
        refine hK.out _ _ ⟨d0, d1, f9⟩ (fun hHeld => ?_)
        clear hK K
        try simp only [Act.put, List.setIfInBounds_toArray, List.set_cons_zero, List.set_cons_succ]
        refine wpAnyH_done (by kernel_rfl) ?_ _
        refine NoPanic.normal ?_
        go_wp2
        go_roundw
        case rel => exact ⟨i + 1, by omega, by go_num, P9⟩
        case measure => simp [RowKit.intOf]; omega
      · obtain ⟨ua, uc, rfl, -⟩ := own_one P.out.own
        obtain ⟨d0, d1⟩ := P.out.k3.at
        obtain ⟨e0, e1⟩ := P.out.k2.at
        have z0 : wr.frozen? ⟨w.heap.size + 1, 0, none⟩ = false := row_frozen P.out.k2
        have z1 : wr.frozen? ⟨w.heap.size + 1, 1, none⟩ = false := row_frozen P.out.k2
        obtain ⟨q1, q2, q3⟩ := P.out.end
        obtain ⟨r0, r1⟩ := q3.at
        have Q1 := Hid.of q1
        have Q2 := Hid.of q2
        clear q1 q2 q3
        unfold set2 at r0 r1
        go_wp2
        refine bodyPost_ret (v := polVal n (.slice ua l.length uc)) ?_ rfl ⟨_, rfl, Q1.out, Q2.out⟩
        simp [results, Tryz.results23, go_sem, r0, r1]

end Go.Proofs.YtdchjcidfaencaaGreat
