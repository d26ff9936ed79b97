/-
  A bundle of texts: VLC.
-/
import Derived.Deep.RegionHeld3
import Derived.Deep.LoopGhost
import Derived.Test.YtdchjcidfaencaaGreatQ28
import Derived.Test.YtdchjcidfaencaaGreatQ18
import Derived.Test.YtdchjcidfaencaaGreatQ10
import Derived.Test.YtdchjcidfaencaaGreatQ04
namespace Go.Proofs.YtdchjcidfaencaaGreat
open Go.RowKit Go.Lib Go.Sort

theorem recV_info : (Tryz.prog.info? 61).map (fun i => (i.zero, i.size, i.bytes)) = some (some (.agg #[.string ⟨#[]⟩, .int .i64 0, .int .i64 0, .int .i64 0, .int .u64 0, .int .i64 0, .int .i64 0]), 7, 64) := by kernel_rfl

/-- While records are gathered. -/
structure CR (T : List TRec) (w0 w : World) (b r n D : Nat) (left : TKey → Bool) (cnt : Nat) (lv : Value) (cs : List TRec) : Prop where
  rg : RangeB Tryz.prog 82 w b r n (vKnow T) left cnt
  co : Coll T cs left
  own : w.ownsRow D 61 7 lv cs.length (flat tenc cs)
  len : cs.length + cnt ≤ n
  fr : Below w0.heap.size w0 w
  hb : b < D
  hr : r < D
  hD : w0.heap.size ≤ D
  hw : D ≤ w.heap.size

section
variable {T cs : List TRec} {w0 w w' : World} {b r n D : Nat} {left : TKey → Bool} {cnt : Nat} {lv : Value}
theorem CR.next (h : CR T w0 w b r n D left cnt lv cs) (c : Below w.heap.size w w') : CR T w0 w' b r n D left cnt lv cs :=
  ⟨h.rg.at (c.block _ (by have := h.hb; have := h.hw; omega)) (c.block _ h.rg.lt), h.co, (Step.of_below (F := fun _ => False) c).own h.own (fun _ _ c => c), h.len, h.fr.trans (c.mono h.fr.size), h.hb, h.hr, h.hD, Nat.le_trans h.hw c.size⟩
end

theorem vown_at {w w' : World} {D : Nat} {e : TypeId} {sz n : Nat} {v : Value} {xs : List Value} (h : w.ownsRow D e sz v n xs) (k : ∀ g, v.ownBlock = some g → w'.heap[g]? = w.heap[g]?) : w'.ownsRow D e sz v n xs := by
  refine ⟨h.1, ?_⟩
  rcases h.2 with h0 | ⟨g, cap, cur, rfl, hB, hrow, rest⟩
  · exact .inl h0
  · exact .inr ⟨g, cap, cur, rfl, hB, (k g rfl).trans hrow, rest⟩

theorem Cs.vgrown {w w' : World} {o : Option Nat} {l : List (Addr × Value)} (h : Cs w l) (g : w.grownBy w' o) (hne : ∀ x ∈ l, some x.1.block ≠ o) : Cs w' l := fun x hx =>
  ⟨Nat.lt_of_lt_of_le (h x hx).1 g.size, (World.cell?_of_block (a := x.1) (g.block _ (h x hx).1 (hne x hx))).trans (h x hx).2⟩

/-- .. while one is on its way. -/
structure CM (T : List TRec) (w0 w : World) (b r n D : Nat) (left : TKey → Bool) (cnt : Nat) (lv : Value) (cs : List TRec) : Prop where
  rg : RangeB Tryz.prog 82 w b r n (vKnow T) left cnt
  own : w.ownsRow D 61 7 lv cs.length (flat tenc cs)
  len : cs.length + 1 + cnt ≤ n
  fr : Below w0.heap.size w0 w
  hb : b < D
  hr : r < D
  hD : w0.heap.size ≤ D
  hw : D ≤ w.heap.size

section
variable {T cs : List TRec} {w0 w w' : World} {b r n D : Nat} {left : TKey → Bool} {cnt : Nat} {lv : Value}
theorem CM.next (h : CM T w0 w b r n D left cnt lv cs) (c : Below w.heap.size w w') : CM T w0 w' b r n D left cnt lv cs :=
  ⟨h.rg.at (c.block _ (by have := h.hb; have := h.hw; omega)) (c.block _ h.rg.lt), (Step.of_below (F := fun _ => False) c).own h.own (fun _ _ c => c), h.len, h.fr.trans (c.mono h.fr.size), h.hb, h.hr, h.hD, Nat.le_trans h.hw c.size⟩
theorem CM.more (h : CM T w0 w b r n D left cnt lv cs) {v' : Value} {x : TRec} (o : w'.ownsRow D 61 7 v' (cs.length + 1) (flat tenc cs ++ tenc x)) (g : w.grownBy w' lv.ownBlock) (_l : cs.length + 1 + cnt ≤ 1000) (co : Coll T (cs ++ [x]) left) : CR T w0 w' b r n D left cnt v' (cs ++ [x]) := by
  have hge : ∀ k, lv.ownBlock = some k → D ≤ k := fun k hk => own_ge h.own hk
  have h1 := h.hb
  have h2 := h.hr
  have h3 := h.hw
  refine ⟨h.rg.at (g.block b (by omega) (fun e => by have := hge b e.symm; omega)) (g.block r (by omega) (fun e => by have := hge r e.symm; omega)), co, ?_, by rw [List.length_append]; have := h.len; simp; omega, h.fr.grown g h.fr.size (fun k hk => by have := hge k hk; have := h.hD; omega), h.hb, h.hr, h.hD, Nat.le_trans h3 g.size⟩
  rw [List.length_append, flat_append, flat_one]
  exact o
end

set_option maxRecDepth 20000 in
set_option maxHeartbeats 3200000 in
theorem vcollect_any (T : List TRec) (b n : Nat) (w : World) (hT : VGood T 1000) (hN : ∀ x ∈ T, x.n.size ≤ 1000) (hm : MapB Tryz.prog 82 w b n (vKnow T)) (hn : n ≤ 1000)
    (hs : ∀ (cs : List TRec) (v : Value) (w1 : World), Coll T cs (fun _ => false) → w1.ownsRow w.heap.size 61 7 v cs.length (flat tenc cs) → cs.length ≤ 1000 →
      Calls Tryz.prog 77 #[v, .func (.func 78) #[] #[]] w1 fun e w2 => e = .returned (.tuple #[]) ∧ w2.ownsRow w.heap.size 61 7 v T.length (flat tenc T) ∧ w1.grownBy w2 v.ownBlock) :
    Calls Tryz.prog 27 #[.map (some b)] w fun e w' => ∃ u, e = .returned u ∧ w'.ownsRow w.heap.size 61 7 u T.length (flat tenc T) ∧ Below w.heap.size w w' := by
  have HT := Hid.of hT
  have HN := Hid.of hN
  have HS := Hid.of hs
  have HB := Hid.of hm.lt
  obtain ⟨i0, hi, hz0, hz1, hz2⟩ := info_parts recV_info
  have HI := Hid.of hi
  have HZ0 := Hid.of hz0
  have HZ1 := Hid.of hz1
  have HZ2 := Hid.of hz2
  clear hT hN hs hi hz0 hz1 hz2
  go_enter Tryz.func27, Tryz.ntmps27
  go_wp2_with (first
    | (at_range; refine wpList_range_b _ rfl _ 80 rfl 82 59 bucketKey Tryz.underlying80 b n _ rfl hm ?_; intro w2 c0 hrg0 hc0 hg0 hs0)
    | go_in)
  go_frame
  have C0 : Hid (CR T w w2 b w.heap.size n (w.heap.size + 1) (fun k => (vKnow T k).isSome) c0 (.slice none 0 0) []) := Hid.of
    ⟨hrg0, Coll.start HT.out.sorted, World.ownsRow_nil _ _ _ _, by simpa using hc0, (Below.refl w.heap.size w).grown hg0 (Nat.le_refl _) (fun j hj => by cases hj), by have := HB.out; omega, Nat.lt_succ_self _, Nat.le_succ _, by omega⟩
  obtain ⟨r0, hr0⟩ : ∃ r0, w.heap.size = r0 := ⟨_, rfl⟩
  rw [hr0] at C0 ⊢
  have HR0 := Hid.of hr0
  clear hrg0 hc0 hg0 hs0 hm hr0
  go_loopg [3, 4, 5] n (fun kx lv x4 x5 wr => ∃ (left : TKey → Bool) (cnt : Nat) (cs : List TRec), cnt ≤ kx ∧ Hid (CR T w wr b r0 n (r0 + 1) left cnt lv cs))
  case atStart => exact ⟨_, c0, [], by have := C0.out.len; simp at this; exact this, C0⟩
  case round =>
    clear C0
    obtain ⟨left, cnt, cs, hck, HC⟩ := hrel
    have hrg := HC.out.rg
    go_wp2_with (first
      | (at_next; refine wpList_next_b _ rfl _ rfl 82 bucketKey b r0 n _ left cnt rfl hrg ?_ ?_)
      | go_in)
    · intro h0 hdone
      obtain ⟨ls, hls⟩ : ∃ ls : List TRec, cs = ls := ⟨_, rfl⟩
      have hco : Coll T cs (fun _ => false) := ⟨fun x => by
        rw [HC.out.co.mem x]
        constructor
        · rintro ⟨h1, -⟩
          exact ⟨h1, rfl⟩
        · rintro ⟨h1, -⟩
          have f := HT.out.fit x h1
          exact ⟨h1, hdone _ _ ⟨f.1, f.2.1⟩⟩, HC.out.co.apart⟩
      have hcall := HS.out cs u3 wr hco (own_mono HC.out.own (by have := HC.out.hD; exact this)) (by have := HC.out.len; omega)
      obtain ⟨ua, uc, rfl, -⟩ := own_one HC.out.own
      clear hdone h0 hrg hls
      go_wp2_with fail
      refine hcall.mono ?_
      rintro e w4 ⟨rfl, o4, g4⟩
      go_wp2
      go_ret
      exact ⟨_, rfl, o4, HC.out.fr.grown g4 HC.out.fr.size (fun k hk => by have := own_ge HC.out.own hk; have := HC.out.hD; omega)⟩
    · intro s1 s2 v w3 cnt' hs hls a ha hv hrg1 hlt hg1 hs1 hen
      subst hv
      have HA := Hid.of ha
      have HK := Hid.of hs
      have hname : s1.size ≤ 281474976710656 := by
        have := HN.out _ (tGet_some ha)
        simp only at this
        omega
      have B3 : Hid (Below w.heap.size w w3) := Hid.of (HC.out.fr.grown hg1 HC.out.fr.size (fun k hk => by cases hk; exact Nat.le_of_eq HR0.out))
      have LEN : Hid (cs.length + 1 + cnt' ≤ 1000) := Hid.of (by have := HC.out.len; omega)
      have LEN2 : Hid (cs.length + 1 + cnt' ≤ n) := Hid.of (by have := HC.out.len; omega)
      have HCO : Hid (Coll T (cs ++ [⟨s1, s2, a⟩]) (fun x => left x && !decide (x = (s1, s2)))) := Hid.of (HC.out.co.more HT.out.sorted hls ha)
      obtain ⟨q, hq⟩ : ∃ q, wr.heap.size = q := ⟨_, rfl⟩
      have C3 : Hid (CM T w w3 b r0 n (r0 + 1) (fun x => left x && !decide (x = (s1, s2))) cnt' u3 cs) := Hid.of
        ⟨hrg1, vown_at HC.out.own (fun g hg => hg1.block g (HC.out.own.lt g hg).2 (fun c => by have := own_ge HC.out.own hg; have := Option.some.inj c; omega)), LEN2.out, B3.out, HC.out.hb, HC.out.hr, HC.out.hD, by have := HC.out.hw; omega⟩
      obtain ⟨w4, hw4⟩ : ∃ w4, (w3.alloc (.cells #[.string s1, .int .i64 s2] 82)).alloc (.cells #[.int .i64 a.c, .int .i64 a.hi, .int .u64 a.lo, .int .i64 a.mn, .int .i64 a.mx] 59) = w4 := ⟨_, rfl⟩
      have b4 : Below w3.heap.size w3 w4 := by rw [← hw4]; exact ((Below.refl _ _).alloc (Nat.le_refl _) _).alloc (by simp) _
      have e3 : w3.heap.size = q := hs1.trans hq
      have k1 : w4.heap[q]? = some (.cells #[.string s1, .int .i64 s2] 82 (0, 0)) := by
        rw [← hw4, ← e3]
        exact (Go.heap_alloc_old _ _ (by simp)).trans (Go.heap_alloc_new _ _)
      have k2 : w4.heap[q + 1]? = some (.cells #[.int .i64 a.c, .int .i64 a.hi, .int .u64 a.lo, .int .i64 a.mn, .int .i64 a.mx] 59 (0, 0)) := by
        rw [← hw4, ← e3]
        have h := Go.heap_alloc_new (w3.alloc (.cells #[.string s1, .int .i64 s2] 82)) (.cells #[.int .i64 a.c, .int .i64 a.hi, .int .u64 a.lo, .int .i64 a.mn, .int .i64 a.mx] 59 (0, 0))
        rw [show (w3.alloc (.cells #[.string s1, .int .i64 s2] 82)).heap.size = w3.heap.size + 1 by simp] at h
        exact h
      have l1 := (Array.getElem?_eq_some_iff.1 k1).1
      have l2 := (Array.getElem?_eq_some_iff.1 k2).1
      have CS4 : Hid (Cs w4 [(⟨q, 0, none⟩, .string s1), (⟨q, 1, none⟩, .int .i64 s2), (⟨q + 1, 0, none⟩, .int .i64 a.c), (⟨q + 1, 1, none⟩, .int .i64 a.hi), (⟨q + 1, 2, none⟩, .int .u64 a.lo), (⟨q + 1, 3, none⟩, .int .i64 a.mn), (⟨q + 1, 4, none⟩, .int .i64 a.mx)]) := Hid.of
        (.cons l1 (by simp [World.cell?, k1]) (.cons l1 (by simp [World.cell?, k1]) (.cons l2 (by simp [World.cell?, k2]) (.cons l2 (by simp [World.cell?, k2]) (.cons l2 (by simp [World.cell?, k2]) (.cons l2 (by simp [World.cell?, k2]) (.cons l2 (by simp [World.cell?, k2]) (.nil _))))))))
      have CSD := Hid.of (CS4.out.next (Below.refl _ _).drew)
      have WD := Hid.of (C3.out.next (b4.trans (((Below.refl w4.heap.size w4).drew).mono b4.size)))
      have HQ : Hid (r0 + 1 ≤ q ∧ q < w4.heap.size ∧ (∀ g, u3.ownBlock = some g → g < q)) := Hid.of ⟨by have := HC.out.hw; omega, l1, fun g hg => by have := (HC.out.own.lt g hg).2; omega⟩
      have HQE := Hid.of e3
      have HW4 := Hid.of hw4
      clear b4 k1 k2 l1 l2 e3 hq hw4 C3 CS4 B3 hrg1 hg1 hs1
      clear hs hls ha hrg HC
      go_upto_region 5 with fail
      rw [HW4.out, HQE.out]
      clear HW4 HQE hen
      have d0 := (CSD.out).head
      have d1 := ((CSD.out).tail).head
      have d2 := (((CSD.out).tail).tail).head
      have d3 := ((((CSD.out).tail).tail).tail).head
      have d4 := (((((CSD.out).tail).tail).tail).tail).head
      have d5 := ((((((CSD.out).tail).tail).tail).tail).tail).head
      have d6 := (((((((CSD.out).tail).tail).tail).tail).tail).tail).head
      refine wp_region_noPanic ?_
      refine wp_region_held_drew (S := fun w' => w'.cell? ⟨q, 0, none⟩ = some (.string s1) ∧ w'.cell? ⟨q, 1, none⟩ = some (.int .i64 s2) ∧ w'.cell? ⟨q + 1, 0, none⟩ = some (.int .i64 a.c) ∧ w'.cell? ⟨q + 1, 1, none⟩ = some (.int .i64 a.hi) ∧ w'.cell? ⟨q + 1, 2, none⟩ = some (.int .u64 a.lo) ∧ w'.cell? ⟨q + 1, 3, none⟩ = some (.int .i64 a.mn) ∧ w'.cell? ⟨q + 1, 4, none⟩ = some (.int .i64 a.mx)) (by kernel_rfl) ?_ (fun hHeld => ?_)
      · exact ⟨d0, d1, d2, d3, d4, d5, d6⟩
      refine wpAnyH_take (i := 0) (oi := ⟨_, _, _, _, _, _⟩) (v := ?_) rfl (by kernel_rfl) (by kernel_rfl) (by kernel_rfl) (fun _ _ _ h => h) (Or.inl ⟨by rfl, ?_⟩) hHeld ?_
      rotate_left
      · intro w' hSw
        try dsimp only at hSw
        go_simp
        all_goals with_reducible rfl
      simp only [Act.put, List.setIfInBounds_toArray, List.set_cons_zero, List.set_cons_succ]
      refine wpAnyH_take (i := 1) (oi := ⟨_, _, _, _, _, _⟩) (v := ?_) rfl (by kernel_rfl) (by kernel_rfl) (by kernel_rfl) (fun _ _ _ h => h) (Or.inl ⟨by rfl, ?_⟩) hHeld ?_
      rotate_left
      · intro w' hSw
        try dsimp only at hSw
        go_simp
        all_goals with_reducible rfl
      simp only [Act.put, List.setIfInBounds_toArray, List.set_cons_zero, List.set_cons_succ]
      refine wpAnyH_take (i := 2) (oi := ⟨_, _, _, _, _, _⟩) (v := ?_) rfl (by kernel_rfl) (by kernel_rfl) (by kernel_rfl) (fun _ _ _ h => h) (Or.inl ⟨by rfl, ?_⟩) hHeld ?_
      rotate_left
      · intro w' hSw
        try dsimp only at hSw
        go_simp
        all_goals with_reducible rfl
      simp only [Act.put, List.setIfInBounds_toArray, List.set_cons_zero, List.set_cons_succ]
      refine wpAnyH_take (i := 4) (oi := ⟨_, _, _, _, _, _⟩) (v := ?_) rfl (by kernel_rfl) (by kernel_rfl) (by kernel_rfl) (fun _ _ _ h => h) (Or.inl ⟨by rfl, ?_⟩) hHeld ?_
      rotate_left
      · intro w' hSw
        try dsimp only at hSw
        go_simp
        all_goals with_reducible rfl
      simp only [Act.put, List.setIfInBounds_toArray, List.set_cons_zero, List.set_cons_succ]
      refine wpAnyH_take (i := 5) (oi := ⟨_, _, _, _, _, _⟩) (v := ?_) rfl (by kernel_rfl) (by kernel_rfl) (by kernel_rfl) (fun _ _ _ h => h) (Or.inl ⟨by rfl, ?_⟩) hHeld ?_
      rotate_left
      · intro w' hSw
        try dsimp only at hSw
        go_simp
        all_goals with_reducible rfl
      simp only [Act.put, List.setIfInBounds_toArray, List.set_cons_zero, List.set_cons_succ]
      refine wpAnyH_take (i := 6) (oi := ⟨_, _, _, _, _, _⟩) (v := ?_) rfl (by kernel_rfl) (by kernel_rfl) (by kernel_rfl) (fun _ _ _ h => h) (Or.inl ⟨by rfl, ?_⟩) hHeld ?_
      rotate_left
      · intro w' hSw
        try dsimp only at hSw
        go_simp
        all_goals with_reducible rfl
      simp only [Act.put, List.setIfInBounds_toArray, List.set_cons_zero, List.set_cons_succ]
      refine wpAnyH_ready (rs := [3]) (by kernel_rfl) (by simp) ?_
      refine AllReadyH.cons (o := ⟨_, _, _, _, _, _⟩) rfl (fun K hK => ?_) AllReadyH.nil
      go_simp
      refine (Clone_any s1 _ hname).mono ?_
      rintro e w5 ⟨rfl, b5⟩
      have W5 := Hid.of (WD.out.next b5)
      have CS5 := Hid.of (CSD.out.next b5)
      clear b5 CSD WD hname
      clear hHeld d0 d1 d2 d3 d4 d5 d6
      have d0 := (CS5.out).head
      have d1 := ((CS5.out).tail).head
      have d2 := (((CS5.out).tail).tail).head
      have d3 := ((((CS5.out).tail).tail).tail).head
      have d4 := (((((CS5.out).tail).tail).tail).tail).head
      have d5 := ((((((CS5.out).tail).tail).tail).tail).tail).head
      have d6 := (((((((CS5.out).tail).tail).tail).tail).tail).tail).head
      refine hK.out _ _ ⟨d0, d1, d2, d3, d4, d5, d6⟩ (fun hHeld => ?_)
      clear hK K
      try simp only [Act.put, List.setIfInBounds_toArray, List.set_cons_zero, List.set_cons_succ]
      refine wpAnyH_take (i := 7) (oi := ⟨_, _, _, _, _, _⟩) (v := ?_) rfl (by kernel_rfl) (by kernel_rfl) (by kernel_rfl) (fun _ _ _ h => h) (Or.inl ⟨by rfl, ?_⟩) hHeld ?_
      rotate_left
      · intro w' hSw
        try dsimp only at hSw
        go_simp
        all_goals with_reducible rfl
      simp only [Act.put, List.setIfInBounds_toArray, List.set_cons_zero, List.set_cons_succ]
      refine wpAnyH_ready (rs := [8]) (by kernel_rfl) (by simp) ?_
      refine AllReadyH.cons (o := ⟨_, _, _, _, _, _⟩) rfl (fun K hK => ?_) AllReadyH.nil
      go_simp
      obtain ⟨w6, hw6⟩ : ∃ w6, w5.alloc (.cells #[.string s1, .int .i64 s2, .int .i64 a.c, .int .i64 a.hi, .int .u64 a.lo, .int .i64 a.mn, .int .i64 a.mx] 61) = w6 := ⟨_, rfl⟩
      have b6 : Below w5.heap.size w5 w6 := by rw [← hw6]; exact (Below.refl _ _).alloc (Nat.le_refl _) _
      have K6 : Hid (Cells w6 w5.heap.size 0 (tenc ⟨s1, s2, a⟩)) := Hid.of (by rw [← hw6]; exact new_cells w5 #[.string s1, .int .i64 s2, .int .i64 a.c, .int .i64 a.hi, .int .u64 a.lo, .int .i64 a.mn, .int .i64 a.mx] _)
      have W6 := Hid.of (W5.out.next b6)
      have CS6 := Hid.of (CS5.out.next b6)
      rw [hw6]
      clear hw6 b6 W5 CS5
      clear hHeld d0 d1 d2 d3 d4 d5 d6
      have d0 := (CS6.out).head
      have d1 := ((CS6.out).tail).head
      have d2 := (((CS6.out).tail).tail).head
      have d3 := ((((CS6.out).tail).tail).tail).head
      have d4 := (((((CS6.out).tail).tail).tail).tail).head
      have d5 := ((((((CS6.out).tail).tail).tail).tail).tail).head
      have d6 := (((((((CS6.out).tail).tail).tail).tail).tail).tail).head
      refine hK.out _ _ ⟨d0, d1, d2, d3, d4, d5, d6⟩ (fun hHeld => ?_)
      clear hK K
      try simp only [Act.put, List.setIfInBounds_toArray, List.set_cons_zero, List.set_cons_succ]
      refine wpAnyH_ready (rs := [9]) (by kernel_rfl) (by simp) ?_
      refine AllReadyH.cons (o := ⟨_, _, _, _, _, _⟩) rfl (fun K hK => ?_) AllReadyH.nil
      refine step_append_keep rfl (.tmp 13) (.tmp 21) 49 rfl (r0 + 1) 61 i0 _ 7 64 Tryz.underlying49 HI.out HZ0.out HZ1.out HZ2.out rfl (by decide) u3 cs.length (flat tenc cs) (by simp [Act.eval]) W6.out.own w5.heap.size 0 1 1 (tenc ⟨s1, s2, a⟩) (by simp [Act.eval]) K6.out rfl (tenc_one _) (by have := LEN.out; unfold maxLen; omega) (by have := LEN.out; omega) W6.out.hw ?_
      intro v7 w7 o7 g7 _ m7
      have W7 : Hid (CR T w w7 b r0 n (r0 + 1) (fun x => left x && !decide (x = (s1, s2))) cnt' v7 (cs ++ [⟨s1, s2, a⟩])) := Hid.of (W6.out.more o7 g7 LEN.out HCO.out)
      have CS7 := Hid.of (CS6.out.vgrown g7 (fun x hx c => by have h2 := HQ.out.2.2 _ c.symm; simp only [List.mem_cons, List.not_mem_nil, or_false] at hx; rcases hx with rfl | rfl | rfl | rfl | rfl | rfl | rfl <;> simp only at h2 <;> omega))
      clear o7 g7 m7 W6 CS6 K6
      clear hHeld d0 d1 d2 d3 d4 d5 d6
      have d0 := (CS7.out).head
      have d1 := ((CS7.out).tail).head
      have d2 := (((CS7.out).tail).tail).head
      have d3 := ((((CS7.out).tail).tail).tail).head
      have d4 := (((((CS7.out).tail).tail).tail).tail).head
      have d5 := ((((((CS7.out).tail).tail).tail).tail).tail).head
      have d6 := (((((((CS7.out).tail).tail).tail).tail).tail).tail).head
      refine hK.out _ _ ⟨d0, d1, d2, d3, d4, d5, d6⟩ (fun hHeld => ?_)
      clear hK K
      try simp only [Act.put, List.setIfInBounds_toArray, List.set_cons_zero, List.set_cons_succ]
      refine wpAnyH_take (i := 10) (oi := ⟨_, _, _, _, _, _⟩) (v := ?_) rfl (by kernel_rfl) (by kernel_rfl) (by kernel_rfl) (fun _ _ _ h => h) (Or.inl ⟨by rfl, ?_⟩) hHeld ?_
      rotate_left
      · intro w' hSw
        try dsimp only at hSw
        go_simp
        all_goals with_reducible rfl
      simp only [Act.put, List.setIfInBounds_toArray, List.set_cons_zero, List.set_cons_succ]
      refine wpAnyH_done (by kernel_rfl) ?_ _
      refine NoPanic.normal ?_
      clear hHeld
      go_wp2
      go_roundg cnt'
      case measure => omega
      case rel => exact ⟨_, cnt', _, Nat.le_refl _, W7⟩

end Go.Proofs.YtdchjcidfaencaaGreat
