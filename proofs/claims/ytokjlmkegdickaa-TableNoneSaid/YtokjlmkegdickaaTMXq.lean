/-
  What statement TableNone answers: true, for every input.
-/
import Derived.Deep.RegionHeld3
import Derived.Test.YtokjlmkegdickaaTMWq
import Derived.Test.YtokjlmkegdickaaQ24
import Derived.Test.YtokjlmkegdickaaBOq
namespace Go.Proofs.Ytokjlmkegdickaa
open Go.RowKit Go.Lib

theorem takes_nil (x : TRec) (w : World) : Calls Try.prog 32 #[.pointer none, rcv x] w fun r w' => r = .returned (.bool false) ∧ Below w.heap.size w w' := by
  have B1 : Below w.heap.size w (w.alloc (.cells #[.string x.n, .int .i64 x.s, .int .i64 x.a.c, .int .i64 x.a.hi, .int .u64 x.a.lo, .int .i64 x.a.mn, .int .i64 x.a.mx] 26)) := (Below.refl _ _).alloc (Nat.le_refl _) _
  obtain ⟨w1, hw1⟩ : ∃ w1, w.alloc (.cells #[.string x.n, .int .i64 x.s, .int .i64 x.a.c, .int .i64 x.a.hi, .int .u64 x.a.lo, .int .i64 x.a.mn, .int .i64 x.a.mx] 26) = w1 := ⟨_, rfl⟩
  have HW := Hid.of hw1
  rw [hw1] at B1
  have HB := Hid.of B1
  clear hw1 B1
  go_enter Try.func32, Try.ntmps32
  go_upto_region 1 with fail
  rw [HW.out]
  clear HW
  refine wp_region_noPanic ?_
  refine wp_region_held_drew (S := fun _ => True) (by kernel_rfl) trivial (fun hHeld => ?_)
  refine wpAnyH_take (i := 0) (oi := ⟨_, _, _, _, _, _⟩) (v := ?_) rfl (by kernel_rfl) (by kernel_rfl) (by kernel_rfl) (fun _ _ _ h => h) (Or.inl ⟨by rfl, ?_⟩) hHeld ?_
  rotate_left
  · intro w' hSw
    try dsimp only at hSw
    go_simp
    all_goals with_reducible rfl
  simp only [Act.put, List.setIfInBounds_toArray, List.set_cons_zero, List.set_cons_succ]
  refine wpAnyH_take (i := 1) (oi := ⟨_, _, _, _, _, _⟩) (v := ?_) rfl (by kernel_rfl) (by kernel_rfl) (by kernel_rfl) (fun _ _ _ h => h) (Or.inl ⟨by rfl, ?_⟩) hHeld ?_
  rotate_left
  · intro w' hSw
    try dsimp only at hSw
    go_simp
    all_goals with_reducible rfl
  simp only [Act.put, List.setIfInBounds_toArray, List.set_cons_zero, List.set_cons_succ]
  refine wpAnyH_take (i := 2) (oi := ⟨_, _, _, _, _, _⟩) (v := ?_) rfl (by kernel_rfl) (by kernel_rfl) (by kernel_rfl) (fun _ _ _ h => h) (Or.inl ⟨by rfl, ?_⟩) hHeld ?_
  rotate_left
  · intro w' hSw
    try dsimp only at hSw
    go_simp
    all_goals with_reducible rfl
  simp only [Act.put, List.setIfInBounds_toArray, List.set_cons_zero, List.set_cons_succ]
  refine wpAnyH_take (i := 3) (oi := ⟨_, _, _, _, _, _⟩) (v := undef) rfl (by kernel_rfl) (by kernel_rfl) (by kernel_rfl) (fun _ _ _ h => h) (Or.inr ⟨by rfl, rfl⟩) hHeld ?_
  simp only [Act.put, List.setIfInBounds_toArray, List.set_cons_zero, List.set_cons_succ]
  refine wpAnyH_take (i := 4) (oi := ⟨_, _, _, _, _, _⟩) (v := undef) rfl (by kernel_rfl) (by kernel_rfl) (by kernel_rfl) (fun _ _ _ h => h) (Or.inr ⟨by rfl, rfl⟩) hHeld ?_
  simp only [Act.put, List.setIfInBounds_toArray, List.set_cons_zero, List.set_cons_succ]
  refine wpAnyH_take (i := 5) (oi := ⟨_, _, _, _, _, _⟩) (v := undef) rfl (by kernel_rfl) (by kernel_rfl) (by kernel_rfl) (fun _ _ _ h => h) (Or.inr ⟨by rfl, rfl⟩) hHeld ?_
  simp only [Act.put, List.setIfInBounds_toArray, List.set_cons_zero, List.set_cons_succ]
  refine wpAnyH_take (i := 6) (oi := ⟨_, _, _, _, _, _⟩) (v := undef) rfl (by kernel_rfl) (by kernel_rfl) (by kernel_rfl) (fun _ _ _ h => h) (Or.inr ⟨by rfl, rfl⟩) hHeld ?_
  simp only [Act.put, List.setIfInBounds_toArray, List.set_cons_zero, List.set_cons_succ]
  refine wpAnyH_take (i := 7) (oi := ⟨_, _, _, _, _, _⟩) (v := ?_) rfl (by kernel_rfl) (by kernel_rfl) (by kernel_rfl) (fun _ _ _ h => h) (Or.inl ⟨by rfl, ?_⟩) hHeld ?_
  rotate_left
  · intro w' hSw
    try dsimp only at hSw
    go_simp
    all_goals with_reducible rfl
  simp only [Act.put, List.setIfInBounds_toArray, List.set_cons_zero, List.set_cons_succ]
  refine wpAnyH_take (i := 8) (oi := ⟨_, _, _, _, _, _⟩) (v := ?_) rfl (by kernel_rfl) (by kernel_rfl) (by kernel_rfl) (fun _ _ _ h => h) (Or.inl ⟨by rfl, ?_⟩) hHeld ?_
  rotate_left
  · intro w' hSw
    try dsimp only at hSw
    go_simp
    all_goals with_reducible rfl
  simp only [Act.put, List.setIfInBounds_toArray, List.set_cons_zero, List.set_cons_succ]
  refine wpAnyH_take (i := 9) (oi := ⟨_, _, _, _, _, _⟩) (v := undef) rfl (by kernel_rfl) (by kernel_rfl) (by kernel_rfl) (fun _ _ _ h => h) (Or.inr ⟨by rfl, rfl⟩) hHeld ?_
  simp only [Act.put, List.setIfInBounds_toArray, List.set_cons_zero, List.set_cons_succ]
  refine wpAnyH_take (i := 10) (oi := ⟨_, _, _, _, _, _⟩) (v := undef) rfl (by kernel_rfl) (by kernel_rfl) (by kernel_rfl) (fun _ _ _ h => h) (Or.inr ⟨by rfl, rfl⟩) hHeld ?_
  simp only [Act.put, List.setIfInBounds_toArray, List.set_cons_zero, List.set_cons_succ]
  refine wpAnyH_take (i := 11) (oi := ⟨_, _, _, _, _, _⟩) (v := undef) rfl (by kernel_rfl) (by kernel_rfl) (by kernel_rfl) (fun _ _ _ h => h) (Or.inr ⟨by rfl, rfl⟩) hHeld ?_
  simp only [Act.put, List.setIfInBounds_toArray, List.set_cons_zero, List.set_cons_succ]
  refine wpAnyH_take (i := 12) (oi := ⟨_, _, _, _, _, _⟩) (v := ?_) rfl (by kernel_rfl) (by kernel_rfl) (by kernel_rfl) (fun _ _ _ h => h) (Or.inl ⟨by rfl, ?_⟩) hHeld ?_
  rotate_left
  · intro w' hSw
    try dsimp only at hSw
    go_simp
    all_goals with_reducible rfl
  simp only [Act.put, List.setIfInBounds_toArray, List.set_cons_zero, List.set_cons_succ]
  refine wpAnyH_take (i := 13) (oi := ⟨_, _, _, _, _, _⟩) (v := ?_) rfl (by kernel_rfl) (by kernel_rfl) (by kernel_rfl) (fun _ _ _ h => h) (Or.inl ⟨by rfl, ?_⟩) hHeld ?_
  rotate_left
  · intro w' hSw
    try dsimp only at hSw
    go_simp
    all_goals with_reducible rfl
  simp only [Act.put, List.setIfInBounds_toArray, List.set_cons_zero, List.set_cons_succ]
  refine wpAnyH_take (i := 14) (oi := ⟨_, _, _, _, _, _⟩) (v := undef) rfl (by kernel_rfl) (by kernel_rfl) (by kernel_rfl) (fun _ _ _ h => h) (Or.inr ⟨by rfl, rfl⟩) hHeld ?_
  simp only [Act.put, List.setIfInBounds_toArray, List.set_cons_zero, List.set_cons_succ]
  refine wpAnyH_take (i := 15) (oi := ⟨_, _, _, _, _, _⟩) (v := undef) rfl (by kernel_rfl) (by kernel_rfl) (by kernel_rfl) (fun _ _ _ h => h) (Or.inr ⟨by rfl, rfl⟩) hHeld ?_
  simp only [Act.put, List.setIfInBounds_toArray, List.set_cons_zero, List.set_cons_succ]
  refine wpAnyH_take (i := 16) (oi := ⟨_, _, _, _, _, _⟩) (v := undef) rfl (by kernel_rfl) (by kernel_rfl) (by kernel_rfl) (fun _ _ _ h => h) (Or.inr ⟨by rfl, rfl⟩) hHeld ?_
  simp only [Act.put, List.setIfInBounds_toArray, List.set_cons_zero, List.set_cons_succ]
  refine wpAnyH_take (i := 17) (oi := ⟨_, _, _, _, _, _⟩) (v := undef) rfl (by kernel_rfl) (by kernel_rfl) (by kernel_rfl) (fun _ _ _ h => h) (Or.inr ⟨by rfl, rfl⟩) hHeld ?_
  simp only [Act.put, List.setIfInBounds_toArray, List.set_cons_zero, List.set_cons_succ]
  refine wpAnyH_take (i := 18) (oi := ⟨_, _, _, _, _, _⟩) (v := undef) rfl (by kernel_rfl) (by kernel_rfl) (by kernel_rfl) (fun _ _ _ h => h) (Or.inr ⟨by rfl, rfl⟩) hHeld ?_
  simp only [Act.put, List.setIfInBounds_toArray, List.set_cons_zero, List.set_cons_succ]
  refine wpAnyH_take (i := 19) (oi := ⟨_, _, _, _, _, _⟩) (v := undef) rfl (by kernel_rfl) (by kernel_rfl) (by kernel_rfl) (fun _ _ _ h => h) (Or.inr ⟨by rfl, rfl⟩) hHeld ?_
  simp only [Act.put, List.setIfInBounds_toArray, List.set_cons_zero, List.set_cons_succ]
  refine wpAnyH_take (i := 20) (oi := ⟨_, _, _, _, _, _⟩) (v := undef) rfl (by kernel_rfl) (by kernel_rfl) (by kernel_rfl) (fun _ _ _ h => h) (Or.inr ⟨by rfl, rfl⟩) hHeld ?_
  simp only [Act.put, List.setIfInBounds_toArray, List.set_cons_zero, List.set_cons_succ]
  refine wpAnyH_take (i := 21) (oi := ⟨_, _, _, _, _, _⟩) (v := ?_) rfl (by kernel_rfl) (by kernel_rfl) (by kernel_rfl) (fun _ _ _ h => h) (Or.inl ⟨by rfl, ?_⟩) hHeld ?_
  rotate_left
  · intro w' hSw
    try dsimp only at hSw
    go_simp
    all_goals with_reducible rfl
  simp only [Act.put, List.setIfInBounds_toArray, List.set_cons_zero, List.set_cons_succ]
  refine wpAnyH_take (i := 22) (oi := ⟨_, _, _, _, _, _⟩) (v := ?_) rfl (by kernel_rfl) (by kernel_rfl) (by kernel_rfl) (fun _ _ _ h => h) (Or.inl ⟨by rfl, ?_⟩) hHeld ?_
  rotate_left
  · intro w' hSw
    try dsimp only at hSw
    go_simp
    all_goals with_reducible rfl
  simp only [Act.put, List.setIfInBounds_toArray, List.set_cons_zero, List.set_cons_succ]
  refine wpAnyH_take (i := 23) (oi := ⟨_, _, _, _, _, _⟩) (v := undef) rfl (by kernel_rfl) (by kernel_rfl) (by kernel_rfl) (fun _ _ _ h => h) (Or.inr ⟨by rfl, rfl⟩) hHeld ?_
  simp only [Act.put, List.setIfInBounds_toArray, List.set_cons_zero, List.set_cons_succ]
  refine wpAnyH_take (i := 24) (oi := ⟨_, _, _, _, _, _⟩) (v := undef) rfl (by kernel_rfl) (by kernel_rfl) (by kernel_rfl) (fun _ _ _ h => h) (Or.inr ⟨by rfl, rfl⟩) hHeld ?_
  simp only [Act.put, List.setIfInBounds_toArray, List.set_cons_zero, List.set_cons_succ]
  refine wpAnyH_take (i := 25) (oi := ⟨_, _, _, _, _, _⟩) (v := undef) rfl (by kernel_rfl) (by kernel_rfl) (by kernel_rfl) (fun _ _ _ h => h) (Or.inr ⟨by rfl, rfl⟩) hHeld ?_
  simp only [Act.put, List.setIfInBounds_toArray, List.set_cons_zero, List.set_cons_succ]
  refine wpAnyH_take (i := 26) (oi := ⟨_, _, _, _, _, _⟩) (v := ?_) rfl (by kernel_rfl) (by kernel_rfl) (by kernel_rfl) (fun _ _ _ h => h) (Or.inl ⟨by rfl, ?_⟩) hHeld ?_
  rotate_left
  · intro w' hSw
    try dsimp only at hSw
    go_simp
    all_goals with_reducible rfl
  simp only [Act.put, List.setIfInBounds_toArray, List.set_cons_zero, List.set_cons_succ]
  refine wpAnyH_take (i := 27) (oi := ⟨_, _, _, _, _, _⟩) (v := ?_) rfl (by kernel_rfl) (by kernel_rfl) (by kernel_rfl) (fun _ _ _ h => h) (Or.inl ⟨by rfl, ?_⟩) hHeld ?_
  rotate_left
  · intro w' hSw
    try dsimp only at hSw
    go_simp
    all_goals with_reducible rfl
  simp only [Act.put, List.setIfInBounds_toArray, List.set_cons_zero, List.set_cons_succ]
  refine wpAnyH_done (by kernel_rfl) ?_ _
  refine NoPanic.normal ?_
  go_wp2
  go_ret
  exact ⟨rfl, HB.out.drew⟩

theorem takes_no {w : World} {tv : Value} (x : TRec) (hx : TFit x) (h : NoT w tv) : Calls Try.prog 32 #[tv, rcv x] w fun r w' => r = .returned (.bool false) ∧ Below w.heap.size w w' := by
  rcases h with rfl | ⟨z, rfl, hz⟩
  · exact takes_nil x w
  · have hc : w.cell? ⟨z, 0, none⟩ = some (.int .i64 0) := by simp [World.cell?, hz]
    have := takes_at hc (Array.getElem?_eq_some_iff.1 hz).1 x hx
    rw [show tOk 0 x = false by unfold tOk gOn; simp] at this
    exact this

theorem one_at {α : Type} (x : α) {j : Nat} (h : j = 0) : [x][j]? = some x := by subst h; rfl

theorem one_rec (w : World) (x : TRec) (t : TypeId) : CellRow (w.alloc (.cells #[.string x.n, .int .i64 x.s, .int .i64 x.a.c, .int .i64 x.a.hi, .int .u64 x.a.lo, .int .i64 x.a.mn, .int .i64 x.a.mx] t)) (.slice (some ⟨w.heap.size, 0, none⟩) 1 1) 1 (flat renc [rl x]) := by
  refine ⟨_, 1, rfl, .inr ⟨_, 0, rfl, by simp, ?_⟩⟩
  rw [flat_one]
  exact new_cells w _ t

set_option maxHeartbeats 3200000 in
set_option maxRecDepth 20000 in
theorem tadd_no {w : World} {tv : Value} (v : Value) (x : TRec) (hx : TFit x) (hv : CellRow w v 1 (flat renc [rl x])) (h : NoT w tv) :
    Calls Try.prog 11 #[tv, v] w fun r w' => r = .returned (.int .i64 0) ∧ Below w.heap.size w w' := by
  have HV := Hid.of hv
  have HX := Hid.of hx
  have HT := Hid.of h
  obtain ⟨va, vc, rfl, -⟩ := hv
  have hmk := run_makeMap (P := Try.prog) 65 w
  clear hx h
  go_enter Try.func11, Try.ntmps11
  go_upto_region 3 with fail
  obtain ⟨fb, hfb⟩ : ∃ fb, w.heap.size = fb := ⟨_, rfl⟩
  obtain ⟨w1, hw1⟩ : ∃ w1, w.alloc (.map #[] 0) = w1 := ⟨_, rfl⟩
  have M1 : Hid (TMap w1 fb 0 (fun _ => none)) := Hid.of (by rw [← hw1, ← hfb]; exact MapIs.made w)
  have B1 : Hid (Below w.heap.size w w1) := Hid.of (by rw [← hw1]; exact (Below.refl _ _).alloc (Nat.le_refl _) _)
  rw [hw1, hfb]
  clear hmk hw1 hfb
  go_wp2
  go_loopg [5, 14] 1 (fun kx nv iv wr => ∃ j : Nat, nv = .int .i64 0 ∧ iv = .int .i64 j ∧ j ≤ 1 ∧ 1 - j ≤ kx ∧ Hid (TMap wr fb 0 (fun _ => none)) ∧ Hid (Below w.heap.size w wr))
  case atStart => exact ⟨0, rfl, rfl, Nat.zero_le _, Nat.le_refl _, M1, B1⟩
  case round =>
    clear M1 B1
    obtain ⟨j, rfl, rfl, hjn, hkx, HM, HB⟩ := hrel
    by_cases hlt : (j : Int) < 1
    · obtain ⟨b1, o1, rfl, hb1, c0, c1, c2, c3, c4, c5, c6⟩ := r_at (HV.out.kept HB.out) j (rl x) (one_at (rl x) (by omega))
      have d0 : wr.cell? ⟨b1, o1 + j * 7, none⟩ = some (.string x.n) := c0
      have d1 : wr.cell? ⟨b1, o1 + j * 7 + 1, none⟩ = some (.int .i64 x.s) := c1
      have d2 : wr.cell? ⟨b1, o1 + j * 7 + 2, none⟩ = some (.int .i64 x.a.c) := c2
      have d3 : wr.cell? ⟨b1, o1 + j * 7 + 3, none⟩ = some (.int .i64 x.a.hi) := c3
      have d4 : wr.cell? ⟨b1, o1 + j * 7 + 4, none⟩ = some (.int .u64 x.a.lo) := c4
      have d5 : wr.cell? ⟨b1, o1 + j * 7 + 5, none⟩ = some (.int .i64 x.a.mn) := c5
      have d6 : wr.cell? ⟨b1, o1 + j * 7 + 6, none⟩ = some (.int .i64 x.a.mx) := c6
      have hj0 : (0 : Int) ≤ (j : Int) := by omega
      have HJN : Hid (j < 1) := Hid.of (by omega)
      clear c0 c1 c2 c3 c4 c5 c6 hb1
      go_upto_region 6 with fail
      obtain ⟨q, hq⟩ : ∃ q, wr.heap.size = q := ⟨_, rfl⟩
      obtain ⟨w2, hw2⟩ : ∃ w2, wr.alloc (.cells #[.string x.n, .int .i64 x.s, .int .i64 x.a.c, .int .i64 x.a.hi, .int .u64 x.a.lo, .int .i64 x.a.mn, .int .i64 x.a.mx] 26) = w2 := ⟨_, rfl⟩
      have b2 : Below wr.heap.size wr w2 := by rw [← hw2]; exact (Below.refl _ _).alloc (Nat.le_refl _) _
      have BX2 : Hid (RBox w2 q x) := Hid.of (by rw [← hw2, ← hq]; exact (MapKept.heap_alloc wr _).1)
      have HB2 := Hid.of (HB.out.trans (b2.mono HB.out.size))
      have HM2 := Hid.of (HM.out.at (b2.block fb HM.out.lt))
      rw [hw2, hq]
      have htk := takes_no x HX.out (HT.out.next HB2.out)
      obtain ⟨y0, y1, y2, y3, y4, y5, y6⟩ := BX2.out.at
      clear hw2 hq b2 HM HB d0 d1 d2 d3 d4 d5 d6
      go_wp2_with fail
      refine htk.mono ?_
      rintro r w3 ⟨rfl, b3⟩
      have HB3 := Hid.of (HB2.out.trans (b3.mono HB2.out.size))
      have HM3 := Hid.of (HM2.out.at (b3.block fb HM2.out.lt))
      clear htk b3 y0 y1 y2 y3 y4 y5 y6
      go_wp2
      go_roundg (1 - (j + 1))
      case measure => have := HJN.out; omega
      case rel => exact ⟨j + 1, rfl, by go_num, HJN.out, Nat.le_refl _, HM3, HB3⟩
    · have hmf := HM.out
      go_wp2_with (first
        | (at_range; refine wpList_range_text _ rfl _ 65 rfl 9 58 kT fT fb 0 _ rfl hmf ?_; intro w4 c4 hrg4 hc4 hg4 hs4)
        | go_in)
      generalize hwq : wr = wq at *
      obtain ⟨r0, hr0⟩ : ∃ r0, wq.heap.size = r0 := ⟨_, rfl⟩
      rw [hr0] at hrg4 ⊢
      have HB4 := Hid.of (HB.out.grown hg4 HB.out.size (fun j hj => by cases hj))
      have RG4 := Hid.of hrg4
      clear hmf hrg4 hg4 hs4 hr0
      go_loopg [] 0 (fun kx wz => wz = w4)
      case atStart => rfl
      case round =>
        obtain rfl := hrel
        have hrg := RG4.out
        go_wp2_with (first
          | (at_next; refine wpList_next_text _ rfl _ rfl 9 kT fb r0 0 _ _ c4 rfl hrg ?_ ?_)
          | go_in)
        clear hrg
        intro h0
        clear h0
        go_wp2
        go_ret
        exact ⟨rfl, HB4.out⟩

theorem RBox.next {w w' : World} {q : Nat} {x : TRec} (h : RBox w q x) (b : Below w.heap.size w w') : RBox w' q x := (b.block q (Array.getElem?_eq_some_iff.1 h).1).trans h

/-- A slice that has one record; one that has nothing. -/
def Fact.one (x : TRec) : Fact := ⟨fun w v => CellRow w v 1 (flat renc [rl x]), fun hb h => h.kept hb⟩
def Fact.none0 : Fact := ⟨fun _ v => ∃ a c, v = .slice a 0 c, fun _ h => h⟩

set_option maxHeartbeats 6400000 in
set_option maxRecDepth 100000 in
theorem tableNone_main (S : TableSpec) (x : TRec) (n : Int) (w : World) (hx : TFit x) :
    Calls Try.prog 3 #[rcv x, .int .i64 n] w fun e w' => e = .returned (.bool true) ∧ Below w.heap.size w w' := by
  have HX := Hid.of hx
  obtain ⟨q, hq⟩ : ∃ q, w.heap.size = q := ⟨_, rfl⟩
  obtain ⟨w1, hw1⟩ : ∃ w1, w.alloc (.cells #[.string x.n, .int .i64 x.s, .int .i64 x.a.c, .int .i64 x.a.hi, .int .u64 x.a.lo, .int .i64 x.a.mn, .int .i64 x.a.mx] 26) = w1 := ⟨_, rfl⟩
  have BX1 : Hid (RBox w1 q x) := Hid.of (by rw [← hw1, ← hq]; exact (MapKept.heap_alloc w _).1)
  have B1 : Hid (Below w.heap.size w w1) := Hid.of (by rw [← hw1]; exact (Below.refl _ _).alloc (Nat.le_refl _) _)
  have HW := Hid.of hw1
  have HQ := Hid.of hq
  clear hx hw1 hq
  obtain ⟨y0, y1, y2, y3, y4, y5, y6⟩ := BX1.out.at
  by_cases hs : (60 : Int) < (x.n.size : Int)
  · go_enter Try.func3, Try.ntmps3
    go_upto_region 1 with fail
    rw [HW.out, HQ.out]
    clear HW HQ
    go_wp2_with fail
    refine (tableAlive_any S _).mono ?_
    rintro e w2 ⟨rfl, b2⟩
    have B2 := Hid.of (B1.out.trans (b2.mono B1.out.size))
    go_wp2
    go_ret
    exact ⟨rfl, B2.out⟩
  · go_enter Try.func3, Try.ntmps3
    go_upto_region 1 with fail
    rw [HW.out, HQ.out]
    clear HW HQ
    go_wp2_with fail
    obtain ⟨z, hz⟩ : ∃ z, w1.heap.size = z := ⟨_, rfl⟩
    obtain ⟨w2, hw2⟩ : ∃ w2, w1.alloc (.cells #[.int .i64 0, .map none] 31) = w2 := ⟨_, rfl⟩
    have b2 : Below w1.heap.size w1 w2 := by rw [← hw2]; exact (Below.refl _ _).alloc (Nat.le_refl _) _
    have Z2 : Hid (NoT w2 (tptr z)) := Hid.of (.inr ⟨z, rfl, by rw [← hw2, ← hz]; exact (MapKept.heap_alloc w1 _).1⟩)
    have X2 := Hid.of (BX1.out.next b2)
    have B2 := Hid.of (B1.out.trans (b2.mono B1.out.size))
    rw [hw2, hz]
    clear hw2 hz b2 BX1 B1 y0 y1 y2 y3 y4 y5 y6
    refine (find_no ⟨#[97]⟩ n (by decide) (.inl rfl)).mono ?_
    rintro e w3 ⟨rfl, b3⟩
    have Z3 := Hid.of (Z2.out.next b3)
    have X3 := Hid.of (X2.out.next b3)
    have B3 := Hid.of (B2.out.trans (b3.mono B2.out.size))
    clear b3 Z2 X2 B2
    go_wp2_with fail
    obtain ⟨w4, hw4⟩ : ∃ w4, w3.alloc (.cells #[.int .i64 agZero.c, .int .i64 agZero.hi, .int .u64 agZero.lo, .int .i64 agZero.mn, .int .i64 agZero.mx] 24) = w4 := ⟨_, rfl⟩
    have b4 : Below w3.heap.size w3 w4 := by rw [← hw4]; exact (Below.refl _ _).alloc (Nat.le_refl _) _
    have Z4 := Hid.of (Z3.out.next b4)
    have X4 := Hid.of (X3.out.next b4)
    have B4 := Hid.of (B3.out.trans (b4.mono B3.out.size))
    rw [hw4]
    clear hw4 b4 Z3 X3 B3
    try simp only [List.append]
    refine wp_region_freely (by kernel_rfl) (fun i => List.getD [(Fact.is (.bool true)), (Fact.is (.bool true)), (Fact.is (.pointer none)), (Fact.is (rcv x)), (Fact.one x), (Fact.is (.int .i64 0)), (Fact.is (.pointer none)), (Fact.is (.int .i64 n)), (Fact.is (.int .i64 0)), (Fact.is (.int .i64 0)), (Fact.is (.pointer none)), (Fact.is (.int .i64 n)), (Fact.is (.int .i64 0)), (Fact.is (.int .i64 0)), (Fact.is (.pointer none)), (Fact.is (.int .i64 n)), (Fact.is (.int .i64 0)), (Fact.is (.int .i64 0)), (Fact.is (.pointer none)), (Fact.is (.int .i64 0)), (Fact.is (.int .i64 0)), (Fact.is (.pointer (some ⟨z, 0, none⟩))), (Fact.is (rcv x)), (Fact.one x), (Fact.is (.int .i64 0)), (Fact.is (.int .i64 0)), (Fact.is (.pointer (some ⟨z, 0, none⟩))), (Fact.is (.int .i64 0)), (Fact.is (.int .i64 0)), (Fact.is (.bool true)), (Fact.is (.bool true)), (Fact.is (.bool true)), (Fact.is (.bool false)), (Fact.is (.bool true)), (Fact.is (.bool true)), (Fact.is (.bool true)), (Fact.is (.pointer none)), (Fact.is (.int .i64 n)), (Fact.none0), (Fact.is (.int .i64 0)), (Fact.is (.pointer none)), (Fact.is (.slice none 0 0)), (Fact.is (.int .i64 0)), (Fact.is (.int .i64 0)), (Fact.is (.pointer none)), (Fact.none0), (Fact.is (.int .i64 0)), (Fact.is (.int .i64 0)), (Fact.is (.pointer none)), (Fact.is (.int .i64 n)), (Fact.is (.slice none 0 0)), (Fact.is (.int .i64 0)), (Fact.is (.int .i64 0)), (Fact.is (.pointer (some ⟨z, 0, none⟩))), (Fact.is (.slice none 0 0)), (Fact.is (.int .i64 0)), (Fact.is (.int .i64 0)), (Fact.is (.bool true)), (Fact.is (.bool true)), (Fact.is (.bool true)), (Fact.is (.pointer none)), (Fact.is (.pointer none)), (Fact.is (.bool true)), (Fact.is (.bool true)), (Fact.is (.bool true)), (Fact.is (.pointer none)), (Fact.is (.pointer none)), (Fact.is (.bool true)), (Fact.is (.bool true)), (Fact.is (.bool true))] i Fact.any) (by kernel_rfl) (steps_of ?_) ?_
    refine ⟨?_, ?_, ?_, ?_, ?_, ?_, ?_, ?_, ?_, ?_, ?_, ?_, ?_, ?_, ?_, ?_, ?_, ?_, ?_, ?_, ?_, ?_, ?_, ?_, ?_, ?_, ?_, ?_, ?_, ?_, ?_, ?_, ?_, ?_, ?_, ?_, ?_, ?_, ?_, ?_, ?_, ?_, ?_, ?_, ?_, ?_, ?_, ?_, ?_, ?_, ?_, ?_, ?_, ?_, ?_, ?_, ?_, ?_, ?_, ?_, ?_, ?_, ?_, ?_, ?_, ?_, ?_, ?_, ?_, ?_, trivial⟩
    · -- 0: Op.call { value (Operand.func 9), args := #[], argTypes := #[] }
      intro a1 w1 hb hag hdep
      have H0 := Hid.of ((Below.refl _ _).drew.trans hb)
      refine ⟨wanted_plain rfl, ?_⟩
      clear hag hdep hb
      unfold Oper.wp
      go_simp
      refine (tableAlive_any S _).mono ?_
      rintro e w2 ⟨rfl, b2⟩
      exact ⟨_, rfl, b2, rfl⟩
    · -- 1: Op.move t22
      intro a1 w1 hb hag hdep
      have H0 := Hid.of ((Below.refl _ _).drew.trans hb)
      obtain ⟨x22, e22, f22⟩ := hdep 0 22 (by kernel_rfl) (by kernel_rfl)
      obtain rfl : x22 = (.bool true) := f22
      refine ⟨wanted_plain rfl, ?_⟩
      clear hag hdep hb
      unfold Oper.wp
      go_simp
      exact ⟨_, rfl, Below.refl _ _, rfl⟩
    · -- 2: Op.move t5
      intro a1 w1 hb hag hdep
      have H0 := Hid.of ((Below.refl _ _).drew.trans hb)
      have e5 : a1.tmps[5]? = some (.pointer none) := (hag 5 (not_dst (by kernel_rfl))).trans (by rfl)
      obtain ⟨x23, e23, f23⟩ := hdep 1 23 (by kernel_rfl) (by kernel_rfl)
      obtain rfl : x23 = (.bool true) := f23
      refine ⟨wanted_guard (j := 1) (t := 23) rfl (by kernel_rfl) e23, ?_⟩
      clear hag hdep hb
      unfold Oper.wp
      go_simp
      exact ⟨_, rfl, Below.refl _ _, rfl⟩
    · -- 3: Op.load 26 t2
      intro a1 w1 hb hag hdep
      have H0 := Hid.of ((Below.refl _ _).drew.trans hb)
      have e2 : a1.tmps[2]? = some (.pointer (some ⟨q, 0, none⟩)) := (hag 2 (not_dst (by kernel_rfl))).trans (by rfl)
      obtain ⟨x23, e23, f23⟩ := hdep 1 23 (by kernel_rfl) (by kernel_rfl)
      obtain rfl : x23 = (.bool true) := f23
      refine ⟨wanted_guard (j := 1) (t := 23) rfl (by kernel_rfl) e23, ?_⟩
      obtain ⟨y0, y1, y2, y3, y4, y5, y6⟩ := (X4.out.next H0.out).at
      clear hag hdep hb
      unfold Oper.wp
      go_simp
      exact ⟨_, rfl, Below.refl _ _, rfl⟩
    · -- 4: Op.buildSlice 38 1 #[(0, t25)]
      intro a1 w1 hb hag hdep
      have H0 := Hid.of ((Below.refl _ _).drew.trans hb)
      obtain ⟨x25, e25, f25⟩ := hdep 3 25 (by kernel_rfl) (by kernel_rfl)
      obtain rfl : x25 = (rcv x) := f25
      obtain ⟨x23, e23, f23⟩ := hdep 1 23 (by kernel_rfl) (by kernel_rfl)
      obtain rfl : x23 = (.bool true) := f23
      refine ⟨wanted_guard (j := 1) (t := 23) rfl (by kernel_rfl) e23, ?_⟩
      clear hag hdep hb
      unfold Oper.wp
      go_simp
      exact ⟨_, rfl, (Below.refl _ _).alloc (Nat.le_refl _) _, one_rec _ _ _⟩
    · -- 5: Op.call { value (Operand.func 11), args := #[t24, t26], argTypes := #[28, 38] }
      intro a1 w1 hb hag hdep
      have H0 := Hid.of ((Below.refl _ _).drew.trans hb)
      obtain ⟨x24, e24, f24⟩ := hdep 2 24 (by kernel_rfl) (by kernel_rfl)
      obtain rfl : x24 = (.pointer none) := f24
      obtain ⟨x26, e26, f26⟩ := hdep 4 26 (by kernel_rfl) (by kernel_rfl)
      obtain ⟨x23, e23, f23⟩ := hdep 1 23 (by kernel_rfl) (by kernel_rfl)
      obtain rfl : x23 = (.bool true) := f23
      refine ⟨wanted_guard (j := 1) (t := 23) rfl (by kernel_rfl) e23, ?_⟩
      have G26 : Hid (CellRow w1 x26 1 (flat renc [rl x])) := Hid.of f26
      clear f26
      clear hag hdep hb
      unfold Oper.wp
      go_simp
      refine (tadd_no _ x HX.out G26.out (.inl rfl)).mono ?_
      rintro e w2 ⟨rfl, b2⟩
      exact ⟨_, rfl, b2, rfl⟩
    · -- 6: Op.move t5
      intro a1 w1 hb hag hdep
      have H0 := Hid.of ((Below.refl _ _).drew.trans hb)
      have e5 : a1.tmps[5]? = some (.pointer none) := (hag 5 (not_dst (by kernel_rfl))).trans (by rfl)
      obtain ⟨x23, e23, f23⟩ := hdep 1 23 (by kernel_rfl) (by kernel_rfl)
      obtain rfl : x23 = (.bool true) := f23
      refine ⟨wanted_guard (j := 1) (t := 23) rfl (by kernel_rfl) e23, ?_⟩
      clear hag hdep hb
      unfold Oper.wp
      go_simp
      exact ⟨_, rfl, Below.refl _ _, rfl⟩
    · -- 7: Op.move t1
      intro a1 w1 hb hag hdep
      have H0 := Hid.of ((Below.refl _ _).drew.trans hb)
      have e1 : a1.tmps[1]? = some (.int .i64 n) := (hag 1 (not_dst (by kernel_rfl))).trans (by rfl)
      obtain ⟨x23, e23, f23⟩ := hdep 1 23 (by kernel_rfl) (by kernel_rfl)
      obtain rfl : x23 = (.bool true) := f23
      refine ⟨wanted_guard (j := 1) (t := 23) rfl (by kernel_rfl) e23, ?_⟩
      clear hag hdep hb
      unfold Oper.wp
      go_simp
      exact ⟨_, rfl, Below.refl _ _, rfl⟩
    · -- 8: Op.call { value (Operand.func 12), args := #[t28, t29], argTypes := #[28, 3] }
      intro a1 w1 hb hag hdep
      have H0 := Hid.of ((Below.refl _ _).drew.trans hb)
      obtain ⟨x28, e28, f28⟩ := hdep 6 28 (by kernel_rfl) (by kernel_rfl)
      obtain rfl : x28 = (.pointer none) := f28
      obtain ⟨x29, e29, f29⟩ := hdep 7 29 (by kernel_rfl) (by kernel_rfl)
      obtain rfl : x29 = (.int .i64 n) := f29
      obtain ⟨x23, e23, f23⟩ := hdep 1 23 (by kernel_rfl) (by kernel_rfl)
      obtain rfl : x23 = (.bool true) := f23
      refine ⟨wanted_guard (j := 1) (t := 23) rfl (by kernel_rfl) e23, ?_⟩
      clear hag hdep hb
      unfold Oper.wp
      go_simp
      refine (drop_no n (.inl rfl)).mono ?_
      rintro e w2 ⟨rfl, b2⟩
      exact ⟨_, rfl, b2, rfl⟩
    · -- 9: Op.binOp BinOp.add 3 t27 t30 3
      intro a1 w1 hb hag hdep
      have H0 := Hid.of ((Below.refl _ _).drew.trans hb)
      obtain ⟨x27, e27, f27⟩ := hdep 5 27 (by kernel_rfl) (by kernel_rfl)
      obtain rfl : x27 = (.int .i64 0) := f27
      obtain ⟨x30, e30, f30⟩ := hdep 8 30 (by kernel_rfl) (by kernel_rfl)
      obtain rfl : x30 = (.int .i64 0) := f30
      obtain ⟨x23, e23, f23⟩ := hdep 1 23 (by kernel_rfl) (by kernel_rfl)
      obtain rfl : x23 = (.bool true) := f23
      refine ⟨wanted_guard (j := 1) (t := 23) rfl (by kernel_rfl) e23, ?_⟩
      clear hag hdep hb
      unfold Oper.wp
      go_simp
      exact ⟨_, rfl, Below.refl _ _, rfl⟩
    · -- 10: Op.move t5
      intro a1 w1 hb hag hdep
      have H0 := Hid.of ((Below.refl _ _).drew.trans hb)
      have e5 : a1.tmps[5]? = some (.pointer none) := (hag 5 (not_dst (by kernel_rfl))).trans (by rfl)
      obtain ⟨x23, e23, f23⟩ := hdep 1 23 (by kernel_rfl) (by kernel_rfl)
      obtain rfl : x23 = (.bool true) := f23
      refine ⟨wanted_guard (j := 1) (t := 23) rfl (by kernel_rfl) e23, ?_⟩
      clear hag hdep hb
      unfold Oper.wp
      go_simp
      exact ⟨_, rfl, Below.refl _ _, rfl⟩
    · -- 11: Op.move t1
      intro a1 w1 hb hag hdep
      have H0 := Hid.of ((Below.refl _ _).drew.trans hb)
      have e1 : a1.tmps[1]? = some (.int .i64 n) := (hag 1 (not_dst (by kernel_rfl))).trans (by rfl)
      obtain ⟨x23, e23, f23⟩ := hdep 1 23 (by kernel_rfl) (by kernel_rfl)
      obtain rfl : x23 = (.bool true) := f23
      refine ⟨wanted_guard (j := 1) (t := 23) rfl (by kernel_rfl) e23, ?_⟩
      clear hag hdep hb
      unfold Oper.wp
      go_simp
      exact ⟨_, rfl, Below.refl _ _, rfl⟩
    · -- 12: Op.call { value (Operand.func 13), args := #[t32, const (0:i64), t33], argTypes := #[28, 3, 3] }
      intro a1 w1 hb hag hdep
      have H0 := Hid.of ((Below.refl _ _).drew.trans hb)
      obtain ⟨x32, e32, f32⟩ := hdep 10 32 (by kernel_rfl) (by kernel_rfl)
      obtain rfl : x32 = (.pointer none) := f32
      obtain ⟨x33, e33, f33⟩ := hdep 11 33 (by kernel_rfl) (by kernel_rfl)
      obtain rfl : x33 = (.int .i64 n) := f33
      obtain ⟨x23, e23, f23⟩ := hdep 1 23 (by kernel_rfl) (by kernel_rfl)
      obtain rfl : x23 = (.bool true) := f23
      refine ⟨wanted_guard (j := 1) (t := 23) rfl (by kernel_rfl) e23, ?_⟩
      clear hag hdep hb
      unfold Oper.wp
      go_simp
      refine (clear_no 0 n (.inl rfl)).mono ?_
      rintro e w2 ⟨rfl, b2⟩
      exact ⟨_, rfl, b2, rfl⟩
    · -- 13: Op.binOp BinOp.add 3 t31 t34 3
      intro a1 w1 hb hag hdep
      have H0 := Hid.of ((Below.refl _ _).drew.trans hb)
      obtain ⟨x31, e31, f31⟩ := hdep 9 31 (by kernel_rfl) (by kernel_rfl)
      obtain rfl : x31 = (.int .i64 0) := f31
      obtain ⟨x34, e34, f34⟩ := hdep 12 34 (by kernel_rfl) (by kernel_rfl)
      obtain rfl : x34 = (.int .i64 0) := f34
      obtain ⟨x23, e23, f23⟩ := hdep 1 23 (by kernel_rfl) (by kernel_rfl)
      obtain rfl : x23 = (.bool true) := f23
      refine ⟨wanted_guard (j := 1) (t := 23) rfl (by kernel_rfl) e23, ?_⟩
      clear hag hdep hb
      unfold Oper.wp
      go_simp
      exact ⟨_, rfl, Below.refl _ _, rfl⟩
    · -- 14: Op.move t5
      intro a1 w1 hb hag hdep
      have H0 := Hid.of ((Below.refl _ _).drew.trans hb)
      have e5 : a1.tmps[5]? = some (.pointer none) := (hag 5 (not_dst (by kernel_rfl))).trans (by rfl)
      obtain ⟨x23, e23, f23⟩ := hdep 1 23 (by kernel_rfl) (by kernel_rfl)
      obtain rfl : x23 = (.bool true) := f23
      refine ⟨wanted_guard (j := 1) (t := 23) rfl (by kernel_rfl) e23, ?_⟩
      clear hag hdep hb
      unfold Oper.wp
      go_simp
      exact ⟨_, rfl, Below.refl _ _, rfl⟩
    · -- 15: Op.move t1
      intro a1 w1 hb hag hdep
      have H0 := Hid.of ((Below.refl _ _).drew.trans hb)
      have e1 : a1.tmps[1]? = some (.int .i64 n) := (hag 1 (not_dst (by kernel_rfl))).trans (by rfl)
      obtain ⟨x23, e23, f23⟩ := hdep 1 23 (by kernel_rfl) (by kernel_rfl)
      obtain rfl : x23 = (.bool true) := f23
      refine ⟨wanted_guard (j := 1) (t := 23) rfl (by kernel_rfl) e23, ?_⟩
      clear hag hdep hb
      unfold Oper.wp
      go_simp
      exact ⟨_, rfl, Below.refl _ _, rfl⟩
    · -- 16: Op.call { value (Operand.func 14), args := #[t36, t37], argTypes := #[28, 3] }
      intro a1 w1 hb hag hdep
      have H0 := Hid.of ((Below.refl _ _).drew.trans hb)
      obtain ⟨x36, e36, f36⟩ := hdep 14 36 (by kernel_rfl) (by kernel_rfl)
      obtain rfl : x36 = (.pointer none) := f36
      obtain ⟨x37, e37, f37⟩ := hdep 15 37 (by kernel_rfl) (by kernel_rfl)
      obtain rfl : x37 = (.int .i64 n) := f37
      obtain ⟨x23, e23, f23⟩ := hdep 1 23 (by kernel_rfl) (by kernel_rfl)
      obtain rfl : x23 = (.bool true) := f23
      refine ⟨wanted_guard (j := 1) (t := 23) rfl (by kernel_rfl) e23, ?_⟩
      clear hag hdep hb
      unfold Oper.wp
      go_simp
      refine (need_no n (.inl rfl)).mono ?_
      rintro e w2 ⟨rfl, b2⟩
      exact ⟨_, rfl, b2, rfl⟩
    · -- 17: Op.binOp BinOp.add 3 t35 t38 3
      intro a1 w1 hb hag hdep
      have H0 := Hid.of ((Below.refl _ _).drew.trans hb)
      obtain ⟨x35, e35, f35⟩ := hdep 13 35 (by kernel_rfl) (by kernel_rfl)
      obtain rfl : x35 = (.int .i64 0) := f35
      obtain ⟨x38, e38, f38⟩ := hdep 16 38 (by kernel_rfl) (by kernel_rfl)
      obtain rfl : x38 = (.int .i64 0) := f38
      obtain ⟨x23, e23, f23⟩ := hdep 1 23 (by kernel_rfl) (by kernel_rfl)
      obtain rfl : x23 = (.bool true) := f23
      refine ⟨wanted_guard (j := 1) (t := 23) rfl (by kernel_rfl) e23, ?_⟩
      clear hag hdep hb
      unfold Oper.wp
      go_simp
      exact ⟨_, rfl, Below.refl _ _, rfl⟩
    · -- 18: Op.move t5
      intro a1 w1 hb hag hdep
      have H0 := Hid.of ((Below.refl _ _).drew.trans hb)
      have e5 : a1.tmps[5]? = some (.pointer none) := (hag 5 (not_dst (by kernel_rfl))).trans (by rfl)
      obtain ⟨x23, e23, f23⟩ := hdep 1 23 (by kernel_rfl) (by kernel_rfl)
      obtain rfl : x23 = (.bool true) := f23
      refine ⟨wanted_guard (j := 1) (t := 23) rfl (by kernel_rfl) e23, ?_⟩
      clear hag hdep hb
      unfold Oper.wp
      go_simp
      exact ⟨_, rfl, Below.refl _ _, rfl⟩
    · -- 19: Op.call { value (Operand.func 15), args := #[t40], argTypes := #[28] }
      intro a1 w1 hb hag hdep
      have H0 := Hid.of ((Below.refl _ _).drew.trans hb)
      obtain ⟨x40, e40, f40⟩ := hdep 18 40 (by kernel_rfl) (by kernel_rfl)
      obtain rfl : x40 = (.pointer none) := f40
      obtain ⟨x23, e23, f23⟩ := hdep 1 23 (by kernel_rfl) (by kernel_rfl)
      obtain rfl : x23 = (.bool true) := f23
      refine ⟨wanted_guard (j := 1) (t := 23) rfl (by kernel_rfl) e23, ?_⟩
      clear hag hdep hb
      unfold Oper.wp
      go_simp
      refine (len_no (.inl rfl)).mono ?_
      rintro e w2 ⟨rfl, b2⟩
      exact ⟨_, rfl, b2, rfl⟩
    · -- 20: Op.binOp BinOp.add 3 t39 t41 3
      intro a1 w1 hb hag hdep
      have H0 := Hid.of ((Below.refl _ _).drew.trans hb)
      obtain ⟨x39, e39, f39⟩ := hdep 17 39 (by kernel_rfl) (by kernel_rfl)
      obtain rfl : x39 = (.int .i64 0) := f39
      obtain ⟨x41, e41, f41⟩ := hdep 19 41 (by kernel_rfl) (by kernel_rfl)
      obtain rfl : x41 = (.int .i64 0) := f41
      obtain ⟨x23, e23, f23⟩ := hdep 1 23 (by kernel_rfl) (by kernel_rfl)
      obtain rfl : x23 = (.bool true) := f23
      refine ⟨wanted_guard (j := 1) (t := 23) rfl (by kernel_rfl) e23, ?_⟩
      clear hag hdep hb
      unfold Oper.wp
      go_simp
      exact ⟨_, rfl, Below.refl _ _, rfl⟩
    · -- 21: Op.move t6
      intro a1 w1 hb hag hdep
      have H0 := Hid.of ((Below.refl _ _).drew.trans hb)
      have e6 : a1.tmps[6]? = some (.pointer (some ⟨z, 0, none⟩)) := (hag 6 (not_dst (by kernel_rfl))).trans (by rfl)
      obtain ⟨x23, e23, f23⟩ := hdep 1 23 (by kernel_rfl) (by kernel_rfl)
      obtain rfl : x23 = (.bool true) := f23
      refine ⟨wanted_guard (j := 1) (t := 23) rfl (by kernel_rfl) e23, ?_⟩
      clear hag hdep hb
      unfold Oper.wp
      go_simp
      exact ⟨_, rfl, Below.refl _ _, rfl⟩
    · -- 22: Op.load 26 t2
      intro a1 w1 hb hag hdep
      have H0 := Hid.of ((Below.refl _ _).drew.trans hb)
      have e2 : a1.tmps[2]? = some (.pointer (some ⟨q, 0, none⟩)) := (hag 2 (not_dst (by kernel_rfl))).trans (by rfl)
      obtain ⟨x23, e23, f23⟩ := hdep 1 23 (by kernel_rfl) (by kernel_rfl)
      obtain rfl : x23 = (.bool true) := f23
      refine ⟨wanted_guard (j := 1) (t := 23) rfl (by kernel_rfl) e23, ?_⟩
      obtain ⟨y0, y1, y2, y3, y4, y5, y6⟩ := (X4.out.next H0.out).at
      clear hag hdep hb
      unfold Oper.wp
      go_simp
      exact ⟨_, rfl, Below.refl _ _, rfl⟩
    · -- 23: Op.buildSlice 38 1 #[(0, t44)]
      intro a1 w1 hb hag hdep
      have H0 := Hid.of ((Below.refl _ _).drew.trans hb)
      obtain ⟨x44, e44, f44⟩ := hdep 22 44 (by kernel_rfl) (by kernel_rfl)
      obtain rfl : x44 = (rcv x) := f44
      obtain ⟨x23, e23, f23⟩ := hdep 1 23 (by kernel_rfl) (by kernel_rfl)
      obtain rfl : x23 = (.bool true) := f23
      refine ⟨wanted_guard (j := 1) (t := 23) rfl (by kernel_rfl) e23, ?_⟩
      clear hag hdep hb
      unfold Oper.wp
      go_simp
      exact ⟨_, rfl, (Below.refl _ _).alloc (Nat.le_refl _) _, one_rec _ _ _⟩
    · -- 24: Op.call { value (Operand.func 11), args := #[t43, t45], argTypes := #[28, 38] }
      intro a1 w1 hb hag hdep
      have H0 := Hid.of ((Below.refl _ _).drew.trans hb)
      obtain ⟨x43, e43, f43⟩ := hdep 21 43 (by kernel_rfl) (by kernel_rfl)
      obtain rfl : x43 = (.pointer (some ⟨z, 0, none⟩)) := f43
      obtain ⟨x45, e45, f45⟩ := hdep 23 45 (by kernel_rfl) (by kernel_rfl)
      obtain ⟨x23, e23, f23⟩ := hdep 1 23 (by kernel_rfl) (by kernel_rfl)
      obtain rfl : x23 = (.bool true) := f23
      refine ⟨wanted_guard (j := 1) (t := 23) rfl (by kernel_rfl) e23, ?_⟩
      have G45 : Hid (CellRow w1 x45 1 (flat renc [rl x])) := Hid.of f45
      clear f45
      clear hag hdep hb
      unfold Oper.wp
      go_simp
      refine (tadd_no _ x HX.out G45.out (Z4.out.next H0.out)).mono ?_
      rintro e w2 ⟨rfl, b2⟩
      exact ⟨_, rfl, b2, rfl⟩
    · -- 25: Op.binOp BinOp.add 3 t42 t46 3
      intro a1 w1 hb hag hdep
      have H0 := Hid.of ((Below.refl _ _).drew.trans hb)
      obtain ⟨x42, e42, f42⟩ := hdep 20 42 (by kernel_rfl) (by kernel_rfl)
      obtain rfl : x42 = (.int .i64 0) := f42
      obtain ⟨x46, e46, f46⟩ := hdep 24 46 (by kernel_rfl) (by kernel_rfl)
      obtain rfl : x46 = (.int .i64 0) := f46
      obtain ⟨x23, e23, f23⟩ := hdep 1 23 (by kernel_rfl) (by kernel_rfl)
      obtain rfl : x23 = (.bool true) := f23
      refine ⟨wanted_guard (j := 1) (t := 23) rfl (by kernel_rfl) e23, ?_⟩
      clear hag hdep hb
      unfold Oper.wp
      go_simp
      exact ⟨_, rfl, Below.refl _ _, rfl⟩
    · -- 26: Op.move t6
      intro a1 w1 hb hag hdep
      have H0 := Hid.of ((Below.refl _ _).drew.trans hb)
      have e6 : a1.tmps[6]? = some (.pointer (some ⟨z, 0, none⟩)) := (hag 6 (not_dst (by kernel_rfl))).trans (by rfl)
      obtain ⟨x23, e23, f23⟩ := hdep 1 23 (by kernel_rfl) (by kernel_rfl)
      obtain rfl : x23 = (.bool true) := f23
      refine ⟨wanted_guard (j := 1) (t := 23) rfl (by kernel_rfl) e23, ?_⟩
      clear hag hdep hb
      unfold Oper.wp
      go_simp
      exact ⟨_, rfl, Below.refl _ _, rfl⟩
    · -- 27: Op.call { value (Operand.func 15), args := #[t48], argTypes := #[28] }
      intro a1 w1 hb hag hdep
      have H0 := Hid.of ((Below.refl _ _).drew.trans hb)
      obtain ⟨x48, e48, f48⟩ := hdep 26 48 (by kernel_rfl) (by kernel_rfl)
      obtain rfl : x48 = (.pointer (some ⟨z, 0, none⟩)) := f48
      obtain ⟨x23, e23, f23⟩ := hdep 1 23 (by kernel_rfl) (by kernel_rfl)
      obtain rfl : x23 = (.bool true) := f23
      refine ⟨wanted_guard (j := 1) (t := 23) rfl (by kernel_rfl) e23, ?_⟩
      clear hag hdep hb
      unfold Oper.wp
      go_simp
      refine (len_no (Z4.out.next H0.out)).mono ?_
      rintro e w2 ⟨rfl, b2⟩
      exact ⟨_, rfl, b2, rfl⟩
    · -- 28: Op.binOp BinOp.add 3 t47 t49 3
      intro a1 w1 hb hag hdep
      have H0 := Hid.of ((Below.refl _ _).drew.trans hb)
      obtain ⟨x47, e47, f47⟩ := hdep 25 47 (by kernel_rfl) (by kernel_rfl)
      obtain rfl : x47 = (.int .i64 0) := f47
      obtain ⟨x49, e49, f49⟩ := hdep 27 49 (by kernel_rfl) (by kernel_rfl)
      obtain rfl : x49 = (.int .i64 0) := f49
      obtain ⟨x23, e23, f23⟩ := hdep 1 23 (by kernel_rfl) (by kernel_rfl)
      obtain rfl : x23 = (.bool true) := f23
      refine ⟨wanted_guard (j := 1) (t := 23) rfl (by kernel_rfl) e23, ?_⟩
      clear hag hdep hb
      unfold Oper.wp
      go_simp
      exact ⟨_, rfl, Below.refl _ _, rfl⟩
    · -- 29: Op.binOp BinOp.eql 3 t50 (const (0:i64)) 3
      intro a1 w1 hb hag hdep
      have H0 := Hid.of ((Below.refl _ _).drew.trans hb)
      obtain ⟨x50, e50, f50⟩ := hdep 28 50 (by kernel_rfl) (by kernel_rfl)
      obtain rfl : x50 = (.int .i64 0) := f50
      obtain ⟨x23, e23, f23⟩ := hdep 1 23 (by kernel_rfl) (by kernel_rfl)
      obtain rfl : x23 = (.bool true) := f23
      refine ⟨wanted_guard (j := 1) (t := 23) rfl (by kernel_rfl) e23, ?_⟩
      clear hag hdep hb
      unfold Oper.wp
      go_simp
      exact ⟨_, rfl, Below.refl _ _, rfl⟩
    · -- 30: Op.pick t23 t51 (const (Value.bool false))
      intro a1 w1 hb hag hdep
      have H0 := Hid.of ((Below.refl _ _).drew.trans hb)
      obtain ⟨x23, e23, f23⟩ := hdep 1 23 (by kernel_rfl) (by kernel_rfl)
      obtain rfl : x23 = (.bool true) := f23
      obtain ⟨x51, e51, f51⟩ := hdep 29 51 (by kernel_rfl) (by kernel_rfl)
      obtain rfl : x51 = (.bool true) := f51
      refine ⟨wanted_plain rfl, ?_⟩
      clear hag hdep hb
      unfold Oper.wp
      go_simp
      exact ⟨_, rfl, Below.refl _ _, rfl⟩
    · -- 31: Op.move t52
      intro a1 w1 hb hag hdep
      have H0 := Hid.of ((Below.refl _ _).drew.trans hb)
      obtain ⟨x52, e52, f52⟩ := hdep 30 52 (by kernel_rfl) (by kernel_rfl)
      obtain rfl : x52 = (.bool true) := f52
      refine ⟨wanted_plain rfl, ?_⟩
      clear hag hdep hb
      unfold Oper.wp
      go_simp
      exact ⟨_, rfl, Below.refl _ _, rfl⟩
    · -- 32: Op.move t8
      intro a1 w1 hb hag hdep
      have H0 := Hid.of ((Below.refl _ _).drew.trans hb)
      have e8 : a1.tmps[8]? = some (.bool false) := (hag 8 (not_dst (by kernel_rfl))).trans (by rfl)
      obtain ⟨x53, e53, f53⟩ := hdep 31 53 (by kernel_rfl) (by kernel_rfl)
      obtain rfl : x53 = (.bool true) := f53
      refine ⟨wanted_guard (j := 31) (t := 53) rfl (by kernel_rfl) e53, ?_⟩
      clear hag hdep hb
      unfold Oper.wp
      go_simp
      exact ⟨_, rfl, Below.refl _ _, rfl⟩
    · -- 33: Op.unOp UnOp.not 4 t54
      intro a1 w1 hb hag hdep
      have H0 := Hid.of ((Below.refl _ _).drew.trans hb)
      obtain ⟨x54, e54, f54⟩ := hdep 32 54 (by kernel_rfl) (by kernel_rfl)
      obtain rfl : x54 = (.bool false) := f54
      obtain ⟨x53, e53, f53⟩ := hdep 31 53 (by kernel_rfl) (by kernel_rfl)
      obtain rfl : x53 = (.bool true) := f53
      refine ⟨wanted_guard (j := 31) (t := 53) rfl (by kernel_rfl) e53, ?_⟩
      clear hag hdep hb
      unfold Oper.wp
      go_simp
      exact ⟨_, rfl, Below.refl _ _, rfl⟩
    · -- 34: Op.pick t53 t55 (const (Value.bool false))
      intro a1 w1 hb hag hdep
      have H0 := Hid.of ((Below.refl _ _).drew.trans hb)
      obtain ⟨x53, e53, f53⟩ := hdep 31 53 (by kernel_rfl) (by kernel_rfl)
      obtain rfl : x53 = (.bool true) := f53
      obtain ⟨x55, e55, f55⟩ := hdep 33 55 (by kernel_rfl) (by kernel_rfl)
      obtain rfl : x55 = (.bool true) := f55
      refine ⟨wanted_plain rfl, ?_⟩
      clear hag hdep hb
      unfold Oper.wp
      go_simp
      exact ⟨_, rfl, Below.refl _ _, rfl⟩
    · -- 35: Op.move t56
      intro a1 w1 hb hag hdep
      have H0 := Hid.of ((Below.refl _ _).drew.trans hb)
      obtain ⟨x56, e56, f56⟩ := hdep 34 56 (by kernel_rfl) (by kernel_rfl)
      obtain rfl : x56 = (.bool true) := f56
      refine ⟨wanted_plain rfl, ?_⟩
      clear hag hdep hb
      unfold Oper.wp
      go_simp
      exact ⟨_, rfl, Below.refl _ _, rfl⟩
    · -- 36: Op.move t5
      intro a1 w1 hb hag hdep
      have H0 := Hid.of ((Below.refl _ _).drew.trans hb)
      have e5 : a1.tmps[5]? = some (.pointer none) := (hag 5 (not_dst (by kernel_rfl))).trans (by rfl)
      obtain ⟨x57, e57, f57⟩ := hdep 35 57 (by kernel_rfl) (by kernel_rfl)
      obtain rfl : x57 = (.bool true) := f57
      refine ⟨wanted_guard (j := 35) (t := 57) rfl (by kernel_rfl) e57, ?_⟩
      clear hag hdep hb
      unfold Oper.wp
      go_simp
      exact ⟨_, rfl, Below.refl _ _, rfl⟩
    · -- 37: Op.move t1
      intro a1 w1 hb hag hdep
      have H0 := Hid.of ((Below.refl _ _).drew.trans hb)
      have e1 : a1.tmps[1]? = some (.int .i64 n) := (hag 1 (not_dst (by kernel_rfl))).trans (by rfl)
      obtain ⟨x57, e57, f57⟩ := hdep 35 57 (by kernel_rfl) (by kernel_rfl)
      obtain rfl : x57 = (.bool true) := f57
      refine ⟨wanted_guard (j := 35) (t := 57) rfl (by kernel_rfl) e57, ?_⟩
      clear hag hdep hb
      unfold Oper.wp
      go_simp
      exact ⟨_, rfl, Below.refl _ _, rfl⟩
    · -- 38: Op.call { value (Operand.func 16), args := #[t58, const (Value.string { data := #[97] }), const (0:i64), t59], argTypes := #[28, 9, 3, 3] }
      intro a1 w1 hb hag hdep
      have H0 := Hid.of ((Below.refl _ _).drew.trans hb)
      obtain ⟨x58, e58, f58⟩ := hdep 36 58 (by kernel_rfl) (by kernel_rfl)
      obtain rfl : x58 = (.pointer none) := f58
      obtain ⟨x59, e59, f59⟩ := hdep 37 59 (by kernel_rfl) (by kernel_rfl)
      obtain rfl : x59 = (.int .i64 n) := f59
      obtain ⟨x57, e57, f57⟩ := hdep 35 57 (by kernel_rfl) (by kernel_rfl)
      obtain rfl : x57 = (.bool true) := f57
      refine ⟨wanted_guard (j := 35) (t := 57) rfl (by kernel_rfl) e57, ?_⟩
      clear hag hdep hb
      unfold Oper.wp
      go_simp
      refine (range_no _ _ _ (by decide) (.inl rfl)).mono ?_
      rintro e w2 ⟨⟨ua, uc, rfl⟩, b2⟩
      exact ⟨_, rfl, b2, _, _, rfl⟩
    · -- 39: Op.call { builtin len, args := #[t60], argTypes := #[38] }
      intro a1 w1 hb hag hdep
      have H0 := Hid.of ((Below.refl _ _).drew.trans hb)
      obtain ⟨x60, e60, f60⟩ := hdep 38 60 (by kernel_rfl) (by kernel_rfl)
      obtain ⟨x57, e57, f57⟩ := hdep 35 57 (by kernel_rfl) (by kernel_rfl)
      obtain rfl : x57 = (.bool true) := f57
      refine ⟨wanted_guard (j := 35) (t := 57) rfl (by kernel_rfl) e57, ?_⟩
      obtain ⟨ra, rc, rfl⟩ := f60
      clear hag hdep hb
      unfold Oper.wp
      go_simp
      exact ⟨_, rfl, Below.refl _ _, rfl⟩
    · -- 40: Op.move t5
      intro a1 w1 hb hag hdep
      have H0 := Hid.of ((Below.refl _ _).drew.trans hb)
      have e5 : a1.tmps[5]? = some (.pointer none) := (hag 5 (not_dst (by kernel_rfl))).trans (by rfl)
      obtain ⟨x57, e57, f57⟩ := hdep 35 57 (by kernel_rfl) (by kernel_rfl)
      obtain rfl : x57 = (.bool true) := f57
      refine ⟨wanted_guard (j := 35) (t := 57) rfl (by kernel_rfl) e57, ?_⟩
      clear hag hdep hb
      unfold Oper.wp
      go_simp
      exact ⟨_, rfl, Below.refl _ _, rfl⟩
    · -- 41: Op.call { value (Operand.func 17), args := #[t62], argTypes := #[28] }
      intro a1 w1 hb hag hdep
      have H0 := Hid.of ((Below.refl _ _).drew.trans hb)
      obtain ⟨x62, e62, f62⟩ := hdep 40 62 (by kernel_rfl) (by kernel_rfl)
      obtain rfl : x62 = (.pointer none) := f62
      obtain ⟨x57, e57, f57⟩ := hdep 35 57 (by kernel_rfl) (by kernel_rfl)
      obtain rfl : x57 = (.bool true) := f57
      refine ⟨wanted_guard (j := 35) (t := 57) rfl (by kernel_rfl) e57, ?_⟩
      clear hag hdep hb
      unfold Oper.wp
      go_simp
      refine (allRecs_no (.inl rfl)).mono ?_
      rintro e w2 ⟨rfl, b2⟩
      exact ⟨_, rfl, b2, rfl⟩
    · -- 42: Op.call { builtin len, args := #[t63], argTypes := #[38] }
      intro a1 w1 hb hag hdep
      have H0 := Hid.of ((Below.refl _ _).drew.trans hb)
      obtain ⟨x63, e63, f63⟩ := hdep 41 63 (by kernel_rfl) (by kernel_rfl)
      obtain rfl : x63 = (.slice none 0 0) := f63
      obtain ⟨x57, e57, f57⟩ := hdep 35 57 (by kernel_rfl) (by kernel_rfl)
      obtain rfl : x57 = (.bool true) := f57
      refine ⟨wanted_guard (j := 35) (t := 57) rfl (by kernel_rfl) e57, ?_⟩
      clear hag hdep hb
      unfold Oper.wp
      go_simp
      exact ⟨_, rfl, Below.refl _ _, rfl⟩
    · -- 43: Op.binOp BinOp.add 3 t61 t64 3
      intro a1 w1 hb hag hdep
      have H0 := Hid.of ((Below.refl _ _).drew.trans hb)
      obtain ⟨x61, e61, f61⟩ := hdep 39 61 (by kernel_rfl) (by kernel_rfl)
      obtain rfl : x61 = (.int .i64 0) := f61
      obtain ⟨x64, e64, f64⟩ := hdep 42 64 (by kernel_rfl) (by kernel_rfl)
      obtain rfl : x64 = (.int .i64 0) := f64
      obtain ⟨x57, e57, f57⟩ := hdep 35 57 (by kernel_rfl) (by kernel_rfl)
      obtain rfl : x57 = (.bool true) := f57
      refine ⟨wanted_guard (j := 35) (t := 57) rfl (by kernel_rfl) e57, ?_⟩
      clear hag hdep hb
      unfold Oper.wp
      go_simp
      exact ⟨_, rfl, Below.refl _ _, rfl⟩
    · -- 44: Op.move t5
      intro a1 w1 hb hag hdep
      have H0 := Hid.of ((Below.refl _ _).drew.trans hb)
      have e5 : a1.tmps[5]? = some (.pointer none) := (hag 5 (not_dst (by kernel_rfl))).trans (by rfl)
      obtain ⟨x57, e57, f57⟩ := hdep 35 57 (by kernel_rfl) (by kernel_rfl)
      obtain rfl : x57 = (.bool true) := f57
      refine ⟨wanted_guard (j := 35) (t := 57) rfl (by kernel_rfl) e57, ?_⟩
      clear hag hdep hb
      unfold Oper.wp
      go_simp
      exact ⟨_, rfl, Below.refl _ _, rfl⟩
    · -- 45: Op.call { value (Operand.func 18), args := #[t66], argTypes := #[28] }
      intro a1 w1 hb hag hdep
      have H0 := Hid.of ((Below.refl _ _).drew.trans hb)
      obtain ⟨x66, e66, f66⟩ := hdep 44 66 (by kernel_rfl) (by kernel_rfl)
      obtain rfl : x66 = (.pointer none) := f66
      obtain ⟨x57, e57, f57⟩ := hdep 35 57 (by kernel_rfl) (by kernel_rfl)
      obtain rfl : x57 = (.bool true) := f57
      refine ⟨wanted_guard (j := 35) (t := 57) rfl (by kernel_rfl) e57, ?_⟩
      clear hag hdep hb
      unfold Oper.wp
      go_simp
      refine (names_no (.inl rfl)).mono ?_
      rintro e w2 ⟨u, rfl, ⟨ua, uc, rfl, -⟩, b2⟩
      exact ⟨_, rfl, b2, _, _, rfl⟩
    · -- 46: Op.call { builtin len, args := #[t67], argTypes := #[41] }
      intro a1 w1 hb hag hdep
      have H0 := Hid.of ((Below.refl _ _).drew.trans hb)
      obtain ⟨x67, e67, f67⟩ := hdep 45 67 (by kernel_rfl) (by kernel_rfl)
      obtain ⟨x57, e57, f57⟩ := hdep 35 57 (by kernel_rfl) (by kernel_rfl)
      obtain rfl : x57 = (.bool true) := f57
      refine ⟨wanted_guard (j := 35) (t := 57) rfl (by kernel_rfl) e57, ?_⟩
      obtain ⟨ra, rc, rfl⟩ := f67
      clear hag hdep hb
      unfold Oper.wp
      go_simp
      exact ⟨_, rfl, Below.refl _ _, rfl⟩
    · -- 47: Op.binOp BinOp.add 3 t65 t68 3
      intro a1 w1 hb hag hdep
      have H0 := Hid.of ((Below.refl _ _).drew.trans hb)
      obtain ⟨x65, e65, f65⟩ := hdep 43 65 (by kernel_rfl) (by kernel_rfl)
      obtain rfl : x65 = (.int .i64 0) := f65
      obtain ⟨x68, e68, f68⟩ := hdep 46 68 (by kernel_rfl) (by kernel_rfl)
      obtain rfl : x68 = (.int .i64 0) := f68
      obtain ⟨x57, e57, f57⟩ := hdep 35 57 (by kernel_rfl) (by kernel_rfl)
      obtain rfl : x57 = (.bool true) := f57
      refine ⟨wanted_guard (j := 35) (t := 57) rfl (by kernel_rfl) e57, ?_⟩
      clear hag hdep hb
      unfold Oper.wp
      go_simp
      exact ⟨_, rfl, Below.refl _ _, rfl⟩
    · -- 48: Op.move t5
      intro a1 w1 hb hag hdep
      have H0 := Hid.of ((Below.refl _ _).drew.trans hb)
      have e5 : a1.tmps[5]? = some (.pointer none) := (hag 5 (not_dst (by kernel_rfl))).trans (by rfl)
      obtain ⟨x57, e57, f57⟩ := hdep 35 57 (by kernel_rfl) (by kernel_rfl)
      obtain rfl : x57 = (.bool true) := f57
      refine ⟨wanted_guard (j := 35) (t := 57) rfl (by kernel_rfl) e57, ?_⟩
      clear hag hdep hb
      unfold Oper.wp
      go_simp
      exact ⟨_, rfl, Below.refl _ _, rfl⟩
    · -- 49: Op.move t1
      intro a1 w1 hb hag hdep
      have H0 := Hid.of ((Below.refl _ _).drew.trans hb)
      have e1 : a1.tmps[1]? = some (.int .i64 n) := (hag 1 (not_dst (by kernel_rfl))).trans (by rfl)
      obtain ⟨x57, e57, f57⟩ := hdep 35 57 (by kernel_rfl) (by kernel_rfl)
      obtain rfl : x57 = (.bool true) := f57
      refine ⟨wanted_guard (j := 35) (t := 57) rfl (by kernel_rfl) e57, ?_⟩
      clear hag hdep hb
      unfold Oper.wp
      go_simp
      exact ⟨_, rfl, Below.refl _ _, rfl⟩
    · -- 50: Op.call { value (Operand.func 19), args := #[t70, const (0:i64), t71], argTypes := #[28, 3, 3] }
      intro a1 w1 hb hag hdep
      have H0 := Hid.of ((Below.refl _ _).drew.trans hb)
      obtain ⟨x70, e70, f70⟩ := hdep 48 70 (by kernel_rfl) (by kernel_rfl)
      obtain rfl : x70 = (.pointer none) := f70
      obtain ⟨x71, e71, f71⟩ := hdep 49 71 (by kernel_rfl) (by kernel_rfl)
      obtain rfl : x71 = (.int .i64 n) := f71
      obtain ⟨x57, e57, f57⟩ := hdep 35 57 (by kernel_rfl) (by kernel_rfl)
      obtain rfl : x57 = (.bool true) := f57
      refine ⟨wanted_guard (j := 35) (t := 57) rfl (by kernel_rfl) e57, ?_⟩
      clear hag hdep hb
      unfold Oper.wp
      go_simp
      refine (shard_no 0 n (.inl rfl)).mono ?_
      rintro e w2 ⟨rfl, b2⟩
      exact ⟨_, rfl, b2, rfl⟩
    · -- 51: Op.call { builtin len, args := #[t72], argTypes := #[38] }
      intro a1 w1 hb hag hdep
      have H0 := Hid.of ((Below.refl _ _).drew.trans hb)
      obtain ⟨x72, e72, f72⟩ := hdep 50 72 (by kernel_rfl) (by kernel_rfl)
      obtain rfl : x72 = (.slice none 0 0) := f72
      obtain ⟨x57, e57, f57⟩ := hdep 35 57 (by kernel_rfl) (by kernel_rfl)
      obtain rfl : x57 = (.bool true) := f57
      refine ⟨wanted_guard (j := 35) (t := 57) rfl (by kernel_rfl) e57, ?_⟩
      clear hag hdep hb
      unfold Oper.wp
      go_simp
      exact ⟨_, rfl, Below.refl _ _, rfl⟩
    · -- 52: Op.binOp BinOp.add 3 t69 t73 3
      intro a1 w1 hb hag hdep
      have H0 := Hid.of ((Below.refl _ _).drew.trans hb)
      obtain ⟨x69, e69, f69⟩ := hdep 47 69 (by kernel_rfl) (by kernel_rfl)
      obtain rfl : x69 = (.int .i64 0) := f69
      obtain ⟨x73, e73, f73⟩ := hdep 51 73 (by kernel_rfl) (by kernel_rfl)
      obtain rfl : x73 = (.int .i64 0) := f73
      obtain ⟨x57, e57, f57⟩ := hdep 35 57 (by kernel_rfl) (by kernel_rfl)
      obtain rfl : x57 = (.bool true) := f57
      refine ⟨wanted_guard (j := 35) (t := 57) rfl (by kernel_rfl) e57, ?_⟩
      clear hag hdep hb
      unfold Oper.wp
      go_simp
      exact ⟨_, rfl, Below.refl _ _, rfl⟩
    · -- 53: Op.move t6
      intro a1 w1 hb hag hdep
      have H0 := Hid.of ((Below.refl _ _).drew.trans hb)
      have e6 : a1.tmps[6]? = some (.pointer (some ⟨z, 0, none⟩)) := (hag 6 (not_dst (by kernel_rfl))).trans (by rfl)
      obtain ⟨x57, e57, f57⟩ := hdep 35 57 (by kernel_rfl) (by kernel_rfl)
      obtain rfl : x57 = (.bool true) := f57
      refine ⟨wanted_guard (j := 35) (t := 57) rfl (by kernel_rfl) e57, ?_⟩
      clear hag hdep hb
      unfold Oper.wp
      go_simp
      exact ⟨_, rfl, Below.refl _ _, rfl⟩
    · -- 54: Op.call { value (Operand.func 17), args := #[t75], argTypes := #[28] }
      intro a1 w1 hb hag hdep
      have H0 := Hid.of ((Below.refl _ _).drew.trans hb)
      obtain ⟨x75, e75, f75⟩ := hdep 53 75 (by kernel_rfl) (by kernel_rfl)
      obtain rfl : x75 = (.pointer (some ⟨z, 0, none⟩)) := f75
      obtain ⟨x57, e57, f57⟩ := hdep 35 57 (by kernel_rfl) (by kernel_rfl)
      obtain rfl : x57 = (.bool true) := f57
      refine ⟨wanted_guard (j := 35) (t := 57) rfl (by kernel_rfl) e57, ?_⟩
      clear hag hdep hb
      unfold Oper.wp
      go_simp
      refine (allRecs_no (Z4.out.next H0.out)).mono ?_
      rintro e w2 ⟨rfl, b2⟩
      exact ⟨_, rfl, b2, rfl⟩
    · -- 55: Op.call { builtin len, args := #[t76], argTypes := #[38] }
      intro a1 w1 hb hag hdep
      have H0 := Hid.of ((Below.refl _ _).drew.trans hb)
      obtain ⟨x76, e76, f76⟩ := hdep 54 76 (by kernel_rfl) (by kernel_rfl)
      obtain rfl : x76 = (.slice none 0 0) := f76
      obtain ⟨x57, e57, f57⟩ := hdep 35 57 (by kernel_rfl) (by kernel_rfl)
      obtain rfl : x57 = (.bool true) := f57
      refine ⟨wanted_guard (j := 35) (t := 57) rfl (by kernel_rfl) e57, ?_⟩
      clear hag hdep hb
      unfold Oper.wp
      go_simp
      exact ⟨_, rfl, Below.refl _ _, rfl⟩
    · -- 56: Op.binOp BinOp.add 3 t74 t77 3
      intro a1 w1 hb hag hdep
      have H0 := Hid.of ((Below.refl _ _).drew.trans hb)
      obtain ⟨x74, e74, f74⟩ := hdep 52 74 (by kernel_rfl) (by kernel_rfl)
      obtain rfl : x74 = (.int .i64 0) := f74
      obtain ⟨x77, e77, f77⟩ := hdep 55 77 (by kernel_rfl) (by kernel_rfl)
      obtain rfl : x77 = (.int .i64 0) := f77
      obtain ⟨x57, e57, f57⟩ := hdep 35 57 (by kernel_rfl) (by kernel_rfl)
      obtain rfl : x57 = (.bool true) := f57
      refine ⟨wanted_guard (j := 35) (t := 57) rfl (by kernel_rfl) e57, ?_⟩
      clear hag hdep hb
      unfold Oper.wp
      go_simp
      exact ⟨_, rfl, Below.refl _ _, rfl⟩
    · -- 57: Op.binOp BinOp.eql 3 t78 (const (0:i64)) 3
      intro a1 w1 hb hag hdep
      have H0 := Hid.of ((Below.refl _ _).drew.trans hb)
      obtain ⟨x78, e78, f78⟩ := hdep 56 78 (by kernel_rfl) (by kernel_rfl)
      obtain rfl : x78 = (.int .i64 0) := f78
      obtain ⟨x57, e57, f57⟩ := hdep 35 57 (by kernel_rfl) (by kernel_rfl)
      obtain rfl : x57 = (.bool true) := f57
      refine ⟨wanted_guard (j := 35) (t := 57) rfl (by kernel_rfl) e57, ?_⟩
      clear hag hdep hb
      unfold Oper.wp
      go_simp
      exact ⟨_, rfl, Below.refl _ _, rfl⟩
    · -- 58: Op.pick t57 t79 (const (Value.bool false))
      intro a1 w1 hb hag hdep
      have H0 := Hid.of ((Below.refl _ _).drew.trans hb)
      obtain ⟨x57, e57, f57⟩ := hdep 35 57 (by kernel_rfl) (by kernel_rfl)
      obtain rfl : x57 = (.bool true) := f57
      obtain ⟨x79, e79, f79⟩ := hdep 57 79 (by kernel_rfl) (by kernel_rfl)
      obtain rfl : x79 = (.bool true) := f79
      refine ⟨wanted_plain rfl, ?_⟩
      clear hag hdep hb
      unfold Oper.wp
      go_simp
      exact ⟨_, rfl, Below.refl _ _, rfl⟩
    · -- 59: Op.move t80
      intro a1 w1 hb hag hdep
      have H0 := Hid.of ((Below.refl _ _).drew.trans hb)
      obtain ⟨x80, e80, f80⟩ := hdep 58 80 (by kernel_rfl) (by kernel_rfl)
      obtain rfl : x80 = (.bool true) := f80
      refine ⟨wanted_plain rfl, ?_⟩
      clear hag hdep hb
      unfold Oper.wp
      go_simp
      exact ⟨_, rfl, Below.refl _ _, rfl⟩
    · -- 60: Op.move t5
      intro a1 w1 hb hag hdep
      have H0 := Hid.of ((Below.refl _ _).drew.trans hb)
      have e5 : a1.tmps[5]? = some (.pointer none) := (hag 5 (not_dst (by kernel_rfl))).trans (by rfl)
      obtain ⟨x81, e81, f81⟩ := hdep 59 81 (by kernel_rfl) (by kernel_rfl)
      obtain rfl : x81 = (.bool true) := f81
      refine ⟨wanted_guard (j := 59) (t := 81) rfl (by kernel_rfl) e81, ?_⟩
      clear hag hdep hb
      unfold Oper.wp
      go_simp
      exact ⟨_, rfl, Below.refl _ _, rfl⟩
    · -- 61: Op.call { value (Operand.func 20), args := #[t82, const (1:i64), const (0:i64)], argTypes := #[28, 3, 3] }
      intro a1 w1 hb hag hdep
      have H0 := Hid.of ((Below.refl _ _).drew.trans hb)
      obtain ⟨x82, e82, f82⟩ := hdep 60 82 (by kernel_rfl) (by kernel_rfl)
      obtain rfl : x82 = (.pointer none) := f82
      obtain ⟨x81, e81, f81⟩ := hdep 59 81 (by kernel_rfl) (by kernel_rfl)
      obtain rfl : x81 = (.bool true) := f81
      refine ⟨wanted_guard (j := 59) (t := 81) rfl (by kernel_rfl) e81, ?_⟩
      clear hag hdep hb
      unfold Oper.wp
      go_simp
      refine (roll_nil _ _ _).mono ?_
      rintro e w2 ⟨rfl, rfl⟩
      exact ⟨_, rfl, Below.refl _ _, rfl⟩
    · -- 62: Op.binOp BinOp.eql 28 t83 (const (Value.pointer none)) 28
      intro a1 w1 hb hag hdep
      have H0 := Hid.of ((Below.refl _ _).drew.trans hb)
      obtain ⟨x83, e83, f83⟩ := hdep 61 83 (by kernel_rfl) (by kernel_rfl)
      obtain rfl : x83 = (.pointer none) := f83
      obtain ⟨x81, e81, f81⟩ := hdep 59 81 (by kernel_rfl) (by kernel_rfl)
      obtain rfl : x81 = (.bool true) := f81
      refine ⟨wanted_guard (j := 59) (t := 81) rfl (by kernel_rfl) e81, ?_⟩
      clear hag hdep hb
      unfold Oper.wp
      go_simp
      exact ⟨_, rfl, Below.refl _ _, rfl⟩
    · -- 63: Op.pick t81 t84 (const (Value.bool false))
      intro a1 w1 hb hag hdep
      have H0 := Hid.of ((Below.refl _ _).drew.trans hb)
      obtain ⟨x81, e81, f81⟩ := hdep 59 81 (by kernel_rfl) (by kernel_rfl)
      obtain rfl : x81 = (.bool true) := f81
      obtain ⟨x84, e84, f84⟩ := hdep 62 84 (by kernel_rfl) (by kernel_rfl)
      obtain rfl : x84 = (.bool true) := f84
      refine ⟨wanted_plain rfl, ?_⟩
      clear hag hdep hb
      unfold Oper.wp
      go_simp
      exact ⟨_, rfl, Below.refl _ _, rfl⟩
    · -- 64: Op.move t85
      intro a1 w1 hb hag hdep
      have H0 := Hid.of ((Below.refl _ _).drew.trans hb)
      obtain ⟨x85, e85, f85⟩ := hdep 63 85 (by kernel_rfl) (by kernel_rfl)
      obtain rfl : x85 = (.bool true) := f85
      refine ⟨wanted_plain rfl, ?_⟩
      clear hag hdep hb
      unfold Oper.wp
      go_simp
      exact ⟨_, rfl, Below.refl _ _, rfl⟩
    · -- 65: Op.move t5
      intro a1 w1 hb hag hdep
      have H0 := Hid.of ((Below.refl _ _).drew.trans hb)
      have e5 : a1.tmps[5]? = some (.pointer none) := (hag 5 (not_dst (by kernel_rfl))).trans (by rfl)
      obtain ⟨x86, e86, f86⟩ := hdep 64 86 (by kernel_rfl) (by kernel_rfl)
      obtain rfl : x86 = (.bool true) := f86
      refine ⟨wanted_guard (j := 64) (t := 86) rfl (by kernel_rfl) e86, ?_⟩
      clear hag hdep hb
      unfold Oper.wp
      go_simp
      exact ⟨_, rfl, Below.refl _ _, rfl⟩
    · -- 66: Op.call { value (Operand.func 21), args := #[t87], argTypes := #[28] }
      intro a1 w1 hb hag hdep
      have H0 := Hid.of ((Below.refl _ _).drew.trans hb)
      obtain ⟨x87, e87, f87⟩ := hdep 65 87 (by kernel_rfl) (by kernel_rfl)
      obtain rfl : x87 = (.pointer none) := f87
      obtain ⟨x86, e86, f86⟩ := hdep 64 86 (by kernel_rfl) (by kernel_rfl)
      obtain rfl : x86 = (.bool true) := f86
      refine ⟨wanted_guard (j := 64) (t := 86) rfl (by kernel_rfl) e86, ?_⟩
      clear hag hdep hb
      unfold Oper.wp
      go_simp
      refine (copy_nil _).mono ?_
      rintro e w2 ⟨rfl, rfl⟩
      exact ⟨_, rfl, Below.refl _ _, rfl⟩
    · -- 67: Op.binOp BinOp.eql 28 t88 (const (Value.pointer none)) 28
      intro a1 w1 hb hag hdep
      have H0 := Hid.of ((Below.refl _ _).drew.trans hb)
      obtain ⟨x88, e88, f88⟩ := hdep 66 88 (by kernel_rfl) (by kernel_rfl)
      obtain rfl : x88 = (.pointer none) := f88
      obtain ⟨x86, e86, f86⟩ := hdep 64 86 (by kernel_rfl) (by kernel_rfl)
      obtain rfl : x86 = (.bool true) := f86
      refine ⟨wanted_guard (j := 64) (t := 86) rfl (by kernel_rfl) e86, ?_⟩
      clear hag hdep hb
      unfold Oper.wp
      go_simp
      exact ⟨_, rfl, Below.refl _ _, rfl⟩
    · -- 68: Op.pick t86 t89 (const (Value.bool false))
      intro a1 w1 hb hag hdep
      have H0 := Hid.of ((Below.refl _ _).drew.trans hb)
      obtain ⟨x86, e86, f86⟩ := hdep 64 86 (by kernel_rfl) (by kernel_rfl)
      obtain rfl : x86 = (.bool true) := f86
      obtain ⟨x89, e89, f89⟩ := hdep 67 89 (by kernel_rfl) (by kernel_rfl)
      obtain rfl : x89 = (.bool true) := f89
      refine ⟨wanted_plain rfl, ?_⟩
      clear hag hdep hb
      unfold Oper.wp
      go_simp
      exact ⟨_, rfl, Below.refl _ _, rfl⟩
    · -- 69: Op.assign t90
      intro a1 w1 hb hag hdep
      have H0 := Hid.of ((Below.refl _ _).drew.trans hb)
      obtain ⟨x90, e90, f90⟩ := hdep 68 90 (by kernel_rfl) (by kernel_rfl)
      obtain rfl : x90 = (.bool true) := f90
      refine ⟨wanted_plain rfl, ?_⟩
      clear hag hdep hb
      unfold Oper.wp
      go_simp
      exact ⟨_, rfl, Below.refl _ _, rfl⟩
    rintro a' w' ⟨f1, f2, f3, f4, f5⟩
    obtain ⟨x4, e4, f4'⟩ := f5 69 4 (by kernel_rfl) (by kernel_rfl)
    obtain rfl : x4 = (.bool true) := f4'
    have FB := Hid.of (B4.out.trans (((Below.refl _ _).drew.trans f1).mono B4.out.size))
    have f2' : a'.defers = [] := f2.trans rfl
    clear f1 f3 f4 f5
    go_wp2
    refine bodyPost_ret (v := .bool true) ?_ f2' ⟨rfl, FB.out⟩
    simp [results, Try.results3, go_sem, e4]

end Go.Proofs.Ytokjlmkegdickaa
