/-
  A bundle of texts: VLD.
-/
import Derived.Shelf.SlSortCmp.WholeK
import Derived.Shelf.SlGeneric
import Derived.Shelf.SlLaysF0
import Derived.Test.YtdchjcidfaencaaGreatQ33
namespace Go.Proofs.YtdchjcidfaencaaGreat
open Go.RowKit Go.Lib Go.Sort Go.Shelf

def laysSrt_ren : Go.Shelf.Ren := ⟨fun | 6 => 77 | 15 => 107 | 14 => 106 | 28 => 127 | 29 => 128 | 20 => 119 | 21 => 120 | 22 => 121 | 23 => 122 | 24 => 123 | 25 => 124 | 26 => 125 | 27 => 126 | 46 => 130 | 47 => 131 | 48 => 132 | 49 => 133 | 50 => 134 | 57 => 135 | n => n, fun | 22 => 49 | 24 => 61 | 25 => 117 | 3 => 3 | 39 => 150 | 0 => 0 | 53 => 166 | 55 => 57 | 4 => 4 | 46 => 160 | 45 => 159 | 50 => 89 | 5 => 5 | 9 => 9 | 66 => 170 | 70 => 174 | 76 => 176 | 77 => 177 | n => n, fun | n => n⟩
theorem laysSrt : Go.Proofs.SlLaysF0.n6 Tryz.prog laysSrt_ren := {
  mixed := by kernel_rfl
  f6 := ⟨Tryz.f77.name, by decide, Tryz.func77.trans (congrArg some (by kernel_rfl))⟩
  f14 := ⟨Tryz.f106.name, by decide, Tryz.func106.trans (congrArg some (by kernel_rfl))⟩
  f15 := Tryz.func107.trans (congrArg some (by kernel_rfl))
  f20 := ⟨Tryz.f119.name, by decide, Tryz.func119.trans (congrArg some (by kernel_rfl))⟩
  f21 := ⟨Tryz.f120.name, by decide, Tryz.func120.trans (congrArg some (by kernel_rfl))⟩
  f22 := ⟨Tryz.f121.name, by decide, Tryz.func121.trans (congrArg some (by kernel_rfl))⟩
  f23 := ⟨Tryz.f122.name, by decide, Tryz.func122.trans (congrArg some (by kernel_rfl))⟩
  f24 := ⟨Tryz.f123.name, by decide, Tryz.func123.trans (congrArg some (by kernel_rfl))⟩
  f25 := ⟨Tryz.f124.name, by decide, Tryz.func124.trans (congrArg some (by kernel_rfl))⟩
  f26 := ⟨Tryz.f125.name, by decide, Tryz.func125.trans (congrArg some (by kernel_rfl))⟩
  f27 := ⟨Tryz.f126.name, by decide, Tryz.func126.trans (congrArg some (by kernel_rfl))⟩
  f28 := Tryz.func127.trans (congrArg some (by kernel_rfl))
  f29 := Tryz.func128.trans (congrArg some (by kernel_rfl))
  f46 := ⟨Tryz.f130.name, by decide, Tryz.func130.trans (congrArg some (by kernel_rfl))⟩
  f47 := Tryz.func131.trans (congrArg some (by kernel_rfl))
  f48 := Tryz.func132.trans (congrArg some (by kernel_rfl))
  f49 := ⟨Tryz.f133.name, by decide, Tryz.func133.trans (congrArg some (by kernel_rfl))⟩
  f50 := ⟨Tryz.f134.name, by decide, Tryz.func134.trans (congrArg some (by kernel_rfl))⟩
  f57 := ⟨Tryz.f135.name, by decide, Tryz.func135.trans (congrArg some (by kernel_rfl))⟩
  t0 := Tryz.underlying0
  a0 := Tryz.isAgg0
  z0 := Tryz.sizeOf0
  v0 := Tryz.zeroValue0
  t3 := Tryz.underlying3
  a3 := Tryz.isAgg3
  z3 := Tryz.sizeOf3
  v3 := Tryz.zeroValue3
  t4 := Tryz.underlying4
  a4 := Tryz.isAgg4
  z4 := Tryz.sizeOf4
  v4 := Tryz.zeroValue4
  t5 := Tryz.underlying5
  a5 := Tryz.isAgg5
  z5 := Tryz.sizeOf5
  v5 := Tryz.zeroValue5
  t9 := Tryz.underlying9
  a9 := Tryz.isAgg9
  z9 := Tryz.sizeOf9
  v9 := Tryz.zeroValue9
  t22 := Tryz.underlying49
  a22 := Tryz.isAgg49
  z22 := Tryz.sizeOf49
  v22 := Tryz.zeroValue49
  t25 := Tryz.underlying117
  a25 := Tryz.isAgg117
  z25 := Tryz.sizeOf117
  v25 := Tryz.zeroValue117
  t39 := Tryz.underlying150
  a39 := Tryz.isAgg150
  z39 := Tryz.sizeOf150
  v39 := Tryz.zeroValue150
  t45 := Tryz.underlying159
  a45 := Tryz.isAgg159
  z45 := Tryz.sizeOf159
  v45 := Tryz.zeroValue159
  t46 := Tryz.underlying160
  a46 := Tryz.isAgg160
  z46 := Tryz.sizeOf160
  v46 := Tryz.zeroValue160
  t50 := Tryz.underlying89
  a50 := Tryz.isAgg89
  z50 := Tryz.sizeOf89
  v50 := Tryz.zeroValue89
  t53 := Tryz.underlying166
  a53 := Tryz.isAgg166
  z53 := Tryz.sizeOf166
  v53 := Tryz.zeroValue166
  t55 := Tryz.underlying57
  a55 := Tryz.isAgg57
  z55 := Tryz.sizeOf57
  v55 := Tryz.zeroValue57
  t66 := Tryz.underlying170
  a66 := Tryz.isAgg170
  z66 := Tryz.sizeOf170
  v66 := Tryz.zeroValue170
  t70 := Tryz.underlying174
  a70 := Tryz.isAgg174
  z70 := Tryz.sizeOf174
  v70 := Tryz.zeroValue174
  t76 := Tryz.underlying176
  a76 := Tryz.isAgg176
  z76 := Tryz.sizeOf176
  v76 := Tryz.zeroValue176
  t77 := Tryz.underlying177
  a77 := Tryz.isAgg177
  z77 := Tryz.sizeOf177
  v77 := Tryz.zeroValue177 }

theorem below_grown_v (w : World) (q : Nat) (os : Array Obj) : Below w.heap.size w (grow (w.drewN q) os) :=
  ⟨rfl, rfl, rfl, by rw [size_grow]; exact Nat.le_add_right _ _, fun i hi => heap_grow_old (w.drewN q) os hi⟩

theorem grow_again (w : World) (q : Nat) (os : Array Obj) (q2 : Nat) (os2 : Array Obj) : ∃ q' os', grow ((grow (w.drewN q) os).drewN q2) os2 = grow (w.drewN q') os' := by
  refine ⟨q + q2, os ++ os2, ?_⟩
  rw [← World.drewN_drewN]
  exact grow_grow ((w.drewN q).drewN q2) os os2

/-- The two variables of order. -/
structure VO (w : World) (z : Nat) (x y : TRec) : Prop where
  k1 : w.heap[z]? = some (.cells #[.string x.n, .int .i64 x.s, .int .i64 x.a.c, .int .i64 x.a.hi, .int .u64 x.a.lo, .int .i64 x.a.mn, .int .i64 x.a.mx] 61 (0, 0))
  k2 : w.heap[z + 1]? = some (.cells #[.string y.n, .int .i64 y.s, .int .i64 y.a.c, .int .i64 y.a.hi, .int .u64 y.a.lo, .int .i64 y.a.mn, .int .i64 y.a.mx] 61 (0, 0))

section
variable {w w' : World} {z : Nat} {x y : TRec}
theorem VO.next (h : VO w z x y) (b : Below w.heap.size w w') : VO w' z x y :=
  ⟨(b.block _ (Array.getElem?_eq_some_iff.1 h.k1).1).trans h.k1, (b.block _ (Array.getElem?_eq_some_iff.1 h.k2).1).trans h.k2⟩
theorem rec7_at {z : Nat} {x : TRec} (h : w.heap[z]? = some (.cells #[.string x.n, .int .i64 x.s, .int .i64 x.a.c, .int .i64 x.a.hi, .int .u64 x.a.lo, .int .i64 x.a.mn, .int .i64 x.a.mx] 61 (0, 0))) :
    w.cell? ⟨z, 0, none⟩ = some (.string x.n) ∧ w.cell? ⟨z, 1, none⟩ = some (.int .i64 x.s) ∧ w.cell? ⟨z, 2, none⟩ = some (.int .i64 x.a.c) ∧ w.cell? ⟨z, 3, none⟩ = some (.int .i64 x.a.hi) ∧ w.cell? ⟨z, 4, none⟩ = some (.int .u64 x.a.lo) ∧ w.cell? ⟨z, 5, none⟩ = some (.int .i64 x.a.mn) ∧ w.cell? ⟨z, 6, none⟩ = some (.int .i64 x.a.mx) := by
  refine ⟨?_, ?_, ?_, ?_, ?_, ?_, ?_⟩ <;> (rw [cell_of_row w z _ _ _ _ h]; rfl)
end

set_option maxRecDepth 20000 in
set_option maxHeartbeats 1600000 in
theorem vorder_any (x y : TRec) (w : World) : Calls Tryz.prog 78 #[tnv x, tnv y] w fun e w' => e = .returned (.int .i64 (ocf x y)) ∧ ∃ q os, w' = grow (w.drewN q) os := by
  obtain ⟨z, hz⟩ : ∃ z, w.heap.size = z := ⟨_, rfl⟩
  obtain ⟨w1, hw1⟩ : ∃ w1, (w.alloc (.cells #[.string x.n, .int .i64 x.s, .int .i64 x.a.c, .int .i64 x.a.hi, .int .u64 x.a.lo, .int .i64 x.a.mn, .int .i64 x.a.mx] 61)).alloc (.cells #[.string y.n, .int .i64 y.s, .int .i64 y.a.c, .int .i64 y.a.hi, .int .u64 y.a.lo, .int .i64 y.a.mn, .int .i64 y.a.mx] 61) = w1 := ⟨_, rfl⟩
  have o1 : VO w1 z x y := by
    rw [← hw1, ← hz]
    refine ⟨(Go.heap_alloc_old _ _ (by simp)).trans (Go.heap_alloc_new _ _), ?_⟩
    have h := Go.heap_alloc_new (w.alloc (.cells #[.string x.n, .int .i64 x.s, .int .i64 x.a.c, .int .i64 x.a.hi, .int .u64 x.a.lo, .int .i64 x.a.mn, .int .i64 x.a.mx] 61)) (.cells #[.string y.n, .int .i64 y.s, .int .i64 y.a.c, .int .i64 y.a.hi, .int .u64 y.a.lo, .int .i64 y.a.mn, .int .i64 y.a.mx] 61 (0, 0))
    rw [show (w.alloc (.cells #[.string x.n, .int .i64 x.s, .int .i64 x.a.c, .int .i64 x.a.hi, .int .u64 x.a.lo, .int .i64 x.a.mn, .int .i64 x.a.mx] 61)).heap.size = w.heap.size + 1 by simp] at h
    exact h
  have g1 : ∃ q os, w1 = grow (w.drewN q) os := ⟨0, _, by rw [← hw1, alloc_eq_grow, alloc_eq_grow, grow_grow]; rfl⟩
  have hl := lessG_any ⟨x.n, x.s, x.a.c, x.a.hi, x.a.lo, x.a.mn, x.a.mx⟩ ⟨y.n, y.s, y.a.c, y.a.hi, y.a.lo, y.a.mn, y.a.mx⟩
  have hr := lessG_any ⟨y.n, y.s, y.a.c, y.a.hi, y.a.lo, y.a.mn, y.a.mx⟩ ⟨x.n, x.s, x.a.c, x.a.hi, x.a.lo, x.a.mn, x.a.mx⟩
  rw [nLess_k] at hl hr
  unfold ocf
  obtain ⟨a, ha⟩ : ∃ a, kLtB x.k y.k = a := ⟨_, rfl⟩
  obtain ⟨b, hb⟩ : ∃ b, kLtB y.k x.k = b := ⟨_, rfl⟩
  rw [ha] at hl ⊢
  rw [hb] at hr ⊢
  have HW := Hid.of hw1
  have HZ := Hid.of hz
  have O1 := Hid.of o1
  have HR := Hid.of hr
  clear hw1 hz o1 ha hb hr
  obtain ⟨c0, c1, c2, c3, c4, c5, c6⟩ := rec7_at O1.out.k1
  obtain ⟨d0, d1, d2, d3, d4, d5, d6⟩ := rec7_at O1.out.k2
  go_enter Tryz.func78, Tryz.ntmps78
  go_upto_region 1 with fail
  rw [HW.out, HZ.out]
  clear HW
  go_wp2_with fail
  refine (hl _).mono ?_
  rintro e w2 ⟨rfl, q2, os2, hw2⟩
  have b2 : Below w1.heap.size w1 w2 := by rw [hw2]; exact below_grown_v _ _ _
  have O2 := Hid.of (O1.out.next b2)
  have G2 : Hid (∃ q os, w2 = grow (w.drewN q) os) := Hid.of (by
    obtain ⟨q, os, h⟩ := g1
    rw [hw2, h]
    exact grow_again _ _ _ _ _)
  clear hl c0 c1 c2 c3 c4 c5 c6 d0 d1 d2 d3 d4 d5 d6 hw2 b2 O1 g1
  cases a
  · obtain ⟨c0, c1, c2, c3, c4, c5, c6⟩ := rec7_at O2.out.k1
    obtain ⟨d0, d1, d2, d3, d4, d5, d6⟩ := rec7_at O2.out.k2
    go_wp2_with fail
    refine (HR.out _).mono ?_
    rintro e w3 ⟨rfl, q3, os3, hw3⟩
    have G3 : Hid (∃ q os, w3 = grow (w.drewN q) os) := Hid.of (by
      obtain ⟨q, os, h⟩ := G2.out
      rw [hw3, h]
      exact grow_again _ _ _ _ _)
    clear hw3 c0 c1 c2 c3 c4 c5 c6 d0 d1 d2 d3 d4 d5 d6 O2
    cases b
    · go_wp2
      go_ret
      exact ⟨rfl, G3.out⟩
    · go_wp2
      go_ret
      exact ⟨rfl, G3.out⟩
  · go_wp2
    go_ret
    exact ⟨rfl, G2.out⟩

theorem vorder_lays (blk off size : Nat) (w : World) : CmpLays Tryz.prog 78 #[] tenc 7 ocf blk off size w := fun _ _ _ _ x y => vorder_any x y _

theorem tflat_get {bs : List TRec} {t : Nat} (h : t < bs.length * 7) : (flat tenc bs)[t]? = some ((tenc (bs.toArray[t / 7]!))[t % 7]!) := by
  have h1 : t / 7 < bs.length := by omega
  have e : t = t / 7 * 7 + t % 7 := by omega
  have h2 := flat_at tenc_len bs (t / 7) (bs[t / 7]) (List.getElem?_eq_getElem h1) (t % 7) (by omega)
  rw [← e] at h2
  rw [h2, getElem!_pos bs.toArray (t / 7) (by simpa using h1)]
  have h3 : t % 7 < (tenc bs[t / 7]).length := by rw [tenc_len]; omega
  rw [List.getElem?_eq_getElem h3, List.getElem_toArray, getElem!_pos (tenc bs[t / 7]) (t % 7) h3]

/-- v is a row of one's own that holds the records bs. -/
abbrev TROwn (w : World) (D : Nat) (v : Value) (bs : List TRec) : Prop := w.ownsRow D 61 7 v bs.length (flat tenc bs)

theorem town_holds {w : World} {D g cap : Nat} {bs : List TRec} (h : TROwn w D (.slice (some ⟨g, 0, none⟩) bs.length cap) bs) : HoldsK tenc 7 w g 0 bs.toArray ∧ g < w.heap.size := by
  constructor
  · intro j hj
    rw [size_flatK, List.size_toArray] at hj
    have h1 := h.cellAt j (by omega)
    have h2 := h.frozenAt j
    rw [Nat.zero_add, get_flatK _ _ _ _ (by rw [List.size_toArray]; exact hj)]
    refine ⟨?_, h2⟩
    rw [h1, tflat_get hj]
    rfl
  · rcases h.2 with ⟨h0, _⟩ | ⟨g', cap', cur, h0, _, hr, _⟩
    · cases h0
    · simp only [Value.slice.injEq, Option.some.injEq, Addr.mk.injEq] at h0
      rw [h0.1.1]
      exact (Array.getElem?_eq_some_iff.1 hr).1

/-- Behind the sort: the row holds the others, and nothing else has turned. -/
theorem town_of_sort {w : World} {D g cap : Nat} {bs : List TRec} {d' : Array TRec} {n : Nat} {os : Array Obj} (h : TROwn w D (.slice (some ⟨g, 0, none⟩) bs.length cap) bs) (hd : d'.size = bs.length) :
    TROwn (sortWorldK tenc 7 w g 0 n d' os) D (.slice (some ⟨g, 0, none⟩) d'.toList.length cap) d'.toList ∧ w.grownBy (sortWorldK tenc 7 w g 0 n d' os) (some g) := by
  have S : SWK tenc 7 w g 0 d' (sortWorldK tenc 7 w g 0 n d' os) := ⟨n, os, rfl⟩
  have hH := S.holds (town_holds h).2 (town_holds h).1 (by rw [hd, List.size_toArray])
  obtain ⟨hl, ho⟩ := h
  obtain ⟨g', cap', cur, h0, hD, hr, hcap, hmax, hcs, _⟩ := ho.resolve_left (fun c => by cases c.1)
  simp only [Value.slice.injEq, Option.some.injEq, Addr.mk.injEq, true_and, and_true] at h0
  obtain ⟨rfl, rfl⟩ := h0
  have hlt := (Array.getElem?_eq_some_iff.1 hr).1
  have hk : (sortWorldK tenc 7 w g 0 n d' os).heap[g]? = some (.cells (putCells id 0 (flatK tenc 7 d') cur) 61 (0, 0)) := by
    unfold sortWorldK
    rw [heap_grow_old _ _ (by rw [size_putRowK]; exact hlt)]
    show ((Sort.ahead w n).heap.modify g (onCells _))[g]? = _
    rw [Array.getElem?_modify, if_pos rfl]
    show (w.heap[g]?).map _ = _
    rw [hr]
    rfl
  have hps : (putCells id 0 (flatK tenc 7 d') cur).size = cur.size := by simp [putCells]
  refine ⟨⟨by rw [flat_length tenc_len], .inr ⟨g, cap, _, ?_, hD, hk, ?_, hmax, hps.trans hcs, ?_⟩⟩, ⟨rfl, rfl, rfl, ?_, ?_⟩⟩
  · rfl
  · rw [Array.length_toList, hd]; exact hcap
  · refine List.ext_getElem? fun t => ?_
    rw [List.getElem?_take]
    split
    · rename_i ht
      rw [Array.length_toList] at ht
      have h1 := (hH t (by rw [size_flatK]; exact ht)).1
      rw [Nat.zero_add, cell_of_row _ g t _ _ _ hk] at h1
      rw [Array.getElem?_toList, h1, tflat_get (by rw [Array.length_toList]; exact ht), get_flatK _ _ _ _ ht]
      rfl
    · rename_i ht
      rw [List.getElem?_eq_none (by rw [flat_length tenc_len]; omega)]
  · exact size_sortWorldK_c tenc 7 w g 0 n d' os
  · intro i hi hne
    unfold sortWorldK
    rw [heap_grow_old _ _ (by rw [size_putRowK]; exact hi)]
    show ((Sort.ahead w n).heap.modify g (onCells _))[i]? = _
    rw [Array.getElem?_modify, if_neg (fun c => hne (by rw [c]))]
    rfl

theorem tsorted_list {bs : List TRec} {d' : Array TRec} (hp : PermIn 0 bs.length bs.toArray d') (hs : SortedIn olt 0 bs.length d') : d'.toList.Perm bs ∧ d'.toList.Pairwise (fun x y => ¬ kLt y.k x.k) := by
  have hz : d'.size = bs.length := by rw [hp.1, List.size_toArray]
  constructor
  · have h := hp.2.2
    rw [← hz, Array.extract_size, hz] at h
    have e : (bs.toArray.extract 0 bs.length) = bs.toArray := by
      have := Array.extract_size (xs := bs.toArray)
      rwa [List.size_toArray] at this
    rwa [e] at h
  · rw [List.pairwise_iff_getElem]
    intro i j hi hj hij
    rw [Array.length_toList] at hi hj
    have := hs i j (Nat.zero_le _) hij (by omega)
    rw [olt_no, getElem!_pos d' i hi, getElem!_pos d' j hj] at this
    simpa using this

set_option maxHeartbeats 2000000 in
theorem vins_none (p : Option Addr) (cap : Nat) (fv : Value) (w : World) :
    Calls Tryz.prog 119 #[.slice p 0 cap, .int .i64 0, .int .i64 0, fv] w fun e w' => e = .returned (.tuple #[]) ∧ w' = w := by
  go_enter Tryz.func119, Tryz.ntmps119
  go_wp2
  refine wp_loop_rounds 1 ?_
  rw [rounds_succ]
  go_wp2
  go_end0
  exact ⟨rfl, rfl⟩

set_option maxHeartbeats 2000000 in
theorem vpdq_none (p : Option Addr) (cap : Nat) (lim : Int) (fv : Value) (w : World) :
    Calls Tryz.prog 106 #[.slice p 0 cap, .int .i64 0, .int .i64 0, .int .i64 lim, fv] w fun e w' => e = .returned (.tuple #[]) ∧ w' = w := by
  have hi := fun W => vins_none p cap fv W
  go_enter Tryz.func106, Tryz.ntmps106
  go_wp2
  refine wp_loop_rounds 1 ?_
  rw [rounds_succ]
  go_wp2_with (go_at_call 119; refine (hi _).mono ?_; rintro e w' ⟨rfl, rfl⟩)
  (try simp only [Exit.inBlock, Exit.then]); refine bodyPost_ret (results_none rfl _ _ _) rfl ?_
  exact ⟨rfl, rfl⟩

set_option maxHeartbeats 2000000 in
theorem vsort_none (c : Nat) (fv : Value) (w : World) : Calls Tryz.prog 77 #[.slice none 0 c, fv] w fun e w' => e = .returned (.tuple #[]) ∧ w' = w := by
  have hp := fun lim W => vpdq_none none c lim fv W
  have hl : ∀ W, Calls Tryz.prog 107 #[.int .u64 0] W fun e w' => e = .returned (.int .i64 (Lib.bitLen 0 : Nat)) ∧ w' = W := fun W =>
    Any.bits_Len (SlLaysF0.n15.bits (P := Tryz.prog) (ρ := laysSrt_ren) { laysSrt with }) 0 W (by omega) (by omega)
  go_enter Tryz.func77, Tryz.ntmps77
  go_wp2_with (first | (go_at_call 107; refine (hl _).mono ?_; rintro e w' ⟨rfl, rfl⟩) | (go_at_call 106; refine (hp _ _).mono ?_; rintro e w' ⟨rfl, rfl⟩))
  go_end0
  exact ⟨rfl, rfl⟩

theorem vsort_any {D : Nat} {v : Value} {T cs : List TRec} (w : World) (hT : TSorted T) (hc : Coll T cs (fun _ => false)) (h : TROwn w D v cs) (hn : cs.length ≤ 1000) :
    Calls Tryz.prog 77 #[v, .func (.func 78) #[] #[]] w fun e w' => e = .returned (.tuple #[]) ∧ TROwn w' D v T ∧ w.grownBy w' v.ownBlock := by
  have hm : ∀ x, x ∈ cs ↔ x ∈ T := fun x => (hc.mem x).trans ⟨fun h => h.1, fun h => ⟨h, rfl⟩⟩
  rcases id h.2 with ⟨rfl, h0⟩ | ⟨g, cap, cur, rfl, _⟩
  · obtain rfl := List.length_eq_zero_iff.1 h0
    have e : T = [] := List.eq_nil_iff_forall_not_mem.2 (fun x hx => List.not_mem_nil ((hm x).2 hx))
    subst e
    refine (vsort_none _ _ w).mono ?_
    rintro e w' ⟨rfl, rfl⟩
    exact ⟨rfl, h, grownBy_refl _ _⟩
  · have eg : ∀ args w, (callFunc 78 args).run Tryz.prog w = .ok (.enter 78 args) w := enters_of Tryz.func78 (by kernel_rfl) rfl
    have hcon := AnyQ.slices_SortFunc laysSrt 7 Tryz.isAgg61 Tryz.sizeOf61 tenc tenc_len tenc_one ocf olt_swo 78 #[] g 0 cap cs.toArray w eg (vorder_lays _ _ _ _) (town_holds h).1 (town_holds h).2 (by rw [List.size_toArray]; omega)
    change Calls Tryz.prog 77 _ _ _ at hcon
    rw [List.size_toArray] at hcon
    refine hcon.mono ?_
    rintro e w' ⟨rfl, d', n, os, hp, hs, rfl⟩
    obtain ⟨h1, h2⟩ := tsorted_list hp hs
    have hd : d'.size = cs.length := by rw [hp.1, List.size_toArray]
    obtain ⟨h3, h4⟩ := town_of_sort (n := n) (os := os) h hd
    have e := same_records hT hm hc.apart h1 h2
    refine ⟨rfl, ?_, h4⟩
    rw [e] at h3
    have el : T.length = cs.length := by rw [← e, Array.length_toList, hd]
    rw [el] at h3
    exact h3

end Go.Proofs.YtdchjcidfaencaaGreat
