/-
  A bundle of texts: VLD.
-/
import Derived.Shelf.SlSortCmp.WholeK
import Derived.Shelf.SlGeneric
import Derived.Shelf.SlLaysF0
import Derived.Test.YtdhkmcmipkfkjaaR29
namespace Go.Proofs.Ytdhkmcmipkfkjaa
open Go.RowKit Go.Lib Go.Sort Go.Shelf

def laysSrt_ren : Go.Shelf.Ren := ⟨fun | 6 => 41 | 15 => 48 | 14 => 47 | 28 => 62 | 29 => 63 | 20 => 54 | 21 => 55 | 22 => 56 | 23 => 57 | 24 => 58 | 25 => 59 | 26 => 60 | 27 => 61 | 46 => 65 | 47 => 66 | 48 => 67 | 49 => 68 | 50 => 69 | 57 => 70 | n => n, fun | 22 => 43 | 24 => 51 | 25 => 85 | 3 => 3 | 39 => 86 | 0 => 0 | 53 => 108 | 55 => 47 | 4 => 4 | 46 => 102 | 45 => 101 | 50 => 40 | 5 => 5 | 9 => 9 | 66 => 112 | 70 => 116 | 76 => 118 | 77 => 119 | n => n, fun | n => n⟩
theorem laysSrt : Go.Proofs.SlLaysF0.n6 Try.prog laysSrt_ren := {
  mixed := by kernel_rfl
  f6 := ⟨Try.f41.name, by decide, Try.func41.trans (congrArg some (by kernel_rfl))⟩
  f14 := ⟨Try.f47.name, by decide, Try.func47.trans (congrArg some (by kernel_rfl))⟩
  f15 := Try.func48.trans (congrArg some (by kernel_rfl))
  f20 := ⟨Try.f54.name, by decide, Try.func54.trans (congrArg some (by kernel_rfl))⟩
  f21 := ⟨Try.f55.name, by decide, Try.func55.trans (congrArg some (by kernel_rfl))⟩
  f22 := ⟨Try.f56.name, by decide, Try.func56.trans (congrArg some (by kernel_rfl))⟩
  f23 := ⟨Try.f57.name, by decide, Try.func57.trans (congrArg some (by kernel_rfl))⟩
  f24 := ⟨Try.f58.name, by decide, Try.func58.trans (congrArg some (by kernel_rfl))⟩
  f25 := ⟨Try.f59.name, by decide, Try.func59.trans (congrArg some (by kernel_rfl))⟩
  f26 := ⟨Try.f60.name, by decide, Try.func60.trans (congrArg some (by kernel_rfl))⟩
  f27 := ⟨Try.f61.name, by decide, Try.func61.trans (congrArg some (by kernel_rfl))⟩
  f28 := Try.func62.trans (congrArg some (by kernel_rfl))
  f29 := Try.func63.trans (congrArg some (by kernel_rfl))
  f46 := ⟨Try.f65.name, by decide, Try.func65.trans (congrArg some (by kernel_rfl))⟩
  f47 := Try.func66.trans (congrArg some (by kernel_rfl))
  f48 := Try.func67.trans (congrArg some (by kernel_rfl))
  f49 := ⟨Try.f68.name, by decide, Try.func68.trans (congrArg some (by kernel_rfl))⟩
  f50 := ⟨Try.f69.name, by decide, Try.func69.trans (congrArg some (by kernel_rfl))⟩
  f57 := ⟨Try.f70.name, by decide, Try.func70.trans (congrArg some (by kernel_rfl))⟩
  t0 := Try.underlying0
  a0 := Try.isAgg0
  z0 := Try.sizeOf0
  v0 := Try.zeroValue0
  t3 := Try.underlying3
  a3 := Try.isAgg3
  z3 := Try.sizeOf3
  v3 := Try.zeroValue3
  t4 := Try.underlying4
  a4 := Try.isAgg4
  z4 := Try.sizeOf4
  v4 := Try.zeroValue4
  t5 := Try.underlying5
  a5 := Try.isAgg5
  z5 := Try.sizeOf5
  v5 := Try.zeroValue5
  t9 := Try.underlying9
  a9 := Try.isAgg9
  z9 := Try.sizeOf9
  v9 := Try.zeroValue9
  t22 := Try.underlying43
  a22 := Try.isAgg43
  z22 := Try.sizeOf43
  v22 := Try.zeroValue43
  t25 := Try.underlying85
  a25 := Try.isAgg85
  z25 := Try.sizeOf85
  v25 := Try.zeroValue85
  t39 := Try.underlying86
  a39 := Try.isAgg86
  z39 := Try.sizeOf86
  v39 := Try.zeroValue86
  t45 := Try.underlying101
  a45 := Try.isAgg101
  z45 := Try.sizeOf101
  v45 := Try.zeroValue101
  t46 := Try.underlying102
  a46 := Try.isAgg102
  z46 := Try.sizeOf102
  v46 := Try.zeroValue102
  t50 := Try.underlying40
  a50 := Try.isAgg40
  z50 := Try.sizeOf40
  v50 := Try.zeroValue40
  t53 := Try.underlying108
  a53 := Try.isAgg108
  z53 := Try.sizeOf108
  v53 := Try.zeroValue108
  t55 := Try.underlying47
  a55 := Try.isAgg47
  z55 := Try.sizeOf47
  v55 := Try.zeroValue47
  t66 := Try.underlying112
  a66 := Try.isAgg112
  z66 := Try.sizeOf112
  v66 := Try.zeroValue112
  t70 := Try.underlying116
  a70 := Try.isAgg116
  z70 := Try.sizeOf116
  v70 := Try.zeroValue116
  t76 := Try.underlying118
  a76 := Try.isAgg118
  z76 := Try.sizeOf118
  v76 := Try.zeroValue118
  t77 := Try.underlying119
  a77 := Try.isAgg119
  z77 := Try.sizeOf119
  v77 := Try.zeroValue119 }

theorem below_grown_v (w : World) (q : Nat) (os : Array Obj) : Below w.heap.size w (grow (w.drewN q) os) :=
  ⟨rfl, rfl, rfl, by rw [size_grow]; exact Nat.le_add_right _ _, fun i hi => heap_grow_old (w.drewN q) os hi⟩

theorem grow_again (w : World) (q : Nat) (os : Array Obj) (q2 : Nat) (os2 : Array Obj) : ∃ q' os', grow ((grow (w.drewN q) os).drewN q2) os2 = grow (w.drewN q') os' := by
  refine ⟨q + q2, os ++ os2, ?_⟩
  rw [← World.drewN_drewN]
  exact grow_grow ((w.drewN q).drewN q2) os os2

/-- The two variables of order. -/
structure VO (w : World) (z : Nat) (x y : TRec) : Prop where
  k1 : w.heap[z]? = some (.cells #[.string x.n, .int .i64 x.s, .int .i64 x.a.c, .int .i64 x.a.hi, .int .u64 x.a.lo, .int .i64 x.a.mn, .int .i64 x.a.mx] 51 (0, 0))
  k2 : w.heap[z + 1]? = some (.cells #[.string y.n, .int .i64 y.s, .int .i64 y.a.c, .int .i64 y.a.hi, .int .u64 y.a.lo, .int .i64 y.a.mn, .int .i64 y.a.mx] 51 (0, 0))

section
variable {w w' : World} {z : Nat} {x y : TRec}
theorem VO.next (h : VO w z x y) (b : Below w.heap.size w w') : VO w' z x y :=
  ⟨(b.block _ (Array.getElem?_eq_some_iff.1 h.k1).1).trans h.k1, (b.block _ (Array.getElem?_eq_some_iff.1 h.k2).1).trans h.k2⟩
theorem rec7_at {z : Nat} {x : TRec} (h : w.heap[z]? = some (.cells #[.string x.n, .int .i64 x.s, .int .i64 x.a.c, .int .i64 x.a.hi, .int .u64 x.a.lo, .int .i64 x.a.mn, .int .i64 x.a.mx] 51 (0, 0))) :
    w.cell? ⟨z, 0, none⟩ = some (.string x.n) ∧ w.cell? ⟨z, 1, none⟩ = some (.int .i64 x.s) ∧ w.cell? ⟨z, 2, none⟩ = some (.int .i64 x.a.c) ∧ w.cell? ⟨z, 3, none⟩ = some (.int .i64 x.a.hi) ∧ w.cell? ⟨z, 4, none⟩ = some (.int .u64 x.a.lo) ∧ w.cell? ⟨z, 5, none⟩ = some (.int .i64 x.a.mn) ∧ w.cell? ⟨z, 6, none⟩ = some (.int .i64 x.a.mx) := by
  refine ⟨?_, ?_, ?_, ?_, ?_, ?_, ?_⟩ <;> (rw [cell_of_row w z _ _ _ _ h]; rfl)
end

set_option maxRecDepth 20000 in
set_option maxHeartbeats 1600000 in
theorem vorder_any (x y : TRec) (w : World) : Calls Try.prog 42 #[tnv x, tnv y] w fun e w' => e = .returned (.int .i64 (ocf x y)) ∧ ∃ q os, w' = grow (w.drewN q) os := by
  obtain ⟨z, hz⟩ : ∃ z, w.heap.size = z := ⟨_, rfl⟩
  obtain ⟨w1, hw1⟩ : ∃ w1, (w.alloc (.cells #[.string x.n, .int .i64 x.s, .int .i64 x.a.c, .int .i64 x.a.hi, .int .u64 x.a.lo, .int .i64 x.a.mn, .int .i64 x.a.mx] 51)).alloc (.cells #[.string y.n, .int .i64 y.s, .int .i64 y.a.c, .int .i64 y.a.hi, .int .u64 y.a.lo, .int .i64 y.a.mn, .int .i64 y.a.mx] 51) = w1 := ⟨_, rfl⟩
  have o1 : VO w1 z x y := by
    rw [← hw1, ← hz]
    refine ⟨(Go.heap_alloc_old _ _ (by simp)).trans (Go.heap_alloc_new _ _), ?_⟩
    have h := Go.heap_alloc_new (w.alloc (.cells #[.string x.n, .int .i64 x.s, .int .i64 x.a.c, .int .i64 x.a.hi, .int .u64 x.a.lo, .int .i64 x.a.mn, .int .i64 x.a.mx] 51)) (.cells #[.string y.n, .int .i64 y.s, .int .i64 y.a.c, .int .i64 y.a.hi, .int .u64 y.a.lo, .int .i64 y.a.mn, .int .i64 y.a.mx] 51 (0, 0))
    rw [show (w.alloc (.cells #[.string x.n, .int .i64 x.s, .int .i64 x.a.c, .int .i64 x.a.hi, .int .u64 x.a.lo, .int .i64 x.a.mn, .int .i64 x.a.mx] 51)).heap.size = w.heap.size + 1 by simp] at h
    exact h
  have g1 : ∃ q os, w1 = grow (w.drewN q) os := ⟨0, _, by rw [← hw1, alloc_eq_grow, alloc_eq_grow, grow_grow]; rfl⟩
  have hl := lessG_any ⟨x.n, x.s, x.a.c, x.a.hi, x.a.lo, x.a.mn, x.a.mx⟩ ⟨y.n, y.s, y.a.c, y.a.hi, y.a.lo, y.a.mn, y.a.mx⟩
  have hr := lessG_any ⟨y.n, y.s, y.a.c, y.a.hi, y.a.lo, y.a.mn, y.a.mx⟩ ⟨x.n, x.s, x.a.c, x.a.hi, x.a.lo, x.a.mn, x.a.mx⟩
  rw [nLess_k] at hl hr
  unfold ocf
  obtain ⟨a, ha⟩ : ∃ a, kLtB x.k y.k = a := ⟨_, rfl⟩
  obtain ⟨b, hb⟩ : ∃ b, kLtB y.k x.k = b := ⟨_, rfl⟩
  rw [ha] at hl ⊢
  rw [hb] at hr ⊢
  have HW := Hid.of hw1
  have HZ := Hid.of hz
  have O1 := Hid.of o1
  have HR := Hid.of hr
  clear hw1 hz o1 ha hb hr
  obtain ⟨c0, c1, c2, c3, c4, c5, c6⟩ := rec7_at O1.out.k1
  obtain ⟨d0, d1, d2, d3, d4, d5, d6⟩ := rec7_at O1.out.k2
  go_enter Try.func42, Try.ntmps42
  go_upto_region 1 with fail
  rw [HW.out, HZ.out]
  clear HW
  go_wp2_with fail
  refine (hl _).mono ?_
  rintro e w2 ⟨rfl, q2, os2, hw2⟩
  have b2 : Below w1.heap.size w1 w2 := by rw [hw2]; exact below_grown_v _ _ _
  have O2 := Hid.of (O1.out.next b2)
  have G2 : Hid (∃ q os, w2 = grow (w.drewN q) os) := Hid.of (by
    obtain ⟨q, os, h⟩ := g1
    rw [hw2, h]
    exact grow_again _ _ _ _ _)
  clear hl c0 c1 c2 c3 c4 c5 c6 d0 d1 d2 d3 d4 d5 d6 hw2 b2 O1 g1
  cases a
  · obtain ⟨c0, c1, c2, c3, c4, c5, c6⟩ := rec7_at O2.out.k1
    obtain ⟨d0, d1, d2, d3, d4, d5, d6⟩ := rec7_at O2.out.k2
    go_wp2_with fail
    refine (HR.out _).mono ?_
    rintro e w3 ⟨rfl, q3, os3, hw3⟩
    have G3 : Hid (∃ q os, w3 = grow (w.drewN q) os) := Hid.of (by
      obtain ⟨q, os, h⟩ := G2.out
      rw [hw3, h]
      exact grow_again _ _ _ _ _)
    clear hw3 c0 c1 c2 c3 c4 c5 c6 d0 d1 d2 d3 d4 d5 d6 O2
    cases b
    · go_wp2
      go_ret
      exact ⟨rfl, G3.out⟩
    · go_wp2
      go_ret
      exact ⟨rfl, G3.out⟩
  · go_wp2
    go_ret
    exact ⟨rfl, G2.out⟩

theorem vorder_lays (blk off size : Nat) (w : World) : CmpLays Try.prog 42 #[] tenc 7 ocf blk off size w := fun _ _ _ _ x y => vorder_any x y _

theorem tflat_get {bs : List TRec} {t : Nat} (h : t < bs.length * 7) : (flat tenc bs)[t]? = some ((tenc (bs.toArray[t / 7]!))[t % 7]!) := by
  have h1 : t / 7 < bs.length := by omega
  have e : t = t / 7 * 7 + t % 7 := by omega
  have h2 := flat_at tenc_len bs (t / 7) (bs[t / 7]) (List.getElem?_eq_getElem h1) (t % 7) (by omega)
  rw [← e] at h2
  rw [h2, getElem!_pos bs.toArray (t / 7) (by simpa using h1)]
  have h3 : t % 7 < (tenc bs[t / 7]).length := by rw [tenc_len]; omega
  rw [List.getElem?_eq_getElem h3, List.getElem_toArray, getElem!_pos (tenc bs[t / 7]) (t % 7) h3]

/-- v is a row of one's own that holds the records bs. -/
abbrev TROwn (w : World) (D : Nat) (v : Value) (bs : List TRec) : Prop := w.ownsRow D 51 7 v bs.length (flat tenc bs)

theorem town_holds {w : World} {D g cap : Nat} {bs : List TRec} (h : TROwn w D (.slice (some ⟨g, 0, none⟩) bs.length cap) bs) : HoldsK tenc 7 w g 0 bs.toArray ∧ g < w.heap.size := by
  constructor
  · intro j hj
    rw [size_flatK, List.size_toArray] at hj
    have h1 := h.cellAt j (by omega)
    have h2 := h.frozenAt j
    rw [Nat.zero_add, get_flatK _ _ _ _ (by rw [List.size_toArray]; exact hj)]
    refine ⟨?_, h2⟩
    rw [h1, tflat_get hj]
    rfl
  · rcases h.2 with ⟨h0, _⟩ | ⟨g', cap', cur, h0, _, hr, _⟩
    · cases h0
    · simp only [Value.slice.injEq, Option.some.injEq, Addr.mk.injEq] at h0
      rw [h0.1.1]
      exact (Array.getElem?_eq_some_iff.1 hr).1

/-- Behind the sort: the row holds the others, and nothing else has turned. -/
theorem town_of_sort {w : World} {D g cap : Nat} {bs : List TRec} {d' : Array TRec} {n : Nat} {os : Array Obj} (h : TROwn w D (.slice (some ⟨g, 0, none⟩) bs.length cap) bs) (hd : d'.size = bs.length) :
    TROwn (sortWorldK tenc 7 w g 0 n d' os) D (.slice (some ⟨g, 0, none⟩) d'.toList.length cap) d'.toList ∧ w.grownBy (sortWorldK tenc 7 w g 0 n d' os) (some g) := by
  have S : SWK tenc 7 w g 0 d' (sortWorldK tenc 7 w g 0 n d' os) := ⟨n, os, rfl⟩
  have hH := S.holds (town_holds h).2 (town_holds h).1 (by rw [hd, List.size_toArray])
  obtain ⟨hl, ho⟩ := h
  obtain ⟨g', cap', cur, h0, hD, hr, hcap, hmax, hcs, _⟩ := ho.resolve_left (fun c => by cases c.1)
  simp only [Value.slice.injEq, Option.some.injEq, Addr.mk.injEq, true_and, and_true] at h0
  obtain ⟨rfl, rfl⟩ := h0
  have hlt := (Array.getElem?_eq_some_iff.1 hr).1
  have hk : (sortWorldK tenc 7 w g 0 n d' os).heap[g]? = some (.cells (putCells id 0 (flatK tenc 7 d') cur) 51 (0, 0)) := by
    unfold sortWorldK
    rw [heap_grow_old _ _ (by rw [size_putRowK]; exact hlt)]
    show ((Sort.ahead w n).heap.modify g (onCells _))[g]? = _
    rw [Array.getElem?_modify, if_pos rfl]
    show (w.heap[g]?).map _ = _
    rw [hr]
    rfl
  have hps : (putCells id 0 (flatK tenc 7 d') cur).size = cur.size := by simp [putCells]
  refine ⟨⟨by rw [flat_length tenc_len], .inr ⟨g, cap, _, ?_, hD, hk, ?_, hmax, hps.trans hcs, ?_⟩⟩, ⟨rfl, rfl, rfl, ?_, ?_⟩⟩
  · rfl
  · rw [Array.length_toList, hd]; exact hcap
  · refine List.ext_getElem? fun t => ?_
    rw [List.getElem?_take]
    split
    · rename_i ht
      rw [Array.length_toList] at ht
      have h1 := (hH t (by rw [size_flatK]; exact ht)).1
      rw [Nat.zero_add, cell_of_row _ g t _ _ _ hk] at h1
      rw [Array.getElem?_toList, h1, tflat_get (by rw [Array.length_toList]; exact ht), get_flatK _ _ _ _ ht]
      rfl
    · rename_i ht
      rw [List.getElem?_eq_none (by rw [flat_length tenc_len]; omega)]
  · exact size_sortWorldK_c tenc 7 w g 0 n d' os
  · intro i hi hne
    unfold sortWorldK
    rw [heap_grow_old _ _ (by rw [size_putRowK]; exact hi)]
    show ((Sort.ahead w n).heap.modify g (onCells _))[i]? = _
    rw [Array.getElem?_modify, if_neg (fun c => hne (by rw [c]))]
    rfl

theorem tsorted_list {bs : List TRec} {d' : Array TRec} (hp : PermIn 0 bs.length bs.toArray d') (hs : SortedIn olt 0 bs.length d') : d'.toList.Perm bs ∧ d'.toList.Pairwise (fun x y => ¬ kLt y.k x.k) := by
  have hz : d'.size = bs.length := by rw [hp.1, List.size_toArray]
  constructor
  · have h := hp.2.2
    rw [← hz, Array.extract_size, hz] at h
    have e : (bs.toArray.extract 0 bs.length) = bs.toArray := by
      have := Array.extract_size (xs := bs.toArray)
      rwa [List.size_toArray] at this
    rwa [e] at h
  · rw [List.pairwise_iff_getElem]
    intro i j hi hj hij
    rw [Array.length_toList] at hi hj
    have := hs i j (Nat.zero_le _) hij (by omega)
    rw [olt_no, getElem!_pos d' i hi, getElem!_pos d' j hj] at this
    simpa using this

set_option maxHeartbeats 2000000 in
theorem vins_none (p : Option Addr) (cap : Nat) (fv : Value) (w : World) :
    Calls Try.prog 54 #[.slice p 0 cap, .int .i64 0, .int .i64 0, fv] w fun e w' => e = .returned (.tuple #[]) ∧ w' = w := by
  go_enter Try.func54, Try.ntmps54
  go_wp2
  refine wp_loop_rounds 1 ?_
  rw [rounds_succ]
  go_wp2
  go_end0
  exact ⟨rfl, rfl⟩

set_option maxHeartbeats 2000000 in
theorem vpdq_none (p : Option Addr) (cap : Nat) (lim : Int) (fv : Value) (w : World) :
    Calls Try.prog 47 #[.slice p 0 cap, .int .i64 0, .int .i64 0, .int .i64 lim, fv] w fun e w' => e = .returned (.tuple #[]) ∧ w' = w := by
  have hi := fun W => vins_none p cap fv W
  go_enter Try.func47, Try.ntmps47
  go_wp2
  refine wp_loop_rounds 1 ?_
  rw [rounds_succ]
  go_wp2_with (go_at_call 54; refine (hi _).mono ?_; rintro e w' ⟨rfl, rfl⟩)
  (try simp only [Exit.inBlock, Exit.then]); refine bodyPost_ret (results_none rfl _ _ _) rfl ?_
  exact ⟨rfl, rfl⟩

set_option maxHeartbeats 2000000 in
theorem vsort_none (c : Nat) (fv : Value) (w : World) : Calls Try.prog 41 #[.slice none 0 c, fv] w fun e w' => e = .returned (.tuple #[]) ∧ w' = w := by
  have hp := fun lim W => vpdq_none none c lim fv W
  have hl : ∀ W, Calls Try.prog 48 #[.int .u64 0] W fun e w' => e = .returned (.int .i64 (Lib.bitLen 0 : Nat)) ∧ w' = W := fun W =>
    Any.bits_Len (SlLaysF0.n15.bits (P := Try.prog) (ρ := laysSrt_ren) { laysSrt with }) 0 W (by omega) (by omega)
  go_enter Try.func41, Try.ntmps41
  go_wp2_with (first | (go_at_call 48; refine (hl _).mono ?_; rintro e w' ⟨rfl, rfl⟩) | (go_at_call 47; refine (hp _ _).mono ?_; rintro e w' ⟨rfl, rfl⟩))
  go_end0
  exact ⟨rfl, rfl⟩

theorem vsort_any {D : Nat} {v : Value} {T cs : List TRec} (w : World) (hT : TSorted T) (hc : Coll T cs (fun _ => false)) (h : TROwn w D v cs) (hn : cs.length ≤ 1000) :
    Calls Try.prog 41 #[v, .func (.func 42) #[] #[]] w fun e w' => e = .returned (.tuple #[]) ∧ TROwn w' D v T ∧ w.grownBy w' v.ownBlock := by
  have hm : ∀ x, x ∈ cs ↔ x ∈ T := fun x => (hc.mem x).trans ⟨fun h => h.1, fun h => ⟨h, rfl⟩⟩
  rcases id h.2 with ⟨rfl, h0⟩ | ⟨g, cap, cur, rfl, _⟩
  · obtain rfl := List.length_eq_zero_iff.1 h0
    have e : T = [] := List.eq_nil_iff_forall_not_mem.2 (fun x hx => List.not_mem_nil ((hm x).2 hx))
    subst e
    refine (vsort_none _ _ w).mono ?_
    rintro e w' ⟨rfl, rfl⟩
    exact ⟨rfl, h, grownBy_refl _ _⟩
  · have eg : ∀ args w, (callFunc 42 args).run Try.prog w = .ok (.enter 42 args) w := enters_of Try.func42 (by kernel_rfl) rfl
    have hcon := AnyQ.slices_SortFunc laysSrt 7 Try.isAgg51 Try.sizeOf51 tenc tenc_len tenc_one ocf olt_swo 42 #[] g 0 cap cs.toArray w eg (vorder_lays _ _ _ _) (town_holds h).1 (town_holds h).2 (by rw [List.size_toArray]; omega)
    change Calls Try.prog 41 _ _ _ at hcon
    rw [List.size_toArray] at hcon
    refine hcon.mono ?_
    rintro e w' ⟨rfl, d', n, os, hp, hs, rfl⟩
    obtain ⟨h1, h2⟩ := tsorted_list hp hs
    have hd : d'.size = cs.length := by rw [hp.1, List.size_toArray]
    obtain ⟨h3, h4⟩ := town_of_sort (n := n) (os := os) h hd
    have e := same_records hT hm hc.apart h1 h2
    refine ⟨rfl, ?_, h4⟩
    rw [e] at h3
    have el : T.length = cs.length := by rw [← e, Array.length_toList, hd]
    rw [el] at h3
    exact h3

end Go.Proofs.Ytdhkmcmipkfkjaa
