/-
  A nil shadow; what statement ShadowNone answers: true, for every input.
-/
import Derived.Test.YtbhcafginmkaaaaGreatHALn
import Derived.Test.YtbhcafginmkaaaaGreatN46
import Derived.Test.YtbhcafginmkaaaaGreatN05
namespace Go.Proofs.YtbhcafginmkaaaaGreat
open Go.RowKit Go.Lib Go.Sort Go.Maps Go.Shelf Go.Proofs

set_option maxHeartbeats 1600000 in
set_option maxRecDepth 20000 in
theorem tadd_none (w : World) : Calls Tryz.prog 176 #[.pointer none, .slice none 0 0] w fun r w' => r = .returned (.int .i64 0) ∧ Below w.heap.size w w' := by
  have hmk := run_makeMap (P := Tryz.prog) 278 w
  go_enter Tryz.func176, Tryz.ntmps176
  go_upto_region 3 with fail
  obtain ⟨fb, hfb⟩ : ∃ fb, w.heap.size = fb := ⟨_, rfl⟩
  obtain ⟨w1, hw1⟩ : ∃ w1, w.alloc (.map #[] 0) = w1 := ⟨_, rfl⟩
  have M1 : Hid (TMap w1 fb 0 (fun _ => none)) := Hid.of (by rw [← hw1, ← hfb]; exact MapIs.made w)
  have B1 : Hid (Below w.heap.size w w1) := Hid.of (by rw [← hw1]; exact (Below.refl _ _).alloc (Nat.le_refl _) _)
  rw [hw1, hfb]
  clear hmk hw1 hfb
  go_wp2
  go_loopg [5, 14] 0 (fun kx nv iv wr => nv = .int .i64 0 ∧ iv = .int .i64 0 ∧ Hid (TMap wr fb 0 (fun _ => none)) ∧ Hid (Below w.heap.size w wr))
  case atStart => exact ⟨rfl, rfl, M1, B1⟩
  case round =>
    clear M1 B1
    obtain ⟨rfl, rfl, HM, HB⟩ := hrel
    have hmf := HM.out
    go_wp2_with (first
      | (at_range; refine wpList_range_text _ rfl _ 278 rfl 9 265 kT fT fb 0 _ rfl hmf ?_; intro w4 c4 hrg4 hc4 hg4 hs4)
      | go_in)
    generalize hwq : wr = wq at *
    obtain ⟨r0, hr0⟩ : ∃ r0, wq.heap.size = r0 := ⟨_, rfl⟩
    rw [hr0] at hrg4 ⊢
    have HB4 := Hid.of (HB.out.grown hg4 HB.out.size (fun j hj => by cases hj))
    have RG4 := Hid.of hrg4
    clear hmf hrg4 hg4 hs4 hr0
    simp only [Act.put, pA9, pB9, pC9]
    go_loopg [] 0 (fun kx wz => wz = w4)
    case atStart => rfl
    case round =>
      obtain rfl := hrel
      have hrg := RG4.out
      go_wp2_with (first
        | (at_next; refine wpList_next_text _ rfl _ rfl 9 kT fb r0 0 _ _ c4 rfl hrg ?_ ?_)
        | go_in)
      clear hrg
      intro h0
      clear h0
      go_wp2
      go_ret
      exact ⟨rfl, HB4.out⟩

theorem hNote_nil (w : World) (t : Value) (a : Option Addr) (n c : Nat) : Calls Tryz.prog 78 #[.pointer none, t, .slice a n c] w fun x w' => x = .returned (.tuple #[]) ∧ w' = w := by
  go_enter Tryz.func78, Tryz.ntmps78
  go_wp2_with fail
  refine (hBuilt_nil w t).mono ?_
  rintro e w1 ⟨rfl, rfl⟩
  go_wp2
  refine bodyPost_ret (results_none rfl _ _ _) rfl ?_
  exact ⟨rfl, rfl⟩

theorem hTrim_nil (w : World) (t : Value) : Calls Tryz.prog 80 #[.pointer none, t] w fun x w' => x = .returned (.int .i64 0) ∧ w' = w := by
  go_enter Tryz.func80, Tryz.ntmps80
  go_wp2_with fail
  refine (hBuilt_nil w t).mono ?_
  rintro e w1 ⟨rfl, rfl⟩
  go_wp2
  go_ret
  exact ⟨rfl, rfl⟩

theorem hLoad_nil (w : World) (i : Int) : Calls Tryz.prog 83 #[.pointer none, .int .i64 i, .slice none 0 0] w fun x w' => x = .returned (.int .i64 0) ∧ Below w.heap.size w w' := by
  go_enter Tryz.func83, Tryz.ntmps83
  go_wp2_with fail
  refine (hOpen_nil w i).mono ?_
  rintro e w1 ⟨rfl, rfl⟩
  go_wp2_with fail
  refine (tadd_none w1).mono ?_
  rintro e w2 ⟨rfl, b⟩
  go_wp2
  go_ret
  exact ⟨rfl, b⟩

theorem hNeed_nil (w : World) : Calls Tryz.prog 92 #[.pointer none] w fun x w' => x = .returned (.int .i64 0) ∧ w' = w := by
  go_enter Tryz.func92, Tryz.ntmps92
  go_wp2
  go_ret
  exact ⟨rfl, rfl⟩

theorem hCopy_nil (w : World) : Calls Tryz.prog 84 #[.pointer none] w fun x w' => x = .returned (.pointer none) ∧ w' = w := by
  go_enter Tryz.func84, Tryz.ntmps84
  go_wp2
  go_ret
  exact ⟨rfl, rfl⟩

set_option maxRecDepth 20000 in
theorem hStep_nil (w : World) (t : Value) : Calls Tryz.prog 76 #[.pointer none, t] w fun x w' => x = .returned (.tuple #[stVal 0 0 0, .pointer none, .int .i64 1]) ∧ Below w.heap.size w w' := by
  obtain ⟨z, w1, hz, hw1, b1, Z1⟩ := st_boxed (w := w) 0 0 0
  have f0 := row_frozen (i := 0) Z1
  have f1 := row_frozen (i := 1) Z1
  have f2 := row_frozen (i := 2) Z1
  obtain ⟨t0, t1, t2⟩ := sblk_at Z1
  obtain ⟨q0, q1, q2⟩ := sblk_at (sblk_set (k' := 0) (t' := 0) (s' := 0) Z1)
  have BN : Hid (Below w.heap.size w (setS w1 z 0 0 0)) := Hid.of (b1.grown (setS_grown _ _ _ _ _) b1.size (fun k hk => by cases hk; omega))
  unfold setS at q0 q1 q2 BN
  have HW := Hid.of hw1
  have HZ := Hid.of hz
  clear b1 Z1 hw1 hz
  go_enter Tryz.func76, Tryz.ntmps76
  go_upto_region 1 with fail
  rw [HW.out, HZ.out]
  clear HW
  go_wp2
  refine bodyPost_ret (v := .tuple #[.agg #[.int .i64 0, .int .i64 0, .int .i64 0], .pointer none, .int .i64 1]) ?_ rfl ⟨rfl, BN.out⟩
  simp [results, Tryz.results76, go_sem, q0, q1, q2]

set_option maxRecDepth 20000 in
theorem hResume_zero (w : World) (n : Int) : Calls Tryz.prog 74 #[.agg #[.string ⟨#[]⟩, .slice none 0 0, .slice none 0 0], .int .i64 n, .int .i64 0] w fun x w' => x = .returned (.tuple #[.pointer none, .int .i64 1]) ∧ Below w.heap.size w w' := by
  obtain ⟨z, hz⟩ : ∃ z, w.heap.size = z := ⟨_, rfl⟩
  obtain ⟨w1, hw1⟩ : ∃ w1, w.alloc (.cells #[.string ⟨#[]⟩, .slice none 0 0, .slice none 0 0] 49) = w1 := ⟨_, rfl⟩
  have b1 : Below w.heap.size w w1 := by rw [← hw1]; exact (Below.refl _ _).alloc (Nat.le_refl _) _
  have k1 : LBlk w1 z ⟨#[]⟩ (.slice none 0 0) (.slice none 0 0) := by rw [← hw1, ← hz]; exact (MapKept.heap_alloc w _).1
  have hst := steps_any (.agg #[.string ⟨#[]⟩, .slice none 0 0, .slice none 0 0]) ((⟨#[]⟩, []), []) w1 ⟨_, _, rfl, ⟨_, _, rfl, .inl rfl⟩, ⟨_, _, rfl, .inl rfl⟩, Nat.le_refl _, Nat.le_refl _⟩ ⟨⟨by simp, by decide, fun x hx => by cases hx⟩, by simp, fun x hx => by cases hx⟩
  rw [show mSteps ((⟨#[]⟩, []), []) = 0 from by decide +kernel] at hst
  obtain ⟨c0, c1, c2⟩ := lblk_at k1
  have B1 := Hid.of b1
  have HW := Hid.of hw1
  have HZ := Hid.of hz
  clear b1 k1 hw1 hz
  by_cases hn : n < 0
  · go_enter Tryz.func74, Tryz.ntmps74
    go_upto_region 1 with fail
    rw [HW.out, HZ.out]
    clear HW
    go_wp2
    go_ret2
    exact ⟨rfl, B1.out⟩
  · go_enter Tryz.func74, Tryz.ntmps74
    go_upto_region 1 with fail
    rw [HW.out, HZ.out]
    clear HW
    go_wp2_with fail
    refine hst.mono ?_
    rintro e w2 ⟨rfl, b2⟩
    have B2 := Hid.of (B1.out.trans (b2.mono B1.out.size))
    clear hst b2
    go_wp2
    go_ret2
    exact ⟨rfl, B2.out⟩

set_option maxRecDepth 20000 in
set_option maxHeartbeats 6400000 in
theorem shadowNone_main {TS : TableSpec} (S : TiersSpec TS) (hOk : ∀ w, S.Ok w) (nm : ByteArray) (st sx n : Int) (w : World) :
    Calls Tryz.prog 8 #[.agg #[.string nm, .int .i64 st, .int .i64 sx], .int .i64 n] w fun e w' => e = .returned (.bool true) ∧ Below w.heap.size w w' := by
  obtain ⟨z, hz⟩ : ∃ z, w.heap.size = z := ⟨_, rfl⟩
  obtain ⟨w1, hw1⟩ : ∃ w1, w.alloc (.cells #[.string nm, .int .i64 st, .int .i64 sx] 159) = w1 := ⟨_, rfl⟩
  have b1 : Below w.heap.size w w1 := by rw [← hw1]; exact (Below.refl _ _).alloc (Nat.le_refl _) _
  have k1 : w1.heap[z]? = some (.cells #[.string nm, .int .i64 st, .int .i64 sx] 159 (0, 0)) := by rw [← hw1, ← hz]; exact (MapKept.heap_alloc w _).1
  have lz : z < w1.heap.size := (Array.getElem?_eq_some_iff.1 k1).1
  have CS1 : Hid (Cs w1 [(⟨z, 0, none⟩, .string nm), (⟨z, 1, none⟩, .int .i64 st), (⟨z, 2, none⟩, .int .i64 sx)]) := Hid.of
    (.cons lz (by rw [cell_of_row _ _ _ _ _ _ k1]; rfl) (.cons lz (by rw [cell_of_row _ _ _ _ _ _ k1]; rfl) (.cons lz (by rw [cell_of_row _ _ _ _ _ _ k1]; rfl) (.nil _))))
  have B1 := Hid.of b1
  have HW := Hid.of hw1
  have HZ := Hid.of hz
  have OK := Hid.of hOk
  clear b1 k1 lz hw1 hz hOk
  obtain ⟨c0, c1, c2⟩ : w1.cell? ⟨z, 0, none⟩ = some (.string nm) ∧ w1.cell? ⟨z, 1, none⟩ = some (.int .i64 st) ∧ w1.cell? ⟨z, 2, none⟩ = some (.int .i64 sx) := ⟨CS1.out.head, CS1.out.tail.head, CS1.out.tail.tail.head⟩
  by_cases hbig : (60 : Int) < (nm.size : Int)
  · go_enter Tryz.func8, Tryz.ntmps8
    go_upto_region 1 with fail
    rw [HW.out, HZ.out]
    clear HW
    go_wp2_with fail
    refine (shadowAlive_any S OK.out w1).mono ?_
    rintro e w2 ⟨rfl, b2⟩
    have B2 := Hid.of (B1.out.trans (b2.mono B1.out.size))
    clear b2
    go_wp2
    go_ret
    exact ⟨rfl, B2.out⟩
  go_enter Tryz.func8, Tryz.ntmps8
  go_upto_region 1 with fail
  rw [HW.out, HZ.out]
  clear HW
  go_wp2_with fail
  refine (Web_any _).mono ?_
  rintro e w2 ⟨v, rfl, pr, b2⟩
  have B2 := Hid.of (B1.out.trans (b2.mono B1.out.size))
  have CS2 := Hid.of (CS1.out.next b2)
  have hnew := ha_tiers S OK.out v w2 pr
  clear b2 pr B1 CS1 c0 c1 c2
  go_wp2_with fail
  refine hnew.mono ?_
  rintro e w3 ⟨pt, F, rfl, -, -, b3⟩
  have B3 := Hid.of (B2.out.trans (b3.mono B2.out.size))
  have CS3 := Hid.of (CS2.out.next b3)
  clear hnew b3 B2 CS2
  go_wp2_with fail
  refine (Web_any _).mono ?_
  rintro e w4 ⟨v, rfl, pr, b4⟩
  have B4 := Hid.of (B3.out.trans (b4.mono B3.out.size))
  have CS4 := Hid.of (CS3.out.next b4)
  have hbg := hBegin_nil w4 v webPol pr
  clear pr b4 B3 CS3
  go_wp2_with fail
  refine hbg.mono ?_
  rintro e w5 ⟨rfl, b5⟩
  have B5 := Hid.of (B4.out.trans (b5.mono B4.out.size))
  have CS5 := Hid.of (CS4.out.next b5)
  clear hbg b5 B4 CS4
  go_wp2_with fail
  refine (hResume_zero w5 n).mono ?_
  rintro e w6 ⟨rfl, b6⟩
  have B6 := Hid.of (B5.out.trans (b6.mono B5.out.size))
  have CS6 := Hid.of (CS5.out.next b6)
  clear b6 B5 CS5
  obtain ⟨c0, c1, c2⟩ : w6.cell? ⟨z, 0, none⟩ = some (.string nm) ∧ w6.cell? ⟨z, 1, none⟩ = some (.int .i64 st) ∧ w6.cell? ⟨z, 2, none⟩ = some (.int .i64 sx) := ⟨CS6.out.head, CS6.out.tail.head, CS6.out.tail.tail.head⟩
  go_wp2_with fail
  obtain ⟨w7, hw7⟩ : ∃ w7, w6.alloc (.cells #[.string nm, .int .i64 st, .int .i64 sx] 159) = w7 := ⟨_, rfl⟩
  have B7 : Hid (Below w.heap.size w w7) := Hid.of (B6.out.trans ((by rw [← hw7]; exact (Below.refl _ _).alloc (Nat.le_refl _) _ : Below w6.heap.size w6 w7).mono B6.out.size))
  rw [hw7]
  clear hw7 B6 CS6 c0 c1 c2
  refine (hNote_nil w7 _ _ _ _).mono ?_
  rintro e w8 ⟨rfl, rfl⟩
  go_wp2_with fail
  refine (hStep_nil _ _).mono ?_
  rintro e w9 ⟨rfl, b9⟩
  have B9 := Hid.of (B7.out.trans (b9.mono B7.out.size))
  clear b9 B7
  obtain ⟨y1, w10, hy, hw10, b10, k10⟩ := st_boxed (w := w9) 0 0 0
  have B10 := Hid.of (B9.out.trans (b10.mono B9.out.size))
  have Y10 := Hid.of k10
  have HW := Hid.of hw10
  have HY := Hid.of hy
  clear hy hw10 b10 k10 B9
  go_upto_region 11 with fail
  rw [HW.out, HY.out]
  clear HW HY
  go_wp2_with fail
  refine (hNext_nil _).mono ?_
  rintro e w11 ⟨rfl, b11⟩
  have B11 := Hid.of (B10.out.trans (b11.mono B10.out.size))
  have Y11 := Hid.of (sblk_next Y10.out b11)
  clear b11 B10 Y10
  obtain ⟨y2, w12, hy, hw12, b12, k12⟩ := st_boxed (w := w11) 0 0 0
  have B12 := Hid.of (B11.out.trans (b12.mono B11.out.size))
  have Y12 := Hid.of (sblk_next Y11.out b12)
  have HW := Hid.of hw12
  have HY := Hid.of hy
  clear hy hw12 b12 k12 B11 Y11
  go_upto_region 12 with fail
  rw [HW.out, HY.out]
  clear HW HY
  go_wp2_with fail
  refine (shadowAlive_any S OK.out _).mono ?_
  rintro e w13 ⟨rfl, b13⟩
  have B13 := Hid.of (B12.out.trans (b13.mono B12.out.size))
  have Y13 := Hid.of (sblk_next Y12.out b13)
  clear b13 B12 Y12
  obtain ⟨t0, t1, t2⟩ := sblk_at Y13.out
  go_wp2_with fail
  refine (hBound_nil _).mono ?_
  rintro e w14 ⟨rfl, rfl⟩
  go_wp2_with fail
  refine (hDone_nil _).mono ?_
  rintro e w15 ⟨rfl, rfl⟩
  go_wp2_with fail
  refine (hTrim_nil _ _).mono ?_
  rintro e w16 ⟨rfl, rfl⟩
  clear t0 t1 t2 Y13
  go_wp2_with fail
  refine (hLoad_nil _ _).mono ?_
  rintro e w17 ⟨rfl, b17⟩
  have B17 := Hid.of (B13.out.trans (b17.mono B13.out.size))
  clear b17 B13
  go_wp2_with fail
  refine (hNeed_nil _).mono ?_
  rintro e w18 ⟨rfl, rfl⟩
  go_wp2_with fail
  refine (hRecords_nil _ _).mono ?_
  rintro e w19 ⟨rfl, b19⟩
  have B19 := Hid.of (B17.out.trans (b19.mono B17.out.size))
  clear b19 B17
  go_wp2_with fail
  refine (hFits_nil _ _).mono ?_
  rintro e w20 ⟨rfl, b20⟩
  have B20 := Hid.of (B19.out.trans (b20.mono B19.out.size))
  clear b20 B19
  go_wp2_with fail
  refine (hCopy_nil _).mono ?_
  rintro e w21 ⟨rfl, rfl⟩
  go_wp2
  go_ret
  exact ⟨rfl, B20.out⟩

end Go.Proofs.YtbhcafginmkaaaaGreat
