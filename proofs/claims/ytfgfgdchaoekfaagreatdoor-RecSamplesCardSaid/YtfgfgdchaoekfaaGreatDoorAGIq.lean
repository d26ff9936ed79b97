/-
  What function GetAgg of the document's own answers.
-/
import Derived.Test.YtfgfgdchaoekfaaGreatDoorQ23
namespace Go.Proofs.YtfgfgdchaoekfaaGreatDoor
open Go.RowKit Go.Lib

/-- Block u is the document's Unpacker, k bytes of b being read. -/
def RAt (u : Nat) (b : ByteArray) (k : Nat) (w : World) : Prop := ∃ r : ByteArray, RUn u r w ∧ r.data.toList = b.data.toList.drop k

theorem RAt.lt {u : Nat} {b : ByteArray} {k : Nat} {w : World} (h : RAt u b k w) : u < w.heap.size := by
  obtain ⟨r, h, _⟩ := h; exact h.lt

theorem RAt.grown {u p : Nat} {b : ByteArray} {k : Nat} {w w' : World} (h : RAt u b k w) (hg : w.grownBy w' (some p)) (hne : u ≠ p) : RAt u b k w' := by
  obtain ⟨r, h, hr⟩ := h
  refine ⟨r, ?_, hr⟩
  unfold RUn
  rw [hg.block u h.lt (by simpa using hne)]
  exact h

theorem RAt.alloc {u : Nat} {b : ByteArray} {k : Nat} {w : World} (h : RAt u b k w) (o : Obj) : RAt u b k (w.alloc o) := by
  obtain ⟨r, h, hr⟩ := h
  exact ⟨r, row_alloc h, hr⟩

theorem rest_size {r b : ByteArray} {k : Nat} (hr : r.data.toList = b.data.toList.drop k) : r.size = b.size - k := by
  rw [← byte_len, hr, List.length_drop, byte_len]

theorem refInt_at (u : Nat) (b : ByteArray) (k : Nat) (x : Int) (hx : wrap64 (chunk b k) = x) (hn : k + 8 ≤ b.size) (w : World) (h : RAt u b k w) :
    Calls Tryz.prog 37 #[.pointer (some ⟨u, 0, none⟩)] w fun e w' => e = .returned (.int .i64 x) ∧ RAt u b (k + 8) w' ∧ w.grownBy w' (some u) := by
  obtain ⟨r, h, hr⟩ := h
  refine (refInt_goodU u r (by rw [rest_size hr]; omega) w h).mono ?_
  rintro e w' ⟨rfl, h1, h2⟩
  rw [hr]
  refine ⟨by rw [← hx]; rfl, ⟨_, h1, ?_⟩, h2⟩
  have hs := rest_size hr
  have e : r.extract 8 r.size = r.extract 8 (8 + (r.size - 8)) := by congr 1; omega
  rw [e, extract_list, hr, List.drop_drop, List.take_of_length_le (by rw [List.length_drop, byte_len]; omega)]

theorem refWord_at (u : Nat) (b : ByteArray) (k : Nat) (x : Int) (hx : ((chunk b k : Nat) : Int) = x) (hn : k + 8 ≤ b.size) (w : World) (h : RAt u b k w) :
    Calls Tryz.prog 99 #[.pointer (some ⟨u, 0, none⟩)] w fun e w' => e = .returned (.int .u64 x) ∧ RAt u b (k + 8) w' ∧ w.grownBy w' (some u) := by
  obtain ⟨r, h, hr⟩ := h
  refine (refWord_goodU u r (by rw [rest_size hr]; omega) w h).mono ?_
  rintro e w' ⟨rfl, h1, h2⟩
  rw [hr]
  refine ⟨by rw [← hx]; rfl, ⟨_, h1, ?_⟩, h2⟩
  have hs := rest_size hr
  have e : r.extract 8 r.size = r.extract 8 (8 + (r.size - 8)) := by congr 1; omega
  rw [e, extract_list, hr, List.drop_drop, List.take_of_length_le (by rw [List.length_drop, byte_len]; omega)]

theorem AgBlk.set0 {w : World} {p : Nat} {c hi lo mn mx : Int} (h : AgBlk w p ⟨c, hi, lo, mn, mx⟩) (x : Int) : AgBlk (w.setCell ⟨p, 0, none⟩ (.int .i64 x)) p ⟨x, hi, lo, mn, mx⟩ := row_set h _
theorem AgBlk.set1 {w : World} {p : Nat} {c hi lo mn mx : Int} (h : AgBlk w p ⟨c, hi, lo, mn, mx⟩) (x : Int) : AgBlk (w.setCell ⟨p, 1, none⟩ (.int .i64 x)) p ⟨c, x, lo, mn, mx⟩ := row_set h _
theorem AgBlk.set2 {w : World} {p : Nat} {c hi lo mn mx : Int} (h : AgBlk w p ⟨c, hi, lo, mn, mx⟩) (x : Int) : AgBlk (w.setCell ⟨p, 2, none⟩ (.int .u64 x)) p ⟨c, hi, x, mn, mx⟩ := row_set h _
theorem AgBlk.set3 {w : World} {p : Nat} {c hi lo mn mx : Int} (h : AgBlk w p ⟨c, hi, lo, mn, mx⟩) (x : Int) : AgBlk (w.setCell ⟨p, 3, none⟩ (.int .i64 x)) p ⟨c, hi, lo, x, mx⟩ := row_set h _
theorem AgBlk.set4 {w : World} {p : Nat} {c hi lo mn mx : Int} (h : AgBlk w p ⟨c, hi, lo, mn, mx⟩) (x : Int) : AgBlk (w.setCell ⟨p, 4, none⟩ (.int .i64 x)) p ⟨c, hi, lo, mn, x⟩ := row_set h _

set_option maxHeartbeats 1600000 in
theorem refGet_full (b : ByteArray) (h : b.size = 40) (f : Bool) (hf : agOk (agRead b) = f) (w : World) : Calls Tryz.prog 38 #[.string b] w fun e w' => e = .returned (.tuple #[agv (if f = true then agRead b else agZero), .int .i64 (if f = true then 0 else 6)]) ∧ Below w.heap.size w w' := by
  have hd : ((b.size : Int) == 40) = true := by simpa using (by omega : (b.size : Int) = 40)
  have hd2 : ((b.size : Int) != 40) = false := by simp [bne, hd]
  have HS := Hid.of h
  obtain ⟨x, hx⟩ : ∃ x, agRead b = x := ⟨_, rfl⟩
  have X0 : Hid (wrap64 (chunk b 0) = x.c) := Hid.of (by rw [← hx]; rfl)
  have X1 : Hid (wrap64 (chunk b 8) = x.hi) := Hid.of (by rw [← hx]; rfl)
  have X2 : Hid (((chunk b 16 : Nat) : Int) = x.lo) := Hid.of (by rw [← hx]; rfl)
  have X3 : Hid (wrap64 (chunk b 24) = x.mn) := Hid.of (by rw [← hx]; rfl)
  have X4 : Hid (wrap64 (chunk b 32) = x.mx) := Hid.of (by rw [← hx]; rfl)
  rw [hx] at hf ⊢
  have HF := Hid.of hf
  clear h hf hx
  obtain ⟨c, hi, lo, mn, mx⟩ := x
  go_enter Tryz.func38, Tryz.ntmps38
  go_wp2_with fail
  have R0 : Hid (RAt (w.heap.size + 1) b 0 (((w.alloc (.cells (agCells agZero) 48)).alloc (.cells #[.string b, .int .i64 0] 82)).alloc (.cells (agCells agZero) 48))) := Hid.of (RAt.alloc ⟨b, by have := RUn.new (w.alloc (.cells (agCells agZero) 48)) b; simpa using this, by simp⟩ _)
  have V0 : Hid (AgBlk (((w.alloc (.cells (agCells agZero) 48)).alloc (.cells #[.string b, .int .i64 0] 82)).alloc (.cells (agCells agZero) 48)) (w.heap.size + 1 + 1) ⟨0, 0, 0, 0, 0⟩) := Hid.of (AgBlk.made _ agZero _ _ (by simp) (by rfl))
  have G0 := Hid.of (((AgBlk.new w agZero).alloc (.cells #[.string b, .int .i64 0] 82)).alloc (.cells (agCells agZero) 48))
  have B0 := Hid.of ((((Below.refl w.heap.size w).alloc (Nat.le_refl _) (.cells (agCells agZero) 48)).alloc (by simp) (.cells #[.string b, .int .i64 0] 82)).alloc (by simp; omega) (.cells (agCells agZero) 48))
  clear hd hd2
  refine (refInt_at _ b 0 c X0.out (by rw [HS.out]; decide) _ R0.out).mono ?_
  rintro e w1 ⟨rfl, r1, g1⟩
  have V := Hid.of (V0.out.grown g1 (by omega))
  have R := Hid.of r1
  have G := Hid.of (G0.out.grown g1 (by omega))
  have B := Hid.of (B0.out.trans (Below.of_grown g1 (by omega) R0.out.lt))
  have fz := V.out.frozen
  obtain ⟨q0, q1, q2, q3, q4⟩ := V.out.at
  have lt1 := V.out.lt
  have R1 := Hid.of (R.out.grown (grownBy_setCell w1 (w.heap.size + 1 + 1) 0 (.int .i64 c)) (by omega))
  have V1 := Hid.of (V.out.set0 c)
  have G1 := Hid.of (G.out.grown (grownBy_setCell w1 (w.heap.size + 1 + 1) 0 (.int .i64 c)) (by omega))
  have B1 := Hid.of (B.out.setCell (p := ⟨w.heap.size + 1 + 1, 0, none⟩) (by simp; omega) (.int .i64 c))
  clear r1 g1 V0 R0 G0 B0 V R G B X0
  go_wp2_with fail
  clear fz q0 q1 q2 q3 q4 lt1
  refine (refInt_at _ b 8 hi X1.out (by rw [HS.out]; decide) _ R1.out).mono ?_
  rintro e w2 ⟨rfl, r2, g2⟩
  have V := Hid.of (V1.out.grown g2 (by omega))
  have R := Hid.of r2
  have G := Hid.of (G1.out.grown g2 (by omega))
  have B := Hid.of (B1.out.trans (Below.of_grown g2 (by omega) R1.out.lt))
  have fz := V.out.frozen
  obtain ⟨q0, q1, q2, q3, q4⟩ := V.out.at
  have lt1 := V.out.lt
  have R2 := Hid.of (R.out.grown (grownBy_setCell w2 (w.heap.size + 1 + 1) 1 (.int .i64 hi)) (by omega))
  have V2 := Hid.of (V.out.set1 hi)
  have G2 := Hid.of (G.out.grown (grownBy_setCell w2 (w.heap.size + 1 + 1) 1 (.int .i64 hi)) (by omega))
  have B2 := Hid.of (B.out.setCell (p := ⟨w.heap.size + 1 + 1, 1, none⟩) (by simp; omega) (.int .i64 hi))
  clear r2 g2 V1 R1 G1 B1 V R G B X1
  go_wp2_with fail
  clear fz q0 q1 q2 q3 q4 lt1
  refine (refWord_at _ b 16 lo X2.out (by rw [HS.out]; decide) _ R2.out).mono ?_
  rintro e w3 ⟨rfl, r3, g3⟩
  have V := Hid.of (V2.out.grown g3 (by omega))
  have R := Hid.of r3
  have G := Hid.of (G2.out.grown g3 (by omega))
  have B := Hid.of (B2.out.trans (Below.of_grown g3 (by omega) R2.out.lt))
  have fz := V.out.frozen
  obtain ⟨q0, q1, q2, q3, q4⟩ := V.out.at
  have lt1 := V.out.lt
  have R3 := Hid.of (R.out.grown (grownBy_setCell w3 (w.heap.size + 1 + 1) 2 (.int .u64 lo)) (by omega))
  have V3 := Hid.of (V.out.set2 lo)
  have G3 := Hid.of (G.out.grown (grownBy_setCell w3 (w.heap.size + 1 + 1) 2 (.int .u64 lo)) (by omega))
  have B3 := Hid.of (B.out.setCell (p := ⟨w.heap.size + 1 + 1, 2, none⟩) (by simp; omega) (.int .u64 lo))
  clear r3 g3 V2 R2 G2 B2 V R G B X2
  go_wp2_with fail
  clear fz q0 q1 q2 q3 q4 lt1
  refine (refInt_at _ b 24 mn X3.out (by rw [HS.out]; decide) _ R3.out).mono ?_
  rintro e w4 ⟨rfl, r4, g4⟩
  have V := Hid.of (V3.out.grown g4 (by omega))
  have R := Hid.of r4
  have G := Hid.of (G3.out.grown g4 (by omega))
  have B := Hid.of (B3.out.trans (Below.of_grown g4 (by omega) R3.out.lt))
  have fz := V.out.frozen
  obtain ⟨q0, q1, q2, q3, q4⟩ := V.out.at
  have lt1 := V.out.lt
  have R4 := Hid.of (R.out.grown (grownBy_setCell w4 (w.heap.size + 1 + 1) 3 (.int .i64 mn)) (by omega))
  have V4 := Hid.of (V.out.set3 mn)
  have G4 := Hid.of (G.out.grown (grownBy_setCell w4 (w.heap.size + 1 + 1) 3 (.int .i64 mn)) (by omega))
  have B4 := Hid.of (B.out.setCell (p := ⟨w.heap.size + 1 + 1, 3, none⟩) (by simp; omega) (.int .i64 mn))
  clear r4 g4 V3 R3 G3 B3 V R G B X3
  go_wp2_with fail
  clear fz q0 q1 q2 q3 q4 lt1
  refine (refInt_at _ b 32 mx X4.out (by rw [HS.out]; decide) _ R4.out).mono ?_
  rintro e w5 ⟨rfl, r5, g5⟩
  have V := Hid.of (V4.out.grown g5 (by omega))
  have R := Hid.of r5
  have G := Hid.of (G4.out.grown g5 (by omega))
  have B := Hid.of (B4.out.trans (Below.of_grown g5 (by omega) R4.out.lt))
  have fz := V.out.frozen
  obtain ⟨q0, q1, q2, q3, q4⟩ := V.out.at
  have lt1 := V.out.lt
  have R5 := Hid.of (R.out.grown (grownBy_setCell w5 (w.heap.size + 1 + 1) 4 (.int .i64 mx)) (by omega))
  have V5 := Hid.of (V.out.set4 mx)
  have G5 := Hid.of (G.out.grown (grownBy_setCell w5 (w.heap.size + 1 + 1) 4 (.int .i64 mx)) (by omega))
  have B5 := Hid.of (B.out.setCell (p := ⟨w.heap.size + 1 + 1, 4, none⟩) (by simp; omega) (.int .i64 mx))
  clear r5 g5 V4 R4 G4 B4 V R G B X4
  go_wp2_with fail
  refine (refValid_any ⟨c, hi, lo, mn, mx⟩ _).mono ?_
  rintro e w6 ⟨rfl, b6⟩
  rw [HF.out]
  have G6 := Hid.of (G5.out.kept b6)
  have V6 := Hid.of (V5.out.kept b6)
  have B6 := Hid.of (B5.out.trans (b6.mono B5.out.size))
  clear b6 G5 V5 B5 R5 q0 q1 q2 q3 q4 fz lt1
  obtain ⟨q0, q1, q2, q3, q4⟩ := G6.out.at
  obtain ⟨p0, p1, p2, p3, p4⟩ := V6.out.at
  have fz := G6.out.frozen
  have lt6 := G6.out.lt
  cases f
  · go_wp2
    refine bodyPost_ret (v := .tuple #[agv agZero, .int .i64 6]) ?_ rfl ⟨rfl, ?_⟩
    · simp [results, Tryz.results38, go_sem, q0, q1, q2, q3, q4, agZero]
    · exact below_set5 B6.out (Nat.le_refl _) agZero
  · go_wp2
    refine bodyPost_ret (v := .tuple #[agv ⟨c, hi, lo, mn, mx⟩, .int .i64 0]) ?_ rfl ⟨rfl, ?_⟩
    · simp [results, Tryz.results38, go_sem, q0, q1, q2, q3, q4]
    · exact below_set5 B6.out (Nat.le_refl _) ⟨c, hi, lo, mn, mx⟩

end Go.Proofs.YtfgfgdchaoekfaaGreatDoor
