/-
  The document's own Valid and Put of records (sedimentref10).
-/
import Derived.Test.YtfgfgdchaoekfaaGreatDoorREQq
import Derived.Test.YtfgfgdchaoekfaaGreatDoorAGIq
import Derived.Test.YtfgfgdchaoekfaaGreatDoorQ16
namespace Go.Proofs.YtfgfgdchaoekfaaGreatDoor
open Go.RowKit Go.Lib

/-- A variable that holds one. -/
def RcB (w : World) (b : Nat) (x : TRec) : Prop := w.heap[b]? = some (.cells #[.string x.n, .int .i64 x.s, .int .i64 x.a.c, .int .i64 x.a.hi, .int .u64 x.a.lo, .int .i64 x.a.mn, .int .i64 x.a.mx] 50 (0, 0))
theorem RcB.at {w : World} {b : Nat} {x : TRec} (h : RcB w b x) : w.cell? ⟨b, 0, none⟩ = some (.string x.n) ∧ w.cell? ⟨b, 1, none⟩ = some (.int .i64 x.s) ∧ w.cell? ⟨b, 2, none⟩ = some (.int .i64 x.a.c) ∧ w.cell? ⟨b, 3, none⟩ = some (.int .i64 x.a.hi) ∧ w.cell? ⟨b, 4, none⟩ = some (.int .u64 x.a.lo) ∧ w.cell? ⟨b, 5, none⟩ = some (.int .i64 x.a.mn) ∧ w.cell? ⟨b, 6, none⟩ = some (.int .i64 x.a.mx) := by
  refine ⟨?_, ?_, ?_, ?_, ?_, ?_, ?_⟩ <;> (rw [cell_of_row w b _ _ _ _ h]; rfl)
theorem RcB.next {w w' : World} {b : Nat} {x : TRec} (h : RcB w b x) (c : Below w.heap.size w w') : RcB w' b x := (c.block b (Array.getElem?_eq_some_iff.1 h).1).trans h

set_option maxRecDepth 20000 in
set_option maxHeartbeats 1600000 in
theorem refValidRec_any (x : TRec) (hx : TFit x) (w : World) :
    Calls Tryz.prog 16 #[rcv x] w fun e w' => e = .returned (.bool (rcOk x)) ∧ Below w.heap.size w w' := by
  obtain ⟨y, hy⟩ : ∃ y, nOk x.n = y := ⟨_, rfl⟩
  obtain ⟨z, hz⟩ : ∃ z, agOk x.a = z := ⟨_, rfl⟩
  have res : rcOk x = (y && decide (0 ≤ x.s) && decide (x.s ≤ 1099511627776) && z) := by unfold rcOk; rw [hy, hz]
  obtain ⟨ok, hok⟩ : ∃ ok, rcOk x = ok := ⟨_, rfl⟩
  rw [hok] at res ⊢
  have RES := Hid.of res
  have HY := Hid.of hy
  have HZ := Hid.of hz
  have HX := Hid.of hx
  obtain ⟨b, hb⟩ : ∃ b, w.heap.size = b := ⟨_, rfl⟩
  obtain ⟨w1, hw1⟩ : ∃ w1, w.alloc (.cells #[.string x.n, .int .i64 x.s, .int .i64 x.a.c, .int .i64 x.a.hi, .int .u64 x.a.lo, .int .i64 x.a.mn, .int .i64 x.a.mx] 50) = w1 := ⟨_, rfl⟩
  have b1 : Below w.heap.size w w1 := by rw [← hw1]; exact (Below.refl _ _).alloc (Nat.le_refl _) _
  have B1 := Hid.of b1
  have R1 : Hid (RcB w1 b x) := Hid.of (by rw [← hw1, ← hb]; exact Go.heap_alloc_new _ _)
  have HW := Hid.of hw1
  have HB := Hid.of hb
  clear hy hz res hx hb hw1 b1 hok
  obtain ⟨c0, c1, c2, c3, c4, c5, c6⟩ := R1.out.at
  go_enter Tryz.func16, Tryz.ntmps16
  go_upto_region 1 with fail
  rw [HW.out, HB.out]
  go_wp2_with fail
  refine (refName_any x.n HX.out.1 _).mono ?_
  rintro e w2 ⟨rfl, q, rfl⟩
  rw [HY.out]
  have b2 : Below w1.heap.size w1 (w1.drewN q) := below_drewN (Below.refl _ _) q
  have R2 := Hid.of (R1.out.next b2)
  have B2 := Hid.of (B1.out.trans (b2.mono B1.out.size))
  clear b2 c0 c1 c2 c3 c4 c5 c6
  obtain ⟨c0, c1, c2, c3, c4, c5, c6⟩ := R2.out.at
  cases y
  · have ho : ok = false := by rw [RES.out]; rfl
    subst ho
    go_wp2
    go_ret
    exact ⟨rfl, B2.out⟩
  · by_cases h0 : 0 ≤ x.s
    · by_cases h1 : x.s ≤ 1099511627776
      · go_wp2_with fail
        refine (refValid_any x.a _).mono ?_
        rintro e w3 ⟨rfl, b3⟩
        rw [HZ.out]
        have ho : ok = z := by rw [RES.out, decide_eq_true h0, decide_eq_true h1]; rfl
        subst ho
        have B3 := Hid.of (B2.out.trans (b3.mono B2.out.size))
        clear b3
        go_wp2
        go_ret
        exact ⟨rfl, B3.out⟩
      · have ho : ok = false := by rw [RES.out, decide_eq_false h1]; simp
        subst ho
        go_wp2
        go_ret
        exact ⟨rfl, B2.out⟩
    · have ho : ok = false := by rw [RES.out, decide_eq_false h0]; simp
      subst ho
      go_wp2
      go_ret
      exact ⟨rfl, B2.out⟩

end Go.Proofs.YtfgfgdchaoekfaaGreatDoor
