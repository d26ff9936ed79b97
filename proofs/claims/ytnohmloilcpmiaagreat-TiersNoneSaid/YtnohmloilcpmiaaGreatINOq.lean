/-
  Nil tiers; what statement TiersNone answers: true, for every input.
-/
import Derived.Test.YtnohmloilcpmiaaGreatQ51
import Derived.Test.YtnohmloilcpmiaaGreatQ28
namespace Go.Proofs.YtnohmloilcpmiaaGreat
open Go.RowKit Go.Lib

theorem iput_nil (w : World) (ua : Option Addr) (n c : Nat) : Calls Tryz.prog 12 #[.pointer none, .slice ua n c] w fun x w' => x = .returned (.int .i64 1) ∧ w' = w := by
  have hm : Calls Tryz.prog 51 #[.pointer none, .slice ua n c] w fun x w' => x = .returned (.int .i64 1) ∧ w' = w := by
    go_enter Tryz.func51, Tryz.ntmps51
    go_wp2_with fail
    refine (iNone_nil w).mono ?_
    rintro e w1 ⟨rfl, rfl⟩
    go_wp2
    go_ret
    exact ⟨rfl, rfl⟩
  go_enter Tryz.func12, Tryz.ntmps12
  go_wp2_with fail
  refine hm.mono ?_
  rintro e w1 ⟨rfl, rfl⟩
  go_wp2
  go_ret
  exact ⟨rfl, rfl⟩

theorem itick_nil (w : World) (n : Int) : Calls Tryz.prog 13 #[.pointer none, .int .i64 n] w fun x w' => x = .returned (.int .i64 1) ∧ w' = w := by
  go_enter Tryz.func13, Tryz.ntmps13
  go_wp2_with fail
  refine (iNone_nil w).mono ?_
  rintro e w1 ⟨rfl, rfl⟩
  go_wp2
  go_ret
  exact ⟨rfl, rfl⟩

theorem iload_nil (w : World) (n : Int) (v : Value) : Calls Tryz.prog 14 #[.pointer none, .int .i64 n, v] w fun x w' => x = .returned (.int .i64 0) ∧ w' = w := by
  go_enter Tryz.func14, Tryz.ntmps14
  go_wp2_with fail
  refine (iAt_nil w n).mono ?_
  rintro e w1 ⟨rfl, rfl⟩
  go_wp2
  go_ret
  exact ⟨rfl, rfl⟩

theorem itable_nil (w : World) (n : Int) : Calls Tryz.prog 15 #[.pointer none, .int .i64 n] w fun x w' => x = .returned (.pointer none) ∧ w' = w := by
  go_enter Tryz.func15, Tryz.ntmps15
  go_wp2_with fail
  refine (iAt_nil w n).mono ?_
  rintro e w1 ⟨rfl, rfl⟩
  go_wp2_with fail
  refine (tnil.copy _).mono ?_
  rintro e w2 ⟨rfl, rfl⟩
  go_wp2
  go_ret
  exact ⟨rfl, rfl⟩

theorem irecords_nil (w : World) (n : Int) : Calls Tryz.prog 16 #[.pointer none, .int .i64 n] w fun x w' => x = .returned (.slice none 0 0) ∧ Below w.heap.size w w' := by
  go_enter Tryz.func16, Tryz.ntmps16
  go_wp2_with fail
  refine (iAt_nil w n).mono ?_
  rintro e w1 ⟨rfl, rfl⟩
  go_wp2_with fail
  refine (tnil.all _).mono ?_
  rintro e w2 ⟨rfl, b2⟩
  have B2 := Hid.of b2
  clear b2
  go_wp2
  go_ret
  exact ⟨rfl, B2.out⟩

theorem ineed_nil (w : World) : Calls Tryz.prog 17 #[.pointer none] w fun x w' => x = .returned (.int .i64 0) ∧ w' = w := by
  go_enter Tryz.func17, Tryz.ntmps17
  go_wp2
  go_ret
  exact ⟨rfl, rfl⟩

theorem ilen_nil (w : World) : Calls Tryz.prog 18 #[.pointer none] w fun x w' => x = .returned (.int .i64 0) ∧ w' = w := by
  go_enter Tryz.func18, Tryz.ntmps18
  go_wp2
  go_ret
  exact ⟨rfl, rfl⟩

theorem iempty_nil (w : World) : Calls Tryz.prog 19 #[.pointer none] w fun x w' => x = .returned (.bool true) ∧ w' = w := by
  go_enter Tryz.func19, Tryz.ntmps19
  go_wp2_with fail
  refine (ilen_nil w).mono ?_
  rintro e w1 ⟨rfl, rfl⟩
  go_wp2
  go_ret
  exact ⟨rfl, rfl⟩

theorem isame_nil (w : World) : Calls Tryz.prog 20 #[.pointer none, .pointer none] w fun x w' => x = .returned (.bool true) ∧ w' = w := by
  go_enter Tryz.func20, Tryz.ntmps20
  go_wp2
  go_ret
  exact ⟨rfl, rfl⟩

theorem icopy_nil (w : World) : Calls Tryz.prog 21 #[.pointer none] w fun x w' => x = .returned (.pointer none) ∧ w' = w := by
  go_enter Tryz.func21, Tryz.ntmps21
  go_wp2
  go_ret
  exact ⟨rfl, rfl⟩

set_option maxRecDepth 20000 in
set_option maxHeartbeats 800000 in
theorem iask_nil (w : World) (n : ByteArray) (a b : Int) : Calls Tryz.prog 11 #[.pointer none, .string n, .int .i64 a, .int .i64 b] w fun x w' => x = .returned (.tuple #[ansVal 0 (.slice none 0 0), .int .i64 1]) ∧ Below w.heap.size w w' := by
  obtain ⟨z, hz⟩ : ∃ z, w.heap.size = z := ⟨_, rfl⟩
  obtain ⟨w1, hw1⟩ : ∃ w1, w.alloc (.cells #[.int .i64 0, .slice none 0 0] 28) = w1 := ⟨_, rfl⟩
  have b1 : Below w.heap.size w w1 := by rw [← hw1]; exact (Below.refl _ _).alloc (Nat.le_refl _) _
  have z3 : w1.heap[z]? = some (.cells #[.int .i64 0, .slice none 0 0] 28 (0, 0)) := by rw [← hw1, ← hz]; exact (MapKept.heap_alloc w _).1
  have B1 := Hid.of b1
  have HZ : Hid (w.heap.size = z) := Hid.of hz
  have HW := Hid.of hw1
  have y0 := row_frozen (i := 0) z3
  have y1 := row_frozen (i := 1) z3
  have t0 : w1.cell? ⟨z, 0, none⟩ = some (.int .i64 0) := by rw [cell_of_row _ _ _ _ _ _ z3]; rfl
  have t1 : w1.cell? ⟨z, 1, none⟩ = some (.slice none 0 0) := by rw [cell_of_row _ _ _ _ _ _ z3]; rfl
  have z7 := row_set (i := 1) (row_set (i := 0) z3 (.int .i64 0)) (.slice none 0 0)
  have g7 : w1.grownBy ((w1.setCell ⟨z, 0, none⟩ (.int .i64 0)).setCell ⟨z, 1, none⟩ (.slice none 0 0)) (some z) := grownBy_trans (grownBy_setCell _ _ _ _) (grownBy_setCell _ _ _ _)
  obtain ⟨w7, hw7⟩ : ∃ w7, (w1.setCell ⟨z, 0, none⟩ (.int .i64 0)).setCell ⟨z, 1, none⟩ (.slice none 0 0) = w7 := ⟨_, rfl⟩
  rw [hw7] at z7 g7
  have B7 : Hid (Below w.heap.size w w7) := Hid.of (B1.out.grown g7 B1.out.size (fun k hk => by cases hk; exact Nat.le_of_eq HZ.out))
  have q0 : w7.cell? ⟨z, 0, none⟩ = some (.int .i64 0) := by rw [cell_of_row _ _ _ _ _ _ z7]; simp
  have q1 : w7.cell? ⟨z, 1, none⟩ = some (.slice none 0 0) := by rw [cell_of_row _ _ _ _ _ _ z7]; simp
  clear b1 z3 z7 g7 hz hw1
  go_enter Tryz.func11, Tryz.ntmps11
  go_upto_region 1 with fail
  rw [HW.out, HZ.out]
  clear HW
  go_wp2_with fail
  refine (iNone_nil w1).mono ?_
  rintro e w2 ⟨rfl, rfl⟩
  go_wp2
  refine bodyPost_ret (v := .tuple #[ansVal 0 (.slice none 0 0), .int .i64 1]) ?_ rfl ⟨rfl, B7.out⟩
  simp [results, Tryz.results11, go_sem, q0, q1]

set_option maxRecDepth 20000 in
set_option maxHeartbeats 3200000 in
theorem tiersNone_main (nm : ByteArray) (t x n : Int) (w : World) :
    Calls Tryz.prog 3 #[.agg #[.string nm, .int .i64 t, .int .i64 x], .int .i64 n] w fun e w' => e = .returned (.bool true) ∧ Below w.heap.size w w' := by
  obtain ⟨z, hz⟩ : ∃ z, w.heap.size = z := ⟨_, rfl⟩
  obtain ⟨w1, hw1⟩ : ∃ w1, w.alloc (.cells #[.string nm, .int .i64 t, .int .i64 x] 23) = w1 := ⟨_, rfl⟩
  have CS1 : Hid (Cs w1 [(⟨z, 0, none⟩, .string nm), (⟨z, 1, none⟩, .int .i64 t), (⟨z, 2, none⟩, .int .i64 x)]) := Hid.of (by rw [← hw1, ← hz]; exact sam_cs w nm t x (.nil _))
  have B1 : Hid (Below w.heap.size w w1) := Hid.of (by rw [← hw1]; exact (Below.refl _ _).alloc (Nat.le_refl _) _)
  have HZ := Hid.of hz
  have HW := Hid.of hw1
  have d0 := CS1.out.head
  clear hz hw1
  by_cases hl : 60 < nm.size
  · have hl1 : (nm.size : Int) > 60 := by omega
    go_enter Tryz.func3, Tryz.ntmps3
    go_upto_region 1 with fail
    rw [HW.out, HZ.out]
    clear HW HZ
    go_wp2_with fail
    refine (tiersAlive_any tiers _ trivial).mono ?_
    rintro e w2 ⟨rfl, b2⟩
    have B2 := Hid.of (B1.out.trans (b2.mono B1.out.size))
    clear b2 d0
    go_wp2
    go_ret
    exact ⟨rfl, B2.out⟩
  · have hl1 : ¬ (nm.size : Int) > 60 := by omega
    go_enter Tryz.func3, Tryz.ntmps3
    go_upto_region 1 with fail
    rw [HW.out, HZ.out]
    clear HW HZ
    go_wp2_with fail
    refine (iask_nil _ _ 0 1).mono ?_
    rintro e w2 ⟨rfl, b2⟩
    have B2 := Hid.of (B1.out.trans (b2.mono B1.out.size))
    have CS2 := Hid.of (CS1.out.next b2)
    clear b2 d0 CS1 B1 hl hl1
    obtain ⟨y, hy⟩ : ∃ y, w2.heap.size = y := ⟨_, rfl⟩
    obtain ⟨w3, hw3⟩ : ∃ w3, w2.alloc (.cells #[.int .i64 0, .slice none 0 0] 28) = w3 := ⟨_, rfl⟩
    have z3 : w3.heap[y]? = some (.cells #[.int .i64 0, .slice none 0 0] 28 (0, 0)) := by rw [← hw3, ← hy]; exact (MapKept.heap_alloc w2 _).1
    have b3 : Below w2.heap.size w2 w3 := by rw [← hw3]; exact (Below.refl _ _).alloc (Nat.le_refl _) _
    have CS3 : Hid (Cs w3 [(⟨z, 0, none⟩, .string nm), (⟨z, 1, none⟩, .int .i64 t), (⟨z, 2, none⟩, .int .i64 x), (⟨y, 1, none⟩, .slice none 0 0)]) := Hid.of (by
      have c := CS2.out.next b3
      have hl := (Array.getElem?_eq_some_iff.1 z3).1
      exact .cons (c _ (List.mem_cons_self ..)).1 c.head (.cons (c _ (List.mem_cons_self ..)).1 c.tail.head (.cons (c _ (List.mem_cons_self ..)).1 c.tail.tail.head (.cons hl (by rw [cell_of_row _ _ _ _ _ _ z3]; rfl) (.nil _)))))
    have B3 := Hid.of (B2.out.trans (b3.mono B2.out.size))
    have HY := Hid.of hy
    have HW3 := Hid.of hw3
    clear z3 b3 CS2 B2 hy hw3
    go_upto_region 5 with fail
    rw [HW3.out, HY.out]
    clear HW3 HY
    go_wp2_with fail
    refine (tiersAlive_any tiers _ trivial).mono ?_
    rintro e w4 ⟨rfl, b4⟩
    have CS4 := Hid.of (CS3.out.next b4)
    have B4 := Hid.of (B3.out.trans (b4.mono B3.out.size))
    clear b4 CS3 B3
    have e0 := CS4.out.head
    have e1 := CS4.out.tail.head
    have e2 := CS4.out.tail.tail.head
    go_wp2_with fail
    clear e0 e1 e2
    obtain ⟨w5, hw5⟩ : ∃ w5, w4.alloc (.cells #[.string nm, .int .i64 t, .int .i64 x] 23) = w5 := ⟨_, rfl⟩
    have b5 : Below w4.heap.size w4 w5 := by rw [← hw5]; exact (Below.refl _ _).alloc (Nat.le_refl _) _
    have CS5 := Hid.of (CS4.out.next b5)
    have B5 := Hid.of (B4.out.trans (b5.mono B4.out.size))
    rw [hw5]
    clear hw5 b5 CS4 B4
    refine (iput_nil w5 _ 1 1).mono ?_
    rintro e w6 ⟨rfl, rfl⟩
    go_wp2_with fail
    refine (itick_nil _ n).mono ?_
    rintro e w6 ⟨rfl, rfl⟩
    go_wp2_with fail
    refine (iload_nil _ n _).mono ?_
    rintro e w6 ⟨rfl, rfl⟩
    have e3 := CS5.out.tail.tail.tail.head
    go_wp2_with fail
    refine (itable_nil _ n).mono ?_
    rintro e w6 ⟨rfl, rfl⟩
    go_wp2_with fail
    refine (irecords_nil _ n).mono ?_
    rintro e w7 ⟨rfl, b7⟩
    have B7 := Hid.of (B5.out.trans (b7.mono B5.out.size))
    clear b7 e3
    go_wp2_with fail
    refine (ineed_nil _).mono ?_
    rintro e w8 ⟨rfl, rfl⟩
    go_wp2_with fail
    refine (ilen_nil _).mono ?_
    rintro e w8 ⟨rfl, rfl⟩
    go_wp2_with fail
    refine (iempty_nil _).mono ?_
    rintro e w8 ⟨rfl, rfl⟩
    go_wp2_with fail
    refine (isame_nil _).mono ?_
    rintro e w8 ⟨rfl, rfl⟩
    go_wp2_with fail
    refine (icopy_nil _).mono ?_
    rintro e w8 ⟨rfl, rfl⟩
    go_wp2
    go_ret
    exact ⟨rfl, B7.out⟩

end Go.Proofs.YtnohmloilcpmiaaGreat
