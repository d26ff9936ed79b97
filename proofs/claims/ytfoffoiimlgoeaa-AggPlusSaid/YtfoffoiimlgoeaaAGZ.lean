/-
  What statement AggPlus answers: true, for every input.
-/
import Derived.Test.YtfoffoiimlgoeaaAGE
import Derived.Outline
namespace Go.Proofs.Ytfoffoiimlgoeaa
open Go.RowKit Go.Lib

/-- What Add answers, by name. -/
theorem Add_named (x y : Ag) (hx : AgIn x) (v : Value) (xs : List Int) (hy : agAll agZero [x, agOf xs] = y) (w : World) (hv : NumRow .i64 w v xs) (hl : Ints xs) (hn : xs.length ≤ 1000000) :
    Calls Try.prog 17 #[agv x, v] w fun e w' => e = .returned (agv y) ∧ Below w.heap.size w w' := by
  subst hy
  exact aggAdd_any x hx v xs w hv hl hn

theorem Add_drew (x y : Ag) (hx : AgIn x) (z : Int) (hz : IsInt z) (hy : agAll agZero [x, agOf [z]] = y) (w1 : World) (t : TypeId) (b : Nat) (hb : b = w1.heap.size) :
    Calls Try.prog 17 #[agv x, .slice (some ⟨b, 0, none⟩) 1 1] (w1.alloc (.cells #[.int .i64 z] t)).drew fun e w' => e = .returned (agv y) ∧ Below w1.heap.size w1 w' := by
  refine (Add_named x y hx _ [z] hy _ ((NumRow.made .i64 w1 t [z] _ rfl b 1 1 hb rfl).kept (Below.refl _ _).drew) (by intro q hq; simp at hq; subst hq; exact hz) (by simp)).mono ?_
  rintro e w' ⟨rfl, h⟩
  exact ⟨rfl, (((Below.refl _ _).alloc (Nat.le_refl _) _).drew.trans (h.mono (by simp)))⟩

theorem plus_light (a : Ag) (v : Value) (xs : List Int) (h : 60 < xs.length) (w : World) (hv : NumRow .i64 w v xs) :
    Calls Try.prog 7 #[agv a, v] w fun e w' => e = .returned (.bool true) ∧ Below w.heap.size w w' := by
  obtain ⟨sa, c, rfl, _⟩ := hv
  have B0 := Hid.of ((Below.refl w.heap.size w).alloc (Nat.le_refl _) (.cells (agCells a) 27))
  go_enter Try.func7, Try.ntmps7
  go_wp2_with fail
  refine (aggAlive_any _).mono ?_
  rintro e w1 ⟨rfl, b1⟩
  have B1 := Hid.of (B0.out.trans (b1.mono B0.out.size))
  clear b1
  go_wp2
  go_ret
  exact ⟨rfl, B1.out⟩

/-- What is there behind so many values more. -/
def plusAt (a : Ag) (l : List Int) : Ag := agJoin (agJoin agZero a) (agOf l)

theorem plusAt_nil (a : Ag) : plusAt a [] = agAll agZero [a] := agJoin_zero_right _

theorem plusAt_all (a : Ag) (l : List Int) : plusAt a l = agAll agZero [a, agOf l] := rfl

theorem start_good {a : Ag} (ha : AgIn a) : AgGood (agJoin agZero a) := agJoin_good agZero_good ha

theorem plusAt_good {a : Ag} (ha : AgIn a) {l : List Int} (hl : Ints l) : AgGood (plusAt a l) := agJoin_good (start_good ha) (agOf_good hl).1

theorem plusAt_step {a : Ag} (ha : AgIn a) {l : List Int} (hl : Ints l) (j : Nat) (hj : j < l.length) : agAll agZero [plusAt a (l.take j), agOf [l.getD j 0]] = plusAt a (l.take (j + 1)) := by
  have hx : IsInt (l.getD j 0) := ints_get hl j hj
  have ho := agOne_good hx.1 hx.2
  have ht := ints_take hl j
  have e1 : agOf [l.getD j 0] = agOne (l.getD j 0) := agJoin_zero_left _ ho
  have e2 : agAll agZero [plusAt a (l.take j), agOne (l.getD j 0)] = agJoin (agJoin agZero (plusAt a (l.take j))) (agOne (l.getD j 0)) := rfl
  rw [e1, e2, agJoin_zero_left _ (plusAt_good ha ht)]
  unfold plusAt
  rw [agOf_take _ _ hj, agJoin_assoc (start_good ha) (agOf_good ht) ho]

set_option maxHeartbeats 1600000 in
theorem plus_main (a : Ag) (ha : AgIn a) (v : Value) (xs : List Int) (h : xs.length ≤ 60) (w : World) (hv : NumRow .i64 w v xs) (hl : Ints xs) :
    Calls Try.prog 7 #[agv a, v] w fun e w' => e = .returned (.bool true) ∧ Below w.heap.size w w' := by
  have NV := Hid.of hv
  obtain ⟨sa, c, rfl, hv⟩ := hv
  have HV := Hid.of hv
  have HL := Hid.of hl
  have HA := Hid.of ha
  obtain ⟨s0, hs0⟩ : ∃ s, agAll agZero [a] = s := ⟨_, rfl⟩
  have HS0 := Hid.of hs0
  have B0 := Hid.of ((Below.refl w.heap.size w).alloc (Nat.le_refl _) (.cells (agCells a) 27))
  have g0 := Hid.of (AgBlk.new w a)
  clear hv hl ha hs0
  go_enter Try.func7, Try.ntmps7
  go_wp2_with fail
  refine (Merge_1n s0 a HS0.out HA.out _ _ _ (by rfl) _ (by simp)).mono ?_
  rintro e w1 ⟨rfl, b1⟩
  have g1 := Hid.of ((g0.out.kept b1).alloc (.cells (agCells s0) 27))
  have h1 := Hid.of (AgBlk.new w1 s0)
  have B1' := Hid.of (B0.out.trans (b1.mono B0.out.size))
  have B1 := Hid.of (B1'.out.alloc B1'.out.size (.cells (agCells s0) 27))
  have lt1 : w.heap.size < w1.heap.size := by have := b1.size; simp at this; omega
  clear b1 B1'
  simp only [agv]
  go_wp2
  go_loopw [6] (fun i wr => ∃ j : Nat, j ≤ xs.length ∧ i = .int .i64 j ∧ Below w.heap.size w wr ∧ Hid (AgBlk wr w.heap.size a) ∧ Hid (AgBlk wr w1.heap.size (plusAt a (xs.take j)))) (fun i _ => xs.length - (RowKit.intOf i).toNat)
  case atStart => exact ⟨0, Nat.zero_le _, rfl, B1.out, g1, Hid.of (by rw [List.take_zero, plusAt_nil, HS0.out]; exact h1.out)⟩
  case round =>
    obtain ⟨j, hj, rfl, hb, k0, k1⟩ := hrel
    by_cases hlt : j < xs.length
    · have hne : xs ≠ [] := by intro e; subst e; simp at hlt
      obtain ⟨vb, vo, rfl, hvb, hcs⟩ := (HV.out).resolve_left hne
      obtain ⟨x, hxx⟩ : ∃ x, xs.getD j 0 = x := ⟨_, rfl⟩
      have hcell : wr.cell? ⟨vb, vo + j, none⟩ = some (.int .i64 x) := by rw [hb.cell hvb, hcs j hlt, hxx]
      have HT := Hid.of (plusAt_step HA.out HL.out j hlt)
      have IX : Hid (IsInt x) := Hid.of (by rw [← hxx]; exact ints_get HL.out j hlt)
      have IS : Hid (AgIn (plusAt a (xs.take j))) := Hid.of (plusAt_good HA.out (ints_take HL.out j)).1
      rw [hxx] at HT
      obtain ⟨s, hs⟩ : ∃ s, plusAt a (xs.take j) = s := ⟨_, rfl⟩
      rw [hs] at HT IS k1
      obtain ⟨y, hy⟩ : ∃ y, plusAt a (xs.take (j + 1)) = y := ⟨_, rfl⟩
      rw [hy] at HT
      have HY := Hid.of hy
      obtain ⟨q0, q1, q2, q3, q4⟩ := k1.out.at
      have i0 : (0 : Int) ≤ (j : Int) := Int.natCast_nonneg _
      have i1 : (j : Int) < (xs.length : Int) := by omega
      have ltr := k1.out.lt
      clear hcs hne hxx hs hy
      go_wp2
      refine wp_region_noPanic ?_
      go_region_with (first | (go_at_call 17; refine (Add_drew s y IS.out x IX.out HT.out _ _ _ (by rfl)).mono ?_; rintro e w2 ⟨rfl, c2⟩; have k2 := Hid.of (k0.out.kept c2); have k3 := Hid.of (k1.out.kept c2); have B2 := Hid.of (hb.trans (c2.mono hb.size)); have fz := k3.out.frozen; have lt2 := k3.out.lt; clear c2 q0 q1 q2 q3 q4; obtain ⟨q0, q1, q2, q3, q4⟩ := k3.out.at))
      all_goals
        refine NoPanic.normal ?_
        go_wp2
        go_roundw
        case rel => exact ⟨j + 1, by omega, by go_num, below_set5 B2.out (by omega) y, Hid.of (k2.out.set_other _ (by omega)), Hid.of (by rw [HY.out]; exact k3.out.set _)⟩
        case measure => simp [RowKit.intOf]; omega
    · have hjl : j = xs.length := by omega
      subst hjl
      rw [List.take_length] at k1
      obtain ⟨s, hs⟩ : ∃ s, plusAt a xs = s := ⟨_, rfl⟩
      rw [hs] at k1
      have HS : Hid (agAll agZero [a, agOf xs] = s) := Hid.of (by rw [← hs, plusAt_all])
      have HO : Hid (AgIn (agOf xs)) := Hid.of (agOf_good HL.out).1
      clear hs
      obtain ⟨q0, q1, q2, q3, q4⟩ := k1.out.at
      obtain ⟨p0, p1, p2, p3, p4⟩ := k0.out.at
      go_wp2
      go_region_held3 (fun w' => w'.cell? ⟨w1.heap.size, 0, none⟩ = some (.int .i64 s.c) ∧ w'.cell? ⟨w1.heap.size, 1, none⟩ = some (.int .i64 s.hi) ∧ w'.cell? ⟨w1.heap.size, 2, none⟩ = some (.int .u64 s.lo) ∧ w'.cell? ⟨w1.heap.size, 3, none⟩ = some (.int .i64 s.mn) ∧ w'.cell? ⟨w1.heap.size, 4, none⟩ = some (.int .i64 s.mx) ∧ w'.cell? ⟨w.heap.size, 0, none⟩ = some (.int .i64 a.c) ∧ w'.cell? ⟨w.heap.size, 1, none⟩ = some (.int .i64 a.hi) ∧ w'.cell? ⟨w.heap.size, 2, none⟩ = some (.int .u64 a.lo) ∧ w'.cell? ⟨w.heap.size, 3, none⟩ = some (.int .i64 a.mn) ∧ w'.cell? ⟨w.heap.size, 4, none⟩ = some (.int .i64 a.mx)) (go_keep)
        (first
          | (go_at_call 10; refine (aggAlive_any _).mono ?_; rintro e w2 ⟨rfl, b2⟩; have B2 := Hid.of (hb.drew.trans (b2.mono hb.drew.size)); have N2 := Hid.of (NV.out.kept B2.out); have c2 := (Below.refl wr.heap.size wr).drew.trans b2; have M2 := Hid.of (k1.out.kept c2); have P2 := Hid.of (k0.out.kept c2); clear c2 b2; clear q0 q1 q2 q3 q4 p0 p1 p2 p3 p4; obtain ⟨q0, q1, q2, q3, q4⟩ := M2.out.at; obtain ⟨p0, p1, p2, p3, p4⟩ := P2.out.at)
          | (go_at_call 17; refine (Add_named a s HA.out _ xs HS.out _ N2.out HL.out (by omega)).mono ?_; rintro e w3 ⟨rfl, b3⟩; have B3 := Hid.of (B2.out.trans (b3.mono B2.out.size)); have N3 := Hid.of (NV.out.kept B3.out); have M3 := Hid.of (M2.out.kept b3); have P3 := Hid.of (P2.out.kept b3); clear b3; clear q0 q1 q2 q3 q4 p0 p1 p2 p3 p4; obtain ⟨q0, q1, q2, q3, q4⟩ := M3.out.at; obtain ⟨p0, p1, p2, p3, p4⟩ := P3.out.at)
          | (go_at_call 15; refine (aggOf_any _ xs _ N3.out HL.out (by omega)).mono ?_; rintro e w4 ⟨rfl, b4⟩; have B4 := Hid.of (B3.out.trans (b4.mono B3.out.size)); have M4 := Hid.of (M3.out.kept b4); have P4 := Hid.of (P3.out.kept b4); clear b4; clear q0 q1 q2 q3 q4 p0 p1 p2 p3 p4; obtain ⟨q0, q1, q2, q3, q4⟩ := M4.out.at; obtain ⟨p0, p1, p2, p3, p4⟩ := P4.out.at)
          | (go_at_call 16; refine (Merge_2n s a (agOf xs) HS.out HA.out HO.out _ _ _ (by rfl) _ (by rfl)).mono ?_; rintro e w5 ⟨rfl, b5⟩; have B5 := Hid.of (B4.out.trans (b5.mono B4.out.size)); have M5 := Hid.of (M4.out.kept b5); have P5 := Hid.of (P4.out.kept b5); clear b5; clear q0 q1 q2 q3 q4 p0 p1 p2 p3 p4; obtain ⟨q0, q1, q2, q3, q4⟩ := M5.out.at; obtain ⟨p0, p1, p2, p3, p4⟩ := P5.out.at))
      all_goals
        go_wp2
        go_ret
        exact ⟨rfl, B5.out⟩

theorem plus_any (a : Ag) (ha : AgIn a) (v : Value) (xs : List Int) (w : World) (hv : NumRow .i64 w v xs) (hl : Ints xs) :
    Calls Try.prog 7 #[agv a, v] w fun e w' => e = .returned (.bool true) ∧ Below w.heap.size w w' := by
  by_cases h : 60 < xs.length
  · exact plus_light a v xs h w hv
  · exact plus_main a ha v xs (by omega) w hv hl

end Go.Proofs.Ytfoffoiimlgoeaa
