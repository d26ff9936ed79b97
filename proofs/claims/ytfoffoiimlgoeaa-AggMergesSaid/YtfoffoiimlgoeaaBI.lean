/-
  Lists of ints that are lent with a mark behind them (package sedimentbook): LentInts, SameInts, StaysInts.
-/
import Derived.Test.YtfoffoiimlgoeaaBT
namespace Go.Proofs.Ytfoffoiimlgoeaa
open Go.RowKit Go.Lib

theorem NumRow.cells' {k : IntKind} {w : World} {v : Value} {xs : List Int} (h : NumRow k w v xs) : CellRow w v xs.length (xs.map (Value.int k)) := by
  obtain ⟨a, c, hv, h⟩ := h
  refine ⟨a, c, hv, ?_⟩
  rcases h with h | ⟨b, o, ha, hl, hc⟩
  · exact .inl (by rw [h]; rfl)
  · refine .inr ⟨b, o, ha, hl, fun j u hj => ?_⟩
    have hlt : j < xs.length := by
      have := (List.getElem?_eq_some_iff.1 hj).1
      simpa using this
    rw [hc j hlt]
    simp [List.getElem?_eq_getElem hlt] at hj
    rw [← hj]
    simp [List.getD, hlt]

theorem CellRow.ints {k : IntKind} {w : World} {v : Value} {xs : List Int} (h : CellRow w v xs.length (xs.map (Value.int k))) : NumRow k w v xs := by
  obtain ⟨a, c, hv, h⟩ := h
  refine ⟨a, c, hv, ?_⟩
  rcases h with h | ⟨b, o, ha, hl, hc⟩
  · exact .inl (by simpa using h)
  · refine .inr ⟨b, o, ha, hl, fun j hj => ?_⟩
    rw [hc j (.int k xs[j]) (by simp [hj])]
    simp [List.getD, hj]

theorem ints_one (ss : List Int) : ∀ u ∈ ss.map (Value.int .i64), u.oneCell' = true := by
  intro u hu
  simp only [List.mem_map] at hu
  obtain ⟨s, _, rfl⟩ := hu
  rfl

theorem mark_ints (w : World) : Cells (w.alloc (.cells #[.int .i64 (-77)] 3)) w.heap.size 0 [.int .i64 (-77)] := by
  intro j u hj
  match j, hj with
  | 0, hj =>
    simp at hj
    subst hj
    rw [World.cell?_alloc_new]
    rfl
  | j + 1, hj => simp at hj

set_option maxHeartbeats 400000 in
theorem LentInts_any (v : Value) (ss : List Int) (w : World) (hv : NumRow .i64 w v ss) (hn : ss.length ≤ 1000000) :
    Calls Try.prog 13 #[v] w fun e w' => ∃ m, e = .returned m ∧ LentRow w' w.heap.size m ss.length (ss.map (Value.int .i64)) [.int .i64 (-77)] ∧ Below w.heap.size w w' := by
  have hc := hv.cells'
  obtain ⟨sa, c, rfl, _⟩ := hv
  have HC := Hid.of hc
  clear hc
  obtain ⟨i0, hi, hz0, hz1, hz2⟩ := info_parts (show (Try.prog.info? 3).map (fun i => (i.zero, i.size, i.bytes)) = some (some (.int .i64 0), 1, 8) by kernel_rfl)
  have HI := Hid.of hi
  have HZ0 := Hid.of hz0
  have HZ1 := Hid.of hz1
  have HZ2 := Hid.of hz2
  clear hi hz0 hz1 hz2
  go_enter Try.func13, Try.ntmps13
  go_wp2_with (first | (at_builtin; refine append_row_law rfl _ (.tmp 3) 22 rfl w.heap.size 3 i0 (.int .i64 0) 1 8 Try.underlying22 HI.out HZ0.out HZ1.out HZ2.out rfl (by decide) (.slice none 0 0) 0 [] rfl ⟨rfl, .inl ⟨rfl, rfl⟩⟩ _ ss.length _ rfl HC.out (by simp) (ints_one ss) (by unfold maxLen; omega) (by omega) (Nat.le_refl _) ?_; intro v1 w1 o1 g1; have O1 : Hid (w1.ownsRow w.heap.size 3 1 v1 ss.length (ss.map (Value.int .i64))) := Hid.of (by simpa using o1); have b1 : Below w.heap.size w w1 := below_of_none g1; clear o1 g1) | (at_builtin; refine append_row_law rfl (.tmp 4) (.tmp 5) 22 rfl w.heap.size 3 i0 (.int .i64 0) 1 8 Try.underlying22 HI.out HZ0.out HZ1.out HZ2.out rfl (by decide) v1 ss.length _ rfl (O1.out.alloc _) (.slice (some ⟨w1.heap.size, 0, none⟩) 1 1) 1 [.int .i64 (-77)] rfl ⟨_, _, rfl, .inr ⟨_, 0, rfl, by simp, mark_ints w1⟩⟩ rfl (by simp [Value.oneCell']) (by unfold maxLen; omega) (by omega) (by simp; have := b1.size; omega) ?_; intro v2 w2 o2 g2; obtain ⟨hl2, h2⟩ := o2; obtain ⟨g, cap, cur, rfl, hB, hrow, hcap, hmax, hcs, htk⟩ := h2.resolve_left (by simp)))
  go_ret
  have hg := (Array.getElem?_eq_some_iff.1 hrow).1
  refine ⟨_, rfl, ⟨g, cap, rfl, hB, hg, hcap, hmax, fun j u hj => ?_⟩, (b1.alloc b1.size _).grown g2 (by have := b1.size; simp; omega) (fun k hk => own_ge O1.out hk)⟩
  rw [Nat.zero_add, cell_of_row w2 g j _ _ _ hrow]
  rw [← htk] at hj
  rw [List.getElem?_take] at hj
  split at hj
  · simpa using hj
  · cases hj

theorem int_at {w : World} {a : Option Addr} {n c : Nat} {ss : List Int} (h : CellRow w (.slice a n c) n (ss.map (Value.int .i64))) (j : Nat) (hj : j < ss.length) (hn : n = ss.length) : ∃ b o, a = some ⟨b, o, none⟩ ∧ b < w.heap.size ∧ w.cell? ⟨b, o + j, none⟩ = some (.int .i64 (ss.getD j 0)) := by
  obtain ⟨a', c', hv, h⟩ := h
  simp only [Value.slice.injEq] at hv
  obtain ⟨rfl, _, rfl⟩ := hv
  rcases h with h | ⟨b, o, ha, hl, hc⟩
  · have : ss = [] := by simpa using h
    subst this
    simp at hj
  · refine ⟨b, o, ha, hl, ?_⟩
    rw [hc j (.int .i64 ss[j]) (by simp [hj])]
    simp [List.getD, hj]

set_option maxHeartbeats 400000 in
theorem SameInts_any (u v : Value) (ss : List Int) (w : World) (hu : CellRow w u ss.length (ss.map (Value.int .i64))) (hv : CellRow w v ss.length (ss.map (Value.int .i64))) (hn : ss.length ≤ 1000000) :
    Calls Try.prog 31 #[u, v] w fun e w' => e = .returned (.bool true) ∧ Below w.heap.size w w' := by
  have HU := Hid.of hu
  have HV := Hid.of hv
  obtain ⟨ua, uc, rfl, _⟩ := hu
  obtain ⟨va, vc, rfl, _⟩ := hv
  go_enter Try.func31, Try.ntmps31
  go_wp2
  go_loopw [5] (fun i wr => ∃ j : Nat, j ≤ ss.length ∧ i = .int .i64 j ∧ Below w.heap.size w wr) (fun i _ => ss.length - (RowKit.intOf i).toNat)
  case atStart => exact ⟨0, Nat.zero_le _, rfl, Below.refl _ _⟩
  case round =>
    obtain ⟨j, hj, rfl, hb⟩ := hrel
    by_cases hlt : j < ss.length
    · obtain ⟨b1, o1, rfl, hl1, hc1⟩ := int_at HU.out j hlt rfl
      obtain ⟨b2, o2, rfl, hl2, hc2⟩ := int_at HV.out j hlt rfl
      obtain ⟨s, hs⟩ : ∃ s, ss.getD j 0 = s := ⟨_, rfl⟩
      rw [hs] at hc1 hc2
      have d1 : wr.cell? ⟨b1, o1 + j, none⟩ = some (.int .i64 s) := by rw [hb.cell hl1]; exact hc1
      have d2 : wr.cell? ⟨b2, o2 + j, none⟩ = some (.int .i64 s) := by rw [hb.cell hl2]; exact hc2
      have i0 : (0 : Int) ≤ (j : Int) := Int.natCast_nonneg _
      have i1 : (j : Int) < (ss.length : Int) := by omega
      clear hs hc1 hc2 HU HV hl1 hl2
      go_wp2
      go_quiet (fail)
      go_wp2
      go_roundw
      case rel => exact ⟨j + 1, by omega, by go_num, below_drewN hb _⟩
      case measure => simp [RowKit.intOf]; omega
    · go_wp2
      go_ret
      exact ⟨rfl, hb⟩

set_option maxHeartbeats 400000 in
theorem StaysInts_any (B : Nat) (u v : Value) (ss : List Int) (w : World) (hu : LentRow w B u ss.length (ss.map (Value.int .i64)) [.int .i64 (-77)]) (hv : CellRow w v ss.length (ss.map (Value.int .i64))) (hn : ss.length ≤ 1000000) :
    Calls Try.prog 18 #[u, v] w fun e w' => e = .returned (.bool true) ∧ Below w.heap.size w w' := by
  have HU := Hid.of hu.row
  have HV := Hid.of hv
  obtain ⟨g, cap, rfl, hB, hg, hc, hm, hcs⟩ := hu
  have hmark := hcs ss.length (.int .i64 (-77)) (by rw [List.getElem?_append_right (by simp)]; simp)
  rw [Nat.zero_add] at hmark
  have HM := Hid.of hmark
  have c0 : (ss.length : Int) + 1 ≤ (cap : Int) := by omega
  clear hcs hm hB hmark
  go_enter Try.func18, Try.ntmps18
  go_wp2_with fail
  refine (SameInts_any _ _ ss _ HU.out HV.out hn).mono ?_
  rintro e w1 ⟨rfl, b1⟩
  have hmark : w1.cell? ⟨g, ss.length, none⟩ = some (.int .i64 (-77)) := by rw [b1.cell hg]; exact HM.out
  have B1 := Hid.of b1
  clear b1
  go_wp2
  go_ret
  exact ⟨rfl, B1.out⟩

end Go.Proofs.Ytfoffoiimlgoeaa
