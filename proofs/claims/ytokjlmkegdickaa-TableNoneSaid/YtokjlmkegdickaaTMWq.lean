/-
  A table that has no map: a nil one, a zero one.
-/
import Derived.Shelf.SlIter.Nil
import Derived.Laws.IdiomRangeMap
import Derived.Test.YtokjlmkegdickaaQ37
namespace Go.Proofs.Ytokjlmkegdickaa
open Go.RowKit Go.Lib Go.Sort Go.Maps Go.Shelf Go.Proofs

/-- Nil, or a zero table at a block. -/
def NoT (w : World) (tv : Value) : Prop := tv = .pointer none ∨ ∃ z, tv = tptr z ∧ w.heap[z]? = some (.cells #[.int .i64 0, .map none] 31)

theorem NoT.next {w w' : World} {tv : Value} (h : NoT w tv) (b : Below w.heap.size w w') : NoT w' tv := by
  rcases h with h | ⟨z, h, hz⟩
  · exact .inl h
  · exact .inr ⟨z, h, (b.block z (Array.getElem?_eq_some_iff.1 hz).1).trans hz⟩

theorem all_no {w : World} {tv : Value} (h : NoT w tv) : Calls Try.prog 30 #[tv] w fun x w' => x = .returned (.map none) ∧ w' = w := by
  rcases h with rfl | ⟨z, rfl, hz⟩
  · go_enter Try.func30, Try.ntmps30
    go_wp2
    go_ret
    exact ⟨rfl, rfl⟩
  · have c1 : w.cell? ⟨z, 1, none⟩ = some (.map none) := by simp [World.cell?, hz]
    go_enter Try.func30, Try.ntmps30
    go_wp2
    go_ret
    exact ⟨rfl, rfl⟩

theorem len_no {w : World} {tv : Value} (h : NoT w tv) : Calls Try.prog 15 #[tv] w fun x w' => x = .returned (.int .i64 0) ∧ Below w.heap.size w w' := by
  have hall := all_no h
  go_enter Try.func15, Try.ntmps15
  go_wp2_with fail
  refine hall.mono ?_
  rintro x w1 ⟨rfl, rfl⟩
  have hrg := run_range_nilMap (P := Try.prog) w1 29 9 59 mT
  have hnx : ∀ ty, (Instr.next (.pointer (some ⟨w1.heap.size, 0, none⟩)) false ty).run Try.prog (w1.alloc (.mapIter none 0 #[] 0)) = _ := fun ty => run_next_nilMap _ ty 0 0 #[]
  go_wp2
  go_loopg [3] 0 (fun kx nv wr => nv = .int .i64 0 ∧ wr = w1.alloc (.mapIter none 0 #[] 0))
  case atStart => exact ⟨rfl, rfl⟩
  case round =>
    obtain ⟨rfl, rfl⟩ := hrel
    go_wp2
    go_ret
    exact ⟨rfl, (Below.refl _ _).alloc (Nat.le_refl _) _⟩

theorem drop_no {w : World} {tv : Value} (b : Int) (h : NoT w tv) : Calls Try.prog 12 #[tv, .int .i64 b] w fun x w' => x = .returned (.int .i64 0) ∧ Below w.heap.size w w' := by
  have hall := all_no h
  go_enter Try.func12, Try.ntmps12
  go_wp2_with fail
  refine hall.mono ?_
  rintro x w1 ⟨rfl, rfl⟩
  have hrg := run_range_nilMap (P := Try.prog) w1 29 9 59 mT
  have hnx : ∀ ty, (Instr.next (.pointer (some ⟨w1.heap.size, 0, none⟩)) false ty).run Try.prog (w1.alloc (.mapIter none 0 #[] 0)) = _ := fun ty => run_next_nilMap _ ty 0 0 #[]
  go_wp2
  go_loopg [5] 0 (fun kx nv wr => nv = .int .i64 0 ∧ wr = w1.alloc (.mapIter none 0 #[] 0))
  case atStart => exact ⟨rfl, rfl⟩
  case round =>
    obtain ⟨rfl, rfl⟩ := hrel
    go_wp2
    go_ret
    exact ⟨rfl, (Below.refl _ _).alloc (Nat.le_refl _) _⟩

set_option maxRecDepth 20000 in
theorem need_no {w : World} {tv : Value} (n : Int) (h : NoT w tv) : Calls Try.prog 14 #[tv, .int .i64 n] w fun x w' => x = .returned (.int .i64 0) ∧ Below w.heap.size w w' := by
  have hmk := run_makeMap (P := Try.prog) 71 w
  go_enter Try.func14, Try.ntmps14
  go_upto_region 2 with fail
  obtain ⟨cb, hcb⟩ : ∃ cb, w.heap.size = cb := ⟨_, rfl⟩
  obtain ⟨w1, hw1⟩ : ∃ w1, w.alloc (.map #[] 0) = w1 := ⟨_, rfl⟩
  have B1 : Hid (Below w.heap.size w w1) := Hid.of (by rw [← hw1]; exact (Below.refl _ _).alloc (Nat.le_refl _) _)
  have M1 : Hid (MapI Try.prog 3 w1 cb 0 (fun _ => none)) := Hid.of (by rw [← hw1, ← hcb]; exact MapI.made w)
  have hall := all_no (h.next B1.out)
  rw [hw1, hcb]
  clear hmk hw1 hcb
  go_wp2_with fail
  refine hall.mono ?_
  rintro x w2 ⟨rfl, rfl⟩
  have hrg := run_range_nilMap (P := Try.prog) w2 29 9 59 mT
  have hnx : ∀ ty, (Instr.next (.pointer (some ⟨w2.heap.size, 0, none⟩)) false ty).run Try.prog (w2.alloc (.mapIter none 0 #[] 0)) = _ := fun ty => run_next_nilMap _ ty 0 0 #[]
  go_wp2
  have M3 : Hid (MapI Try.prog 3 (w2.alloc (.mapIter none 0 #[] 0)) cb 0 (fun _ => none)) := Hid.of (M1.out.at ((MapKept.heap_alloc w2 _).2 cb M1.out.lt))
  have B3 : Hid (Below w.heap.size w (w2.alloc (.mapIter none 0 #[] 0))) := Hid.of (B1.out.alloc B1.out.size _)
  obtain ⟨w4, hw4⟩ : ∃ w4, w2.alloc (.mapIter none 0 #[] 0) = w4 := ⟨_, rfl⟩
  rw [hw4] at M3 B3 hnx ⊢
  have hmi := M3.out
  clear hrg hw4 hall
  go_loopg [] 0 (fun kx wr => wr = w4)
  case atStart => rfl
  case round =>
    obtain rfl := hrel
    go_wp2_with (first
      | (at_range; refine wpList_range_i _ rfl _ 71 rfl 3 3 iT imT cb 0 _ rfl hmi ?_; intro w5 c5 hrg5 hc5 hg5 hs5)
      | go_in)
    go_frame
    obtain ⟨r1, hr1⟩ : ∃ r1, wr.heap.size = r1 := ⟨_, rfl⟩
    rw [hr1] at hrg5 ⊢
    have B5 := Hid.of (B3.out.grown hg5 B3.out.size (fun j hj => by cases hj))
    have RG5 := Hid.of hrg5
    clear hg5 hs5 hmi hrg5 hr1
    go_loopg [8] 0 (fun kx av wz => av = .int .i64 0 ∧ wz = w5)
    case atStart => exact ⟨rfl, rfl⟩
    case round =>
      obtain ⟨rfl, rfl⟩ := hrel
      have hrg := RG5.out
      go_wp2_with (first
        | (at_next; refine wpList_next_i _ rfl _ rfl 3 iT cb r1 0 _ _ c5 rfl hrg ?_ ?_)
        | go_in)
      clear hrg
      intro h0
      clear h0
      go_wp2
      go_ret
      exact ⟨rfl, B5.out⟩

theorem keys_no (w : World) :
    Calls Try.prog 44 #[.map none] w (fun x w' => x = .returned (.func (.func 67) #[] #[.pointer (some ⟨w.heap.size, 0, none⟩)]) ∧ w' = w.alloc (.cells #[.map none] 29)) ∧
    Calls Try.prog 43 #[.func (.func 67) #[] #[.pointer (some ⟨w.heap.size, 0, none⟩)]] (w.alloc (.cells #[.map none] 29)) fun x w' =>
      ∃ v : Value, x = .returned v ∧ CellRow w' v 0 [] ∧ Below w.heap.size w w' := by
  refine ⟨callsIn_wide.1 (AnyZ.keys_in (ρ := laysKeys_ren) laysKeys Fence.wide 5 trivial rfl none w), ?_⟩
  have hseq : SeqGives Fence.wide 2 Try.prog 67 #[.pointer (some ⟨w.heap.size, 0, none⟩)] encStr (fun ss => ss = []) 0 (w.alloc (.cells #[.map none] 29)) :=
    AnyZ.keys_gives_nil (ρ := laysKeys_ren) { laysKeys with } Fence.wide _ trivial rfl w.heap.size _ (by simp) (by simp)
  have hc := callsIn_wide.1 (AnyZ.collect_in (ρ := laysCollect_ren) laysCollect Fence.wide 4 trivial trivial rfl (by omega) 67 #[.pointer (some ⟨w.heap.size, 0, none⟩)] trivial (enters_of Try.func67 (by kernel_rfl) rfl) _ _ (by unfold maxLen; omega) (by omega) _ hseq)
  refine hc.mono ?_
  rintro x w' ⟨v, ss, rfl, rfl, hrow, -, hb⟩
  exact ⟨v, rfl, own_cells_row hrow rfl, ((Below.refl _ w).alloc (Nat.le_refl _) _).trans (hb.mono (by simp))⟩

theorem names_no {w : World} {tv : Value} (h : NoT w tv) : Calls Try.prog 18 #[tv] w fun x w' => ∃ u, x = .returned u ∧ CellRow w' u 0 [] ∧ Below w.heap.size w w' := by
  have hall := all_no h
  obtain ⟨hk1, hk2⟩ := keys_no w
  go_enter Try.func18, Try.ntmps18
  go_wp2_with fail
  refine hall.mono ?_
  rintro x w1 ⟨rfl, rfl⟩
  go_wp2_with fail
  refine hk1.mono ?_
  rintro x w2 ⟨rfl, rfl⟩
  go_wp2_with fail
  refine hk2.mono ?_
  rintro x w3 ⟨v, rfl, hrow, b3⟩
  have hor := order_any v [] w3 hrow (by simp) (fun s hs => absurd hs List.not_mem_nil)
  have B3 := Hid.of b3
  clear b3 hrow hk1 hk2 hall
  go_wp2_with fail
  refine hor.mono ?_
  rintro x w4 ⟨u, rfl, o4, b4⟩
  have B4 := Hid.of (B3.out.trans (b4.mono B3.out.size))
  have O4 : Hid (CellRow w4 u 0 []) := Hid.of (own_cells_row o4 rfl)
  clear b4 o4 hor
  go_wp2
  go_ret
  exact ⟨_, rfl, O4.out, B4.out⟩

theorem namesOf_no {w : World} {tv : Value} (k n : Int) (h : NoT w tv) : Calls Try.prog 36 #[tv, .int .i64 k, .int .i64 n] w fun x w' => x = .returned (.slice none 0 0) ∧ Below w.heap.size w w' := by
  have hnm := names_no h
  go_enter Try.func36, Try.ntmps36
  go_wp2_with fail
  refine hnm.mono ?_
  rintro x w1 ⟨v, rfl, ⟨va, vc, rfl, -⟩, b1⟩
  have B1 := Hid.of b1
  clear b1 hnm
  go_wp2
  go_loopg [7, 13] 0 (fun kx av iv wr => av = .slice none 0 0 ∧ iv = .int .i64 0 ∧ wr = w1)
  case atStart => exact ⟨rfl, rfl, rfl⟩
  case round =>
    obtain ⟨rfl, rfl, rfl⟩ := hrel
    go_wp2
    go_ret
    exact ⟨rfl, B1.out⟩

theorem recs_no {w : World} {tv : Value} (va : Option Addr) (vc : Nat) : Calls Try.prog 41 #[tv, .slice va 0 vc] w fun x w' => x = .returned (.slice none 0 0) ∧ Below w.heap.size w w' := by
  go_enter Try.func41, Try.ntmps41
  go_wp2
  go_loopg [5, 10] 0 (fun kx av iv wr => av = .slice none 0 0 ∧ iv = .int .i64 0 ∧ wr = w)
  case atStart => exact ⟨rfl, rfl, rfl⟩
  case round =>
    obtain ⟨rfl, rfl, rfl⟩ := hrel
    go_wp2
    go_ret
    exact ⟨rfl, Below.refl _ _⟩

theorem allRecs_no {w : World} {tv : Value} (h : NoT w tv) : Calls Try.prog 17 #[tv] w fun x w' => x = .returned (.slice none 0 0) ∧ Below w.heap.size w w' := by
  have hnm := names_no h
  go_enter Try.func17, Try.ntmps17
  go_wp2_with fail
  refine hnm.mono ?_
  rintro x w1 ⟨v, rfl, ⟨va, vc, rfl, -⟩, b1⟩
  have B1 := Hid.of b1
  clear b1 hnm
  go_wp2_with fail
  refine (recs_no va vc).mono ?_
  rintro x w2 ⟨rfl, b2⟩
  have B2 := Hid.of (B1.out.trans (b2.mono B1.out.size))
  clear b2
  go_wp2
  go_ret
  exact ⟨rfl, B2.out⟩

theorem shard_no {w : World} {tv : Value} (k n : Int) (h : NoT w tv) : Calls Try.prog 19 #[tv, .int .i64 k, .int .i64 n] w fun x w' => x = .returned (.slice none 0 0) ∧ Below w.heap.size w w' := by
  have hnm := namesOf_no k n h
  go_enter Try.func19, Try.ntmps19
  go_wp2_with fail
  refine hnm.mono ?_
  rintro x w1 ⟨rfl, b1⟩
  have B1 := Hid.of b1
  clear b1 hnm
  go_wp2_with fail
  refine (recs_no none 0).mono ?_
  rintro x w2 ⟨rfl, b2⟩
  have B2 := Hid.of (B1.out.trans (b2.mono B1.out.size))
  clear b2
  go_wp2
  go_ret
  exact ⟨rfl, B2.out⟩

theorem clear_no {w : World} {tv : Value} (k n : Int) (h : NoT w tv) : Calls Try.prog 13 #[tv, .int .i64 k, .int .i64 n] w fun x w' => x = .returned (.int .i64 0) ∧ Below w.heap.size w w' := by
  have hnm := namesOf_no k n h
  go_enter Try.func13, Try.ntmps13
  go_wp2_with fail
  refine hnm.mono ?_
  rintro x w1 ⟨rfl, b1⟩
  have B1 := Hid.of b1
  clear b1 hnm
  go_wp2
  go_loopg [7, 15] 0 (fun kx nv iv wr => nv = .int .i64 0 ∧ iv = .int .i64 0 ∧ wr = w1)
  case atStart => exact ⟨rfl, rfl, rfl⟩
  case round =>
    obtain ⟨rfl, rfl, rfl⟩ := hrel
    go_wp2
    go_ret
    exact ⟨rfl, B1.out⟩

theorem look_no (w : World) (s : ByteArray) (hs : s.size ≤ maxLen) : (Instr.lookup 29 (.map none) (.string s) false).run Try.prog w = .ok (.slice none 0 0) w :=
  Maps.look_nil false (Maps.string_keyed kT) mT (series_zero w) (WideMaps.keyOf_string_mk kT hs)

theorem range_no {w : World} {tv : Value} (s : ByteArray) (f t : Int) (hs : s.size ≤ 1000) (h : NoT w tv) :
    Calls Try.prog 16 #[tv, .string s, .int .i64 f, .int .i64 t] w fun x w' => (∃ ua uc, x = .returned (.slice ua 0 uc)) ∧ Below w.heap.size w w' := by
  have hall := all_no h
  have hlk := look_no w s (by unfold maxLen; omega)
  have hbw := between_any (D := 0) (.slice none 0 0) [] f t w (World.ownsRow_nil _ _ _ _) List.Pairwise.nil (by simp)
  go_enter Try.func16, Try.ntmps16
  go_wp2_with fail
  refine hall.mono ?_
  rintro x w1 ⟨rfl, rfl⟩
  go_wp2_with fail
  refine hbw.mono ?_
  rintro x w2 ⟨u, rfl, hu, b2⟩
  have B2 := Hid.of b2
  have U := Hid.of hu
  clear b2 hu
  go_wp2_with fail
  refine (Clone_any s w2 (by omega)).mono ?_
  rintro x w3 ⟨rfl, b3⟩
  have hrc := records_any u [] s w3 (U.out.kept b3) (by simp)
  have B3 := Hid.of (B2.out.trans (b3.mono B2.out.size))
  clear b3
  go_wp2_with fail
  refine hrc.mono ?_
  rintro x w4 ⟨u4, rfl, o4, b4⟩
  obtain ⟨va, vc, rfl, -⟩ := own_one o4
  have B4 := Hid.of (B3.out.trans (b4.mono B3.out.size))
  clear b4 o4
  go_wp2
  go_ret
  exact ⟨⟨_, _, rfl⟩, B4.out⟩

theorem find_no {w : World} {tv : Value} (n : ByteArray) (s : Int) (hn : n.size ≤ 1000) (h : NoT w tv) :
    Calls Try.prog 10 #[tv, .string n, .int .i64 s] w fun x w' => x = .returned (.tuple #[agv agZero, .bool false]) ∧ Below w.heap.size w w' := by
  obtain ⟨w1, hw1⟩ : ∃ w1, w.alloc (.cells #[.int .i64 0, .int .i64 0, .int .u64 0, .int .i64 0, .int .i64 0] 24) = w1 := ⟨_, rfl⟩
  have b1 : Below w.heap.size w w1 := by rw [← hw1]; exact (Below.refl _ _).alloc (Nat.le_refl _) _
  obtain ⟨q, hq⟩ : ∃ q, w.heap.size = q := ⟨_, rfl⟩
  have Q1 : Hid (AgBlk w1 q agZero) := Hid.of (by rw [← hw1]; exact AgBlk.made _ _ _ _ hq.symm (by rfl))
  have QW : Hid (w.heap.size ≤ q) := Hid.of (by omega)
  have hall := all_no (h.next b1)
  have hlk := look_no w1 n (by unfold maxLen; omega)
  have hpl := place_any (.slice none 0 0) [] s w1 ⟨_, _, rfl, .inl rfl⟩ List.Pairwise.nil (by simp)
  rw [show sAt [] s = 0 from rfl, show sHas [] s = false from rfl] at hpl
  have B1 := Hid.of b1
  clear h b1
  go_enter Try.func10, Try.ntmps10
  go_upto_region 1 with fail
  clear hw1 hq
  go_wp2_with fail
  refine hall.mono ?_
  rintro x w2 ⟨rfl, rfl⟩
  go_wp2_with fail
  refine hpl.mono ?_
  rintro x w3 ⟨rfl, b3⟩
  have B3 := Hid.of (B1.out.trans (b3.mono B1.out.size))
  obtain ⟨z, hz⟩ : ∃ z, agZero = z := ⟨_, rfl⟩
  have q3 : Hid (AgBlk w3 q z) := Hid.of (by rw [← hz]; exact Q1.out.kept b3)
  clear hz
  have fz := q3.out.frozen
  obtain ⟨t0, t1, t2, t3, t4⟩ := q3.out.at
  have lt3 := q3.out.lt
  have HS : Hid (AgBlk (set5 w3 q agZero) q agZero) := Hid.of (q3.out.set agZero)
  have HB := Hid.of (below_set5 B3.out QW.out agZero)
  clear hlk hpl hall b3
  go_wp2
  show bodyPost _ _ _ _ _ (set5 w3 q agZero)
  generalize set5 w3 q agZero = W at HS HB ⊢
  obtain ⟨q0, q1, q2, q3', q4⟩ := HS.out.at
  clear t0 t1 t2 t3 t4
  refine bodyPost_ret (v := .tuple #[agv agZero, .bool false]) ?_ rfl ⟨rfl, HB.out⟩
  simp [results, Try.results10, go_sem, q0, q1, q2, q3', q4]

theorem roll_nil (w : World) (a b : Int) : Calls Try.prog 20 #[.pointer none, .int .i64 a, .int .i64 b] w fun x w' => x = .returned (.pointer none) ∧ w' = w := by
  go_enter Try.func20, Try.ntmps20
  go_wp2
  go_ret
  exact ⟨rfl, rfl⟩

theorem copy_nil (w : World) : Calls Try.prog 21 #[.pointer none] w fun x w' => x = .returned (.pointer none) ∧ w' = w := by
  go_enter Try.func21, Try.ntmps21
  go_wp2
  go_ret
  exact ⟨rfl, rfl⟩

end Go.Proofs.Ytokjlmkegdickaa
