/-
  Marks of a Book's lists of ints (package sedimentbook): markInts, copyInts.
-/
import Derived.Test.YtcjfejhfafiaiaaBI
namespace Go.Proofs.Ytcjfejhfafiaiaa
open Go.RowKit Go.Lib

/-- The marks of the list i from the place f on, n of them. -/
def imarks (i f n : Nat) : List Int := (List.range n).map fun k : Nat => -1000000 * (i : Int) - ((f : Int) + (k : Int)) - 7

theorem imarks_length (i f n : Nat) : (imarks i f n).length = n := by simp [imarks]

theorem imarks_succ (i f n : Nat) : imarks i f (n + 1) = imarks i f n ++ [-1000000 * (i : Int) - ((f : Int) + (n : Int)) - 7] := by
  simp [imarks, List.range_succ]

theorem imarks_add (i f n m : Nat) : imarks i f n ++ imarks i (f + n) m = imarks i f (n + m) := by
  induction m with
  | zero => simp [imarks]
  | succ m ih =>
    rw [← Nat.add_assoc, imarks_succ, imarks_succ, ← List.append_assoc, ih]
    congr 2
    push_cast
    omega

theorem one_int (w : World) (x : Int) (t : TypeId) : Cells (w.alloc (.cells #[.int .i64 x] t)) w.heap.size 0 [.int .i64 x] := by
  intro j u hj
  match j, hj with
  | 0, hj =>
    simp at hj
    subst hj
    rw [World.cell?_alloc_new]
    rfl
  | j + 1, hj => simp at hj

set_option maxHeartbeats 400000 in
theorem markInts_any (i f n : Nat) (hi9 : i ≤ 1000) (hf9 : f ≤ 100000000) (hn9 : n ≤ 1000000) (w : World) :
    Calls Try.prog 74 #[.int .i64 i, .int .i64 f, .int .i64 n] w fun e w' => ∃ v, e = .returned v ∧ w'.ownsRow w.heap.size 3 1 v n ((imarks i f n).map (Value.int .i64)) ∧ Below w.heap.size w w' := by
  obtain ⟨i0, hi, hz0, hz1, hz2⟩ := info_parts (show (Try.prog.info? 3).map (fun i => (i.zero, i.size, i.bytes)) = some (some (.int .i64 0), 1, 8) by kernel_rfl)
  have HI := Hid.of hi
  have HZ0 := Hid.of hz0
  have HZ1 := Hid.of hz1
  have HZ2 := Hid.of hz2
  clear hi hz0 hz1 hz2
  go_enter Try.func74, Try.ntmps74
  go_wp2
  go_loopw [7, 8] (fun v k wr => ∃ j : Nat, j ≤ n ∧ k = .int .i64 ((f : Int) + j) ∧ Hid (wr.ownsRow w.heap.size 3 1 v j ((imarks i f j).map (Value.int .i64))) ∧ Below w.heap.size w wr) (fun _ k _ => n - ((intOf k).toNat - f))
  case atStart => exact ⟨0, Nat.zero_le _, by simp, Hid.of (by simp only [imarks]; exact ⟨rfl, .inl ⟨rfl, rfl⟩⟩), Below.refl _ _⟩
  case round =>
    obtain ⟨j, hj, rfl, O, hb⟩ := hrel
    by_cases hlt : j < n
    · go_wp2_with (at_builtin; refine append_row_law rfl _ _ 22 rfl w.heap.size 3 i0 (.int .i64 0) 1 8 Try.underlying22 HI.out HZ0.out HZ1.out HZ2.out rfl (by decide) _ j _ rfl (O.out.alloc _) (.slice (some ⟨wr.heap.size, 0, none⟩) 1 1) 1 [.int .i64 (-1000000 * (i : Int) - ((f : Int) + (j : Int)) - 7)] (by go_num) ⟨_, _, rfl, .inr ⟨_, 0, rfl, by simp, one_int wr _ _⟩⟩ rfl (by simp [Value.oneCell']) (by unfold maxLen; omega) (by omega) (by simp; have := hb.size; omega) ?_; intro v1 w1 o1 g1)
      go_roundw
      case rel =>
        refine ⟨j + 1, by omega, by go_num, Hid.of ?_, (hb.alloc hb.size _).grown g1 (by have := hb.size; simp; omega) (fun k hk => own_ge O.out hk)⟩
        rw [imarks_succ, List.map_append]
        exact o1
      case measure => simp [intOf]; omega
    · go_wp2
      go_ret
      have : j = n := by omega
      subst this
      exact ⟨_, rfl, O.out, hb⟩


end Go.Proofs.Ytcjfejhfafiaiaa
