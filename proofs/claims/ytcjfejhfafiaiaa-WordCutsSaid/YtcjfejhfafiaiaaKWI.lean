/-
  Marks of a Book's lists of words (package sedimentbook): markWords, copyWords.
-/
import Derived.Test.YtcjfejhfafiaiaaKS
import Derived.Laws.StructEq
namespace Go.Proofs.Ytcjfejhfafiaiaa
open Go.RowKit Go.Lib

abbrev WordL := ByteArray × Int × Int

/-- The cells of one. -/
def wenc (x : WordL) : List Value := [.string x.1, .int .i64 x.2.1, .int .i64 x.2.2]

theorem wenc_len (x : WordL) : (wenc x).length = 3 := rfl

theorem wenc_one (x : WordL) : ∀ u ∈ wenc x, u.oneCell' = true := by
  intro u hu
  simp only [wenc, List.mem_cons, List.not_mem_nil, or_false] at hu
  rcases hu with rfl | rfl | rfl <;> rfl

def wAt (w : World) (b o : Nat) (x : WordL) : Prop := w.cell? ⟨b, o, none⟩ = some (.string x.1) ∧ w.cell? ⟨b, o + 1, none⟩ = some (.int .i64 x.2.1) ∧ w.cell? ⟨b, o + 2, none⟩ = some (.int .i64 x.2.2)

theorem w_at {w : World} {a : Option Addr} {n c : Nat} {ss : List WordL} (h : CellRow w (.slice a n c) n (flat wenc ss)) (j : Nat) (x : WordL) (hx : ss[j]? = some x) : ∃ b o, a = some ⟨b, o, none⟩ ∧ b < w.heap.size ∧ wAt w b (o + j * 3) x := by
  obtain ⟨a', c', hv, h⟩ := h
  simp only [Value.slice.injEq] at hv
  obtain ⟨rfl, _, rfl⟩ := hv
  have hj := (List.getElem?_eq_some_iff.1 hx).1
  rcases h with h | ⟨b, o, ha, hl, hc⟩
  · have := flat_length wenc_len ss
    rw [h, List.length_nil] at this
    omega
  · refine ⟨b, o, ha, hl, ?_, ?_, ?_⟩
    · have := hc (j * 3 + 0) _ ((flat_at wenc_len ss j x hx 0 (by decide)).trans rfl)
      exact this
    · have := hc (j * 3 + 1) _ ((flat_at wenc_len ss j x hx 1 (by decide)).trans rfl)
      exact this
    · have := hc (j * 3 + 2) _ ((flat_at wenc_len ss j x hx 2 (by decide)).trans rfl)
      exact this

def wmk (v : Int) : WordL := (⟨#[]⟩, v, 0)

/-- The marks of the list i from the place f on, n of them. -/
def wmarks (i f n : Nat) : List WordL := (List.range n).map fun k : Nat => wmk (-1000 * (i : Int) - ((f : Int) + (k : Int)) - 1)

theorem wmarks_length (i f n : Nat) : (wmarks i f n).length = n := by simp [wmarks]

theorem wmarks_succ (i f n : Nat) : wmarks i f (n + 1) = wmarks i f n ++ [wmk (-1000 * (i : Int) - ((f : Int) + (n : Int)) - 1)] := by
  simp [wmarks, List.range_succ]

theorem wmarks_add (i f n m : Nat) : wmarks i f n ++ wmarks i (f + n) m = wmarks i f (n + m) := by
  induction m with
  | zero => simp [wmarks]
  | succ m ih =>
    rw [← Nat.add_assoc, wmarks_succ, wmarks_succ, ← List.append_assoc, ih]
    congr 3
    push_cast
    omega

set_option maxRecDepth 20000 in
set_option maxHeartbeats 800000 in
theorem markWords_any (i f n : Nat) (hi9 : i ≤ 1000) (hf9 : f ≤ 100000000) (hn9 : n ≤ 1000000) (w : World) :
    Calls Try.prog 79 #[.int .i64 i, .int .i64 f, .int .i64 n] w fun e w' => ∃ v, e = .returned v ∧ w'.ownsRow w.heap.size 44 3 v n (flat wenc (wmarks i f n)) ∧ Below w.heap.size w w' := by
  obtain ⟨i0, hi, hz0, hz1, hz2⟩ := info_parts (show (Try.prog.info? 44).map (fun i => (i.zero, i.size, i.bytes)) = some (some (.agg #[.string ⟨#[]⟩, .int .i64 0, .int .i64 0]), 3, 32) by kernel_rfl)
  have HI := Hid.of hi
  have HZ0 := Hid.of hz0
  have HZ1 := Hid.of hz1
  have HZ2 := Hid.of hz2
  clear hi hz0 hz1 hz2
  go_enter Try.func79, Try.ntmps79
  go_wp2
  go_loopw [7, 8] (fun v k wr => ∃ j : Nat, j ≤ n ∧ k = .int .i64 ((f : Int) + j) ∧ Hid (wr.ownsRow w.heap.size 44 3 v j (flat wenc (wmarks i f j))) ∧ Below w.heap.size w wr) (fun _ k _ => n - ((intOf k).toNat - f))
  case atStart => exact ⟨0, Nat.zero_le _, by simp, Hid.of (World.ownsRow_nil _ _ _ _), Below.refl _ _⟩
  case round =>
    obtain ⟨j, hj, rfl, O, hb⟩ := hrel
    by_cases hlt : j < n
    · go_wp2_with (at_builtin; refine append_row_law rfl _ _ 49 rfl w.heap.size 44 i0 (.agg #[.string ⟨#[]⟩, .int .i64 0, .int .i64 0]) 3 32 Try.underlying49 HI.out HZ0.out HZ1.out HZ2.out rfl (by decide) _ j _ rfl (O.out.alloc _) (.slice (some ⟨wr.heap.size, 0, none⟩) 1 1) 1 [.string ⟨#[]⟩, .int .i64 (-1000 * (i : Int) - ((f : Int) + (j : Int)) - 1), .int .i64 0] (by go_num) ⟨_, _, rfl, .inr ⟨_, 0, rfl, by simp, new_cells wr _ _⟩⟩ rfl (by simp [Value.oneCell']) (by unfold maxLen; omega) (by omega) (by simp; have := hb.size; omega) ?_; intro v1 w1 o1 g1)
      go_roundw
      case rel =>
        refine ⟨j + 1, by omega, by go_num, Hid.of ?_, (hb.alloc hb.size _).grown g1 (by have := hb.size; simp; omega) (fun k hk => own_ge O.out hk)⟩
        rw [wmarks_succ, flat_append, flat_one]
        exact o1
      case measure => simp [intOf]; omega
    · go_wp2
      go_ret
      have : j = n := by omega
      subst this
      exact ⟨_, rfl, O.out, hb⟩

set_option maxHeartbeats 400000 in
theorem copyWords_any (v : Value) (ss : List WordL) (w : World) (hv : CellRow w v ss.length (flat wenc ss)) (hn : ss.length ≤ 1000000) :
    Calls Try.prog 26 #[v] w fun e w' => ∃ u, e = .returned u ∧ w'.ownsRow w.heap.size 44 3 u ss.length (flat wenc ss) ∧ Below w.heap.size w w' := by
  have HC := Hid.of hv
  obtain ⟨sa, c, rfl, _⟩ := hv
  obtain ⟨i0, hi, hz0, hz1, hz2⟩ := info_parts (show (Try.prog.info? 44).map (fun i => (i.zero, i.size, i.bytes)) = some (some (.agg #[.string ⟨#[]⟩, .int .i64 0, .int .i64 0]), 3, 32) by kernel_rfl)
  have HI := Hid.of hi
  have HZ0 := Hid.of hz0
  have HZ1 := Hid.of hz1
  have HZ2 := Hid.of hz2
  clear hi hz0 hz1 hz2
  go_enter Try.func26, Try.ntmps26
  go_wp2_with (at_builtin; refine append_row_law rfl (.const (.slice none 0 0)) (.tmp 3) 49 rfl w.heap.size 44 i0 (.agg #[.string ⟨#[]⟩, .int .i64 0, .int .i64 0]) 3 32 Try.underlying49 HI.out HZ0.out HZ1.out HZ2.out rfl (by decide) (.slice none 0 0) 0 [] rfl ⟨rfl, .inl ⟨rfl, rfl⟩⟩ _ ss.length _ rfl HC.out (flat_length wenc_len ss) (flat_ones wenc_one ss) (by unfold maxLen; omega) (by omega) (Nat.le_refl _) ?_; intro v1 w1 o1 g1; have O1 : Hid (w1.ownsRow w.heap.size 44 3 v1 ss.length (flat wenc ss)) := Hid.of (by simpa using o1); have b1 : Below w.heap.size w w1 := below_of_none g1; clear o1 g1)
  go_ret
  exact ⟨_, rfl, O1.out, b1⟩

end Go.Proofs.Ytcjfejhfafiaiaa
