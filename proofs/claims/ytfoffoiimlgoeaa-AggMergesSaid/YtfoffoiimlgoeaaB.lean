/-
  What function lay of package pack does: it puts the lowest bytes of a number behind a buffer of bytes.
-/
import Derived.Test.YtfoffoiimlgoeaaA
import Derived.Lib.BufSteps
import Derived.Lib.AppendZerosOnto
namespace Go.Proofs.Ytfoffoiimlgoeaa
open Go.RowKit Go.Lib

/-- The lowest k bytes of x, the lowest first. -/
def le : Nat → Nat → List UInt8
  | 0, _ => []
  | k + 1, x => UInt8.ofNat x :: le k (x / 256)

theorem le_length (k x : Nat) : (le k x).length = k := by
  induction k generalizing x with
  | zero => rfl
  | succ k ih => simp [le, ih]

theorem le_snoc (k x : Nat) : le (k + 1) x = le k x ++ [UInt8.ofNat (x / 256 ^ k)] := by
  induction k generalizing x with
  | zero => simp [le]
  | succ k ih =>
    rw [le, ih (x / 256), le, List.cons_append, Nat.div_div_eq_div_mul, Nat.pow_succ']

theorem append_text {ops : Array Oper} {rest : List Oper} {o : Oper} {a : Act} {Q : Exit → Act → World → Prop} {w : World} (hgd : o.guard = none) (sl x : Operand)
    (ho : o.op = .call { callee := .builtin .append, args := #[sl, x], argTypes := #[60, 9] })
    (B : Nat) (v : Value) (n : Nat) (xs : List Value) (hs : a.eval sl = v) (W0 : World) (hb : OwnBuf B 5 v n xs W0 w) (s : ByteArray) (hx : a.eval x = .string s) (hlen : n + s.size ≤ 140737488355328)
    (h : ∀ v' w', OwnBuf B 5 v' (n + s.size) (xs ++ strCells s) W0 w' → wpList Try.prog ops Q rest (a.put o.dst v') w') : wpList Try.prog ops Q (o :: rest) a w := by
  obtain ⟨i0, hi, hz0, hz1, hz2⟩ := info_parts (show (Try.prog.info? 5).map (fun i => (i.zero, i.size, i.bytes)) = some (some (.int .u8 0), 1, 1) by kernel_rfl)
  exact Lib.wpList_append_text hgd sl x 60 9 ho B 5 i0 Try.underlying60 Try.underlying9 hi hz0 hz1 hz2 v n xs hs W0 hb s hx hlen h

theorem append_byte {ops : Array Oper} {rest : List Oper} {o : Oper} {a : Act} {Q : Exit → Act → World → Prop} (hgd : o.guard = none) (sl x : Operand)
    (ho : o.op = .call { callee := .builtin .append, args := #[sl, x], argTypes := #[60, 60] })
    (B : Nat) (v : Value) (n : Nat) (xs : List Value) (hs : a.eval sl = v) (W0 w0 : World) (c : Int) (hb : OwnBuf B 5 v n xs W0 w0)
    (hx : a.eval x = .slice (some ⟨w0.heap.size, 0, none⟩) 1 1) (hlen : n + 1 ≤ 140737488355328)
    (h : ∀ v' w', OwnBuf B 5 v' (n + 1) (xs ++ [.int .u8 c]) W0 w' → wpList Try.prog ops Q rest (a.put o.dst v') w') : wpList Try.prog ops Q (o :: rest) a (w0.alloc (.cells #[.int .u8 c] 5)) := by
  obtain ⟨i0, hi, hz0, hz1, hz2⟩ := info_parts (show (Try.prog.info? 5).map (fun i => (i.zero, i.size, i.bytes)) = some (some (.int .u8 0), 1, 1) by kernel_rfl)
  exact Lib.wpList_append_byte hgd sl x 60 ho B 5 i0 Try.underlying60 hi hz0 hz1 hz2 v n xs hs W0 w0 c hb hx hlen h

theorem byteCells_snoc (l : List UInt8) (y : Nat) : Lib.byteCells (l ++ [UInt8.ofNat y]) = Lib.byteCells l ++ [Value.int .u8 ((y : Int) % 256)] := by
  simp [Lib.byteCells]

set_option maxHeartbeats 400000 in
theorem lay_any (B : Nat) (v : Value) (n : Nat) (xs : List Value) (W0 w : World) (k x : Nat) (hk : k ≤ 8) (hb : OwnBuf B 5 v n xs W0 w) (hn : n + 8 ≤ 140737488355328) :
    Calls Try.prog 45 #[v, .int .i64 k, .int .u64 (x : Nat)] w fun e w' => ∃ v', e = .returned v' ∧ OwnBuf B 5 v' (n + k) (xs ++ Lib.byteCells (le k x)) W0 w' := by
  go_enter Try.func45, Try.ntmps45
  go_wp2
  go_loopw [0, 2, 8] (fun b y i wr => ∃ (j : Nat) (a : Int), j ≤ k ∧ i = .int .i64 j ∧ y = .int .u64 a ∧ Hid (a = ((x / 256 ^ j : Nat) : Int)) ∧ OwnBuf B 5 b (n + j) (xs ++ Lib.byteCells (le j x)) W0 wr) (fun _ _ i _ => k - (intOf i).toNat)
  case atStart => exact ⟨0, x, Nat.zero_le _, rfl, rfl, by simp [Hid], by simpa [le, Lib.byteCells] using hb⟩
  case round =>
    obtain ⟨j, a, hj, rfl, rfl, hja, hbr⟩ := hrel
    by_cases hlt : j < k
    · go_wp2_with (at_builtin; refine append_byte rfl _ _ rfl B u0 (n + j) _ rfl W0 _ (a % 256) hbr rfl (by omega) ?_; intro b' w1 hb1)
      go_roundw
      case rel =>
        refine ⟨j + 1, _, by omega, by go_num, rfl, ?_, ?_⟩
        · have := hja.out
          subst this
          show ((x / 256 ^ j : Nat) : Int) / 256 = _
          rw [Nat.pow_succ, ← Nat.div_div_eq_div_mul]; omega
        · have := hja.out
          subst this
          rw [le_snoc, byteCells_snoc]
          rw [← List.append_assoc]
          exact hb1
      case measure => simp [intOf]; omega
    · go_wp2
      go_ret
      have : j = k := by omega
      subst this
      exact ⟨_, rfl, hbr⟩

end Go.Proofs.Ytfoffoiimlgoeaa
