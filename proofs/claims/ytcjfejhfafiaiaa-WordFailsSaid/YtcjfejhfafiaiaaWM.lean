/-
  Words of a text, plain: byte by byte.
-/
import Derived.WalkKit
import Derived.Test.YtcjfejhfafiaiaaBA
namespace Go.Proofs.Ytcjfejhfafiaiaa
open Go.RowKit

/-- A word and its place. -/
abbrev WdL := ByteArray × Int × Int

/-- What has been read: the words, the place, the word that is under way, whether a remark is. -/
structure WSt where
  out : List WdL
  line : Nat
  col : Nat
  cur : Option (List UInt8)
  remark : Bool

/-- A byte that is none. -/
def wBad (c : Nat) : Prop := c ≠ 10 ∧ c ≠ 32 ∧ c ≠ 9 ∧ (c < 33 ∨ 126 < c)

instance (c : Nat) : Decidable (wBad c) := by unfold wBad; infer_instance

/-- The word that ends here. -/
def WSt.ended (s : WSt) : List WdL := match s.cur with
  | some w => s.out ++ [(⟨w.toArray⟩, (s.line : Int), (s.col : Int) - (w.length : Int))]
  | none => s.out

/-- Behind a byte that may be. -/
def WSt.step (s : WSt) (c : UInt8) : WSt :=
  if c.toNat = 10 then ⟨s.ended, s.line + 1, 1, none, false⟩
  else if c.toNat ≤ 32 then ⟨s.ended, s.line, s.col + 1, none, s.remark⟩
  else match s.cur with
    | some w => ⟨s.out, s.line, s.col + 1, some (w ++ [c]), s.remark⟩
    | none => if s.remark then ⟨s.out, s.line, s.col + 1, none, true⟩
      else if c.toNat = 35 then ⟨s.out, s.line, s.col + 1, none, true⟩
      else ⟨s.out, s.line, s.col + 1, some [c], false⟩

def WSt.start : WSt := ⟨[], 1, 1, none, false⟩

/-- Byte by byte; at a byte that is none: its line. -/
def wRun : WSt → List UInt8 → WSt ⊕ Nat
  | s, [] => .inl s
  | s, c :: l => if wBad c.toNat then .inr s.line else wRun (s.step c) l

/-- The words, or the error and its line. -/
def wCut (t : List UInt8) : Option (List WdL) × Int × Int :=
  if 4000 < t.length then (none, 2, 0) else match wRun .start t with
    | .inl s => (some s.ended, 0, 0)
    | .inr n => (none, 22, n)

theorem wRun_append (s : WSt) (a b : List UInt8) : wRun s (a ++ b) = match wRun s a with
    | .inl s' => wRun s' b
    | .inr n => .inr n := by
  induction a generalizing s with
  | nil => rfl
  | cons c a ih =>
    rw [List.cons_append]
    by_cases h : wBad c.toNat
    · rw [wRun, wRun, if_pos h, if_pos h]
    · rw [wRun, wRun, if_neg h, if_neg h]
      exact ih _

theorem wRun_snoc {s s' : WSt} {a : List UInt8} (h : wRun s a = .inl s') (c : UInt8) : wRun s (a ++ [c]) = if wBad c.toNat then .inr s'.line else .inl (s'.step c) := by
  rw [wRun_append, h]
  show wRun s' [c] = _
  rw [wRun]
  split <;> rfl

theorem wRun_bad {s s' : WSt} {a b : List UInt8} {c : UInt8} (h : wRun s a = .inl s') (hc : wBad c.toNat) : wRun s (a ++ c :: b) = .inr s'.line := by
  rw [wRun_append, h]
  show wRun s' (c :: b) = _
  rw [wRun, if_pos hc]

/-- The word under way has as many bytes as have been read since it began. -/
theorem wRun_split (s : WSt) (t : List UInt8) (k : Nat) : wRun s t = match wRun s (t.take k) with
    | .inl s' => wRun s' (t.drop k)
    | .inr n => .inr n := by
  have h := wRun_append s (t.take k) (t.drop k)
  rwa [List.take_append_drop] at h

end Go.Proofs.Ytcjfejhfafiaiaa
