/-
  What methods Len, Small, Ints and Words of a Packer do.
-/
import Derived.Test.YtfoffoiimlgoeaaD
namespace Go.Proofs.Ytfoffoiimlgoeaa
open Go.RowKit Go.Lib

/-- What Small puts of numbers that fit. -/
def smallBytes (k : Nat) (xs : List Int) : List UInt8 := (xs.map fun x => le k x.toNat).flatten

theorem smallBytes_take (k : Nat) (xs : List Int) (j : Nat) (h : j < xs.length) : smallBytes k (xs.take (j + 1)) = smallBytes k (xs.take j) ++ le k (xs.getD j 0).toNat := by
  unfold smallBytes
  have e : xs.getD j 0 = xs[j] := by simp [List.getD, h]
  rw [List.take_succ_eq_append_getElem h, List.map_append, List.flatten_append, e]
  simp

theorem smallBytes_length (k : Nat) (xs : List Int) : (smallBytes k xs).length = k * xs.length := by
  unfold smallBytes
  induction xs with
  | nil => simp
  | cons x xs ih => simp [le_length, ih, Nat.mul_add]; omega

/-- What put does to the receiver pv in the worlds that come behind w: R says it. -/
def PutSpec (pv : Value) (w : World) (R : Int → List UInt8 → World → World → Prop) : Prop :=
  ∀ (v : Value) (l2 : List UInt8) (e0 : Int) (wr : World), Below w.heap.size w wr → wr.ownsRowF w.heap.size 5 1 v l2.length (Lib.byteCells l2) → l2.length ≤ 140737488355328 →
    Calls Try.prog 46 #[pv, v, .int .i64 e0] wr fun e w' => e = .returned (.tuple #[]) ∧ R e0 l2 wr w'

theorem putSpec_Pk (B p : Nat) (l : List UInt8) (w : World) (h : Pk B p l 0 w) (h1 : l.length ≤ 140737488355328) :
    PutSpec (.pointer (some ⟨p, 0, none⟩)) w (fun e0 l2 wr w' => Pk B p (l ++ l2) e0 w' ∧ wr.grownBy w' (some p)) :=
  fun v l2 e0 wr hb hs h2 => put_Pk B p l v w.heap.size l2 e0 wr (h.kept (grown_of_below hb)) hs h1 h2

theorem putSpec_stopped (B p : Nat) (l : List UInt8) (bad : Int) (hbad : (bad != 0) = true) (w : World) (h : Pk B p l bad w) :
    PutSpec (.pointer (some ⟨p, 0, none⟩)) w (fun _ _ wr w' => wr = w') :=
  fun v _ e0 wr hb _ _ => put_stopped p v e0 bad hbad wr (h.kept (grown_of_below hb)).bad

theorem putSpec_nil (w : World) : PutSpec (.pointer none) w (fun _ _ wr w' => wr = w') :=
  fun v _ e0 wr _ _ _ => put_nil v e0 wr

/-- What a method did: it wrote new blocks alone, and put l2 with the error e0. -/
def Did (w : World) (R : Int → List UInt8 → World → World → Prop) (e0 : Int) (l2 : List UInt8) (w' : World) : Prop := ∃ wr, Below w.heap.size w wr ∧ R e0 l2 wr w'

theorem Did.pk {B p : Nat} {l l2 : List UInt8} {e0 : Int} {w w' : World} (h : Did w (fun e0 l2 wr w' => Pk B p (l ++ l2) e0 w' ∧ wr.grownBy w' (some p)) e0 l2 w') : Pk B p (l ++ l2) e0 w' ∧ w.grownBy w' (some p) := by
  obtain ⟨wr, hb, h1, h2⟩ := h
  exact ⟨h1, grownBy_trans ⟨hb.os, hb.tape, hb.output, hb.size, fun k hk _ => hb.block k hk⟩ h2⟩

theorem Did.same {l2 : List UInt8} {e0 : Int} {w w' : World} (h : Did w (fun _ _ wr w' => wr = w') e0 l2 w') : Below w.heap.size w w' := by
  obtain ⟨wr, hb, rfl⟩ := h
  exact hb

theorem pow_wrap (k : Nat) (hk : k ≤ 7) : wrap64 (2 ^ (8 * k)) = 256 ^ k := by
  match k, hk with
  | 0, _ => rw [IntWalk.wrap64_in _ (by decide)]; rfl
  | 1, _ => rw [IntWalk.wrap64_in _ (by decide)]; rfl
  | 2, _ => rw [IntWalk.wrap64_in _ (by decide)]; rfl
  | 3, _ => rw [IntWalk.wrap64_in _ (by decide)]; rfl
  | 4, _ => rw [IntWalk.wrap64_in _ (by decide)]; rfl
  | 5, _ => rw [IntWalk.wrap64_in _ (by decide)]; rfl
  | 6, _ => rw [IntWalk.wrap64_in _ (by decide)]; rfl
  | 7, _ => rw [IntWalk.wrap64_in _ (by decide)]; rfl
  | k + 8, h => omega

theorem u64_small (m k : Nat) (hk : k ≤ 7) (h : (m : Int) < 256 ^ k) : IntKind.u64.wrap (m : Int) = m := by
  have h2 : (256 : Int) ^ k ≤ 72057594037927936 := by
    have h3 : (256 : Nat) ^ k ≤ 256 ^ 7 := Nat.pow_le_pow_right (by decide) hk
    have h4 : (((256 : Nat) ^ k : Nat) : Int) = (256 : Int) ^ k := by simp
    rw [← h4]
    omega
  show (m : Int) % 18446744073709551616 = m
  omega

end Go.Proofs.Ytfoffoiimlgoeaa
