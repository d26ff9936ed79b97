/-
  The methods of a Packer, said of the bytes that it holds; and what function Digits answers.
-/
import Derived.Test.YtfoffoiimlgoeaaH
import Derived.Test.YtfoffoiimlgoeaaK
namespace Go.Proofs.Ytfoffoiimlgoeaa
open Go.RowKit Go.Lib

/-- What a method of a Packer without an error leaves. -/
def Wrote (B p : Nat) (l : List UInt8) (bad : Int) (w w' : World) : Prop := Pk B p l bad w' ∧ w.grownBy w' (some p)

theorem Ints_pk {B p : Nat} {l : List UInt8} {w : World} (h : Pk B p l 0 w) (h1 : l.length ≤ 140737488355328) (v : Value) (xs : List Int) (hv : NumRow .i64 w v xs) (h2 : xs.length ≤ 1000000000) :
    Calls Try.prog 32 #[.pointer (some ⟨p, 0, none⟩), v] w fun e w' => e = .returned (.tuple #[]) ∧ Wrote B p (l ++ smallBytes 8 (xs.map unsigned)) 0 w w' :=
  (Ints_any _ v xs w _ (Hid.of (putSpec_Pk B p l w h h1)) hv h2).mono fun _ _ ⟨he, hd⟩ => ⟨he, hd.pk⟩

theorem Words_pk {B p : Nat} {l : List UInt8} {w : World} (h : Pk B p l 0 w) (h1 : l.length ≤ 140737488355328) (v : Value) (xs : List Int) (hv : NumRow .u64 w v xs) (hnn : ∀ j, j < xs.length → 0 ≤ xs.getD j 0) (h2 : xs.length ≤ 1000000000) :
    Calls Try.prog 33 #[.pointer (some ⟨p, 0, none⟩), v] w fun e w' => e = .returned (.tuple #[]) ∧ Wrote B p (l ++ smallBytes 8 xs) 0 w w' :=
  (Words_any _ v xs w _ (Hid.of (putSpec_Pk B p l w h h1)) hv (Hid.of hnn) h2).mono fun _ _ ⟨he, hd⟩ => ⟨he, hd.pk⟩

/-- A new Packer. -/
theorem Pk.new (w : World) : Pk w.heap.size w.heap.size [] 0 (w.alloc (.cells #[.int .i64 0, .int .i64 0, .pointer none] 55)) :=
  ⟨[], none, Go.heap_alloc_new _ _, rfl, rfl, Nat.le_refl _⟩

end Go.Proofs.Ytfoffoiimlgoeaa
