/-
  A bundle of texts: BC RBL.
-/
import Derived.Shelf.Strings.Builder1
import Derived.Test.YtfgfgdchaoekfaaDoorQ02
import Derived.Test.YtfgfgdchaoekfaaDoorQ03
namespace Go.Proofs.YtfgfgdchaoekfaaDoor
open Go.RowKit Go.Lib

theorem Clone_any (s : ByteArray) (w : World) (hs : s.size ≤ 281474976710656) :
    Calls Tryd.prog 53 #[.string s] w fun e w' => e = .returned (.string s) ∧ Below w.heap.size w w' := by
  go_enter Tryd.func53, Tryd.ntmps53
  go_wp2_with (go_at_call 66; refine (Tryd.stringslite_Clone s _ hs).mono ?_; rintro e w2 ⟨rfl, h2⟩)
  go_ret
  exact ⟨rfl, h2⟩

end Go.Proofs.YtfgfgdchaoekfaaDoor

namespace Go.Proofs.YtfgfgdchaoekfaaDoor
open Go.RowKit Go.Lib Go.Shelf

def bldRen : Go.Shelf.Ren := ⟨fun | 166 => 17 | 240 => 29 | 276 => 44 | n => n, fun | 37 => 49 | 70 => 48 | 72 => 51 | 75 => 54 | 80 => 58 | 164 => 90 | n => n, fun | n => n⟩
theorem bldLays : Lays.n166 Tryd.prog bldRen := {
  mixed := by kernel_rfl
  f166 := Tryd.func17.trans (congrArg some (by kernel_rfl))
  f240 := Tryd.func29.trans (congrArg some (by kernel_rfl))
  f276 := Tryd.func44.trans (congrArg some (by kernel_rfl))
  t0 := Tryd.underlying0
  a0 := Tryd.isAgg0
  z0 := Tryd.sizeOf0
  v0 := Tryd.zeroValue0
  t3 := Tryd.underlying3
  a3 := Tryd.isAgg3
  z3 := Tryd.sizeOf3
  v3 := Tryd.zeroValue3
  t4 := Tryd.underlying4
  a4 := Tryd.isAgg4
  z4 := Tryd.sizeOf4
  v4 := Tryd.zeroValue4
  t9 := Tryd.underlying9
  a9 := Tryd.isAgg9
  z9 := Tryd.sizeOf9
  v9 := Tryd.zeroValue9
  t20 := Tryd.underlying20
  a20 := Tryd.isAgg20
  z20 := Tryd.sizeOf20
  v20 := Tryd.zeroValue20
  t37 := Tryd.underlying49
  a37 := Tryd.isAgg49
  z37 := Tryd.sizeOf49
  v37 := Tryd.zeroValue49
  t70 := Tryd.underlying48
  a70 := Tryd.isAgg48
  z70 := Tryd.sizeOf48
  v70 := Tryd.zeroValue48
  t72 := Tryd.underlying51
  a72 := Tryd.isAgg51
  z72 := Tryd.sizeOf51
  v72 := Tryd.zeroValue51
  t75 := Tryd.underlying54
  a75 := Tryd.isAgg54
  z75 := Tryd.sizeOf54
  v75 := Tryd.zeroValue54
  t164 := Tryd.underlying90
  a164 := Tryd.isAgg90
  z164 := Tryd.sizeOf90
  v164 := Tryd.zeroValue90 }
theorem bldExtra : Builder.Extra Tryd.prog bldRen := {
  sizeBuilder := by kernel_rfl
  liesBuilder := by kernel_rfl
  t5 := Tryd.underlying5
  a5 := Tryd.isAgg5
  z5 := Tryd.sizeOf5
  v5 := Tryd.zeroValue5
  infoByte := by kernel_rfl
  cellsByte := by kernel_rfl
  sizeByte := by kernel_rfl
  neB5 := by decide }

/-- A Builder of one's own (from B on) in block b, with the bytes l. -/
def Bld (B b : Nat) (l : List UInt8) (w : World) : Prop := Lib.BuilderAt 51 5 B b (.pointer (some ⟨b, 0, none⟩)) (Lib.byteCells l) w
/-- One that has not been used. -/
def Bld0 (b : Nat) (w : World) : Prop := w.heap[b]? = some (.cells #[.pointer none, .slice none 0 0] 51 (0, 0))

theorem Bld0.new (w : World) : Bld0 w.heap.size (w.alloc (.cells #[.pointer none, .slice none 0 0] 51)) := Go.heap_alloc_new _ _
theorem bytes_str (s : ByteArray) : Lib.strCells s = Lib.byteCells s.data.toList := rfl
theorem Bld.lt {B b : Nat} {l : List UInt8} {w : World} (h : Bld B b l w) : b < w.heap.size := Lib.BuilderAt.lt h
theorem Bld.ge {B b : Nat} {l : List UInt8} {w : World} (h : Bld B b l w) : B ≤ b := h.1
theorem Bld.kept {B b : Nat} {l : List UInt8} {w w' : World} (h : Bld B b l w) (c : Below w.heap.size w w') : Bld B b l w' := by
  obtain ⟨h1, v, h2, h3, h4⟩ := h
  refine ⟨h1, v, (c.block b (Array.getElem?_eq_some_iff.1 h2).1).trans h2, ?_, h4⟩
  exact h3.kept (⟨c.os, c.tape, c.output, c.size, fun i hi _ => c.block i hi⟩ : w.grownBy w' none) (by
    cases v.ownBlock with
    | none => exact .inl rfl
    | some g => exact .inr (by simp))

theorem bld_grow (B b n : Nat) (w : World) (h : Bld0 b w) (hB : B ≤ b) (hw : B ≤ w.heap.size) (hn : n ≤ 1000000) :
    Calls Tryd.prog 16 #[.pointer (some ⟨b, 0, none⟩), .int .i64 n] w fun e w' => e = .returned (.tuple #[]) ∧ Bld B b [] w' ∧ Below B w w' :=
  (Tryd.Builder_Grow_fresh B b n w hB h hw (by omega)).mono fun _ _ h => ⟨h.1, h.2.1, h.2.2⟩

theorem bld_write (B b : Nat) (l : List UInt8) (s : ByteArray) (w : World) (h : Bld B b l w) (hw : B ≤ w.heap.size) (hn : l.length + s.size ≤ 1000000) :
    Calls Tryd.prog 17 #[.pointer (some ⟨b, 0, none⟩), .string s] w fun e w' => e = .returned (.tuple #[.int .i64 s.size, .nilIface]) ∧ Bld B b (l ++ s.data.toList) w' ∧ Below B w w' :=
  (Any.Builder_WriteString bldLays bldExtra B b (Lib.byteCells l) s w (Or.inr h) (by simp [Lib.byteCells]; omega) hw).mono fun _ _ h => ⟨h.1, by
    have h2 := h.2.1
    rw [bytes_str] at h2
    unfold Bld
    have e : Lib.byteCells (l ++ s.data.toList) = Lib.byteCells l ++ Lib.byteCells s.data.toList := by unfold Lib.byteCells; rw [List.map_append]
    rw [e]
    exact h2, h.2.2⟩

theorem bld_text (B b : Nat) (l : List UInt8) (w : World) (h : Bld B b l w) (hw : B ≤ w.heap.size) :
    Calls Tryd.prog 19 #[.pointer (some ⟨b, 0, none⟩)] w fun e w' => e = .returned (.string ⟨l.toArray⟩) ∧ Below B w w' :=
  Tryd.Builder_String_any B b l w (Or.inr h) hw

end Go.Proofs.YtfgfgdchaoekfaaDoor
