/-
  A bundle of texts: TAL TDR.
-/
import Derived.Deep.RegionHeld3
import Derived.Deep.QuietTactic
import Derived.BigQuiet
import Derived.Test.YtdhkmcmipkfkjaaR18
import Derived.Test.YtdhkmcmipkfkjaaR11
namespace Go.Proofs.Ytdhkmcmipkfkjaa
open Go.RowKit Go.Lib

def g1 : Ag := ⟨1, 0, 1, 1, 1⟩
def g3 : Ag := ⟨1, 0, 3, 3, 3⟩
theorem ints_1 (x : Int) (h : -9223372036854775808 ≤ x ∧ x ≤ 9223372036854775807) : Ints [x] := fun y hy => by rw [List.mem_singleton.1 hy]; exact h

theorem num_1 (w : World) (x : Int) (T : TypeId) : NumRow .i64 (w.alloc (.cells #[.int .i64 x] T)) (.slice (some ⟨w.heap.size, 0, none⟩) 1 1) [x] :=
  CellRow.ints (xs := [x]) ⟨_, _, rfl, .inr ⟨w.heap.size, 0, rfl, by simp, new_cells w #[.int .i64 x] T⟩⟩

end Go.Proofs.Ytdhkmcmipkfkjaa

namespace Go.Proofs.Ytdhkmcmipkfkjaa
open Go.RowKit Go.Lib

theorem tIns_len (l : List TRec) (r : TRec) : (tIns l r).length ≤ l.length + 1 := by
  induction l with
  | nil => simp [tIns]
  | cons x l ih =>
    unfold tIns
    split
    · simp only [List.length_cons]; omega
    · split
      · simp only [List.length_cons]; omega
      · simp only [List.length_cons]; omega

end Go.Proofs.Ytdhkmcmipkfkjaa
