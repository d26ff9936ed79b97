/-
  What statement TiersTicks answers: true, for every input.
-/
import Derived.Test.YtnohmloilcpmiaaQ25
import Derived.Test.YtnohmloilcpmiaaQ37
namespace Go.Proofs.Ytnohmloilcpmiaa
open Go.RowKit Go.Lib

theorem sams_ne {ss : List SamL} (h : ss ≠ []) : flat aenc ss ≠ [] := fun c => by
  have := flat_length aenc_len ss
  rw [c, List.length_nil] at this
  exact h (List.length_eq_zero_iff.1 (by omega))
theorem iCheck_len {r : RchL} {ss : List SamL} (h : iCheck r ss = 0) : ss ≠ [] ∧ ss.length ≤ 8 ∧ iTakes r ss = 0 := by
  unfold iCheck at h
  split at h
  · cases h
  · split at h
    · cases h
    · exact ⟨‹_›, by omega, h⟩
end Go.Proofs.Ytnohmloilcpmiaa
