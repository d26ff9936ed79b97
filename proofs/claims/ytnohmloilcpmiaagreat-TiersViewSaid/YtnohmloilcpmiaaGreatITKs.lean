/-
  What statement TiersTicks answers: true, for every input.
-/
import Derived.Test.YtnohmloilcpmiaaGreatS28
import Derived.Test.YtnohmloilcpmiaaGreatS42
namespace Go.Proofs.YtnohmloilcpmiaaGreat
open Go.RowKit Go.Lib

theorem sams_ne {ss : List SamL} (h : ss ≠ []) : flat aenc ss ≠ [] := fun c => by
  have := flat_length aenc_len ss
  rw [c, List.length_nil] at this
  exact h (List.length_eq_zero_iff.1 (by omega))
theorem iCheck_len {r : RchL} {ss : List SamL} (h : iCheck r ss = 0) : ss ≠ [] ∧ ss.length ≤ 8 ∧ iTakes r ss = 0 := by
  unfold iCheck at h
  split at h
  · cases h
  · split at h
    · cases h
    · exact ⟨‹_›, by omega, h⟩
theorem ISame.symm {r r' : RchL} {T T' : List (List TRec)} (h : ISame r r' T T') : ISame r' r T' T := ⟨h.1.symm, h.2.1.symm, h.2.2.1.symm, h.2.2.2.symm⟩

end Go.Proofs.YtnohmloilcpmiaaGreat
