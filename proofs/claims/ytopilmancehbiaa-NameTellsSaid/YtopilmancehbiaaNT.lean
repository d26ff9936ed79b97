/-
  What statement NameTells asks of package name, and its first loop: texts in order, as the statement itself puts them.
-/
import Derived.Test.YtopilmancehbiaaNR
import Derived.Test.YtopilmancehbiaaBB
import Derived.Test.YtopilmancehbiaaBKR
import Derived.Test.YtopilmancehbiaaBKS
import Derived.Deep.RegionHeld3
import Derived.Deep.QuietTactic
import Derived.BigQuiet
namespace Go.Proofs.Ytopilmancehbiaa
open Go.RowKit Go.Lib

theorem size_total {ss : List ByteArray} {s : ByteArray} (h : s ∈ ss) : s.size ≤ total ss := by
  induction ss with
  | nil => exact absurd h List.not_mem_nil
  | cons a l ih =>
    have e : total (a :: l) = a.size + total l := by simp [total]
    rcases List.mem_cons.1 h with rfl | h
    · omega
    · have := ih h
      omega

theorem ins_new {o : List ByteArray} {s : ByteArray} (h : ¬ o[nPos o s]? = some s) : nIns o s = o.take (nPos o s) ++ [s] ++ o.drop (nPos o s) := by
  unfold nIns
  rw [if_neg h]

theorem ins_old {o : List ByteArray} {s : ByteArray} (h : o[nPos o s]? = some s) : nIns o s = o := by
  unfold nIns
  rw [if_pos h]

theorem str_get {w : World} {a : Option Addr} {n c : Nat} {ss : List ByteArray} (h : CellRow w (.slice a n c) n (ss.map Value.string)) (j : Nat) (s : ByteArray) (hs : ss[j]? = some s) : ∃ b o, a = some ⟨b, o, none⟩ ∧ b < w.heap.size ∧ w.cell? ⟨b, o + j, none⟩ = some (.string s) :=
  h.at j (.string s) (by rw [List.getElem?_map, hs]; rfl)

/-- Where s belongs among o: k counts up to there. -/
theorem pos_step {o : List ByteArray} {s t : ByteArray} {k : Nat} (hk : k ≤ nPos o s) (ht : o[k]? = some t) (h : Op.bytesLess t.toList s.toList = true) : k + 1 ≤ nPos o s := by
  rcases Nat.lt_or_eq_of_le hk with c | c
  · exact c
  · subst c
    rw [nPos_at o s t ht] at h
    cases h

theorem pos_end {o : List ByteArray} {s t : ByteArray} {k : Nat} (hk : k ≤ nPos o s) (ht : o[k]? = some t) (h : Op.bytesLess t.toList s.toList = false) : k = nPos o s := by
  rcases Nat.lt_or_eq_of_le hk with c | c
  · have := nPos_before o s k c t ht
    unfold nLt at this
    rw [h] at this
    cases this
  · exact c

/-- One round of the order: what is left of the loop's round behind it is handed on. -/
theorem same_lists {a b : ByteArray} : (a.toList == b.toList) = true ↔ a = b := by
  rw [beq_iff_eq]
  exact ⟨toList_eq, fun h => by rw [h]⟩

end Go.Proofs.Ytopilmancehbiaa
