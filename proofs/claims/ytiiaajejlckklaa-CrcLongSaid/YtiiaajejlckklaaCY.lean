/-
  What statement CrcChanged answers: true, for every input.
-/
import Derived.Test.YtiiaajejlckklaaCX
import Derived.Test.YtiiaajejlckklaaBY
namespace Go.Proofs.Ytiiaajejlckklaa
open Go.RowKit Go.Lib

theorem set_apart (l : List UInt8) (i : Nat) (h : i < l.length) (c : UInt8) : l = l.take i ++ l[i] :: l.drop (i + 1) ∧ l.set i c = l.take i ++ c :: l.drop (i + 1) := by
  refine ⟨?_, List.set_eq_take_append_cons_drop.trans (by rw [if_pos h])⟩
  rw [← List.drop_eq_getElem_cons h, List.take_append_drop]

/-- One changed byte changes the sum. -/
theorem crcOf_set (l : List UInt8) (i : Nat) (h : i < l.length) (c : UInt8) (hc : c ≠ l[i]) : crcOf (l.set i c) ≠ crcOf l := by
  intro he
  obtain ⟨h1, h2⟩ := set_apart l i h c
  have h3 : crcOf (l.take i ++ c :: l.drop (i + 1)) = crcOf (l.take i ++ l[i] :: l.drop (i + 1)) := by rw [← h2, ← h1]; exact he
  exact hc (crcOf_changed _ _ _ _ h3)

theorem set_ne (l : List UInt8) (i : Nat) (h : i < l.length) (c : UInt8) (hc : c ≠ l[i]) : l.set i c ≠ l := by
  intro he
  have : (l.set i c)[i]'(by rw [List.length_set]; exact h) = l[i] := by simp only [he]
  rw [List.getElem_set_self] at this
  exact hc this

/-- What was closed, with one byte changed, is refused. -/
theorem open_changed (s : ByteArray) (i : Nat) (h : i < s.size + 4) (c : UInt8) (hl : i < (closeOf s).data.toList.length) (hc : c ≠ (closeOf s).data.toList[i]) : openOf ⟨((closeOf s).data.toList.set i c).toArray⟩ = (⟨#[]⟩, 7) := by
  have hz : (closeOf s).data.toList.length = s.size + 4 := by rw [byte_len, closeOf_size]
  have hsz : (⟨((closeOf s).data.toList.set i c).toArray⟩ : ByteArray).size = s.size + 4 := by
    rw [← byte_len]
    show ((closeOf s).data.toList.set i c).toArray.toList.length = _
    rw [List.toList_toArray, List.length_set, hz]
  have hdl : (⟨((closeOf s).data.toList.set i c).toArray⟩ : ByteArray).data.toList = (closeOf s).data.toList.set i c := List.toList_toArray
  unfold openOf
  rw [if_neg (by omega), hsz, Nat.add_sub_cancel, hdl, if_neg]
  intro he
  have ht : (closeOf s).data.toList.take s.size = s.data.toList := by
    rw [closeOf_list, ← byte_len s, List.take_left]
  have hd : (closeOf s).data.toList.drop s.size = four (crcOf s.data.toList) := by
    rw [closeOf_list, ← byte_len s, List.drop_left]
  rw [List.take_set, List.drop_set, ht] at he
  by_cases hi : i < s.size
  · rw [if_pos hi, hd] at he
    have hne : c ≠ s.data.toList[i]'(by rw [byte_len]; exact hi) := by
      intro e
      apply hc
      rw [e]
      have := List.getElem_take (xs := (closeOf s).data.toList) (i := i) (j := s.size) (h := by rw [List.length_take, hz]; omega)
      rw [← this]
      simp only [ht]
    exact crcOf_set s.data.toList i _ c hne (four_inj (crcOf_lt _) (crcOf_lt _) he).symm
  · rw [if_neg hi, hd, List.set_eq_of_length_le (l := s.data.toList) (by rw [byte_len]; omega)] at he
    have hlen : i - s.size < (four (crcOf s.data.toList)).length := by show i - s.size < 4; omega
    have hne : c ≠ (four (crcOf s.data.toList))[i - s.size] := by
      intro e
      apply hc
      rw [e]
      have := List.getElem_drop (xs := (closeOf s).data.toList) (i := s.size) (j := i - s.size) (h := by rw [List.length_drop, hz]; omega)
      simp only [hd] at this
      rw [this]
      congr 1
      omega
    exact set_ne _ _ hlen c hne he

theorem open_few (b : ByteArray) (h : b.size < 4) : openOf b = (⟨#[]⟩, 5) := by
  unfold openOf
  rw [if_pos h]

theorem xor_zero_byte (c : UInt8) (k : Nat) (hk : k < 256) : c ^^^ UInt8.ofNat k = c ↔ k = 0 := by
  constructor
  · intro h
    have h1 := congrArg UInt8.toNat h
    rw [UInt8.toNat_xor] at h1
    have h2 : (UInt8.ofNat k).toNat = k := by simp; omega
    rw [h2] at h1
    have h3 : c.toNat ^^^ k = c.toNat ^^^ 0 := by rw [h1, Nat.xor_zero]
    exact xor_left h3
  · intro h
    subst h
    simp

end Go.Proofs.Ytiiaajejlckklaa
