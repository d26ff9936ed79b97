/-
  Texts that were sorted and from which what stands twice was taken are those in order, each once.
-/
import Derived.Test.YtopilmancehbiaaNM
import Derived.Test.YtopilmancehbiaaBT
import Derived.Test.YtopilmancehbiaaShelf
import Derived.Sort.Walk0
import Derived.Sort.OwnSorted
import Derived.Lib.OwnBridge
import Derived.Lib.SlicesCompact
import Derived.Laws.OwnMore
namespace Go.Proofs.Ytopilmancehbiaa
open Go.RowKit

theorem ble_iff (x y : List UInt8) : decide (x ≤ y) = !Op.bytesLess y x := by
  rw [bytesLess_eq]
  by_cases h : y < x
  · rw [decide_eq_true h, decide_eq_false (List.not_le.2 h)]; rfl
  · rw [decide_eq_false h, decide_eq_true (List.not_lt.1 h)]; rfl

theorem ble_trans {x y z : List UInt8} (h : Op.bytesLess y x = false) (k : Op.bytesLess z y = false) : Op.bytesLess z x = false := by
  cases c : Op.bytesLess z x with
  | false => rfl
  | true =>
    by_cases e : x = y
    · rw [e, k] at c; cases c
    · rcases less_total _ _ e with e | e
      · rw [less_trans c e] at k; cases k
      · rw [e] at h; cases h

theorem ble_ne {x y : List UInt8} (h : Op.bytesLess y x = false) (ne : x ≠ y) : Op.bytesLess x y = true := by
  rcases less_total _ _ ne with e | e
  · exact e
  · rw [e] at h; cases h

theorem ble_lt {x y z : List UInt8} (h : Op.bytesLess y x = false) (k : Op.bytesLess y z = true) : Op.bytesLess x z = true := by
  by_cases e : x = y
  · rw [e]; exact k
  · exact less_trans (ble_ne h e) k

theorem compact_up (d : Array (List UInt8)) (hs : ∀ i j, i ≤ j → j < d.size → Op.bytesLess d[j]! d[i]! = false) (m : Nat) (hm : m ≤ d.size) :
    (Lib.compactUpTo d m).Pairwise (fun x y => Op.bytesLess x y = true) ∧ (∀ x, x ∈ Lib.compactUpTo d m ↔ ∃ j, j < m ∧ d[j]! = x) := by
  induction m with
  | zero => exact ⟨List.Pairwise.nil, fun x => by simp [Lib.compactUpTo]⟩
  | succ m ih =>
    obtain ⟨h1, h2⟩ := ih (by omega)
    rw [Lib.compactUpTo_succ]
    by_cases h0 : m = 0
    · subst h0
      have hk : Lib.keeps d 0 = true := by simp [Lib.keeps]
      rw [hk, if_pos rfl]
      have hn : Lib.compactUpTo d 0 = [] := by simp [Lib.compactUpTo]
      rw [hn]
      refine ⟨List.pairwise_singleton _ _, fun x => ?_⟩
      simp only [List.nil_append, List.mem_singleton]
      constructor
      · rintro rfl; exact ⟨0, by omega, rfl⟩
      · rintro ⟨j, hj, rfl⟩; rw [show j = 0 by omega]
    · by_cases hne : d[m]! = d[m - 1]!
      · have hk : Lib.keeps d m = false := Lib.keeps_neg (by omega) hne
        rw [hk, if_neg (by simp), List.append_nil]
        refine ⟨h1, fun x => (h2 x).trans ⟨fun ⟨j, hj, e⟩ => ⟨j, by omega, e⟩, fun ⟨j, hj, e⟩ => ?_⟩⟩
        by_cases c : j = m
        · subst c
          exact ⟨j - 1, by omega, by rw [← hne]; exact e⟩
        · exact ⟨j, by omega, e⟩
      · have hk : Lib.keeps d m = true := Lib.keeps_pos hne
        rw [hk, if_pos rfl]
        have hlast : Op.bytesLess d[m - 1]! d[m]! = true := ble_ne (hs (m - 1) m (by omega) (by omega)) (Ne.symm hne)
        refine ⟨List.pairwise_append.2 ⟨h1, List.pairwise_singleton _ _, fun a ha b hb => ?_⟩, fun x => ?_⟩
        · rw [List.mem_singleton.1 hb]
          obtain ⟨j, hj, rfl⟩ := (h2 a).1 ha
          exact ble_lt (hs j (m - 1) (by omega) (by omega)) hlast
        · rw [List.mem_append, List.mem_singleton, h2 x]
          constructor
          · rintro (⟨j, hj, e⟩ | rfl)
            · exact ⟨j, by omega, e⟩
            · exact ⟨m, by omega, rfl⟩
          · rintro ⟨j, hj, e⟩
            by_cases c : j = m
            · subst c; exact .inr e.symm
            · exact .inl ⟨j, by omega, e⟩

/-- A text of these bytes. -/
abbrev mkText (l : List UInt8) : ByteArray := ⟨l.toArray⟩

theorem mkText_list (l : List UInt8) : (mkText l).toList = l := by
  rw [ByteArray.toList_eq]

theorem mkText_of (s : ByteArray) : mkText s.data.toList = s := by
  cases s
  rfl

/-- They are sorted. -/
def nSorted (ss : List ByteArray) : List (List UInt8) := (ss.map (·.data.toList)).mergeSort fun x y => decide (x ≤ y)

theorem nSorted_length (ss : List ByteArray) : (nSorted ss).length = ss.length := by
  unfold nSorted
  rw [List.length_mergeSort, List.length_map]

theorem nSorted_mem (ss : List ByteArray) (x : List UInt8) : x ∈ nSorted ss ↔ mkText x ∈ ss := by
  unfold nSorted
  rw [List.mem_mergeSort, List.mem_map]
  constructor
  · rintro ⟨s, hs, rfl⟩
    rw [mkText_of]
    exact hs
  · intro h
    exact ⟨_, h, rfl⟩

theorem nSorted_up (ss : List ByteArray) : ∀ i j, i ≤ j → j < (nSorted ss).toArray.size → Op.bytesLess (nSorted ss).toArray[j]! (nSorted ss).toArray[i]! = false := by
  intro i j hij hj
  have hp := List.pairwise_mergeSort (le := fun x y : List UInt8 => decide (x ≤ y)) (fun a b c h1 h2 => by
      simp only [ble_iff, Bool.not_eq_true'] at h1 h2 ⊢
      exact ble_trans h1 h2)
    (fun a b => by
      simp only [ble_iff]
      cases h : Op.bytesLess b a with
      | false => rfl
      | true => rw [less_asymm h]; rfl) (ss.map (·.data.toList))
  have hj' : j < (nSorted ss).length := by simpa using hj
  rw [getElem!_pos (nSorted ss).toArray j hj, getElem!_pos (nSorted ss).toArray i (by omega)]
  simp only [List.getElem_toArray]
  rcases Nat.lt_or_eq_of_le hij with h | rfl
  · have := List.pairwise_iff_getElem.1 hp i j (Nat.lt_trans h hj') hj' h
    rw [ble_iff, Bool.not_eq_true'] at this
    exact this
  · exact less_irrefl _

theorem order_sorted (ss : List ByteArray) : (Lib.compact (nSorted ss)).map mkText = nOrder ss := by
  obtain ⟨h1, h2⟩ := compact_up (nSorted ss).toArray (nSorted_up ss) (nSorted ss).length (by simp)
  refine nOrder_of ?_ fun s => ?_
  · unfold Rising
    rw [List.pairwise_map]
    refine h1.imp fun {a b} h => ?_
    unfold nLt
    rw [mkText_list, mkText_list]
    exact h
  · rw [List.mem_map]
    constructor
    · rintro ⟨x, hx, rfl⟩
      obtain ⟨j, hj, e⟩ := (h2 x).1 hx
      rw [getElem!_pos (nSorted ss).toArray j (by simpa using hj)] at e
      simp only [List.getElem_toArray] at e
      exact (nSorted_mem ss x).1 (by rw [← e]; exact List.getElem_mem _)
    · intro hs
      refine ⟨s.data.toList, (h2 _).2 ?_, mkText_of s⟩
      have hm := (nSorted_mem ss s.data.toList).2 (by rw [mkText_of]; exact hs)
      obtain ⟨j, hj, e⟩ := List.getElem_of_mem hm
      refine ⟨j, hj, ?_⟩
      rw [getElem!_pos (nSorted ss).toArray j (by simpa using hj)]
      simp only [List.getElem_toArray]
      exact e

end Go.Proofs.Ytopilmancehbiaa
