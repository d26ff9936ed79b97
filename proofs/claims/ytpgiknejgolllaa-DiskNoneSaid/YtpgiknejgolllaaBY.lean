/-
  The bytes of a text laid out in a slice of their own: read, changed one by one, and made a text again.
-/
import Derived.Test.YtpgiknejgolllaaBA
namespace Go.Proofs.Ytpgiknejgolllaa
open Go.RowKit Go.Lib

/-- Block g of w begins with the bytes l, which may be written. -/
def ByteBlk (w : World) (g : Nat) (l : List UInt8) : Prop :=
  ∃ cs fz, w.heap[g]? = some (.cells cs 5 fz) ∧ (∀ j (h : j < l.length), cs[j]? = some (.int .u8 (l[j].toNat : Int))) ∧ ∀ j, j < l.length → (decide (fz.1 ≤ j) && decide (j < fz.2)) = false

theorem ByteBlk.cell {w : World} {g : Nat} {l : List UInt8} (h : ByteBlk w g l) (j : Nat) (hj : j < l.length) : w.cell? ⟨g, j, none⟩ = some (.int .u8 (l[j].toNat : Int)) := by
  obtain ⟨cs, fz, h1, h2, _⟩ := h
  rw [cell_of_row w g j _ _ _ h1]
  exact h2 j hj

theorem ByteBlk.free {w : World} {g : Nat} {l : List UInt8} (h : ByteBlk w g l) (j : Nat) (hj : j < l.length) : w.frozen? ⟨g, j, none⟩ = false := by
  obtain ⟨cs, fz, h1, _, h3⟩ := h
  simp only [World.frozen?, h1]
  exact h3 j hj

theorem ByteBlk.lt {w : World} {g : Nat} {l : List UInt8} (h : ByteBlk w g l) : g < w.heap.size := by
  obtain ⟨cs, fz, h1, _⟩ := h
  exact (Array.getElem?_eq_some_iff.1 h1).1

theorem ByteBlk.kept {w w' : World} {g : Nat} {l : List UInt8} (h : ByteBlk w g l) (hb : w.grownBy w' none) : ByteBlk w' g l := by
  obtain ⟨cs, fz, h1, h2, h3⟩ := h
  exact ⟨cs, fz, by rw [hb.block g (Array.getElem?_eq_some_iff.1 h1).1 (by simp)]; exact h1, h2, h3⟩

theorem ByteBlk.stored {w : World} {g : Nat} {l : List UInt8} (h : ByteBlk w g l) (i : Nat) (hi : i < l.length) (c : UInt8) : ByteBlk (w.setCell ⟨g, i, none⟩ (.int .u8 (c.toNat : Int))) g (l.set i c) := by
  obtain ⟨cs, fz, h1, h2, h3⟩ := h
  have hsz : i < cs.size := (Array.getElem?_eq_some_iff.1 (h2 i hi)).1
  refine ⟨cs.setIfInBounds i (.int .u8 (c.toNat : Int)), fz, ?_, ?_, ?_⟩
  · have hg := (Array.getElem?_eq_some_iff.1 h1).1
    obtain ⟨_, hv⟩ := Array.getElem?_eq_some_iff.1 h1
    unfold World.setCell
    simp [Array.getElem?_modify, h1]
  · intro j hj
    rw [List.length_set] at hj
    rw [List.getElem_set]
    by_cases e : i = j
    · subst e
      simp [hsz]
    · rw [Array.getElem?_setIfInBounds_ne e, if_neg e]
      exact h2 j hj
  · intro j hj
    rw [List.length_set] at hj
    exact h3 j hj

/-- '[]byte(s)'. -/
theorem bytes_of_text (w : World) (s : ByteArray) : ∃ w2 cap, (convert 9 62 (.string s)).run Try.prog w = .ok (.slice (some ⟨w.heap.size, 0, none⟩) s.size cap) w2 ∧ ByteBlk w2 w.heap.size s.data.toList ∧ Below w.heap.size w w2 ∧ s.size ≤ cap := by
  refine ⟨_, _, run_bytes_of_string w 9 62 5 s Try.underlying9 Try.underlying62 Try.underlying5, ?_, (Below.refl _ _).drew.alloc (Nat.le_refl _) _, grownCap_ge w s.size 0 _⟩
  refine ⟨_, _, Go.heap_alloc_new w.drew _, ?_, ?_⟩
  · intro j hj
    exact bytesRow_at s _ j (by simpa using hj)
  · intro j hj
    rw [byte_len] at hj
    have hge := grownCap_ge w s.size 0 5
    have : s.size ≤ (bytesRow s (grownCap w s.size 0 5)).size := by
      unfold bytesRow
      rw [Array.size_append, Array.size_map]
      exact Nat.le_add_right _ _
    simp only [Bool.and_eq_false_iff, decide_eq_false_iff_not]
    left
    omega

/-- 'string(b)'. -/
theorem text_of_bytes {w : World} {g : Nat} {l : List UInt8} (h : ByteBlk w g l) (cap n : Nat) (hn : n = l.length) : (convert 62 9 (.slice (some ⟨g, 0, none⟩) n cap)).run Try.prog w = .ok (.string ⟨l.toArray⟩) w := by
  subst hn
  refine run_convert_bytes_back (P := Try.prog) w 62 9 5 ⟨g, 0, none⟩ cap l Try.underlying62 Try.underlying5 Try.underlying9 (fun j hj => ?_)
  have ea : (⟨g, 0, none⟩ : Addr).add j = ⟨g, j, none⟩ := by unfold Addr.add; split <;> simp_all
  rw [ea]
  exact h.cell j hj

end Go.Proofs.Ytpgiknejgolllaa
