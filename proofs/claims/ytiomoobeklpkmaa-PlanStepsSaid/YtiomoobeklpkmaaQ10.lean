/-
  A bundle of texts: KPI.
-/
import Derived.Laws.StructEq
import Derived.Test.YtiomoobeklpkmaaQ08
namespace Go.Proofs.Ytiomoobeklpkmaa
open Go.RowKit Go.Lib

abbrev TierL := ByteArray × Int × Int × Int

/-- The cells of one. -/
def penc (x : TierL) : List Value := [.string x.1, .int .i64 x.2.1, .int .i64 x.2.2.1, .int .i64 x.2.2.2]

theorem penc_len (x : TierL) : (penc x).length = 4 := rfl

theorem penc_one (x : TierL) : ∀ u ∈ penc x, u.oneCell' = true := by
  intro u hu
  simp only [penc, List.mem_cons, List.not_mem_nil, or_false] at hu
  rcases hu with rfl | rfl | rfl | rfl <;> rfl

def pAt (w : World) (b o : Nat) (x : TierL) : Prop := w.cell? ⟨b, o, none⟩ = some (.string x.1) ∧ w.cell? ⟨b, o + 1, none⟩ = some (.int .i64 x.2.1) ∧ w.cell? ⟨b, o + 2, none⟩ = some (.int .i64 x.2.2.1) ∧ w.cell? ⟨b, o + 3, none⟩ = some (.int .i64 x.2.2.2)

theorem p_at {w : World} {a : Option Addr} {n c : Nat} {ss : List TierL} (h : CellRow w (.slice a n c) n (flat penc ss)) (j : Nat) (x : TierL) (hx : ss[j]? = some x) : ∃ b o, a = some ⟨b, o, none⟩ ∧ b < w.heap.size ∧ pAt w b (o + j * 4) x := by
  obtain ⟨a', c', hv, h⟩ := h
  simp only [Value.slice.injEq] at hv
  obtain ⟨rfl, _, rfl⟩ := hv
  have hj := (List.getElem?_eq_some_iff.1 hx).1
  rcases h with h | ⟨b, o, ha, hl, hc⟩
  · have := flat_length penc_len ss
    rw [h, List.length_nil] at this
    omega
  · refine ⟨b, o, ha, hl, ?_, ?_, ?_, ?_⟩
    · have := hc (j * 4 + 0) _ ((flat_at penc_len ss j x hx 0 (by decide)).trans rfl)
      exact this
    · have := hc (j * 4 + 1) _ ((flat_at penc_len ss j x hx 1 (by decide)).trans rfl)
      exact this
    · have := hc (j * 4 + 2) _ ((flat_at penc_len ss j x hx 2 (by decide)).trans rfl)
      exact this
    · have := hc (j * 4 + 3) _ ((flat_at penc_len ss j x hx 3 (by decide)).trans rfl)
      exact this

end Go.Proofs.Ytiomoobeklpkmaa
