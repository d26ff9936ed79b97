/-
  A bundle of texts: KPI KRI KAI.
-/
import Derived.Laws.StructEq
import Derived.Test.YtbhcafginmkaaaaGreatN15
namespace Go.Proofs.YtbhcafginmkaaaaGreat
open Go.RowKit Go.Lib

abbrev TierL := ByteArray × Int × Int × Int

/-- The cells of one. -/
def penc (x : TierL) : List Value := [.string x.1, .int .i64 x.2.1, .int .i64 x.2.2.1, .int .i64 x.2.2.2]

theorem penc_len (x : TierL) : (penc x).length = 4 := rfl

theorem penc_one (x : TierL) : ∀ u ∈ penc x, u.oneCell' = true := by
  intro u hu
  simp only [penc, List.mem_cons, List.not_mem_nil, or_false] at hu
  rcases hu with rfl | rfl | rfl | rfl <;> rfl

def pAt (w : World) (b o : Nat) (x : TierL) : Prop := w.cell? ⟨b, o, none⟩ = some (.string x.1) ∧ w.cell? ⟨b, o + 1, none⟩ = some (.int .i64 x.2.1) ∧ w.cell? ⟨b, o + 2, none⟩ = some (.int .i64 x.2.2.1) ∧ w.cell? ⟨b, o + 3, none⟩ = some (.int .i64 x.2.2.2)

theorem p_at {w : World} {a : Option Addr} {n c : Nat} {ss : List TierL} (h : CellRow w (.slice a n c) n (flat penc ss)) (j : Nat) (x : TierL) (hx : ss[j]? = some x) : ∃ b o, a = some ⟨b, o, none⟩ ∧ b < w.heap.size ∧ pAt w b (o + j * 4) x := by
  obtain ⟨a', c', hv, h⟩ := h
  simp only [Value.slice.injEq] at hv
  obtain ⟨rfl, _, rfl⟩ := hv
  have hj := (List.getElem?_eq_some_iff.1 hx).1
  rcases h with h | ⟨b, o, ha, hl, hc⟩
  · have := flat_length penc_len ss
    rw [h, List.length_nil] at this
    omega
  · refine ⟨b, o, ha, hl, ?_, ?_, ?_, ?_⟩
    · have := hc (j * 4 + 0) _ ((flat_at penc_len ss j x hx 0 (by decide)).trans rfl)
      exact this
    · have := hc (j * 4 + 1) _ ((flat_at penc_len ss j x hx 1 (by decide)).trans rfl)
      exact this
    · have := hc (j * 4 + 2) _ ((flat_at penc_len ss j x hx 2 (by decide)).trans rfl)
      exact this
    · have := hc (j * 4 + 3) _ ((flat_at penc_len ss j x hx 3 (by decide)).trans rfl)
      exact this

end Go.Proofs.YtbhcafginmkaaaaGreat

namespace Go.Proofs.YtbhcafginmkaaaaGreat
open Go.RowKit Go.Lib

abbrev RecL := ByteArray × Int × Int × Int × Int × Int × Int

/-- The cells of one. -/
def renc (x : RecL) : List Value := [.string x.1, .int .i64 x.2.1, .int .i64 x.2.2.1, .int .i64 x.2.2.2.1, .int .u64 x.2.2.2.2.1, .int .i64 x.2.2.2.2.2.1, .int .i64 x.2.2.2.2.2.2]

theorem renc_len (x : RecL) : (renc x).length = 7 := rfl

theorem renc_one (x : RecL) : ∀ u ∈ renc x, u.oneCell' = true := by
  intro u hu
  simp only [renc, List.mem_cons, List.not_mem_nil, or_false] at hu
  rcases hu with rfl | rfl | rfl | rfl | rfl | rfl | rfl <;> rfl

def rAt (w : World) (b o : Nat) (x : RecL) : Prop := w.cell? ⟨b, o, none⟩ = some (.string x.1) ∧ w.cell? ⟨b, o + 1, none⟩ = some (.int .i64 x.2.1) ∧ w.cell? ⟨b, o + 2, none⟩ = some (.int .i64 x.2.2.1) ∧ w.cell? ⟨b, o + 3, none⟩ = some (.int .i64 x.2.2.2.1) ∧ w.cell? ⟨b, o + 4, none⟩ = some (.int .u64 x.2.2.2.2.1) ∧ w.cell? ⟨b, o + 5, none⟩ = some (.int .i64 x.2.2.2.2.2.1) ∧ w.cell? ⟨b, o + 6, none⟩ = some (.int .i64 x.2.2.2.2.2.2)

theorem r_at {w : World} {a : Option Addr} {n c : Nat} {ss : List RecL} (h : CellRow w (.slice a n c) n (flat renc ss)) (j : Nat) (x : RecL) (hx : ss[j]? = some x) : ∃ b o, a = some ⟨b, o, none⟩ ∧ b < w.heap.size ∧ rAt w b (o + j * 7) x := by
  obtain ⟨a', c', hv, h⟩ := h
  simp only [Value.slice.injEq] at hv
  obtain ⟨rfl, _, rfl⟩ := hv
  have hj := (List.getElem?_eq_some_iff.1 hx).1
  rcases h with h | ⟨b, o, ha, hl, hc⟩
  · have := flat_length renc_len ss
    rw [h, List.length_nil] at this
    omega
  · refine ⟨b, o, ha, hl, ?_, ?_, ?_, ?_, ?_, ?_, ?_⟩
    · have := hc (j * 7 + 0) _ ((flat_at renc_len ss j x hx 0 (by decide)).trans rfl)
      exact this
    · have := hc (j * 7 + 1) _ ((flat_at renc_len ss j x hx 1 (by decide)).trans rfl)
      exact this
    · have := hc (j * 7 + 2) _ ((flat_at renc_len ss j x hx 2 (by decide)).trans rfl)
      exact this
    · have := hc (j * 7 + 3) _ ((flat_at renc_len ss j x hx 3 (by decide)).trans rfl)
      exact this
    · have := hc (j * 7 + 4) _ ((flat_at renc_len ss j x hx 4 (by decide)).trans rfl)
      exact this
    · have := hc (j * 7 + 5) _ ((flat_at renc_len ss j x hx 5 (by decide)).trans rfl)
      exact this
    · have := hc (j * 7 + 6) _ ((flat_at renc_len ss j x hx 6 (by decide)).trans rfl)
      exact this

end Go.Proofs.YtbhcafginmkaaaaGreat

namespace Go.Proofs.YtbhcafginmkaaaaGreat
open Go.RowKit Go.Lib

abbrev SamL := ByteArray × Int × Int

/-- The cells of one. -/
def aenc (x : SamL) : List Value := [.string x.1, .int .i64 x.2.1, .int .i64 x.2.2]

theorem aenc_len (x : SamL) : (aenc x).length = 3 := rfl

def aAt (w : World) (b o : Nat) (x : SamL) : Prop := w.cell? ⟨b, o, none⟩ = some (.string x.1) ∧ w.cell? ⟨b, o + 1, none⟩ = some (.int .i64 x.2.1) ∧ w.cell? ⟨b, o + 2, none⟩ = some (.int .i64 x.2.2)

theorem a_at {w : World} {a : Option Addr} {n c : Nat} {ss : List SamL} (h : CellRow w (.slice a n c) n (flat aenc ss)) (j : Nat) (x : SamL) (hx : ss[j]? = some x) : ∃ b o, a = some ⟨b, o, none⟩ ∧ b < w.heap.size ∧ aAt w b (o + j * 3) x := by
  obtain ⟨a', c', hv, h⟩ := h
  simp only [Value.slice.injEq] at hv
  obtain ⟨rfl, _, rfl⟩ := hv
  have hj := (List.getElem?_eq_some_iff.1 hx).1
  rcases h with h | ⟨b, o, ha, hl, hc⟩
  · have := flat_length aenc_len ss
    rw [h, List.length_nil] at this
    omega
  · refine ⟨b, o, ha, hl, ?_, ?_, ?_⟩
    · have := hc (j * 3 + 0) _ ((flat_at aenc_len ss j x hx 0 (by decide)).trans rfl)
      exact this
    · have := hc (j * 3 + 1) _ ((flat_at aenc_len ss j x hx 1 (by decide)).trans rfl)
      exact this
    · have := hc (j * 3 + 2) _ ((flat_at aenc_len ss j x hx 2 (by decide)).trans rfl)
      exact this

end Go.Proofs.YtbhcafginmkaaaaGreat
