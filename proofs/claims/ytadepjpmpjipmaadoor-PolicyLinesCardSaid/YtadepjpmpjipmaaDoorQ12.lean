/-
  A bundle of texts: KPI KPS.
-/
import Derived.Laws.StructEq
import Derived.Test.YtadepjpmpjipmaaDoorQ09
import Derived.Test.YtadepjpmpjipmaaDoorQ06
/-
  Marks of a Book's lists of tiers (package sedimentbook): markTiers, copyTiers.
-/
namespace Go.Proofs.YtadepjpmpjipmaaDoor
open Go.RowKit Go.Lib

abbrev TierL := ByteArray × Int × Int × Int

/-- The cells of one. -/
def penc (x : TierL) : List Value := [.string x.1, .int .i64 x.2.1, .int .i64 x.2.2.1, .int .i64 x.2.2.2]

theorem penc_len (x : TierL) : (penc x).length = 4 := rfl

theorem penc_one (x : TierL) : ∀ u ∈ penc x, u.oneCell' = true := by
  intro u hu
  simp only [penc, List.mem_cons, List.not_mem_nil, or_false] at hu
  rcases hu with rfl | rfl | rfl | rfl <;> rfl

def pAt (w : World) (b o : Nat) (x : TierL) : Prop := w.cell? ⟨b, o, none⟩ = some (.string x.1) ∧ w.cell? ⟨b, o + 1, none⟩ = some (.int .i64 x.2.1) ∧ w.cell? ⟨b, o + 2, none⟩ = some (.int .i64 x.2.2.1) ∧ w.cell? ⟨b, o + 3, none⟩ = some (.int .i64 x.2.2.2)

theorem p_at {w : World} {a : Option Addr} {n c : Nat} {ss : List TierL} (h : CellRow w (.slice a n c) n (flat penc ss)) (j : Nat) (x : TierL) (hx : ss[j]? = some x) : ∃ b o, a = some ⟨b, o, none⟩ ∧ b < w.heap.size ∧ pAt w b (o + j * 4) x := by
  obtain ⟨a', c', hv, h⟩ := h
  simp only [Value.slice.injEq] at hv
  obtain ⟨rfl, _, rfl⟩ := hv
  have hj := (List.getElem?_eq_some_iff.1 hx).1
  rcases h with h | ⟨b, o, ha, hl, hc⟩
  · have := flat_length penc_len ss
    rw [h, List.length_nil] at this
    omega
  · refine ⟨b, o, ha, hl, ?_, ?_, ?_, ?_⟩
    · have := hc (j * 4 + 0) _ ((flat_at penc_len ss j x hx 0 (by decide)).trans rfl)
      exact this
    · have := hc (j * 4 + 1) _ ((flat_at penc_len ss j x hx 1 (by decide)).trans rfl)
      exact this
    · have := hc (j * 4 + 2) _ ((flat_at penc_len ss j x hx 2 (by decide)).trans rfl)
      exact this
    · have := hc (j * 4 + 3) _ ((flat_at penc_len ss j x hx 3 (by decide)).trans rfl)
      exact this

def pmk (v : Int) : TierL := (⟨#[]⟩, 0, v, 0)

/-- The marks of the list i from the place f on, n of them. -/
def pmarks (i f n : Nat) : List TierL := (List.range n).map fun k : Nat => pmk (-1000 * (i : Int) - ((f : Int) + (k : Int)) - 1)

theorem pmarks_length (i f n : Nat) : (pmarks i f n).length = n := by simp [pmarks]

theorem pmarks_succ (i f n : Nat) : pmarks i f (n + 1) = pmarks i f n ++ [pmk (-1000 * (i : Int) - ((f : Int) + (n : Int)) - 1)] := by
  simp [pmarks, List.range_succ]

theorem pmarks_add (i f n m : Nat) : pmarks i f n ++ pmarks i (f + n) m = pmarks i f (n + m) := by
  induction m with
  | zero => simp [pmarks]
  | succ m ih =>
    rw [← Nat.add_assoc, pmarks_succ, pmarks_succ, ← List.append_assoc, ih]
    congr 3
    push_cast
    omega



end Go.Proofs.YtadepjpmpjipmaaDoor

/-
  A Book's lists of tiers (package sedimentbook): SameTiers and stillTiers, which only read.
-/
namespace Go.Proofs.YtadepjpmpjipmaaDoor
open Go.RowKit Go.Lib



end Go.Proofs.YtadepjpmpjipmaaDoor
