/-
  A bundle of texts: RFL RRF RRG.
-/
import Derived.Deep.CutBlock
import Derived.Deep.DeepCutAuto
import Derived.Deep.QuietTactic
import Derived.BigQuiet
import Derived.Test.YtbhcafginmkaaaaGreatN34
import Derived.Test.YtbhcafginmkaaaaGreatN11
import Derived.Test.YtbhcafginmkaaaaGreatN06
import Derived.Test.YtbhcafginmkaaaaGreatN15
import Derived.Test.YtbhcafginmkaaaaGreatN09
namespace Go.Proofs.YtbhcafginmkaaaaGreat
open Go.RowKit Go.Lib

theorem floors_max {now : Int} {p : PolL} {fl : List Int} {i : Nat} (h : i < p.2.length) : rFromN (now, p, fl) i = max (rFromN (now, p, []) i) (fl.getD i 0) := by
  unfold rFromN
  obtain ⟨t, ht⟩ : ∃ t, p.2[i]? = some t := ⟨_, List.getElem?_eq_getElem h⟩
  have h0 := gBack_nonneg now t.2.2.1 (rEvery p.2 i)
  simp only [ht, List.getD_eq_getElem?_getD, List.getElem?_nil]
  cases hf : fl[i]? with
  | none =>
    simp only [Option.getD_none]
    omega
  | some f => rfl

section
variable {S : ReachSpec} {w0 w w' : World} {b4 b9 b10 : Nat} {n : ByteArray} {sl g s f s' f' : Value} {now : Int} {p : PolL} {fl : List Int}
end

end Go.Proofs.YtbhcafginmkaaaaGreat

namespace Go.Proofs.YtbhcafginmkaaaaGreat
open Go.RowKit Go.Lib

theorem in_tier {p : PolL} {j : Nat} {t : TierL} (h : PFit p) (ht : p.2[j]? = some t) : In64 t.2.1 ∧ In64 t.2.2.1 :=
  ⟨(h.2.2 t (List.mem_of_getElem? ht)).2.1, (h.2.2 t (List.mem_of_getElem? ht)).2.2.1⟩

end Go.Proofs.YtbhcafginmkaaaaGreat

namespace Go.Proofs.YtbhcafginmkaaaaGreat
open Go.RowKit Go.Lib

/-- A variable that holds the document's own Reach. -/
structure QH (w0 : World) (b : Nat) (now : Int) (n : ByteArray) (s f : Value) (p : PolL) (fl : List Int) (w : World) : Prop where
  k : w.heap[b]? = some (.cells #[.int .i64 now, .string n, s, f] 29 (0, 0))
  hs : CellRow w s p.2.length (flat penc p.2)
  hf : CellRow w f fl.length (fl.map (Value.int .i64))
  fr : Below w0.heap.size w0 w

section
variable {w0 w w' : World} {b : Nat} {n : ByteArray} {now : Int} {s f : Value} {p : PolL} {fl : List Int}
theorem QH.next (h : QH w0 b now n s f p fl w) (c : Below w.heap.size w w') : QH w0 b now n s f p fl w' :=
  ⟨by rw [c.block b (Array.getElem?_eq_some_iff.1 h.k).1]; exact h.k, h.hs.kept c, h.hf.kept c, h.fr.trans (c.mono h.fr.size)⟩
theorem QH.at (h : QH w0 b now n s f p fl w) : w.cell? ⟨b, 0, none⟩ = some (.int .i64 now) ∧ w.cell? ⟨b, 1, none⟩ = some (.string n) ∧ w.cell? ⟨b, 2, none⟩ = some s ∧ w.cell? ⟨b, 3, none⟩ = some f := by
  refine ⟨?_, ?_, ?_, ?_⟩ <;> (rw [cell_of_row w b _ _ _ _ h.k]; rfl)
theorem QH.made (hs : CellRow w s p.2.length (flat penc p.2)) (hf : CellRow w f fl.length (fl.map (Value.int .i64))) : QH w w.heap.size now n s f p fl (w.alloc (.cells #[.int .i64 now, .string n, s, f] 29)) := by
  have b : Below w.heap.size w (w.alloc (.cells #[.int .i64 now, .string n, s, f] 29)) := (Below.refl _ _).alloc (Nat.le_refl _) _
  exact ⟨Go.heap_alloc_new _ _, hs.kept b, hf.kept b, b⟩
end

end Go.Proofs.YtbhcafginmkaaaaGreat
