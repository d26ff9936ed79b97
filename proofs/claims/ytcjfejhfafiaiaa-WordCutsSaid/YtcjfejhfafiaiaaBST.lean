/-
  Calls that touch some blocks alone (a footprint), and rows beside them.
-/
import Derived.Test.YtcjfejhfafiaiaaBT
namespace Go.Proofs.Ytcjfejhfafiaiaa
open Go.RowKit

/-- A call has touched the blocks F alone, and made new ones; the footprint is F' behind it. -/
structure Step (F F' : Nat → Prop) (w w' : World) : Prop where
  os : w'.os = w.os
  tape : w'.tape = w.tape
  output : w'.output = w.output
  size : w.heap.size ≤ w'.heap.size
  block : ∀ k, k < w.heap.size → ¬ F k → w'.heap[k]? = w.heap[k]?
  foot : ∀ k, F' k → F k ∨ w.heap.size ≤ k

theorem Step.of_below {F : Nat → Prop} {w w' : World} (b : Below w.heap.size w w') : Step F F w w' :=
  ⟨b.os, b.tape, b.output, b.size, fun k hk _ => b.block k hk, fun _ h => .inl h⟩

theorem Step.below {B : Nat} {F F' : Nat → Prop} {w0 w w' : World} (h : Step F F' w w') (b : Below B w0 w) (hB : B ≤ w.heap.size) (hF : ∀ k, F k → B ≤ k) : Below B w0 w' :=
  ⟨h.os.trans b.os, h.tape.trans b.tape, h.output.trans b.output, Nat.le_trans b.size h.size, fun k hk => by
    rw [h.block k (by omega) (fun c => by have := hF k c; omega)]
    exact b.block k hk⟩

theorem Step.ge {B : Nat} {F F' : Nat → Prop} {w w' : World} (h : Step F F' w w') (hB : B ≤ w.heap.size) (hF : ∀ k, F k → B ≤ k) : ∀ k, F' k → B ≤ k := by
  intro k hk
  rcases h.foot k hk with c | c
  · exact hF k c
  · omega

/-- The block of v is none of F. -/
def Off (F : Nat → Prop) (v : Value) : Prop := ∀ g, v.ownBlock = some g → ¬ F g

theorem Off.next {F F' : Nat → Prop} {w w' : World} {v : Value} (h : Off F v) (st : Step F F' w w') (hv : ∀ g, v.ownBlock = some g → g < w.heap.size) : Off F' v := by
  intro g hg c
  rcases st.foot g c with k | k
  · exact h g hg k
  · have := hv g hg
    omega

theorem Step.row {F F' : Nat → Prop} {w w' : World} {v : Value} {n : Nat} {xs : List Value} (st : Step F F' w w') (h : CellRow w v n xs) (ho : Off F v) : CellRow w' v n xs := by
  obtain ⟨a, c, rfl, h⟩ := h
  refine ⟨a, c, rfl, ?_⟩
  rcases h with h | ⟨b, o, rfl, hl, hc⟩
  · exact .inl h
  · refine .inr ⟨b, o, rfl, Nat.lt_of_lt_of_le hl st.size, fun j u hj => ?_⟩
    rw [World.cell?_of_block (st.block b hl (ho b rfl))]
    exact hc j u hj

theorem Step.own {F F' : Nat → Prop} {w w' : World} {B : Nat} {e : TypeId} {sz : Nat} {v : Value} {n : Nat} {xs : List Value} (st : Step F F' w w') (h : w.ownsRow B e sz v n xs) (ho : Off F v) : w'.ownsRow B e sz v n xs := by
  refine ⟨h.1, ?_⟩
  rcases h.2 with h0 | ⟨g, cap, cur, rfl, hB, hrow, rest⟩
  · exact .inl h0
  · exact .inr ⟨g, cap, cur, rfl, hB, by rw [st.block g (Array.getElem?_eq_some_iff.1 hrow).1 (ho g rfl)]; exact hrow, rest⟩

theorem Step.refl (F : Nat → Prop) (w : World) : Step F F w w := ⟨rfl, rfl, rfl, Nat.le_refl _, fun _ _ _ => rfl, fun _ h => .inl h⟩

theorem Step.trans {F F' F'' : Nat → Prop} {w w' w'' : World} (h : Step F F' w w') (k : Step F' F'' w' w'') : Step F F'' w w'' :=
  ⟨k.os.trans h.os, k.tape.trans h.tape, k.output.trans h.output, Nat.le_trans h.size k.size, fun i hi hf => by
    rw [k.block i (Nat.lt_of_lt_of_le hi h.size) (fun c => by
      rcases h.foot i c with c | c
      · exact hf c
      · omega)]
    exact h.block i hi hf, fun i hi => by
    rcases k.foot i hi with c | c
    · exact h.foot i c
    · exact .inr (Nat.le_trans h.size c)⟩

theorem Step.after {F F' : Nat → Prop} {w w' w'' : World} (b : Below w.heap.size w w') (k : Step F F' w' w'') : Step F F' w w'' :=
  (Step.of_below b).trans k

end Go.Proofs.Ytcjfejhfafiaiaa
