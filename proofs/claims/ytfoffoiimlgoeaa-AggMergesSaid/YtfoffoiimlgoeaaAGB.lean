/-
  Aggregates that came in: by value, and in slices.
-/
import Derived.Test.YtfoffoiimlgoeaaBR
import Derived.Test.YtfoffoiimlgoeaaAGL
import Derived.Deep.Slices
import Derived.Deep.Fields
import Derived.ChangeSame
namespace Go.Proofs.Ytfoffoiimlgoeaa
open Go.ChangeShapes Go.WideShapes Go.ChangeAt Go.RowKit Go.Deep

theorem aggCells : Try.prog.cellsOf 27 = 5 := by kernel_rfl

/-- A struct whose fields have one cell each: each cell is read by itself. -/
theorem field_of_trod {H : Type} {enc : TypeId × Value → H} {P : Program} {W : World} {base : Nat} {sp : Nat → Bool} {held : Bool} {fuel : Nat} {t : TypeId} {fs : Array Field} {cs : List Value} {x : DataW H × List MemPlace}
    (ht : P.underlying t = some (.struct fs)) (hone : oneCellFields P fs = true) (hC : P.cellsOf t = fs.size) (h : DataW.trod enc P W base sp held fuel t cs = some x) (i : Nat) (f : Field) (hf : fs[i]? = some f) :
    ∃ (n : Nat) (v : Value) (y : DataW H × List MemPlace), cs[i]? = some v ∧ DataW.trod enc P W base sp held n f.type [v] = some y := by
  obtain ⟨xs, n, _, _, hl, hxl, hg⟩ := DataW.trod_struct ht h
  obtain ⟨ho, hk⟩ := hone_of hone i f hf
  have hi : i < fs.size := (Array.getElem?_eq_some_iff.1 hf).1
  have hc : i < cs.length := by rw [hl, hC]; exact hi
  have hx : i < xs.length := by rw [hxl]; exact hi
  have h1 := hg i f hf
  rw [ho, hk, List.drop_eq_getElem_cons hc, List.getElem?_eq_getElem hx] at h1
  exact ⟨n, cs[i], xs[i], List.getElem?_eq_getElem hc, h1⟩

/-- The five cells of an aggregate that can be read. -/
theorem ag_of_cells {H : Type} {enc : TypeId × Value → H} {W : World} {base : Nat} {sp : Nat → Bool} {held : Bool} {fuel : Nat} {cs : List Value} {x : DataW H × List MemPlace}
    (h : DataW.trod enc Try.prog W base sp held fuel 27 cs = some x) : ∃ a : Ag, cs = (agCells a).toList ∧ AgIn a := by
  have hl : cs.length = 5 := by
    obtain ⟨_, _, _, _, hl, _⟩ := DataW.trod_struct Try.underlying27 h
    rw [hl, aggCells]
  have hF := field_of_trod Try.underlying27 (by kernel_rfl) aggCells h
  obtain ⟨_, v0, _, c0, f0⟩ := hF 0 _ rfl
  obtain ⟨_, v1, _, c1, f1⟩ := hF 1 _ rfl
  obtain ⟨_, v2, _, c2, f2⟩ := hF 2 _ rfl
  obtain ⟨_, v3, _, c3, f3⟩ := hF 3 _ rfl
  obtain ⟨_, v4, _, c4, f4⟩ := hF 4 _ rfl
  obtain ⟨n0, e0, _, w0⟩ := DataW.trod_int Try.underlying3 f0
  obtain ⟨n1, e1, _, w1⟩ := DataW.trod_int Try.underlying3 f1
  obtain ⟨n2, e2, _, w2⟩ := DataW.trod_int Try.underlying25 f2
  obtain ⟨n3, e3, _, w3⟩ := DataW.trod_int Try.underlying3 f3
  obtain ⟨n4, e4, _, w4⟩ := DataW.trod_int Try.underlying3 f4
  refine ⟨⟨n0, n1, n2, n3, n4⟩, ?_, int_bounds w0, int_bounds w1, word_bounds w2, int_bounds w3, int_bounds w4⟩
  match cs, hl with
  | [a0, a1, a2, a3, a4], _ =>
    simp only [List.cons.injEq, and_true] at e0 e1 e2 e3 e4
    simp at c0 c1 c2 c3 c4
    subst c0 c1 c2 c3 c4
    rw [e0, e1, e2, e3, e4]

/-- One that came in by value. -/
theorem agg_of_trod {H : Type} {enc : TypeId × Value → H} {W : World} {sp : Nat → Bool} {r : Reach} {b0 : Nat} {v : Value} {d : DataW H} {ps : List MemPlace} (hv : Value.okWide Try.prog W r b0 27 v)
    (h : DataW.Trod enc Try.prog W 0 sp true 27 v d ps) : ∃ a : Ag, v = agv a ∧ AgIn a := by
  obtain ⟨cs, rfl, hsz⟩ := okWide_struct Try.underlying27 hv
  obtain ⟨fuel, hf⟩ := h
  obtain ⟨a, ha, hi⟩ := ag_of_cells hf
  refine ⟨a, ?_, hi⟩
  have : cs = agCells a := by
    apply Array.toList_inj.1
    rw [← ha]
    rfl
  rw [this]

/-- A slice of aggregates that came in. -/
theorem aggs_of_trod {H : Type} {enc : TypeId × Value → H} {W : World} {sp : Nat → Bool} {a : Option Addr} {len cap : Nat} {d : DataW H} {ps : List MemPlace} (h : DataW.Trod enc Try.prog W 0 sp true 23 (.slice a len cap) d ps) :
    ∃ l : List Ag, l.length = len ∧ AgRow W (.slice a len cap) l ∧ ∀ x ∈ l, AgIn x := by
  obtain ⟨fuel, hf⟩ := h
  rcases open_slice Try.underlying23 hf with ⟨hcs, _⟩ | ⟨ad, len', cap', m, n, D, Pl, hcs, _, hl, _, hm, _, hi⟩
  · simp only [Value.cells, List.cons.injEq, Value.slice.injEq, and_true] at hcs
    obtain ⟨rfl, rfl, rfl⟩ := hcs
    exact ⟨[], rfl, ⟨none, 0, rfl, .inl rfl⟩, fun _ h => by cases h⟩
  · simp only [Value.cells, List.cons.injEq, Value.slice.injEq, and_true] at hcs
    obtain ⟨rfl, rfl, rfl⟩ := hcs
    have hlm : len ≤ m := by rw [hm]; split <;> omega
    have key : ∀ i, i < len → ∃ x : Ag, AgIn x ∧ ∀ k, k < 5 → W.cell? (ad.add (i * 5 + k)) = (agCells x)[k]? := by
      intro i hil
      obtain ⟨cs', hc, ht⟩ := hi i (by omega)
      rw [aggCells] at hc
      obtain ⟨x, hx, hin⟩ := ag_of_cells ht
      obtain ⟨_, _, hat⟩ := World.cells?_some hc
      refine ⟨x, hin, fun k hk => ?_⟩
      have := hat k hk
      rw [Go.Deep.add_add] at this
      rw [this, hx]
      simp
    have hF : ∃ F : Nat → Ag, ∀ i, i < len → AgIn (F i) ∧ ∀ k, k < 5 → W.cell? (ad.add (i * 5 + k)) = (agCells (F i))[k]? :=
      ⟨fun i => if h : i < len then Classical.choose (key i h) else agZero, fun i hil => by
        simp only [dif_pos hil]
        exact Classical.choose_spec (key i hil)⟩
    obtain ⟨F, hF⟩ := hF
    refine ⟨(List.range len).map F, by simp, ⟨some ad, cap, by simp, ?_⟩, ?_⟩
    · by_cases h0 : len = 0
      · exact .inl (by simp [h0])
      · obtain ⟨b, off, spot⟩ := ad
        have hspot : spot = none := by
          have h1 := (hF 0 (by omega)).2 0 (by omega)
          have h2 : (agCells (F 0))[0]? = some (.int .i64 (F 0).c) := rfl
          rw [h2] at h1
          simpa [Addr.add] using World.cell?_spot h1
        subst hspot
        have h1 := (hF 0 (by omega)).2 0 (by omega)
        rw [show (agCells (F 0))[0]? = some (.int .i64 (F 0).c) from rfl] at h1
        refine .inr ⟨b, off, rfl, by have := World.block_lt_of_cell? W _ h1; simpa [Go.WideShapes.add_plain] using this, fun j hj => ?_⟩
        have hjl : j < len := by simpa using hj
        have e : ((List.range len).map F).getD j agZero = F j := by simp [List.getD, hjl]
        rw [e]
        have h2 := (hF j hjl).2
        simp only [Go.WideShapes.add_plain] at h2
        exact ⟨h2 0 (by omega), h2 1 (by omega), h2 2 (by omega), h2 3 (by omega), h2 4 (by omega)⟩
    · intro x hx
      obtain ⟨i, hi, rfl⟩ := List.mem_map.1 hx
      exact (hF i (by simpa using hi)).1

end Go.Proofs.Ytfoffoiimlgoeaa
