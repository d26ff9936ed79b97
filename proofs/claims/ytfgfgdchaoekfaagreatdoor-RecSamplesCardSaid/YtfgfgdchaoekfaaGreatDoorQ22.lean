/-
  A bundle of texts: BSR.
-/
import Derived.Test.YtfgfgdchaoekfaaGreatDoorQ21
import Derived.Test.YtfgfgdchaoekfaaGreatDoorQ09
import Derived.Test.YtfgfgdchaoekfaaGreatDoorQ02
namespace Go.Proofs.YtfgfgdchaoekfaaGreatDoor
open Go.ChangeShapes Go.WideShapes Go.ChangeAt Go.RowKit Go.Deep

theorem flat_part {α : Type} {enc : α → List Value} {s : Nat} (h : ∀ x, (enc x).length = s) (hs : 0 < s) (l : List α) (q : Nat) (u : Value) (hu : (flat enc l)[q]? = some u) : ∃ j x i, l[j]? = some x ∧ i < s ∧ q = j * s + i ∧ (enc x)[i]? = some u := by
  have hq := (List.getElem?_eq_some_iff.1 hu).1
  rw [flat_length h] at hq
  have hj : q / s < l.length := by
    rw [Nat.div_lt_iff_lt_mul hs]
    exact hq
  have e : q = q / s * s + q % s := by
    have := Nat.div_add_mod q s
    rw [Nat.mul_comm] at this
    omega
  refine ⟨q / s, l[q / s], q % s, List.getElem?_eq_getElem hj, Nat.mod_lt _ hs, e, ?_⟩
  rw [← flat_at h l (q / s) _ (List.getElem?_eq_getElem hj) (q % s) (Nat.mod_lt _ hs), ← e]
  exact hu

/-- A slice that came in, whose elements are each told by their cells. -/
theorem rows_of_trod {H : Type} {enc : TypeId × Value → H} {P : Program} {W : World} {sp : Nat → Bool} {t e : TypeId} (ht : P.underlying t = some (.slice e)) {s : Nat} (hs : P.cellsOf e = s) (h0 : 0 < s)
    {α : Type} {cells : α → List Value} (hlen : ∀ x, (cells x).length = s) (good : α → Prop) (dflt : α)
    (helem : ∀ (fuel : Nat) (cs : List Value) (x : DataW H × List MemPlace), cs.length = s → DataW.trod enc P W 0 sp true fuel e cs = some x → ∃ a, cs = cells a ∧ good a)
    {a : Option Addr} {len cap : Nat} {d : DataW H} {ps : List MemPlace} (h : DataW.Trod enc P W 0 sp true t (.slice a len cap) d ps) :
    ∃ l : List α, l.length = len ∧ CellRow W (.slice a len cap) len (flat cells l) ∧ ∀ x ∈ l, good x := by
  obtain ⟨fuel, hf⟩ := h
  rcases open_slice ht hf with ⟨hcs, _⟩ | ⟨ad, len', cap', m, n, D, Pl, hcs, _, hl, _, hm, _, hi⟩
  · simp only [Value.cells, List.cons.injEq, Value.slice.injEq, and_true] at hcs
    obtain ⟨rfl, rfl, rfl⟩ := hcs
    exact ⟨[], rfl, ⟨none, 0, rfl, .inl rfl⟩, fun _ h => by cases h⟩
  · simp only [Value.cells, List.cons.injEq, Value.slice.injEq, and_true] at hcs
    obtain ⟨rfl, rfl, rfl⟩ := hcs
    have hlm : len ≤ m := by rw [hm]; split <;> omega
    have key : ∀ i, i < len → ∃ x : α, good x ∧ ∀ k, k < s → W.cell? (ad.add (i * s + k)) = (cells x)[k]? := by
      intro i hil
      obtain ⟨cs', hc, htr⟩ := hi i (by omega)
      rw [hs] at hc
      obtain ⟨_, hcl, hat⟩ := World.cells?_some hc
      obtain ⟨x, hx, hg⟩ := helem n cs' _ hcl htr
      refine ⟨x, hg, fun k hk => ?_⟩
      have := hat k hk
      rw [Go.Deep.add_add] at this
      rw [this, hx]
    have hF : ∃ F : Nat → α, ∀ i, i < len → good (F i) ∧ ∀ k, k < s → W.cell? (ad.add (i * s + k)) = (cells (F i))[k]? :=
      ⟨fun i => if h : i < len then Classical.choose (key i h) else dflt, fun i hil => by
        simp only [dif_pos hil]
        exact Classical.choose_spec (key i hil)⟩
    obtain ⟨F, hF⟩ := hF
    refine ⟨(List.range len).map F, by simp, ⟨some ad, cap, rfl, ?_⟩, ?_⟩
    · by_cases h0' : len = 0
      · exact .inl (by subst h0'; rfl)
      · obtain ⟨b, off, spot⟩ := ad
        have h1 := (hF 0 (by omega)).2 0 h0
        obtain ⟨u0, hu0⟩ : ∃ u0, (cells (F 0))[0]? = some u0 := ⟨_, List.getElem?_eq_getElem (by rw [hlen]; exact h0)⟩
        rw [hu0] at h1
        have hspot : spot = none := by
          simpa [Addr.add] using World.cell?_spot h1
        subst hspot
        refine .inr ⟨b, off, rfl, by have := World.block_lt_of_cell? W _ h1; simpa [Go.WideShapes.add_plain] using this, fun q u hu => ?_⟩
        obtain ⟨j, x, i, hj, hi', rfl, hx⟩ := flat_part hlen h0 _ q u hu
        have hjl : j < len := by
          have := (List.getElem?_eq_some_iff.1 hj).1
          simpa using this
        have e : x = F j := by
          rw [List.getElem?_map, List.getElem?_range hjl] at hj
          simpa using hj.symm
        subst e
        have h2 := (hF j hjl).2 i hi'
        simp only [Go.WideShapes.add_plain] at h2
        rw [h2]
        exact hx
    · intro x hx
      obtain ⟨i, hi, rfl⟩ := List.mem_map.1 hx
      exact (hF i (by simpa using hi)).1

end Go.Proofs.YtfgfgdchaoekfaaGreatDoor
