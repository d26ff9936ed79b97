/-
  Plain facts for ReachRises: how far back is reached never falls, stays on the grid, and is held up by its floor.
-/
import Derived.Test.YtfbgjoildibikaaQ16
import Derived.Test.YtfbgjoildibikaaPRLq
namespace Go.Proofs.Ytfbgjoildibikaa
open Go.RowKit Go.Lib

/-- The floors, each on the grid of its tier. -/
def rGrid (l : List TierL) (fl : List Int) : List Int := (fl.zip l).map fun x => x.1 / x.2.2.1 * x.2.2.1

theorem rGrid_len (l : List TierL) (fl : List Int) : (rGrid l fl).length = min fl.length l.length := by
  unfold rGrid
  rw [List.length_map, List.length_zip]

theorem rGrid_some {l : List TierL} {fl : List Int} {i : Nat} {g : Int} (h : (rGrid l fl)[i]? = some g) : ∃ f t, fl[i]? = some f ∧ l[i]? = some t ∧ g = f / t.2.1 * t.2.1 := by
  unfold rGrid at h
  rw [List.getElem?_map] at h
  cases hz : (fl.zip l)[i]? with
  | none => rw [hz] at h; cases h
  | some x =>
    rw [hz] at h
    rw [List.getElem?_zip_eq_some] at hz
    simp only [Option.map_some, Option.some.injEq] at h
    exact ⟨x.1, x.2, hz.1, hz.2, h.symm⟩

theorem rGrid_next {l : List TierL} {fl : List Int} {i : Nat} {f : Int} {t : TierL} (hf : fl[i]? = some f) (ht : l[i]? = some t) : rGrid (l.take (i + 1)) (fl.take (i + 1)) = rGrid (l.take i) (fl.take i) ++ [f / t.2.1 * t.2.1] := by
  have hl := (List.getElem?_eq_some_iff.1 hf).1
  have hl2 := (List.getElem?_eq_some_iff.1 ht).1
  unfold rGrid
  rw [List.take_add_one, List.take_add_one, hf, ht, Option.toList_some, Option.toList_some, List.zip_append (by rw [List.length_take, List.length_take]; omega), List.map_append]
  rfl

theorem rGrid_take (l : List TierL) (fl : List Int) (i : Nat) (h : i = min fl.length l.length) : rGrid (l.take i) (fl.take i) = rGrid l fl := by
  subst h
  apply List.ext_getElem?
  intro k
  have cut : ∀ {α : Type} (x : List α), k < min fl.length l.length → (x.take (min fl.length l.length))[k]? = x[k]? := fun x hk => by rw [List.getElem?_take, if_pos hk]
  by_cases hk : k < min fl.length l.length
  · obtain ⟨f, hf⟩ : ∃ f, fl[k]? = some f := ⟨_, List.getElem?_eq_getElem (by omega)⟩
    obtain ⟨t, ht⟩ : ∃ t, l[k]? = some t := ⟨_, List.getElem?_eq_getElem (by omega)⟩
    have z1 : (fl.zip l)[k]? = some (f, t) := List.getElem?_zip_eq_some.2 ⟨hf, ht⟩
    have z2 : ((fl.take (min fl.length l.length)).zip (l.take (min fl.length l.length)))[k]? = some (f, t) := List.getElem?_zip_eq_some.2 ⟨by rw [cut fl hk]; exact hf, by rw [cut l hk]; exact ht⟩
    unfold rGrid
    rw [List.getElem?_map, List.getElem?_map, z1, z2]
  · rw [List.getElem?_eq_none (by rw [rGrid_len, List.length_take, List.length_take]; omega), List.getElem?_eq_none (by rw [rGrid_len]; omega)]

theorem rEvery_in {p : PolL} (hc : (pCheck p).1 = 0) {i : Nat} {x : TierL} (hx : p.2[i]? = some x) : 1 ≤ rEvery p.2 i ∧ rEvery p.2 i ≤ 1000000 ∧ x.2.1 ∣ rEvery p.2 i := by
  have hk := tier_known hc hx
  unfold rEvery
  cases hn : p.2[i + 1]? with
  | none =>
    simp only [hx]
    exact ⟨hk.1, hk.2.1, Int.dvd_refl _⟩
  | some y =>
    have hy := tier_known hc hn
    have ho := hy.2.2.2.2.2.2.2.2 x (by omega) (by rw [show i + 1 - 1 = i by omega]; exact hx)
    exact ⟨hy.1, hy.2.1, Int.dvd_of_emod_eq_zero ho.2.1⟩

theorem dvd_max {a x y : Int} (h1 : a ∣ x) (h2 : a ∣ y) : a ∣ max x y := by
  rcases Int.le_total x y with h | h
  · rw [Int.max_eq_right h]; exact h2
  · rw [Int.max_eq_left h]; exact h1

/-- What ReachRises asks of a tier. -/
theorem rises_of {p : PolL} (hc : (pCheck p).1 = 0) {fl : List Int} {now more : Int} (n0 : 0 ≤ now) (n1 : now ≤ 2199023255552) (m0 : 0 ≤ more) (m1 : more ≤ 2199023255552) {i : Nat} {x : TierL} (hx : p.2[i]? = some x) :
    rFromN (now, p, rGrid p.2 fl) i ≤ rFromN (now + more, p, rGrid p.2 fl) i ∧ x.2.1 ∣ rFromN (now, p, rGrid p.2 fl) i ∧ 0 ≤ rFromN (now, p, rGrid p.2 fl) i ∧ ∀ g, (rGrid p.2 fl)[i]? = some g → g ≤ rFromN (now, p, rGrid p.2 fl) i := by
  have hk := tier_known hc hx
  obtain ⟨e1, e2, e3⟩ := rEvery_in hc hx
  have hb := back_asked now more x.2.2.1 (rEvery p.2 i) n0 (by omega) m0 (by omega) e1 (by unfold I64; omega) (by unfold I64; omega)
  have hd : x.2.1 ∣ gBack now x.2.2.1 (rEvery p.2 i) := Int.dvd_trans e3 (gOn_dvd.1 hb.2.2.1).2
  unfold rFromN
  simp only [hx]
  cases hg : (rGrid p.2 fl)[i]? with
  | none =>
    exact ⟨hb.2.1, hd, hb.1, fun g h => by cases h⟩
  | some g =>
    obtain ⟨f, t, _, ht, hgf⟩ := rGrid_some hg
    rw [hx] at ht
    cases ht
    refine ⟨?_, ?_, ?_, ?_⟩
    · have := hb.2.1
      simp only
      omega
    · simp only
      rw [hgf]
      exact dvd_max hd ⟨f / x.2.1, Int.mul_comm _ _⟩
    · have := hb.1
      simp only
      omega
    · intro g' h
      cases h
      simp only
      omega

end Go.Proofs.Ytfbgjoildibikaa
