/-
  A bundle of texts: QMB.
-/
import Derived.Test.YtbhcafginmkaaaaGreatN26
import Derived.Test.YtbhcafginmkaaaaGreatN22
import Derived.Test.YtbhcafginmkaaaaGreatN44
namespace Go.Proofs.YtbhcafginmkaaaaGreat
open Go.RowKit Go.Lib

theorem roll_fit {e E f : Int} {l : List TRec} (hE : 1 ≤ E) (hE2 : TIn64 E) (hl : ∀ x ∈ l, TFit x) : TMade (tRoll e l E f) E ∧ (∀ x ∈ tRoll e l E f, TFit x) ∧ ∀ x ∈ tRoll e l E f, f ≤ x.s := by
  have hf : ∀ x ∈ (l.map (tFl E)).filter (fun x => decide (f ≤ x.s)), TFit x := fun x hx => by
    obtain ⟨y, hy, rfl⟩ := List.mem_map.1 (List.mem_filter.1 hx).1
    have h := hl y hy
    exact ⟨h.1, gFloor_int h.2.1 hE2, h.2.2⟩
  unfold tRoll
  rw [show max E 1 = E by omega]
  split
  · exact ⟨made_of hf, tAdds_fit (fun x hx => absurd hx List.not_mem_nil) all_nil hf, fun x hx => tAdds_s (Q := fun s => f ≤ s) (fun y hy => absurd hy List.not_mem_nil) (fun y hy => of_decide_eq_true (List.mem_filter.1 hy).2) x hx⟩
  · exact ⟨⟨sorted_nil, all_nil, fun _ hx => absurd hx List.not_mem_nil, fun _ hx => absurd hx List.not_mem_nil⟩, fun _ hx => absurd hx List.not_mem_nil, fun _ hx => absurd hx List.not_mem_nil⟩

/-- While tiers are built: the first j tables are there. -/
def mPart (pl : PlanL) (r : RchL) (T : List (List TRec)) (j : Nat) : List (List TRec) := (mBuilt pl r T).take j ++ List.replicate (pl.1.2.length - j) []

theorem mBuilt_len (pl : PlanL) (r : RchL) (T : List (List TRec)) : (mBuilt pl r T).length = pl.1.2.length := by unfold mBuilt; rw [List.length_mapIdx]
theorem mPart_zero (pl : PlanL) (r : RchL) (T : List (List TRec)) : mPart pl r T 0 = List.replicate pl.1.2.length [] := by
  unfold mPart
  rw [List.take_zero, List.nil_append, Nat.sub_zero]
theorem mPart_end (pl : PlanL) (r : RchL) (T : List (List TRec)) : mPart pl r T pl.1.2.length = mBuilt pl r T := by
  unfold mPart
  rw [List.take_of_length_le (by rw [mBuilt_len]; exact Nat.le_refl _), Nat.sub_self]
  exact List.append_nil _
theorem mBuilt_at {pl : PlanL} {r : RchL} {T : List (List TRec)} {j : Nat} {x : TierL} (hx : pl.1.2[j]? = some x) : (mBuilt pl r T)[j]? = some (mTab pl r T j x) := by
  unfold mBuilt
  rw [List.getElem?_mapIdx, hx]
  rfl

/-- One table is loaded. -/
theorem mPart_load {pl : PlanL} {r : RchL} {T : List (List TRec)} {j : Nat} {x : TierL} (hx : pl.1.2[j]? = some x) (h1 : 1 ≤ x.2.1) (h2 : TIn64 x.2.1) (hT : ∀ l ∈ T, ∀ z ∈ l, TFit z) : iLoad (mTo pl r) (mPart pl r T j) j (mTab pl r T j x) = mPart pl r T (j + 1) := by
  have hj : j < pl.1.2.length := (List.getElem?_eq_some_iff.1 hx).1
  have hl : ∀ z ∈ T.getD (mSrc pl j).toNat [], TFit z := fun z hz => by
    rw [List.getD_eq_getElem?_getD] at hz
    cases c : T[(mSrc pl j).toNat]? with
    | none => rw [c] at hz; exact absurd hz List.not_mem_nil
    | some l => rw [c] at hz; exact hT l (List.mem_of_getElem? c) z hz
  obtain ⟨m1, m2, m3⟩ := roll_fit (e := tEv r (mSrc pl j).toNat) (f := rFromN (mTo pl r) j) h1 h2 hl
  have ev : tEv (mTo pl r) j = x.2.1 := by
    unfold tEv mTo
    simp only [hx]
  have hfr : iFresh (mTo pl r) j (mTab pl r T j x) = mTab pl r T j x := List.filter_eq_self.2 (fun z hz => decide_eq_true (m3 z hz))
  refine List.ext_getElem? fun i => ?_
  unfold iLoad
  rw [List.getElem?_modify]
  have hlen : ((mBuilt pl r T).take j).length = j := by rw [List.length_take, mBuilt_len]; omega
  have hlen2 : ((mBuilt pl r T).take (j + 1)).length = j + 1 := by rw [List.length_take, mBuilt_len]; omega
  unfold mPart
  by_cases c : i < j
  · rw [List.getElem?_append_left (by omega), List.getElem?_append_left (by omega), List.getElem?_take, List.getElem?_take, if_pos c, if_pos (by omega)]
    cases (mBuilt pl r T)[i]? with
    | none => rfl
    | some y =>
      show some (if j = i then _ else y) = some y
      rw [if_neg (by omega)]
  · by_cases c2 : i = j
    · subst c2
      rw [List.getElem?_append_right (by omega), List.getElem?_append_left (by omega), hlen, Nat.sub_self, List.getElem?_replicate, if_pos (by omega), List.getElem?_take, if_pos (by omega), mBuilt_at hx]
      show some (if i = i then tAdds (tEv (mTo pl r) i) [] (iFresh (mTo pl r) i (mTab pl r T i x)) else []) = _
      rw [if_pos rfl, hfr, ev]
      congr 1
      exact tAdds_self m1
    · rw [List.getElem?_append_right (by omega), List.getElem?_append_right (by omega), hlen, hlen2, List.getElem?_replicate, List.getElem?_replicate]
      by_cases c3 : i < pl.1.2.length
      · rw [if_pos (by omega), if_pos (by omega)]
        show some (if j = i then _ else []) = some []
        rw [if_neg (by omega)]
      · rw [if_neg (by omega), if_neg (by omega)]
        rfl

theorem mPart_none {pl : PlanL} {r : RchL} {T : List (List TRec)} {j : Nat} : (mPart pl r T j).getD j [] = [] := by
  unfold mPart
  rw [List.getD_eq_getElem?_getD]
  by_cases c : j < pl.1.2.length
  · rw [List.getElem?_append_right (by rw [List.length_take]; omega), List.getElem?_replicate]
    split <;> rfl
  · rw [List.getElem?_eq_none (by rw [List.length_append, List.length_take, List.length_replicate, mBuilt_len]; omega)]
    rfl

theorem mTab_len {pl : PlanL} {r : RchL} {T : List (List TRec)} {m : Nat} (h : ∀ l ∈ T, l.length ≤ m) (j : Nat) (x : TierL) : (mTab pl r T j x).length ≤ m := by
  refine Nat.le_trans (roll_len _ _ _ _) ?_
  rw [List.getD_eq_getElem?_getD]
  cases c : T[(mSrc pl j).toNat]? with
  | none => exact Nat.zero_le _
  | some l => exact h l (List.mem_of_getElem? c)

end Go.Proofs.YtbhcafginmkaaaaGreat
