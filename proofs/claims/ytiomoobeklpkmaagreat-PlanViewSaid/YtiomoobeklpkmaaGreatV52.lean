/-
 A bundle of texts: QVF.
-/
import Derived.Test.YtiomoobeklpkmaaGreatV28
import Derived.Test.YtiomoobeklpkmaaGreatV50
import Derived.Test.YtiomoobeklpkmaaGreatV42
namespace Go.Proofs.YtiomoobeklpkmaaGreat
open Go.RowKit Go.Lib

section
variable {now : Int} {p q : PolL} {all : List SamL}

/-- What is known of a plan from tiers that have no floors. -/
structure PlanOk (now : Int) (p q : PolL) (all : List SamL) : Prop where
 e : mErr p q = 0
 g : IGood (now, p, []) (iViews (now, p, []) all)
 s : ∀ s ∈ all, SFit s

theorem PlanOk.src (h : PlanOk now p q all) {j : Nat} {x : TierL} (hx : q.2[j]? = some x) : ∃ (k : Nat) (y : TierL), mSrc (mMake p (now, p, []) q) j = (k : Int) ∧ p.2[k]? = some y ∧ k < p.2.length ∧ gOn x.2.1 y.2.1 = true ∧ (∀ i, MDiv p.2 x.2.1 i → rFromN (now, p, []) k ≤ rFromN (now, p, []) i) ∧ 0 ≤ rFromN (now, p, []) k ∧ rFromN (now, p, []) k ≤ 1099511627776 ∧ 1 ≤ x.2.1 ∧ x.2.1 ≤ 1000000 := by
 obtain ⟨hp, hq⟩ := mErr_zero h.e
 obtain ⟨⟨y, hy, hd⟩, hm⟩ := mFur_best hp (now, p, []) x.2.1
 have hb := h.g.reach_le (fun z hz => absurd hz List.not_mem_nil) (mFur (now, p, []) x.2.1 p.2)
 have ht := tier_known hq hx
 exact ⟨_, y, mSrc_make h.e _ hx, hy, (List.getElem?_eq_some_iff.1 hy).1, hd, hm, hb.1, hb.2, ht.1, ht.2.1⟩

theorem PlanOk.to_ (h : PlanOk now p q all) : (mMake p (now, p, []) q).1 = q := by rw [mMake_ok h.e]
theorem PlanOk.len (h : PlanOk now p q all) : (iViews (now, p, []) all).length = p.2.length := h.g.len

theorem PlanOk.fits (h : PlanOk now p q all) : MFits (mMake p (now, p, []) q) (now, p, []) (iViews (now, p, []) all).length := by
 refine ⟨by rw [h.to_]; exact (mErr_zero h.e).2, by rw [mMake_ok h.e]; exact List.length_map .., fun j x hx => ?_⟩
 rw [h.to_] at hx
 obtain ⟨k, y, e, hy, hk, hd, -⟩ := h.src hx
 rw [e, h.len, show ((k : Int).toNat) = k by omega]
 exact ⟨by omega, hk, by rw [tEv_at (r := (now, p, [])) hy]; exact hd⟩

/-- A new tier's base. -/
theorem PlanOk.base (h : PlanOk now p q all) {j : Nat} {x : TierL} (hx : q.2[j]? = some x) : ∃ (k : Nat) (b : Int), mSrc (mMake p (now, p, []) q) j = (k : Int) ∧ (mBases (mMake p (now, p, []) q) (now, p, []))[j]? = some b ∧ gOn b x.2.1 = true ∧ rFromN (now, p, []) k ≤ b ∧ 0 ≤ b ∧ b ≤ 1099512627776 := by
 obtain ⟨k, y, e, hy, hk, hd, -, h0, h1, e1, e2⟩ := h.src hx
 have hc := gCeil_plain (t := rFromN (now, p, []) k) (e := x.2.1) (by omega) e1
 refine ⟨k, gCeil (rFromN (now, p, []) k) x.2.1, e, ?_, gOn_iff.2 ⟨e1, hc.1⟩, hc.2.1, by omega, by omega⟩
 unfold mBases
 rw [List.getElem?_mapIdx, h.to_, hx]
 show some (gCeil (rFrom (now, p, []) (mSrc (mMake p (now, p, []) q) j)) x.2.1) = _
 rw [e]
 unfold rFrom
 rw [if_neg (by omega), show ((k : Int).toNat) = k by omega]

theorem PlanOk.new (h : PlanOk now p q all) : iNewE (mMake p (now, p, []) q).1 now (mBases (mMake p (now, p, []) q) (now, p, [])) = 0 := by
 have hl : (mBases (mMake p (now, p, []) q) (now, p, [])).length = q.2.length := by unfold mBases; rw [List.length_mapIdx, h.to_]
 unfold iNewE
 rw [h.to_, if_neg (by rw [(mErr_zero h.e).2]; simp), if_neg]
 have n0 : 0 ≤ now := h.g.n0
 have n1 : now ≤ maxT := h.g.n1
 intro c
 rcases c with c | c | c | c
 ·omega
 ·omega
 ·omega
 ·unfold flBad at c
  rw [List.any_eq_true] at c
  obtain ⟨z, hz, hb⟩ := c
  obtain ⟨i, hi⟩ := List.getElem?_of_mem hz
  obtain ⟨f, x⟩ := z
  obtain ⟨hf, hx⟩ := List.getElem?_zip_eq_some.1 hi
  obtain ⟨k, b, -, hb2, hg, -, hb0, -⟩ := h.base hx
  rw [hb2] at hf
  cases hf
  simp only [hg, Bool.not_true, Bool.or_false, decide_eq_true_eq] at hb
  omega

/-- What is built is the view under the new policy. -/
theorem PlanOk.built (h : PlanOk now p q all) : mBuilt (mMake p (now, p, []) q) (now, p, []) (iViews (now, p, []) all) = iViews (mTo (mMake p (now, p, []) q) (now, p, [])) all := by
 refine List.ext_getElem? fun j => ?_
 by_cases c : j < q.2.length
 ·obtain ⟨x, hx⟩ : ∃ x, q.2[j]? = some x := ⟨_, List.getElem?_eq_getElem c⟩
  obtain ⟨k, y, e, hy, hk, hd, -, h0, h1, e1, e2⟩ := h.src hx
  have hx2 : (mMake p (now, p, []) q).1.2[j]? = some x := by rw [h.to_]; exact hx
  have hb := base_le (pl := mMake p (now, p, []) q) (r := (now, p, [])) hx2
  have hc := gCeil_plain (t := rFromN (now, p, []) k) (e := x.2.1) (by omega) e1
  have hfr : rFrom (now, p, []) (mSrc (mMake p (now, p, []) q) j) = rFromN (now, p, []) k := by
   rw [e]
   unfold rFrom
   rw [if_neg (by omega), show ((k : Int).toNat) = k by omega]
  rw [hfr] at hb
  rw [mBuilt_at hx2, iViews_get (r := mTo (mMake p (now, p, []) q) (now, p, [])) (by show j < (mMake p (now, p, []) q).1.2.length; rw [h.to_]; exact c)]
  congr 1
  unfold mTab
  rw [e, show ((k : Int).toNat) = k by omega, tEv_at (r := (now, p, [])) hy, List.getD_eq_getElem?_getD, iViews_get (r := (now, p, [])) hk, Option.getD_some]
  exact view_roll (r := (now, p, [])) hy (r' := mTo (mMake p (now, p, []) q) (now, p, [])) hx2 e1 hd (by omega) h.s
 ·rw [List.getElem?_eq_none (by rw [mBuilt_len, h.to_]; omega), iViews_none (r := mTo (mMake p (now, p, []) q) (now, p, [])) (by show (mMake p (now, p, []) q).1.2.length ≤ j; rw [h.to_]; omega)]
end

/-- Rolled up by the same buckets: what is let go. -/
theorem roll_same {e f : Int} {L : List TRec} (h : TMade L e) (he : 1 ≤ e) : tRoll e L e f = tKeep L f := by
 have hm : L.map (tFl e) = L := by
  refine (List.map_congr_left fun x hx => ?_).trans (List.map_id' L)
  have h1 := h.ok x hx
  have h2 := ok_on h1
  have h3 := (gOn_iff.1 h2).2
  have h4 := gFloor_plain0 (ok_s h1) he
  show (⟨x.n, gFloor x.s e, x.a⟩ : TRec) = x
  rw [show gFloor x.s e = x.s by omega]
 unfold tRoll
 rw [show max e 1 = e by omega, if_pos (Int.tmod_self), hm]
 exact tAdds_self ⟨List.Pairwise.filter _ h.so, fun y hy => h.al y (List.mem_filter.1 hy).1, fun y hy => h.ok y (List.mem_filter.1 hy).1, fun y hy => h.s64 y (List.mem_filter.1 hy).1⟩

/-- To the same policy again: what reaches back far enough stays. -/
theorem PlanOk.same {now : Int} {p : PolL} {all : List SamL} (h : PlanOk now p p all) {j : Nat} {x : TierL} (hx : p.2[j]? = some x) :
  rFromN (now, p, []) j ≤ rFromN (mTo (mMake p (now, p, []) p) (now, p, [])) j ∧ iView (mTo (mMake p (now, p, []) p) (now, p, [])) j all = tKeep (iView (now, p, []) j all) (rFromN (mTo (mMake p (now, p, []) p) (now, p, [])) j) := by
 have hc := (tier_known h.g.chk hx).1
 have hx2 : (mTo (mMake p (now, p, []) p) (now, p, [])).2.1.2[j]? = some x := by show (mMake p (now, p, []) p).1.2[j]? = _; rw [h.to_]; exact hx
 have hle : rFromN (now, p, []) j ≤ rFromN (mTo (mMake p (now, p, []) p) (now, p, [])) j := by
  obtain ⟨k, b, -, hb, -⟩ := h.base hx
  have e1 : rFromN (now, p, []) j = gBack now x.2.2.1 (rEvery p.2 j) := by
   unfold rFromN
   simp only [hx, List.getElem?_nil]
  have e2 : rFromN (mTo (mMake p (now, p, []) p) (now, p, [])) j = max (gBack now x.2.2.1 (rEvery p.2 j)) b := by
   unfold rFromN mTo
   simp only [h.to_, hx, hb]
  rw [e1, e2]
  omega
 refine ⟨hle, ?_⟩
 have hm : TMade (iView (now, p, []) j all) x.2.1 := by
  have := h.g.made j (iView (now, p, []) j all) (iViews_get (r := (now, p, [])) (List.getElem?_eq_some_iff.1 hx).1)
  rwa [tEv_at (r := (now, p, [])) hx] at this
 rw [← roll_same hm hc]
 exact (view_roll (r := (now, p, [])) hx (r' := mTo (mMake p (now, p, []) p) (now, p, [])) hx2 hc (gOn_dvd.2 ⟨hc, Int.dvd_refl _⟩) hle h.s).symm

end Go.Proofs.YtiomoobeklpkmaaGreat
