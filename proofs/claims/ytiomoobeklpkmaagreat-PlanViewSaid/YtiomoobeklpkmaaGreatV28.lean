/-
 A bundle of texts: IMO IPS QMT IVM QPV IAL.
-/
import Derived.Deep.RegionHeld3
import Derived.Test.YtiomoobeklpkmaaGreatV24
import Derived.Test.YtiomoobeklpkmaaGreatV25
import Derived.Test.YtiomoobeklpkmaaGreatV18
import Derived.Test.YtiomoobeklpkmaaGreatV23
import Derived.Test.YtiomoobeklpkmaaGreatV11
namespace Go.Proofs.YtiomoobeklpkmaaGreat
open Go.RowKit Go.Lib

/-- The ticks of a tier's buckets. -/
def tEv (r : RchL) (i : Nat) : Int := match r.2.1.2[i]? with | some t => t.2.1 | none => 1

/-- Does a tier have a sample's bucket? -/
def iHas (r : RchL) (i : Nat) (s : SamL) : Bool := (rStart r (i : Int) s.2.1).2
/-- A sample as a tier's record. -/
def iRec (r : RchL) (i : Nat) (s : SamL) : TRec := ⟨s.1, (rStart r (i : Int) s.2.1).1, agOf [s.2.2]⟩
/-- What comes of samples in a tier. -/
def iRecs (r : RchL) (i : Nat) (ss : List SamL) : List TRec := (ss.filter (iHas r i)).map (iRec r i)

/-- The tables behind samples that were put. -/
def iPut (r : RchL) (T : List (List TRec)) (ss : List SamL) : List (List TRec) := T.mapIdx fun i l => tAdds (tEv r i) l (iRecs r i ss)
/-- What hinders samples: the first error. -/
def iTakes (r : RchL) (ss : List SamL) : Int := ((ss.map fun s => rTakes r s.1 s.2.1).find? fun e => !decide (e = 0)).getD 0
def iCheck (r : RchL) (ss : List SamL) : Int := if ss = [] then 1 else if 8 < ss.length then 2 else iTakes r ss

/-- The clock's end. -/
def maxT : Int := 1099511627776
def iTickE (r : RchL) (n : Int) : Int := if n < 0 then 1 else if maxT - r.1 < n then 26 else 0
def iNow (r : RchL) (n : Int) : RchL := (r.1 + n, r.2)
/-- Each table lets go of what its tier has no more. -/
def iKeep (r : RchL) (T : List (List TRec)) : List (List TRec) := T.mapIdx fun i l => tKeep l (rFromN r i)

/-- Of records those that a tier may have. -/
def iFresh (r : RchL) (i : Nat) (rs : List TRec) : List TRec := rs.filter fun x => decide (rFromN r i ≤ x.s)
def iLoad (r : RchL) (T : List (List TRec)) (i : Nat) (rs : List TRec) : List (List TRec) := T.modify i fun l => tAdds (tEv r i) l (iFresh r i rs)

/-- Is a floor none, or not on its tier's grid? -/
def flBad (fl : List Int) (l : List TierL) : Bool := (fl.zip l).any fun x => decide (x.1 < 0) || !gOn x.1 x.2.2.1
/-- New's error. -/
def iNewE (p : PolL) (now : Int) (fl : List Int) : Int :=
 if (pCheck p).1 ≠ 0 then (pCheck p).1 else if now < 0 ∨ maxT < now ∨ p.2.length < fl.length ∨ flBad fl p.2 = true then 1 else 0

/-- What is known of tiers. -/
structure IGood (r : RchL) (T : List (List TRec)) : Prop where
 n0 : 0 ≤ r.1
 n1 : r.1 ≤ maxT
 chk : (pCheck r.2.1).1 = 0
 fl : r.2.2.length ≤ r.2.1.2.length
 flo : ∀ (i : Nat) (f : Int) (t : TierL), r.2.2[i]? = some f → r.2.1.2[i]? = some t → 0 ≤ f ∧ gOn f t.2.1 = true
 len : T.length = r.2.1.2.length
 made : ∀ (i : Nat) l, T[i]? = some l → TMade l (tEv r i)
 fit : ∀ (i : Nat) l, T[i]? = some l → ∀ x ∈ l, TFit x
 above : ∀ (i : Nat) l, T[i]? = some l → ∀ x ∈ l, rFromN r i ≤ x.s

section
variable {r : RchL} {T : List (List TRec)}

theorem IGood.tier (h : IGood r T) {i : Nat} {l : List TRec} (hl : T[i]? = some l) : ∃ t, r.2.1.2[i]? = some t ∧ tEv r i = t.2.1 ∧ 1 ≤ t.2.1 := by
 have hi := (List.getElem?_eq_some_iff.1 hl).1
 obtain ⟨t, ht⟩ : ∃ t, r.2.1.2[i]? = some t := ⟨_, List.getElem?_eq_getElem (by rw [← h.len]; exact hi)⟩
 exact ⟨t, ht, by unfold tEv; rw [ht], (tier_known h.chk ht).1⟩

/-- Floors on their grid are as they are. -/
theorem IGood.grid (h : IGood r T) : rGrid r.2.1.2 r.2.2 = r.2.2 := by
 refine List.ext_getElem? fun i => ?_
 by_cases hi : i < r.2.2.length
 ·obtain ⟨f, hf⟩ : ∃ f, r.2.2[i]? = some f := ⟨_, List.getElem?_eq_getElem hi⟩
  obtain ⟨t, ht⟩ : ∃ t, r.2.1.2[i]? = some t := ⟨_, List.getElem?_eq_getElem (by have := h.fl; omega)⟩
  obtain ⟨g, hg⟩ : ∃ g, (rGrid r.2.1.2 r.2.2)[i]? = some g := ⟨_, List.getElem?_eq_getElem (by rw [rGrid_len]; have := h.fl; omega)⟩
  obtain ⟨f', t', hf', ht', e⟩ := rGrid_some hg
  rw [hf] at hf'
  rw [ht] at ht'
  cases hf'
  cases ht'
  rw [hg, hf, e]
  obtain ⟨_, hd⟩ := gOn_dvd.1 (h.flo i f t hf ht).2
  rw [Int.ediv_mul_cancel hd]
 ·rw [List.getElem?_eq_none (by rw [rGrid_len]; omega), List.getElem?_eq_none (by omega)]

/-- As time goes on, no tier reaches farther back; each reaches to its grid. -/
theorem IGood.rises (h : IGood r T) {more : Int} (m0 : 0 ≤ more) (m1 : more ≤ 2199023255552) {i : Nat} {x : TierL} (hx : r.2.1.2[i]? = some x) :
  rFromN r i ≤ rFromN (iNow r more) i ∧ x.2.1 ∣ rFromN r i ∧ 0 ≤ rFromN r i := by
 have h0 := rises_of h.chk (fl := r.2.2) h.n0 (by have := h.n1; unfold maxT at this; omega) m0 m1 hx
 rw [h.grid] at h0
 exact ⟨h0.1, h0.2.1, h0.2.2.1⟩

theorem IGood.ev {i : Nat} (h : IGood r T) (hi : i < T.length) : ∃ t, r.2.1.2[i]? = some t ∧ tEv r i = t.2.1 := by
 obtain ⟨t, ht, e, _⟩ := h.tier (List.getElem?_eq_getElem hi)
 exact ⟨t, ht, e⟩
end

theorem agOf_one {v : Int} (h : TIn64 v) : agOf [v] = agOne v := agJoin_zero_left _ (agOne_good h.1 h.2)

/-- A sample such as memory can hold. -/
def SFit (s : SamL) : Prop := s.1.size ≤ maxLen ∧ TIn64 s.2.1 ∧ TIn64 s.2.2

theorem iRec_fit {r : RchL} {T : List (List TRec)} (h : IGood r T) {i : Nat} (hi : i < T.length) {s : SamL} (hs : SFit s) (ht : 0 ≤ s.2.1) : TFit (iRec r i s) := by
 obtain ⟨t, ht', _, he⟩ := h.tier (List.getElem?_eq_getElem hi)
 refine ⟨hs.1, ?_, (agOf_good (fun x hx => by rw [List.mem_singleton.1 hx]; exact hs.2.2)).1⟩
 have e : (rStart r (i : Int) s.2.1).1 = gFloor s.2.1 t.2.1 := by
  unfold rStart
  rw [if_neg (by omega), show ((i : Int).toNat) = i by omega, ht']
 show TIn64 (rStart r (i : Int) s.2.1).1
 rw [e]
 have f1 := gFloor_plain0 ht he
 have f2 := gPast_bounds s.2.1 he
 have f3 : gPast s.2.1 t.2.1 ≤ s.2.1 := past_le he ht
 have f4 := hs.2.1
 unfold TIn64 at *
 omega

/-- Samples that all may come. -/
theorem iTakes_zero {r : RchL} {ss : List SamL} : iTakes r ss = 0 ↔ ∀ s ∈ ss, rTakes r s.1 s.2.1 = 0 := by
 unfold iTakes
 induction ss with
 | nil => exact ⟨fun _ s hs => absurd hs List.not_mem_nil, fun _ => rfl⟩
 | cons a ss ih =>
  rw [List.map_cons, List.find?_cons]
  by_cases h : rTakes r a.1 a.2.1 = 0
  ·rw [show (!decide (rTakes r a.1 a.2.1 = 0)) = false by simp [h]]
   simp only
   rw [ih]
   constructor
   ·intro k s hs
    rcases List.mem_cons.1 hs with rfl | hs
    ·exact h
    ·exact k s hs
   ·exact fun k s hs => k s (List.mem_cons_of_mem _ hs)
  ·rw [show (!decide (rTakes r a.1 a.2.1 = 0)) = true by simp [h]]
   simp only [Option.getD_some]
   exact ⟨fun k => absurd k h, fun k => absurd (k a (List.mem_cons_self ..)) h⟩

theorem rTakes_ok {r : RchL} {n : ByteArray} {t : Int} (h : rTakes r n t = 0) : nOk n = true ∧ 0 ≤ t ∧ t ≤ r.1 ∧ r.2.1.2 ≠ [] ∧ rFromN r 0 ≤ t := by
 unfold rTakes at h
 split at h
 ·cases h
 ·split at h
  ·cases h
  ·split at h
   ·cases h
   ·rename_i h1 h2 h3
    simp only [not_or, Bool.not_eq_false, Int.not_lt] at h1 h2 h3
    exact ⟨h1.1, h1.2, h2, h3.1, h3.2⟩

theorem mapIdx_at {α β : Type} {f : Nat → α → β} {L : List α} {i : Nat} {y : β} (h : (L.mapIdx f)[i]? = some y) : ∃ x, L[i]? = some x ∧ y = f i x := by
 rw [List.getElem?_mapIdx] at h
 cases hl : L[i]? with
 | none => rw [hl] at h; cases h
 | some x => rw [hl] at h; exact ⟨x, rfl, (Option.some.inj h).symm⟩

section
variable {r : RchL} {T : List (List TRec)}

/-- Time goes on. -/
theorem IGood.tick (h : IGood r T) {n : Int} (n0 : 0 ≤ n) (n1 : n ≤ maxT - r.1) : IGood (iNow r n) (iKeep (iNow r n) T) where
 n0 := by have := h.n0; show 0 ≤ r.1 + n; omega
 n1 := by show r.1 + n ≤ maxT; omega
 chk := h.chk
 fl := h.fl
 flo := h.flo
 len := by unfold iKeep; rw [List.length_mapIdx]; exact h.len
 made i l hl := by
  obtain ⟨x, hx, rfl⟩ := mapIdx_at hl
  have m := h.made i x hx
  exact ⟨List.Pairwise.filter _ m.so, fun y hy => m.al y (List.mem_filter.1 hy).1, fun y hy => m.ok y (List.mem_filter.1 hy).1, fun y hy => m.s64 y (List.mem_filter.1 hy).1⟩
 fit i l hl := by
  obtain ⟨x, hx, rfl⟩ := mapIdx_at hl
  exact fun y hy => h.fit i x hx y (List.mem_filter.1 hy).1
 above i l hl := by
  obtain ⟨x, hx, rfl⟩ := mapIdx_at hl
  exact fun y hy => of_decide_eq_true (List.mem_filter.1 hy).2

theorem TMade.adds {e : Int} {l rs : List TRec} (h : TMade l e) (hr : ∀ x ∈ rs, TFit x) : TMade (tAdds e l rs) e :=
 ⟨tAdds_sorted h.so, tAdds_all h.al (fun x hx => (hr x hx).2.2), tAdds_ok h.ok (fun x hx => (hr x hx).2.2) h.al, tAdds_s h.s64 (fun x hx => (hr x hx).2.1)⟩

/-- Samples come. -/
theorem IGood.put (h : IGood r T) {ss : List SamL} (hs : ∀ s ∈ ss, SFit s) (ht : ∀ s ∈ ss, rTakes r s.1 s.2.1 = 0) : IGood r (iPut r T ss) := by
 have hrf : ∀ i, i < T.length → ∀ x ∈ iRecs r i ss, TFit x ∧ rFromN r i ≤ x.s := fun i hi x hx => by
  obtain ⟨s, hs', rfl⟩ := List.mem_map.1 hx
  obtain ⟨h1, h2⟩ := List.mem_filter.1 hs'
  refine ⟨iRec_fit h hi (hs s h1) (rTakes_ok (ht s h1)).2.1, ?_⟩
  obtain ⟨t, ht', _⟩ := h.ev hi
  have h2 : (rStart r (i : Int) s.2.1).2 = true := h2
  show rFromN r i ≤ (rStart r (i : Int) s.2.1).1
  unfold rStart at h2 ⊢
  rw [if_neg (by have := (rTakes_ok (ht s h1)).2.1; omega), show ((i : Int).toNat) = i by omega, ht'] at h2 ⊢
  exact of_decide_eq_true h2
 have hlt : ∀ i l, T[i]? = some l → i < T.length := fun i l hl => (List.getElem?_eq_some_iff.1 hl).1
 exact {
  n0 := h.n0, n1 := h.n1, chk := h.chk, fl := h.fl, flo := h.flo
  len := by unfold iPut; rw [List.length_mapIdx]; exact h.len
  made := fun i l hl => by
   obtain ⟨x, hx, rfl⟩ := mapIdx_at hl
   exact (h.made i x hx).adds (fun y hy => (hrf i (hlt i x hx) y hy).1)
  fit := fun i l hl => by
   obtain ⟨x, hx, rfl⟩ := mapIdx_at hl
   have m := h.made i x hx
   intro y hy
   have a := tAdds_all (e := tEv r i) m.al (fun z hz => ((hrf i (hlt i x hx) z hz).1).2.2) y hy
   have k := tAdds_s (Q := fun s => TIn64 s) m.s64 (fun z hz => (hrf i (hlt i x hx) z hz).1.2.1) y hy
   have b := (m.adds (fun z hz => (hrf i (hlt i x hx) z hz).1)).name hy
   exact ⟨by have := b.2; unfold maxLen; omega, k, a.2⟩
  above := fun i l hl => by
   obtain ⟨x, hx, rfl⟩ := mapIdx_at hl
   exact fun y hy => tAdds_s (Q := fun s => rFromN r i ≤ s) (h.above i x hx) (fun z hz => (hrf i (hlt i x hx) z hz).2) y hy }
end

/-- New ones. -/
theorem IGood.new {p : PolL} {now : Int} {fl : List Int} (h : iNewE p now fl = 0) : IGood (now, p, fl) (List.replicate p.2.length []) := by
 unfold iNewE at h
 split at h
 ·rename_i c
  exact absurd h c
 ·rename_i c
  split at h
  ·cases h
  ·rename_i d
   simp only [not_or, Int.not_lt, Nat.not_lt] at d
   obtain ⟨d1, d2, d3, d4⟩ := d
   have nil : ∀ (i : Nat) (l : List TRec), (List.replicate p.2.length ([] : List TRec))[i]? = some l → l = [] := fun i l hl => by
    rw [List.getElem?_replicate] at hl
    split at hl
    ·exact (Option.some.inj hl).symm
    ·cases hl
   exact {
    n0 := d1, n1 := d2, chk := by simpa using c, fl := d3
    flo := fun i f t hf ht => by
     have hz : (fl.zip p.2)[i]? = some (f, t) := List.getElem?_zip_eq_some.2 ⟨hf, ht⟩
     have hb : flBad fl p.2 = false := by simpa using d4
     have := (List.any_eq_false.1 hb) (f, t) (List.mem_of_getElem? hz)
     simp only [Bool.or_eq_true, decide_eq_true_eq, not_or, Bool.not_eq_true', Bool.not_eq_false] at this
     exact ⟨by omega, this.2⟩
    len := List.length_replicate
    made := fun i l hl => by
     rw [nil i l hl]
     exact ⟨sorted_nil, all_nil, fun _ hx => absurd hx List.not_mem_nil, fun _ hx => absurd hx List.not_mem_nil⟩
    fit := fun i l hl => by rw [nil i l hl]; exact fun _ hx => absurd hx List.not_mem_nil
    above := fun i l hl => by rw [nil i l hl]; exact fun _ hx => absurd hx List.not_mem_nil }

end Go.Proofs.YtiomoobeklpkmaaGreat

namespace Go.Proofs.YtiomoobeklpkmaaGreat
open Go.RowKit Go.Lib

/-- The records of a tier; none of one that is none. -/
def iTab (T : List (List TRec)) (i : Int) : List TRec := if i < 0 then [] else T.getD i.toNat []

/-- The document's words on each call; Ok: what was there when the program began. -/
structure TiersSpec (TS : TableSpec) where
 Ok : World → Prop
 okKept : ∀ {w w'}, Ok w → Below w.heap.size w w' → Ok w'
 Rep : World → Nat → RchL → List (List TRec) → TFoot → Prop
 lt : ∀ {w p r T F}, Rep w p r T F → ∀ k, F.all k → k < w.heap.size
 sub : ∀ {w p r T F}, Rep w p r T F → ∀ k, F.own k → F.all k
 kept : ∀ {w w' p r T F}, Rep w p r T F → w.heap.size ≤ w'.heap.size → (∀ k, F.all k → w'.heap[k]? = w.heap[k]?) → Rep w' p r T F
 good : ∀ {w p r T F}, Rep w p r T F → IGood r T
 fit : ∀ {w p r T F}, Rep w p r T F → RFit r
 cells : ∀ {w p r T F}, Rep w p r T F → ∃ s f, w.cell? ⟨p, 0, none⟩ = some (.int .i64 r.1) ∧ w.cell? ⟨p, 1, none⟩ = some (.string r.2.1.1) ∧ w.cell? ⟨p, 2, none⟩ = some s ∧ w.cell? ⟨p, 3, none⟩ = some f ∧ RchRow w (rVal r s f) r
 new : ∀ (v f : Value) (p : PolL) (now : Int) (fl : List Int) (w : World), Ok w → PolRow w v p → p.1.size ≤ 60 → p.2.length ≤ 10 → (∀ x ∈ p.2, x.1.size ≤ 60 ∧ In64 x.2.1 ∧ In64 x.2.2.1 ∧ In64 x.2.2.2) → In64 now → CellRow w f fl.length (fl.map (Value.int .i64)) → CapOk f → fl.length ≤ 1000 → (∀ x ∈ fl, In64 x) →
  Calls Tryz.prog 37 #[v, .int .i64 now, f] w fun x w' => (iNewE p now fl = 0 → ∃ q F, x = .returned (.tuple #[tptr q, .int .i64 0]) ∧ Rep w' q (now, p, fl) (List.replicate p.2.length []) F ∧ (∀ k, F.all k → w.heap.size ≤ k)) ∧ (iNewE p now fl ≠ 0 → x = .returned (.tuple #[.pointer none, .int .i64 (iNewE p now fl)])) ∧ Below w.heap.size w w'
 put : ∀ {w p r T F} (v : Value) (ss : List SamL), Ok w → Rep w p r T F → (∀ l ∈ T, l.length + 8 ≤ 1000) → CellRow w v ss.length (flat aenc ss) → CapOk v → ss.length ≤ 1000 → (ss ≠ [] → Off F.own v) → (∀ s ∈ ss, SFit s) →
  Calls Tryz.prog 38 #[tptr p, v] w fun x w' => x = .returned (.int .i64 (iCheck r ss)) ∧ ∃ F', Rep w' p r (if iCheck r ss = 0 then iPut r T ss else T) F' ∧ TStep F F' w w'
 tick : ∀ {w p r T F} (n : Int), Ok w → Rep w p r T F → (∀ l ∈ T, l.length ≤ 1000) → In64 n →
  Calls Tryz.prog 39 #[tptr p, .int .i64 n] w fun x w' => x = .returned (.int .i64 (iTickE r n)) ∧ ∃ F', Rep w' p (if iTickE r n = 0 then iNow r n else r) (if iTickE r n = 0 then iKeep (iNow r n) T else T) F' ∧ TStep F F' w w'
 load : ∀ {w p r T F} (i : Int) (v : Value) (rs : List TRec), Ok w → Rep w p r T F → (0 ≤ i → (T.getD i.toNat []).length + rs.length ≤ 1000) → CellRow w v rs.length (flat renc (rs.map rl)) → CapOk v → (rs ≠ [] → Off F.own v) → (∀ x ∈ rs, TFit x) → In64 i →
  Calls Tryz.prog 64 #[tptr p, .int .i64 i, v] w fun x w' => x = .returned (.int .i64 (if 0 ≤ i ∧ i.toNat < T.length then (tCount (tEv r i.toNat) (iFresh r i.toNat rs) : Nat) else 0)) ∧ ∃ F', Rep w' p r (if 0 ≤ i then iLoad r T i.toNat rs else T) F' ∧ TStep F F' w w'
 table : ∀ {w p r T F} (i : Int), Ok w → Rep w p r T F → (∀ l ∈ T, l.length ≤ 1000) → In64 i →
  Calls Tryz.prog 129 #[tptr p, .int .i64 i] w fun x w' => (0 ≤ i ∧ i.toNat < T.length → ∃ q G, x = .returned (tptr q) ∧ TS.Rep w' q (tEv r i.toNat) (T.getD i.toNat []) G ∧ (∀ k, G.all k → w.heap.size ≤ k)) ∧ (¬ (0 ≤ i ∧ i.toNat < T.length) → x = .returned (.pointer none)) ∧ Below w.heap.size w w'
 records : ∀ {w p r T F} (i : Int), Ok w → Rep w p r T F → (∀ l ∈ T, l.length ≤ 1000) → In64 i →
  Calls Tryz.prog 43 #[tptr p, .int .i64 i] w fun x w' => ∃ u, x = .returned u ∧ w'.ownsRow w.heap.size 101 7 u (iTab T i).length (flat renc ((iTab T i).map rl)) ∧ Below w.heap.size w w'

/-- Tiers of one's own, above B; below B all is as it was. -/
structure IHere {TS : TableSpec} (S : TiersSpec TS) (B : Nat) (w0 w : World) (p : Nat) (r : RchL) (T : List (List TRec)) (F : TFoot) : Prop where
 rep : S.Rep w p r T F
 ge : ∀ k, F.own k → B ≤ k
 hB : B ≤ w.heap.size
 fr : Below B w0 w

section
variable {TS : TableSpec} {S : TiersSpec TS} {B p : Nat} {w0 w w' : World} {r r' : RchL} {T T' : List (List TRec)} {F F' : TFoot}

theorem IHere.next (h : IHere S B w0 w p r T F) (b : Below w.heap.size w w') : IHere S B w0 w' p r T F :=
 ⟨S.kept h.rep b.size (fun k hk => b.block k (S.lt h.rep k hk)), h.ge, Nat.le_trans h.hB b.size, h.fr.trans (b.mono h.hB)⟩

theorem IHere.step (h : IHere S B w0 w p r T F) (x : S.Rep w' p r' T' F') (st : TStep F F' w w') : IHere S B w0 w' p r' T' F' :=
 ⟨x, st.own.ge h.hB h.ge, Nat.le_trans h.hB st.own.size, st.own.below h.fr h.hB h.ge⟩

theorem IHere.off (h : IHere S B w0 w p r T F) {v : Value} (hv : ∀ g, v.ownBlock = some g → g < B) : Off F.own v := fun g hg hF => by
 have := h.ge g hF
 have := hv g hg
 omega

/-- What is known of what was there when the program began is known still. -/
theorem IHere.ok (h : IHere S w0.heap.size w0 w p r T F) (k : S.Ok w0) : S.Ok w := S.okKept k h.fr
end

section
variable {TS : TableSpec} {S : TiersSpec TS} {B p q : Nat} {w0 w w' : World} {r r1 r' : RchL} {T T1 T' : List (List TRec)} {F F' G : TFoot}

end

/-- A list that came in is none that tiers of one's own write. -/
theorem off_in {w0 : World} {v : Value} {n : Nat} {xs : List Value} {F : Nat → Prop} (h : CellRow w0 v n xs) (hx : xs ≠ []) (hF : ∀ k, F k → w0.heap.size ≤ k) : Off F v := fun g hg hf => by
 obtain ⟨a, c, rfl, hc⟩ := h
 rcases hc with hc | ⟨b, o, rfl, hlt, _⟩
 ·exact hx hc
 ·simp [Value.ownBlock] at hg
  have := hF g hf
  omega

theorem cell_lt {w : World} {a : Addr} {v : Value} (h : w.cell? a = some v) : a.block < w.heap.size := by
 unfold World.cell? at h
 by_cases c : a.block < w.heap.size
 ·exact c
 ·rw [Array.getElem?_eq_none (by omega)] at h
  cases h

/-- Cells that are there. -/
def Cs (w : World) (l : List (Addr × Value)) : Prop := ∀ x ∈ l, x.1.block < w.heap.size ∧ w.cell? x.1 = some x.2
theorem Cs.next {w w' : World} {l : List (Addr × Value)} (h : Cs w l) (b : Below w.heap.size w w') : Cs w' l := fun x hx =>
 ⟨Nat.lt_of_lt_of_le (h x hx).1 b.size, (World.cell?_of_block (a := x.1) (b.block _ (h x hx).1)).trans (h x hx).2⟩
theorem Cs.nil (w : World) : Cs w [] := fun _ h => absurd h List.not_mem_nil
theorem Cs.cons {w : World} {a : Addr} {v : Value} {l : List (Addr × Value)} (h1 : a.block < w.heap.size) (h2 : w.cell? a = some v) (h : Cs w l) : Cs w ((a, v) :: l) := fun x hx => by
 rcases List.mem_cons.1 hx with rfl | hx
 ·exact ⟨h1, h2⟩
 ·exact h x hx
theorem Cs.head {w : World} {a : Addr} {v : Value} {l : List (Addr × Value)} (h : Cs w ((a, v) :: l)) : w.cell? a = some v := (h _ (List.mem_cons_self ..)).2
theorem Cs.tail {w : World} {a : Addr} {v : Value} {l : List (Addr × Value)} (h : Cs w ((a, v) :: l)) : Cs w l := fun x hx => h x (List.mem_cons_of_mem _ hx)

theorem iPut_le {r : RchL} {T : List (List TRec)} {ss : List SamL} {m : Nat} (h : ∀ l ∈ T, l.length ≤ m) : ∀ l ∈ iPut r T ss, l.length ≤ m + ss.length := by
 intro l hl
 obtain ⟨i, hi⟩ := List.getElem?_of_mem hl
 obtain ⟨x, hx, rfl⟩ := mapIdx_at hi
 have h1 := tAdds_len (tEv r i) x (iRecs r i ss)
 have h2 := h x (List.mem_of_getElem? hx)
 have h3 : (iRecs r i ss).length ≤ ss.length := by unfold iRecs; rw [List.length_map]; exact List.length_filter_le ..
 omega
theorem iKeep_le {r : RchL} {T : List (List TRec)} {m : Nat} (h : ∀ l ∈ T, l.length ≤ m) : ∀ l ∈ iKeep r T, l.length ≤ m := by
 intro l hl
 obtain ⟨i, hi⟩ := List.getElem?_of_mem hl
 obtain ⟨x, hx, rfl⟩ := mapIdx_at hi
 exact Nat.le_trans (List.length_filter_le ..) (h x (List.mem_of_getElem? hx))

end Go.Proofs.YtiomoobeklpkmaaGreat

namespace Go.Proofs.YtiomoobeklpkmaaGreat
open Go.RowKit Go.Lib

/-- Does a plan fit tiers? -/
def MFits (pl : PlanL) (r : RchL) (n : Nat) : Prop := (pCheck pl.1).1 = 0 ∧ pl.2.length = pl.1.2.length ∧ ∀ (j : Nat) (x : TierL), pl.1.2[j]? = some x → 0 ≤ mSrc pl j ∧ (mSrc pl j).toNat < n ∧ gOn x.2.1 (tEv r (mSrc pl j).toNat) = true

/-- What is to be: the reach, the tables. -/
def mTo (pl : PlanL) (r : RchL) : RchL := (r.1, pl.1, mBases pl r)
def mTab (pl : PlanL) (r : RchL) (T : List (List TRec)) (j : Nat) (x : TierL) : List TRec := tRoll (tEv r (mSrc pl j).toNat) (T.getD (mSrc pl j).toNat []) x.2.1 (rFromN (mTo pl r) j)
def mBuilt (pl : PlanL) (r : RchL) (T : List (List TRec)) : List (List TRec) := pl.1.2.mapIdx (mTab pl r T)

/-- What was made by adding is what comes of adding it. -/
theorem tAdds_self {L : List TRec} {e : Int} (h : TMade L e) : tAdds e [] L = L := by
 refine tables_same (tAdds_sorted sorted_nil) h.so (tAdds_all all_nil (fun x hx => (h.al x hx).2)) h.al fun P => ?_
 rw [tW_of (fun x hx => (h.al x hx).2), List.filter_eq_self.2 (fun x hx => h.ok x hx)]

end Go.Proofs.YtiomoobeklpkmaaGreat

namespace Go.Proofs.YtiomoobeklpkmaaGreat
open Go.RowKit Go.Lib

theorem tIns_front {l : List TRec} {r : TRec} (h : ∀ y ∈ l, kLt r.k y.k) : tIns l r = r :: l := by
 cases l with
 | nil => rfl
 | cons y l =>
  have hy := h y (List.mem_cons_self ..)
  unfold tIns
  rw [if_neg (fun c => kLt_irrefl _ (kLt_trans hy (kLtB_iff.1 c))), if_neg (fun c => by rw [c] at hy; exact kLt_irrefl _ hy)]

/-- What is put, and what is let go. -/
theorem keep_ins {l : List TRec} {r : TRec} (h : TSorted l) (f : Int) : tKeep (tIns l r) f = if f ≤ r.s then tIns (tKeep l f) r else tKeep l f := by
 induction l with
 | nil =>
  by_cases c : f ≤ r.s
  ·rw [if_pos c]
   exact List.filter_eq_self.2 (fun x hx => by rw [List.mem_singleton.1 hx]; exact decide_eq_true c)
  ·rw [if_neg c]
   exact List.filter_eq_nil_iff.2 (fun x hx => by rw [List.mem_singleton.1 hx]; simpa using c)
 | cons x l ih =>
  obtain ⟨h1, h2⟩ := List.pairwise_cons.1 h
  have kc : ∀ (y : TRec) (m : List TRec), tKeep (y :: m) f = if f ≤ y.s then y :: tKeep m f else tKeep m f := fun y m => by
   unfold tKeep
   rw [List.filter_cons]
   by_cases c : f ≤ y.s
   ·rw [if_pos (decide_eq_true c), if_pos c]
   ·rw [if_neg (by simpa using c), if_neg c]
  by_cases hk : kLtB x.k r.k = true
  ·rw [show tIns (x :: l) r = x :: tIns l r by rw [tIns, if_pos hk], kc, kc, ih h2]
   by_cases c : f ≤ x.s
   ·rw [if_pos c, if_pos c]
    by_cases d : f ≤ r.s
    ·rw [if_pos d, if_pos d, tIns, if_pos hk]
    ·rw [if_neg d, if_neg d]
   ·rw [if_neg c, if_neg c]
  ·by_cases he : x.k = r.k
   ·have hs : x.s = r.s := congrArg Prod.snd he
    rw [show tIns (x :: l) r = ⟨x.n, x.s, agBoth x.a r.a⟩ :: l by rw [tIns, if_neg hk, if_pos he], kc, kc]
    by_cases c : f ≤ x.s
    ·rw [if_pos c, if_pos c, if_pos (by rw [← hs]; exact c), tIns, if_neg hk, if_pos he]
    ·rw [if_neg c, if_neg c, if_neg (by rw [← hs]; exact c)]
   ·have hrx : kLt r.k x.k := by
     rcases kLt_total he with c | c
     ·exact absurd (kLtB_iff.2 c) hk
     ·exact c
    rw [show tIns (x :: l) r = r :: x :: l by rw [tIns, if_neg hk, if_neg he], kc]
    rw [tIns_front (l := tKeep (x :: l) f) (fun y hy => by
     rcases List.mem_cons.1 (List.mem_filter.1 hy).1 with rfl | hy
     ·exact hrx
     ·exact kLt_trans hrx (h1 y hy))]

theorem keep_adds {e : Int} {l rs : List TRec} (h : TSorted l) (f : Int) : tKeep (tAdds e l rs) f = tAdds e (tKeep l f) (rs.filter fun x => decide (f ≤ x.s)) := by
 induction rs generalizing l with
 | nil => rfl
 | cons r rs ih =>
  have hs : TSorted (tAdd e l r) := by
   unfold tAdd
   split
   ·exact tIns_sorted h
   ·exact h
  have ha : tKeep (tAdd e l r) f = if f ≤ r.s then tAdd e (tKeep l f) r else tKeep l f := by
   unfold tAdd
   by_cases c : tOk e r = true
   ·rw [if_pos c, if_pos c, keep_ins h]
   ·rw [if_neg c, if_neg c]
    split <;> rfl
  show tKeep (tAdds e (tAdd e l r) rs) f = _
  rw [ih hs, ha, List.filter_cons]
  by_cases c : f ≤ r.s
  ·rw [if_pos c, if_pos (decide_eq_true c)]
   rfl
  ·rw [if_neg c, if_neg (by simpa using c)]

/-- A sample with a name and a time. -/
def iMay (s : SamL) : Bool := nOk s.1 && decide (0 ≤ s.2.1)
/-- The document's own view. -/
def iView (r : RchL) (i : Nat) (ss : List SamL) : List TRec := tAdds (tEv r i) [] (iRecs r i (ss.filter iMay))

theorem iView_nil (r : RchL) (i : Nat) : iView r i [] = [] := rfl

theorem may_of {r : RchL} {ss : List SamL} (h : ∀ s ∈ ss, rTakes r s.1 s.2.1 = 0) : ss.filter iMay = ss := List.filter_eq_self.2 fun s hs => by
 have k := rTakes_ok (h s hs)
 unfold iMay
 rw [k.1, Bool.true_and]
 exact decide_eq_true k.2.1

/-- One more sample. -/
theorem iView_next (r : RchL) (i : Nat) (all : List SamL) (s : SamL) : iView r i (all ++ [s]) = if iMay s = true ∧ (rStart r (i : Int) s.2.1).2 = true then tAdd (tEv r i) (iView r i all) ⟨s.1, (rStart r (i : Int) s.2.1).1, agOf [s.2.2]⟩ else iView r i all := by
 unfold iView iRecs
 rw [List.filter_append, List.filter_append, List.map_append, tAdds_append, List.filter_cons, List.filter_nil]
 by_cases h : iMay s = true
 ·rw [if_pos h, List.filter_cons, List.filter_nil]
  by_cases c : iHas r i s = true
  ·rw [if_pos c, if_pos ⟨h, c⟩]
   rfl
  ·rw [if_neg c, if_neg (fun d => c d.2)]
   rfl
 ·rw [if_neg h, if_neg (fun d => h d.1)]
  rfl

/-- More samples. -/
theorem iView_put {r : RchL} {i : Nat} {all ss : List SamL} (h : ∀ s ∈ ss, rTakes r s.1 s.2.1 = 0) : iView r i (all ++ ss) = tAdds (tEv r i) (iView r i all) (iRecs r i ss) := by
 unfold iView
 rw [List.filter_append, may_of h]
 unfold iRecs
 rw [List.filter_append, List.map_append, tAdds_append]

/-- Time goes on. -/
theorem iView_tick {r : RchL} {i : Nat} {n : Int} {all : List SamL} {x : TierL} (hx : r.2.1.2[i]? = some x) (h : rFromN r i ≤ rFromN (iNow r n) i) : tKeep (iView r i all) (rFromN (iNow r n) i) = iView (iNow r n) i all := by
 unfold iView
 rw [keep_adds List.Pairwise.nil]
 show tAdds (tEv r i) [] _ = tAdds (tEv r i) [] _
 congr 1
 unfold iRecs
 rw [List.filter_map, List.filter_filter, List.filter_filter, List.filter_filter]
 have hx' : (iNow r n).2.1.2[i]? = some x := hx
 have hrec : ∀ s : SamL, iMay s = true → (rStart r (i : Int) s.2.1).1 = gFloor s.2.1 x.2.1 ∧ (rStart r (i : Int) s.2.1).2 = decide (rFromN r i ≤ gFloor s.2.1 x.2.1) ∧ (rStart (iNow r n) (i : Int) s.2.1).1 = gFloor s.2.1 x.2.1 ∧ (rStart (iNow r n) (i : Int) s.2.1).2 = decide (rFromN (iNow r n) i ≤ gFloor s.2.1 x.2.1) := fun s hs => by
  have h0 : 0 ≤ s.2.1 := by
   unfold iMay at hs
   rw [Bool.and_eq_true] at hs
   exact of_decide_eq_true hs.2
  have ci : ¬ ((i : Int) < 0 ∨ s.2.1 < 0) := by omega
  unfold rStart
  rw [if_neg ci, if_neg ci, show ((i : Int).toNat) = i by omega, hx, hx']
  exact ⟨rfl, rfl, rfl, rfl⟩
 have hf : (all.filter fun s => ((fun x => decide (rFromN (iNow r n) i ≤ x.s)) ∘ iRec r i) s && iHas r i s && iMay s) = all.filter fun s => iHas (iNow r n) i s && iMay s := by
  refine List.filter_congr fun s _ => ?_
  by_cases hm : iMay s = true
  ·obtain ⟨a, b, c, d⟩ := hrec s hm
   rw [hm, Bool.and_true, Bool.and_true]
   show (decide (rFromN (iNow r n) i ≤ (rStart r (i : Int) s.2.1).1) && (rStart r (i : Int) s.2.1).2) = (rStart (iNow r n) (i : Int) s.2.1).2
   rw [a, b, d]
   by_cases c1 : rFromN (iNow r n) i ≤ gFloor s.2.1 x.2.1
   ·rw [decide_eq_true c1, decide_eq_true (Int.le_trans h c1)]
    rfl
   ·rw [decide_eq_false c1]
    rfl
  ·rw [Bool.eq_false_iff.2 hm, Bool.and_false, Bool.and_false]
 rw [hf]
 refine List.map_congr_left fun s hs => ?_
 obtain ⟨a, b, c, d⟩ := hrec s ((Bool.and_eq_true_iff.1 (List.mem_filter.1 hs).2).2)
 unfold iRec
 rw [a, c]

end Go.Proofs.YtiomoobeklpkmaaGreat

namespace Go.Proofs.YtiomoobeklpkmaaGreat
open Go.RowKit Go.Lib

theorem rStart_at {r : RchL} {k : Nat} {y : TierL} (hy : r.2.1.2[k]? = some y) {t : Int} (ht : 0 ≤ t) : rStart r (k : Int) t = (gFloor t y.2.1, decide (rFromN r k ≤ gFloor t y.2.1)) := by
 unfold rStart
 rw [if_neg (by omega), show ((k : Int).toNat) = k by omega, hy]

theorem tEv_at {r : RchL} {k : Nat} {y : TierL} (hy : r.2.1.2[k]? = some y) : tEv r k = y.2.1 := by
 unfold tEv
 rw [hy]

theorem may_time {s : SamL} (h : iMay s = true) : nOk s.1 = true ∧ 0 ≤ s.2.1 := by
 unfold iMay at h
 rw [Bool.and_eq_true] at h
 exact ⟨h.1, of_decide_eq_true h.2⟩

theorem iRecs_ok {r : RchL} {k : Nat} {y : TierL} (hy : r.2.1.2[k]? = some y) (he : 1 ≤ y.2.1) {all : List SamL} (hs : ∀ s ∈ all, SFit s) : (∀ x ∈ iRecs r k (all.filter iMay), tOk y.2.1 x = true) ∧ ∀ x ∈ iRecs r k (all.filter iMay), AgIn x.a := by
 have key : ∀ x ∈ iRecs r k (all.filter iMay), ∃ s, SFit s ∧ iMay s = true ∧ x = ⟨s.1, gFloor s.2.1 y.2.1, agOne s.2.2⟩ := fun x hx => by
  obtain ⟨s, hs1, rfl⟩ := List.mem_map.1 hx
  obtain ⟨h1, h2⟩ := List.mem_filter.1 hs1
  obtain ⟨h3, h4⟩ := List.mem_filter.1 h1
  refine ⟨s, hs s h3, h4, ?_⟩
  unfold iRec
  rw [rStart_at hy (may_time h4).2, agOf_one (hs s h3).2.2]
 constructor
 ·intro x hx
  obtain ⟨s, h1, h2, rfl⟩ := key x hx
  obtain ⟨m1, m2⟩ := may_time h2
  have f1 := gFloor_plain0 m2 he
  have f3 : gPast s.2.1 y.2.1 ≤ s.2.1 := past_le he m2
  unfold tOk
  simp only [Bool.and_eq_true, decide_eq_true_eq]
  refine ⟨⟨⟨m1, by omega⟩, gFloor_on he f1⟩, ?_⟩
  show agOk (agOne s.2.2) = true
  rw [agOk_iff]
  exact ⟨Int.le_refl 1, (by decide : (1 : Int) ≤ 4611686018427387904), Int.le_refl _⟩
 ·intro x hx
  obtain ⟨s, h1, h2, rfl⟩ := key x hx
  exact (agOf_one h1.2.2) ▸ (agOf_good (fun z hz => by rw [List.mem_singleton.1 hz]; exact h1.2.2)).1

/-- Coarser buckets begin no later. -/
theorem floor_coarse {t a b : Int} (ha : 1 ≤ a) (hb : 1 ≤ b) (hd : a ∣ b) (ht : 0 ≤ t) : gFloor (gFloor t a) b = gFloor t b ∧ gFloor t b ≤ gFloor t a := by
 obtain ⟨c, rfl⟩ := hd
 have hc : 1 ≤ c := by
  by_cases c1 : 1 ≤ c
  ·exact c1
  ·have := Int.mul_le_mul_of_nonneg_left (show c ≤ 0 by omega) (show 0 ≤ a by omega)
   omega
 have e := floor_floor ha hc ht
 refine ⟨e, ?_⟩
 rw [← e]
 have h0 := floor_nonneg ha ht
 have := gFloor_plain0 h0 hb
 obtain ⟨p0, p1⟩ := gPast_bounds (gFloor t a) hb
 omega

/-- Rolled up, a tier's view is the one of a coarser tier that reaches back less far. -/
theorem view_roll {r r' : RchL} {k j : Nat} {y x : TierL} {all : List SamL} (hy : r.2.1.2[k]? = some y) (hx : r'.2.1.2[j]? = some x) (hb : 1 ≤ x.2.1) (hd : gOn x.2.1 y.2.1 = true) (hf : rFromN r k ≤ rFromN r' j) (hs : ∀ s ∈ all, SFit s) :
  tRoll y.2.1 (iView r k all) x.2.1 (rFromN r' j) = iView r' j all := by
 obtain ⟨ha, hdv⟩ := gOn_dvd.1 hd
 obtain ⟨o1, o2⟩ := iRecs_ok hy ha hs
 have ht0 : x.2.1.tmod y.2.1 = 0 := by
  unfold gOn at hd
  rw [Bool.and_eq_true] at hd
  exact of_decide_eq_true hd.2
 unfold tRoll
 rw [show max x.2.1 1 = x.2.1 by omega, if_pos ht0]
 have e1 : tAdds x.2.1 [] (((iView r k all).map (tFl x.2.1)).filter fun z => decide (rFromN r' j ≤ z.s)) = tKeep (tAdds x.2.1 [] ((iView r k all).map (tFl x.2.1))) (rFromN r' j) := (keep_adds List.Pairwise.nil _).symm
 rw [e1]
 unfold iView
 rw [tEv_at hy, tAdds_roll hb o1 o2, keep_adds List.Pairwise.nil, tEv_at hx]
 show tAdds x.2.1 [] _ = tAdds x.2.1 [] _
 congr 1
 unfold iRecs
 rw [List.map_map, List.filter_map, List.filter_filter, List.filter_filter, List.filter_filter]
 have hrec : ∀ s : SamL, iMay s = true → iHas r k s = decide (rFromN r k ≤ gFloor s.2.1 y.2.1) ∧ iHas r' j s = decide (rFromN r' j ≤ gFloor s.2.1 x.2.1) ∧ (tFl x.2.1 (iRec r k s)) = iRec r' j s ∧ (iRec r' j s).s = gFloor s.2.1 x.2.1 := fun s h => by
  obtain ⟨m1, m2⟩ := may_time h
  have f := (floor_coarse ha hb hdv m2).1
  unfold iHas iRec tFl
  rw [rStart_at hy m2, rStart_at hx m2]
  simp only [f]
  exact ⟨trivial, trivial, trivial, trivial⟩
 have hfil : (all.filter fun s => ((fun z : TRec => decide (rFromN r' j ≤ z.s)) ∘ (tFl x.2.1 ∘ iRec r k)) s && iHas r k s && iMay s) = all.filter fun s => iHas r' j s && iMay s := by
  refine List.filter_congr fun s _ => ?_
  by_cases h : iMay s = true
  ·obtain ⟨a, b, c, d⟩ := hrec s h
   have m2 := (may_time h).2
   have f := (floor_coarse ha hb hdv m2).2
   rw [h, Bool.and_true, Bool.and_true]
   show (decide (rFromN r' j ≤ (tFl x.2.1 (iRec r k s)).s) && iHas r k s) = iHas r' j s
   rw [c, d, a, b]
   by_cases c1 : rFromN r' j ≤ gFloor s.2.1 x.2.1
   ·rw [decide_eq_true c1, decide_eq_true (show rFromN r k ≤ gFloor s.2.1 y.2.1 by omega)]
    rfl
   ·rw [decide_eq_false c1]
    rfl
  ·rw [Bool.eq_false_iff.2 h, Bool.and_false, Bool.and_false]
 rw [hfil]
 refine List.map_congr_left fun s h => ?_
 exact (hrec s ((Bool.and_eq_true_iff.1 (List.mem_filter.1 h).2).2)).2.2.1

/-- How far back a new tier reaches: down to its base at least. -/
theorem base_le {pl : PlanL} {r : RchL} {j : Nat} {x : TierL} (hx : pl.1.2[j]? = some x) : gCeil (rFrom r (mSrc pl j)) x.2.1 ≤ rFromN (mTo pl r) j := by
 unfold rFromN mTo
 simp only [hx]
 have : (mBases pl r)[j]? = some (gCeil (rFrom r (mSrc pl j)) x.2.1) := by
  unfold mBases
  rw [List.getElem?_mapIdx, hx]
  rfl
 rw [this]
 simp only []
 omega

/-- What is known of tiers' reach. -/
theorem IGood.reach_le {r : RchL} {T : List (List TRec)} (h : IGood r T) (hfl : ∀ x ∈ r.2.2, x ≤ 1099511627776) (k : Nat) : 0 ≤ rFromN r k ∧ rFromN r k ≤ 1099511627776 :=
 rFromN_le h.n0 h.chk (by have := h.n1; unfold maxT at this; omega) hfl (by have := h.n1; unfold maxT at this; omega)

end Go.Proofs.YtiomoobeklpkmaaGreat

namespace Go.Proofs.YtiomoobeklpkmaaGreat
open Go.RowKit Go.Lib

def g4 : Ag := ⟨1, 0, 4, 4, 4⟩
def g6 : Ag := ⟨1, 0, 6, 6, 6⟩
end Go.Proofs.YtiomoobeklpkmaaGreat
