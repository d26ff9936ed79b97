/-
  A bundle of texts: IMO IPS QMT.
-/
import Derived.Test.YtbhcafginmkaaaaGreatN21
import Derived.Test.YtbhcafginmkaaaaGreatN22
import Derived.Test.YtbhcafginmkaaaaGreatN23
import Derived.Test.YtbhcafginmkaaaaGreatN18
import Derived.Test.YtbhcafginmkaaaaGreatN11
namespace Go.Proofs.YtbhcafginmkaaaaGreat
open Go.RowKit Go.Lib

/-- The ticks of a tier's buckets. -/
def tEv (r : RchL) (i : Nat) : Int := match r.2.1.2[i]? with | some t => t.2.1 | none => 1

/-- Does a tier have a sample's bucket? -/
def iHas (r : RchL) (i : Nat) (s : SamL) : Bool := (rStart r (i : Int) s.2.1).2
/-- A sample as a tier's record. -/
def iRec (r : RchL) (i : Nat) (s : SamL) : TRec := ⟨s.1, (rStart r (i : Int) s.2.1).1, agOf [s.2.2]⟩
/-- What comes of samples in a tier. -/
def iRecs (r : RchL) (i : Nat) (ss : List SamL) : List TRec := (ss.filter (iHas r i)).map (iRec r i)

/-- The tables behind samples that were put. -/
def iPut (r : RchL) (T : List (List TRec)) (ss : List SamL) : List (List TRec) := T.mapIdx fun i l => tAdds (tEv r i) l (iRecs r i ss)
/-- What hinders samples: the first error. -/
def iTakes (r : RchL) (ss : List SamL) : Int := ((ss.map fun s => rTakes r s.1 s.2.1).find? fun e => !decide (e = 0)).getD 0
def iCheck (r : RchL) (ss : List SamL) : Int := if ss = [] then 1 else if 8 < ss.length then 2 else iTakes r ss

/-- The clock's end. -/
def maxT : Int := 1099511627776
def iNow (r : RchL) (n : Int) : RchL := (r.1 + n, r.2)
/-- Of records those that a tier may have. -/
def iFresh (r : RchL) (i : Nat) (rs : List TRec) : List TRec := rs.filter fun x => decide (rFromN r i ≤ x.s)
def iLoad (r : RchL) (T : List (List TRec)) (i : Nat) (rs : List TRec) : List (List TRec) := T.modify i fun l => tAdds (tEv r i) l (iFresh r i rs)

/-- Is a floor none, or not on its tier's grid? -/
def flBad (fl : List Int) (l : List TierL) : Bool := (fl.zip l).any fun x => decide (x.1 < 0) || !gOn x.1 x.2.2.1
/-- New's error. -/
def iNewE (p : PolL) (now : Int) (fl : List Int) : Int :=
  if (pCheck p).1 ≠ 0 then (pCheck p).1 else if now < 0 ∨ maxT < now ∨ p.2.length < fl.length ∨ flBad fl p.2 = true then 1 else 0

/-- How many blocks all of it takes. -/
def iNeed (r : RchL) (T : List (List TRec)) : Nat := (T.mapIdx fun i l => tNeed l (match r.2.1.2[i]? with | some t => t.2.2.2 | none => 1)).sum
/-- What is known of tiers. -/
structure IGood (r : RchL) (T : List (List TRec)) : Prop where
  n0 : 0 ≤ r.1
  n1 : r.1 ≤ maxT
  chk : (pCheck r.2.1).1 = 0
  fl : r.2.2.length ≤ r.2.1.2.length
  flo : ∀ (i : Nat) (f : Int) (t : TierL), r.2.2[i]? = some f → r.2.1.2[i]? = some t → 0 ≤ f ∧ gOn f t.2.1 = true
  len : T.length = r.2.1.2.length
  made : ∀ (i : Nat) l, T[i]? = some l → TMade l (tEv r i)
  fit : ∀ (i : Nat) l, T[i]? = some l → ∀ x ∈ l, TFit x
  above : ∀ (i : Nat) l, T[i]? = some l → ∀ x ∈ l, rFromN r i ≤ x.s

section
variable {r : RchL} {T : List (List TRec)}

theorem IGood.tier (h : IGood r T) {i : Nat} {l : List TRec} (hl : T[i]? = some l) : ∃ t, r.2.1.2[i]? = some t ∧ tEv r i = t.2.1 ∧ 1 ≤ t.2.1 := by
  have hi := (List.getElem?_eq_some_iff.1 hl).1
  obtain ⟨t, ht⟩ : ∃ t, r.2.1.2[i]? = some t := ⟨_, List.getElem?_eq_getElem (by rw [← h.len]; exact hi)⟩
  exact ⟨t, ht, by unfold tEv; rw [ht], (tier_known h.chk ht).1⟩

theorem IGood.ev {i : Nat} (h : IGood r T) (hi : i < T.length) : ∃ t, r.2.1.2[i]? = some t ∧ tEv r i = t.2.1 := by
  obtain ⟨t, ht, e, _⟩ := h.tier (List.getElem?_eq_getElem hi)
  exact ⟨t, ht, e⟩
end

/-- A sample such as memory can hold. -/
def SFit (s : SamL) : Prop := s.1.size ≤ maxLen ∧ TIn64 s.2.1 ∧ TIn64 s.2.2

theorem iRec_fit {r : RchL} {T : List (List TRec)} (h : IGood r T) {i : Nat} (hi : i < T.length) {s : SamL} (hs : SFit s) (ht : 0 ≤ s.2.1) : TFit (iRec r i s) := by
  obtain ⟨t, ht', _, he⟩ := h.tier (List.getElem?_eq_getElem hi)
  refine ⟨hs.1, ?_, (agOf_good (fun x hx => by rw [List.mem_singleton.1 hx]; exact hs.2.2)).1⟩
  have e : (rStart r (i : Int) s.2.1).1 = gFloor s.2.1 t.2.1 := by
    unfold rStart
    rw [if_neg (by omega), show ((i : Int).toNat) = i by omega, ht']
  show TIn64 (rStart r (i : Int) s.2.1).1
  rw [e]
  have f1 := gFloor_plain0 ht he
  have f2 := gPast_bounds s.2.1 he
  have f3 : gPast s.2.1 t.2.1 ≤ s.2.1 := past_le he ht
  have f4 := hs.2.1
  unfold TIn64 at *
  omega

/-- Samples that all may come. -/
theorem iTakes_zero {r : RchL} {ss : List SamL} : iTakes r ss = 0 ↔ ∀ s ∈ ss, rTakes r s.1 s.2.1 = 0 := by
  unfold iTakes
  induction ss with
  | nil => exact ⟨fun _ s hs => absurd hs List.not_mem_nil, fun _ => rfl⟩
  | cons a ss ih =>
    rw [List.map_cons, List.find?_cons]
    by_cases h : rTakes r a.1 a.2.1 = 0
    · rw [show (!decide (rTakes r a.1 a.2.1 = 0)) = false by simp [h]]
      simp only
      rw [ih]
      constructor
      · intro k s hs
        rcases List.mem_cons.1 hs with rfl | hs
        · exact h
        · exact k s hs
      · exact fun k s hs => k s (List.mem_cons_of_mem _ hs)
    · rw [show (!decide (rTakes r a.1 a.2.1 = 0)) = true by simp [h]]
      simp only [Option.getD_some]
      exact ⟨fun k => absurd k h, fun k => absurd (k a (List.mem_cons_self ..)) h⟩

theorem rTakes_ok {r : RchL} {n : ByteArray} {t : Int} (h : rTakes r n t = 0) : nOk n = true ∧ 0 ≤ t ∧ t ≤ r.1 ∧ r.2.1.2 ≠ [] ∧ rFromN r 0 ≤ t := by
  unfold rTakes at h
  split at h
  · cases h
  · split at h
    · cases h
    · split at h
      · cases h
      · rename_i h1 h2 h3
        simp only [not_or, Bool.not_eq_false, Int.not_lt] at h1 h2 h3
        exact ⟨h1.1, h1.2, h2, h3.1, h3.2⟩

theorem mapIdx_at {α β : Type} {f : Nat → α → β} {L : List α} {i : Nat} {y : β} (h : (L.mapIdx f)[i]? = some y) : ∃ x, L[i]? = some x ∧ y = f i x := by
  rw [List.getElem?_mapIdx] at h
  cases hl : L[i]? with
  | none => rw [hl] at h; cases h
  | some x => rw [hl] at h; exact ⟨x, rfl, (Option.some.inj h).symm⟩

section
variable {r : RchL} {T : List (List TRec)}

theorem TMade.adds {e : Int} {l rs : List TRec} (h : TMade l e) (hr : ∀ x ∈ rs, TFit x) : TMade (tAdds e l rs) e :=
  ⟨tAdds_sorted h.so, tAdds_all h.al (fun x hx => (hr x hx).2.2), tAdds_ok h.ok (fun x hx => (hr x hx).2.2) h.al, tAdds_s h.s64 (fun x hx => (hr x hx).2.1)⟩

/-- Samples come. -/
theorem IGood.put (h : IGood r T) {ss : List SamL} (hs : ∀ s ∈ ss, SFit s) (ht : ∀ s ∈ ss, rTakes r s.1 s.2.1 = 0) : IGood r (iPut r T ss) := by
  have hrf : ∀ i, i < T.length → ∀ x ∈ iRecs r i ss, TFit x ∧ rFromN r i ≤ x.s := fun i hi x hx => by
    obtain ⟨s, hs', rfl⟩ := List.mem_map.1 hx
    obtain ⟨h1, h2⟩ := List.mem_filter.1 hs'
    refine ⟨iRec_fit h hi (hs s h1) (rTakes_ok (ht s h1)).2.1, ?_⟩
    obtain ⟨t, ht', _⟩ := h.ev hi
    have h2 : (rStart r (i : Int) s.2.1).2 = true := h2
    show rFromN r i ≤ (rStart r (i : Int) s.2.1).1
    unfold rStart at h2 ⊢
    rw [if_neg (by have := (rTakes_ok (ht s h1)).2.1; omega), show ((i : Int).toNat) = i by omega, ht'] at h2 ⊢
    exact of_decide_eq_true h2
  have hlt : ∀ i l, T[i]? = some l → i < T.length := fun i l hl => (List.getElem?_eq_some_iff.1 hl).1
  exact {
    n0 := h.n0, n1 := h.n1, chk := h.chk, fl := h.fl, flo := h.flo
    len := by unfold iPut; rw [List.length_mapIdx]; exact h.len
    made := fun i l hl => by
      obtain ⟨x, hx, rfl⟩ := mapIdx_at hl
      exact (h.made i x hx).adds (fun y hy => (hrf i (hlt i x hx) y hy).1)
    fit := fun i l hl => by
      obtain ⟨x, hx, rfl⟩ := mapIdx_at hl
      have m := h.made i x hx
      intro y hy
      have a := tAdds_all (e := tEv r i) m.al (fun z hz => ((hrf i (hlt i x hx) z hz).1).2.2) y hy
      have k := tAdds_s (Q := fun s => TIn64 s) m.s64 (fun z hz => (hrf i (hlt i x hx) z hz).1.2.1) y hy
      have b := (m.adds (fun z hz => (hrf i (hlt i x hx) z hz).1)).name hy
      exact ⟨by have := b.2; unfold maxLen; omega, k, a.2⟩
    above := fun i l hl => by
      obtain ⟨x, hx, rfl⟩ := mapIdx_at hl
      exact fun y hy => tAdds_s (Q := fun s => rFromN r i ≤ s) (h.above i x hx) (fun z hz => (hrf i (hlt i x hx) z hz).2) y hy }
end

/-- New ones. -/
theorem IGood.new {p : PolL} {now : Int} {fl : List Int} (h : iNewE p now fl = 0) : IGood (now, p, fl) (List.replicate p.2.length []) := by
  unfold iNewE at h
  split at h
  · rename_i c
    exact absurd h c
  · rename_i c
    split at h
    · cases h
    · rename_i d
      simp only [not_or, Int.not_lt, Nat.not_lt] at d
      obtain ⟨d1, d2, d3, d4⟩ := d
      have nil : ∀ (i : Nat) (l : List TRec), (List.replicate p.2.length ([] : List TRec))[i]? = some l → l = [] := fun i l hl => by
        rw [List.getElem?_replicate] at hl
        split at hl
        · exact (Option.some.inj hl).symm
        · cases hl
      exact {
        n0 := d1, n1 := d2, chk := by simpa using c, fl := d3
        flo := fun i f t hf ht => by
          have hz : (fl.zip p.2)[i]? = some (f, t) := List.getElem?_zip_eq_some.2 ⟨hf, ht⟩
          have hb : flBad fl p.2 = false := by simpa using d4
          have := (List.any_eq_false.1 hb) (f, t) (List.mem_of_getElem? hz)
          simp only [Bool.or_eq_true, decide_eq_true_eq, not_or, Bool.not_eq_true', Bool.not_eq_false] at this
          exact ⟨by omega, this.2⟩
        len := List.length_replicate
        made := fun i l hl => by
          rw [nil i l hl]
          exact ⟨sorted_nil, all_nil, fun _ hx => absurd hx List.not_mem_nil, fun _ hx => absurd hx List.not_mem_nil⟩
        fit := fun i l hl => by rw [nil i l hl]; exact fun _ hx => absurd hx List.not_mem_nil
        above := fun i l hl => by rw [nil i l hl]; exact fun _ hx => absurd hx List.not_mem_nil }

end Go.Proofs.YtbhcafginmkaaaaGreat

namespace Go.Proofs.YtbhcafginmkaaaaGreat
open Go.RowKit Go.Lib

/-- The records of a tier; none of one that is none. -/
def iTab (T : List (List TRec)) (i : Int) : List TRec := if i < 0 then [] else T.getD i.toNat []

/-- The document's words on each call; Ok: what was there when the program began. -/
structure TiersSpec (TS : TableSpec) where
  Ok : World → Prop
  okKept : ∀ {w w'}, Ok w → Below w.heap.size w w' → Ok w'
  Rep : World → Nat → RchL → List (List TRec) → TFoot → Prop
  lt : ∀ {w p r T F}, Rep w p r T F → ∀ k, F.all k → k < w.heap.size
  sub : ∀ {w p r T F}, Rep w p r T F → ∀ k, F.own k → F.all k
  kept : ∀ {w w' p r T F}, Rep w p r T F → w.heap.size ≤ w'.heap.size → (∀ k, F.all k → w'.heap[k]? = w.heap[k]?) → Rep w' p r T F
  good : ∀ {w p r T F}, Rep w p r T F → IGood r T
  fit : ∀ {w p r T F}, Rep w p r T F → RFit r
  cells : ∀ {w p r T F}, Rep w p r T F → ∃ s f, w.cell? ⟨p, 0, none⟩ = some (.int .i64 r.1) ∧ w.cell? ⟨p, 1, none⟩ = some (.string r.2.1.1) ∧ w.cell? ⟨p, 2, none⟩ = some s ∧ w.cell? ⟨p, 3, none⟩ = some f ∧ RchRow w (rVal r s f) r
  new : ∀ (v f : Value) (p : PolL) (now : Int) (fl : List Int) (w : World), Ok w → PolRow w v p → p.1.size ≤ 60 → p.2.length ≤ 10 → (∀ x ∈ p.2, x.1.size ≤ 60 ∧ In64 x.2.1 ∧ In64 x.2.2.1 ∧ In64 x.2.2.2) → In64 now → CellRow w f fl.length (fl.map (Value.int .i64)) → CapOk f → fl.length ≤ 1000 → (∀ x ∈ fl, In64 x) →
    Calls Tryz.prog 56 #[v, .int .i64 now, f] w fun x w' => (iNewE p now fl = 0 → ∃ q F, x = .returned (.tuple #[tptr q, .int .i64 0]) ∧ Rep w' q (now, p, fl) (List.replicate p.2.length []) F ∧ (∀ k, F.all k → w.heap.size ≤ k)) ∧ (iNewE p now fl ≠ 0 → x = .returned (.tuple #[.pointer none, .int .i64 (iNewE p now fl)])) ∧ Below w.heap.size w w'
  put : ∀ {w p r T F} (v : Value) (ss : List SamL), Ok w → Rep w p r T F → (∀ l ∈ T, l.length + 8 ≤ 1000) → CellRow w v ss.length (flat aenc ss) → CapOk v → ss.length ≤ 1000 → (ss ≠ [] → Off F.own v) → (∀ s ∈ ss, SFit s) →
    Calls Tryz.prog 60 #[tptr p, v] w fun x w' => x = .returned (.int .i64 (iCheck r ss)) ∧ ∃ F', Rep w' p r (if iCheck r ss = 0 then iPut r T ss else T) F' ∧ TStep F F' w w'
  load : ∀ {w p r T F} (i : Int) (v : Value) (rs : List TRec), Ok w → Rep w p r T F → (0 ≤ i → (T.getD i.toNat []).length + rs.length ≤ 1000) → CellRow w v rs.length (flat renc (rs.map rl)) → CapOk v → (rs ≠ [] → Off F.own v) → (∀ x ∈ rs, TFit x) → In64 i →
    Calls Tryz.prog 64 #[tptr p, .int .i64 i, v] w fun x w' => x = .returned (.int .i64 (if 0 ≤ i ∧ i.toNat < T.length then (tCount (tEv r i.toNat) (iFresh r i.toNat rs) : Nat) else 0)) ∧ ∃ F', Rep w' p r (if 0 ≤ i then iLoad r T i.toNat rs else T) F' ∧ TStep F F' w w'
  table : ∀ {w p r T F} (i : Int), Ok w → Rep w p r T F → (∀ l ∈ T, l.length ≤ 1000) → In64 i →
    Calls Tryz.prog 156 #[tptr p, .int .i64 i] w fun x w' => (0 ≤ i ∧ i.toNat < T.length → ∃ q G, x = .returned (tptr q) ∧ TS.Rep w' q (tEv r i.toNat) (T.getD i.toNat []) G ∧ (∀ k, G.all k → w.heap.size ≤ k)) ∧ (¬ (0 ≤ i ∧ i.toNat < T.length) → x = .returned (.pointer none)) ∧ Below w.heap.size w w'
  need : ∀ {w p r T F}, Ok w → Rep w p r T F → (∀ l ∈ T, l.length ≤ 1000) → Calls Tryz.prog 94 #[tptr p] w fun x w' => x = .returned (.int .i64 (iNeed r T : Nat)) ∧ Below w.heap.size w w'

/-- Tiers of one's own, above B; below B all is as it was. -/
structure IHere {TS : TableSpec} (S : TiersSpec TS) (B : Nat) (w0 w : World) (p : Nat) (r : RchL) (T : List (List TRec)) (F : TFoot) : Prop where
  rep : S.Rep w p r T F
  ge : ∀ k, F.own k → B ≤ k
  hB : B ≤ w.heap.size
  fr : Below B w0 w

section
variable {TS : TableSpec} {S : TiersSpec TS} {B p : Nat} {w0 w w' : World} {r r' : RchL} {T T' : List (List TRec)} {F F' : TFoot}

theorem IHere.next (h : IHere S B w0 w p r T F) (b : Below w.heap.size w w') : IHere S B w0 w' p r T F :=
  ⟨S.kept h.rep b.size (fun k hk => b.block k (S.lt h.rep k hk)), h.ge, Nat.le_trans h.hB b.size, h.fr.trans (b.mono h.hB)⟩

theorem IHere.step (h : IHere S B w0 w p r T F) (x : S.Rep w' p r' T' F') (st : TStep F F' w w') : IHere S B w0 w' p r' T' F' :=
  ⟨x, st.own.ge h.hB h.ge, Nat.le_trans h.hB st.own.size, st.own.below h.fr h.hB h.ge⟩

theorem IHere.off (h : IHere S B w0 w p r T F) {v : Value} (hv : ∀ g, v.ownBlock = some g → g < B) : Off F.own v := fun g hg hF => by
  have := h.ge g hF
  have := hv g hg
  omega

/-- What is known of what was there when the program began is known still. -/
theorem IHere.ok (h : IHere S w0.heap.size w0 w p r T F) (k : S.Ok w0) : S.Ok w := S.okKept k h.fr
end

section
variable {TS : TableSpec} {S : TiersSpec TS} {B p q : Nat} {w0 w w' : World} {r r1 r' : RchL} {T T1 T' : List (List TRec)} {F F' G : TFoot}

end

theorem cell_lt {w : World} {a : Addr} {v : Value} (h : w.cell? a = some v) : a.block < w.heap.size := by
  unfold World.cell? at h
  by_cases c : a.block < w.heap.size
  · exact c
  · rw [Array.getElem?_eq_none (by omega)] at h
    cases h

/-- Cells that are there. -/
def Cs (w : World) (l : List (Addr × Value)) : Prop := ∀ x ∈ l, x.1.block < w.heap.size ∧ w.cell? x.1 = some x.2
theorem Cs.next {w w' : World} {l : List (Addr × Value)} (h : Cs w l) (b : Below w.heap.size w w') : Cs w' l := fun x hx =>
  ⟨Nat.lt_of_lt_of_le (h x hx).1 b.size, (World.cell?_of_block (a := x.1) (b.block _ (h x hx).1)).trans (h x hx).2⟩
theorem Cs.nil (w : World) : Cs w [] := fun _ h => absurd h List.not_mem_nil
theorem Cs.cons {w : World} {a : Addr} {v : Value} {l : List (Addr × Value)} (h1 : a.block < w.heap.size) (h2 : w.cell? a = some v) (h : Cs w l) : Cs w ((a, v) :: l) := fun x hx => by
  rcases List.mem_cons.1 hx with rfl | hx
  · exact ⟨h1, h2⟩
  · exact h x hx
theorem Cs.head {w : World} {a : Addr} {v : Value} {l : List (Addr × Value)} (h : Cs w ((a, v) :: l)) : w.cell? a = some v := (h _ (List.mem_cons_self ..)).2
theorem Cs.tail {w : World} {a : Addr} {v : Value} {l : List (Addr × Value)} (h : Cs w ((a, v) :: l)) : Cs w l := fun x hx => h x (List.mem_cons_of_mem _ hx)

end Go.Proofs.YtbhcafginmkaaaaGreat

namespace Go.Proofs.YtbhcafginmkaaaaGreat
open Go.RowKit Go.Lib

/-- Does a plan fit tiers? -/
def MFits (pl : PlanL) (r : RchL) (n : Nat) : Prop := (pCheck pl.1).1 = 0 ∧ pl.2.length = pl.1.2.length ∧ ∀ (j : Nat) (x : TierL), pl.1.2[j]? = some x → 0 ≤ mSrc pl j ∧ (mSrc pl j).toNat < n ∧ gOn x.2.1 (tEv r (mSrc pl j).toNat) = true

/-- What is to be: the reach, the tables. -/
def mTo (pl : PlanL) (r : RchL) : RchL := (r.1, pl.1, mBases pl r)
def mTab (pl : PlanL) (r : RchL) (T : List (List TRec)) (j : Nat) (x : TierL) : List TRec := tRoll (tEv r (mSrc pl j).toNat) (T.getD (mSrc pl j).toNat []) x.2.1 (rFromN (mTo pl r) j)
def mBuilt (pl : PlanL) (r : RchL) (T : List (List TRec)) : List (List TRec) := pl.1.2.mapIdx (mTab pl r T)

/-- What was made by adding is what comes of adding it. -/
theorem tAdds_self {L : List TRec} {e : Int} (h : TMade L e) : tAdds e [] L = L := by
  refine tables_same (tAdds_sorted sorted_nil) h.so (tAdds_all all_nil (fun x hx => (h.al x hx).2)) h.al fun P => ?_
  rw [tW_of (fun x hx => (h.al x hx).2), List.filter_eq_self.2 (fun x hx => h.ok x hx)]

end Go.Proofs.YtbhcafginmkaaaaGreat
