/-
  A bundle of texts: IMO IPS IAL.
-/
import Derived.Deep.RegionHeld3
import Derived.Test.YtnohmloilcpmiaaQ21
import Derived.Test.YtnohmloilcpmiaaQ22
import Derived.Test.YtnohmloilcpmiaaQ23
import Derived.Test.YtnohmloilcpmiaaQ17
import Derived.Test.YtnohmloilcpmiaaQ10
namespace Go.Proofs.Ytnohmloilcpmiaa
open Go.RowKit Go.Lib

/-- The ticks of a tier's buckets. -/
def tEv (r : RchL) (i : Nat) : Int := match r.2.1.2[i]? with | some t => t.2.1 | none => 1

/-- Does a tier have a sample's bucket? -/
def iHas (r : RchL) (i : Nat) (s : SamL) : Bool := (rStart r (i : Int) s.2.1).2
/-- A sample as a tier's record. -/
def iRec (r : RchL) (i : Nat) (s : SamL) : TRec := ⟨s.1, (rStart r (i : Int) s.2.1).1, agOf [s.2.2]⟩
/-- What comes of samples in a tier. -/
def iRecs (r : RchL) (i : Nat) (ss : List SamL) : List TRec := (ss.filter (iHas r i)).map (iRec r i)

/-- The tables behind samples that were put. -/
def iPut (r : RchL) (T : List (List TRec)) (ss : List SamL) : List (List TRec) := T.mapIdx fun i l => tAdds (tEv r i) l (iRecs r i ss)
/-- What hinders samples: the first error. -/
def iTakes (r : RchL) (ss : List SamL) : Int := ((ss.map fun s => rTakes r s.1 s.2.1).find? fun e => !decide (e = 0)).getD 0
def iCheck (r : RchL) (ss : List SamL) : Int := if ss = [] then 1 else if 8 < ss.length then 2 else iTakes r ss

/-- The clock's end. -/
def maxT : Int := 1099511627776
def iTickE (r : RchL) (n : Int) : Int := if n < 0 then 1 else if maxT - r.1 < n then 26 else 0
def iNow (r : RchL) (n : Int) : RchL := (r.1 + n, r.2)
/-- Each table lets go of what its tier has no more. -/
def iKeep (r : RchL) (T : List (List TRec)) : List (List TRec) := T.mapIdx fun i l => tKeep l (rFromN r i)

def iAskE (n : ByteArray) (f t : Int) : Int := if nOk n = false ∨ f < 0 ∨ t < f then 1 else 0

/-- Is a floor none, or not on its tier's grid? -/
def flBad (fl : List Int) (l : List TierL) : Bool := (fl.zip l).any fun x => decide (x.1 < 0) || !gOn x.1 x.2.2.1
/-- New's error. -/
def iNewE (p : PolL) (now : Int) (fl : List Int) : Int :=
  if (pCheck p).1 ≠ 0 then (pCheck p).1 else if now < 0 ∨ maxT < now ∨ p.2.length < fl.length ∨ flBad fl p.2 = true then 1 else 0

def iLen (T : List (List TRec)) : Nat := (T.map List.length).sum

/-- What is known of tiers. -/
structure IGood (r : RchL) (T : List (List TRec)) : Prop where
  n0 : 0 ≤ r.1
  n1 : r.1 ≤ maxT
  chk : (pCheck r.2.1).1 = 0
  fl : r.2.2.length ≤ r.2.1.2.length
  flo : ∀ (i : Nat) (f : Int) (t : TierL), r.2.2[i]? = some f → r.2.1.2[i]? = some t → 0 ≤ f ∧ gOn f t.2.1 = true
  len : T.length = r.2.1.2.length
  made : ∀ (i : Nat) l, T[i]? = some l → TMade l (tEv r i)
  fit : ∀ (i : Nat) l, T[i]? = some l → ∀ x ∈ l, TFit x
  above : ∀ (i : Nat) l, T[i]? = some l → ∀ x ∈ l, rFromN r i ≤ x.s

section
variable {r : RchL} {T : List (List TRec)}

theorem IGood.tier (h : IGood r T) {i : Nat} {l : List TRec} (hl : T[i]? = some l) : ∃ t, r.2.1.2[i]? = some t ∧ tEv r i = t.2.1 ∧ 1 ≤ t.2.1 := by
  have hi := (List.getElem?_eq_some_iff.1 hl).1
  obtain ⟨t, ht⟩ : ∃ t, r.2.1.2[i]? = some t := ⟨_, List.getElem?_eq_getElem (by rw [← h.len]; exact hi)⟩
  exact ⟨t, ht, by unfold tEv; rw [ht], (tier_known h.chk ht).1⟩

theorem IGood.ev {i : Nat} (h : IGood r T) (hi : i < T.length) : ∃ t, r.2.1.2[i]? = some t ∧ tEv r i = t.2.1 := by
  obtain ⟨t, ht, e, _⟩ := h.tier (List.getElem?_eq_getElem hi)
  exact ⟨t, ht, e⟩
end

/-- A sample such as memory can hold. -/
def SFit (s : SamL) : Prop := s.1.size ≤ maxLen ∧ TIn64 s.2.1 ∧ TIn64 s.2.2

theorem iRec_fit {r : RchL} {T : List (List TRec)} (h : IGood r T) {i : Nat} (hi : i < T.length) {s : SamL} (hs : SFit s) (ht : 0 ≤ s.2.1) : TFit (iRec r i s) := by
  obtain ⟨t, ht', _, he⟩ := h.tier (List.getElem?_eq_getElem hi)
  refine ⟨hs.1, ?_, (agOf_good (fun x hx => by rw [List.mem_singleton.1 hx]; exact hs.2.2)).1⟩
  have e : (rStart r (i : Int) s.2.1).1 = gFloor s.2.1 t.2.1 := by
    unfold rStart
    rw [if_neg (by omega), show ((i : Int).toNat) = i by omega, ht']
  show TIn64 (rStart r (i : Int) s.2.1).1
  rw [e]
  have f1 := gFloor_plain0 ht he
  have f2 := gPast_bounds s.2.1 he
  have f3 : gPast s.2.1 t.2.1 ≤ s.2.1 := past_le he ht
  have f4 := hs.2.1
  unfold TIn64 at *
  omega

/-- Samples that all may come. -/
theorem iTakes_zero {r : RchL} {ss : List SamL} : iTakes r ss = 0 ↔ ∀ s ∈ ss, rTakes r s.1 s.2.1 = 0 := by
  unfold iTakes
  induction ss with
  | nil => exact ⟨fun _ s hs => absurd hs List.not_mem_nil, fun _ => rfl⟩
  | cons a ss ih =>
    rw [List.map_cons, List.find?_cons]
    by_cases h : rTakes r a.1 a.2.1 = 0
    · rw [show (!decide (rTakes r a.1 a.2.1 = 0)) = false by simp [h]]
      simp only
      rw [ih]
      constructor
      · intro k s hs
        rcases List.mem_cons.1 hs with rfl | hs
        · exact h
        · exact k s hs
      · exact fun k s hs => k s (List.mem_cons_of_mem _ hs)
    · rw [show (!decide (rTakes r a.1 a.2.1 = 0)) = true by simp [h]]
      simp only [Option.getD_some]
      exact ⟨fun k => absurd k h, fun k => absurd (k a (List.mem_cons_self ..)) h⟩

theorem rTakes_ok {r : RchL} {n : ByteArray} {t : Int} (h : rTakes r n t = 0) : nOk n = true ∧ 0 ≤ t ∧ t ≤ r.1 ∧ r.2.1.2 ≠ [] ∧ rFromN r 0 ≤ t := by
  unfold rTakes at h
  split at h
  · cases h
  · split at h
    · cases h
    · split at h
      · cases h
      · rename_i h1 h2 h3
        simp only [not_or, Bool.not_eq_false, Int.not_lt] at h1 h2 h3
        exact ⟨h1.1, h1.2, h2, h3.1, h3.2⟩

theorem mapIdx_at {α β : Type} {f : Nat → α → β} {L : List α} {i : Nat} {y : β} (h : (L.mapIdx f)[i]? = some y) : ∃ x, L[i]? = some x ∧ y = f i x := by
  rw [List.getElem?_mapIdx] at h
  cases hl : L[i]? with
  | none => rw [hl] at h; cases h
  | some x => rw [hl] at h; exact ⟨x, rfl, (Option.some.inj h).symm⟩

section
variable {r : RchL} {T : List (List TRec)}

/-- Time goes on. -/
theorem IGood.tick (h : IGood r T) {n : Int} (n0 : 0 ≤ n) (n1 : n ≤ maxT - r.1) : IGood (iNow r n) (iKeep (iNow r n) T) where
  n0 := by have := h.n0; show 0 ≤ r.1 + n; omega
  n1 := by show r.1 + n ≤ maxT; omega
  chk := h.chk
  fl := h.fl
  flo := h.flo
  len := by unfold iKeep; rw [List.length_mapIdx]; exact h.len
  made i l hl := by
    obtain ⟨x, hx, rfl⟩ := mapIdx_at hl
    have m := h.made i x hx
    exact ⟨List.Pairwise.filter _ m.so, fun y hy => m.al y (List.mem_filter.1 hy).1, fun y hy => m.ok y (List.mem_filter.1 hy).1, fun y hy => m.s64 y (List.mem_filter.1 hy).1⟩
  fit i l hl := by
    obtain ⟨x, hx, rfl⟩ := mapIdx_at hl
    exact fun y hy => h.fit i x hx y (List.mem_filter.1 hy).1
  above i l hl := by
    obtain ⟨x, hx, rfl⟩ := mapIdx_at hl
    exact fun y hy => of_decide_eq_true (List.mem_filter.1 hy).2

theorem TMade.adds {e : Int} {l rs : List TRec} (h : TMade l e) (hr : ∀ x ∈ rs, TFit x) : TMade (tAdds e l rs) e :=
  ⟨tAdds_sorted h.so, tAdds_all h.al (fun x hx => (hr x hx).2.2), tAdds_ok h.ok (fun x hx => (hr x hx).2.2) h.al, tAdds_s h.s64 (fun x hx => (hr x hx).2.1)⟩

/-- Samples come. -/
theorem IGood.put (h : IGood r T) {ss : List SamL} (hs : ∀ s ∈ ss, SFit s) (ht : ∀ s ∈ ss, rTakes r s.1 s.2.1 = 0) : IGood r (iPut r T ss) := by
  have hrf : ∀ i, i < T.length → ∀ x ∈ iRecs r i ss, TFit x ∧ rFromN r i ≤ x.s := fun i hi x hx => by
    obtain ⟨s, hs', rfl⟩ := List.mem_map.1 hx
    obtain ⟨h1, h2⟩ := List.mem_filter.1 hs'
    refine ⟨iRec_fit h hi (hs s h1) (rTakes_ok (ht s h1)).2.1, ?_⟩
    obtain ⟨t, ht', _⟩ := h.ev hi
    have h2 : (rStart r (i : Int) s.2.1).2 = true := h2
    show rFromN r i ≤ (rStart r (i : Int) s.2.1).1
    unfold rStart at h2 ⊢
    rw [if_neg (by have := (rTakes_ok (ht s h1)).2.1; omega), show ((i : Int).toNat) = i by omega, ht'] at h2 ⊢
    exact of_decide_eq_true h2
  have hlt : ∀ i l, T[i]? = some l → i < T.length := fun i l hl => (List.getElem?_eq_some_iff.1 hl).1
  exact {
    n0 := h.n0, n1 := h.n1, chk := h.chk, fl := h.fl, flo := h.flo
    len := by unfold iPut; rw [List.length_mapIdx]; exact h.len
    made := fun i l hl => by
      obtain ⟨x, hx, rfl⟩ := mapIdx_at hl
      exact (h.made i x hx).adds (fun y hy => (hrf i (hlt i x hx) y hy).1)
    fit := fun i l hl => by
      obtain ⟨x, hx, rfl⟩ := mapIdx_at hl
      have m := h.made i x hx
      intro y hy
      have a := tAdds_all (e := tEv r i) m.al (fun z hz => ((hrf i (hlt i x hx) z hz).1).2.2) y hy
      have k := tAdds_s (Q := fun s => TIn64 s) m.s64 (fun z hz => (hrf i (hlt i x hx) z hz).1.2.1) y hy
      have b := (m.adds (fun z hz => (hrf i (hlt i x hx) z hz).1)).name hy
      exact ⟨by have := b.2; unfold maxLen; omega, k, a.2⟩
    above := fun i l hl => by
      obtain ⟨x, hx, rfl⟩ := mapIdx_at hl
      exact fun y hy => tAdds_s (Q := fun s => rFromN r i ≤ s) (h.above i x hx) (fun z hz => (hrf i (hlt i x hx) z hz).2) y hy }
end

/-- New ones. -/
theorem IGood.new {p : PolL} {now : Int} {fl : List Int} (h : iNewE p now fl = 0) : IGood (now, p, fl) (List.replicate p.2.length []) := by
  unfold iNewE at h
  split at h
  · rename_i c
    exact absurd h c
  · rename_i c
    split at h
    · cases h
    · rename_i d
      simp only [not_or, Int.not_lt, Nat.not_lt] at d
      obtain ⟨d1, d2, d3, d4⟩ := d
      have nil : ∀ (i : Nat) (l : List TRec), (List.replicate p.2.length ([] : List TRec))[i]? = some l → l = [] := fun i l hl => by
        rw [List.getElem?_replicate] at hl
        split at hl
        · exact (Option.some.inj hl).symm
        · cases hl
      exact {
        n0 := d1, n1 := d2, chk := by simpa using c, fl := d3
        flo := fun i f t hf ht => by
          have hz : (fl.zip p.2)[i]? = some (f, t) := List.getElem?_zip_eq_some.2 ⟨hf, ht⟩
          have hb : flBad fl p.2 = false := by simpa using d4
          have := (List.any_eq_false.1 hb) (f, t) (List.mem_of_getElem? hz)
          simp only [Bool.or_eq_true, decide_eq_true_eq, not_or, Bool.not_eq_true', Bool.not_eq_false] at this
          exact ⟨by omega, this.2⟩
        len := List.length_replicate
        made := fun i l hl => by
          rw [nil i l hl]
          exact ⟨sorted_nil, all_nil, fun _ hx => absurd hx List.not_mem_nil, fun _ hx => absurd hx List.not_mem_nil⟩
        fit := fun i l hl => by rw [nil i l hl]; exact fun _ hx => absurd hx List.not_mem_nil
        above := fun i l hl => by rw [nil i l hl]; exact fun _ hx => absurd hx List.not_mem_nil }

end Go.Proofs.Ytnohmloilcpmiaa

namespace Go.Proofs.Ytnohmloilcpmiaa
open Go.RowKit Go.Lib

/-- The records of a tier; none of one that is none. -/
def iTab (T : List (List TRec)) (i : Int) : List TRec := if i < 0 then [] else T.getD i.toNat []

/-- An answer. -/
abbrev ansVal (t : Int) (u : Value) : Value := .agg #[.int .i64 t, u]

/-- The document's words on each call; Ok: what was there when the program began. -/
structure TiersSpec (TS : TableSpec) where
  Ok : World → Prop
  okKept : ∀ {w w'}, Ok w → Below w.heap.size w w' → Ok w'
  Rep : World → Nat → RchL → List (List TRec) → TFoot → Prop
  lt : ∀ {w p r T F}, Rep w p r T F → ∀ k, F.all k → k < w.heap.size
  sub : ∀ {w p r T F}, Rep w p r T F → ∀ k, F.own k → F.all k
  kept : ∀ {w w' p r T F}, Rep w p r T F → w.heap.size ≤ w'.heap.size → (∀ k, F.all k → w'.heap[k]? = w.heap[k]?) → Rep w' p r T F
  good : ∀ {w p r T F}, Rep w p r T F → IGood r T
  fit : ∀ {w p r T F}, Rep w p r T F → RFit r
  cells : ∀ {w p r T F}, Rep w p r T F → ∃ s f, w.cell? ⟨p, 0, none⟩ = some (.int .i64 r.1) ∧ w.cell? ⟨p, 1, none⟩ = some (.string r.2.1.1) ∧ w.cell? ⟨p, 2, none⟩ = some s ∧ w.cell? ⟨p, 3, none⟩ = some f ∧ RchRow w (rVal r s f) r
  new : ∀ (v f : Value) (p : PolL) (now : Int) (fl : List Int) (w : World), Ok w → PolRow w v p → p.1.size ≤ 60 → p.2.length ≤ 10 → (∀ x ∈ p.2, x.1.size ≤ 60 ∧ In64 x.2.1 ∧ In64 x.2.2.1 ∧ In64 x.2.2.2) → In64 now → CellRow w f fl.length (fl.map (Value.int .i64)) → CapOk f → fl.length ≤ 1000 → (∀ x ∈ fl, In64 x) →
    Calls Try.prog 7 #[v, .int .i64 now, f] w fun x w' => (iNewE p now fl = 0 → ∃ q F, x = .returned (.tuple #[tptr q, .int .i64 0]) ∧ Rep w' q (now, p, fl) (List.replicate p.2.length []) F ∧ (∀ k, F.all k → w.heap.size ≤ k)) ∧ (iNewE p now fl ≠ 0 → x = .returned (.tuple #[.pointer none, .int .i64 (iNewE p now fl)])) ∧ Below w.heap.size w w'
  put : ∀ {w p r T F} (v : Value) (ss : List SamL), Ok w → Rep w p r T F → (∀ l ∈ T, l.length + 8 ≤ 1000) → CellRow w v ss.length (flat aenc ss) → CapOk v → ss.length ≤ 1000 → (ss ≠ [] → Off F.own v) → (∀ s ∈ ss, SFit s) →
    Calls Try.prog 8 #[tptr p, v] w fun x w' => x = .returned (.int .i64 (iCheck r ss)) ∧ ∃ F', Rep w' p r (if iCheck r ss = 0 then iPut r T ss else T) F' ∧ TStep F F' w w'
  tick : ∀ {w p r T F} (n : Int), Ok w → Rep w p r T F → (∀ l ∈ T, l.length ≤ 1000) → In64 n →
    Calls Try.prog 9 #[tptr p, .int .i64 n] w fun x w' => x = .returned (.int .i64 (iTickE r n)) ∧ ∃ F', Rep w' p (if iTickE r n = 0 then iNow r n else r) (if iTickE r n = 0 then iKeep (iNow r n) T else T) F' ∧ TStep F F' w w'
  ask : ∀ {w p r T F} (n : ByteArray) (f t : Int), Ok w → Rep w p r T F → (∀ l ∈ T, l.length ≤ 1000) → n.size ≤ 1000 → In64 f → In64 t →
    Calls Try.prog 10 #[tptr p, .string n, .int .i64 f, .int .i64 t] w fun x w' => ∃ u, (iAskE n f t = 0 → x = .returned (.tuple #[ansVal (rCover r f) u, .int .i64 0]) ∧ w'.ownsRow w.heap.size 47 7 u (tRange (iTab T (rCover r f)) n f t).length (flat renc ((tRange (iTab T (rCover r f)) n f t).map rl))) ∧ (iAskE n f t ≠ 0 → x = .returned (.tuple #[ansVal 0 u, .int .i64 (iAskE n f t)]) ∧ w'.ownsRow w.heap.size 47 7 u 0 []) ∧ Below w.heap.size w w'
  len : ∀ {w p r T F}, Ok w → Rep w p r T F → (∀ l ∈ T, l.length ≤ 1000) → Calls Try.prog 17 #[tptr p] w fun x w' => x = .returned (.int .i64 (iLen T : Nat)) ∧ Below w.heap.size w w'

/-- Tiers of one's own, above B; below B all is as it was. -/
structure IHere {TS : TableSpec} (S : TiersSpec TS) (B : Nat) (w0 w : World) (p : Nat) (r : RchL) (T : List (List TRec)) (F : TFoot) : Prop where
  rep : S.Rep w p r T F
  ge : ∀ k, F.own k → B ≤ k
  hB : B ≤ w.heap.size
  fr : Below B w0 w

section
variable {TS : TableSpec} {S : TiersSpec TS} {B p : Nat} {w0 w w' : World} {r r' : RchL} {T T' : List (List TRec)} {F F' : TFoot}

theorem IHere.next (h : IHere S B w0 w p r T F) (b : Below w.heap.size w w') : IHere S B w0 w' p r T F :=
  ⟨S.kept h.rep b.size (fun k hk => b.block k (S.lt h.rep k hk)), h.ge, Nat.le_trans h.hB b.size, h.fr.trans (b.mono h.hB)⟩

theorem IHere.step (h : IHere S B w0 w p r T F) (x : S.Rep w' p r' T' F') (st : TStep F F' w w') : IHere S B w0 w' p r' T' F' :=
  ⟨x, st.own.ge h.hB h.ge, Nat.le_trans h.hB st.own.size, st.own.below h.fr h.hB h.ge⟩

theorem IHere.off (h : IHere S B w0 w p r T F) {v : Value} (hv : ∀ g, v.ownBlock = some g → g < B) : Off F.own v := fun g hg hF => by
  have := h.ge g hF
  have := hv g hg
  omega

/-- What is known of what was there when the program began is known still. -/
theorem IHere.ok (h : IHere S w0.heap.size w0 w p r T F) (k : S.Ok w0) : S.Ok w := S.okKept k h.fr
end

section
variable {TS : TableSpec} {S : TiersSpec TS} {B p q : Nat} {w0 w w' : World} {r r1 r' : RchL} {T T1 T' : List (List TRec)} {F F' G : TFoot}

end

/-- A list that came in is none that tiers of one's own write. -/
theorem off_in {w0 : World} {v : Value} {n : Nat} {xs : List Value} {F : Nat → Prop} (h : CellRow w0 v n xs) (hx : xs ≠ []) (hF : ∀ k, F k → w0.heap.size ≤ k) : Off F v := fun g hg hf => by
  obtain ⟨a, c, rfl, hc⟩ := h
  rcases hc with hc | ⟨b, o, rfl, hlt, _⟩
  · exact hx hc
  · simp [Value.ownBlock] at hg
    have := hF g hf
    omega

theorem cell_lt {w : World} {a : Addr} {v : Value} (h : w.cell? a = some v) : a.block < w.heap.size := by
  unfold World.cell? at h
  by_cases c : a.block < w.heap.size
  · exact c
  · rw [Array.getElem?_eq_none (by omega)] at h
    cases h

/-- Cells that are there. -/
def Cs (w : World) (l : List (Addr × Value)) : Prop := ∀ x ∈ l, x.1.block < w.heap.size ∧ w.cell? x.1 = some x.2
theorem Cs.next {w w' : World} {l : List (Addr × Value)} (h : Cs w l) (b : Below w.heap.size w w') : Cs w' l := fun x hx =>
  ⟨Nat.lt_of_lt_of_le (h x hx).1 b.size, (World.cell?_of_block (a := x.1) (b.block _ (h x hx).1)).trans (h x hx).2⟩
theorem Cs.nil (w : World) : Cs w [] := fun _ h => absurd h List.not_mem_nil
theorem Cs.cons {w : World} {a : Addr} {v : Value} {l : List (Addr × Value)} (h1 : a.block < w.heap.size) (h2 : w.cell? a = some v) (h : Cs w l) : Cs w ((a, v) :: l) := fun x hx => by
  rcases List.mem_cons.1 hx with rfl | hx
  · exact ⟨h1, h2⟩
  · exact h x hx
theorem Cs.head {w : World} {a : Addr} {v : Value} {l : List (Addr × Value)} (h : Cs w ((a, v) :: l)) : w.cell? a = some v := (h _ (List.mem_cons_self ..)).2
theorem Cs.tail {w : World} {a : Addr} {v : Value} {l : List (Addr × Value)} (h : Cs w ((a, v) :: l)) : Cs w l := fun x hx => h x (List.mem_cons_of_mem _ hx)

theorem iPut_le {r : RchL} {T : List (List TRec)} {ss : List SamL} {m : Nat} (h : ∀ l ∈ T, l.length ≤ m) : ∀ l ∈ iPut r T ss, l.length ≤ m + ss.length := by
  intro l hl
  obtain ⟨i, hi⟩ := List.getElem?_of_mem hl
  obtain ⟨x, hx, rfl⟩ := mapIdx_at hi
  have h1 := tAdds_len (tEv r i) x (iRecs r i ss)
  have h2 := h x (List.mem_of_getElem? hx)
  have h3 : (iRecs r i ss).length ≤ ss.length := by unfold iRecs; rw [List.length_map]; exact List.length_filter_le ..
  omega
theorem iKeep_le {r : RchL} {T : List (List TRec)} {m : Nat} (h : ∀ l ∈ T, l.length ≤ m) : ∀ l ∈ iKeep r T, l.length ≤ m := by
  intro l hl
  obtain ⟨i, hi⟩ := List.getElem?_of_mem hl
  obtain ⟨x, hx, rfl⟩ := mapIdx_at hi
  exact Nat.le_trans (List.length_filter_le ..) (h x (List.mem_of_getElem? hx))

end Go.Proofs.Ytnohmloilcpmiaa

namespace Go.Proofs.Ytnohmloilcpmiaa
open Go.RowKit Go.Lib

def aRch : RchL := (25, webPol, [])
def aSams : List SamL := [(⟨#[97]⟩, 21, 4), (⟨#[97]⟩, 25, 6)]
def g4 : Ag := ⟨1, 0, 4, 4, 4⟩
def g6 : Ag := ⟨1, 0, 6, 6, 6⟩
def g46 : Ag := ⟨2, 0, 10, 4, 6⟩
def aT0 : List TRec := [⟨⟨#[97]⟩, 21, g4⟩, ⟨⟨#[97]⟩, 25, g6⟩]
def aT : List (List TRec) := [aT0, [⟨⟨#[97]⟩, 20, g46⟩]]

theorem ia_new : iNewE webPol 25 [] = 0 := by decide +kernel
theorem ia_check : iCheck aRch aSams = 0 := by decide +kernel
theorem ia_put : iPut aRch [[], []] aSams = aT := by kernel_rfl
theorem ia_ask : iAskE ⟨#[97]⟩ 20 30 = 0 := by decide +kernel
theorem ia_cover : rCover aRch 20 = 0 := by decide +kernel
theorem ia_range : tRange (iTab aT 0) ⟨#[97]⟩ 20 30 = aT0 := by kernel_rfl
theorem ia_len : iLen aT = 3 := by kernel_rfl
theorem of_6 : agOf [6] = g6 := by kernel_rfl
theorem ia_fit : ∀ s ∈ aSams, SFit s := by
  intro s hs
  simp only [aSams, List.mem_cons, List.not_mem_nil, or_false] at hs
  rcases hs with rfl | rfl
  all_goals exact ⟨by unfold maxLen; decide, by unfold TIn64; decide, by unfold TIn64; decide⟩

theorem ia_row (w : World) (t : TypeId) : CellRow (w.alloc (.cells #[.string ⟨#[97]⟩, .int .i64 21, .int .i64 4, .string ⟨#[97]⟩, .int .i64 25, .int .i64 6] t)) (.slice (some ⟨w.heap.size, 0, none⟩) 2 2) aSams.length (flat aenc aSams) :=
  ⟨_, _, rfl, .inr ⟨_, 0, rfl, by simp, new_cells w _ t⟩⟩

set_option maxRecDepth 20000 in
set_option maxHeartbeats 6400000 in
theorem tiersAlive_any {TS : TableSpec} (S : TiersSpec TS) (w : World) (hS : S.Ok w) : Calls Try.prog 6 #[] w fun e w' => e = .returned (.bool true) ∧ Below w.heap.size w w' := by
  have OK := Hid.of hS
  clear hS
  go_enter Try.func6, Try.ntmps6
  go_wp2_with fail
  refine (Web_any _).mono ?_
  rintro e w1 ⟨v, rfl, pr, b1⟩
  have B1 := Hid.of b1
  have hnew := S.new v (.slice none 0 0) webPol 25 [] w1 (S.okKept OK.out b1) pr (by decide) (by decide) (by
    intro x hx
    have h := web_fit.2.2 x hx
    refine ⟨?_, h.2⟩
    simp only [webPol, List.mem_cons, List.not_mem_nil, or_false] at hx
    rcases hx with rfl | rfl <;> decide) ⟨by decide, by decide⟩ ⟨_, _, rfl, .inl rfl⟩ (Nat.le_refl _) (by decide) (fun x hx => absurd hx List.not_mem_nil)
  clear pr b1
  go_wp2_with fail
  refine hnew.mono ?_
  rintro e w2 ⟨h1, -, b2⟩
  obtain ⟨p, F, rfl, rep, hF⟩ := h1 ia_new
  have H2 : Hid (IHere S w.heap.size w w2 p aRch [[], []] F) := Hid.of ⟨rep, fun k hk => Nat.le_trans B1.out.size (hF k (S.sub rep k hk)), Nat.le_trans B1.out.size b2.size, B1.out.trans (b2.mono B1.out.size)⟩
  clear rep hF b2 hnew B1 h1
  go_wp2_with fail
  obtain ⟨g0, hg0⟩ : ∃ g, w2.heap.size = g := ⟨_, rfl⟩
  obtain ⟨w3, hw3⟩ : ∃ w3, w2.alloc (.cells #[.string ⟨#[97]⟩, .int .i64 21, .int .i64 4, .string ⟨#[97]⟩, .int .i64 25, .int .i64 6] 63) = w3 := ⟨_, rfl⟩
  have b3 : Below w2.heap.size w2 w3 := by rw [← hw3]; exact (Below.refl _ _).alloc (Nat.le_refl _) _
  have hrow : CellRow w3 (.slice (some ⟨g0, 0, none⟩) 2 2) aSams.length (flat aenc aSams) := by rw [← hw3, ← hg0]; exact ia_row w2 _
  have H3 := Hid.of (H2.out.next b3)
  have hoff : Off F.own (.slice (some ⟨g0, 0, none⟩) 2 2) := fun g hg hF => by
    have := S.lt H2.out.rep g (S.sub H2.out.rep g hF)
    simp [Value.ownBlock] at hg
    omega
  rw [hw3, hg0]
  refine (S.put _ aSams (H3.out.ok OK.out) H3.out.rep (by intro l hl; simp only [List.mem_cons, List.not_mem_nil, or_false] at hl; rcases hl with rfl | rfl <;> decide) hrow (Nat.le_refl _) (by decide) (fun _ => hoff) ia_fit).mono ?_
  rintro e w4 ⟨rfl, F4, rep4, st4⟩
  rw [if_pos ia_check, ia_put] at rep4
  have H4 := Hid.of (H3.out.step rep4 st4)
  clear hw3 hg0 b3 hrow hoff rep4 st4 H2 H3
  rw [ia_check]
  go_wp2_with fail
  refine (S.ask ⟨#[97]⟩ 20 30 (H4.out.ok OK.out) H4.out.rep (by intro l hl; simp only [aT, aT0, List.mem_cons, List.not_mem_nil, or_false] at hl; rcases hl with rfl | rfl <;> decide) (by decide) ⟨by decide, by decide⟩ ⟨by decide, by decide⟩).mono ?_
  rintro e w5 ⟨u, h1, -, b5⟩
  obtain ⟨rfl, o5⟩ := h1 ia_ask
  rw [ia_cover] at o5 ⊢
  rw [ia_range] at o5
  have hrow := own_row o5
  obtain ⟨ua, uc, hu, -⟩ := own_one o5
  subst hu
  have hrow2 : CellRow w5 (.slice ua 2 uc) 2 (flat renc (aT0.map rl)) := hrow
  obtain ⟨b, o, hua, hb, x0, x1, -⟩ := r_at hrow2 0 (rl ⟨⟨#[97]⟩, 21, g4⟩) rfl
  obtain ⟨b', o', hua', hb', y0, y1, y2, y3, y4, y5, y6⟩ := r_at hrow2 1 (rl ⟨⟨#[97]⟩, 25, g6⟩) rfl
  rw [hua] at hua'
  obtain ⟨rfl, rfl⟩ : b' = b ∧ o' = o := by
    have := Option.some.inj hua'
    simp only [Addr.mk.injEq] at this
    exact ⟨this.1.symm, this.2.1.symm⟩
  subst hua
  have H5 := Hid.of (H4.out.next b5)
  obtain ⟨sp, fp, p0, -⟩ := S.cells H5.out.rep
  have hp : p < w5.heap.size := cell_lt p0
  have o1 : o' + 0 * 7 + 1 = o' + 1 := by omega
  have CS5 : Hid (Cs w5 [(⟨b', o' + 1, none⟩, .int .i64 21), (⟨b', o' + 1 * 7 + 2, none⟩, .int .i64 1), (⟨b', o' + 1 * 7 + 3, none⟩, .int .i64 0), (⟨b', o' + 1 * 7 + 4, none⟩, .int .u64 6), (⟨b', o' + 1 * 7 + 5, none⟩, .int .i64 6), (⟨b', o' + 1 * 7 + 6, none⟩, .int .i64 6), (⟨p, 0, none⟩, .int .i64 25)]) :=
    Hid.of (.cons hb (by rw [← o1]; exact x1) (.cons hb y2 (.cons hb y3 (.cons hb y4 (.cons hb y5 (.cons hb y6 (.cons hp p0 (.nil _))))))))
  clear o5 hrow hrow2 b5 h1 x0 x1 y0 y1 y2 y3 y4 y5 y6 p0 hp hb hb' hua' o1 H4
  rw [show aT0.length = 2 from rfl]
  go_upto_region 5 with fail
  obtain ⟨z, hz⟩ : ∃ z, w5.heap.size = z := ⟨_, rfl⟩
  obtain ⟨w6, hw6⟩ : ∃ w6, w5.alloc (.cells #[.int .i64 0, .slice (some ⟨b', o', none⟩) 2 uc] 40) = w6 := ⟨_, rfl⟩
  have b6 : Below w5.heap.size w5 w6 := by rw [← hw6]; exact (Below.refl _ _).alloc (Nat.le_refl _) _
  have hz6 : w6.heap[z]? = some (.cells #[.int .i64 0, .slice (some ⟨b', o', none⟩) 2 uc] 40) := by rw [← hw6, ← hz]; exact (MapKept.heap_alloc w5 _).1
  have zl : z < w6.heap.size := (Array.getElem?_eq_some_iff.1 hz6).1
  have CS6 : Hid (Cs w6 [(⟨z, 0, none⟩, .int .i64 0), (⟨z, 1, none⟩, .slice (some ⟨b', o', none⟩) 2 uc), (⟨b', o' + 1, none⟩, .int .i64 21), (⟨b', o' + 1 * 7 + 2, none⟩, .int .i64 1), (⟨b', o' + 1 * 7 + 3, none⟩, .int .i64 0), (⟨b', o' + 1 * 7 + 4, none⟩, .int .u64 6), (⟨b', o' + 1 * 7 + 5, none⟩, .int .i64 6), (⟨b', o' + 1 * 7 + 6, none⟩, .int .i64 6), (⟨p, 0, none⟩, .int .i64 25)]) :=
    Hid.of (.cons zl (by simp [World.cell?, hz6]) (.cons zl (by simp [World.cell?, hz6]) (CS5.out.next b6)))
  have H6 := Hid.of (H5.out.next b6)
  rw [hw6, hz]
  clear hw6 hz b6 hz6 zl H5 CS5
  have c0 := (CS6.out).head
  have c1 := ((CS6.out).tail).head
  have c2 := (((CS6.out).tail).tail).head
  have c3 := ((((CS6.out).tail).tail).tail).head
  have c4 := (((((CS6.out).tail).tail).tail).tail).head
  have c5 := ((((((CS6.out).tail).tail).tail).tail).tail).head
  have c6 := (((((((CS6.out).tail).tail).tail).tail).tail).tail).head
  have c7 := ((((((((CS6.out).tail).tail).tail).tail).tail).tail).tail).head
  have c8 := (((((((((CS6.out).tail).tail).tail).tail).tail).tail).tail).tail).head
  refine wp_region_noPanic ?_
  refine wp_region_held_drew (S := fun w' => w'.cell? ⟨z, 0, none⟩ = some (.int .i64 0) ∧ w'.cell? ⟨z, 1, none⟩ = some (.slice (some ⟨b', o', none⟩) 2 uc) ∧ w'.cell? ⟨b', o' + 1, none⟩ = some (.int .i64 21) ∧ w'.cell? ⟨b', o' + 1 * 7 + 2, none⟩ = some (.int .i64 1) ∧ w'.cell? ⟨b', o' + 1 * 7 + 3, none⟩ = some (.int .i64 0) ∧ w'.cell? ⟨b', o' + 1 * 7 + 4, none⟩ = some (.int .u64 6) ∧ w'.cell? ⟨b', o' + 1 * 7 + 5, none⟩ = some (.int .i64 6) ∧ w'.cell? ⟨b', o' + 1 * 7 + 6, none⟩ = some (.int .i64 6) ∧ w'.cell? ⟨p, 0, none⟩ = some (.int .i64 25)) (by kernel_rfl) ?_ (fun hHeld => ?_)
  · exact ⟨c0, c1, c2, c3, c4, c5, c6, c7, c8⟩
  refine wpAnyH_take (i := 0) (oi := ⟨_, _, _, _, _, _⟩) (v := ?_) rfl (by kernel_rfl) (by kernel_rfl) (by kernel_rfl) (fun _ _ _ h => h) (Or.inl ⟨by rfl, ?_⟩) hHeld ?_
  rotate_left
  · intro w' hSw
    try dsimp only at hSw
    go_simp
    all_goals with_reducible rfl
  simp only [Act.put, List.setIfInBounds_toArray, List.set_cons_zero, List.set_cons_succ]
  refine wpAnyH_take (i := 1) (oi := ⟨_, _, _, _, _, _⟩) (v := ?_) rfl (by kernel_rfl) (by kernel_rfl) (by kernel_rfl) (fun _ _ _ h => h) (Or.inl ⟨by rfl, ?_⟩) hHeld ?_
  rotate_left
  · intro w' hSw
    try dsimp only at hSw
    go_simp
    all_goals with_reducible rfl
  simp only [Act.put, List.setIfInBounds_toArray, List.set_cons_zero, List.set_cons_succ]
  refine wpAnyH_take (i := 2) (oi := ⟨_, _, _, _, _, _⟩) (v := ?_) rfl (by kernel_rfl) (by kernel_rfl) (by kernel_rfl) (fun _ _ _ h => h) (Or.inl ⟨by rfl, ?_⟩) hHeld ?_
  rotate_left
  · intro w' hSw
    try dsimp only at hSw
    go_simp
    all_goals with_reducible rfl
  simp only [Act.put, List.setIfInBounds_toArray, List.set_cons_zero, List.set_cons_succ]
  refine wpAnyH_take (i := 3) (oi := ⟨_, _, _, _, _, _⟩) (v := ?_) rfl (by kernel_rfl) (by kernel_rfl) (by kernel_rfl) (fun _ _ _ h => h) (Or.inl ⟨by rfl, ?_⟩) hHeld ?_
  rotate_left
  · intro w' hSw
    try dsimp only at hSw
    go_simp
    all_goals with_reducible rfl
  simp only [Act.put, List.setIfInBounds_toArray, List.set_cons_zero, List.set_cons_succ]
  refine wpAnyH_take (i := 4) (oi := ⟨_, _, _, _, _, _⟩) (v := ?_) rfl (by kernel_rfl) (by kernel_rfl) (by kernel_rfl) (fun _ _ _ h => h) (Or.inl ⟨by rfl, ?_⟩) hHeld ?_
  rotate_left
  · intro w' hSw
    try dsimp only at hSw
    go_simp
    all_goals with_reducible rfl
  simp only [Act.put, List.setIfInBounds_toArray, List.set_cons_zero, List.set_cons_succ]
  refine wpAnyH_take (i := 5) (oi := ⟨_, _, _, _, _, _⟩) (v := ?_) rfl (by kernel_rfl) (by kernel_rfl) (by kernel_rfl) (fun _ _ _ h => h) (Or.inl ⟨by rfl, ?_⟩) hHeld ?_
  rotate_left
  · intro w' hSw
    try dsimp only at hSw
    go_simp
    all_goals with_reducible rfl
  simp only [Act.put, List.setIfInBounds_toArray, List.set_cons_zero, List.set_cons_succ]
  refine wpAnyH_take (i := 6) (oi := ⟨_, _, _, _, _, _⟩) (v := ?_) rfl (by kernel_rfl) (by kernel_rfl) (by kernel_rfl) (fun _ _ _ h => h) (Or.inl ⟨by rfl, ?_⟩) hHeld ?_
  rotate_left
  · intro w' hSw
    try dsimp only at hSw
    go_simp
    all_goals with_reducible rfl
  simp only [Act.put, List.setIfInBounds_toArray, List.set_cons_zero, List.set_cons_succ]
  refine wpAnyH_take (i := 7) (oi := ⟨_, _, _, _, _, _⟩) (v := ?_) rfl (by kernel_rfl) (by kernel_rfl) (by kernel_rfl) (fun _ _ _ h => h) (Or.inl ⟨by rfl, ?_⟩) hHeld ?_
  rotate_left
  · intro w' hSw
    try dsimp only at hSw
    go_simp
    all_goals with_reducible rfl
  simp only [Act.put, List.setIfInBounds_toArray, List.set_cons_zero, List.set_cons_succ]
  refine wpAnyH_take (i := 8) (oi := ⟨_, _, _, _, _, _⟩) (v := ?_) rfl (by kernel_rfl) (by kernel_rfl) (by kernel_rfl) (fun _ _ _ h => h) (Or.inl ⟨by rfl, ?_⟩) hHeld ?_
  rotate_left
  · intro w' hSw
    try dsimp only at hSw
    go_simp
    all_goals with_reducible rfl
  simp only [Act.put, List.setIfInBounds_toArray, List.set_cons_zero, List.set_cons_succ]
  refine wpAnyH_take (i := 9) (oi := ⟨_, _, _, _, _, _⟩) (v := ?_) rfl (by kernel_rfl) (by kernel_rfl) (by kernel_rfl) (fun _ _ _ h => h) (Or.inl ⟨by rfl, ?_⟩) hHeld ?_
  rotate_left
  · intro w' hSw
    try dsimp only at hSw
    go_simp
    all_goals with_reducible rfl
  simp only [Act.put, List.setIfInBounds_toArray, List.set_cons_zero, List.set_cons_succ]
  refine wpAnyH_take (i := 10) (oi := ⟨_, _, _, _, _, _⟩) (v := ?_) rfl (by kernel_rfl) (by kernel_rfl) (by kernel_rfl) (fun _ _ _ h => h) (Or.inl ⟨by rfl, ?_⟩) hHeld ?_
  rotate_left
  · intro w' hSw
    try dsimp only at hSw
    go_simp
    all_goals with_reducible rfl
  simp only [Act.put, List.setIfInBounds_toArray, List.set_cons_zero, List.set_cons_succ]
  refine wpAnyH_take (i := 11) (oi := ⟨_, _, _, _, _, _⟩) (v := ?_) rfl (by kernel_rfl) (by kernel_rfl) (by kernel_rfl) (fun _ _ _ h => h) (Or.inl ⟨by rfl, ?_⟩) hHeld ?_
  rotate_left
  · intro w' hSw
    try dsimp only at hSw
    go_simp
    all_goals with_reducible rfl
  simp only [Act.put, List.setIfInBounds_toArray, List.set_cons_zero, List.set_cons_succ]
  refine wpAnyH_take (i := 12) (oi := ⟨_, _, _, _, _, _⟩) (v := ?_) rfl (by kernel_rfl) (by kernel_rfl) (by kernel_rfl) (fun _ _ _ h => h) (Or.inl ⟨by rfl, ?_⟩) hHeld ?_
  rotate_left
  · intro w' hSw
    try dsimp only at hSw
    go_simp
    all_goals with_reducible rfl
  simp only [Act.put, List.setIfInBounds_toArray, List.set_cons_zero, List.set_cons_succ]
  refine wpAnyH_take (i := 13) (oi := ⟨_, _, _, _, _, _⟩) (v := ?_) rfl (by kernel_rfl) (by kernel_rfl) (by kernel_rfl) (fun _ _ _ h => h) (Or.inl ⟨by rfl, ?_⟩) hHeld ?_
  rotate_left
  · intro w' hSw
    try dsimp only at hSw
    go_simp
    all_goals with_reducible rfl
  simp only [Act.put, List.setIfInBounds_toArray, List.set_cons_zero, List.set_cons_succ]
  refine wpAnyH_take (i := 14) (oi := ⟨_, _, _, _, _, _⟩) (v := ?_) rfl (by kernel_rfl) (by kernel_rfl) (by kernel_rfl) (fun _ _ _ h => h) (Or.inl ⟨by rfl, ?_⟩) hHeld ?_
  rotate_left
  · intro w' hSw
    try dsimp only at hSw
    go_simp
    all_goals with_reducible rfl
  simp only [Act.put, List.setIfInBounds_toArray, List.set_cons_zero, List.set_cons_succ]
  refine wpAnyH_take (i := 15) (oi := ⟨_, _, _, _, _, _⟩) (v := ?_) rfl (by kernel_rfl) (by kernel_rfl) (by kernel_rfl) (fun _ _ _ h => h) (Or.inl ⟨by rfl, ?_⟩) hHeld ?_
  rotate_left
  · intro w' hSw
    try dsimp only at hSw
    go_simp
    all_goals with_reducible rfl
  simp only [Act.put, List.setIfInBounds_toArray, List.set_cons_zero, List.set_cons_succ]
  refine wpAnyH_take (i := 16) (oi := ⟨_, _, _, _, _, _⟩) (v := ?_) rfl (by kernel_rfl) (by kernel_rfl) (by kernel_rfl) (fun _ _ _ h => h) (Or.inl ⟨by rfl, ?_⟩) hHeld ?_
  rotate_left
  · intro w' hSw
    try dsimp only at hSw
    go_simp
    all_goals with_reducible rfl
  simp only [Act.put, List.setIfInBounds_toArray, List.set_cons_zero, List.set_cons_succ]
  refine wpAnyH_take (i := 17) (oi := ⟨_, _, _, _, _, _⟩) (v := ?_) rfl (by kernel_rfl) (by kernel_rfl) (by kernel_rfl) (fun _ _ _ h => h) (Or.inl ⟨by rfl, ?_⟩) hHeld ?_
  rotate_left
  · intro w' hSw
    try dsimp only at hSw
    go_simp
    all_goals with_reducible rfl
  simp only [Act.put, List.setIfInBounds_toArray, List.set_cons_zero, List.set_cons_succ]
  refine wpAnyH_take (i := 18) (oi := ⟨_, _, _, _, _, _⟩) (v := ?_) rfl (by kernel_rfl) (by kernel_rfl) (by kernel_rfl) (fun _ _ _ h => h) (Or.inl ⟨by rfl, ?_⟩) hHeld ?_
  rotate_left
  · intro w' hSw
    try dsimp only at hSw
    go_simp
    all_goals with_reducible rfl
  simp only [Act.put, List.setIfInBounds_toArray, List.set_cons_zero, List.set_cons_succ]
  refine wpAnyH_take (i := 19) (oi := ⟨_, _, _, _, _, _⟩) (v := ?_) rfl (by kernel_rfl) (by kernel_rfl) (by kernel_rfl) (fun _ _ _ h => h) (Or.inl ⟨by rfl, ?_⟩) hHeld ?_
  rotate_left
  · intro w' hSw
    try dsimp only at hSw
    go_simp
    all_goals with_reducible rfl
  simp only [Act.put, List.setIfInBounds_toArray, List.set_cons_zero, List.set_cons_succ]
  refine wpAnyH_take (i := 20) (oi := ⟨_, _, _, _, _, _⟩) (v := ?_) rfl (by kernel_rfl) (by kernel_rfl) (by kernel_rfl) (fun _ _ _ h => h) (Or.inl ⟨by rfl, ?_⟩) hHeld ?_
  rotate_left
  · intro w' hSw
    try dsimp only at hSw
    go_simp
    all_goals with_reducible rfl
  simp only [Act.put, List.setIfInBounds_toArray, List.set_cons_zero, List.set_cons_succ]
  refine wpAnyH_take (i := 21) (oi := ⟨_, _, _, _, _, _⟩) (v := ?_) rfl (by kernel_rfl) (by kernel_rfl) (by kernel_rfl) (fun _ _ _ h => h) (Or.inl ⟨by rfl, ?_⟩) hHeld ?_
  rotate_left
  · intro w' hSw
    try dsimp only at hSw
    go_simp
    all_goals with_reducible rfl
  simp only [Act.put, List.setIfInBounds_toArray, List.set_cons_zero, List.set_cons_succ]
  refine wpAnyH_take (i := 22) (oi := ⟨_, _, _, _, _, _⟩) (v := ?_) rfl (by kernel_rfl) (by kernel_rfl) (by kernel_rfl) (fun _ _ _ h => h) (Or.inl ⟨by rfl, ?_⟩) hHeld ?_
  rotate_left
  · intro w' hSw
    try dsimp only at hSw
    go_simp
    all_goals with_reducible rfl
  simp only [Act.put, List.setIfInBounds_toArray, List.set_cons_zero, List.set_cons_succ]
  refine wpAnyH_take (i := 23) (oi := ⟨_, _, _, _, _, _⟩) (v := ?_) rfl (by kernel_rfl) (by kernel_rfl) (by kernel_rfl) (fun _ _ _ h => h) (Or.inl ⟨by rfl, ?_⟩) hHeld ?_
  rotate_left
  · intro w' hSw
    try dsimp only at hSw
    go_simp
    all_goals with_reducible rfl
  simp only [Act.put, List.setIfInBounds_toArray, List.set_cons_zero, List.set_cons_succ]
  refine wpAnyH_take (i := 24) (oi := ⟨_, _, _, _, _, _⟩) (v := ?_) rfl (by kernel_rfl) (by kernel_rfl) (by kernel_rfl) (fun _ _ _ h => h) (Or.inl ⟨by rfl, ?_⟩) hHeld ?_
  rotate_left
  · intro w' hSw
    try dsimp only at hSw
    go_simp
    all_goals with_reducible rfl
  simp only [Act.put, List.setIfInBounds_toArray, List.set_cons_zero, List.set_cons_succ]
  refine wpAnyH_take (i := 25) (oi := ⟨_, _, _, _, _, _⟩) (v := ?_) rfl (by kernel_rfl) (by kernel_rfl) (by kernel_rfl) (fun _ _ _ h => h) (Or.inl ⟨by rfl, ?_⟩) hHeld ?_
  rotate_left
  · intro w' hSw
    try dsimp only at hSw
    go_simp
    all_goals with_reducible rfl
  simp only [Act.put, List.setIfInBounds_toArray, List.set_cons_zero, List.set_cons_succ]
  refine wpAnyH_take (i := 26) (oi := ⟨_, _, _, _, _, _⟩) (v := ?_) rfl (by kernel_rfl) (by kernel_rfl) (by kernel_rfl) (fun _ _ _ h => h) (Or.inl ⟨by rfl, ?_⟩) hHeld ?_
  rotate_left
  · intro w' hSw
    try dsimp only at hSw
    go_simp
    all_goals with_reducible rfl
  simp only [Act.put, List.setIfInBounds_toArray, List.set_cons_zero, List.set_cons_succ]
  refine wpAnyH_ready (rs := [27]) (by kernel_rfl) (by simp) ?_
  refine AllReadyH.cons (o := ⟨_, _, _, _, _, _⟩) rfl (fun K hK => ?_) AllReadyH.nil
  go_simp
  obtain ⟨w7, hw7⟩ : ∃ w7, (w6.alloc (.cells #[.int .i64 6] 3)).drew = w7 := ⟨_, rfl⟩
  have b7 : Below w6.heap.size w6 w7 := by rw [← hw7]; exact ((Below.refl _ _).alloc (Nat.le_refl _) _).drew
  have N7 : Hid (NumRow .i64 w7 (.slice (some ⟨w6.heap.size, 0, none⟩) 1 1) [6]) := Hid.of (by rw [← hw7]; exact num_1 w6 6 _)
  rw [hw7]
  clear hw7
  have H7 := Hid.of (H6.out.next b7)
  have CS7 := Hid.of (CS6.out.next b7)
  clear b7 hHeld c0 c1 c2 c3 c4 c5 c6 c7 c8 H6 CS6
  have c0 := (CS7.out).head
  have c1 := ((CS7.out).tail).head
  have c2 := (((CS7.out).tail).tail).head
  have c3 := ((((CS7.out).tail).tail).tail).head
  have c4 := (((((CS7.out).tail).tail).tail).tail).head
  have c5 := ((((((CS7.out).tail).tail).tail).tail).tail).head
  have c6 := (((((((CS7.out).tail).tail).tail).tail).tail).tail).head
  have c7 := ((((((((CS7.out).tail).tail).tail).tail).tail).tail).tail).head
  have c8 := (((((((((CS7.out).tail).tail).tail).tail).tail).tail).tail).tail).head
  refine hK.out _ _ ⟨c0, c1, c2, c3, c4, c5, c6, c7, c8⟩ (fun hHeld => ?_)
  clear hK K
  try simp only [Act.put, List.setIfInBounds_toArray, List.set_cons_zero, List.set_cons_succ]
  refine wpAnyH_ready (rs := [28]) (by kernel_rfl) (by simp) ?_
  refine AllReadyH.cons (o := ⟨_, _, _, _, _, _⟩) rfl (fun K hK => ?_) AllReadyH.nil
  go_simp
  refine (aggOf_any _ [6] _ N7.out (ints_1 6 ⟨by decide, by decide⟩) (by simp)).mono ?_
  rintro e w8 ⟨rfl, b8⟩
  rw [show agv (agOf [6]) = .agg #[.int .i64 1, .int .i64 0, .int .u64 6, .int .i64 6, .int .i64 6] from congrArg agv of_6]
  clear N7
  have H8 := Hid.of (H7.out.next b8)
  have CS8 := Hid.of (CS7.out.next b8)
  clear b8 hHeld c0 c1 c2 c3 c4 c5 c6 c7 c8 H7 CS7
  have c0 := (CS8.out).head
  have c1 := ((CS8.out).tail).head
  have c2 := (((CS8.out).tail).tail).head
  have c3 := ((((CS8.out).tail).tail).tail).head
  have c4 := (((((CS8.out).tail).tail).tail).tail).head
  have c5 := ((((((CS8.out).tail).tail).tail).tail).tail).head
  have c6 := (((((((CS8.out).tail).tail).tail).tail).tail).tail).head
  have c7 := ((((((((CS8.out).tail).tail).tail).tail).tail).tail).tail).head
  have c8 := (((((((((CS8.out).tail).tail).tail).tail).tail).tail).tail).tail).head
  refine hK.out _ _ ⟨c0, c1, c2, c3, c4, c5, c6, c7, c8⟩ (fun hHeld => ?_)
  clear hK K
  try simp only [Act.put, List.setIfInBounds_toArray, List.set_cons_zero, List.set_cons_succ]
  refine wpAnyH_take (i := 29) (oi := ⟨_, _, _, _, _, _⟩) (v := ?_) rfl (by kernel_rfl) (by kernel_rfl) (by kernel_rfl) (fun _ _ _ h => h) (Or.inl ⟨by rfl, ?_⟩) hHeld ?_
  rotate_left
  · intro w' hSw
    try dsimp only at hSw
    go_simp
    all_goals with_reducible rfl
  simp only [Act.put, List.setIfInBounds_toArray, List.set_cons_zero, List.set_cons_succ]
  refine wpAnyH_take (i := 30) (oi := ⟨_, _, _, _, _, _⟩) (v := ?_) rfl (by kernel_rfl) (by kernel_rfl) (by kernel_rfl) (fun _ _ _ h => h) (Or.inl ⟨by rfl, ?_⟩) hHeld ?_
  rotate_left
  · intro w' hSw
    try dsimp only at hSw
    go_simp
    all_goals with_reducible rfl
  simp only [Act.put, List.setIfInBounds_toArray, List.set_cons_zero, List.set_cons_succ]
  refine wpAnyH_take (i := 31) (oi := ⟨_, _, _, _, _, _⟩) (v := ?_) rfl (by kernel_rfl) (by kernel_rfl) (by kernel_rfl) (fun _ _ _ h => h) (Or.inl ⟨by rfl, ?_⟩) hHeld ?_
  rotate_left
  · intro w' hSw
    try dsimp only at hSw
    go_simp
    all_goals with_reducible rfl
  simp only [Act.put, List.setIfInBounds_toArray, List.set_cons_zero, List.set_cons_succ]
  refine wpAnyH_take (i := 32) (oi := ⟨_, _, _, _, _, _⟩) (v := ?_) rfl (by kernel_rfl) (by kernel_rfl) (by kernel_rfl) (fun _ _ _ h => h) (Or.inl ⟨by rfl, ?_⟩) hHeld ?_
  rotate_left
  · intro w' hSw
    try dsimp only at hSw
    go_simp
    all_goals with_reducible rfl
  simp only [Act.put, List.setIfInBounds_toArray, List.set_cons_zero, List.set_cons_succ]
  refine wpAnyH_ready (rs := [33]) (by kernel_rfl) (by simp) ?_
  refine AllReadyH.cons (o := ⟨_, _, _, _, _, _⟩) rfl (fun K hK => ?_) AllReadyH.nil
  go_simp
  refine (S.len (H8.out.ok OK.out) H8.out.rep (by intro l hl; simp only [aT, aT0, List.mem_cons, List.not_mem_nil, or_false] at hl; rcases hl with rfl | rfl <;> decide)).mono ?_
  rintro e w9 ⟨rfl, b9⟩
  rw [ia_len]
  have H9 := Hid.of (H8.out.next b9)
  have CS9 := Hid.of (CS8.out.next b9)
  clear b9 hHeld c0 c1 c2 c3 c4 c5 c6 c7 c8 H8 CS8
  have c0 := (CS9.out).head
  have c1 := ((CS9.out).tail).head
  have c2 := (((CS9.out).tail).tail).head
  have c3 := ((((CS9.out).tail).tail).tail).head
  have c4 := (((((CS9.out).tail).tail).tail).tail).head
  have c5 := ((((((CS9.out).tail).tail).tail).tail).tail).head
  have c6 := (((((((CS9.out).tail).tail).tail).tail).tail).tail).head
  have c7 := ((((((((CS9.out).tail).tail).tail).tail).tail).tail).tail).head
  have c8 := (((((((((CS9.out).tail).tail).tail).tail).tail).tail).tail).tail).head
  refine hK.out _ _ ⟨c0, c1, c2, c3, c4, c5, c6, c7, c8⟩ (fun hHeld => ?_)
  clear hK K
  try simp only [Act.put, List.setIfInBounds_toArray, List.set_cons_zero, List.set_cons_succ]
  refine wpAnyH_take (i := 34) (oi := ⟨_, _, _, _, _, _⟩) (v := ?_) rfl (by kernel_rfl) (by kernel_rfl) (by kernel_rfl) (fun _ _ _ h => h) (Or.inl ⟨by rfl, ?_⟩) hHeld ?_
  rotate_left
  · intro w' hSw
    try dsimp only at hSw
    go_simp
    all_goals with_reducible rfl
  simp only [Act.put, List.setIfInBounds_toArray, List.set_cons_zero, List.set_cons_succ]
  refine wpAnyH_take (i := 35) (oi := ⟨_, _, _, _, _, _⟩) (v := ?_) rfl (by kernel_rfl) (by kernel_rfl) (by kernel_rfl) (fun _ _ _ h => h) (Or.inl ⟨by rfl, ?_⟩) hHeld ?_
  rotate_left
  · intro w' hSw
    try dsimp only at hSw
    go_simp
    all_goals with_reducible rfl
  simp only [Act.put, List.setIfInBounds_toArray, List.set_cons_zero, List.set_cons_succ]
  refine wpAnyH_take (i := 36) (oi := ⟨_, _, _, _, _, _⟩) (v := ?_) rfl (by kernel_rfl) (by kernel_rfl) (by kernel_rfl) (fun _ _ _ h => h) (Or.inl ⟨by rfl, ?_⟩) hHeld ?_
  rotate_left
  · intro w' hSw
    try dsimp only at hSw
    go_simp
    all_goals with_reducible rfl
  simp only [Act.put, List.setIfInBounds_toArray, List.set_cons_zero, List.set_cons_succ]
  refine wpAnyH_take (i := 37) (oi := ⟨_, _, _, _, _, _⟩) (v := ?_) rfl (by kernel_rfl) (by kernel_rfl) (by kernel_rfl) (fun _ _ _ h => h) (Or.inl ⟨by rfl, ?_⟩) hHeld ?_
  rotate_left
  · intro w' hSw
    try dsimp only at hSw
    go_simp
    all_goals with_reducible rfl
  simp only [Act.put, List.setIfInBounds_toArray, List.set_cons_zero, List.set_cons_succ]
  refine wpAnyH_take (i := 38) (oi := ⟨_, _, _, _, _, _⟩) (v := ?_) rfl (by kernel_rfl) (by kernel_rfl) (by kernel_rfl) (fun _ _ _ h => h) (Or.inl ⟨by rfl, ?_⟩) hHeld ?_
  rotate_left
  · intro w' hSw
    try dsimp only at hSw
    go_simp
    all_goals with_reducible rfl
  simp only [Act.put, List.setIfInBounds_toArray, List.set_cons_zero, List.set_cons_succ]
  refine wpAnyH_take (i := 39) (oi := ⟨_, _, _, _, _, _⟩) (v := ?_) rfl (by kernel_rfl) (by kernel_rfl) (by kernel_rfl) (fun _ _ _ h => h) (Or.inl ⟨by rfl, ?_⟩) hHeld ?_
  rotate_left
  · intro w' hSw
    try dsimp only at hSw
    go_simp
    all_goals with_reducible rfl
  simp only [Act.put, List.setIfInBounds_toArray, List.set_cons_zero, List.set_cons_succ]
  refine wpAnyH_take (i := 40) (oi := ⟨_, _, _, _, _, _⟩) (v := ?_) rfl (by kernel_rfl) (by kernel_rfl) (by kernel_rfl) (fun _ _ _ h => h) (Or.inl ⟨by rfl, ?_⟩) hHeld ?_
  rotate_left
  · intro w' hSw
    try dsimp only at hSw
    go_simp
    all_goals with_reducible rfl
  simp only [Act.put, List.setIfInBounds_toArray, List.set_cons_zero, List.set_cons_succ]
  refine wpAnyH_take (i := 41) (oi := ⟨_, _, _, _, _, _⟩) (v := ?_) rfl (by kernel_rfl) (by kernel_rfl) (by kernel_rfl) (fun _ _ _ h => h) (Or.inl ⟨by rfl, ?_⟩) hHeld ?_
  rotate_left
  · intro w' hSw
    try dsimp only at hSw
    go_simp
    all_goals with_reducible rfl
  simp only [Act.put, List.setIfInBounds_toArray, List.set_cons_zero, List.set_cons_succ]
  refine wpAnyH_take (i := 42) (oi := ⟨_, _, _, _, _, _⟩) (v := ?_) rfl (by kernel_rfl) (by kernel_rfl) (by kernel_rfl) (fun _ _ _ h => h) (Or.inl ⟨by rfl, ?_⟩) hHeld ?_
  rotate_left
  · intro w' hSw
    try dsimp only at hSw
    go_simp
    all_goals with_reducible rfl
  simp only [Act.put, List.setIfInBounds_toArray, List.set_cons_zero, List.set_cons_succ]
  refine wpAnyH_take (i := 43) (oi := ⟨_, _, _, _, _, _⟩) (v := ?_) rfl (by kernel_rfl) (by kernel_rfl) (by kernel_rfl) (fun _ _ _ h => h) (Or.inl ⟨by rfl, ?_⟩) hHeld ?_
  rotate_left
  · intro w' hSw
    try dsimp only at hSw
    go_simp
    all_goals with_reducible rfl
  simp only [Act.put, List.setIfInBounds_toArray, List.set_cons_zero, List.set_cons_succ]
  refine wpAnyH_take (i := 44) (oi := ⟨_, _, _, _, _, _⟩) (v := ?_) rfl (by kernel_rfl) (by kernel_rfl) (by kernel_rfl) (fun _ _ _ h => h) (Or.inl ⟨by rfl, ?_⟩) hHeld ?_
  rotate_left
  · intro w' hSw
    try dsimp only at hSw
    go_simp
    all_goals with_reducible rfl
  simp only [Act.put, List.setIfInBounds_toArray, List.set_cons_zero]
  refine wpAnyH_done (by kernel_rfl) ?_ _
  refine NoPanic.normal ?_
  go_wp2
  go_ret
  exact ⟨rfl, H9.out.fr⟩

end Go.Proofs.Ytnohmloilcpmiaa
