/-
  A bundle of texts: IMO IVM VPF IPS.
-/
import Derived.Test.YtdchjcidfaencaaGreatQ21
import Derived.Test.YtdchjcidfaencaaGreatQ22
import Derived.Test.YtdchjcidfaencaaGreatQ23
import Derived.Test.YtdchjcidfaencaaGreatQ15
import Derived.Test.YtdchjcidfaencaaGreatQ08
namespace Go.Proofs.YtdchjcidfaencaaGreat
open Go.RowKit Go.Lib

/-- The ticks of a tier's buckets. -/
def tEv (r : RchL) (i : Nat) : Int := match r.2.1.2[i]? with | some t => t.2.1 | none => 1

/-- Does a tier have a sample's bucket? -/
def iHas (r : RchL) (i : Nat) (s : SamL) : Bool := (rStart r (i : Int) s.2.1).2
/-- A sample as a tier's record. -/
def iRec (r : RchL) (i : Nat) (s : SamL) : TRec := ⟨s.1, (rStart r (i : Int) s.2.1).1, agOf [s.2.2]⟩
/-- What comes of samples in a tier. -/
def iRecs (r : RchL) (i : Nat) (ss : List SamL) : List TRec := (ss.filter (iHas r i)).map (iRec r i)

def iAskE (n : ByteArray) (f t : Int) : Int := if nOk n = false ∨ f < 0 ∨ t < f then 1 else 0

section
variable {r : RchL} {T : List (List TRec)}

end

theorem agOf_one {v : Int} (h : TIn64 v) : agOf [v] = agOne v := agJoin_zero_left _ (agOne_good h.1 h.2)

/-- A sample such as memory can hold. -/
def SFit (s : SamL) : Prop := s.1.size ≤ maxLen ∧ TIn64 s.2.1 ∧ TIn64 s.2.2

section
variable {r : RchL} {T : List (List TRec)}

theorem TMade.adds {e : Int} {l rs : List TRec} (h : TMade l e) (hr : ∀ x ∈ rs, TFit x) : TMade (tAdds e l rs) e :=
  ⟨tAdds_sorted h.so, tAdds_all h.al (fun x hx => (hr x hx).2.2), tAdds_ok h.ok (fun x hx => (hr x hx).2.2) h.al, tAdds_s h.s64 (fun x hx => (hr x hx).2.1)⟩

end

end Go.Proofs.YtdchjcidfaencaaGreat

namespace Go.Proofs.YtdchjcidfaencaaGreat
open Go.RowKit Go.Lib

theorem tIns_front {l : List TRec} {r : TRec} (h : ∀ y ∈ l, kLt r.k y.k) : tIns l r = r :: l := by
  cases l with
  | nil => rfl
  | cons y l =>
    have hy := h y (List.mem_cons_self ..)
    unfold tIns
    rw [if_neg (fun c => kLt_irrefl _ (kLt_trans hy (kLtB_iff.1 c))), if_neg (fun c => by rw [c] at hy; exact kLt_irrefl _ hy)]

/-- A sample with a name and a time. -/
def iMay (s : SamL) : Bool := nOk s.1 && decide (0 ≤ s.2.1)
/-- The document's own view. -/
def iView (r : RchL) (i : Nat) (ss : List SamL) : List TRec := tAdds (tEv r i) [] (iRecs r i (ss.filter iMay))

/-- One more sample. -/
theorem iView_next (r : RchL) (i : Nat) (all : List SamL) (s : SamL) : iView r i (all ++ [s]) = if iMay s = true ∧ (rStart r (i : Int) s.2.1).2 = true then tAdd (tEv r i) (iView r i all) ⟨s.1, (rStart r (i : Int) s.2.1).1, agOf [s.2.2]⟩ else iView r i all := by
  unfold iView iRecs
  rw [List.filter_append, List.filter_append, List.map_append, tAdds_append, List.filter_cons, List.filter_nil]
  by_cases h : iMay s = true
  · rw [if_pos h, List.filter_cons, List.filter_nil]
    by_cases c : iHas r i s = true
    · rw [if_pos c, if_pos ⟨h, c⟩]
      rfl
    · rw [if_neg c, if_neg (fun d => c d.2)]
      rfl
  · rw [if_neg h, if_neg (fun d => h d.1)]
    rfl

end Go.Proofs.YtdchjcidfaencaaGreat

namespace Go.Proofs.YtdchjcidfaencaaGreat
open Go.RowKit Go.Lib

/-- What stands under a name and start. -/
def tGet (l : List TRec) (k : TKey) : Option Ag := (l.find? fun x => decide (x.k = k)).map TRec.a

theorem tGet_cons (x : TRec) (l : List TRec) (k : TKey) : tGet (x :: l) k = if x.k = k then some x.a else tGet l k := by
  unfold tGet
  rw [List.find?_cons]
  by_cases h : x.k = k
  · rw [if_pos h, decide_eq_true h]
    rfl
  · rw [if_neg h, decide_eq_false h]

theorem tGet_none {l : List TRec} {k : TKey} (h : ∀ x ∈ l, x.k ≠ k) : tGet l k = none := by
  unfold tGet
  rw [List.find?_eq_none.2 (fun x hx => by simpa using h x hx)]
  rfl

theorem tGet_some {l : List TRec} {k : TKey} {a : Ag} (h : tGet l k = some a) : (⟨k.1, k.2, a⟩ : TRec) ∈ l := by
  induction l with
  | nil => cases h
  | cons x l ih =>
    rw [tGet_cons] at h
    by_cases c : x.k = k
    · rw [if_pos c] at h
      have e : (⟨k.1, k.2, a⟩ : TRec) = x := by
        rw [← c, ← Option.some.inj h]
        rfl
      rw [e]
      exact List.mem_cons_self ..
    · rw [if_neg c] at h
      exact List.mem_cons_of_mem _ (ih h)

theorem tGet_mem {l : List TRec} (hs : TSorted l) {x : TRec} (hx : x ∈ l) : tGet l x.k = some x.a := by
  induction l with
  | nil => cases hx
  | cons y l ih =>
    obtain ⟨h1, h2⟩ := List.pairwise_cons.1 hs
    rw [tGet_cons]
    rcases List.mem_cons.1 hx with rfl | hx
    · rw [if_pos rfl]
    · rw [if_neg (fun c => by have := h1 x hx; rw [c] at this; exact kLt_irrefl _ this), ih h2 hx]

/-- Two of one name and start, in a sorted list, are one. -/
theorem sorted_one {l : List TRec} (hs : TSorted l) {x y : TRec} (hx : x ∈ l) (hy : y ∈ l) (h : x.k = y.k) : x = y := by
  have h1 := tGet_mem hs hx
  rw [h, tGet_mem hs hy] at h1
  exact TRec.same h (Option.some.inj h1).symm

theorem tGet_ins {l : List TRec} {r : TRec} (h : TSorted l) (k : TKey) : tGet (tIns l r) k = if k = r.k then some (match tGet l r.k with | none => r.a | some a => agBoth a r.a) else tGet l k := by
  induction l with
  | nil =>
    show tGet [r] k = _
    rw [tGet_cons]
    by_cases c : k = r.k
    · rw [if_pos c.symm, if_pos c]
      rfl
    · rw [if_neg (fun e => c e.symm), if_neg c]
  | cons x l ih =>
    obtain ⟨h1, h2⟩ := List.pairwise_cons.1 h
    by_cases hk : kLtB x.k r.k = true
    · have hne : x.k ≠ r.k := fun e => by rw [e] at hk; exact kLt_irrefl _ (kLtB_iff.1 hk)
      rw [show tIns (x :: l) r = x :: tIns l r by rw [tIns, if_pos hk], tGet_cons, tGet_cons, tGet_cons, ih h2, if_neg hne]
      by_cases c : k = r.k
      · rw [if_pos c, if_pos c, if_neg (by rw [c]; exact hne)]
      · rw [if_neg c, if_neg c]
    · by_cases he : x.k = r.k
      · rw [show tIns (x :: l) r = ⟨x.n, x.s, agBoth x.a r.a⟩ :: l by rw [tIns, if_neg hk, if_pos he], tGet_cons, tGet_cons, tGet_cons, if_pos he]
        show (if x.k = k then _ else _) = _
        by_cases c : k = r.k
        · rw [if_pos (by rw [he, c]), if_pos c]
        · rw [if_neg (fun e => c (by rw [← e, he])), if_neg c, if_neg (fun e => c (by rw [← e, he]))]
      · have hrx : kLt r.k x.k := by
          rcases kLt_total he with c | c
          · exact absurd (kLtB_iff.2 c) hk
          · exact c
        have hn : tGet (x :: l) r.k = none := tGet_none (fun y hy e => by
          rcases List.mem_cons.1 hy with rfl | hy
          · rw [e] at hrx; exact kLt_irrefl _ hrx
          · have := kLt_trans hrx (h1 y hy)
            rw [e] at this
            exact kLt_irrefl _ this)
        rw [show tIns (x :: l) r = r :: x :: l by rw [tIns, if_neg hk, if_neg he], tGet_cons, hn]
        by_cases c : k = r.k
        · rw [if_pos c.symm, if_pos c]
        · rw [if_neg (fun e => c e.symm), if_neg c]

/-- Each tier has buckets. -/
def VOk (r : RchL) : Prop := ∀ t ∈ r.2.1.2, 1 ≤ t.2.1

/-- The records of a tier; none of one that is none. -/
def vT (r : RchL) (i : Int) (ss : List SamL) : List TRec := if 0 ≤ i ∧ i.toNat < r.2.1.2.length then iView r i.toNat ss else []

theorem vT_nil (r : RchL) (i : Int) : vT r i [] = [] := by
  unfold vT
  split
  · rfl
  · rfl

/-- Does a sample stand in a tier? -/
def vHas (r : RchL) (i : Int) (s : SamL) : Bool := (rStart r i s.2.1).2 && nOk s.1

theorem vHas_out {r : RchL} {i : Int} (h : ¬ (0 ≤ i ∧ i.toNat < r.2.1.2.length)) (s : SamL) : vHas r i s = false := by
  have e : (rStart r i s.2.1).2 = false := by
    unfold rStart
    by_cases c : i < 0 ∨ s.2.1 < 0
    · rw [if_pos c]
    · rw [if_neg c, List.getElem?_eq_none (by omega)]
  unfold vHas
  rw [e]
  rfl

theorem vHas_in {r : RchL} {i : Int} {s : SamL} (h : vHas r i s = true) : ∃ x, r.2.1.2[i.toNat]? = some x ∧ 0 ≤ i ∧ 0 ≤ s.2.1 ∧ nOk s.1 = true ∧ (rStart r i s.2.1).1 = gFloor s.2.1 x.2.1 ∧ rFromN r i.toNat ≤ gFloor s.2.1 x.2.1 := by
  unfold vHas at h
  rw [Bool.and_eq_true] at h
  obtain ⟨h1, h2⟩ := h
  unfold rStart at h1 ⊢
  by_cases c : i < 0 ∨ s.2.1 < 0
  · rw [if_pos c] at h1
    cases h1
  · rw [if_neg c] at h1 ⊢
    cases hx : r.2.1.2[i.toNat]? with
    | none => rw [hx] at h1; cases h1
    | some x =>
      rw [hx] at h1
      exact ⟨x, rfl, by omega, by omega, h2, rfl, of_decide_eq_true h1⟩

theorem vRec_ok {r : RchL} {i : Int} {s : SamL} (hr : VOk r) (h : vHas r i s = true) : tOk (tEv r i.toNat) ⟨s.1, (rStart r i s.2.1).1, agOne s.2.2⟩ = true := by
  obtain ⟨x, hx, i0, t0, hn, e, -⟩ := vHas_in h
  have he := hr x (List.mem_of_getElem? hx)
  have f1 := gFloor_plain0 t0 he
  have f3 : gPast s.2.1 x.2.1 ≤ s.2.1 := past_le he t0
  have ev : tEv r i.toNat = x.2.1 := by unfold tEv; rw [hx]
  unfold tOk
  rw [hn, e, ev]
  rw [gFloor_on he f1, decide_eq_true (show 0 ≤ gFloor s.2.1 x.2.1 by omega)]
  show (true && true && true && agOk (agOne s.2.2)) = true
  unfold agOk agOne
  simp

/-- One sample more. -/
theorem vT_next {r : RchL} {i : Int} {ss : List SamL} {s : SamL} (hr : VOk r) (hs : SFit s) : vT r i (ss ++ [s]) = if vHas r i s = true then tIns (vT r i ss) ⟨s.1, (rStart r i s.2.1).1, agOne s.2.2⟩ else vT r i ss := by
  by_cases hi : 0 ≤ i ∧ i.toNat < r.2.1.2.length
  · obtain ⟨j, rfl⟩ : ∃ j : Nat, i = j := ⟨i.toNat, by omega⟩
    have ej : ((j : Int)).toNat = j := by omega
    have e1 : ∀ l, vT r (j : Int) l = iView r j l := fun l => by unfold vT; rw [if_pos hi, ej]
    rw [e1, e1, iView_next, agOf_one hs.2.2]
    by_cases h : vHas r (j : Int) s = true
    · obtain ⟨x, hx, i0, t0, hn, e, -⟩ := vHas_in h
      have hm : iMay s = true := by unfold iMay; rw [hn, decide_eq_true t0]; rfl
      have hh : (rStart r (j : Int) s.2.1).2 = true := by unfold vHas at h; rw [Bool.and_eq_true] at h; exact h.1
      have ok := vRec_ok hr h
      rw [ej] at ok
      rw [if_pos h, if_pos ⟨hm, hh⟩]
      unfold tAdd
      rw [if_pos ok]
    · rw [if_neg h, if_neg]
      rintro ⟨h1, h2⟩
      unfold iMay at h1
      rw [Bool.and_eq_true] at h1
      exact h (by unfold vHas; rw [h1.1, h2]; rfl)
  · have e1 : ∀ l, vT r i l = [] := fun l => by unfold vT; rw [if_neg hi]
    rw [e1, e1, if_neg (by rw [vHas_out hi]; exact Bool.false_ne_true)]

/-- What is known of a tier's records. -/
structure VGood (l : List TRec) (n : Nat) : Prop where
  sorted : TSorted l
  fit : ∀ x ∈ l, x.n.size ≤ maxLen ∧ TIn64 x.s ∧ AgIn x.a ∧ agOk x.a = true
  len : l.length ≤ n

theorem VGood.all {l : List TRec} {n : Nat} (h : VGood l n) : TAll l := fun x hx => ⟨(h.fit x hx).2.2.2, (h.fit x hx).2.2.1⟩

theorem VGood.ins {l : List TRec} {n : Nat} (h : VGood l n) {r : TRec} (h1 : r.n.size ≤ maxLen) (h2 : TIn64 r.s) (h3 : AgIn r.a) (h4 : agOk r.a = true) : VGood (tIns l r) (n + 1) := by
  refine ⟨tIns_sorted h.sorted, fun x hx => ?_, Nat.le_trans (tIns_len _ _) (by have := h.len; omega)⟩
  have a := tIns_all h.all ⟨h4, h3⟩ x hx
  rcases tIns_key hx with e | ⟨y, hy, e⟩
  · simp only [TRec.k, Prod.mk.injEq] at e
    rw [e.1, e.2]
    exact ⟨h1, h2, a.2, a.1⟩
  · have f := h.fit y hy
    simp only [TRec.k, Prod.mk.injEq] at e
    rw [e.1, e.2]
    exact ⟨f.1, f.2.1, a.2, a.1⟩

theorem VGood.mono {l : List TRec} {n m : Nat} (h : VGood l n) (hm : n ≤ m) : VGood l m := ⟨h.sorted, h.fit, Nat.le_trans h.len hm⟩

theorem vStart_in {r : RchL} {i : Int} {s : SamL} (hr : VOk r) (h : vHas r i s = true) : 0 ≤ (rStart r i s.2.1).1 ∧ (rStart r i s.2.1).1 ≤ s.2.1 := by
  obtain ⟨x, hx, i0, t0, hn, e, -⟩ := vHas_in h
  have he := hr x (List.mem_of_getElem? hx)
  have f1 := gFloor_plain0 t0 he
  have f2 := gPast_bounds s.2.1 he
  have f3 : gPast s.2.1 x.2.1 ≤ s.2.1 := past_le he t0
  rw [e]
  omega

theorem vT_good {r : RchL} {i : Int} {ss : List SamL} (hr : VOk r) (hs : ∀ s ∈ ss, SFit s) : VGood (vT r i ss) ss.length := by
  have key : ∀ k, VGood (vT r i (ss.take k)) (ss.take k).length := by
    intro k
    induction k with
    | zero =>
      rw [List.take_zero, vT_nil]
      exact ⟨sorted_nil, fun _ h => absurd h List.not_mem_nil, Nat.le_refl _⟩
    | succ k ih =>
      by_cases hk : k < ss.length
      · rw [List.take_succ_eq_append_getElem hk, vT_next hr (hs _ (List.getElem_mem hk)), List.length_append]
        have f := hs _ (List.getElem_mem hk)
        split
        · rename_i hh
          have e := vStart_in hr hh
          have g := agOf_good (l := [ss[k].2.2]) (fun x hx => by rw [List.mem_singleton.1 hx]; exact f.2.2)
          rw [agOf_one f.2.2] at g
          refine ih.ins f.1 ?_ g.1 ?_
          · have := f.2.1
            unfold TIn64 at *
            show _ ∧ _
            simp only
            omega
          · show agOk (agOne ss[k].2.2) = true
            unfold agOk agOne
            simp
        · exact ih.mono (by simp)
      · rw [List.take_of_length_le (by omega)]
        rw [List.take_of_length_le (by omega)] at ih
        exact ih
  have h := key ss.length
  rwa [List.take_length] at h

/-- What is known of a key. -/
abbrev vKnow (l : List TRec) : TKey → Option Value := fun k => (tGet l k).map fun a => agv a

/-- The comparison by name and start. -/
def ocf (x y : TRec) : Int := if kLtB x.k y.k = true then -1 else if kLtB y.k x.k = true then 1 else 0

theorem ocf_neg (x y : TRec) : ocf x y < 0 ↔ kLt x.k y.k := by
  unfold ocf
  rw [← kLtB_iff]
  split
  · exact ⟨fun _ => ‹_›, fun _ => by decide⟩
  · split
    · exact ⟨fun h => absurd h (by decide), fun h => absurd h ‹_›⟩
    · exact ⟨fun h => absurd h (by decide), fun h => absurd h ‹_›⟩

/-- Collected in whatever order, sorted: the same list. -/
theorem same_records {T cs ds : List TRec} (hT : TSorted T) (hm : ∀ x, x ∈ cs ↔ x ∈ T) (hn : cs.Pairwise fun x y => x.k ≠ y.k) (hp : ds.Perm cs) (hs : ds.Pairwise fun x y => ¬ kLt y.k x.k) : ds = T := by
  have hn' : ds.Pairwise fun x y => x.k ≠ y.k := (hp.pairwise_iff (fun {a b} (h : a.k ≠ b.k) => h.symm)).2 hn
  have hd : TSorted ds := (hn'.and hs).imp (fun {a b} h => by
    rcases kLt_total h.1 with c | c
    · exact c
    · exact absurd c h.2)
  exact sorted_same hd hT (fun x => by rw [hp.mem_iff]; exact hm x)

/-- The records so far, and those that are still to come. -/
structure Coll (T cs : List TRec) (left : TKey → Bool) : Prop where
  mem : ∀ x, x ∈ cs ↔ x ∈ T ∧ left x.k = false
  apart : cs.Pairwise fun x y => x.k ≠ y.k

theorem Coll.start {T : List TRec} (hT : TSorted T) : Coll T [] (fun k => (vKnow T k).isSome) := by
  refine ⟨fun x => ⟨fun h => absurd h List.not_mem_nil, fun ⟨h1, h2⟩ => ?_⟩, List.Pairwise.nil⟩
  simp only [vKnow, tGet_mem hT h1] at h2
  cases h2

theorem Coll.more {T cs : List TRec} {left : TKey → Bool} (h : Coll T cs left) (hT : TSorted T) {k : TKey} {a : Ag} (hk : left k = true) (ha : tGet T k = some a) : Coll T (cs ++ [⟨k.1, k.2, a⟩]) (fun x => left x && !decide (x = k)) := by
  have hm := tGet_some ha
  refine ⟨fun x => ?_, List.pairwise_append.2 ⟨h.apart, List.pairwise_singleton _ _, fun x hx y hy e => ?_⟩⟩
  · rw [List.mem_append, List.mem_singleton, h.mem x]
    constructor
    · rintro (⟨h1, h2⟩ | rfl)
      · exact ⟨h1, by rw [h2]; rfl⟩
      · exact ⟨hm, by
          show (left k && !decide (k = k)) = false
          rw [decide_eq_true rfl, hk]
          rfl⟩
    · rintro ⟨h1, h2⟩
      by_cases c : x.k = k
      · exact .inr (sorted_one hT h1 hm c)
      · rw [decide_eq_false c] at h2
        simp only [Bool.not_false, Bool.and_true] at h2
        exact .inl ⟨h1, h2⟩
  · rw [List.mem_singleton.1 hy] at e
    have := ((h.mem x).1 hx).2
    rw [e] at this
    change left k = false at this
    rw [hk] at this
    cases this

end Go.Proofs.YtdchjcidfaencaaGreat

namespace Go.Proofs.YtdchjcidfaencaaGreat
open Go.RowKit Go.Lib

/-- An answer. -/
abbrev ansVal (t : Int) (u : Value) : Value := .agg #[.int .i64 t, u]

section

end

section

end

theorem cell_lt {w : World} {a : Addr} {v : Value} (h : w.cell? a = some v) : a.block < w.heap.size := by
  unfold World.cell? at h
  by_cases c : a.block < w.heap.size
  · exact c
  · rw [Array.getElem?_eq_none (by omega)] at h
    cases h

/-- Cells that are there. -/
def Cs (w : World) (l : List (Addr × Value)) : Prop := ∀ x ∈ l, x.1.block < w.heap.size ∧ w.cell? x.1 = some x.2
theorem Cs.next {w w' : World} {l : List (Addr × Value)} (h : Cs w l) (b : Below w.heap.size w w') : Cs w' l := fun x hx =>
  ⟨Nat.lt_of_lt_of_le (h x hx).1 b.size, (World.cell?_of_block (a := x.1) (b.block _ (h x hx).1)).trans (h x hx).2⟩
theorem Cs.nil (w : World) : Cs w [] := fun _ h => absurd h List.not_mem_nil
theorem Cs.cons {w : World} {a : Addr} {v : Value} {l : List (Addr × Value)} (h1 : a.block < w.heap.size) (h2 : w.cell? a = some v) (h : Cs w l) : Cs w ((a, v) :: l) := fun x hx => by
  rcases List.mem_cons.1 hx with rfl | hx
  · exact ⟨h1, h2⟩
  · exact h x hx
theorem Cs.head {w : World} {a : Addr} {v : Value} {l : List (Addr × Value)} (h : Cs w ((a, v) :: l)) : w.cell? a = some v := (h _ (List.mem_cons_self ..)).2
theorem Cs.tail {w : World} {a : Addr} {v : Value} {l : List (Addr × Value)} (h : Cs w ((a, v) :: l)) : Cs w l := fun x hx => h x (List.mem_cons_of_mem _ hx)

end Go.Proofs.YtdchjcidfaencaaGreat
