/-
  A bundle of texts: POM POP POQ POS RM RP RTK RKB.
-/
import Derived.Lib.ItoaNum
import Derived.Deep.DeepCutAuto
import Derived.Deep.QuietTactic
import Derived.BigQuiet
import Derived.Deep.RegionHeld3
import Derived.Test.YtbhcafginmkaaaaGreatT03
import Derived.Test.YtbhcafginmkaaaaGreatT06
import Derived.Test.YtbhcafginmkaaaaGreatT11
import Derived.Test.YtbhcafginmkaaaaGreatT05
import Derived.Test.YtbhcafginmkaaaaGreatT01
import Derived.Test.YtbhcafginmkaaaaGreatT09
namespace Go.Proofs.YtbhcafginmkaaaaGreat
open Go.RowKit Go.Lib

/-- A policy: its name and its tiers (name, every, keep, shards). -/
abbrev PolL := ByteArray × List TierL

def PolL.none : PolL := (⟨#[]⟩, [])

/-- May t stand behind the tiers d? -/
def tierOk (d : List TierL) (t : TierL) : Bool :=
  nOk t.1 && decide (1 ≤ t.2.2.1) && decide (t.2.2.1 ≤ 1000000) && decide (1 ≤ t.2.2.2) && decide (t.2.2.2 ≤ 8) && decide (1 ≤ t.2.1) && decide (t.2.1 ≤ 1000000) && d.all (fun o => !(o.1.toList == t.1.toList)) &&
  match d.getLast? with
  | none => decide (t.2.1 = 1)
  | some o => decide (o.2.1 < t.2.1) && decide (t.2.1 % o.2.1 = 0) && decide (o.2.2.1 ≤ t.2.2.1)

/-- The number of the first tier that may not be. -/
def pBad : List TierL → List TierL → Option Nat
  | _, [] => none
  | d, t :: r => if tierOk d t then pBad (d ++ [t]) r else some (d.length + 1)

def pCheck (p : PolL) : Int × Int :=
  if nOk p.1 = false ∨ p.2.length < 1 ∨ 5 < p.2.length then (23, 0) else match pBad [] p.2 with
    | some i => (23, i)
    | none => (0, 0)

end Go.Proofs.YtbhcafginmkaaaaGreat

namespace Go.Proofs.YtbhcafginmkaaaaGreat
open Go.RowKit Go.Lib

/-- A policy, as a value: its name and the slice of its tiers. -/
abbrev polVal (n : ByteArray) (s : Value) : Value := .agg #[.string n, s]

/-- A slice is not longer than its room. -/
def CapOk : Value → Prop
  | .slice _ n c => n ≤ c
  | _ => True

theorem own_cap {w : World} {B : Nat} {e : TypeId} {s : Nat} {v : Value} {n : Nat} {xs : List Value} (h : w.ownsRow B e s v n xs) : CapOk v := by
  obtain ⟨hl, h⟩ := h
  rcases h with ⟨rfl, rfl⟩ | ⟨g, cap, cur, rfl, hB, hrow, hcap, hmax, hcs, htk⟩
  · exact Nat.le_refl _
  · exact hcap

/-- The value v is the policy p. -/
def PolRow (w : World) (v : Value) (p : PolL) : Prop := ∃ s, v = polVal p.1 s ∧ CellRow w s p.2.length (flat penc p.2) ∧ CapOk s

/-- One of one's own above B. -/
def OwnPol (B : Nat) (w : World) (v : Value) (p : PolL) : Prop := ∃ s, v = polVal p.1 s ∧ w.ownsRow B 89 4 s p.2.length (flat penc p.2)

theorem PolRow.kept {w w' : World} {v : Value} {p : PolL} (h : PolRow w v p) (b : Below w.heap.size w w') : PolRow w' v p := by
  obtain ⟨s, hv, hs, hk⟩ := h
  exact ⟨s, hv, hs.kept b, hk⟩

/-- Few tiers, short names. -/
def PSmall (p : PolL) : Prop := p.2.length ≤ 10 ∧ p.1.size ≤ 60 ∧ ∀ x ∈ p.2, x.1.size ≤ 60

/-- A variable that holds a policy. -/
def PBlk (w : World) (b : Nat) (n : ByteArray) (s : Value) : Prop := w.heap[b]? = some (.cells #[.string n, s] 24 (0, 0))

theorem PBlk.made (w : World) (n : ByteArray) (s : Value) : PBlk (w.alloc (.cells #[.string n, s] 24)) w.heap.size n s := Go.heap_alloc_new _ _

theorem PBlk.kept {w w' : World} {b : Nat} {n : ByteArray} {s : Value} (h : PBlk w b n s) (c : Below w.heap.size w w') : PBlk w' b n s := by
  unfold PBlk at h ⊢
  rw [c.block b (Array.getElem?_eq_some_iff.1 h).1]
  exact h

theorem PBlk.at {w : World} {b : Nat} {n : ByteArray} {s : Value} (h : PBlk w b n s) : w.cell? ⟨b, 0, none⟩ = some (.string n) ∧ w.cell? ⟨b, 1, none⟩ = some s := by
  refine ⟨?_, ?_⟩ <;> (rw [cell_of_row w b _ _ _ _ h]; rfl)

set_option maxRecDepth 20000 in
set_option maxHeartbeats 1600000 in
theorem Small_any (v : Value) (p : PolL) (w : World) (hv : PolRow w v p) :
    Calls Tryz.prog 12 #[v] w fun e w' => ∃ r : Bool, e = .returned (.bool r) ∧ Hid (r = true → PSmall p) ∧ Below w.heap.size w w' := by
  obtain ⟨n, l⟩ := p
  obtain ⟨s, rfl, hs, -⟩ := hv
  simp only at hs
  have HS := Hid.of hs
  obtain ⟨sa, sc, rfl, -⟩ := hs
  go_enter Tryz.func12, Tryz.ntmps12
  go_wp2
  go_loopw [3] (fun i wr => ∃ j : Nat, j ≤ l.length ∧ j ≤ 12 ∧ i = .int .i64 j ∧ Hid (PBlk wr w.heap.size n (.slice sa l.length sc)) ∧ Hid (∀ x ∈ l.take j, x.1.size ≤ 60) ∧ Below w.heap.size w wr) (fun i _ => 12 - (RowKit.intOf i).toNat)
  case atStart => exact ⟨0, Nat.zero_le _, by decide, rfl, Hid.of (PBlk.made _ _ _), Hid.of (by simp), (Below.refl _ _).alloc (Nat.le_refl _) _⟩
  case round =>
    obtain ⟨j, hj, hj12, rfl, K, A, hb⟩ := hrel
    obtain ⟨c0, c1⟩ := K.out.at
    have i0 : (0 : Int) ≤ (j : Int) := Int.natCast_nonneg _
    by_cases hlt : j < l.length
    · have i1 : (j : Int) < (l.length : Int) := by omega
      by_cases h12 : j < 12
      · have i2 : (j : Int) < 12 := by omega
        obtain ⟨b1, o1, rfl, hl1, hc1⟩ := p_at HS.out j l[j] (by simp [hlt])
        obtain ⟨x, hx⟩ : ∃ x, l[j] = x := ⟨_, rfl⟩
        rw [hx] at hc1
        obtain ⟨d0, -, -, -⟩ := hc1
        rw [← hb.cell hl1] at d0
        have HX := Hid.of hx
        by_cases h60 : x.1.size ≤ 60
        · have i3 : ¬ (60 : Int) < (x.1.size : Int) := by omega
          clear hx
          go_wp2
          go_roundw
          case rel =>
            refine ⟨j + 1, by omega, by omega, by go_num, K, Hid.of ?_, hb⟩
            intro y hy
            rw [List.take_succ_eq_append_getElem hlt, List.mem_append, List.mem_singleton, HX.out] at hy
            rcases hy with hy | rfl
            · exact A.out y hy
            · exact h60
          case measure => simp [RowKit.intOf]; omega
        · have i3 : (60 : Int) < (x.1.size : Int) := by omega
          clear hx
          go_wp2
          go_ret
          exact ⟨false, rfl, Hid.of (fun h => by cases h), hb⟩
      · have i2 : ¬ (j : Int) < 12 := by omega
        have i3 : ¬ (l.length : Int) ≤ 10 := by omega
        go_wp2
        go_ret
        exact .inl ⟨rfl, Hid.of trivial, hb⟩
    · have i1 : ¬ (j : Int) < (l.length : Int) := by omega
      have hjl : j = l.length := by omega
      by_cases h10 : l.length ≤ 10
      · have i3 : (l.length : Int) ≤ 10 := by omega
        by_cases h60 : n.size ≤ 60
        · have i4 : (n.size : Int) ≤ 60 := by omega
          go_wp2
          go_ret
          refine .inr ⟨rfl, Hid.of ⟨h10, h60, fun x hx => ?_⟩, hb⟩
          have := A.out x
          rw [hjl, List.take_length] at this
          exact this hx
        · have i4 : ¬ (n.size : Int) ≤ 60 := by omega
          go_wp2
          go_ret
          exact .inl ⟨rfl, Hid.of trivial, hb⟩
      · have i3 : ¬ (l.length : Int) ≤ 10 := by omega
        go_wp2
        go_ret
        exact .inl ⟨rfl, Hid.of trivial, hb⟩

end Go.Proofs.YtbhcafginmkaaaaGreat

namespace Go.Proofs.YtbhcafginmkaaaaGreat
open Go.RowKit Go.Lib

/-- Are they alike in all? -/
def pSame (p q : PolL) : Bool := decide (p = q)

theorem pSame_ne {n m : ByteArray} {l k : List TierL} {j : Nat} {x y : TierL} (hx : l[j]? = some x) (hy : k[j]? = some y) (h : ¬ x = y) : pSame (n, l) (m, k) = false := by
  refine decide_eq_false fun e => h ?_
  have e2 : l = k := (Prod.mk.inj e).2
  rw [e2, hy] at hx
  exact (Option.some.inj hx).symm

set_option maxRecDepth 20000 in
set_option maxHeartbeats 1600000 in
theorem refSame_any (u v : Value) (p q : PolL) (w : World) (hu : PolRow w u p) (hv : PolRow w v q) (hp : p.2.length ≤ 1000000) (hq : q.2.length ≤ 1000000) :
    Calls Tryz.prog 20 #[u, v] w fun e w' => e = .returned (.bool (pSame p q)) ∧ Below w.heap.size w w' := by
  obtain ⟨n, l⟩ := p
  obtain ⟨m, k⟩ := q
  obtain ⟨s, rfl, hs, -⟩ := hu
  obtain ⟨t, rfl, ht, -⟩ := hv
  simp only at hs hp ht hq
  have HS := Hid.of hs
  have HT := Hid.of ht
  obtain ⟨sa, sc, rfl, -⟩ := hs
  obtain ⟨ta, tc, rfl, -⟩ := ht
  obtain ⟨w1, hw1⟩ : ∃ w1, (w.alloc (.cells #[.string n, .slice sa l.length sc] 24)).alloc (.cells #[.string m, .slice ta k.length tc] 24) = w1 := ⟨_, rfl⟩
  have b1 : Below w.heap.size w w1 := by rw [← hw1]; exact ((Below.refl _ _).alloc (Nat.le_refl _) _).alloc (by simp) _
  have K1 : Hid (PBlk w1 w.heap.size n (.slice sa l.length sc)) := Hid.of (by rw [← hw1]; exact (PBlk.made w _ _).kept ((Below.refl _ _).alloc (Nat.le_refl _) _))
  have K2 : Hid (PBlk w1 (w.heap.size + 1) m (.slice ta k.length tc)) := Hid.of (by rw [← hw1]; have := PBlk.made (w.alloc (.cells #[.string n, .slice sa l.length sc] 24)) m (.slice ta k.length tc); simpa using this)
  have HW := Hid.of hw1
  have B1 := Hid.of b1
  obtain ⟨c0, c1⟩ := K1.out.at
  obtain ⟨d0, d1⟩ := K2.out.at
  clear hw1 b1
  go_enter Tryz.func20, Tryz.ntmps20
  by_cases hnm : n = m
  · have e0 : (n.toList == m.toList) = true := by rw [hnm]; exact beq_self_eq_true _
    by_cases hlk : l.length = k.length
    · have e1 : (l.length : Int) = (k.length : Int) := by omega
      go_wp2
      go_loopw [5] (fun i wr => ∃ j : Nat, j ≤ l.length ∧ i = .int .i64 j ∧ Hid (l.take j = k.take j) ∧ ∃ q, wr = w1.drewN q) (fun i _ => l.length - (RowKit.intOf i).toNat)
      case atStart => exact ⟨0, Nat.zero_le _, rfl, Hid.of rfl, 0, by have h := HW.out; rw [hnm, hlk] at h; exact h⟩
      case round =>
        obtain ⟨j, hj, rfl, E, r, rfl⟩ := hrel
        have i0 : (0 : Int) ≤ (j : Int) := Int.natCast_nonneg _
        by_cases hlt : j < l.length
        · obtain ⟨b1, o1, rfl, g1, hc1⟩ := p_at HS.out j l[j] (by simp [hlt])
          obtain ⟨b2, o2, rfl, g2, hc2⟩ := p_at HT.out j (k[j]'(by omega)) (by simp)
          obtain ⟨x, hx⟩ : ∃ x, l[j] = x := ⟨_, rfl⟩
          obtain ⟨y, hy⟩ : ∃ y, (k[j]'(by omega)) = y := ⟨_, rfl⟩
          rw [hx] at hc1
          rw [hy] at hc2
          obtain ⟨x0, x1, x2, x3⟩ := x
          obtain ⟨y0, y1, y2, y3⟩ := y
          obtain ⟨f0, f1, f2, f3⟩ := hc1
          obtain ⟨h0, h1, h2, h3⟩ := hc2
          rw [← B1.out.cell g1] at f0 f1 f2 f3
          rw [← B1.out.cell g2] at h0 h1 h2 h3
          simp only at f0 h0 f1 h1 f2 h2 f3 h3
          have i1 : (j : Int) < (l.length : Int) := by omega
          have i2 : (j : Int) < (k.length : Int) := by omega
          have HX : Hid (l[j]? = some (x0, x1, x2, x3)) := Hid.of (by rw [← hx]; exact List.getElem?_eq_getElem hlt)
          have HY : Hid (k[j]? = some (y0, y1, y2, y3)) := Hid.of (by rw [← hy]; exact List.getElem?_eq_getElem (by omega))
          clear hx hy
          by_cases hx0 : x0 = y0
          · have e0 : (x0.toList == y0.toList) = true := by rw [hx0]; exact beq_self_eq_true _
            by_cases hx1 : x1 = y1
            · subst hx1
              by_cases hx2 : x2 = y2
              · subst hx2
                by_cases hx3 : x3 = y3
                · subst hx3
                  have HX0 := Hid.of hx0
                  clear hx0
                  go_wp2
                  go_quiet (fail)
                  go_wp2
                  go_roundw
                  case rel =>
                    refine ⟨j + 1, by omega, by go_num, Hid.of ?_, _, rfl⟩
                    have h1 := HX.out
                    rw [HX0.out] at h1
                    rw [List.take_add_one, List.take_add_one, h1, HY.out, E.out]
                  case measure => simp [RowKit.intOf]; omega
                · have e3 : (x3 == y3) = false := beq_eq_false_iff_ne.2 hx3
                  go_wp2
                  go_quiet (fail)
                  go_wp2
                  go_ret
                  exact ⟨by rw [pSame_ne HX.out HY.out (fun e => hx3 (by simp only [Prod.mk.injEq] at e; exact e.2.2.2))]; rfl, below_drewN (below_drewN B1.out _) _⟩
              · have e2 : (x2 == y2) = false := beq_eq_false_iff_ne.2 hx2
                go_wp2
                go_quiet (fail)
                go_wp2
                go_ret
                exact ⟨by rw [pSame_ne HX.out HY.out (fun e => hx2 (by simp only [Prod.mk.injEq] at e; exact e.2.2.1))]; rfl, below_drewN (below_drewN B1.out _) _⟩
            · have e1 : (x1 == y1) = false := beq_eq_false_iff_ne.2 hx1
              go_wp2
              go_quiet (fail)
              go_wp2
              go_ret
              exact ⟨by rw [pSame_ne HX.out HY.out (fun e => hx1 (by simp only [Prod.mk.injEq] at e; exact e.2.1))]; rfl, below_drewN (below_drewN B1.out _) _⟩
          · have e0 : (x0.toList == y0.toList) = false := beq_eq_false_iff_ne.2 (fun c => hx0 (toList_eq c))
            go_wp2
            go_quiet (fail)
            go_wp2
            go_ret
            exact ⟨by rw [pSame_ne HX.out HY.out (fun e => hx0 (by simp only [Prod.mk.injEq] at e; exact e.1))]; rfl, below_drewN (below_drewN B1.out _) _⟩
        · have hjl : j = l.length := by omega
          go_wp2
          go_ret
          refine ⟨?_, below_drewN B1.out _⟩
          have h := E.out
          rw [hjl, List.take_length, hlk, List.take_length] at h
          rw [show pSame (n, l) (m, k) = true from decide_eq_true (by rw [hnm, h])]
          rfl
    · have e1 : ¬ (l.length : Int) = (k.length : Int) := by omega
      go_wp2
      go_ret
      refine ⟨?_, ?_⟩
      · rw [show pSame (n, l) (m, k) = false from decide_eq_false (fun e => hlk (by rw [(Prod.mk.inj e).2]))]
        rfl
      · have h := HW.out
        have h2 := B1.out
        rw [← h] at h2
        first | exact h2 | (rw [hnm] at h2; exact h2)
  · have e0 : (n.toList == m.toList) = false := beq_eq_false_iff_ne.2 (fun c => hnm (toList_eq c))
    go_wp2
    go_ret
    refine ⟨?_, ?_⟩
    · rw [show pSame (n, l) (m, k) = false from decide_eq_false (fun e => hnm (Prod.mk.inj e).1)]
      rfl
    · have h := HW.out
      have h2 := B1.out
      rw [← h] at h2
      exact h2

end Go.Proofs.YtbhcafginmkaaaaGreat

namespace Go.Proofs.YtbhcafginmkaaaaGreat
open Go.RowKit Go.Lib

def In64 (v : Int) : Prop := -9223372036854775808 ≤ v ∧ v ≤ 9223372036854775807

/-- Of a size that a call can take. -/
def PFit (p : PolL) : Prop := p.2.length ≤ 1000000 ∧ p.1.size ≤ 1000000 ∧ ∀ x ∈ p.2, x.1.size ≤ 1000000 ∧ In64 x.2.1 ∧ In64 x.2.2.1 ∧ In64 x.2.2.2

/-- The policy of the first example. -/
def webPol : PolL := (⟨#[119, 101, 98]⟩, [(⟨#[114, 97, 119]⟩, 1, 100, 2), (⟨#[116, 101, 110, 115]⟩, 10, 1000, 1)])

theorem OwnPol.row {B : Nat} {w : World} {v : Value} {p : PolL} (h : OwnPol B w v p) : PolRow w v p := by
  obtain ⟨s, hv, o⟩ := h
  exact ⟨s, hv, own_row o, own_cap o⟩

theorem web_fit : PFit webPol := by
  refine ⟨by decide, by decide, fun x hx => ?_⟩
  simp only [webPol, List.mem_cons, List.not_mem_nil, or_false] at hx
  rcases hx with rfl | rfl <;> exact ⟨by decide, by unfold In64; decide, by unfold In64; decide, by unfold In64; decide⟩

end Go.Proofs.YtbhcafginmkaaaaGreat

namespace Go.Proofs.YtbhcafginmkaaaaGreat
open Go.RowKit Go.Lib

/-- Now, a policy, floors. -/
abbrev RchL := Int × PolL × List Int

/-- The Every of the tier behind one (its own of the last one). -/
def rEvery (l : List TierL) (i : Nat) : Int :=
  match l[i + 1]? with
  | some t => t.2.1
  | none => match l[i]? with
    | some t => t.2.1
    | none => 0

/-- How far back a tier reaches. -/
def rFromN (r : RchL) (i : Nat) : Int :=
  match r.2.1.2[i]? with
  | none => 0
  | some t => match r.2.2[i]? with
    | none => gBack r.1 t.2.2.1 (rEvery r.2.1.2 i)
    | some f => max (gBack r.1 t.2.2.1 (rEvery r.2.1.2 i)) f

def rFrom (r : RchL) (i : Int) : Int := if i < 0 then 0 else rFromN r i.toNat

def rAll (r : RchL) : List Int := (List.range r.2.1.2.length).map (rFromN r)

def rTakes (r : RchL) (n : ByteArray) (t : Int) : Int :=
  if nOk n = false ∨ t < 0 then 1 else if r.1 < t then 25 else if r.2.1.2 = [] ∨ t < rFromN r 0 then 24 else 0

def rStart (r : RchL) (i t : Int) : Int × Bool :=
  if i < 0 ∨ t < 0 then (0, false) else match r.2.1.2[i.toNat]? with
  | none => (0, false)
  | some x => (gFloor t x.2.1, decide (rFromN r i.toNat ≤ gFloor t x.2.1))

/-- The first of the tiers from k on (j of them) that reaches a time. -/
def rFind (r : RchL) (f : Int) (k : Nat) : Nat → Option Nat
  | 0 => none
  | j + 1 => if rFromN r k ≤ f then some k else rFind r f (k + 1) j

def rCover (r : RchL) (f : Int) : Int :=
  match rFind r f 0 r.2.1.2.length with
  | some k => k
  | none => (r.2.1.2.length : Int) - 1

theorem gBack_nonneg (now keep e : Int) : 0 ≤ gBack now keep e := by
  unfold gBack
  split <;> omega

end Go.Proofs.YtbhcafginmkaaaaGreat

namespace Go.Proofs.YtbhcafginmkaaaaGreat
open Go.RowKit Go.Lib

def rVal (r : RchL) (s f : Value) : Value := .agg #[.int .i64 r.1, .string r.2.1.1, s, f]

/-- A Reach that came in or was answered. -/
def RchRow (w : World) (v : Value) (r : RchL) : Prop := ∃ s f, v = rVal r s f ∧ CellRow w s r.2.1.2.length (flat penc r.2.1.2) ∧ CellRow w f r.2.2.length (r.2.2.map (Value.int .i64)) ∧ CapOk s ∧ CapOk f

/-- A Reach of one's own. -/
def OwnRch (B : Nat) (w : World) (v : Value) (r : RchL) : Prop := ∃ s f, v = rVal r s f ∧ w.ownsRow B 89 4 s r.2.1.2.length (flat penc r.2.1.2) ∧ w.ownsRow B 3 1 f r.2.2.length (r.2.2.map (Value.int .i64)) ∧ Apart s f

theorem OwnRch.row {B : Nat} {w : World} {v : Value} {r : RchL} (h : OwnRch B w v r) : RchRow w v r := by
  obtain ⟨s, f, hv, h1, h2, _⟩ := h
  exact ⟨s, f, hv, own_row h1, own_row h2, own_cap h1, own_cap h2⟩

theorem RchRow.kept {w w' : World} {v : Value} {r : RchL} (h : RchRow w v r) (b : Below w.heap.size w w') : RchRow w' v r := by
  obtain ⟨s, f, hv, h1, h2, h3⟩ := h
  exact ⟨s, f, hv, h1.kept b, h2.kept b, h3⟩

/-- Of a size that a call can take. -/
def RFit (r : RchL) : Prop := In64 r.1 ∧ PFit r.2.1 ∧ r.2.2.length ≤ 1000000 ∧ ∀ x ∈ r.2.2, In64 x

/-- A variable that holds a Reach. -/
def RBlk (w : World) (b : Nat) (r : RchL) (s f : Value) : Prop := w.heap[b]? = some (.cells #[.int .i64 r.1, .string r.2.1.1, s, f] 47 (0, 0))

theorem RBlk.made (w : World) (r : RchL) (s f : Value) : RBlk (w.alloc (.cells #[.int .i64 r.1, .string r.2.1.1, s, f] 47)) w.heap.size r s f := Go.heap_alloc_new _ _

theorem RBlk.kept {w w' : World} {b : Nat} {r : RchL} {s f : Value} (h : RBlk w b r s f) (c : Below w.heap.size w w') : RBlk w' b r s f := by
  unfold RBlk at h ⊢
  rw [c.block b (Array.getElem?_eq_some_iff.1 h).1]
  exact h

theorem RBlk.at {w : World} {b : Nat} {r : RchL} {s f : Value} (h : RBlk w b r s f) : w.cell? ⟨b, 0, none⟩ = some (.int .i64 r.1) ∧ w.cell? ⟨b, 1, none⟩ = some (.string r.2.1.1) ∧ w.cell? ⟨b, 2, none⟩ = some s ∧ w.cell? ⟨b, 3, none⟩ = some f := by
  refine ⟨?_, ?_, ?_, ?_⟩ <;> (rw [cell_of_row w b _ _ _ _ h]; rfl)

/-- The document's words on each call; Ok: what was there when the program began. -/
structure ReachSpec where
  Ok : World → Prop
  kept : ∀ {w w'}, Ok w → Below w.heap.size w w' → Ok w'
  of : ∀ (v f : Value) (p : PolL) (now : Int) (fl : List Int) (w : World), Ok w → RFit (now, p, fl) → PolRow w v p → CellRow w f fl.length (fl.map (Value.int .i64)) → CapOk f → Calls Tryz.prog 15 #[v, .int .i64 now, f] w fun e w' => ∃ u, e = .returned u ∧ OwnRch w.heap.size w' u (now, p, fl) ∧ Below w.heap.size w w'
  from_ : ∀ (v : Value) (r : RchL) (i : Int) (w : World), Ok w → RFit r → In64 i → RchRow w v r → Calls Tryz.prog 95 #[v, .int .i64 i] w fun e w' => e = .returned (.int .i64 (rFrom r i)) ∧ Below w.heap.size w w'
  all : ∀ (v : Value) (r : RchL) (w : World), Ok w → RFit r → RchRow w v r → Calls Tryz.prog 237 #[v] w fun e w' => ∃ u, e = .returned u ∧ w'.ownsRow w.heap.size 3 1 u (rAll r).length ((rAll r).map (Value.int .i64)) ∧ Below w.heap.size w w'
  takes : ∀ (v : Value) (r : RchL) (n : ByteArray) (t x : Int) (w : World), Ok w → RFit r → n.size ≤ maxLen → In64 t → RchRow w v r → Calls Tryz.prog 248 #[v, .agg #[.string n, .int .i64 t, .int .i64 x]] w fun e w' => e = .returned (.int .i64 (rTakes r n t)) ∧ Below w.heap.size w w'
  start : ∀ (v : Value) (r : RchL) (i t : Int) (w : World), Ok w → RFit r → In64 i → In64 t → RchRow w v r → Calls Tryz.prog 241 #[v, .int .i64 i, .int .i64 t] w fun e w' => e = .returned (.tuple #[.int .i64 (rStart r i t).1, .bool (rStart r i t).2]) ∧ Below w.heap.size w w'
  cover : ∀ (v : Value) (r : RchL) (f : Int) (w : World), Ok w → RFit r → In64 f → RchRow w v r → Calls Tryz.prog 168 #[v, .int .i64 f] w fun e w' => e = .returned (.int .i64 (rCover r f)) ∧ Below w.heap.size w w'

/-- A variable that holds a Reach, its cells said. -/
structure RH (S : ReachSpec) (w0 : World) (b : Nat) (now : Int) (n : ByteArray) (s f : Value) (r : RchL) (w : World) : Prop where
  k : w.heap[b]? = some (.cells #[.int .i64 now, .string n, s, f] 47 (0, 0))
  x : RchRow w (.agg #[.int .i64 now, .string n, s, f]) r
  ok : S.Ok w
  fr : Below w0.heap.size w0 w

theorem RH.next {S : ReachSpec} {w0 w w' : World} {b : Nat} {now : Int} {n : ByteArray} {s f : Value} {r : RchL} (h : RH S w0 b now n s f r w) (c : Below w.heap.size w w') : RH S w0 b now n s f r w' :=
  ⟨by rw [c.block b (Array.getElem?_eq_some_iff.1 h.k).1]; exact h.k, h.x.kept c, S.kept h.ok c, h.fr.trans (c.mono h.fr.size)⟩

theorem RH.at {S : ReachSpec} {w0 w : World} {b : Nat} {now : Int} {n : ByteArray} {s f : Value} {r : RchL} (h : RH S w0 b now n s f r w) : w.cell? ⟨b, 0, none⟩ = some (.int .i64 now) ∧ w.cell? ⟨b, 1, none⟩ = some (.string n) ∧ w.cell? ⟨b, 2, none⟩ = some s ∧ w.cell? ⟨b, 3, none⟩ = some f := by
  refine ⟨?_, ?_, ?_, ?_⟩ <;> (rw [cell_of_row w b _ _ _ _ h.k]; rfl)

/-- The first example. -/
def webReach : RchL := (257, webPol, [])

theorem webReach_fit : RFit webReach := ⟨⟨by decide, by decide⟩, web_fit, by decide, fun _ h => by cases h⟩

set_option maxRecDepth 20000 in
set_option maxHeartbeats 800000 in
theorem Web_any (w : World) : Calls Tryz.prog 88 #[] w fun e w' => ∃ v, e = .returned v ∧ PolRow w' v webPol ∧ Below w.heap.size w w' := by
  go_enter Tryz.func88, Tryz.ntmps88
  go_wp2_with fail
  refine bodyPost_ret (results_cell_row (P := Tryz.prog) rfl _ _ w.heap.size 24 #[.string ⟨#[119, 101, 98]⟩, .slice (some ⟨w.heap.size + 1, 0, none⟩) 2 2] (0, 0) _ rfl ((Go.heap_alloc_old _ _ (by simp)).trans (Go.heap_alloc_new _ _)) Tryz.underlying24 rfl (by kernel_rfl)) rfl ?_
  have hs : (w.alloc (.cells #[.string ⟨#[119, 101, 98]⟩, .slice (some ⟨w.heap.size + 1, 0, none⟩) 2 2] 24)).heap.size = w.heap.size + 1 := by simp
  have hc := new_cells (w.alloc (.cells #[.string ⟨#[119, 101, 98]⟩, .slice (some ⟨w.heap.size + 1, 0, none⟩) 2 2] 24)) #[.string ⟨#[114, 97, 119]⟩, .int .i64 1, .int .i64 100, .int .i64 2, .string ⟨#[116, 101, 110, 115]⟩, .int .i64 10, .int .i64 1000, .int .i64 1] 89
  rw [hs] at hc
  exact ⟨_, rfl, ⟨_, rfl, ⟨_, _, rfl, .inr ⟨w.heap.size + 1, 0, rfl, by simp, hc⟩⟩, Nat.le_refl _⟩, ((Below.refl _ _).alloc (Nat.le_refl _) _).alloc (by simp) _⟩

end Go.Proofs.YtbhcafginmkaaaaGreat

namespace Go.Proofs.YtbhcafginmkaaaaGreat
open Go.RowKit Go.Lib

/-- A sample in a variable, and a Reach in another one. -/
structure TH (S : ReachSpec) (w0 : World) (b : Nat) (n : ByteArray) (t x : Int) (b5 : Nat) (now : Int) (pn : ByteArray) (s f : Value) (r : RchL) (w : World) : Prop where
  h : RH S w0 b5 now pn s f r w
  k : w.heap[b]? = some (.cells #[.string n, .int .i64 t, .int .i64 x] 159 (0, 0))

section
variable {S : ReachSpec} {w0 w w' : World} {b b5 : Nat} {n pn : ByteArray} {t x now : Int} {s f : Value} {r : RchL}

theorem TH.next (h : TH S w0 b n t x b5 now pn s f r w) (c : Below w.heap.size w w') : TH S w0 b n t x b5 now pn s f r w' :=
  ⟨h.h.next c, by rw [c.block b (Array.getElem?_eq_some_iff.1 h.k).1]; exact h.k⟩

theorem TH.at (h : TH S w0 b n t x b5 now pn s f r w) : w.cell? ⟨b, 0, none⟩ = some (.string n) ∧ w.cell? ⟨b, 1, none⟩ = some (.int .i64 t) ∧ w.cell? ⟨b, 2, none⟩ = some (.int .i64 x) ∧ w.cell? ⟨b5, 0, none⟩ = some (.int .i64 now) ∧ w.cell? ⟨b5, 1, none⟩ = some (.string pn) ∧ w.cell? ⟨b5, 2, none⟩ = some s ∧ w.cell? ⟨b5, 3, none⟩ = some f := by
  refine ⟨?_, ?_, ?_, h.h.at⟩ <;> (rw [cell_of_row w b _ _ _ _ h.k]; rfl)
end

end Go.Proofs.YtbhcafginmkaaaaGreat

namespace Go.Proofs.YtbhcafginmkaaaaGreat
open Go.RowKit Go.Lib

/-- A Reach is put into a variable. -/
def setR (v : World) (b : Nat) (now : Int) (n : ByteArray) (s f : Value) : World := (((v.setCell ⟨b, 0, none⟩ (.int .i64 now)).setCell ⟨b, 1, none⟩ (.string n)).setCell ⟨b, 2, none⟩ s).setCell ⟨b, 3, none⟩ f

abbrev KBlk (w : World) (b : Nat) (now : Int) (n : ByteArray) (s f : Value) : Prop := w.heap[b]? = some (.cells #[.int .i64 now, .string n, s, f] 47 (0, 0))

theorem kblk_set {w : World} {b : Nat} {now now' : Int} {n n' : ByteArray} {s f s' f' : Value} (h : KBlk w b now n s f) : KBlk (setR w b now' n' s' f') b now' n' s' f' := by
  have := row_set (i := 3) (row_set (i := 2) (row_set (i := 1) (row_set (i := 0) h (.int .i64 now')) (.string n')) s') f'
  unfold setR
  show _ = _
  rw [this]
  simp

theorem setR_grown (w : World) (b : Nat) (now : Int) (n : ByteArray) (s f : Value) : w.grownBy (setR w b now n s f) (some b) :=
  grownBy_trans (grownBy_trans (grownBy_trans (grownBy_setCell _ _ _ _) (grownBy_setCell _ _ _ _)) (grownBy_setCell _ _ _ _)) (grownBy_setCell _ _ _ _)

theorem kblk_next {w w' : World} {b : Nat} {now : Int} {n : ByteArray} {s f : Value} (h : KBlk w b now n s f) (c : Below w.heap.size w w') : KBlk w' b now n s f := by
  show _ = _
  rw [c.block b (Array.getElem?_eq_some_iff.1 h).1]
  exact h

theorem kblk_at {w : World} {b : Nat} {now : Int} {n : ByteArray} {s f : Value} (h : KBlk w b now n s f) : w.cell? ⟨b, 0, none⟩ = some (.int .i64 now) ∧ w.cell? ⟨b, 1, none⟩ = some (.string n) ∧ w.cell? ⟨b, 2, none⟩ = some s ∧ w.cell? ⟨b, 3, none⟩ = some f := by
  refine ⟨?_, ?_, ?_, ?_⟩ <;> (rw [cell_of_row w b _ _ _ _ h]; rfl)

end Go.Proofs.YtbhcafginmkaaaaGreat
