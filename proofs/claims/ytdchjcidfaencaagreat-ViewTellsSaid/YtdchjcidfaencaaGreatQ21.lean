/-
  A bundle of texts: POM POP POS RM RP TBP RKB.
-/
import Derived.Lib.ItoaNum
import Derived.Test.YtdchjcidfaencaaGreatQ04
import Derived.Test.YtdchjcidfaencaaGreatQ08
import Derived.Test.YtdchjcidfaencaaGreatQ15
import Derived.Test.YtdchjcidfaencaaGreatQ07
import Derived.Test.YtdchjcidfaencaaGreatQ02
import Derived.Test.YtdchjcidfaencaaGreatQ13
import Derived.Test.YtdchjcidfaencaaGreatQ06
namespace Go.Proofs.YtdchjcidfaencaaGreat
open Go.RowKit Go.Lib

/-- A policy: its name and its tiers (name, every, keep, shards). -/
abbrev PolL := ByteArray × List TierL

def PolL.none : PolL := (⟨#[]⟩, [])

end Go.Proofs.YtdchjcidfaencaaGreat

namespace Go.Proofs.YtdchjcidfaencaaGreat
open Go.RowKit Go.Lib

/-- A policy, as a value: its name and the slice of its tiers. -/
abbrev polVal (n : ByteArray) (s : Value) : Value := .agg #[.string n, s]

/-- A slice is not longer than its room. -/
def CapOk : Value → Prop
  | .slice _ n c => n ≤ c
  | _ => True

theorem own_cap {w : World} {B : Nat} {e : TypeId} {s : Nat} {v : Value} {n : Nat} {xs : List Value} (h : w.ownsRow B e s v n xs) : CapOk v := by
  obtain ⟨hl, h⟩ := h
  rcases h with ⟨rfl, rfl⟩ | ⟨g, cap, cur, rfl, hB, hrow, hcap, hmax, hcs, htk⟩
  · exact Nat.le_refl _
  · exact hcap

theorem LentRow.cap {w : World} {B : Nat} {v : Value} {n : Nat} {xs mark : List Value} (h : LentRow w B v n xs mark) : CapOk v := by
  obtain ⟨g, cap, rfl, hB, hg, hc, hm, hcs⟩ := h
  show n ≤ cap
  omega

/-- The value v is the policy p. -/
def PolRow (w : World) (v : Value) (p : PolL) : Prop := ∃ s, v = polVal p.1 s ∧ CellRow w s p.2.length (flat penc p.2) ∧ CapOk s

/-- One of one's own above B. -/
def OwnPol (B : Nat) (w : World) (v : Value) (p : PolL) : Prop := ∃ s, v = polVal p.1 s ∧ w.ownsRow B 31 4 s p.2.length (flat penc p.2)

theorem PolRow.kept {w w' : World} {v : Value} {p : PolL} (h : PolRow w v p) (b : Below w.heap.size w w') : PolRow w' v p := by
  obtain ⟨s, hv, hs, hk⟩ := h
  exact ⟨s, hv, hs.kept b, hk⟩

/-- Few tiers, short names. -/
def PSmall (p : PolL) : Prop := p.2.length ≤ 10 ∧ p.1.size ≤ 60 ∧ ∀ x ∈ p.2, x.1.size ≤ 60

/-- A variable that holds a policy. -/
def PBlk (w : World) (b : Nat) (n : ByteArray) (s : Value) : Prop := w.heap[b]? = some (.cells #[.string n, s] 24 (0, 0))

theorem PBlk.made (w : World) (n : ByteArray) (s : Value) : PBlk (w.alloc (.cells #[.string n, s] 24)) w.heap.size n s := Go.heap_alloc_new _ _

theorem PBlk.kept {w w' : World} {b : Nat} {n : ByteArray} {s : Value} (h : PBlk w b n s) (c : Below w.heap.size w w') : PBlk w' b n s := by
  unfold PBlk at h ⊢
  rw [c.block b (Array.getElem?_eq_some_iff.1 h).1]
  exact h

theorem PBlk.at {w : World} {b : Nat} {n : ByteArray} {s : Value} (h : PBlk w b n s) : w.cell? ⟨b, 0, none⟩ = some (.string n) ∧ w.cell? ⟨b, 1, none⟩ = some s := by
  refine ⟨?_, ?_⟩ <;> (rw [cell_of_row w b _ _ _ _ h]; rfl)

set_option maxRecDepth 20000 in
set_option maxHeartbeats 1600000 in
theorem Small_any (v : Value) (p : PolL) (w : World) (hv : PolRow w v p) :
    Calls Tryz.prog 4 #[v] w fun e w' => ∃ r : Bool, e = .returned (.bool r) ∧ Hid (r = true → PSmall p) ∧ Below w.heap.size w w' := by
  obtain ⟨n, l⟩ := p
  obtain ⟨s, rfl, hs, -⟩ := hv
  simp only at hs
  have HS := Hid.of hs
  obtain ⟨sa, sc, rfl, -⟩ := hs
  go_enter Tryz.func4, Tryz.ntmps4
  go_wp2
  go_loopw [3] (fun i wr => ∃ j : Nat, j ≤ l.length ∧ j ≤ 12 ∧ i = .int .i64 j ∧ Hid (PBlk wr w.heap.size n (.slice sa l.length sc)) ∧ Hid (∀ x ∈ l.take j, x.1.size ≤ 60) ∧ Below w.heap.size w wr) (fun i _ => 12 - (RowKit.intOf i).toNat)
  case atStart => exact ⟨0, Nat.zero_le _, by decide, rfl, Hid.of (PBlk.made _ _ _), Hid.of (by simp), (Below.refl _ _).alloc (Nat.le_refl _) _⟩
  case round =>
    obtain ⟨j, hj, hj12, rfl, K, A, hb⟩ := hrel
    obtain ⟨c0, c1⟩ := K.out.at
    have i0 : (0 : Int) ≤ (j : Int) := Int.natCast_nonneg _
    by_cases hlt : j < l.length
    · have i1 : (j : Int) < (l.length : Int) := by omega
      by_cases h12 : j < 12
      · have i2 : (j : Int) < 12 := by omega
        obtain ⟨b1, o1, rfl, hl1, hc1⟩ := p_at HS.out j l[j] (by simp [hlt])
        obtain ⟨x, hx⟩ : ∃ x, l[j] = x := ⟨_, rfl⟩
        rw [hx] at hc1
        obtain ⟨d0, -, -, -⟩ := hc1
        rw [← hb.cell hl1] at d0
        have HX := Hid.of hx
        by_cases h60 : x.1.size ≤ 60
        · have i3 : ¬ (60 : Int) < (x.1.size : Int) := by omega
          clear hx
          go_wp2
          go_roundw
          case rel =>
            refine ⟨j + 1, by omega, by omega, by go_num, K, Hid.of ?_, hb⟩
            intro y hy
            rw [List.take_succ_eq_append_getElem hlt, List.mem_append, List.mem_singleton, HX.out] at hy
            rcases hy with hy | rfl
            · exact A.out y hy
            · exact h60
          case measure => simp [RowKit.intOf]; omega
        · have i3 : (60 : Int) < (x.1.size : Int) := by omega
          clear hx
          go_wp2
          go_ret
          exact ⟨false, rfl, Hid.of (fun h => by cases h), hb⟩
      · have i2 : ¬ (j : Int) < 12 := by omega
        have i3 : ¬ (l.length : Int) ≤ 10 := by omega
        go_wp2
        go_ret
        exact .inl ⟨rfl, Hid.of trivial, hb⟩
    · have i1 : ¬ (j : Int) < (l.length : Int) := by omega
      have hjl : j = l.length := by omega
      by_cases h10 : l.length ≤ 10
      · have i3 : (l.length : Int) ≤ 10 := by omega
        by_cases h60 : n.size ≤ 60
        · have i4 : (n.size : Int) ≤ 60 := by omega
          go_wp2
          go_ret
          refine .inr ⟨rfl, Hid.of ⟨h10, h60, fun x hx => ?_⟩, hb⟩
          have := A.out x
          rw [hjl, List.take_length] at this
          exact this hx
        · have i4 : ¬ (n.size : Int) ≤ 60 := by omega
          go_wp2
          go_ret
          exact .inl ⟨rfl, Hid.of trivial, hb⟩
      · have i3 : ¬ (l.length : Int) ≤ 10 := by omega
        go_wp2
        go_ret
        exact .inl ⟨rfl, Hid.of trivial, hb⟩

end Go.Proofs.YtdchjcidfaencaaGreat

namespace Go.Proofs.YtdchjcidfaencaaGreat
open Go.RowKit Go.Lib

def In64 (v : Int) : Prop := -9223372036854775808 ≤ v ∧ v ≤ 9223372036854775807

/-- Of a size that a call can take. -/
def PFit (p : PolL) : Prop := p.2.length ≤ 1000000 ∧ p.1.size ≤ 1000000 ∧ ∀ x ∈ p.2, x.1.size ≤ 1000000 ∧ In64 x.2.1 ∧ In64 x.2.2.1 ∧ In64 x.2.2.2

/-- The policy of the first example. -/
def webPol : PolL := (⟨#[119, 101, 98]⟩, [(⟨#[114, 97, 119]⟩, 1, 100, 2), (⟨#[116, 101, 110, 115]⟩, 10, 1000, 1)])

theorem OwnPol.row {B : Nat} {w : World} {v : Value} {p : PolL} (h : OwnPol B w v p) : PolRow w v p := by
  obtain ⟨s, hv, o⟩ := h
  exact ⟨s, hv, own_row o, own_cap o⟩

theorem web_fit : PFit webPol := by
  refine ⟨by decide, by decide, fun x hx => ?_⟩
  simp only [webPol, List.mem_cons, List.not_mem_nil, or_false] at hx
  rcases hx with rfl | rfl <;> exact ⟨by decide, by unfold In64; decide, by unfold In64; decide, by unfold In64; decide⟩

end Go.Proofs.YtdchjcidfaencaaGreat

namespace Go.Proofs.YtdchjcidfaencaaGreat
open Go.RowKit Go.Lib

/-- Now, a policy, floors. -/
abbrev RchL := Int × PolL × List Int

/-- The Every of the tier behind one (its own of the last one). -/
def rEvery (l : List TierL) (i : Nat) : Int :=
  match l[i + 1]? with
  | some t => t.2.1
  | none => match l[i]? with
    | some t => t.2.1
    | none => 0

/-- How far back a tier reaches. -/
def rFromN (r : RchL) (i : Nat) : Int :=
  match r.2.1.2[i]? with
  | none => 0
  | some t => match r.2.2[i]? with
    | none => gBack r.1 t.2.2.1 (rEvery r.2.1.2 i)
    | some f => max (gBack r.1 t.2.2.1 (rEvery r.2.1.2 i)) f

def rFrom (r : RchL) (i : Int) : Int := if i < 0 then 0 else rFromN r i.toNat

def rStart (r : RchL) (i t : Int) : Int × Bool :=
  if i < 0 ∨ t < 0 then (0, false) else match r.2.1.2[i.toNat]? with
  | none => (0, false)
  | some x => (gFloor t x.2.1, decide (rFromN r i.toNat ≤ gFloor t x.2.1))

/-- The first of the tiers from k on (j of them) that reaches a time. -/
def rFind (r : RchL) (f : Int) (k : Nat) : Nat → Option Nat
  | 0 => none
  | j + 1 => if rFromN r k ≤ f then some k else rFind r f (k + 1) j

def rCover (r : RchL) (f : Int) : Int :=
  match rFind r f 0 r.2.1.2.length with
  | some k => k
  | none => (r.2.1.2.length : Int) - 1

theorem gBack_nonneg (now keep e : Int) : 0 ≤ gBack now keep e := by
  unfold gBack
  split <;> omega

end Go.Proofs.YtdchjcidfaencaaGreat

namespace Go.Proofs.YtdchjcidfaencaaGreat
open Go.RowKit Go.Lib

def rVal (r : RchL) (s f : Value) : Value := .agg #[.int .i64 r.1, .string r.2.1.1, s, f]

/-- A Reach that came in or was answered. -/
def RchRow (w : World) (v : Value) (r : RchL) : Prop := ∃ s f, v = rVal r s f ∧ CellRow w s r.2.1.2.length (flat penc r.2.1.2) ∧ CellRow w f r.2.2.length (r.2.2.map (Value.int .i64)) ∧ CapOk s ∧ CapOk f

/-- A Reach of one's own. -/
def OwnRch (B : Nat) (w : World) (v : Value) (r : RchL) : Prop := ∃ s f, v = rVal r s f ∧ w.ownsRow B 31 4 s r.2.1.2.length (flat penc r.2.1.2) ∧ w.ownsRow B 3 1 f r.2.2.length (r.2.2.map (Value.int .i64)) ∧ Apart s f

theorem OwnRch.row {B : Nat} {w : World} {v : Value} {r : RchL} (h : OwnRch B w v r) : RchRow w v r := by
  obtain ⟨s, f, hv, h1, h2, _⟩ := h
  exact ⟨s, f, hv, own_row h1, own_row h2, own_cap h1, own_cap h2⟩

theorem RchRow.kept {w w' : World} {v : Value} {r : RchL} (h : RchRow w v r) (b : Below w.heap.size w w') : RchRow w' v r := by
  obtain ⟨s, f, hv, h1, h2, h3⟩ := h
  exact ⟨s, f, hv, h1.kept b, h2.kept b, h3⟩

/-- Of a size that a call can take. -/
def RFit (r : RchL) : Prop := In64 r.1 ∧ PFit r.2.1 ∧ r.2.2.length ≤ 1000000 ∧ ∀ x ∈ r.2.2, In64 x

/-- A variable that holds a Reach. -/
def RBlk (w : World) (b : Nat) (r : RchL) (s f : Value) : Prop := w.heap[b]? = some (.cells #[.int .i64 r.1, .string r.2.1.1, s, f] 46 (0, 0))

theorem RBlk.made (w : World) (r : RchL) (s f : Value) : RBlk (w.alloc (.cells #[.int .i64 r.1, .string r.2.1.1, s, f] 46)) w.heap.size r s f := Go.heap_alloc_new _ _

theorem RBlk.kept {w w' : World} {b : Nat} {r : RchL} {s f : Value} (h : RBlk w b r s f) (c : Below w.heap.size w w') : RBlk w' b r s f := by
  unfold RBlk at h ⊢
  rw [c.block b (Array.getElem?_eq_some_iff.1 h).1]
  exact h

theorem RBlk.at {w : World} {b : Nat} {r : RchL} {s f : Value} (h : RBlk w b r s f) : w.cell? ⟨b, 0, none⟩ = some (.int .i64 r.1) ∧ w.cell? ⟨b, 1, none⟩ = some (.string r.2.1.1) ∧ w.cell? ⟨b, 2, none⟩ = some s ∧ w.cell? ⟨b, 3, none⟩ = some f := by
  refine ⟨?_, ?_, ?_, ?_⟩ <;> (rw [cell_of_row w b _ _ _ _ h]; rfl)

/-- The document's words on each call; Ok: what was there when the program began. -/
structure ReachSpec where
  Ok : World → Prop
  kept : ∀ {w w'}, Ok w → Below w.heap.size w w' → Ok w'
  of : ∀ (v f : Value) (p : PolL) (now : Int) (fl : List Int) (w : World), Ok w → RFit (now, p, fl) → PolRow w v p → CellRow w f fl.length (fl.map (Value.int .i64)) → CapOk f → Calls Tryz.prog 7 #[v, .int .i64 now, f] w fun e w' => ∃ u, e = .returned u ∧ OwnRch w.heap.size w' u (now, p, fl) ∧ Below w.heap.size w w'
  from_ : ∀ (v : Value) (r : RchL) (i : Int) (w : World), Ok w → RFit r → In64 i → RchRow w v r → Calls Tryz.prog 84 #[v, .int .i64 i] w fun e w' => e = .returned (.int .i64 (rFrom r i)) ∧ Below w.heap.size w w'
  start : ∀ (v : Value) (r : RchL) (i t : Int) (w : World), Ok w → RFit r → In64 i → In64 t → RchRow w v r → Calls Tryz.prog 73 #[v, .int .i64 i, .int .i64 t] w fun e w' => e = .returned (.tuple #[.int .i64 (rStart r i t).1, .bool (rStart r i t).2]) ∧ Below w.heap.size w w'
  cover : ∀ (v : Value) (r : RchL) (f : Int) (w : World), Ok w → RFit r → In64 f → RchRow w v r → Calls Tryz.prog 35 #[v, .int .i64 f] w fun e w' => e = .returned (.int .i64 (rCover r f)) ∧ Below w.heap.size w w'

/-- A variable that holds a Reach, its cells said. -/
structure RH (S : ReachSpec) (w0 : World) (b : Nat) (now : Int) (n : ByteArray) (s f : Value) (r : RchL) (w : World) : Prop where
  k : w.heap[b]? = some (.cells #[.int .i64 now, .string n, s, f] 46 (0, 0))
  x : RchRow w (.agg #[.int .i64 now, .string n, s, f]) r
  ok : S.Ok w
  fr : Below w0.heap.size w0 w

theorem RH.next {S : ReachSpec} {w0 w w' : World} {b : Nat} {now : Int} {n : ByteArray} {s f : Value} {r : RchL} (h : RH S w0 b now n s f r w) (c : Below w.heap.size w w') : RH S w0 b now n s f r w' :=
  ⟨by rw [c.block b (Array.getElem?_eq_some_iff.1 h.k).1]; exact h.k, h.x.kept c, S.kept h.ok c, h.fr.trans (c.mono h.fr.size)⟩

theorem RH.at {S : ReachSpec} {w0 w : World} {b : Nat} {now : Int} {n : ByteArray} {s f : Value} {r : RchL} (h : RH S w0 b now n s f r w) : w.cell? ⟨b, 0, none⟩ = some (.int .i64 now) ∧ w.cell? ⟨b, 1, none⟩ = some (.string n) ∧ w.cell? ⟨b, 2, none⟩ = some s ∧ w.cell? ⟨b, 3, none⟩ = some f := by
  refine ⟨?_, ?_, ?_, ?_⟩ <;> (rw [cell_of_row w b _ _ _ _ h.k]; rfl)

set_option maxRecDepth 20000 in
set_option maxHeartbeats 800000 in
theorem Web_any (w : World) : Calls Tryz.prog 22 #[] w fun e w' => ∃ v, e = .returned v ∧ PolRow w' v webPol ∧ Below w.heap.size w w' := by
  go_enter Tryz.func22, Tryz.ntmps22
  go_wp2_with fail
  refine bodyPost_ret (results_cell_row (P := Tryz.prog) rfl _ _ w.heap.size 24 #[.string ⟨#[119, 101, 98]⟩, .slice (some ⟨w.heap.size + 1, 0, none⟩) 2 2] (0, 0) _ rfl ((Go.heap_alloc_old _ _ (by simp)).trans (Go.heap_alloc_new _ _)) Tryz.underlying24 rfl (by kernel_rfl)) rfl ?_
  have hs : (w.alloc (.cells #[.string ⟨#[119, 101, 98]⟩, .slice (some ⟨w.heap.size + 1, 0, none⟩) 2 2] 24)).heap.size = w.heap.size + 1 := by simp
  have hc := new_cells (w.alloc (.cells #[.string ⟨#[119, 101, 98]⟩, .slice (some ⟨w.heap.size + 1, 0, none⟩) 2 2] 24)) #[.string ⟨#[114, 97, 119]⟩, .int .i64 1, .int .i64 100, .int .i64 2, .string ⟨#[116, 101, 110, 115]⟩, .int .i64 10, .int .i64 1000, .int .i64 1] 31
  rw [hs] at hc
  exact ⟨_, rfl, ⟨_, rfl, ⟨_, _, rfl, .inr ⟨w.heap.size + 1, 0, rfl, by simp, hc⟩⟩, Nat.le_refl _⟩, ((Below.refl _ _).alloc (Nat.le_refl _) _).alloc (by simp) _⟩

end Go.Proofs.YtdchjcidfaencaaGreat

namespace Go.Proofs.YtdchjcidfaencaaGreat
open Go.RowKit Go.Lib

/-- A pointer to block p. -/
abbrev tptr (p : Nat) : Value := .pointer (some ⟨p, 0, none⟩)

/-- A record's cells. -/
def rl (x : TRec) : RecL := (x.n, x.s, x.a.c, x.a.hi, x.a.lo, x.a.mn, x.a.mx)

/-- An int of 64 bits. -/
def TIn64 (v : Int) : Prop := -9223372036854775808 ≤ v ∧ v ≤ 9223372036854775807

/-- Such as memory can hold. -/
def TFit (r : TRec) : Prop := r.n.size ≤ maxLen ∧ TIn64 r.s ∧ AgIn r.a

/-- The records of a series between two times. -/
def tRange (l : List TRec) (n : ByteArray) (f t : Int) : List TRec := l.filter fun x => decide (x.n = n) && decide (f ≤ x.s) && decide (x.s < t)
def tHas (l : List TRec) (k : TKey) : Bool := l.any fun x => decide (x.k = k)
section

end

end Go.Proofs.YtdchjcidfaencaaGreat

namespace Go.Proofs.YtdchjcidfaencaaGreat
open Go.RowKit Go.Lib

/-- A Reach is put into a variable. -/
def setR (v : World) (b : Nat) (now : Int) (n : ByteArray) (s f : Value) : World := (((v.setCell ⟨b, 0, none⟩ (.int .i64 now)).setCell ⟨b, 1, none⟩ (.string n)).setCell ⟨b, 2, none⟩ s).setCell ⟨b, 3, none⟩ f

abbrev KBlk (w : World) (b : Nat) (now : Int) (n : ByteArray) (s f : Value) : Prop := w.heap[b]? = some (.cells #[.int .i64 now, .string n, s, f] 46 (0, 0))

theorem kblk_set {w : World} {b : Nat} {now now' : Int} {n n' : ByteArray} {s f s' f' : Value} (h : KBlk w b now n s f) : KBlk (setR w b now' n' s' f') b now' n' s' f' := by
  have := row_set (i := 3) (row_set (i := 2) (row_set (i := 1) (row_set (i := 0) h (.int .i64 now')) (.string n')) s') f'
  unfold setR
  show _ = _
  rw [this]
  simp

theorem setR_grown (w : World) (b : Nat) (now : Int) (n : ByteArray) (s f : Value) : w.grownBy (setR w b now n s f) (some b) :=
  grownBy_trans (grownBy_trans (grownBy_trans (grownBy_setCell _ _ _ _) (grownBy_setCell _ _ _ _)) (grownBy_setCell _ _ _ _)) (grownBy_setCell _ _ _ _)

theorem kblk_next {w w' : World} {b : Nat} {now : Int} {n : ByteArray} {s f : Value} (h : KBlk w b now n s f) (c : Below w.heap.size w w') : KBlk w' b now n s f := by
  show _ = _
  rw [c.block b (Array.getElem?_eq_some_iff.1 h).1]
  exact h

theorem kblk_at {w : World} {b : Nat} {now : Int} {n : ByteArray} {s f : Value} (h : KBlk w b now n s f) : w.cell? ⟨b, 0, none⟩ = some (.int .i64 now) ∧ w.cell? ⟨b, 1, none⟩ = some (.string n) ∧ w.cell? ⟨b, 2, none⟩ = some s ∧ w.cell? ⟨b, 3, none⟩ = some f := by
  refine ⟨?_, ?_, ?_, ?_⟩ <;> (rw [cell_of_row w b _ _ _ _ h]; rfl)

end Go.Proofs.YtdchjcidfaencaaGreat
