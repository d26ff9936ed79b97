/-
  A bundle of texts: POM RM POP POF POG POS RP RTK POQ RKB.
-/
import Derived.Lib.ItoaNum
import Derived.Deep.RegionHeld3
import Derived.Deep.DeepCutAuto
import Derived.Deep.QuietTactic
import Derived.BigQuiet
import Derived.Test.YtfbgjoildibikaaQ06
import Derived.Test.YtfbgjoildibikaaQ12
import Derived.Test.YtfbgjoildibikaaQ05
import Derived.Test.YtfbgjoildibikaaQ01
import Derived.Test.YtfbgjoildibikaaQ10
/-
  Policies, plain: what may be, what is printed, what is read.
-/
namespace Go.Proofs.Ytfbgjoildibikaa
open Go.RowKit Go.Lib

/-- A policy: its name and its tiers (name, every, keep, shards). -/
abbrev PolL := ByteArray × List TierL

def PolL.none : PolL := (⟨#[]⟩, [])

/-! ## What may be -/

/-- May t stand behind the tiers d? -/
def tierOk (d : List TierL) (t : TierL) : Bool :=
  nOk t.1 && decide (1 ≤ t.2.2.1) && decide (t.2.2.1 ≤ 1000000) && decide (1 ≤ t.2.2.2) && decide (t.2.2.2 ≤ 8) && decide (1 ≤ t.2.1) && decide (t.2.1 ≤ 1000000) && d.all (fun o => !(o.1.toList == t.1.toList)) &&
  match d.getLast? with
  | none => decide (t.2.1 = 1)
  | some o => decide (o.2.1 < t.2.1) && decide (t.2.1 % o.2.1 = 0) && decide (o.2.2.1 ≤ t.2.2.1)

/-- The number of the first tier that may not be. -/
def pBad : List TierL → List TierL → Option Nat
  | _, [] => none
  | d, t :: r => if tierOk d t then pBad (d ++ [t]) r else some (d.length + 1)

def pCheck (p : PolL) : Int × Int :=
  if nOk p.1 = false ∨ p.2.length < 1 ∨ 5 < p.2.length then (23, 0) else match pBad [] p.2 with
    | some i => (23, i)
    | none => (0, 0)

/-! ## Numbers -/

def pDec : Nat → List UInt8 → Option Nat
  | a, [] => some a
  | a, c :: r => if 48 ≤ c.toNat ∧ c.toNat ≤ 57 then pDec (a * 10 + (c.toNat - 48)) r else none

def pMag (neg : Bool) (r : List UInt8) : Option Int :=
  if r.length < 1 ∨ 18 < r.length ∨ (r.head?.map (·.toNat) = some 48 ∧ (1 < r.length ∨ neg = true)) then none
  else (pDec 0 r).map fun u => if neg then -(u : Int) else u

/-- The number that a word is. -/
def pNum (l : List UInt8) : Option Int :=
  match l with
  | c :: r => if c.toNat = 45 then pMag true r else pMag false (c :: r)
  | [] => none

/-! ## What is printed -/

def sPolicy : List UInt8 := [112, 111, 108, 105, 99, 121]
def sTier : List UInt8 := [116, 105, 101, 114]
def sEvery : List UInt8 := [101, 118, 101, 114, 121]
def sKeep : List UInt8 := [107, 101, 101, 112]
def sShards : List UInt8 := [115, 104, 97, 114, 100, 115]

/-- The words of a line of a tier. -/
def tierWords (t : TierL) : List (List UInt8) := [sTier, t.1.data.toList, sEvery, itoa t.2.1, sKeep, itoa t.2.2.1, sShards, itoa t.2.2.2]
def headWords (p : PolL) : List (List UInt8) := [sPolicy, p.1.data.toList]
def polWords (p : PolL) : List (List (List UInt8)) := headWords p :: p.2.map tierWords

/-- Words with one blank between them. -/
def oneLine : List (List UInt8) → List UInt8
  | [] => []
  | [w] => w
  | w :: x :: r => w ++ 32 :: oneLine (x :: r)

def polText (p : PolL) : List UInt8 := ((polWords p).map fun l => oneLine l ++ [10]).flatten

def pPrint (p : PolL) : ByteArray × Int := if (pCheck p).1 = 0 then (⟨(polText p).toArray⟩, 0) else (⟨#[]⟩, (pCheck p).1)

/-! ## What is read -/

/-- The tier that a line is. -/
def tierOf (l : List (List UInt8)) : Option TierL :=
  match l with
  | [a, n, b, e, c, k, d, s] =>
    if a = sTier ∧ b = sEvery ∧ c = sKeep ∧ d = sShards then
      match pNum e, pNum k, pNum s with
      | some x, some y, some z => some (⟨n.toArray⟩, x, y, z)
      | _, _, _ => none
    else none
  | _ => none

def texts (l : List WdL) : List (List UInt8) := l.map fun x => x.1.data.toList

/-- Lines of tiers; or the line of the first that is none. -/
def pTiers : Nat → List WdL → List TierL → List TierL ⊕ Int
  | 0, _, d => .inl d
  | n + 1, ws, d => match ws with
    | [] => .inl d
    | x :: r =>
      match tierOf (texts ((x :: r).take (wLine (x :: r)))) with
      | none => .inr x.2.1
      | some t => if 5 ≤ d.length then .inr x.2.1 else pTiers n ((x :: r).drop (wLine (x :: r))) (d ++ [t])

/-- Of the words. -/
def pOf (ws : List WdL) : PolL × Int × Int :=
  match ws with
  | [] => (PolL.none, 22, 1)
  | x :: r =>
    match texts ((x :: r).take (wLine (x :: r))) with
    | [a, n] => if a = sPolicy then
        match pTiers (x :: r).length ((x :: r).drop (wLine (x :: r))) [] with
        | .inl d => ((⟨n.toArray⟩, d), 0, 0)
        | .inr k => (PolL.none, 22, k)
      else (PolL.none, 22, x.2.1)
    | _ => (PolL.none, 22, x.2.1)

def pParse (t : List UInt8) : PolL × Int × Int :=
  match wCut t with
  | (none, e, n) => (PolL.none, e, n)
  | (some ws, _, _) => pOf ws

def pRead (t : List UInt8) : PolL × Int × Int :=
  if (pParse t).2.1 ≠ 0 then (PolL.none, (pParse t).2)
  else if (pCheck (pParse t).1).1 ≠ 0 then (PolL.none, pCheck (pParse t).1)
  else ((pParse t).1, 0, 0)

/-! ## Numbers that are printed are read -/

theorem pDec_append (a : Nat) (x y : List UInt8) : pDec a (x ++ y) = (pDec a x).bind fun b => pDec b y := by
  induction x generalizing a with
  | nil => rfl
  | cons c r ih =>
    rw [List.cons_append, pDec, pDec]
    split
    · exact ih _
    · rfl

theorem digit_back (d : Nat) (h : d < 10) : (UInt8.ofNat (48 + d)).toNat = 48 + d := by
  rw [UInt8.toNat_ofNat']
  omega

theorem pDig_one (u : Nat) (h : u < 10) : decDigits u = [UInt8.ofNat (48 + u)] := by rw [decDigits, dif_pos h]

theorem pDig_step (u : Nat) (h : ¬ u < 10) : decDigits u = decDigits (u / 10) ++ [UInt8.ofNat (48 + u % 10)] := by rw [decDigits, dif_neg h]

theorem pDec_digits (u : Nat) : pDec 0 (decDigits u) = some u := by
  induction u using Nat.strongRecOn with
  | _ u ih =>
    by_cases h : u < 10
    · rw [pDig_one u h, pDec, digit_back u h, if_pos (by omega), pDec]
      congr 1
      omega
    · rw [pDig_step u h, pDec_append, ih (u / 10) (by omega)]
      show pDec (u / 10) [UInt8.ofNat (48 + u % 10)] = _
      rw [pDec, digit_back _ (by omega), if_pos (by omega), pDec]
      congr 1
      omega

theorem digits_few (k u : Nat) (hk : 1 ≤ k) (h : u < 10 ^ k) : 1 ≤ (decDigits u).length ∧ (decDigits u).length ≤ k := by
  induction k generalizing u with
  | zero => omega
  | succ k ih =>
    by_cases h1 : u < 10
    · rw [pDig_one u h1]
      simp
    · rw [pDig_step u h1, List.length_append]
      by_cases hk0 : k = 0
      · subst hk0
        simp at h
        omega
      · have := ih (u / 10) (by omega) (by rw [Nat.pow_succ] at h; omega)
        simp
        omega

/-- The digits of a number above 0: the first is none of 0 and '-', each is a digit. -/
theorem digits_head (u : Nat) (h0 : 0 < u) : ∃ c r, decDigits u = c :: r ∧ 49 ≤ c.toNat ∧ c.toNat ≤ 57 := by
  induction u using Nat.strongRecOn with
  | _ u ih =>
    by_cases h : u < 10
    · exact ⟨_, [], pDig_one u h, by rw [digit_back u h]; omega, by rw [digit_back u h]; omega⟩
    · obtain ⟨c, r, h1, h2, h3⟩ := ih (u / 10) (by omega) (by omega)
      exact ⟨c, r ++ [UInt8.ofNat (48 + u % 10)], by rw [pDig_step u h, h1]; rfl, h2, h3⟩

theorem digits_all (u : Nat) : ∀ c ∈ decDigits u, 48 ≤ c.toNat ∧ c.toNat ≤ 57 := by
  induction u using Nat.strongRecOn with
  | _ u ih =>
    by_cases h : u < 10
    · rw [pDig_one u h]
      intro c hc
      simp only [List.mem_singleton] at hc
      rw [hc, digit_back u h]
      omega
    · rw [pDig_step u h]
      intro c hc
      rw [List.mem_append] at hc
      rcases hc with hc | hc
      · exact ih (u / 10) (by omega) c hc
      · simp only [List.mem_singleton] at hc
        rw [hc, digit_back _ (by omega)]
        omega

theorem pNum_itoa (v : Int) (h1 : 1 ≤ v) (h2 : v ≤ 1000000) : pNum (itoa v) = some v := by
  obtain ⟨u, rfl⟩ : ∃ u : Nat, v = u := ⟨v.toNat, by omega⟩
  have e : itoa (u : Int) = decDigits u := by
    unfold itoa
    rw [if_neg (by omega), Int.toNat_natCast]
  obtain ⟨c, r, hc, h3, h4⟩ := digits_head u (by omega)
  have hl := digits_few 7 u (by omega) (by omega)
  rw [e, hc]
  rw [hc] at hl
  unfold pNum
  simp only
  rw [if_neg (by omega)]
  unfold pMag
  rw [if_neg (by
    simp only [List.head?_cons, Option.map_some, Option.some.injEq]
    omega), ← hc, pDec_digits]
  rfl

theorem itoa_good (v : Int) (h1 : 1 ≤ v) : goodWord (itoa v) := by
  obtain ⟨u, rfl⟩ : ∃ u : Nat, v = u := ⟨v.toNat, by omega⟩
  have e : itoa (u : Int) = decDigits u := by
    unfold itoa
    rw [if_neg (by omega), Int.toNat_natCast]
  obtain ⟨c, r, hc, h3, h4⟩ := digits_head u (by omega)
  rw [e]
  exact ⟨c, r, hc, by omega, fun b hb => by
    have := digits_all u b hb
    unfold goodByte
    omega⟩

theorem name_good {s : ByteArray} (h : nOk s = true) : goodWord s.data.toList := by
  unfold nOk at h
  simp only [Bool.and_eq_true, decide_eq_true_eq] at h
  obtain ⟨⟨h1, h2⟩, h3⟩ := h
  obtain ⟨r, hr⟩ := list_cons s h1
  have hall : ∀ b ∈ s.data.toList, nByteP b.toNat := fun b hb => by
    have := List.all_eq_true.1 h3 b hb
    unfold nByte at this
    simpa using this
  refine ⟨_, r, hr, ?_, fun b hb => ?_⟩
  · have := hall _ (by rw [hr]; exact List.mem_cons_self)
    unfold nByteP at this
    omega
  · have := hall b hb
    unfold nByteP at this
    unfold goodByte
    omega

end Go.Proofs.Ytfbgjoildibikaa

/-
  Plain facts on how far back tiers reach (chapter 9).
-/
namespace Go.Proofs.Ytfbgjoildibikaa
open Go.RowKit Go.Lib

/-- Now, a policy, floors. -/
abbrev RchL := Int × PolL × List Int

/-- The Every of the tier behind one (its own of the last one). -/
def rEvery (l : List TierL) (i : Nat) : Int :=
  match l[i + 1]? with
  | some t => t.2.1
  | none => match l[i]? with
    | some t => t.2.1
    | none => 0

/-- How far back a tier reaches. -/
def rFromN (r : RchL) (i : Nat) : Int :=
  match r.2.1.2[i]? with
  | none => 0
  | some t => match r.2.2[i]? with
    | none => gBack r.1 t.2.2.1 (rEvery r.2.1.2 i)
    | some f => max (gBack r.1 t.2.2.1 (rEvery r.2.1.2 i)) f

def rFrom (r : RchL) (i : Int) : Int := if i < 0 then 0 else rFromN r i.toNat

def rAll (r : RchL) : List Int := (List.range r.2.1.2.length).map (rFromN r)

def rTakes (r : RchL) (n : ByteArray) (t : Int) : Int :=
  if nOk n = false ∨ t < 0 then 1 else if r.1 < t then 25 else if r.2.1.2 = [] ∨ t < rFromN r 0 then 24 else 0

def rStart (r : RchL) (i t : Int) : Int × Bool :=
  if i < 0 ∨ t < 0 then (0, false) else match r.2.1.2[i.toNat]? with
  | none => (0, false)
  | some x => (gFloor t x.2.1, decide (rFromN r i.toNat ≤ gFloor t x.2.1))

/-- The first of the tiers from k on (j of them) that reaches a time. -/
def rFind (r : RchL) (f : Int) (k : Nat) : Nat → Option Nat
  | 0 => none
  | j + 1 => if rFromN r k ≤ f then some k else rFind r f (k + 1) j

def rCover (r : RchL) (f : Int) : Int :=
  match rFind r f 0 r.2.1.2.length with
  | some k => k
  | none => (r.2.1.2.length : Int) - 1

def rLater (r : RchL) (now : Int) : RchL := (max r.1 now, r.2)

theorem gBack_nonneg (now keep e : Int) : 0 ≤ gBack now keep e := by
  unfold gBack
  split <;> omega

end Go.Proofs.Ytfbgjoildibikaa

/-
  What chapter 8 says of package policy's functions, over policies of one's own and those that came in; Small, LentTiers, StaysTiers (package sedimentbook).
-/
namespace Go.Proofs.Ytfbgjoildibikaa
open Go.RowKit Go.Lib

/-- A policy, as a value: its name and the slice of its tiers. -/
abbrev polVal (n : ByteArray) (s : Value) : Value := .agg #[.string n, s]

/-- A slice is not longer than its room. -/
def CapOk : Value → Prop
  | .slice _ n c => n ≤ c
  | _ => True

theorem own_cap {w : World} {B : Nat} {e : TypeId} {s : Nat} {v : Value} {n : Nat} {xs : List Value} (h : w.ownsRow B e s v n xs) : CapOk v := by
  obtain ⟨hl, h⟩ := h
  rcases h with ⟨rfl, rfl⟩ | ⟨g, cap, cur, rfl, hB, hrow, hcap, hmax, hcs, htk⟩
  · exact Nat.le_refl _
  · exact hcap

theorem LentRow.cap {w : World} {B : Nat} {v : Value} {n : Nat} {xs mark : List Value} (h : LentRow w B v n xs mark) : CapOk v := by
  obtain ⟨g, cap, rfl, hB, hg, hc, hm, hcs⟩ := h
  show n ≤ cap
  omega

/-- The value v is the policy p. -/
def PolRow (w : World) (v : Value) (p : PolL) : Prop := ∃ s, v = polVal p.1 s ∧ CellRow w s p.2.length (flat penc p.2) ∧ CapOk s

/-- One of one's own above B. -/
def OwnPol (B : Nat) (w : World) (v : Value) (p : PolL) : Prop := ∃ s, v = polVal p.1 s ∧ w.ownsRow B 63 4 s p.2.length (flat penc p.2)

theorem PolRow.kept {w w' : World} {v : Value} {p : PolL} (h : PolRow w v p) (b : Below w.heap.size w w') : PolRow w' v p := by
  obtain ⟨s, hv, hs, hk⟩ := h
  exact ⟨s, hv, hs.kept b, hk⟩

/-- Few tiers, short names. -/
def PSmall (p : PolL) : Prop := p.2.length ≤ 10 ∧ p.1.size ≤ 60 ∧ ∀ x ∈ p.2, x.1.size ≤ 60

/-- A variable that holds a policy. -/
def PBlk (w : World) (b : Nat) (n : ByteArray) (s : Value) : Prop := w.heap[b]? = some (.cells #[.string n, s] 24 (0, 0))

theorem PBlk.made (w : World) (n : ByteArray) (s : Value) : PBlk (w.alloc (.cells #[.string n, s] 24)) w.heap.size n s := Go.heap_alloc_new _ _

theorem PBlk.kept {w w' : World} {b : Nat} {n : ByteArray} {s : Value} (h : PBlk w b n s) (c : Below w.heap.size w w') : PBlk w' b n s := by
  unfold PBlk at h ⊢
  rw [c.block b (Array.getElem?_eq_some_iff.1 h).1]
  exact h

theorem PBlk.at {w : World} {b : Nat} {n : ByteArray} {s : Value} (h : PBlk w b n s) : w.cell? ⟨b, 0, none⟩ = some (.string n) ∧ w.cell? ⟨b, 1, none⟩ = some s := by
  refine ⟨?_, ?_⟩ <;> (rw [cell_of_row w b _ _ _ _ h]; rfl)

set_option maxRecDepth 20000 in
set_option maxHeartbeats 1600000 in
theorem Small_any (v : Value) (p : PolL) (w : World) (hv : PolRow w v p) :
    Calls Try.prog 9 #[v] w fun e w' => ∃ r : Bool, e = .returned (.bool r) ∧ Hid (r = true → PSmall p) ∧ Below w.heap.size w w' := by
  obtain ⟨n, l⟩ := p
  obtain ⟨s, rfl, hs, -⟩ := hv
  simp only at hs
  have HS := Hid.of hs
  obtain ⟨sa, sc, rfl, -⟩ := hs
  go_enter Try.func9, Try.ntmps9
  go_wp2
  go_loopw [3] (fun i wr => ∃ j : Nat, j ≤ l.length ∧ j ≤ 12 ∧ i = .int .i64 j ∧ Hid (PBlk wr w.heap.size n (.slice sa l.length sc)) ∧ Hid (∀ x ∈ l.take j, x.1.size ≤ 60) ∧ Below w.heap.size w wr) (fun i _ => 12 - (RowKit.intOf i).toNat)
  case atStart => exact ⟨0, Nat.zero_le _, by decide, rfl, Hid.of (PBlk.made _ _ _), Hid.of (by simp), (Below.refl _ _).alloc (Nat.le_refl _) _⟩
  case round =>
    obtain ⟨j, hj, hj12, rfl, K, A, hb⟩ := hrel
    obtain ⟨c0, c1⟩ := K.out.at
    have i0 : (0 : Int) ≤ (j : Int) := Int.natCast_nonneg _
    by_cases hlt : j < l.length
    · have i1 : (j : Int) < (l.length : Int) := by omega
      by_cases h12 : j < 12
      · have i2 : (j : Int) < 12 := by omega
        obtain ⟨b1, o1, rfl, hl1, hc1⟩ := p_at HS.out j l[j] (by simp [hlt])
        obtain ⟨x, hx⟩ : ∃ x, l[j] = x := ⟨_, rfl⟩
        rw [hx] at hc1
        obtain ⟨d0, -, -, -⟩ := hc1
        rw [← hb.cell hl1] at d0
        have HX := Hid.of hx
        by_cases h60 : x.1.size ≤ 60
        · have i3 : ¬ (60 : Int) < (x.1.size : Int) := by omega
          clear hx
          go_wp2
          go_roundw
          case rel =>
            refine ⟨j + 1, by omega, by omega, by go_num, K, Hid.of ?_, hb⟩
            intro y hy
            rw [List.take_succ_eq_append_getElem hlt, List.mem_append, List.mem_singleton, HX.out] at hy
            rcases hy with hy | rfl
            · exact A.out y hy
            · exact h60
          case measure => simp [RowKit.intOf]; omega
        · have i3 : (60 : Int) < (x.1.size : Int) := by omega
          clear hx
          go_wp2
          go_ret
          exact ⟨false, rfl, Hid.of (fun h => by cases h), hb⟩
      · have i2 : ¬ (j : Int) < 12 := by omega
        have i3 : ¬ (l.length : Int) ≤ 10 := by omega
        go_wp2
        go_ret
        exact .inl ⟨rfl, Hid.of trivial, hb⟩
    · have i1 : ¬ (j : Int) < (l.length : Int) := by omega
      have hjl : j = l.length := by omega
      by_cases h10 : l.length ≤ 10
      · have i3 : (l.length : Int) ≤ 10 := by omega
        by_cases h60 : n.size ≤ 60
        · have i4 : (n.size : Int) ≤ 60 := by omega
          go_wp2
          go_ret
          refine .inr ⟨rfl, Hid.of ⟨h10, h60, fun x hx => ?_⟩, hb⟩
          have := A.out x
          rw [hjl, List.take_length] at this
          exact this hx
        · have i4 : ¬ (n.size : Int) ≤ 60 := by omega
          go_wp2
          go_ret
          exact .inl ⟨rfl, Hid.of trivial, hb⟩
      · have i3 : ¬ (l.length : Int) ≤ 10 := by omega
        go_wp2
        go_ret
        exact .inl ⟨rfl, Hid.of trivial, hb⟩

/-- The mark behind lent tiers. -/
def tMark : TierL := (⟨#[]⟩, 0, -77, 0)

set_option maxHeartbeats 400000 in
theorem LentTiers_any (v : Value) (l : List TierL) (w : World) (hv : CellRow w v l.length (flat penc l)) (hn : l.length ≤ 1000000) :
    Calls Try.prog 12 #[v] w fun e w' => ∃ m, e = .returned m ∧ LentRow w' w.heap.size m l.length (flat penc l) (penc tMark) ∧ Below w.heap.size w w' := by
  have HC := Hid.of hv
  obtain ⟨sa, c, rfl, _⟩ := hv
  obtain ⟨i0, hi, hz0, hz1, hz2⟩ := info_parts (show (Try.prog.info? 63).map (fun i => (i.zero, i.size, i.bytes)) = some (some (.agg #[.string ⟨#[]⟩, .int .i64 0, .int .i64 0, .int .i64 0]), 4, 40) by kernel_rfl)
  have HI := Hid.of hi
  have HZ0 := Hid.of hz0
  have HZ1 := Hid.of hz1
  have HZ2 := Hid.of hz2
  clear hi hz0 hz1 hz2
  go_enter Try.func12, Try.ntmps12
  go_wp2_with (first | (at_builtin; refine append_row_law rfl _ (.tmp 3) 22 rfl w.heap.size 63 i0 (.agg #[.string ⟨#[]⟩, .int .i64 0, .int .i64 0, .int .i64 0]) 4 40 Try.underlying22 HI.out HZ0.out HZ1.out HZ2.out rfl (by decide) (.slice none 0 0) 0 [] rfl ⟨rfl, .inl ⟨rfl, rfl⟩⟩ _ l.length _ rfl HC.out (flat_length penc_len l) (flat_ones penc_one l) (by unfold maxLen; omega) (by omega) (Nat.le_refl _) ?_; intro v1 w1 o1 g1; have O1 : Hid (w1.ownsRow w.heap.size 63 4 v1 l.length (flat penc l)) := Hid.of (by simpa using o1); have b1 : Below w.heap.size w w1 := below_of_none g1; clear o1 g1) | (at_builtin; refine append_row_law rfl (.tmp 4) (.tmp 6) 22 rfl w.heap.size 63 i0 (.agg #[.string ⟨#[]⟩, .int .i64 0, .int .i64 0, .int .i64 0]) 4 40 Try.underlying22 HI.out HZ0.out HZ1.out HZ2.out rfl (by decide) v1 l.length _ rfl (O1.out.alloc _) (.slice (some ⟨w1.heap.size, 0, none⟩) 1 1) 1 (penc tMark) rfl ⟨_, _, rfl, .inr ⟨_, 0, rfl, by simp, new_cells w1 _ _⟩⟩ rfl (penc_one tMark) (by unfold maxLen; omega) (by omega) (by simp; have := b1.size; omega) ?_; intro v2 w2 o2 g2; obtain ⟨hl2, h2⟩ := o2; obtain ⟨g, cap, cur, rfl, hB, hrow, hcap, hmax, hcs, htk⟩ := h2.resolve_left (by simp)))
  go_ret
  have hg := (Array.getElem?_eq_some_iff.1 hrow).1
  refine ⟨_, rfl, ⟨g, cap, rfl, hB, hg, hcap, hmax, fun j u hj => ?_⟩, (b1.alloc b1.size _).grown g2 (by have := b1.size; simp; omega) (fun k hk => own_ge O1.out hk)⟩
  rw [Nat.zero_add, cell_of_row w2 g j _ _ _ hrow]
  rw [← htk] at hj
  rw [List.getElem?_take] at hj
  split at hj
  · simpa using hj
  · cases hj

set_option maxHeartbeats 400000 in
theorem StaysTiers_any (B : Nat) (u v : Value) (l : List TierL) (w : World) (hu : LentRow w B u l.length (flat penc l) (penc tMark)) (hv : CellRow w v l.length (flat penc l)) (hn : l.length ≤ 1000000) :
    Calls Try.prog 28 #[u, v] w fun e w' => e = .returned (.bool true) ∧ Below w.heap.size w w' := by
  have HU := Hid.of hu.row
  have HV := Hid.of hv
  obtain ⟨g, cap, rfl, hB, hg, hc, hm, hcs⟩ := hu
  have hmark := hcs (l.length * 4 + 2) (.int .i64 (-77)) (by rw [List.getElem?_append_right (by rw [flat_length penc_len]; omega), flat_length penc_len]; simp [penc, tMark])
  rw [Nat.zero_add] at hmark
  have HM := Hid.of hmark
  have c0 : (l.length : Int) + 1 ≤ (cap : Int) := by omega
  clear hcs hm hB hmark
  go_enter Try.func28, Try.ntmps28
  go_wp2_with fail
  refine (SameTiers_quiet _ _ l _ HU.out HV.out hn).mono ?_
  rintro e w1 ⟨rfl, q, rfl⟩
  have hmark := HM.out
  go_wp2
  go_ret
  exact ⟨rfl, below_drewN (Below.refl _ _) _⟩

end Go.Proofs.Ytfbgjoildibikaa

/-
  Lines of words that are laid, however, are read as they were.
-/
namespace Go.Proofs.Ytfbgjoildibikaa
open Go.RowKit Go.Lib

/-- The word that ends ahead of a gap. -/
def WSt.behind (out : List WdL) (line col : Nat) (w : List UInt8) : List WdL := out ++ [(⟨w.toArray⟩, (line : Int), (col : Int) - (w.length : Int))]

/-- Blanks between two words of a line. -/
def BlankGap (g : List UInt8) : Prop := ∀ out line col w, ∃ col', wRun ⟨out, line, col, some w, false⟩ g = .inl ⟨WSt.behind out line col w, line, col', none, false⟩
/-- What ends a line (remarks and empty lines with it); d line ends in all. -/
def EndGap (d : Nat) (g : List UInt8) : Prop := ∀ out line col w, wRun ⟨out, line, col, some w, false⟩ g = .inl ⟨WSt.behind out line col w, line + d, 1, none, false⟩

theorem blank_1 : BlankGap [32] := fun _ _ col _ => ⟨col + 1, rfl⟩
theorem blank_2 : BlankGap [32, 32] := fun _ _ col _ => ⟨col + 2, rfl⟩
theorem blank_t : BlankGap [9] := fun _ _ col _ => ⟨col + 1, rfl⟩
theorem blank_3 : BlankGap [32, 9, 32] := fun _ _ col _ => ⟨col + 3, rfl⟩
theorem end_1 : EndGap 1 [10] := fun _ _ _ _ => rfl
theorem end_2 : EndGap 2 [10, 10] := fun _ _ _ _ => rfl
theorem end_x : EndGap 1 [32, 35, 32, 120, 32, 121, 10] := fun _ _ _ _ => rfl
theorem end_z : EndGap 2 [10, 35, 32, 116, 105, 101, 114, 32, 122, 10] := fun _ _ _ _ => rfl

/-- Words laid as a line, with its end; d line ends. -/
inductive Lays : Nat → List (List UInt8) → List UInt8 → Prop
  | last (d : Nat) (w e : List UInt8) : goodWord w → EndGap d e → 1 ≤ d → Lays d [w] (w ++ e)
  | more (d : Nat) (w g : List UInt8) (ws : List (List UInt8)) (t : List UInt8) : goodWord w → BlankGap g → Lays d ws t → Lays d (w :: ws) (w ++ (g ++ t))

theorem Lays.run {d : Nat} {ws : List (List UInt8)} {t : List UInt8} (h : Lays d ws t) : ∀ st : WSt, st.cur = none → st.remark = false →
    ∃ xs, wRun st t = .inl ⟨st.out ++ xs, st.line + d, 1, none, false⟩ ∧ texts xs = ws ∧ xs ≠ [] ∧ (∀ x ∈ xs, x.2.1 = (st.line : Int)) ∧ 1 ≤ d := by
  induction h with
  | last w e hw he hd =>
    intro st hc hr
    refine ⟨[(⟨w.toArray⟩, (st.line : Int), ((st.col + w.length : Nat) : Int) - (w.length : Int))], ?_, by simp [texts], by simp, ?_, hd⟩
    · rw [wRun_append, run_word hw st hc hr]
      exact he _ _ _ _
    · intro x hx
      simp only [List.mem_singleton] at hx
      rw [hx]
  | more w g ws t hw hg _ ih =>
    intro st hc hr
    obtain ⟨col', hcol⟩ := hg st.out st.line (st.col + w.length) w
    obtain ⟨xs, h1, h2, h3, h4, h5⟩ := ih ⟨WSt.behind st.out st.line (st.col + w.length) w, st.line, col', none, false⟩ rfl rfl
    refine ⟨(⟨w.toArray⟩, (st.line : Int), ((st.col + w.length : Nat) : Int) - (w.length : Int)) :: xs, ?_, by rw [← h2]; simp [texts], by simp, ?_, h5⟩
    · rw [wRun_append, run_word hw st hc hr]
      show wRun _ (g ++ t) = _
      rw [wRun_append, hcol]
      show wRun _ t = _
      rw [h1]
      unfold WSt.behind
      rw [List.append_assoc]
      rfl
    · intro x hx
      rcases List.mem_cons.1 hx with hx | hx
      · rw [hx]
      · exact h4 x hx

/-- Groups of words, one a line, in rising lines from n on. -/
def Grp : Int → List (List WdL) → Prop
  | _, [] => True
  | n, g :: gs => ∃ k, n ≤ k ∧ g ≠ [] ∧ (∀ x ∈ g, x.2.1 = k) ∧ Grp (k + 1) gs

theorem Grp.mono : ∀ {n m : Int} {gs : List (List WdL)}, Grp n gs → m ≤ n → Grp m gs
  | _, _, [], _, _ => trivial
  | _, _, _ :: _, ⟨k, h1, h2, h3, h4⟩, h => ⟨k, by omega, h2, h3, h4⟩

theorem Grp.lines : ∀ {n : Int} {gs : List (List WdL)}, Grp n gs → ∀ x ∈ gs.flatten, n ≤ x.2.1
  | _, [], _, x, hx => by simp at hx
  | _, g :: gs, ⟨k, h1, h2, h3, h4⟩, x, hx => by
    rw [List.flatten_cons, List.mem_append] at hx
    rcases hx with hx | hx
    · rw [h3 x hx]
      exact h1
    · have := h4.lines x hx
      omega

/-- Lines laid one behind the other. -/
inductive Lines : List (List (List UInt8)) → List UInt8 → Prop
  | nil : Lines [] []
  | cons (d : Nat) (l : List (List UInt8)) (t : List UInt8) (ls : List (List (List UInt8))) (u : List UInt8) : Lays d l t → Lines ls u → Lines (l :: ls) (t ++ u)

theorem Lines.run {ls : List (List (List UInt8))} {t : List UInt8} (h : Lines ls t) : ∀ st : WSt, st.cur = none → st.remark = false →
    ∃ gs line' col', wRun st t = .inl ⟨st.out ++ gs.flatten, line', col', none, false⟩ ∧ gs.map texts = ls ∧ Grp st.line gs ∧ st.line ≤ line' := by
  induction h with
  | nil =>
    intro st hc hr
    refine ⟨[], st.line, st.col, ?_, rfl, trivial, Nat.le_refl _⟩
    obtain ⟨o, l, c, cu, r⟩ := st
    simp only at hc hr
    subst hc hr
    simp [wRun]
  | cons d l t ls u hl _ ih =>
    intro st hc hr
    obtain ⟨xs, h1, h2, h3, h4, h5⟩ := hl.run st hc hr
    obtain ⟨gs, line', col', g1, g2, g3, g4⟩ := ih ⟨st.out ++ xs, st.line + d, 1, none, false⟩ rfl rfl
    refine ⟨xs :: gs, line', col', ?_, by rw [List.map_cons, h2, g2], ⟨st.line, Int.le_refl _, h3, h4, g3.mono ?_⟩, ?_⟩
    · rw [wRun_append, h1]
      show wRun _ u = _
      rw [g1, List.flatten_cons, List.append_assoc]
    · simp only
      omega
    · simp only at g4
      omega

theorem takeWhile_group {k : Int} (g r : List WdL) (hg : ∀ x ∈ g, x.2.1 = k) (hr : ∀ x ∈ r, k < x.2.1) : ((g ++ r).takeWhile fun y => y.2.1 == k) = g := by
  induction g with
  | nil =>
    cases r with
    | nil => rfl
    | cons x r =>
      have := hr x List.mem_cons_self
      rw [List.nil_append, List.takeWhile_cons, if_neg (by simp; omega)]
  | cons y g ih =>
    rw [List.cons_append, List.takeWhile_cons, if_pos (by simp [hg y List.mem_cons_self]), ih (fun x hx => hg x (List.mem_cons_of_mem _ hx))]

theorem wLine_group {k : Int} {g r : List WdL} (h0 : g ≠ []) (hg : ∀ x ∈ g, x.2.1 = k) (hr : ∀ x ∈ r, k < x.2.1) : wLine (g ++ r) = g.length ∧ ∃ x l, g ++ r = x :: l ∧ x.2.1 = k := by
  cases g with
  | nil => exact absurd rfl h0
  | cons x g =>
    have hx := hg x List.mem_cons_self
    refine ⟨?_, x, g ++ r, rfl, hx⟩
    show (((x :: g) ++ r).takeWhile fun y => y.2.1 == x.2.1).length = _
    rw [hx, takeWhile_group _ _ hg hr]

/-- The group that comes first is a tier. -/
theorem pTiers_step {k : Int} {g r : List WdL} {t : TierL} (n : Nat) (d : List TierL) (h0 : g ≠ []) (hg : ∀ x ∈ g, x.2.1 = k) (hr : ∀ x ∈ r, k < x.2.1) (ht : tierOf (texts g) = some t) (hd : d.length < 5) : pTiers (n + 1) (g ++ r) d = pTiers n r (d ++ [t]) := by
  obtain ⟨h1, x, l, h2, h3⟩ := wLine_group h0 hg hr
  rw [h2, pTiers, ← h2, h1, List.take_left, List.drop_left, ht]
  simp only
  rw [if_neg (by omega)]

/-- It is none. -/
theorem pTiers_bad {k : Int} {g r : List WdL} (n : Nat) (d : List TierL) (h0 : g ≠ []) (hg : ∀ x ∈ g, x.2.1 = k) (hr : ∀ x ∈ r, k < x.2.1) (ht : tierOf (texts g) = none) : pTiers (n + 1) (g ++ r) d = .inr k := by
  obtain ⟨h1, x, l, h2, h3⟩ := wLine_group h0 hg hr
  rw [h2, pTiers, ← h2, h1, List.take_left, ht, h3]

theorem tierOf_words {t : TierL} (h1 : 1 ≤ t.2.1 ∧ t.2.1 ≤ 1000000) (h2 : 1 ≤ t.2.2.1 ∧ t.2.2.1 ≤ 1000000) (h3 : 1 ≤ t.2.2.2 ∧ t.2.2.2 ≤ 1000000) : tierOf (tierWords t) = some t := by
  unfold tierOf tierWords
  simp only [and_self, if_true]
  rw [pNum_itoa _ h1.1 h1.2, pNum_itoa _ h2.1 h2.2, pNum_itoa _ h3.1 h3.2]

/-- A tier that may be, wherever. -/
def tierIn (t : TierL) : Prop := nOk t.1 = true ∧ (1 ≤ t.2.1 ∧ t.2.1 ≤ 1000000) ∧ (1 ≤ t.2.2.1 ∧ t.2.2.1 ≤ 1000000) ∧ (1 ≤ t.2.2.2 ∧ t.2.2.2 ≤ 1000000)

theorem tierOk_in {d : List TierL} {t : TierL} (h : tierOk d t = true) : tierIn t := by
  unfold tierOk at h
  simp only [Bool.and_eq_true, decide_eq_true_eq] at h
  unfold tierIn
  obtain ⟨⟨⟨⟨⟨⟨⟨⟨a, b⟩, c⟩, e⟩, f⟩, g⟩, i⟩, _⟩, _⟩ := h
  exact ⟨a, ⟨g, i⟩, ⟨b, c⟩, ⟨e, by omega⟩⟩

theorem pBad_none : ∀ {r d : List TierL}, pBad d r = none → ∀ t ∈ r, tierIn t
  | [], _, _, t, ht => absurd ht List.not_mem_nil
  | x :: r, d, h, t, ht => by
    rw [pBad] at h
    split at h
    · rename_i hx
      rcases List.mem_cons.1 ht with rfl | ht
      · exact tierOk_in hx
      · exact pBad_none h t ht
    · cases h

theorem pCheck_in {p : PolL} (h : (pCheck p).1 = 0) : nOk p.1 = true ∧ 1 ≤ p.2.length ∧ p.2.length ≤ 5 ∧ ∀ t ∈ p.2, tierIn t := by
  unfold pCheck at h
  split at h
  · cases h
  · rename_i hn
    split at h
    · cases h
    · rename_i hb
      refine ⟨by cases hk : nOk p.1 <;> simp_all, by omega, by omega, pBad_none hb⟩

theorem pTiers_all : ∀ {gs : List (List WdL)} {ts d : List TierL} {n : Int} (f : Nat), Grp n gs → gs.map texts = ts.map tierWords → (∀ t ∈ ts, tierIn t) → d.length + ts.length ≤ 5 → gs.length ≤ f → pTiers f gs.flatten d = .inl (d ++ ts)
  | [], ts, d, n, f, _, h2, _, _, _ => by
    have : ts = [] := by
      cases ts with
      | nil => rfl
      | cons a b => simp at h2
    subst this
    cases f <;> simp [pTiers]
  | g :: gs, ts, d, n, f, ⟨k, h1, h0, hg, hgs⟩, h2, h3, h4, h5 => by
    cases ts with
    | nil => simp at h2
    | cons t ts =>
      simp only [List.map_cons, List.cons.injEq] at h2
      cases f with
      | zero => simp at h5
      | succ f =>
        have ht := h3 t List.mem_cons_self
        have hr : ∀ x ∈ gs.flatten, k < x.2.1 := fun x hx => by
          have := hgs.lines x hx
          omega
        simp only [List.length_cons] at h4
        rw [List.flatten_cons, pTiers_step f d h0 hg hr (by rw [h2.1]; exact tierOf_words ht.2.1 ht.2.2.1 ht.2.2.2) (by omega),
          pTiers_all f hgs h2.2 (fun x hx => h3 x (List.mem_cons_of_mem _ hx)) (by rw [List.length_append]; simp; omega) (by simpa using h5), List.append_assoc]
        rfl

/-- Lines of a policy that may be, however they are laid, are read as it. -/
theorem pOf_lines {gs : List (List WdL)} {n : Int} {p : PolL} (hg : Grp n gs) (ht : gs.map texts = polWords p) (h : (pCheck p).1 = 0) : pOf gs.flatten = (p, 0, 0) := by
  obtain ⟨c1, c2, c3, c4⟩ := pCheck_in h
  cases gs with
  | nil => simp [polWords] at ht
  | cons g gs =>
    simp only [polWords, List.map_cons, List.cons.injEq] at ht
    obtain ⟨k, h1, h0, hgl, hgs⟩ := hg
    have hr : ∀ x ∈ gs.flatten, k < x.2.1 := fun x hx => by
      have := hgs.lines x hx
      omega
    obtain ⟨w1, x, l, w2, w3⟩ := wLine_group h0 hgl hr
    have hlen : gs.length ≤ (g ++ gs.flatten).length := by
      have hl : ∀ {m : Int} {gs : List (List WdL)}, Grp m gs → gs.length ≤ gs.flatten.length := by
        intro m gs
        induction gs generalizing m with
        | nil => intro _; simp
        | cons a gs ih =>
          rintro ⟨_, _, h0, _, hh⟩
          have := ih hh
          have h0' : 0 < a.length := List.length_pos_iff.2 h0
          simp only [List.length_cons, List.flatten_cons, List.length_append]
          omega
      have := hl hgs
      rw [List.length_append]
      omega
    rw [List.flatten_cons]
    unfold pOf
    rw [w2]
    simp only
    rw [← w2, w1, List.take_left, List.drop_left, ht.1]
    unfold headWords
    simp only [if_true]
    rw [pTiers_all (d := []) _ hgs ht.2 c4 (by simpa using c3) hlen]
    rfl

/-- Read of lines of a policy that may be. -/
theorem pRead_lines {p : PolL} {t : List UInt8} (hl : Lines (polWords p) t) (h : (pCheck p).1 = 0) (hn : t.length ≤ 4000) : pParse t = (p, 0, 0) ∧ pRead t = (p, 0, 0) := by
  obtain ⟨gs, line', col', h1, h2, h3, _⟩ := hl.run .start rfl rfl
  have hp : pParse t = (p, 0, 0) := by
    unfold pParse wCut
    rw [if_neg (by omega), h1]
    show pOf (([] : List WdL) ++ gs.flatten) = _
    rw [List.nil_append]
    exact pOf_lines h3 h2 h
  refine ⟨hp, ?_⟩
  unfold pRead
  rw [hp]
  simp [h]

end Go.Proofs.Ytfbgjoildibikaa

/-
  A printed policy's lines, with other blanks and line ends between its words too.
-/
namespace Go.Proofs.Ytfbgjoildibikaa
open Go.RowKit Go.Lib

def blankOf : Nat → List UInt8
  | 0 => [32]
  | 1 => [32, 32]
  | 2 => [9]
  | _ => [32, 9, 32]

def endOf : Nat → List UInt8
  | 0 => [10]
  | 1 => [10, 10]
  | 2 => [32, 35, 32, 120, 32, 121, 10]
  | _ => [10, 35, 32, 116, 105, 101, 114, 32, 122, 10]

theorem blankOf_gap (n : Nat) : BlankGap (blankOf n) := by
  unfold blankOf
  split
  · exact blank_1
  · exact blank_2
  · exact blank_t
  · exact blank_3

theorem endOf_gap (n : Nat) : ∃ d, 1 ≤ d ∧ EndGap d (endOf n) := by
  unfold endOf
  split
  · exact ⟨1, by omega, end_1⟩
  · exact ⟨2, by omega, end_2⟩
  · exact ⟨1, by omega, end_x⟩
  · exact ⟨2, by omega, end_z⟩

theorem gap_len (n : Nat) : (blankOf n).length ≤ 10 ∧ (endOf n).length ≤ 10 := by
  unfold blankOf endOf
  repeat' split
  all_goals decide

/-- Each blank and each line end another one, as g says of the k-th. -/
def spaced (g : Nat → Nat) : Nat → List UInt8 → List UInt8
  | _, [] => []
  | k, c :: r => if c.toNat = 32 then blankOf (g k) ++ spaced g (k + 1) r else if c.toNat = 10 then endOf (g k) ++ spaced g (k + 1) r else c :: spaced g k r

theorem spaced_len (g : Nat → Nat) : ∀ (t : List UInt8) (k : Nat), (spaced g k t).length ≤ 10 * t.length
  | [], _ => Nat.zero_le _
  | c :: r, k => by
    have h1 := spaced_len g r (k + 1)
    have h2 := spaced_len g r k
    have h3 := gap_len (g k)
    rw [spaced]
    split
    · rw [List.length_append, List.length_cons]
      omega
    · split
      · rw [List.length_append, List.length_cons]
        omega
      · rw [List.length_cons, List.length_cons]
        omega

theorem spaced_none : ∀ (t : List UInt8) (k : Nat), spaced (fun _ => 0) k t = t
  | [], _ => rfl
  | c :: r, k => by
    rw [spaced, spaced_none r (k + 1), spaced_none r k]
    have e : ∀ n, n = c.toNat → c = UInt8.ofNat n := fun n h => by rw [h]; simp
    split
    · rename_i h
      rw [e 32 h.symm]
      rfl
    · split
      · rename_i h
        rw [e 10 h.symm]
        rfl
      · rfl

theorem spaced_good (g : Nat → Nat) (k : Nat) (r : List UInt8) : ∀ (w : List UInt8), (∀ b ∈ w, goodByte b) → spaced g k (w ++ r) = w ++ spaced g k r
  | [], _ => rfl
  | c :: w, h => by
    have hc := h c List.mem_cons_self
    unfold goodByte at hc
    rw [List.cons_append, spaced, if_neg (by omega), if_neg (by omega), spaced_good g k r w (fun b hb => h b (List.mem_cons_of_mem _ hb))]
    rfl

theorem goodWord.all {w : List UInt8} (h : goodWord w) : ∀ b ∈ w, goodByte b := by
  obtain ⟨_, _, _, _, ha⟩ := h
  exact ha

theorem spaced_line (g : Nat → Nat) (r : List UInt8) : ∀ (l : List (List UInt8)) (k : Nat), l ≠ [] → (∀ w ∈ l, goodWord w) → ∃ d t k', spaced g k (oneLine l ++ 10 :: r) = t ++ spaced g k' r ∧ Lays d l t
  | [], _, h, _ => absurd rfl h
  | [w], k, _, hw => by
    have hg := hw w List.mem_cons_self
    obtain ⟨d, hd, he⟩ := endOf_gap (g k)
    refine ⟨d, w ++ endOf (g k), k + 1, ?_, Lays.last d w _ hg he hd⟩
    show spaced g k (w ++ 10 :: r) = _
    rw [spaced_good g k _ w hg.all, spaced, if_neg (by decide), if_pos (by decide), List.append_assoc]
  | w :: x :: l, k, _, hw => by
    have hg := hw w List.mem_cons_self
    obtain ⟨d, t, k', h1, h2⟩ := spaced_line g r (x :: l) (k + 1) (by simp) (fun y hy => hw y (List.mem_cons_of_mem _ hy))
    refine ⟨d, w ++ (blankOf (g k) ++ t), k', ?_, Lays.more d w _ _ _ hg (blankOf_gap (g k)) h2⟩
    show spaced g k ((w ++ 32 :: oneLine (x :: l)) ++ 10 :: r) = _
    rw [List.append_assoc, spaced_good g k _ w hg.all, List.cons_append, spaced, if_pos (by decide), h1]
    simp only [List.append_assoc]

/-- Lines with a line end each. -/
def flatLines (ls : List (List (List UInt8))) : List UInt8 := (ls.map fun l => oneLine l ++ [10]).flatten

theorem spaced_lines (g : Nat → Nat) : ∀ (ls : List (List (List UInt8))) (k : Nat), (∀ l ∈ ls, l ≠ [] ∧ ∀ w ∈ l, goodWord w) → Lines ls (spaced g k (flatLines ls))
  | [], _, _ => Lines.nil
  | l :: ls, k, h => by
    have e : flatLines (l :: ls) = oneLine l ++ 10 :: flatLines ls := by
      unfold flatLines
      rw [List.map_cons, List.flatten_cons, List.append_assoc]
      rfl
    obtain ⟨d, t, k', h1, h2⟩ := spaced_line g (flatLines ls) l k (h l List.mem_cons_self).1 (h l List.mem_cons_self).2
    rw [e, h1]
    exact Lines.cons d l t ls _ h2 (spaced_lines g ls k' (fun x hx => h x (List.mem_cons_of_mem _ hx)))

theorem polText_flat (p : PolL) : polText p = flatLines (polWords p) := rfl

theorem good_of (l : List UInt8) (h : (l.all fun b => decide (33 ≤ b.toNat) && decide (b.toNat ≤ 126)) = true) (h0 : (l.head?.map fun c => decide (c.toNat = 35)) = some false) : goodWord l := by
  cases l with
  | nil => cases h0
  | cons c r =>
    refine ⟨c, r, rfl, by simpa using h0, fun b hb => ?_⟩
    have := List.all_eq_true.1 h b hb
    simp only [Bool.and_eq_true, decide_eq_true_eq] at this
    exact this

theorem tierWords_good {t : TierL} (h : tierIn t) : tierWords t ≠ [] ∧ ∀ w ∈ tierWords t, goodWord w := by
  obtain ⟨h0, h1, h2, h3⟩ := h
  refine ⟨by unfold tierWords; simp, fun w hw => ?_⟩
  unfold tierWords at hw
  simp only [List.mem_cons, List.not_mem_nil, or_false] at hw
  rcases hw with rfl | rfl | rfl | rfl | rfl | rfl | rfl | rfl
  · exact good_of _ (by decide) (by decide)
  · exact name_good h0
  · exact good_of _ (by decide) (by decide)
  · exact itoa_good _ h1.1
  · exact good_of _ (by decide) (by decide)
  · exact itoa_good _ h2.1
  · exact good_of _ (by decide) (by decide)
  · exact itoa_good _ h3.1

theorem headWords_good {p : PolL} (h : nOk p.1 = true) : headWords p ≠ [] ∧ ∀ w ∈ headWords p, goodWord w := by
  refine ⟨by unfold headWords; simp, fun w hw => ?_⟩
  unfold headWords at hw
  simp only [List.mem_cons, List.not_mem_nil, or_false] at hw
  rcases hw with rfl | rfl
  · exact good_of _ (by decide) (by decide)
  · exact name_good h

theorem polWords_good {p : PolL} (h : (pCheck p).1 = 0) : ∀ l ∈ polWords p, l ≠ [] ∧ ∀ w ∈ l, goodWord w := by
  obtain ⟨c1, c2, c3, c4⟩ := pCheck_in h
  intro l hl
  unfold polWords at hl
  rcases List.mem_cons.1 hl with rfl | hl
  · exact headWords_good c1
  · obtain ⟨t, ht, rfl⟩ := List.mem_map.1 hl
    exact tierWords_good (c4 t ht)

theorem oneLine_len : ∀ (l : List (List UInt8)), l ≠ [] → (oneLine l).length + 1 = (l.map fun w => w.length + 1).sum
  | [], h => absurd rfl h
  | [w], _ => by simp [oneLine]
  | w :: x :: l, _ => by
    have := oneLine_len (x :: l) (by simp)
    rw [oneLine, List.length_append, List.length_cons, List.map_cons, List.sum_cons, ← this]
    omega

theorem nOk_le {s : ByteArray} (h : nOk s = true) : s.data.toList.length ≤ 15 := by
  unfold nOk at h
  simp only [Bool.and_eq_true, decide_eq_true_eq] at h
  rw [byte_len]
  exact h.1.2

theorem itoa_len {v : Int} (h1 : 1 ≤ v) (h2 : v ≤ 1000000) : (itoa v).length ≤ 7 := by
  obtain ⟨u, rfl⟩ : ∃ u : Nat, v = u := ⟨v.toNat, by omega⟩
  unfold itoa
  rw [if_neg (by omega), Int.toNat_natCast]
  exact (digits_few 7 u (by omega) (by omega)).2

theorem tierLine_len {t : TierL} (h : tierIn t) : (oneLine (tierWords t)).length + 1 ≤ 63 := by
  obtain ⟨h0, h1, h2, h3⟩ := h
  rw [oneLine_len _ (by unfold tierWords; simp)]
  have a := nOk_le h0
  have b := itoa_len h1.1 h1.2
  have c := itoa_len h2.1 h2.2
  have d := itoa_len h3.1 h3.2
  simp only [tierWords, List.map_cons, List.map_nil, List.sum_cons, List.sum_nil]
  have e1 : sTier.length = 4 := rfl
  have e2 : sEvery.length = 5 := rfl
  have e3 : sKeep.length = 4 := rfl
  have e4 : sShards.length = 6 := rfl
  omega

theorem flatLines_len : ∀ (ts : List TierL), (∀ t ∈ ts, tierIn t) → (flatLines (ts.map tierWords)).length ≤ 63 * ts.length
  | [], _ => Nat.zero_le _
  | t :: ts, h => by
    have h1 := flatLines_len ts (fun x hx => h x (List.mem_cons_of_mem _ hx))
    have h2 := tierLine_len (h t List.mem_cons_self)
    have e : flatLines ((t :: ts).map tierWords) = (oneLine (tierWords t) ++ [10]) ++ flatLines (ts.map tierWords) := by
      unfold flatLines
      rw [List.map_cons, List.map_cons, List.flatten_cons]
    rw [e, List.length_append, List.length_append]
    simp only [List.length_cons, List.length_nil]
    omega

theorem polText_len {p : PolL} (h : (pCheck p).1 = 0) : (polText p).length ≤ 400 := by
  obtain ⟨c1, c2, c3, c4⟩ := pCheck_in h
  have h1 := flatLines_len p.2 c4
  have e : polText p = (oneLine (headWords p) ++ [10]) ++ flatLines (p.2.map tierWords) := by
    unfold polText polWords flatLines
    rw [List.map_cons, List.flatten_cons]
  have h2 : (oneLine (headWords p)).length + 1 ≤ 23 := by
    rw [oneLine_len _ (headWords_good c1).1]
    have a := nOk_le c1
    have e1 : sPolicy.length = 6 := rfl
    simp only [headWords, List.map_cons, List.map_nil, List.sum_cons, List.sum_nil]
    omega
  rw [e, List.length_append, List.length_append]
  simp only [List.length_cons, List.length_nil]
  omega

/-- What is printed, whatever stands between its words, is read as it was. -/
theorem pRead_spaced {p : PolL} (h : (pCheck p).1 = 0) (g : Nat → Nat) (k : Nat) : pParse (spaced g k (polText p)) = (p, 0, 0) ∧ pRead (spaced g k (polText p)) = (p, 0, 0) := by
  refine pRead_lines ?_ h ?_
  · rw [polText_flat]
    exact spaced_lines g _ k (polWords_good h)
  · have h1 := spaced_len g (polText p) k
    have h2 := polText_len h
    omega

/-- What is printed is read as it was. -/
theorem pRead_print {p : PolL} (h : (pCheck p).1 = 0) : pRead (polText p) = (p, 0, 0) := by
  have := (pRead_spaced h (fun _ => 0) 0).2
  rwa [spaced_none] at this

/-- What is read may be. -/
theorem pRead_ok {t : List UInt8} {p : PolL} {n : Int} (h : pRead t = (p, 0, n)) : (pCheck p).1 = 0 ∧ n = 0 := by
  unfold pRead at h
  split at h
  · rename_i h1
    simp only [Prod.mk.injEq] at h
    exact absurd (by rw [h.2]) h1
  · split at h
    · rename_i h1
      simp only [Prod.mk.injEq] at h
      exact absurd (by rw [h.2]) h1
    · rename_i h1
      simp only [Prod.mk.injEq] at h
      rw [← h.1]
      exact ⟨by simpa using h1, h.2.2.symm⟩

end Go.Proofs.Ytfbgjoildibikaa

/-
  What chapter 8 says of package policy's calls (PolicySpec), and what alive answers: true.
-/
namespace Go.Proofs.Ytfbgjoildibikaa
open Go.RowKit Go.Lib

def In64 (v : Int) : Prop := -9223372036854775808 ≤ v ∧ v ≤ 9223372036854775807

/-- Of a size that a call can take. -/
def PFit (p : PolL) : Prop := p.2.length ≤ 1000000 ∧ p.1.size ≤ 1000000 ∧ ∀ x ∈ p.2, x.1.size ≤ 1000000 ∧ In64 x.2.1 ∧ In64 x.2.2.1 ∧ In64 x.2.2.2

/-- The document's words on each call; Ok: what was there when the program began. -/
structure PolicySpec where
  Ok : World → Prop
  kept : ∀ {w w'}, Ok w → Below w.heap.size w w' → Ok w'
  copy : ∀ (v : Value) (p : PolL) (w : World), Ok w → PFit p → PolRow w v p → Calls Try.prog 32 #[v] w fun e w' => ∃ u, e = .returned u ∧ OwnPol w.heap.size w' u p ∧ Below w.heap.size w w'

/-- The policy of the first example. -/
def webPol : PolL := (⟨#[119, 101, 98]⟩, [(⟨#[114, 97, 119]⟩, 1, 100, 2), (⟨#[116, 101, 110, 115]⟩, 10, 1000, 1)])

theorem web_check : pCheck webPol = (0, 0) := by decide +kernel

theorem web_text : pPrint webPol = (⟨(polText webPol).toArray⟩, 0) := by
  unfold pPrint
  rw [web_check]
  rfl

def webBytes : List UInt8 := [112, 111, 108, 105, 99, 121, 32, 119, 101, 98, 10, 116, 105, 101, 114, 32, 114, 97, 119, 32, 101, 118, 101, 114, 121, 32, 49, 32, 107, 101, 101, 112, 32, 49, 48, 48, 32, 115, 104, 97, 114, 100, 115, 32, 50, 10, 116, 105, 101, 114, 32, 116, 101, 110, 115, 32, 101, 118, 101, 114, 121, 32, 49, 48, 32, 107, 101, 101, 112, 32, 49, 48, 48, 48, 32, 115, 104, 97, 114, 100, 115, 32, 49, 10]

theorem web_bytes : polText webPol = webBytes := by decide +kernel

theorem web_read : pRead webBytes = (webPol, 0, 0) := by
  rw [← web_bytes]
  exact pRead_print (by rw [web_check])

theorem two_words : pParse [112, 111, 108, 105, 99, 121, 32, 97, 32, 98] = (PolL.none, 22, 1) := by decide +kernel

theorem OwnPol.row {B : Nat} {w : World} {v : Value} {p : PolL} (h : OwnPol B w v p) : PolRow w v p := by
  obtain ⟨s, hv, o⟩ := h
  exact ⟨s, hv, own_row o, own_cap o⟩

theorem web_fit : PFit webPol := by
  refine ⟨by decide, by decide, fun x hx => ?_⟩
  simp only [webPol, List.mem_cons, List.not_mem_nil, or_false] at hx
  rcases hx with rfl | rfl <;> exact ⟨by decide, by unfold In64; decide, by unfold In64; decide, by unfold In64; decide⟩


end Go.Proofs.Ytfbgjoildibikaa

/-
  What chapter 9 says of package reach's calls (ReachSpec), and what alive answers: true.
-/
namespace Go.Proofs.Ytfbgjoildibikaa
open Go.RowKit Go.Lib

def rVal (r : RchL) (s f : Value) : Value := .agg #[.int .i64 r.1, .string r.2.1.1, s, f]

/-- A Reach that came in or was answered. -/
def RchRow (w : World) (v : Value) (r : RchL) : Prop := ∃ s f, v = rVal r s f ∧ CellRow w s r.2.1.2.length (flat penc r.2.1.2) ∧ CellRow w f r.2.2.length (r.2.2.map (Value.int .i64)) ∧ CapOk s ∧ CapOk f

/-- A Reach of one's own. -/
def OwnRch (B : Nat) (w : World) (v : Value) (r : RchL) : Prop := ∃ s f, v = rVal r s f ∧ w.ownsRow B 63 4 s r.2.1.2.length (flat penc r.2.1.2) ∧ w.ownsRow B 3 1 f r.2.2.length (r.2.2.map (Value.int .i64)) ∧ Apart s f

theorem OwnRch.row {B : Nat} {w : World} {v : Value} {r : RchL} (h : OwnRch B w v r) : RchRow w v r := by
  obtain ⟨s, f, hv, h1, h2, _⟩ := h
  exact ⟨s, f, hv, own_row h1, own_row h2, own_cap h1, own_cap h2⟩

theorem RchRow.kept {w w' : World} {v : Value} {r : RchL} (h : RchRow w v r) (b : Below w.heap.size w w') : RchRow w' v r := by
  obtain ⟨s, f, hv, h1, h2, h3⟩ := h
  exact ⟨s, f, hv, h1.kept b, h2.kept b, h3⟩

/-- Of a size that a call can take. -/
def RFit (r : RchL) : Prop := In64 r.1 ∧ PFit r.2.1 ∧ r.2.2.length ≤ 1000000 ∧ ∀ x ∈ r.2.2, In64 x

/-- A variable that holds a Reach. -/
def RBlk (w : World) (b : Nat) (r : RchL) (s f : Value) : Prop := w.heap[b]? = some (.cells #[.int .i64 r.1, .string r.2.1.1, s, f] 46 (0, 0))

theorem RBlk.made (w : World) (r : RchL) (s f : Value) : RBlk (w.alloc (.cells #[.int .i64 r.1, .string r.2.1.1, s, f] 46)) w.heap.size r s f := Go.heap_alloc_new _ _

theorem RBlk.kept {w w' : World} {b : Nat} {r : RchL} {s f : Value} (h : RBlk w b r s f) (c : Below w.heap.size w w') : RBlk w' b r s f := by
  unfold RBlk at h ⊢
  rw [c.block b (Array.getElem?_eq_some_iff.1 h).1]
  exact h

theorem RBlk.at {w : World} {b : Nat} {r : RchL} {s f : Value} (h : RBlk w b r s f) : w.cell? ⟨b, 0, none⟩ = some (.int .i64 r.1) ∧ w.cell? ⟨b, 1, none⟩ = some (.string r.2.1.1) ∧ w.cell? ⟨b, 2, none⟩ = some s ∧ w.cell? ⟨b, 3, none⟩ = some f := by
  refine ⟨?_, ?_, ?_, ?_⟩ <;> (rw [cell_of_row w b _ _ _ _ h]; rfl)

/-- The document's words on each call; Ok: what was there when the program began. -/
structure ReachSpec where
  Ok : World → Prop
  kept : ∀ {w w'}, Ok w → Below w.heap.size w w' → Ok w'
  of : ∀ (v f : Value) (p : PolL) (now : Int) (fl : List Int) (w : World), Ok w → RFit (now, p, fl) → PolRow w v p → CellRow w f fl.length (fl.map (Value.int .i64)) → CapOk f → Calls Try.prog 13 #[v, .int .i64 now, f] w fun e w' => ∃ u, e = .returned u ∧ OwnRch w.heap.size w' u (now, p, fl) ∧ Below w.heap.size w w'
  from_ : ∀ (v : Value) (r : RchL) (i : Int) (w : World), Ok w → RFit r → In64 i → RchRow w v r → Calls Try.prog 21 #[v, .int .i64 i] w fun e w' => e = .returned (.int .i64 (rFrom r i)) ∧ Below w.heap.size w w'
  all : ∀ (v : Value) (r : RchL) (w : World), Ok w → RFit r → RchRow w v r → Calls Try.prog 15 #[v] w fun e w' => ∃ u, e = .returned u ∧ w'.ownsRow w.heap.size 3 1 u (rAll r).length ((rAll r).map (Value.int .i64)) ∧ Below w.heap.size w w'
  takes : ∀ (v : Value) (r : RchL) (n : ByteArray) (t x : Int) (w : World), Ok w → RFit r → n.size ≤ maxLen → In64 t → RchRow w v r → Calls Try.prog 23 #[v, .agg #[.string n, .int .i64 t, .int .i64 x]] w fun e w' => e = .returned (.int .i64 (rTakes r n t)) ∧ Below w.heap.size w w'
  start : ∀ (v : Value) (r : RchL) (i t : Int) (w : World), Ok w → RFit r → In64 i → In64 t → RchRow w v r → Calls Try.prog 18 #[v, .int .i64 i, .int .i64 t] w fun e w' => e = .returned (.tuple #[.int .i64 (rStart r i t).1, .bool (rStart r i t).2]) ∧ Below w.heap.size w w'
  cover : ∀ (v : Value) (r : RchL) (f : Int) (w : World), Ok w → RFit r → In64 f → RchRow w v r → Calls Try.prog 25 #[v, .int .i64 f] w fun e w' => e = .returned (.int .i64 (rCover r f)) ∧ Below w.heap.size w w'
  later : ∀ (v : Value) (r : RchL) (now : Int) (w : World), Ok w → RFit r → In64 now → RchRow w v r → Calls Try.prog 20 #[v, .int .i64 now] w fun e w' => ∃ u, e = .returned u ∧ OwnRch w.heap.size w' u (rLater r now) ∧ Below w.heap.size w w'

/-- A variable that holds a Reach, its cells said. -/
structure RH (S : ReachSpec) (w0 : World) (b : Nat) (now : Int) (n : ByteArray) (s f : Value) (r : RchL) (w : World) : Prop where
  k : w.heap[b]? = some (.cells #[.int .i64 now, .string n, s, f] 46 (0, 0))
  x : RchRow w (.agg #[.int .i64 now, .string n, s, f]) r
  ok : S.Ok w
  fr : Below w0.heap.size w0 w

theorem RH.next {S : ReachSpec} {w0 w w' : World} {b : Nat} {now : Int} {n : ByteArray} {s f : Value} {r : RchL} (h : RH S w0 b now n s f r w) (c : Below w.heap.size w w') : RH S w0 b now n s f r w' :=
  ⟨by rw [c.block b (Array.getElem?_eq_some_iff.1 h.k).1]; exact h.k, h.x.kept c, S.kept h.ok c, h.fr.trans (c.mono h.fr.size)⟩

theorem RH.at {S : ReachSpec} {w0 w : World} {b : Nat} {now : Int} {n : ByteArray} {s f : Value} {r : RchL} (h : RH S w0 b now n s f r w) : w.cell? ⟨b, 0, none⟩ = some (.int .i64 now) ∧ w.cell? ⟨b, 1, none⟩ = some (.string n) ∧ w.cell? ⟨b, 2, none⟩ = some s ∧ w.cell? ⟨b, 3, none⟩ = some f := by
  refine ⟨?_, ?_, ?_, ?_⟩ <;> (rw [cell_of_row w b _ _ _ _ h.k]; rfl)

/-- The first example. -/
def webReach : RchL := (257, webPol, [])

theorem web_reach : rFrom webReach 0 = 150 ∧ rFrom webReach 1 = 0 ∧ rCover webReach 150 = 0 ∧ rCover webReach 140 = 1 ∧ rStart webReach 1 57 = (50, true) ∧ rTakes webReach ⟨#[97]⟩ 149 = 24 := by decide +kernel

theorem webReach_fit : RFit webReach := ⟨⟨by decide, by decide⟩, web_fit, by decide, fun _ h => by cases h⟩

set_option maxRecDepth 20000 in
set_option maxHeartbeats 800000 in
theorem Web_any (w : World) : Calls Try.prog 31 #[] w fun e w' => ∃ v, e = .returned v ∧ PolRow w' v webPol ∧ Below w.heap.size w w' := by
  go_enter Try.func31, Try.ntmps31
  go_wp2_with fail
  refine bodyPost_ret (results_cell_row (P := Try.prog) rfl _ _ w.heap.size 24 #[.string ⟨#[119, 101, 98]⟩, .slice (some ⟨w.heap.size + 1, 0, none⟩) 2 2] (0, 0) _ rfl ((Go.heap_alloc_old _ _ (by simp)).trans (Go.heap_alloc_new _ _)) Try.underlying24 rfl (by kernel_rfl)) rfl ?_
  have hs : (w.alloc (.cells #[.string ⟨#[119, 101, 98]⟩, .slice (some ⟨w.heap.size + 1, 0, none⟩) 2 2] 24)).heap.size = w.heap.size + 1 := by simp
  have hc := new_cells (w.alloc (.cells #[.string ⟨#[119, 101, 98]⟩, .slice (some ⟨w.heap.size + 1, 0, none⟩) 2 2] 24)) #[.string ⟨#[114, 97, 119]⟩, .int .i64 1, .int .i64 100, .int .i64 2, .string ⟨#[116, 101, 110, 115]⟩, .int .i64 10, .int .i64 1000, .int .i64 1] 63
  rw [hs] at hc
  exact ⟨_, rfl, ⟨_, rfl, ⟨_, _, rfl, .inr ⟨w.heap.size + 1, 0, rfl, by simp, hc⟩⟩, Nat.le_refl _⟩, ((Below.refl _ _).alloc (Nat.le_refl _) _).alloc (by simp) _⟩

set_option maxRecDepth 20000 in
set_option maxHeartbeats 3200000 in
theorem reachAlive_any (S : ReachSpec) (w : World) (hS : S.Ok w) : Calls Try.prog 10 #[] w fun e w' => e = .returned (.bool true) ∧ Below w.heap.size w w' := by
  obtain ⟨a0, a1, a2, a3, a4, a5⟩ := web_reach
  have A0 := Hid.of a0
  have A1 := Hid.of a1
  have A2 := Hid.of a2
  have A3 := Hid.of a3
  have A4 := Hid.of a4
  have A5 := Hid.of a5
  have FT := Hid.of webReach_fit
  have HS := Hid.of hS
  clear a0 a1 a2 a3 a4 a5 hS
  go_enter Try.func10, Try.ntmps10
  go_wp2_with fail
  refine (Web_any _).mono ?_
  rintro e w1 ⟨v, rfl, pr, b1⟩
  have PR := Hid.of pr
  have O1 := Hid.of (S.kept HS.out b1)
  have B1 := Hid.of b1
  clear b1 pr HS
  go_wp2_with fail
  refine (S.of _ _ webPol 257 [] _ O1.out FT.out PR.out ⟨_, _, rfl, .inl rfl⟩ (Nat.le_refl _)).mono ?_
  rintro e w2 ⟨u, rfl, ou, b2⟩
  have rr := OwnRch.row ou
  obtain ⟨s, f, rfl, o1, o2, -⟩ := ou
  obtain ⟨sa, sc, rfl, -⟩ := own_one o1
  obtain ⟨fa, fc, rfl, -⟩ := own_one o2
  clear o1 o2
  obtain ⟨n, hn⟩ : ∃ n, webPol.1 = n := ⟨_, rfl⟩
  have ev : rVal (257, webPol, []) (.slice sa ((257, webPol, []) : RchL).2.1.2.length sc) (.slice fa ((257, webPol, []) : RchL).2.2.length fc) = .agg #[.int .i64 257, .string n, .slice sa 2 sc, .slice fa 0 fc] := by rw [← hn]; rfl
  rw [ev]
  have X2 : Hid (RchRow w2 (.agg #[.int .i64 257, .string n, .slice sa 2 sc, .slice fa 0 fc]) webReach) := Hid.of (by rw [← ev]; exact rr)
  have B2 := Hid.of (B1.out.trans (b2.mono B1.out.size))
  have O2 := Hid.of (S.kept O1.out b2)
  obtain ⟨w3, hw3⟩ : ∃ w3, w2.alloc (.cells #[.int .i64 257, .string n, .slice sa 2 sc, .slice fa 0 fc] 46) = w3 := ⟨_, rfl⟩
  have H3 : Hid (RH S w w2.heap.size 257 n (.slice sa 2 sc) (.slice fa 0 fc) webReach w3) := Hid.of (by
    have b3 : Below w2.heap.size w2 w3 := by rw [← hw3]; exact (Below.refl _ _).alloc (Nat.le_refl _) _
    exact ⟨by rw [← hw3]; exact Go.heap_alloc_new _ _, X2.out.kept b3, S.kept O2.out b3, B2.out.trans (b3.mono B2.out.size)⟩)
  have HW3 := Hid.of hw3
  clear b2 O1 B1 PR rr ev hn X2 B2 O2 hw3
  go_wp2_with fail
  rw [HW3.out]
  clear HW3
  refine (S.start _ webReach 1 57 _ H3.out.ok FT.out (by unfold In64; decide) (by unfold In64; decide) H3.out.x).mono ?_
  rintro e w4 ⟨rfl, b4⟩
  rw [A4.out]
  have H4 := Hid.of (H3.out.next b4)
  clear b4 H3
  obtain ⟨c0, c1, c2, c3⟩ := H4.out.at
  go_wp2_with fail
  clear c0 c1 c2 c3
  refine (S.from_ _ webReach 0 _ H4.out.ok FT.out (by unfold In64; decide) H4.out.x).mono ?_
  rintro e w5 ⟨rfl, b5⟩
  rw [A0.out]
  have H5 := Hid.of (H4.out.next b5)
  clear b5 H4
  obtain ⟨c0, c1, c2, c3⟩ := H5.out.at
  go_wp2_with fail
  clear c0 c1 c2 c3
  refine (S.from_ _ webReach 1 _ H5.out.ok FT.out (by unfold In64; decide) H5.out.x).mono ?_
  rintro e w6 ⟨rfl, b6⟩
  rw [A1.out]
  have H6 := Hid.of (H5.out.next b6)
  clear b6 H5
  obtain ⟨c0, c1, c2, c3⟩ := H6.out.at
  go_wp2_with fail
  clear c0 c1 c2 c3
  refine (S.cover _ webReach 150 _ H6.out.ok FT.out (by unfold In64; decide) H6.out.x).mono ?_
  rintro e w7 ⟨rfl, b7⟩
  rw [A2.out]
  have H7 := Hid.of (H6.out.next b7)
  clear b7 H6
  obtain ⟨c0, c1, c2, c3⟩ := H7.out.at
  go_wp2_with fail
  clear c0 c1 c2 c3
  refine (S.cover _ webReach 140 _ H7.out.ok FT.out (by unfold In64; decide) H7.out.x).mono ?_
  rintro e w8 ⟨rfl, b8⟩
  rw [A3.out]
  have H8 := Hid.of (H7.out.next b8)
  clear b8 H7
  obtain ⟨c0, c1, c2, c3⟩ := H8.out.at
  go_wp2_with fail
  clear c0 c1 c2 c3
  refine (S.takes _ webReach ⟨#[97]⟩ 149 0 _ H8.out.ok FT.out (by unfold maxLen; decide) (by unfold In64; decide) H8.out.x).mono ?_
  rintro e w9 ⟨rfl, b9⟩
  rw [A5.out]
  have H9 := Hid.of (H8.out.next b9)
  clear b9 H8
  go_wp2
  go_ret
  exact ⟨rfl, H9.out.fr⟩

end Go.Proofs.Ytfbgjoildibikaa

/-
  ReachTakes: a sample is taken just if its time is there, and tier 0 reaches it.
-/
namespace Go.Proofs.Ytfbgjoildibikaa
open Go.RowKit Go.Lib

/-- A sample in a variable, and a Reach in another one. -/
structure TH (S : ReachSpec) (w0 : World) (b : Nat) (n : ByteArray) (t x : Int) (b5 : Nat) (now : Int) (pn : ByteArray) (s f : Value) (r : RchL) (w : World) : Prop where
  h : RH S w0 b5 now pn s f r w
  k : w.heap[b]? = some (.cells #[.string n, .int .i64 t, .int .i64 x] 27 (0, 0))

section
variable {S : ReachSpec} {w0 w w' : World} {b b5 : Nat} {n pn : ByteArray} {t x now : Int} {s f : Value} {r : RchL}

theorem TH.next (h : TH S w0 b n t x b5 now pn s f r w) (c : Below w.heap.size w w') : TH S w0 b n t x b5 now pn s f r w' :=
  ⟨h.h.next c, by rw [c.block b (Array.getElem?_eq_some_iff.1 h.k).1]; exact h.k⟩

theorem TH.at (h : TH S w0 b n t x b5 now pn s f r w) : w.cell? ⟨b, 0, none⟩ = some (.string n) ∧ w.cell? ⟨b, 1, none⟩ = some (.int .i64 t) ∧ w.cell? ⟨b, 2, none⟩ = some (.int .i64 x) ∧ w.cell? ⟨b5, 0, none⟩ = some (.int .i64 now) ∧ w.cell? ⟨b5, 1, none⟩ = some (.string pn) ∧ w.cell? ⟨b5, 2, none⟩ = some s ∧ w.cell? ⟨b5, 3, none⟩ = some f := by
  refine ⟨?_, ?_, ?_, h.h.at⟩ <;> (rw [cell_of_row w b _ _ _ _ h.k]; rfl)
end

theorem floor_one (t : Int) (h : 0 ≤ t) : gFloor t 1 = t := by
  rw [gFloor_plain0 h (Int.le_refl _)]
  unfold gPast
  omega

theorem web_from (now : Int) : rFromN (now, webPol, []) 0 = gBack now 100 10 := rfl

theorem web_takes (now : Int) (n : ByteArray) (t : Int) : rTakes (now, webPol, []) n t = 1 ∨ (rTakes (now, webPol, []) n t = 25 ∧ now < t) ∨ (rTakes (now, webPol, []) n t = 24 ∧ t < gBack now 100 10) ∨ (rTakes (now, webPol, []) n t = 0 ∧ t ≤ now ∧ gBack now 100 10 ≤ t ∧ rStart (now, webPol, []) 0 t = (t, true)) := by
  unfold rTakes
  split
  · exact .inl rfl
  · rename_i h1
    split
    · rename_i h2
      exact .inr (.inl ⟨rfl, h2⟩)
    · rename_i h2
      rw [web_from]
      split
      · rename_i h3
        refine .inr (.inr (.inl ⟨rfl, ?_⟩))
        rcases h3 with h3 | h3
        · cases h3
        · exact h3
      · rename_i h3
        have t0 : 0 ≤ t := by
          by_cases c : t < 0
          · exact absurd (.inr c) h1
          · omega
        have t1 : gBack now 100 10 ≤ t := by
          by_cases c : t < gBack now 100 10
          · exact absurd (.inr c) h3
          · omega
        have t2 : t ≤ now := by
          have : ¬ now < t := h2
          omega
        refine .inr (.inr (.inr ⟨rfl, t2, t1, ?_⟩))
        unfold rStart
        rw [if_neg (by omega)]
        show (gFloor t 1, decide (rFromN (now, webPol, []) 0 ≤ gFloor t 1)) = (t, true)
        rw [floor_one t t0, web_from, decide_eq_true t1]

set_option maxRecDepth 20000 in
set_option maxHeartbeats 3200000 in
theorem reachTakes_main (S : ReachSpec) (now : Int) (n : ByteArray) (t x : Int) (w : World) (hS : S.Ok w) (hnow : In64 now) (hn : n.size ≤ maxLen) (ht : In64 t) :
    Calls Try.prog 8 #[.int .i64 now, .agg #[.string n, .int .i64 t, .int .i64 x]] w fun e w' => e = .returned (.bool true) ∧ Below w.heap.size w w' := by
  have HS := Hid.of hS
  have HNW := Hid.of hnow
  have HNS := Hid.of hn
  have HT := Hid.of ht
  have FT : Hid (RFit (now, webPol, [])) := Hid.of ⟨hnow, web_fit, Nat.zero_le _, fun _ h => by cases h⟩
  obtain ⟨w1, hw1⟩ : ∃ w1, w.alloc (.cells #[.string n, .int .i64 t, .int .i64 x] 27) = w1 := ⟨_, rfl⟩
  have b1 : Below w.heap.size w w1 := by rw [← hw1]; exact (Below.refl _ _).alloc (Nat.le_refl _) _
  have k1 : w1.heap[w.heap.size]? = some (.cells #[.string n, .int .i64 t, .int .i64 x] 27 (0, 0)) := by rw [← hw1]; exact Go.heap_alloc_new _ _
  have HW := Hid.of hw1
  have B1 := Hid.of b1
  have K1 := Hid.of k1
  have O1 := Hid.of (S.kept hS b1)
  by_cases hz : 60 < n.size ∨ now < 0
  · have hz' : (60 : Int) < (n.size : Int) ∨ (¬ (60 : Int) < (n.size : Int) ∧ now < 0) := by omega
    clear hz hw1 b1 k1 hS hnow hn ht
    rcases hz' with h1 | ⟨h1, h2⟩
    all_goals
      go_enter Try.func8, Try.ntmps8
      go_wp2_with fail
      rw [HW.out]
      refine (reachAlive_any S _ O1.out).mono ?_
      rintro e w2 ⟨rfl, b2⟩
      go_wp2
      go_ret
      exact ⟨rfl, B1.out.trans (b2.mono B1.out.size)⟩
  · have h1 : ¬ (60 : Int) < (n.size : Int) := by omega
    have h2 : ¬ now < 0 := by omega
    clear hz hw1 b1 k1 hS hnow hn ht
    go_enter Try.func8, Try.ntmps8
    go_wp2_with fail
    rw [HW.out]
    clear HW
    refine (Web_any _).mono ?_
    rintro e w2 ⟨v, rfl, pr, b2⟩
    have PR := Hid.of pr
    have O2 := Hid.of (S.kept O1.out b2)
    have B2 := Hid.of (B1.out.trans (b2.mono B1.out.size))
    have K2 : Hid (w2.heap[w.heap.size]? = some (.cells #[.string n, .int .i64 t, .int .i64 x] 27 (0, 0))) := Hid.of (by rw [b2.block _ (Array.getElem?_eq_some_iff.1 K1.out).1]; exact K1.out)
    clear b2 pr B1 O1 K1
    go_wp2_with fail
    refine (S.of _ _ webPol now [] _ O2.out FT.out PR.out ⟨_, _, rfl, .inl rfl⟩ (Nat.le_refl _)).mono ?_
    rintro e w3 ⟨u, rfl, ou, b3⟩
    have rr := OwnRch.row ou
    obtain ⟨s, f, rfl, o1, o2, -⟩ := ou
    obtain ⟨sa, sc, rfl, -⟩ := own_one o1
    obtain ⟨fa, fc, rfl, -⟩ := own_one o2
    clear o1 o2
    obtain ⟨pn, hpn⟩ : ∃ n, webPol.1 = n := ⟨_, rfl⟩
    have ev : rVal (now, webPol, []) (.slice sa ((now, webPol, []) : RchL).2.1.2.length sc) (.slice fa ((now, webPol, []) : RchL).2.2.length fc) = .agg #[.int .i64 now, .string pn, .slice sa 2 sc, .slice fa 0 fc] := by rw [← hpn]; rfl
    rw [ev]
    obtain ⟨w4, hw4⟩ : ∃ w4, w3.alloc (.cells #[.int .i64 now, .string pn, .slice sa 2 sc, .slice fa 0 fc] 46) = w4 := ⟨_, rfl⟩
    have H4 : Hid (TH S w w.heap.size n t x w3.heap.size now pn (.slice sa 2 sc) (.slice fa 0 fc) (now, webPol, []) w4) := Hid.of (by
      have b4 : Below w3.heap.size w3 w4 := by rw [← hw4]; exact (Below.refl _ _).alloc (Nat.le_refl _) _
      have bb : Below w2.heap.size w2 w4 := b3.trans (b4.mono b3.size)
      refine ⟨⟨by rw [← hw4]; exact Go.heap_alloc_new _ _, ?_, S.kept O2.out bb, B2.out.trans (bb.mono B2.out.size)⟩, ?_⟩
      · rw [← ev]
        exact rr.kept b4
      · rw [bb.block _ (Array.getElem?_eq_some_iff.1 K2.out).1]
        exact K2.out)
    have HW4 := Hid.of hw4
    clear b3 O2 B2 PR rr ev hpn K2 hw4
    have d2 : (w3.alloc (.cells #[.int .i64 now, .string pn, .slice sa 2 sc, .slice fa 0 fc] 46)).cell? ⟨w.heap.size, 0, none⟩ = some (.string n) ∧ (w3.alloc (.cells #[.int .i64 now, .string pn, .slice sa 2 sc, .slice fa 0 fc] 46)).cell? ⟨w.heap.size, 1, none⟩ = some (.int .i64 t) ∧ (w3.alloc (.cells #[.int .i64 now, .string pn, .slice sa 2 sc, .slice fa 0 fc] 46)).cell? ⟨w.heap.size, 2, none⟩ = some (.int .i64 x) := by
      rw [HW4.out]
      exact ⟨H4.out.at.1, H4.out.at.2.1, H4.out.at.2.2.1⟩
    obtain ⟨d0, d1, d2⟩ := d2
    go_wp2_with fail
    rw [HW4.out]
    clear HW4 d0 d1 d2
    generalize w3.heap.size = b5 at *
    refine (S.takes _ (now, webPol, []) n t x _ H4.out.h.ok FT.out HNS.out HT.out H4.out.h.x).mono ?_
    rintro e w5 ⟨rfl, b5'⟩
    have H5 := Hid.of (H4.out.next b5')
    clear b5' H4
    obtain ⟨c0, c1, c2, c3, c4, c5, c6⟩ := H5.out.at
    have FR : Hid (rFrom (now, webPol, []) 0 = gBack now 100 10) := Hid.of rfl
    rcases web_takes now n t with hr | ⟨hr, hc⟩ | ⟨hr, hc⟩ | ⟨hr, hc, hd, hst⟩
    · rw [hr]
      clear hr FR
      go_upto_region 10 with fail
      refine wp_region_noPanic ?_
      refine wp_region_held_drew (S := fun w' => w'.cell? ⟨w.heap.size, 0, none⟩ = some (.string n) ∧ w'.cell? ⟨w.heap.size, 1, none⟩ = some (.int .i64 t) ∧ w'.cell? ⟨w.heap.size, 2, none⟩ = some (.int .i64 x) ∧ w'.cell? ⟨b5, 0, none⟩ = some (.int .i64 now) ∧ w'.cell? ⟨b5, 1, none⟩ = some (.string pn) ∧ w'.cell? ⟨b5, 2, none⟩ = some (.slice sa 2 sc) ∧ w'.cell? ⟨b5, 3, none⟩ = some (.slice fa 0 fc)) (by kernel_rfl) ?_ (fun hHeld => ?_)
      · exact ⟨c0, c1, c2, c3, c4, c5, c6⟩
      refine wpAnyH_ready (rs := [0]) (by kernel_rfl) (by simp) ?_
      refine AllReadyH.cons (o := ⟨_, _, _, _, _, _⟩) rfl (fun K hK => ?_) AllReadyH.nil
      go_simp
      refine (reachAlive_any S _ (H5.out.next (Below.refl _ _).drew).h.ok).mono ?_
      rintro e w6 ⟨rfl, b8⟩
      have H6 := Hid.of (H5.out.next ((Below.refl _ _).drew.trans b8))
      clear b8 c0 c1 c2 c3 c4 c5 c6 hHeld
      obtain ⟨c0, c1, c2, c3, c4, c5, c6⟩ := H6.out.at
      refine hK.out _ _ ⟨c0, c1, c2, c3, c4, c5, c6⟩ (fun hHeld => ?_)
      clear hK K
      refine wpAnyH_take (i := 1) (oi := ⟨_, _, _, _, _, _⟩) (v := ?_) rfl (by kernel_rfl) (by kernel_rfl) (by kernel_rfl) (fun _ _ _ h => h) (Or.inl ⟨by rfl, ?_⟩) hHeld ?_
      rotate_left
      · intro w' hSw
        try dsimp only at hSw
        go_simp
        all_goals with_reducible rfl
      simp only [Act.put, List.setIfInBounds_toArray, List.set_cons_zero, List.set_cons_succ]
      refine wpAnyH_take (i := 2) (oi := ⟨_, _, _, _, _, _⟩) (v := ?_) rfl (by kernel_rfl) (by kernel_rfl) (by kernel_rfl) (fun _ _ _ h => h) (Or.inl ⟨by rfl, ?_⟩) hHeld ?_
      rotate_left
      · intro w' hSw
        try dsimp only at hSw
        go_simp
        all_goals with_reducible rfl
      simp only [Act.put, List.setIfInBounds_toArray, List.set_cons_zero, List.set_cons_succ]
      refine wpAnyH_take (i := 3) (oi := ⟨_, _, _, _, _, _⟩) (v := ?_) rfl (by kernel_rfl) (by kernel_rfl) (by kernel_rfl) (fun _ _ _ h => h) (Or.inl ⟨by rfl, ?_⟩) hHeld ?_
      rotate_left
      · intro w' hSw
        try dsimp only at hSw
        go_simp
        all_goals with_reducible rfl
      simp only [Act.put, List.setIfInBounds_toArray, List.set_cons_zero, List.set_cons_succ]
      refine wpAnyH_take (i := 4) (oi := ⟨_, _, _, _, _, _⟩) (v := ?_) rfl (by kernel_rfl) (by kernel_rfl) (by kernel_rfl) (fun _ _ _ h => h) (Or.inl ⟨by rfl, ?_⟩) hHeld ?_
      rotate_left
      · intro w' hSw
        try dsimp only at hSw
        go_simp
        all_goals with_reducible rfl
      simp only [Act.put, List.setIfInBounds_toArray, List.set_cons_zero, List.set_cons_succ]
      refine wpAnyH_take (i := 5) (oi := ⟨_, _, _, _, _, _⟩) (v := undef) rfl (by kernel_rfl) (by kernel_rfl) (by kernel_rfl) (fun _ _ _ h => h) (Or.inr ⟨by rfl, rfl⟩) hHeld ?_
      simp only [Act.put, List.setIfInBounds_toArray, List.set_cons_zero, List.set_cons_succ]
      refine wpAnyH_take (i := 6) (oi := ⟨_, _, _, _, _, _⟩) (v := undef) rfl (by kernel_rfl) (by kernel_rfl) (by kernel_rfl) (fun _ _ _ h => h) (Or.inr ⟨by rfl, rfl⟩) hHeld ?_
      simp only [Act.put, List.setIfInBounds_toArray, List.set_cons_zero, List.set_cons_succ]
      refine wpAnyH_take (i := 7) (oi := ⟨_, _, _, _, _, _⟩) (v := undef) rfl (by kernel_rfl) (by kernel_rfl) (by kernel_rfl) (fun _ _ _ h => h) (Or.inr ⟨by rfl, rfl⟩) hHeld ?_
      simp only [Act.put, List.setIfInBounds_toArray, List.set_cons_zero, List.set_cons_succ]
      refine wpAnyH_take (i := 8) (oi := ⟨_, _, _, _, _, _⟩) (v := undef) rfl (by kernel_rfl) (by kernel_rfl) (by kernel_rfl) (fun _ _ _ h => h) (Or.inr ⟨by rfl, rfl⟩) hHeld ?_
      simp only [Act.put, List.setIfInBounds_toArray, List.set_cons_zero, List.set_cons_succ]
      refine wpAnyH_take (i := 9) (oi := ⟨_, _, _, _, _, _⟩) (v := undef) rfl (by kernel_rfl) (by kernel_rfl) (by kernel_rfl) (fun _ _ _ h => h) (Or.inr ⟨by rfl, rfl⟩) hHeld ?_
      simp only [Act.put, List.setIfInBounds_toArray, List.set_cons_zero, List.set_cons_succ]
      refine wpAnyH_take (i := 10) (oi := ⟨_, _, _, _, _, _⟩) (v := ?_) rfl (by kernel_rfl) (by kernel_rfl) (by kernel_rfl) (fun _ _ _ h => h) (Or.inl ⟨by rfl, ?_⟩) hHeld ?_
      rotate_left
      · intro w' hSw
        try dsimp only at hSw
        go_simp
        all_goals with_reducible rfl
      simp only [Act.put, List.setIfInBounds_toArray, List.set_cons_zero, List.set_cons_succ]
      refine wpAnyH_take (i := 11) (oi := ⟨_, _, _, _, _, _⟩) (v := ?_) rfl (by kernel_rfl) (by kernel_rfl) (by kernel_rfl) (fun _ _ _ h => h) (Or.inl ⟨by rfl, ?_⟩) hHeld ?_
      rotate_left
      · intro w' hSw
        try dsimp only at hSw
        go_simp
        all_goals with_reducible rfl
      simp only [Act.put, List.setIfInBounds_toArray, List.set_cons_zero, List.set_cons_succ]
      refine wpAnyH_take (i := 12) (oi := ⟨_, _, _, _, _, _⟩) (v := ?_) rfl (by kernel_rfl) (by kernel_rfl) (by kernel_rfl) (fun _ _ _ h => h) (Or.inl ⟨by rfl, ?_⟩) hHeld ?_
      rotate_left
      · intro w' hSw
        try dsimp only at hSw
        go_simp
        all_goals with_reducible rfl
      simp only [Act.put, List.setIfInBounds_toArray, List.set_cons_zero, List.set_cons_succ]
      refine wpAnyH_take (i := 13) (oi := ⟨_, _, _, _, _, _⟩) (v := ?_) rfl (by kernel_rfl) (by kernel_rfl) (by kernel_rfl) (fun _ _ _ h => h) (Or.inl ⟨by rfl, ?_⟩) hHeld ?_
      rotate_left
      · intro w' hSw
        try dsimp only at hSw
        go_simp
        all_goals with_reducible rfl
      simp only [Act.put, List.setIfInBounds_toArray, List.set_cons_zero, List.set_cons_succ]
      refine wpAnyH_take (i := 14) (oi := ⟨_, _, _, _, _, _⟩) (v := ?_) rfl (by kernel_rfl) (by kernel_rfl) (by kernel_rfl) (fun _ _ _ h => h) (Or.inl ⟨by rfl, ?_⟩) hHeld ?_
      rotate_left
      · intro w' hSw
        try dsimp only at hSw
        go_simp
        all_goals with_reducible rfl
      simp only [Act.put, List.setIfInBounds_toArray, List.set_cons_zero, List.set_cons_succ]
      refine wpAnyH_take (i := 15) (oi := ⟨_, _, _, _, _, _⟩) (v := ?_) rfl (by kernel_rfl) (by kernel_rfl) (by kernel_rfl) (fun _ _ _ h => h) (Or.inl ⟨by rfl, ?_⟩) hHeld ?_
      rotate_left
      · intro w' hSw
        try dsimp only at hSw
        go_simp
        all_goals with_reducible rfl
      simp only [Act.put, List.setIfInBounds_toArray, List.set_cons_zero, List.set_cons_succ]
      refine wpAnyH_take (i := 16) (oi := ⟨_, _, _, _, _, _⟩) (v := ?_) rfl (by kernel_rfl) (by kernel_rfl) (by kernel_rfl) (fun _ _ _ h => h) (Or.inl ⟨by rfl, ?_⟩) hHeld ?_
      rotate_left
      · intro w' hSw
        try dsimp only at hSw
        go_simp
        all_goals with_reducible rfl
      simp only [Act.put, List.setIfInBounds_toArray, List.set_cons_zero, List.set_cons_succ]
      refine wpAnyH_done (by kernel_rfl) ?_ _
      refine NoPanic.normal ?_
      go_wp2
      go_ret
      exact ⟨rfl, H6.out.h.fr⟩
    · rw [hr]
      clear hr FR
      go_wp2_with fail
      refine (reachAlive_any S _ H5.out.h.ok).mono ?_
      rintro e w6 ⟨rfl, b8⟩
      have H6 := Hid.of (H5.out.next b8)
      clear b8 c0 c1 c2 c3 c4 c5 c6
      obtain ⟨c0, c1, c2, c3, c4, c5, c6⟩ := H6.out.at
      go_wp2
      go_ret
      exact ⟨rfl, H6.out.h.fr⟩
    · rw [hr]
      clear hr
      obtain ⟨F, hF⟩ : ∃ F, gBack now 100 10 = F := ⟨_, rfl⟩
      rw [hF] at FR hc
      clear hF
      go_upto_region 10 with fail
      refine wp_region_noPanic ?_
      refine wp_region_held_drew (S := fun w' => w'.cell? ⟨w.heap.size, 0, none⟩ = some (.string n) ∧ w'.cell? ⟨w.heap.size, 1, none⟩ = some (.int .i64 t) ∧ w'.cell? ⟨w.heap.size, 2, none⟩ = some (.int .i64 x) ∧ w'.cell? ⟨b5, 0, none⟩ = some (.int .i64 now) ∧ w'.cell? ⟨b5, 1, none⟩ = some (.string pn) ∧ w'.cell? ⟨b5, 2, none⟩ = some (.slice sa 2 sc) ∧ w'.cell? ⟨b5, 3, none⟩ = some (.slice fa 0 fc)) (by kernel_rfl) ?_ (fun hHeld => ?_)
      · exact ⟨c0, c1, c2, c3, c4, c5, c6⟩
      refine wpAnyH_ready (rs := [0]) (by kernel_rfl) (by simp) ?_
      refine AllReadyH.cons (o := ⟨_, _, _, _, _, _⟩) rfl (fun K hK => ?_) AllReadyH.nil
      go_simp
      refine (reachAlive_any S _ (H5.out.next (Below.refl _ _).drew).h.ok).mono ?_
      rintro e w6 ⟨rfl, b8⟩
      have H6 := Hid.of (H5.out.next ((Below.refl _ _).drew.trans b8))
      clear b8 c0 c1 c2 c3 c4 c5 c6 hHeld
      obtain ⟨c0, c1, c2, c3, c4, c5, c6⟩ := H6.out.at
      refine hK.out _ _ ⟨c0, c1, c2, c3, c4, c5, c6⟩ (fun hHeld => ?_)
      clear hK K
      refine wpAnyH_take (i := 1) (oi := ⟨_, _, _, _, _, _⟩) (v := ?_) rfl (by kernel_rfl) (by kernel_rfl) (by kernel_rfl) (fun _ _ _ h => h) (Or.inl ⟨by rfl, ?_⟩) hHeld ?_
      rotate_left
      · intro w' hSw
        try dsimp only at hSw
        go_simp
        all_goals with_reducible rfl
      simp only [Act.put, List.setIfInBounds_toArray, List.set_cons_zero, List.set_cons_succ]
      refine wpAnyH_take (i := 2) (oi := ⟨_, _, _, _, _, _⟩) (v := ?_) rfl (by kernel_rfl) (by kernel_rfl) (by kernel_rfl) (fun _ _ _ h => h) (Or.inl ⟨by rfl, ?_⟩) hHeld ?_
      rotate_left
      · intro w' hSw
        try dsimp only at hSw
        go_simp
        all_goals with_reducible rfl
      simp only [Act.put, List.setIfInBounds_toArray, List.set_cons_zero, List.set_cons_succ]
      refine wpAnyH_take (i := 3) (oi := ⟨_, _, _, _, _, _⟩) (v := ?_) rfl (by kernel_rfl) (by kernel_rfl) (by kernel_rfl) (fun _ _ _ h => h) (Or.inl ⟨by rfl, ?_⟩) hHeld ?_
      rotate_left
      · intro w' hSw
        try dsimp only at hSw
        go_simp
        all_goals with_reducible rfl
      simp only [Act.put, List.setIfInBounds_toArray, List.set_cons_zero, List.set_cons_succ]
      refine wpAnyH_take (i := 4) (oi := ⟨_, _, _, _, _, _⟩) (v := ?_) rfl (by kernel_rfl) (by kernel_rfl) (by kernel_rfl) (fun _ _ _ h => h) (Or.inl ⟨by rfl, ?_⟩) hHeld ?_
      rotate_left
      · intro w' hSw
        try dsimp only at hSw
        go_simp
        all_goals with_reducible rfl
      simp only [Act.put, List.setIfInBounds_toArray, List.set_cons_zero, List.set_cons_succ]
      refine wpAnyH_take (i := 5) (oi := ⟨_, _, _, _, _, _⟩) (v := ?_) rfl (by kernel_rfl) (by kernel_rfl) (by kernel_rfl) (fun _ _ _ h => h) (Or.inl ⟨by rfl, ?_⟩) hHeld ?_
      rotate_left
      · intro w' hSw
        try dsimp only at hSw
        go_simp
        all_goals with_reducible rfl
      simp only [Act.put, List.setIfInBounds_toArray, List.set_cons_zero, List.set_cons_succ]
      refine wpAnyH_take (i := 6) (oi := ⟨_, _, _, _, _, _⟩) (v := ?_) rfl (by kernel_rfl) (by kernel_rfl) (by kernel_rfl) (fun _ _ _ h => h) (Or.inl ⟨by rfl, ?_⟩) hHeld ?_
      rotate_left
      · intro w' hSw
        try dsimp only at hSw
        go_simp
        all_goals with_reducible rfl
      simp only [Act.put, List.setIfInBounds_toArray, List.set_cons_zero, List.set_cons_succ]
      refine wpAnyH_take (i := 7) (oi := ⟨_, _, _, _, _, _⟩) (v := ?_) rfl (by kernel_rfl) (by kernel_rfl) (by kernel_rfl) (fun _ _ _ h => h) (Or.inl ⟨by rfl, ?_⟩) hHeld ?_
      rotate_left
      · intro w' hSw
        try dsimp only at hSw
        go_simp
        all_goals with_reducible rfl
      simp only [Act.put, List.setIfInBounds_toArray, List.set_cons_zero, List.set_cons_succ]
      refine wpAnyH_ready (rs := [8]) (by kernel_rfl) (by simp) ?_
      refine AllReadyH.cons (o := ⟨_, _, _, _, _, _⟩) rfl (fun K hK => ?_) AllReadyH.nil
      go_simp
      refine (S.from_ _ (now, webPol, []) 0 _ H6.out.h.ok FT.out (by unfold In64; decide) H6.out.h.x).mono ?_
      rintro e w7 ⟨rfl, b8⟩
      rw [FR.out]
      have H7 := Hid.of (H6.out.next b8)
      clear b8 c0 c1 c2 c3 c4 c5 c6 hHeld
      obtain ⟨c0, c1, c2, c3, c4, c5, c6⟩ := H7.out.at
      refine hK.out _ _ ⟨c0, c1, c2, c3, c4, c5, c6⟩ (fun hHeld => ?_)
      clear hK K
      refine wpAnyH_take (i := 9) (oi := ⟨_, _, _, _, _, _⟩) (v := ?_) rfl (by kernel_rfl) (by kernel_rfl) (by kernel_rfl) (fun _ _ _ h => h) (Or.inl ⟨by rfl, ?_⟩) hHeld ?_
      rotate_left
      · intro w' hSw
        try dsimp only at hSw
        go_simp
        all_goals with_reducible rfl
      simp only [Act.put, List.setIfInBounds_toArray, List.set_cons_zero, List.set_cons_succ]
      refine wpAnyH_take (i := 10) (oi := ⟨_, _, _, _, _, _⟩) (v := ?_) rfl (by kernel_rfl) (by kernel_rfl) (by kernel_rfl) (fun _ _ _ h => h) (Or.inl ⟨by rfl, ?_⟩) hHeld ?_
      rotate_left
      · intro w' hSw
        try dsimp only at hSw
        go_simp
        all_goals with_reducible rfl
      simp only [Act.put, List.setIfInBounds_toArray, List.set_cons_zero, List.set_cons_succ]
      refine wpAnyH_take (i := 11) (oi := ⟨_, _, _, _, _, _⟩) (v := ?_) rfl (by kernel_rfl) (by kernel_rfl) (by kernel_rfl) (fun _ _ _ h => h) (Or.inl ⟨by rfl, ?_⟩) hHeld ?_
      rotate_left
      · intro w' hSw
        try dsimp only at hSw
        go_simp
        all_goals with_reducible rfl
      simp only [Act.put, List.setIfInBounds_toArray, List.set_cons_zero, List.set_cons_succ]
      refine wpAnyH_take (i := 12) (oi := ⟨_, _, _, _, _, _⟩) (v := undef) rfl (by kernel_rfl) (by kernel_rfl) (by kernel_rfl) (fun _ _ _ h => h) (Or.inr ⟨by rfl, rfl⟩) hHeld ?_
      simp only [Act.put, List.setIfInBounds_toArray, List.set_cons_zero, List.set_cons_succ]
      refine wpAnyH_take (i := 13) (oi := ⟨_, _, _, _, _, _⟩) (v := undef) rfl (by kernel_rfl) (by kernel_rfl) (by kernel_rfl) (fun _ _ _ h => h) (Or.inr ⟨by rfl, rfl⟩) hHeld ?_
      simp only [Act.put, List.setIfInBounds_toArray, List.set_cons_zero, List.set_cons_succ]
      refine wpAnyH_take (i := 14) (oi := ⟨_, _, _, _, _, _⟩) (v := ?_) rfl (by kernel_rfl) (by kernel_rfl) (by kernel_rfl) (fun _ _ _ h => h) (Or.inl ⟨by rfl, ?_⟩) hHeld ?_
      rotate_left
      · intro w' hSw
        try dsimp only at hSw
        go_simp
        all_goals with_reducible rfl
      simp only [Act.put, List.setIfInBounds_toArray, List.set_cons_zero, List.set_cons_succ]
      refine wpAnyH_take (i := 15) (oi := ⟨_, _, _, _, _, _⟩) (v := ?_) rfl (by kernel_rfl) (by kernel_rfl) (by kernel_rfl) (fun _ _ _ h => h) (Or.inl ⟨by rfl, ?_⟩) hHeld ?_
      rotate_left
      · intro w' hSw
        try dsimp only at hSw
        go_simp
        all_goals with_reducible rfl
      simp only [Act.put, List.setIfInBounds_toArray, List.set_cons_zero, List.set_cons_succ]
      refine wpAnyH_take (i := 16) (oi := ⟨_, _, _, _, _, _⟩) (v := ?_) rfl (by kernel_rfl) (by kernel_rfl) (by kernel_rfl) (fun _ _ _ h => h) (Or.inl ⟨by rfl, ?_⟩) hHeld ?_
      rotate_left
      · intro w' hSw
        try dsimp only at hSw
        go_simp
        all_goals with_reducible rfl
      simp only [Act.put, List.setIfInBounds_toArray, List.set_cons_zero, List.set_cons_succ]
      refine wpAnyH_done (by kernel_rfl) ?_ _
      refine NoPanic.normal ?_
      go_wp2
      go_ret
      exact ⟨rfl, H7.out.h.fr⟩
    · rw [hr]
      clear hr
      obtain ⟨F, hF⟩ : ∃ F, gBack now 100 10 = F := ⟨_, rfl⟩
      rw [hF] at FR hd
      clear hF
      have ST := Hid.of hst
      clear hst
      go_wp2_with fail
      refine (S.start _ (now, webPol, []) 0 t _ H5.out.h.ok FT.out (by unfold In64; decide) HT.out H5.out.h.x).mono ?_
      rintro e w6 ⟨rfl, b8⟩
      rw [ST.out]
      have H6 := Hid.of (H5.out.next b8)
      clear b8 c0 c1 c2 c3 c4 c5 c6 H5
      obtain ⟨c0, c1, c2, c3, c4, c5, c6⟩ := H6.out.at
      go_upto_region 7 with fail
      refine wp_region_noPanic ?_
      refine wp_region_held_drew (S := fun w' => w'.cell? ⟨w.heap.size, 0, none⟩ = some (.string n) ∧ w'.cell? ⟨w.heap.size, 1, none⟩ = some (.int .i64 t) ∧ w'.cell? ⟨w.heap.size, 2, none⟩ = some (.int .i64 x) ∧ w'.cell? ⟨b5, 0, none⟩ = some (.int .i64 now) ∧ w'.cell? ⟨b5, 1, none⟩ = some (.string pn) ∧ w'.cell? ⟨b5, 2, none⟩ = some (.slice sa 2 sc) ∧ w'.cell? ⟨b5, 3, none⟩ = some (.slice fa 0 fc)) (by kernel_rfl) ?_ (fun hHeld => ?_)
      · exact ⟨c0, c1, c2, c3, c4, c5, c6⟩
      refine wpAnyH_ready (rs := [0]) (by kernel_rfl) (by simp) ?_
      refine AllReadyH.cons (o := ⟨_, _, _, _, _, _⟩) rfl (fun K hK => ?_) AllReadyH.nil
      go_simp
      refine (reachAlive_any S _ (H6.out.next (Below.refl _ _).drew).h.ok).mono ?_
      rintro e w7 ⟨rfl, b8⟩
      have H7 := Hid.of (H6.out.next ((Below.refl _ _).drew.trans b8))
      clear b8 c0 c1 c2 c3 c4 c5 c6 hHeld
      obtain ⟨c0, c1, c2, c3, c4, c5, c6⟩ := H7.out.at
      refine hK.out _ _ ⟨c0, c1, c2, c3, c4, c5, c6⟩ (fun hHeld => ?_)
      clear hK K
      refine wpAnyH_take (i := 1) (oi := ⟨_, _, _, _, _, _⟩) (v := ?_) rfl (by kernel_rfl) (by kernel_rfl) (by kernel_rfl) (fun _ _ _ h => h) (Or.inl ⟨by rfl, ?_⟩) hHeld ?_
      rotate_left
      · intro w' hSw
        try dsimp only at hSw
        go_simp
        all_goals with_reducible rfl
      simp only [Act.put, List.setIfInBounds_toArray, List.set_cons_zero, List.set_cons_succ]
      refine wpAnyH_take (i := 2) (oi := ⟨_, _, _, _, _, _⟩) (v := ?_) rfl (by kernel_rfl) (by kernel_rfl) (by kernel_rfl) (fun _ _ _ h => h) (Or.inl ⟨by rfl, ?_⟩) hHeld ?_
      rotate_left
      · intro w' hSw
        try dsimp only at hSw
        go_simp
        all_goals with_reducible rfl
      simp only [Act.put, List.setIfInBounds_toArray, List.set_cons_zero, List.set_cons_succ]
      refine wpAnyH_take (i := 3) (oi := ⟨_, _, _, _, _, _⟩) (v := ?_) rfl (by kernel_rfl) (by kernel_rfl) (by kernel_rfl) (fun _ _ _ h => h) (Or.inl ⟨by rfl, ?_⟩) hHeld ?_
      rotate_left
      · intro w' hSw
        try dsimp only at hSw
        go_simp
        all_goals with_reducible rfl
      simp only [Act.put, List.setIfInBounds_toArray, List.set_cons_zero, List.set_cons_succ]
      refine wpAnyH_take (i := 4) (oi := ⟨_, _, _, _, _, _⟩) (v := ?_) rfl (by kernel_rfl) (by kernel_rfl) (by kernel_rfl) (fun _ _ _ h => h) (Or.inl ⟨by rfl, ?_⟩) hHeld ?_
      rotate_left
      · intro w' hSw
        try dsimp only at hSw
        go_simp
        all_goals with_reducible rfl
      simp only [Act.put, List.setIfInBounds_toArray, List.set_cons_zero, List.set_cons_succ]
      refine wpAnyH_take (i := 5) (oi := ⟨_, _, _, _, _, _⟩) (v := ?_) rfl (by kernel_rfl) (by kernel_rfl) (by kernel_rfl) (fun _ _ _ h => h) (Or.inl ⟨by rfl, ?_⟩) hHeld ?_
      rotate_left
      · intro w' hSw
        try dsimp only at hSw
        go_simp
        all_goals with_reducible rfl
      simp only [Act.put, List.setIfInBounds_toArray, List.set_cons_zero, List.set_cons_succ]
      refine wpAnyH_take (i := 6) (oi := ⟨_, _, _, _, _, _⟩) (v := ?_) rfl (by kernel_rfl) (by kernel_rfl) (by kernel_rfl) (fun _ _ _ h => h) (Or.inl ⟨by rfl, ?_⟩) hHeld ?_
      rotate_left
      · intro w' hSw
        try dsimp only at hSw
        go_simp
        all_goals with_reducible rfl
      simp only [Act.put, List.setIfInBounds_toArray, List.set_cons_zero, List.set_cons_succ]
      refine wpAnyH_take (i := 7) (oi := ⟨_, _, _, _, _, _⟩) (v := ?_) rfl (by kernel_rfl) (by kernel_rfl) (by kernel_rfl) (fun _ _ _ h => h) (Or.inl ⟨by rfl, ?_⟩) hHeld ?_
      rotate_left
      · intro w' hSw
        try dsimp only at hSw
        go_simp
        all_goals with_reducible rfl
      simp only [Act.put, List.setIfInBounds_toArray, List.set_cons_zero, List.set_cons_succ]
      refine wpAnyH_take (i := 8) (oi := ⟨_, _, _, _, _, _⟩) (v := ?_) rfl (by kernel_rfl) (by kernel_rfl) (by kernel_rfl) (fun _ _ _ h => h) (Or.inl ⟨by rfl, ?_⟩) hHeld ?_
      rotate_left
      · intro w' hSw
        try dsimp only at hSw
        go_simp
        all_goals with_reducible rfl
      simp only [Act.put, List.setIfInBounds_toArray, List.set_cons_zero, List.set_cons_succ]
      refine wpAnyH_take (i := 9) (oi := ⟨_, _, _, _, _, _⟩) (v := ?_) rfl (by kernel_rfl) (by kernel_rfl) (by kernel_rfl) (fun _ _ _ h => h) (Or.inl ⟨by rfl, ?_⟩) hHeld ?_
      rotate_left
      · intro w' hSw
        try dsimp only at hSw
        go_simp
        all_goals with_reducible rfl
      simp only [Act.put, List.setIfInBounds_toArray, List.set_cons_zero, List.set_cons_succ]
      refine wpAnyH_take (i := 10) (oi := ⟨_, _, _, _, _, _⟩) (v := ?_) rfl (by kernel_rfl) (by kernel_rfl) (by kernel_rfl) (fun _ _ _ h => h) (Or.inl ⟨by rfl, ?_⟩) hHeld ?_
      rotate_left
      · intro w' hSw
        try dsimp only at hSw
        go_simp
        all_goals with_reducible rfl
      simp only [Act.put, List.setIfInBounds_toArray, List.set_cons_zero, List.set_cons_succ]
      refine wpAnyH_ready (rs := [11]) (by kernel_rfl) (by simp) ?_
      refine AllReadyH.cons (o := ⟨_, _, _, _, _, _⟩) rfl (fun K hK => ?_) AllReadyH.nil
      go_simp
      refine (S.from_ _ (now, webPol, []) 0 _ H7.out.h.ok FT.out (by unfold In64; decide) H7.out.h.x).mono ?_
      rintro e w8 ⟨rfl, b8⟩
      rw [FR.out]
      have H8 := Hid.of (H7.out.next b8)
      clear b8 c0 c1 c2 c3 c4 c5 c6 hHeld
      obtain ⟨c0, c1, c2, c3, c4, c5, c6⟩ := H8.out.at
      refine hK.out _ _ ⟨c0, c1, c2, c3, c4, c5, c6⟩ (fun hHeld => ?_)
      clear hK K
      refine wpAnyH_take (i := 12) (oi := ⟨_, _, _, _, _, _⟩) (v := ?_) rfl (by kernel_rfl) (by kernel_rfl) (by kernel_rfl) (fun _ _ _ h => h) (Or.inl ⟨by rfl, ?_⟩) hHeld ?_
      rotate_left
      · intro w' hSw
        try dsimp only at hSw
        go_simp
        all_goals with_reducible rfl
      simp only [Act.put, List.setIfInBounds_toArray, List.set_cons_zero, List.set_cons_succ]
      refine wpAnyH_take (i := 13) (oi := ⟨_, _, _, _, _, _⟩) (v := ?_) rfl (by kernel_rfl) (by kernel_rfl) (by kernel_rfl) (fun _ _ _ h => h) (Or.inl ⟨by rfl, ?_⟩) hHeld ?_
      rotate_left
      · intro w' hSw
        try dsimp only at hSw
        go_simp
        all_goals with_reducible rfl
      simp only [Act.put, List.setIfInBounds_toArray, List.set_cons_zero, List.set_cons_succ]
      refine wpAnyH_take (i := 14) (oi := ⟨_, _, _, _, _, _⟩) (v := ?_) rfl (by kernel_rfl) (by kernel_rfl) (by kernel_rfl) (fun _ _ _ h => h) (Or.inl ⟨by rfl, ?_⟩) hHeld ?_
      rotate_left
      · intro w' hSw
        try dsimp only at hSw
        go_simp
        all_goals with_reducible rfl
      simp only [Act.put, List.setIfInBounds_toArray, List.set_cons_zero, List.set_cons_succ]
      refine wpAnyH_take (i := 15) (oi := ⟨_, _, _, _, _, _⟩) (v := ?_) rfl (by kernel_rfl) (by kernel_rfl) (by kernel_rfl) (fun _ _ _ h => h) (Or.inl ⟨by rfl, ?_⟩) hHeld ?_
      rotate_left
      · intro w' hSw
        try dsimp only at hSw
        go_simp
        all_goals with_reducible rfl
      simp only [Act.put, List.setIfInBounds_toArray, List.set_cons_zero, List.set_cons_succ]
      refine wpAnyH_take (i := 16) (oi := ⟨_, _, _, _, _, _⟩) (v := ?_) rfl (by kernel_rfl) (by kernel_rfl) (by kernel_rfl) (fun _ _ _ h => h) (Or.inl ⟨by rfl, ?_⟩) hHeld ?_
      rotate_left
      · intro w' hSw
        try dsimp only at hSw
        go_simp
        all_goals with_reducible rfl
      simp only [Act.put, List.setIfInBounds_toArray, List.set_cons_zero, List.set_cons_succ]
      refine wpAnyH_take (i := 17) (oi := ⟨_, _, _, _, _, _⟩) (v := ?_) rfl (by kernel_rfl) (by kernel_rfl) (by kernel_rfl) (fun _ _ _ h => h) (Or.inl ⟨by rfl, ?_⟩) hHeld ?_
      rotate_left
      · intro w' hSw
        try dsimp only at hSw
        go_simp
        all_goals with_reducible rfl
      simp only [Act.put, List.setIfInBounds_toArray, List.set_cons_zero, List.set_cons_succ]
      refine wpAnyH_take (i := 18) (oi := ⟨_, _, _, _, _, _⟩) (v := ?_) rfl (by kernel_rfl) (by kernel_rfl) (by kernel_rfl) (fun _ _ _ h => h) (Or.inl ⟨by rfl, ?_⟩) hHeld ?_
      rotate_left
      · intro w' hSw
        try dsimp only at hSw
        go_simp
        all_goals with_reducible rfl
      simp only [Act.put, List.setIfInBounds_toArray, List.set_cons_zero, List.set_cons_succ]
      refine wpAnyH_take (i := 19) (oi := ⟨_, _, _, _, _, _⟩) (v := ?_) rfl (by kernel_rfl) (by kernel_rfl) (by kernel_rfl) (fun _ _ _ h => h) (Or.inl ⟨by rfl, ?_⟩) hHeld ?_
      rotate_left
      · intro w' hSw
        try dsimp only at hSw
        go_simp
        all_goals with_reducible rfl
      simp only [Act.put, List.setIfInBounds_toArray, List.set_cons_zero, List.set_cons_succ]
      refine wpAnyH_take (i := 20) (oi := ⟨_, _, _, _, _, _⟩) (v := ?_) rfl (by kernel_rfl) (by kernel_rfl) (by kernel_rfl) (fun _ _ _ h => h) (Or.inl ⟨by rfl, ?_⟩) hHeld ?_
      rotate_left
      · intro w' hSw
        try dsimp only at hSw
        go_simp
        all_goals with_reducible rfl
      simp only [Act.put, List.setIfInBounds_toArray, List.set_cons_zero, List.set_cons_succ]
      refine wpAnyH_take (i := 21) (oi := ⟨_, _, _, _, _, _⟩) (v := ?_) rfl (by kernel_rfl) (by kernel_rfl) (by kernel_rfl) (fun _ _ _ h => h) (Or.inl ⟨by rfl, ?_⟩) hHeld ?_
      rotate_left
      · intro w' hSw
        try dsimp only at hSw
        go_simp
        all_goals with_reducible rfl
      simp only [Act.put, List.setIfInBounds_toArray, List.set_cons_zero, List.set_cons_succ]
      refine wpAnyH_take (i := 22) (oi := ⟨_, _, _, _, _, _⟩) (v := ?_) rfl (by kernel_rfl) (by kernel_rfl) (by kernel_rfl) (fun _ _ _ h => h) (Or.inl ⟨by rfl, ?_⟩) hHeld ?_
      rotate_left
      · intro w' hSw
        try dsimp only at hSw
        go_simp
        all_goals with_reducible rfl
      simp only [Act.put, List.setIfInBounds_toArray, List.set_cons_zero, List.set_cons_succ]
      refine wpAnyH_take (i := 23) (oi := ⟨_, _, _, _, _, _⟩) (v := ?_) rfl (by kernel_rfl) (by kernel_rfl) (by kernel_rfl) (fun _ _ _ h => h) (Or.inl ⟨by rfl, ?_⟩) hHeld ?_
      rotate_left
      · intro w' hSw
        try dsimp only at hSw
        go_simp
        all_goals with_reducible rfl
      simp only [Act.put, List.setIfInBounds_toArray, List.set_cons_zero, List.set_cons_succ]
      refine wpAnyH_done (by kernel_rfl) ?_ _
      refine NoPanic.normal ?_
      go_wp2
      go_ret
      exact ⟨rfl, H8.out.h.fr⟩

end Go.Proofs.Ytfbgjoildibikaa

/-
  What the document's own Same, Check, Print of policies answer.
-/
namespace Go.Proofs.Ytfbgjoildibikaa
open Go.RowKit Go.Lib

/-- Are they alike in all? -/
def pSame (p q : PolL) : Bool := decide (p = q)

theorem pSame_ne {n m : ByteArray} {l k : List TierL} {j : Nat} {x y : TierL} (hx : l[j]? = some x) (hy : k[j]? = some y) (h : ¬ x = y) : pSame (n, l) (m, k) = false := by
  refine decide_eq_false fun e => h ?_
  have e2 : l = k := (Prod.mk.inj e).2
  rw [e2, hy] at hx
  exact (Option.some.inj hx).symm


end Go.Proofs.Ytfbgjoildibikaa

/-
  A variable that holds a Reach is written.
-/
namespace Go.Proofs.Ytfbgjoildibikaa
open Go.RowKit Go.Lib

/-- A Reach is put into a variable. -/
def setR (v : World) (b : Nat) (now : Int) (n : ByteArray) (s f : Value) : World := (((v.setCell ⟨b, 0, none⟩ (.int .i64 now)).setCell ⟨b, 1, none⟩ (.string n)).setCell ⟨b, 2, none⟩ s).setCell ⟨b, 3, none⟩ f

abbrev KBlk (w : World) (b : Nat) (now : Int) (n : ByteArray) (s f : Value) : Prop := w.heap[b]? = some (.cells #[.int .i64 now, .string n, s, f] 46 (0, 0))

theorem kblk_set {w : World} {b : Nat} {now now' : Int} {n n' : ByteArray} {s f s' f' : Value} (h : KBlk w b now n s f) : KBlk (setR w b now' n' s' f') b now' n' s' f' := by
  have := row_set (i := 3) (row_set (i := 2) (row_set (i := 1) (row_set (i := 0) h (.int .i64 now')) (.string n')) s') f'
  unfold setR
  show _ = _
  rw [this]
  simp

theorem setR_grown (w : World) (b : Nat) (now : Int) (n : ByteArray) (s f : Value) : w.grownBy (setR w b now n s f) (some b) :=
  grownBy_trans (grownBy_trans (grownBy_trans (grownBy_setCell _ _ _ _) (grownBy_setCell _ _ _ _)) (grownBy_setCell _ _ _ _)) (grownBy_setCell _ _ _ _)

theorem kblk_grown {w w' : World} {b c : Nat} {now : Int} {n : ByteArray} {s f : Value} (h : KBlk w b now n s f) (g : w.grownBy w' (some c)) (hne : b ≠ c) : KBlk w' b now n s f := by
  show _ = _
  rw [g.block b (Array.getElem?_eq_some_iff.1 h).1 (fun e => hne (Option.some.inj e))]
  exact h

theorem kblk_next {w w' : World} {b : Nat} {now : Int} {n : ByteArray} {s f : Value} (h : KBlk w b now n s f) (c : Below w.heap.size w w') : KBlk w' b now n s f := by
  show _ = _
  rw [c.block b (Array.getElem?_eq_some_iff.1 h).1]
  exact h

theorem kblk_at {w : World} {b : Nat} {now : Int} {n : ByteArray} {s f : Value} (h : KBlk w b now n s f) : w.cell? ⟨b, 0, none⟩ = some (.int .i64 now) ∧ w.cell? ⟨b, 1, none⟩ = some (.string n) ∧ w.cell? ⟨b, 2, none⟩ = some s ∧ w.cell? ⟨b, 3, none⟩ = some f := by
  refine ⟨?_, ?_, ?_, ?_⟩ <;> (rw [cell_of_row w b _ _ _ _ h]; rfl)

end Go.Proofs.Ytfbgjoildibikaa
