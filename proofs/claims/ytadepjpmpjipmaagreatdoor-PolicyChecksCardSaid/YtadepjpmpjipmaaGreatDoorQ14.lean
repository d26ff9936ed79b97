/-
  A bundle of texts: POM POP POF POG POS POQ.
-/
import Derived.Lib.ItoaNum
import Derived.Deep.DeepCutAuto
import Derived.Deep.QuietTactic
import Derived.BigQuiet
import Derived.Test.YtadepjpmpjipmaaGreatDoorQ06
import Derived.Test.YtadepjpmpjipmaaGreatDoorQ12
import Derived.Test.YtadepjpmpjipmaaGreatDoorQ05
/-
  Policies, plain: what may be, what is printed, what is read.
-/
namespace Go.Proofs.YtadepjpmpjipmaaGreatDoor
open Go.RowKit Go.Lib

/-- A policy: its name and its tiers (name, every, keep, shards). -/
abbrev PolL := ByteArray × List TierL

def PolL.none : PolL := (⟨#[]⟩, [])

/-! ## What may be -/

/-- May t stand behind the tiers d? -/
def tierOk (d : List TierL) (t : TierL) : Bool :=
  nOk t.1 && decide (1 ≤ t.2.2.1) && decide (t.2.2.1 ≤ 1000000) && decide (1 ≤ t.2.2.2) && decide (t.2.2.2 ≤ 8) && decide (1 ≤ t.2.1) && decide (t.2.1 ≤ 1000000) && d.all (fun o => !(o.1.toList == t.1.toList)) &&
  match d.getLast? with
  | none => decide (t.2.1 = 1)
  | some o => decide (o.2.1 < t.2.1) && decide (t.2.1 % o.2.1 = 0) && decide (o.2.2.1 ≤ t.2.2.1)

/-- The number of the first tier that may not be. -/
def pBad : List TierL → List TierL → Option Nat
  | _, [] => none
  | d, t :: r => if tierOk d t then pBad (d ++ [t]) r else some (d.length + 1)

def pCheck (p : PolL) : Int × Int :=
  if nOk p.1 = false ∨ p.2.length < 1 ∨ 5 < p.2.length then (23, 0) else match pBad [] p.2 with
    | some i => (23, i)
    | none => (0, 0)

/-! ## Numbers -/

def pDec : Nat → List UInt8 → Option Nat
  | a, [] => some a
  | a, c :: r => if 48 ≤ c.toNat ∧ c.toNat ≤ 57 then pDec (a * 10 + (c.toNat - 48)) r else none

def pMag (neg : Bool) (r : List UInt8) : Option Int :=
  if r.length < 1 ∨ 18 < r.length ∨ (r.head?.map (·.toNat) = some 48 ∧ (1 < r.length ∨ neg = true)) then none
  else (pDec 0 r).map fun u => if neg then -(u : Int) else u

/-- The number that a word is. -/
def pNum (l : List UInt8) : Option Int :=
  match l with
  | c :: r => if c.toNat = 45 then pMag true r else pMag false (c :: r)
  | [] => none

/-! ## What is printed -/

def sPolicy : List UInt8 := [112, 111, 108, 105, 99, 121]
def sTier : List UInt8 := [116, 105, 101, 114]
def sEvery : List UInt8 := [101, 118, 101, 114, 121]
def sKeep : List UInt8 := [107, 101, 101, 112]
def sShards : List UInt8 := [115, 104, 97, 114, 100, 115]

/-- The words of a line of a tier. -/
def tierWords (t : TierL) : List (List UInt8) := [sTier, t.1.data.toList, sEvery, itoa t.2.1, sKeep, itoa t.2.2.1, sShards, itoa t.2.2.2]
def headWords (p : PolL) : List (List UInt8) := [sPolicy, p.1.data.toList]
def polWords (p : PolL) : List (List (List UInt8)) := headWords p :: p.2.map tierWords

/-- Words with one blank between them. -/
def oneLine : List (List UInt8) → List UInt8
  | [] => []
  | [w] => w
  | w :: x :: r => w ++ 32 :: oneLine (x :: r)

def polText (p : PolL) : List UInt8 := ((polWords p).map fun l => oneLine l ++ [10]).flatten

def pPrint (p : PolL) : ByteArray × Int := if (pCheck p).1 = 0 then (⟨(polText p).toArray⟩, 0) else (⟨#[]⟩, (pCheck p).1)

/-! ## What is read -/

/-- The tier that a line is. -/
def tierOf (l : List (List UInt8)) : Option TierL :=
  match l with
  | [a, n, b, e, c, k, d, s] =>
    if a = sTier ∧ b = sEvery ∧ c = sKeep ∧ d = sShards then
      match pNum e, pNum k, pNum s with
      | some x, some y, some z => some (⟨n.toArray⟩, x, y, z)
      | _, _, _ => none
    else none
  | _ => none

def texts (l : List WdL) : List (List UInt8) := l.map fun x => x.1.data.toList

/-- Lines of tiers; or the line of the first that is none. -/
def pTiers : Nat → List WdL → List TierL → List TierL ⊕ Int
  | 0, _, d => .inl d
  | n + 1, ws, d => match ws with
    | [] => .inl d
    | x :: r =>
      match tierOf (texts ((x :: r).take (wLine (x :: r)))) with
      | none => .inr x.2.1
      | some t => if 5 ≤ d.length then .inr x.2.1 else pTiers n ((x :: r).drop (wLine (x :: r))) (d ++ [t])

/-- Of the words. -/
def pOf (ws : List WdL) : PolL × Int × Int :=
  match ws with
  | [] => (PolL.none, 22, 1)
  | x :: r =>
    match texts ((x :: r).take (wLine (x :: r))) with
    | [a, n] => if a = sPolicy then
        match pTiers (x :: r).length ((x :: r).drop (wLine (x :: r))) [] with
        | .inl d => ((⟨n.toArray⟩, d), 0, 0)
        | .inr k => (PolL.none, 22, k)
      else (PolL.none, 22, x.2.1)
    | _ => (PolL.none, 22, x.2.1)

def pParse (t : List UInt8) : PolL × Int × Int :=
  match wCut t with
  | (none, e, n) => (PolL.none, e, n)
  | (some ws, _, _) => pOf ws

def pRead (t : List UInt8) : PolL × Int × Int :=
  if (pParse t).2.1 ≠ 0 then (PolL.none, (pParse t).2)
  else if (pCheck (pParse t).1).1 ≠ 0 then (PolL.none, pCheck (pParse t).1)
  else ((pParse t).1, 0, 0)

/-! ## Numbers that are printed are read -/

theorem pDec_append (a : Nat) (x y : List UInt8) : pDec a (x ++ y) = (pDec a x).bind fun b => pDec b y := by
  induction x generalizing a with
  | nil => rfl
  | cons c r ih =>
    rw [List.cons_append, pDec, pDec]
    split
    · exact ih _
    · rfl

theorem digit_back (d : Nat) (h : d < 10) : (UInt8.ofNat (48 + d)).toNat = 48 + d := by
  rw [UInt8.toNat_ofNat']
  omega

theorem pDig_one (u : Nat) (h : u < 10) : decDigits u = [UInt8.ofNat (48 + u)] := by rw [decDigits, dif_pos h]

theorem pDig_step (u : Nat) (h : ¬ u < 10) : decDigits u = decDigits (u / 10) ++ [UInt8.ofNat (48 + u % 10)] := by rw [decDigits, dif_neg h]

theorem pDec_digits (u : Nat) : pDec 0 (decDigits u) = some u := by
  induction u using Nat.strongRecOn with
  | _ u ih =>
    by_cases h : u < 10
    · rw [pDig_one u h, pDec, digit_back u h, if_pos (by omega), pDec]
      congr 1
      omega
    · rw [pDig_step u h, pDec_append, ih (u / 10) (by omega)]
      show pDec (u / 10) [UInt8.ofNat (48 + u % 10)] = _
      rw [pDec, digit_back _ (by omega), if_pos (by omega), pDec]
      congr 1
      omega

theorem digits_few (k u : Nat) (hk : 1 ≤ k) (h : u < 10 ^ k) : 1 ≤ (decDigits u).length ∧ (decDigits u).length ≤ k := by
  induction k generalizing u with
  | zero => omega
  | succ k ih =>
    by_cases h1 : u < 10
    · rw [pDig_one u h1]
      simp
    · rw [pDig_step u h1, List.length_append]
      by_cases hk0 : k = 0
      · subst hk0
        simp at h
        omega
      · have := ih (u / 10) (by omega) (by rw [Nat.pow_succ] at h; omega)
        simp
        omega

/-- The digits of a number above 0: the first is none of 0 and '-', each is a digit. -/
theorem digits_head (u : Nat) (h0 : 0 < u) : ∃ c r, decDigits u = c :: r ∧ 49 ≤ c.toNat ∧ c.toNat ≤ 57 := by
  induction u using Nat.strongRecOn with
  | _ u ih =>
    by_cases h : u < 10
    · exact ⟨_, [], pDig_one u h, by rw [digit_back u h]; omega, by rw [digit_back u h]; omega⟩
    · obtain ⟨c, r, h1, h2, h3⟩ := ih (u / 10) (by omega) (by omega)
      exact ⟨c, r ++ [UInt8.ofNat (48 + u % 10)], by rw [pDig_step u h, h1]; rfl, h2, h3⟩

theorem digits_all (u : Nat) : ∀ c ∈ decDigits u, 48 ≤ c.toNat ∧ c.toNat ≤ 57 := by
  induction u using Nat.strongRecOn with
  | _ u ih =>
    by_cases h : u < 10
    · rw [pDig_one u h]
      intro c hc
      simp only [List.mem_singleton] at hc
      rw [hc, digit_back u h]
      omega
    · rw [pDig_step u h]
      intro c hc
      rw [List.mem_append] at hc
      rcases hc with hc | hc
      · exact ih (u / 10) (by omega) c hc
      · simp only [List.mem_singleton] at hc
        rw [hc, digit_back _ (by omega)]
        omega

theorem pNum_itoa (v : Int) (h1 : 1 ≤ v) (h2 : v ≤ 1000000) : pNum (itoa v) = some v := by
  obtain ⟨u, rfl⟩ : ∃ u : Nat, v = u := ⟨v.toNat, by omega⟩
  have e : itoa (u : Int) = decDigits u := by
    unfold itoa
    rw [if_neg (by omega), Int.toNat_natCast]
  obtain ⟨c, r, hc, h3, h4⟩ := digits_head u (by omega)
  have hl := digits_few 7 u (by omega) (by omega)
  rw [e, hc]
  rw [hc] at hl
  unfold pNum
  simp only
  rw [if_neg (by omega)]
  unfold pMag
  rw [if_neg (by
    simp only [List.head?_cons, Option.map_some, Option.some.injEq]
    omega), ← hc, pDec_digits]
  rfl

theorem itoa_good (v : Int) (h1 : 1 ≤ v) : goodWord (itoa v) := by
  obtain ⟨u, rfl⟩ : ∃ u : Nat, v = u := ⟨v.toNat, by omega⟩
  have e : itoa (u : Int) = decDigits u := by
    unfold itoa
    rw [if_neg (by omega), Int.toNat_natCast]
  obtain ⟨c, r, hc, h3, h4⟩ := digits_head u (by omega)
  rw [e]
  exact ⟨c, r, hc, by omega, fun b hb => by
    have := digits_all u b hb
    unfold goodByte
    omega⟩

theorem name_good {s : ByteArray} (h : nOk s = true) : goodWord s.data.toList := by
  unfold nOk at h
  simp only [Bool.and_eq_true, decide_eq_true_eq] at h
  obtain ⟨⟨h1, h2⟩, h3⟩ := h
  obtain ⟨r, hr⟩ := list_cons s h1
  have hall : ∀ b ∈ s.data.toList, nByteP b.toNat := fun b hb => by
    have := List.all_eq_true.1 h3 b hb
    unfold nByte at this
    simpa using this
  refine ⟨_, r, hr, ?_, fun b hb => ?_⟩
  · have := hall _ (by rw [hr]; exact List.mem_cons_self)
    unfold nByteP at this
    omega
  · have := hall b hb
    unfold nByteP at this
    unfold goodByte
    omega

end Go.Proofs.YtadepjpmpjipmaaGreatDoor

/-
  What chapter 8 says of package policy's functions, over policies of one's own and those that came in; Small, LentTiers, StaysTiers (package sedimentbook).
-/
namespace Go.Proofs.YtadepjpmpjipmaaGreatDoor
open Go.RowKit Go.Lib

/-- A policy, as a value: its name and the slice of its tiers. -/
abbrev polVal (n : ByteArray) (s : Value) : Value := .agg #[.string n, s]

/-- A slice is not longer than its room. -/
def CapOk : Value → Prop
  | .slice _ n c => n ≤ c
  | _ => True

theorem own_cap {w : World} {B : Nat} {e : TypeId} {s : Nat} {v : Value} {n : Nat} {xs : List Value} (h : w.ownsRow B e s v n xs) : CapOk v := by
  obtain ⟨hl, h⟩ := h
  rcases h with ⟨rfl, rfl⟩ | ⟨g, cap, cur, rfl, hB, hrow, hcap, hmax, hcs, htk⟩
  · exact Nat.le_refl _
  · exact hcap

theorem LentRow.cap {w : World} {B : Nat} {v : Value} {n : Nat} {xs mark : List Value} (h : LentRow w B v n xs mark) : CapOk v := by
  obtain ⟨g, cap, rfl, hB, hg, hc, hm, hcs⟩ := h
  show n ≤ cap
  omega

/-- The value v is the policy p. -/
def PolRow (w : World) (v : Value) (p : PolL) : Prop := ∃ s, v = polVal p.1 s ∧ CellRow w s p.2.length (flat penc p.2) ∧ CapOk s

/-- One of one's own above B. -/
def OwnPol (B : Nat) (w : World) (v : Value) (p : PolL) : Prop := ∃ s, v = polVal p.1 s ∧ w.ownsRow B 49 4 s p.2.length (flat penc p.2)

theorem PolRow.kept {w w' : World} {v : Value} {p : PolL} (h : PolRow w v p) (b : Below w.heap.size w w') : PolRow w' v p := by
  obtain ⟨s, hv, hs, hk⟩ := h
  exact ⟨s, hv, hs.kept b, hk⟩

/-- Few tiers, short names. -/
def PSmall (p : PolL) : Prop := p.2.length ≤ 10 ∧ p.1.size ≤ 60 ∧ ∀ x ∈ p.2, x.1.size ≤ 60

/-- A variable that holds a policy. -/
def PBlk (w : World) (b : Nat) (n : ByteArray) (s : Value) : Prop := w.heap[b]? = some (.cells #[.string n, s] 24 (0, 0))

theorem PBlk.made (w : World) (n : ByteArray) (s : Value) : PBlk (w.alloc (.cells #[.string n, s] 24)) w.heap.size n s := Go.heap_alloc_new _ _

theorem PBlk.kept {w w' : World} {b : Nat} {n : ByteArray} {s : Value} (h : PBlk w b n s) (c : Below w.heap.size w w') : PBlk w' b n s := by
  unfold PBlk at h ⊢
  rw [c.block b (Array.getElem?_eq_some_iff.1 h).1]
  exact h

theorem PBlk.at {w : World} {b : Nat} {n : ByteArray} {s : Value} (h : PBlk w b n s) : w.cell? ⟨b, 0, none⟩ = some (.string n) ∧ w.cell? ⟨b, 1, none⟩ = some s := by
  refine ⟨?_, ?_⟩ <;> (rw [cell_of_row w b _ _ _ _ h]; rfl)

set_option maxRecDepth 20000 in
set_option maxHeartbeats 1600000 in
theorem Small_any (v : Value) (p : PolL) (w : World) (hv : PolRow w v p) :
    Calls Tryz.prog 4 #[v] w fun e w' => ∃ r : Bool, e = .returned (.bool r) ∧ Hid (r = true → PSmall p) ∧ Below w.heap.size w w' := by
  obtain ⟨n, l⟩ := p
  obtain ⟨s, rfl, hs, -⟩ := hv
  simp only at hs
  have HS := Hid.of hs
  obtain ⟨sa, sc, rfl, -⟩ := hs
  go_enter Tryz.func4, Tryz.ntmps4
  go_wp2
  go_loopw [3] (fun i wr => ∃ j : Nat, j ≤ l.length ∧ j ≤ 12 ∧ i = .int .i64 j ∧ Hid (PBlk wr w.heap.size n (.slice sa l.length sc)) ∧ Hid (∀ x ∈ l.take j, x.1.size ≤ 60) ∧ Below w.heap.size w wr) (fun i _ => 12 - (RowKit.intOf i).toNat)
  case atStart => exact ⟨0, Nat.zero_le _, by decide, rfl, Hid.of (PBlk.made _ _ _), Hid.of (by simp), (Below.refl _ _).alloc (Nat.le_refl _) _⟩
  case round =>
    obtain ⟨j, hj, hj12, rfl, K, A, hb⟩ := hrel
    obtain ⟨c0, c1⟩ := K.out.at
    have i0 : (0 : Int) ≤ (j : Int) := Int.natCast_nonneg _
    by_cases hlt : j < l.length
    · have i1 : (j : Int) < (l.length : Int) := by omega
      by_cases h12 : j < 12
      · have i2 : (j : Int) < 12 := by omega
        obtain ⟨b1, o1, rfl, hl1, hc1⟩ := p_at HS.out j l[j] (by simp [hlt])
        obtain ⟨x, hx⟩ : ∃ x, l[j] = x := ⟨_, rfl⟩
        rw [hx] at hc1
        obtain ⟨d0, -, -, -⟩ := hc1
        rw [← hb.cell hl1] at d0
        have HX := Hid.of hx
        by_cases h60 : x.1.size ≤ 60
        · have i3 : ¬ (60 : Int) < (x.1.size : Int) := by omega
          clear hx
          go_wp2
          go_roundw
          case rel =>
            refine ⟨j + 1, by omega, by omega, by go_num, K, Hid.of ?_, hb⟩
            intro y hy
            rw [List.take_succ_eq_append_getElem hlt, List.mem_append, List.mem_singleton, HX.out] at hy
            rcases hy with hy | rfl
            · exact A.out y hy
            · exact h60
          case measure => simp [RowKit.intOf]; omega
        · have i3 : (60 : Int) < (x.1.size : Int) := by omega
          clear hx
          go_wp2
          go_ret
          exact ⟨false, rfl, Hid.of (fun h => by cases h), hb⟩
      · have i2 : ¬ (j : Int) < 12 := by omega
        have i3 : ¬ (l.length : Int) ≤ 10 := by omega
        go_wp2
        go_ret
        exact .inl ⟨rfl, Hid.of trivial, hb⟩
    · have i1 : ¬ (j : Int) < (l.length : Int) := by omega
      have hjl : j = l.length := by omega
      by_cases h10 : l.length ≤ 10
      · have i3 : (l.length : Int) ≤ 10 := by omega
        by_cases h60 : n.size ≤ 60
        · have i4 : (n.size : Int) ≤ 60 := by omega
          go_wp2
          go_ret
          refine .inr ⟨rfl, Hid.of ⟨h10, h60, fun x hx => ?_⟩, hb⟩
          have := A.out x
          rw [hjl, List.take_length] at this
          exact this hx
        · have i4 : ¬ (n.size : Int) ≤ 60 := by omega
          go_wp2
          go_ret
          exact .inl ⟨rfl, Hid.of trivial, hb⟩
      · have i3 : ¬ (l.length : Int) ≤ 10 := by omega
        go_wp2
        go_ret
        exact .inl ⟨rfl, Hid.of trivial, hb⟩

/-- The mark behind lent tiers. -/
def tMark : TierL := (⟨#[]⟩, 0, -77, 0)

set_option maxHeartbeats 400000 in
theorem LentTiers_any (v : Value) (l : List TierL) (w : World) (hv : CellRow w v l.length (flat penc l)) (hn : l.length ≤ 1000000) :
    Calls Tryz.prog 6 #[v] w fun e w' => ∃ m, e = .returned m ∧ LentRow w' w.heap.size m l.length (flat penc l) (penc tMark) ∧ Below w.heap.size w w' := by
  have HC := Hid.of hv
  obtain ⟨sa, c, rfl, _⟩ := hv
  obtain ⟨i0, hi, hz0, hz1, hz2⟩ := info_parts (show (Tryz.prog.info? 49).map (fun i => (i.zero, i.size, i.bytes)) = some (some (.agg #[.string ⟨#[]⟩, .int .i64 0, .int .i64 0, .int .i64 0]), 4, 40) by kernel_rfl)
  have HI := Hid.of hi
  have HZ0 := Hid.of hz0
  have HZ1 := Hid.of hz1
  have HZ2 := Hid.of hz2
  clear hi hz0 hz1 hz2
  go_enter Tryz.func6, Tryz.ntmps6
  go_wp2_with (first | (at_builtin; refine append_row_law rfl _ (.tmp 3) 22 rfl w.heap.size 49 i0 (.agg #[.string ⟨#[]⟩, .int .i64 0, .int .i64 0, .int .i64 0]) 4 40 Tryz.underlying22 HI.out HZ0.out HZ1.out HZ2.out rfl (by decide) (.slice none 0 0) 0 [] rfl ⟨rfl, .inl ⟨rfl, rfl⟩⟩ _ l.length _ rfl HC.out (flat_length penc_len l) (flat_ones penc_one l) (by unfold maxLen; omega) (by omega) (Nat.le_refl _) ?_; intro v1 w1 o1 g1; have O1 : Hid (w1.ownsRow w.heap.size 49 4 v1 l.length (flat penc l)) := Hid.of (by simpa using o1); have b1 : Below w.heap.size w w1 := below_of_none g1; clear o1 g1) | (at_builtin; refine append_row_law rfl (.tmp 4) (.tmp 6) 22 rfl w.heap.size 49 i0 (.agg #[.string ⟨#[]⟩, .int .i64 0, .int .i64 0, .int .i64 0]) 4 40 Tryz.underlying22 HI.out HZ0.out HZ1.out HZ2.out rfl (by decide) v1 l.length _ rfl (O1.out.alloc _) (.slice (some ⟨w1.heap.size, 0, none⟩) 1 1) 1 (penc tMark) rfl ⟨_, _, rfl, .inr ⟨_, 0, rfl, by simp, new_cells w1 _ _⟩⟩ rfl (penc_one tMark) (by unfold maxLen; omega) (by omega) (by simp; have := b1.size; omega) ?_; intro v2 w2 o2 g2; obtain ⟨hl2, h2⟩ := o2; obtain ⟨g, cap, cur, rfl, hB, hrow, hcap, hmax, hcs, htk⟩ := h2.resolve_left (by simp)))
  go_ret
  have hg := (Array.getElem?_eq_some_iff.1 hrow).1
  refine ⟨_, rfl, ⟨g, cap, rfl, hB, hg, hcap, hmax, fun j u hj => ?_⟩, (b1.alloc b1.size _).grown g2 (by have := b1.size; simp; omega) (fun k hk => own_ge O1.out hk)⟩
  rw [Nat.zero_add, cell_of_row w2 g j _ _ _ hrow]
  rw [← htk] at hj
  rw [List.getElem?_take] at hj
  split at hj
  · simpa using hj
  · cases hj

set_option maxHeartbeats 400000 in
theorem StaysTiers_any (B : Nat) (u v : Value) (l : List TierL) (w : World) (hu : LentRow w B u l.length (flat penc l) (penc tMark)) (hv : CellRow w v l.length (flat penc l)) (hn : l.length ≤ 1000000) :
    Calls Tryz.prog 15 #[u, v] w fun e w' => e = .returned (.bool true) ∧ Below w.heap.size w w' := by
  have HU := Hid.of hu.row
  have HV := Hid.of hv
  obtain ⟨g, cap, rfl, hB, hg, hc, hm, hcs⟩ := hu
  have hmark := hcs (l.length * 4 + 2) (.int .i64 (-77)) (by rw [List.getElem?_append_right (by rw [flat_length penc_len]; omega), flat_length penc_len]; simp [penc, tMark])
  rw [Nat.zero_add] at hmark
  have HM := Hid.of hmark
  have c0 : (l.length : Int) + 1 ≤ (cap : Int) := by omega
  clear hcs hm hB hmark
  go_enter Tryz.func15, Tryz.ntmps15
  go_wp2_with fail
  refine (SameTiers_quiet _ _ l _ HU.out HV.out hn).mono ?_
  rintro e w1 ⟨rfl, q, rfl⟩
  have hmark := HM.out
  go_wp2
  go_ret
  exact ⟨rfl, below_drewN (Below.refl _ _) _⟩

end Go.Proofs.YtadepjpmpjipmaaGreatDoor

/-
  Lines of words that are laid, however, are read as they were.
-/
namespace Go.Proofs.YtadepjpmpjipmaaGreatDoor
open Go.RowKit Go.Lib

/-- The word that ends ahead of a gap. -/
def WSt.behind (out : List WdL) (line col : Nat) (w : List UInt8) : List WdL := out ++ [(⟨w.toArray⟩, (line : Int), (col : Int) - (w.length : Int))]

/-- Blanks between two words of a line. -/
def BlankGap (g : List UInt8) : Prop := ∀ out line col w, ∃ col', wRun ⟨out, line, col, some w, false⟩ g = .inl ⟨WSt.behind out line col w, line, col', none, false⟩
/-- What ends a line (remarks and empty lines with it); d line ends in all. -/
def EndGap (d : Nat) (g : List UInt8) : Prop := ∀ out line col w, wRun ⟨out, line, col, some w, false⟩ g = .inl ⟨WSt.behind out line col w, line + d, 1, none, false⟩

theorem blank_1 : BlankGap [32] := fun _ _ col _ => ⟨col + 1, rfl⟩
theorem blank_2 : BlankGap [32, 32] := fun _ _ col _ => ⟨col + 2, rfl⟩
theorem blank_t : BlankGap [9] := fun _ _ col _ => ⟨col + 1, rfl⟩
theorem blank_3 : BlankGap [32, 9, 32] := fun _ _ col _ => ⟨col + 3, rfl⟩
theorem end_1 : EndGap 1 [10] := fun _ _ _ _ => rfl
theorem end_2 : EndGap 2 [10, 10] := fun _ _ _ _ => rfl
theorem end_x : EndGap 1 [32, 35, 32, 120, 32, 121, 10] := fun _ _ _ _ => rfl
theorem end_z : EndGap 2 [10, 35, 32, 116, 105, 101, 114, 32, 122, 10] := fun _ _ _ _ => rfl

/-- Words laid as a line, with its end; d line ends. -/
inductive Lays : Nat → List (List UInt8) → List UInt8 → Prop
  | last (d : Nat) (w e : List UInt8) : goodWord w → EndGap d e → 1 ≤ d → Lays d [w] (w ++ e)
  | more (d : Nat) (w g : List UInt8) (ws : List (List UInt8)) (t : List UInt8) : goodWord w → BlankGap g → Lays d ws t → Lays d (w :: ws) (w ++ (g ++ t))

theorem Lays.run {d : Nat} {ws : List (List UInt8)} {t : List UInt8} (h : Lays d ws t) : ∀ st : WSt, st.cur = none → st.remark = false →
    ∃ xs, wRun st t = .inl ⟨st.out ++ xs, st.line + d, 1, none, false⟩ ∧ texts xs = ws ∧ xs ≠ [] ∧ (∀ x ∈ xs, x.2.1 = (st.line : Int)) ∧ 1 ≤ d := by
  induction h with
  | last w e hw he hd =>
    intro st hc hr
    refine ⟨[(⟨w.toArray⟩, (st.line : Int), ((st.col + w.length : Nat) : Int) - (w.length : Int))], ?_, by simp [texts], by simp, ?_, hd⟩
    · rw [wRun_append, run_word hw st hc hr]
      exact he _ _ _ _
    · intro x hx
      simp only [List.mem_singleton] at hx
      rw [hx]
  | more w g ws t hw hg _ ih =>
    intro st hc hr
    obtain ⟨col', hcol⟩ := hg st.out st.line (st.col + w.length) w
    obtain ⟨xs, h1, h2, h3, h4, h5⟩ := ih ⟨WSt.behind st.out st.line (st.col + w.length) w, st.line, col', none, false⟩ rfl rfl
    refine ⟨(⟨w.toArray⟩, (st.line : Int), ((st.col + w.length : Nat) : Int) - (w.length : Int)) :: xs, ?_, by rw [← h2]; simp [texts], by simp, ?_, h5⟩
    · rw [wRun_append, run_word hw st hc hr]
      show wRun _ (g ++ t) = _
      rw [wRun_append, hcol]
      show wRun _ t = _
      rw [h1]
      unfold WSt.behind
      rw [List.append_assoc]
      rfl
    · intro x hx
      rcases List.mem_cons.1 hx with hx | hx
      · rw [hx]
      · exact h4 x hx

/-- Groups of words, one a line, in rising lines from n on. -/
def Grp : Int → List (List WdL) → Prop
  | _, [] => True
  | n, g :: gs => ∃ k, n ≤ k ∧ g ≠ [] ∧ (∀ x ∈ g, x.2.1 = k) ∧ Grp (k + 1) gs

theorem Grp.mono : ∀ {n m : Int} {gs : List (List WdL)}, Grp n gs → m ≤ n → Grp m gs
  | _, _, [], _, _ => trivial
  | _, _, _ :: _, ⟨k, h1, h2, h3, h4⟩, h => ⟨k, by omega, h2, h3, h4⟩

theorem Grp.lines : ∀ {n : Int} {gs : List (List WdL)}, Grp n gs → ∀ x ∈ gs.flatten, n ≤ x.2.1
  | _, [], _, x, hx => by simp at hx
  | _, g :: gs, ⟨k, h1, h2, h3, h4⟩, x, hx => by
    rw [List.flatten_cons, List.mem_append] at hx
    rcases hx with hx | hx
    · rw [h3 x hx]
      exact h1
    · have := h4.lines x hx
      omega

/-- Lines laid one behind the other. -/
inductive Lines : List (List (List UInt8)) → List UInt8 → Prop
  | nil : Lines [] []
  | cons (d : Nat) (l : List (List UInt8)) (t : List UInt8) (ls : List (List (List UInt8))) (u : List UInt8) : Lays d l t → Lines ls u → Lines (l :: ls) (t ++ u)

theorem Lines.run {ls : List (List (List UInt8))} {t : List UInt8} (h : Lines ls t) : ∀ st : WSt, st.cur = none → st.remark = false →
    ∃ gs line' col', wRun st t = .inl ⟨st.out ++ gs.flatten, line', col', none, false⟩ ∧ gs.map texts = ls ∧ Grp st.line gs ∧ st.line ≤ line' := by
  induction h with
  | nil =>
    intro st hc hr
    refine ⟨[], st.line, st.col, ?_, rfl, trivial, Nat.le_refl _⟩
    obtain ⟨o, l, c, cu, r⟩ := st
    simp only at hc hr
    subst hc hr
    simp [wRun]
  | cons d l t ls u hl _ ih =>
    intro st hc hr
    obtain ⟨xs, h1, h2, h3, h4, h5⟩ := hl.run st hc hr
    obtain ⟨gs, line', col', g1, g2, g3, g4⟩ := ih ⟨st.out ++ xs, st.line + d, 1, none, false⟩ rfl rfl
    refine ⟨xs :: gs, line', col', ?_, by rw [List.map_cons, h2, g2], ⟨st.line, Int.le_refl _, h3, h4, g3.mono ?_⟩, ?_⟩
    · rw [wRun_append, h1]
      show wRun _ u = _
      rw [g1, List.flatten_cons, List.append_assoc]
    · simp only
      omega
    · simp only at g4
      omega

theorem takeWhile_group {k : Int} (g r : List WdL) (hg : ∀ x ∈ g, x.2.1 = k) (hr : ∀ x ∈ r, k < x.2.1) : ((g ++ r).takeWhile fun y => y.2.1 == k) = g := by
  induction g with
  | nil =>
    cases r with
    | nil => rfl
    | cons x r =>
      have := hr x List.mem_cons_self
      rw [List.nil_append, List.takeWhile_cons, if_neg (by simp; omega)]
  | cons y g ih =>
    rw [List.cons_append, List.takeWhile_cons, if_pos (by simp [hg y List.mem_cons_self]), ih (fun x hx => hg x (List.mem_cons_of_mem _ hx))]

theorem wLine_group {k : Int} {g r : List WdL} (h0 : g ≠ []) (hg : ∀ x ∈ g, x.2.1 = k) (hr : ∀ x ∈ r, k < x.2.1) : wLine (g ++ r) = g.length ∧ ∃ x l, g ++ r = x :: l ∧ x.2.1 = k := by
  cases g with
  | nil => exact absurd rfl h0
  | cons x g =>
    have hx := hg x List.mem_cons_self
    refine ⟨?_, x, g ++ r, rfl, hx⟩
    show (((x :: g) ++ r).takeWhile fun y => y.2.1 == x.2.1).length = _
    rw [hx, takeWhile_group _ _ hg hr]

/-- The group that comes first is a tier. -/
theorem pTiers_step {k : Int} {g r : List WdL} {t : TierL} (n : Nat) (d : List TierL) (h0 : g ≠ []) (hg : ∀ x ∈ g, x.2.1 = k) (hr : ∀ x ∈ r, k < x.2.1) (ht : tierOf (texts g) = some t) (hd : d.length < 5) : pTiers (n + 1) (g ++ r) d = pTiers n r (d ++ [t]) := by
  obtain ⟨h1, x, l, h2, h3⟩ := wLine_group h0 hg hr
  rw [h2, pTiers, ← h2, h1, List.take_left, List.drop_left, ht]
  simp only
  rw [if_neg (by omega)]

/-- It is none. -/
theorem pTiers_bad {k : Int} {g r : List WdL} (n : Nat) (d : List TierL) (h0 : g ≠ []) (hg : ∀ x ∈ g, x.2.1 = k) (hr : ∀ x ∈ r, k < x.2.1) (ht : tierOf (texts g) = none) : pTiers (n + 1) (g ++ r) d = .inr k := by
  obtain ⟨h1, x, l, h2, h3⟩ := wLine_group h0 hg hr
  rw [h2, pTiers, ← h2, h1, List.take_left, ht, h3]

theorem tierOf_words {t : TierL} (h1 : 1 ≤ t.2.1 ∧ t.2.1 ≤ 1000000) (h2 : 1 ≤ t.2.2.1 ∧ t.2.2.1 ≤ 1000000) (h3 : 1 ≤ t.2.2.2 ∧ t.2.2.2 ≤ 1000000) : tierOf (tierWords t) = some t := by
  unfold tierOf tierWords
  simp only [and_self, if_true]
  rw [pNum_itoa _ h1.1 h1.2, pNum_itoa _ h2.1 h2.2, pNum_itoa _ h3.1 h3.2]

/-- A tier that may be, wherever. -/
def tierIn (t : TierL) : Prop := nOk t.1 = true ∧ (1 ≤ t.2.1 ∧ t.2.1 ≤ 1000000) ∧ (1 ≤ t.2.2.1 ∧ t.2.2.1 ≤ 1000000) ∧ (1 ≤ t.2.2.2 ∧ t.2.2.2 ≤ 1000000)

theorem tierOk_in {d : List TierL} {t : TierL} (h : tierOk d t = true) : tierIn t := by
  unfold tierOk at h
  simp only [Bool.and_eq_true, decide_eq_true_eq] at h
  unfold tierIn
  obtain ⟨⟨⟨⟨⟨⟨⟨⟨a, b⟩, c⟩, e⟩, f⟩, g⟩, i⟩, _⟩, _⟩ := h
  exact ⟨a, ⟨g, i⟩, ⟨b, c⟩, ⟨e, by omega⟩⟩

theorem pBad_none : ∀ {r d : List TierL}, pBad d r = none → ∀ t ∈ r, tierIn t
  | [], _, _, t, ht => absurd ht List.not_mem_nil
  | x :: r, d, h, t, ht => by
    rw [pBad] at h
    split at h
    · rename_i hx
      rcases List.mem_cons.1 ht with rfl | ht
      · exact tierOk_in hx
      · exact pBad_none h t ht
    · cases h

theorem pCheck_in {p : PolL} (h : (pCheck p).1 = 0) : nOk p.1 = true ∧ 1 ≤ p.2.length ∧ p.2.length ≤ 5 ∧ ∀ t ∈ p.2, tierIn t := by
  unfold pCheck at h
  split at h
  · cases h
  · rename_i hn
    split at h
    · cases h
    · rename_i hb
      refine ⟨by cases hk : nOk p.1 <;> simp_all, by omega, by omega, pBad_none hb⟩

theorem pTiers_all : ∀ {gs : List (List WdL)} {ts d : List TierL} {n : Int} (f : Nat), Grp n gs → gs.map texts = ts.map tierWords → (∀ t ∈ ts, tierIn t) → d.length + ts.length ≤ 5 → gs.length ≤ f → pTiers f gs.flatten d = .inl (d ++ ts)
  | [], ts, d, n, f, _, h2, _, _, _ => by
    have : ts = [] := by
      cases ts with
      | nil => rfl
      | cons a b => simp at h2
    subst this
    cases f <;> simp [pTiers]
  | g :: gs, ts, d, n, f, ⟨k, h1, h0, hg, hgs⟩, h2, h3, h4, h5 => by
    cases ts with
    | nil => simp at h2
    | cons t ts =>
      simp only [List.map_cons, List.cons.injEq] at h2
      cases f with
      | zero => simp at h5
      | succ f =>
        have ht := h3 t List.mem_cons_self
        have hr : ∀ x ∈ gs.flatten, k < x.2.1 := fun x hx => by
          have := hgs.lines x hx
          omega
        simp only [List.length_cons] at h4
        rw [List.flatten_cons, pTiers_step f d h0 hg hr (by rw [h2.1]; exact tierOf_words ht.2.1 ht.2.2.1 ht.2.2.2) (by omega),
          pTiers_all f hgs h2.2 (fun x hx => h3 x (List.mem_cons_of_mem _ hx)) (by rw [List.length_append]; simp; omega) (by simpa using h5), List.append_assoc]
        rfl

/-- Lines of a policy that may be, however they are laid, are read as it. -/
theorem pOf_lines {gs : List (List WdL)} {n : Int} {p : PolL} (hg : Grp n gs) (ht : gs.map texts = polWords p) (h : (pCheck p).1 = 0) : pOf gs.flatten = (p, 0, 0) := by
  obtain ⟨c1, c2, c3, c4⟩ := pCheck_in h
  cases gs with
  | nil => simp [polWords] at ht
  | cons g gs =>
    simp only [polWords, List.map_cons, List.cons.injEq] at ht
    obtain ⟨k, h1, h0, hgl, hgs⟩ := hg
    have hr : ∀ x ∈ gs.flatten, k < x.2.1 := fun x hx => by
      have := hgs.lines x hx
      omega
    obtain ⟨w1, x, l, w2, w3⟩ := wLine_group h0 hgl hr
    have hlen : gs.length ≤ (g ++ gs.flatten).length := by
      have hl : ∀ {m : Int} {gs : List (List WdL)}, Grp m gs → gs.length ≤ gs.flatten.length := by
        intro m gs
        induction gs generalizing m with
        | nil => intro _; simp
        | cons a gs ih =>
          rintro ⟨_, _, h0, _, hh⟩
          have := ih hh
          have h0' : 0 < a.length := List.length_pos_iff.2 h0
          simp only [List.length_cons, List.flatten_cons, List.length_append]
          omega
      have := hl hgs
      rw [List.length_append]
      omega
    rw [List.flatten_cons]
    unfold pOf
    rw [w2]
    simp only
    rw [← w2, w1, List.take_left, List.drop_left, ht.1]
    unfold headWords
    simp only [if_true]
    rw [pTiers_all (d := []) _ hgs ht.2 c4 (by simpa using c3) hlen]
    rfl

/-- Read of lines of a policy that may be. -/
theorem pRead_lines {p : PolL} {t : List UInt8} (hl : Lines (polWords p) t) (h : (pCheck p).1 = 0) (hn : t.length ≤ 4000) : pParse t = (p, 0, 0) ∧ pRead t = (p, 0, 0) := by
  obtain ⟨gs, line', col', h1, h2, h3, _⟩ := hl.run .start rfl rfl
  have hp : pParse t = (p, 0, 0) := by
    unfold pParse wCut
    rw [if_neg (by omega), h1]
    show pOf (([] : List WdL) ++ gs.flatten) = _
    rw [List.nil_append]
    exact pOf_lines h3 h2 h
  refine ⟨hp, ?_⟩
  unfold pRead
  rw [hp]
  simp [h]

end Go.Proofs.YtadepjpmpjipmaaGreatDoor

/-
  A printed policy's lines, with other blanks and line ends between its words too.
-/
namespace Go.Proofs.YtadepjpmpjipmaaGreatDoor
open Go.RowKit Go.Lib

def blankOf : Nat → List UInt8
  | 0 => [32]
  | 1 => [32, 32]
  | 2 => [9]
  | _ => [32, 9, 32]

def endOf : Nat → List UInt8
  | 0 => [10]
  | 1 => [10, 10]
  | 2 => [32, 35, 32, 120, 32, 121, 10]
  | _ => [10, 35, 32, 116, 105, 101, 114, 32, 122, 10]

theorem blankOf_gap (n : Nat) : BlankGap (blankOf n) := by
  unfold blankOf
  split
  · exact blank_1
  · exact blank_2
  · exact blank_t
  · exact blank_3

theorem endOf_gap (n : Nat) : ∃ d, 1 ≤ d ∧ EndGap d (endOf n) := by
  unfold endOf
  split
  · exact ⟨1, by omega, end_1⟩
  · exact ⟨2, by omega, end_2⟩
  · exact ⟨1, by omega, end_x⟩
  · exact ⟨2, by omega, end_z⟩

theorem gap_len (n : Nat) : (blankOf n).length ≤ 10 ∧ (endOf n).length ≤ 10 := by
  unfold blankOf endOf
  repeat' split
  all_goals decide

/-- Each blank and each line end another one, as g says of the k-th. -/
def spaced (g : Nat → Nat) : Nat → List UInt8 → List UInt8
  | _, [] => []
  | k, c :: r => if c.toNat = 32 then blankOf (g k) ++ spaced g (k + 1) r else if c.toNat = 10 then endOf (g k) ++ spaced g (k + 1) r else c :: spaced g k r

theorem spaced_len (g : Nat → Nat) : ∀ (t : List UInt8) (k : Nat), (spaced g k t).length ≤ 10 * t.length
  | [], _ => Nat.zero_le _
  | c :: r, k => by
    have h1 := spaced_len g r (k + 1)
    have h2 := spaced_len g r k
    have h3 := gap_len (g k)
    rw [spaced]
    split
    · rw [List.length_append, List.length_cons]
      omega
    · split
      · rw [List.length_append, List.length_cons]
        omega
      · rw [List.length_cons, List.length_cons]
        omega

theorem spaced_none : ∀ (t : List UInt8) (k : Nat), spaced (fun _ => 0) k t = t
  | [], _ => rfl
  | c :: r, k => by
    rw [spaced, spaced_none r (k + 1), spaced_none r k]
    have e : ∀ n, n = c.toNat → c = UInt8.ofNat n := fun n h => by rw [h]; simp
    split
    · rename_i h
      rw [e 32 h.symm]
      rfl
    · split
      · rename_i h
        rw [e 10 h.symm]
        rfl
      · rfl

theorem spaced_good (g : Nat → Nat) (k : Nat) (r : List UInt8) : ∀ (w : List UInt8), (∀ b ∈ w, goodByte b) → spaced g k (w ++ r) = w ++ spaced g k r
  | [], _ => rfl
  | c :: w, h => by
    have hc := h c List.mem_cons_self
    unfold goodByte at hc
    rw [List.cons_append, spaced, if_neg (by omega), if_neg (by omega), spaced_good g k r w (fun b hb => h b (List.mem_cons_of_mem _ hb))]
    rfl

theorem goodWord.all {w : List UInt8} (h : goodWord w) : ∀ b ∈ w, goodByte b := by
  obtain ⟨_, _, _, _, ha⟩ := h
  exact ha

theorem spaced_line (g : Nat → Nat) (r : List UInt8) : ∀ (l : List (List UInt8)) (k : Nat), l ≠ [] → (∀ w ∈ l, goodWord w) → ∃ d t k', spaced g k (oneLine l ++ 10 :: r) = t ++ spaced g k' r ∧ Lays d l t
  | [], _, h, _ => absurd rfl h
  | [w], k, _, hw => by
    have hg := hw w List.mem_cons_self
    obtain ⟨d, hd, he⟩ := endOf_gap (g k)
    refine ⟨d, w ++ endOf (g k), k + 1, ?_, Lays.last d w _ hg he hd⟩
    show spaced g k (w ++ 10 :: r) = _
    rw [spaced_good g k _ w hg.all, spaced, if_neg (by decide), if_pos (by decide), List.append_assoc]
  | w :: x :: l, k, _, hw => by
    have hg := hw w List.mem_cons_self
    obtain ⟨d, t, k', h1, h2⟩ := spaced_line g r (x :: l) (k + 1) (by simp) (fun y hy => hw y (List.mem_cons_of_mem _ hy))
    refine ⟨d, w ++ (blankOf (g k) ++ t), k', ?_, Lays.more d w _ _ _ hg (blankOf_gap (g k)) h2⟩
    show spaced g k ((w ++ 32 :: oneLine (x :: l)) ++ 10 :: r) = _
    rw [List.append_assoc, spaced_good g k _ w hg.all, List.cons_append, spaced, if_pos (by decide), h1]
    simp only [List.append_assoc]

/-- Lines with a line end each. -/
def flatLines (ls : List (List (List UInt8))) : List UInt8 := (ls.map fun l => oneLine l ++ [10]).flatten

theorem spaced_lines (g : Nat → Nat) : ∀ (ls : List (List (List UInt8))) (k : Nat), (∀ l ∈ ls, l ≠ [] ∧ ∀ w ∈ l, goodWord w) → Lines ls (spaced g k (flatLines ls))
  | [], _, _ => Lines.nil
  | l :: ls, k, h => by
    have e : flatLines (l :: ls) = oneLine l ++ 10 :: flatLines ls := by
      unfold flatLines
      rw [List.map_cons, List.flatten_cons, List.append_assoc]
      rfl
    obtain ⟨d, t, k', h1, h2⟩ := spaced_line g (flatLines ls) l k (h l List.mem_cons_self).1 (h l List.mem_cons_self).2
    rw [e, h1]
    exact Lines.cons d l t ls _ h2 (spaced_lines g ls k' (fun x hx => h x (List.mem_cons_of_mem _ hx)))

theorem polText_flat (p : PolL) : polText p = flatLines (polWords p) := rfl

theorem good_of (l : List UInt8) (h : (l.all fun b => decide (33 ≤ b.toNat) && decide (b.toNat ≤ 126)) = true) (h0 : (l.head?.map fun c => decide (c.toNat = 35)) = some false) : goodWord l := by
  cases l with
  | nil => cases h0
  | cons c r =>
    refine ⟨c, r, rfl, by simpa using h0, fun b hb => ?_⟩
    have := List.all_eq_true.1 h b hb
    simp only [Bool.and_eq_true, decide_eq_true_eq] at this
    exact this

theorem tierWords_good {t : TierL} (h : tierIn t) : tierWords t ≠ [] ∧ ∀ w ∈ tierWords t, goodWord w := by
  obtain ⟨h0, h1, h2, h3⟩ := h
  refine ⟨by unfold tierWords; simp, fun w hw => ?_⟩
  unfold tierWords at hw
  simp only [List.mem_cons, List.not_mem_nil, or_false] at hw
  rcases hw with rfl | rfl | rfl | rfl | rfl | rfl | rfl | rfl
  · exact good_of _ (by decide) (by decide)
  · exact name_good h0
  · exact good_of _ (by decide) (by decide)
  · exact itoa_good _ h1.1
  · exact good_of _ (by decide) (by decide)
  · exact itoa_good _ h2.1
  · exact good_of _ (by decide) (by decide)
  · exact itoa_good _ h3.1

theorem headWords_good {p : PolL} (h : nOk p.1 = true) : headWords p ≠ [] ∧ ∀ w ∈ headWords p, goodWord w := by
  refine ⟨by unfold headWords; simp, fun w hw => ?_⟩
  unfold headWords at hw
  simp only [List.mem_cons, List.not_mem_nil, or_false] at hw
  rcases hw with rfl | rfl
  · exact good_of _ (by decide) (by decide)
  · exact name_good h

theorem polWords_good {p : PolL} (h : (pCheck p).1 = 0) : ∀ l ∈ polWords p, l ≠ [] ∧ ∀ w ∈ l, goodWord w := by
  obtain ⟨c1, c2, c3, c4⟩ := pCheck_in h
  intro l hl
  unfold polWords at hl
  rcases List.mem_cons.1 hl with rfl | hl
  · exact headWords_good c1
  · obtain ⟨t, ht, rfl⟩ := List.mem_map.1 hl
    exact tierWords_good (c4 t ht)

theorem oneLine_len : ∀ (l : List (List UInt8)), l ≠ [] → (oneLine l).length + 1 = (l.map fun w => w.length + 1).sum
  | [], h => absurd rfl h
  | [w], _ => by simp [oneLine]
  | w :: x :: l, _ => by
    have := oneLine_len (x :: l) (by simp)
    rw [oneLine, List.length_append, List.length_cons, List.map_cons, List.sum_cons, ← this]
    omega

theorem nOk_le {s : ByteArray} (h : nOk s = true) : s.data.toList.length ≤ 15 := by
  unfold nOk at h
  simp only [Bool.and_eq_true, decide_eq_true_eq] at h
  rw [byte_len]
  exact h.1.2

theorem itoa_len {v : Int} (h1 : 1 ≤ v) (h2 : v ≤ 1000000) : (itoa v).length ≤ 7 := by
  obtain ⟨u, rfl⟩ : ∃ u : Nat, v = u := ⟨v.toNat, by omega⟩
  unfold itoa
  rw [if_neg (by omega), Int.toNat_natCast]
  exact (digits_few 7 u (by omega) (by omega)).2

theorem tierLine_len {t : TierL} (h : tierIn t) : (oneLine (tierWords t)).length + 1 ≤ 63 := by
  obtain ⟨h0, h1, h2, h3⟩ := h
  rw [oneLine_len _ (by unfold tierWords; simp)]
  have a := nOk_le h0
  have b := itoa_len h1.1 h1.2
  have c := itoa_len h2.1 h2.2
  have d := itoa_len h3.1 h3.2
  simp only [tierWords, List.map_cons, List.map_nil, List.sum_cons, List.sum_nil]
  have e1 : sTier.length = 4 := rfl
  have e2 : sEvery.length = 5 := rfl
  have e3 : sKeep.length = 4 := rfl
  have e4 : sShards.length = 6 := rfl
  omega

theorem flatLines_len : ∀ (ts : List TierL), (∀ t ∈ ts, tierIn t) → (flatLines (ts.map tierWords)).length ≤ 63 * ts.length
  | [], _ => Nat.zero_le _
  | t :: ts, h => by
    have h1 := flatLines_len ts (fun x hx => h x (List.mem_cons_of_mem _ hx))
    have h2 := tierLine_len (h t List.mem_cons_self)
    have e : flatLines ((t :: ts).map tierWords) = (oneLine (tierWords t) ++ [10]) ++ flatLines (ts.map tierWords) := by
      unfold flatLines
      rw [List.map_cons, List.map_cons, List.flatten_cons]
    rw [e, List.length_append, List.length_append]
    simp only [List.length_cons, List.length_nil]
    omega

theorem polText_len {p : PolL} (h : (pCheck p).1 = 0) : (polText p).length ≤ 400 := by
  obtain ⟨c1, c2, c3, c4⟩ := pCheck_in h
  have h1 := flatLines_len p.2 c4
  have e : polText p = (oneLine (headWords p) ++ [10]) ++ flatLines (p.2.map tierWords) := by
    unfold polText polWords flatLines
    rw [List.map_cons, List.flatten_cons]
  have h2 : (oneLine (headWords p)).length + 1 ≤ 23 := by
    rw [oneLine_len _ (headWords_good c1).1]
    have a := nOk_le c1
    have e1 : sPolicy.length = 6 := rfl
    simp only [headWords, List.map_cons, List.map_nil, List.sum_cons, List.sum_nil]
    omega
  rw [e, List.length_append, List.length_append]
  simp only [List.length_cons, List.length_nil]
  omega

/-- What is printed, whatever stands between its words, is read as it was. -/
theorem pRead_spaced {p : PolL} (h : (pCheck p).1 = 0) (g : Nat → Nat) (k : Nat) : pParse (spaced g k (polText p)) = (p, 0, 0) ∧ pRead (spaced g k (polText p)) = (p, 0, 0) := by
  refine pRead_lines ?_ h ?_
  · rw [polText_flat]
    exact spaced_lines g _ k (polWords_good h)
  · have h1 := spaced_len g (polText p) k
    have h2 := polText_len h
    omega

/-- What is printed is read as it was. -/
theorem pRead_print {p : PolL} (h : (pCheck p).1 = 0) : pRead (polText p) = (p, 0, 0) := by
  have := (pRead_spaced h (fun _ => 0) 0).2
  rwa [spaced_none] at this

/-- What is read may be. -/
theorem pRead_ok {t : List UInt8} {p : PolL} {n : Int} (h : pRead t = (p, 0, n)) : (pCheck p).1 = 0 ∧ n = 0 := by
  unfold pRead at h
  split at h
  · rename_i h1
    simp only [Prod.mk.injEq] at h
    exact absurd (by rw [h.2]) h1
  · split at h
    · rename_i h1
      simp only [Prod.mk.injEq] at h
      exact absurd (by rw [h.2]) h1
    · rename_i h1
      simp only [Prod.mk.injEq] at h
      rw [← h.1]
      exact ⟨by simpa using h1, h.2.2.symm⟩

end Go.Proofs.YtadepjpmpjipmaaGreatDoor

/-
  What chapter 8 says of package policy's calls (PolicySpec), and what alive answers: true.
-/
namespace Go.Proofs.YtadepjpmpjipmaaGreatDoor
open Go.RowKit Go.Lib

def In64 (v : Int) : Prop := -9223372036854775808 ≤ v ∧ v ≤ 9223372036854775807

/-- Of a size that a call can take. -/
def PFit (p : PolL) : Prop := p.2.length ≤ 1000000 ∧ p.1.size ≤ 1000000 ∧ ∀ x ∈ p.2, x.1.size ≤ 1000000 ∧ In64 x.2.1 ∧ In64 x.2.2.1 ∧ In64 x.2.2.2

/-- The document's words on each call; Ok: what was there when the program began. -/
structure PolicySpec where
  Ok : World → Prop
  kept : ∀ {w w'}, Ok w → Below w.heap.size w w' → Ok w'
  parse : ∀ (t : ByteArray) (w : World), Ok w → t.size ≤ maxLen → Calls Tryz.prog 18 #[.string t] w fun e w' => ∃ v, e = .returned (.tuple #[v, .int .i64 (pParse t.data.toList).2.1, .int .i64 (pParse t.data.toList).2.2]) ∧ OwnPol w.heap.size w' v (pParse t.data.toList).1 ∧ Below w.heap.size w w'
  read : ∀ (t : ByteArray) (w : World), Ok w → t.size ≤ maxLen → Calls Tryz.prog 17 #[.string t] w fun e w' => ∃ v, e = .returned (.tuple #[v, .int .i64 (pRead t.data.toList).2.1, .int .i64 (pRead t.data.toList).2.2]) ∧ OwnPol w.heap.size w' v (pRead t.data.toList).1 ∧ Below w.heap.size w w'
  check : ∀ (v : Value) (p : PolL) (w : World), Ok w → PFit p → PolRow w v p → Calls Tryz.prog 7 #[v] w fun e w' => e = .returned (.tuple #[.int .i64 (pCheck p).1, .int .i64 (pCheck p).2]) ∧ Below w.heap.size w w'
  print : ∀ (v : Value) (p : PolL) (w : World), Ok w → PFit p → PolRow w v p → Calls Tryz.prog 9 #[v] w fun e w' => e = .returned (.tuple #[.string (pPrint p).1, .int .i64 (pPrint p).2]) ∧ Below w.heap.size w w'
  same : ∀ (u v : Value) (p q : PolL) (w : World), Ok w → PFit p → PFit q → PolRow w u p → PolRow w v q → Calls Tryz.prog 13 #[u, v] w fun e w' => e = .returned (.bool (decide (p = q))) ∧ Below w.heap.size w w'
  copy : ∀ (v : Value) (p : PolL) (w : World), Ok w → PFit p → PolRow w v p → Calls Tryz.prog 11 #[v] w fun e w' => ∃ u, e = .returned u ∧ OwnPol w.heap.size w' u p ∧ Below w.heap.size w w'

/-- The policy of the first example. -/
def webPol : PolL := (⟨#[119, 101, 98]⟩, [(⟨#[114, 97, 119]⟩, 1, 100, 2), (⟨#[116, 101, 110, 115]⟩, 10, 1000, 1)])

theorem web_check : pCheck webPol = (0, 0) := by decide +kernel

theorem web_text : pPrint webPol = (⟨(polText webPol).toArray⟩, 0) := by
  unfold pPrint
  rw [web_check]
  rfl

def webBytes : List UInt8 := [112, 111, 108, 105, 99, 121, 32, 119, 101, 98, 10, 116, 105, 101, 114, 32, 114, 97, 119, 32, 101, 118, 101, 114, 121, 32, 49, 32, 107, 101, 101, 112, 32, 49, 48, 48, 32, 115, 104, 97, 114, 100, 115, 32, 50, 10, 116, 105, 101, 114, 32, 116, 101, 110, 115, 32, 101, 118, 101, 114, 121, 32, 49, 48, 32, 107, 101, 101, 112, 32, 49, 48, 48, 48, 32, 115, 104, 97, 114, 100, 115, 32, 49, 10]

theorem web_bytes : polText webPol = webBytes := by decide +kernel

theorem web_read : pRead webBytes = (webPol, 0, 0) := by
  rw [← web_bytes]
  exact pRead_print (by rw [web_check])

theorem two_words : pParse [112, 111, 108, 105, 99, 121, 32, 97, 32, 98] = (PolL.none, 22, 1) := by decide +kernel

theorem OwnPol.row {B : Nat} {w : World} {v : Value} {p : PolL} (h : OwnPol B w v p) : PolRow w v p := by
  obtain ⟨s, hv, o⟩ := h
  exact ⟨s, hv, own_row o, own_cap o⟩

theorem web_fit : PFit webPol := by
  refine ⟨by decide, by decide, fun x hx => ?_⟩
  simp only [webPol, List.mem_cons, List.not_mem_nil, or_false] at hx
  rcases hx with rfl | rfl <;> exact ⟨by decide, by unfold In64; decide, by unfold In64; decide, by unfold In64; decide⟩

set_option maxRecDepth 20000 in
set_option maxHeartbeats 1600000 in
theorem polAlive_any (S : PolicySpec) (w : World) (hS : S.Ok w) : Calls Tryz.prog 5 #[] w fun e w' => e = .returned (.bool true) ∧ Below w.heap.size w w' := by
  have WR := Hid.of web_read
  have WT := Hid.of web_text
  have WB := Hid.of web_bytes
  have TW := Hid.of two_words
  have WF := Hid.of web_fit
  have HS := Hid.of hS
  clear hS
  go_enter Tryz.func5, Tryz.ntmps5
  go_wp2_with fail
  refine (S.read _ _ HS.out (by decide)).mono ?_
  rintro e w1 ⟨v, he, o, b1⟩
  have h1 : e = .returned (.tuple #[v, .int .i64 (pRead webBytes).2.1, .int .i64 (pRead webBytes).2.2]) := he
  have h2 : OwnPol w.heap.size w1 v (pRead webBytes).1 := o
  rw [WR.out] at h1 h2
  clear he o
  subst h1
  obtain ⟨sl, rfl, os⟩ := h2
  obtain ⟨n, hn⟩ : ∃ n, webPol.1 = n := ⟨_, rfl⟩
  have hn2 : (n.toList == [119, 101, 98]) = true := by rw [← hn]; decide +kernel
  have hr := own_row os
  have hcp := own_cap os
  obtain ⟨sa, sc, rfl, -⟩ := id hr
  have HR := Hid.of hr
  have HCP := Hid.of hcp
  rw [hn]
  have HN := Hid.of hn
  have B1 := Hid.of b1
  have O1 := Hid.of (S.kept HS.out b1)
  clear hn os hr b1 hcp
  have hl2 : webPol.2.length = 2 := rfl
  rw [hl2] at HR HCP ⊢
  clear hl2
  go_wp2_with fail
  obtain ⟨w2, hw2⟩ : ∃ w2, w1.alloc (.cells #[.string n, .slice sa 2 sc] 24) = w2 := ⟨_, rfl⟩
  have b2 : Below w1.heap.size w1 w2 := by rw [← hw2]; exact (Below.refl _ _).alloc (Nat.le_refl _) _
  have K2 : Hid (PBlk w2 w1.heap.size n (.slice sa 2 sc)) := Hid.of (by rw [← hw2]; exact PBlk.made w1 _ _)
  have HR2 := Hid.of (HR.out.kept b2)
  have B2 := Hid.of (B1.out.trans (b2.mono B1.out.size))
  have O2 := Hid.of (S.kept O1.out b2)
  rw [hw2]
  generalize w1.heap.size = pb at *
  clear hw2 b2 HR B1 O1
  refine (S.print _ webPol _ O2.out WF.out ⟨_, by rw [HN.out], HR2.out, HCP.out⟩).mono ?_
  rintro e w3 ⟨he, b3⟩
  rw [WT.out] at he
  subst he
  obtain ⟨s, hs⟩ : ∃ s : ByteArray, (⟨(polText webPol).toArray⟩ : ByteArray) = s := ⟨_, rfl⟩
  have hst : (s.toList == webBytes) = true := by
    rw [← hs, ByteArray.toList_mk, WB.out]
    exact beq_self_eq_true _
  rw [hs]
  clear hs
  have K3 := Hid.of (K2.out.kept b3)
  have HR3 := Hid.of (HR2.out.kept b3)
  have B3 := Hid.of (B2.out.trans (b3.mono B2.out.size))
  have O3 := Hid.of (S.kept O2.out b3)
  clear b3 K2 HR2 B2 O2
  go_wp2_with fail
  refine (S.parse _ _ O3.out (by decide)).mono ?_
  rintro e w4 ⟨v, he, o, b4⟩
  have h1 : e = .returned (.tuple #[v, .int .i64 (pParse [112, 111, 108, 105, 99, 121, 32, 97, 32, 98]).2.1, .int .i64 (pParse [112, 111, 108, 105, 99, 121, 32, 97, 32, 98]).2.2]) := he
  have h2 : OwnPol w3.heap.size w4 v (pParse [112, 111, 108, 105, 99, 121, 32, 97, 32, 98]).1 := o
  rw [TW.out] at h1 h2
  clear he o
  subst h1
  obtain ⟨s2, rfl, os⟩ := h2
  obtain ⟨ta, tc, rfl, -⟩ := own_one os
  clear os
  have K4 := Hid.of (K3.out.kept b4)
  have HR4 := Hid.of (HR3.out.kept b4)
  have B4 := Hid.of (B3.out.trans (b4.mono B3.out.size))
  clear b4 K3 HR3 B3 O3
  go_upto_region 4 with fail
  obtain ⟨w5, hw5⟩ : ∃ w5, w4.alloc (.cells #[.string PolL.none.1, .slice ta PolL.none.2.length tc] 24) = w5 := ⟨_, rfl⟩
  have b5 : Below w4.heap.size w4 w5 := by rw [← hw5]; exact (Below.refl _ _).alloc (Nat.le_refl _) _
  have K5 := Hid.of (K4.out.kept b5)
  have B5 := Hid.of (B4.out.trans (b5.mono B4.out.size))
  obtain ⟨b, o, rfl, -, -, c5, -, -⟩ := p_at (HR4.out.kept b5) 1 _ rfl
  simp only at c5
  obtain ⟨c0, c1⟩ := K5.out.at
  rw [hw5]
  unfold webBytes at hst
  clear hw5 b5 K4 B4
  go_wp2
  go_ret
  exact ⟨rfl, B5.out⟩

end Go.Proofs.YtadepjpmpjipmaaGreatDoor

/-
  What the document's own Same, Check, Print of policies answer.
-/
namespace Go.Proofs.YtadepjpmpjipmaaGreatDoor
open Go.RowKit Go.Lib

/-- Are they alike in all? -/
def pSame (p q : PolL) : Bool := decide (p = q)

theorem pSame_ne {n m : ByteArray} {l k : List TierL} {j : Nat} {x y : TierL} (hx : l[j]? = some x) (hy : k[j]? = some y) (h : ¬ x = y) : pSame (n, l) (m, k) = false := by
  refine decide_eq_false fun e => h ?_
  have e2 : l = k := (Prod.mk.inj e).2
  rw [e2, hy] at hx
  exact (Option.some.inj hx).symm

set_option maxRecDepth 20000 in
set_option maxHeartbeats 1600000 in
theorem refSame_any (u v : Value) (p q : PolL) (w : World) (hu : PolRow w u p) (hv : PolRow w v q) (hp : p.2.length ≤ 1000000) (hq : q.2.length ≤ 1000000) :
    Calls Tryz.prog 14 #[u, v] w fun e w' => e = .returned (.bool (pSame p q)) ∧ Below w.heap.size w w' := by
  obtain ⟨n, l⟩ := p
  obtain ⟨m, k⟩ := q
  obtain ⟨s, rfl, hs, -⟩ := hu
  obtain ⟨t, rfl, ht, -⟩ := hv
  simp only at hs hp ht hq
  have HS := Hid.of hs
  have HT := Hid.of ht
  obtain ⟨sa, sc, rfl, -⟩ := hs
  obtain ⟨ta, tc, rfl, -⟩ := ht
  obtain ⟨w1, hw1⟩ : ∃ w1, (w.alloc (.cells #[.string n, .slice sa l.length sc] 24)).alloc (.cells #[.string m, .slice ta k.length tc] 24) = w1 := ⟨_, rfl⟩
  have b1 : Below w.heap.size w w1 := by rw [← hw1]; exact ((Below.refl _ _).alloc (Nat.le_refl _) _).alloc (by simp) _
  have K1 : Hid (PBlk w1 w.heap.size n (.slice sa l.length sc)) := Hid.of (by rw [← hw1]; exact (PBlk.made w _ _).kept ((Below.refl _ _).alloc (Nat.le_refl _) _))
  have K2 : Hid (PBlk w1 (w.heap.size + 1) m (.slice ta k.length tc)) := Hid.of (by rw [← hw1]; have := PBlk.made (w.alloc (.cells #[.string n, .slice sa l.length sc] 24)) m (.slice ta k.length tc); simpa using this)
  have HW := Hid.of hw1
  have B1 := Hid.of b1
  obtain ⟨c0, c1⟩ := K1.out.at
  obtain ⟨d0, d1⟩ := K2.out.at
  clear hw1 b1
  go_enter Tryz.func14, Tryz.ntmps14
  by_cases hnm : n = m
  · have e0 : (n.toList == m.toList) = true := by rw [hnm]; exact beq_self_eq_true _
    by_cases hlk : l.length = k.length
    · have e1 : (l.length : Int) = (k.length : Int) := by omega
      go_wp2
      go_loopw [5] (fun i wr => ∃ j : Nat, j ≤ l.length ∧ i = .int .i64 j ∧ Hid (l.take j = k.take j) ∧ ∃ q, wr = w1.drewN q) (fun i _ => l.length - (RowKit.intOf i).toNat)
      case atStart => exact ⟨0, Nat.zero_le _, rfl, Hid.of rfl, 0, by have h := HW.out; rw [hnm, hlk] at h; exact h⟩
      case round =>
        obtain ⟨j, hj, rfl, E, r, rfl⟩ := hrel
        have i0 : (0 : Int) ≤ (j : Int) := Int.natCast_nonneg _
        by_cases hlt : j < l.length
        · obtain ⟨b1, o1, rfl, g1, hc1⟩ := p_at HS.out j l[j] (by simp [hlt])
          obtain ⟨b2, o2, rfl, g2, hc2⟩ := p_at HT.out j (k[j]'(by omega)) (by simp)
          obtain ⟨x, hx⟩ : ∃ x, l[j] = x := ⟨_, rfl⟩
          obtain ⟨y, hy⟩ : ∃ y, (k[j]'(by omega)) = y := ⟨_, rfl⟩
          rw [hx] at hc1
          rw [hy] at hc2
          obtain ⟨x0, x1, x2, x3⟩ := x
          obtain ⟨y0, y1, y2, y3⟩ := y
          obtain ⟨f0, f1, f2, f3⟩ := hc1
          obtain ⟨h0, h1, h2, h3⟩ := hc2
          rw [← B1.out.cell g1] at f0 f1 f2 f3
          rw [← B1.out.cell g2] at h0 h1 h2 h3
          simp only at f0 h0 f1 h1 f2 h2 f3 h3
          have i1 : (j : Int) < (l.length : Int) := by omega
          have i2 : (j : Int) < (k.length : Int) := by omega
          have HX : Hid (l[j]? = some (x0, x1, x2, x3)) := Hid.of (by rw [← hx]; exact List.getElem?_eq_getElem hlt)
          have HY : Hid (k[j]? = some (y0, y1, y2, y3)) := Hid.of (by rw [← hy]; exact List.getElem?_eq_getElem (by omega))
          clear hx hy
          by_cases hx0 : x0 = y0
          · have e0 : (x0.toList == y0.toList) = true := by rw [hx0]; exact beq_self_eq_true _
            by_cases hx1 : x1 = y1
            · subst hx1
              by_cases hx2 : x2 = y2
              · subst hx2
                by_cases hx3 : x3 = y3
                · subst hx3
                  have HX0 := Hid.of hx0
                  clear hx0
                  go_wp2
                  go_quiet (fail)
                  go_wp2
                  go_roundw
                  case rel =>
                    refine ⟨j + 1, by omega, by go_num, Hid.of ?_, _, rfl⟩
                    have h1 := HX.out
                    rw [HX0.out] at h1
                    rw [List.take_add_one, List.take_add_one, h1, HY.out, E.out]
                  case measure => simp [RowKit.intOf]; omega
                · have e3 : (x3 == y3) = false := beq_eq_false_iff_ne.2 hx3
                  go_wp2
                  go_quiet (fail)
                  go_wp2
                  go_ret
                  exact ⟨by rw [pSame_ne HX.out HY.out (fun e => hx3 (by simp only [Prod.mk.injEq] at e; exact e.2.2.2))]; rfl, below_drewN (below_drewN B1.out _) _⟩
              · have e2 : (x2 == y2) = false := beq_eq_false_iff_ne.2 hx2
                go_wp2
                go_quiet (fail)
                go_wp2
                go_ret
                exact ⟨by rw [pSame_ne HX.out HY.out (fun e => hx2 (by simp only [Prod.mk.injEq] at e; exact e.2.2.1))]; rfl, below_drewN (below_drewN B1.out _) _⟩
            · have e1 : (x1 == y1) = false := beq_eq_false_iff_ne.2 hx1
              go_wp2
              go_quiet (fail)
              go_wp2
              go_ret
              exact ⟨by rw [pSame_ne HX.out HY.out (fun e => hx1 (by simp only [Prod.mk.injEq] at e; exact e.2.1))]; rfl, below_drewN (below_drewN B1.out _) _⟩
          · have e0 : (x0.toList == y0.toList) = false := beq_eq_false_iff_ne.2 (fun c => hx0 (toList_eq c))
            go_wp2
            go_quiet (fail)
            go_wp2
            go_ret
            exact ⟨by rw [pSame_ne HX.out HY.out (fun e => hx0 (by simp only [Prod.mk.injEq] at e; exact e.1))]; rfl, below_drewN (below_drewN B1.out _) _⟩
        · have hjl : j = l.length := by omega
          go_wp2
          go_ret
          refine ⟨?_, below_drewN B1.out _⟩
          have h := E.out
          rw [hjl, List.take_length, hlk, List.take_length] at h
          rw [show pSame (n, l) (m, k) = true from decide_eq_true (by rw [hnm, h])]
          rfl
    · have e1 : ¬ (l.length : Int) = (k.length : Int) := by omega
      go_wp2
      go_ret
      refine ⟨?_, ?_⟩
      · rw [show pSame (n, l) (m, k) = false from decide_eq_false (fun e => hlk (by rw [(Prod.mk.inj e).2]))]
        rfl
      · have h := HW.out
        have h2 := B1.out
        rw [← h] at h2
        first | exact h2 | (rw [hnm] at h2; exact h2)
  · have e0 : (n.toList == m.toList) = false := beq_eq_false_iff_ne.2 (fun c => hnm (toList_eq c))
    go_wp2
    go_ret
    refine ⟨?_, ?_⟩
    · rw [show pSame (n, l) (m, k) = false from decide_eq_false (fun e => hnm (Prod.mk.inj e).1)]
      rfl
    · have h := HW.out
      have h2 := B1.out
      rw [← h] at h2
      exact h2

end Go.Proofs.YtadepjpmpjipmaaGreatDoor
