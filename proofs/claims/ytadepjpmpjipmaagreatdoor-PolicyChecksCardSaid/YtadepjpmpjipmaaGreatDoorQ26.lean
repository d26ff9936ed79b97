/-
  A bundle of texts: PEN.
-/
import Derived.Test.YtadepjpmpjipmaaGreatDoorQ18
import Derived.Test.YtadepjpmpjipmaaGreatDoorQ14
/-
  Plain facts: the document's own reading of a decimal text gives what Number gives.
-/
namespace Go.Proofs.YtadepjpmpjipmaaGreatDoor
open Go.Lib

/-- The value of decimal digits behind a number; none, if a byte is no digit. -/
def decFold : Nat → List UInt8 → Option Nat
  | a, [] => some a
  | a, c :: r => if 48 ≤ c.toNat ∧ c.toNat ≤ 57 then decFold (a * 10 + (c.toNat - 48)) r else none

/-- The document's own answer, as its Go text has it: of the digits behind the sign. -/
def refMag (neg : Bool) (r : List UInt8) : Int × Int :=
  if r.length < 1 ∨ 18 < r.length ∨ (r.head?.map (·.toNat) = some 48 ∧ (1 < r.length ∨ neg = true)) then (0, 1)
  else match decFold 0 r with
    | some u => (if neg then -(u : Int) else u, 0)
    | none => (0, 1)

def refNumber (l : List UInt8) : Int × Int :=
  match l with
  | c :: r => if c.toNat = 45 then refMag true r else refMag false (c :: r)
  | [] => (0, 1)

theorem decFold_append (a : Nat) (x y : List UInt8) : decFold a (x ++ y) = (decFold a x).bind fun b => decFold b y := by
  induction x generalizing a with
  | nil => rfl
  | cons c r ih =>
    rw [List.cons_append, decFold, decFold]
    split
    · exact ih _
    · rfl

theorem decFold_digits (u : Nat) : decFold 0 (decDigits u) = some u := by
  induction u using Nat.strongRecOn with
  | _ u ih =>
    by_cases h : u < 10
    · rw [decDigits_one u h, decFold, digit_nat u h, if_pos (by omega), decFold]
      congr 1
      omega
    · rw [decDigits_step u h, decFold_append, ih (u / 10) (by omega)]
      show decFold (u / 10) [UInt8.ofNat (48 + u % 10)] = _
      rw [decFold, digit_nat _ (by omega), if_pos (by omega), decFold]
      congr 1
      omega

theorem digits_short (k u : Nat) (hk : 1 ≤ k) (h : u < 10 ^ k) : (decDigits u).length ≤ k := by
  induction k generalizing u with
  | zero => omega
  | succ k ih =>
    by_cases h1 : u < 10
    · rw [decDigits_one u h1]; simp
    · rw [decDigits_step u h1, List.length_append]
      by_cases hk0 : k = 0
      · subst hk0; simp at h; omega
      · have := ih (u / 10) (by omega) (by rw [Nat.pow_succ] at h; omega)
        simp
        omega

/-- The document's answer, of what is told of an int of at most eighteen digits: that int. -/
theorem ref_itoa (v : Int) (h : Small18 v) : refNumber (itoa v) = (v, 0) := by
  obtain ⟨h1, h2⟩ := h
  by_cases hn : v < 0
  · obtain ⟨u, rfl⟩ : ∃ u : Nat, v = -(u : Int) := ⟨v.natAbs, by omega⟩
    rw [itoa_neg u (by omega)]
    obtain ⟨c, r, e, c1, c2, c3⟩ := uDigits_head u
    have hl := digits_short 18 u (by decide) (by omega)
    have h45 : (45 : UInt8).toNat = 45 := rfl
    unfold refNumber
    simp only [h45]
    rw [if_pos trivial]
    unfold refMag
    rw [if_neg, decFold_digits]
    · simp
    · rw [e] at hl ⊢
      simp only [List.length_cons, List.head?_cons, Option.map_some, Option.some.injEq] at hl ⊢
      intro hc
      rcases hc with hc | hc | ⟨hc, _⟩
      · omega
      · omega
      · have := (c3 hc).1; omega
  · obtain ⟨u, rfl⟩ := Int.eq_ofNat_of_zero_le (show 0 ≤ v by omega)
    rw [itoa_nonneg u]
    obtain ⟨c, r, e, c1, c2, c3⟩ := uDigits_head u
    have hl := digits_short 18 u (by decide) (by omega)
    have hd := decFold_digits u
    rw [e] at hl hd ⊢
    unfold refNumber
    simp only
    rw [if_neg (by omega)]
    unfold refMag
    rw [if_neg, hd]
    · simp
    · simp only [List.length_cons, List.head?_cons, Option.map_some, Option.some.injEq] at hl ⊢
      intro hc
      rcases hc with hc | hc | ⟨hc, hc2⟩
      · omega
      · omega
      · rw [(c3 hc).2] at hc2
        simp at hc2

theorem decFold_some {a u : Nat} {r : List UInt8} (h : decFold a r = some u) : ∀ c ∈ r, 48 ≤ c.toNat ∧ c.toNat ≤ 57 := by
  induction r generalizing a with
  | nil => intro c hc; cases hc
  | cons x r ih =>
    rw [decFold] at h
    split at h
    · rename_i hx
      intro c hc
      rcases List.mem_cons.1 hc with rfl | hc
      · exact hx
      · exact ih h c hc
    · cases h

theorem ofNat_toNat (c : UInt8) (n : Nat) (h : c.toNat = n) : UInt8.ofNat n = c := by
  subst h; simp

/-- Digits without a 0 ahead are those of their number. -/
theorem digits_of_back (s : List UInt8) : ∀ u, decFold 0 s.reverse = some u → s.reverse ≠ [] → (s.reverse.head?.map (·.toNat) = some 48 → s.reverse.length = 1) → decDigits u = s.reverse := by
  induction s with
  | nil => intro u _ h; exact absurd rfl h
  | cons c s ih =>
    rw [List.reverse_cons]
    generalize s.reverse = r at *
    intro u h _ h0
    rw [decFold_append] at h
    cases hr : decFold 0 r with
    | none => rw [hr] at h; cases h
    | some a =>
      rw [hr] at h
      simp only [Option.bind_some] at h
      rw [decFold] at h
      split at h
      · rename_i hc
        rw [decFold] at h
        injection h with h
        by_cases hre : r = []
        · subst hre
          rw [decFold] at hr
          injection hr with hr
          subst hr
          rw [decDigits_one u (by omega), ofNat_toNat c _ (by omega)]
          rfl
        · have hlen : 1 ≤ r.length := List.length_pos_iff.2 hre
          have hhead : (r ++ [c]).head? = r.head? := by
            cases r with
            | nil => exact absurd rfl hre
            | cons _ _ => rfl
          rw [hhead] at h0
          have hne : r.head?.map (·.toNat) ≠ some 48 := fun hc => by
            have := h0 hc
            rw [List.length_append, List.length_singleton] at this
            omega
          have e := ih a hr hre (fun hc => absurd hc hne)
          have ha : 1 ≤ a := by
            rcases Nat.eq_zero_or_pos a with ha0 | ha0
            · exfalso
              subst ha0
              rw [decDigits_one 0 (by decide)] at e
              rw [← e] at hne
              exact hne rfl
            · exact ha0
          rw [decDigits_step u (by omega)]
          have e1 : u / 10 = a := by omega
          have e2 : 48 + u % 10 = c.toNat := by omega
          rw [e1, e, e2, ofNat_toNat c _ rfl]
      · cases h

theorem digits_of_fold (r : List UInt8) (u : Nat) (h : decFold 0 r = some u) (h1 : r ≠ []) (h2 : r.head?.map (·.toNat) = some 48 → r.length = 1) : decDigits u = r := by
  have := digits_of_back r.reverse u
  rw [List.reverse_reverse] at this
  exact this h h1 h2

theorem fold_lt (r : List UInt8) : ∀ a u, decFold a r = some u → u < (a + 1) * 10 ^ r.length := by
  induction r with
  | nil => intro a u h; rw [decFold] at h; injection h with h; subst h; simp
  | cons c r ih =>
    intro a u h
    rw [decFold] at h
    split at h
    · have := ih _ _ h
      rw [List.length_cons, Nat.pow_succ, Nat.mul_comm (10 ^ r.length) 10, ← Nat.mul_assoc]
      refine Nat.lt_of_lt_of_le this (Nat.mul_le_mul_right _ ?_)
      omega
    · cases h

/-- Where the document's answer is an int, the text is what is told of it. -/
theorem ref_ok {l : List UInt8} {v : Int} (h : refNumber l = (v, 0)) : Small18 v ∧ itoa v = l := by
  have pow18 : ∀ k, k ≤ 18 → (10 : Nat) ^ k ≤ 1000000000000000000 := fun k hk => by
    have := Nat.pow_le_pow_right (show 0 < 10 by decide) hk
    exact Nat.le_trans this (by decide)
  have mag : ∀ (neg : Bool) (r : List UInt8), refMag neg r = (v, 0) → ∃ u : Nat, decFold 0 r = some u ∧ u < 1000000000000000000 ∧ v = (if neg then -(u : Int) else u) ∧ decDigits u = r ∧ (neg = true → 1 ≤ u) := by
    intro neg r hm
    unfold refMag at hm
    split at hm
    · injection hm with _ hm; exact absurd hm (by decide)
    · rename_i hc
      split at hm
      · rename_i u hu
        injection hm with hm _
        have hl : r.length ≤ 18 := by omega
        have h1 : ¬ r.length < 1 := fun h => hc (.inl h)
        have hlt := fold_lt r 0 u hu
        have h2 := pow18 r.length hl
        have hz : ∀ h48 : r.head?.map (·.toNat) = some 48, ¬ (1 < r.length ∨ neg = true) := fun h48 hh => hc (.inr (.inr ⟨h48, hh⟩))
        have hd := digits_of_fold r u hu (by intro e; subst e; exact h1 (by simp)) (fun h48 => by have := hz h48; omega)
        refine ⟨u, hu, by omega, hm.symm, hd, fun hneg => ?_⟩
        by_cases hu0 : u = 0
        · subst hu0
          rw [decDigits_one 0 (by decide)] at hd
          exact absurd (.inr hneg) (hz (by rw [← hd]; rfl))
        · omega
      · injection hm with _ hm; exact absurd hm (by decide)
  unfold refNumber at h
  split at h
  · rename_i c r
    split at h
    · rename_i h45
      obtain ⟨u, _, hlt, hv, hd, hpos⟩ := mag true r h
      have hu := hpos rfl
      simp only [if_true] at hv
      subst hv
      refine ⟨⟨by omega, by omega⟩, ?_⟩
      rw [itoa_neg u hu, hd]
      congr 1
      exact ofNat_toNat c 45 h45
    · obtain ⟨u, _, hlt, hv, hd, _⟩ := mag false (c :: r) h
      have hv2 : v = (u : Int) := by simpa using hv
      subst hv2
      exact ⟨⟨by omega, by omega⟩, by rw [itoa_nonneg u, hd]⟩
  · injection h with _ h; exact absurd h (by decide)

theorem ref_cases (l : List UInt8) : (∃ v, refNumber l = (v, 0)) ∨ refNumber l = (0, 1) := by
  unfold refNumber
  split
  · split
    all_goals
      unfold refMag
      split
      · exact .inr rfl
      · split
        · exact .inl ⟨_, rfl⟩
        · exact .inr rfl
  · exact .inr rfl

/-- Number and the document's answer are the same. -/
theorem number_ref (l : List UInt8) : number l = refNumber l := by
  rcases ref_cases l with ⟨v, h⟩ | h
  · obtain ⟨h18, hl⟩ := ref_ok h
    rw [h]
    unfold number
    rw [← hl, atoi_itoa v (bounds18 h18).1 (bounds18 h18).2]
    exact if_pos ⟨h18, rfl⟩
  · rw [h]
    unfold number
    split
    · rename_i v hv
      by_cases hc : (-1000000000000000000 < v ∧ v < 1000000000000000000) ∧ itoa v = l
      · have := ref_itoa v hc.1
        rw [hc.2, h] at this
        injection this with _ this
        exact absurd this (by decide)
      · exact if_neg hc
    · rfl



theorem fold_pDec : ∀ (r : List UInt8) (a : Nat), decFold a r = pDec a r
  | [], _ => rfl
  | c :: r, a => by
    rw [decFold, pDec]
    split
    · exact fold_pDec r _
    · rfl

theorem number_pNum (l : List UInt8) : number l = match pNum l with | some v => (v, 0) | none => (0, 1) := by
  rw [number_ref]
  have mag : ∀ (neg : Bool) (r : List UInt8), refMag neg r = match pMag neg r with | some v => (v, 0) | none => (0, 1) := fun neg r => by
    unfold refMag pMag
    split
    · rfl
    · rw [fold_pDec]
      cases pDec 0 r <;> rfl
  unfold refNumber pNum
  cases l with
  | nil => rfl
  | cons c r =>
    simp only
    split
    · exact mag _ _
    · exact mag _ _

/-- Behind k bytes. -/
structure WFine (k : Nat) (s : WSt) : Prop where
  n : s.out.length + (if s.cur.isSome then 1 else 0) ≤ k
  z : ∀ x ∈ s.out, 1 ≤ x.2.1 ∧ x.1.size ≤ k
  c : ∀ w, s.cur = some w → w.length ≤ k
  l : 1 ≤ s.line

theorem WFine.ended {k : Nat} {s : WSt} (h : WFine k s) : s.ended.length ≤ k ∧ ∀ x ∈ s.ended, 1 ≤ x.2.1 ∧ x.1.size ≤ k := by
  unfold WSt.ended
  have hn := h.n
  cases hc : s.cur with
  | none =>
    rw [hc] at hn
    simp only
    exact ⟨by simpa using hn, h.z⟩
  | some w =>
    rw [hc] at hn
    simp only
    refine ⟨by simpa using hn, fun x hx => ?_⟩
    rw [List.mem_append, List.mem_singleton] at hx
    rcases hx with hx | rfl
    · exact h.z x hx
    · have h1 := h.c w hc
      have h2 := h.l
      exact ⟨by simp only; omega, by show w.toArray.size ≤ k; rw [List.size_toArray]; exact h1⟩

theorem WFine.step {k : Nat} {s : WSt} (h : WFine k s) (c : UInt8) : WFine (k + 1) (s.step c) := by
  have he := h.ended
  have hn := h.n
  have hl := h.l
  have he2 : ∀ x ∈ s.ended, 1 ≤ x.2.1 ∧ x.1.size ≤ k + 1 := fun x hx => ⟨(he.2 x hx).1, by have := (he.2 x hx).2; omega⟩
  have hz2 : ∀ x ∈ s.out, 1 ≤ x.2.1 ∧ x.1.size ≤ k + 1 := fun x hx => ⟨(h.z x hx).1, by have := (h.z x hx).2; omega⟩
  unfold WSt.step
  split
  · exact ⟨by simp; omega, he2, fun w hw => by simp at hw, by simp only; omega⟩
  · split
    · exact ⟨by simp; omega, he2, fun w hw => by simp at hw, hl⟩
    · split
      · rename_i w hw
        rw [hw] at hn
        exact ⟨by simp at hn ⊢; omega, hz2, fun v hv => by
          simp only [Option.some.injEq] at hv
          rw [← hv, List.length_append]
          have := h.c w hw
          simp; omega, hl⟩
      · rename_i hw
        rw [hw] at hn
        split
        · exact ⟨by simp at hn ⊢; omega, hz2, fun v hv => by simp at hv, hl⟩
        · split
          · exact ⟨by simp at hn ⊢; omega, hz2, fun v hv => by simp at hv, hl⟩
          · exact ⟨by simp at hn ⊢; omega, hz2, fun v hv => by
              simp only [Option.some.injEq] at hv
              rw [← hv]
              simp, hl⟩

theorem WFine.run : ∀ (l : List UInt8) (k : Nat) (s s' : WSt), WFine k s → wRun s l = .inl s' → WFine (k + l.length) s'
  | [], k, s, s', h, e => by
    simp only [wRun, Sum.inl.injEq] at e
    rw [← e]
    exact h
  | c :: l, k, s, s', h, e => by
    rw [wRun] at e
    split at e
    · cases e
    · have := WFine.run l (k + 1) _ _ (h.step c) e
      rw [List.length_cons, show k + (l.length + 1) = k + 1 + l.length by omega]
      exact this

/-- The words of a text. -/
theorem wCut_fine {t : List UInt8} {l : List WdL} {e n : Int} (h : wCut t = (some l, e, n)) : e = 0 ∧ n = 0 ∧ l.length ≤ 4000 ∧ ∀ x ∈ l, 1 ≤ x.2.1 ∧ x.1.size ≤ 4000 := by
  unfold wCut at h
  split at h
  · cases h
  · rename_i h4
    split at h
    · rename_i s hs
      simp only [Prod.mk.injEq, Option.some.injEq] at h
      obtain ⟨rfl, rfl, rfl⟩ := h
      have h1 := (WFine.run t 0 _ _ ⟨by simp [WSt.start], fun x hx => by simp [WSt.start] at hx, fun w hw => by simp [WSt.start] at hw, Nat.le_refl _⟩ hs).ended
      refine ⟨rfl, rfl, by omega, fun x hx => ⟨(h1.2 x hx).1, by have := (h1.2 x hx).2; omega⟩⟩
    · cases h

end Go.Proofs.YtadepjpmpjipmaaGreatDoor
