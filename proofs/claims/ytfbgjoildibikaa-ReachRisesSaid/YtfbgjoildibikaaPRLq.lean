/-
  What may be, tier by tier; a policy with one number of one tier changed.
-/
import Derived.Test.YtfbgjoildibikaaQ17
namespace Go.Proofs.Ytfbgjoildibikaa
open Go.RowKit Go.Lib

theorem prNone : ∀ (l d : List TierL), pBad d l = none → ∀ (i : Nat) (t : TierL), l[i]? = some t → tierOk (d ++ l.take i) t = true
  | [], d, _, i, t, ht => by simp at ht
  | x :: l, d, h, i, t, ht => by
    rw [pBad] at h
    split at h
    · rename_i hx
      cases i with
      | zero =>
        simp at ht
        subst ht
        rw [List.take_zero, List.append_nil]
        exact hx
      | succ i =>
        have := prNone l (d ++ [x]) h i t (by simpa using ht)
        rwa [List.append_assoc, List.singleton_append] at this
    · cases h

theorem prAll : ∀ (l d : List TierL), (∀ (i : Nat) (t : TierL), l[i]? = some t → tierOk (d ++ l.take i) t = true) → pBad d l = none
  | [], d, _ => rfl
  | x :: l, d, h => by
    rw [pBad]
    have hx := h 0 x rfl
    rw [List.take_zero, List.append_nil] at hx
    rw [if_pos hx]
    refine prAll l _ (fun i t ht => ?_)
    have := h (i + 1) t (by simpa using ht)
    rwa [List.take_succ_cons, ← List.singleton_append, ← List.append_assoc] at this

theorem prFirst : ∀ (l d : List TierL) (k : Nat) (y : TierL), (∀ (i : Nat) (t : TierL), i < k → l[i]? = some t → tierOk (d ++ l.take i) t = true) → l[k]? = some y → tierOk (d ++ l.take k) y = false → pBad d l = some (d.length + k + 1)
  | [], d, k, y, _, hy, _ => by simp at hy
  | x :: l, d, 0, y, _, hy, hn => by
    simp at hy
    subst hy
    rw [List.take_zero, List.append_nil] at hn
    rw [pBad, hn]
    rfl
  | x :: l, d, k + 1, y, h, hy, hn => by
    have hx := h 0 x (by omega) rfl
    rw [List.take_zero, List.append_nil] at hx
    rw [pBad, if_pos hx, prFirst l (d ++ [x]) k y (fun i t hi ht => ?_) (by simpa using hy) ?_]
    · rw [List.length_append, List.length_singleton]
      congr 1
      omega
    · rwa [List.take_succ_cons, ← List.singleton_append, ← List.append_assoc] at hn
    · have := h (i + 1) t (by omega) (by simpa using ht)
      rwa [List.take_succ_cons, ← List.singleton_append, ← List.append_assoc] at this

theorem prRange : ∀ (l d : List TierL) (i : Nat), pBad d l = some i → d.length + 1 ≤ i ∧ i ≤ d.length + l.length
  | [], d, i, h => by cases h
  | x :: l, d, i, h => by
    rw [pBad] at h
    rw [List.length_cons]
    split at h
    · have := prRange l _ i h
      rw [List.length_append, List.length_singleton] at this
      omega
    · simp at h
      omega

/-- What later tiers ask of it. -/
def tkey (t : TierL) : ByteArray × Int × Int := (t.1, t.2.1, t.2.2.1)

theorem all_key (f : ByteArray → Bool) : ∀ d : List TierL, d.all (fun o => f o.1) = (d.map tkey).all (fun o => f o.1)
  | [] => rfl
  | x :: d => by
    rw [List.map_cons, List.all_cons, List.all_cons, all_key f d]
    rfl

theorem tierOk_key {d d' : List TierL} (h : d.map tkey = d'.map tkey) (t : TierL) : tierOk d t = tierOk d' t := by
  have h1 := all_key (fun o => !(o.toList == t.1.toList)) d
  have h2 := all_key (fun o => !(o.toList == t.1.toList)) d'
  rw [h, ← h2] at h1
  have h3 : d.getLast?.map tkey = d'.getLast?.map tkey := by rw [← List.getLast?_map, ← List.getLast?_map, h]
  unfold tierOk
  rw [h1]
  cases hd : d.getLast? with
  | none =>
    rw [hd] at h3
    cases hd' : d'.getLast? with
    | none => rfl
    | some o' => rw [hd'] at h3; cases h3
  | some o =>
    rw [hd] at h3
    cases hd' : d'.getLast? with
    | none => rw [hd'] at h3; cases h3
    | some o' =>
      rw [hd'] at h3
      simp only [Option.map_some, Option.some.injEq, tkey, Prod.mk.injEq] at h3
      simp only [h3.2.1, h3.2.2]

theorem tierOk_shards {d : List TierL} {n : ByteArray} {e k s : Int} (h : tierOk d (n, e, k, s) = true) (s' : Int) : tierOk d (n, e, k, s') = (decide (1 ≤ s') && decide (s' ≤ 8)) := by
  unfold tierOk at h ⊢
  simp only [Bool.and_eq_true] at h
  obtain ⟨⟨⟨⟨⟨⟨⟨⟨a, b⟩, c⟩, -⟩, -⟩, f⟩, g⟩, i⟩, j⟩ := h
  simp only [a, b, c, f, g, i, j, Bool.true_and, Bool.and_true]

theorem pCheck_ok {p : PolL} (h : (pCheck p).1 = 0) : pCheck p = (0, 0) ∧ nOk p.1 = true ∧ 1 ≤ p.2.length ∧ p.2.length ≤ 5 ∧ pBad [] p.2 = none := by
  unfold pCheck at h ⊢
  split at h
  · cases h
  · rename_i hc
    rw [if_neg hc]
    have hn : nOk p.1 = true := by
      cases hb : nOk p.1 with
      | true => rfl
      | false => exact absurd (.inl hb) hc
    cases hb : pBad [] p.2 with
    | none => exact ⟨rfl, hn, by omega, by omega, rfl⟩
    | some i => rw [hb] at h; cases h

theorem pCheck_cases (p : PolL) : pCheck p = (0, 0) ∨ ∃ i : Nat, i ≤ p.2.length ∧ pCheck p = (23, (i : Int)) := by
  unfold pCheck
  split
  · exact .inr ⟨0, Nat.zero_le _, rfl⟩
  · cases hb : pBad [] p.2 with
    | none => exact .inl rfl
    | some i =>
      have := prRange _ _ _ hb
      exact .inr ⟨i, by simpa using this.2, rfl⟩

/-- What is known of a tier of a policy that may be. -/
theorem tier_known {p : PolL} (h : (pCheck p).1 = 0) {i : Nat} {t : TierL} (ht : p.2[i]? = some t) : 1 ≤ t.2.1 ∧ t.2.1 ≤ 1000000 ∧ 1 ≤ t.2.2.1 ∧ t.2.2.1 ≤ 1000000 ∧ 1 ≤ t.2.2.2 ∧ t.2.2.2 ≤ 8 ∧ nOk t.1 = true ∧ (i = 0 → t.2.1 = 1) ∧
    ∀ o, 0 < i → p.2[i - 1]? = some o → o.2.1 < t.2.1 ∧ t.2.1 % o.2.1 = 0 ∧ o.2.2.1 ≤ t.2.2.1 := by
  have hk := prNone p.2 [] (pCheck_ok h).2.2.2.2 i t ht
  rw [List.nil_append] at hk
  have hk0 := hk
  unfold tierOk at hk
  simp only [Bool.and_eq_true, decide_eq_true_eq] at hk
  obtain ⟨⟨⟨⟨⟨⟨⟨⟨a, b⟩, c⟩, e⟩, f⟩, g⟩, k⟩, -⟩, j⟩ := hk
  refine ⟨g, k, b, c, e, f, a, ?_, ?_⟩
  · rintro rfl
    rw [List.take_zero] at j
    simpa using j
  · intro o hi ho
    have hl : (p.2.take i).getLast? = some o := by
      obtain ⟨i, rfl⟩ : ∃ m, i = m + 1 := ⟨i - 1, by omega⟩
      rw [List.take_add_one, show p.2[i]? = some o from ho]
      simp
    rw [hl] at j
    simp only [Bool.and_eq_true, decide_eq_true_eq] at j
    exact ⟨j.1.1, j.1.2, j.2⟩

theorem set_map_key {l : List TierL} {k : Nat} {n : ByteArray} {e kp s s' : Int} (h : l[k]? = some (n, e, kp, s)) : (l.set k (n, e, kp, s')).map tkey = l.map tkey := by
  rw [List.map_set]
  refine List.ext_getElem? fun i => ?_
  rw [List.getElem?_set]
  split
  · rename_i hi
    subst hi
    have := List.getElem?_eq_some_iff.1 h
    rw [List.getElem?_map, h]
    simp [tkey, this.1]
  · rfl

/-- One tier's shards spoilt. -/
theorem pCheck_shards {p : PolL} (h : (pCheck p).1 = 0) {k : Nat} {n : ByteArray} {e kp s : Int} (hk : p.2[k]? = some (n, e, kp, s)) (s' : Int) :
    pCheck (p.1, p.2.set k (n, e, kp, s')) = if 1 ≤ s' ∧ s' ≤ 8 then (0, 0) else (23, ((k + 1 : Nat) : Int)) := by
  obtain ⟨-, hn, h1, h5, hb⟩ := pCheck_ok h
  have hall := prNone p.2 [] hb
  have hset := set_map_key (s' := s') hk
  have hkl := (List.getElem?_eq_some_iff.1 hk).1
  have htake : ∀ i, ((p.2.set k (n, e, kp, s')).take i).map tkey = (p.2.take i).map tkey := fun i => by rw [List.map_take, hset, List.map_take]
  have hget : ∀ i t, i ≠ k → (p.2.set k (n, e, kp, s'))[i]? = some t → tierOk ([] ++ (p.2.set k (n, e, kp, s')).take i) t = true := by
    intro i t hi ht
    rw [List.getElem?_set_ne (fun c => hi c.symm)] at ht
    rw [List.nil_append, tierOk_key (htake i)]
    exact hall i t ht
  have hself : tierOk ([] ++ (p.2.set k (n, e, kp, s')).take k) (n, e, kp, s') = (decide (1 ≤ s') && decide (s' ≤ 8)) := by
    rw [List.nil_append, tierOk_key (htake k)]
    exact tierOk_shards (hall k _ hk) s'
  have hsk : (p.2.set k (n, e, kp, s'))[k]? = some (n, e, kp, s') := List.getElem?_set_self hkl
  unfold pCheck
  rw [if_neg (fun c => by
    simp only [List.length_set] at c
    rcases c with c | c | c
    · rw [hn] at c; cases c
    · omega
    · omega)]
  by_cases hs : 1 ≤ s' ∧ s' ≤ 8
  · rw [if_pos hs, prAll _ _ (fun i t ht => by
      by_cases hi : i = k
      · subst hi
        rw [hsk] at ht
        cases ht
        rw [hself]
        simp [hs.1, hs.2]
      · exact hget i t hi ht)]
  · rw [if_neg hs, prFirst _ [] k _ (fun i t hi ht => hget i t (by omega) ht) hsk (by
      rw [hself]
      rw [Bool.and_eq_false_iff, decide_eq_false_iff_not, decide_eq_false_iff_not]
      omega)]
    simp

end Go.Proofs.Ytfbgjoildibikaa
