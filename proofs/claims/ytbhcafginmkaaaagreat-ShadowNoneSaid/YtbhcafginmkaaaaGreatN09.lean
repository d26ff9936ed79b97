/-
  A bundle of texts: NR TBM NF.
-/
import Derived.Deep.DeepCutAuto
import Derived.Test.YtbhcafginmkaaaaGreatN06
import Derived.Test.YtbhcafginmkaaaaGreatN01
import Derived.Test.YtbhcafginmkaaaaGreatN03
import Derived.Test.YtbhcafginmkaaaaGreatN04
namespace Go.Proofs.YtbhcafginmkaaaaGreat
open Go.RowKit Go.Lib

theorem hash_in (y : Nat) (h : y < 4294967296) (c : UInt8) : bits .xor .u32 (y : Int) ((c.toNat : Int) % 4294967296) = ((y ^^^ c.toNat : Nat) : Int) := by
  have hc := c.toNat_lt
  have e : ((c.toNat : Int) % 4294967296) = ((c.toNat : Nat) : Int) := by omega
  rw [e]
  exact u32_xor_nat y c.toNat h (by omega)

theorem hash_mul (z : Nat) : ((z : Int) * 16777619) % 4294967296 = ((z * 16777619 % 4294967296 : Nat) : Int) := by omega

/-- A name's shard. -/
def nShard (s : ByteArray) (n : Int) : Int := if n < 1 then 0 else (nHash s.data.toList : Int) % n

theorem nShard_in (s : ByteArray) (n : Int) (h : 1 ≤ n) : 0 ≤ nShard s n ∧ nShard s n < n := by
  unfold nShard
  rw [if_neg (by omega)]
  exact ⟨Int.emod_nonneg _ (by omega), Int.emod_lt_of_pos _ (by omega)⟩

/-- A byte that a name may have. -/
def nByteP (c : Nat) : Prop := 97 ≤ c ∧ c ≤ 122 ∨ 48 ≤ c ∧ c ≤ 57 ∨ c = 46 ∨ c = 95 ∨ c = 45

instance (c : Nat) : Decidable (nByteP c) := by unfold nByteP; infer_instance

def nByte (c : UInt8) : Bool := decide (nByteP c.toNat)

/-- It may be a name. -/
def nOk (s : ByteArray) : Bool := decide (1 ≤ s.size) && decide (s.size ≤ 15) && s.data.toList.all nByte

theorem nOk_size {s : ByteArray} (h : s.size < 1 ∨ 15 < s.size) : nOk s = false := by
  unfold nOk
  rcases h with h | h
  · rw [decide_eq_false (show ¬ 1 ≤ s.size by omega)]; rfl
  · rw [decide_eq_false (show ¬ s.size ≤ 15 by omega), Bool.and_false, Bool.false_and]

theorem nOk_all {s : ByteArray} (h1 : 1 ≤ s.size) (h2 : s.size ≤ 15) : nOk s = s.data.toList.all nByte := by
  unfold nOk
  rw [decide_eq_true h1, decide_eq_true h2]
  rfl

theorem all_false {s : ByteArray} {k : Nat} (hk : k < s.size) (hp : ¬ nByteP s[k].toNat) : s.data.toList.all nByte = false := by
  have h : nByte s[k] = false := decide_eq_false hp
  rw [List.all_eq_false]
  exact ⟨s[k], by have : s.data.toList[k]'(by rw [byte_len]; exact hk) ∈ s.data.toList := List.getElem_mem _; exact this, by rw [h]; simp⟩

theorem all_take {s : ByteArray} {k : Nat} (hk : k < s.size) (hp : nByteP s[k].toNat) (ht : (s.data.toList.take k).all nByte = true) : (s.data.toList.take (k + 1)).all nByte = true := by
  have h : nByte s[k] = true := decide_eq_true hp
  rw [take_snoc s k hk, List.all_append, ht]
  simp [h]

end Go.Proofs.YtbhcafginmkaaaaGreat

namespace Go.Proofs.YtbhcafginmkaaaaGreat
open Go.RowKit

abbrev TKey := ByteArray × Int

/-- One name and start ahead of another. -/
def kLt (a b : TKey) : Prop := nLt a.1 b.1 ∨ (a.1 = b.1 ∧ a.2 < b.2)

def kLtB (a b : TKey) : Bool := Op.bytesLess a.1.toList b.1.toList || ((a.1.toList == b.1.toList) && decide (a.2 < b.2))

theorem kLtB_iff {a b : TKey} : kLtB a b = true ↔ kLt a b := by
  unfold kLtB kLt nLt
  rw [Bool.or_eq_true, Bool.and_eq_true, beq_iff_eq, decide_eq_true_eq]
  constructor
  · rintro (h | ⟨h, k⟩)
    · exact .inl h
    · exact .inr ⟨toList_eq h, k⟩
  · rintro (h | ⟨h, k⟩)
    · exact .inl h
    · exact .inr ⟨by rw [h], k⟩

theorem kLt_irrefl (a : TKey) : ¬ kLt a a := by
  rintro (h | ⟨_, h⟩)
  · exact nLt_irrefl _ h
  · omega

theorem kLt_trans {a b c : TKey} (h1 : kLt a b) (h2 : kLt b c) : kLt a c := by
  rcases h1 with h1 | ⟨h1, k1⟩ <;> rcases h2 with h2 | ⟨h2, k2⟩
  · exact .inl (nLt_trans h1 h2)
  · exact .inl (by rw [← h2]; exact h1)
  · exact .inl (by rw [h1]; exact h2)
  · exact .inr ⟨h1.trans h2, by omega⟩

theorem kLt_total {a b : TKey} (h : a ≠ b) : kLt a b ∨ kLt b a := by
  by_cases h1 : a.1 = b.1
  · have h2 : a.2 ≠ b.2 := fun c => h (Prod.ext h1 c)
    by_cases h3 : a.2 < b.2
    · exact .inl (.inr ⟨h1, h3⟩)
    · exact .inr (.inr ⟨h1.symm, by omega⟩)
  · rcases nLt_total h1 with h2 | h2
    · exact .inl (.inl h2)
    · exact .inr (.inl h2)

/-- A record. -/
structure TRec where
  n : ByteArray
  s : Int
  a : Ag

def TRec.k (r : TRec) : TKey := (r.n, r.s)

theorem TRec.same {x y : TRec} (h : x.k = y.k) (ha : x.a = y.a) : x = y := by
  cases x; cases y
  simp only [TRec.k, Prod.mk.injEq] at h
  obtain ⟨rfl, rfl⟩ := h
  simp only at ha
  rw [ha]

/-- It may stand in a table. -/
def tOk (e : Int) (r : TRec) : Bool := nOk r.n && decide (0 ≤ r.s) && gOn r.s e && agOk r.a

/-- One more, in its place. -/
def tIns : List TRec → TRec → List TRec
  | [], r => [r]
  | x :: l, r => if kLtB x.k r.k = true then x :: tIns l r else if x.k = r.k then ⟨x.n, x.s, agBoth x.a r.a⟩ :: l else r :: x :: l

def tAdd (e : Int) (l : List TRec) (r : TRec) : List TRec := if tOk e r = true then tIns l r else l
def tAdds (e : Int) (l rs : List TRec) : List TRec := rs.foldl (tAdd e) l
def tCount (e : Int) (rs : List TRec) : Nat := (rs.filter (tOk e)).length

def TSorted (l : List TRec) : Prop := l.Pairwise fun x y => kLt x.k y.k
/-- Valid, and such as memory can hold. -/
def TGood (r : TRec) : Prop := agOk r.a = true ∧ AgIn r.a
def TAll (l : List TRec) : Prop := ∀ x ∈ l, TGood x

theorem TGood.g {r : TRec} (h : TGood r) : AgGood r.a := ⟨h.2, .inl h.1⟩

/-- All that falls under a condition, put together. -/
def tW (P : TKey → Bool) (l : List TRec) : Ag := agAll agZero ((l.filter fun x => P x.k).map (·.a))

def tOne (P : TKey → Bool) (r : TRec) : Ag := if P r.k = true then r.a else agZero

theorem tOne_good {P : TKey → Bool} {r : TRec} (h : TGood r) : AgGood (tOne P r) := by
  unfold tOne
  split
  · exact h.g
  · exact agZero_good

theorem filt_in {P : TKey → Bool} {l : List TRec} (h : TAll l) : ∀ x ∈ (l.filter fun x => P x.k).map (·.a), AgIn x := by
  intro x hx
  obtain ⟨y, hy, rfl⟩ := List.mem_map.1 hx
  exact (h y (List.mem_filter.1 hy).1).2

theorem tW_good {P : TKey → Bool} {l : List TRec} (h : TAll l) : AgGood (tW P l) := agAll_good agZero_good (filt_in h)

theorem tW_nil (P : TKey → Bool) : tW P [] = agZero := rfl

theorem TAll.tail {x : TRec} {l : List TRec} (h : TAll (x :: l)) : TAll l := fun y hy => h y (List.mem_cons_of_mem _ hy)
theorem TAll.head {x : TRec} {l : List TRec} (h : TAll (x :: l)) : TGood x := h x (List.mem_cons_self ..)

theorem tW_cons {P : TKey → Bool} {x : TRec} {l : List TRec} (h : TAll (x :: l)) : tW P (x :: l) = agJoin (tOne P x) (tW P l) := by
  unfold tW tOne
  rw [List.filter_cons]
  split
  · rw [List.map_cons]
    show agAll (agJoin agZero x.a) _ = _
    rw [agJoin_zero_left _ h.head.g]
    exact agAll_from h.head.g (filt_in h.tail)
  · rw [agJoin_zero_left]
    exact tW_good h.tail

theorem agJoin_swap {a b c : Ag} (ha : AgGood a) (hb : AgGood b) (hc : AgGood c) : agJoin (agJoin a b) c = agJoin (agJoin a c) b := by
  rw [agJoin_assoc ha hb hc, agJoin_comm hb hc, ← agJoin_assoc ha hc hb]

theorem tIns_all {l : List TRec} {r : TRec} (h : TAll l) (hr : TGood r) : TAll (tIns l r) := by
  induction l with
  | nil => intro x hx; rw [List.mem_singleton.1 hx]; exact hr
  | cons y l ih =>
    unfold tIns
    split
    · intro x hx
      rcases List.mem_cons.1 hx with rfl | hx
      · exact h.head
      · exact ih h.tail x hx
    · split
      · intro x hx
        rcases List.mem_cons.1 hx with rfl | hx
        · exact ⟨agBoth_ok h.head.1 hr.1, agBoth_in h.head.2 hr.2 h.head.1 hr.1⟩
        · exact h.tail x hx
      · intro x hx
        rcases List.mem_cons.1 hx with rfl | hx
        · exact hr
        · exact h x hx

theorem tW_ins {P : TKey → Bool} {l : List TRec} {r : TRec} (h : TAll l) (hr : TGood r) : tW P (tIns l r) = agJoin (tW P l) (tOne P r) := by
  induction l with
  | nil =>
    show tW P [r] = _
    rw [tW_cons (fun x hx => by rw [List.mem_singleton.1 hx]; exact hr), tW_nil, agJoin_zero_right, agJoin_zero_left _ (tOne_good hr)]
  | cons x l ih =>
    have gx := tOne_good (P := P) h.head
    have gr := tOne_good (P := P) hr
    have gl := tW_good (P := P) h.tail
    unfold tIns
    split
    · rw [tW_cons (fun y hy => by
        rcases List.mem_cons.1 hy with rfl | hy
        · exact h.head
        · exact tIns_all h.tail hr y hy), ih h.tail, tW_cons h, agJoin_assoc gx gl gr]
    · split
      · rename_i hk
        have hb : TGood ⟨x.n, x.s, agBoth x.a r.a⟩ := ⟨agBoth_ok h.head.1 hr.1, agBoth_in h.head.2 hr.2 h.head.1 hr.1⟩
        rw [tW_cons (fun y hy => by
          rcases List.mem_cons.1 hy with rfl | hy
          · exact hb
          · exact h.tail y hy), tW_cons h]
        have e : tOne P ⟨x.n, x.s, agBoth x.a r.a⟩ = agJoin (tOne P x) (tOne P r) := by
          unfold tOne
          rw [← hk]
          show (if P x.k = true then agBoth x.a r.a else agZero) = _
          split
          · unfold agJoin
            rw [if_pos hr.1, if_pos h.head.1]
          · rfl
        rw [e, agJoin_swap gx gr gl]
      · rw [tW_cons (fun y hy => by
          rcases List.mem_cons.1 hy with rfl | hy
          · exact hr
          · exact h y hy), agJoin_comm gr (tW_good h)]

theorem tOk_good {e : Int} {r : TRec} (h : tOk e r = true) (hi : AgIn r.a) : TGood r := by
  unfold tOk at h
  rw [Bool.and_eq_true] at h
  exact ⟨h.2, hi⟩

theorem tAdds_all {e : Int} {l rs : List TRec} (h : TAll l) (hr : ∀ r ∈ rs, AgIn r.a) : TAll (tAdds e l rs) := by
  induction rs generalizing l with
  | nil => exact h
  | cons r rs ih =>
    refine ih (l := tAdd e l r) ?_ (fun x hx => hr x (List.mem_cons_of_mem _ hx))
    unfold tAdd
    split
    · exact tIns_all h (tOk_good ‹_› (hr r (List.mem_cons_self ..)))
    · exact h

theorem ok_all {e : Int} {rs : List TRec} (hr : ∀ r ∈ rs, AgIn r.a) : TAll (rs.filter (tOk e)) := fun x hx => tOk_good (List.mem_filter.1 hx).2 (hr x (List.mem_filter.1 hx).1)

theorem tW_adds {P : TKey → Bool} {e : Int} {l rs : List TRec} (h : TAll l) (hr : ∀ r ∈ rs, AgIn r.a) : tW P (tAdds e l rs) = agJoin (tW P l) (tW P (rs.filter (tOk e))) := by
  induction rs generalizing l with
  | nil => exact (agJoin_zero_right _).symm
  | cons r rs ih =>
    have hr' : ∀ x ∈ rs, AgIn x.a := fun x hx => hr x (List.mem_cons_of_mem _ hx)
    show tW P (tAdds e (tAdd e l r) rs) = _
    rw [List.filter_cons]
    unfold tAdd
    split
    · rename_i hok
      have g := tOk_good hok (hr r (List.mem_cons_self ..))
      rw [ih (tIns_all h g) hr', tW_ins h g, tW_cons (fun y hy => by
        rcases List.mem_cons.1 hy with rfl | hy
        · exact g
        · exact ok_all hr' y hy), agJoin_assoc (tW_good h) (tOne_good g) (tW_good (ok_all hr'))]
    · exact ih h hr'

theorem tW_of {P : TKey → Bool} {e : Int} {rs : List TRec} (hr : ∀ r ∈ rs, AgIn r.a) : tW P (tAdds e [] rs) = tW P (rs.filter (tOk e)) := by
  rw [tW_adds (fun x hx => absurd hx List.not_mem_nil) hr, tW_nil, agJoin_zero_left _ (tW_good (ok_all hr))]

theorem tIns_key {l : List TRec} {r y : TRec} (h : y ∈ tIns l r) : y.k = r.k ∨ ∃ x ∈ l, y.k = x.k := by
  induction l with
  | nil => exact .inl (by rw [List.mem_singleton.1 h])
  | cons x l ih =>
    unfold tIns at h
    split at h
    · rcases List.mem_cons.1 h with rfl | h
      · exact .inr ⟨_, List.mem_cons_self .., rfl⟩
      · rcases ih h with h | ⟨z, hz, h⟩
        · exact .inl h
        · exact .inr ⟨z, List.mem_cons_of_mem _ hz, h⟩
    · split at h
      · rcases List.mem_cons.1 h with rfl | h
        · exact .inr ⟨x, List.mem_cons_self .., rfl⟩
        · exact .inr ⟨y, List.mem_cons_of_mem _ h, rfl⟩
      · rcases List.mem_cons.1 h with rfl | h
        · exact .inl rfl
        · exact .inr ⟨y, h, rfl⟩

theorem tIns_sorted {l : List TRec} {r : TRec} (h : TSorted l) : TSorted (tIns l r) := by
  induction l with
  | nil => exact List.pairwise_singleton _ _
  | cons x l ih =>
    obtain ⟨h1, h2⟩ := List.pairwise_cons.1 h
    unfold tIns
    split
    · rename_i hk
      refine List.pairwise_cons.2 ⟨fun y hy => ?_, ih h2⟩
      rcases tIns_key hy with e | ⟨z, hz, e⟩
      · rw [e]; exact kLtB_iff.1 hk
      · rw [e]; exact h1 z hz
    · split
      · exact List.pairwise_cons.2 ⟨fun y hy => h1 y hy, h2⟩
      · rename_i hk hne
        have hrx : kLt r.k x.k := by
          rcases kLt_total hne with c | c
          · exact absurd (kLtB_iff.2 c) hk
          · exact c
        refine List.pairwise_cons.2 ⟨fun y hy => ?_, h⟩
        rcases List.mem_cons.1 hy with rfl | hy
        · exact hrx
        · exact kLt_trans hrx (h1 y hy)

theorem tAdds_sorted {e : Int} {l rs : List TRec} (h : TSorted l) : TSorted (tAdds e l rs) := by
  induction rs generalizing l with
  | nil => exact h
  | cons r rs ih =>
    refine ih (l := tAdd e l r) ?_
    unfold tAdd
    split
    · exact tIns_sorted h
    · exact h

theorem sorted_nil : TSorted [] := List.Pairwise.nil
theorem all_nil : TAll [] := fun _ hx => absurd hx List.not_mem_nil

/-- Of one name and start: what stands there. -/
theorem tW_key {l : List TRec} (h : TSorted l) (ha : TAll l) (k : TKey) : (∀ x ∈ l, x.k ≠ k) ∧ tW (fun y => decide (y = k)) l = agZero ∨ ∃ x ∈ l, x.k = k ∧ tW (fun y => decide (y = k)) l = x.a := by
  induction l with
  | nil => exact .inl ⟨fun x hx => absurd hx List.not_mem_nil, rfl⟩
  | cons x l ih =>
    obtain ⟨h1, h2⟩ := List.pairwise_cons.1 h
    rw [tW_cons ha]
    by_cases hk : x.k = k
    · right
      refine ⟨x, List.mem_cons_self .., hk, ?_⟩
      have e1 : tOne (fun y => decide (y = k)) x = x.a := by unfold tOne; rw [if_pos (decide_eq_true hk)]
      have e2 : tW (fun y => decide (y = k)) l = agZero := by
        unfold tW
        rw [List.filter_eq_nil_iff.2 (fun y hy => by
          have := h1 y hy
          rw [hk] at this
          simp only [decide_eq_true_eq]
          intro c
          rw [c] at this
          exact kLt_irrefl _ this)]
        rfl
      rw [e1, e2, agJoin_zero_right]
    · have e1 : tOne (fun y => decide (y = k)) x = agZero := by unfold tOne; rw [if_neg (by simpa using hk)]
      rw [e1, agJoin_zero_left _ (tW_good ha.tail)]
      rcases ih h2 ha.tail with ⟨h3, h4⟩ | ⟨y, hy, h3, h4⟩
      · left
        refine ⟨fun z hz => ?_, h4⟩
        rcases List.mem_cons.1 hz with rfl | hz
        · exact hk
        · exact h3 z hz
      · exact .inr ⟨y, List.mem_cons_of_mem _ hy, h3, h4⟩

theorem tW_mem {l : List TRec} (h : TSorted l) (ha : TAll l) (x : TRec) : x ∈ l ↔ agOk x.a = true ∧ tW (fun y => decide (y = x.k)) l = x.a := by
  rcases tW_key h ha x.k with ⟨h1, h2⟩ | ⟨y, hy, h1, h2⟩
  · constructor
    · intro hx; exact absurd rfl (h1 x hx)
    · rintro ⟨h3, h4⟩
      rw [h2] at h4
      rw [← h4] at h3
      exact absurd h3 (by decide)
  · rw [h2]
    constructor
    · intro hx
      have : y = x := by
        by_cases c : x = y
        · exact c.symm
        · exfalso
          -- two of one name and start
          have := List.pairwise_iff_getElem.1 h
          obtain ⟨i, hi, ei⟩ := List.mem_iff_getElem.1 hx
          obtain ⟨j, hj, ej⟩ := List.mem_iff_getElem.1 hy
          rcases Nat.lt_trichotomy i j with c1 | c1 | c1
          · have := this i j hi hj c1
            rw [ei, ej, h1] at this
            exact kLt_irrefl _ this
          · subst c1
            exact c (ei.symm.trans ej)
          · have := this j i hj hi c1
            rw [ei, ej, h1] at this
            exact kLt_irrefl _ this
      rw [this]
      exact ⟨(ha x hx).1, rfl⟩
    · rintro ⟨h3, h4⟩
      have : x = y := TRec.same h1.symm h4.symm
      rw [this]
      exact hy

theorem sorted_same : ∀ {a b : List TRec}, TSorted a → TSorted b → (∀ x, x ∈ a ↔ x ∈ b) → a = b
  | [], [], _, _, _ => rfl
  | [], y :: b, _, _, h => absurd ((h y).2 (List.mem_cons_self ..)) List.not_mem_nil
  | x :: a, [], _, _, h => absurd ((h x).1 (List.mem_cons_self ..)) List.not_mem_nil
  | x :: a, y :: b, ha, hb, h => by
    obtain ⟨a1, a2⟩ := List.pairwise_cons.1 ha
    obtain ⟨b1, b2⟩ := List.pairwise_cons.1 hb
    have e : x = y := by
      rcases List.mem_cons.1 ((h x).1 (List.mem_cons_self ..)) with c | c
      · exact c
      · rcases List.mem_cons.1 ((h y).2 (List.mem_cons_self ..)) with d | d
        · exact d.symm
        · exact absurd (kLt_trans (b1 x c) (a1 y d)) (kLt_irrefl _)
    subst e
    rw [sorted_same a2 b2 (fun z => ?_)]
    constructor
    · intro hz
      rcases List.mem_cons.1 ((h z).1 (List.mem_cons_of_mem _ hz)) with rfl | c
      · exact absurd (a1 z hz) (kLt_irrefl _)
      · exact c
    · intro hz
      rcases List.mem_cons.1 ((h z).2 (List.mem_cons_of_mem _ hz)) with rfl | c
      · exact absurd (b1 z hz) (kLt_irrefl _)
      · exact c

/-- Two that know the same of every condition are the same. -/
theorem tables_same {a b : List TRec} (ha : TSorted a) (hb : TSorted b) (ga : TAll a) (gb : TAll b) (h : ∀ P, tW P a = tW P b) : a = b :=
  sorted_same ha hb (fun x => by rw [tW_mem ha ga, tW_mem hb gb, h])

theorem agAll_perm {a : Ag} {l k : List Ag} (ha : AgGood a) (hl : ∀ x ∈ l, AgGood x) (h : l.Perm k) : agAll a l = agAll a k := by
  induction h generalizing a with
  | nil => rfl
  | cons x _ ih => exact ih (agJoin_good ha (hl x (List.mem_cons_self ..)).1) (fun y hy => hl y (List.mem_cons_of_mem _ hy))
  | swap x y l =>
    show agAll (agJoin (agJoin a y) x) l = agAll (agJoin (agJoin a x) y) l
    rw [agJoin_swap ha (hl y (List.mem_cons_self ..)) (hl x (List.mem_cons_of_mem _ (List.mem_cons_self ..)))]
  | trans h1 _ ih1 ih2 => exact (ih1 ha hl).trans (ih2 ha (fun x hx => hl x (h1.mem_iff.2 hx)))

theorem tW_perm {P : TKey → Bool} {l k : List TRec} (hl : TAll l) (h : l.Perm k) : tW P l = tW P k :=
  agAll_perm agZero_good (fun x hx => by
    obtain ⟨y, hy, rfl⟩ := List.mem_map.1 hx
    exact (hl y (List.mem_filter.1 hy).1).g) ((h.filter _).map _)

/-- A record of a coarser bucket. -/
def tFl (e : Int) (r : TRec) : TRec := ⟨r.n, gFloor r.s e, r.a⟩

theorem tFl_ok {e e' : Int} {r : TRec} (he : 1 ≤ e') (h : tOk e r = true) : tOk e' (tFl e' r) = true := by
  unfold tOk at h ⊢
  simp only [Bool.and_eq_true, decide_eq_true_eq] at h ⊢
  obtain ⟨⟨⟨h1, h2⟩, h3⟩, h4⟩ := h
  have hf := gFloor_plain0 h2 he
  have h5 : gPast r.s e' ≤ r.s := past_le he h2
  exact ⟨⟨⟨h1, by show 0 ≤ gFloor r.s e'; omega⟩, gFloor_on he hf⟩, h4⟩

theorem filter_ok {e : Int} {l : List TRec} (h : ∀ x ∈ l, tOk e x = true) : l.filter (tOk e) = l := List.filter_eq_self.2 h

theorem tAdds_ok {e : Int} {l rs : List TRec} (hl : ∀ x ∈ l, tOk e x = true) (h : ∀ x ∈ rs, AgIn x.a) (ha : TAll l) : ∀ x ∈ tAdds e l rs, tOk e x = true := by
  induction rs generalizing l with
  | nil => exact hl
  | cons r rs ih =>
    have hi : AgIn r.a := h r (List.mem_cons_self ..)
    refine ih (l := tAdd e l r) ?_ (fun x hx => h x (List.mem_cons_of_mem _ hx)) ?_
    · unfold tAdd
      split
      · rename_i hok
        intro y hy
        have hg := tIns_all ha (tOk_good hok hi) y hy
        unfold tOk at hok ⊢
        simp only [Bool.and_eq_true, decide_eq_true_eq] at hok ⊢
        rcases tIns_key hy with e1 | ⟨z, hz, e1⟩
        · simp only [TRec.k, Prod.mk.injEq] at e1
          rw [e1.1, e1.2]
          exact ⟨hok.1, hg.1⟩
        · have := hl z hz
          unfold tOk at this
          simp only [Bool.and_eq_true, decide_eq_true_eq] at this
          simp only [TRec.k, Prod.mk.injEq] at e1
          rw [e1.1, e1.2]
          exact ⟨this.1, hg.1⟩
      · exact hl
    · unfold tAdd
      split
      · rename_i hok
        exact tIns_all ha (tOk_good hok hi)
      · exact ha

end Go.Proofs.YtbhcafginmkaaaaGreat

namespace Go.Proofs.YtbhcafginmkaaaaGreat
open Go.RowKit Go.Lib

set_option maxRecDepth 20000 in
set_option maxHeartbeats 400000 in
theorem hash_any (s : ByteArray) (hs : s.size ≤ maxLen) (w : World) :
    Calls Tryz.prog 213 #[.string s] w fun e w' => e = .returned (.int .u32 (nHash s.data.toList : Nat)) ∧ ∃ q, w' = w.drewN q := by
  unfold maxLen at hs
  go_enter Tryz.func213, Tryz.ntmps213
  go_wp2
  go_loop [3, 4, 7] (fun xv _ i => ∃ (k y : Nat), k ≤ s.size ∧ i = .int .i64 k ∧ xv = .int .u32 y ∧ y < 4294967296 ∧ Hid (nHash (s.data.toList.take k) = y)) (fun _ _ i => s.size - (intOf i).toNat)
  case atStart => exact ⟨0, 2166136261, Nat.zero_le _, rfl, rfl, by omega, Hid.of rfl⟩
  case round =>
    obtain ⟨k, y, hk, rfl, rfl, hy, hr⟩ := hrel
    by_cases hlt : k < s.size
    · have HD := Hid.of (nHash_take s.data.toList k (by rw [byte_len]; exact hlt))
      go_wp2
      rw [hash_in y hy, hash_mul]
      refine ⟨⟨k + 1, (y ^^^ s[k].toNat) * 16777619 % 4294967296, by omega, by go_num, rfl, Nat.mod_lt _ (by omega), Hid.of ?_⟩, by simp [intOf]; omega⟩
      rw [HD.out, hr.out]
      rfl
    · go_wp2
      go_ret
      have : k = s.size := by omega
      subst this
      have h := hr.out
      rw [List.take_of_length_le (by rw [byte_len]; exact Nat.le_refl _)] at h
      rw [h]
      exact ⟨rfl, 0, rfl⟩

set_option maxRecDepth 20000 in
set_option maxHeartbeats 400000 in
theorem shard_any (s : ByteArray) (hs : s.size ≤ maxLen) (n : Int) (w : World) :
    Calls Tryz.prog 111 #[.string s, .int .i64 n] w fun e w' => e = .returned (.int .i64 (nShard s n)) ∧ ∃ q, w' = w.drewN q := by
  by_cases h : n < 1
  · have e0 : nShard s n = 0 := by unfold nShard; rw [if_pos h]
    rw [e0]
    go_enter Tryz.func111, Tryz.ntmps111
    go_wp2
    go_ret
    exact ⟨rfl, 0, rfl⟩
  · have e0 : nShard s n = (nHash s.data.toList : Int) % n := by
      unfold nShard
      rw [if_neg h]
    have HE := Hid.of e0
    have hl := nHash_lt s.data.toList
    have n0 : ¬ n = 0 := by omega
    clear e0
    go_enter Tryz.func111, Tryz.ntmps111
    go_wp2_with fail
    refine (hash_any s hs _).mono ?_
    rintro x w1 ⟨rfl, q, rfl⟩
    generalize hx : nHash s.data.toList = x at *
    have x0 : (0 : Int) ≤ (x : Int) := Int.natCast_nonneg _
    have x9 : (x : Int) < 4294967296 := by omega
    clear hx hl
    go_wp2
    go_ret
    rw [HE.out]
    exact ⟨rfl, q, rfl⟩

set_option maxRecDepth 20000 in
set_option maxHeartbeats 800000 in
theorem mayBe_any (c : Nat) (w : World) :
    Calls Tryz.prog 286 #[.int .u8 c] w fun e w' => e = .returned (.bool (decide (nByteP c))) ∧ w' = w := by
  have HT := Hid.of (fun h : nByteP c => decide_eq_true h)
  have HF := Hid.of (fun h : ¬ nByteP c => decide_eq_false h)
  go_enter Tryz.func286, Tryz.ntmps286
  go_wp2
  all_goals
    go_ret
    refine ⟨?_, rfl⟩
    first
      | (rw [HT.out (by unfold nByteP; omega)]; rfl)
      | (rw [HF.out (by unfold nByteP; omega)]; rfl)
      | (refine congrArg (fun b => Ending.returned (.bool b)) (Bool.eq_iff_iff.2 ?_)
         simp only [Bool.or_eq_true, decide_eq_true_eq, beq_iff_eq]
         unfold nByteP
         omega)

end Go.Proofs.YtbhcafginmkaaaaGreat
