/-
  A bundle of texts: TCQ TCR.
-/
import Derived.Test.YtbhcafginmkaaaaGreatN21
import Derived.Test.YtbhcafginmkaaaaGreatN08
namespace Go.Proofs.YtbhcafginmkaaaaGreat
open Go.RowKit

def BGood (b : Bk) : Prop := agOk b.2 = true ∧ AgIn b.2 ∧ TIn64 b.1
def BAll (l : List Bk) : Prop := ∀ b ∈ l, BGood b
def BRise (l : List Bk) : Prop := l.Pairwise fun x y => x.1 < y.1

theorem BAll.tail {x : Bk} {l : List Bk} (h : BAll (x :: l)) : BAll l := fun y hy => h y (List.mem_cons_of_mem _ hy)
theorem BAll.head {x : Bk} {l : List Bk} (h : BAll (x :: l)) : BGood x := h x (List.mem_cons_self ..)
theorem BAll.nil : BAll [] := fun _ h => absurd h List.not_mem_nil
theorem BAll.append {a b : List Bk} (h : BAll a) (k : BAll b) : BAll (a ++ b) := fun x hx => (List.mem_append.1 hx).elim (h x) (k x)
theorem BAll.sub {a b : List Bk} (h : BAll b) (k : ∀ x ∈ a, x ∈ b) : BAll a := fun x hx => h x (k x hx)

/-- What Merge makes of two that may stand in a table. -/
theorem merge_both {a b : Ag} (ha : agOk a = true) (ia : AgIn a) (hb : agOk b = true) : agAll agZero [a, b] = agBoth a b := by
  show agJoin (agJoin agZero a) b = _
  rw [agJoin_zero_left a ⟨ia, .inl ha⟩]
  unfold agJoin
  rw [if_pos hb, if_pos ha]

def bJoin (x b : Bk) : Bk := (x.1, agBoth x.2 b.2)

theorem bJoin_good {x b : Bk} (hx : BGood x) (hb : BGood b) : BGood (bJoin x b) := ⟨agBoth_ok hx.1 hb.1, agBoth_in hx.2.1 hb.2.1 hx.1 hb.1, hx.2.2⟩

/-- One more, in its place. -/
def sIns : List Bk → Bk → List Bk
  | [], b => [b]
  | x :: l, b => if x.1 < b.1 then x :: sIns l b else if x.1 = b.1 then bJoin x b :: l else b :: x :: l

def sAdds (l fresh : List Bk) : List Bk := fresh.foldl sIns l

theorem sIns_start {l : List Bk} {b y : Bk} (h : y ∈ sIns l b) : y.1 = b.1 ∨ ∃ x ∈ l, y.1 = x.1 := by
  induction l with
  | nil => exact .inl (by rw [List.mem_singleton.1 h])
  | cons x l ih =>
    unfold sIns at h
    split at h
    · rcases List.mem_cons.1 h with rfl | h
      · exact .inr ⟨_, List.mem_cons_self .., rfl⟩
      · rcases ih h with h | ⟨z, hz, h⟩
        · exact .inl h
        · exact .inr ⟨z, List.mem_cons_of_mem _ hz, h⟩
    · split at h
      · rcases List.mem_cons.1 h with rfl | h
        · exact .inr ⟨x, List.mem_cons_self .., rfl⟩
        · exact .inr ⟨y, List.mem_cons_of_mem _ h, rfl⟩
      · rcases List.mem_cons.1 h with rfl | h
        · exact .inl rfl
        · exact .inr ⟨y, h, rfl⟩

theorem sIns_rise {l : List Bk} {b : Bk} (h : BRise l) : BRise (sIns l b) := by
  induction l with
  | nil => exact List.pairwise_singleton _ _
  | cons x l ih =>
    obtain ⟨h1, h2⟩ := List.pairwise_cons.1 h
    unfold sIns
    split
    · rename_i hk
      refine List.pairwise_cons.2 ⟨fun y hy => ?_, ih h2⟩
      rcases sIns_start hy with e | ⟨z, hz, e⟩
      · rw [e]; exact hk
      · rw [e]; exact h1 z hz
    · split
      · exact List.pairwise_cons.2 ⟨fun y hy => h1 y hy, h2⟩
      · rename_i hk hne
        refine List.pairwise_cons.2 ⟨fun y hy => ?_, h⟩
        rcases List.mem_cons.1 hy with rfl | hy
        · omega
        · have := h1 y hy
          omega

theorem sAdds_rise {l fresh : List Bk} (h : BRise l) : BRise (sAdds l fresh) := by
  induction fresh generalizing l with
  | nil => exact h
  | cons b fresh ih => exact ih (sIns_rise h)

/-- Behind all that begins ahead of it. -/
theorem sIns_behind {A B : List Bk} {b : Bk} (h : ∀ x ∈ A, x.1 < b.1) : sIns (A ++ B) b = A ++ sIns B b := by
  induction A with
  | nil => rfl
  | cons x A ih =>
    show sIns (x :: (A ++ B)) b = _
    rw [sIns, if_pos (h x (List.mem_cons_self ..)), ih (fun y hy => h y (List.mem_cons_of_mem _ hy))]
    rfl

/-- Ahead of all that begins behind it. -/
theorem sIns_ahead {B C : List Bk} {b : Bk} (h : ∀ x ∈ C, b.1 < x.1) : sIns (B ++ C) b = sIns B b ++ C := by
  induction B with
  | nil =>
    cases C with
    | nil => rfl
    | cons x C =>
      show sIns (x :: C) b = b :: x :: C
      have := h x (List.mem_cons_self ..)
      rw [sIns, if_neg (by omega), if_neg (by omega)]
  | cons x B ih =>
    show sIns (x :: (B ++ C)) b = sIns (x :: B) b ++ C
    rw [sIns, sIns]
    split
    · rw [ih]; rfl
    · split <;> rfl

theorem sAdds_mid {A M C fresh : List Bk} (hA : ∀ x ∈ A, ∀ b ∈ fresh, x.1 < b.1) (hC : ∀ x ∈ C, ∀ b ∈ fresh, b.1 < x.1) : sAdds (A ++ (M ++ C)) fresh = A ++ (sAdds M fresh ++ C) := by
  induction fresh generalizing M with
  | nil => rfl
  | cons b fresh ih =>
    show sAdds (sIns (A ++ (M ++ C)) b) fresh = A ++ (sAdds (sIns M b) fresh ++ C)
    rw [sIns_behind (fun x hx => hA x hx b (List.mem_cons_self ..)), sIns_ahead (fun x hx => hC x hx b (List.mem_cons_self ..))]
    exact ih (fun x hx c hc => hA x hx c (List.mem_cons_of_mem _ hc)) (fun x hx c hc => hC x hx c (List.mem_cons_of_mem _ hc))

/-- Put to the end: none of l is behind it. -/
def sPush (l : List Bk) (b : Bk) : List Bk :=
  match l.getLast? with
  | none => [b]
  | some x => if x.1 < b.1 then l ++ [b] else l.dropLast ++ [bJoin x b]

theorem sPush_ins {l : List Bk} {b : Bk} (hr : BRise l) (h : ∀ x ∈ l, x.1 ≤ b.1) : sPush l b = sIns l b := by
  unfold sPush
  cases hl : l.getLast? with
  | none =>
    rw [List.getLast?_eq_none_iff.1 hl]
    rfl
  | some x =>
    obtain ⟨l', rfl⟩ := List.getLast?_eq_some_iff.1 hl
    have h1 : ∀ y ∈ l', y.1 < x.1 := fun y hy => (List.pairwise_append.1 hr).2.2 y hy x (List.mem_singleton_self x)
    have h2 := h x (by simp)
    show (if x.1 < b.1 then (l' ++ [x]) ++ [b] else (l' ++ [x]).dropLast ++ [bJoin x b]) = _
    rw [sIns_behind (fun y hy => Int.lt_of_lt_of_le (h1 y hy) h2)]
    split
    · rw [sIns, if_pos ‹_›, List.append_assoc]
      rfl
    · rw [sIns, if_neg ‹_›, if_pos (by omega), List.dropLast_concat]

/-- What has been woven of l (w) and what is left of it. -/
structure Woven (M f1 w l : List Bk) : Prop where
  all : w ++ l = sAdds M f1
  rise : BRise (w ++ l)
  wle : ∀ x ∈ w, ∀ b, f1.getLast? = some b → x.1 ≤ b.1
  lgt : ∀ x ∈ l, ∀ b, f1.getLast? = some b → b.1 < x.1
  none_ : f1 = [] → w = []

theorem rise_parts {w l : List Bk} (h : BRise (w ++ l)) : BRise w ∧ BRise l ∧ ∀ x ∈ w, ∀ y ∈ l, x.1 < y.1 := by
  obtain ⟨h1, h2, h3⟩ := List.pairwise_append.1 h
  exact ⟨h1, h2, h3⟩

/-- One more is woven in: what does not begin behind it has gone over ahead of it. -/
theorem Woven.next {M f1 w m l : List Bk} {b : Bk} (h : Woven M f1 w (m ++ l)) (hm : ∀ x ∈ m, x.1 ≤ b.1) (hl : ∀ x ∈ l, b.1 < x.1) (hb : ∀ c, f1.getLast? = some c → c.1 ≤ b.1) : Woven M (f1 ++ [b]) (sPush (w ++ m) b) l := by
  have hr : BRise ((w ++ m) ++ l) := by rw [List.append_assoc]; exact h.rise
  have hwle : ∀ x ∈ w ++ m, x.1 ≤ b.1 := fun x hx => by
    rcases List.mem_append.1 hx with hx | hx
    · cases hf : f1.getLast? with
      | none =>
        have := h.none_ (List.getLast?_eq_none_iff.1 hf)
        rw [this] at hx
        exact absurd hx List.not_mem_nil
      | some c => exact Int.le_trans (h.wle x hx c hf) (hb c hf)
    · exact hm x hx
  have hp := sPush_ins (rise_parts hr).1 hwle
  have hall : sPush (w ++ m) b ++ l = sAdds M (f1 ++ [b]) := by
    rw [hp, ← sIns_ahead hl, List.append_assoc, h.all]
    unfold sAdds
    rw [List.foldl_append]
    rfl
  have hlast : ∀ c, (f1 ++ [b]).getLast? = some c → c = b := fun c hc => by
    rw [List.getLast?_concat] at hc
    exact (Option.some.inj hc).symm
  refine ⟨hall, ?_, fun x hx c hc => ?_, fun x hx c hc => ?_, fun e => absurd e (by simp)⟩
  · rw [hp, ← sIns_ahead hl]
    exact sIns_rise hr
  · rw [hlast c hc]
    rw [hp] at hx
    rcases sIns_start hx with e | ⟨z, hz, e⟩
    · omega
    · rw [e]; exact hwle z hz
  · rw [hlast c hc]
    exact hl x hx

theorem Woven.start {M : List Bk} (h : BRise M) : Woven M [] [] M := ⟨rfl, h, fun x hx => absurd hx List.not_mem_nil, fun x _ b hb => (by cases hb), fun _ => rfl⟩

/-- All is woven: nothing of l was behind the last one. -/
theorem Woven.over {M f w l : List Bk} (h : Woven M f w l) (hf : f ≠ []) (hle : ∀ x ∈ M, ∀ b, f.getLast? = some b → x.1 ≤ b.1) (hs : ∀ x ∈ f, ∀ b, f.getLast? = some b → x.1 ≤ b.1) : w = sAdds M f := by
  have hl : l = [] := by
    cases l with
    | nil => rfl
    | cons x l =>
      exfalso
      obtain ⟨b, hb⟩ : ∃ b, f.getLast? = some b := by
        cases hq : f.getLast? with
        | none => exact absurd (List.getLast?_eq_none_iff.1 hq) hf
        | some b => exact ⟨b, rfl⟩
      have h1 := h.lgt x (List.mem_cons_self ..) b hb
      have h2 : x ∈ sAdds M f := by rw [← h.all]; simp
      have key : ∀ (f M : List Bk), x ∈ sAdds M f → (∃ y ∈ M, x.1 = y.1) ∨ ∃ y ∈ f, x.1 = y.1 := by
        intro f
        induction f with
        | nil => intro M hx; exact .inl ⟨x, hx, rfl⟩
        | cons c f ih =>
          intro M hx
          rcases ih (sIns M c) hx with ⟨y, hy, e⟩ | ⟨y, hy, e⟩
          · rcases sIns_start hy with e2 | ⟨z, hz, e2⟩
            · exact .inr ⟨c, List.mem_cons_self .., e.trans e2⟩
            · exact .inl ⟨z, hz, e.trans e2⟩
          · exact .inr ⟨y, List.mem_cons_of_mem _ hy, e⟩
      rcases key f M h2 with ⟨y, hy, e⟩ | ⟨y, hy, e⟩
      · have := hle y hy b hb
        omega
      · have := hs y hy b hb
        omega
  have := h.all
  rw [hl, List.append_nil] at this
  exact this

/-- How many begin ahead of a time. -/
def sAt (l : List Bk) (s : Int) : Nat := (l.takeWhile fun x => decide (x.1 < s)).length
def sHas (l : List Bk) (s : Int) : Bool := l.any fun x => decide (x.1 = s)

theorem sAt_le (l : List Bk) (s : Int) : sAt l s ≤ l.length := (List.takeWhile_sublist _).length_le

theorem sAt_unique {l : List Bk} {s : Int} {k : Nat} (hk : k ≤ l.length) (h1 : ∀ j x, l[j]? = some x → j < k → x.1 < s) (h2 : ∀ j x, l[j]? = some x → k ≤ j → s ≤ x.1) : sAt l s = k := by
  induction l generalizing k with
  | nil => simp at hk; rw [hk]; rfl
  | cons x l ih =>
    unfold sAt
    rw [List.takeWhile_cons]
    cases k with
    | zero =>
      have := h2 0 x rfl (Nat.le_refl _)
      rw [if_neg (by simpa using this)]
      rfl
    | succ k =>
      have := h1 0 x rfl (Nat.succ_pos _)
      rw [if_pos (by simpa using this), List.length_cons]
      congr 1
      exact ih (by simpa using hk) (fun j y hj hjk => h1 (j + 1) y (by simpa using hj) (by omega)) (fun j y hj hjk => h2 (j + 1) y (by simpa using hj) (by omega))

theorem sAt_cut {l : List Bk} (hr : BRise l) (s : Int) : (∀ j x, l[j]? = some x → j < sAt l s → x.1 < s) ∧ (∀ j x, l[j]? = some x → sAt l s ≤ j → s ≤ x.1) := by
  induction l with
  | nil => exact ⟨fun j x h => by simp at h, fun j x h => by simp at h⟩
  | cons y l ih =>
    obtain ⟨h1, h2⟩ := List.pairwise_cons.1 hr
    obtain ⟨i1, i2⟩ := ih h2
    unfold sAt
    rw [List.takeWhile_cons]
    by_cases hy : y.1 < s
    · rw [if_pos (by simpa using hy), List.length_cons]
      refine ⟨fun j x hj hk => ?_, fun j x hj hk => ?_⟩
      · cases j with
        | zero => simp at hj; rw [← hj]; exact hy
        | succ j => exact i1 j x (by simpa using hj) (by unfold sAt; omega)
      · cases j with
        | zero => omega
        | succ j => exact i2 j x (by simpa using hj) (by unfold sAt; omega)
    · rw [if_neg (by simpa using hy)]
      refine ⟨fun j x _ hk => absurd hk (Nat.not_lt_zero _), fun j x hj _ => ?_⟩
      cases j with
      | zero => simp at hj; rw [← hj]; omega
      | succ j =>
        have := h1 x (List.mem_of_getElem? (by simpa using hj))
        omega

/-- Whether one begins just there. -/
theorem sHas_at {l : List Bk} (hr : BRise l) (s : Int) : sHas l s = true ↔ ∃ x, l[sAt l s]? = some x ∧ x.1 = s := by
  obtain ⟨c1, c2⟩ := sAt_cut hr s
  unfold sHas
  rw [List.any_eq_true]
  constructor
  · rintro ⟨x, hx, hxs⟩
    have hxs := of_decide_eq_true hxs
    obtain ⟨j, hj⟩ := List.getElem?_of_mem hx
    have hj1 : sAt l s ≤ j := by
      rcases Nat.lt_or_ge j (sAt l s) with c | c
      · have := c1 j x hj c
        omega
      · exact c
    have hj2 : sAt l s = j := by
      rcases Nat.lt_or_eq_of_le hj1 with c | c
      · exfalso
        have hjl := (List.getElem?_eq_some_iff.1 hj).1
        have h1 := c2 (sAt l s) _ (List.getElem?_eq_getElem (by omega)) (Nat.le_refl _)
        have h2 := List.pairwise_iff_getElem.1 hr (sAt l s) j (by omega) hjl c
        obtain ⟨_, e⟩ := List.getElem?_eq_some_iff.1 hj
        rw [e] at h2
        omega
      · exact c
    rw [hj2]
    exact ⟨x, hj, hxs⟩
  · rintro ⟨x, hx, hxs⟩
    exact ⟨x, List.mem_of_getElem? hx, decide_eq_true hxs⟩

end Go.Proofs.YtbhcafginmkaaaaGreat

namespace Go.Proofs.YtbhcafginmkaaaaGreat
open Go.RowKit

/-- The series of one name. -/
def ser (l : List TRec) (s : ByteArray) : List Bk := (l.filter fun x => decide (x.n = s)).map fun x => (x.s, x.a)

theorem ser_cons_same {x : TRec} {l : List TRec} {s : ByteArray} (h : x.n = s) : ser (x :: l) s = (x.s, x.a) :: ser l s := by
  unfold ser
  rw [List.filter_cons, if_pos (by simpa using h)]
  rfl
theorem ser_cons_other {x : TRec} {l : List TRec} {s : ByteArray} (h : x.n ≠ s) : ser (x :: l) s = ser l s := by
  unfold ser
  rw [List.filter_cons, if_neg (by simpa using h)]

theorem mem_ser {l : List TRec} {s : ByteArray} {b : Bk} : b ∈ ser l s ↔ (⟨s, b.1, b.2⟩ : TRec) ∈ l := by
  unfold ser
  rw [List.mem_map]
  constructor
  · rintro ⟨x, hx, rfl⟩
    obtain ⟨h1, h2⟩ := List.mem_filter.1 hx
    rw [← of_decide_eq_true h2]
    exact h1
  · intro h
    exact ⟨_, List.mem_filter.2 ⟨h, decide_eq_true rfl⟩, rfl⟩

theorem ser_rise {l : List TRec} (h : TSorted l) (s : ByteArray) : BRise (ser l s) := by
  unfold ser BRise
  rw [List.pairwise_map]
  refine (List.Pairwise.filter _ h).imp_of_mem fun {a b} ha hb hk => ?_
  have h1 := of_decide_eq_true (List.mem_filter.1 ha).2
  have h2 := of_decide_eq_true (List.mem_filter.1 hb).2
  rcases hk with hk | ⟨_, hk⟩
  · simp only [TRec.k] at hk
    rw [h1, h2] at hk
    exact absurd hk (nLt_irrefl _)
  · exact hk

theorem ser_good {l : List TRec} (h : TAll l) (ht : ∀ x ∈ l, TIn64 x.s) (s : ByteArray) : BAll (ser l s) := fun b hb => by
  have hm := mem_ser.1 hb
  exact ⟨(h _ hm).1, (h _ hm).2, ht _ hm⟩

/-- Two tables in order whose series are the same are the same. -/
theorem by_series {a b : List TRec} (ha : TSorted a) (hb : TSorted b) (h : ∀ s, ser a s = ser b s) : a = b :=
  sorted_same ha hb (fun x => by
    have k := h x.n
    have h1 := mem_ser (l := a) (s := x.n) (b := (x.s, x.a))
    have h2 := mem_ser (l := b) (s := x.n) (b := (x.s, x.a))
    rw [k] at h1
    exact h1.symm.trans h2)

theorem ser_ins {l : List TRec} (h : TSorted l) (r : TRec) (s : ByteArray) : ser (tIns l r) s = if r.n = s then sIns (ser l s) (r.s, r.a) else ser l s := by
  induction l with
  | nil =>
    show ser [r] s = _
    split
    · rw [ser_cons_same ‹_›]; rfl
    · rw [ser_cons_other ‹_›]
  | cons x l ih =>
    obtain ⟨h1, h2⟩ := List.pairwise_cons.1 h
    have i := ih h2
    unfold tIns
    split
    · rename_i hk
      have hk := kLtB_iff.1 hk
      by_cases hx : x.n = s
      · rw [ser_cons_same hx, i]
        split
        · rename_i hr
          rw [ser_cons_same hx, sIns, if_pos ?_]
          rcases hk with hk | ⟨_, hk⟩
          · simp only [TRec.k] at hk
            rw [hx, hr] at hk
            exact absurd hk (nLt_irrefl _)
          · exact hk
        · rw [ser_cons_same hx]
      · rw [ser_cons_other hx, i, ser_cons_other hx]
    · split
      · rename_i hk
        simp only [TRec.k, Prod.mk.injEq] at hk
        by_cases hx : x.n = s
        · rw [ser_cons_same (x := ⟨x.n, x.s, agBoth x.a r.a⟩) hx, ser_cons_same hx, if_pos (hk.1 ▸ hx), sIns, if_neg (by simp only [hk.2]; omega), if_pos hk.2]
          rfl
        · rw [ser_cons_other (x := ⟨x.n, x.s, agBoth x.a r.a⟩) hx, ser_cons_other hx, if_neg (fun c => hx (hk.1.trans c))]
      · rename_i hk hne
        have hrx : kLt r.k x.k := by
          rcases kLt_total hne with c | c
          · exact absurd (kLtB_iff.2 c) hk
          · exact c
        split
        · rename_i hr
          rw [ser_cons_same hr]
          -- all of that name begin behind it
          have hall : ∀ b ∈ ser (x :: l) s, r.s < b.1 := fun b hb => by
            have hm := mem_ser.1 hb
            have hlt : kLt r.k (⟨s, b.1, b.2⟩ : TRec).k := by
              rcases List.mem_cons.1 hm with c | c
              · rw [c]; exact hrx
              · exact kLt_trans hrx (h1 _ c)
            rcases hlt with c | ⟨_, c⟩
            · simp only [TRec.k] at c
              rw [hr] at c
              exact absurd c (nLt_irrefl _)
            · exact c
          cases hq : ser (x :: l) s with
          | nil => rfl
          | cons y ys =>
            have := hall y (by rw [hq]; exact List.mem_cons_self ..)
            rw [sIns, if_neg (by show ¬ y.1 < r.s; omega), if_neg (by show ¬ y.1 = r.s; omega)]
        · rw [ser_cons_other ‹_›]

theorem ser_adds {e : Int} {l rs : List TRec} (h : TSorted l) (s : ByteArray) : ser (tAdds e l rs) s = sAdds (ser l s) (ser (rs.filter (tOk e)) s) := by
  induction rs generalizing l with
  | nil => rfl
  | cons r rs ih =>
    show ser (tAdds e (tAdd e l r) rs) s = _
    rw [List.filter_cons]
    unfold tAdd
    split
    · rw [ih (tIns_sorted h), ser_ins h]
      split
      · rw [ser_cons_same ‹_›]; rfl
      · rw [ser_cons_other ‹_›]
    · exact ih h

def insAll (l rs : List TRec) : List TRec := rs.foldl tIns l

theorem insAll_sorted {l rs : List TRec} (h : TSorted l) : TSorted (insAll l rs) := by
  induction rs generalizing l with
  | nil => exact h
  | cons r rs ih => exact ih (tIns_sorted h)
theorem insAll_all {l rs : List TRec} (h : TAll l) (hr : TAll rs) : TAll (insAll l rs) := by
  induction rs generalizing l with
  | nil => exact h
  | cons r rs ih => exact ih (tIns_all h hr.head) hr.tail
theorem tW_insAll {P : TKey → Bool} {l rs : List TRec} (h : TAll l) (hr : TAll rs) : tW P (insAll l rs) = agJoin (tW P l) (tW P rs) := by
  induction rs generalizing l with
  | nil => exact (agJoin_zero_right _).symm
  | cons r rs ih =>
    show tW P (insAll (tIns l r) rs) = _
    rw [ih (tIns_all h hr.head) hr.tail, tW_ins h hr.head, tW_cons hr, agJoin_assoc (tW_good h) (tOne_good hr.head) (tW_good hr.tail)]

theorem insAll_perm {l rs ks : List TRec} (hs : TSorted l) (h : TAll l) (hr : TAll rs) (hp : rs.Perm ks) : insAll l rs = insAll l ks := by
  have hk : TAll ks := fun x hx => hr x (hp.mem_iff.2 hx)
  refine tables_same (insAll_sorted hs) (insAll_sorted hs) (insAll_all h hr) (insAll_all h hk) (fun P => ?_)
  rw [tW_insAll h hr, tW_insAll h hk, tW_perm hr hp]

/-- A bucket as a record of some name. -/
def bRec (b : Bk) : TRec := ⟨⟨#[]⟩, b.1, b.2⟩

theorem bRec_inj {a b : List Bk} (h : a.map bRec = b.map bRec) : a = b := (List.map_inj_right (fun x y e => by
  simp only [bRec, TRec.mk.injEq, true_and] at e
  exact Prod.ext e.1 e.2)).1 h

theorem kLtB_rec (x b : Bk) : kLtB (bRec x).k (bRec b).k = decide (x.1 < b.1) := by
  rw [Bool.eq_iff_iff, kLtB_iff, decide_eq_true_eq]
  constructor
  · rintro (c | ⟨_, c⟩)
    · exact absurd c (nLt_irrefl _)
    · exact c
  · exact fun c => .inr ⟨rfl, c⟩

theorem rec_ins (l : List Bk) (b : Bk) : (sIns l b).map bRec = tIns (l.map bRec) (bRec b) := by
  induction l with
  | nil => rfl
  | cons x l ih =>
    rw [List.map_cons, tIns, sIns, kLtB_rec]
    by_cases h1 : x.1 < b.1
    · rw [if_pos h1, if_pos (decide_eq_true h1), List.map_cons, ih]
    · rw [if_neg h1, if_neg (c := decide (x.1 < b.1) = true) (by rw [decide_eq_true_eq]; exact h1)]
      by_cases h2 : x.1 = b.1
      · rw [if_pos h2, if_pos (by simp [TRec.k, bRec, h2])]
        rfl
      · rw [if_neg h2, if_neg (by simp [TRec.k, bRec, h2])]
        rfl

theorem rec_adds (l fresh : List Bk) : (sAdds l fresh).map bRec = insAll (l.map bRec) (fresh.map bRec) := by
  induction fresh generalizing l with
  | nil => rfl
  | cons b fresh ih =>
    show (sAdds (sIns l b) fresh).map bRec = _
    rw [ih, rec_ins]
    rfl

/-- It does not matter in what order they are put to it. -/
theorem sAdds_perm {l f g : List Bk} (hr : BRise l) (hl : BAll l) (hf : BAll f) (h : f.Perm g) : sAdds l f = sAdds l g := by
  refine bRec_inj ?_
  rw [rec_adds, rec_adds]
  refine insAll_perm ?_ (fun x hx => ?_) (fun x hx => ?_) (h.map _)
  · unfold TSorted
    rw [List.pairwise_map]
    exact hr.imp fun c => .inr ⟨rfl, c⟩
  · obtain ⟨b, hb, rfl⟩ := List.mem_map.1 hx
    exact ⟨(hl b hb).1, (hl b hb).2.1⟩
  · obtain ⟨b, hb, rfl⟩ := List.mem_map.1 hx
    exact ⟨(hf b hb).1, (hf b hb).2.1⟩

/-- How many records have a name that p knows. -/
def cntN (l : List TRec) (p : ByteArray → Bool) : Nat := (l.filter fun x => p x.n).length

theorem cntN_none {l : List TRec} {p : ByteArray → Bool} (h : ∀ x ∈ l, p x.n = false) : cntN l p = 0 := by
  unfold cntN
  rw [List.filter_eq_nil_iff.2 (fun x hx => by rw [h x hx]; decide)]
  rfl
theorem cntN_le (l : List TRec) (p : ByteArray → Bool) : cntN l p ≤ l.length := List.length_filter_le ..

theorem ser_length (l : List TRec) (s : ByteArray) : (ser l s).length = cntN l (fun x => decide (x = s)) := by
  unfold ser cntN
  rw [List.length_map]

/-- One name more. -/
theorem cntN_more {l : List TRec} {p q : ByteArray → Bool} {s : ByteArray} (hp : p s = false) (hq : ∀ x, q x = (p x || decide (x = s))) : cntN l q = cntN l p + (ser l s).length := by
  rw [ser_length]
  unfold cntN
  induction l with
  | nil => rfl
  | cons x l ih =>
    rw [List.filter_cons, List.filter_cons, List.filter_cons]
    by_cases h1 : x.n = s
    · rw [if_pos (show q x.n = true by rw [hq, h1]; simp), if_neg (show ¬ p x.n = true by rw [h1, hp]; decide), if_pos (show decide (x.n = s) = true from decide_eq_true h1), List.length_cons, List.length_cons]
      omega
    · have e : q x.n = p x.n := by rw [hq]; simp [h1]
      rw [if_neg (c := decide (x.n = s) = true) (by rw [decide_eq_true_eq]; exact h1)]
      by_cases h2 : p x.n = true
      · rw [if_pos (e.trans h2), if_pos h2, List.length_cons, List.length_cons]
        omega
      · rw [if_neg (by rw [e]; exact h2), if_neg h2]
        exact ih

theorem ser_filter_name {l : List TRec} (p : ByteArray → Bool) (s : ByteArray) : ser (l.filter fun x => p x.n) s = if p s = true then ser l s else [] := by
  induction l with
  | nil => split <;> rfl
  | cons x l ih =>
    rw [List.filter_cons]
    by_cases hx : x.n = s
    · by_cases hp : p s = true
      · rw [if_pos hp] at ih ⊢
        rw [if_pos (by rw [hx]; exact hp), ser_cons_same hx, ser_cons_same hx, ih]
      · rw [if_neg hp] at ih ⊢
        rw [if_neg (by rw [hx]; exact hp)]
        exact ih
    · rw [ser_cons_other hx]
      by_cases hp : p x.n = true
      · rw [if_pos hp, ser_cons_other hx]; exact ih
      · rw [if_neg hp]; exact ih

theorem ser_filter_start {l : List TRec} (p : Int → Bool) (s : ByteArray) : ser (l.filter fun x => p x.s) s = (ser l s).filter fun b => p b.1 := by
  induction l with
  | nil => rfl
  | cons x l ih =>
    rw [List.filter_cons]
    by_cases hx : x.n = s
    · rw [ser_cons_same hx, List.filter_cons]
      by_cases hp : p x.s = true
      · rw [if_pos hp, if_pos hp, ser_cons_same hx, ih]
      · rw [if_neg hp, if_neg hp]; exact ih
    · rw [ser_cons_other hx]
      by_cases hp : p x.s = true
      · rw [if_pos hp, ser_cons_other hx]; exact ih
      · rw [if_neg hp]; exact ih

/-- A series' buckets as records. -/
def sRecs (s : ByteArray) (l : List Bk) : List TRec := l.map fun b => ⟨s, b.1, b.2⟩

theorem sRecs_ser (l : List TRec) (s : ByteArray) : sRecs s (ser l s) = l.filter fun x => decide (x.n = s) := by
  unfold sRecs ser
  rw [List.map_map]
  have : ∀ x ∈ l.filter (fun x => decide (x.n = s)), ((fun b : Bk => (⟨s, b.1, b.2⟩ : TRec)) ∘ fun x => (x.s, x.a)) x = x := fun x hx => by
    have := of_decide_eq_true (List.mem_filter.1 hx).2
    show (⟨s, x.s, x.a⟩ : TRec) = x
    rw [← this]
  exact (List.map_congr_left this).trans (List.map_id _)

/-- The series of rising names, one behind the other, are the records of these names, in order. -/
theorem recs_of {l : List TRec} (h : TSorted l) (ss : List ByteArray) (hr : Rising ss) : (ss.flatMap fun s => sRecs s (ser l s)) = l.filter fun x => ss.any fun s => decide (x.n = s) := by
  refine sorted_same ?_ (List.Pairwise.filter _ h) (fun x => ?_)
  · unfold TSorted
    rw [List.pairwise_flatMap]
    refine ⟨fun s _ => ?_, List.Pairwise.imp_of_mem ?_ hr⟩
    · rw [sRecs_ser]
      exact List.Pairwise.filter _ h
    · intro a b _ _ hab x hx y hy
      rw [sRecs_ser] at hx hy
      refine .inl ?_
      show nLt x.n y.n
      rw [of_decide_eq_true (List.mem_filter.1 hx).2, of_decide_eq_true (List.mem_filter.1 hy).2]
      exact hab
  · rw [List.mem_flatMap, List.mem_filter, List.any_eq_true]
    constructor
    · rintro ⟨s, hs, hx⟩
      rw [sRecs_ser] at hx
      obtain ⟨h1, h2⟩ := List.mem_filter.1 hx
      exact ⟨h1, s, hs, h2⟩
    · rintro ⟨h1, s, hs, h2⟩
      refine ⟨s, hs, ?_⟩
      rw [sRecs_ser]
      exact List.mem_filter.2 ⟨h1, h2⟩

end Go.Proofs.YtbhcafginmkaaaaGreat
