/-
  Laws of no program: a region that draws its order, whose operations each leave a fact that later growth keeps: any order will do, and each operation is looked at once.
-/
import Derived.RegionTactic
import Derived.Test.YtokjlmkegdickaaQ04
namespace Go.Proofs.Ytokjlmkegdickaa
open Go.RowKit Go.Lib

/-- What is known of a value, and stays known as the world grows. -/
structure Fact where
  holds : World → Value → Prop
  mono : ∀ {w w' : World} {v : Value}, Below w.heap.size w w' → holds w v → holds w' v

/-- It is c. -/
def Fact.is (c : Value) : Fact := ⟨fun _ v => v = c, fun _ h => h⟩

/-- Nothing is known. -/
def Fact.any : Fact := ⟨fun _ _ => True, fun _ h => h⟩

section
variable {P : Program} {ops : Array Oper} {Q : Exit → Act → World → Prop}

/-- The slot that operation i writes. -/
def slotOf (ops : Array Oper) (i : Nat) : Option Tmp := (ops[i]?).bind (·.dst)

/-- Each slot is written once, is one of n, and each operation waits for earlier ones alone. -/
def orderlyB (ops : Array Oper) (n : Nat) : Bool :=
  (ops.toList.filterMap (·.dst)).Nodup ∧ (ops.toList.all fun o => match o.dst with | some t => decide (t < n) | none => false) = true ∧
  ((List.range ops.size).all fun i => match ops[i]? with | some o => o.after.all fun e => decide (e.on < i) | none => true) = true

theorem slotOf_some {i : Nat} {t : Tmp} (h : slotOf ops i = some t) : ∃ o, ops[i]? = some o ∧ o.dst = some t := by
  unfold slotOf at h
  cases ho : ops[i]? with
  | none => rw [ho] at h; cases h
  | some o => rw [ho] at h; exact ⟨o, rfl, h⟩

theorem nodup_at {l : List Oper} (h : (l.filterMap (·.dst)).Nodup) : ∀ {i j : Nat} {o o' : Oper} {t : Tmp}, l[i]? = some o → l[j]? = some o' → o.dst = some t → o'.dst = some t → i = j := by
  induction l with
  | nil => intro i j o o' t hi; simp at hi
  | cons x l ih =>
    intro i j o o' t hi hj ho ho'
    have mem : ∀ {k : Nat} {y : Oper}, l[k]? = some y → y.dst = some t → t ∈ l.filterMap (·.dst) := fun hk hy => List.mem_filterMap.2 ⟨_, List.mem_of_getElem? hk, hy⟩
    have htl : (l.filterMap (·.dst)).Nodup := by
      cases hx : x.dst with
      | none => rwa [List.filterMap_cons_none hx] at h
      | some d => rw [List.filterMap_cons_some hx] at h; exact (List.nodup_cons.1 h).2
    have hx0 : x.dst = some t → t ∉ l.filterMap (·.dst) := fun hx => by
      rw [List.filterMap_cons_some hx] at h
      exact (List.nodup_cons.1 h).1
    cases i with
    | zero =>
      cases j with
      | zero => rfl
      | succ j =>
        simp at hi hj
        subst hi
        exact absurd (mem hj ho') (hx0 ho)
    | succ i =>
      cases j with
      | zero =>
        simp at hi hj
        subst hj
        exact absurd (mem hi ho) (hx0 ho')
      | succ j =>
        simp at hi hj
        rw [ih htl hi hj ho ho']

/-- What holds wherever the walk through the region stands. -/
def Freely (ops : Array Oper) (a0 : Act) (W0 : World) (F : Nat → Fact) (listed : Array Bool) (a : Act) (w : World) : Prop :=
  Below W0.heap.size W0 w ∧ a.defers = a0.defers ∧ a.tmps.size = a0.tmps.size ∧ (∀ t, (∀ i, slotOf ops i ≠ some t) → a.tmps[t]? = a0.tmps[t]?) ∧
  ∀ i t, listed.getD i false = true → slotOf ops i = some t → ∃ v, a.tmps[t]? = some v ∧ (F i).holds w v

/-- One operation. -/
def FreeStep (P : Program) (ops : Array Oper) (Q : Exit → Act → World → Prop) (a0 : Act) (W0 : World) (F : Nat → Fact) (i : Nat) (o : Oper) : Prop :=
  ∀ (a : Act) (w : World), Below W0.heap.size W0 w → (∀ t, (∀ i, slotOf ops i ≠ some t) → a.tmps[t]? = a0.tmps[t]?) →
    (∀ j t, (o.after.any fun e => Region.binds .any e && e.on == j) = true → slotOf ops j = some t → ∃ v, a.tmps[t]? = some v ∧ (F j).holds w v) →
    Region.wanted o (yielded ops a.tmps) = true ∧ o.wp P a w (fun a' w' => ∃ v, a' = a.put o.dst v ∧ Below w.heap.size w w' ∧ (F i).holds w' v) Q

theorem Freely.put {a0 : Act} {W0 : World} {F : Nat → Fact} {listed : Array Bool} {a : Act} {w w' : World} {i : Nat} {o : Oper} {v : Value} (hord : orderlyB ops a0.tmps.size = true)
    (h : Freely ops a0 W0 F listed a w) (ho : ops[i]? = some o) (hb : Below w.heap.size w w') (hv : (F i).holds w' v) : Freely ops a0 W0 F (listed.setIfInBounds i true) (a.put o.dst v) w' := by
  obtain ⟨h1, h2, h3, h4, h5⟩ := h
  have hs : slotOf ops i = o.dst := by unfold slotOf; rw [ho]; rfl
  simp only [orderlyB, Bool.decide_and, Bool.and_eq_true, decide_eq_true_eq] at hord
  obtain ⟨hnd, hlt, _⟩ := hord
  have hm : o ∈ ops.toList := List.mem_of_getElem? (by rw [Array.getElem?_toList]; exact ho)
  have hd : ∃ d, o.dst = some d ∧ d < a0.tmps.size := by
    have := List.all_eq_true.1 hlt o hm
    cases hd : o.dst with
    | none => rw [hd] at this; cases this
    | some d => rw [hd] at this; exact ⟨d, rfl, by simpa using this⟩
  obtain ⟨d, hd, hdl⟩ := hd
  rw [hd]
  refine ⟨h1.trans (hb.mono h1.size), h2, by simp [Act.put, h3], ?_, ?_⟩
  · intro t ht
    have : d ≠ t := fun e => ht i (by rw [hs, hd, e])
    simp only [Act.put]
    rw [Array.getElem?_setIfInBounds_ne this]
    exact h4 t ht
  · intro j t hj hjt
    by_cases e : j = i
    · subst e
      rw [hs, hd] at hjt
      cases hjt
      exact ⟨v, by simp [Act.put, h3, hdl], hv⟩
    · have hjl : listed.getD j false = true := by
        have : (listed.setIfInBounds i true).getD j false = listed.getD j false := by
          simp [Array.getElem?_setIfInBounds_ne (Ne.symm e)]
        rwa [this] at hj
      obtain ⟨u, hu, hf⟩ := h5 j t hjl hjt
      have hne : d ≠ t := by
        intro e2
        subst e2
        obtain ⟨o', ho', hd'⟩ := slotOf_some hjt
        exact e (nodup_at hnd (by rw [Array.getElem?_toList]; exact ho') (by rw [Array.getElem?_toList]; exact ho) hd' hd)
      exact ⟨u, by simp only [Act.put]; rw [Array.getElem?_setIfInBounds_ne hne]; exact hu, (F j).mono hb hf⟩

theorem wpAny_freely {a0 : Act} {W0 : World} {F : Nat → Fact} (hord : orderlyB ops a0.tmps.size = true) (steps : ∀ (i : Nat) (o : Oper), ops[i]? = some o → FreeStep P ops Q a0 W0 F i o)
    (hQ : ∀ a w, Freely ops a0 W0 F (Array.replicate ops.size true) a w → Q .normal a w) :
    ∀ (fuel : Nat) (listed : Array Bool) (a : Act) (w : World), listed.size = ops.size → (∃ L : List Nat, L.length ≤ fuel ∧ ∀ i, i < ops.size → listed.getD i false = false → i ∈ L) →
      Freely ops a0 W0 F listed a w → wpAny P .any ops Q fuel listed a w := by
  have hback : ∀ (i : Nat) (o : Oper), ops[i]? = some o → ∀ e : Edge, e ∈ o.after → e.on < i := by
    intro i o ho e he
    simp only [orderlyB, Bool.decide_and, Bool.and_eq_true, decide_eq_true_eq] at hord
    have h := List.all_eq_true.1 hord.2.2 i (List.mem_range.2 (Array.getElem?_eq_some_iff.1 ho).1)
    rw [ho] at h
    have := Array.all_eq_true'.1 h e he
    simpa using this
  have full : ∀ (listed : Array Bool) (a : Act) (w : World), (∀ i, i < ops.size → listed.getD i false = true) → Freely ops a0 W0 F listed a w → Q .normal a w := by
    intro listed a w hall h
    refine hQ a w ⟨h.1, h.2.1, h.2.2.1, h.2.2.2.1, fun i t hi hs => h.2.2.2.2 i t (hall i ?_) hs⟩
    obtain ⟨o, ho, _⟩ := slotOf_some hs
    exact (Array.getElem?_eq_some_iff.1 ho).1
  have none_ready : ∀ (listed : Array Bool), listed.size = ops.size → Region.ready .any ops listed = [] → ∀ i, i < ops.size → listed.getD i false = true := by
    intro listed hsz hr i
    induction i using Nat.strongRecOn with
    | _ i ih =>
      intro hi
      by_cases hl : listed.getD i false = true
      · exact hl
      · exfalso
        obtain ⟨o, ho⟩ : ∃ o, ops[i]? = some o := ⟨ops[i], Array.getElem?_eq_getElem hi⟩
        have hm : i ∈ Region.ready .any ops listed := by
          refine mem_ready.2 ⟨?_, o, ho, fun e he _ => ?_⟩
          · have : i < listed.size := by omega
            simp [this] at hl ⊢
            exact hl
          · have := hback i o ho e he
            exact ih e.on this (by omega)
        rw [hr] at hm
        cases hm
  intro fuel
  induction fuel with
  | zero =>
    intro listed a w hsz ⟨L, hL, hLm⟩ h
    have hall : ∀ i, i < ops.size → listed.getD i false = true := by
      intro i hi
      by_cases hl : listed.getD i false = true
      · exact hl
      · have hnil : L = [] := List.eq_nil_of_length_eq_zero (by omega)
        have := hLm i hi (by simpa using hl)
        rw [hnil] at this
        cases this
    refine ⟨?_, full listed a w hall h⟩
    cases hr : Region.ready .any ops listed with
    | nil => rfl
    | cons i r =>
      have hm : i ∈ Region.ready .any ops listed := by rw [hr]; simp
      obtain ⟨hl, o, ho, _⟩ := mem_ready.1 hm
      have hi := (Array.getElem?_eq_some_iff.1 ho).1
      have h2 := hall i hi
      have : i < listed.size := by omega
      simp [this] at hl h2
      rw [hl] at h2
      cases h2
  | succ fuel ih =>
    intro listed a w hsz ⟨L, hL, hLm⟩ h
    refine ⟨fun hr => full listed a w (none_ready listed hsz hr) h, fun i hi => ?_⟩
    obtain ⟨hl, o, ho, hdeps⟩ := mem_ready.1 hi
    have his := (Array.getElem?_eq_some_iff.1 ho).1
    have hlf : listed.getD i false = false := by
      have : i < listed.size := by omega
      simp [this] at hl ⊢
      exact hl
    obtain ⟨hw, hwp⟩ := steps i o ho a w h.1 h.2.2.2.1 (by
      intro j t hj hs
      refine h.2.2.2.2 j t ?_ hs
      rw [Array.any_eq_true'] at hj
      obtain ⟨e, he, hb⟩ := hj
      simp only [Bool.and_eq_true, beq_iff_eq] at hb
      rw [← hb.2]
      exact hdeps e he hb.1)
    unfold wpOp
    rw [ho]
    simp only [hw, if_true]
    refine .inl (Oper.wp_mono ?_ hwp)
    rintro a' w' ⟨v, rfl, hb, hv⟩
    refine ih _ _ _ (by simp [hsz]) ⟨L.erase i, ?_, ?_⟩ (h.put hord ho hb hv)
    · have := List.length_erase_of_mem (hLm i his hlf)
      omega
    · intro j hj hjl
      by_cases e : j = i
      · subst e
        have : j < listed.size := by omega
        simp [this] at hjl
      · refine (List.mem_erase_of_ne e).2 (hLm j hj ?_)
        have : (listed.setIfInBounds i true).getD j false = listed.getD j false := by
          simp [Array.getElem?_setIfInBounds_ne (Ne.symm e)]
        rwa [this] at hjl

/-- One operation after the other. -/
def AllSteps (P : Program) (ops : Array Oper) (Q : Exit → Act → World → Prop) (a0 : Act) (W0 : World) (F : Nat → Fact) : Nat → List Oper → Prop
  | _, [] => True
  | k, o :: r => FreeStep P ops Q a0 W0 F k o ∧ AllSteps P ops Q a0 W0 F (k + 1) r

theorem allSteps_at {a0 : Act} {W0 : World} {F : Nat → Fact} : ∀ {l : List Oper} {k : Nat}, AllSteps P ops Q a0 W0 F k l → ∀ (i : Nat) (o : Oper), l[i]? = some o → FreeStep P ops Q a0 W0 F (k + i) o
  | [], _, _, i, o, h => by simp at h
  | x :: r, k, hs, 0, o, h => by
    simp at h
    subst h
    exact hs.1
  | x :: r, k, hs, i + 1, o, h => by
    have := allSteps_at hs.2 i o (by simpa using h)
    have e : k + 1 + i = k + (i + 1) := by omega
    rwa [e] at this

theorem steps_of {a0 : Act} {W0 : World} {F : Nat → Fact} (h : AllSteps P ops Q a0 W0 F 0 ops.toList) (i : Nat) (o : Oper) (ho : ops[i]? = some o) : FreeStep P ops Q a0 W0 F i o := by
  have := allSteps_at h i o (by rw [Array.getElem?_toList]; exact ho)
  rwa [Nat.zero_add] at this

theorem not_dst {t : Nat} (h : (ops.toList.filterMap (·.dst)).contains t = false) (i : Nat) : slotOf ops i ≠ some t := by
  intro hs
  obtain ⟨o, ho, hd⟩ := slotOf_some hs
  have : t ∈ ops.toList.filterMap (·.dst) := List.mem_filterMap.2 ⟨o, List.mem_of_getElem? (by rw [Array.getElem?_toList]; exact ho), hd⟩
  rw [← List.contains_iff_mem, h] at this
  cases this

theorem wanted_plain {o : Oper} {y : Nat → Option Bool} (h : o.guard = none) : Region.wanted o y = true := by
  unfold Region.wanted
  rw [h]

theorem wanted_guard {o : Oper} {a : Act} {j t : Nat} {b : Bool} (h : o.guard = some (j, b)) (hs : slotOf ops j = some t) (ht : a.tmps[t]? = some (.bool b)) : Region.wanted o (yielded ops a.tmps) = true := by
  unfold Region.wanted yielded
  rw [h]
  unfold slotOf at hs
  simp [hs, ht]

theorem eval_of {a : Act} {t : Nat} {v : Value} (h : a.tmps[t]? = some v) : a.eval (.tmp t) = v := by
  simp [Act.eval, h]

/-- A region that draws its order. -/
theorem wp_region_freely {id : Nat} {a : Act} {w : World} (hm : P.follows .mixedOrders = true) (F : Nat → Fact) (hord : orderlyB ops a.tmps.size = true)
    (steps : ∀ (i : Nat) (o : Oper), ops[i]? = some o → FreeStep P ops Q a w.drew F i o) (hQ : ∀ a' w', Freely ops a w.drew F (Array.replicate ops.size true) a' w' → Q .normal a' w') : (Code.region id ops true).wp P Q a w := by
  refine wp_region_any hm (wpAny_freely hord steps hQ ops.size _ a w.drew (by simp) ⟨List.range ops.size, by simp, fun i hi _ => List.mem_range.2 hi⟩ ?_)
  refine ⟨Below.refl _ _, rfl, rfl, fun _ _ => rfl, fun i t hi _ => ?_⟩
  exfalso
  by_cases h : i < ops.size
  · simp [h] at hi
  · simp [h] at hi
end

end Go.Proofs.Ytokjlmkegdickaa
