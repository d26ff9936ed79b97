/-
  Plain facts on what a series has between two times.
-/
import Derived.Test.YtnohmloilcpmiaaQ25
namespace Go.Proofs.Ytnohmloilcpmiaa
open Go.RowKit Go.Lib

/-- Records of one series that stand in order rise. -/
theorem tRange_rise {l : List TRec} (h : TSorted l) (n : ByteArray) (f t : Int) : (tRange l n f t).Pairwise (fun x y => x.s < y.s) := by
  refine List.Pairwise.imp_of_mem ?_ (List.Pairwise.filter _ h)
  intro x y hx hy hk
  have ex := (List.mem_filter.1 hx).2
  have ey := (List.mem_filter.1 hy).2
  simp only [Bool.and_eq_true, decide_eq_true_eq] at ex ey
  rcases hk with hk | ⟨_, hk⟩
  · have e : x.n = y.n := by rw [ex.1.1, ey.1.1]
    simp only [TRec.k] at hk
    rw [e] at hk
    exact absurd hk (nLt_irrefl _)
  · exact hk

theorem tRange_mem {l : List TRec} {n : ByteArray} {f t : Int} {x : TRec} (h : x ∈ tRange l n f t) : x ∈ l ∧ x.n = n ∧ f ≤ x.s ∧ x.s < t := by
  obtain ⟨h1, h2⟩ := List.mem_filter.1 h
  simp only [Bool.and_eq_true, decide_eq_true_eq] at h2
  exact ⟨h1, h2.1.1, h2.1.2, h2.2⟩

theorem cut_two {l : List TRec} (h : l.Pairwise (fun x y => x.s < y.s)) {f m t : Int} (hf : f ≤ m) (ht : m ≤ t) :
    (l.filter fun x => decide (f ≤ x.s) && decide (x.s < m)) ++ (l.filter fun x => decide (m ≤ x.s) && decide (x.s < t)) = l.filter fun x => decide (f ≤ x.s) && decide (x.s < t) := by
  induction l with
  | nil => rfl
  | cons x l ih =>
    obtain ⟨h1, h2⟩ := List.pairwise_cons.1 h
    rw [List.filter_cons, List.filter_cons, List.filter_cons]
    by_cases c : x.s < m
    · by_cases d : f ≤ x.s
      · rw [if_pos (by simp [c, d]), if_neg (by simp; omega), if_pos (by simp [d]; omega), List.cons_append, ih h2]
      · rw [if_neg (by simp; omega), if_neg (by simp; omega), if_neg (by simp; omega), ih h2]
    · have e : (l.filter fun y => decide (f ≤ y.s) && decide (y.s < m)) = [] := List.filter_eq_nil_iff.2 (fun y hy => by
        have := h1 y hy
        simp
        omega)
      have e2 : (l.filter fun y => decide (m ≤ y.s) && decide (y.s < t)) = l.filter fun y => decide (f ≤ y.s) && decide (y.s < t) := List.filter_congr (fun y hy => by
        have := h1 y hy
        rw [decide_eq_true (show m ≤ y.s by omega), decide_eq_true (show f ≤ y.s by omega)])
      rw [if_neg (by simp; omega), e, e2, List.nil_append]
      by_cases d : x.s < t
      · rw [if_pos (by simp [d]; omega), if_pos (by simp [d]; omega)]
      · rw [if_neg (by simp; omega), if_neg (by simp; omega)]

/-- Of times cut in two what a series has is that of both parts. -/
theorem tRange_cut {l : List TRec} (h : TSorted l) (n : ByteArray) {f m t : Int} (hf : f ≤ m) (ht : m ≤ t) : tRange l n f m ++ tRange l n m t = tRange l n f t := by
  have hr : (l.filter fun x => decide (x.n = n)).Pairwise (fun x y => x.s < y.s) := by
    refine List.Pairwise.imp_of_mem ?_ (List.Pairwise.filter _ h)
    intro x y hx hy hk
    have ex := of_decide_eq_true (List.mem_filter.1 hx).2
    have ey := of_decide_eq_true (List.mem_filter.1 hy).2
    rcases hk with hk | ⟨_, hk⟩
    · simp only [TRec.k] at hk
      rw [ex, ey] at hk
      exact absurd hk (nLt_irrefl _)
    · exact hk
  have key : ∀ a b, tRange l n a b = (l.filter fun x => decide (x.n = n)).filter fun x => decide (a ≤ x.s) && decide (x.s < b) := fun a b => by
    rw [List.filter_filter]
    unfold tRange
    refine List.filter_congr fun x _ => ?_
    rw [Bool.and_assoc, Bool.and_comm]
  rw [key, key, key]
  exact cut_two hr hf ht

/-- A record's start is on its table's grid. -/
theorem made_on {l : List TRec} {e : Int} (h : TMade l e) {x : TRec} (hx : x ∈ l) : 0 ≤ x.s ∧ x.s.tmod e = 0 := by
  have h1 := h.ok x hx
  unfold tOk at h1
  simp only [Bool.and_eq_true, decide_eq_true_eq] at h1
  refine ⟨h1.1.1.2, ?_⟩
  have h2 := (gOn_dvd.1 h1.1.2).2
  exact Int.tmod_eq_zero_of_dvd h2

end Go.Proofs.Ytnohmloilcpmiaa
