/-
  A bundle of texts: TAL TDR TSH TFI TRM.
-/
import Derived.Deep.RegionHeld3
import Derived.Deep.QuietTactic
import Derived.BigQuiet
import Derived.Deep.DeepCutAuto
import Derived.Test.YtbhcafginmkaaaaGreatN21
import Derived.Test.YtbhcafginmkaaaaGreatN14
namespace Go.Proofs.YtbhcafginmkaaaaGreat
open Go.RowKit Go.Lib

def ta (s : Int) (a : Ag) : TRec := ⟨⟨#[97]⟩, s, a⟩
def g1 : Ag := ⟨1, 0, 1, 1, 1⟩
def g3 : Ag := ⟨1, 0, 3, 3, 3⟩
theorem ints_1 (x : Int) (h : -9223372036854775808 ≤ x ∧ x ≤ 9223372036854775807) : Ints [x] := fun y hy => by rw [List.mem_singleton.1 hy]; exact h

theorem num_1 (w : World) (x : Int) (T : TypeId) : NumRow .i64 (w.alloc (.cells #[.int .i64 x] T)) (.slice (some ⟨w.heap.size, 0, none⟩) 1 1) [x] :=
  CellRow.ints (xs := [x]) ⟨_, _, rfl, .inr ⟨w.heap.size, 0, rfl, by simp, new_cells w #[.int .i64 x] T⟩⟩

end Go.Proofs.YtbhcafginmkaaaaGreat

namespace Go.Proofs.YtbhcafginmkaaaaGreat
open Go.RowKit Go.Lib

theorem tIns_len (l : List TRec) (r : TRec) : (tIns l r).length ≤ l.length + 1 := by
  induction l with
  | nil => simp [tIns]
  | cons x l ih =>
    unfold tIns
    split
    · simp only [List.length_cons]; omega
    · split
      · simp only [List.length_cons]; omega
      · simp only [List.length_cons]; omega

theorem tAdds_len (e : Int) (l rs : List TRec) : (tAdds e l rs).length ≤ l.length + rs.length := by
  induction rs generalizing l with
  | nil => exact Nat.le_refl _
  | cons r rs ih =>
    have h1 := ih (tAdd e l r)
    have h2 : (tAdd e l r).length ≤ l.length + 1 := by
      unfold tAdd
      split
      · exact tIns_len l r
      · omega
    have h3 : tAdds e l (r :: rs) = tAdds e (tAdd e l r) rs := rfl
    rw [h3, List.length_cons]
    omega

end Go.Proofs.YtbhcafginmkaaaaGreat

namespace Go.Proofs.YtbhcafginmkaaaaGreat
open Go.RowKit Go.Lib

/-- How many records are in the first k shards. -/
def tUpto (L : List TRec) (n : Int) (k : Nat) : Nat := (L.filter fun x => decide (nShard x.n n < (k : Int))).length
/-- What the first k shards need. -/
def tNeedTo (L : List TRec) (n : Int) (k : Nat) : Nat := ((List.range k).map fun j : Nat => ((tShard L (j : Int) n).length + 2) / 3).sum

theorem filter_split {α : Type} (P Q R : α → Bool) (l : List α) (h : ∀ x, P x = (Q x || R x)) (hd : ∀ x, Q x = true → R x = true → False) : (l.filter P).length = (l.filter Q).length + (l.filter R).length := by
  induction l with
  | nil => rfl
  | cons x l ih =>
    rw [List.filter_cons, List.filter_cons, List.filter_cons, h x]
    cases hq : Q x <;> cases hr : R x
    · simpa using ih
    · simp [ih]; omega
    · simp [ih]; omega
    · exact (hd x hq hr).elim

theorem tUpto_succ (L : List TRec) (n : Int) (k : Nat) : tUpto L n (k + 1) = tUpto L n k + (tShard L (k : Int) n).length := by
  unfold tUpto tShard
  refine filter_split _ _ _ L (fun x => ?_) (fun x h1 h2 => ?_)
  · rw [Bool.eq_iff_iff, Bool.or_eq_true, decide_eq_true_eq, decide_eq_true_eq, decide_eq_true_eq]
    omega
  · simp only [decide_eq_true_eq] at h1 h2
    omega

theorem tUpto_zero (L : List TRec) (n : Int) (hn : 1 ≤ n) : tUpto L n 0 = 0 := by
  unfold tUpto
  rw [List.filter_eq_nil_iff.2 (fun x _ => by have := (nShard_in x.n n hn).1; simp; omega)]
  rfl

theorem tUpto_all (L : List TRec) (n : Int) (hn : 1 ≤ n) (k : Nat) (hk : n ≤ (k : Int)) : tUpto L n k = L.length := by
  unfold tUpto
  rw [List.filter_eq_self.2 (fun x _ => by have := (nShard_in x.n n hn).2; simp; omega)]

theorem tNeedTo_bounds (L : List TRec) (n : Int) (hn : 1 ≤ n) (k : Nat) : tUpto L n k ≤ 3 * tNeedTo L n k ∧ tNeedTo L n k ≤ tUpto L n k := by
  induction k with
  | zero =>
    rw [tUpto_zero L n hn]
    exact ⟨Nat.zero_le _, Nat.le_refl _⟩
  | succ k ih =>
    have h : tNeedTo L n (k + 1) = tNeedTo L n k + ((tShard L (k : Int) n).length + 2) / 3 := by
      unfold tNeedTo
      rw [List.range_succ, List.map_append, List.sum_append]
      simp
    rw [h, tUpto_succ L n k]
    omega

theorem tNeed_bounds (L : List TRec) (n : Int) (hn : 1 ≤ n) : L.length ≤ 3 * tNeed L n ∧ tNeed L n ≤ L.length := by
  have h := tNeedTo_bounds L n hn (max n 1).toNat
  rw [tUpto_all L n hn _ (by omega)] at h
  exact h

end Go.Proofs.YtbhcafginmkaaaaGreat

namespace Go.Proofs.YtbhcafginmkaaaaGreat
open Go.RowKit Go.Lib

theorem tAdds_s {Q : Int → Prop} {e : Int} {l rs : List TRec} (hl : ∀ x ∈ l, Q x.s) (hr : ∀ x ∈ rs, Q x.s) : ∀ x ∈ tAdds e l rs, Q x.s := by
  induction rs generalizing l with
  | nil => exact hl
  | cons r rs ih =>
    refine ih (l := tAdd e l r) ?_ (fun x hx => hr x (List.mem_cons_of_mem _ hx))
    unfold tAdd
    split
    · intro y hy
      rcases tIns_key hy with c | ⟨z, hz, c⟩
      · simp only [TRec.k, Prod.mk.injEq] at c
        rw [c.2]
        exact hr r (List.mem_cons_self ..)
      · simp only [TRec.k, Prod.mk.injEq] at c
        rw [c.2]
        exact hl z hz
    · exact hl

/-- What is known of a table that was made by adding. -/
structure TMade (L : List TRec) (e : Int) : Prop where
  so : TSorted L
  al : TAll L
  ok : ∀ x ∈ L, tOk e x = true
  s64 : ∀ x ∈ L, TIn64 x.s

theorem made_of {e : Int} {rs : List TRec} (h : ∀ r ∈ rs, TFit r) : TMade (tAdds e [] rs) e :=
  ⟨tAdds_sorted sorted_nil, tAdds_all all_nil (fun r hr => (h r hr).2.2), tAdds_ok (fun _ hx => absurd hx List.not_mem_nil) (fun r hr => (h r hr).2.2) all_nil, tAdds_s (fun _ hx => absurd hx List.not_mem_nil) (fun r hr => (h r hr).2.1)⟩

theorem TMade.name {L : List TRec} {e : Int} (h : TMade L e) {x : TRec} (hx : x ∈ L) : nOk x.n = true ∧ x.n.size ≤ 15 := by
  have h1 := h.ok x hx
  unfold tOk at h1
  simp only [Bool.and_eq_true, decide_eq_true_eq] at h1
  refine ⟨h1.1.1.1, ?_⟩
  have h2 := h1.1.1.1
  unfold nOk at h2
  simp only [Bool.and_eq_true, decide_eq_true_eq] at h2
  exact h2.1.2

theorem TMade.none {L : List TRec} {e : Int} (h : TMade L e) {n : ByteArray} (hn : nOk n = false) (s : Int) : tHas L (n, s) = false := by
  unfold tHas
  rw [List.any_eq_false]
  intro x hx
  simp only [decide_eq_true_eq]
  intro c
  have h1 := (h.name hx).1
  simp only [TRec.k, Prod.mk.injEq] at c
  rw [c.1, hn] at h1
  cases h1

end Go.Proofs.YtbhcafginmkaaaaGreat

namespace Go.Proofs.YtbhcafginmkaaaaGreat
open Go.RowKit Go.Lib

theorem roll_len (e : Int) (L : List TRec) (e' f : Int) : (tRoll e L e' f).length ≤ L.length := by
  unfold tRoll
  split
  · refine Nat.le_trans (tAdds_len _ _ _) ?_
    have := List.length_filter_le (fun x : TRec => decide (f ≤ x.s)) (L.map (tFl (max e' 1)))
    rw [List.length_map] at this
    simpa using this
  · exact Nat.zero_le _

end Go.Proofs.YtbhcafginmkaaaaGreat
