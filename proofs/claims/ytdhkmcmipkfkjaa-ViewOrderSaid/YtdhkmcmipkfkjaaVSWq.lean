/-
  Two samples of a row of one's own are swapped; a place that an int tells.
-/
import Derived.StillTailTactics
import Derived.Deep.MidRow
import Derived.Test.YtdhkmcmipkfkjaaQ15
import Derived.Test.YtdhkmcmipkfkjaaQ12
import Derived.Test.YtdhkmcmipkfkjaaQ10
import Derived.Test.YtdhkmcmipkfkjaaQ02
namespace Go.Proofs.Ytdhkmcmipkfkjaa
open Go.RowKit Go.Lib

theorem vflat_set {α : Type} {enc : α → List Value} {s : Nat} (h : ∀ x, (enc x).length = s) (l : List α) (k : Nat) (m : α) (hk : k < l.length) : setMany (flat enc l) (k * s) (enc m) = flat enc (l.set k m) := by
  have hbig := Nat.mul_le_mul_right s (show k + 1 ≤ l.length by omega)
  have e1 : k * s + s = (k + 1) * s := by rw [Nat.add_mul, Nat.one_mul]
  rw [setMany_eq _ _ _ (by rw [flat_length h, h]; omega), h, flat_take h, e1, flat_drop h, ← flat_one (enc := enc) m, ← flat_append, ← flat_append]
  congr 1
  rw [List.set_eq_take_append_cons_drop, if_pos hk]
  simp

theorem vswap_perm {α : Type} {l : List α} {a b : Nat} {x y : α} (hx : l[a]? = some x) (hy : l[b]? = some y) : ((l.set a y).set b x).Perm l := by
  obtain ⟨ha, rfl⟩ := List.getElem?_eq_some_iff.1 hx
  obtain ⟨hb, rfl⟩ := List.getElem?_eq_some_iff.1 hy
  exact List.set_set_perm ha hb

theorem vplaced {x : Int} {M : Nat} (hM : 0 < M) : ∃ r s : Int, ∃ a : Nat, x.tmod M = r ∧ r + M = s ∧ s.tmod M = a ∧ a < M ∧ 0 ≤ s ∧ s ≤ 2 * M ∧ -(M : Int) ≤ r ∧ r ≤ M := by
  have h1 := Int.tmod_lt_of_pos x (show (0 : Int) < M by omega)
  have h2 := rem_low (e := M) x (by omega)
  have h3 := Int.tmod_lt_of_pos (x.tmod M + M) (show (0 : Int) < M by omega)
  have h4 := Int.tmod_nonneg (M : Int) (show 0 ≤ x.tmod M + M by omega)
  exact ⟨_, _, ((x.tmod M + M).tmod M).toNat, rfl, rfl, by omega, by omega, by omega, by omega, by omega, by omega⟩

theorem vsetCells_same (ys : List Value) : ∀ (w : World) (g o : Nat), w.setCells g o ys = setCells w g o ys := by
  induction ys with
  | nil => intro w g o; rfl
  | cons y ys ih => intro w g o; exact ih _ _ _

theorem vown_there {w : World} {D : Nat} {e : TypeId} {g n cap k s : Nat} {xs : List Value} (h : w.ownsRow D e s (.slice (some ⟨g, 0, none⟩) n cap) n xs) (hk : k < n) : w.there g (k * s) s := by
  intro j hj
  have hb : k * s + j < n * s := by
    have h1 := Nat.mul_le_mul_right s (show k + 1 ≤ n by omega)
    rw [Nat.add_mul, Nat.one_mul] at h1
    omega
  have h1 := h.cellAt (k * s + j) hb
  have h2 := h.frozenAt (k * s + j)
  refine ⟨?_, h2⟩
  rw [h1, List.getElem?_eq_getElem (by rw [h.1]; omega)]
  rfl

section
variable {P : Program}
theorem vstep_store_mid {ops : Array Oper} {op : Oper} {a : Act} {w : World} {K : Act → World → Prop} {Q : Exit → Act → World → Prop} {E : Prop} (hgd : op.guard = none) (ty : TypeId) (x y : Operand) (ho : op.op = .store ty x y)
    (b o : Nat) (cells : Array Value) (hx : a.eval x = .pointer (some ⟨b, o, none⟩)) (hy : a.eval y = .agg cells)
    (ht : w.there b o cells.size) (hi : (P.info? ty).map (·.size) = some cells.size) (h1 : cells.all (·.oneCell') = true)
    (h : K (a.put op.dst undef) (w.setCells b o cells.toList)) : if Region.wanted op (yielded ops a.tmps) = true then Oper.wp P op a w K Q else E := by
  have hw : Region.wanted op (yielded ops a.tmps) = true := by simp [Region.wanted, hgd]
  rw [if_pos hw]
  exact wp_store_mid ty x y ho b o cells hx hy ht hi h1 h
end

theorem sam_size3 : (Try.prog.info? 28).map (·.size) = some 3 := by kernel_rfl

/-- A sample stored into a row of one's own. -/
theorem sam_put {w : World} {D : Nat} {g n cap k : Nat} {ms : List SamL} (h : w.ownsRow D 28 3 (.slice (some ⟨g, 0, none⟩) n cap) n (flat aenc ms)) (x : SamL) (hl : ms.length = n) (hk : k < n) :
    (w.setCells g (k * 3) (aenc x)).ownsRow D 28 3 (.slice (some ⟨g, 0, none⟩) n cap) n (flat aenc (ms.set k x)) ∧ w.grownBy (w.setCells g (k * 3) (aenc x)) (some g) := by
  obtain ⟨h1, h2⟩ := setCells_own (aenc x) (k * 3) h
  rw [vflat_set aenc_len ms k x (by omega)] at h1
  rw [vsetCells_same]
  exact ⟨h1, h2⟩

end Go.Proofs.Ytdhkmcmipkfkjaa
