/-
  'append' of any slice onto one's own row, as one step of a region that draws its order; parts of a row as rows.
-/
import Derived.Test.YtnohmloilcpmiaaQ14
namespace Go.Proofs.Ytnohmloilcpmiaa
open Go.RowKit Go.Lib

section
variable {P : Program}

/-- 'append(r, x...)', r one's own row (or nil), x any slice: what r held stays where it was. -/
theorem step_append_any {ops : Array Oper} {o : Oper} {a : Act} {w : World} {K : Act → World → Prop} {Q : Exit → Act → World → Prop} {E : Prop} (hgd : o.guard = none) (s x : Operand) (t : TypeId)
    (ho : o.op = .call { callee := .builtin .append, args := #[s, x], argTypes := #[t, t] })
    (base : Nat) (e : TypeId) (i : TypeInfo) (z : Value) (size bytes : Nat) (ht : P.underlying t = some (.slice e)) (hi : P.info? e = some i) (hz : i.zero = some z)
    (hsize : i.size = size) (hby : i.bytes = bytes) (hzs : z.cells.size = size) (hsz : 0 < size)
    (v : Value) (n : Nat) (xs : List Value) (hs : a.eval s = v) (hown : w.ownsRow base e size v n xs)
    (u : Value) (m : Nat) (news : List Value) (hx : a.eval x = u) (hrow : CellRow w u m news) (hl : news.length = m * size) (h1 : ∀ u ∈ news, u.oneCell' = true)
    (h63 : n + m ≤ maxLen) (hbytes : (n + m) * bytes ≤ 140737488355328) (hbase : base ≤ w.heap.size)
    (h : ∀ v' w', w'.ownsRow base e size v' (n + m) (xs ++ news) → w.grownBy w' v.ownBlock → (v'.ownBlock = v.ownBlock ∨ ∃ g, v'.ownBlock = some g ∧ w.heap.size ≤ g) → K (a.put o.dst v') w') :
    if Region.wanted o (yielded ops a.tmps) = true then Oper.wp P o a w K Q else E := by
  obtain ⟨sa, c, rfl, hc⟩ := hrow
  by_cases hm : m = 0
  · subst hm
    have hn : news = [] := List.eq_nil_of_length_eq_zero (by simpa using hl)
    subst hn
    cases sa with
    | none =>
      have hw : Region.wanted o (yielded ops a.tmps) = true := by simp [Region.wanted, hgd]
      rw [if_pos hw]
      have hr := run_append_none (P := P) w base t o.type e i size c ht hi v n xs hown
      unfold Oper.wp
      simp [execOp, ho, resolve, invoke, builtin, hs, hx, hr, Result.andThen]
      exact h v w (by simpa using hown) (grownBy_refl _ _) (.inl rfl)
    | some ad =>
      obtain ⟨b, off, f⟩ := ad
      have hw : Region.wanted o (yielded ops a.tmps) = true := by simp [Region.wanted, hgd]
      rw [if_pos hw]
      obtain ⟨v', w', hr, h2, h3, h4, h5⟩ := run_append_keep (P := P) w base t o.type e i z size bytes ht hi hz hsize hby hzs hsz v n xs hown ⟨b, off, f⟩ 0 c [] (by simp) (fun j u hj => by simp at hj) (fun u hu => absurd hu List.not_mem_nil) h63 hbytes hbase
      unfold Oper.wp
      simp [execOp, ho, resolve, invoke, builtin, hs, hx, hr, Result.andThen]
      exact h v' w' h2 h3 h5
  · obtain ⟨b, oo, rfl, _, hcs⟩ := hc.resolve_left (by intro hn; rw [hn] at hl; simp at hl; have := Nat.mul_pos (Nat.pos_of_ne_zero hm) hsz; omega)
    exact step_append_keep hgd s x t ho base e i z size bytes ht hi hz hsize hby hzs hsz v n xs hs hown b oo m c news hx hcs hl h1 h63 hbytes hbase (fun v' w' h2 h3 _ h5 => h v' w' h2 h3 h5)
end

/-- The first k of a row, and those behind. -/
theorem CellRow.take {w : World} {a : Option Addr} {n c c' : Nat} {xs : List Value} (h : CellRow w (.slice a n c) n xs) (k : Nat) : CellRow w (.slice a k c') k (xs.take k) := by
  obtain ⟨a', c1, hv, h⟩ := h
  simp only [Value.slice.injEq] at hv
  obtain ⟨rfl, _, rfl⟩ := hv
  refine ⟨_, _, rfl, ?_⟩
  rcases h with h | ⟨b, o, ha, hl, hc⟩
  · exact .inl (by rw [h]; simp)
  · refine .inr ⟨b, o, ha, hl, fun j u hj => hc j u ?_⟩
    rw [List.getElem?_take] at hj
    split at hj
    · exact hj
    · cases hj

theorem CellRow.drop {w : World} {b o n c c' : Nat} {xs : List Value} (h : CellRow w (.slice (some ⟨b, o, none⟩) n c) n xs) (k : Nat) : CellRow w (.slice (some ⟨b, o + k, none⟩) (n - k) c') (n - k) (xs.drop k) := by
  obtain ⟨a', c1, hv, h⟩ := h
  simp only [Value.slice.injEq] at hv
  obtain ⟨rfl, _, rfl⟩ := hv
  refine ⟨_, _, rfl, ?_⟩
  rcases h with h | ⟨b', o', ha, hl, hc⟩
  · exact .inl (by rw [h]; simp)
  · simp only [Option.some.injEq, Addr.mk.injEq, and_true] at ha
    obtain ⟨rfl, rfl⟩ := ha
    refine .inr ⟨_, _, rfl, hl, fun j u hj => ?_⟩
    rw [List.getElem?_drop] at hj
    have := hc (k + j) u hj
    rwa [← Nat.add_assoc] at this

end Go.Proofs.Ytnohmloilcpmiaa
