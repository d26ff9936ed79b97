/-
  A bundle of texts: BT BST WI BI BKS QCS.
-/
import Derived.Laws.AppendOwnNone
import Derived.Deep.QuietTactic
import Derived.BigQuiet
import Derived.Test.YtbhcafginmkaaaaGreatN04
namespace Go.Proofs.YtbhcafginmkaaaaGreat
open Go.RowKit Go.Lib

/-- From o on the block b of w holds xs. -/
def Cells (w : World) (b o : Nat) (xs : List Value) : Prop := ∀ j u, xs[j]? = some u → w.cell? ⟨b, o + j, none⟩ = some u

/-- The slice v has n elements, whose cells are xs. -/
def CellRow (w : World) (v : Value) (n : Nat) (xs : List Value) : Prop := ∃ a c, v = .slice a n c ∧ (xs = [] ∨ ∃ b o, a = some ⟨b, o, none⟩ ∧ b < w.heap.size ∧ Cells w b o xs)

theorem Cells.kept {w w' : World} {b o : Nat} {xs : List Value} (h : Cells w b o xs) (hb : Below w.heap.size w w') (hl : b < w.heap.size) : Cells w' b o xs :=
  fun j u hj => by rw [hb.cell hl]; exact h j u hj

theorem CellRow.kept {w w' : World} {v : Value} {n : Nat} {xs : List Value} (h : CellRow w v n xs) (hb : Below w.heap.size w w') : CellRow w' v n xs := by
  obtain ⟨a, c, hv, h⟩ := h
  refine ⟨a, c, hv, ?_⟩
  rcases h with h | ⟨b, o, ha, hl, hc⟩
  · exact .inl h
  · exact .inr ⟨b, o, ha, Nat.lt_of_lt_of_le hl hb.size, hc.kept hb hl⟩

section
variable {P : Program}

theorem run_append_none (w : World) (base : Nat) (t ty e : TypeId) (i : TypeInfo) (size c : Nat) (ht : P.underlying t = some (.slice e)) (hi : P.info? e = some i)
    (v : Value) (n : Nat) (xs : List Value) (hown : w.ownsRow base e size v n xs) :
    (Builtin.append_ #[t, t] ty #[v, .slice none 0 c]).run P w = .ok v w := by
  rcases hown.2 with ⟨rfl, rfl⟩ | ⟨g, cap, cur, rfl, _, _, hnc, _⟩
  · simp [Builtin.append_, run_underlying ht, sizeOf, typeInfo, hi, Builtin.lenOf, Builtin.firstCells]
  · simp [Builtin.append_, run_underlying ht, sizeOf, typeInfo, hi, Builtin.lenOf, Builtin.firstCells, hnc, storeCells]

/-- 'append(r, x...)', r one's own row (or nil), x any slice whose cells are known. -/
theorem append_row_law {w : World} {ops : Array Oper} {rest : List Oper} {o : Oper} {a : Act} {Q : Exit → Act → World → Prop} (hgd : o.guard = none) (s x : Operand) (t : TypeId)
    (ho : o.op = .call { callee := .builtin .append, args := #[s, x], argTypes := #[t, t] })
    (base : Nat) (e : TypeId) (i : TypeInfo) (z : Value) (size bytes : Nat) (ht : P.underlying t = some (.slice e)) (hi : P.info? e = some i) (hz : i.zero = some z)
    (hsize : i.size = size) (hby : i.bytes = bytes) (hzs : z.cells.size = size) (hsz : 0 < size)
    (v : Value) (n : Nat) (xs : List Value) (hs : a.eval s = v) (hown : w.ownsRow base e size v n xs)
    (u : Value) (m : Nat) (news : List Value) (hx : a.eval x = u) (hrow : CellRow w u m news) (hl : news.length = m * size) (h1 : ∀ u ∈ news, u.oneCell' = true)
    (h63 : n + m ≤ maxLen) (hbytes : (n + m) * bytes ≤ 140737488355328) (hbase : base ≤ w.heap.size)
    (h : ∀ v' w', w'.ownsRow base e size v' (n + m) (xs ++ news) → w.grownBy w' v.ownBlock → wpList P ops Q rest (a.put o.dst v') w') : wpList P ops Q (o :: rest) a w := by
  obtain ⟨sa, c, rfl, hc⟩ := hrow
  have key : ∀ ad, sa = some ad → (∀ j u, news[j]? = some u → w.cell? (ad.add j) = some u) → wpList P ops Q (o :: rest) a w := by
    intro ad ha hcells
    subst ha
    exact wpList_append_own w hgd s x t ho base e i z size bytes ht hi hz hsize hby hzs hsz v n xs hs hown ad m c news hx hl hcells h1 h63 hbytes hbase (fun v' w' h2 h3 _ => h v' w' h2 h3)
  rcases hc with rfl | ⟨b, oo, ha, hb, hcells⟩
  · have hm : m = 0 := by
      rcases Nat.eq_zero_or_pos m with h0 | h0
      · exact h0
      · have := Nat.mul_pos h0 hsz
        simp at hl
        omega
    subst hm
    cases sa with
    | none =>
      refine wpList_plain hgd fun K hK => ?_
      have hrun := run_append_none (P := P) w base t o.type e i size c ht hi v n xs hown
      unfold Oper.wp
      simp [execOp, ho, resolve, invoke, builtin, hs, hx, hrun, Result.andThen]
      have := h v w (by simpa using hown) (grownBy_refl _ _)
      exact hK _ _ this
    | some ad => exact key ad rfl (by simp)
  · exact key _ ha (fun j u hj => by
      have := hcells j u hj
      have ea : (⟨b, oo, none⟩ : Addr).add j = ⟨b, oo + j, none⟩ := by unfold Addr.add; split <;> simp_all
      rw [ea]
      exact this)
end

theorem own_ge {w : World} {B : Nat} {e : TypeId} {size : Nat} {v : Value} {n : Nat} {xs : List Value} (h : w.ownsRow B e size v n xs) {k : Nat} (hk : v.ownBlock = some k) : B ≤ k := by
  rcases h.2 with ⟨rfl, _⟩ | ⟨g, cap, cur, rfl, hB, _⟩
  · cases hk
  · simp only [Value.ownBlock, Option.some.injEq] at hk
    omega

end Go.Proofs.YtbhcafginmkaaaaGreat

namespace Go.Proofs.YtbhcafginmkaaaaGreat
open Go.RowKit

/-- A call has touched the blocks F alone, and made new ones; the footprint is F' behind it. -/
structure Step (F F' : Nat → Prop) (w w' : World) : Prop where
  os : w'.os = w.os
  tape : w'.tape = w.tape
  output : w'.output = w.output
  size : w.heap.size ≤ w'.heap.size
  block : ∀ k, k < w.heap.size → ¬ F k → w'.heap[k]? = w.heap[k]?
  foot : ∀ k, F' k → F k ∨ w.heap.size ≤ k

theorem Step.of_below {F : Nat → Prop} {w w' : World} (b : Below w.heap.size w w') : Step F F w w' :=
  ⟨b.os, b.tape, b.output, b.size, fun k hk _ => b.block k hk, fun _ h => .inl h⟩

theorem Step.below {B : Nat} {F F' : Nat → Prop} {w0 w w' : World} (h : Step F F' w w') (b : Below B w0 w) (hB : B ≤ w.heap.size) (hF : ∀ k, F k → B ≤ k) : Below B w0 w' :=
  ⟨h.os.trans b.os, h.tape.trans b.tape, h.output.trans b.output, Nat.le_trans b.size h.size, fun k hk => by
    rw [h.block k (by omega) (fun c => by have := hF k c; omega)]
    exact b.block k hk⟩

theorem Step.ge {B : Nat} {F F' : Nat → Prop} {w w' : World} (h : Step F F' w w') (hB : B ≤ w.heap.size) (hF : ∀ k, F k → B ≤ k) : ∀ k, F' k → B ≤ k := by
  intro k hk
  rcases h.foot k hk with c | c
  · exact hF k c
  · omega

/-- The block of v is none of F. -/
def Off (F : Nat → Prop) (v : Value) : Prop := ∀ g, v.ownBlock = some g → ¬ F g

theorem Off.next {F F' : Nat → Prop} {w w' : World} {v : Value} (h : Off F v) (st : Step F F' w w') (hv : ∀ g, v.ownBlock = some g → g < w.heap.size) : Off F' v := by
  intro g hg c
  rcases st.foot g c with k | k
  · exact h g hg k
  · have := hv g hg
    omega

theorem Step.row {F F' : Nat → Prop} {w w' : World} {v : Value} {n : Nat} {xs : List Value} (st : Step F F' w w') (h : CellRow w v n xs) (ho : Off F v) : CellRow w' v n xs := by
  obtain ⟨a, c, rfl, h⟩ := h
  refine ⟨a, c, rfl, ?_⟩
  rcases h with h | ⟨b, o, rfl, hl, hc⟩
  · exact .inl h
  · refine .inr ⟨b, o, rfl, Nat.lt_of_lt_of_le hl st.size, fun j u hj => ?_⟩
    rw [World.cell?_of_block (st.block b hl (ho b rfl))]
    exact hc j u hj

theorem Step.own {F F' : Nat → Prop} {w w' : World} {B : Nat} {e : TypeId} {sz : Nat} {v : Value} {n : Nat} {xs : List Value} (st : Step F F' w w') (h : w.ownsRow B e sz v n xs) (ho : Off F v) : w'.ownsRow B e sz v n xs := by
  refine ⟨h.1, ?_⟩
  rcases h.2 with h0 | ⟨g, cap, cur, rfl, hB, hrow, rest⟩
  · exact .inl h0
  · exact .inr ⟨g, cap, cur, rfl, hB, by rw [st.block g (Array.getElem?_eq_some_iff.1 hrow).1 (ho g rfl)]; exact hrow, rest⟩

theorem Step.refl (F : Nat → Prop) (w : World) : Step F F w w := ⟨rfl, rfl, rfl, Nat.le_refl _, fun _ _ _ => rfl, fun _ h => .inl h⟩

theorem Step.trans {F F' F'' : Nat → Prop} {w w' w'' : World} (h : Step F F' w w') (k : Step F' F'' w' w'') : Step F F'' w w'' :=
  ⟨k.os.trans h.os, k.tape.trans h.tape, k.output.trans h.output, Nat.le_trans h.size k.size, fun i hi hf => by
    rw [k.block i (Nat.lt_of_lt_of_le hi h.size) (fun c => by
      rcases h.foot i c with c | c
      · exact hf c
      · omega)]
    exact h.block i hi hf, fun i hi => by
    rcases k.foot i hi with c | c
    · exact h.foot i c
    · exact .inr (Nat.le_trans h.size c)⟩

end Go.Proofs.YtbhcafginmkaaaaGreat

namespace Go.Proofs.YtbhcafginmkaaaaGreat
open Go.RowKit Go.Lib

def sumSize (l : List WdL) : Nat := (l.map fun x => x.1.size).sum

def WSt.len (s : WSt) : Nat := sumSize s.out + match s.cur with
  | some w => w.length
  | none => 0

def goodByte (b : UInt8) : Prop := 33 ≤ b.toNat ∧ b.toNat ≤ 126

/-- A word of good bytes that does not begin a remark. -/
def goodWord (t : List UInt8) : Prop := ∃ c r, t = c :: r ∧ c.toNat ≠ 35 ∧ ∀ b ∈ t, goodByte b

theorem goodByte_step {b : UInt8} (h : goodByte b) : ¬ wBad b.toNat ∧ ¬ b.toNat = 10 ∧ ¬ b.toNat ≤ 32 := by
  unfold goodByte at h
  unfold wBad
  omega

theorem run_more : ∀ (r : List UInt8) (st : WSt) (w : List UInt8), st.cur = some w → (∀ b ∈ r, goodByte b) → wRun st r = .inl ⟨st.out, st.line, st.col + r.length, some (w ++ r), st.remark⟩
  | [], st, w, h, _ => by
    rw [List.append_nil, ← h]
    rfl
  | c :: r, st, w, h, hg => by
    obtain ⟨g1, g2, g3⟩ := goodByte_step (hg c List.mem_cons_self)
    rw [wRun, if_neg g1]
    have e : st.step c = ⟨st.out, st.line, st.col + 1, some (w ++ [c]), st.remark⟩ := by
      unfold WSt.step
      rw [if_neg g2, if_neg g3, h]
    rw [e, run_more r _ (w ++ [c]) rfl (fun b hb => hg b (List.mem_cons_of_mem _ hb))]
    congr 2
    · simp only [List.length_cons]
      omega
    · simp

theorem run_word {t : List UInt8} (hg : goodWord t) (st : WSt) (h : st.cur = none) (hr : st.remark = false) : wRun st t = .inl ⟨st.out, st.line, st.col + t.length, some t, false⟩ := by
  obtain ⟨c, r, rfl, h35, ha⟩ := hg
  obtain ⟨g1, g2, g3⟩ := goodByte_step (ha c List.mem_cons_self)
  rw [wRun, if_neg g1]
  have e : st.step c = ⟨st.out, st.line, st.col + 1, some [c], false⟩ := by
    unfold WSt.step
    rw [if_neg g2, if_neg g3, h]
    simp only
    rw [if_neg (by simp [hr]), if_neg h35]
  rw [e, run_more r _ [c] rfl (fun b hb => ha b (List.mem_cons_of_mem _ hb))]
  congr 2
  simp only [List.length_cons]
  omega

end Go.Proofs.YtbhcafginmkaaaaGreat

namespace Go.Proofs.YtbhcafginmkaaaaGreat
open Go.RowKit Go.Lib

theorem CellRow.ints {k : IntKind} {w : World} {v : Value} {xs : List Int} (h : CellRow w v xs.length (xs.map (Value.int k))) : NumRow k w v xs := by
  obtain ⟨a, c, hv, h⟩ := h
  refine ⟨a, c, hv, ?_⟩
  rcases h with h | ⟨b, o, ha, hl, hc⟩
  · exact .inl (by simpa using h)
  · refine .inr ⟨b, o, ha, hl, fun j hj => ?_⟩
    rw [hc j (.int k xs[j]) (by simp [hj])]
    simp [List.getD, hj]

theorem int_at {w : World} {a : Option Addr} {n c : Nat} {ss : List Int} (h : CellRow w (.slice a n c) n (ss.map (Value.int .i64))) (j : Nat) (hj : j < ss.length) (hn : n = ss.length) : ∃ b o, a = some ⟨b, o, none⟩ ∧ b < w.heap.size ∧ w.cell? ⟨b, o + j, none⟩ = some (.int .i64 (ss.getD j 0)) := by
  obtain ⟨a', c', hv, h⟩ := h
  simp only [Value.slice.injEq] at hv
  obtain ⟨rfl, _, rfl⟩ := hv
  rcases h with h | ⟨b, o, ha, hl, hc⟩
  · have : ss = [] := by simpa using h
    subst this
    simp at hj
  · refine ⟨b, o, ha, hl, ?_⟩
    rw [hc j (.int .i64 ss[j]) (by simp [hj])]
    simp [List.getD, hj]

end Go.Proofs.YtbhcafginmkaaaaGreat

namespace Go.Proofs.YtbhcafginmkaaaaGreat
open Go.RowKit Go.Lib

theorem CellRow.drewN {w : World} {v : Value} {n : Nat} {xs : List Value} (h : CellRow w v n xs) (q : Nat) : CellRow (w.drewN q) v n xs := h

/-- The k-th of lists that lie in the slice v of the world w, which has n elements: what is there. -/
theorem CellRow.at {w : World} {a : Option Addr} {n c : Nat} {vs : List Value} (h : CellRow w (.slice a n c) n vs) (j : Nat) (u : Value) (hj : vs[j]? = some u) : ∃ b o, a = some ⟨b, o, none⟩ ∧ b < w.heap.size ∧ w.cell? ⟨b, o + j, none⟩ = some u := by
  obtain ⟨a', c', hv, h⟩ := h
  simp only [Value.slice.injEq] at hv
  obtain ⟨rfl, _, rfl⟩ := hv
  rcases h with rfl | ⟨b, o, ha, hl, hc⟩
  · simp at hj
  · exact ⟨b, o, ha, hl, hc j u hj⟩

end Go.Proofs.YtbhcafginmkaaaaGreat

namespace Go.Proofs.YtbhcafginmkaaaaGreat
open Go.RowKit Go.Lib

def Dc (w : World) (l : List (Addr × Value)) : Prop := ∀ x ∈ l, x.1.block < w.heap.size ∧ w.cell? x.1 = some x.2
theorem Dc.next {w w' : World} {l : List (Addr × Value)} (h : Dc w l) (b : Below w.heap.size w w') : Dc w' l := fun x hx =>
  ⟨Nat.lt_of_lt_of_le (h x hx).1 b.size, (World.cell?_of_block (a := x.1) (b.block _ (h x hx).1)).trans (h x hx).2⟩
theorem Dc.nil (w : World) : Dc w [] := fun _ h => absurd h List.not_mem_nil
theorem Dc.cons {w : World} {a : Addr} {v : Value} {l : List (Addr × Value)} (h1 : a.block < w.heap.size) (h2 : w.cell? a = some v) (h : Dc w l) : Dc w ((a, v) :: l) := fun x hx => by
  rcases List.mem_cons.1 hx with rfl | hx
  · exact ⟨h1, h2⟩
  · exact h x hx
theorem Dc.head {w : World} {a : Addr} {v : Value} {l : List (Addr × Value)} (h : Dc w ((a, v) :: l)) : w.cell? a = some v := (h _ (List.mem_cons_self ..)).2
theorem Dc.lt {w : World} {a : Addr} {v : Value} {l : List (Addr × Value)} (h : Dc w ((a, v) :: l)) : a.block < w.heap.size := (h _ (List.mem_cons_self ..)).1
theorem Dc.tail {w : World} {a : Addr} {v : Value} {l : List (Addr × Value)} (h : Dc w ((a, v) :: l)) : Dc w l := fun x hx => h x (List.mem_cons_of_mem _ hx)
theorem Dc.app {w : World} {k l : List (Addr × Value)} (h : Dc w k) (g : Dc w l) : Dc w (k ++ l) := fun x hx => by
  rcases List.mem_append.1 hx with hx | hx
  · exact h x hx
  · exact g x hx
theorem Dc.left {w : World} {k l : List (Addr × Value)} (h : Dc w (k ++ l)) : Dc w k := fun x hx => h x (List.mem_append_left _ hx)
/-- A block's cell. -/
theorem Dc.one {w : World} {b i : Nat} {cs : Array Value} {t : TypeId} {r : Nat × Nat} {v : Value} (h : w.heap[b]? = some (.cells cs t r)) (hv : cs[i]? = some v) : Dc w [(⟨b, i, none⟩, v)] := fun x hx => by
  rw [List.mem_singleton.1 hx]
  exact ⟨(Array.getElem?_eq_some_iff.1 h).1, by rw [cell_of_row _ _ _ _ _ _ h]; exact hv⟩
theorem Dc.grown {w w' : World} {o : Option Nat} {l : List (Addr × Value)} (h : Dc w l) (g : w.grownBy w' o) (hne : ∀ x ∈ l, some x.1.block ≠ o) : Dc w' l := fun x hx =>
  ⟨Nat.lt_of_lt_of_le (h x hx).1 g.size, (World.cell?_of_block (a := x.1) (g.block _ (h x hx).1 (hne x hx))).trans (h x hx).2⟩

end Go.Proofs.YtbhcafginmkaaaaGreat
