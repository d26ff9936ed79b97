/-
  A bundle of texts: POI PCJ RLA RCV TRS.
-/
import Derived.Deep.DeepCutAuto
import Derived.Deep.QuietTactic
import Derived.BigQuiet
import Derived.Deep.RegionHeld3
import Derived.Test.YtdchjcidfaencaaGreatQ21
import Derived.Test.YtdchjcidfaencaaGreatQ27
import Derived.Test.YtdchjcidfaencaaGreatQ20
import Derived.Test.YtdchjcidfaencaaGreatQ13
import Derived.Test.YtdchjcidfaencaaGreatQ15
import Derived.Test.YtdchjcidfaencaaGreatQ08
import Derived.Test.YtdchjcidfaencaaGreatQ11
namespace Go.Proofs.YtdchjcidfaencaaGreat
open Go.ChangeShapes Go.WideShapes Go.ChangeAt Go.RowKit Go.Lib

theorem tier_leaves : leaves Tryz.prog 2 31 = some [9, 3, 3, 3] := by kernel_rfl
theorem tier_size : Tryz.prog.cellsOf 31 = 4 := by kernel_rfl
theorem pol_leaves : leaves Tryz.prog 2 24 = some [9, 22] := by kernel_rfl
theorem pol_size : Tryz.prog.cellsOf 24 = 2 := by kernel_rfl

theorem in64_of (n : Int) (h : (Lit.int .i64 n).wf = true) : In64 n := int_bounds h

/-- What is told of a tier that came in. -/
def TIn (x : TierL) : Prop := x.1.size ≤ maxLen ∧ In64 x.2.1 ∧ In64 x.2.2.1 ∧ In64 x.2.2.2

theorem tiers_of_trod {H : Type} {enc : TypeId × Value → H} {W : World} {sp : Nat → Bool} {a : Option Addr} {len cap : Nat} {d : DataW H} {ps : List MemPlace} (h : DataW.Trod enc Tryz.prog W 0 sp true 22 (.slice a len cap) d ps) :
    ∃ l : List TierL, l.length = len ∧ CellRow W (.slice a len cap) len (flat penc l) ∧ ∀ x ∈ l, TIn x :=
  rows_of_trod Tryz.underlying22 tier_size (by decide) penc_len TIn (⟨#[]⟩, 0, 0, 0) (fun fuel cs x hl hx => by
    have hF := leaf_at 2 _ _ cs fuel x tier_leaves (by rw [tier_size]; omega) hx
    obtain ⟨n0, c0, w0⟩ := leaf_string Tryz.underlying9 (hF 0 _ rfl)
    obtain ⟨n1, c1, w1⟩ := leaf_int Tryz.underlying3 (hF 1 _ rfl)
    obtain ⟨n2, c2, w2⟩ := leaf_int Tryz.underlying3 (hF 2 _ rfl)
    obtain ⟨n3, c3, w3⟩ := leaf_int Tryz.underlying3 (hF 3 _ rfl)
    refine ⟨(n0, n1, n2, n3), ?_, w0, ?_⟩
    · match cs, hl with
      | [x0, x1, x2, x3], _ =>
        simp at c0 c1 c2 c3
        subst c0 c1 c2 c3
        rfl
    · exact ⟨in64_of n1 w1, in64_of n2 w2, in64_of n3 w3⟩) h

theorem cap_of_trod {H : Type} {enc : TypeId × Value → H} {P : Program} {W : World} {sp : Nat → Bool} {ty e : TypeId} {a : Option Addr} {len cap : Nat} {d : DataW H} {ps : List MemPlace} (ht : P.underlying ty = some (.slice e)) (h : DataW.Trod enc P W 0 sp true ty (.slice a len cap) d ps) : CapOk (.slice a len cap) := by
  obtain ⟨fuel, hf⟩ := h
  rcases DataW.trod_slice ht hf with ⟨h1, _⟩ | ⟨a', len', cap', elems, rest, n, _, h1, _, _, h2, _⟩
  · simp [Value.cells] at h1
    obtain ⟨_, rfl, rfl⟩ := h1
    exact Nat.le_refl _
  · simp [Value.cells] at h1
    obtain ⟨_, rfl, rfl⟩ := h1
    exact h2

set_option maxRecDepth 20000 in
/-- One that came in by value. -/
theorem pol_of_trod {H : Type} {enc : TypeId × Value → H} {W : World} {sp : Nat → Bool} {r : Reach} {b0 : Nat} {v : Value} {d : DataW H} {ps : List MemPlace} (hv : Value.okWide Tryz.prog W r b0 24 v)
    (h : DataW.Trod enc Tryz.prog W 0 sp true 24 v d ps) : ∃ p : PolL, PolRow W v p ∧ p.1.size ≤ maxLen ∧ ∀ x ∈ p.2, TIn x := by
  obtain ⟨cs, rfl, hsz⟩ := okWide_struct Tryz.underlying24 hv
  obtain ⟨fuel, hf⟩ := h
  have hl : cs.toList.length = 2 := Array.length_toList.trans (hsz.trans pol_size)
  have hF := leaf_at 2 _ _ cs.toList fuel _ pol_leaves (by rw [pol_size]; omega) hf
  obtain ⟨n0, c0, w0⟩ := leaf_string Tryz.underlying9 (hF 0 _ rfl)
  obtain ⟨a1, l1, k1, d1, p1, c1, t1⟩ := leaf_slice Tryz.underlying22 (hF 1 _ rfl)
  obtain ⟨l, hlen, hr, ht⟩ := tiers_of_trod t1
  refine ⟨(n0, l), ⟨.slice a1 l1 k1, ?_, by rw [hlen]; exact hr, cap_of_trod Tryz.underlying22 t1⟩, w0, ht⟩
  have e : cs.toList = [.string n0, .slice a1 l1 k1] := by
    match hcs : cs.toList, hl with
    | [x0, x1], _ =>
      rw [hcs] at c0 c1
      simp at c0 c1
      rw [c0, c1]
  rw [← Array.toArray_toList (xs := cs), e]

/-- A small one that came in fits. -/
theorem fit_of {p : PolL} (h : ∀ x ∈ p.2, TIn x) (s : PSmall p) : PFit p :=
  ⟨by have := s.1; omega, by have := s.2.1; omega, fun x hx => ⟨by have := s.2.2 x hx; omega, (h x hx).2⟩⟩

end Go.Proofs.YtdchjcidfaencaaGreat

namespace Go.Proofs.YtdchjcidfaencaaGreat
open Go.RowKit Go.Lib

section
variable {P : Program}

/-- A struct put together, its cells said. -/
theorem wpList_builtP {ops : Array Oper} {rest : List Oper} {o : Oper} {a : Act} {w : World} {Q : Exit → Act → World → Prop} (hg : o.guard = none) (t : TypeId) (ps : List (Nat × Operand)) (ho : o.op = .build t ps.toArray)
    (cs : Array Value) (hc : P.built t (ps.map fun x => (x.1, a.eval x.2)) = some cs)
    (h : wpList P ops Q rest (a.put o.dst (.agg cs)) w) : wpList P ops Q (o :: rest) a w := by
  have e : P.built t (ps.toArray.map fun (i, x) => (i, a.eval x)).toList = some cs := by
    rw [← hc]
    congr 1
    simp
  exact wpList_build hg t ps.toArray ho (by rw [e]; rfl) (by rw [e]; exact h)

/-- A variable on the heap, its cells said. -/
theorem wpList_boxedP {ops : Array Oper} {rest : List Oper} {o : Oper} {a : Act} {w : World} {Q : Exit → Act → World → Prop} (hg : o.guard = none) (t : TypeId) (x : Operand) (ho : o.op = .box t x)
    (cs : Array Value) (hx : (a.eval x).cells = cs)
    (h : wpList P ops Q rest (a.put o.dst (.pointer (some ⟨w.heap.size, 0, none⟩))) (w.alloc (.cells cs t))) : wpList P ops Q (o :: rest) a w :=
  wpList_plain hg fun K hK => by
    unfold Oper.wp execOp
    simp only [ho, Instr.box, newVar, newRow, run_newObj_alloc, Sem.run_bind, Sem.run_pure, Result.andThen_ok, hx]
    exact hK _ _ h
end

/-- A cell of the first row is set. -/
theorem Here.put {p D : Nat} {cs : Array Value} {T : TypeId} {w0 w : World} {rs : List Row1} {e : TypeId} {s g k c : Nat} {xs : List Value} (h : Here p D cs T w0 w (⟨e, s, .slice (some ⟨g, 0, none⟩) k c, k, xs⟩ :: rs) []) (o : Nat) (v : Value) :
    Here p D cs T w0 (w.setCell ⟨g, o, none⟩ v) (⟨e, s, .slice (some ⟨g, 0, none⟩) k c, k, xs.set o v⟩ :: rs) [] := by
  have own : w.ownsRow D e s (.slice (some ⟨g, 0, none⟩) k c) k xs := h.bag.own _ (List.mem_cons_self ..)
  obtain ⟨o1, g1⟩ := own.stored o v
  have hg : D ≤ g := (own.lt g rfl).1
  have hp := h.hp
  have hD := h.hD
  refine ⟨hp, Nat.le_trans hD g1.size, ?_, h.fr.grown g1 (by omega) (fun x hx => by cases hx; omega), h.bag.grow (r := ⟨e, s, .slice (some ⟨g, 0, none⟩) k c, k, xs⟩) g1 o1 (.inl rfl)⟩
  rw [g1.block p (by omega) (fun e => by have := Option.some.inj e; omega)]
  exact h.blk

end Go.Proofs.YtdchjcidfaencaaGreat

namespace Go.Proofs.YtdchjcidfaencaaGreat
open Go.RowKit Go.Lib

section
variable {S : ReachSpec} {w0 w w' : World} {b1 b2 : Nat} {n : ByteArray} {now : Int} {s f s' f' : Value} {r : RchL}
end

/-- An answered Reach, put into a variable. -/
theorem RH.made {S : ReachSpec} {w0 w1 : World} {r : RchL} {s f : Value} (hS : S.Ok w1) (hb : Below w0.heap.size w0 w1) (h : RchRow w1 (rVal r s f) r) {now : Int} {n : ByteArray} (hnow : r.1 = now) (hn : r.2.1.1 = n) :
    RH S w0 w1.heap.size now n s f r (w1.alloc (.cells #[.int .i64 now, .string n, s, f] 46)) := by
  have b : Below w1.heap.size w1 (w1.alloc (.cells #[.int .i64 now, .string n, s, f] 46)) := (Below.refl _ _).alloc (Nat.le_refl _) _
  refine ⟨Go.heap_alloc_new _ _, ?_, S.kept hS b, hb.trans (b.mono hb.size)⟩
  have h2 := h.kept b
  unfold rVal at h2
  rw [hnow, hn] at h2
  exact h2

end Go.Proofs.YtdchjcidfaencaaGreat

namespace Go.Proofs.YtdchjcidfaencaaGreat
open Go.RowKit Go.Lib

theorem rFrom_nat (r : RchL) (j : Nat) : rFrom r (j : Int) = rFromN r j := by
  unfold rFrom
  rw [if_neg (by omega)]
  rfl

section
variable {S : ReachSpec} {w0 w w' : World} {b4 b6 b9 : Nat} {n sn : ByteArray} {sl s f : Value} {t x now : Int} {r : RchL}
end

end Go.Proofs.YtdchjcidfaencaaGreat

namespace Go.Proofs.YtdchjcidfaencaaGreat
open Go.ChangeShapes Go.WideShapes Go.ChangeAt Go.RowKit Go.Lib

theorem tin64_of (n : Int) (h : (Lit.int .i64 n).wf = true) : TIn64 n := int_bounds h

end Go.Proofs.YtdchjcidfaencaaGreat
