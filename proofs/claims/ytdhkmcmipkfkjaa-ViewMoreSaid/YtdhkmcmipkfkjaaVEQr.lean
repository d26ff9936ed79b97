/-
  Two records held against each other by ==.
-/
import Derived.Laws.StructEq
import Derived.Shelf.SlicesE.Kit
import Derived.Test.YtdhkmcmipkfkjaaR24
namespace Go.Proofs.Ytdhkmcmipkfkjaa
open Go.RowKit Go.Lib

/-- Are two records one? -/
def recSame (x y : TRec) : Bool := (x.n.toList == y.n.toList) && ((x.s == y.s) && ((x.a.c == y.a.c) && ((x.a.hi == y.a.hi) && ((x.a.lo == y.a.lo) && ((x.a.mn == y.a.mn) && (x.a.mx == y.a.mx))))))

theorem recSame_iff {x y : TRec} : recSame x y = true ↔ x = y := by
  unfold recSame
  simp only [Bool.and_eq_true, beq_iff_eq]
  obtain ⟨xn, xs, x0, x1, x2, x3, x4⟩ := x
  obtain ⟨yn, ys, y0, y1, y2, y3, y4⟩ := y
  constructor
  · rintro ⟨h0, h1, h2, h3, h4, h5, h6⟩
    simp only at h0 h1 h2 h3 h4 h5 h6
    have h := toList_eq h0
    subst h h1 h2 h3 h4 h5 h6
    rfl
  · intro h
    simp only [TRec.mk.injEq, Ag.mk.injEq] at h
    obtain ⟨rfl, rfl, rfl, rfl, rfl, rfl, rfl⟩ := h
    exact ⟨rfl, rfl, rfl, rfl, rfl, rfl, rfl⟩

theorem eqF_step {P : Program} {d : Nat} {xs ys : Array Value} {f : Field} {fs : List Field} {w : World} {a b : Value} {r s : Bool} (hf : f.name ≠ "_") (ha : (Go.part f.type xs f.offset).run P w = .ok a w) (hb : (Go.part f.type ys f.offset).run P w = .ok b w)
    (hr : (Op.equalIn d f.type a b).run P w = .ok r w) (hrest : (Op.eqFields d xs ys fs).run P w = .ok s w) : (Op.eqFields d xs ys (f :: fs)).run P w = .ok (r && s) w := by
  unfold Op.eqFields
  rw [if_pos hf]
  simp only [Sem.run_bind, ha, hb, hr, Result.andThen_ok, Sem.run_ite]
  cases r
  · rfl
  · simpa using hrest
theorem eqF_last {P : Program} {d : Nat} {xs ys : Array Value} {f : Field} {w : World} {a b : Value} {r : Bool} (hf : f.name ≠ "_") (ha : (Go.part f.type xs f.offset).run P w = .ok a w) (hb : (Go.part f.type ys f.offset).run P w = .ok b w)
    (hr : (Op.equalIn d f.type a b).run P w = .ok r w) : (Op.eqFields d xs ys [f]).run P w = .ok r w := by
  have h := eqF_step (fs := []) (s := true) hf ha hb hr (by simp [Op.eqFields])
  rwa [Bool.and_true] at h

theorem rec_fields : ∃ f0 f1 f2 : Field, (Try.prog.fieldsOf 51).toList = [f0, f1, f2] ∧ (f0.name ≠ "_" ∧ f0.type = 9 ∧ f0.offset = 0) ∧ (f1.name ≠ "_" ∧ f1.type = 3 ∧ f1.offset = 1) ∧ (f2.name ≠ "_" ∧ f2.type = 49 ∧ f2.offset = 2) := by
  simp only [Program.fieldsOf, Try.underlying51]
  exact ⟨_, _, _, rfl, ⟨by decide, rfl, rfl⟩, ⟨by decide, rfl, rfl⟩, ⟨by decide, rfl, rfl⟩⟩

theorem agg_fields : ∃ f0 f1 f2 f3 f4 : Field, (Try.prog.fieldsOf 49).toList = [f0, f1, f2, f3, f4] ∧ (f0.name ≠ "_" ∧ f0.type = 3 ∧ f0.offset = 0) ∧ (f1.name ≠ "_" ∧ f1.type = 3 ∧ f1.offset = 1) ∧ (f2.name ≠ "_" ∧ f2.type = 47 ∧ f2.offset = 2) ∧ (f3.name ≠ "_" ∧ f3.type = 3 ∧ f3.offset = 3) ∧ (f4.name ≠ "_" ∧ f4.type = 3 ∧ f4.offset = 4) := by
  simp only [Program.fieldsOf, Try.underlying49]
  exact ⟨_, _, _, _, _, rfl, ⟨by decide, rfl, rfl⟩, ⟨by decide, rfl, rfl⟩, ⟨by decide, rfl, rfl⟩, ⟨by decide, rfl, rfl⟩, ⟨by decide, rfl, rfl⟩⟩

set_option maxRecDepth 100000 in
theorem aggEqlIn (d : Nat) (x y : Ag) (w : World) : (Op.equalIn (d + 2) 49 (agv x) (agv y)).run Try.prog w = .ok ((x.c == y.c) && ((x.hi == y.hi) && ((x.lo == y.lo) && ((x.mn == y.mn) && (x.mx == y.mx))))) w := by
  have hS : Try.prog.underlying 49 = some (.struct (Try.prog.fieldsOf 49)) := by kernel_rfl
  have hp : Try.prog.stoodInHeld 49 = false := by kernel_rfl
  rw [run_equalIn_struct w (d + 1) 49 _ _ hS hp]
  obtain ⟨f0, f1, f2, f3, f4, hf, ⟨n0, t0, o0⟩, ⟨n1, t1, o1⟩, ⟨n2, t2, o2⟩, ⟨n3, t3, o3⟩, ⟨n4, t4, o4⟩⟩ := agg_fields
  rw [hf]
  refine eqF_step n0 (a := .int .i64 x.c) (b := .int .i64 y.c) ?_ ?_ ?_ (eqF_step n1 (a := .int .i64 x.hi) (b := .int .i64 y.hi) ?_ ?_ ?_ (eqF_step n2 (a := .int .u64 x.lo) (b := .int .u64 y.lo) ?_ ?_ ?_ (eqF_step n3 (a := .int .i64 x.mn) (b := .int .i64 y.mn) ?_ ?_ ?_ (eqF_last n4 (a := .int .i64 x.mx) (b := .int .i64 y.mx) ?_ ?_ ?_)))) <;> simp only [t0, t1, t2, t3, t4, o0, o1, o2, o3, o4]
  all_goals first
    | exact run_equalIn_int w d _ _ .i64 _ _ Try.underlying3
    | exact run_equalIn_int w d _ _ .u64 _ _ Try.underlying47
    | (go_simp; done)
    | rfl

theorem recGuard : Try.prog.eqGuardType Try.prog.depth 51 = false := by kernel_rfl

end Go.Proofs.Ytdhkmcmipkfkjaa
