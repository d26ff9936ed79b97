/-
  What settle, New and Twin answer: whole rows by value.
-/
import Derived.Test.YtpgiknejgolllaaEB
namespace Go.Proofs.Ytpgiknejgolllaa
open Go.RowKit Go.Lib

theorem shelves_size : (Try.prog.info? 28).map (·.size) = some 64 := by kernel_rfl
theorem disk_size : (Try.prog.info? 31).map (·.size) = some 136 := by kernel_rfl

theorem settle_any (w : World) (p : Nat) (d : DV) (h : DBlk w p d) (h1 : ∀ v ∈ d.now, v.oneCell' = true) :
    Calls Try.prog 27 #[dptr p] w fun e w' => e = .returned (.tuple #[]) ∧ DBlk w' p d.settle ∧ w.grownBy w' (some p) := by
  have H := Hid.of h
  have H1 := Hid.of h1
  clear h h1
  go_enter Try.func27, Try.ntmps27
  go_wp2_with (first
    | (refine wpList_load_mid rfl 28 _ rfl p 6 rfl d.now _ H.out.rnow Try.underlying28 rfl (by rw [H.out.now]; exact shelves_size) ?_)
    | (refine wpList_store_mid rfl 28 _ _ rfl p 70 d.now.toArray rfl rfl (by simpa [H.out.now] using H.out.there_last) (by simpa [H.out.now] using shelves_size) (all_oneCell_toArray H1.out) ?_
       obtain ⟨w1, hw1⟩ : ∃ w1, w.setCells p 70 d.now.toArray.toList = w1 := ⟨_, rfl⟩
       rw [hw1]
       have K1 : Hid (DBlk w1 p { d with last := d.now }) := Hid.of (by rw [← hw1]; exact H.out.last_ d.now H.out.now)
       have G1 : Hid (w.grownBy w1 (some p)) := Hid.of (by rw [← hw1]; exact setCells_other p _ _ _)
       clear hw1
       have e4 := K1.out.c134
       have e5 := K1.out.c135
       have f4 := K1.out.free 134
       have f5 := K1.out.free 135))
  go_end0
  refine ⟨rfl, (K1.out.latest_ (.pointer none)).waiting_ 0, grownBy_trans (grownBy_trans G1.out (grownBy_setCell _ _ _ _)) (grownBy_setCell _ _ _ _)⟩

section
variable {P : Program}

/-- A struct or an array put together, its cells said. -/
theorem wpList_built {ops : Array Oper} {rest : List Oper} {o : Oper} {a : Act} {w : World} {Q : Exit → Act → World → Prop} (hg : o.guard = none) (t : TypeId) (ps : List (Nat × Operand)) (ho : o.op = .build t ps.toArray)
    (cs : Array Value) (hc : P.built t (ps.map fun x => (x.1, a.eval x.2)) = some cs)
    (h : wpList P ops Q rest (a.put o.dst (.agg cs)) w) : wpList P ops Q (o :: rest) a w := by
  have e : P.built t (ps.toArray.map fun (i, x) => (i, a.eval x)).toList = some cs := by
    rw [← hc]
    congr 1
    simp
  exact wpList_build hg t ps.toArray ho (by rw [e]; rfl) (by rw [e]; exact h)

/-- A variable on the heap, its cells said. -/
theorem wpList_boxed {ops : Array Oper} {rest : List Oper} {o : Oper} {a : Act} {w : World} {Q : Exit → Act → World → Prop} (hg : o.guard = none) (t : TypeId) (x : Operand) (ho : o.op = .box t x)
    (cs : Array Value) (hx : (a.eval x).cells = cs)
    (h : wpList P ops Q rest (a.put o.dst (.pointer (some ⟨w.heap.size, 0, none⟩))) (w.alloc (.cells cs t))) : wpList P ops Q (o :: rest) a w :=
  wpList_plain hg fun K hK => by
    unfold Oper.wp execOp
    simp only [ho, Instr.box, newVar, newRow, run_newObj_alloc, Sem.run_bind, Sem.run_pure, Result.andThen_ok, hx]
    exact hK _ _ h

/-- A variable of a type whose zero value is known. -/
theorem wpList_zeroed {ops : Array Oper} {rest : List Oper} {o : Oper} {a : Act} {w : World} {Q : Exit → Act → World → Prop} (hg : o.guard = none) (t : TypeId) (ho : o.op = .alloc t)
    (z : Value) (hz : ∀ w, (zeroValue t).run P w = .ok z w) (cs : Array Value) (hx : z.cells = cs)
    (h : wpList P ops Q rest (a.put o.dst (.pointer (some ⟨w.heap.size, 0, none⟩))) (w.alloc (.cells cs t))) : wpList P ops Q (o :: rest) a w :=
  wpList_plain hg fun K hK => by
    unfold Oper.wp execOp
    simp only [ho, Instr.alloc, hz, newVar, newRow, run_newObj_alloc, Sem.run_bind, Sem.run_pure, Result.andThen_ok, hx]
    exact hK _ _ h
end

def dvFresh (n : Int) : DV := ⟨true, 0, false, 0, .slice none 0 0, n, List.replicate 64 (.pointer none), List.replicate 64 (.pointer none), .pointer none, 0⟩

def powerCells : Array Value := #[.bool true, .int .i64 0, .bool false, .int .i64 0, .slice none 0 0]

theorem power_built : Try.prog.built 25 [(0, .bool true)] = some powerCells := by kernel_rfl
theorem disk_built (n : Int) : Try.prog.built 31 [(0, .agg powerCells), (1, .int .i64 n)] = some (dvFresh n).cells.toArray := by kernel_rfl

set_option maxRecDepth 20000 in
theorem New_any (n : Nat) (w : World) (h1 : 1 ≤ n) (h2 : n ≤ 4096) :
    Calls Try.prog 19 #[.int .i64 n] w fun e w' => ∃ p, e = .returned (dptr p) ∧ DBlk w' p (dvFresh n) ∧ w.heap.size ≤ p ∧ Below w.heap.size w w' := by
  have h3 : (1 : Int) ≤ n := by omega
  have h4 : (n : Int) ≤ 4096 := by omega
  go_enter Try.func19, Try.ntmps19
  go_wp2_with (first
    | (refine wpList_built rfl 25 _ rfl powerCells power_built ?_)
    | (refine wpList_built rfl 31 _ rfl (dvFresh n).cells.toArray (disk_built n) ?_)
    | (refine wpList_boxed rfl 31 _ rfl (dvFresh n).cells.toArray rfl ?_))
  go_ret
  exact ⟨_, rfl, ⟨Go.heap_alloc_new _ _, by simp [dvFresh], by simp [dvFresh]⟩, Nat.le_refl _, (Below.refl _ _).alloc (Nat.le_refl _) _⟩

theorem disk_zero : ∃ cs : Array Value, (∀ w, (zeroValue 31).run Try.prog w = .ok (.agg cs) w) ∧ cs.size = 136 := by
  obtain ⟨i0, hi, hz0, hz1, hz2⟩ := info_parts (show (Try.prog.info? 31).map (fun i => (i.zero, i.size, i.bytes)) = some (some (.agg ({ dvFresh 0 with on := false }).cells.toArray), 136, 1104) by kernel_rfl)
  refine ⟨({ dvFresh 0 with on := false }).cells.toArray, fun w => ?_, by simp [DV.cells, DV.head, dvFresh]⟩
  generalize ({ dvFresh 0 with on := false }).cells.toArray = cs at hz0
  simp [zeroValue, typeInfo, hi, hz0]

theorem Twin_any (w : World) (p : Nat) (d : DV) (h : DBlk w p d) (h1 : ∀ v ∈ d.cells, v.oneCell' = true) :
    Calls Try.prog 17 #[dptr p] w fun e w' => ∃ q, e = .returned (dptr q) ∧ DBlk w' q d ∧ w.heap.size ≤ q ∧ Below w.heap.size w w' := by
  have H := Hid.of h
  have H1 := Hid.of h1
  have HL : Hid (d.cells.length = 136) := Hid.of (by simp [DV.cells, DV.head, h.now, h.last])
  obtain ⟨z, hz, hs⟩ := disk_zero
  have HZ := Hid.of hz
  have HS := Hid.of hs
  clear h h1 hz hs
  go_enter Try.func17, Try.ntmps17
  go_wp2_with (first
    | (refine wpList_load_mid rfl 31 _ rfl p 0 rfl d.cells _ H.out.rall Try.underlying31 rfl (by rw [HL.out]; exact disk_size) ?_)
    | (refine wpList_zeroed rfl 31 rfl (.agg z) HZ.out z rfl ?_)
    | (refine wpList_store_row rfl 31 _ _ rfl w.heap.size d.cells.toArray rfl rfl 31 z (Go.heap_alloc_new _ _) (by simpa [HL.out] using disk_size) (by simp [HS.out, HL.out]) (all_oneCell_toArray H1.out) ?_))
  go_ret
  refine ⟨_, rfl, ⟨setRow_heap _ _ _ _ _ _ (Go.heap_alloc_new _ _), H.out.now, H.out.last⟩, Nat.le_refl _, ⟨rfl, rfl, rfl, by simp, fun k hk => ?_⟩⟩
  rw [setRow_other _ _ _ _ (by omega)]
  exact Below.heap_alloc _ _ _ hk

end Go.Proofs.Ytpgiknejgolllaa
