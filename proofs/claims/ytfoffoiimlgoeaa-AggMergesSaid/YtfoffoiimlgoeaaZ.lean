/-
  A law of no program: 'append(b, make([]byte, k)...)' onto a buffer of bytes that the call owns puts k bytes 0.
-/
import Derived.Test.YtfoffoiimlgoeaaB
import Derived.Lib.AppendZerosOnto
namespace Go.Proofs.Ytfoffoiimlgoeaa
open Go.RowKit Go.Lib

theorem zeroCells_one (k : Nat) : Builtin.zeroCells (Value.int .u8 0).cells k = (Lib.byteCells (List.replicate k 0)).toArray := by
  apply Array.ext'
  simp only [Builtin.zeroCells, Lib.byteCells]
  have h1 : (Value.int IntKind.u8 0).cells = #[Value.int .u8 0] := rfl
  rw [h1]
  apply List.ext_getElem
  · simp
  · intro i h1 h2
    simp [Nat.mod_one]

section
variable {P : Program}

theorem run_append_room_zeros (w : World) (t tn ty e : TypeId) (i : TypeInfo) (kq kn : IntKind) (ht : P.underlying t = some (.slice e)) (htn : P.underlying tn = some (.int kn)) (hi : P.info? e = some i) (hz : i.zero = some (.int .u8 0)) (hs1 : i.size = 1) (hb1 : i.bytes = 1)
    (g sLen sCap : Nat) (cur : Array Value) (fz : Nat × Nat) (hg : w.heap[g]? = some (.cells cur e fz)) (hfz : fz.2 ≤ sLen) (k : Nat) (hk : k ≤ 1000000)
    (hroom : sLen + k ≤ sCap) (hfit : sLen + k ≤ cur.size) :
    (Builtin.append_ #[t, tn] ty #[.slice (some ⟨g, 0, none⟩) sLen sCap, .int kq k]).run P w =
      .ok (.slice (some ⟨g, 0, none⟩) (sLen + k) sCap) (w.setRow g (cur.toList.take sLen ++ Lib.byteCells (List.replicate k 0) ++ cur.toList.drop (sLen + k)).toArray) := by
  have hw : IntKind.i64.wrap (k : Int) = k := by rw [IntKind.wrap_i64]; omega
  have hneg : ¬ ((k : Int) < 0) := by omega
  have h48i : ¬ (281474976710656 < (k : Int)) := by omega
  have hst := run_storeCells_atF P g sLen e fz (Lib.byteCells (List.replicate k 0)) 0 cur w hg (by simpa using hfz) (by simpa [Lib.byteCells] using hfit) (by intro v hv; simp [Lib.byteCells] at hv; rw [hv.2]; rfl)
  have hl : (Lib.byteCells (List.replicate k 0)).length = k := by simp [Lib.byteCells]
  simp only [Nat.add_zero, hl] at hst
  have hzc := zeroCells_one k
  by_cases h0 : k = 0
  · subst h0
    have hw0 : IntKind.i64.wrap 0 = 0 := by decide
    simp at hroom
    simp [Lib.byteCells] at hst
    simp [Builtin.append_, run_underlying ht, run_underlying htn, sizeOf, typeInfo, asInt, asIntOf, hi, hs1, hb1, hw0, hroom, Addr.add_lit, hst, Lib.byteCells]
  · simp [Builtin.append_, run_underlying ht, run_underlying htn, sizeOf, typeInfo, zeroValue, asInt, asIntOf, hi, hz, hs1, hb1, hw, hneg, h48i, h0, hroom, Addr.add_lit, hzc, hst]

theorem append_zeros_law {ops : Array Oper} {rest : List Oper} {o : Oper} {a : Act} {Q : Exit → Act → World → Prop} {w : World} (hgd : o.guard = none) (sl x : Operand) (t tn : TypeId)
    (ho : o.op = .call { callee := .builtin .append, args := #[sl, x], argTypes := #[t, tn] })
    (B : Nat) (e : TypeId) (i : TypeInfo) (kn : IntKind) (ht : P.underlying t = some (.slice e)) (hu : P.underlying tn = some (.int kn)) (hi : P.info? e = some i) (hz : i.zero = some (.int .u8 0)) (hsize : i.size = 1) (hby : i.bytes = 1)
    (v : Value) (n : Nat) (hn : 0 < n) (xs : List Value) (hs : a.eval sl = v) (W0 : World) (hb : OwnBuf B e v n xs W0 w) (kq : IntKind) (k : Nat) (hk : k ≤ 1000000) (hx : a.eval x = .int kq k) (hlen : n + k ≤ 140737488355328)
    (h : ∀ v' w', OwnBuf B e v' (n + k) (xs ++ Lib.byteCells (List.replicate k 0)) W0 w' → wpList P ops Q rest (a.put o.dst v') w') : wpList P ops Q (o :: rest) a w := by
  refine wpList_plain hgd fun K hK => ?_
  have key : ∃ v' w', (Builtin.append_ #[t, tn] o.type #[v, .int kq k]).run P w = .ok v' w' ∧ w'.ownsRowF B e 1 v' (n + k) (xs ++ Lib.byteCells (List.replicate k 0)) ∧ w.grownBy w' v.ownBlock := by
    have hown := hb.1
    rcases hown.2 with ⟨rfl, h0⟩ | ⟨g, cap, cur, fz, rfl, hbg, hg, hfz, hnc, hcm, hcs, htake⟩
    · omega
    · have hxl : xs.length = n := by simpa using hown.1
      have hzl : (Lib.byteCells (List.replicate k 0)).length = k := by simp [Lib.byteCells]
      have hl2 : (xs ++ Lib.byteCells (List.replicate k 0)).length = (n + k) * 1 := by rw [List.length_append, hxl, hzl, Nat.mul_one]
      by_cases hroom : n + k ≤ cap
      · have hcs' : cur.size = cap := by simpa using hcs
        have hr := run_append_room_zeros (P := P) w t tn o.type e i kq kn ht hu hi hz hsize hby g n cap cur fz hg (by simpa using hfz) k hk hroom (by omega)
        refine ⟨_, _, hr, ⟨hl2, .inr ⟨g, cap, _, fz, rfl, hbg, setRow_heap w g cur _ e _ hg, by omega, hroom, hcm, ?_, ?_⟩⟩, ⟨rfl, rfl, rfl, by simp, fun k _ hk => setRow_other w g k _ (fun e => hk (by simp [Value.ownBlock, e]))⟩⟩
        · simp only [List.size_toArray, List.length_append, List.length_take, List.length_drop, Array.length_toList, hzl]
          omega
        · have ht' : cur.toList.take n = xs := by simpa using htake
          rw [ht', ← hl2]
          exact List.take_left
      · have holds : ∀ j u, xs[j]? = some u → w.cell? ((⟨g, 0, none⟩ : Addr).add j) = some u := hown.cells (g := g) rfl
        have hfo := run_firstCells_some (P := P) w.drew i.size n ⟨g, 0, none⟩ n cap xs (by rw [hsize]; omega) (by simpa using holds)
        have hr := run_append_grow_zeros (P := P) w t tn o.type e i (.int .u8 0) kq kn ht hu hi hz (some ⟨g, 0, none⟩) n cap xs hfo k (by omega) (by omega) (by omega) (by omega) (by rw [hby]; omega) (by rw [hby]; exact growslice_fits (by omega) (by omega))
        have hge := grownCap_ge w (n + k) cap e
        have hcm2 : grownCap w (n + k) cap e ≤ maxLen := grownCap_le_maxLen w (n + k) cap e (by unfold maxLen; omega)
        refine ⟨_, _, hr, ⟨hl2, .inr ⟨w.heap.size, _, _, (0, 0), rfl, hb.2.2, Go.heap_alloc_new w.drew _, Nat.zero_le _, hge, hcm2, ?_, ?_⟩⟩, ⟨rfl, rfl, rfl, by simp, fun q hq _ => Below.heap_alloc w.drew _ q hq⟩⟩
        · have hz1 : (Value.int IntKind.u8 0).cells.size = 1 := rfl
          simp only [Array.size_append, List.size_toArray, size_zeroCells, hz1, hxl]
          omega
        · rw [zeroCells_one k]
          simp only [Array.toList_append, List.append_assoc]
          rw [← List.append_assoc, ← hl2]
          exact List.take_left
  obtain ⟨v', w', hr, h2, h3⟩ := key
  unfold Oper.wp execOp
  simp only [ho, resolve, invoke, builtin, Sem.run_bind, Sem.run_pure, Result.andThen_ok, List.map_toArray, List.map_cons, List.map_nil, hs, hx, hr]
  exact hK _ _ (h v' w' (hb.grown h2 h3))
end

theorem append_zeros {ops : Array Oper} {rest : List Oper} {o : Oper} {a : Act} {Q : Exit → Act → World → Prop} {w : World} (hgd : o.guard = none) (sl x : Operand)
    (ho : o.op = .call { callee := .builtin .append, args := #[sl, x], argTypes := #[60, 3] })
    (B : Nat) (v : Value) (n : Nat) (hn : 0 < n) (xs : List Value) (hs : a.eval sl = v) (W0 : World) (hb : OwnBuf B 5 v n xs W0 w) (z : Int) (k : Nat) (hzk : z = k) (hk : k ≤ 1000000) (hx : a.eval x = .int .i64 z) (hlen : n + k ≤ 140737488355328)
    (h : ∀ v' w', OwnBuf B 5 v' (n + k) (xs ++ Lib.byteCells (List.replicate k 0)) W0 w' → wpList Try.prog ops Q rest (a.put o.dst v') w') : wpList Try.prog ops Q (o :: rest) a w := by
  obtain ⟨i0, hi, hz0, hz1, hz2⟩ := info_parts (show (Try.prog.info? 5).map (fun i => (i.zero, i.size, i.bytes)) = some (some (.int .u8 0), 1, 1) by kernel_rfl)
  exact append_zeros_law hgd sl x 60 3 ho B 5 i0 .i64 Try.underlying60 Try.underlying3 hi hz0 hz1 hz2 v n hn xs hs W0 hb .i64 k hk (by rw [hx, hzk]) hlen h

end Go.Proofs.Ytfoffoiimlgoeaa
