/-
  A bundle of texts: TCF TCG TCH.
-/
import Derived.Laws.CopyOwn
import Derived.Lib.AppendZerosOnto
import Derived.Lib.Overlaps
import Derived.Test.YtbhcafginmkaaaaGreatN29
namespace Go.Proofs.YtbhcafginmkaaaaGreat
open Go.RowKit Go.Lib Go.Sort

section
variable {P : Program}

theorem run_append_two (w : World) (t t2 ty e e2 : TypeId) (i : TypeInfo) (ht : P.underlying t = some (.slice e)) (ht2 : P.underlying t2 = some (.slice e2)) (hi : P.info? e = some i) (a : Option Addr) (n c : Nat) (y : Value) :
    (Builtin.append_ #[t, t2] ty #[.slice a n c, y]).run P w = (Builtin.append_ #[t, t] ty #[.slice a n c, y]).run P w := by
  simp [Builtin.append_, run_underlying ht, run_underlying ht2, sizeOf, typeInfo, hi]

/-- As append_keep_law, the two slices being of two types. -/
theorem append_two_law {w : World} {ops : Array Oper} {rest : List Oper} {o : Oper} {a : Act} {Q : Exit → Act → World → Prop} (hgd : o.guard = none) (s x : Operand) (t t2 : TypeId)
    (ho : o.op = .call { callee := .builtin .append, args := #[s, x], argTypes := #[t, t2] })
    (base : Nat) (e e2 : TypeId) (i : TypeInfo) (z : Value) (size bytes : Nat) (ht : P.underlying t = some (.slice e)) (ht2 : P.underlying t2 = some (.slice e2)) (hi : P.info? e = some i) (hz : i.zero = some z)
    (hsize : i.size = size) (hby : i.bytes = bytes) (hzs : z.cells.size = size) (hsz : 0 < size)
    (v : Value) (n : Nat) (xs : List Value) (hs : a.eval s = v) (hown : w.ownsRow base e size v n xs)
    (b oo m c : Nat) (news : List Value) (hx : a.eval x = .slice (some ⟨b, oo, none⟩) m c) (hrow : Cells w b oo news) (hl : news.length = m * size) (h1 : ∀ u ∈ news, u.oneCell' = true)
    (h63 : n + m ≤ maxLen) (hbytes : (n + m) * bytes ≤ 140737488355328) (hbase : base ≤ w.heap.size)
    (h : ∀ v' w', w'.ownsRow base e size v' (n + m) (xs ++ news) → w.grownBy w' v.ownBlock → (v'.ownBlock = v.ownBlock ∨ ∃ g, v'.ownBlock = some g ∧ w.heap.size ≤ g) → wpList P ops Q rest (a.put o.dst v') w') : wpList P ops Q (o :: rest) a w := by
  have hcells : ∀ j u, news[j]? = some u → w.cell? ((⟨b, oo, none⟩ : Addr).add j) = some u := by
    intro j u hj
    have ea : (⟨b, oo, none⟩ : Addr).add j = ⟨b, oo + j, none⟩ := by unfold Addr.add; split <;> simp_all
    rw [ea]
    exact hrow j u hj
  obtain ⟨v', w', hr, h2, h3, _, h5⟩ := run_append_keep (P := P) w base t o.type e i z size bytes ht hi hz hsize hby hzs hsz v n xs hown ⟨b, oo, none⟩ m c news hl hcells h1 h63 hbytes hbase
  have hv : ∃ a n c, v = .slice a n c := by
    rcases hown.2 with ⟨h0, _⟩ | ⟨g, cap, cur, h0, _⟩
    · exact ⟨_, _, _, h0⟩
    · exact ⟨_, _, _, h0⟩
  obtain ⟨va, vn, vc, rfl⟩ := hv
  rw [← run_append_two w t t2 o.type e e2 i ht ht2 hi] at hr
  refine wpList_plain hgd fun K hK => ?_
  unfold Oper.wp
  simp [execOp, ho, resolve, invoke, builtin, hs, hx, hr, Result.andThen]
  exact hK _ _ (h v' w' h2 h3 h5)

theorem run_copyk_row (w : World) (dT sT ty elem : TypeId) (sz g o dLen dCap : Nat) (a : Addr) (sLen sCap : Nat) (cur : Array Value) (t : TypeId) (cs : List Value)
    (hu : P.underlying dT = some (.slice elem)) (hs : (P.info? elem).map (·.size) = some sz)
    (hg : w.heap[g]? = some (.cells cur t (0, 0))) (hn : cs.length = Nat.min sLen dLen * sz)
    (hsrc : ∀ j v, cs[j]? = some v → w.cell? (a.add j) = some v) (hfit : o + cs.length ≤ cur.size) (h1 : ∀ v ∈ cs, v.oneCell' = true) :
    (Builtin.copy_ #[dT, sT] ty #[.slice (some ⟨g, o, none⟩) dLen dCap, .slice (some a) sLen sCap]).run P w =
      .ok (goInt (Nat.min sLen dLen : Nat)) (w.setRow g (cur.toList.take o ++ cs ++ cur.toList.drop (o + cs.length)).toArray) := by
  have hl := run_loadCells_list (P := P) w a cs hsrc
  have hst := run_storeCells_at P g o t cs 0 cur w hg (by simpa using hfit) h1
  rw [hn] at hl
  cases hq : P.info? elem with
  | none => simp [hq] at hs
  | some i =>
    have hi : i.size = sz := by simpa [hq] using hs
    simp [Builtin.copy_, run_underlying hu, Builtin.lenOf, Builtin.firstCells, sizeOf, typeInfo, hq, hi, hl, hst]

theorem run_copyk_none (w : World) (dT sT ty elem : TypeId) (sz : Nat) (d a : Option Addr) (dLen dCap sLen sCap : Nat) (hu : P.underlying dT = some (.slice elem)) (hs : (P.info? elem).map (·.size) = some sz) (hn : Nat.min sLen dLen = 0) :
    (Builtin.copy_ #[dT, sT] ty #[.slice d dLen dCap, .slice a sLen sCap]).run P w = .ok (goInt 0) w := by
  cases hq : P.info? elem with
  | none => simp [hq] at hs
  | some i =>
    cases a <;> cases d <;> simp [Builtin.copy_, run_underlying hu, Builtin.lenOf, Builtin.firstCells, sizeOf, typeInfo, hq, hn, loadCells, loadCellsFrom, storeCells]

/-- 'copy(dst, src)', the place and the cells given by the prover: the row holds them behind it. -/
theorem run_copyk (w : World) (dT sT ty elem : TypeId) (sz : Nat) (hu : P.underlying dT = some (.slice elem)) (hsz : (P.info? elem).map (·.size) = some sz) (dp sp : Option Addr) (dLen dCap sLen sCap : Nat)
    (g off : Nat) (cur : List Value) (t : TypeId) (hg : w.heap[g]? = some (.cells cur.toArray t (0, 0))) (cs : List Value) (hn : cs.length = Nat.min sLen dLen * sz) (h0 : 0 < sz)
    (hpos : 0 < cs.length → dp = some ⟨g, off, none⟩ ∧ ∃ ad, sp = some ad ∧ ∀ j v, cs[j]? = some v → w.cell? (ad.add j) = some v)
    (hfit : off + cs.length ≤ cur.length) (h1 : ∀ v ∈ cs, v.oneCell' = true) :
    ∃ w', (Builtin.copy_ #[dT, sT] ty #[.slice dp dLen dCap, .slice sp sLen sCap]).run P w = .ok (goInt (Nat.min sLen dLen : Nat)) w' ∧ w'.heap[g]? = some (.cells (splice cur off cs).toArray t (0, 0)) ∧ w.grownBy w' (some g) := by
  by_cases h : cs.length = 0
  · obtain rfl : cs = [] := List.eq_nil_of_length_eq_zero h
    have hm : Nat.min sLen dLen = 0 := by
      rcases Nat.eq_zero_or_pos (Nat.min sLen dLen) with c | c
      · exact c
      · have := Nat.mul_pos c h0
        simp at hn
        omega
    refine ⟨w, by rw [run_copyk_none w dT sT ty elem sz dp sp dLen dCap sLen sCap hu hsz hm, hm]; rfl, ?_, grownBy_refl _ _⟩
    simpa [splice] using hg
  · obtain ⟨rfl, ad, rfl, hsrc⟩ := hpos (by omega)
    refine ⟨_, run_copyk_row w dT sT ty elem sz g off dLen dCap ad sLen sCap cur.toArray t cs hu hsz hg hn hsrc (by simpa using hfit) h1, ?_, ?_⟩
    · simpa [splice] using setRow_heap w g _ _ t _ hg
    · exact ⟨rfl, rfl, rfl, by simp [World.setRow], fun k _ hne => setRow_other w g k _ (fun e => hne (by rw [e]))⟩

/-- .. as a law for the walk. -/
theorem copyk_law {w : World} {ops : Array Oper} {rest : List Oper} {o : Oper} {a : Act} {Q : Exit → Act → World → Prop} (hgd : o.guard = none) (d s : Operand) (dT sT : TypeId)
    (ho : o.op = .call { callee := .builtin .copy, args := #[d, s], argTypes := #[dT, sT] }) (elem : TypeId) (sz : Nat) (hu : P.underlying dT = some (.slice elem)) (hsz : (P.info? elem).map (·.size) = some sz)
    (dp sp : Option Addr) (dLen dCap sLen sCap : Nat) (hd : a.eval d = .slice dp dLen dCap) (hs : a.eval s = .slice sp sLen sCap)
    (g off : Nat) (cur : List Value) (t : TypeId) (hg : w.heap[g]? = some (.cells cur.toArray t (0, 0))) (cs : List Value) (hn : cs.length = Nat.min sLen dLen * sz) (h0 : 0 < sz)
    (hpos : 0 < cs.length → dp = some ⟨g, off, none⟩ ∧ ∃ ad, sp = some ad ∧ ∀ j v, cs[j]? = some v → w.cell? (ad.add j) = some v)
    (hfit : off + cs.length ≤ cur.length) (h1 : ∀ v ∈ cs, v.oneCell' = true)
    (h : ∀ r w', Hid (w'.heap[g]? = some (.cells (splice cur off cs).toArray t (0, 0))) → Hid (w.grownBy w' (some g)) → wpList P ops Q rest (a.put o.dst (goInt r)) w') :
    wpList P ops Q (o :: rest) a w := by
  obtain ⟨w', hr, h2, h3⟩ := run_copyk (P := P) w dT sT o.type elem sz hu hsz dp sp dLen dCap sLen sCap g off cur t hg cs hn h0 hpos hfit h1
  refine wpList_plain hgd fun K hK => ?_
  unfold Oper.wp
  simp [execOp, ho, resolve, invoke, builtin, hd, hs, hr, Result.andThen]
  exact hK _ _ (h _ w' h2 h3)

/-- .. as one step of a region that draws its order. -/
theorem step_copyk {ops : Array Oper} {o : Oper} {a : Act} {w : World} {K : Act → World → Prop} {Q : Exit → Act → World → Prop} {E : Prop} (hgd : o.guard = none) (d s : Operand) (dT sT : TypeId)
    (ho : o.op = .call { callee := .builtin .copy, args := #[d, s], argTypes := #[dT, sT] }) (elem : TypeId) (sz : Nat) (hu : P.underlying dT = some (.slice elem)) (hsz : (P.info? elem).map (·.size) = some sz)
    (dp sp : Option Addr) (dLen dCap sLen sCap : Nat) (hd : a.eval d = .slice dp dLen dCap) (hs : a.eval s = .slice sp sLen sCap)
    (g off : Nat) (cur : List Value) (t : TypeId) (hg : w.heap[g]? = some (.cells cur.toArray t (0, 0))) (cs : List Value) (hn : cs.length = Nat.min sLen dLen * sz) (h0 : 0 < sz)
    (hpos : 0 < cs.length → dp = some ⟨g, off, none⟩ ∧ ∃ ad, sp = some ad ∧ ∀ j v, cs[j]? = some v → w.cell? (ad.add j) = some v)
    (hfit : off + cs.length ≤ cur.length) (h1 : ∀ v ∈ cs, v.oneCell' = true)
    (h : ∀ r w', Hid (w'.heap[g]? = some (.cells (splice cur off cs).toArray t (0, 0))) → Hid (w.grownBy w' (some g)) → K (a.put o.dst (goInt r)) w') :
    if Region.wanted o (yielded ops a.tmps) = true then Oper.wp P o a w K Q else E := by
  have hw : Region.wanted o (yielded ops a.tmps) = true := by simp [Region.wanted, hgd]
  rw [if_pos hw]
  obtain ⟨w', hr, h2, h3⟩ := run_copyk (P := P) w dT sT o.type elem sz hu hsz dp sp dLen dCap sLen sCap g off cur t hg cs hn h0 hpos hfit h1
  unfold Oper.wp
  simp [execOp, ho, resolve, invoke, builtin, hd, hs, hr, Result.andThen]
  exact h _ w' h2 h3

/-- 'append(s, make(S, k)...)' where s, a row of one's own, has no room for k more: a new row, which begins with what s held. -/
theorem zeros_law {w : World} {ops : Array Oper} {rest : List Oper} {o : Oper} {a : Act} {Q : Exit → Act → World → Prop} (hgd : o.guard = none) (s x : Operand) (t tn : TypeId)
    (ho : o.op = .call { callee := .builtin .append, args := #[s, x], argTypes := #[t, tn] })
    (e : TypeId) (i : TypeInfo) (z : Value) (size bytes : Nat) (kn : IntKind) (ht : P.underlying t = some (.slice e)) (htn : P.underlying tn = some (.int kn)) (hi : P.info? e = some i) (hz : i.zero = some z)
    (hsize : i.size = size) (hby : i.bytes = bytes) (hzs : z.cells.size = size) (hsz : 0 < size)
    (g n cap : Nat) (xs : List Value) (hs : a.eval s = .slice (some ⟨g, 0, none⟩) n cap) (hl : xs.length = n * size) (hcs : ∀ j u, xs[j]? = some u → w.cell? ⟨g, j, none⟩ = some u)
    (k : Nat) (kq : IntKind) (hx : a.eval x = .int kq k) (h0 : 0 < k) (hg : cap < n + k) (h63 : n + k ≤ maxLen) (hbytes : (n + k) * bytes ≤ 140737488355328)
    (h : ∀ cap' (cur : List Value) w', w'.heap[w.heap.size]? = some (.cells cur.toArray e (0, 0)) → cur.length = cap' * size → cur.take (n * size) = xs → n + k ≤ cap' → cap' ≤ maxLen → w.grownBy w' none → w.heap.size < w'.heap.size →
      wpList P ops Q rest (a.put o.dst (.slice (some ⟨w.heap.size, 0, none⟩) (n + k) cap')) w') : wpList P ops Q (o :: rest) a w := by
  subst hsize
  subst hby
  have hold : (Builtin.firstCells i.size n (.slice (some ⟨g, 0, none⟩) n cap)).run P w.drew = .ok xs.toArray w.drew :=
    run_firstCells_some w.drew i.size n ⟨g, 0, none⟩ n cap xs hl (fun j v hj => by
      have ea : (⟨g, 0, none⟩ : Addr).add j = ⟨g, j, none⟩ := by unfold Addr.add; split <;> simp_all
      rw [ea]
      exact hcs j v hj)
  have hb2 : k * i.bytes ≤ 281474976710656 := by
    rw [Nat.add_mul] at hbytes
    omega
  have hr := run_append_grow_zeros (P := P) w t tn o.type e i z kq kn ht htn hi hz (some ⟨g, 0, none⟩) n cap xs hold k h0 hsz hg (by simp only [maxLen] at h63; omega) hb2 (growslice_fits hg hbytes)
  have hG1 : n + k ≤ grownCap w (n + k) cap e := grownCap_ge w _ _ _
  have hG2 := grownCap_le_maxLen w (n + k) cap e h63
  refine wpList_plain hgd fun K hK => ?_
  unfold Oper.wp
  simp [execOp, ho, resolve, invoke, builtin, hs, hx, hr, Result.andThen]
  refine hK _ _ (h (grownCap w (n + k) cap e) (xs.toArray ++ Builtin.zeroCells z.cells k ++ Builtin.zeroCells z.cells (grownCap w (n + k) cap e - (n + k))).toList _ ?_ ?_ ?_ hG1 hG2 ?_ ?_)
  · have := (MapKept.heap_alloc w.drew (.cells (xs.toArray ++ (Builtin.zeroCells z.cells k ++ Builtin.zeroCells z.cells (grownCap w (n + k) cap e - (n + k)))) e)).1
    rw [Array.toArray_toList, Array.append_assoc]
    exact this
  · rw [Array.length_toList, Array.size_append, Array.size_append, List.size_toArray, hl]
    simp only [Builtin.zeroCells, Array.size_map, Array.size_range, hzs]
    rw [← Nat.add_mul, ← Nat.add_mul]
    congr 1
    omega
  · rw [Array.toList_append, Array.toList_append, List.append_assoc, ← hl]
    simp
  · have := World.grownBy_alloc w.drew (.cells (xs.toArray ++ (Builtin.zeroCells z.cells k ++ Builtin.zeroCells z.cells (grownCap w (n + k) cap e - (n + k)))) e) none
    exact ⟨this.os, this.tape, this.output, this.size, this.block⟩
  · simp

end

theorem splice_two {α : Type} (cur A V B : List α) (a m b : Nat) (hA : cur.take a = A) (hm : V.length = m) (hb : B.length = b) (hl : a + m + b ≤ cur.length) : (splice (splice cur (a + m) B) a V).take (a + m + b) = A ++ (V ++ B) := by
  unfold splice
  subst hm hb
  apply List.ext_getElem?
  intro t
  simp only [List.getElem?_take, List.getElem?_append, List.getElem?_drop, List.length_take, List.length_append, List.length_drop]
  rw [← hA]
  simp only [List.getElem?_take, List.length_take]
  repeat' split
  all_goals first | omega | rfl | (congr 1; omega) | (rw [List.getElem?_eq_none (by omega)])

theorem splice_two' {α : Type} (cur A V B : List α) (a m b : Nat) (hA : cur.take a = A) (hm : V.length = m) (hb : B.length = b) (hl : a + m + b ≤ cur.length) : (splice (splice cur a V) (a + m) B).take (a + m + b) = A ++ (V ++ B) := by
  unfold splice
  subst hm hb
  apply List.ext_getElem?
  intro t
  simp only [List.getElem?_take, List.getElem?_append, List.getElem?_drop, List.length_take, List.length_append, List.length_drop]
  rw [← hA]
  simp only [List.getElem?_take, List.length_take]
  repeat' split
  all_goals first | omega | rfl | (congr 1; omega) | (rw [List.getElem?_eq_none (by omega)])

end Go.Proofs.YtbhcafginmkaaaaGreat

namespace Go.Proofs.YtbhcafginmkaaaaGreat
open Go.RowKit Go.Lib Go.Sort

/-- What is answered lies where v lay, or in a block that was not there. -/
def OldOrNew (w : World) (v x : Value) : Prop := x.ownBlock = v.ownBlock ∨ ∃ g, x.ownBlock = some g ∧ w.heap.size ≤ g

theorem bk_info : (Tryz.prog.info? 269).map (fun i => (i.zero, i.size, i.bytes)) = some (some (.agg #[.int .i64 0, .int .i64 0, .int .i64 0, .int .u64 0, .int .i64 0, .int .i64 0]), 6, 48) := by kernel_rfl
theorem bk_size : (Tryz.prog.info? 269).map (·.size) = some 6 := by kernel_rfl

theorem flat_ones_bk (bs : List Bk) : ∀ u ∈ flat benc bs, u.oneCell' = true := flat_ones benc_one bs

theorem flat_take_bk (bs : List Bk) (i : Nat) (hi : i ≤ bs.length) : flat benc (bs.take i) = (flat benc bs).take (i * 6) := by
  have h := flat_append (enc := benc) (bs.take i) (bs.drop i)
  rw [List.take_append_drop] at h
  have e : (flat benc (bs.take i)).length = i * 6 := by rw [flat_length benc_len, List.length_take]; omega
  rw [h, ← e, List.take_left]

theorem flat_drop_bk (bs : List Bk) (i : Nat) (hi : i ≤ bs.length) : flat benc (bs.drop i) = (flat benc bs).drop (i * 6) := by
  have h := flat_append (enc := benc) (bs.take i) (bs.drop i)
  rw [List.take_append_drop] at h
  have e : (flat benc (bs.take i)).length = i * 6 := by rw [flat_length benc_len, List.length_take]; omega
  rw [h, ← e, List.drop_left]

/-- The row's block. -/
theorem own_block {w : World} {D g n cap : Nat} {bs : List Bk} (h : w.ownsRow D 269 6 (.slice (some ⟨g, 0, none⟩) n cap) n (flat benc bs)) :
    ∃ cur : List Value, w.heap[g]? = some (.cells cur.toArray 269 (0, 0)) ∧ n ≤ cap ∧ cap ≤ maxLen ∧ cur.length = cap * 6 ∧ cur.take (n * 6) = flat benc bs ∧ D ≤ g := by
  obtain ⟨g', cap', cur, h0, hD, hr, hcap, hmax, hcs, ht⟩ := h.2.resolve_left (fun c => by cases c.1)
  simp only [Value.slice.injEq, Option.some.injEq, Addr.mk.injEq, true_and, and_true] at h0
  obtain ⟨rfl, rfl⟩ := h0
  exact ⟨cur.toList, by rw [Array.toArray_toList]; exact hr, hcap, hmax, by rw [Array.length_toList]; exact hcs, ht, hD⟩

theorem own_mk {w : World} {D g n cap : Nat} {bs : List Bk} {cur : List Value} (hr : w.heap[g]? = some (.cells cur.toArray 269 (0, 0))) (hcap : n ≤ cap) (hmax : cap ≤ maxLen) (hcs : cur.length = cap * 6) (ht : cur.take (n * 6) = flat benc bs) (hl : bs.length = n) (hD : D ≤ g) :
    w.ownsRow D 269 6 (.slice (some ⟨g, 0, none⟩) n cap) n (flat benc bs) :=
  ⟨by rw [flat_length benc_len, hl], .inr ⟨g, cap, cur.toArray, rfl, hD, hr, hcap, hmax, by simpa using hcs, by simpa using ht⟩⟩

theorem own_prefix {w : World} {D g n cap : Nat} {bs : List Bk} (h : w.ownsRow D 269 6 (.slice (some ⟨g, 0, none⟩) n cap) n (flat benc bs)) (hl : bs.length = n) (i : Nat) (hi : i ≤ n) :
    w.ownsRow D 269 6 (.slice (some ⟨g, 0, none⟩) i cap) i (flat benc (bs.take i)) := by
  obtain ⟨cur, hr, hcap, hmax, hcs, ht, hD⟩ := own_block h
  refine own_mk hr (by omega) hmax hcs ?_ (by rw [List.length_take]; omega) hD
  rw [flat_take_bk bs i (by omega), ← ht, List.take_take]
  congr 1
  omega

/-- The cells behind an element. -/
theorem own_cellsAt {w : World} {D g n cap : Nat} {bs : List Bk} (h : w.ownsRow D 269 6 (.slice (some ⟨g, 0, none⟩) n cap) n (flat benc bs)) (hl : bs.length = n) (i : Nat) (hi : i ≤ n) : Cells w g (i * 6) (flat benc (bs.drop i)) := by
  intro j x hj
  rw [flat_drop_bk bs i (by omega), List.getElem?_drop] at hj
  have hlt := (List.getElem?_eq_some_iff.1 hj).1
  rw [flat_length benc_len] at hlt
  rw [h.cellAt (i * 6 + j) (by omega)]
  exact hj

theorem cells_add {w : World} {g o : Nat} {xs : List Value} (h : Cells w g o xs) : ∀ j v, xs[j]? = some v → w.cell? ((⟨g, o, none⟩ : Addr).add j) = some v := fun j v hj => by
  have ea : (⟨g, o, none⟩ : Addr).add j = ⟨g, o + j, none⟩ := by unfold Addr.add; split <;> simp_all
  rw [ea]
  exact h j v hj

theorem cells_same {w w' : World} {g o : Nat} {xs : List Value} {cur cur' : List Value} {e : TypeId} (h : Cells w g o xs) (hr : w.heap[g]? = some (.cells cur.toArray e (0, 0))) (hr' : w'.heap[g]? = some (.cells cur'.toArray e (0, 0)))
    (hs : ∀ j, j < xs.length → cur'[o + j]? = cur[o + j]?) : Cells w' g o xs := fun j v hj => by
  have h1 := h j v hj
  rw [cell_of_row _ g _ _ _ _ hr] at h1
  rw [cell_of_row _ g _ _ _ _ hr']
  have := hs j (List.getElem?_eq_some_iff.1 hj).1
  simp only [List.getElem?_toArray] at h1 ⊢
  rw [this]
  exact h1

/-- Cells of a block that a step has not turned. -/
theorem cells_kept {w w' : World} {g o k : Nat} {xs : List Value} (h : Cells w g o xs) (hb : w.grownBy w' (some k)) (hg : g < w.heap.size) (hne : g ≠ k) : Cells w' g o xs := fun j v hj => by
  rw [World.cell?_of_block (hb.block g hg (fun c => hne (by simpa using c)))]
  exact h j v hj

theorem overlaps_apart {w : World} {Du ug ul uc g : Nat} {vs : List Bk} {cur : List Value} (hu : w.ownsRow Du 269 6 (.slice (some ⟨ug, 0, none⟩) ul uc) ul (flat benc vs)) (hr : w.heap[g]? = some (.cells cur.toArray 269 (0, 0))) (h0 : 0 < cur.length)
    (hne : ug ≠ g) (m c lb cb o : Nat) : (callFunc 305 #[.slice (some ⟨ug, 0, none⟩) m c, .slice (some ⟨g, o, none⟩) lb cb]).run Tryz.prog w = .ok (.value (.bool false)) w := by
  obtain ⟨ucur, hru, _⟩ := own_block hu
  rw [run_callFunc_extern Tryz.func305 (by kernel_rfl) (by kernel_rfl) (by kernel_rfl) (e := Extern.SlicesOverlaps.overlaps #[265, 265] #[4]) (by kernel_rfl),
    Lib.run_overlaps_apart w 265 4 269 Tryz.underlying265 6 Tryz.sizeOf269 ⟨ug, 0, none⟩ ⟨g, o, none⟩ m c lb cb hne 269 269 ucur.length cur.length (by simp [World.shape?, hru]) (by simp [World.shape?, hr]) (by omega) (by simp [World.frozen?, hru]) (by simp [World.frozen?, hru])]
  rfl

theorem cells_below {w w' : World} {g o : Nat} {xs : List Value} (h : Cells w g o xs) (hb : w.grownBy w' none) (hg : g < w.heap.size) : Cells w' g o xs := fun j v hj => by
  rw [World.cell?_of_block (hb.block g hg (by simp))]
  exact h j v hj

/-- New blocks, and what was written into them. -/
theorem grown_new {w w1 w2 : World} {k : Nat} {row : Option Nat} (h : w.grownBy w1 none) (h2 : w1.grownBy w2 (some k)) (hk : w.heap.size ≤ k) : w.grownBy w2 row :=
  ⟨h2.os.trans h.os, h2.tape.trans h.tape, h2.output.trans h.output, Nat.le_trans h.size h2.size, fun i hi _ => by
    rw [h2.block i (Nat.lt_of_lt_of_le hi h.size) (by simp; omega)]
    exact h.block i hi (by simp)⟩

theorem grown_of_drew {w w' : World} {k : Option Nat} (h : w.drew.grownBy w' k) : w.grownBy w' k := ⟨h.os, h.tape, h.output, h.size, h.block⟩

set_option maxHeartbeats 6400000 in
set_option maxRecDepth 20000 in
theorem insert_any {D Du : Nat} {v u : Value} (bs vs : List Bk) (i : Nat) (w : World) (h : BkOwn w D v bs) (hu : BkOwn w Du u vs) (hoff : ∀ g, u.ownBlock = some g → v.ownBlock ≠ some g) (hi : i ≤ bs.length) (hne : vs ≠ [])
    (hn : bs.length + vs.length ≤ 100000) (hD : D ≤ w.heap.size) :
    Calls Tryz.prog 304 #[v, .int .i64 i, u] w fun e w' => ∃ x, e = .returned x ∧ BkOwn w' D x (bs.take i ++ (vs ++ bs.drop i)) ∧ w.grownBy w' v.ownBlock ∧ OldOrNew w v x := by
  have mixed : Tryz.prog.follows Departure.mixedOrders = true := by kernel_rfl
  obtain ⟨i0, hi0, hz0, hz1, hz2⟩ := info_parts bk_info
  have HI := Hid.of hi0
  have HZ0 := Hid.of hz0
  have HZ1 := Hid.of hz1
  have HZ2 := Hid.of hz2
  clear hi0 hz0 hz1 hz2
  obtain ⟨n, hbl⟩ : ∃ n, bs.length = n := ⟨_, rfl⟩
  obtain ⟨m, hvl⟩ : ∃ m, vs.length = m := ⟨_, rfl⟩
  have hm : 0 < m := by
    rcases Nat.eq_zero_or_pos m with c | c
    · exact absurd (List.length_eq_zero_iff.1 (hvl.trans c)) hne
    · exact c
  obtain ⟨ug, uc, ucur, rfl, _⟩ := hu.2.resolve_left (fun c => hne (List.length_eq_zero_iff.1 c.2))
  unfold BkOwn at h hu
  rw [hbl] at h hi hn
  rw [hvl] at hu hn ⊢
  have HU := Hid.of hu
  have UC := Hid.of (own_cellsAt hu hvl 0 (Nat.zero_le _))
  have BL := Hid.of hbl
  have VL := Hid.of hvl
  have H := Hid.of h
  have hug := (hu.lt ug rfl).2
  have UG := Hid.of hug
  clear hu hbl hvl
  have hm0 : ((m : Int) == 0) = false := beq_eq_false_iff_ne.2 (by omega)
  rcases Nat.lt_or_eq_of_le hi with hlt | rfl
  · obtain ⟨g, cap, cur0, rfl, _, _, hnc0, hcm0, _⟩ := h.2.resolve_left (fun c => by omega)
    obtain ⟨cur, hr, hnc, hcm, hcl, hct, hDg⟩ := own_block h
    have hgu : ug ≠ g := fun c => hoff ug rfl (by rw [c]; rfl)
    have hg := (Array.getElem?_eq_some_iff.1 hr).1
    have hin : ((i : Int) == (n : Int)) = false := beq_eq_false_iff_ne.2 (by omega)
    have CB := Hid.of (own_cellsAt h BL.out i hi)
    have OP := Hid.of (own_prefix h BL.out i hi)
    unfold maxLen at hcm0
    clear h hnc0 hct hcm
    by_cases hroom : n + m ≤ cap
    · -- there is room
      have hz3 : ¬ ((n : Int) + (m : Int) > (cap : Int)) := by omega
      have hov : ∀ lb cb, (callFunc 305 #[.slice (some ⟨ug, 0, none⟩) m uc, .slice (some ⟨g, (i + m) * 6, none⟩) lb cb]).run Tryz.prog w = .ok (.value (.bool false)) w := fun lb cb =>
        overlaps_apart HU.out hr (by rw [hcl]; omega) hgu m uc lb cb ((i + m) * 6)
      have hw1 : IntKind.i64.wrap ((i : Int) + (m : Int)) = (i : Int) + (m : Int) := by rw [IntKind.wrap_i64]; omega
      have hb1 : (0 : Int) ≤ (i : Int) + (m : Int) := by omega
      have htn : ((i : Int) + (m : Int)).toNat = i + m := by omega
      have hb2 : ¬ (cap = i + m) := by omega
      have hb3 : (i : Int) ≤ (n : Int) + (m : Int) := by omega
      have hb4 : ¬ (cap = i) := by omega
      have HR := Hid.of hr
      have HCL := Hid.of hcl
      clear hr hcl
      go_enter Tryz.func304, Tryz.ntmps304
      go_wp2_with (simp only [hov])
      go_region_law_o (refine step_copyk rfl (.tmp 73) (.tmp 76) 266 266 rfl 269 6 Tryz.underlying266 bk_size (some ⟨g, (i + m) * 6, none⟩) (some ⟨g, i * 6, none⟩) (n + m - (i + m)) (cap - (i + m)) (n + m - i) (cap - i) (by simp [Act.eval, Act.put]) (by simp [Act.eval, Act.put]) g ((i + m) * 6) cur 269 HR.out (flat benc (bs.drop i)) (by rw [flat_length benc_len, List.length_drop, BL.out]; congr 1; simp only [Nat.min_def]; split <;> omega) (by decide) (fun _ => ⟨rfl, _, rfl, cells_add CB.out⟩) (by rw [flat_length benc_len, List.length_drop, BL.out, HCL.out]; omega) (flat_ones_bk _) ?_; intro r1 w1 HG1 GB1)
      have GB1 : Hid (w.grownBy w1 (some g)) := Hid.of (grown_of_drew GB1.out)
      go_wp2_with (refine copyk_law rfl (.tmp 80) (.tmp 81) 266 265 rfl 269 6 Tryz.underlying266 bk_size (some ⟨g, i * 6, none⟩) (some ⟨ug, 0, none⟩) (n + m - i) (cap - i) m uc rfl rfl g (i * 6) _ 269 HG1.out (flat benc vs) (by rw [flat_length benc_len, VL.out]; congr 1; simp only [Nat.min_def]; split <;> omega) (by decide) (fun _ => ⟨rfl, _, rfl, cells_add (cells_kept UC.out GB1.out UG.out hgu)⟩) (by rw [flat_length benc_len, VL.out, length_splice _ _ _ (by rw [flat_length benc_len, List.length_drop, BL.out, HCL.out]; omega), HCL.out]; omega) (flat_ones_bk _) ?_; intro r2 w2 HG2 GB2)
      go_ret
      refine ⟨_, rfl, ?_, grownBy_trans GB1.out GB2.out, .inl rfl⟩
      unfold BkOwn
      have hlen : (bs.take i ++ (vs ++ bs.drop i)).length = n + m := by rw [List.length_append, List.length_append, List.length_take, List.length_drop, BL.out, VL.out]; omega
      rw [hlen]
      have hb6 : (flat benc (bs.drop i)).length = (n - i) * 6 := by rw [flat_length benc_len, List.length_drop, BL.out]
      have hv6 : (flat benc vs).length = m * 6 := by rw [flat_length benc_len, VL.out]
      have hs1 : (splice cur ((i + m) * 6) (flat benc (bs.drop i))).length = cur.length := length_splice _ _ _ (by rw [hb6, HCL.out]; omega)
      refine own_mk HG2.out hroom (by unfold maxLen; omega) (by rw [length_splice _ _ _ (by rw [hs1, hv6, HCL.out]; omega), hs1, HCL.out]) ?_ hlen hDg
      have := splice_two cur (flat benc (bs.take i)) (flat benc vs) (flat benc (bs.drop i)) (i * 6) (m * 6) ((n - i) * 6) (by
        obtain ⟨cur2, k1, _, _, _, k2, _⟩ := own_block OP.out
        rw [HR.out] at k1
        simp only [Option.some.injEq, Obj.cells.injEq, Array.mk.injEq, and_true] at k1
        rw [k1]; exact k2) hv6 hb6 (by rw [HCL.out]; omega)
      rw [flat_append, flat_append, ← this, show i * 6 + m * 6 = (i + m) * 6 by omega, show (i + m) * 6 + (n - i) * 6 = (n + m) * 6 by omega]
    · -- a new row
      have hz3 : (n : Int) + (m : Int) > (cap : Int) := by omega
      obtain ⟨k, hk⟩ : ∃ k : Nat, (n : Int) + (m : Int) - (i : Int) = (k : Int) := ⟨n + m - i, by omega⟩
      have hk0 : 0 < k := by omega
      have hik : i + k = n + m := by omega
      have HIK := Hid.of hik
      have hw1 : IntKind.i64.wrap ((i : Int) + (m : Int)) = (i : Int) + (m : Int) := by rw [IntKind.wrap_i64]; omega
      have hb1 : (0 : Int) ≤ (i : Int) + (m : Int) := by omega
      have htn : ((i : Int) + (m : Int)).toNat = i + m := by omega
      have hb4 : ¬ (cap = i) := by omega
      have hkm : m < k := by omega
      have hkm2 : m ≤ k := by omega
      have hlen : (bs.take i ++ (vs ++ bs.drop i)).length = i + k := by rw [List.length_append, List.length_append, List.length_take, List.length_drop, BL.out, VL.out]; omega
      have HLEN := Hid.of hlen
      have HG := Hid.of hg
      clear hik hr hcl hlen hg
      go_enter Tryz.func304, Tryz.ntmps304
      go_wp2_with (first | (at_builtin; refine zeros_law rfl (.tmp 34) (.tmp 39) 266 3 rfl 269 i0 (.agg #[.int .i64 0, .int .i64 0, .int .i64 0, .int .u64 0, .int .i64 0, .int .i64 0]) 6 48 .i64 Tryz.underlying266 Tryz.underlying3 HI.out HZ0.out HZ1.out HZ2.out rfl (by decide) g i cap (flat benc (bs.take i)) rfl OP.out.1 (fun j u hj => by rw [OP.out.cellAt j (by have := (List.getElem?_eq_some_iff.1 hj).1; rw [OP.out.1] at this; exact this)]; exact hj) k .i64 rfl hk0 (by omega) (by unfold maxLen; omega) (by omega) ?_; intro cap2 cur2 w1 hr2 hcl2 hct2 hcc2 hcm2 hgr1 hsz1; have HR2 := Hid.of hr2; have HCL2 := Hid.of hcl2; have HCT2 := Hid.of hct2; have GR1 := Hid.of hgr1; have hcm3 : cap2 ≤ 9223372036854775807 := (by unfold maxLen at hcm2; omega); have hn4 : ¬ (cap2 = i) := (by omega); have hn5 : ¬ (cap2 = i + m) := (by omega); clear hr2 hcl2 hct2 hgr1 hcm2) | (refine copyk_law rfl (.tmp 43) (.tmp 44) 266 265 rfl 269 6 Tryz.underlying266 bk_size _ _ _ _ _ _ rfl rfl w.heap.size (i * 6) cur2 269 HR2.out (flat benc vs) (by rw [flat_length benc_len, VL.out]; congr 1; simp only [Nat.min_def]; split <;> omega) (by decide) (fun _ => ⟨rfl, _, rfl, cells_add (cells_below UC.out GR1.out UG.out)⟩) (by rw [flat_length benc_len, VL.out, HCL2.out]; omega) (flat_ones_bk _) ?_; intro r2 w2 HG2 GB2))
      have hs1 : Hid ((splice cur2 (i * 6) (flat benc vs)).length = cap2 * 6) := Hid.of (by rw [length_splice _ _ _ (by rw [flat_length benc_len, VL.out, HCL2.out]; omega), HCL2.out])
      have CB2 : Hid (Cells w2 g (i * 6) (flat benc (bs.drop i))) := Hid.of (cells_kept (cells_below CB.out GR1.out HG.out) GB2.out (Nat.lt_of_lt_of_le HG.out GR1.out.size) (by have := HG.out; omega))
      go_region_law_o (refine step_copyk rfl (.tmp 50) (.tmp 53) 266 266 rfl 269 6 Tryz.underlying266 bk_size (some ⟨w.heap.size, (i + m) * 6, none⟩) (some ⟨g, i * 6, none⟩) (i + k - (i + m)) (cap2 - (i + m)) (n - i) (cap - i) (by simp [Act.eval, Act.put]) (by simp [Act.eval, Act.put]) w.heap.size ((i + m) * 6) _ 269 HG2.out (flat benc (bs.drop i)) (by rw [flat_length benc_len, List.length_drop, BL.out]; congr 1; simp only [Nat.min_def]; split <;> (have := HIK.out; omega)) (by decide) (fun _ => ⟨rfl, _, rfl, cells_add CB2.out⟩) (by rw [flat_length benc_len, List.length_drop, BL.out, hs1.out]; have := HIK.out; omega) (flat_ones_bk _) ?_; intro r3 w3 HG3 GB3)
      go_wp2
      go_ret
      have GB3' := grown_of_drew GB3.out
      refine ⟨_, rfl, ?_, grown_new GR1.out (grownBy_trans GB2.out GB3') (Nat.le_refl _), .inr ⟨_, rfl, Nat.le_refl _⟩⟩
      unfold BkOwn
      rw [HLEN.out]
      have hb6 : (flat benc (bs.drop i)).length = (n - i) * 6 := by rw [flat_length benc_len, List.length_drop, BL.out]
      have hv6 : (flat benc vs).length = m * 6 := by rw [flat_length benc_len, VL.out]
      refine own_mk HG3.out hcc2 (by unfold maxLen; omega) (by rw [length_splice _ _ _ (by rw [hs1.out, hb6]; have := HIK.out; omega), hs1.out]) ?_ HLEN.out hD
      have := splice_two' cur2 (flat benc (bs.take i)) (flat benc vs) (flat benc (bs.drop i)) (i * 6) (m * 6) ((n - i) * 6) HCT2.out hv6 hb6 (by rw [HCL2.out]; have := HIK.out; omega)
      rw [flat_append, flat_append, ← this, show i * 6 + m * 6 = (i + m) * 6 by omega, show (i + m) * 6 + (n - i) * 6 = (i + k) * 6 by have := HIK.out; omega]
  · -- at the end
    have hd : bs.drop i = [] := by rw [List.drop_eq_nil_iff, BL.out]; exact Nat.le_refl _
    have ht : bs.take i = bs := List.take_of_length_le (by rw [BL.out]; exact Nat.le_refl _)
    rw [hd, ht, List.append_nil]
    have hvc : ∃ a c, v = .slice a i c ∧ i ≤ c ∧ c ≤ maxLen := by
      rcases h.2 with ⟨h0, h1⟩ | ⟨g, cap, cur, h0, _, _, h1, h2, _⟩
      · exact ⟨none, 0, by rw [h0, h1], by omega, by decide⟩
      · exact ⟨_, _, h0, h1, h2⟩
    obtain ⟨va, vc, rfl, hic, hcm⟩ := hvc
    unfold maxLen at hcm
    clear h hd ht
    unfold OldOrNew
    obtain ⟨vb, hvb⟩ : ∃ vb, (Value.slice va i vc).ownBlock = vb := ⟨_, rfl⟩
    rw [hvb]
    have VB := Hid.of hvb
    clear hvb
    go_enter Tryz.func304, Tryz.ntmps304
    go_wp2_with (at_builtin; refine append_two_law rfl (.tmp 23) (.tmp 24) 266 265 rfl D 269 269 i0 _ 6 48 Tryz.underlying266 Tryz.underlying265 HI.out HZ0.out HZ1.out HZ2.out rfl (by decide) (.slice va i vc) i _ rfl H.out ug 0 m uc (flat benc vs) rfl UC.out (by rw [flat_length benc_len, VL.out]) (flat_ones_bk vs) (by unfold maxLen; omega) (by omega) hD ?_; intro x w1 o1 g1 l1)
    all_goals
      go_ret
      refine ⟨x, rfl, ?_, by rw [← VB.out]; exact g1, by rw [← VB.out]; exact l1⟩
      unfold BkOwn
      rw [List.length_append, BL.out, VL.out, flat_append]
      exact o1

end Go.Proofs.YtbhcafginmkaaaaGreat

namespace Go.Proofs.YtbhcafginmkaaaaGreat
open Go.RowKit Go.Lib Go.Sort

theorem overlaps_apart2 {w : World} {Du ug ul uc g : Nat} {vs : List Bk} {cur : List Value} (hu : w.ownsRow Du 269 6 (.slice (some ⟨ug, 0, none⟩) ul uc) ul (flat benc vs)) (hm : 0 < ul) (hr : w.heap[g]? = some (.cells cur.toArray 269 (0, 0)))
    (hne : g ≠ ug) (m c lb cb o : Nat) : (callFunc 305 #[.slice (some ⟨g, o, none⟩) lb cb, .slice (some ⟨ug, 0, none⟩) m c]).run Tryz.prog w = .ok (.value (.bool false)) w := by
  obtain ⟨ucur, hru, h1, _, h2, _⟩ := own_block hu
  rw [run_callFunc_extern Tryz.func305 (by kernel_rfl) (by kernel_rfl) (by kernel_rfl) (e := Extern.SlicesOverlaps.overlaps #[265, 265] #[4]) (by kernel_rfl),
    Lib.run_overlaps_apart w 265 4 269 Tryz.underlying265 6 Tryz.sizeOf269 ⟨g, o, none⟩ ⟨ug, 0, none⟩ lb cb m c hne 269 269 cur.length ucur.length (by simp [World.shape?, hr]) (by simp [World.shape?, hru]) (by omega) (by simp [World.frozen?, hr]) (by simp [World.frozen?, hr])]
  rfl

theorem clear_nothing (a : Addr) (ty : TypeId) (c : Nat) (w : World) : (Builtin.clear_ #[266] ty #[.slice (some a) 0 c]).run Tryz.prog w = .ok (.tuple #[]) w := by
  simp [Builtin.clear_, run_underlying Tryz.underlying266]

theorem splice_behind {α : Type} (cur : List α) (o : Nat) (V : List α) (t : Nat) (h : o + V.length ≤ t) (hl : o + V.length ≤ cur.length) : (splice cur o V)[t]? = cur[t]? := by
  unfold splice
  rw [List.getElem?_append_right (by rw [List.length_take]; omega), List.getElem?_append_right (by rw [List.length_take]; omega), List.getElem?_drop, List.length_take]
  congr 1
  omega

theorem own_cur {w : World} {D g n cap : Nat} {bs : List Bk} {cur : List Value} (h : w.ownsRow D 269 6 (.slice (some ⟨g, 0, none⟩) n cap) n (flat benc bs)) (hr : w.heap[g]? = some (.cells cur.toArray 269 (0, 0))) : cur.take (n * 6) = flat benc bs := by
  obtain ⟨cur2, k1, _, _, _, k2, _⟩ := own_block h
  rw [hr] at k1
  simp only [Option.some.injEq, Obj.cells.injEq, Array.mk.injEq, and_true] at k1
  rw [k1]; exact k2

theorem grown_ahead {w wq w2 : World} {row : Option Nat} (h : w.grownBy wq none) (h2 : wq.grownBy w2 row) : w.grownBy w2 row :=
  ⟨h2.os.trans h.os, h2.tape.trans h.tape, h2.output.trans h.output, Nat.le_trans h.size h2.size, fun i hi hne => by
    rw [h2.block i (Nat.lt_of_lt_of_le hi h.size) hne]
    exact h.block i hi (by simp)⟩

set_option maxHeartbeats 6400000 in
set_option maxRecDepth 20000 in
theorem replace_any {D Du : Nat} {v u : Value} (bs vs : List Bk) (i j : Nat) (w : World) (h : BkOwn w D v bs) (hu : BkOwn w Du u vs) (hoff : ∀ g, u.ownBlock = some g → v.ownBlock ≠ some g) (hij : i ≤ j) (hj : j ≤ bs.length) (hne : vs ≠ []) (hjm : j ≤ i + vs.length)
    (hn : bs.length + vs.length ≤ 100000) (hD : D ≤ w.heap.size) :
    Calls Tryz.prog 280 #[v, .int .i64 i, .int .i64 j, u] w fun e w' => ∃ x, e = .returned x ∧ BkOwn w' D x (bs.take i ++ (vs ++ bs.drop j)) ∧ w.grownBy w' v.ownBlock ∧ OldOrNew w v x := by
  have mixed : Tryz.prog.follows Departure.mixedOrders = true := by kernel_rfl
  have INS := Hid.of (insert_any bs vs i w h hu hoff (by omega) hne hn hD)
  obtain ⟨i0, hi0, hz0, hz1, hz2⟩ := info_parts bk_info
  have HI := Hid.of hi0
  have HZ0 := Hid.of hz0
  have HZ1 := Hid.of hz1
  have HZ2 := Hid.of hz2
  clear hi0 hz0 hz1 hz2
  obtain ⟨n, hbl⟩ : ∃ n, bs.length = n := ⟨_, rfl⟩
  obtain ⟨m, hvl⟩ : ∃ m, vs.length = m := ⟨_, rfl⟩
  have hm : 0 < m := by
    rcases Nat.eq_zero_or_pos m with c | c
    · exact absurd (List.length_eq_zero_iff.1 (hvl.trans c)) hne
    · exact c
  obtain ⟨ug, uc, ucur, rfl, _⟩ := hu.2.resolve_left (fun c => hne (List.length_eq_zero_iff.1 c.2))
  unfold BkOwn at h hu
  rw [hbl] at h hj hn
  rw [hvl] at hu hn hjm INS ⊢
  have HU := Hid.of hu
  have UC := Hid.of (own_cellsAt hu hvl 0 (Nat.zero_le _))
  have BL := Hid.of hbl
  have VL := Hid.of hvl
  have H := Hid.of h
  have hug := (hu.lt ug rfl).2
  have UG := Hid.of hug
  clear hu hbl hvl hug
  rcases Nat.lt_or_eq_of_le hij with hlt | rfl
  · obtain ⟨g, cap, cur0, rfl, _, _, hnc0, hcm0, _⟩ := h.2.resolve_left (fun c => by omega)
    obtain ⟨cur, hr, hnc, hcm, hcl, hct, hDg⟩ := own_block h
    have hgu : ug ≠ g := fun c => hoff ug rfl (by rw [c]; rfl)
    have hg := (Array.getElem?_eq_some_iff.1 hr).1
    have hin : ((i : Int) == (j : Int)) = false := beq_eq_false_iff_ne.2 (by omega)
    have CB := Hid.of (own_cellsAt h BL.out j hj)
    have OP := Hid.of (own_prefix h BL.out i (by omega))
    unfold maxLen at hcm0
    have hlen : (bs.take i ++ (vs ++ bs.drop j)).length = i + m + (n - j) := by rw [List.length_append, List.length_append, List.length_take, List.length_drop, BL.out, VL.out]; omega
    have HLEN := Hid.of hlen
    have HR := Hid.of hr
    have HCL := Hid.of hcl
    have HG := Hid.of hg
    have hi0 : (0 : Int) ≤ (i : Int) := by omega
    have hin2 : i ≤ n := by omega
    have hin3 : i ≤ cap := by omega
    clear h hnc0 hct hcm hlen hr hcl hg INS
    rcases Nat.lt_or_eq_of_le hj with hjn | rfl
    · have hjn2 : ((j : Int) == (n : Int)) = false := beq_eq_false_iff_ne.2 (by omega)
      have hcj : ¬ (cap = j) := by omega
      have hb6 : (flat benc (bs.drop j)).length = (n - j) * 6 := by rw [flat_length benc_len, List.length_drop, BL.out]
      have hv6 : (flat benc vs).length = m * 6 := by rw [flat_length benc_len, VL.out]
      have HB6 := Hid.of hb6
      have HV6 := Hid.of hv6
      clear hb6 hv6
      have hw1 : IntKind.i64.wrap ((i : Int) + (m : Int)) = (i : Int) + (m : Int) := by rw [IntKind.wrap_i64]; omega
      have hb1 : (0 : Int) ≤ (i : Int) + (m : Int) := by omega
      have htn : ((i : Int) + (m : Int)).toNat = i + m := by omega
      by_cases hroom : i + m + (n - j) ≤ cap
      · by_cases hfit : i + m ≤ j
        · -- just as many
          obtain rfl : j = i + m := by omega
          have hbn : (i : Int) + (m : Int) ≤ (n : Int) := by omega
          have hclr := clear_nothing
          have hnt : (i : Int) + (m : Int) + ((n - (i + m) : Nat) : Int) = (n : Int) := by omega
          have hq1 : ¬ ((n : Int) > (cap : Int)) := by omega
          have hci : ¬ (cap = i) := by omega
          have hwn : IntKind.i64.wrap (n : Int) = (n : Int) := by rw [IntKind.wrap_i64]; omega
          go_enter Tryz.func280, Tryz.ntmps280
          go_wp2_with fail
          go_quiet (fail)
          obtain ⟨wq, hwq⟩ : ∃ wq, w.drewN nq = wq := ⟨_, rfl⟩
          have BQ := Hid.of (show w.grownBy wq none by rw [← hwq]; exact ⟨rfl, rfl, rfl, Nat.le_refl _, fun _ _ _ => rfl⟩)
          have HR := Hid.of (show wq.heap[g]? = some (.cells cur.toArray 269 (0, 0)) by rw [← hwq]; exact HR.out)
          have HU := Hid.of (show wq.ownsRow Du 269 6 (.slice (some ⟨ug, 0, none⟩) m uc) m (flat benc vs) by rw [← hwq]; exact HU.out)
          have UC := Hid.of (cells_below UC.out BQ.out UG.out)
          have CB := Hid.of (cells_below CB.out BQ.out HG.out)
          have OP := Hid.of (show wq.ownsRow D 269 6 (.slice (some ⟨g, 0, none⟩) i cap) i (flat benc (bs.take i)) by rw [← hwq]; exact OP.out)
          have HS : Hid (w.heap.size = wq.heap.size) := Hid.of (by rw [← hwq]; rfl)
          rw [hwq]
          clear hwq
          go_wp2_with (refine copyk_law rfl (.tmp 95) (.tmp 96) 266 265 rfl 269 6 Tryz.underlying266 bk_size _ _ _ _ _ _ rfl rfl g (i * 6) cur 269 HR.out (flat benc vs) (by rw [HV6.out]; congr 1; simp only [Nat.min_def]; split <;> omega) (by decide) (fun _ => ⟨rfl, _, rfl, cells_add UC.out⟩) (by rw [HV6.out, HCL.out]; omega) (flat_ones_bk _) ?_; intro r2 w2 HG2 GB2)
          have HS1 : Hid ((splice cur (i * 6) (flat benc vs)).length = cap * 6) := Hid.of (by rw [length_splice _ _ _ (by rw [HV6.out, HCL.out]; omega), HCL.out])
          have CB2 : Hid (Cells w2 g ((i + m) * 6) (flat benc (bs.drop (i + m)))) := Hid.of (cells_same CB.out HR.out HG2.out (fun t _ => splice_behind cur (i * 6) (flat benc vs) ((i + m) * 6 + t) (by rw [HV6.out]; omega) (by rw [HV6.out, HCL.out]; omega)))
          go_region_law_o (refine step_copyk rfl (.tmp 103) (.tmp 106) 266 266 rfl 269 6 Tryz.underlying266 bk_size (some ⟨g, (i + m) * 6, none⟩) (some ⟨g, (i + m) * 6, none⟩) (n - (i + m)) (cap - (i + m)) (n - (i + m)) (cap - (i + m)) (by simp [Act.eval, Act.put]) (by simp [Act.eval, Act.put]) g ((i + m) * 6) _ 269 HG2.out (flat benc (bs.drop (i + m))) (by rw [HB6.out]; congr 1; simp only [Nat.min_def]; split <;> omega) (by decide) (fun _ => ⟨rfl, _, rfl, cells_add CB2.out⟩) (by rw [HB6.out, HS1.out]; omega) (flat_ones_bk _) ?_; intro r3 w3 HG3 GB3)
          go_wp2
          all_goals
            go_ret
            have GB3' := grown_of_drew GB3.out
            refine ⟨_, rfl, ?_, grown_ahead BQ.out (grownBy_trans GB2.out GB3'), .inl rfl⟩
            unfold BkOwn
            rw [HLEN.out, show i + m + (n - (i + m)) = n by omega]
            refine own_mk HG3.out (by omega) (by unfold maxLen; omega) (by
              have e1 := length_splice (splice cur (i * 6) (flat benc vs)) ((i + m) * 6) (flat benc (bs.drop (i + m))) (by rw [HS1.out, HB6.out]; omega)
              have e2 := HS1.out
              omega) ?_ (by rw [HLEN.out]; omega) hDg
            have := splice_two' cur (flat benc (bs.take i)) (flat benc vs) (flat benc (bs.drop (i + m))) (i * 6) (m * 6) ((n - (i + m)) * 6) (own_cur OP.out HR.out) HV6.out HB6.out (by rw [HCL.out]; omega)
            rw [flat_append, flat_append, ← this, show i * 6 + m * 6 = (i + m) * 6 by omega, show (i + m) * 6 + (n - (i + m)) * 6 = n * 6 by omega]
        · -- more than there were: what stands behind goes on
          obtain ⟨k, hk⟩ : ∃ k : Nat, (i : Int) + (m : Int) + ((n - j : Nat) : Int) = (k : Int) := ⟨i + m + (n - j), by omega⟩
          have hkn : i + m + (n - j) = k := by omega
          have HK := Hid.of hkn
          have hkc : k ≤ cap := by omega
          have hq1 : ¬ ((k : Int) > (cap : Int)) := by omega
          have hci : ¬ (cap = i) := by omega
          have hcim : ¬ (cap = i + m) := by omega
          have hkim : i + m ≤ k := by omega
          have hkim2 : (i : Int) + (m : Int) ≤ (k : Int) := by omega
          have hki : i ≤ k := by omega
          have hwn : IntKind.i64.wrap (k : Int) = (k : Int) := by rw [IntKind.wrap_i64]; omega
          have hf2 : ¬ ((i : Int) + (m : Int) ≤ (j : Int)) := by omega
          clear hkn
          go_enter Tryz.func280, Tryz.ntmps280
          go_wp2_with fail
          go_quiet (fail)
          obtain ⟨wq, hwq⟩ : ∃ wq, w.drewN nq = wq := ⟨_, rfl⟩
          have BQ := Hid.of (show w.grownBy wq none by rw [← hwq]; exact ⟨rfl, rfl, rfl, Nat.le_refl _, fun _ _ _ => rfl⟩)
          have HR := Hid.of (show wq.heap[g]? = some (.cells cur.toArray 269 (0, 0)) by rw [← hwq]; exact HR.out)
          have HU := Hid.of (show wq.ownsRow Du 269 6 (.slice (some ⟨ug, 0, none⟩) m uc) m (flat benc vs) by rw [← hwq]; exact HU.out)
          have UC := Hid.of (cells_below UC.out BQ.out UG.out)
          have CB := Hid.of (cells_below CB.out BQ.out HG.out)
          have OP := Hid.of (show wq.ownsRow D 269 6 (.slice (some ⟨g, 0, none⟩) i cap) i (flat benc (bs.take i)) by rw [← hwq]; exact OP.out)
          have HS : Hid (w.heap.size = wq.heap.size) := Hid.of (by rw [← hwq]; rfl)
          rw [hwq]
          clear hwq
          have hov : ∀ lb cb, (callFunc 305 #[.slice (some ⟨g, (i + m) * 6, none⟩) lb cb, .slice (some ⟨ug, 0, none⟩) m uc]).run Tryz.prog wq = .ok (.value (.bool false)) wq := fun lb cb =>
            overlaps_apart2 HU.out hm HR.out (fun c => hgu c.symm) m uc lb cb ((i + m) * 6)
          go_wp2_with (simp only [hov])
          go_region_law_o (refine step_copyk rfl (.tmp 126) (.tmp 129) 266 266 rfl 269 6 Tryz.underlying266 bk_size (some ⟨g, (i + m) * 6, none⟩) (some ⟨g, j * 6, none⟩) (k - (i + m)) (cap - (i + m)) (n - j) (cap - j) (by simp [Act.eval, Act.put]) (by simp [Act.eval, Act.put]) g ((i + m) * 6) cur 269 HR.out (flat benc (bs.drop j)) (by rw [HB6.out]; congr 1; simp only [Nat.min_def]; split <;> (have := HK.out; omega)) (by decide) (fun _ => ⟨rfl, _, rfl, cells_add CB.out⟩) (by rw [HB6.out, HCL.out]; have := HK.out; omega) (flat_ones_bk _) ?_; intro r1 w1 HG1 GB1)
          have GB1 : Hid (wq.grownBy w1 (some g)) := Hid.of (grown_of_drew GB1.out)
          have HS1 : Hid ((splice cur ((i + m) * 6) (flat benc (bs.drop j))).length = cap * 6) := Hid.of (by rw [length_splice _ _ _ (by rw [HB6.out, HCL.out]; have := HK.out; omega), HCL.out])
          go_wp2_with (refine copyk_law rfl (.tmp 133) (.tmp 134) 266 265 rfl 269 6 Tryz.underlying266 bk_size _ _ _ _ _ _ rfl rfl g (i * 6) _ 269 HG1.out (flat benc vs) (by rw [HV6.out]; congr 1; simp only [Nat.min_def]; split <;> omega) (by decide) (fun _ => ⟨rfl, _, rfl, cells_add (cells_kept UC.out GB1.out (Nat.lt_of_lt_of_le UG.out BQ.out.size) hgu)⟩) (by rw [HV6.out, HS1.out]; omega) (flat_ones_bk _) ?_; intro r2 w2 HG2 GB2)
          go_ret
          refine ⟨_, rfl, ?_, grown_ahead BQ.out (grownBy_trans GB1.out GB2.out), .inl rfl⟩
          unfold BkOwn
          rw [HLEN.out, HK.out]
          refine own_mk HG2.out hkc (by unfold maxLen; omega) (by rw [length_splice _ _ _ (by rw [HS1.out, HV6.out]; omega), HS1.out]) ?_ (by rw [HLEN.out, HK.out]) hDg
          have := splice_two cur (flat benc (bs.take i)) (flat benc vs) (flat benc (bs.drop j)) (i * 6) (m * 6) ((n - j) * 6) (own_cur OP.out HR.out) HV6.out HB6.out (by rw [HCL.out]; have := HK.out; omega)
          rw [flat_append, flat_append, ← this, show i * 6 + m * 6 = (i + m) * 6 by omega, show (i + m) * 6 + (n - j) * 6 = k * 6 by have := HK.out; omega]
      · -- a new row
        obtain ⟨tt, htt⟩ : ∃ k : Nat, (i : Int) + (m : Int) + ((n - j : Nat) : Int) = (k : Int) := ⟨i + m + (n - j), by omega⟩
        obtain ⟨k, hk⟩ : ∃ k : Nat, (tt : Int) - (i : Int) = (k : Int) := ⟨m + (n - j), by omega⟩
        have hk0 : 0 < k := by omega
        have hik : i + k = i + m + (n - j) := by omega
        have HIK := Hid.of hik
        have hq1 : (tt : Int) > (cap : Int) := by omega
        have hci : ¬ (cap = i) := by omega
        have hkm2 : m ≤ k := by omega
        have hwn : IntKind.i64.wrap (tt : Int) = (tt : Int) := by rw [IntKind.wrap_i64]; omega
        have hgt : cap < i + k := by omega
        clear hik
        go_enter Tryz.func280, Tryz.ntmps280
        go_wp2_with fail
        go_quiet (fail)
        obtain ⟨wq, hwq⟩ : ∃ wq, w.drewN nq = wq := ⟨_, rfl⟩
        have BQ := Hid.of (show w.grownBy wq none by rw [← hwq]; exact ⟨rfl, rfl, rfl, Nat.le_refl _, fun _ _ _ => rfl⟩)
        have HR := Hid.of (show wq.heap[g]? = some (.cells cur.toArray 269 (0, 0)) by rw [← hwq]; exact HR.out)
        have HU := Hid.of (show wq.ownsRow Du 269 6 (.slice (some ⟨ug, 0, none⟩) m uc) m (flat benc vs) by rw [← hwq]; exact HU.out)
        have UC := Hid.of (cells_below UC.out BQ.out UG.out)
        have CB := Hid.of (cells_below CB.out BQ.out HG.out)
        have OP := Hid.of (show wq.ownsRow D 269 6 (.slice (some ⟨g, 0, none⟩) i cap) i (flat benc (bs.take i)) by rw [← hwq]; exact OP.out)
        have HS : Hid (w.heap.size = wq.heap.size) := Hid.of (by rw [← hwq]; rfl)
        rw [hwq]
        clear hwq
        go_wp2_with (first | (at_builtin; refine zeros_law rfl (.tmp 63) (.tmp 66) 266 3 rfl 269 i0 (.agg #[.int .i64 0, .int .i64 0, .int .i64 0, .int .u64 0, .int .i64 0, .int .i64 0]) 6 48 .i64 Tryz.underlying266 Tryz.underlying3 HI.out HZ0.out HZ1.out HZ2.out rfl (by decide) g i cap (flat benc (bs.take i)) rfl OP.out.1 (fun j u hj => by rw [OP.out.cellAt j (by have := (List.getElem?_eq_some_iff.1 hj).1; rw [OP.out.1] at this; exact this)]; exact hj) k .i64 rfl hk0 hgt (by unfold maxLen; have := HIK.out; omega) (by have := HIK.out; omega) ?_; intro cap2 cur2 w1 hr2 hcl2 hct2 hcc2 hcm2 hgr1 hsz1; have HR2 := Hid.of hr2; have HCL2 := Hid.of hcl2; have HCT2 := Hid.of hct2; have GR1 := Hid.of hgr1; have hcm3 : cap2 ≤ 9223372036854775807 := (by unfold maxLen at hcm2; omega); have hn4 : ¬ (cap2 = i) := (by omega); have hn5 : ¬ (cap2 = i + m) := (by have := HIK.out; omega); clear hr2 hcl2 hct2 hgr1 hcm2) | (refine copyk_law rfl (.tmp 70) (.tmp 71) 266 265 rfl 269 6 Tryz.underlying266 bk_size _ _ _ _ _ _ rfl rfl wq.heap.size (i * 6) cur2 269 HR2.out (flat benc vs) (by rw [HV6.out]; congr 1; simp only [Nat.min_def]; split <;> omega) (by decide) (fun _ => ⟨rfl, _, rfl, cells_add (cells_below UC.out GR1.out (Nat.lt_of_lt_of_le UG.out BQ.out.size))⟩) (by rw [HV6.out, HCL2.out]; have := HIK.out; omega) (flat_ones_bk _) ?_; intro r2 w2 HG2 GB2))
        have hs1 : Hid ((splice cur2 (i * 6) (flat benc vs)).length = cap2 * 6) := Hid.of (by rw [length_splice _ _ _ (by rw [HV6.out, HCL2.out]; omega), HCL2.out])
        have GQ : Hid (g < wq.heap.size) := Hid.of (Nat.lt_of_lt_of_le HG.out BQ.out.size)
        have CB2 : Hid (Cells w2 g (j * 6) (flat benc (bs.drop j))) := Hid.of (cells_kept (cells_below CB.out GR1.out GQ.out) GB2.out (Nat.lt_of_lt_of_le GQ.out GR1.out.size) (by have := GQ.out; omega))
        go_region_law_o (refine step_copyk rfl (.tmp 78) (.tmp 81) 266 266 rfl 269 6 Tryz.underlying266 bk_size (some ⟨wq.heap.size, (i + m) * 6, none⟩) (some ⟨g, j * 6, none⟩) (i + k - (i + m)) (cap2 - (i + m)) (n - j) (cap - j) (by simp [Act.eval, Act.put]) (by simp [Act.eval, Act.put]) wq.heap.size ((i + m) * 6) _ 269 HG2.out (flat benc (bs.drop j)) (by rw [HB6.out]; congr 1; simp only [Nat.min_def]; split <;> (have := HIK.out; omega)) (by decide) (fun _ => ⟨rfl, _, rfl, cells_add CB2.out⟩) (by rw [HB6.out, hs1.out]; have := HIK.out; omega) (flat_ones_bk _) ?_; intro r3 w3 HG3 GB3)
        go_wp2
        go_ret
        have GB3' := grown_of_drew GB3.out
        have hND : D ≤ wq.heap.size := by have := HS.out; omega
        refine ⟨_, rfl, ?_, grown_new BQ.out (grown_new (row := some wq.heap.size) GR1.out (grownBy_trans GB2.out GB3') (Nat.le_refl _)) (by rw [HS.out]; exact Nat.le_refl _), .inr ⟨_, rfl, by rw [HS.out]; exact Nat.le_refl _⟩⟩
        unfold BkOwn
        rw [HLEN.out, ← HIK.out]
        refine own_mk HG3.out hcc2 (by unfold maxLen; omega) (by rw [length_splice _ _ _ (by rw [hs1.out, HB6.out]; have := HIK.out; omega), hs1.out]) ?_ (by rw [HLEN.out, HIK.out]) hND
        have := splice_two' cur2 (flat benc (bs.take i)) (flat benc vs) (flat benc (bs.drop j)) (i * 6) (m * 6) ((n - j) * 6) HCT2.out HV6.out HB6.out (by rw [HCL2.out]; have := HIK.out; omega)
        rw [flat_append, flat_append, ← this, show i * 6 + m * 6 = (i + m) * 6 by omega, show (i + m) * 6 + (n - j) * 6 = (i + k) * 6 by have := HIK.out; omega]
    · -- to the end
      have hj2 : (j : Int) ≤ (i : Int) + (m : Int) := by omega
      have hj3 : ¬ ((i : Int) + (m : Int) < (j : Int)) := by omega
      have hlen2 : (bs.take i).length = i := by rw [List.length_take, BL.out]; omega
      have HLEN2 := Hid.of hlen2
      have hd : bs.drop j = [] := by rw [List.drop_eq_nil_iff, BL.out]; exact Nat.le_refl _
      have HD := Hid.of hd
      clear hlen2 hd
      go_enter Tryz.func280, Tryz.ntmps280
      go_wp2_with (at_builtin; refine append_two_law rfl (.tmp 32) (.tmp 33) 266 265 rfl D 269 269 i0 _ 6 48 Tryz.underlying266 Tryz.underlying265 HI.out HZ0.out HZ1.out HZ2.out rfl (by decide) (.slice (some ⟨g, 0, none⟩) i cap) i _ rfl OP.out ug 0 m uc (flat benc vs) rfl UC.out (by rw [flat_length benc_len, VL.out]) (flat_ones_bk vs) (by unfold maxLen; omega) (by omega) hD ?_; intro x w1 o1 g1 l1; obtain ⟨xa, xc, rfl, -⟩ := own_one o1; have O1 := Hid.of o1; have G1 := Hid.of g1; have L1 := Hid.of l1; clear o1 g1 l1)
      all_goals
        go_ret
        refine ⟨_, rfl, ?_, G1.out, L1.out⟩
        unfold BkOwn
        rw [HD.out, List.append_nil, List.length_append, HLEN2.out, VL.out, flat_append]
        exact O1.out
  · -- nothing goes
    have hin : ((i : Int) == (i : Int)) = true := beq_self_eq_true _
    unfold OldOrNew at INS ⊢
    obtain ⟨vb, hvb⟩ : ∃ vb, v.ownBlock = vb := ⟨_, rfl⟩
    rw [hvb] at INS ⊢
    have hvc : ∃ a c, v = .slice a n c ∧ n ≤ c ∧ c ≤ maxLen := by
      rcases h.2 with ⟨h0, h1⟩ | ⟨g, cap, cur, h0, _, _, h1, h2, _⟩
      · exact ⟨none, 0, by rw [h0, h1], by omega, by decide⟩
      · exact ⟨_, _, h0, h1, h2⟩
    obtain ⟨va, vc, rfl, hic, hcm⟩ := hvc
    unfold maxLen at hcm
    have hic2 : i ≤ vc := by omega
    clear h hvb
    go_enter Tryz.func280, Tryz.ntmps280
    go_wp2_with (go_at_call 304; refine INS.out.mono ?_; rintro e w' ⟨x, rfl, o1, g1, l1⟩)
    all_goals
      go_ret
      exact ⟨x, rfl, o1, g1, l1⟩

end Go.Proofs.YtbhcafginmkaaaaGreat
