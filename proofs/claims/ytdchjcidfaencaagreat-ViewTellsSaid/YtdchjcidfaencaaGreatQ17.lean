/-
  A bundle of texts: VKM.
-/
import Derived.Maps.RangeWalk
import Derived.Maps.OwnSet
import Derived.StringKeys
import Derived.DeepKeys4
import Derived.Test.YtdchjcidfaencaaGreatQ07
namespace Go.Proofs.YtdchjcidfaencaaGreat
open Go.RowKit Go.Lib
open Go.ChangeMaps Go.MapKept
open Go.Maps (Keyed)

/-- An element as it is. -/
def asIsB (v : Value) : Option (DataW Value × List MemPlace) := some (.held v, [])
/-- A key as a value. -/
abbrev pkv (x : TKey) : Value := .agg #[.string x.1, .int .i64 x.2]
/-- It may be one. -/
def PkOk (x : TKey) : Prop := x.1.size ≤ maxLen ∧ -9223372036854775808 ≤ x.2 ∧ x.2 ≤ 9223372036854775807

/-- What a map keyed so wants. -/
structure PairKey (P : Program) (k : TypeId) : Prop where
  keyed : Keyed P k
  some_ : ∀ {x : TKey}, PkOk x → ∃ l, keyOf P k (pkv x) = some l
  inv : ∀ {v : Value} {l : Lit}, keyOf P k v = some l → ∃ x : TKey, v = pkv x ∧ PkOk x

/-- What a key is read as. -/
noncomputable def pk (P : Program) (k : TypeId) (x : TKey) : Lit := (keyOf P k (pkv x)).getD (.int .i64 0)

section
variable {P : Program} {k : TypeId}
theorem PairKey.at (K : PairKey P k) {x : TKey} (h : PkOk x) : keyOf P k (pkv x) = some (pk P k x) := by
  obtain ⟨l, hl⟩ := K.some_ h
  unfold pk
  rw [hl]
  rfl
theorem pkv_inj {x y : TKey} (h : pkv x = pkv y) : x = y := by
  simp only [Value.agg.injEq, Array.mk.injEq, List.cons.injEq, Value.string.injEq, Value.int.injEq, true_and, and_true] at h
  exact Prod.ext h.1 h.2
theorem PairKey.inj (K : PairKey P k) {x y : TKey} (hx : PkOk x) (hy : PkOk y) (h : pk P k x = pk P k y) : x = y :=
  pkv_inj (K.keyed.inj (K.at hx) (by rw [h]; exact K.at hy))
theorem PairKey.isKey (K : PairKey P k) {x : TKey} (hx : PkOk x) : WideAt.IsKeyLit (pk P k x) := K.keyed.key (K.at hx)
theorem PairKey.same (K : PairKey P k) {x y : TKey} (hx : PkOk x) (hy : PkOk y) : (pk P k x).sameKey (pk P k y) = decide (x = y) := by
  by_cases h : x = y
  · subst h
    rw [decide_eq_true rfl]
    exact WideAt.sameKey_self (K.isKey hx)
  · rw [decide_eq_false h]
    exact Maps.sameKey_ne (fun e => h (K.inj hx hy e))
end

/-- What a map knows of each key. -/
def KnowsB (P : Program) (k : TypeId) (D : DataW Value) (m : TKey → Option Value) : Prop := ∀ s, PkOk s → (∀ v, m s = some v → ∀ z, D.atKey (pk P k s) z = .held v) ∧ (m s = none → Maps.has D (pk P k s) = false)
/-- m, and v under s. -/
def bmPut (m : TKey → Option Value) (s : TKey) (v : Value) : TKey → Option Value := fun t => if t = s then some v else m t

section
variable {P : Program} {k : TypeId}
theorem KnowsB.has {D : DataW Value} {m : TKey → Option Value} (h : KnowsB P k D m) {s : TKey} (hs : PkOk s) : Maps.has D (pk P k s) = (m s).isSome := by
  obtain ⟨h1, h2⟩ := h s hs
  cases hm : m s with
  | none => exact h2 hm
  | some v => exact Maps.has_true_of_atKey (h1 v hm)

theorem KnowsB.put (K : PairKey P k) {D : DataW Value} {m : TKey → Option Value} (h : KnowsB P k D m) (hD : Maps.IsMap D) {s : TKey} (hs : PkOk s) (v : Value) : KnowsB P k (D.put (pk P k s) (.held v)) (bmPut m s v) := fun t ht => by
  unfold bmPut
  by_cases e : t = s
  · subst e
    rw [if_pos rfl]
    exact ⟨fun u hu z => by rw [Maps.atKey_put_same hD (K.isKey ht), Option.some.inj hu], fun c => by cases c⟩
  · rw [if_neg e]
    have hne : pk P k t ≠ pk P k s := fun c => e (K.inj ht hs c)
    exact ⟨fun u hu z => by rw [Maps.atKey_put_other hne]; exact (h t ht).1 u hu z, fun c => by rw [Maps.has_put_other hne]; exact (h t ht).2 c⟩
end

/-- Block b is a map of at most n entries that knows m. -/
def MapB (P : Program) (k : TypeId) (w : World) (b n : Nat) (m : TKey → Option Value) : Prop := ∃ D, w.ownsMap P k asIsB b n D ∧ KnowsB P k D m
/-- Block r goes over it: those of left are still to come, cnt of them. -/
def RangeB (P : Program) (k : TypeId) (w : World) (b r n : Nat) (m : TKey → Option Value) (left : TKey → Bool) (cnt : Nat) : Prop :=
  ∃ D lf, w.ranges P k asIsB b r n D lf cnt ∧ KnowsB P k D m ∧ ∀ s, PkOk s → lf (pk P k s) = left s

section
variable {P : Program} {k t e : TypeId} {w w' : World} {b r n cnt : Nat} {m : TKey → Option Value} {left : TKey → Bool}

theorem MapB.made (w : World) : MapB P k (w.alloc (.map #[] 0)) w.heap.size 0 (fun _ => none) :=
  ⟨_, World.ownsMap_made w P k asIsB, fun _ _ => ⟨fun _ h => (by cases h), fun _ => rfl⟩⟩
theorem MapB.lt (h : MapB P k w b n m) : b < w.heap.size := by
  obtain ⟨D, h, _⟩ := h
  exact h.lt
theorem MapB.at (h : MapB P k w b n m) (e : w'.heap[b]? = w.heap[b]?) : MapB P k w' b n m := by
  obtain ⟨D, ⟨es, clock, hb, h⟩, hk⟩ := h
  exact ⟨D, ⟨es, clock, e.trans hb, h⟩, hk⟩
theorem MapB.mono (h : MapB P k w b n m) {n' : Nat} (hn : n ≤ n') : MapB P k w b n' m := by
  obtain ⟨D, h, hk⟩ := h
  exact ⟨D, h.mono hn, hk⟩
theorem RangeB.at (h : RangeB P k w b r n m left cnt) (e : w'.heap[b]? = w.heap[b]?) (e' : w'.heap[r]? = w.heap[r]?) : RangeB P k w' b r n m left cnt := by
  obtain ⟨D, lf, ⟨es, clock, since, seen, c0, hb, F, hs, hD, hr, rest⟩, hk⟩ := h
  exact ⟨D, lf, ⟨es, clock, since, seen, c0, e.trans hb, F, hs, hD, e'.trans hr, rest⟩, hk⟩
theorem RangeB.lt (h : RangeB P k w b r n m left cnt) : r < w.heap.size := by
  obtain ⟨D, lf, h, hk, _⟩ := h
  exact h.lt
variable (K : PairKey P k) (ht : P.underlying t = some (.map k e))
include K ht

/-- m[s]. -/
theorem MapB.look (h : MapB P k w b n m) {z : Value} (hz : (zeroValue e).run P w = .ok z w) {s : TKey} (hs : PkOk s) : (Instr.lookup t (.map (some b)) (pkv s) false).run P w = .ok ((m s).getD z) w := by
  obtain ⟨D, h, hkn⟩ := h
  obtain ⟨v, ps, hrun, hv⟩ := h.lookup K.keyed ht hz (zd := .held z) (zp := []) rfl (K.at hs)
  rw [hrun]
  simp only [asIsB, Option.some.injEq, Prod.mk.injEq] at hv
  cases hm : m s with
  | none =>
    have h1 := hv.1
    rw [Maps.atKey_of_not_has ((hkn s hs).2 hm)] at h1
    rw [DataW.held.inj h1]
    rfl
  | some u =>
    have h1 := hv.1
    rw [(hkn s hs).1 u hm] at h1
    rw [DataW.held.inj h1]
    rfl

/-- m[s] = v. -/
theorem MapB.store (h : MapB P k w b n m) (hn : n < maxLen) {s : TKey} (hs : PkOk s) (v : Value) : ∃ w', (Instr.mapUpdate t (.map (some b)) (pkv s) v).run P w = .ok () w' ∧ MapB P k w' b (n + 1) (bmPut m s v) ∧ w.mapTurned w' b := by
  obtain ⟨D, h, hkn⟩ := h
  obtain ⟨w', h1, h2, h3⟩ := h.store K.keyed ht hn (K.at hs) (val := v) (d := .held v) (ps := []) rfl
  exact ⟨w', h1, ⟨_, h2, hkn.put K h.isMap hs v⟩, h3⟩

/-- range m. -/
theorem MapB.range (h : MapB P k w b n m) : ∃ w' cnt, (Instr.range t (.map (some b))).run P w = .ok (.pointer (some ⟨w.heap.size, 0, none⟩)) w' ∧ RangeB P k w' b w.heap.size n m (fun s => (m s).isSome) cnt ∧ cnt ≤ n ∧ w.grownBy w' none ∧ w'.heap.size = w.heap.size + 1 := by
  obtain ⟨D, h, hkn⟩ := h
  obtain ⟨w', h1, h2, h3, h4⟩ := h.range K.keyed ht
  exact ⟨w', _, h1, ⟨D, _, h2, hkn, fun s hs => hkn.has hs⟩, h.size_le, h3, h4⟩

omit ht in
/-- The step. -/
theorem RangeB.next (h : RangeB P k w b r n m left cnt) (ty : TypeId) :
    (cnt = 0 ∧ (∀ s, PkOk s → left s = false) ∧ (Instr.next (.pointer (some ⟨r, 0, none⟩)) false ty).run P w = .ok (.tuple #[.bool false]) w) ∨
    ∃ s v w' cnt', PkOk s ∧ left s = true ∧ m s = some v ∧ (Instr.next (.pointer (some ⟨r, 0, none⟩)) false ty).run P w = .ok (.tuple #[.bool true, pkv s, v]) w' ∧
      RangeB P k w' b r n m (fun x => left x && !decide (x = s)) cnt' ∧ cnt' < cnt ∧ w.grownBy w' (some r) ∧ w'.heap.size = w.heap.size ∧ (Instr.entry (.pointer (some ⟨r, 0, none⟩))).run P w' = .ok (.tuple #[pkv s, v]) w' := by
  obtain ⟨D, lf, h, hkn, hl⟩ := h
  rcases h.next K.keyed ty with ⟨h0, h1, h2⟩ | ⟨key, v, kl, y, w', c', hkey, hlk, hv, hat, hrun, hrg, hlt, hgr, hsz, hen⟩
  · exact .inl ⟨h0, fun s hs => by rw [← hl s hs]; exact h1 _, h2⟩
  · obtain ⟨s, rfl, hs⟩ := K.inv hkey
    obtain rfl : kl = pk P k s := Option.some.inj (hkey.symm.trans (K.at hs))
    refine .inr ⟨s, v, w', c', hs, by rw [← hl s hs]; exact hlk, ?_, hrun, ⟨D, _, hrg, hkn, fun x hx => by show (lf (pk P k x) && !(pk P k x).sameKey (pk P k s)) = _; rw [hl x hx, K.same hx hs]⟩, hlt, hgr, hsz, hen⟩
    have hh := hkn.has hs
    rw [Maps.has_true_of_atKey hat] at hh
    cases hm : m s with
    | none => rw [hm] at hh; cases hh
    | some u =>
      have h1 := hat (.held u)
      rw [(hkn s hs).1 u hm] at h1
      simp only [asIsB, Option.some.injEq] at hv
      rw [← hv] at h1
      rw [DataW.held.inj h1]

end

section
variable {P : Program} (w : World) {ops : Array Oper} {rest : List Oper} {o : Oper} {a : Act} {Q : Exit → Act → World → Prop}

theorem wpList_range_b (hg : o.guard = none) (x : Operand) (t : TypeId) (hop : o.op = Op.range t x) (k e : TypeId) (K : PairKey P k) (ht : P.underlying t = some (.map k e)) (b n : Nat) (m : TKey → Option Value)
    (hm : a.eval x = .map (some b)) (h : MapB P k w b n m)
    (hK : ∀ w' cnt, RangeB P k w' b w.heap.size n m (fun s => (m s).isSome) cnt → cnt ≤ n → w.grownBy w' none → w'.heap.size = w.heap.size + 1 → wpList P ops Q rest (a.put o.dst (.pointer (some ⟨w.heap.size, 0, none⟩))) w') :
    wpList P ops Q (o :: rest) a w := by
  refine wpList_plain hg fun K' hK' => ?_
  obtain ⟨w', c, hrun, r1, r2, r3, r4⟩ := h.range K ht
  unfold Oper.wp
  simp [execOp, hop, hm, hrun, Result.andThen]
  exact hK' _ _ (hK w' c r1 r2 r3 r4)

theorem wpList_next_b (hg : o.guard = none) (it : Operand) (hop : o.op = Op.next it false) (k : TypeId) (K : PairKey P k) (b r n : Nat) (m : TKey → Option Value) (left : TKey → Bool) (cnt : Nat)
    (hit : a.eval it = .pointer (some ⟨r, 0, none⟩)) (h : RangeB P k w b r n m left cnt)
    (hDone : cnt = 0 → (∀ s, PkOk s → left s = false) → wpList P ops Q rest (a.put o.dst (.tuple #[.bool false])) w)
    (hMore : ∀ (s : TKey) (v : Value) (w' : World) (cnt' : Nat), PkOk s → left s = true → m s = some v → RangeB P k w' b r n m (fun x => left x && !decide (x = s)) cnt' → cnt' < cnt →
      w.grownBy w' (some r) → w'.heap.size = w.heap.size → (Instr.entry (.pointer (some ⟨r, 0, none⟩))).run P w' = .ok (.tuple #[pkv s, v]) w' → wpList P ops Q rest (a.put o.dst (.tuple #[.bool true, pkv s, v])) w') :
    wpList P ops Q (o :: rest) a w := by
  refine wpList_plain hg fun K' hK' => ?_
  unfold Oper.wp
  rcases h.next K o.type with ⟨h0, hl, hrun⟩ | ⟨s, v, w', cnt', h1, h2, h3, hrun, h4, h5, h6, h7, h8⟩
  · simp [execOp, hop, hit, hrun, Result.andThen]
    exact hK' _ _ (hDone h0 hl)
  · simp [execOp, hop, hit, hrun, Result.andThen]
    exact hK' _ _ (hMore s v w' cnt' h1 h2 h3 h4 h5 h6 h7 h8)

end

end Go.Proofs.YtdchjcidfaencaaGreat
