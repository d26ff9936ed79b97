/-
  A bundle of texts: TMA TMB TMQ.
-/
import Derived.Maps.RangeWalk
import Derived.Maps.OwnSet
import Derived.StringKeys
import Derived.Test.YtbhcafginmkaaaaGreatN32
import Derived.Test.YtbhcafginmkaaaaGreatN21
namespace Go.Proofs.YtbhcafginmkaaaaGreat
open Go.RowKit Go.Lib
open Go.ChangeMaps Go.MapKept
open Go.WideElems (Fit rd rg pl rd_key rd_val rg_of rd_mk other_key)
open Go.Maps (Keyed)

section
variable {H : Type} {P : Program} {k : TypeId} {R : Value → Option (DataW H × List MemPlace)} {w : World} {b r n : Nat} {D : DataW H} {left : Lit → Bool} {cnt : Nat}

/-- A store at a key that is there, in the round: nothing else turns. -/
theorem ranges_put {t e : TypeId} (h : w.ranges P k R b r n D left cnt) (K : Keyed P k) (ht : P.underlying t = some (.map k e)) (hn : n < maxLen) {key val : Value} {kl : Lit} {d : DataW H} {ps : List MemPlace}
    (hkey : keyOf P k key = some kl) (hv : R val = some (d, ps)) (hhas : Maps.has D kl = true) :
    ∃ w', (Instr.mapUpdate t (.map (some b)) key val).run P w = .ok () w' ∧ w'.ranges P k R b r n (D.put kl d) left cnt ∧ w.mapTurned w' b := by
  have hne := h.ne
  obtain ⟨es, clock, since, seen, c0, hb, F, hs, rfl, hr, hold, hcnt, hl1, hl2, hsc, hsk⟩ := h
  obtain ⟨es', clock', hrun, F', hput, _, _, _⟩ := Maps.fit_store (R' := R) K ht hb F (Nat.lt_of_le_of_lt hs hn) (fun _ _ _ _ hz => hz) hkey hv
  rcases K.find w hkey es.toList F.keys with ⟨_, h2⟩ | ⟨j, e0, h1, h2, h3⟩
  · exfalso
    obtain ⟨p, hp, hpk⟩ := List.any_eq_true.1 hhas
    obtain ⟨x, hx, rfl⟩ := List.mem_map.1 (mem_sorted.1 hp)
    obtain ⟨y, hy⟩ := F.reads x hx
    have m1 := rd_key hy
    rw [rg_of hy] at hpk
    rw [WideAt.sameKey_eq hpk] at m1
    exact h2 x hx (K.inj m1 hkey)
  · have hj : es[j]? = some e0 := by simpa using h2
    have hjl : j < es.toList.length := (List.getElem?_eq_some_iff.1 h2).1
    have hrun2 : (Instr.mapUpdate t (.map (some b)) key val).run P w = .ok () (setBlock w b (.map (es.modify j (fun e' => { e' with key := key, val := val })) clock)) := by
      simp [Instr.mapUpdate, run_underlying ht, MapKept.run_getObj_map hb, K.check w false hkey, h1, hj, h3, K.stays w hkey, MapKept.run_setObj_map _ hb, Result.andThen, setBlock]
    have hw : setBlock w b (.map es' clock') = setBlock w b (.map (es.modify j (fun e' => { e' with key := key, val := val })) clock) := by
      rw [hrun] at hrun2
      injection hrun2
    have ho := heap_setBlock_same hb (Obj.map es' clock')
    rw [hw, heap_setBlock_same hb] at ho
    simp only [Option.some.injEq, Obj.map.injEq] at ho
    obtain ⟨rfl, rfl⟩ := ho
    have hlist : (es.modify j (fun e' => { e' with key := key, val := val })).toList = es.toList.set j { e0 with key := key, val := val } := by rw [Array.toList_modify, Go.ChangeMaps.modify_eq_set _ _ _ _ h2]
    have hborn : (es.modify j (fun e' => { e' with key := key, val := val })).toList.map (·.born) = es.toList.map (·.born) := by
      rw [hlist, List.map_set]
      refine List.ext_getElem? fun i => ?_
      by_cases hij : j = i
      · subst hij
        rw [List.getElem?_set_self (by simpa using hjl), List.getElem?_map, h2]
        rfl
      · rw [List.getElem?_set_ne hij]
    have hrg0 : (rg P k R e0).1 = kl := by
      obtain ⟨y, hy⟩ := F.reads e0 (List.mem_of_getElem? h2)
      have m1 := rd_key hy
      rw [h3, hkey] at m1
      rw [rg_of hy]
      exact (Option.some.inj m1).symm
    have hrgn : (rg P k R { e0 with key := key, val := val }).1 = kl := by rw [rg_of (rd_mk hkey hv)]
    refine ⟨_, hrun2, ⟨_, _, since, seen, c0, heap_setBlock_same hb _, F', ?_, by rw [DataW.put_eq, hput], (heap_setBlock_other hb _ hne).trans hr, fun x hx => ?_, ?_, fun x hx => ?_, fun x0 hx0 => ?_, hsc, hsk⟩, ⟨es, clock, _, _, hb, rfl⟩⟩
    · simpa using hs
    · have : x.born ∈ (es.modify j (fun e' => { e' with key := key, val := val })).toList.map (·.born) := List.mem_map.2 ⟨x, hx, rfl⟩
      rw [hborn] at this
      obtain ⟨y, hy, e1⟩ := List.mem_map.1 this
      rw [← e1]
      exact hold y hy
    · have e1 : ∀ a : Array MapEntry, (leftOf a seen).size = ((a.toList.map (·.born)).filter fun q => !seen.contains q).length := fun a => by
        unfold leftOf
        rw [← Array.length_toList, Array.toList_filter, List.filter_map, List.length_map]
        rfl
      rw [← hcnt, e1, e1, hborn]
    · rw [hlist] at hx
      rcases List.mem_or_eq_of_mem_set hx with c | rfl
      · exact hl1 x c
      · rw [hrgn, ← hrg0]
        exact hl1 e0 (List.mem_of_getElem? h2)
    · obtain ⟨x, hx, e1⟩ := hl2 x0 hx0
      rw [hlist]
      by_cases hxe : x = e0
      · refine ⟨{ e0 with key := key, val := val }, List.mem_iff_getElem.2 ⟨j, by simpa using hjl, by simp⟩, ?_⟩
        rw [hrgn, ← hrg0, ← hxe, e1]
      · obtain ⟨i, hi⟩ := List.getElem?_of_mem hx
        refine ⟨x, List.mem_iff_getElem?.2 ⟨i, ?_⟩, e1⟩
        rw [List.getElem?_set_ne (fun c => hxe (by rw [← c, h2] at hi; exact (Option.some.inj hi).symm))]
        exact hi

end

/-- An element as it is. -/
def asIs (v : Value) : Option (DataW Value × List MemPlace) := some (.held v, [])
/-- A text as a key. -/
abbrev sk (s : ByteArray) : Lit := .string s.data.toList

theorem sk_inj {s t : ByteArray} (h : sk s = sk t) : s = t := by
  have h1 := Lit.string.inj h
  exact ByteArray.ext (Array.toList_inj.1 h1)
theorem sk_key (s : ByteArray) : WideAt.IsKeyLit (sk s) := trivial
theorem sk_same (s t : ByteArray) : (sk s).sameKey (sk t) = decide (s = t) := by
  by_cases h : s = t
  · subst h
    rw [decide_eq_true rfl]
    exact WideAt.sameKey_self (sk_key s)
  · rw [decide_eq_false h]
    exact Maps.sameKey_ne (fun e => h (sk_inj e))

/-- What a map knows of each text. -/
def Knows (D : DataW Value) (m : ByteArray → Option Value) : Prop := ∀ s, s.size ≤ maxLen → (∀ v, m s = some v → ∀ z, D.atKey (sk s) z = .held v) ∧ (m s = none → Maps.has D (sk s) = false)

/-- m, and v under s. -/
def mPut (m : ByteArray → Option Value) (s : ByteArray) (v : Value) : ByteArray → Option Value := fun t => if t = s then some v else m t
/-- m, and nothing under s. -/
def mDel (m : ByteArray → Option Value) (s : ByteArray) : ByteArray → Option Value := fun t => if t = s then none else m t

theorem Knows.has {D : DataW Value} {m : ByteArray → Option Value} (h : Knows D m) {s : ByteArray} (hs : s.size ≤ maxLen) : Maps.has D (sk s) = (m s).isSome := by
  obtain ⟨h1, h2⟩ := h s hs
  cases hm : m s with
  | none => exact h2 hm
  | some v => exact Maps.has_true_of_atKey (h1 v hm)

theorem Knows.put {D : DataW Value} {m : ByteArray → Option Value} (h : Knows D m) (hD : Maps.IsMap D) (s : ByteArray) (v : Value) : Knows (D.put (sk s) (.held v)) (mPut m s v) := fun t ht => by
  unfold mPut
  by_cases e : t = s
  · subst e
    rw [if_pos rfl]
    exact ⟨fun u hu z => by rw [Maps.atKey_put_same hD (sk_key t), Option.some.inj hu], fun c => by cases c⟩
  · rw [if_neg e]
    have hne : sk t ≠ sk s := fun c => e (sk_inj c)
    exact ⟨fun u hu z => by rw [Maps.atKey_put_other hne]; exact (h t ht).1 u hu z, fun c => by rw [Maps.has_put_other hne]; exact (h t ht).2 c⟩

theorem Knows.del {D : DataW Value} {m : ByteArray → Option Value} (h : Knows D m) (s : ByteArray) : Knows (D.del (sk s)) (mDel m s) := fun t ht => by
  unfold mDel
  by_cases e : t = s
  · subst e
    rw [if_pos rfl]
    exact ⟨fun u hu z => (by cases hu), fun _ => Maps.has_del_same⟩
  · rw [if_neg e]
    have hne : sk t ≠ sk s := fun c => e (sk_inj c)
    exact ⟨fun u hu z => by rw [Maps.atKey_del_other hne]; exact (h t ht).1 u hu z, fun c => by rw [Maps.has_del_other hne]; exact (h t ht).2 c⟩

/-- Block b is a map of at most n entries that knows m. -/
def MapIs (P : Program) (k : TypeId) (w : World) (b n : Nat) (m : ByteArray → Option Value) : Prop := ∃ D, w.ownsMap P k asIs b n D ∧ Knows D m

/-- Block r goes over it: those of left are still to come, cnt of them. -/
def RangeIs (P : Program) (k : TypeId) (w : World) (b r n : Nat) (m : ByteArray → Option Value) (left : ByteArray → Bool) (cnt : Nat) : Prop :=
  ∃ D lf, w.ranges P k asIs b r n D lf cnt ∧ Knows D m ∧ ∀ s, s.size ≤ maxLen → lf (sk s) = left s

section
variable {P : Program} {k t e : TypeId} {w w' : World} {b r n cnt : Nat} {m : ByteArray → Option Value} {left : ByteArray → Bool}

theorem MapIs.made (w : World) : MapIs P k (w.alloc (.map #[] 0)) w.heap.size 0 (fun _ => none) :=
  ⟨_, World.ownsMap_made w P k asIs, fun _ _ => ⟨fun _ h => (by cases h), fun _ => rfl⟩⟩
theorem MapIs.lt (h : MapIs P k w b n m) : b < w.heap.size := by
  obtain ⟨D, h, _⟩ := h
  exact h.lt
theorem MapIs.at (h : MapIs P k w b n m) (e : w'.heap[b]? = w.heap[b]?) : MapIs P k w' b n m := by
  obtain ⟨D, ⟨es, clock, hb, h⟩, hk⟩ := h
  exact ⟨D, ⟨es, clock, e.trans hb, h⟩, hk⟩
theorem MapIs.mono (h : MapIs P k w b n m) {n' : Nat} (hn : n ≤ n') : MapIs P k w b n' m := by
  obtain ⟨D, h, hk⟩ := h
  exact ⟨D, h.mono hn, hk⟩
theorem MapIs.congr {m' : ByteArray → Option Value} (h : MapIs P k w b n m) (e : ∀ s, s.size ≤ maxLen → m' s = m s) : MapIs P k w b n m' := by
  obtain ⟨D, h, hk⟩ := h
  exact ⟨D, h, fun s hs => by rw [e s hs]; exact hk s hs⟩
theorem RangeIs.is (h : RangeIs P k w b r n m left cnt) : MapIs P k w b n m := by
  obtain ⟨D, lf, h, hk, _⟩ := h
  exact ⟨D, h.owns, hk⟩
theorem RangeIs.lt (h : RangeIs P k w b r n m left cnt) : r < w.heap.size := by
  obtain ⟨D, lf, h, hk, _⟩ := h
  exact h.lt
theorem RangeIs.ne (h : RangeIs P k w b r n m left cnt) : r ≠ b := by
  obtain ⟨D, lf, h, hk, _⟩ := h
  exact h.ne
theorem RangeIs.at (h : RangeIs P k w b r n m left cnt) (e : w'.heap[b]? = w.heap[b]?) (e' : w'.heap[r]? = w.heap[r]?) : RangeIs P k w' b r n m left cnt := by
  obtain ⟨D, lf, ⟨es, clock, since, seen, c0, hb, F, hs, hD, hr, rest⟩, hk⟩ := h
  exact ⟨D, lf, ⟨es, clock, since, seen, c0, e.trans hb, F, hs, hD, e'.trans hr, rest⟩, hk⟩
theorem RangeIs.congr {m' : ByteArray → Option Value} {left' : ByteArray → Bool} (h : RangeIs P k w b r n m left cnt) (e : ∀ s, s.size ≤ maxLen → m' s = m s) (e' : ∀ s, s.size ≤ maxLen → left' s = left s) : RangeIs P k w b r n m' left' cnt := by
  obtain ⟨D, lf, h, hk, hl⟩ := h
  exact ⟨D, lf, h, fun s hs => by rw [e s hs]; exact hk s hs, fun s hs => by rw [e' s hs]; exact hl s hs⟩

variable (hk : P.underlying k = some .string) (ht : P.underlying t = some (.map k e))
include hk ht

/-- m[s]. -/
theorem MapIs.look (h : MapIs P k w b n m) {z : Value} (hz : (zeroValue e).run P w = .ok z w) {s : ByteArray} (hs : s.size ≤ maxLen) : (Instr.lookup t (.map (some b)) (.string s) false).run P w = .ok ((m s).getD z) w := by
  obtain ⟨D, h, hkn⟩ := h
  obtain ⟨v, ps, hrun, hv⟩ := h.lookup (Maps.string_keyed hk) ht hz (zd := .held z) (zp := []) rfl (WideMaps.keyOf_string_mk hk hs)
  rw [hrun]
  simp only [asIs, Option.some.injEq, Prod.mk.injEq] at hv
  cases hm : m s with
  | none =>
    have h1 := hv.1
    rw [Maps.atKey_of_not_has ((hkn s hs).2 hm)] at h1
    rw [DataW.held.inj h1]
    rfl
  | some u =>
    have h1 := hv.1
    rw [(hkn s hs).1 u hm] at h1
    rw [DataW.held.inj h1]
    rfl

/-- m[s] = v. -/
theorem MapIs.store (h : MapIs P k w b n m) (hn : n < maxLen) {s : ByteArray} (hs : s.size ≤ maxLen) (v : Value) : ∃ w', (Instr.mapUpdate t (.map (some b)) (.string s) v).run P w = .ok () w' ∧ MapIs P k w' b (n + 1) (mPut m s v) ∧ w.mapTurned w' b := by
  obtain ⟨D, h, hkn⟩ := h
  obtain ⟨w', h1, h2, h3⟩ := h.store (Maps.string_keyed hk) ht hn (WideMaps.keyOf_string_mk hk hs) (val := v) (d := .held v) (ps := []) rfl
  exact ⟨w', h1, ⟨_, h2, hkn.put h.isMap s v⟩, h3⟩

/-- delete(m, s). -/
theorem MapIs.drop (h : MapIs P k w b n m) {s : ByteArray} (hs : s.size ≤ maxLen) (ty : TypeId) : ∃ w', (Builtin.delete_ #[t, k] ty #[.map (some b), .string s]).run P w = .ok (.tuple #[]) w' ∧ MapIs P k w' b n (mDel m s) ∧ w.mapTurned w' b := by
  obtain ⟨D, h, hkn⟩ := h
  obtain ⟨w', h1, h2, h3⟩ := h.drop (Maps.string_keyed hk) ht (WideMaps.keyOf_string_mk hk hs) ty
  exact ⟨w', h1, ⟨_, h2, hkn.del s⟩, h3⟩

/-- m[s] = v in the round, where s is there. -/
theorem RangeIs.store (h : RangeIs P k w b r n m left cnt) (hn : n < maxLen) {s : ByteArray} (hs : s.size ≤ maxLen) {u : Value} (hm : m s = some u) (v : Value) : ∃ w', (Instr.mapUpdate t (.map (some b)) (.string s) v).run P w = .ok () w' ∧ RangeIs P k w' b r n (mPut m s v) left cnt ∧ w.mapTurned w' b := by
  obtain ⟨D, lf, h, hkn, hl⟩ := h
  obtain ⟨w', h1, h2, h3⟩ := ranges_put h (Maps.string_keyed hk) ht hn (WideMaps.keyOf_string_mk hk hs) (val := v) (d := .held v) (ps := []) rfl (by rw [hkn.has hs, hm]; rfl)
  exact ⟨w', h1, ⟨_, lf, h2, hkn.put h.owns.isMap s v, hl⟩, h3⟩

/-- delete(m, s) in the round. -/
theorem RangeIs.drop (h : RangeIs P k w b r n m left cnt) {s : ByteArray} (hs : s.size ≤ maxLen) (ty : TypeId) : ∃ w' cnt', (Builtin.delete_ #[t, k] ty #[.map (some b), .string s]).run P w = .ok (.tuple #[]) w' ∧ RangeIs P k w' b r n (mDel m s) (fun x => left x && !decide (x = s)) cnt' ∧ cnt' ≤ cnt ∧ w.mapTurned w' b := by
  obtain ⟨D, lf, h, hkn, hl⟩ := h
  obtain ⟨w', c', h1, h2, h3, h4⟩ := h.drop (Maps.string_keyed hk) ht (WideMaps.keyOf_string_mk hk hs) ty
  exact ⟨w', c', h1, ⟨_, _, h2, hkn.del s, fun x hx => by show (lf (sk x) && !(sk x).sameKey (sk s)) = _; rw [hl x hx, sk_same]⟩, h3, h4⟩

/-- range m. -/
theorem MapIs.range (h : MapIs P k w b n m) : ∃ w' cnt, (Instr.range t (.map (some b))).run P w = .ok (.pointer (some ⟨w.heap.size, 0, none⟩)) w' ∧ RangeIs P k w' b w.heap.size n m (fun s => (m s).isSome) cnt ∧ cnt ≤ n ∧ w.grownBy w' none ∧ w'.heap.size = w.heap.size + 1 := by
  obtain ⟨D, h, hkn⟩ := h
  obtain ⟨w', h1, h2, h3, h4⟩ := h.range (Maps.string_keyed hk) ht
  exact ⟨w', _, h1, ⟨D, _, h2, hkn, fun s hs => hkn.has hs⟩, h.size_le, h3, h4⟩

omit ht in
/-- The step. -/
theorem RangeIs.next (h : RangeIs P k w b r n m left cnt) (ty : TypeId) :
    (cnt = 0 ∧ (∀ s, s.size ≤ maxLen → left s = false) ∧ (Instr.next (.pointer (some ⟨r, 0, none⟩)) false ty).run P w = .ok (.tuple #[.bool false]) w) ∨
    ∃ s v w' cnt', s.size ≤ maxLen ∧ left s = true ∧ m s = some v ∧ (Instr.next (.pointer (some ⟨r, 0, none⟩)) false ty).run P w = .ok (.tuple #[.bool true, .string s, v]) w' ∧
      RangeIs P k w' b r n m (fun x => left x && !decide (x = s)) cnt' ∧ cnt' < cnt ∧ w.grownBy w' (some r) ∧ w'.heap.size = w.heap.size ∧ (Instr.entry (.pointer (some ⟨r, 0, none⟩))).run P w' = .ok (.tuple #[.string s, v]) w' := by
  obtain ⟨D, lf, h, hkn, hl⟩ := h
  rcases h.next (Maps.string_keyed hk) ty with ⟨h0, h1, h2⟩ | ⟨key, v, kl, y, w', c', hkey, hlk, hv, hat, hrun, hrg, hlt, hgr, hsz, hen⟩
  · exact .inl ⟨h0, fun s hs => by rw [← hl s hs]; exact h1 _, h2⟩
  · obtain ⟨s, rfl, rfl, hs⟩ := WideMaps.string_of_keyOf hk hkey
    refine .inr ⟨s, v, w', c', hs, by rw [← hl s hs]; exact hlk, ?_, hrun, ⟨D, _, hrg, hkn, fun x hx => by show (lf (sk x) && !(sk x).sameKey (sk s)) = _; rw [hl x hx, sk_same]⟩, hlt, hgr, hsz, hen⟩
    have hh := hkn.has hs
    rw [Maps.has_true_of_atKey hat] at hh
    cases hm : m s with
    | none => rw [hm] at hh; cases hh
    | some u =>
      have h1 := hat (.held u)
      rw [(hkn s hs).1 u hm] at h1
      simp only [asIs, Option.some.injEq] at hv
      rw [← hv] at h1
      rw [DataW.held.inj h1]

end

section
variable {P : Program} (w : World) {ops : Array Oper} {rest : List Oper} {o : Oper} {a : Act} {Q : Exit → Act → World → Prop}

theorem wpList_range_text (hg : o.guard = none) (x : Operand) (t : TypeId) (hop : o.op = Op.range t x) (k e : TypeId) (hk : P.underlying k = some .string) (ht : P.underlying t = some (.map k e)) (b n : Nat) (m : ByteArray → Option Value)
    (hm : a.eval x = .map (some b)) (h : MapIs P k w b n m)
    (hK : ∀ w' cnt, RangeIs P k w' b w.heap.size n m (fun s => (m s).isSome) cnt → cnt ≤ n → w.grownBy w' none → w'.heap.size = w.heap.size + 1 → wpList P ops Q rest (a.put o.dst (.pointer (some ⟨w.heap.size, 0, none⟩))) w') :
    wpList P ops Q (o :: rest) a w := by
  refine wpList_plain hg fun K' hK' => ?_
  obtain ⟨w', c, hrun, r1, r2, r3, r4⟩ := h.range hk ht
  unfold Oper.wp
  simp [execOp, hop, hm, hrun, Result.andThen]
  exact hK' _ _ (hK w' c r1 r2 r3 r4)

theorem wpList_next_text (hg : o.guard = none) (it : Operand) (hop : o.op = Op.next it false) (k : TypeId) (hk : P.underlying k = some .string) (b r n : Nat) (m : ByteArray → Option Value) (left : ByteArray → Bool) (cnt : Nat)
    (hit : a.eval it = .pointer (some ⟨r, 0, none⟩)) (h : RangeIs P k w b r n m left cnt)
    (hDone : cnt = 0 → (∀ s, s.size ≤ maxLen → left s = false) → wpList P ops Q rest (a.put o.dst (.tuple #[.bool false])) w)
    (hMore : ∀ (s : ByteArray) (v : Value) (w' : World) (cnt' : Nat), s.size ≤ maxLen → left s = true → m s = some v → RangeIs P k w' b r n m (fun x => left x && !decide (x = s)) cnt' → cnt' < cnt →
      w.grownBy w' (some r) → w'.heap.size = w.heap.size → (Instr.entry (.pointer (some ⟨r, 0, none⟩))).run P w' = .ok (.tuple #[.string s, v]) w' → wpList P ops Q rest (a.put o.dst (.tuple #[.bool true, .string s, v])) w') :
    wpList P ops Q (o :: rest) a w := by
  refine wpList_plain hg fun K' hK' => ?_
  unfold Oper.wp
  rcases h.next hk o.type with ⟨h0, hl, hrun⟩ | ⟨s, v, w', cnt', h1, h2, h3, hrun, h4, h5, h6, h7, h8⟩
  · simp [execOp, hop, hit, hrun, Result.andThen]
    exact hK' _ _ (hDone h0 hl)
  · simp [execOp, hop, hit, hrun, Result.andThen]
    exact hK' _ _ (hMore s v w' cnt' h1 h2 h3 h4 h5 h6 h7 h8)

end

end Go.Proofs.YtbhcafginmkaaaaGreat

namespace Go.Proofs.YtbhcafginmkaaaaGreat
open Go.RowKit Go.Lib

abbrev kT : Tryz.prog.underlying 9 = some .string := Tryz.underlying9
abbrev TMap (w : World) (b n : Nat) (m : ByteArray → Option Value) : Prop := MapIs Tryz.prog 9 w b n m

theorem nodup_le {α : Type} : ∀ {xs ys : List α}, xs.Pairwise (· ≠ ·) → (∀ x ∈ xs, x ∈ ys) → xs.length ≤ ys.length
  | [], _, _, _ => Nat.zero_le _
  | a :: xs, ys, h, k => by
    obtain ⟨h1, h2⟩ := List.pairwise_cons.1 h
    obtain ⟨s, t, rfl⟩ := List.append_of_mem (k a (List.mem_cons_self ..))
    have := nodup_le (ys := s ++ t) h2 (fun x hx => by
      have := k x (List.mem_cons_of_mem _ hx)
      simp only [List.mem_append, List.mem_cons] at this ⊢
      rcases this with c | rfl | c
      · exact .inl c
      · exact absurd rfl (h1 x hx)
      · exact .inr c)
    simp only [List.length_append, List.length_cons] at this ⊢
    omega

/-- A map has no more entries than there are names for them. -/
theorem MapIs.tight {P : Program} {k : TypeId} {w : World} {b n : Nat} {m : ByteArray → Option Value} (hk : P.underlying k = some .string) (h : MapIs P k w b n m) (names : List ByteArray) (hn : ∀ s, s.size ≤ maxLen → m s ≠ none → s ∈ names) : MapIs P k w b names.length m := by
  obtain ⟨D, ⟨es, clock, hb, F, hs, rfl⟩, hkn⟩ := h
  refine ⟨_, ⟨es, clock, hb, F, ?_, rfl⟩, hkn⟩
  have h1 := ((MapKept.stamped_iff es clock).1 F.stamped).2.2
  have h2 : (es.toList.map (·.key)).Pairwise (· ≠ ·) := by rw [List.pairwise_map]; exact h1
  have h3 := nodup_le (ys := names.map Value.string) h2 (fun v hv => by
    obtain ⟨x, hx, rfl⟩ := List.mem_map.1 hv
    obtain ⟨y, hy⟩ := F.reads x hx
    obtain ⟨s, e1, e2, hs'⟩ := WideMaps.string_of_keyOf hk (WideElems.rd_key hy)
    rw [e1]
    refine List.mem_map.2 ⟨s, hn s hs' (fun c => ?_), rfl⟩
    have hf := (hkn s hs').2 c
    have ht : Maps.has (DataW.map ((es.toList.map (WideElems.rg P k asIs)).foldr DataW.insert [])) (sk s) = true :=
      List.any_eq_true.2 ⟨WideElems.rg P k asIs x, mem_sorted.2 (List.mem_map.2 ⟨x, hx, rfl⟩), by
        rw [WideElems.rg_of hy, e2]
        exact WideAt.sameKey_self (sk_key s)⟩
    rw [ht] at hf
    cases hf)
  rw [List.length_map, List.length_map] at h3
  simpa using h3

theorem own_at {w w' : World} {D : Nat} {e : TypeId} {sz n : Nat} {v : Value} {xs : List Value} (h : w.ownsRow D e sz v n xs) (k : ∀ g, v.ownBlock = some g → w'.heap[g]? = w.heap[g]?) : w'.ownsRow D e sz v n xs := by
  refine ⟨h.1, ?_⟩
  rcases h.2 with h0 | ⟨g, cap, cur, rfl, hB, hrow, rest⟩
  · exact .inl h0
  · exact .inr ⟨g, cap, cur, rfl, hB, (k g rfl).trans hrow, rest⟩

theorem own_lt {w : World} {D : Nat} {e : TypeId} {sz n : Nat} {v : Value} {xs : List Value} (h : w.ownsRow D e sz v n xs) {g : Nat} (hg : v.ownBlock = some g) : g < w.heap.size := by
  rcases h.2 with ⟨rfl, _⟩ | ⟨g', cap, cur, rfl, hB, hrow, rest⟩
  · cases hg
  · cases hg
    exact (Array.getElem?_eq_some_iff.1 hrow).1

/-- A row's lower bound may be raised to where its block is. -/
theorem own_base {w : World} {D D' : Nat} {e : TypeId} {sz n : Nat} {v : Value} {xs : List Value} (h : w.ownsRow D e sz v n xs) (k : ∀ g, v.ownBlock = some g → D' ≤ g) : w.ownsRow D' e sz v n xs := by
  refine ⟨h.1, ?_⟩
  rcases h.2 with h0 | ⟨g, cap, cur, rfl, hB, rest⟩
  · exact .inl h0
  · exact .inr ⟨g, cap, cur, rfl, k g rfl, rest⟩

/-- The blocks of a map and of what it holds. -/
def foot (b : Nat) (m : ByteArray → Option Value) (k : Nat) : Prop := k = b ∨ ∃ s v, s.size ≤ maxLen ∧ m s = some v ∧ v.ownBlock = some k

structure TIs (w : World) (p : Nat) (e : Int) (l : List TRec) (b : Nat) (m : ByteArray → Option Value) : Prop where
  cell : w.heap[p]? = some (.cells #[.int .i64 e, .map (some b)] 263)
  map : TMap w b l.length m
  none_ : ∀ s, s.size ≤ maxLen → ser l s = [] → m s = none
  some_ : ∀ s, s.size ≤ maxLen → ser l s ≠ [] → ∃ v, m s = some v ∧ BkOwn w 0 v (ser l s) ∧ v.ownBlock ≠ some b ∧ v.ownBlock ≠ some p
  apart : ∀ s t v u g, s.size ≤ maxLen → t.size ≤ maxLen → m s = some v → m t = some u → v.ownBlock = some g → u.ownBlock = some g → s = t
  pb : p ≠ b
  sorted : TSorted l
  ok : ∀ x ∈ l, tOk e x = true
  fit : ∀ x ∈ l, TFit x
  e1 : 1 ≤ e
  e64 : TIn64 e

/-- The map knows of each text its series. -/
theorem TIs.known {w : World} {p b : Nat} {e : Int} {l : List TRec} {m : ByteArray → Option Value} (h : TIs w p e l b m) {s : ByteArray} (hs : s.size ≤ maxLen) {v : Value} (hv : m s = some v) : ser l s ≠ [] ∧ BkOwn w 0 v (ser l s) ∧ v.ownBlock ≠ some b ∧ v.ownBlock ≠ some p := by
  by_cases c : ser l s = []
  · rw [h.none_ s hs c] at hv
    cases hv
  · obtain ⟨u, h1, h2, h3, h4⟩ := h.some_ s hs c
    rw [h1] at hv
    cases hv
    exact ⟨c, h2, h3, h4⟩

/-- What a look into the map gives. -/
theorem TIs.row {w : World} {p b : Nat} {e : Int} {l : List TRec} {m : ByteArray → Option Value} (h : TIs w p e l b m) {s : ByteArray} (hs : s.size ≤ maxLen) : BkOwn w 0 ((m s).getD (.slice none 0 0)) (ser l s) := by
  by_cases c : ser l s = []
  · rw [h.none_ s hs c, c]
    exact World.ownsRow_nil _ _ _ _
  · obtain ⟨u, h1, h2, _⟩ := h.some_ s hs c
    rw [h1]
    exact h2

theorem TIs.good {w : World} {p b : Nat} {e : Int} {l : List TRec} {m : ByteArray → Option Value} (h : TIs w p e l b m) : TAll l := fun x hx => by
  have h1 := h.ok x hx
  unfold tOk at h1
  simp only [Bool.and_eq_true] at h1
  exact ⟨h1.2, (h.fit x hx).2.2⟩
theorem TIs.start {w : World} {p b : Nat} {e : Int} {l : List TRec} {m : ByteArray → Option Value} (h : TIs w p e l b m) : ∀ x ∈ l, 0 ≤ x.s := fun x hx => by
  have h1 := h.ok x hx
  unfold tOk at h1
  simp only [Bool.and_eq_true, decide_eq_true_eq] at h1
  exact h1.1.1.2
theorem TIs.rise {w : World} {p b : Nat} {e : Int} {l : List TRec} {m : ByteArray → Option Value} (h : TIs w p e l b m) (s : ByteArray) : BRise (ser l s) := ser_rise h.sorted s
theorem TIs.all {w : World} {p b : Nat} {e : Int} {l : List TRec} {m : ByteArray → Option Value} (h : TIs w p e l b m) (s : ByteArray) : BAll (ser l s) := ser_good h.good (fun x hx => (h.fit x hx).2.1) s
theorem ser_le (l : List TRec) (s : ByteArray) : (ser l s).length ≤ l.length := by
  unfold ser
  rw [List.length_map]
  exact List.length_filter_le ..

theorem TIs.c0 {w : World} {p b : Nat} {e : Int} {l : List TRec} {m : ByteArray → Option Value} (h : TIs w p e l b m) : w.cell? ⟨p, 0, none⟩ = some (.int .i64 e) := by simp [World.cell?, h.cell]
theorem TIs.c1 {w : World} {p b : Nat} {e : Int} {l : List TRec} {m : ByteArray → Option Value} (h : TIs w p e l b m) : w.cell? ⟨p, 1, none⟩ = some (.map (some b)) := by simp [World.cell?, h.cell]

theorem TIs.lt_p {w : World} {p b : Nat} {e : Int} {l : List TRec} {m : ByteArray → Option Value} (h : TIs w p e l b m) : p < w.heap.size := (Array.getElem?_eq_some_iff.1 h.cell).1
theorem TIs.lt {w : World} {p b : Nat} {e : Int} {l : List TRec} {m : ByteArray → Option Value} (h : TIs w p e l b m) {k : Nat} (hk : foot b m k) : k < w.heap.size := by
  rcases hk with rfl | ⟨s, v, hs, hv, hg⟩
  · exact h.map.lt
  · exact own_lt (h.known hs hv).2.1 hg

theorem TIs.at {w w' : World} {p b : Nat} {e : Int} {l : List TRec} {m : ByteArray → Option Value} (h : TIs w p e l b m) (k : ∀ i, i = p ∨ foot b m i → w'.heap[i]? = w.heap[i]?) : TIs w' p e l b m where
  cell := (k p (.inl rfl)).trans h.cell
  map := h.map.at (k b (.inr (.inl rfl)))
  none_ := h.none_
  some_ s hs c := by
    obtain ⟨v, h1, h2, h3⟩ := h.some_ s hs c
    exact ⟨v, h1, own_at h2 (fun g hg => k g (.inr (.inr ⟨s, v, hs, h1, hg⟩))), h3⟩
  apart := h.apart
  pb := h.pb
  sorted := h.sorted
  ok := h.ok
  fit := h.fit
  e1 := h.e1
  e64 := h.e64

theorem TIs.below {w w' : World} {p b : Nat} {e : Int} {l : List TRec} {m : ByteArray → Option Value} (h : TIs w p e l b m) (k : Below w.heap.size w w') : TIs w' p e l b m :=
  h.at (fun i hi => k.block i (hi.elim (fun c => by rw [c]; exact h.lt_p) h.lt))

/-- The table at block p. -/
def TRep (w : World) (p : Nat) (e : Int) (l : List TRec) (F : TFoot) : Prop := ∃ b m, TIs w p e l b m ∧ F = ⟨foot b m, fun k => k = p ∨ foot b m k⟩

theorem TRep.lt {w : World} {p : Nat} {e : Int} {l : List TRec} {F : TFoot} (h : TRep w p e l F) : ∀ k, F.all k → k < w.heap.size := by
  obtain ⟨b, m, h, rfl⟩ := h
  intro k hk
  rcases hk with rfl | hk
  · exact h.lt_p
  · exact h.lt hk
theorem TRep.sub {w : World} {p : Nat} {e : Int} {l : List TRec} {F : TFoot} (h : TRep w p e l F) : ∀ k, F.own k → F.all k := by
  obtain ⟨b, m, h, rfl⟩ := h
  exact fun k hk => .inr hk
theorem TRep.kept {w w' : World} {p : Nat} {e : Int} {l : List TRec} {F : TFoot} (h : TRep w p e l F) (_ : w.heap.size ≤ w'.heap.size) (k : ∀ i, F.all i → w'.heap[i]? = w.heap[i]?) : TRep w' p e l F := by
  obtain ⟨b, m, h, rfl⟩ := h
  exact ⟨b, m, h.at k, rfl⟩

end Go.Proofs.YtbhcafginmkaaaaGreat

namespace Go.Proofs.YtbhcafginmkaaaaGreat
open Go.RowKit Go.Lib
open Go.ChangeMaps Go.MapKept
open Go.Maps (Keyed)

/-- An int as a key. -/
abbrev ik (x : Int) : Lit := .int .i64 x
theorem ik_inj {s t : Int} (h : ik s = ik t) : s = t := (Lit.int.inj h).2
theorem ik_key (s : Int) : WideAt.IsKeyLit (ik s) := trivial
theorem ik_same (s t : Int) : (ik s).sameKey (ik t) = decide (s = t) := by
  by_cases h : s = t
  · subst h
    rw [decide_eq_true rfl]
    exact WideAt.sameKey_self (ik_key s)
  · rw [decide_eq_false h]
    exact Maps.sameKey_ne (fun e => h (ik_inj e))

/-- What a map knows of each int. -/
def KnowsI (D : DataW Value) (m : Int → Option Value) : Prop := ∀ s, (∀ v, m s = some v → ∀ z, D.atKey (ik s) z = .held v) ∧ (m s = none → Maps.has D (ik s) = false)
def imPut (m : Int → Option Value) (s : Int) (v : Value) : Int → Option Value := fun t => if t = s then some v else m t

theorem KnowsI.has {D : DataW Value} {m : Int → Option Value} (h : KnowsI D m) (s : Int) : Maps.has D (ik s) = (m s).isSome := by
  obtain ⟨h1, h2⟩ := h s
  cases hm : m s with
  | none => exact h2 hm
  | some v => exact Maps.has_true_of_atKey (h1 v hm)

theorem KnowsI.put {D : DataW Value} {m : Int → Option Value} (h : KnowsI D m) (hD : Maps.IsMap D) (s : Int) (v : Value) : KnowsI (D.put (ik s) (.held v)) (imPut m s v) := fun t => by
  unfold imPut
  by_cases e : t = s
  · subst e
    rw [if_pos rfl]
    exact ⟨fun u hu z => by rw [Maps.atKey_put_same hD (ik_key t), Option.some.inj hu], fun c => by cases c⟩
  · rw [if_neg e]
    have hne : ik t ≠ ik s := fun c => e (ik_inj c)
    exact ⟨fun u hu z => by rw [Maps.atKey_put_other hne]; exact (h t).1 u hu z, fun c => by rw [Maps.has_put_other hne]; exact (h t).2 c⟩

/-- Block b is a map of at most n entries that knows m. -/
def MapI (P : Program) (k : TypeId) (w : World) (b n : Nat) (m : Int → Option Value) : Prop := ∃ D, w.ownsMap P k asIs b n D ∧ KnowsI D m
/-- Block r goes over it: those of left are still to come, cnt of them. -/
def RangeI (P : Program) (k : TypeId) (w : World) (b r n : Nat) (m : Int → Option Value) (left : Int → Bool) (cnt : Nat) : Prop :=
  ∃ D lf, w.ranges P k asIs b r n D lf cnt ∧ KnowsI D m ∧ ∀ s, lf (ik s) = left s

section
variable {P : Program} {k t e : TypeId} {w w' : World} {b r n cnt : Nat} {m : Int → Option Value} {left : Int → Bool}

theorem MapI.made (w : World) : MapI P k (w.alloc (.map #[] 0)) w.heap.size 0 (fun _ => none) :=
  ⟨_, World.ownsMap_made w P k asIs, fun _ => ⟨fun _ h => (by cases h), fun _ => rfl⟩⟩
theorem MapI.lt (h : MapI P k w b n m) : b < w.heap.size := by
  obtain ⟨D, h, _⟩ := h
  exact h.lt
theorem MapI.at (h : MapI P k w b n m) (e : w'.heap[b]? = w.heap[b]?) : MapI P k w' b n m := by
  obtain ⟨D, ⟨es, clock, hb, h⟩, hk⟩ := h
  exact ⟨D, ⟨es, clock, e.trans hb, h⟩, hk⟩
theorem RangeI.at (h : RangeI P k w b r n m left cnt) (e : w'.heap[b]? = w.heap[b]?) (e' : w'.heap[r]? = w.heap[r]?) : RangeI P k w' b r n m left cnt := by
  obtain ⟨D, lf, ⟨es, clock, since, seen, c0, hb, F, hs, hD, hr, rest⟩, hk⟩ := h
  exact ⟨D, lf, ⟨es, clock, since, seen, c0, e.trans hb, F, hs, hD, e'.trans hr, rest⟩, hk⟩
theorem RangeI.lt (h : RangeI P k w b r n m left cnt) : r < w.heap.size := by
  obtain ⟨D, lf, h, hk, _⟩ := h
  exact h.lt

variable (hk : P.underlying k = some (.int .i64)) (ht : P.underlying t = some (.map k e))
include hk ht

/-- m[s]. -/
theorem MapI.look (h : MapI P k w b n m) {z : Value} (hz : (zeroValue e).run P w = .ok z w) {s : Int} (hs : (-9223372036854775808 ≤ s ∧ s ≤ 9223372036854775807)) : (Instr.lookup t (.map (some b)) (.int .i64 s) false).run P w = .ok ((m s).getD z) w := by
  obtain ⟨D, h, hkn⟩ := h
  obtain ⟨v, ps, hrun, hv⟩ := h.lookup (Maps.int_keyed hk) ht hz (zd := .held z) (zp := []) rfl (Maps.keyOf_int_mk hk (WalkArith.wf_i64 hs))
  rw [hrun]
  simp only [asIs, Option.some.injEq, Prod.mk.injEq] at hv
  cases hm : m s with
  | none =>
    have h1 := hv.1
    rw [Maps.atKey_of_not_has ((hkn s).2 hm)] at h1
    rw [DataW.held.inj h1]
    rfl
  | some u =>
    have h1 := hv.1
    rw [(hkn s).1 u hm] at h1
    rw [DataW.held.inj h1]
    rfl

/-- m[s] = v. -/
theorem MapI.store (h : MapI P k w b n m) (hn : n < maxLen) {s : Int} (hs : (-9223372036854775808 ≤ s ∧ s ≤ 9223372036854775807)) (v : Value) : ∃ w', (Instr.mapUpdate t (.map (some b)) (.int .i64 s) v).run P w = .ok () w' ∧ MapI P k w' b (n + 1) (imPut m s v) ∧ w.mapTurned w' b := by
  obtain ⟨D, h, hkn⟩ := h
  obtain ⟨w', h1, h2, h3⟩ := h.store (Maps.int_keyed hk) ht hn (Maps.keyOf_int_mk hk (WalkArith.wf_i64 hs)) (val := v) (d := .held v) (ps := []) rfl
  exact ⟨w', h1, ⟨_, h2, hkn.put h.isMap s v⟩, h3⟩

/-- range m. -/
theorem MapI.range (h : MapI P k w b n m) : ∃ w' cnt, (Instr.range t (.map (some b))).run P w = .ok (.pointer (some ⟨w.heap.size, 0, none⟩)) w' ∧ RangeI P k w' b w.heap.size n m (fun s => (m s).isSome) cnt ∧ cnt ≤ n ∧ w.grownBy w' none ∧ w'.heap.size = w.heap.size + 1 := by
  obtain ⟨D, h, hkn⟩ := h
  obtain ⟨w', h1, h2, h3, h4⟩ := h.range (Maps.int_keyed hk) ht
  exact ⟨w', _, h1, ⟨D, _, h2, hkn, fun s => hkn.has s⟩, h.size_le, h3, h4⟩

omit ht in
/-- The step. -/
theorem RangeI.next (h : RangeI P k w b r n m left cnt) (ty : TypeId) :
    (cnt = 0 ∧ (∀ s, left s = false) ∧ (Instr.next (.pointer (some ⟨r, 0, none⟩)) false ty).run P w = .ok (.tuple #[.bool false]) w) ∨
    ∃ s v w' cnt', left s = true ∧ m s = some v ∧ (Instr.next (.pointer (some ⟨r, 0, none⟩)) false ty).run P w = .ok (.tuple #[.bool true, .int .i64 s, v]) w' ∧
      RangeI P k w' b r n m (fun x => left x && !decide (x = s)) cnt' ∧ cnt' < cnt ∧ w.grownBy w' (some r) ∧ w'.heap.size = w.heap.size ∧ (Instr.entry (.pointer (some ⟨r, 0, none⟩))).run P w' = .ok (.tuple #[.int .i64 s, v]) w' := by
  obtain ⟨D, lf, h, hkn, hl⟩ := h
  rcases h.next (Maps.int_keyed hk) ty with ⟨h0, h1, h2⟩ | ⟨key, v, kl, y, w', c', hkey, hlk, hv, hat, hrun, hrg, hlt, hgr, hsz, hen⟩
  · exact .inl ⟨h0, fun s => by rw [← hl s]; exact h1 _, h2⟩
  · obtain ⟨s, rfl, rfl, hs⟩ := Maps.keyOf_int_inv hk hkey
    refine .inr ⟨s, v, w', c', by rw [← hl s]; exact hlk, ?_, hrun, ⟨D, _, hrg, hkn, fun x => by show (lf (ik x) && !(ik x).sameKey (ik s)) = _; rw [hl x, ik_same]⟩, hlt, hgr, hsz, hen⟩
    have hh := hkn.has s
    rw [Maps.has_true_of_atKey hat] at hh
    cases hm : m s with
    | none => rw [hm] at hh; cases hh
    | some u =>
      have h1 := hat (.held u)
      rw [(hkn s).1 u hm] at h1
      simp only [asIs, Option.some.injEq] at hv
      rw [← hv] at h1
      rw [DataW.held.inj h1]

end

section
variable {P : Program} (w : World) {ops : Array Oper} {rest : List Oper} {o : Oper} {a : Act} {Q : Exit → Act → World → Prop}

theorem wpList_range_i (hg : o.guard = none) (x : Operand) (t : TypeId) (hop : o.op = Op.range t x) (k e : TypeId) (hk : P.underlying k = some (.int .i64)) (ht : P.underlying t = some (.map k e)) (b n : Nat) (m : Int → Option Value)
    (hm : a.eval x = .map (some b)) (h : MapI P k w b n m)
    (hK : ∀ w' cnt, RangeI P k w' b w.heap.size n m (fun s => (m s).isSome) cnt → cnt ≤ n → w.grownBy w' none → w'.heap.size = w.heap.size + 1 → wpList P ops Q rest (a.put o.dst (.pointer (some ⟨w.heap.size, 0, none⟩))) w') :
    wpList P ops Q (o :: rest) a w := by
  refine wpList_plain hg fun K' hK' => ?_
  obtain ⟨w', c, hrun, r1, r2, r3, r4⟩ := h.range hk ht
  unfold Oper.wp
  simp [execOp, hop, hm, hrun, Result.andThen]
  exact hK' _ _ (hK w' c r1 r2 r3 r4)

theorem wpList_next_i (hg : o.guard = none) (it : Operand) (hop : o.op = Op.next it false) (k : TypeId) (hk : P.underlying k = some (.int .i64)) (b r n : Nat) (m : Int → Option Value) (left : Int → Bool) (cnt : Nat)
    (hit : a.eval it = .pointer (some ⟨r, 0, none⟩)) (h : RangeI P k w b r n m left cnt)
    (hDone : cnt = 0 → (∀ s, left s = false) → wpList P ops Q rest (a.put o.dst (.tuple #[.bool false])) w)
    (hMore : ∀ (s : Int) (v : Value) (w' : World) (cnt' : Nat), left s = true → m s = some v → RangeI P k w' b r n m (fun x => left x && !decide (x = s)) cnt' → cnt' < cnt →
      w.grownBy w' (some r) → w'.heap.size = w.heap.size → (Instr.entry (.pointer (some ⟨r, 0, none⟩))).run P w' = .ok (.tuple #[.int .i64 s, v]) w' → wpList P ops Q rest (a.put o.dst (.tuple #[.bool true, .int .i64 s, v])) w') :
    wpList P ops Q (o :: rest) a w := by
  refine wpList_plain hg fun K' hK' => ?_
  unfold Oper.wp
  rcases h.next hk o.type with ⟨h0, hl, hrun⟩ | ⟨s, v, w', cnt', h2, h3, hrun, h4, h5, h6, h7, h8⟩
  · simp [execOp, hop, hit, hrun, Result.andThen]
    exact hK' _ _ (hDone h0 hl)
  · simp [execOp, hop, hit, hrun, Result.andThen]
    exact hK' _ _ (hMore s v w' cnt' h2 h3 h4 h5 h6 h7 h8)

theorem wpList_look_i (hg : o.guard = none) (x y : Operand) (t : TypeId) (hop : o.op = Op.lookup t x y false) (k e : TypeId) (hk : P.underlying k = some (.int .i64)) (ht : P.underlying t = some (.map k e)) (b n : Nat) (m : Int → Option Value) {z : Value} (hz : (zeroValue e).run P w = .ok z w)
    (hm : a.eval x = .map (some b)) (h : MapI P k w b n m) (s : Int) (hx : a.eval y = .int .i64 s) (hs : (-9223372036854775808 ≤ s ∧ s ≤ 9223372036854775807)) (v : Value) (hv : (m s).getD z = v) (hK : wpList P ops Q rest (a.put o.dst v) w) :
    wpList P ops Q (o :: rest) a w := by
  refine wpList_plain hg fun K' hK' => ?_
  have hrun := h.look hk ht hz hs
  rw [hv] at hrun
  unfold Oper.wp
  simp [execOp, hop, hm, hx, hrun, Result.andThen]
  exact hK' _ _ hK

theorem wpList_store_i (hg : o.guard = none) (x y z : Operand) (t : TypeId) (hop : o.op = Op.mapUpdate t x y z) (k e : TypeId) (hk : P.underlying k = some (.int .i64)) (ht : P.underlying t = some (.map k e)) (b n : Nat) (m : Int → Option Value)
    (hm : a.eval x = .map (some b)) (h : MapI P k w b n m) (hn : n < maxLen) (s : Int) (hx : a.eval y = .int .i64 s) (hs : (-9223372036854775808 ≤ s ∧ s ≤ 9223372036854775807)) (v : Value) (hv : a.eval z = v)
    (hK : ∀ w', MapI P k w' b (n + 1) (imPut m s v) → w.mapTurned w' b → wpList P ops Q rest (a.put o.dst undef) w') :
    wpList P ops Q (o :: rest) a w := by
  refine wpList_plain hg fun K' hK' => ?_
  obtain ⟨w', hrun, r1, r2⟩ := h.store hk ht hn hs v
  unfold Oper.wp
  simp [execOp, hop, hm, hx, hv, hrun, Result.andThen]
  exact hK' _ _ (hK w' r1 r2)

end

end Go.Proofs.YtbhcafginmkaaaaGreat
