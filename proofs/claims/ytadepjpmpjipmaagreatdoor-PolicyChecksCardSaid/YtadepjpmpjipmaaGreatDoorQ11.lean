/-
  A bundle of texts: WC WK.
-/
import Derived.Deep.DeepCutAuto
import Derived.Deep.CutBlock
import Derived.Test.YtadepjpmpjipmaaGreatDoorQ02
import Derived.Test.YtadepjpmpjipmaaGreatDoorQ06
/-
  What the document's own Cut answers.
-/
namespace Go.Proofs.YtadepjpmpjipmaaGreatDoor
open Go.RowKit Go.Lib

def wdCells (x : WdL) : List Value := [.string x.1, .int .i64 x.2.1, .int .i64 x.2.2]

theorem wdCells_len (x : WdL) : (wdCells x).length = 3 := rfl

/-- The text's bytes, and a line end behind them. -/
def wAll (t : ByteArray) : List UInt8 := t.data.toList ++ [10]

theorem wAll_length (t : ByteArray) : (wAll t).length = t.size + 1 := by
  unfold wAll
  rw [List.length_append, byte_len]
  rfl

theorem wAll_lt {t : ByteArray} {k : Nat} (h : k < t.size) : (wAll t)[k]? = some t[k] := by
  unfold wAll
  rw [List.getElem?_append_left (by rw [byte_len]; exact h), List.getElem?_eq_getElem (by rw [byte_len]; exact h)]
  rfl

theorem wAll_end (t : ByteArray) : (wAll t)[t.size]? = some 10 := by
  unfold wAll
  rw [List.getElem?_append_right (by rw [byte_len]; exact Nat.le_refl _), byte_len, Nat.sub_self]
  rfl

theorem wAll_take {t : ByteArray} {k : Nat} (c : UInt8) (h : (wAll t)[k]? = some c) : (wAll t).take (k + 1) = (wAll t).take k ++ [c] := by
  have hk := (List.getElem?_eq_some_iff.1 h).1
  have he := (List.getElem?_eq_some_iff.1 h).2
  rw [List.take_succ_eq_append_getElem hk, he]

theorem wRun_next {t : ByteArray} {k : Nat} {s : WSt} {c : UInt8} (h : wRun .start ((wAll t).take k) = .inl s) (hc : (wAll t)[k]? = some c) (hb : ¬ wBad c.toNat) : wRun .start ((wAll t).take (k + 1)) = .inl (s.step c) := by
  rw [wAll_take c hc, wRun_snoc h, if_neg hb]

theorem not_bad_10 : ¬ wBad (10 : UInt8).toNat := by decide

theorem wCut_bad {t : ByteArray} {k : Nat} {s : WSt} {c : UInt8} (hn : ¬ 4000 < t.size) (h : wRun .start ((wAll t).take k) = .inl s) (hc : (wAll t)[k]? = some c) (hb : wBad c.toNat) : wCut t.data.toList = (none, 22, (s.line : Int)) := by
  have hk : k < t.size := by
    have h1 := (List.getElem?_eq_some_iff.1 hc).1
    rw [wAll_length] at h1
    rcases Nat.lt_or_ge k t.size with h2 | h2
    · exact h2
    · have h3 : k = t.size := by omega
      subst h3
      rw [wAll_end] at hc
      simp only [Option.some.injEq] at hc
      subst hc
      exact absurd hb not_bad_10
  have e : (wAll t).take k = t.data.toList.take k := by
    unfold wAll
    rw [List.take_append_of_le_length (by rw [byte_len]; omega)]
  have e2 : t.data.toList = t.data.toList.take k ++ c :: t.data.toList.drop (k + 1) := by
    have h1 : t.data.toList[k]? = some c := by
      rw [wAll_lt hk] at hc
      rw [List.getElem?_eq_getElem (by rw [byte_len]; exact hk)]
      exact hc
    have h2 := (List.getElem?_eq_some_iff.1 h1)
    conv => lhs; rw [← List.take_append_drop k t.data.toList]
    rw [List.drop_eq_getElem_cons h2.1, h2.2]
  rw [e] at h
  unfold wCut
  rw [if_neg (by rw [byte_len]; exact hn)]
  have hr := wRun_bad (b := t.data.toList.drop (k + 1)) h hb
  rw [← e2] at hr
  rw [hr]

theorem wCut_good {t : ByteArray} {s : WSt} (hn : ¬ 4000 < t.size) (h : wRun .start ((wAll t).take (t.size + 1)) = .inl s) : wCut t.data.toList = (some s.out, 0, 0) := by
  rw [List.take_of_length_le (by rw [wAll_length]; exact Nat.le_refl _)] at h
  unfold wAll at h
  rw [wRun_append] at h
  unfold wCut
  rw [if_neg (by rw [byte_len]; exact hn)]
  cases hr : wRun .start t.data.toList with
  | inr n => rw [hr] at h; cases h
  | inl s0 =>
    rw [hr] at h
    simp only at h ⊢
    have e : wRun s0 [10] = .inl (s0.step 10) := by
      rw [wRun, if_neg not_bad_10]
      rfl
    rw [e] at h
    simp only [Sum.inl.injEq] at h
    have e2 : (s0.step 10).out = s0.ended := rfl
    rw [← h, e2]

/-- Where the word under way began. -/
def WAt (t : ByteArray) (k : Nat) (s : WSt) (v : Value) : Prop := match s.cur with
  | none => v = .int .i64 (-1)
  | some w => ∃ a : Nat, v = .int .i64 a ∧ a + w.length = k ∧ k ≤ t.size ∧ 0 < w.length ∧ w = (t.data.toList.drop a).take (k - a)

theorem word_text (t : ByteArray) (a k : Nat) (wd : List UInt8) (hak : a + wd.length = k) (h : wd = (t.data.toList.drop a).take (k - a)) : (⟨wd.toArray⟩ : ByteArray) = t.extract a k := by
  refine same_bytes ?_
  have e := extract_list t a (k - a)
  rw [show a + (k - a) = k by omega] at e
  rw [e, ← h]

theorem take_one {l : List UInt8} {k : Nat} {c : UInt8} (h : l[k]? = some c) : (l.drop k).take 1 = [c] := by
  have h2 := List.getElem?_eq_some_iff.1 h
  rw [List.drop_eq_getElem_cons h2.1, h2.2]
  rfl

theorem take_more {l : List UInt8} {k a : Nat} {c : UInt8} (h : l[k]? = some c) (ha : a ≤ k) : (l.drop a).take (k + 1 - a) = (l.drop a).take (k - a) ++ [c] := by
  have h2 : (l.drop a)[k - a]? = some c := by rw [List.getElem?_drop, show a + (k - a) = k by omega]; exact h
  have h3 := List.getElem?_eq_some_iff.1 h2
  rw [show k + 1 - a = (k - a) + 1 by omega, List.take_succ_eq_append_getElem h3.1, h3.2]

theorem own_any {w : World} {B : Nat} {e : TypeId} {sz : Nat} {v : Value} {n : Nat} {xs : List Value} (h : w.ownsRow B e sz v n xs) : ∃ a c, v = .slice a n c := by
  rcases h.2 with ⟨h, h'⟩ | ⟨g, cap, cur, h, _⟩
  · rw [h, h']; exact ⟨_, _, rfl⟩
  · exact ⟨_, _, h⟩

theorem own_ge3 {w : World} {B : Nat} {e : TypeId} {size : Nat} {v : Value} {n : Nat} {xs : List Value} (h : w.ownsRow B e size v n xs) {k : Nat} (hk : v.ownBlock = some k) : B ≤ k := (h.lt k hk).1

end Go.Proofs.YtadepjpmpjipmaaGreatDoor

/-
  What statement WordIs answers: true, for every input.
-/
namespace Go.Proofs.YtadepjpmpjipmaaGreatDoor
open Go.RowKit Go.Lib

section
variable {P : Program}

/-- A struct put together, its cells said. -/
theorem wpList_builtW {ops : Array Oper} {rest : List Oper} {o : Oper} {a : Act} {w : World} {Q : Exit → Act → World → Prop} (hg : o.guard = none) (t : TypeId) (ps : List (Nat × Operand)) (ho : o.op = .build t ps.toArray)
    (cs : Array Value) (hc : P.built t (ps.map fun x => (x.1, a.eval x.2)) = some cs)
    (h : wpList P ops Q rest (a.put o.dst (.agg cs)) w) : wpList P ops Q (o :: rest) a w := by
  have e : P.built t (ps.toArray.map fun (i, x) => (i, a.eval x)).toList = some cs := by
    rw [← hc]
    congr 1
    simp
  exact wpList_build hg t ps.toArray ho (by rw [e]; rfl) (by rw [e]; exact h)

/-- A variable on the heap, its cells said. -/
theorem wpList_boxedW {ops : Array Oper} {rest : List Oper} {o : Oper} {a : Act} {w : World} {Q : Exit → Act → World → Prop} (hg : o.guard = none) (t : TypeId) (x : Operand) (ho : o.op = .box t x)
    (cs : Array Value) (hx : (a.eval x).cells = cs)
    (h : wpList P ops Q rest (a.put o.dst (.pointer (some ⟨w.heap.size, 0, none⟩))) (w.alloc (.cells cs t))) : wpList P ops Q (o :: rest) a w :=
  wpList_plain hg fun K hK => by
    unfold Oper.wp execOp
    simp only [ho, Instr.box, newVar, newRow, run_newObj_alloc, Sem.run_bind, Sem.run_pure, Result.andThen_ok, hx]
    exact hK _ _ h
end

end Go.Proofs.YtadepjpmpjipmaaGreatDoor
