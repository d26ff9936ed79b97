/-
  Plain facts for ViewMore: a list and the same with one record more, held against each other step by step.
-/
import Derived.Test.YtdhkmcmipkfkjaaVEQr
import Derived.Test.YtdhkmcmipkfkjaaR21
import Derived.Test.YtdhkmcmipkfkjaaR32
namespace Go.Proofs.Ytdhkmcmipkfkjaa
open Go.RowKit Go.Lib

theorem tIns_shape (X : List TRec) (r : TRec) : (∃ A B, X = A ++ B ∧ tIns X r = A ++ r :: B ∧ ∀ x, B[0]? = some x → x.k ≠ r.k) ∨ (∃ A x x' B, X = A ++ x :: B ∧ tIns X r = A ++ x' :: B ∧ x.k = r.k ∧ x'.k = r.k) := by
  induction X with
  | nil => exact .inl ⟨[], [], rfl, rfl, fun x hx => by cases hx⟩
  | cons y L ih =>
    by_cases c : kLtB y.k r.k = true
    · have e : tIns (y :: L) r = y :: tIns L r := by rw [tIns, if_pos c]
      rcases ih with ⟨A, B, h1, h2, h3⟩ | ⟨A, x, x', B, h1, h2, h3, h4⟩
      · exact .inl ⟨y :: A, B, by rw [h1]; rfl, by rw [e, h2]; rfl, h3⟩
      · exact .inr ⟨y :: A, x, x', B, by rw [h1]; rfl, by rw [e, h2]; rfl, h3, h4⟩
    · by_cases hk : y.k = r.k
      · exact .inr ⟨[], y, ⟨y.n, y.s, agBoth y.a r.a⟩, L, rfl, by rw [tIns, if_neg c, if_pos hk]; rfl, hk, hk⟩
      · exact .inl ⟨[], y :: L, rfl, by rw [tIns, if_neg c, if_neg hk]; rfl, fun x hx => by cases hx; exact hk⟩

/-- One step in both lists. -/
def MStep (X : List TRec) (ok : Bool) (r : TRec) (y : TRec) (i i' : Nat) : Prop :=
  (∃ x, X[i]? = some x ∧ x.k = y.k ∧ ((ok = true ∧ y.k = r.k) ∨ (x = y ∧ ¬ (ok = true ∧ y.k = r.k))) ∧ i' = i + 1) ∨
  ((∀ x, X[i]? = some x → x.k ≠ y.k) ∧ ok = true ∧ y.k = r.k ∧ i' = i)

theorem more_walk {X Y : List TRec} {ok : Bool} {r : TRec} (h : Y = if ok = true then tIns X r else X) :
    ∃ g : Nat → Nat, g 0 = 0 ∧ g Y.length = X.length ∧ (∀ k, g k ≤ k) ∧ ∀ (k : Nat) y, Y[k]? = some y → MStep X ok r y (g k) (g (k + 1)) := by
  have plain : ∀ (x y : TRec) (i : Nat), X[i]? = some x → x.k = y.k → ((ok = true ∧ y.k = r.k) ∨ x = y) → MStep X ok r y i (i + 1) := fun x y i hx hk ho => by
    refine .inl ⟨x, hx, hk, ?_, rfl⟩
    by_cases c : ok = true ∧ y.k = r.k
    · exact .inl c
    · exact .inr ⟨ho.resolve_left c, c⟩
  cases ok with
  | false =>
    rw [if_neg Bool.false_ne_true] at h
    subst h
    exact ⟨id, rfl, rfl, fun _ => Nat.le_refl _, fun k y hy => plain y y k hy rfl (.inr rfl)⟩
  | true =>
    rw [if_pos rfl] at h
    rcases tIns_shape X r with ⟨A, B, h1, h2, h3⟩ | ⟨A, x, x', B, h1, h2, h3, h4⟩
    · rw [h2] at h
      subst h
      refine ⟨fun k => if A.length < k then k - 1 else k, rfl, ?_, fun k => by simp only; split <;> omega, fun k y hy => ?_⟩
      · rw [h1]
        simp only [List.length_append, List.length_cons]
        split <;> omega
      · by_cases c1 : k < A.length
        · rw [List.getElem?_append_left c1] at hy
          simp only
          rw [if_neg (by omega), if_neg (by omega)]
          exact plain y y k (by rw [h1, List.getElem?_append_left c1]; exact hy) rfl (.inr rfl)
        · rw [List.getElem?_append_right (by omega)] at hy
          by_cases c2 : k = A.length
          · subst c2
            rw [Nat.sub_self] at hy
            obtain rfl : r = y := Option.some.inj hy
            simp only
            rw [if_neg (by omega), if_pos (by omega)]
            exact .inr ⟨fun x hx => h3 x (by rw [h1, List.getElem?_append_right (Nat.le_refl _), Nat.sub_self] at hx; exact hx), rfl, rfl, by omega⟩
          · obtain ⟨j, rfl⟩ : ∃ j, k = A.length + j + 1 := ⟨k - A.length - 1, by omega⟩
            rw [show A.length + j + 1 - A.length = j + 1 by omega, List.getElem?_cons_succ] at hy
            simp only
            rw [if_pos (by omega), if_pos (by omega)]
            exact plain y y _ (by rw [h1, List.getElem?_append_right (by omega)]; rw [show A.length + j + 1 - 1 - A.length = j by omega]; exact hy) rfl (.inr rfl)
    · rw [h2] at h
      subst h
      refine ⟨id, rfl, by rw [h1]; simp, fun _ => Nat.le_refl _, fun k y hy => ?_⟩
      by_cases c1 : k < A.length
      · rw [List.getElem?_append_left c1] at hy
        exact plain y y k (by rw [h1, List.getElem?_append_left c1]; exact hy) rfl (.inr rfl)
      · rw [List.getElem?_append_right (by omega)] at hy
        by_cases c2 : k = A.length
        · subst c2
          rw [Nat.sub_self] at hy
          obtain rfl : x' = y := Option.some.inj hy
          exact plain x x' A.length (by rw [h1, List.getElem?_append_right (Nat.le_refl _), Nat.sub_self]; rfl) (h3.trans h4.symm) (.inl ⟨rfl, h4⟩)
        · obtain ⟨j, rfl⟩ : ∃ j, k = A.length + j + 1 := ⟨k - A.length - 1, by omega⟩
          rw [show A.length + j + 1 - A.length = j + 1 by omega, List.getElem?_cons_succ] at hy
          exact plain y y (A.length + j + 1) (by rw [h1, List.getElem?_append_right (by omega), show A.length + j + 1 - A.length = j + 1 by omega, List.getElem?_cons_succ]; exact hy) rfl (.inr rfl)

theorem more_lists {r : RchL} {i : Int} {ss : List SamL} {s : SamL} {ok : Bool} (hr : VOk r) (hs : SFit s) (hok : vHas r i s = ok) : vT r i (ss ++ [s]) = if ok = true then tIns (vT r i ss) ⟨s.1, (rStart r i s.2.1).1, agOne s.2.2⟩ else vT r i ss := by
  rw [vT_next hr hs, hok]
theorem more_count {r : RchL} {i : Int} {ss : List SamL} {s : SamL} {ok : Bool} (hok : vHas r i s = ok) : vN r i (ss ++ [s]) = vN r i ss + (if ok = true then 1 else 0) := by
  unfold vN
  rw [List.filter_append, List.length_append, List.filter_cons, List.filter_nil, hok]
  split <;> rfl
/-- Whether a name may stand at all shows at the time 0. -/
theorem takes_name (r : RchL) (n : ByteArray) : (rTakes r n 0 = 1) ↔ nOk n = false := by
  unfold rTakes
  by_cases c : nOk n = false
  · rw [if_pos (.inl c)]
    simp [c]
  · rw [if_neg (by rintro (h | h); exact c h; omega)]
    split
    · simp [c]
    · split <;> simp [c]

set_option maxRecDepth 100000 in
theorem recEqIn (x y : TRec) (w : World) : (Op.equalIn 10000 51 (tnv x) (tnv y)).run Try.prog w = .ok (recSame x y) w := by
  have hS : Try.prog.underlying 51 = some (.struct (Try.prog.fieldsOf 51)) := by kernel_rfl
  have hp : Try.prog.stoodInHeld 51 = false := by kernel_rfl
  rw [show (10000 : Nat) = 9999 + 1 from rfl, run_equalIn_struct w 9999 51 _ _ hS hp]
  obtain ⟨f0, f1, f2, hf, ⟨n0, t0, o0⟩, ⟨n1, t1, o1⟩, ⟨n2, t2, o2⟩⟩ := rec_fields
  rw [hf]
  refine eqF_step n0 (a := .string x.n) (b := .string y.n) ?_ ?_ ?_ (eqF_step n1 (a := .int .i64 x.s) (b := .int .i64 y.s) ?_ ?_ ?_ (eqF_last n2 (a := agv x.a) (b := agv y.a) ?_ ?_ ?_)) <;> simp only [t0, t1, t2, o0, o1, o2]
  all_goals first
    | exact run_equalIn_int w 9998 _ _ .i64 _ _ Try.underlying3
    | exact run_equalIn_string w 9998 _ _ _ Try.underlying9
    | exact aggEqlIn 9997 _ _ w
    | (go_simp; done)
    | rfl
set_option maxRecDepth 100000 in
theorem recOne (y : TRec) : ∀ w : World, (Op.equalIn 10000 51 (.agg #[.string y.n, .int .i64 y.s, .int .i64 y.a.c, .int .i64 y.a.hi, .int .u64 y.a.lo, .int .i64 y.a.mn, .int .i64 y.a.mx]) (.agg #[.string y.n, .int .i64 y.s, .int .i64 y.a.c, .int .i64 y.a.hi, .int .u64 y.a.lo, .int .i64 y.a.mn, .int .i64 y.a.mx])).run Try.prog w = .ok true w := fun w => by
  have h := recEqIn y y w
  rw [show recSame y y = true from recSame_iff.2 rfl] at h
  exact h

end Go.Proofs.Ytdhkmcmipkfkjaa
