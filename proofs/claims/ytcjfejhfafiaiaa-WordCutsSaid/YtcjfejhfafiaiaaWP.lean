/-
  What chapter 7 says of package word's functions, over whatever way Words lie in memory; a byte that is none.
-/
import Derived.Test.YtcjfejhfafiaiaaWM
import Derived.Test.YtcjfejhfafiaiaaBST
import Derived.Test.YtcjfejhfafiaiaaBFL
namespace Go.Proofs.Ytcjfejhfafiaiaa
open Go.RowKit Go.Lib

abbrev wptr (p : Nat) : Value := .pointer (some ⟨p, 0, none⟩)
abbrev wdVal (x : WdL) : Value := .agg #[.string x.1, .int .i64 x.2.1, .int .i64 x.2.2]
def wdRow (x : WdL) : List Value := [.string x.1, .int .i64 x.2.1, .int .i64 x.2.2]

/-- The next one, or none. -/
def wHead : List WdL → WdL × Bool
  | [] => ((⟨#[]⟩, 0, 0), false)
  | x :: _ => (x, true)

/-- How many are left of the next one's line. -/
def wLine : List WdL → Nat
  | [] => 0
  | x :: l => ((x :: l).takeWhile fun y => y.2.1 == x.2.1).length

/-- Is it a word? -/
def wIs (s : ByteArray) : Bool := match (wCut s.data.toList).1 with
  | some [x] => x.1.toList == s.toList
  | _ => false

def CutEnd (Rep : World → Nat → List WdL → (Nat → Prop) → Prop) (t : ByteArray) (w : World) (e : Ending) (w' : World) : Prop :=
  Below w.heap.size w w' ∧ match (wCut t.data.toList).1 with
    | none => e = .returned (.tuple #[.pointer none, .int .i64 (wCut t.data.toList).2.1, .int .i64 (wCut t.data.toList).2.2])
    | some l => ∃ p F, e = .returned (.tuple #[wptr p, .int .i64 0, .int .i64 0]) ∧ Rep w' p l F ∧ ∀ k, F k → w.heap.size ≤ k

/-- The document's words on each call. -/
structure WordSpec where
  Rep : World → Nat → List WdL → (Nat → Prop) → Prop
  lt : ∀ {w p l F}, Rep w p l F → ∀ k, F k → k < w.heap.size
  kept : ∀ {w w' p l F}, Rep w p l F → w.heap.size ≤ w'.heap.size → (∀ k, F k → w'.heap[k]? = w.heap[k]?) → Rep w' p l F
  cut : ∀ (t : ByteArray) (w : World), t.size ≤ maxLen → Calls Try.prog 9 #[.string t] w (CutEnd Rep t w)
  len : ∀ {w p l F}, Rep w p l F → l.length ≤ 4000 → Calls Try.prog 10 #[wptr p] w fun e w' => e = .returned (.int .i64 l.length) ∧ Below w.heap.size w w'
  peek : ∀ {w p l F}, Rep w p l F → l.length ≤ 4000 → Calls Try.prog 11 #[wptr p] w fun e w' => e = .returned (.tuple #[wdVal (wHead l).1, .bool (wHead l).2]) ∧ Below w.heap.size w w'
  next : ∀ {w p l F}, Rep w p l F → l.length ≤ 4000 → Calls Try.prog 15 #[wptr p] w fun e w' => e = .returned (.tuple #[wdVal (wHead l).1, .bool (wHead l).2]) ∧ ∃ F', Rep w' p l.tail F' ∧ Step F F' w w' ∧ ∀ k, F' k → F k
  line : ∀ {w p l F}, Rep w p l F → l.length ≤ 4000 → Calls Try.prog 13 #[wptr p] w fun e w' => ∃ u, e = .returned u ∧ w'.ownsRow w.heap.size 44 3 u (wLine l) (flat wdRow (l.take (wLine l))) ∧ ∃ F', Rep w' p (l.drop (wLine l)) F' ∧ Step F F' w w' ∧ Off F' u ∧ ∀ k, F' k → F k
  is : ∀ (s : ByteArray) (w : World), s.size ≤ maxLen → Calls Try.prog 17 #[.string s] w fun e w' => e = .returned (.bool (wIs s)) ∧ Below w.heap.size w w'

/-- How many line ends. -/
def wEnds (l : List UInt8) : Nat := (l.filter fun c => c.toNat == 10).length

theorem step_line (s : WSt) (c : UInt8) : (s.step c).line = s.line + if c.toNat == 10 then 1 else 0 := by
  unfold WSt.step
  by_cases h : c.toNat = 10
  · rw [if_pos h]
    simp [h]
  · rw [if_neg h]
    have hb : (c.toNat == 10) = false := by simpa using h
    rw [hb]
    repeat' split
    all_goals simp_all

theorem wRun_line (l : List UInt8) : ∀ (s s' : WSt), wRun s l = .inl s' → s'.line = s.line + wEnds l := by
  induction l with
  | nil =>
    intro s s' h
    simp only [wRun, Sum.inl.injEq] at h
    rw [← h]
    rfl
  | cons c l ih =>
    intro s s' h
    rw [wRun] at h
    split at h
    · cases h
    · have h1 := ih _ _ h
      rw [step_line] at h1
      rw [h1]
      unfold wEnds
      rw [List.filter_cons]
      split <;> simp_all <;> omega

/-- Behind a text that may be a byte that is none is told with its line. -/
theorem wCut_fails {a b : List UInt8} {c : UInt8} (hn : a.length + 1 + b.length ≤ 4000) (hc : wBad c.toNat) (ha : (wCut a).2.1 = 0) : wCut (a ++ c :: b) = (none, 22, ((1 + wEnds a : Nat) : Int)) := by
  unfold wCut at ha
  rw [if_neg (by omega)] at ha
  cases h : wRun .start a with
  | inr n =>
    rw [h] at ha
    simp at ha
  | inl s =>
    have hl := wRun_line a _ _ h
    unfold wCut
    rw [if_neg (by rw [List.length_append, List.length_cons]; omega), wRun_bad h hc, hl]
    rfl

theorem wCut_kinds (t : List UInt8) : (∃ l, wCut t = (some l, 0, 0)) ∨ (∃ e n, wCut t = (none, e, n) ∧ ¬ e = 0) := by
  unfold wCut
  split
  · exact .inr ⟨2, 0, rfl, by decide⟩
  · split
    · exact .inl ⟨_, rfl⟩
    · exact .inr ⟨22, _, rfl, by decide⟩

theorem wEnds_take (l : List UInt8) (k : Nat) (c : UInt8) (h : l[k]? = some c) : wEnds (l.take (k + 1)) = wEnds (l.take k) + if c.toNat == 10 then 1 else 0 := by
  have h2 := List.getElem?_eq_some_iff.1 h
  unfold wEnds
  rw [List.take_succ_eq_append_getElem h2.1, h2.2, List.filter_append, List.length_append]
  congr 1
  by_cases hc : c.toNat = 10 <;> simp [hc]

end Go.Proofs.Ytcjfejhfafiaiaa
