/-
  Words as the landed package word holds them, plain: what is left of a text, and where it stands.
-/
import Derived.Test.YtcjfejhfafiaiaaWP
namespace Go.Proofs.Ytcjfejhfafiaiaa
open Go.RowKit Go.Lib

/-- May a word have the byte c? -/
def wIn (c : UInt8) : Bool := decide (33 ≤ c.toNat) && decide (c.toNat ≤ 126)
/-- May a text? -/
def wMay (c : UInt8) : Bool := !decide (wBad c.toNat)
def wNoEnd (c : UInt8) : Bool := !(c.toNat == 10)

/-- Behind the bytes. -/
def lStep (x : Nat × Nat) (c : UInt8) : Nat × Nat := if c.toNat = 10 then (x.1 + 1, 1) else (x.1, x.2 + 1)
def lPass (x : Nat × Nat) (t : List UInt8) : Nat × Nat := t.foldl lStep x

/-- The words of a text that begins there. -/
def wFrom (x : Nat × Nat) (t : List UInt8) : List WdL := (t.foldl WSt.step ⟨[], x.1, x.2, none, false⟩).ended

/-- How many of the first ones are so. -/
def wLen (p : UInt8 → Bool) (t : List UInt8) : Nat := (t.takeWhile p).length

theorem wLen_le (p : UInt8 → Bool) (t : List UInt8) : wLen p t ≤ t.length := by
  unfold wLen
  exact (List.takeWhile_sublist p).length_le

theorem wLen_take (p : UInt8 → Bool) (t : List UInt8) : t.take (wLen p t) = t.takeWhile p := by
  have h := List.takeWhile_append_dropWhile (p := p) (l := t)
  have h2 : (t.takeWhile p ++ t.dropWhile p).take (wLen p t) = t.takeWhile p := by
    rw [wLen, List.take_left]
  rwa [h] at h2

theorem wLen_drop (p : UInt8 → Bool) (t : List UInt8) : t.drop (wLen p t) = t.dropWhile p := by
  have h := List.takeWhile_append_dropWhile (p := p) (l := t)
  have h2 : (t.takeWhile p ++ t.dropWhile p).drop (wLen p t) = t.dropWhile p := by
    rw [wLen, List.drop_left]
  rwa [h] at h2

theorem takeWhile_mem (p : UInt8 → Bool) : ∀ (t : List UInt8) (c : UInt8), c ∈ t.takeWhile p → p c = true
  | [], c, h => by simp at h
  | d :: t, c, h => by
    rw [List.takeWhile_cons] at h
    split at h
    · rcases List.mem_cons.1 h with rfl | h
      · assumption
      · exact takeWhile_mem p t c h
    · simp at h

theorem dropWhile_head (p : UInt8 → Bool) : ∀ (t : List UInt8), t.dropWhile p = [] ∨ ∃ c r, t.dropWhile p = c :: r ∧ p c = false
  | [] => .inl rfl
  | d :: t => by
    rw [List.dropWhile_cons]
    by_cases h : p d = true
    · rw [if_pos h]
      exact dropWhile_head p t
    · rw [if_neg h]
      exact .inr ⟨d, t, rfl, by simpa using h⟩

theorem wLen_next {p : UInt8 → Bool} {t : List UInt8} {k : Nat} {c : UInt8} (h : wLen p (t.take k) = k) (hc : t[k]? = some c) (hp : p c = true) : wLen p (t.take (k + 1)) = k + 1 := by
  have hk := (List.getElem?_eq_some_iff.1 hc).1
  have he := (List.getElem?_eq_some_iff.1 hc).2
  have hl : (t.take k).length = k := by rw [List.length_take]; omega
  have ha : (t.take k).takeWhile p = t.take k := by
    have := List.takeWhile_append_dropWhile (p := p) (l := t.take k)
    have h3 : ((t.take k).dropWhile p).length = 0 := by
      have := congrArg List.length this
      rw [List.length_append] at this
      unfold wLen at h
      omega
    rw [List.eq_nil_of_length_eq_zero h3, List.append_nil] at this
    exact this
  have e : t.take (k + 1) = t.take k ++ [c] := by rw [List.take_succ_eq_append_getElem hk, he]
  rw [e]
  unfold wLen
  rw [List.takeWhile_append_of_pos (fun a h => takeWhile_mem p _ a (by rw [ha]; exact h)), List.length_append, hl]
  simp [hp]

theorem wLen_stop {p : UInt8 → Bool} {t : List UInt8} {k : Nat} {c : UInt8} (h : wLen p (t.take k) = k) (hc : t[k]? = some c) (hp : p c = false) : wLen p t = k := by
  have hk := (List.getElem?_eq_some_iff.1 hc).1
  have he := (List.getElem?_eq_some_iff.1 hc).2
  have hl : (t.take k).length = k := by rw [List.length_take]; omega
  have ha : (t.take k).takeWhile p = t.take k := by
    have := List.takeWhile_append_dropWhile (p := p) (l := t.take k)
    have h3 : ((t.take k).dropWhile p).length = 0 := by
      have := congrArg List.length this
      rw [List.length_append] at this
      unfold wLen at h
      omega
    rw [List.eq_nil_of_length_eq_zero h3, List.append_nil] at this
    exact this
  have e : t = t.take k ++ c :: t.drop (k + 1) := by
    rw [show c :: t.drop (k + 1) = t.drop k by rw [List.drop_eq_getElem_cons hk, he], List.take_append_drop]
  unfold wLen
  rw [e, List.takeWhile_append_of_pos (fun a h => takeWhile_mem p _ a (by rw [ha]; exact h)), List.length_append, hl]
  simp [hp]

theorem wLen_all {p : UInt8 → Bool} {t : List UInt8} {k : Nat} (h : wLen p (t.take k) = k) (hk : k = t.length) : wLen p t = k := by
  subst hk
  rw [List.take_length] at h
  exact h

theorem lPass_append (x : Nat × Nat) (a b : List UInt8) : lPass x (a ++ b) = lPass (lPass x a) b := by
  unfold lPass
  rw [List.foldl_append]

theorem lPass_le : ∀ (t : List UInt8) (x : Nat × Nat), (lPass x t).1 ≤ x.1 + t.length ∧ (lPass x t).2 ≤ x.2 + t.length
  | [], x => ⟨Nat.le_refl _, Nat.le_refl _⟩
  | c :: t, x => by
    have h := lPass_le t (lStep x c)
    have e : lPass x (c :: t) = lPass (lStep x c) t := rfl
    rw [e]
    have : (lStep x c).1 ≤ x.1 + 1 ∧ (lStep x c).2 ≤ x.2 + 1 := by
      unfold lStep
      split
      · exact ⟨Nat.le_refl _, by show 1 ≤ x.2 + 1; omega⟩
      · exact ⟨Nat.le_succ _, Nat.le_refl _⟩
    rw [List.length_cons]
    omega

theorem step_place (s : WSt) (c : UInt8) : ((s.step c).line, (s.step c).col) = lStep (s.line, s.col) c := by
  unfold WSt.step lStep
  by_cases h : c.toNat = 10
  · rw [if_pos h, if_pos h]
  · rw [if_neg h, if_neg h]
    repeat' split
    all_goals rfl

theorem fold_place : ∀ (t : List UInt8) (s : WSt), ((t.foldl WSt.step s).line, (t.foldl WSt.step s).col) = lPass (s.line, s.col) t
  | [], s => rfl
  | c :: t, s => by
    rw [List.foldl_cons, fold_place t, step_place]
    rfl

theorem wIn_no {c : UInt8} (h : wIn c = false) : c.toNat < 33 ∨ 126 < c.toNat := by
  have h2 : ¬ (33 ≤ c.toNat ∧ c.toNat ≤ 126) := fun k => by
    unfold wIn at h
    rw [decide_eq_true k.1, decide_eq_true k.2] at h
    cases h
  omega

theorem wIn_yes {c : UInt8} (h : wIn c = true) : 33 ≤ c.toNat ∧ c.toNat ≤ 126 := by
  unfold wIn at h
  rw [Bool.and_eq_true] at h
  exact ⟨of_decide_eq_true h.1, of_decide_eq_true h.2⟩

theorem wMay_yes {c : UInt8} (h : wMay c = true) : ¬ wBad c.toNat := fun k => by
  unfold wMay at h
  rw [decide_eq_true k] at h
  cases h

theorem wMay_no {c : UInt8} (h : wMay c = false) : wBad c.toNat := by
  unfold wMay at h
  by_cases k : wBad c.toNat
  · exact k
  · rw [decide_eq_false k] at h
    cases h

/-- A byte that may be, and of no word: a blank or a line's end. -/
theorem blank_of {c : UInt8} (h1 : wIn c = false) (h2 : wMay c = true) : c.toNat = 10 ∨ (¬ c.toNat = 10 ∧ c.toNat ≤ 32) := by
  have a := wIn_no h1
  have b := wMay_yes h2
  unfold wBad at b
  omega

theorem wRun_fold : ∀ (t : List UInt8) (s : WSt), (∀ c ∈ t, wMay c = true) → wRun s t = .inl (t.foldl WSt.step s)
  | [], s, _ => rfl
  | c :: t, s, h => by
    have hc := h c (List.mem_cons_self ..)
    unfold wMay at hc
    rw [wRun, if_neg (by simpa using hc), wRun_fold t _ (fun d hd => h d (List.mem_cons_of_mem _ hd))]
    rfl

/-- Cut's answer of a text that may be. -/
theorem wCut_may {t : List UInt8} (hn : t.length ≤ 4000) (h : ∀ c ∈ t, wMay c = true) : wCut t = (some (wFrom (1, 1) t), 0, 0) := by
  unfold wCut
  rw [if_neg (by omega), wRun_fold t _ h]
  rfl

/-- Of one that may not. -/
theorem wCut_maynot {t : List UInt8} (hn : t.length ≤ 4000) (hk : wLen wMay t < t.length) : wCut t = (none, 22, ((lPass (1, 1) (t.take (wLen wMay t))).1 : Int)) := by
  have ht := wLen_take wMay t
  have hd := wLen_drop wMay t
  have hm := takeWhile_mem wMay t
  rw [← ht] at hm
  generalize wLen wMay t = k at *
  rcases dropWhile_head wMay t with h0 | ⟨c, r, h0, hc⟩
  · rw [h0] at hd
    have := congrArg List.length hd
    rw [List.length_drop, List.length_nil] at this
    omega
  · rw [h0] at hd
    have e : t = t.take k ++ c :: r := by rw [← hd, List.take_append_drop]
    have hb := wMay_no hc
    have hr := wRun_fold (t.take k) .start hm
    have hp := fold_place (t.take k) .start
    unfold wCut
    rw [if_neg (by omega)]
    have hw : wRun WSt.start t = .inr ((t.take k).foldl WSt.step .start).line := by
      rw [show wRun WSt.start t = wRun WSt.start (t.take k ++ c :: r) from congrArg _ e]
      exact wRun_bad hr hb
    rw [hw]
    have : ((t.take k).foldl WSt.step .start).line = (lPass (1, 1) (t.take k)).1 := congrArg Prod.fst hp
    rw [← this]

theorem wMay_all {t : List UInt8} (h : wLen wMay t = t.length) : ∀ c ∈ t, wMay c = true := by
  have ht := wLen_take wMay t
  rw [h, List.take_length] at ht
  intro c hc
  rw [ht] at hc
  exact takeWhile_mem _ _ _ hc

/-- Words ahead of those. -/
def WSt.pre (o : List WdL) (s : WSt) : WSt := ⟨o ++ s.out, s.line, s.col, s.cur, s.remark⟩

theorem pre_ended (o : List WdL) (s : WSt) : (s.pre o).ended = o ++ s.ended := by
  unfold WSt.ended WSt.pre
  cases s.cur <;> simp

theorem pre_step (o : List WdL) (s : WSt) (c : UInt8) : (s.pre o).step c = (s.step c).pre o := by
  have he := pre_ended o s
  obtain ⟨out, l, k, cur, rm⟩ := s
  unfold WSt.step
  rw [he]
  by_cases h : c.toNat = 10
  · rw [if_pos h, if_pos h]
    rfl
  · rw [if_neg h, if_neg h]
    by_cases h2 : c.toNat ≤ 32
    · rw [if_pos h2, if_pos h2]
      rfl
    · rw [if_neg h2, if_neg h2]
      cases cur with
      | some u => rfl
      | none =>
        cases rm with
        | true => rfl
        | false =>
          by_cases h3 : c.toNat = 35
          · simp [WSt.pre, h3]
          · simp [WSt.pre, h3]

theorem pre_fold (o : List WdL) : ∀ (t : List UInt8) (s : WSt), t.foldl WSt.step (s.pre o) = (t.foldl WSt.step s).pre o
  | [], s => rfl
  | c :: t, s => by
    rw [List.foldl_cons, List.foldl_cons, pre_step, pre_fold o t]

theorem wFrom_nil (x : Nat × Nat) : wFrom x [] = [] := rfl

/-- A blank, or a line's end. -/
theorem wFrom_blank (x : Nat × Nat) (c : UInt8) (t : List UInt8) (h1 : wIn c = false) (h2 : wMay c = true) : wFrom x (c :: t) = wFrom (lStep x c) t := by
  have hc := blank_of h1 h2
  unfold wFrom
  rw [List.foldl_cons]
  rcases hc with hc | ⟨hc, hd⟩
  · rw [show (WSt.step ⟨[], x.1, x.2, none, false⟩ c) = ⟨[], x.1 + 1, 1, none, false⟩ by unfold WSt.step WSt.ended; rw [if_pos hc]]
    rw [show lStep x c = (x.1 + 1, 1) by unfold lStep; rw [if_pos hc]]
  · rw [show (WSt.step ⟨[], x.1, x.2, none, false⟩ c) = ⟨[], x.1, x.2 + 1, none, false⟩ by unfold WSt.step WSt.ended; rw [if_neg hc, if_pos hd]]
    rw [show lStep x c = (x.1, x.2 + 1) by unfold lStep; rw [if_neg hc]]

theorem fold_remark : ∀ (t : List UInt8) (l k : Nat), (∀ c ∈ t, wNoEnd c = true) → t.foldl WSt.step ⟨[], l, k, none, true⟩ = ⟨[], l, k + t.length, none, true⟩
  | [], l, k, _ => rfl
  | c :: t, l, k, h => by
    have hc : ¬ c.toNat = 10 := by have := h c (List.mem_cons_self ..); unfold wNoEnd at this; simpa using this
    have e : (WSt.step ⟨[], l, k, none, true⟩ c) = ⟨[], l, k + 1, none, true⟩ := by
      unfold WSt.step WSt.ended
      rw [if_neg hc]
      split <;> rfl
    rw [List.foldl_cons, e, fold_remark t l (k + 1) (fun d hd => h d (List.mem_cons_of_mem _ hd)), List.length_cons]
    congr 1
    omega

theorem pass_noEnd : ∀ (t : List UInt8) (x : Nat × Nat), (∀ c ∈ t, wNoEnd c = true) → lPass x t = (x.1, x.2 + t.length)
  | [], x, _ => rfl
  | c :: t, x, h => by
    have hc : ¬ c.toNat = 10 := by have := h c (List.mem_cons_self ..); unfold wNoEnd at this; simpa using this
    have e : lStep x c = (x.1, x.2 + 1) := by unfold lStep; rw [if_neg hc]
    rw [show lPass x (c :: t) = lPass (lStep x c) t from rfl, e, pass_noEnd t _ (fun d hd => h d (List.mem_cons_of_mem _ hd)), List.length_cons]
    congr 1
    show x.2 + 1 + t.length = _
    omega

/-- A remark, up to its line's end. -/
theorem wFrom_remark (x : Nat × Nat) (c : UInt8) (t : List UInt8) (hc : c.toNat = 35) : wFrom x (c :: t) = wFrom (lPass x ((c :: t).take (wLen wNoEnd (c :: t)))) ((c :: t).drop (wLen wNoEnd (c :: t))) := by
  have hp : wNoEnd c = true := by unfold wNoEnd; rw [hc]; rfl
  rw [wLen_take, wLen_drop]
  have hm := takeWhile_mem wNoEnd (c :: t)
  rw [pass_noEnd _ _ hm]
  have e := List.takeWhile_append_dropWhile (p := wNoEnd) (l := c :: t)
  have e1 : (c :: t).takeWhile wNoEnd = c :: t.takeWhile wNoEnd := by rw [List.takeWhile_cons, if_pos hp]
  have e2 : (c :: t).dropWhile wNoEnd = t.dropWhile wNoEnd := by rw [List.dropWhile_cons, if_pos hp]
  rw [e1] at e hm ⊢
  rw [e2] at e ⊢
  have hd := dropWhile_head wNoEnd t
  generalize t.takeWhile wNoEnd = a at *
  generalize t.dropWhile wNoEnd = b at *
  rw [← e]
  unfold wFrom
  rw [List.foldl_append, List.foldl_cons]
  have s1 : (WSt.step ⟨[], x.1, x.2, none, false⟩ c) = ⟨[], x.1, x.2 + 1, none, true⟩ := by
    unfold WSt.step
    rw [hc]
    rfl
  rw [s1, fold_remark a _ _ (fun d h => hm d (List.mem_cons_of_mem _ h)), List.length_cons]
  rcases hd with rfl | ⟨d, r, rfl, hd⟩
  · rfl
  · have hd : d.toNat = 10 := by unfold wNoEnd at hd; simpa using hd
    rw [List.foldl_cons, List.foldl_cons]
    congr 2
    unfold WSt.step WSt.ended
    rw [if_pos hd, if_pos hd]

theorem fold_word : ∀ (t u : List UInt8) (l k : Nat), (∀ c ∈ t, wIn c = true) → t.foldl WSt.step ⟨[], l, k, some u, false⟩ = ⟨[], l, k + t.length, some (u ++ t), false⟩
  | [], u, l, k, _ => by simp
  | c :: t, u, l, k, h => by
    have hc := h c (List.mem_cons_self ..)
    have e : (WSt.step ⟨[], l, k, some u, false⟩ c) = ⟨[], l, k + 1, some (u ++ [c]), false⟩ := by
      have hc := wIn_yes hc
      unfold WSt.step
      rw [if_neg (by omega), if_neg (by omega)]
    rw [List.foldl_cons, e, fold_word t _ l (k + 1) (fun d hd => h d (List.mem_cons_of_mem _ hd)), List.length_cons]
    congr 1
    · omega
    · simp

/-- A word, and what is behind it. -/
theorem wFrom_word (x : Nat × Nat) (c : UInt8) (t : List UInt8) (hc : wIn c = true) (h35 : ¬ c.toNat = 35) (hmay : ∀ d ∈ c :: t, wMay d = true) :
    wFrom x (c :: t) = (⟨((c :: t).take (wLen wIn (c :: t))).toArray⟩, (x.1 : Int), (x.2 : Int)) :: wFrom (lPass x ((c :: t).take (wLen wIn (c :: t)))) ((c :: t).drop (wLen wIn (c :: t))) := by
  have hin : ∀ d : UInt8, wIn d = true → wNoEnd d = true := by
    intro d hd
    have := wIn_yes hd
    unfold wNoEnd
    have h : ¬ d.toNat = 10 := by omega
    simp [h]
  rw [wLen_take, wLen_drop]
  have hm := takeWhile_mem wIn (c :: t)
  rw [pass_noEnd _ _ (fun d hd => hin d (hm d hd))]
  have e := List.takeWhile_append_dropWhile (p := wIn) (l := c :: t)
  have e1 : (c :: t).takeWhile wIn = c :: t.takeWhile wIn := by rw [List.takeWhile_cons, if_pos hc]
  have e2 : (c :: t).dropWhile wIn = t.dropWhile wIn := by rw [List.dropWhile_cons, if_pos hc]
  rw [e1] at e hm ⊢
  rw [e2] at e ⊢
  have hd := dropWhile_head wIn t
  generalize t.takeWhile wIn = a at *
  generalize t.dropWhile wIn = b at *
  rw [← e] at hmay ⊢
  unfold wFrom
  rw [List.foldl_append, List.foldl_cons]
  have s1 : (WSt.step ⟨[], x.1, x.2, none, false⟩ c) = ⟨[], x.1, x.2 + 1, some [c], false⟩ := by
    have hc := wIn_yes hc
    unfold WSt.step
    rw [if_neg (by omega), if_neg (by omega)]
    simp [h35]
  rw [s1, fold_word a _ _ _ (fun d h => hm d (List.mem_cons_of_mem _ h)), List.singleton_append, List.length_cons]
  have hx : ((x.2 + 1 + a.length : Nat) : Int) - ((c :: a).length : Int) = x.2 := by rw [List.length_cons]; omega
  rcases hd with rfl | ⟨d, r, rfl, hd⟩
  · show [((⟨(c :: a).toArray⟩ : ByteArray), (x.1 : Int), ((x.2 + 1 + a.length : Nat) : Int) - ((c :: a).length : Int))] = _
    rw [hx]
    rfl
  · have hb := blank_of hd (hmay d (by simp))
    rw [List.foldl_cons, List.foldl_cons]
    have s2 : WSt.step ⟨[], x.1, x.2 + 1 + a.length, some (c :: a), false⟩ d = (WSt.step ⟨[], x.1, x.2 + (a.length + 1), none, false⟩ d).pre [(⟨(c :: a).toArray⟩, (x.1 : Int), (x.2 : Int))] := by
      have he : (⟨[], x.1, x.2 + 1 + a.length, some (c :: a), false⟩ : WSt).ended = [(⟨(c :: a).toArray⟩, (x.1 : Int), (x.2 : Int))] := by
        show [((⟨(c :: a).toArray⟩ : ByteArray), (x.1 : Int), ((x.2 + 1 + a.length : Nat) : Int) - ((c :: a).length : Int))] = _
        rw [hx]
      unfold WSt.step
      rw [he]
      rcases hb with hb | ⟨hb, hb2⟩
      · rw [if_pos hb, if_pos hb]
        rfl
      · rw [if_neg hb, if_neg hb, if_pos hb2, if_pos hb2]
        unfold WSt.pre WSt.ended
        simp only [List.append_nil]
        congr 1
        omega
    rw [s2, pre_fold, pre_ended]
    rfl

theorem wFrom_len : ∀ (n : Nat) (t : List UInt8) (x : Nat × Nat), t.length ≤ n → (∀ c ∈ t, wMay c = true) → (wFrom x t).length ≤ t.length
  | 0, t, x, hn, _ => by
    have : t = [] := List.eq_nil_of_length_eq_zero (by omega)
    subst this
    simp [wFrom_nil]
  | n + 1, [], x, _, _ => by simp [wFrom_nil]
  | n + 1, c :: t, x, hn, hm => by
    rw [List.length_cons] at hn
    by_cases hc : wIn c = true
    · by_cases h35 : c.toNat = 35
      · have hp : wNoEnd c = true := by unfold wNoEnd; rw [h35]; rfl
        rw [wFrom_remark x c t h35]
        have hk : 1 ≤ wLen wNoEnd (c :: t) := by unfold wLen; rw [List.takeWhile_cons, if_pos hp, List.length_cons]; omega
        have := wFrom_len n ((c :: t).drop (wLen wNoEnd (c :: t))) (lPass x ((c :: t).take (wLen wNoEnd (c :: t)))) (by rw [List.length_drop, List.length_cons]; omega) (fun d hd => hm d (List.mem_of_mem_drop hd))
        rw [List.length_drop] at this
        omega
      · rw [wFrom_word x c t hc h35 hm]
        have hk : 1 ≤ wLen wIn (c :: t) := by unfold wLen; rw [List.takeWhile_cons, if_pos hc, List.length_cons]; omega
        have := wFrom_len n ((c :: t).drop (wLen wIn (c :: t))) (lPass x ((c :: t).take (wLen wIn (c :: t)))) (by rw [List.length_drop, List.length_cons]; omega) (fun d hd => hm d (List.mem_of_mem_drop hd))
        rw [List.length_drop] at this
        rw [List.length_cons]
        have h0 : (c :: t).length = t.length + 1 := rfl
        omega
    · rw [wFrom_blank x c t (by simpa using hc) (hm c (List.mem_cons_self ..))]
      have := wFrom_len n t (lStep x c) (by omega) (fun d hd => hm d (List.mem_cons_of_mem _ hd))
      rw [List.length_cons]
      omega

end Go.Proofs.Ytcjfejhfafiaiaa
