/-
  A line that is none, put between the lines of a policy.
-/
import Derived.Test.YtadepjpmpjipmaaDoorQ14
namespace Go.Proofs.YtadepjpmpjipmaaDoor
open Go.RowKit Go.Lib

/-! ## The same text behind other words -/

def shiftW (d : Nat) (x : WdL) : WdL := (x.1, x.2.1 + d, x.2.2)

structure Sh (o : List WdL) (d : Nat) (s s' : WSt) : Prop where
  out : s'.out = o ++ s.out.map (shiftW d)
  line : s'.line = s.line + d
  col : s'.col = s.col
  cur : s'.cur = s.cur
  remark : s'.remark = s.remark

theorem Sh.ended {o : List WdL} {d : Nat} {s s' : WSt} (h : Sh o d s s') : s'.ended = o ++ s.ended.map (shiftW d) := by
  unfold WSt.ended
  rw [h.cur, h.out, h.line, h.col]
  cases s.cur with
  | none => rfl
  | some w =>
    simp only [List.map_append, List.append_assoc, List.map_cons, List.map_nil, shiftW]
    rfl

theorem Sh.step {o : List WdL} {d : Nat} {s s' : WSt} (h : Sh o d s s') (c : UInt8) : Sh o d (s.step c) (s'.step c) := by
  have he := h.ended
  unfold WSt.step
  rw [h.cur, h.remark, h.line, h.col, he, h.out]
  split
  · exact ⟨rfl, by simp only; omega, rfl, rfl, rfl⟩
  · split
    · exact ⟨rfl, rfl, rfl, rfl, rfl⟩
    · cases s.cur with
      | some w => exact ⟨rfl, rfl, rfl, rfl, rfl⟩
      | none =>
        simp only
        repeat' split
        all_goals exact ⟨rfl, rfl, rfl, rfl, rfl⟩

theorem Sh.run {o : List WdL} {d : Nat} : ∀ (t : List UInt8) {s s' : WSt}, Sh o d s s' → (∀ s1, wRun s t = .inl s1 → ∃ s1', wRun s' t = .inl s1' ∧ Sh o d s1 s1') ∧ (∀ n, wRun s t = .inr n → wRun s' t = .inr (n + d))
  | [], s, s', h => ⟨fun s1 e => by
      simp only [wRun, Sum.inl.injEq] at e
      subst e
      exact ⟨s', rfl, h⟩, fun n e => by cases e⟩
  | c :: t, s, s', h => by
    rw [wRun, wRun]
    split
    · exact ⟨fun s1 e => (by cases e), fun n e => by
        simp only [Sum.inr.injEq] at e
        rw [h.line, e]⟩
    · exact Sh.run t (h.step c)

/-! ## Lines never fall -/

structure Rises (s : WSt) : Prop where
  pw : s.out.Pairwise fun a b => a.2.1 ≤ b.2.1
  le : ∀ x ∈ s.out, x.2.1 ≤ (s.line : Int)

theorem Rises.ended {s : WSt} (h : Rises s) : s.ended.Pairwise (fun a b => a.2.1 ≤ b.2.1) ∧ ∀ x ∈ s.ended, x.2.1 ≤ (s.line : Int) := by
  unfold WSt.ended
  cases s.cur with
  | none => exact ⟨h.pw, h.le⟩
  | some w =>
    refine ⟨List.pairwise_append.2 ⟨h.pw, List.pairwise_singleton _ _, fun a ha b hb => ?_⟩, fun x hx => ?_⟩
    · simp only [List.mem_singleton] at hb
      rw [hb]
      exact h.le a ha
    · rw [List.mem_append] at hx
      rcases hx with hx | hx
      · exact h.le x hx
      · simp only [List.mem_singleton] at hx
        rw [hx]
        exact Int.le_refl _

theorem Rises.step {s : WSt} (h : Rises s) (c : UInt8) : Rises (s.step c) := by
  obtain ⟨e1, e2⟩ := h.ended
  unfold WSt.step
  split
  · exact ⟨e1, fun x hx => by have := e2 x hx; simp only; omega⟩
  · split
    · exact ⟨e1, e2⟩
    · cases s.cur with
      | some w => exact ⟨h.pw, h.le⟩
      | none =>
        simp only
        repeat' split
        all_goals exact ⟨h.pw, h.le⟩

theorem Rises.run : ∀ (t : List UInt8) {s s1 : WSt}, Rises s → wRun s t = .inl s1 → Rises s1
  | [], s, s1, h, e => by
    simp only [wRun, Sum.inl.injEq] at e
    rw [← e]
    exact h
  | c :: t, s, s1, h, e => by
    rw [wRun] at e
    split at e
    · cases e
    · exact Rises.run t (h.step c) e

/-- Words of lines from n on alone. -/
def From (n : Int) (s : WSt) : Prop := n ≤ (s.line : Int) ∧ ∀ x ∈ s.out, n ≤ x.2.1

theorem From.ended {n : Int} {s : WSt} (h : From n s) : ∀ x ∈ s.ended, n ≤ x.2.1 := by
  unfold WSt.ended
  cases s.cur with
  | none => exact h.2
  | some w =>
    intro x hx
    rw [List.mem_append] at hx
    rcases hx with hx | hx
    · exact h.2 x hx
    · simp only [List.mem_singleton] at hx
      rw [hx]
      exact h.1

theorem From.step {n : Int} {s : WSt} (h : From n s) (c : UInt8) : From n (s.step c) := by
  have he := h.ended
  unfold WSt.step
  split
  · exact ⟨by have := h.1; simp only; omega, he⟩
  · split
    · exact ⟨h.1, he⟩
    · cases s.cur with
      | some w => exact h
      | none =>
        simp only
        repeat' split
        all_goals exact h

theorem From.run {n : Int} : ∀ (t : List UInt8) {s s1 : WSt}, From n s → wRun s t = .inl s1 → From n s1
  | [], s, s1, h, e => by
    simp only [wRun, Sum.inl.injEq] at e
    rw [← e]
    exact h
  | c :: t, s, s1, h, e => by
    rw [wRun] at e
    split at e
    · cases e
    · exact From.run t (h.step c) e

/-- The line that is told is that of a word. -/
theorem pTiers_at : ∀ (f : Nat) (ws : List WdL) (d : List TierL) (k : Int), pTiers f ws d = .inr k → ∃ x ∈ ws, x.2.1 = k
  | 0, _, _, _, h => by simp [pTiers] at h
  | f + 1, [], _, _, h => by simp [pTiers] at h
  | f + 1, x :: r, d, k, h => by
    rw [pTiers] at h
    split at h
    · simp only [Sum.inr.injEq] at h
      exact ⟨x, List.mem_cons_self, h⟩
    · split at h
      · simp only [Sum.inr.injEq] at h
        exact ⟨x, List.mem_cons_self, h⟩
      · obtain ⟨y, hy, hk⟩ := pTiers_at f _ _ _ h
        exact ⟨y, List.mem_of_mem_drop hy, hk⟩

theorem drop_takeWhile {α : Type} (f : α → Bool) : ∀ l : List α, l.drop (l.takeWhile f).length = l.dropWhile f
  | [] => rfl
  | a :: l => by
    rw [List.takeWhile_cons, List.dropWhile_cons]
    split
    · exact drop_takeWhile f l
    · rfl

theorem drop_takeWhile_gt {x : WdL} {r : List WdL} (h : (x :: r).Pairwise fun a b => a.2.1 ≤ b.2.1) : ∀ y ∈ (x :: r).drop (wLine (x :: r)), x.2.1 < y.2.1 := by
  intro y hy
  have e : (x :: r).drop (wLine (x :: r)) = (x :: r).dropWhile fun z => z.2.1 == x.2.1 := by
    exact drop_takeWhile _ _
  rw [e] at hy
  have hall : ∀ z ∈ x :: r, x.2.1 ≤ z.2.1 := fun z hz => by
    rcases List.mem_cons.1 hz with rfl | hz
    · exact Int.le_refl _
    · exact (List.pairwise_cons.1 h).1 z hz
  have hsub : ((x :: r).dropWhile fun z => z.2.1 == x.2.1).Pairwise fun a b => a.2.1 ≤ b.2.1 := h.sublist (List.dropWhile_sublist _)
  cases hd : (x :: r).dropWhile fun z => z.2.1 == x.2.1 with
  | nil => rw [hd] at hy; simp at hy
  | cons z q =>
    have hz : (z.2.1 == x.2.1) = false := by
      have := List.head?_dropWhile_not (fun z : WdL => z.2.1 == x.2.1) (x :: r)
      rw [hd] at this
      simpa using this
    have hz2 := hall z ((List.dropWhile_sublist _).subset (by rw [hd]; exact List.mem_cons_self))
    have hz3 : x.2.1 < z.2.1 := by
      have : ¬ z.2.1 = x.2.1 := by simpa using hz
      omega
    rw [hd] at hy hsub
    rcases List.mem_cons.1 hy with rfl | hy
    · exact hz3
    · have := (List.pairwise_cons.1 hsub).1 y hy
      omega

/-- Where the first line of tiers that is none is the line of the first word, its group is none. -/
theorem pTiers_first {f : Nat} {ws : List WdL} {k : Int} (hp : ws.Pairwise fun a b => a.2.1 ≤ b.2.1) (hk : ∀ x ∈ ws, k ≤ x.2.1) (h : pTiers f ws [] = .inr k) : ∃ x r, ws = x :: r ∧ x.2.1 = k ∧ tierOf (texts ((x :: r).take (wLine (x :: r)))) = none := by
  cases f with
  | zero => simp [pTiers] at h
  | succ f =>
    cases ws with
    | nil => simp [pTiers] at h
    | cons x r =>
      rw [pTiers] at h
      split at h
      · rename_i ht
        simp only [Sum.inr.injEq] at h
        exact ⟨x, r, rfl, h, ht⟩
      · rw [if_neg (by simp)] at h
        obtain ⟨y, hy, hyk⟩ := pTiers_at _ _ _ _ h
        have h1 := drop_takeWhile_gt hp y hy
        have h2 := hk x List.mem_cons_self
        omega

/-! ## A policy's own lines -/

theorem oneLine_lays : ∀ (l : List (List UInt8)), l ≠ [] → (∀ w ∈ l, goodWord w) → Lays 1 l (oneLine l ++ [10])
  | [], h, _ => absurd rfl h
  | [w], _, hw => Lays.last 1 w _ (hw w List.mem_cons_self) end_1 (Nat.le_refl _)
  | w :: x :: l, _, hw => by
    have := Lays.more 1 w [32] _ _ (hw w List.mem_cons_self) blank_1 (oneLine_lays (x :: l) (by simp) (fun y hy => hw y (List.mem_cons_of_mem _ hy)))
    rw [oneLine, List.append_assoc]
    exact this

theorem flat_run : ∀ (ls : List (List (List UInt8))), (∀ l ∈ ls, l ≠ [] ∧ ∀ w ∈ l, goodWord w) → ∀ st : WSt, st.cur = none → st.remark = false → st.col = 1 →
    ∃ gs, wRun st (flatLines ls) = .inl ⟨st.out ++ gs.flatten, st.line + ls.length, 1, none, false⟩ ∧ gs.map texts = ls ∧ Grp st.line gs ∧ ∀ x ∈ gs.flatten, x.2.1 < (st.line : Int) + ls.length
  | [], _, st, hc, hr, h1 => by
    refine ⟨[], ?_, rfl, trivial, fun x hx => absurd hx (by simp)⟩
    obtain ⟨o, l, c, cu, r⟩ := st
    simp only at hc hr h1
    subst hc hr h1
    simp [flatLines, wRun]
  | l :: ls, h, st, hc, hr, h1 => by
    obtain ⟨xs, a1, a2, a3, a4, _⟩ := (oneLine_lays l (h l List.mem_cons_self).1 (h l List.mem_cons_self).2).run st hc hr
    obtain ⟨gs, b1, b2, b3, b4⟩ := flat_run ls (fun x hx => h x (List.mem_cons_of_mem _ hx)) ⟨st.out ++ xs, st.line + 1, 1, none, false⟩ rfl rfl rfl
    have e : flatLines (l :: ls) = (oneLine l ++ [10]) ++ flatLines ls := by
      unfold flatLines
      rw [List.map_cons, List.flatten_cons]
    refine ⟨xs :: gs, ?_, by rw [List.map_cons, a2, b2], ⟨st.line, Int.le_refl _, a3, a4, b3.mono (by simp only; omega)⟩, fun x hx => ?_⟩
    · rw [e, wRun_append, a1]
      show wRun _ (flatLines ls) = _
      rw [b1, List.flatten_cons, List.append_assoc]
      congr 2
      simp only [List.length_cons]
      omega
    · rw [List.flatten_cons, List.mem_append] at hx
      simp only [List.length_cons]
      rcases hx with hx | hx
      · rw [a4 x hx]
        omega
      · have := b4 x hx
        simp only at this
        omega

/-- Groups that are tiers, ahead of what else there is. -/
theorem pTiers_through : ∀ {gs : List (List WdL)} {ts d : List TierL} {n : Int} {R : List WdL} (f : Nat), Grp n gs → gs.map texts = ts.map tierWords → (∀ t ∈ ts, tierIn t) → d.length + ts.length ≤ 5 → (∀ x ∈ gs.flatten, ∀ y ∈ R, x.2.1 < y.2.1) →
    pTiers (gs.length + f) (gs.flatten ++ R) d = pTiers f R (d ++ ts)
  | [], ts, d, n, R, f, _, h2, _, _, _ => by
    have : ts = [] := by
      cases ts with
      | nil => rfl
      | cons a b => simp at h2
    subst this
    simp
  | g :: gs, ts, d, n, R, f, ⟨k, h1, h0, hg, hgs⟩, h2, h3, h4, h5 => by
    cases ts with
    | nil => simp at h2
    | cons t ts =>
      simp only [List.map_cons, List.cons.injEq] at h2
      have ht := h3 t List.mem_cons_self
      have hr : ∀ x ∈ gs.flatten ++ R, k < x.2.1 := fun x hx => by
        rw [List.mem_append] at hx
        rcases hx with hx | hx
        · have := hgs.lines x hx
          omega
        · cases g with
          | nil => exact absurd rfl h0
          | cons y g =>
            have e1 := h5 y (by simp) x hx
            rw [hg y List.mem_cons_self] at e1
            exact e1
      simp only [List.length_cons] at h4
      rw [List.flatten_cons, List.append_assoc, show (g :: gs).length + f = (gs.length + f) + 1 by simp; omega,
        pTiers_step (gs.length + f) d h0 hg hr (by rw [h2.1]; exact tierOf_words ht.2.1 ht.2.2.1 ht.2.2.2) (by omega),
        pTiers_through f hgs h2.2 (fun x hx => h3 x (List.mem_cons_of_mem _ hx)) (by rw [List.length_append]; simp; omega) (fun x hx y hy => h5 x (by rw [List.flatten_cons]; exact List.mem_append_right _ hx) y hy), List.append_assoc]
      rfl

theorem takeWhile_more {α : Type} (f : α → Bool) (b : List α) (hb : ∀ x ∈ b, f x = false) : ∀ a : List α, (a ++ b).takeWhile f = a.takeWhile f
  | [] => by
    cases b with
    | nil => rfl
    | cons x b => rw [List.nil_append, List.takeWhile_cons, if_neg (by simp [hb x List.mem_cons_self])]; rfl
  | x :: a => by
    rw [List.cons_append, List.takeWhile_cons, List.takeWhile_cons]
    split
    · rw [takeWhile_more f b hb a]
    · rfl

theorem texts_shift (d : Nat) (l : List WdL) : texts (l.map (shiftW d)) = texts l := by
  unfold texts
  rw [List.map_map]
  rfl

theorem wLine_le' (r : List WdL) : wLine r ≤ r.length := by
  cases r with
  | nil => exact Nat.le_refl _
  | cons x r =>
    unfold wLine
    exact (List.takeWhile_prefix _).length_le

theorem wLine_more {y : WdL} {r C : List WdL} (hC : ∀ x ∈ C, y.2.1 < x.2.1) : wLine (y :: (r ++ C)) = wLine (y :: r) := by
  show ((y :: (r ++ C)).takeWhile fun z => z.2.1 == y.2.1).length = ((y :: r).takeWhile fun z => z.2.1 == y.2.1).length
  rw [← List.cons_append, takeWhile_more _ C (fun x hx => by
    have := hC x hx
    simp
    omega)]

theorem wLine_shift (d : Nat) (y : WdL) (r : List WdL) : wLine ((y :: r).map (shiftW d)) = wLine (y :: r) := by
  rw [List.map_cons]
  show ((shiftW d y :: r.map (shiftW d)).takeWhile fun z => z.2.1 == (shiftW d y).2.1).length = ((y :: r).takeWhile fun z => z.2.1 == y.2.1).length
  rw [← List.map_cons, List.takeWhile_map, List.length_map]
  congr 2
  funext z
  show ((z.2.1 + (d : Int)) == (y.2.1 + (d : Int))) = (z.2.1 == y.2.1)
  by_cases h : z.2.1 = y.2.1
  · rw [h, beq_self_eq_true, beq_self_eq_true]
  · have h' : ¬ z.2.1 + (d : Int) = y.2.1 + (d : Int) := by omega
    rw [beq_eq_false_iff_ne.2 h', beq_eq_false_iff_ne.2 h]

/-- "policy a" and a line end. -/
def sHead : List UInt8 := [112, 111, 108, 105, 99, 121, 32, 97, 10]

def headAs : List WdL := [(⟨#[112, 111, 108, 105, 99, 121]⟩, 1, 1), (⟨#[97]⟩, 1, 8)]

theorem head_run : wRun .start sHead = .inl ⟨headAs, 2, 1, none, false⟩ := rfl

/-- What is told of a text behind a head: the line 2 in it is its own first one. -/
theorem bad_cases {bad : List UInt8} {q : PolL} (hl : bad.length ≤ 300) (h : pParse (sHead ++ bad) = (q, 22, 2)) : wRun ⟨[], 2, 1, none, false⟩ bad = .inr 2 ∨ ∃ s1, wRun ⟨[], 2, 1, none, false⟩ bad = .inl s1 ∧ ∃ y r, s1.ended = y :: r ∧ y.2.1 = 2 ∧ tierOf (texts ((y :: r).take (wLine (y :: r)))) = none := by
  have hsh : Sh headAs 0 ⟨[], 2, 1, none, false⟩ ⟨headAs, 2, 1, none, false⟩ := ⟨rfl, rfl, rfl, rfl, rfl⟩
  obtain ⟨r1, r2⟩ := Sh.run bad hsh
  have hlen : ¬ 4000 < (sHead ++ bad).length := by
    rw [List.length_append]
    have : sHead.length = 9 := rfl
    omega
  unfold pParse wCut at h
  rw [if_neg hlen, wRun_append, head_run] at h
  simp only at h
  cases hr : wRun ⟨[], 2, 1, none, false⟩ bad with
  | inr n =>
    have hn := r2 n hr
    rw [hn] at h
    simp only [Prod.mk.injEq] at h
    refine .inl ?_
    congr 1
    omega
  | inl s1 =>
    obtain ⟨s1', h1, h2⟩ := r1 s1 hr
    rw [h1] at h
    simp only at h
    refine .inr ⟨s1, rfl, ?_⟩
    have hri : Rises s1 := Rises.run bad (s := ⟨[], 2, 1, none, false⟩) ⟨List.Pairwise.nil, fun _ h => absurd h List.not_mem_nil⟩ hr
    have hfr : From 2 s1 := From.run bad (s := ⟨[], 2, 1, none, false⟩) ⟨Int.le_refl _, fun _ h => absurd h List.not_mem_nil⟩ hr
    have e0 : s1.ended.map (shiftW 0) = s1.ended := by
      have : shiftW 0 = id := by
        funext x
        simp [shiftW]
      rw [this, List.map_id]
    have e1 : s1'.ended = headAs ++ s1.ended := by rw [h2.ended, e0]
    have hgt : ∀ x ∈ s1.ended, (1 : Int) < x.2.1 := fun x hx => by
      have := hfr.ended x hx
      omega
    obtain ⟨w1, x, l, w2, w3⟩ := wLine_group (k := 1) (g := headAs) (r := s1.ended) (by simp [headAs]) (by
      intro x hx
      simp only [headAs, List.mem_cons, List.not_mem_nil, or_false] at hx
      rcases hx with rfl | rfl <;> rfl) hgt
    have hp : pOf s1'.ended = (q, 22, 2) := h
    unfold pOf at hp
    rw [e1, w2] at hp
    simp only at hp
    rw [← w2, w1, List.take_left, List.drop_left] at hp
    have et : texts headAs = [sPolicy, [97]] := rfl
    rw [et] at hp
    try simp only [if_true] at hp
    split at hp
    · simp at hp
    · rename_i k hk
      simp only [Prod.mk.injEq, true_and] at hp
      rw [hp.2] at hk
      exact pTiers_first hri.ended.1 (fun x hx => hfr.ended x hx) hk

/-- A line that is none is told, wherever it stands. -/
theorem pParse_bad {p : PolL} {bad : List UInt8} {q : PolL} {a : Nat} (hp : (pCheck p).1 = 0) (ha : a ≤ p.2.length) (hl : bad.length ≤ 300) (h : pParse (sHead ++ bad) = (q, 22, 2)) :
    ∃ q', pParse ((flatLines ((polWords p).take (a + 1)) ++ (bad ++ [10])) ++ flatLines ((polWords p).drop (a + 1))) = (q', 22, (a : Int) + 2) := by
  have hg := polWords_good hp
  obtain ⟨c1, c2, c3, c4⟩ := pCheck_in hp
  have hga : ∀ l ∈ (polWords p).take (a + 1), l ≠ [] ∧ ∀ w ∈ l, goodWord w := fun l hl => hg l (List.mem_of_mem_take hl)
  have hgc : ∀ l ∈ (polWords p).drop (a + 1), l ≠ [] ∧ ∀ w ∈ l, goodWord w := fun l hl => hg l (List.mem_of_mem_drop hl)
  have hA : ((polWords p).take (a + 1)).length = a + 1 := by
    rw [List.length_take]
    unfold polWords
    rw [List.length_cons, List.length_map]
    omega
  obtain ⟨gs, g1, g2, g3, g4⟩ := flat_run _ hga .start rfl rfl rfl
  rw [hA] at g1 g4
  have hlen : ¬ 4000 < ((flatLines ((polWords p).take (a + 1)) ++ (bad ++ [10])) ++ flatLines ((polWords p).drop (a + 1))).length := by
    have e : (flatLines ((polWords p).take (a + 1))).length + (flatLines ((polWords p).drop (a + 1))).length = (polText p).length := by
      rw [polText_flat, ← List.length_append]
      congr 1
      unfold flatLines
      rw [← List.flatten_append, ← List.map_append, List.take_append_drop]
    have := polText_len hp
    rw [List.length_append, List.length_append, List.length_append]
    simp only [List.length_cons, List.length_nil]
    omega
  have hsh : Sh gs.flatten a ⟨[], 2, 1, none, false⟩ ⟨gs.flatten, 1 + (a + 1), 1, none, false⟩ := ⟨by simp, by simp only; omega, rfl, rfl, rfl⟩
  obtain ⟨r1, r2⟩ := Sh.run bad hsh
  have hstart : wRun .start ((flatLines ((polWords p).take (a + 1)) ++ (bad ++ [10])) ++ flatLines ((polWords p).drop (a + 1))) = match wRun ⟨gs.flatten, 1 + (a + 1), 1, none, false⟩ bad with
      | .inl s' => wRun s' (10 :: flatLines ((polWords p).drop (a + 1)))
      | .inr n => .inr n := by
    rw [List.append_assoc, wRun_append, g1, List.append_assoc]
    show wRun ⟨([] : List WdL) ++ gs.flatten, 1 + (a + 1), 1, none, false⟩ _ = _
    rw [List.nil_append, wRun_append]
    rfl
  rcases bad_cases hl h with hb | ⟨s1, hb, y, r, hy1, hy2, hy3⟩
  · refine ⟨PolL.none, ?_⟩
    unfold pParse wCut
    rw [if_neg hlen, hstart, r2 2 hb]
    simp only [Prod.mk.injEq, true_and]
    omega
  · obtain ⟨s1', h1, h2⟩ := r1 s1 hb
    have he := h2.ended
    obtain ⟨gc, k1, k2, k3, k4⟩ := flat_run _ hgc ⟨s1'.ended, s1'.line + 1, 1, none, false⟩ rfl rfl rfl
    have hstep : s1'.step 10 = ⟨s1'.ended, s1'.line + 1, 1, none, false⟩ := rfl
    have hrun : wRun .start ((flatLines ((polWords p).take (a + 1)) ++ (bad ++ [10])) ++ flatLines ((polWords p).drop (a + 1))) = .inl ⟨s1'.ended ++ gc.flatten, s1'.line + 1 + ((polWords p).drop (a + 1)).length, 1, none, false⟩ := by
      rw [hstart, h1]
      show wRun s1' (10 :: flatLines ((polWords p).drop (a + 1))) = _
      rw [wRun, if_neg (by decide), hstep]
      exact k1
    have hri : Rises s1 := Rises.run bad (s := ⟨[], 2, 1, none, false⟩) ⟨List.Pairwise.nil, fun _ h => absurd h List.not_mem_nil⟩ hb
    have hfr : From 2 s1 := From.run bad (s := ⟨[], 2, 1, none, false⟩) ⟨Int.le_refl _, fun _ h => absurd h List.not_mem_nil⟩ hb
    -- the words
    cases gs with
    | nil =>
      have := congrArg List.length g2
      rw [hA] at this
      simp at this
    | cons g0 gs =>
      have hty : (polWords p).take (a + 1) = headWords p :: (p.2.take a).map tierWords := by
        unfold polWords
        rw [List.take_succ_cons, ← List.map_take]
      rw [hty] at g2
      simp only [List.map_cons, List.cons.injEq] at g2
      obtain ⟨kk, m1, m2, m3, m4⟩ := g3
      obtain ⟨Y, hY⟩ : ∃ Y, (y :: r).map (shiftW a) = Y := ⟨_, rfl⟩
      have hYl : ∀ x ∈ Y, (a : Int) + 2 ≤ x.2.1 ∧ x.2.1 ≤ (s1'.line : Int) := by
        intro x hx
        rw [← hY, ← hy1] at hx
        obtain ⟨z, hz, rfl⟩ := List.mem_map.1 hx
        have e1 := hfr.ended z hz
        have e2 := hri.ended.2 z hz
        have e3 := h2.line
        show (a : Int) + 2 ≤ z.2.1 + (a : Int) ∧ z.2.1 + (a : Int) ≤ _
        rw [e3]
        omega
      have hCl : ∀ x ∈ gc.flatten, (s1'.line : Int) < x.2.1 := by
        intro x hx
        have := k3.lines x hx
        simp only at this
        omega
      have hgl : ∀ x ∈ (g0 :: gs).flatten, x.2.1 < (a : Int) + 2 := by
        intro x hx
        have := g4 x hx
        simp only [WSt.start] at this
        omega
      have hR : ∀ x ∈ Y ++ gc.flatten, (a : Int) + 2 ≤ x.2.1 := by
        intro x hx
        rw [List.mem_append] at hx
        rcases hx with hx | hx
        · exact (hYl x hx).1
        · have e1 := hCl x hx
          have e2 := (hYl (shiftW a y) (by rw [← hY]; exact List.mem_cons_self)).2
          have e3 := (hYl (shiftW a y) (by rw [← hY]; exact List.mem_cons_self)).1
          omega
      have hwords : s1'.ended ++ gc.flatten = g0 ++ (gs.flatten ++ (Y ++ gc.flatten)) := by
        rw [he, hy1, hY, List.flatten_cons]
        simp only [List.append_assoc]
      have hr0 : ∀ x ∈ gs.flatten ++ (Y ++ gc.flatten), kk < x.2.1 := by
        intro x hx
        rw [List.mem_append] at hx
        rcases hx with hx | hx
        · have := m4.lines x hx
          omega
        · have e1 := hR x hx
          cases g0 with
          | nil => exact absurd rfl m2
          | cons z g0 =>
            have e2 := hgl z (by simp)
            rw [m3 z List.mem_cons_self] at e2
            omega
      obtain ⟨v1, x, lw, v2, v3⟩ := wLine_group m2 m3 hr0
      have hfirst : ∃ l', Y ++ gc.flatten = shiftW a y :: l' := by
        refine ⟨r.map (shiftW a) ++ gc.flatten, ?_⟩
        rw [← hY]
        rfl
      obtain ⟨l', hl'⟩ := hfirst
      have hl2 : l' = r.map (shiftW a) ++ gc.flatten := by
        rw [← hY] at hl'
        simpa using hl'.symm
      have hyl : (shiftW a y).2.1 = (a : Int) + 2 := by
        show y.2.1 + (a : Int) = _
        rw [hy2]
        omega
      have hno : tierOf (texts ((Y ++ gc.flatten).take (wLine (Y ++ gc.flatten)))) = none := by
        have hw : wLine (Y ++ gc.flatten) = wLine (y :: r) := by
          rw [hl', hl2, wLine_more (fun x hx => by
            have e1 := hCl x hx
            have e2 := (hYl (shiftW a y) (by rw [← hY]; exact List.mem_cons_self)).2
            omega), ← List.map_cons, wLine_shift]
        rw [hw, ← hY, List.take_append_of_le_length (by rw [List.length_map]; exact wLine_le' _), ← List.map_take, texts_shift]
        exact hy3
      have hfuel : ∃ f, (x :: lw).length = gs.length + (f + 1) := by
        have e1 : (x :: lw).length = g0.length + (gs.flatten.length + (Y ++ gc.flatten).length) := by
          rw [← v2, List.length_append, List.length_append]
        have e2 : gs.length ≤ gs.flatten.length := by
          have hl : ∀ {m : Int} {gs : List (List WdL)}, Grp m gs → gs.length ≤ gs.flatten.length := by
            intro m gs
            induction gs generalizing m with
            | nil => intro _; simp
            | cons a gs ih =>
              rintro ⟨_, _, h0, _, hh⟩
              have := ih hh
              have h0' : 0 < a.length := List.length_pos_iff.2 h0
              simp only [List.length_cons, List.flatten_cons, List.length_append]
              omega
          exact hl m4
        have e3 : 0 < (Y ++ gc.flatten).length := by rw [hl']; simp
        exact ⟨(x :: lw).length - gs.length - 1, by omega⟩
      obtain ⟨f, hf⟩ := hfuel
      have hpo : pOf (s1'.ended ++ gc.flatten) = (PolL.none, 22, (a : Int) + 2) := by
        rw [hwords]
        unfold pOf
        rw [v2]
        simp only
        rw [← v2, v1, List.take_left, List.drop_left, g2.1]
        unfold headWords
        simp only [if_true]
        rw [v2, hf, pTiers_through (d := []) (f + 1) m4 g2.2 (fun t ht => c4 t (List.mem_of_mem_take ht)) (by rw [List.length_take]; simp; omega) (fun x hx y hy => by
          have e1 := hgl x (by rw [List.flatten_cons]; exact List.mem_append_right _ hx)
          have e2 := hR y hy
          omega)]
        rw [hl', pTiers, ← hl', hno, hyl]
      refine ⟨PolL.none, ?_⟩
      unfold pParse wCut
      rw [if_neg hlen, hrun]
      exact hpo

end Go.Proofs.YtadepjpmpjipmaaDoor
