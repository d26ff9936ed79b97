/-
  What package word's own Len and Is answer.
-/
import Derived.Test.YtcjfejhfafiaiaaWLF
namespace Go.Proofs.Ytcjfejhfafiaiaa
open Go.RowKit Go.Lib

set_option maxRecDepth 20000 in
set_option maxHeartbeats 3200000 in
theorem len_nil (w : World) :
    Calls Try.prog 10 #[.pointer none] w fun e w' => e = .returned (.int .i64 0) ∧ Below w.heap.size w w' := by
  go_enter Try.func10, Try.ntmps10
  go_wp2
  go_ret
  exact ⟨rfl, Below.refl _ _⟩

theorem BlkV.made (w : World) (x : Nat × Nat) (t : ByteArray) : WRow (w.alloc (.cells #[.int .i64 x.1, .int .i64 x.2, .string t] 56)) w.heap.size x t := Go.heap_alloc_new _ _

set_option maxRecDepth 20000 in
set_option maxHeartbeats 3200000 in
theorem len_any (w : World) (p : Nat) (x : Nat × Nat) (t : ByteArray) (l : List WdL) (h : WdAt w p x t l) (hf : WFirst t) (hl : l.length ≤ 4000) :
    Calls Try.prog 10 #[wptr p] w fun e w' => e = .returned (.int .i64 l.length) ∧ Below w.heap.size w w' := by
  have c0 := h.row.cell 0 _ rfl
  have c1 := h.row.cell 1 _ rfl
  have c2 := h.row.cell 2 _ rfl
  have K0 : Hid (WdAt (w.alloc (.cells #[.int .i64 x.1, .int .i64 x.2, .string t] 56)) w.heap.size x t l) := Hid.of ⟨BlkV.made w x t, h.may, h.words, h.b1, h.b2⟩
  have F0 := Hid.of hf
  clear h hf
  go_enter Try.func10, Try.ntmps10
  go_wp2_with fail
  go_loopw [3, 4] (fun nv pv wr => ∃ (k b : Nat) (x' : Nat × Nat) (t' : ByteArray), k ≤ l.length ∧ nv = .int .i64 k ∧ pv = wptr b ∧ w.heap.size ≤ b ∧ Hid (WdAt wr b x' t' (l.drop k)) ∧ Hid (WFirst t') ∧ Hid (Below w.heap.size w wr)) (fun nv _ _ => l.length - (RowKit.intOf nv).toNat)
  case atStart => exact ⟨0, w.heap.size, x, t, Nat.zero_le _, rfl, rfl, Nat.le_refl _, K0, F0, Hid.of ((Below.refl _ _).alloc (Nat.le_refl _) _)⟩
  case round =>
    obtain ⟨k, b, x', t', hk, rfl, rfl, hb, K, F, B⟩ := hrel
    have e2 := K.out.row.cell 2 _ rfl
    rcases Nat.eq_zero_or_pos t'.size with h0 | h0
    · have hi := text_empty h0
      have hd := last_of K.out h0
      have hkl : k = l.length := by
        have := congrArg List.length hd
        rw [List.length_drop, List.length_nil] at this
        omega
      clear hd h0
      go_wp2
      go_ret
      rw [hkl]
      exact ⟨rfl, B.out⟩
    · have hi := text_some h0
      have hd := (first_of K.out F.out h0).1
      have hkl : k < l.length := by
        have := congrArg List.length hd
        rw [List.length_cons, List.length_drop] at this
        omega
      clear hd
      have e0 := K.out.row.cell 0 _ rfl
      have e1 := K.out.row.cell 1 _ rfl
      have K2 : Hid (WdAt (wr.alloc (.cells #[.int .i64 x'.1, .int .i64 x'.2, .string t'] 56)) wr.heap.size x' t' (l.drop k)) := Hid.of ⟨BlkV.made wr x' t', K.out.may, K.out.words, K.out.b1, K.out.b2⟩
      have B2 : Hid (Below w.heap.size w (wr.alloc (.cells #[.int .i64 x'.1, .int .i64 x'.2, .string t'] 56))) := Hid.of (B.out.alloc B.out.size _)
      go_wp2_with fail
      refine (drop_any _ _ x' t' _ K2.out F.out h0).mono ?_
      rintro e w4 ⟨rfl, ⟨x4, t4, k4, f4, -⟩, g4⟩
      rw [List.tail_drop] at k4
      have B4 := Hid.of (B2.out.grown g4 B2.out.size (fun j hj => by cases hj; exact B.out.size))
      have F4 := Hid.of f4
      have K4 := Hid.of k4
      clear f4 g4 k4
      go_wp2_with fail
      refine ⟨⟨k + 1, wr.heap.size, x4, t4, by omega, by go_num, rfl, B.out.size, K4, F4, B4⟩, ?_⟩
      simp [RowKit.intOf]
      omega

theorem wFrom_sizes : ∀ (n : Nat) (t : List UInt8) (x : Nat × Nat), t.length ≤ n → (∀ c ∈ t, wMay c = true) → ∀ y ∈ wFrom x t, y.1.size ≤ t.length
  | 0, t, x, hn, _, y, hy => by
    have : t = [] := List.eq_nil_of_length_eq_zero (by omega)
    subst this
    rw [wFrom_nil] at hy
    cases hy
  | n + 1, [], x, _, _, y, hy => by
    rw [wFrom_nil] at hy
    cases hy
  | n + 1, c :: t, x, hn, hm, y, hy => by
    rw [List.length_cons] at hn
    by_cases hc : wIn c = true
    · by_cases h35 : c.toNat = 35
      · have hp : wNoEnd c = true := by unfold wNoEnd; rw [h35]; rfl
        rw [wFrom_remark x c t h35] at hy
        have hk : 1 ≤ wLen wNoEnd (c :: t) := by unfold wLen; rw [List.takeWhile_cons, if_pos hp, List.length_cons]; omega
        have := wFrom_sizes n _ _ (by rw [List.length_drop, List.length_cons]; omega) (fun d hd => hm d (List.mem_of_mem_drop hd)) y hy
        rw [List.length_drop] at this
        omega
      · rw [wFrom_word x c t hc h35 hm] at hy
        have hk : 1 ≤ wLen wIn (c :: t) := by unfold wLen; rw [List.takeWhile_cons, if_pos hc, List.length_cons]; omega
        rcases List.mem_cons.1 hy with rfl | hy
        · rw [← byte_len]
          simp only [List.length_take]
          omega
        · have := wFrom_sizes n _ _ (by rw [List.length_drop, List.length_cons]; omega) (fun d hd => hm d (List.mem_of_mem_drop hd)) y hy
          rw [List.length_drop] at this
          omega
    · rw [wFrom_blank x c t (by simpa using hc) (hm c (List.mem_cons_self ..))] at hy
      have := wFrom_sizes n t _ (by omega) (fun d hd => hm d (List.mem_cons_of_mem _ hd)) y hy
      rw [List.length_cons]
      omega

theorem may_of_in {c : UInt8} (h : wIn c = true) : wMay c = true := by
  have := wIn_yes h
  unfold wMay
  rw [decide_eq_false (by unfold wBad; omega)]
  rfl

theorem wLen_full {p : UInt8 → Bool} {t : List UInt8} (h : wLen p t = t.length) : ∀ c ∈ t, p c = true := by
  have ht := wLen_take p t
  rw [h, List.take_length] at ht
  intro c hc
  rw [ht] at hc
  exact takeWhile_mem _ _ _ hc

theorem wIs_true (s : ByteArray) (h0 : 0 < s.size) (h1 : s.size ≤ 4000) (h35 : ¬ s[0].toNat = 35) (hr : wLen wIn s.data.toList = s.size) : wIs s = true := by
  obtain ⟨r, hs⟩ := list_cons s h0
  have hin := wLen_full (hr.trans (byte_len s).symm)
  have hm : ∀ c ∈ s.data.toList, wMay c = true := fun c hc => may_of_in (hin c hc)
  have hw : wFrom (1, 1) s.data.toList = [(s, 1, 1)] := by
    have e := wFrom_word (1, 1) s[0] r (hin _ (by rw [hs]; exact List.mem_cons_self ..)) h35 (by rw [← hs]; exact hm)
    rw [← hs, hr] at e
    rw [e, List.drop_eq_nil_of_le (by rw [byte_len]; exact Nat.le_refl _), wFrom_nil]
    congr 2
    refine same_bytes ?_
    rw [List.take_of_length_le (by rw [byte_len]; exact Nat.le_refl _)]
  unfold wIs
  rw [wCut_may (by rw [byte_len]; exact h1) hm, hw]
  exact beq_self_eq_true _

theorem wIs_no (s : ByteArray) (h : s.size ≤ 4000 → (∀ c ∈ s.data.toList, wMay c = true) → ∀ y, wFrom (1, 1) s.data.toList = [y] → y.1.size < s.size) : wIs s = false := by
  unfold wIs
  rcases Nat.lt_or_ge 4000 s.size with h1 | h1
  · have : wCut s.data.toList = (none, 2, 0) := by unfold wCut; rw [if_pos (by rw [byte_len]; exact h1)]
    rw [this]
  · rcases Nat.lt_or_ge (wLen wMay s.data.toList) s.data.toList.length with h2 | h2
    · rw [wCut_maynot (by rw [byte_len]; exact h1) h2]
    · have hm := wLen_full (Nat.le_antisymm (wLen_le wMay s.data.toList) h2)
      rw [wCut_may (by rw [byte_len]; exact h1) hm]
      have := h h1 hm
      simp only
      cases hw : wFrom (1, 1) s.data.toList with
      | nil => rfl
      | cons y l =>
        cases l with
        | cons _ _ => rfl
        | nil =>
          have hy := this y hw
          simp only
          refine beq_false_of_ne fun e => ?_
          have e2 := congrArg List.length e
          rw [ByteArray.toList_eq, ByteArray.toList_eq, byte_len, byte_len] at e2
          omega

theorem wIs_empty (s : ByteArray) (h0 : s.size = 0) : wIs s = false := wIs_no s (fun _ _ y hy => by
  have : s.data.toList = [] := List.eq_nil_of_length_eq_zero (by rw [byte_len]; exact h0)
  rw [this, wFrom_nil] at hy
  cases hy)

theorem wIs_long (s : ByteArray) (h0 : 4000 < s.size) : wIs s = false := wIs_no s (fun h _ _ _ => by omega)

theorem wIs_remark (s : ByteArray) (h0 : 0 < s.size) (h35 : s[0].toNat = 35) : wIs s = false := wIs_no s (fun _ hm y hy => by
  obtain ⟨r, hs⟩ := list_cons s h0
  have e := wFrom_remark (1, 1) s[0] r h35
  rw [← hs] at e
  rw [e] at hy
  have hp : wNoEnd s[0] = true := by unfold wNoEnd; rw [h35]; rfl
  have hk : 1 ≤ wLen wNoEnd s.data.toList := by rw [hs]; unfold wLen; rw [List.takeWhile_cons, if_pos hp, List.length_cons]; omega
  have := wFrom_sizes _ _ _ (Nat.le_refl _) (fun d hd => hm d (List.mem_of_mem_drop hd)) y (by rw [hy]; exact List.mem_cons_self ..)
  rw [List.length_drop, byte_len] at this
  omega)

theorem wIs_more (s : ByteArray) (h0 : 0 < s.size) (h35 : ¬ s[0].toNat = 35) (hr : ¬ wLen wIn s.data.toList = s.size) : wIs s = false := wIs_no s (fun _ hm y hy => by
  obtain ⟨r, hs⟩ := list_cons s h0
  have hle := wLen_le wIn s.data.toList
  rw [byte_len] at hle
  cases hc : wIn s[0] with
  | true =>
    have e := wFrom_word (1, 1) s[0] r hc h35 (by rw [← hs]; exact hm)
    rw [← hs, hy] at e
    have e2 := (List.cons.inj e).1
    rw [e2, ← byte_len]
    simp only [List.length_take, byte_len]
    omega
  | false =>
    have e := wFrom_blank (1, 1) s[0] r hc (hm _ (by rw [hs]; exact List.mem_cons_self ..))
    rw [← hs, hy] at e
    have := wFrom_sizes _ r _ (Nat.le_refl _) (fun d hd => hm d (by rw [hs]; exact List.mem_cons_of_mem _ hd)) y (by rw [← e]; exact List.mem_cons_self ..)
    have hl := congrArg List.length hs
    rw [byte_len, List.length_cons] at hl
    omega)

set_option maxRecDepth 20000 in
set_option maxHeartbeats 3200000 in
theorem is_any (s : ByteArray) (w : World) (hs : s.size ≤ maxLen) :
    Calls Try.prog 17 #[.string s] w fun e w' => e = .returned (.bool (wIs s)) ∧ Below w.heap.size w w' := by
  have HS := Hid.of hs
  clear hs
  rcases Nat.eq_zero_or_pos s.size with h0 | h0
  · have hi := text_empty h0
    rw [wIs_empty s h0]
    clear h0
    go_enter Try.func17, Try.ntmps17
    go_wp2
    go_ret
    exact ⟨rfl, Below.refl _ _⟩
  · have hi := text_some h0
    rcases Nat.lt_or_ge 4000 s.size with h1 | h1
    · have h2 : ¬ (s.size : Int) ≤ 4000 := by omega
      rw [wIs_long s h1]
      clear h1
      go_enter Try.func17, Try.ntmps17
      go_wp2
      go_ret
      exact ⟨rfl, Below.refl _ _⟩
    · have h2 : (s.size : Int) ≤ 4000 := by omega
      have h3 : (0 : Int) < (s.size : Int) := by omega
      by_cases h35 : s[0].toNat = 35
      · have q1 : ((s[0].toNat : Int) != 35) = false := by simp [h35]
        rw [wIs_remark s h0 h35]
        clear h35 h1
        go_enter Try.func17, Try.ntmps17
        go_wp2
        go_ret
        exact ⟨rfl, Below.refl _ _⟩
      · have q2 : ¬ (s[0].toNat : Int) = 35 := by omega
        have q1 : ((s[0].toNat : Int) != 35) = true := by simpa using q2
        by_cases hr : wLen wIn s.data.toList = s.size
        · rw [wIs_true s h0 h1 h35 hr]
          have HR := Hid.of hr
          clear h35 h1 hr
          go_enter Try.func17, Try.ntmps17
          go_wp2_with fail
          refine (run_any s HS.out _).mono ?_
          rintro e w1 ⟨rfl, rfl⟩
          rw [HR.out]
          go_wp2
          go_ret
          exact ⟨rfl, Below.refl _ _⟩
        · rw [wIs_more s h0 h35 hr]
          obtain ⟨k, hk⟩ : ∃ k, wLen wIn s.data.toList = k := ⟨_, rfl⟩
          rw [hk] at hr
          have q3 : ((k : Int) == (s.size : Int)) = false := by rw [beq_eq_false_iff_ne]; omega
          have HK := Hid.of hk
          clear h35 h1 hr hk
          go_enter Try.func17, Try.ntmps17
          go_wp2_with fail
          refine (run_any s HS.out _).mono ?_
          rintro e w1 ⟨rfl, rfl⟩
          rw [HK.out]
          go_wp2
          go_ret
          exact ⟨rfl, Below.refl _ _⟩

end Go.Proofs.Ytcjfejhfafiaiaa
