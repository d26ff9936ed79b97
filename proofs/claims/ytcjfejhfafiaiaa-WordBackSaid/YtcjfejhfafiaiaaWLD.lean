/-
  What package word's own seek and drop answer.
-/
import Derived.Test.YtcjfejhfafiaiaaWLC
namespace Go.Proofs.Ytcjfejhfafiaiaa
open Go.RowKit Go.Lib

/-- The Words at p stand at x; t is left, whose words are l. -/
structure WdAt (w : World) (p : Nat) (x : Nat × Nat) (t : ByteArray) (l : List WdL) : Prop where
  row : WRow w p x t
  may : ∀ c ∈ t.data.toList, wMay c = true
  words : wFrom x t.data.toList = l
  b1 : x.1 + t.size ≤ 100000
  b2 : x.2 + t.size ≤ 100000

/-- What is left begins with a word, if it does not end. -/
def WFirst (t : ByteArray) : Prop := ∀ c r, t.data.toList = c :: r → wIn c = true ∧ ¬ c.toNat = 35

theorem text_empty {s : ByteArray} (h : s.size = 0) : s.toList.isEmpty = true := by
  rw [ByteArray.toList_eq, List.isEmpty_iff]
  exact List.eq_nil_of_length_eq_zero (by rw [byte_len]; exact h)

theorem text_some {s : ByteArray} (h : 0 < s.size) : s.toList.isEmpty = false := by
  rw [ByteArray.toList_eq, List.isEmpty_eq_false_iff]
  intro e
  have : s.size = 0 := by rw [← byte_len, e]; rfl
  omega

/-- How much is left. -/
def leftOf (p : Nat) (w : World) : Nat := match w.cell? ⟨p, 2, none⟩ with
  | some (.string s) => s.size
  | _ => 0

theorem WdAt.left {w : World} {p : Nat} {x : Nat × Nat} {t : ByteArray} {l : List WdL} (h : WdAt w p x t l) : leftOf p w = t.size := by
  unfold leftOf
  rw [h.row.cell 2 _ rfl]

theorem WdAt.drewN {w : World} {p : Nat} {x : Nat × Nat} {t : ByteArray} {l : List WdL} (h : WdAt w p x t l) (q : Nat) : WdAt (w.drewN q) p x t l := ⟨h.row, h.may, h.words, h.b1, h.b2⟩

theorem WdAt.skip {w : World} {p : Nat} {x : Nat × Nat} {t : ByteArray} {l l' : List WdL} (h : WdAt w p x t l) (n : Nat) (hn : n ≤ t.size) (hl : wFrom (lPass x (t.data.toList.take n)) (t.data.toList.drop n) = l') :
    Calls Try.prog 62 #[wptr p, .int .i64 n] w fun e w' => e = .returned (.tuple #[]) ∧ (∃ x' t', WdAt w' p x' t' l' ∧ t'.size + n = t.size ∧ x' = lPass x (t.data.toList.take n) ∧ t' = t.extract n t.size) ∧ w.grownBy w' (some p) := by
  have a1 := h.b1
  have a2 := h.b2
  refine (skip_any w p x t n h.row (by omega) (by omega) (by omega) hn).mono ?_
  rintro e w' ⟨rfl, r, g⟩
  have hb := lPass_le (t.data.toList.take n) x
  rw [List.length_take, byte_len] at hb
  have hsz : (t.extract n t.size).size = t.size - n := by simp [ByteArray.size_extract]
  refine ⟨rfl, ⟨_, _, ⟨r, ?_, ?_, ?_, ?_⟩, by rw [hsz]; omega, rfl, rfl⟩, g⟩
  · rw [extract_drop]
    exact fun c hc => h.may c (List.mem_of_mem_drop hc)
  · rw [extract_drop]
    exact hl
  · rw [hsz]
    omega
  · rw [hsz]
    omega

set_option maxRecDepth 20000 in
set_option maxHeartbeats 1600000 in
theorem seek_any (w : World) (p : Nat) (x : Nat × Nat) (t : ByteArray) (l : List WdL) (h : WdAt w p x t l) :
    Calls Try.prog 23 #[wptr p] w fun e w' => e = .returned (.tuple #[]) ∧ (∃ x' t', WdAt w' p x' t' l ∧ WFirst t' ∧ t'.size ≤ t.size) ∧ w.grownBy w' (some p) := by
  have H := Hid.of h
  clear h
  go_enter Try.func23, Try.ntmps23
  go_wp2_with fail
  go_loopw [] (fun wr => ∃ x' t', Hid (WdAt wr p x' t' l) ∧ t'.size ≤ t.size ∧ Hid (w.grownBy wr (some p))) (fun wr => leftOf p wr)
  case atStart => exact ⟨x, t, H, Nat.le_refl _, Hid.of (grownBy_refl _ _)⟩
  case round =>
    obtain ⟨x', t', K, hsz, G⟩ := hrel
    have e2 := K.out.row.cell 2 _ rfl
    rcases Nat.eq_zero_or_pos t'.size with h0 | h0
    · have ht : t' = ⟨#[]⟩ := by
        apply same_bytes
        refine List.eq_nil_of_length_eq_zero ?_
        rw [byte_len]
        exact h0
      have hi := text_empty h0
      have HF : Hid (WFirst t') := Hid.of (by
        intro c r hcr
        rw [ht] at hcr
        cases hcr)
      clear ht
      go_wp2_with fail
      go_end0
      exact ⟨rfl, ⟨x', t', K.out, HF.out, hsz⟩, G.out⟩
    · have hi := text_some h0
      obtain ⟨r, hr⟩ := list_cons t' h0
      have h0i : (0 : Int) < (t'.size : Int) := by omega
      by_cases h35 : t'[0].toNat = 35
      · have q1 : ((t'[0].toNat : Int) == 35) = true := by simp [h35]
        have KW := K.out.words
        rw [hr, wFrom_remark x' _ r h35, ← hr] at KW
        have hle := wLen_le wNoEnd t'.data.toList
        rw [byte_len] at hle
        have hpos : 1 ≤ wLen wNoEnd t'.data.toList := by
          unfold wLen
          rw [hr, List.takeWhile_cons, if_pos (by unfold wNoEnd; rw [h35]; rfl), List.length_cons]
          omega
        have ht9 : t'.size ≤ 1000000 := by have := K.out.b1; omega
        have HW := Hid.of KW
        have HL := Hid.of hle
        have HP := Hid.of hpos
        clear KW hle hpos h35 hr
        go_wp2_with fail
        refine (toLineEnd_any t' ht9 _).mono ?_
        rintro e w1 ⟨rfl, q, rfl⟩
        have K2 := Hid.of (K.out.drewN q)
        go_wp2_with fail
        refine (K2.out.skip _ HL.out HW.out).mono ?_
        rintro e w2 ⟨rfl, ⟨x2, t2, k2, s2, -, -⟩, g2⟩
        have K3 := Hid.of k2
        have G3 := Hid.of (grownBy_trans G.out (grownBy_ofDrewN g2))
        clear k2 g2
        go_wp2_with fail
        refine ⟨⟨x2, t2, K3, by omega, G3⟩, ?_⟩
        rw [K3.out.left, K.out.left]
        have := HP.out
        omega
      · have q1 : ((t'[0].toNat : Int) == 35) = false := by rw [beq_eq_false_iff_ne]; omega
        have q2 : ¬ (t'[0].toNat : Int) = 35 := by omega
        cases hc : wIn t'[0] with
        | true =>
          have HF : Hid (WFirst t') := Hid.of (by
            intro c r' hcr
            rw [hr] at hcr
            cases hcr
            exact ⟨hc, h35⟩)
          have HC := Hid.of hc
          clear hc hr h35
          go_wp2_with (go_at_call 60; refine (inWord_any _ _).mono ?_; rintro e w1 ⟨rfl, rfl⟩; rw [HC.out])
          go_end0
          exact ⟨rfl, ⟨x', t', K.out, HF.out, hsz⟩, G.out⟩
        | false =>
          have KW := K.out.words
          have hm := K.out.may t'[0] (by rw [hr]; exact List.mem_cons_self ..)
          rw [hr, wFrom_blank x' _ r hc hm] at KW
          have HW : Hid (wFrom (lPass x' (t'.data.toList.take 1)) (t'.data.toList.drop 1) = l) := Hid.of (by
            rw [hr]
            exact KW)
          have HC := Hid.of hc
          clear hc hr h35 KW hm
          go_wp2_with (go_at_call 60; refine (inWord_any _ _).mono ?_; rintro e w1 ⟨rfl, rfl⟩; rw [HC.out])
          refine (K.out.skip 1 h0 HW.out).mono ?_
          rintro e w2 ⟨rfl, ⟨x2, t2, k2, s2, -, -⟩, g2⟩
          have K3 := Hid.of k2
          have G3 := Hid.of (grownBy_trans G.out g2)
          clear k2 g2
          go_wp2_with fail
          refine ⟨⟨x2, t2, K3, by omega, G3⟩, ?_⟩
          rw [K3.out.left, K.out.left]
          omega

set_option maxRecDepth 20000 in
set_option maxHeartbeats 1600000 in
/-- A word is gone over. -/
theorem drop_any (w : World) (p : Nat) (x : Nat × Nat) (t : ByteArray) (l : List WdL) (h : WdAt w p x t l) (hf : WFirst t) (h0 : 0 < t.size) :
    Calls Try.prog 24 #[wptr p] w fun e w' => e = .returned (.tuple #[]) ∧ (∃ x' t', WdAt w' p x' t' l.tail ∧ WFirst t' ∧ t'.size < t.size) ∧ w.grownBy w' (some p) := by
  have H := Hid.of h
  have e2 := h.row.cell 2 _ rfl
  obtain ⟨r, hr⟩ := list_cons t h0
  have hc := hf _ _ hr
  have hw := h.words
  rw [hr, wFrom_word x _ r hc.1 hc.2 (by rw [← hr]; exact h.may), ← hr] at hw
  have HW : Hid (wFrom (lPass x (t.data.toList.take (wLen wIn t.data.toList))) (t.data.toList.drop (wLen wIn t.data.toList)) = l.tail) := Hid.of (by rw [← hw]; rfl)
  have hle := wLen_le wIn t.data.toList
  rw [byte_len] at hle
  have hpos : 1 ≤ wLen wIn t.data.toList := by
    unfold wLen
    rw [hr, List.takeWhile_cons, if_pos hc.1, List.length_cons]
    omega
  have HL := Hid.of hle
  have HP := Hid.of hpos
  have HS : Hid (t.size ≤ maxLen) := Hid.of (by have := h.b1; unfold maxLen; omega)
  clear h hf hc hw hle hpos hr
  go_enter Try.func24, Try.ntmps24
  go_wp2_with fail
  refine (run_any t HS.out _).mono ?_
  rintro e w1 ⟨rfl, rfl⟩
  go_wp2_with fail
  refine (H.out.skip _ HL.out HW.out).mono ?_
  rintro e w2 ⟨rfl, ⟨x2, t2, k2, s2, -, -⟩, g2⟩
  have K2 := Hid.of k2
  have G2 := Hid.of g2
  clear k2 g2
  go_wp2_with fail
  refine (seek_any _ p x2 t2 _ K2.out).mono ?_
  rintro e w3 ⟨rfl, ⟨x3, t3, k3, f3, s3⟩, g3⟩
  have K3 := Hid.of k3
  have G3 := Hid.of g3
  have F3 := Hid.of f3
  clear k3 g3 f3
  go_wp2_with fail
  go_end0
  refine ⟨rfl, ⟨x3, t3, K3.out, F3.out, ?_⟩, grownBy_trans G2.out G3.out⟩
  have := HP.out
  omega

end Go.Proofs.Ytcjfejhfafiaiaa
