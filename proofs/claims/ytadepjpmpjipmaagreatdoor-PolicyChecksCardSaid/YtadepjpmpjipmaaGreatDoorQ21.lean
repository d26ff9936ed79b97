/-
  A bundle of texts: WLC WLD.
-/
import Derived.Deep.QuietTactic
import Derived.Deep.RegionWith
import Derived.Deep.RegionHeld3
import Derived.Test.YtadepjpmpjipmaaGreatDoorQ19
/-
  What package word's own toLineEnd, start, pass, skip, seek and drop answer.
-/
namespace Go.Proofs.YtadepjpmpjipmaaGreatDoor
open Go.RowKit Go.Lib

set_option maxRecDepth 20000 in
set_option maxHeartbeats 800000 in
/-- A text cut at its first line's end: what is ahead of it. -/
theorem cutEnd_any (s : ByteArray) (hs : s.size ≤ 1000000) (w : World) :
    Calls Tryz.prog 120 #[.string s, .string ⟨#[10]⟩] w fun e w' => ∃ a b f, e = .returned (.tuple #[.string a, .string b, .bool f]) ∧ a.size = wLen wNoEnd s.data.toList ∧ ∃ q, w' = w.drewN q := by
  rcases index_end s.data.toList with ⟨h1, h2⟩ | ⟨h1, h2⟩
  · have H1 := Hid.of h1
    have H2 := Hid.of h2
    clear h1 h2
    go_enter Tryz.func120, Tryz.ntmps120
    go_wp2_with (go_at_call 128; refine (Tryz.stringslite_Index_one _ _ _).mono ?_; rintro e w1 ⟨rfl, rfl⟩; rw [H1.out])
    go_ret3
    exact ⟨_, _, _, rfl, by rw [H2.out, byte_len], 0, rfl⟩
  · have H1 := Hid.of h1
    obtain ⟨k, hk⟩ : ∃ k, wLen wNoEnd s.data.toList = k := ⟨_, rfl⟩
    rw [hk] at h1 h2 ⊢
    have H1 := Hid.of h1
    rw [byte_len] at h2
    have h3 : (k : Int) ≤ (s.size : Int) := by omega
    have h4 : (k : Int) + 1 ≤ (s.size : Int) := by omega
    have h5 : decide ((0 : Int) ≤ (k : Int)) = true := decide_eq_true (by omega)
    clear h1 hk
    go_enter Tryz.func120, Tryz.ntmps120
    go_wp2_with (go_at_call 128; refine (Tryz.stringslite_Index_one _ _ _).mono ?_; rintro e w1 ⟨rfl, rfl⟩; rw [H1.out])
    go_quiet (fail)
    go_wp2
    go_ret3
    exact ⟨_, _, _, rfl, by simp [ByteArray.size_extract]; omega, _, rfl⟩

set_option maxRecDepth 20000 in
set_option maxHeartbeats 800000 in
theorem cutEnd2_any (s : ByteArray) (hs : s.size ≤ 1000000) (w : World) :
    Calls Tryz.prog 111 #[.string s, .string ⟨#[10]⟩] w fun e w' => ∃ a b f, e = .returned (.tuple #[.string a, .string b, .bool f]) ∧ a.size = wLen wNoEnd s.data.toList ∧ ∃ q, w' = w.drewN q := by
  go_enter Tryz.func111, Tryz.ntmps111
  go_wp2_with (go_at_call 120; refine (cutEnd_any s hs _).mono ?_; rintro e w1 ⟨a, b, f, rfl, ha, q, rfl⟩; have HA := Hid.of ha; clear ha)
  go_ret3
  exact ⟨_, _, _, rfl, HA.out, _, rfl⟩

set_option maxRecDepth 20000 in
set_option maxHeartbeats 800000 in
theorem toLineEnd_any (s : ByteArray) (hs : s.size ≤ 1000000) (w : World) :
    Calls Tryz.prog 104 #[.string s] w fun e w' => e = .returned (.int .i64 (wLen wNoEnd s.data.toList)) ∧ ∃ q, w' = w.drewN q := by
  go_enter Tryz.func104, Tryz.ntmps104
  go_wp2_with (go_at_call 111; refine (cutEnd2_any s hs _).mono ?_; rintro e w1 ⟨a, b, f, rfl, ha, q, rfl⟩; have HA := Hid.of ha; clear ha)
  go_ret
  rw [HA.out]
  exact ⟨rfl, _, rfl⟩

set_option maxRecDepth 20000 in
set_option maxHeartbeats 800000 in
theorem start_any (w : World) :
    Calls Tryz.prog 89 #[] w fun e w' => e = .returned (.agg #[.int .i64 1, .int .i64 1]) ∧ Below w.heap.size w w' := by
  go_enter Tryz.func89, Tryz.ntmps89
  go_wp2
  refine bodyPost_ret (v := .agg #[.int .i64 1, .int .i64 1]) ?_ rfl ⟨rfl, ?_⟩
  · simp [results, Tryz.results89, go_sem]
  · exact (Below.refl _ _).alloc (Nat.le_refl _) _

theorem lPass_next (x : Nat × Nat) (s : ByteArray) (k : Nat) (h : k < s.size) : lPass x (s.data.toList.take (k + 1)) = lStep (lPass x (s.data.toList.take k)) s[k] := by
  rw [take_snoc s k h, lPass_append]
  rfl

set_option maxRecDepth 20000 in
set_option maxHeartbeats 800000 in
theorem pass_any (w : World) (b : Nat) (ty : TypeId) (x : Nat × Nat) (post : List Value) (s : ByteArray) (h : Blk w b ty (.int .i64 x.1 :: .int .i64 x.2 :: post)) (hs : s.size ≤ 1000000) (h1 : x.1 ≤ 1000000) (h2 : x.2 ≤ 1000000) :
    Calls Tryz.prog 90 #[.pointer (some ⟨b, 0, none⟩), .string s] w fun e w' => e = .returned (.tuple #[]) ∧ Blk w' b ty (.int .i64 (lPass x s.data.toList).1 :: .int .i64 (lPass x s.data.toList).2 :: post) ∧ w.grownBy w' (some b) := by
  have H := Hid.of h
  clear h
  go_enter Tryz.func90, Tryz.ntmps90
  go_wp2
  go_loopw [7] (fun i wr => ∃ k : Nat, k ≤ s.size ∧ i = .int .i64 k ∧ Hid (Blk wr b ty (.int .i64 (lPass x (s.data.toList.take k)).1 :: .int .i64 (lPass x (s.data.toList.take k)).2 :: post)) ∧ w.grownBy wr (some b)) (fun i _ => s.size - (RowKit.intOf i).toNat)
  case atStart => exact ⟨0, Nat.zero_le _, rfl, H, grownBy_refl _ _⟩
  case round =>
    obtain ⟨k, hk, rfl, hr, hg⟩ := hrel
    by_cases hlt : k < s.size
    · have HL := Hid.of (lPass_next x s k hlt)
      have hb := lPass_le (s.data.toList.take k) x
      rw [List.length_take, byte_len] at hb
      obtain ⟨y, hy⟩ : ∃ y, lPass x (s.data.toList.take k) = y := ⟨_, rfl⟩
      rw [hy] at hr hb HL
      clear hy
      obtain ⟨y1, y2⟩ := y
      simp only at hb
      have hb1 : y1 ≤ 2000000 := by omega
      have hb2 : y2 ≤ 2000000 := by omega
      have e0 := hr.out.cell 0 _ rfl
      have e1 := hr.out.cell 1 _ rfl
      have f0 : wr.frozen? ⟨b, 0, none⟩ = false := row_frozen hr.out
      have f1 : wr.frozen? ⟨b, 1, none⟩ = false := row_frozen hr.out
      have G := Hid.of hg
      clear hg hb
      by_cases h10 : s[k].toNat = 10
      · have q1 : ((s[k].toNat : Int) == 10) = true := by simp [h10]
        have S3 : Hid (Blk (((wr.setCell ⟨b, 1, none⟩ (.int .i64 (y2 + 1))).setCell ⟨b, 0, none⟩ (.int .i64 (y1 + 1))).setCell ⟨b, 1, none⟩ (.int .i64 1)) b ty (.int .i64 (y1 + 1) :: .int .i64 1 :: post)) := Hid.of (by
          have := row_set (i := 1) (row_set (i := 0) (row_set (i := 1) hr.out (.int .i64 (y2 + 1))) (.int .i64 (y1 + 1))) (.int .i64 1)
          unfold Blk
          rw [this]
          simp)
        have HS : Hid (lPass x (s.data.toList.take (k + 1)) = (y1 + 1, 1)) := Hid.of (by rw [HL.out]; unfold lStep; rw [if_pos h10])
        clear h10 HL
        go_wp2
        refine ⟨⟨k + 1, by omega, by go_num, ?_, ?_⟩, by simp [RowKit.intOf]; omega⟩
        · rw [HS.out]
          exact S3
        · exact grownBy_trans (grownBy_trans (grownBy_trans G.out (grownBy_setCell _ _ _ _)) (grownBy_setCell _ _ _ _)) (grownBy_setCell _ _ _ _)
      · have q1 : ((s[k].toNat : Int) == 10) = false := by rw [beq_eq_false_iff_ne]; omega
        have q2 : ¬ (s[k].toNat : Int) = 10 := by omega
        have S1 : Hid (Blk (wr.setCell ⟨b, 1, none⟩ (.int .i64 (y2 + 1))) b ty (.int .i64 y1 :: .int .i64 (y2 + 1) :: post)) := Hid.of (by
          have := row_set (i := 1) hr.out (.int .i64 (y2 + 1))
          unfold Blk
          rw [this]
          simp)
        have HS : Hid (lPass x (s.data.toList.take (k + 1)) = (y1, y2 + 1)) := Hid.of (by rw [HL.out]; unfold lStep; rw [if_neg h10])
        clear h10 HL
        go_wp2
        refine ⟨⟨k + 1, by omega, by go_num, ?_, ?_⟩, by simp [RowKit.intOf]; omega⟩
        · rw [HS.out]
          exact S1
        · exact grownBy_trans G.out (grownBy_setCell _ _ _ _)
    · have hka : k = s.size := by omega
      have hr2 := hr.out
      rw [List.take_of_length_le (by rw [byte_len]; omega)] at hr2
      have HR := Hid.of hr2
      have G := Hid.of hg
      clear hr2 hr hg
      go_wp2
      go_end0
      exact ⟨rfl, HR.out, G.out⟩

theorem grownBy_drewN {a b : World} {row : Option Nat} (h : a.grownBy b row) (n : Nat) : a.grownBy (b.drewN n) row := ⟨h.os, h.tape, h.output, h.size, h.block⟩

theorem grownBy_ofDrew {a b : World} {row : Option Nat} (h : (a.drew).grownBy b row) : a.grownBy b row := ⟨h.os, h.tape, h.output, h.size, h.block⟩

theorem grownBy_ofDrewN {a b : World} {row : Option Nat} {n : Nat} (h : (a.drewN n).grownBy b row) : a.grownBy b row := ⟨h.os, h.tape, h.output, h.size, h.block⟩

/-- The Words at p stand at x, and t is left. -/
abbrev WRow (w : World) (p : Nat) (x : Nat × Nat) (t : ByteArray) : Prop := Blk w p 125 [.int .i64 x.1, .int .i64 x.2, .string t]

theorem extract_take (t : ByteArray) (n : Nat) : (t.extract 0 n).data.toList = t.data.toList.take n := by simp

theorem extract_drop (t : ByteArray) (n : Nat) : (t.extract n t.size).data.toList = t.data.toList.drop n := by
  have := extract_list t n (t.size - n)
  by_cases h : n ≤ t.size
  · rw [show n + (t.size - n) = t.size by omega] at this
    rw [this, List.take_of_length_le (by rw [List.length_drop, byte_len]; exact Nat.le_refl _)]
  · rw [List.drop_eq_nil_of_le (by rw [byte_len]; omega)]
    refine List.eq_nil_of_length_eq_zero ?_
    rw [byte_len, ByteArray.size_extract]
    omega

set_option maxRecDepth 20000 in
set_option maxHeartbeats 800000 in
theorem skip_any (w : World) (p : Nat) (x : Nat × Nat) (t : ByteArray) (n : Nat) (h : WRow w p x t) (hs : t.size ≤ 1000000) (h1 : x.1 ≤ 1000000) (h2 : x.2 ≤ 1000000) (hn : n ≤ t.size) :
    Calls Tryz.prog 103 #[wptr p, .int .i64 n] w fun e w' => e = .returned (.tuple #[]) ∧ WRow w' p (lPass x (t.data.toList.take n)) (t.extract n t.size) ∧ w.grownBy w' (some p) := by
  have H := Hid.of h
  have e2 := h.cell 2 _ rfl
  have f2 : w.frozen? ⟨p, 2, none⟩ = false := row_frozen h
  have n1 : (n : Int) ≤ (t.size : Int) := by omega
  have HS : Hid ((t.extract 0 n).size ≤ 1000000) := Hid.of (by simp [ByteArray.size_extract]; omega)
  have HT := Hid.of (extract_take t n)
  clear h
  go_enter Tryz.func103, Tryz.ntmps103
  go_wp2_with fail
  refine wp_region_noPanic ?_
  go_region_with (go_at_call 90; go_loud (refine (pass_any w.drew p 125 x [.string t] (t.extract 0 n) H.out HS.out h1 h2).mono ?_; rintro e w1 ⟨rfl, b1, g1⟩); rw [HT.out] at b1; have B1 := Hid.of b1; have G1 := Hid.of (grownBy_ofDrew g1); have c2 := b1.cell 2 _ rfl; have k2 : w1.frozen? ⟨p, 2, none⟩ = false := row_frozen b1; clear b1 g1)
  all_goals
    refine NoPanic.normal ?_
    go_wp2
    go_end0
    refine ⟨rfl, ?_, grownBy_trans G1.out (grownBy_setCell _ _ _ _)⟩
    have := row_set (i := 2) B1.out (.string (t.extract n t.size))
    unfold WRow Blk
    rw [this]
    simp

end Go.Proofs.YtadepjpmpjipmaaGreatDoor

/-
  What package word's own seek and drop answer.
-/
namespace Go.Proofs.YtadepjpmpjipmaaGreatDoor
open Go.RowKit Go.Lib

/-- The Words at p stand at x; t is left, whose words are l. -/
structure WdAt (w : World) (p : Nat) (x : Nat × Nat) (t : ByteArray) (l : List WdL) : Prop where
  row : WRow w p x t
  may : ∀ c ∈ t.data.toList, wMay c = true
  words : wFrom x t.data.toList = l
  b1 : x.1 + t.size ≤ 100000
  b2 : x.2 + t.size ≤ 100000

/-- What is left begins with a word, if it does not end. -/
def WFirst (t : ByteArray) : Prop := ∀ c r, t.data.toList = c :: r → wIn c = true ∧ ¬ c.toNat = 35

theorem text_empty {s : ByteArray} (h : s.size = 0) : s.toList.isEmpty = true := by
  rw [ByteArray.toList_eq, List.isEmpty_iff]
  exact List.eq_nil_of_length_eq_zero (by rw [byte_len]; exact h)

theorem text_some {s : ByteArray} (h : 0 < s.size) : s.toList.isEmpty = false := by
  rw [ByteArray.toList_eq, List.isEmpty_eq_false_iff]
  intro e
  have : s.size = 0 := by rw [← byte_len, e]; rfl
  omega

/-- How much is left. -/
def leftOf (p : Nat) (w : World) : Nat := match w.cell? ⟨p, 2, none⟩ with
  | some (.string s) => s.size
  | _ => 0

theorem WdAt.left {w : World} {p : Nat} {x : Nat × Nat} {t : ByteArray} {l : List WdL} (h : WdAt w p x t l) : leftOf p w = t.size := by
  unfold leftOf
  rw [h.row.cell 2 _ rfl]

theorem WdAt.drewN {w : World} {p : Nat} {x : Nat × Nat} {t : ByteArray} {l : List WdL} (h : WdAt w p x t l) (q : Nat) : WdAt (w.drewN q) p x t l := ⟨h.row, h.may, h.words, h.b1, h.b2⟩

theorem WdAt.skip {w : World} {p : Nat} {x : Nat × Nat} {t : ByteArray} {l l' : List WdL} (h : WdAt w p x t l) (n : Nat) (hn : n ≤ t.size) (hl : wFrom (lPass x (t.data.toList.take n)) (t.data.toList.drop n) = l') :
    Calls Tryz.prog 103 #[wptr p, .int .i64 n] w fun e w' => e = .returned (.tuple #[]) ∧ (∃ x' t', WdAt w' p x' t' l' ∧ t'.size + n = t.size ∧ x' = lPass x (t.data.toList.take n) ∧ t' = t.extract n t.size) ∧ w.grownBy w' (some p) := by
  have a1 := h.b1
  have a2 := h.b2
  refine (skip_any w p x t n h.row (by omega) (by omega) (by omega) hn).mono ?_
  rintro e w' ⟨rfl, r, g⟩
  have hb := lPass_le (t.data.toList.take n) x
  rw [List.length_take, byte_len] at hb
  have hsz : (t.extract n t.size).size = t.size - n := by simp [ByteArray.size_extract]
  refine ⟨rfl, ⟨_, _, ⟨r, ?_, ?_, ?_, ?_⟩, by rw [hsz]; omega, rfl, rfl⟩, g⟩
  · rw [extract_drop]
    exact fun c hc => h.may c (List.mem_of_mem_drop hc)
  · rw [extract_drop]
    exact hl
  · rw [hsz]
    omega
  · rw [hsz]
    omega

set_option maxRecDepth 20000 in
set_option maxHeartbeats 1600000 in
theorem seek_any (w : World) (p : Nat) (x : Nat × Nat) (t : ByteArray) (l : List WdL) (h : WdAt w p x t l) :
    Calls Tryz.prog 91 #[wptr p] w fun e w' => e = .returned (.tuple #[]) ∧ (∃ x' t', WdAt w' p x' t' l ∧ WFirst t' ∧ t'.size ≤ t.size) ∧ w.grownBy w' (some p) := by
  have H := Hid.of h
  clear h
  go_enter Tryz.func91, Tryz.ntmps91
  go_wp2_with fail
  go_loopw [] (fun wr => ∃ x' t', Hid (WdAt wr p x' t' l) ∧ t'.size ≤ t.size ∧ Hid (w.grownBy wr (some p))) (fun wr => leftOf p wr)
  case atStart => exact ⟨x, t, H, Nat.le_refl _, Hid.of (grownBy_refl _ _)⟩
  case round =>
    obtain ⟨x', t', K, hsz, G⟩ := hrel
    have e2 := K.out.row.cell 2 _ rfl
    rcases Nat.eq_zero_or_pos t'.size with h0 | h0
    · have ht : t' = ⟨#[]⟩ := by
        apply same_bytes
        refine List.eq_nil_of_length_eq_zero ?_
        rw [byte_len]
        exact h0
      have hi := text_empty h0
      have HF : Hid (WFirst t') := Hid.of (by
        intro c r hcr
        rw [ht] at hcr
        cases hcr)
      clear ht
      go_wp2_with fail
      go_end0
      exact ⟨rfl, ⟨x', t', K.out, HF.out, hsz⟩, G.out⟩
    · have hi := text_some h0
      obtain ⟨r, hr⟩ := list_cons t' h0
      have h0i : (0 : Int) < (t'.size : Int) := by omega
      by_cases h35 : t'[0].toNat = 35
      · have q1 : ((t'[0].toNat : Int) == 35) = true := by simp [h35]
        have KW := K.out.words
        rw [hr, wFrom_remark x' _ r h35, ← hr] at KW
        have hle := wLen_le wNoEnd t'.data.toList
        rw [byte_len] at hle
        have hpos : 1 ≤ wLen wNoEnd t'.data.toList := by
          unfold wLen
          rw [hr, List.takeWhile_cons, if_pos (by unfold wNoEnd; rw [h35]; rfl), List.length_cons]
          omega
        have ht9 : t'.size ≤ 1000000 := by have := K.out.b1; omega
        have HW := Hid.of KW
        have HL := Hid.of hle
        have HP := Hid.of hpos
        clear KW hle hpos h35 hr
        go_wp2_with fail
        refine (toLineEnd_any t' ht9 _).mono ?_
        rintro e w1 ⟨rfl, q, rfl⟩
        have K2 := Hid.of (K.out.drewN q)
        go_wp2_with fail
        refine (K2.out.skip _ HL.out HW.out).mono ?_
        rintro e w2 ⟨rfl, ⟨x2, t2, k2, s2, -, -⟩, g2⟩
        have K3 := Hid.of k2
        have G3 := Hid.of (grownBy_trans G.out (grownBy_ofDrewN g2))
        clear k2 g2
        go_wp2_with fail
        refine ⟨⟨x2, t2, K3, by omega, G3⟩, ?_⟩
        rw [K3.out.left, K.out.left]
        have := HP.out
        omega
      · have q1 : ((t'[0].toNat : Int) == 35) = false := by rw [beq_eq_false_iff_ne]; omega
        have q2 : ¬ (t'[0].toNat : Int) = 35 := by omega
        cases hc : wIn t'[0] with
        | true =>
          have HF : Hid (WFirst t') := Hid.of (by
            intro c r' hcr
            rw [hr] at hcr
            cases hcr
            exact ⟨hc, h35⟩)
          have HC := Hid.of hc
          clear hc hr h35
          go_wp2_with (go_at_call 102; refine (inWord_any _ _).mono ?_; rintro e w1 ⟨rfl, rfl⟩; rw [HC.out])
          go_end0
          exact ⟨rfl, ⟨x', t', K.out, HF.out, hsz⟩, G.out⟩
        | false =>
          have KW := K.out.words
          have hm := K.out.may t'[0] (by rw [hr]; exact List.mem_cons_self ..)
          rw [hr, wFrom_blank x' _ r hc hm] at KW
          have HW : Hid (wFrom (lPass x' (t'.data.toList.take 1)) (t'.data.toList.drop 1) = l) := Hid.of (by
            rw [hr]
            exact KW)
          have HC := Hid.of hc
          clear hc hr h35 KW hm
          go_wp2_with (go_at_call 102; refine (inWord_any _ _).mono ?_; rintro e w1 ⟨rfl, rfl⟩; rw [HC.out])
          refine (K.out.skip 1 h0 HW.out).mono ?_
          rintro e w2 ⟨rfl, ⟨x2, t2, k2, s2, -, -⟩, g2⟩
          have K3 := Hid.of k2
          have G3 := Hid.of (grownBy_trans G.out g2)
          clear k2 g2
          go_wp2_with fail
          refine ⟨⟨x2, t2, K3, by omega, G3⟩, ?_⟩
          rw [K3.out.left, K.out.left]
          omega

set_option maxRecDepth 20000 in
set_option maxHeartbeats 1600000 in
/-- A word is gone over. -/
theorem drop_any (w : World) (p : Nat) (x : Nat × Nat) (t : ByteArray) (l : List WdL) (h : WdAt w p x t l) (hf : WFirst t) (h0 : 0 < t.size) :
    Calls Tryz.prog 121 #[wptr p] w fun e w' => e = .returned (.tuple #[]) ∧ (∃ x' t', WdAt w' p x' t' l.tail ∧ WFirst t' ∧ t'.size < t.size) ∧ w.grownBy w' (some p) := by
  have H := Hid.of h
  have e2 := h.row.cell 2 _ rfl
  obtain ⟨r, hr⟩ := list_cons t h0
  have hc := hf _ _ hr
  have hw := h.words
  rw [hr, wFrom_word x _ r hc.1 hc.2 (by rw [← hr]; exact h.may), ← hr] at hw
  have HW : Hid (wFrom (lPass x (t.data.toList.take (wLen wIn t.data.toList))) (t.data.toList.drop (wLen wIn t.data.toList)) = l.tail) := Hid.of (by rw [← hw]; rfl)
  have hle := wLen_le wIn t.data.toList
  rw [byte_len] at hle
  have hpos : 1 ≤ wLen wIn t.data.toList := by
    unfold wLen
    rw [hr, List.takeWhile_cons, if_pos hc.1, List.length_cons]
    omega
  have HL := Hid.of hle
  have HP := Hid.of hpos
  have HS : Hid (t.size ≤ maxLen) := Hid.of (by have := h.b1; unfold maxLen; omega)
  clear h hf hc hw hle hpos hr
  go_enter Tryz.func121, Tryz.ntmps121
  go_wp2_with fail
  refine (run_any t HS.out _).mono ?_
  rintro e w1 ⟨rfl, rfl⟩
  go_wp2_with fail
  refine (H.out.skip _ HL.out HW.out).mono ?_
  rintro e w2 ⟨rfl, ⟨x2, t2, k2, s2, -, -⟩, g2⟩
  have K2 := Hid.of k2
  have G2 := Hid.of g2
  clear k2 g2
  go_wp2_with fail
  refine (seek_any _ p x2 t2 _ K2.out).mono ?_
  rintro e w3 ⟨rfl, ⟨x3, t3, k3, f3, s3⟩, g3⟩
  have K3 := Hid.of k3
  have G3 := Hid.of g3
  have F3 := Hid.of f3
  clear k3 g3 f3
  go_wp2_with fail
  go_end0
  refine ⟨rfl, ⟨x3, t3, K3.out, F3.out, ?_⟩, grownBy_trans G2.out G3.out⟩
  have := HP.out
  omega

end Go.Proofs.YtadepjpmpjipmaaGreatDoor
