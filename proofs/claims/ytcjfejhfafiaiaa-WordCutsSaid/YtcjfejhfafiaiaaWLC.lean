/-
  What package word's own toLineEnd, start, pass, skip, seek and drop answer.
-/
import Derived.Test.YtcjfejhfafiaiaaWLB
import Derived.Deep.QuietTactic
import Derived.Deep.RegionWith
import Derived.Deep.RegionHeld3
namespace Go.Proofs.Ytcjfejhfafiaiaa
open Go.RowKit Go.Lib

set_option maxRecDepth 20000 in
set_option maxHeartbeats 800000 in
/-- A text cut at its first line's end: what is ahead of it. -/
theorem cutEnd_any (s : ByteArray) (hs : s.size ≤ 1000000) (w : World) :
    Calls Try.prog 82 #[.string s, .string ⟨#[10]⟩] w fun e w' => ∃ a b f, e = .returned (.tuple #[.string a, .string b, .bool f]) ∧ a.size = wLen wNoEnd s.data.toList ∧ ∃ q, w' = w.drewN q := by
  rcases index_end s.data.toList with ⟨h1, h2⟩ | ⟨h1, h2⟩
  · have H1 := Hid.of h1
    have H2 := Hid.of h2
    clear h1 h2
    go_enter Try.func82, Try.ntmps82
    go_wp2_with (go_at_call 83; refine (Try.stringslite_Index_one _ _ _).mono ?_; rintro e w1 ⟨rfl, rfl⟩; rw [H1.out])
    go_ret3
    exact ⟨_, _, _, rfl, by rw [H2.out, byte_len], 0, rfl⟩
  · have H1 := Hid.of h1
    obtain ⟨k, hk⟩ : ∃ k, wLen wNoEnd s.data.toList = k := ⟨_, rfl⟩
    rw [hk] at h1 h2 ⊢
    have H1 := Hid.of h1
    rw [byte_len] at h2
    have h3 : (k : Int) ≤ (s.size : Int) := by omega
    have h4 : (k : Int) + 1 ≤ (s.size : Int) := by omega
    have h5 : decide ((0 : Int) ≤ (k : Int)) = true := decide_eq_true (by omega)
    clear h1 hk
    go_enter Try.func82, Try.ntmps82
    go_wp2_with (go_at_call 83; refine (Try.stringslite_Index_one _ _ _).mono ?_; rintro e w1 ⟨rfl, rfl⟩; rw [H1.out])
    go_quiet (fail)
    go_wp2
    go_ret3
    exact ⟨_, _, _, rfl, by simp [ByteArray.size_extract]; omega, _, rfl⟩

set_option maxRecDepth 20000 in
set_option maxHeartbeats 800000 in
theorem cutEnd2_any (s : ByteArray) (hs : s.size ≤ 1000000) (w : World) :
    Calls Try.prog 80 #[.string s, .string ⟨#[10]⟩] w fun e w' => ∃ a b f, e = .returned (.tuple #[.string a, .string b, .bool f]) ∧ a.size = wLen wNoEnd s.data.toList ∧ ∃ q, w' = w.drewN q := by
  go_enter Try.func80, Try.ntmps80
  go_wp2_with (go_at_call 82; refine (cutEnd_any s hs _).mono ?_; rintro e w1 ⟨a, b, f, rfl, ha, q, rfl⟩; have HA := Hid.of ha; clear ha)
  go_ret3
  exact ⟨_, _, _, rfl, HA.out, _, rfl⟩

set_option maxRecDepth 20000 in
set_option maxHeartbeats 800000 in
theorem toLineEnd_any (s : ByteArray) (hs : s.size ≤ 1000000) (w : World) :
    Calls Try.prog 63 #[.string s] w fun e w' => e = .returned (.int .i64 (wLen wNoEnd s.data.toList)) ∧ ∃ q, w' = w.drewN q := by
  go_enter Try.func63, Try.ntmps63
  go_wp2_with (go_at_call 80; refine (cutEnd2_any s hs _).mono ?_; rintro e w1 ⟨a, b, f, rfl, ha, q, rfl⟩; have HA := Hid.of ha; clear ha)
  go_ret
  rw [HA.out]
  exact ⟨rfl, _, rfl⟩

set_option maxRecDepth 20000 in
set_option maxHeartbeats 800000 in
theorem start_any (w : World) :
    Calls Try.prog 20 #[] w fun e w' => e = .returned (.agg #[.int .i64 1, .int .i64 1]) ∧ Below w.heap.size w w' := by
  go_enter Try.func20, Try.ntmps20
  go_wp2
  refine bodyPost_ret (v := .agg #[.int .i64 1, .int .i64 1]) ?_ rfl ⟨rfl, ?_⟩
  · simp [results, Try.results20, go_sem]
  · exact (Below.refl _ _).alloc (Nat.le_refl _) _

theorem lPass_next (x : Nat × Nat) (s : ByteArray) (k : Nat) (h : k < s.size) : lPass x (s.data.toList.take (k + 1)) = lStep (lPass x (s.data.toList.take k)) s[k] := by
  rw [take_snoc s k h, lPass_append]
  rfl

set_option maxRecDepth 20000 in
set_option maxHeartbeats 800000 in
theorem pass_any (w : World) (b : Nat) (ty : TypeId) (x : Nat × Nat) (post : List Value) (s : ByteArray) (h : Blk w b ty (.int .i64 x.1 :: .int .i64 x.2 :: post)) (hs : s.size ≤ 1000000) (h1 : x.1 ≤ 1000000) (h2 : x.2 ≤ 1000000) :
    Calls Try.prog 21 #[.pointer (some ⟨b, 0, none⟩), .string s] w fun e w' => e = .returned (.tuple #[]) ∧ Blk w' b ty (.int .i64 (lPass x s.data.toList).1 :: .int .i64 (lPass x s.data.toList).2 :: post) ∧ w.grownBy w' (some b) := by
  have H := Hid.of h
  clear h
  go_enter Try.func21, Try.ntmps21
  go_wp2
  go_loopw [7] (fun i wr => ∃ k : Nat, k ≤ s.size ∧ i = .int .i64 k ∧ Hid (Blk wr b ty (.int .i64 (lPass x (s.data.toList.take k)).1 :: .int .i64 (lPass x (s.data.toList.take k)).2 :: post)) ∧ w.grownBy wr (some b)) (fun i _ => s.size - (RowKit.intOf i).toNat)
  case atStart => exact ⟨0, Nat.zero_le _, rfl, H, grownBy_refl _ _⟩
  case round =>
    obtain ⟨k, hk, rfl, hr, hg⟩ := hrel
    by_cases hlt : k < s.size
    · have HL := Hid.of (lPass_next x s k hlt)
      have hb := lPass_le (s.data.toList.take k) x
      rw [List.length_take, byte_len] at hb
      obtain ⟨y, hy⟩ : ∃ y, lPass x (s.data.toList.take k) = y := ⟨_, rfl⟩
      rw [hy] at hr hb HL
      clear hy
      obtain ⟨y1, y2⟩ := y
      simp only at hb
      have hb1 : y1 ≤ 2000000 := by omega
      have hb2 : y2 ≤ 2000000 := by omega
      have e0 := hr.out.cell 0 _ rfl
      have e1 := hr.out.cell 1 _ rfl
      have f0 : wr.frozen? ⟨b, 0, none⟩ = false := row_frozen hr.out
      have f1 : wr.frozen? ⟨b, 1, none⟩ = false := row_frozen hr.out
      have G := Hid.of hg
      clear hg hb
      by_cases h10 : s[k].toNat = 10
      · have q1 : ((s[k].toNat : Int) == 10) = true := by simp [h10]
        have S3 : Hid (Blk (((wr.setCell ⟨b, 1, none⟩ (.int .i64 (y2 + 1))).setCell ⟨b, 0, none⟩ (.int .i64 (y1 + 1))).setCell ⟨b, 1, none⟩ (.int .i64 1)) b ty (.int .i64 (y1 + 1) :: .int .i64 1 :: post)) := Hid.of (by
          have := row_set (i := 1) (row_set (i := 0) (row_set (i := 1) hr.out (.int .i64 (y2 + 1))) (.int .i64 (y1 + 1))) (.int .i64 1)
          unfold Blk
          rw [this]
          simp)
        have HS : Hid (lPass x (s.data.toList.take (k + 1)) = (y1 + 1, 1)) := Hid.of (by rw [HL.out]; unfold lStep; rw [if_pos h10])
        clear h10 HL
        go_wp2
        refine ⟨⟨k + 1, by omega, by go_num, ?_, ?_⟩, by simp [RowKit.intOf]; omega⟩
        · rw [HS.out]
          exact S3
        · exact grownBy_trans (grownBy_trans (grownBy_trans G.out (grownBy_setCell _ _ _ _)) (grownBy_setCell _ _ _ _)) (grownBy_setCell _ _ _ _)
      · have q1 : ((s[k].toNat : Int) == 10) = false := by rw [beq_eq_false_iff_ne]; omega
        have q2 : ¬ (s[k].toNat : Int) = 10 := by omega
        have S1 : Hid (Blk (wr.setCell ⟨b, 1, none⟩ (.int .i64 (y2 + 1))) b ty (.int .i64 y1 :: .int .i64 (y2 + 1) :: post)) := Hid.of (by
          have := row_set (i := 1) hr.out (.int .i64 (y2 + 1))
          unfold Blk
          rw [this]
          simp)
        have HS : Hid (lPass x (s.data.toList.take (k + 1)) = (y1, y2 + 1)) := Hid.of (by rw [HL.out]; unfold lStep; rw [if_neg h10])
        clear h10 HL
        go_wp2
        refine ⟨⟨k + 1, by omega, by go_num, ?_, ?_⟩, by simp [RowKit.intOf]; omega⟩
        · rw [HS.out]
          exact S1
        · exact grownBy_trans G.out (grownBy_setCell _ _ _ _)
    · have hka : k = s.size := by omega
      have hr2 := hr.out
      rw [List.take_of_length_le (by rw [byte_len]; omega)] at hr2
      have HR := Hid.of hr2
      have G := Hid.of hg
      clear hr2 hr hg
      go_wp2
      go_end0
      exact ⟨rfl, HR.out, G.out⟩

theorem grownBy_drewN {a b : World} {row : Option Nat} (h : a.grownBy b row) (n : Nat) : a.grownBy (b.drewN n) row := ⟨h.os, h.tape, h.output, h.size, h.block⟩

theorem grownBy_ofDrew {a b : World} {row : Option Nat} (h : (a.drew).grownBy b row) : a.grownBy b row := ⟨h.os, h.tape, h.output, h.size, h.block⟩

theorem grownBy_ofDrewN {a b : World} {row : Option Nat} {n : Nat} (h : (a.drewN n).grownBy b row) : a.grownBy b row := ⟨h.os, h.tape, h.output, h.size, h.block⟩

/-- The Words at p stand at x, and t is left. -/
abbrev WRow (w : World) (p : Nat) (x : Nat × Nat) (t : ByteArray) : Prop := Blk w p 56 [.int .i64 x.1, .int .i64 x.2, .string t]

theorem extract_take (t : ByteArray) (n : Nat) : (t.extract 0 n).data.toList = t.data.toList.take n := by simp

theorem extract_drop (t : ByteArray) (n : Nat) : (t.extract n t.size).data.toList = t.data.toList.drop n := by
  have := extract_list t n (t.size - n)
  by_cases h : n ≤ t.size
  · rw [show n + (t.size - n) = t.size by omega] at this
    rw [this, List.take_of_length_le (by rw [List.length_drop, byte_len]; exact Nat.le_refl _)]
  · rw [List.drop_eq_nil_of_le (by rw [byte_len]; omega)]
    refine List.eq_nil_of_length_eq_zero ?_
    rw [byte_len, ByteArray.size_extract]
    omega

set_option maxRecDepth 20000 in
set_option maxHeartbeats 800000 in
theorem skip_any (w : World) (p : Nat) (x : Nat × Nat) (t : ByteArray) (n : Nat) (h : WRow w p x t) (hs : t.size ≤ 1000000) (h1 : x.1 ≤ 1000000) (h2 : x.2 ≤ 1000000) (hn : n ≤ t.size) :
    Calls Try.prog 62 #[wptr p, .int .i64 n] w fun e w' => e = .returned (.tuple #[]) ∧ WRow w' p (lPass x (t.data.toList.take n)) (t.extract n t.size) ∧ w.grownBy w' (some p) := by
  have H := Hid.of h
  have e2 := h.cell 2 _ rfl
  have f2 : w.frozen? ⟨p, 2, none⟩ = false := row_frozen h
  have n1 : (n : Int) ≤ (t.size : Int) := by omega
  have HS : Hid ((t.extract 0 n).size ≤ 1000000) := Hid.of (by simp [ByteArray.size_extract]; omega)
  have HT := Hid.of (extract_take t n)
  clear h
  go_enter Try.func62, Try.ntmps62
  go_wp2_with fail
  refine wp_region_noPanic ?_
  go_region_with (go_at_call 21; go_loud (refine (pass_any w.drew p 56 x [.string t] (t.extract 0 n) H.out HS.out h1 h2).mono ?_; rintro e w1 ⟨rfl, b1, g1⟩); rw [HT.out] at b1; have B1 := Hid.of b1; have G1 := Hid.of (grownBy_ofDrew g1); have c2 := b1.cell 2 _ rfl; have k2 : w1.frozen? ⟨p, 2, none⟩ = false := row_frozen b1; clear b1 g1)
  all_goals
    refine NoPanic.normal ?_
    go_wp2
    go_end0
    refine ⟨rfl, ?_, grownBy_trans G1.out (grownBy_setCell _ _ _ _)⟩
    have := row_set (i := 2) B1.out (.string (t.extract n t.size))
    unfold WRow Blk
    rw [this]
    simp

end Go.Proofs.Ytcjfejhfafiaiaa
