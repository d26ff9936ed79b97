/-
  What the document's own Floor, Ceil, On, Back, Starts answer.
-/
import Derived.Test.YtjmnffcmgigodaaGS
import Derived.Test.YtjmnffcmgigodaaBKN
namespace Go.Proofs.Ytjmnffcmgigodaa
open Go.RowKit Go.Lib

theorem ref_low {t e p : Int} (h1 : t < -9223372036854775808 + p) (h2 : -9223372036854775808 ≤ t) (p1 : p < e) (e9 : e ≤ 9223372036854775807) : wrap64 (wrap64 (t - p) + e) = t + (e - p) := by
  unfold wrap64
  omega

set_option maxHeartbeats 800000 in
theorem refFloor_any (t e : Int) (ht : I64 t) (he : I64 e) (w : World) :
    Calls Try.prog 15 #[.int .i64 t, .int .i64 e] w fun x w' => x = .returned (.int .i64 (gFloor t e)) ∧ ∃ q, w' = w.drewN q := by
  by_cases h1 : e < 1
  · have hf : gFloor t e = t := by unfold gFloor; rw [if_pos h1]
    rw [hf]
    go_enter Try.func15, Try.ntmps15
    go_wp2
    go_ret
    exact ⟨rfl, 0, rfl⟩
  · have h2 : 1 ≤ e := by omega
    have hf := Hid.of (Floor_case t e _ h2 rfl)
    obtain ⟨p0, p1⟩ := gPast_bounds t h2
    have hp := gPast_rem t h2
    have hl := rem_low t h2
    have hu := Int.tmod_lt_of_pos t (show 0 < e by omega)
    obtain ⟨r, hr⟩ : ∃ r, t.tmod e = r := ⟨_, rfl⟩
    rw [hr] at hp hl hu
    have e9 : e ≤ 9223372036854775807 := he.2
    have t0 : -9223372036854775808 ≤ t := ht.1
    have t9 : t ≤ 9223372036854775807 := ht.2
    have e0 : ¬ e = 0 := by omega
    obtain ⟨p, hpp⟩ : ∃ p, gPast t e = p := ⟨_, rfl⟩
    rw [hpp] at hf p0 p1 hp
    clear hpp ht he
    by_cases g0 : r < 0
    · rw [if_pos g0] at hp
      subst hp
      by_cases g : t < -9223372036854775808 + (r + e)
      · have HW := Hid.of (ref_low g t0 p1 e9)
        go_enter Try.func15, Try.ntmps15
        go_wp2
        go_ret
        rw [hf.out, if_pos g, ← HW.out]
        exact ⟨rfl, 0, rfl⟩
      · go_enter Try.func15, Try.ntmps15
        go_wp2
        go_ret
        rw [hf.out, if_neg (by omega)]
        exact ⟨rfl, 0, rfl⟩
    · rw [if_neg g0] at hp
      subst hp
      by_cases g : t < -9223372036854775808 + p
      · have HW := Hid.of (ref_low g t0 p1 e9)
        go_enter Try.func15, Try.ntmps15
        go_wp2
        go_ret
        rw [hf.out, if_pos g, ← HW.out]
        exact ⟨rfl, 0, rfl⟩
      · go_enter Try.func15, Try.ntmps15
        go_wp2
        go_ret
        rw [hf.out, if_neg (by omega)]
        exact ⟨rfl, 0, rfl⟩

theorem refCeil_case {t e : Int} (h : 1 ≤ e) (p : Int) (hp : gPast t e = p) : gCeil t e = if p = 0 then t else if 9223372036854775807 - (e - p) < t then t - p else t + (e - p) := by
  unfold gCeil
  rw [if_neg (by omega), hp]

set_option maxHeartbeats 1600000 in
theorem refCeil_any (t e : Int) (ht : I64 t) (he : I64 e) (w : World) :
    Calls Try.prog 17 #[.int .i64 t, .int .i64 e] w fun x w' => x = .returned (.int .i64 (gCeil t e)) ∧ ∃ q, w' = w.drewN q := by
  by_cases h1 : e < 1
  · have hf : gCeil t e = t := by unfold gCeil; rw [if_pos h1]
    rw [hf]
    go_enter Try.func17, Try.ntmps17
    go_wp2
    go_ret
    exact ⟨rfl, 0, rfl⟩
  · have h2 : 1 ≤ e := by omega
    obtain ⟨p0, p1⟩ := gPast_bounds t h2
    have hp := gPast_rem t h2
    have hl := rem_low t h2
    have hu := Int.tmod_lt_of_pos t (show 0 < e by omega)
    obtain ⟨r, hr⟩ : ∃ r, t.tmod e = r := ⟨_, rfl⟩
    rw [hr] at hp hl hu
    have e9 : e ≤ 9223372036854775807 := he.2
    have t0 : -9223372036854775808 ≤ t := ht.1
    have t9 : t ≤ 9223372036854775807 := ht.2
    have e0 : ¬ e = 0 := by omega
    obtain ⟨p, hpp⟩ : ∃ p, gPast t e = p := ⟨_, rfl⟩
    have hf := Hid.of (refCeil_case h2 p hpp)
    rw [hpp] at p0 p1 hp
    clear hpp ht he
    by_cases g0 : r < 0
    · rw [if_pos g0] at hp
      subst hp
      have n0 : ¬ r + e = 0 := by omega
      by_cases g : 9223372036854775807 - (e - (r + e)) < t
      · go_enter Try.func17, Try.ntmps17
        go_wp2
        go_ret
        rw [hf.out, if_neg n0, if_pos g]
        exact ⟨rfl, 0, rfl⟩
      · go_enter Try.func17, Try.ntmps17
        go_wp2
        go_ret
        rw [hf.out, if_neg n0, if_neg (by omega)]
        exact ⟨rfl, 0, rfl⟩
    · rw [if_neg g0] at hp
      subst hp
      by_cases n0 : p = 0
      · go_enter Try.func17, Try.ntmps17
        go_wp2
        go_ret
        rw [hf.out, if_pos n0]
        exact ⟨rfl, 0, rfl⟩
      · by_cases g : 9223372036854775807 - (e - p) < t
        · go_enter Try.func17, Try.ntmps17
          go_wp2
          go_ret
          rw [hf.out, if_neg n0, if_pos g]
          exact ⟨rfl, 0, rfl⟩
        · go_enter Try.func17, Try.ntmps17
          go_wp2
          go_ret
          rw [hf.out, if_neg n0, if_neg (by omega)]
          exact ⟨rfl, 0, rfl⟩

set_option maxHeartbeats 400000 in
theorem refOn_any (t e : Int) (w : World) :
    Calls Try.prog 19 #[.int .i64 t, .int .i64 e] w fun x w' => x = .returned (.bool (gOn t e)) ∧ ∃ q, w' = w.drewN q := by
  by_cases h1 : 1 ≤ e
  · obtain ⟨r, hr⟩ : ∃ r, t.tmod e = r := ⟨_, rfl⟩
    have hg : gOn t e = decide (r = 0) := by unfold gOn; rw [decide_eq_true h1, hr, Bool.true_and]
    have HG := Hid.of hg
    have e0 : ¬ e = 0 := by omega
    clear hg
    go_enter Try.func19, Try.ntmps19
    go_wp2
    go_ret
    rw [HG.out]
    exact ⟨rfl, 0, rfl⟩
  · have hg : gOn t e = false := by unfold gOn; rw [decide_eq_false h1, Bool.false_and]
    rw [hg]
    go_enter Try.func19, Try.ntmps19
    go_wp2
    go_ret
    exact ⟨rfl, 0, rfl⟩

set_option maxHeartbeats 800000 in
theorem refBack_any (now keep e : Int) (hn : I64 now) (hk : I64 keep) (he : I64 e) (w : World) :
    Calls Try.prog 22 #[.int .i64 now, .int .i64 keep, .int .i64 e] w fun x w' => x = .returned (.int .i64 (gBack now keep e)) ∧ ∃ q, w' = w.drewN q := by
  have hr := gBack_ref now keep e hn hk he
  have HE := Hid.of he
  by_cases h : now < 0 ∨ keep < 0 ∨ e < 1 ∨ now < keep
  · rw [if_pos h] at hr
    rw [hr]
    have h' : now < 0 ∨ (¬ now < 0 ∧ keep < 0) ∨ (¬ now < 0 ∧ ¬ keep < 0 ∧ e < 1) ∨ (¬ now < 0 ∧ ¬ keep < 0 ∧ ¬ e < 1 ∧ now < keep) := by omega
    clear h hr
    rcases h' with h1 | ⟨h1, h2⟩ | ⟨h1, h2, h3⟩ | ⟨h1, h2, h3, h4⟩
    all_goals
      go_enter Try.func22, Try.ntmps22
      go_wp2
      go_ret
      exact ⟨rfl, 0, rfl⟩
  · rw [if_neg h] at hr
    rw [hr]
    have n0 : ¬ now < 0 := fun c => h (.inl c)
    have k0 : ¬ keep < 0 := fun c => h (.inr (.inl c))
    have e0 : ¬ e < 1 := fun c => h (.inr (.inr (.inl c)))
    have nk : ¬ now < keep := fun c => h (.inr (.inr (.inr c)))
    have n9 : now ≤ 9223372036854775807 := hn.2
    have k9 : keep ≤ 9223372036854775807 := hk.2
    have HD : Hid (I64 (now - keep)) := Hid.of (by unfold I64; omega)
    clear h hr
    go_enter Try.func22, Try.ntmps22
    go_wp2_with fail
    refine (refFloor_any (now - keep) e HD.out HE.out _).mono ?_
    rintro x w1 ⟨rfl, q, rfl⟩
    go_wp2
    go_ret
    exact ⟨rfl, q, rfl⟩

set_option maxHeartbeats 400000 in
theorem refStarts_bad (a b e m : Int) (h : e < 1 ∨ m < 0) (w : World) :
    Calls Try.prog 10 #[.int .i64 a, .int .i64 b, .int .i64 e, .int .i64 m] w fun x w' => x = .returned (.tuple #[.slice none 0 0, .bool false]) ∧ ∃ q, w' = w.drewN q := by
  have h' : e < 1 ∨ (¬ e < 1 ∧ m < 0) := by omega
  clear h
  rcases h' with h1 | ⟨h1, h2⟩
  all_goals
    go_enter Try.func10, Try.ntmps10
    go_wp2
    go_ret2
    exact ⟨rfl, 0, rfl⟩

theorem count_end {a f b e : Int} {n : Nat} (he : 1 ≤ e) (hn : gCount a f b e = (n : Int)) (h : 1 ≤ n) : b ≤ f + (n : Int) * e := by
  unfold gCount at hn
  split at hn
  · omega
  · have h1 := Int.mul_ediv_add_emod (b - 1 - f) e
    have h2 := Int.emod_lt_of_pos (b - 1 - f) (show 0 < e by omega)
    rw [← hn, Int.add_mul, Int.one_mul, Int.mul_comm]
    omega

theorem count_none {a f b e : Int} (he : 1 ≤ e) (hn : gCount a f b e = ((0 : Nat) : Int)) : f < a ∨ b ≤ f := by
  unfold gCount at hn
  split at hn
  · assumption
  · have := Int.ediv_nonneg (show 0 ≤ b - 1 - f by omega) (show 0 ≤ e by omega)
    omega

set_option maxRecDepth 20000 in
set_option maxHeartbeats 1600000 in
theorem refStarts_main (a b e m : Int) (n : Nat) (h1 : ¬ e < 1) (h2 : ¬ m < 0) (m9 : m ≤ 100000) (ha : I64 a) (hb : I64 b) (he : I64 e) (f : Int) (hf : gCeil a e = f) (hn : gCount a f b e = (n : Int)) (hm : ¬ m < (n : Int)) (w : World) :
    Calls Try.prog 10 #[.int .i64 a, .int .i64 b, .int .i64 e, .int .i64 m] w fun x w' => ∃ v, x = .returned (.tuple #[v, .bool true]) ∧ w'.ownsRow w.heap.size 3 1 v n ((gRow f e n).map (Value.int .i64)) ∧ Below w.heap.size w w' := by
  have he1 : 1 ≤ e := by omega
  have HA := Hid.of ha
  have HB := Hid.of hb
  have HE := Hid.of he
  have HN := Hid.of hn
  have HC := Hid.of hf
  have HF := Hid.of (gCeil_int ha he)
  rw [hf] at HF
  have b9 : b ≤ 9223372036854775807 := hb.2
  have e9 : e ≤ 9223372036854775807 := he.2
  have f0 : -9223372036854775808 ≤ f := HF.out.1
  have f9 : f ≤ 9223372036854775807 := HF.out.2
  clear ha hb he hn hf
  obtain ⟨i0, hi, hz0, hz1, hz2⟩ := info_parts (show (Try.prog.info? 3).map (fun i => (i.zero, i.size, i.bytes)) = some (some (.int .i64 0), 1, 8) by kernel_rfl)
  have HI := Hid.of hi
  have HZ0 := Hid.of hz0
  have HZ1 := Hid.of hz1
  have HZ2 := Hid.of hz2
  clear hi hz0 hz1 hz2
  go_enter Try.func10, Try.ntmps10
  go_wp2_with fail
  refine (refCeil_any a e HA.out HE.out _).mono ?_
  rintro x w1 ⟨rfl, q, rfl⟩
  rw [HC.out]
  go_wp2
  go_loopw [10, 11] (fun l t wr => ∃ (j : Nat) (y : Int), j ≤ n ∧ t = .int .i64 y ∧ Hid (y = f + (j : Int) * e) ∧ -9223372036854775808 ≤ y ∧ y ≤ 9223372036854775807 ∧ Hid (wr.ownsRow w.heap.size 3 1 l j ((gRow f e j).map (Value.int .i64))) ∧ Below w.heap.size w wr) (fun _ t _ => (b - RowKit.intOf t).toNat)
  case atStart => exact ⟨0, f, Nat.zero_le _, rfl, Hid.of (by simp), f0, f9, Hid.of (World.ownsRow_nil _ _ _ 1), below_drewN (Below.refl _ _) _⟩
  case round =>
    obtain ⟨j, y, hj, rfl, HY, y0, y9, O, hb⟩ := hrel
    obtain ⟨la, lc, hle, _⟩ := own_one O.out
    subst hle
    by_cases hlt : j < n
    · obtain ⟨z0, z1, z2⟩ := count_in he1 HN.out hlt
      have hy := HY.out
      have g1 : a ≤ y := by omega
      have g2 : y < b := by omega
      have g3 : (j : Int) < m := by omega
      have J9 : Hid (j ≤ 100000) := Hid.of (by omega)
      have HLT := Hid.of hlt
      clear hy z0 z1 z2 hlt m9
      by_cases gb : 9223372036854775807 - e < y
      · go_wp2_with (at_builtin; refine append_row_law rfl _ _ 33 rfl w.heap.size 3 i0 (.int .i64 0) 1 8 Try.underlying33 HI.out HZ0.out HZ1.out HZ2.out rfl (by decide) (.slice la j lc) j _ rfl (O.out.alloc _) (.slice (some ⟨wr.heap.size, 0, none⟩) 1 1) 1 [.int .i64 y] rfl ⟨_, _, rfl, .inr ⟨_, 0, rfl, by simp, one_int wr _ _⟩⟩ rfl (by simp [Value.oneCell']) (by have := J9.out; unfold maxLen; omega) (by have := J9.out; omega) (by simp; have := hb.size; omega) ?_; intro v1 w1 o1 g1; have O1 := Hid.of o1; have G1 := Hid.of g1; clear o1 g1)
        go_ret2
        have hend : j + 1 = n := by
          have h1 := HLT.out
          by_cases c : j + 1 < n
          · obtain ⟨z0, z1, z2⟩ := count_in he1 HN.out c
            have hy := HY.out
            push_cast at z1
            rw [Int.add_mul, Int.one_mul] at z1
            omega
          · omega
        subst hend
        refine ⟨_, rfl, ?_, (hb.alloc hb.size _).grown G1.out (by have := hb.size; simp; omega) (fun k hk => own_ge O.out hk)⟩
        have hy := HY.out
        rw [gRow_succ, List.map_append, ← hy]
        exact O1.out
      · go_wp2_with (at_builtin; refine append_row_law rfl _ _ 33 rfl w.heap.size 3 i0 (.int .i64 0) 1 8 Try.underlying33 HI.out HZ0.out HZ1.out HZ2.out rfl (by decide) (.slice la j lc) j _ rfl (O.out.alloc _) (.slice (some ⟨wr.heap.size, 0, none⟩) 1 1) 1 [.int .i64 y] rfl ⟨_, _, rfl, .inr ⟨_, 0, rfl, by simp, one_int wr _ _⟩⟩ rfl (by simp [Value.oneCell']) (by have := J9.out; unfold maxLen; omega) (by have := J9.out; omega) (by simp; have := hb.size; omega) ?_; intro v1 w1 o1 g1; have O1 := Hid.of o1; have G1 := Hid.of g1; clear o1 g1)
        go_roundw
        case rel =>
          have hy := HY.out
          refine ⟨j + 1, y + e, by have := HLT.out; omega, rfl, Hid.of (by push_cast; rw [Int.add_mul, Int.one_mul]; omega), by omega, by omega, Hid.of ?_, (hb.alloc hb.size _).grown G1.out (by have := hb.size; simp; omega) (fun k hk => own_ge O.out hk)⟩
          rw [gRow_succ, List.map_append, ← hy]
          exact O1.out
        case measure => simp [RowKit.intOf]; omega
    · have : j = n := by omega
      subst this
      have hy := HY.out
      have key : y < a ∨ (¬ y < a ∧ b ≤ y) := by
        by_cases c : j = 0
        · subst c
          have := count_none he1 HN.out
          simp at hy
          omega
        · have h3 := count_end he1 HN.out (by omega)
          omega
      clear hy hlt
      rcases key with g1 | ⟨g1, g2⟩
      all_goals
        go_wp2
        go_ret2
        exact ⟨_, rfl, O.out, hb⟩

set_option maxRecDepth 20000 in
set_option maxHeartbeats 1600000 in
theorem refStarts_more (a b e : Int) (m n : Nat) (h1 : ¬ e < 1) (m9 : m ≤ 100000) (ha : I64 a) (hb : I64 b) (he : I64 e) (f : Int) (hf : gCeil a e = f) (hn : gCount a f b e = (n : Int)) (hm : m < n) (w : World) :
    Calls Try.prog 10 #[.int .i64 a, .int .i64 b, .int .i64 e, .int .i64 m] w fun x w' => x = .returned (.tuple #[.slice none 0 0, .bool false]) ∧ Below w.heap.size w w' := by
  have he1 : 1 ≤ e := by omega
  have HA := Hid.of ha
  have HB := Hid.of hb
  have HE := Hid.of he
  have HN := Hid.of hn
  have HC := Hid.of hf
  have HF := Hid.of (gCeil_int ha he)
  rw [hf] at HF
  have b9 : b ≤ 9223372036854775807 := hb.2
  have e9 : e ≤ 9223372036854775807 := he.2
  have f0 : -9223372036854775808 ≤ f := HF.out.1
  have f9 : f ≤ 9223372036854775807 := HF.out.2
  clear ha hb he hn hf
  obtain ⟨i0, hi, hz0, hz1, hz2⟩ := info_parts (show (Try.prog.info? 3).map (fun i => (i.zero, i.size, i.bytes)) = some (some (.int .i64 0), 1, 8) by kernel_rfl)
  have HI := Hid.of hi
  have HZ0 := Hid.of hz0
  have HZ1 := Hid.of hz1
  have HZ2 := Hid.of hz2
  clear hi hz0 hz1 hz2
  go_enter Try.func10, Try.ntmps10
  go_wp2_with fail
  refine (refCeil_any a e HA.out HE.out _).mono ?_
  rintro x w1 ⟨rfl, q, rfl⟩
  rw [HC.out]
  go_wp2
  go_loopw [10, 11] (fun l t wr => ∃ (j : Nat) (y : Int), j ≤ m ∧ t = .int .i64 y ∧ Hid (y = f + (j : Int) * e) ∧ -9223372036854775808 ≤ y ∧ y ≤ 9223372036854775807 ∧ Hid (wr.ownsRow w.heap.size 3 1 l j ((gRow f e j).map (Value.int .i64))) ∧ Below w.heap.size w wr) (fun _ t _ => (b - RowKit.intOf t).toNat)
  case atStart => exact ⟨0, f, Nat.zero_le _, rfl, Hid.of (by simp), f0, f9, Hid.of (World.ownsRow_nil _ _ _ 1), below_drewN (Below.refl _ _) _⟩
  case round =>
    obtain ⟨j, y, hj, rfl, HY, y0, y9, O, hb⟩ := hrel
    obtain ⟨la, lc, hle, _⟩ := own_one O.out
    subst hle
    obtain ⟨z0, z1, z2⟩ := count_in (j := j) he1 HN.out (by omega)
    have hy := HY.out
    have g1 : a ≤ y := by omega
    have g2 : y < b := by omega
    by_cases hlt : j < m
    · have g3 : (j : Int) < (m : Int) := by omega
      have J9 : Hid (j ≤ 100000) := Hid.of (by omega)
      have HLT := Hid.of hlt
      obtain ⟨t0, t1, t2⟩ := count_in (j := j + 1) he1 HN.out (by omega)
      push_cast at t1
      rw [Int.add_mul, Int.one_mul] at t1
      have gb : ¬ 9223372036854775807 - e < y := by omega
      clear hy z0 z1 z2 hlt m9 t0 t1 t2
      go_wp2_with (at_builtin; refine append_row_law rfl _ _ 33 rfl w.heap.size 3 i0 (.int .i64 0) 1 8 Try.underlying33 HI.out HZ0.out HZ1.out HZ2.out rfl (by decide) (.slice la j lc) j _ rfl (O.out.alloc _) (.slice (some ⟨wr.heap.size, 0, none⟩) 1 1) 1 [.int .i64 y] rfl ⟨_, _, rfl, .inr ⟨_, 0, rfl, by simp, one_int wr _ _⟩⟩ rfl (by simp [Value.oneCell']) (by have := J9.out; unfold maxLen; omega) (by have := J9.out; omega) (by simp; have := hb.size; omega) ?_; intro v1 w1 o1 g1; have O1 := Hid.of o1; have G1 := Hid.of g1; clear o1 g1)
      go_roundw
      case rel =>
        have hy := HY.out
        refine ⟨j + 1, y + e, by have := HLT.out; omega, rfl, Hid.of (by push_cast; rw [Int.add_mul, Int.one_mul]; omega), by omega, by omega, Hid.of ?_, (hb.alloc hb.size _).grown G1.out (by have := hb.size; simp; omega) (fun k hk => own_ge O.out hk)⟩
        rw [gRow_succ, List.map_append, ← hy]
        exact O1.out
      case measure => simp [RowKit.intOf]; omega
    · have : j = m := by omega
      subst this
      clear hy z0 z1 z2 hlt m9
      go_wp2
      go_ret2
      exact ⟨rfl, hb⟩

end Go.Proofs.Ytjmnffcmgigodaa
