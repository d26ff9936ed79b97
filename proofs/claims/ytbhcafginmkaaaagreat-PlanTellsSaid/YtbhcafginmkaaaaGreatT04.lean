/-
  A bundle of texts: NM GW.
-/
import Derived.WalkKit
import Derived.Laws.BitsAllLaws
import Derived.Test.YtbhcafginmkaaaaGreatT03
import Derived.Test.YtbhcafginmkaaaaGreatT01
namespace Go.Proofs.YtbhcafginmkaaaaGreat
open Go.RowKit

theorem toList_eq {a b : ByteArray} (h : a.toList = b.toList) : a = b := by
  rw [ByteArray.toList_eq, ByteArray.toList_eq] at h
  cases a; cases b
  simp only [ByteArray.mk.injEq]
  exact Array.toList_inj.1 h

/-- The hash. -/
def nHash1 (x : Nat) (c : UInt8) : Nat := ((x ^^^ c.toNat) * 16777619) % 4294967296
def nHash (l : List UInt8) : Nat := l.foldl nHash1 2166136261

theorem nHash_lt (l : List UInt8) : nHash l < 4294967296 := by
  have key : ∀ (l : List UInt8) (x : Nat), x < 4294967296 → l.foldl nHash1 x < 4294967296 := by
    intro l
    induction l with
    | nil => intro x h; exact h
    | cons a l ih => intro x _; exact ih _ (Nat.mod_lt _ (by omega))
  exact key l _ (by omega)

theorem nHash_take (l : List UInt8) (j : Nat) (h : j < l.length) : nHash (l.take (j + 1)) = nHash1 (nHash (l.take j)) l[j] := by
  unfold nHash
  rw [List.take_succ_eq_append_getElem h, List.foldl_append, List.foldl_cons, List.foldl_nil]

end Go.Proofs.YtbhcafginmkaaaaGreat

namespace Go.Proofs.YtbhcafginmkaaaaGreat
open Go.RowKit Go.Lib

theorem and_none (e : Int) : bits .and .i64 e 0 = 0 := by
  show IntKind.i64.wrap ((BitVec.ofInt 64 e &&& BitVec.ofInt 64 0).toNat : Int) = 0
  have : BitVec.ofInt 64 (0 : Int) = 0#64 := by rfl
  rw [this, BitVec.and_zero]
  rfl

theorem and_all {e : Int} (h : I64 e) : bits .and .i64 e (-1) = e := by
  show IntKind.i64.wrap ((BitVec.ofInt 64 e &&& BitVec.ofInt 64 (-1)).toNat : Int) = e
  have : BitVec.ofInt 64 (-1 : Int) = BitVec.allOnes 64 := by rfl
  rw [this, BitVec.and_allOnes, BitVec.toNat_ofInt, IntKind.wrap_i64]
  unfold I64 at h
  omega

set_option maxHeartbeats 400000 in
theorem rest_any (t e : Int) (he : I64 e) (h1 : 1 ≤ e) (w : World) :
    Calls Tryz.prog 212 #[.int .i64 t, .int .i64 e] w fun x w' => x = .returned (.int .i64 (gPast t e)) ∧ ∃ q, w' = w.drewN q := by
  have hp := gPast_rem t h1
  have hl := rem_low t h1
  have hu := Int.tmod_lt_of_pos t (show 0 < e by omega)
  have HA := Hid.of (and_all he)
  obtain ⟨r, hr⟩ : ∃ r, t.tmod e = r := ⟨_, rfl⟩
  rw [hr] at hp hl hu
  have e0 : ¬ e = 0 := by omega
  go_enter Tryz.func212, Tryz.ntmps212
  go_wp2
  have key : wrap64 (r + bits BinOp.and IntKind.i64 e (r / 9223372036854775808)) = gPast t e := by
    rw [hp]
    unfold I64 at he
    by_cases h : r < 0
    · have : r / 9223372036854775808 = -1 := by omega
      rw [if_pos h, this, HA.out]
      exact IntWalk.wrap64_in _ (by omega)
    · have : r / 9223372036854775808 = 0 := by omega
      rw [if_neg h, this, and_none, Int.add_zero]
      exact IntWalk.wrap64_in _ (by omega)
  rw [key]
  go_ret
  exact ⟨rfl, 0, rfl⟩

theorem Floor_case (t e p : Int) (h1 : 1 ≤ e) (hp : gPast t e = p) : gFloor t e = if t < -9223372036854775808 + p then t + (e - p) else t - p := by
  unfold gFloor
  rw [if_neg (by omega), hp]

set_option maxHeartbeats 400000 in
theorem Floor_any (t e : Int) (ht : I64 t) (he : I64 e) (w : World) :
    Calls Tryz.prog 259 #[.int .i64 t, .int .i64 e] w fun x w' => x = .returned (.int .i64 (gFloor t e)) ∧ ∃ q, w' = w.drewN q := by
  by_cases h1 : e < 1
  · have hf : gFloor t e = t := by unfold gFloor; rw [if_pos h1]
    rw [hf]
    go_enter Tryz.func259, Tryz.ntmps259
    go_wp2
    go_ret
    exact ⟨rfl, 0, rfl⟩
  · have h2 : 1 ≤ e := by omega
    have hf := Hid.of (Floor_case t e _ h2 rfl)
    have HE := Hid.of he
    obtain ⟨p0, p1⟩ := gPast_bounds t h2
    have e9 : e ≤ 9223372036854775807 := he.2
    have t0 : -9223372036854775808 ≤ t := ht.1
    have t9 : t ≤ 9223372036854775807 := ht.2
    go_enter Tryz.func259, Tryz.ntmps259
    go_wp2_with fail
    refine (rest_any t e HE.out h2 _).mono ?_
    rintro x w1 ⟨rfl, q, rfl⟩
    generalize gPast t e = p at *
    by_cases g : t < -9223372036854775808 + p
    · go_wp2
      go_ret
      rw [hf.out, if_pos g]
      exact ⟨rfl, q, rfl⟩
    · go_wp2
      go_ret
      rw [hf.out, if_neg (by omega)]
      exact ⟨rfl, q, rfl⟩

theorem ahead_of {e p : Int} (p0 : 0 ≤ p) (p1 : p < e) : (e - p).tmod e = if p = 0 then 0 else e - p := by
  rw [Int.tmod_eq_emod_of_nonneg (by omega)]
  by_cases c : p = 0
  · subst c
    rw [if_pos rfl, Int.sub_zero, Int.emod_self]
  · rw [if_neg c]
    exact Int.emod_eq_of_lt (by omega) (by omega)

theorem Ceil_case (t e p a : Int) (h1 : 1 ≤ e) (hp : gPast t e = p) (t9 : t ≤ 9223372036854775807) (ha : (if p = 0 then 0 else e - p) = a) : gCeil t e = if 9223372036854775807 - a < t then t - p else t + a := by
  unfold gCeil
  rw [if_neg (by omega), hp]
  by_cases c : p = 0
  · rw [if_pos c] at ha ⊢
    rw [if_neg (by omega)]
    omega
  · rw [if_neg c] at ha ⊢
    rw [ha]

set_option maxHeartbeats 400000 in
theorem Ceil_any (t e : Int) (ht : I64 t) (he : I64 e) (w : World) :
    Calls Tryz.prog 108 #[.int .i64 t, .int .i64 e] w fun x w' => x = .returned (.int .i64 (gCeil t e)) ∧ ∃ q, w' = w.drewN q := by
  by_cases h1 : e < 1
  · have hf : gCeil t e = t := by unfold gCeil; rw [if_pos h1]
    rw [hf]
    go_enter Tryz.func108, Tryz.ntmps108
    go_wp2
    go_ret
    exact ⟨rfl, 0, rfl⟩
  · have h2 : 1 ≤ e := by omega
    have HE := Hid.of he
    obtain ⟨p0, p1⟩ := gPast_bounds t h2
    obtain ⟨p, hp⟩ : ∃ p, gPast t e = p := ⟨_, rfl⟩
    rw [hp] at p0 p1
    obtain ⟨a, ha⟩ : ∃ a, (if p = 0 then 0 else e - p) = a := ⟨_, rfl⟩
    have hf := Hid.of (Ceil_case t e p a h2 hp ht.2 ha)
    have HP := Hid.of hp
    have hm := ahead_of p0 p1
    rw [ha] at hm
    have a0 : 0 ≤ a ∧ a < e := by
      rw [← ha]
      split <;> omega
    obtain ⟨a0, a1⟩ := a0
    have e9 : e ≤ 9223372036854775807 := he.2
    have t0 : -9223372036854775808 ≤ t := ht.1
    have t9 : t ≤ 9223372036854775807 := ht.2
    have e0 : ¬ e = 0 := by omega
    clear hp ha
    go_enter Tryz.func108, Tryz.ntmps108
    go_wp2_with fail
    refine (rest_any t e HE.out h2 _).mono ?_
    rintro x w1 ⟨rfl, q, rfl⟩
    rw [HP.out]
    by_cases g : 9223372036854775807 - a < t
    · go_wp2
      go_ret
      rw [hf.out, if_pos g]
      exact ⟨rfl, q, rfl⟩
    · go_wp2
      go_ret
      rw [hf.out, if_neg (by omega)]
      exact ⟨rfl, q, rfl⟩

set_option maxHeartbeats 400000 in
theorem Divides_any (e t : Int) (w : World) :
    Calls Tryz.prog 211 #[.int .i64 e, .int .i64 t] w fun x w' => x = .returned (.bool (gOn t e)) ∧ ∃ q, w' = w.drewN q := by
  by_cases h1 : 1 ≤ e
  · obtain ⟨r, hr⟩ : ∃ r, t.tmod e = r := ⟨_, rfl⟩
    have hg : gOn t e = decide (r = 0) := by unfold gOn; rw [decide_eq_true h1, hr, Bool.true_and]
    have HG := Hid.of hg
    have e0 : ¬ e = 0 := by omega
    clear hg
    go_enter Tryz.func211, Tryz.ntmps211
    go_wp2
    go_ret
    rw [HG.out]
    exact ⟨rfl, 0, rfl⟩
  · have hg : gOn t e = false := by unfold gOn; rw [decide_eq_false h1, Bool.false_and]
    rw [hg]
    go_enter Tryz.func211, Tryz.ntmps211
    go_wp2
    go_ret
    exact ⟨rfl, 0, rfl⟩

set_option maxHeartbeats 400000 in
theorem Back_any (now keep e : Int) (hn : I64 now) (hk : I64 keep) (he : I64 e) (w : World) :
    Calls Tryz.prog 202 #[.int .i64 now, .int .i64 keep, .int .i64 e] w fun x w' => x = .returned (.int .i64 (gBack now keep e)) ∧ ∃ q, w' = w.drewN q := by
  have HE := Hid.of he
  by_cases h : now < 0 ∨ keep < 0 ∨ e < 1
  · have hg : gBack now keep e = 0 := by unfold gBack; rw [if_pos h]
    rw [hg]
    have h' : now < 0 ∨ (¬ now < 0 ∧ keep < 0) ∨ (¬ now < 0 ∧ ¬ keep < 0 ∧ e < 1) := by omega
    clear h hg
    rcases h' with h1 | ⟨h1, h2⟩ | ⟨h1, h2, h3⟩
    all_goals
      go_enter Tryz.func202, Tryz.ntmps202
      go_wp2
      go_ret
      exact ⟨rfl, 0, rfl⟩
  · have n0 : ¬ now < 0 := fun c => h (.inl c)
    have k0 : ¬ keep < 0 := fun c => h (.inr (.inl c))
    have e0 : ¬ e < 1 := fun c => h (.inr (.inr c))
    have n9 : now ≤ 9223372036854775807 := hn.2
    have k9 : keep ≤ 9223372036854775807 := hk.2
    have hg : gBack now keep e = max (gFloor (now - keep) e) 0 := by unfold gBack; rw [if_neg h]
    have hd : I64 (now - keep) := by unfold I64; omega
    have HG := Hid.of hg
    have HD := Hid.of hd
    clear h hg hd
    go_enter Tryz.func202, Tryz.ntmps202
    go_wp2_with fail
    refine (Floor_any (now - keep) e HD.out HE.out _).mono ?_
    rintro x w1 ⟨rfl, q, rfl⟩
    generalize gFloor (now - keep) e = f at *
    go_wp2
    all_goals
      go_ret
      rw [HG.out]
      refine ⟨?_, q, rfl⟩
      simp
      omega

end Go.Proofs.YtbhcafginmkaaaaGreat
