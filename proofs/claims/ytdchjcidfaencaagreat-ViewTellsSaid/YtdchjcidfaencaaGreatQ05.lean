/-
  A bundle of texts: NM GW.
-/
import Derived.WalkKit
import Derived.Laws.BitsAllLaws
import Derived.Test.YtdchjcidfaencaaGreatQ04
import Derived.Test.YtdchjcidfaencaaGreatQ02
namespace Go.Proofs.YtdchjcidfaencaaGreat
open Go.RowKit

theorem less_irrefl (x : List UInt8) : Op.bytesLess x x = false := by
  induction x with
  | nil => rfl
  | cons a x ih => simp [Op.bytesLess, ih]

theorem less_trans : ∀ {x y z : List UInt8}, Op.bytesLess x y = true → Op.bytesLess y z = true → Op.bytesLess x z = true
  | _, [], _, h, _ => by simp [Op.bytesLess] at h
  | _, _ :: _, [], _, h => by simp [Op.bytesLess] at h
  | [], _ :: _, _ :: _, _, _ => rfl
  | a :: x, b :: y, c :: z, h1, h2 => by
    simp only [Op.bytesLess, Bool.or_eq_true, decide_eq_true_eq, Bool.and_eq_true, beq_iff_eq] at h1 h2 ⊢
    rcases h1 with h1 | ⟨rfl, h1⟩
    · rcases h2 with h2 | ⟨rfl, h2⟩
      · exact .inl (UInt8.lt_trans h1 h2)
      · exact .inl h1
    · rcases h2 with h2 | ⟨rfl, h2⟩
      · exact .inl h2
      · exact .inr ⟨rfl, less_trans h1 h2⟩

theorem less_total : ∀ (x y : List UInt8), x ≠ y → Op.bytesLess x y = true ∨ Op.bytesLess y x = true
  | [], [], h => absurd rfl h
  | [], _ :: _, _ => .inl rfl
  | _ :: _, [], _ => .inr rfl
  | a :: x, b :: y, h => by
    simp only [Op.bytesLess, Bool.or_eq_true, decide_eq_true_eq, Bool.and_eq_true, beq_iff_eq]
    by_cases e : a = b
    · subst e
      rcases less_total x y (fun c => h (by rw [c])) with k | k
      · exact .inl (.inr ⟨rfl, k⟩)
      · exact .inr (.inr ⟨rfl, k⟩)
    · have : a < b ∨ b < a := by
        rcases Nat.lt_trichotomy a.toNat b.toNat with k | k | k
        · exact .inl (UInt8.lt_iff_toNat_lt.2 k)
        · exact absurd (UInt8.toNat_inj.1 k) e
        · exact .inr (UInt8.lt_iff_toNat_lt.2 k)
      rcases this with k | k
      · exact .inl (.inl k)
      · exact .inr (.inl k)

/-- One text stands ahead of another one. -/
def nLt (a b : ByteArray) : Prop := Op.bytesLess a.toList b.toList = true

theorem toList_eq {a b : ByteArray} (h : a.toList = b.toList) : a = b := by
  rw [ByteArray.toList_eq, ByteArray.toList_eq] at h
  cases a; cases b
  simp only [ByteArray.mk.injEq]
  exact Array.toList_inj.1 h

theorem nLt_irrefl (a : ByteArray) : ¬ nLt a a := by unfold nLt; rw [less_irrefl]; simp
theorem nLt_trans {a b c : ByteArray} (h1 : nLt a b) (h2 : nLt b c) : nLt a c := less_trans h1 h2
theorem nLt_total {a b : ByteArray} (h : a ≠ b) : nLt a b ∨ nLt b a := less_total _ _ (fun c => h (toList_eq c))

end Go.Proofs.YtdchjcidfaencaaGreat

namespace Go.Proofs.YtdchjcidfaencaaGreat
open Go.RowKit Go.Lib

theorem and_none (e : Int) : bits .and .i64 e 0 = 0 := by
  show IntKind.i64.wrap ((BitVec.ofInt 64 e &&& BitVec.ofInt 64 0).toNat : Int) = 0
  have : BitVec.ofInt 64 (0 : Int) = 0#64 := by rfl
  rw [this, BitVec.and_zero]
  rfl

theorem and_all {e : Int} (h : I64 e) : bits .and .i64 e (-1) = e := by
  show IntKind.i64.wrap ((BitVec.ofInt 64 e &&& BitVec.ofInt 64 (-1)).toNat : Int) = e
  have : BitVec.ofInt 64 (-1 : Int) = BitVec.allOnes 64 := by rfl
  rw [this, BitVec.and_allOnes, BitVec.toNat_ofInt, IntKind.wrap_i64]
  unfold I64 at h
  omega

set_option maxHeartbeats 400000 in
theorem rest_any (t e : Int) (he : I64 e) (h1 : 1 ≤ e) (w : World) :
    Calls Tryz.prog 113 #[.int .i64 t, .int .i64 e] w fun x w' => x = .returned (.int .i64 (gPast t e)) ∧ ∃ q, w' = w.drewN q := by
  have hp := gPast_rem t h1
  have hl := rem_low t h1
  have hu := Int.tmod_lt_of_pos t (show 0 < e by omega)
  have HA := Hid.of (and_all he)
  obtain ⟨r, hr⟩ : ∃ r, t.tmod e = r := ⟨_, rfl⟩
  rw [hr] at hp hl hu
  have e0 : ¬ e = 0 := by omega
  go_enter Tryz.func113, Tryz.ntmps113
  go_wp2
  have key : wrap64 (r + bits BinOp.and IntKind.i64 e (r / 9223372036854775808)) = gPast t e := by
    rw [hp]
    unfold I64 at he
    by_cases h : r < 0
    · have : r / 9223372036854775808 = -1 := by omega
      rw [if_pos h, this, HA.out]
      exact IntWalk.wrap64_in _ (by omega)
    · have : r / 9223372036854775808 = 0 := by omega
      rw [if_neg h, this, and_none, Int.add_zero]
      exact IntWalk.wrap64_in _ (by omega)
  rw [key]
  go_ret
  exact ⟨rfl, 0, rfl⟩

theorem Floor_case (t e p : Int) (h1 : 1 ≤ e) (hp : gPast t e = p) : gFloor t e = if t < -9223372036854775808 + p then t + (e - p) else t - p := by
  unfold gFloor
  rw [if_neg (by omega), hp]

set_option maxHeartbeats 400000 in
theorem Floor_any (t e : Int) (ht : I64 t) (he : I64 e) (w : World) :
    Calls Tryz.prog 102 #[.int .i64 t, .int .i64 e] w fun x w' => x = .returned (.int .i64 (gFloor t e)) ∧ ∃ q, w' = w.drewN q := by
  by_cases h1 : e < 1
  · have hf : gFloor t e = t := by unfold gFloor; rw [if_pos h1]
    rw [hf]
    go_enter Tryz.func102, Tryz.ntmps102
    go_wp2
    go_ret
    exact ⟨rfl, 0, rfl⟩
  · have h2 : 1 ≤ e := by omega
    have hf := Hid.of (Floor_case t e _ h2 rfl)
    have HE := Hid.of he
    obtain ⟨p0, p1⟩ := gPast_bounds t h2
    have e9 : e ≤ 9223372036854775807 := he.2
    have t0 : -9223372036854775808 ≤ t := ht.1
    have t9 : t ≤ 9223372036854775807 := ht.2
    go_enter Tryz.func102, Tryz.ntmps102
    go_wp2_with fail
    refine (rest_any t e HE.out h2 _).mono ?_
    rintro x w1 ⟨rfl, q, rfl⟩
    generalize gPast t e = p at *
    by_cases g : t < -9223372036854775808 + p
    · go_wp2
      go_ret
      rw [hf.out, if_pos g]
      exact ⟨rfl, q, rfl⟩
    · go_wp2
      go_ret
      rw [hf.out, if_neg (by omega)]
      exact ⟨rfl, q, rfl⟩

set_option maxHeartbeats 400000 in
theorem Back_any (now keep e : Int) (hn : I64 now) (hk : I64 keep) (he : I64 e) (w : World) :
    Calls Tryz.prog 109 #[.int .i64 now, .int .i64 keep, .int .i64 e] w fun x w' => x = .returned (.int .i64 (gBack now keep e)) ∧ ∃ q, w' = w.drewN q := by
  have HE := Hid.of he
  by_cases h : now < 0 ∨ keep < 0 ∨ e < 1
  · have hg : gBack now keep e = 0 := by unfold gBack; rw [if_pos h]
    rw [hg]
    have h' : now < 0 ∨ (¬ now < 0 ∧ keep < 0) ∨ (¬ now < 0 ∧ ¬ keep < 0 ∧ e < 1) := by omega
    clear h hg
    rcases h' with h1 | ⟨h1, h2⟩ | ⟨h1, h2, h3⟩
    all_goals
      go_enter Tryz.func109, Tryz.ntmps109
      go_wp2
      go_ret
      exact ⟨rfl, 0, rfl⟩
  · have n0 : ¬ now < 0 := fun c => h (.inl c)
    have k0 : ¬ keep < 0 := fun c => h (.inr (.inl c))
    have e0 : ¬ e < 1 := fun c => h (.inr (.inr c))
    have n9 : now ≤ 9223372036854775807 := hn.2
    have k9 : keep ≤ 9223372036854775807 := hk.2
    have hg : gBack now keep e = max (gFloor (now - keep) e) 0 := by unfold gBack; rw [if_neg h]
    have hd : I64 (now - keep) := by unfold I64; omega
    have HG := Hid.of hg
    have HD := Hid.of hd
    clear h hg hd
    go_enter Tryz.func109, Tryz.ntmps109
    go_wp2_with fail
    refine (Floor_any (now - keep) e HD.out HE.out _).mono ?_
    rintro x w1 ⟨rfl, q, rfl⟩
    generalize gFloor (now - keep) e = f at *
    go_wp2
    all_goals
      go_ret
      rw [HG.out]
      refine ⟨?_, q, rfl⟩
      simp
      omega

end Go.Proofs.YtdchjcidfaencaaGreat
