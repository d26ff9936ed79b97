/-
  What function value of package pack answers: the number of at most eight bytes, the lowest first.
-/
import Derived.Test.YtfoffoiimlgoeaaC
namespace Go.Proofs.Ytfoffoiimlgoeaa
open Go.RowKit Go.Lib

/-- The number that bytes have, the lowest first. -/
def val : List UInt8 → Nat
  | [] => 0
  | b :: r => b.toNat + 256 * val r

theorem val_lt (l : List UInt8) : val l < 256 ^ l.length := by
  induction l with
  | nil => simp [val]
  | cons b r ih =>
    rw [val, List.length_cons, Nat.pow_succ]
    have := b.toNat_lt
    omega

theorem val_drop (l : List UInt8) (j : Nat) (h : j < l.length) : val (l.drop j) = (l[j]).toNat + 256 * val (l.drop (j + 1)) := by
  rw [List.drop_eq_getElem_cons h, val]

theorem val_le (k x : Nat) (h : x < 256 ^ k) : val (le k x) = x := by
  induction k generalizing x with
  | zero => simp at h; simp [le, val, h]
  | succ k ih =>
    rw [le, val, ih (x / 256) (by rw [Nat.pow_succ] at h; omega)]
    simp
    omega

set_option maxHeartbeats 400000 in
theorem value_any (s : ByteArray) (w : World) (hs : s.size ≤ 8) :
    Calls Try.prog 48 #[.string s] w fun e w' => e = .returned (.int .u64 (val s.data.toList)) ∧ w = w' := by
  go_enter Try.func48, Try.ntmps48
  go_wp2
  go_loop [3, 4] (fun v i => ∃ (j a : Nat), j ≤ s.size ∧ i = .int .i64 ((j : Int) - 1) ∧ v = .int .u64 a ∧ Hid (a = val (s.data.toList.drop j))) (fun _ i => (intOf i + 1).toNat)
  case atStart => exact ⟨s.size, 0, Nat.le_refl _, rfl, rfl, Hid.of (by rw [List.drop_eq_nil_of_le (by rw [byte_len]; exact Nat.le_refl _)]; rfl)⟩
  case round =>
    obtain ⟨j, a, hj, rfl, rfl, ha⟩ := hrel
    cases j with
    | zero =>
      go_wp2
      go_ret
      rw [ha.out]
      exact ⟨rfl, rfl⟩
    | succ m =>
      have hm : m < s.size := by omega
      have ei : ((m + 1 : Nat) : Int) - 1 = (m : Int) := by omega
      rw [ei]
      go_wp2
      go_round
      case rel =>
        refine ⟨m, val (s.data.toList.drop m), by omega, rfl, ?_, Hid.of rfl⟩
        rw [val_drop _ _ (by rw [byte_len]; exact hm), ← ha.out]
        have hlt : a * 256 < 18446744073709551616 := by
          have h1 := val_lt (s.data.toList.drop (m + 1))
          rw [← ha.out, List.length_drop, byte_len] at h1
          have h2 : (256 : Nat) ^ (s.size - (m + 1)) ≤ 256 ^ 7 := Nat.pow_le_pow_right (by decide) (by omega)
          omega
        have hb : (s[m]'hm).toNat < 256 := (s[m]'hm).toNat_lt
        have hg : s.data.toList[m]'(by rw [byte_len]; exact hm) = s[m]'hm := rfl
        rw [hg]
        have e1 : IntKind.u64.wrap ((a : Int) * 256) = ((a * 256 : Nat) : Int) := by
          show ((a : Int) * 256) % 18446744073709551616 = _
          omega
        have e2 : IntKind.u64.wrap (((s[m]'hm).toNat : Nat) : Int) = (((s[m]'hm).toNat : Nat) : Int) := by
          show (((s[m]'hm).toNat : Nat) : Int) % 18446744073709551616 = _
          omega
        rw [e1, e2, u64_or_nat _ _ hlt (by omega)]
        have h3 := Nat.two_pow_add_eq_or_of_lt (i := 8) (b := (s[m]'hm).toNat) (by omega) a
        have h4 : a * 256 ||| (s[m]'hm).toNat = (s[m]'hm).toNat + 256 * a := by
          rw [Nat.mul_comm a 256]
          have : (2 : Nat) ^ 8 = 256 := by decide
          rw [this] at h3
          omega
        rw [h4]
      case measure => simp [intOf]

theorem value_nil (w : World) : Calls Try.prog 48 #[.string ⟨#[]⟩] w fun e w' => e = .returned (.int .u64 0) ∧ w = w' := value_any ⟨#[]⟩ w (by decide)

end Go.Proofs.Ytfoffoiimlgoeaa
