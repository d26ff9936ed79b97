/-
  A bundle of texts: NR NF.
-/
import Derived.Deep.DeepCutAuto
import Derived.Test.YtbhcafginmkaaaaGreatT04
import Derived.Test.YtbhcafginmkaaaaGreatT03
namespace Go.Proofs.YtbhcafginmkaaaaGreat
open Go.RowKit Go.Lib

theorem hash_in (y : Nat) (h : y < 4294967296) (c : UInt8) : bits .xor .u32 (y : Int) ((c.toNat : Int) % 4294967296) = ((y ^^^ c.toNat : Nat) : Int) := by
  have hc := c.toNat_lt
  have e : ((c.toNat : Int) % 4294967296) = ((c.toNat : Nat) : Int) := by omega
  rw [e]
  exact u32_xor_nat y c.toNat h (by omega)

theorem hash_mul (z : Nat) : ((z : Int) * 16777619) % 4294967296 = ((z * 16777619 % 4294967296 : Nat) : Int) := by omega

set_option maxRecDepth 20000 in
set_option maxHeartbeats 400000 in
theorem refHash_any (s : ByteArray) (hs : s.size ≤ maxLen) (w : World) :
    Calls Tryz.prog 214 #[.string s] w fun e w' => e = .returned (.int .u32 (nHash s.data.toList : Nat)) ∧ ∃ q, w' = w.drewN q := by
  unfold maxLen at hs
  go_enter Tryz.func214, Tryz.ntmps214
  go_wp2
  go_loop [3, 4] (fun xv i => ∃ (k y : Nat), k ≤ s.size ∧ i = .int .i64 k ∧ xv = .int .u32 y ∧ y < 4294967296 ∧ Hid (nHash (s.data.toList.take k) = y)) (fun _ i => s.size - (intOf i).toNat)
  case atStart => exact ⟨0, 2166136261, Nat.zero_le _, rfl, rfl, by omega, Hid.of rfl⟩
  case round =>
    obtain ⟨k, y, hk, rfl, rfl, hy, hr⟩ := hrel
    by_cases hlt : k < s.size
    · have HD := Hid.of (nHash_take s.data.toList k (by rw [byte_len]; exact hlt))
      go_wp2
      rw [hash_in y hy, hash_mul]
      refine ⟨⟨k + 1, (y ^^^ s[k].toNat) * 16777619 % 4294967296, by omega, by go_num, rfl, Nat.mod_lt _ (by omega), Hid.of ?_⟩, by simp [intOf]; omega⟩
      rw [HD.out, hr.out]
      rfl
    · go_wp2
      go_ret
      have : k = s.size := by omega
      subst this
      have h := hr.out
      rw [List.take_of_length_le (by rw [byte_len]; exact Nat.le_refl _)] at h
      rw [h]
      exact ⟨rfl, 0, rfl⟩

/-- A name's shard. -/
def nShard (s : ByteArray) (n : Int) : Int := if n < 1 then 0 else (nHash s.data.toList : Int) % n

theorem nShard_in (s : ByteArray) (n : Int) (h : 1 ≤ n) : 0 ≤ nShard s n ∧ nShard s n < n := by
  unfold nShard
  rw [if_neg (by omega)]
  exact ⟨Int.emod_nonneg _ (by omega), Int.emod_lt_of_pos _ (by omega)⟩

set_option maxRecDepth 20000 in
set_option maxHeartbeats 400000 in
theorem refShard_any (s : ByteArray) (hs : s.size ≤ maxLen) (n : Int) (w : World) :
    Calls Tryz.prog 112 #[.string s, .int .i64 n] w fun e w' => e = .returned (.int .i64 (nShard s n)) ∧ ∃ q, w' = w.drewN q := by
  by_cases h : n < 1
  · have e0 : nShard s n = 0 := by unfold nShard; rw [if_pos h]
    rw [e0]
    go_enter Tryz.func112, Tryz.ntmps112
    go_wp2
    go_ret
    exact ⟨rfl, 0, rfl⟩
  · have e0 : nShard s n = (nHash s.data.toList : Int) % n := by
      unfold nShard
      rw [if_neg h]
    have HE := Hid.of e0
    have hl := nHash_lt s.data.toList
    have n0 : ¬ n = 0 := by omega
    clear e0
    go_enter Tryz.func112, Tryz.ntmps112
    go_wp2_with fail
    refine (refHash_any s hs _).mono ?_
    rintro x w1 ⟨rfl, q, rfl⟩
    generalize hx : nHash s.data.toList = x at *
    have x0 : (0 : Int) ≤ (x : Int) := Int.natCast_nonneg _
    have x9 : (x : Int) < 4294967296 := by omega
    clear hx hl
    go_wp2
    go_ret
    rw [HE.out]
    exact ⟨rfl, q, rfl⟩

/-- A byte that a name may have. -/
def nByteP (c : Nat) : Prop := 97 ≤ c ∧ c ≤ 122 ∨ 48 ≤ c ∧ c ≤ 57 ∨ c = 46 ∨ c = 95 ∨ c = 45

instance (c : Nat) : Decidable (nByteP c) := by unfold nByteP; infer_instance

def nByte (c : UInt8) : Bool := decide (nByteP c.toNat)

/-- It may be a name. -/
def nOk (s : ByteArray) : Bool := decide (1 ≤ s.size) && decide (s.size ≤ 15) && s.data.toList.all nByte

theorem nOk_size {s : ByteArray} (h : s.size < 1 ∨ 15 < s.size) : nOk s = false := by
  unfold nOk
  rcases h with h | h
  · rw [decide_eq_false (show ¬ 1 ≤ s.size by omega)]; rfl
  · rw [decide_eq_false (show ¬ s.size ≤ 15 by omega), Bool.and_false, Bool.false_and]

theorem nOk_all {s : ByteArray} (h1 : 1 ≤ s.size) (h2 : s.size ≤ 15) : nOk s = s.data.toList.all nByte := by
  unfold nOk
  rw [decide_eq_true h1, decide_eq_true h2]
  rfl

theorem all_false {s : ByteArray} {k : Nat} (hk : k < s.size) (hp : ¬ nByteP s[k].toNat) : s.data.toList.all nByte = false := by
  have h : nByte s[k] = false := decide_eq_false hp
  rw [List.all_eq_false]
  exact ⟨s[k], by have : s.data.toList[k]'(by rw [byte_len]; exact hk) ∈ s.data.toList := List.getElem_mem _; exact this, by rw [h]; simp⟩

theorem all_take {s : ByteArray} {k : Nat} (hk : k < s.size) (hp : nByteP s[k].toNat) (ht : (s.data.toList.take k).all nByte = true) : (s.data.toList.take (k + 1)).all nByte = true := by
  have h : nByte s[k] = true := decide_eq_true hp
  rw [take_snoc s k hk, List.all_append, ht]
  simp [h]

set_option maxRecDepth 20000 in
set_option maxHeartbeats 1600000 in
theorem refName_any (s : ByteArray) (hs : s.size ≤ maxLen) (w : World) :
    Calls Tryz.prog 164 #[.string s] w fun e w' => e = .returned (.bool (nOk s)) ∧ ∃ q, w' = w.drewN q := by
  unfold maxLen at hs
  by_cases hz : s.size < 1 ∨ 15 < s.size
  · rw [nOk_size hz]
    have hz' : s.size < 1 ∨ (¬ s.size < 1 ∧ 15 < s.size) := by omega
    clear hz
    rcases hz' with h1 | ⟨h1, h2⟩
    all_goals
      go_enter Tryz.func164, Tryz.ntmps164
      go_wp2
      go_ret
      exact ⟨rfl, 0, rfl⟩
  · have h1 : ¬ s.size < 1 := fun c => hz (.inl c)
    have h2 : ¬ 15 < s.size := fun c => hz (.inr c)
    have e0 := Hid.of (nOk_all (s := s) (by omega) (by omega))
    clear hz
    go_enter Tryz.func164, Tryz.ntmps164
    go_wp2
    go_loopw [3] (fun i wr => ∃ k : Nat, k ≤ s.size ∧ i = .int .i64 k ∧ Hid ((s.data.toList.take k).all nByte = true) ∧ ∃ q, wr = w.drewN q) (fun i _ => s.size - (intOf i).toNat)
    case atStart => exact ⟨0, Nat.zero_le _, rfl, Hid.of rfl, 0, rfl⟩
    case round =>
      obtain ⟨k, hk, rfl, HA, q, rfl⟩ := hrel
      by_cases hlt : k < s.size
      · have HF := Hid.of (fun h => all_false hlt h)
        have HT := Hid.of (fun h => all_take hlt h HA.out)
        have hc9 := s[k].toNat_lt
        go_upto_region 7 with (fail)
        generalize s[k].toNat = c at *
        go_wp2
        all_goals first
          | (go_ret; rw [e0.out, HF.out (by unfold nByteP; first | omega | (simp at *; omega))]; exact ⟨rfl, q, rfl⟩)
          | (exact ⟨⟨k + 1, by omega, by go_num, Hid.of (HT.out (by unfold nByteP; first | omega | (simp at *; omega))), q, rfl⟩, by simp [intOf]; omega⟩)
      · go_wp2
        go_ret
        have : k = s.size := by omega
        subst this
        have h := HA.out
        rw [List.take_of_length_le (by rw [byte_len]; exact Nat.le_refl _)] at h
        rw [e0.out, h]
        exact ⟨rfl, q, rfl⟩

end Go.Proofs.YtbhcafginmkaaaaGreat

namespace Go.Proofs.YtbhcafginmkaaaaGreat
open Go.RowKit Go.Lib

set_option maxRecDepth 20000 in
set_option maxHeartbeats 400000 in
theorem hash_any (s : ByteArray) (hs : s.size ≤ maxLen) (w : World) :
    Calls Tryz.prog 213 #[.string s] w fun e w' => e = .returned (.int .u32 (nHash s.data.toList : Nat)) ∧ ∃ q, w' = w.drewN q := by
  unfold maxLen at hs
  go_enter Tryz.func213, Tryz.ntmps213
  go_wp2
  go_loop [3, 4, 7] (fun xv _ i => ∃ (k y : Nat), k ≤ s.size ∧ i = .int .i64 k ∧ xv = .int .u32 y ∧ y < 4294967296 ∧ Hid (nHash (s.data.toList.take k) = y)) (fun _ _ i => s.size - (intOf i).toNat)
  case atStart => exact ⟨0, 2166136261, Nat.zero_le _, rfl, rfl, by omega, Hid.of rfl⟩
  case round =>
    obtain ⟨k, y, hk, rfl, rfl, hy, hr⟩ := hrel
    by_cases hlt : k < s.size
    · have HD := Hid.of (nHash_take s.data.toList k (by rw [byte_len]; exact hlt))
      go_wp2
      rw [hash_in y hy, hash_mul]
      refine ⟨⟨k + 1, (y ^^^ s[k].toNat) * 16777619 % 4294967296, by omega, by go_num, rfl, Nat.mod_lt _ (by omega), Hid.of ?_⟩, by simp [intOf]; omega⟩
      rw [HD.out, hr.out]
      rfl
    · go_wp2
      go_ret
      have : k = s.size := by omega
      subst this
      have h := hr.out
      rw [List.take_of_length_le (by rw [byte_len]; exact Nat.le_refl _)] at h
      rw [h]
      exact ⟨rfl, 0, rfl⟩

set_option maxRecDepth 20000 in
set_option maxHeartbeats 400000 in
theorem shard_any (s : ByteArray) (hs : s.size ≤ maxLen) (n : Int) (w : World) :
    Calls Tryz.prog 111 #[.string s, .int .i64 n] w fun e w' => e = .returned (.int .i64 (nShard s n)) ∧ ∃ q, w' = w.drewN q := by
  by_cases h : n < 1
  · have e0 : nShard s n = 0 := by unfold nShard; rw [if_pos h]
    rw [e0]
    go_enter Tryz.func111, Tryz.ntmps111
    go_wp2
    go_ret
    exact ⟨rfl, 0, rfl⟩
  · have e0 : nShard s n = (nHash s.data.toList : Int) % n := by
      unfold nShard
      rw [if_neg h]
    have HE := Hid.of e0
    have hl := nHash_lt s.data.toList
    have n0 : ¬ n = 0 := by omega
    clear e0
    go_enter Tryz.func111, Tryz.ntmps111
    go_wp2_with fail
    refine (hash_any s hs _).mono ?_
    rintro x w1 ⟨rfl, q, rfl⟩
    generalize hx : nHash s.data.toList = x at *
    have x0 : (0 : Int) ≤ (x : Int) := Int.natCast_nonneg _
    have x9 : (x : Int) < 4294967296 := by omega
    clear hx hl
    go_wp2
    go_ret
    rw [HE.out]
    exact ⟨rfl, q, rfl⟩

set_option maxRecDepth 20000 in
set_option maxHeartbeats 800000 in
theorem mayBe_any (c : Nat) (w : World) :
    Calls Tryz.prog 286 #[.int .u8 c] w fun e w' => e = .returned (.bool (decide (nByteP c))) ∧ w' = w := by
  have HT := Hid.of (fun h : nByteP c => decide_eq_true h)
  have HF := Hid.of (fun h : ¬ nByteP c => decide_eq_false h)
  go_enter Tryz.func286, Tryz.ntmps286
  go_wp2
  all_goals
    go_ret
    refine ⟨?_, rfl⟩
    first
      | (rw [HT.out (by unfold nByteP; omega)]; rfl)
      | (rw [HF.out (by unfold nByteP; omega)]; rfl)
      | (refine congrArg (fun b => Ending.returned (.bool b)) (Bool.eq_iff_iff.2 ?_)
         simp only [Bool.or_eq_true, decide_eq_true_eq, beq_iff_eq]
         unfold nByteP
         omega)

end Go.Proofs.YtbhcafginmkaaaaGreat
