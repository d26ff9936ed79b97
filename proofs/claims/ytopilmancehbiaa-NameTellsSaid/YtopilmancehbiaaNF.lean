/-
  What package name's own Hash, Shard, Less, mayBe, isName and Valid answer.
-/
import Derived.Test.YtopilmancehbiaaNR
import Derived.Test.YtopilmancehbiaaBB
namespace Go.Proofs.Ytopilmancehbiaa
open Go.RowKit Go.Lib

set_option maxRecDepth 20000 in
set_option maxHeartbeats 400000 in
theorem hash_any (s : ByteArray) (hs : s.size ≤ maxLen) (w : World) :
    Calls Try.prog 11 #[.string s] w fun e w' => e = .returned (.int .u32 (nHash s.data.toList : Nat)) ∧ ∃ q, w' = w.drewN q := by
  unfold maxLen at hs
  go_enter Try.func11, Try.ntmps11
  go_wp2
  go_loop [3, 4, 7] (fun xv _ i => ∃ (k y : Nat), k ≤ s.size ∧ i = .int .i64 k ∧ xv = .int .u32 y ∧ y < 4294967296 ∧ Hid (nHash (s.data.toList.take k) = y)) (fun _ _ i => s.size - (intOf i).toNat)
  case atStart => exact ⟨0, 2166136261, Nat.zero_le _, rfl, rfl, by omega, Hid.of rfl⟩
  case round =>
    obtain ⟨k, y, hk, rfl, rfl, hy, hr⟩ := hrel
    by_cases hlt : k < s.size
    · have HD := Hid.of (nHash_take s.data.toList k (by rw [byte_len]; exact hlt))
      go_wp2
      rw [hash_in y hy, hash_mul]
      refine ⟨⟨k + 1, (y ^^^ s[k].toNat) * 16777619 % 4294967296, by omega, by go_num, rfl, Nat.mod_lt _ (by omega), Hid.of ?_⟩, by simp [intOf]; omega⟩
      rw [HD.out, hr.out]
      rfl
    · go_wp2
      go_ret
      have : k = s.size := by omega
      subst this
      have h := hr.out
      rw [List.take_of_length_le (by rw [byte_len]; exact Nat.le_refl _)] at h
      rw [h]
      exact ⟨rfl, 0, rfl⟩

set_option maxRecDepth 20000 in
set_option maxHeartbeats 400000 in
theorem shard_any (s : ByteArray) (hs : s.size ≤ maxLen) (n : Int) (w : World) :
    Calls Try.prog 13 #[.string s, .int .i64 n] w fun e w' => e = .returned (.int .i64 (nShard s n)) ∧ ∃ q, w' = w.drewN q := by
  by_cases h : n < 1
  · have e0 : nShard s n = 0 := by unfold nShard; rw [if_pos h]
    rw [e0]
    go_enter Try.func13, Try.ntmps13
    go_wp2
    go_ret
    exact ⟨rfl, 0, rfl⟩
  · have e0 : nShard s n = (nHash s.data.toList : Int) % n := by
      unfold nShard
      rw [if_neg h]
    have HE := Hid.of e0
    have hl := nHash_lt s.data.toList
    have n0 : ¬ n = 0 := by omega
    clear e0
    go_enter Try.func13, Try.ntmps13
    go_wp2_with fail
    refine (hash_any s hs _).mono ?_
    rintro x w1 ⟨rfl, q, rfl⟩
    generalize hx : nHash s.data.toList = x at *
    have x0 : (0 : Int) ≤ (x : Int) := Int.natCast_nonneg _
    have x9 : (x : Int) < 4294967296 := by omega
    clear hx hl
    go_wp2
    go_ret
    rw [HE.out]
    exact ⟨rfl, q, rfl⟩

set_option maxRecDepth 20000 in
set_option maxHeartbeats 800000 in
theorem less_any (a b : NRec) (w : World) :
    Calls Try.prog 21 #[nrv a, nrv b] w fun e w' => e = .returned (.bool (nLess a b)) ∧ Below w.heap.size w w' := by
  obtain ⟨x, h1⟩ : ∃ x, Op.bytesLess a.n.toList b.n.toList = x := ⟨_, rfl⟩
  obtain ⟨y, h2⟩ : ∃ y, (a.n.toList == b.n.toList) = y := ⟨_, rfl⟩
  obtain ⟨z, h3⟩ : ∃ z, decide (a.t < b.t) = z := ⟨_, rfl⟩
  have h4 : x = true → y = false := by
    rintro rfl
    cases y with
    | false => rfl
    | true =>
      rw [beq_iff_eq] at h2
      rw [h2, less_irrefl] at h1
      cases h1
  rw [nLess_parts h1 h2 h3]
  obtain ⟨an, at_, ac, ahi, alo, amn, amx⟩ := a
  obtain ⟨bn, bt, bc, bhi, blo, bmn, bmx⟩ := b
  simp only at h1 h2 h3
  cases x <;> cases y <;> cases z
  all_goals first
    | (cases (h4 rfl); done)
    | (clear h4
       go_enter Try.func21, Try.ntmps21
       go_wp2
       go_ret
       exact ⟨rfl, ((Below.refl _ _).alloc (Nat.le_refl _) _).alloc (by simp) _⟩)

set_option maxRecDepth 20000 in
set_option maxHeartbeats 800000 in
theorem mayBe_any (c : Nat) (w : World) :
    Calls Try.prog 66 #[.int .u8 c] w fun e w' => e = .returned (.bool (decide (nByteP c))) ∧ w' = w := by
  have HT := Hid.of (fun h : nByteP c => decide_eq_true h)
  have HF := Hid.of (fun h : ¬ nByteP c => decide_eq_false h)
  go_enter Try.func66, Try.ntmps66
  go_wp2
  all_goals
    go_ret
    refine ⟨?_, rfl⟩
    first
      | (rw [HT.out (by unfold nByteP; omega)]; rfl)
      | (rw [HF.out (by unfold nByteP; omega)]; rfl)
      | (refine congrArg (fun b => Ending.returned (.bool b)) (Bool.eq_iff_iff.2 ?_)
         simp only [Bool.or_eq_true, decide_eq_true_eq, beq_iff_eq]
         unfold nByteP
         omega)

end Go.Proofs.Ytopilmancehbiaa
