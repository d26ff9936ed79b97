/-
  What the document's own function Sum answers, and what a Sum of package crc does: Add, Value, Of.
-/
import Derived.Test.YtiiaajejlckklaaCL
namespace Go.Proofs.Ytiiaajejlckklaa
open Go.RowKit Go.Lib

theorem xor_ones {y : Nat} (h : y < 4294967296) : y ^^^ 4294967295 = 4294967295 - y := by
  have e := BitVec.xor_allOnes (x := BitVec.ofNat 32 y)
  have e2 := congrArg BitVec.toNat e
  rw [BitVec.toNat_xor, BitVec.toNat_not, BitVec.toNat_allOnes, BitVec.toNat_ofNat, Nat.mod_eq_of_lt (by omega)] at e2
  exact e2

/-- A sum that stood at v, taken on over l. -/
def crcOn (v : Nat) (l : List UInt8) : Nat := crcRun (v ^^^ 4294967295) l ^^^ 4294967295

theorem crcOn_zero (l : List UInt8) : crcOn 0 l = crcOf l := by
  unfold crcOn crcOf
  rw [Nat.zero_xor]

theorem ones_lt {v : Nat} (h : v < 4294967296) : v ^^^ 4294967295 < 4294967296 := Nat.xor_lt_two_pow (n := 32) h (by decide)

theorem crcOn_lt {v : Nat} (h : v < 4294967296) (l : List UInt8) : crcOn v l < 4294967296 :=
  ones_lt (crcRun_lt (ones_lt h) l)

theorem crcOn_append (v : Nat) (l r : List UInt8) : crcOn (crcOn v l) r = crcOn v (l ++ r) := by
  unfold crcOn
  rw [Nat.xor_assoc, Nat.xor_self, Nat.xor_zero, crcRun_append]

theorem crcOn_nil (v : Nat) : crcOn v [] = v := by
  unfold crcOn
  rw [crcRun_nil, Nat.xor_assoc, Nat.xor_self, Nat.xor_zero]

/-- The bytes of texts, one behind the other. -/
def texts (ss : List ByteArray) : List UInt8 := (ss.map fun s => s.data.toList).flatten

theorem texts_take (ss : List ByteArray) (j : Nat) (h : j < ss.length) : texts (ss.take (j + 1)) = texts (ss.take j) ++ (ss.getD j ByteArray.empty).data.toList := by
  unfold texts
  have e : ss.getD j ByteArray.empty = ss[j] := by simp [List.getD, h]
  rw [List.take_succ_eq_append_getElem h, List.map_append, List.flatten_append, e]
  simp

theorem flip_ones (v : Nat) (h : v < 4294967296) : bits .xor .u32 IntKind.u32.max (v : Int) = ((v ^^^ 4294967295 : Nat) : Int) := by
  have := u32_xor_nat 4294967295 v (by decide) h
  rw [Nat.xor_comm] at this
  exact this

set_option maxHeartbeats 400000 in
theorem Value_nil (w : World) : Calls Try.prog 15 #[.pointer none] w fun e w' => e = .returned (.int .u32 0) ∧ w = w' := by
  go_enter Try.func15, Try.ntmps15
  go_wp2
  go_ret
  exact ⟨rfl, rfl⟩

set_option maxHeartbeats 400000 in
theorem Value_any (p v : Nat) (w : World) (h : w.cell? ⟨p, 0, none⟩ = some (.int .u32 v)) : Calls Try.prog 15 #[.pointer (some ⟨p, 0, none⟩)] w fun e w' => e = .returned (.int .u32 v) ∧ w = w' := by
  go_enter Try.func15, Try.ntmps15
  go_wp2
  go_ret
  exact ⟨rfl, rfl⟩

set_option maxHeartbeats 400000 in
theorem Add_nil (v : Value) (w : World) : Calls Try.prog 9 #[.pointer none, v] w fun e w' => e = .returned (.tuple #[]) ∧ w = w' := by
  go_enter Try.func9, Try.ntmps9
  go_wp2
  exact bodyPost_ret (results_none rfl _ _ _) rfl ⟨rfl, rfl⟩

set_option maxHeartbeats 400000 in
theorem Add_any (p v : Nat) (hv : v < 4294967296) (sv : Value) (ss : List ByteArray) (w : World) (h : w.cell? ⟨p, 0, none⟩ = some (.int .u32 v)) (hf : w.frozen? ⟨p, 0, none⟩ = false)
    (hs : StrRow w sv ss) (hn : ss.length ≤ 1000000000) (hm : Hid (∀ j, j < ss.length → (ss.getD j ByteArray.empty).size ≤ maxLen)) :
    Calls Try.prog 9 #[.pointer (some ⟨p, 0, none⟩), sv] w fun e w' => e = .returned (.tuple #[]) ∧ Stored p 0 (.int .u32 (crcOn v (texts ss) : Nat)) w w' := by
  obtain ⟨a, c, rfl, hs⟩ := hs
  have HS := Hid.of hs
  clear hs
  have hfl := flip_ones v hv
  go_enter Try.func9, Try.ntmps9
  go_wp2
  clear hfl
  go_loop [4, 16] (fun xv i => ∃ (j y : Nat), j ≤ ss.length ∧ i = .int .i64 j ∧ xv = .int .u32 y ∧ y < 4294967296 ∧ Hid (crcRun (v ^^^ 4294967295) (texts (ss.take j)) = y)) (fun _ i => ss.length - (intOf i).toNat)
  case atStart => exact ⟨0, _, Nat.zero_le _, rfl, rfl, ones_lt hv, Hid.of rfl⟩
  case round =>
    obtain ⟨j, y, hj, rfl, rfl, hy, hr⟩ := hrel
    by_cases hlt : j < ss.length
    · have hne : ss ≠ [] := by intro e; subst e; simp at hlt
      obtain ⟨vb, vo, rfl, hvb, hcs⟩ := (HS.out).resolve_left hne
      obtain ⟨s, hss⟩ : ∃ s, ss.getD j ByteArray.empty = s := ⟨_, rfl⟩
      have hcell : w.cell? ⟨vb, vo + j, none⟩ = some (.string s) := by rw [hcs j hlt, hss]
      have hsz := Hid.of (hm.out j hlt)
      rw [hss] at hsz
      have HT := Hid.of (texts_take ss j hlt)
      rw [hss] at HT
      clear hcs hne hss
      go_wp2_with (go_at_call 20; refine (pass_any y hy s hsz.out _).mono ?_; rintro e w' ⟨rfl, rfl⟩)
      go_round
      case rel => exact ⟨j + 1, _, by omega, by go_num, rfl, crcRun_lt hy _, Hid.of (by rw [HT.out, crcRun_append, hr.out])⟩
      case measure => simp [intOf]; omega
    · have hjl : j = ss.length := by omega
      subst hjl
      have hfin := hr.out
      rw [List.take_length] at hfin
      have HF := Hid.of hfin
      clear hfin
      have hfl := flip_ones y hy
      go_wp2
      go_end0
      refine ⟨rfl, ?_⟩
      unfold crcOn
      rw [HF.out]
      rfl

end Go.Proofs.Ytiiaajejlckklaa
