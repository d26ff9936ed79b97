/-
  What alive answers: true. (What package name's functions answer, said by the growth of memory alone.)
-/
import Derived.Test.YtopilmancehbiaaNV
namespace Go.Proofs.Ytopilmancehbiaa
open Go.RowKit Go.Lib

theorem Hash_named {s : ByteArray} {r : Nat} (hr : nHash s.data.toList = r) (hs0 : s.size ≤ 300) (w : World) : Calls Try.prog 11 #[.string s] w fun e w' => e = .returned (.int .u32 (r : Nat)) ∧ ∃ q, w' = w.drewN q := by
  have hs : s.size ≤ maxLen := by unfold maxLen; omega
  rw [← hr]; exact hash_any s hs w

theorem Shard_named {s : ByteArray} {n r : Int} (hr : nShard s n = r) (hs0 : s.size ≤ 300) (w : World) : Calls Try.prog 13 #[.string s, .int .i64 n] w fun e w' => e = .returned (.int .i64 r) ∧ ∃ q, w' = w.drewN q := by
  have hs : s.size ≤ maxLen := by unfold maxLen; omega
  rw [← hr]; exact shard_any s hs n w

theorem Less_named {a b : NRec} {r : Bool} (hr : nLess a b = r) (w : World) : Calls Try.prog 21 #[nrv a, nrv b] w fun e w' => e = .returned (.bool r) ∧ Below w.heap.size w w' := by
  rw [← hr]; exact less_any a b w

/-- Valid of a new slice of texts. -/
theorem Valid_made (ss : List ByteArray) (n : Nat) (hl : ss.length = n) (h0 : (ss.all fun s => decide (s.size ≤ 300)) = true) (hn : ss.length ≤ 1000000) {r : Bool} (hr : ss.all nOk = r) (w1 w2 : World) (cs : Array Value) (b : Nat) (hc : cs = (ss.map Value.string).toArray) (hw : w2 = w1.alloc (.cells cs 9)) (hb : b = w1.heap.size) :
    Calls Try.prog 19 #[.slice (some ⟨b, 0, none⟩) n n] w2 fun e w' => e = .returned (.bool r) ∧ ∃ q, w' = w2.drewN q := by
  subst hw
  have h : ∀ s ∈ ss, s.size ≤ maxLen := fun s hs => by
    have := of_decide_eq_true (List.all_eq_true.1 h0 s hs)
    unfold maxLen
    omega
  refine (valid_any _ ss _ (StrRow.made w1 _ ss _ hc _ n n hb hl.symm).cells hn h).mono ?_
  rintro e w' ⟨rfl, h2⟩
  exact ⟨by rw [hr], h2⟩

set_option maxRecDepth 20000 in
set_option maxHeartbeats 800000 in
theorem nameAlive_any (w : World) : Calls Try.prog 9 #[] w fun e w' => e = .returned (.bool true) ∧ Below w.heap.size w w' := by
  go_enter Try.func9, Try.ntmps9
  go_wp2_with fail
  refine (Hash_named (r := 3826002220) (by decide +kernel) (by decide) _).mono ?_
  rintro x w1 ⟨rfl, q1, rfl⟩
  go_wp2_with fail
  refine (Valid_made [⟨#[99, 112, 117, 46, 48]⟩, ⟨#[120]⟩] 2 rfl rfl (by decide) (r := true) (by decide +kernel) _ _ _ _ rfl rfl (by simp)).mono ?_
  rintro x w1 ⟨rfl, q2, rfl⟩
  go_wp2_with fail
  refine (Valid_made [⟨#[65]⟩] 1 rfl rfl (by decide) (r := false) (by decide +kernel) _ _ _ _ rfl rfl (by simp)).mono ?_
  rintro x w1 ⟨rfl, q3, rfl⟩
  go_wp2_with fail
  refine (Shard_named (r := 5) (by decide +kernel) (by decide) _).mono ?_
  rintro x w1 ⟨rfl, q4, rfl⟩
  go_wp2_with fail
  refine (Less_named (a := ⟨⟨#[97]⟩, 0, 0, 0, 0, 0, 0⟩) (b := ⟨⟨#[98]⟩, 0, 0, 0, 0, 0, 0⟩) (r := true) (by decide +kernel) _).mono ?_
  rintro x w1 ⟨rfl, b1⟩
  have B1 := Hid.of b1
  clear b1
  go_wp2
  go_ret
  refine ⟨rfl, ?_⟩
  have x1 := below_drewN ((below_drewN (Below.refl w.heap.size w) q1).alloc (Nat.le_refl _) (.cells #[.string ⟨#[99, 112, 117, 46, 48]⟩, .string ⟨#[120]⟩] 9)) q2
  have x2 := below_drewN (x1.alloc x1.size (.cells #[.string ⟨#[65]⟩] 9)) (q3 + q4)
  exact x2.trans (B1.out.mono x2.size)

/-- What package name's functions answer, memory grown. -/
theorem hash_below (s : ByteArray) (hs : s.size ≤ 1000000) (w : World) : Calls Try.prog 11 #[.string s] w fun e w' => e = .returned (.int .u32 (nHash s.data.toList : Nat)) ∧ Below w.heap.size w w' :=
  (hash_any s (by unfold maxLen; omega) w).mono fun _ _ ⟨h, q, hq⟩ => ⟨h, by rw [hq]; exact below_drewN (Below.refl _ _) q⟩

theorem shard_below (s : ByteArray) (hs : s.size ≤ 1000000) (n : Int) (w : World) : Calls Try.prog 13 #[.string s, .int .i64 n] w fun e w' => e = .returned (.int .i64 (nShard s n)) ∧ Below w.heap.size w w' :=
  (shard_any s (by unfold maxLen; omega) n w).mono fun _ _ ⟨h, q, hq⟩ => ⟨h, by rw [hq]; exact below_drewN (Below.refl _ _) q⟩

theorem valid_below (v : Value) (ss : List ByteArray) (w : World) (hv : CellRow w v ss.length (ss.map Value.string)) (hn : ss.length ≤ 1000) (hs : ∀ s ∈ ss, s.size ≤ 1000000) : Calls Try.prog 19 #[v] w fun e w' => e = .returned (.bool (ss.all nOk)) ∧ Below w.heap.size w w' :=
  (valid_any v ss w hv (by omega) (fun s h => by have := hs s h; unfold maxLen; omega)).mono fun _ _ ⟨h, q, hq⟩ => ⟨h, by rw [hq]; exact below_drewN (Below.refl _ _) q⟩

end Go.Proofs.Ytopilmancehbiaa
