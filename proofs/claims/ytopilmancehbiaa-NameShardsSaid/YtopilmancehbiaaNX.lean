/-
  What statement NameShards answers: true, for every input.
-/
import Derived.Test.YtopilmancehbiaaNA
namespace Go.Proofs.Ytopilmancehbiaa
open Go.RowKit Go.Lib

theorem nShard_one (s : ByteArray) : nShard s 1 = 0 := by
  unfold nShard
  rw [if_neg (by omega)]
  exact Int.emod_one _

set_option maxRecDepth 20000 in
set_option maxHeartbeats 800000 in
theorem nameShards_main (s : ByteArray) (n : Int) (w : World) :
    Calls Try.prog 4 #[.string s, .int .i64 n] w fun e w' => e = .returned (.bool true) ∧ Below w.heap.size w w' := by
  by_cases hz : 300 < s.size
  · go_enter Try.func4, Try.ntmps4
    go_wp2_with fail
    refine (nameAlive_any _).mono ?_
    rintro x w1 ⟨rfl, b1⟩
    go_wp2
    go_ret
    exact ⟨rfl, b1⟩
  · have hs : s.size ≤ maxLen := by unfold maxLen; omega
    have HS := Hid.of hs
    clear hs
    by_cases hn : n < 1
    · have e0 : nShard s n = 0 := by unfold nShard; rw [if_pos hn]
      have E0 := Hid.of e0
      clear e0
      go_enter Try.func4, Try.ntmps4
      go_wp2_with fail
      refine (shard_any s HS.out n _).mono ?_
      rintro x w1 ⟨rfl, q1, rfl⟩
      rw [E0.out]
      go_wp2_with fail
      refine (nameAlive_any _).mono ?_
      rintro x w2 ⟨rfl, b2⟩
      have B2 := Hid.of b2
      clear b2
      go_wp2_with fail
      refine (shard_any s HS.out 1 _).mono ?_
      rintro x w3 ⟨rfl, q3, rfl⟩
      rw [nShard_one]
      go_wp2
      go_ret
      have x1 := below_drewN (Below.refl w.heap.size w) q1
      exact ⟨rfl, below_drewN (x1.trans B2.out) q3⟩
    · obtain ⟨h0, h9⟩ := nShard_in s n (by omega)
      obtain ⟨k, hk⟩ : ∃ k, nShard s n = k := ⟨_, rfl⟩
      rw [hk] at h0 h9
      have HK := Hid.of hk
      clear hk
      go_enter Try.func4, Try.ntmps4
      go_wp2_with fail
      refine (shard_any s HS.out n _).mono ?_
      rintro x w1 ⟨rfl, q1, rfl⟩
      rw [HK.out]
      go_wp2_with fail
      refine (nameAlive_any _).mono ?_
      rintro x w2 ⟨rfl, b2⟩
      have B2 := Hid.of b2
      clear b2
      go_wp2_with fail
      refine (shard_any s HS.out 1 _).mono ?_
      rintro x w3 ⟨rfl, q3, rfl⟩
      rw [nShard_one]
      go_wp2
      go_ret
      have x1 := below_drewN (Below.refl w.heap.size w) q1
      exact ⟨rfl, below_drewN (x1.trans B2.out) q3⟩

end Go.Proofs.Ytopilmancehbiaa
