/-
  The marks of a Book's lists of texts (package sedimentbook): name.
-/
import Derived.Test.YtopilmancehbiaaBY
namespace Go.Proofs.Ytopilmancehbiaa
open Go.RowKit Go.Lib

/-- The bytes of a mark: of the list i, at the place k. -/
def tbytes (i k : Nat) : List UInt8 := [109, UInt8.ofNat (65 + i % 26), UInt8.ofNat (65 + i / 26 % 26), UInt8.ofNat (48 + k % 10), UInt8.ofNat (48 + k / 10 % 10), UInt8.ofNat (48 + k / 100 % 10)]

def tname (i k : Nat) : ByteArray := ⟨(tbytes i k).toArray⟩

/-- The same as numbers. -/
def tnums (i k : Nat) : Array Value := #[.int .u8 109, .int .u8 (65 + (i : Int) % 26), .int .u8 (65 + (i : Int) / 26 % 26), .int .u8 (48 + (k : Int) % 10), .int .u8 (48 + (k : Int) / 10 % 10), .int .u8 (48 + (k : Int) / 100 % 10)]

theorem tnums_at (i k j : Nat) (h : j < 6) : (tnums i k)[j]? = some (.int .u8 (((tbytes i k)[j]'(by simpa [tbytes] using h)).toNat : Int)) := by
  match j, h with
  | 0, _ => rfl
  | 1, _ => simp [tnums, tbytes]; omega
  | 2, _ => simp [tnums, tbytes]; omega
  | 3, _ => simp [tnums, tbytes]; omega
  | 4, _ => simp [tnums, tbytes]; omega
  | 5, _ => simp [tnums, tbytes]; omega

theorem tname_blk (i k : Nat) (w : World) : ByteBlk (w.alloc (.cells (tnums i k) 5)) w.heap.size (tbytes i k) := by
  refine ⟨_, _, Go.heap_alloc_new w _, fun j hj => ?_, fun j hj => ?_⟩
  · exact tnums_at i k j (by simpa [tbytes] using hj)
  · simp

set_option maxRecDepth 20000 in
set_option maxHeartbeats 800000 in
theorem name_any (i k : Nat) (hi : i ≤ 1000) (hk : k ≤ 200000000) (w : World) : Calls Try.prog 93 #[.int .i64 i, .int .i64 k] w fun e w' => e = .returned (.string (tname i k)) ∧ Below w.heap.size w w' := by
  have hback := text_of_bytes (tname_blk i k w) 6 6 (by simp [tbytes])
  have i0 : (0 : Int) ≤ (i : Int) := Int.natCast_nonneg _
  have k0 : (0 : Int) ≤ (k : Int) := Int.natCast_nonneg _
  have i9 : (i : Int) ≤ 1000 := by omega
  have k9 : (k : Int) ≤ 200000000 := by omega
  unfold tnums at hback
  clear hi hk
  go_enter Try.func93, Try.ntmps93
  go_wp2
  go_ret
  exact ⟨rfl, (Below.refl _ _).alloc (Nat.le_refl _) _⟩

end Go.Proofs.Ytopilmancehbiaa
