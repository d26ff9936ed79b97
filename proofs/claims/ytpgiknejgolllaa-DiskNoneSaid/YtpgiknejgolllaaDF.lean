/-
  What Fill answers: a block full of a byte.
-/
import Derived.Test.YtpgiknejgolllaaDM
import Derived.Test.YtpgiknejgolllaaBY
import Derived.Test.YtpgiknejgolllaaBT
import Derived.Laws.OwnMore
namespace Go.Proofs.Ytpgiknejgolllaa
open Go.RowKit Go.Lib

theorem ByteBlk.of_own {w : World} {B g n cap : Nat} {l : List UInt8} (h : w.ownsRow B 5 1 (.slice (some ⟨g, 0, none⟩) n cap) n (l.map fun b => .int .u8 (b.toNat : Int))) : ByteBlk w g l := by
  have hl : l.length = n := by have := h.1; simpa using this
  rcases h.2 with ⟨h', _⟩ | ⟨g', cap', cur, h', _, hg, _, _, _, htake⟩
  · cases h'
  · simp only [Value.slice.injEq, Option.some.injEq, Addr.mk.injEq, and_true, true_and] at h'
    obtain ⟨rfl, rfl⟩ := h'
    refine ⟨cur, _, hg, fun j hj => ?_, fun j _ => by simp⟩
    have h1 : (cur.toList.take (n * 1))[j]? = (l.map fun b => Value.int .u8 (b.toNat : Int))[j]? := by rw [htake]
    rw [List.getElem?_take, if_pos (by omega), Array.getElem?_toList] at h1
    rw [h1]
    simp [hj]

/-- The bytes behind k rounds. -/
def fillRow (c : UInt8) (k : Nat) : List UInt8 := List.replicate k c ++ List.replicate (256 - k) 0

theorem fillRow_set (c : UInt8) (k : Nat) (h : k < 256) : (fillRow c k).set k c = fillRow c (k + 1) := by
  unfold fillRow
  obtain ⟨m, hm⟩ : ∃ m, 256 - k = m + 1 := ⟨255 - k, by omega⟩
  have h2 : 256 - (k + 1) = m := by omega
  rw [hm, h2, List.replicate_succ, List.set_append, if_neg (by simp), List.length_replicate, Nat.sub_self, List.set_cons_zero, List.replicate_succ', List.append_assoc]
  rfl

theorem fillRow_end (c : UInt8) : fillRow c 256 = List.replicate 256 c := by
  unfold fillRow
  rw [Nat.sub_self, List.replicate_zero, List.append_nil]

abbrev bytesOf (l : List UInt8) : List Value := l.map fun b => .int .u8 (b.toNat : Int)

theorem bytesOf_zero : (madeCells (Value.int .u8 0).cells (256 * 1)).toList = bytesOf (fillRow 0 0) := by
  have e : (Value.int .u8 0).cells = #[Value.int .u8 0] := rfl
  rw [e, toList_madeCells_one]
  unfold fillRow bytesOf
  rw [List.replicate_zero, List.nil_append, List.map_replicate]
  rfl

theorem fillRow_zero (c : UInt8) : fillRow c 0 = fillRow 0 0 := by
  unfold fillRow
  rw [List.replicate_zero, List.replicate_zero]

theorem fillRow_length (c : UInt8) (k : Nat) (h : k ≤ 256) : (fillRow c k).length = 256 := by
  unfold fillRow
  rw [List.length_append, List.length_replicate, List.length_replicate]
  omega

set_option maxRecDepth 20000 in
set_option maxHeartbeats 800000 in
theorem Fill_any (c : UInt8) (w : World) :
    Calls Try.prog 12 #[.int .u8 (c.toNat : Int)] w fun e w' => e = .returned (.string (fillText c)) ∧ Below w.heap.size w w' := by
  obtain ⟨i0, hi, hz0, hz1, hz2⟩ := info_parts (show (Try.prog.info? 5).map (fun i => (i.zero, i.size, i.bytes)) = some (some (.int .u8 0), 1, 1) by kernel_rfl)
  obtain ⟨w1, hmk, o1, g1⟩ := run_makeSlice_full (P := Try.prog) w w.heap.size 62 5 i0 (.int .u8 0) 1 Try.underlying62 hi hz0 hz1 .i64 .i64 256 (by omega) (by rw [hz2]; omega) (by decide) (Nat.le_refl _)
  rw [bytesOf_zero, ← fillRow_zero c] at o1
  have O1 := Hid.of o1
  have B1 := Hid.of (below_of_none g1)
  have hmk' : (Instr.makeSlice 62 (.int .i64 256) (.int .i64 256)).run Try.prog w = .ok (.slice (some ⟨w.heap.size, 0, none⟩) 256 256) w1 := hmk
  clear hi hz0 hz1 hz2 o1 g1 hmk
  go_enter Try.func12, Try.ntmps12
  go_wp2
  go_loopw [4, 8] (fun _ iv wr => ∃ k : Nat, k ≤ 256 ∧ iv = .int .i64 k ∧ Hid (wr.ownsRow w.heap.size 5 1 (.slice (some ⟨w.heap.size, 0, none⟩) 256 256) 256 (bytesOf (fillRow c k))) ∧ Hid (Below w.heap.size w wr)) (fun _ iv _ => 256 - (RowKit.intOf iv).toNat)
  case atStart => exact ⟨0, by omega, rfl, O1, B1⟩
  case round =>
    obtain ⟨k, hk, rfl, O, hb⟩ := hrel
    by_cases hlt : k < 256
    · have i1 : (k : Int) < 256 := by omega
      have i0' : (0 : Int) ≤ (k : Int) := Int.natCast_nonneg _
      have fz : wr.frozen? ⟨w.heap.size, k, none⟩ = false := O.out.frozenAt k
      have cz : ∃ u, wr.cell? ⟨w.heap.size, k, none⟩ = some u := by
        rw [O.out.cellAt k (by omega), List.getElem?_eq_getElem (by rw [List.length_map, fillRow_length c k hk]; exact hlt)]
        exact ⟨_, rfl⟩
      obtain ⟨u, cz⟩ := cz
      go_wp2
      go_roundw
      case rel =>
        have hs := O.out.stored k (.int .u8 (c.toNat : Int))
        have e : (bytesOf (fillRow c k)).set k (.int .u8 (c.toNat : Int)) = bytesOf (fillRow c (k + 1)) := by
          unfold bytesOf
          rw [← fillRow_set c k hlt, List.map_set]
        rw [e] at hs
        exact ⟨k + 1, by omega, by go_num, Hid.of hs.1, Hid.of (hb.out.grown hs.2 hb.out.size (fun k hk => by simp at hk; omega))⟩
      case measure => simp [RowKit.intOf]; omega
    · have hk2 : k = 256 := by omega
      subst hk2
      have O2 := O.out
      rw [fillRow_end] at O2
      have hcv := text_of_bytes (ByteBlk.of_own O2) 256 256 (List.length_replicate).symm
      clear hk hlt O2 O
      go_wp2
      go_ret
      exact ⟨rfl, hb.out⟩

end Go.Proofs.Ytpgiknejgolllaa
