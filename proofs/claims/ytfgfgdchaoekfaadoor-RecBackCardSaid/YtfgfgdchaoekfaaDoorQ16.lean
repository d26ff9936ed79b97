/-
  A bundle of texts: KRI KRS KAI.
-/
import Derived.Laws.StructEq
import Derived.Test.YtfgfgdchaoekfaaDoorQ13
import Derived.Test.YtfgfgdchaoekfaaDoorQ09
namespace Go.Proofs.YtfgfgdchaoekfaaDoor
open Go.RowKit Go.Lib

abbrev RecL := ByteArray × Int × Int × Int × Int × Int × Int

/-- The cells of one. -/
def renc (x : RecL) : List Value := [.string x.1, .int .i64 x.2.1, .int .i64 x.2.2.1, .int .i64 x.2.2.2.1, .int .u64 x.2.2.2.2.1, .int .i64 x.2.2.2.2.2.1, .int .i64 x.2.2.2.2.2.2]

theorem renc_len (x : RecL) : (renc x).length = 7 := rfl

theorem renc_one (x : RecL) : ∀ u ∈ renc x, u.oneCell' = true := by
  intro u hu
  simp only [renc, List.mem_cons, List.not_mem_nil, or_false] at hu
  rcases hu with rfl | rfl | rfl | rfl | rfl | rfl | rfl <;> rfl

def rAt (w : World) (b o : Nat) (x : RecL) : Prop := w.cell? ⟨b, o, none⟩ = some (.string x.1) ∧ w.cell? ⟨b, o + 1, none⟩ = some (.int .i64 x.2.1) ∧ w.cell? ⟨b, o + 2, none⟩ = some (.int .i64 x.2.2.1) ∧ w.cell? ⟨b, o + 3, none⟩ = some (.int .i64 x.2.2.2.1) ∧ w.cell? ⟨b, o + 4, none⟩ = some (.int .u64 x.2.2.2.2.1) ∧ w.cell? ⟨b, o + 5, none⟩ = some (.int .i64 x.2.2.2.2.2.1) ∧ w.cell? ⟨b, o + 6, none⟩ = some (.int .i64 x.2.2.2.2.2.2)

theorem r_at {w : World} {a : Option Addr} {n c : Nat} {ss : List RecL} (h : CellRow w (.slice a n c) n (flat renc ss)) (j : Nat) (x : RecL) (hx : ss[j]? = some x) : ∃ b o, a = some ⟨b, o, none⟩ ∧ b < w.heap.size ∧ rAt w b (o + j * 7) x := by
  obtain ⟨a', c', hv, h⟩ := h
  simp only [Value.slice.injEq] at hv
  obtain ⟨rfl, _, rfl⟩ := hv
  have hj := (List.getElem?_eq_some_iff.1 hx).1
  rcases h with h | ⟨b, o, ha, hl, hc⟩
  · have := flat_length renc_len ss
    rw [h, List.length_nil] at this
    omega
  · refine ⟨b, o, ha, hl, ?_, ?_, ?_, ?_, ?_, ?_, ?_⟩
    · have := hc (j * 7 + 0) _ ((flat_at renc_len ss j x hx 0 (by decide)).trans rfl)
      exact this
    · have := hc (j * 7 + 1) _ ((flat_at renc_len ss j x hx 1 (by decide)).trans rfl)
      exact this
    · have := hc (j * 7 + 2) _ ((flat_at renc_len ss j x hx 2 (by decide)).trans rfl)
      exact this
    · have := hc (j * 7 + 3) _ ((flat_at renc_len ss j x hx 3 (by decide)).trans rfl)
      exact this
    · have := hc (j * 7 + 4) _ ((flat_at renc_len ss j x hx 4 (by decide)).trans rfl)
      exact this
    · have := hc (j * 7 + 5) _ ((flat_at renc_len ss j x hx 5 (by decide)).trans rfl)
      exact this
    · have := hc (j * 7 + 6) _ ((flat_at renc_len ss j x hx 6 (by decide)).trans rfl)
      exact this

end Go.Proofs.YtfgfgdchaoekfaaDoor

namespace Go.Proofs.YtfgfgdchaoekfaaDoor
open Go.RowKit Go.Lib

set_option maxRecDepth 20000 in
set_option maxHeartbeats 1600000 in
theorem SameRecords_quiet (u v : Value) (ss : List RecL) (w : World) (hu : CellRow w u ss.length (flat renc ss)) (hv : CellRow w v ss.length (flat renc ss)) (hn : ss.length ≤ 1000000) :
    Calls Tryd.prog 11 #[u, v] w fun e w' => e = .returned (.bool true) ∧ ∃ q, w' = w.drewN q := by
  have HU := Hid.of hu
  have HV := Hid.of hv
  obtain ⟨ua, uc, rfl, _⟩ := hu
  obtain ⟨va, vc, rfl, _⟩ := hv
  go_enter Tryd.func11, Tryd.ntmps11
  go_wp2
  go_loopw [5] (fun i wr => ∃ j : Nat, j ≤ ss.length ∧ i = .int .i64 j ∧ ∃ q, wr = w.drewN q) (fun i _ => ss.length - (RowKit.intOf i).toNat)
  case atStart => exact ⟨0, Nat.zero_le _, rfl, 0, rfl⟩
  case round =>
    obtain ⟨j, hj, rfl, q, rfl⟩ := hrel
    by_cases hlt : j < ss.length
    · obtain ⟨b1, o1, rfl, _, hc1⟩ := r_at HU.out j ss[j] (by simp [hlt])
      obtain ⟨b2, o2, rfl, _, hc2⟩ := r_at HV.out j ss[j] (by simp [hlt])
      generalize ss[j] = x at hc1 hc2
      obtain ⟨x0, x1, x2, x3, x4, x5, x6⟩ := x
      obtain ⟨c0, c1, c2, c3, c4, c5, c6⟩ := hc1
      obtain ⟨d0, d1, d2, d3, d4, d5, d6⟩ := hc2
      simp only at c0 d0 c1 d1 c2 d2 c3 d3 c4 d4 c5 d5 c6 d6
      have he0 : (x0.toList == x0.toList) = true := beq_self_eq_true _
      have i0 : (0 : Int) ≤ (j : Int) := Int.natCast_nonneg _
      have i1 : (j : Int) < (ss.length : Int) := by omega
      clear HU HV
      go_wp2
      go_quiet (fail)
      go_wp2
      go_roundw
      case rel => exact ⟨j + 1, by omega, by go_num, _, rfl⟩
      case measure => simp [RowKit.intOf]; omega
    · go_wp2
      go_ret
      exact ⟨rfl, q, rfl⟩

end Go.Proofs.YtfgfgdchaoekfaaDoor

namespace Go.Proofs.YtfgfgdchaoekfaaDoor
open Go.RowKit Go.Lib

abbrev SamL := ByteArray × Int × Int

/-- The cells of one. -/
def aenc (x : SamL) : List Value := [.string x.1, .int .i64 x.2.1, .int .i64 x.2.2]

theorem aenc_len (x : SamL) : (aenc x).length = 3 := rfl

theorem aenc_one (x : SamL) : ∀ u ∈ aenc x, u.oneCell' = true := by
  intro u hu
  simp only [aenc, List.mem_cons, List.not_mem_nil, or_false] at hu
  rcases hu with rfl | rfl | rfl <;> rfl

def aAt (w : World) (b o : Nat) (x : SamL) : Prop := w.cell? ⟨b, o, none⟩ = some (.string x.1) ∧ w.cell? ⟨b, o + 1, none⟩ = some (.int .i64 x.2.1) ∧ w.cell? ⟨b, o + 2, none⟩ = some (.int .i64 x.2.2)

theorem a_at {w : World} {a : Option Addr} {n c : Nat} {ss : List SamL} (h : CellRow w (.slice a n c) n (flat aenc ss)) (j : Nat) (x : SamL) (hx : ss[j]? = some x) : ∃ b o, a = some ⟨b, o, none⟩ ∧ b < w.heap.size ∧ aAt w b (o + j * 3) x := by
  obtain ⟨a', c', hv, h⟩ := h
  simp only [Value.slice.injEq] at hv
  obtain ⟨rfl, _, rfl⟩ := hv
  have hj := (List.getElem?_eq_some_iff.1 hx).1
  rcases h with h | ⟨b, o, ha, hl, hc⟩
  · have := flat_length aenc_len ss
    rw [h, List.length_nil] at this
    omega
  · refine ⟨b, o, ha, hl, ?_, ?_, ?_⟩
    · have := hc (j * 3 + 0) _ ((flat_at aenc_len ss j x hx 0 (by decide)).trans rfl)
      exact this
    · have := hc (j * 3 + 1) _ ((flat_at aenc_len ss j x hx 1 (by decide)).trans rfl)
      exact this
    · have := hc (j * 3 + 2) _ ((flat_at aenc_len ss j x hx 2 (by decide)).trans rfl)
      exact this

end Go.Proofs.YtfgfgdchaoekfaaDoor
