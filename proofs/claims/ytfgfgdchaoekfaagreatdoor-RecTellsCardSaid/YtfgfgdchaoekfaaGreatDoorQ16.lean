/-
  A bundle of texts: KRI KRS KAI.
-/
import Derived.Laws.StructEq
import Derived.Test.YtfgfgdchaoekfaaGreatDoorQ13
import Derived.Test.YtfgfgdchaoekfaaGreatDoorQ09
namespace Go.Proofs.YtfgfgdchaoekfaaGreatDoor
open Go.RowKit Go.Lib

abbrev RecL := ByteArray × Int × Int × Int × Int × Int × Int

/-- The cells of one. -/
def renc (x : RecL) : List Value := [.string x.1, .int .i64 x.2.1, .int .i64 x.2.2.1, .int .i64 x.2.2.2.1, .int .u64 x.2.2.2.2.1, .int .i64 x.2.2.2.2.2.1, .int .i64 x.2.2.2.2.2.2]

theorem renc_len (x : RecL) : (renc x).length = 7 := rfl

theorem renc_one (x : RecL) : ∀ u ∈ renc x, u.oneCell' = true := by
  intro u hu
  simp only [renc, List.mem_cons, List.not_mem_nil, or_false] at hu
  rcases hu with rfl | rfl | rfl | rfl | rfl | rfl | rfl <;> rfl

def rAt (w : World) (b o : Nat) (x : RecL) : Prop := w.cell? ⟨b, o, none⟩ = some (.string x.1) ∧ w.cell? ⟨b, o + 1, none⟩ = some (.int .i64 x.2.1) ∧ w.cell? ⟨b, o + 2, none⟩ = some (.int .i64 x.2.2.1) ∧ w.cell? ⟨b, o + 3, none⟩ = some (.int .i64 x.2.2.2.1) ∧ w.cell? ⟨b, o + 4, none⟩ = some (.int .u64 x.2.2.2.2.1) ∧ w.cell? ⟨b, o + 5, none⟩ = some (.int .i64 x.2.2.2.2.2.1) ∧ w.cell? ⟨b, o + 6, none⟩ = some (.int .i64 x.2.2.2.2.2.2)

theorem r_at {w : World} {a : Option Addr} {n c : Nat} {ss : List RecL} (h : CellRow w (.slice a n c) n (flat renc ss)) (j : Nat) (x : RecL) (hx : ss[j]? = some x) : ∃ b o, a = some ⟨b, o, none⟩ ∧ b < w.heap.size ∧ rAt w b (o + j * 7) x := by
  obtain ⟨a', c', hv, h⟩ := h
  simp only [Value.slice.injEq] at hv
  obtain ⟨rfl, _, rfl⟩ := hv
  have hj := (List.getElem?_eq_some_iff.1 hx).1
  rcases h with h | ⟨b, o, ha, hl, hc⟩
  · have := flat_length renc_len ss
    rw [h, List.length_nil] at this
    omega
  · refine ⟨b, o, ha, hl, ?_, ?_, ?_, ?_, ?_, ?_, ?_⟩
    · have := hc (j * 7 + 0) _ ((flat_at renc_len ss j x hx 0 (by decide)).trans rfl)
      exact this
    · have := hc (j * 7 + 1) _ ((flat_at renc_len ss j x hx 1 (by decide)).trans rfl)
      exact this
    · have := hc (j * 7 + 2) _ ((flat_at renc_len ss j x hx 2 (by decide)).trans rfl)
      exact this
    · have := hc (j * 7 + 3) _ ((flat_at renc_len ss j x hx 3 (by decide)).trans rfl)
      exact this
    · have := hc (j * 7 + 4) _ ((flat_at renc_len ss j x hx 4 (by decide)).trans rfl)
      exact this
    · have := hc (j * 7 + 5) _ ((flat_at renc_len ss j x hx 5 (by decide)).trans rfl)
      exact this
    · have := hc (j * 7 + 6) _ ((flat_at renc_len ss j x hx 6 (by decide)).trans rfl)
      exact this

def rmk (v : Int) : RecL := (⟨#[]⟩, v, 0, 0, 0, 0, 0)

/-- The marks of the list i from the place f on, n of them. -/
def rmarks (i f n : Nat) : List RecL := (List.range n).map fun k : Nat => rmk (-1000 * (i : Int) - ((f : Int) + (k : Int)) - 1)

theorem rmarks_length (i f n : Nat) : (rmarks i f n).length = n := by simp [rmarks]

theorem rmarks_succ (i f n : Nat) : rmarks i f (n + 1) = rmarks i f n ++ [rmk (-1000 * (i : Int) - ((f : Int) + (n : Int)) - 1)] := by
  simp [rmarks, List.range_succ]

theorem rmarks_add (i f n m : Nat) : rmarks i f n ++ rmarks i (f + n) m = rmarks i f (n + m) := by
  induction m with
  | zero => simp [rmarks]
  | succ m ih =>
    rw [← Nat.add_assoc, rmarks_succ, rmarks_succ, ← List.append_assoc, ih]
    congr 3
    push_cast
    omega

set_option maxRecDepth 20000 in
set_option maxHeartbeats 800000 in
theorem markRecords_any (i f n : Nat) (hi9 : i ≤ 1000) (hf9 : f ≤ 100000000) (hn9 : n ≤ 1000000) (w : World) :
    Calls Tryz.prog 110 #[.int .i64 i, .int .i64 f, .int .i64 n] w fun e w' => ∃ v, e = .returned v ∧ w'.ownsRow w.heap.size 50 7 v n (flat renc (rmarks i f n)) ∧ Below w.heap.size w w' := by
  obtain ⟨i0, hi, hz0, hz1, hz2⟩ := info_parts (show (Tryz.prog.info? 50).map (fun i => (i.zero, i.size, i.bytes)) = some (some (.agg #[.string ⟨#[]⟩, .int .i64 0, .int .i64 0, .int .i64 0, .int .u64 0, .int .i64 0, .int .i64 0]), 7, 64) by kernel_rfl)
  have HI := Hid.of hi
  have HZ0 := Hid.of hz0
  have HZ1 := Hid.of hz1
  have HZ2 := Hid.of hz2
  clear hi hz0 hz1 hz2
  go_enter Tryz.func110, Tryz.ntmps110
  go_wp2
  go_loopw [7, 8] (fun v k wr => ∃ j : Nat, j ≤ n ∧ k = .int .i64 ((f : Int) + j) ∧ Hid (wr.ownsRow w.heap.size 50 7 v j (flat renc (rmarks i f j))) ∧ Below w.heap.size w wr) (fun _ k _ => n - ((intOf k).toNat - f))
  case atStart => exact ⟨0, Nat.zero_le _, by simp, Hid.of (World.ownsRow_nil _ _ _ _), Below.refl _ _⟩
  case round =>
    obtain ⟨j, hj, rfl, O, hb⟩ := hrel
    by_cases hlt : j < n
    · go_wp2_with (at_builtin; refine append_row_law rfl _ _ 22 rfl w.heap.size 50 i0 (.agg #[.string ⟨#[]⟩, .int .i64 0, .int .i64 0, .int .i64 0, .int .u64 0, .int .i64 0, .int .i64 0]) 7 64 Tryz.underlying22 HI.out HZ0.out HZ1.out HZ2.out rfl (by decide) _ j _ rfl (O.out.alloc _) (.slice (some ⟨wr.heap.size, 0, none⟩) 1 1) 1 [.string ⟨#[]⟩, .int .i64 (-1000 * (i : Int) - ((f : Int) + (j : Int)) - 1), .int .i64 0, .int .i64 0, .int .u64 0, .int .i64 0, .int .i64 0] (by go_num) ⟨_, _, rfl, .inr ⟨_, 0, rfl, by simp, new_cells wr _ _⟩⟩ rfl (by simp [Value.oneCell']) (by unfold maxLen; omega) (by omega) (by simp; have := hb.size; omega) ?_; intro v1 w1 o1 g1)
      go_roundw
      case rel =>
        refine ⟨j + 1, by omega, by go_num, Hid.of ?_, (hb.alloc hb.size _).grown g1 (by have := hb.size; simp; omega) (fun k hk => own_ge O.out hk)⟩
        rw [rmarks_succ, flat_append, flat_one]
        exact o1
      case measure => simp [intOf]; omega
    · go_wp2
      go_ret
      have : j = n := by omega
      subst this
      exact ⟨_, rfl, O.out, hb⟩

set_option maxHeartbeats 400000 in
theorem copyRecords_any (v : Value) (ss : List RecL) (w : World) (hv : CellRow w v ss.length (flat renc ss)) (hn : ss.length ≤ 1000000) :
    Calls Tryz.prog 39 #[v] w fun e w' => ∃ u, e = .returned u ∧ w'.ownsRow w.heap.size 50 7 u ss.length (flat renc ss) ∧ Below w.heap.size w w' := by
  have HC := Hid.of hv
  obtain ⟨sa, c, rfl, _⟩ := hv
  obtain ⟨i0, hi, hz0, hz1, hz2⟩ := info_parts (show (Tryz.prog.info? 50).map (fun i => (i.zero, i.size, i.bytes)) = some (some (.agg #[.string ⟨#[]⟩, .int .i64 0, .int .i64 0, .int .i64 0, .int .u64 0, .int .i64 0, .int .i64 0]), 7, 64) by kernel_rfl)
  have HI := Hid.of hi
  have HZ0 := Hid.of hz0
  have HZ1 := Hid.of hz1
  have HZ2 := Hid.of hz2
  clear hi hz0 hz1 hz2
  go_enter Tryz.func39, Tryz.ntmps39
  go_wp2_with (at_builtin; refine append_row_law rfl (.const (.slice none 0 0)) (.tmp 3) 22 rfl w.heap.size 50 i0 (.agg #[.string ⟨#[]⟩, .int .i64 0, .int .i64 0, .int .i64 0, .int .u64 0, .int .i64 0, .int .i64 0]) 7 64 Tryz.underlying22 HI.out HZ0.out HZ1.out HZ2.out rfl (by decide) (.slice none 0 0) 0 [] rfl ⟨rfl, .inl ⟨rfl, rfl⟩⟩ _ ss.length _ rfl HC.out (flat_length renc_len ss) (flat_ones renc_one ss) (by unfold maxLen; omega) (by omega) (Nat.le_refl _) ?_; intro v1 w1 o1 g1; have O1 : Hid (w1.ownsRow w.heap.size 50 7 v1 ss.length (flat renc ss)) := Hid.of (by simpa using o1); have b1 : Below w.heap.size w w1 := below_of_none g1; clear o1 g1)
  go_ret
  exact ⟨_, rfl, O1.out, b1⟩

end Go.Proofs.YtfgfgdchaoekfaaGreatDoor

namespace Go.Proofs.YtfgfgdchaoekfaaGreatDoor
open Go.RowKit Go.Lib

set_option maxRecDepth 20000 in
set_option maxHeartbeats 1600000 in
theorem SameRecords_quiet (u v : Value) (ss : List RecL) (w : World) (hu : CellRow w u ss.length (flat renc ss)) (hv : CellRow w v ss.length (flat renc ss)) (hn : ss.length ≤ 1000000) :
    Calls Tryz.prog 13 #[u, v] w fun e w' => e = .returned (.bool true) ∧ ∃ q, w' = w.drewN q := by
  have HU := Hid.of hu
  have HV := Hid.of hv
  obtain ⟨ua, uc, rfl, _⟩ := hu
  obtain ⟨va, vc, rfl, _⟩ := hv
  go_enter Tryz.func13, Tryz.ntmps13
  go_wp2
  go_loopw [5] (fun i wr => ∃ j : Nat, j ≤ ss.length ∧ i = .int .i64 j ∧ ∃ q, wr = w.drewN q) (fun i _ => ss.length - (RowKit.intOf i).toNat)
  case atStart => exact ⟨0, Nat.zero_le _, rfl, 0, rfl⟩
  case round =>
    obtain ⟨j, hj, rfl, q, rfl⟩ := hrel
    by_cases hlt : j < ss.length
    · obtain ⟨b1, o1, rfl, _, hc1⟩ := r_at HU.out j ss[j] (by simp [hlt])
      obtain ⟨b2, o2, rfl, _, hc2⟩ := r_at HV.out j ss[j] (by simp [hlt])
      generalize ss[j] = x at hc1 hc2
      obtain ⟨x0, x1, x2, x3, x4, x5, x6⟩ := x
      obtain ⟨c0, c1, c2, c3, c4, c5, c6⟩ := hc1
      obtain ⟨d0, d1, d2, d3, d4, d5, d6⟩ := hc2
      simp only at c0 d0 c1 d1 c2 d2 c3 d3 c4 d4 c5 d5 c6 d6
      have he0 : (x0.toList == x0.toList) = true := beq_self_eq_true _
      have i0 : (0 : Int) ≤ (j : Int) := Int.natCast_nonneg _
      have i1 : (j : Int) < (ss.length : Int) := by omega
      clear HU HV
      go_wp2
      go_quiet (fail)
      go_wp2
      go_roundw
      case rel => exact ⟨j + 1, by omega, by go_num, _, rfl⟩
      case measure => simp [RowKit.intOf]; omega
    · go_wp2
      go_ret
      exact ⟨rfl, q, rfl⟩

/-- The lists of ints that a Book keeps and their copies: each pair holds the same numbers. -/
def PairsR (w : World) (ls : List (Value × Value × List RecL)) : Prop := ∀ x ∈ ls, CellRow w x.1 x.2.2.length (flat renc x.2.2) ∧ CellRow w x.2.1 x.2.2.length (flat renc x.2.2) ∧ x.2.2.length ≤ 1000000

set_option maxHeartbeats 400000 in
theorem stillRecords_any (p : Nat) (V W : Value) (ls : List (Value × Value × List RecL)) (w : World) (h2 : w.cell? ⟨p, 4, none⟩ = some V) (h3 : w.cell? ⟨p, 5, none⟩ = some W)
    (hV : CellRow w V ls.length (ls.map (·.1))) (hW : CellRow w W ls.length (ls.map (·.2.1))) (hp : PairsR w ls) (hn : ls.length ≤ 1000) :
    Calls Tryz.prog 47 #[.pointer (some ⟨p, 0, none⟩)] w fun e w' => e = .returned (.bool true) ∧ ∃ q, w' = w.drewN q := by
  have HV := Hid.of hV
  have HW := Hid.of hW
  have HP := Hid.of hp
  clear hp
  obtain ⟨va, vc, rfl, _⟩ := hV
  obtain ⟨wa, wc, rfl, _⟩ := hW
  go_enter Tryz.func47, Tryz.ntmps47
  go_wp2
  go_loopw [3] (fun i wr => ∃ j : Nat, j ≤ ls.length ∧ i = .int .i64 j ∧ ∃ q, wr = w.drewN q) (fun i _ => ls.length - (RowKit.intOf i).toNat)
  case atStart => exact ⟨0, Nat.zero_le _, rfl, 0, rfl⟩
  case round =>
    obtain ⟨j, hj, rfl, q, rfl⟩ := hrel
    by_cases hlt : j < ls.length
    · obtain ⟨b1, o1, rfl, hl1, hc1⟩ := HV.out.at j ls[j].1 (by simp [hlt])
      obtain ⟨b2, o2, rfl, hl2, hc2⟩ := HW.out.at j ls[j].2.1 (by simp [hlt])
      have hx := HP.out ls[j] (List.getElem_mem hlt)
      generalize ls[j] = x at *
      obtain ⟨u, v, ss⟩ := x
      simp only at hc1 hc2 hx
      have HX := Hid.of hx
      have i0 : (0 : Int) ≤ (j : Int) := Int.natCast_nonneg _
      have i1 : (j : Int) < (ls.length : Int) := by omega
      clear hx HV HW HP hl1 hl2
      go_wp2
      go_quiet ((go_at_call 13; exact quiet_more (SameRecords_quiet u v ss _ (CellRow.drewN HX.out.1 _) (CellRow.drewN HX.out.2.1 _) HX.out.2.2)))
      go_wp2
      go_roundw
      case rel => exact ⟨j + 1, by omega, by go_num, _, rfl⟩
      case measure => simp [RowKit.intOf]; omega
    · go_wp2
      go_ret
      exact ⟨rfl, q, rfl⟩

end Go.Proofs.YtfgfgdchaoekfaaGreatDoor

namespace Go.Proofs.YtfgfgdchaoekfaaGreatDoor
open Go.RowKit Go.Lib

abbrev SamL := ByteArray × Int × Int

/-- The cells of one. -/
def aenc (x : SamL) : List Value := [.string x.1, .int .i64 x.2.1, .int .i64 x.2.2]

theorem aenc_len (x : SamL) : (aenc x).length = 3 := rfl

theorem aenc_one (x : SamL) : ∀ u ∈ aenc x, u.oneCell' = true := by
  intro u hu
  simp only [aenc, List.mem_cons, List.not_mem_nil, or_false] at hu
  rcases hu with rfl | rfl | rfl <;> rfl

def aAt (w : World) (b o : Nat) (x : SamL) : Prop := w.cell? ⟨b, o, none⟩ = some (.string x.1) ∧ w.cell? ⟨b, o + 1, none⟩ = some (.int .i64 x.2.1) ∧ w.cell? ⟨b, o + 2, none⟩ = some (.int .i64 x.2.2)

theorem a_at {w : World} {a : Option Addr} {n c : Nat} {ss : List SamL} (h : CellRow w (.slice a n c) n (flat aenc ss)) (j : Nat) (x : SamL) (hx : ss[j]? = some x) : ∃ b o, a = some ⟨b, o, none⟩ ∧ b < w.heap.size ∧ aAt w b (o + j * 3) x := by
  obtain ⟨a', c', hv, h⟩ := h
  simp only [Value.slice.injEq] at hv
  obtain ⟨rfl, _, rfl⟩ := hv
  have hj := (List.getElem?_eq_some_iff.1 hx).1
  rcases h with h | ⟨b, o, ha, hl, hc⟩
  · have := flat_length aenc_len ss
    rw [h, List.length_nil] at this
    omega
  · refine ⟨b, o, ha, hl, ?_, ?_, ?_⟩
    · have := hc (j * 3 + 0) _ ((flat_at aenc_len ss j x hx 0 (by decide)).trans rfl)
      exact this
    · have := hc (j * 3 + 1) _ ((flat_at aenc_len ss j x hx 1 (by decide)).trans rfl)
      exact this
    · have := hc (j * 3 + 2) _ ((flat_at aenc_len ss j x hx 2 (by decide)).trans rfl)
      exact this

def amk (v : Int) : SamL := (⟨#[]⟩, v, 0)

/-- The marks of the list i from the place f on, n of them. -/
def amarks (i f n : Nat) : List SamL := (List.range n).map fun k : Nat => amk (-1000 * (i : Int) - ((f : Int) + (k : Int)) - 1)

theorem amarks_length (i f n : Nat) : (amarks i f n).length = n := by simp [amarks]

theorem amarks_succ (i f n : Nat) : amarks i f (n + 1) = amarks i f n ++ [amk (-1000 * (i : Int) - ((f : Int) + (n : Int)) - 1)] := by
  simp [amarks, List.range_succ]

theorem amarks_add (i f n m : Nat) : amarks i f n ++ amarks i (f + n) m = amarks i f (n + m) := by
  induction m with
  | zero => simp [amarks]
  | succ m ih =>
    rw [← Nat.add_assoc, amarks_succ, amarks_succ, ← List.append_assoc, ih]
    congr 3
    push_cast
    omega

set_option maxRecDepth 20000 in
set_option maxHeartbeats 800000 in
theorem markSamples_any (i f n : Nat) (hi9 : i ≤ 1000) (hf9 : f ≤ 100000000) (hn9 : n ≤ 1000000) (w : World) :
    Calls Tryz.prog 111 #[.int .i64 i, .int .i64 f, .int .i64 n] w fun e w' => ∃ v, e = .returned v ∧ w'.ownsRow w.heap.size 107 3 v n (flat aenc (amarks i f n)) ∧ Below w.heap.size w w' := by
  obtain ⟨i0, hi, hz0, hz1, hz2⟩ := info_parts (show (Tryz.prog.info? 107).map (fun i => (i.zero, i.size, i.bytes)) = some (some (.agg #[.string ⟨#[]⟩, .int .i64 0, .int .i64 0]), 3, 32) by kernel_rfl)
  have HI := Hid.of hi
  have HZ0 := Hid.of hz0
  have HZ1 := Hid.of hz1
  have HZ2 := Hid.of hz2
  clear hi hz0 hz1 hz2
  go_enter Tryz.func111, Tryz.ntmps111
  go_wp2
  go_loopw [7, 8] (fun v k wr => ∃ j : Nat, j ≤ n ∧ k = .int .i64 ((f : Int) + j) ∧ Hid (wr.ownsRow w.heap.size 107 3 v j (flat aenc (amarks i f j))) ∧ Below w.heap.size w wr) (fun _ k _ => n - ((intOf k).toNat - f))
  case atStart => exact ⟨0, Nat.zero_le _, by simp, Hid.of (World.ownsRow_nil _ _ _ _), Below.refl _ _⟩
  case round =>
    obtain ⟨j, hj, rfl, O, hb⟩ := hrel
    by_cases hlt : j < n
    · go_wp2_with (at_builtin; refine append_row_law rfl _ _ 52 rfl w.heap.size 107 i0 (.agg #[.string ⟨#[]⟩, .int .i64 0, .int .i64 0]) 3 32 Tryz.underlying52 HI.out HZ0.out HZ1.out HZ2.out rfl (by decide) _ j _ rfl (O.out.alloc _) (.slice (some ⟨wr.heap.size, 0, none⟩) 1 1) 1 [.string ⟨#[]⟩, .int .i64 (-1000 * (i : Int) - ((f : Int) + (j : Int)) - 1), .int .i64 0] (by go_num) ⟨_, _, rfl, .inr ⟨_, 0, rfl, by simp, new_cells wr _ _⟩⟩ rfl (by simp [Value.oneCell']) (by unfold maxLen; omega) (by omega) (by simp; have := hb.size; omega) ?_; intro v1 w1 o1 g1)
      go_roundw
      case rel =>
        refine ⟨j + 1, by omega, by go_num, Hid.of ?_, (hb.alloc hb.size _).grown g1 (by have := hb.size; simp; omega) (fun k hk => own_ge O.out hk)⟩
        rw [amarks_succ, flat_append, flat_one]
        exact o1
      case measure => simp [intOf]; omega
    · go_wp2
      go_ret
      have : j = n := by omega
      subst this
      exact ⟨_, rfl, O.out, hb⟩

set_option maxHeartbeats 400000 in
theorem copySamples_any (v : Value) (ss : List SamL) (w : World) (hv : CellRow w v ss.length (flat aenc ss)) (hn : ss.length ≤ 1000000) :
    Calls Tryz.prog 81 #[v] w fun e w' => ∃ u, e = .returned u ∧ w'.ownsRow w.heap.size 107 3 u ss.length (flat aenc ss) ∧ Below w.heap.size w w' := by
  have HC := Hid.of hv
  obtain ⟨sa, c, rfl, _⟩ := hv
  obtain ⟨i0, hi, hz0, hz1, hz2⟩ := info_parts (show (Tryz.prog.info? 107).map (fun i => (i.zero, i.size, i.bytes)) = some (some (.agg #[.string ⟨#[]⟩, .int .i64 0, .int .i64 0]), 3, 32) by kernel_rfl)
  have HI := Hid.of hi
  have HZ0 := Hid.of hz0
  have HZ1 := Hid.of hz1
  have HZ2 := Hid.of hz2
  clear hi hz0 hz1 hz2
  go_enter Tryz.func81, Tryz.ntmps81
  go_wp2_with (at_builtin; refine append_row_law rfl (.const (.slice none 0 0)) (.tmp 3) 52 rfl w.heap.size 107 i0 (.agg #[.string ⟨#[]⟩, .int .i64 0, .int .i64 0]) 3 32 Tryz.underlying52 HI.out HZ0.out HZ1.out HZ2.out rfl (by decide) (.slice none 0 0) 0 [] rfl ⟨rfl, .inl ⟨rfl, rfl⟩⟩ _ ss.length _ rfl HC.out (flat_length aenc_len ss) (flat_ones aenc_one ss) (by unfold maxLen; omega) (by omega) (Nat.le_refl _) ?_; intro v1 w1 o1 g1; have O1 : Hid (w1.ownsRow w.heap.size 107 3 v1 ss.length (flat aenc ss)) := Hid.of (by simpa using o1); have b1 : Below w.heap.size w w1 := below_of_none g1; clear o1 g1)
  go_ret
  exact ⟨_, rfl, O1.out, b1⟩

end Go.Proofs.YtfgfgdchaoekfaaGreatDoor
