/-
  A bundle of texts: KPI KRI KRS KRM KRB KRP KRQ KRH KXIR KAI KAS.
-/
import Derived.Laws.StructEq
import Derived.Deep.RegionHeld3
import Derived.Test.YtdchjcidfaencaaGreatQ13
import Derived.Test.YtdchjcidfaencaaGreatQ08
import Derived.Test.YtdchjcidfaencaaGreatQ11
namespace Go.Proofs.YtdchjcidfaencaaGreat
open Go.RowKit Go.Lib

abbrev TierL := ByteArray × Int × Int × Int

/-- The cells of one. -/
def penc (x : TierL) : List Value := [.string x.1, .int .i64 x.2.1, .int .i64 x.2.2.1, .int .i64 x.2.2.2]

theorem penc_len (x : TierL) : (penc x).length = 4 := rfl

theorem penc_one (x : TierL) : ∀ u ∈ penc x, u.oneCell' = true := by
  intro u hu
  simp only [penc, List.mem_cons, List.not_mem_nil, or_false] at hu
  rcases hu with rfl | rfl | rfl | rfl <;> rfl

def pAt (w : World) (b o : Nat) (x : TierL) : Prop := w.cell? ⟨b, o, none⟩ = some (.string x.1) ∧ w.cell? ⟨b, o + 1, none⟩ = some (.int .i64 x.2.1) ∧ w.cell? ⟨b, o + 2, none⟩ = some (.int .i64 x.2.2.1) ∧ w.cell? ⟨b, o + 3, none⟩ = some (.int .i64 x.2.2.2)

theorem p_at {w : World} {a : Option Addr} {n c : Nat} {ss : List TierL} (h : CellRow w (.slice a n c) n (flat penc ss)) (j : Nat) (x : TierL) (hx : ss[j]? = some x) : ∃ b o, a = some ⟨b, o, none⟩ ∧ b < w.heap.size ∧ pAt w b (o + j * 4) x := by
  obtain ⟨a', c', hv, h⟩ := h
  simp only [Value.slice.injEq] at hv
  obtain ⟨rfl, _, rfl⟩ := hv
  have hj := (List.getElem?_eq_some_iff.1 hx).1
  rcases h with h | ⟨b, o, ha, hl, hc⟩
  · have := flat_length penc_len ss
    rw [h, List.length_nil] at this
    omega
  · refine ⟨b, o, ha, hl, ?_, ?_, ?_, ?_⟩
    · have := hc (j * 4 + 0) _ ((flat_at penc_len ss j x hx 0 (by decide)).trans rfl)
      exact this
    · have := hc (j * 4 + 1) _ ((flat_at penc_len ss j x hx 1 (by decide)).trans rfl)
      exact this
    · have := hc (j * 4 + 2) _ ((flat_at penc_len ss j x hx 2 (by decide)).trans rfl)
      exact this
    · have := hc (j * 4 + 3) _ ((flat_at penc_len ss j x hx 3 (by decide)).trans rfl)
      exact this

end Go.Proofs.YtdchjcidfaencaaGreat

namespace Go.Proofs.YtdchjcidfaencaaGreat
open Go.RowKit Go.Lib

abbrev RecL := ByteArray × Int × Int × Int × Int × Int × Int

/-- The cells of one. -/
def renc (x : RecL) : List Value := [.string x.1, .int .i64 x.2.1, .int .i64 x.2.2.1, .int .i64 x.2.2.2.1, .int .u64 x.2.2.2.2.1, .int .i64 x.2.2.2.2.2.1, .int .i64 x.2.2.2.2.2.2]

theorem renc_len (x : RecL) : (renc x).length = 7 := rfl

theorem renc_one (x : RecL) : ∀ u ∈ renc x, u.oneCell' = true := by
  intro u hu
  simp only [renc, List.mem_cons, List.not_mem_nil, or_false] at hu
  rcases hu with rfl | rfl | rfl | rfl | rfl | rfl | rfl <;> rfl

def rAt (w : World) (b o : Nat) (x : RecL) : Prop := w.cell? ⟨b, o, none⟩ = some (.string x.1) ∧ w.cell? ⟨b, o + 1, none⟩ = some (.int .i64 x.2.1) ∧ w.cell? ⟨b, o + 2, none⟩ = some (.int .i64 x.2.2.1) ∧ w.cell? ⟨b, o + 3, none⟩ = some (.int .i64 x.2.2.2.1) ∧ w.cell? ⟨b, o + 4, none⟩ = some (.int .u64 x.2.2.2.2.1) ∧ w.cell? ⟨b, o + 5, none⟩ = some (.int .i64 x.2.2.2.2.2.1) ∧ w.cell? ⟨b, o + 6, none⟩ = some (.int .i64 x.2.2.2.2.2.2)

theorem r_at {w : World} {a : Option Addr} {n c : Nat} {ss : List RecL} (h : CellRow w (.slice a n c) n (flat renc ss)) (j : Nat) (x : RecL) (hx : ss[j]? = some x) : ∃ b o, a = some ⟨b, o, none⟩ ∧ b < w.heap.size ∧ rAt w b (o + j * 7) x := by
  obtain ⟨a', c', hv, h⟩ := h
  simp only [Value.slice.injEq] at hv
  obtain ⟨rfl, _, rfl⟩ := hv
  have hj := (List.getElem?_eq_some_iff.1 hx).1
  rcases h with h | ⟨b, o, ha, hl, hc⟩
  · have := flat_length renc_len ss
    rw [h, List.length_nil] at this
    omega
  · refine ⟨b, o, ha, hl, ?_, ?_, ?_, ?_, ?_, ?_, ?_⟩
    · have := hc (j * 7 + 0) _ ((flat_at renc_len ss j x hx 0 (by decide)).trans rfl)
      exact this
    · have := hc (j * 7 + 1) _ ((flat_at renc_len ss j x hx 1 (by decide)).trans rfl)
      exact this
    · have := hc (j * 7 + 2) _ ((flat_at renc_len ss j x hx 2 (by decide)).trans rfl)
      exact this
    · have := hc (j * 7 + 3) _ ((flat_at renc_len ss j x hx 3 (by decide)).trans rfl)
      exact this
    · have := hc (j * 7 + 4) _ ((flat_at renc_len ss j x hx 4 (by decide)).trans rfl)
      exact this
    · have := hc (j * 7 + 5) _ ((flat_at renc_len ss j x hx 5 (by decide)).trans rfl)
      exact this
    · have := hc (j * 7 + 6) _ ((flat_at renc_len ss j x hx 6 (by decide)).trans rfl)
      exact this

def rmk (v : Int) : RecL := (⟨#[]⟩, v, 0, 0, 0, 0, 0)

/-- The marks of the list i from the place f on, n of them. -/
def rmarks (i f n : Nat) : List RecL := (List.range n).map fun k : Nat => rmk (-1000 * (i : Int) - ((f : Int) + (k : Int)) - 1)

theorem rmarks_length (i f n : Nat) : (rmarks i f n).length = n := by simp [rmarks]

theorem rmarks_succ (i f n : Nat) : rmarks i f (n + 1) = rmarks i f n ++ [rmk (-1000 * (i : Int) - ((f : Int) + (n : Int)) - 1)] := by
  simp [rmarks, List.range_succ]

theorem rmarks_add (i f n m : Nat) : rmarks i f n ++ rmarks i (f + n) m = rmarks i f (n + m) := by
  induction m with
  | zero => simp [rmarks]
  | succ m ih =>
    rw [← Nat.add_assoc, rmarks_succ, rmarks_succ, ← List.append_assoc, ih]
    congr 3
    push_cast
    omega

set_option maxRecDepth 20000 in
set_option maxHeartbeats 800000 in
theorem markRecords_any (i f n : Nat) (hi9 : i ≤ 1000) (hf9 : f ≤ 100000000) (hn9 : n ≤ 1000000) (w : World) :
    Calls Tryz.prog 95 #[.int .i64 i, .int .i64 f, .int .i64 n] w fun e w' => ∃ v, e = .returned v ∧ w'.ownsRow w.heap.size 61 7 v n (flat renc (rmarks i f n)) ∧ Below w.heap.size w w' := by
  obtain ⟨i0, hi, hz0, hz1, hz2⟩ := info_parts (show (Tryz.prog.info? 61).map (fun i => (i.zero, i.size, i.bytes)) = some (some (.agg #[.string ⟨#[]⟩, .int .i64 0, .int .i64 0, .int .i64 0, .int .u64 0, .int .i64 0, .int .i64 0]), 7, 64) by kernel_rfl)
  have HI := Hid.of hi
  have HZ0 := Hid.of hz0
  have HZ1 := Hid.of hz1
  have HZ2 := Hid.of hz2
  clear hi hz0 hz1 hz2
  go_enter Tryz.func95, Tryz.ntmps95
  go_wp2
  go_loopw [7, 8] (fun v k wr => ∃ j : Nat, j ≤ n ∧ k = .int .i64 ((f : Int) + j) ∧ Hid (wr.ownsRow w.heap.size 61 7 v j (flat renc (rmarks i f j))) ∧ Below w.heap.size w wr) (fun _ k _ => n - ((intOf k).toNat - f))
  case atStart => exact ⟨0, Nat.zero_le _, by simp, Hid.of (World.ownsRow_nil _ _ _ _), Below.refl _ _⟩
  case round =>
    obtain ⟨j, hj, rfl, O, hb⟩ := hrel
    by_cases hlt : j < n
    · go_wp2_with (at_builtin; refine append_row_law rfl _ _ 49 rfl w.heap.size 61 i0 (.agg #[.string ⟨#[]⟩, .int .i64 0, .int .i64 0, .int .i64 0, .int .u64 0, .int .i64 0, .int .i64 0]) 7 64 Tryz.underlying49 HI.out HZ0.out HZ1.out HZ2.out rfl (by decide) _ j _ rfl (O.out.alloc _) (.slice (some ⟨wr.heap.size, 0, none⟩) 1 1) 1 [.string ⟨#[]⟩, .int .i64 (-1000 * (i : Int) - ((f : Int) + (j : Int)) - 1), .int .i64 0, .int .i64 0, .int .u64 0, .int .i64 0, .int .i64 0] (by go_num) ⟨_, _, rfl, .inr ⟨_, 0, rfl, by simp, new_cells wr _ _⟩⟩ rfl (by simp [Value.oneCell']) (by unfold maxLen; omega) (by omega) (by simp; have := hb.size; omega) ?_; intro v1 w1 o1 g1)
      go_roundw
      case rel =>
        refine ⟨j + 1, by omega, by go_num, Hid.of ?_, (hb.alloc hb.size _).grown g1 (by have := hb.size; simp; omega) (fun k hk => own_ge O.out hk)⟩
        rw [rmarks_succ, flat_append, flat_one]
        exact o1
      case measure => simp [intOf]; omega
    · go_wp2
      go_ret
      have : j = n := by omega
      subst this
      exact ⟨_, rfl, O.out, hb⟩

set_option maxHeartbeats 400000 in
theorem copyRecords_any (v : Value) (ss : List RecL) (w : World) (hv : CellRow w v ss.length (flat renc ss)) (hn : ss.length ≤ 1000000) :
    Calls Tryz.prog 28 #[v] w fun e w' => ∃ u, e = .returned u ∧ w'.ownsRow w.heap.size 61 7 u ss.length (flat renc ss) ∧ Below w.heap.size w w' := by
  have HC := Hid.of hv
  obtain ⟨sa, c, rfl, _⟩ := hv
  obtain ⟨i0, hi, hz0, hz1, hz2⟩ := info_parts (show (Tryz.prog.info? 61).map (fun i => (i.zero, i.size, i.bytes)) = some (some (.agg #[.string ⟨#[]⟩, .int .i64 0, .int .i64 0, .int .i64 0, .int .u64 0, .int .i64 0, .int .i64 0]), 7, 64) by kernel_rfl)
  have HI := Hid.of hi
  have HZ0 := Hid.of hz0
  have HZ1 := Hid.of hz1
  have HZ2 := Hid.of hz2
  clear hi hz0 hz1 hz2
  go_enter Tryz.func28, Tryz.ntmps28
  go_wp2_with (at_builtin; refine append_row_law rfl (.const (.slice none 0 0)) (.tmp 3) 49 rfl w.heap.size 61 i0 (.agg #[.string ⟨#[]⟩, .int .i64 0, .int .i64 0, .int .i64 0, .int .u64 0, .int .i64 0, .int .i64 0]) 7 64 Tryz.underlying49 HI.out HZ0.out HZ1.out HZ2.out rfl (by decide) (.slice none 0 0) 0 [] rfl ⟨rfl, .inl ⟨rfl, rfl⟩⟩ _ ss.length _ rfl HC.out (flat_length renc_len ss) (flat_ones renc_one ss) (by unfold maxLen; omega) (by omega) (Nat.le_refl _) ?_; intro v1 w1 o1 g1; have O1 : Hid (w1.ownsRow w.heap.size 61 7 v1 ss.length (flat renc ss)) := Hid.of (by simpa using o1); have b1 : Below w.heap.size w w1 := below_of_none g1; clear o1 g1)
  go_ret
  exact ⟨_, rfl, O1.out, b1⟩

end Go.Proofs.YtdchjcidfaencaaGreat

namespace Go.Proofs.YtdchjcidfaencaaGreat
open Go.RowKit Go.Lib

set_option maxRecDepth 20000 in
set_option maxHeartbeats 1600000 in
theorem SameRecords_quiet (u v : Value) (ss : List RecL) (w : World) (hu : CellRow w u ss.length (flat renc ss)) (hv : CellRow w v ss.length (flat renc ss)) (hn : ss.length ≤ 1000000) :
    Calls Tryz.prog 14 #[u, v] w fun e w' => e = .returned (.bool true) ∧ ∃ q, w' = w.drewN q := by
  have HU := Hid.of hu
  have HV := Hid.of hv
  obtain ⟨ua, uc, rfl, _⟩ := hu
  obtain ⟨va, vc, rfl, _⟩ := hv
  go_enter Tryz.func14, Tryz.ntmps14
  go_wp2
  go_loopw [5] (fun i wr => ∃ j : Nat, j ≤ ss.length ∧ i = .int .i64 j ∧ ∃ q, wr = w.drewN q) (fun i _ => ss.length - (RowKit.intOf i).toNat)
  case atStart => exact ⟨0, Nat.zero_le _, rfl, 0, rfl⟩
  case round =>
    obtain ⟨j, hj, rfl, q, rfl⟩ := hrel
    by_cases hlt : j < ss.length
    · obtain ⟨b1, o1, rfl, _, hc1⟩ := r_at HU.out j ss[j] (by simp [hlt])
      obtain ⟨b2, o2, rfl, _, hc2⟩ := r_at HV.out j ss[j] (by simp [hlt])
      generalize ss[j] = x at hc1 hc2
      obtain ⟨x0, x1, x2, x3, x4, x5, x6⟩ := x
      obtain ⟨c0, c1, c2, c3, c4, c5, c6⟩ := hc1
      obtain ⟨d0, d1, d2, d3, d4, d5, d6⟩ := hc2
      simp only at c0 d0 c1 d1 c2 d2 c3 d3 c4 d4 c5 d5 c6 d6
      have he0 : (x0.toList == x0.toList) = true := beq_self_eq_true _
      have i0 : (0 : Int) ≤ (j : Int) := Int.natCast_nonneg _
      have i1 : (j : Int) < (ss.length : Int) := by omega
      clear HU HV
      go_wp2
      go_quiet (fail)
      go_wp2
      go_roundw
      case rel => exact ⟨j + 1, by omega, by go_num, _, rfl⟩
      case measure => simp [RowKit.intOf]; omega
    · go_wp2
      go_ret
      exact ⟨rfl, q, rfl⟩

/-- The lists of ints that a Book keeps and their copies: each pair holds the same numbers. -/
def PairsR (w : World) (ls : List (Value × Value × List RecL)) : Prop := ∀ x ∈ ls, CellRow w x.1 x.2.2.length (flat renc x.2.2) ∧ CellRow w x.2.1 x.2.2.length (flat renc x.2.2) ∧ x.2.2.length ≤ 1000000

set_option maxHeartbeats 400000 in
theorem stillRecords_any (p : Nat) (V W : Value) (ls : List (Value × Value × List RecL)) (w : World) (h2 : w.cell? ⟨p, 4, none⟩ = some V) (h3 : w.cell? ⟨p, 5, none⟩ = some W)
    (hV : CellRow w V ls.length (ls.map (·.1))) (hW : CellRow w W ls.length (ls.map (·.2.1))) (hp : PairsR w ls) (hn : ls.length ≤ 1000) :
    Calls Tryz.prog 41 #[.pointer (some ⟨p, 0, none⟩)] w fun e w' => e = .returned (.bool true) ∧ ∃ q, w' = w.drewN q := by
  have HV := Hid.of hV
  have HW := Hid.of hW
  have HP := Hid.of hp
  clear hp
  obtain ⟨va, vc, rfl, _⟩ := hV
  obtain ⟨wa, wc, rfl, _⟩ := hW
  go_enter Tryz.func41, Tryz.ntmps41
  go_wp2
  go_loopw [3] (fun i wr => ∃ j : Nat, j ≤ ls.length ∧ i = .int .i64 j ∧ ∃ q, wr = w.drewN q) (fun i _ => ls.length - (RowKit.intOf i).toNat)
  case atStart => exact ⟨0, Nat.zero_le _, rfl, 0, rfl⟩
  case round =>
    obtain ⟨j, hj, rfl, q, rfl⟩ := hrel
    by_cases hlt : j < ls.length
    · obtain ⟨b1, o1, rfl, hl1, hc1⟩ := HV.out.at j ls[j].1 (by simp [hlt])
      obtain ⟨b2, o2, rfl, hl2, hc2⟩ := HW.out.at j ls[j].2.1 (by simp [hlt])
      have hx := HP.out ls[j] (List.getElem_mem hlt)
      generalize ls[j] = x at *
      obtain ⟨u, v, ss⟩ := x
      simp only at hc1 hc2 hx
      have HX := Hid.of hx
      have i0 : (0 : Int) ≤ (j : Int) := Int.natCast_nonneg _
      have i1 : (j : Int) < (ls.length : Int) := by omega
      clear hx HV HW HP hl1 hl2
      go_wp2
      go_quiet ((go_at_call 14; exact quiet_more (SameRecords_quiet u v ss _ (CellRow.drewN HX.out.1 _) (CellRow.drewN HX.out.2.1 _) HX.out.2.2)))
      go_wp2
      go_roundw
      case rel => exact ⟨j + 1, by omega, by go_num, _, rfl⟩
      case measure => simp [RowKit.intOf]; omega
    · go_wp2
      go_ret
      exact ⟨rfl, q, rfl⟩

end Go.Proofs.YtdchjcidfaencaaGreat

namespace Go.Proofs.YtdchjcidfaencaaGreat
open Go.RowKit Go.Lib

theorem SameRecords_named (u v : Value) (ss : List RecL) (n : Nat) (hl : ss.length = n) (w : World) (hu : CellRow w u n (flat renc ss)) (hv : CellRow w v n (flat renc ss)) (hn : n ≤ 1000000) :
    Calls Tryz.prog 14 #[u, v] w fun e w' => e = .returned (.bool true) ∧ ∃ q, w' = w.drewN q := by
  subst hl
  exact SameRecords_quiet u v ss w hu hv hn

/-- Lists of ints, each with its own marks. -/
def MarkedR (w : World) (ls : List (Value × Nat)) : Prop := ∀ (i : Nat) (x : Value × Nat), ls[i]? = some x → CellRow w x.1 x.2 (flat renc (rmarks i 0 x.2)) ∧ x.2 ≤ 1000000

set_option maxHeartbeats 800000 in
theorem markedRecords_any (L : Value) (ls : List (Value × Nat)) (w : World) (hL : CellRow w L ls.length (ls.map (·.1))) (hm : MarkedR w ls) (hn : ls.length ≤ 1000) :
    Calls Tryz.prog 65 #[L] w fun e w' => e = .returned (.bool true) ∧ Below w.heap.size w w' := by
  have HL := Hid.of hL
  have HM := Hid.of hm
  clear hm
  obtain ⟨la, lc, rfl, _⟩ := hL
  go_enter Tryz.func65, Tryz.ntmps65
  go_wp2
  go_loopw [3] (fun i wr => ∃ j : Nat, j ≤ ls.length ∧ i = .int .i64 j ∧ Below w.heap.size w wr) (fun i _ => ls.length - (RowKit.intOf i).toNat)
  case atStart => exact ⟨0, Nat.zero_le _, rfl, Below.refl _ _⟩
  case round =>
    obtain ⟨j, hj, rfl, hb⟩ := hrel
    by_cases hlt : j < ls.length
    · obtain ⟨b1, o1, rfl, hl1, hc1⟩ := HL.out.at j ls[j].1 (by simp [hlt])
      have hx := HM.out j ls[j] (by simp [hlt])
      generalize ls[j] = x at *
      obtain ⟨u, m⟩ := x
      simp only at hc1 hx
      obtain ⟨ua, uc, rfl, _⟩ := hx.1
      have q0 : wr.cell? ⟨b1, o1 + j, none⟩ = some (.slice ua m uc) := by rw [hb.cell hl1]; exact hc1
      have HX := Hid.of hx
      have HC := Hid.of hc1
      have HB := Hid.of hb
      have i0 : (0 : Int) ≤ (j : Int) := Int.natCast_nonneg _
      have i1 : (j : Int) < (ls.length : Int) := by omega
      clear hx HL HM hc1 hb
      go_wp2
      go_region_held3 (fun w' => w'.cell? ⟨b1, o1 + j, none⟩ = some (.slice ua m uc)) (go_keep) (first | (go_at_call 14; refine (SameRecords_named _ _ (rmarks j 0 m) m (rmarks_length j 0 m) _ (HX.out.1.kept C3.out) OM.out HX.out.2).mono ?_; rintro e' n4 ⟨rfl, q4, rfl⟩) | (go_at_call 95; refine (markRecords_any j 0 m (by omega) (by omega) HX.out.2 _).mono ?_; rintro e' n3 ⟨mv, rfl, om, c3⟩; have C3 := Hid.of (HB.out.drew.trans (c3.mono HB.out.drew.size)); have OM := Hid.of (own_row om); clear c3 om q0; have q0 : n3.cell? ⟨b1, o1 + j, none⟩ = some (.slice ua m uc) := (by rw [C3.out.cell hl1]; exact HC.out)))
      all_goals
        go_wp2
        go_roundw
        case rel => exact ⟨j + 1, by omega, by go_num, below_drewN C3.out _⟩
        case measure => simp [RowKit.intOf]; omega
    · go_wp2
      go_ret
      exact ⟨rfl, hb⟩

end Go.Proofs.YtdchjcidfaencaaGreat

namespace Go.Proofs.YtdchjcidfaencaaGreat
open Go.RowKit Go.Lib

set_option maxRecDepth 20000 in
set_option maxHeartbeats 1600000 in
theorem Records_any (p D : Nat) (V W l : Value) (N : Nat) (LV LW : List Value) (ss : List RecL) (rs : List Row1) (cs : Array Value) (T : TypeId) (w : World)
    (hp : p < D) (hD : D ≤ w.heap.size) (hB : w.heap[p]? = some (.cells cs T (0, 0))) (h2 : cs[4]? = some V) (h3 : cs[5]? = some W) (hN : N < 250) (hn : ss.length ≤ 1000000)
    (hb : Bag D w (⟨49, 1, V, N, LV⟩ :: ⟨49, 1, W, N, LW⟩ :: ⟨61, 7, l, ss.length, flat renc ss⟩ :: rs) []) :
    Calls Tryz.prog 12 #[.pointer (some ⟨p, 0, none⟩), l] w fun e w' => e = .returned (.tuple #[]) ∧ ∃ V' W' u,
      w'.heap[p]? = some (.cells ((cs.setIfInBounds 4 V').setIfInBounds 5 W') T (0, 0)) ∧ Below p w w' ∧
      Bag D w' (⟨49, 1, V', N + 1, LV ++ [l]⟩ :: ⟨49, 1, W', N + 1, LW ++ [u]⟩ :: ⟨61, 7, l, ss.length, flat renc ss⟩ :: ⟨61, 7, u, ss.length, flat renc ss⟩ :: rs) [] := by
  obtain ⟨i0, hi, hz0, hz1, hz2⟩ := info_parts (show (Tryz.prog.info? 49).map (fun i => (i.zero, i.size, i.bytes)) = some (some (.slice none 0 0), 1, 24) by kernel_rfl)
  have HI := Hid.of hi
  have HZ0 := Hid.of hz0
  have HZ1 := Hid.of hz1
  have HZ2 := Hid.of hz2
  clear hi hz0 hz1 hz2
  have HB := Hid.of hb
  have oV : Hid (w.ownsRow D 49 1 V N LV) := Hid.of (hb.own _ (List.mem_cons_self ..))
  have oW : w.ownsRow D 49 1 W N LW := hb.own _ (List.mem_cons_of_mem _ (List.mem_cons_self ..))
  have ol := hb.own _ (List.mem_cons_of_mem _ (List.mem_cons_of_mem _ (List.mem_cons_self ..)))
  obtain ⟨la, lc, hle, _⟩ := own_one ol
  simp only at hle
  obtain ⟨Va, Vc, hVe, _⟩ := own_one oV.out
  obtain ⟨Wa, Wc, hWe, _⟩ := own_one oW
  subst hVe
  subst hWe
  subst hle
  have hpl : p < w.heap.size := by omega
  have c2 : w.cell? ⟨p, 4, none⟩ = some (.slice Va N Vc) := by rw [cell_of_row w p 4 _ _ _ hB]; exact h2
  have N0 : (N : Int) < 250 := by omega
  have HBk := Hid.of hB
  have H2 := Hid.of h2
  have H3 := Hid.of h3
  obtain ⟨n, hnn⟩ : ∃ n, ss.length = n := ⟨_, rfl⟩
  clear hb ol oW hB h2 h3
  rw [hnn] at HB hn ⊢
  have HNN := Hid.of hnn
  clear hnn
  go_enter Tryz.func12, Tryz.ntmps12
  go_wp2_with (at_builtin; refine append_keep_law rfl _ _ 37 rfl D 49 i0 (.slice none 0 0) 1 24 Tryz.underlying37 HI.out HZ0.out HZ1.out HZ2.out rfl (by decide) (.slice Va N Vc) N LV rfl (oV.out.alloc _) w.heap.size 0 1 1 [.slice la n lc] rfl (one_cell w _ _) rfl (by simp [Value.oneCell']) (by unfold maxLen; omega) (by omega) (by simp; omega) ?_; intro v1 w1 o1 g1 k1 m1; obtain ⟨a1, d1, e1, _⟩ := own_one o1; subst e1; have O1 := Hid.of o1; have G1 := Hid.of (grown_alloc g1); have M1 := Hid.of m1; have P1 := Hid.of (block_kept HBk.out hp G1.out (fun g hg => (oV.out.lt g hg).1)); have c3 : w1.cell? ⟨p, 4, none⟩ = some (.slice Va N Vc) := (cell_of_row w1 p 4 _ _ _ P1.out).trans H2.out; have f3 : w1.frozen? ⟨p, 4, none⟩ = false := row_frozen P1.out; clear o1 g1 k1 m1)
  have hm := M1.out
  have B1 : Bag D w1 _ [] := HB.out.grow G1.out O1.out (hm.imp_right fun ⟨g, e, h⟩ => ⟨g, e, by simp at h; omega⟩)
  have B2 := B1.stored (p := p) (grownBy_setCell w1 p 4 (.slice a1 (N + 1) d1)) hp
  have P2 := row_set (i := 4) P1.out (.slice a1 (N + 1) d1)
  have b2 : Below p w (w1.setCell ⟨p, 4, none⟩ (.slice a1 (N + 1) d1)) := by
    have x1 := (Below.refl p w).grown G1.out (by omega) (fun k hk => by have := (oV.out.lt k hk).1; omega)
    exact x1.grown (grownBy_setCell w1 p 4 (.slice a1 (N + 1) d1)) (by have := x1.size; omega) (fun k hk => by simp at hk; omega)
  obtain ⟨w2, hw2⟩ : ∃ w2, w1.setCell ⟨p, 4, none⟩ (.slice a1 (N + 1) d1) = w2 := ⟨_, rfl⟩
  rw [hw2] at B2 P2 b2 ⊢
  clear hw2 B1 hm O1 G1 M1 P1 c3 f3 c2 oV HBk HB
  have hc3 : (cs.setIfInBounds 4 (.slice a1 (N + 1) d1))[5]? = some (.slice Wa N Wc) := by
    rw [Array.getElem?_setIfInBounds_ne (by decide)]; exact H3.out
  have hpl2 : p < w2.heap.size := (Array.getElem?_eq_some_iff.1 P2).1
  have q0 : w2.cell? ⟨p, 5, none⟩ = some (.slice Wa N Wc) := by rw [cell_of_row w2 p 5 _ _ _ P2]; exact hc3
  have Q0 := Hid.of q0
  have BB2 := Hid.of B2
  have PP2 := Hid.of P2
  have Bb2 := Hid.of b2
  have hD2 : D ≤ w2.heap.size := Nat.le_trans hD b2.size
  have HL : Hid (CellRow w2 (.slice la n lc) n (flat renc ss)) := Hid.of (own_row (B2.own _ (List.mem_cons_of_mem _ (List.mem_cons_of_mem _ (List.mem_cons_self ..)))))
  have H33 := Hid.of hc3
  have HLC : Hid (CellRow w2 (.slice la n lc) ss.length (flat renc ss)) := Hid.of (by rw [HNN.out]; exact HL.out)
  clear B2 P2 b2 hc3
  go_region_law (first | (refine step_append_keep rfl (.tmp 24) (.tmp 27) 37 rfl D 49 i0 (.slice none 0 0) 1 24 Tryz.underlying37 HI.out HZ0.out HZ1.out HZ2.out rfl (by decide) (.slice Wa N Wc) N LW (by simp [Act.eval]) (OW3.out.alloc _) n3.heap.size 0 1 1 [.slice ua n uc] (by simp [Act.eval]) (one_cell n3 _ _) rfl (by simp [Value.oneCell']) (by unfold maxLen; omega) (by omega) (by simp; omega) ?_; intro v4 w4 o4 g4 k4 m4; obtain ⟨a4, d4, e4, _⟩ := own_one o4; subst e4; have O4 := Hid.of o4; have G4 := Hid.of (grown_alloc g4); have M4 := Hid.of m4; have P4 := Hid.of (block_kept P3.out hp G4.out (fun g hg => (OW3.out.lt g hg).1)); clear q0; have q0 : w4.cell? ⟨p, 5, none⟩ = some (.slice Wa N Wc) := (cell_of_row w4 p 5 _ _ _ P4.out).trans H33.out; have f4 : w4.frozen? ⟨p, 5, none⟩ = false := row_frozen P4.out; clear o4 g4 k4 m4) | (go_simp; go_at_call 28; refine (copyRecords_any (.slice la n lc) ss _ (by exact HLC.out) (by rw [HNN.out]; exact hn)).mono ?_; rintro e' n3 ⟨uv, rfl, ou, c3⟩; rw [HNN.out] at ou; obtain ⟨ua, uc, hue, _⟩ := own_one ou; subst hue; have C3 : Hid (Below w2.heap.size w2 n3) := Hid.of ((Below.refl _ w2).drew.trans c3); have OU := Hid.of ou; have B3 := Hid.of (BB2.out.below C3.out); have P3 := Hid.of (block_kept PP2.out hp (grown_of_below C3.out) (fun g hg => by cases hg)); have OW3 := Hid.of (B3.out.own _ (List.mem_cons_of_mem _ (List.mem_cons_self ..))); have hD3 : D ≤ n3.heap.size := Nat.le_trans hD2 c3.size; clear c3 ou q0; have q0 : n3.cell? ⟨p, 5, none⟩ = some (.slice Wa N Wc) := (by rw [C3.out.cell hpl2]; exact Q0.out); have qA : (n3.alloc (.cells #[.slice ua n uc] 49)).cell? ⟨p, 5, none⟩ = some (.slice Wa N Wc) := (cell_of_row _ p 5 _ _ _ (row_alloc P3.out)).trans H33.out))
  all_goals
    go_end0
    have n1 := BB2.out.new C3.out OU.out hD2
    have n2 := n1.perm (List.perm_middle (l₁ := [_, _]))
    have hm := M4.out.imp_right fun ⟨g, e, (h : (n3.alloc (Obj.cells #[Value.slice ua n uc] 49)).heap.size ≤ g)⟩ => (⟨g, e, by simp at h; omega⟩ : ∃ g, (Value.slice a4 (N + 1) d4).ownBlock = some g ∧ n3.heap.size ≤ g)
    have n3' := n2.grow G4.out O4.out hm
    have n4 := n3'.stored (p := p) (grownBy_setCell w4 p 5 (.slice a4 (N + 1) d4)) hp
    refine ⟨rfl, _, _, _, row_set (i := 5) P4.out (.slice a4 (N + 1) d4), ?_, n4.perm ((((List.Perm.swap _ _ _).cons _).trans (List.Perm.swap _ _ _)).trans (((List.Perm.swap _ _ _).cons _).cons _))⟩
    have x1 : Below p w n3 := Bb2.out.trans (C3.out.mono (by omega))
    have x2 := x1.grown G4.out (by have := x1.size; omega) (fun k hk => by have := (OW3.out.lt k hk).1; omega)
    exact x2.grown (grownBy_setCell w4 p 5 (.slice a4 (N + 1) d4)) (by have := x2.size; omega) (fun k hk => by simp at hk; omega)

end Go.Proofs.YtdchjcidfaencaaGreat

namespace Go.Proofs.YtdchjcidfaencaaGreat
open Go.RowKit Go.Lib

/-- A kept list of ints, and the same with its marks. -/
def rtodo (x : Value × List RecL) : Row1 := ⟨61, 7, x.1, x.2.length, flat renc x.2⟩
def rdone (i : Nat) (x : Value × List RecL) : Row1 := ⟨61, 7, x.1, x.2.length, flat renc (rmarks i 0 x.2.length)⟩

/-- The lists, of which the first j have their marks. -/
def rrows (j : Nat) (ls : List (Value × List RecL)) : List Row1 := ls.mapIdx fun i x => if i < j then rdone i x else rtodo x

theorem rrows_zero (ls : List (Value × List RecL)) : rrows 0 ls = ls.map rtodo := by
  unfold rrows
  apply List.ext_getElem?
  intro i
  simp

theorem rrows_length (j : Nat) (ls : List (Value × List RecL)) : (rrows j ls).length = ls.length := by simp [rrows]

theorem rrows_at (j : Nat) (ls : List (Value × List RecL)) (h : j < ls.length) : (rrows j ls)[j]? = some (rtodo ls[j]) := by
  simp [rrows, h]

theorem rrows_succ (j : Nat) (ls : List (Value × List RecL)) (h : j < ls.length) : (rrows j ls).set j (rdone j ls[j]) = rrows (j + 1) ls := by
  unfold rrows
  apply List.ext_getElem?
  intro i
  rw [List.getElem?_set]
  by_cases e : j = i
  · subst e
    simp [h]
  · rw [if_neg e]
    simp only [List.getElem?_mapIdx]
    by_cases h2 : i < ls.length
    · rw [List.getElem?_eq_getElem h2]
      simp only [Option.map_some, Option.some.injEq]
      by_cases h3 : i < j
      · rw [if_pos h3, if_pos (by omega)]
      · rw [if_neg h3, if_neg (by omega)]
    · rw [List.getElem?_eq_none (by omega)]
      rfl

set_option maxRecDepth 20000 in
set_option maxHeartbeats 6400000 in
theorem putRecords_any (p D : Nat) (V : Value) (ls : List (Value × List RecL)) (rs : List Row1) (cs : Array Value) (T : TypeId) (w : World)
    (hp : p < D) (hD : D ≤ w.heap.size) (hB : w.heap[p]? = some (.cells cs T (0, 0))) (h2 : cs[4]? = some V) (hN : ls.length ≤ 1000) (hn : ∀ x ∈ ls, x.2.length ≤ 1000000)
    (hb : Bag D w (⟨49, 1, V, ls.length, ls.map (·.1)⟩ :: (rrows 0 ls ++ rs)) []) :
    Calls Tryz.prog 50 #[.pointer (some ⟨p, 0, none⟩)] w fun e w' => e = .returned (.tuple #[]) ∧ Below p w w' ∧ w'.heap[p]? = some (.cells cs T (0, 0)) ∧
      Bag D w' (⟨49, 1, V, ls.length, ls.map (·.1)⟩ :: (rrows ls.length ls ++ rs)) [] := by
  have HB := Hid.of hb
  have HBk := Hid.of hB
  have H2 := Hid.of h2
  have HNN := Hid.of hn
  obtain ⟨Va, Vc, hVe, _⟩ := own_one (hb.own _ (List.mem_cons_self ..))
  simp only at hVe
  subst hVe
  have hpl : p < w.heap.size := by omega
  clear hb hB h2 hn
  go_enter Tryz.func50, Tryz.ntmps50
  go_wp2
  go_loopw [2] (fun i wr => ∃ j : Nat, j ≤ ls.length ∧ i = .int .i64 j ∧ Hid (wr.heap[p]? = some (.cells cs T (0, 0))) ∧ Hid (Below p w wr) ∧ Hid (Bag D wr (⟨49, 1, .slice Va ls.length Vc, ls.length, ls.map (·.1)⟩ :: (rrows j ls ++ rs)) [])) (fun i _ => ls.length - (RowKit.intOf i).toNat)
  case atStart => exact ⟨0, Nat.zero_le _, rfl, HBk, Hid.of (Below.refl _ _), HB⟩
  case round =>
    obtain ⟨j, hj, rfl, PB, Bw, BB⟩ := hrel
    have c2 : wr.cell? ⟨p, 4, none⟩ = some (.slice Va ls.length Vc) := by rw [cell_of_row wr p 4 _ _ _ PB.out]; exact H2.out
    have i0 : (0 : Int) ≤ (j : Int) := Int.natCast_nonneg _
    by_cases hlt : j < ls.length
    · have i1 : (j : Int) < (ls.length : Int) := by omega
      have hVr := own_row (BB.out.own _ (List.mem_cons_self ..))
      obtain ⟨bV, oV, rfl, hlV, hcV⟩ := hVr.at j ls[j].1 (by simp [hlt])
      have hat := rrows_at j ls hlt
      have F0 := BB.out.front hat
      have hx := HNN.out ls[j] (List.getElem_mem hlt)
      have hset := rrows_succ j ls hlt
      have hmj : (ls.map (·.1))[j]? = some ls[j].1 := by simp [hlt]
      generalize hxx : ls[j] = x at *
      obtain ⟨v, xs⟩ := x
      simp only [rtodo] at hcV hx F0 hset hmj
      obtain ⟨va, vc, hve, _⟩ := own_one (F0.own _ (List.mem_cons_self ..))
      simp only at hve
      subst hve
      have FF := Hid.of F0
      have HS := Hid.of hset
      obtain ⟨n, hnn⟩ : ∃ n, xs.length = n := ⟨_, rfl⟩
      rw [hnn] at hcV hx FF hmj
      have HMJ := Hid.of hmj
      have HCV := Hid.of hcV
      have HLN := Hid.of hnn
      have hDr : D ≤ wr.heap.size := by have := Bw.out.size; omega
      clear F0 hat hset hxx hVr hnn hmj
      go_wp2_with (go_at_call 95; refine (markRecords_any j 0 n (by omega) (by omega) hx _).mono ?_; rintro e' n3 ⟨mv, rfl, om, c3⟩; obtain ⟨ma, mc, hme, _⟩ := own_one om; subst hme; have OM := Hid.of om; have C3 := Hid.of c3; clear om c3)
      have N1 := (FF.out.new C3.out OM.out hDr).perm (List.Perm.swap _ _ _)
      obtain ⟨M, hM⟩ : ∃ M, rmarks j 0 n = M := ⟨_, rfl⟩
      have hMl : M.length = xs.length := by rw [← hM, rmarks_length, HLN.out]
      have hMi : ∀ k, k < n → ∃ y, M[k]? = some y := fun k hk => ⟨_, List.getElem?_eq_getElem (by rw [hMl, HLN.out]; exact hk)⟩
      rw [hM] at N1
      have HM := Hid.of hM
      have HML := Hid.of hMl
      have HMI := Hid.of hMi
      obtain ⟨rest, hrest⟩ : ∃ rest, (rrows j ls).take j ++ (rrows j ls).drop (j + 1) ++ rs = rest := ⟨_, rfl⟩
      rw [hrest] at N1
      have HR := Hid.of hrest
      have NN : Hid (Bag D n3 (⟨61, 7, .slice va n vc, n, flat renc (parts M xs 0)⟩ :: ⟨61, 7, .slice ma n mc, n, flat renc M⟩ :: ⟨49, 1, .slice (some ⟨bV, oV, none⟩) ls.length Vc, ls.length, ls.map (·.1)⟩ :: rest) []) := Hid.of (by rw [parts_zero]; exact N1)
      have PN := Hid.of (block_kept PB.out hp (grown_of_below C3.out) (fun g hg => by cases hg))
      have BN : Hid (Below p w n3) := Hid.of (Bw.out.trans (C3.out.mono (by omega)))
      clear N1 hM hMl hMi hrest hcV c2 OM C3 FF BB
      go_loopw [4] (fun k wi => ∃ kk : Nat, kk ≤ n ∧ k = .int .i64 kk ∧ Hid (wi.heap[p]? = some (.cells cs T (0, 0))) ∧ Hid (Below p w wi) ∧
        Hid (Bag D wi (⟨61, 7, .slice va n vc, n, flat renc (parts M xs kk)⟩ :: ⟨61, 7, .slice ma n mc, n, flat renc M⟩ :: ⟨49, 1, .slice (some ⟨bV, oV, none⟩) ls.length Vc, ls.length, ls.map (·.1)⟩ :: rest) [])) (fun k _ => n - (RowKit.intOf k).toNat)
      case atStart => exact ⟨0, Nat.zero_le _, rfl, PN, BN, NN⟩
      case round =>
        obtain ⟨k, hk, rfl, PK, BK, BB⟩ := hrel
        have c2 : wr.cell? ⟨p, 4, none⟩ = some (.slice (some ⟨bV, oV, none⟩) ls.length Vc) := by rw [cell_of_row wr p 4 _ _ _ PK.out]; exact H2.out
        by_cases hkn : k < n
        · obtain ⟨y, hy⟩ := HMI.out k hkn
          have oR := BB.out.own _ (List.mem_cons_self ..)
          have cM := own_row (BB.out.own _ (List.mem_cons_of_mem _ (List.mem_cons_self ..)))
          have cV := own_row (BB.out.own _ (List.mem_cons_of_mem _ (List.mem_cons_of_mem _ (List.mem_cons_self ..))))
          simp only at oR cM cV
          obtain ⟨bm, om, rfl, hlm, hcm⟩ := r_at cM k y hy
          obtain ⟨y0, y1, y2, y3, y4, y5, y6⟩ := y
          obtain ⟨m0, m1, m2, m3, m4, m5, m6⟩ := hcm
          simp only at m0 m1 m2 m3 m4 m5 m6
          obtain ⟨bW, oW, hW, hlW, hcW⟩ := cV.at j (.slice va n vc) HMJ.out
          simp only [Option.some.injEq, Addr.mk.injEq, and_true] at hW
          obtain ⟨rfl, rfl⟩ := hW
          obtain ⟨g, hg⟩ : ∃ g, va = some ⟨g, 0, none⟩ := by
            rcases oR.2 with ⟨h, h'⟩ | ⟨g, cap, cur, h, _⟩
            · omega
            · simp only [Value.slice.injEq] at h
              exact ⟨g, h.1⟩
          subst hg
          have hct0 := oR.cellAt (k * 7) (by omega)
          have hfz0 := oR.frozenAt (k * 7)
          obtain ⟨u0, hu0⟩ : ∃ u, (flat renc (parts M xs k))[k * 7]? = some u := ⟨_, List.getElem?_eq_getElem (by rw [oR.1]; omega)⟩
          rw [hu0] at hct0
          have hct1 := oR.cellAt (k * 7 + 1) (by omega)
          have hfz1 := oR.frozenAt (k * 7 + 1)
          obtain ⟨u1, hu1⟩ : ∃ u, (flat renc (parts M xs k))[k * 7 + 1]? = some u := ⟨_, List.getElem?_eq_getElem (by rw [oR.1]; omega)⟩
          rw [hu1] at hct1
          have hct2 := oR.cellAt (k * 7 + 2) (by omega)
          have hfz2 := oR.frozenAt (k * 7 + 2)
          obtain ⟨u2, hu2⟩ : ∃ u, (flat renc (parts M xs k))[k * 7 + 2]? = some u := ⟨_, List.getElem?_eq_getElem (by rw [oR.1]; omega)⟩
          rw [hu2] at hct2
          have hct3 := oR.cellAt (k * 7 + 3) (by omega)
          have hfz3 := oR.frozenAt (k * 7 + 3)
          obtain ⟨u3, hu3⟩ : ∃ u, (flat renc (parts M xs k))[k * 7 + 3]? = some u := ⟨_, List.getElem?_eq_getElem (by rw [oR.1]; omega)⟩
          rw [hu3] at hct3
          have hct4 := oR.cellAt (k * 7 + 4) (by omega)
          have hfz4 := oR.frozenAt (k * 7 + 4)
          obtain ⟨u4, hu4⟩ : ∃ u, (flat renc (parts M xs k))[k * 7 + 4]? = some u := ⟨_, List.getElem?_eq_getElem (by rw [oR.1]; omega)⟩
          rw [hu4] at hct4
          have hct5 := oR.cellAt (k * 7 + 5) (by omega)
          have hfz5 := oR.frozenAt (k * 7 + 5)
          obtain ⟨u5, hu5⟩ : ∃ u, (flat renc (parts M xs k))[k * 7 + 5]? = some u := ⟨_, List.getElem?_eq_getElem (by rw [oR.1]; omega)⟩
          rw [hu5] at hct5
          have hct6 := oR.cellAt (k * 7 + 6) (by omega)
          have hfz6 := oR.frozenAt (k * 7 + 6)
          obtain ⟨u6, hu6⟩ : ∃ u, (flat renc (parts M xs k))[k * 7 + 6]? = some u := ⟨_, List.getElem?_eq_getElem (by rw [oR.1]; omega)⟩
          rw [hu6] at hct6
          have k0 : (0 : Int) ≤ (k : Int) := Int.natCast_nonneg _
          have k1 : (k : Int) < (n : Int) := by omega
          have OR := Hid.of oR
          have HY := Hid.of hy
          clear oR cM cV hu0 hu1 hu2 hu3 hu4 hu5 hu6 hy hlm hlW
          go_wp2
          go_region_law (fail)
          all_goals
            go_wp2
            go_roundw
            case rel =>
              obtain ⟨s1, s2⟩ := setCells_own (renc (y0, y1, y2, y3, y4, y5, y6)) (k * 7) OR.out
              rw [parts_set renc_len M xs k _ HY.out HML.out] at s1
              have B1 := BB.out.grow s2 s1 (.inl rfl)
              refine ⟨k + 1, by omega, by go_num, Hid.of ?_, Hid.of ?_, Hid.of (B1.below ((Below.refl _ _).drew))⟩
              · exact block_kept PK.out hp (grownBy_drew s2) (fun g' hg' => by have := OR.out.lt g' (by simpa [Value.ownBlock] using hg'); omega)
              · exact (BK.out.grown s2 (by have := BK.out.size; omega) (fun g' hg' => by have := OR.out.lt g' (by simpa [Value.ownBlock] using hg'); omega)).drew
            case measure => simp [RowKit.intOf]; omega
        · have : k = n := by omega
          subst this
          go_wp2
          have hkx := HLN.out
          subst hkx
          have B1 := (BB.out.perm (List.Perm.swap _ _ _)).drop
          rw [parts_all M xs HML.out, ← HM.out, ← HR.out] at B1
          have B2 := B1.back (by rw [rrows_length]; exact hlt)
          have B3 : Bag D wr (⟨49, 1, .slice (some ⟨bV, oV, none⟩) ls.length Vc, ls.length, ls.map (·.1)⟩ :: (rrows (j + 1) ls ++ rs)) [] := by
            have h := HS.out
            unfold rdone at h
            rw [← h]
            exact B2
          exact ⟨⟨j + 1, by omega, by go_num, PK, BK, Hid.of B3⟩, by simp [RowKit.intOf]; omega⟩
    · go_wp2
      go_end0
      have : j = ls.length := by omega
      subst this
      exact ⟨rfl, Bw.out, PB.out, BB.out⟩

end Go.Proofs.YtdchjcidfaencaaGreat

namespace Go.Proofs.YtdchjcidfaencaaGreat
open Go.RowKit Go.Lib

theorem marks_oneR (j n : Nat) : flat renc (rmarks j 0 n) ++ flat renc (rmarks j n 1) = flat renc (rmarks j 0 (n + 1)) := by
  rw [← flat_append]
  have := rmarks_add j 0 n 1
  rw [Nat.zero_add] at this
  rw [this]

theorem marks_moreR (j n k : Nat) : flat renc (rmarks j 0 n) ++ flat renc (rmarks j n k) = flat renc (rmarks j 0 (n + k)) := by
  rw [← flat_append]
  have := rmarks_add j 0 n k
  rw [Nat.zero_add] at this
  rw [this]

/-- What has been grown, up to the list j: all are put aside. -/
structure GrownR (j : Nat) (ls : List (Value × List RecL)) (gs : List Value) (qs0 qs : List Row1) : Prop where
  len : gs.length = j
  was : ∀ i x, i < j → ls[i]? = some x → rdone i x ∈ qs
  now : ∀ i x v, i < j → ls[i]? = some x → gs[i]? = some v → (⟨61, 7, v, x.2.length + 72, flat renc (rmarks i 0 (x.2.length + 72))⟩ : Row1) ∈ qs
  old : ∀ q ∈ qs0, q ∈ qs

theorem GrownR.step {j m : Nat} {ls : List (Value × List RecL)} {gs : List Value} {qs qj : List Row1} {x : Value × List RecL} {v : Value} (h : GrownR j ls gs qs qj) (hx : ls[j]? = some x) (hm : m = x.2.length + 72) :
    GrownR (j + 1) ls (gs ++ [v]) qs (rdone j x :: ⟨61, 7, v, m, flat renc (rmarks j 0 m)⟩ :: qj) := by
  subst hm
  refine ⟨by simp [h.len], fun i y hi hy => ?_, fun i y u hi hy hu => ?_, fun q hq => List.mem_cons_of_mem _ (List.mem_cons_of_mem _ (h.old q hq))⟩
  · by_cases e : i = j
    · subst e
      rw [hx] at hy
      simp only [Option.some.injEq] at hy
      subst hy
      exact List.mem_cons_self ..
    · exact List.mem_cons_of_mem _ (List.mem_cons_of_mem _ (h.was i y (by omega) hy))
  · by_cases e : i = j
    · subst e
      rw [hx] at hy
      simp only [Option.some.injEq] at hy
      subst hy
      rw [List.getElem?_append_right (by rw [h.len]; exact Nat.le_refl _), h.len, Nat.sub_self] at hu
      simp at hu
      subst hu
      exact List.mem_cons_of_mem _ (List.mem_cons_self ..)
    · rw [List.getElem?_append_left (by rw [h.len]; omega)] at hu
      exact List.mem_cons_of_mem _ (List.mem_cons_of_mem _ (h.now i y u (by omega) hy hu))

set_option maxRecDepth 20000 in
set_option maxHeartbeats 3200000 in
theorem growRecords_any (p D : Nat) (V : Value) (ls : List (Value × List RecL)) (rs qs : List Row1) (cs : Array Value) (T : TypeId) (w : World)
    (hp : p < D) (hD : D ≤ w.heap.size) (hB : w.heap[p]? = some (.cells cs T (0, 0))) (h2 : cs[4]? = some V) (hN : ls.length ≤ 1000) (hn : ∀ x ∈ ls, x.2.length ≤ 900000)
    (hb : Bag D w (⟨49, 1, V, ls.length, ls.map (·.1)⟩ :: (rrows ls.length ls ++ rs)) qs) :
    Calls Tryz.prog 57 #[.pointer (some ⟨p, 0, none⟩)] w fun e w' => ∃ G gs qs', e = .returned G ∧ Below p w w' ∧ w'.heap[p]? = some (.cells cs T (0, 0)) ∧ GrownR ls.length ls gs qs qs' ∧
      Bag D w' (⟨49, 1, G, ls.length, gs⟩ :: ⟨49, 1, V, ls.length, ls.map (·.1)⟩ :: rs) qs' := by
  have HB := Hid.of hb
  have HBk := Hid.of hB
  have H2 := Hid.of h2
  have HNN := Hid.of hn
  obtain ⟨Va, Vc, hVe, _⟩ := own_one (hb.own _ (List.mem_cons_self ..))
  simp only at hVe
  subst hVe
  have hpl : p < w.heap.size := by omega
  obtain ⟨A, hA⟩ : ∃ A, rrows ls.length ls = A := ⟨_, rfl⟩
  have hAi : ∀ i x, ls[i]? = some x → A[i]? = some (rdone i x) := by
    intro i x hx
    obtain ⟨hi, rfl⟩ := List.getElem?_eq_some_iff.1 hx
    rw [← hA]
    simp [rrows, hi]
  have hAl : A.length = ls.length := by rw [← hA]; exact rrows_length _ _
  rw [hA] at HB
  have HAI := Hid.of hAi
  have HAL := Hid.of hAl
  obtain ⟨i0, hi, hz0, hz1, hz2⟩ := info_parts (show (Tryz.prog.info? 61).map (fun i => (i.zero, i.size, i.bytes)) = some (some (.agg #[.string ⟨#[]⟩, .int .i64 0, .int .i64 0, .int .i64 0, .int .u64 0, .int .i64 0, .int .i64 0]), 7, 64) by kernel_rfl)
  have HI := Hid.of hi
  have HZ0 := Hid.of hz0
  have HZ1 := Hid.of hz1
  have HZ2 := Hid.of hz2
  obtain ⟨j0, ji, jz0, jz1, jz2⟩ := info_parts (show (Tryz.prog.info? 49).map (fun i => (i.zero, i.size, i.bytes)) = some (some (.slice none 0 0), 1, 24) by kernel_rfl)
  have JI := Hid.of ji
  have JZ0 := Hid.of jz0
  have JZ1 := Hid.of jz1
  have JZ2 := Hid.of jz2
  have START : Hid (Bag D w (⟨49, 1, .slice none 0 0, 0, []⟩ :: ⟨49, 1, .slice Va ls.length Vc, ls.length, ls.map (·.1)⟩ :: (A.drop 0 ++ rs)) qs) := by
    refine Hid.of ⟨fun r hr => ?_, List.pairwise_cons.2 ⟨fun x _ g hg => ?_, HB.out.apart⟩, HB.out.seen, fun q hq r hr => ?_⟩
    · rcases List.mem_cons.1 hr with rfl | hr
      · exact World.ownsRow_nil w D _ 1
      · exact HB.out.own r hr
    · cases hg
    · rcases List.mem_cons.1 hr with rfl | hr
      · intro g _ h
        cases h
      · exact HB.out.off q hq r hr
  have GS : Hid (GrownR 0 ls [] qs qs) := Hid.of ⟨rfl, fun i x h => by omega, fun i x v h => by omega, fun q hq => hq⟩
  clear hb hB h2 hn hA hAi hAl hi hz0 hz1 hz2 ji jz0 jz1 jz2 HB
  go_enter Tryz.func57, Tryz.ntmps57
  go_wp2
  go_loopw [3, 4] (fun o i wr => ∃ (j : Nat) (gs : List Value) (qj : List Row1), j ≤ ls.length ∧ i = .int .i64 j ∧ Hid (wr.heap[p]? = some (.cells cs T (0, 0))) ∧ Hid (Below p w wr) ∧ Hid (GrownR j ls gs qs qj) ∧
    Hid (Bag D wr (⟨49, 1, o, j, gs⟩ :: ⟨49, 1, .slice Va ls.length Vc, ls.length, ls.map (·.1)⟩ :: (A.drop j ++ rs)) qj)) (fun _ i _ => ls.length - (RowKit.intOf i).toNat)
  case atStart => exact ⟨0, [], qs, Nat.zero_le _, rfl, HBk, Hid.of (Below.refl _ _), GS, START⟩
  case round =>
    obtain ⟨j, gs, qj, hj, rfl, PB, Bw, GJ, BB⟩ := hrel
    have c2 : wr.cell? ⟨p, 4, none⟩ = some (.slice Va ls.length Vc) := by rw [cell_of_row wr p 4 _ _ _ PB.out]; exact H2.out
    have i0' : (0 : Int) ≤ (j : Int) := Int.natCast_nonneg _
    by_cases hlt : j < ls.length
    · have i1 : (j : Int) < (ls.length : Int) := by omega
      have hVr := own_row (BB.out.own _ (List.mem_cons_of_mem _ (List.mem_cons_self ..)))
      obtain ⟨bV, oV, rfl, hlV, hcV⟩ := hVr.at j ls[j].1 (by simp [hlt])
      have hdrop : A.drop j = rdone j ls[j] :: A.drop (j + 1) := by
        have h1 := HAI.out j ls[j] (by simp [hlt])
        obtain ⟨h2, h3⟩ := List.getElem?_eq_some_iff.1 h1
        rw [List.drop_eq_getElem_cons h2, h3]
      have hx := HNN.out ls[j] (List.getElem_mem hlt)
      have F0 := BB.out
      rw [hdrop] at F0
      have hls : ls[j]? = some ls[j] := List.getElem?_eq_getElem hlt
      generalize hxx : ls[j] = x at *
      obtain ⟨v, xs⟩ := x
      simp only [rdone] at hcV hx F0
      have F1 := F0.perm (((List.Perm.swap _ _ _).cons _).trans (List.Perm.swap _ _ _))
      obtain ⟨va, vc, hve, _⟩ := own_one (F1.own _ (List.mem_cons_self ..))
      simp only at hve
      subst hve
      obtain ⟨oa, oc, hoe, _⟩ := own_one (BB.out.own _ (List.mem_cons_self ..))
      simp only at hoe
      subst hoe
      have FF := Hid.of F1
      have HLS := Hid.of hls
      have OWN : Hid (wr.ownsRow D 61 7 (.slice va xs.length vc) xs.length (flat renc (rmarks j 0 xs.length))) := Hid.of (F1.own _ (List.mem_cons_self ..))
      have hDr : D ≤ wr.heap.size := by have := Bw.out.size; omega
      obtain ⟨n, hnn⟩ : ∃ n, xs.length = n := ⟨_, rfl⟩
      have HLN := Hid.of hnn
      rw [hnn] at hcV hx FF OWN
      clear F1 F0 hdrop hls hxx hVr BB hnn START GS
      go_wp2
      go_loopw [5, 6] (fun l k wi => ∃ kk : Nat, kk ≤ 12 ∧ k = .int .i64 kk ∧ Hid (GrewS D 61 7 wr wi (.slice va n vc) n l (n + kk) (flat renc (rmarks j 0 (n + kk))))) (fun _ k _ => 12 - (RowKit.intOf k).toNat)
      case atStart => exact ⟨0, by omega, rfl, Hid.of (GrewS.refl OWN.out)⟩
      case round =>
        obtain ⟨kk, hkk, rfl, GR⟩ := hrel
        obtain ⟨m, hm⟩ : ∃ m, n + kk = m := ⟨_, rfl⟩
        rw [hm] at GR
        obtain ⟨la, lc, hle, _⟩ := own_one GR.out.own
        subst hle
        have hm9 : m ≤ 900012 := by omega
        have k0 : (0 : Int) ≤ (kk : Int) := Int.natCast_nonneg _
        by_cases hk12 : kk < 12
        · have HMM := Hid.of hm
          have k1 : (kk : Int) < 12 := by omega
          have K12 := Hid.of hk12
          clear hm c2 hcV hk12 hkk
          go_wp2_with (first | (at_builtin; (refine append_keep_law rfl _ _ 49 rfl D 61 i0 (.agg #[.string ⟨#[]⟩, .int .i64 0, .int .i64 0, .int .i64 0, .int .u64 0, .int .i64 0, .int .i64 0]) 7 64 Tryz.underlying49 HI.out HZ0.out HZ1.out HZ2.out rfl (by decide) (.slice la m lc) m _ rfl G3.out.own bm om' 1 mc (flat renc (rmarks j m 1)) rfl CM.out (by rw [flat_length renc_len, rmarks_length]) (flat_ones renc_one _) (by unfold maxLen; omega) (by omega) hD3 ?_; intro v4 w4 o4 g4 k4 m4; have G4 := Hid.of (GrewS.append OWN.out G3.out o4 (by omega) g4 k4 m4); clear o4 g4 k4 m4)) | (go_at_call 95; (refine (markRecords_any j m 1 (by omega) (by omega) (by omega) _).mono ?_; rintro e' n3 ⟨mv, rfl, om, c3⟩; have cm := own_row om; obtain ⟨am, mc, hme, cm⟩ := cm; subst hme; obtain ⟨bm, om', hma, _, cmm⟩ := cm.resolve_left (by intro hc; have hc := congrArg List.length hc; rw [flat_length renc_len, rmarks_length] at hc; simp at hc); subst hma; have CM := Hid.of cmm; have G3 := Hid.of (GrewS.below OWN.out GR.out c3); have hD3 : D ≤ n3.heap.size := (by have := GR.out.grown.size; have := c3.size; omega); clear c3 om cm cmm)))
          have G5 := G4.out
          rw [marks_oneR] at G5
          have hmm := HMM.out
          exact ⟨⟨kk + 1, by have := K12.out; omega, by go_num, Hid.of (by rw [← Nat.add_assoc, hmm]; exact G5)⟩, by have := K12.out; simp [RowKit.intOf]; omega⟩
        · have hkk12 : kk = 12 := by omega
          subst hkk12
          have HMM := Hid.of hm
          clear hm c2 hcV hk12 hkk k0
          go_wp2_with (first | (at_builtin; (refine append_keep_law rfl _ _ 49 rfl D 61 i0 (.agg #[.string ⟨#[]⟩, .int .i64 0, .int .i64 0, .int .i64 0, .int .u64 0, .int .i64 0, .int .i64 0]) 7 64 Tryz.underlying49 HI.out HZ0.out HZ1.out HZ2.out rfl (by decide) (.slice la m lc) m _ rfl G3.out.own bm om' 60 mc (flat renc (rmarks j m 60)) rfl CM.out (by rw [flat_length renc_len, rmarks_length]) (flat_ones renc_one _) (by unfold maxLen; omega) (by omega) hD3 ?_; intro v4 w4 o4 g4 k4 m4; have G4 := Hid.of (GrewS.append OWN.out G3.out o4 (by omega) g4 k4 m4); obtain ⟨ra, rc, e4, _⟩ := own_one o4; subst e4; have B4 := Hid.of (FF.out.regrownS G4.out); have O4 := Hid.of (B4.out.own _ (List.mem_cons_self ..)); have hD4 : D ≤ w4.heap.size := (by have := G4.out.grown.size; omega); clear o4 g4 k4 m4)) | (at_builtin; (refine append_keep_law rfl _ _ 37 rfl D 49 j0 (.slice none 0 0) 1 24 Tryz.underlying37 JI.out JZ0.out JZ1.out JZ2.out rfl (by decide) (.slice oa j oc) j gs rfl (O4.out.alloc _) w4.heap.size 0 1 1 [.slice ra (m + 60) rc] rfl (one_cell w4 _ _) rfl (by simp [Value.oneCell']) (by unfold maxLen; omega) (by omega) (by simp; omega) ?_; intro v5 w5 o5 g5 k5 m5; have O5 := Hid.of o5; have G5 := Hid.of (grown_alloc g5); have M5 := Hid.of m5; clear o5 g5 k5 m5)) | (go_at_call 95; (refine (markRecords_any j m 60 (by omega) (by omega) (by omega) _).mono ?_; rintro e' n3 ⟨mv, rfl, om, c3⟩; have cm := own_row om; obtain ⟨am, mc, hme, cm⟩ := cm; subst hme; obtain ⟨bm, om', hma, _, cmm⟩ := cm.resolve_left (by intro hc; have hc := congrArg List.length hc; rw [flat_length renc_len, rmarks_length] at hc; simp at hc); subst hma; have CM := Hid.of cmm; have G3 := Hid.of (GrewS.below OWN.out GR.out c3); have hD3 : D ≤ n3.heap.size := (by have := GR.out.grown.size; have := c3.size; omega); clear c3 om cm cmm)))
          have hkx := HLN.out
          subst hkx
          have hmm := HMM.out
          subst hmm
          have B5 := B4.out
          rw [marks_moreR] at B5
          have hm5 := M5.out.imp_right fun ⟨g, e, (h : (w4.alloc (Obj.cells #[Value.slice ra (xs.length + 12 + 60) rc] 49)).heap.size ≤ g)⟩ => (⟨g, e, by simp at h; omega⟩ : ∃ g, v5.ownBlock = some g ∧ w4.heap.size ≤ g)
          have B6 := B5.grow G5.out O5.out hm5
          have P4 := block_kept PB.out hp G4.out.grown (fun g hg => (OWN.out.lt g hg).1)
          have P5 := block_kept P4 hp G5.out (fun g hg => (O4.out.lt g hg).1)
          have x1 := Bw.out.grown G4.out.grown (by have := Bw.out.size; omega) (fun g hg => by have := (OWN.out.lt g hg).1; omega)
          have x2 := x1.grown G5.out (by have := x1.size; omega) (fun g hg => by have := (O4.out.lt g hg).1; omega)
          exact ⟨⟨j + 1, _, _, by omega, by go_num, Hid.of P5, Hid.of x2, Hid.of (GJ.out.step HLS.out (m := xs.length + 12 + 60) (by simp only)), Hid.of B6⟩, by simp [RowKit.intOf]; omega⟩
    · go_wp2
      go_ret
      have : j = ls.length := by omega
      subst this
      have h := BB.out
      rw [← HAL.out, List.drop_length] at h
      rw [HAL.out] at h
      exact ⟨_, gs, qj, rfl, Bw.out, PB.out, GJ.out, h⟩

end Go.Proofs.YtdchjcidfaencaaGreat

namespace Go.Proofs.YtdchjcidfaencaaGreat
open Go.RowKit Go.Lib

/-- A kept list and its copy. -/
def rkept (x : Value × Value × List RecL) : Value × List RecL := (x.1, x.2.2)
def rcopy (x : Value × Value × List RecL) : Row1 := ⟨61, 7, x.2.1, x.2.2.length, flat renc x.2.2⟩

/-- The rows that are of lists of ints: as they came, with their marks, and what is left when they have been grown. -/
def rblk (V W : Value) (ls : List (Value × Value × List RecL)) : List Row1 :=
  ⟨49, 1, V, (ls.map rkept).length, (ls.map rkept).map (·.1)⟩ :: (rrows 0 (ls.map rkept) ++ (⟨49, 1, W, ls.length, ls.map (·.2.1)⟩ :: ls.map rcopy))
def rput (V W : Value) (ls : List (Value × Value × List RecL)) : List Row1 :=
  ⟨49, 1, V, (ls.map rkept).length, (ls.map rkept).map (·.1)⟩ :: (rrows (ls.map rkept).length (ls.map rkept) ++ (⟨49, 1, W, ls.length, ls.map (·.2.1)⟩ :: ls.map rcopy))
def rrest (V W : Value) (ls : List (Value × Value × List RecL)) : List Row1 :=
  ⟨49, 1, V, (ls.map rkept).length, (ls.map rkept).map (·.1)⟩ :: (⟨49, 1, W, ls.length, ls.map (·.2.1)⟩ :: ls.map rcopy)

theorem rblk_nil (D : Nat) (w : World) (rs qs : List Row1) (h : Bag D w rs qs) : Bag D w (rblk (.slice none 0 0) (.slice none 0 0) [] ++ rs) qs := by
  have e : rblk (.slice none 0 0) (.slice none 0 0) [] ++ rs = ⟨49, 1, .slice none 0 0, 0, []⟩ :: ⟨49, 1, .slice none 0 0, 0, []⟩ :: rs := rfl
  rw [e]
  refine ⟨fun r hr => ?_, ?_, h.seen, fun q hq r hr => ?_⟩
  · rcases List.mem_cons.1 hr with rfl | hr
    · exact World.ownsRow_nil w _ _ 1
    · rcases List.mem_cons.1 hr with rfl | hr
      · exact World.ownsRow_nil w _ _ 1
      · exact h.own r hr
  · exact List.pairwise_cons.2 ⟨fun x _ g hg => (by cases hg), List.pairwise_cons.2 ⟨fun x _ g hg => (by cases hg), h.apart⟩⟩
  · rcases List.mem_cons.1 hr with rfl | hr
    · intro g _ h
      cases h
    · rcases List.mem_cons.1 hr with rfl | hr
      · intro g _ h
        cases h
      · exact h.off q hq r hr

theorem rrows_zero_snoc' (ls : List (Value × Value × List RecL)) (x : Value × Value × List RecL) : rrows 0 ((ls ++ [x]).map rkept) = rrows 0 (ls.map rkept) ++ [rtodo (rkept x)] := by
  rw [rrows_zero, rrows_zero, List.map_append, List.map_append]
  rfl

/-- One more list, one's own and apart from the others. -/
theorem rblk_add (p D : Nat) (cs : Array Value) (V W l : Value) (ls : List (Value × Value × List RecL)) (ss : List RecL) (rest : List Row1) (T : TypeId) (w0 w : World) (h2 : cs[4]? = some V) (h3 : cs[5]? = some W) (hN : ls.length < 250) (hn : ss.length ≤ 1000000)
    (h : Here p D cs T w0 w (⟨61, 7, l, ss.length, flat renc ss⟩ :: (rblk V W ls ++ rest)) []) :
    Calls Tryz.prog 12 #[.pointer (some ⟨p, 0, none⟩), l] w fun e w' => e = .returned (.tuple #[]) ∧ ∃ V' W' u, Here p D ((cs.setIfInBounds 4 V').setIfInBounds 5 W') T w0 w' (rblk V' W' (ls ++ [(l, u, ss)]) ++ rest) [] := by
  have hb := h.bag
  unfold rblk at hb
  have e1 : (ls.map rkept).length = ls.length := List.length_map ..
  rw [e1] at hb
  have b1 : Bag D w (⟨49, 1, V, ls.length, (ls.map rkept).map (·.1)⟩ :: ⟨49, 1, W, ls.length, ls.map (·.2.1)⟩ :: ⟨61, 7, l, ss.length, flat renc ss⟩ :: (rrows 0 (ls.map rkept) ++ (ls.map rcopy ++ rest))) [] := by
    refine hb.perm ?_
    generalize (⟨49, 1, V, ls.length, (ls.map rkept).map (·.1)⟩ : Row1) = X
    generalize (⟨49, 1, W, ls.length, ls.map (·.2.1)⟩ : Row1) = Y
    generalize (⟨61, 7, l, ss.length, flat renc ss⟩ : Row1) = Z
    classical
    rw [List.perm_iff_count]
    intro a
    simp only [List.count_append, List.count_cons, List.cons_append, List.append_assoc]
    omega
  refine (Records_any p D V W l ls.length _ _ ss _ cs T w h.hp h.hD h.blk h2 h3 hN hn b1).mono ?_
  rintro e w' ⟨rfl, V', W', u, hblk, hfr, hbag⟩
  refine ⟨rfl, V', W', u, h.hp, Nat.le_trans h.hD hfr.size, hblk, h.fr.trans hfr, ?_⟩
  unfold rblk
  have e2 : ((ls ++ [(l, u, ss)]).map rkept).length = ls.length + 1 := by simp
  have e3 : ((ls ++ [(l, u, ss)]).map rkept).map (·.1) = (ls.map rkept).map (·.1) ++ [l] := by simp [rkept]
  have e4 : (ls ++ [(l, u, ss)]).length = ls.length + 1 := by simp
  have e5 : (ls ++ [(l, u, ss)]).map (·.2.1) = ls.map (·.2.1) ++ [u] := by simp
  have e6 : (ls ++ [(l, u, ss)]).map rcopy = ls.map rcopy ++ [⟨61, 7, u, ss.length, flat renc ss⟩] := by simp [rcopy]
  have e7 : rtodo (rkept (l, u, ss)) = ⟨61, 7, l, ss.length, flat renc ss⟩ := by simp [rtodo, rkept]
  rw [e2, e3, e4, e5, e6, rrows_zero_snoc', e7]
  refine hbag.perm ?_
  generalize rrows 0 (ls.map rkept) = A
  generalize ls.map rcopy = B
  generalize (⟨49, 1, V', ls.length + 1, (ls.map rkept).map (·.1) ++ [l]⟩ : Row1) = Q
  generalize (⟨49, 1, W', ls.length + 1, ls.map (·.2.1) ++ [u]⟩ : Row1) = X
  generalize (⟨61, 7, l, ss.length, flat renc ss⟩ : Row1) = Y
  generalize (⟨61, 7, u, ss.length, flat renc ss⟩ : Row1) = Z
  classical
  rw [List.perm_iff_count]
  intro a
  simp only [List.count_append, List.count_cons, List.cons_append, List.append_assoc, List.count_nil]
  omega

theorem rblk_still (p D : Nat) (cs : Array Value) (V W : Value) (ls : List (Value × Value × List RecL)) (rest : List Row1) (T : TypeId) (w0 w : World) (h2 : cs[4]? = some V) (h3 : cs[5]? = some W) (hN : ls.length ≤ 250) (hn : ∀ x ∈ ls, x.2.2.length ≤ 900000) (h : Here p D cs T w0 w (rblk V W ls ++ rest) []) :
    Calls Tryz.prog 41 #[.pointer (some ⟨p, 0, none⟩)] w fun e w' => e = .returned (.bool true) ∧ Here p D cs T w0 w' (rblk V W ls ++ rest) [] := by
  have hb := h.bag
  have eV : (ls.map rkept).map (·.1) = ls.map (·.1) := by simp [rkept, Function.comp_def]
  have oV := own_row (hb.own ⟨49, 1, V, (ls.map rkept).length, (ls.map rkept).map (·.1)⟩ (List.mem_append_left _ (List.mem_cons_self ..)))
  have oW := own_row (hb.own ⟨49, 1, W, ls.length, ls.map (·.2.1)⟩ (List.mem_append_left _ (List.mem_cons_of_mem _ (List.mem_append_right _ (List.mem_cons_self ..)))))
  simp only [List.length_map, eV] at oV
  refine (stillRecords_any p V W ls w (h.cell 4 V h2) (h.cell 5 W h3) oV oW (fun x hx => ?_) (by omega)).mono ?_
  · have m1 : rtodo (rkept x) ∈ rblk V W ls ++ rest := by
      refine List.mem_append_left _ (List.mem_cons_of_mem _ (List.mem_append_left _ ?_))
      rw [rrows_zero, List.map_map]
      exact List.mem_map.2 ⟨x, hx, rfl⟩
    have m2 : rcopy x ∈ rblk V W ls ++ rest := List.mem_append_left _ (List.mem_cons_of_mem _ (List.mem_append_right _ (List.mem_cons_of_mem _ (List.mem_map.2 ⟨x, hx, rfl⟩))))
    have o1 := own_row (hb.own _ m1)
    have o2 := own_row (hb.own _ m2)
    simp only [rtodo, rkept] at o1
    refine ⟨o1, o2, ?_⟩
    have := hn x hx
    omega
  · rintro e w' ⟨rfl, q, rfl⟩
    exact ⟨rfl, h.drewN q⟩

theorem kept_lenR (ls : List (Value × Value × List RecL)) (hn : ∀ x ∈ ls, x.2.2.length ≤ 900000) : ∀ x ∈ ls.map rkept, x.2.length ≤ 900000 := by
  intro x hx
  obtain ⟨y, hy, rfl⟩ := List.mem_map.1 hx
  have := hn y hy
  simp only [rkept]
  omega

theorem rblk_put (p D : Nat) (cs : Array Value) (V W : Value) (ls : List (Value × Value × List RecL)) (rest : List Row1) (T : TypeId) (w0 w : World) (h2 : cs[4]? = some V) (hN : ls.length ≤ 250) (hn : ∀ x ∈ ls, x.2.2.length ≤ 900000) (h : Here p D cs T w0 w (rblk V W ls ++ rest) []) :
    Calls Tryz.prog 50 #[.pointer (some ⟨p, 0, none⟩)] w fun e w' => e = .returned (.tuple #[]) ∧ Here p D cs T w0 w' (rput V W ls ++ rest) [] := by
  have hb := h.bag
  unfold rblk at hb
  rw [List.cons_append, List.append_assoc] at hb
  refine (putRecords_any p D V (ls.map rkept) _ cs T w h.hp h.hD h.blk h2 (by simp only [List.length_map]; omega) (fun x hx => by have := kept_lenR ls hn x hx; omega) hb).mono ?_
  rintro e w' ⟨rfl, b1, k1, g1⟩
  refine ⟨rfl, h.hp, Nat.le_trans h.hD b1.size, k1, h.fr.trans b1, ?_⟩
  unfold rput
  rw [List.cons_append, List.append_assoc]
  exact g1

theorem GrownR.wider {j : Nat} {ls : List (Value × List RecL)} {gs : List Value} {qs0 qs qs1 : List Row1} (h : GrownR j ls gs qs0 qs) (k : ∀ q ∈ qs, q ∈ qs1) : GrownR j ls gs qs0 qs1 :=
  ⟨h.len, fun i x hi hx => k _ (h.was i x hi hx), fun i x v hi hx hv => k _ (h.now i x v hi hx hv), fun q hq => k _ (h.old q hq)⟩

theorem rput_grow (p D : Nat) (cs : Array Value) (V W : Value) (ls : List (Value × Value × List RecL)) (rest qs : List Row1) (T : TypeId) (w0 w : World) (h2 : cs[4]? = some V) (hN : ls.length ≤ 250) (hn : ∀ x ∈ ls, x.2.2.length ≤ 900000) (h : Here p D cs T w0 w (rput V W ls ++ rest) qs) :
    Calls Tryz.prog 57 #[.pointer (some ⟨p, 0, none⟩)] w fun e w' => ∃ G gs qs', e = .returned G ∧ GrownR (ls.map rkept).length (ls.map rkept) gs qs qs' ∧ Here p D cs T w0 w' (⟨49, 1, G, (ls.map rkept).length, gs⟩ :: (rrest V W ls ++ rest)) qs' := by
  have hb := h.bag
  unfold rput at hb
  rw [List.cons_append, List.append_assoc] at hb
  refine (growRecords_any p D V (ls.map rkept) _ qs cs T w h.hp h.hD h.blk h2 (by simp only [List.length_map]; omega) (kept_lenR ls hn) hb).mono ?_
  rintro e w' ⟨G, gs, qs', rfl, b1, k1, g1, g2⟩
  exact ⟨G, gs, qs', rfl, g1, h.hp, Nat.le_trans h.hD b1.size, k1, h.fr.trans b1, g2⟩

/-- What is looked at, at the end. -/
def oldIR (ls : List (Value × Value × List RecL)) : List (Value × Nat) := (ls.map rkept).map fun x => (x.1, x.2.length)
def newIR (ls : List (Value × Value × List RecL)) (gs : List Value) : List (Value × Nat) := (gs.zip (ls.map rkept)).map fun x => (x.1, x.2.2.length + 72)

theorem rold_marked (p D : Nat) (cs : Array Value) (T : TypeId) (w0 w : World) (V : Value) (ls : List (Value × Value × List RecL)) (gs : List Value) (rs qs0 qs : List Row1) (hN : ls.length ≤ 250) (hn : ∀ x ∈ ls, x.2.2.length ≤ 900000)
    (h : Here p D cs T w0 w rs qs) (hV : (⟨49, 1, V, (ls.map rkept).length, (ls.map rkept).map (·.1)⟩ : Row1) ∈ rs) (g : GrownR (ls.map rkept).length (ls.map rkept) gs qs0 qs) :
    Calls Tryz.prog 65 #[V] w fun e w' => e = .returned (.bool true) ∧ Here p D cs T w0 w' rs qs := by
  have oV := own_row (h.bag.own _ hV)
  refine (markedRecords_any V (oldIR ls) w ?_ ?_ ?_).mono fun e w' ⟨he, hb⟩ => ⟨he, h.next hb⟩
  · have e1 : (oldIR ls).length = (ls.map rkept).length := by simp [oldIR]
    have e2 : (oldIR ls).map (·.1) = (ls.map rkept).map (·.1) := by simp [oldIR, Function.comp_def]
    rw [e1, e2]
    exact oV
  · intro i x hx
    simp only [oldIR] at hx
    rw [List.getElem?_map] at hx
    cases hy : (ls.map rkept)[i]? with
    | none => rw [hy] at hx; cases hx
    | some y =>
      rw [hy] at hx
      simp only [Option.map_some, Option.some.injEq] at hx
      subst hx
      have m := g.was i y (List.getElem?_eq_some_iff.1 hy).1 hy
      refine ⟨(h.bag.seen _ m).1, ?_⟩
      have := kept_lenR ls hn y (List.mem_of_getElem? hy)
      simp only
      omega
  · simp only [oldIR, List.length_map]
    omega

theorem rnew_marked (p D : Nat) (cs : Array Value) (T : TypeId) (w0 w : World) (G : Value) (ls : List (Value × Value × List RecL)) (gs : List Value) (rs qs0 qs : List Row1) (hN : ls.length ≤ 250) (hn : ∀ x ∈ ls, x.2.2.length ≤ 900000)
    (h : Here p D cs T w0 w rs qs) (hG : (⟨49, 1, G, (ls.map rkept).length, gs⟩ : Row1) ∈ rs) (g : GrownR (ls.map rkept).length (ls.map rkept) gs qs0 qs) :
    Calls Tryz.prog 65 #[G] w fun e w' => e = .returned (.bool true) ∧ Here p D cs T w0 w' rs qs := by
  have oG := own_row (h.bag.own _ hG)
  have hl := g.len
  refine (markedRecords_any G (newIR ls gs) w ?_ ?_ ?_).mono fun e w' ⟨he, hb⟩ => ⟨he, h.next hb⟩
  · have e1 : (newIR ls gs).length = (ls.map rkept).length := by simp only [newIR, List.length_map, List.length_zip] at hl ⊢; omega
    have e2 : (newIR ls gs).map (·.1) = gs := by
      simp only [newIR, List.map_map, Function.comp_def]
      exact List.map_fst_zip (by omega)
    rw [e1, e2]
    exact oG
  · intro i x hx
    simp only [newIR] at hx
    rw [List.getElem?_map] at hx
    cases hy : (gs.zip (ls.map rkept))[i]? with
    | none => rw [hy] at hx; cases hx
    | some y =>
      rw [hy] at hx
      simp only [Option.map_some, Option.some.injEq] at hx
      subst hx
      obtain ⟨v, z⟩ := y
      obtain ⟨h1, h2⟩ := List.getElem?_zip_eq_some.1 hy
      have m := g.now i z v (List.getElem?_eq_some_iff.1 h2).1 h2 h1
      refine ⟨(h.bag.seen _ m).1, ?_⟩
      have := kept_lenR ls hn z (List.mem_of_getElem? h2)
      simp only
      omega
  · simp only [newIR, List.length_map, List.length_zip] at hl ⊢
    omega

end Go.Proofs.YtdchjcidfaencaaGreat

namespace Go.Proofs.YtdchjcidfaencaaGreat
open Go.RowKit Go.Lib

/-- The Book's cells. -/
def bookIR (Vi Wi Vr Wr : Value) : Array Value := #[.slice none 0 0, .slice none 0 0, Vi, Wi, Vr, Wr, .slice none 0 0, .slice none 0 0, .slice none 0 0, .slice none 0 0, .slice none 0 0, .slice none 0 0, .slice none 0 0, .slice none 0 0, .slice none 0 0, .slice none 0 0]

theorem bookIR_nil (p : Nat) (T : TypeId) (w0 w : World) (h1 : w.heap[p]? = some (.cells (bookIR (.slice none 0 0) (.slice none 0 0) (.slice none 0 0) (.slice none 0 0)) T (0, 0))) (h2 : Below p w0 w) : Here p (p + 1) (bookIR (.slice none 0 0) (.slice none 0 0) (.slice none 0 0) (.slice none 0 0)) T w0 w (iblk (.slice none 0 0) (.slice none 0 0) [] ++ (rblk (.slice none 0 0) (.slice none 0 0) [] ++ [])) [] :=
  ⟨by omega, (Array.getElem?_eq_some_iff.1 h1).1, h1, h2, (iblk_nil _ _ _ _ (rblk_nil _ _ _ _ (Bag.nil _ _)))⟩

set_option maxRecDepth 100000 in
set_option maxHeartbeats 12800000 in
theorem Apart_IR (p D : Nat) (Vi Wi : Value) (li : List (Value × Value × List Int)) (Vr Wr : Value) (lr : List (Value × Value × List RecL)) (ex : List Row1) (T : TypeId) (w0 w : World) (hNi : li.length ≤ 250) (hni : ∀ y ∈ li, y.2.2.length ≤ 900000) (hNr : lr.length ≤ 250) (hnr : ∀ y ∈ lr, y.2.2.length ≤ 900000) (h : Here p D (bookIR Vi Wi Vr Wr) T w0 w (iblk Vi Wi li ++ (rblk Vr Wr lr ++ ex)) []) :
    Calls Tryz.prog 21 #[.pointer (some ⟨p, 0, none⟩)] w fun e w' => e = .returned (.bool true) ∧ Below p w0 w' := by
  have H := Hid.of h
  have HNi := Hid.of hNi
  have HLi := Hid.of hni
  have HNr := Hid.of hNr
  have HLr := Hid.of hnr
  clear h hNi hni hNr hnr
  go_enter Tryz.func21, Tryz.ntmps21
  go_wp2_with fail
  refine (stillTexts_nil p _ (H.out.cell 0 _ rfl)).mono ?_
  rintro e w1 ⟨rfl, b1⟩
  have h1 := H.out.next b1
  clear H b1
  have H := Hid.of h1
  clear h1
  go_wp2_with fail
  refine (iblk_still p D _ Vi Wi li (rblk Vr Wr lr ++ ex) T w0 _ rfl rfl HNi.out HLi.out H.out).mono ?_
  rintro e w2 ⟨rfl, h1⟩
  clear H
  have H := Hid.of h1
  clear h1
  have hp : Here p D (bookIR Vi Wi Vr Wr) T w0 w2 (rblk Vr Wr lr ++ (iblk Vi Wi li ++ ex)) [] := H.out.perm (by
    classical
    rw [List.perm_iff_count]
    intro a
    simp only [List.count_append]
    omega)
  clear H
  have H := Hid.of hp
  clear hp
  go_wp2_with fail
  refine (rblk_still p D _ Vr Wr lr (iblk Vi Wi li ++ ex) T w0 _ rfl rfl HNr.out HLr.out H.out).mono ?_
  rintro e w3 ⟨rfl, h1⟩
  clear H
  have H := Hid.of h1
  clear h1
  go_wp2_with fail
  refine (stillSamples_nil p _ (H.out.cell 6 _ rfl)).mono ?_
  rintro e w4 ⟨rfl, b1⟩
  have h1 := H.out.next b1
  clear H b1
  have H := Hid.of h1
  clear h1
  go_wp2_with fail
  refine (stillTiers_nil p _ (H.out.cell 8 _ rfl)).mono ?_
  rintro e w5 ⟨rfl, b1⟩
  have h1 := H.out.next b1
  clear H b1
  have H := Hid.of h1
  clear h1
  go_wp2_with fail
  refine (stillErrnos_nil p _ (H.out.cell 10 _ rfl)).mono ?_
  rintro e w6 ⟨rfl, b1⟩
  have h1 := H.out.next b1
  clear H b1
  have H := Hid.of h1
  clear h1
  go_wp2_with fail
  refine (stillWords_nil p _ (H.out.cell 12 _ rfl)).mono ?_
  rintro e w7 ⟨rfl, b1⟩
  have h1 := H.out.next b1
  clear H b1
  have H := Hid.of h1
  clear h1
  go_wp2_with fail
  refine (stillSteps_nil p _ (H.out.cell 14 _ rfl)).mono ?_
  rintro e w8 ⟨rfl, b1⟩
  have h1 := H.out.next b1
  clear H b1
  have H := Hid.of h1
  clear h1
  go_wp2_with fail
  refine (putSteps_nil p _ (H.out.cell 14 _ rfl)).mono ?_
  rintro e w9 ⟨rfl, b1⟩
  have h1 := H.out.next b1
  clear H b1
  have H := Hid.of h1
  clear h1
  go_wp2_with fail
  refine (putTexts_nil p _ (H.out.cell 0 _ rfl)).mono ?_
  rintro e w10 ⟨rfl, b1⟩
  have h1 := H.out.next b1
  clear H b1
  have H := Hid.of h1
  clear h1
  have hp : Here p D (bookIR Vi Wi Vr Wr) T w0 w10 (iblk Vi Wi li ++ (rblk Vr Wr lr ++ ex)) [] := H.out.perm (by
    classical
    rw [List.perm_iff_count]
    intro a
    simp only [List.count_append]
    omega)
  clear H
  have H := Hid.of hp
  clear hp
  go_wp2_with fail
  refine (iblk_put p D _ Vi Wi li (rblk Vr Wr lr ++ ex) T w0 _ rfl HNi.out HLi.out H.out).mono ?_
  rintro e w11 ⟨rfl, h1⟩
  clear H
  have H := Hid.of h1
  clear h1
  have hp : Here p D (bookIR Vi Wi Vr Wr) T w0 w11 (rblk Vr Wr lr ++ (iput Vi Wi li ++ ex)) [] := H.out.perm (by
    classical
    rw [List.perm_iff_count]
    intro a
    simp only [List.count_append]
    omega)
  clear H
  have H := Hid.of hp
  clear hp
  go_wp2_with fail
  refine (rblk_put p D _ Vr Wr lr (iput Vi Wi li ++ ex) T w0 _ rfl HNr.out HLr.out H.out).mono ?_
  rintro e w12 ⟨rfl, h1⟩
  clear H
  have H := Hid.of h1
  clear h1
  go_wp2_with fail
  refine (putSamples_nil p _ (H.out.cell 6 _ rfl)).mono ?_
  rintro e w13 ⟨rfl, b1⟩
  have h1 := H.out.next b1
  clear H b1
  have H := Hid.of h1
  clear h1
  go_wp2_with fail
  refine (putTiers_nil p _ (H.out.cell 8 _ rfl)).mono ?_
  rintro e w14 ⟨rfl, b1⟩
  have h1 := H.out.next b1
  clear H b1
  have H := Hid.of h1
  clear h1
  go_wp2_with fail
  refine (putErrnos_nil p _ (H.out.cell 10 _ rfl)).mono ?_
  rintro e w15 ⟨rfl, b1⟩
  have h1 := H.out.next b1
  clear H b1
  have H := Hid.of h1
  clear h1
  go_wp2_with fail
  refine (putWords_nil p _ (H.out.cell 12 _ rfl)).mono ?_
  rintro e w16 ⟨rfl, b1⟩
  have h1 := H.out.next b1
  clear H b1
  have H := Hid.of h1
  clear h1
  go_wp2_with fail
  refine (growTexts_nil p _ (H.out.cell 0 _ rfl)).mono ?_
  rintro e w17 ⟨rfl, b1⟩
  have h1 := H.out.next b1
  clear H b1
  have H := Hid.of h1
  clear h1
  have hp : Here p D (bookIR Vi Wi Vr Wr) T w0 w17 (iput Vi Wi li ++ (rput Vr Wr lr ++ ex)) [] := H.out.perm (by
    classical
    rw [List.perm_iff_count]
    intro a
    simp only [List.count_append]
    omega)
  clear H
  have H := Hid.of hp
  clear hp
  go_wp2_with fail
  refine (iput_grow p D _ Vi Wi li (rput Vr Wr lr ++ ex) [] T w0 _ rfl HNi.out HLi.out H.out).mono ?_
  rintro e w18 ⟨Gi, gi, qi, rfl, gr, h1⟩
  have GRi := Hid.of gr
  clear gr
  clear H
  have H := Hid.of h1
  clear h1
  have hp : Here p D (bookIR Vi Wi Vr Wr) T w0 w18 (rput Vr Wr lr ++ (⟨25, 1, Gi, (li.map ikept).length, gi⟩ :: (irest Vi Wi li ++ ex))) qi := H.out.perm (by
    classical
    rw [List.perm_iff_count]
    intro a
    simp only [List.count_append, List.count_cons]
    omega)
  clear H
  have H := Hid.of hp
  clear hp
  go_wp2_with fail
  refine (rput_grow p D _ Vr Wr lr (⟨25, 1, Gi, (li.map ikept).length, gi⟩ :: (irest Vi Wi li ++ ex)) qi T w0 _ rfl HNr.out HLr.out H.out).mono ?_
  rintro e w19 ⟨Gr, gr, qr, rfl, gr, h1⟩
  have ki := GRi.out.wider gr.old
  clear GRi
  have GRi := Hid.of ki
  clear ki
  have GRr := Hid.of gr
  clear gr
  clear H
  have H := Hid.of h1
  clear h1
  go_wp2_with fail
  refine (growSamples_nil p _ (H.out.cell 6 _ rfl)).mono ?_
  rintro e w20 ⟨rfl, b1⟩
  have h1 := H.out.next b1
  clear H b1
  have H := Hid.of h1
  clear h1
  go_wp2_with fail
  refine (growTiers_nil p _ (H.out.cell 8 _ rfl)).mono ?_
  rintro e w21 ⟨rfl, b1⟩
  have h1 := H.out.next b1
  clear H b1
  have H := Hid.of h1
  clear h1
  go_wp2_with fail
  refine (growErrnos_nil p _ (H.out.cell 10 _ rfl)).mono ?_
  rintro e w22 ⟨rfl, b1⟩
  have h1 := H.out.next b1
  clear H b1
  have H := Hid.of h1
  clear h1
  go_wp2_with fail
  refine (growWords_nil p _ (H.out.cell 12 _ rfl)).mono ?_
  rintro e w23 ⟨rfl, b1⟩
  have h1 := H.out.next b1
  clear H b1
  have H := Hid.of h1
  clear h1
  go_wp2_with fail
  refine (growSteps_nil p _ (H.out.cell 14 _ rfl)).mono ?_
  rintro e w24 ⟨rfl, b1⟩
  have h1 := H.out.next b1
  clear H b1
  have H := Hid.of h1
  clear h1
  go_wp2_with fail
  refine (markedTexts_nil _ _).mono ?_
  rintro e w25 ⟨rfl, b1⟩
  have h1 := H.out.next b1
  clear H b1
  have H := Hid.of h1
  clear h1
  have c26 : w25.cell? ⟨p, 0, none⟩ = some (.slice none 0 0) := H.out.cell 0 _ rfl
  go_wp2_with fail
  refine (markedTexts_nil _ _).mono ?_
  rintro e w26 ⟨rfl, b1⟩
  have h1 := H.out.next b1
  clear H b1
  have H := Hid.of h1
  clear h1
  clear c26
  go_wp2_with fail
  refine (inew_marked p D _ T w0 _ Gi li gi _ _ qr HNi.out HLi.out H.out (by simp) GRi.out).mono ?_
  rintro e w27 ⟨rfl, h1⟩
  clear H
  have H := Hid.of h1
  clear h1
  have c28 : w27.cell? ⟨p, 2, none⟩ = some Vi := H.out.cell 2 _ rfl
  go_wp2_with fail
  refine (iold_marked p D _ T w0 _ Vi li gi _ _ qr HNi.out HLi.out H.out (by simp [irest]) GRi.out).mono ?_
  rintro e w28 ⟨rfl, h1⟩
  clear H
  have H := Hid.of h1
  clear h1
  clear c28
  go_wp2_with fail
  refine (rnew_marked p D _ T w0 _ Gr lr gr _ _ qr HNr.out HLr.out H.out (by simp) GRr.out).mono ?_
  rintro e w29 ⟨rfl, h1⟩
  clear H
  have H := Hid.of h1
  clear h1
  have c30 : w29.cell? ⟨p, 4, none⟩ = some Vr := H.out.cell 4 _ rfl
  go_wp2_with fail
  refine (rold_marked p D _ T w0 _ Vr lr gr _ _ qr HNr.out HLr.out H.out (by simp [rrest]) GRr.out).mono ?_
  rintro e w30 ⟨rfl, h1⟩
  clear H
  have H := Hid.of h1
  clear h1
  clear c30
  go_wp2_with fail
  refine (markedSamples_nil _ _).mono ?_
  rintro e w31 ⟨rfl, b1⟩
  have h1 := H.out.next b1
  clear H b1
  have H := Hid.of h1
  clear h1
  have c32 : w31.cell? ⟨p, 6, none⟩ = some (.slice none 0 0) := H.out.cell 6 _ rfl
  go_wp2_with fail
  refine (markedSamples_nil _ _).mono ?_
  rintro e w32 ⟨rfl, b1⟩
  have h1 := H.out.next b1
  clear H b1
  have H := Hid.of h1
  clear h1
  clear c32
  go_wp2_with fail
  refine (markedTiers_nil _ _).mono ?_
  rintro e w33 ⟨rfl, b1⟩
  have h1 := H.out.next b1
  clear H b1
  have H := Hid.of h1
  clear h1
  have c34 : w33.cell? ⟨p, 8, none⟩ = some (.slice none 0 0) := H.out.cell 8 _ rfl
  go_wp2_with fail
  refine (markedTiers_nil _ _).mono ?_
  rintro e w34 ⟨rfl, b1⟩
  have h1 := H.out.next b1
  clear H b1
  have H := Hid.of h1
  clear h1
  clear c34
  go_wp2_with fail
  refine (markedErrnos_nil _ _).mono ?_
  rintro e w35 ⟨rfl, b1⟩
  have h1 := H.out.next b1
  clear H b1
  have H := Hid.of h1
  clear h1
  have c36 : w35.cell? ⟨p, 10, none⟩ = some (.slice none 0 0) := H.out.cell 10 _ rfl
  go_wp2_with fail
  refine (markedErrnos_nil _ _).mono ?_
  rintro e w36 ⟨rfl, b1⟩
  have h1 := H.out.next b1
  clear H b1
  have H := Hid.of h1
  clear h1
  clear c36
  go_wp2_with fail
  refine (markedWords_nil _ _).mono ?_
  rintro e w37 ⟨rfl, b1⟩
  have h1 := H.out.next b1
  clear H b1
  have H := Hid.of h1
  clear h1
  have c38 : w37.cell? ⟨p, 12, none⟩ = some (.slice none 0 0) := H.out.cell 12 _ rfl
  go_wp2_with fail
  refine (markedWords_nil _ _).mono ?_
  rintro e w38 ⟨rfl, b1⟩
  have h1 := H.out.next b1
  clear H b1
  have H := Hid.of h1
  clear h1
  clear c38
  go_wp2_with fail
  refine (markedSteps_nil _ _).mono ?_
  rintro e w39 ⟨rfl, b1⟩
  have h1 := H.out.next b1
  clear H b1
  have H := Hid.of h1
  clear h1
  have c40 : w39.cell? ⟨p, 14, none⟩ = some (.slice none 0 0) := H.out.cell 14 _ rfl
  go_wp2_with fail
  refine (markedSteps_nil _ _).mono ?_
  rintro e w40 ⟨rfl, b1⟩
  have h1 := H.out.next b1
  clear H b1
  have H := Hid.of h1
  clear h1
  clear c40
  go_wp2
  go_ret
  exact ⟨rfl, H.out.fr⟩

end Go.Proofs.YtdchjcidfaencaaGreat

namespace Go.Proofs.YtdchjcidfaencaaGreat
open Go.RowKit Go.Lib

abbrev SamL := ByteArray × Int × Int

/-- The cells of one. -/
def aenc (x : SamL) : List Value := [.string x.1, .int .i64 x.2.1, .int .i64 x.2.2]

theorem aenc_len (x : SamL) : (aenc x).length = 3 := rfl

theorem aenc_one (x : SamL) : ∀ u ∈ aenc x, u.oneCell' = true := by
  intro u hu
  simp only [aenc, List.mem_cons, List.not_mem_nil, or_false] at hu
  rcases hu with rfl | rfl | rfl <;> rfl

def aAt (w : World) (b o : Nat) (x : SamL) : Prop := w.cell? ⟨b, o, none⟩ = some (.string x.1) ∧ w.cell? ⟨b, o + 1, none⟩ = some (.int .i64 x.2.1) ∧ w.cell? ⟨b, o + 2, none⟩ = some (.int .i64 x.2.2)

theorem a_at {w : World} {a : Option Addr} {n c : Nat} {ss : List SamL} (h : CellRow w (.slice a n c) n (flat aenc ss)) (j : Nat) (x : SamL) (hx : ss[j]? = some x) : ∃ b o, a = some ⟨b, o, none⟩ ∧ b < w.heap.size ∧ aAt w b (o + j * 3) x := by
  obtain ⟨a', c', hv, h⟩ := h
  simp only [Value.slice.injEq] at hv
  obtain ⟨rfl, _, rfl⟩ := hv
  have hj := (List.getElem?_eq_some_iff.1 hx).1
  rcases h with h | ⟨b, o, ha, hl, hc⟩
  · have := flat_length aenc_len ss
    rw [h, List.length_nil] at this
    omega
  · refine ⟨b, o, ha, hl, ?_, ?_, ?_⟩
    · have := hc (j * 3 + 0) _ ((flat_at aenc_len ss j x hx 0 (by decide)).trans rfl)
      exact this
    · have := hc (j * 3 + 1) _ ((flat_at aenc_len ss j x hx 1 (by decide)).trans rfl)
      exact this
    · have := hc (j * 3 + 2) _ ((flat_at aenc_len ss j x hx 2 (by decide)).trans rfl)
      exact this

end Go.Proofs.YtdchjcidfaencaaGreat

namespace Go.Proofs.YtdchjcidfaencaaGreat
open Go.RowKit Go.Lib

set_option maxRecDepth 20000 in
set_option maxHeartbeats 1600000 in
theorem SameSamples_quiet (u v : Value) (ss : List SamL) (w : World) (hu : CellRow w u ss.length (flat aenc ss)) (hv : CellRow w v ss.length (flat aenc ss)) (hn : ss.length ≤ 1000000) :
    Calls Tryz.prog 37 #[u, v] w fun e w' => e = .returned (.bool true) ∧ ∃ q, w' = w.drewN q := by
  have HU := Hid.of hu
  have HV := Hid.of hv
  obtain ⟨ua, uc, rfl, _⟩ := hu
  obtain ⟨va, vc, rfl, _⟩ := hv
  go_enter Tryz.func37, Tryz.ntmps37
  go_wp2
  go_loopw [5] (fun i wr => ∃ j : Nat, j ≤ ss.length ∧ i = .int .i64 j ∧ ∃ q, wr = w.drewN q) (fun i _ => ss.length - (RowKit.intOf i).toNat)
  case atStart => exact ⟨0, Nat.zero_le _, rfl, 0, rfl⟩
  case round =>
    obtain ⟨j, hj, rfl, q, rfl⟩ := hrel
    by_cases hlt : j < ss.length
    · obtain ⟨b1, o1, rfl, _, hc1⟩ := a_at HU.out j ss[j] (by simp [hlt])
      obtain ⟨b2, o2, rfl, _, hc2⟩ := a_at HV.out j ss[j] (by simp [hlt])
      generalize ss[j] = x at hc1 hc2
      obtain ⟨x0, x1, x2⟩ := x
      obtain ⟨c0, c1, c2⟩ := hc1
      obtain ⟨d0, d1, d2⟩ := hc2
      simp only at c0 d0 c1 d1 c2 d2
      have he0 : (x0.toList == x0.toList) = true := beq_self_eq_true _
      have i0 : (0 : Int) ≤ (j : Int) := Int.natCast_nonneg _
      have i1 : (j : Int) < (ss.length : Int) := by omega
      clear HU HV
      go_wp2
      go_quiet (fail)
      go_wp2
      go_roundw
      case rel => exact ⟨j + 1, by omega, by go_num, _, rfl⟩
      case measure => simp [RowKit.intOf]; omega
    · go_wp2
      go_ret
      exact ⟨rfl, q, rfl⟩

end Go.Proofs.YtdchjcidfaencaaGreat
