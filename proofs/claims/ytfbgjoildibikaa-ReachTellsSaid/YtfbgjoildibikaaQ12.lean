/-
  A bundle of texts: KPI KPS.
-/
import Derived.Laws.StructEq
import Derived.Test.YtfbgjoildibikaaQ10
import Derived.Test.YtfbgjoildibikaaQ06
/-
  Marks of a Book's lists of tiers (package sedimentbook): markTiers, copyTiers.
-/
namespace Go.Proofs.Ytfbgjoildibikaa
open Go.RowKit Go.Lib

abbrev TierL := ByteArray × Int × Int × Int

/-- The cells of one. -/
def penc (x : TierL) : List Value := [.string x.1, .int .i64 x.2.1, .int .i64 x.2.2.1, .int .i64 x.2.2.2]

theorem penc_len (x : TierL) : (penc x).length = 4 := rfl

theorem penc_one (x : TierL) : ∀ u ∈ penc x, u.oneCell' = true := by
  intro u hu
  simp only [penc, List.mem_cons, List.not_mem_nil, or_false] at hu
  rcases hu with rfl | rfl | rfl | rfl <;> rfl

def pAt (w : World) (b o : Nat) (x : TierL) : Prop := w.cell? ⟨b, o, none⟩ = some (.string x.1) ∧ w.cell? ⟨b, o + 1, none⟩ = some (.int .i64 x.2.1) ∧ w.cell? ⟨b, o + 2, none⟩ = some (.int .i64 x.2.2.1) ∧ w.cell? ⟨b, o + 3, none⟩ = some (.int .i64 x.2.2.2)

theorem p_at {w : World} {a : Option Addr} {n c : Nat} {ss : List TierL} (h : CellRow w (.slice a n c) n (flat penc ss)) (j : Nat) (x : TierL) (hx : ss[j]? = some x) : ∃ b o, a = some ⟨b, o, none⟩ ∧ b < w.heap.size ∧ pAt w b (o + j * 4) x := by
  obtain ⟨a', c', hv, h⟩ := h
  simp only [Value.slice.injEq] at hv
  obtain ⟨rfl, _, rfl⟩ := hv
  have hj := (List.getElem?_eq_some_iff.1 hx).1
  rcases h with h | ⟨b, o, ha, hl, hc⟩
  · have := flat_length penc_len ss
    rw [h, List.length_nil] at this
    omega
  · refine ⟨b, o, ha, hl, ?_, ?_, ?_, ?_⟩
    · have := hc (j * 4 + 0) _ ((flat_at penc_len ss j x hx 0 (by decide)).trans rfl)
      exact this
    · have := hc (j * 4 + 1) _ ((flat_at penc_len ss j x hx 1 (by decide)).trans rfl)
      exact this
    · have := hc (j * 4 + 2) _ ((flat_at penc_len ss j x hx 2 (by decide)).trans rfl)
      exact this
    · have := hc (j * 4 + 3) _ ((flat_at penc_len ss j x hx 3 (by decide)).trans rfl)
      exact this

def pmk (v : Int) : TierL := (⟨#[]⟩, 0, v, 0)

/-- The marks of the list i from the place f on, n of them. -/
def pmarks (i f n : Nat) : List TierL := (List.range n).map fun k : Nat => pmk (-1000 * (i : Int) - ((f : Int) + (k : Int)) - 1)

theorem pmarks_length (i f n : Nat) : (pmarks i f n).length = n := by simp [pmarks]

theorem pmarks_succ (i f n : Nat) : pmarks i f (n + 1) = pmarks i f n ++ [pmk (-1000 * (i : Int) - ((f : Int) + (n : Int)) - 1)] := by
  simp [pmarks, List.range_succ]

theorem pmarks_add (i f n m : Nat) : pmarks i f n ++ pmarks i (f + n) m = pmarks i f (n + m) := by
  induction m with
  | zero => simp [pmarks]
  | succ m ih =>
    rw [← Nat.add_assoc, pmarks_succ, pmarks_succ, ← List.append_assoc, ih]
    congr 3
    push_cast
    omega

set_option maxRecDepth 20000 in
set_option maxHeartbeats 800000 in
theorem markTiers_any (i f n : Nat) (hi9 : i ≤ 1000) (hf9 : f ≤ 100000000) (hn9 : n ≤ 1000000) (w : World) :
    Calls Try.prog 93 #[.int .i64 i, .int .i64 f, .int .i64 n] w fun e w' => ∃ v, e = .returned v ∧ w'.ownsRow w.heap.size 63 4 v n (flat penc (pmarks i f n)) ∧ Below w.heap.size w w' := by
  obtain ⟨i0, hi, hz0, hz1, hz2⟩ := info_parts (show (Try.prog.info? 63).map (fun i => (i.zero, i.size, i.bytes)) = some (some (.agg #[.string ⟨#[]⟩, .int .i64 0, .int .i64 0, .int .i64 0]), 4, 40) by kernel_rfl)
  have HI := Hid.of hi
  have HZ0 := Hid.of hz0
  have HZ1 := Hid.of hz1
  have HZ2 := Hid.of hz2
  clear hi hz0 hz1 hz2
  go_enter Try.func93, Try.ntmps93
  go_wp2
  go_loopw [7, 8] (fun v k wr => ∃ j : Nat, j ≤ n ∧ k = .int .i64 ((f : Int) + j) ∧ Hid (wr.ownsRow w.heap.size 63 4 v j (flat penc (pmarks i f j))) ∧ Below w.heap.size w wr) (fun _ k _ => n - ((intOf k).toNat - f))
  case atStart => exact ⟨0, Nat.zero_le _, by simp, Hid.of (World.ownsRow_nil _ _ _ _), Below.refl _ _⟩
  case round =>
    obtain ⟨j, hj, rfl, O, hb⟩ := hrel
    by_cases hlt : j < n
    · go_wp2_with (at_builtin; refine append_row_law rfl _ _ 22 rfl w.heap.size 63 i0 (.agg #[.string ⟨#[]⟩, .int .i64 0, .int .i64 0, .int .i64 0]) 4 40 Try.underlying22 HI.out HZ0.out HZ1.out HZ2.out rfl (by decide) _ j _ rfl (O.out.alloc _) (.slice (some ⟨wr.heap.size, 0, none⟩) 1 1) 1 [.string ⟨#[]⟩, .int .i64 0, .int .i64 (-1000 * (i : Int) - ((f : Int) + (j : Int)) - 1), .int .i64 0] (by go_num) ⟨_, _, rfl, .inr ⟨_, 0, rfl, by simp, new_cells wr _ _⟩⟩ rfl (by simp [Value.oneCell']) (by unfold maxLen; omega) (by omega) (by simp; have := hb.size; omega) ?_; intro v1 w1 o1 g1)
      go_roundw
      case rel =>
        refine ⟨j + 1, by omega, by go_num, Hid.of ?_, (hb.alloc hb.size _).grown g1 (by have := hb.size; simp; omega) (fun k hk => own_ge O.out hk)⟩
        rw [pmarks_succ, flat_append, flat_one]
        exact o1
      case measure => simp [intOf]; omega
    · go_wp2
      go_ret
      have : j = n := by omega
      subst this
      exact ⟨_, rfl, O.out, hb⟩

set_option maxHeartbeats 400000 in
theorem copyTiers_any (v : Value) (ss : List TierL) (w : World) (hv : CellRow w v ss.length (flat penc ss)) (hn : ss.length ≤ 1000000) :
    Calls Try.prog 36 #[v] w fun e w' => ∃ u, e = .returned u ∧ w'.ownsRow w.heap.size 63 4 u ss.length (flat penc ss) ∧ Below w.heap.size w w' := by
  have HC := Hid.of hv
  obtain ⟨sa, c, rfl, _⟩ := hv
  obtain ⟨i0, hi, hz0, hz1, hz2⟩ := info_parts (show (Try.prog.info? 63).map (fun i => (i.zero, i.size, i.bytes)) = some (some (.agg #[.string ⟨#[]⟩, .int .i64 0, .int .i64 0, .int .i64 0]), 4, 40) by kernel_rfl)
  have HI := Hid.of hi
  have HZ0 := Hid.of hz0
  have HZ1 := Hid.of hz1
  have HZ2 := Hid.of hz2
  clear hi hz0 hz1 hz2
  go_enter Try.func36, Try.ntmps36
  go_wp2_with (at_builtin; refine append_row_law rfl (.const (.slice none 0 0)) (.tmp 3) 22 rfl w.heap.size 63 i0 (.agg #[.string ⟨#[]⟩, .int .i64 0, .int .i64 0, .int .i64 0]) 4 40 Try.underlying22 HI.out HZ0.out HZ1.out HZ2.out rfl (by decide) (.slice none 0 0) 0 [] rfl ⟨rfl, .inl ⟨rfl, rfl⟩⟩ _ ss.length _ rfl HC.out (flat_length penc_len ss) (flat_ones penc_one ss) (by unfold maxLen; omega) (by omega) (Nat.le_refl _) ?_; intro v1 w1 o1 g1; have O1 : Hid (w1.ownsRow w.heap.size 63 4 v1 ss.length (flat penc ss)) := Hid.of (by simpa using o1); have b1 : Below w.heap.size w w1 := below_of_none g1; clear o1 g1)
  go_ret
  exact ⟨_, rfl, O1.out, b1⟩

end Go.Proofs.Ytfbgjoildibikaa

/-
  A Book's lists of tiers (package sedimentbook): SameTiers and stillTiers, which only read.
-/
namespace Go.Proofs.Ytfbgjoildibikaa
open Go.RowKit Go.Lib

set_option maxRecDepth 20000 in
set_option maxHeartbeats 1600000 in
theorem SameTiers_quiet (u v : Value) (ss : List TierL) (w : World) (hu : CellRow w u ss.length (flat penc ss)) (hv : CellRow w v ss.length (flat penc ss)) (hn : ss.length ≤ 1000000) :
    Calls Try.prog 45 #[u, v] w fun e w' => e = .returned (.bool true) ∧ ∃ q, w' = w.drewN q := by
  have HU := Hid.of hu
  have HV := Hid.of hv
  obtain ⟨ua, uc, rfl, _⟩ := hu
  obtain ⟨va, vc, rfl, _⟩ := hv
  go_enter Try.func45, Try.ntmps45
  go_wp2
  go_loopw [5] (fun i wr => ∃ j : Nat, j ≤ ss.length ∧ i = .int .i64 j ∧ ∃ q, wr = w.drewN q) (fun i _ => ss.length - (RowKit.intOf i).toNat)
  case atStart => exact ⟨0, Nat.zero_le _, rfl, 0, rfl⟩
  case round =>
    obtain ⟨j, hj, rfl, q, rfl⟩ := hrel
    by_cases hlt : j < ss.length
    · obtain ⟨b1, o1, rfl, _, hc1⟩ := p_at HU.out j ss[j] (by simp [hlt])
      obtain ⟨b2, o2, rfl, _, hc2⟩ := p_at HV.out j ss[j] (by simp [hlt])
      generalize ss[j] = x at hc1 hc2
      obtain ⟨x0, x1, x2, x3⟩ := x
      obtain ⟨c0, c1, c2, c3⟩ := hc1
      obtain ⟨d0, d1, d2, d3⟩ := hc2
      simp only at c0 d0 c1 d1 c2 d2 c3 d3
      have he0 : (x0.toList == x0.toList) = true := beq_self_eq_true _
      have i0 : (0 : Int) ≤ (j : Int) := Int.natCast_nonneg _
      have i1 : (j : Int) < (ss.length : Int) := by omega
      clear HU HV
      go_wp2
      go_quiet (fail)
      go_wp2
      go_roundw
      case rel => exact ⟨j + 1, by omega, by go_num, _, rfl⟩
      case measure => simp [RowKit.intOf]; omega
    · go_wp2
      go_ret
      exact ⟨rfl, q, rfl⟩

/-- The lists of ints that a Book keeps and their copies: each pair holds the same numbers. -/
def PairsP (w : World) (ls : List (Value × Value × List TierL)) : Prop := ∀ x ∈ ls, CellRow w x.1 x.2.2.length (flat penc x.2.2) ∧ CellRow w x.2.1 x.2.2.length (flat penc x.2.2) ∧ x.2.2.length ≤ 1000000

set_option maxHeartbeats 400000 in
theorem stillTiers_any (p : Nat) (V W : Value) (ls : List (Value × Value × List TierL)) (w : World) (h2 : w.cell? ⟨p, 8, none⟩ = some V) (h3 : w.cell? ⟨p, 9, none⟩ = some W)
    (hV : CellRow w V ls.length (ls.map (·.1))) (hW : CellRow w W ls.length (ls.map (·.2.1))) (hp : PairsP w ls) (hn : ls.length ≤ 1000) :
    Calls Try.prog 50 #[.pointer (some ⟨p, 0, none⟩)] w fun e w' => e = .returned (.bool true) ∧ ∃ q, w' = w.drewN q := by
  have HV := Hid.of hV
  have HW := Hid.of hW
  have HP := Hid.of hp
  clear hp
  obtain ⟨va, vc, rfl, _⟩ := hV
  obtain ⟨wa, wc, rfl, _⟩ := hW
  go_enter Try.func50, Try.ntmps50
  go_wp2
  go_loopw [3] (fun i wr => ∃ j : Nat, j ≤ ls.length ∧ i = .int .i64 j ∧ ∃ q, wr = w.drewN q) (fun i _ => ls.length - (RowKit.intOf i).toNat)
  case atStart => exact ⟨0, Nat.zero_le _, rfl, 0, rfl⟩
  case round =>
    obtain ⟨j, hj, rfl, q, rfl⟩ := hrel
    by_cases hlt : j < ls.length
    · obtain ⟨b1, o1, rfl, hl1, hc1⟩ := HV.out.at j ls[j].1 (by simp [hlt])
      obtain ⟨b2, o2, rfl, hl2, hc2⟩ := HW.out.at j ls[j].2.1 (by simp [hlt])
      have hx := HP.out ls[j] (List.getElem_mem hlt)
      generalize ls[j] = x at *
      obtain ⟨u, v, ss⟩ := x
      simp only at hc1 hc2 hx
      have HX := Hid.of hx
      have i0 : (0 : Int) ≤ (j : Int) := Int.natCast_nonneg _
      have i1 : (j : Int) < (ls.length : Int) := by omega
      clear hx HV HW HP hl1 hl2
      go_wp2
      go_quiet ((go_at_call 45; exact quiet_more (SameTiers_quiet u v ss _ (CellRow.drewN HX.out.1 _) (CellRow.drewN HX.out.2.1 _) HX.out.2.2)))
      go_wp2
      go_roundw
      case rel => exact ⟨j + 1, by omega, by go_num, _, rfl⟩
      case measure => simp [RowKit.intOf]; omega
    · go_wp2
      go_ret
      exact ⟨rfl, q, rfl⟩

end Go.Proofs.Ytfbgjoildibikaa
