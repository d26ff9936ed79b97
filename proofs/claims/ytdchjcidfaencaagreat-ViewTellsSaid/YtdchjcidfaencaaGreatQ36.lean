/-
  A bundle of texts: IEC IRB.
-/
import Derived.Deep.QuietTactic
import Derived.BigQuiet
import Derived.Deep.RegionHeld3
import Derived.Deep.MidRow
import Derived.Test.YtdchjcidfaencaaGreatQ25
import Derived.Test.YtdchjcidfaencaaGreatQ14
import Derived.Test.YtdchjcidfaencaaGreatQ05
import Derived.Test.YtdchjcidfaencaaGreatQ35
import Derived.Test.YtdchjcidfaencaaGreatQ26
namespace Go.Proofs.YtdchjcidfaencaaGreat
open Go.RowKit Go.Lib

theorem rec_info' : (Tryz.prog.info? 61).map (fun i => (i.zero, i.size, i.bytes)) = some (some (.agg #[.string ⟨#[]⟩, .int .i64 0, .int .i64 0, .int .i64 0, .int .u64 0, .int .i64 0, .int .i64 0]), 7, 64) := by kernel_rfl

theorem Cs.grown {w w' : World} {o : Option Nat} {l : List (Addr × Value)} (h : Cs w l) (g : w.grownBy w' o) (hne : ∀ x ∈ l, some x.1.block ≠ o) : Cs w' l := fun x hx =>
  ⟨Nat.lt_of_lt_of_le (h x hx).1 g.size, (World.cell?_of_block (a := x.1) (g.block _ (h x hx).1 (hne x hx))).trans (h x hx).2⟩

theorem new_trec (w : World) (x : TRec) (t : TypeId) : Cells (w.alloc (.cells #[.string x.n, .int .i64 x.s, .int .i64 x.a.c, .int .i64 x.a.hi, .int .u64 x.a.lo, .int .i64 x.a.mn, .int .i64 x.a.mx] t)) w.heap.size 0 (flat renc ([x].map rl)) := by
  show Cells _ _ _ (flat renc [_])
  rw [flat_one]
  exact new_cells w _ t

end Go.Proofs.YtdchjcidfaencaaGreat

namespace Go.Proofs.YtdchjcidfaencaaGreat
open Go.RowKit Go.Lib

theorem tRange_snoc {L : List TRec} {j : Nat} {x : TRec} (n : ByteArray) (f t : Int) (hx : L[j]? = some x) : tRange (L.take (j + 1)) n f t = if (x.n = n ∧ f ≤ x.s) ∧ x.s < t then tRange (L.take j) n f t ++ [x] else tRange (L.take j) n f t := by
  have hj := (List.getElem?_eq_some_iff.1 hx).1
  unfold tRange
  rw [List.take_succ_eq_append_getElem hj, (List.getElem?_eq_some_iff.1 hx).2, List.filter_append]
  by_cases c : (x.n = n ∧ f ≤ x.s) ∧ x.s < t
  · rw [if_pos c, List.filter_cons_of_pos (by simpa using c), List.filter_nil]
  · rw [if_neg c, List.filter_cons_of_neg (by simpa using c), List.filter_nil, List.append_nil]

set_option maxRecDepth 20000 in
set_option maxHeartbeats 3200000 in
theorem refRange_any {w : World} {p : Nat} {e : Int} {L : List TRec} (n : ByteArray) (f t : Int) (h : RT w p e L) (hn : L.length ≤ 10000) :
    Calls Tryz.prog 20 #[tptr p, .string n, .int .i64 f, .int .i64 t] w fun x w' => ∃ u, x = .returned u ∧ CellRow w' u (tRange L n f t).length (flat renc ((tRange L n f t).map rl)) ∧ Below w.heap.size w w' := by
  obtain ⟨i0, hi0, hz0, hz1, hz2⟩ := info_parts rec_info'
  have HI := Hid.of hi0
  have HZ0 := Hid.of hz0
  have HZ1 := Hid.of hz1
  have HZ2 := Hid.of hz2
  obtain ⟨u, hup, hrow, -⟩ := h
  have HU := Hid.of hup
  have HR := Hid.of hrow
  have HPL : Hid (p < w.heap.size) := Hid.of (Array.getElem?_eq_some_iff.1 hup).1
  obtain ⟨ua, uc, rfl, -⟩ := hrow
  obtain ⟨N, hN⟩ : ∃ N, L.length = N := ⟨_, rfl⟩
  have HN := Hid.of hN
  rw [hN] at HU HR hn
  clear hup hi0 hz0 hz1 hz2 hN
  go_enter Tryz.func20, Tryz.ntmps20
  go_wp2
  go_loopg [9, 10] N (fun kx av iv wr => ∃ (j m : Nat) (lv : Value), lv = av ∧ iv = .int .i64 j ∧ j ≤ N ∧ m ≤ j ∧ N - j ≤ kx ∧ Hid ((tRange (L.take j) n f t).length = m) ∧ Hid (wr.ownsRow w.heap.size 61 7 lv m (flat renc ((tRange (L.take j) n f t).map rl))) ∧ Hid (Below w.heap.size w wr))
  case atStart => exact ⟨0, 0, _, rfl, rfl, Nat.zero_le _, Nat.le_refl _, Nat.le_refl _, Hid.of rfl, Hid.of (World.ownsRow_nil _ _ _ _), Hid.of (Below.refl _ _)⟩
  case round =>
    obtain ⟨j, m, lv, rfl, rfl, hj, hm, hk, HM, HO, HB⟩ := hrel
    have j0 : (0 : Int) ≤ (j : Int) := Int.natCast_nonneg _
    have hup : wr.heap[p]? = some (.cells #[.int .i64 e, .slice ua N uc] 72 (0, 0)) := (HB.out.block p HPL.out).trans HU.out
    have c1 : wr.cell? ⟨p, 1, none⟩ = some (.slice ua N uc) := by rw [cell_of_row _ _ _ _ _ _ hup]; rfl
    by_cases hlt : (j : Int) < (N : Int)
    · obtain ⟨x, hx⟩ : ∃ x, L[j]? = some x := ⟨_, List.getElem?_eq_getElem (by have := HN.out; omega)⟩
      obtain ⟨b1, o1, rfl, g1, d0, d1, d2, d3, d4, d5, d6⟩ := r_at (HR.out.kept HB.out) j (rl x) (by rw [List.getElem?_map, hx]; rfl)
      obtain ⟨xn, xs, a⟩ := x
      have HSN := Hid.of (tRange_snoc n f t hx)
      have HJ : Hid (j < N) := Hid.of (by omega)
      have HMJ := Hid.of hm
      have hmN : m ≤ 10000 := by omega
      unfold rl at d0 d1 d2 d3 d4 d5 d6
      simp only at d0 d1 d2 d3 d4 d5 d6 HSN
      clear hx g1 hup hm
      by_cases hc : (xn = n ∧ f ≤ xs) ∧ xs < t
      · have HS2 : Hid (tRange (L.take (j + 1)) n f t = tRange (L.take j) n f t ++ [⟨xn, xs, a⟩]) := Hid.of (by rw [HSN.out, if_pos hc])
        have e0 : (xn.toList == n.toList) = true := by rw [hc.1.1]; exact beq_self_eq_true _
        have k1 : xs ≥ f := hc.1.2
        have k2 : xs < t := hc.2
        clear HSN hc
        go_wp2_with (at_builtin; refine append_keep_law rfl (.tmp 54) (.tmp 62) 49 rfl w.heap.size 61 i0 _ 7 64 Tryz.underlying49 HI.out HZ0.out HZ1.out HZ2.out rfl (by decide) lv m _ rfl (World.ownsRow.alloc HO.out _) wr.heap.size 0 1 1 (flat renc ([(⟨xn, xs, a⟩ : TRec)].map rl)) rfl (new_trec wr ⟨xn, xs, a⟩ _) rfl (by intro z hz; exact flat_ones renc_one _ z hz) (by unfold maxLen; omega) (by omega) (by simp; have := HB.out.size; omega) ?_; intro x4 w4 o4 g4 _ _; have O4 := Hid.of o4; have G4 := Hid.of g4; clear o4 g4)
        go_roundg (N - (j + 1))
        case measure => have := HJ.out; omega
        case rel =>
          refine ⟨j + 1, m + 1, _, rfl, by go_num, HJ.out, Nat.succ_le_succ HMJ.out, Nat.le_refl _, Hid.of (by rw [HS2.out, List.length_append, HM.out]; rfl), Hid.of ?_, Hid.of ((HB.out.alloc HB.out.size _).grown G4.out (by simp; have := HB.out.size; omega) (fun k hk => own_ge HO.out hk))⟩
          rw [HS2.out, List.map_append, flat_append]
          exact O4.out
      · have HS2 : Hid (tRange (L.take (j + 1)) n f t = tRange (L.take j) n f t) := Hid.of (by rw [HSN.out, if_neg hc])
        clear HSN
        by_cases e1 : xn = n
        · have e0 : (xn.toList == n.toList) = true := by rw [e1]; exact beq_self_eq_true _
          have E1 := Hid.of e1
          by_cases k1 : xs ≥ f
          · have k2 : ¬ xs < t := fun c => hc ⟨⟨e1, k1⟩, c⟩
            clear hc e1
            go_wp2
            go_roundg (N - (j + 1))
            case measure => have := HJ.out; omega
            case rel => exact ⟨j + 1, m, _, rfl, by go_num, HJ.out, Nat.le_succ_of_le HMJ.out, Nat.le_refl _, Hid.of (by rw [HS2.out]; exact HM.out), Hid.of (by rw [HS2.out]; exact HO.out), HB⟩
          · clear hc e1
            go_wp2
            go_roundg (N - (j + 1))
            case measure => have := HJ.out; omega
            case rel => exact ⟨j + 1, m, _, rfl, by go_num, HJ.out, Nat.le_succ_of_le HMJ.out, Nat.le_refl _, Hid.of (by rw [HS2.out]; exact HM.out), Hid.of (by rw [HS2.out]; exact HO.out), HB⟩
        · have e0 : (xn.toList == n.toList) = false := beq_eq_false_iff_ne.2 (fun c => e1 (toList_eq c))
          clear hc e1
          go_wp2
          go_roundg (N - (j + 1))
          case measure => have := HJ.out; omega
          case rel => exact ⟨j + 1, m, _, rfl, by go_num, HJ.out, Nat.le_succ_of_le HMJ.out, Nat.le_refl _, Hid.of (by rw [HS2.out]; exact HM.out), Hid.of (by rw [HS2.out]; exact HO.out), HB⟩
    · obtain rfl : j = N := by omega
      have e9 : L.take j = L := by rw [← HN.out, List.take_length]
      have HM2 := HM.out
      have HO2 := HO.out
      rw [e9] at HM2 HO2
      rw [← HM2] at HO2
      have HO3 := Hid.of HO2
      clear HM HO e9 HM2 HO2
      go_wp2
      go_ret
      exact ⟨_, rfl, own_row HO3.out, HB.out⟩

set_option maxRecDepth 20000 in
theorem refAsks_any (n : ByteArray) (f t : Int) (w : World) (hn : n.size ≤ maxLen) : Calls Tryz.prog 17 #[.string n, .int .i64 f, .int .i64 t] w fun x w' => x = .returned (.int .i64 (iAskE n f t)) ∧ Below w.heap.size w w' := by
  have hnm := refName_any n hn w
  obtain ⟨a, ha⟩ : ∃ a, nOk n = a := ⟨_, rfl⟩
  obtain ⟨z, hz⟩ : ∃ z, iAskE n f t = z := ⟨_, rfl⟩
  rw [ha] at hnm
  rw [hz]
  unfold iAskE at hz
  rw [ha] at hz
  clear ha
  cases a
  · obtain rfl : 1 = z := by rw [← hz]; simp
    clear hz
    go_enter Tryz.func17, Tryz.ntmps17
    go_wp2_with fail
    refine hnm.mono ?_
    rintro e w2 ⟨rfl, q, rfl⟩
    go_wp2
    go_ret
    exact ⟨rfl, below_drewN (Below.refl _ _) q⟩
  · by_cases h1 : f < 0
    · obtain rfl : 1 = z := by rw [← hz, if_pos (.inr (.inl h1))]
      clear hz
      go_enter Tryz.func17, Tryz.ntmps17
      go_wp2_with fail
      refine hnm.mono ?_
      rintro e w2 ⟨rfl, q, rfl⟩
      go_wp2
      go_ret
      exact ⟨rfl, below_drewN (Below.refl _ _) q⟩
    · by_cases h2 : t < f
      · obtain rfl : 1 = z := by rw [← hz, if_pos (.inr (.inr h2))]
        clear hz
        go_enter Tryz.func17, Tryz.ntmps17
        go_wp2_with fail
        refine hnm.mono ?_
        rintro e w2 ⟨rfl, q, rfl⟩
        go_wp2
        go_ret
        exact ⟨rfl, below_drewN (Below.refl _ _) q⟩
      · obtain rfl : 0 = z := by rw [← hz, if_neg (by simp [h1, h2])]
        clear hz
        go_enter Tryz.func17, Tryz.ntmps17
        go_wp2_with fail
        refine hnm.mono ?_
        rintro e w2 ⟨rfl, q, rfl⟩
        go_wp2
        go_ret
        exact ⟨rfl, below_drewN (Below.refl _ _) q⟩

end Go.Proofs.YtdchjcidfaencaaGreat
