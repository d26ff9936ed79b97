/-
  What package name's own Order answers.
-/
import Derived.Test.YtopilmancehbiaaNK
import Derived.Test.YtopilmancehbiaaBC
namespace Go.Proofs.Ytopilmancehbiaa
open Go.RowKit Go.Lib Go.Sort

theorem enc_mk (l : List (List UInt8)) : l.map Proofs.encStr = (l.map mkText).map Value.string := by
  rw [List.map_map]
  rfl

/-- slices.Clone of any slice of texts. -/
theorem clone_any (v : Value) (ss : List ByteArray) (w : World) (hv : CellRow w v ss.length (ss.map Value.string)) (hn : ss.length ≤ 1000000) :
    Calls Try.prog 25 #[v] w fun e w' => ∃ u, e = .returned u ∧ w'.ownsRow w.heap.size 9 1 u ss.length (ss.map Value.string) ∧ Below w.heap.size w w' := by
  obtain ⟨a, c, rfl, h⟩ := hv
  by_cases h0 : ss = []
  · subst h0
    cases a with
    | none =>
      refine (Try.slices_Clone_string_nil 0 c w).mono ?_
      rintro e w' ⟨rfl, rfl⟩
      exact ⟨_, rfl, World.ownsRow_nil _ _ _ 1, Below.refl _ _⟩
    | some a =>
      refine (Try.slices_Clone_string_zero a c w).mono ?_
      rintro e w' ⟨u, rfl, h1, _, h2⟩
      exact ⟨u, rfl, h1, h2⟩
  · rcases h with h | ⟨b, o, rfl, hl, hc⟩
    · exact absurd (by simpa using h) h0
    · refine (Try.slices_Clone_string b o ss.length c ss w (Nat.le_refl _) (by omega) (fun j hj => ?_)).mono ?_
      · rw [hc j (.string ss[j]) (by simp [hj])]
        simp [List.getD, hj]
      · rintro e w' ⟨u, rfl, h1, _, h2⟩
        rw [List.take_length] at h1
        exact ⟨u, rfl, h1, h2⟩

/-- slices.Sort of one's own texts. -/
theorem sort_own (B n : Nat) (v : Value) (ss : List ByteArray) (w : World) (h : w.ownsRow B 9 1 v n (ss.map Value.string)) (hn : ss.length ≤ 1000000) :
    Calls Try.prog 26 #[v] w fun e w' => e = .returned (.tuple #[]) ∧ w'.ownsRow B 9 1 v n ((nSorted ss).map Proofs.encStr) ∧ w.grownBy w' v.ownBlock := by
  have hl : ss.length = n := by have := h.1; simpa using this
  by_cases hv : v = .slice none 0 0
  · subst hv
    have h0 : ss = [] := by
      rcases h.2 with ⟨_, h0⟩ | ⟨g, cap, cur, hv, _⟩
      · exact List.eq_nil_of_length_eq_zero (hl.trans h0)
      · cases hv
    subst h0
    refine (Try.slices_Sort_string_none none 0 w).mono ?_
    rintro e w' ⟨rfl, rfl⟩
    have e0 : nSorted [] = [] := List.eq_nil_of_length_eq_zero (nSorted_length [])
    exact ⟨rfl, by rw [e0]; exact h, grownBy_refl _ _⟩
  · have h' : w.ownsRow B 9 1 v n ((ss.map (·.data.toList)).map Proofs.encStr) := by rw [map_encStr]; exact h
    obtain ⟨g, cap, rfl, hB, hg, hc, hm, hl', hH⟩ := holds_of_ownsRow h' hv
    have hs := Try.slices_Sort_string g 0 cap (ss.map (·.data.toList)) w hH hg (by rw [List.length_map]; omega)
    rw [hl'] at hs
    refine hs.mono ?_
    rintro e w' ⟨rfl, q, os, rfl⟩
    rcases h'.2 with ⟨hv', _⟩ | ⟨g', cap', cur, hv', hb, hrow, h1, h2, h3, h4⟩
    · cases hv'
    · simp only [Value.slice.injEq, Option.some.injEq, Addr.mk.injEq, and_true, true_and] at hv'
      obtain ⟨rfl, rfl⟩ := hv'
      have hs := ownsRow_sorted (n := q) (os := os) (ss := ss.map (·.data.toList)) (ts := nSorted ss) (by rw [nSorted_length, List.length_map]) hb hrow (by rw [hl']; exact h1) h2 h3
      rw [hl'] at hs
      exact ⟨rfl, hs, grownBy_sorted _⟩

/-- slices.Compact of one's own texts. -/
theorem compact_own (B n : Nat) (v : Value) (ts : List (List UInt8)) (w : World) (h : w.ownsRow B 9 1 v n (ts.map Proofs.encStr)) (hn : ts.length ≤ 1000000) :
    Calls Try.prog 27 #[v] w fun e w' => ∃ u, e = .returned u ∧ w'.ownsRow B 9 1 u (Lib.compact ts).length ((Lib.compact ts).map Proofs.encStr) ∧ w.grownBy w' v.ownBlock := by
  have hl : ts.length = n := by have := h.1; simpa using this
  by_cases hv : v = .slice none 0 0
  · subst hv
    have h0 : ts = [] := by
      rcases h.2 with ⟨_, h0⟩ | ⟨g, cap, cur, hv, _⟩
      · exact List.eq_nil_of_length_eq_zero (hl.trans h0)
      · cases hv
    subst h0
    refine (Try.slices_Compact_string_empty none 0 w).mono ?_
    rintro e w' ⟨rfl, rfl⟩
    exact ⟨_, rfl, World.ownsRow_nil _ _ _ 1, grownBy_refl _ _⟩
  · obtain ⟨g, cap, rfl, hB, hg, hc, hm, hl', hH⟩ := holds_of_ownsRow h hv
    have hs := Try.slices_Compact_string g 0 cap ts w hH (by omega) (by omega)
    rw [hl'] at hs
    refine hs.mono ?_
    rintro e w' ⟨rfl, q, rfl⟩
    have hle := Lib.compact_length_le ts
    have hp := ownsRow_putRow (q := q) (k := (Lib.compact ts).length) (ys := Lib.compact ts ++ List.replicate (n - (Lib.compact ts).length) []) h (by simp; omega) (by omega)
    rw [List.take_left] at hp
    refine ⟨_, rfl, hp, ⟨rfl, rfl, rfl, by simp [putRow, mapBlock, Sort.ahead], fun k hk hne => ?_⟩⟩
    have : g ≠ k := fun e => hne (by simp [Value.ownBlock, e])
    simp [putRow, mapBlock, Sort.ahead, Array.getElem?_modify, this]

set_option maxRecDepth 20000 in
set_option maxHeartbeats 1600000 in
theorem order_any (v : Value) (ss : List ByteArray) (w : World) (hv : CellRow w v ss.length (ss.map Value.string)) (hn : ss.length ≤ 1000) (hs : ∀ s ∈ ss, s.size ≤ 1000000) :
    Calls Try.prog 16 #[v] w fun e w' => ∃ u, e = .returned u ∧ w'.ownsRow w.heap.size 9 1 u (nOrder ss).length ((nOrder ss).map Value.string) ∧ Below w.heap.size w w' := by
  have HV := Hid.of hv
  have HS := Hid.of hs
  have HN := Hid.of hn
  clear hs hv hn
  go_enter Try.func16, Try.ntmps16
  go_wp2_with fail
  refine (clone_any _ ss _ HV.out (by have := HN.out; omega)).mono ?_
  rintro e w1 ⟨u1, rfl, o1, b1⟩
  have O1 := Hid.of o1
  have B1 := Hid.of b1
  clear o1 b1
  go_wp2_with fail
  refine (sort_own _ _ u1 ss _ O1.out (by have := HN.out; omega)).mono ?_
  rintro e w2 ⟨rfl, o2, g2⟩
  have O2 := Hid.of o2
  have B2 := Hid.of (B1.out.grown g2 B1.out.size (fun k hk => own_ge O1.out hk))
  clear o2 g2
  go_wp2_with fail
  refine (compact_own _ _ u1 (nSorted ss) _ O2.out (by have := HN.out; rw [nSorted_length]; omega)).mono ?_
  rintro e w3 ⟨u3, rfl, o3, g3⟩
  have B3 := Hid.of (B2.out.grown g3 B2.out.size (fun k hk => own_ge O2.out hk))
  have el : (Lib.compact (nSorted ss)).length = (nOrder ss).length := by rw [← order_sorted, List.length_map]
  rw [enc_mk, order_sorted, el] at o3
  clear g3 el O1 O2 B1 B2
  have hlen := nOrder_length ss
  have HM := Hid.of (fun (s : ByteArray) (h : s ∈ nOrder ss) => HS.out s (((nOrder_props ss).2 s).1 h))
  obtain ⟨cs, hcs⟩ : ∃ cs, nOrder ss = cs := ⟨_, rfl⟩
  rw [hcs] at o3 hlen HM
  have HCS := Hid.of hcs
  clear hcs
  have HL : Hid (cs.length ≤ 1000) := Hid.of (by have := HN.out; omega)
  have l9 : (cs.length : Int) ≤ 1000 := by have := HL.out; omega
  clear hlen HS HN
  have O3 := Hid.of o3
  have key : (∃ a c, u3 = .slice a cs.length c) := by
    rcases o3.2 with ⟨h, h'⟩ | ⟨g, cap, cur, h, _⟩
    · rw [h, h']; exact ⟨_, _, rfl⟩
    · exact ⟨_, _, h⟩
  obtain ⟨a, c, rfl⟩ := key
  clear o3
  go_wp2
  go_loopw [4, 5, 14] (fun _ _ iv wr => ∃ j : Nat, j ≤ cs.length ∧ iv = .int .i64 j ∧ Hid (wr.ownsRow w.heap.size 9 1 (.slice a cs.length c) cs.length (cs.map Value.string)) ∧ Hid (RowKit.Below w.heap.size w wr)) (fun _ _ iv _ => cs.length - (RowKit.intOf iv).toNat)
  case atStart => exact ⟨0, Nat.zero_le _, rfl, O3, B3⟩
  case round =>
    obtain ⟨j, hj, rfl, O, hb⟩ := hrel
    by_cases hlt : j < cs.length
    · obtain ⟨g, rfl⟩ : ∃ g, a = some ⟨g, 0, none⟩ := by
        rcases O.out.2 with ⟨_, h'⟩ | ⟨g, cap, cur, h, _⟩
        · omega
        · simp only [Value.slice.injEq] at h
          exact ⟨g, h.1⟩
      have hc0 := O.out.cellAt j (by omega)
      have hjj : cs[j]? = some cs[j] := List.getElem?_eq_getElem hlt
      rw [List.getElem?_map, hjj] at hc0
      have hst : (cs.map Value.string).set j (.string cs[j]) = cs.map Value.string := by
        rw [← List.map_set, List.set_getElem_self]
      have hsz := HM.out _ (List.getElem_mem hlt)
      generalize cs[j] = s at *
      have HST := Hid.of hst
      have HSZ := Hid.of hsz
      have hc1 : wr.cell? ⟨g, j, none⟩ = some (.string s) := hc0
      have hg0 : g < wr.heap.size := (O.out.lt g rfl).2
      have i0 : (0 : Int) ≤ (j : Int) := Int.natCast_nonneg _
      have i1 : (j : Int) < (cs.length : Int) := by omega
      clear hc0 hjj hst hsz
      go_wp2_with fail
      refine (Clone_any s _ (by have := HSZ.out; omega)).mono ?_
      rintro e x1 ⟨rfl, b1⟩
      have OX := Hid.of (O.out.kept (grown_of_below b1) (by simp [Value.ownBlock]))
      have BX := Hid.of (hb.out.trans (b1.mono hb.out.size))
      have fz : x1.frozen? ⟨g, j, none⟩ = false := OX.out.frozenAt j
      have cz : x1.cell? ⟨g, j, none⟩ = some (.string s) := by rw [b1.cell hg0]; exact hc1
      clear b1 hc1
      go_wp2
      go_roundw
      case rel =>
        have hs := OX.out.stored j (.string s)
        rw [HST.out] at hs
        exact ⟨j + 1, by omega, by go_num, Hid.of hs.1, Hid.of (BX.out.grown hs.2 BX.out.size (fun k hk => own_ge OX.out hk))⟩
      case measure => simp [RowKit.intOf]; omega
    · go_wp2
      go_ret
      refine ⟨_, rfl, ?_, hb.out⟩
      rw [HCS.out]
      exact O.out

end Go.Proofs.Ytopilmancehbiaa
