/-
  A bundle of texts: NK NQ.
-/
import Derived.Sort.Walk0
import Derived.Sort.OwnSorted
import Derived.Lib.OwnBridge
import Derived.Lib.SlicesCompact
import Derived.Laws.OwnMore
import Derived.Test.YtbhcafginmkaaaaGreatN06
import Derived.Test.YtbhcafginmkaaaaGreatN11
import Derived.Test.YtbhcafginmkaaaaGreatN10
import Derived.Test.YtbhcafginmkaaaaGreatN24
namespace Go.Proofs.YtbhcafginmkaaaaGreat
open Go.RowKit

theorem ble_iff (x y : List UInt8) : decide (x ≤ y) = !Op.bytesLess y x := by
  rw [bytesLess_eq]
  by_cases h : y < x
  · rw [decide_eq_true h, decide_eq_false (List.not_le.2 h)]; rfl
  · rw [decide_eq_false h, decide_eq_true (List.not_lt.1 h)]; rfl

theorem ble_trans {x y z : List UInt8} (h : Op.bytesLess y x = false) (k : Op.bytesLess z y = false) : Op.bytesLess z x = false := by
  cases c : Op.bytesLess z x with
  | false => rfl
  | true =>
    by_cases e : x = y
    · rw [e, k] at c; cases c
    · rcases less_total _ _ e with e | e
      · rw [less_trans c e] at k; cases k
      · rw [e] at h; cases h

theorem ble_ne {x y : List UInt8} (h : Op.bytesLess y x = false) (ne : x ≠ y) : Op.bytesLess x y = true := by
  rcases less_total _ _ ne with e | e
  · exact e
  · rw [e] at h; cases h

theorem ble_lt {x y z : List UInt8} (h : Op.bytesLess y x = false) (k : Op.bytesLess y z = true) : Op.bytesLess x z = true := by
  by_cases e : x = y
  · rw [e]; exact k
  · exact less_trans (ble_ne h e) k

theorem compact_up (d : Array (List UInt8)) (hs : ∀ i j, i ≤ j → j < d.size → Op.bytesLess d[j]! d[i]! = false) (m : Nat) (hm : m ≤ d.size) :
    (Lib.compactUpTo d m).Pairwise (fun x y => Op.bytesLess x y = true) ∧ (∀ x, x ∈ Lib.compactUpTo d m ↔ ∃ j, j < m ∧ d[j]! = x) := by
  induction m with
  | zero => exact ⟨List.Pairwise.nil, fun x => by simp [Lib.compactUpTo]⟩
  | succ m ih =>
    obtain ⟨h1, h2⟩ := ih (by omega)
    rw [Lib.compactUpTo_succ]
    by_cases h0 : m = 0
    · subst h0
      have hk : Lib.keeps d 0 = true := by simp [Lib.keeps]
      rw [hk, if_pos rfl]
      have hn : Lib.compactUpTo d 0 = [] := by simp [Lib.compactUpTo]
      rw [hn]
      refine ⟨List.pairwise_singleton _ _, fun x => ?_⟩
      simp only [List.nil_append, List.mem_singleton]
      constructor
      · rintro rfl; exact ⟨0, by omega, rfl⟩
      · rintro ⟨j, hj, rfl⟩; rw [show j = 0 by omega]
    · by_cases hne : d[m]! = d[m - 1]!
      · have hk : Lib.keeps d m = false := Lib.keeps_neg (by omega) hne
        rw [hk, if_neg (by simp), List.append_nil]
        refine ⟨h1, fun x => (h2 x).trans ⟨fun ⟨j, hj, e⟩ => ⟨j, by omega, e⟩, fun ⟨j, hj, e⟩ => ?_⟩⟩
        by_cases c : j = m
        · subst c
          exact ⟨j - 1, by omega, by rw [← hne]; exact e⟩
        · exact ⟨j, by omega, e⟩
      · have hk : Lib.keeps d m = true := Lib.keeps_pos hne
        rw [hk, if_pos rfl]
        have hlast : Op.bytesLess d[m - 1]! d[m]! = true := ble_ne (hs (m - 1) m (by omega) (by omega)) (Ne.symm hne)
        refine ⟨List.pairwise_append.2 ⟨h1, List.pairwise_singleton _ _, fun a ha b hb => ?_⟩, fun x => ?_⟩
        · rw [List.mem_singleton.1 hb]
          obtain ⟨j, hj, rfl⟩ := (h2 a).1 ha
          exact ble_lt (hs j (m - 1) (by omega) (by omega)) hlast
        · rw [List.mem_append, List.mem_singleton, h2 x]
          constructor
          · rintro (⟨j, hj, e⟩ | rfl)
            · exact ⟨j, by omega, e⟩
            · exact ⟨m, by omega, rfl⟩
          · rintro ⟨j, hj, e⟩
            by_cases c : j = m
            · subst c; exact .inr e.symm
            · exact .inl ⟨j, by omega, e⟩

/-- A text of these bytes. -/
abbrev mkText (l : List UInt8) : ByteArray := ⟨l.toArray⟩

theorem mkText_list (l : List UInt8) : (mkText l).toList = l := by
  rw [ByteArray.toList_eq]

theorem mkText_of (s : ByteArray) : mkText s.data.toList = s := by
  cases s
  rfl

/-- They are sorted. -/
def nSorted (ss : List ByteArray) : List (List UInt8) := (ss.map (·.data.toList)).mergeSort fun x y => decide (x ≤ y)

theorem nSorted_length (ss : List ByteArray) : (nSorted ss).length = ss.length := by
  unfold nSorted
  rw [List.length_mergeSort, List.length_map]

theorem nSorted_mem (ss : List ByteArray) (x : List UInt8) : x ∈ nSorted ss ↔ mkText x ∈ ss := by
  unfold nSorted
  rw [List.mem_mergeSort, List.mem_map]
  constructor
  · rintro ⟨s, hs, rfl⟩
    rw [mkText_of]
    exact hs
  · intro h
    exact ⟨_, h, rfl⟩

theorem nSorted_up (ss : List ByteArray) : ∀ i j, i ≤ j → j < (nSorted ss).toArray.size → Op.bytesLess (nSorted ss).toArray[j]! (nSorted ss).toArray[i]! = false := by
  intro i j hij hj
  have hp := List.pairwise_mergeSort (le := fun x y : List UInt8 => decide (x ≤ y)) (fun a b c h1 h2 => by
      simp only [ble_iff, Bool.not_eq_true'] at h1 h2 ⊢
      exact ble_trans h1 h2)
    (fun a b => by
      simp only [ble_iff]
      cases h : Op.bytesLess b a with
      | false => rfl
      | true => rw [less_asymm h]; rfl) (ss.map (·.data.toList))
  have hj' : j < (nSorted ss).length := by simpa using hj
  rw [getElem!_pos (nSorted ss).toArray j hj, getElem!_pos (nSorted ss).toArray i (by omega)]
  simp only [List.getElem_toArray]
  rcases Nat.lt_or_eq_of_le hij with h | rfl
  · have := List.pairwise_iff_getElem.1 hp i j (Nat.lt_trans h hj') hj' h
    rw [ble_iff, Bool.not_eq_true'] at this
    exact this
  · exact less_irrefl _

theorem order_sorted (ss : List ByteArray) : (Lib.compact (nSorted ss)).map mkText = nOrder ss := by
  obtain ⟨h1, h2⟩ := compact_up (nSorted ss).toArray (nSorted_up ss) (nSorted ss).length (by simp)
  refine nOrder_of ?_ fun s => ?_
  · unfold Rising
    rw [List.pairwise_map]
    refine h1.imp fun {a b} h => ?_
    unfold nLt
    rw [mkText_list, mkText_list]
    exact h
  · rw [List.mem_map]
    constructor
    · rintro ⟨x, hx, rfl⟩
      obtain ⟨j, hj, e⟩ := (h2 x).1 hx
      rw [getElem!_pos (nSorted ss).toArray j (by simpa using hj)] at e
      simp only [List.getElem_toArray] at e
      exact (nSorted_mem ss x).1 (by rw [← e]; exact List.getElem_mem _)
    · intro hs
      refine ⟨s.data.toList, (h2 _).2 ?_, mkText_of s⟩
      have hm := (nSorted_mem ss s.data.toList).2 (by rw [mkText_of]; exact hs)
      obtain ⟨j, hj, e⟩ := List.getElem_of_mem hm
      refine ⟨j, hj, ?_⟩
      rw [getElem!_pos (nSorted ss).toArray j (by simpa using hj)]
      simp only [List.getElem_toArray]
      exact e

end Go.Proofs.YtbhcafginmkaaaaGreat

namespace Go.Proofs.YtbhcafginmkaaaaGreat
open Go.RowKit Go.Lib Go.Sort

theorem enc_mk (l : List (List UInt8)) : l.map Proofs.encStr = (l.map mkText).map Value.string := by
  rw [List.map_map]
  rfl

/-- slices.Clone of any slice of texts. -/
theorem clone_any (v : Value) (ss : List ByteArray) (w : World) (hv : CellRow w v ss.length (ss.map Value.string)) (hn : ss.length ≤ 1000000) :
    Calls Tryz.prog 287 #[v] w fun e w' => ∃ u, e = .returned u ∧ w'.ownsRow w.heap.size 9 1 u ss.length (ss.map Value.string) ∧ Below w.heap.size w w' := by
  obtain ⟨a, c, rfl, h⟩ := hv
  by_cases h0 : ss = []
  · subst h0
    cases a with
    | none =>
      refine (Tryz.slices_Clone_string_nil 0 c w).mono ?_
      rintro e w' ⟨rfl, rfl⟩
      exact ⟨_, rfl, World.ownsRow_nil _ _ _ 1, Below.refl _ _⟩
    | some a =>
      refine (Tryz.slices_Clone_string_zero a c w).mono ?_
      rintro e w' ⟨u, rfl, h1, _, h2⟩
      exact ⟨u, rfl, h1, h2⟩
  · rcases h with h | ⟨b, o, rfl, hl, hc⟩
    · exact absurd (by simpa using h) h0
    · refine (Tryz.slices_Clone_string b o ss.length c ss w (Nat.le_refl _) (by omega) (fun j hj => ?_)).mono ?_
      · rw [hc j (.string ss[j]) (by simp [hj])]
        simp [List.getD, hj]
      · rintro e w' ⟨u, rfl, h1, _, h2⟩
        rw [List.take_length] at h1
        exact ⟨u, rfl, h1, h2⟩

/-- slices.Sort of one's own texts. -/
theorem sort_own (B n : Nat) (v : Value) (ss : List ByteArray) (w : World) (h : w.ownsRow B 9 1 v n (ss.map Value.string)) (hn : ss.length ≤ 1000000) :
    Calls Tryz.prog 288 #[v] w fun e w' => e = .returned (.tuple #[]) ∧ w'.ownsRow B 9 1 v n ((nSorted ss).map Proofs.encStr) ∧ w.grownBy w' v.ownBlock := by
  have hl : ss.length = n := by have := h.1; simpa using this
  by_cases hv : v = .slice none 0 0
  · subst hv
    have h0 : ss = [] := by
      rcases h.2 with ⟨_, h0⟩ | ⟨g, cap, cur, hv, _⟩
      · exact List.eq_nil_of_length_eq_zero (hl.trans h0)
      · cases hv
    subst h0
    refine (Tryz.slices_Sort_string_none none 0 w).mono ?_
    rintro e w' ⟨rfl, rfl⟩
    have e0 : nSorted [] = [] := List.eq_nil_of_length_eq_zero (nSorted_length [])
    exact ⟨rfl, by rw [e0]; exact h, grownBy_refl _ _⟩
  · have h' : w.ownsRow B 9 1 v n ((ss.map (·.data.toList)).map Proofs.encStr) := by rw [map_encStr]; exact h
    obtain ⟨g, cap, rfl, hB, hg, hc, hm, hl', hH⟩ := holds_of_ownsRow h' hv
    have hs := Tryz.slices_Sort_string g 0 cap (ss.map (·.data.toList)) w hH hg (by rw [List.length_map]; omega)
    rw [hl'] at hs
    refine hs.mono ?_
    rintro e w' ⟨rfl, q, os, rfl⟩
    rcases h'.2 with ⟨hv', _⟩ | ⟨g', cap', cur, hv', hb, hrow, h1, h2, h3, h4⟩
    · cases hv'
    · simp only [Value.slice.injEq, Option.some.injEq, Addr.mk.injEq, and_true, true_and] at hv'
      obtain ⟨rfl, rfl⟩ := hv'
      have hs := ownsRow_sorted (n := q) (os := os) (ss := ss.map (·.data.toList)) (ts := nSorted ss) (by rw [nSorted_length, List.length_map]) hb hrow (by rw [hl']; exact h1) h2 h3
      rw [hl'] at hs
      exact ⟨rfl, hs, grownBy_sorted _⟩

/-- slices.Compact of one's own texts. -/
theorem compact_own (B n : Nat) (v : Value) (ts : List (List UInt8)) (w : World) (h : w.ownsRow B 9 1 v n (ts.map Proofs.encStr)) (hn : ts.length ≤ 1000000) :
    Calls Tryz.prog 289 #[v] w fun e w' => ∃ u, e = .returned u ∧ w'.ownsRow B 9 1 u (Lib.compact ts).length ((Lib.compact ts).map Proofs.encStr) ∧ w.grownBy w' v.ownBlock := by
  have hl : ts.length = n := by have := h.1; simpa using this
  by_cases hv : v = .slice none 0 0
  · subst hv
    have h0 : ts = [] := by
      rcases h.2 with ⟨_, h0⟩ | ⟨g, cap, cur, hv, _⟩
      · exact List.eq_nil_of_length_eq_zero (hl.trans h0)
      · cases hv
    subst h0
    refine (Tryz.slices_Compact_string_empty none 0 w).mono ?_
    rintro e w' ⟨rfl, rfl⟩
    exact ⟨_, rfl, World.ownsRow_nil _ _ _ 1, grownBy_refl _ _⟩
  · obtain ⟨g, cap, rfl, hB, hg, hc, hm, hl', hH⟩ := holds_of_ownsRow h hv
    have hs := Tryz.slices_Compact_string g 0 cap ts w hH (by omega) (by omega)
    rw [hl'] at hs
    refine hs.mono ?_
    rintro e w' ⟨rfl, q, rfl⟩
    have hle := Lib.compact_length_le ts
    have hp := ownsRow_putRow (q := q) (k := (Lib.compact ts).length) (ys := Lib.compact ts ++ List.replicate (n - (Lib.compact ts).length) []) h (by simp; omega) (by omega)
    rw [List.take_left] at hp
    refine ⟨_, rfl, hp, ⟨rfl, rfl, rfl, by simp [putRow, mapBlock, Sort.ahead], fun k hk hne => ?_⟩⟩
    have : g ≠ k := fun e => hne (by simp [Value.ownBlock, e])
    simp [putRow, mapBlock, Sort.ahead, Array.getElem?_modify, this]

set_option maxRecDepth 20000 in
set_option maxHeartbeats 1600000 in
theorem order_any (v : Value) (ss : List ByteArray) (w : World) (hv : CellRow w v ss.length (ss.map Value.string)) (hn : ss.length ≤ 1000) (hs : ∀ s ∈ ss, s.size ≤ 1000000) :
    Calls Tryz.prog 267 #[v] w fun e w' => ∃ u, e = .returned u ∧ w'.ownsRow w.heap.size 9 1 u (nOrder ss).length ((nOrder ss).map Value.string) ∧ Below w.heap.size w w' := by
  have HV := Hid.of hv
  have HS := Hid.of hs
  have HN := Hid.of hn
  clear hs hv hn
  go_enter Tryz.func267, Tryz.ntmps267
  go_wp2_with fail
  refine (clone_any _ ss _ HV.out (by have := HN.out; omega)).mono ?_
  rintro e w1 ⟨u1, rfl, o1, b1⟩
  have O1 := Hid.of o1
  have B1 := Hid.of b1
  clear o1 b1
  go_wp2_with fail
  refine (sort_own _ _ u1 ss _ O1.out (by have := HN.out; omega)).mono ?_
  rintro e w2 ⟨rfl, o2, g2⟩
  have O2 := Hid.of o2
  have B2 := Hid.of (B1.out.grown g2 B1.out.size (fun k hk => own_ge O1.out hk))
  clear o2 g2
  go_wp2_with fail
  refine (compact_own _ _ u1 (nSorted ss) _ O2.out (by have := HN.out; rw [nSorted_length]; omega)).mono ?_
  rintro e w3 ⟨u3, rfl, o3, g3⟩
  have B3 := Hid.of (B2.out.grown g3 B2.out.size (fun k hk => own_ge O2.out hk))
  have el : (Lib.compact (nSorted ss)).length = (nOrder ss).length := by rw [← order_sorted, List.length_map]
  rw [enc_mk, order_sorted, el] at o3
  clear g3 el O1 O2 B1 B2
  have hlen := nOrder_length ss
  have HM := Hid.of (fun (s : ByteArray) (h : s ∈ nOrder ss) => HS.out s (((nOrder_props ss).2 s).1 h))
  obtain ⟨cs, hcs⟩ : ∃ cs, nOrder ss = cs := ⟨_, rfl⟩
  rw [hcs] at o3 hlen HM
  have HCS := Hid.of hcs
  clear hcs
  have HL : Hid (cs.length ≤ 1000) := Hid.of (by have := HN.out; omega)
  have l9 : (cs.length : Int) ≤ 1000 := by have := HL.out; omega
  clear hlen HS HN
  have O3 := Hid.of o3
  have key : (∃ a c, u3 = .slice a cs.length c) := by
    rcases o3.2 with ⟨h, h'⟩ | ⟨g, cap, cur, h, _⟩
    · rw [h, h']; exact ⟨_, _, rfl⟩
    · exact ⟨_, _, h⟩
  obtain ⟨a, c, rfl⟩ := key
  clear o3
  go_wp2
  go_loopw [4, 5, 14] (fun _ _ iv wr => ∃ j : Nat, j ≤ cs.length ∧ iv = .int .i64 j ∧ Hid (wr.ownsRow w.heap.size 9 1 (.slice a cs.length c) cs.length (cs.map Value.string)) ∧ Hid (RowKit.Below w.heap.size w wr)) (fun _ _ iv _ => cs.length - (RowKit.intOf iv).toNat)
  case atStart => exact ⟨0, Nat.zero_le _, rfl, O3, B3⟩
  case round =>
    obtain ⟨j, hj, rfl, O, hb⟩ := hrel
    by_cases hlt : j < cs.length
    · obtain ⟨g, rfl⟩ : ∃ g, a = some ⟨g, 0, none⟩ := by
        rcases O.out.2 with ⟨_, h'⟩ | ⟨g, cap, cur, h, _⟩
        · omega
        · simp only [Value.slice.injEq] at h
          exact ⟨g, h.1⟩
      have hc0 := O.out.cellAt j (by omega)
      have hjj : cs[j]? = some cs[j] := List.getElem?_eq_getElem hlt
      rw [List.getElem?_map, hjj] at hc0
      have hst : (cs.map Value.string).set j (.string cs[j]) = cs.map Value.string := by
        rw [← List.map_set, List.set_getElem_self]
      have hsz := HM.out _ (List.getElem_mem hlt)
      generalize cs[j] = s at *
      have HST := Hid.of hst
      have HSZ := Hid.of hsz
      have hc1 : wr.cell? ⟨g, j, none⟩ = some (.string s) := hc0
      have hg0 : g < wr.heap.size := (O.out.lt g rfl).2
      have i0 : (0 : Int) ≤ (j : Int) := Int.natCast_nonneg _
      have i1 : (j : Int) < (cs.length : Int) := by omega
      clear hc0 hjj hst hsz
      go_wp2_with fail
      refine (Clone_any s _ (by have := HSZ.out; omega)).mono ?_
      rintro e x1 ⟨rfl, b1⟩
      have OX := Hid.of (O.out.kept (grown_of_below b1) (by simp [Value.ownBlock]))
      have BX := Hid.of (hb.out.trans (b1.mono hb.out.size))
      have fz : x1.frozen? ⟨g, j, none⟩ = false := OX.out.frozenAt j
      have cz : x1.cell? ⟨g, j, none⟩ = some (.string s) := by rw [b1.cell hg0]; exact hc1
      clear b1 hc1
      go_wp2
      go_roundw
      case rel =>
        have hs := OX.out.stored j (.string s)
        rw [HST.out] at hs
        exact ⟨j + 1, by omega, by go_num, Hid.of hs.1, Hid.of (BX.out.grown hs.2 BX.out.size (fun k hk => own_ge OX.out hk))⟩
      case measure => simp [RowKit.intOf]; omega
    · go_wp2
      go_ret
      refine ⟨_, rfl, ?_, hb.out⟩
      rw [HCS.out]
      exact O.out

end Go.Proofs.YtbhcafginmkaaaaGreat
