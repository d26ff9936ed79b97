/-
  What may, queue and Arm answer.
-/
import Derived.Test.YtpgiknejgolllaaED
namespace Go.Proofs.Ytpgiknejgolllaa
open Go.RowKit Go.Lib

/-- What forbids a Write or a Read. -/
def mayErr (s : DSt) (i : Int) (n : Int) : Int := if s.on = false then 14 else if n ≠ 256 then 1 else if i < 0 ∨ (s.last.length : Int) ≤ i then 15 else 0

theorem may_any (w : World) (p : Nat) (d : DV) (s : DSt) (i n : Int) (h : DBlk w p d) (h1 : d.on = s.on) (h2 : d.blocks = s.last.length) :
    Calls Try.prog 28 #[dptr p, .int .i64 i, .int .i64 n] w fun e w' => e = .returned (.int .i64 (mayErr s i n)) ∧ w' = w := by
  have e5 := h.c5
  have H := Hid.of h
  rw [h2] at e5
  obtain ⟨m, hm⟩ : ∃ m, (s.last.length : Int) = m := ⟨_, rfl⟩
  rw [hm] at e5
  have HM := Hid.of hm
  have O := Hid.of h1
  clear h h1 h2 hm
  by_cases hon : s.on = false
  · have R : mayErr s i n = 14 := by unfold mayErr; rw [if_pos hon]
    rw [R]
    have ON : Hid (d.on = false) := Hid.of (O.out.trans hon)
    clear R hon
    go_enter Try.func28, Try.ntmps28
    go_wp2_with (go_at_call 18; refine (isOn_any _ p d H.out).mono ?_; rintro e w1 ⟨rfl, rfl⟩; rw [ON.out])
    go_ret
    exact ⟨rfl, rfl⟩
  · have ON : Hid (d.on = true) := Hid.of (O.out.trans (by simpa using hon))
    by_cases hn : n = 256
    · by_cases h0 : i < 0
      · have R : mayErr s i n = 15 := by unfold mayErr; rw [if_neg hon, if_neg (by simp [hn]), if_pos (.inl h0)]
        rw [R]
        clear R hon
        subst hn
        go_enter Try.func28, Try.ntmps28
        go_wp2_with (go_at_call 18; refine (isOn_any _ p d H.out).mono ?_; rintro e w1 ⟨rfl, rfl⟩; rw [ON.out])
        go_ret
        exact ⟨rfl, rfl⟩
      · by_cases h1 : m ≤ i
        · have R : mayErr s i n = 15 := by unfold mayErr; rw [if_neg hon, if_neg (by simp [hn]), if_pos (.inr (by rw [HM.out]; exact h1))]
          rw [R]
          clear R hon
          subst hn
          go_enter Try.func28, Try.ntmps28
          go_wp2_with (go_at_call 18; refine (isOn_any _ p d H.out).mono ?_; rintro e w1 ⟨rfl, rfl⟩; rw [ON.out])
          go_ret
          exact ⟨rfl, rfl⟩
        · have R : mayErr s i n = 0 := by unfold mayErr; rw [if_neg hon, if_neg (by simp [hn]), if_neg (by rw [HM.out]; omega)]
          rw [R]
          clear R hon
          subst hn
          go_enter Try.func28, Try.ntmps28
          go_wp2_with (go_at_call 18; refine (isOn_any _ p d H.out).mono ?_; rintro e w1 ⟨rfl, rfl⟩; rw [ON.out])
          go_ret
          exact ⟨rfl, rfl⟩
    · have R : mayErr s i n = 1 := by unfold mayErr; rw [if_neg hon, if_pos hn]
      rw [R]
      clear R hon
      go_enter Try.func28, Try.ntmps28
      go_wp2_with (go_at_call 18; refine (isOn_any _ p d H.out).mono ?_; rintro e w1 ⟨rfl, rfl⟩; rw [ON.out])
      go_ret
      exact ⟨rfl, rfl⟩

/-- The pointers to some writes, in order. -/
def WList (w : World) (A : Nat → Prop) (p : Nat) (ps : List Value) (ws : List (Nat × ByteArray)) : Prop :=
  ps.length = ws.length ∧ ∀ (k : Nat) (x : Nat × ByteArray), ws[k]? = some x → ∃ g u, ps[k]? = some (.pointer (some ⟨g, 0, none⟩)) ∧ A g ∧ g ≠ p ∧ w.heap[g]? = some (.cells #[u, .int .i64 x.1, .string x.2] 60 (0, 0))

/-- The pointers along a chain. -/
theorem Chain.ptrs {w : World} {A : Nat → Prop} {p : Nat} : ∀ {v : Value} {xs : List (Nat × ByteArray)}, Chain w A p v xs →
    ∃ vs : List Value, vs.length = xs.length + 1 ∧ vs[0]? = some v ∧ ∀ k x, xs[k]? = some x → ∃ g u, vs[k]? = some (.pointer (some ⟨g, 0, none⟩)) ∧ vs[k + 1]? = some u ∧ A g ∧ g ≠ p ∧ w.heap[g]? = some (.cells #[u, .int .i64 x.1, .string x.2] 60 (0, 0))
  | v, [], _ => ⟨[v], rfl, rfl, fun k x hk => by simp at hk⟩
  | v, y :: ys, h => by
    obtain ⟨g, u, hv, ha, hp, hg, hr⟩ := h
    obtain ⟨vs, hl, h0, hk⟩ := Chain.ptrs hr
    refine ⟨v :: vs, by simp [hl], rfl, fun k x hx => ?_⟩
    cases k with
    | zero =>
      simp at hx
      subst hx
      exact ⟨g, u, by simp [hv], by simpa using h0, ha, hp, hg⟩
    | succ k =>
      simp at hx
      obtain ⟨g', u', a, b, c⟩ := hk k x hx
      exact ⟨g', u', by simpa using a, by simpa using b, c⟩

theorem arm_off (w : World) (p : Nat) (d : DV) (n : Int) (v : Value) (h : DBlk w p d) (hn : n < 0) :
    Calls Try.prog 20 #[dptr p, .int .i64 n, v] w fun e w' => e = .returned (.tuple #[]) ∧ DBlk w' p d.disarm ∧ w.grownBy w' (some p) := by
  have H := Hid.of h
  clear h
  go_enter Try.func20, Try.ntmps20
  go_wp2_with (go_at_call 33; refine (disarm_any _ p d H.out).mono ?_; rintro e w1 ⟨rfl, d1, g1⟩; have D1 := Hid.of d1; have G1 := Hid.of g1; clear d1 g1)
  go_end0
  exact ⟨rfl, D1.out, G1.out⟩

/-- A copy of what came in. -/
theorem CloneInts_any (w : World) (v : Value) (ks : List Int) (hv : CellRow w v ks.length (ks.map (Value.int .i64))) (hk : ks.length ≤ 100000) :
    Calls Try.prog 35 #[v] w fun e w' => ∃ u, e = .returned u ∧ (∃ a n c, u = .slice a n c) ∧ CellRow w' u ks.length (ks.map (Value.int .i64)) ∧ (ks ≠ [] → ∀ g, u.ownBlock = some g → w.heap.size ≤ g ∧ g < w'.heap.size) ∧ Below w.heap.size w w' := by
  obtain ⟨a, c, rfl, hc⟩ := hv
  have own : ∀ {w' : World} {u : Value}, w'.ownsRow w.heap.size 3 1 u ks.length (ks.map (Value.int .i64)) → (∃ a n c, u = .slice a n c) ∧ CellRow w' u ks.length (ks.map (Value.int .i64)) ∧ (ks ≠ [] → ∀ g, u.ownBlock = some g → w.heap.size ≤ g ∧ g < w'.heap.size) := by
    intro w' u o
    have hs : ∃ a c, u = .slice a ks.length c := by
      rcases o.2 with ⟨h, h'⟩ | ⟨g, cap, cur, h, _⟩
      · rw [h, h']; exact ⟨_, _, rfl⟩
      · exact ⟨_, _, h⟩
    obtain ⟨a, c, rfl⟩ := hs
    refine ⟨⟨_, _, _, rfl⟩, ⟨a, c, rfl, ?_⟩, fun _ g hg => ⟨own_ge o hg, (o.lt g hg).2⟩⟩
    rcases o.2 with ⟨h0, h0'⟩ | ⟨g, cap, cur, h0, _, hrow, _⟩
    · simp only [Value.slice.injEq] at h0
      exact .inl (List.eq_nil_of_length_eq_zero (by simpa using h0'))
    · simp only [Value.slice.injEq] at h0
      obtain ⟨rfl, _, rfl⟩ := h0
      refine .inr ⟨g, 0, rfl, (Array.getElem?_eq_some_iff.1 hrow).1, fun j u hj => ?_⟩
      rw [Nat.zero_add, o.cellAt j (by simpa using (List.getElem?_eq_some_iff.1 hj).1)]
      exact hj
  cases a with
  | none =>
    refine (Try.slices_Clone_int_nil ks.length c w).mono ?_
    rintro e w' ⟨rfl, rfl⟩
    have hn : ks = [] := by
      rcases hc with h | ⟨b, o, h, _⟩
      · simpa using h
      · cases h
    subst hn
    exact ⟨_, rfl, ⟨_, _, _, rfl⟩, ⟨none, 0, rfl, .inl rfl⟩, fun h => absurd rfl h, Below.refl _ _⟩
  | some ad =>
    rcases hc with h | ⟨b, o, h, hl, hcs⟩
    · have hn : ks = [] := by simpa using h
      subst hn
      refine (Try.slices_Clone_int_zero ad c w).mono ?_
      rintro e w' ⟨u, rfl, o, hne, b⟩
      obtain ⟨x1, x2, x3⟩ := own o
      exact ⟨u, rfl, x1, x2, x3, b⟩
    · cases h
      refine (Try.slices_Clone_int b o ks.length c ks w (Nat.le_refl _) (by omega) (fun j hj => ?_)).mono ?_
      · rw [hcs j (.int .i64 ks[j]) (by simp [hj])]
        simp [List.getD, hj]
      · rintro e w' ⟨u, rfl, o, hne, b⟩
        rw [List.take_length] at o
        obtain ⟨x1, x2, x3⟩ := own o
        exact ⟨u, rfl, x1, x2, x3, b⟩

theorem CellRow.off {w w' : World} {p : Nat} {v : Value} {n : Nat} {xs : List Value} (h : CellRow w v n xs) (g : w.grownBy w' (some p)) (ho : xs ≠ [] → Off (· = p) v) : CellRow w' v n xs := by
  obtain ⟨a, c, rfl, h⟩ := h
  refine ⟨a, c, rfl, ?_⟩
  rcases h with h | ⟨b, o, rfl, hl, hc⟩
  · exact .inl h
  · by_cases hx : xs = []
    · exact .inl hx
    · refine .inr ⟨b, o, rfl, Nat.lt_of_lt_of_le hl g.size, fun j u hj => ?_⟩
      rw [World.cell?_of_block (g.block b hl (by simpa using ho hx b rfl))]
      exact hc j u hj

set_option maxHeartbeats 400000 in
theorem arm_on (w : World) (p : Nat) (d : DV) (n : Int) (v : Value) (ks : List Int) (h : DBlk w p d) (hn : 0 ≤ n) (hv : CellRow w v ks.length (ks.map (Value.int .i64))) (hk : ks.length ≤ 100000) (ho : ks ≠ [] → Off (· = p) v) :
    Calls Try.prog 20 #[dptr p, .int .i64 n, v] w fun e w' => e = .returned (.tuple #[]) ∧ ∃ u, DBlk w' p { d with armed := true, left := n, keep := u } ∧ CellRow w' u ks.length (ks.map (Value.int .i64)) ∧ (ks ≠ [] → ∀ g, u.ownBlock = some g → w.heap.size ≤ g ∧ g < w'.heap.size) ∧ w.grownBy w' (some p) := by
  have H := Hid.of h
  have HK := Hid.of hk
  have HV := Hid.of hv
  have HO : Hid (ks.map (Value.int .i64) ≠ [] → Off (· = p) v) := Hid.of (fun hx => ho (by simpa using hx))
  obtain ⟨va, vc, rfl, hvc⟩ := hv
  obtain ⟨L, hL⟩ : ∃ L, ks.length = L := ⟨_, rfl⟩
  rw [hL]
  have HL := Hid.of hL
  clear h hk ho hvc hL
  go_enter Try.func20, Try.ntmps20
  go_wp2_with (first
    | (go_at_call 33; refine (disarm_any _ p d H.out).mono ?_; rintro e w1 ⟨rfl, d1, g1⟩; have D1 := Hid.of d1; have G1 := Hid.of g1; clear d1 g1)
    | (go_at_call 35; rw [← HL.out]; refine (CloneInts_any w1 _ ks (HV.out.off G1.out HO.out) HK.out).mono ?_; rintro e w2 ⟨u, rfl, u1, u2, u3, b2⟩
       obtain ⟨ua, un, uc, rfl⟩ := u1
       have D2 := Hid.of (D1.out.below b2)
       have G2 : Hid (w.grownBy w2 (some p)) := Hid.of (grownBy_trans G1.out ⟨b2.os, b2.tape, b2.output, b2.size, fun k hk _ => b2.block k hk⟩)
       have U2 := Hid.of u2
       have U3 := Hid.of u3
       clear b2 u2 u3
       have e2 := D2.out.c2
       have e3 := D2.out.c3
       have e4 := D2.out.c4
       have f2 := D2.out.free 2
       have f3 := D2.out.free 3
       have f4 := D2.out.free 4))
  go_end0
  rw [HL.out] at U2
  obtain ⟨qa, qc, hq, hr⟩ := U2.out
  simp only [Value.slice.injEq] at hq
  obtain ⟨rfl, rfl, rfl⟩ := hq
  have hp : p < w.heap.size := H.out.lt
  have S1 := G1.out.size
  have K : w2.grownBy (((w2.setCell ⟨p, 2, none⟩ (.bool true)).setCell ⟨p, 3, none⟩ (.int .i64 n)).setCell ⟨p, 4, none⟩ (.slice ua un uc)) (some p) := grownBy_trans (grownBy_trans (grownBy_setCell _ _ _ _) (grownBy_setCell _ _ _ _)) (grownBy_setCell _ _ _ _)
  refine ⟨rfl, .slice ua un uc, ((D2.out.armed_ true).left_ n).keep_ _, U2.out.off K (fun hx g hg e => ?_), fun hx g hg => ?_, grownBy_trans G2.out K⟩
  · have := (U3.out (by simpa using hx) g hg).1
    omega
  · have := U3.out hx g hg
    have := K.size
    omega

theorem make_ptrs (w : World) (n : Nat) (hn : n ≤ 1000) : ∃ w', (Instr.makeSlice 63 (.int .i64 n) (.int .i64 n)).run Try.prog w = .ok (.slice (some ⟨w.heap.size, 0, none⟩) n n) w' ∧ w'.ownsRow w.heap.size 29 1 (.slice (some ⟨w.heap.size, 0, none⟩) n n) n (List.replicate n (.pointer none)) ∧ Below w.heap.size w w' := by
  obtain ⟨i0, hi, hz0, hz1, hz2⟩ := info_parts (show (Try.prog.info? 29).map (fun i => (i.zero, i.size, i.bytes)) = some (some (.pointer none), 1, 8) by kernel_rfl)
  obtain ⟨w1, hmk, o1, g1⟩ := run_makeSlice_full (P := Try.prog) w w.heap.size 63 29 i0 (.pointer none) 1 Try.underlying63 hi hz0 hz1 .i64 .i64 n (by omega) (by rw [hz2]; omega) (by unfold maxLen; omega) (Nat.le_refl _)
  refine ⟨w1, hmk, ?_, below_of_none g1⟩
  have e : (madeCells (Value.pointer none).cells (n * 1)).toList = List.replicate n (.pointer none) := by
    rw [show (Value.pointer none).cells = #[Value.pointer none] from rfl, toList_madeCells_one]
    simp
  rw [e] at o1
  exact o1

/-- The row of a queue, j of its places filled from behind. -/
def qrow (vs : List Value) (n j : Nat) : List Value := (List.range n).map (fun k => if n - 1 - k < j then vs.getD (n - 1 - k) (.pointer none) else .pointer none)

theorem qrow_zero (vs : List Value) (n : Nat) : qrow vs n 0 = List.replicate n (.pointer none) := by
  refine List.ext_getElem (by simp [qrow]) fun k h1 h2 => ?_
  simp [qrow]

theorem qrow_set (vs : List Value) (n j : Nat) (hj : j < n) (v : Value) (hv : vs[j]? = some v) : (qrow vs n j).set (n - 1 - j) v = qrow vs n (j + 1) := by
  refine List.ext_getElem? fun k => ?_
  rw [List.getElem?_set]
  by_cases hk : k < n
  · have e1 : (qrow vs n j)[k]? = some (if n - 1 - k < j then vs.getD (n - 1 - k) (.pointer none) else .pointer none) := by simp [qrow, hk]
    have e2 : (qrow vs n (j + 1))[k]? = some (if n - 1 - k < j + 1 then vs.getD (n - 1 - k) (.pointer none) else .pointer none) := by simp [qrow, hk]
    rw [e1, e2]
    by_cases e : n - 1 - j = k
    · rw [if_pos e, if_pos (by simp [qrow]; omega), if_pos (by omega), show n - 1 - k = j by omega]
      simp [List.getD, hv]
    · rw [if_neg e]
      congr 1
      by_cases h : n - 1 - k < j
      · rw [if_pos h, if_pos (by omega)]
      · rw [if_neg h, if_neg (by omega)]
  · have e1 : (qrow vs n j)[k]? = none := by simp [qrow]; omega
    have e2 : (qrow vs n (j + 1))[k]? = none := by simp [qrow]; omega
    rw [e1, e2, if_neg (by omega)]

theorem qrow_at (vs : List Value) (n k : Nat) (hk : k < n) : (qrow vs n n)[k]? = some (vs.getD (n - 1 - k) (.pointer none)) := by
  simp [qrow, hk]
  intro h
  omega

/-- A queue under way. -/
structure Queue (w0 w : World) (N : Nat) (vs : List Value) (n j : Nat) : Prop where
  row : w.ownsRow w0.heap.size 29 1 (.slice (some ⟨N, 0, none⟩) n n) n (qrow vs n j)
  below : Below w0.heap.size w0 w

theorem Queue.stored {w0 w : World} {N : Nat} {vs : List Value} {n j : Nat} (h : Queue w0 w N vs n j) (hj : j < n) (v : Value) (hv : vs[j]? = some v) : Queue w0 (w.setCell ⟨N, n - 1 - j, none⟩ v) N vs n (j + 1) := by
  have hs := h.row.stored (n - 1 - j) v
  rw [qrow_set vs n j hj v hv] at hs
  exact ⟨hs.1, h.below.grown hs.2 h.below.size (fun k hk => own_ge h.row hk)⟩

set_option maxHeartbeats 400000 in
theorem queue_any (w : World) (p : Nat) (d : DV) (A : Nat → Prop) (ws : List (Nat × ByteArray)) (h : DBlk w p d) (hw : d.waiting = ws.length) (hc : Chain w A p d.latest ws.reverse) (hn : ws.length ≤ 1000) :
    Calls Try.prog 34 #[dptr p] w fun e w' => ∃ N ps, e = .returned (.slice (some ⟨N, 0, none⟩) ws.length ws.length) ∧ w.heap.size ≤ N ∧ N < w'.heap.size ∧ Cells w' N 0 ps ∧ WList w A p ps ws ∧ Below w.heap.size w w' := by
  obtain ⟨n, hl⟩ : ∃ n, ws.length = n := ⟨_, rfl⟩
  obtain ⟨vs, v1, v2, v3⟩ := hc.ptrs
  rw [List.length_reverse, hl] at v1
  rw [hl] at hw hn ⊢
  obtain ⟨w1, hmk, o1, b1⟩ := make_ptrs w n hn
  obtain ⟨N, hN⟩ : ∃ N, w.heap.size = N := ⟨_, rfl⟩
  have HN := Hid.of hN
  have Q1 : Hid (Queue w w1 N vs n 0) := Hid.of ⟨by rw [qrow_zero, ← hN]; exact o1, b1⟩
  have HV : Hid (∀ k, k < n → ∃ g u, vs[k]? = some (.pointer (some ⟨g, 0, none⟩)) ∧ vs[k + 1]? = some u ∧ A g ∧ g ≠ p ∧ ∃ x, w.heap[g]? = some (.cells #[u, .int .i64 x.1, .string x.2] 60 (0, 0)) ∧ ws[n - 1 - k]? = some x) := Hid.of (fun k hk => by
    have hx : (ws.reverse)[k]? = some ((ws.reverse)[k]'(by rw [List.length_reverse, hl]; exact hk)) := List.getElem?_eq_getElem _
    obtain ⟨g, u, a1, a2, a3, a4, a5⟩ := v3 k _ hx
    refine ⟨g, u, a1, a2, a3, a4, _, a5, ?_⟩
    rw [List.getElem_reverse, List.getElem?_eq_getElem (by omega)]
    congr 2
    omega)
  have e135 := h.c135
  rw [hw] at e135
  have e134 := b1.cell h.lt (p := ⟨p, 134, none⟩)
  rw [h.c134] at e134
  obtain ⟨v0, hv0⟩ : ∃ v0, d.latest = v0 := ⟨_, rfl⟩
  rw [hv0] at e134 v2
  have V2 := Hid.of v2
  have HL := Hid.of hl
  rw [hN] at hmk
  clear h hw hc hl v1 v2 v3 o1 b1 hN hv0
  have n9 : (n : Int) ≤ 1000 := by omega
  go_enter Try.func34, Try.ntmps34
  go_wp2
  go_loopw [4, 5, 17] (fun v4 _ iv wr => ∃ j : Nat, j ≤ n ∧ iv = .int .i64 j ∧ Hid (vs[j]? = some v4) ∧ Hid (Queue w wr N vs n j)) (fun _ _ iv _ => n - (RowKit.intOf iv).toNat)
  case atStart => exact ⟨0, Nat.zero_le _, rfl, V2, Q1⟩
  case round =>
    obtain ⟨j, hj, rfl, hvj, Q⟩ := hrel
    by_cases hlt : j < n
    · obtain ⟨g, u, a1, a2, a3, a4, x, a5, a6⟩ := HV.out j hlt
      have e1 := hvj.out
      rw [a1] at e1
      simp only [Option.some.injEq] at e1
      subst e1
      have A2 := Hid.of a2
      have gl : g < w.heap.size := (Array.getElem?_eq_some_iff.1 a5).1
      have c0 : wr.cell? ⟨g, 0, none⟩ = some u := by
        rw [Q.out.below.cell gl, cell_of_row _ _ _ _ _ _ a5]
        rfl
      obtain ⟨m, hm⟩ : ∃ m, n - 1 - j = m := ⟨_, rfl⟩
      have M := Hid.of hm
      have m1 : (n : Int) - 1 - (j : Int) = (m : Int) := by omega
      have m2 : (0 : Int) ≤ (m : Int) := by omega
      have m3 : (m : Int) < (n : Int) := by omega
      have m4 : m < n := by omega
      have j0 : (0 : Int) ≤ (j : Int) := by omega
      have j1 : (j : Int) < (n : Int) := by omega
      have cm : ∃ y, wr.cell? ⟨N, m, none⟩ = some y := by
        rw [Q.out.row.cellAt m (by omega)]
        exact ⟨_, List.getElem?_eq_getElem (by simp [qrow]; exact m4)⟩
      obtain ⟨y, cm⟩ := cm
      have fm : wr.frozen? ⟨N, m, none⟩ = false := by
        rcases Q.out.row.2 with ⟨h, _⟩ | ⟨g', cap', cur, h, hB, hrow, _⟩
        · cases h
        · simp only [Value.slice.injEq, Option.some.injEq, Addr.mk.injEq, and_true, true_and] at h
          obtain ⟨rfl, _⟩ := h
          exact row_frozen hrow
      have hap : ∀ (z : World) (b : Value), (z.setCell ⟨N, m, none⟩ b).cell? ⟨g, 0, none⟩ = z.cell? ⟨g, 0, none⟩ := fun z b => World.cell?_setCell_other _ _ _ _ (by intro e; injection e with e1; have := HN.out; omega)
      have QS : Hid (Queue w (wr.setCell ⟨N, m, none⟩ (.pointer (some ⟨g, 0, none⟩))) N vs n (j + 1)) := Hid.of (by rw [← hm]; exact Q.out.stored hlt _ a1)
      clear hm a1 a2 a3 a4 a5 a6 hj gl
      go_wp2
      go_roundw
      case rel => exact ⟨j + 1, by omega, by go_num, A2, QS⟩
      case measure => simp [RowKit.intOf]; omega
    · have hjn : j = n := by omega
      subst hjn
      go_wp2
      go_ret
      refine ⟨N, qrow vs j j, rfl, Nat.le_of_eq HN.out, ?_, ?_, ?_, Q.out.below⟩
      · have := (Q.out.row.lt N rfl).2
        exact this
      · intro k u hk
        have hk2 : k < j := by simpa [qrow] using (List.getElem?_eq_some_iff.1 hk).1
        rw [Nat.zero_add, Q.out.row.cellAt k (by omega)]
        exact hk
      · refine ⟨by rw [HL.out]; simp [qrow], fun k x hk => ?_⟩
        have hk2 : k < j := by rw [← HL.out]; exact (List.getElem?_eq_some_iff.1 hk).1
        obtain ⟨g, u, a1, a2, a3, a4, y, a5, a6⟩ := HV.out (j - 1 - k) (by omega)
        rw [show j - 1 - (j - 1 - k) = k by omega, hk] at a6
        simp only [Option.some.injEq] at a6
        subst a6
        refine ⟨g, u, ?_, a3, a4, a5⟩
        rw [qrow_at _ _ _ hk2]
        simp [List.getD, a1]

end Go.Proofs.Ytpgiknejgolllaa
