/-
  What statement NameOrders answers: true, for every input. (name/no.py writes this text.)
-/
import Derived.Test.YtopilmancehbiaaNA
namespace Go.Proofs.Ytopilmancehbiaa
open Go.RowKit Go.Lib

theorem nLess_irrefl (a : NRec) : nLess a a = false := by
  unfold nLess
  rw [less_irrefl]
  simp

theorem nLess_iff (a b : NRec) : nLess a b = true ↔ nLt a.n b.n ∨ a.n = b.n ∧ a.t < b.t := by
  unfold nLess nLt
  rw [Bool.or_eq_true, Bool.and_eq_true, decide_eq_true_eq, beq_iff_eq]
  constructor
  · rintro (h | ⟨h, k⟩)
    · exact .inl h
    · exact .inr ⟨toList_eq h, k⟩
  · rintro (h | ⟨h, k⟩)
    · exact .inl h
    · exact .inr ⟨by rw [h], k⟩

theorem nLess_asymm {a b : NRec} (h : nLess a b = true) : nLess b a = false := by
  cases k : nLess b a with
  | false => rfl
  | true =>
    rw [nLess_iff] at h k
    rcases h with h | ⟨h, h'⟩
    · rcases k with k | ⟨k, _⟩
      · exact absurd (nLt_trans h k) (nLt_irrefl _)
      · rw [k] at h; exact absurd h (nLt_irrefl _)
    · rcases k with k | ⟨_, k'⟩
      · rw [h] at k; exact absurd k (nLt_irrefl _)
      · omega

theorem nLess_trans {a b c : NRec} (h : nLess a b = true) (k : nLess b c = true) : nLess a c = true := by
  rw [nLess_iff] at h k ⊢
  rcases h with h | ⟨h, h'⟩
  · rcases k with k | ⟨k, _⟩
    · exact .inl (nLt_trans h k)
    · rw [← k]; exact .inl h
  · rcases k with k | ⟨k, k'⟩
    · rw [h]; exact .inl k
    · exact .inr ⟨h.trans k, by omega⟩

theorem nLess_total {a b : NRec} (h : ¬ (a.n = b.n ∧ a.t = b.t)) : nLess a b = true ∨ nLess b a = true := by
  rw [nLess_iff, nLess_iff]
  by_cases e : a.n = b.n
  · have : a.t < b.t ∨ b.t < a.t := by
      have : a.t ≠ b.t := fun k => h ⟨e, k⟩
      omega
    rcases this with k | k
    · exact .inl (.inr ⟨e, k⟩)
    · exact .inr (.inr ⟨e.symm, k⟩)
  · rcases nLt_total e with k | k
    · exact .inl (.inl k)
    · exact .inr (.inl k)

/-- A variable that holds a record. -/
def NBlk (w : World) (b : Nat) (a : NRec) : Prop := w.heap[b]? = some (.cells #[.string a.n, .int .i64 a.t, .int .i64 a.c, .int .i64 a.hi, .int .u64 a.lo, .int .i64 a.mn, .int .i64 a.mx] 27 (0, 0))

theorem NBlk.kept {w w' : World} {b : Nat} {a : NRec} (h : NBlk w b a) (hb : Below w.heap.size w w') : NBlk w' b a := by
  unfold NBlk at h ⊢
  rw [hb.block b (Array.getElem?_eq_some_iff.1 h).1]
  exact h

theorem NBlk.alloc {w : World} {b : Nat} {a : NRec} (h : NBlk w b a) (o : Obj) : NBlk (w.alloc o) b a := row_alloc h

theorem NBlk.made (w : World) (a : NRec) (b : Nat) (hb : b = w.heap.size) : NBlk (w.alloc (.cells #[.string a.n, .int .i64 a.t, .int .i64 a.c, .int .i64 a.hi, .int .u64 a.lo, .int .i64 a.mn, .int .i64 a.mx] 27)) b a := by
  subst hb
  exact Go.heap_alloc_new _ _

def NAt (w : World) (b : Nat) (a : NRec) : Prop := w.cell? ⟨b, 0, none⟩ = some (.string a.n) ∧ w.cell? ⟨b, 1, none⟩ = some (.int .i64 a.t) ∧ w.cell? ⟨b, 2, none⟩ = some (.int .i64 a.c) ∧ w.cell? ⟨b, 3, none⟩ = some (.int .i64 a.hi) ∧ w.cell? ⟨b, 4, none⟩ = some (.int .u64 a.lo) ∧ w.cell? ⟨b, 5, none⟩ = some (.int .i64 a.mn) ∧ w.cell? ⟨b, 6, none⟩ = some (.int .i64 a.mx)

theorem NBlk.at {w : World} {b : Nat} {a : NRec} (h : NBlk w b a) : NAt w b a := by
  refine ⟨?_, ?_, ?_, ?_, ?_, ?_, ?_⟩ <;> (rw [cell_of_row w b _ _ _ _ h]; rfl)

set_option maxRecDepth 20000 in
set_option maxHeartbeats 6400000 in
theorem nameOrders_main (a b c : NRec) (w : World) :
    Calls Try.prog 5 #[nrv a, nrv b, nrv c] w fun e w' => e = .returned (.bool true) ∧ Below w.heap.size w w' := by
  obtain ⟨w3, hw3⟩ : ∃ w3, ((w.alloc (.cells #[.string a.n, .int .i64 a.t, .int .i64 a.c, .int .i64 a.hi, .int .u64 a.lo, .int .i64 a.mn, .int .i64 a.mx] 27)).alloc (.cells #[.string b.n, .int .i64 b.t, .int .i64 b.c, .int .i64 b.hi, .int .u64 b.lo, .int .i64 b.mn, .int .i64 b.mx] 27)).alloc (.cells #[.string c.n, .int .i64 c.t, .int .i64 c.c, .int .i64 c.hi, .int .u64 c.lo, .int .i64 c.mn, .int .i64 c.mx] 27) = w3 := ⟨_, rfl⟩
  have A3 : Hid (NBlk w3 w.heap.size a) := Hid.of (by rw [← hw3]; exact ((NBlk.made w a _ rfl).alloc _).alloc _)
  have B3 : Hid (NBlk w3 (w.heap.size + 1) b) := Hid.of (by rw [← hw3]; exact (NBlk.made _ b _ (by simp)).alloc _)
  have C3 : Hid (NBlk w3 (w.heap.size + 2) c) := Hid.of (by rw [← hw3]; exact NBlk.made _ c _ (by simp))
  have K3 : Hid (Below w.heap.size w w3) := Hid.of (by rw [← hw3]; exact (((Below.refl _ _).alloc (Nat.le_refl _) _).alloc (by simp) _).alloc (by simp; omega) _)
  have HW3 := Hid.of hw3
  clear hw3
  by_cases hz : 300 < a.n.size ∨ 300 < b.n.size ∨ 300 < c.n.size
  · have hz' : 300 < a.n.size ∨ (¬ 300 < a.n.size ∧ 300 < b.n.size) ∨ (¬ 300 < a.n.size ∧ ¬ 300 < b.n.size ∧ 300 < c.n.size) := by omega
    clear hz
    rcases hz' with h1 | ⟨h1, h2⟩ | ⟨h1, h2, h3⟩
    all_goals
      go_enter Try.func5, Try.ntmps5
      go_upto_region 1 with (fail)
      rw [HW3.out]
      obtain ⟨a0, _⟩ := A3.out.at
      obtain ⟨b0, _⟩ := B3.out.at
      obtain ⟨c0, _⟩ := C3.out.at
      go_wp2_with fail
      refine (nameAlive_any _).mono ?_
      rintro x w4 ⟨rfl, b4⟩
      go_wp2
      go_ret
      exact ⟨rfl, K3.out.trans (b4.mono K3.out.size)⟩
  · have h1 : ¬ 300 < a.n.size := fun h => hz (.inl h)
    have h2 : ¬ 300 < b.n.size := fun h => hz (.inr (.inl h))
    have h3 : ¬ 300 < c.n.size := fun h => hz (.inr (.inr h))
    clear hz
    have RR := Hid.of (nLess_irrefl a)
    by_cases hs : a.n = b.n ∧ a.t = b.t
    · obtain ⟨hs1, hs2⟩ := hs
      have XX : Hid (nLess a b = false) := Hid.of (by unfold nLess; rw [hs1, hs2, less_irrefl]; simp)
      have he : (a.n.toList == b.n.toList) = true := by rw [hs1]; exact beq_self_eq_true _
      have ht : (a.t == b.t) = true := by rw [hs2]; exact beq_self_eq_true _
      clear hs1 hs2
      go_enter Try.func5, Try.ntmps5
      go_upto_region 1 with (fail)
      rw [HW3.out]
      obtain ⟨a0, a1, a2, a3, a4, a5, a6⟩ := A3.out.at
      obtain ⟨b0, b1, b2, b3, b4, b5, b6⟩ := B3.out.at
      obtain ⟨c0, c1, c2, c3, c4, c5, c6⟩ := C3.out.at
      go_wp2_with fail
      refine (nameAlive_any _).mono ?_
      rintro x w4 ⟨rfl, k4⟩
      have A4 := Hid.of (A3.out.kept k4)
      have B4 := Hid.of (B3.out.kept k4)
      have C4 := Hid.of (C3.out.kept k4)
      have K4 := Hid.of (K3.out.trans (k4.mono K3.out.size))
      clear a0 a1 a2 a3 a4 a5 a6 b0 b1 b2 b3 b4 b5 b6 c0 c1 c2 c3 c4 c5 c6 k4 A3 B3 C3 K3
      obtain ⟨a0, a1, a2, a3, a4, a5, a6⟩ := A4.out.at
      obtain ⟨b0, b1, b2, b3, b4, b5, b6⟩ := B4.out.at
      obtain ⟨c0, c1, c2, c3, c4, c5, c6⟩ := C4.out.at
      go_wp2_with fail
      refine (Less_named (a := a) (b := a) RR.out _).mono ?_
      rintro x w5 ⟨rfl, k5⟩
      have A5 := Hid.of (A4.out.kept k5)
      have B5 := Hid.of (B4.out.kept k5)
      have C5 := Hid.of (C4.out.kept k5)
      have K5 := Hid.of (K4.out.trans (k5.mono K4.out.size))
      clear a0 a1 a2 a3 a4 a5 a6 b0 b1 b2 b3 b4 b5 b6 c0 c1 c2 c3 c4 c5 c6 k5 A4 B4 C4 K4
      obtain ⟨a0, a1, a2, a3, a4, a5, a6⟩ := A5.out.at
      obtain ⟨b0, b1, b2, b3, b4, b5, b6⟩ := B5.out.at
      obtain ⟨c0, c1, c2, c3, c4, c5, c6⟩ := C5.out.at
      go_wp2_with fail
      refine (Less_named (a := a) (b := b) XX.out _).mono ?_
      rintro x w6 ⟨rfl, k6⟩
      have A6 := Hid.of (A5.out.kept k6)
      have B6 := Hid.of (B5.out.kept k6)
      have C6 := Hid.of (C5.out.kept k6)
      have K6 := Hid.of (K5.out.trans (k6.mono K5.out.size))
      clear a0 a1 a2 a3 a4 a5 a6 b0 b1 b2 b3 b4 b5 b6 c0 c1 c2 c3 c4 c5 c6 k6 A5 B5 C5 K5
      obtain ⟨a0, a1, a2, a3, a4, a5, a6⟩ := A6.out.at
      obtain ⟨b0, b1, b2, b3, b4, b5, b6⟩ := B6.out.at
      obtain ⟨c0, c1, c2, c3, c4, c5, c6⟩ := C6.out.at
      go_wp2_with fail
      refine (Less_named (a := a) (b := b) XX.out _).mono ?_
      rintro x w7 ⟨rfl, k7⟩
      have A7 := Hid.of (A6.out.kept k7)
      have B7 := Hid.of (B6.out.kept k7)
      have C7 := Hid.of (C6.out.kept k7)
      have K7 := Hid.of (K6.out.trans (k7.mono K6.out.size))
      clear a0 a1 a2 a3 a4 a5 a6 b0 b1 b2 b3 b4 b5 b6 c0 c1 c2 c3 c4 c5 c6 k7 A6 B6 C6 K6
      obtain ⟨a0, a1, a2, a3, a4, a5, a6⟩ := A7.out.at
      obtain ⟨b0, b1, b2, b3, b4, b5, b6⟩ := B7.out.at
      obtain ⟨c0, c1, c2, c3, c4, c5, c6⟩ := C7.out.at
      go_wp2
      go_ret
      exact ⟨rfl, K7.out⟩
    · have htot := nLess_total hs
      have hs' : (a.n.toList == b.n.toList) = false ∨ (a.n.toList == b.n.toList) = true ∧ (a.t == b.t) = false := by
        cases k : a.n.toList == b.n.toList with
        | false => exact .inl rfl
        | true =>
          refine .inr ⟨rfl, ?_⟩
          rw [beq_eq_false_iff_ne]
          intro e
          exact hs ⟨toList_eq (beq_iff_eq.1 k), e⟩
      clear hs
      by_cases hx : nLess a b = true
      · have XX := Hid.of hx
        have YY := Hid.of (nLess_asymm hx)
        by_cases hy : nLess b c = true
        · have ZZ := Hid.of hy
          have UU := Hid.of (nLess_trans hx hy)
          clear htot hx hy
          rcases hs' with he | ⟨he, ht⟩
          all_goals
            go_enter Try.func5, Try.ntmps5
            go_upto_region 1 with (fail)
            rw [HW3.out]
            obtain ⟨a0, a1, a2, a3, a4, a5, a6⟩ := A3.out.at
            obtain ⟨b0, b1, b2, b3, b4, b5, b6⟩ := B3.out.at
            obtain ⟨c0, c1, c2, c3, c4, c5, c6⟩ := C3.out.at
            go_wp2_with fail
            refine (nameAlive_any _).mono ?_
            rintro x w4 ⟨rfl, k4⟩
            have A4 := Hid.of (A3.out.kept k4)
            have B4 := Hid.of (B3.out.kept k4)
            have C4 := Hid.of (C3.out.kept k4)
            have K4 := Hid.of (K3.out.trans (k4.mono K3.out.size))
            clear a0 a1 a2 a3 a4 a5 a6 b0 b1 b2 b3 b4 b5 b6 c0 c1 c2 c3 c4 c5 c6 k4 A3 B3 C3 K3
            obtain ⟨a0, a1, a2, a3, a4, a5, a6⟩ := A4.out.at
            obtain ⟨b0, b1, b2, b3, b4, b5, b6⟩ := B4.out.at
            obtain ⟨c0, c1, c2, c3, c4, c5, c6⟩ := C4.out.at
            go_wp2_with fail
            refine (Less_named (a := a) (b := a) RR.out _).mono ?_
            rintro x w5 ⟨rfl, k5⟩
            have A5 := Hid.of (A4.out.kept k5)
            have B5 := Hid.of (B4.out.kept k5)
            have C5 := Hid.of (C4.out.kept k5)
            have K5 := Hid.of (K4.out.trans (k5.mono K4.out.size))
            clear a0 a1 a2 a3 a4 a5 a6 b0 b1 b2 b3 b4 b5 b6 c0 c1 c2 c3 c4 c5 c6 k5 A4 B4 C4 K4
            obtain ⟨a0, a1, a2, a3, a4, a5, a6⟩ := A5.out.at
            obtain ⟨b0, b1, b2, b3, b4, b5, b6⟩ := B5.out.at
            obtain ⟨c0, c1, c2, c3, c4, c5, c6⟩ := C5.out.at
            go_wp2_with fail
            refine (Less_named (a := a) (b := b) XX.out _).mono ?_
            rintro x w6 ⟨rfl, k6⟩
            have A6 := Hid.of (A5.out.kept k6)
            have B6 := Hid.of (B5.out.kept k6)
            have C6 := Hid.of (C5.out.kept k6)
            have K6 := Hid.of (K5.out.trans (k6.mono K5.out.size))
            clear a0 a1 a2 a3 a4 a5 a6 b0 b1 b2 b3 b4 b5 b6 c0 c1 c2 c3 c4 c5 c6 k6 A5 B5 C5 K5
            obtain ⟨a0, a1, a2, a3, a4, a5, a6⟩ := A6.out.at
            obtain ⟨b0, b1, b2, b3, b4, b5, b6⟩ := B6.out.at
            obtain ⟨c0, c1, c2, c3, c4, c5, c6⟩ := C6.out.at
            go_wp2_with fail
            refine (Less_named (a := b) (b := a) YY.out _).mono ?_
            rintro x w7 ⟨rfl, k7⟩
            have A7 := Hid.of (A6.out.kept k7)
            have B7 := Hid.of (B6.out.kept k7)
            have C7 := Hid.of (C6.out.kept k7)
            have K7 := Hid.of (K6.out.trans (k7.mono K6.out.size))
            clear a0 a1 a2 a3 a4 a5 a6 b0 b1 b2 b3 b4 b5 b6 c0 c1 c2 c3 c4 c5 c6 k7 A6 B6 C6 K6
            obtain ⟨a0, a1, a2, a3, a4, a5, a6⟩ := A7.out.at
            obtain ⟨b0, b1, b2, b3, b4, b5, b6⟩ := B7.out.at
            obtain ⟨c0, c1, c2, c3, c4, c5, c6⟩ := C7.out.at
            go_wp2_with fail
            refine (Less_named (a := a) (b := b) XX.out _).mono ?_
            rintro x w8 ⟨rfl, k8⟩
            have A8 := Hid.of (A7.out.kept k8)
            have B8 := Hid.of (B7.out.kept k8)
            have C8 := Hid.of (C7.out.kept k8)
            have K8 := Hid.of (K7.out.trans (k8.mono K7.out.size))
            clear a0 a1 a2 a3 a4 a5 a6 b0 b1 b2 b3 b4 b5 b6 c0 c1 c2 c3 c4 c5 c6 k8 A7 B7 C7 K7
            obtain ⟨a0, a1, a2, a3, a4, a5, a6⟩ := A8.out.at
            obtain ⟨b0, b1, b2, b3, b4, b5, b6⟩ := B8.out.at
            obtain ⟨c0, c1, c2, c3, c4, c5, c6⟩ := C8.out.at
            go_wp2_with fail
            refine (Less_named (a := b) (b := c) ZZ.out _).mono ?_
            rintro x w9 ⟨rfl, k9⟩
            have A9 := Hid.of (A8.out.kept k9)
            have B9 := Hid.of (B8.out.kept k9)
            have C9 := Hid.of (C8.out.kept k9)
            have K9 := Hid.of (K8.out.trans (k9.mono K8.out.size))
            clear a0 a1 a2 a3 a4 a5 a6 b0 b1 b2 b3 b4 b5 b6 c0 c1 c2 c3 c4 c5 c6 k9 A8 B8 C8 K8
            obtain ⟨a0, a1, a2, a3, a4, a5, a6⟩ := A9.out.at
            obtain ⟨b0, b1, b2, b3, b4, b5, b6⟩ := B9.out.at
            obtain ⟨c0, c1, c2, c3, c4, c5, c6⟩ := C9.out.at
            go_wp2_with fail
            refine (Less_named (a := a) (b := c) UU.out _).mono ?_
            rintro x w10 ⟨rfl, k10⟩
            have A10 := Hid.of (A9.out.kept k10)
            have B10 := Hid.of (B9.out.kept k10)
            have C10 := Hid.of (C9.out.kept k10)
            have K10 := Hid.of (K9.out.trans (k10.mono K9.out.size))
            clear a0 a1 a2 a3 a4 a5 a6 b0 b1 b2 b3 b4 b5 b6 c0 c1 c2 c3 c4 c5 c6 k10 A9 B9 C9 K9
            obtain ⟨a0, a1, a2, a3, a4, a5, a6⟩ := A10.out.at
            obtain ⟨b0, b1, b2, b3, b4, b5, b6⟩ := B10.out.at
            obtain ⟨c0, c1, c2, c3, c4, c5, c6⟩ := C10.out.at
            go_wp2_with fail
            refine (Less_named (a := a) (b := b) XX.out _).mono ?_
            rintro x w11 ⟨rfl, k11⟩
            have A11 := Hid.of (A10.out.kept k11)
            have B11 := Hid.of (B10.out.kept k11)
            have C11 := Hid.of (C10.out.kept k11)
            have K11 := Hid.of (K10.out.trans (k11.mono K10.out.size))
            clear a0 a1 a2 a3 a4 a5 a6 b0 b1 b2 b3 b4 b5 b6 c0 c1 c2 c3 c4 c5 c6 k11 A10 B10 C10 K10
            obtain ⟨a0, a1, a2, a3, a4, a5, a6⟩ := A11.out.at
            obtain ⟨b0, b1, b2, b3, b4, b5, b6⟩ := B11.out.at
            obtain ⟨c0, c1, c2, c3, c4, c5, c6⟩ := C11.out.at
            go_wp2
            go_ret
            exact ⟨rfl, K11.out⟩
        · have ZZ : Hid (nLess b c = false) := Hid.of (by simpa using hy)
          clear htot hx hy
          rcases hs' with he | ⟨he, ht⟩
          all_goals
            go_enter Try.func5, Try.ntmps5
            go_upto_region 1 with (fail)
            rw [HW3.out]
            obtain ⟨a0, a1, a2, a3, a4, a5, a6⟩ := A3.out.at
            obtain ⟨b0, b1, b2, b3, b4, b5, b6⟩ := B3.out.at
            obtain ⟨c0, c1, c2, c3, c4, c5, c6⟩ := C3.out.at
            go_wp2_with fail
            refine (nameAlive_any _).mono ?_
            rintro x w4 ⟨rfl, k4⟩
            have A4 := Hid.of (A3.out.kept k4)
            have B4 := Hid.of (B3.out.kept k4)
            have C4 := Hid.of (C3.out.kept k4)
            have K4 := Hid.of (K3.out.trans (k4.mono K3.out.size))
            clear a0 a1 a2 a3 a4 a5 a6 b0 b1 b2 b3 b4 b5 b6 c0 c1 c2 c3 c4 c5 c6 k4 A3 B3 C3 K3
            obtain ⟨a0, a1, a2, a3, a4, a5, a6⟩ := A4.out.at
            obtain ⟨b0, b1, b2, b3, b4, b5, b6⟩ := B4.out.at
            obtain ⟨c0, c1, c2, c3, c4, c5, c6⟩ := C4.out.at
            go_wp2_with fail
            refine (Less_named (a := a) (b := a) RR.out _).mono ?_
            rintro x w5 ⟨rfl, k5⟩
            have A5 := Hid.of (A4.out.kept k5)
            have B5 := Hid.of (B4.out.kept k5)
            have C5 := Hid.of (C4.out.kept k5)
            have K5 := Hid.of (K4.out.trans (k5.mono K4.out.size))
            clear a0 a1 a2 a3 a4 a5 a6 b0 b1 b2 b3 b4 b5 b6 c0 c1 c2 c3 c4 c5 c6 k5 A4 B4 C4 K4
            obtain ⟨a0, a1, a2, a3, a4, a5, a6⟩ := A5.out.at
            obtain ⟨b0, b1, b2, b3, b4, b5, b6⟩ := B5.out.at
            obtain ⟨c0, c1, c2, c3, c4, c5, c6⟩ := C5.out.at
            go_wp2_with fail
            refine (Less_named (a := a) (b := b) XX.out _).mono ?_
            rintro x w6 ⟨rfl, k6⟩
            have A6 := Hid.of (A5.out.kept k6)
            have B6 := Hid.of (B5.out.kept k6)
            have C6 := Hid.of (C5.out.kept k6)
            have K6 := Hid.of (K5.out.trans (k6.mono K5.out.size))
            clear a0 a1 a2 a3 a4 a5 a6 b0 b1 b2 b3 b4 b5 b6 c0 c1 c2 c3 c4 c5 c6 k6 A5 B5 C5 K5
            obtain ⟨a0, a1, a2, a3, a4, a5, a6⟩ := A6.out.at
            obtain ⟨b0, b1, b2, b3, b4, b5, b6⟩ := B6.out.at
            obtain ⟨c0, c1, c2, c3, c4, c5, c6⟩ := C6.out.at
            go_wp2_with fail
            refine (Less_named (a := b) (b := a) YY.out _).mono ?_
            rintro x w7 ⟨rfl, k7⟩
            have A7 := Hid.of (A6.out.kept k7)
            have B7 := Hid.of (B6.out.kept k7)
            have C7 := Hid.of (C6.out.kept k7)
            have K7 := Hid.of (K6.out.trans (k7.mono K6.out.size))
            clear a0 a1 a2 a3 a4 a5 a6 b0 b1 b2 b3 b4 b5 b6 c0 c1 c2 c3 c4 c5 c6 k7 A6 B6 C6 K6
            obtain ⟨a0, a1, a2, a3, a4, a5, a6⟩ := A7.out.at
            obtain ⟨b0, b1, b2, b3, b4, b5, b6⟩ := B7.out.at
            obtain ⟨c0, c1, c2, c3, c4, c5, c6⟩ := C7.out.at
            go_wp2_with fail
            refine (Less_named (a := a) (b := b) XX.out _).mono ?_
            rintro x w8 ⟨rfl, k8⟩
            have A8 := Hid.of (A7.out.kept k8)
            have B8 := Hid.of (B7.out.kept k8)
            have C8 := Hid.of (C7.out.kept k8)
            have K8 := Hid.of (K7.out.trans (k8.mono K7.out.size))
            clear a0 a1 a2 a3 a4 a5 a6 b0 b1 b2 b3 b4 b5 b6 c0 c1 c2 c3 c4 c5 c6 k8 A7 B7 C7 K7
            obtain ⟨a0, a1, a2, a3, a4, a5, a6⟩ := A8.out.at
            obtain ⟨b0, b1, b2, b3, b4, b5, b6⟩ := B8.out.at
            obtain ⟨c0, c1, c2, c3, c4, c5, c6⟩ := C8.out.at
            go_wp2_with fail
            refine (Less_named (a := b) (b := c) ZZ.out _).mono ?_
            rintro x w9 ⟨rfl, k9⟩
            have A9 := Hid.of (A8.out.kept k9)
            have B9 := Hid.of (B8.out.kept k9)
            have C9 := Hid.of (C8.out.kept k9)
            have K9 := Hid.of (K8.out.trans (k9.mono K8.out.size))
            clear a0 a1 a2 a3 a4 a5 a6 b0 b1 b2 b3 b4 b5 b6 c0 c1 c2 c3 c4 c5 c6 k9 A8 B8 C8 K8
            obtain ⟨a0, a1, a2, a3, a4, a5, a6⟩ := A9.out.at
            obtain ⟨b0, b1, b2, b3, b4, b5, b6⟩ := B9.out.at
            obtain ⟨c0, c1, c2, c3, c4, c5, c6⟩ := C9.out.at
            go_wp2_with fail
            refine (Less_named (a := a) (b := b) XX.out _).mono ?_
            rintro x w10 ⟨rfl, k10⟩
            have A10 := Hid.of (A9.out.kept k10)
            have B10 := Hid.of (B9.out.kept k10)
            have C10 := Hid.of (C9.out.kept k10)
            have K10 := Hid.of (K9.out.trans (k10.mono K9.out.size))
            clear a0 a1 a2 a3 a4 a5 a6 b0 b1 b2 b3 b4 b5 b6 c0 c1 c2 c3 c4 c5 c6 k10 A9 B9 C9 K9
            obtain ⟨a0, a1, a2, a3, a4, a5, a6⟩ := A10.out.at
            obtain ⟨b0, b1, b2, b3, b4, b5, b6⟩ := B10.out.at
            obtain ⟨c0, c1, c2, c3, c4, c5, c6⟩ := C10.out.at
            go_wp2
            go_ret
            exact ⟨rfl, K10.out⟩
      · have XX : Hid (nLess a b = false) := Hid.of (by simpa using hx)
        have YY := Hid.of (htot.resolve_left hx)
        clear htot hx
        rcases hs' with he | ⟨he, ht⟩
        all_goals
          go_enter Try.func5, Try.ntmps5
          go_upto_region 1 with (fail)
          rw [HW3.out]
          obtain ⟨a0, a1, a2, a3, a4, a5, a6⟩ := A3.out.at
          obtain ⟨b0, b1, b2, b3, b4, b5, b6⟩ := B3.out.at
          obtain ⟨c0, c1, c2, c3, c4, c5, c6⟩ := C3.out.at
          go_wp2_with fail
          refine (nameAlive_any _).mono ?_
          rintro x w4 ⟨rfl, k4⟩
          have A4 := Hid.of (A3.out.kept k4)
          have B4 := Hid.of (B3.out.kept k4)
          have C4 := Hid.of (C3.out.kept k4)
          have K4 := Hid.of (K3.out.trans (k4.mono K3.out.size))
          clear a0 a1 a2 a3 a4 a5 a6 b0 b1 b2 b3 b4 b5 b6 c0 c1 c2 c3 c4 c5 c6 k4 A3 B3 C3 K3
          obtain ⟨a0, a1, a2, a3, a4, a5, a6⟩ := A4.out.at
          obtain ⟨b0, b1, b2, b3, b4, b5, b6⟩ := B4.out.at
          obtain ⟨c0, c1, c2, c3, c4, c5, c6⟩ := C4.out.at
          go_wp2_with fail
          refine (Less_named (a := a) (b := a) RR.out _).mono ?_
          rintro x w5 ⟨rfl, k5⟩
          have A5 := Hid.of (A4.out.kept k5)
          have B5 := Hid.of (B4.out.kept k5)
          have C5 := Hid.of (C4.out.kept k5)
          have K5 := Hid.of (K4.out.trans (k5.mono K4.out.size))
          clear a0 a1 a2 a3 a4 a5 a6 b0 b1 b2 b3 b4 b5 b6 c0 c1 c2 c3 c4 c5 c6 k5 A4 B4 C4 K4
          obtain ⟨a0, a1, a2, a3, a4, a5, a6⟩ := A5.out.at
          obtain ⟨b0, b1, b2, b3, b4, b5, b6⟩ := B5.out.at
          obtain ⟨c0, c1, c2, c3, c4, c5, c6⟩ := C5.out.at
          go_wp2_with fail
          refine (Less_named (a := a) (b := b) XX.out _).mono ?_
          rintro x w6 ⟨rfl, k6⟩
          have A6 := Hid.of (A5.out.kept k6)
          have B6 := Hid.of (B5.out.kept k6)
          have C6 := Hid.of (C5.out.kept k6)
          have K6 := Hid.of (K5.out.trans (k6.mono K5.out.size))
          clear a0 a1 a2 a3 a4 a5 a6 b0 b1 b2 b3 b4 b5 b6 c0 c1 c2 c3 c4 c5 c6 k6 A5 B5 C5 K5
          obtain ⟨a0, a1, a2, a3, a4, a5, a6⟩ := A6.out.at
          obtain ⟨b0, b1, b2, b3, b4, b5, b6⟩ := B6.out.at
          obtain ⟨c0, c1, c2, c3, c4, c5, c6⟩ := C6.out.at
          go_wp2_with fail
          refine (Less_named (a := a) (b := b) XX.out _).mono ?_
          rintro x w7 ⟨rfl, k7⟩
          have A7 := Hid.of (A6.out.kept k7)
          have B7 := Hid.of (B6.out.kept k7)
          have C7 := Hid.of (C6.out.kept k7)
          have K7 := Hid.of (K6.out.trans (k7.mono K6.out.size))
          clear a0 a1 a2 a3 a4 a5 a6 b0 b1 b2 b3 b4 b5 b6 c0 c1 c2 c3 c4 c5 c6 k7 A6 B6 C6 K6
          obtain ⟨a0, a1, a2, a3, a4, a5, a6⟩ := A7.out.at
          obtain ⟨b0, b1, b2, b3, b4, b5, b6⟩ := B7.out.at
          obtain ⟨c0, c1, c2, c3, c4, c5, c6⟩ := C7.out.at
          go_wp2_with fail
          refine (Less_named (a := a) (b := b) XX.out _).mono ?_
          rintro x w8 ⟨rfl, k8⟩
          have A8 := Hid.of (A7.out.kept k8)
          have B8 := Hid.of (B7.out.kept k8)
          have C8 := Hid.of (C7.out.kept k8)
          have K8 := Hid.of (K7.out.trans (k8.mono K7.out.size))
          clear a0 a1 a2 a3 a4 a5 a6 b0 b1 b2 b3 b4 b5 b6 c0 c1 c2 c3 c4 c5 c6 k8 A7 B7 C7 K7
          obtain ⟨a0, a1, a2, a3, a4, a5, a6⟩ := A8.out.at
          obtain ⟨b0, b1, b2, b3, b4, b5, b6⟩ := B8.out.at
          obtain ⟨c0, c1, c2, c3, c4, c5, c6⟩ := C8.out.at
          go_wp2_with fail
          refine (Less_named (a := b) (b := a) YY.out _).mono ?_
          rintro x w9 ⟨rfl, k9⟩
          have A9 := Hid.of (A8.out.kept k9)
          have B9 := Hid.of (B8.out.kept k9)
          have C9 := Hid.of (C8.out.kept k9)
          have K9 := Hid.of (K8.out.trans (k9.mono K8.out.size))
          clear a0 a1 a2 a3 a4 a5 a6 b0 b1 b2 b3 b4 b5 b6 c0 c1 c2 c3 c4 c5 c6 k9 A8 B8 C8 K8
          obtain ⟨a0, a1, a2, a3, a4, a5, a6⟩ := A9.out.at
          obtain ⟨b0, b1, b2, b3, b4, b5, b6⟩ := B9.out.at
          obtain ⟨c0, c1, c2, c3, c4, c5, c6⟩ := C9.out.at
          go_wp2
          go_ret
          exact ⟨rfl, K9.out⟩

end Go.Proofs.Ytopilmancehbiaa
