/-
  Marks of a Book's lists of texts (package sedimentbook): markTexts, copyTexts.
-/
import Derived.Test.YtopilmancehbiaaKTN
import Derived.Test.YtopilmancehbiaaBKN
namespace Go.Proofs.Ytopilmancehbiaa
open Go.RowKit Go.Lib

/-- The marks of the list i from the place f on, n of them. -/
def tmarks (i f n : Nat) : List ByteArray := (List.range n).map fun k : Nat => tname i (f + k)

theorem tmarks_length (i f n : Nat) : (tmarks i f n).length = n := by simp [tmarks]

theorem tmarks_succ (i f n : Nat) : tmarks i f (n + 1) = tmarks i f n ++ [tname i (f + n)] := by
  simp [tmarks, List.range_succ]

theorem tmarks_add (i f n m : Nat) : tmarks i f n ++ tmarks i (f + n) m = tmarks i f (n + m) := by
  induction m with
  | zero => simp [tmarks]
  | succ m ih => rw [← Nat.add_assoc, tmarks_succ, tmarks_succ, ← List.append_assoc, ih, Nat.add_assoc]

theorem texts_one (ss : List ByteArray) : ∀ u ∈ ss.map Value.string, u.oneCell' = true := by
  intro u hu
  simp only [List.mem_map] at hu
  obtain ⟨s, _, rfl⟩ := hu
  rfl

theorem text_at {w : World} {a : Option Addr} {n c : Nat} {ss : List ByteArray} (h : CellRow w (.slice a n c) n (ss.map Value.string)) (j : Nat) (hj : j < ss.length) (hn : n = ss.length) : ∃ b o, a = some ⟨b, o, none⟩ ∧ b < w.heap.size ∧ w.cell? ⟨b, o + j, none⟩ = some (.string (ss.getD j ByteArray.empty)) := by
  obtain ⟨a', c', hv, h⟩ := h
  simp only [Value.slice.injEq] at hv
  obtain ⟨rfl, _, rfl⟩ := hv
  rcases h with h | ⟨b, o, ha, hl, hc⟩
  · have : ss = [] := by simpa using h
    subst this
    simp at hj
  · refine ⟨b, o, ha, hl, ?_⟩
    rw [hc j (.string ss[j]) (by simp [hj])]
    simp [List.getD, hj]

set_option maxRecDepth 20000 in
set_option maxHeartbeats 800000 in
theorem markTexts_any (i f n : Nat) (hi9 : i ≤ 1000) (hf9 : f ≤ 100000000) (hn9 : n ≤ 1000000) (w : World) :
    Calls Try.prog 75 #[.int .i64 i, .int .i64 f, .int .i64 n] w fun e w' => ∃ v, e = .returned v ∧ w'.ownsRow w.heap.size 9 1 v n ((tmarks i f n).map Value.string) ∧ Below w.heap.size w w' := by
  obtain ⟨i0, hi, hz0, hz1, hz2⟩ := info_parts (show (Try.prog.info? 9).map (fun i => (i.zero, i.size, i.bytes)) = some (some (.string ⟨#[]⟩), 1, 16) by kernel_rfl)
  have HI := Hid.of hi
  have HZ0 := Hid.of hz0
  have HZ1 := Hid.of hz1
  have HZ2 := Hid.of hz2
  clear hi hz0 hz1 hz2
  go_enter Try.func75, Try.ntmps75
  go_wp2
  go_loopw [7, 8] (fun v k wr => ∃ j : Nat, j ≤ n ∧ k = .int .i64 ((f : Int) + j) ∧ Hid (wr.ownsRow w.heap.size 9 1 v j ((tmarks i f j).map Value.string)) ∧ Below w.heap.size w wr) (fun _ k _ => n - ((intOf k).toNat - f))
  case atStart => exact ⟨0, Nat.zero_le _, by simp, Hid.of (by simp only [tmarks]; exact ⟨rfl, .inl ⟨rfl, rfl⟩⟩), Below.refl _ _⟩
  case round =>
    obtain ⟨j, hj, rfl, O, hb⟩ := hrel
    obtain ⟨la, lc, hle, _⟩ := own_one O.out
    subst hle
    have HB := Hid.of hb
    by_cases hlt : j < n
    · have k0 : (f : Int) + (j : Int) = ((f + j : Nat) : Int) := by push_cast; rfl
      have HK := Hid.of k0
      clear k0 hb
      go_wp2_with fail
      rw [HK.out]
      refine (name_any i (f + j) hi9 (by omega) _).mono ?_
      rintro e' n3 ⟨rfl, c3⟩
      have B3 := Hid.of (HB.out.trans (c3.mono HB.out.size))
      have O3 := Hid.of (O.out.kept (grown_of_below c3) (by cases (Value.slice la j lc).ownBlock <;> simp))
      have z3 : w.heap.size ≤ n3.heap.size := B3.out.size
      clear c3
      generalize htn : tname i (f + j) = tn
      have HTN := Hid.of htn
      clear htn
      go_wp2_with (at_builtin; refine append_row_law rfl _ _ 22 rfl w.heap.size 9 i0 (.string ⟨#[]⟩) 1 16 Try.underlying22 HI.out HZ0.out HZ1.out HZ2.out rfl (by decide) (.slice la j lc) j _ rfl (O3.out.alloc _) (.slice (some ⟨n3.heap.size, 0, none⟩) 1 1) 1 [.string tn] rfl ⟨_, _, rfl, .inr ⟨_, 0, rfl, by simp, one_cell n3 _ _⟩⟩ rfl (by simp [Value.oneCell']) (by unfold maxLen; omega) (by omega) (by simp; omega) ?_; intro v1 w1 o1 g1; have O1 := Hid.of o1; have G1 := Hid.of g1; clear o1 g1)
      go_roundw
      case rel =>
        refine ⟨j + 1, by omega, by go_num, Hid.of ?_, (B3.out.alloc z3 _).grown G1.out (by simp; omega) (fun k hk => own_ge O3.out hk)⟩
        rw [tmarks_succ, List.map_append, HTN.out]
        exact O1.out
      case measure => simp [intOf]; omega
    · go_wp2
      go_ret
      have : j = n := by omega
      subst this
      exact ⟨_, rfl, O.out, HB.out⟩

set_option maxHeartbeats 400000 in
theorem copyTexts_any (v : Value) (ss : List ByteArray) (w : World) (hv : CellRow w v ss.length (ss.map Value.string)) (hn : ss.length ≤ 1000000) :
    Calls Try.prog 29 #[v] w fun e w' => ∃ u, e = .returned u ∧ w'.ownsRow w.heap.size 9 1 u ss.length (ss.map Value.string) ∧ Below w.heap.size w w' := by
  have HC := Hid.of hv
  obtain ⟨sa, c, rfl, _⟩ := hv
  obtain ⟨i0, hi, hz0, hz1, hz2⟩ := info_parts (show (Try.prog.info? 9).map (fun i => (i.zero, i.size, i.bytes)) = some (some (.string ⟨#[]⟩), 1, 16) by kernel_rfl)
  have HI := Hid.of hi
  have HZ0 := Hid.of hz0
  have HZ1 := Hid.of hz1
  have HZ2 := Hid.of hz2
  clear hi hz0 hz1 hz2
  go_enter Try.func29, Try.ntmps29
  go_wp2_with (at_builtin; refine append_row_law rfl (.const (.slice none 0 0)) (.tmp 3) 22 rfl w.heap.size 9 i0 (.string ⟨#[]⟩) 1 16 Try.underlying22 HI.out HZ0.out HZ1.out HZ2.out rfl (by decide) (.slice none 0 0) 0 [] rfl ⟨rfl, .inl ⟨rfl, rfl⟩⟩ _ ss.length _ rfl HC.out (by simp) (texts_one ss) (by unfold maxLen; omega) (by omega) (Nat.le_refl _) ?_; intro v1 w1 o1 g1; have O1 : Hid (w1.ownsRow w.heap.size 9 1 v1 ss.length (ss.map Value.string)) := Hid.of (by simpa using o1); have b1 : Below w.heap.size w w1 := below_of_none g1; clear o1 g1)
  go_ret
  exact ⟨_, rfl, O1.out, b1⟩

end Go.Proofs.Ytopilmancehbiaa
