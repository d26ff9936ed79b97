/-
  A bundle of texts: IOP ISM.
-/
import Derived.Deep.QuietTactic
import Derived.BigQuiet
import Derived.Test.YtdhkmcmipkfkjaaR21
import Derived.Test.YtdhkmcmipkfkjaaR18
import Derived.Test.YtdhkmcmipkfkjaaR26
import Derived.Test.YtdhkmcmipkfkjaaR23
namespace Go.Proofs.Ytdhkmcmipkfkjaa
open Go.RowKit Go.Lib

theorem sam_leaves : leaves Try.prog 2 28 = some [9, 3, 3] := by kernel_rfl
theorem sam_size : Try.prog.cellsOf 28 = 3 := by kernel_rfl

theorem sams_of_trod {H : Type} {enc : TypeId × Value → H} {W : World} {sp : Nat → Bool} {a : Option Addr} {len cap : Nat} {d : DataW H} {ps : List MemPlace} (h : DataW.Trod enc Try.prog W 0 sp true 25 (.slice a len cap) d ps) :
    ∃ ss : List SamL, ss.length = len ∧ CellRow W (.slice a len cap) ss.length (flat aenc ss) ∧ ss.length ≤ cap ∧ ∀ s ∈ ss, SFit s := by
  have hc := cap_of_trod Try.underlying25 h
  obtain ⟨l, hl, hr, hi⟩ : ∃ l : List SamL, l.length = len ∧ CellRow W (.slice a len cap) len (flat aenc l) ∧ ∀ x ∈ l, SFit x :=
    rows_of_trod Try.underlying25 sam_size (by decide) aenc_len SFit (⟨#[]⟩, 0, 0) (fun fuel cs x hl hx => by
      have hF := leaf_at 2 _ _ cs fuel x sam_leaves (by rw [sam_size]; omega) hx
      obtain ⟨n0, c0, w0⟩ := leaf_string Try.underlying9 (hF 0 _ rfl)
      obtain ⟨n1, c1, w1⟩ := leaf_int Try.underlying3 (hF 1 _ rfl)
      obtain ⟨n2, c2, w2⟩ := leaf_int Try.underlying3 (hF 2 _ rfl)
      refine ⟨(n0, n1, n2), ?_, w0, tin64_of n1 w1, tin64_of n2 w2⟩
      match cs, hl with
      | [x0, x1, x2], _ =>
        simp at c0 c1 c2
        subst c0 c1 c2
        rfl) h
  exact ⟨l, hl, by rw [hl]; exact hr, by rw [hl]; exact hc, hi⟩

/-- Few samples, short names. -/
def SFew (k : Nat) (l : List SamL) : Prop := l.length ≤ k ∧ ∀ x ∈ l, x.1.size ≤ 60

end Go.Proofs.Ytdhkmcmipkfkjaa

namespace Go.Proofs.Ytdhkmcmipkfkjaa
open Go.RowKit Go.Lib

set_option maxRecDepth 20000 in
set_option maxHeartbeats 800000 in
theorem Some_any (k : Nat) (v : Value) (l : List SamL) (w : World) (hv : CellRow w v l.length (flat aenc l)) (hk : k ≤ 1000) :
    Calls Try.prog 8 #[.int .i64 k, v] w fun e w' => ∃ r : Bool, e = .returned (.bool r) ∧ Hid (r = true → SFew k l) ∧ Below w.heap.size w w' := by
  have HV := Hid.of hv
  obtain ⟨sa, sc, rfl, -⟩ := hv
  go_enter Try.func8, Try.ntmps8
  go_wp2
  go_loopw [5] (fun i wr => ∃ j : Nat, j ≤ l.length ∧ j ≤ k ∧ i = .int .i64 j ∧ Hid (∀ x ∈ l.take j, x.1.size ≤ 60) ∧ Below w.heap.size w wr) (fun i _ => k - (RowKit.intOf i).toNat)
  case atStart => exact ⟨0, Nat.zero_le _, Nat.zero_le _, rfl, Hid.of (by simp), Below.refl _ _⟩
  case round =>
    obtain ⟨j, hj, hjk, rfl, A, hb⟩ := hrel
    have i0 : (0 : Int) ≤ (j : Int) := Int.natCast_nonneg _
    by_cases hlt : j < l.length
    · have i1 : (j : Int) < (l.length : Int) := by omega
      by_cases h12 : j < k
      · have i2 : (j : Int) < (k : Int) := by omega
        obtain ⟨b1, o1, rfl, hl1, hc1⟩ := a_at HV.out j l[j] (by simp [hlt])
        obtain ⟨x, hx⟩ : ∃ x, l[j] = x := ⟨_, rfl⟩
        rw [hx] at hc1
        obtain ⟨d0, -⟩ := hc1
        rw [← hb.cell hl1] at d0
        have HX := Hid.of hx
        have j9 : (j : Int) ≤ 1000 := by omega
        by_cases h60 : x.1.size ≤ 60
        · have i3 : ¬ (60 : Int) < (x.1.size : Int) := by omega
          clear hx
          go_wp2
          go_roundw
          case rel =>
            refine ⟨j + 1, by omega, by omega, by go_num, Hid.of ?_, hb⟩
            intro y hy
            rw [List.take_succ_eq_append_getElem hlt, List.mem_append, List.mem_singleton, HX.out] at hy
            rcases hy with hy | rfl
            · exact A.out y hy
            · exact h60
          case measure => simp [RowKit.intOf]; omega
        · have i3 : (60 : Int) < (x.1.size : Int) := by omega
          clear hx
          go_wp2
          go_ret
          exact ⟨false, rfl, Hid.of (fun h => by cases h), hb⟩
      · have i2 : ¬ (j : Int) < (k : Int) := by omega
        have i3 : ¬ (l.length : Int) ≤ (k : Int) := by omega
        go_wp2
        go_ret
        exact .inl ⟨rfl, Hid.of trivial, hb⟩
    · have i1 : ¬ (j : Int) < (l.length : Int) := by omega
      have hjl : j = l.length := by omega
      have i3 : (l.length : Int) ≤ (k : Int) := by omega
      go_wp2
      go_ret
      refine .inr ⟨rfl, Hid.of ⟨by omega, fun x hx => ?_⟩, hb⟩
      have := A.out x
      rw [hjl, List.take_length] at this
      exact this hx

end Go.Proofs.Ytdhkmcmipkfkjaa
