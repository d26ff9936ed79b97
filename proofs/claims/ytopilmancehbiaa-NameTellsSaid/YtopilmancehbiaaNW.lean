/-
  Statement NameTells, every input: long names too.
-/
import Derived.Test.YtopilmancehbiaaNU
namespace Go.Proofs.Ytopilmancehbiaa
open Go.RowKit Go.Lib

set_option maxRecDepth 20000 in
set_option maxHeartbeats 1600000 in
theorem nameTells_long (v : Value) (ss : List ByteArray) (n : Int) (a b : NRec) (w : World) (hv : StrRow w v ss) (hz : 300 < a.n.size ∨ 300 < b.n.size) :
    Calls Try.prog 3 #[v, .int .i64 n, nrv a, nrv b] w fun e w' => e = .returned (.bool true) ∧ Below w.heap.size w w' := by
  have HV := Hid.of hv
  obtain ⟨va, vc, rfl, _⟩ := hv
  obtain ⟨w3, hw3⟩ : ∃ w3, (w.alloc (.cells #[.string a.n, .int .i64 a.t, .int .i64 a.c, .int .i64 a.hi, .int .u64 a.lo, .int .i64 a.mn, .int .i64 a.mx] 27)).alloc (.cells #[.string b.n, .int .i64 b.t, .int .i64 b.c, .int .i64 b.hi, .int .u64 b.lo, .int .i64 b.mn, .int .i64 b.mx] 27) = w3 := ⟨_, rfl⟩
  have A3 : Hid (NBlk w3 w.heap.size a) := Hid.of (by rw [← hw3]; exact (NBlk.made w a _ rfl).alloc _)
  have B3 : Hid (NBlk w3 (w.heap.size + 1) b) := Hid.of (by rw [← hw3]; exact NBlk.made _ b _ (by simp))
  have K3 : Hid (Below w.heap.size w w3) := Hid.of (by rw [← hw3]; exact ((Below.refl _ _).alloc (Nat.le_refl _) _).alloc (by simp) _)
  have HW3 := Hid.of hw3
  clear hw3
  have hz' : 300 < a.n.size ∨ (¬ 300 < a.n.size ∧ 300 < b.n.size) := by omega
  clear hz
  rcases hz' with h1 | ⟨h1, h2⟩
  all_goals
    go_enter Try.func3, Try.ntmps3
    go_upto_region 1 with (fail)
    rw [HW3.out]
    go_wp2_with fail
    refine (Short_sum 60 3000 (by decide) (by decide) _ ss _ (HV.out.kept K3.out)).mono ?_
    rintro e w4 ⟨r, rfl, hr, b4⟩
    obtain ⟨a0, _⟩ := (A3.out.kept b4).at
    obtain ⟨b0, _⟩ := (B3.out.kept b4).at
    have K4 := Hid.of (K3.out.trans (b4.mono K3.out.size))
    clear hr b4
    cases r
    all_goals
      go_wp2_with fail
      refine (nameAlive_any _).mono ?_
      rintro x w5 ⟨rfl, b5⟩
      go_wp2
      go_ret
      exact ⟨rfl, K4.out.trans (b5.mono K4.out.size)⟩

theorem nameTells_all (v : Value) (ss : List ByteArray) (n : Int) (a b : NRec) (w : World) (hv : StrRow w v ss) :
    Calls Try.prog 3 #[v, .int .i64 n, nrv a, nrv b] w fun e w' => e = .returned (.bool true) ∧ Below w.heap.size w w' := by
  by_cases hz : 300 < a.n.size ∨ 300 < b.n.size
  · exact nameTells_long v ss n a b w hv hz
  · exact nameTells_main v ss n a b w hv (fun h => hz (.inl h)) (fun h => hz (.inr h))

end Go.Proofs.Ytopilmancehbiaa
