/-
  The document's own Check of a policy of whatever length.
-/
import Derived.Test.YtdhkmcmipkfkjaaR19
namespace Go.Proofs.Ytdhkmcmipkfkjaa
open Go.RowKit Go.Lib

set_option maxRecDepth 20000 in
set_option maxHeartbeats 3200000 in
theorem refCheck_wide (v : Value) (p : PolL) (w : World) (hv : PolRow w v p) (hn : p.1.size ≤ maxLen) (ht : ∀ x ∈ p.2, x.1.size ≤ maxLen) :
    Calls Try.prog 6 #[v] w fun e w' => e = .returned (.tuple #[.int .i64 (pCheck p).1, .int .i64 (pCheck p).2]) ∧ Below w.heap.size w w' := by
  by_cases hp : p.2.length ≤ 1000000
  · exact refCheck_any v p w hv hp hn ht
  · clear ht
    obtain ⟨n, l⟩ := p
    obtain ⟨s, rfl, hs, -⟩ := hv
    simp only at hs hp hn
    obtain ⟨sa, sc, rfl, -⟩ := hs
    obtain ⟨w1, hw1⟩ : ∃ w1, w.alloc (.cells #[.string n, .slice sa l.length sc] 24) = w1 := ⟨_, rfl⟩
    have b1 : Below w.heap.size w w1 := by rw [← hw1]; exact (Below.refl _ _).alloc (Nat.le_refl _) _
    have K1 : Hid (PBlk w1 w.heap.size n (.slice sa l.length sc)) := Hid.of (by rw [← hw1]; exact PBlk.made w _ _)
    have HW := Hid.of hw1
    have B1 := Hid.of b1
    have HSZ := Hid.of hn
    have RET : Hid (pCheck (n, l) = (23, 0)) := Hid.of (by unfold pCheck; rw [if_pos (.inr (.inr (show 5 < l.length by omega)))])
    have i1 : ¬ (l.length : Int) < 1 := by omega
    have i2 : (5 : Int) < (l.length : Int) := by omega
    clear hw1 b1 hn hp
    go_enter Try.func6, Try.ntmps6
    go_wp2_with fail
    rw [HW.out]
    refine (refName_any n HSZ.out _).mono ?_
    rintro e w2 ⟨rfl, q, rfl⟩
    have B2 := Hid.of (below_drewN B1.out q)
    have K2 : Hid (PBlk (w1.drewN q) w.heap.size n (.slice sa l.length sc)) := Hid.of K1.out
    clear HW B1 K1
    generalize w1.drewN q = w2 at *
    obtain ⟨c0, c1⟩ := K2.out.at
    obtain ⟨b, hb⟩ : ∃ b, nOk n = b := ⟨_, rfl⟩
    rw [hb]
    clear hb
    cases b with
    | false =>
      go_wp2
      go_ret2
      rw [RET.out]
      exact ⟨rfl, B2.out⟩
    | true =>
      go_wp2
      go_ret2
      rw [RET.out]
      exact ⟨rfl, B2.out⟩

end Go.Proofs.Ytdhkmcmipkfkjaa
