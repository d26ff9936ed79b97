/-
  What statement PackDigits answers: true, for every input.
-/
import Derived.Test.YtdlljjbooajgiaaDoorDD
namespace Go.Proofs.YtdlljjbooajgiaaDoor
open Go.RowKit Go.Lib

theorem same_bytes {a b : ByteArray} (h : a.data.toList = b.data.toList) : a = b := by
  cases a; cases b
  simp only at h
  congr 1
  exact Array.toList_inj.1 h

theorem refNumber_is (s : ByteArray) (a b : Int) (h : refNumber s.data.toList = (a, b)) (w : World) :
    Calls Tryd.prog 13 #[.string s] w fun e w' => e = .returned (.tuple #[.int .i64 a, .int .i64 b]) ∧ w = w' := by
  have := refNumber_any s w
  rw [h] at this
  exact this

set_option maxHeartbeats 800000 in
theorem digits_any (v : Int) (h0 : -9223372036854775808 ≤ v) (h1 : v ≤ 9223372036854775807) (s : ByteArray) (w : World) (htab : Hid (Tab w)) (he : Hid (Errs w)) :
    Calls Tryd.prog 3 #[.int .i64 v, .string s] w fun e w' => e = .returned (.bool true) ∧ Below w.heap.size w w' := by
  have hw2 : 2 ≤ w.heap.size := by have := htab.out.lt; omega
  have H0 := Hid.of h0
  have H1 := Hid.of h1
  clear h0 h1
  by_cases hs : 300 < s.size
  · go_enter Tryd.func3, Tryd.ntmps3
    go_wp2_with fail
    refine (alive_any _ htab).mono ?_
    rintro e w5 ⟨rfl, c5⟩
    go_wp2
    go_ret
    exact ⟨rfl, c5⟩
  · obtain ⟨a, b, hab⟩ : ∃ a b, number s.data.toList = (a, b) := ⟨_, _, rfl⟩
    have hrf : refNumber s.data.toList = (a, b) := by rw [← number_ref]; exact hab
    have HA := Hid.of hab
    have HR := Hid.of hrf
    clear hab hrf
    go_enter Tryd.func3, Tryd.ntmps3
    go_wp2_with fail
    refine (Number_is s (by omega) a b HA.out _ htab he).mono ?_
    rintro e w1 ⟨rfl, b1⟩
    have T1 := Hid.of (htab.out.below b1 (Nat.le_refl _))
    go_wp2_with fail
    refine (refNumber_is s a b HR.out _).mono ?_
    rintro e w1' ⟨rfl, rfl⟩
    go_wp2_with fail
    refine (alive_any _ T1).mono ?_
    rintro e w2 ⟨rfl, c2⟩
    have b2 : Below w.heap.size w w2 := b1.trans (c2.mono b1.size)
    have T2 := Hid.of (htab.out.below b2 (Nat.le_refl _))
    clear c2 b1 T1
    go_wp2_with fail
    refine (Digits_str v H0.out H1.out _ T2).mono ?_
    rintro e w3 ⟨d, rfl, hd, g3⟩
    have b3 : Below w.heap.size w w3 := b2.trans ((below_of_none g3).mono b2.size)
    clear g3 b2 T2
    go_wp2_with fail
    refine (refDigits_any v H0.out H1.out _).mono ?_
    rintro e w4 ⟨d2, rfl, hd2, c4⟩
    obtain rfl : d2 = d := same_bytes (by rw [hd.out, hd2.out])
    have b4 : Below w.heap.size w w4 := b3.trans (c4.mono b3.size)
    clear c4 b3
    go_wp2
    go_ret
    exact ⟨rfl, b4⟩

end Go.Proofs.YtdlljjbooajgiaaDoor
