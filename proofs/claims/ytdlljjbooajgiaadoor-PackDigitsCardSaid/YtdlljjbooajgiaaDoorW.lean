/-
  What statement PackNumbers answers: true, for every input.
-/
import Derived.Test.YtdlljjbooajgiaaDoorV
import Derived.Lib.ItoaLen
namespace Go.Proofs.YtdlljjbooajgiaaDoor
open Go.RowKit Go.Lib

theorem itoa_size {v : Int} (h0 : -9223372036854775808 ≤ v) (h1 : v ≤ 9223372036854775807) {d : ByteArray} (h : d.data.toList = Lib.itoa v) : d.size ≤ 21 := by
  rw [← byte_len, h]
  exact itoa_length_le v h0 h1

theorem number_itoa (v : Int) (h : Small18 v) {d : ByteArray} (hd : d.data.toList = Lib.itoa v) : number d.data.toList = (v, 0) := by
  unfold number
  rw [hd, atoi_itoa v (bounds18 h).1 (bounds18 h).2]
  exact if_pos ⟨h, rfl⟩

theorem number_big (v : Int) (h0 : -9223372036854775808 ≤ v) (h1 : v ≤ 9223372036854775807) (h : ¬ Small18 v) {d : ByteArray} (hd : d.data.toList = Lib.itoa v) : number d.data.toList = (0, 1) := by
  unfold number
  rw [hd, atoi_itoa v h0 h1]
  exact if_neg fun hc => h hc.1

theorem number_never (l : List UInt8) (h : ∀ x, Lib.itoa x ≠ l) : number l = (0, 1) := by
  unfold number
  split
  · exact if_neg fun hc => h _ hc.2
  · rfl

theorem append_list (a b : ByteArray) : (a ++ b).data.toList = a.data.toList ++ b.data.toList := by
  rw [ByteArray.data_append]
  simp

theorem zero_text {v : Int} {d : ByteArray} (h : d.data.toList = Lib.itoa v) : ∀ x, Lib.itoa x ≠ (⟨#[48]⟩ ++ d).data.toList := by
  intro x hx
  rw [append_list, h] at hx
  exact itoa_ne_zero x v hx

theorem plus_text {v : Int} {d : ByteArray} (h : d.data.toList = Lib.itoa v) : ∀ x, Lib.itoa x ≠ (⟨#[43]⟩ ++ d).data.toList := by
  intro x hx
  rw [append_list, h] at hx
  exact itoa_ne_plus x v hx

theorem one_more {d : ByteArray} (c : UInt8) (h : d.size ≤ 100) : ((⟨#[c]⟩ : ByteArray) ++ d).size ≤ 1000000 := by
  rw [ByteArray.size_append]
  have : (⟨#[c]⟩ : ByteArray).size = 1 := rfl
  omega

/-- What Number answers, the answer given. -/
theorem Number_is (s : ByteArray) (hs : s.size ≤ 1000000) (a b : Int) (h : number s.data.toList = (a, b)) (w : World) (htab : Hid (Tab w)) (he : Hid (Errs w)) :
    Calls Tryd.prog 12 #[.string s] w fun e w' => e = .returned (.tuple #[.int .i64 a, .int .i64 b]) ∧ Below w.heap.size w w' := by
  have := Number_any s hs w htab he
  rw [h] at this
  exact this

set_option maxHeartbeats 800000 in
theorem numbers_any (v : Int) (h0 : -9223372036854775808 ≤ v) (h1 : v ≤ 9223372036854775807) (w : World) (htab : Hid (Tab w)) (he : Hid (Errs w)) :
    Calls Tryd.prog 10 #[.int .i64 v] w fun e w' => e = .returned (.bool true) ∧ Below w.heap.size w w' := by
  have hw2 : 2 ≤ w.heap.size := by have := htab.out.lt; omega
  have H0 := Hid.of h0
  have H1 := Hid.of h1
  by_cases hv : Small18 v
  · have HV := Hid.of hv
    have d1 : ¬ v > 999999999999999999 := by have := hv.2; omega
    have d2 : ¬ v < -999999999999999999 := by have := hv.1; omega
    clear h0 h1 hv
    go_enter Tryd.func10, Tryd.ntmps10
    go_wp2_with fail
    refine (Digits_str v H0.out H1.out _ htab).mono ?_
    rintro e w1 ⟨d, rfl, hd, g1⟩
    have b1 : Below w.heap.size w w1 := below_of_none g1
    have T1 := Hid.of (htab.out.below b1 (Nat.le_refl _))
    have E1 := Hid.of (he.out.below b1 hw2)
    have hds := itoa_size H0.out H1.out hd.out
    have n1 : Hid (((⟨#[48]⟩ : ByteArray) ++ d).size ≤ 1000000) := Hid.of (one_more _ (by omega))
    have n2 : Hid (((⟨#[43]⟩ : ByteArray) ++ d).size ≤ 1000000) := Hid.of (one_more _ (by omega))
    have m1 : Hid (number ((⟨#[48]⟩ : ByteArray) ++ d).data.toList = (0, 1)) := Hid.of (number_never _ (zero_text hd.out))
    have m2 : Hid (number ((⟨#[43]⟩ : ByteArray) ++ d).data.toList = (0, 1)) := Hid.of (number_never _ (plus_text hd.out))
    clear g1
    go_wp2_with fail
    refine (Number_is d (by omega) v 0 (number_itoa v HV.out hd.out) _ T1 E1).mono ?_
    rintro e w2 ⟨rfl, c2⟩
    have b2 : Below w.heap.size w w2 := b1.trans (c2.mono b1.size)
    have T2 := Hid.of (htab.out.below b2 (Nat.le_refl _))
    have E2 := Hid.of (he.out.below b2 hw2)
    clear c2 b1 T1 E1
    go_wp2_with fail
    refine (Number_is _ ?_ 0 1 ?_ _ T2 E2).mono ?_
    · exact n1.out
    · exact m1.out
    rintro e w3 ⟨rfl, c3⟩
    have b3 : Below w.heap.size w w3 := b2.trans (c3.mono b2.size)
    have T3 := Hid.of (htab.out.below b3 (Nat.le_refl _))
    have E3 := Hid.of (he.out.below b3 hw2)
    clear c3 b2 T2 E2
    go_wp2_with fail
    refine (Number_is _ ?_ 0 1 ?_ _ T3 E3).mono ?_
    · exact n2.out
    · exact m2.out
    rintro e w4 ⟨rfl, c4⟩
    have b4 : Below w.heap.size w w4 := b3.trans (c4.mono b3.size)
    have T4 := Hid.of (htab.out.below b4 (Nat.le_refl _))
    clear c4 b3 T3 E3
    go_wp2_with fail
    refine (alive_any _ T4).mono ?_
    rintro e w5 ⟨rfl, c5⟩
    have b5 : Below w.heap.size w w5 := b4.trans (c5.mono b4.size)
    clear c5 b4 T4
    go_wp2
    go_ret
    exact ⟨rfl, b5⟩
  · have hor : v ≤ -1000000000000000000 ∨ 1000000000000000000 ≤ v := by unfold Small18 at hv; omega
    have HV := Hid.of hv
    have HO := Hid.of hor
    have key : ∀ hs : v > 999999999999999999 ∨ (¬ v > 999999999999999999 ∧ v < -999999999999999999), Calls Tryd.prog 10 #[.int .i64 v] w fun e w' => e = .returned (.bool true) ∧ Below w.heap.size w w' := by
      clear h0 h1 hv hor
      intro hs
      rcases hs with d1 | ⟨d1, d2⟩
      all_goals
        go_enter Tryd.func10, Tryd.ntmps10
        go_wp2_with fail
        refine (Digits_str v H0.out H1.out _ htab).mono ?_
        rintro e w1 ⟨d, rfl, hd, g1⟩
        have b1 : Below w.heap.size w w1 := below_of_none g1
        have T1 := Hid.of (htab.out.below b1 (Nat.le_refl _))
        have E1 := Hid.of (he.out.below b1 hw2)
        have hds := itoa_size H0.out H1.out hd.out
        have hdl : decide (19 ≤ (d.size : Int)) = true := decide_eq_true (by have := itoa_long v HO.out; rw [← hd.out, byte_len] at this; omega)
        clear g1
        go_wp2_with fail
        refine (Number_is d (by omega) 0 1 (number_big v H0.out H1.out HV.out hd.out) _ T1 E1).mono ?_
        rintro e w2 ⟨rfl, c2⟩
        have b2 : Below w.heap.size w w2 := b1.trans (c2.mono b1.size)
        have T2 := Hid.of (htab.out.below b2 (Nat.le_refl _))
        clear c2 b1 T1 E1
        go_wp2_with fail
        refine (alive_any _ T2).mono ?_
        rintro e w5 ⟨rfl, c5⟩
        have b5 : Below w.heap.size w w5 := b2.trans (c5.mono b2.size)
        clear c5 b2 T2
        go_wp2
        go_ret
        exact ⟨rfl, b5⟩
    exact key (by omega)

theorem errRow (u : TypeId) (h : Tryd.prog.typeName? 3 u = some "*errors.errorString") : u = 111 := by
  have star : "*" ++ "errors.errorString" = "*errors.errorString" := by decide
  exact typeName_ptr_named (nm := "errors.errorString") (by rw [star]; kernel_rfl) (by kernel_rfl) (by decide) u (by rw [star]; exact h)

theorem errs_of_laid {w : World} {rest : List (String × DataW Unit)} (h : laidMet Tryd.prog (("strconv.ErrRange", Rows.laid_strconv_ErrRange) :: ("strconv.ErrSyntax", Rows.laid_strconv_ErrSyntax) :: rest) w) : Errs w := by
  obtain ⟨a, _, h1, _⟩ := laid_sentinel h rngNamed (ti := 61) (tp := 111) (te := 113) (ts := 9) (by kernel_rfl) Tryd.underlying61 errRow Tryd.underlying111 Tryd.underlying113 rfl rfl Tryd.underlying9 (by kernel_rfl) (by kernel_rfl)
  obtain ⟨b, _, h2, _⟩ := laid_sentinel h.tail synNamed (ti := 61) (tp := 111) (te := 113) (ts := 9) (by kernel_rfl) Tryd.underlying61 errRow Tryd.underlying111 Tryd.underlying113 rfl rfl Tryd.underlying9 (by kernel_rfl) (by kernel_rfl)
  exact ⟨⟨_, _, h2⟩, _, _, h1⟩

end Go.Proofs.YtdlljjbooajgiaaDoor
