/-
  A Book (package sedimentbook) that keeps lists of these kinds alone: Ints, Tiers. Apart.
-/
import Derived.Test.YtfbgjoildibikaaBKq
import Derived.Test.YtfbgjoildibikaaKIHq
import Derived.Test.YtfbgjoildibikaaKPHq
namespace Go.Proofs.Ytfbgjoildibikaa
open Go.RowKit Go.Lib

/-- The Book's cells. -/
def bookIP (Vi Wi Vp Wp : Value) : Array Value := #[.slice none 0 0, .slice none 0 0, Vi, Wi, .slice none 0 0, .slice none 0 0, .slice none 0 0, .slice none 0 0, Vp, Wp, .slice none 0 0, .slice none 0 0, .slice none 0 0, .slice none 0 0, .slice none 0 0, .slice none 0 0]

theorem bookIP_nil (p : Nat) (T : TypeId) (w0 w : World) (h1 : w.heap[p]? = some (.cells (bookIP (.slice none 0 0) (.slice none 0 0) (.slice none 0 0) (.slice none 0 0)) T (0, 0))) (h2 : Below p w0 w) : Here p (p + 1) (bookIP (.slice none 0 0) (.slice none 0 0) (.slice none 0 0) (.slice none 0 0)) T w0 w (iblk (.slice none 0 0) (.slice none 0 0) [] ++ (pblk (.slice none 0 0) (.slice none 0 0) [] ++ [])) [] :=
  ⟨by omega, (Array.getElem?_eq_some_iff.1 h1).1, h1, h2, (iblk_nil _ _ _ _ (pblk_nil _ _ _ _ (Bag.nil _ _)))⟩

set_option maxRecDepth 100000 in
set_option maxHeartbeats 12800000 in
theorem Apart_IP (p D : Nat) (Vi Wi : Value) (li : List (Value × Value × List Int)) (Vp Wp : Value) (lp : List (Value × Value × List TierL)) (ex : List Row1) (T : TypeId) (w0 w : World) (hNi : li.length ≤ 250) (hni : ∀ y ∈ li, y.2.2.length ≤ 900000) (hNp : lp.length ≤ 250) (hnp : ∀ y ∈ lp, y.2.2.length ≤ 900000) (h : Here p D (bookIP Vi Wi Vp Wp) T w0 w (iblk Vi Wi li ++ (pblk Vp Wp lp ++ ex)) []) :
    Calls Try.prog 29 #[.pointer (some ⟨p, 0, none⟩)] w fun e w' => e = .returned (.bool true) ∧ Below p w0 w' := by
  have H := Hid.of h
  have HNi := Hid.of hNi
  have HLi := Hid.of hni
  have HNp := Hid.of hNp
  have HLp := Hid.of hnp
  clear h hNi hni hNp hnp
  go_enter Try.func29, Try.ntmps29
  go_wp2_with fail
  refine (stillTexts_nil p _ (H.out.cell 0 _ rfl)).mono ?_
  rintro e w1 ⟨rfl, b1⟩
  have h1 := H.out.next b1
  clear H b1
  have H := Hid.of h1
  clear h1
  go_wp2_with fail
  refine (iblk_still p D _ Vi Wi li (pblk Vp Wp lp ++ ex) T w0 _ rfl rfl HNi.out HLi.out H.out).mono ?_
  rintro e w2 ⟨rfl, h1⟩
  clear H
  have H := Hid.of h1
  clear h1
  go_wp2_with fail
  refine (stillRecords_nil p _ (H.out.cell 4 _ rfl)).mono ?_
  rintro e w3 ⟨rfl, b1⟩
  have h1 := H.out.next b1
  clear H b1
  have H := Hid.of h1
  clear h1
  go_wp2_with fail
  refine (stillSamples_nil p _ (H.out.cell 6 _ rfl)).mono ?_
  rintro e w4 ⟨rfl, b1⟩
  have h1 := H.out.next b1
  clear H b1
  have H := Hid.of h1
  clear h1
  have hp : Here p D (bookIP Vi Wi Vp Wp) T w0 w4 (pblk Vp Wp lp ++ (iblk Vi Wi li ++ ex)) [] := H.out.perm (by
    classical
    rw [List.perm_iff_count]
    intro a
    simp only [List.count_append]
    omega)
  clear H
  have H := Hid.of hp
  clear hp
  go_wp2_with fail
  refine (pblk_still p D _ Vp Wp lp (iblk Vi Wi li ++ ex) T w0 _ rfl rfl HNp.out HLp.out H.out).mono ?_
  rintro e w5 ⟨rfl, h1⟩
  clear H
  have H := Hid.of h1
  clear h1
  go_wp2_with fail
  refine (stillErrnos_nil p _ (H.out.cell 10 _ rfl)).mono ?_
  rintro e w6 ⟨rfl, b1⟩
  have h1 := H.out.next b1
  clear H b1
  have H := Hid.of h1
  clear h1
  go_wp2_with fail
  refine (stillWords_nil p _ (H.out.cell 12 _ rfl)).mono ?_
  rintro e w7 ⟨rfl, b1⟩
  have h1 := H.out.next b1
  clear H b1
  have H := Hid.of h1
  clear h1
  go_wp2_with fail
  refine (stillSteps_nil p _ (H.out.cell 14 _ rfl)).mono ?_
  rintro e w8 ⟨rfl, b1⟩
  have h1 := H.out.next b1
  clear H b1
  have H := Hid.of h1
  clear h1
  go_wp2_with fail
  refine (putSteps_nil p _ (H.out.cell 14 _ rfl)).mono ?_
  rintro e w9 ⟨rfl, b1⟩
  have h1 := H.out.next b1
  clear H b1
  have H := Hid.of h1
  clear h1
  go_wp2_with fail
  refine (putTexts_nil p _ (H.out.cell 0 _ rfl)).mono ?_
  rintro e w10 ⟨rfl, b1⟩
  have h1 := H.out.next b1
  clear H b1
  have H := Hid.of h1
  clear h1
  have hp : Here p D (bookIP Vi Wi Vp Wp) T w0 w10 (iblk Vi Wi li ++ (pblk Vp Wp lp ++ ex)) [] := H.out.perm (by
    classical
    rw [List.perm_iff_count]
    intro a
    simp only [List.count_append]
    omega)
  clear H
  have H := Hid.of hp
  clear hp
  go_wp2_with fail
  refine (iblk_put p D _ Vi Wi li (pblk Vp Wp lp ++ ex) T w0 _ rfl HNi.out HLi.out H.out).mono ?_
  rintro e w11 ⟨rfl, h1⟩
  clear H
  have H := Hid.of h1
  clear h1
  go_wp2_with fail
  refine (putRecords_nil p _ (H.out.cell 4 _ rfl)).mono ?_
  rintro e w12 ⟨rfl, b1⟩
  have h1 := H.out.next b1
  clear H b1
  have H := Hid.of h1
  clear h1
  go_wp2_with fail
  refine (putSamples_nil p _ (H.out.cell 6 _ rfl)).mono ?_
  rintro e w13 ⟨rfl, b1⟩
  have h1 := H.out.next b1
  clear H b1
  have H := Hid.of h1
  clear h1
  have hp : Here p D (bookIP Vi Wi Vp Wp) T w0 w13 (pblk Vp Wp lp ++ (iput Vi Wi li ++ ex)) [] := H.out.perm (by
    classical
    rw [List.perm_iff_count]
    intro a
    simp only [List.count_append]
    omega)
  clear H
  have H := Hid.of hp
  clear hp
  go_wp2_with fail
  refine (pblk_put p D _ Vp Wp lp (iput Vi Wi li ++ ex) T w0 _ rfl HNp.out HLp.out H.out).mono ?_
  rintro e w14 ⟨rfl, h1⟩
  clear H
  have H := Hid.of h1
  clear h1
  go_wp2_with fail
  refine (putErrnos_nil p _ (H.out.cell 10 _ rfl)).mono ?_
  rintro e w15 ⟨rfl, b1⟩
  have h1 := H.out.next b1
  clear H b1
  have H := Hid.of h1
  clear h1
  go_wp2_with fail
  refine (putWords_nil p _ (H.out.cell 12 _ rfl)).mono ?_
  rintro e w16 ⟨rfl, b1⟩
  have h1 := H.out.next b1
  clear H b1
  have H := Hid.of h1
  clear h1
  go_wp2_with fail
  refine (growTexts_nil p _ (H.out.cell 0 _ rfl)).mono ?_
  rintro e w17 ⟨rfl, b1⟩
  have h1 := H.out.next b1
  clear H b1
  have H := Hid.of h1
  clear h1
  have hp : Here p D (bookIP Vi Wi Vp Wp) T w0 w17 (iput Vi Wi li ++ (pput Vp Wp lp ++ ex)) [] := H.out.perm (by
    classical
    rw [List.perm_iff_count]
    intro a
    simp only [List.count_append]
    omega)
  clear H
  have H := Hid.of hp
  clear hp
  go_wp2_with fail
  refine (iput_grow p D _ Vi Wi li (pput Vp Wp lp ++ ex) [] T w0 _ rfl HNi.out HLi.out H.out).mono ?_
  rintro e w18 ⟨Gi, gi, qi, rfl, gr, h1⟩
  have GRi := Hid.of gr
  clear gr
  clear H
  have H := Hid.of h1
  clear h1
  go_wp2_with fail
  refine (growRecords_nil p _ (H.out.cell 4 _ rfl)).mono ?_
  rintro e w19 ⟨rfl, b1⟩
  have h1 := H.out.next b1
  clear H b1
  have H := Hid.of h1
  clear h1
  go_wp2_with fail
  refine (growSamples_nil p _ (H.out.cell 6 _ rfl)).mono ?_
  rintro e w20 ⟨rfl, b1⟩
  have h1 := H.out.next b1
  clear H b1
  have H := Hid.of h1
  clear h1
  have hp : Here p D (bookIP Vi Wi Vp Wp) T w0 w20 (pput Vp Wp lp ++ (⟨25, 1, Gi, (li.map ikept).length, gi⟩ :: (irest Vi Wi li ++ ex))) qi := H.out.perm (by
    classical
    rw [List.perm_iff_count]
    intro a
    simp only [List.count_append, List.count_cons]
    omega)
  clear H
  have H := Hid.of hp
  clear hp
  go_wp2_with fail
  refine (pput_grow p D _ Vp Wp lp (⟨25, 1, Gi, (li.map ikept).length, gi⟩ :: (irest Vi Wi li ++ ex)) qi T w0 _ rfl HNp.out HLp.out H.out).mono ?_
  rintro e w21 ⟨Gp, gp, qp, rfl, gr, h1⟩
  have ki := GRi.out.wider gr.old
  clear GRi
  have GRi := Hid.of ki
  clear ki
  have GRp := Hid.of gr
  clear gr
  clear H
  have H := Hid.of h1
  clear h1
  go_wp2_with fail
  refine (growErrnos_nil p _ (H.out.cell 10 _ rfl)).mono ?_
  rintro e w22 ⟨rfl, b1⟩
  have h1 := H.out.next b1
  clear H b1
  have H := Hid.of h1
  clear h1
  go_wp2_with fail
  refine (growWords_nil p _ (H.out.cell 12 _ rfl)).mono ?_
  rintro e w23 ⟨rfl, b1⟩
  have h1 := H.out.next b1
  clear H b1
  have H := Hid.of h1
  clear h1
  go_wp2_with fail
  refine (growSteps_nil p _ (H.out.cell 14 _ rfl)).mono ?_
  rintro e w24 ⟨rfl, b1⟩
  have h1 := H.out.next b1
  clear H b1
  have H := Hid.of h1
  clear h1
  go_wp2_with fail
  refine (markedTexts_nil _ _).mono ?_
  rintro e w25 ⟨rfl, b1⟩
  have h1 := H.out.next b1
  clear H b1
  have H := Hid.of h1
  clear h1
  have c26 : w25.cell? ⟨p, 0, none⟩ = some (.slice none 0 0) := H.out.cell 0 _ rfl
  go_wp2_with fail
  refine (markedTexts_nil _ _).mono ?_
  rintro e w26 ⟨rfl, b1⟩
  have h1 := H.out.next b1
  clear H b1
  have H := Hid.of h1
  clear h1
  clear c26
  go_wp2_with fail
  refine (inew_marked p D _ T w0 _ Gi li gi _ _ qp HNi.out HLi.out H.out (by simp) GRi.out).mono ?_
  rintro e w27 ⟨rfl, h1⟩
  clear H
  have H := Hid.of h1
  clear h1
  have c28 : w27.cell? ⟨p, 2, none⟩ = some Vi := H.out.cell 2 _ rfl
  go_wp2_with fail
  refine (iold_marked p D _ T w0 _ Vi li gi _ _ qp HNi.out HLi.out H.out (by simp [irest]) GRi.out).mono ?_
  rintro e w28 ⟨rfl, h1⟩
  clear H
  have H := Hid.of h1
  clear h1
  clear c28
  go_wp2_with fail
  refine (markedRecords_nil _ _).mono ?_
  rintro e w29 ⟨rfl, b1⟩
  have h1 := H.out.next b1
  clear H b1
  have H := Hid.of h1
  clear h1
  have c30 : w29.cell? ⟨p, 4, none⟩ = some (.slice none 0 0) := H.out.cell 4 _ rfl
  go_wp2_with fail
  refine (markedRecords_nil _ _).mono ?_
  rintro e w30 ⟨rfl, b1⟩
  have h1 := H.out.next b1
  clear H b1
  have H := Hid.of h1
  clear h1
  clear c30
  go_wp2_with fail
  refine (markedSamples_nil _ _).mono ?_
  rintro e w31 ⟨rfl, b1⟩
  have h1 := H.out.next b1
  clear H b1
  have H := Hid.of h1
  clear h1
  have c32 : w31.cell? ⟨p, 6, none⟩ = some (.slice none 0 0) := H.out.cell 6 _ rfl
  go_wp2_with fail
  refine (markedSamples_nil _ _).mono ?_
  rintro e w32 ⟨rfl, b1⟩
  have h1 := H.out.next b1
  clear H b1
  have H := Hid.of h1
  clear h1
  clear c32
  go_wp2_with fail
  refine (pnew_marked p D _ T w0 _ Gp lp gp _ _ qp HNp.out HLp.out H.out (by simp) GRp.out).mono ?_
  rintro e w33 ⟨rfl, h1⟩
  clear H
  have H := Hid.of h1
  clear h1
  have c34 : w33.cell? ⟨p, 8, none⟩ = some Vp := H.out.cell 8 _ rfl
  go_wp2_with fail
  refine (pold_marked p D _ T w0 _ Vp lp gp _ _ qp HNp.out HLp.out H.out (by simp [prest]) GRp.out).mono ?_
  rintro e w34 ⟨rfl, h1⟩
  clear H
  have H := Hid.of h1
  clear h1
  clear c34
  go_wp2_with fail
  refine (markedErrnos_nil _ _).mono ?_
  rintro e w35 ⟨rfl, b1⟩
  have h1 := H.out.next b1
  clear H b1
  have H := Hid.of h1
  clear h1
  have c36 : w35.cell? ⟨p, 10, none⟩ = some (.slice none 0 0) := H.out.cell 10 _ rfl
  go_wp2_with fail
  refine (markedErrnos_nil _ _).mono ?_
  rintro e w36 ⟨rfl, b1⟩
  have h1 := H.out.next b1
  clear H b1
  have H := Hid.of h1
  clear h1
  clear c36
  go_wp2_with fail
  refine (markedWords_nil _ _).mono ?_
  rintro e w37 ⟨rfl, b1⟩
  have h1 := H.out.next b1
  clear H b1
  have H := Hid.of h1
  clear h1
  have c38 : w37.cell? ⟨p, 12, none⟩ = some (.slice none 0 0) := H.out.cell 12 _ rfl
  go_wp2_with fail
  refine (markedWords_nil _ _).mono ?_
  rintro e w38 ⟨rfl, b1⟩
  have h1 := H.out.next b1
  clear H b1
  have H := Hid.of h1
  clear h1
  clear c38
  go_wp2_with fail
  refine (markedSteps_nil _ _).mono ?_
  rintro e w39 ⟨rfl, b1⟩
  have h1 := H.out.next b1
  clear H b1
  have H := Hid.of h1
  clear h1
  have c40 : w39.cell? ⟨p, 14, none⟩ = some (.slice none 0 0) := H.out.cell 14 _ rfl
  go_wp2_with fail
  refine (markedSteps_nil _ _).mono ?_
  rintro e w40 ⟨rfl, b1⟩
  have h1 := H.out.next b1
  clear H b1
  have H := Hid.of h1
  clear h1
  clear c40
  go_wp2
  go_ret
  exact ⟨rfl, H.out.fr⟩

end Go.Proofs.Ytfbgjoildibikaa
