/-
  A Book (package sedimentbook) that keeps lists of these kinds alone: Samples. Apart.
-/
import Derived.Test.YtfgfgdchaoekfaaGreatDoorBKq
import Derived.Test.YtfgfgdchaoekfaaGreatDoorKAHq
namespace Go.Proofs.YtfgfgdchaoekfaaGreatDoor
open Go.RowKit Go.Lib

/-- The Book's cells. -/
def bookA (Va Wa : Value) : Array Value := #[.slice none 0 0, .slice none 0 0, .slice none 0 0, .slice none 0 0, .slice none 0 0, .slice none 0 0, Va, Wa, .slice none 0 0, .slice none 0 0, .slice none 0 0, .slice none 0 0, .slice none 0 0, .slice none 0 0, .slice none 0 0, .slice none 0 0]

theorem bookA_nil (p : Nat) (T : TypeId) (w0 w : World) (h1 : w.heap[p]? = some (.cells (bookA (.slice none 0 0) (.slice none 0 0)) T (0, 0))) (h2 : Below p w0 w) : Here p (p + 1) (bookA (.slice none 0 0) (.slice none 0 0)) T w0 w (ablk (.slice none 0 0) (.slice none 0 0) [] ++ []) [] :=
  ⟨by omega, (Array.getElem?_eq_some_iff.1 h1).1, h1, h2, (ablk_nil _ _ _ _ (Bag.nil _ _))⟩

set_option maxRecDepth 100000 in
set_option maxHeartbeats 12800000 in
theorem Apart_A (p D : Nat) (Va Wa : Value) (la : List (Value × Value × List SamL)) (ex : List Row1) (T : TypeId) (w0 w : World) (hNa : la.length ≤ 250) (hna : ∀ y ∈ la, y.2.2.length ≤ 900000) (h : Here p D (bookA Va Wa) T w0 w (ablk Va Wa la ++ ex) []) :
    Calls Tryz.prog 17 #[.pointer (some ⟨p, 0, none⟩)] w fun e w' => e = .returned (.bool true) ∧ Below p w0 w' := by
  have H := Hid.of h
  have HNa := Hid.of hNa
  have HLa := Hid.of hna
  clear h hNa hna
  go_enter Tryz.func17, Tryz.ntmps17
  go_wp2_with fail
  refine (stillTexts_nil p _ (H.out.cell 0 _ rfl)).mono ?_
  rintro e w1 ⟨rfl, b1⟩
  have h1 := H.out.next b1
  clear H b1
  have H := Hid.of h1
  clear h1
  go_wp2_with fail
  refine (stillInts_nil p _ (H.out.cell 2 _ rfl)).mono ?_
  rintro e w2 ⟨rfl, b1⟩
  have h1 := H.out.next b1
  clear H b1
  have H := Hid.of h1
  clear h1
  go_wp2_with fail
  refine (stillRecords_nil p _ (H.out.cell 4 _ rfl)).mono ?_
  rintro e w3 ⟨rfl, b1⟩
  have h1 := H.out.next b1
  clear H b1
  have H := Hid.of h1
  clear h1
  go_wp2_with fail
  refine (ablk_still p D _ Va Wa la ex T w0 _ rfl rfl HNa.out HLa.out H.out).mono ?_
  rintro e w4 ⟨rfl, h1⟩
  clear H
  have H := Hid.of h1
  clear h1
  go_wp2_with fail
  refine (stillTiers_nil p _ (H.out.cell 8 _ rfl)).mono ?_
  rintro e w5 ⟨rfl, b1⟩
  have h1 := H.out.next b1
  clear H b1
  have H := Hid.of h1
  clear h1
  go_wp2_with fail
  refine (stillErrnos_nil p _ (H.out.cell 10 _ rfl)).mono ?_
  rintro e w6 ⟨rfl, b1⟩
  have h1 := H.out.next b1
  clear H b1
  have H := Hid.of h1
  clear h1
  go_wp2_with fail
  refine (stillWords_nil p _ (H.out.cell 12 _ rfl)).mono ?_
  rintro e w7 ⟨rfl, b1⟩
  have h1 := H.out.next b1
  clear H b1
  have H := Hid.of h1
  clear h1
  go_wp2_with fail
  refine (stillSteps_nil p _ (H.out.cell 14 _ rfl)).mono ?_
  rintro e w8 ⟨rfl, b1⟩
  have h1 := H.out.next b1
  clear H b1
  have H := Hid.of h1
  clear h1
  go_wp2_with fail
  refine (putSteps_nil p _ (H.out.cell 14 _ rfl)).mono ?_
  rintro e w9 ⟨rfl, b1⟩
  have h1 := H.out.next b1
  clear H b1
  have H := Hid.of h1
  clear h1
  go_wp2_with fail
  refine (putTexts_nil p _ (H.out.cell 0 _ rfl)).mono ?_
  rintro e w10 ⟨rfl, b1⟩
  have h1 := H.out.next b1
  clear H b1
  have H := Hid.of h1
  clear h1
  go_wp2_with fail
  refine (putInts_nil p _ (H.out.cell 2 _ rfl)).mono ?_
  rintro e w11 ⟨rfl, b1⟩
  have h1 := H.out.next b1
  clear H b1
  have H := Hid.of h1
  clear h1
  go_wp2_with fail
  refine (putRecords_nil p _ (H.out.cell 4 _ rfl)).mono ?_
  rintro e w12 ⟨rfl, b1⟩
  have h1 := H.out.next b1
  clear H b1
  have H := Hid.of h1
  clear h1
  go_wp2_with fail
  refine (ablk_put p D _ Va Wa la ex T w0 _ rfl HNa.out HLa.out H.out).mono ?_
  rintro e w13 ⟨rfl, h1⟩
  clear H
  have H := Hid.of h1
  clear h1
  go_wp2_with fail
  refine (putTiers_nil p _ (H.out.cell 8 _ rfl)).mono ?_
  rintro e w14 ⟨rfl, b1⟩
  have h1 := H.out.next b1
  clear H b1
  have H := Hid.of h1
  clear h1
  go_wp2_with fail
  refine (putErrnos_nil p _ (H.out.cell 10 _ rfl)).mono ?_
  rintro e w15 ⟨rfl, b1⟩
  have h1 := H.out.next b1
  clear H b1
  have H := Hid.of h1
  clear h1
  go_wp2_with fail
  refine (putWords_nil p _ (H.out.cell 12 _ rfl)).mono ?_
  rintro e w16 ⟨rfl, b1⟩
  have h1 := H.out.next b1
  clear H b1
  have H := Hid.of h1
  clear h1
  go_wp2_with fail
  refine (growTexts_nil p _ (H.out.cell 0 _ rfl)).mono ?_
  rintro e w17 ⟨rfl, b1⟩
  have h1 := H.out.next b1
  clear H b1
  have H := Hid.of h1
  clear h1
  go_wp2_with fail
  refine (growInts_nil p _ (H.out.cell 2 _ rfl)).mono ?_
  rintro e w18 ⟨rfl, b1⟩
  have h1 := H.out.next b1
  clear H b1
  have H := Hid.of h1
  clear h1
  go_wp2_with fail
  refine (growRecords_nil p _ (H.out.cell 4 _ rfl)).mono ?_
  rintro e w19 ⟨rfl, b1⟩
  have h1 := H.out.next b1
  clear H b1
  have H := Hid.of h1
  clear h1
  go_wp2_with fail
  refine (aput_grow p D _ Va Wa la ex [] T w0 _ rfl HNa.out HLa.out H.out).mono ?_
  rintro e w20 ⟨Ga, ga, qa, rfl, gr, h1⟩
  have GRa := Hid.of gr
  clear gr
  clear H
  have H := Hid.of h1
  clear h1
  go_wp2_with fail
  refine (growTiers_nil p _ (H.out.cell 8 _ rfl)).mono ?_
  rintro e w21 ⟨rfl, b1⟩
  have h1 := H.out.next b1
  clear H b1
  have H := Hid.of h1
  clear h1
  go_wp2_with fail
  refine (growErrnos_nil p _ (H.out.cell 10 _ rfl)).mono ?_
  rintro e w22 ⟨rfl, b1⟩
  have h1 := H.out.next b1
  clear H b1
  have H := Hid.of h1
  clear h1
  go_wp2_with fail
  refine (growWords_nil p _ (H.out.cell 12 _ rfl)).mono ?_
  rintro e w23 ⟨rfl, b1⟩
  have h1 := H.out.next b1
  clear H b1
  have H := Hid.of h1
  clear h1
  go_wp2_with fail
  refine (growSteps_nil p _ (H.out.cell 14 _ rfl)).mono ?_
  rintro e w24 ⟨rfl, b1⟩
  have h1 := H.out.next b1
  clear H b1
  have H := Hid.of h1
  clear h1
  go_wp2_with fail
  refine (markedTexts_nil _ _).mono ?_
  rintro e w25 ⟨rfl, b1⟩
  have h1 := H.out.next b1
  clear H b1
  have H := Hid.of h1
  clear h1
  have c26 : w25.cell? ⟨p, 0, none⟩ = some (.slice none 0 0) := H.out.cell 0 _ rfl
  go_wp2_with fail
  refine (markedTexts_nil _ _).mono ?_
  rintro e w26 ⟨rfl, b1⟩
  have h1 := H.out.next b1
  clear H b1
  have H := Hid.of h1
  clear h1
  clear c26
  go_wp2_with fail
  refine (markedInts_nil _ _).mono ?_
  rintro e w27 ⟨rfl, b1⟩
  have h1 := H.out.next b1
  clear H b1
  have H := Hid.of h1
  clear h1
  have c28 : w27.cell? ⟨p, 2, none⟩ = some (.slice none 0 0) := H.out.cell 2 _ rfl
  go_wp2_with fail
  refine (markedInts_nil _ _).mono ?_
  rintro e w28 ⟨rfl, b1⟩
  have h1 := H.out.next b1
  clear H b1
  have H := Hid.of h1
  clear h1
  clear c28
  go_wp2_with fail
  refine (markedRecords_nil _ _).mono ?_
  rintro e w29 ⟨rfl, b1⟩
  have h1 := H.out.next b1
  clear H b1
  have H := Hid.of h1
  clear h1
  have c30 : w29.cell? ⟨p, 4, none⟩ = some (.slice none 0 0) := H.out.cell 4 _ rfl
  go_wp2_with fail
  refine (markedRecords_nil _ _).mono ?_
  rintro e w30 ⟨rfl, b1⟩
  have h1 := H.out.next b1
  clear H b1
  have H := Hid.of h1
  clear h1
  clear c30
  go_wp2_with fail
  refine (anew_marked p D _ T w0 _ Ga la ga _ _ qa HNa.out HLa.out H.out (by simp) GRa.out).mono ?_
  rintro e w31 ⟨rfl, h1⟩
  clear H
  have H := Hid.of h1
  clear h1
  have c32 : w31.cell? ⟨p, 6, none⟩ = some Va := H.out.cell 6 _ rfl
  go_wp2_with fail
  refine (aold_marked p D _ T w0 _ Va la ga _ _ qa HNa.out HLa.out H.out (by simp [arest]) GRa.out).mono ?_
  rintro e w32 ⟨rfl, h1⟩
  clear H
  have H := Hid.of h1
  clear h1
  clear c32
  go_wp2_with fail
  refine (markedTiers_nil _ _).mono ?_
  rintro e w33 ⟨rfl, b1⟩
  have h1 := H.out.next b1
  clear H b1
  have H := Hid.of h1
  clear h1
  have c34 : w33.cell? ⟨p, 8, none⟩ = some (.slice none 0 0) := H.out.cell 8 _ rfl
  go_wp2_with fail
  refine (markedTiers_nil _ _).mono ?_
  rintro e w34 ⟨rfl, b1⟩
  have h1 := H.out.next b1
  clear H b1
  have H := Hid.of h1
  clear h1
  clear c34
  go_wp2_with fail
  refine (markedErrnos_nil _ _).mono ?_
  rintro e w35 ⟨rfl, b1⟩
  have h1 := H.out.next b1
  clear H b1
  have H := Hid.of h1
  clear h1
  have c36 : w35.cell? ⟨p, 10, none⟩ = some (.slice none 0 0) := H.out.cell 10 _ rfl
  go_wp2_with fail
  refine (markedErrnos_nil _ _).mono ?_
  rintro e w36 ⟨rfl, b1⟩
  have h1 := H.out.next b1
  clear H b1
  have H := Hid.of h1
  clear h1
  clear c36
  go_wp2_with fail
  refine (markedWords_nil _ _).mono ?_
  rintro e w37 ⟨rfl, b1⟩
  have h1 := H.out.next b1
  clear H b1
  have H := Hid.of h1
  clear h1
  have c38 : w37.cell? ⟨p, 12, none⟩ = some (.slice none 0 0) := H.out.cell 12 _ rfl
  go_wp2_with fail
  refine (markedWords_nil _ _).mono ?_
  rintro e w38 ⟨rfl, b1⟩
  have h1 := H.out.next b1
  clear H b1
  have H := Hid.of h1
  clear h1
  clear c38
  go_wp2_with fail
  refine (markedSteps_nil _ _).mono ?_
  rintro e w39 ⟨rfl, b1⟩
  have h1 := H.out.next b1
  clear H b1
  have H := Hid.of h1
  clear h1
  have c40 : w39.cell? ⟨p, 14, none⟩ = some (.slice none 0 0) := H.out.cell 14 _ rfl
  go_wp2_with fail
  refine (markedSteps_nil _ _).mono ?_
  rintro e w40 ⟨rfl, b1⟩
  have h1 := H.out.next b1
  clear H b1
  have H := Hid.of h1
  clear h1
  clear c40
  go_wp2
  go_ret
  exact ⟨rfl, H.out.fr⟩

end Go.Proofs.YtfgfgdchaoekfaaGreatDoor
