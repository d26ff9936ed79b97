/-
  What statement GridTells answers: true, for every input.
-/
import Derived.Test.YtjmnffcmgigodaaGX
import Derived.Test.YtjmnffcmgigodaaGA
import Derived.Test.YtjmnffcmgigodaaBKT
namespace Go.Proofs.Ytjmnffcmgigodaa
open Go.RowKit Go.Lib

/-- Starts and the document's own answer alike. -/
theorem Starts_two (a b e m : Int) (m9 : m ≤ 300) (ha : I64 a) (hb : I64 b) (he : I64 e) : ∃ (ss : List Int) (ok : Bool), ss.length ≤ 300 ∧
    (∀ w, Calls Try.prog 9 #[.int .i64 a, .int .i64 b, .int .i64 e, .int .i64 m] w fun x w' => ∃ v, x = .returned (.tuple #[v, .bool ok]) ∧ w'.ownsRow w.heap.size 3 1 v ss.length (ss.map (Value.int .i64)) ∧ Below w.heap.size w w') ∧
    (∀ w, Calls Try.prog 10 #[.int .i64 a, .int .i64 b, .int .i64 e, .int .i64 m] w fun x w' => ∃ v, x = .returned (.tuple #[v, .bool ok]) ∧ w'.ownsRow w.heap.size 3 1 v ss.length (ss.map (Value.int .i64)) ∧ Below w.heap.size w w') := by
  by_cases h : e < 1 ∨ m < 0
  · refine ⟨[], false, by simp, fun w => (Starts_bad a b e m h w).mono ?_, fun w => (refStarts_bad a b e m h w).mono ?_⟩
    all_goals
      rintro x w' ⟨rfl, q, rfl⟩
      exact ⟨_, rfl, World.ownsRow_nil _ _ _ 1, below_drewN (Below.refl _ _) q⟩
  · have h1 : ¬ e < 1 := fun c => h (.inl c)
    have h2 : ¬ m < 0 := fun c => h (.inr c)
    obtain ⟨n, hn⟩ : ∃ n : Nat, gCount a (gCeil a e) b e = (n : Int) := ⟨(gCount a (gCeil a e) b e).toNat, by have := gCount_nonneg (from_ := a) (first := gCeil a e) (to := b) (e := e) (by omega); omega⟩
    by_cases hm : m < (n : Int)
    · refine ⟨[], false, by simp, fun w => (Starts_more a b e m h1 h2 (by omega) ha hb he (by omega) w).mono ?_, fun w => ?_⟩
      · rintro x w' ⟨rfl, q, rfl⟩
        exact ⟨_, rfl, World.ownsRow_nil _ _ _ 1, below_drewN (Below.refl _ _) q⟩
      · obtain ⟨k, rfl⟩ : ∃ k : Nat, m = (k : Int) := ⟨m.toNat, by omega⟩
        refine (refStarts_more a b e k n h1 (by omega) ha hb he _ rfl hn (by omega) w).mono ?_
        rintro x w' ⟨rfl, b1⟩
        exact ⟨_, rfl, World.ownsRow_nil _ _ _ 1, b1⟩
    · have hl := gRow_length (gCeil a e) e n
      refine ⟨gRow (gCeil a e) e n, true, by omega, fun w => ?_, fun w => ?_⟩
      · rw [hl]
        exact Starts_main a b e m n h1 h2 (by omega) ha hb he _ rfl hn hm w
      · rw [hl]
        exact refStarts_main a b e m n h1 h2 (by omega) ha hb he _ rfl hn hm w

theorem refFloor_named {t e r : Int} (hr : gFloor t e = r) (ht : I64 t) (he : I64 e) (w : World) : Calls Try.prog 15 #[.int .i64 t, .int .i64 e] w fun x w' => x = .returned (.int .i64 r) ∧ ∃ q, w' = w.drewN q := by
  rw [← hr]; exact refFloor_any t e ht he w

theorem refCeil_named {t e r : Int} (hr : gCeil t e = r) (ht : I64 t) (he : I64 e) (w : World) : Calls Try.prog 17 #[.int .i64 t, .int .i64 e] w fun x w' => x = .returned (.int .i64 r) ∧ ∃ q, w' = w.drewN q := by
  rw [← hr]; exact refCeil_any t e ht he w

theorem refBack_named {n k e r : Int} (hr : gBack n k e = r) (hn : I64 n) (hk : I64 k) (he : I64 e) (w : World) : Calls Try.prog 22 #[.int .i64 n, .int .i64 k, .int .i64 e] w fun x w' => x = .returned (.int .i64 r) ∧ ∃ q, w' = w.drewN q := by
  rw [← hr]; exact refBack_any n k e hn hk he w

theorem refOn_named {t e : Int} {r : Bool} (hr : gOn t e = r) (w : World) : Calls Try.prog 19 #[.int .i64 t, .int .i64 e] w fun x w' => x = .returned (.bool r) ∧ ∃ q, w' = w.drewN q := by
  rw [← hr]; exact refOn_any t e w

set_option maxRecDepth 20000 in
set_option maxHeartbeats 6400000 in
theorem tells_main (a b e most m : Int) (hm : (if 300 < most then 300 else most) = m) (ha : I64 a) (hb : I64 b) (he : I64 e) (w : World) :
    Calls Try.prog 3 #[.int .i64 a, .int .i64 b, .int .i64 e, .int .i64 most] w fun e w' => e = .returned (.bool true) ∧ Below w.heap.size w w' := by
  obtain ⟨ss, ok, hl, hs, hr⟩ := Starts_two a b e m (by rw [← hm]; split <;> omega) ha hb he
  have HS := Hid.of hs
  have HR := Hid.of hr
  have HL := Hid.of hl
  have HA := Hid.of ha
  have HB := Hid.of hb
  have HE := Hid.of he
  clear hs hr hl ha hb he
  by_cases g : 300 < most
  · rw [if_pos g] at hm
    subst hm
    cases ok
    all_goals
      go_enter Try.func3, Try.ntmps3
      go_wp2
      go_loopw [10] (fun k wr => ∃ (j : Nat) (V W : Value) (ls : List (Value × Value × List Int)), j ≤ 2 ∧ k = .int .i64 j ∧ Hid (ls.length = j) ∧ Hid (∀ x ∈ ls, x.2.2.length ≤ 900000) ∧ Hid (Here w.heap.size (w.heap.size + 1) (bookI V W) 32 w wr (bookRows V W ls []) [])) (fun k _ => 2 - (RowKit.intOf k).toNat)
      case atStart => exact ⟨0, _, _, [], by omega, rfl, Hid.of rfl, Hid.of (fun x hx => absurd hx List.not_mem_nil), Hid.of (bookRows_nil w.heap.size _ w _ (heap_alloc_new w _) ((Below.refl _ _).alloc (Nat.le_refl _) _))⟩
      case round =>
        obtain ⟨j, V, W, ls, hj, rfl, HLL, HLS, H⟩ := hrel
        by_cases hlt : j < 2
        · have j1 : (j : Int) < 2 := by omega
          have HJ := Hid.of hlt
          clear hj hlt
          go_wp2_with fail
          refine (HS.out _).mono ?_
          rintro x n1 ⟨v, rfl, o1, c1⟩
          obtain ⟨va, vc, hve, _⟩ := own_one o1
          subst hve
          have H1 := Hid.of (H.out.more c1 o1)
          clear o1 c1
          go_wp2_with fail
          refine (HR.out _).mono ?_
          rintro x n2 ⟨u, rfl, o2, c2⟩
          obtain ⟨ua, uc, hue, _⟩ := own_one o2
          subst hue
          have H2 := Hid.of (((H1.out.more c2 o2).perm (List.Perm.swap _ _ _)).perm ((bookRows_perm _ _ _ _ _).cons _))
          clear o2 c2
          go_wp2_with fail
          refine (bookI_add w.heap.size _ V W _ ls ss _ _ w _ (by have := HLL.out; have := HJ.out; omega) (by have := HL.out; omega) H2.out).mono ?_
          rintro x n3 ⟨rfl, V2, W2, uu, h3⟩
          have H3 := Hid.of h3
          clear h3
          go_wp2_with fail
          refine (SameInts_quiet _ _ ss _ (bookI_last H3.out) (bookI_beside H3.out) (by have := HL.out; omega)).mono ?_
          rintro x n4 ⟨rfl, q, rfl⟩
          go_wp2
          go_roundw
          case rel =>
            refine ⟨j + 1, V2, W2, _, by have := HJ.out; omega, by go_num, Hid.of (by have := HLL.out; simp; omega), Hid.of (fun x hx => ?_), Hid.of ((bookRows_bare H3.out).drewN q)⟩
            rcases List.mem_append.1 hx with hx | hx
            · exact HLS.out x hx
            · rw [List.mem_singleton.1 hx]
              have := HL.out
              simp only
              omega
          case measure => have := HJ.out; simp [RowKit.intOf]; omega
        · have hj2 : j = 2 := by omega
          subst hj2
          clear hj hlt
          have key : e < 1 ∧ gOn a e = false ∨ ((¬ e < 1 ∧ ¬ e = 0) ∧ a.tmod e = 0 ∧ gOn a e = true) ∨ ((¬ e < 1 ∧ ¬ e = 0) ∧ ∃ r, a.tmod e = r ∧ ¬ r = 0 ∧ gOn a e = false) := by
            by_cases h1 : e < 1
            · exact .inl ⟨h1, by unfold gOn; rw [decide_eq_false (by omega), Bool.false_and]⟩
            · by_cases h2 : a.tmod e = 0
              · exact .inr (.inl ⟨⟨h1, by omega⟩, h2, by unfold gOn; rw [decide_eq_true (by omega), decide_eq_true h2]; rfl⟩)
              · exact .inr (.inr ⟨⟨h1, by omega⟩, _, rfl, h2, by unfold gOn; rw [decide_eq_true (by omega), decide_eq_false h2]; rfl⟩)
          rcases key with ⟨h1, ho⟩ | ⟨⟨h1, h2⟩, h3, ho⟩ | ⟨⟨h1, h2⟩, r, h3, h4, ho⟩
          all_goals
            have HO := Hid.of ho
            clear ho
            go_wp2_with fail
            refine (gridAlive_any _).mono ?_
            rintro x m1 ⟨rfl, b1⟩
            have HH := Hid.of (H.out.next b1)
            clear b1
            go_wp2_with fail
            refine (Floor_any a e HA.out HE.out _).mono ?_
            rintro x m2 ⟨rfl, q1, rfl⟩
            go_wp2_with fail
            refine (refFloor_any a e HA.out HE.out _).mono ?_
            rintro x m2 ⟨rfl, q2, rfl⟩
            generalize gFloor a e = y1
            go_wp2_with fail
            refine (Ceil_any a e HA.out HE.out _).mono ?_
            rintro x m2 ⟨rfl, q3, rfl⟩
            go_wp2_with fail
            refine (refCeil_any a e HA.out HE.out _).mono ?_
            rintro x m2 ⟨rfl, q4, rfl⟩
            generalize gCeil a e = y2
            go_wp2_with fail
            refine (On_named HO.out _).mono ?_
            rintro x m2 ⟨rfl, q5, rfl⟩
            go_wp2_with fail
            refine (refOn_named HO.out _).mono ?_
            rintro x m2 ⟨rfl, q6, rfl⟩
            go_wp2_with fail
            refine (Divides_named HO.out _).mono ?_
            rintro x m2 ⟨rfl, q7, rfl⟩
            go_wp2_with fail
            refine (Back_any a b e HA.out HB.out HE.out _).mono ?_
            rintro x m2 ⟨rfl, q8, rfl⟩
            go_wp2_with fail
            refine (refBack_any a b e HA.out HB.out HE.out _).mono ?_
            rintro x m2 ⟨rfl, q9, rfl⟩
            generalize gBack a b e = y3
            go_wp2_with fail
            refine (Apart_ints w.heap.size _ V W ls [] _ w _ (by have := HLL.out; omega) HLS.out (HH.out.drewN _)).mono ?_
            rintro x m3 ⟨rfl, b3⟩
            go_wp2
            go_ret
            exact ⟨by first | rfl | (simp; omega), b3⟩
  · rw [if_neg g] at hm
    subst hm
    cases ok
    all_goals
      go_enter Try.func3, Try.ntmps3
      go_wp2
      go_loopw [10] (fun k wr => ∃ (j : Nat) (V W : Value) (ls : List (Value × Value × List Int)), j ≤ 2 ∧ k = .int .i64 j ∧ Hid (ls.length = j) ∧ Hid (∀ x ∈ ls, x.2.2.length ≤ 900000) ∧ Hid (Here w.heap.size (w.heap.size + 1) (bookI V W) 32 w wr (bookRows V W ls []) [])) (fun k _ => 2 - (RowKit.intOf k).toNat)
      case atStart => exact ⟨0, _, _, [], by omega, rfl, Hid.of rfl, Hid.of (fun x hx => absurd hx List.not_mem_nil), Hid.of (bookRows_nil w.heap.size _ w _ (heap_alloc_new w _) ((Below.refl _ _).alloc (Nat.le_refl _) _))⟩
      case round =>
        obtain ⟨j, V, W, ls, hj, rfl, HLL, HLS, H⟩ := hrel
        by_cases hlt : j < 2
        · have j1 : (j : Int) < 2 := by omega
          have HJ := Hid.of hlt
          clear hj hlt
          go_wp2_with fail
          refine (HS.out _).mono ?_
          rintro x n1 ⟨v, rfl, o1, c1⟩
          obtain ⟨va, vc, hve, _⟩ := own_one o1
          subst hve
          have H1 := Hid.of (H.out.more c1 o1)
          clear o1 c1
          go_wp2_with fail
          refine (HR.out _).mono ?_
          rintro x n2 ⟨u, rfl, o2, c2⟩
          obtain ⟨ua, uc, hue, _⟩ := own_one o2
          subst hue
          have H2 := Hid.of (((H1.out.more c2 o2).perm (List.Perm.swap _ _ _)).perm ((bookRows_perm _ _ _ _ _).cons _))
          clear o2 c2
          go_wp2_with fail
          refine (bookI_add w.heap.size _ V W _ ls ss _ _ w _ (by have := HLL.out; have := HJ.out; omega) (by have := HL.out; omega) H2.out).mono ?_
          rintro x n3 ⟨rfl, V2, W2, uu, h3⟩
          have H3 := Hid.of h3
          clear h3
          go_wp2_with fail
          refine (SameInts_quiet _ _ ss _ (bookI_last H3.out) (bookI_beside H3.out) (by have := HL.out; omega)).mono ?_
          rintro x n4 ⟨rfl, q, rfl⟩
          go_wp2
          go_roundw
          case rel =>
            refine ⟨j + 1, V2, W2, _, by have := HJ.out; omega, by go_num, Hid.of (by have := HLL.out; simp; omega), Hid.of (fun x hx => ?_), Hid.of ((bookRows_bare H3.out).drewN q)⟩
            rcases List.mem_append.1 hx with hx | hx
            · exact HLS.out x hx
            · rw [List.mem_singleton.1 hx]
              have := HL.out
              simp only
              omega
          case measure => have := HJ.out; simp [RowKit.intOf]; omega
        · have hj2 : j = 2 := by omega
          subst hj2
          clear hj hlt
          have key : e < 1 ∧ gOn a e = false ∨ ((¬ e < 1 ∧ ¬ e = 0) ∧ a.tmod e = 0 ∧ gOn a e = true) ∨ ((¬ e < 1 ∧ ¬ e = 0) ∧ ∃ r, a.tmod e = r ∧ ¬ r = 0 ∧ gOn a e = false) := by
            by_cases h1 : e < 1
            · exact .inl ⟨h1, by unfold gOn; rw [decide_eq_false (by omega), Bool.false_and]⟩
            · by_cases h2 : a.tmod e = 0
              · exact .inr (.inl ⟨⟨h1, by omega⟩, h2, by unfold gOn; rw [decide_eq_true (by omega), decide_eq_true h2]; rfl⟩)
              · exact .inr (.inr ⟨⟨h1, by omega⟩, _, rfl, h2, by unfold gOn; rw [decide_eq_true (by omega), decide_eq_false h2]; rfl⟩)
          rcases key with ⟨h1, ho⟩ | ⟨⟨h1, h2⟩, h3, ho⟩ | ⟨⟨h1, h2⟩, r, h3, h4, ho⟩
          all_goals
            have HO := Hid.of ho
            clear ho
            go_wp2_with fail
            refine (gridAlive_any _).mono ?_
            rintro x m1 ⟨rfl, b1⟩
            have HH := Hid.of (H.out.next b1)
            clear b1
            go_wp2_with fail
            refine (Floor_any a e HA.out HE.out _).mono ?_
            rintro x m2 ⟨rfl, q1, rfl⟩
            go_wp2_with fail
            refine (refFloor_any a e HA.out HE.out _).mono ?_
            rintro x m2 ⟨rfl, q2, rfl⟩
            generalize gFloor a e = y1
            go_wp2_with fail
            refine (Ceil_any a e HA.out HE.out _).mono ?_
            rintro x m2 ⟨rfl, q3, rfl⟩
            go_wp2_with fail
            refine (refCeil_any a e HA.out HE.out _).mono ?_
            rintro x m2 ⟨rfl, q4, rfl⟩
            generalize gCeil a e = y2
            go_wp2_with fail
            refine (On_named HO.out _).mono ?_
            rintro x m2 ⟨rfl, q5, rfl⟩
            go_wp2_with fail
            refine (refOn_named HO.out _).mono ?_
            rintro x m2 ⟨rfl, q6, rfl⟩
            go_wp2_with fail
            refine (Divides_named HO.out _).mono ?_
            rintro x m2 ⟨rfl, q7, rfl⟩
            go_wp2_with fail
            refine (Back_any a b e HA.out HB.out HE.out _).mono ?_
            rintro x m2 ⟨rfl, q8, rfl⟩
            go_wp2_with fail
            refine (refBack_any a b e HA.out HB.out HE.out _).mono ?_
            rintro x m2 ⟨rfl, q9, rfl⟩
            generalize gBack a b e = y3
            go_wp2_with fail
            refine (Apart_ints w.heap.size _ V W ls [] _ w _ (by have := HLL.out; omega) HLS.out (HH.out.drewN _)).mono ?_
            rintro x m3 ⟨rfl, b3⟩
            go_wp2
            go_ret
            exact ⟨by first | rfl | (simp; omega), b3⟩

theorem tells_any (a b e most : Int) (ha : I64 a) (hb : I64 b) (he : I64 e) (w : World) :
    Calls Try.prog 3 #[.int .i64 a, .int .i64 b, .int .i64 e, .int .i64 most] w fun e w' => e = .returned (.bool true) ∧ Below w.heap.size w w' :=
  tells_main a b e most _ rfl ha hb he w

end Go.Proofs.Ytjmnffcmgigodaa
