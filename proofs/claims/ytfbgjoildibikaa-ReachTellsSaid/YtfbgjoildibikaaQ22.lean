/-
  A bundle of texts: RFL RRF RRG.
-/
import Derived.Deep.CutBlock
import Derived.Deep.DeepCutAuto
import Derived.Deep.QuietTactic
import Derived.BigQuiet
import Derived.Test.YtfbgjoildibikaaQ21
import Derived.Test.YtfbgjoildibikaaQ13
import Derived.Test.YtfbgjoildibikaaQ06
import Derived.Test.YtfbgjoildibikaaQ05
/-
  ReachFloors: a floor holds up its own tier alone, and never lets it reach farther.
-/
namespace Go.Proofs.Ytfbgjoildibikaa
open Go.RowKit Go.Lib

theorem floors_max {now : Int} {p : PolL} {fl : List Int} {i : Nat} (h : i < p.2.length) : rFromN (now, p, fl) i = max (rFromN (now, p, []) i) (fl.getD i 0) := by
  unfold rFromN
  obtain ⟨t, ht⟩ : ∃ t, p.2[i]? = some t := ⟨_, List.getElem?_eq_getElem h⟩
  have h0 := gBack_nonneg now t.2.2.1 (rEvery p.2 i)
  simp only [ht, List.getD_eq_getElem?_getD, List.getElem?_nil]
  cases hf : fl[i]? with
  | none =>
    simp only [Option.getD_none]
    omega
  | some f => rfl

theorem from_out (r : RchL) : rFrom r (-1) = 0 ∧ rFrom r (r.2.1.2.length : Int) = 0 := by
  refine ⟨rfl, ?_⟩
  rw [rFrom_nat]
  unfold rFromN
  rw [List.getElem?_eq_none (Nat.le_refl _)]

/-- A policy, and two Reaches of it, one without floors, in variables; and floors that came in. -/
structure FH (S : ReachSpec) (w0 : World) (b4 b9 b10 : Nat) (n : ByteArray) (sl g : Value) (now : Int) (s f s' f' : Value) (p : PolL) (fl : List Int) (w : World) : Prop where
  h1 : RH S w0 b9 now n s f (now, p, []) w
  h2 : RH S w0 b10 now n s' f' (now, p, fl) w
  k : PBlk w b4 n sl
  g : CellRow w g fl.length (fl.map (Value.int .i64))

section
variable {S : ReachSpec} {w0 w w' : World} {b4 b9 b10 : Nat} {n : ByteArray} {sl g s f s' f' : Value} {now : Int} {p : PolL} {fl : List Int}
theorem FH.next (h : FH S w0 b4 b9 b10 n sl g now s f s' f' p fl w) (c : Below w.heap.size w w') : FH S w0 b4 b9 b10 n sl g now s f s' f' p fl w' :=
  ⟨h.h1.next c, h.h2.next c, h.k.kept c, h.g.kept c⟩
theorem FH.at (h : FH S w0 b4 b9 b10 n sl g now s f s' f' p fl w) : w.cell? ⟨b4, 0, none⟩ = some (.string n) ∧ w.cell? ⟨b4, 1, none⟩ = some sl ∧ w.cell? ⟨b9, 0, none⟩ = some (.int .i64 now) ∧ w.cell? ⟨b9, 1, none⟩ = some (.string n) ∧ w.cell? ⟨b9, 2, none⟩ = some s ∧ w.cell? ⟨b9, 3, none⟩ = some f ∧ w.cell? ⟨b10, 0, none⟩ = some (.int .i64 now) ∧ w.cell? ⟨b10, 1, none⟩ = some (.string n) ∧ w.cell? ⟨b10, 2, none⟩ = some s' ∧ w.cell? ⟨b10, 3, none⟩ = some f' :=
  ⟨h.k.at.1, h.k.at.2, h.h1.at.1, h.h1.at.2.1, h.h1.at.2.2.1, h.h1.at.2.2.2, h.h2.at⟩
end

set_option maxRecDepth 100000 in
set_option maxHeartbeats 3200000 in
theorem reachFloors_main (S : ReachSpec) (v g : Value) (p : PolL) (now tier : Int) (fl : List Int) (w : World) (hS : S.Ok w) (hv : PolRow w v p) (hp : ∀ x ∈ p.2, TIn x) (hnow : In64 now) (hg : NumRow .i64 w g fl) (hgk : CapOk g) (hfl : ∀ x ∈ fl, In64 x) :
    Calls Try.prog 7 #[v, .int .i64 now, g, .int .i64 tier] w fun e w' => e = .returned (.bool true) ∧ Below w.heap.size w w' := by
  obtain ⟨sl, rfl, hsl, hsk⟩ := hv
  have HSL := Hid.of hsl
  obtain ⟨sa, sc, rfl, -⟩ := hsl
  have HG := Hid.of (NumRow.cells' hg)
  obtain ⟨ga, gc, rfl, -⟩ := hg
  obtain ⟨n, hn⟩ : ∃ n, p.1 = n := ⟨_, rfl⟩
  obtain ⟨N, hN⟩ : ∃ N, p.2.length = N := ⟨_, rfl⟩
  obtain ⟨M, hM⟩ : ∃ M, fl.length = M := ⟨_, rfl⟩
  rw [hn, hN, hM]
  rw [hN] at HSL
  have HGK : Hid (CapOk (.slice ga M gc)) := Hid.of (by rw [← hM]; exact hgk)
  clear hgk
  have HSK : Hid (CapOk (.slice sa N sc)) := Hid.of (by rw [← hN]; exact hsk)
  clear hsk
  obtain ⟨w1, hw1⟩ : ∃ w1, w.alloc (.cells #[.string n, .slice sa N sc] 24) = w1 := ⟨_, rfl⟩
  have b1 : Below w.heap.size w w1 := by rw [← hw1]; exact (Below.refl _ _).alloc (Nat.le_refl _) _
  have K1 : Hid (PBlk w1 w.heap.size n (.slice sa N sc)) := Hid.of (by rw [← hw1]; exact PBlk.made w _ _)
  have R1 : Hid (PolRow w1 (polVal n (.slice sa N sc)) p) := Hid.of ⟨_, by rw [hn], by rw [hN]; exact HSL.out.kept b1, HSK.out⟩
  have G1 := Hid.of (HG.out.kept b1)
  have O1 := Hid.of (S.kept hS b1)
  have HW := Hid.of hw1
  have B1 := Hid.of b1
  have HN := Hid.of hN
  have HM := Hid.of hM
  have Hn := Hid.of hn
  have HP := Hid.of hp
  have HNW := Hid.of hnow
  have HFL := Hid.of hfl
  clear hw1 b1 hN hM hn hS hp HSL HG hnow hfl
  go_enter Try.func7, Try.ntmps7
  go_wp2_with fail
  rw [HW.out]
  clear HW
  refine (Small_any _ p _ R1.out).mono ?_
  rintro e w2 ⟨r, rfl, hr, b2⟩
  have K2 := Hid.of (K1.out.kept b2)
  have R2 := Hid.of (R1.out.kept b2)
  have G2 := Hid.of (G1.out.kept b2)
  have B2 := Hid.of (B1.out.trans (b2.mono B1.out.size))
  have O2 := Hid.of (S.kept O1.out b2)
  clear b2 K1 R1 B1 O1 G1
  cases r with
  | false =>
    go_wp2_with fail
    refine (reachAlive_any S _ O2.out).mono ?_
    rintro e w3 ⟨rfl, b3⟩
    go_wp2
    go_ret
    exact ⟨rfl, B2.out.trans (b3.mono B2.out.size)⟩
  | true =>
    by_cases hm : 10 < M
    · have hm1 : (10 : Int) < (M : Int) := by omega
      go_wp2_with fail
      refine (reachAlive_any S _ O2.out).mono ?_
      rintro e w3 ⟨rfl, b3⟩
      go_wp2
      go_ret
      exact ⟨rfl, B2.out.trans (b3.mono B2.out.size)⟩
    · have hm1 : ¬ (10 : Int) < (M : Int) := by omega
      have SP := Hid.of (fit_of HP.out (hr.out rfl))
      have N10 : Hid (N ≤ 10) := Hid.of (by rw [← HN.out]; exact (hr.out rfl).1)
      have F1 : Hid (RFit (now, p, [])) := Hid.of ⟨HNW.out, SP.out, Nat.zero_le _, fun _ h => by cases h⟩
      have F2 : Hid (RFit (now, p, fl)) := Hid.of ⟨HNW.out, SP.out, by show fl.length ≤ _; rw [HM.out]; omega, HFL.out⟩
      clear hr hm
      obtain ⟨d0, d1⟩ := K2.out.at
      go_wp2_with fail
      refine (S.of _ _ p now [] _ O2.out F1.out R2.out ⟨_, _, rfl, .inl rfl⟩ (Nat.le_refl _)).mono ?_
      rintro e w3 ⟨u, rfl, ou, b3⟩
      have X3 := Hid.of (OwnRch.row ou)
      obtain ⟨s, f', rfl, o1, o2, -⟩ := ou
      obtain ⟨sa2, sc2, rfl, -⟩ := own_one o1
      obtain ⟨fa2, fc2, rfl, -⟩ := own_one o2
      clear o1 o2
      have e3 : rVal (now, p, []) (.slice sa2 ((now, p, []) : RchL).2.1.2.length sc2) (.slice fa2 ((now, p, []) : RchL).2.2.length fc2) = .agg #[.int .i64 now, .string n, .slice sa2 N sc2, .slice fa2 0 fc2] := by rw [← Hn.out, ← HN.out]; rfl
      have B3 := Hid.of (B2.out.trans (b3.mono B2.out.size))
      have O3 := Hid.of (S.kept O2.out b3)
      have bb : Below w3.heap.size w3 (w3.alloc (.cells #[.int .i64 now, .string n, .slice sa2 N sc2, .slice fa2 0 fc2] 46)) := (Below.refl _ _).alloc (Nat.le_refl _) _
      have H4 : Hid (RH S w w3.heap.size now n (.slice sa2 N sc2) (.slice fa2 0 fc2) (now, p, []) (w3.alloc (.cells #[.int .i64 now, .string n, .slice sa2 N sc2, .slice fa2 0 fc2] 46))) := Hid.of (by
        have h := RH.made (f := .slice fa2 0 fc2) (s := .slice sa2 p.2.length sc2) O3.out B3.out X3.out (rfl : ((now, p, []) : RchL).1 = now) Hn.out
        rw [HN.out] at h
        exact h)
      have K4 := Hid.of ((K2.out.kept b3).kept bb)
      have R4 := Hid.of ((R2.out.kept b3).kept bb)
      have G4 := Hid.of ((G2.out.kept b3).kept bb)
      clear bb b3 K2 R2 G2 B3 O3 X3 B2 O2 d0 d1
      rw [e3]
      clear e3
      obtain ⟨d0, d1⟩ := K4.out.at
      go_wp2_with fail
      refine (S.of _ _ p now fl _ H4.out.ok F2.out R4.out (by rw [HM.out]; rw [HM.out] at G4; exact G4.out) HGK.out).mono ?_
      rintro e w5 ⟨u, rfl, ou, b5⟩
      have X5 := Hid.of (OwnRch.row ou)
      obtain ⟨s, f, rfl, o1, o2, -⟩ := ou
      obtain ⟨sa3, sc3, rfl, -⟩ := own_one o1
      obtain ⟨fa3, fc3, rfl, -⟩ := own_one o2
      clear o1 o2
      have e5 : rVal (now, p, fl) (.slice sa3 ((now, p, fl) : RchL).2.1.2.length sc3) (.slice fa3 ((now, p, fl) : RchL).2.2.length fc3) = .agg #[.int .i64 now, .string n, .slice sa3 N sc3, .slice fa3 M fc3] := by rw [← Hn.out, ← HN.out, ← HM.out]; rfl
      have H5 := Hid.of (H4.out.next b5)
      obtain ⟨w6, hw6⟩ : ∃ w6, w5.alloc (.cells #[.int .i64 now, .string n, .slice sa3 N sc3, .slice fa3 M fc3] 46) = w6 := ⟨_, rfl⟩
      have H6 : Hid (FH S w w.heap.size w3.heap.size w5.heap.size n (.slice sa N sc) (.slice ga M gc) now (.slice sa2 N sc2) (.slice fa2 0 fc2) (.slice sa3 N sc3) (.slice fa3 M fc3) p fl w6) := Hid.of (by
        have h := RH.made (f := .slice fa3 fl.length fc3) (s := .slice sa3 p.2.length sc3) H5.out.ok H5.out.fr X5.out (rfl : ((now, p, fl) : RchL).1 = now) Hn.out
        rw [HN.out, HM.out, hw6] at h
        have b6 : Below w5.heap.size w5 w6 := by rw [← hw6]; exact (Below.refl _ _).alloc (Nat.le_refl _) _
        have g6 := (G4.out.kept b5).kept b6
        rw [HM.out] at g6
        exact ⟨H5.out.next b6, h, (K4.out.kept b5).kept b6, by rw [HM.out]; exact g6⟩)
      have HW6 := Hid.of hw6
      clear hw6 H5 X5 b5 K4 R4 G4 H4 d0 d1
      rw [e5]
      clear e5
      go_upto_region 5 with fail
      rw [HW6.out]
      clear HW6
      generalize w5.heap.size = b10 at *
      generalize w3.heap.size = b9 at *
      go_wp2_with fail
      go_loopw [8, 11, 12] (fun _ iv _ wr => ∃ j : Nat, j ≤ N ∧ iv = .int .i64 j ∧ Hid (FH S w w.heap.size b9 b10 n (.slice sa N sc) (.slice ga M gc) now (.slice sa2 N sc2) (.slice fa2 0 fc2) (.slice sa3 N sc3) (.slice fa3 M fc3) p fl wr)) (fun _ iv _ _ => N - (RowKit.intOf iv).toNat)
      case atStart => exact ⟨0, Nat.zero_le _, rfl, H6⟩
      case round =>
        clear H6
        obtain ⟨j, hj, rfl, H⟩ := hrel
        obtain ⟨c0, c1, c2, c3, c4, c5, c6, c7, c8, c9⟩ := H.out.at
        have j0 : (0 : Int) ≤ (j : Int) := Int.natCast_nonneg _
        have j9 : (j : Int) ≤ 10 := by have := N10.out; omega
        by_cases hlt : j < N
        · have hlt1 : (j : Int) < (N : Int) := by omega
          obtain ⟨a, ha⟩ : ∃ a, rFromN (now, p, []) j = a := ⟨_, rfl⟩
          obtain ⟨f, hf⟩ : ∃ f, fl.getD j 0 = f := ⟨_, rfl⟩
          have hmx := floors_max (now := now) (fl := fl) (i := j) (by rw [HN.out]; exact hlt)
          rw [ha, hf] at hmx
          have HA := Hid.of ha
          have HX := Hid.of hmx
          have row := H.out.g
          rw [HM.out] at row
          have key : (a ≤ f ∧ max a f = f) ∨ (f < a ∧ max a f = a) := by omega
          by_cases hjM : j < M
          · have hj1 : (j : Int) < (M : Int) := by omega
            obtain ⟨gb, go, rfl, hgl, hgc⟩ := int_at row j (by rw [HM.out]; exact hjM) HM.out.symm
            rw [hf] at hgc
            have HF := Hid.of hf
            clear hf ha hmx row hjM hgl hj
            rcases key with ⟨k1, k2⟩ | ⟨k1, k2⟩
            · rw [k2] at HX
              clear k2
              go_upto_region 11 with fail
              refine wp_region_noPanic ?_
              refine wp_region_held_drew (S := fun w' => w'.cell? ⟨w.heap.size, 0, none⟩ = some (.string n) ∧ w'.cell? ⟨w.heap.size, 1, none⟩ = some (.slice sa N sc) ∧ w'.cell? ⟨b9, 0, none⟩ = some (.int .i64 now) ∧ w'.cell? ⟨b9, 1, none⟩ = some (.string n) ∧ w'.cell? ⟨b9, 2, none⟩ = some (.slice sa2 N sc2) ∧ w'.cell? ⟨b9, 3, none⟩ = some (.slice fa2 0 fc2) ∧ w'.cell? ⟨b10, 0, none⟩ = some (.int .i64 now) ∧ w'.cell? ⟨b10, 1, none⟩ = some (.string n) ∧ w'.cell? ⟨b10, 2, none⟩ = some (.slice sa3 N sc3) ∧ w'.cell? ⟨b10, 3, none⟩ = some (.slice fa3 M fc3)) (by kernel_rfl) ?_ (fun hHeld => ?_)
              · exact ⟨c0, c1, c2, c3, c4, c5, c6, c7, c8, c9⟩
              refine wpAnyH_take (i := 0) (oi := ⟨_, _, _, _, _, _⟩) (v := ?_) rfl (by kernel_rfl) (by kernel_rfl) (by kernel_rfl) (fun _ _ _ h => h) (Or.inl ⟨by rfl, ?_⟩) hHeld ?_
              rotate_left
              · intro w' hSw
                try dsimp only at hSw
                go_simp
                all_goals with_reducible rfl
              simp only [Act.put, List.setIfInBounds_toArray, List.set_cons_zero, List.set_cons_succ]
              refine wpAnyH_take (i := 1) (oi := ⟨_, _, _, _, _, _⟩) (v := ?_) rfl (by kernel_rfl) (by kernel_rfl) (by kernel_rfl) (fun _ _ _ h => h) (Or.inl ⟨by rfl, ?_⟩) hHeld ?_
              rotate_left
              · intro w' hSw
                try dsimp only at hSw
                go_simp
                all_goals with_reducible rfl
              simp only [Act.put, List.setIfInBounds_toArray, List.set_cons_zero, List.set_cons_succ]
              refine wpAnyH_take (i := 3) (oi := ⟨_, _, _, _, _, _⟩) (v := ?_) rfl (by kernel_rfl) (by kernel_rfl) (by kernel_rfl) (fun _ _ _ h => h) (Or.inl ⟨by rfl, ?_⟩) hHeld ?_
              rotate_left
              · intro w' hSw
                try dsimp only at hSw
                go_simp
                all_goals with_reducible rfl
              simp only [Act.put, List.setIfInBounds_toArray, List.set_cons_zero, List.set_cons_succ]
              refine wpAnyH_take (i := 4) (oi := ⟨_, _, _, _, _, _⟩) (v := ?_) rfl (by kernel_rfl) (by kernel_rfl) (by kernel_rfl) (fun _ _ _ h => h) (Or.inl ⟨by rfl, ?_⟩) hHeld ?_
              rotate_left
              · intro w' hSw
                try dsimp only at hSw
                go_simp
                all_goals with_reducible rfl
              simp only [Act.put, List.setIfInBounds_toArray, List.set_cons_zero, List.set_cons_succ]
              refine wpAnyH_take (i := 6) (oi := ⟨_, _, _, _, _, _⟩) (v := ?_) rfl (by kernel_rfl) (by kernel_rfl) (by kernel_rfl) (fun _ _ _ h => h) (Or.inl ⟨by rfl, ?_⟩) hHeld ?_
              rotate_left
              · intro w' hSw
                try dsimp only at hSw
                go_simp
                all_goals with_reducible rfl
              simp only [Act.put, List.setIfInBounds_toArray, List.set_cons_zero, List.set_cons_succ]
              refine wpAnyH_ready (rs := [2]) (by kernel_rfl) (by simp) ?_
              refine AllReadyH.cons (o := ⟨_, _, _, _, _, _⟩) rfl (fun K hK => ?_) AllReadyH.nil
              go_simp
              refine (S.from_ _ (now, p, fl) j _ (H.out.next (Below.refl _ _).drew).h2.ok F2.out (by unfold In64; omega) (H.out.next (Below.refl _ _).drew).h2.x).mono ?_
              rintro e w7 ⟨rfl, b8⟩
              have H7 := Hid.of (H.out.next ((Below.refl _ _).drew.trans b8))
              clear b8 c0 c1 c2 c3 c4 c5 c6 c7 c8 c9 hHeld
              obtain ⟨c0, c1, c2, c3, c4, c5, c6, c7, c8, c9⟩ := H7.out.at
              refine hK.out _ _ ⟨c0, c1, c2, c3, c4, c5, c6, c7, c8, c9⟩ (fun hHeld => ?_)
              clear hK K
              rw [rFrom_nat, HX.out]
              refine wpAnyH_ready (rs := [5]) (by kernel_rfl) (by simp) ?_
              refine AllReadyH.cons (o := ⟨_, _, _, _, _, _⟩) rfl (fun K hK => ?_) AllReadyH.nil
              go_simp
              refine (S.from_ _ (now, p, []) j _ H7.out.h1.ok F1.out (by unfold In64; omega) H7.out.h1.x).mono ?_
              rintro e w8 ⟨rfl, b8⟩
              have H8 := Hid.of (H7.out.next b8)
              clear b8 c0 c1 c2 c3 c4 c5 c6 c7 c8 c9 hHeld
              obtain ⟨c0, c1, c2, c3, c4, c5, c6, c7, c8, c9⟩ := H8.out.at
              refine hK.out _ _ ⟨c0, c1, c2, c3, c4, c5, c6, c7, c8, c9⟩ (fun hHeld => ?_)
              clear hK K
              rw [rFrom_nat, HA.out]
              refine wpAnyH_take (i := 7) (oi := ⟨_, _, _, _, _, _⟩) (v := ?_) rfl (by kernel_rfl) (by kernel_rfl) (by kernel_rfl) (fun _ _ _ h => h) (Or.inl ⟨by rfl, ?_⟩) hHeld ?_
              rotate_left
              · intro w' hSw
                try dsimp only at hSw
                go_simp
                all_goals with_reducible rfl
              simp only [Act.put, List.setIfInBounds_toArray, List.set_cons_zero, List.set_cons_succ]
              refine wpAnyH_take (i := 8) (oi := ⟨_, _, _, _, _, _⟩) (v := ?_) rfl (by kernel_rfl) (by kernel_rfl) (by kernel_rfl) (fun _ _ _ h => h) (Or.inl ⟨by rfl, ?_⟩) hHeld ?_
              rotate_left
              · intro w' hSw
                try dsimp only at hSw
                go_simp
                all_goals with_reducible rfl
              simp only [Act.put, List.setIfInBounds_toArray, List.set_cons_zero, List.set_cons_succ]
              refine wpAnyH_done (by kernel_rfl) ?_ _
              refine NoPanic.normal ?_
              go_wp2
              go_roundw
              case rel => exact ⟨j + 1, by omega, by go_num, H8⟩
              case measure => simp [RowKit.intOf]; omega
            · rw [k2] at HX
              clear k2
              go_upto_region 11 with fail
              refine wp_region_noPanic ?_
              refine wp_region_held_drew (S := fun w' => w'.cell? ⟨w.heap.size, 0, none⟩ = some (.string n) ∧ w'.cell? ⟨w.heap.size, 1, none⟩ = some (.slice sa N sc) ∧ w'.cell? ⟨b9, 0, none⟩ = some (.int .i64 now) ∧ w'.cell? ⟨b9, 1, none⟩ = some (.string n) ∧ w'.cell? ⟨b9, 2, none⟩ = some (.slice sa2 N sc2) ∧ w'.cell? ⟨b9, 3, none⟩ = some (.slice fa2 0 fc2) ∧ w'.cell? ⟨b10, 0, none⟩ = some (.int .i64 now) ∧ w'.cell? ⟨b10, 1, none⟩ = some (.string n) ∧ w'.cell? ⟨b10, 2, none⟩ = some (.slice sa3 N sc3) ∧ w'.cell? ⟨b10, 3, none⟩ = some (.slice fa3 M fc3)) (by kernel_rfl) ?_ (fun hHeld => ?_)
              · exact ⟨c0, c1, c2, c3, c4, c5, c6, c7, c8, c9⟩
              refine wpAnyH_take (i := 0) (oi := ⟨_, _, _, _, _, _⟩) (v := ?_) rfl (by kernel_rfl) (by kernel_rfl) (by kernel_rfl) (fun _ _ _ h => h) (Or.inl ⟨by rfl, ?_⟩) hHeld ?_
              rotate_left
              · intro w' hSw
                try dsimp only at hSw
                go_simp
                all_goals with_reducible rfl
              simp only [Act.put, List.setIfInBounds_toArray, List.set_cons_zero, List.set_cons_succ]
              refine wpAnyH_take (i := 1) (oi := ⟨_, _, _, _, _, _⟩) (v := ?_) rfl (by kernel_rfl) (by kernel_rfl) (by kernel_rfl) (fun _ _ _ h => h) (Or.inl ⟨by rfl, ?_⟩) hHeld ?_
              rotate_left
              · intro w' hSw
                try dsimp only at hSw
                go_simp
                all_goals with_reducible rfl
              simp only [Act.put, List.setIfInBounds_toArray, List.set_cons_zero, List.set_cons_succ]
              refine wpAnyH_take (i := 3) (oi := ⟨_, _, _, _, _, _⟩) (v := ?_) rfl (by kernel_rfl) (by kernel_rfl) (by kernel_rfl) (fun _ _ _ h => h) (Or.inl ⟨by rfl, ?_⟩) hHeld ?_
              rotate_left
              · intro w' hSw
                try dsimp only at hSw
                go_simp
                all_goals with_reducible rfl
              simp only [Act.put, List.setIfInBounds_toArray, List.set_cons_zero, List.set_cons_succ]
              refine wpAnyH_take (i := 4) (oi := ⟨_, _, _, _, _, _⟩) (v := ?_) rfl (by kernel_rfl) (by kernel_rfl) (by kernel_rfl) (fun _ _ _ h => h) (Or.inl ⟨by rfl, ?_⟩) hHeld ?_
              rotate_left
              · intro w' hSw
                try dsimp only at hSw
                go_simp
                all_goals with_reducible rfl
              simp only [Act.put, List.setIfInBounds_toArray, List.set_cons_zero, List.set_cons_succ]
              refine wpAnyH_take (i := 6) (oi := ⟨_, _, _, _, _, _⟩) (v := ?_) rfl (by kernel_rfl) (by kernel_rfl) (by kernel_rfl) (fun _ _ _ h => h) (Or.inl ⟨by rfl, ?_⟩) hHeld ?_
              rotate_left
              · intro w' hSw
                try dsimp only at hSw
                go_simp
                all_goals with_reducible rfl
              simp only [Act.put, List.setIfInBounds_toArray, List.set_cons_zero, List.set_cons_succ]
              refine wpAnyH_ready (rs := [2]) (by kernel_rfl) (by simp) ?_
              refine AllReadyH.cons (o := ⟨_, _, _, _, _, _⟩) rfl (fun K hK => ?_) AllReadyH.nil
              go_simp
              refine (S.from_ _ (now, p, fl) j _ (H.out.next (Below.refl _ _).drew).h2.ok F2.out (by unfold In64; omega) (H.out.next (Below.refl _ _).drew).h2.x).mono ?_
              rintro e w7 ⟨rfl, b8⟩
              have H7 := Hid.of (H.out.next ((Below.refl _ _).drew.trans b8))
              clear b8 c0 c1 c2 c3 c4 c5 c6 c7 c8 c9 hHeld
              obtain ⟨c0, c1, c2, c3, c4, c5, c6, c7, c8, c9⟩ := H7.out.at
              refine hK.out _ _ ⟨c0, c1, c2, c3, c4, c5, c6, c7, c8, c9⟩ (fun hHeld => ?_)
              clear hK K
              rw [rFrom_nat, HX.out]
              refine wpAnyH_ready (rs := [5]) (by kernel_rfl) (by simp) ?_
              refine AllReadyH.cons (o := ⟨_, _, _, _, _, _⟩) rfl (fun K hK => ?_) AllReadyH.nil
              go_simp
              refine (S.from_ _ (now, p, []) j _ H7.out.h1.ok F1.out (by unfold In64; omega) H7.out.h1.x).mono ?_
              rintro e w8 ⟨rfl, b8⟩
              have H8 := Hid.of (H7.out.next b8)
              clear b8 c0 c1 c2 c3 c4 c5 c6 c7 c8 c9 hHeld
              obtain ⟨c0, c1, c2, c3, c4, c5, c6, c7, c8, c9⟩ := H8.out.at
              refine hK.out _ _ ⟨c0, c1, c2, c3, c4, c5, c6, c7, c8, c9⟩ (fun hHeld => ?_)
              clear hK K
              rw [rFrom_nat, HA.out]
              refine wpAnyH_take (i := 7) (oi := ⟨_, _, _, _, _, _⟩) (v := ?_) rfl (by kernel_rfl) (by kernel_rfl) (by kernel_rfl) (fun _ _ _ h => h) (Or.inl ⟨by rfl, ?_⟩) hHeld ?_
              rotate_left
              · intro w' hSw
                try dsimp only at hSw
                go_simp
                all_goals with_reducible rfl
              simp only [Act.put, List.setIfInBounds_toArray, List.set_cons_zero, List.set_cons_succ]
              refine wpAnyH_take (i := 8) (oi := ⟨_, _, _, _, _, _⟩) (v := ?_) rfl (by kernel_rfl) (by kernel_rfl) (by kernel_rfl) (fun _ _ _ h => h) (Or.inl ⟨by rfl, ?_⟩) hHeld ?_
              rotate_left
              · intro w' hSw
                try dsimp only at hSw
                go_simp
                all_goals with_reducible rfl
              simp only [Act.put, List.setIfInBounds_toArray, List.set_cons_zero, List.set_cons_succ]
              refine wpAnyH_done (by kernel_rfl) ?_ _
              refine NoPanic.normal ?_
              go_wp2
              go_roundw
              case rel => exact ⟨j + 1, by omega, by go_num, H8⟩
              case measure => simp [RowKit.intOf]; omega
          · have hj1 : ¬ (j : Int) < (M : Int) := by omega
            have f0 : f = 0 := by
              rw [← hf, List.getD_eq_getElem?_getD, List.getElem?_eq_none (by rw [HM.out]; omega)]
              rfl
            subst f0
            clear hf ha hmx row hjM hj
            rcases key with ⟨k1, k2⟩ | ⟨k1, k2⟩
            · rw [k2] at HX
              clear k2
              go_upto_region 11 with fail
              refine wp_region_noPanic ?_
              refine wp_region_held_drew (S := fun w' => w'.cell? ⟨w.heap.size, 0, none⟩ = some (.string n) ∧ w'.cell? ⟨w.heap.size, 1, none⟩ = some (.slice sa N sc) ∧ w'.cell? ⟨b9, 0, none⟩ = some (.int .i64 now) ∧ w'.cell? ⟨b9, 1, none⟩ = some (.string n) ∧ w'.cell? ⟨b9, 2, none⟩ = some (.slice sa2 N sc2) ∧ w'.cell? ⟨b9, 3, none⟩ = some (.slice fa2 0 fc2) ∧ w'.cell? ⟨b10, 0, none⟩ = some (.int .i64 now) ∧ w'.cell? ⟨b10, 1, none⟩ = some (.string n) ∧ w'.cell? ⟨b10, 2, none⟩ = some (.slice sa3 N sc3) ∧ w'.cell? ⟨b10, 3, none⟩ = some (.slice fa3 M fc3)) (by kernel_rfl) ?_ (fun hHeld => ?_)
              · exact ⟨c0, c1, c2, c3, c4, c5, c6, c7, c8, c9⟩
              refine wpAnyH_take (i := 0) (oi := ⟨_, _, _, _, _, _⟩) (v := ?_) rfl (by kernel_rfl) (by kernel_rfl) (by kernel_rfl) (fun _ _ _ h => h) (Or.inl ⟨by rfl, ?_⟩) hHeld ?_
              rotate_left
              · intro w' hSw
                try dsimp only at hSw
                go_simp
                all_goals with_reducible rfl
              simp only [Act.put, List.setIfInBounds_toArray, List.set_cons_zero, List.set_cons_succ]
              refine wpAnyH_take (i := 1) (oi := ⟨_, _, _, _, _, _⟩) (v := ?_) rfl (by kernel_rfl) (by kernel_rfl) (by kernel_rfl) (fun _ _ _ h => h) (Or.inl ⟨by rfl, ?_⟩) hHeld ?_
              rotate_left
              · intro w' hSw
                try dsimp only at hSw
                go_simp
                all_goals with_reducible rfl
              simp only [Act.put, List.setIfInBounds_toArray, List.set_cons_zero, List.set_cons_succ]
              refine wpAnyH_take (i := 3) (oi := ⟨_, _, _, _, _, _⟩) (v := ?_) rfl (by kernel_rfl) (by kernel_rfl) (by kernel_rfl) (fun _ _ _ h => h) (Or.inl ⟨by rfl, ?_⟩) hHeld ?_
              rotate_left
              · intro w' hSw
                try dsimp only at hSw
                go_simp
                all_goals with_reducible rfl
              simp only [Act.put, List.setIfInBounds_toArray, List.set_cons_zero, List.set_cons_succ]
              refine wpAnyH_take (i := 4) (oi := ⟨_, _, _, _, _, _⟩) (v := ?_) rfl (by kernel_rfl) (by kernel_rfl) (by kernel_rfl) (fun _ _ _ h => h) (Or.inl ⟨by rfl, ?_⟩) hHeld ?_
              rotate_left
              · intro w' hSw
                try dsimp only at hSw
                go_simp
                all_goals with_reducible rfl
              simp only [Act.put, List.setIfInBounds_toArray, List.set_cons_zero, List.set_cons_succ]
              refine wpAnyH_take (i := 6) (oi := ⟨_, _, _, _, _, _⟩) (v := ?_) rfl (by kernel_rfl) (by kernel_rfl) (by kernel_rfl) (fun _ _ _ h => h) (Or.inl ⟨by rfl, ?_⟩) hHeld ?_
              rotate_left
              · intro w' hSw
                try dsimp only at hSw
                go_simp
                all_goals with_reducible rfl
              simp only [Act.put, List.setIfInBounds_toArray, List.set_cons_zero, List.set_cons_succ]
              refine wpAnyH_ready (rs := [2]) (by kernel_rfl) (by simp) ?_
              refine AllReadyH.cons (o := ⟨_, _, _, _, _, _⟩) rfl (fun K hK => ?_) AllReadyH.nil
              go_simp
              refine (S.from_ _ (now, p, fl) j _ (H.out.next (Below.refl _ _).drew).h2.ok F2.out (by unfold In64; omega) (H.out.next (Below.refl _ _).drew).h2.x).mono ?_
              rintro e w7 ⟨rfl, b8⟩
              have H7 := Hid.of (H.out.next ((Below.refl _ _).drew.trans b8))
              clear b8 c0 c1 c2 c3 c4 c5 c6 c7 c8 c9 hHeld
              obtain ⟨c0, c1, c2, c3, c4, c5, c6, c7, c8, c9⟩ := H7.out.at
              refine hK.out _ _ ⟨c0, c1, c2, c3, c4, c5, c6, c7, c8, c9⟩ (fun hHeld => ?_)
              clear hK K
              rw [rFrom_nat, HX.out]
              refine wpAnyH_ready (rs := [5]) (by kernel_rfl) (by simp) ?_
              refine AllReadyH.cons (o := ⟨_, _, _, _, _, _⟩) rfl (fun K hK => ?_) AllReadyH.nil
              go_simp
              refine (S.from_ _ (now, p, []) j _ H7.out.h1.ok F1.out (by unfold In64; omega) H7.out.h1.x).mono ?_
              rintro e w8 ⟨rfl, b8⟩
              have H8 := Hid.of (H7.out.next b8)
              clear b8 c0 c1 c2 c3 c4 c5 c6 c7 c8 c9 hHeld
              obtain ⟨c0, c1, c2, c3, c4, c5, c6, c7, c8, c9⟩ := H8.out.at
              refine hK.out _ _ ⟨c0, c1, c2, c3, c4, c5, c6, c7, c8, c9⟩ (fun hHeld => ?_)
              clear hK K
              rw [rFrom_nat, HA.out]
              refine wpAnyH_take (i := 7) (oi := ⟨_, _, _, _, _, _⟩) (v := ?_) rfl (by kernel_rfl) (by kernel_rfl) (by kernel_rfl) (fun _ _ _ h => h) (Or.inl ⟨by rfl, ?_⟩) hHeld ?_
              rotate_left
              · intro w' hSw
                try dsimp only at hSw
                go_simp
                all_goals with_reducible rfl
              simp only [Act.put, List.setIfInBounds_toArray, List.set_cons_zero, List.set_cons_succ]
              refine wpAnyH_take (i := 8) (oi := ⟨_, _, _, _, _, _⟩) (v := ?_) rfl (by kernel_rfl) (by kernel_rfl) (by kernel_rfl) (fun _ _ _ h => h) (Or.inl ⟨by rfl, ?_⟩) hHeld ?_
              rotate_left
              · intro w' hSw
                try dsimp only at hSw
                go_simp
                all_goals with_reducible rfl
              simp only [Act.put, List.setIfInBounds_toArray, List.set_cons_zero, List.set_cons_succ]
              refine wpAnyH_done (by kernel_rfl) ?_ _
              refine NoPanic.normal ?_
              go_wp2
              go_roundw
              case rel => exact ⟨j + 1, by omega, by go_num, H8⟩
              case measure => simp [RowKit.intOf]; omega
            · rw [k2] at HX
              clear k2
              go_upto_region 11 with fail
              refine wp_region_noPanic ?_
              refine wp_region_held_drew (S := fun w' => w'.cell? ⟨w.heap.size, 0, none⟩ = some (.string n) ∧ w'.cell? ⟨w.heap.size, 1, none⟩ = some (.slice sa N sc) ∧ w'.cell? ⟨b9, 0, none⟩ = some (.int .i64 now) ∧ w'.cell? ⟨b9, 1, none⟩ = some (.string n) ∧ w'.cell? ⟨b9, 2, none⟩ = some (.slice sa2 N sc2) ∧ w'.cell? ⟨b9, 3, none⟩ = some (.slice fa2 0 fc2) ∧ w'.cell? ⟨b10, 0, none⟩ = some (.int .i64 now) ∧ w'.cell? ⟨b10, 1, none⟩ = some (.string n) ∧ w'.cell? ⟨b10, 2, none⟩ = some (.slice sa3 N sc3) ∧ w'.cell? ⟨b10, 3, none⟩ = some (.slice fa3 M fc3)) (by kernel_rfl) ?_ (fun hHeld => ?_)
              · exact ⟨c0, c1, c2, c3, c4, c5, c6, c7, c8, c9⟩
              refine wpAnyH_take (i := 0) (oi := ⟨_, _, _, _, _, _⟩) (v := ?_) rfl (by kernel_rfl) (by kernel_rfl) (by kernel_rfl) (fun _ _ _ h => h) (Or.inl ⟨by rfl, ?_⟩) hHeld ?_
              rotate_left
              · intro w' hSw
                try dsimp only at hSw
                go_simp
                all_goals with_reducible rfl
              simp only [Act.put, List.setIfInBounds_toArray, List.set_cons_zero, List.set_cons_succ]
              refine wpAnyH_take (i := 1) (oi := ⟨_, _, _, _, _, _⟩) (v := ?_) rfl (by kernel_rfl) (by kernel_rfl) (by kernel_rfl) (fun _ _ _ h => h) (Or.inl ⟨by rfl, ?_⟩) hHeld ?_
              rotate_left
              · intro w' hSw
                try dsimp only at hSw
                go_simp
                all_goals with_reducible rfl
              simp only [Act.put, List.setIfInBounds_toArray, List.set_cons_zero, List.set_cons_succ]
              refine wpAnyH_take (i := 3) (oi := ⟨_, _, _, _, _, _⟩) (v := ?_) rfl (by kernel_rfl) (by kernel_rfl) (by kernel_rfl) (fun _ _ _ h => h) (Or.inl ⟨by rfl, ?_⟩) hHeld ?_
              rotate_left
              · intro w' hSw
                try dsimp only at hSw
                go_simp
                all_goals with_reducible rfl
              simp only [Act.put, List.setIfInBounds_toArray, List.set_cons_zero, List.set_cons_succ]
              refine wpAnyH_take (i := 4) (oi := ⟨_, _, _, _, _, _⟩) (v := ?_) rfl (by kernel_rfl) (by kernel_rfl) (by kernel_rfl) (fun _ _ _ h => h) (Or.inl ⟨by rfl, ?_⟩) hHeld ?_
              rotate_left
              · intro w' hSw
                try dsimp only at hSw
                go_simp
                all_goals with_reducible rfl
              simp only [Act.put, List.setIfInBounds_toArray, List.set_cons_zero, List.set_cons_succ]
              refine wpAnyH_take (i := 6) (oi := ⟨_, _, _, _, _, _⟩) (v := ?_) rfl (by kernel_rfl) (by kernel_rfl) (by kernel_rfl) (fun _ _ _ h => h) (Or.inl ⟨by rfl, ?_⟩) hHeld ?_
              rotate_left
              · intro w' hSw
                try dsimp only at hSw
                go_simp
                all_goals with_reducible rfl
              simp only [Act.put, List.setIfInBounds_toArray, List.set_cons_zero, List.set_cons_succ]
              refine wpAnyH_ready (rs := [2]) (by kernel_rfl) (by simp) ?_
              refine AllReadyH.cons (o := ⟨_, _, _, _, _, _⟩) rfl (fun K hK => ?_) AllReadyH.nil
              go_simp
              refine (S.from_ _ (now, p, fl) j _ (H.out.next (Below.refl _ _).drew).h2.ok F2.out (by unfold In64; omega) (H.out.next (Below.refl _ _).drew).h2.x).mono ?_
              rintro e w7 ⟨rfl, b8⟩
              have H7 := Hid.of (H.out.next ((Below.refl _ _).drew.trans b8))
              clear b8 c0 c1 c2 c3 c4 c5 c6 c7 c8 c9 hHeld
              obtain ⟨c0, c1, c2, c3, c4, c5, c6, c7, c8, c9⟩ := H7.out.at
              refine hK.out _ _ ⟨c0, c1, c2, c3, c4, c5, c6, c7, c8, c9⟩ (fun hHeld => ?_)
              clear hK K
              rw [rFrom_nat, HX.out]
              refine wpAnyH_ready (rs := [5]) (by kernel_rfl) (by simp) ?_
              refine AllReadyH.cons (o := ⟨_, _, _, _, _, _⟩) rfl (fun K hK => ?_) AllReadyH.nil
              go_simp
              refine (S.from_ _ (now, p, []) j _ H7.out.h1.ok F1.out (by unfold In64; omega) H7.out.h1.x).mono ?_
              rintro e w8 ⟨rfl, b8⟩
              have H8 := Hid.of (H7.out.next b8)
              clear b8 c0 c1 c2 c3 c4 c5 c6 c7 c8 c9 hHeld
              obtain ⟨c0, c1, c2, c3, c4, c5, c6, c7, c8, c9⟩ := H8.out.at
              refine hK.out _ _ ⟨c0, c1, c2, c3, c4, c5, c6, c7, c8, c9⟩ (fun hHeld => ?_)
              clear hK K
              rw [rFrom_nat, HA.out]
              refine wpAnyH_take (i := 7) (oi := ⟨_, _, _, _, _, _⟩) (v := ?_) rfl (by kernel_rfl) (by kernel_rfl) (by kernel_rfl) (fun _ _ _ h => h) (Or.inl ⟨by rfl, ?_⟩) hHeld ?_
              rotate_left
              · intro w' hSw
                try dsimp only at hSw
                go_simp
                all_goals with_reducible rfl
              simp only [Act.put, List.setIfInBounds_toArray, List.set_cons_zero, List.set_cons_succ]
              refine wpAnyH_take (i := 8) (oi := ⟨_, _, _, _, _, _⟩) (v := ?_) rfl (by kernel_rfl) (by kernel_rfl) (by kernel_rfl) (fun _ _ _ h => h) (Or.inl ⟨by rfl, ?_⟩) hHeld ?_
              rotate_left
              · intro w' hSw
                try dsimp only at hSw
                go_simp
                all_goals with_reducible rfl
              simp only [Act.put, List.setIfInBounds_toArray, List.set_cons_zero, List.set_cons_succ]
              refine wpAnyH_done (by kernel_rfl) ?_ _
              refine NoPanic.normal ?_
              go_wp2
              go_roundw
              case rel => exact ⟨j + 1, by omega, by go_num, H8⟩
              case measure => simp [RowKit.intOf]; omega
        · obtain rfl : N = j := by omega
          have FO := from_out (now, p, fl)
          rw [show ((now, p, fl) : RchL).2.1.2.length = N from HN.out] at FO
          have F0 := Hid.of FO.1
          have F9 := Hid.of FO.2
          clear FO hj hlt
          go_upto_region 13 with fail
          refine wp_region_noPanic ?_
          refine wp_region_held_drew (S := fun w' => w'.cell? ⟨w.heap.size, 0, none⟩ = some (.string n) ∧ w'.cell? ⟨w.heap.size, 1, none⟩ = some (.slice sa N sc) ∧ w'.cell? ⟨b9, 0, none⟩ = some (.int .i64 now) ∧ w'.cell? ⟨b9, 1, none⟩ = some (.string n) ∧ w'.cell? ⟨b9, 2, none⟩ = some (.slice sa2 N sc2) ∧ w'.cell? ⟨b9, 3, none⟩ = some (.slice fa2 0 fc2) ∧ w'.cell? ⟨b10, 0, none⟩ = some (.int .i64 now) ∧ w'.cell? ⟨b10, 1, none⟩ = some (.string n) ∧ w'.cell? ⟨b10, 2, none⟩ = some (.slice sa3 N sc3) ∧ w'.cell? ⟨b10, 3, none⟩ = some (.slice fa3 M fc3)) (by kernel_rfl) ?_ (fun hHeld => ?_)
          · exact ⟨c0, c1, c2, c3, c4, c5, c6, c7, c8, c9⟩
          refine wpAnyH_ready (rs := [0]) (by kernel_rfl) (by simp) ?_
          refine AllReadyH.cons (o := ⟨_, _, _, _, _, _⟩) rfl (fun K hK => ?_) AllReadyH.nil
          go_simp
          refine (reachAlive_any S _ (H.out.next (Below.refl _ _).drew).h1.ok).mono ?_
          rintro e w7 ⟨rfl, b8⟩
          have H7 := Hid.of (H.out.next ((Below.refl _ _).drew.trans b8))
          clear b8 c0 c1 c2 c3 c4 c5 c6 c7 c8 c9 hHeld
          obtain ⟨c0, c1, c2, c3, c4, c5, c6, c7, c8, c9⟩ := H7.out.at
          refine hK.out _ _ ⟨c0, c1, c2, c3, c4, c5, c6, c7, c8, c9⟩ (fun hHeld => ?_)
          clear hK K
          refine wpAnyH_take (i := 1) (oi := ⟨_, _, _, _, _, _⟩) (v := ?_) rfl (by kernel_rfl) (by kernel_rfl) (by kernel_rfl) (fun _ _ _ h => h) (Or.inl ⟨by rfl, ?_⟩) hHeld ?_
          rotate_left
          · intro w' hSw
            try dsimp only at hSw
            go_simp
            all_goals with_reducible rfl
          simp only [Act.put, List.setIfInBounds_toArray, List.set_cons_zero, List.set_cons_succ]
          refine wpAnyH_take (i := 2) (oi := ⟨_, _, _, _, _, _⟩) (v := ?_) rfl (by kernel_rfl) (by kernel_rfl) (by kernel_rfl) (fun _ _ _ h => h) (Or.inl ⟨by rfl, ?_⟩) hHeld ?_
          rotate_left
          · intro w' hSw
            try dsimp only at hSw
            go_simp
            all_goals with_reducible rfl
          simp only [Act.put, List.setIfInBounds_toArray, List.set_cons_zero, List.set_cons_succ]
          refine wpAnyH_take (i := 5) (oi := ⟨_, _, _, _, _, _⟩) (v := ?_) rfl (by kernel_rfl) (by kernel_rfl) (by kernel_rfl) (fun _ _ _ h => h) (Or.inl ⟨by rfl, ?_⟩) hHeld ?_
          rotate_left
          · intro w' hSw
            try dsimp only at hSw
            go_simp
            all_goals with_reducible rfl
          simp only [Act.put, List.setIfInBounds_toArray, List.set_cons_zero, List.set_cons_succ]
          refine wpAnyH_take (i := 6) (oi := ⟨_, _, _, _, _, _⟩) (v := ?_) rfl (by kernel_rfl) (by kernel_rfl) (by kernel_rfl) (fun _ _ _ h => h) (Or.inl ⟨by rfl, ?_⟩) hHeld ?_
          rotate_left
          · intro w' hSw
            try dsimp only at hSw
            go_simp
            all_goals with_reducible rfl
          simp only [Act.put, List.setIfInBounds_toArray, List.set_cons_zero, List.set_cons_succ]
          refine wpAnyH_take (i := 7) (oi := ⟨_, _, _, _, _, _⟩) (v := ?_) rfl (by kernel_rfl) (by kernel_rfl) (by kernel_rfl) (fun _ _ _ h => h) (Or.inl ⟨by rfl, ?_⟩) hHeld ?_
          rotate_left
          · intro w' hSw
            try dsimp only at hSw
            go_simp
            all_goals with_reducible rfl
          simp only [Act.put, List.setIfInBounds_toArray, List.set_cons_zero, List.set_cons_succ]
          refine wpAnyH_ready (rs := [3]) (by kernel_rfl) (by simp) ?_
          refine AllReadyH.cons (o := ⟨_, _, _, _, _, _⟩) rfl (fun K hK => ?_) AllReadyH.nil
          go_simp
          refine (S.all _ (now, p, fl) _ H7.out.h1.ok F2.out H7.out.h2.x).mono ?_
          rintro e w8 ⟨u, rfl, o1, b8⟩
          have H8 := Hid.of (H7.out.next b8)
          obtain ⟨ua, uc, rfl, -⟩ := own_one o1
          rw [show (rAll (now, p, fl)).length = N from (rAll_length _).trans HN.out]
          clear o1
          clear b8 c0 c1 c2 c3 c4 c5 c6 c7 c8 c9 hHeld
          obtain ⟨c0, c1, c2, c3, c4, c5, c6, c7, c8, c9⟩ := H8.out.at
          refine hK.out _ _ ⟨c0, c1, c2, c3, c4, c5, c6, c7, c8, c9⟩ (fun hHeld => ?_)
          clear hK K
          refine wpAnyH_take (i := 4) (oi := ⟨_, _, _, _, _, _⟩) (v := ?_) rfl (by kernel_rfl) (by kernel_rfl) (by kernel_rfl) (fun _ _ _ h => h) (Or.inl ⟨by rfl, ?_⟩) hHeld ?_
          rotate_left
          · intro w' hSw
            try dsimp only at hSw
            go_simp
            all_goals with_reducible rfl
          simp only [Act.put, List.setIfInBounds_toArray, List.set_cons_zero, List.set_cons_succ]
          refine wpAnyH_take (i := 8) (oi := ⟨_, _, _, _, _, _⟩) (v := ?_) rfl (by kernel_rfl) (by kernel_rfl) (by kernel_rfl) (fun _ _ _ h => h) (Or.inl ⟨by rfl, ?_⟩) hHeld ?_
          rotate_left
          · intro w' hSw
            try dsimp only at hSw
            go_simp
            all_goals with_reducible rfl
          simp only [Act.put, List.setIfInBounds_toArray, List.set_cons_zero, List.set_cons_succ]
          refine wpAnyH_take (i := 9) (oi := ⟨_, _, _, _, _, _⟩) (v := ?_) rfl (by kernel_rfl) (by kernel_rfl) (by kernel_rfl) (fun _ _ _ h => h) (Or.inl ⟨by rfl, ?_⟩) hHeld ?_
          rotate_left
          · intro w' hSw
            try dsimp only at hSw
            go_simp
            all_goals with_reducible rfl
          simp only [Act.put, List.setIfInBounds_toArray, List.set_cons_zero, List.set_cons_succ]
          refine wpAnyH_take (i := 10) (oi := ⟨_, _, _, _, _, _⟩) (v := ?_) rfl (by kernel_rfl) (by kernel_rfl) (by kernel_rfl) (fun _ _ _ h => h) (Or.inl ⟨by rfl, ?_⟩) hHeld ?_
          rotate_left
          · intro w' hSw
            try dsimp only at hSw
            go_simp
            all_goals with_reducible rfl
          simp only [Act.put, List.setIfInBounds_toArray, List.set_cons_zero, List.set_cons_succ]
          refine wpAnyH_take (i := 11) (oi := ⟨_, _, _, _, _, _⟩) (v := ?_) rfl (by kernel_rfl) (by kernel_rfl) (by kernel_rfl) (fun _ _ _ h => h) (Or.inl ⟨by rfl, ?_⟩) hHeld ?_
          rotate_left
          · intro w' hSw
            try dsimp only at hSw
            go_simp
            all_goals with_reducible rfl
          simp only [Act.put, List.setIfInBounds_toArray, List.set_cons_zero, List.set_cons_succ]
          refine wpAnyH_ready (rs := [12]) (by kernel_rfl) (by simp) ?_
          refine AllReadyH.cons (o := ⟨_, _, _, _, _, _⟩) rfl (fun K hK => ?_) AllReadyH.nil
          go_simp
          refine (S.from_ _ (now, p, fl) (-1) _ H8.out.h1.ok F2.out (by unfold In64; omega) H8.out.h2.x).mono ?_
          rintro e w9 ⟨rfl, b8⟩
          have H9 := Hid.of (H8.out.next b8)
          clear b8 c0 c1 c2 c3 c4 c5 c6 c7 c8 c9 hHeld
          obtain ⟨c0, c1, c2, c3, c4, c5, c6, c7, c8, c9⟩ := H9.out.at
          refine hK.out _ _ ⟨c0, c1, c2, c3, c4, c5, c6, c7, c8, c9⟩ (fun hHeld => ?_)
          clear hK K
          rw [F0.out]
          refine wpAnyH_take (i := 13) (oi := ⟨_, _, _, _, _, _⟩) (v := ?_) rfl (by kernel_rfl) (by kernel_rfl) (by kernel_rfl) (fun _ _ _ h => h) (Or.inl ⟨by rfl, ?_⟩) hHeld ?_
          rotate_left
          · intro w' hSw
            try dsimp only at hSw
            go_simp
            all_goals with_reducible rfl
          simp only [Act.put, List.setIfInBounds_toArray, List.set_cons_zero, List.set_cons_succ]
          refine wpAnyH_take (i := 14) (oi := ⟨_, _, _, _, _, _⟩) (v := ?_) rfl (by kernel_rfl) (by kernel_rfl) (by kernel_rfl) (fun _ _ _ h => h) (Or.inl ⟨by rfl, ?_⟩) hHeld ?_
          rotate_left
          · intro w' hSw
            try dsimp only at hSw
            go_simp
            all_goals with_reducible rfl
          simp only [Act.put, List.setIfInBounds_toArray, List.set_cons_zero, List.set_cons_succ]
          refine wpAnyH_take (i := 15) (oi := ⟨_, _, _, _, _, _⟩) (v := ?_) rfl (by kernel_rfl) (by kernel_rfl) (by kernel_rfl) (fun _ _ _ h => h) (Or.inl ⟨by rfl, ?_⟩) hHeld ?_
          rotate_left
          · intro w' hSw
            try dsimp only at hSw
            go_simp
            all_goals with_reducible rfl
          simp only [Act.put, List.setIfInBounds_toArray, List.set_cons_zero, List.set_cons_succ]
          refine wpAnyH_take (i := 16) (oi := ⟨_, _, _, _, _, _⟩) (v := ?_) rfl (by kernel_rfl) (by kernel_rfl) (by kernel_rfl) (fun _ _ _ h => h) (Or.inl ⟨by rfl, ?_⟩) hHeld ?_
          rotate_left
          · intro w' hSw
            try dsimp only at hSw
            go_simp
            all_goals with_reducible rfl
          simp only [Act.put, List.setIfInBounds_toArray, List.set_cons_zero, List.set_cons_succ]
          refine wpAnyH_take (i := 17) (oi := ⟨_, _, _, _, _, _⟩) (v := ?_) rfl (by kernel_rfl) (by kernel_rfl) (by kernel_rfl) (fun _ _ _ h => h) (Or.inl ⟨by rfl, ?_⟩) hHeld ?_
          rotate_left
          · intro w' hSw
            try dsimp only at hSw
            go_simp
            all_goals with_reducible rfl
          simp only [Act.put, List.setIfInBounds_toArray, List.set_cons_zero, List.set_cons_succ]
          refine wpAnyH_take (i := 18) (oi := ⟨_, _, _, _, _, _⟩) (v := ?_) rfl (by kernel_rfl) (by kernel_rfl) (by kernel_rfl) (fun _ _ _ h => h) (Or.inl ⟨by rfl, ?_⟩) hHeld ?_
          rotate_left
          · intro w' hSw
            try dsimp only at hSw
            go_simp
            all_goals with_reducible rfl
          simp only [Act.put, List.setIfInBounds_toArray, List.set_cons_zero, List.set_cons_succ]
          refine wpAnyH_take (i := 19) (oi := ⟨_, _, _, _, _, _⟩) (v := ?_) rfl (by kernel_rfl) (by kernel_rfl) (by kernel_rfl) (fun _ _ _ h => h) (Or.inl ⟨by rfl, ?_⟩) hHeld ?_
          rotate_left
          · intro w' hSw
            try dsimp only at hSw
            go_simp
            all_goals with_reducible rfl
          simp only [Act.put, List.setIfInBounds_toArray, List.set_cons_zero, List.set_cons_succ]
          refine wpAnyH_ready (rs := [20]) (by kernel_rfl) (by simp) ?_
          refine AllReadyH.cons (o := ⟨_, _, _, _, _, _⟩) rfl (fun K hK => ?_) AllReadyH.nil
          go_simp
          refine (S.from_ _ (now, p, fl) N _ H9.out.h1.ok F2.out (by unfold In64; omega) H9.out.h2.x).mono ?_
          rintro e w10 ⟨rfl, b8⟩
          have H10 := Hid.of (H9.out.next b8)
          clear b8 c0 c1 c2 c3 c4 c5 c6 c7 c8 c9 hHeld
          obtain ⟨c0, c1, c2, c3, c4, c5, c6, c7, c8, c9⟩ := H10.out.at
          refine hK.out _ _ ⟨c0, c1, c2, c3, c4, c5, c6, c7, c8, c9⟩ (fun hHeld => ?_)
          clear hK K
          rw [F9.out]
          refine wpAnyH_take (i := 21) (oi := ⟨_, _, _, _, _, _⟩) (v := ?_) rfl (by kernel_rfl) (by kernel_rfl) (by kernel_rfl) (fun _ _ _ h => h) (Or.inl ⟨by rfl, ?_⟩) hHeld ?_
          rotate_left
          · intro w' hSw
            try dsimp only at hSw
            go_simp
            all_goals with_reducible rfl
          simp only [Act.put, List.setIfInBounds_toArray, List.set_cons_zero, List.set_cons_succ]
          refine wpAnyH_take (i := 22) (oi := ⟨_, _, _, _, _, _⟩) (v := ?_) rfl (by kernel_rfl) (by kernel_rfl) (by kernel_rfl) (fun _ _ _ h => h) (Or.inl ⟨by rfl, ?_⟩) hHeld ?_
          rotate_left
          · intro w' hSw
            try dsimp only at hSw
            go_simp
            all_goals with_reducible rfl
          simp only [Act.put, List.setIfInBounds_toArray, List.set_cons_zero, List.set_cons_succ]
          refine wpAnyH_take (i := 23) (oi := ⟨_, _, _, _, _, _⟩) (v := ?_) rfl (by kernel_rfl) (by kernel_rfl) (by kernel_rfl) (fun _ _ _ h => h) (Or.inl ⟨by rfl, ?_⟩) hHeld ?_
          rotate_left
          · intro w' hSw
            try dsimp only at hSw
            go_simp
            all_goals with_reducible rfl
          simp only [Act.put, List.setIfInBounds_toArray, List.set_cons_zero, List.set_cons_succ]
          refine wpAnyH_done (by kernel_rfl) ?_ _
          refine NoPanic.normal ?_
          go_wp2
          go_ret
          exact ⟨rfl, H10.out.h1.fr⟩

end Go.Proofs.Ytfbgjoildibikaa

/-
  What the document's own Reach answers: From.
-/
namespace Go.Proofs.Ytfbgjoildibikaa
open Go.RowKit Go.Lib

theorem in_tier {p : PolL} {j : Nat} {t : TierL} (h : PFit p) (ht : p.2[j]? = some t) : In64 t.2.1 ∧ In64 t.2.2.1 :=
  ⟨(h.2.2 t (List.mem_of_getElem? ht)).2.1, (h.2.2 t (List.mem_of_getElem? ht)).2.2.1⟩

/-- As quiet_more, of a region ahead of which nothing was drawn. -/
theorem quiet_one {P : Program} {f : FuncId} {args : Array Value} {w : World} {n : Nat} {v : Value}
    (h : Calls P f args (w.drewN n) fun e w' => e = .returned v ∧ ∃ k, w' = (w.drewN n).drewN k) : Calls P f args (w.drewN n) fun e w'' => e = .returned v ∧ ∃ m, w'' = w.drewN m :=
  h.mono fun _ _ ⟨he, k, hk⟩ => ⟨he, n + k, by rw [hk, World.drewN_drewN]⟩

theorem refBack_named {n k e r : Int} (hr : gBack n k e = r) (hn : In64 n) (hk : In64 k) (he : In64 e) (w : World) : Calls Try.prog 34 #[.int .i64 n, .int .i64 k, .int .i64 e] w fun x w' => x = .returned (.int .i64 r) ∧ ∃ q, w' = w.drewN q := by
  rw [← hr]
  exact refBack_any n k e hn hk he w

set_option maxRecDepth 20000 in
set_option maxHeartbeats 3200000 in
theorem refFrom_any (now : Int) (n : ByteArray) (s f : Value) (p : PolL) (fl : List Int) (i : Int) (w : World) (hs : CellRow w s p.2.length (flat penc p.2)) (hf : CellRow w f fl.length (fl.map (Value.int .i64))) (fit : RFit (now, p, fl)) (hi : In64 i) :
    Calls Try.prog 14 #[.agg #[.int .i64 now, .string n, s, f], .int .i64 i] w fun e w' => e = .returned (.int .i64 (rFrom (now, p, fl) i)) ∧ Below w.heap.size w w' := by
  have HS0 := Hid.of hs
  have HF0 := Hid.of hf
  obtain ⟨sa, sc, rfl, -⟩ := hs
  obtain ⟨fa, fc, rfl, -⟩ := hf
  obtain ⟨N, hN⟩ : ∃ N, p.2.length = N := ⟨_, rfl⟩
  obtain ⟨M, hM⟩ : ∃ M, fl.length = M := ⟨_, rfl⟩
  rw [hN, hM]
  rw [hN] at HS0
  rw [hM] at HF0
  obtain ⟨w1, hw1⟩ : ∃ w1, w.alloc (.cells #[.int .i64 now, .string n, .slice sa N sc, .slice fa M fc] 42) = w1 := ⟨_, rfl⟩
  have b1 : Below w.heap.size w w1 := by rw [← hw1]; exact (Below.refl _ _).alloc (Nat.le_refl _) _
  have k1 : w1.heap[w.heap.size]? = some (.cells #[.int .i64 now, .string n, .slice sa N sc, .slice fa M fc] 42 (0, 0)) := by rw [← hw1]; exact Go.heap_alloc_new _ _
  have c0 : w1.cell? ⟨w.heap.size, 0, none⟩ = some (.int .i64 now) := by rw [cell_of_row w1 _ _ _ _ _ k1]; rfl
  have c2 : w1.cell? ⟨w.heap.size, 2, none⟩ = some (.slice sa N sc) := by rw [cell_of_row w1 _ _ _ _ _ k1]; rfl
  have c3 : w1.cell? ⟨w.heap.size, 3, none⟩ = some (.slice fa M fc) := by rw [cell_of_row w1 _ _ _ _ _ k1]; rfl
  have HS := Hid.of (HS0.out.kept b1)
  have HF := Hid.of (HF0.out.kept b1)
  have HW := Hid.of hw1
  have B1 := Hid.of b1
  have HN := Hid.of hN
  have HM := Hid.of hM
  have FT := Hid.of fit
  have HI := Hid.of hi
  have n9 : (N : Int) ≤ 1000000 := by have := fit.2.1.1; rw [hN] at this; omega
  clear HS0 HF0 b1 k1 hw1 hN hM fit hi
  by_cases hi0 : i < 0
  · have hr : rFrom (now, p, fl) i = 0 := by unfold rFrom; rw [if_pos hi0]
    rw [hr]
    clear hr
    go_enter Try.func14, Try.ntmps14
    go_wp2_with fail
    rw [HW.out]
    go_wp2
    go_ret
    exact ⟨rfl, B1.out⟩
  · obtain ⟨j, rfl⟩ : ∃ j : Nat, i = j := ⟨i.toNat, by omega⟩
    rw [rFrom_nat]
    by_cases hj : N ≤ j
    · have hj1 : (N : Int) ≤ (j : Int) := by omega
      have hr : rFromN (now, p, fl) j = 0 := by
        unfold rFromN
        rw [List.getElem?_eq_none (show ((now, p, fl) : RchL).2.1.2.length ≤ j by show p.2.length ≤ j; rw [HN.out]; exact hj)]
      rw [hr]
      clear hr hj
      go_enter Try.func14, Try.ntmps14
      go_wp2_with fail
      rw [HW.out]
      go_wp2
      go_ret
      exact ⟨rfl, B1.out⟩
    · have hj1 : ¬ (N : Int) ≤ (j : Int) := by omega
      have hj2 : (j : Int) < (N : Int) := by omega
      obtain ⟨t, ht⟩ : ∃ t, p.2[j]? = some t := ⟨_, List.getElem?_eq_getElem (by rw [HN.out]; omega)⟩
      obtain ⟨sb, so, rfl, sl, st⟩ := p_at HS.out j t ht
      obtain ⟨tn, te, tk, ts⟩ := t
      obtain ⟨q0, q1, q2, q3⟩ := st
      have IT := Hid.of (in_tier FT.out.2.1 ht)
      have HT := Hid.of ht
      clear q0 q3 ht
      by_cases hx : j + 1 < N
      · have hx1 : (j : Int) + 1 < (N : Int) := by omega
        obtain ⟨t', ht'⟩ : ∃ t', p.2[j + 1]? = some t' := ⟨_, List.getElem?_eq_getElem (by rw [HN.out]; omega)⟩
        obtain ⟨sb2, so2, hsb, sl2, st2⟩ := p_at HS.out (j + 1) t' ht'
        simp only [Option.some.injEq, Addr.mk.injEq, and_true] at hsb
        obtain ⟨rfl, rfl⟩ := hsb
        obtain ⟨ev, hev⟩ : ∃ ev, t'.2.1 = ev := ⟨_, rfl⟩
        obtain ⟨-, q4, -, -⟩ := st2
        rw [hev] at q4
        have HEV : Hid (rEvery p.2 j = ev) := Hid.of (by unfold rEvery; rw [ht']; exact hev)
        have EV64 : Hid (In64 ev) := Hid.of (by rw [← hev]; exact (in_tier FT.out.2.1 ht').1)
        clear ht' sl2 hev hx
        obtain ⟨ba, hba⟩ : ∃ ba, gBack now tk ev = ba := ⟨_, rfl⟩
        have HG : Hid (gBack now tk ev = ba) := Hid.of hba
        by_cases hm : j < M
        · have hm1 : (j : Int) < (M : Int) := by omega
          obtain ⟨fb, fo, rfl, hfl, hfc⟩ := int_at HF.out j (by rw [HM.out]; exact hm) HM.out.symm
          obtain ⟨fv, hfv⟩ : ∃ fv, fl.getD j 0 = fv := ⟨_, rfl⟩
          rw [hfv] at hfc
          have RES : Hid (rFromN (now, p, fl) j = max ba fv) := Hid.of (by
            have h1 := floors_max (now := now) (fl := fl) (i := j) (p := p) (by rw [HN.out]; omega)
            rw [h1, hfv, ← hba, ← HEV.out]
            congr 1
            unfold rFromN
            rw [show ((now, p, []) : RchL).2.1.2[j]? = some (tn, te, tk, ts) from HT.out]
            rfl)
          clear hm hfv hba hfl hi0 hj sl
          go_enter Try.func14, Try.ntmps14
          go_upto_region 1 with fail
          rw [HW.out]
          clear HW
          go_wp2_with fail
          go_quiet ((go_at_call 34; exact quiet_one (refBack_named HG.out FT.out.1 IT.out.2 EV64.out _)))
          go_wp2
          all_goals
            go_ret
            refine ⟨?_, below_drewN B1.out _⟩
            rw [RES.out]
            refine congrArg (fun z => Ending.returned (Value.int .i64 z)) ?_
            omega
        · have hm1 : ¬ (j : Int) < (M : Int) := by omega
          have RES : Hid (rFromN (now, p, fl) j = ba) := Hid.of (by
            have h1 := floors_max (now := now) (fl := fl) (i := j) (p := p) (by rw [HN.out]; omega)
            rw [h1, List.getD_eq_getElem?_getD, List.getElem?_eq_none (by rw [HM.out]; omega), ← hba, ← HEV.out]
            have h2 : rFromN (now, p, []) j = gBack now tk (rEvery p.2 j) := by
              unfold rFromN
              rw [show ((now, p, []) : RchL).2.1.2[j]? = some (tn, te, tk, ts) from HT.out]
              rfl
            rw [h2]
            have := gBack_nonneg now tk (rEvery p.2 j)
            show max (gBack now tk (rEvery p.2 j)) 0 = _
            omega)
          clear hm hba hi0 hj sl
          go_enter Try.func14, Try.ntmps14
          go_upto_region 1 with fail
          rw [HW.out]
          clear HW
          go_wp2_with fail
          go_quiet ((go_at_call 34; exact quiet_one (refBack_named HG.out FT.out.1 IT.out.2 EV64.out _)))
          go_wp2
          go_ret
          rw [RES.out]
          exact ⟨rfl, below_drewN B1.out _⟩
      · have hx1 : ¬ (j : Int) + 1 < (N : Int) := by omega
        obtain ⟨ev, hev⟩ : ∃ ev, te = ev := ⟨_, rfl⟩
        have HEV : Hid (rEvery p.2 j = ev) := Hid.of (by unfold rEvery; rw [List.getElem?_eq_none (show p.2.length ≤ j + 1 by rw [HN.out]; omega), HT.out]; exact hev)
        have EV64 : Hid (In64 ev) := Hid.of (by rw [← hev]; exact IT.out.1)
        rw [hev] at q1
        clear hev hx
        obtain ⟨ba, hba⟩ : ∃ ba, gBack now tk ev = ba := ⟨_, rfl⟩
        have HG : Hid (gBack now tk ev = ba) := Hid.of hba
        by_cases hm : j < M
        · have hm1 : (j : Int) < (M : Int) := by omega
          obtain ⟨fb, fo, rfl, hfl, hfc⟩ := int_at HF.out j (by rw [HM.out]; exact hm) HM.out.symm
          obtain ⟨fv, hfv⟩ : ∃ fv, fl.getD j 0 = fv := ⟨_, rfl⟩
          rw [hfv] at hfc
          have RES : Hid (rFromN (now, p, fl) j = max ba fv) := Hid.of (by
            have h1 := floors_max (now := now) (fl := fl) (i := j) (p := p) (by rw [HN.out]; omega)
            rw [h1, hfv, ← hba, ← HEV.out]
            congr 1
            unfold rFromN
            rw [show ((now, p, []) : RchL).2.1.2[j]? = some (tn, te, tk, ts) from HT.out]
            rfl)
          clear hm hfv hba hfl hi0 hj sl
          go_enter Try.func14, Try.ntmps14
          go_upto_region 1 with fail
          rw [HW.out]
          clear HW
          go_wp2_with fail
          go_quiet ((go_at_call 34; exact quiet_one (refBack_named HG.out FT.out.1 IT.out.2 EV64.out _)))
          go_wp2
          all_goals
            go_ret
            refine ⟨?_, below_drewN B1.out _⟩
            rw [RES.out]
            refine congrArg (fun z => Ending.returned (Value.int .i64 z)) ?_
            omega
        · have hm1 : ¬ (j : Int) < (M : Int) := by omega
          have RES : Hid (rFromN (now, p, fl) j = ba) := Hid.of (by
            have h1 := floors_max (now := now) (fl := fl) (i := j) (p := p) (by rw [HN.out]; omega)
            rw [h1, List.getD_eq_getElem?_getD, List.getElem?_eq_none (by rw [HM.out]; omega), ← hba, ← HEV.out]
            have h2 : rFromN (now, p, []) j = gBack now tk (rEvery p.2 j) := by
              unfold rFromN
              rw [show ((now, p, []) : RchL).2.1.2[j]? = some (tn, te, tk, ts) from HT.out]
              rfl
            rw [h2]
            have := gBack_nonneg now tk (rEvery p.2 j)
            show max (gBack now tk (rEvery p.2 j)) 0 = _
            omega)
          clear hm hba hi0 hj sl
          go_enter Try.func14, Try.ntmps14
          go_upto_region 1 with fail
          rw [HW.out]
          clear HW
          go_wp2_with fail
          go_quiet ((go_at_call 34; exact quiet_one (refBack_named HG.out FT.out.1 IT.out.2 EV64.out _)))
          go_wp2
          go_ret
          rw [RES.out]
          exact ⟨rfl, below_drewN B1.out _⟩

end Go.Proofs.Ytfbgjoildibikaa

/-
  What the document's own Reach answers: Start, Cover, Takes.
-/
namespace Go.Proofs.Ytfbgjoildibikaa
open Go.RowKit Go.Lib

/-- A variable that holds the document's own Reach. -/
structure QH (w0 : World) (b : Nat) (now : Int) (n : ByteArray) (s f : Value) (p : PolL) (fl : List Int) (w : World) : Prop where
  k : w.heap[b]? = some (.cells #[.int .i64 now, .string n, s, f] 42 (0, 0))
  hs : CellRow w s p.2.length (flat penc p.2)
  hf : CellRow w f fl.length (fl.map (Value.int .i64))
  fr : Below w0.heap.size w0 w

section
variable {w0 w w' : World} {b : Nat} {n : ByteArray} {now : Int} {s f : Value} {p : PolL} {fl : List Int}
theorem QH.next (h : QH w0 b now n s f p fl w) (c : Below w.heap.size w w') : QH w0 b now n s f p fl w' :=
  ⟨by rw [c.block b (Array.getElem?_eq_some_iff.1 h.k).1]; exact h.k, h.hs.kept c, h.hf.kept c, h.fr.trans (c.mono h.fr.size)⟩
theorem QH.at (h : QH w0 b now n s f p fl w) : w.cell? ⟨b, 0, none⟩ = some (.int .i64 now) ∧ w.cell? ⟨b, 1, none⟩ = some (.string n) ∧ w.cell? ⟨b, 2, none⟩ = some s ∧ w.cell? ⟨b, 3, none⟩ = some f := by
  refine ⟨?_, ?_, ?_, ?_⟩ <;> (rw [cell_of_row w b _ _ _ _ h.k]; rfl)
theorem QH.made (hs : CellRow w s p.2.length (flat penc p.2)) (hf : CellRow w f fl.length (fl.map (Value.int .i64))) : QH w w.heap.size now n s f p fl (w.alloc (.cells #[.int .i64 now, .string n, s, f] 42)) := by
  have b : Below w.heap.size w (w.alloc (.cells #[.int .i64 now, .string n, s, f] 42)) := (Below.refl _ _).alloc (Nat.le_refl _) _
  exact ⟨Go.heap_alloc_new _ _, hs.kept b, hf.kept b, b⟩
end

set_option maxRecDepth 20000 in
set_option maxHeartbeats 3200000 in
theorem refCover_any (now : Int) (n : ByteArray) (s f : Value) (p : PolL) (fl : List Int) (x : Int) (w : World) (hs : CellRow w s p.2.length (flat penc p.2)) (hf : CellRow w f fl.length (fl.map (Value.int .i64))) (fit : RFit (now, p, fl)) :
    Calls Try.prog 26 #[.agg #[.int .i64 now, .string n, s, f], .int .i64 x] w fun e w' => e = .returned (.int .i64 (rCover (now, p, fl) x)) ∧ Below w.heap.size w w' := by
  have H0 := Hid.of (QH.made (now := now) (n := n) hs hf)
  obtain ⟨sa, sc, rfl, -⟩ := hs
  obtain ⟨fa, fc, rfl, -⟩ := hf
  obtain ⟨N, hN⟩ : ∃ N, p.2.length = N := ⟨_, rfl⟩
  obtain ⟨M, hM⟩ : ∃ M, fl.length = M := ⟨_, rfl⟩
  rw [hN, hM] at H0 ⊢
  obtain ⟨w1, hw1⟩ : ∃ w1, w.alloc (.cells #[.int .i64 now, .string n, .slice sa N sc, .slice fa M fc] 42) = w1 := ⟨_, rfl⟩
  rw [hw1] at H0
  have HW := Hid.of hw1
  have HN := Hid.of hN
  have FT := Hid.of fit
  have n9 : (N : Int) ≤ 1000000 := by have := fit.2.1.1; rw [hN] at this; omega
  clear hN hM hw1 fit
  go_enter Try.func26, Try.ntmps26
  go_upto_region 1 with fail
  rw [HW.out]
  clear HW
  go_wp2
  go_loopw [4, 5] (fun _ iv wr => ∃ j : Nat, j ≤ N ∧ iv = .int .i64 j ∧ Hid (QH w w.heap.size now n (.slice sa N sc) (.slice fa M fc) p fl wr) ∧ Hid (rFind (now, p, fl) x 0 N = rFind (now, p, fl) x j (N - j))) (fun _ iv _ => N - (RowKit.intOf iv).toNat)
  case atStart => exact ⟨0, Nat.zero_le _, rfl, H0, Hid.of rfl⟩
  case round =>
    clear H0
    obtain ⟨j, hj, rfl, H, E⟩ := hrel
    obtain ⟨c0, c1, c2, c3⟩ := H.out.at
    have j0 : (0 : Int) ≤ (j : Int) := Int.natCast_nonneg _
    by_cases hlt : j < N
    · have hlt1 : (j : Int) < (N : Int) := by omega
      obtain ⟨a, ha⟩ : ∃ a, rFromN (now, p, fl) j = a := ⟨_, rfl⟩
      have HA := Hid.of ha
      clear ha hj
      have E2 : Hid (rFind (now, p, fl) x 0 N = if a ≤ x then some j else rFind (now, p, fl) x (j + 1) (N - (j + 1))) := Hid.of (by
        rw [E.out, show N - j = (N - (j + 1)) + 1 by omega, rFind, HA.out])
      go_wp2_with fail
      refine (refFrom_any now n _ _ p fl j _ H.out.hs H.out.hf FT.out (by unfold In64; omega)).mono ?_
      rintro e w2 ⟨rfl, b2⟩
      rw [rFrom_nat, HA.out]
      have H2 := Hid.of (H.out.next b2)
      clear b2 H
      by_cases hx : a ≤ x
      · have RES : Hid (rCover (now, p, fl) x = (j : Int)) := Hid.of (by
          unfold rCover
          rw [show ((now, p, fl) : RchL).2.1.2.length = N from HN.out, E2.out, if_pos hx])
        go_wp2
        go_ret
        rw [RES.out]
        exact ⟨rfl, H2.out.fr⟩
      · have E3 : Hid (rFind (now, p, fl) x 0 N = rFind (now, p, fl) x (j + 1) (N - (j + 1))) := Hid.of (by rw [E2.out, if_neg hx])
        go_wp2
        go_roundw
        case rel => exact ⟨j + 1, by omega, by go_num, H2, E3⟩
        case measure => simp [RowKit.intOf]; omega
    · obtain rfl : N = j := by omega
      have RES : Hid (rCover (now, p, fl) x = (N : Int) - 1) := Hid.of (by
        unfold rCover
        rw [show ((now, p, fl) : RchL).2.1.2.length = N from HN.out, E.out, Nat.sub_self, rFind])
      clear hj hlt
      go_wp2
      go_ret
      rw [RES.out]
      exact ⟨rfl, H.out.fr⟩

set_option maxRecDepth 20000 in
set_option maxHeartbeats 3200000 in
theorem refStart_any (now : Int) (n : ByteArray) (s f : Value) (p : PolL) (fl : List Int) (i t : Int) (w : World) (hs : CellRow w s p.2.length (flat penc p.2)) (hf : CellRow w f fl.length (fl.map (Value.int .i64))) (fit : RFit (now, p, fl)) (hi : In64 i) (ht : In64 t) :
    Calls Try.prog 19 #[.agg #[.int .i64 now, .string n, s, f], .int .i64 i, .int .i64 t] w fun e w' => e = .returned (.tuple #[.int .i64 (rStart (now, p, fl) i t).1, .bool (rStart (now, p, fl) i t).2]) ∧ Below w.heap.size w w' := by
  have H0 := Hid.of (QH.made (now := now) (n := n) hs hf)
  obtain ⟨sa, sc, rfl, -⟩ := hs
  obtain ⟨fa, fc, rfl, -⟩ := hf
  obtain ⟨N, hN⟩ : ∃ N, p.2.length = N := ⟨_, rfl⟩
  obtain ⟨M, hM⟩ : ∃ M, fl.length = M := ⟨_, rfl⟩
  rw [hN, hM] at H0 ⊢
  obtain ⟨w1, hw1⟩ : ∃ w1, w.alloc (.cells #[.int .i64 now, .string n, .slice sa N sc, .slice fa M fc] 42) = w1 := ⟨_, rfl⟩
  rw [hw1] at H0
  have HW := Hid.of hw1
  have HN := Hid.of hN
  have FT := Hid.of fit
  have HI := Hid.of hi
  have HT := Hid.of ht
  have n9 : (N : Int) ≤ 1000000 := by have := fit.2.1.1; rw [hN] at this; omega
  clear hN hM hw1 fit hi ht
  have key : (i < 0) ∨ (¬ i < 0 ∧ (N : Int) ≤ i) ∨ (¬ i < 0 ∧ ¬ (N : Int) ≤ i ∧ t < 0) ∨ (¬ i < 0 ∧ ¬ (N : Int) ≤ i ∧ ¬ t < 0) := by omega
  rcases key with h1 | ⟨h1, h2⟩ | ⟨h1, h2, h3⟩ | ⟨h1, h2, h3⟩
  iterate 3
    · have hr : rStart (now, p, fl) i t = (0, false) := by
        unfold rStart
        first
          | exact if_pos (Or.inl h1)
          | exact if_pos (Or.inr h3)
          | (split
             · rfl
             · rw [List.getElem?_eq_none (show ((now, p, fl) : RchL).2.1.2.length ≤ i.toNat by show p.2.length ≤ _; rw [HN.out]; omega)])
      rw [hr]
      clear hr
      obtain ⟨c0, c1, c2, c3⟩ := H0.out.at
      go_enter Try.func19, Try.ntmps19
      go_upto_region 1 with fail
      rw [HW.out]
      go_wp2
      go_ret2
      exact ⟨rfl, H0.out.fr⟩
  · obtain ⟨j, rfl⟩ : ∃ j : Nat, i = j := ⟨i.toNat, by omega⟩
    have j2 : (j : Int) < (N : Int) := by omega
    have j0 : (0 : Int) ≤ (j : Int) := by omega
    obtain ⟨y, hy⟩ : ∃ y, p.2[j]? = some y := ⟨_, List.getElem?_eq_getElem (by rw [HN.out]; omega)⟩
    obtain ⟨a, ha⟩ : ∃ a, rFromN (now, p, fl) j = a := ⟨_, rfl⟩
    obtain ⟨fv, hfv⟩ : ∃ fv, gFloor t y.2.1 = fv := ⟨_, rfl⟩
    have hr : rStart (now, p, fl) (j : Int) t = (fv, decide (a ≤ fv)) := by
      unfold rStart
      rw [if_neg (by omega)]
      have e : ((now, p, fl) : RchL).2.1.2[(j : Int).toNat]? = some y := hy
      rw [e]
      show (gFloor t y.2.1, decide (rFromN (now, p, fl) j ≤ gFloor t y.2.1)) = _
      rw [ha, hfv]
    rw [hr]
    have HF := Hid.of hfv
    have HA := Hid.of ha
    have IT := Hid.of (in_tier FT.out.2.1 hy)
    have row := H0.out.hs
    rw [HN.out] at row
    obtain ⟨sb, so, rfl, sl, q0, q1, q2, q3⟩ := p_at row j y hy
    clear hr hfv ha hy row sl q0 q2 q3 h1 h2
    have j1 : ¬ (j : Int) < 0 := by omega
    have j3 : ¬ (N : Int) ≤ (j : Int) := by omega
    obtain ⟨yn, ye, yk, ys⟩ := y
    obtain ⟨c0, c1, c2, c3⟩ := H0.out.at
    go_enter Try.func19, Try.ntmps19
    go_upto_region 1 with fail
    rw [HW.out]
    clear HW
    go_wp2_with fail
    refine (refFloor_any t ye HT.out IT.out.1 _).mono ?_
    rintro e w2 ⟨rfl, q, rfl⟩
    rw [HF.out]
    have H2 := Hid.of (H0.out.next (below_drewN (Below.refl _ _) q))
    clear H0 c0 c1 c2 c3 q1
    obtain ⟨c0, c1, c2, c3⟩ := H2.out.at
    go_wp2_with fail
    refine (refFrom_any now n _ _ p fl j _ H2.out.hs H2.out.hf FT.out HI.out).mono ?_
    rintro e w3 ⟨rfl, b3⟩
    rw [rFrom_nat, HA.out]
    go_wp2
    go_ret2
    exact ⟨rfl, H2.out.fr.trans (b3.mono H2.out.fr.size)⟩

end Go.Proofs.Ytfbgjoildibikaa
