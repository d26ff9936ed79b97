/-
  ViewLater: as time goes on, records go, and those that stay are as they were.
-/
import Derived.Test.YtdhkmcmipkfkjaaQ32
import Derived.Test.YtdhkmcmipkfkjaaVCKq
import Derived.Test.YtdhkmcmipkfkjaaVEQq
import Derived.Test.YtdhkmcmipkfkjaaQ31
namespace Go.Proofs.Ytdhkmcmipkfkjaa
open Go.RowKit Go.Lib

/-- What came in: a policy in a variable, samples. -/
structure PV (S : ReachSpec) (B : Nat) (n : ByteArray) (sl : Value) (p : PolL) (w0 w : World) : Prop where
  k : PBlk w B n sl
  r0 : PolRow w0 (polVal n sl) p
  ok0 : S.Ok w0
  fr : Below w0.heap.size w0 w
  hB : w0.heap.size = B

section
variable {S : ReachSpec} {B : Nat} {n : ByteArray} {sl : Value} {p : PolL} {w0 w w' : World}
theorem PV.next (h : PV S B n sl p w0 w) (b : Below w.heap.size w w') : PV S B n sl p w0 w' := ⟨h.k.kept b, h.r0, h.ok0, h.fr.trans (b.mono h.fr.size), h.hB⟩
theorem PV.row (h : PV S B n sl p w0 w) : PolRow w (polVal n sl) p := h.r0.kept h.fr
theorem PV.ok (h : PV S B n sl p w0 w) : S.Ok w := S.kept h.ok0 h.fr
end

theorem vok_of {p : PolL} (h : (pCheck p).1 = 0) (now : Int) (fl : List Int) : VOk (now, p, fl) := fun t ht => by
  obtain ⟨i, hi⟩ := List.getElem?_of_mem ht
  exact (tier_known h hi).1

/-- As time goes on. -/
theorem vT_later {p : PolL} (hc : (pCheck p).1 = 0) {now more : Int} (n0 : 0 ≤ now) (n1 : now ≤ 1099511627776) (m0 : 0 ≤ more) (m1 : more ≤ 1000000) (i : Int) (ss : List SamL) : ∃ f, vT (now + more, p, []) i ss = tKeep (vT (now, p, []) i ss) f := by
  by_cases hi : 0 ≤ i ∧ i.toNat < p.2.length
  · obtain ⟨x, hx⟩ : ∃ x, p.2[i.toNat]? = some x := ⟨_, List.getElem?_eq_getElem hi.2⟩
    have h0 := rises_of hc (fl := []) n0 (by omega) m0 (by omega) hx
    have e : ∀ t : Int, vT (t, p, []) i ss = iView (t, p, []) i.toNat ss := fun t => by unfold vT; rw [if_pos hi]
    have g : rGrid p.2 [] = [] := List.eq_nil_of_length_eq_zero (by rw [rGrid_len]; simp)
    rw [g] at h0
    refine ⟨rFromN (now + more, p, []) i.toNat, ?_⟩
    rw [e, e]
    exact (iView_tick (r := (now, p, [])) (n := more) hx h0.1).symm
  · have e : ∀ t : Int, vT (t, p, []) i ss = [] := fun t => by unfold vT; rw [if_neg hi]
    exact ⟨0, by rw [e, e]; rfl⟩

set_option maxRecDepth 20000 in
set_option maxHeartbeats 12800000 in
theorem viewLater_main (S : ReachSpec) (v sv : Value) (p : PolL) (now more tier : Int) (ss : List SamL) (w : World) (hS : S.Ok w) (hv : PolRow w v p) (hpn : p.1.size ≤ maxLen) (hp : ∀ x ∈ p.2, TIn x) (htier : In64 tier) (hs : CellRow w sv ss.length (flat aenc ss)) (fs : ∀ s ∈ ss, SFit s) :
    Calls Try.prog 5 #[v, .int .i64 now, .int .i64 more, sv, .int .i64 tier] w fun e w' => e = .returned (.bool true) ∧ Below w.heap.size w w' := by
  obtain ⟨sl, rfl, hsl, hsk⟩ := hv
  have HSL := Hid.of hsl
  obtain ⟨sa, sc, rfl, -⟩ := hsl
  have HV := Hid.of hs
  obtain ⟨va, vc, rfl, -⟩ := hs
  obtain ⟨n, hn⟩ : ∃ n, p.1 = n := ⟨_, rfl⟩
  obtain ⟨N, hN⟩ : ∃ N, p.2.length = N := ⟨_, rfl⟩
  rw [hn, hN]
  rw [hN] at HSL
  have HSK : Hid (CapOk (.slice sa N sc)) := Hid.of (by rw [← hN]; exact hsk)
  clear hsk
  obtain ⟨B, hB⟩ : ∃ B, w.heap.size = B := ⟨_, rfl⟩
  obtain ⟨w1, hw1⟩ : ∃ w1, w.alloc (.cells #[.string n, .slice sa N sc] 24) = w1 := ⟨_, rfl⟩
  have b1 : Below w.heap.size w w1 := by rw [← hw1]; exact (Below.refl _ _).alloc (Nat.le_refl _) _
  have I1 : Hid (PV S B n (.slice sa N sc) p w w1) := Hid.of
    ⟨by rw [← hw1, ← hB]; exact PBlk.made w _ _, ⟨_, by rw [hn], by rw [hN]; exact HSL.out, HSK.out⟩, hS, b1, hB⟩
  have HW := Hid.of hw1
  have HBB := Hid.of hB
  have HN := Hid.of hN
  have Hn := Hid.of hn
  have HP := Hid.of hp
  have HPN := Hid.of hpn
  have HTI := Hid.of htier
  have FS := Hid.of fs
  clear hw1 b1 hN hn hS hp HSL htier fs hB hpn
  obtain ⟨c0, c1⟩ := I1.out.k.at
  go_enter Try.func5, Try.ntmps5
  go_upto_region 1 with fail
  rw [HW.out, HBB.out]
  clear HW
  go_wp2_with fail
  refine (refCheck_wide _ p _ I1.out.row HPN.out (fun x hx => (HP.out x hx).1)).mono ?_
  rintro e w2 ⟨rfl, b2⟩
  have I2 := Hid.of (I1.out.next b2)
  clear b2 I1 c0 c1
  obtain ⟨ce, cn, hce⟩ : ∃ ce cn, pCheck p = (ce, cn) := ⟨_, _, rfl⟩
  have HCE := Hid.of hce
  rw [hce]
  simp only
  clear hce
  obtain ⟨c0, c1⟩ := I2.out.k.at
  go_wp2_with fail
  refine (Small_any _ p _ I2.out.row).mono ?_
  rintro e w3 ⟨r, rfl, hr, b3⟩
  have I3 := Hid.of (I2.out.next b3)
  clear b3 I2 c0 c1
  obtain ⟨c0, c1⟩ := I3.out.k.at
  have BAD : Hid (∀ w9, PV S B n (.slice sa N sc) p w w9 → Calls Try.prog 9 #[] w9 fun e w' => e = .returned (.bool true) ∧ Below w.heap.size w w') := Hid.of (fun w9 h => by
    refine (viewAlive_any S w9 h.ok).mono ?_
    rintro e w' ⟨he, b⟩
    exact ⟨he, h.fr.trans (b.mono h.fr.size)⟩)
  cases r with
  | false =>
    go_wp2_with fail
    refine (BAD.out _ I3.out).mono ?_
    rintro e w4 ⟨rfl, b4⟩
    go_wp2
    go_ret
    exact ⟨rfl, b4⟩
  | true =>
    have SP := Hid.of (fit_of HP.out (hr.out rfl))
    clear hr
    go_wp2_with fail
    refine (Some_any 40 _ ss _ (HV.out.kept I3.out.fr) (by decide)).mono ?_
    rintro e w4 ⟨r, rfl, hr, b4⟩
    have I4 := Hid.of (I3.out.next b4)
    clear b4 I3 c0 c1
    obtain ⟨c0, c1⟩ := I4.out.k.at
    cases r with
    | false =>
      go_wp2_with fail
      refine (BAD.out _ I4.out).mono ?_
      rintro e w5 ⟨rfl, b5⟩
      go_wp2
      go_ret
      exact ⟨rfl, b5⟩
    | true =>
      have SF : Hid (ss.length ≤ 40) := Hid.of (hr.out rfl).1
      clear hr
      by_cases hbad : more < 0 ∨ 1000000 < more ∨ now < 0 ∨ 1099511627776 < now ∨ ce ≠ 0
      · have hb2 : more < 0 ∨ (¬ more < 0 ∧ 1000000 < more) ∨ (¬ more < 0 ∧ ¬ 1000000 < more ∧ now < 0) ∨ (¬ more < 0 ∧ ¬ 1000000 < more ∧ ¬ now < 0 ∧ 1099511627776 < now) ∨ (¬ more < 0 ∧ ¬ 1000000 < more ∧ ¬ now < 0 ∧ ¬ 1099511627776 < now ∧ ce ≠ 0) := by omega
        clear hbad
        rcases hb2 with h1 | ⟨h1, h2⟩ | ⟨h1, h2, h3⟩ | ⟨h1, h2, h3, h4⟩ | ⟨h1, h2, h3, h4, h5⟩
        all_goals
          try have h6 : (ce != 0) = true := by simpa using h5
          go_wp2_with fail
          refine (BAD.out _ I4.out).mono ?_
          rintro e w5 ⟨rfl, b5⟩
          go_wp2
          go_ret
          exact ⟨rfl, b5⟩
      · obtain ⟨h1, h2, h3, h4, h5⟩ : ¬ more < 0 ∧ ¬ 1000000 < more ∧ ¬ now < 0 ∧ ¬ 1099511627776 < now ∧ ce = 0 := by omega
        subst h5
        have HC : Hid ((pCheck p).1 = 0) := Hid.of (by rw [HCE.out])
        obtain ⟨F, hF⟩ := vT_later HC.out (now := now) (more := more) (by omega) (by omega) (by omega) (by omega) tier ss
        have NB := Hid.of (show 0 ≤ now ∧ now ≤ 1099511627776 ∧ 0 ≤ more ∧ more ≤ 1000000 by omega)
        have FT1 : Hid (RFit (now, p, [])) := Hid.of ⟨by unfold In64; simp only; omega, SP.out, by simp, fun _ h => by cases h⟩
        have FT2 : Hid (RFit (now + more, p, [])) := Hid.of ⟨by unfold In64; simp only; omega, SP.out, by simp, fun _ h => by cases h⟩
        have VK1 := Hid.of (vok_of HC.out now [])
        have VK2 := Hid.of (vok_of HC.out (now + more) [])
        have HF := Hid.of hF
        clear hbad hF HCE
        go_upto_region 4 with fail
        clear h1 h2 h3 h4
        have hwr : IntKind.i64.wrap (now + more) = now + more := by rw [IntKind.wrap_i64]; have := NB.out; omega
        obtain ⟨WD, hWD⟩ : ∃ WD, w4.drew = WD := ⟨_, rfl⟩
        have bD : Below w4.heap.size w4 WD := by rw [← hWD]; exact (Below.refl _ _).drew
        have ID := Hid.of (I4.out.next bD)
        have CSD : Hid (Cs WD [(⟨B, 0, none⟩, .string n), (⟨B, 1, none⟩, .slice sa N sc)]) := Hid.of (by
          obtain ⟨d0, d1⟩ := ID.out.k.at
          have l1 := (Array.getElem?_eq_some_iff.1 ID.out.k).1
          exact .cons l1 d0 (.cons l1 d1 (.nil _)))
        clear bD I4 c0 c1
        have d0 := (CSD.out).head
        have d1 := ((CSD.out).tail).head
        refine wp_region_noPanic ?_
        refine wp_region_held_drew (S := fun w' => w'.cell? ⟨B, 0, none⟩ = some (.string n) ∧ w'.cell? ⟨B, 1, none⟩ = some (.slice sa N sc)) (by kernel_rfl) ?_ (fun hHeld => ?_)
        · rw [hWD]; exact ⟨d0, d1⟩
        refine wpAnyH_take (i := 0) (oi := ⟨_, _, _, _, _, _⟩) (v := ?_) rfl (by kernel_rfl) (by kernel_rfl) (by kernel_rfl) (fun _ _ _ h => h) (Or.inl ⟨by rfl, ?_⟩) hHeld ?_
        rotate_left
        · intro w' hSw
          try dsimp only at hSw
          go_simp
          all_goals with_reducible rfl
        simp only [Act.put, List.setIfInBounds_toArray, List.set_cons_zero, List.set_cons_succ]
        refine wpAnyH_take (i := 1) (oi := ⟨_, _, _, _, _, _⟩) (v := ?_) rfl (by kernel_rfl) (by kernel_rfl) (by kernel_rfl) (fun _ _ _ h => h) (Or.inl ⟨by rfl, ?_⟩) hHeld ?_
        rotate_left
        · intro w' hSw
          try dsimp only at hSw
          go_simp
          all_goals with_reducible rfl
        simp only [Act.put, List.setIfInBounds_toArray, List.set_cons_zero, List.set_cons_succ]
        refine wpAnyH_take (i := 3) (oi := ⟨_, _, _, _, _, _⟩) (v := ?_) rfl (by kernel_rfl) (by kernel_rfl) (by kernel_rfl) (fun _ _ _ h => h) (Or.inl ⟨by rfl, ?_⟩) hHeld ?_
        rotate_left
        · intro w' hSw
          try dsimp only at hSw
          go_simp
          all_goals with_reducible rfl
        simp only [Act.put, List.setIfInBounds_toArray, List.set_cons_zero, List.set_cons_succ]
        refine wpAnyH_take (i := 4) (oi := ⟨_, _, _, _, _, _⟩) (v := ?_) rfl (by kernel_rfl) (by kernel_rfl) (by kernel_rfl) (fun _ _ _ h => h) (Or.inl ⟨by rfl, ?_⟩) hHeld ?_
        rotate_left
        · intro w' hSw
          try dsimp only at hSw
          go_simp
          all_goals with_reducible rfl
        simp only [Act.put, List.setIfInBounds_toArray, List.set_cons_zero, List.set_cons_succ]
        refine wpAnyH_take (i := 6) (oi := ⟨_, _, _, _, _, _⟩) (v := ?_) rfl (by kernel_rfl) (by kernel_rfl) (by kernel_rfl) (fun _ _ _ h => h) (Or.inl ⟨by rfl, ?_⟩) hHeld ?_
        rotate_left
        · intro w' hSw
          try dsimp only at hSw
          go_simp
          all_goals with_reducible rfl
        simp only [Act.put, List.setIfInBounds_toArray, List.set_cons_zero, List.set_cons_succ]
        refine wpAnyH_take (i := 7) (oi := ⟨_, _, _, _, _, _⟩) (v := ?_) rfl (by kernel_rfl) (by kernel_rfl) (by kernel_rfl) (fun _ _ _ h => h) (Or.inl ⟨by rfl, ?_⟩) hHeld ?_
        rotate_left
        · intro w' hSw
          try dsimp only at hSw
          go_simp
          all_goals with_reducible rfl
        simp only [Act.put, List.setIfInBounds_toArray, List.set_cons_zero, List.set_cons_succ]
        refine wpAnyH_take (i := 8) (oi := ⟨_, _, _, _, _, _⟩) (v := ?_) rfl (by kernel_rfl) (by kernel_rfl) (by kernel_rfl) (fun _ _ _ h => h) (Or.inl ⟨by rfl, ?_⟩) hHeld ?_
        rotate_left
        · intro w' hSw
          try dsimp only at hSw
          go_simp
          all_goals with_reducible rfl
        simp only [Act.put, List.setIfInBounds_toArray, List.set_cons_zero, List.set_cons_succ]
        refine wpAnyH_take (i := 9) (oi := ⟨_, _, _, _, _, _⟩) (v := ?_) rfl (by kernel_rfl) (by kernel_rfl) (by kernel_rfl) (fun _ _ _ h => h) (Or.inl ⟨by rfl, ?_⟩) hHeld ?_
        rotate_left
        · intro w' hSw
          try dsimp only at hSw
          go_simp
          all_goals with_reducible rfl
        simp only [Act.put, List.setIfInBounds_toArray, List.set_cons_zero, List.set_cons_succ]
        refine wpAnyH_take (i := 11) (oi := ⟨_, _, _, _, _, _⟩) (v := ?_) rfl (by kernel_rfl) (by kernel_rfl) (by kernel_rfl) (fun _ _ _ h => h) (Or.inl ⟨by rfl, ?_⟩) hHeld ?_
        rotate_left
        · intro w' hSw
          try dsimp only at hSw
          go_simp
          all_goals with_reducible rfl
        simp only [Act.put, List.setIfInBounds_toArray, List.set_cons_zero, List.set_cons_succ]
        refine wpAnyH_take (i := 12) (oi := ⟨_, _, _, _, _, _⟩) (v := ?_) rfl (by kernel_rfl) (by kernel_rfl) (by kernel_rfl) (fun _ _ _ h => h) (Or.inl ⟨by rfl, ?_⟩) hHeld ?_
        rotate_left
        · intro w' hSw
          try dsimp only at hSw
          go_simp
          all_goals with_reducible rfl
        simp only [Act.put, List.setIfInBounds_toArray, List.set_cons_zero, List.set_cons_succ]
        refine wpAnyH_ready (rs := [2]) (by kernel_rfl) (by simp) ?_
        refine AllReadyH.cons (o := ⟨_, _, _, _, _, _⟩) rfl (fun K hK => ?_) AllReadyH.nil
        go_simp
        refine (S.of _ _ p now [] _ ID.out.ok FT1.out ID.out.row ⟨_, _, rfl, .inl rfl⟩ (Nat.le_refl _)).mono ?_
        rintro e w6 ⟨ru, rfl, ou, bb⟩
        have RRru := Hid.of (OwnRch.row ou)
        have Iw6 := Hid.of (ID.out.next bb)
        have CSw6 := Hid.of (CSD.out.next bb)
        clear bb ou ID CSD
        clear hHeld d0 d1
        have d0 := (CSw6.out).head
        have d1 := ((CSw6.out).tail).head
        refine hK.out _ _ ⟨d0, d1⟩ (fun hHeld => ?_)
        clear hK K
        try simp only [Act.put, List.setIfInBounds_toArray, List.set_cons_zero, List.set_cons_succ]
        refine wpAnyH_ready (rs := [5]) (by kernel_rfl) (by simp) ?_
        refine AllReadyH.cons (o := ⟨_, _, _, _, _, _⟩) rfl (fun K hK => ?_) AllReadyH.nil
        go_simp
        refine (viewTier_any S _ _ (now, p, []) tier ss _ Iw6.out.ok FT1.out VK1.out RRru.out HTI.out (HV.out.kept Iw6.out.fr) (by have := SF.out; omega) FS.out).mono ?_
        rintro e w7 ⟨u1, rfl, ox, bb⟩
        have Iw7 := Hid.of (Iw6.out.next bb)
        have CSw7 := Hid.of (CSw6.out.next bb)
        have rowu1 := own_row ox
        obtain ⟨u1a, u1c, hx, -⟩ := own_one ox
        rw [tflat] at rowu1
        obtain ⟨A, hA⟩ : ∃ A, vT (now, p, []) tier ss = A := ⟨_, rfl⟩
        obtain ⟨a, ha⟩ : ∃ a, A.length = a := ⟨_, rfl⟩
        have LA : a ≤ 40 := by rw [← ha, ← hA]; exact Nat.le_trans (vT_good (i := tier) VK1.out FS.out).len SF.out
        have GA := Hid.of (vT_good (i := tier) VK1.out FS.out)
        have HFA := HF.out
        rw [hA] at rowu1 hx GA HFA
        rw [ha] at rowu1 hx
        subst hx
        have RA7 := Hid.of rowu1
        have HFF := Hid.of HFA
        have HLA := Hid.of LA
        have HAA := Hid.of ha
        clear bb ox rowu1 hA ha LA HFA HF RRru Iw6 CSw6
        clear hHeld d0 d1
        have d0 := (CSw7.out).head
        have d1 := ((CSw7.out).tail).head
        refine hK.out _ _ ⟨d0, d1⟩ (fun hHeld => ?_)
        clear hK K
        try simp only [Act.put, List.setIfInBounds_toArray, List.set_cons_zero, List.set_cons_succ]
        refine wpAnyH_ready (rs := [10]) (by kernel_rfl) (by simp) ?_
        refine AllReadyH.cons (o := ⟨_, _, _, _, _, _⟩) rfl (fun K hK => ?_) AllReadyH.nil
        go_simp
        refine (S.of _ _ p (now + more) [] _ Iw7.out.ok FT2.out Iw7.out.row ⟨_, _, rfl, .inl rfl⟩ (Nat.le_refl _)).mono ?_
        rintro e w8 ⟨rv, rfl, ou, bb⟩
        have RRrv := Hid.of (OwnRch.row ou)
        have Iw8 := Hid.of (Iw7.out.next bb)
        have CSw8 := Hid.of (CSw7.out.next bb)
        have RA8 := Hid.of (RA7.out.kept bb)
        clear bb ou Iw7 CSw7
        clear RA7
        clear hHeld d0 d1
        have d0 := (CSw8.out).head
        have d1 := ((CSw8.out).tail).head
        refine hK.out _ _ ⟨d0, d1⟩ (fun hHeld => ?_)
        clear hK K
        try simp only [Act.put, List.setIfInBounds_toArray, List.set_cons_zero, List.set_cons_succ]
        refine wpAnyH_ready (rs := [13]) (by kernel_rfl) (by simp) ?_
        refine AllReadyH.cons (o := ⟨_, _, _, _, _, _⟩) rfl (fun K hK => ?_) AllReadyH.nil
        go_simp
        refine (viewTier_any S _ _ (now + more, p, []) tier ss _ Iw8.out.ok FT2.out VK2.out RRrv.out HTI.out (HV.out.kept Iw8.out.fr) (by have := SF.out; omega) FS.out).mono ?_
        rintro e w9 ⟨u2, rfl, ox, bb⟩
        have Iw9 := Hid.of (Iw8.out.next bb)
        have CSw9 := Hid.of (CSw8.out.next bb)
        have rowu2 := own_row ox
        obtain ⟨u2a, u2c, hx, -⟩ := own_one ox
        have RA9 := Hid.of (RA8.out.kept bb)
        rw [tflat, HFF.out] at rowu2
        rw [HFF.out] at hx
        obtain ⟨b, hb⟩ : ∃ b, (tKeep A F).length = b := ⟨_, rfl⟩
        rw [hb] at rowu2 hx
        subst hx
        have RB9 := Hid.of rowu2
        have HBL := Hid.of hb
        clear bb ox rowu2 hb RA8 RRrv Iw8 CSw8 HFF
        clear hHeld d0 d1
        have d0 := (CSw9.out).head
        have d1 := ((CSw9.out).tail).head
        refine hK.out _ _ ⟨d0, d1⟩ (fun hHeld => ?_)
        clear hK K
        try simp only [Act.put, List.setIfInBounds_toArray, List.set_cons_zero, List.set_cons_succ]
        refine wpAnyH_take (i := 14) (oi := ⟨_, _, _, _, _, _⟩) (v := ?_) rfl (by kernel_rfl) (by kernel_rfl) (by kernel_rfl) (fun _ _ _ h => h) (Or.inl ⟨by rfl, ?_⟩) hHeld ?_
        rotate_left
        · intro w' hSw
          try dsimp only at hSw
          go_simp
          all_goals with_reducible rfl
        simp only [Act.put, List.setIfInBounds_toArray, List.set_cons_zero, List.set_cons_succ]
        refine wpAnyH_take (i := 15) (oi := ⟨_, _, _, _, _, _⟩) (v := ?_) rfl (by kernel_rfl) (by kernel_rfl) (by kernel_rfl) (fun _ _ _ h => h) (Or.inl ⟨by rfl, ?_⟩) hHeld ?_
        rotate_left
        · intro w' hSw
          try dsimp only at hSw
          go_simp
          all_goals with_reducible rfl
        simp only [Act.put, List.setIfInBounds_toArray, List.set_cons_zero, List.set_cons_succ]
        refine wpAnyH_done (by kernel_rfl) ?_ _
        refine NoPanic.normal ?_
        clear hHeld d0 d1 CSw9
        clear hWD hwr
        have a9 : (a : Int) ≤ 40 := by have := HLA.out; omega
        have BL : b ≤ a := by rw [← HBL.out, ← HAA.out]; exact List.length_filter_le _ _
        have b9 : (b : Int) ≤ 40 := by omega
        have HBLE := Hid.of BL
        clear BL
        go_wp2_with fail
        go_loopg [15, 16] a (fun kx kv iv wr => ∃ i : Nat, iv = .int .i64 i ∧ kv = .int .i64 ((A.take i).filter fun x => decide (F ≤ x.s)).length ∧ i ≤ a ∧ a - i ≤ kx ∧ Hid (Below w9.heap.size w9 wr))
        case atStart => exact ⟨0, rfl, rfl, Nat.zero_le _, Nat.le_refl _, Hid.of (Below.refl _ _)⟩
        case round =>
          obtain ⟨i, rfl, rfl, hia, hix, BW⟩ := hrel
          have i0 : (0 : Int) ≤ (i : Int) := Int.natCast_nonneg _
          obtain ⟨k, hk⟩ : ∃ k, ((A.take i).filter fun x => decide (F ≤ x.s)).length = k := ⟨_, rfl⟩
          have HK := Hid.of hk
          have hkb : k ≤ b := by rw [← hk, ← HBL.out]; exact filter_len _ _ _
          rw [hk]
          clear hk
          have k0 : (0 : Int) ≤ (k : Int) := Int.natCast_nonneg _
          by_cases hlt : (i : Int) < (a : Int)
          · obtain ⟨x, hx⟩ : ∃ x, A[i]? = some x := ⟨_, List.getElem?_eq_getElem (by have := HAA.out; omega)⟩
            have NX := Hid.of (filter_take (P := fun x => decide (F ≤ x.s)) hx)
            obtain ⟨xb, xo0, hxa, xl, x0, x1, x2, x3, x4, x5, x6⟩ := r_at (RA9.out.kept BW.out) i (rl x) (by rw [List.getElem?_map, hx]; rfl)
            subst hxa
            by_cases hkl : (k : Int) < (b : Int)
            · obtain ⟨y, hy⟩ : ∃ y, (tKeep A F)[k]? = some y := ⟨_, List.getElem?_eq_getElem (by have := HBL.out; omega)⟩
              obtain ⟨yb, yo0, hya, yl, y0, y1, y2, y3, y4, y5, y6⟩ := r_at (RB9.out.kept BW.out) k (rl y) (by rw [List.getElem?_map, hy]; rfl)
              subst hya
              have hfm := fun hp => filter_next (P := fun x => decide (F ≤ x.s)) hx hp
              rw [HK.out] at hfm
              have HEQ : Hid (recSame x y = decide (F ≤ x.s)) := Hid.of (by
                by_cases hp : F ≤ x.s
                · have h1 := (hfm (decide_eq_true hp)).symm.trans hy
                  rw [decide_eq_true hp, Option.some.inj h1]
                  exact recSame_iff.2 rfl
                · rw [decide_eq_false hp]
                  rw [← Bool.not_eq_true, recSame_iff]
                  intro e
                  have h2 := (List.mem_filter.1 (List.mem_of_getElem? hy)).2
                  rw [← e] at h2
                  exact hp (of_decide_eq_true h2))
              have XK : Hid ((A.take (i + 1)).filter (fun x => decide (F ≤ x.s)) = (A.take (i + 1)).filter (fun x => decide (F ≤ x.s))) := Hid.of rfl
              obtain ⟨xo, hxo⟩ : ∃ xo, xo0 + i * 7 = xo := ⟨_, rfl⟩
              obtain ⟨yo, hyo⟩ : ∃ yo, yo0 + k * 7 = yo := ⟨_, rfl⟩
              rw [hxo] at x0 x1 x2 x3 x4 x5 x6
              rw [hyo] at y0 y1 y2 y3 y4 y5 y6
              simp only [rl] at x0 x1 x2 x3 x4 x5 x6 y0 y1 y2 y3 y4 y5 y6
              go_upto_region 9 with fail
              obtain ⟨WX, hWX⟩ : ∃ WX, wr.drew = WX := ⟨_, rfl⟩
              have bX : Below wr.heap.size wr WX := by rw [← hWX]; exact (Below.refl _ _).drew
              have CSX : Hid (Cs WX [(⟨xb, xo, none⟩, .string x.n), (⟨xb, xo + 1, none⟩, .int .i64 x.s), (⟨xb, xo + 2, none⟩, .int .i64 x.a.c), (⟨xb, xo + 3, none⟩, .int .i64 x.a.hi), (⟨xb, xo + 4, none⟩, .int .u64 x.a.lo), (⟨xb, xo + 5, none⟩, .int .i64 x.a.mn), (⟨xb, xo + 6, none⟩, .int .i64 x.a.mx), (⟨yb, yo, none⟩, .string y.n), (⟨yb, yo + 1, none⟩, .int .i64 y.s), (⟨yb, yo + 2, none⟩, .int .i64 y.a.c), (⟨yb, yo + 3, none⟩, .int .i64 y.a.hi), (⟨yb, yo + 4, none⟩, .int .u64 y.a.lo), (⟨yb, yo + 5, none⟩, .int .i64 y.a.mn), (⟨yb, yo + 6, none⟩, .int .i64 y.a.mx)]) := Hid.of (Cs.next (.cons xl x0 (.cons xl x1 (.cons xl x2 (.cons xl x3 (.cons xl x4 (.cons xl x5 (.cons xl x6 (.cons yl y0 (.cons yl y1 (.cons yl y2 (.cons yl y3 (.cons yl y4 (.cons yl y5 (.cons yl y6 (.nil _))))))))))))))) bX)
              have BX := Hid.of (BW.out.trans (bX.mono BW.out.size))
              clear bX x0 x1 x2 x3 x4 x5 x6 y0 y1 y2 y3 y4 y5 y6 hfm hx hy XK
              have d0 := (CSX.out).head
              have d1 := ((CSX.out).tail).head
              have d2 := (((CSX.out).tail).tail).head
              have d3 := ((((CSX.out).tail).tail).tail).head
              have d4 := (((((CSX.out).tail).tail).tail).tail).head
              have d5 := ((((((CSX.out).tail).tail).tail).tail).tail).head
              have d6 := (((((((CSX.out).tail).tail).tail).tail).tail).tail).head
              have d7 := ((((((((CSX.out).tail).tail).tail).tail).tail).tail).tail).head
              have d8 := (((((((((CSX.out).tail).tail).tail).tail).tail).tail).tail).tail).head
              have d9 := ((((((((((CSX.out).tail).tail).tail).tail).tail).tail).tail).tail).tail).head
              have d10 := (((((((((((CSX.out).tail).tail).tail).tail).tail).tail).tail).tail).tail).tail).head
              have d11 := ((((((((((((CSX.out).tail).tail).tail).tail).tail).tail).tail).tail).tail).tail).tail).head
              have d12 := (((((((((((((CSX.out).tail).tail).tail).tail).tail).tail).tail).tail).tail).tail).tail).tail).head
              have d13 := ((((((((((((((CSX.out).tail).tail).tail).tail).tail).tail).tail).tail).tail).tail).tail).tail).tail).head
              refine wp_region_noPanic ?_
              refine wp_region_held_drew (S := fun w' => w'.cell? ⟨xb, xo, none⟩ = some (.string x.n) ∧ w'.cell? ⟨xb, xo + 1, none⟩ = some (.int .i64 x.s) ∧ w'.cell? ⟨xb, xo + 2, none⟩ = some (.int .i64 x.a.c) ∧ w'.cell? ⟨xb, xo + 3, none⟩ = some (.int .i64 x.a.hi) ∧ w'.cell? ⟨xb, xo + 4, none⟩ = some (.int .u64 x.a.lo) ∧ w'.cell? ⟨xb, xo + 5, none⟩ = some (.int .i64 x.a.mn) ∧ w'.cell? ⟨xb, xo + 6, none⟩ = some (.int .i64 x.a.mx) ∧ w'.cell? ⟨yb, yo, none⟩ = some (.string y.n) ∧ w'.cell? ⟨yb, yo + 1, none⟩ = some (.int .i64 y.s) ∧ w'.cell? ⟨yb, yo + 2, none⟩ = some (.int .i64 y.a.c) ∧ w'.cell? ⟨yb, yo + 3, none⟩ = some (.int .i64 y.a.hi) ∧ w'.cell? ⟨yb, yo + 4, none⟩ = some (.int .u64 y.a.lo) ∧ w'.cell? ⟨yb, yo + 5, none⟩ = some (.int .i64 y.a.mn) ∧ w'.cell? ⟨yb, yo + 6, none⟩ = some (.int .i64 y.a.mx)) (by kernel_rfl) ?_ (fun hHeld => ?_)
              · rw [hWX]; exact ⟨d0, d1, d2, d3, d4, d5, d6, d7, d8, d9, d10, d11, d12, d13⟩
              refine wpAnyH_take (i := 0) (oi := ⟨_, _, _, _, _, _⟩) (v := ?_) rfl (by kernel_rfl) (by kernel_rfl) (by kernel_rfl) (fun _ _ _ h => h) (Or.inl ⟨by rfl, ?_⟩) hHeld ?_
              rotate_left
              · intro w' hSw
                try dsimp only at hSw
                go_simp
                all_goals with_reducible rfl
              simp only [Act.put, List.setIfInBounds_toArray, List.set_cons_zero, List.set_cons_succ]
              refine wpAnyH_take (i := 1) (oi := ⟨_, _, _, _, _, _⟩) (v := ?_) rfl (by kernel_rfl) (by kernel_rfl) (by kernel_rfl) (fun _ _ _ h => h) (Or.inl ⟨by rfl, ?_⟩) hHeld ?_
              rotate_left
              · intro w' hSw
                try dsimp only at hSw
                go_simp
                all_goals with_reducible rfl
              simp only [Act.put, List.setIfInBounds_toArray, List.set_cons_zero, List.set_cons_succ]
              refine wpAnyH_take (i := 2) (oi := ⟨_, _, _, _, _, _⟩) (v := ?_) rfl (by kernel_rfl) (by kernel_rfl) (by kernel_rfl) (fun _ _ _ h => h) (Or.inl ⟨by rfl, ?_⟩) hHeld ?_
              rotate_left
              · intro w' hSw
                try dsimp only at hSw
                go_simp
                all_goals with_reducible rfl
              simp only [Act.put, List.setIfInBounds_toArray, List.set_cons_zero, List.set_cons_succ]
              refine wpAnyH_take (i := 3) (oi := ⟨_, _, _, _, _, _⟩) (v := ?_) rfl (by kernel_rfl) (by kernel_rfl) (by kernel_rfl) (fun _ _ _ h => h) (Or.inl ⟨by rfl, ?_⟩) hHeld ?_
              rotate_left
              · intro w' hSw
                try dsimp only at hSw
                go_simp
                all_goals with_reducible rfl
              simp only [Act.put, List.setIfInBounds_toArray, List.set_cons_zero, List.set_cons_succ]
              refine wpAnyH_take (i := 4) (oi := ⟨_, _, _, _, _, _⟩) (v := ?_) rfl (by kernel_rfl) (by kernel_rfl) (by kernel_rfl) (fun _ _ _ h => h) (Or.inl ⟨by rfl, ?_⟩) hHeld ?_
              rotate_left
              · intro w' hSw
                try dsimp only at hSw
                go_simp
                all_goals with_reducible rfl
              simp only [Act.put, List.setIfInBounds_toArray, List.set_cons_zero, List.set_cons_succ]
              refine wpAnyH_take (i := 5) (oi := ⟨_, _, _, _, _, _⟩) (v := ?_) rfl (by kernel_rfl) (by kernel_rfl) (by kernel_rfl) (fun _ _ _ h => h) (Or.inl ⟨by rfl, ?_⟩) hHeld ?_
              rotate_left
              · intro w' hSw
                try dsimp only at hSw
                go_simp
                all_goals with_reducible rfl
              simp only [Act.put, List.setIfInBounds_toArray, List.set_cons_zero, List.set_cons_succ]
              refine wpAnyH_take (i := 6) (oi := ⟨_, _, _, _, _, _⟩) (v := ?_) rfl (by kernel_rfl) (by kernel_rfl) (by kernel_rfl) (fun _ _ _ h => h) (Or.inl ⟨by rfl, ?_⟩) hHeld ?_
              rotate_left
              · intro w' hSw
                try dsimp only at hSw
                go_simp
                all_goals with_reducible rfl
              simp only [Act.put, List.setIfInBounds_toArray, List.set_cons_zero, List.set_cons_succ]
              refine wpAnyH_take (i := 7) (oi := ⟨_, _, _, _, _, _⟩) (v := ?_) rfl (by kernel_rfl) (by kernel_rfl) (by kernel_rfl) (fun _ _ _ h => h) (Or.inl ⟨by rfl, ?_⟩) hHeld ?_
              rotate_left
              · intro w' hSw
                try dsimp only at hSw
                go_simp
                all_goals with_reducible rfl
              simp only [Act.put, List.setIfInBounds_toArray, List.set_cons_zero, List.set_cons_succ]
              refine wpAnyH_take (i := 8) (oi := ⟨_, _, _, _, _, _⟩) (v := ?_) rfl (by kernel_rfl) (by kernel_rfl) (by kernel_rfl) (fun _ _ _ h => h) (Or.inl ⟨by rfl, ?_⟩) hHeld ?_
              rotate_left
              · intro w' hSw
                try dsimp only at hSw
                go_simp
                all_goals with_reducible rfl
              simp only [Act.put, List.setIfInBounds_toArray, List.set_cons_zero, List.set_cons_succ]
              refine wpAnyH_take (i := 9) (oi := ⟨_, _, _, _, _, _⟩) (v := ?_) rfl (by kernel_rfl) (by kernel_rfl) (by kernel_rfl) (fun _ _ _ h => h) (Or.inl ⟨by rfl, ?_⟩) hHeld ?_
              rotate_left
              · intro w' hSw
                try dsimp only at hSw
                go_simp
                all_goals with_reducible rfl
              simp only [Act.put, List.setIfInBounds_toArray, List.set_cons_zero, List.set_cons_succ]
              refine wpAnyH_take (i := 10) (oi := ⟨_, _, _, _, _, _⟩) (v := ?_) rfl (by kernel_rfl) (by kernel_rfl) (by kernel_rfl) (fun _ _ _ h => h) (Or.inl ⟨by rfl, ?_⟩) hHeld ?_
              rotate_left
              · intro w' hSw
                try dsimp only at hSw
                go_simp
                all_goals with_reducible rfl
              simp only [Act.put, List.setIfInBounds_toArray, List.set_cons_zero, List.set_cons_succ]
              refine wpAnyH_take (i := 11) (oi := ⟨_, _, _, _, _, _⟩) (v := ?_) rfl (by kernel_rfl) (by kernel_rfl) (by kernel_rfl) (fun _ _ _ h => h) (Or.inl ⟨by rfl, ?_⟩) hHeld ?_
              rotate_left
              · intro w' hSw
                try dsimp only at hSw
                go_simp
                all_goals with_reducible rfl
              simp only [Act.put, List.setIfInBounds_toArray, List.set_cons_zero, List.set_cons_succ]
              refine wpAnyH_take (i := 12) (oi := ⟨_, _, _, _, _, _⟩) (v := ?_) rfl (by kernel_rfl) (by kernel_rfl) (by kernel_rfl) (fun _ _ _ h => h) (Or.inl ⟨by rfl, ?_⟩) hHeld ?_
              rotate_left
              · intro w' hSw
                try dsimp only at hSw
                go_simp
                all_goals with_reducible rfl
              simp only [Act.put, List.setIfInBounds_toArray, List.set_cons_zero, List.set_cons_succ]
              refine wpAnyH_take (i := 13) (oi := ⟨_, _, _, _, _, _⟩) (v := .bool (recSame x y)) rfl (by kernel_rfl) (by kernel_rfl) (by kernel_rfl) (fun _ _ _ h => h) (Or.inl ⟨by rfl, ?_⟩) hHeld ?_
              · intro w' hSw
                have hq := recEql x y w'
                simp [execOp, Act.eval, run_eqGuard_agg w' .eql 51 _ _ _ _ recGuard, hq]
              simp only [Act.put, List.setIfInBounds_toArray, List.set_cons_zero, List.set_cons_succ]
              rw [HEQ.out]
              refine wpAnyH_take (i := 14) (oi := ⟨_, _, _, _, _, _⟩) (v := ?_) rfl (by kernel_rfl) (by kernel_rfl) (by kernel_rfl) (fun _ _ _ h => h) (Or.inl ⟨by rfl, ?_⟩) hHeld ?_
              rotate_left
              · intro w' hSw
                try dsimp only at hSw
                go_simp
                all_goals with_reducible rfl
              simp only [Act.put, List.setIfInBounds_toArray, List.set_cons_zero, List.set_cons_succ]
              refine wpAnyH_done (by kernel_rfl) ?_ _
              refine NoPanic.normal ?_
              clear hHeld d0 d1 d2 d3 d4 d5 d6 d7 d8 d9 d10 d11 d12 d13
              obtain ⟨pb, hpb⟩ : ∃ pb, decide (F ≤ x.s) = pb := ⟨_, rfl⟩
              rw [hpb] at NX ⊢
              cases pb
              · have N1 : Hid (((A.take (i + 1)).filter fun x => decide (F ≤ x.s)).length = k) := Hid.of (by have h := NX.out; rw [HK.out] at h; exact h)
                clear hpb NX
                go_wp2_with fail
                go_roundg (a - (i + 1))
                case measure => omega
                case rel => exact ⟨i + 1, by go_num, by rw [N1.out], by omega, Nat.le_refl _, BX⟩
              · have N1 : Hid (((A.take (i + 1)).filter fun x => decide (F ≤ x.s)).length = k + 1) := Hid.of (by have h := NX.out; rw [HK.out] at h; exact h)
                clear hpb NX
                go_wp2_with fail
                go_roundg (a - (i + 1))
                case measure => omega
                case rel => exact ⟨i + 1, by go_num, by rw [N1.out]; go_num, by omega, Nat.le_refl _, BX⟩
            · have hnp : decide (F ≤ x.s) = false := by
                rw [← Bool.not_eq_true]
                intro hp
                have h := filter_next (P := fun x => decide (F ≤ x.s)) hx hp
                rw [HK.out] at h
                have h2 := (List.getElem?_eq_some_iff.1 h).1
                have h3 := HBL.out
                unfold tKeep at h3
                omega
              have N1 : Hid (((A.take (i + 1)).filter fun x => decide (F ≤ x.s)).length = k) := Hid.of (by have h := NX.out; rw [hnp, HK.out] at h; exact h)
              clear hnp NX hx x0 x1 x2 x3 x4 x5 x6
              go_upto_region 9 with fail
              obtain ⟨WX, hWX⟩ : ∃ WX, wr.drew = WX := ⟨_, rfl⟩
              have bX : Below wr.heap.size wr WX := by rw [← hWX]; exact (Below.refl _ _).drew
              have BX := Hid.of (BW.out.trans (bX.mono BW.out.size))
              clear bX
              refine wp_region_noPanic ?_
              refine wp_region_held_drew (S := fun _ => True) (by kernel_rfl) ?_ (fun hHeld => ?_)
              · exact trivial
              refine wpAnyH_take (i := 0) (oi := ⟨_, _, _, _, _, _⟩) (v := ?_) rfl (by kernel_rfl) (by kernel_rfl) (by kernel_rfl) (fun _ _ _ h => h) (Or.inl ⟨by rfl, ?_⟩) hHeld ?_
              rotate_left
              · intro w' hSw
                try dsimp only at hSw
                go_simp
                all_goals with_reducible rfl
              simp only [Act.put, List.setIfInBounds_toArray, List.set_cons_zero, List.set_cons_succ]
              refine wpAnyH_take (i := 1) (oi := ⟨_, _, _, _, _, _⟩) (v := ?_) rfl (by kernel_rfl) (by kernel_rfl) (by kernel_rfl) (fun _ _ _ h => h) (Or.inl ⟨by rfl, ?_⟩) hHeld ?_
              rotate_left
              · intro w' hSw
                try dsimp only at hSw
                go_simp
                all_goals with_reducible rfl
              simp only [Act.put, List.setIfInBounds_toArray, List.set_cons_zero, List.set_cons_succ]
              refine wpAnyH_take (i := 2) (oi := ⟨_, _, _, _, _, _⟩) (v := ?_) rfl (by kernel_rfl) (by kernel_rfl) (by kernel_rfl) (fun _ _ _ h => h) (Or.inl ⟨by rfl, ?_⟩) hHeld ?_
              rotate_left
              · intro w' hSw
                try dsimp only at hSw
                go_simp
                all_goals with_reducible rfl
              simp only [Act.put, List.setIfInBounds_toArray, List.set_cons_zero, List.set_cons_succ]
              refine wpAnyH_take (i := 3) (oi := ⟨_, _, _, _, _, _⟩) (v := ?_) rfl (by kernel_rfl) (by kernel_rfl) (by kernel_rfl) (fun _ _ _ h => h) (Or.inl ⟨by rfl, ?_⟩) hHeld ?_
              rotate_left
              · intro w' hSw
                try dsimp only at hSw
                go_simp
                all_goals with_reducible rfl
              simp only [Act.put, List.setIfInBounds_toArray, List.set_cons_zero, List.set_cons_succ]
              refine wpAnyH_take (i := 4) (oi := ⟨_, _, _, _, _, _⟩) (v := ?_) rfl (by kernel_rfl) (by kernel_rfl) (by kernel_rfl) (fun _ _ _ h => h) (Or.inl ⟨by rfl, ?_⟩) hHeld ?_
              rotate_left
              · intro w' hSw
                try dsimp only at hSw
                go_simp
                all_goals with_reducible rfl
              simp only [Act.put, List.setIfInBounds_toArray, List.set_cons_zero, List.set_cons_succ]
              refine wpAnyH_take (i := 5) (oi := ⟨_, _, _, _, _, _⟩) (v := undef) rfl (by kernel_rfl) (by kernel_rfl) (by kernel_rfl) (fun _ _ _ h => h) (Or.inr ⟨by rfl, rfl⟩) hHeld ?_
              simp only [Act.put, List.setIfInBounds_toArray, List.set_cons_zero, List.set_cons_succ]
              refine wpAnyH_take (i := 6) (oi := ⟨_, _, _, _, _, _⟩) (v := undef) rfl (by kernel_rfl) (by kernel_rfl) (by kernel_rfl) (fun _ _ _ h => h) (Or.inr ⟨by rfl, rfl⟩) hHeld ?_
              simp only [Act.put, List.setIfInBounds_toArray, List.set_cons_zero, List.set_cons_succ]
              refine wpAnyH_take (i := 7) (oi := ⟨_, _, _, _, _, _⟩) (v := undef) rfl (by kernel_rfl) (by kernel_rfl) (by kernel_rfl) (fun _ _ _ h => h) (Or.inr ⟨by rfl, rfl⟩) hHeld ?_
              simp only [Act.put, List.setIfInBounds_toArray, List.set_cons_zero, List.set_cons_succ]
              refine wpAnyH_take (i := 8) (oi := ⟨_, _, _, _, _, _⟩) (v := undef) rfl (by kernel_rfl) (by kernel_rfl) (by kernel_rfl) (fun _ _ _ h => h) (Or.inr ⟨by rfl, rfl⟩) hHeld ?_
              simp only [Act.put, List.setIfInBounds_toArray, List.set_cons_zero, List.set_cons_succ]
              refine wpAnyH_take (i := 9) (oi := ⟨_, _, _, _, _, _⟩) (v := undef) rfl (by kernel_rfl) (by kernel_rfl) (by kernel_rfl) (fun _ _ _ h => h) (Or.inr ⟨by rfl, rfl⟩) hHeld ?_
              simp only [Act.put, List.setIfInBounds_toArray, List.set_cons_zero, List.set_cons_succ]
              refine wpAnyH_take (i := 10) (oi := ⟨_, _, _, _, _, _⟩) (v := undef) rfl (by kernel_rfl) (by kernel_rfl) (by kernel_rfl) (fun _ _ _ h => h) (Or.inr ⟨by rfl, rfl⟩) hHeld ?_
              simp only [Act.put, List.setIfInBounds_toArray, List.set_cons_zero, List.set_cons_succ]
              refine wpAnyH_take (i := 11) (oi := ⟨_, _, _, _, _, _⟩) (v := undef) rfl (by kernel_rfl) (by kernel_rfl) (by kernel_rfl) (fun _ _ _ h => h) (Or.inr ⟨by rfl, rfl⟩) hHeld ?_
              simp only [Act.put, List.setIfInBounds_toArray, List.set_cons_zero, List.set_cons_succ]
              refine wpAnyH_take (i := 12) (oi := ⟨_, _, _, _, _, _⟩) (v := undef) rfl (by kernel_rfl) (by kernel_rfl) (by kernel_rfl) (fun _ _ _ h => h) (Or.inr ⟨by rfl, rfl⟩) hHeld ?_
              simp only [Act.put, List.setIfInBounds_toArray, List.set_cons_zero, List.set_cons_succ]
              refine wpAnyH_take (i := 13) (oi := ⟨_, _, _, _, _, _⟩) (v := undef) rfl (by kernel_rfl) (by kernel_rfl) (by kernel_rfl) (fun _ _ _ h => h) (Or.inr ⟨by rfl, rfl⟩) hHeld ?_
              simp only [Act.put, List.setIfInBounds_toArray, List.set_cons_zero, List.set_cons_succ]
              refine wpAnyH_take (i := 14) (oi := ⟨_, _, _, _, _, _⟩) (v := ?_) rfl (by kernel_rfl) (by kernel_rfl) (by kernel_rfl) (fun _ _ _ h => h) (Or.inl ⟨by rfl, ?_⟩) hHeld ?_
              rotate_left
              · intro w' hSw
                try dsimp only at hSw
                go_simp
                all_goals with_reducible rfl
              simp only [Act.put, List.setIfInBounds_toArray, List.set_cons_zero, List.set_cons_succ]
              refine wpAnyH_done (by kernel_rfl) ?_ _
              refine NoPanic.normal ?_
              clear hHeld
              go_wp2_with fail
              go_roundg (a - (i + 1))
              case measure => omega
              case rel => exact ⟨i + 1, by go_num, by rw [N1.out], by omega, Nat.le_refl _, BX⟩
          · obtain rfl : i = a := by omega
            have hkb2 : k = b := by
              rw [← HK.out, ← HBL.out, List.take_of_length_le (Nat.le_of_eq HAA.out)]
              rfl
            subst hkb2
            have IW := Hid.of (Iw9.out.next BW.out)
            go_wp2_with fail
            refine (viewAlive_any S _ IW.out.ok).mono ?_
            rintro e w10 ⟨rfl, b10⟩
            have B10 := Hid.of (IW.out.fr.trans (b10.mono IW.out.fr.size))
            clear b10
            go_wp2
            go_ret
            exact ⟨rfl, B10.out⟩

end Go.Proofs.Ytdhkmcmipkfkjaa
