/-
  A bundle of texts: POI RLA RCV RSS.
-/
import Derived.Deep.RegionHeld3
import Derived.Test.YtfbgjoildibikaaQ16
import Derived.Test.YtfbgjoildibikaaQ19
import Derived.Test.YtfbgjoildibikaaQ15
import Derived.Test.YtfbgjoildibikaaQ06
/-
  Policies that came in, by value: their names and tiers.
-/
namespace Go.Proofs.Ytfbgjoildibikaa
open Go.ChangeShapes Go.WideShapes Go.ChangeAt Go.RowKit Go.Lib

theorem tier_leaves : leaves Try.prog 2 63 = some [9, 3, 3, 3] := by kernel_rfl
theorem tier_size : Try.prog.cellsOf 63 = 4 := by kernel_rfl
theorem pol_leaves : leaves Try.prog 2 24 = some [9, 22] := by kernel_rfl
theorem pol_size : Try.prog.cellsOf 24 = 2 := by kernel_rfl

theorem in64_of (n : Int) (h : (Lit.int .i64 n).wf = true) : In64 n := int_bounds h

/-- What is told of a tier that came in. -/
def TIn (x : TierL) : Prop := x.1.size ≤ maxLen ∧ In64 x.2.1 ∧ In64 x.2.2.1 ∧ In64 x.2.2.2

theorem tiers_of_trod {H : Type} {enc : TypeId × Value → H} {W : World} {sp : Nat → Bool} {a : Option Addr} {len cap : Nat} {d : DataW H} {ps : List MemPlace} (h : DataW.Trod enc Try.prog W 0 sp true 22 (.slice a len cap) d ps) :
    ∃ l : List TierL, l.length = len ∧ CellRow W (.slice a len cap) len (flat penc l) ∧ ∀ x ∈ l, TIn x :=
  rows_of_trod Try.underlying22 tier_size (by decide) penc_len TIn (⟨#[]⟩, 0, 0, 0) (fun fuel cs x hl hx => by
    have hF := leaf_at 2 _ _ cs fuel x tier_leaves (by rw [tier_size]; omega) hx
    obtain ⟨n0, c0, w0⟩ := leaf_string Try.underlying9 (hF 0 _ rfl)
    obtain ⟨n1, c1, w1⟩ := leaf_int Try.underlying3 (hF 1 _ rfl)
    obtain ⟨n2, c2, w2⟩ := leaf_int Try.underlying3 (hF 2 _ rfl)
    obtain ⟨n3, c3, w3⟩ := leaf_int Try.underlying3 (hF 3 _ rfl)
    refine ⟨(n0, n1, n2, n3), ?_, w0, ?_⟩
    · match cs, hl with
      | [x0, x1, x2, x3], _ =>
        simp at c0 c1 c2 c3
        subst c0 c1 c2 c3
        rfl
    · exact ⟨in64_of n1 w1, in64_of n2 w2, in64_of n3 w3⟩) h

theorem cap_of_trod {H : Type} {enc : TypeId × Value → H} {P : Program} {W : World} {sp : Nat → Bool} {ty e : TypeId} {a : Option Addr} {len cap : Nat} {d : DataW H} {ps : List MemPlace} (ht : P.underlying ty = some (.slice e)) (h : DataW.Trod enc P W 0 sp true ty (.slice a len cap) d ps) : CapOk (.slice a len cap) := by
  obtain ⟨fuel, hf⟩ := h
  rcases DataW.trod_slice ht hf with ⟨h1, _⟩ | ⟨a', len', cap', elems, rest, n, _, h1, _, _, h2, _⟩
  · simp [Value.cells] at h1
    obtain ⟨_, rfl, rfl⟩ := h1
    exact Nat.le_refl _
  · simp [Value.cells] at h1
    obtain ⟨_, rfl, rfl⟩ := h1
    exact h2

set_option maxRecDepth 20000 in
/-- One that came in by value. -/
theorem pol_of_trod {H : Type} {enc : TypeId × Value → H} {W : World} {sp : Nat → Bool} {r : Reach} {b0 : Nat} {v : Value} {d : DataW H} {ps : List MemPlace} (hv : Value.okWide Try.prog W r b0 24 v)
    (h : DataW.Trod enc Try.prog W 0 sp true 24 v d ps) : ∃ p : PolL, PolRow W v p ∧ p.1.size ≤ maxLen ∧ ∀ x ∈ p.2, TIn x := by
  obtain ⟨cs, rfl, hsz⟩ := okWide_struct Try.underlying24 hv
  obtain ⟨fuel, hf⟩ := h
  have hl : cs.toList.length = 2 := Array.length_toList.trans (hsz.trans pol_size)
  have hF := leaf_at 2 _ _ cs.toList fuel _ pol_leaves (by rw [pol_size]; omega) hf
  obtain ⟨n0, c0, w0⟩ := leaf_string Try.underlying9 (hF 0 _ rfl)
  obtain ⟨a1, l1, k1, d1, p1, c1, t1⟩ := leaf_slice Try.underlying22 (hF 1 _ rfl)
  obtain ⟨l, hlen, hr, ht⟩ := tiers_of_trod t1
  refine ⟨(n0, l), ⟨.slice a1 l1 k1, ?_, by rw [hlen]; exact hr, cap_of_trod Try.underlying22 t1⟩, w0, ht⟩
  have e : cs.toList = [.string n0, .slice a1 l1 k1] := by
    match hcs : cs.toList, hl with
    | [x0, x1], _ =>
      rw [hcs] at c0 c1
      simp at c0 c1
      rw [c0, c1]
  rw [← Array.toArray_toList (xs := cs), e]

/-- A small one that came in fits. -/
theorem fit_of {p : PolL} (h : ∀ x ∈ p.2, TIn x) (s : PSmall p) : PFit p :=
  ⟨by have := s.1; omega, by have := s.2.1; omega, fun x hx => ⟨by have := s.2.2 x hx; omega, (h x hx).2⟩⟩

end Go.Proofs.Ytfbgjoildibikaa

/-
  ReachLater: later it is as made then; time does not go back.
-/
namespace Go.Proofs.Ytfbgjoildibikaa
open Go.RowKit Go.Lib

theorem rAll_length (r : RchL) : (rAll r).length = r.2.1.2.length := by simp [rAll]

/-- Two Reaches in two variables. -/
structure LH (S : ReachSpec) (w0 : World) (b1 b2 : Nat) (now : Int) (n : ByteArray) (s f s' f' : Value) (r : RchL) (w : World) : Prop where
  h1 : RH S w0 b1 now n s f r w
  h2 : RH S w0 b2 now n s' f' r w

section
variable {S : ReachSpec} {w0 w w' : World} {b1 b2 : Nat} {n : ByteArray} {now : Int} {s f s' f' : Value} {r : RchL}
theorem LH.next (h : LH S w0 b1 b2 now n s f s' f' r w) (c : Below w.heap.size w w') : LH S w0 b1 b2 now n s f s' f' r w' := ⟨h.h1.next c, h.h2.next c⟩
theorem LH.at (h : LH S w0 b1 b2 now n s f s' f' r w) : w.cell? ⟨b1, 0, none⟩ = some (.int .i64 now) ∧ w.cell? ⟨b1, 1, none⟩ = some (.string n) ∧ w.cell? ⟨b1, 2, none⟩ = some s ∧ w.cell? ⟨b1, 3, none⟩ = some f ∧ w.cell? ⟨b2, 0, none⟩ = some (.int .i64 now) ∧ w.cell? ⟨b2, 1, none⟩ = some (.string n) ∧ w.cell? ⟨b2, 2, none⟩ = some s' ∧ w.cell? ⟨b2, 3, none⟩ = some f' :=
  ⟨h.h1.at.1, h.h1.at.2.1, h.h1.at.2.2.1, h.h1.at.2.2.2, h.h2.at⟩
end

/-- An answered Reach, put into a variable. -/
theorem RH.made {S : ReachSpec} {w0 w1 : World} {r : RchL} {s f : Value} (hS : S.Ok w1) (hb : Below w0.heap.size w0 w1) (h : RchRow w1 (rVal r s f) r) {now : Int} {n : ByteArray} (hnow : r.1 = now) (hn : r.2.1.1 = n) :
    RH S w0 w1.heap.size now n s f r (w1.alloc (.cells #[.int .i64 now, .string n, s, f] 46)) := by
  have b : Below w1.heap.size w1 (w1.alloc (.cells #[.int .i64 now, .string n, s, f] 46)) := (Below.refl _ _).alloc (Nat.le_refl _) _
  refine ⟨Go.heap_alloc_new _ _, ?_, S.kept hS b, hb.trans (b.mono hb.size)⟩
  have h2 := h.kept b
  unfold rVal at h2
  rw [hnow, hn] at h2
  exact h2

set_option maxRecDepth 20000 in
set_option maxHeartbeats 3200000 in
theorem reachLater_main (S : ReachSpec) (v g : Value) (p : PolL) (now later tier : Int) (fl : List Int) (w : World) (hS : S.Ok w) (hv : PolRow w v p) (hp : ∀ x ∈ p.2, TIn x) (hnow : In64 now) (hlater : In64 later) (htier : In64 tier) (hg : NumRow .i64 w g fl) (hgk : CapOk g) (hfl : ∀ x ∈ fl, In64 x) :
    Calls Try.prog 6 #[v, .int .i64 now, .int .i64 later, g, .int .i64 tier] w fun e w' => e = .returned (.bool true) ∧ Below w.heap.size w w' := by
  obtain ⟨sl, rfl, hsl, hsk⟩ := hv
  have HSL := Hid.of hsl
  obtain ⟨sa, sc, rfl, -⟩ := hsl
  have HG := Hid.of (NumRow.cells' hg)
  obtain ⟨ga, gc, rfl, -⟩ := hg
  obtain ⟨n, hn⟩ : ∃ n, p.1 = n := ⟨_, rfl⟩
  obtain ⟨N, hN⟩ : ∃ N, p.2.length = N := ⟨_, rfl⟩
  obtain ⟨M, hM⟩ : ∃ M, fl.length = M := ⟨_, rfl⟩
  rw [hn, hN, hM]
  rw [hN] at HSL
  have HGK : Hid (CapOk (.slice ga M gc)) := Hid.of (by rw [← hM]; exact hgk)
  clear hgk
  have HSK : Hid (CapOk (.slice sa N sc)) := Hid.of (by rw [← hN]; exact hsk)
  clear hsk
  obtain ⟨w1, hw1⟩ : ∃ w1, w.alloc (.cells #[.string n, .slice sa N sc] 24) = w1 := ⟨_, rfl⟩
  have b1 : Below w.heap.size w w1 := by rw [← hw1]; exact (Below.refl _ _).alloc (Nat.le_refl _) _
  have K1 : Hid (PBlk w1 w.heap.size n (.slice sa N sc)) := Hid.of (by rw [← hw1]; exact PBlk.made w _ _)
  have R1 : Hid (PolRow w1 (polVal n (.slice sa N sc)) p) := Hid.of ⟨_, by rw [hn], by rw [hN]; exact HSL.out.kept b1, HSK.out⟩
  have G1 := Hid.of (HG.out.kept b1)
  have O1 := Hid.of (S.kept hS b1)
  have HW := Hid.of hw1
  have B1 := Hid.of b1
  have HN := Hid.of hN
  have HM := Hid.of hM
  have Hn := Hid.of hn
  have HP := Hid.of hp
  have HNW := Hid.of hnow
  have HLT := Hid.of hlater
  have HTI := Hid.of htier
  have HFL := Hid.of hfl
  clear hw1 b1 hN hM hn hS hp HSL HG hnow hlater htier hfl
  go_enter Try.func6, Try.ntmps6
  go_wp2_with fail
  rw [HW.out]
  clear HW
  refine (Small_any _ p _ R1.out).mono ?_
  rintro e w2 ⟨r, rfl, hr, b2⟩
  have K2 := Hid.of (K1.out.kept b2)
  have R2 := Hid.of (R1.out.kept b2)
  have G2 := Hid.of (G1.out.kept b2)
  have B2 := Hid.of (B1.out.trans (b2.mono B1.out.size))
  have O2 := Hid.of (S.kept O1.out b2)
  clear b2 K1 R1 B1 O1 G1
  cases r with
  | false =>
    go_wp2_with fail
    refine (reachAlive_any S _ O2.out).mono ?_
    rintro e w3 ⟨rfl, b3⟩
    go_wp2
    go_ret
    exact ⟨rfl, B2.out.trans (b3.mono B2.out.size)⟩
  | true =>
    by_cases hm : 12 < M
    · have hm1 : (12 : Int) < (M : Int) := by omega
      go_wp2_with fail
      refine (reachAlive_any S _ O2.out).mono ?_
      rintro e w3 ⟨rfl, b3⟩
      go_wp2
      go_ret
      exact ⟨rfl, B2.out.trans (b3.mono B2.out.size)⟩
    · have hm1 : ¬ (12 : Int) < (M : Int) := by omega
      have SP := Hid.of (fit_of HP.out (hr.out rfl))
      have F1 : Hid (RFit (now, p, fl)) := Hid.of ⟨HNW.out, SP.out, by show fl.length ≤ _; rw [HM.out]; omega, HFL.out⟩
      obtain ⟨mx, hmx⟩ : ∃ mx, max now later = mx := ⟨_, rfl⟩
      have F2 : Hid (RFit (mx, p, fl)) := Hid.of ⟨by have h1 := HNW.out; have h2 := HLT.out; unfold In64 at *; show _ ≤ mx ∧ mx ≤ _; omega, SP.out, F1.out.2.2⟩
      have HMX := Hid.of hmx
      clear hr hm
      obtain ⟨d0, d1⟩ := K2.out.at
      rw [HM.out] at G2
      go_wp2_with fail
      refine (S.of _ _ p now fl _ O2.out F1.out R2.out (by rw [HM.out]; exact G2.out) HGK.out).mono ?_
      rintro e w3 ⟨u, rfl, ou, b3⟩
      have X3 := Hid.of (OwnRch.row ou)
      have K3 := Hid.of (K2.out.kept b3)
      have R3 := Hid.of (R2.out.kept b3)
      have G3 := Hid.of (G2.out.kept b3)
      have B3 := Hid.of (B2.out.trans (b3.mono B2.out.size))
      have O3 := Hid.of (S.kept O2.out b3)
      clear b3 ou K2 R2 G2 B2 O2 d0 d1
      go_wp2_with fail
      refine (S.later _ (now, p, fl) later _ O3.out F1.out HLT.out X3.out).mono ?_
      rintro e w4 ⟨u2, rfl, ou, b4⟩
      have el : rLater (now, p, fl) later = (mx, p, fl) := by rw [← hmx]; rfl
      rw [el] at ou
      have X4 := Hid.of (OwnRch.row ou)
      obtain ⟨s, f, rfl, o1, o2, -⟩ := ou
      obtain ⟨sa2, sc2, rfl, -⟩ := own_one o1
      obtain ⟨fa2, fc2, rfl, -⟩ := own_one o2
      clear o1 o2 el hmx
      have e4 : rVal (mx, p, fl) (.slice sa2 p.2.length sc2) (.slice fa2 fl.length fc2) = .agg #[.int .i64 mx, .string n, .slice sa2 N sc2, .slice fa2 M fc2] := by rw [← Hn.out, ← HN.out, ← HM.out]; rfl
      have B4 := Hid.of (B3.out.trans (b4.mono B3.out.size))
      have O4 := Hid.of (S.kept O3.out b4)
      have H4 : Hid (RH S w w4.heap.size mx n (.slice sa2 N sc2) (.slice fa2 M fc2) (mx, p, fl) (w4.alloc (.cells #[.int .i64 mx, .string n, .slice sa2 N sc2, .slice fa2 M fc2] 46))) := Hid.of (by
        have h := RH.made (f := .slice fa2 fl.length fc2) (s := .slice sa2 p.2.length sc2) O4.out B4.out X4.out (rfl : ((mx, p, fl) : RchL).1 = mx) Hn.out
        rw [HN.out, HM.out] at h
        exact h)
      have bb : Below w3.heap.size w3 (w4.alloc (.cells #[.int .i64 mx, .string n, .slice sa2 N sc2, .slice fa2 M fc2] 46)) := b4.trans (((Below.refl _ _).alloc (Nat.le_refl _) _).mono b4.size)
      have K4 := Hid.of (K3.out.kept bb)
      have R4 := Hid.of (R3.out.kept bb)
      have G4 := Hid.of (G3.out.kept bb)
      clear bb b4 K3 R3 G3 B3 O3 X3 X4 B4 O4
      rw [e4]
      obtain ⟨d0, d1⟩ := K4.out.at
      go_wp2_with fail
      case' inr => obtain rfl : mx = now := by have h1 := HMX.out; omega
      case' inl => obtain rfl : mx = later := by have h1 := HMX.out; omega
      all_goals
        refine (S.of _ _ p mx fl _ H4.out.ok F2.out R4.out (by rw [HM.out]; exact G4.out) HGK.out).mono ?_
        rintro e w5 ⟨u, rfl, ou, b5⟩
        have X5 := Hid.of (OwnRch.row ou)
        obtain ⟨s, f, rfl, o1, o2, -⟩ := ou
        obtain ⟨sa3, sc3, rfl, -⟩ := own_one o1
        obtain ⟨fa3, fc3, rfl, -⟩ := own_one o2
        clear o1 o2
        have e5 : rVal (mx, p, fl) (.slice sa3 ((mx, p, fl) : RchL).2.1.2.length sc3) (.slice fa3 ((mx, p, fl) : RchL).2.2.length fc3) = .agg #[.int .i64 mx, .string n, .slice sa3 N sc3, .slice fa3 M fc3] := by rw [← Hn.out, ← HN.out, ← HM.out]; rfl
        have H5 := Hid.of (H4.out.next b5)
        obtain ⟨w6, hw6⟩ : ∃ w6, w5.alloc (.cells #[.int .i64 mx, .string n, .slice sa3 N sc3, .slice fa3 M fc3] 46) = w6 := ⟨_, rfl⟩
        have H6 : Hid (LH S w w4.heap.size w5.heap.size mx n (.slice sa2 N sc2) (.slice fa2 M fc2) (.slice sa3 N sc3) (.slice fa3 M fc3) (mx, p, fl) w6) := Hid.of (by
          have h := RH.made (f := .slice fa3 fl.length fc3) (s := .slice sa3 p.2.length sc3) H5.out.ok H5.out.fr X5.out (rfl : ((mx, p, fl) : RchL).1 = mx) Hn.out
          rw [HN.out, HM.out, hw6] at h
          exact ⟨H5.out.next (by rw [← hw6]; exact (Below.refl _ _).alloc (Nat.le_refl _) _), h⟩)
        have HW6 := Hid.of hw6
        clear hw6 H5 X5 b5 K4 R4 G4 H4 d0 d1 e4
        rw [e5]
        clear e5
        go_upto_region 5 with fail
        rw [HW6.out]
        clear HW6
        generalize w5.heap.size = b2 at *
        generalize w4.heap.size = b1 at *
        obtain ⟨c0, c1, c2, c3, c4, c5, c6, c7⟩ := H6.out.at
        refine wp_region_noPanic ?_
        refine wp_region_held_drew (S := fun w' => w'.cell? ⟨b1, 0, none⟩ = some (.int .i64 mx) ∧ w'.cell? ⟨b1, 1, none⟩ = some (.string n) ∧ w'.cell? ⟨b1, 2, none⟩ = some (.slice sa2 N sc2) ∧ w'.cell? ⟨b1, 3, none⟩ = some (.slice fa2 M fc2) ∧ w'.cell? ⟨b2, 0, none⟩ = some (.int .i64 mx) ∧ w'.cell? ⟨b2, 1, none⟩ = some (.string n) ∧ w'.cell? ⟨b2, 2, none⟩ = some (.slice sa3 N sc3) ∧ w'.cell? ⟨b2, 3, none⟩ = some (.slice fa3 M fc3)) (by kernel_rfl) ?_ (fun hHeld => ?_)
        · exact ⟨c0, c1, c2, c3, c4, c5, c6, c7⟩
        refine wpAnyH_ready (rs := [0]) (by kernel_rfl) (by simp) ?_
        refine AllReadyH.cons (o := ⟨_, _, _, _, _, _⟩) rfl (fun K hK => ?_) AllReadyH.nil
        go_simp
        refine (reachAlive_any S _ (H6.out.next (Below.refl _ _).drew).h1.ok).mono ?_
        rintro e w7 ⟨rfl, b8⟩
        have H7 := Hid.of (H6.out.next ((Below.refl _ _).drew.trans b8))
        clear b8 c0 c1 c2 c3 c4 c5 c6 c7 hHeld
        obtain ⟨c0, c1, c2, c3, c4, c5, c6, c7⟩ := H7.out.at
        refine hK.out _ _ ⟨c0, c1, c2, c3, c4, c5, c6, c7⟩ (fun hHeld => ?_)
        clear hK K
        refine wpAnyH_take (i := 1) (oi := ⟨_, _, _, _, _, _⟩) (v := ?_) rfl (by kernel_rfl) (by kernel_rfl) (by kernel_rfl) (fun _ _ _ h => h) (Or.inl ⟨by rfl, ?_⟩) hHeld ?_
        rotate_left
        · intro w' hSw
          try dsimp only at hSw
          go_simp
          all_goals with_reducible rfl
        simp only [Act.put, List.setIfInBounds_toArray, List.set_cons_zero, List.set_cons_succ]
        refine wpAnyH_take (i := 2) (oi := ⟨_, _, _, _, _, _⟩) (v := ?_) rfl (by kernel_rfl) (by kernel_rfl) (by kernel_rfl) (fun _ _ _ h => h) (Or.inl ⟨by rfl, ?_⟩) hHeld ?_
        rotate_left
        · intro w' hSw
          try dsimp only at hSw
          go_simp
          all_goals with_reducible rfl
        simp only [Act.put, List.setIfInBounds_toArray, List.set_cons_zero, List.set_cons_succ]
        refine wpAnyH_take (i := 3) (oi := ⟨_, _, _, _, _, _⟩) (v := ?_) rfl (by kernel_rfl) (by kernel_rfl) (by kernel_rfl) (fun _ _ _ h => h) (Or.inl ⟨by rfl, ?_⟩) hHeld ?_
        rotate_left
        · intro w' hSw
          try dsimp only at hSw
          go_simp
          all_goals with_reducible rfl
        simp only [Act.put, List.setIfInBounds_toArray, List.set_cons_zero, List.set_cons_succ]
        refine wpAnyH_take (i := 4) (oi := ⟨_, _, _, _, _, _⟩) (v := ?_) rfl (by kernel_rfl) (by kernel_rfl) (by kernel_rfl) (fun _ _ _ h => h) (Or.inl ⟨by rfl, ?_⟩) hHeld ?_
        rotate_left
        · intro w' hSw
          try dsimp only at hSw
          go_simp
          all_goals with_reducible rfl
        simp only [Act.put, List.setIfInBounds_toArray, List.set_cons_zero, List.set_cons_succ]
        refine wpAnyH_take (i := 5) (oi := ⟨_, _, _, _, _, _⟩) (v := ?_) rfl (by kernel_rfl) (by kernel_rfl) (by kernel_rfl) (fun _ _ _ h => h) (Or.inl ⟨by rfl, ?_⟩) hHeld ?_
        rotate_left
        · intro w' hSw
          try dsimp only at hSw
          go_simp
          all_goals with_reducible rfl
        simp only [Act.put, List.setIfInBounds_toArray, List.set_cons_zero, List.set_cons_succ]
        refine wpAnyH_take (i := 6) (oi := ⟨_, _, _, _, _, _⟩) (v := ?_) rfl (by kernel_rfl) (by kernel_rfl) (by kernel_rfl) (fun _ _ _ h => h) (Or.inl ⟨by rfl, ?_⟩) hHeld ?_
        rotate_left
        · intro w' hSw
          try dsimp only at hSw
          go_simp
          all_goals with_reducible rfl
        simp only [Act.put, List.setIfInBounds_toArray, List.set_cons_zero, List.set_cons_succ]
        refine wpAnyH_take (i := 7) (oi := ⟨_, _, _, _, _, _⟩) (v := ?_) rfl (by kernel_rfl) (by kernel_rfl) (by kernel_rfl) (fun _ _ _ h => h) (Or.inl ⟨by rfl, ?_⟩) hHeld ?_
        rotate_left
        · intro w' hSw
          try dsimp only at hSw
          go_simp
          all_goals with_reducible rfl
        simp only [Act.put, List.setIfInBounds_toArray, List.set_cons_zero, List.set_cons_succ]
        refine wpAnyH_take (i := 8) (oi := ⟨_, _, _, _, _, _⟩) (v := ?_) rfl (by kernel_rfl) (by kernel_rfl) (by kernel_rfl) (fun _ _ _ h => h) (Or.inl ⟨by rfl, ?_⟩) hHeld ?_
        rotate_left
        · intro w' hSw
          try dsimp only at hSw
          go_simp
          all_goals with_reducible rfl
        simp only [Act.put, List.setIfInBounds_toArray, List.set_cons_zero, List.set_cons_succ]
        refine wpAnyH_take (i := 9) (oi := ⟨_, _, _, _, _, _⟩) (v := ?_) rfl (by kernel_rfl) (by kernel_rfl) (by kernel_rfl) (fun _ _ _ h => h) (Or.inl ⟨by rfl, ?_⟩) hHeld ?_
        rotate_left
        · intro w' hSw
          try dsimp only at hSw
          go_simp
          all_goals with_reducible rfl
        simp only [Act.put, List.setIfInBounds_toArray, List.set_cons_zero, List.set_cons_succ]
        refine wpAnyH_take (i := 10) (oi := ⟨_, _, _, _, _, _⟩) (v := ?_) rfl (by kernel_rfl) (by kernel_rfl) (by kernel_rfl) (fun _ _ _ h => h) (Or.inl ⟨by rfl, ?_⟩) hHeld ?_
        rotate_left
        · intro w' hSw
          try dsimp only at hSw
          go_simp
          all_goals with_reducible rfl
        simp only [Act.put, List.setIfInBounds_toArray, List.set_cons_zero, List.set_cons_succ]
        refine wpAnyH_take (i := 12) (oi := ⟨_, _, _, _, _, _⟩) (v := ?_) rfl (by kernel_rfl) (by kernel_rfl) (by kernel_rfl) (fun _ _ _ h => h) (Or.inl ⟨by rfl, ?_⟩) hHeld ?_
        rotate_left
        · intro w' hSw
          try dsimp only at hSw
          go_simp
          all_goals with_reducible rfl
        simp only [Act.put, List.setIfInBounds_toArray, List.set_cons_zero, List.set_cons_succ]
        refine wpAnyH_take (i := 13) (oi := ⟨_, _, _, _, _, _⟩) (v := ?_) rfl (by kernel_rfl) (by kernel_rfl) (by kernel_rfl) (fun _ _ _ h => h) (Or.inl ⟨by rfl, ?_⟩) hHeld ?_
        rotate_left
        · intro w' hSw
          try dsimp only at hSw
          go_simp
          all_goals with_reducible rfl
        simp only [Act.put, List.setIfInBounds_toArray, List.set_cons_zero, List.set_cons_succ]
        refine wpAnyH_ready (rs := [11]) (by kernel_rfl) (by simp) ?_
        refine AllReadyH.cons (o := ⟨_, _, _, _, _, _⟩) rfl (fun K hK => ?_) AllReadyH.nil
        go_simp
        refine (S.from_ _ (mx, p, fl) tier _ H7.out.h1.ok F2.out HTI.out H7.out.h1.x).mono ?_
        rintro e w8 ⟨rfl, b8⟩
        have H8 := Hid.of (H7.out.next b8)
        clear b8 c0 c1 c2 c3 c4 c5 c6 c7 hHeld
        obtain ⟨c0, c1, c2, c3, c4, c5, c6, c7⟩ := H8.out.at
        refine hK.out _ _ ⟨c0, c1, c2, c3, c4, c5, c6, c7⟩ (fun hHeld => ?_)
        clear hK K
        refine wpAnyH_ready (rs := [14]) (by kernel_rfl) (by simp) ?_
        refine AllReadyH.cons (o := ⟨_, _, _, _, _, _⟩) rfl (fun K hK => ?_) AllReadyH.nil
        go_simp
        refine (S.from_ _ (mx, p, fl) tier _ H8.out.h1.ok F2.out HTI.out H8.out.h2.x).mono ?_
        rintro e w9 ⟨rfl, b8⟩
        have H9 := Hid.of (H8.out.next b8)
        clear b8 c0 c1 c2 c3 c4 c5 c6 c7 hHeld
        obtain ⟨c0, c1, c2, c3, c4, c5, c6, c7⟩ := H9.out.at
        refine hK.out _ _ ⟨c0, c1, c2, c3, c4, c5, c6, c7⟩ (fun hHeld => ?_)
        clear hK K
        refine wpAnyH_take (i := 15) (oi := ⟨_, _, _, _, _, _⟩) (v := ?_) rfl (by kernel_rfl) (by kernel_rfl) (by kernel_rfl) (fun _ _ _ h => h) (Or.inl ⟨by rfl, ?_⟩) hHeld ?_
        rotate_left
        · intro w' hSw
          try dsimp only at hSw
          go_simp
          all_goals with_reducible rfl
        simp only [Act.put, List.setIfInBounds_toArray, List.set_cons_zero, List.set_cons_succ]
        refine wpAnyH_take (i := 16) (oi := ⟨_, _, _, _, _, _⟩) (v := ?_) rfl (by kernel_rfl) (by kernel_rfl) (by kernel_rfl) (fun _ _ _ h => h) (Or.inl ⟨by rfl, ?_⟩) hHeld ?_
        rotate_left
        · intro w' hSw
          try dsimp only at hSw
          go_simp
          all_goals with_reducible rfl
        simp only [Act.put, List.setIfInBounds_toArray, List.set_cons_zero, List.set_cons_succ]
        refine wpAnyH_take (i := 17) (oi := ⟨_, _, _, _, _, _⟩) (v := ?_) rfl (by kernel_rfl) (by kernel_rfl) (by kernel_rfl) (fun _ _ _ h => h) (Or.inl ⟨by rfl, ?_⟩) hHeld ?_
        rotate_left
        · intro w' hSw
          try dsimp only at hSw
          go_simp
          all_goals with_reducible rfl
        simp only [Act.put, List.setIfInBounds_toArray, List.set_cons_zero, List.set_cons_succ]
        refine wpAnyH_take (i := 18) (oi := ⟨_, _, _, _, _, _⟩) (v := ?_) rfl (by kernel_rfl) (by kernel_rfl) (by kernel_rfl) (fun _ _ _ h => h) (Or.inl ⟨by rfl, ?_⟩) hHeld ?_
        rotate_left
        · intro w' hSw
          try dsimp only at hSw
          go_simp
          all_goals with_reducible rfl
        simp only [Act.put, List.setIfInBounds_toArray, List.set_cons_zero, List.set_cons_succ]
        refine wpAnyH_take (i := 20) (oi := ⟨_, _, _, _, _, _⟩) (v := ?_) rfl (by kernel_rfl) (by kernel_rfl) (by kernel_rfl) (fun _ _ _ h => h) (Or.inl ⟨by rfl, ?_⟩) hHeld ?_
        rotate_left
        · intro w' hSw
          try dsimp only at hSw
          go_simp
          all_goals with_reducible rfl
        simp only [Act.put, List.setIfInBounds_toArray, List.set_cons_zero, List.set_cons_succ]
        refine wpAnyH_ready (rs := [19]) (by kernel_rfl) (by simp) ?_
        refine AllReadyH.cons (o := ⟨_, _, _, _, _, _⟩) rfl (fun K hK => ?_) AllReadyH.nil
        go_simp
        refine (S.all _ (mx, p, fl) _ H9.out.h1.ok F2.out H9.out.h1.x).mono ?_
        rintro e w10 ⟨u1, rfl, o1, b8⟩
        have H10 := Hid.of (H9.out.next b8)
        have U1 := Hid.of (own_row o1)
        clear o1
        clear b8 c0 c1 c2 c3 c4 c5 c6 c7 hHeld
        obtain ⟨c0, c1, c2, c3, c4, c5, c6, c7⟩ := H10.out.at
        refine hK.out _ _ ⟨c0, c1, c2, c3, c4, c5, c6, c7⟩ (fun hHeld => ?_)
        clear hK K
        refine wpAnyH_ready (rs := [21]) (by kernel_rfl) (by simp) ?_
        refine AllReadyH.cons (o := ⟨_, _, _, _, _, _⟩) rfl (fun K hK => ?_) AllReadyH.nil
        go_simp
        refine (S.all _ (mx, p, fl) _ H10.out.h1.ok F2.out H10.out.h2.x).mono ?_
        rintro e w11 ⟨u2, rfl, o2, b8⟩
        have H11 := Hid.of (H10.out.next b8)
        have U2 := Hid.of (own_row o2)
        have U3 := Hid.of (U1.out.kept b8)
        clear o2 U1
        clear b8 c0 c1 c2 c3 c4 c5 c6 c7 hHeld
        obtain ⟨c0, c1, c2, c3, c4, c5, c6, c7⟩ := H11.out.at
        refine hK.out _ _ ⟨c0, c1, c2, c3, c4, c5, c6, c7⟩ (fun hHeld => ?_)
        clear hK K
        refine wpAnyH_ready (rs := [22]) (by kernel_rfl) (by simp) ?_
        refine AllReadyH.cons (o := ⟨_, _, _, _, _, _⟩) rfl (fun K hK => ?_) AllReadyH.nil
        go_simp
        refine (SameInts_any _ _ (rAll (mx, p, fl)) _ U3.out U2.out (by rw [rAll_length]; exact SP.out.1)).mono ?_
        rintro e w12 ⟨rfl, b8⟩
        have H12 := Hid.of (H11.out.next b8)
        clear b8 c0 c1 c2 c3 c4 c5 c6 c7 hHeld
        obtain ⟨c0, c1, c2, c3, c4, c5, c6, c7⟩ := H12.out.at
        refine hK.out _ _ ⟨c0, c1, c2, c3, c4, c5, c6, c7⟩ (fun hHeld => ?_)
        clear hK K
        refine wpAnyH_take (i := 23) (oi := ⟨_, _, _, _, _, _⟩) (v := ?_) rfl (by kernel_rfl) (by kernel_rfl) (by kernel_rfl) (fun _ _ _ h => h) (Or.inl ⟨by rfl, ?_⟩) hHeld ?_
        rotate_left
        · intro w' hSw
          try dsimp only at hSw
          go_simp
          all_goals with_reducible rfl
        simp only [Act.put, List.setIfInBounds_toArray, List.set_cons_zero, List.set_cons_succ]
        refine wpAnyH_take (i := 24) (oi := ⟨_, _, _, _, _, _⟩) (v := ?_) rfl (by kernel_rfl) (by kernel_rfl) (by kernel_rfl) (fun _ _ _ h => h) (Or.inl ⟨by rfl, ?_⟩) hHeld ?_
        rotate_left
        · intro w' hSw
          try dsimp only at hSw
          go_simp
          all_goals with_reducible rfl
        simp only [Act.put, List.setIfInBounds_toArray, List.set_cons_zero, List.set_cons_succ]
        refine wpAnyH_take (i := 25) (oi := ⟨_, _, _, _, _, _⟩) (v := ?_) rfl (by kernel_rfl) (by kernel_rfl) (by kernel_rfl) (fun _ _ _ h => h) (Or.inl ⟨by rfl, ?_⟩) hHeld ?_
        rotate_left
        · intro w' hSw
          try dsimp only at hSw
          go_simp
          all_goals with_reducible rfl
        simp only [Act.put, List.setIfInBounds_toArray, List.set_cons_zero, List.set_cons_succ]
        refine wpAnyH_take (i := 26) (oi := ⟨_, _, _, _, _, _⟩) (v := ?_) rfl (by kernel_rfl) (by kernel_rfl) (by kernel_rfl) (fun _ _ _ h => h) (Or.inl ⟨by rfl, ?_⟩) hHeld ?_
        rotate_left
        · intro w' hSw
          try dsimp only at hSw
          go_simp
          all_goals with_reducible rfl
        simp only [Act.put, List.setIfInBounds_toArray, List.set_cons_zero, List.set_cons_succ]
        refine wpAnyH_take (i := 28) (oi := ⟨_, _, _, _, _, _⟩) (v := ?_) rfl (by kernel_rfl) (by kernel_rfl) (by kernel_rfl) (fun _ _ _ h => h) (Or.inl ⟨by rfl, ?_⟩) hHeld ?_
        rotate_left
        · intro w' hSw
          try dsimp only at hSw
          go_simp
          all_goals with_reducible rfl
        simp only [Act.put, List.setIfInBounds_toArray, List.set_cons_zero, List.set_cons_succ]
        refine wpAnyH_take (i := 29) (oi := ⟨_, _, _, _, _, _⟩) (v := ?_) rfl (by kernel_rfl) (by kernel_rfl) (by kernel_rfl) (fun _ _ _ h => h) (Or.inl ⟨by rfl, ?_⟩) hHeld ?_
        rotate_left
        · intro w' hSw
          try dsimp only at hSw
          go_simp
          all_goals with_reducible rfl
        simp only [Act.put, List.setIfInBounds_toArray, List.set_cons_zero, List.set_cons_succ]
        refine wpAnyH_ready (rs := [27]) (by kernel_rfl) (by simp) ?_
        refine AllReadyH.cons (o := ⟨_, _, _, _, _, _⟩) rfl (fun K hK => ?_) AllReadyH.nil
        go_simp
        refine (S.cover _ (mx, p, fl) _ _ H12.out.h1.ok F2.out HNW.out H12.out.h1.x).mono ?_
        rintro e w13 ⟨rfl, b8⟩
        have H13 := Hid.of (H12.out.next b8)
        clear b8 c0 c1 c2 c3 c4 c5 c6 c7 hHeld
        obtain ⟨c0, c1, c2, c3, c4, c5, c6, c7⟩ := H13.out.at
        refine hK.out _ _ ⟨c0, c1, c2, c3, c4, c5, c6, c7⟩ (fun hHeld => ?_)
        clear hK K
        refine wpAnyH_ready (rs := [30]) (by kernel_rfl) (by simp) ?_
        refine AllReadyH.cons (o := ⟨_, _, _, _, _, _⟩) rfl (fun K hK => ?_) AllReadyH.nil
        go_simp
        refine (S.cover _ (mx, p, fl) _ _ H13.out.h1.ok F2.out HNW.out H13.out.h2.x).mono ?_
        rintro e w14 ⟨rfl, b8⟩
        have H14 := Hid.of (H13.out.next b8)
        clear b8 c0 c1 c2 c3 c4 c5 c6 c7 hHeld
        obtain ⟨c0, c1, c2, c3, c4, c5, c6, c7⟩ := H14.out.at
        refine hK.out _ _ ⟨c0, c1, c2, c3, c4, c5, c6, c7⟩ (fun hHeld => ?_)
        clear hK K
        refine wpAnyH_take (i := 31) (oi := ⟨_, _, _, _, _, _⟩) (v := ?_) rfl (by kernel_rfl) (by kernel_rfl) (by kernel_rfl) (fun _ _ _ h => h) (Or.inl ⟨by rfl, ?_⟩) hHeld ?_
        rotate_left
        · intro w' hSw
          try dsimp only at hSw
          go_simp
          all_goals with_reducible rfl
        simp only [Act.put, List.setIfInBounds_toArray, List.set_cons_zero, List.set_cons_succ]
        refine wpAnyH_take (i := 32) (oi := ⟨_, _, _, _, _, _⟩) (v := ?_) rfl (by kernel_rfl) (by kernel_rfl) (by kernel_rfl) (fun _ _ _ h => h) (Or.inl ⟨by rfl, ?_⟩) hHeld ?_
        rotate_left
        · intro w' hSw
          try dsimp only at hSw
          go_simp
          all_goals with_reducible rfl
        simp only [Act.put, List.setIfInBounds_toArray, List.set_cons_zero, List.set_cons_succ]
        refine wpAnyH_take (i := 33) (oi := ⟨_, _, _, _, _, _⟩) (v := ?_) rfl (by kernel_rfl) (by kernel_rfl) (by kernel_rfl) (fun _ _ _ h => h) (Or.inl ⟨by rfl, ?_⟩) hHeld ?_
        rotate_left
        · intro w' hSw
          try dsimp only at hSw
          go_simp
          all_goals with_reducible rfl
        simp only [Act.put, List.setIfInBounds_toArray, List.set_cons_zero, List.set_cons_succ]
        refine wpAnyH_done (by kernel_rfl) ?_ _
        refine NoPanic.normal ?_
        go_wp2
        go_ret
        exact ⟨rfl, H14.out.h1.fr⟩

end Go.Proofs.Ytfbgjoildibikaa

/-
  ReachCovers: the tier that covers a time is the first one that reaches it; of what is taken its bucket is in tier 0.
-/
namespace Go.Proofs.Ytfbgjoildibikaa
open Go.RowKit Go.Lib

theorem rFind_some {r : RchL} {f : Int} : ∀ (j k i : Nat), rFind r f k j = some i → k ≤ i ∧ i < k + j ∧ rFromN r i ≤ f ∧ ∀ m, k ≤ m → m < i → f < rFromN r m
  | 0, k, i, h => by cases h
  | j + 1, k, i, h => by
    rw [rFind] at h
    split at h
    · rename_i hc
      cases h
      exact ⟨Nat.le_refl _, by omega, hc, fun m h1 h2 => by omega⟩
    · rename_i hc
      obtain ⟨h1, h2, h3, h4⟩ := rFind_some j (k + 1) i h
      refine ⟨by omega, by omega, h3, fun m m1 m2 => ?_⟩
      by_cases e : m = k
      · subst e
        omega
      · exact h4 m (by omega) m2

theorem rFind_none {r : RchL} {f : Int} : ∀ (j k : Nat), rFind r f k j = none → ∀ m, k ≤ m → m < k + j → f < rFromN r m
  | 0, k, _, m, h1, h2 => by omega
  | j + 1, k, h, m, h1, h2 => by
    rw [rFind] at h
    split at h
    · cases h
    · rename_i hc
      by_cases e : m = k
      · subst e
        omega
      · exact rFind_none j (k + 1) h m (by omega) (by omega)

theorem cover_none {r : RchL} (f : Int) (h : r.2.1.2.length = 0) : rCover r f = -1 := by
  unfold rCover
  rw [h]
  rfl

/-- The tier that covers a time. -/
theorem cover_some {r : RchL} (f : Int) (h : 0 < r.2.1.2.length) : ∃ c : Nat, rCover r f = (c : Int) ∧ c < r.2.1.2.length ∧ (∀ m, m < c → f < rFromN r m) ∧ (c + 1 < r.2.1.2.length → rFromN r c ≤ f) := by
  unfold rCover
  split
  · rename_i k hk
    obtain ⟨h1, h2, h3, h4⟩ := rFind_some _ _ _ hk
    exact ⟨k, rfl, by omega, fun m hm => h4 m (Nat.zero_le _) hm, fun _ => h3⟩
  · rename_i hk
    have h1 := rFind_none _ _ hk
    exact ⟨r.2.1.2.length - 1, by omega, by omega, fun m hm => h1 m (Nat.zero_le _) (by omega), fun hc => by omega⟩

theorem rFrom_nat (r : RchL) (j : Nat) : rFrom r (j : Int) = rFromN r j := by
  unfold rFrom
  rw [if_neg (by omega)]
  rfl

theorem takes_ok {r : RchL} {n : ByteArray} {t : Int} (h : rTakes r n t = 0) : 0 ≤ t ∧ t ≤ r.1 ∧ rFromN r 0 ≤ t := by
  unfold rTakes at h
  split at h
  · cases h
  · rename_i h1
    split at h
    · cases h
    · rename_i h2
      split at h
      · cases h
      · rename_i h3
        have t0 : ¬ t < 0 := fun c => h1 (.inr c)
        have t1 : ¬ t < rFromN r 0 := fun c => h3 (.inr c)
        omega

theorem start_zero {r : RchL} {t : Int} {y : TierL} (hy : r.2.1.2[0]? = some y) (h1 : y.2.1 = 1) (h0 : 0 ≤ t) (hr : rFromN r 0 ≤ t) : rStart r 0 t = (t, true) := by
  unfold rStart
  rw [if_neg (by omega)]
  have e : r.2.1.2[(0 : Int).toNat]? = some y := hy
  rw [e]
  show (gFloor t y.2.1, decide (rFromN r 0 ≤ gFloor t y.2.1)) = (t, true)
  rw [h1, floor_one t h0, decide_eq_true hr]

/-- A policy, a sample and a Reach in variables. -/
structure CH (S : ReachSpec) (w0 : World) (b4 b6 b9 : Nat) (n sn : ByteArray) (sl : Value) (t x now : Int) (s f : Value) (r : RchL) (w : World) : Prop where
  h : RH S w0 b9 now n s f r w
  k : PBlk w b4 n sl
  q : PolRow w (polVal n sl) r.2.1
  g : w.heap[b6]? = some (.cells #[.string sn, .int .i64 t, .int .i64 x] 27 (0, 0))

section
variable {S : ReachSpec} {w0 w w' : World} {b4 b6 b9 : Nat} {n sn : ByteArray} {sl s f : Value} {t x now : Int} {r : RchL}
theorem CH.next (h : CH S w0 b4 b6 b9 n sn sl t x now s f r w) (c : Below w.heap.size w w') : CH S w0 b4 b6 b9 n sn sl t x now s f r w' :=
  ⟨h.h.next c, h.k.kept c, h.q.kept c, by rw [c.block b6 (Array.getElem?_eq_some_iff.1 h.g).1]; exact h.g⟩
theorem CH.at (h : CH S w0 b4 b6 b9 n sn sl t x now s f r w) : w.cell? ⟨b4, 0, none⟩ = some (.string n) ∧ w.cell? ⟨b4, 1, none⟩ = some sl ∧ w.cell? ⟨b6, 0, none⟩ = some (.string sn) ∧ w.cell? ⟨b6, 1, none⟩ = some (.int .i64 t) ∧ w.cell? ⟨b6, 2, none⟩ = some (.int .i64 x) ∧ w.cell? ⟨b9, 0, none⟩ = some (.int .i64 now) ∧ w.cell? ⟨b9, 1, none⟩ = some (.string n) ∧ w.cell? ⟨b9, 2, none⟩ = some s ∧ w.cell? ⟨b9, 3, none⟩ = some f := by
  refine ⟨h.k.at.1, h.k.at.2, ?_, ?_, ?_, h.h.at⟩ <;> (rw [cell_of_row w b6 _ _ _ _ h.g]; rfl)
end

set_option maxRecDepth 100000 in
set_option maxHeartbeats 3200000 in
theorem reachCovers_main (S : ReachSpec) (v : Value) (p : PolL) (now : Int) (sn : ByteArray) (t x f : Int) (w : World) (hS : S.Ok w) (hv : PolRow w v p) (hp : ∀ x ∈ p.2, TIn x) (hnow : In64 now) (hsn : sn.size ≤ maxLen) (ht : In64 t) (hf : In64 f) :
    Calls Try.prog 5 #[v, .int .i64 now, .agg #[.string sn, .int .i64 t, .int .i64 x], .int .i64 f] w fun e w' => e = .returned (.bool true) ∧ Below w.heap.size w w' := by
  obtain ⟨sl, rfl, hsl, hsk⟩ := hv
  have HSL := Hid.of hsl
  obtain ⟨sa, sc, rfl, -⟩ := hsl
  obtain ⟨n, hn⟩ : ∃ n, p.1 = n := ⟨_, rfl⟩
  obtain ⟨N, hN⟩ : ∃ N, p.2.length = N := ⟨_, rfl⟩
  rw [hn, hN]
  rw [hN] at HSL
  have HSK : Hid (CapOk (.slice sa N sc)) := Hid.of (by rw [← hN]; exact hsk)
  clear hsk
  obtain ⟨w1, hw1⟩ : ∃ w1, (w.alloc (.cells #[.string n, .slice sa N sc] 24)).alloc (.cells #[.string sn, .int .i64 t, .int .i64 x] 27) = w1 := ⟨_, rfl⟩
  have b1 : Below w.heap.size w w1 := by rw [← hw1]; exact ((Below.refl _ _).alloc (Nat.le_refl _) _).alloc (by simp) _
  have K1 : Hid (PBlk w1 w.heap.size n (.slice sa N sc)) := Hid.of (by rw [← hw1]; exact (PBlk.made w _ _).kept ((Below.refl _ _).alloc (Nat.le_refl _) _))
  have R1 : Hid (PolRow w1 (polVal n (.slice sa N sc)) p) := Hid.of ⟨_, by rw [hn], by rw [hN]; exact HSL.out.kept b1, HSK.out⟩
  have G1 : Hid (w1.heap[w.heap.size + 1]? = some (.cells #[.string sn, .int .i64 t, .int .i64 x] 27 (0, 0))) := Hid.of (by
    have h := Go.heap_alloc_new (w.alloc (.cells #[.string n, .slice sa N sc] 24)) (.cells #[.string sn, .int .i64 t, .int .i64 x] 27 (0, 0))
    rw [hw1] at h
    simpa using h)
  have O1 := Hid.of (S.kept hS b1)
  have HW := Hid.of hw1
  have B1 := Hid.of b1
  have HN := Hid.of hN
  have Hn := Hid.of hn
  have HP := Hid.of hp
  have HNW := Hid.of hnow
  have HT := Hid.of ht
  have HF := Hid.of hf
  have HSN := Hid.of hsn
  clear hw1 b1 hN hn hS hp HSL hnow ht hf hsn
  go_enter Try.func5, Try.ntmps5
  go_wp2_with fail
  rw [HW.out]
  clear HW
  refine (Small_any _ p _ R1.out).mono ?_
  rintro e w2 ⟨r, rfl, hr, b2⟩
  have K2 := Hid.of (K1.out.kept b2)
  have R2 := Hid.of (R1.out.kept b2)
  have B2 := Hid.of (B1.out.trans (b2.mono B1.out.size))
  have O2 := Hid.of (S.kept O1.out b2)
  have G2 : Hid (w2.heap[w.heap.size + 1]? = some (.cells #[.string sn, .int .i64 t, .int .i64 x] 27 (0, 0))) := Hid.of (by rw [b2.block _ (Array.getElem?_eq_some_iff.1 G1.out).1]; exact G1.out)
  clear b2 K1 R1 B1 O1 G1
  cases r with
  | false =>
    go_wp2_with fail
    refine (reachAlive_any S _ O2.out).mono ?_
    rintro e w3 ⟨rfl, b3⟩
    go_wp2
    go_ret
    exact ⟨rfl, B2.out.trans (b3.mono B2.out.size)⟩
  | true =>
    have g0 : w2.cell? ⟨w.heap.size + 1, 0, none⟩ = some (.string sn) := by rw [cell_of_row w2 _ _ _ _ _ G2.out]; rfl
    by_cases hz : 300 < sn.size
    · have hz1 : (300 : Int) < (sn.size : Int) := by omega
      go_wp2_with fail
      refine (reachAlive_any S _ O2.out).mono ?_
      rintro e w3 ⟨rfl, b3⟩
      go_wp2
      go_ret
      exact ⟨rfl, B2.out.trans (b3.mono B2.out.size)⟩
    · have hz1 : ¬ (300 : Int) < (sn.size : Int) := by omega
      have SP := Hid.of (fit_of HP.out (hr.out rfl))
      have N10 : Hid (N ≤ 10) := Hid.of (by rw [← HN.out]; exact (hr.out rfl).1)
      have F1 : Hid (RFit (now, p, [])) := Hid.of ⟨HNW.out, SP.out, Nat.zero_le _, fun _ h => by cases h⟩
      clear hr hz
      obtain ⟨d0, d1⟩ := K2.out.at
      go_wp2_with fail
      refine (S.of _ _ p now [] _ O2.out F1.out R2.out ⟨_, _, rfl, .inl rfl⟩ (Nat.le_refl _)).mono ?_
      rintro e w3 ⟨u, rfl, ou, b3⟩
      have X3 := Hid.of (OwnRch.row ou)
      obtain ⟨s, f', rfl, o1, o2, -⟩ := ou
      obtain ⟨sa2, sc2, rfl, -⟩ := own_one o1
      obtain ⟨fa2, fc2, rfl, -⟩ := own_one o2
      clear o1 o2
      have e3 : rVal (now, p, []) (.slice sa2 ((now, p, []) : RchL).2.1.2.length sc2) (.slice fa2 ((now, p, []) : RchL).2.2.length fc2) = .agg #[.int .i64 now, .string n, .slice sa2 N sc2, .slice fa2 0 fc2] := by rw [← Hn.out, ← HN.out]; rfl
      obtain ⟨w4, hw4⟩ : ∃ w4, w3.alloc (.cells #[.int .i64 now, .string n, .slice sa2 N sc2, .slice fa2 0 fc2] 46) = w4 := ⟨_, rfl⟩
      have H4 : Hid (CH S w w.heap.size (w.heap.size + 1) w3.heap.size n sn (.slice sa N sc) t x now (.slice sa2 N sc2) (.slice fa2 0 fc2) (now, p, []) w4) := Hid.of (by
        have h := RH.made (f := .slice fa2 0 fc2) (s := .slice sa2 p.2.length sc2) (S.kept O2.out b3) (B2.out.trans (b3.mono B2.out.size)) X3.out (rfl : ((now, p, []) : RchL).1 = now) Hn.out
        rw [HN.out, hw4] at h
        have b4 : Below w3.heap.size w3 w4 := by rw [← hw4]; exact (Below.refl _ _).alloc (Nat.le_refl _) _
        have bb := b3.trans (b4.mono b3.size)
        exact ⟨h, K2.out.kept bb, R2.out.kept bb, by rw [bb.block _ (Array.getElem?_eq_some_iff.1 G2.out).1]; exact G2.out⟩)
      have HW4 := Hid.of hw4
      clear hw4 b3 X3 K2 R2 G2 B2 O2 d0 d1 g0
      rw [e3]
      clear e3
      go_wp2_with fail
      rw [HW4.out]
      clear HW4
      generalize w3.heap.size = b9 at *
      refine (S.cover _ (now, p, []) f _ H4.out.h.ok F1.out HF.out H4.out.h.x).mono ?_
      rintro e w5 ⟨rfl, b5⟩
      have H5 := Hid.of (H4.out.next b5)
      clear b5 H4
      obtain ⟨c0, c1, c2, c3, c4, c5, c6, c7, c8⟩ := H5.out.at
      by_cases hN0 : N = 0
      · subst hN0
        rw [cover_none f (show ((now, p, []) : RchL).2.1.2.length = 0 from HN.out)]
        go_wp2_with fail
        refine (reachAlive_any S _ H5.out.h.ok).mono ?_
        rintro e w6 ⟨rfl, b6⟩
        go_wp2
        go_ret
        exact ⟨rfl, H5.out.h.fr.trans (b6.mono H5.out.h.fr.size)⟩
      · have hN1 : ¬ (N : Int) = 0 := by omega
        have hN2 : ((N : Int) == 0) = false := by simpa using hN1
        obtain ⟨c, hc, hcN, hlow, hat⟩ := cover_some (r := (now, p, [])) f (by show 0 < p.2.length; rw [HN.out]; omega)
        rw [hc]
        have hcN2 : c < N := by rw [← HN.out]; exact hcN
        have LOW := Hid.of hlow
        have AT : Hid (c + 1 < N → rFromN (now, p, []) c ≤ f) := Hid.of (fun h => hat (by show c + 1 < p.2.length; rw [HN.out]; exact h))
        clear hc hcN hlow hat hN0
        go_wp2_with fail
        go_loopw [8, 11] (fun _ iv wr => ∃ j : Nat, j ≤ c ∧ iv = .int .i64 j ∧ Hid (CH S w w.heap.size (w.heap.size + 1) b9 n sn (.slice sa N sc) t x now (.slice sa2 N sc2) (.slice fa2 0 fc2) (now, p, []) wr)) (fun _ iv _ => c - (RowKit.intOf iv).toNat)
        case atStart => exact ⟨0, Nat.zero_le _, rfl, H5⟩
        case round =>
          clear H5 c0 c1 c2 c3 c4 c5 c6 c7 c8
          obtain ⟨j, hj, rfl, H⟩ := hrel
          obtain ⟨c0, c1, c2, c3, c4, c5, c6, c7, c8⟩ := H.out.at
          have j0 : (0 : Int) ≤ (j : Int) := Int.natCast_nonneg _
          have j9 : (j : Int) ≤ 10 := by have := N10.out; omega
          by_cases hlt : j < c
          · have hlt1 : (j : Int) < (c : Int) := by omega
            obtain ⟨F, hF⟩ : ∃ F, rFromN (now, p, []) j = F := ⟨_, rfl⟩
            have hlow : ¬ F ≤ f := by have := LOW.out j hlt; omega
            have HFR := Hid.of hF
            clear hF hj
            go_wp2_with fail
            refine (S.from_ _ (now, p, []) j _ H.out.h.ok F1.out (by unfold In64; omega) H.out.h.x).mono ?_
            rintro e w6 ⟨rfl, b6⟩
            rw [rFrom_nat, HFR.out]
            have H6 := Hid.of (H.out.next b6)
            clear b6 H
            go_wp2
            go_roundw
            case rel => exact ⟨j + 1, by omega, by go_num, H6⟩
            case measure => simp [RowKit.intOf]; omega
          · obtain rfl : j = c := by omega
            have k1 : (j : Int) < (N : Int) := by omega
            have n9 : (N : Int) ≤ 10 := by have := N10.out; omega
            clear hj hlt LOW
            obtain ⟨y, hy⟩ : ∃ y, p.2[0]? = some y := ⟨_, List.getElem?_eq_getElem (by rw [HN.out]; omega)⟩
            have HY := Hid.of hy
            clear hy
            have key : (j + 1 < N ∧ (j : Int) < (N : Int) - 1) ∨ (N = j + 1 ∧ ¬ (j : Int) < (N : Int) - 1) := by omega
            rcases key with ⟨hm, hm1⟩ | ⟨hm, hm1⟩
            · obtain ⟨F, hF⟩ : ∃ F, rFromN (now, p, []) j = F := ⟨_, rfl⟩
              have hat : ¬ f < F := by have := AT.out hm; omega
              have HFR := Hid.of hF
              clear hF hm
              go_wp2_with fail
              refine (S.from_ _ (now, p, []) j _ H.out.h.ok F1.out (by unfold In64; omega) H.out.h.x).mono ?_
              rintro e w6 ⟨rfl, b6⟩
              rw [rFrom_nat, HFR.out]
              have H6 := Hid.of (H.out.next b6)
              clear b6 H c0 c1 c2 c3 c4 c5 c6 c7 c8
              obtain ⟨c0, c1, c2, c3, c4, c5, c6, c7, c8⟩ := H6.out.at
              go_wp2_with fail
              refine (S.takes _ (now, p, []) sn t x _ H6.out.h.ok F1.out HSN.out HT.out H6.out.h.x).mono ?_
              rintro e w7 ⟨rfl, b7⟩
              have H7 := Hid.of (H6.out.next b7)
              clear b7 H6 c0 c1 c2 c3 c4 c5 c6 c7 c8
              obtain ⟨c0, c1, c2, c3, c4, c5, c6, c7, c8⟩ := H7.out.at
              by_cases htk : rTakes (now, p, []) sn t = 0
              · obtain ⟨t0, t1, t2⟩ := takes_ok htk
                rw [htk]
                have t3 : t ≤ now := t1
                obtain ⟨yn, ye, yk, ys⟩ := y
                obtain ⟨b1, o1, rfl, hb, hc⟩ := p_at (show CellRow w7 (.slice sa N sc) N (flat penc p.2) by
                  obtain ⟨s', hs, hr, -⟩ := H7.out.q
                  unfold polVal at hs
                  simp only [Value.agg.injEq] at hs
                  cases hs
                  rw [HN.out] at hr
                  exact hr) 0 _ HY.out
                obtain ⟨q0, q1, q2, q3⟩ := hc
                have q1' : w7.cell? ⟨b1, o1 + 1, none⟩ = some (.int .i64 ye) := by simpa using q1
                clear q0 q1 q2 q3 hb htk
                by_cases hy1 : ye = 1
                · have ST := Hid.of (start_zero (r := (now, p, [])) HY.out hy1 t0 t2)
                  subst hy1
                  clear t0 t1 t2
                  go_wp2_with fail
                  refine (S.start _ (now, p, []) 0 t _ H7.out.h.ok F1.out (by unfold In64; decide) HT.out H7.out.h.x).mono ?_
                  rintro e w8 ⟨rfl, b8⟩
                  rw [ST.out]
                  have H8 := Hid.of (H7.out.next b8)
                  clear b8 H7 c0 c1 c2 c3 c4 c5 c6 c7 c8 q1'
                  go_wp2_with fail
                  refine (reachAlive_any S _ H8.out.h.ok).mono ?_
                  rintro e w9 ⟨rfl, b9'⟩
                  have H9 := Hid.of (H8.out.next b9')
                  clear b9' H8
                  obtain ⟨c0, c1, c2, c3, c4, c5, c6, c7, c8⟩ := H9.out.at
                  go_wp2
                  go_ret
                  exact ⟨rfl, H9.out.h.fr⟩
                · clear t0 t1 t2 t3
                  go_wp2_with fail
                  refine (reachAlive_any S _ H7.out.h.ok).mono ?_
                  rintro e w8 ⟨rfl, b8⟩
                  go_wp2
                  go_ret
                  exact ⟨rfl, H7.out.h.fr.trans (b8.mono H7.out.h.fr.size)⟩
              · obtain ⟨er, her⟩ : ∃ er, rTakes (now, p, []) sn t = er := ⟨_, rfl⟩
                rw [her] at htk ⊢
                clear her
                go_wp2_with fail
                refine (reachAlive_any S _ H7.out.h.ok).mono ?_
                rintro e w8 ⟨rfl, b8⟩
                go_wp2
                go_ret
                exact ⟨rfl, H7.out.h.fr.trans (b8.mono H7.out.h.fr.size)⟩
            · have H6 := H
              clear hm H
              go_wp2_with fail
              refine (S.takes _ (now, p, []) sn t x _ H6.out.h.ok F1.out HSN.out HT.out H6.out.h.x).mono ?_
              rintro e w7 ⟨rfl, b7⟩
              have H7 := Hid.of (H6.out.next b7)
              clear b7 H6 c0 c1 c2 c3 c4 c5 c6 c7 c8
              obtain ⟨c0, c1, c2, c3, c4, c5, c6, c7, c8⟩ := H7.out.at
              by_cases htk : rTakes (now, p, []) sn t = 0
              · obtain ⟨t0, t1, t2⟩ := takes_ok htk
                rw [htk]
                have t3 : t ≤ now := t1
                obtain ⟨yn, ye, yk, ys⟩ := y
                obtain ⟨b1, o1, rfl, hb, hc⟩ := p_at (show CellRow w7 (.slice sa N sc) N (flat penc p.2) by
                  obtain ⟨s', hs, hr, -⟩ := H7.out.q
                  unfold polVal at hs
                  simp only [Value.agg.injEq] at hs
                  cases hs
                  rw [HN.out] at hr
                  exact hr) 0 _ HY.out
                obtain ⟨q0, q1, q2, q3⟩ := hc
                have q1' : w7.cell? ⟨b1, o1 + 1, none⟩ = some (.int .i64 ye) := by simpa using q1
                clear q0 q1 q2 q3 hb htk
                by_cases hy1 : ye = 1
                · have ST := Hid.of (start_zero (r := (now, p, [])) HY.out hy1 t0 t2)
                  subst hy1
                  clear t0 t1 t2
                  go_wp2_with fail
                  refine (S.start _ (now, p, []) 0 t _ H7.out.h.ok F1.out (by unfold In64; decide) HT.out H7.out.h.x).mono ?_
                  rintro e w8 ⟨rfl, b8⟩
                  rw [ST.out]
                  have H8 := Hid.of (H7.out.next b8)
                  clear b8 H7 c0 c1 c2 c3 c4 c5 c6 c7 c8 q1'
                  go_wp2_with fail
                  refine (reachAlive_any S _ H8.out.h.ok).mono ?_
                  rintro e w9 ⟨rfl, b9'⟩
                  have H9 := Hid.of (H8.out.next b9')
                  clear b9' H8
                  obtain ⟨c0, c1, c2, c3, c4, c5, c6, c7, c8⟩ := H9.out.at
                  go_wp2
                  go_ret
                  exact ⟨rfl, H9.out.h.fr⟩
                · clear t0 t1 t2 t3
                  go_wp2_with fail
                  refine (reachAlive_any S _ H7.out.h.ok).mono ?_
                  rintro e w8 ⟨rfl, b8⟩
                  go_wp2
                  go_ret
                  exact ⟨rfl, H7.out.h.fr.trans (b8.mono H7.out.h.fr.size)⟩
              · obtain ⟨er, her⟩ : ∃ er, rTakes (now, p, []) sn t = er := ⟨_, rfl⟩
                rw [her] at htk ⊢
                clear her
                go_wp2_with fail
                refine (reachAlive_any S _ H7.out.h.ok).mono ?_
                rintro e w8 ⟨rfl, b8⟩
                go_wp2
                go_ret
                exact ⟨rfl, H7.out.h.fr.trans (b8.mono H7.out.h.fr.size)⟩

end Go.Proofs.Ytfbgjoildibikaa

/-
  Samples that came in, by value.
-/
namespace Go.Proofs.Ytfbgjoildibikaa
open Go.ChangeShapes Go.WideShapes Go.ChangeAt Go.RowKit Go.Lib

theorem smp_leaves : leaves Try.prog 2 27 = some [9, 3, 3] := by kernel_rfl
theorem smp_size : Try.prog.cellsOf 27 = 3 := by kernel_rfl

set_option maxRecDepth 20000 in
theorem smp_of_trod {H : Type} {enc : TypeId × Value → H} {W : World} {sp : Nat → Bool} {r : Reach} {b0 : Nat} {v : Value} {d : DataW H} {ps : List MemPlace} (hv : Value.okWide Try.prog W r b0 27 v)
    (h : DataW.Trod enc Try.prog W 0 sp true 27 v d ps) : ∃ a : ByteArray × Int × Int, v = .agg #[.string a.1, .int .i64 a.2.1, .int .i64 a.2.2] ∧ a.1.size ≤ maxLen ∧ In64 a.2.1 ∧ In64 a.2.2 := by
  obtain ⟨cs, rfl, hsz⟩ := okWide_struct Try.underlying27 hv
  obtain ⟨fuel, hf⟩ := h
  have hl : cs.toList.length = 3 := Array.length_toList.trans (hsz.trans smp_size)
  have hF := leaf_at 2 _ _ cs.toList fuel _ smp_leaves (by rw [smp_size]; omega) hf
  obtain ⟨n0, c0, w0⟩ := leaf_string Try.underlying9 (hF 0 _ rfl)
  obtain ⟨n1, c1, w1⟩ := leaf_int Try.underlying3 (hF 1 _ rfl)
  obtain ⟨n2, c2, w2⟩ := leaf_int Try.underlying3 (hF 2 _ rfl)
  refine ⟨(n0, n1, n2), ?_, w0, in64_of n1 w1, in64_of n2 w2⟩
  have e : cs.toList = [.string n0, .int .i64 n1, .int .i64 n2] := by
    match hcs : cs.toList, hl with
    | [x0, x1, x2], _ =>
      rw [hcs] at c0 c1 c2
      simp at c0 c1 c2
      rw [c0, c1, c2]
  rw [← Array.toArray_toList (xs := cs), e]

end Go.Proofs.Ytfbgjoildibikaa
