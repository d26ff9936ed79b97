/-
  ViewMore: one sample more changes just its own bucket of each tier that has it.
-/
import Derived.Test.YtdhkmcmipkfkjaaVORr
import Derived.Test.YtdhkmcmipkfkjaaVMWr
namespace Go.Proofs.Ytdhkmcmipkfkjaa
open Go.RowKit Go.Lib

theorem vcells_own (w : World) (cs : Array Value) (T : TypeId) (k : Nat) (hk : cs.size = k) : (w.alloc (.cells cs T)).ownsRow w.heap.size T k (.slice (some ⟨w.heap.size, 0, none⟩) 1 1) 1 cs.toList :=
  ⟨by rw [Array.length_toList, hk, Nat.one_mul], .inr ⟨w.heap.size, 1, cs, rfl, Nat.le_refl _, Go.heap_alloc_new _ _, Nat.le_refl _, by unfold maxLen; omega, by rw [hk, Nat.one_mul], by rw [List.take_of_length_le (by rw [Array.length_toList, hk, Nat.one_mul]; exact Nat.le_refl _)]⟩⟩

/-- Rows of another bag, that are all new. -/
theorem Bag.join {D : Nat} {w w' : World} {rs ks : List Row1} (h : Bag D w rs []) (b : Below w.heap.size w w') (k : Bag w.heap.size w' ks []) (hD : D ≤ w.heap.size) : Bag D w' (ks ++ rs) [] := by
  have h' := h.below b
  refine ⟨fun r hr => ?_, List.pairwise_append.2 ⟨k.apart, h'.apart, fun x hx y hy g hg hg' => ?_⟩, fun _ hq => absurd hq List.not_mem_nil, fun _ hq => absurd hq List.not_mem_nil⟩
  · rcases List.mem_append.1 hr with hr | hr
    · exact own_mono (k.own r hr) hD
    · exact h'.own r hr
  · have h1 := own_ge (k.own x hx) hg
    have h2 := ((h.own y hy).lt g hg').2
    omega

theorem AllRow.mem {D : Nat} {w : World} {u : Value} {us : List Value} {r : RchL} {ss : List SamL} {rs : List Row1} (h : Bag D w rs []) (hs : ∀ x ∈ oRow u us :: vRows r ss us, x ∈ rs) : AllRow w u us r ss :=
  ⟨own_row (h.own _ (hs _ (List.mem_cons_self ..))), fun k x hx => by
    have o := h.own _ (hs _ (List.mem_cons_of_mem _ (vRows_at (r := r) (ss := ss) hx)))
    obtain ⟨a, c, e, -⟩ := own_one o
    have rw_ := own_row o
    simp only at e rw_
    rw [tflat] at rw_
    exact ⟨a, c, e, rw_⟩⟩

set_option maxRecDepth 20000 in
set_option maxHeartbeats 12800000 in
theorem viewMore_main (S : ReachSpec) (v sv : Value) (p : PolL) (now : Int) (ss : List SamL) (mn : ByteArray) (mt mx : Int) (w : World) (hS : S.Ok w) (hv : PolRow w v p) (hpn : p.1.size ≤ maxLen) (hp : ∀ x ∈ p.2, TIn x) (hnow : In64 now) (hs : CellRow w sv ss.length (flat aenc ss)) (fs : ∀ s ∈ ss, SFit s) (hmn : mn.size ≤ maxLen) (hmt : In64 mt) (hmx : In64 mx) :
    Calls Try.prog 4 #[v, .int .i64 now, sv, .agg #[.string mn, .int .i64 mt, .int .i64 mx]] w fun e w' => e = .returned (.bool true) ∧ Below w.heap.size w w' := by
  obtain ⟨sl, rfl, hsl, hsk⟩ := hv
  have HSL := Hid.of hsl
  obtain ⟨sa, sc, rfl, -⟩ := hsl
  have HV := Hid.of hs
  obtain ⟨va, vc, rfl, -⟩ := hs
  obtain ⟨n, hn⟩ : ∃ n, p.1 = n := ⟨_, rfl⟩
  obtain ⟨N, hN⟩ : ∃ N, p.2.length = N := ⟨_, rfl⟩
  rw [hn, hN]
  rw [hN] at HSL
  have HSK : Hid (CapOk (.slice sa N sc)) := Hid.of (by rw [← hN]; exact hsk)
  clear hsk
  obtain ⟨B, hB⟩ : ∃ B, w.heap.size = B := ⟨_, rfl⟩
  obtain ⟨w1, hw1⟩ : ∃ w1, (w.alloc (.cells #[.string n, .slice sa N sc] 24)).alloc (.cells #[.string mn, .int .i64 mt, .int .i64 mx] 28) = w1 := ⟨_, rfl⟩
  have b1 : Below w.heap.size w w1 := by rw [← hw1]; exact ((Below.refl _ _).alloc (Nat.le_refl _) _).alloc (by simp) _
  have I1 : Hid (PM S B n (.slice sa N sc) p mn mt mx w w1) := Hid.of
    ⟨⟨by rw [← hw1, ← hB]; exact (PBlk.made w _ _).kept ((Below.refl _ _).alloc (Nat.le_refl _) _), ⟨_, by rw [hn], by rw [hN]; exact HSL.out, HSK.out⟩, hS, b1, hB⟩, by
      rw [← hw1, ← hB]
      have h := Go.heap_alloc_new (w.alloc (.cells #[.string n, .slice sa N sc] 24)) (.cells #[.string mn, .int .i64 mt, .int .i64 mx] 28 (0, 0))
      rw [show (w.alloc (.cells #[.string n, .slice sa N sc] 24)).heap.size = w.heap.size + 1 by simp] at h
      exact h⟩
  have HNW := Hid.of hnow
  have HMN := Hid.of hmn
  have HMT := Hid.of hmt
  have HMX := Hid.of hmx
  have HW := Hid.of hw1
  have HBB := Hid.of hB
  have HN := Hid.of hN
  have Hn := Hid.of hn
  have HP := Hid.of hp
  have HPN := Hid.of hpn
  have FS := Hid.of fs
  clear hw1 b1 hN hn hS hp HSL fs hB hpn hnow hmn hmt hmx
  obtain ⟨c0, c1⟩ := I1.out.pv.k.at
  go_enter Try.func4, Try.ntmps4
  go_upto_region 1 with fail
  rw [HW.out, HBB.out]
  clear HW
  go_wp2_with fail
  refine (refCheck_wide _ p _ I1.out.pv.row HPN.out (fun x hx => (HP.out x hx).1)).mono ?_
  rintro e w2 ⟨rfl, b2⟩
  have I2 := Hid.of (I1.out.next b2)
  clear b2 I1 c0 c1
  obtain ⟨ce, cn, hce⟩ : ∃ ce cn, pCheck p = (ce, cn) := ⟨_, _, rfl⟩
  have HCE := Hid.of hce
  rw [hce]
  simp only
  clear hce
  obtain ⟨c0, c1⟩ := I2.out.pv.k.at
  go_wp2_with fail
  refine (Small_any _ p _ I2.out.pv.row).mono ?_
  rintro e w3 ⟨r, rfl, hr, b3⟩
  have I3 := Hid.of (I2.out.next b3)
  clear b3 I2 c0 c1
  obtain ⟨c0, c1⟩ := I3.out.pv.k.at
  have BAD : Hid (∀ w9, PV S B n (.slice sa N sc) p w w9 → Calls Try.prog 9 #[] w9 fun e w' => e = .returned (.bool true) ∧ Below w.heap.size w w') := Hid.of (fun w9 h => by
    refine (viewAlive_any S w9 h.ok).mono ?_
    rintro e w' ⟨he, b⟩
    exact ⟨he, h.fr.trans (b.mono h.fr.size)⟩)
  cases r with
  | false =>
    go_wp2_with fail
    refine (BAD.out _ I3.out.pv).mono ?_
    rintro e w4 ⟨rfl, b4⟩
    go_wp2
    go_ret
    exact ⟨rfl, b4⟩
  | true =>
    have SP := Hid.of (fit_of HP.out (hr.out rfl))
    clear hr
    go_wp2_with fail
    refine (Some_any 30 _ ss _ (HV.out.kept I3.out.pv.fr) (by decide)).mono ?_
    rintro e w4 ⟨r, rfl, hr, b4⟩
    have I4 := Hid.of (I3.out.next b4)
    clear b4 I3 c0 c1
    obtain ⟨c0, c1⟩ := I4.out.pv.k.at
    cases r with
    | false =>
      go_wp2_with fail
      refine (BAD.out _ I4.out.pv).mono ?_
      rintro e w5 ⟨rfl, b5⟩
      go_wp2
      go_ret
      exact ⟨rfl, b5⟩
    | true =>
      have SF : Hid (ss.length ≤ 30) := Hid.of (hr.out rfl).1
      clear hr
      obtain ⟨e0, e1, e2⟩ := I4.out.sat
      by_cases hbad : (60 : Int) < (mn.size : Int) ∨ ce ≠ 0
      · have hb2 : (60 : Int) < (mn.size : Int) ∨ (¬ (60 : Int) < (mn.size : Int) ∧ ce ≠ 0) := by omega
        clear hbad
        rcases hb2 with h2 | ⟨h2, h5⟩
        all_goals
          try have h6 : (ce != 0) = true := by simpa using h5
          go_wp2_with fail
          refine (BAD.out _ I4.out.pv).mono ?_
          rintro e w5 ⟨rfl, b5⟩
          go_wp2
          go_ret
          exact ⟨rfl, b5⟩
      · obtain ⟨h2, h5⟩ : ¬ (60 : Int) < (mn.size : Int) ∧ ce = 0 := by omega
        subst h5
        have HC : Hid ((pCheck p).1 = 0) := Hid.of (by rw [HCE.out])
        have FT : Hid (RFit (now, p, [])) := Hid.of ⟨HNW.out, SP.out, by simp, fun _ h => by cases h⟩
        have VK := Hid.of (vok_of HC.out now [])
        have MF : Hid (SFit (mn, mt, mx)) := Hid.of ⟨HMN.out, HMT.out, HMX.out⟩
        clear hbad HCE
        have N10 : Hid (N ≤ 5) := Hid.of (by rw [← HN.out]; exact (pCheck_ok HC.out).2.2.2.1)
        go_wp2_with fail
        refine (S.of _ _ p now [] _ I4.out.pv.ok FT.out I4.out.pv.row ⟨_, _, rfl, .inl rfl⟩ (Nat.le_refl _)).mono ?_
        rintro e w6 ⟨u, rfl, ou, b6⟩
        have rr := OwnRch.row ou
        obtain ⟨s2, f2, rfl, o1, o2, -⟩ := ou
        obtain ⟨s2a, s2c, rfl, -⟩ := own_one o1
        obtain ⟨f2a, f2c, rfl, -⟩ := own_one o2
        clear o1 o2
        have ev : rVal (now, p, []) (.slice s2a ((now, p, []) : RchL).2.1.2.length s2c) (.slice f2a ((now, p, []) : RchL).2.2.length f2c) = .agg #[.int .i64 now, .string n, .slice s2a N s2c, .slice f2a 0 f2c] := by
          rw [← Hn.out, ← HN.out]
          rfl
        rw [ev] at rr ⊢
        have I7 := Hid.of (I4.out.next b6)
        have RR7 := Hid.of rr
        obtain ⟨z, hz⟩ : ∃ z, w6.heap.size = z := ⟨_, rfl⟩
        obtain ⟨w7, hw7⟩ : ∃ w7, w6.alloc (.cells #[.int .i64 now, .string n, .slice s2a N s2c, .slice f2a 0 f2c] 36) = w7 := ⟨_, rfl⟩
        have b7 : Below w6.heap.size w6 w7 := by rw [← hw7]; exact (Below.refl _ _).alloc (Nat.le_refl _) _
        have GZ7 : Hid (OZ S B n (.slice sa N sc) p mn mt mx w z now (.slice s2a N s2c) (.slice f2a 0 f2c) w7) := Hid.of
          ⟨I7.out.next b7, ⟨by rw [← hw7, ← hz]; exact Go.heap_alloc_new _ _, RR7.out.kept b7, S.kept I7.out.pv.ok b7, I7.out.pv.fr.trans (b7.mono I7.out.pv.fr.size)⟩⟩
        have HW7 := Hid.of hw7
        have HZZ := Hid.of hz
        clear b6 rr ev hz hw7 b7 I4 I7 RR7 c0 c1 e0 e1 e2 h2
        go_upto_region 5 with fail
        rw [HW7.out, HZZ.out]
        clear HW7 HZZ
        obtain ⟨M, hM⟩ : ∃ M, ss.length = M := ⟨_, rfl⟩
        have HM := Hid.of hM
        have HFL : Hid ((flat aenc ss).length = M * 3) := Hid.of (by rw [flat_length aenc_len, hM])
        have MH : Hid (M ≤ 30) := Hid.of (by rw [← hM]; exact SF.out)
        obtain ⟨i0, hi, hz0, hz1, hz2⟩ := info_parts samV_info
        have HI := Hid.of hi
        have HZ0 := Hid.of hz0
        have HZ1 := Hid.of hz1
        have HZ2 := Hid.of hz2
        have CS7 := Hid.of GZ7.out.cs2
        rw [hM]
        clear hi hz0 hz1 hz2 hM
        go_cut [12, 13] (fun xv yv wx => ∃ (usx usy : List Value) (xa : Option Addr) (xc : Nat) (ya : Option Addr) (yc : Nat), xv = .slice xa N xc ∧ yv = .slice ya N yc ∧ Hid (AllRow wx (.slice xa N xc) usx (now, p, []) ss) ∧ Hid (AllRow wx (.slice ya N yc) usy (now, p, []) (ss ++ [(mn, mt, mx)])) ∧ Hid (usx.length = N) ∧ Hid (usy.length = N) ∧ Hid (Below w7.heap.size w7 wx))
        case first =>
          obtain ⟨W0, hW0⟩ : ∃ W0, w7.drew = W0 := ⟨_, rfl⟩
          have BG0 : Hid (Below w7.heap.size w7 W0) := Hid.of (by rw [← hW0]; exact (Below.refl _ _).drew)
          have BAG0 : Hid (Bag w7.heap.size W0 [] []) := Hid.of (Bag.nil _ _)
          as_aux_lemma =>
            have CSD := Hid.of (CS7.out.next BG0.out)
            have d0 := (CSD.out).head
            have d1 := ((CSD.out).tail).head
            have d2 := (((CSD.out).tail).tail).head
            have d3 := ((((CSD.out).tail).tail).tail).head
            have d4 := (((((CSD.out).tail).tail).tail).tail).head
            have d5 := ((((((CSD.out).tail).tail).tail).tail).tail).head
            have d6 := (((((((CSD.out).tail).tail).tail).tail).tail).tail).head
            refine wp_region_noPanic ?_
            refine wp_region_held_drew (S := fun w' => w'.cell? ⟨z, 0, none⟩ = some (.int .i64 now) ∧ w'.cell? ⟨z, 1, none⟩ = some (.string n) ∧ w'.cell? ⟨z, 2, none⟩ = some (.slice s2a N s2c) ∧ w'.cell? ⟨z, 3, none⟩ = some (.slice f2a 0 f2c) ∧ w'.cell? ⟨B + 1, 0, none⟩ = some (.string mn) ∧ w'.cell? ⟨B + 1, 1, none⟩ = some (.int .i64 mt) ∧ w'.cell? ⟨B + 1, 2, none⟩ = some (.int .i64 mx)) (by kernel_rfl) ?_ (fun hHeld => ?_)
            · rw [hW0]; exact ⟨d0, d1, d2, d3, d4, d5, d6⟩
            refine wpAnyH_take (i := 0) (oi := ⟨_, _, _, _, _, _⟩) (v := ?_) rfl (by kernel_rfl) (by kernel_rfl) (by kernel_rfl) (fun _ _ _ h => h) (Or.inl ⟨by rfl, ?_⟩) hHeld ?_
            rotate_left
            · intro w' hSw
              try dsimp only at hSw
              go_simp
              all_goals with_reducible rfl
            simp only [Act.put, List.setIfInBounds_toArray, List.set_cons_zero, List.set_cons_succ]
            refine wpAnyH_take (i := 1) (oi := ⟨_, _, _, _, _, _⟩) (v := ?_) rfl (by kernel_rfl) (by kernel_rfl) (by kernel_rfl) (fun _ _ _ h => h) (Or.inl ⟨by rfl, ?_⟩) hHeld ?_
            rotate_left
            · intro w' hSw
              try dsimp only at hSw
              go_simp
              all_goals with_reducible rfl
            simp only [Act.put, List.setIfInBounds_toArray, List.set_cons_zero, List.set_cons_succ]
            refine wpAnyH_take (i := 3) (oi := ⟨_, _, _, _, _, _⟩) (v := ?_) rfl (by kernel_rfl) (by kernel_rfl) (by kernel_rfl) (fun _ _ _ h => h) (Or.inl ⟨by rfl, ?_⟩) hHeld ?_
            rotate_left
            · intro w' hSw
              try dsimp only at hSw
              go_simp
              all_goals with_reducible rfl
            simp only [Act.put, List.setIfInBounds_toArray, List.set_cons_zero, List.set_cons_succ]
            refine wpAnyH_take (i := 4) (oi := ⟨_, _, _, _, _, _⟩) (v := ?_) rfl (by kernel_rfl) (by kernel_rfl) (by kernel_rfl) (fun _ _ _ h => h) (Or.inl ⟨by rfl, ?_⟩) hHeld ?_
            rotate_left
            · intro w' hSw
              try dsimp only at hSw
              go_simp
              all_goals with_reducible rfl
            simp only [Act.put, List.setIfInBounds_toArray, List.set_cons_zero, List.set_cons_succ]
            refine wpAnyH_take (i := 6) (oi := ⟨_, _, _, _, _, _⟩) (v := ?_) rfl (by kernel_rfl) (by kernel_rfl) (by kernel_rfl) (fun _ _ _ h => h) (Or.inl ⟨by rfl, ?_⟩) hHeld ?_
            rotate_left
            · intro w' hSw
              try dsimp only at hSw
              go_simp
              all_goals with_reducible rfl
            simp only [Act.put, List.setIfInBounds_toArray, List.set_cons_zero, List.set_cons_succ]
            refine wpAnyH_ready (rs := [2, 7]) (by kernel_rfl) (by simp) ?_
            refine AllReadyH.cons (o := ⟨_, _, _, _, _, _⟩) rfl (fun K hK => ?_) (AllReadyH.cons (o := ⟨_, _, _, _, _, _⟩) rfl (fun K hK => ?_) AllReadyH.nil)
            · go_simp
              have GZ0 := Hid.of (GZ7.out.next BG0.out)
              refine (viewAll_any S _ (.slice va M vc) (now, p, []) ss _ GZ0.out.ok FT.out VK.out GZ0.out.x (by rw [show ((now, p, []) : RchL).2.1.2.length = N from HN.out]; have := N10.out; omega) (by have h := HV.out.kept GZ0.out.pm.pv.fr; rw [HM.out] at h ⊢; exact h) (by have := SF.out; omega) FS.out).mono ?_
              rintro e W1 ⟨u, usx, rfl, hus, bag, bb⟩
              obtain ⟨xa, xc, hu, -⟩ := own_one (bag.own _ (List.mem_cons_self ..))
              have hu2 : u = .slice xa N xc := hu.trans (by rw [show (oRow u usx).n = usx.length from rfl, hus]; exact congrArg (fun k => Value.slice xa k xc) HN.out)
              subst hu2
              have Ux : Hid (usx.length = N) := Hid.of (hus.trans HN.out)
              have BAG1 : Hid (Bag w7.heap.size W1 ((oRow (.slice xa N xc) usx :: vRows (now, p, []) ss usx) ++ []) []) := Hid.of (BAG0.out.join bb bag BG0.out.size)
              have BG1 := Hid.of (BG0.out.trans (bb.mono BG0.out.size))
              clear bb hus bag hu GZ0 BAG0
              have CS1 := Hid.of (CS7.out.next BG1.out)
              clear hHeld d0 d1 d2 d3 d4 d5 d6
              have d0 := (CS1.out).head
              have d1 := ((CS1.out).tail).head
              have d2 := (((CS1.out).tail).tail).head
              have d3 := ((((CS1.out).tail).tail).tail).head
              have d4 := (((((CS1.out).tail).tail).tail).tail).head
              have d5 := ((((((CS1.out).tail).tail).tail).tail).tail).head
              have d6 := (((((((CS1.out).tail).tail).tail).tail).tail).tail).head
              refine hK.out _ _ ⟨d0, d1, d2, d3, d4, d5, d6⟩ (fun hHeld => ?_)
              clear hK K
              try simp only [Act.put, List.setIfInBounds_toArray, List.set_cons_zero, List.set_cons_succ]
              clear CS1
              refine wpAnyH_ready (rs := [5, 7]) (by kernel_rfl) (by simp) ?_
              refine AllReadyH.cons (o := ⟨_, _, _, _, _, _⟩) rfl (fun K hK => ?_) (AllReadyH.cons (o := ⟨_, _, _, _, _, _⟩) rfl (fun K hK => ?_) AllReadyH.nil)
              · refine step_append_any rfl (.const (.slice none 0 0)) (.tmp 54) 25 rfl W1.heap.size 28 i0 _ 3 32 Try.underlying25 HI.out HZ0.out HZ1.out HZ2.out rfl (by decide) (.slice none 0 0) 0 [] rfl (World.ownsRow_nil _ _ _ _) (.slice va M vc) M (flat aenc ss) (by simp [Act.eval]) (by have h := HV.out.kept (GZ7.out.next BG1.out).pm.pv.fr; rw [HM.out] at h; exact h) HFL.out (flat_ones aenc_one _) (by have := MH.out; unfold maxLen; omega) (by have := MH.out; omega) (Nat.le_refl _) ?_
                intro v1 W2 o1 g1 m1
                have bb := below_of_none g1
                have o1b : W2.ownsRow W1.heap.size 28 3 v1 M (flat aenc ss) := by simpa using o1
                have BAG2 : Hid (Bag w7.heap.size W2 ([⟨28, 3, v1, M, flat aenc ss⟩] ++ ((oRow (.slice xa N xc) usx :: vRows (now, p, []) ss usx) ++ [])) []) := Hid.of (BAG1.out.new bb o1b BG1.out.size)
                have BG2 := Hid.of (BG1.out.trans (bb.mono BG1.out.size))
                clear bb o1 g1 m1 o1b BAG1
                have CS2 := Hid.of (CS7.out.next BG2.out)
                clear hHeld d0 d1 d2 d3 d4 d5 d6
                have d0 := (CS2.out).head
                have d1 := ((CS2.out).tail).head
                have d2 := (((CS2.out).tail).tail).head
                have d3 := ((((CS2.out).tail).tail).tail).head
                have d4 := (((((CS2.out).tail).tail).tail).tail).head
                have d5 := ((((((CS2.out).tail).tail).tail).tail).tail).head
                have d6 := (((((((CS2.out).tail).tail).tail).tail).tail).tail).head
                refine hK.out _ _ ⟨d0, d1, d2, d3, d4, d5, d6⟩ (fun hHeld => ?_)
                clear hK K
                try simp only [Act.put, List.setIfInBounds_toArray, List.set_cons_zero, List.set_cons_succ]
                clear CS2 BG1
                refine wpAnyH_ready (rs := [7]) (by kernel_rfl) (by simp) ?_
                refine AllReadyH.cons (o := ⟨_, _, _, _, _, _⟩) rfl (fun K hK => ?_) AllReadyH.nil
                go_simp
                obtain ⟨xb, hxb⟩ : ∃ xb, W2.heap.size = xb := ⟨_, rfl⟩
                obtain ⟨W3, hwb⟩ : ∃ x, W2.alloc (.cells #[.string mn, .int .i64 mt, .int .i64 mx] 28) = x := ⟨_, rfl⟩
                have bb : Below W2.heap.size W2 W3 := by rw [← hwb]; exact (Below.refl _ _).alloc (Nat.le_refl _) _
                have ob : W3.ownsRow W2.heap.size 28 3 (.slice (some ⟨xb, 0, none⟩) 1 1) 1 (flat aenc [(mn, mt, mx)]) := by rw [← hwb, ← hxb]; exact vcells_own W2 #[.string mn, .int .i64 mt, .int .i64 mx] _ 3 rfl
                rw [hwb, hxb]
                have BAG3 : Hid (Bag w7.heap.size W3 ([⟨28, 3, .slice (some ⟨xb, 0, none⟩) 1 1, 1, flat aenc [(mn, mt, mx)]⟩] ++ ([⟨28, 3, v1, M, flat aenc ss⟩] ++ ((oRow (.slice xa N xc) usx :: vRows (now, p, []) ss usx) ++ []))) []) := Hid.of (BAG2.out.new bb ob BG2.out.size)
                have BG3 := Hid.of (BG2.out.trans (bb.mono BG2.out.size))
                clear bb hwb hxb ob BAG2
                have CS3 := Hid.of (CS7.out.next BG3.out)
                clear hHeld d0 d1 d2 d3 d4 d5 d6
                have d0 := (CS3.out).head
                have d1 := ((CS3.out).tail).head
                have d2 := (((CS3.out).tail).tail).head
                have d3 := ((((CS3.out).tail).tail).tail).head
                have d4 := (((((CS3.out).tail).tail).tail).tail).head
                have d5 := ((((((CS3.out).tail).tail).tail).tail).tail).head
                have d6 := (((((((CS3.out).tail).tail).tail).tail).tail).tail).head
                refine hK.out _ _ ⟨d0, d1, d2, d3, d4, d5, d6⟩ (fun hHeld => ?_)
                clear hK K
                try simp only [Act.put, List.setIfInBounds_toArray, List.set_cons_zero, List.set_cons_succ]
                clear CS3 BG2
                refine wpAnyH_ready (rs := [8]) (by kernel_rfl) (by simp) ?_
                refine AllReadyH.cons (o := ⟨_, _, _, _, _, _⟩) rfl (fun K hK => ?_) AllReadyH.nil
                have ov := BAG3.out.own _ (List.mem_append_right _ (List.mem_append_left _ (List.mem_singleton.2 rfl)))
                have ox := own_row (BAG3.out.own _ (List.mem_append_left _ (List.mem_singleton.2 rfl)))
                simp only at ov ox
                refine step_append_any rfl (.tmp 55) (.tmp 57) 25 rfl w7.heap.size 28 i0 _ 3 32 Try.underlying25 HI.out HZ0.out HZ1.out HZ2.out rfl (by decide) v1 M (flat aenc ss) (by simp [Act.eval]) ov (.slice (some ⟨xb, 0, none⟩) 1 1) 1 (flat aenc [(mn, mt, mx)]) (by simp [Act.eval]) ox rfl (flat_ones aenc_one _) (by have := MH.out; unfold maxLen; omega) (by have := MH.out; omega) BG3.out.size ?_
                intro v5 W4 o5 g5 m5
                have BG4 : Hid (Below w7.heap.size w7 W4) := Hid.of (BG3.out.grown g5 BG3.out.size (fun k hk => own_ge ov hk))
                have BAG4 : Hid (Bag w7.heap.size W4 ([⟨28, 3, v5, M + 1, flat aenc ss ++ flat aenc [(mn, mt, mx)]⟩] ++ ([⟨28, 3, .slice (some ⟨xb, 0, none⟩) 1 1, 1, flat aenc [(mn, mt, mx)]⟩] ++ ((oRow (.slice xa N xc) usx :: vRows (now, p, []) ss usx) ++ []))) []) := Hid.of (Bag.grow (r := ⟨28, 3, v1, M, flat aenc ss⟩) (BAG3.out.perm (by
                      have h : ∀ A0 A1 A2 : List Row1, (A0 ++ (A1 ++ (A2 ++ []))).Perm (A1 ++ (A0 ++ (A2 ++ []))) := by
                        intro A0 A1 A2
                        classical
                        rw [List.perm_iff_count]
                        intro a
                        simp only [List.count_append] <;> omega
                      exact h _ _ _)) g5 o5 m5)
                clear o5 g5 m5 ov ox BAG3
                have CS4 := Hid.of (CS7.out.next BG4.out)
                clear hHeld d0 d1 d2 d3 d4 d5 d6
                have d0 := (CS4.out).head
                have d1 := ((CS4.out).tail).head
                have d2 := (((CS4.out).tail).tail).head
                have d3 := ((((CS4.out).tail).tail).tail).head
                have d4 := (((((CS4.out).tail).tail).tail).tail).head
                have d5 := ((((((CS4.out).tail).tail).tail).tail).tail).head
                have d6 := (((((((CS4.out).tail).tail).tail).tail).tail).tail).head
                refine hK.out _ _ ⟨d0, d1, d2, d3, d4, d5, d6⟩ (fun hHeld => ?_)
                clear hK K
                try simp only [Act.put, List.setIfInBounds_toArray, List.set_cons_zero, List.set_cons_succ]
                clear CS4 BG3
                refine wpAnyH_ready (rs := [9]) (by kernel_rfl) (by simp) ?_
                refine AllReadyH.cons (o := ⟨_, _, _, _, _, _⟩) rfl (fun K hK => ?_) AllReadyH.nil
                go_simp
                have GZ4 := Hid.of (GZ7.out.next BG4.out)
                refine (viewAll_any S _ (v5) (now, p, []) (ss ++ [(mn, mt, mx)]) _ GZ4.out.ok FT.out VK.out GZ4.out.x (by rw [show ((now, p, []) : RchL).2.1.2.length = N from HN.out]; have := N10.out; omega) (by have h := own_row (BAG4.out.own _ (List.mem_append_left _ (List.mem_singleton.2 rfl))); simp only at h; rw [flat_append, List.length_append, HM.out]; exact h) (by rw [List.length_append, HM.out]; have := MH.out; simp; omega) (fun s hs => by rcases List.mem_append.1 hs with h | h; exact FS.out s h; rw [List.mem_singleton.1 h]; exact MF.out)).mono ?_
                rintro e W5 ⟨u, usy, rfl, hus, bag, bb⟩
                obtain ⟨ya, yc, hu, -⟩ := own_one (bag.own _ (List.mem_cons_self ..))
                have hu2 : u = .slice ya N yc := hu.trans (by rw [show (oRow u usy).n = usy.length from rfl, hus]; exact congrArg (fun k => Value.slice ya k yc) HN.out)
                subst hu2
                have Uy : Hid (usy.length = N) := Hid.of (hus.trans HN.out)
                have BAG5 : Hid (Bag w7.heap.size W5 ((oRow (.slice ya N yc) usy :: vRows (now, p, []) (ss ++ [(mn, mt, mx)]) usy) ++ ([⟨28, 3, v5, M + 1, flat aenc ss ++ flat aenc [(mn, mt, mx)]⟩] ++ ([⟨28, 3, .slice (some ⟨xb, 0, none⟩) 1 1, 1, flat aenc [(mn, mt, mx)]⟩] ++ ((oRow (.slice xa N xc) usx :: vRows (now, p, []) ss usx) ++ [])))) []) := Hid.of (BAG4.out.join bb bag BG4.out.size)
                have BG5 := Hid.of (BG4.out.trans (bb.mono BG4.out.size))
                clear bb hus bag hu GZ4 BAG4
                have CS5 := Hid.of (CS7.out.next BG5.out)
                clear hHeld d0 d1 d2 d3 d4 d5 d6
                have d0 := (CS5.out).head
                have d1 := ((CS5.out).tail).head
                have d2 := (((CS5.out).tail).tail).head
                have d3 := ((((CS5.out).tail).tail).tail).head
                have d4 := (((((CS5.out).tail).tail).tail).tail).head
                have d5 := ((((((CS5.out).tail).tail).tail).tail).tail).head
                have d6 := (((((((CS5.out).tail).tail).tail).tail).tail).tail).head
                refine hK.out _ _ ⟨d0, d1, d2, d3, d4, d5, d6⟩ (fun hHeld => ?_)
                clear hK K
                try simp only [Act.put, List.setIfInBounds_toArray, List.set_cons_zero, List.set_cons_succ]
                clear CS5 BG4
                refine wpAnyH_take (i := 10) (oi := ⟨_, _, _, _, _, _⟩) (v := ?_) rfl (by kernel_rfl) (by kernel_rfl) (by kernel_rfl) (fun _ _ _ h => h) (Or.inl ⟨by rfl, ?_⟩) hHeld ?_
                rotate_left
                · intro w' hSw
                  try dsimp only at hSw
                  go_simp
                  all_goals with_reducible rfl
                simp only [Act.put, List.setIfInBounds_toArray, List.set_cons_zero, List.set_cons_succ]
                refine wpAnyH_take (i := 11) (oi := ⟨_, _, _, _, _, _⟩) (v := ?_) rfl (by kernel_rfl) (by kernel_rfl) (by kernel_rfl) (fun _ _ _ h => h) (Or.inl ⟨by rfl, ?_⟩) hHeld ?_
                rotate_left
                · intro w' hSw
                  try dsimp only at hSw
                  go_simp
                  all_goals with_reducible rfl
                simp only [Act.put, List.setIfInBounds_toArray, List.set_cons_zero, List.set_cons_succ]
                refine wpAnyH_done (by kernel_rfl) ?_ _
                refine NoPanic.normal ?_
                clear hHeld d0 d1 d2 d3 d4 d5 d6
                go_wp2_with fail
                go_meet
                exact ⟨usx, usy, xa, xc, ya, yc, rfl, rfl, Hid.of (AllRow.mem BAG5.out (fun r hr => List.mem_append_right _ (List.mem_append_right _ (List.mem_append_right _ (List.mem_append_left _ hr))))), Hid.of (AllRow.mem BAG5.out (fun r hr => List.mem_append_left _ hr)), Ux, Uy, BG5⟩
              · go_simp
                obtain ⟨xb, hxb⟩ : ∃ xb, W1.heap.size = xb := ⟨_, rfl⟩
                obtain ⟨W2, hwb⟩ : ∃ x, W1.alloc (.cells #[.string mn, .int .i64 mt, .int .i64 mx] 28) = x := ⟨_, rfl⟩
                have bb : Below W1.heap.size W1 W2 := by rw [← hwb]; exact (Below.refl _ _).alloc (Nat.le_refl _) _
                have ob : W2.ownsRow W1.heap.size 28 3 (.slice (some ⟨xb, 0, none⟩) 1 1) 1 (flat aenc [(mn, mt, mx)]) := by rw [← hwb, ← hxb]; exact vcells_own W1 #[.string mn, .int .i64 mt, .int .i64 mx] _ 3 rfl
                rw [hwb, hxb]
                have BAG2 : Hid (Bag w7.heap.size W2 ([⟨28, 3, .slice (some ⟨xb, 0, none⟩) 1 1, 1, flat aenc [(mn, mt, mx)]⟩] ++ ((oRow (.slice xa N xc) usx :: vRows (now, p, []) ss usx) ++ [])) []) := Hid.of (BAG1.out.new bb ob BG1.out.size)
                have BG2 := Hid.of (BG1.out.trans (bb.mono BG1.out.size))
                clear bb hwb hxb ob BAG1
                have CS2 := Hid.of (CS7.out.next BG2.out)
                clear hHeld d0 d1 d2 d3 d4 d5 d6
                have d0 := (CS2.out).head
                have d1 := ((CS2.out).tail).head
                have d2 := (((CS2.out).tail).tail).head
                have d3 := ((((CS2.out).tail).tail).tail).head
                have d4 := (((((CS2.out).tail).tail).tail).tail).head
                have d5 := ((((((CS2.out).tail).tail).tail).tail).tail).head
                have d6 := (((((((CS2.out).tail).tail).tail).tail).tail).tail).head
                refine hK.out _ _ ⟨d0, d1, d2, d3, d4, d5, d6⟩ (fun hHeld => ?_)
                clear hK K
                try simp only [Act.put, List.setIfInBounds_toArray, List.set_cons_zero, List.set_cons_succ]
                clear CS2 BG1
                refine wpAnyH_ready (rs := [5]) (by kernel_rfl) (by simp) ?_
                refine AllReadyH.cons (o := ⟨_, _, _, _, _, _⟩) rfl (fun K hK => ?_) AllReadyH.nil
                refine step_append_any rfl (.const (.slice none 0 0)) (.tmp 54) 25 rfl W2.heap.size 28 i0 _ 3 32 Try.underlying25 HI.out HZ0.out HZ1.out HZ2.out rfl (by decide) (.slice none 0 0) 0 [] rfl (World.ownsRow_nil _ _ _ _) (.slice va M vc) M (flat aenc ss) (by simp [Act.eval]) (by have h := HV.out.kept (GZ7.out.next BG2.out).pm.pv.fr; rw [HM.out] at h; exact h) HFL.out (flat_ones aenc_one _) (by have := MH.out; unfold maxLen; omega) (by have := MH.out; omega) (Nat.le_refl _) ?_
                intro v1 W3 o1 g1 m1
                have bb := below_of_none g1
                have o1b : W3.ownsRow W2.heap.size 28 3 v1 M (flat aenc ss) := by simpa using o1
                have BAG3 : Hid (Bag w7.heap.size W3 ([⟨28, 3, v1, M, flat aenc ss⟩] ++ ([⟨28, 3, .slice (some ⟨xb, 0, none⟩) 1 1, 1, flat aenc [(mn, mt, mx)]⟩] ++ ((oRow (.slice xa N xc) usx :: vRows (now, p, []) ss usx) ++ []))) []) := Hid.of (BAG2.out.new bb o1b BG2.out.size)
                have BG3 := Hid.of (BG2.out.trans (bb.mono BG2.out.size))
                clear bb o1 g1 m1 o1b BAG2
                have CS3 := Hid.of (CS7.out.next BG3.out)
                clear hHeld d0 d1 d2 d3 d4 d5 d6
                have d0 := (CS3.out).head
                have d1 := ((CS3.out).tail).head
                have d2 := (((CS3.out).tail).tail).head
                have d3 := ((((CS3.out).tail).tail).tail).head
                have d4 := (((((CS3.out).tail).tail).tail).tail).head
                have d5 := ((((((CS3.out).tail).tail).tail).tail).tail).head
                have d6 := (((((((CS3.out).tail).tail).tail).tail).tail).tail).head
                refine hK.out _ _ ⟨d0, d1, d2, d3, d4, d5, d6⟩ (fun hHeld => ?_)
                clear hK K
                try simp only [Act.put, List.setIfInBounds_toArray, List.set_cons_zero, List.set_cons_succ]
                clear CS3 BG2
                refine wpAnyH_ready (rs := [8]) (by kernel_rfl) (by simp) ?_
                refine AllReadyH.cons (o := ⟨_, _, _, _, _, _⟩) rfl (fun K hK => ?_) AllReadyH.nil
                have ov := BAG3.out.own _ (List.mem_append_left _ (List.mem_singleton.2 rfl))
                have ox := own_row (BAG3.out.own _ (List.mem_append_right _ (List.mem_append_left _ (List.mem_singleton.2 rfl))))
                simp only at ov ox
                refine step_append_any rfl (.tmp 55) (.tmp 57) 25 rfl w7.heap.size 28 i0 _ 3 32 Try.underlying25 HI.out HZ0.out HZ1.out HZ2.out rfl (by decide) v1 M (flat aenc ss) (by simp [Act.eval]) ov (.slice (some ⟨xb, 0, none⟩) 1 1) 1 (flat aenc [(mn, mt, mx)]) (by simp [Act.eval]) ox rfl (flat_ones aenc_one _) (by have := MH.out; unfold maxLen; omega) (by have := MH.out; omega) BG3.out.size ?_
                intro v5 W4 o5 g5 m5
                have BG4 : Hid (Below w7.heap.size w7 W4) := Hid.of (BG3.out.grown g5 BG3.out.size (fun k hk => own_ge ov hk))
                have BAG4 : Hid (Bag w7.heap.size W4 ([⟨28, 3, v5, M + 1, flat aenc ss ++ flat aenc [(mn, mt, mx)]⟩] ++ ([⟨28, 3, .slice (some ⟨xb, 0, none⟩) 1 1, 1, flat aenc [(mn, mt, mx)]⟩] ++ ((oRow (.slice xa N xc) usx :: vRows (now, p, []) ss usx) ++ []))) []) := Hid.of (Bag.grow (r := ⟨28, 3, v1, M, flat aenc ss⟩) (BAG3.out.perm (by
                      have h : ∀ A0 A1 A2 : List Row1, (A0 ++ (A1 ++ (A2 ++ []))).Perm (A0 ++ (A1 ++ (A2 ++ []))) := by
                        intro A0 A1 A2
                        classical
                        rw [List.perm_iff_count]
                        intro a
                        simp only [List.count_append] <;> omega
                      exact h _ _ _)) g5 o5 m5)
                clear o5 g5 m5 ov ox BAG3
                have CS4 := Hid.of (CS7.out.next BG4.out)
                clear hHeld d0 d1 d2 d3 d4 d5 d6
                have d0 := (CS4.out).head
                have d1 := ((CS4.out).tail).head
                have d2 := (((CS4.out).tail).tail).head
                have d3 := ((((CS4.out).tail).tail).tail).head
                have d4 := (((((CS4.out).tail).tail).tail).tail).head
                have d5 := ((((((CS4.out).tail).tail).tail).tail).tail).head
                have d6 := (((((((CS4.out).tail).tail).tail).tail).tail).tail).head
                refine hK.out _ _ ⟨d0, d1, d2, d3, d4, d5, d6⟩ (fun hHeld => ?_)
                clear hK K
                try simp only [Act.put, List.setIfInBounds_toArray, List.set_cons_zero, List.set_cons_succ]
                clear CS4 BG3
                refine wpAnyH_ready (rs := [9]) (by kernel_rfl) (by simp) ?_
                refine AllReadyH.cons (o := ⟨_, _, _, _, _, _⟩) rfl (fun K hK => ?_) AllReadyH.nil
                go_simp
                have GZ4 := Hid.of (GZ7.out.next BG4.out)
                refine (viewAll_any S _ (v5) (now, p, []) (ss ++ [(mn, mt, mx)]) _ GZ4.out.ok FT.out VK.out GZ4.out.x (by rw [show ((now, p, []) : RchL).2.1.2.length = N from HN.out]; have := N10.out; omega) (by have h := own_row (BAG4.out.own _ (List.mem_append_left _ (List.mem_singleton.2 rfl))); simp only at h; rw [flat_append, List.length_append, HM.out]; exact h) (by rw [List.length_append, HM.out]; have := MH.out; simp; omega) (fun s hs => by rcases List.mem_append.1 hs with h | h; exact FS.out s h; rw [List.mem_singleton.1 h]; exact MF.out)).mono ?_
                rintro e W5 ⟨u, usy, rfl, hus, bag, bb⟩
                obtain ⟨ya, yc, hu, -⟩ := own_one (bag.own _ (List.mem_cons_self ..))
                have hu2 : u = .slice ya N yc := hu.trans (by rw [show (oRow u usy).n = usy.length from rfl, hus]; exact congrArg (fun k => Value.slice ya k yc) HN.out)
                subst hu2
                have Uy : Hid (usy.length = N) := Hid.of (hus.trans HN.out)
                have BAG5 : Hid (Bag w7.heap.size W5 ((oRow (.slice ya N yc) usy :: vRows (now, p, []) (ss ++ [(mn, mt, mx)]) usy) ++ ([⟨28, 3, v5, M + 1, flat aenc ss ++ flat aenc [(mn, mt, mx)]⟩] ++ ([⟨28, 3, .slice (some ⟨xb, 0, none⟩) 1 1, 1, flat aenc [(mn, mt, mx)]⟩] ++ ((oRow (.slice xa N xc) usx :: vRows (now, p, []) ss usx) ++ [])))) []) := Hid.of (BAG4.out.join bb bag BG4.out.size)
                have BG5 := Hid.of (BG4.out.trans (bb.mono BG4.out.size))
                clear bb hus bag hu GZ4 BAG4
                have CS5 := Hid.of (CS7.out.next BG5.out)
                clear hHeld d0 d1 d2 d3 d4 d5 d6
                have d0 := (CS5.out).head
                have d1 := ((CS5.out).tail).head
                have d2 := (((CS5.out).tail).tail).head
                have d3 := ((((CS5.out).tail).tail).tail).head
                have d4 := (((((CS5.out).tail).tail).tail).tail).head
                have d5 := ((((((CS5.out).tail).tail).tail).tail).tail).head
                have d6 := (((((((CS5.out).tail).tail).tail).tail).tail).tail).head
                refine hK.out _ _ ⟨d0, d1, d2, d3, d4, d5, d6⟩ (fun hHeld => ?_)
                clear hK K
                try simp only [Act.put, List.setIfInBounds_toArray, List.set_cons_zero, List.set_cons_succ]
                clear CS5 BG4
                refine wpAnyH_take (i := 10) (oi := ⟨_, _, _, _, _, _⟩) (v := ?_) rfl (by kernel_rfl) (by kernel_rfl) (by kernel_rfl) (fun _ _ _ h => h) (Or.inl ⟨by rfl, ?_⟩) hHeld ?_
                rotate_left
                · intro w' hSw
                  try dsimp only at hSw
                  go_simp
                  all_goals with_reducible rfl
                simp only [Act.put, List.setIfInBounds_toArray, List.set_cons_zero, List.set_cons_succ]
                refine wpAnyH_take (i := 11) (oi := ⟨_, _, _, _, _, _⟩) (v := ?_) rfl (by kernel_rfl) (by kernel_rfl) (by kernel_rfl) (fun _ _ _ h => h) (Or.inl ⟨by rfl, ?_⟩) hHeld ?_
                rotate_left
                · intro w' hSw
                  try dsimp only at hSw
                  go_simp
                  all_goals with_reducible rfl
                simp only [Act.put, List.setIfInBounds_toArray, List.set_cons_zero, List.set_cons_succ]
                refine wpAnyH_done (by kernel_rfl) ?_ _
                refine NoPanic.normal ?_
                clear hHeld d0 d1 d2 d3 d4 d5 d6
                go_wp2_with fail
                go_meet
                exact ⟨usx, usy, xa, xc, ya, yc, rfl, rfl, Hid.of (AllRow.mem BAG5.out (fun r hr => List.mem_append_right _ (List.mem_append_right _ (List.mem_append_right _ (List.mem_append_left _ hr))))), Hid.of (AllRow.mem BAG5.out (fun r hr => List.mem_append_left _ hr)), Ux, Uy, BG5⟩
            · go_simp
              obtain ⟨xb, hxb⟩ : ∃ xb, W0.heap.size = xb := ⟨_, rfl⟩
              obtain ⟨W1, hwb⟩ : ∃ x, W0.alloc (.cells #[.string mn, .int .i64 mt, .int .i64 mx] 28) = x := ⟨_, rfl⟩
              have bb : Below W0.heap.size W0 W1 := by rw [← hwb]; exact (Below.refl _ _).alloc (Nat.le_refl _) _
              have ob : W1.ownsRow W0.heap.size 28 3 (.slice (some ⟨xb, 0, none⟩) 1 1) 1 (flat aenc [(mn, mt, mx)]) := by rw [← hwb, ← hxb]; exact vcells_own W0 #[.string mn, .int .i64 mt, .int .i64 mx] _ 3 rfl
              rw [hwb, hxb]
              have BAG1 : Hid (Bag w7.heap.size W1 ([⟨28, 3, .slice (some ⟨xb, 0, none⟩) 1 1, 1, flat aenc [(mn, mt, mx)]⟩] ++ []) []) := Hid.of (BAG0.out.new bb ob BG0.out.size)
              have BG1 := Hid.of (BG0.out.trans (bb.mono BG0.out.size))
              clear bb hwb hxb ob BAG0
              have CS1 := Hid.of (CS7.out.next BG1.out)
              clear hHeld d0 d1 d2 d3 d4 d5 d6
              have d0 := (CS1.out).head
              have d1 := ((CS1.out).tail).head
              have d2 := (((CS1.out).tail).tail).head
              have d3 := ((((CS1.out).tail).tail).tail).head
              have d4 := (((((CS1.out).tail).tail).tail).tail).head
              have d5 := ((((((CS1.out).tail).tail).tail).tail).tail).head
              have d6 := (((((((CS1.out).tail).tail).tail).tail).tail).tail).head
              refine hK.out _ _ ⟨d0, d1, d2, d3, d4, d5, d6⟩ (fun hHeld => ?_)
              clear hK K
              try simp only [Act.put, List.setIfInBounds_toArray, List.set_cons_zero, List.set_cons_succ]
              clear CS1
              refine wpAnyH_ready (rs := [2]) (by kernel_rfl) (by simp) ?_
              refine AllReadyH.cons (o := ⟨_, _, _, _, _, _⟩) rfl (fun K hK => ?_) AllReadyH.nil
              go_simp
              have GZ1 := Hid.of (GZ7.out.next BG1.out)
              refine (viewAll_any S _ (.slice va M vc) (now, p, []) ss _ GZ1.out.ok FT.out VK.out GZ1.out.x (by rw [show ((now, p, []) : RchL).2.1.2.length = N from HN.out]; have := N10.out; omega) (by have h := HV.out.kept GZ1.out.pm.pv.fr; rw [HM.out] at h ⊢; exact h) (by have := SF.out; omega) FS.out).mono ?_
              rintro e W2 ⟨u, usx, rfl, hus, bag, bb⟩
              obtain ⟨xa, xc, hu, -⟩ := own_one (bag.own _ (List.mem_cons_self ..))
              have hu2 : u = .slice xa N xc := hu.trans (by rw [show (oRow u usx).n = usx.length from rfl, hus]; exact congrArg (fun k => Value.slice xa k xc) HN.out)
              subst hu2
              have Ux : Hid (usx.length = N) := Hid.of (hus.trans HN.out)
              have BAG2 : Hid (Bag w7.heap.size W2 ((oRow (.slice xa N xc) usx :: vRows (now, p, []) ss usx) ++ ([⟨28, 3, .slice (some ⟨xb, 0, none⟩) 1 1, 1, flat aenc [(mn, mt, mx)]⟩] ++ [])) []) := Hid.of (BAG1.out.join bb bag BG1.out.size)
              have BG2 := Hid.of (BG1.out.trans (bb.mono BG1.out.size))
              clear bb hus bag hu GZ1 BAG1
              have CS2 := Hid.of (CS7.out.next BG2.out)
              clear hHeld d0 d1 d2 d3 d4 d5 d6
              have d0 := (CS2.out).head
              have d1 := ((CS2.out).tail).head
              have d2 := (((CS2.out).tail).tail).head
              have d3 := ((((CS2.out).tail).tail).tail).head
              have d4 := (((((CS2.out).tail).tail).tail).tail).head
              have d5 := ((((((CS2.out).tail).tail).tail).tail).tail).head
              have d6 := (((((((CS2.out).tail).tail).tail).tail).tail).tail).head
              refine hK.out _ _ ⟨d0, d1, d2, d3, d4, d5, d6⟩ (fun hHeld => ?_)
              clear hK K
              try simp only [Act.put, List.setIfInBounds_toArray, List.set_cons_zero, List.set_cons_succ]
              clear CS2 BG1
              refine wpAnyH_ready (rs := [5]) (by kernel_rfl) (by simp) ?_
              refine AllReadyH.cons (o := ⟨_, _, _, _, _, _⟩) rfl (fun K hK => ?_) AllReadyH.nil
              refine step_append_any rfl (.const (.slice none 0 0)) (.tmp 54) 25 rfl W2.heap.size 28 i0 _ 3 32 Try.underlying25 HI.out HZ0.out HZ1.out HZ2.out rfl (by decide) (.slice none 0 0) 0 [] rfl (World.ownsRow_nil _ _ _ _) (.slice va M vc) M (flat aenc ss) (by simp [Act.eval]) (by have h := HV.out.kept (GZ7.out.next BG2.out).pm.pv.fr; rw [HM.out] at h; exact h) HFL.out (flat_ones aenc_one _) (by have := MH.out; unfold maxLen; omega) (by have := MH.out; omega) (Nat.le_refl _) ?_
              intro v1 W3 o1 g1 m1
              have bb := below_of_none g1
              have o1b : W3.ownsRow W2.heap.size 28 3 v1 M (flat aenc ss) := by simpa using o1
              have BAG3 : Hid (Bag w7.heap.size W3 ([⟨28, 3, v1, M, flat aenc ss⟩] ++ ((oRow (.slice xa N xc) usx :: vRows (now, p, []) ss usx) ++ ([⟨28, 3, .slice (some ⟨xb, 0, none⟩) 1 1, 1, flat aenc [(mn, mt, mx)]⟩] ++ []))) []) := Hid.of (BAG2.out.new bb o1b BG2.out.size)
              have BG3 := Hid.of (BG2.out.trans (bb.mono BG2.out.size))
              clear bb o1 g1 m1 o1b BAG2
              have CS3 := Hid.of (CS7.out.next BG3.out)
              clear hHeld d0 d1 d2 d3 d4 d5 d6
              have d0 := (CS3.out).head
              have d1 := ((CS3.out).tail).head
              have d2 := (((CS3.out).tail).tail).head
              have d3 := ((((CS3.out).tail).tail).tail).head
              have d4 := (((((CS3.out).tail).tail).tail).tail).head
              have d5 := ((((((CS3.out).tail).tail).tail).tail).tail).head
              have d6 := (((((((CS3.out).tail).tail).tail).tail).tail).tail).head
              refine hK.out _ _ ⟨d0, d1, d2, d3, d4, d5, d6⟩ (fun hHeld => ?_)
              clear hK K
              try simp only [Act.put, List.setIfInBounds_toArray, List.set_cons_zero, List.set_cons_succ]
              clear CS3 BG2
              refine wpAnyH_ready (rs := [8]) (by kernel_rfl) (by simp) ?_
              refine AllReadyH.cons (o := ⟨_, _, _, _, _, _⟩) rfl (fun K hK => ?_) AllReadyH.nil
              have ov := BAG3.out.own _ (List.mem_append_left _ (List.mem_singleton.2 rfl))
              have ox := own_row (BAG3.out.own _ (List.mem_append_right _ (List.mem_append_right _ (List.mem_append_left _ (List.mem_singleton.2 rfl)))))
              simp only at ov ox
              refine step_append_any rfl (.tmp 55) (.tmp 57) 25 rfl w7.heap.size 28 i0 _ 3 32 Try.underlying25 HI.out HZ0.out HZ1.out HZ2.out rfl (by decide) v1 M (flat aenc ss) (by simp [Act.eval]) ov (.slice (some ⟨xb, 0, none⟩) 1 1) 1 (flat aenc [(mn, mt, mx)]) (by simp [Act.eval]) ox rfl (flat_ones aenc_one _) (by have := MH.out; unfold maxLen; omega) (by have := MH.out; omega) BG3.out.size ?_
              intro v5 W4 o5 g5 m5
              have BG4 : Hid (Below w7.heap.size w7 W4) := Hid.of (BG3.out.grown g5 BG3.out.size (fun k hk => own_ge ov hk))
              have BAG4 : Hid (Bag w7.heap.size W4 ([⟨28, 3, v5, M + 1, flat aenc ss ++ flat aenc [(mn, mt, mx)]⟩] ++ ((oRow (.slice xa N xc) usx :: vRows (now, p, []) ss usx) ++ ([⟨28, 3, .slice (some ⟨xb, 0, none⟩) 1 1, 1, flat aenc [(mn, mt, mx)]⟩] ++ []))) []) := Hid.of (Bag.grow (r := ⟨28, 3, v1, M, flat aenc ss⟩) (BAG3.out.perm (by
                    have h : ∀ A0 A1 A2 : List Row1, (A0 ++ (A1 ++ (A2 ++ []))).Perm (A0 ++ (A1 ++ (A2 ++ []))) := by
                      intro A0 A1 A2
                      classical
                      rw [List.perm_iff_count]
                      intro a
                      simp only [List.count_append] <;> omega
                    exact h _ _ _)) g5 o5 m5)
              clear o5 g5 m5 ov ox BAG3
              have CS4 := Hid.of (CS7.out.next BG4.out)
              clear hHeld d0 d1 d2 d3 d4 d5 d6
              have d0 := (CS4.out).head
              have d1 := ((CS4.out).tail).head
              have d2 := (((CS4.out).tail).tail).head
              have d3 := ((((CS4.out).tail).tail).tail).head
              have d4 := (((((CS4.out).tail).tail).tail).tail).head
              have d5 := ((((((CS4.out).tail).tail).tail).tail).tail).head
              have d6 := (((((((CS4.out).tail).tail).tail).tail).tail).tail).head
              refine hK.out _ _ ⟨d0, d1, d2, d3, d4, d5, d6⟩ (fun hHeld => ?_)
              clear hK K
              try simp only [Act.put, List.setIfInBounds_toArray, List.set_cons_zero, List.set_cons_succ]
              clear CS4 BG3
              refine wpAnyH_ready (rs := [9]) (by kernel_rfl) (by simp) ?_
              refine AllReadyH.cons (o := ⟨_, _, _, _, _, _⟩) rfl (fun K hK => ?_) AllReadyH.nil
              go_simp
              have GZ4 := Hid.of (GZ7.out.next BG4.out)
              refine (viewAll_any S _ (v5) (now, p, []) (ss ++ [(mn, mt, mx)]) _ GZ4.out.ok FT.out VK.out GZ4.out.x (by rw [show ((now, p, []) : RchL).2.1.2.length = N from HN.out]; have := N10.out; omega) (by have h := own_row (BAG4.out.own _ (List.mem_append_left _ (List.mem_singleton.2 rfl))); simp only at h; rw [flat_append, List.length_append, HM.out]; exact h) (by rw [List.length_append, HM.out]; have := MH.out; simp; omega) (fun s hs => by rcases List.mem_append.1 hs with h | h; exact FS.out s h; rw [List.mem_singleton.1 h]; exact MF.out)).mono ?_
              rintro e W5 ⟨u, usy, rfl, hus, bag, bb⟩
              obtain ⟨ya, yc, hu, -⟩ := own_one (bag.own _ (List.mem_cons_self ..))
              have hu2 : u = .slice ya N yc := hu.trans (by rw [show (oRow u usy).n = usy.length from rfl, hus]; exact congrArg (fun k => Value.slice ya k yc) HN.out)
              subst hu2
              have Uy : Hid (usy.length = N) := Hid.of (hus.trans HN.out)
              have BAG5 : Hid (Bag w7.heap.size W5 ((oRow (.slice ya N yc) usy :: vRows (now, p, []) (ss ++ [(mn, mt, mx)]) usy) ++ ([⟨28, 3, v5, M + 1, flat aenc ss ++ flat aenc [(mn, mt, mx)]⟩] ++ ((oRow (.slice xa N xc) usx :: vRows (now, p, []) ss usx) ++ ([⟨28, 3, .slice (some ⟨xb, 0, none⟩) 1 1, 1, flat aenc [(mn, mt, mx)]⟩] ++ [])))) []) := Hid.of (BAG4.out.join bb bag BG4.out.size)
              have BG5 := Hid.of (BG4.out.trans (bb.mono BG4.out.size))
              clear bb hus bag hu GZ4 BAG4
              have CS5 := Hid.of (CS7.out.next BG5.out)
              clear hHeld d0 d1 d2 d3 d4 d5 d6
              have d0 := (CS5.out).head
              have d1 := ((CS5.out).tail).head
              have d2 := (((CS5.out).tail).tail).head
              have d3 := ((((CS5.out).tail).tail).tail).head
              have d4 := (((((CS5.out).tail).tail).tail).tail).head
              have d5 := ((((((CS5.out).tail).tail).tail).tail).tail).head
              have d6 := (((((((CS5.out).tail).tail).tail).tail).tail).tail).head
              refine hK.out _ _ ⟨d0, d1, d2, d3, d4, d5, d6⟩ (fun hHeld => ?_)
              clear hK K
              try simp only [Act.put, List.setIfInBounds_toArray, List.set_cons_zero, List.set_cons_succ]
              clear CS5 BG4
              refine wpAnyH_take (i := 10) (oi := ⟨_, _, _, _, _, _⟩) (v := ?_) rfl (by kernel_rfl) (by kernel_rfl) (by kernel_rfl) (fun _ _ _ h => h) (Or.inl ⟨by rfl, ?_⟩) hHeld ?_
              rotate_left
              · intro w' hSw
                try dsimp only at hSw
                go_simp
                all_goals with_reducible rfl
              simp only [Act.put, List.setIfInBounds_toArray, List.set_cons_zero, List.set_cons_succ]
              refine wpAnyH_take (i := 11) (oi := ⟨_, _, _, _, _, _⟩) (v := ?_) rfl (by kernel_rfl) (by kernel_rfl) (by kernel_rfl) (fun _ _ _ h => h) (Or.inl ⟨by rfl, ?_⟩) hHeld ?_
              rotate_left
              · intro w' hSw
                try dsimp only at hSw
                go_simp
                all_goals with_reducible rfl
              simp only [Act.put, List.setIfInBounds_toArray, List.set_cons_zero, List.set_cons_succ]
              refine wpAnyH_done (by kernel_rfl) ?_ _
              refine NoPanic.normal ?_
              clear hHeld d0 d1 d2 d3 d4 d5 d6
              go_wp2_with fail
              go_meet
              exact ⟨usx, usy, xa, xc, ya, yc, rfl, rfl, Hid.of (AllRow.mem BAG5.out (fun r hr => List.mem_append_right _ (List.mem_append_right _ (List.mem_append_left _ hr)))), Hid.of (AllRow.mem BAG5.out (fun r hr => List.mem_append_left _ hr)), Ux, Uy, BG5⟩
        case rest =>
          as_aux_lemma =>
            obtain ⟨usx, usy, xa, xc, ya, yc, rfl, rfl, AX, AY, Ux, Uy, BW⟩ := hcut
            rename World => w8
            have GZ8 := Hid.of (GZ7.out.next BW.out)
            have CS8 := Hid.of GZ8.out.cs2
            clear CS7 GZ7 BW
            go_upto_region 6 with fail
            go_cut [14, 15] (fun cv dv wx => ∃ (pa : Option Addr) (pc : Nat) (qa : Option Addr) (qc : Nat), cv = .slice pa N pc ∧ dv = .slice qa N qc ∧ Hid (CellRow wx (.slice pa N pc) N ((vNs (now, p, []) ss N).map (Value.int .i64))) ∧ Hid (CellRow wx (.slice qa N qc) N ((vNs (now, p, []) (ss ++ [(mn, mt, mx)]) N).map (Value.int .i64))) ∧ Hid (Below w8.heap.size w8 wx))
            case first =>
              obtain ⟨W0, hW0⟩ : ∃ W0, w8.drew = W0 := ⟨_, rfl⟩
              have BG0 : Hid (Below w8.heap.size w8 W0) := Hid.of (by rw [← hW0]; exact (Below.refl _ _).drew)
              have BAG0 : Hid (Bag w8.heap.size W0 [] []) := Hid.of (Bag.nil _ _)
              as_aux_lemma =>
                have CSD := Hid.of (CS8.out.next BG0.out)
                have d0 := (CSD.out).head
                have d1 := ((CSD.out).tail).head
                have d2 := (((CSD.out).tail).tail).head
                have d3 := ((((CSD.out).tail).tail).tail).head
                have d4 := (((((CSD.out).tail).tail).tail).tail).head
                have d5 := ((((((CSD.out).tail).tail).tail).tail).tail).head
                have d6 := (((((((CSD.out).tail).tail).tail).tail).tail).tail).head
                refine wp_region_noPanic ?_
                refine wp_region_held_drew (S := fun w' => w'.cell? ⟨z, 0, none⟩ = some (.int .i64 now) ∧ w'.cell? ⟨z, 1, none⟩ = some (.string n) ∧ w'.cell? ⟨z, 2, none⟩ = some (.slice s2a N s2c) ∧ w'.cell? ⟨z, 3, none⟩ = some (.slice f2a 0 f2c) ∧ w'.cell? ⟨B + 1, 0, none⟩ = some (.string mn) ∧ w'.cell? ⟨B + 1, 1, none⟩ = some (.int .i64 mt) ∧ w'.cell? ⟨B + 1, 2, none⟩ = some (.int .i64 mx)) (by kernel_rfl) ?_ (fun hHeld => ?_)
                · rw [hW0]; exact ⟨d0, d1, d2, d3, d4, d5, d6⟩
                refine wpAnyH_take (i := 0) (oi := ⟨_, _, _, _, _, _⟩) (v := ?_) rfl (by kernel_rfl) (by kernel_rfl) (by kernel_rfl) (fun _ _ _ h => h) (Or.inl ⟨by rfl, ?_⟩) hHeld ?_
                rotate_left
                · intro w' hSw
                  try dsimp only at hSw
                  go_simp
                  all_goals with_reducible rfl
                simp only [Act.put, List.setIfInBounds_toArray, List.set_cons_zero, List.set_cons_succ]
                refine wpAnyH_take (i := 1) (oi := ⟨_, _, _, _, _, _⟩) (v := ?_) rfl (by kernel_rfl) (by kernel_rfl) (by kernel_rfl) (fun _ _ _ h => h) (Or.inl ⟨by rfl, ?_⟩) hHeld ?_
                rotate_left
                · intro w' hSw
                  try dsimp only at hSw
                  go_simp
                  all_goals with_reducible rfl
                simp only [Act.put, List.setIfInBounds_toArray, List.set_cons_zero, List.set_cons_succ]
                refine wpAnyH_take (i := 3) (oi := ⟨_, _, _, _, _, _⟩) (v := ?_) rfl (by kernel_rfl) (by kernel_rfl) (by kernel_rfl) (fun _ _ _ h => h) (Or.inl ⟨by rfl, ?_⟩) hHeld ?_
                rotate_left
                · intro w' hSw
                  try dsimp only at hSw
                  go_simp
                  all_goals with_reducible rfl
                simp only [Act.put, List.setIfInBounds_toArray, List.set_cons_zero, List.set_cons_succ]
                refine wpAnyH_take (i := 4) (oi := ⟨_, _, _, _, _, _⟩) (v := ?_) rfl (by kernel_rfl) (by kernel_rfl) (by kernel_rfl) (fun _ _ _ h => h) (Or.inl ⟨by rfl, ?_⟩) hHeld ?_
                rotate_left
                · intro w' hSw
                  try dsimp only at hSw
                  go_simp
                  all_goals with_reducible rfl
                simp only [Act.put, List.setIfInBounds_toArray, List.set_cons_zero, List.set_cons_succ]
                refine wpAnyH_take (i := 6) (oi := ⟨_, _, _, _, _, _⟩) (v := ?_) rfl (by kernel_rfl) (by kernel_rfl) (by kernel_rfl) (fun _ _ _ h => h) (Or.inl ⟨by rfl, ?_⟩) hHeld ?_
                rotate_left
                · intro w' hSw
                  try dsimp only at hSw
                  go_simp
                  all_goals with_reducible rfl
                simp only [Act.put, List.setIfInBounds_toArray, List.set_cons_zero, List.set_cons_succ]
                refine wpAnyH_ready (rs := [2, 7]) (by kernel_rfl) (by simp) ?_
                refine AllReadyH.cons (o := ⟨_, _, _, _, _, _⟩) rfl (fun K hK => ?_) (AllReadyH.cons (o := ⟨_, _, _, _, _, _⟩) rfl (fun K hK => ?_) AllReadyH.nil)
                · go_simp
                  have GZ0 := Hid.of (GZ8.out.next BG0.out)
                  refine (viewCount_any S _ (.slice va M vc) (now, p, []) ss _ GZ0.out.ok FT.out GZ0.out.x (by rw [show ((now, p, []) : RchL).2.1.2.length = N from HN.out]; have := N10.out; omega) (by have h := HV.out.kept GZ0.out.pm.pv.fr; rw [HM.out] at h ⊢; exact h) (by have := SF.out; omega) FS.out).mono ?_
                  rintro e W1 ⟨u, rfl, own, bb⟩
                  rw [show ((now, p, []) : RchL).2.1.2.length = N from HN.out] at own
                  obtain ⟨xa, xc, hu, -⟩ := own_one own
                  subst hu
                  have BAG1 : Hid (Bag w8.heap.size W1 ([⟨3, 1, .slice xa N xc, N, (vNs (now, p, []) ss N).map (Value.int .i64)⟩] ++ []) []) := Hid.of (BAG0.out.new bb own BG0.out.size)
                  have BG1 := Hid.of (BG0.out.trans (bb.mono BG0.out.size))
                  clear bb own GZ0 BAG0
                  have CS1 := Hid.of (CS8.out.next BG1.out)
                  clear hHeld d0 d1 d2 d3 d4 d5 d6
                  have d0 := (CS1.out).head
                  have d1 := ((CS1.out).tail).head
                  have d2 := (((CS1.out).tail).tail).head
                  have d3 := ((((CS1.out).tail).tail).tail).head
                  have d4 := (((((CS1.out).tail).tail).tail).tail).head
                  have d5 := ((((((CS1.out).tail).tail).tail).tail).tail).head
                  have d6 := (((((((CS1.out).tail).tail).tail).tail).tail).tail).head
                  refine hK.out _ _ ⟨d0, d1, d2, d3, d4, d5, d6⟩ (fun hHeld => ?_)
                  clear hK K
                  try simp only [Act.put, List.setIfInBounds_toArray, List.set_cons_zero, List.set_cons_succ]
                  clear CS1
                  refine wpAnyH_ready (rs := [5, 7]) (by kernel_rfl) (by simp) ?_
                  refine AllReadyH.cons (o := ⟨_, _, _, _, _, _⟩) rfl (fun K hK => ?_) (AllReadyH.cons (o := ⟨_, _, _, _, _, _⟩) rfl (fun K hK => ?_) AllReadyH.nil)
                  · refine step_append_any rfl (.const (.slice none 0 0)) (.tmp 64) 25 rfl W1.heap.size 28 i0 _ 3 32 Try.underlying25 HI.out HZ0.out HZ1.out HZ2.out rfl (by decide) (.slice none 0 0) 0 [] rfl (World.ownsRow_nil _ _ _ _) (.slice va M vc) M (flat aenc ss) (by simp [Act.eval]) (by have h := HV.out.kept (GZ8.out.next BG1.out).pm.pv.fr; rw [HM.out] at h; exact h) HFL.out (flat_ones aenc_one _) (by have := MH.out; unfold maxLen; omega) (by have := MH.out; omega) (Nat.le_refl _) ?_
                    intro v1 W2 o1 g1 m1
                    have bb := below_of_none g1
                    have o1b : W2.ownsRow W1.heap.size 28 3 v1 M (flat aenc ss) := by simpa using o1
                    have BAG2 : Hid (Bag w8.heap.size W2 ([⟨28, 3, v1, M, flat aenc ss⟩] ++ ([⟨3, 1, .slice xa N xc, N, (vNs (now, p, []) ss N).map (Value.int .i64)⟩] ++ [])) []) := Hid.of (BAG1.out.new bb o1b BG1.out.size)
                    have BG2 := Hid.of (BG1.out.trans (bb.mono BG1.out.size))
                    clear bb o1 g1 m1 o1b BAG1
                    have CS2 := Hid.of (CS8.out.next BG2.out)
                    clear hHeld d0 d1 d2 d3 d4 d5 d6
                    have d0 := (CS2.out).head
                    have d1 := ((CS2.out).tail).head
                    have d2 := (((CS2.out).tail).tail).head
                    have d3 := ((((CS2.out).tail).tail).tail).head
                    have d4 := (((((CS2.out).tail).tail).tail).tail).head
                    have d5 := ((((((CS2.out).tail).tail).tail).tail).tail).head
                    have d6 := (((((((CS2.out).tail).tail).tail).tail).tail).tail).head
                    refine hK.out _ _ ⟨d0, d1, d2, d3, d4, d5, d6⟩ (fun hHeld => ?_)
                    clear hK K
                    try simp only [Act.put, List.setIfInBounds_toArray, List.set_cons_zero, List.set_cons_succ]
                    clear CS2 BG1
                    refine wpAnyH_ready (rs := [7]) (by kernel_rfl) (by simp) ?_
                    refine AllReadyH.cons (o := ⟨_, _, _, _, _, _⟩) rfl (fun K hK => ?_) AllReadyH.nil
                    go_simp
                    obtain ⟨xb, hxb⟩ : ∃ xb, W2.heap.size = xb := ⟨_, rfl⟩
                    obtain ⟨W3, hwb⟩ : ∃ x, W2.alloc (.cells #[.string mn, .int .i64 mt, .int .i64 mx] 28) = x := ⟨_, rfl⟩
                    have bb : Below W2.heap.size W2 W3 := by rw [← hwb]; exact (Below.refl _ _).alloc (Nat.le_refl _) _
                    have ob : W3.ownsRow W2.heap.size 28 3 (.slice (some ⟨xb, 0, none⟩) 1 1) 1 (flat aenc [(mn, mt, mx)]) := by rw [← hwb, ← hxb]; exact vcells_own W2 #[.string mn, .int .i64 mt, .int .i64 mx] _ 3 rfl
                    rw [hwb, hxb]
                    have BAG3 : Hid (Bag w8.heap.size W3 ([⟨28, 3, .slice (some ⟨xb, 0, none⟩) 1 1, 1, flat aenc [(mn, mt, mx)]⟩] ++ ([⟨28, 3, v1, M, flat aenc ss⟩] ++ ([⟨3, 1, .slice xa N xc, N, (vNs (now, p, []) ss N).map (Value.int .i64)⟩] ++ []))) []) := Hid.of (BAG2.out.new bb ob BG2.out.size)
                    have BG3 := Hid.of (BG2.out.trans (bb.mono BG2.out.size))
                    clear bb hwb hxb ob BAG2
                    have CS3 := Hid.of (CS8.out.next BG3.out)
                    clear hHeld d0 d1 d2 d3 d4 d5 d6
                    have d0 := (CS3.out).head
                    have d1 := ((CS3.out).tail).head
                    have d2 := (((CS3.out).tail).tail).head
                    have d3 := ((((CS3.out).tail).tail).tail).head
                    have d4 := (((((CS3.out).tail).tail).tail).tail).head
                    have d5 := ((((((CS3.out).tail).tail).tail).tail).tail).head
                    have d6 := (((((((CS3.out).tail).tail).tail).tail).tail).tail).head
                    refine hK.out _ _ ⟨d0, d1, d2, d3, d4, d5, d6⟩ (fun hHeld => ?_)
                    clear hK K
                    try simp only [Act.put, List.setIfInBounds_toArray, List.set_cons_zero, List.set_cons_succ]
                    clear CS3 BG2
                    refine wpAnyH_ready (rs := [8]) (by kernel_rfl) (by simp) ?_
                    refine AllReadyH.cons (o := ⟨_, _, _, _, _, _⟩) rfl (fun K hK => ?_) AllReadyH.nil
                    have ov := BAG3.out.own _ (List.mem_append_right _ (List.mem_append_left _ (List.mem_singleton.2 rfl)))
                    have ox := own_row (BAG3.out.own _ (List.mem_append_left _ (List.mem_singleton.2 rfl)))
                    simp only at ov ox
                    refine step_append_any rfl (.tmp 65) (.tmp 67) 25 rfl w8.heap.size 28 i0 _ 3 32 Try.underlying25 HI.out HZ0.out HZ1.out HZ2.out rfl (by decide) v1 M (flat aenc ss) (by simp [Act.eval]) ov (.slice (some ⟨xb, 0, none⟩) 1 1) 1 (flat aenc [(mn, mt, mx)]) (by simp [Act.eval]) ox rfl (flat_ones aenc_one _) (by have := MH.out; unfold maxLen; omega) (by have := MH.out; omega) BG3.out.size ?_
                    intro v5 W4 o5 g5 m5
                    have BG4 : Hid (Below w8.heap.size w8 W4) := Hid.of (BG3.out.grown g5 BG3.out.size (fun k hk => own_ge ov hk))
                    have BAG4 : Hid (Bag w8.heap.size W4 ([⟨28, 3, v5, M + 1, flat aenc ss ++ flat aenc [(mn, mt, mx)]⟩] ++ ([⟨28, 3, .slice (some ⟨xb, 0, none⟩) 1 1, 1, flat aenc [(mn, mt, mx)]⟩] ++ ([⟨3, 1, .slice xa N xc, N, (vNs (now, p, []) ss N).map (Value.int .i64)⟩] ++ []))) []) := Hid.of (Bag.grow (r := ⟨28, 3, v1, M, flat aenc ss⟩) (BAG3.out.perm (by
                          have h : ∀ A0 A1 A2 : List Row1, (A0 ++ (A1 ++ (A2 ++ []))).Perm (A1 ++ (A0 ++ (A2 ++ []))) := by
                            intro A0 A1 A2
                            classical
                            rw [List.perm_iff_count]
                            intro a
                            simp only [List.count_append] <;> omega
                          exact h _ _ _)) g5 o5 m5)
                    clear o5 g5 m5 ov ox BAG3
                    have CS4 := Hid.of (CS8.out.next BG4.out)
                    clear hHeld d0 d1 d2 d3 d4 d5 d6
                    have d0 := (CS4.out).head
                    have d1 := ((CS4.out).tail).head
                    have d2 := (((CS4.out).tail).tail).head
                    have d3 := ((((CS4.out).tail).tail).tail).head
                    have d4 := (((((CS4.out).tail).tail).tail).tail).head
                    have d5 := ((((((CS4.out).tail).tail).tail).tail).tail).head
                    have d6 := (((((((CS4.out).tail).tail).tail).tail).tail).tail).head
                    refine hK.out _ _ ⟨d0, d1, d2, d3, d4, d5, d6⟩ (fun hHeld => ?_)
                    clear hK K
                    try simp only [Act.put, List.setIfInBounds_toArray, List.set_cons_zero, List.set_cons_succ]
                    clear CS4 BG3
                    refine wpAnyH_ready (rs := [9]) (by kernel_rfl) (by simp) ?_
                    refine AllReadyH.cons (o := ⟨_, _, _, _, _, _⟩) rfl (fun K hK => ?_) AllReadyH.nil
                    go_simp
                    have GZ4 := Hid.of (GZ8.out.next BG4.out)
                    refine (viewCount_any S _ (v5) (now, p, []) (ss ++ [(mn, mt, mx)]) _ GZ4.out.ok FT.out GZ4.out.x (by rw [show ((now, p, []) : RchL).2.1.2.length = N from HN.out]; have := N10.out; omega) (by have h := own_row (BAG4.out.own _ (List.mem_append_left _ (List.mem_singleton.2 rfl))); simp only at h; rw [flat_append, List.length_append, HM.out]; exact h) (by rw [List.length_append, HM.out]; have := MH.out; simp; omega) (fun s hs => by rcases List.mem_append.1 hs with h | h; exact FS.out s h; rw [List.mem_singleton.1 h]; exact MF.out)).mono ?_
                    rintro e W5 ⟨u, rfl, own, bb⟩
                    rw [show ((now, p, []) : RchL).2.1.2.length = N from HN.out] at own
                    obtain ⟨ya, yc, hu, -⟩ := own_one own
                    subst hu
                    have BAG5 : Hid (Bag w8.heap.size W5 ([⟨3, 1, .slice ya N yc, N, (vNs (now, p, []) (ss ++ [(mn, mt, mx)]) N).map (Value.int .i64)⟩] ++ ([⟨28, 3, v5, M + 1, flat aenc ss ++ flat aenc [(mn, mt, mx)]⟩] ++ ([⟨28, 3, .slice (some ⟨xb, 0, none⟩) 1 1, 1, flat aenc [(mn, mt, mx)]⟩] ++ ([⟨3, 1, .slice xa N xc, N, (vNs (now, p, []) ss N).map (Value.int .i64)⟩] ++ [])))) []) := Hid.of (BAG4.out.new bb own BG4.out.size)
                    have BG5 := Hid.of (BG4.out.trans (bb.mono BG4.out.size))
                    clear bb own GZ4 BAG4
                    have CS5 := Hid.of (CS8.out.next BG5.out)
                    clear hHeld d0 d1 d2 d3 d4 d5 d6
                    have d0 := (CS5.out).head
                    have d1 := ((CS5.out).tail).head
                    have d2 := (((CS5.out).tail).tail).head
                    have d3 := ((((CS5.out).tail).tail).tail).head
                    have d4 := (((((CS5.out).tail).tail).tail).tail).head
                    have d5 := ((((((CS5.out).tail).tail).tail).tail).tail).head
                    have d6 := (((((((CS5.out).tail).tail).tail).tail).tail).tail).head
                    refine hK.out _ _ ⟨d0, d1, d2, d3, d4, d5, d6⟩ (fun hHeld => ?_)
                    clear hK K
                    try simp only [Act.put, List.setIfInBounds_toArray, List.set_cons_zero, List.set_cons_succ]
                    clear CS5 BG4
                    refine wpAnyH_take (i := 10) (oi := ⟨_, _, _, _, _, _⟩) (v := ?_) rfl (by kernel_rfl) (by kernel_rfl) (by kernel_rfl) (fun _ _ _ h => h) (Or.inl ⟨by rfl, ?_⟩) hHeld ?_
                    rotate_left
                    · intro w' hSw
                      try dsimp only at hSw
                      go_simp
                      all_goals with_reducible rfl
                    simp only [Act.put, List.setIfInBounds_toArray, List.set_cons_zero, List.set_cons_succ]
                    refine wpAnyH_take (i := 11) (oi := ⟨_, _, _, _, _, _⟩) (v := ?_) rfl (by kernel_rfl) (by kernel_rfl) (by kernel_rfl) (fun _ _ _ h => h) (Or.inl ⟨by rfl, ?_⟩) hHeld ?_
                    rotate_left
                    · intro w' hSw
                      try dsimp only at hSw
                      go_simp
                      all_goals with_reducible rfl
                    simp only [Act.put, List.setIfInBounds_toArray, List.set_cons_zero, List.set_cons_succ]
                    refine wpAnyH_done (by kernel_rfl) ?_ _
                    refine NoPanic.normal ?_
                    clear hHeld d0 d1 d2 d3 d4 d5 d6
                    go_wp2_with fail
                    go_meet
                    exact ⟨xa, xc, ya, yc, rfl, rfl, Hid.of (own_row (BAG5.out.own _ (List.mem_append_right _ (List.mem_append_right _ (List.mem_append_right _ (List.mem_append_left _ (List.mem_singleton.2 rfl))))))), Hid.of (own_row (BAG5.out.own _ (List.mem_append_left _ (List.mem_singleton.2 rfl)))), BG5⟩
                  · go_simp
                    obtain ⟨xb, hxb⟩ : ∃ xb, W1.heap.size = xb := ⟨_, rfl⟩
                    obtain ⟨W2, hwb⟩ : ∃ x, W1.alloc (.cells #[.string mn, .int .i64 mt, .int .i64 mx] 28) = x := ⟨_, rfl⟩
                    have bb : Below W1.heap.size W1 W2 := by rw [← hwb]; exact (Below.refl _ _).alloc (Nat.le_refl _) _
                    have ob : W2.ownsRow W1.heap.size 28 3 (.slice (some ⟨xb, 0, none⟩) 1 1) 1 (flat aenc [(mn, mt, mx)]) := by rw [← hwb, ← hxb]; exact vcells_own W1 #[.string mn, .int .i64 mt, .int .i64 mx] _ 3 rfl
                    rw [hwb, hxb]
                    have BAG2 : Hid (Bag w8.heap.size W2 ([⟨28, 3, .slice (some ⟨xb, 0, none⟩) 1 1, 1, flat aenc [(mn, mt, mx)]⟩] ++ ([⟨3, 1, .slice xa N xc, N, (vNs (now, p, []) ss N).map (Value.int .i64)⟩] ++ [])) []) := Hid.of (BAG1.out.new bb ob BG1.out.size)
                    have BG2 := Hid.of (BG1.out.trans (bb.mono BG1.out.size))
                    clear bb hwb hxb ob BAG1
                    have CS2 := Hid.of (CS8.out.next BG2.out)
                    clear hHeld d0 d1 d2 d3 d4 d5 d6
                    have d0 := (CS2.out).head
                    have d1 := ((CS2.out).tail).head
                    have d2 := (((CS2.out).tail).tail).head
                    have d3 := ((((CS2.out).tail).tail).tail).head
                    have d4 := (((((CS2.out).tail).tail).tail).tail).head
                    have d5 := ((((((CS2.out).tail).tail).tail).tail).tail).head
                    have d6 := (((((((CS2.out).tail).tail).tail).tail).tail).tail).head
                    refine hK.out _ _ ⟨d0, d1, d2, d3, d4, d5, d6⟩ (fun hHeld => ?_)
                    clear hK K
                    try simp only [Act.put, List.setIfInBounds_toArray, List.set_cons_zero, List.set_cons_succ]
                    clear CS2 BG1
                    refine wpAnyH_ready (rs := [5]) (by kernel_rfl) (by simp) ?_
                    refine AllReadyH.cons (o := ⟨_, _, _, _, _, _⟩) rfl (fun K hK => ?_) AllReadyH.nil
                    refine step_append_any rfl (.const (.slice none 0 0)) (.tmp 64) 25 rfl W2.heap.size 28 i0 _ 3 32 Try.underlying25 HI.out HZ0.out HZ1.out HZ2.out rfl (by decide) (.slice none 0 0) 0 [] rfl (World.ownsRow_nil _ _ _ _) (.slice va M vc) M (flat aenc ss) (by simp [Act.eval]) (by have h := HV.out.kept (GZ8.out.next BG2.out).pm.pv.fr; rw [HM.out] at h; exact h) HFL.out (flat_ones aenc_one _) (by have := MH.out; unfold maxLen; omega) (by have := MH.out; omega) (Nat.le_refl _) ?_
                    intro v1 W3 o1 g1 m1
                    have bb := below_of_none g1
                    have o1b : W3.ownsRow W2.heap.size 28 3 v1 M (flat aenc ss) := by simpa using o1
                    have BAG3 : Hid (Bag w8.heap.size W3 ([⟨28, 3, v1, M, flat aenc ss⟩] ++ ([⟨28, 3, .slice (some ⟨xb, 0, none⟩) 1 1, 1, flat aenc [(mn, mt, mx)]⟩] ++ ([⟨3, 1, .slice xa N xc, N, (vNs (now, p, []) ss N).map (Value.int .i64)⟩] ++ []))) []) := Hid.of (BAG2.out.new bb o1b BG2.out.size)
                    have BG3 := Hid.of (BG2.out.trans (bb.mono BG2.out.size))
                    clear bb o1 g1 m1 o1b BAG2
                    have CS3 := Hid.of (CS8.out.next BG3.out)
                    clear hHeld d0 d1 d2 d3 d4 d5 d6
                    have d0 := (CS3.out).head
                    have d1 := ((CS3.out).tail).head
                    have d2 := (((CS3.out).tail).tail).head
                    have d3 := ((((CS3.out).tail).tail).tail).head
                    have d4 := (((((CS3.out).tail).tail).tail).tail).head
                    have d5 := ((((((CS3.out).tail).tail).tail).tail).tail).head
                    have d6 := (((((((CS3.out).tail).tail).tail).tail).tail).tail).head
                    refine hK.out _ _ ⟨d0, d1, d2, d3, d4, d5, d6⟩ (fun hHeld => ?_)
                    clear hK K
                    try simp only [Act.put, List.setIfInBounds_toArray, List.set_cons_zero, List.set_cons_succ]
                    clear CS3 BG2
                    refine wpAnyH_ready (rs := [8]) (by kernel_rfl) (by simp) ?_
                    refine AllReadyH.cons (o := ⟨_, _, _, _, _, _⟩) rfl (fun K hK => ?_) AllReadyH.nil
                    have ov := BAG3.out.own _ (List.mem_append_left _ (List.mem_singleton.2 rfl))
                    have ox := own_row (BAG3.out.own _ (List.mem_append_right _ (List.mem_append_left _ (List.mem_singleton.2 rfl))))
                    simp only at ov ox
                    refine step_append_any rfl (.tmp 65) (.tmp 67) 25 rfl w8.heap.size 28 i0 _ 3 32 Try.underlying25 HI.out HZ0.out HZ1.out HZ2.out rfl (by decide) v1 M (flat aenc ss) (by simp [Act.eval]) ov (.slice (some ⟨xb, 0, none⟩) 1 1) 1 (flat aenc [(mn, mt, mx)]) (by simp [Act.eval]) ox rfl (flat_ones aenc_one _) (by have := MH.out; unfold maxLen; omega) (by have := MH.out; omega) BG3.out.size ?_
                    intro v5 W4 o5 g5 m5
                    have BG4 : Hid (Below w8.heap.size w8 W4) := Hid.of (BG3.out.grown g5 BG3.out.size (fun k hk => own_ge ov hk))
                    have BAG4 : Hid (Bag w8.heap.size W4 ([⟨28, 3, v5, M + 1, flat aenc ss ++ flat aenc [(mn, mt, mx)]⟩] ++ ([⟨28, 3, .slice (some ⟨xb, 0, none⟩) 1 1, 1, flat aenc [(mn, mt, mx)]⟩] ++ ([⟨3, 1, .slice xa N xc, N, (vNs (now, p, []) ss N).map (Value.int .i64)⟩] ++ []))) []) := Hid.of (Bag.grow (r := ⟨28, 3, v1, M, flat aenc ss⟩) (BAG3.out.perm (by
                          have h : ∀ A0 A1 A2 : List Row1, (A0 ++ (A1 ++ (A2 ++ []))).Perm (A0 ++ (A1 ++ (A2 ++ []))) := by
                            intro A0 A1 A2
                            classical
                            rw [List.perm_iff_count]
                            intro a
                            simp only [List.count_append] <;> omega
                          exact h _ _ _)) g5 o5 m5)
                    clear o5 g5 m5 ov ox BAG3
                    have CS4 := Hid.of (CS8.out.next BG4.out)
                    clear hHeld d0 d1 d2 d3 d4 d5 d6
                    have d0 := (CS4.out).head
                    have d1 := ((CS4.out).tail).head
                    have d2 := (((CS4.out).tail).tail).head
                    have d3 := ((((CS4.out).tail).tail).tail).head
                    have d4 := (((((CS4.out).tail).tail).tail).tail).head
                    have d5 := ((((((CS4.out).tail).tail).tail).tail).tail).head
                    have d6 := (((((((CS4.out).tail).tail).tail).tail).tail).tail).head
                    refine hK.out _ _ ⟨d0, d1, d2, d3, d4, d5, d6⟩ (fun hHeld => ?_)
                    clear hK K
                    try simp only [Act.put, List.setIfInBounds_toArray, List.set_cons_zero, List.set_cons_succ]
                    clear CS4 BG3
                    refine wpAnyH_ready (rs := [9]) (by kernel_rfl) (by simp) ?_
                    refine AllReadyH.cons (o := ⟨_, _, _, _, _, _⟩) rfl (fun K hK => ?_) AllReadyH.nil
                    go_simp
                    have GZ4 := Hid.of (GZ8.out.next BG4.out)
                    refine (viewCount_any S _ (v5) (now, p, []) (ss ++ [(mn, mt, mx)]) _ GZ4.out.ok FT.out GZ4.out.x (by rw [show ((now, p, []) : RchL).2.1.2.length = N from HN.out]; have := N10.out; omega) (by have h := own_row (BAG4.out.own _ (List.mem_append_left _ (List.mem_singleton.2 rfl))); simp only at h; rw [flat_append, List.length_append, HM.out]; exact h) (by rw [List.length_append, HM.out]; have := MH.out; simp; omega) (fun s hs => by rcases List.mem_append.1 hs with h | h; exact FS.out s h; rw [List.mem_singleton.1 h]; exact MF.out)).mono ?_
                    rintro e W5 ⟨u, rfl, own, bb⟩
                    rw [show ((now, p, []) : RchL).2.1.2.length = N from HN.out] at own
                    obtain ⟨ya, yc, hu, -⟩ := own_one own
                    subst hu
                    have BAG5 : Hid (Bag w8.heap.size W5 ([⟨3, 1, .slice ya N yc, N, (vNs (now, p, []) (ss ++ [(mn, mt, mx)]) N).map (Value.int .i64)⟩] ++ ([⟨28, 3, v5, M + 1, flat aenc ss ++ flat aenc [(mn, mt, mx)]⟩] ++ ([⟨28, 3, .slice (some ⟨xb, 0, none⟩) 1 1, 1, flat aenc [(mn, mt, mx)]⟩] ++ ([⟨3, 1, .slice xa N xc, N, (vNs (now, p, []) ss N).map (Value.int .i64)⟩] ++ [])))) []) := Hid.of (BAG4.out.new bb own BG4.out.size)
                    have BG5 := Hid.of (BG4.out.trans (bb.mono BG4.out.size))
                    clear bb own GZ4 BAG4
                    have CS5 := Hid.of (CS8.out.next BG5.out)
                    clear hHeld d0 d1 d2 d3 d4 d5 d6
                    have d0 := (CS5.out).head
                    have d1 := ((CS5.out).tail).head
                    have d2 := (((CS5.out).tail).tail).head
                    have d3 := ((((CS5.out).tail).tail).tail).head
                    have d4 := (((((CS5.out).tail).tail).tail).tail).head
                    have d5 := ((((((CS5.out).tail).tail).tail).tail).tail).head
                    have d6 := (((((((CS5.out).tail).tail).tail).tail).tail).tail).head
                    refine hK.out _ _ ⟨d0, d1, d2, d3, d4, d5, d6⟩ (fun hHeld => ?_)
                    clear hK K
                    try simp only [Act.put, List.setIfInBounds_toArray, List.set_cons_zero, List.set_cons_succ]
                    clear CS5 BG4
                    refine wpAnyH_take (i := 10) (oi := ⟨_, _, _, _, _, _⟩) (v := ?_) rfl (by kernel_rfl) (by kernel_rfl) (by kernel_rfl) (fun _ _ _ h => h) (Or.inl ⟨by rfl, ?_⟩) hHeld ?_
                    rotate_left
                    · intro w' hSw
                      try dsimp only at hSw
                      go_simp
                      all_goals with_reducible rfl
                    simp only [Act.put, List.setIfInBounds_toArray, List.set_cons_zero, List.set_cons_succ]
                    refine wpAnyH_take (i := 11) (oi := ⟨_, _, _, _, _, _⟩) (v := ?_) rfl (by kernel_rfl) (by kernel_rfl) (by kernel_rfl) (fun _ _ _ h => h) (Or.inl ⟨by rfl, ?_⟩) hHeld ?_
                    rotate_left
                    · intro w' hSw
                      try dsimp only at hSw
                      go_simp
                      all_goals with_reducible rfl
                    simp only [Act.put, List.setIfInBounds_toArray, List.set_cons_zero, List.set_cons_succ]
                    refine wpAnyH_done (by kernel_rfl) ?_ _
                    refine NoPanic.normal ?_
                    clear hHeld d0 d1 d2 d3 d4 d5 d6
                    go_wp2_with fail
                    go_meet
                    exact ⟨xa, xc, ya, yc, rfl, rfl, Hid.of (own_row (BAG5.out.own _ (List.mem_append_right _ (List.mem_append_right _ (List.mem_append_right _ (List.mem_append_left _ (List.mem_singleton.2 rfl))))))), Hid.of (own_row (BAG5.out.own _ (List.mem_append_left _ (List.mem_singleton.2 rfl)))), BG5⟩
                · go_simp
                  obtain ⟨xb, hxb⟩ : ∃ xb, W0.heap.size = xb := ⟨_, rfl⟩
                  obtain ⟨W1, hwb⟩ : ∃ x, W0.alloc (.cells #[.string mn, .int .i64 mt, .int .i64 mx] 28) = x := ⟨_, rfl⟩
                  have bb : Below W0.heap.size W0 W1 := by rw [← hwb]; exact (Below.refl _ _).alloc (Nat.le_refl _) _
                  have ob : W1.ownsRow W0.heap.size 28 3 (.slice (some ⟨xb, 0, none⟩) 1 1) 1 (flat aenc [(mn, mt, mx)]) := by rw [← hwb, ← hxb]; exact vcells_own W0 #[.string mn, .int .i64 mt, .int .i64 mx] _ 3 rfl
                  rw [hwb, hxb]
                  have BAG1 : Hid (Bag w8.heap.size W1 ([⟨28, 3, .slice (some ⟨xb, 0, none⟩) 1 1, 1, flat aenc [(mn, mt, mx)]⟩] ++ []) []) := Hid.of (BAG0.out.new bb ob BG0.out.size)
                  have BG1 := Hid.of (BG0.out.trans (bb.mono BG0.out.size))
                  clear bb hwb hxb ob BAG0
                  have CS1 := Hid.of (CS8.out.next BG1.out)
                  clear hHeld d0 d1 d2 d3 d4 d5 d6
                  have d0 := (CS1.out).head
                  have d1 := ((CS1.out).tail).head
                  have d2 := (((CS1.out).tail).tail).head
                  have d3 := ((((CS1.out).tail).tail).tail).head
                  have d4 := (((((CS1.out).tail).tail).tail).tail).head
                  have d5 := ((((((CS1.out).tail).tail).tail).tail).tail).head
                  have d6 := (((((((CS1.out).tail).tail).tail).tail).tail).tail).head
                  refine hK.out _ _ ⟨d0, d1, d2, d3, d4, d5, d6⟩ (fun hHeld => ?_)
                  clear hK K
                  try simp only [Act.put, List.setIfInBounds_toArray, List.set_cons_zero, List.set_cons_succ]
                  clear CS1
                  refine wpAnyH_ready (rs := [2]) (by kernel_rfl) (by simp) ?_
                  refine AllReadyH.cons (o := ⟨_, _, _, _, _, _⟩) rfl (fun K hK => ?_) AllReadyH.nil
                  go_simp
                  have GZ1 := Hid.of (GZ8.out.next BG1.out)
                  refine (viewCount_any S _ (.slice va M vc) (now, p, []) ss _ GZ1.out.ok FT.out GZ1.out.x (by rw [show ((now, p, []) : RchL).2.1.2.length = N from HN.out]; have := N10.out; omega) (by have h := HV.out.kept GZ1.out.pm.pv.fr; rw [HM.out] at h ⊢; exact h) (by have := SF.out; omega) FS.out).mono ?_
                  rintro e W2 ⟨u, rfl, own, bb⟩
                  rw [show ((now, p, []) : RchL).2.1.2.length = N from HN.out] at own
                  obtain ⟨xa, xc, hu, -⟩ := own_one own
                  subst hu
                  have BAG2 : Hid (Bag w8.heap.size W2 ([⟨3, 1, .slice xa N xc, N, (vNs (now, p, []) ss N).map (Value.int .i64)⟩] ++ ([⟨28, 3, .slice (some ⟨xb, 0, none⟩) 1 1, 1, flat aenc [(mn, mt, mx)]⟩] ++ [])) []) := Hid.of (BAG1.out.new bb own BG1.out.size)
                  have BG2 := Hid.of (BG1.out.trans (bb.mono BG1.out.size))
                  clear bb own GZ1 BAG1
                  have CS2 := Hid.of (CS8.out.next BG2.out)
                  clear hHeld d0 d1 d2 d3 d4 d5 d6
                  have d0 := (CS2.out).head
                  have d1 := ((CS2.out).tail).head
                  have d2 := (((CS2.out).tail).tail).head
                  have d3 := ((((CS2.out).tail).tail).tail).head
                  have d4 := (((((CS2.out).tail).tail).tail).tail).head
                  have d5 := ((((((CS2.out).tail).tail).tail).tail).tail).head
                  have d6 := (((((((CS2.out).tail).tail).tail).tail).tail).tail).head
                  refine hK.out _ _ ⟨d0, d1, d2, d3, d4, d5, d6⟩ (fun hHeld => ?_)
                  clear hK K
                  try simp only [Act.put, List.setIfInBounds_toArray, List.set_cons_zero, List.set_cons_succ]
                  clear CS2 BG1
                  refine wpAnyH_ready (rs := [5]) (by kernel_rfl) (by simp) ?_
                  refine AllReadyH.cons (o := ⟨_, _, _, _, _, _⟩) rfl (fun K hK => ?_) AllReadyH.nil
                  refine step_append_any rfl (.const (.slice none 0 0)) (.tmp 64) 25 rfl W2.heap.size 28 i0 _ 3 32 Try.underlying25 HI.out HZ0.out HZ1.out HZ2.out rfl (by decide) (.slice none 0 0) 0 [] rfl (World.ownsRow_nil _ _ _ _) (.slice va M vc) M (flat aenc ss) (by simp [Act.eval]) (by have h := HV.out.kept (GZ8.out.next BG2.out).pm.pv.fr; rw [HM.out] at h; exact h) HFL.out (flat_ones aenc_one _) (by have := MH.out; unfold maxLen; omega) (by have := MH.out; omega) (Nat.le_refl _) ?_
                  intro v1 W3 o1 g1 m1
                  have bb := below_of_none g1
                  have o1b : W3.ownsRow W2.heap.size 28 3 v1 M (flat aenc ss) := by simpa using o1
                  have BAG3 : Hid (Bag w8.heap.size W3 ([⟨28, 3, v1, M, flat aenc ss⟩] ++ ([⟨3, 1, .slice xa N xc, N, (vNs (now, p, []) ss N).map (Value.int .i64)⟩] ++ ([⟨28, 3, .slice (some ⟨xb, 0, none⟩) 1 1, 1, flat aenc [(mn, mt, mx)]⟩] ++ []))) []) := Hid.of (BAG2.out.new bb o1b BG2.out.size)
                  have BG3 := Hid.of (BG2.out.trans (bb.mono BG2.out.size))
                  clear bb o1 g1 m1 o1b BAG2
                  have CS3 := Hid.of (CS8.out.next BG3.out)
                  clear hHeld d0 d1 d2 d3 d4 d5 d6
                  have d0 := (CS3.out).head
                  have d1 := ((CS3.out).tail).head
                  have d2 := (((CS3.out).tail).tail).head
                  have d3 := ((((CS3.out).tail).tail).tail).head
                  have d4 := (((((CS3.out).tail).tail).tail).tail).head
                  have d5 := ((((((CS3.out).tail).tail).tail).tail).tail).head
                  have d6 := (((((((CS3.out).tail).tail).tail).tail).tail).tail).head
                  refine hK.out _ _ ⟨d0, d1, d2, d3, d4, d5, d6⟩ (fun hHeld => ?_)
                  clear hK K
                  try simp only [Act.put, List.setIfInBounds_toArray, List.set_cons_zero, List.set_cons_succ]
                  clear CS3 BG2
                  refine wpAnyH_ready (rs := [8]) (by kernel_rfl) (by simp) ?_
                  refine AllReadyH.cons (o := ⟨_, _, _, _, _, _⟩) rfl (fun K hK => ?_) AllReadyH.nil
                  have ov := BAG3.out.own _ (List.mem_append_left _ (List.mem_singleton.2 rfl))
                  have ox := own_row (BAG3.out.own _ (List.mem_append_right _ (List.mem_append_right _ (List.mem_append_left _ (List.mem_singleton.2 rfl)))))
                  simp only at ov ox
                  refine step_append_any rfl (.tmp 65) (.tmp 67) 25 rfl w8.heap.size 28 i0 _ 3 32 Try.underlying25 HI.out HZ0.out HZ1.out HZ2.out rfl (by decide) v1 M (flat aenc ss) (by simp [Act.eval]) ov (.slice (some ⟨xb, 0, none⟩) 1 1) 1 (flat aenc [(mn, mt, mx)]) (by simp [Act.eval]) ox rfl (flat_ones aenc_one _) (by have := MH.out; unfold maxLen; omega) (by have := MH.out; omega) BG3.out.size ?_
                  intro v5 W4 o5 g5 m5
                  have BG4 : Hid (Below w8.heap.size w8 W4) := Hid.of (BG3.out.grown g5 BG3.out.size (fun k hk => own_ge ov hk))
                  have BAG4 : Hid (Bag w8.heap.size W4 ([⟨28, 3, v5, M + 1, flat aenc ss ++ flat aenc [(mn, mt, mx)]⟩] ++ ([⟨3, 1, .slice xa N xc, N, (vNs (now, p, []) ss N).map (Value.int .i64)⟩] ++ ([⟨28, 3, .slice (some ⟨xb, 0, none⟩) 1 1, 1, flat aenc [(mn, mt, mx)]⟩] ++ []))) []) := Hid.of (Bag.grow (r := ⟨28, 3, v1, M, flat aenc ss⟩) (BAG3.out.perm (by
                        have h : ∀ A0 A1 A2 : List Row1, (A0 ++ (A1 ++ (A2 ++ []))).Perm (A0 ++ (A1 ++ (A2 ++ []))) := by
                          intro A0 A1 A2
                          classical
                          rw [List.perm_iff_count]
                          intro a
                          simp only [List.count_append] <;> omega
                        exact h _ _ _)) g5 o5 m5)
                  clear o5 g5 m5 ov ox BAG3
                  have CS4 := Hid.of (CS8.out.next BG4.out)
                  clear hHeld d0 d1 d2 d3 d4 d5 d6
                  have d0 := (CS4.out).head
                  have d1 := ((CS4.out).tail).head
                  have d2 := (((CS4.out).tail).tail).head
                  have d3 := ((((CS4.out).tail).tail).tail).head
                  have d4 := (((((CS4.out).tail).tail).tail).tail).head
                  have d5 := ((((((CS4.out).tail).tail).tail).tail).tail).head
                  have d6 := (((((((CS4.out).tail).tail).tail).tail).tail).tail).head
                  refine hK.out _ _ ⟨d0, d1, d2, d3, d4, d5, d6⟩ (fun hHeld => ?_)
                  clear hK K
                  try simp only [Act.put, List.setIfInBounds_toArray, List.set_cons_zero, List.set_cons_succ]
                  clear CS4 BG3
                  refine wpAnyH_ready (rs := [9]) (by kernel_rfl) (by simp) ?_
                  refine AllReadyH.cons (o := ⟨_, _, _, _, _, _⟩) rfl (fun K hK => ?_) AllReadyH.nil
                  go_simp
                  have GZ4 := Hid.of (GZ8.out.next BG4.out)
                  refine (viewCount_any S _ (v5) (now, p, []) (ss ++ [(mn, mt, mx)]) _ GZ4.out.ok FT.out GZ4.out.x (by rw [show ((now, p, []) : RchL).2.1.2.length = N from HN.out]; have := N10.out; omega) (by have h := own_row (BAG4.out.own _ (List.mem_append_left _ (List.mem_singleton.2 rfl))); simp only at h; rw [flat_append, List.length_append, HM.out]; exact h) (by rw [List.length_append, HM.out]; have := MH.out; simp; omega) (fun s hs => by rcases List.mem_append.1 hs with h | h; exact FS.out s h; rw [List.mem_singleton.1 h]; exact MF.out)).mono ?_
                  rintro e W5 ⟨u, rfl, own, bb⟩
                  rw [show ((now, p, []) : RchL).2.1.2.length = N from HN.out] at own
                  obtain ⟨ya, yc, hu, -⟩ := own_one own
                  subst hu
                  have BAG5 : Hid (Bag w8.heap.size W5 ([⟨3, 1, .slice ya N yc, N, (vNs (now, p, []) (ss ++ [(mn, mt, mx)]) N).map (Value.int .i64)⟩] ++ ([⟨28, 3, v5, M + 1, flat aenc ss ++ flat aenc [(mn, mt, mx)]⟩] ++ ([⟨3, 1, .slice xa N xc, N, (vNs (now, p, []) ss N).map (Value.int .i64)⟩] ++ ([⟨28, 3, .slice (some ⟨xb, 0, none⟩) 1 1, 1, flat aenc [(mn, mt, mx)]⟩] ++ [])))) []) := Hid.of (BAG4.out.new bb own BG4.out.size)
                  have BG5 := Hid.of (BG4.out.trans (bb.mono BG4.out.size))
                  clear bb own GZ4 BAG4
                  have CS5 := Hid.of (CS8.out.next BG5.out)
                  clear hHeld d0 d1 d2 d3 d4 d5 d6
                  have d0 := (CS5.out).head
                  have d1 := ((CS5.out).tail).head
                  have d2 := (((CS5.out).tail).tail).head
                  have d3 := ((((CS5.out).tail).tail).tail).head
                  have d4 := (((((CS5.out).tail).tail).tail).tail).head
                  have d5 := ((((((CS5.out).tail).tail).tail).tail).tail).head
                  have d6 := (((((((CS5.out).tail).tail).tail).tail).tail).tail).head
                  refine hK.out _ _ ⟨d0, d1, d2, d3, d4, d5, d6⟩ (fun hHeld => ?_)
                  clear hK K
                  try simp only [Act.put, List.setIfInBounds_toArray, List.set_cons_zero, List.set_cons_succ]
                  clear CS5 BG4
                  refine wpAnyH_take (i := 10) (oi := ⟨_, _, _, _, _, _⟩) (v := ?_) rfl (by kernel_rfl) (by kernel_rfl) (by kernel_rfl) (fun _ _ _ h => h) (Or.inl ⟨by rfl, ?_⟩) hHeld ?_
                  rotate_left
                  · intro w' hSw
                    try dsimp only at hSw
                    go_simp
                    all_goals with_reducible rfl
                  simp only [Act.put, List.setIfInBounds_toArray, List.set_cons_zero, List.set_cons_succ]
                  refine wpAnyH_take (i := 11) (oi := ⟨_, _, _, _, _, _⟩) (v := ?_) rfl (by kernel_rfl) (by kernel_rfl) (by kernel_rfl) (fun _ _ _ h => h) (Or.inl ⟨by rfl, ?_⟩) hHeld ?_
                  rotate_left
                  · intro w' hSw
                    try dsimp only at hSw
                    go_simp
                    all_goals with_reducible rfl
                  simp only [Act.put, List.setIfInBounds_toArray, List.set_cons_zero, List.set_cons_succ]
                  refine wpAnyH_done (by kernel_rfl) ?_ _
                  refine NoPanic.normal ?_
                  clear hHeld d0 d1 d2 d3 d4 d5 d6
                  go_wp2_with fail
                  go_meet
                  exact ⟨xa, xc, ya, yc, rfl, rfl, Hid.of (own_row (BAG5.out.own _ (List.mem_append_right _ (List.mem_append_right _ (List.mem_append_left _ (List.mem_singleton.2 rfl)))))), Hid.of (own_row (BAG5.out.own _ (List.mem_append_left _ (List.mem_singleton.2 rfl)))), BG5⟩
            case rest =>
              as_aux_lemma =>
                obtain ⟨pa, pc, qa, qc, rfl, rfl, CP, CQ, BW⟩ := hcut
                rename World => w9
                have GZ9 := Hid.of (GZ8.out.next BW.out)
                have AX9 := Hid.of (AX.out.kept BW.out)
                have AY9 := Hid.of (AY.out.kept BW.out)
                clear CS8 GZ8 BW AX AY HI HZ0 HZ1 HZ2 HFL HV
                obtain ⟨c0, c1⟩ := GZ9.out.pm.pv.k.at
                go_upto_region 9 with fail
                clear c0 c1
                go_wp2_with fail
                go_loopg [16, 17, 18, 19, 20, 21, 22] N (fun kx iv x17 x18 x19 x20 x21 x22 wr => ∃ i : Nat, iv = .int .i64 i ∧ i ≤ N ∧ N - i ≤ kx ∧ Hid (Below w9.heap.size w9 wr))
                case atStart => exact ⟨0, rfl, Nat.zero_le _, Nat.le_refl _, Hid.of (Below.refl _ _)⟩
                case round =>
                  obtain ⟨i, rfl, hiN, hix, BW⟩ := hrel
                  have i0 : (0 : Int) ≤ (i : Int) := Int.natCast_nonneg _
                  by_cases hlt : (i : Int) < (N : Int)
                  · have GI := Hid.of (GZ9.out.next BW.out)
                    obtain ⟨c0, c1, c2, c3⟩ := GI.out.rh.at
                    obtain ⟨e0, e1, e2⟩ := GI.out.pm.sat
                    have hst := S.start _ (now, p, []) (i : Int) mt wr GI.out.ok FT.out (by unfold In64; have := N10.out; omega) HMT.out GI.out.x
                    obtain ⟨sb, sk, hsb⟩ : ∃ sb sk, rStart (now, p, []) (i : Int) mt = (sb, sk) := ⟨_, _, rfl⟩
                    have HSB := Hid.of hsb
                    rw [hsb] at hst
                    clear hsb
                    go_wp2_with fail
                    refine hst.mono ?_
                    rintro e wv ⟨rfl, bv⟩
                    have BV := Hid.of (BW.out.trans (bv.mono BW.out.size))
                    clear bv hst GI c0 c1 c2 c3 e0 e1 e2 BW
                    simp only
                    have hNi : i < N := by omega
                    have HNI := Hid.of hNi
                    have i9 : (i : Int) ≤ 1000 := by have := N10.out; omega
                    obtain ⟨ok, hok⟩ : ∃ ok, vHas (now, p, []) (i : Int) (mn, mt, mx) = ok := ⟨_, rfl⟩
                    have HOK := Hid.of hok
                    have HOB : Hid ((sk && nOk mn) = ok) := Hid.of (by rw [← hok]; unfold vHas; rw [HSB.out])
                    clear hok
                    go_upto_region 13 with fail
                    go_cut [18] (fun ov wx => ov = .bool ok ∧ Hid (Below w9.heap.size w9 wx))
                    case first =>
                      have GV := Hid.of (GZ9.out.next BV.out)
                      obtain ⟨c0, c1, c2, c3⟩ := GV.out.rh.at
                      obtain ⟨e0, e1, e2⟩ := GV.out.pm.sat
                      cases sk
                      · have hf : ok = false := HOB.out.symm
                        subst hf
                        go_wp2_with fail
                        go_meet
                        exact ⟨rfl, BV⟩
                      · have htk := S.takes _ (now, p, []) mn 0 0 wv GV.out.ok FT.out HMN.out (by unfold In64; omega) GV.out.x
                        obtain ⟨t, ht⟩ : ∃ t, rTakes (now, p, []) mn 0 = t := ⟨_, rfl⟩
                        rw [ht] at htk
                        have HOT : Hid ((t != 1) = ok) := Hid.of (by
                          have h := takes_name (now, p, []) mn
                          rw [ht] at h
                          rw [← HOB.out, Bool.true_and, Bool.eq_iff_iff]
                          simp only [bne_iff_ne, ne_eq, h]
                          cases nOk mn <;> simp)
                        clear ht
                        go_wp2_with fail
                        refine htk.mono ?_
                        rintro e wt ⟨rfl, bt⟩
                        have BT := Hid.of (BV.out.trans (bt.mono BV.out.size))
                        clear bt htk GV c0 c1 c2 c3 e0 e1 e2 BV
                        have hot := HOT.out
                        go_wp2_with fail
                        go_meet
                        exact ⟨rfl, BT⟩
                    case rest =>
                      obtain ⟨rfl, BU⟩ := hcut
                      rename World => wu
                      clear BV HOB
                      have hcp : ((vNs (now, p, []) ss N).map (Value.int .i64))[i]? = some (.int .i64 ((vN (now, p, []) (i : Int) ss : Nat) : Int)) := by
                        unfold vNs
                        rw [List.getElem?_map, List.getElem?_map, List.getElem?_range hNi]
                        rfl
                      have hcq : ((vNs (now, p, []) (ss ++ [(mn, mt, mx)]) N).map (Value.int .i64))[i]? = some (.int .i64 ((vN (now, p, []) (i : Int) (ss ++ [(mn, mt, mx)]) : Nat) : Int)) := by
                        unfold vNs
                        rw [List.getElem?_map, List.getElem?_map, List.getElem?_range hNi]
                        rfl
                      rw [more_count HOK.out] at hcq
                      have hnl := vN_le (now, p, []) (i : Int) ss
                      obtain ⟨nx, hnx⟩ : ∃ nx, vN (now, p, []) (i : Int) ss = nx := ⟨_, rfl⟩
                      rw [hnx] at hcp hcq hnl
                      rw [HM.out] at hnl
                      clear hnx
                      obtain ⟨pb, po, rfl, pl, gp⟩ := (CP.out.kept BU.out).at i _ hcp
                      obtain ⟨qb, qo, rfl, ql, gq⟩ := (CQ.out.kept BU.out).at i _ hcq
                      obtain ⟨pq, hpq⟩ : ∃ q, po + i = q := ⟨_, rfl⟩
                      obtain ⟨qq, hqq⟩ : ∃ q, qo + i = q := ⟨_, rfl⟩
                      rw [hpq] at gp
                      rw [hqq] at gq
                      have n9 : (nx : Int) ≤ 30 := by have := MH.out; omega
                      have n0 : (0 : Int) ≤ (nx : Int) := Int.natCast_nonneg _
                      obtain ⟨xv, hxv⟩ : ∃ x, usx[i]? = some x := ⟨_, List.getElem?_eq_getElem (by rw [Ux.out]; exact hNi)⟩
                      obtain ⟨yv, hyv⟩ : ∃ x, usy[i]? = some x := ⟨_, List.getElem?_eq_getElem (by rw [Uy.out]; exact hNi)⟩
                      obtain ⟨x1, x2, ex, rx⟩ := AX9.out.i i xv hxv
                      obtain ⟨y1, y2, ey, ry⟩ := AY9.out.i i yv hyv
                      have hxy := more_lists (i := (i : Int)) (ss := ss) VK.out MF.out HOK.out
                      simp only [HSB.out] at hxy
                      obtain ⟨X, hX⟩ : ∃ X, vT (now, p, []) (i : Int) ss = X := ⟨_, rfl⟩
                      obtain ⟨Y, hY⟩ : ∃ Y, vT (now, p, []) (i : Int) (ss ++ [(mn, mt, mx)]) = Y := ⟨_, rfl⟩
                      have ly : Y.length ≤ 31 := by
                        have h := (vT_good (i := (i : Int)) (ss := ss ++ [(mn, mt, mx)]) VK.out (fun s hs => by rcases List.mem_append.1 hs with h | h; exact FS.out s h; rw [List.mem_singleton.1 h]; exact MF.out)).len
                        rw [hY, List.length_append, HM.out] at h
                        have := MH.out
                        simp only [List.length_cons, List.length_nil] at h
                        omega
                      rw [hX] at ex rx hxy
                      rw [hY] at ey ry hxy
                      clear hX hY
                      obtain ⟨Lx, hLx⟩ : ∃ L, X.length = L := ⟨_, rfl⟩
                      obtain ⟨Ly, hLy⟩ : ∃ L, Y.length = L := ⟨_, rfl⟩
                      rw [hLx] at ex rx
                      rw [hLy] at ey ry ly
                      subst ex ey
                      obtain ⟨g, g0, g1, gle, gst⟩ := more_walk hxy
                      have G0 := Hid.of g0
                      have G1 := Hid.of g1
                      have GL := Hid.of gle
                      have GS := Hid.of gst
                      have RX := Hid.of rx
                      have RY := Hid.of ry
                      have HLX := Hid.of hLx
                      have HLY := Hid.of hLy
                      have ox := AX9.out.o
                      have oy := AY9.out.o
                      rw [Ux.out] at ox
                      rw [Uy.out] at oy
                      obtain ⟨xg, xp, rfl, xl, x0⟩ := ox.at i _ hxv
                      obtain ⟨yg, yp, rfl, yl, y0⟩ := oy.at i _ hyv
                      obtain ⟨xq, hxq⟩ : ∃ q, xp + i = q := ⟨_, rfl⟩
                      obtain ⟨yq, hyq⟩ : ∃ q, yp + i = q := ⟨_, rfl⟩
                      rw [hxq] at x0
                      rw [hyq] at y0
                      have CL0 := Hid.of xl
                      have CL1 := Hid.of yl
                      have CSI : Hid (Cs w9 [(⟨xg, xq, none⟩, .slice x1 Lx x2), (⟨yg, yq, none⟩, .slice y1 Ly y2)]) := Hid.of (.cons xl x0 (.cons yl y0 (.nil _)))
                      clear hcp hcq hxv hyv rx ry hxy hLx hLy g0 g1 gle gst ox oy xl yl x0 y0 pl ql
                      cases ok
                      · as_aux_lemma =>
                          have gq2 : wu.cell? ⟨qb, qq, none⟩ = some (.int .i64 (nx : Int)) := by rw [gq]; simp
                          have wk : IntKind.i64.wrap ((nx : Int) + 0) = (nx : Int) := by
                            simp [IntKind.wrap, IntKind.bits, IntKind.signed]
                            omega
                          have wk2 : IntKind.i64.wrap (nx : Int) = (nx : Int) := by
                            simp [IntKind.wrap, IntKind.bits, IntKind.signed]
                            omega
                          clear gq
                          go_upto_region 17 with fail
                          go_quiet (fail)
                          clear gp gq2 wk hpq hqq n0 n9
                          go_upto_region 19 with fail
                          have BU2 := Hid.of (below_drewN BU.out nq)
                          generalize wu.drewN nq = wb at *
                          clear BU
                          go_wp2_with fail
                          go_loopg [20, 21, 22] Ly (fun kx iv kv ov wr => ∃ k : Nat, kv = .int .i64 k ∧ iv = .int .i64 (g k) ∧ k ≤ Ly ∧ Ly - k ≤ kx ∧ Hid (Below w9.heap.size w9 wr))
                          case atStart => exact ⟨0, rfl, by rw [G0.out]; rfl, Nat.zero_le _, Nat.le_refl _, BU2⟩
                          case round =>
                            obtain ⟨k, rfl, rfl, hkL, hkx, BK⟩ := hrel
                            clear BU2
                            have k0 : (0 : Int) ≤ (k : Int) := Int.natCast_nonneg _
                            have hgk := GL.out k
                            obtain ⟨q, hq⟩ : ∃ q, g k = q := ⟨_, rfl⟩
                            rw [hq] at hgk ⊢
                            have HQ := Hid.of hq
                            clear hq
                            have q0 : (0 : Int) ≤ (q : Int) := Int.natCast_nonneg _
                            have k9 : (k : Int) ≤ 31 := by omega
                            have q9 : (q : Int) ≤ 31 := by omega
                            have cy := (CSI.out.next BK.out).tail.head
                            have cx := (CSI.out.next BK.out).head
                            by_cases hk2 : (k : Int) < (Ly : Int)
                            · obtain ⟨y, hy⟩ : ∃ y, Y[k]? = some y := ⟨_, List.getElem?_eq_getElem (by have := HLY.out; omega)⟩
                              have HK2 : Hid (k < Ly) := Hid.of (by omega)
                              have hms := GS.out k y hy
                              rw [HQ.out] at hms
                              obtain ⟨-, e1b⟩ : True ∧ w9.cell? ⟨B + 1, 0, none⟩ = some (.string mn) := ⟨trivial, GZ9.out.pm.sat.1⟩
                              have MC := Hid.of e1b
                              have ML := Hid.of (Array.getElem?_eq_some_iff.1 GZ9.out.pm.km).1
                              have CI0 := Hid.of CSI.out.head
                              have CI1 := Hid.of CSI.out.tail.head
                              clear e1b
                              rcases hms with ⟨x, hx, hxk, ⟨hyo1, hyk⟩ | ⟨hxe, hno⟩, hg2⟩ | ⟨hno, hyo1, hyk, hg2⟩
                              · exact absurd hyo1 Bool.false_ne_true
                              · clear hxk hno
                                have HG2 := Hid.of hg2
                                clear hg2
                                have hql : (q : Int) < (Lx : Int) := by have h := (List.getElem?_eq_some_iff.1 hx).1; rw [HLX.out] at h; omega
                                as_aux_lemma =>
                                  obtain ⟨yb, yo0, hya, ybl, v0, v1, v2, v3, v4, v5, v6⟩ := r_at RY.out k (rl y) (by rw [List.getElem?_map, hy]; rfl)
                                  subst hya
                                  obtain ⟨yo, hyo⟩ : ∃ yo, yo0 + k * 7 = yo := ⟨_, rfl⟩
                                  rw [hyo] at v0 v1 v2 v3 v4 v5 v6
                                  simp only [rl] at v0 v1 v2 v3 v4 v5 v6
                                  have hxe := hxe.symm
                                  subst hxe
                                  obtain ⟨xb, xo0, hxa, xbl, u0, u1, u2, u3, u4, u5, u6⟩ := r_at RX.out q (rl y) (by rw [List.getElem?_map, hx]; rfl)
                                  subst hxa
                                  obtain ⟨xo, hxo⟩ : ∃ xo, xo0 + q * 7 = xo := ⟨_, rfl⟩
                                  rw [hxo] at u0 u1 u2 u3 u4 u5 u6
                                  simp only [rl] at u0 u1 u2 u3 u4 u5 u6
                                  have hxn : (y.n.toList == y.n.toList) = true := beq_self_eq_true _
                                  have hxs : (y.s == y.s) = true := beq_self_eq_true _
                                  have HXN := Hid.of hxn
                                  have HXS := Hid.of hxs
                                  have CSH : Hid (Cs w9 [(⟨xg, xq, none⟩, .slice (some ⟨xb, xo0, none⟩) Lx x2), (⟨yg, yq, none⟩, .slice (some ⟨yb, yo0, none⟩) Ly y2), (⟨xb, xo, none⟩, .string y.n), (⟨xb, xo + 1, none⟩, .int .i64 y.s), (⟨yb, yo, none⟩, .string y.n), (⟨yb, yo + 1, none⟩, .int .i64 y.s)]) := Hid.of (.cons CL0.out CI0.out (.cons CL1.out CI1.out (.cons xbl u0 (.cons xbl u1 (.cons ybl v0 (.cons ybl v1 (.nil _)))))))
                                  have CSH2 : Hid (Cs w9 [(⟨xg, xq, none⟩, .slice (some ⟨xb, xo0, none⟩) Lx x2), (⟨yg, yq, none⟩, .slice (some ⟨yb, yo0, none⟩) Ly y2), (⟨xb, xo, none⟩, .string y.n), (⟨xb, xo + 1, none⟩, .int .i64 y.s), (⟨xb, xo + 2, none⟩, .int .i64 y.a.c), (⟨xb, xo + 3, none⟩, .int .i64 y.a.hi), (⟨xb, xo + 4, none⟩, .int .u64 y.a.lo), (⟨xb, xo + 5, none⟩, .int .i64 y.a.mn), (⟨xb, xo + 6, none⟩, .int .i64 y.a.mx), (⟨yb, yo, none⟩, .string y.n), (⟨yb, yo + 1, none⟩, .int .i64 y.s), (⟨yb, yo + 2, none⟩, .int .i64 y.a.c), (⟨yb, yo + 3, none⟩, .int .i64 y.a.hi), (⟨yb, yo + 4, none⟩, .int .u64 y.a.lo), (⟨yb, yo + 5, none⟩, .int .i64 y.a.mn), (⟨yb, yo + 6, none⟩, .int .i64 y.a.mx)]) := Hid.of (.cons CL0.out CI0.out (.cons CL1.out CI1.out (.cons xbl u0 (.cons xbl u1 (.cons xbl u2 (.cons xbl u3 (.cons xbl u4 (.cons xbl u5 (.cons xbl u6 (.cons ybl v0 (.cons ybl v1 (.cons ybl v2 (.cons ybl v3 (.cons ybl v4 (.cons ybl v5 (.cons ybl v6 (.nil _)))))))))))))))))
                                  clear hxn hxs hx hy u0 u1 u2 u3 u4 u5 u6 v0 v1 v2 v3 v4 v5 v6 xbl ybl
                                  go_upto_region 23 with fail
                                  go_cut [22] (fun ov wx => ov = .bool false ∧ Hid (Below w9.heap.size w9 wx))
                                  case first =>
                                    go_quiet (fail)
                                    have BD := Hid.of (below_drewN BK.out nq)
                                    go_wp2_with fail
                                    go_meet
                                    exact ⟨rfl, BD⟩
                                  case rest =>
                                    obtain ⟨rfl, BC⟩ := hcut
                                    rename World => wc
                                    clear BK
                                    have hxn := HXN.out
                                    have hxs := HXS.out
                                    go_upto_region 24 with fail
                                    have d0 := (CSH.out.next BC.out).head
                                    have d1 := (CSH.out.next BC.out).tail.head
                                    have d2 := (CSH.out.next BC.out).tail.tail.head
                                    have d3 := (CSH.out.next BC.out).tail.tail.tail.head
                                    have d4 := (CSH.out.next BC.out).tail.tail.tail.tail.head
                                    have d5 := (CSH.out.next BC.out).tail.tail.tail.tail.tail.head
                                    go_quiet (fail)
                                    clear d0 d1 d2 d3 d4 d5
                                    have BD := Hid.of (below_drewN BC.out nq)
                                    generalize wc.drewN nq = WE at *
                                    go_upto_region 25 with fail
                                    have d0 := (CSH2.out.next BD.out).head
                                    have d1 := (CSH2.out.next BD.out).tail.head
                                    have d2 := (CSH2.out.next BD.out).tail.tail.head
                                    have d3 := (CSH2.out.next BD.out).tail.tail.tail.head
                                    have d4 := (CSH2.out.next BD.out).tail.tail.tail.tail.head
                                    have d5 := (CSH2.out.next BD.out).tail.tail.tail.tail.tail.head
                                    have d6 := (CSH2.out.next BD.out).tail.tail.tail.tail.tail.tail.head
                                    have d7 := (CSH2.out.next BD.out).tail.tail.tail.tail.tail.tail.tail.head
                                    have d8 := (CSH2.out.next BD.out).tail.tail.tail.tail.tail.tail.tail.tail.head
                                    have d9 := (CSH2.out.next BD.out).tail.tail.tail.tail.tail.tail.tail.tail.tail.head
                                    have d10 := (CSH2.out.next BD.out).tail.tail.tail.tail.tail.tail.tail.tail.tail.tail.head
                                    have d11 := (CSH2.out.next BD.out).tail.tail.tail.tail.tail.tail.tail.tail.tail.tail.tail.head
                                    have d12 := (CSH2.out.next BD.out).tail.tail.tail.tail.tail.tail.tail.tail.tail.tail.tail.tail.head
                                    have d13 := (CSH2.out.next BD.out).tail.tail.tail.tail.tail.tail.tail.tail.tail.tail.tail.tail.tail.head
                                    have d14 := (CSH2.out.next BD.out).tail.tail.tail.tail.tail.tail.tail.tail.tail.tail.tail.tail.tail.tail.head
                                    have d15 := (CSH2.out.next BD.out).tail.tail.tail.tail.tail.tail.tail.tail.tail.tail.tail.tail.tail.tail.tail.head
                                    have heq := recOne y
                                    have hgd := recGuard
                                    go_quiet (fail)
                                    clear d0 d1 d2 d3 d4 d5 d6 d7 d8 d9 d10 d11 d12 d13 d14 d15
                                    have BE := Hid.of (below_drewN BD.out nq)
                                    generalize WE.drewN nq = WF at *
                                    clear heq hgd
                                    go_wp2_with fail
                                    go_roundg (Ly - (k + 1))
                                    case measure => have := HK2.out; omega
                                    case rel => exact ⟨k + 1, by go_num, by rw [HG2.out]; go_num, by have := HK2.out; omega, Nat.le_refl _, BE⟩
                              · exact absurd hyo1 Bool.false_ne_true
                            · obtain rfl : k = Ly := by omega
                              have hqq : (q : Int) = (Lx : Int) := by rw [← HQ.out]; have h := G1.out; rw [HLY.out, HLX.out] at h; omega
                              obtain rfl : q = Lx := by omega
                              clear hqq
                              go_wp2_with fail
                              go_roundg (N - (i + 1))
                              case measure => have := HNI.out; omega
                              case rel => exact ⟨i + 1, by go_num, by have := HNI.out; omega, Nat.le_refl _, BK⟩
                      · as_aux_lemma =>
                          obtain ⟨ny, hny⟩ : ∃ ny : Int, (nx : Int) + 1 = ny := ⟨_, rfl⟩
                          have gq2 : wu.cell? ⟨qb, qq, none⟩ = some (.int .i64 ny) := by rw [gq, ← hny]; simp
                          have wk : IntKind.i64.wrap ((nx : Int) + 1) = ny := by
                            rw [← hny]
                            simp [IntKind.wrap, IntKind.bits, IntKind.signed]
                            omega
                          clear gq hny
                          go_upto_region 17 with fail
                          go_quiet (fail)
                          clear gp gq2 wk hpq hqq n0 n9
                          go_upto_region 19 with fail
                          have BU2 := Hid.of (below_drewN BU.out nq)
                          generalize wu.drewN nq = wb at *
                          clear BU
                          go_wp2_with fail
                          go_loopg [20, 21, 22] Ly (fun kx iv kv ov wr => ∃ k : Nat, kv = .int .i64 k ∧ iv = .int .i64 (g k) ∧ k ≤ Ly ∧ Ly - k ≤ kx ∧ Hid (Below w9.heap.size w9 wr))
                          case atStart => exact ⟨0, rfl, by rw [G0.out]; rfl, Nat.zero_le _, Nat.le_refl _, BU2⟩
                          case round =>
                            obtain ⟨k, rfl, rfl, hkL, hkx, BK⟩ := hrel
                            clear BU2
                            have k0 : (0 : Int) ≤ (k : Int) := Int.natCast_nonneg _
                            have hgk := GL.out k
                            obtain ⟨q, hq⟩ : ∃ q, g k = q := ⟨_, rfl⟩
                            rw [hq] at hgk ⊢
                            have HQ := Hid.of hq
                            clear hq
                            have q0 : (0 : Int) ≤ (q : Int) := Int.natCast_nonneg _
                            have k9 : (k : Int) ≤ 31 := by omega
                            have q9 : (q : Int) ≤ 31 := by omega
                            have cy := (CSI.out.next BK.out).tail.head
                            have cx := (CSI.out.next BK.out).head
                            by_cases hk2 : (k : Int) < (Ly : Int)
                            · obtain ⟨y, hy⟩ : ∃ y, Y[k]? = some y := ⟨_, List.getElem?_eq_getElem (by have := HLY.out; omega)⟩
                              have HK2 : Hid (k < Ly) := Hid.of (by omega)
                              have hms := GS.out k y hy
                              rw [HQ.out] at hms
                              obtain ⟨-, e1b⟩ : True ∧ w9.cell? ⟨B + 1, 0, none⟩ = some (.string mn) := ⟨trivial, GZ9.out.pm.sat.1⟩
                              have MC := Hid.of e1b
                              have ML := Hid.of (Array.getElem?_eq_some_iff.1 GZ9.out.pm.km).1
                              have CI0 := Hid.of CSI.out.head
                              have CI1 := Hid.of CSI.out.tail.head
                              clear e1b
                              rcases hms with ⟨x, hx, hxk, ⟨hyo1, hyk⟩ | ⟨hxe, hno⟩, hg2⟩ | ⟨hno, hyo1, hyk, hg2⟩
                              · clear hyo1
                                have HG2 := Hid.of hg2
                                clear hg2
                                have hql : (q : Int) < (Lx : Int) := by have h := (List.getElem?_eq_some_iff.1 hx).1; rw [HLX.out] at h; omega
                                have hyk : y.n = mn ∧ y.s = sb := by have h := hyk; simp only [TRec.k, Prod.mk.injEq] at h; exact h
                                have hxk : x.n = y.n ∧ x.s = y.s := by have h := hxk; simp only [TRec.k, Prod.mk.injEq] at h; exact h
                                as_aux_lemma =>
                                  obtain ⟨yb, yo0, hya, ybl, v0, v1, v2, v3, v4, v5, v6⟩ := r_at RY.out k (rl y) (by rw [List.getElem?_map, hy]; rfl)
                                  subst hya
                                  obtain ⟨yo, hyo⟩ : ∃ yo, yo0 + k * 7 = yo := ⟨_, rfl⟩
                                  rw [hyo] at v0 v1 v2 v3 v4 v5 v6
                                  simp only [rl] at v0 v1 v2 v3 v4 v5 v6
                                  obtain ⟨xb, xo0, hxa, xbl, u0, u1, u2, u3, u4, u5, u6⟩ := r_at RX.out q (rl x) (by rw [List.getElem?_map, hx]; rfl)
                                  subst hxa
                                  obtain ⟨xo, hxo⟩ : ∃ xo, xo0 + q * 7 = xo := ⟨_, rfl⟩
                                  rw [hxo] at u0 u1 u2 u3 u4 u5 u6
                                  simp only [rl] at u0 u1 u2 u3 u4 u5 u6
                                  obtain ⟨hy1, hy2⟩ := hyk
                                  have HNE : Hid ((y.n.toList == mn.toList) = true) := Hid.of (by rw [hy1]; exact beq_self_eq_true _)
                                  have HSE : Hid ((y.s == sb) = true) := Hid.of (by rw [hy2]; exact beq_self_eq_true _)
                                  have hxn : (x.n.toList == y.n.toList) = true := by rw [hxk.1]; exact beq_self_eq_true _
                                  have hxs : (x.s == y.s) = true := by rw [hxk.2]; exact beq_self_eq_true _
                                  have HXN := Hid.of hxn
                                  have HXS := Hid.of hxs
                                  have CSM : Hid (Cs w9 [(⟨yg, yq, none⟩, .slice (some ⟨yb, yo0, none⟩) Ly y2), (⟨B + 1, 0, none⟩, .string mn), (⟨yb, yo, none⟩, .string y.n), (⟨yb, yo + 1, none⟩, .int .i64 y.s)]) := Hid.of (.cons CL1.out CI1.out (.cons ML.out MC.out (.cons ybl v0 (.cons ybl v1 (.nil _)))))
                                  have CSH : Hid (Cs w9 [(⟨xg, xq, none⟩, .slice (some ⟨xb, xo0, none⟩) Lx x2), (⟨yg, yq, none⟩, .slice (some ⟨yb, yo0, none⟩) Ly y2), (⟨xb, xo, none⟩, .string x.n), (⟨xb, xo + 1, none⟩, .int .i64 x.s), (⟨yb, yo, none⟩, .string y.n), (⟨yb, yo + 1, none⟩, .int .i64 y.s)]) := Hid.of (.cons CL0.out CI0.out (.cons CL1.out CI1.out (.cons xbl u0 (.cons xbl u1 (.cons ybl v0 (.cons ybl v1 (.nil _)))))))
                                  clear hy1 hy2 hxn hxs hxk hx hy u0 u1 u2 u3 u4 u5 u6 v0 v1 v2 v3 v4 v5 v6 xbl ybl
                                  go_upto_region 23 with fail
                                  go_cut [22] (fun ov wx => ov = .bool true ∧ Hid (Below w9.heap.size w9 wx))
                                  case first =>
                                    have hn := HNE.out
                                    have hs := HSE.out
                                    have d0 := (CSM.out.next BK.out).head
                                    have d1 := (CSM.out.next BK.out).tail.head
                                    have d2 := (CSM.out.next BK.out).tail.tail.head
                                    have d3 := (CSM.out.next BK.out).tail.tail.tail.head
                                    go_quiet (fail)
                                    clear d0 d1 d2 d3
                                    have BD := Hid.of (below_drewN BK.out nq)
                                    go_wp2_with fail
                                    go_meet
                                    exact ⟨rfl, BD⟩
                                  case rest =>
                                    obtain ⟨rfl, BC⟩ := hcut
                                    rename World => wc
                                    clear BK
                                    clear HNE HSE CSM
                                    have hxn := HXN.out
                                    have hxs := HXS.out
                                    go_upto_region 24 with fail
                                    have d0 := (CSH.out.next BC.out).head
                                    have d1 := (CSH.out.next BC.out).tail.head
                                    have d2 := (CSH.out.next BC.out).tail.tail.head
                                    have d3 := (CSH.out.next BC.out).tail.tail.tail.head
                                    have d4 := (CSH.out.next BC.out).tail.tail.tail.tail.head
                                    have d5 := (CSH.out.next BC.out).tail.tail.tail.tail.tail.head
                                    go_quiet (fail)
                                    clear d0 d1 d2 d3 d4 d5
                                    have BD := Hid.of (below_drewN BC.out nq)
                                    generalize wc.drewN nq = WE at *
                                    go_upto_region 25 with fail
                                    go_quiet (fail)
                                    have BE := Hid.of (below_drewN BD.out nq)
                                    generalize WE.drewN nq = WF at *
                                    go_wp2_with fail
                                    go_roundg (Ly - (k + 1))
                                    case measure => have := HK2.out; omega
                                    case rel => exact ⟨k + 1, by go_num, by rw [HG2.out]; go_num, by have := HK2.out; omega, Nat.le_refl _, BE⟩
                              · clear hxk
                                have HG2 := Hid.of hg2
                                clear hg2
                                have hql : (q : Int) < (Lx : Int) := by have h := (List.getElem?_eq_some_iff.1 hx).1; rw [HLX.out] at h; omega
                                have HNO : Hid (¬ (y.n = mn ∧ y.s = sb)) := Hid.of (fun h => hno ⟨rfl, Prod.ext h.1 h.2⟩)
                                clear hno
                                as_aux_lemma =>
                                  obtain ⟨yb, yo0, hya, ybl, v0, v1, v2, v3, v4, v5, v6⟩ := r_at RY.out k (rl y) (by rw [List.getElem?_map, hy]; rfl)
                                  subst hya
                                  obtain ⟨yo, hyo⟩ : ∃ yo, yo0 + k * 7 = yo := ⟨_, rfl⟩
                                  rw [hyo] at v0 v1 v2 v3 v4 v5 v6
                                  simp only [rl] at v0 v1 v2 v3 v4 v5 v6
                                  have hxe := hxe.symm
                                  subst hxe
                                  obtain ⟨xb, xo0, hxa, xbl, u0, u1, u2, u3, u4, u5, u6⟩ := r_at RX.out q (rl y) (by rw [List.getElem?_map, hx]; rfl)
                                  subst hxa
                                  obtain ⟨xo, hxo⟩ : ∃ xo, xo0 + q * 7 = xo := ⟨_, rfl⟩
                                  rw [hxo] at u0 u1 u2 u3 u4 u5 u6
                                  simp only [rl] at u0 u1 u2 u3 u4 u5 u6
                                  have hxn : (y.n.toList == y.n.toList) = true := beq_self_eq_true _
                                  have hxs : (y.s == y.s) = true := beq_self_eq_true _
                                  have HXN := Hid.of hxn
                                  have HXS := Hid.of hxs
                                  have CSM : Hid (Cs w9 [(⟨yg, yq, none⟩, .slice (some ⟨yb, yo0, none⟩) Ly y2), (⟨B + 1, 0, none⟩, .string mn), (⟨yb, yo, none⟩, .string y.n), (⟨yb, yo + 1, none⟩, .int .i64 y.s)]) := Hid.of (.cons CL1.out CI1.out (.cons ML.out MC.out (.cons ybl v0 (.cons ybl v1 (.nil _)))))
                                  have CSH : Hid (Cs w9 [(⟨xg, xq, none⟩, .slice (some ⟨xb, xo0, none⟩) Lx x2), (⟨yg, yq, none⟩, .slice (some ⟨yb, yo0, none⟩) Ly y2), (⟨xb, xo, none⟩, .string y.n), (⟨xb, xo + 1, none⟩, .int .i64 y.s), (⟨yb, yo, none⟩, .string y.n), (⟨yb, yo + 1, none⟩, .int .i64 y.s)]) := Hid.of (.cons CL0.out CI0.out (.cons CL1.out CI1.out (.cons xbl u0 (.cons xbl u1 (.cons ybl v0 (.cons ybl v1 (.nil _)))))))
                                  have CSH2 : Hid (Cs w9 [(⟨xg, xq, none⟩, .slice (some ⟨xb, xo0, none⟩) Lx x2), (⟨yg, yq, none⟩, .slice (some ⟨yb, yo0, none⟩) Ly y2), (⟨xb, xo, none⟩, .string y.n), (⟨xb, xo + 1, none⟩, .int .i64 y.s), (⟨xb, xo + 2, none⟩, .int .i64 y.a.c), (⟨xb, xo + 3, none⟩, .int .i64 y.a.hi), (⟨xb, xo + 4, none⟩, .int .u64 y.a.lo), (⟨xb, xo + 5, none⟩, .int .i64 y.a.mn), (⟨xb, xo + 6, none⟩, .int .i64 y.a.mx), (⟨yb, yo, none⟩, .string y.n), (⟨yb, yo + 1, none⟩, .int .i64 y.s), (⟨yb, yo + 2, none⟩, .int .i64 y.a.c), (⟨yb, yo + 3, none⟩, .int .i64 y.a.hi), (⟨yb, yo + 4, none⟩, .int .u64 y.a.lo), (⟨yb, yo + 5, none⟩, .int .i64 y.a.mn), (⟨yb, yo + 6, none⟩, .int .i64 y.a.mx)]) := Hid.of (.cons CL0.out CI0.out (.cons CL1.out CI1.out (.cons xbl u0 (.cons xbl u1 (.cons xbl u2 (.cons xbl u3 (.cons xbl u4 (.cons xbl u5 (.cons xbl u6 (.cons ybl v0 (.cons ybl v1 (.cons ybl v2 (.cons ybl v3 (.cons ybl v4 (.cons ybl v5 (.cons ybl v6 (.nil _)))))))))))))))))
                                  clear hxn hxs hx hy u0 u1 u2 u3 u4 u5 u6 v0 v1 v2 v3 v4 v5 v6 xbl ybl
                                  go_upto_region 23 with fail
                                  go_cut [22] (fun ov wx => ov = .bool false ∧ Hid (Below w9.heap.size w9 wx))
                                  case first =>
                                    by_cases hc : y.n = mn
                                    · have hn : (y.n.toList == mn.toList) = true := by rw [hc]; exact beq_self_eq_true _
                                      have hs : (y.s == sb) = false := by rw [beq_eq_false_iff_ne]; exact fun c => HNO.out ⟨hc, c⟩
                                      clear hc
                                      have d0 := (CSM.out.next BK.out).head
                                      have d1 := (CSM.out.next BK.out).tail.head
                                      have d2 := (CSM.out.next BK.out).tail.tail.head
                                      have d3 := (CSM.out.next BK.out).tail.tail.tail.head
                                      go_quiet (fail)
                                      clear d0 d1 d2 d3
                                      have BD := Hid.of (below_drewN BK.out nq)
                                      go_wp2_with fail
                                      go_meet
                                      exact ⟨rfl, BD⟩
                                    · have hn : (y.n.toList == mn.toList) = false := by rw [beq_eq_false_iff_ne]; exact fun c => hc (toList_eq c)
                                      clear hc
                                      have d0 := (CSM.out.next BK.out).head
                                      have d1 := (CSM.out.next BK.out).tail.head
                                      have d2 := (CSM.out.next BK.out).tail.tail.head
                                      have d3 := (CSM.out.next BK.out).tail.tail.tail.head
                                      go_quiet (fail)
                                      clear d0 d1 d2 d3
                                      have BD := Hid.of (below_drewN BK.out nq)
                                      go_wp2_with fail
                                      go_meet
                                      exact ⟨rfl, BD⟩
                                  case rest =>
                                    obtain ⟨rfl, BC⟩ := hcut
                                    rename World => wc
                                    clear BK
                                    clear HNO CSM
                                    have hxn := HXN.out
                                    have hxs := HXS.out
                                    go_upto_region 24 with fail
                                    have d0 := (CSH.out.next BC.out).head
                                    have d1 := (CSH.out.next BC.out).tail.head
                                    have d2 := (CSH.out.next BC.out).tail.tail.head
                                    have d3 := (CSH.out.next BC.out).tail.tail.tail.head
                                    have d4 := (CSH.out.next BC.out).tail.tail.tail.tail.head
                                    have d5 := (CSH.out.next BC.out).tail.tail.tail.tail.tail.head
                                    go_quiet (fail)
                                    clear d0 d1 d2 d3 d4 d5
                                    have BD := Hid.of (below_drewN BC.out nq)
                                    generalize wc.drewN nq = WE at *
                                    go_upto_region 25 with fail
                                    have d0 := (CSH2.out.next BD.out).head
                                    have d1 := (CSH2.out.next BD.out).tail.head
                                    have d2 := (CSH2.out.next BD.out).tail.tail.head
                                    have d3 := (CSH2.out.next BD.out).tail.tail.tail.head
                                    have d4 := (CSH2.out.next BD.out).tail.tail.tail.tail.head
                                    have d5 := (CSH2.out.next BD.out).tail.tail.tail.tail.tail.head
                                    have d6 := (CSH2.out.next BD.out).tail.tail.tail.tail.tail.tail.head
                                    have d7 := (CSH2.out.next BD.out).tail.tail.tail.tail.tail.tail.tail.head
                                    have d8 := (CSH2.out.next BD.out).tail.tail.tail.tail.tail.tail.tail.tail.head
                                    have d9 := (CSH2.out.next BD.out).tail.tail.tail.tail.tail.tail.tail.tail.tail.head
                                    have d10 := (CSH2.out.next BD.out).tail.tail.tail.tail.tail.tail.tail.tail.tail.tail.head
                                    have d11 := (CSH2.out.next BD.out).tail.tail.tail.tail.tail.tail.tail.tail.tail.tail.tail.head
                                    have d12 := (CSH2.out.next BD.out).tail.tail.tail.tail.tail.tail.tail.tail.tail.tail.tail.tail.head
                                    have d13 := (CSH2.out.next BD.out).tail.tail.tail.tail.tail.tail.tail.tail.tail.tail.tail.tail.tail.head
                                    have d14 := (CSH2.out.next BD.out).tail.tail.tail.tail.tail.tail.tail.tail.tail.tail.tail.tail.tail.tail.head
                                    have d15 := (CSH2.out.next BD.out).tail.tail.tail.tail.tail.tail.tail.tail.tail.tail.tail.tail.tail.tail.tail.head
                                    have heq := recOne y
                                    have hgd := recGuard
                                    go_quiet (fail)
                                    clear d0 d1 d2 d3 d4 d5 d6 d7 d8 d9 d10 d11 d12 d13 d14 d15
                                    have BE := Hid.of (below_drewN BD.out nq)
                                    generalize WE.drewN nq = WF at *
                                    clear heq hgd
                                    go_wp2_with fail
                                    go_roundg (Ly - (k + 1))
                                    case measure => have := HK2.out; omega
                                    case rel => exact ⟨k + 1, by go_num, by rw [HG2.out]; go_num, by have := HK2.out; omega, Nat.le_refl _, BE⟩
                              · clear hyo1
                                have HG2 := Hid.of hg2
                                clear hg2
                                have hyk : y.n = mn ∧ y.s = sb := by have h := hyk; simp only [TRec.k, Prod.mk.injEq] at h; exact h
                                as_aux_lemma =>
                                  obtain ⟨yb, yo0, hya, ybl, v0, v1, v2, v3, v4, v5, v6⟩ := r_at RY.out k (rl y) (by rw [List.getElem?_map, hy]; rfl)
                                  subst hya
                                  obtain ⟨yo, hyo⟩ : ∃ yo, yo0 + k * 7 = yo := ⟨_, rfl⟩
                                  rw [hyo] at v0 v1 v2 v3 v4 v5 v6
                                  simp only [rl] at v0 v1 v2 v3 v4 v5 v6
                                  obtain ⟨hy1, hy2⟩ := hyk
                                  have HNE : Hid ((y.n.toList == mn.toList) = true) := Hid.of (by rw [hy1]; exact beq_self_eq_true _)
                                  have HSE : Hid ((y.s == sb) = true) := Hid.of (by rw [hy2]; exact beq_self_eq_true _)
                                  have CSM : Hid (Cs w9 [(⟨yg, yq, none⟩, .slice (some ⟨yb, yo0, none⟩) Ly y2), (⟨B + 1, 0, none⟩, .string mn), (⟨yb, yo, none⟩, .string y.n), (⟨yb, yo + 1, none⟩, .int .i64 y.s)]) := Hid.of (.cons CL1.out CI1.out (.cons ML.out MC.out (.cons ybl v0 (.cons ybl v1 (.nil _)))))
                                  have V0 := Hid.of v0
                                  have V1 := Hid.of v1
                                  have YBL := Hid.of ybl
                                  have HNX := Hid.of hno
                                  clear hy1 hy2 hno hy v0 v1 v2 v3 v4 v5 v6 ybl
                                  go_upto_region 23 with fail
                                  go_cut [22] (fun ov wx => ov = .bool true ∧ Hid (Below w9.heap.size w9 wx))
                                  case first =>
                                    have hn := HNE.out
                                    have hs := HSE.out
                                    have d0 := (CSM.out.next BK.out).head
                                    have d1 := (CSM.out.next BK.out).tail.head
                                    have d2 := (CSM.out.next BK.out).tail.tail.head
                                    have d3 := (CSM.out.next BK.out).tail.tail.tail.head
                                    go_quiet (fail)
                                    clear d0 d1 d2 d3
                                    have BD := Hid.of (below_drewN BK.out nq)
                                    go_wp2_with fail
                                    go_meet
                                    exact ⟨rfl, BD⟩
                                  case rest =>
                                    obtain ⟨rfl, BC⟩ := hcut
                                    rename World => wc
                                    clear BK
                                    clear HNE HSE CSM
                                    go_upto_region 24 with fail
                                    go_cut [211] (fun ov wx => ov = .bool false ∧ Hid (Below w9.heap.size w9 wx))
                                    case first =>
                                      by_cases hqx : (q : Int) < (Lx : Int)
                                      · obtain ⟨x, hx⟩ : ∃ x, X[q]? = some x := ⟨_, List.getElem?_eq_getElem (by have := HLX.out; omega)⟩
                                        have hk := HNX.out x hx
                                        obtain ⟨xb, xo0, hxa, xbl, u0, u1, u2, u3, u4, u5, u6⟩ := r_at RX.out q (rl x) (by rw [List.getElem?_map, hx]; rfl)
                                        subst hxa
                                        obtain ⟨xo, hxo⟩ : ∃ xo, xo0 + q * 7 = xo := ⟨_, rfl⟩
                                        rw [hxo] at u0 u1 u2 u3 u4 u5 u6
                                        simp only [rl] at u0 u1 u2 u3 u4 u5 u6
                                        have CSH : Hid (Cs w9 [(⟨xg, xq, none⟩, .slice (some ⟨xb, xo0, none⟩) Lx x2), (⟨yg, yq, none⟩, .slice (some ⟨yb, yo0, none⟩) Ly y2), (⟨xb, xo, none⟩, .string x.n), (⟨xb, xo + 1, none⟩, .int .i64 x.s), (⟨yb, yo, none⟩, .string y.n), (⟨yb, yo + 1, none⟩, .int .i64 y.s)]) := Hid.of (.cons CL0.out CI0.out (.cons CL1.out CI1.out (.cons xbl u0 (.cons xbl u1 (.cons YBL.out V0.out (.cons YBL.out V1.out (.nil _)))))))
                                        clear u0 u1 u2 u3 u4 u5 u6 xbl hx
                                        by_cases hc : x.n = y.n
                                        · have hn : (x.n.toList == y.n.toList) = true := by rw [hc]; exact beq_self_eq_true _
                                          have hs : (x.s == y.s) = false := by rw [beq_eq_false_iff_ne]; exact fun c => hk (Prod.ext hc c)
                                          clear hc hk
                                          have d0 := (CSH.out.next BC.out).head
                                          have d1 := (CSH.out.next BC.out).tail.head
                                          have d2 := (CSH.out.next BC.out).tail.tail.head
                                          have d3 := (CSH.out.next BC.out).tail.tail.tail.head
                                          have d4 := (CSH.out.next BC.out).tail.tail.tail.tail.head
                                          have d5 := (CSH.out.next BC.out).tail.tail.tail.tail.tail.head
                                          go_quiet (fail)
                                          clear d0 d1 d2 d3 d4 d5
                                          have BD := Hid.of (below_drewN BC.out nq)
                                          go_wp2_with fail
                                          go_meet
                                          exact ⟨rfl, BD⟩
                                        · have hn : (x.n.toList == y.n.toList) = false := by rw [beq_eq_false_iff_ne]; exact fun c => hc (toList_eq c)
                                          clear hc hk
                                          have d0 := (CSH.out.next BC.out).head
                                          have d1 := (CSH.out.next BC.out).tail.head
                                          have d2 := (CSH.out.next BC.out).tail.tail.head
                                          have d3 := (CSH.out.next BC.out).tail.tail.tail.head
                                          have d4 := (CSH.out.next BC.out).tail.tail.tail.tail.head
                                          have d5 := (CSH.out.next BC.out).tail.tail.tail.tail.tail.head
                                          go_quiet (fail)
                                          clear d0 d1 d2 d3 d4 d5
                                          have BD := Hid.of (below_drewN BC.out nq)
                                          go_wp2_with fail
                                          go_meet
                                          exact ⟨rfl, BD⟩
                                      · have CSO : Hid (Cs w9 [(⟨xg, xq, none⟩, .slice x1 Lx x2)]) := Hid.of (.cons CL0.out CI0.out (.nil _))
                                        have hd : decide ((q : Int) < (Lx : Int)) = false := decide_eq_false hqx
                                        have d0 := (CSO.out.next BC.out).head
                                        go_quiet (fail)
                                        clear d0
                                        have BD := Hid.of (below_drewN BC.out nq)
                                        go_wp2_with fail
                                        go_meet
                                        exact ⟨rfl, BD⟩
                                    case rest =>
                                      obtain ⟨rfl, BE⟩ := hcut
                                      clear BC
                                      go_wp2_with fail
                                      go_roundg (Ly - (k + 1))
                                      case measure => have := HK2.out; omega
                                      case rel => exact ⟨k + 1, by go_num, by rw [HG2.out], by have := HK2.out; omega, Nat.le_refl _, BE⟩
                            · obtain rfl : k = Ly := by omega
                              have hqq : (q : Int) = (Lx : Int) := by rw [← HQ.out]; have h := G1.out; rw [HLY.out, HLX.out] at h; omega
                              obtain rfl : q = Lx := by omega
                              clear hqq
                              go_wp2_with fail
                              go_roundg (N - (i + 1))
                              case measure => have := HNI.out; omega
                              case rel => exact ⟨i + 1, by go_num, by have := HNI.out; omega, Nat.le_refl _, BK⟩
                  · obtain rfl : i = N := by omega
                    have GI := Hid.of (GZ9.out.next BW.out)
                    go_wp2_with fail
                    refine (viewAlive_any S _ GI.out.ok).mono ?_
                    rintro e w10 ⟨rfl, b10⟩
                    have B10 := Hid.of (GI.out.pm.pv.fr.trans (b10.mono GI.out.pm.pv.fr.size))
                    clear b10
                    go_wp2
                    go_ret
                    exact ⟨rfl, B10.out⟩

end Go.Proofs.Ytdhkmcmipkfkjaa
