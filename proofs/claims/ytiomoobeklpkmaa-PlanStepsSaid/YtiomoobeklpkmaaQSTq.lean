/-
  PlanSteps: each shard of each tier is filled once, then it is checked, then cut over; a series is filled behind the fill of its shard, and not ahead of it.
-/
import Derived.Test.YtiomoobeklpkmaaQ22
import Derived.Test.YtiomoobeklpkmaaQ18
namespace Go.Proofs.Ytiomoobeklpkmaa
open Go.RowKit Go.Lib

/-- A policy that came in and a plan, in two variables. -/
structure SPl (w0 : World) (Z y : Nat) (tn : ByteArray) (ts : Value) (pn : ByteArray) (ps pf : Value) (pl : PlanL) (w : World) : Prop where
  cs : Dc w [(⟨Z, 0, none⟩, .string tn), (⟨Z, 1, none⟩, ts), (⟨y, 0, none⟩, .string pn), (⟨y, 1, none⟩, ps), (⟨y, 2, none⟩, pf)]
  l : PlanRow w (.agg #[.string pn, ps, pf]) pl
  fr : Below w0.heap.size w0 w

section
variable {w0 w w' : World} {Z y : Nat} {tn pn : ByteArray} {ts ps pf : Value} {pl : PlanL}
theorem SPl.next (h : SPl w0 Z y tn ts pn ps pf pl w) (b : Below w.heap.size w w') : SPl w0 Z y tn ts pn ps pf pl w' := ⟨h.cs.next b, h.l.kept b, h.fr.trans (b.mono h.fr.size)⟩
theorem SPl.at (h : SPl w0 Z y tn ts pn ps pf pl w) : w.cell? ⟨Z, 0, none⟩ = some (.string tn) ∧ w.cell? ⟨Z, 1, none⟩ = some ts ∧ w.cell? ⟨y, 0, none⟩ = some (.string pn) ∧ w.cell? ⟨y, 1, none⟩ = some ps ∧ w.cell? ⟨y, 2, none⟩ = some pf :=
  ⟨h.cs.head, h.cs.tail.head, h.cs.tail.tail.head, h.cs.tail.tail.tail.head, h.cs.tail.tail.tail.tail.head⟩
end

/-- The steps of a policy that may be. -/
structure StepsOk (q : PolL) (pl : PlanL) : Prop where
  ok : ShOk q.2
  ne : q.2 ≠ []
  len : q.2.length ≤ 10
  tq : pl.1 = q

theorem StepsOk.sum {q : PolL} {pl : PlanL} (h : StepsOk q pl) : 1 ≤ shSum q.2 ∧ shSum q.2 ≤ 80 := by
  have h1 := shSum_ge h.ok
  have h2 := h.len
  have h3 : 1 ≤ q.2.length := List.length_pos_iff.2 h.ne
  omega

theorem StepsOk.steps {q : PolL} {pl : PlanL} (h : StepsOk q pl) : mSteps pl = shSum q.2 + 2 := by
  have := mSteps_sum (pl := pl) (by rw [h.tq]; exact h.ok) (by rw [h.tq]; have := h.len; omega) (by rw [h.tq]; exact h.ne)
  rwa [h.tq] at this

theorem StepsOk.at_ {q : PolL} {pl : PlanL} (h : StepsOk q pl) {n : Int} (n0 : 0 ≤ n) : mAt pl n = mAtN n 0 q.2 := by
  unfold mAt
  rw [if_neg (by rw [mZero_no (by rw [h.tq]; exact h.ne)]; simp only [Bool.false_eq_true, false_or]; omega), h.tq]

theorem StepsOk.fill {q : PolL} {pl : PlanL} (h : StepsOk q pl) {j : Nat} {x : TierL} (hx : q.2[j]? = some x) {k : Int} (k0 : 0 ≤ k) (k1 : k < x.2.2.2) : mAt pl (shSum (q.2.take j) + k) = ((1, (j : Int), k), true) := by
  have h2 := shSum_ge (l := q.2.take j) (fun z hz => h.ok z (List.mem_of_mem_take hz))
  rw [h.at_ (by omega), mAtN_fill h.ok hx k0 k1, Nat.zero_add]

theorem StepsOk.end_ {q : PolL} {pl : PlanL} (h : StepsOk q pl) {m : Int} (m0 : 0 ≤ m) : mAt pl (shSum q.2 + m) = if m = 0 then ((2, 0, 0), true) else if m = 1 then ((3, 0, 0), true) else ((0, 0, 0), false) := by
  have h2 := shSum_ge h.ok
  rw [h.at_ (by omega), mAtN_end h.ok 0 m0]
  rfl

theorem at_neg (pl : PlanL) : mAt pl (-1) = ((0, 0, 0), false) := by
  unfold mAt
  rw [if_pos (.inr (by omega))]

/-- A series' fill. -/
theorem StepsOk.filled {q : PolL} {pl : PlanL} (h : StepsOk q pl) {j : Nat} {x : TierL} (hx : q.2[j]? = some x) (sn : ByteArray) : ∃ th : Int, 0 ≤ th ∧ th < shSum q.2 ∧ ∀ k, mFilled pl k (j : Int) sn = decide (th < k) := by
  have hm := h.ok x (List.mem_of_getElem? hx)
  obtain ⟨r0, r1⟩ := nShard_in sn x.2.2.2 (by omega)
  have h2 := shSum_ge (l := q.2.take j) (fun z hz => h.ok z (List.mem_of_mem_take hz))
  have h3 := shSum_take hx
  have h5 : shSum q.2 = shSum (q.2.take (j + 1)) + shSum (q.2.drop (j + 1)) := by rw [← shSum_app, List.take_append_drop]
  have h6 := shSum_ge (l := q.2.drop (j + 1)) (fun z hz => h.ok z (List.mem_of_mem_drop hz))
  have hs := h.sum
  have hl := h.len
  refine ⟨shSum (q.2.take j) + nShard sn x.2.2.2, by omega, by omega, fun k => ?_⟩
  unfold mFilled
  rw [if_neg (by omega), show ((j : Int).toNat) = j by omega, h.tq, hx]
  show (decide (nShard sn x.2.2.2 < x.2.2.2) && decide (mAdd (mFills (q.2.take j)) (nShard sn x.2.2.2) < k)) = _
  rw [decide_eq_true r1, Bool.true_and, mFills_sum (fun z hz => h.ok z (List.mem_of_mem_take hz)) (by rw [List.length_take]; omega), mAdd_of (by unfold I64; omega)]

theorem mFurN_le {r : RchL} {e : Int} : ∀ (l : List TierL) (i best : Nat), mFurN r e i best l ≤ max best (i + l.length)
  | [], i, best => by show best ≤ _; omega
  | x :: l, i, best => by
    show mFurN r e (i + 1) _ l ≤ _
    have h2 : (if gOn e x.2.1 = true ∧ rFromN r i ≤ rFromN r best then i else best) ≤ max best i := by split <;> omega
    refine Nat.le_trans (mFurN_le (r := r) (e := e) l (i + 1) _) ?_
    rw [List.length_cons]
    omega

theorem fur_in (r : RchL) (e : Int) (l : List TierL) (h : l.length ≤ 1000000) : In64 ((mFur r e l : Nat) : Int) := by
  have := mFurN_le (r := r) (e := e) l 0 0
  unfold In64 mFur
  omega

set_option maxRecDepth 20000 in
set_option maxHeartbeats 12800000 in
theorem planSteps_main (v : Value) (q : PolL) (sn : ByteArray) (tier : Int) (w : World) (hv : PolRow w v q) (hp : ∀ x ∈ q.2, TIn x) (hsn : sn.size ≤ maxLen) (htier : In64 tier) :
    Calls Try.prog 3 #[v, .string sn, .int .i64 tier] w fun e w' => e = .returned (.bool true) ∧ Below w.heap.size w w' := by
  have HV := Hid.of hv
  have HP := Hid.of hp
  have HSN := Hid.of hsn
  have HTI := Hid.of htier
  obtain ⟨sl, rfl, hsl, -⟩ := hv
  have HSL := Hid.of hsl
  obtain ⟨ta, tc, rfl, -⟩ := hsl
  obtain ⟨tn, htn⟩ : ∃ n, q.1 = n := ⟨_, rfl⟩
  obtain ⟨N, hN⟩ : ∃ N, q.2.length = N := ⟨_, rfl⟩
  rw [htn, hN] at HV
  rw [hN] at HSL
  rw [htn, hN]
  obtain ⟨Z, hZ⟩ : ∃ Z, w.heap.size = Z := ⟨_, rfl⟩
  obtain ⟨w1, hw1⟩ : ∃ w1, w.alloc (.cells #[.string tn, .slice ta N tc] 24) = w1 := ⟨_, rfl⟩
  have b1 : Below w.heap.size w w1 := by rw [← hw1]; exact (Below.refl _ _).alloc (Nat.le_refl _) _
  have k1 : w1.heap[Z]? = some (.cells #[.string tn, .slice ta N tc] 24 (0, 0)) := by rw [← hw1, ← hZ]; exact (MapKept.heap_alloc w _).1
  have CS1 : Hid (Dc w1 [(⟨Z, 0, none⟩, .string tn), (⟨Z, 1, none⟩, .slice ta N tc)]) := Hid.of (Dc.app (Dc.one k1 (i := 0) rfl) (Dc.one k1 (i := 1) rfl))
  have B1 := Hid.of b1
  have HW := Hid.of hw1
  have HZ := Hid.of hZ
  have NQ := Hid.of hN
  have HN := Hid.of htn
  clear hw1 b1 k1 hZ hN htn hp hsn htier
  obtain ⟨c0, c1⟩ : w1.cell? ⟨Z, 0, none⟩ = some (.string tn) ∧ w1.cell? ⟨Z, 1, none⟩ = some (.slice ta N tc) := ⟨CS1.out.head, CS1.out.tail.head⟩
  go_enter Try.func3, Try.ntmps3
  go_upto_region 1 with fail
  rw [HW.out, HZ.out]
  clear HW
  go_wp2_with fail
  refine (Small_any _ q _ (HV.out.kept B1.out)).mono ?_
  rintro e w2 ⟨r, rfl, hr, b2⟩
  have B2 := Hid.of (B1.out.trans (b2.mono B1.out.size))
  have CS2 := Hid.of (CS1.out.next b2)
  clear b2 B1 CS1 c0 c1
  have BAD : Hid (∀ w9, Below w.heap.size w w9 → Calls Try.prog 6 #[] w9 fun e w' => e = .returned (.bool true) ∧ Below w.heap.size w w') := Hid.of (fun w9 h => by
    refine (planAlive_any w9).mono ?_
    rintro e w' ⟨he, b⟩
    exact ⟨he, h.trans (b.mono h.size)⟩)
  cases r with
  | false =>
    go_wp2_with fail
    refine (BAD.out _ B2.out).mono ?_
    rintro e w3 ⟨rfl, b3⟩
    go_wp2
    go_ret
    exact ⟨rfl, b3⟩
  | true =>
    have SM := Hid.of (hr.out rfl)
    have SP := Hid.of (fit_of HP.out (hr.out rfl))
    clear hr
    by_cases hbig : (60 : Int) < (sn.size : Int)
    · go_wp2_with fail
      refine (BAD.out _ B2.out).mono ?_
      rintro e w3 ⟨rfl, b3⟩
      go_wp2
      go_ret
      exact ⟨rfl, b3⟩
    · have FW := Hid.of web_fit
      have FR : Hid (RFit (100, webPol, [])) := Hid.of ⟨⟨by decide, by decide⟩, web_fit, by decide, fun _ h => by cases h⟩
      have SN60 := Hid.of hbig
      have B0 := B2
      have CS0 := CS2
      have T0 : Hid (PolRow w2 (polVal tn (.slice ta N tc)) q) := Hid.of (HV.out.kept B2.out)
      obtain ⟨er, her⟩ : ∃ er, mErr webPol q = er := ⟨_, rfl⟩
      obtain ⟨pl, hpl⟩ : ∃ pl, mMake webPol (100, webPol, []) q = pl := ⟨_, rfl⟩
      have MK : Hid (mErr webPol q = er ∧ mMake webPol (100, webPol, []) q = pl) := Hid.of ⟨her, hpl⟩
      obtain ⟨LN, hLN⟩ : ∃ n, pl.1.2.length = n := ⟨_, rfl⟩
      obtain ⟨LM, hLM⟩ : ∃ n, pl.2.length = n := ⟨_, rfl⟩
      have LL : Hid (pl.1.2.length = LN ∧ pl.2.length = LM) := Hid.of ⟨hLN, hLM⟩
      clear B2 CS2 her hpl hLN hLM
      go_upto_region 3 with fail
      clear hbig
      go_cut [7, 8] from 34 to 41 (fun pv ev wx => ∃ (y : Nat) (pn : ByteArray) (psa pfa : Option Addr) (psc pfc : Nat), pv = .pointer (some ⟨y, 0, none⟩) ∧ ev = .int .i64 er ∧ Hid (SPl w Z y tn (.slice ta N tc) pn (.slice psa LN psc) (.slice pfa LM pfc) pl wx))
      case first =>
        have bD := (Below.refl w2.heap.size w2).drew
        have BD := Hid.of (B0.out.trans (bD.mono B0.out.size))
        have CSD := Hid.of (CS0.out.next bD)
        have TD := Hid.of (T0.out.kept bD)
        clear bD
        have d0 := (CS0.out).head
        have d1 := ((CS0.out).tail).head
        refine wp_region_noPanic ?_
        refine wp_region_held_drew (S := fun w' => w'.cell? ⟨Z, 0, none⟩ = some (.string tn) ∧ w'.cell? ⟨Z, 1, none⟩ = some (.slice ta N tc)) (by kernel_rfl) ?_ (fun hHeld => ?_)
        · exact ⟨d0, d1⟩
        clear B0 CS0 T0
        refine wpAnyH_take (i := 3) (oi := ⟨_, _, _, _, _, _⟩) (v := ?_) rfl (by kernel_rfl) (by kernel_rfl) (by kernel_rfl) (fun _ _ _ h => h) (Or.inl ⟨by rfl, ?_⟩) hHeld ?_
        rotate_left
        · intro w' hSw
          try dsimp only at hSw
          go_simp
          all_goals with_reducible rfl
        simp only [Act.put, List.setIfInBounds_toArray, List.set_cons_zero, List.set_cons_succ]
        refine wpAnyH_ready (rs := [0, 8]) (by kernel_rfl) (by simp) ?_
        refine AllReadyH.cons (o := ⟨_, _, _, _, _, _⟩) rfl (fun K hK => ?_) (AllReadyH.cons (o := ⟨_, _, _, _, _, _⟩) rfl (fun K hK => ?_) AllReadyH.nil)
        · go_simp
          refine (Web_any _).mono ?_
          rintro e w91 ⟨v4, rfl, pr, b91⟩
          have P91 := Hid.of pr
          clear pr
          have B91 := Hid.of (BD.out.trans (b91.mono BD.out.size))
          have CS91 := Hid.of (CSD.out.next b91)
          have T91 := Hid.of (TD.out.kept b91)
          clear b91 BD CSD TD
          clear hHeld d0 d1
          have d0 := (CS91.out).head
          have d1 := ((CS91.out).tail).head
          refine hK.out _ _ ⟨d0, d1⟩ (fun hHeld => ?_)
          clear hK K
          try simp only [Act.put, List.setIfInBounds_toArray, List.set_cons_zero, List.set_cons_succ]
          refine wpAnyH_ready (rs := [1, 8]) (by kernel_rfl) (by simp) ?_
          refine AllReadyH.cons (o := ⟨_, _, _, _, _, _⟩) rfl (fun K hK => ?_) (AllReadyH.cons (o := ⟨_, _, _, _, _, _⟩) rfl (fun K hK => ?_) AllReadyH.nil)
          · go_simp
            refine (Web_any _).mono ?_
            rintro e w92 ⟨v5, rfl, pr, b92⟩
            have Q92 := Hid.of pr
            clear pr
            have B92 := Hid.of (B91.out.trans (b92.mono B91.out.size))
            have CS92 := Hid.of (CS91.out.next b92)
            have T92 := Hid.of (T91.out.kept b92)
            have P92 := Hid.of (P91.out.kept b92)
            clear b92 B91 CS91 T91 P91
            clear hHeld d0 d1
            have d0 := (CS92.out).head
            have d1 := ((CS92.out).tail).head
            refine hK.out _ _ ⟨d0, d1⟩ (fun hHeld => ?_)
            clear hK K
            try simp only [Act.put, List.setIfInBounds_toArray, List.set_cons_zero, List.set_cons_succ]
            refine wpAnyH_ready (rs := [2, 8]) (by kernel_rfl) (by simp) ?_
            refine AllReadyH.cons (o := ⟨_, _, _, _, _, _⟩) rfl (fun K hK => ?_) (AllReadyH.cons (o := ⟨_, _, _, _, _, _⟩) rfl (fun K hK => ?_) AllReadyH.nil)
            · go_simp
              refine (reaches.of _ _ webPol 100 [] _ trivial FR.out Q92.out ⟨_, _, rfl, .inl rfl⟩ (Nat.le_refl _)).mono ?_
              rintro e w93 ⟨u7, rfl, ou, b93⟩
              have R93 := Hid.of ou.row
              clear ou
              have B93 := Hid.of (B92.out.trans (b93.mono B92.out.size))
              have CS93 := Hid.of (CS92.out.next b93)
              have T93 := Hid.of (T92.out.kept b93)
              have P93 := Hid.of (P92.out.kept b93)
              clear b93 B92 CS92 T92 P92
              clear Q92
              clear hHeld d0 d1
              have d0 := (CS93.out).head
              have d1 := ((CS93.out).tail).head
              refine hK.out _ _ ⟨d0, d1⟩ (fun hHeld => ?_)
              clear hK K
              try simp only [Act.put, List.setIfInBounds_toArray, List.set_cons_zero, List.set_cons_succ]
              refine wpAnyH_ready (rs := [4, 8]) (by kernel_rfl) (by simp) ?_
              refine AllReadyH.cons (o := ⟨_, _, _, _, _, _⟩) rfl (fun K hK => ?_) (AllReadyH.cons (o := ⟨_, _, _, _, _, _⟩) rfl (fun K hK => ?_) AllReadyH.nil)
              · go_simp
                refine (make_any _ _ _ webPol q (100, webPol, []) _ FW.out SP.out FR.out P93.out R93.out T93.out).mono ?_
                rintro e w94 ⟨u6, rfl, ou, b94⟩
                rw [MK.out.1]
                rw [MK.out.2] at ou
                have L94 := Hid.of ou.row
                clear ou
                obtain ⟨ps, pf, hu, hps, hpf, -⟩ := L94.out
                subst hu
                obtain ⟨psa, psc, rfl, -⟩ := hps
                obtain ⟨pfa, pfc, rfl, -⟩ := hpf
                unfold plVal at L94 ⊢
                obtain ⟨pn, hpn⟩ : ∃ pn, pl.1.1 = pn := ⟨_, rfl⟩
                rw [hpn, LL.out.1, LL.out.2] at L94 ⊢
                clear hpn
                have B94 := Hid.of (B93.out.trans (b94.mono B93.out.size))
                have CS94 := Hid.of (CS93.out.next b94)
                clear b94 B93 CS93
                clear P93 R93 T93
                clear hHeld d0 d1
                have d0 := (CS94.out).head
                have d1 := ((CS94.out).tail).head
                refine hK.out _ _ ⟨d0, d1⟩ (fun hHeld => ?_)
                clear hK K
                try simp only [Act.put, List.setIfInBounds_toArray, List.set_cons_zero, List.set_cons_succ]
                refine wpAnyH_take (i := 5) (oi := ⟨_, _, _, _, _, _⟩) (v := ?_) rfl (by kernel_rfl) (by kernel_rfl) (by kernel_rfl) (fun _ _ _ h => h) (Or.inl ⟨by rfl, ?_⟩) hHeld ?_
                rotate_left
                · intro w' hSw
                  try dsimp only at hSw
                  go_simp
                  all_goals with_reducible rfl
                simp only [Act.put, List.setIfInBounds_toArray, List.set_cons_zero, List.set_cons_succ]
                refine wpAnyH_take (i := 6) (oi := ⟨_, _, _, _, _, _⟩) (v := ?_) rfl (by kernel_rfl) (by kernel_rfl) (by kernel_rfl) (fun _ _ _ h => h) (Or.inl ⟨by rfl, ?_⟩) hHeld ?_
                rotate_left
                · intro w' hSw
                  try dsimp only at hSw
                  go_simp
                  all_goals with_reducible rfl
                simp only [Act.put, List.setIfInBounds_toArray, List.set_cons_zero, List.set_cons_succ]
                refine wpAnyH_take (i := 7) (oi := ⟨_, _, _, _, _, _⟩) (v := ?_) rfl (by kernel_rfl) (by kernel_rfl) (by kernel_rfl) (fun _ _ _ h => h) (Or.inl ⟨by rfl, ?_⟩) hHeld ?_
                rotate_left
                · intro w' hSw
                  try dsimp only at hSw
                  go_simp
                  all_goals with_reducible rfl
                simp only [Act.put, List.setIfInBounds_toArray, List.set_cons_zero, List.set_cons_succ]
                refine wpAnyH_ready (rs := [8]) (by kernel_rfl) (by simp) ?_
                refine AllReadyH.cons (o := ⟨_, _, _, _, _, _⟩) rfl (fun K hK => ?_) AllReadyH.nil
                go_simp
                obtain ⟨y, hy⟩ : ∃ y, (w94).heap.size = y := ⟨_, rfl⟩
                obtain ⟨w95, hw95⟩ : ∃ w95, (w94).alloc (.cells #[.string ⟨#[]⟩, .slice none 0 0, .slice none 0 0] 29) = w95 := ⟨_, rfl⟩
                have hx95 : (w94).alloc (.cells #[.string ⟨#[]⟩, .slice none 0 0, .slice none 0 0] 29) = w95 := hw95
                have b95 : Below (w94).heap.size (w94) w95 := by rw [← hx95]; exact (Below.refl _ _).alloc (Nat.le_refl _) _
                have K95 : Hid (w95.heap[y]? = some (.cells #[.string ⟨#[]⟩, .slice none 0 0, .slice none 0 0] 29 (0, 0))) := Hid.of (by rw [← hx95, ← hy]; exact (MapKept.heap_alloc (w94) _).1)
                have HLY : Hid (w.heap.size ≤ y) := Hid.of (by rw [← hy]; exact B94.out.size)
                have HLZ : Hid (∀ x ∈ ([(⟨Z, 0, none⟩, .string tn), (⟨Z, 1, none⟩, .slice ta N tc)] : List (Addr × Value)), x.1.block < y) := Hid.of (fun x hx => by rw [← hy]; exact (CS94.out x hx).1)
                rw [hw95, hy]
                clear hw95 hx95 hy
                have B95 := Hid.of (B94.out.trans (b95.mono B94.out.size))
                have CS95 := Hid.of (CS94.out.next b95)
                have L95 := Hid.of (L94.out.kept b95)
                clear b95 B94 CS94 L94
                clear hHeld d0 d1
                have d0 := (CS95.out).head
                have d1 := ((CS95.out).tail).head
                refine hK.out _ _ ⟨d0, d1⟩ (fun hHeld => ?_)
                clear hK K
                try simp only [Act.put, List.setIfInBounds_toArray, List.set_cons_zero, List.set_cons_succ]
                refine wpAnyH_ready (rs := [9]) (by kernel_rfl) (by simp) ?_
                refine AllReadyH.cons (o := ⟨_, _, _, _, _, _⟩) rfl (fun K hK => ?_) AllReadyH.nil
                have k0 := K95.out
                have f0 := row_frozen (i := 0) k0
                have f1 := row_frozen (i := 1) k0
                have f2 := row_frozen (i := 2) k0
                obtain ⟨t0, t1, t2⟩ := lblk_at k0
                go_simp
                clear f0 f1 f2 t0 t1 t2
                have KZ := Hid.of (lblk_set (n' := pn) (s' := .slice psa LN psc) (f' := .slice pfa LM pfc) k0)
                have gz := setL_grown w95 y pn (.slice psa LN psc) (.slice pfa LM pfc)
                have CSZ := Hid.of (CS95.out.grown gz (fun x hx c => by have h1 := Option.some.inj c; have h2 := HLZ.out x hx; omega))
                have BZ : Hid (Below w.heap.size w (setL w95 y pn (.slice psa LN psc) (.slice pfa LM pfc))) := Hid.of (B95.out.grown gz B95.out.size (fun k hk => by cases hk; exact HLY.out))
                have LZ : Hid (PlanRow (setL w95 y pn (.slice psa LN psc) (.slice pfa LM pfc)) (.agg #[.string pn, .slice psa LN psc, .slice pfa LM pfc]) pl) := Hid.of (plan_off k0 gz L95.out)
                clear gz k0
                unfold setL at KZ CSZ BZ LZ
                clear hHeld d0 d1
                have d0 := (CSZ.out).head
                have d1 := ((CSZ.out).tail).head
                refine hK.out _ _ ⟨d0, d1⟩ (fun hHeld => ?_)
                clear hK K
                try simp only [Act.put, List.setIfInBounds_toArray, List.set_cons_zero, List.set_cons_succ]
                refine wpAnyH_take (i := 10) (oi := ⟨_, _, _, _, _, _⟩) (v := ?_) rfl (by kernel_rfl) (by kernel_rfl) (by kernel_rfl) (fun _ _ _ h => h) (Or.inl ⟨by rfl, ?_⟩) hHeld ?_
                rotate_left
                · intro w' hSw
                  try dsimp only at hSw
                  go_simp
                  all_goals with_reducible rfl
                simp only [Act.put, List.setIfInBounds_toArray, List.set_cons_zero, List.set_cons_succ]
                refine wpAnyH_done (by kernel_rfl) ?_ _
                refine NoPanic.normal ?_
                clear hHeld d0 d1
                go_wp2_with fail
                go_meet
                exact ⟨y, pn, psa, pfa, psc, pfc, rfl, rfl, Hid.of ⟨Dc.app CSZ.out (Dc.app (Dc.one KZ.out (i := 0) rfl) (Dc.app (Dc.one KZ.out (i := 1) rfl) (Dc.one KZ.out (i := 2) rfl))), LZ.out, BZ.out⟩⟩
              · go_simp
                obtain ⟨y, hy⟩ : ∃ y, (w93).heap.size = y := ⟨_, rfl⟩
                obtain ⟨w96, hw96⟩ : ∃ w96, (w93).alloc (.cells #[.string ⟨#[]⟩, .slice none 0 0, .slice none 0 0] 29) = w96 := ⟨_, rfl⟩
                have hx96 : (w93).alloc (.cells #[.string ⟨#[]⟩, .slice none 0 0, .slice none 0 0] 29) = w96 := hw96
                have b96 : Below (w93).heap.size (w93) w96 := by rw [← hx96]; exact (Below.refl _ _).alloc (Nat.le_refl _) _
                have K96 : Hid (w96.heap[y]? = some (.cells #[.string ⟨#[]⟩, .slice none 0 0, .slice none 0 0] 29 (0, 0))) := Hid.of (by rw [← hx96, ← hy]; exact (MapKept.heap_alloc (w93) _).1)
                have HLY : Hid (w.heap.size ≤ y) := Hid.of (by rw [← hy]; exact B93.out.size)
                have HLZ : Hid (∀ x ∈ ([(⟨Z, 0, none⟩, .string tn), (⟨Z, 1, none⟩, .slice ta N tc)] : List (Addr × Value)), x.1.block < y) := Hid.of (fun x hx => by rw [← hy]; exact (CS93.out x hx).1)
                rw [hw96, hy]
                clear hw96 hx96 hy
                have B96 := Hid.of (B93.out.trans (b96.mono B93.out.size))
                have CS96 := Hid.of (CS93.out.next b96)
                have T96 := Hid.of (T93.out.kept b96)
                have P96 := Hid.of (P93.out.kept b96)
                have R96 := Hid.of (R93.out.kept b96)
                clear b96 B93 CS93 T93 P93 R93
                clear hHeld d0 d1
                have d0 := (CS96.out).head
                have d1 := ((CS96.out).tail).head
                refine hK.out _ _ ⟨d0, d1⟩ (fun hHeld => ?_)
                clear hK K
                try simp only [Act.put, List.setIfInBounds_toArray, List.set_cons_zero, List.set_cons_succ]
                refine wpAnyH_ready (rs := [4]) (by kernel_rfl) (by simp) ?_
                refine AllReadyH.cons (o := ⟨_, _, _, _, _, _⟩) rfl (fun K hK => ?_) AllReadyH.nil
                go_simp
                refine (make_any _ _ _ webPol q (100, webPol, []) _ FW.out SP.out FR.out P96.out R96.out T96.out).mono ?_
                rintro e w97 ⟨u6, rfl, ou, b97⟩
                rw [MK.out.1]
                rw [MK.out.2] at ou
                have L97 := Hid.of ou.row
                clear ou
                obtain ⟨ps, pf, hu, hps, hpf, -⟩ := L97.out
                subst hu
                obtain ⟨psa, psc, rfl, -⟩ := hps
                obtain ⟨pfa, pfc, rfl, -⟩ := hpf
                unfold plVal at L97 ⊢
                obtain ⟨pn, hpn⟩ : ∃ pn, pl.1.1 = pn := ⟨_, rfl⟩
                rw [hpn, LL.out.1, LL.out.2] at L97 ⊢
                clear hpn
                have B97 := Hid.of (B96.out.trans (b97.mono B96.out.size))
                have CS97 := Hid.of (CS96.out.next b97)
                have K97 := Hid.of (lblk_next K96.out b97)
                clear b97 B96 CS96 K96
                clear P96 R96 T96
                clear hHeld d0 d1
                have d0 := (CS97.out).head
                have d1 := ((CS97.out).tail).head
                refine hK.out _ _ ⟨d0, d1⟩ (fun hHeld => ?_)
                clear hK K
                try simp only [Act.put, List.setIfInBounds_toArray, List.set_cons_zero, List.set_cons_succ]
                refine wpAnyH_take (i := 5) (oi := ⟨_, _, _, _, _, _⟩) (v := ?_) rfl (by kernel_rfl) (by kernel_rfl) (by kernel_rfl) (fun _ _ _ h => h) (Or.inl ⟨by rfl, ?_⟩) hHeld ?_
                rotate_left
                · intro w' hSw
                  try dsimp only at hSw
                  go_simp
                  all_goals with_reducible rfl
                simp only [Act.put, List.setIfInBounds_toArray, List.set_cons_zero, List.set_cons_succ]
                refine wpAnyH_take (i := 6) (oi := ⟨_, _, _, _, _, _⟩) (v := ?_) rfl (by kernel_rfl) (by kernel_rfl) (by kernel_rfl) (fun _ _ _ h => h) (Or.inl ⟨by rfl, ?_⟩) hHeld ?_
                rotate_left
                · intro w' hSw
                  try dsimp only at hSw
                  go_simp
                  all_goals with_reducible rfl
                simp only [Act.put, List.setIfInBounds_toArray, List.set_cons_zero, List.set_cons_succ]
                refine wpAnyH_take (i := 7) (oi := ⟨_, _, _, _, _, _⟩) (v := ?_) rfl (by kernel_rfl) (by kernel_rfl) (by kernel_rfl) (fun _ _ _ h => h) (Or.inl ⟨by rfl, ?_⟩) hHeld ?_
                rotate_left
                · intro w' hSw
                  try dsimp only at hSw
                  go_simp
                  all_goals with_reducible rfl
                simp only [Act.put, List.setIfInBounds_toArray, List.set_cons_zero, List.set_cons_succ]
                refine wpAnyH_ready (rs := [9]) (by kernel_rfl) (by simp) ?_
                refine AllReadyH.cons (o := ⟨_, _, _, _, _, _⟩) rfl (fun K hK => ?_) AllReadyH.nil
                have k0 := K97.out
                have f0 := row_frozen (i := 0) k0
                have f1 := row_frozen (i := 1) k0
                have f2 := row_frozen (i := 2) k0
                obtain ⟨t0, t1, t2⟩ := lblk_at k0
                go_simp
                clear f0 f1 f2 t0 t1 t2
                have KZ := Hid.of (lblk_set (n' := pn) (s' := .slice psa LN psc) (f' := .slice pfa LM pfc) k0)
                have gz := setL_grown w97 y pn (.slice psa LN psc) (.slice pfa LM pfc)
                have CSZ := Hid.of (CS97.out.grown gz (fun x hx c => by have h1 := Option.some.inj c; have h2 := HLZ.out x hx; omega))
                have BZ : Hid (Below w.heap.size w (setL w97 y pn (.slice psa LN psc) (.slice pfa LM pfc))) := Hid.of (B97.out.grown gz B97.out.size (fun k hk => by cases hk; exact HLY.out))
                have LZ : Hid (PlanRow (setL w97 y pn (.slice psa LN psc) (.slice pfa LM pfc)) (.agg #[.string pn, .slice psa LN psc, .slice pfa LM pfc]) pl) := Hid.of (plan_off k0 gz L97.out)
                clear gz k0
                unfold setL at KZ CSZ BZ LZ
                clear hHeld d0 d1
                have d0 := (CSZ.out).head
                have d1 := ((CSZ.out).tail).head
                refine hK.out _ _ ⟨d0, d1⟩ (fun hHeld => ?_)
                clear hK K
                try simp only [Act.put, List.setIfInBounds_toArray, List.set_cons_zero, List.set_cons_succ]
                refine wpAnyH_take (i := 10) (oi := ⟨_, _, _, _, _, _⟩) (v := ?_) rfl (by kernel_rfl) (by kernel_rfl) (by kernel_rfl) (fun _ _ _ h => h) (Or.inl ⟨by rfl, ?_⟩) hHeld ?_
                rotate_left
                · intro w' hSw
                  try dsimp only at hSw
                  go_simp
                  all_goals with_reducible rfl
                simp only [Act.put, List.setIfInBounds_toArray, List.set_cons_zero, List.set_cons_succ]
                refine wpAnyH_done (by kernel_rfl) ?_ _
                refine NoPanic.normal ?_
                clear hHeld d0 d1
                go_wp2_with fail
                go_meet
                exact ⟨y, pn, psa, pfa, psc, pfc, rfl, rfl, Hid.of ⟨Dc.app CSZ.out (Dc.app (Dc.one KZ.out (i := 0) rfl) (Dc.app (Dc.one KZ.out (i := 1) rfl) (Dc.one KZ.out (i := 2) rfl))), LZ.out, BZ.out⟩⟩
            · go_simp
              obtain ⟨y, hy⟩ : ∃ y, (w92).heap.size = y := ⟨_, rfl⟩
              obtain ⟨w98, hw98⟩ : ∃ w98, (w92).alloc (.cells #[.string ⟨#[]⟩, .slice none 0 0, .slice none 0 0] 29) = w98 := ⟨_, rfl⟩
              have hx98 : (w92).alloc (.cells #[.string ⟨#[]⟩, .slice none 0 0, .slice none 0 0] 29) = w98 := hw98
              have b98 : Below (w92).heap.size (w92) w98 := by rw [← hx98]; exact (Below.refl _ _).alloc (Nat.le_refl _) _
              have K98 : Hid (w98.heap[y]? = some (.cells #[.string ⟨#[]⟩, .slice none 0 0, .slice none 0 0] 29 (0, 0))) := Hid.of (by rw [← hx98, ← hy]; exact (MapKept.heap_alloc (w92) _).1)
              have HLY : Hid (w.heap.size ≤ y) := Hid.of (by rw [← hy]; exact B92.out.size)
              have HLZ : Hid (∀ x ∈ ([(⟨Z, 0, none⟩, .string tn), (⟨Z, 1, none⟩, .slice ta N tc)] : List (Addr × Value)), x.1.block < y) := Hid.of (fun x hx => by rw [← hy]; exact (CS92.out x hx).1)
              rw [hw98, hy]
              clear hw98 hx98 hy
              have B98 := Hid.of (B92.out.trans (b98.mono B92.out.size))
              have CS98 := Hid.of (CS92.out.next b98)
              have T98 := Hid.of (T92.out.kept b98)
              have P98 := Hid.of (P92.out.kept b98)
              have Q98 := Hid.of (Q92.out.kept b98)
              clear b98 B92 CS92 T92 P92 Q92
              clear hHeld d0 d1
              have d0 := (CS98.out).head
              have d1 := ((CS98.out).tail).head
              refine hK.out _ _ ⟨d0, d1⟩ (fun hHeld => ?_)
              clear hK K
              try simp only [Act.put, List.setIfInBounds_toArray, List.set_cons_zero, List.set_cons_succ]
              refine wpAnyH_ready (rs := [2]) (by kernel_rfl) (by simp) ?_
              refine AllReadyH.cons (o := ⟨_, _, _, _, _, _⟩) rfl (fun K hK => ?_) AllReadyH.nil
              go_simp
              refine (reaches.of _ _ webPol 100 [] _ trivial FR.out Q98.out ⟨_, _, rfl, .inl rfl⟩ (Nat.le_refl _)).mono ?_
              rintro e w99 ⟨u7, rfl, ou, b99⟩
              have R99 := Hid.of ou.row
              clear ou
              have B99 := Hid.of (B98.out.trans (b99.mono B98.out.size))
              have CS99 := Hid.of (CS98.out.next b99)
              have T99 := Hid.of (T98.out.kept b99)
              have P99 := Hid.of (P98.out.kept b99)
              have K99 := Hid.of (lblk_next K98.out b99)
              clear b99 B98 CS98 T98 P98 K98
              clear Q98
              clear hHeld d0 d1
              have d0 := (CS99.out).head
              have d1 := ((CS99.out).tail).head
              refine hK.out _ _ ⟨d0, d1⟩ (fun hHeld => ?_)
              clear hK K
              try simp only [Act.put, List.setIfInBounds_toArray, List.set_cons_zero, List.set_cons_succ]
              refine wpAnyH_ready (rs := [4]) (by kernel_rfl) (by simp) ?_
              refine AllReadyH.cons (o := ⟨_, _, _, _, _, _⟩) rfl (fun K hK => ?_) AllReadyH.nil
              go_simp
              refine (make_any _ _ _ webPol q (100, webPol, []) _ FW.out SP.out FR.out P99.out R99.out T99.out).mono ?_
              rintro e w910 ⟨u6, rfl, ou, b910⟩
              rw [MK.out.1]
              rw [MK.out.2] at ou
              have L910 := Hid.of ou.row
              clear ou
              obtain ⟨ps, pf, hu, hps, hpf, -⟩ := L910.out
              subst hu
              obtain ⟨psa, psc, rfl, -⟩ := hps
              obtain ⟨pfa, pfc, rfl, -⟩ := hpf
              unfold plVal at L910 ⊢
              obtain ⟨pn, hpn⟩ : ∃ pn, pl.1.1 = pn := ⟨_, rfl⟩
              rw [hpn, LL.out.1, LL.out.2] at L910 ⊢
              clear hpn
              have B910 := Hid.of (B99.out.trans (b910.mono B99.out.size))
              have CS910 := Hid.of (CS99.out.next b910)
              have K910 := Hid.of (lblk_next K99.out b910)
              clear b910 B99 CS99 K99
              clear P99 R99 T99
              clear hHeld d0 d1
              have d0 := (CS910.out).head
              have d1 := ((CS910.out).tail).head
              refine hK.out _ _ ⟨d0, d1⟩ (fun hHeld => ?_)
              clear hK K
              try simp only [Act.put, List.setIfInBounds_toArray, List.set_cons_zero, List.set_cons_succ]
              refine wpAnyH_take (i := 5) (oi := ⟨_, _, _, _, _, _⟩) (v := ?_) rfl (by kernel_rfl) (by kernel_rfl) (by kernel_rfl) (fun _ _ _ h => h) (Or.inl ⟨by rfl, ?_⟩) hHeld ?_
              rotate_left
              · intro w' hSw
                try dsimp only at hSw
                go_simp
                all_goals with_reducible rfl
              simp only [Act.put, List.setIfInBounds_toArray, List.set_cons_zero, List.set_cons_succ]
              refine wpAnyH_take (i := 6) (oi := ⟨_, _, _, _, _, _⟩) (v := ?_) rfl (by kernel_rfl) (by kernel_rfl) (by kernel_rfl) (fun _ _ _ h => h) (Or.inl ⟨by rfl, ?_⟩) hHeld ?_
              rotate_left
              · intro w' hSw
                try dsimp only at hSw
                go_simp
                all_goals with_reducible rfl
              simp only [Act.put, List.setIfInBounds_toArray, List.set_cons_zero, List.set_cons_succ]
              refine wpAnyH_take (i := 7) (oi := ⟨_, _, _, _, _, _⟩) (v := ?_) rfl (by kernel_rfl) (by kernel_rfl) (by kernel_rfl) (fun _ _ _ h => h) (Or.inl ⟨by rfl, ?_⟩) hHeld ?_
              rotate_left
              · intro w' hSw
                try dsimp only at hSw
                go_simp
                all_goals with_reducible rfl
              simp only [Act.put, List.setIfInBounds_toArray, List.set_cons_zero, List.set_cons_succ]
              refine wpAnyH_ready (rs := [9]) (by kernel_rfl) (by simp) ?_
              refine AllReadyH.cons (o := ⟨_, _, _, _, _, _⟩) rfl (fun K hK => ?_) AllReadyH.nil
              have k0 := K910.out
              have f0 := row_frozen (i := 0) k0
              have f1 := row_frozen (i := 1) k0
              have f2 := row_frozen (i := 2) k0
              obtain ⟨t0, t1, t2⟩ := lblk_at k0
              go_simp
              clear f0 f1 f2 t0 t1 t2
              have KZ := Hid.of (lblk_set (n' := pn) (s' := .slice psa LN psc) (f' := .slice pfa LM pfc) k0)
              have gz := setL_grown w910 y pn (.slice psa LN psc) (.slice pfa LM pfc)
              have CSZ := Hid.of (CS910.out.grown gz (fun x hx c => by have h1 := Option.some.inj c; have h2 := HLZ.out x hx; omega))
              have BZ : Hid (Below w.heap.size w (setL w910 y pn (.slice psa LN psc) (.slice pfa LM pfc))) := Hid.of (B910.out.grown gz B910.out.size (fun k hk => by cases hk; exact HLY.out))
              have LZ : Hid (PlanRow (setL w910 y pn (.slice psa LN psc) (.slice pfa LM pfc)) (.agg #[.string pn, .slice psa LN psc, .slice pfa LM pfc]) pl) := Hid.of (plan_off k0 gz L910.out)
              clear gz k0
              unfold setL at KZ CSZ BZ LZ
              clear hHeld d0 d1
              have d0 := (CSZ.out).head
              have d1 := ((CSZ.out).tail).head
              refine hK.out _ _ ⟨d0, d1⟩ (fun hHeld => ?_)
              clear hK K
              try simp only [Act.put, List.setIfInBounds_toArray, List.set_cons_zero, List.set_cons_succ]
              refine wpAnyH_take (i := 10) (oi := ⟨_, _, _, _, _, _⟩) (v := ?_) rfl (by kernel_rfl) (by kernel_rfl) (by kernel_rfl) (fun _ _ _ h => h) (Or.inl ⟨by rfl, ?_⟩) hHeld ?_
              rotate_left
              · intro w' hSw
                try dsimp only at hSw
                go_simp
                all_goals with_reducible rfl
              simp only [Act.put, List.setIfInBounds_toArray, List.set_cons_zero, List.set_cons_succ]
              refine wpAnyH_done (by kernel_rfl) ?_ _
              refine NoPanic.normal ?_
              clear hHeld d0 d1
              go_wp2_with fail
              go_meet
              exact ⟨y, pn, psa, pfa, psc, pfc, rfl, rfl, Hid.of ⟨Dc.app CSZ.out (Dc.app (Dc.one KZ.out (i := 0) rfl) (Dc.app (Dc.one KZ.out (i := 1) rfl) (Dc.one KZ.out (i := 2) rfl))), LZ.out, BZ.out⟩⟩
          · go_simp
            obtain ⟨y, hy⟩ : ∃ y, (w91).heap.size = y := ⟨_, rfl⟩
            obtain ⟨w911, hw911⟩ : ∃ w911, (w91).alloc (.cells #[.string ⟨#[]⟩, .slice none 0 0, .slice none 0 0] 29) = w911 := ⟨_, rfl⟩
            have hx911 : (w91).alloc (.cells #[.string ⟨#[]⟩, .slice none 0 0, .slice none 0 0] 29) = w911 := hw911
            have b911 : Below (w91).heap.size (w91) w911 := by rw [← hx911]; exact (Below.refl _ _).alloc (Nat.le_refl _) _
            have K911 : Hid (w911.heap[y]? = some (.cells #[.string ⟨#[]⟩, .slice none 0 0, .slice none 0 0] 29 (0, 0))) := Hid.of (by rw [← hx911, ← hy]; exact (MapKept.heap_alloc (w91) _).1)
            have HLY : Hid (w.heap.size ≤ y) := Hid.of (by rw [← hy]; exact B91.out.size)
            have HLZ : Hid (∀ x ∈ ([(⟨Z, 0, none⟩, .string tn), (⟨Z, 1, none⟩, .slice ta N tc)] : List (Addr × Value)), x.1.block < y) := Hid.of (fun x hx => by rw [← hy]; exact (CS91.out x hx).1)
            rw [hw911, hy]
            clear hw911 hx911 hy
            have B911 := Hid.of (B91.out.trans (b911.mono B91.out.size))
            have CS911 := Hid.of (CS91.out.next b911)
            have T911 := Hid.of (T91.out.kept b911)
            have P911 := Hid.of (P91.out.kept b911)
            clear b911 B91 CS91 T91 P91
            clear hHeld d0 d1
            have d0 := (CS911.out).head
            have d1 := ((CS911.out).tail).head
            refine hK.out _ _ ⟨d0, d1⟩ (fun hHeld => ?_)
            clear hK K
            try simp only [Act.put, List.setIfInBounds_toArray, List.set_cons_zero, List.set_cons_succ]
            refine wpAnyH_ready (rs := [1]) (by kernel_rfl) (by simp) ?_
            refine AllReadyH.cons (o := ⟨_, _, _, _, _, _⟩) rfl (fun K hK => ?_) AllReadyH.nil
            go_simp
            refine (Web_any _).mono ?_
            rintro e w912 ⟨v5, rfl, pr, b912⟩
            have Q912 := Hid.of pr
            clear pr
            have B912 := Hid.of (B911.out.trans (b912.mono B911.out.size))
            have CS912 := Hid.of (CS911.out.next b912)
            have T912 := Hid.of (T911.out.kept b912)
            have P912 := Hid.of (P911.out.kept b912)
            have K912 := Hid.of (lblk_next K911.out b912)
            clear b912 B911 CS911 T911 P911 K911
            clear hHeld d0 d1
            have d0 := (CS912.out).head
            have d1 := ((CS912.out).tail).head
            refine hK.out _ _ ⟨d0, d1⟩ (fun hHeld => ?_)
            clear hK K
            try simp only [Act.put, List.setIfInBounds_toArray, List.set_cons_zero, List.set_cons_succ]
            refine wpAnyH_ready (rs := [2]) (by kernel_rfl) (by simp) ?_
            refine AllReadyH.cons (o := ⟨_, _, _, _, _, _⟩) rfl (fun K hK => ?_) AllReadyH.nil
            go_simp
            refine (reaches.of _ _ webPol 100 [] _ trivial FR.out Q912.out ⟨_, _, rfl, .inl rfl⟩ (Nat.le_refl _)).mono ?_
            rintro e w913 ⟨u7, rfl, ou, b913⟩
            have R913 := Hid.of ou.row
            clear ou
            have B913 := Hid.of (B912.out.trans (b913.mono B912.out.size))
            have CS913 := Hid.of (CS912.out.next b913)
            have T913 := Hid.of (T912.out.kept b913)
            have P913 := Hid.of (P912.out.kept b913)
            have K913 := Hid.of (lblk_next K912.out b913)
            clear b913 B912 CS912 T912 P912 K912
            clear Q912
            clear hHeld d0 d1
            have d0 := (CS913.out).head
            have d1 := ((CS913.out).tail).head
            refine hK.out _ _ ⟨d0, d1⟩ (fun hHeld => ?_)
            clear hK K
            try simp only [Act.put, List.setIfInBounds_toArray, List.set_cons_zero, List.set_cons_succ]
            refine wpAnyH_ready (rs := [4]) (by kernel_rfl) (by simp) ?_
            refine AllReadyH.cons (o := ⟨_, _, _, _, _, _⟩) rfl (fun K hK => ?_) AllReadyH.nil
            go_simp
            refine (make_any _ _ _ webPol q (100, webPol, []) _ FW.out SP.out FR.out P913.out R913.out T913.out).mono ?_
            rintro e w914 ⟨u6, rfl, ou, b914⟩
            rw [MK.out.1]
            rw [MK.out.2] at ou
            have L914 := Hid.of ou.row
            clear ou
            obtain ⟨ps, pf, hu, hps, hpf, -⟩ := L914.out
            subst hu
            obtain ⟨psa, psc, rfl, -⟩ := hps
            obtain ⟨pfa, pfc, rfl, -⟩ := hpf
            unfold plVal at L914 ⊢
            obtain ⟨pn, hpn⟩ : ∃ pn, pl.1.1 = pn := ⟨_, rfl⟩
            rw [hpn, LL.out.1, LL.out.2] at L914 ⊢
            clear hpn
            have B914 := Hid.of (B913.out.trans (b914.mono B913.out.size))
            have CS914 := Hid.of (CS913.out.next b914)
            have K914 := Hid.of (lblk_next K913.out b914)
            clear b914 B913 CS913 K913
            clear P913 R913 T913
            clear hHeld d0 d1
            have d0 := (CS914.out).head
            have d1 := ((CS914.out).tail).head
            refine hK.out _ _ ⟨d0, d1⟩ (fun hHeld => ?_)
            clear hK K
            try simp only [Act.put, List.setIfInBounds_toArray, List.set_cons_zero, List.set_cons_succ]
            refine wpAnyH_take (i := 5) (oi := ⟨_, _, _, _, _, _⟩) (v := ?_) rfl (by kernel_rfl) (by kernel_rfl) (by kernel_rfl) (fun _ _ _ h => h) (Or.inl ⟨by rfl, ?_⟩) hHeld ?_
            rotate_left
            · intro w' hSw
              try dsimp only at hSw
              go_simp
              all_goals with_reducible rfl
            simp only [Act.put, List.setIfInBounds_toArray, List.set_cons_zero, List.set_cons_succ]
            refine wpAnyH_take (i := 6) (oi := ⟨_, _, _, _, _, _⟩) (v := ?_) rfl (by kernel_rfl) (by kernel_rfl) (by kernel_rfl) (fun _ _ _ h => h) (Or.inl ⟨by rfl, ?_⟩) hHeld ?_
            rotate_left
            · intro w' hSw
              try dsimp only at hSw
              go_simp
              all_goals with_reducible rfl
            simp only [Act.put, List.setIfInBounds_toArray, List.set_cons_zero, List.set_cons_succ]
            refine wpAnyH_take (i := 7) (oi := ⟨_, _, _, _, _, _⟩) (v := ?_) rfl (by kernel_rfl) (by kernel_rfl) (by kernel_rfl) (fun _ _ _ h => h) (Or.inl ⟨by rfl, ?_⟩) hHeld ?_
            rotate_left
            · intro w' hSw
              try dsimp only at hSw
              go_simp
              all_goals with_reducible rfl
            simp only [Act.put, List.setIfInBounds_toArray, List.set_cons_zero, List.set_cons_succ]
            refine wpAnyH_ready (rs := [9]) (by kernel_rfl) (by simp) ?_
            refine AllReadyH.cons (o := ⟨_, _, _, _, _, _⟩) rfl (fun K hK => ?_) AllReadyH.nil
            have k0 := K914.out
            have f0 := row_frozen (i := 0) k0
            have f1 := row_frozen (i := 1) k0
            have f2 := row_frozen (i := 2) k0
            obtain ⟨t0, t1, t2⟩ := lblk_at k0
            go_simp
            clear f0 f1 f2 t0 t1 t2
            have KZ := Hid.of (lblk_set (n' := pn) (s' := .slice psa LN psc) (f' := .slice pfa LM pfc) k0)
            have gz := setL_grown w914 y pn (.slice psa LN psc) (.slice pfa LM pfc)
            have CSZ := Hid.of (CS914.out.grown gz (fun x hx c => by have h1 := Option.some.inj c; have h2 := HLZ.out x hx; omega))
            have BZ : Hid (Below w.heap.size w (setL w914 y pn (.slice psa LN psc) (.slice pfa LM pfc))) := Hid.of (B914.out.grown gz B914.out.size (fun k hk => by cases hk; exact HLY.out))
            have LZ : Hid (PlanRow (setL w914 y pn (.slice psa LN psc) (.slice pfa LM pfc)) (.agg #[.string pn, .slice psa LN psc, .slice pfa LM pfc]) pl) := Hid.of (plan_off k0 gz L914.out)
            clear gz k0
            unfold setL at KZ CSZ BZ LZ
            clear hHeld d0 d1
            have d0 := (CSZ.out).head
            have d1 := ((CSZ.out).tail).head
            refine hK.out _ _ ⟨d0, d1⟩ (fun hHeld => ?_)
            clear hK K
            try simp only [Act.put, List.setIfInBounds_toArray, List.set_cons_zero, List.set_cons_succ]
            refine wpAnyH_take (i := 10) (oi := ⟨_, _, _, _, _, _⟩) (v := ?_) rfl (by kernel_rfl) (by kernel_rfl) (by kernel_rfl) (fun _ _ _ h => h) (Or.inl ⟨by rfl, ?_⟩) hHeld ?_
            rotate_left
            · intro w' hSw
              try dsimp only at hSw
              go_simp
              all_goals with_reducible rfl
            simp only [Act.put, List.setIfInBounds_toArray, List.set_cons_zero, List.set_cons_succ]
            refine wpAnyH_done (by kernel_rfl) ?_ _
            refine NoPanic.normal ?_
            clear hHeld d0 d1
            go_wp2_with fail
            go_meet
            exact ⟨y, pn, psa, pfa, psc, pfc, rfl, rfl, Hid.of ⟨Dc.app CSZ.out (Dc.app (Dc.one KZ.out (i := 0) rfl) (Dc.app (Dc.one KZ.out (i := 1) rfl) (Dc.one KZ.out (i := 2) rfl))), LZ.out, BZ.out⟩⟩
        · go_simp
          obtain ⟨y, hy⟩ : ∃ y, (w2).heap.size = y := ⟨_, rfl⟩
          obtain ⟨w915, hw915⟩ : ∃ w915, (w2.alloc (.cells #[.string ⟨#[]⟩, .slice none 0 0, .slice none 0 0] 29)).drew = w915 := ⟨_, rfl⟩
          have hx915 : (w2.drew).alloc (.cells #[.string ⟨#[]⟩, .slice none 0 0, .slice none 0 0] 29) = w915 := hw915
          have b915 : Below (w2.drew).heap.size (w2.drew) w915 := by rw [← hx915]; exact (Below.refl _ _).alloc (Nat.le_refl _) _
          have K915 : Hid (w915.heap[y]? = some (.cells #[.string ⟨#[]⟩, .slice none 0 0, .slice none 0 0] 29 (0, 0))) := Hid.of (by rw [← hx915, ← hy]; exact (MapKept.heap_alloc (w2.drew) _).1)
          have HLY : Hid (w.heap.size ≤ y) := Hid.of (by rw [← hy]; exact BD.out.size)
          have HLZ : Hid (∀ x ∈ ([(⟨Z, 0, none⟩, .string tn), (⟨Z, 1, none⟩, .slice ta N tc)] : List (Addr × Value)), x.1.block < y) := Hid.of (fun x hx => by rw [← hy]; exact (CSD.out x hx).1)
          rw [hw915, hy]
          clear hw915 hx915 hy
          have B915 := Hid.of (BD.out.trans (b915.mono BD.out.size))
          have CS915 := Hid.of (CSD.out.next b915)
          have T915 := Hid.of (TD.out.kept b915)
          clear b915 BD CSD TD
          clear hHeld d0 d1
          have d0 := (CS915.out).head
          have d1 := ((CS915.out).tail).head
          refine hK.out _ _ ⟨d0, d1⟩ (fun hHeld => ?_)
          clear hK K
          try simp only [Act.put, List.setIfInBounds_toArray, List.set_cons_zero, List.set_cons_succ]
          refine wpAnyH_ready (rs := [0]) (by kernel_rfl) (by simp) ?_
          refine AllReadyH.cons (o := ⟨_, _, _, _, _, _⟩) rfl (fun K hK => ?_) AllReadyH.nil
          go_simp
          refine (Web_any _).mono ?_
          rintro e w916 ⟨v4, rfl, pr, b916⟩
          have P916 := Hid.of pr
          clear pr
          have B916 := Hid.of (B915.out.trans (b916.mono B915.out.size))
          have CS916 := Hid.of (CS915.out.next b916)
          have T916 := Hid.of (T915.out.kept b916)
          have K916 := Hid.of (lblk_next K915.out b916)
          clear b916 B915 CS915 T915 K915
          clear hHeld d0 d1
          have d0 := (CS916.out).head
          have d1 := ((CS916.out).tail).head
          refine hK.out _ _ ⟨d0, d1⟩ (fun hHeld => ?_)
          clear hK K
          try simp only [Act.put, List.setIfInBounds_toArray, List.set_cons_zero, List.set_cons_succ]
          refine wpAnyH_ready (rs := [1]) (by kernel_rfl) (by simp) ?_
          refine AllReadyH.cons (o := ⟨_, _, _, _, _, _⟩) rfl (fun K hK => ?_) AllReadyH.nil
          go_simp
          refine (Web_any _).mono ?_
          rintro e w917 ⟨v5, rfl, pr, b917⟩
          have Q917 := Hid.of pr
          clear pr
          have B917 := Hid.of (B916.out.trans (b917.mono B916.out.size))
          have CS917 := Hid.of (CS916.out.next b917)
          have T917 := Hid.of (T916.out.kept b917)
          have K917 := Hid.of (lblk_next K916.out b917)
          have P917 := Hid.of (P916.out.kept b917)
          clear b917 B916 CS916 T916 K916 P916
          clear hHeld d0 d1
          have d0 := (CS917.out).head
          have d1 := ((CS917.out).tail).head
          refine hK.out _ _ ⟨d0, d1⟩ (fun hHeld => ?_)
          clear hK K
          try simp only [Act.put, List.setIfInBounds_toArray, List.set_cons_zero, List.set_cons_succ]
          refine wpAnyH_ready (rs := [2]) (by kernel_rfl) (by simp) ?_
          refine AllReadyH.cons (o := ⟨_, _, _, _, _, _⟩) rfl (fun K hK => ?_) AllReadyH.nil
          go_simp
          refine (reaches.of _ _ webPol 100 [] _ trivial FR.out Q917.out ⟨_, _, rfl, .inl rfl⟩ (Nat.le_refl _)).mono ?_
          rintro e w918 ⟨u7, rfl, ou, b918⟩
          have R918 := Hid.of ou.row
          clear ou
          have B918 := Hid.of (B917.out.trans (b918.mono B917.out.size))
          have CS918 := Hid.of (CS917.out.next b918)
          have T918 := Hid.of (T917.out.kept b918)
          have K918 := Hid.of (lblk_next K917.out b918)
          have P918 := Hid.of (P917.out.kept b918)
          clear b918 B917 CS917 T917 K917 P917
          clear Q917
          clear hHeld d0 d1
          have d0 := (CS918.out).head
          have d1 := ((CS918.out).tail).head
          refine hK.out _ _ ⟨d0, d1⟩ (fun hHeld => ?_)
          clear hK K
          try simp only [Act.put, List.setIfInBounds_toArray, List.set_cons_zero, List.set_cons_succ]
          refine wpAnyH_ready (rs := [4]) (by kernel_rfl) (by simp) ?_
          refine AllReadyH.cons (o := ⟨_, _, _, _, _, _⟩) rfl (fun K hK => ?_) AllReadyH.nil
          go_simp
          refine (make_any _ _ _ webPol q (100, webPol, []) _ FW.out SP.out FR.out P918.out R918.out T918.out).mono ?_
          rintro e w919 ⟨u6, rfl, ou, b919⟩
          rw [MK.out.1]
          rw [MK.out.2] at ou
          have L919 := Hid.of ou.row
          clear ou
          obtain ⟨ps, pf, hu, hps, hpf, -⟩ := L919.out
          subst hu
          obtain ⟨psa, psc, rfl, -⟩ := hps
          obtain ⟨pfa, pfc, rfl, -⟩ := hpf
          unfold plVal at L919 ⊢
          obtain ⟨pn, hpn⟩ : ∃ pn, pl.1.1 = pn := ⟨_, rfl⟩
          rw [hpn, LL.out.1, LL.out.2] at L919 ⊢
          clear hpn
          have B919 := Hid.of (B918.out.trans (b919.mono B918.out.size))
          have CS919 := Hid.of (CS918.out.next b919)
          have K919 := Hid.of (lblk_next K918.out b919)
          clear b919 B918 CS918 K918
          clear P918 R918 T918
          clear hHeld d0 d1
          have d0 := (CS919.out).head
          have d1 := ((CS919.out).tail).head
          refine hK.out _ _ ⟨d0, d1⟩ (fun hHeld => ?_)
          clear hK K
          try simp only [Act.put, List.setIfInBounds_toArray, List.set_cons_zero, List.set_cons_succ]
          refine wpAnyH_take (i := 5) (oi := ⟨_, _, _, _, _, _⟩) (v := ?_) rfl (by kernel_rfl) (by kernel_rfl) (by kernel_rfl) (fun _ _ _ h => h) (Or.inl ⟨by rfl, ?_⟩) hHeld ?_
          rotate_left
          · intro w' hSw
            try dsimp only at hSw
            go_simp
            all_goals with_reducible rfl
          simp only [Act.put, List.setIfInBounds_toArray, List.set_cons_zero, List.set_cons_succ]
          refine wpAnyH_take (i := 6) (oi := ⟨_, _, _, _, _, _⟩) (v := ?_) rfl (by kernel_rfl) (by kernel_rfl) (by kernel_rfl) (fun _ _ _ h => h) (Or.inl ⟨by rfl, ?_⟩) hHeld ?_
          rotate_left
          · intro w' hSw
            try dsimp only at hSw
            go_simp
            all_goals with_reducible rfl
          simp only [Act.put, List.setIfInBounds_toArray, List.set_cons_zero, List.set_cons_succ]
          refine wpAnyH_take (i := 7) (oi := ⟨_, _, _, _, _, _⟩) (v := ?_) rfl (by kernel_rfl) (by kernel_rfl) (by kernel_rfl) (fun _ _ _ h => h) (Or.inl ⟨by rfl, ?_⟩) hHeld ?_
          rotate_left
          · intro w' hSw
            try dsimp only at hSw
            go_simp
            all_goals with_reducible rfl
          simp only [Act.put, List.setIfInBounds_toArray, List.set_cons_zero, List.set_cons_succ]
          refine wpAnyH_ready (rs := [9]) (by kernel_rfl) (by simp) ?_
          refine AllReadyH.cons (o := ⟨_, _, _, _, _, _⟩) rfl (fun K hK => ?_) AllReadyH.nil
          have k0 := K919.out
          have f0 := row_frozen (i := 0) k0
          have f1 := row_frozen (i := 1) k0
          have f2 := row_frozen (i := 2) k0
          obtain ⟨t0, t1, t2⟩ := lblk_at k0
          go_simp
          clear f0 f1 f2 t0 t1 t2
          have KZ := Hid.of (lblk_set (n' := pn) (s' := .slice psa LN psc) (f' := .slice pfa LM pfc) k0)
          have gz := setL_grown w919 y pn (.slice psa LN psc) (.slice pfa LM pfc)
          have CSZ := Hid.of (CS919.out.grown gz (fun x hx c => by have h1 := Option.some.inj c; have h2 := HLZ.out x hx; omega))
          have BZ : Hid (Below w.heap.size w (setL w919 y pn (.slice psa LN psc) (.slice pfa LM pfc))) := Hid.of (B919.out.grown gz B919.out.size (fun k hk => by cases hk; exact HLY.out))
          have LZ : Hid (PlanRow (setL w919 y pn (.slice psa LN psc) (.slice pfa LM pfc)) (.agg #[.string pn, .slice psa LN psc, .slice pfa LM pfc]) pl) := Hid.of (plan_off k0 gz L919.out)
          clear gz k0
          unfold setL at KZ CSZ BZ LZ
          clear hHeld d0 d1
          have d0 := (CSZ.out).head
          have d1 := ((CSZ.out).tail).head
          refine hK.out _ _ ⟨d0, d1⟩ (fun hHeld => ?_)
          clear hK K
          try simp only [Act.put, List.setIfInBounds_toArray, List.set_cons_zero, List.set_cons_succ]
          refine wpAnyH_take (i := 10) (oi := ⟨_, _, _, _, _, _⟩) (v := ?_) rfl (by kernel_rfl) (by kernel_rfl) (by kernel_rfl) (fun _ _ _ h => h) (Or.inl ⟨by rfl, ?_⟩) hHeld ?_
          rotate_left
          · intro w' hSw
            try dsimp only at hSw
            go_simp
            all_goals with_reducible rfl
          simp only [Act.put, List.setIfInBounds_toArray, List.set_cons_zero, List.set_cons_succ]
          refine wpAnyH_done (by kernel_rfl) ?_ _
          refine NoPanic.normal ?_
          clear hHeld d0 d1
          go_wp2_with fail
          go_meet
          exact ⟨y, pn, psa, pfa, psc, pfc, rfl, rfl, Hid.of ⟨Dc.app CSZ.out (Dc.app (Dc.one KZ.out (i := 0) rfl) (Dc.app (Dc.one KZ.out (i := 1) rfl) (Dc.one KZ.out (i := 2) rfl))), LZ.out, BZ.out⟩⟩
      case rest =>
        obtain ⟨y, pn, psa, pfa, psc, pfc, rfl, rfl, H⟩ := hcut
        clear B0 CS0 T0
        have FM : Hid (MFit pl) := Hid.of (by
          rw [← MK.out.2]
          unfold mMake
          split
          · refine ⟨SP.out, by rw [List.length_map]; exact SP.out.1, fun x hx => ?_⟩
            obtain ⟨z, hz, rfl⟩ := List.mem_map.1 hx
            exact fur_in _ _ _ (by unfold webPol; decide)
          · exact ⟨⟨by simp, by decide, fun x hx => by cases hx⟩, by simp, fun x hx => by cases hx⟩)
        by_cases he : er = 0
        case neg =>
          have he2 : (er == 0) = false := beq_eq_false_iff_ne.2 he
          have Z0 : Hid (mSteps pl = 0) := Hid.of (by rw [← MK.out.2]; unfold mMake; rw [if_neg (by rw [MK.out.1]; exact he)]; rfl)
          go_wp2_with fail
          refine (planAlive_any _).mono ?_
          rintro e w3 ⟨rfl, b3⟩
          have H3 := Hid.of (H.out.next b3)
          clear b3 H
          obtain ⟨-, -, c2, c3, c4⟩ := H3.out.at
          go_wp2_with fail
          refine (steps_any _ pl _ H3.out.l FM.out).mono ?_
          rintro e w4 ⟨rfl, b4⟩
          have H4 := Hid.of (H3.out.next b4)
          rw [Z0.out]
          clear b4 H3 c2 c3 c4
          go_wp2
          go_ret
          exact ⟨rfl, H4.out.fr⟩
        subst he
        have SO : Hid (StepsOk q pl) := Hid.of (by
          have hq := (mErr_zero MK.out.1).2
          refine ⟨shOk_of hq, ?_, SM.out.1, by rw [← MK.out.2, mMake_ok MK.out.1]⟩
          intro c
          have := (pCheck_ok hq).2.2.1
          rw [c] at this
          exact absurd this (by decide))
        have HS : Hid (CellRow w (.slice ta N tc) N (flat penc q.2)) := HSL
        have n10 : N ≤ 10 := by have := SM.out.1; rw [NQ.out] at this; exact this
        go_upto_region 8 with fail
        go_loopg [9, 10] N (fun kx nv jv wr => ∃ (j : Nat) (m : Int), jv = .int .i64 j ∧ nv = .int .i64 m ∧ j ≤ N ∧ N - j ≤ kx ∧ Hid (m = shSum (q.2.take j)) ∧ Hid (SPl w Z y tn (.slice ta N tc) pn (.slice psa LN psc) (.slice pfa LM pfc) pl wr))
        case atStart => exact ⟨0, 0, rfl, rfl, Nat.zero_le _, Nat.le_refl _, Hid.of rfl, H⟩
        case round =>
          clear H
          obtain ⟨j, m, rfl, rfl, hj, hk, HM, H⟩ := hrel
          have j0 : (0 : Int) ≤ (j : Int) := Int.natCast_nonneg _
          obtain ⟨c0, c1, c2, c3, c4⟩ := H.out.at
          by_cases hlt : (j : Int) < (N : Int)
          · obtain ⟨t, ht⟩ : ∃ t, q.2[j]? = some t := ⟨_, List.getElem?_eq_getElem (by have := NQ.out; omega)⟩
            obtain ⟨t0, ev, t2, sh⟩ := t
            have HT := Hid.of ht
            have HSH : Hid (1 ≤ sh ∧ sh ≤ 8) := Hid.of (SO.out.ok _ (List.mem_of_getElem? ht))
            have HM8 : Hid (0 ≤ m ∧ m ≤ 80) := Hid.of (by
              have h1 := shSum_ge (l := q.2.take j) (fun z hz => SO.out.ok z (List.mem_of_mem_take hz))
              rw [List.length_take] at h1
              have := HM.out
              omega)
            have HJ : Hid (j < N) := Hid.of (by omega)
            have sh0 : 0 ≤ sh := by have := HSH.out; omega
            clear ht
            go_upto_region 11 with fail
            clear c0 c1 c2 c3 c4
            go_loopg [9, 11] sh.toNat (fun ky nv kv wr => ∃ (k : Nat) (m' : Int), kv = .int .i64 k ∧ nv = .int .i64 m' ∧ (k : Int) ≤ sh ∧ sh.toNat - k ≤ ky ∧ Hid (m' = m + k) ∧ Hid (SPl w Z y tn (.slice ta N tc) pn (.slice psa LN psc) (.slice pfa LM pfc) pl wr))
            case atStart => exact ⟨0, m, rfl, rfl, by omega, Nat.le_refl _, Hid.of (by omega), H⟩
            case round =>
              clear H
              obtain ⟨k, m', rfl, rfl, hks, hky, HM', H⟩ := hrel
              have k0 : (0 : Int) ≤ (k : Int) := Int.natCast_nonneg _
              obtain ⟨c0, c1, c2, c3, c4⟩ := H.out.at
              obtain ⟨b1, o1, hta, g1, d0, d1, d2, d3⟩ := p_at (HS.out.kept H.out.fr) j _ HT.out
              subst hta
              simp only at d0 d1 d2 d3
              clear d0 d1 d2 g1
              have hmb : 0 ≤ m' ∧ m' ≤ 88 := by have h1 := HM'.out; have h2 := HM8.out; have h3 := HSH.out; omega
              have HMB := Hid.of hmb
              obtain ⟨hm0, hm1⟩ := hmb
              by_cases hl2 : (k : Int) < sh
              · have AT : Hid (mAt pl m' = ((1, (j : Int), (k : Int)), true)) := Hid.of (by rw [HM'.out, HM.out]; exact SO.out.fill HT.out k0 hl2)
                have HKS := Hid.of hl2
                have hk8 : (k : Int) ≤ 8 := by have := HSH.out; omega
                go_wp2_with fail
                refine (at_any _ pl m' _ H.out.l FM.out (by have := HMB.out; unfold I64; omega)).mono ?_
                rintro e w5 ⟨rfl, b5⟩
                rw [AT.out]
                unfold atVal
                simp only
                have H5 := Hid.of (H.out.next b5)
                clear b5 H c0 c1 c2 c3 c4 d3
                obtain ⟨x, hx⟩ : ∃ x, w5.heap.size = x := ⟨_, rfl⟩
                obtain ⟨w6, hw6⟩ : ∃ w6, w5.alloc (.cells #[.int .i64 1, .int .i64 j, .int .i64 k] 41) = w6 := ⟨_, rfl⟩
                have b6 : Below w5.heap.size w5 w6 := by rw [← hw6]; exact (Below.refl _ _).alloc (Nat.le_refl _) _
                have V6 : Hid (SBlk w6 x 1 j k) := Hid.of (by rw [← hw6, ← hx]; exact (MapKept.heap_alloc w5 _).1)
                have H6 := Hid.of (H5.out.next b6)
                have HW := Hid.of hw6
                have HX := Hid.of hx
                clear b6 H5 hw6 hx
                go_upto_region 14 with fail
                rw [HW.out, HX.out]
                clear HW HX
                obtain ⟨s0, s1, s2⟩ := sblk_at V6.out
                go_wp2
                go_roundg (sh.toNat - (k + 1))
                case measure => have := HKS.out; omega
                case rel => exact ⟨k + 1, m' + 1, by go_num, by go_num, by have := HKS.out; omega, Nat.le_refl _, Hid.of (by have := HM'.out; omega), H6⟩
              · have hke : (k : Int) = sh := by omega
                have HM2 : Hid (m' = shSum (q.2.take (j + 1))) := Hid.of (by rw [shSum_take HT.out, HM'.out, HM.out, hke])
                go_wp2
                go_roundg (N - (j + 1))
                case measure => have := HJ.out; omega
                case rel => exact ⟨j + 1, m', by go_num, rfl, HJ.out, Nat.le_refl _, HM2, H⟩
          · obtain rfl : j = N := by omega
            have HM2 : Hid (m = shSum q.2) := Hid.of (by rw [HM.out, ← NQ.out, List.take_length])
            have hmb : 1 ≤ m ∧ m ≤ 80 := by have := SO.out.sum; have := HM2.out; omega
            have HMB := Hid.of hmb
            obtain ⟨hm0, hm1⟩ := hmb
            have A0 : Hid (mAt pl (m) = ((2, 0, 0), true)) := Hid.of (by have := SO.out.end_ (m := 0) (Int.le_refl _); rw [Int.add_zero, ← HM2.out] at this; exact this)
            obtain ⟨c0, c1, c2, c3, c4⟩ := H.out.at
            go_wp2_with fail
            refine (at_any _ pl (m) _ H.out.l FM.out (by have := HMB.out; unfold I64; omega)).mono ?_
            rintro e w0a ⟨rfl, b0a⟩
            rw [A0.out]
            unfold atVal
            simp only
            have H0a := Hid.of (H.out.next b0a)
            clear b0a H c0 c1 c2 c3 c4 A0
            obtain ⟨x0, hx⟩ : ∃ x, w0a.heap.size = x := ⟨_, rfl⟩
            obtain ⟨w0b, hw⟩ : ∃ w, w0a.alloc (.cells #[.int .i64 2, .int .i64 0, .int .i64 0] 41) = w := ⟨_, rfl⟩
            have bb : Below w0a.heap.size w0a w0b := by rw [← hw]; exact (Below.refl _ _).alloc (Nat.le_refl _) _
            have V0a : Hid (SBlk w0b x0 2 0 0) := Hid.of (by rw [← hw, ← hx]; exact (MapKept.heap_alloc w0a _).1)
            have H0b := Hid.of (H0a.out.next bb)
            have HW := Hid.of hw
            have HX := Hid.of hx
            clear bb H0a hw hx
            go_upto_region 18 with fail
            rw [HW.out, HX.out]
            clear HW HX
            have A1 : Hid (mAt pl (m + 1) = ((3, 0, 0), true)) := Hid.of (by have := SO.out.end_ (m := 1) (by omega); rw [← HM2.out] at this; exact this)
            obtain ⟨c0, c1, c2, c3, c4⟩ := H0b.out.at
            go_wp2_with fail
            refine (at_any _ pl (m + 1) _ H0b.out.l FM.out (by have := HMB.out; unfold I64; omega)).mono ?_
            rintro e w1a ⟨rfl, b1a⟩
            rw [A1.out]
            unfold atVal
            simp only
            have H1a := Hid.of (H0b.out.next b1a)
            have V0b := Hid.of (sblk_next V0a.out b1a)
            clear b1a H0b c0 c1 c2 c3 c4 A1 V0a
            obtain ⟨x1, hx⟩ : ∃ x, w1a.heap.size = x := ⟨_, rfl⟩
            obtain ⟨w1b, hw⟩ : ∃ w, w1a.alloc (.cells #[.int .i64 3, .int .i64 0, .int .i64 0] 41) = w := ⟨_, rfl⟩
            have bb : Below w1a.heap.size w1a w1b := by rw [← hw]; exact (Below.refl _ _).alloc (Nat.le_refl _) _
            have V1b : Hid (SBlk w1b x1 3 0 0) := Hid.of (by rw [← hw, ← hx]; exact (MapKept.heap_alloc w1a _).1)
            have V0b := Hid.of (sblk_next V0b.out bb)
            have H1b := Hid.of (H1a.out.next bb)
            have HW := Hid.of hw
            have HX := Hid.of hx
            clear bb H1a hw hx
            go_upto_region 19 with fail
            rw [HW.out, HX.out]
            clear HW HX
            have A2 : Hid (mAt pl (m + 2) = ((0, 0, 0), false)) := Hid.of (by have := SO.out.end_ (m := 2) (by omega); rw [← HM2.out] at this; exact this)
            obtain ⟨c0, c1, c2, c3, c4⟩ := H1b.out.at
            go_wp2_with fail
            refine (at_any _ pl (m + 2) _ H1b.out.l FM.out (by have := HMB.out; unfold I64; omega)).mono ?_
            rintro e w2a ⟨rfl, b2a⟩
            rw [A2.out]
            unfold atVal
            simp only
            have H2a := Hid.of (H1b.out.next b2a)
            have V0c := Hid.of (sblk_next V0b.out b2a)
            have V1c := Hid.of (sblk_next V1b.out b2a)
            clear b2a H1b c0 c1 c2 c3 c4 A2 V0b V1b
            obtain ⟨x2, hx⟩ : ∃ x, w2a.heap.size = x := ⟨_, rfl⟩
            obtain ⟨w2b, hw⟩ : ∃ w, w2a.alloc (.cells #[.int .i64 0, .int .i64 0, .int .i64 0] 41) = w := ⟨_, rfl⟩
            have bb : Below w2a.heap.size w2a w2b := by rw [← hw]; exact (Below.refl _ _).alloc (Nat.le_refl _) _
            have V0c := Hid.of (sblk_next V0c.out bb)
            have V1c := Hid.of (sblk_next V1c.out bb)
            have H2b := Hid.of (H2a.out.next bb)
            have HW := Hid.of hw
            have HX := Hid.of hx
            clear bb H2a hw hx
            go_upto_region 20 with fail
            rw [HW.out, HX.out]
            clear HW HX
            have A3 : Hid (mAt pl (-1) = ((0, 0, 0), false)) := Hid.of (at_neg pl)
            obtain ⟨c0, c1, c2, c3, c4⟩ := H2b.out.at
            go_wp2_with fail
            refine (at_any _ pl (-1) _ H2b.out.l FM.out (by have := HMB.out; unfold I64; omega)).mono ?_
            rintro e w3a ⟨rfl, b3a⟩
            rw [A3.out]
            unfold atVal
            simp only
            have H3a := Hid.of (H2b.out.next b3a)
            have V0d := Hid.of (sblk_next V0c.out b3a)
            have V1d := Hid.of (sblk_next V1c.out b3a)
            clear b3a H2b c0 c1 c2 c3 c4 A3 V0c V1c
            obtain ⟨x3, hx⟩ : ∃ x, w3a.heap.size = x := ⟨_, rfl⟩
            obtain ⟨w3b, hw⟩ : ∃ w, w3a.alloc (.cells #[.int .i64 0, .int .i64 0, .int .i64 0] 41) = w := ⟨_, rfl⟩
            have bb : Below w3a.heap.size w3a w3b := by rw [← hw]; exact (Below.refl _ _).alloc (Nat.le_refl _) _
            have V0d := Hid.of (sblk_next V0d.out bb)
            have V1d := Hid.of (sblk_next V1d.out bb)
            have H3b := Hid.of (H3a.out.next bb)
            have HW := Hid.of hw
            have HX := Hid.of hx
            clear bb H3a hw hx
            go_upto_region 21 with fail
            rw [HW.out, HX.out]
            clear HW HX
            have ST : Hid (mSteps pl = m + 2) := Hid.of (by rw [SO.out.steps, HM2.out])
            obtain ⟨c0, c1, c2, c3, c4⟩ := H3b.out.at
            obtain ⟨s0, s1, s2⟩ := sblk_at V0d.out
            obtain ⟨t0, t1, t2⟩ := sblk_at V1d.out
            go_wp2_with fail
            refine (steps_any _ pl _ H3b.out.l FM.out).mono ?_
            rintro e w5 ⟨rfl, b5⟩
            rw [ST.out]
            have H5 := Hid.of (H3b.out.next b5)
            clear b5 H3b c0 c1 c2 c3 c4 s0 s1 s2 t0 t1 t2 V0d V1d ST
            obtain ⟨c0, c1, c2, c3, c4⟩ := H5.out.at
            by_cases t0 : tier < 0
            · go_wp2_with fail
              refine (BAD.out _ H5.out.fr).mono ?_
              rintro e w6 ⟨rfl, b6⟩
              go_wp2
              go_ret
              exact ⟨rfl, b6⟩
            by_cases tN : (j : Int) ≤ tier
            · go_wp2_with fail
              refine (BAD.out _ H5.out.fr).mono ?_
              rintro e w6 ⟨rfl, b6⟩
              go_wp2
              go_ret
              exact ⟨rfl, b6⟩
            obtain ⟨ti, rfl⟩ : ∃ ti : Nat, tier = (ti : Int) := ⟨tier.toNat, by omega⟩
            obtain ⟨t, ht⟩ : ∃ t, q.2[ti]? = some t := ⟨_, List.getElem?_eq_getElem (by have := NQ.out; omega)⟩
            obtain ⟨th, h1, h2, h3⟩ := SO.out.filled ht sn
            have TH : Hid (0 ≤ th ∧ th < m) := Hid.of ⟨h1, by rw [HM2.out]; exact h2⟩
            have FIL := Hid.of h3
            clear ht h1 h2 h3
            have d1 : decide (j ≤ ti) = false := decide_eq_false (by omega)
            have d2 : decide ((ti : Int) < 0) = false := decide_eq_false (by omega)
            go_upto_region 27 with fail
            clear c0 c1 c2 c3 c4 t0 tN d1 d2
            go_loopg [22, 23] (m + 1).toNat (fun ky bv kv wr => ∃ (k : Nat), kv = .int .i64 k ∧ bv = .bool (decide (th < (k : Int) - 1)) ∧ (k : Int) ≤ m + 1 ∧ (m + 1).toNat - k ≤ ky ∧ Hid (SPl w Z y tn (.slice ta j tc) pn (.slice psa LN psc) (.slice pfa LM pfc) pl wr))
            case atStart => exact ⟨0, rfl, by rw [decide_eq_false (by have := TH.out; omega)], by omega, Nat.le_refl _, H5⟩
            case round =>
              clear H5
              obtain ⟨k, rfl, rfl, hks, hky, H⟩ := hrel
              have k0 : (0 : Int) ≤ (k : Int) := Int.natCast_nonneg _
              obtain ⟨c0, c1, c2, c3, c4⟩ := H.out.at
              by_cases hl2 : (k : Int) ≤ m
              · have HKS := Hid.of hl2
                go_wp2_with fail
                refine (filled_any _ pl k ti sn _ H.out.l FM.out HSN.out).mono ?_
                rintro e w6 ⟨rfl, b6⟩
                rw [FIL.out]
                have H6 := Hid.of (H.out.next b6)
                clear b6 H c0 c1 c2 c3 c4
                by_cases hw1 : th < (k : Int) - 1
                · have hw2 : th < (k : Int) := by omega
                  have HW2 := Hid.of hw2
                  rw [decide_eq_true hw1, decide_eq_true hw2]
                  clear hw1 hw2
                  go_wp2
                  go_roundg ((m + 1).toNat - (k + 1))
                  case measure => have := HKS.out; omega
                  case rel => exact ⟨k + 1, by go_num, by rw [decide_eq_true (by have := HW2.out; omega)], by have := HKS.out; omega, Nat.le_refl _, H6⟩
                · rw [decide_eq_false hw1]
                  obtain ⟨fb, hfb⟩ : ∃ fb, decide (th < (k : Int)) = fb := ⟨_, rfl⟩
                  have HFB : Hid (Value.bool fb = .bool (decide (th < ((k + 1 : Nat) : Int) - 1))) := Hid.of (by rw [← hfb, show ((k + 1 : Nat) : Int) - 1 = (k : Int) by omega])
                  rw [hfb]
                  clear hfb hw1
                  go_wp2
                  go_roundg ((m + 1).toNat - (k + 1))
                  case measure => have := HKS.out; omega
                  case rel => exact ⟨k + 1, by go_num, HFB.out, by have := HKS.out; omega, Nat.le_refl _, H6⟩
              · have hke : (k : Int) - 1 = m := by omega
                have hth : th < m := TH.out.2
                rw [hke, decide_eq_true hth]
                have FZ : Hid (mFilled pl 0 ti sn = false) := Hid.of (by rw [FIL.out, decide_eq_false (by have := TH.out; omega)])
                clear hth hke
                go_wp2_with fail
                refine (planAlive_any _).mono ?_
                rintro e w6 ⟨rfl, b6⟩
                have H6 := Hid.of (H.out.next b6)
                clear b6 H c0 c1 c2 c3 c4
                obtain ⟨c0, c1, c2, c3, c4⟩ := H6.out.at
                go_wp2_with fail
                refine (filled_any _ pl 0 ti sn _ H6.out.l FM.out HSN.out).mono ?_
                rintro e w7 ⟨rfl, b7⟩
                rw [FZ.out]
                have H7 := Hid.of (H6.out.next b7)
                clear b7
                go_wp2
                go_ret
                exact ⟨rfl, H7.out.fr⟩

end Go.Proofs.Ytiomoobeklpkmaa
