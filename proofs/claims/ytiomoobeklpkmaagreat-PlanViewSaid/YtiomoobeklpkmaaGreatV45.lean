/-
 A bundle of texts: QAL.
-/
import Derived.Test.YtiomoobeklpkmaaGreatV43
import Derived.Test.YtiomoobeklpkmaaGreatV05
namespace Go.Proofs.YtiomoobeklpkmaaGreat
open Go.RowKit Go.Lib

def fifPol : PolL := (⟨#[112]⟩, [(⟨#[114, 97, 119]⟩, 1, 50, 1), (⟨#[102, 105, 102, 116, 105, 101, 115]⟩, 50, 5000, 3)])

theorem fif_fit : PFit fifPol := by
 refine ⟨by decide, by decide, ?_⟩
 intro x hx
 unfold fifPol at hx
 simp only [List.mem_cons, List.not_mem_nil, or_false] at hx
 rcases hx with rfl | rfl
 ·exact ⟨by decide, ⟨by decide, by decide⟩, ⟨by decide, by decide⟩, ⟨by decide, by decide⟩⟩
 ·exact ⟨by decide, ⟨by decide, by decide⟩, ⟨by decide, by decide⟩, ⟨by decide, by decide⟩⟩

theorem fif_make : mErr webPol fifPol = 0 ∧ mMake webPol webReach fifPol = (fifPol, [0, 1]) := by decide +kernel
theorem fif_tells : mSteps (fifPol, [0, 1]) = 6 ∧ mAt (fifPol, [0, 1]) 1 = ((1, 1, 0), true) ∧ mBases (fifPol, [0, 1]) webReach = [150, 0] ∧ mBound (fifPol, [0, 1]) 5 = 14 := by decide +kernel
theorem fif_mfit : MFit (fifPol, [0, 1]) := ⟨fif_fit, by decide, fun x hx => by
 simp only [List.mem_cons, List.not_mem_nil, or_false] at hx
 rcases hx with rfl | rfl <;> exact ⟨by decide, by decide⟩⟩

set_option maxRecDepth 20000 in
set_option maxHeartbeats 800000 in
theorem Fifties_any (w : World) : Calls Tryz.prog 71 #[] w fun e w' => ∃ v, e = .returned v ∧ PolRow w' v fifPol ∧ Below w.heap.size w w' := by
 go_enter Tryz.func71, Tryz.ntmps71
 go_wp2_with fail
 refine bodyPost_ret (results_cell_row (P := Tryz.prog) rfl _ _ w.heap.size 24 #[.string ⟨#[112]⟩, .slice (some ⟨w.heap.size + 1, 0, none⟩) 2 2] (0, 0) _ rfl ((Go.heap_alloc_old _ _ (by simp)).trans (Go.heap_alloc_new _ _)) Tryz.underlying24 rfl (by kernel_rfl)) rfl ?_
 have hs : (w.alloc (.cells #[.string ⟨#[112]⟩, .slice (some ⟨w.heap.size + 1, 0, none⟩) 2 2] 24)).heap.size = w.heap.size + 1 := by simp
 have hc := new_cells (w.alloc (.cells #[.string ⟨#[112]⟩, .slice (some ⟨w.heap.size + 1, 0, none⟩) 2 2] 24)) #[.string ⟨#[114, 97, 119]⟩, .int .i64 1, .int .i64 50, .int .i64 1, .string ⟨#[102, 105, 102, 116, 105, 101, 115]⟩, .int .i64 50, .int .i64 5000, .int .i64 3] 105
 rw [hs] at hc
 exact ⟨_, rfl, ⟨_, rfl, ⟨_, _, rfl, .inr ⟨w.heap.size + 1, 0, rfl, by simp, hc⟩⟩, Nat.le_refl _⟩, ((Below.refl _ _).alloc (Nat.le_refl _) _).alloc (by simp) _⟩

theorem ints_two {w : World} {fa : Option Addr} {fc : Nat} {a b : Int} (h : CellRow w (.slice fa 2 fc) 2 [.int .i64 a, .int .i64 b]) : ∃ g o, fa = some ⟨g, o, none⟩ ∧ Dc w [(⟨g, o, none⟩, .int .i64 a), (⟨g, o + 1, none⟩, .int .i64 b)] := by
 obtain ⟨a', c', hv, h⟩ := h
 cases hv
 rcases h with h | ⟨g, o, rfl, hl, hc⟩
 ·cases h
 ·have h0 := hc 0 (.int .i64 a) rfl
  have h1 := hc 1 (.int .i64 b) rfl
  exact ⟨g, o, rfl, .cons hl h0 (.cons hl h1 (Dc.nil _))⟩

set_option maxRecDepth 20000 in
set_option maxHeartbeats 6400000 in
theorem planAlive_any (w : World) : Calls Tryz.prog 10 #[] w fun e w' => e = .returned (.bool true) ∧ Below w.heap.size w w' := by
 have FT := Hid.of webReach_fit
 have FW := Hid.of web_fit
 have FF := Hid.of fif_fit
 have FM := Hid.of fif_mfit
 have MK := Hid.of fif_make
 obtain ⟨T1, T2, T3, T4⟩ := fif_tells
 have T1 := Hid.of T1
 have T2 := Hid.of T2
 have T3 := Hid.of T3
 have T4 := Hid.of T4
 go_enter Tryz.func10, Tryz.ntmps10
 go_wp2_with fail
 refine (Web_any _).mono ?_
 rintro e w1 ⟨v, rfl, pr, b1⟩
 have PR := Hid.of pr
 have B1 := Hid.of b1
 clear b1 pr
 go_wp2_with fail
 refine (reaches.of _ _ webPol 257 [] _ trivial FT.out PR.out ⟨_, _, rfl, .inl rfl⟩ (Nat.le_refl _)).mono ?_
 rintro e w2 ⟨u, rfl, ou, b2⟩
 have rr := OwnRch.row ou
 obtain ⟨s, f, rfl, o1, o2, -⟩ := ou
 obtain ⟨sa, sc, rfl, -⟩ := own_one o1
 obtain ⟨fa, fc, rfl, -⟩ := own_one o2
 clear o1 o2
 obtain ⟨n, hn⟩ : ∃ n, webPol.1 = n := ⟨_, rfl⟩
 have ev : rVal (257, webPol, []) (.slice sa ((257, webPol, []) : RchL).2.1.2.length sc) (.slice fa ((257, webPol, []) : RchL).2.2.length fc) = .agg #[.int .i64 257, .string n, .slice sa 2 sc, .slice fa 0 fc] := by rw [← hn]; rfl
 rw [ev]
 have X2 : Hid (RchRow w2 (.agg #[.int .i64 257, .string n, .slice sa 2 sc, .slice fa 0 fc]) webReach) := Hid.of (by rw [← ev]; exact rr)
 have B2 := Hid.of (B1.out.trans (b2.mono B1.out.size))
 obtain ⟨z, hz⟩ : ∃ z, w2.heap.size = z := ⟨_, rfl⟩
 obtain ⟨w3, hw3⟩ : ∃ w3, w2.alloc (.cells #[.int .i64 257, .string n, .slice sa 2 sc, .slice fa 0 fc] 47) = w3 := ⟨_, rfl⟩
 have b3 : Below w2.heap.size w2 w3 := by rw [← hw3]; exact (Below.refl _ _).alloc (Nat.le_refl _) _
 have k3 : w3.heap[z]? = some (.cells #[.int .i64 257, .string n, .slice sa 2 sc, .slice fa 0 fc] 47 (0, 0)) := by rw [← hw3, ← hz]; exact (MapKept.heap_alloc w2 _).1
 have X3 := Hid.of (X2.out.kept b3)
 have CS3 : Hid (Dc w3 [(⟨z, 0, none⟩, .int .i64 257), (⟨z, 1, none⟩, .string n), (⟨z, 2, none⟩, .slice sa 2 sc), (⟨z, 3, none⟩, .slice fa 0 fc)]) := Hid.of (Dc.app (Dc.one k3 (i := 0) rfl) (Dc.app (Dc.one k3 (i := 1) rfl) (Dc.app (Dc.one k3 (i := 2) rfl) (Dc.one k3 (i := 3) rfl))))
 have B3 := Hid.of (B2.out.trans (b3.mono B2.out.size))
 have HW := Hid.of hw3
 have HZ := Hid.of hz
 clear b2 B1 PR rr ev hn X2 B2 hw3 hz b3 k3
 go_upto_region 2 with fail
 rw [HW.out, HZ.out]
 clear HW HZ
 have B0 := B3
 have CS0 := CS3
 have X0 := X3
 clear B3 CS3 X3
 go_cut [2, 3] from 9 to 15 (fun pv ev wx => ∃ (y : Nat) (pn : ByteArray) (psa pfa : Option Addr) (psc pfc : Nat), pv = .pointer (some ⟨y, 0, none⟩) ∧ ev = .int .i64 0 ∧ Hid (Dc wx [(⟨z, 0, none⟩, .int .i64 257), (⟨z, 1, none⟩, .string n), (⟨z, 2, none⟩, .slice sa 2 sc), (⟨z, 3, none⟩, .slice fa 0 fc), (⟨y, 0, none⟩, .string pn), (⟨y, 1, none⟩, .slice psa 2 psc), (⟨y, 2, none⟩, .slice pfa 2 pfc)]) ∧ Hid (RchRow wx (.agg #[.int .i64 257, .string n, .slice sa 2 sc, .slice fa 0 fc]) webReach) ∧ Hid (PlanRow wx (.agg #[.string pn, .slice psa 2 psc, .slice pfa 2 pfc]) (fifPol, [0, 1])) ∧ Hid (Below w.heap.size w wx))
 case first =>
  have bD := (Below.refl w3.heap.size w3).drew
  have BD := Hid.of (B0.out.trans (bD.mono B0.out.size))
  have CSD := Hid.of (CS0.out.next bD)
  have XD := Hid.of (X0.out.kept bD)
  clear bD
  have d0 := (CS0.out).head
  have d1 := ((CS0.out).tail).head
  have d2 := (((CS0.out).tail).tail).head
  have d3 := ((((CS0.out).tail).tail).tail).head
  refine wp_region_noPanic ?_
  refine wp_region_held_drew (S := fun w' => w'.cell? ⟨z, 0, none⟩ = some (.int .i64 257) ∧ w'.cell? ⟨z, 1, none⟩ = some (.string n) ∧ w'.cell? ⟨z, 2, none⟩ = some (.slice sa 2 sc) ∧ w'.cell? ⟨z, 3, none⟩ = some (.slice fa 0 fc)) (by kernel_rfl) ?_ (fun hHeld => ?_)
  ·exact ⟨d0, d1, d2, d3⟩
  clear B0 CS0 X0
  refine takeOp 1 (o := ⟨_, _, _, _, _, _⟩) (v := ?_) rfl (by kernel_rfl) (by rfl) hHeld ?_ ?_; rotate_left; (next => intro w' hSw; (try dsimp only at hSw); go_simp; all_goals with_reducible rfl); simp only [Act.put, pA9, pB9, pC9]
  refine wpAnyH_ready (rs := [0, 7]) (by kernel_rfl) (by simp) ?_
  refine AllReadyH.cons (o := ⟨_, _, _, _, _, _⟩) rfl (fun K hK => ?_) (AllReadyH.cons (o := ⟨_, _, _, _, _, _⟩) rfl (fun K hK => ?_) AllReadyH.nil)
  ·go_simp
   refine (Web_any _).mono ?_
   rintro e w91 ⟨v4, rfl, pr, b91⟩
   have P91 := Hid.of pr
   clear pr
   have B91 := Hid.of (BD.out.trans (b91.mono BD.out.size))
   have CS91 := Hid.of (CSD.out.next b91)
   have X91 := Hid.of (XD.out.kept b91)
   clear b91 BD CSD XD
   clear hHeld d0 d1 d2 d3
   have d0 := (CS91.out).head
   have d1 := ((CS91.out).tail).head
   have d2 := (((CS91.out).tail).tail).head
   have d3 := ((((CS91.out).tail).tail).tail).head
   refine hK.out _ _ ⟨d0, d1, d2, d3⟩ (fun hHeld => ?_)
   clear hK K
   try simp only [Act.put, pA9, pB9, pC9]
   refine wpAnyH_ready (rs := [2, 7]) (by kernel_rfl) (by simp) ?_
   refine AllReadyH.cons (o := ⟨_, _, _, _, _, _⟩) rfl (fun K hK => ?_) (AllReadyH.cons (o := ⟨_, _, _, _, _, _⟩) rfl (fun K hK => ?_) AllReadyH.nil)
   ·go_simp
    refine (Fifties_any _).mono ?_
    rintro e w92 ⟨v5, rfl, pr, b92⟩
    have Q92 := Hid.of pr
    clear pr
    have B92 := Hid.of (B91.out.trans (b92.mono B91.out.size))
    have CS92 := Hid.of (CS91.out.next b92)
    have X92 := Hid.of (X91.out.kept b92)
    have P92 := Hid.of (P91.out.kept b92)
    clear b92 B91 CS91 X91 P91
    clear hHeld d0 d1 d2 d3
    have d0 := (CS92.out).head
    have d1 := ((CS92.out).tail).head
    have d2 := (((CS92.out).tail).tail).head
    have d3 := ((((CS92.out).tail).tail).tail).head
    refine hK.out _ _ ⟨d0, d1, d2, d3⟩ (fun hHeld => ?_)
    clear hK K
    try simp only [Act.put, pA9, pB9, pC9]
    refine wpAnyH_ready (rs := [3, 7]) (by kernel_rfl) (by simp) ?_
    refine AllReadyH.cons (o := ⟨_, _, _, _, _, _⟩) rfl (fun K hK => ?_) (AllReadyH.cons (o := ⟨_, _, _, _, _, _⟩) rfl (fun K hK => ?_) AllReadyH.nil)
    ·go_simp
     refine (make_any _ _ _ webPol fifPol webReach _ FW.out FF.out FT.out P92.out X92.out Q92.out).mono ?_
     rintro e w93 ⟨u6, rfl, ou, b93⟩
     rw [MK.out.1]
     rw [MK.out.2] at ou
     have L93 := Hid.of ou.row
     clear ou
     obtain ⟨ps, pf, hu, hps, hpf, -⟩ := L93.out
     subst hu
     obtain ⟨psa, psc, rfl, -⟩ := hps
     obtain ⟨pfa, pfc, rfl, -⟩ := hpf
     obtain ⟨pn, hpn⟩ : ∃ pn, fifPol.1 = pn := ⟨_, rfl⟩
     have ev : plVal (fifPol, [0, 1]) (.slice psa ((fifPol, [0, 1]) : PlanL).1.2.length psc) (.slice pfa ((fifPol, [0, 1]) : PlanL).2.length pfc) = .agg #[.string pn, .slice psa 2 psc, .slice pfa 2 pfc] := by rw [← hpn]; rfl
     rw [ev] at L93 ⊢
     clear ev hpn
     have B93 := Hid.of (B92.out.trans (b93.mono B92.out.size))
     have CS93 := Hid.of (CS92.out.next b93)
     have X93 := Hid.of (X92.out.kept b93)
     clear b93 B92 CS92 X92
     clear P92 Q92
     clear hHeld d0 d1 d2 d3
     have d0 := (CS93.out).head
     have d1 := ((CS93.out).tail).head
     have d2 := (((CS93.out).tail).tail).head
     have d3 := ((((CS93.out).tail).tail).tail).head
     refine hK.out _ _ ⟨d0, d1, d2, d3⟩ (fun hHeld => ?_)
     clear hK K
     try simp only [Act.put, pA9, pB9, pC9]
     refine takeOp 4 (o := ⟨_, _, _, _, _, _⟩) (v := ?_) rfl (by kernel_rfl) (by rfl) hHeld ?_ ?_; rotate_left; (next => intro w' hSw; (try dsimp only at hSw); go_simp; all_goals with_reducible rfl); simp only [Act.put, pA9, pB9, pC9]
     refine takeOp 5 (o := ⟨_, _, _, _, _, _⟩) (v := ?_) rfl (by kernel_rfl) (by rfl) hHeld ?_ ?_; rotate_left; (next => intro w' hSw; (try dsimp only at hSw); go_simp; all_goals with_reducible rfl); simp only [Act.put, pA9, pB9, pC9]
     refine takeOp 6 (o := ⟨_, _, _, _, _, _⟩) (v := ?_) rfl (by kernel_rfl) (by rfl) hHeld ?_ ?_; rotate_left; (next => intro w' hSw; (try dsimp only at hSw); go_simp; all_goals with_reducible rfl); simp only [Act.put, pA9, pB9, pC9]
     refine wpAnyH_ready (rs := [7]) (by kernel_rfl) (by simp) ?_
     refine AllReadyH.cons (o := ⟨_, _, _, _, _, _⟩) rfl (fun K hK => ?_) AllReadyH.nil
     go_simp
     obtain ⟨y, hy⟩ : ∃ y, (w93).heap.size = y := ⟨_, rfl⟩
     obtain ⟨w94, hw94⟩ : ∃ w94, (w93).alloc (.cells #[.string ⟨#[]⟩, .slice none 0 0, .slice none 0 0] 49) = w94 := ⟨_, rfl⟩
     have hx94 : (w93).alloc (.cells #[.string ⟨#[]⟩, .slice none 0 0, .slice none 0 0] 49) = w94 := hw94
     have b94 : Below (w93).heap.size (w93) w94 := by rw [← hx94]; exact (Below.refl _ _).alloc (Nat.le_refl _) _
     have K94 : Hid (w94.heap[y]? = some (.cells #[.string ⟨#[]⟩, .slice none 0 0, .slice none 0 0] 49 (0, 0))) := Hid.of (by rw [← hx94, ← hy]; exact (MapKept.heap_alloc (w93) _).1)
     have HLY : Hid (w.heap.size ≤ y) := Hid.of (by rw [← hy]; exact B93.out.size)
     have HLZ : Hid (∀ x ∈ ([(⟨z, 0, none⟩, .int .i64 257), (⟨z, 1, none⟩, .string n), (⟨z, 2, none⟩, .slice sa 2 sc), (⟨z, 3, none⟩, .slice fa 0 fc)] : List (Addr × Value)), x.1.block < y) := Hid.of (fun x hx => by rw [← hy]; exact (CS93.out x hx).1)
     rw [hw94, hy]
     clear hw94 hx94 hy
     have B94 := Hid.of (B93.out.trans (b94.mono B93.out.size))
     have CS94 := Hid.of (CS93.out.next b94)
     have X94 := Hid.of (X93.out.kept b94)
     have L94 := Hid.of (L93.out.kept b94)
     clear b94 B93 CS93 X93 L93
     clear hHeld d0 d1 d2 d3
     have d0 := (CS94.out).head
     have d1 := ((CS94.out).tail).head
     have d2 := (((CS94.out).tail).tail).head
     have d3 := ((((CS94.out).tail).tail).tail).head
     refine hK.out _ _ ⟨d0, d1, d2, d3⟩ (fun hHeld => ?_)
     clear hK K
     try simp only [Act.put, pA9, pB9, pC9]
     refine wpAnyH_ready (rs := [8]) (by kernel_rfl) (by simp) ?_
     refine AllReadyH.cons (o := ⟨_, _, _, _, _, _⟩) rfl (fun K hK => ?_) AllReadyH.nil
     have k0 := K94.out
     have f0 := row_frozen (i := 0) k0
     have f1 := row_frozen (i := 1) k0
     have f2 := row_frozen (i := 2) k0
     obtain ⟨t0, t1, t2⟩ := lblk_at k0
     go_simp
     clear f0 f1 f2 t0 t1 t2
     have KZ := Hid.of (lblk_set (n' := pn) (s' := .slice psa 2 psc) (f' := .slice pfa 2 pfc) k0)
     have gz := setL_grown w94 y pn (.slice psa 2 psc) (.slice pfa 2 pfc)
     have CSZ := Hid.of (CS94.out.grown gz (fun x hx c => by have h1 := Option.some.inj c; have h2 := HLZ.out x hx; omega))
     have BZ : Hid (Below w.heap.size w (setL w94 y pn (.slice psa 2 psc) (.slice pfa 2 pfc))) := Hid.of (B94.out.grown gz B94.out.size (fun k hk => by cases hk; exact HLY.out))
     have XZ : Hid (RchRow (setL w94 y pn (.slice psa 2 psc) (.slice pfa 2 pfc)) (.agg #[.int .i64 257, .string n, .slice sa 2 sc, .slice fa 0 fc]) webReach) := Hid.of (rch_off k0 gz X94.out)
     have LZ : Hid (PlanRow (setL w94 y pn (.slice psa 2 psc) (.slice pfa 2 pfc)) (.agg #[.string pn, .slice psa 2 psc, .slice pfa 2 pfc]) (fifPol, [0, 1])) := Hid.of (plan_off k0 gz L94.out)
     clear gz k0
     unfold setL at KZ CSZ BZ XZ LZ
     clear hHeld d0 d1 d2 d3
     have d0 := (CSZ.out).head
     have d1 := ((CSZ.out).tail).head
     have d2 := (((CSZ.out).tail).tail).head
     have d3 := ((((CSZ.out).tail).tail).tail).head
     refine hK.out _ _ ⟨d0, d1, d2, d3⟩ (fun hHeld => ?_)
     clear hK K
     try simp only [Act.put, pA9, pB9, pC9]
     refine takeOp 9 (o := ⟨_, _, _, _, _, _⟩) (v := ?_) rfl (by kernel_rfl) (by rfl) hHeld ?_ ?_; rotate_left; (next => intro w' hSw; (try dsimp only at hSw); go_simp; all_goals with_reducible rfl); simp only [Act.put, pA9, pB9, pC9]
     refine wpAnyH_done (by kernel_rfl) ?_ _
     refine NoPanic.normal ?_
     clear hHeld d0 d1 d2 d3
     go_wp2_with fail
     go_meet
     exact ⟨y, pn, psa, pfa, psc, pfc, rfl, rfl, Hid.of (Dc.app CSZ.out (Dc.app (Dc.one KZ.out (i := 0) rfl) (Dc.app (Dc.one KZ.out (i := 1) rfl) (Dc.one KZ.out (i := 2) rfl)))), XZ, LZ, BZ⟩
    ·go_simp
     obtain ⟨y, hy⟩ : ∃ y, (w92).heap.size = y := ⟨_, rfl⟩
     obtain ⟨w95, hw95⟩ : ∃ w95, (w92).alloc (.cells #[.string ⟨#[]⟩, .slice none 0 0, .slice none 0 0] 49) = w95 := ⟨_, rfl⟩
     have hx95 : (w92).alloc (.cells #[.string ⟨#[]⟩, .slice none 0 0, .slice none 0 0] 49) = w95 := hw95
     have b95 : Below (w92).heap.size (w92) w95 := by rw [← hx95]; exact (Below.refl _ _).alloc (Nat.le_refl _) _
     have K95 : Hid (w95.heap[y]? = some (.cells #[.string ⟨#[]⟩, .slice none 0 0, .slice none 0 0] 49 (0, 0))) := Hid.of (by rw [← hx95, ← hy]; exact (MapKept.heap_alloc (w92) _).1)
     have HLY : Hid (w.heap.size ≤ y) := Hid.of (by rw [← hy]; exact B92.out.size)
     have HLZ : Hid (∀ x ∈ ([(⟨z, 0, none⟩, .int .i64 257), (⟨z, 1, none⟩, .string n), (⟨z, 2, none⟩, .slice sa 2 sc), (⟨z, 3, none⟩, .slice fa 0 fc)] : List (Addr × Value)), x.1.block < y) := Hid.of (fun x hx => by rw [← hy]; exact (CS92.out x hx).1)
     rw [hw95, hy]
     clear hw95 hx95 hy
     have B95 := Hid.of (B92.out.trans (b95.mono B92.out.size))
     have CS95 := Hid.of (CS92.out.next b95)
     have X95 := Hid.of (X92.out.kept b95)
     have P95 := Hid.of (P92.out.kept b95)
     have Q95 := Hid.of (Q92.out.kept b95)
     clear b95 B92 CS92 X92 P92 Q92
     clear hHeld d0 d1 d2 d3
     have d0 := (CS95.out).head
     have d1 := ((CS95.out).tail).head
     have d2 := (((CS95.out).tail).tail).head
     have d3 := ((((CS95.out).tail).tail).tail).head
     refine hK.out _ _ ⟨d0, d1, d2, d3⟩ (fun hHeld => ?_)
     clear hK K
     try simp only [Act.put, pA9, pB9, pC9]
     refine wpAnyH_ready (rs := [3]) (by kernel_rfl) (by simp) ?_
     refine AllReadyH.cons (o := ⟨_, _, _, _, _, _⟩) rfl (fun K hK => ?_) AllReadyH.nil
     go_simp
     refine (make_any _ _ _ webPol fifPol webReach _ FW.out FF.out FT.out P95.out X95.out Q95.out).mono ?_
     rintro e w96 ⟨u6, rfl, ou, b96⟩
     rw [MK.out.1]
     rw [MK.out.2] at ou
     have L96 := Hid.of ou.row
     clear ou
     obtain ⟨ps, pf, hu, hps, hpf, -⟩ := L96.out
     subst hu
     obtain ⟨psa, psc, rfl, -⟩ := hps
     obtain ⟨pfa, pfc, rfl, -⟩ := hpf
     obtain ⟨pn, hpn⟩ : ∃ pn, fifPol.1 = pn := ⟨_, rfl⟩
     have ev : plVal (fifPol, [0, 1]) (.slice psa ((fifPol, [0, 1]) : PlanL).1.2.length psc) (.slice pfa ((fifPol, [0, 1]) : PlanL).2.length pfc) = .agg #[.string pn, .slice psa 2 psc, .slice pfa 2 pfc] := by rw [← hpn]; rfl
     rw [ev] at L96 ⊢
     clear ev hpn
     have B96 := Hid.of (B95.out.trans (b96.mono B95.out.size))
     have CS96 := Hid.of (CS95.out.next b96)
     have X96 := Hid.of (X95.out.kept b96)
     have K96 := Hid.of (lblk_next K95.out b96)
     clear b96 B95 CS95 X95 K95
     clear P95 Q95
     clear hHeld d0 d1 d2 d3
     have d0 := (CS96.out).head
     have d1 := ((CS96.out).tail).head
     have d2 := (((CS96.out).tail).tail).head
     have d3 := ((((CS96.out).tail).tail).tail).head
     refine hK.out _ _ ⟨d0, d1, d2, d3⟩ (fun hHeld => ?_)
     clear hK K
     try simp only [Act.put, pA9, pB9, pC9]
     refine takeOp 4 (o := ⟨_, _, _, _, _, _⟩) (v := ?_) rfl (by kernel_rfl) (by rfl) hHeld ?_ ?_; rotate_left; (next => intro w' hSw; (try dsimp only at hSw); go_simp; all_goals with_reducible rfl); simp only [Act.put, pA9, pB9, pC9]
     refine takeOp 5 (o := ⟨_, _, _, _, _, _⟩) (v := ?_) rfl (by kernel_rfl) (by rfl) hHeld ?_ ?_; rotate_left; (next => intro w' hSw; (try dsimp only at hSw); go_simp; all_goals with_reducible rfl); simp only [Act.put, pA9, pB9, pC9]
     refine takeOp 6 (o := ⟨_, _, _, _, _, _⟩) (v := ?_) rfl (by kernel_rfl) (by rfl) hHeld ?_ ?_; rotate_left; (next => intro w' hSw; (try dsimp only at hSw); go_simp; all_goals with_reducible rfl); simp only [Act.put, pA9, pB9, pC9]
     refine wpAnyH_ready (rs := [8]) (by kernel_rfl) (by simp) ?_
     refine AllReadyH.cons (o := ⟨_, _, _, _, _, _⟩) rfl (fun K hK => ?_) AllReadyH.nil
     have k0 := K96.out
     have f0 := row_frozen (i := 0) k0
     have f1 := row_frozen (i := 1) k0
     have f2 := row_frozen (i := 2) k0
     obtain ⟨t0, t1, t2⟩ := lblk_at k0
     go_simp
     clear f0 f1 f2 t0 t1 t2
     have KZ := Hid.of (lblk_set (n' := pn) (s' := .slice psa 2 psc) (f' := .slice pfa 2 pfc) k0)
     have gz := setL_grown w96 y pn (.slice psa 2 psc) (.slice pfa 2 pfc)
     have CSZ := Hid.of (CS96.out.grown gz (fun x hx c => by have h1 := Option.some.inj c; have h2 := HLZ.out x hx; omega))
     have BZ : Hid (Below w.heap.size w (setL w96 y pn (.slice psa 2 psc) (.slice pfa 2 pfc))) := Hid.of (B96.out.grown gz B96.out.size (fun k hk => by cases hk; exact HLY.out))
     have XZ : Hid (RchRow (setL w96 y pn (.slice psa 2 psc) (.slice pfa 2 pfc)) (.agg #[.int .i64 257, .string n, .slice sa 2 sc, .slice fa 0 fc]) webReach) := Hid.of (rch_off k0 gz X96.out)
     have LZ : Hid (PlanRow (setL w96 y pn (.slice psa 2 psc) (.slice pfa 2 pfc)) (.agg #[.string pn, .slice psa 2 psc, .slice pfa 2 pfc]) (fifPol, [0, 1])) := Hid.of (plan_off k0 gz L96.out)
     clear gz k0
     unfold setL at KZ CSZ BZ XZ LZ
     clear hHeld d0 d1 d2 d3
     have d0 := (CSZ.out).head
     have d1 := ((CSZ.out).tail).head
     have d2 := (((CSZ.out).tail).tail).head
     have d3 := ((((CSZ.out).tail).tail).tail).head
     refine hK.out _ _ ⟨d0, d1, d2, d3⟩ (fun hHeld => ?_)
     clear hK K
     try simp only [Act.put, pA9, pB9, pC9]
     refine takeOp 9 (o := ⟨_, _, _, _, _, _⟩) (v := ?_) rfl (by kernel_rfl) (by rfl) hHeld ?_ ?_; rotate_left; (next => intro w' hSw; (try dsimp only at hSw); go_simp; all_goals with_reducible rfl); simp only [Act.put, pA9, pB9, pC9]
     refine wpAnyH_done (by kernel_rfl) ?_ _
     refine NoPanic.normal ?_
     clear hHeld d0 d1 d2 d3
     go_wp2_with fail
     go_meet
     exact ⟨y, pn, psa, pfa, psc, pfc, rfl, rfl, Hid.of (Dc.app CSZ.out (Dc.app (Dc.one KZ.out (i := 0) rfl) (Dc.app (Dc.one KZ.out (i := 1) rfl) (Dc.one KZ.out (i := 2) rfl)))), XZ, LZ, BZ⟩
   ·go_simp
    obtain ⟨y, hy⟩ : ∃ y, (w91).heap.size = y := ⟨_, rfl⟩
    obtain ⟨w97, hw97⟩ : ∃ w97, (w91).alloc (.cells #[.string ⟨#[]⟩, .slice none 0 0, .slice none 0 0] 49) = w97 := ⟨_, rfl⟩
    have hx97 : (w91).alloc (.cells #[.string ⟨#[]⟩, .slice none 0 0, .slice none 0 0] 49) = w97 := hw97
    have b97 : Below (w91).heap.size (w91) w97 := by rw [← hx97]; exact (Below.refl _ _).alloc (Nat.le_refl _) _
    have K97 : Hid (w97.heap[y]? = some (.cells #[.string ⟨#[]⟩, .slice none 0 0, .slice none 0 0] 49 (0, 0))) := Hid.of (by rw [← hx97, ← hy]; exact (MapKept.heap_alloc (w91) _).1)
    have HLY : Hid (w.heap.size ≤ y) := Hid.of (by rw [← hy]; exact B91.out.size)
    have HLZ : Hid (∀ x ∈ ([(⟨z, 0, none⟩, .int .i64 257), (⟨z, 1, none⟩, .string n), (⟨z, 2, none⟩, .slice sa 2 sc), (⟨z, 3, none⟩, .slice fa 0 fc)] : List (Addr × Value)), x.1.block < y) := Hid.of (fun x hx => by rw [← hy]; exact (CS91.out x hx).1)
    rw [hw97, hy]
    clear hw97 hx97 hy
    have B97 := Hid.of (B91.out.trans (b97.mono B91.out.size))
    have CS97 := Hid.of (CS91.out.next b97)
    have X97 := Hid.of (X91.out.kept b97)
    have P97 := Hid.of (P91.out.kept b97)
    clear b97 B91 CS91 X91 P91
    clear hHeld d0 d1 d2 d3
    have d0 := (CS97.out).head
    have d1 := ((CS97.out).tail).head
    have d2 := (((CS97.out).tail).tail).head
    have d3 := ((((CS97.out).tail).tail).tail).head
    refine hK.out _ _ ⟨d0, d1, d2, d3⟩ (fun hHeld => ?_)
    clear hK K
    try simp only [Act.put, pA9, pB9, pC9]
    refine wpAnyH_ready (rs := [2]) (by kernel_rfl) (by simp) ?_
    refine AllReadyH.cons (o := ⟨_, _, _, _, _, _⟩) rfl (fun K hK => ?_) AllReadyH.nil
    go_simp
    refine (Fifties_any _).mono ?_
    rintro e w98 ⟨v5, rfl, pr, b98⟩
    have Q98 := Hid.of pr
    clear pr
    have B98 := Hid.of (B97.out.trans (b98.mono B97.out.size))
    have CS98 := Hid.of (CS97.out.next b98)
    have X98 := Hid.of (X97.out.kept b98)
    have P98 := Hid.of (P97.out.kept b98)
    have K98 := Hid.of (lblk_next K97.out b98)
    clear b98 B97 CS97 X97 P97 K97
    clear hHeld d0 d1 d2 d3
    have d0 := (CS98.out).head
    have d1 := ((CS98.out).tail).head
    have d2 := (((CS98.out).tail).tail).head
    have d3 := ((((CS98.out).tail).tail).tail).head
    refine hK.out _ _ ⟨d0, d1, d2, d3⟩ (fun hHeld => ?_)
    clear hK K
    try simp only [Act.put, pA9, pB9, pC9]
    refine wpAnyH_ready (rs := [3]) (by kernel_rfl) (by simp) ?_
    refine AllReadyH.cons (o := ⟨_, _, _, _, _, _⟩) rfl (fun K hK => ?_) AllReadyH.nil
    go_simp
    refine (make_any _ _ _ webPol fifPol webReach _ FW.out FF.out FT.out P98.out X98.out Q98.out).mono ?_
    rintro e w99 ⟨u6, rfl, ou, b99⟩
    rw [MK.out.1]
    rw [MK.out.2] at ou
    have L99 := Hid.of ou.row
    clear ou
    obtain ⟨ps, pf, hu, hps, hpf, -⟩ := L99.out
    subst hu
    obtain ⟨psa, psc, rfl, -⟩ := hps
    obtain ⟨pfa, pfc, rfl, -⟩ := hpf
    obtain ⟨pn, hpn⟩ : ∃ pn, fifPol.1 = pn := ⟨_, rfl⟩
    have ev : plVal (fifPol, [0, 1]) (.slice psa ((fifPol, [0, 1]) : PlanL).1.2.length psc) (.slice pfa ((fifPol, [0, 1]) : PlanL).2.length pfc) = .agg #[.string pn, .slice psa 2 psc, .slice pfa 2 pfc] := by rw [← hpn]; rfl
    rw [ev] at L99 ⊢
    clear ev hpn
    have B99 := Hid.of (B98.out.trans (b99.mono B98.out.size))
    have CS99 := Hid.of (CS98.out.next b99)
    have X99 := Hid.of (X98.out.kept b99)
    have K99 := Hid.of (lblk_next K98.out b99)
    clear b99 B98 CS98 X98 K98
    clear P98 Q98
    clear hHeld d0 d1 d2 d3
    have d0 := (CS99.out).head
    have d1 := ((CS99.out).tail).head
    have d2 := (((CS99.out).tail).tail).head
    have d3 := ((((CS99.out).tail).tail).tail).head
    refine hK.out _ _ ⟨d0, d1, d2, d3⟩ (fun hHeld => ?_)
    clear hK K
    try simp only [Act.put, pA9, pB9, pC9]
    refine takeOp 4 (o := ⟨_, _, _, _, _, _⟩) (v := ?_) rfl (by kernel_rfl) (by rfl) hHeld ?_ ?_; rotate_left; (next => intro w' hSw; (try dsimp only at hSw); go_simp; all_goals with_reducible rfl); simp only [Act.put, pA9, pB9, pC9]
    refine takeOp 5 (o := ⟨_, _, _, _, _, _⟩) (v := ?_) rfl (by kernel_rfl) (by rfl) hHeld ?_ ?_; rotate_left; (next => intro w' hSw; (try dsimp only at hSw); go_simp; all_goals with_reducible rfl); simp only [Act.put, pA9, pB9, pC9]
    refine takeOp 6 (o := ⟨_, _, _, _, _, _⟩) (v := ?_) rfl (by kernel_rfl) (by rfl) hHeld ?_ ?_; rotate_left; (next => intro w' hSw; (try dsimp only at hSw); go_simp; all_goals with_reducible rfl); simp only [Act.put, pA9, pB9, pC9]
    refine wpAnyH_ready (rs := [8]) (by kernel_rfl) (by simp) ?_
    refine AllReadyH.cons (o := ⟨_, _, _, _, _, _⟩) rfl (fun K hK => ?_) AllReadyH.nil
    have k0 := K99.out
    have f0 := row_frozen (i := 0) k0
    have f1 := row_frozen (i := 1) k0
    have f2 := row_frozen (i := 2) k0
    obtain ⟨t0, t1, t2⟩ := lblk_at k0
    go_simp
    clear f0 f1 f2 t0 t1 t2
    have KZ := Hid.of (lblk_set (n' := pn) (s' := .slice psa 2 psc) (f' := .slice pfa 2 pfc) k0)
    have gz := setL_grown w99 y pn (.slice psa 2 psc) (.slice pfa 2 pfc)
    have CSZ := Hid.of (CS99.out.grown gz (fun x hx c => by have h1 := Option.some.inj c; have h2 := HLZ.out x hx; omega))
    have BZ : Hid (Below w.heap.size w (setL w99 y pn (.slice psa 2 psc) (.slice pfa 2 pfc))) := Hid.of (B99.out.grown gz B99.out.size (fun k hk => by cases hk; exact HLY.out))
    have XZ : Hid (RchRow (setL w99 y pn (.slice psa 2 psc) (.slice pfa 2 pfc)) (.agg #[.int .i64 257, .string n, .slice sa 2 sc, .slice fa 0 fc]) webReach) := Hid.of (rch_off k0 gz X99.out)
    have LZ : Hid (PlanRow (setL w99 y pn (.slice psa 2 psc) (.slice pfa 2 pfc)) (.agg #[.string pn, .slice psa 2 psc, .slice pfa 2 pfc]) (fifPol, [0, 1])) := Hid.of (plan_off k0 gz L99.out)
    clear gz k0
    unfold setL at KZ CSZ BZ XZ LZ
    clear hHeld d0 d1 d2 d3
    have d0 := (CSZ.out).head
    have d1 := ((CSZ.out).tail).head
    have d2 := (((CSZ.out).tail).tail).head
    have d3 := ((((CSZ.out).tail).tail).tail).head
    refine hK.out _ _ ⟨d0, d1, d2, d3⟩ (fun hHeld => ?_)
    clear hK K
    try simp only [Act.put, pA9, pB9, pC9]
    refine takeOp 9 (o := ⟨_, _, _, _, _, _⟩) (v := ?_) rfl (by kernel_rfl) (by rfl) hHeld ?_ ?_; rotate_left; (next => intro w' hSw; (try dsimp only at hSw); go_simp; all_goals with_reducible rfl); simp only [Act.put, pA9, pB9, pC9]
    refine wpAnyH_done (by kernel_rfl) ?_ _
    refine NoPanic.normal ?_
    clear hHeld d0 d1 d2 d3
    go_wp2_with fail
    go_meet
    exact ⟨y, pn, psa, pfa, psc, pfc, rfl, rfl, Hid.of (Dc.app CSZ.out (Dc.app (Dc.one KZ.out (i := 0) rfl) (Dc.app (Dc.one KZ.out (i := 1) rfl) (Dc.one KZ.out (i := 2) rfl)))), XZ, LZ, BZ⟩
  ·go_simp
   obtain ⟨y, hy⟩ : ∃ y, (w3).heap.size = y := ⟨_, rfl⟩
   obtain ⟨w910, hw910⟩ : ∃ w910, (w3.alloc (.cells #[.string ⟨#[]⟩, .slice none 0 0, .slice none 0 0] 49)).drew = w910 := ⟨_, rfl⟩
   have hx910 : (w3.drew).alloc (.cells #[.string ⟨#[]⟩, .slice none 0 0, .slice none 0 0] 49) = w910 := hw910
   have b910 : Below (w3.drew).heap.size (w3.drew) w910 := by rw [← hx910]; exact (Below.refl _ _).alloc (Nat.le_refl _) _
   have K910 : Hid (w910.heap[y]? = some (.cells #[.string ⟨#[]⟩, .slice none 0 0, .slice none 0 0] 49 (0, 0))) := Hid.of (by rw [← hx910, ← hy]; exact (MapKept.heap_alloc (w3.drew) _).1)
   have HLY : Hid (w.heap.size ≤ y) := Hid.of (by rw [← hy]; exact BD.out.size)
   have HLZ : Hid (∀ x ∈ ([(⟨z, 0, none⟩, .int .i64 257), (⟨z, 1, none⟩, .string n), (⟨z, 2, none⟩, .slice sa 2 sc), (⟨z, 3, none⟩, .slice fa 0 fc)] : List (Addr × Value)), x.1.block < y) := Hid.of (fun x hx => by rw [← hy]; exact (CSD.out x hx).1)
   rw [hw910, hy]
   clear hw910 hx910 hy
   have B910 := Hid.of (BD.out.trans (b910.mono BD.out.size))
   have CS910 := Hid.of (CSD.out.next b910)
   have X910 := Hid.of (XD.out.kept b910)
   clear b910 BD CSD XD
   clear hHeld d0 d1 d2 d3
   have d0 := (CS910.out).head
   have d1 := ((CS910.out).tail).head
   have d2 := (((CS910.out).tail).tail).head
   have d3 := ((((CS910.out).tail).tail).tail).head
   refine hK.out _ _ ⟨d0, d1, d2, d3⟩ (fun hHeld => ?_)
   clear hK K
   try simp only [Act.put, pA9, pB9, pC9]
   refine wpAnyH_ready (rs := [0]) (by kernel_rfl) (by simp) ?_
   refine AllReadyH.cons (o := ⟨_, _, _, _, _, _⟩) rfl (fun K hK => ?_) AllReadyH.nil
   go_simp
   refine (Web_any _).mono ?_
   rintro e w911 ⟨v4, rfl, pr, b911⟩
   have P911 := Hid.of pr
   clear pr
   have B911 := Hid.of (B910.out.trans (b911.mono B910.out.size))
   have CS911 := Hid.of (CS910.out.next b911)
   have X911 := Hid.of (X910.out.kept b911)
   have K911 := Hid.of (lblk_next K910.out b911)
   clear b911 B910 CS910 X910 K910
   clear hHeld d0 d1 d2 d3
   have d0 := (CS911.out).head
   have d1 := ((CS911.out).tail).head
   have d2 := (((CS911.out).tail).tail).head
   have d3 := ((((CS911.out).tail).tail).tail).head
   refine hK.out _ _ ⟨d0, d1, d2, d3⟩ (fun hHeld => ?_)
   clear hK K
   try simp only [Act.put, pA9, pB9, pC9]
   refine wpAnyH_ready (rs := [2]) (by kernel_rfl) (by simp) ?_
   refine AllReadyH.cons (o := ⟨_, _, _, _, _, _⟩) rfl (fun K hK => ?_) AllReadyH.nil
   go_simp
   refine (Fifties_any _).mono ?_
   rintro e w912 ⟨v5, rfl, pr, b912⟩
   have Q912 := Hid.of pr
   clear pr
   have B912 := Hid.of (B911.out.trans (b912.mono B911.out.size))
   have CS912 := Hid.of (CS911.out.next b912)
   have X912 := Hid.of (X911.out.kept b912)
   have K912 := Hid.of (lblk_next K911.out b912)
   have P912 := Hid.of (P911.out.kept b912)
   clear b912 B911 CS911 X911 K911 P911
   clear hHeld d0 d1 d2 d3
   have d0 := (CS912.out).head
   have d1 := ((CS912.out).tail).head
   have d2 := (((CS912.out).tail).tail).head
   have d3 := ((((CS912.out).tail).tail).tail).head
   refine hK.out _ _ ⟨d0, d1, d2, d3⟩ (fun hHeld => ?_)
   clear hK K
   try simp only [Act.put, pA9, pB9, pC9]
   refine wpAnyH_ready (rs := [3]) (by kernel_rfl) (by simp) ?_
   refine AllReadyH.cons (o := ⟨_, _, _, _, _, _⟩) rfl (fun K hK => ?_) AllReadyH.nil
   go_simp
   refine (make_any _ _ _ webPol fifPol webReach _ FW.out FF.out FT.out P912.out X912.out Q912.out).mono ?_
   rintro e w913 ⟨u6, rfl, ou, b913⟩
   rw [MK.out.1]
   rw [MK.out.2] at ou
   have L913 := Hid.of ou.row
   clear ou
   obtain ⟨ps, pf, hu, hps, hpf, -⟩ := L913.out
   subst hu
   obtain ⟨psa, psc, rfl, -⟩ := hps
   obtain ⟨pfa, pfc, rfl, -⟩ := hpf
   obtain ⟨pn, hpn⟩ : ∃ pn, fifPol.1 = pn := ⟨_, rfl⟩
   have ev : plVal (fifPol, [0, 1]) (.slice psa ((fifPol, [0, 1]) : PlanL).1.2.length psc) (.slice pfa ((fifPol, [0, 1]) : PlanL).2.length pfc) = .agg #[.string pn, .slice psa 2 psc, .slice pfa 2 pfc] := by rw [← hpn]; rfl
   rw [ev] at L913 ⊢
   clear ev hpn
   have B913 := Hid.of (B912.out.trans (b913.mono B912.out.size))
   have CS913 := Hid.of (CS912.out.next b913)
   have X913 := Hid.of (X912.out.kept b913)
   have K913 := Hid.of (lblk_next K912.out b913)
   clear b913 B912 CS912 X912 K912
   clear P912 Q912
   clear hHeld d0 d1 d2 d3
   have d0 := (CS913.out).head
   have d1 := ((CS913.out).tail).head
   have d2 := (((CS913.out).tail).tail).head
   have d3 := ((((CS913.out).tail).tail).tail).head
   refine hK.out _ _ ⟨d0, d1, d2, d3⟩ (fun hHeld => ?_)
   clear hK K
   try simp only [Act.put, pA9, pB9, pC9]
   refine takeOp 4 (o := ⟨_, _, _, _, _, _⟩) (v := ?_) rfl (by kernel_rfl) (by rfl) hHeld ?_ ?_; rotate_left; (next => intro w' hSw; (try dsimp only at hSw); go_simp; all_goals with_reducible rfl); simp only [Act.put, pA9, pB9, pC9]
   refine takeOp 5 (o := ⟨_, _, _, _, _, _⟩) (v := ?_) rfl (by kernel_rfl) (by rfl) hHeld ?_ ?_; rotate_left; (next => intro w' hSw; (try dsimp only at hSw); go_simp; all_goals with_reducible rfl); simp only [Act.put, pA9, pB9, pC9]
   refine takeOp 6 (o := ⟨_, _, _, _, _, _⟩) (v := ?_) rfl (by kernel_rfl) (by rfl) hHeld ?_ ?_; rotate_left; (next => intro w' hSw; (try dsimp only at hSw); go_simp; all_goals with_reducible rfl); simp only [Act.put, pA9, pB9, pC9]
   refine wpAnyH_ready (rs := [8]) (by kernel_rfl) (by simp) ?_
   refine AllReadyH.cons (o := ⟨_, _, _, _, _, _⟩) rfl (fun K hK => ?_) AllReadyH.nil
   have k0 := K913.out
   have f0 := row_frozen (i := 0) k0
   have f1 := row_frozen (i := 1) k0
   have f2 := row_frozen (i := 2) k0
   obtain ⟨t0, t1, t2⟩ := lblk_at k0
   go_simp
   clear f0 f1 f2 t0 t1 t2
   have KZ := Hid.of (lblk_set (n' := pn) (s' := .slice psa 2 psc) (f' := .slice pfa 2 pfc) k0)
   have gz := setL_grown w913 y pn (.slice psa 2 psc) (.slice pfa 2 pfc)
   have CSZ := Hid.of (CS913.out.grown gz (fun x hx c => by have h1 := Option.some.inj c; have h2 := HLZ.out x hx; omega))
   have BZ : Hid (Below w.heap.size w (setL w913 y pn (.slice psa 2 psc) (.slice pfa 2 pfc))) := Hid.of (B913.out.grown gz B913.out.size (fun k hk => by cases hk; exact HLY.out))
   have XZ : Hid (RchRow (setL w913 y pn (.slice psa 2 psc) (.slice pfa 2 pfc)) (.agg #[.int .i64 257, .string n, .slice sa 2 sc, .slice fa 0 fc]) webReach) := Hid.of (rch_off k0 gz X913.out)
   have LZ : Hid (PlanRow (setL w913 y pn (.slice psa 2 psc) (.slice pfa 2 pfc)) (.agg #[.string pn, .slice psa 2 psc, .slice pfa 2 pfc]) (fifPol, [0, 1])) := Hid.of (plan_off k0 gz L913.out)
   clear gz k0
   unfold setL at KZ CSZ BZ XZ LZ
   clear hHeld d0 d1 d2 d3
   have d0 := (CSZ.out).head
   have d1 := ((CSZ.out).tail).head
   have d2 := (((CSZ.out).tail).tail).head
   have d3 := ((((CSZ.out).tail).tail).tail).head
   refine hK.out _ _ ⟨d0, d1, d2, d3⟩ (fun hHeld => ?_)
   clear hK K
   try simp only [Act.put, pA9, pB9, pC9]
   refine takeOp 9 (o := ⟨_, _, _, _, _, _⟩) (v := ?_) rfl (by kernel_rfl) (by rfl) hHeld ?_ ?_; rotate_left; (next => intro w' hSw; (try dsimp only at hSw); go_simp; all_goals with_reducible rfl); simp only [Act.put, pA9, pB9, pC9]
   refine wpAnyH_done (by kernel_rfl) ?_ _
   refine NoPanic.normal ?_
   clear hHeld d0 d1 d2 d3
   go_wp2_with fail
   go_meet
   exact ⟨y, pn, psa, pfa, psc, pfc, rfl, rfl, Hid.of (Dc.app CSZ.out (Dc.app (Dc.one KZ.out (i := 0) rfl) (Dc.app (Dc.one KZ.out (i := 1) rfl) (Dc.one KZ.out (i := 2) rfl)))), XZ, LZ, BZ⟩
 case rest =>
  obtain ⟨y, pn, psa, pfa, psc, pfc, rfl, rfl, CS, X, L, BB⟩ := hcut
  have D1 : Hid (∃ g o, pfa = some ⟨g, o, none⟩ ∧ Dc wc [(⟨g, o, none⟩, .int .i64 0), (⟨g, o + 1, none⟩, .int .i64 1)]) := Hid.of (by
   obtain ⟨s', f', he, -, hf', -, -⟩ := L.out
   unfold plVal at he
   simp only [Value.agg.injEq, Array.mk.injEq, List.cons.injEq, and_true] at he
   rw [← he.2.2] at hf'
   exact ints_two hf')
  obtain ⟨g, o, rfl, hD⟩ := D1.out
  have DD := Hid.of hD
  clear hD D1
  obtain ⟨c0, c1⟩ : wc.cell? ⟨y, 0, none⟩ = some (.string pn) ∧ wc.cell? ⟨y, 1, none⟩ = some (.slice psa 2 psc) := ⟨CS.out.tail.tail.tail.tail.head, CS.out.tail.tail.tail.tail.tail.head⟩
  obtain ⟨c2, c3⟩ : wc.cell? ⟨y, 2, none⟩ = some (.slice (some ⟨g, o, none⟩) 2 pfc) ∧ wc.cell? ⟨g, o, none⟩ = some (.int .i64 0) := ⟨CS.out.tail.tail.tail.tail.tail.tail.head, DD.out.head⟩
  have c4 : wc.cell? ⟨g, o + 1, none⟩ = some (.int .i64 1) := DD.out.tail.head
  go_wp2_with fail
  refine (steps_any _ (fifPol, [0, 1]) _ L.out FM.out).mono ?_
  rintro e w6 ⟨rfl, b6⟩
  rw [T1.out]
  have CS6 := Hid.of (CS.out.next b6)
  have X6 := Hid.of (X.out.kept b6)
  have L6 := Hid.of (L.out.kept b6)
  have B6 := Hid.of (BB.out.trans (b6.mono BB.out.size))
  clear b6 CS X L BB DD c0 c1 c2 c3 c4
  obtain ⟨c0, c1⟩ : w6.cell? ⟨y, 0, none⟩ = some (.string pn) ∧ w6.cell? ⟨y, 1, none⟩ = some (.slice psa 2 psc) := ⟨CS6.out.tail.tail.tail.tail.head, CS6.out.tail.tail.tail.tail.tail.head⟩
  have c2 : w6.cell? ⟨y, 2, none⟩ = some (.slice (some ⟨g, o, none⟩) 2 pfc) := CS6.out.tail.tail.tail.tail.tail.tail.head
  go_wp2_with fail
  refine (at_any _ (fifPol, [0, 1]) 1 _ L6.out FM.out (by unfold I64; omega)).mono ?_
  rintro e w7 ⟨rfl, b7⟩
  rw [T2.out]
  unfold atVal
  simp only
  have CS7 := Hid.of (CS6.out.next b7)
  have X7 := Hid.of (X6.out.kept b7)
  have L7 := Hid.of (L6.out.kept b7)
  have B7 := Hid.of (B6.out.trans (b7.mono B6.out.size))
  clear b7 CS6 X6 L6 B6 c0 c1 c2
  obtain ⟨v, hv⟩ : ∃ v, w7.heap.size = v := ⟨_, rfl⟩
  obtain ⟨w8, hw8⟩ : ∃ w8, w7.alloc (.cells #[.int .i64 1, .int .i64 1, .int .i64 0] 59) = w8 := ⟨_, rfl⟩
  have b8 : Below w7.heap.size w7 w8 := by rw [← hw8]; exact (Below.refl _ _).alloc (Nat.le_refl _) _
  have V8 : Hid (SBlk w8 v 1 1 0) := Hid.of (by rw [← hw8, ← hv]; exact (MapKept.heap_alloc w7 _).1)
  have CS8 := Hid.of (CS7.out.next b8)
  have X8 := Hid.of (X7.out.kept b8)
  have L8 := Hid.of (L7.out.kept b8)
  have B8 := Hid.of (B7.out.trans (b8.mono B7.out.size))
  have HW := Hid.of hw8
  have HV := Hid.of hv
  clear b8 CS7 X7 L7 B7 hw8 hv
  go_upto_region 6 with fail
  rw [HW.out, HV.out]
  clear HW HV
  obtain ⟨c0, c1⟩ : w8.cell? ⟨y, 0, none⟩ = some (.string pn) ∧ w8.cell? ⟨y, 1, none⟩ = some (.slice psa 2 psc) := ⟨CS8.out.tail.tail.tail.tail.head, CS8.out.tail.tail.tail.tail.tail.head⟩
  have c2 : w8.cell? ⟨y, 2, none⟩ = some (.slice (some ⟨g, o, none⟩) 2 pfc) := CS8.out.tail.tail.tail.tail.tail.tail.head
  obtain ⟨e0, e1⟩ : w8.cell? ⟨z, 0, none⟩ = some (.int .i64 257) ∧ w8.cell? ⟨z, 1, none⟩ = some (.string n) := ⟨CS8.out.head, CS8.out.tail.head⟩
  obtain ⟨e2, e3⟩ : w8.cell? ⟨z, 2, none⟩ = some (.slice sa 2 sc) ∧ w8.cell? ⟨z, 3, none⟩ = some (.slice fa 0 fc) := ⟨CS8.out.tail.tail.head, CS8.out.tail.tail.tail.head⟩
  go_wp2_with fail
  refine (bases_any _ _ (fifPol, [0, 1]) webReach _ FM.out FT.out L8.out X8.out).mono ?_
  rintro e w9 ⟨u, rfl, ou, b9⟩
  rw [T3.out] at ou
  obtain ⟨ua, uc, rfl, -⟩ := own_one ou
  have hrow : CellRow w9 (.slice ua 2 uc) 2 [.int .i64 150, .int .i64 0] := own_row ou
  obtain ⟨g2, o2, rfl, hD2⟩ := ints_two hrow
  have CS9 := Hid.of (CS8.out.next b9)
  have L9 := Hid.of (L8.out.kept b9)
  have B9 := Hid.of (B8.out.trans (b9.mono B8.out.size))
  have V9 := Hid.of (sblk_next V8.out b9)
  have D9 := Hid.of hD2
  clear b9 CS8 X8 L8 B8 V8 ou hrow hD2 c0 c1 c2 e0 e1 e2 e3
  obtain ⟨c0, c1⟩ : w9.cell? ⟨y, 0, none⟩ = some (.string pn) ∧ w9.cell? ⟨y, 1, none⟩ = some (.slice psa 2 psc) := ⟨CS9.out.tail.tail.tail.tail.head, CS9.out.tail.tail.tail.tail.tail.head⟩
  have c2 : w9.cell? ⟨y, 2, none⟩ = some (.slice (some ⟨g, o, none⟩) 2 pfc) := CS9.out.tail.tail.tail.tail.tail.tail.head
  obtain ⟨s0, s1, s2⟩ := sblk_at V9.out
  have u0 : w9.cell? ⟨g2, o2, none⟩ = some (.int .i64 150) := D9.out.head
  have u1 : w9.cell? ⟨g2, o2 + 1, none⟩ = some (.int .i64 0) := D9.out.tail.head
  go_wp2_with fail
  refine (bound_any _ (fifPol, [0, 1]) 5 _ L9.out FM.out (by unfold I64; omega)).mono ?_
  rintro e wa ⟨rfl, ba⟩
  rw [T4.out]
  have BA := Hid.of (B9.out.trans (ba.mono B9.out.size))
  clear ba
  go_wp2
  go_ret
  exact ⟨rfl, BA.out⟩

end Go.Proofs.YtiomoobeklpkmaaGreat
