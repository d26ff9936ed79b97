/-
  A bundle of texts: QEG QOF QAL.
-/
import Derived.Test.YtbhcafginmkaaaaGreatN38
import Derived.Test.YtbhcafginmkaaaaGreatN05
namespace Go.Proofs.YtbhcafginmkaaaaGreat
open Go.RowKit Go.Lib

theorem rFrom_in2 {r : RchL} (h : RFit r) (i : Int) : I64 (rFrom r i) := by
  have key : ∀ j, I64 (rFromN r j) := fun j => by
    unfold rFromN
    split
    · unfold I64; omega
    · rename_i t ht
      have tb := h.2.1.2.2 t (List.mem_of_getElem? ht)
      have hg : I64 (gBack r.1 t.2.2.1 (rEvery r.2.1.2 j)) := by
        unfold gBack
        split
        · unfold I64; omega
        · rename_i c
          simp only [not_or, Int.not_lt] at c
          have h1 := h.1
          have h2 := tb.2.2.1
          have h3 : I64 (rEvery r.2.1.2 j) := by
            unfold rEvery
            split
            · rename_i u hu
              exact (h.2.1.2.2 u (List.mem_of_getElem? hu)).2.1
            · split
              · rename_i u hu
                exact (h.2.1.2.2 u (List.mem_of_getElem? hu)).2.1
              · unfold I64; omega
          have h4 := gFloor_int (t := r.1 - t.2.2.1) (e := rEvery r.2.1.2 j) (by unfold In64 at h1 h2; unfold I64; omega) h3
          unfold I64 at h4 ⊢
          omega
      split
      · exact hg
      · rename_i f hf
        have hf2 := h.2.2.2 f (List.mem_of_getElem? hf)
        unfold I64 at hg ⊢
        unfold In64 at hf2
        omega
  unfold rFrom
  split
  · unfold I64; omega
  · exact key _

theorem mSrc_in {p : PlanL} (h : MFit p) (j : Nat) : In64 (mSrc p j) := by
  unfold mSrc
  split
  · rename_i i hi
    exact h.2.2 i (List.mem_of_getElem? hi)
  · unfold In64; omega

theorem ceil_named2 {t e r : Int} (hr : gCeil t e = r) (ht : I64 t) (he : I64 e) (w : World) : Calls Tryz.prog 108 #[.int .i64 t, .int .i64 e] w fun x w' => x = .returned (.int .i64 r) ∧ Below w.heap.size w w' := by
  rw [← hr]
  refine (Ceil_any t e ht he w).mono ?_
  rintro x w' ⟨rfl, q, rfl⟩
  exact ⟨rfl, below_drewN (Below.refl _ _) q⟩

/-- The bases of the first i tiers. -/
def mPre (p : PlanL) (r : RchL) (i : Nat) : List Int := (mBases p r).take i

theorem mPre_succ {p : PlanL} {r : RchL} {i : Nat} {x : TierL} (hx : p.1.2[i]? = some x) : mPre p r (i + 1) = mPre p r i ++ [gCeil (rFrom r (mSrc p i)) x.2.1] := by
  unfold mPre
  have : (mBases p r)[i]? = some (gCeil (rFrom r (mSrc p i)) x.2.1) := by
    unfold mBases
    rw [List.getElem?_mapIdx, hx]
    rfl
  rw [List.take_add_one, this]
  rfl

theorem mBases_len (p : PlanL) (r : RchL) : (mBases p r).length = p.1.2.length := by unfold mBases; rw [List.length_mapIdx]

set_option maxRecDepth 20000 in
set_option maxHeartbeats 6400000 in
theorem bases_any (v rv : Value) (p : PlanL) (r : RchL) (w : World) (fp : MFit p) (fr : RFit r) (hv : PlanRow w v p) (hr : RchRow w rv r) :
    Calls Tryz.prog 23 #[v, rv] w fun x w' => ∃ u, x = .returned u ∧ w'.ownsRow w.heap.size 3 1 u (mBases p r).length ((mBases p r).map (Value.int .i64)) ∧ Below w.heap.size w w' := by
  have FP := Hid.of fp
  have FR := Hid.of fr
  have HV := Hid.of hv
  have HR := Hid.of hr
  obtain ⟨s, f, rfl, hs, hf, -, -⟩ := hv
  obtain ⟨rs, rf, rfl, -, -, -, -⟩ := hr
  have HS := Hid.of hs
  obtain ⟨sa, sc, rfl, -⟩ := hs
  unfold rVal at HR ⊢
  unfold plVal at HV ⊢
  obtain ⟨n, hn⟩ : ∃ n, p.1.1 = n := ⟨_, rfl⟩
  obtain ⟨N, hN⟩ : ∃ N, p.1.2.length = N := ⟨_, rfl⟩
  obtain ⟨now, hnow⟩ : ∃ now, r.1 = now := ⟨_, rfl⟩
  obtain ⟨rn, hrn⟩ : ∃ n, r.2.1.1 = n := ⟨_, rfl⟩
  rw [hn, hN] at HV
  rw [hnow, hrn] at HR
  rw [hN] at HS
  rw [hn, hN, hnow, hrn]
  obtain ⟨B, hB⟩ : ∃ B, w.heap.size = B := ⟨_, rfl⟩
  obtain ⟨w1, hw1⟩ : ∃ w1, (w.alloc (.cells #[.string n, .slice sa N sc, f] 49)).alloc (.cells #[.int .i64 now, .string rn, rs, rf] 47) = w1 := ⟨_, rfl⟩
  have htwo : Below w.heap.size w w1 ∧ w1.heap.size = B + 2 ∧ w1.heap[B]? = some (.cells #[.string n, .slice sa N sc, f] 49 (0, 0)) ∧ w1.heap[B + 1]? = some (.cells #[.int .i64 now, .string rn, rs, rf] 47 (0, 0)) := by
    rw [← hw1, ← hB]
    obtain ⟨wa, ha⟩ : ∃ wa, w.alloc (.cells #[.string n, .slice sa N sc, f] 49) = wa := ⟨_, rfl⟩
    have a0 : wa.heap[w.heap.size]? = some (.cells #[.string n, .slice sa N sc, f] 49 (0, 0)) := by rw [← ha]; exact (MapKept.heap_alloc w _).1
    have asz : wa.heap.size = w.heap.size + 1 := by rw [← ha]; simp
    have ab : Below w.heap.size w wa := by rw [← ha]; exact (Below.refl _ _).alloc (Nat.le_refl _) _
    rw [ha]
    obtain ⟨wb, hb⟩ : ∃ wb, wa.alloc (.cells #[.int .i64 now, .string rn, rs, rf] 47) = wb := ⟨_, rfl⟩
    have b0 : wb.heap[w.heap.size + 1]? = some (.cells #[.int .i64 now, .string rn, rs, rf] 47 (0, 0)) := by rw [← hb, ← asz]; exact (MapKept.heap_alloc wa _).1
    have bs : wb.heap.size = w.heap.size + 2 := by rw [← hb]; simp [asz]
    have bb : Below wa.heap.size wa wb := by rw [← hb]; exact (Below.refl _ _).alloc (Nat.le_refl _) _
    rw [hb]
    exact ⟨ab.trans (bb.mono (by omega)), bs, by rw [bb.block _ (by omega)]; exact a0, b0⟩
  obtain ⟨b1, z1, k0, k1⟩ := htwo
  have CS1 : Hid (Dc w1 [(⟨B, 0, none⟩, .string n), (⟨B, 1, none⟩, .slice sa N sc), (⟨B, 2, none⟩, f), (⟨B + 1, 0, none⟩, .int .i64 now), (⟨B + 1, 1, none⟩, .string rn), (⟨B + 1, 2, none⟩, rs), (⟨B + 1, 3, none⟩, rf)]) := Hid.of (Dc.app (Dc.one k0 (i := 0) rfl) (Dc.app (Dc.one k0 (i := 1) rfl) (Dc.app (Dc.one k0 (i := 2) rfl) (Dc.app (Dc.one k1 (i := 0) rfl) (Dc.app (Dc.one k1 (i := 1) rfl) (Dc.app (Dc.one k1 (i := 2) rfl) (Dc.one k1 (i := 3) rfl)))))))
  have B1 := Hid.of b1
  have Z1 := Hid.of z1
  have HW := Hid.of hw1
  have HBB := Hid.of hB
  have NP := Hid.of hN
  clear hw1 b1 z1 k0 k1 hB fp fr hn hN hnow hrn hf
  obtain ⟨i0, hi, hz0, hz1, hz2⟩ := info_parts int_info'
  have HI := Hid.of hi
  have HZ0 := Hid.of hz0
  have HZ1 := Hid.of hz1
  have HZ2 := Hid.of hz2
  clear hi hz0 hz1 hz2
  obtain ⟨q0, q1⟩ : w1.cell? ⟨B, 0, none⟩ = some (.string n) ∧ w1.cell? ⟨B, 1, none⟩ = some (.slice sa N sc) := ⟨CS1.out.head, CS1.out.tail.head⟩
  go_enter Tryz.func23, Tryz.ntmps23
  go_upto_region 1 with fail
  rw [HW.out, HBB.out]
  clear HW
  go_wp2
  clear q0 q1
  go_loopg [5, 12] N (fun kx lv iv wr => ∃ (j : Nat) (v : Value), iv = .int .i64 j ∧ v = lv ∧ j ≤ N ∧ N - j ≤ kx ∧ Hid (Dc wr [(⟨B, 0, none⟩, .string n), (⟨B, 1, none⟩, .slice sa N sc), (⟨B, 2, none⟩, f), (⟨B + 1, 0, none⟩, .int .i64 now), (⟨B + 1, 1, none⟩, .string rn), (⟨B + 1, 2, none⟩, rs), (⟨B + 1, 3, none⟩, rf)]) ∧ Hid (wr.ownsRow w1.heap.size 3 1 v j ((mPre p r j).map (Value.int .i64))) ∧ Hid (Below w.heap.size w wr) ∧ Hid (w1.heap.size ≤ wr.heap.size))
  case atStart => exact ⟨0, _, rfl, rfl, Nat.zero_le _, Nat.le_refl _, CS1, Hid.of (World.ownsRow_nil _ _ _ _), B1, Hid.of (Nat.le_refl _)⟩
  case round =>
    clear CS1 B1
    obtain ⟨j, v, rfl, rfl, hj, hk, CS, OW, HB, HSZ⟩ := hrel
    have j0 : (0 : Int) ≤ (j : Int) := Int.natCast_nonneg _
    have n9 : N ≤ 1000000 := by have := FP.out.1.1; rw [NP.out] at this; exact this
    by_cases hlt : (j : Int) < (N : Int)
    · obtain ⟨t, ht⟩ : ∃ t, p.1.2[j]? = some t := ⟨_, List.getElem?_eq_getElem (by have := NP.out; omega)⟩
      obtain ⟨b1, o1, rfl, g1, d0, d1, d2, d3⟩ := p_at (HS.out.kept HB.out) j t ht
      have HX2 := Hid.of (mPre_succ (r := r) ht)
      have TE : Hid (I64 t.2.1) := Hid.of (FP.out.1.2.2 t (List.mem_of_getElem? ht)).2.1
      obtain ⟨t0, ev, t2, sh⟩ := t
      simp only at d0 d1 d2 d3 HX2 TE
      have HJ : Hid (j < N) := Hid.of (by omega)
      obtain ⟨va, vc, rfl, -⟩ := own_one OW.out
      obtain ⟨y, hy⟩ : ∃ y, wr.heap.size = y := ⟨_, rfl⟩
      obtain ⟨w6, hw6⟩ : ∃ w6, wr.alloc (.cells #[.string t0, .int .i64 ev, .int .i64 t2, .int .i64 sh] 89) = w6 := ⟨_, rfl⟩
      have z6 : w6.heap[y]? = some (.cells #[.string t0, .int .i64 ev, .int .i64 t2, .int .i64 sh] 89 (0, 0)) := by rw [← hw6, ← hy]; exact (MapKept.heap_alloc wr _).1
      have b6 : Below wr.heap.size wr w6 := by rw [← hw6]; exact (Below.refl _ _).alloc (Nat.le_refl _) _
      have OW6 := Hid.of ((Step.of_below (F := fun _ => False) b6).own OW.out (fun _ _ c => c))
      have B6 := Hid.of (HB.out.trans (b6.mono HB.out.size))
      have HVY : Hid (∀ g, (Value.slice va j vc).ownBlock = some g → g < y ∧ w1.heap.size ≤ g) := Hid.of (fun g hg => by rw [← hy]; exact ⟨(OW.out.lt g hg).2, (OW.out.lt g hg).1⟩)
      have CS6 : Hid (Dc w6 [(⟨B, 0, none⟩, .string n), (⟨B, 1, none⟩, .slice (some ⟨b1, o1, none⟩) N sc), (⟨B, 2, none⟩, f), (⟨B + 1, 0, none⟩, .int .i64 now), (⟨B + 1, 1, none⟩, .string rn), (⟨B + 1, 2, none⟩, rs), (⟨B + 1, 3, none⟩, rf), (⟨y, 1, none⟩, .int .i64 ev)]) := Hid.of (Dc.app (CS.out.next b6) (Dc.one z6 (i := 1) rfl))
      have HLY : Hid (∀ x ∈ [(⟨B, 0, none⟩, .string n), (⟨B, 1, none⟩, .slice (some ⟨b1, o1, none⟩) N sc), (⟨B, 2, none⟩, f), (⟨B + 1, 0, none⟩, .int .i64 now), (⟨B + 1, 1, none⟩, .string rn), (⟨B + 1, 2, none⟩, rs), (⟨B + 1, 3, none⟩, rf), ((⟨y, 1, none⟩ : Addr), Value.int .i64 ev)], x.1.block < w1.heap.size ∨ x.1.block = y) := Hid.of (fun x hx => by
        have := Z1.out
        simp only [List.mem_cons, List.not_mem_nil, or_false] at hx
        rcases hx with rfl | rfl | rfl | rfl | rfl | rfl | rfl | rfl <;> first | (right; rfl) | (left; simp only; omega))
      have S6 : Hid (w1.heap.size ≤ w6.heap.size) := Hid.of (Nat.le_trans HSZ.out b6.size)
      obtain ⟨sx, hsx⟩ : ∃ sx, mSrc p j = sx := ⟨_, rfl⟩
      have HSI := Hid.of (mSrc_in FP.out j)
      rw [hsx] at HSI HX2
      obtain ⟨fx, hfx⟩ : ∃ fx, rFrom r sx = fx := ⟨_, rfl⟩
      have HFI := Hid.of (rFrom_in2 FR.out sx)
      rw [hfx] at HFI HX2
      obtain ⟨cx, hcx⟩ : ∃ cx, gCeil fx ev = cx := ⟨_, rfl⟩
      rw [hcx] at HX2
      have HSX := Hid.of hsx
      have HFX := Hid.of hfx
      have HCX := Hid.of hcx
      have RR : ∀ u, Below w.heap.size w u → Hid (RchRow u (.agg #[.int .i64 now, .string rn, rs, rf]) r) := fun u hu => Hid.of (HR.out.kept hu)
      have PR : ∀ u, Below w.heap.size w u → Hid (PlanRow u (.agg #[.string n, .slice (some ⟨b1, o1, none⟩) N sc, f]) p) := fun u hu => Hid.of (HV.out.kept hu)
      have HW := Hid.of hw6
      have HY := Hid.of hy
      clear ht g1 z6 b6 CS OW HB HSZ hw6 hy hsx hfx hcx
      go_upto_region 5 with fail
      rw [HW.out, HY.out]
      clear d0 d1 d2 d3 HW HY
      obtain ⟨WD, hWD⟩ : ∃ WD, w6.drew = WD := ⟨_, rfl⟩
      have b6d : Below w6.heap.size w6 WD := by rw [← hWD]; exact (Below.refl _ _).drew
      have B6d := Hid.of (B6.out.trans (b6d.mono B6.out.size))
      have CS6d := Hid.of (CS6.out.next b6d)
      have OW6d := Hid.of ((Step.of_below (F := fun _ => False) b6d).own OW6.out (fun _ _ c => c))
      have S6d : Hid (w1.heap.size ≤ WD.heap.size) := Hid.of (Nat.le_trans S6.out b6d.size)
      clear b6d B6 OW6 S6
      have d0 := (CS6.out).head
      have d1 := ((CS6.out).tail).head
      have d2 := (((CS6.out).tail).tail).head
      have d3 := ((((CS6.out).tail).tail).tail).head
      have d4 := (((((CS6.out).tail).tail).tail).tail).head
      have d5 := ((((((CS6.out).tail).tail).tail).tail).tail).head
      have d6 := (((((((CS6.out).tail).tail).tail).tail).tail).tail).head
      have d7 := ((((((((CS6.out).tail).tail).tail).tail).tail).tail).tail).head
      refine wp_region_noPanic ?_
      refine wp_region_held_drew (S := fun w' => w'.cell? ⟨B, 0, none⟩ = some (.string n) ∧ w'.cell? ⟨B, 1, none⟩ = some (.slice (some ⟨b1, o1, none⟩) N sc) ∧ w'.cell? ⟨B, 2, none⟩ = some (f) ∧ w'.cell? ⟨B + 1, 0, none⟩ = some (.int .i64 now) ∧ w'.cell? ⟨B + 1, 1, none⟩ = some (.string rn) ∧ w'.cell? ⟨B + 1, 2, none⟩ = some (rs) ∧ w'.cell? ⟨B + 1, 3, none⟩ = some (rf) ∧ w'.cell? ⟨y, 1, none⟩ = some (.int .i64 ev)) (by kernel_rfl) ?_ (fun hHeld => ?_)
      · exact ⟨d0, d1, d2, d3, d4, d5, d6, d7⟩
      refine takeOp 0 (o := ⟨_, _, _, _, _, _⟩) (v := ?_) rfl (by kernel_rfl) (by rfl) hHeld ?_ ?_; rotate_left; (next => intro w' hSw; (try dsimp only at hSw); go_simp; all_goals with_reducible rfl); simp only [Act.put, pA9, pB9, pC9]
      refine takeOp 1 (o := ⟨_, _, _, _, _, _⟩) (v := ?_) rfl (by kernel_rfl) (by rfl) hHeld ?_ ?_; rotate_left; (next => intro w' hSw; (try dsimp only at hSw); go_simp; all_goals with_reducible rfl); simp only [Act.put, pA9, pB9, pC9]
      refine takeOp 2 (o := ⟨_, _, _, _, _, _⟩) (v := ?_) rfl (by kernel_rfl) (by rfl) hHeld ?_ ?_; rotate_left; (next => intro w' hSw; (try dsimp only at hSw); go_simp; all_goals with_reducible rfl); simp only [Act.put, pA9, pB9, pC9]
      refine takeOp 3 (o := ⟨_, _, _, _, _, _⟩) (v := ?_) rfl (by kernel_rfl) (by rfl) hHeld ?_ ?_; rotate_left; (next => intro w' hSw; (try dsimp only at hSw); go_simp; all_goals with_reducible rfl); simp only [Act.put, pA9, pB9, pC9]
      refine takeOp 6 (o := ⟨_, _, _, _, _, _⟩) (v := ?_) rfl (by kernel_rfl) (by rfl) hHeld ?_ ?_; rotate_left; (next => intro w' hSw; (try dsimp only at hSw); go_simp; all_goals with_reducible rfl); simp only [Act.put, pA9, pB9, pC9]
      refine takeOp 7 (o := ⟨_, _, _, _, _, _⟩) (v := ?_) rfl (by kernel_rfl) (by rfl) hHeld ?_ ?_; rotate_left; (next => intro w' hSw; (try dsimp only at hSw); go_simp; all_goals with_reducible rfl); simp only [Act.put, pA9, pB9, pC9]
      refine wpAnyH_ready (rs := [4]) (by kernel_rfl) (by simp) ?_
      refine AllReadyH.cons (o := ⟨_, _, _, _, _, _⟩) rfl (fun K hK => ?_) AllReadyH.nil
      go_simp
      refine (psource_any _ p j _ (PR _ B6d.out).out).mono ?_
      rintro e w1a ⟨rfl, b1a⟩
      rw [HSX.out]
      have B1a := Hid.of (B6d.out.trans (b1a.mono B6d.out.size))
      have CS1a := Hid.of (CS6d.out.next b1a)
      have OW1a := Hid.of ((Step.of_below (F := fun _ => False) b1a).own OW6d.out (fun _ _ c => c))
      have S1a : Hid (w1.heap.size ≤ w1a.heap.size) := Hid.of (Nat.le_trans S6d.out b1a.size)
      clear b1a B6d CS6d OW6d S6d CS6 hWD
      clear hHeld d0 d1 d2 d3 d4 d5 d6 d7
      have d0 := (CS1a.out).head
      have d1 := ((CS1a.out).tail).head
      have d2 := (((CS1a.out).tail).tail).head
      have d3 := ((((CS1a.out).tail).tail).tail).head
      have d4 := (((((CS1a.out).tail).tail).tail).tail).head
      have d5 := ((((((CS1a.out).tail).tail).tail).tail).tail).head
      have d6 := (((((((CS1a.out).tail).tail).tail).tail).tail).tail).head
      have d7 := ((((((((CS1a.out).tail).tail).tail).tail).tail).tail).tail).head
      refine hK.out _ _ ⟨d0, d1, d2, d3, d4, d5, d6, d7⟩ (fun hHeld => ?_)
      clear hK K
      try simp only [Act.put, pA9, pB9, pC9]
      refine wpAnyH_ready (rs := [5]) (by kernel_rfl) (by simp) ?_
      refine AllReadyH.cons (o := ⟨_, _, _, _, _, _⟩) rfl (fun K hK => ?_) AllReadyH.nil
      go_simp
      refine (reaches.from_ _ r sx _ trivial FR.out HSI.out (RR _ B1a.out).out).mono ?_
      rintro e w2a ⟨rfl, b2a⟩
      rw [HFX.out]
      have B2a := Hid.of (B1a.out.trans (b2a.mono B1a.out.size))
      have CS2a := Hid.of (CS1a.out.next b2a)
      have OW2a := Hid.of ((Step.of_below (F := fun _ => False) b2a).own OW1a.out (fun _ _ c => c))
      have S2a : Hid (w1.heap.size ≤ w2a.heap.size) := Hid.of (Nat.le_trans S1a.out b2a.size)
      clear b2a B1a CS1a OW1a S1a
      clear hHeld d0 d1 d2 d3 d4 d5 d6 d7
      have d0 := (CS2a.out).head
      have d1 := ((CS2a.out).tail).head
      have d2 := (((CS2a.out).tail).tail).head
      have d3 := ((((CS2a.out).tail).tail).tail).head
      have d4 := (((((CS2a.out).tail).tail).tail).tail).head
      have d5 := ((((((CS2a.out).tail).tail).tail).tail).tail).head
      have d6 := (((((((CS2a.out).tail).tail).tail).tail).tail).tail).head
      have d7 := ((((((((CS2a.out).tail).tail).tail).tail).tail).tail).tail).head
      refine hK.out _ _ ⟨d0, d1, d2, d3, d4, d5, d6, d7⟩ (fun hHeld => ?_)
      clear hK K
      try simp only [Act.put, pA9, pB9, pC9]
      refine wpAnyH_ready (rs := [8]) (by kernel_rfl) (by simp) ?_
      refine AllReadyH.cons (o := ⟨_, _, _, _, _, _⟩) rfl (fun K hK => ?_) AllReadyH.nil
      go_simp
      refine (ceil_named2 HCX.out HFI.out TE.out _).mono ?_
      rintro e w3a ⟨rfl, b3a⟩
      have B3a := Hid.of (B2a.out.trans (b3a.mono B2a.out.size))
      have CS3a := Hid.of (CS2a.out.next b3a)
      have OW3a := Hid.of ((Step.of_below (F := fun _ => False) b3a).own OW2a.out (fun _ _ c => c))
      have S3a : Hid (w1.heap.size ≤ w3a.heap.size) := Hid.of (Nat.le_trans S2a.out b3a.size)
      clear b3a B2a CS2a OW2a S2a
      clear hHeld d0 d1 d2 d3 d4 d5 d6 d7
      have d0 := (CS3a.out).head
      have d1 := ((CS3a.out).tail).head
      have d2 := (((CS3a.out).tail).tail).head
      have d3 := ((((CS3a.out).tail).tail).tail).head
      have d4 := (((((CS3a.out).tail).tail).tail).tail).head
      have d5 := ((((((CS3a.out).tail).tail).tail).tail).tail).head
      have d6 := (((((((CS3a.out).tail).tail).tail).tail).tail).tail).head
      have d7 := ((((((((CS3a.out).tail).tail).tail).tail).tail).tail).tail).head
      refine hK.out _ _ ⟨d0, d1, d2, d3, d4, d5, d6, d7⟩ (fun hHeld => ?_)
      clear hK K
      try simp only [Act.put, pA9, pB9, pC9]
      refine wpAnyH_ready (rs := [9]) (by kernel_rfl) (by simp) ?_
      refine AllReadyH.cons (o := ⟨_, _, _, _, _, _⟩) rfl (fun K hK => ?_) AllReadyH.nil
      go_simp
      obtain ⟨w4a, hw4a⟩ : ∃ w4a, w3a.alloc (.cells #[.int .i64 cx] 3) = w4a := ⟨_, rfl⟩
      have b4a : Below w3a.heap.size w3a w4a := by rw [← hw4a]; exact (Below.refl _ _).alloc (Nat.le_refl _) _
      have K4 : Hid (Cells w4a w3a.heap.size 0 [.int .i64 cx]) := Hid.of (by rw [← hw4a]; exact one_cell w3a _ _)
      have B4a := Hid.of (B3a.out.trans (b4a.mono B3a.out.size))
      have CS4a := Hid.of (CS3a.out.next b4a)
      have OW4a := Hid.of ((Step.of_below (F := fun _ => False) b4a).own OW3a.out (fun _ _ c => c))
      have S4a : Hid (w1.heap.size ≤ w4a.heap.size) := Hid.of (Nat.le_trans S3a.out b4a.size)
      rw [hw4a]
      clear hw4a b4a B3a CS3a OW3a S3a
      clear hHeld d0 d1 d2 d3 d4 d5 d6 d7
      have d0 := (CS4a.out).head
      have d1 := ((CS4a.out).tail).head
      have d2 := (((CS4a.out).tail).tail).head
      have d3 := ((((CS4a.out).tail).tail).tail).head
      have d4 := (((((CS4a.out).tail).tail).tail).tail).head
      have d5 := ((((((CS4a.out).tail).tail).tail).tail).tail).head
      have d6 := (((((((CS4a.out).tail).tail).tail).tail).tail).tail).head
      have d7 := ((((((((CS4a.out).tail).tail).tail).tail).tail).tail).tail).head
      refine hK.out _ _ ⟨d0, d1, d2, d3, d4, d5, d6, d7⟩ (fun hHeld => ?_)
      clear hK K
      try simp only [Act.put, pA9, pB9, pC9]
      refine wpAnyH_ready (rs := [10]) (by kernel_rfl) (by simp) ?_
      refine AllReadyH.cons (o := ⟨_, _, _, _, _, _⟩) rfl (fun K hK => ?_) AllReadyH.nil
      refine step_append_keep rfl (.tmp 17) (.tmp 26) 25 rfl w1.heap.size 3 i0 _ 1 8 Tryz.underlying25 HI.out HZ0.out HZ1.out HZ2.out rfl (by decide) (.slice va j vc) j ((mPre p r j).map (Value.int .i64)) (by simp [Act.eval]) OW4a.out w3a.heap.size 0 1 1 [.int .i64 cx] (by simp [Act.eval]) K4.out rfl (by simp [Value.oneCell']) (by unfold maxLen; omega) (by omega) S4a.out ?_
      intro v9 w9 o9 g9 _ m9
      have OW9 : Hid (w9.ownsRow w1.heap.size 3 1 v9 (j + 1) ((mPre p r (j + 1)).map (Value.int .i64))) := Hid.of (by rw [HX2.out, List.map_append]; exact o9)
      have B9 : Hid (Below w.heap.size w w9) := Hid.of (B4a.out.grown g9 B4a.out.size (fun k hk => by have := (HVY.out k hk).2; have := Z1.out; have := HBB.out; omega))
      have CS9b := Hid.of (CS4a.out.grown g9 (fun x hx c => by rcases HLY.out x hx with h | h <;> (have h1 := HVY.out _ c.symm; omega)))
      have S9 : Hid (w1.heap.size ≤ w9.heap.size) := Hid.of (Nat.le_trans S4a.out g9.size)
      clear o9 g9 m9 B4a CS4a OW4a S4a K4
      clear hHeld d0 d1 d2 d3 d4 d5 d6 d7
      have d0 := (CS9b.out).head
      have d1 := ((CS9b.out).tail).head
      have d2 := (((CS9b.out).tail).tail).head
      have d3 := ((((CS9b.out).tail).tail).tail).head
      have d4 := (((((CS9b.out).tail).tail).tail).tail).head
      have d5 := ((((((CS9b.out).tail).tail).tail).tail).tail).head
      have d6 := (((((((CS9b.out).tail).tail).tail).tail).tail).tail).head
      have d7 := ((((((((CS9b.out).tail).tail).tail).tail).tail).tail).tail).head
      refine hK.out _ _ ⟨d0, d1, d2, d3, d4, d5, d6, d7⟩ (fun hHeld => ?_)
      clear hK K
      try simp only [Act.put, pA9, pB9, pC9]
      refine takeOp 11 (o := ⟨_, _, _, _, _, _⟩) (v := ?_) rfl (by kernel_rfl) (by rfl) hHeld ?_ ?_; rotate_left; (next => intro w' hSw; (try dsimp only at hSw); go_simp; all_goals with_reducible rfl); simp only [Act.put, pA9, pB9, pC9]
      refine wpAnyH_done (by kernel_rfl) ?_ _
      refine NoPanic.normal ?_
      clear hHeld d0 d1 d2 d3 d4 d5 d6 d7
      have CS9 : Hid (Dc w9 [(⟨B, 0, none⟩, .string n), (⟨B, 1, none⟩, .slice (some ⟨b1, o1, none⟩) N sc), (⟨B, 2, none⟩, f), (⟨B + 1, 0, none⟩, .int .i64 now), (⟨B + 1, 1, none⟩, .string rn), (⟨B + 1, 2, none⟩, rs), (⟨B + 1, 3, none⟩, rf)]) := Hid.of (Dc.left (l := [(⟨y, 1, none⟩, .int .i64 ev)]) CS9b.out)
      clear CS9b
      go_wp2
      go_roundg (N - (j + 1))
      case measure => have := HJ.out; omega
      case rel => exact ⟨j + 1, _, by go_num, rfl, HJ.out, Nat.le_refl _, CS9, OW9, B9, S9⟩
    · obtain rfl : j = N := by omega
      have e : Hid (mPre p r j = mBases p r ∧ (mBases p r).length = j) := Hid.of ⟨by unfold mPre; rw [List.take_of_length_le (by rw [mBases_len, NP.out]; exact Nat.le_refl _)], by rw [mBases_len, NP.out]⟩
      go_wp2
      go_ret
      refine ⟨_, rfl, ?_, HB.out⟩
      have h9 := own_mono OW.out (D := w.heap.size) (by have := Z1.out; have := HBB.out; omega)
      rw [e.out.1] at h9
      rw [e.out.2]
      exact h9

end Go.Proofs.YtbhcafginmkaaaaGreat

namespace Go.Proofs.YtbhcafginmkaaaaGreat
open Go.RowKit Go.Lib

/-- A plan's block as it is made. -/
abbrev ZBlk (w : World) (y : Nat) : Prop := LBlk w y ⟨#[]⟩ (.slice none 0 0) (.slice none 0 0)

theorem mFurN_le {r : RchL} {e : Int} : ∀ (l : List TierL) (i best : Nat), mFurN r e i best l ≤ max best (i + l.length)
  | [], i, best => by show best ≤ _; omega
  | x :: l, i, best => by
    show mFurN r e (i + 1) _ l ≤ _
    have h2 : (if gOn e x.2.1 = true ∧ rFromN r i ≤ rFromN r best then i else best) ≤ max best i := by split <;> omega
    refine Nat.le_trans (mFurN_le (r := r) (e := e) l (i + 1) _) ?_
    rw [List.length_cons]
    omega

theorem fur_in (r : RchL) (e : Int) (l : List TierL) (h : l.length ≤ 1000000) : In64 ((mFur r e l : Nat) : Int) := by
  have := mFurN_le (r := r) (e := e) l 0 0
  unfold In64 mFur
  omega

end Go.Proofs.YtbhcafginmkaaaaGreat

namespace Go.Proofs.YtbhcafginmkaaaaGreat
open Go.RowKit Go.Lib

def fifPol : PolL := (⟨#[112]⟩, [(⟨#[114, 97, 119]⟩, 1, 50, 1), (⟨#[102, 105, 102, 116, 105, 101, 115]⟩, 50, 5000, 3)])

theorem fif_fit : PFit fifPol := by
  refine ⟨by decide, by decide, ?_⟩
  intro x hx
  unfold fifPol at hx
  simp only [List.mem_cons, List.not_mem_nil, or_false] at hx
  rcases hx with rfl | rfl
  · exact ⟨by decide, ⟨by decide, by decide⟩, ⟨by decide, by decide⟩, ⟨by decide, by decide⟩⟩
  · exact ⟨by decide, ⟨by decide, by decide⟩, ⟨by decide, by decide⟩, ⟨by decide, by decide⟩⟩

theorem fif_mfit : MFit (fifPol, [0, 1]) := ⟨fif_fit, by decide, fun x hx => by
  simp only [List.mem_cons, List.not_mem_nil, or_false] at hx
  rcases hx with rfl | rfl <;> exact ⟨by decide, by decide⟩⟩

set_option maxRecDepth 20000 in
set_option maxHeartbeats 800000 in
theorem Fifties_any (w : World) : Calls Tryz.prog 96 #[] w fun e w' => ∃ v, e = .returned v ∧ PolRow w' v fifPol ∧ Below w.heap.size w w' := by
  go_enter Tryz.func96, Tryz.ntmps96
  go_wp2_with fail
  refine bodyPost_ret (results_cell_row (P := Tryz.prog) rfl _ _ w.heap.size 24 #[.string ⟨#[112]⟩, .slice (some ⟨w.heap.size + 1, 0, none⟩) 2 2] (0, 0) _ rfl ((Go.heap_alloc_old _ _ (by simp)).trans (Go.heap_alloc_new _ _)) Tryz.underlying24 rfl (by kernel_rfl)) rfl ?_
  have hs : (w.alloc (.cells #[.string ⟨#[112]⟩, .slice (some ⟨w.heap.size + 1, 0, none⟩) 2 2] 24)).heap.size = w.heap.size + 1 := by simp
  have hc := new_cells (w.alloc (.cells #[.string ⟨#[112]⟩, .slice (some ⟨w.heap.size + 1, 0, none⟩) 2 2] 24)) #[.string ⟨#[114, 97, 119]⟩, .int .i64 1, .int .i64 50, .int .i64 1, .string ⟨#[102, 105, 102, 116, 105, 101, 115]⟩, .int .i64 50, .int .i64 5000, .int .i64 3] 89
  rw [hs] at hc
  exact ⟨_, rfl, ⟨_, rfl, ⟨_, _, rfl, .inr ⟨w.heap.size + 1, 0, rfl, by simp, hc⟩⟩, Nat.le_refl _⟩, ((Below.refl _ _).alloc (Nat.le_refl _) _).alloc (by simp) _⟩

end Go.Proofs.YtbhcafginmkaaaaGreat
