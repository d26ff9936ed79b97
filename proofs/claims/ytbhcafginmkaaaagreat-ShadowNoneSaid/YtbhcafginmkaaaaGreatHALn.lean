/-
  What alive of package shadow's statements answers: true.
-/
import Derived.Test.YtbhcafginmkaaaaGreatN48
import Derived.Test.YtbhcafginmkaaaaGreatN40
import Derived.Test.YtbhcafginmkaaaaGreatN23
namespace Go.Proofs.YtbhcafginmkaaaaGreat
open Go.RowKit Go.Lib

def hRch : RchL := (50, webPol, [])
def hSam : List SamL := [(⟨#[97]⟩, 21, 4)]
def hG4 : Ag := ⟨1, 0, 4, 4, 4⟩
def hTT : List (List TRec) := [[⟨⟨#[97]⟩, 21, hG4⟩], [⟨⟨#[97]⟩, 20, hG4⟩]]
def hPl : PlanL := (fifPol, [0, 1])
def hBu : List (List TRec) := [[⟨⟨#[97]⟩, 21, hG4⟩], [⟨⟨#[97]⟩, 0, hG4⟩]]

theorem ha_new : iNewE webPol 50 [] = 0 := by decide +kernel
theorem ha_check : iCheck hRch hSam = 0 := by decide +kernel
theorem ha_put : iPut hRch [[], []] hSam = hTT := by kernel_rfl
theorem ha_make : mErr webPol fifPol = 0 ∧ mMake webPol hRch fifPol = hPl := by decide +kernel
theorem ha_ne : iNewE hPl.1 hRch.1 (mBases hPl hRch) = 0 := by decide +kernel
theorem ha_built : mBuilt hPl hRch hTT = hBu := by kernel_rfl
theorem ha_need : iNeed (mTo hPl hRch) hBu = 2 := by kernel_rfl
theorem ha_bound : mBound hPl 2 = 8 := by decide +kernel
theorem ha_at : mAt hPl 0 = ((1, 0, 0), true) := by decide +kernel
theorem ha_steps : mSteps hPl = 6 := by decide +kernel
theorem ha_fill : hFill hPl [] hBu 0 0 = [[⟨⟨#[97]⟩, 21, hG4⟩]] := by kernel_rfl
theorem ha_fits : HFits hPl hRch hTT.length := by
  refine ⟨⟨by decide +kernel, by decide, fun j x hx => ?_⟩, ha_ne⟩
  match j, hx with
  | 0, hx => cases hx; exact ⟨by decide, by decide, by decide +kernel⟩
  | 1, hx => cases hx; exact ⟨by decide, by decide, by decide +kernel⟩
  | j + 2, hx => cases hx
theorem ha_small {m : Nat} (hm : 1 ≤ m) : (∀ l ∈ hTT, l.length ≤ m) ∧ (∀ l ∈ hBu, l.length ≤ m) := by
  constructor <;> (intro l hl; simp only [hTT, hBu, List.mem_cons, List.not_mem_nil, or_false] at hl; rcases hl with rfl | rfl <;> exact hm)
theorem hG4_in : AgIn hG4 := by unfold AgIn hG4; decide
theorem ha_tfit : ∀ l ∈ hTT, ∀ z ∈ l, TFit z := by
  intro l hl z hz
  simp only [hTT, List.mem_cons, List.not_mem_nil, or_false] at hl
  rcases hl with rfl | rfl <;> (rw [List.mem_singleton] at hz; subst hz; exact ⟨by unfold maxLen; decide, by unfold TIn64; decide, hG4_in⟩)
theorem ha_hpl : HPl hPl := ⟨by decide +kernel, fif_mfit, by decide, fun x hx => by
  simp only [hPl, fifPol, List.mem_cons, List.not_mem_nil, or_false] at hx
  rcases hx with rfl | rfl <;> decide⟩
theorem ha_sfit : ∀ s ∈ hSam, SFit s := by
  intro s hs
  rw [hSam, List.mem_singleton] at hs
  subst hs
  exact ⟨by unfold maxLen; decide, by unfold TIn64; decide, by unfold TIn64; decide⟩
theorem ha_row (w : World) (t : TypeId) : CellRow (w.alloc (.cells #[.string ⟨#[97]⟩, .int .i64 21, .int .i64 4] t)) (.slice (some ⟨w.heap.size, 0, none⟩) 1 1) hSam.length (flat aenc hSam) :=
  ⟨_, _, rfl, .inr ⟨_, 0, rfl, by simp, new_cells w _ t⟩⟩

/-- New tiers of Web's policy at 50. -/
theorem ha_tiers {TS : TableSpec} (S : TiersSpec TS) (hOk : ∀ w, S.Ok w) (v : Value) (w : World) (pr : PolRow w v webPol) : Calls Tryz.prog 56 #[v, .int .i64 50, .slice none 0 0] w fun x w' => ∃ q F, x = .returned (.tuple #[tptr q, .int .i64 0]) ∧ S.Rep w' q hRch [[], []] F ∧ (∀ k, F.all k → w.heap.size ≤ k) ∧ Below w.heap.size w w' := by
  refine (S.new v (.slice none 0 0) webPol 50 [] w (hOk w) pr (by decide) (by decide) (by
    intro x hx
    have h := web_fit.2.2 x hx
    refine ⟨?_, h.2⟩
    simp only [webPol, List.mem_cons, List.not_mem_nil, or_false] at hx
    rcases hx with rfl | rfl <;> decide) ⟨by decide, by decide⟩ ⟨_, _, rfl, .inl rfl⟩ (Nat.le_refl _) (by decide) (fun x hx => absurd hx List.not_mem_nil)).mono ?_
  rintro x w' ⟨h1, -, b⟩
  obtain ⟨p, F, rfl, rep, hF⟩ := h1 ha_new
  exact ⟨p, F, rfl, rep, hF, b⟩

set_option maxRecDepth 20000 in
set_option maxHeartbeats 6400000 in
theorem shadowAlive_any {TS : TableSpec} (S : TiersSpec TS) (hOk : ∀ w, S.Ok w) (w : World) : Calls Tryz.prog 71 #[] w fun e w' => e = .returned (.bool true) ∧ Below w.heap.size w w' := by
  have OK := Hid.of hOk
  clear hOk
  go_enter Tryz.func71, Tryz.ntmps71
  go_wp2_with fail
  refine (Web_any _).mono ?_
  rintro e w1 ⟨v, rfl, pr, b1⟩
  have B1 := Hid.of b1
  have hnew := ha_tiers S OK.out v w1 pr
  clear pr b1
  go_wp2_with fail
  refine hnew.mono ?_
  rintro e w2 ⟨pt, F, rfl, rep, hF, b2⟩
  have H2 : Hid (IHere S w.heap.size w w2 pt hRch [[], []] F) := Hid.of ⟨rep, fun k hk => Nat.le_trans B1.out.size (hF k (S.sub rep k hk)), Nat.le_trans B1.out.size b2.size, B1.out.trans (b2.mono B1.out.size)⟩
  clear rep hF b2 hnew B1
  go_wp2_with fail
  obtain ⟨g0, hg0⟩ : ∃ g, w2.heap.size = g := ⟨_, rfl⟩
  obtain ⟨w3, hw3⟩ : ∃ w3, w2.alloc (.cells #[.string ⟨#[97]⟩, .int .i64 21, .int .i64 4] 159) = w3 := ⟨_, rfl⟩
  have b3 : Below w2.heap.size w2 w3 := by rw [← hw3]; exact (Below.refl _ _).alloc (Nat.le_refl _) _
  have hrow : CellRow w3 (.slice (some ⟨g0, 0, none⟩) 1 1) hSam.length (flat aenc hSam) := by rw [← hw3, ← hg0]; exact ha_row w2 _
  have H3 := Hid.of (H2.out.next b3)
  have hoff : Off F.own (.slice (some ⟨g0, 0, none⟩) 1 1) := fun g hg hF => by
    have := S.lt H2.out.rep g (S.sub H2.out.rep g hF)
    simp [Value.ownBlock] at hg
    omega
  rw [hw3, hg0]
  refine (S.put _ hSam (OK.out _) H3.out.rep (by intro l hl; simp only [List.mem_cons, List.not_mem_nil, or_false] at hl; rcases hl with rfl | rfl <;> decide) hrow (Nat.le_refl _) (by decide) (fun _ => hoff) ha_sfit).mono ?_
  rintro e w4 ⟨rfl, F4, rep4, st4⟩
  rw [if_pos ha_check, ha_put] at rep4
  have H4 := Hid.of (H3.out.step rep4 st4)
  clear hw3 hg0 b3 hrow hoff rep4 st4 H2 H3
  rw [ha_check]
  go_wp2_with fail
  refine (Fifties_any _).mono ?_
  rintro e w5 ⟨tv, rfl, pr, b5⟩
  have H5 := Hid.of (H4.out.next b5)
  have hbg := hBegin_any S OK.out H5.out.rep (ha_small (by decide)).1 ha_tfit pr fif_fit (by decide) ha_hpl.t60 ha_make.1 (by rw [show mMake hRch.2.1 hRch fifPol = hPl from ha_make.2]; exact ha_fits) (by rw [show mMake hRch.2.1 hRch fifPol = hPl from ha_make.2, ha_built]; exact (ha_small (by decide)).2)
  rw [show mMake hRch.2.1 hRch fifPol = hPl from ha_make.2, ha_built, ha_need, show mBound hPl ((2 : Nat) : Int) = 8 from ha_bound] at hbg
  clear pr b5 H4
  go_wp2_with fail
  refine hbg.mono ?_
  rintro e w6 ⟨p, s, f, rfl, h6, hfo, b6⟩
  have H6 := Hid.of (H5.out.next b6)
  have DJ : Hid (∀ k, F4.all k → ¬ (hFoot p s f (.slice none 0 0) []).own k) := Hid.of (fun k hk c => by
    have h1 := S.lt H5.out.rep k hk
    have h2 := hfo k (h6.sub c)
    omega)
  have GE : Hid (∀ k, (hFoot p s f (.slice none 0 0) []).own k → w.heap.size ≤ k) := Hid.of (fun k c => Nat.le_trans H5.out.hB (hfo k (h6.sub c)))
  have HH6 := Hid.of h6
  clear hbg h6 hfo b6 H5
  obtain ⟨c0, c1, c2, -, -, -⟩ := HH6.out.c
  have hst := steps_any _ hPl w6 HH6.out.plan fif_mfit
  rw [ha_steps] at hst
  go_wp2_with fail
  refine hst.mono ?_
  rintro e w7 ⟨rfl, b7⟩
  have H7 := Hid.of (H6.out.next b7)
  have HH7 := Hid.of (HH6.out.below b7)
  clear hst b7 H6 HH6 c0 c1 c2
  go_wp2_with fail
  refine (hBound_any HH7.out).mono ?_
  rintro e w8 ⟨rfl, rfl⟩
  have hstep := hStep_fill S OK.out HH7.out ha_hpl H7.out.rep (ha_small (by decide)).1 ha_tfit ha_fits (j := 0) (t := (⟨#[114, 97, 119]⟩, 1, 50, 1)) rfl (k := 0) ha_at ⟨by decide, by decide⟩ (by decide) (by decide) (fun l hl => absurd hl List.not_mem_nil) (by rw [ha_built]; exact (ha_small (by decide)).2) (by rw [ha_built]; decide)
  rw [ha_built, ha_fill] at hstep
  go_wp2_with fail
  refine hstep.mono ?_
  rintro e w9 ⟨rfl, v9, qs9, Fs9, h9, s9⟩
  have HH9 := Hid.of h9
  have R9 := Hid.of (S.kept H7.out.rep s9.own.size (fun k hk => s9.own.block k (S.lt H7.out.rep k hk) (DJ.out k hk)))
  have B9 := Hid.of (s9.own.below H7.out.fr H7.out.hB GE.out)
  clear hstep h9 s9 H7 HH7 DJ GE
  rw [show stVal 1 ((0 : Nat) : Int) 0 = stVal 1 0 0 from rfl]
  obtain ⟨y, w10, hy, hw10, b10, k10⟩ := st_boxed (w := w9) 1 0 0
  have HH10 := Hid.of (HH9.out.below b10)
  have R10 := Hid.of (S.kept R9.out b10.size (fun k hk => b10.block k (S.lt R9.out k hk)))
  have B10 := Hid.of (B9.out.trans (b10.mono B9.out.size))
  have Y10 := Hid.of k10
  have HW := Hid.of hw10
  have HY := Hid.of hy
  clear hy hw10 b10 k10 HH9 R9 B9
  go_upto_region 8 with fail
  rw [HW.out, HY.out]
  clear HW HY
  obtain ⟨t0, t1, t2⟩ := sblk_at Y10.out
  go_wp2_with fail
  refine (hDone_any HH10.out).mono ?_
  rintro e w11 ⟨rfl, rfl⟩
  rw [show (0 : Int) + 1 = 1 from rfl]
  have hrc := hRecords_any HH10.out (fun l hl => by rw [List.mem_singleton.1 hl]; decide) 0
  rw [show iTab [[(⟨⟨#[97]⟩, 21, hG4⟩ : TRec)]] 0 = [⟨⟨#[97]⟩, 21, hG4⟩] from rfl] at hrc
  go_wp2_with fail
  refine hrc.mono ?_
  rintro e w12 ⟨u, rfl, o12, b12⟩
  obtain ⟨ua, uc, rfl, -⟩ := own_one o12
  rw [show ([(⟨⟨#[97]⟩, 21, hG4⟩ : TRec)]).length = 1 from rfl]
  have HH12 := Hid.of (HH10.out.below b12)
  have R12 := Hid.of (S.kept R10.out b12.size (fun k hk => b12.block k (S.lt R10.out k hk)))
  have B12 := Hid.of (B10.out.trans (b12.mono B10.out.size))
  have hft := hFits_any S OK.out HH12.out ha_hpl R12.out (ha_small (by decide)).1 ha_tfit (by rw [ha_built]; exact (ha_small (by decide)).2)
  clear hrc o12 b12 t0 t1 t2 Y10 HH10 R10 B10
  go_wp2_with fail
  refine hft.mono ?_
  rintro e w13 ⟨b, rfl, hb, b13⟩
  obtain rfl : b = true := hb.out.2 ⟨ha_fits, by rw [ha_built, ha_need]; decide⟩
  have B13 := Hid.of (B12.out.trans (b13.mono B12.out.size))
  clear hft hb b13
  go_wp2
  go_ret
  exact ⟨rfl, B13.out⟩

end Go.Proofs.YtbhcafginmkaaaaGreat
