/-
  What statement TiersRefuse answers: true, for every input.
-/
import Derived.Laws.OwnMore
import Derived.Test.YtnohmloilcpmiaaGreatIVTr
import Derived.Test.YtnohmloilcpmiaaGreatITKr
import Derived.Test.YtnohmloilcpmiaaGreatR39
namespace Go.Proofs.YtnohmloilcpmiaaGreat
open Go.RowKit Go.Lib

def fRch : RchL := (500, webPol, [])
def kSam : SamL := (⟨#[107]⟩, 450, 1)
theorem fr_new : iNewE webPol 500 [] = 0 := by decide +kernel
theorem fr_check : iCheck fRch [kSam] = 0 := by decide +kernel
theorem kSam_fit : ∀ s ∈ [kSam], SFit s := fun s hs => by
  rw [List.mem_singleton.1 hs]
  exact ⟨by unfold maxLen kSam; decide, by unfold TIn64 kSam; decide, by unfold TIn64 kSam; decide⟩

theorem fr_tick (n : Int) : iTickE fRch n = 0 ↔ 0 ≤ n ∧ n ≤ 1099511627276 := by
  unfold iTickE maxT
  show (if n < 0 then (1 : Int) else if 1099511627776 - 500 < n then 26 else 0) = 0 ↔ _
  split
  · exact ⟨fun c => absurd c (by decide), fun c => by omega⟩
  · split
    · exact ⟨fun c => absurd c (by decide), fun c => by omega⟩
    · exact ⟨fun _ => by omega, fun _ => rfl⟩

theorem one_samr (w : World) (x : SamL) (t : TypeId) : CellRow (w.alloc (.cells #[.string x.1, .int .i64 x.2.1, .int .i64 x.2.2] t)) (.slice (some ⟨w.heap.size, 0, none⟩) 1 1) 1 (flat aenc [x]) :=
  ⟨_, _, rfl, .inr ⟨_, 0, rfl, by simp, new_cells w _ t⟩⟩

theorem sam_upto {w : World} {ua : Option Addr} {N uc c' : Nat} {ss : List SamL} (h : CellRow w (.slice ua N uc) N (flat aenc ss)) (k : Nat) : CellRow w (.slice ua k c') k (flat aenc (ss.take k)) := by
  obtain ⟨a1, c1, hv, h⟩ := h
  simp only [Value.slice.injEq] at hv
  obtain ⟨rfl, _, rfl⟩ := hv
  refine ⟨_, _, rfl, ?_⟩
  have e : flat aenc ss = flat aenc (ss.take k) ++ flat aenc (ss.drop k) := by rw [← flat_append, List.take_append_drop]
  rcases h with h | ⟨b, o, ha, hl, hc⟩
  · left
    rw [e] at h
    exact (List.append_eq_nil_iff.1 h).1
  · right
    refine ⟨b, o, ha, hl, fun j u hj => hc j u ?_⟩
    rw [e, List.getElem?_append_left (List.getElem?_eq_some_iff.1 hj).1]
    exact hj

theorem sam_from {w : World} {ua : Option Addr} {N uc c' k : Nat} {ss : List SamL} (h : CellRow w (.slice ua N uc) N (flat aenc ss)) (hl : ss.length = N) (a' : Option Addr) (ha : k < N → a' = Option.map (fun x => x.add (k * 3)) ua) :
    CellRow w (.slice a' (N - k) c') (N - k) (flat aenc (ss.drop k)) := by
  by_cases hk : k < N
  · obtain ⟨a1, c1, hv, h⟩ := h
    simp only [Value.slice.injEq] at hv
    obtain ⟨rfl, _, rfl⟩ := hv
    rw [ha hk]
    have e : flat aenc ss = flat aenc (ss.take k) ++ flat aenc (ss.drop k) := by rw [← flat_append, List.take_append_drop]
    have el : (flat aenc (ss.take k)).length = k * 3 := by rw [flat_length aenc_len, List.length_take, hl, Nat.min_eq_left (by omega)]
    rcases h with h | ⟨b, o, rfl, hlt, hc⟩
    · refine ⟨_, _, rfl, .inl ?_⟩
      rw [e] at h
      exact (List.append_eq_nil_iff.1 h).2
    · refine ⟨_, _, rfl, .inr ⟨b, o + k * 3, by simp [Addr.add], hlt, fun j u hj => ?_⟩⟩
      rw [Nat.add_assoc]
      refine hc (k * 3 + j) u ?_
      rw [e, List.getElem?_append_right (by rw [el]; omega), el, Nat.add_sub_cancel_left]
      exact hj
  · refine ⟨_, _, rfl, .inl ?_⟩
    rw [List.drop_of_length_le (by omega)]
    rfl

theorem iCheck_takes' {r : RchL} {ss : List SamL} (h : ss.length ≠ 0) (h8 : ¬ 8 < ss.length) : iCheck r ss = iTakes r ss := by
  unfold iCheck
  rw [if_neg (fun c => h (by rw [c]; rfl)), if_neg h8]

theorem good_step {r : RchL} {L : List SamL} {j : Nat} {x : SamL} (hx : L[j]? = some x) {g : Bool} (h : g = true ↔ ∀ s ∈ L.take j, rTakes r s.1 s.2.1 = 0) : (g && (rTakes r x.1 x.2.1 == 0)) = true ↔ ∀ s ∈ L.take (j + 1), rTakes r s.1 s.2.1 = 0 := by
  rw [Bool.and_eq_true, h, beq_iff_eq, List.take_succ_eq_append_getElem (List.getElem?_eq_some_iff.1 hx).1, (List.getElem?_eq_some_iff.1 hx).2]
  constructor
  · rintro ⟨h1, h2⟩ s hs
    rcases List.mem_append.1 hs with hs | hs
    · exact h1 s hs
    · rw [List.mem_singleton.1 hs]
      exact h2
  · exact fun k => ⟨fun s hs => k s (List.mem_append_left _ hs), k x (List.mem_append_right _ (List.mem_singleton.2 rfl))⟩

theorem make_nine (w : World) : ∃ w', (Instr.makeSlice 50 (.int .i64 9) (.int .i64 9)).run Tryz.prog w = .ok (.slice (some ⟨w.heap.size, 0, none⟩) 9 9) w' ∧ w'.ownsRow w.heap.size 23 3 (.slice (some ⟨w.heap.size, 0, none⟩) 9 9) 9 (flat aenc (List.replicate 9 (⟨#[]⟩, 0, 0))) ∧ Below w.heap.size w w' := by
  obtain ⟨i0, hi, hz0, hz1, hz2⟩ := info_parts asam_info
  obtain ⟨w1, hmk, o1, g1⟩ := run_makeSlice_full (P := Tryz.prog) w w.heap.size 50 23 i0 (.agg #[.string ⟨#[]⟩, .int .i64 0, .int .i64 0]) 3 Tryz.underlying50 hi hz0 hz1 .i64 .i64 9 (by omega) (by rw [hz2]; omega) (by unfold maxLen; omega) (Nat.le_refl _)
  refine ⟨w1, hmk, ?_, below_of_none g1⟩
  have e : (madeCells (Value.agg #[.string ⟨#[]⟩, .int .i64 0, .int .i64 0]).cells (9 * 3)).toList = flat aenc (List.replicate 9 (⟨#[]⟩, 0, 0)) := by kernel_rfl
  rw [e] at o1
  exact o1

theorem nine_fit : ∀ s ∈ List.replicate 9 ((⟨#[]⟩, 0, 0) : SamL), SFit s := fun s hs => by
  rw [List.eq_of_mem_replicate hs]
  exact ⟨by unfold maxLen; decide, by unfold TIn64; decide, by unfold TIn64; decide⟩

set_option maxRecDepth 20000 in
set_option maxHeartbeats 25600000 in
theorem tiersRefuse_main {TS : TableSpec} (S : TiersSpec TS) (sv : Value) (ss : List SamL) (nm : ByteArray) (bt bx : Int) (at_ n : Int) (w : World) (hS : S.Ok w) (hv : CellRow w sv ss.length (flat aenc ss)) (hcap : CapOk sv) (hs : ∀ s ∈ ss, SFit s) (hb : SFit (nm, bt, bx)) (hn : In64 n) :
    Calls Tryz.prog 8 #[sv, .agg #[.string nm, .int .i64 bt, .int .i64 bx], .int .i64 at_, .int .i64 n] w fun e w' => e = .returned (.bool true) ∧ Below w.heap.size w w' := by
  obtain ⟨z, hz⟩ : ∃ z, w.heap.size = z := ⟨_, rfl⟩
  obtain ⟨w1, hw1⟩ : ∃ w1, w.alloc (.cells #[.string nm, .int .i64 bt, .int .i64 bx] 23) = w1 := ⟨_, rfl⟩
  have CS1 : Hid (Cs w1 [(⟨z, 0, none⟩, .string nm), (⟨z, 1, none⟩, .int .i64 bt), (⟨z, 2, none⟩, .int .i64 bx)]) := Hid.of (by
    have hz1 : w1.heap[z]? = some (.cells #[.string nm, .int .i64 bt, .int .i64 bx] 23 (0, 0)) := by rw [← hw1, ← hz]; exact (MapKept.heap_alloc w _).1
    have hl := (Array.getElem?_eq_some_iff.1 hz1).1
    exact .cons hl (by rw [cell_of_row _ _ _ _ _ _ hz1]; rfl) (.cons hl (by rw [cell_of_row _ _ _ _ _ _ hz1]; rfl) (.cons hl (by rw [cell_of_row _ _ _ _ _ _ hz1]; rfl) (.nil _))))
  have B1 : Hid (Below w.heap.size w w1) := Hid.of (by rw [← hw1]; exact (Below.refl _ _).alloc (Nat.le_refl _) _)
  have OK := Hid.of hS
  have HV := Hid.of hv
  have HCAP := Hid.of hcap
  have HSF := Hid.of hs
  have HBF := Hid.of hb
  have HN := Hid.of hn
  obtain ⟨ua, uc, rfl, -⟩ := hv
  have hso := Some_any 7 (.slice ua ss.length uc) ss w1 (HV.out.kept B1.out) (by decide)
  obtain ⟨N, hN⟩ : ∃ N, ss.length = N := ⟨_, rfl⟩
  have NL := Hid.of hN
  rw [hN] at HV HCAP hso ⊢
  obtain ⟨i0, hi0, hz0, hz1, hz2⟩ := info_parts asam_info
  have HI := Hid.of hi0
  have HZ0 := Hid.of hz0
  have HZ1 := Hid.of hz1
  have HZ2 := Hid.of hz2
  have HW := Hid.of hw1
  have HZ := Hid.of hz
  have HZW : Hid (z < w1.heap.size) := Hid.of (CS1.out _ (List.mem_cons_self ..)).1
  clear hS hs hb hn hN hw1 hz hi0 hz0 hz1 hz2 hcap
  go_enter Tryz.func8, Tryz.ntmps8
  go_upto_region 1 with fail
  rw [HW.out, HZ.out]
  clear HW
  go_wp2_with fail
  refine hso.mono ?_
  rintro e w2 ⟨small, rfl, HSM, b2⟩
  have B2 := Hid.of (B1.out.trans (b2.mono B1.out.size))
  have CS2 := Hid.of (CS1.out.next b2)
  have HZW2 : Hid (z < w2.heap.size) := Hid.of (Nat.lt_of_lt_of_le HZW.out b2.size)
  clear b2 hso CS1 B1 HZW
  cases small
  · go_wp2_with fail
    refine (tiersAlive_any S _ (S.okKept OK.out B2.out)).mono ?_
    rintro e w9 ⟨rfl, b9⟩
    have B9 := Hid.of (B2.out.trans (b9.mono B2.out.size))
    go_wp2
    go_ret
    exact ⟨rfl, B9.out⟩
  have FW := Hid.of (HSM.out (by first | rfl | trivial))
  have hN7 : N ≤ 7 := by have := FW.out.1; rw [NL.out] at this; exact this
  clear HSM
  have d0 := CS2.out.head
  by_cases h60 : 60 < nm.size
  · have k60 : (nm.size : Int) > 60 := by omega
    go_wp2_with fail
    refine (tiersAlive_any S _ (S.okKept OK.out B2.out)).mono ?_
    rintro e w9 ⟨rfl, b9⟩
    have B9 := Hid.of (B2.out.trans (b9.mono B2.out.size))
    go_wp2
    go_ret
    exact ⟨rfl, B9.out⟩
  have k60 : ¬ (nm.size : Int) > 60 := by omega
  by_cases ha0 : at_ < 0
  · go_wp2_with fail
    refine (tiersAlive_any S _ (S.okKept OK.out B2.out)).mono ?_
    rintro e w9 ⟨rfl, b9⟩
    have B9 := Hid.of (B2.out.trans (b9.mono B2.out.size))
    go_wp2
    go_ret
    exact ⟨rfl, B9.out⟩
  by_cases ha1 : at_ > (N : Int)
  · go_wp2_with fail
    refine (tiersAlive_any S _ (S.okKept OK.out B2.out)).mono ?_
    rintro e w9 ⟨rfl, b9⟩
    have B9 := Hid.of (B2.out.trans (b9.mono B2.out.size))
    go_wp2
    go_ret
    exact ⟨rfl, B9.out⟩
  obtain ⟨k, rfl⟩ : ∃ k : Nat, at_ = (k : Int) := ⟨at_.toNat, by omega⟩
  have hkN : k ≤ N := by omega
  have hkN1 : (k : Int) ≤ (N : Int) := by omega
  have hk0 : (0 : Int) ≤ (k : Int) := by omega
  clear ha1 ha0
  go_wp2_with fail
  refine (Web_any _).mono ?_
  rintro e w3 ⟨wv, rfl, pr, b3⟩
  have B3 := Hid.of (B2.out.trans (b3.mono B2.out.size))
  have CS3 := Hid.of (CS2.out.next b3)
  have hnew := S.new wv (.slice none 0 0) webPol 500 [] w3 (S.okKept OK.out B3.out) pr (by decide) (by decide) (by
    intro x hx
    have h := web_fit.2.2 x hx
    refine ⟨?_, h.2⟩
    simp only [webPol, List.mem_cons, List.not_mem_nil, or_false] at hx
    rcases hx with rfl | rfl <;> decide) ⟨by decide, by decide⟩ ⟨_, _, rfl, .inl rfl⟩ (Nat.le_refl _) (by decide) (fun x hx => absurd hx List.not_mem_nil)
  clear pr b3 d0 CS2 B2 HZW2 h60 k60
  go_wp2_with fail
  refine hnew.mono ?_
  rintro e w4 ⟨h1, -, b4⟩
  obtain ⟨p, F, rfl, rep, hF⟩ := h1 fr_new
  have H4 : Hid (IHere S w.heap.size w w4 p fRch (List.replicate 2 []) F) := Hid.of ⟨rep, fun k hk => Nat.le_trans B3.out.size (hF k (S.sub rep k hk)), Nat.le_trans B3.out.size b4.size, B3.out.trans (b4.mono B3.out.size)⟩
  have HF3 : Hid (∀ k, F.own k → w3.heap.size ≤ k) := Hid.of (fun k hk => hF k (S.sub rep k hk))
  have CS4 := Hid.of (CS3.out.next b4)
  clear rep hF b4 hnew h1 B3
  go_wp2_with fail
  obtain ⟨g0, hg0⟩ : ∃ g, w4.heap.size = g := ⟨_, rfl⟩
  obtain ⟨w5, hw5⟩ : ∃ w5, w4.alloc (.cells #[.string ⟨#[107]⟩, .int .i64 450, .int .i64 1] 23) = w5 := ⟨_, rfl⟩
  have b5 : Below w4.heap.size w4 w5 := by rw [← hw5]; exact (Below.refl _ _).alloc (Nat.le_refl _) _
  have hrow : CellRow w5 (.slice (some ⟨g0, 0, none⟩) 1 1) [kSam].length (flat aenc [kSam]) := by rw [← hw5, ← hg0]; exact one_samr w4 kSam _
  have H5 := Hid.of (H4.out.next b5)
  have CS5 := Hid.of (CS4.out.next b5)
  have hoff : Off F.own (.slice (some ⟨g0, 0, none⟩) 1 1) := fun g hg hF => by
    have := S.lt H4.out.rep g (S.sub H4.out.rep g hF)
    simp [Value.ownBlock] at hg
    omega
  rw [hw5, hg0]
  refine (S.put _ [kSam] (H5.out.ok OK.out) H5.out.rep (by intro l hl; rw [List.eq_of_mem_replicate hl]; decide) hrow (Nat.le_refl _) (by decide) (fun _ => hoff) kSam_fit).mono ?_
  rintro e w6 ⟨rfl, F6, rep6, st6⟩
  rw [if_pos fr_check] at rep6
  rw [fr_check]
  have H6 := Hid.of (H5.out.step rep6 st6)
  have LE6 : Hid (∀ x ∈ iPut fRch (List.replicate 2 []) [kSam], x.length ≤ 1) := Hid.of (fun x hx => by
    have := iPut_le (m := 0) (fun l hl => by rw [List.eq_of_mem_replicate hl]; exact Nat.le_refl _) x hx
    simpa using this)
  have CS6 : Hid (Cs w6 [(⟨z, 0, none⟩, .string nm), (⟨z, 1, none⟩, .int .i64 bt), (⟨z, 2, none⟩, .int .i64 bx)]) := Hid.of (fun x hx => by
    have hx5 := CS5.out x hx
    have hbz : x.1.block = z := by simp only [List.mem_cons, List.not_mem_nil, or_false] at hx; rcases hx with rfl | rfl | rfl <;> rfl
    have hz3 : z < w3.heap.size := by rw [← hbz]; exact (CS3.out x hx).1
    have hblk := st6.own.block x.1.block hx5.1 (fun c => by rw [hbz] at c; have := HF3.out z c; omega)
    exact ⟨Nat.lt_of_lt_of_le hx5.1 st6.own.size, (World.cell?_of_block (a := x.1) hblk).trans hx5.2⟩)
  obtain ⟨T1, hT1⟩ : ∃ T1, iPut fRch (List.replicate 2 []) [kSam] = T1 := ⟨_, rfl⟩
  rw [hT1] at H6 LE6
  clear hw5 hg0 b5 hrow hoff rep6 st6 H4 H5 CS3 CS4 CS5 HF3 hT1
  have hcp := S.copy (H6.out.ok OK.out) H6.out.rep (fun x hx => by have := LE6.out x hx; omega)
  go_wp2_with fail
  refine hcp.mono ?_
  rintro e w7 ⟨q, G7, rfl, rep7, g1, g2, b7⟩
  have P7 := Hid.of (H6.out.pair b7 rep7 g1 g2)
  have CS7 := Hid.of (CS6.out.next b7)
  have ROW7 := Hid.of (HV.out.kept P7.out.a.fr)
  clear rep7 g1 g2 b7 hcp H6 CS6
  have hNc : (N : Int) ≤ (uc : Int) := by have h : N ≤ uc := HCAP.out; omega
  have hkc : (k : Int) ≤ (uc : Int) := by omega
  obtain ⟨L, hL⟩ : ∃ L, ss.take k ++ [(nm, bt, bx)] ++ ss.drop k = L := ⟨_, rfl⟩
  have LL : Hid (L.length = N + 1) := Hid.of (by rw [← hL, List.length_append, List.length_append, List.length_take, List.length_drop, NL.out, List.length_singleton]; omega)
  have LFIT : Hid (∀ x ∈ L, SFit x) := Hid.of (fun x hx => by
    rw [← hL] at hx
    rcases List.mem_append.1 hx with hx | hx
    · rcases List.mem_append.1 hx with hx | hx
      · exact HSF.out x (List.mem_of_mem_take hx)
      · rw [List.mem_singleton.1 hx]; exact HBF.out
    · exact HSF.out x (List.mem_of_mem_drop hx))
  have HLE := Hid.of hL
  have LT7 : Hid (∀ g, F6.all g → g < w7.heap.size) := Hid.of (fun g hg => S.lt P7.out.a.rep g hg)
  clear hL
  go_upto_region 7 with fail
  go_cut [12] from 58 to 68 (fun lv wx => ∃ (la : Option Addr) (lc : Nat), lv = .slice la (N + 1) lc ∧ Hid (wx.ownsRow w7.heap.size 23 3 (.slice la (N + 1) lc) (N + 1) (flat aenc L)) ∧ Hid (Below w7.heap.size w7 wx))
  case first =>
    have d0 := (CS7.out).head
    have d1 := ((CS7.out).tail).head
    have d2 := (((CS7.out).tail).tail).head
    refine wp_region_noPanic ?_
    refine wp_region_held_drew (S := fun w' => w'.cell? ⟨z, 0, none⟩ = some (.string nm) ∧ w'.cell? ⟨z, 1, none⟩ = some (.int .i64 bt) ∧ w'.cell? ⟨z, 2, none⟩ = some (.int .i64 bx)) (by kernel_rfl) ?_ (fun hHeld => ?_)
    · exact ⟨d0, d1, d2⟩
    refine wpAnyH_take (i := 0) (oi := ⟨_, _, _, _, _, _⟩) (v := ?_) rfl (by kernel_rfl) (by kernel_rfl) (by kernel_rfl) (fun _ _ _ h => h) (Or.inl ⟨by rfl, ?_⟩) hHeld ?_
    rotate_left
    · intro w' hSw
      try dsimp only at hSw
      go_simp
      all_goals with_reducible rfl
    simp only [Act.put, List.setIfInBounds_toArray, List.set_cons_zero, List.set_cons_succ]
    refine wpAnyH_take (i := 1) (oi := ⟨_, _, _, _, _, _⟩) (v := ?_) rfl (by kernel_rfl) (by kernel_rfl) (by kernel_rfl) (fun _ _ _ h => h) (Or.inl ⟨by rfl, ?_⟩) hHeld ?_
    rotate_left
    · intro w' hSw
      try dsimp only at hSw
      go_simp
      all_goals with_reducible rfl
    simp only [Act.put, List.setIfInBounds_toArray, List.set_cons_zero, List.set_cons_succ]
    refine wpAnyH_take (i := 2) (oi := ⟨_, _, _, _, _, _⟩) (v := ?_) rfl (by kernel_rfl) (by kernel_rfl) (by kernel_rfl) (fun _ _ _ h => h) (Or.inl ⟨by rfl, ?_⟩) hHeld ?_
    rotate_left
    · intro w' hSw
      try dsimp only at hSw
      go_simp
      all_goals with_reducible rfl
    simp only [Act.put, List.setIfInBounds_toArray, List.set_cons_zero, List.set_cons_succ]
    refine wpAnyH_take (i := 4) (oi := ⟨_, _, _, _, _, _⟩) (v := ?_) rfl (by kernel_rfl) (by kernel_rfl) (by kernel_rfl) (fun _ _ _ h => h) (Or.inl ⟨by rfl, ?_⟩) hHeld ?_
    rotate_left
    · intro w' hSw
      try dsimp only at hSw
      go_simp
      all_goals with_reducible rfl
    simp only [Act.put, List.setIfInBounds_toArray, List.set_cons_zero, List.set_cons_succ]
    refine wpAnyH_take (i := 7) (oi := ⟨_, _, _, _, _, _⟩) (v := ?_) rfl (by kernel_rfl) (by kernel_rfl) (by kernel_rfl) (fun _ _ _ h => h) (Or.inl ⟨by rfl, ?_⟩) hHeld ?_
    rotate_left
    · intro w' hSw
      try dsimp only at hSw
      go_simp
      all_goals with_reducible rfl
    simp only [Act.put, List.setIfInBounds_toArray, List.set_cons_zero, List.set_cons_succ]
    refine wpAnyH_take (i := 8) (oi := ⟨_, _, _, _, _, _⟩) (v := ?_) rfl (by kernel_rfl) (by kernel_rfl) (by kernel_rfl) (fun _ _ _ h => h) (Or.inl ⟨by rfl, ?_⟩) hHeld ?_
    rotate_left
    · intro w' hSw
      try dsimp only at hSw
      go_simp
      all_goals with_reducible rfl
    simp only [Act.put, List.setIfInBounds_toArray, List.set_cons_zero, List.set_cons_succ]
    refine wpAnyH_take (i := 9) (oi := ⟨_, _, _, _, _, _⟩) (v := ?_) rfl (by kernel_rfl) (by kernel_rfl) (by kernel_rfl) (fun _ _ _ h => h) (Or.inl ⟨by rfl, ?_⟩) hHeld ?_
    rotate_left
    · intro w' hSw
      try dsimp only at hSw
      go_simp
      all_goals with_reducible rfl
    simp only [Act.put, List.setIfInBounds_toArray, List.set_cons_zero, List.set_cons_succ]
    have G_0 := Hid.of (Below.refl w7.heap.size w7).drew
    refine wpAnyH_ready (rs := [3, 5]) (by kernel_rfl) (by simp) ?_
    refine AllReadyH.cons (o := ⟨_, _, _, _, _, _⟩) rfl (fun K hK => ?_) (AllReadyH.cons (o := ⟨_, _, _, _, _, _⟩) rfl (fun K hK => ?_) AllReadyH.nil)
    · refine step_append_any rfl (.const (.slice none 0 0)) (.tmp 60) 50 rfl w7.heap.size 23 i0 _ 3 32 Tryz.underlying50 HI.out HZ0.out HZ1.out HZ2.out rfl (by decide) (.slice none 0 0) 0 [] rfl (World.ownsRow_nil _ _ _ 3) (.slice ua k uc) k (flat aenc (ss.take k)) (by simp [Act.eval]) (sam_upto (ROW7.out.kept G_0.out) k) (by rw [flat_length aenc_len, List.length_take, NL.out, Nat.min_eq_left hkN]) (flat_ones aenc_one _) (by unfold maxLen; omega) (by omega) G_0.out.size ?_
      intro u_x1 x1 o6 g6 _
      rw [Nat.zero_add, List.nil_append] at o6
      have O_x1 := Hid.of o6
      have G_x1 := Hid.of (G_0.out.grown g6 G_0.out.size (fun kk hk => by cases hk))
      clear o6 g6
      have C_x1 := Hid.of (CS7.out.next G_x1.out)
      clear hHeld d0 d1 d2
      have d0 := (C_x1.out).head
      have d1 := ((C_x1.out).tail).head
      have d2 := (((C_x1.out).tail).tail).head
      refine hK.out _ _ ⟨d0, d1, d2⟩ (fun hHeld => ?_)
      clear hK K
      try simp only [Act.put, List.setIfInBounds_toArray, List.set_cons_zero, List.set_cons_succ]
      refine wpAnyH_ready (rs := [5]) (by kernel_rfl) (by simp) ?_
      refine AllReadyH.cons (o := ⟨_, _, _, _, _, _⟩) rfl (fun K hK => ?_) AllReadyH.nil
      go_simp
      obtain ⟨x2, hw9⟩ : ∃ v9, x1.alloc (.cells #[.string nm, .int .i64 bt, .int .i64 bx] 23) = v9 := ⟨_, rfl⟩
      have hb9 : Below x1.heap.size x1 x2 := by rw [← hw9]; exact (Below.refl _ _).alloc (Nat.le_refl _) _
      have N_x2 : Hid (CellRow x2 (.slice (some ⟨x1.heap.size, 0, none⟩) 1 1) 1 (flat aenc [(nm, bt, bx)])) := Hid.of (by rw [← hw9]; exact one_samr x1 (nm, bt, bx) _)
      have G_x2 := Hid.of (G_x1.out.trans (hb9.mono G_x1.out.size))
      have O_x2 := Hid.of (iown_kept' O_x1.out hb9)
      rw [hw9]
      clear hw9 hb9
      have C_x2 := Hid.of (CS7.out.next G_x2.out)
      clear hHeld d0 d1 d2
      have d0 := (C_x2.out).head
      have d1 := ((C_x2.out).tail).head
      have d2 := (((C_x2.out).tail).tail).head
      refine hK.out _ _ ⟨d0, d1, d2⟩ (fun hHeld => ?_)
      clear hK K
      try simp only [Act.put, List.setIfInBounds_toArray, List.set_cons_zero, List.set_cons_succ]
      refine wpAnyH_ready (rs := [6]) (by kernel_rfl) (by simp) ?_
      refine AllReadyH.cons (o := ⟨_, _, _, _, _, _⟩) rfl (fun K hK => ?_) AllReadyH.nil
      refine step_append_any rfl (.tmp 61) (.tmp 63) 50 rfl w7.heap.size 23 i0 _ 3 32 Tryz.underlying50 HI.out HZ0.out HZ1.out HZ2.out rfl (by decide) u_x1 k _ (by simp [Act.eval]) O_x2.out (.slice (some ⟨x1.heap.size, 0, none⟩) 1 1) 1 (flat aenc [(nm, bt, bx)]) (by simp [Act.eval]) N_x2.out (by rw [flat_length aenc_len]; rfl) (flat_ones aenc_one _) (by unfold maxLen; omega) (by omega) G_x2.out.size ?_
      intro u_x3 x3 o6 g6 _
      have O_x3 := Hid.of o6
      have G_x3 := Hid.of (G_x2.out.grown g6 G_x2.out.size (fun kk hk => own_ge O_x2.out hk))
      clear o6 g6
      have C_x3 := Hid.of (CS7.out.next G_x3.out)
      clear hHeld d0 d1 d2
      have d0 := (C_x3.out).head
      have d1 := ((C_x3.out).tail).head
      have d2 := (((C_x3.out).tail).tail).head
      refine hK.out _ _ ⟨d0, d1, d2⟩ (fun hHeld => ?_)
      clear hK K
      try simp only [Act.put, List.setIfInBounds_toArray, List.set_cons_zero, List.set_cons_succ]
      refine wpAnyH_ready (rs := [10]) (by kernel_rfl) (by simp) ?_
      refine AllReadyH.cons (o := ⟨_, _, _, _, _, _⟩) rfl (fun K hK => ?_) AllReadyH.nil
      refine step_append_any rfl (.tmp 64) (.tmp 67) 50 rfl w7.heap.size 23 i0 _ 3 32 Tryz.underlying50 HI.out HZ0.out HZ1.out HZ2.out rfl (by decide) u_x3 (k + 1) _ (by simp [Act.eval]) O_x3.out (.slice (if uc = k then ua else Option.map (fun x => x.add (k * 3)) ua) (N - k) (uc - k)) (N - k) (flat aenc (ss.drop k)) (by simp [Act.eval]) (sam_from (ROW7.out.kept G_x3.out) NL.out _ (fun h => if_neg (by have h2 : N ≤ uc := HCAP.out; omega))) (by rw [flat_length aenc_len, List.length_drop, NL.out]) (flat_ones aenc_one _) (by unfold maxLen; omega) (by omega) G_x3.out.size ?_
      intro u_x4 x4 o6 g6 _
      have O_x4 := Hid.of o6
      have G_x4 := Hid.of (G_x3.out.grown g6 G_x3.out.size (fun kk hk => own_ge O_x3.out hk))
      clear o6 g6
      have C_x4 := Hid.of (CS7.out.next G_x4.out)
      clear hHeld d0 d1 d2
      have d0 := (C_x4.out).head
      have d1 := ((C_x4.out).tail).head
      have d2 := (((C_x4.out).tail).tail).head
      refine hK.out _ _ ⟨d0, d1, d2⟩ (fun hHeld => ?_)
      clear hK K
      try simp only [Act.put, List.setIfInBounds_toArray, List.set_cons_zero, List.set_cons_succ]
      refine wpAnyH_take (i := 11) (oi := ⟨_, _, _, _, _, _⟩) (v := ?_) rfl (by kernel_rfl) (by kernel_rfl) (by kernel_rfl) (fun _ _ _ h => h) (Or.inl ⟨by rfl, ?_⟩) hHeld ?_
      rotate_left
      · intro w' hSw
        try dsimp only at hSw
        go_simp
        all_goals with_reducible rfl
      simp only [Act.put, List.setIfInBounds_toArray, List.set_cons_zero, List.set_cons_succ]
      refine wpAnyH_done (by kernel_rfl) ?_ _
      refine NoPanic.normal ?_
      clear hHeld d0 d1 d2
      skip
      obtain ⟨xa, hxa⟩ : ∃ xa, (if uc = k then ua else Option.map (fun x => x.add (k * 3)) ua) = xa := ⟨_, rfl⟩
      rw [hxa]
      clear hxa
      have h9 := O_x4.out
      rw [← flat_append, ← flat_append, HLE.out, show k + 1 + (N - k) = N + 1 by omega] at h9
      obtain ⟨la, lc, hu, -⟩ := own_one h9
      subst hu
      have H9 := Hid.of h9
      clear h9
      go_wp2_with fail
      go_meet
      exact ⟨la, lc, rfl, H9, G_x4⟩
    · go_simp
      obtain ⟨x5, hw9⟩ : ∃ v9, (w7.alloc (.cells #[.string nm, .int .i64 bt, .int .i64 bx] 23)).drew = v9 := ⟨_, rfl⟩
      have hb9 : Below w7.heap.size w7 x5 := by rw [← hw9]; exact ((Below.refl _ _).alloc (Nat.le_refl _) _).drew
      have N_x5 : Hid (CellRow x5 (.slice (some ⟨w7.heap.size, 0, none⟩) 1 1) 1 (flat aenc [(nm, bt, bx)])) := Hid.of (by rw [← hw9]; exact one_samr w7 (nm, bt, bx) _)
      have G_x5 := Hid.of hb9
      rw [hw9]
      clear hw9 hb9
      have C_x5 := Hid.of (CS7.out.next G_x5.out)
      clear hHeld d0 d1 d2
      have d0 := (C_x5.out).head
      have d1 := ((C_x5.out).tail).head
      have d2 := (((C_x5.out).tail).tail).head
      refine hK.out _ _ ⟨d0, d1, d2⟩ (fun hHeld => ?_)
      clear hK K
      try simp only [Act.put, List.setIfInBounds_toArray, List.set_cons_zero, List.set_cons_succ]
      refine wpAnyH_ready (rs := [3]) (by kernel_rfl) (by simp) ?_
      refine AllReadyH.cons (o := ⟨_, _, _, _, _, _⟩) rfl (fun K hK => ?_) AllReadyH.nil
      refine step_append_any rfl (.const (.slice none 0 0)) (.tmp 60) 50 rfl w7.heap.size 23 i0 _ 3 32 Tryz.underlying50 HI.out HZ0.out HZ1.out HZ2.out rfl (by decide) (.slice none 0 0) 0 [] rfl (World.ownsRow_nil _ _ _ 3) (.slice ua k uc) k (flat aenc (ss.take k)) (by simp [Act.eval]) (sam_upto (ROW7.out.kept G_x5.out) k) (by rw [flat_length aenc_len, List.length_take, NL.out, Nat.min_eq_left hkN]) (flat_ones aenc_one _) (by unfold maxLen; omega) (by omega) G_x5.out.size ?_
      intro u_x6 x6 o6 g6 _
      rw [Nat.zero_add, List.nil_append] at o6
      have O_x6 := Hid.of o6
      have G_x6 := Hid.of (G_x5.out.grown g6 G_x5.out.size (fun kk hk => by cases hk))
      have N_x6 := Hid.of (N_x5.out.kept ((Below.refl _ _).grown g6 (Nat.le_refl _) (fun kk hk => by cases hk)))
      clear o6 g6
      have C_x6 := Hid.of (CS7.out.next G_x6.out)
      clear hHeld d0 d1 d2
      have d0 := (C_x6.out).head
      have d1 := ((C_x6.out).tail).head
      have d2 := (((C_x6.out).tail).tail).head
      refine hK.out _ _ ⟨d0, d1, d2⟩ (fun hHeld => ?_)
      clear hK K
      try simp only [Act.put, List.setIfInBounds_toArray, List.set_cons_zero, List.set_cons_succ]
      refine wpAnyH_ready (rs := [6]) (by kernel_rfl) (by simp) ?_
      refine AllReadyH.cons (o := ⟨_, _, _, _, _, _⟩) rfl (fun K hK => ?_) AllReadyH.nil
      refine step_append_any rfl (.tmp 61) (.tmp 63) 50 rfl w7.heap.size 23 i0 _ 3 32 Tryz.underlying50 HI.out HZ0.out HZ1.out HZ2.out rfl (by decide) u_x6 k _ (by simp [Act.eval]) O_x6.out (.slice (some ⟨w7.heap.size, 0, none⟩) 1 1) 1 (flat aenc [(nm, bt, bx)]) (by simp [Act.eval]) N_x6.out (by rw [flat_length aenc_len]; rfl) (flat_ones aenc_one _) (by unfold maxLen; omega) (by omega) G_x6.out.size ?_
      intro u_x7 x7 o6 g6 _
      have O_x7 := Hid.of o6
      have G_x7 := Hid.of (G_x6.out.grown g6 G_x6.out.size (fun kk hk => own_ge O_x6.out hk))
      clear o6 g6
      have C_x7 := Hid.of (CS7.out.next G_x7.out)
      clear hHeld d0 d1 d2
      have d0 := (C_x7.out).head
      have d1 := ((C_x7.out).tail).head
      have d2 := (((C_x7.out).tail).tail).head
      refine hK.out _ _ ⟨d0, d1, d2⟩ (fun hHeld => ?_)
      clear hK K
      try simp only [Act.put, List.setIfInBounds_toArray, List.set_cons_zero, List.set_cons_succ]
      refine wpAnyH_ready (rs := [10]) (by kernel_rfl) (by simp) ?_
      refine AllReadyH.cons (o := ⟨_, _, _, _, _, _⟩) rfl (fun K hK => ?_) AllReadyH.nil
      refine step_append_any rfl (.tmp 64) (.tmp 67) 50 rfl w7.heap.size 23 i0 _ 3 32 Tryz.underlying50 HI.out HZ0.out HZ1.out HZ2.out rfl (by decide) u_x7 (k + 1) _ (by simp [Act.eval]) O_x7.out (.slice (if uc = k then ua else Option.map (fun x => x.add (k * 3)) ua) (N - k) (uc - k)) (N - k) (flat aenc (ss.drop k)) (by simp [Act.eval]) (sam_from (ROW7.out.kept G_x7.out) NL.out _ (fun h => if_neg (by have h2 : N ≤ uc := HCAP.out; omega))) (by rw [flat_length aenc_len, List.length_drop, NL.out]) (flat_ones aenc_one _) (by unfold maxLen; omega) (by omega) G_x7.out.size ?_
      intro u_x8 x8 o6 g6 _
      have O_x8 := Hid.of o6
      have G_x8 := Hid.of (G_x7.out.grown g6 G_x7.out.size (fun kk hk => own_ge O_x7.out hk))
      clear o6 g6
      have C_x8 := Hid.of (CS7.out.next G_x8.out)
      clear hHeld d0 d1 d2
      have d0 := (C_x8.out).head
      have d1 := ((C_x8.out).tail).head
      have d2 := (((C_x8.out).tail).tail).head
      refine hK.out _ _ ⟨d0, d1, d2⟩ (fun hHeld => ?_)
      clear hK K
      try simp only [Act.put, List.setIfInBounds_toArray, List.set_cons_zero, List.set_cons_succ]
      refine wpAnyH_take (i := 11) (oi := ⟨_, _, _, _, _, _⟩) (v := ?_) rfl (by kernel_rfl) (by kernel_rfl) (by kernel_rfl) (fun _ _ _ h => h) (Or.inl ⟨by rfl, ?_⟩) hHeld ?_
      rotate_left
      · intro w' hSw
        try dsimp only at hSw
        go_simp
        all_goals with_reducible rfl
      simp only [Act.put, List.setIfInBounds_toArray, List.set_cons_zero, List.set_cons_succ]
      refine wpAnyH_done (by kernel_rfl) ?_ _
      refine NoPanic.normal ?_
      clear hHeld d0 d1 d2
      skip
      obtain ⟨xa, hxa⟩ : ∃ xa, (if uc = k then ua else Option.map (fun x => x.add (k * 3)) ua) = xa := ⟨_, rfl⟩
      rw [hxa]
      clear hxa
      have h9 := O_x8.out
      rw [← flat_append, ← flat_append, HLE.out, show k + 1 + (N - k) = N + 1 by omega] at h9
      obtain ⟨la, lc, hu, -⟩ := own_one h9
      subst hu
      have H9 := Hid.of h9
      clear h9
      go_wp2_with fail
      go_meet
      exact ⟨la, lc, rfl, H9, G_x8⟩
  case rest =>
    obtain ⟨la, lc, rfl, O8, B8⟩ := hcut
    generalize hw8 : wc = w8 at *
    clear hw8
    have P8 := Hid.of (P7.out.next B8.out)
    have OFF8 : Hid (Off F6.own (.slice la (N + 1) lc)) := Hid.of (fun g hg c => by
      have h1 := own_ge O8.out hg
      have h2 := LT7.out g (S.sub P8.out.a.rep g c)
      omega)
    have hrow : CellRow w8 (.slice la (N + 1) lc) L.length (flat aenc L) := by rw [LL.out]; exact own_row O8.out
    have hput := S.put (.slice la (N + 1) lc) L (P8.out.a.ok OK.out) P8.out.a.rep (fun x hx => by have := LE6.out x hx; omega) hrow (own_cap O8.out) (by rw [LL.out]; omega) (fun _ => OFF8.out) LFIT.out
    clear hrow
    go_wp2_with fail
    refine hput.mono ?_
    rintro e w9 ⟨rfl, F9, rep9, st9⟩
    obtain ⟨ce, hce⟩ : ∃ ce, iCheck fRch L = ce := ⟨_, rfl⟩
    have HCE := Hid.of hce
    rw [hce] at rep9 ⊢
    obtain ⟨T2, hT2⟩ : ∃ T2, (if ce = 0 then iPut fRch T1 L else T1) = T2 := ⟨_, rfl⟩
    rw [hT2] at rep9
    have LE9 : Hid (∀ x ∈ T2, x.length ≤ 9) := Hid.of (fun x hx => by
      rw [← hT2] at hx
      split at hx
      · have := iPut_le LE6.out x hx
        have := LL.out
        omega
      · have := LE6.out x hx
        omega)
    have HT2 := Hid.of hT2
    have P9 := Hid.of (P8.out.step rep9 st9)
    have O9 := Hid.of (st9.own.own O8.out OFF8.out)
    clear hput rep9 st9 P8 hce hT2 OFF8 O8 B8 P7
    go_wp2
    go_loopg [14, 15] (N + 1) (fun kx gv iv wr => ∃ (j : Nat) (g : Bool), gv = .bool g ∧ iv = .int .i64 j ∧ j ≤ N + 1 ∧ N + 1 - j ≤ kx ∧ Hid (g = true ↔ ∀ s ∈ L.take j, rTakes fRch s.1 s.2.1 = 0) ∧ Hid (Below w9.heap.size w9 wr))
    case atStart => exact ⟨0, true, rfl, rfl, Nat.zero_le _, Nat.le_refl _, Hid.of ⟨fun _ s hs => (by rw [List.take_zero] at hs; cases hs), fun _ => rfl⟩, Hid.of (Below.refl _ _)⟩
    case round =>
      obtain ⟨j, g, rfl, rfl, hj, hkx, HG, HB⟩ := hrel
      have j0 : (0 : Int) ≤ (j : Int) := Int.natCast_nonneg _
      by_cases hlt : (j : Int) < ((N + 1 : Nat) : Int)
      · obtain ⟨x, hx⟩ : ∃ x, L[j]? = some x := ⟨_, List.getElem?_eq_getElem (by have := LL.out; omega)⟩
        obtain ⟨b1, o1, rfl, g1, e0, e1, e2⟩ := a_at ((own_row O9.out).kept HB.out) j x hx
        obtain ⟨xn, xt, xv⟩ := x
        simp only at e0 e1 e2
        have XF := Hid.of (LFIT.out _ (List.mem_of_getElem? hx))
        have HX := Hid.of hx
        have HJ : Hid (j < N + 1) := Hid.of (by omega)
        obtain ⟨sq, fq, c0, c1, c2, c3, RR⟩ := S.cells (P9.out.next HB.out).a.rep
        have hpl : p < wr.heap.size := cell_lt c0
        have FIT := Hid.of (S.fit P9.out.a.rep)
        have CSW : Hid (Cs wr [(⟨p, 0, none⟩, .int .i64 500), (⟨p, 1, none⟩, .string webPol.1), (⟨p, 2, none⟩, sq), (⟨p, 3, none⟩, fq), (⟨b1, o1 + j * 3, none⟩, .string xn), (⟨b1, o1 + j * 3 + 1, none⟩, .int .i64 xt), (⟨b1, o1 + j * 3 + 2, none⟩, .int .i64 xv)]) := Hid.of (.cons hpl c0 (.cons hpl c1 (.cons hpl c2 (.cons hpl c3 (.cons g1 e0 (.cons g1 e1 (.cons g1 e2 (.nil _))))))))
        have RRH := Hid.of RR
        clear hx g1 e0 e1 e2 c0 c1 c2 c3 hpl RR
        cases g
        · have HG2 : Hid (false = true ↔ ∀ s ∈ L.take (j + 1), rTakes fRch s.1 s.2.1 = 0) := Hid.of (by have := good_step HX.out HG.out; simpa using this)
          go_upto_region 13 with fail
          have d0 := (CSW.out).head
          have d1 := ((CSW.out).tail).head
          have d2 := (((CSW.out).tail).tail).head
          have d3 := ((((CSW.out).tail).tail).tail).head
          have d4 := (((((CSW.out).tail).tail).tail).tail).head
          have d5 := ((((((CSW.out).tail).tail).tail).tail).tail).head
          have d6 := (((((((CSW.out).tail).tail).tail).tail).tail).tail).head
          refine wp_region_noPanic ?_
          refine wp_region_held_drew (S := fun w' => w'.cell? ⟨p, 0, none⟩ = some (.int .i64 500) ∧ w'.cell? ⟨p, 1, none⟩ = some (.string webPol.1) ∧ w'.cell? ⟨p, 2, none⟩ = some (sq) ∧ w'.cell? ⟨p, 3, none⟩ = some (fq) ∧ w'.cell? ⟨b1, o1 + j * 3, none⟩ = some (.string xn) ∧ w'.cell? ⟨b1, o1 + j * 3 + 1, none⟩ = some (.int .i64 xt) ∧ w'.cell? ⟨b1, o1 + j * 3 + 2, none⟩ = some (.int .i64 xv)) (by kernel_rfl) ?_ (fun hHeld => ?_)
          · exact ⟨d0, d1, d2, d3, d4, d5, d6⟩
          refine wpAnyH_take (i := 0) (oi := ⟨_, _, _, _, _, _⟩) (v := ?_) rfl (by kernel_rfl) (by kernel_rfl) (by kernel_rfl) (fun _ _ _ h => h) (Or.inl ⟨by rfl, ?_⟩) hHeld ?_
          rotate_left
          · intro w' hSw
            try dsimp only at hSw
            go_simp
            all_goals with_reducible rfl
          simp only [Act.put, List.setIfInBounds_toArray, List.set_cons_zero, List.set_cons_succ]
          refine wpAnyH_take (i := 1) (oi := ⟨_, _, _, _, _, _⟩) (v := ?_) rfl (by kernel_rfl) (by kernel_rfl) (by kernel_rfl) (fun _ _ _ h => h) (Or.inl ⟨by rfl, ?_⟩) hHeld ?_
          rotate_left
          · intro w' hSw
            try dsimp only at hSw
            go_simp
            all_goals with_reducible rfl
          simp only [Act.put, List.setIfInBounds_toArray, List.set_cons_zero, List.set_cons_succ]
          refine wpAnyH_take (i := 2) (oi := ⟨_, _, _, _, _, _⟩) (v := undef) rfl (by kernel_rfl) (by kernel_rfl) (by kernel_rfl) (fun _ _ _ h => h) (Or.inr ⟨by rfl, rfl⟩) hHeld ?_
          simp only [Act.put, List.setIfInBounds_toArray, List.set_cons_zero, List.set_cons_succ]
          refine wpAnyH_take (i := 3) (oi := ⟨_, _, _, _, _, _⟩) (v := undef) rfl (by kernel_rfl) (by kernel_rfl) (by kernel_rfl) (fun _ _ _ h => h) (Or.inr ⟨by rfl, rfl⟩) hHeld ?_
          simp only [Act.put, List.setIfInBounds_toArray, List.set_cons_zero, List.set_cons_succ]
          refine wpAnyH_take (i := 4) (oi := ⟨_, _, _, _, _, _⟩) (v := undef) rfl (by kernel_rfl) (by kernel_rfl) (by kernel_rfl) (fun _ _ _ h => h) (Or.inr ⟨by rfl, rfl⟩) hHeld ?_
          simp only [Act.put, List.setIfInBounds_toArray, List.set_cons_zero, List.set_cons_succ]
          refine wpAnyH_take (i := 5) (oi := ⟨_, _, _, _, _, _⟩) (v := undef) rfl (by kernel_rfl) (by kernel_rfl) (by kernel_rfl) (fun _ _ _ h => h) (Or.inr ⟨by rfl, rfl⟩) hHeld ?_
          simp only [Act.put, List.setIfInBounds_toArray, List.set_cons_zero, List.set_cons_succ]
          refine wpAnyH_take (i := 6) (oi := ⟨_, _, _, _, _, _⟩) (v := undef) rfl (by kernel_rfl) (by kernel_rfl) (by kernel_rfl) (fun _ _ _ h => h) (Or.inr ⟨by rfl, rfl⟩) hHeld ?_
          simp only [Act.put, List.setIfInBounds_toArray, List.set_cons_zero, List.set_cons_succ]
          refine wpAnyH_take (i := 7) (oi := ⟨_, _, _, _, _, _⟩) (v := undef) rfl (by kernel_rfl) (by kernel_rfl) (by kernel_rfl) (fun _ _ _ h => h) (Or.inr ⟨by rfl, rfl⟩) hHeld ?_
          simp only [Act.put, List.setIfInBounds_toArray, List.set_cons_zero, List.set_cons_succ]
          refine wpAnyH_take (i := 8) (oi := ⟨_, _, _, _, _, _⟩) (v := undef) rfl (by kernel_rfl) (by kernel_rfl) (by kernel_rfl) (fun _ _ _ h => h) (Or.inr ⟨by rfl, rfl⟩) hHeld ?_
          simp only [Act.put, List.setIfInBounds_toArray, List.set_cons_zero, List.set_cons_succ]
          refine wpAnyH_take (i := 9) (oi := ⟨_, _, _, _, _, _⟩) (v := undef) rfl (by kernel_rfl) (by kernel_rfl) (by kernel_rfl) (fun _ _ _ h => h) (Or.inr ⟨by rfl, rfl⟩) hHeld ?_
          simp only [Act.put, List.setIfInBounds_toArray, List.set_cons_zero, List.set_cons_succ]
          refine wpAnyH_take (i := 10) (oi := ⟨_, _, _, _, _, _⟩) (v := undef) rfl (by kernel_rfl) (by kernel_rfl) (by kernel_rfl) (fun _ _ _ h => h) (Or.inr ⟨by rfl, rfl⟩) hHeld ?_
          simp only [Act.put, List.setIfInBounds_toArray, List.set_cons_zero, List.set_cons_succ]
          refine wpAnyH_take (i := 11) (oi := ⟨_, _, _, _, _, _⟩) (v := undef) rfl (by kernel_rfl) (by kernel_rfl) (by kernel_rfl) (fun _ _ _ h => h) (Or.inr ⟨by rfl, rfl⟩) hHeld ?_
          simp only [Act.put, List.setIfInBounds_toArray, List.set_cons_zero, List.set_cons_succ]
          refine wpAnyH_take (i := 12) (oi := ⟨_, _, _, _, _, _⟩) (v := ?_) rfl (by kernel_rfl) (by kernel_rfl) (by kernel_rfl) (fun _ _ _ h => h) (Or.inl ⟨by rfl, ?_⟩) hHeld ?_
          rotate_left
          · intro w' hSw
            try dsimp only at hSw
            go_simp
            all_goals with_reducible rfl
          simp only [Act.put, List.setIfInBounds_toArray, List.set_cons_zero, List.set_cons_succ]
          refine wpAnyH_take (i := 13) (oi := ⟨_, _, _, _, _, _⟩) (v := ?_) rfl (by kernel_rfl) (by kernel_rfl) (by kernel_rfl) (fun _ _ _ h => h) (Or.inl ⟨by rfl, ?_⟩) hHeld ?_
          rotate_left
          · intro w' hSw
            try dsimp only at hSw
            go_simp
            all_goals with_reducible rfl
          simp only [Act.put, List.setIfInBounds_toArray, List.set_cons_zero, List.set_cons_succ]
          refine wpAnyH_done (by kernel_rfl) ?_ _
          refine NoPanic.normal ?_
          clear hHeld d0 d1 d2 d3 d4 d5 d6
          go_wp2
          go_roundg (N + 1 - (j + 1))
          case measure => have := HJ.out; omega
          case rel => exact ⟨j + 1, false, rfl, by go_num, HJ.out, Nat.le_refl _, HG2, Hid.of HB.out.drew⟩
        · obtain ⟨te, hte⟩ : ∃ te, rTakes fRch xn xt = te := ⟨_, rfl⟩
          have HG2 : Hid ((te == 0) = true ↔ ∀ s ∈ L.take (j + 1), rTakes fRch s.1 s.2.1 = 0) := Hid.of (by have := good_step HX.out HG.out; simp only [Bool.true_and] at this; rw [← hte]; exact this)
          have HTE := Hid.of hte
          clear hte
          go_upto_region 13 with fail
          have d0 := (CSW.out).head
          have d1 := ((CSW.out).tail).head
          have d2 := (((CSW.out).tail).tail).head
          have d3 := ((((CSW.out).tail).tail).tail).head
          have d4 := (((((CSW.out).tail).tail).tail).tail).head
          have d5 := ((((((CSW.out).tail).tail).tail).tail).tail).head
          have d6 := (((((((CSW.out).tail).tail).tail).tail).tail).tail).head
          refine wp_region_noPanic ?_
          refine wp_region_held_drew (S := fun w' => w'.cell? ⟨p, 0, none⟩ = some (.int .i64 500) ∧ w'.cell? ⟨p, 1, none⟩ = some (.string webPol.1) ∧ w'.cell? ⟨p, 2, none⟩ = some (sq) ∧ w'.cell? ⟨p, 3, none⟩ = some (fq) ∧ w'.cell? ⟨b1, o1 + j * 3, none⟩ = some (.string xn) ∧ w'.cell? ⟨b1, o1 + j * 3 + 1, none⟩ = some (.int .i64 xt) ∧ w'.cell? ⟨b1, o1 + j * 3 + 2, none⟩ = some (.int .i64 xv)) (by kernel_rfl) ?_ (fun hHeld => ?_)
          · exact ⟨d0, d1, d2, d3, d4, d5, d6⟩
          refine wpAnyH_take (i := 0) (oi := ⟨_, _, _, _, _, _⟩) (v := ?_) rfl (by kernel_rfl) (by kernel_rfl) (by kernel_rfl) (fun _ _ _ h => h) (Or.inl ⟨by rfl, ?_⟩) hHeld ?_
          rotate_left
          · intro w' hSw
            try dsimp only at hSw
            go_simp
            all_goals with_reducible rfl
          simp only [Act.put, List.setIfInBounds_toArray, List.set_cons_zero, List.set_cons_succ]
          refine wpAnyH_take (i := 1) (oi := ⟨_, _, _, _, _, _⟩) (v := ?_) rfl (by kernel_rfl) (by kernel_rfl) (by kernel_rfl) (fun _ _ _ h => h) (Or.inl ⟨by rfl, ?_⟩) hHeld ?_
          rotate_left
          · intro w' hSw
            try dsimp only at hSw
            go_simp
            all_goals with_reducible rfl
          simp only [Act.put, List.setIfInBounds_toArray, List.set_cons_zero, List.set_cons_succ]
          refine wpAnyH_take (i := 2) (oi := ⟨_, _, _, _, _, _⟩) (v := ?_) rfl (by kernel_rfl) (by kernel_rfl) (by kernel_rfl) (fun _ _ _ h => h) (Or.inl ⟨by rfl, ?_⟩) hHeld ?_
          rotate_left
          · intro w' hSw
            try dsimp only at hSw
            go_simp
            all_goals with_reducible rfl
          simp only [Act.put, List.setIfInBounds_toArray, List.set_cons_zero, List.set_cons_succ]
          refine wpAnyH_take (i := 3) (oi := ⟨_, _, _, _, _, _⟩) (v := ?_) rfl (by kernel_rfl) (by kernel_rfl) (by kernel_rfl) (fun _ _ _ h => h) (Or.inl ⟨by rfl, ?_⟩) hHeld ?_
          rotate_left
          · intro w' hSw
            try dsimp only at hSw
            go_simp
            all_goals with_reducible rfl
          simp only [Act.put, List.setIfInBounds_toArray, List.set_cons_zero, List.set_cons_succ]
          refine wpAnyH_take (i := 4) (oi := ⟨_, _, _, _, _, _⟩) (v := ?_) rfl (by kernel_rfl) (by kernel_rfl) (by kernel_rfl) (fun _ _ _ h => h) (Or.inl ⟨by rfl, ?_⟩) hHeld ?_
          rotate_left
          · intro w' hSw
            try dsimp only at hSw
            go_simp
            all_goals with_reducible rfl
          simp only [Act.put, List.setIfInBounds_toArray, List.set_cons_zero, List.set_cons_succ]
          refine wpAnyH_take (i := 5) (oi := ⟨_, _, _, _, _, _⟩) (v := ?_) rfl (by kernel_rfl) (by kernel_rfl) (by kernel_rfl) (fun _ _ _ h => h) (Or.inl ⟨by rfl, ?_⟩) hHeld ?_
          rotate_left
          · intro w' hSw
            try dsimp only at hSw
            go_simp
            all_goals with_reducible rfl
          simp only [Act.put, List.setIfInBounds_toArray, List.set_cons_zero, List.set_cons_succ]
          refine wpAnyH_take (i := 6) (oi := ⟨_, _, _, _, _, _⟩) (v := ?_) rfl (by kernel_rfl) (by kernel_rfl) (by kernel_rfl) (fun _ _ _ h => h) (Or.inl ⟨by rfl, ?_⟩) hHeld ?_
          rotate_left
          · intro w' hSw
            try dsimp only at hSw
            go_simp
            all_goals with_reducible rfl
          simp only [Act.put, List.setIfInBounds_toArray, List.set_cons_zero, List.set_cons_succ]
          refine wpAnyH_take (i := 7) (oi := ⟨_, _, _, _, _, _⟩) (v := ?_) rfl (by kernel_rfl) (by kernel_rfl) (by kernel_rfl) (fun _ _ _ h => h) (Or.inl ⟨by rfl, ?_⟩) hHeld ?_
          rotate_left
          · intro w' hSw
            try dsimp only at hSw
            go_simp
            all_goals with_reducible rfl
          simp only [Act.put, List.setIfInBounds_toArray, List.set_cons_zero, List.set_cons_succ]
          refine wpAnyH_take (i := 8) (oi := ⟨_, _, _, _, _, _⟩) (v := ?_) rfl (by kernel_rfl) (by kernel_rfl) (by kernel_rfl) (fun _ _ _ h => h) (Or.inl ⟨by rfl, ?_⟩) hHeld ?_
          rotate_left
          · intro w' hSw
            try dsimp only at hSw
            go_simp
            all_goals with_reducible rfl
          simp only [Act.put, List.setIfInBounds_toArray, List.set_cons_zero, List.set_cons_succ]
          refine wpAnyH_take (i := 9) (oi := ⟨_, _, _, _, _, _⟩) (v := ?_) rfl (by kernel_rfl) (by kernel_rfl) (by kernel_rfl) (fun _ _ _ h => h) (Or.inl ⟨by rfl, ?_⟩) hHeld ?_
          rotate_left
          · intro w' hSw
            try dsimp only at hSw
            go_simp
            all_goals with_reducible rfl
          simp only [Act.put, List.setIfInBounds_toArray, List.set_cons_zero, List.set_cons_succ]
          refine wpAnyH_ready (rs := [10]) (by kernel_rfl) (by simp) ?_
          refine AllReadyH.cons (o := ⟨_, _, _, _, _, _⟩) rfl (fun K hK => ?_) AllReadyH.nil
          go_simp
          have bd := (Below.refl wr.heap.size wr).drew
          refine (reaches.takes (.agg #[.int .i64 500, .string webPol.1, sq, fq]) fRch xn xt xv wr.drew trivial FIT.out XF.out.1 XF.out.2.1 (RRH.out.kept bd)).mono ?_
          rintro e w3 ⟨rfl, b3⟩
          rw [HTE.out]
          have b3' := bd.trans b3
          have CS3 := Hid.of (CSW.out.next b3')
          have BW3 := Hid.of (HB.out.trans (b3'.mono HB.out.size))
          clear bd b3 b3' CSW HB RRH
          clear hHeld d0 d1 d2 d3 d4 d5 d6
          have d0 := (CS3.out).head
          have d1 := ((CS3.out).tail).head
          have d2 := (((CS3.out).tail).tail).head
          have d3 := ((((CS3.out).tail).tail).tail).head
          have d4 := (((((CS3.out).tail).tail).tail).tail).head
          have d5 := ((((((CS3.out).tail).tail).tail).tail).tail).head
          have d6 := (((((((CS3.out).tail).tail).tail).tail).tail).tail).head
          refine hK.out _ _ ⟨d0, d1, d2, d3, d4, d5, d6⟩ (fun hHeld => ?_)
          clear hK K
          try simp only [Act.put, List.setIfInBounds_toArray, List.set_cons_zero, List.set_cons_succ]
          refine wpAnyH_take (i := 11) (oi := ⟨_, _, _, _, _, _⟩) (v := ?_) rfl (by kernel_rfl) (by kernel_rfl) (by kernel_rfl) (fun _ _ _ h => h) (Or.inl ⟨by rfl, ?_⟩) hHeld ?_
          rotate_left
          · intro w' hSw
            try dsimp only at hSw
            go_simp
            all_goals with_reducible rfl
          simp only [Act.put, List.setIfInBounds_toArray, List.set_cons_zero, List.set_cons_succ]
          refine wpAnyH_take (i := 12) (oi := ⟨_, _, _, _, _, _⟩) (v := ?_) rfl (by kernel_rfl) (by kernel_rfl) (by kernel_rfl) (fun _ _ _ h => h) (Or.inl ⟨by rfl, ?_⟩) hHeld ?_
          rotate_left
          · intro w' hSw
            try dsimp only at hSw
            go_simp
            all_goals with_reducible rfl
          simp only [Act.put, List.setIfInBounds_toArray, List.set_cons_zero, List.set_cons_succ]
          refine wpAnyH_take (i := 13) (oi := ⟨_, _, _, _, _, _⟩) (v := ?_) rfl (by kernel_rfl) (by kernel_rfl) (by kernel_rfl) (fun _ _ _ h => h) (Or.inl ⟨by rfl, ?_⟩) hHeld ?_
          rotate_left
          · intro w' hSw
            try dsimp only at hSw
            go_simp
            all_goals with_reducible rfl
          simp only [Act.put, List.setIfInBounds_toArray, List.set_cons_zero, List.set_cons_succ]
          refine wpAnyH_done (by kernel_rfl) ?_ _
          refine NoPanic.normal ?_
          clear hHeld d0 d1 d2 d3 d4 d5 d6
          go_wp2
          go_roundg (N + 1 - (j + 1))
          case measure => have := HJ.out; omega
          case rel => exact ⟨j + 1, te == 0, rfl, by go_num, HJ.out, Nat.le_refl _, HG2, BW3⟩
      · obtain rfl : j = N + 1 := by omega
        have hgc : g = true ↔ ce = 0 := by
          rw [HG.out, ← HCE.out, iCheck_takes' (by rw [LL.out]; omega) (by rw [LL.out]; omega), iTakes_zero]
          rw [show L.take (N + 1) = L by rw [← LL.out, List.take_length]]
        have P10 := Hid.of (P9.out.next HB.out)
        clear HG P9 O9 HB hlt
        by_cases hc0 : ce = 0
        · obtain rfl : g = true := hgc.2 hc0
          have kc : (ce == 0) = true := by rw [hc0]; rfl
          have kc2 : (ce != 0) = false := by rw [hc0]; rfl
          have H11 := Hid.of P10.out.a
          clear hgc P10 HT2 HCE
          have hcp := S.copy (H11.out.ok OK.out) H11.out.rep (fun x hx => by have := LE9.out x hx; omega)
          go_wp2_with fail
          refine hcp.mono ?_
          rintro e w12 ⟨q2, G12, rfl, rep12, g1, g2, b12⟩
          have P12 := Hid.of (H11.out.pair b12 rep12 g1 g2)
          clear rep12 g1 g2 b12 hcp H11
          have htk := S.tick n (P12.out.a.ok OK.out) P12.out.a.rep (fun x hx => by have := LE9.out x hx; omega) HN.out
          go_wp2_with fail
          refine htk.mono ?_
          rintro e w13 ⟨rfl, F13, rep13, st13⟩
          obtain ⟨te, hte⟩ : ∃ te, iTickE fRch n = te := ⟨_, rfl⟩
          have HTK := Hid.of (fr_tick n)
          rw [hte] at rep13 HTK ⊢
          clear hte
          have P13 := Hid.of (P12.out.step rep13 st13)
          clear rep13 st13 htk P12
          go_wp2_with fail
          refine (tiersAlive_any S _ (P13.out.a.ok OK.out)).mono ?_
          rintro e w14 ⟨rfl, b14⟩
          have P14 := Hid.of (P13.out.next b14)
          clear b14 P13
          by_cases ht0 : te = 0
          · have tk := HTK.out.1 ht0
            have kt : (te == 0) = true := by rw [ht0]; rfl
            have n0 : n ≥ 0 := tk.1
            have n1 : n ≤ 1099511627276 := tk.2
            have H15 : Hid (IHere S w.heap.size w w14 p (iNow fRch n) (iKeep (iNow fRch n) T2) F13) := Hid.of (by have h := P14.out.a; rwa [if_pos ht0, if_pos ht0] at h)
            have LE15 : Hid (∀ x ∈ iKeep (iNow fRch n) T2, x.length + 8 ≤ 1000) := Hid.of (fun x hx => by have := iKeep_le LE9.out x hx; omega)
            clear P14 tk HTK ht0
            have hp1 := S.put (.slice none 0 0) [] (H15.out.ok OK.out) H15.out.rep LE15.out ⟨_, _, rfl, .inl rfl⟩ (Nat.le_refl _) (Nat.zero_le _) (fun h => absurd rfl h) (fun x hx => absurd hx List.not_mem_nil)
            rw [show iCheck (iNow fRch n) [] = 1 from rfl, if_neg (by decide)] at hp1
            go_wp2_with fail
            refine hp1.mono ?_
            rintro e w16 ⟨rfl, F16, rep16, st16⟩
            have H16 := Hid.of (H15.out.step rep16 st16)
            clear rep16 st16 hp1 H15
            obtain ⟨w17, hmk, o17, b17⟩ := make_nine w16
            obtain ⟨y, hy⟩ : ∃ y, w16.heap.size = y := ⟨_, rfl⟩
            rw [hy] at hmk o17
            have hoff17 : Off F16.own (.slice (some ⟨y, 0, none⟩) 9 9) := fun g hg hF => by have h1 := S.lt H16.out.rep g (S.sub H16.out.rep g hF); simp [Value.ownBlock] at hg; omega
            have hrow17 : CellRow w17 (.slice (some ⟨y, 0, none⟩) 9 9) (List.replicate 9 ((⟨#[]⟩, 0, 0) : SamL)).length (flat aenc (List.replicate 9 (⟨#[]⟩, 0, 0))) := own_row o17
            have hb17 : w16.heap.size ≤ w17.heap.size := b17.size
            have H17 := Hid.of (H16.out.next b17)
            have hp2 := S.put (.slice (some ⟨y, 0, none⟩) 9 9) (List.replicate 9 (⟨#[]⟩, 0, 0)) (H17.out.ok OK.out) H17.out.rep LE15.out hrow17 (Nat.le_refl _) (by decide) (fun _ => hoff17) nine_fit
            rw [show iCheck (iNow fRch n) (List.replicate 9 (⟨#[]⟩, 0, 0)) = 2 from rfl, if_neg (by decide)] at hp2
            clear hy o17 b17 hb17 hrow17 hoff17
            go_wp2_with fail
            refine hp2.mono ?_
            rintro e w18 ⟨rfl, F18, rep18, st18⟩
            have H18 := Hid.of (H17.out.step rep18 st18)
            clear rep18 st18 hp2 H16 H17
            go_wp2
            go_ret
            exact ⟨by first | rfl | exact congrArg (fun b => Ending.returned (Value.bool (!b))) NN1.out, H18.out.fr⟩
          · by_cases hn0 : n < 0
            · have n0 : ¬ n ≥ 0 := by omega
              have kt : (te == 0) = false := beq_eq_false_iff_ne.2 ht0
              have P15 : Hid (IPair S w.heap.size w w14 p fRch T2 F13 q2 fRch T2 G12) := Hid.of (by have h := P14.out; rwa [if_neg ht0, if_neg ht0] at h)
              have LE15 : Hid (∀ x ∈ T2, x.length + 8 ≤ 1000) := Hid.of (fun x hx => by have := LE9.out x hx; omega)
              clear P14 HTK
              have hs2 := S.same (P15.out.a.ok OK.out) P15.out.a.rep P15.out.b.rep (fun x hx => by have := LE9.out x hx; omega) (fun x hx => by have := LE9.out x hx; omega)
              go_wp2_with fail
              refine hs2.mono ?_
              rintro e w15 ⟨sb2, rfl, hsb2, b15⟩
              obtain rfl : sb2 = true := hsb2.out.2 ⟨rfl, rfl, rfl, rfl⟩
              have H15 := Hid.of (P15.out.a.next b15)
              clear hsb2 b15 hs2 P15 ht0
              have hp1 := S.put (.slice none 0 0) [] (H15.out.ok OK.out) H15.out.rep LE15.out ⟨_, _, rfl, .inl rfl⟩ (Nat.le_refl _) (Nat.zero_le _) (fun h => absurd rfl h) (fun x hx => absurd hx List.not_mem_nil)
              rw [show iCheck (fRch) [] = 1 from rfl, if_neg (by decide)] at hp1
              go_wp2_with fail
              refine hp1.mono ?_
              rintro e w16 ⟨rfl, F16, rep16, st16⟩
              have H16 := Hid.of (H15.out.step rep16 st16)
              clear rep16 st16 hp1 H15
              obtain ⟨w17, hmk, o17, b17⟩ := make_nine w16
              obtain ⟨y, hy⟩ : ∃ y, w16.heap.size = y := ⟨_, rfl⟩
              rw [hy] at hmk o17
              have hoff17 : Off F16.own (.slice (some ⟨y, 0, none⟩) 9 9) := fun g hg hF => by have h1 := S.lt H16.out.rep g (S.sub H16.out.rep g hF); simp [Value.ownBlock] at hg; omega
              have hrow17 : CellRow w17 (.slice (some ⟨y, 0, none⟩) 9 9) (List.replicate 9 ((⟨#[]⟩, 0, 0) : SamL)).length (flat aenc (List.replicate 9 (⟨#[]⟩, 0, 0))) := own_row o17
              have hb17 : w16.heap.size ≤ w17.heap.size := b17.size
              have H17 := Hid.of (H16.out.next b17)
              have hp2 := S.put (.slice (some ⟨y, 0, none⟩) 9 9) (List.replicate 9 (⟨#[]⟩, 0, 0)) (H17.out.ok OK.out) H17.out.rep LE15.out hrow17 (Nat.le_refl _) (by decide) (fun _ => hoff17) nine_fit
              rw [show iCheck (fRch) (List.replicate 9 (⟨#[]⟩, 0, 0)) = 2 from rfl, if_neg (by decide)] at hp2
              clear hy o17 b17 hb17 hrow17 hoff17
              go_wp2_with fail
              refine hp2.mono ?_
              rintro e w18 ⟨rfl, F18, rep18, st18⟩
              have H18 := Hid.of (H17.out.step rep18 st18)
              clear rep18 st18 hp2 H16 H17
              go_wp2
              go_ret
              exact ⟨by first | rfl | exact congrArg (fun b => Ending.returned (Value.bool (!b))) NN1.out, H18.out.fr⟩
            · have n0 : n ≥ 0 := by omega
              have n1 : ¬ n ≤ 1099511627276 := fun c => ht0 (HTK.out.2 ⟨by omega, c⟩)
              have NN1 := Hid.of (decide_eq_false n1)
              have kt : (te == 0) = false := beq_eq_false_iff_ne.2 ht0
              have P15 : Hid (IPair S w.heap.size w w14 p fRch T2 F13 q2 fRch T2 G12) := Hid.of (by have h := P14.out; rwa [if_neg ht0, if_neg ht0] at h)
              have LE15 : Hid (∀ x ∈ T2, x.length + 8 ≤ 1000) := Hid.of (fun x hx => by have := LE9.out x hx; omega)
              clear P14 HTK
              have hs2 := S.same (P15.out.a.ok OK.out) P15.out.a.rep P15.out.b.rep (fun x hx => by have := LE9.out x hx; omega) (fun x hx => by have := LE9.out x hx; omega)
              go_wp2_with fail
              refine hs2.mono ?_
              rintro e w15 ⟨sb2, rfl, hsb2, b15⟩
              obtain rfl : sb2 = true := hsb2.out.2 ⟨rfl, rfl, rfl, rfl⟩
              have H15 := Hid.of (P15.out.a.next b15)
              clear hsb2 b15 hs2 P15 ht0
              have hp1 := S.put (.slice none 0 0) [] (H15.out.ok OK.out) H15.out.rep LE15.out ⟨_, _, rfl, .inl rfl⟩ (Nat.le_refl _) (Nat.zero_le _) (fun h => absurd rfl h) (fun x hx => absurd hx List.not_mem_nil)
              rw [show iCheck (fRch) [] = 1 from rfl, if_neg (by decide)] at hp1
              go_wp2_with fail
              refine hp1.mono ?_
              rintro e w16 ⟨rfl, F16, rep16, st16⟩
              have H16 := Hid.of (H15.out.step rep16 st16)
              clear rep16 st16 hp1 H15
              obtain ⟨w17, hmk, o17, b17⟩ := make_nine w16
              obtain ⟨y, hy⟩ : ∃ y, w16.heap.size = y := ⟨_, rfl⟩
              rw [hy] at hmk o17
              have hoff17 : Off F16.own (.slice (some ⟨y, 0, none⟩) 9 9) := fun g hg hF => by have h1 := S.lt H16.out.rep g (S.sub H16.out.rep g hF); simp [Value.ownBlock] at hg; omega
              have hrow17 : CellRow w17 (.slice (some ⟨y, 0, none⟩) 9 9) (List.replicate 9 ((⟨#[]⟩, 0, 0) : SamL)).length (flat aenc (List.replicate 9 (⟨#[]⟩, 0, 0))) := own_row o17
              have hb17 : w16.heap.size ≤ w17.heap.size := b17.size
              have H17 := Hid.of (H16.out.next b17)
              have hp2 := S.put (.slice (some ⟨y, 0, none⟩) 9 9) (List.replicate 9 (⟨#[]⟩, 0, 0)) (H17.out.ok OK.out) H17.out.rep LE15.out hrow17 (Nat.le_refl _) (by decide) (fun _ => hoff17) nine_fit
              rw [show iCheck (fRch) (List.replicate 9 (⟨#[]⟩, 0, 0)) = 2 from rfl, if_neg (by decide)] at hp2
              clear hy o17 b17 hb17 hrow17 hoff17
              go_wp2_with fail
              refine hp2.mono ?_
              rintro e w18 ⟨rfl, F18, rep18, st18⟩
              have H18 := Hid.of (H17.out.step rep18 st18)
              clear rep18 st18 hp2 H16 H17
              go_wp2
              go_ret
              exact ⟨by first | rfl | exact congrArg (fun b => Ending.returned (Value.bool (!b))) NN1.out, H18.out.fr⟩
        · obtain rfl : g = false := by
            cases g
            · rfl
            · exact absurd (hgc.1 rfl) hc0
          have kc : (ce == 0) = false := beq_eq_false_iff_ne.2 hc0
          have kc2 : (ce != 0) = true := by simp [hc0]
          have HTT : Hid (T2 = T1) := Hid.of (by rw [← HT2.out, if_neg hc0])
          have hsm := S.same (P10.out.a.ok OK.out) P10.out.a.rep P10.out.b.rep (fun x hx => by have := LE9.out x hx; omega) (fun x hx => by have := LE6.out x hx; omega)
          clear hgc
          go_wp2_with fail
          refine hsm.mono ?_
          rintro e w11 ⟨sb, rfl, hsb, b11⟩
          obtain rfl : sb = true := hsb.out.2 ⟨rfl, rfl, rfl, HTT.out⟩
          have H11 := Hid.of (P10.out.a.next b11)
          clear hsb b11 hsm P10 HT2 HCE
          have hcp := S.copy (H11.out.ok OK.out) H11.out.rep (fun x hx => by have := LE9.out x hx; omega)
          go_wp2_with fail
          refine hcp.mono ?_
          rintro e w12 ⟨q2, G12, rfl, rep12, g1, g2, b12⟩
          have P12 := Hid.of (H11.out.pair b12 rep12 g1 g2)
          clear rep12 g1 g2 b12 hcp H11
          have htk := S.tick n (P12.out.a.ok OK.out) P12.out.a.rep (fun x hx => by have := LE9.out x hx; omega) HN.out
          go_wp2_with fail
          refine htk.mono ?_
          rintro e w13 ⟨rfl, F13, rep13, st13⟩
          obtain ⟨te, hte⟩ : ∃ te, iTickE fRch n = te := ⟨_, rfl⟩
          have HTK := Hid.of (fr_tick n)
          rw [hte] at rep13 HTK ⊢
          clear hte
          have P13 := Hid.of (P12.out.step rep13 st13)
          clear rep13 st13 htk P12
          go_wp2_with fail
          refine (tiersAlive_any S _ (P13.out.a.ok OK.out)).mono ?_
          rintro e w14 ⟨rfl, b14⟩
          have P14 := Hid.of (P13.out.next b14)
          clear b14 P13
          by_cases ht0 : te = 0
          · have tk := HTK.out.1 ht0
            have kt : (te == 0) = true := by rw [ht0]; rfl
            have n0 : n ≥ 0 := tk.1
            have n1 : n ≤ 1099511627276 := tk.2
            have H15 : Hid (IHere S w.heap.size w w14 p (iNow fRch n) (iKeep (iNow fRch n) T2) F13) := Hid.of (by have h := P14.out.a; rwa [if_pos ht0, if_pos ht0] at h)
            have LE15 : Hid (∀ x ∈ iKeep (iNow fRch n) T2, x.length + 8 ≤ 1000) := Hid.of (fun x hx => by have := iKeep_le LE9.out x hx; omega)
            clear P14 tk HTK ht0
            have hp1 := S.put (.slice none 0 0) [] (H15.out.ok OK.out) H15.out.rep LE15.out ⟨_, _, rfl, .inl rfl⟩ (Nat.le_refl _) (Nat.zero_le _) (fun h => absurd rfl h) (fun x hx => absurd hx List.not_mem_nil)
            rw [show iCheck (iNow fRch n) [] = 1 from rfl, if_neg (by decide)] at hp1
            go_wp2_with fail
            refine hp1.mono ?_
            rintro e w16 ⟨rfl, F16, rep16, st16⟩
            have H16 := Hid.of (H15.out.step rep16 st16)
            clear rep16 st16 hp1 H15
            obtain ⟨w17, hmk, o17, b17⟩ := make_nine w16
            obtain ⟨y, hy⟩ : ∃ y, w16.heap.size = y := ⟨_, rfl⟩
            rw [hy] at hmk o17
            have hoff17 : Off F16.own (.slice (some ⟨y, 0, none⟩) 9 9) := fun g hg hF => by have h1 := S.lt H16.out.rep g (S.sub H16.out.rep g hF); simp [Value.ownBlock] at hg; omega
            have hrow17 : CellRow w17 (.slice (some ⟨y, 0, none⟩) 9 9) (List.replicate 9 ((⟨#[]⟩, 0, 0) : SamL)).length (flat aenc (List.replicate 9 (⟨#[]⟩, 0, 0))) := own_row o17
            have hb17 : w16.heap.size ≤ w17.heap.size := b17.size
            have H17 := Hid.of (H16.out.next b17)
            have hp2 := S.put (.slice (some ⟨y, 0, none⟩) 9 9) (List.replicate 9 (⟨#[]⟩, 0, 0)) (H17.out.ok OK.out) H17.out.rep LE15.out hrow17 (Nat.le_refl _) (by decide) (fun _ => hoff17) nine_fit
            rw [show iCheck (iNow fRch n) (List.replicate 9 (⟨#[]⟩, 0, 0)) = 2 from rfl, if_neg (by decide)] at hp2
            clear hy o17 b17 hb17 hrow17 hoff17
            go_wp2_with fail
            refine hp2.mono ?_
            rintro e w18 ⟨rfl, F18, rep18, st18⟩
            have H18 := Hid.of (H17.out.step rep18 st18)
            clear rep18 st18 hp2 H16 H17
            go_wp2
            go_ret
            exact ⟨by first | rfl | exact congrArg (fun b => Ending.returned (Value.bool (!b))) NN1.out, H18.out.fr⟩
          · by_cases hn0 : n < 0
            · have n0 : ¬ n ≥ 0 := by omega
              have kt : (te == 0) = false := beq_eq_false_iff_ne.2 ht0
              have P15 : Hid (IPair S w.heap.size w w14 p fRch T2 F13 q2 fRch T2 G12) := Hid.of (by have h := P14.out; rwa [if_neg ht0, if_neg ht0] at h)
              have LE15 : Hid (∀ x ∈ T2, x.length + 8 ≤ 1000) := Hid.of (fun x hx => by have := LE9.out x hx; omega)
              clear P14 HTK
              have hs2 := S.same (P15.out.a.ok OK.out) P15.out.a.rep P15.out.b.rep (fun x hx => by have := LE9.out x hx; omega) (fun x hx => by have := LE9.out x hx; omega)
              go_wp2_with fail
              refine hs2.mono ?_
              rintro e w15 ⟨sb2, rfl, hsb2, b15⟩
              obtain rfl : sb2 = true := hsb2.out.2 ⟨rfl, rfl, rfl, rfl⟩
              have H15 := Hid.of (P15.out.a.next b15)
              clear hsb2 b15 hs2 P15 ht0
              have hp1 := S.put (.slice none 0 0) [] (H15.out.ok OK.out) H15.out.rep LE15.out ⟨_, _, rfl, .inl rfl⟩ (Nat.le_refl _) (Nat.zero_le _) (fun h => absurd rfl h) (fun x hx => absurd hx List.not_mem_nil)
              rw [show iCheck (fRch) [] = 1 from rfl, if_neg (by decide)] at hp1
              go_wp2_with fail
              refine hp1.mono ?_
              rintro e w16 ⟨rfl, F16, rep16, st16⟩
              have H16 := Hid.of (H15.out.step rep16 st16)
              clear rep16 st16 hp1 H15
              obtain ⟨w17, hmk, o17, b17⟩ := make_nine w16
              obtain ⟨y, hy⟩ : ∃ y, w16.heap.size = y := ⟨_, rfl⟩
              rw [hy] at hmk o17
              have hoff17 : Off F16.own (.slice (some ⟨y, 0, none⟩) 9 9) := fun g hg hF => by have h1 := S.lt H16.out.rep g (S.sub H16.out.rep g hF); simp [Value.ownBlock] at hg; omega
              have hrow17 : CellRow w17 (.slice (some ⟨y, 0, none⟩) 9 9) (List.replicate 9 ((⟨#[]⟩, 0, 0) : SamL)).length (flat aenc (List.replicate 9 (⟨#[]⟩, 0, 0))) := own_row o17
              have hb17 : w16.heap.size ≤ w17.heap.size := b17.size
              have H17 := Hid.of (H16.out.next b17)
              have hp2 := S.put (.slice (some ⟨y, 0, none⟩) 9 9) (List.replicate 9 (⟨#[]⟩, 0, 0)) (H17.out.ok OK.out) H17.out.rep LE15.out hrow17 (Nat.le_refl _) (by decide) (fun _ => hoff17) nine_fit
              rw [show iCheck (fRch) (List.replicate 9 (⟨#[]⟩, 0, 0)) = 2 from rfl, if_neg (by decide)] at hp2
              clear hy o17 b17 hb17 hrow17 hoff17
              go_wp2_with fail
              refine hp2.mono ?_
              rintro e w18 ⟨rfl, F18, rep18, st18⟩
              have H18 := Hid.of (H17.out.step rep18 st18)
              clear rep18 st18 hp2 H16 H17
              go_wp2
              go_ret
              exact ⟨by first | rfl | exact congrArg (fun b => Ending.returned (Value.bool (!b))) NN1.out, H18.out.fr⟩
            · have n0 : n ≥ 0 := by omega
              have n1 : ¬ n ≤ 1099511627276 := fun c => ht0 (HTK.out.2 ⟨by omega, c⟩)
              have NN1 := Hid.of (decide_eq_false n1)
              have kt : (te == 0) = false := beq_eq_false_iff_ne.2 ht0
              have P15 : Hid (IPair S w.heap.size w w14 p fRch T2 F13 q2 fRch T2 G12) := Hid.of (by have h := P14.out; rwa [if_neg ht0, if_neg ht0] at h)
              have LE15 : Hid (∀ x ∈ T2, x.length + 8 ≤ 1000) := Hid.of (fun x hx => by have := LE9.out x hx; omega)
              clear P14 HTK
              have hs2 := S.same (P15.out.a.ok OK.out) P15.out.a.rep P15.out.b.rep (fun x hx => by have := LE9.out x hx; omega) (fun x hx => by have := LE9.out x hx; omega)
              go_wp2_with fail
              refine hs2.mono ?_
              rintro e w15 ⟨sb2, rfl, hsb2, b15⟩
              obtain rfl : sb2 = true := hsb2.out.2 ⟨rfl, rfl, rfl, rfl⟩
              have H15 := Hid.of (P15.out.a.next b15)
              clear hsb2 b15 hs2 P15 ht0
              have hp1 := S.put (.slice none 0 0) [] (H15.out.ok OK.out) H15.out.rep LE15.out ⟨_, _, rfl, .inl rfl⟩ (Nat.le_refl _) (Nat.zero_le _) (fun h => absurd rfl h) (fun x hx => absurd hx List.not_mem_nil)
              rw [show iCheck (fRch) [] = 1 from rfl, if_neg (by decide)] at hp1
              go_wp2_with fail
              refine hp1.mono ?_
              rintro e w16 ⟨rfl, F16, rep16, st16⟩
              have H16 := Hid.of (H15.out.step rep16 st16)
              clear rep16 st16 hp1 H15
              obtain ⟨w17, hmk, o17, b17⟩ := make_nine w16
              obtain ⟨y, hy⟩ : ∃ y, w16.heap.size = y := ⟨_, rfl⟩
              rw [hy] at hmk o17
              have hoff17 : Off F16.own (.slice (some ⟨y, 0, none⟩) 9 9) := fun g hg hF => by have h1 := S.lt H16.out.rep g (S.sub H16.out.rep g hF); simp [Value.ownBlock] at hg; omega
              have hrow17 : CellRow w17 (.slice (some ⟨y, 0, none⟩) 9 9) (List.replicate 9 ((⟨#[]⟩, 0, 0) : SamL)).length (flat aenc (List.replicate 9 (⟨#[]⟩, 0, 0))) := own_row o17
              have hb17 : w16.heap.size ≤ w17.heap.size := b17.size
              have H17 := Hid.of (H16.out.next b17)
              have hp2 := S.put (.slice (some ⟨y, 0, none⟩) 9 9) (List.replicate 9 (⟨#[]⟩, 0, 0)) (H17.out.ok OK.out) H17.out.rep LE15.out hrow17 (Nat.le_refl _) (by decide) (fun _ => hoff17) nine_fit
              rw [show iCheck (fRch) (List.replicate 9 (⟨#[]⟩, 0, 0)) = 2 from rfl, if_neg (by decide)] at hp2
              clear hy o17 b17 hb17 hrow17 hoff17
              go_wp2_with fail
              refine hp2.mono ?_
              rintro e w18 ⟨rfl, F18, rep18, st18⟩
              have H18 := Hid.of (H17.out.step rep18 st18)
              clear rep18 st18 hp2 H16 H17
              go_wp2
              go_ret
              exact ⟨by first | rfl | exact congrArg (fun b => Ending.returned (Value.bool (!b))) NN1.out, H18.out.fr⟩

end Go.Proofs.YtnohmloilcpmiaaGreat
