/-
  A bundle of texts: IEC IED IEE IEH IEI QEH HEA HMO.
-/
import Derived.Test.YtbhcafginmkaaaaGreatN28
import Derived.Test.YtbhcafginmkaaaaGreatN38
import Derived.Test.YtbhcafginmkaaaaGreatN05
import Derived.Test.YtbhcafginmkaaaaGreatN34
import Derived.Test.YtbhcafginmkaaaaGreatN23
import Derived.Test.YtbhcafginmkaaaaGreatN22
import Derived.Test.YtbhcafginmkaaaaGreatN40
import Derived.Test.YtbhcafginmkaaaaGreatN26
namespace Go.Proofs.YtbhcafginmkaaaaGreat
open Go.RowKit Go.Lib

theorem rec_info' : (Tryz.prog.info? 102).map (fun i => (i.zero, i.size, i.bytes)) = some (some (.agg #[.string ⟨#[]⟩, .int .i64 0, .int .i64 0, .int .i64 0, .int .u64 0, .int .i64 0, .int .i64 0]), 7, 64) := by kernel_rfl

theorem iTakes_at {r : RchL} {ss : List SamL} {j : Nat} {x : SamL} (hx : ss[j]? = some x) (h : ∀ s ∈ ss.take j, rTakes r s.1 s.2.1 = 0) (hn : rTakes r x.1 x.2.1 ≠ 0) : iTakes r ss = rTakes r x.1 x.2.1 := by
  induction ss generalizing j with
  | nil => cases hx
  | cons a ss ih =>
    unfold iTakes at *
    rw [List.map_cons, List.find?_cons]
    cases j with
    | zero =>
      simp only [List.getElem?_cons_zero, Option.some.injEq] at hx
      subst hx
      rw [show (!decide (rTakes r a.1 a.2.1 = 0)) = true by simp [hn]]
      rfl
    | succ j =>
      have ha := h a (by rw [List.take_succ_cons]; exact List.mem_cons_self ..)
      rw [show (!decide (rTakes r a.1 a.2.1 = 0)) = false by simp [ha]]
      exact ih hx (fun s hs => h s (by rw [List.take_succ_cons]; exact List.mem_cons_of_mem _ hs))

theorem iCheck_none {r : RchL} {ss : List SamL} (h : ss.length = 0) : iCheck r ss = 1 := by unfold iCheck; rw [if_pos (List.length_eq_zero_iff.1 h)]
theorem iCheck_long {r : RchL} {ss : List SamL} (h : 8 < ss.length) : iCheck r ss = 2 := by
  unfold iCheck
  rw [if_neg (fun c => by rw [c] at h; simp at h), if_pos h]
theorem iCheck_takes {r : RchL} {ss : List SamL} (h : ss.length ≠ 0) (h8 : ¬ 8 < ss.length) : iCheck r ss = iTakes r ss := by
  unfold iCheck
  rw [if_neg (fun c => h (by rw [c]; rfl)), if_neg h8]

theorem ITs.cs {TS : TableSpec} {w : World} {p : Nat} {r : RchL} {T : List (List TRec)} {s f v : Value} {qs : List Nat} {Fs : List TFoot} (h : ITs TS w p r T s f v qs Fs) : Cs w [(⟨p, 0, none⟩, .int .i64 r.1), (⟨p, 1, none⟩, .string r.2.1.1), (⟨p, 2, none⟩, s), (⟨p, 3, none⟩, f)] := by
  obtain ⟨c0, c1, c2, c3, _⟩ := h.c
  exact .cons h.lt_p c0 (.cons h.lt_p c1 (.cons h.lt_p c2 (.cons h.lt_p c3 (.nil _))))

theorem Cs.grown {w w' : World} {o : Option Nat} {l : List (Addr × Value)} (h : Cs w l) (g : w.grownBy w' o) (hne : ∀ x ∈ l, some x.1.block ≠ o) : Cs w' l := fun x hx =>
  ⟨Nat.lt_of_lt_of_le (h x hx).1 g.size, (World.cell?_of_block (a := x.1) (g.block _ (h x hx).1 (hne x hx))).trans (h x hx).2⟩

/-- A sample in a variable. -/
theorem sam_cs (w : World) (n : ByteArray) (t x : Int) {l : List (Addr × Value)} (h : Cs w l) : Cs (w.alloc (.cells #[.string n, .int .i64 t, .int .i64 x] 159)) ((⟨w.heap.size, 0, none⟩, .string n) :: (⟨w.heap.size, 1, none⟩, .int .i64 t) :: (⟨w.heap.size, 2, none⟩, .int .i64 x) :: l) := by
  have hz := (MapKept.heap_alloc w (.cells #[.string n, .int .i64 t, .int .i64 x] 159 (0, 0))).1
  have hl : w.heap.size < (w.alloc (.cells #[.string n, .int .i64 t, .int .i64 x] 159)).heap.size := by simp
  exact .cons hl (by rw [cell_of_row _ _ _ _ _ _ hz]; rfl) (.cons hl (by rw [cell_of_row _ _ _ _ _ _ hz]; rfl) (.cons hl (by rw [cell_of_row _ _ _ _ _ _ hz]; rfl) (h.next ((Below.refl _ _).alloc (Nat.le_refl _) _))))

set_option maxRecDepth 20000 in
set_option maxHeartbeats 3200000 in
theorem iMayPut_any {TS : TableSpec} {w : World} {p : Nat} {r : RchL} {T : List (List TRec)} {s f v : Value} {qs : List Nat} {Fs : List TFoot} (h : ITs TS w p r T s f v qs Fs) (hT : 0 < T.length)
    (u : Value) (ss : List SamL) (hu : CellRow w u ss.length (flat aenc ss)) (hlen : ss.length ≤ 1000000) (hfit : ∀ x ∈ ss, SFit x) :
    Calls Tryz.prog 175 #[tptr p, u] w fun e w' => e = .returned (.int .i64 (iCheck r ss)) ∧ Below w.heap.size w w' := by
  have hno := iNone_any h hT
  have H := Hid.of h
  have HU := Hid.of hu
  have HF := Hid.of hfit
  obtain ⟨ua, uc, rfl, -⟩ := hu
  obtain ⟨N, hN⟩ : ∃ N, ss.length = N := ⟨_, rfl⟩
  have HN := Hid.of hN
  rw [hN] at HU hlen ⊢
  obtain ⟨ce, hce⟩ : ∃ ce, iCheck r ss = ce := ⟨_, rfl⟩
  have HC := Hid.of hce
  rw [hce]
  clear h hfit hN hce
  by_cases h0 : N = 0
  · have HZ : Hid (ce = 1) := Hid.of (by rw [← HC.out]; exact iCheck_none (by rw [HN.out]; exact h0))
    have k0 : ((N : Int) == 0) = true := by rw [h0]; rfl
    clear h0
    go_enter Tryz.func175, Tryz.ntmps175
    go_wp2_with fail
    refine hno.mono ?_
    rintro e w1 ⟨rfl, rfl⟩
    go_wp2
    go_ret
    rw [HZ.out]
    exact ⟨rfl, Below.refl _ _⟩
  have k0 : ((N : Int) == 0) = false := beq_eq_false_iff_ne.2 (by omega)
  by_cases h8 : 8 < N
  · have HZ : Hid (ce = 2) := Hid.of (by rw [← HC.out]; exact iCheck_long (by rw [HN.out]; exact h8))
    have k8 : (N : Int) > 8 := by omega
    clear h0 h8
    go_enter Tryz.func175, Tryz.ntmps175
    go_wp2_with fail
    refine hno.mono ?_
    rintro e w1 ⟨rfl, rfl⟩
    go_wp2
    go_ret
    rw [HZ.out]
    exact ⟨rfl, Below.refl _ _⟩
  have HE : Hid (iTakes r ss = ce) := Hid.of (by rw [← HC.out]; exact (iCheck_takes (by rw [HN.out]; exact h0) (by rw [HN.out]; exact h8)).symm)
  have k8 : ¬ (N : Int) > 8 := by omega
  clear h0 h8 HC
  go_enter Tryz.func175, Tryz.ntmps175
  go_wp2_with fail
  refine hno.mono ?_
  rintro e w1 ⟨rfl, rfl⟩
  go_wp2
  go_loopg [6, 7, 22] N (fun kx _ _ iv wr => ∃ j : Nat, iv = .int .i64 j ∧ j ≤ N ∧ N - j ≤ kx ∧ Hid (∀ s ∈ ss.take j, rTakes r s.1 s.2.1 = 0) ∧ Hid (Below w1.heap.size w1 wr))
  case atStart => exact ⟨0, rfl, Nat.zero_le _, Nat.le_refl _, Hid.of (fun _ hs => by rw [List.take_zero] at hs; cases hs), Hid.of (Below.refl _ _)⟩
  case round =>
    obtain ⟨j, rfl, hj, hk, HA, HB⟩ := hrel
    have j0 : (0 : Int) ≤ (j : Int) := Int.natCast_nonneg _
    by_cases hlt : (j : Int) < (N : Int)
    · obtain ⟨x, hx⟩ : ∃ x, ss[j]? = some x := ⟨_, List.getElem?_eq_getElem (by have := HN.out; omega)⟩
      obtain ⟨b1, o1, rfl, g1, d0, d1, d2⟩ := a_at (HU.out.kept HB.out) j x hx
      obtain ⟨n, t, z⟩ := x
      have XF := Hid.of (HF.out _ (List.mem_of_getElem? hx))
      have HX := Hid.of hx
      have HJ : Hid (j < N) := Hid.of (by omega)
      simp only at d0 d1 d2
      obtain ⟨y, hy⟩ : ∃ y, wr.heap.size = y := ⟨_, rfl⟩
      obtain ⟨w2, hw2⟩ : ∃ w2, wr.alloc (.cells #[.string n, .int .i64 t, .int .i64 z] 159) = w2 := ⟨_, rfl⟩
      have IT := H.out.below HB.out
      have CS2 : Hid (Cs w2 [(⟨y, 0, none⟩, .string n), (⟨y, 1, none⟩, .int .i64 t), (⟨y, 2, none⟩, .int .i64 z), (⟨p, 0, none⟩, .int .i64 r.1), (⟨p, 1, none⟩, .string r.2.1.1), (⟨p, 2, none⟩, s), (⟨p, 3, none⟩, f)]) := Hid.of (by rw [← hw2, ← hy]; exact sam_cs wr n t z IT.cs)
      have B2 : Hid (Below w1.heap.size w1 w2) := Hid.of (by rw [← hw2]; exact HB.out.alloc HB.out.size _)
      clear hx g1 IT
      go_upto_region 8 with fail
      clear hw2 hy d0 d1 d2
      have B2' := (Below.refl w2.heap.size w2).drew
      have B3 := Hid.of (B2.out.trans (B2'.mono B2.out.size))
      have RR : Hid (RchRow w2.drew (.agg #[.int .i64 r.1, .string r.2.1.1, s, f]) r) := Hid.of (H.out.below B3.out).reach
      have CS3 := Hid.of (CS2.out.next B2')
      clear B2'
      have d0 := (CS2.out).head
      have d1 := ((CS2.out).tail).head
      have d2 := (((CS2.out).tail).tail).head
      have d3 := ((((CS2.out).tail).tail).tail).head
      have d4 := (((((CS2.out).tail).tail).tail).tail).head
      have d5 := ((((((CS2.out).tail).tail).tail).tail).tail).head
      have d6 := (((((((CS2.out).tail).tail).tail).tail).tail).tail).head
      refine wp_region_noPanic ?_
      refine wp_region_held_drew (S := fun w' => w'.cell? ⟨y, 0, none⟩ = some (.string n) ∧ w'.cell? ⟨y, 1, none⟩ = some (.int .i64 t) ∧ w'.cell? ⟨y, 2, none⟩ = some (.int .i64 z) ∧ w'.cell? ⟨p, 0, none⟩ = some (.int .i64 r.1) ∧ w'.cell? ⟨p, 1, none⟩ = some (.string r.2.1.1) ∧ w'.cell? ⟨p, 2, none⟩ = some (s) ∧ w'.cell? ⟨p, 3, none⟩ = some (f)) (by kernel_rfl) ?_ (fun hHeld => ?_)
      · exact ⟨d0, d1, d2, d3, d4, d5, d6⟩
      refine takeOp 0 (o := ⟨_, _, _, _, _, _⟩) (v := ?_) rfl (by kernel_rfl) (by rfl) hHeld ?_ ?_; rotate_left; (next => intro w' hSw; (try dsimp only at hSw); go_simp; all_goals with_reducible rfl); simp only [Act.put, pA9, pB9, pC9]
      refine takeOp 1 (o := ⟨_, _, _, _, _, _⟩) (v := ?_) rfl (by kernel_rfl) (by rfl) hHeld ?_ ?_; rotate_left; (next => intro w' hSw; (try dsimp only at hSw); go_simp; all_goals with_reducible rfl); simp only [Act.put, pA9, pB9, pC9]
      refine takeOp 2 (o := ⟨_, _, _, _, _, _⟩) (v := ?_) rfl (by kernel_rfl) (by rfl) hHeld ?_ ?_; rotate_left; (next => intro w' hSw; (try dsimp only at hSw); go_simp; all_goals with_reducible rfl); simp only [Act.put, pA9, pB9, pC9]
      refine takeOp 3 (o := ⟨_, _, _, _, _, _⟩) (v := ?_) rfl (by kernel_rfl) (by rfl) hHeld ?_ ?_; rotate_left; (next => intro w' hSw; (try dsimp only at hSw); go_simp; all_goals with_reducible rfl); simp only [Act.put, pA9, pB9, pC9]
      refine takeOp 4 (o := ⟨_, _, _, _, _, _⟩) (v := ?_) rfl (by kernel_rfl) (by rfl) hHeld ?_ ?_; rotate_left; (next => intro w' hSw; (try dsimp only at hSw); go_simp; all_goals with_reducible rfl); simp only [Act.put, pA9, pB9, pC9]
      refine wpAnyH_ready (rs := [5]) (by kernel_rfl) (by simp) ?_
      refine AllReadyH.cons (o := ⟨_, _, _, _, _, _⟩) rfl (fun K hK => ?_) AllReadyH.nil
      go_simp
      refine (reaches.takes _ r n t z _ trivial H.out.fit XF.out.1 XF.out.2.1 RR.out).mono ?_
      rintro e w4 ⟨rfl, b4⟩
      have B4 := Hid.of (B3.out.trans (b4.mono B3.out.size))
      have CS4 := Hid.of (CS3.out.next b4)
      clear b4 CS3 RR B3 B2 CS2
      clear hHeld d0 d1 d2 d3 d4 d5 d6
      have d0 := (CS4.out).head
      have d1 := ((CS4.out).tail).head
      have d2 := (((CS4.out).tail).tail).head
      have d3 := ((((CS4.out).tail).tail).tail).head
      have d4 := (((((CS4.out).tail).tail).tail).tail).head
      have d5 := ((((((CS4.out).tail).tail).tail).tail).tail).head
      have d6 := (((((((CS4.out).tail).tail).tail).tail).tail).tail).head
      refine hK.out _ _ ⟨d0, d1, d2, d3, d4, d5, d6⟩ (fun hHeld => ?_)
      clear hK K
      try simp only [Act.put, pA9, pB9, pC9]
      refine takeOp 6 (o := ⟨_, _, _, _, _, _⟩) (v := ?_) rfl (by kernel_rfl) (by rfl) hHeld ?_ ?_; rotate_left; (next => intro w' hSw; (try dsimp only at hSw); go_simp; all_goals with_reducible rfl); simp only [Act.put, pA9, pB9, pC9]
      refine wpAnyH_done (by kernel_rfl) ?_ _
      refine NoPanic.normal ?_
      clear hHeld
      obtain ⟨te, hte⟩ : ∃ te, rTakes r n t = te := ⟨_, rfl⟩
      rw [hte]
      by_cases ht0 : te = 0
      · have HA2 : Hid (∀ s ∈ ss.take (j + 1), rTakes r s.1 s.2.1 = 0) := Hid.of (fun y hy => by
          rw [List.take_succ_eq_append_getElem (by have := HN.out; have := HJ.out; omega), (List.getElem?_eq_some_iff.1 HX.out).2, List.mem_append, List.mem_singleton] at hy
          rcases hy with hy | rfl
          · exact HA.out y hy
          · show rTakes r n t = 0
            rw [hte, ht0])
        subst ht0
        clear hte
        go_wp2
        go_roundg (N - (j + 1))
        case measure => have := HJ.out; omega
        case rel => exact ⟨j + 1, by go_num, HJ.out, Nat.le_refl _, HA2, B4⟩
      · have HZ : Hid (te = ce) := Hid.of (by rw [← HE.out, iTakes_at HX.out HA.out (by show rTakes r n t ≠ 0; rw [hte]; exact ht0)]; exact hte.symm)
        have ht1 : (te != 0) = true := by simp [ht0]
        clear hte ht0
        go_wp2
        go_ret
        rw [HZ.out]
        exact ⟨rfl, B4.out⟩
    · obtain rfl : j = N := by omega
      have HZ : Hid (0 = ce) := Hid.of (by
        rw [← HE.out]
        refine (iTakes_zero.2 (fun s hs => HA.out s ?_)).symm
        rw [← HN.out, List.take_length]
        exact hs)
      go_wp2
      go_ret
      rw [← HZ.out]
      exact ⟨rfl, HB.out⟩

theorem iRecs_snoc {r : RchL} {i : Nat} {ss : List SamL} {j : Nat} {n : ByteArray} {t x a : Int} {b : Bool} (hx : ss[j]? = some (n, t, x)) (h : rStart r (i : Int) t = (a, b)) : iRecs r i (ss.take (j + 1)) = if b then iRecs r i (ss.take j) ++ [⟨n, a, agOf [x]⟩] else iRecs r i (ss.take j) := by
  have hj := (List.getElem?_eq_some_iff.1 hx).1
  unfold iRecs
  rw [List.take_succ_eq_append_getElem hj, (List.getElem?_eq_some_iff.1 hx).2, List.filter_append, List.map_append]
  have e : iHas r i (n, t, x) = b := by unfold iHas; show (rStart r (i : Int) t).2 = b; rw [h]
  cases b
  · rw [List.filter_cons_of_neg (by rw [e]; simp), List.filter_nil, List.map_nil, List.append_nil]
    rfl
  · rw [List.filter_cons_of_pos e, List.filter_nil, List.map_cons, List.map_nil]
    simp only [if_true]
    unfold iRec
    simp only
    rw [h]

theorem iRecs_len (r : RchL) (i : Nat) (ss : List SamL) : (iRecs r i ss).length ≤ ss.length := by unfold iRecs; rw [List.length_map]; exact List.length_filter_le ..

theorem new_trec (w : World) (x : TRec) (t : TypeId) : Cells (w.alloc (.cells #[.string x.n, .int .i64 x.s, .int .i64 x.a.c, .int .i64 x.a.hi, .int .u64 x.a.lo, .int .i64 x.a.mn, .int .i64 x.a.mx] t)) w.heap.size 0 (flat renc ([x].map rl)) := by
  show Cells _ _ _ (flat renc [_])
  rw [flat_one]
  exact new_cells w _ t

set_option maxRecDepth 20000 in
set_option maxHeartbeats 6400000 in
theorem iBuckets_any {TS : TableSpec} {w : World} {p : Nat} {r : RchL} {T : List (List TRec)} {s f v : Value} {qs : List Nat} {Fs : List TFoot} (h : ITs TS w p r T s f v qs Fs) (i : Nat) (hi : i ≤ 1000)
    (u : Value) (ss : List SamL) (hu : CellRow w u ss.length (flat aenc ss)) (hlen : ss.length ≤ 1000) (hfit : ∀ x ∈ ss, SFit x) :
    Calls Tryz.prog 177 #[tptr p, .int .i64 i, u] w fun e w' => ∃ y, e = .returned y ∧ w'.ownsRow w.heap.size 102 7 y (iRecs r i ss).length (flat renc ((iRecs r i ss).map rl)) ∧ Below w.heap.size w w' := by
  obtain ⟨i0, hi0, hz0, hz1, hz2⟩ := info_parts rec_info'
  have HI := Hid.of hi0
  have HZ0 := Hid.of hz0
  have HZ1 := Hid.of hz1
  have HZ2 := Hid.of hz2
  have H := Hid.of h
  have HU := Hid.of hu
  have HF := Hid.of hfit
  have HII : Hid (In64 (i : Int)) := Hid.of (by unfold In64; omega)
  obtain ⟨ua, uc, rfl, -⟩ := hu
  obtain ⟨N, hN⟩ : ∃ N, ss.length = N := ⟨_, rfl⟩
  have HN := Hid.of hN
  rw [hN] at HU hlen ⊢
  clear h hfit hN hi0 hz0 hz1 hz2 hi
  go_enter Tryz.func177, Tryz.ntmps177
  go_wp2
  go_loopg [7, 9, 10, 11, 14] N (fun kx av _ _ _ iv wr => ∃ (j m : Nat) (lv : Value), lv = av ∧ iv = .int .i64 j ∧ j ≤ N ∧ m ≤ j ∧ N - j ≤ kx ∧ Hid ((iRecs r i (ss.take j)).length = m) ∧ Hid (wr.ownsRow w.heap.size 102 7 lv m (flat renc ((iRecs r i (ss.take j)).map rl))) ∧ Hid (Below w.heap.size w wr))
  case atStart => exact ⟨0, 0, _, rfl, rfl, Nat.zero_le _, Nat.le_refl _, Nat.le_refl _, Hid.of rfl, Hid.of (World.ownsRow_nil _ _ _ _), Hid.of (Below.refl _ _)⟩
  case round =>
    obtain ⟨j, m, lv, rfl, rfl, hj, hm, hk, HM, HO, HB⟩ := hrel
    have j0 : (0 : Int) ≤ (j : Int) := Int.natCast_nonneg _
    by_cases hlt : (j : Int) < (N : Int)
    · obtain ⟨x, hx⟩ : ∃ x, ss[j]? = some x := ⟨_, List.getElem?_eq_getElem (by have := HN.out; omega)⟩
      obtain ⟨b1, o1, rfl, g1, d0, d1, d2⟩ := a_at (HU.out.kept HB.out) j x hx
      obtain ⟨n, t, z⟩ := x
      have XF := Hid.of (HF.out _ (List.mem_of_getElem? hx))
      have HX := Hid.of hx
      have HJ : Hid (j < N) := Hid.of (by omega)
      have hmN : m ≤ 1000 := by omega
      simp only at d0 d1 d2
      obtain ⟨y, hy⟩ : ∃ y, wr.heap.size = y := ⟨_, rfl⟩
      obtain ⟨w2, hw2⟩ : ∃ w2, wr.alloc (.cells #[.string n, .int .i64 t, .int .i64 z] 159) = w2 := ⟨_, rfl⟩
      have IT := H.out.below HB.out
      have CS2 : Hid (Cs w2 [(⟨y, 0, none⟩, .string n), (⟨y, 1, none⟩, .int .i64 t), (⟨y, 2, none⟩, .int .i64 z), (⟨p, 0, none⟩, .int .i64 r.1), (⟨p, 1, none⟩, .string r.2.1.1), (⟨p, 2, none⟩, s), (⟨p, 3, none⟩, f)]) := Hid.of (by rw [← hw2, ← hy]; exact sam_cs wr n t z IT.cs)
      have b2 : Below wr.heap.size wr w2 := by rw [← hw2]; exact (Below.refl _ _).alloc (Nat.le_refl _) _
      have B2 : Hid (Below w.heap.size w w2) := Hid.of (HB.out.trans (b2.mono HB.out.size))
      have O2 := Hid.of (iown_kept HO.out b2)
      have HLY : Hid (∀ g, lv.ownBlock = some g → g < y) := Hid.of (fun g hg => by rw [← hy]; exact iown_lt HO.out hg)
      obtain ⟨st, hst⟩ : ∃ st, rStart r (i : Int) t = st := ⟨_, rfl⟩
      obtain ⟨a, b⟩ := st
      have HSN := Hid.of (iRecs_snoc (i := i) hx hst)
      have HST := Hid.of hst
      have HMJ := Hid.of hm
      clear hx g1 IT b2 HB HO hst hm
      go_upto_region 5 with fail
      clear hw2 hy d0 d1 d2
      have B2' := (Below.refl w2.heap.size w2).drew
      have B3 := Hid.of (B2.out.trans (B2'.mono B2.out.size))
      have O3 := Hid.of (iown_kept O2.out B2')
      have RR : Hid (RchRow w2.drew (.agg #[.int .i64 r.1, .string r.2.1.1, s, f]) r) := Hid.of (H.out.below B3.out).reach
      have CS3 := Hid.of (CS2.out.next B2')
      clear B2' B2 O2 CS2
      have CSX : Hid (Cs w2 [(⟨y, 0, none⟩, .string n), (⟨y, 1, none⟩, .int .i64 t), (⟨y, 2, none⟩, .int .i64 z), (⟨p, 0, none⟩, .int .i64 r.1), (⟨p, 1, none⟩, .string r.2.1.1), (⟨p, 2, none⟩, s), (⟨p, 3, none⟩, f)]) := Hid.of (fun x hx => CS3.out x hx)
      have d0 := (CSX.out).head
      have d1 := ((CSX.out).tail).head
      have d2 := (((CSX.out).tail).tail).head
      have d3 := ((((CSX.out).tail).tail).tail).head
      have d4 := (((((CSX.out).tail).tail).tail).tail).head
      have d5 := ((((((CSX.out).tail).tail).tail).tail).tail).head
      have d6 := (((((((CSX.out).tail).tail).tail).tail).tail).tail).head
      refine wp_region_noPanic ?_
      refine wp_region_held_drew (S := fun w' => w'.cell? ⟨y, 0, none⟩ = some (.string n) ∧ w'.cell? ⟨y, 1, none⟩ = some (.int .i64 t) ∧ w'.cell? ⟨y, 2, none⟩ = some (.int .i64 z) ∧ w'.cell? ⟨p, 0, none⟩ = some (.int .i64 r.1) ∧ w'.cell? ⟨p, 1, none⟩ = some (.string r.2.1.1) ∧ w'.cell? ⟨p, 2, none⟩ = some (s) ∧ w'.cell? ⟨p, 3, none⟩ = some (f)) (by kernel_rfl) ?_ (fun hHeld => ?_)
      · exact ⟨d0, d1, d2, d3, d4, d5, d6⟩
      refine takeOp 0 (o := ⟨_, _, _, _, _, _⟩) (v := ?_) rfl (by kernel_rfl) (by rfl) hHeld ?_ ?_; rotate_left; (next => intro w' hSw; (try dsimp only at hSw); go_simp; all_goals with_reducible rfl); simp only [Act.put, pA9, pB9, pC9]
      refine takeOp 1 (o := ⟨_, _, _, _, _, _⟩) (v := ?_) rfl (by kernel_rfl) (by rfl) hHeld ?_ ?_; rotate_left; (next => intro w' hSw; (try dsimp only at hSw); go_simp; all_goals with_reducible rfl); simp only [Act.put, pA9, pB9, pC9]
      refine takeOp 2 (o := ⟨_, _, _, _, _, _⟩) (v := ?_) rfl (by kernel_rfl) (by rfl) hHeld ?_ ?_; rotate_left; (next => intro w' hSw; (try dsimp only at hSw); go_simp; all_goals with_reducible rfl); simp only [Act.put, pA9, pB9, pC9]
      refine takeOp 3 (o := ⟨_, _, _, _, _, _⟩) (v := ?_) rfl (by kernel_rfl) (by rfl) hHeld ?_ ?_; rotate_left; (next => intro w' hSw; (try dsimp only at hSw); go_simp; all_goals with_reducible rfl); simp only [Act.put, pA9, pB9, pC9]
      refine takeOp 4 (o := ⟨_, _, _, _, _, _⟩) (v := ?_) rfl (by kernel_rfl) (by rfl) hHeld ?_ ?_; rotate_left; (next => intro w' hSw; (try dsimp only at hSw); go_simp; all_goals with_reducible rfl); simp only [Act.put, pA9, pB9, pC9]
      refine takeOp 5 (o := ⟨_, _, _, _, _, _⟩) (v := ?_) rfl (by kernel_rfl) (by rfl) hHeld ?_ ?_; rotate_left; (next => intro w' hSw; (try dsimp only at hSw); go_simp; all_goals with_reducible rfl); simp only [Act.put, pA9, pB9, pC9]
      refine takeOp 6 (o := ⟨_, _, _, _, _, _⟩) (v := ?_) rfl (by kernel_rfl) (by rfl) hHeld ?_ ?_; rotate_left; (next => intro w' hSw; (try dsimp only at hSw); go_simp; all_goals with_reducible rfl); simp only [Act.put, pA9, pB9, pC9]
      refine wpAnyH_ready (rs := [7]) (by kernel_rfl) (by simp) ?_
      refine AllReadyH.cons (o := ⟨_, _, _, _, _, _⟩) rfl (fun K hK => ?_) AllReadyH.nil
      go_simp
      refine (reaches.start _ r (i : Int) t _ trivial H.out.fit HII.out XF.out.2.1 RR.out).mono ?_
      rintro e w4 ⟨rfl, b4⟩
      rw [HST.out]
      have B4 := Hid.of (B3.out.trans (b4.mono B3.out.size))
      have CS4 := Hid.of (CS3.out.next b4)
      have O4 := Hid.of (iown_kept O3.out b4)
      clear b4 CS3 RR B3 O3 CSX HST
      clear hHeld d0 d1 d2 d3 d4 d5 d6
      have d0 := (CS4.out).head
      have d1 := ((CS4.out).tail).head
      have d2 := (((CS4.out).tail).tail).head
      have d3 := ((((CS4.out).tail).tail).tail).head
      have d4 := (((((CS4.out).tail).tail).tail).tail).head
      have d5 := ((((((CS4.out).tail).tail).tail).tail).tail).head
      have d6 := (((((((CS4.out).tail).tail).tail).tail).tail).tail).head
      refine hK.out _ _ ⟨d0, d1, d2, d3, d4, d5, d6⟩ (fun hHeld => ?_)
      clear hK K
      refine takeOp 8 (o := ⟨_, _, _, _, _, _⟩) (v := ?_) rfl (by kernel_rfl) (by rfl) hHeld ?_ ?_; rotate_left; (next => intro w' hSw; (try dsimp only at hSw); go_simp; all_goals with_reducible rfl); simp only [Act.put, pA9, pB9, pC9]
      refine takeOp 9 (o := ⟨_, _, _, _, _, _⟩) (v := ?_) rfl (by kernel_rfl) (by rfl) hHeld ?_ ?_; rotate_left; (next => intro w' hSw; (try dsimp only at hSw); go_simp; all_goals with_reducible rfl); simp only [Act.put, pA9, pB9, pC9]
      refine takeOp 10 (o := ⟨_, _, _, _, _, _⟩) (v := ?_) rfl (by kernel_rfl) (by rfl) hHeld ?_ ?_; rotate_left; (next => intro w' hSw; (try dsimp only at hSw); go_simp; all_goals with_reducible rfl); simp only [Act.put, pA9, pB9, pC9]
      refine takeOp 11 (o := ⟨_, _, _, _, _, _⟩) (v := ?_) rfl (by kernel_rfl) (by rfl) hHeld ?_ ?_; rotate_left; (next => intro w' hSw; (try dsimp only at hSw); go_simp; all_goals with_reducible rfl); simp only [Act.put, pA9, pB9, pC9]
      refine takeOp 12 (o := ⟨_, _, _, _, _, _⟩) (v := ?_) rfl (by kernel_rfl) (by rfl) hHeld ?_ ?_; rotate_left; (next => intro w' hSw; (try dsimp only at hSw); go_simp; all_goals with_reducible rfl); simp only [Act.put, pA9, pB9, pC9]
      refine wpAnyH_done (by kernel_rfl) ?_ _
      refine NoPanic.normal ?_
      clear hHeld d0 d1 d2 d3 d4 d5 d6
      cases b
      · go_wp2
        go_roundg (N - (j + 1))
        case measure => have := HJ.out; omega
        case rel =>
          have e := HSN.out
          simp only [Bool.false_eq_true, if_false] at e
          exact ⟨j + 1, m, _, rfl, by go_num, HJ.out, Nat.le_succ_of_le HMJ.out, Nat.le_refl _, Hid.of (by rw [e]; exact HM.out), Hid.of (by rw [e]; exact O4.out), B4⟩
      · have k1 := CS4.out.head
        have k2 := CS4.out.tail.tail.head
        have k3 : In64 z := XF.out.2.2
        have K3 := Hid.of k3
        go_upto_region 7 with fail
        have B4' := (Below.refl w4.heap.size w4).drew
        have B5 := Hid.of (B4.out.trans (B4'.mono B4.out.size))
        have O5 := Hid.of (iown_kept O4.out B4')
        clear k1 k2 k3 B4'
        have CS5 : Hid (Cs w4 [(⟨y, 0, none⟩, .string n), (⟨y, 2, none⟩, .int .i64 z)]) := Hid.of (.cons (CS4.out _ (List.mem_cons_self ..)).1 CS4.out.head (.cons (CS4.out _ (List.mem_cons_self ..)).1 CS4.out.tail.tail.head (.nil _)))
        have d0 := (CS5.out).head
        have d1 := ((CS5.out).tail).head
        refine wp_region_noPanic ?_
        refine wp_region_held_drew (S := fun w' => w'.cell? ⟨y, 0, none⟩ = some (.string n) ∧ w'.cell? ⟨y, 2, none⟩ = some (.int .i64 z)) (by kernel_rfl) ?_ (fun hHeld => ?_)
        · exact ⟨d0, d1⟩
        refine takeOp 0 (o := ⟨_, _, _, _, _, _⟩) (v := ?_) rfl (by kernel_rfl) (by rfl) hHeld ?_ ?_; rotate_left; (next => intro w' hSw; (try dsimp only at hSw); go_simp; all_goals with_reducible rfl); simp only [Act.put, pA9, pB9, pC9]
        refine takeOp 1 (o := ⟨_, _, _, _, _, _⟩) (v := ?_) rfl (by kernel_rfl) (by rfl) hHeld ?_ ?_; rotate_left; (next => intro w' hSw; (try dsimp only at hSw); go_simp; all_goals with_reducible rfl); simp only [Act.put, pA9, pB9, pC9]
        refine takeOp 2 (o := ⟨_, _, _, _, _, _⟩) (v := ?_) rfl (by kernel_rfl) (by rfl) hHeld ?_ ?_; rotate_left; (next => intro w' hSw; (try dsimp only at hSw); go_simp; all_goals with_reducible rfl); simp only [Act.put, pA9, pB9, pC9]
        refine takeOp 3 (o := ⟨_, _, _, _, _, _⟩) (v := ?_) rfl (by kernel_rfl) (by rfl) hHeld ?_ ?_; rotate_left; (next => intro w' hSw; (try dsimp only at hSw); go_simp; all_goals with_reducible rfl); simp only [Act.put, pA9, pB9, pC9]
        refine takeOp 4 (o := ⟨_, _, _, _, _, _⟩) (v := ?_) rfl (by kernel_rfl) (by rfl) hHeld ?_ ?_; rotate_left; (next => intro w' hSw; (try dsimp only at hSw); go_simp; all_goals with_reducible rfl); simp only [Act.put, pA9, pB9, pC9]
        refine takeOp 5 (o := ⟨_, _, _, _, _, _⟩) (v := ?_) rfl (by kernel_rfl) (by rfl) hHeld ?_ ?_; rotate_left; (next => intro w' hSw; (try dsimp only at hSw); go_simp; all_goals with_reducible rfl); simp only [Act.put, pA9, pB9, pC9]
        refine wpAnyH_ready (rs := [6]) (by kernel_rfl) (by simp) ?_
        refine AllReadyH.cons (o := ⟨_, _, _, _, _, _⟩) rfl (fun K hK => ?_) AllReadyH.nil
        go_simp
        obtain ⟨w6, hw6⟩ : ∃ w6, (w4.alloc (.cells #[.int .i64 z] 3)).drew = w6 := ⟨_, rfl⟩
        have b6 : Below w4.heap.size w4 w6 := by rw [← hw6]; exact ((Below.refl _ _).alloc (Nat.le_refl _) _).drew
        have N6 : Hid (NumRow .i64 w6 (.slice (some ⟨w4.heap.size, 0, none⟩) 1 1) [z]) := Hid.of (by rw [← hw6]; exact num_1 w4 z _)
        have B6 := Hid.of (B4.out.trans (b6.mono B4.out.size))
        have O6 := Hid.of (iown_kept O4.out b6)
        have CS6 := Hid.of (CS5.out.next b6)
        rw [hw6]
        clear hw6 b6
        clear hHeld d0 d1
        have d0 := (CS6.out).head
        have d1 := ((CS6.out).tail).head
        refine hK.out _ _ ⟨d0, d1⟩ (fun hHeld => ?_)
        clear hK K
        try simp only [Act.put, pA9, pB9, pC9]
        refine wpAnyH_ready (rs := [7]) (by kernel_rfl) (by simp) ?_
        refine AllReadyH.cons (o := ⟨_, _, _, _, _, _⟩) rfl (fun K hK => ?_) AllReadyH.nil
        go_simp
        refine (aggOf_any _ [z] _ N6.out (ints_1 z K3.out) (by simp)).mono ?_
        rintro e w7 ⟨rfl, b7⟩
        have B7 := Hid.of (B6.out.trans (b7.mono B6.out.size))
        have O7 := Hid.of (iown_kept O6.out b7)
        have CS7 := Hid.of (CS6.out.next b7)
        obtain ⟨ag, hag⟩ : ∃ ag, agOf [z] = ag := ⟨_, rfl⟩
        rw [hag] at HSN ⊢
        clear b7 hag N6 B6 O6 CS6 B5 O5 CS5
        unfold agv
        clear hHeld d0 d1
        have d0 := (CS7.out).head
        have d1 := ((CS7.out).tail).head
        refine hK.out _ _ ⟨d0, d1⟩ (fun hHeld => ?_)
        clear hK K
        try simp only [Act.put, pA9, pB9, pC9]
        refine takeOp 8 (o := ⟨_, _, _, _, _, _⟩) (v := ?_) rfl (by kernel_rfl) (by rfl) hHeld ?_ ?_; rotate_left; (next => intro w' hSw; (try dsimp only at hSw); go_simp; all_goals with_reducible rfl); simp only [Act.put, pA9, pB9, pC9]
        refine wpAnyH_ready (rs := [9]) (by kernel_rfl) (by simp) ?_
        refine AllReadyH.cons (o := ⟨_, _, _, _, _, _⟩) rfl (fun K hK => ?_) AllReadyH.nil
        go_simp
        obtain ⟨w8, hw8⟩ : ∃ w8, w7.alloc (.cells #[.string n, .int .i64 a, .int .i64 ag.c, .int .i64 ag.hi, .int .u64 ag.lo, .int .i64 ag.mn, .int .i64 ag.mx] 102) = w8 := ⟨_, rfl⟩
        have b8 : Below w7.heap.size w7 w8 := by rw [← hw8]; exact (Below.refl _ _).alloc (Nat.le_refl _) _
        have K8 : Hid (Cells w8 w7.heap.size 0 (flat renc ([(⟨n, a, ag⟩ : TRec)].map rl))) := Hid.of (by rw [← hw8]; exact new_trec w7 ⟨n, a, ag⟩ _)
        have B8 := Hid.of (B7.out.trans (b8.mono B7.out.size))
        have O8 := Hid.of (iown_kept O7.out b8)
        have CS8 := Hid.of (CS7.out.next b8)
        rw [hw8]
        clear hw8 b8
        clear hHeld d0 d1
        have d0 := (CS8.out).head
        have d1 := ((CS8.out).tail).head
        refine hK.out _ _ ⟨d0, d1⟩ (fun hHeld => ?_)
        clear hK K
        try simp only [Act.put, pA9, pB9, pC9]
        refine wpAnyH_ready (rs := [10]) (by kernel_rfl) (by simp) ?_
        refine AllReadyH.cons (o := ⟨_, _, _, _, _, _⟩) rfl (fun K hK => ?_) AllReadyH.nil
        refine step_append_keep rfl (.tmp 30) (.tmp 39) 91 rfl w.heap.size 102 i0 _ 7 64 Tryz.underlying91 HI.out HZ0.out HZ1.out HZ2.out rfl (by decide) lv m _ (by simp [Act.eval]) O8.out w7.heap.size 0 1 1 (flat renc ([(⟨n, a, ag⟩ : TRec)].map rl)) (by simp [Act.eval]) K8.out rfl (flat_ones renc_one _) (by unfold maxLen; omega) (by omega) B8.out.size ?_
        intro x9 w9 o9 g9 _ _
        have O9 := Hid.of o9
        have B9 : Hid (Below w.heap.size w w9) := Hid.of (B8.out.grown g9 B8.out.size (fun k hk => own_ge O8.out hk))
        have CS9 := Hid.of (CS8.out.grown g9 (fun q hq c => by have e : q.1.block = y := (by simp only [List.mem_cons, List.not_mem_nil, or_false] at hq; rcases hq with rfl | rfl <;> rfl); rw [e] at c; have := HLY.out _ c.symm; omega))
        clear o9 g9
        clear hHeld d0 d1
        have d0 := (CS9.out).head
        have d1 := ((CS9.out).tail).head
        refine hK.out _ _ ⟨d0, d1⟩ (fun hHeld => ?_)
        clear hK K
        try simp only [Act.put, pA9, pB9, pC9]
        refine takeOp 11 (o := ⟨_, _, _, _, _, _⟩) (v := ?_) rfl (by kernel_rfl) (by rfl) hHeld ?_ ?_; rotate_left; (next => intro w' hSw; (try dsimp only at hSw); go_simp; all_goals with_reducible rfl); simp only [Act.put, pA9, pB9, pC9]
        refine wpAnyH_done (by kernel_rfl) ?_ _
        refine NoPanic.normal ?_
        go_wp2
        go_roundg (N - (j + 1))
        case measure => have := HJ.out; omega
        case rel =>
          have e := HSN.out
          simp only [if_true] at e
          refine ⟨j + 1, m + 1, _, rfl, by go_num, HJ.out, Nat.succ_le_succ HMJ.out, Nat.le_refl _, Hid.of (by rw [e, List.length_append, HM.out]; rfl), Hid.of ?_, B9⟩
          rw [e, List.map_append, flat_append]
          exact O9.out
    · obtain rfl : j = N := by omega
      have e : ss.take j = ss := by rw [← HN.out, List.take_length]
      have HM2 := HM.out
      have HO2 := HO.out
      rw [e] at HM2 HO2
      rw [← HM2] at HO2
      have HO3 := Hid.of HO2
      clear HM2 HO2 e
      go_wp2
      go_ret
      exact ⟨_, rfl, HO3.out, HB.out⟩

end Go.Proofs.YtbhcafginmkaaaaGreat

namespace Go.Proofs.YtbhcafginmkaaaaGreat
open Go.RowKit Go.Lib

theorem iRecs_fit {r : RchL} {T : List (List TRec)} (h : IGood r T) {i : Nat} (hi : i < T.length) {ss : List SamL} (hs : ∀ s ∈ ss, SFit s) (ht : ∀ s ∈ ss, rTakes r s.1 s.2.1 = 0) : ∀ x ∈ iRecs r i ss, TFit x := by
  intro x hx
  obtain ⟨s, hs', rfl⟩ := List.mem_map.1 hx
  obtain ⟨h1, _⟩ := List.mem_filter.1 hs'
  exact iRec_fit h hi (hs s h1) (rTakes_ok (ht s h1)).2.1

theorem iCheck_zero {r : RchL} {ss : List SamL} (h : iCheck r ss = 0) : ss ≠ [] ∧ ss.length ≤ 8 ∧ ∀ s ∈ ss, rTakes r s.1 s.2.1 = 0 := by
  unfold iCheck at h
  split at h
  · cases h
  · split at h
    · cases h
    · exact ⟨‹_›, by omega, iTakes_zero.1 h⟩

set_option maxRecDepth 20000 in
set_option maxHeartbeats 3200000 in
theorem iput_any {TS : TableSpec} {w : World} {p : Nat} {r : RchL} {T : List (List TRec)} {F : TFoot} (u : Value) (ss : List SamL) (h : IRep TS w p r T F) (hl : ∀ l ∈ T, l.length + 8 ≤ 1000) (hu : CellRow w u ss.length (flat aenc ss)) (hlen : ss.length ≤ 1000) (hoff : ss ≠ [] → Off F.own u) (hfit : ∀ s ∈ ss, SFit s) :
    Calls Tryz.prog 60 #[tptr p, u] w fun x w' => x = .returned (.int .i64 (iCheck r ss)) ∧ ∃ F', IRep TS w' p r (if iCheck r ss = 0 then iPut r T ss else T) F' ∧ TStep F F' w w' := by
  obtain ⟨s, f, v, qs, Fs, h, hg, rfl⟩ := h
  obtain ⟨va, vc, rfl, -⟩ := h.tabs
  obtain ⟨N, hN⟩ : ∃ N, T.length = N := ⟨_, rfl⟩
  rw [hN] at h hoff ⊢
  have hmp := iMayPut_any h hg.pos.1 u ss hu (by omega) hfit
  have H := Hid.of h
  have HG := Hid.of hg
  have HU := Hid.of hu
  have HF := Hid.of hfit
  have HL := Hid.of hl
  have HO := Hid.of hoff
  obtain ⟨ua, uc, rfl, -⟩ := hu
  obtain ⟨M, hM⟩ : ∃ M, ss.length = M := ⟨_, rfl⟩
  have HM := Hid.of hM
  rw [hM] at HU HO hmp hlen ⊢
  have HN := Hid.of hN
  have hN5 : N ≤ 5 := by rw [← hN]; exact hg.pos.2
  obtain ⟨ce, hce⟩ : ∃ ce, iCheck r ss = ce := ⟨_, rfl⟩
  have HC := Hid.of hce
  rw [hce] at hmp ⊢
  clear h hg hfit hl hoff hM hN hce
  by_cases h0 : ce = 0
  · have HC0 := Hid.of (iCheck_zero (HC.out.trans h0))
    have HOF : Hid (Off (iFoot p s f (.slice va N vc) Fs).own (.slice ua M uc)) := Hid.of (HO.out HC0.out.1)
    have HLEN : Hid (M ≤ 8) := Hid.of (by rw [← HM.out]; exact HC0.out.2.1)
    rw [if_pos h0]
    subst h0
    clear HO
    go_enter Tryz.func60, Tryz.ntmps60
    go_wp2_with fail
    refine hmp.mono ?_
    rintro e w1 ⟨rfl, b1⟩
    have IT1 := H.out.below b1
    obtain ⟨-, -, -, -, c4⟩ := IT1.c
    have ST1 : Hid (TStep (iFoot p s f (.slice va N vc) Fs) (iFoot p s f (.slice va N vc) Fs) w w1) := Hid.of (TStep.of_below b1)
    have H1 := Hid.of IT1
    clear b1 IT1 hmp H
    go_wp2
    go_loopg [6, 7, 19] N (fun kx _ _ iv wr => ∃ (j : Nat) (Gs : List TFoot), iv = .int .i64 j ∧ j ≤ N ∧ N - j ≤ kx ∧ Hid (ITs TS wr p r (doneTo (fun i l => tAdds (tEv r i) l (iRecs r i ss)) T j) s f (.slice va N vc) qs Gs) ∧ Hid (TStep (iFoot p s f (.slice va N vc) Fs) (iFoot p s f (.slice va N vc) Gs) w wr))
    case atStart => exact ⟨0, Fs, rfl, Nat.zero_le _, Nat.le_refl _, Hid.of (by rw [doneTo_zero]; exact H1.out), ST1⟩
    case round =>
      clear H1 ST1 c4
      obtain ⟨j, Gs, rfl, hj, hk, IT, ST⟩ := hrel
      have j0 : (0 : Int) ≤ (j : Int) := Int.natCast_nonneg _
      by_cases hlt : (j : Int) < (N : Int)
      · obtain ⟨l, hT⟩ : ∃ l, T[j]? = some l := ⟨_, List.getElem?_eq_getElem (by have := HN.out; omega)⟩
        have hTj : j < T.length := by have := HN.out; omega
        have hdl := doneTo_at (fun i l => tAdds (tEv r i) l (iRecs r i ss)) hT
        have hds := doneTo_succ (fun i l => tAdds (tEv r i) l (iRecs r i ss)) hT
        obtain ⟨q, G, hq, hG, hrep⟩ := IT.out.at_i hdl
        have hcr := IT.out.tabs
        rw [doneTo_len, HN.out] at hcr
        obtain ⟨b1, o1, rfl, g1, d0⟩ := hcr.at j (tptr q) (by rw [List.getElem?_map, hq]; rfl)
        have hbk := iBuckets_any IT.out j (by omega) _ ss (by rw [HM.out]; exact ST.out.own.row HU.out HOF.out) (by rw [HM.out]; exact hlen) HF.out
        have HJ : Hid (j < N) := Hid.of (by omega)
        have HQ := Hid.of hq
        have HGG := Hid.of hG
        have HD := Hid.of hdl
        have HDS := Hid.of hds
        have HT := Hid.of hT
        have HTJ := Hid.of hTj
        clear hq hG hrep hcr g1 hdl hds hT hTj
        go_wp2_with fail
        refine hbk.mono ?_
        rintro e w2 ⟨y, rfl, o2, b2⟩
        have IT2 := Hid.of (IT.out.below b2)
        have ST2 := Hid.of (ST.out.trans (TStep.of_below b2))
        have hrep2 := IT2.out.rep j q l G HQ.out HD.out HGG.out
        have hadd := TS.add y (iRecs r j ss) hrep2 (by have := iRecs_len r j ss; have := HL.out l (List.mem_of_getElem? HT.out); have := HM.out; have := HLEN.out; omega) (own_row o2) (fun _ g hg c => by
          have h1 := own_ge o2 hg
          obtain ⟨q', G', hq', hG', hr'⟩ := IT.out.at_i HD.out
          rw [HGG.out] at hG'
          cases hG'
          have := TS.lt hr' g (TS.sub hr' g c)
          omega) (iRecs_fit HG.out HTJ.out HF.out HC0.out.2.2)
        clear o2 b2 hbk hrep2 d0 IT ST
        go_wp2_with fail
        refine hadd.mono ?_
        rintro e w3 ⟨rfl, G3, rep3, st3⟩
        obtain ⟨x1, x2⟩ := IT2.out.step HQ.out HD.out HGG.out rep3 st3
        rw [← HDS.out] at x1
        have IT3 := Hid.of x1
        have ST3 := Hid.of (ST2.out.trans x2)
        clear x1 x2 rep3 st3 hadd IT2 ST2
        go_wp2
        go_roundg (N - (j + 1))
        case measure => have := HJ.out; omega
        case rel => exact ⟨j + 1, _, by go_num, HJ.out, Nat.le_refl _, IT3, ST3⟩
      · obtain rfl : j = N := by omega
        have IT2 := IT.out
        rw [← HN.out, doneTo_all] at IT2
        have X : Hid (IRep TS wr p r (iPut r T ss) (iFoot p s f (.slice va j vc) Gs)) := Hid.of ⟨s, f, _, qs, Gs, by rw [HN.out] at IT2; exact IT2, HG.out.put HF.out HC0.out.2.2, rfl⟩
        clear IT2
        go_wp2
        go_ret
        exact ⟨rfl, _, X.out, ST.out⟩
  · have k0 : (ce != 0) = true := by simp [h0]
    rw [if_neg h0]
    clear h0 HO
    go_enter Tryz.func60, Tryz.ntmps60
    go_wp2_with fail
    refine hmp.mono ?_
    rintro e w1 ⟨rfl, b1⟩
    have X : Hid (IRep TS w1 p r T (iFoot p s f (.slice va N vc) Fs)) := Hid.of ⟨s, f, _, qs, Fs, H.out.below b1, HG.out, rfl⟩
    have Y : Hid (TStep (iFoot p s f (.slice va N vc) Fs) (iFoot p s f (.slice va N vc) Fs) w w1) := Hid.of (TStep.of_below b1)
    clear b1
    go_wp2
    go_ret
    exact ⟨rfl, _, X.out, Y.out⟩

theorem rFrom_nat' (r : RchL) (j : Nat) : rFrom r (j : Int) = rFromN r j := by
  unfold rFrom
  rw [if_neg (by omega), show ((j : Int).toNat) = j by omega]

end Go.Proofs.YtbhcafginmkaaaaGreat

namespace Go.Proofs.YtbhcafginmkaaaaGreat
open Go.RowKit Go.Lib

/-- What a nil table answers. -/
structure TNil : Prop where
  all : ∀ w, Calls Tryz.prog 149 #[.pointer none] w fun x w' => x = .returned (.slice none 0 0) ∧ Below w.heap.size w w'
  copy : ∀ w, Calls Tryz.prog 146 #[.pointer none] w fun x w' => x = .returned (.pointer none) ∧ w' = w

theorem modify_set {T : List (List TRec)} {i : Nat} {l : List TRec} (h : T[i]? = some l) (g : List TRec → List TRec) : T.modify i g = T.set i (g l) := by
  refine List.ext_getElem? fun k => ?_
  rw [List.getElem?_modify]
  by_cases c : i = k
  · subst c
    rw [List.getElem?_set_self (List.getElem?_eq_some_iff.1 h).1, h]
    simp
  · rw [List.getElem?_set_ne c]
    simp [c]
theorem modify_none {T : List (List TRec)} {i : Nat} (h : T.length ≤ i) (g : List TRec → List TRec) : T.modify i g = T := by
  refine List.ext_getElem? fun k => ?_
  rw [List.getElem?_modify]
  by_cases c : i = k
  · subst c
    rw [List.getElem?_eq_none h]
    rfl
  · simp [c]

/-- Records are loaded. -/
theorem IGood.load {r : RchL} {T : List (List TRec)} (h : IGood r T) {i : Nat} {l : List TRec} (hl : T[i]? = some l) {rs : List TRec} (hr : ∀ x ∈ rs, TFit x) : IGood r (T.set i (tAdds (tEv r i) l (iFresh r i rs))) := by
  have hf : ∀ x ∈ iFresh r i rs, TFit x ∧ rFromN r i ≤ x.s := fun x hx => ⟨hr x (List.mem_filter.1 hx).1, of_decide_eq_true (List.mem_filter.1 hx).2⟩
  have hi := (List.getElem?_eq_some_iff.1 hl).1
  have hset : ∀ (k : Nat) m, (T.set i (tAdds (tEv r i) l (iFresh r i rs)))[k]? = some m → (k = i ∧ m = tAdds (tEv r i) l (iFresh r i rs)) ∨ T[k]? = some m := fun k m hm => by
    by_cases c : k = i
    · subst c
      rw [List.getElem?_set_self hi] at hm
      exact .inl ⟨rfl, (Option.some.inj hm).symm⟩
    · rw [List.getElem?_set_ne (fun e => c e.symm)] at hm
      exact .inr hm
  have m0 := h.made i l hl
  exact {
    n0 := h.n0, n1 := h.n1, chk := h.chk, fl := h.fl, flo := h.flo
    len := by rw [List.length_set]; exact h.len
    made := fun k m hm => by
      rcases hset k m hm with ⟨rfl, rfl⟩ | hm
      · exact m0.adds (fun y hy => (hf y hy).1)
      · exact h.made k m hm
    fit := fun k m hm => by
      rcases hset k m hm with ⟨rfl, rfl⟩ | hm
      · intro y hy
        have a := tAdds_all (e := tEv r k) m0.al (fun z hz => ((hf z hz).1).2.2) y hy
        have s := tAdds_s (Q := fun s => TIn64 s) m0.s64 (fun z hz => (hf z hz).1.2.1) y hy
        have b := (m0.adds (fun z hz => (hf z hz).1)).name hy
        exact ⟨by have := b.2; unfold maxLen; omega, s, a.2⟩
      · exact h.fit k m hm
    above := fun k m hm => by
      rcases hset k m hm with ⟨rfl, rfl⟩ | hm
      · exact fun y hy => tAdds_s (Q := fun s => rFromN r k ≤ s) (h.above k l hl) (fun z hz => (hf z hz).2) y hy
      · exact h.above k m hm }

theorem iFresh_snoc {r : RchL} {i : Nat} {rs : List TRec} {j : Nat} {x : TRec} (hx : rs[j]? = some x) : iFresh r i (rs.take (j + 1)) = if rFromN r i ≤ x.s then iFresh r i (rs.take j) ++ [x] else iFresh r i (rs.take j) := by
  have hj := (List.getElem?_eq_some_iff.1 hx).1
  unfold iFresh
  rw [List.take_succ_eq_append_getElem hj, (List.getElem?_eq_some_iff.1 hx).2, List.filter_append]
  by_cases c : rFromN r i ≤ x.s
  · rw [if_pos c, List.filter_cons_of_pos (by simpa using c), List.filter_nil]
  · rw [if_neg c, List.filter_cons_of_neg (by simpa using c), List.filter_nil, List.append_nil]

/-- Sums over the tiers, up to one. -/
def sumTo (g : Nat → List TRec → Nat) (T : List (List TRec)) (j : Nat) : Nat := ((T.take j).mapIdx g).sum
theorem sumTo_zero (g : Nat → List TRec → Nat) (T : List (List TRec)) : sumTo g T 0 = 0 := by unfold sumTo; rw [List.take_zero]; rfl
theorem sumTo_all (g : Nat → List TRec → Nat) (T : List (List TRec)) : sumTo g T T.length = (T.mapIdx g).sum := by unfold sumTo; rw [List.take_length]
theorem sumTo_succ (g : Nat → List TRec → Nat) {T : List (List TRec)} {j : Nat} {l : List TRec} (h : T[j]? = some l) : sumTo g T (j + 1) = sumTo g T j + g j l := by
  have hj := (List.getElem?_eq_some_iff.1 h).1
  unfold sumTo
  rw [List.take_succ_eq_append_getElem hj, (List.getElem?_eq_some_iff.1 h).2, List.mapIdx_append, List.sum_append]
  have e : (T.take j).length = j := by rw [List.length_take]; omega
  rw [e]
  simp
theorem sumTo_le {g : Nat → List TRec → Nat} {T : List (List TRec)} {m : Nat} (h : ∀ (i : Nat) l, T[i]? = some l → g i l ≤ m) : ∀ j, j ≤ T.length → sumTo g T j ≤ m * j
  | 0, _ => by rw [sumTo_zero]; exact Nat.zero_le _
  | j + 1, hj => by
    obtain ⟨l, hl⟩ : ∃ l, T[j]? = some l := ⟨_, List.getElem?_eq_getElem (by omega)⟩
    rw [sumTo_succ g hl, Nat.mul_succ]
    have := sumTo_le h j (by omega)
    have := h j l hl
    omega

set_option maxRecDepth 20000 in
set_option maxHeartbeats 3200000 in
theorem iload_any {TS : TableSpec} {w : World} {p : Nat} {r : RchL} {T : List (List TRec)} {F : TFoot} (i : Int) (u : Value) (rs : List TRec) (h : IRep TS w p r T F) (hl : 0 ≤ i → (T.getD i.toNat []).length + rs.length ≤ 1000) (hu : CellRow w u rs.length (flat renc (rs.map rl))) (hfit : ∀ x ∈ rs, TFit x) :
    Calls Tryz.prog 64 #[tptr p, .int .i64 i, u] w fun x w' => x = .returned (.int .i64 (if 0 ≤ i ∧ i.toNat < T.length then (tCount (tEv r i.toNat) (iFresh r i.toNat rs) : Nat) else 0)) ∧ ∃ F', IRep TS w' p r (if 0 ≤ i then iLoad r T i.toNat rs else T) F' ∧ TStep F F' w w' := by
  obtain ⟨s, f, v, qs, Fs, h, hg, rfl⟩ := h
  by_cases hi : 0 ≤ i ∧ i.toNat < T.length
  · obtain ⟨i, rfl⟩ : ∃ k : Nat, i = (k : Int) := ⟨i.toNat, by omega⟩
    have hi2 : i < T.length := by omega
    rw [if_pos hi, if_pos hi.1, show ((i : Int).toNat) = i by omega]
    obtain ⟨l, hT⟩ : ∃ l, T[i]? = some l := ⟨_, List.getElem?_eq_getElem hi2⟩
    obtain ⟨q, G, hq, hG, hrep⟩ := h.at_i hT
    have hat := iAt_any h hq
    have hi5 := hg.pos.2
    obtain ⟨i0, hi0, hz0, hz1, hz2⟩ := info_parts rec_info'
    have HI := Hid.of hi0
    have HZ0 := Hid.of hz0
    have HZ1 := Hid.of hz1
    have HZ2 := Hid.of hz2
    have hfr := reaches.from_ _ r (i : Int) w trivial h.fit (by unfold In64; omega) h.reach
    rw [rFrom_nat'] at hfr
    unfold rVal at hfr
    obtain ⟨k0, k1, k2, k3, -⟩ := h.c
    have H := Hid.of h
    have HQ := Hid.of hq
    have HGG := Hid.of hG
    have HT := Hid.of hT
    have HG := Hid.of hg
    have HL : Hid (l.length + rs.length ≤ 1000) := Hid.of (by have h9 := hl (by omega); rw [show ((i : Int).toNat) = i by omega, List.getD_eq_getElem?_getD, hT] at h9; exact h9)
    have HU := Hid.of hu
    have HF := Hid.of hfit
    have hrec := Hid.of hrep
    obtain ⟨ua, uc, rfl, -⟩ := hu
    obtain ⟨N, hN⟩ : ∃ N, rs.length = N := ⟨_, rfl⟩
    have HN := Hid.of hN
    rw [hN] at HU HL ⊢
    obtain ⟨fr, hfrn⟩ : ∃ fr, rFromN r i = fr := ⟨_, rfl⟩
    have HFR := Hid.of hfrn
    rw [hfrn] at hfr
    have hN1 : N ≤ 1000 := by have := HL.out; omega
    clear h hfit hl hi hi2 hT hq hG hrep hg hi0 hz0 hz1 hz2 hN hfrn hi5
    go_enter Tryz.func64, Tryz.ntmps64
    go_wp2_with fail
    refine hat.mono ?_
    rintro e w1 ⟨rfl, rfl⟩
    go_wp2_with fail
    refine hfr.mono ?_
    rintro e w2 ⟨rfl, b2⟩
    have B2 := Hid.of b2
    clear b2 hfr hat k0 k1 k2 k3
    go_wp2
    go_loopg [9, 11, 25] N (fun kx av _ iv wr => ∃ (j m : Nat) (lv : Value), lv = av ∧ iv = .int .i64 j ∧ j ≤ N ∧ m ≤ j ∧ N - j ≤ kx ∧ Hid ((iFresh r i (rs.take j)).length = m) ∧ Hid (wr.ownsRow w1.heap.size 102 7 lv m (flat renc ((iFresh r i (rs.take j)).map rl))) ∧ Hid (Below w1.heap.size w1 wr))
    case atStart => exact ⟨0, 0, _, rfl, rfl, Nat.zero_le _, Nat.le_refl _, Nat.le_refl _, Hid.of rfl, Hid.of (World.ownsRow_nil _ _ _ _), B2⟩
    case round =>
      clear B2
      obtain ⟨j, m, lv, rfl, rfl, hj, hm, hk, HM, HO, HB⟩ := hrel
      have j0 : (0 : Int) ≤ (j : Int) := Int.natCast_nonneg _
      by_cases hlt : (j : Int) < (N : Int)
      · obtain ⟨x, hx⟩ : ∃ x, rs[j]? = some x := ⟨_, List.getElem?_eq_getElem (by have := HN.out; omega)⟩
        obtain ⟨b1, o1, rfl, g1, d0, d1, d2, d3, d4, d5, d6⟩ := r_at (HU.out.kept HB.out) j (rl x) (by rw [List.getElem?_map, hx]; rfl)
        obtain ⟨n, t, a⟩ := x
        have HX := Hid.of hx
        have HJ : Hid (j < N) := Hid.of (by omega)
        have hmN : m ≤ 1000 := by omega
        unfold rl at d0 d1 d2 d3 d4 d5 d6
        simp only at d0 d1 d2 d3 d4 d5 d6
        obtain ⟨y, hy⟩ : ∃ y, wr.heap.size = y := ⟨_, rfl⟩
        obtain ⟨w3, hw3⟩ : ∃ w3, wr.alloc (.cells #[.string n, .int .i64 t, .int .i64 a.c, .int .i64 a.hi, .int .u64 a.lo, .int .i64 a.mn, .int .i64 a.mx] 102) = w3 := ⟨_, rfl⟩
        have hz3 : w3.heap[y]? = some (.cells #[.string n, .int .i64 t, .int .i64 a.c, .int .i64 a.hi, .int .u64 a.lo, .int .i64 a.mn, .int .i64 a.mx] 102 (0, 0)) := by rw [← hw3, ← hy]; exact (MapKept.heap_alloc wr _).1
        have b3 : Below wr.heap.size wr w3 := by rw [← hw3]; exact (Below.refl _ _).alloc (Nat.le_refl _) _
        have B3 : Hid (Below w1.heap.size w1 w3) := Hid.of (HB.out.trans (b3.mono HB.out.size))
        have O3 := Hid.of (iown_kept HO.out b3)
        have HSN := Hid.of (iFresh_snoc (r := r) (i := i) hx)
        have HMJ := Hid.of hm
        have HW := Hid.of hw3
        have HY := Hid.of hy
        clear hx g1 b3 HB HO hw3 hy hm
        go_upto_region 9 with fail
        rw [HW.out, HY.out]
        clear HW HY d0 d1 d2 d3 d4 d5 d6
        have e0 : w3.cell? ⟨y, 0, none⟩ = some (.string n) := by rw [cell_of_row _ _ _ _ _ _ hz3]; rfl
        have e1 : w3.cell? ⟨y, 1, none⟩ = some (.int .i64 t) := by rw [cell_of_row _ _ _ _ _ _ hz3]; rfl
        have e2 : w3.cell? ⟨y, 2, none⟩ = some (.int .i64 a.c) := by rw [cell_of_row _ _ _ _ _ _ hz3]; rfl
        have e3 : w3.cell? ⟨y, 3, none⟩ = some (.int .i64 a.hi) := by rw [cell_of_row _ _ _ _ _ _ hz3]; rfl
        have e4 : w3.cell? ⟨y, 4, none⟩ = some (.int .u64 a.lo) := by rw [cell_of_row _ _ _ _ _ _ hz3]; rfl
        have e5 : w3.cell? ⟨y, 5, none⟩ = some (.int .i64 a.mn) := by rw [cell_of_row _ _ _ _ _ _ hz3]; rfl
        have e6 : w3.cell? ⟨y, 6, none⟩ = some (.int .i64 a.mx) := by rw [cell_of_row _ _ _ _ _ _ hz3]; rfl
        clear hz3
        by_cases hc : t ≥ fr
        · have HS2 : Hid (iFresh r i (rs.take (j + 1)) = iFresh r i (rs.take j) ++ [⟨n, t, a⟩]) := Hid.of (by rw [HSN.out, if_pos (by rw [HFR.out]; exact hc)])
          clear HSN
          go_wp2_with (at_builtin; refine append_keep_law rfl (.tmp 33) (.tmp 35) 91 rfl w1.heap.size 102 i0 _ 7 64 Tryz.underlying91 HI.out HZ0.out HZ1.out HZ2.out rfl (by decide) lv m _ rfl (World.ownsRow.alloc O3.out _) w3.heap.size 0 1 1 (flat renc ([(⟨n, t, a⟩ : TRec)].map rl)) rfl (new_trec w3 ⟨n, t, a⟩ _) rfl (by intro z hz; exact flat_ones renc_one _ z hz) (by unfold maxLen; omega) (by omega) (by simp; have := B3.out.size; omega) ?_; intro x4 w4 o4 g4 _ _; have O4 := Hid.of o4; have G4 := Hid.of g4; clear o4 g4)
          go_roundg (N - (j + 1))
          case measure => have := HJ.out; omega
          case rel =>
            refine ⟨j + 1, m + 1, _, rfl, by go_num, HJ.out, Nat.succ_le_succ HMJ.out, Nat.le_refl _, Hid.of (by rw [HS2.out, List.length_append, HM.out]; rfl), Hid.of ?_, Hid.of ((B3.out.alloc B3.out.size _).grown G4.out (by simp; have := B3.out.size; omega) (fun k hk => own_ge O3.out hk))⟩
            rw [HS2.out, List.map_append, flat_append]
            exact O4.out
        · have HS2 : Hid (iFresh r i (rs.take (j + 1)) = iFresh r i (rs.take j)) := Hid.of (by rw [HSN.out, if_neg (by rw [HFR.out]; exact hc)])
          clear HSN
          go_wp2
          go_roundg (N - (j + 1))
          case measure => have := HJ.out; omega
          case rel => exact ⟨j + 1, m, _, rfl, by go_num, HJ.out, Nat.le_succ_of_le HMJ.out, Nat.le_refl _, Hid.of (by rw [HS2.out]; exact HM.out), Hid.of (by rw [HS2.out]; exact O3.out), B3⟩
      · obtain rfl : j = N := by omega
        have e : rs.take j = rs := by rw [← HN.out, List.take_length]
        have HM2 := HM.out
        have HO2 := HO.out
        rw [e] at HM2 HO2
        rw [← HM2] at HO2
        have IT := H.out.below HB.out
        have hrep2 := IT.rep i q l G HQ.out HT.out HGG.out
        have hadd := TS.add lv (iFresh r i rs) hrep2 (by have := HL.out; omega) (own_row HO2) (fun _ g hg c => by
          have h1 := own_ge HO2 hg
          have h2 := TS.lt (H.out.rep i q l G HQ.out HT.out HGG.out) g (TS.sub (H.out.rep i q l G HQ.out HT.out HGG.out) g c)
          omega) (fun y hy => HF.out y (List.mem_filter.1 hy).1)
        have IT2 := Hid.of IT
        clear HM2 HO2 e IT hrep2
        go_wp2_with fail
        refine hadd.mono ?_
        rintro e w3 ⟨rfl, G3, rep3, st3⟩
        obtain ⟨x1, x2⟩ := IT2.out.step HQ.out HT.out HGG.out rep3 st3
        have X : Hid (IRep TS w3 p r (iLoad r T i rs) (iFoot p s f v (Fs.set i G3))) := Hid.of ⟨s, f, v, qs, _, by unfold iLoad; rw [modify_set HT.out]; exact x1, by unfold iLoad; rw [modify_set HT.out]; exact HG.out.load HT.out HF.out, rfl⟩
        have Y := Hid.of ((TStep.of_below HB.out).trans x2)
        clear x1 x2 rep3 st3 hadd
        go_wp2
        go_ret
        exact ⟨rfl, _, X.out, Y.out⟩
  · have hat := iAt_no h hi
    have e : (if 0 ≤ i then iLoad r T i.toNat rs else T) = T := by
      split
      · exact modify_none (by omega) _
      · rfl
    have X : Hid (IRep TS w p r T (iFoot p s f v Fs)) := Hid.of ⟨s, f, v, qs, Fs, h, hg, rfl⟩
    rw [if_neg hi, e]
    clear h hg hl hu hfit hi e
    go_enter Tryz.func64, Tryz.ntmps64
    go_wp2_with fail
    refine hat.mono ?_
    rintro e w1 ⟨rfl, rfl⟩
    go_wp2
    go_ret
    exact ⟨rfl, _, X.out, TStep.of_below (Below.refl _ _)⟩

theorem itable_any {TS : TableSpec} (NT : TNil) {w : World} {p : Nat} {r : RchL} {T : List (List TRec)} {F : TFoot} (i : Int) (h : IRep TS w p r T F) (hl : ∀ l ∈ T, l.length ≤ 1000) :
    Calls Tryz.prog 156 #[tptr p, .int .i64 i] w fun x w' => (0 ≤ i ∧ i.toNat < T.length → ∃ q G, x = .returned (tptr q) ∧ TS.Rep w' q (tEv r i.toNat) (T.getD i.toNat []) G ∧ (∀ k, G.all k → w.heap.size ≤ k)) ∧ (¬ (0 ≤ i ∧ i.toNat < T.length) → x = .returned (.pointer none)) ∧ Below w.heap.size w w' := by
  obtain ⟨s, f, v, qs, Fs, h, hg, rfl⟩ := h
  by_cases hi : 0 ≤ i ∧ i.toNat < T.length
  · obtain ⟨k, rfl⟩ : ∃ k : Nat, i = (k : Int) := ⟨i.toNat, by omega⟩
    have HI := Hid.of hi
    rw [show ((k : Int).toNat) = k by omega] at hi ⊢
    obtain ⟨l, hT⟩ : ∃ l, T[k]? = some l := ⟨_, List.getElem?_eq_getElem hi.2⟩
    obtain ⟨q, G, hq, hG, hrep⟩ := h.at_i hT
    have hat := iAt_any h hq
    have hcp := TS.copy hrep (hl l (List.mem_of_getElem? hT))
    have H := Hid.of h
    rw [List.getD_eq_getElem?_getD, hT, Option.getD_some]
    clear hl hT hq hG hrep h hi hg
    go_enter Tryz.func156, Tryz.ntmps156
    go_wp2_with fail
    refine hat.mono ?_
    rintro e w1 ⟨rfl, rfl⟩
    go_wp2_with fail
    refine hcp.mono ?_
    rintro e w2 ⟨q2, G2, rfl, rep2, g1, g2, b2⟩
    have B2 := Hid.of b2
    have R2 := Hid.of rep2
    have GG2 := Hid.of g2
    clear b2 rep2 g1 g2 hcp hat
    go_wp2
    go_ret
    exact ⟨fun _ => ⟨_, _, rfl, R2.out, GG2.out⟩, fun x => absurd (by have := HI.out; rwa [show ((k : Int).toNat) = k by omega] at this) x, B2.out⟩
  · have hat := iAt_no h hi
    have hcp := NT.copy w
    have HI := Hid.of hi
    clear h hg hl hi
    go_enter Tryz.func156, Tryz.ntmps156
    go_wp2_with fail
    refine hat.mono ?_
    rintro e w1 ⟨rfl, rfl⟩
    go_wp2_with fail
    refine hcp.mono ?_
    rintro e w2 ⟨rfl, rfl⟩
    go_wp2
    go_ret
    exact ⟨fun x => absurd x HI.out, fun _ => rfl, Below.refl _ _⟩

/-- A tier's shards. -/
def iSh (r : RchL) (i : Nat) : Int := match r.2.1.2[i]? with | some t => t.2.2.2 | none => 1

set_option maxRecDepth 20000 in
set_option maxHeartbeats 1600000 in
theorem ineed_any {TS : TableSpec} {w : World} {p : Nat} {r : RchL} {T : List (List TRec)} {F : TFoot} (h : IRep TS w p r T F) (hl : ∀ l ∈ T, l.length ≤ 1000) :
    Calls Tryz.prog 94 #[tptr p] w fun x w' => x = .returned (.int .i64 (iNeed r T : Nat)) ∧ Below w.heap.size w w' := by
  obtain ⟨s, f, v, qs, Fs, h, hg, rfl⟩ := h
  have hN5 := hg.pos.2
  have H := Hid.of h
  have hr0 : CellRow w s r.2.1.2.length (flat penc r.2.1.2) := own_row h.hs
  obtain ⟨-, -, c2, -, -⟩ := h.c
  obtain ⟨N, hN⟩ : ∃ N, T.length = N := ⟨_, rfl⟩
  have hPL : r.2.1.2.length = N := by rw [← hg.len]; exact hN
  rw [hPL] at hr0
  have HR := Hid.of hr0
  obtain ⟨sa, sc, rfl, -⟩ := hr0
  have e : iNeed r T = sumTo (fun i l => tNeed l (iSh r i)) T N := by
    rw [← hN, sumTo_all]
    rfl
  have HSH : Hid (∀ (i : Nat) (t : TierL), r.2.1.2[i]? = some t → iSh r i = t.2.2.2 ∧ 1 ≤ t.2.2.2 ∧ t.2.2.2 ≤ 8) := Hid.of (fun i t ht => by
    have k := tier_known hg.chk ht
    refine ⟨?_, k.2.2.2.2.1, k.2.2.2.2.2.1⟩
    unfold iSh
    rw [ht])
  have hNB : ∀ (i : Nat) l, T[i]? = some l → tNeed l (iSh r i) ≤ 1000 := fun i l hT => by
    obtain ⟨t, ht, _⟩ := hg.ev (i := i) (List.getElem?_eq_some_iff.1 hT).1
    have k := HSH.out i t ht
    have := (tNeed_bounds l (iSh r i) (by rw [k.1]; exact k.2.1)).2
    have := hl l (List.mem_of_getElem? hT)
    omega
  have HS : Hid (∀ j, j ≤ N → sumTo (fun i l => tNeed l (iSh r i)) T j ≤ 1000 * j) := Hid.of (fun j hj => sumTo_le hNB j (by omega))
  have HNB := Hid.of hNB
  rw [e]
  rw [hN] at hN5
  have HN := Hid.of hN
  have HP := Hid.of hPL
  have HL := Hid.of hl
  clear e h hN hl hg hPL hNB
  go_enter Tryz.func94, Tryz.ntmps94
  go_wp2
  go_loopg [3, 4, 5, 15] N (fun kx nv _ _ iv wr => ∃ (j m : Nat), nv = .int .i64 m ∧ iv = .int .i64 j ∧ j ≤ N ∧ m ≤ 5000 ∧ N - j ≤ kx ∧ Hid (sumTo (fun i l => tNeed l (iSh r i)) T j = m) ∧ Hid (Below w.heap.size w wr))
  case atStart => exact ⟨0, 0, rfl, rfl, Nat.zero_le _, Nat.zero_le _, Nat.le_refl _, Hid.of (sumTo_zero _ _), Hid.of (Below.refl _ _)⟩
  case round =>
    obtain ⟨j, m, rfl, rfl, hj, hm, hk, HM, HB⟩ := hrel
    have j0 : (0 : Int) ≤ (j : Int) := Int.natCast_nonneg _
    by_cases hlt : (j : Int) < (N : Int)
    · obtain ⟨l, hT⟩ : ∃ l, T[j]? = some l := ⟨_, List.getElem?_eq_getElem (by have := HN.out; omega)⟩
      obtain ⟨t, ht⟩ : ∃ t, r.2.1.2[j]? = some t := ⟨_, List.getElem?_eq_getElem (by have := HP.out; omega)⟩
      obtain ⟨b1, o1, rfl, g1, d0, d1, d2, d3⟩ := p_at (HR.out.kept HB.out) j t ht
      have hsh := HSH.out j t ht
      obtain ⟨t0, t1, t2, sh⟩ := t
      simp only at d0 d1 d2 d3 hsh
      have HSU : Hid (sumTo (fun i l => tNeed l (iSh r i)) T (j + 1) = m + tNeed l sh) := Hid.of (by rw [sumTo_succ _ hT, HM.out, hsh.1])
      obtain ⟨x, hx⟩ : ∃ x, tNeed l sh = x := ⟨_, rfl⟩
      have hx1 : x ≤ 1000 := by rw [← hx, ← hsh.1]; exact HNB.out j l hT
      rw [hx] at HSU
      have hmx : m + x ≤ 5000 := by have := HS.out (j + 1) (by omega); rw [HSU.out] at this; omega
      have hwr : IntKind.i64.wrap ((m : Int) + (x : Int)) = ((m + x : Nat) : Int) := by rw [IntKind.wrap_i64]; omega
      have HX := Hid.of hx
      have HT := Hid.of hT
      have HSB := Hid.of hsh.2
      have HLE : Hid (l.length ≤ 1000) := Hid.of (HL.out l (List.mem_of_getElem? hT))
      have HJ : Hid (j < N) := Hid.of (by omega)
      obtain ⟨y, hy⟩ : ∃ y, wr.heap.size = y := ⟨_, rfl⟩
      obtain ⟨w2, hw2⟩ : ∃ w2, wr.alloc (.cells #[.string t0, .int .i64 t1, .int .i64 t2, .int .i64 sh] 89) = w2 := ⟨_, rfl⟩
      have z2 : w2.heap[y]? = some (.cells #[.string t0, .int .i64 t1, .int .i64 t2, .int .i64 sh] 89 (0, 0)) := by rw [← hw2, ← hy]; exact (MapKept.heap_alloc wr _).1
      have B2 : Hid (Below w.heap.size w w2) := Hid.of (by rw [← hw2]; exact HB.out.alloc HB.out.size _)
      have CS2 : Hid (Cs w2 [(⟨y, 3, none⟩, .int .i64 sh)]) := Hid.of (.cons (Array.getElem?_eq_some_iff.1 z2).1 (by rw [cell_of_row _ _ _ _ _ _ z2]; rfl) (.nil _))
      clear hT ht g1 hsh hx z2
      go_upto_region 7 with fail
      clear d0 d1 d2 d3 hy hw2
      have B2' := (Below.refl w2.heap.size w2).drew
      have B3 := Hid.of (B2.out.trans (B2'.mono B2.out.size))
      have IT3 := H.out.below B3.out
      obtain ⟨q, G, hq, hG, hrep⟩ := IT3.at_i HT.out
      have hat := iAt_any IT3 hq
      have hnd := TS.need sh hrep HLE.out ⟨by have := HSB.out.1; omega, by have := HSB.out.2; omega⟩
      rw [HX.out] at hnd
      have CS3 := Hid.of (CS2.out.next B2')
      clear B2' IT3 hq hG hrep
      have d0 := (CS2.out).head
      refine wp_region_noPanic ?_
      refine wp_region_held_drew (S := fun w' => w'.cell? ⟨y, 3, none⟩ = some (.int .i64 sh)) (by kernel_rfl) ?_ (fun hHeld => ?_)
      · exact d0
      refine takeOp 0 (o := ⟨_, _, _, _, _, _⟩) (v := ?_) rfl (by kernel_rfl) (by rfl) hHeld ?_ ?_; rotate_left; (next => intro w' hSw; (try dsimp only at hSw); go_simp; all_goals with_reducible rfl); simp only [Act.put, pA9, pB9, pC9]
      refine takeOp 1 (o := ⟨_, _, _, _, _, _⟩) (v := ?_) rfl (by kernel_rfl) (by rfl) hHeld ?_ ?_; rotate_left; (next => intro w' hSw; (try dsimp only at hSw); go_simp; all_goals with_reducible rfl); simp only [Act.put, pA9, pB9, pC9]
      refine takeOp 2 (o := ⟨_, _, _, _, _, _⟩) (v := ?_) rfl (by kernel_rfl) (by rfl) hHeld ?_ ?_; rotate_left; (next => intro w' hSw; (try dsimp only at hSw); go_simp; all_goals with_reducible rfl); simp only [Act.put, pA9, pB9, pC9]
      refine takeOp 4 (o := ⟨_, _, _, _, _, _⟩) (v := ?_) rfl (by kernel_rfl) (by rfl) hHeld ?_ ?_; rotate_left; (next => intro w' hSw; (try dsimp only at hSw); go_simp; all_goals with_reducible rfl); simp only [Act.put, pA9, pB9, pC9]
      refine takeOp 5 (o := ⟨_, _, _, _, _, _⟩) (v := ?_) rfl (by kernel_rfl) (by rfl) hHeld ?_ ?_; rotate_left; (next => intro w' hSw; (try dsimp only at hSw); go_simp; all_goals with_reducible rfl); simp only [Act.put, pA9, pB9, pC9]
      refine wpAnyH_ready (rs := [3]) (by kernel_rfl) (by simp) ?_
      refine AllReadyH.cons (o := ⟨_, _, _, _, _, _⟩) rfl (fun K hK => ?_) AllReadyH.nil
      go_simp
      refine hat.mono ?_
      rintro e w3 ⟨rfl, rfl⟩
      clear hHeld d0
      have d0 := CS3.out.head
      refine hK.out _ _ d0 (fun hHeld => ?_)
      clear hK K
      try simp only [Act.put, pA9, pB9, pC9]
      refine wpAnyH_ready (rs := [6]) (by kernel_rfl) (by simp) ?_
      refine AllReadyH.cons (o := ⟨_, _, _, _, _, _⟩) rfl (fun K hK => ?_) AllReadyH.nil
      go_simp
      refine hnd.mono ?_
      rintro e w4 ⟨rfl, b4⟩
      have B4 := Hid.of (B3.out.trans (b4.mono B3.out.size))
      have CS4 := Hid.of (CS3.out.next b4)
      clear hHeld b4 hat hnd CS3 CS2 B3 B2 d0
      have d0 := CS4.out.head
      refine hK.out _ _ d0 (fun hHeld => ?_)
      clear hK K
      try simp only [Act.put, pA9, pB9, pC9]
      refine takeOp 7 (o := ⟨_, _, _, _, _, _⟩) (v := ?_) rfl (by kernel_rfl) (by rfl) hHeld ?_ ?_; rotate_left; (next => intro w' hSw; (try dsimp only at hSw); go_simp; all_goals with_reducible rfl); simp only [Act.put, pA9, pB9, pC9]
      refine takeOp 8 (o := ⟨_, _, _, _, _, _⟩) (v := ?_) rfl (by kernel_rfl) (by rfl) hHeld ?_ ?_; rotate_left; (next => intro w' hSw; (try dsimp only at hSw); go_simp; all_goals with_reducible rfl); simp only [Act.put, pA9, pB9, pC9]
      refine wpAnyH_done (by kernel_rfl) ?_ _
      refine NoPanic.normal ?_
      clear hHeld d0
      go_wp2
      go_roundg (N - (j + 1))
      case measure => have := HJ.out; omega
      case rel => exact ⟨j + 1, m + x, by go_num, by go_num, HJ.out, hmx, Nat.le_refl _, HSU, B4⟩
    · obtain rfl : j = N := by omega
      go_wp2
      go_ret
      rw [HM.out]
      exact ⟨rfl, HB.out⟩

end Go.Proofs.YtbhcafginmkaaaaGreat

namespace Go.Proofs.YtbhcafginmkaaaaGreat
open Go.RowKit Go.Lib

theorem ptab_info : (Tryz.prog.info? 192).map (fun i => (i.zero, i.size, i.bytes)) = some (some (.pointer none), 1, 8) := by kernel_rfl

/-- Tiers that are being made, above D: their tables' list grows by one table at a time. -/
structure IGrow (TS : TableSpec) (w0 w : World) (p : Nat) (r : RchL) (T : List (List TRec)) (s f v : Value) (qs : List Nat) (Fs : List TFoot) : Prop where
  is : ITs TS w p r T s f v qs Fs
  fr : Below w0.heap.size w0 w
  ge : ∀ k, (iFoot p s f v Fs).all k → w0.heap.size ≤ k
  va : ∀ F ∈ Fs, ∀ k, v.ownBlock = some k → ¬ F.all k
  sv : ∀ k, v.ownBlock = some k → s.ownBlock ≠ some k ∧ f.ownBlock ≠ some k

section
variable {TS : TableSpec} {w0 w w1 w2 w' : World} {p : Nat} {r : RchL} {T : List (List TRec)} {s f v : Value} {qs : List Nat} {Fs : List TFoot}

theorem IGrow.next (h : IGrow TS w0 w p r T s f v qs Fs) (b : Below w.heap.size w w') : IGrow TS w0 w' p r T s f v qs Fs :=
  ⟨h.is.below b, h.fr.trans (b.mono h.fr.size), h.ge, h.va, h.sv⟩

/-- They begin without a table. -/
theorem IGrow.new {u : Value} (hfit : RFit r) (h : OwnRch w0.heap.size w u r) (b : Below w0.heap.size w0 w) : ∃ s f, u = rVal r s f ∧ IGrow TS w0 (w.alloc (.cells #[.int .i64 r.1, .string r.2.1.1, s, f, .slice none 0 0] 76)) w.heap.size r [] s f (.slice none 0 0) [] [] := by
  obtain ⟨s, f, hu, h1, h2, -⟩ := h
  have hz := (MapKept.heap_alloc w (.cells #[.int .i64 r.1, .string r.2.1.1, s, f, .slice none 0 0] 76 (0, 0))).1
  have b1 : Below w.heap.size w (w.alloc (.cells #[.int .i64 r.1, .string r.2.1.1, s, f, .slice none 0 0] 76 (0, 0))) := (Below.refl _ _).alloc (Nat.le_refl _) _
  refine ⟨s, f, hu, ⟨?_, b.trans (b1.mono b.size), fun k hk => ?_, fun F hF => absurd hF List.not_mem_nil, fun k hk => by cases hk⟩⟩
  · exact {
      cell := hz
      hs := own_mono (iown_kept h1 b1) (Nat.zero_le _)
      hf := own_mono (iown_kept h2 b1) (Nat.zero_le _)
      hv := World.ownsRow_nil _ _ _ _
      ql := rfl
      fl := rfl
      rep := fun i q l F hq => by simp at hq
      apart := fun i j k F G hF => by simp at hF
      off := fun F hF => absurd hF List.not_mem_nil
      out := fun F hF => absurd hF List.not_mem_nil
      pp := fun c => by
        rcases c with c | c | c
        · have := iown_lt h1 c; omega
        · have := iown_lt h2 c; omega
        · cases c
      fit := hfit }
  · rcases hk with rfl | (c | c | c) | ⟨F, hF, _⟩
    · exact b.size
    · exact own_ge h1 c
    · exact own_ge h2 c
    · cases c
    · exact absurd hF List.not_mem_nil

/-- One table more: it is made (w1), put behind the others (w2), and the list is stored (w'). -/
theorem IGrow.more (h : IGrow TS w0 w p r T s f v qs Fs) {q : Nat} {l : List TRec} {F : TFoot} (b1 : Below w.heap.size w w1) (hr : TS.Rep w1 q (tEv r T.length) l F) (hF : ∀ k, F.all k → w.heap.size ≤ k) {v' : Value}
    (o2 : w2.ownsRow 0 192 1 v' (qs.length + 1) (qs.map tptr ++ [tptr q])) (g2 : w1.grownBy w2 v.ownBlock) (m2 : v'.ownBlock = v.ownBlock ∨ ∃ g, v'.ownBlock = some g ∧ w1.heap.size ≤ g) :
    IGrow TS w0 (w2.setCell ⟨p, 4, none⟩ v') p r (T ++ [l]) s f v' (qs ++ [q]) (Fs ++ [F]) := by
  have hp := h.is.lt_p
  have hs1 : w.heap.size ≤ w1.heap.size := b1.size
  have hvp : ∀ k, v.ownBlock = some k → k ≠ p := fun k hk c => h.is.pp (c ▸ .inr (.inr hk))
  have hvl : ∀ k, v.ownBlock = some k → k < w.heap.size := fun k hk => iown_lt h.is.hv hk
  have hv' : ∀ k, v'.ownBlock = some k → v.ownBlock = some k ∨ w1.heap.size ≤ k := fun k hk => by
    rcases m2 with e | ⟨g, e, hg⟩
    · exact .inl (e ▸ hk)
    · rw [e] at hk
      cases hk
      exact .inr hg
  have g3 := grownBy_setCell w2 p 4 v'
  -- what was there ahead, but for the list and the first block
  have keep : ∀ k, k < w1.heap.size → v.ownBlock ≠ some k → k ≠ p → (w2.setCell ⟨p, 4, none⟩ v').heap[k]? = w1.heap[k]? := fun k hk hne hkp =>
    (g3.block k (Nat.lt_of_lt_of_le hk g2.size) (fun c => hkp (Option.some.inj c))).trans (g2.block k hk (fun c => hne c.symm))
  have keep0 : ∀ k, k < w.heap.size → v.ownBlock ≠ some k → k ≠ p → (w2.setCell ⟨p, 4, none⟩ v').heap[k]? = w.heap[k]? := fun k hk hne hkp =>
    (keep k (by omega) hne hkp).trans (b1.block k hk)
  have hcell2 : w2.heap[p]? = some (.cells #[.int .i64 r.1, .string r.2.1.1, s, f, v] 76 (0, 0)) :=
    (g2.block p (by omega) (fun c => hvp p c.symm rfl)).trans ((b1.block p hp).trans h.is.cell)
  have hlast : ∀ (i : Nat) G, (Fs ++ [F])[i]? = some G → Fs[i]? = some G ∨ (i = Fs.length ∧ G = F) := fun i G hG => by
    rcases Nat.lt_or_ge i Fs.length with c | c
    · rw [List.getElem?_append_left c] at hG
      exact .inl hG
    · rw [List.getElem?_append_right c] at hG
      have hi : i - Fs.length = 0 := by
        rcases Nat.eq_zero_or_pos (i - Fs.length) with d | d
        · exact d
        · rw [List.getElem?_eq_none (by simp; omega)] at hG
          cases hG
      rw [hi] at hG
      exact .inr ⟨by omega, (Option.some.inj hG).symm⟩
  have hmem : ∀ G ∈ Fs ++ [F], G ∈ Fs ∨ G = F := fun G hG => by
    rcases List.mem_append.1 hG with c | c
    · exact .inl c
    · exact .inr (List.mem_singleton.1 c)
  have hold : ∀ G ∈ Fs, ∀ k, G.all k → k < w.heap.size := fun G hG k c => h.is.lt (.inr (.inr ⟨G, hG, c⟩))
  have hsub : ∀ G ∈ Fs, ∀ k, G.own k → G.all k := fun G hG k c => by
    obtain ⟨i, q', l', _, hr'⟩ := h.is.of_foot hG
    exact TS.sub hr' k c
  have hRs : ∀ k, s.ownBlock = some k → v.ownBlock ≠ some k ∧ k ≠ p ∧ k < w.heap.size := fun k hk => ⟨fun c => (h.sv k c).1 hk, fun c => h.is.pp (c ▸ .inl hk), iown_lt h.is.hs hk⟩
  have hRf : ∀ k, f.ownBlock = some k → v.ownBlock ≠ some k ∧ k ≠ p ∧ k < w.heap.size := fun k hk => ⟨fun c => (h.sv k c).2 hk, fun c => h.is.pp (c ▸ .inr (.inl hk)), iown_lt h.is.hf hk⟩
  refine ⟨?_, ?_, fun k hk => ?_, fun G hG k hk c => ?_, fun k hk => ?_⟩
  · refine {
      cell := by
        rw [row_set (i := 4) hcell2 v']
        simp
      hs := iown_at h.is.hs (fun k hk => keep0 k (hRs k hk).2.2 (hRs k hk).1 (hRs k hk).2.1)
      hf := iown_at h.is.hf (fun k hk => keep0 k (hRf k hk).2.2 (hRf k hk).1 (hRf k hk).2.1)
      hv := by
        rw [List.length_append, List.map_append]
        refine iown_at o2 (fun k hk => g3.block k (iown_lt o2 hk) (fun c => ?_))
        have c := Option.some.inj c
        rcases hv' k hk with d | d
        · exact hvp k d c
        · omega
      ql := by rw [List.length_append, List.length_append, h.is.ql]; rfl
      fl := by rw [List.length_append, List.length_append, h.is.fl]; rfl
      rep := fun i q2 l2 G hq hl hG => ?_
      apart := fun i j k G G2 hG hG2 hne c d => ?_
      off := fun G hG k c d => ?_
      out := fun G hG c => ?_
      pp := fun c => by
        rcases c with c | c | c
        · exact h.is.pp (.inl c)
        · exact h.is.pp (.inr (.inl c))
        · rcases hv' p c with d | d
          · exact hvp p d rfl
          · omega
      fit := h.is.fit }
    · rcases hlast i G hG with e | ⟨e, rfl⟩
      · have hi := (List.getElem?_eq_some_iff.1 e).1
        rw [List.getElem?_append_left (by rw [h.is.ql, ← h.is.fl]; exact hi)] at hq
        rw [List.getElem?_append_left (by rw [← h.is.fl]; exact hi)] at hl
        have hr' := h.is.rep i q2 l2 G hq hl e
        refine TS.kept hr' (Nat.le_trans hs1 (Nat.le_trans g2.size g3.size)) (fun k hk => keep0 k (TS.lt hr' k hk) (fun c => h.va G (List.mem_of_getElem? e) k c hk) (fun c => h.is.out G (List.mem_of_getElem? e) (c ▸ hk)))
      · rw [e, List.getElem?_append_right (by rw [h.is.ql, h.is.fl]; exact Nat.le_refl _), h.is.ql, h.is.fl, Nat.sub_self] at hq
        rw [e, List.getElem?_append_right (by rw [h.is.fl]; exact Nat.le_refl _), h.is.fl, Nat.sub_self] at hl
        simp only [List.getElem?_cons_zero, Option.some.injEq] at hq hl
        subst hq hl
        rw [e, h.is.fl]
        refine TS.kept hr (Nat.le_trans g2.size g3.size) (fun k hk => keep k (TS.lt hr k hk) (fun c => ?_) (fun c => ?_))
        · have := hF k hk
          have := hvl k c
          omega
        · have := hF k hk
          omega
    · rcases hlast i G hG with e | ⟨e, e2⟩ <;> rcases hlast j G2 hG2 with e3 | ⟨e3, e4⟩
      · exact h.is.apart i j k G G2 e e3 hne c d
      · subst e4
        have := hF k (TS.sub hr k d)
        have := hold G (List.mem_of_getElem? e) k c
        omega
      · subst e2
        have := hF k c
        have := hold G2 (List.mem_of_getElem? e3) k (hsub G2 (List.mem_of_getElem? e3) k d)
        omega
      · exact hne (e.trans e3.symm)
    · have hcase : G ∈ Fs ∨ G = F := hmem G hG
      rcases hcase with e | rfl
      · rcases d with d | d | d
        · exact h.is.off G e k c (.inl d)
        · exact h.is.off G e k c (.inr (.inl d))
        · rcases hv' k d with x | x
          · exact h.is.off G e k c (.inr (.inr x))
          · have := hold G e k (hsub G e k c)
            omega
      · have h1 := hF k (TS.sub hr k c)
        have h2 := TS.lt hr k (TS.sub hr k c)
        rcases d with d | d | d
        · have := (hRs k d).2.2
          omega
        · have := (hRf k d).2.2
          omega
        · rcases hv' k d with x | x
          · have := hvl k x
            omega
          · omega
    · rcases hmem G hG with e | rfl
      · exact h.is.out G e c
      · have := hF p c
        omega
  · refine (h.fr.trans (b1.mono h.fr.size)).grown g2 (Nat.le_trans h.fr.size hs1) (fun k hk => h.ge k (.inr (.inl (.inr (.inr hk))))) |>.grown g3 ?_ (fun k hk => by cases hk; exact h.ge p (.inl rfl))
    exact Nat.le_trans h.fr.size (Nat.le_trans hs1 g2.size)
  · have h0 := h.fr.size
    rcases hk with c | (c | c | c) | ⟨G, hG, c⟩
    · exact h.ge k (.inl c)
    · exact h.ge k (.inr (.inl (.inl c)))
    · exact h.ge k (.inr (.inl (.inr (.inl c))))
    · rcases hv' k c with d | d
      · exact h.ge k (.inr (.inl (.inr (.inr d))))
      · omega
    · rcases hmem G hG with e | rfl
      · exact h.ge k (.inr (.inr ⟨G, e, c⟩))
      · have := hF k c
        omega
  · rcases hmem G hG with e | rfl
    · rcases hv' k hk with d | d
      · exact h.va G e k d c
      · have := hold G e k c
        omega
    · have h1 := hF k c
      have h2 := TS.lt hr k c
      rcases hv' k hk with d | d
      · have := hvl k d
        omega
      · omega
  · rcases hv' k hk with d | d
    · exact h.sv k d
    · refine ⟨fun c => ?_, fun c => ?_⟩
      · have := (hRs k c).2.2
        omega
      · have := (hRf k c).2.2
        omega

theorem IGrow.cs (h : IGrow TS w0 w p r T s f v qs Fs) : Cs w [(⟨p, 4, none⟩, v)] := .cons h.is.lt_p h.is.c.2.2.2.2 (.nil _)
end

end Go.Proofs.YtbhcafginmkaaaaGreat

namespace Go.Proofs.YtbhcafginmkaaaaGreat
open Go.RowKit Go.Lib

theorem OwnRch.mono {B B' : Nat} {w : World} {v : Value} {r : RchL} (h : OwnRch B w v r) (hb : B' ≤ B) : OwnRch B' w v r := by
  obtain ⟨s, f, hv, h1, h2, h3⟩ := h
  exact ⟨s, f, hv, own_mono h1 hb, own_mono h2 hb, h3⟩

set_option maxRecDepth 20000 in
set_option maxHeartbeats 6400000 in
theorem inew_any {TS : TableSpec} (v f : Value) (p : PolL) (now : Int) (fl : List Int) (w : World) (hv : PolRow w v p) (h60 : p.1.size ≤ 60) (h10 : p.2.length ≤ 10) (ht : ∀ x ∈ p.2, x.1.size ≤ 60 ∧ In64 x.2.1 ∧ In64 x.2.2.1 ∧ In64 x.2.2.2) (hn : In64 now) (hf : CellRow w f fl.length (fl.map (Value.int .i64))) (hfc : CapOk f) (hfl : fl.length ≤ 1000) (hx : ∀ x ∈ fl, In64 x) :
    Calls Tryz.prog 56 #[v, .int .i64 now, f] w fun x w' => (iNewE p now fl = 0 → ∃ q F, x = .returned (.tuple #[tptr q, .int .i64 0]) ∧ IRep TS w' q (now, p, fl) (List.replicate p.2.length []) F ∧ (∀ k, F.all k → w.heap.size ≤ k)) ∧ (iNewE p now fl ≠ 0 → x = .returned (.tuple #[.pointer none, .int .i64 (iNewE p now fl)])) ∧ Below w.heap.size w w' := by
  have PF : PFit p := ⟨by omega, by omega, fun x hx => ⟨by have := (ht x hx).1; omega, (ht x hx).2⟩⟩
  have RF : Hid (RFit (now, p, fl)) := Hid.of ⟨hn, PF, by show fl.length ≤ _; omega, hx⟩
  have HV := Hid.of hv
  have HF := Hid.of hf
  have HFC := Hid.of hfc
  have HFL := Hid.of hfl
  obtain ⟨s, rfl, hs, hsc⟩ := hv
  obtain ⟨pn, pt⟩ := p
  obtain ⟨w1, hw1⟩ : ∃ w1, w.alloc (.cells #[.string pn, s] 24) = w1 := ⟨_, rfl⟩
  obtain ⟨z, hz⟩ : ∃ z, w.heap.size = z := ⟨_, rfl⟩
  have b1 : Below w.heap.size w w1 := by rw [← hw1]; exact (Below.refl _ _).alloc (Nat.le_refl _) _
  have k1 : PBlk w1 z pn s := by rw [← hw1, ← hz]; exact PBlk.made w pn s
  have HS := Hid.of hs
  obtain ⟨sa, sc, rfl, -⟩ := hs
  obtain ⟨fa, fc, rfl, -⟩ := hf
  simp only at HS hw1 k1 h10 ht h60
  obtain ⟨N, hN⟩ : ∃ N, pt.length = N := ⟨_, rfl⟩
  have HN := Hid.of hN
  rw [hN] at HS hw1 k1 h10
  have hpr : PolRow w1 (.agg #[.string pn, .slice sa N sc]) (pn, pt) := by
    have := HV.out.kept b1
    unfold polVal at this
    rw [hN] at this
    exact this
  have hck := check_any _ (pn, pt) w1 PF hpr
  have HPR := Hid.of hpr
  have B1 := Hid.of b1
  have K1 := Hid.of k1
  have HPT := Hid.of PF
  have H10 := Hid.of h10
  obtain ⟨ce, hce⟩ : ∃ ce, (pCheck (pn, pt)).1 = ce := ⟨_, rfl⟩
  obtain ⟨cl, hcl⟩ : ∃ cl, (pCheck (pn, pt)).2 = cl := ⟨_, rfl⟩
  rw [hce, hcl] at hck
  obtain ⟨er, her⟩ : ∃ er, iNewE (pn, pt) now fl = er := ⟨_, rfl⟩
  have HER := Hid.of her
  rw [her]
  have HCE := Hid.of hce
  have HW := Hid.of hw1
  have HZ : Hid (w.heap.size = z) := Hid.of hz
  obtain ⟨c0, c1⟩ := k1.at
  unfold polVal
  show Calls _ _ #[.agg #[.string pn, .slice sa pt.length sc], _, _] _ _
  rw [hN]
  clear hpr b1 k1 PF hx hn hfl hfc hce hcl her hw1 hz hsc hN h10 ht h60 HV
  by_cases h0 : ce = 0
  case neg =>
    have HE : Hid (er = ce) := Hid.of (by rw [← HER.out]; unfold iNewE; rw [HCE.out, if_pos h0])
    have k0 : (ce != 0) = true := by simp [h0]
    go_enter Tryz.func56, Tryz.ntmps56
    go_upto_region 1 with fail
    rw [HW.out, HZ.out]
    clear HW
    go_wp2_with fail
    refine hck.mono ?_
    rintro e w2 ⟨rfl, b2⟩
    have B2 := Hid.of (B1.out.trans (b2.mono B1.out.size))
    clear b2 hck c0 c1
    go_wp2
    go_ret2
    rw [HE.out]
    exact ⟨fun c => absurd c h0, fun _ => rfl, B2.out⟩
  subst h0
  have HE : Hid (er = if now < 0 ∨ maxT < now ∨ pt.length < fl.length ∨ flBad fl pt = true then 1 else 0) := Hid.of (by rw [← HER.out]; unfold iNewE; rw [HCE.out]; rfl)
  by_cases hn0 : now < 0
  · have HE1 : Hid (er = 1) := Hid.of (by rw [HE.out, if_pos (.inl hn0)])
    go_enter Tryz.func56, Tryz.ntmps56
    go_upto_region 1 with fail
    rw [HW.out, HZ.out]
    clear HW
    go_wp2_with fail
    refine hck.mono ?_
    rintro e w2 ⟨rfl, b2⟩
    have B2 := Hid.of (B1.out.trans (b2.mono B1.out.size))
    clear b2 hck c0 c1
    go_wp2
    go_ret2
    rw [HE1.out]
    exact ⟨fun c => absurd c (by decide), fun _ => rfl, B2.out⟩
  by_cases hn1 : now > 1099511627776
  · have HE1 : Hid (er = 1) := Hid.of (by rw [HE.out, if_pos (.inr (.inl (by unfold maxT; omega)))])
    go_enter Tryz.func56, Tryz.ntmps56
    go_upto_region 1 with fail
    rw [HW.out, HZ.out]
    clear HW
    go_wp2_with fail
    refine hck.mono ?_
    rintro e w2 ⟨rfl, b2⟩
    have B2 := Hid.of (B1.out.trans (b2.mono B1.out.size))
    clear b2 hck c0 c1
    go_wp2
    go_ret2
    rw [HE1.out]
    exact ⟨fun c => absurd c (by decide), fun _ => rfl, B2.out⟩
  obtain ⟨ff, hff⟩ : ∃ ff, flFit fl pt = ff := ⟨_, rfl⟩
  have HFF := Hid.of hff
  have hN0 := Hid.of hn0
  have hN1 := Hid.of hn1
  clear hff
  go_enter Tryz.func56, Tryz.ntmps56
  go_upto_region 1 with fail
  rw [HW.out, HZ.out]
  clear HW
  go_wp2_with fail
  refine hck.mono ?_
  rintro e w2 ⟨rfl, b2⟩
  have B2 := Hid.of (B1.out.trans (b2.mono B1.out.size))
  have K2 := Hid.of (K1.out.kept b2)
  have B12 := Hid.of b2
  have HS2 := Hid.of (HS.out.kept B2.out)
  have hfit := iFit_any (.slice sa N sc) (.slice fa fl.length fc) pt fl w2 (by rw [HN.out]; exact HS2.out) (HF.out.kept B2.out) (by have := H10.out; have := HN.out; omega) (by have := HFL.out; omega)
  rw [HFF.out] at hfit
  clear b2 hck c0 c1
  obtain ⟨c0, c1⟩ := K2.out.at
  go_wp2_with fail
  refine hfit.mono ?_
  rintro e w3 ⟨rfl, kd, hw3⟩
  have b3 : Below w2.heap.size w2 w3 := by rw [hw3]; exact below_drewN (Below.refl _ _) kd
  have B3 := Hid.of (B2.out.trans (b3.mono B2.out.size))
  have K3 := Hid.of (K2.out.kept b3)
  have B13 := Hid.of (B12.out.trans (b3.mono B12.out.size))
  clear hw3 b3 hfit c0 c1
  cases ff
  · have HE1 : Hid (er = 1) := Hid.of (by
      rw [HE.out, if_pos]
      have h := HFF.out
      unfold flFit at h
      simp only [Bool.and_eq_false_imp, decide_eq_true_eq, Bool.not_eq_false'] at h
      by_cases c : fl.length ≤ pt.length
      · exact .inr (.inr (.inr (h c)))
      · exact .inr (.inr (.inl (by omega))))
    go_wp2
    go_ret2
    rw [HE1.out]
    exact ⟨fun c => absurd c (by decide), fun _ => rfl, B3.out⟩
  · have HE0 : Hid (er = 0) := Hid.of (by
      rw [HE.out, if_neg]
      have h := HFF.out
      unfold flFit at h
      simp only [Bool.and_eq_true, decide_eq_true_eq, Bool.not_eq_true'] at h
      rintro (c | c | c | c)
      · have := hN0.out
        omega
      · unfold maxT at c
        have := hN1.out
        omega
      · omega
      · rw [h.2] at c
        cases c)
    have GD : Hid (IGood (now, (pn, pt), fl) (List.replicate pt.length [])) := Hid.of (IGood.new (HER.out.trans HE0.out))
    obtain ⟨i0, hi0, hz0, hz1, hz2⟩ := info_parts ptab_info
    have HI := Hid.of hi0
    have HZ0 := Hid.of hz0
    have HZ1 := Hid.of hz1
    have HZ2 := Hid.of hz2
    have hof := reaches.of _ (.slice fa fl.length fc) (pn, pt) now fl w3 trivial RF.out (HPR.out.kept B13.out) (HF.out.kept B3.out) HFC.out
    clear hi0 hz0 hz1 hz2 HE HS2 B1 B2 K1 K2 B12 B13
    obtain ⟨c0, c1⟩ := K3.out.at
    go_wp2_with fail
    refine hof.mono ?_
    rintro e w4 ⟨u, rfl, ou, b4⟩
    have B4 := Hid.of (B3.out.trans (b4.mono B3.out.size))
    obtain ⟨s2, f2, hu, G5⟩ := IGrow.new (TS := TS) (w0 := w) RF.out (ou.mono B3.out.size) B4.out
    subst hu
    obtain ⟨q, hq⟩ : ∃ q, w4.heap.size = q := ⟨_, rfl⟩
    obtain ⟨w5, hw5⟩ : ∃ w5, w4.alloc (.cells #[.int .i64 now, .string pn, s2, f2, .slice none 0 0] 76) = w5 := ⟨_, rfl⟩
    have b5 : Below w4.heap.size w4 w5 := by rw [← hw5]; exact (Below.refl _ _).alloc (Nat.le_refl _) _
    have GR5 : Hid (IGrow TS w w5 q (now, (pn, pt), fl) [] s2 f2 (.slice none 0 0) [] []) := Hid.of (by rw [← hw5, ← hq]; exact G5)
    have K5 := Hid.of ((K3.out.kept b4).kept b5)
    have HQ : Hid (w4.heap.size = q) := Hid.of hq
    have HW5 := Hid.of hw5
    clear b4 b5 ou hof c0 c1 K3 B3 B4 hq hw5 G5
    unfold rVal
    obtain ⟨c0, c1⟩ := K5.out.at
    go_upto_region 7 with fail
    rw [HW5.out, HQ.out]
    clear HW5 HQ
    go_wp2
    clear c0 c1
    go_loopg [12, 43] N (fun kx _ iv wr => ∃ (j : Nat) (v : Value) (qs : List Nat) (Fs : List TFoot), iv = .int .i64 j ∧ j ≤ N ∧ N - j ≤ kx ∧ Hid (IGrow TS w wr q (now, (pn, pt), fl) (List.replicate j []) s2 f2 v qs Fs))
    case atStart => exact ⟨0, _, [], [], rfl, Nat.zero_le _, Nat.le_refl _, GR5⟩
    case round =>
      clear GR5 K5
      obtain ⟨j, v, qs, Fs, rfl, hj, hk, GR⟩ := hrel
      have j0 : (0 : Int) ≤ (j : Int) := Int.natCast_nonneg _
      by_cases hlt : (j : Int) < (N : Int)
      · obtain ⟨t, ht⟩ : ∃ t, pt[j]? = some t := ⟨_, List.getElem?_eq_getElem (by have := HN.out; omega)⟩
        obtain ⟨b1, o1, rfl, g1, d0, d1, d2, d3⟩ := p_at (HS.out.kept GR.out.fr) j t ht
        have htk := tier_known GD.out.chk ht
        obtain ⟨t0, ev, t2, t3⟩ := t
        simp only at d0 d1 d2 d3 htk
        have HEV : Hid (tEv (now, (pn, pt), fl) (List.replicate j ([] : List TRec)).length = max ev 1) := Hid.of (by
          rw [List.length_replicate]
          unfold tEv
          show (match pt[j]? with | some t => t.2.1 | none => 1) = _
          rw [ht]
          show ev = _
          omega)
        have HE64 : Hid (TIn64 ev) := Hid.of ⟨by omega, by omega⟩
        have HJ : Hid (j < N) := Hid.of (by omega)
        have hj10 : j ≤ 10 := by have := H10.out; omega
        obtain ⟨va, vc, rfl, -⟩ := GR.out.is.tabs
        rw [List.length_replicate] at GR
        obtain ⟨y, hy⟩ : ∃ y, wr.heap.size = y := ⟨_, rfl⟩
        obtain ⟨w6, hw6⟩ : ∃ w6, wr.alloc (.cells #[.string t0, .int .i64 ev, .int .i64 t2, .int .i64 t3] 89) = w6 := ⟨_, rfl⟩
        have z6 : w6.heap[y]? = some (.cells #[.string t0, .int .i64 ev, .int .i64 t2, .int .i64 t3] 89 (0, 0)) := by rw [← hw6, ← hy]; exact (MapKept.heap_alloc wr _).1
        have b6 : Below wr.heap.size wr w6 := by rw [← hw6]; exact (Below.refl _ _).alloc (Nat.le_refl _) _
        have GR6 := Hid.of (GR.out.next b6)
        have HVY : Hid (∀ g, (Value.slice va j vc).ownBlock = some g → g < y) := Hid.of (fun g hg => by rw [← hy]; exact iown_lt GR.out.is.hv hg)
        have HQY : Hid (q < y) := Hid.of (by rw [← hy]; exact GR.out.is.lt_p)
        have CS6 : Hid (Cs w6 [(⟨y, 1, none⟩, .int .i64 ev)]) := Hid.of (.cons (Array.getElem?_eq_some_iff.1 z6).1 (by rw [cell_of_row _ _ _ _ _ _ z6]; rfl) (.nil _))
        clear ht g1 htk z6 b6 GR
        go_upto_region 10 with fail
        clear d0 d1 d2 d3 hy hw6
        obtain ⟨WD, hWD⟩ : ∃ WD, w6.drew = WD := ⟨_, rfl⟩
        have b6d : Below w6.heap.size w6 WD := by rw [← hWD]; exact (Below.refl _ _).drew
        have GR6d := Hid.of (GR6.out.next b6d)
        have B6d := Hid.of b6d
        have CSD := Hid.of (CS6.out.next b6d)
        clear b6d
        have d0 := (CS6.out).head
        refine wp_region_noPanic ?_
        refine wp_region_held_drew (S := fun w' => w'.cell? ⟨y, 1, none⟩ = some (.int .i64 ev)) (by kernel_rfl) ?_ (fun hHeld => ?_)
        · exact d0
        refine takeOp 0 (o := ⟨_, _, _, _, _, _⟩) (v := ?_) rfl (by kernel_rfl) (by rfl) hHeld ?_ ?_; rotate_left; (next => intro w' hSw; (try dsimp only at hSw); go_simp; all_goals with_reducible rfl); simp only [Act.put, pA9, pB9, pC9]
        refine takeOp 1 (o := ⟨_, _, _, _, _, _⟩) (v := ?_) rfl (by kernel_rfl) (by rfl) hHeld ?_ ?_; rotate_left; (next => intro w' hSw; (try dsimp only at hSw); go_simp; all_goals with_reducible rfl); simp only [Act.put, pA9, pB9, pC9]
        refine takeOp 2 (o := ⟨_, _, _, _, _, _⟩) (v := ?_) rfl (by kernel_rfl) (by rfl) hHeld ?_ ?_; rotate_left; (next => intro w' hSw; (try dsimp only at hSw); go_simp; all_goals with_reducible rfl); simp only [Act.put, pA9, pB9, pC9]
        refine takeOp 3 (o := ⟨_, _, _, _, _, _⟩) (v := ?_) rfl (by kernel_rfl) (by rfl) hHeld ?_ ?_; rotate_left; (next => intro w' hSw; (try dsimp only at hSw); go_simp; all_goals with_reducible rfl); simp only [Act.put, pA9, pB9, pC9]
        refine takeOp 5 (o := ⟨_, _, _, _, _, _⟩) (v := ?_) rfl (by kernel_rfl) (by rfl) hHeld ?_ ?_; rotate_left; (next => intro w' hSw; (try dsimp only at hSw); go_simp; all_goals with_reducible rfl); simp only [Act.put, pA9, pB9, pC9]
        refine takeOp 6 (o := ⟨_, _, _, _, _, _⟩) (v := ?_) rfl (by kernel_rfl) (by rfl) hHeld ?_ ?_; rotate_left; (next => intro w' hSw; (try dsimp only at hSw); go_simp; all_goals with_reducible rfl); simp only [Act.put, pA9, pB9, pC9]
        refine wpAnyH_ready (rs := [4, 7]) (by kernel_rfl) (by simp) ?_
        refine AllReadyH.cons (o := ⟨_, _, _, _, _, _⟩) rfl (fun K hK => ?_) (AllReadyH.cons (o := ⟨_, _, _, _, _, _⟩) rfl (fun K hK => ?_) AllReadyH.nil)
        · have e4 : WD.cell? ⟨q, 4, none⟩ = some (.slice va j vc) := GR6d.out.is.c.2.2.2.2
          go_simp
          clear e4
          clear hHeld d0
          have d0 := (CSD.out).head
          refine hK.out _ _ d0 (fun hHeld => ?_)
          clear hK K
          try simp only [Act.put, pA9, pB9, pC9]
          refine wpAnyH_ready (rs := [7]) (by kernel_rfl) (by simp) ?_
          refine AllReadyH.cons (o := ⟨_, _, _, _, _, _⟩) rfl (fun K hK => ?_) AllReadyH.nil
          go_simp
          refine (TS.new ev _ HE64.out).mono ?_
          rintro e w7 ⟨q7, G7, rfl, r7, rf7, b7⟩
          have R7 : Hid (TS.Rep w7 q7 (tEv (now, (pn, pt), fl) (List.replicate j ([] : List TRec)).length) [] G7) := Hid.of (by rw [HEV.out]; exact r7)
          have R7F : Hid (∀ k, G7.all k → w6.heap.size ≤ k) := Hid.of (fun k hk => Nat.le_trans B6d.out.size (rf7 k hk))
          have B7 := Hid.of (B6d.out.trans (b7.mono B6d.out.size))
          have GR7 := Hid.of (GR6d.out.next b7)
          have CS7 := Hid.of (CSD.out.next b7)
          clear b7 r7 rf7
          clear hHeld d0
          have d0 := (CS7.out).head
          refine hK.out _ _ d0 (fun hHeld => ?_)
          clear hK K
          try simp only [Act.put, pA9, pB9, pC9]
          refine wpAnyH_ready (rs := [8]) (by kernel_rfl) (by simp) ?_
          refine AllReadyH.cons (o := ⟨_, _, _, _, _, _⟩) rfl (fun K hK => ?_) AllReadyH.nil
          go_simp
          obtain ⟨w8, hw8⟩ : ∃ w8, w7.alloc (.cells #[tptr q7] 192) = w8 := ⟨_, rfl⟩
          have b8 : Below w7.heap.size w7 w8 := by rw [← hw8]; exact (Below.refl _ _).alloc (Nat.le_refl _) _
          have K8 : Hid (Cells w8 w7.heap.size 0 [tptr q7]) := Hid.of (by rw [← hw8]; exact one_cell w7 _ _)
          have B8 := Hid.of (B7.out.trans (b8.mono B7.out.size))
          have R8 := Hid.of (TS.kept R7.out b8.size (fun k hk => b8.block k (TS.lt R7.out k hk)))
          have GR8 := Hid.of (GR7.out.next b8)
          have CS8 := Hid.of (CS7.out.next b8)
          rw [hw8]
          clear hw8 b8 R7 B7 GR7 CS7
          clear hHeld d0
          have d0 := (CS8.out).head
          refine hK.out _ _ d0 (fun hHeld => ?_)
          clear hK K
          try simp only [Act.put, pA9, pB9, pC9]
          refine wpAnyH_ready (rs := [9]) (by kernel_rfl) (by simp) ?_
          refine AllReadyH.cons (o := ⟨_, _, _, _, _, _⟩) rfl (fun K hK => ?_) AllReadyH.nil
          refine step_append_keep rfl (.tmp 51) (.tmp 55) 74 rfl 0 192 i0 _ 1 8 Tryz.underlying74 HI.out HZ0.out HZ1.out HZ2.out rfl (by decide) (.slice va j vc) j (qs.map tptr) (by simp [Act.eval]) (by have := GR8.out.is.hv; rwa [GR8.out.is.ql, List.length_replicate] at this) w7.heap.size 0 1 1 [tptr q7] (by simp [Act.eval]) K8.out rfl (by simp [Value.oneCell']) (by unfold maxLen; omega) (by omega) (Nat.zero_le _) ?_
          intro v9 w9 o9 g9 _ m9
          obtain ⟨a9, c9, hv9, _⟩ := own_one o9
          subst hv9
          have O9 := Hid.of o9
          have G9 := Hid.of g9
          have M9 := Hid.of m9
          have z9 : w9.heap[q]? = some (.cells #[.int .i64 now, .string pn, s2, f2, .slice va j vc] 76 (0, 0)) := (g9.block q GR8.out.is.lt_p (fun c => GR8.out.is.pp (.inr (.inr c.symm)))).trans GR8.out.is.cell
          have f9 : w9.frozen? ⟨q, 4, none⟩ = false := row_frozen z9
          have e9 : w9.cell? ⟨q, 4, none⟩ = some (.slice va j vc) := by rw [cell_of_row _ _ _ _ _ _ z9]; rfl
          have CS9 := Hid.of (CS8.out.grown g9 (fun x hx c => by simp only [List.mem_cons, List.not_mem_nil, or_false] at hx; subst hx; have h : y < y := HVY.out _ c.symm; omega))
          clear o9 g9 m9 z9
          clear hHeld d0
          have d0 := (CS9.out).head
          refine hK.out _ _ d0 (fun hHeld => ?_)
          clear hK K
          try simp only [Act.put, pA9, pB9, pC9]
          refine takeOp 10 (o := ⟨_, _, _, _, _, _⟩) (v := ?_) rfl (by kernel_rfl) (by rfl) hHeld ?_ ?_; rotate_left; (next => intro w' hSw; (try dsimp only at hSw); go_simp; all_goals with_reducible rfl); simp only [Act.put, pA9, pB9, pC9]
          refine takeOp 11 (o := ⟨_, _, _, _, _, _⟩) (v := ?_) rfl (by kernel_rfl) (by rfl) hHeld ?_ ?_; rotate_left; (next => intro w' hSw; (try dsimp only at hSw); go_simp; all_goals with_reducible rfl); simp only [Act.put, pA9, pB9, pC9]
          refine wpAnyH_ready (rs := [12]) (by kernel_rfl) (by simp) ?_
          refine AllReadyH.cons (o := ⟨_, _, _, _, _, _⟩) rfl (fun K hK => ?_) AllReadyH.nil
          go_simp
          clear f9 e9
          have GRZ := Hid.of (GR6.out.more B8.out R8.out R7F.out (v' := .slice a9 (j + 1) c9) (w2 := w9) (by rw [GR6.out.is.ql, List.length_replicate]; exact O9.out) G9.out M9.out)
          obtain ⟨wz, hwz⟩ : ∃ wz, w9.setCell ⟨q, 4, none⟩ (.slice a9 (j + 1) c9) = wz := ⟨_, rfl⟩
          rw [hwz] at GRZ ⊢
          have gz : w9.grownBy wz (some q) := by rw [← hwz]; exact grownBy_setCell w9 q 4 (.slice a9 (j + 1) c9)
          have CSZ := Hid.of (CS9.out.grown gz (fun x hx c => by simp only [List.mem_cons, List.not_mem_nil, or_false] at hx; subst hx; have h : y = q := Option.some.inj c; have := HQY.out; omega))
          clear hwz gz
          clear hHeld d0
          have d0 := (CSZ.out).head
          refine hK.out _ _ d0 (fun hHeld => ?_)
          clear hK K
          refine wpAnyH_done (by kernel_rfl) ?_ _
          refine NoPanic.normal ?_
          clear hHeld
          clear d0
          go_wp2
          go_roundg (N - (j + 1))
          case measure => have := HJ.out; omega
          case rel => exact ⟨j + 1, _, _, _, by go_num, HJ.out, Nat.le_refl _, Hid.of (by have := GRZ.out; rwa [← List.replicate_succ'] at this)⟩
        · go_simp
          refine (TS.new ev _ HE64.out).mono ?_
          rintro e w7 ⟨q7, G7, rfl, r7, rf7, b7⟩
          have R7 : Hid (TS.Rep w7 q7 (tEv (now, (pn, pt), fl) (List.replicate j ([] : List TRec)).length) [] G7) := Hid.of (by rw [HEV.out]; exact r7)
          have R7F : Hid (∀ k, G7.all k → w6.heap.size ≤ k) := Hid.of (fun k hk => Nat.le_trans B6d.out.size (rf7 k hk))
          have B7 := Hid.of (B6d.out.trans (b7.mono B6d.out.size))
          have GR7 := Hid.of (GR6d.out.next b7)
          have CS7 := Hid.of (CSD.out.next b7)
          clear b7 r7 rf7
          clear hHeld d0
          have d0 := (CS7.out).head
          refine hK.out _ _ d0 (fun hHeld => ?_)
          clear hK K
          try simp only [Act.put, pA9, pB9, pC9]
          refine wpAnyH_ready (rs := [4, 8]) (by kernel_rfl) (by simp) ?_
          refine AllReadyH.cons (o := ⟨_, _, _, _, _, _⟩) rfl (fun K hK => ?_) (AllReadyH.cons (o := ⟨_, _, _, _, _, _⟩) rfl (fun K hK => ?_) AllReadyH.nil)
          · have e4 : w7.cell? ⟨q, 4, none⟩ = some (.slice va j vc) := GR7.out.is.c.2.2.2.2
            go_simp
            clear e4
            clear hHeld d0
            have d0 := (CS7.out).head
            refine hK.out _ _ d0 (fun hHeld => ?_)
            clear hK K
            try simp only [Act.put, pA9, pB9, pC9]
            refine wpAnyH_ready (rs := [8]) (by kernel_rfl) (by simp) ?_
            refine AllReadyH.cons (o := ⟨_, _, _, _, _, _⟩) rfl (fun K hK => ?_) AllReadyH.nil
            go_simp
            obtain ⟨w8, hw8⟩ : ∃ w8, w7.alloc (.cells #[tptr q7] 192) = w8 := ⟨_, rfl⟩
            have b8 : Below w7.heap.size w7 w8 := by rw [← hw8]; exact (Below.refl _ _).alloc (Nat.le_refl _) _
            have K8 : Hid (Cells w8 w7.heap.size 0 [tptr q7]) := Hid.of (by rw [← hw8]; exact one_cell w7 _ _)
            have B8 := Hid.of (B7.out.trans (b8.mono B7.out.size))
            have R8 := Hid.of (TS.kept R7.out b8.size (fun k hk => b8.block k (TS.lt R7.out k hk)))
            have GR8 := Hid.of (GR7.out.next b8)
            have CS8 := Hid.of (CS7.out.next b8)
            rw [hw8]
            clear hw8 b8 R7 B7 GR7 CS7
            clear hHeld d0
            have d0 := (CS8.out).head
            refine hK.out _ _ d0 (fun hHeld => ?_)
            clear hK K
            try simp only [Act.put, pA9, pB9, pC9]
            refine wpAnyH_ready (rs := [9]) (by kernel_rfl) (by simp) ?_
            refine AllReadyH.cons (o := ⟨_, _, _, _, _, _⟩) rfl (fun K hK => ?_) AllReadyH.nil
            refine step_append_keep rfl (.tmp 51) (.tmp 55) 74 rfl 0 192 i0 _ 1 8 Tryz.underlying74 HI.out HZ0.out HZ1.out HZ2.out rfl (by decide) (.slice va j vc) j (qs.map tptr) (by simp [Act.eval]) (by have := GR8.out.is.hv; rwa [GR8.out.is.ql, List.length_replicate] at this) w7.heap.size 0 1 1 [tptr q7] (by simp [Act.eval]) K8.out rfl (by simp [Value.oneCell']) (by unfold maxLen; omega) (by omega) (Nat.zero_le _) ?_
            intro v9 w9 o9 g9 _ m9
            obtain ⟨a9, c9, hv9, _⟩ := own_one o9
            subst hv9
            have O9 := Hid.of o9
            have G9 := Hid.of g9
            have M9 := Hid.of m9
            have z9 : w9.heap[q]? = some (.cells #[.int .i64 now, .string pn, s2, f2, .slice va j vc] 76 (0, 0)) := (g9.block q GR8.out.is.lt_p (fun c => GR8.out.is.pp (.inr (.inr c.symm)))).trans GR8.out.is.cell
            have f9 : w9.frozen? ⟨q, 4, none⟩ = false := row_frozen z9
            have e9 : w9.cell? ⟨q, 4, none⟩ = some (.slice va j vc) := by rw [cell_of_row _ _ _ _ _ _ z9]; rfl
            have CS9 := Hid.of (CS8.out.grown g9 (fun x hx c => by simp only [List.mem_cons, List.not_mem_nil, or_false] at hx; subst hx; have h : y < y := HVY.out _ c.symm; omega))
            clear o9 g9 m9 z9
            clear hHeld d0
            have d0 := (CS9.out).head
            refine hK.out _ _ d0 (fun hHeld => ?_)
            clear hK K
            try simp only [Act.put, pA9, pB9, pC9]
            refine takeOp 10 (o := ⟨_, _, _, _, _, _⟩) (v := ?_) rfl (by kernel_rfl) (by rfl) hHeld ?_ ?_; rotate_left; (next => intro w' hSw; (try dsimp only at hSw); go_simp; all_goals with_reducible rfl); simp only [Act.put, pA9, pB9, pC9]
            refine takeOp 11 (o := ⟨_, _, _, _, _, _⟩) (v := ?_) rfl (by kernel_rfl) (by rfl) hHeld ?_ ?_; rotate_left; (next => intro w' hSw; (try dsimp only at hSw); go_simp; all_goals with_reducible rfl); simp only [Act.put, pA9, pB9, pC9]
            refine wpAnyH_ready (rs := [12]) (by kernel_rfl) (by simp) ?_
            refine AllReadyH.cons (o := ⟨_, _, _, _, _, _⟩) rfl (fun K hK => ?_) AllReadyH.nil
            go_simp
            clear f9 e9
            have GRZ := Hid.of (GR6.out.more B8.out R8.out R7F.out (v' := .slice a9 (j + 1) c9) (w2 := w9) (by rw [GR6.out.is.ql, List.length_replicate]; exact O9.out) G9.out M9.out)
            obtain ⟨wz, hwz⟩ : ∃ wz, w9.setCell ⟨q, 4, none⟩ (.slice a9 (j + 1) c9) = wz := ⟨_, rfl⟩
            rw [hwz] at GRZ ⊢
            have gz : w9.grownBy wz (some q) := by rw [← hwz]; exact grownBy_setCell w9 q 4 (.slice a9 (j + 1) c9)
            have CSZ := Hid.of (CS9.out.grown gz (fun x hx c => by simp only [List.mem_cons, List.not_mem_nil, or_false] at hx; subst hx; have h : y = q := Option.some.inj c; have := HQY.out; omega))
            clear hwz gz
            clear hHeld d0
            have d0 := (CSZ.out).head
            refine hK.out _ _ d0 (fun hHeld => ?_)
            clear hK K
            refine wpAnyH_done (by kernel_rfl) ?_ _
            refine NoPanic.normal ?_
            clear hHeld
            clear d0
            go_wp2
            go_roundg (N - (j + 1))
            case measure => have := HJ.out; omega
            case rel => exact ⟨j + 1, _, _, _, by go_num, HJ.out, Nat.le_refl _, Hid.of (by have := GRZ.out; rwa [← List.replicate_succ'] at this)⟩
          · go_simp
            obtain ⟨w8, hw8⟩ : ∃ w8, w7.alloc (.cells #[tptr q7] 192) = w8 := ⟨_, rfl⟩
            have b8 : Below w7.heap.size w7 w8 := by rw [← hw8]; exact (Below.refl _ _).alloc (Nat.le_refl _) _
            have K8 : Hid (Cells w8 w7.heap.size 0 [tptr q7]) := Hid.of (by rw [← hw8]; exact one_cell w7 _ _)
            have B8 := Hid.of (B7.out.trans (b8.mono B7.out.size))
            have R8 := Hid.of (TS.kept R7.out b8.size (fun k hk => b8.block k (TS.lt R7.out k hk)))
            have GR8 := Hid.of (GR7.out.next b8)
            have CS8 := Hid.of (CS7.out.next b8)
            rw [hw8]
            clear hw8 b8 R7 B7 GR7 CS7
            clear hHeld d0
            have d0 := (CS8.out).head
            refine hK.out _ _ d0 (fun hHeld => ?_)
            clear hK K
            try simp only [Act.put, pA9, pB9, pC9]
            refine wpAnyH_ready (rs := [4]) (by kernel_rfl) (by simp) ?_
            refine AllReadyH.cons (o := ⟨_, _, _, _, _, _⟩) rfl (fun K hK => ?_) AllReadyH.nil
            have e4 : w8.cell? ⟨q, 4, none⟩ = some (.slice va j vc) := GR8.out.is.c.2.2.2.2
            go_simp
            clear e4
            clear hHeld d0
            have d0 := (CS8.out).head
            refine hK.out _ _ d0 (fun hHeld => ?_)
            clear hK K
            try simp only [Act.put, pA9, pB9, pC9]
            refine wpAnyH_ready (rs := [9]) (by kernel_rfl) (by simp) ?_
            refine AllReadyH.cons (o := ⟨_, _, _, _, _, _⟩) rfl (fun K hK => ?_) AllReadyH.nil
            refine step_append_keep rfl (.tmp 51) (.tmp 55) 74 rfl 0 192 i0 _ 1 8 Tryz.underlying74 HI.out HZ0.out HZ1.out HZ2.out rfl (by decide) (.slice va j vc) j (qs.map tptr) (by simp [Act.eval]) (by have := GR8.out.is.hv; rwa [GR8.out.is.ql, List.length_replicate] at this) w7.heap.size 0 1 1 [tptr q7] (by simp [Act.eval]) K8.out rfl (by simp [Value.oneCell']) (by unfold maxLen; omega) (by omega) (Nat.zero_le _) ?_
            intro v9 w9 o9 g9 _ m9
            obtain ⟨a9, c9, hv9, _⟩ := own_one o9
            subst hv9
            have O9 := Hid.of o9
            have G9 := Hid.of g9
            have M9 := Hid.of m9
            have z9 : w9.heap[q]? = some (.cells #[.int .i64 now, .string pn, s2, f2, .slice va j vc] 76 (0, 0)) := (g9.block q GR8.out.is.lt_p (fun c => GR8.out.is.pp (.inr (.inr c.symm)))).trans GR8.out.is.cell
            have f9 : w9.frozen? ⟨q, 4, none⟩ = false := row_frozen z9
            have e9 : w9.cell? ⟨q, 4, none⟩ = some (.slice va j vc) := by rw [cell_of_row _ _ _ _ _ _ z9]; rfl
            have CS9 := Hid.of (CS8.out.grown g9 (fun x hx c => by simp only [List.mem_cons, List.not_mem_nil, or_false] at hx; subst hx; have h : y < y := HVY.out _ c.symm; omega))
            clear o9 g9 m9 z9
            clear hHeld d0
            have d0 := (CS9.out).head
            refine hK.out _ _ d0 (fun hHeld => ?_)
            clear hK K
            try simp only [Act.put, pA9, pB9, pC9]
            refine takeOp 10 (o := ⟨_, _, _, _, _, _⟩) (v := ?_) rfl (by kernel_rfl) (by rfl) hHeld ?_ ?_; rotate_left; (next => intro w' hSw; (try dsimp only at hSw); go_simp; all_goals with_reducible rfl); simp only [Act.put, pA9, pB9, pC9]
            refine takeOp 11 (o := ⟨_, _, _, _, _, _⟩) (v := ?_) rfl (by kernel_rfl) (by rfl) hHeld ?_ ?_; rotate_left; (next => intro w' hSw; (try dsimp only at hSw); go_simp; all_goals with_reducible rfl); simp only [Act.put, pA9, pB9, pC9]
            refine wpAnyH_ready (rs := [12]) (by kernel_rfl) (by simp) ?_
            refine AllReadyH.cons (o := ⟨_, _, _, _, _, _⟩) rfl (fun K hK => ?_) AllReadyH.nil
            go_simp
            clear f9 e9
            have GRZ := Hid.of (GR6.out.more B8.out R8.out R7F.out (v' := .slice a9 (j + 1) c9) (w2 := w9) (by rw [GR6.out.is.ql, List.length_replicate]; exact O9.out) G9.out M9.out)
            obtain ⟨wz, hwz⟩ : ∃ wz, w9.setCell ⟨q, 4, none⟩ (.slice a9 (j + 1) c9) = wz := ⟨_, rfl⟩
            rw [hwz] at GRZ ⊢
            have gz : w9.grownBy wz (some q) := by rw [← hwz]; exact grownBy_setCell w9 q 4 (.slice a9 (j + 1) c9)
            have CSZ := Hid.of (CS9.out.grown gz (fun x hx c => by simp only [List.mem_cons, List.not_mem_nil, or_false] at hx; subst hx; have h : y = q := Option.some.inj c; have := HQY.out; omega))
            clear hwz gz
            clear hHeld d0
            have d0 := (CSZ.out).head
            refine hK.out _ _ d0 (fun hHeld => ?_)
            clear hK K
            refine wpAnyH_done (by kernel_rfl) ?_ _
            refine NoPanic.normal ?_
            clear hHeld
            clear d0
            go_wp2
            go_roundg (N - (j + 1))
            case measure => have := HJ.out; omega
            case rel => exact ⟨j + 1, _, _, _, by go_num, HJ.out, Nat.le_refl _, Hid.of (by have := GRZ.out; rwa [← List.replicate_succ'] at this)⟩
      · obtain rfl : j = N := by omega
        have X : Hid (IRep TS wr q (now, (pn, pt), fl) (List.replicate j []) (iFoot q s2 f2 v Fs)) := Hid.of ⟨s2, f2, v, qs, Fs, GR.out.is, by have := GD.out; rwa [HN.out] at this, rfl⟩
        go_wp2
        go_ret2
        rw [HE0.out]
        exact ⟨fun _ => ⟨q, rfl, _, X.out, GR.out.ge⟩, fun c => absurd rfl c, GR.out.fr⟩

end Go.Proofs.YtbhcafginmkaaaaGreat

namespace Go.Proofs.YtbhcafginmkaaaaGreat
open Go.RowKit Go.Lib

/-- Copies of tables, and the list of them that is being made. -/
structure TbG (TS : TableSpec) (r : RchL) (T : List (List TRec)) (src : Nat → Int) (B D : Nat) (lv : Value) (qs : List Nat) (Gs : List TFoot) (w : World) : Prop where
  own : w.ownsRow D 192 1 lv qs.length (qs.map tptr)
  gl : Gs.length = qs.length
  rep : ∀ (j q : Nat) G, qs[j]? = some q → Gs[j]? = some G → TS.Rep w q (tEv r (src j).toNat) (T.getD (src j).toNat []) G
  ge : ∀ G ∈ Gs, ∀ k, G.all k → B ≤ k
  off : ∀ G ∈ Gs, ∀ g, lv.ownBlock = some g → ¬ G.all g

section
variable {TS : TableSpec} {r : RchL} {T : List (List TRec)} {src : Nat → Int} {B D : Nat} {lv : Value} {qs : List Nat} {Gs : List TFoot} {w w' : World}

theorem TbG.of_mem (h : TbG TS r T src B D lv qs Gs w) {G : TFoot} (hG : G ∈ Gs) : ∃ j q, Gs[j]? = some G ∧ qs[j]? = some q ∧ TS.Rep w q (tEv r (src j).toNat) (T.getD (src j).toNat []) G := by
  obtain ⟨j, hj⟩ := List.getElem?_of_mem hG
  have hl := (List.getElem?_eq_some_iff.1 hj).1
  obtain ⟨q, hq⟩ : ∃ q, qs[j]? = some q := ⟨_, List.getElem?_eq_getElem (by rw [← h.gl]; exact hl)⟩
  exact ⟨j, q, hj, hq, h.rep j q G hq hj⟩

theorem TbG.lt (h : TbG TS r T src B D lv qs Gs w) {G : TFoot} (hG : G ∈ Gs) {k : Nat} (hk : G.all k) : k < w.heap.size := by
  obtain ⟨j, q, _, _, hr⟩ := h.of_mem hG
  exact TS.lt hr k hk

/-- As they were where their blocks are as they were. -/
theorem TbG.at (h : TbG TS r T src B D lv qs Gs w) (hs : w.heap.size ≤ w'.heap.size) (k : ∀ G ∈ Gs, ∀ i, G.all i → w'.heap[i]? = w.heap[i]?) (kl : ∀ g, lv.ownBlock = some g → w'.heap[g]? = w.heap[g]?) : TbG TS r T src B D lv qs Gs w' :=
  ⟨iown_at h.own kl, h.gl, fun j q G hq hG => TS.kept (h.rep j q G hq hG) hs (fun i hi => k G (List.mem_of_getElem? hG) i hi), h.ge, h.off⟩

theorem TbG.next (h : TbG TS r T src B D lv qs Gs w) (b : Below w.heap.size w w') : TbG TS r T src B D lv qs Gs w' :=
  h.at b.size (fun _ hG i hi => b.block i (h.lt hG hi)) (fun g hg => b.block g (iown_lt h.own hg))

/-- One table more. -/
theorem TbG.more (h : TbG TS r T src B D lv qs Gs w) {w2 : World} {q : Nat} {G : TFoot} {v' : Value} (hB : B ≤ w.heap.size) (b : Below w.heap.size w w') (hr : TS.Rep w' q (tEv r (src qs.length).toNat) (T.getD (src qs.length).toNat []) G) (hg : ∀ k, G.all k → w.heap.size ≤ k)
    (o : w2.ownsRow D 192 1 v' (qs.length + 1) (qs.map tptr ++ [tptr q])) (g : w'.grownBy w2 lv.ownBlock) (m : v'.ownBlock = lv.ownBlock ∨ ∃ g, v'.ownBlock = some g ∧ w'.heap.size ≤ g) : TbG TS r T src B D v' (qs ++ [q]) (Gs ++ [G]) w2 := by
  have h' := h.next b
  have hoff : ∀ k, G.all k → some k ≠ lv.ownBlock := fun k hk c => by
    have h1 := iown_lt h.own c.symm
    have h2 := hg k hk
    omega
  refine ⟨by rw [List.length_append, List.map_append]; exact o, by rw [List.length_append, List.length_append, h.gl]; rfl, ?_, ?_, ?_⟩
  · intro j q2 G2 hq hG
    by_cases c : j < qs.length
    · rw [List.getElem?_append_left c] at hq
      rw [List.getElem?_append_left (by rw [h.gl]; exact c)] at hG
      have hm := List.mem_of_getElem? hG
      exact TS.kept (h'.rep j q2 G2 hq hG) g.size (fun i hi => g.block i (h'.lt hm hi) (fun e => h.off G2 hm i e.symm hi))
    · have hj := (List.getElem?_eq_some_iff.1 hq).1
      rw [List.length_append, List.length_singleton] at hj
      obtain rfl : j = qs.length := by omega
      rw [List.getElem?_append_right (Nat.le_refl _), Nat.sub_self] at hq
      rw [List.getElem?_append_right (by rw [h.gl]; exact Nat.le_refl _), h.gl, Nat.sub_self] at hG
      cases hq
      cases hG
      exact TS.kept hr g.size (fun i hi => g.block i (TS.lt hr i hi) (hoff i hi))
  · intro G2 hG2 k hk
    rcases List.mem_append.1 hG2 with c | c
    · exact h.ge G2 c k hk
    · rw [List.mem_singleton.1 c] at hk
      exact Nat.le_trans hB (hg k hk)
  · intro G2 hG2 k hk hka
    rcases m with e | ⟨k2, e, hk2⟩
    · rw [e] at hk
      rcases List.mem_append.1 hG2 with c | c
      · exact h.off G2 c k hk hka
      · rw [List.mem_singleton.1 c] at hka
        exact hoff k hka hk.symm
    · rw [e] at hk
      cases hk
      rcases List.mem_append.1 hG2 with c | c
      · have := h'.lt c hka
        omega
      · rw [List.mem_singleton.1 c] at hka
        have := TS.lt hr _ hka
        omega
end

theorem mSrc_get {p : PlanL} {j : Nat} {x : Int} (h : p.2[j]? = some x) : mSrc p j = x := by
  unfold mSrc
  rw [h]

/-- What tables answers. -/
def TabSays (TS : TableSpec) (pl : PlanL) (r : RchL) (T : List (List TRec)) (w : World) (x : Ending) (w' : World) : Prop :=
  ∃ (u : Value) (b : Bool), x = .returned (.tuple #[u, .bool b]) ∧ Below w.heap.size w w' ∧ Hid (b = true ↔ MFits pl r T.length) ∧ (b = true → ∃ qs Gs, qs.length = pl.1.2.length ∧ TbG TS r T (mSrc pl) w.heap.size w.heap.size u qs Gs w')
theorem TabSays.mk {TS : TableSpec} {pl : PlanL} {r : RchL} {T : List (List TRec)} {w w' : World} {x : Ending} (u : Value) (b : Bool) (h1 : x = .returned (.tuple #[u, .bool b])) (h2 : Below w.heap.size w w') (h3 : Hid (b = true ↔ MFits pl r T.length)) (h4 : b = true → ∃ qs Gs, qs.length = pl.1.2.length ∧ TbG TS r T (mSrc pl) w.heap.size w.heap.size u qs Gs w') : TabSays TS pl r T w x w' := ⟨u, b, h1, h2, h3, h4⟩

set_option maxRecDepth 20000 in
set_option maxHeartbeats 6400000 in
theorem tables_any {TS : TableSpec} (S : TiersSpec TS) (v : Value) (pl : PlanL) {w : World} {p : Nat} {r : RchL} {T : List (List TRec)} {F : TFoot} (hS : S.Ok w) (hv : PlanRow w v pl) (fm : MFit pl) (h : S.Rep w p r T F) (hl : ∀ l ∈ T, l.length ≤ 1000) :
    Calls Tryz.prog 147 #[v, tptr p] w fun x w' => TabSays TS pl r T w x w' := by
  have HS := Hid.of hS
  have HV := Hid.of hv
  have FM := Hid.of fm
  have HR := Hid.of h
  have HL := Hid.of hl
  obtain ⟨s, f, rfl, hs, hf, -, -⟩ := hv
  have HSL := Hid.of hs
  have HF := Hid.of hf
  obtain ⟨sa, sc, rfl, -⟩ := hs
  obtain ⟨fa, fc, rfl, -⟩ := hf
  unfold plVal at HV ⊢
  obtain ⟨n, hn⟩ : ∃ n, pl.1.1 = n := ⟨_, rfl⟩
  obtain ⟨N, hN⟩ : ∃ N, pl.1.2.length = N := ⟨_, rfl⟩
  obtain ⟨M, hM⟩ : ∃ M, pl.2.length = M := ⟨_, rfl⟩
  rw [hn, hN, hM] at HV
  rw [hN] at HSL
  rw [hM] at HF
  rw [hn, hN, hM]
  obtain ⟨B, hB⟩ : ∃ B, w.heap.size = B := ⟨_, rfl⟩
  obtain ⟨w1, hw1⟩ : ∃ w1, w.alloc (.cells #[.string n, .slice sa N sc, .slice fa M fc] 49) = w1 := ⟨_, rfl⟩
  have b1 : Below w.heap.size w w1 := by rw [← hw1]; exact (Below.refl _ _).alloc (Nat.le_refl _) _
  have z1 : w1.heap.size = B + 1 := by rw [← hw1, ← hB]; simp
  have k1 : w1.heap[B]? = some (.cells #[.string n, .slice sa N sc, .slice fa M fc] 49 (0, 0)) := by rw [← hw1, ← hB]; exact (MapKept.heap_alloc w _).1
  have CS1 : Hid (Dc w1 [(⟨B, 0, none⟩, .string n), (⟨B, 1, none⟩, .slice sa N sc), (⟨B, 2, none⟩, .slice fa M fc)]) := Hid.of (Dc.app (Dc.one k1 (i := 0) rfl) (Dc.app (Dc.one k1 (i := 1) rfl) (Dc.one k1 (i := 2) rfl)))
  have PR : Hid (PolRow w (.agg #[.string n, .slice sa N sc]) pl.1) := Hid.of (by
    obtain ⟨s', f', he, hs', -, hc', -⟩ := HV.out
    unfold plVal at he
    simp only [Value.agg.injEq, Array.mk.injEq, List.cons.injEq, and_true] at he
    refine ⟨_, by rw [← hn], ?_, ?_⟩
    · rw [he.2.1]; exact hs'
    · rw [he.2.1]; exact hc')
  have B1 := Hid.of b1
  have Z1 := Hid.of z1
  have HW := Hid.of hw1
  have HBB := Hid.of hB
  have NN := Hid.of hN
  have NM := Hid.of hM
  clear hw1 b1 z1 k1 hB hN hM hS fm h hl hn
  obtain ⟨i0, hi0, hz0, hz1, hz2⟩ := info_parts ptab_info
  have HI := Hid.of hi0
  have HZ0 := Hid.of hz0
  have HZ1 := Hid.of hz1
  have HZ2 := Hid.of hz2
  clear hi0 hz0 hz1 hz2
  have n9 : (N : Int) ≤ 1000000 := by have := FM.out.1.1; rw [NN.out] at this; omega
  have m9 : (M : Int) ≤ 1000000 := by have := FM.out.2.1; rw [NM.out] at this; omega
  obtain ⟨c0, c1⟩ : w1.cell? ⟨B, 0, none⟩ = some (.string n) ∧ w1.cell? ⟨B, 1, none⟩ = some (.slice sa N sc) := ⟨CS1.out.head, CS1.out.tail.head⟩
  go_enter Tryz.func147, Tryz.ntmps147
  go_upto_region 1 with fail
  rw [HW.out, HBB.out]
  clear HW
  go_wp2_with fail
  refine (check_any _ pl.1 _ FM.out.1 (PR.out.kept B1.out)).mono ?_
  rintro e w2 ⟨rfl, b2⟩
  have B2 := Hid.of (B1.out.trans (b2.mono B1.out.size))
  have CS2 := Hid.of (CS1.out.next b2)
  have S2 : Hid (w1.heap.size ≤ w2.heap.size) := Hid.of b2.size
  clear b2 c0 c1 CS1
  obtain ⟨ce, cn, hce⟩ : ∃ ce cn, pCheck pl.1 = (ce, cn) := ⟨_, _, rfl⟩
  have HCE := Hid.of hce
  rw [hce]
  simp only
  clear hce
  obtain ⟨c0, c1⟩ : w2.cell? ⟨B, 1, none⟩ = some (.slice sa N sc) ∧ w2.cell? ⟨B, 2, none⟩ = some (.slice fa M fc) := ⟨CS2.out.tail.head, CS2.out.tail.tail.head⟩
  by_cases hbad : ce ≠ 0 ∨ M ≠ N
  · have NF : Hid (false = true ↔ MFits pl r T.length) := Hid.of (by
      simp only [Bool.false_eq_true, false_iff]
      rintro ⟨h1, h2, -⟩
      rw [HCE.out] at h1
      rw [NM.out, NN.out] at h2
      rcases hbad with c | c
      · exact c h1
      · exact c h2)
    have hb2 : ce ≠ 0 ∨ (ce = 0 ∧ ¬ (M : Int) = (N : Int)) := by
      by_cases c : ce = 0
      · right
        refine ⟨c, ?_⟩
        rcases hbad with d | d
        · exact absurd c d
        · omega
      · exact .inl c
    clear hbad
    rcases hb2 with c | ⟨rfl, c⟩
    · have c3 : (ce == 0) = false := beq_eq_false_iff_ne.2 c
      go_wp2
      go_ret2
      exact TabSays.mk _ false rfl B2.out NF (fun x => absurd x (by decide))
    · have c3 : ((M : Int) == (N : Int)) = false := beq_eq_false_iff_ne.2 c
      go_wp2
      go_ret2
      exact TabSays.mk _ false rfl B2.out NF (fun x => absurd x (by decide))
  · obtain rfl : ce = 0 := by
      by_cases c : ce = 0
      · exact c
      · exact absurd (.inl c) hbad
    obtain rfl : M = N := by
      by_cases c : M = N
      · exact c
      · exact absurd (.inr c) hbad
    clear hbad
    go_upto_region 6 with fail
    clear c0 c1
    go_loopg [8, 33] M (fun kx lv iv wr => ∃ (j : Nat) (v : Value) (qs : List Nat) (Gs : List TFoot), iv = .int .i64 j ∧ v = lv ∧ j ≤ M ∧ M - j ≤ kx ∧ qs.length = j ∧ Hid (TbG TS r T (mSrc pl) w.heap.size w1.heap.size v qs Gs wr) ∧ Hid (Dc wr [(⟨B, 0, none⟩, .string n), (⟨B, 1, none⟩, .slice sa M sc), (⟨B, 2, none⟩, .slice fa M fc)]) ∧ Hid (Below w.heap.size w wr) ∧ Hid (w1.heap.size ≤ wr.heap.size) ∧ Hid (∀ (i : Nat) (x : TierL), i < j → pl.1.2[i]? = some x → 0 ≤ mSrc pl i ∧ (mSrc pl i).toNat < T.length ∧ gOn x.2.1 (tEv r (mSrc pl i).toNat) = true))
    case atStart => exact ⟨0, _, [], [], rfl, rfl, Nat.zero_le _, Nat.le_refl _, rfl, Hid.of ⟨World.ownsRow_nil _ _ _ _, rfl, fun j q G hq => by (rw [List.getElem?_nil] at hq; cases hq), fun G hG => absurd hG List.not_mem_nil, fun G hG => absurd hG List.not_mem_nil⟩, CS2, B2, S2, Hid.of (fun i x hi => absurd hi (Nat.not_lt_zero _))⟩
    case round =>
      clear CS2 B2 S2
      obtain ⟨j, lv, qs, Gs, rfl, rfl, hj, hk, hql, G, CS, HB, HSZ, OKS⟩ := hrel
      have j0 : (0 : Int) ≤ (j : Int) := Int.natCast_nonneg _
      by_cases hlt : (j : Int) < (M : Int)
      · obtain ⟨t, ht⟩ : ∃ t, pl.1.2[j]? = some t := ⟨_, List.getElem?_eq_getElem (by have := NN.out; omega)⟩
        obtain ⟨sx, hsx⟩ : ∃ sx, pl.2[j]? = some sx := ⟨_, List.getElem?_eq_getElem (by have := NM.out; omega)⟩
        obtain ⟨fb, fo, hfa, -, hfx⟩ := int_at (HF.out.kept HB.out) j (by rw [NM.out]; omega) NM.out.symm
        subst hfa
        have hgd : pl.2.getD j 0 = sx := by rw [List.getD_eq_getElem?_getD, hsx]; rfl
        rw [hgd] at hfx
        have HSX := Hid.of (mSrc_get hsx)
        have SXI : Hid (In64 sx) := Hid.of (FM.out.2.2 sx (List.mem_of_getElem? hsx))
        have HTT := Hid.of ht
        have HJ : Hid (j < M) := Hid.of (by omega)
        have HQL := Hid.of hql
        have htb := S.table sx (S.okKept HS.out HB.out) (S.kept HR.out HB.out.size (fun k hk => HB.out.block k (S.lt HR.out k hk))) HL.out SXI.out
        clear ht hsx hgd
        go_wp2_with fail
        refine htb.mono ?_
        rintro e w3 ⟨h1, h2, b3⟩
        by_cases hin : 0 ≤ sx ∧ sx.toNat < T.length
        case neg =>
          obtain rfl := h2 hin
          have NF : Hid (false = true ↔ MFits pl r T.length) := Hid.of (by
            simp only [Bool.false_eq_true, false_iff]
            rintro ⟨-, -, h3⟩
            have := h3 j t HTT.out
            rw [HSX.out] at this
            exact hin ⟨this.1, this.2.1⟩)
          have B3 := Hid.of (HB.out.trans (b3.mono HB.out.size))
          have CS3 := Hid.of (CS.out.next b3)
          clear h1 h2 b3 hin htb hfx CS HB G
          go_upto_region 9 with fail
          have D3 : Hid (Dc w3 [(⟨B, 1, none⟩, .slice sa M sc)]) := Hid.of (.cons CS3.out.tail.lt CS3.out.tail.head (Dc.nil _))
          have bd := (Below.refl w3.heap.size w3).drew
          have B4 := Hid.of (B3.out.trans (bd.mono B3.out.size))
          clear bd
          have d0 := (D3.out).head
          refine wp_region_noPanic ?_
          refine wp_region_held_drew (S := fun w' => w'.cell? ⟨B, 1, none⟩ = some (.slice sa M sc)) (by kernel_rfl) ?_ (fun hHeld => ?_)
          · exact d0
          refine takeOp 0 (o := ⟨_, _, _, _, _, _⟩) (v := ?_) rfl (by kernel_rfl) (by rfl) hHeld ?_ ?_; rotate_left; (next => intro w' hSw; (try dsimp only at hSw); go_simp; all_goals with_reducible rfl); simp only [Act.put, pA9, pB9, pC9]
          refine takeOp 1 (o := ⟨_, _, _, _, _, _⟩) (v := ?_) rfl (by kernel_rfl) (by rfl) hHeld ?_ ?_; rotate_left; (next => intro w' hSw; (try dsimp only at hSw); go_simp; all_goals with_reducible rfl); simp only [Act.put, pA9, pB9, pC9]
          refine takeOp 2 (o := ⟨_, _, _, _, _, _⟩) (v := ?_) rfl (by kernel_rfl) (by rfl) hHeld ?_ ?_; rotate_left; (next => intro w' hSw; (try dsimp only at hSw); go_simp; all_goals with_reducible rfl); simp only [Act.put, pA9, pB9, pC9]
          refine skipOp 3 (o := ⟨_, _, _, _, _, _⟩) rfl (by kernel_rfl) (by rfl) hHeld ?_
          simp only [Act.put, pA9, pB9, pC9]
          refine skipOp 4 (o := ⟨_, _, _, _, _, _⟩) rfl (by kernel_rfl) (by rfl) hHeld ?_
          simp only [Act.put, pA9, pB9, pC9]
          refine skipOp 5 (o := ⟨_, _, _, _, _, _⟩) rfl (by kernel_rfl) (by rfl) hHeld ?_
          simp only [Act.put, pA9, pB9, pC9]
          refine skipOp 6 (o := ⟨_, _, _, _, _, _⟩) rfl (by kernel_rfl) (by rfl) hHeld ?_
          simp only [Act.put, pA9, pB9, pC9]
          refine skipOp 7 (o := ⟨_, _, _, _, _, _⟩) rfl (by kernel_rfl) (by rfl) hHeld ?_
          simp only [Act.put, pA9, pB9, pC9]
          refine skipOp 8 (o := ⟨_, _, _, _, _, _⟩) rfl (by kernel_rfl) (by rfl) hHeld ?_
          simp only [Act.put, pA9, pB9, pC9]
          refine skipOp 9 (o := ⟨_, _, _, _, _, _⟩) rfl (by kernel_rfl) (by rfl) hHeld ?_
          simp only [Act.put, pA9, pB9, pC9]
          refine skipOp 10 (o := ⟨_, _, _, _, _, _⟩) rfl (by kernel_rfl) (by rfl) hHeld ?_
          simp only [Act.put, pA9, pB9, pC9]
          refine skipOp 11 (o := ⟨_, _, _, _, _, _⟩) rfl (by kernel_rfl) (by rfl) hHeld ?_
          simp only [Act.put, pA9, pB9, pC9]
          refine skipOp 12 (o := ⟨_, _, _, _, _, _⟩) rfl (by kernel_rfl) (by rfl) hHeld ?_
          simp only [Act.put, pA9, pB9, pC9]
          refine skipOp 13 (o := ⟨_, _, _, _, _, _⟩) rfl (by kernel_rfl) (by rfl) hHeld ?_
          simp only [Act.put, pA9, pB9, pC9]
          refine takeOp 14 (o := ⟨_, _, _, _, _, _⟩) (v := ?_) rfl (by kernel_rfl) (by rfl) hHeld ?_ ?_; rotate_left; (next => intro w' hSw; (try dsimp only at hSw); go_simp; all_goals with_reducible rfl); simp only [Act.put, pA9, pB9, pC9]
          refine wpAnyH_done (by kernel_rfl) ?_ _
          refine NoPanic.normal ?_
          clear hHeld d0
          go_wp2
          go_ret2
          exact TabSays.mk _ false rfl B4.out NF (fun x => absurd x (by decide))
        obtain ⟨q, G3, rfl, rep3, ga⟩ := h1 hin
        have HIN := Hid.of hin
        have B3 := Hid.of (HB.out.trans (b3.mono HB.out.size))
        have CS3 := Hid.of (CS.out.next b3)
        have R3 := Hid.of rep3
        have GA := Hid.of ga
        have BW := Hid.of b3
        clear h1 h2 b3 hin htb hfx CS rep3 ga
        obtain ⟨tb, to_, hta, htl, -, d1, -, -⟩ := p_at (HSL.out.kept B3.out) j t HTT.out
        subst hta
        obtain ⟨t0, ev, t2, sh⟩ := t
        simp only at d1
        have D3 : Hid (Dc w3 [(⟨B, 1, none⟩, .slice (some ⟨tb, to_, none⟩) M sc), (⟨tb, to_ + j * 4 + 1, none⟩, .int .i64 ev)]) := Hid.of (.cons CS3.out.tail.lt CS3.out.tail.head (.cons htl d1 (Dc.nil _)))
        obtain ⟨dv, hdv⟩ : ∃ dv, gOn ev (tEv r sx.toNat) = dv := ⟨_, rfl⟩
        have HDV := Hid.of hdv
        clear hdv d1 htl
        go_upto_region 9 with fail
        have bd := (Below.refl w3.heap.size w3).drew
        have B3d := Hid.of (B3.out.trans (bd.mono B3.out.size))
        have BWd := Hid.of (BW.out.trans (bd.mono BW.out.size))
        have Dd := Hid.of (D3.out.next bd)
        have CSd := Hid.of (CS3.out.next bd)
        have R3d := Hid.of (TS.kept R3.out bd.size (fun k hk => bd.block k (TS.lt R3.out k hk)))
        clear bd
        have d0 := (D3.out).head
        have d1 := ((D3.out).tail).head
        refine wp_region_noPanic ?_
        refine wp_region_held_drew (S := fun w' => w'.cell? ⟨B, 1, none⟩ = some (.slice (some ⟨tb, to_, none⟩) M sc) ∧ w'.cell? ⟨tb, to_ + j * 4 + 1, none⟩ = some (.int .i64 ev)) (by kernel_rfl) ?_ (fun hHeld => ?_)
        · exact ⟨d0, d1⟩
        refine takeOp 0 (o := ⟨_, _, _, _, _, _⟩) (v := ?_) rfl (by kernel_rfl) (by rfl) hHeld ?_ ?_; rotate_left; (next => intro w' hSw; (try dsimp only at hSw); go_simp; all_goals with_reducible rfl); simp only [Act.put, pA9, pB9, pC9]
        refine takeOp 1 (o := ⟨_, _, _, _, _, _⟩) (v := ?_) rfl (by kernel_rfl) (by rfl) hHeld ?_ ?_; rotate_left; (next => intro w' hSw; (try dsimp only at hSw); go_simp; all_goals with_reducible rfl); simp only [Act.put, pA9, pB9, pC9]
        refine takeOp 2 (o := ⟨_, _, _, _, _, _⟩) (v := ?_) rfl (by kernel_rfl) (by rfl) hHeld ?_ ?_; rotate_left; (next => intro w' hSw; (try dsimp only at hSw); go_simp; all_goals with_reducible rfl); simp only [Act.put, pA9, pB9, pC9]
        refine takeOp 3 (o := ⟨_, _, _, _, _, _⟩) (v := ?_) rfl (by kernel_rfl) (by rfl) hHeld ?_ ?_; rotate_left; (next => intro w' hSw; (try dsimp only at hSw); go_simp; all_goals with_reducible rfl); simp only [Act.put, pA9, pB9, pC9]
        refine takeOp 5 (o := ⟨_, _, _, _, _, _⟩) (v := ?_) rfl (by kernel_rfl) (by rfl) hHeld ?_ ?_; rotate_left; (next => intro w' hSw; (try dsimp only at hSw); go_simp; all_goals with_reducible rfl); simp only [Act.put, pA9, pB9, pC9]
        refine takeOp 6 (o := ⟨_, _, _, _, _, _⟩) (v := ?_) rfl (by kernel_rfl) (by rfl) hHeld ?_ ?_; rotate_left; (next => intro w' hSw; (try dsimp only at hSw); go_simp; all_goals with_reducible rfl); simp only [Act.put, pA9, pB9, pC9]
        refine takeOp 7 (o := ⟨_, _, _, _, _, _⟩) (v := ?_) rfl (by kernel_rfl) (by rfl) hHeld ?_ ?_; rotate_left; (next => intro w' hSw; (try dsimp only at hSw); go_simp; all_goals with_reducible rfl); simp only [Act.put, pA9, pB9, pC9]
        refine takeOp 8 (o := ⟨_, _, _, _, _, _⟩) (v := ?_) rfl (by kernel_rfl) (by rfl) hHeld ?_ ?_; rotate_left; (next => intro w' hSw; (try dsimp only at hSw); go_simp; all_goals with_reducible rfl); simp only [Act.put, pA9, pB9, pC9]
        refine takeOp 9 (o := ⟨_, _, _, _, _, _⟩) (v := ?_) rfl (by kernel_rfl) (by rfl) hHeld ?_ ?_; rotate_left; (next => intro w' hSw; (try dsimp only at hSw); go_simp; all_goals with_reducible rfl); simp only [Act.put, pA9, pB9, pC9]
        refine takeOp 10 (o := ⟨_, _, _, _, _, _⟩) (v := ?_) rfl (by kernel_rfl) (by rfl) hHeld ?_ ?_; rotate_left; (next => intro w' hSw; (try dsimp only at hSw); go_simp; all_goals with_reducible rfl); simp only [Act.put, pA9, pB9, pC9]
        refine takeOp 11 (o := ⟨_, _, _, _, _, _⟩) (v := ?_) rfl (by kernel_rfl) (by rfl) hHeld ?_ ?_; rotate_left; (next => intro w' hSw; (try dsimp only at hSw); go_simp; all_goals with_reducible rfl); simp only [Act.put, pA9, pB9, pC9]
        refine wpAnyH_ready (rs := [4]) (by kernel_rfl) (by simp) ?_
        refine AllReadyH.cons (o := ⟨_, _, _, _, _, _⟩) rfl (fun K hK => ?_) AllReadyH.nil
        go_simp
        refine (TS.every R3d.out).mono ?_
        rintro e w4 ⟨rfl, b4⟩
        have B4a := Hid.of (B3d.out.trans (b4.mono B3d.out.size))
        have BW4 := Hid.of (BWd.out.trans (b4.mono BWd.out.size))
        have D4 := Hid.of (Dd.out.next b4)
        have CS4 := Hid.of (CSd.out.next b4)
        have R4 := Hid.of (TS.kept R3d.out b4.size (fun k hk => b4.block k (TS.lt R3d.out k hk)))
        clear b4 B3d BWd Dd R3d CSd B3 BW D3 R3 CS3
        clear hHeld d0 d1
        have d0 := (D4.out).head
        have d1 := ((D4.out).tail).head
        refine hK.out _ _ ⟨d0, d1⟩ (fun hHeld => ?_)
        clear hK K
        try simp only [Act.put, pA9, pB9, pC9]
        refine wpAnyH_ready (rs := [12]) (by kernel_rfl) (by simp) ?_
        refine AllReadyH.cons (o := ⟨_, _, _, _, _, _⟩) rfl (fun K hK => ?_) AllReadyH.nil
        go_simp
        refine (divides_named2 HDV.out _).mono ?_
        rintro e wq ⟨rfl, b5⟩
        have B4 := Hid.of (B4a.out.trans (b5.mono B4a.out.size))
        have BQ := Hid.of (BW4.out.trans (b5.mono BW4.out.size))
        have DQ := Hid.of (D4.out.next b5)
        have CQ := Hid.of (CS4.out.next b5)
        have RQ := Hid.of (TS.kept R4.out b5.size (fun k hk => b5.block k (TS.lt R4.out k hk)))
        have SQZ : Hid (w1.heap.size ≤ wq.heap.size) := Hid.of (Nat.le_trans HSZ.out BQ.out.size)
        clear b5 B4a BW4 D4 R4 CS4
        clear hHeld d0 d1
        have d0 := (DQ.out).head
        have d1 := ((DQ.out).tail).head
        refine hK.out _ _ ⟨d0, d1⟩ (fun hHeld => ?_)
        clear hK K
        try simp only [Act.put, pA9, pB9, pC9]
        refine takeOp 13 (o := ⟨_, _, _, _, _, _⟩) (v := ?_) rfl (by kernel_rfl) (by rfl) hHeld ?_ ?_; rotate_left; (next => intro w' hSw; (try dsimp only at hSw); go_simp; all_goals with_reducible rfl); simp only [Act.put, pA9, pB9, pC9]
        refine takeOp 14 (o := ⟨_, _, _, _, _, _⟩) (v := ?_) rfl (by kernel_rfl) (by rfl) hHeld ?_ ?_; rotate_left; (next => intro w' hSw; (try dsimp only at hSw); go_simp; all_goals with_reducible rfl); simp only [Act.put, pA9, pB9, pC9]
        refine wpAnyH_done (by kernel_rfl) ?_ _
        refine NoPanic.normal ?_
        clear hHeld d0 d1
        cases dv with
        | false =>
          have NF : Hid (false = true ↔ MFits pl r T.length) := Hid.of (by
            simp only [Bool.false_eq_true, false_iff]
            rintro ⟨-, -, h3⟩
            have := (h3 j _ HTT.out).2.2
            rw [HSX.out] at this
            exact absurd (HDV.out.symm.trans this) (by decide))
          go_wp2
          go_ret2
          exact TabSays.mk _ false rfl B4.out NF (fun x => absurd x (by decide))
        | true =>
          have OK2 : Hid (∀ (i : Nat) (x : TierL), i < j + 1 → pl.1.2[i]? = some x → 0 ≤ mSrc pl i ∧ (mSrc pl i).toNat < T.length ∧ gOn x.2.1 (tEv r (mSrc pl i).toNat) = true) := Hid.of (fun i x hi hx => by
            by_cases c : i < j
            · exact OKS.out i x c hx
            · obtain rfl : i = j := by omega
              rw [HTT.out] at hx
              cases hx
              rw [HSX.out]
              exact ⟨HIN.out.1, HIN.out.2, HDV.out⟩)
          have GOW : Hid (wq.ownsRow w1.heap.size 192 1 lv j (qs.map tptr)) := Hid.of (by have := (G.out.next BQ.out).own; rwa [HQL.out] at this)
          go_wp2_with (at_builtin; refine append_keep_law rfl (.tmp 56) (.tmp 58) 74 rfl w1.heap.size 192 i0 _ 1 8 Tryz.underlying74 HI.out HZ0.out HZ1.out HZ2.out rfl (by decide) lv j _ rfl (GOW.out.alloc _) wq.heap.size 0 1 1 [tptr q] rfl (one_cell wq _ _) rfl (by simp [Value.oneCell']) (by unfold maxLen; omega) (by omega) (by simp; have := SQZ.out; omega) ?_; intro v1 w5 o1 g1 _ m1; have O1 := Hid.of o1; have G1 := Hid.of g1; have MM := Hid.of m1; clear o1 g1 m1)
          have BA := Hid.of ((Below.refl wq.heap.size wq).alloc (Nat.le_refl _) (.cells #[tptr q] 192))
          have GN : Hid (TbG TS r T (mSrc pl) w.heap.size w1.heap.size v1 (qs ++ [q]) (Gs ++ [G3]) w5) := Hid.of (G.out.more HB.out.size (BQ.out.trans (BA.out.mono BQ.out.size)) (by
              rw [HQL.out, HSX.out]
              exact TS.kept RQ.out BA.out.size (fun k hk => BA.out.block k (TS.lt RQ.out k hk))) GA.out (by rw [HQL.out]; exact O1.out) G1.out MM.out)
          have BN : Hid (Below w.heap.size w w5) := Hid.of ((B4.out.trans (BA.out.mono B4.out.size)).grown G1.out (Nat.le_trans B4.out.size BA.out.size) (fun k hk => by have := (GOW.out.lt k hk).1; have := Z1.out; have := HBB.out; omega))
          have CN : Hid (Dc w5 [(⟨B, 0, none⟩, .string n), (⟨B, 1, none⟩, .slice (some ⟨tb, to_, none⟩) M sc), (⟨B, 2, none⟩, .slice (some ⟨fb, fo, none⟩) M fc)]) := Hid.of (((CQ.out.next BA.out).grown G1.out (fun x hx c => by
            have h1 := (GOW.out.lt _ c.symm).1
            have h2 := Z1.out
            simp only [List.mem_cons, List.not_mem_nil, or_false] at hx
            rcases hx with rfl | rfl | rfl <;> (simp only at h1; omega))))
          have SN : Hid (w1.heap.size ≤ w5.heap.size) := Hid.of (Nat.le_trans SQZ.out (Nat.le_trans BA.out.size G1.out.size))
          go_wp2
          go_roundg (M - (j + 1))
          case measure => have := HJ.out; omega
          case rel => exact ⟨j + 1, v1, qs ++ [q], Gs ++ [G3], by go_num, rfl, HJ.out, Nat.le_refl _, by rw [List.length_append, HQL.out]; rfl, GN, CN, BN, SN, OK2⟩
      · obtain rfl : j = M := by omega
        have YF : Hid (MFits pl r T.length) := Hid.of (by
          exact ⟨by rw [HCE.out], by rw [NM.out, NN.out], fun i x hx => OKS.out i x (by have := (List.getElem?_eq_some_iff.1 hx).1; rw [NN.out] at this; exact this) hx⟩)
        have GB := Hid.of G.out
        go_wp2
        go_ret2
        exact TabSays.mk _ true rfl HB.out (Hid.of ⟨fun _ => YF.out, fun _ => rfl⟩) (fun _ => ⟨qs, Gs, by rw [hql, NN.out], ⟨own_mono G.out.own (by have := Z1.out; have := HBB.out; omega), G.out.gl, G.out.rep, G.out.ge, G.out.off⟩⟩)

end Go.Proofs.YtbhcafginmkaaaaGreat

namespace Go.Proofs.YtbhcafginmkaaaaGreat
open Go.RowKit Go.Lib

/-- A plan's tiers as those of a reach. -/
abbrev sR (pl : PlanL) : RchL := (0, pl.1, [])

/-- Its blocks: it writes into its own, into its tables' list and into the tables. -/
def hFoot (p : Nat) (s f v : Value) (Fs : List TFoot) : TFoot :=
  ⟨fun k => k = p ∨ v.ownBlock = some k ∨ ∃ F ∈ Fs, F.own k, fun k => k = p ∨ IRows s f v k ∨ ∃ F ∈ Fs, F.all k⟩

structure HIs (TS : TableSpec) (w : World) (p : Nat) (pl : PlanL) (bd dn : Int) (T : List (List TRec)) (s f v : Value) (qs : List Nat) (Fs : List TFoot) : Prop where
  cell : w.heap[p]? = some (.cells #[.string pl.1.1, s, f, .int .i64 bd, .int .i64 dn, v] 138 (0, 0))
  hs : w.ownsRow 0 89 4 s pl.1.2.length (flat penc pl.1.2)
  hf : w.ownsRow 0 3 1 f pl.2.length (pl.2.map (Value.int .i64))
  hv : w.ownsRow 0 192 1 v qs.length (qs.map tptr)
  ql : qs.length = T.length
  fl : Fs.length = T.length
  rep : ∀ (i q : Nat) l F, qs[i]? = some q → T[i]? = some l → Fs[i]? = some F → TS.Rep w q (tEv (sR pl) i) l F
  apart : ∀ (i j k : Nat) F G, Fs[i]? = some F → Fs[j]? = some G → i ≠ j → F.all k → ¬ G.own k
  off : ∀ F ∈ Fs, ∀ k, F.own k → ¬ IRows s f v k
  out : ∀ F ∈ Fs, ¬ F.all p
  pp : ¬ IRows s f v p
  va : ∀ F ∈ Fs, ∀ k, v.ownBlock = some k → ¬ F.all k
  sv : ∀ k, v.ownBlock = some k → s.ownBlock ≠ some k ∧ f.ownBlock ≠ some k

section
variable {TS : TableSpec} {w w' w1 w2 : World} {p : Nat} {pl : PlanL} {bd dn : Int} {T : List (List TRec)} {s f v : Value} {qs : List Nat} {Fs : List TFoot}

theorem HIs.at_i (h : HIs TS w p pl bd dn T s f v qs Fs) {i : Nat} {l : List TRec} (hl : T[i]? = some l) : ∃ q F, qs[i]? = some q ∧ Fs[i]? = some F ∧ TS.Rep w q (tEv (sR pl) i) l F := by
  have hi := (List.getElem?_eq_some_iff.1 hl).1
  obtain ⟨q, hq⟩ : ∃ q, qs[i]? = some q := ⟨_, List.getElem?_eq_getElem (by rw [h.ql]; exact hi)⟩
  obtain ⟨F, hF⟩ : ∃ F, Fs[i]? = some F := ⟨_, List.getElem?_eq_getElem (by rw [h.fl]; exact hi)⟩
  exact ⟨q, F, hq, hF, h.rep i q l F hq hl hF⟩

theorem HIs.of_foot (h : HIs TS w p pl bd dn T s f v qs Fs) {F : TFoot} (hF : F ∈ Fs) : ∃ i q l, Fs[i]? = some F ∧ TS.Rep w q (tEv (sR pl) i) l F := by
  obtain ⟨i, hi⟩ := List.getElem?_of_mem hF
  have hl := (List.getElem?_eq_some_iff.1 hi).1
  obtain ⟨l, hT⟩ : ∃ l, T[i]? = some l := ⟨_, List.getElem?_eq_getElem (by rw [← h.fl]; exact hl)⟩
  obtain ⟨q, hq⟩ : ∃ q, qs[i]? = some q := ⟨_, List.getElem?_eq_getElem (by rw [h.ql, ← h.fl]; exact hl)⟩
  exact ⟨i, q, l, hi, h.rep i q l F hq hT hi⟩

theorem HIs.lt_p (h : HIs TS w p pl bd dn T s f v qs Fs) : p < w.heap.size := (Array.getElem?_eq_some_iff.1 h.cell).1
theorem HIs.lt_rows (h : HIs TS w p pl bd dn T s f v qs Fs) {k : Nat} (hk : IRows s f v k) : k < w.heap.size := by
  rcases hk with c | c | c
  · exact iown_lt h.hs c
  · exact iown_lt h.hf c
  · exact iown_lt h.hv c
theorem HIs.lt (h : HIs TS w p pl bd dn T s f v qs Fs) {k : Nat} (hk : (hFoot p s f v Fs).all k) : k < w.heap.size := by
  rcases hk with rfl | c | ⟨F, hF, c⟩
  · exact h.lt_p
  · exact h.lt_rows c
  · obtain ⟨i, q, l, _, hr⟩ := h.of_foot hF
    exact TS.lt hr k c
theorem HIs.sub (h : HIs TS w p pl bd dn T s f v qs Fs) {k : Nat} (hk : (hFoot p s f v Fs).own k) : (hFoot p s f v Fs).all k := by
  rcases hk with rfl | c | ⟨F, hF, c⟩
  · exact .inl rfl
  · exact .inr (.inl (.inr (.inr c)))
  · obtain ⟨i, q, l, _, hr⟩ := h.of_foot hF
    exact .inr (.inr ⟨F, hF, TS.sub hr k c⟩)

/-- It lies as it did where its blocks are as they were. -/
theorem HIs.at (h : HIs TS w p pl bd dn T s f v qs Fs) (hs : w.heap.size ≤ w'.heap.size) (k : ∀ i, (hFoot p s f v Fs).all i → w'.heap[i]? = w.heap[i]?) : HIs TS w' p pl bd dn T s f v qs Fs where
  cell := (k p (.inl rfl)).trans h.cell
  hs := iown_at h.hs (fun g hg => k g (.inr (.inl (.inl hg))))
  hf := iown_at h.hf (fun g hg => k g (.inr (.inl (.inr (.inl hg)))))
  hv := iown_at h.hv (fun g hg => k g (.inr (.inl (.inr (.inr hg)))))
  ql := h.ql
  fl := h.fl
  rep i q l F hq hl hF := TS.kept (h.rep i q l F hq hl hF) hs (fun j hj => k j (.inr (.inr ⟨F, List.mem_of_getElem? hF, hj⟩)))
  apart := h.apart
  off := h.off
  out := h.out
  pp := h.pp
  va := h.va
  sv := h.sv
theorem HIs.below (h : HIs TS w p pl bd dn T s f v qs Fs) (b : Below w.heap.size w w') : HIs TS w' p pl bd dn T s f v qs Fs := h.at b.size (fun i hi => b.block i (h.lt hi))

theorem HIs.c (h : HIs TS w p pl bd dn T s f v qs Fs) : w.cell? ⟨p, 0, none⟩ = some (.string pl.1.1) ∧ w.cell? ⟨p, 1, none⟩ = some s ∧ w.cell? ⟨p, 2, none⟩ = some f ∧ w.cell? ⟨p, 3, none⟩ = some (.int .i64 bd) ∧ w.cell? ⟨p, 4, none⟩ = some (.int .i64 dn) ∧ w.cell? ⟨p, 5, none⟩ = some v := by
  refine ⟨?_, ?_, ?_, ?_, ?_, ?_⟩ <;> (rw [cell_of_row w p _ _ _ _ h.cell]; rfl)
theorem HIs.plan (h : HIs TS w p pl bd dn T s f v qs Fs) : PlanRow w (.agg #[.string pl.1.1, s, f]) pl := ⟨s, f, rfl, own_row h.hs, own_row h.hf, own_cap h.hs, own_cap h.hf⟩
theorem HIs.tabs (h : HIs TS w p pl bd dn T s f v qs Fs) : CellRow w v T.length (qs.map tptr) := by rw [← h.ql]; exact own_row h.hv

/-- One table has been turned by a call of its own. -/
theorem HIs.step (h : HIs TS w p pl bd dn T s f v qs Fs) {j q : Nat} {l l' : List TRec} {F F' : TFoot} (hq : qs[j]? = some q) (hl : T[j]? = some l) (hF : Fs[j]? = some F) (rep' : TS.Rep w' q (tEv (sR pl) j) l' F') (st : TStep F F' w w') :
    HIs TS w' p pl bd dn (T.set j l') s f v qs (Fs.set j F') ∧ TStep (hFoot p s f v Fs) (hFoot p s f v (Fs.set j F')) w w' := by
  have hjT : j < T.length := (List.getElem?_eq_some_iff.1 hl).1
  have hjF : j < Fs.length := (List.getElem?_eq_some_iff.1 hF).1
  have hmF := List.mem_of_getElem? hF
  have hrep := h.rep j q l F hq hl hF
  have hp : ¬ F.own p := fun c => h.out F hmF (TS.sub hrep p c)
  have hrow : ∀ {e : TypeId} {sz n : Nat} {u : Value} {xs : List Value}, w.ownsRow 0 e sz u n xs → (∀ g, u.ownBlock = some g → IRows s f v g) → w'.ownsRow 0 e sz u n xs := fun hr ho =>
    iown_at hr (fun g hg => st.own.block g (iown_lt hr hg) (fun c => h.off F hmF g c (ho g hg)))
  have hset : ∀ (i : Nat) G, (Fs.set j F')[i]? = some G → i = j ∧ G = F' ∨ i ≠ j ∧ Fs[i]? = some G := fun i G hG => by
    by_cases c : i = j
    · subst c
      rw [List.getElem?_set_self hjF] at hG
      exact .inl ⟨rfl, (Option.some.inj hG).symm⟩
    · rw [List.getElem?_set_ne (fun e => c e.symm)] at hG
      exact .inr ⟨c, hG⟩
  have hlt : ∀ G ∈ Fs, ∀ k, G.all k → k < w.heap.size := fun G hG k c => h.lt (.inr (.inr ⟨G, hG, c⟩))
  refine ⟨{
    cell := (st.own.block p h.lt_p hp).trans h.cell
    hs := hrow h.hs (fun g hg => .inl hg)
    hf := hrow h.hf (fun g hg => .inr (.inl hg))
    hv := hrow h.hv (fun g hg => .inr (.inr hg))
    ql := by rw [List.length_set]; exact h.ql
    fl := by rw [List.length_set, List.length_set]; exact h.fl
    rep := fun i q2 l2 G hq2 hl2 hG => ?_
    apart := fun i i2 k G G2 hG hG2 hne c => ?_
    off := fun G hG k c => ?_
    out := fun G hG c => ?_
    pp := h.pp
    va := fun G hG k hk c => ?_
    sv := h.sv }, ?_, ?_⟩
  · rcases hset i G hG with ⟨rfl, rfl⟩ | ⟨hne, hG⟩
    · rw [List.getElem?_set_self hjT] at hl2
      cases hl2
      rw [hq] at hq2
      cases hq2
      exact rep'
    · rw [List.getElem?_set_ne (fun e => hne e.symm)] at hl2
      refine TS.kept (h.rep i q2 l2 G hq2 hl2 hG) st.own.size (fun k hk => st.own.block k (hlt G (List.mem_of_getElem? hG) k hk) (fun c => ?_))
      exact h.apart i j k G F hG hF hne hk c
  · rcases hset i G hG with ⟨e1, e2⟩ | ⟨h1, k1⟩ <;> rcases hset i2 G2 hG2 with ⟨e3, e4⟩ | ⟨h2, k2⟩
    · exact absurd (e1.trans e3.symm) hne
    · subst e1 e2
      intro d
      rcases st.more k c with e | e
      · exact h.apart i i2 k F G2 hF k2 hne e d
      · obtain ⟨i', q', l', _, hr'⟩ := h.of_foot (List.mem_of_getElem? k2)
        have := TS.lt hr' k (TS.sub hr' k d)
        omega
    · subst e3 e4
      intro d
      rcases st.own.foot k d with e | e
      · exact h.apart i i2 k G F k1 hF hne c e
      · have := hlt G (List.mem_of_getElem? k1) k c
        omega
    · exact h.apart i i2 k G G2 k1 k2 hne c
  · obtain ⟨i, hi⟩ := List.getElem?_of_mem hG
    rcases hset i G hi with ⟨_, rfl⟩ | ⟨_, hG'⟩
    · intro d
      rcases st.own.foot k c with e | e
      · exact h.off F hmF k e d
      · have := h.lt_rows d
        omega
    · exact h.off G (List.mem_of_getElem? hG') k c
  · obtain ⟨i, hi⟩ := List.getElem?_of_mem hG
    rcases hset i G hi with ⟨_, rfl⟩ | ⟨_, hG'⟩
    · rcases st.more p c with e | e
      · exact h.out F hmF e
      · have := h.lt_p
        omega
    · exact h.out G (List.mem_of_getElem? hG') c
  · obtain ⟨i, hi⟩ := List.getElem?_of_mem hG
    rcases hset i G hi with ⟨_, rfl⟩ | ⟨_, hG'⟩
    · rcases st.more k c with e | e
      · exact h.va F hmF k hk e
      · have := h.lt_rows (.inr (.inr hk))
        omega
    · exact h.va G (List.mem_of_getElem? hG') k hk c
  · refine ⟨st.own.os, st.own.tape, st.own.output, st.own.size, fun k hk hn => st.own.block k hk (fun c => hn (.inr (.inr ⟨F, hmF, c⟩))), fun k hk => ?_⟩
    rcases hk with c | c | ⟨G, hG, c⟩
    · exact .inl (.inl c)
    · exact .inl (.inr (.inl c))
    · obtain ⟨i, hi⟩ := List.getElem?_of_mem hG
      rcases hset i G hi with ⟨_, rfl⟩ | ⟨_, hG'⟩
      · rcases st.own.foot k c with e | e
        · exact .inl (.inr (.inr ⟨F, hmF, e⟩))
        · exact .inr e
      · exact .inl (.inr (.inr ⟨G, List.mem_of_getElem? hG', c⟩))
  · intro k hk
    rcases hk with c | c | ⟨G, hG, c⟩
    · exact .inl (.inl c)
    · exact .inl (.inr (.inl c))
    · obtain ⟨i, hi⟩ := List.getElem?_of_mem hG
      rcases hset i G hi with ⟨_, rfl⟩ | ⟨_, hG'⟩
      · rcases st.more k c with e | e
        · exact .inl (.inr (.inr ⟨F, hmF, e⟩))
        · exact .inr e
      · exact .inl (.inr (.inr ⟨G, List.mem_of_getElem? hG', c⟩))

/-- A step more is done: that cell is written. -/
theorem HIs.done (h : HIs TS w p pl bd dn T s f v qs Fs) (n : Int) : HIs TS (w.setCell ⟨p, 4, none⟩ (.int .i64 n)) p pl bd n T s f v qs Fs ∧ TStep (hFoot p s f v Fs) (hFoot p s f v Fs) w (w.setCell ⟨p, 4, none⟩ (.int .i64 n)) := by
  have g := grownBy_setCell w p 4 (.int .i64 n)
  have hne : ∀ k, k < w.heap.size → k ≠ p → (w.setCell ⟨p, 4, none⟩ (.int .i64 n)).heap[k]? = w.heap[k]? := fun k hk hn => g.block k hk (fun c => hn (Option.some.inj c))
  have hpr : ∀ k, IRows s f v k → k ≠ p := fun k hk c => h.pp (c ▸ hk)
  refine ⟨{
    cell := by
      have := row_set (i := 4) h.cell (.int .i64 n)
      rw [this]
      simp
    hs := iown_at h.hs (fun k hk => hne k (iown_lt h.hs hk) (hpr k (.inl hk)))
    hf := iown_at h.hf (fun k hk => hne k (iown_lt h.hf hk) (hpr k (.inr (.inl hk))))
    hv := iown_at h.hv (fun k hk => hne k (iown_lt h.hv hk) (hpr k (.inr (.inr hk))))
    ql := h.ql
    fl := h.fl
    rep := fun i q l F hq hl hF => TS.kept (h.rep i q l F hq hl hF) g.size (fun k hk => hne k (TS.lt (h.rep i q l F hq hl hF) k hk) (fun c => h.out F (List.mem_of_getElem? hF) (c ▸ hk)))
    apart := h.apart
    off := h.off
    out := h.out
    pp := h.pp
    va := h.va
    sv := h.sv }, ⟨g.os, g.tape, g.output, g.size, fun k hk hn => hne k hk (fun c => hn (.inl c)), fun k hk => .inl hk⟩, fun k hk => .inl hk⟩

/-- One table more: it is made (w1), put behind the others (w2), and the list is stored. -/
theorem HIs.more (h : HIs TS w p pl bd dn T s f v qs Fs) {q : Nat} {l : List TRec} {F : TFoot} (b1 : Below w.heap.size w w1) (hr : TS.Rep w1 q (tEv (sR pl) T.length) l F) (hF : ∀ k, F.all k → w.heap.size ≤ k) {v' : Value}
    (o2 : w2.ownsRow 0 192 1 v' (qs.length + 1) (qs.map tptr ++ [tptr q])) (g2 : w1.grownBy w2 v.ownBlock) (m2 : v'.ownBlock = v.ownBlock ∨ ∃ g, v'.ownBlock = some g ∧ w1.heap.size ≤ g) :
    HIs TS (w2.setCell ⟨p, 5, none⟩ v') p pl bd dn (T ++ [l]) s f v' (qs ++ [q]) (Fs ++ [F]) ∧ TStep (hFoot p s f v Fs) (hFoot p s f v' (Fs ++ [F])) w (w2.setCell ⟨p, 5, none⟩ v') := by
  have hp := h.lt_p
  have hs1 : w.heap.size ≤ w1.heap.size := b1.size
  have hvp : ∀ k, v.ownBlock = some k → k ≠ p := fun k hk c => h.pp (c ▸ .inr (.inr hk))
  have hvl : ∀ k, v.ownBlock = some k → k < w.heap.size := fun k hk => iown_lt h.hv hk
  have hv' : ∀ k, v'.ownBlock = some k → v.ownBlock = some k ∨ w1.heap.size ≤ k := fun k hk => by
    rcases m2 with e | ⟨g, e, hg⟩
    · exact .inl (e ▸ hk)
    · rw [e] at hk
      cases hk
      exact .inr hg
  have g3 := grownBy_setCell w2 p 5 v'
  have keep : ∀ k, k < w1.heap.size → v.ownBlock ≠ some k → k ≠ p → (w2.setCell ⟨p, 5, none⟩ v').heap[k]? = w1.heap[k]? := fun k hk hne hkp =>
    (g3.block k (Nat.lt_of_lt_of_le hk g2.size) (fun c => hkp (Option.some.inj c))).trans (g2.block k hk (fun c => hne c.symm))
  have keep0 : ∀ k, k < w.heap.size → v.ownBlock ≠ some k → k ≠ p → (w2.setCell ⟨p, 5, none⟩ v').heap[k]? = w.heap[k]? := fun k hk hne hkp =>
    (keep k (by omega) hne hkp).trans (b1.block k hk)
  have hcell2 : w2.heap[p]? = some (.cells #[.string pl.1.1, s, f, .int .i64 bd, .int .i64 dn, v] 138 (0, 0)) :=
    (g2.block p (by omega) (fun c => hvp p c.symm rfl)).trans ((b1.block p hp).trans h.cell)
  have hlast : ∀ (i : Nat) G, (Fs ++ [F])[i]? = some G → Fs[i]? = some G ∨ (i = Fs.length ∧ G = F) := fun i G hG => by
    rcases Nat.lt_or_ge i Fs.length with c | c
    · rw [List.getElem?_append_left c] at hG
      exact .inl hG
    · rw [List.getElem?_append_right c] at hG
      have hi : i - Fs.length = 0 := by
        rcases Nat.eq_zero_or_pos (i - Fs.length) with d | d
        · exact d
        · rw [List.getElem?_eq_none (by simp; omega)] at hG
          cases hG
      rw [hi] at hG
      exact .inr ⟨by omega, (Option.some.inj hG).symm⟩
  have hmem : ∀ G ∈ Fs ++ [F], G ∈ Fs ∨ G = F := fun G hG => by
    rcases List.mem_append.1 hG with c | c
    · exact .inl c
    · exact .inr (List.mem_singleton.1 c)
  have hold : ∀ G ∈ Fs, ∀ k, G.all k → k < w.heap.size := fun G hG k c => h.lt (.inr (.inr ⟨G, hG, c⟩))
  have hsub : ∀ G ∈ Fs, ∀ k, G.own k → G.all k := fun G hG k c => by
    obtain ⟨i, q', l', _, hr'⟩ := h.of_foot hG
    exact TS.sub hr' k c
  have hRs : ∀ k, s.ownBlock = some k → v.ownBlock ≠ some k ∧ k ≠ p ∧ k < w.heap.size := fun k hk => ⟨fun c => (h.sv k c).1 hk, fun c => h.pp (c ▸ .inl hk), iown_lt h.hs hk⟩
  have hRf : ∀ k, f.ownBlock = some k → v.ownBlock ≠ some k ∧ k ≠ p ∧ k < w.heap.size := fun k hk => ⟨fun c => (h.sv k c).2 hk, fun c => h.pp (c ▸ .inr (.inl hk)), iown_lt h.hf hk⟩
  refine ⟨?_, ?_, fun k hk => ?_⟩
  · refine {
      cell := by
        rw [row_set (i := 5) hcell2 v']
        simp
      hs := iown_at h.hs (fun k hk => keep0 k (hRs k hk).2.2 (hRs k hk).1 (hRs k hk).2.1)
      hf := iown_at h.hf (fun k hk => keep0 k (hRf k hk).2.2 (hRf k hk).1 (hRf k hk).2.1)
      hv := by
        rw [List.length_append, List.map_append]
        refine iown_at o2 (fun k hk => g3.block k (iown_lt o2 hk) (fun c => ?_))
        have c := Option.some.inj c
        rcases hv' k hk with d | d
        · exact hvp k d c
        · omega
      ql := by rw [List.length_append, List.length_append, h.ql]; rfl
      fl := by rw [List.length_append, List.length_append, h.fl]; rfl
      rep := fun i q2 l2 G hq hl hG => ?_
      apart := fun i j k G G2 hG hG2 hne c d => ?_
      off := fun G hG k c d => ?_
      out := fun G hG c => ?_
      pp := fun c => by
        rcases c with c | c | c
        · exact h.pp (.inl c)
        · exact h.pp (.inr (.inl c))
        · rcases hv' p c with d | d
          · exact hvp p d rfl
          · omega
      va := fun G hG k hk c => ?_
      sv := fun k hk => ?_ }
    · rcases hlast i G hG with e | ⟨e, rfl⟩
      · have hi := (List.getElem?_eq_some_iff.1 e).1
        rw [List.getElem?_append_left (by rw [h.ql, ← h.fl]; exact hi)] at hq
        rw [List.getElem?_append_left (by rw [← h.fl]; exact hi)] at hl
        have hr' := h.rep i q2 l2 G hq hl e
        refine TS.kept hr' (Nat.le_trans hs1 (Nat.le_trans g2.size g3.size)) (fun k hk => keep0 k (TS.lt hr' k hk) (fun c => h.va G (List.mem_of_getElem? e) k c hk) (fun c => h.out G (List.mem_of_getElem? e) (c ▸ hk)))
      · rw [e, List.getElem?_append_right (by rw [h.ql, h.fl]; exact Nat.le_refl _), h.ql, h.fl, Nat.sub_self] at hq
        rw [e, List.getElem?_append_right (by rw [h.fl]; exact Nat.le_refl _), h.fl, Nat.sub_self] at hl
        simp only [List.getElem?_cons_zero, Option.some.injEq] at hq hl
        subst hq hl
        rw [e, h.fl]
        refine TS.kept hr (Nat.le_trans g2.size g3.size) (fun k hk => keep k (TS.lt hr k hk) (fun c => ?_) (fun c => ?_))
        · have := hF k hk
          have := hvl k c
          omega
        · have := hF k hk
          omega
    · rcases hlast i G hG with e | ⟨e, e2⟩ <;> rcases hlast j G2 hG2 with e3 | ⟨e3, e4⟩
      · exact h.apart i j k G G2 e e3 hne c d
      · subst e4
        have := hF k (TS.sub hr k d)
        have := hold G (List.mem_of_getElem? e) k c
        omega
      · subst e2
        have := hF k c
        have := hold G2 (List.mem_of_getElem? e3) k (hsub G2 (List.mem_of_getElem? e3) k d)
        omega
      · omega
    · rcases hmem G hG with e | rfl
      · rcases d with d | d | d
        · exact h.off G e k c (.inl d)
        · exact h.off G e k c (.inr (.inl d))
        · rcases hv' k d with x | x
          · exact h.off G e k c (.inr (.inr x))
          · have := hold G e k (hsub G e k c)
            omega
      · have h1 := hF k (TS.sub hr k c)
        have h2 := TS.lt hr k (TS.sub hr k c)
        rcases d with d | d | d
        · have := (hRs k d).2.2; omega
        · have := (hRf k d).2.2; omega
        · rcases hv' k d with x | x
          · have := hvl k x; omega
          · omega
    · rcases hmem G hG with e | rfl
      · exact h.out G e c
      · have := hF p c; omega
    · rcases hmem G hG with e | rfl
      · rcases hv' k hk with x | x
        · exact h.va G e k x c
        · have := hold G e k c; omega
      · have h1 := hF k c
        have h2 := TS.lt hr k c
        rcases hv' k hk with x | x
        · have := hvl k x; omega
        · omega
    · rcases hv' k hk with x | x
      · exact h.sv k x
      · exact ⟨fun c => by have := (hRs k c).2.2; omega, fun c => by have := (hRf k c).2.2; omega⟩
  · refine ⟨(g3.os.trans g2.os).trans b1.os, (g3.tape.trans g2.tape).trans b1.tape, (g3.output.trans g2.output).trans b1.output, Nat.le_trans hs1 (Nat.le_trans g2.size g3.size), fun k hk hn => keep0 k hk (fun c => hn (.inr (.inl c))) (fun c => hn (.inl c)), fun k hk => ?_⟩
    rcases hk with c | c | ⟨G, hG, c⟩
    · exact .inl (.inl c)
    · rcases hv' k c with d | d
      · exact .inl (.inr (.inl d))
      · exact .inr (Nat.le_trans hs1 d)
    · rcases hmem G hG with e | rfl
      · exact .inl (.inr (.inr ⟨G, e, c⟩))
      · exact .inr (hF k (TS.sub hr k c))
  · rcases hk with c | (c | c | c) | ⟨G, hG, c⟩
    · exact .inl (.inl c)
    · exact .inl (.inr (.inl (.inl c)))
    · exact .inl (.inr (.inl (.inr (.inl c))))
    · rcases hv' k c with d | d
      · exact .inl (.inr (.inl (.inr (.inr d))))
      · exact .inr (Nat.le_trans hs1 d)
    · rcases hmem G hG with e | rfl
      · exact .inl (.inr (.inr ⟨G, e, c⟩))
      · exact .inr (hF k c)
end

end Go.Proofs.YtbhcafginmkaaaaGreat

namespace Go.Proofs.YtbhcafginmkaaaaGreat
open Go.RowKit Go.Lib

/-- At least n tables. -/
def hOpen (T : List (List TRec)) (n : Nat) : List (List TRec) := T ++ List.replicate (n - T.length) []

theorem hOpen_len (T : List (List TRec)) (n : Nat) : (hOpen T n).length = max T.length n := by
  unfold hOpen
  rw [List.length_append, List.length_replicate]
  omega
theorem hOpen_self {T : List (List TRec)} {n : Nat} (h : n ≤ T.length) : hOpen T n = T := by
  unfold hOpen
  rw [show n - T.length = 0 by omega]
  simp
theorem hOpen_succ {T : List (List TRec)} {n : Nat} (h : T.length ≤ n) : hOpen T (n + 1) = hOpen T n ++ [[]] := by
  unfold hOpen
  rw [show n + 1 - T.length = (n - T.length) + 1 by omega, List.replicate_succ', List.append_assoc]
theorem hOpen_get (T : List (List TRec)) (n i : Nat) : (hOpen T n).getD i [] = T.getD i [] := by
  unfold hOpen
  rw [List.getD_eq_getElem?_getD, List.getD_eq_getElem?_getD]
  by_cases c : i < T.length
  · rw [List.getElem?_append_left c]
  · rw [List.getElem?_append_right (by omega), List.getElem?_eq_none (l := T) (by omega), List.getElem?_replicate]
    split <;> rfl
/-- The tier's shards. -/
def hSh (pl : PlanL) (i : Nat) : Int := match pl.1.2[i]? with | some x => x.2.2.2 | none => 1

/-- A shard is made what it is in B. -/
def hFill (pl : PlanL) (T B : List (List TRec)) (j : Nat) (k : Int) : List (List TRec) := (hOpen T (j + 1)).modify j fun l => tAdds (tEv (sR pl) j) (tRest l k (hSh pl j)) (tShard (B.getD j []) k (hSh pl j))
end Go.Proofs.YtbhcafginmkaaaaGreat
