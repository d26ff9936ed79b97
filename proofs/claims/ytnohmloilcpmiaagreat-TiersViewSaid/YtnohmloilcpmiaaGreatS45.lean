/-
  A bundle of texts: IEC IED IEE IEH.
-/
import Derived.Test.YtnohmloilcpmiaaGreatS31
import Derived.Test.YtnohmloilcpmiaaGreatS43
import Derived.Test.YtnohmloilcpmiaaGreatS05
import Derived.Test.YtnohmloilcpmiaaGreatS38
import Derived.Test.YtnohmloilcpmiaaGreatS25
namespace Go.Proofs.YtnohmloilcpmiaaGreat
open Go.RowKit Go.Lib

theorem rec_info' : (Tryz.prog.info? 62).map (fun i => (i.zero, i.size, i.bytes)) = some (some (.agg #[.string ⟨#[]⟩, .int .i64 0, .int .i64 0, .int .i64 0, .int .u64 0, .int .i64 0, .int .i64 0]), 7, 64) := by kernel_rfl

theorem iTakes_at {r : RchL} {ss : List SamL} {j : Nat} {x : SamL} (hx : ss[j]? = some x) (h : ∀ s ∈ ss.take j, rTakes r s.1 s.2.1 = 0) (hn : rTakes r x.1 x.2.1 ≠ 0) : iTakes r ss = rTakes r x.1 x.2.1 := by
  induction ss generalizing j with
  | nil => cases hx
  | cons a ss ih =>
    unfold iTakes at *
    rw [List.map_cons, List.find?_cons]
    cases j with
    | zero =>
      simp only [List.getElem?_cons_zero, Option.some.injEq] at hx
      subst hx
      rw [show (!decide (rTakes r a.1 a.2.1 = 0)) = true by simp [hn]]
      rfl
    | succ j =>
      have ha := h a (by rw [List.take_succ_cons]; exact List.mem_cons_self ..)
      rw [show (!decide (rTakes r a.1 a.2.1 = 0)) = false by simp [ha]]
      exact ih hx (fun s hs => h s (by rw [List.take_succ_cons]; exact List.mem_cons_of_mem _ hs))

theorem iCheck_none {r : RchL} {ss : List SamL} (h : ss.length = 0) : iCheck r ss = 1 := by unfold iCheck; rw [if_pos (List.length_eq_zero_iff.1 h)]
theorem iCheck_long {r : RchL} {ss : List SamL} (h : 8 < ss.length) : iCheck r ss = 2 := by
  unfold iCheck
  rw [if_neg (fun c => by rw [c] at h; simp at h), if_pos h]
theorem iCheck_takes {r : RchL} {ss : List SamL} (h : ss.length ≠ 0) (h8 : ¬ 8 < ss.length) : iCheck r ss = iTakes r ss := by
  unfold iCheck
  rw [if_neg (fun c => h (by rw [c]; rfl)), if_neg h8]

theorem ITs.cs {TS : TableSpec} {w : World} {p : Nat} {r : RchL} {T : List (List TRec)} {s f v : Value} {qs : List Nat} {Fs : List TFoot} (h : ITs TS w p r T s f v qs Fs) : Cs w [(⟨p, 0, none⟩, .int .i64 r.1), (⟨p, 1, none⟩, .string r.2.1.1), (⟨p, 2, none⟩, s), (⟨p, 3, none⟩, f)] := by
  obtain ⟨c0, c1, c2, c3, _⟩ := h.c
  exact .cons h.lt_p c0 (.cons h.lt_p c1 (.cons h.lt_p c2 (.cons h.lt_p c3 (.nil _))))

theorem Cs.grown {w w' : World} {o : Option Nat} {l : List (Addr × Value)} (h : Cs w l) (g : w.grownBy w' o) (hne : ∀ x ∈ l, some x.1.block ≠ o) : Cs w' l := fun x hx =>
  ⟨Nat.lt_of_lt_of_le (h x hx).1 g.size, (World.cell?_of_block (a := x.1) (g.block _ (h x hx).1 (hne x hx))).trans (h x hx).2⟩

/-- A sample in a variable. -/
theorem sam_cs (w : World) (n : ByteArray) (t x : Int) {l : List (Addr × Value)} (h : Cs w l) : Cs (w.alloc (.cells #[.string n, .int .i64 t, .int .i64 x] 23)) ((⟨w.heap.size, 0, none⟩, .string n) :: (⟨w.heap.size, 1, none⟩, .int .i64 t) :: (⟨w.heap.size, 2, none⟩, .int .i64 x) :: l) := by
  have hz := (MapKept.heap_alloc w (.cells #[.string n, .int .i64 t, .int .i64 x] 23 (0, 0))).1
  have hl : w.heap.size < (w.alloc (.cells #[.string n, .int .i64 t, .int .i64 x] 23)).heap.size := by simp
  exact .cons hl (by rw [cell_of_row _ _ _ _ _ _ hz]; rfl) (.cons hl (by rw [cell_of_row _ _ _ _ _ _ hz]; rfl) (.cons hl (by rw [cell_of_row _ _ _ _ _ _ hz]; rfl) (h.next ((Below.refl _ _).alloc (Nat.le_refl _) _))))

set_option maxRecDepth 20000 in
set_option maxHeartbeats 3200000 in
theorem iMayPut_any {TS : TableSpec} {w : World} {p : Nat} {r : RchL} {T : List (List TRec)} {s f v : Value} {qs : List Nat} {Fs : List TFoot} (h : ITs TS w p r T s f v qs Fs) (hT : 0 < T.length)
    (u : Value) (ss : List SamL) (hu : CellRow w u ss.length (flat aenc ss)) (hlen : ss.length ≤ 1000000) (hfit : ∀ x ∈ ss, SFit x) :
    Calls Tryz.prog 51 #[tptr p, u] w fun e w' => e = .returned (.int .i64 (iCheck r ss)) ∧ Below w.heap.size w w' := by
  have hno := iNone_any h hT
  have H := Hid.of h
  have HU := Hid.of hu
  have HF := Hid.of hfit
  obtain ⟨ua, uc, rfl, -⟩ := hu
  obtain ⟨N, hN⟩ : ∃ N, ss.length = N := ⟨_, rfl⟩
  have HN := Hid.of hN
  rw [hN] at HU hlen ⊢
  obtain ⟨ce, hce⟩ : ∃ ce, iCheck r ss = ce := ⟨_, rfl⟩
  have HC := Hid.of hce
  rw [hce]
  clear h hfit hN hce
  by_cases h0 : N = 0
  · have HZ : Hid (ce = 1) := Hid.of (by rw [← HC.out]; exact iCheck_none (by rw [HN.out]; exact h0))
    have k0 : ((N : Int) == 0) = true := by rw [h0]; rfl
    clear h0
    go_enter Tryz.func51, Tryz.ntmps51
    go_wp2_with fail
    refine hno.mono ?_
    rintro e w1 ⟨rfl, rfl⟩
    go_wp2
    go_ret
    rw [HZ.out]
    exact ⟨rfl, Below.refl _ _⟩
  have k0 : ((N : Int) == 0) = false := beq_eq_false_iff_ne.2 (by omega)
  by_cases h8 : 8 < N
  · have HZ : Hid (ce = 2) := Hid.of (by rw [← HC.out]; exact iCheck_long (by rw [HN.out]; exact h8))
    have k8 : (N : Int) > 8 := by omega
    clear h0 h8
    go_enter Tryz.func51, Tryz.ntmps51
    go_wp2_with fail
    refine hno.mono ?_
    rintro e w1 ⟨rfl, rfl⟩
    go_wp2
    go_ret
    rw [HZ.out]
    exact ⟨rfl, Below.refl _ _⟩
  have HE : Hid (iTakes r ss = ce) := Hid.of (by rw [← HC.out]; exact (iCheck_takes (by rw [HN.out]; exact h0) (by rw [HN.out]; exact h8)).symm)
  have k8 : ¬ (N : Int) > 8 := by omega
  clear h0 h8 HC
  go_enter Tryz.func51, Tryz.ntmps51
  go_wp2_with fail
  refine hno.mono ?_
  rintro e w1 ⟨rfl, rfl⟩
  go_wp2
  go_loopg [6, 7, 22] N (fun kx _ _ iv wr => ∃ j : Nat, iv = .int .i64 j ∧ j ≤ N ∧ N - j ≤ kx ∧ Hid (∀ s ∈ ss.take j, rTakes r s.1 s.2.1 = 0) ∧ Hid (Below w1.heap.size w1 wr))
  case atStart => exact ⟨0, rfl, Nat.zero_le _, Nat.le_refl _, Hid.of (fun _ hs => by rw [List.take_zero] at hs; cases hs), Hid.of (Below.refl _ _)⟩
  case round =>
    obtain ⟨j, rfl, hj, hk, HA, HB⟩ := hrel
    have j0 : (0 : Int) ≤ (j : Int) := Int.natCast_nonneg _
    by_cases hlt : (j : Int) < (N : Int)
    · obtain ⟨x, hx⟩ : ∃ x, ss[j]? = some x := ⟨_, List.getElem?_eq_getElem (by have := HN.out; omega)⟩
      obtain ⟨b1, o1, rfl, g1, d0, d1, d2⟩ := a_at (HU.out.kept HB.out) j x hx
      obtain ⟨n, t, z⟩ := x
      have XF := Hid.of (HF.out _ (List.mem_of_getElem? hx))
      have HX := Hid.of hx
      have HJ : Hid (j < N) := Hid.of (by omega)
      simp only at d0 d1 d2
      obtain ⟨y, hy⟩ : ∃ y, wr.heap.size = y := ⟨_, rfl⟩
      obtain ⟨w2, hw2⟩ : ∃ w2, wr.alloc (.cells #[.string n, .int .i64 t, .int .i64 z] 23) = w2 := ⟨_, rfl⟩
      have IT := H.out.below HB.out
      have CS2 : Hid (Cs w2 [(⟨y, 0, none⟩, .string n), (⟨y, 1, none⟩, .int .i64 t), (⟨y, 2, none⟩, .int .i64 z), (⟨p, 0, none⟩, .int .i64 r.1), (⟨p, 1, none⟩, .string r.2.1.1), (⟨p, 2, none⟩, s), (⟨p, 3, none⟩, f)]) := Hid.of (by rw [← hw2, ← hy]; exact sam_cs wr n t z IT.cs)
      have B2 : Hid (Below w1.heap.size w1 w2) := Hid.of (by rw [← hw2]; exact HB.out.alloc HB.out.size _)
      clear hx g1 IT
      go_upto_region 8 with fail
      clear hw2 hy d0 d1 d2
      have B2' := (Below.refl w2.heap.size w2).drew
      have B3 := Hid.of (B2.out.trans (B2'.mono B2.out.size))
      have RR : Hid (RchRow w2.drew (.agg #[.int .i64 r.1, .string r.2.1.1, s, f]) r) := Hid.of (H.out.below B3.out).reach
      have CS3 := Hid.of (CS2.out.next B2')
      clear B2'
      have d0 := (CS2.out).head
      have d1 := ((CS2.out).tail).head
      have d2 := (((CS2.out).tail).tail).head
      have d3 := ((((CS2.out).tail).tail).tail).head
      have d4 := (((((CS2.out).tail).tail).tail).tail).head
      have d5 := ((((((CS2.out).tail).tail).tail).tail).tail).head
      have d6 := (((((((CS2.out).tail).tail).tail).tail).tail).tail).head
      refine wp_region_noPanic ?_
      refine wp_region_held_drew (S := fun w' => w'.cell? ⟨y, 0, none⟩ = some (.string n) ∧ w'.cell? ⟨y, 1, none⟩ = some (.int .i64 t) ∧ w'.cell? ⟨y, 2, none⟩ = some (.int .i64 z) ∧ w'.cell? ⟨p, 0, none⟩ = some (.int .i64 r.1) ∧ w'.cell? ⟨p, 1, none⟩ = some (.string r.2.1.1) ∧ w'.cell? ⟨p, 2, none⟩ = some (s) ∧ w'.cell? ⟨p, 3, none⟩ = some (f)) (by kernel_rfl) ?_ (fun hHeld => ?_)
      · exact ⟨d0, d1, d2, d3, d4, d5, d6⟩
      refine takeOp 0 (o := ⟨_, _, _, _, _, _⟩) (v := ?_) rfl (by kernel_rfl) (by rfl) hHeld ?_ ?_
      rotate_left
      · intro w' hSw; (try dsimp only at hSw); go_simp; all_goals with_reducible rfl
      simp only [Act.put, List.setIfInBounds_toArray, List.set_cons_zero, List.set_cons_succ]
      refine takeOp 1 (o := ⟨_, _, _, _, _, _⟩) (v := ?_) rfl (by kernel_rfl) (by rfl) hHeld ?_ ?_
      rotate_left
      · intro w' hSw; (try dsimp only at hSw); go_simp; all_goals with_reducible rfl
      simp only [Act.put, List.setIfInBounds_toArray, List.set_cons_zero, List.set_cons_succ]
      refine takeOp 2 (o := ⟨_, _, _, _, _, _⟩) (v := ?_) rfl (by kernel_rfl) (by rfl) hHeld ?_ ?_
      rotate_left
      · intro w' hSw; (try dsimp only at hSw); go_simp; all_goals with_reducible rfl
      simp only [Act.put, List.setIfInBounds_toArray, List.set_cons_zero, List.set_cons_succ]
      refine takeOp 3 (o := ⟨_, _, _, _, _, _⟩) (v := ?_) rfl (by kernel_rfl) (by rfl) hHeld ?_ ?_
      rotate_left
      · intro w' hSw; (try dsimp only at hSw); go_simp; all_goals with_reducible rfl
      simp only [Act.put, List.setIfInBounds_toArray, List.set_cons_zero, List.set_cons_succ]
      refine takeOp 4 (o := ⟨_, _, _, _, _, _⟩) (v := ?_) rfl (by kernel_rfl) (by rfl) hHeld ?_ ?_
      rotate_left
      · intro w' hSw; (try dsimp only at hSw); go_simp; all_goals with_reducible rfl
      simp only [Act.put, List.setIfInBounds_toArray, List.set_cons_zero, List.set_cons_succ]
      refine wpAnyH_ready (rs := [5]) (by kernel_rfl) (by simp) ?_
      refine AllReadyH.cons (o := ⟨_, _, _, _, _, _⟩) rfl (fun K hK => ?_) AllReadyH.nil
      go_simp
      refine (reaches.takes _ r n t z _ trivial H.out.fit XF.out.1 XF.out.2.1 RR.out).mono ?_
      rintro e w4 ⟨rfl, b4⟩
      have B4 := Hid.of (B3.out.trans (b4.mono B3.out.size))
      have CS4 := Hid.of (CS3.out.next b4)
      clear b4 CS3 RR B3 B2 CS2
      clear hHeld d0 d1 d2 d3 d4 d5 d6
      have d0 := (CS4.out).head
      have d1 := ((CS4.out).tail).head
      have d2 := (((CS4.out).tail).tail).head
      have d3 := ((((CS4.out).tail).tail).tail).head
      have d4 := (((((CS4.out).tail).tail).tail).tail).head
      have d5 := ((((((CS4.out).tail).tail).tail).tail).tail).head
      have d6 := (((((((CS4.out).tail).tail).tail).tail).tail).tail).head
      refine hK.out _ _ ⟨d0, d1, d2, d3, d4, d5, d6⟩ (fun hHeld => ?_)
      clear hK K
      try simp only [Act.put, List.setIfInBounds_toArray, List.set_cons_zero, List.set_cons_succ]
      refine takeOp 6 (o := ⟨_, _, _, _, _, _⟩) (v := ?_) rfl (by kernel_rfl) (by rfl) hHeld ?_ ?_
      rotate_left
      · intro w' hSw; (try dsimp only at hSw); go_simp; all_goals with_reducible rfl
      simp only [Act.put, List.setIfInBounds_toArray, List.set_cons_zero, List.set_cons_succ]
      refine wpAnyH_done (by kernel_rfl) ?_ _
      refine NoPanic.normal ?_
      clear hHeld
      obtain ⟨te, hte⟩ : ∃ te, rTakes r n t = te := ⟨_, rfl⟩
      rw [hte]
      by_cases ht0 : te = 0
      · have HA2 : Hid (∀ s ∈ ss.take (j + 1), rTakes r s.1 s.2.1 = 0) := Hid.of (fun y hy => by
          rw [List.take_succ_eq_append_getElem (by have := HN.out; have := HJ.out; omega), (List.getElem?_eq_some_iff.1 HX.out).2, List.mem_append, List.mem_singleton] at hy
          rcases hy with hy | rfl
          · exact HA.out y hy
          · show rTakes r n t = 0
            rw [hte, ht0])
        subst ht0
        clear hte
        go_wp2
        go_roundg (N - (j + 1))
        case measure => have := HJ.out; omega
        case rel => exact ⟨j + 1, by go_num, HJ.out, Nat.le_refl _, HA2, B4⟩
      · have HZ : Hid (te = ce) := Hid.of (by rw [← HE.out, iTakes_at HX.out HA.out (by show rTakes r n t ≠ 0; rw [hte]; exact ht0)]; exact hte.symm)
        have ht1 : (te != 0) = true := by simp [ht0]
        clear hte ht0
        go_wp2
        go_ret
        rw [HZ.out]
        exact ⟨rfl, B4.out⟩
    · obtain rfl : j = N := by omega
      have HZ : Hid (0 = ce) := Hid.of (by
        rw [← HE.out]
        refine (iTakes_zero.2 (fun s hs => HA.out s ?_)).symm
        rw [← HN.out, List.take_length]
        exact hs)
      go_wp2
      go_ret
      rw [← HZ.out]
      exact ⟨rfl, HB.out⟩

theorem iRecs_snoc {r : RchL} {i : Nat} {ss : List SamL} {j : Nat} {n : ByteArray} {t x a : Int} {b : Bool} (hx : ss[j]? = some (n, t, x)) (h : rStart r (i : Int) t = (a, b)) : iRecs r i (ss.take (j + 1)) = if b then iRecs r i (ss.take j) ++ [⟨n, a, agOf [x]⟩] else iRecs r i (ss.take j) := by
  have hj := (List.getElem?_eq_some_iff.1 hx).1
  unfold iRecs
  rw [List.take_succ_eq_append_getElem hj, (List.getElem?_eq_some_iff.1 hx).2, List.filter_append, List.map_append]
  have e : iHas r i (n, t, x) = b := by unfold iHas; show (rStart r (i : Int) t).2 = b; rw [h]
  cases b
  · rw [List.filter_cons_of_neg (by rw [e]; simp), List.filter_nil, List.map_nil, List.append_nil]
    rfl
  · rw [List.filter_cons_of_pos e, List.filter_nil, List.map_cons, List.map_nil]
    simp only [if_true]
    unfold iRec
    simp only
    rw [h]

theorem iRecs_len (r : RchL) (i : Nat) (ss : List SamL) : (iRecs r i ss).length ≤ ss.length := by unfold iRecs; rw [List.length_map]; exact List.length_filter_le ..

theorem new_trec (w : World) (x : TRec) (t : TypeId) : Cells (w.alloc (.cells #[.string x.n, .int .i64 x.s, .int .i64 x.a.c, .int .i64 x.a.hi, .int .u64 x.a.lo, .int .i64 x.a.mn, .int .i64 x.a.mx] t)) w.heap.size 0 (flat renc ([x].map rl)) := by
  show Cells _ _ _ (flat renc [_])
  rw [flat_one]
  exact new_cells w _ t

set_option maxRecDepth 20000 in
set_option maxHeartbeats 6400000 in
theorem iBuckets_any {TS : TableSpec} {w : World} {p : Nat} {r : RchL} {T : List (List TRec)} {s f v : Value} {qs : List Nat} {Fs : List TFoot} (h : ITs TS w p r T s f v qs Fs) (i : Nat) (hi : i ≤ 1000)
    (u : Value) (ss : List SamL) (hu : CellRow w u ss.length (flat aenc ss)) (hlen : ss.length ≤ 1000) (hfit : ∀ x ∈ ss, SFit x) :
    Calls Tryz.prog 53 #[tptr p, .int .i64 i, u] w fun e w' => ∃ y, e = .returned y ∧ w'.ownsRow w.heap.size 62 7 y (iRecs r i ss).length (flat renc ((iRecs r i ss).map rl)) ∧ Below w.heap.size w w' := by
  obtain ⟨i0, hi0, hz0, hz1, hz2⟩ := info_parts rec_info'
  have HI := Hid.of hi0
  have HZ0 := Hid.of hz0
  have HZ1 := Hid.of hz1
  have HZ2 := Hid.of hz2
  have H := Hid.of h
  have HU := Hid.of hu
  have HF := Hid.of hfit
  have HII : Hid (In64 (i : Int)) := Hid.of (by unfold In64; omega)
  obtain ⟨ua, uc, rfl, -⟩ := hu
  obtain ⟨N, hN⟩ : ∃ N, ss.length = N := ⟨_, rfl⟩
  have HN := Hid.of hN
  rw [hN] at HU hlen ⊢
  clear h hfit hN hi0 hz0 hz1 hz2 hi
  go_enter Tryz.func53, Tryz.ntmps53
  go_wp2
  go_loopg [7, 9, 10, 11, 14] N (fun kx av _ _ _ iv wr => ∃ (j m : Nat) (lv : Value), lv = av ∧ iv = .int .i64 j ∧ j ≤ N ∧ m ≤ j ∧ N - j ≤ kx ∧ Hid ((iRecs r i (ss.take j)).length = m) ∧ Hid (wr.ownsRow w.heap.size 62 7 lv m (flat renc ((iRecs r i (ss.take j)).map rl))) ∧ Hid (Below w.heap.size w wr))
  case atStart => exact ⟨0, 0, _, rfl, rfl, Nat.zero_le _, Nat.le_refl _, Nat.le_refl _, Hid.of rfl, Hid.of (World.ownsRow_nil _ _ _ _), Hid.of (Below.refl _ _)⟩
  case round =>
    obtain ⟨j, m, lv, rfl, rfl, hj, hm, hk, HM, HO, HB⟩ := hrel
    have j0 : (0 : Int) ≤ (j : Int) := Int.natCast_nonneg _
    by_cases hlt : (j : Int) < (N : Int)
    · obtain ⟨x, hx⟩ : ∃ x, ss[j]? = some x := ⟨_, List.getElem?_eq_getElem (by have := HN.out; omega)⟩
      obtain ⟨b1, o1, rfl, g1, d0, d1, d2⟩ := a_at (HU.out.kept HB.out) j x hx
      obtain ⟨n, t, z⟩ := x
      have XF := Hid.of (HF.out _ (List.mem_of_getElem? hx))
      have HX := Hid.of hx
      have HJ : Hid (j < N) := Hid.of (by omega)
      have hmN : m ≤ 1000 := by omega
      simp only at d0 d1 d2
      obtain ⟨y, hy⟩ : ∃ y, wr.heap.size = y := ⟨_, rfl⟩
      obtain ⟨w2, hw2⟩ : ∃ w2, wr.alloc (.cells #[.string n, .int .i64 t, .int .i64 z] 23) = w2 := ⟨_, rfl⟩
      have IT := H.out.below HB.out
      have CS2 : Hid (Cs w2 [(⟨y, 0, none⟩, .string n), (⟨y, 1, none⟩, .int .i64 t), (⟨y, 2, none⟩, .int .i64 z), (⟨p, 0, none⟩, .int .i64 r.1), (⟨p, 1, none⟩, .string r.2.1.1), (⟨p, 2, none⟩, s), (⟨p, 3, none⟩, f)]) := Hid.of (by rw [← hw2, ← hy]; exact sam_cs wr n t z IT.cs)
      have b2 : Below wr.heap.size wr w2 := by rw [← hw2]; exact (Below.refl _ _).alloc (Nat.le_refl _) _
      have B2 : Hid (Below w.heap.size w w2) := Hid.of (HB.out.trans (b2.mono HB.out.size))
      have O2 := Hid.of (iown_kept HO.out b2)
      have HLY : Hid (∀ g, lv.ownBlock = some g → g < y) := Hid.of (fun g hg => by rw [← hy]; exact iown_lt HO.out hg)
      obtain ⟨st, hst⟩ : ∃ st, rStart r (i : Int) t = st := ⟨_, rfl⟩
      obtain ⟨a, b⟩ := st
      have HSN := Hid.of (iRecs_snoc (i := i) hx hst)
      have HST := Hid.of hst
      have HMJ := Hid.of hm
      clear hx g1 IT b2 HB HO hst hm
      go_upto_region 5 with fail
      clear hw2 hy d0 d1 d2
      have B2' := (Below.refl w2.heap.size w2).drew
      have B3 := Hid.of (B2.out.trans (B2'.mono B2.out.size))
      have O3 := Hid.of (iown_kept O2.out B2')
      have RR : Hid (RchRow w2.drew (.agg #[.int .i64 r.1, .string r.2.1.1, s, f]) r) := Hid.of (H.out.below B3.out).reach
      have CS3 := Hid.of (CS2.out.next B2')
      clear B2' B2 O2 CS2
      have CSX : Hid (Cs w2 [(⟨y, 0, none⟩, .string n), (⟨y, 1, none⟩, .int .i64 t), (⟨y, 2, none⟩, .int .i64 z), (⟨p, 0, none⟩, .int .i64 r.1), (⟨p, 1, none⟩, .string r.2.1.1), (⟨p, 2, none⟩, s), (⟨p, 3, none⟩, f)]) := Hid.of (fun x hx => CS3.out x hx)
      have d0 := (CSX.out).head
      have d1 := ((CSX.out).tail).head
      have d2 := (((CSX.out).tail).tail).head
      have d3 := ((((CSX.out).tail).tail).tail).head
      have d4 := (((((CSX.out).tail).tail).tail).tail).head
      have d5 := ((((((CSX.out).tail).tail).tail).tail).tail).head
      have d6 := (((((((CSX.out).tail).tail).tail).tail).tail).tail).head
      refine wp_region_noPanic ?_
      refine wp_region_held_drew (S := fun w' => w'.cell? ⟨y, 0, none⟩ = some (.string n) ∧ w'.cell? ⟨y, 1, none⟩ = some (.int .i64 t) ∧ w'.cell? ⟨y, 2, none⟩ = some (.int .i64 z) ∧ w'.cell? ⟨p, 0, none⟩ = some (.int .i64 r.1) ∧ w'.cell? ⟨p, 1, none⟩ = some (.string r.2.1.1) ∧ w'.cell? ⟨p, 2, none⟩ = some (s) ∧ w'.cell? ⟨p, 3, none⟩ = some (f)) (by kernel_rfl) ?_ (fun hHeld => ?_)
      · exact ⟨d0, d1, d2, d3, d4, d5, d6⟩
      refine takeOp 0 (o := ⟨_, _, _, _, _, _⟩) (v := ?_) rfl (by kernel_rfl) (by rfl) hHeld ?_ ?_
      rotate_left
      · intro w' hSw; (try dsimp only at hSw); go_simp; all_goals with_reducible rfl
      simp only [Act.put, List.setIfInBounds_toArray, List.set_cons_zero, List.set_cons_succ]
      refine takeOp 1 (o := ⟨_, _, _, _, _, _⟩) (v := ?_) rfl (by kernel_rfl) (by rfl) hHeld ?_ ?_
      rotate_left
      · intro w' hSw; (try dsimp only at hSw); go_simp; all_goals with_reducible rfl
      simp only [Act.put, List.setIfInBounds_toArray, List.set_cons_zero, List.set_cons_succ]
      refine takeOp 2 (o := ⟨_, _, _, _, _, _⟩) (v := ?_) rfl (by kernel_rfl) (by rfl) hHeld ?_ ?_
      rotate_left
      · intro w' hSw; (try dsimp only at hSw); go_simp; all_goals with_reducible rfl
      simp only [Act.put, List.setIfInBounds_toArray, List.set_cons_zero, List.set_cons_succ]
      refine takeOp 3 (o := ⟨_, _, _, _, _, _⟩) (v := ?_) rfl (by kernel_rfl) (by rfl) hHeld ?_ ?_
      rotate_left
      · intro w' hSw; (try dsimp only at hSw); go_simp; all_goals with_reducible rfl
      simp only [Act.put, List.setIfInBounds_toArray, List.set_cons_zero, List.set_cons_succ]
      refine takeOp 4 (o := ⟨_, _, _, _, _, _⟩) (v := ?_) rfl (by kernel_rfl) (by rfl) hHeld ?_ ?_
      rotate_left
      · intro w' hSw; (try dsimp only at hSw); go_simp; all_goals with_reducible rfl
      simp only [Act.put, List.setIfInBounds_toArray, List.set_cons_zero, List.set_cons_succ]
      refine takeOp 5 (o := ⟨_, _, _, _, _, _⟩) (v := ?_) rfl (by kernel_rfl) (by rfl) hHeld ?_ ?_
      rotate_left
      · intro w' hSw; (try dsimp only at hSw); go_simp; all_goals with_reducible rfl
      simp only [Act.put, List.setIfInBounds_toArray, List.set_cons_zero, List.set_cons_succ]
      refine takeOp 6 (o := ⟨_, _, _, _, _, _⟩) (v := ?_) rfl (by kernel_rfl) (by rfl) hHeld ?_ ?_
      rotate_left
      · intro w' hSw; (try dsimp only at hSw); go_simp; all_goals with_reducible rfl
      simp only [Act.put, List.setIfInBounds_toArray, List.set_cons_zero, List.set_cons_succ]
      refine wpAnyH_ready (rs := [7]) (by kernel_rfl) (by simp) ?_
      refine AllReadyH.cons (o := ⟨_, _, _, _, _, _⟩) rfl (fun K hK => ?_) AllReadyH.nil
      go_simp
      refine (reaches.start _ r (i : Int) t _ trivial H.out.fit HII.out XF.out.2.1 RR.out).mono ?_
      rintro e w4 ⟨rfl, b4⟩
      rw [HST.out]
      have B4 := Hid.of (B3.out.trans (b4.mono B3.out.size))
      have CS4 := Hid.of (CS3.out.next b4)
      have O4 := Hid.of (iown_kept O3.out b4)
      clear b4 CS3 RR B3 O3 CSX HST
      clear hHeld d0 d1 d2 d3 d4 d5 d6
      have d0 := (CS4.out).head
      have d1 := ((CS4.out).tail).head
      have d2 := (((CS4.out).tail).tail).head
      have d3 := ((((CS4.out).tail).tail).tail).head
      have d4 := (((((CS4.out).tail).tail).tail).tail).head
      have d5 := ((((((CS4.out).tail).tail).tail).tail).tail).head
      have d6 := (((((((CS4.out).tail).tail).tail).tail).tail).tail).head
      refine hK.out _ _ ⟨d0, d1, d2, d3, d4, d5, d6⟩ (fun hHeld => ?_)
      clear hK K
      refine takeOp 8 (o := ⟨_, _, _, _, _, _⟩) (v := ?_) rfl (by kernel_rfl) (by rfl) hHeld ?_ ?_
      rotate_left
      · intro w' hSw; (try dsimp only at hSw); go_simp; all_goals with_reducible rfl
      simp only [Act.put, List.setIfInBounds_toArray, List.set_cons_zero, List.set_cons_succ]
      refine takeOp 9 (o := ⟨_, _, _, _, _, _⟩) (v := ?_) rfl (by kernel_rfl) (by rfl) hHeld ?_ ?_
      rotate_left
      · intro w' hSw; (try dsimp only at hSw); go_simp; all_goals with_reducible rfl
      simp only [Act.put, List.setIfInBounds_toArray, List.set_cons_zero, List.set_cons_succ]
      refine takeOp 10 (o := ⟨_, _, _, _, _, _⟩) (v := ?_) rfl (by kernel_rfl) (by rfl) hHeld ?_ ?_
      rotate_left
      · intro w' hSw; (try dsimp only at hSw); go_simp; all_goals with_reducible rfl
      simp only [Act.put, List.setIfInBounds_toArray, List.set_cons_zero, List.set_cons_succ]
      refine takeOp 11 (o := ⟨_, _, _, _, _, _⟩) (v := ?_) rfl (by kernel_rfl) (by rfl) hHeld ?_ ?_
      rotate_left
      · intro w' hSw; (try dsimp only at hSw); go_simp; all_goals with_reducible rfl
      simp only [Act.put, List.setIfInBounds_toArray, List.set_cons_zero, List.set_cons_succ]
      refine takeOp 12 (o := ⟨_, _, _, _, _, _⟩) (v := ?_) rfl (by kernel_rfl) (by rfl) hHeld ?_ ?_
      rotate_left
      · intro w' hSw; (try dsimp only at hSw); go_simp; all_goals with_reducible rfl
      simp only [Act.put, List.setIfInBounds_toArray, List.set_cons_zero, List.set_cons_succ]
      refine wpAnyH_done (by kernel_rfl) ?_ _
      refine NoPanic.normal ?_
      clear hHeld d0 d1 d2 d3 d4 d5 d6
      cases b
      · go_wp2
        go_roundg (N - (j + 1))
        case measure => have := HJ.out; omega
        case rel =>
          have e := HSN.out
          simp only [Bool.false_eq_true, if_false] at e
          exact ⟨j + 1, m, _, rfl, by go_num, HJ.out, Nat.le_succ_of_le HMJ.out, Nat.le_refl _, Hid.of (by rw [e]; exact HM.out), Hid.of (by rw [e]; exact O4.out), B4⟩
      · have k1 := CS4.out.head
        have k2 := CS4.out.tail.tail.head
        have k3 : In64 z := XF.out.2.2
        have K3 := Hid.of k3
        go_upto_region 7 with fail
        have B4' := (Below.refl w4.heap.size w4).drew
        have B5 := Hid.of (B4.out.trans (B4'.mono B4.out.size))
        have O5 := Hid.of (iown_kept O4.out B4')
        clear k1 k2 k3 B4'
        have CS5 : Hid (Cs w4 [(⟨y, 0, none⟩, .string n), (⟨y, 2, none⟩, .int .i64 z)]) := Hid.of (.cons (CS4.out _ (List.mem_cons_self ..)).1 CS4.out.head (.cons (CS4.out _ (List.mem_cons_self ..)).1 CS4.out.tail.tail.head (.nil _)))
        have d0 := (CS5.out).head
        have d1 := ((CS5.out).tail).head
        refine wp_region_noPanic ?_
        refine wp_region_held_drew (S := fun w' => w'.cell? ⟨y, 0, none⟩ = some (.string n) ∧ w'.cell? ⟨y, 2, none⟩ = some (.int .i64 z)) (by kernel_rfl) ?_ (fun hHeld => ?_)
        · exact ⟨d0, d1⟩
        refine takeOp 0 (o := ⟨_, _, _, _, _, _⟩) (v := ?_) rfl (by kernel_rfl) (by rfl) hHeld ?_ ?_
        rotate_left
        · intro w' hSw; (try dsimp only at hSw); go_simp; all_goals with_reducible rfl
        simp only [Act.put, List.setIfInBounds_toArray, List.set_cons_zero, List.set_cons_succ]
        refine takeOp 1 (o := ⟨_, _, _, _, _, _⟩) (v := ?_) rfl (by kernel_rfl) (by rfl) hHeld ?_ ?_
        rotate_left
        · intro w' hSw; (try dsimp only at hSw); go_simp; all_goals with_reducible rfl
        simp only [Act.put, List.setIfInBounds_toArray, List.set_cons_zero, List.set_cons_succ]
        refine takeOp 2 (o := ⟨_, _, _, _, _, _⟩) (v := ?_) rfl (by kernel_rfl) (by rfl) hHeld ?_ ?_
        rotate_left
        · intro w' hSw; (try dsimp only at hSw); go_simp; all_goals with_reducible rfl
        simp only [Act.put, List.setIfInBounds_toArray, List.set_cons_zero, List.set_cons_succ]
        refine takeOp 3 (o := ⟨_, _, _, _, _, _⟩) (v := ?_) rfl (by kernel_rfl) (by rfl) hHeld ?_ ?_
        rotate_left
        · intro w' hSw; (try dsimp only at hSw); go_simp; all_goals with_reducible rfl
        simp only [Act.put, List.setIfInBounds_toArray, List.set_cons_zero, List.set_cons_succ]
        refine takeOp 4 (o := ⟨_, _, _, _, _, _⟩) (v := ?_) rfl (by kernel_rfl) (by rfl) hHeld ?_ ?_
        rotate_left
        · intro w' hSw; (try dsimp only at hSw); go_simp; all_goals with_reducible rfl
        simp only [Act.put, List.setIfInBounds_toArray, List.set_cons_zero, List.set_cons_succ]
        refine takeOp 5 (o := ⟨_, _, _, _, _, _⟩) (v := ?_) rfl (by kernel_rfl) (by rfl) hHeld ?_ ?_
        rotate_left
        · intro w' hSw; (try dsimp only at hSw); go_simp; all_goals with_reducible rfl
        simp only [Act.put, List.setIfInBounds_toArray, List.set_cons_zero, List.set_cons_succ]
        refine wpAnyH_ready (rs := [6]) (by kernel_rfl) (by simp) ?_
        refine AllReadyH.cons (o := ⟨_, _, _, _, _, _⟩) rfl (fun K hK => ?_) AllReadyH.nil
        go_simp
        obtain ⟨w6, hw6⟩ : ∃ w6, (w4.alloc (.cells #[.int .i64 z] 3)).drew = w6 := ⟨_, rfl⟩
        have b6 : Below w4.heap.size w4 w6 := by rw [← hw6]; exact ((Below.refl _ _).alloc (Nat.le_refl _) _).drew
        have N6 : Hid (NumRow .i64 w6 (.slice (some ⟨w4.heap.size, 0, none⟩) 1 1) [z]) := Hid.of (by rw [← hw6]; exact num_1 w4 z _)
        have B6 := Hid.of (B4.out.trans (b6.mono B4.out.size))
        have O6 := Hid.of (iown_kept O4.out b6)
        have CS6 := Hid.of (CS5.out.next b6)
        rw [hw6]
        clear hw6 b6
        clear hHeld d0 d1
        have d0 := (CS6.out).head
        have d1 := ((CS6.out).tail).head
        refine hK.out _ _ ⟨d0, d1⟩ (fun hHeld => ?_)
        clear hK K
        try simp only [Act.put, List.setIfInBounds_toArray, List.set_cons_zero, List.set_cons_succ]
        refine wpAnyH_ready (rs := [7]) (by kernel_rfl) (by simp) ?_
        refine AllReadyH.cons (o := ⟨_, _, _, _, _, _⟩) rfl (fun K hK => ?_) AllReadyH.nil
        go_simp
        refine (aggOf_any _ [z] _ N6.out (ints_1 z K3.out) (by simp)).mono ?_
        rintro e w7 ⟨rfl, b7⟩
        have B7 := Hid.of (B6.out.trans (b7.mono B6.out.size))
        have O7 := Hid.of (iown_kept O6.out b7)
        have CS7 := Hid.of (CS6.out.next b7)
        obtain ⟨ag, hag⟩ : ∃ ag, agOf [z] = ag := ⟨_, rfl⟩
        rw [hag] at HSN ⊢
        clear b7 hag N6 B6 O6 CS6 B5 O5 CS5
        unfold agv
        clear hHeld d0 d1
        have d0 := (CS7.out).head
        have d1 := ((CS7.out).tail).head
        refine hK.out _ _ ⟨d0, d1⟩ (fun hHeld => ?_)
        clear hK K
        try simp only [Act.put, List.setIfInBounds_toArray, List.set_cons_zero, List.set_cons_succ]
        refine takeOp 8 (o := ⟨_, _, _, _, _, _⟩) (v := ?_) rfl (by kernel_rfl) (by rfl) hHeld ?_ ?_
        rotate_left
        · intro w' hSw; (try dsimp only at hSw); go_simp; all_goals with_reducible rfl
        simp only [Act.put, List.setIfInBounds_toArray, List.set_cons_zero, List.set_cons_succ]
        refine wpAnyH_ready (rs := [9]) (by kernel_rfl) (by simp) ?_
        refine AllReadyH.cons (o := ⟨_, _, _, _, _, _⟩) rfl (fun K hK => ?_) AllReadyH.nil
        go_simp
        obtain ⟨w8, hw8⟩ : ∃ w8, w7.alloc (.cells #[.string n, .int .i64 a, .int .i64 ag.c, .int .i64 ag.hi, .int .u64 ag.lo, .int .i64 ag.mn, .int .i64 ag.mx] 62) = w8 := ⟨_, rfl⟩
        have b8 : Below w7.heap.size w7 w8 := by rw [← hw8]; exact (Below.refl _ _).alloc (Nat.le_refl _) _
        have K8 : Hid (Cells w8 w7.heap.size 0 (flat renc ([(⟨n, a, ag⟩ : TRec)].map rl))) := Hid.of (by rw [← hw8]; exact new_trec w7 ⟨n, a, ag⟩ _)
        have B8 := Hid.of (B7.out.trans (b8.mono B7.out.size))
        have O8 := Hid.of (iown_kept O7.out b8)
        have CS8 := Hid.of (CS7.out.next b8)
        rw [hw8]
        clear hw8 b8
        clear hHeld d0 d1
        have d0 := (CS8.out).head
        have d1 := ((CS8.out).tail).head
        refine hK.out _ _ ⟨d0, d1⟩ (fun hHeld => ?_)
        clear hK K
        try simp only [Act.put, List.setIfInBounds_toArray, List.set_cons_zero, List.set_cons_succ]
        refine wpAnyH_ready (rs := [10]) (by kernel_rfl) (by simp) ?_
        refine AllReadyH.cons (o := ⟨_, _, _, _, _, _⟩) rfl (fun K hK => ?_) AllReadyH.nil
        refine step_append_keep rfl (.tmp 30) (.tmp 39) 26 rfl w.heap.size 62 i0 _ 7 64 Tryz.underlying26 HI.out HZ0.out HZ1.out HZ2.out rfl (by decide) lv m _ (by simp [Act.eval]) O8.out w7.heap.size 0 1 1 (flat renc ([(⟨n, a, ag⟩ : TRec)].map rl)) (by simp [Act.eval]) K8.out rfl (flat_ones renc_one _) (by unfold maxLen; omega) (by omega) B8.out.size ?_
        intro x9 w9 o9 g9 _ _
        have O9 := Hid.of o9
        have B9 : Hid (Below w.heap.size w w9) := Hid.of (B8.out.grown g9 B8.out.size (fun k hk => own_ge O8.out hk))
        have CS9 := Hid.of (CS8.out.grown g9 (fun q hq c => by have e : q.1.block = y := (by simp only [List.mem_cons, List.not_mem_nil, or_false] at hq; rcases hq with rfl | rfl <;> rfl); rw [e] at c; have := HLY.out _ c.symm; omega))
        clear o9 g9
        clear hHeld d0 d1
        have d0 := (CS9.out).head
        have d1 := ((CS9.out).tail).head
        refine hK.out _ _ ⟨d0, d1⟩ (fun hHeld => ?_)
        clear hK K
        try simp only [Act.put, List.setIfInBounds_toArray, List.set_cons_zero, List.set_cons_succ]
        refine takeOp 11 (o := ⟨_, _, _, _, _, _⟩) (v := ?_) rfl (by kernel_rfl) (by rfl) hHeld ?_ ?_
        rotate_left
        · intro w' hSw; (try dsimp only at hSw); go_simp; all_goals with_reducible rfl
        simp only [Act.put, List.setIfInBounds_toArray, List.set_cons_zero, List.set_cons_succ]
        refine wpAnyH_done (by kernel_rfl) ?_ _
        refine NoPanic.normal ?_
        go_wp2
        go_roundg (N - (j + 1))
        case measure => have := HJ.out; omega
        case rel =>
          have e := HSN.out
          simp only [if_true] at e
          refine ⟨j + 1, m + 1, _, rfl, by go_num, HJ.out, Nat.succ_le_succ HMJ.out, Nat.le_refl _, Hid.of (by rw [e, List.length_append, HM.out]; rfl), Hid.of ?_, B9⟩
          rw [e, List.map_append, flat_append]
          exact O9.out
    · obtain rfl : j = N := by omega
      have e : ss.take j = ss := by rw [← HN.out, List.take_length]
      have HM2 := HM.out
      have HO2 := HO.out
      rw [e] at HM2 HO2
      rw [← HM2] at HO2
      have HO3 := Hid.of HO2
      clear HM2 HO2 e
      go_wp2
      go_ret
      exact ⟨_, rfl, HO3.out, HB.out⟩

end Go.Proofs.YtnohmloilcpmiaaGreat

namespace Go.Proofs.YtnohmloilcpmiaaGreat
open Go.RowKit Go.Lib

theorem iRecs_fit {r : RchL} {T : List (List TRec)} (h : IGood r T) {i : Nat} (hi : i < T.length) {ss : List SamL} (hs : ∀ s ∈ ss, SFit s) (ht : ∀ s ∈ ss, rTakes r s.1 s.2.1 = 0) : ∀ x ∈ iRecs r i ss, TFit x := by
  intro x hx
  obtain ⟨s, hs', rfl⟩ := List.mem_map.1 hx
  obtain ⟨h1, _⟩ := List.mem_filter.1 hs'
  exact iRec_fit h hi (hs s h1) (rTakes_ok (ht s h1)).2.1

theorem iCheck_zero {r : RchL} {ss : List SamL} (h : iCheck r ss = 0) : ss ≠ [] ∧ ss.length ≤ 8 ∧ ∀ s ∈ ss, rTakes r s.1 s.2.1 = 0 := by
  unfold iCheck at h
  split at h
  · cases h
  · split at h
    · cases h
    · exact ⟨‹_›, by omega, iTakes_zero.1 h⟩

set_option maxRecDepth 20000 in
set_option maxHeartbeats 3200000 in
theorem iput_any {TS : TableSpec} {w : World} {p : Nat} {r : RchL} {T : List (List TRec)} {F : TFoot} (u : Value) (ss : List SamL) (h : IRep TS w p r T F) (hl : ∀ l ∈ T, l.length + 8 ≤ 1000) (hu : CellRow w u ss.length (flat aenc ss)) (hlen : ss.length ≤ 1000) (hoff : ss ≠ [] → Off F.own u) (hfit : ∀ s ∈ ss, SFit s) :
    Calls Tryz.prog 12 #[tptr p, u] w fun x w' => x = .returned (.int .i64 (iCheck r ss)) ∧ ∃ F', IRep TS w' p r (if iCheck r ss = 0 then iPut r T ss else T) F' ∧ TStep F F' w w' := by
  obtain ⟨s, f, v, qs, Fs, h, hg, rfl⟩ := h
  obtain ⟨va, vc, rfl, -⟩ := h.tabs
  obtain ⟨N, hN⟩ : ∃ N, T.length = N := ⟨_, rfl⟩
  rw [hN] at h hoff ⊢
  have hmp := iMayPut_any h hg.pos.1 u ss hu (by omega) hfit
  have H := Hid.of h
  have HG := Hid.of hg
  have HU := Hid.of hu
  have HF := Hid.of hfit
  have HL := Hid.of hl
  have HO := Hid.of hoff
  obtain ⟨ua, uc, rfl, -⟩ := hu
  obtain ⟨M, hM⟩ : ∃ M, ss.length = M := ⟨_, rfl⟩
  have HM := Hid.of hM
  rw [hM] at HU HO hmp hlen ⊢
  have HN := Hid.of hN
  have hN5 : N ≤ 5 := by rw [← hN]; exact hg.pos.2
  obtain ⟨ce, hce⟩ : ∃ ce, iCheck r ss = ce := ⟨_, rfl⟩
  have HC := Hid.of hce
  rw [hce] at hmp ⊢
  clear h hg hfit hl hoff hM hN hce
  by_cases h0 : ce = 0
  · have HC0 := Hid.of (iCheck_zero (HC.out.trans h0))
    have HOF : Hid (Off (iFoot p s f (.slice va N vc) Fs).own (.slice ua M uc)) := Hid.of (HO.out HC0.out.1)
    have HLEN : Hid (M ≤ 8) := Hid.of (by rw [← HM.out]; exact HC0.out.2.1)
    rw [if_pos h0]
    subst h0
    clear HO
    go_enter Tryz.func12, Tryz.ntmps12
    go_wp2_with fail
    refine hmp.mono ?_
    rintro e w1 ⟨rfl, b1⟩
    have IT1 := H.out.below b1
    obtain ⟨-, -, -, -, c4⟩ := IT1.c
    have ST1 : Hid (TStep (iFoot p s f (.slice va N vc) Fs) (iFoot p s f (.slice va N vc) Fs) w w1) := Hid.of (TStep.of_below b1)
    have H1 := Hid.of IT1
    clear b1 IT1 hmp H
    go_wp2
    go_loopg [6, 7, 19] N (fun kx _ _ iv wr => ∃ (j : Nat) (Gs : List TFoot), iv = .int .i64 j ∧ j ≤ N ∧ N - j ≤ kx ∧ Hid (ITs TS wr p r (doneTo (fun i l => tAdds (tEv r i) l (iRecs r i ss)) T j) s f (.slice va N vc) qs Gs) ∧ Hid (TStep (iFoot p s f (.slice va N vc) Fs) (iFoot p s f (.slice va N vc) Gs) w wr))
    case atStart => exact ⟨0, Fs, rfl, Nat.zero_le _, Nat.le_refl _, Hid.of (by rw [doneTo_zero]; exact H1.out), ST1⟩
    case round =>
      clear H1 ST1 c4
      obtain ⟨j, Gs, rfl, hj, hk, IT, ST⟩ := hrel
      have j0 : (0 : Int) ≤ (j : Int) := Int.natCast_nonneg _
      by_cases hlt : (j : Int) < (N : Int)
      · obtain ⟨l, hT⟩ : ∃ l, T[j]? = some l := ⟨_, List.getElem?_eq_getElem (by have := HN.out; omega)⟩
        have hTj : j < T.length := by have := HN.out; omega
        have hdl := doneTo_at (fun i l => tAdds (tEv r i) l (iRecs r i ss)) hT
        have hds := doneTo_succ (fun i l => tAdds (tEv r i) l (iRecs r i ss)) hT
        obtain ⟨q, G, hq, hG, hrep⟩ := IT.out.at_i hdl
        have hcr := IT.out.tabs
        rw [doneTo_len, HN.out] at hcr
        obtain ⟨b1, o1, rfl, g1, d0⟩ := hcr.at j (tptr q) (by rw [List.getElem?_map, hq]; rfl)
        have hbk := iBuckets_any IT.out j (by omega) _ ss (by rw [HM.out]; exact ST.out.own.row HU.out HOF.out) (by rw [HM.out]; exact hlen) HF.out
        have HJ : Hid (j < N) := Hid.of (by omega)
        have HQ := Hid.of hq
        have HGG := Hid.of hG
        have HD := Hid.of hdl
        have HDS := Hid.of hds
        have HT := Hid.of hT
        have HTJ := Hid.of hTj
        clear hq hG hrep hcr g1 hdl hds hT hTj
        go_wp2_with fail
        refine hbk.mono ?_
        rintro e w2 ⟨y, rfl, o2, b2⟩
        have IT2 := Hid.of (IT.out.below b2)
        have ST2 := Hid.of (ST.out.trans (TStep.of_below b2))
        have hrep2 := IT2.out.rep j q l G HQ.out HD.out HGG.out
        have hadd := TS.add y (iRecs r j ss) hrep2 (by have := iRecs_len r j ss; have := HL.out l (List.mem_of_getElem? HT.out); have := HM.out; have := HLEN.out; omega) (own_row o2) (fun _ g hg c => by
          have h1 := own_ge o2 hg
          obtain ⟨q', G', hq', hG', hr'⟩ := IT.out.at_i HD.out
          rw [HGG.out] at hG'
          cases hG'
          have := TS.lt hr' g (TS.sub hr' g c)
          omega) (iRecs_fit HG.out HTJ.out HF.out HC0.out.2.2)
        clear o2 b2 hbk hrep2 d0 IT ST
        go_wp2_with fail
        refine hadd.mono ?_
        rintro e w3 ⟨rfl, G3, rep3, st3⟩
        obtain ⟨x1, x2⟩ := IT2.out.step HQ.out HD.out HGG.out rep3 st3
        rw [← HDS.out] at x1
        have IT3 := Hid.of x1
        have ST3 := Hid.of (ST2.out.trans x2)
        clear x1 x2 rep3 st3 hadd IT2 ST2
        go_wp2
        go_roundg (N - (j + 1))
        case measure => have := HJ.out; omega
        case rel => exact ⟨j + 1, _, by go_num, HJ.out, Nat.le_refl _, IT3, ST3⟩
      · obtain rfl : j = N := by omega
        have IT2 := IT.out
        rw [← HN.out, doneTo_all] at IT2
        have X : Hid (IRep TS wr p r (iPut r T ss) (iFoot p s f (.slice va j vc) Gs)) := Hid.of ⟨s, f, _, qs, Gs, by rw [HN.out] at IT2; exact IT2, HG.out.put HF.out HC0.out.2.2, rfl⟩
        clear IT2
        go_wp2
        go_ret
        exact ⟨rfl, _, X.out, ST.out⟩
  · have k0 : (ce != 0) = true := by simp [h0]
    rw [if_neg h0]
    clear h0 HO
    go_enter Tryz.func12, Tryz.ntmps12
    go_wp2_with fail
    refine hmp.mono ?_
    rintro e w1 ⟨rfl, b1⟩
    have X : Hid (IRep TS w1 p r T (iFoot p s f (.slice va N vc) Fs)) := Hid.of ⟨s, f, _, qs, Fs, H.out.below b1, HG.out, rfl⟩
    have Y : Hid (TStep (iFoot p s f (.slice va N vc) Fs) (iFoot p s f (.slice va N vc) Fs) w w1) := Hid.of (TStep.of_below b1)
    clear b1
    go_wp2
    go_ret
    exact ⟨rfl, _, X.out, Y.out⟩

theorem rFrom_nat' (r : RchL) (j : Nat) : rFrom r (j : Int) = rFromN r j := by
  unfold rFrom
  rw [if_neg (by omega), show ((j : Int).toNat) = j by omega]

theorem rFromN_in {r : RchL} (h : RFit r) (j : Nat) : TIn64 (rFromN r j) := by
  unfold rFromN
  cases h1 : r.2.1.2[j]? with
  | none => exact ⟨by show (-9223372036854775808 : Int) ≤ 0; decide, by show (0 : Int) ≤ _; decide⟩
  | some t =>
    have ht := h.2.1.2.2 t (List.mem_of_getElem? h1)
    have hb := gBack_int (now := r.1) (keep := t.2.2.1) (e := rEvery r.2.1.2 j) h.1 ht.2.2.1 (rEvery_in64 h.2.1 (List.getElem?_eq_some_iff.1 h1).1)
    cases h2 : r.2.2[j]? with
    | none => exact hb
    | some x =>
      have hx := h.2.2.2 x (List.mem_of_getElem? h2)
      show TIn64 (max _ _)
      unfold TIn64 In64 I64 at *
      omega

set_option maxRecDepth 20000 in
set_option maxHeartbeats 3200000 in
theorem itick_any {TS : TableSpec} {w : World} {p : Nat} {r : RchL} {T : List (List TRec)} {F : TFoot} (n : Int) (h : IRep TS w p r T F) (hl : ∀ l ∈ T, l.length ≤ 1000) (hn : In64 n) :
    Calls Tryz.prog 13 #[tptr p, .int .i64 n] w fun x w' => x = .returned (.int .i64 (iTickE r n)) ∧ ∃ F', IRep TS w' p (if iTickE r n = 0 then iNow r n else r) (if iTickE r n = 0 then iKeep (iNow r n) T else T) F' ∧ TStep F F' w w' := by
  obtain ⟨s, f, v, qs, Fs, h, hg, rfl⟩ := h
  obtain ⟨now, pol, fl⟩ := r
  have hno := iNone_any h hg.pos.1
  have n0 : 0 ≤ now := hg.n0
  have n1 : now ≤ 1099511627776 := hg.n1
  have H := Hid.of h
  have HG := Hid.of hg
  have HL := Hid.of hl
  have HN64 := Hid.of hn
  obtain ⟨N, hN⟩ : ∃ N, T.length = N := ⟨_, rfl⟩
  have HN := Hid.of hN
  have hN5 : N ≤ 5 := by rw [← hN]; exact hg.pos.2
  have X : Hid (IRep TS w p (now, pol, fl) T (iFoot p s f v Fs)) := Hid.of ⟨s, f, v, qs, Fs, h, hg, rfl⟩
  have c0 : w.cell? ⟨p, 0, none⟩ = some (.int .i64 now) := h.c.1
  have f0 : w.frozen? ⟨p, 0, none⟩ = false := row_frozen h.cell
  clear h hg hl hN
  by_cases hn0 : n < 0
  · have e : iTickE (now, pol, fl) n = 1 := by unfold iTickE; rw [if_pos hn0]
    rw [e]
    clear e
    go_enter Tryz.func13, Tryz.ntmps13
    go_wp2_with fail
    refine hno.mono ?_
    rintro e w1 ⟨rfl, rfl⟩
    go_wp2
    go_ret
    exact ⟨rfl, _, X.out, TStep.of_below (Below.refl _ _)⟩
  by_cases hn1 : n > 1099511627776 - now
  · have e : iTickE (now, pol, fl) n = 26 := by unfold iTickE maxT; rw [if_neg hn0, if_pos (by show 1099511627776 - now < n; omega)]
    rw [e]
    clear e
    go_enter Tryz.func13, Tryz.ntmps13
    go_wp2_with fail
    refine hno.mono ?_
    rintro e w1 ⟨rfl, rfl⟩
    go_wp2
    go_ret
    exact ⟨rfl, _, X.out, TStep.of_below (Below.refl _ _)⟩
  · have e : iTickE (now, pol, fl) n = 0 := by unfold iTickE maxT; rw [if_neg hn0, if_neg (by show ¬ 1099511627776 - now < n; omega)]
    rw [e, if_pos rfl, if_pos rfl]
    have hfit : RFit (iNow (now, pol, fl) n) := by
      have k := H.out.fit
      refine ⟨?_, k.2⟩
      show In64 (now + n)
      unfold In64
      omega
    obtain ⟨x1, x2⟩ := H.out.now n hfit
    have HGT := Hid.of (HG.out.tick (n := n) (by omega) (by unfold maxT; show n ≤ 1099511627776 - now; omega))
    obtain ⟨w1, hw1⟩ : ∃ w1, w.setCell ⟨p, 0, none⟩ (.int .i64 (now + n)) = w1 := ⟨_, rfl⟩
    have IT1 : ITs TS w1 p (iNow (now, pol, fl) n) T s f v qs Fs := by rw [← hw1]; exact x1
    have ST1 : Hid (TStep (iFoot p s f v Fs) (iFoot p s f v Fs) w w1) := Hid.of (by rw [← hw1]; exact x2)
    have hv1 := IT1.tabs
    obtain ⟨-, -, -, -, c4⟩ := IT1.c
    obtain ⟨va, vc, rfl, -⟩ := hv1
    rw [HN.out] at c4
    have H1 := Hid.of IT1
    rw [HN.out] at H1 ST1 ⊢
    obtain ⟨r, hr⟩ : ∃ r, iNow (now, pol, fl) n = r := ⟨_, rfl⟩
    rw [hr] at H1 HGT ⊢
    clear e IT1 x1 x2 X H HG hfit hr
    go_enter Tryz.func13, Tryz.ntmps13
    go_wp2_with fail
    refine hno.mono ?_
    rintro e w2 ⟨rfl, rfl⟩
    go_wp2
    clear hw1 c0 f0 hno
    go_loopg [5, 6, 38] N (fun kx _ _ iv wr => ∃ (j : Nat) (Gs : List TFoot), iv = .int .i64 j ∧ j ≤ N ∧ N - j ≤ kx ∧ Hid (ITs TS wr p r (doneTo (fun i l => tKeep l (rFromN r i)) T j) s f (.slice va N vc) qs Gs) ∧ Hid (TStep (iFoot p s f (.slice va N vc) Fs) (iFoot p s f (.slice va N vc) Gs) w2 wr))
    case atStart => exact ⟨0, Fs, rfl, Nat.zero_le _, Nat.le_refl _, Hid.of (by rw [doneTo_zero]; exact H1.out), ST1⟩
    case round =>
      clear H1 ST1 c4
      obtain ⟨j, Gs, rfl, hj, hk, IT, ST⟩ := hrel
      have j0 : (0 : Int) ≤ (j : Int) := Int.natCast_nonneg _
      by_cases hlt : (j : Int) < (N : Int)
      · obtain ⟨l, hT⟩ : ∃ l, T[j]? = some l := ⟨_, List.getElem?_eq_getElem (by have := HN.out; omega)⟩
        have hdl := doneTo_at (fun i l => tKeep l (rFromN r i)) hT
        have hds := doneTo_succ (fun i l => tKeep l (rFromN r i)) hT
        obtain ⟨q, G, hq, hG, hrep⟩ := IT.out.at_i hdl
        have hcr := IT.out.tabs
        rw [doneTo_len, HN.out] at hcr
        obtain ⟨b1, o1, rfl, g1, d0⟩ := hcr.at j (tptr q) (by rw [List.getElem?_map, hq]; rfl)
        have hfr := reaches.from_ _ r (j : Int) _ trivial IT.out.fit (by unfold In64; omega) IT.out.reach
        rw [rFrom_nat'] at hfr
        unfold rVal at hfr
        obtain ⟨k0, k1, k2, k3, -⟩ := IT.out.c
        have HJ : Hid (j < N) := Hid.of (by omega)
        have HQ := Hid.of hq
        have HGG := Hid.of hG
        have HD := Hid.of hdl
        have HDS := Hid.of hds
        have HLE : Hid (l.length ≤ 1000) := Hid.of (HL.out l (List.mem_of_getElem? hT))
        clear hq hG hrep hcr g1 hdl hds hT
        go_wp2_with fail
        refine hfr.mono ?_
        rintro e w3 ⟨rfl, b3⟩
        have IT2 := Hid.of (IT.out.below b3)
        have ST2 := Hid.of (ST.out.trans (TStep.of_below b3))
        have hdr := TS.drop (rFromN r j) (IT2.out.rep j q l G HQ.out HD.out HGG.out) HLE.out (rFromN_in IT2.out.fit j)
        clear b3 hfr d0 IT ST k0 k1 k2 k3
        go_wp2_with fail
        refine hdr.mono ?_
        rintro e w4 ⟨rfl, G4, rep4, st4⟩
        obtain ⟨x1, x2⟩ := IT2.out.step HQ.out HD.out HGG.out rep4 st4
        rw [← HDS.out] at x1
        have IT4 := Hid.of x1
        have ST4 := Hid.of (ST2.out.trans x2)
        clear x1 x2 rep4 st4 hdr IT2 ST2
        go_wp2
        go_roundg (N - (j + 1))
        case measure => have := HJ.out; omega
        case rel => exact ⟨j + 1, _, by go_num, HJ.out, Nat.le_refl _, IT4, ST4⟩
      · obtain rfl : j = N := by omega
        have IT2 := IT.out
        rw [← HN.out, doneTo_all] at IT2
        have X : Hid (IRep TS wr p r (iKeep r T) (iFoot p s f (.slice va T.length vc) Gs)) := Hid.of ⟨s, f, _, qs, Gs, IT2, HGT.out, rfl⟩
        rw [HN.out] at X
        clear IT2
        go_wp2
        go_ret
        exact ⟨rfl, _, X.out, ST.out⟩

end Go.Proofs.YtnohmloilcpmiaaGreat

namespace Go.Proofs.YtnohmloilcpmiaaGreat
open Go.RowKit Go.Lib

/-- What a nil table answers. -/
structure TNil : Prop where
  all : ∀ w, Calls Tryz.prog 57 #[.pointer none] w fun x w' => x = .returned (.slice none 0 0) ∧ Below w.heap.size w w'
  copy : ∀ w, Calls Tryz.prog 56 #[.pointer none] w fun x w' => x = .returned (.pointer none) ∧ w' = w

theorem modify_set {T : List (List TRec)} {i : Nat} {l : List TRec} (h : T[i]? = some l) (g : List TRec → List TRec) : T.modify i g = T.set i (g l) := by
  refine List.ext_getElem? fun k => ?_
  rw [List.getElem?_modify]
  by_cases c : i = k
  · subst c
    rw [List.getElem?_set_self (List.getElem?_eq_some_iff.1 h).1, h]
    simp
  · rw [List.getElem?_set_ne c]
    simp [c]
theorem modify_none {T : List (List TRec)} {i : Nat} (h : T.length ≤ i) (g : List TRec → List TRec) : T.modify i g = T := by
  refine List.ext_getElem? fun k => ?_
  rw [List.getElem?_modify]
  by_cases c : i = k
  · subst c
    rw [List.getElem?_eq_none h]
    rfl
  · simp [c]

/-- Records are loaded. -/
theorem IGood.load {r : RchL} {T : List (List TRec)} (h : IGood r T) {i : Nat} {l : List TRec} (hl : T[i]? = some l) {rs : List TRec} (hr : ∀ x ∈ rs, TFit x) : IGood r (T.set i (tAdds (tEv r i) l (iFresh r i rs))) := by
  have hf : ∀ x ∈ iFresh r i rs, TFit x ∧ rFromN r i ≤ x.s := fun x hx => ⟨hr x (List.mem_filter.1 hx).1, of_decide_eq_true (List.mem_filter.1 hx).2⟩
  have hi := (List.getElem?_eq_some_iff.1 hl).1
  have hset : ∀ (k : Nat) m, (T.set i (tAdds (tEv r i) l (iFresh r i rs)))[k]? = some m → (k = i ∧ m = tAdds (tEv r i) l (iFresh r i rs)) ∨ T[k]? = some m := fun k m hm => by
    by_cases c : k = i
    · subst c
      rw [List.getElem?_set_self hi] at hm
      exact .inl ⟨rfl, (Option.some.inj hm).symm⟩
    · rw [List.getElem?_set_ne (fun e => c e.symm)] at hm
      exact .inr hm
  have m0 := h.made i l hl
  exact {
    n0 := h.n0, n1 := h.n1, chk := h.chk, fl := h.fl, flo := h.flo
    len := by rw [List.length_set]; exact h.len
    made := fun k m hm => by
      rcases hset k m hm with ⟨rfl, rfl⟩ | hm
      · exact m0.adds (fun y hy => (hf y hy).1)
      · exact h.made k m hm
    fit := fun k m hm => by
      rcases hset k m hm with ⟨rfl, rfl⟩ | hm
      · intro y hy
        have a := tAdds_all (e := tEv r k) m0.al (fun z hz => ((hf z hz).1).2.2) y hy
        have s := tAdds_s (Q := fun s => TIn64 s) m0.s64 (fun z hz => (hf z hz).1.2.1) y hy
        have b := (m0.adds (fun z hz => (hf z hz).1)).name hy
        exact ⟨by have := b.2; unfold maxLen; omega, s, a.2⟩
      · exact h.fit k m hm
    above := fun k m hm => by
      rcases hset k m hm with ⟨rfl, rfl⟩ | hm
      · exact fun y hy => tAdds_s (Q := fun s => rFromN r k ≤ s) (h.above k l hl) (fun z hz => (hf z hz).2) y hy
      · exact h.above k m hm }

theorem iFresh_snoc {r : RchL} {i : Nat} {rs : List TRec} {j : Nat} {x : TRec} (hx : rs[j]? = some x) : iFresh r i (rs.take (j + 1)) = if rFromN r i ≤ x.s then iFresh r i (rs.take j) ++ [x] else iFresh r i (rs.take j) := by
  have hj := (List.getElem?_eq_some_iff.1 hx).1
  unfold iFresh
  rw [List.take_succ_eq_append_getElem hj, (List.getElem?_eq_some_iff.1 hx).2, List.filter_append]
  by_cases c : rFromN r i ≤ x.s
  · rw [if_pos c, List.filter_cons_of_pos (by simpa using c), List.filter_nil]
  · rw [if_neg c, List.filter_cons_of_neg (by simpa using c), List.filter_nil, List.append_nil]

/-- Sums over the tiers, up to one. -/
def sumTo (g : Nat → List TRec → Nat) (T : List (List TRec)) (j : Nat) : Nat := ((T.take j).mapIdx g).sum
theorem sumTo_zero (g : Nat → List TRec → Nat) (T : List (List TRec)) : sumTo g T 0 = 0 := by unfold sumTo; rw [List.take_zero]; rfl
theorem sumTo_all (g : Nat → List TRec → Nat) (T : List (List TRec)) : sumTo g T T.length = (T.mapIdx g).sum := by unfold sumTo; rw [List.take_length]
theorem sumTo_succ (g : Nat → List TRec → Nat) {T : List (List TRec)} {j : Nat} {l : List TRec} (h : T[j]? = some l) : sumTo g T (j + 1) = sumTo g T j + g j l := by
  have hj := (List.getElem?_eq_some_iff.1 h).1
  unfold sumTo
  rw [List.take_succ_eq_append_getElem hj, (List.getElem?_eq_some_iff.1 h).2, List.mapIdx_append, List.sum_append]
  have e : (T.take j).length = j := by rw [List.length_take]; omega
  rw [e]
  simp
theorem sumTo_le {g : Nat → List TRec → Nat} {T : List (List TRec)} {m : Nat} (h : ∀ (i : Nat) l, T[i]? = some l → g i l ≤ m) : ∀ j, j ≤ T.length → sumTo g T j ≤ m * j
  | 0, _ => by rw [sumTo_zero]; exact Nat.zero_le _
  | j + 1, hj => by
    obtain ⟨l, hl⟩ : ∃ l, T[j]? = some l := ⟨_, List.getElem?_eq_getElem (by omega)⟩
    rw [sumTo_succ g hl, Nat.mul_succ]
    have := sumTo_le h j (by omega)
    have := h j l hl
    omega

set_option maxRecDepth 20000 in
set_option maxHeartbeats 3200000 in
theorem iload_any {TS : TableSpec} {w : World} {p : Nat} {r : RchL} {T : List (List TRec)} {F : TFoot} (i : Int) (u : Value) (rs : List TRec) (h : IRep TS w p r T F) (hl : ∀ l ∈ T, l.length + rs.length ≤ 1000) (hu : CellRow w u rs.length (flat renc (rs.map rl))) (hfit : ∀ x ∈ rs, TFit x) :
    Calls Tryz.prog 14 #[tptr p, .int .i64 i, u] w fun x w' => x = .returned (.int .i64 (if 0 ≤ i ∧ i.toNat < T.length then (tCount (tEv r i.toNat) (iFresh r i.toNat rs) : Nat) else 0)) ∧ ∃ F', IRep TS w' p r (if 0 ≤ i then iLoad r T i.toNat rs else T) F' ∧ TStep F F' w w' := by
  obtain ⟨s, f, v, qs, Fs, h, hg, rfl⟩ := h
  by_cases hi : 0 ≤ i ∧ i.toNat < T.length
  · obtain ⟨i, rfl⟩ : ∃ k : Nat, i = (k : Int) := ⟨i.toNat, by omega⟩
    have hi2 : i < T.length := by omega
    rw [if_pos hi, if_pos hi.1, show ((i : Int).toNat) = i by omega]
    obtain ⟨l, hT⟩ : ∃ l, T[i]? = some l := ⟨_, List.getElem?_eq_getElem hi2⟩
    obtain ⟨q, G, hq, hG, hrep⟩ := h.at_i hT
    have hat := iAt_any h hq
    have hi5 := hg.pos.2
    obtain ⟨i0, hi0, hz0, hz1, hz2⟩ := info_parts rec_info'
    have HI := Hid.of hi0
    have HZ0 := Hid.of hz0
    have HZ1 := Hid.of hz1
    have HZ2 := Hid.of hz2
    have hfr := reaches.from_ _ r (i : Int) w trivial h.fit (by unfold In64; omega) h.reach
    rw [rFrom_nat'] at hfr
    unfold rVal at hfr
    obtain ⟨k0, k1, k2, k3, -⟩ := h.c
    have H := Hid.of h
    have HQ := Hid.of hq
    have HGG := Hid.of hG
    have HT := Hid.of hT
    have HG := Hid.of hg
    have HL : Hid (l.length + rs.length ≤ 1000) := Hid.of (hl l (List.mem_of_getElem? hT))
    have HU := Hid.of hu
    have HF := Hid.of hfit
    have hrec := Hid.of hrep
    obtain ⟨ua, uc, rfl, -⟩ := hu
    obtain ⟨N, hN⟩ : ∃ N, rs.length = N := ⟨_, rfl⟩
    have HN := Hid.of hN
    rw [hN] at HU HL ⊢
    obtain ⟨fr, hfrn⟩ : ∃ fr, rFromN r i = fr := ⟨_, rfl⟩
    have HFR := Hid.of hfrn
    rw [hfrn] at hfr
    have hN1 : N ≤ 1000 := by have := HL.out; omega
    clear h hfit hl hi hi2 hT hq hG hrep hg hi0 hz0 hz1 hz2 hN hfrn hi5
    go_enter Tryz.func14, Tryz.ntmps14
    go_wp2_with fail
    refine hat.mono ?_
    rintro e w1 ⟨rfl, rfl⟩
    go_wp2_with fail
    refine hfr.mono ?_
    rintro e w2 ⟨rfl, b2⟩
    have B2 := Hid.of b2
    clear b2 hfr hat k0 k1 k2 k3
    go_wp2
    go_loopg [9, 11, 25] N (fun kx av _ iv wr => ∃ (j m : Nat) (lv : Value), lv = av ∧ iv = .int .i64 j ∧ j ≤ N ∧ m ≤ j ∧ N - j ≤ kx ∧ Hid ((iFresh r i (rs.take j)).length = m) ∧ Hid (wr.ownsRow w1.heap.size 62 7 lv m (flat renc ((iFresh r i (rs.take j)).map rl))) ∧ Hid (Below w1.heap.size w1 wr))
    case atStart => exact ⟨0, 0, _, rfl, rfl, Nat.zero_le _, Nat.le_refl _, Nat.le_refl _, Hid.of rfl, Hid.of (World.ownsRow_nil _ _ _ _), B2⟩
    case round =>
      clear B2
      obtain ⟨j, m, lv, rfl, rfl, hj, hm, hk, HM, HO, HB⟩ := hrel
      have j0 : (0 : Int) ≤ (j : Int) := Int.natCast_nonneg _
      by_cases hlt : (j : Int) < (N : Int)
      · obtain ⟨x, hx⟩ : ∃ x, rs[j]? = some x := ⟨_, List.getElem?_eq_getElem (by have := HN.out; omega)⟩
        obtain ⟨b1, o1, rfl, g1, d0, d1, d2, d3, d4, d5, d6⟩ := r_at (HU.out.kept HB.out) j (rl x) (by rw [List.getElem?_map, hx]; rfl)
        obtain ⟨n, t, a⟩ := x
        have HX := Hid.of hx
        have HJ : Hid (j < N) := Hid.of (by omega)
        have hmN : m ≤ 1000 := by omega
        unfold rl at d0 d1 d2 d3 d4 d5 d6
        simp only at d0 d1 d2 d3 d4 d5 d6
        obtain ⟨y, hy⟩ : ∃ y, wr.heap.size = y := ⟨_, rfl⟩
        obtain ⟨w3, hw3⟩ : ∃ w3, wr.alloc (.cells #[.string n, .int .i64 t, .int .i64 a.c, .int .i64 a.hi, .int .u64 a.lo, .int .i64 a.mn, .int .i64 a.mx] 62) = w3 := ⟨_, rfl⟩
        have hz3 : w3.heap[y]? = some (.cells #[.string n, .int .i64 t, .int .i64 a.c, .int .i64 a.hi, .int .u64 a.lo, .int .i64 a.mn, .int .i64 a.mx] 62 (0, 0)) := by rw [← hw3, ← hy]; exact (MapKept.heap_alloc wr _).1
        have b3 : Below wr.heap.size wr w3 := by rw [← hw3]; exact (Below.refl _ _).alloc (Nat.le_refl _) _
        have B3 : Hid (Below w1.heap.size w1 w3) := Hid.of (HB.out.trans (b3.mono HB.out.size))
        have O3 := Hid.of (iown_kept HO.out b3)
        have HSN := Hid.of (iFresh_snoc (r := r) (i := i) hx)
        have HMJ := Hid.of hm
        have HW := Hid.of hw3
        have HY := Hid.of hy
        clear hx g1 b3 HB HO hw3 hy hm
        go_upto_region 9 with fail
        rw [HW.out, HY.out]
        clear HW HY d0 d1 d2 d3 d4 d5 d6
        have e0 : w3.cell? ⟨y, 0, none⟩ = some (.string n) := by rw [cell_of_row _ _ _ _ _ _ hz3]; rfl
        have e1 : w3.cell? ⟨y, 1, none⟩ = some (.int .i64 t) := by rw [cell_of_row _ _ _ _ _ _ hz3]; rfl
        have e2 : w3.cell? ⟨y, 2, none⟩ = some (.int .i64 a.c) := by rw [cell_of_row _ _ _ _ _ _ hz3]; rfl
        have e3 : w3.cell? ⟨y, 3, none⟩ = some (.int .i64 a.hi) := by rw [cell_of_row _ _ _ _ _ _ hz3]; rfl
        have e4 : w3.cell? ⟨y, 4, none⟩ = some (.int .u64 a.lo) := by rw [cell_of_row _ _ _ _ _ _ hz3]; rfl
        have e5 : w3.cell? ⟨y, 5, none⟩ = some (.int .i64 a.mn) := by rw [cell_of_row _ _ _ _ _ _ hz3]; rfl
        have e6 : w3.cell? ⟨y, 6, none⟩ = some (.int .i64 a.mx) := by rw [cell_of_row _ _ _ _ _ _ hz3]; rfl
        clear hz3
        by_cases hc : t ≥ fr
        · have HS2 : Hid (iFresh r i (rs.take (j + 1)) = iFresh r i (rs.take j) ++ [⟨n, t, a⟩]) := Hid.of (by rw [HSN.out, if_pos (by rw [HFR.out]; exact hc)])
          clear HSN
          go_wp2_with (at_builtin; refine append_keep_law rfl (.tmp 33) (.tmp 35) 26 rfl w1.heap.size 62 i0 _ 7 64 Tryz.underlying26 HI.out HZ0.out HZ1.out HZ2.out rfl (by decide) lv m _ rfl (World.ownsRow.alloc O3.out _) w3.heap.size 0 1 1 (flat renc ([(⟨n, t, a⟩ : TRec)].map rl)) rfl (new_trec w3 ⟨n, t, a⟩ _) rfl (by intro z hz; exact flat_ones renc_one _ z hz) (by unfold maxLen; omega) (by omega) (by simp; have := B3.out.size; omega) ?_; intro x4 w4 o4 g4 _ _; have O4 := Hid.of o4; have G4 := Hid.of g4; clear o4 g4)
          go_roundg (N - (j + 1))
          case measure => have := HJ.out; omega
          case rel =>
            refine ⟨j + 1, m + 1, _, rfl, by go_num, HJ.out, Nat.succ_le_succ HMJ.out, Nat.le_refl _, Hid.of (by rw [HS2.out, List.length_append, HM.out]; rfl), Hid.of ?_, Hid.of ((B3.out.alloc B3.out.size _).grown G4.out (by simp; have := B3.out.size; omega) (fun k hk => own_ge O3.out hk))⟩
            rw [HS2.out, List.map_append, flat_append]
            exact O4.out
        · have HS2 : Hid (iFresh r i (rs.take (j + 1)) = iFresh r i (rs.take j)) := Hid.of (by rw [HSN.out, if_neg (by rw [HFR.out]; exact hc)])
          clear HSN
          go_wp2
          go_roundg (N - (j + 1))
          case measure => have := HJ.out; omega
          case rel => exact ⟨j + 1, m, _, rfl, by go_num, HJ.out, Nat.le_succ_of_le HMJ.out, Nat.le_refl _, Hid.of (by rw [HS2.out]; exact HM.out), Hid.of (by rw [HS2.out]; exact O3.out), B3⟩
      · obtain rfl : j = N := by omega
        have e : rs.take j = rs := by rw [← HN.out, List.take_length]
        have HM2 := HM.out
        have HO2 := HO.out
        rw [e] at HM2 HO2
        rw [← HM2] at HO2
        have IT := H.out.below HB.out
        have hrep2 := IT.rep i q l G HQ.out HT.out HGG.out
        have hadd := TS.add lv (iFresh r i rs) hrep2 (by have := HL.out; omega) (own_row HO2) (fun _ g hg c => by
          have h1 := own_ge HO2 hg
          have h2 := TS.lt (H.out.rep i q l G HQ.out HT.out HGG.out) g (TS.sub (H.out.rep i q l G HQ.out HT.out HGG.out) g c)
          omega) (fun y hy => HF.out y (List.mem_filter.1 hy).1)
        have IT2 := Hid.of IT
        clear HM2 HO2 e IT hrep2
        go_wp2_with fail
        refine hadd.mono ?_
        rintro e w3 ⟨rfl, G3, rep3, st3⟩
        obtain ⟨x1, x2⟩ := IT2.out.step HQ.out HT.out HGG.out rep3 st3
        have X : Hid (IRep TS w3 p r (iLoad r T i rs) (iFoot p s f v (Fs.set i G3))) := Hid.of ⟨s, f, v, qs, _, by unfold iLoad; rw [modify_set HT.out]; exact x1, by unfold iLoad; rw [modify_set HT.out]; exact HG.out.load HT.out HF.out, rfl⟩
        have Y := Hid.of ((TStep.of_below HB.out).trans x2)
        clear x1 x2 rep3 st3 hadd
        go_wp2
        go_ret
        exact ⟨rfl, _, X.out, Y.out⟩
  · have hat := iAt_no h hi
    have e : (if 0 ≤ i then iLoad r T i.toNat rs else T) = T := by
      split
      · exact modify_none (by omega) _
      · rfl
    have X : Hid (IRep TS w p r T (iFoot p s f v Fs)) := Hid.of ⟨s, f, v, qs, Fs, h, hg, rfl⟩
    rw [if_neg hi, e]
    clear h hg hl hu hfit hi e
    go_enter Tryz.func14, Tryz.ntmps14
    go_wp2_with fail
    refine hat.mono ?_
    rintro e w1 ⟨rfl, rfl⟩
    go_wp2
    go_ret
    exact ⟨rfl, _, X.out, TStep.of_below (Below.refl _ _)⟩

set_option maxRecDepth 20000 in
set_option maxHeartbeats 3200000 in
theorem iask_any {TS : TableSpec} {w : World} {p : Nat} {r : RchL} {T : List (List TRec)} {F : TFoot} (n : ByteArray) (a b : Int) (h : IRep TS w p r T F) (hl : ∀ l ∈ T, l.length ≤ 1000) (hn : n.size ≤ 1000) (ha : In64 a) (hb : In64 b) :
    Calls Tryz.prog 11 #[tptr p, .string n, .int .i64 a, .int .i64 b] w fun x w' => ∃ u, (iAskE n a b = 0 → x = .returned (.tuple #[ansVal (rCover r a) u, .int .i64 0]) ∧ w'.ownsRow w.heap.size 62 7 u (tRange (iTab T (rCover r a)) n a b).length (flat renc ((tRange (iTab T (rCover r a)) n a b).map rl))) ∧ (iAskE n a b ≠ 0 → x = .returned (.tuple #[ansVal 0 u, .int .i64 (iAskE n a b)]) ∧ w'.ownsRow w.heap.size 62 7 u 0 []) ∧ Below w.heap.size w w' := by
  obtain ⟨s, f, v, qs, Fs, h, hg, rfl⟩ := h
  obtain ⟨z, hz⟩ : ∃ z, w.heap.size = z := ⟨_, rfl⟩
  obtain ⟨w1, hw1⟩ : ∃ w1, w.alloc (.cells #[.int .i64 0, .slice none 0 0] 28) = w1 := ⟨_, rfl⟩
  have b1 : Below w.heap.size w w1 := by rw [← hw1]; exact (Below.refl _ _).alloc (Nat.le_refl _) _
  have z1 : w1.heap[z]? = some (.cells #[.int .i64 0, .slice none 0 0] 28 (0, 0)) := by rw [← hw1, ← hz]; exact (MapKept.heap_alloc w _).1
  have hno := iNone_any (h.below b1) hg.pos.1
  have hma := iMayAsk_any n a b w1 (by unfold maxLen; omega)
  have H1 := Hid.of (h.below b1)
  have B1 := Hid.of b1
  have Z1 := Hid.of z1
  have HG := Hid.of hg
  have HL := Hid.of hl
  have HA := Hid.of ha
  have HBB := Hid.of hb
  have HZ : Hid (w.heap.size = z) := Hid.of hz
  have HW := Hid.of hw1
  clear h hg hl b1 z1 hz hw1 ha hb
  by_cases he : iAskE n a b = 0
  · rw [decide_eq_true he] at hma
    obtain ⟨c, hc, hcl, -⟩ := cover_some (r := r) a (by have := HG.out.pos.1; rw [HG.out.len] at this; exact this)
    have hcT : c < T.length := by rw [HG.out.len]; exact hcl
    obtain ⟨l, hT⟩ : ∃ l, T[c]? = some l := ⟨_, List.getElem?_eq_getElem hcT⟩
    have etab : iTab T (rCover r a) = l := by
      rw [hc]
      unfold iTab
      rw [if_neg (by omega), show ((c : Int).toNat) = c by omega, List.getD_eq_getElem?_getD, hT]
      rfl
    rw [etab, hc]
    have HE := Hid.of he
    have HT := Hid.of hT
    have HC := Hid.of hc
    have HLE : Hid (l.length ≤ 1000) := Hid.of (HL.out l (List.mem_of_getElem? hT))
    clear he etab hT hc hcl hcT
    go_enter Tryz.func11, Tryz.ntmps11
    go_upto_region 1 with fail
    rw [HW.out, HZ.out]
    clear HW
    go_wp2_with fail
    refine hno.mono ?_
    rintro e w2 ⟨rfl, rfl⟩
    go_wp2_with fail
    refine hma.mono ?_
    rintro e w3 ⟨rfl, b3⟩
    have H3 := Hid.of (H1.out.below b3)
    have B3 := Hid.of (B1.out.trans (b3.mono B1.out.size))
    have Z3 := Hid.of ((b3.block z (Array.getElem?_eq_some_iff.1 Z1.out).1).trans Z1.out)
    have hcv := reaches.cover _ r a w3 trivial H3.out.fit HA.out H3.out.reach
    rw [HC.out] at hcv
    unfold rVal at hcv
    obtain ⟨k0, k1, k2, k3, -⟩ := H3.out.c
    clear b3 hno hma H1 B1 Z1
    go_wp2_with fail
    refine hcv.mono ?_
    rintro e w4 ⟨rfl, b4⟩
    have IT4 := H3.out.below b4
    have B4 := Hid.of (B3.out.trans (b4.mono B3.out.size))
    have Z4 := Hid.of ((b4.block z (Array.getElem?_eq_some_iff.1 Z3.out).1).trans Z3.out)
    obtain ⟨q, G, hq, hG, hrep⟩ := IT4.at_i HT.out
    have hat := iAt_any IT4 hq
    have hrg := TS.range n a b hrep HLE.out (by omega) HA.out HBB.out
    clear b4 hcv k0 k1 k2 k3 H3 B3 Z3 IT4 hq hG hrep
    go_wp2_with fail
    refine hat.mono ?_
    rintro e w5 ⟨rfl, rfl⟩
    go_wp2_with fail
    refine hrg.mono ?_
    rintro e w6 ⟨u, rfl, o6, b6⟩
    obtain ⟨ua, uc, rfl, -⟩ := own_one o6
    have B6 := Hid.of (B4.out.trans (b6.mono B4.out.size))
    have z6 := (b6.block z (Array.getElem?_eq_some_iff.1 Z4.out).1).trans Z4.out
    have hz0 : w5.heap.size > z := (Array.getElem?_eq_some_iff.1 Z4.out).1
    have O6 := Hid.of o6
    have y0 := row_frozen (i := 0) z6
    have y1 := row_frozen (i := 1) z6
    have t0 : w6.cell? ⟨z, 0, none⟩ = some (.int .i64 0) := by rw [cell_of_row _ _ _ _ _ _ z6]; rfl
    have t1 : w6.cell? ⟨z, 1, none⟩ = some (.slice none 0 0) := by rw [cell_of_row _ _ _ _ _ _ z6]; rfl
    obtain ⟨L, hL⟩ : ∃ L, (tRange l n a b).length = L := ⟨_, rfl⟩
    have HLL := Hid.of hL
    rw [hL] at O6 ⊢
    have z7 := row_set (i := 1) (row_set (i := 0) z6 (.int .i64 (c : Int))) (.slice ua L uc)
    have g7 : w6.grownBy ((w6.setCell ⟨z, 0, none⟩ (.int .i64 (c : Int))).setCell ⟨z, 1, none⟩ (.slice ua L uc)) (some z) := grownBy_trans (grownBy_setCell _ _ _ _) (grownBy_setCell _ _ _ _)
    obtain ⟨w7, hw7⟩ : ∃ w7, (w6.setCell ⟨z, 0, none⟩ (.int .i64 (c : Int))).setCell ⟨z, 1, none⟩ (.slice ua L uc) = w7 := ⟨_, rfl⟩
    rw [hw7] at z7 g7
    have B7 : Hid (Below w.heap.size w w7) := Hid.of (B6.out.grown g7 B6.out.size (fun k hk => by cases hk; exact Nat.le_of_eq HZ.out))
    have O7 : Hid (w7.ownsRow w.heap.size 62 7 (.slice ua L uc) L (flat renc ((tRange l n a b).map rl))) := Hid.of (iown_at (own_mono O6.out (D := w.heap.size) B4.out.size) (fun g hg => g7.block g (iown_lt O6.out hg) (fun c => by have := own_ge O6.out hg; have := Option.some.inj c; omega)))
    have q0 : w7.cell? ⟨z, 0, none⟩ = some (.int .i64 (c : Int)) := by rw [cell_of_row _ _ _ _ _ _ z7]; simp
    have q1 : w7.cell? ⟨z, 1, none⟩ = some (.slice ua L uc) := by rw [cell_of_row _ _ _ _ _ _ z7]; simp
    clear o6 b6 z6 hz0 z7 g7 hrg hat hL
    go_wp2
    rw [HE.out]
    refine bodyPost_ret (v := .tuple #[ansVal (c : Int) (.slice ua L uc), .int .i64 0]) ?_ rfl ⟨.slice ua L uc, fun _ => ⟨rfl, by rw [HLL.out]; exact O7.out⟩, fun x => absurd rfl x, B7.out⟩
    simp [results, Tryz.results11, go_sem, q0, q1]
  · rw [decide_eq_false he] at hma
    have he1 : iAskE n a b = 1 := by
      unfold iAskE at he ⊢
      split
      · rfl
      · rename_i hc
        rw [if_neg hc] at he
        exact absurd rfl he
    have HE := Hid.of he
    have HE1 := Hid.of he1
    clear he he1
    go_enter Tryz.func11, Tryz.ntmps11
    go_upto_region 1 with fail
    rw [HW.out, HZ.out]
    clear HW
    go_wp2_with fail
    refine hno.mono ?_
    rintro e w2 ⟨rfl, rfl⟩
    go_wp2_with fail
    refine hma.mono ?_
    rintro e w3 ⟨rfl, b3⟩
    have B3 := Hid.of (B1.out.trans (b3.mono B1.out.size))
    have z3 := (b3.block z (Array.getElem?_eq_some_iff.1 Z1.out).1).trans Z1.out
    have y0 := row_frozen (i := 0) z3
    have y1 := row_frozen (i := 1) z3
    have t0 : w3.cell? ⟨z, 0, none⟩ = some (.int .i64 0) := by rw [cell_of_row _ _ _ _ _ _ z3]; rfl
    have t1 : w3.cell? ⟨z, 1, none⟩ = some (.slice none 0 0) := by rw [cell_of_row _ _ _ _ _ _ z3]; rfl
    have z7 := row_set (i := 1) (row_set (i := 0) z3 (.int .i64 0)) (.slice none 0 0)
    have g7 : w3.grownBy ((w3.setCell ⟨z, 0, none⟩ (.int .i64 0)).setCell ⟨z, 1, none⟩ (.slice none 0 0)) (some z) := grownBy_trans (grownBy_setCell _ _ _ _) (grownBy_setCell _ _ _ _)
    obtain ⟨w7, hw7⟩ : ∃ w7, (w3.setCell ⟨z, 0, none⟩ (.int .i64 0)).setCell ⟨z, 1, none⟩ (.slice none 0 0) = w7 := ⟨_, rfl⟩
    rw [hw7] at z7 g7
    have B7 : Hid (Below w.heap.size w w7) := Hid.of (B3.out.grown g7 B3.out.size (fun k hk => by cases hk; exact Nat.le_of_eq HZ.out))
    have q0 : w7.cell? ⟨z, 0, none⟩ = some (.int .i64 0) := by rw [cell_of_row _ _ _ _ _ _ z7]; simp
    have q1 : w7.cell? ⟨z, 1, none⟩ = some (.slice none 0 0) := by rw [cell_of_row _ _ _ _ _ _ z7]; simp
    clear b3 z3 z7 g7 hno hma
    go_wp2
    rw [HE1.out]
    refine bodyPost_ret (v := .tuple #[ansVal 0 (.slice none 0 0), .int .i64 1]) ?_ rfl ⟨.slice none 0 0, fun x => absurd x (by decide), fun _ => ⟨rfl, World.ownsRow_nil _ _ _ _⟩, B7.out⟩
    simp [results, Tryz.results11, go_sem, q0, q1]

theorem itable_any {TS : TableSpec} (NT : TNil) {w : World} {p : Nat} {r : RchL} {T : List (List TRec)} {F : TFoot} (i : Int) (h : IRep TS w p r T F) (hl : ∀ l ∈ T, l.length ≤ 1000) :
    Calls Tryz.prog 15 #[tptr p, .int .i64 i] w fun x w' => (0 ≤ i ∧ i.toNat < T.length → ∃ q G, x = .returned (tptr q) ∧ TS.Rep w' q (tEv r i.toNat) (T.getD i.toNat []) G ∧ (∀ k, G.own k → w.heap.size ≤ k) ∧ (∀ k, G.all k → ¬ F.own k)) ∧ (¬ (0 ≤ i ∧ i.toNat < T.length) → x = .returned (.pointer none)) ∧ Below w.heap.size w w' := by
  obtain ⟨s, f, v, qs, Fs, h, hg, rfl⟩ := h
  by_cases hi : 0 ≤ i ∧ i.toNat < T.length
  · obtain ⟨k, rfl⟩ : ∃ k : Nat, i = (k : Int) := ⟨i.toNat, by omega⟩
    have HI := Hid.of hi
    rw [show ((k : Int).toNat) = k by omega] at hi ⊢
    obtain ⟨l, hT⟩ : ∃ l, T[k]? = some l := ⟨_, List.getElem?_eq_getElem hi.2⟩
    obtain ⟨q, G, hq, hG, hrep⟩ := h.at_i hT
    have hat := iAt_any h hq
    have hcp := TS.copy hrep (hl l (List.mem_of_getElem? hT))
    have H := Hid.of h
    rw [List.getD_eq_getElem?_getD, hT, Option.getD_some]
    clear hl hT hq hG hrep h hi hg
    go_enter Tryz.func15, Tryz.ntmps15
    go_wp2_with fail
    refine hat.mono ?_
    rintro e w1 ⟨rfl, rfl⟩
    go_wp2_with fail
    refine hcp.mono ?_
    rintro e w2 ⟨q2, G2, rfl, rep2, g1, g2, b2⟩
    have B2 := Hid.of b2
    have R2 := Hid.of rep2
    have G1 := Hid.of g1
    have GG2 : Hid (∀ k, G2.all k → ¬ (iFoot p s f v Fs).own k) := Hid.of (fun k hk c => by
      have h1 := g2 k hk
      have h2 := H.out.lt (H.out.sub c)
      omega)
    clear b2 rep2 g1 g2 hcp hat
    go_wp2
    go_ret
    exact ⟨fun _ => ⟨_, _, rfl, R2.out, G1.out, GG2.out⟩, fun x => absurd (by have := HI.out; rwa [show ((k : Int).toNat) = k by omega] at this) x, B2.out⟩
  · have hat := iAt_no h hi
    have hcp := NT.copy w
    have HI := Hid.of hi
    clear h hg hl hi
    go_enter Tryz.func15, Tryz.ntmps15
    go_wp2_with fail
    refine hat.mono ?_
    rintro e w1 ⟨rfl, rfl⟩
    go_wp2_with fail
    refine hcp.mono ?_
    rintro e w2 ⟨rfl, rfl⟩
    go_wp2
    go_ret
    exact ⟨fun x => absurd x HI.out, fun _ => rfl, Below.refl _ _⟩

theorem irecords_any {TS : TableSpec} (NT : TNil) {w : World} {p : Nat} {r : RchL} {T : List (List TRec)} {F : TFoot} (i : Int) (h : IRep TS w p r T F) (hl : ∀ l ∈ T, l.length ≤ 1000) :
    Calls Tryz.prog 16 #[tptr p, .int .i64 i] w fun x w' => ∃ u, x = .returned u ∧ w'.ownsRow w.heap.size 62 7 u (iTab T i).length (flat renc ((iTab T i).map rl)) ∧ Below w.heap.size w w' := by
  obtain ⟨s, f, v, qs, Fs, h, hg, rfl⟩ := h
  by_cases hi : 0 ≤ i ∧ i.toNat < T.length
  · obtain ⟨k, rfl⟩ : ∃ k : Nat, i = (k : Int) := ⟨i.toNat, by omega⟩
    obtain ⟨l, hT⟩ : ∃ l, T[k]? = some l := ⟨_, List.getElem?_eq_getElem (by omega)⟩
    obtain ⟨q, G, hq, hG, hrep⟩ := h.at_i hT
    have hat := iAt_any h hq
    have hal := TS.all hrep (hl l (List.mem_of_getElem? hT))
    have e : iTab T (k : Int) = l := by
      unfold iTab
      rw [if_neg (by omega), show ((k : Int).toNat) = k by omega, List.getD_eq_getElem?_getD, hT]
      rfl
    rw [e]
    clear hl hT hq hG hrep h hi hg e
    go_enter Tryz.func16, Tryz.ntmps16
    go_wp2_with fail
    refine hat.mono ?_
    rintro e w1 ⟨rfl, rfl⟩
    go_wp2_with fail
    refine hal.mono ?_
    rintro e w2 ⟨u, rfl, o2, b2⟩
    have B2 := Hid.of b2
    have O2 := Hid.of o2
    clear b2 o2 hal hat
    go_wp2
    go_ret
    exact ⟨_, rfl, O2.out, B2.out⟩
  · have hat := iAt_no h hi
    have hal := NT.all w
    have e : iTab T i = [] := by
      unfold iTab
      split
      · rfl
      · rw [List.getD_eq_getElem?_getD, List.getElem?_eq_none (by omega)]
        rfl
    rw [e]
    clear h hg hl hi e
    go_enter Tryz.func16, Tryz.ntmps16
    go_wp2_with fail
    refine hat.mono ?_
    rintro e w1 ⟨rfl, rfl⟩
    go_wp2_with fail
    refine hal.mono ?_
    rintro e w2 ⟨rfl, b2⟩
    have B2 := Hid.of b2
    clear b2
    go_wp2
    go_ret
    exact ⟨_, rfl, World.ownsRow_nil _ _ _ _, B2.out⟩

set_option maxRecDepth 20000 in
set_option maxHeartbeats 800000 in
theorem ilen_any {TS : TableSpec} {w : World} {p : Nat} {r : RchL} {T : List (List TRec)} {F : TFoot} (h : IRep TS w p r T F) (hl : ∀ l ∈ T, l.length ≤ 1000) :
    Calls Tryz.prog 18 #[tptr p] w fun x w' => x = .returned (.int .i64 (iLen T : Nat)) ∧ Below w.heap.size w w' := by
  obtain ⟨s, f, v, qs, Fs, h, hg, rfl⟩ := h
  have hN5 := hg.pos.2
  obtain ⟨-, -, -, -, c4⟩ := h.c
  obtain ⟨va, vc, rfl, -⟩ := h.tabs
  obtain ⟨N, hN⟩ : ∃ N, T.length = N := ⟨_, rfl⟩
  have e : iLen T = sumTo (fun _ l => l.length) T N := by
    rw [← hN, sumTo_all]
    unfold iLen
    congr 1
    refine List.ext_getElem? fun i => ?_
    rw [List.getElem?_map, List.getElem?_mapIdx]
  have HS : Hid (∀ j, j ≤ N → sumTo (fun _ l => l.length) T j ≤ 1000 * j) := Hid.of (fun j hj => sumTo_le (fun i l h => hl l (List.mem_of_getElem? h)) j (by omega))
  rw [e]
  rw [hN] at h c4 hN5
  have H := Hid.of h
  have HN := Hid.of hN
  have HL := Hid.of hl
  clear e h hN hl hg
  go_enter Tryz.func18, Tryz.ntmps18
  go_wp2
  go_loopg [3, 5, 13] N (fun kx nv _ iv wr => ∃ (j m : Nat), nv = .int .i64 m ∧ iv = .int .i64 j ∧ j ≤ N ∧ m ≤ 5000 ∧ N - j ≤ kx ∧ Hid (sumTo (fun _ l => l.length) T j = m) ∧ Hid (Below w.heap.size w wr))
  case atStart => exact ⟨0, 0, rfl, rfl, Nat.zero_le _, Nat.zero_le _, Nat.le_refl _, Hid.of (sumTo_zero _ _), Hid.of (Below.refl _ _)⟩
  case round =>
    obtain ⟨j, m, rfl, rfl, hj, hm, hk, HM, HB⟩ := hrel
    have j0 : (0 : Int) ≤ (j : Int) := Int.natCast_nonneg _
    by_cases hlt : (j : Int) < (N : Int)
    · obtain ⟨l, hT⟩ : ∃ l, T[j]? = some l := ⟨_, List.getElem?_eq_getElem (by have := HN.out; omega)⟩
      have IT := H.out.below HB.out
      obtain ⟨q, G, hq, hG, hrep⟩ := IT.at_i hT
      have hcr := IT.tabs
      rw [HN.out] at hcr
      obtain ⟨b1, o1, rfl, g1, d0⟩ := hcr.at j (tptr q) (by rw [List.getElem?_map, hq]; rfl)
      have hln := TS.len hrep (HL.out l (List.mem_of_getElem? hT))
      obtain ⟨x, hx⟩ : ∃ x, l.length = x := ⟨_, rfl⟩
      have hx1 : x ≤ 1000 := by rw [← hx]; exact HL.out l (List.mem_of_getElem? hT)
      have HSU : Hid (sumTo (fun _ l => l.length) T (j + 1) = m + x) := Hid.of (by rw [sumTo_succ _ hT, HM.out, hx])
      have hmx : m + x ≤ 5000 := by have := HS.out (j + 1) (by omega); rw [HSU.out] at this; omega
      rw [hx] at hln
      have HJ : Hid (j < N) := Hid.of (by omega)
      clear hq hG hrep hcr g1 IT hT hx
      go_wp2_with fail
      refine hln.mono ?_
      rintro e w2 ⟨rfl, b2⟩
      have B2 := Hid.of (HB.out.trans (b2.mono HB.out.size))
      clear b2 hln d0 HB
      go_wp2
      go_roundg (N - (j + 1))
      case measure => have := HJ.out; omega
      case rel => exact ⟨j + 1, m + x, by go_num, by go_num, HJ.out, hmx, Nat.le_refl _, HSU, B2⟩
    · obtain rfl : j = N := by omega
      go_wp2
      go_ret
      rw [HM.out]
      exact ⟨rfl, HB.out⟩

theorem iempty_any {TS : TableSpec} {w : World} {p : Nat} {r : RchL} {T : List (List TRec)} {F : TFoot} (h : IRep TS w p r T F) (hl : ∀ l ∈ T, l.length ≤ 1000) :
    Calls Tryz.prog 19 #[tptr p] w fun x w' => x = .returned (.bool (decide (iLen T = 0))) ∧ Below w.heap.size w w' := by
  have hln := ilen_any h hl
  obtain ⟨m, hm⟩ : ∃ m, iLen T = m := ⟨_, rfl⟩
  rw [hm] at hln ⊢
  clear h hl hm
  by_cases h0 : m = 0
  · subst h0
    go_enter Tryz.func19, Tryz.ntmps19
    go_wp2_with fail
    refine hln.mono ?_
    rintro e w2 ⟨rfl, b2⟩
    have B2 := Hid.of b2
    clear b2
    go_wp2
    go_ret
    exact ⟨rfl, B2.out⟩
  · have k0 : ((m : Int) == 0) = false := beq_eq_false_iff_ne.2 (by omega)
    rw [decide_eq_false h0]
    clear h0
    go_enter Tryz.func19, Tryz.ntmps19
    go_wp2_with fail
    refine hln.mono ?_
    rintro e w2 ⟨rfl, b2⟩
    have B2 := Hid.of b2
    clear b2
    go_wp2
    go_ret
    exact ⟨rfl, B2.out⟩

/-- A tier's shards. -/
def iSh (r : RchL) (i : Nat) : Int := match r.2.1.2[i]? with | some t => t.2.2.2 | none => 1

set_option maxRecDepth 20000 in
set_option maxHeartbeats 1600000 in
theorem ineed_any {TS : TableSpec} {w : World} {p : Nat} {r : RchL} {T : List (List TRec)} {F : TFoot} (h : IRep TS w p r T F) (hl : ∀ l ∈ T, l.length ≤ 1000) :
    Calls Tryz.prog 17 #[tptr p] w fun x w' => x = .returned (.int .i64 (iNeed r T : Nat)) ∧ Below w.heap.size w w' := by
  obtain ⟨s, f, v, qs, Fs, h, hg, rfl⟩ := h
  have hN5 := hg.pos.2
  have H := Hid.of h
  have hr0 : CellRow w s r.2.1.2.length (flat penc r.2.1.2) := own_row h.hs
  obtain ⟨-, -, c2, -, -⟩ := h.c
  obtain ⟨N, hN⟩ : ∃ N, T.length = N := ⟨_, rfl⟩
  have hPL : r.2.1.2.length = N := by rw [← hg.len]; exact hN
  rw [hPL] at hr0
  have HR := Hid.of hr0
  obtain ⟨sa, sc, rfl, -⟩ := hr0
  have e : iNeed r T = sumTo (fun i l => tNeed l (iSh r i)) T N := by
    rw [← hN, sumTo_all]
    rfl
  have HSH : Hid (∀ (i : Nat) (t : TierL), r.2.1.2[i]? = some t → iSh r i = t.2.2.2 ∧ 1 ≤ t.2.2.2 ∧ t.2.2.2 ≤ 8) := Hid.of (fun i t ht => by
    have k := tier_known hg.chk ht
    refine ⟨?_, k.2.2.2.2.1, k.2.2.2.2.2.1⟩
    unfold iSh
    rw [ht])
  have hNB : ∀ (i : Nat) l, T[i]? = some l → tNeed l (iSh r i) ≤ 1000 := fun i l hT => by
    obtain ⟨t, ht, _⟩ := hg.ev (i := i) (List.getElem?_eq_some_iff.1 hT).1
    have k := HSH.out i t ht
    have := (tNeed_bounds l (iSh r i) (by rw [k.1]; exact k.2.1)).2
    have := hl l (List.mem_of_getElem? hT)
    omega
  have HS : Hid (∀ j, j ≤ N → sumTo (fun i l => tNeed l (iSh r i)) T j ≤ 1000 * j) := Hid.of (fun j hj => sumTo_le hNB j (by omega))
  have HNB := Hid.of hNB
  rw [e]
  rw [hN] at hN5
  have HN := Hid.of hN
  have HP := Hid.of hPL
  have HL := Hid.of hl
  clear e h hN hl hg hPL hNB
  go_enter Tryz.func17, Tryz.ntmps17
  go_wp2
  go_loopg [3, 4, 5, 15] N (fun kx nv _ _ iv wr => ∃ (j m : Nat), nv = .int .i64 m ∧ iv = .int .i64 j ∧ j ≤ N ∧ m ≤ 5000 ∧ N - j ≤ kx ∧ Hid (sumTo (fun i l => tNeed l (iSh r i)) T j = m) ∧ Hid (Below w.heap.size w wr))
  case atStart => exact ⟨0, 0, rfl, rfl, Nat.zero_le _, Nat.zero_le _, Nat.le_refl _, Hid.of (sumTo_zero _ _), Hid.of (Below.refl _ _)⟩
  case round =>
    obtain ⟨j, m, rfl, rfl, hj, hm, hk, HM, HB⟩ := hrel
    have j0 : (0 : Int) ≤ (j : Int) := Int.natCast_nonneg _
    by_cases hlt : (j : Int) < (N : Int)
    · obtain ⟨l, hT⟩ : ∃ l, T[j]? = some l := ⟨_, List.getElem?_eq_getElem (by have := HN.out; omega)⟩
      obtain ⟨t, ht⟩ : ∃ t, r.2.1.2[j]? = some t := ⟨_, List.getElem?_eq_getElem (by have := HP.out; omega)⟩
      obtain ⟨b1, o1, rfl, g1, d0, d1, d2, d3⟩ := p_at (HR.out.kept HB.out) j t ht
      have hsh := HSH.out j t ht
      obtain ⟨t0, t1, t2, sh⟩ := t
      simp only at d0 d1 d2 d3 hsh
      have HSU : Hid (sumTo (fun i l => tNeed l (iSh r i)) T (j + 1) = m + tNeed l sh) := Hid.of (by rw [sumTo_succ _ hT, HM.out, hsh.1])
      obtain ⟨x, hx⟩ : ∃ x, tNeed l sh = x := ⟨_, rfl⟩
      have hx1 : x ≤ 1000 := by rw [← hx, ← hsh.1]; exact HNB.out j l hT
      rw [hx] at HSU
      have hmx : m + x ≤ 5000 := by have := HS.out (j + 1) (by omega); rw [HSU.out] at this; omega
      have hwr : IntKind.i64.wrap ((m : Int) + (x : Int)) = ((m + x : Nat) : Int) := by rw [IntKind.wrap_i64]; omega
      have HX := Hid.of hx
      have HT := Hid.of hT
      have HSB := Hid.of hsh.2
      have HLE : Hid (l.length ≤ 1000) := Hid.of (HL.out l (List.mem_of_getElem? hT))
      have HJ : Hid (j < N) := Hid.of (by omega)
      obtain ⟨y, hy⟩ : ∃ y, wr.heap.size = y := ⟨_, rfl⟩
      obtain ⟨w2, hw2⟩ : ∃ w2, wr.alloc (.cells #[.string t0, .int .i64 t1, .int .i64 t2, .int .i64 sh] 57) = w2 := ⟨_, rfl⟩
      have z2 : w2.heap[y]? = some (.cells #[.string t0, .int .i64 t1, .int .i64 t2, .int .i64 sh] 57 (0, 0)) := by rw [← hw2, ← hy]; exact (MapKept.heap_alloc wr _).1
      have B2 : Hid (Below w.heap.size w w2) := Hid.of (by rw [← hw2]; exact HB.out.alloc HB.out.size _)
      have CS2 : Hid (Cs w2 [(⟨y, 3, none⟩, .int .i64 sh)]) := Hid.of (.cons (Array.getElem?_eq_some_iff.1 z2).1 (by rw [cell_of_row _ _ _ _ _ _ z2]; rfl) (.nil _))
      clear hT ht g1 hsh hx z2
      go_upto_region 7 with fail
      clear d0 d1 d2 d3 hy hw2
      have B2' := (Below.refl w2.heap.size w2).drew
      have B3 := Hid.of (B2.out.trans (B2'.mono B2.out.size))
      have IT3 := H.out.below B3.out
      obtain ⟨q, G, hq, hG, hrep⟩ := IT3.at_i HT.out
      have hat := iAt_any IT3 hq
      have hnd := TS.need sh hrep HLE.out ⟨by have := HSB.out.1; omega, by have := HSB.out.2; omega⟩
      rw [HX.out] at hnd
      have CS3 := Hid.of (CS2.out.next B2')
      clear B2' IT3 hq hG hrep
      have d0 := (CS2.out).head
      refine wp_region_noPanic ?_
      refine wp_region_held_drew (S := fun w' => w'.cell? ⟨y, 3, none⟩ = some (.int .i64 sh)) (by kernel_rfl) ?_ (fun hHeld => ?_)
      · exact d0
      refine takeOp 0 (o := ⟨_, _, _, _, _, _⟩) (v := ?_) rfl (by kernel_rfl) (by rfl) hHeld ?_ ?_
      rotate_left
      · intro w' hSw; (try dsimp only at hSw); go_simp; all_goals with_reducible rfl
      simp only [Act.put, List.setIfInBounds_toArray, List.set_cons_zero, List.set_cons_succ]
      refine takeOp 1 (o := ⟨_, _, _, _, _, _⟩) (v := ?_) rfl (by kernel_rfl) (by rfl) hHeld ?_ ?_
      rotate_left
      · intro w' hSw; (try dsimp only at hSw); go_simp; all_goals with_reducible rfl
      simp only [Act.put, List.setIfInBounds_toArray, List.set_cons_zero, List.set_cons_succ]
      refine takeOp 2 (o := ⟨_, _, _, _, _, _⟩) (v := ?_) rfl (by kernel_rfl) (by rfl) hHeld ?_ ?_
      rotate_left
      · intro w' hSw; (try dsimp only at hSw); go_simp; all_goals with_reducible rfl
      simp only [Act.put, List.setIfInBounds_toArray, List.set_cons_zero, List.set_cons_succ]
      refine takeOp 4 (o := ⟨_, _, _, _, _, _⟩) (v := ?_) rfl (by kernel_rfl) (by rfl) hHeld ?_ ?_
      rotate_left
      · intro w' hSw; (try dsimp only at hSw); go_simp; all_goals with_reducible rfl
      simp only [Act.put, List.setIfInBounds_toArray, List.set_cons_zero, List.set_cons_succ]
      refine takeOp 5 (o := ⟨_, _, _, _, _, _⟩) (v := ?_) rfl (by kernel_rfl) (by rfl) hHeld ?_ ?_
      rotate_left
      · intro w' hSw; (try dsimp only at hSw); go_simp; all_goals with_reducible rfl
      simp only [Act.put, List.setIfInBounds_toArray, List.set_cons_zero, List.set_cons_succ]
      refine wpAnyH_ready (rs := [3]) (by kernel_rfl) (by simp) ?_
      refine AllReadyH.cons (o := ⟨_, _, _, _, _, _⟩) rfl (fun K hK => ?_) AllReadyH.nil
      go_simp
      refine hat.mono ?_
      rintro e w3 ⟨rfl, rfl⟩
      clear hHeld d0
      have d0 := CS3.out.head
      refine hK.out _ _ d0 (fun hHeld => ?_)
      clear hK K
      try simp only [Act.put, List.setIfInBounds_toArray, List.set_cons_zero, List.set_cons_succ]
      refine wpAnyH_ready (rs := [6]) (by kernel_rfl) (by simp) ?_
      refine AllReadyH.cons (o := ⟨_, _, _, _, _, _⟩) rfl (fun K hK => ?_) AllReadyH.nil
      go_simp
      refine hnd.mono ?_
      rintro e w4 ⟨rfl, b4⟩
      have B4 := Hid.of (B3.out.trans (b4.mono B3.out.size))
      have CS4 := Hid.of (CS3.out.next b4)
      clear hHeld b4 hat hnd CS3 CS2 B3 B2 d0
      have d0 := CS4.out.head
      refine hK.out _ _ d0 (fun hHeld => ?_)
      clear hK K
      try simp only [Act.put, List.setIfInBounds_toArray, List.set_cons_zero, List.set_cons_succ]
      refine takeOp 7 (o := ⟨_, _, _, _, _, _⟩) (v := ?_) rfl (by kernel_rfl) (by rfl) hHeld ?_ ?_
      rotate_left
      · intro w' hSw; (try dsimp only at hSw); go_simp; all_goals with_reducible rfl
      simp only [Act.put, List.setIfInBounds_toArray, List.set_cons_zero, List.set_cons_succ]
      refine takeOp 8 (o := ⟨_, _, _, _, _, _⟩) (v := ?_) rfl (by kernel_rfl) (by rfl) hHeld ?_ ?_
      rotate_left
      · intro w' hSw; (try dsimp only at hSw); go_simp; all_goals with_reducible rfl
      simp only [Act.put, List.setIfInBounds_toArray, List.set_cons_zero, List.set_cons_succ]
      refine wpAnyH_done (by kernel_rfl) ?_ _
      refine NoPanic.normal ?_
      clear hHeld d0
      go_wp2
      go_roundg (N - (j + 1))
      case measure => have := HJ.out; omega
      case rel => exact ⟨j + 1, m + x, by go_num, by go_num, HJ.out, hmx, Nat.le_refl _, HSU, B4⟩
    · obtain rfl : j = N := by omega
      go_wp2
      go_ret
      rw [HM.out]
      exact ⟨rfl, HB.out⟩

end Go.Proofs.YtnohmloilcpmiaaGreat

namespace Go.Proofs.YtnohmloilcpmiaaGreat
open Go.RowKit Go.Lib

theorem ptab_info : (Tryz.prog.info? 35).map (fun i => (i.zero, i.size, i.bytes)) = some (some (.pointer none), 1, 8) := by kernel_rfl

/-- Tiers that are being made, above D: their tables' list grows by one table at a time. -/
structure IGrow (TS : TableSpec) (w0 w : World) (p : Nat) (r : RchL) (T : List (List TRec)) (s f v : Value) (qs : List Nat) (Fs : List TFoot) : Prop where
  is : ITs TS w p r T s f v qs Fs
  fr : Below w0.heap.size w0 w
  ge : ∀ k, (iFoot p s f v Fs).all k → w0.heap.size ≤ k
  va : ∀ F ∈ Fs, ∀ k, v.ownBlock = some k → ¬ F.all k
  sv : ∀ k, v.ownBlock = some k → s.ownBlock ≠ some k ∧ f.ownBlock ≠ some k

section
variable {TS : TableSpec} {w0 w w1 w2 w' : World} {p : Nat} {r : RchL} {T : List (List TRec)} {s f v : Value} {qs : List Nat} {Fs : List TFoot}

theorem IGrow.next (h : IGrow TS w0 w p r T s f v qs Fs) (b : Below w.heap.size w w') : IGrow TS w0 w' p r T s f v qs Fs :=
  ⟨h.is.below b, h.fr.trans (b.mono h.fr.size), h.ge, h.va, h.sv⟩

/-- They begin without a table. -/
theorem IGrow.new {u : Value} (hfit : RFit r) (h : OwnRch w0.heap.size w u r) (b : Below w0.heap.size w0 w) : ∃ s f, u = rVal r s f ∧ IGrow TS w0 (w.alloc (.cells #[.int .i64 r.1, .string r.2.1.1, s, f, .slice none 0 0] 69)) w.heap.size r [] s f (.slice none 0 0) [] [] := by
  obtain ⟨s, f, hu, h1, h2, -⟩ := h
  have hz := (MapKept.heap_alloc w (.cells #[.int .i64 r.1, .string r.2.1.1, s, f, .slice none 0 0] 69 (0, 0))).1
  have b1 : Below w.heap.size w (w.alloc (.cells #[.int .i64 r.1, .string r.2.1.1, s, f, .slice none 0 0] 69 (0, 0))) := (Below.refl _ _).alloc (Nat.le_refl _) _
  refine ⟨s, f, hu, ⟨?_, b.trans (b1.mono b.size), fun k hk => ?_, fun F hF => absurd hF List.not_mem_nil, fun k hk => by cases hk⟩⟩
  · exact {
      cell := hz
      hs := own_mono (iown_kept h1 b1) (Nat.zero_le _)
      hf := own_mono (iown_kept h2 b1) (Nat.zero_le _)
      hv := World.ownsRow_nil _ _ _ _
      ql := rfl
      fl := rfl
      rep := fun i q l F hq => by simp at hq
      apart := fun i j k F G hF => by simp at hF
      off := fun F hF => absurd hF List.not_mem_nil
      out := fun F hF => absurd hF List.not_mem_nil
      pp := fun c => by
        rcases c with c | c | c
        · have := iown_lt h1 c; omega
        · have := iown_lt h2 c; omega
        · cases c
      fit := hfit }
  · rcases hk with rfl | (c | c | c) | ⟨F, hF, _⟩
    · exact b.size
    · exact own_ge h1 c
    · exact own_ge h2 c
    · cases c
    · exact absurd hF List.not_mem_nil

/-- One table more: it is made (w1), put behind the others (w2), and the list is stored (w'). -/
theorem IGrow.more (h : IGrow TS w0 w p r T s f v qs Fs) {q : Nat} {l : List TRec} {F : TFoot} (b1 : Below w.heap.size w w1) (hr : TS.Rep w1 q (tEv r T.length) l F) (hF : ∀ k, F.all k → w.heap.size ≤ k) {v' : Value}
    (o2 : w2.ownsRow 0 35 1 v' (qs.length + 1) (qs.map tptr ++ [tptr q])) (g2 : w1.grownBy w2 v.ownBlock) (m2 : v'.ownBlock = v.ownBlock ∨ ∃ g, v'.ownBlock = some g ∧ w1.heap.size ≤ g) :
    IGrow TS w0 (w2.setCell ⟨p, 4, none⟩ v') p r (T ++ [l]) s f v' (qs ++ [q]) (Fs ++ [F]) := by
  have hp := h.is.lt_p
  have hs1 : w.heap.size ≤ w1.heap.size := b1.size
  have hvp : ∀ k, v.ownBlock = some k → k ≠ p := fun k hk c => h.is.pp (c ▸ .inr (.inr hk))
  have hvl : ∀ k, v.ownBlock = some k → k < w.heap.size := fun k hk => iown_lt h.is.hv hk
  have hv' : ∀ k, v'.ownBlock = some k → v.ownBlock = some k ∨ w1.heap.size ≤ k := fun k hk => by
    rcases m2 with e | ⟨g, e, hg⟩
    · exact .inl (e ▸ hk)
    · rw [e] at hk
      cases hk
      exact .inr hg
  have g3 := grownBy_setCell w2 p 4 v'
  -- what was there ahead, but for the list and the first block
  have keep : ∀ k, k < w1.heap.size → v.ownBlock ≠ some k → k ≠ p → (w2.setCell ⟨p, 4, none⟩ v').heap[k]? = w1.heap[k]? := fun k hk hne hkp =>
    (g3.block k (Nat.lt_of_lt_of_le hk g2.size) (fun c => hkp (Option.some.inj c))).trans (g2.block k hk (fun c => hne c.symm))
  have keep0 : ∀ k, k < w.heap.size → v.ownBlock ≠ some k → k ≠ p → (w2.setCell ⟨p, 4, none⟩ v').heap[k]? = w.heap[k]? := fun k hk hne hkp =>
    (keep k (by omega) hne hkp).trans (b1.block k hk)
  have hcell2 : w2.heap[p]? = some (.cells #[.int .i64 r.1, .string r.2.1.1, s, f, v] 69 (0, 0)) :=
    (g2.block p (by omega) (fun c => hvp p c.symm rfl)).trans ((b1.block p hp).trans h.is.cell)
  have hlast : ∀ (i : Nat) G, (Fs ++ [F])[i]? = some G → Fs[i]? = some G ∨ (i = Fs.length ∧ G = F) := fun i G hG => by
    rcases Nat.lt_or_ge i Fs.length with c | c
    · rw [List.getElem?_append_left c] at hG
      exact .inl hG
    · rw [List.getElem?_append_right c] at hG
      have hi : i - Fs.length = 0 := by
        rcases Nat.eq_zero_or_pos (i - Fs.length) with d | d
        · exact d
        · rw [List.getElem?_eq_none (by simp; omega)] at hG
          cases hG
      rw [hi] at hG
      exact .inr ⟨by omega, (Option.some.inj hG).symm⟩
  have hmem : ∀ G ∈ Fs ++ [F], G ∈ Fs ∨ G = F := fun G hG => by
    rcases List.mem_append.1 hG with c | c
    · exact .inl c
    · exact .inr (List.mem_singleton.1 c)
  have hold : ∀ G ∈ Fs, ∀ k, G.all k → k < w.heap.size := fun G hG k c => h.is.lt (.inr (.inr ⟨G, hG, c⟩))
  have hsub : ∀ G ∈ Fs, ∀ k, G.own k → G.all k := fun G hG k c => by
    obtain ⟨i, q', l', _, hr'⟩ := h.is.of_foot hG
    exact TS.sub hr' k c
  have hRs : ∀ k, s.ownBlock = some k → v.ownBlock ≠ some k ∧ k ≠ p ∧ k < w.heap.size := fun k hk => ⟨fun c => (h.sv k c).1 hk, fun c => h.is.pp (c ▸ .inl hk), iown_lt h.is.hs hk⟩
  have hRf : ∀ k, f.ownBlock = some k → v.ownBlock ≠ some k ∧ k ≠ p ∧ k < w.heap.size := fun k hk => ⟨fun c => (h.sv k c).2 hk, fun c => h.is.pp (c ▸ .inr (.inl hk)), iown_lt h.is.hf hk⟩
  refine ⟨?_, ?_, fun k hk => ?_, fun G hG k hk c => ?_, fun k hk => ?_⟩
  · refine {
      cell := by
        rw [row_set (i := 4) hcell2 v']
        simp
      hs := iown_at h.is.hs (fun k hk => keep0 k (hRs k hk).2.2 (hRs k hk).1 (hRs k hk).2.1)
      hf := iown_at h.is.hf (fun k hk => keep0 k (hRf k hk).2.2 (hRf k hk).1 (hRf k hk).2.1)
      hv := by
        rw [List.length_append, List.map_append]
        refine iown_at o2 (fun k hk => g3.block k (iown_lt o2 hk) (fun c => ?_))
        have c := Option.some.inj c
        rcases hv' k hk with d | d
        · exact hvp k d c
        · omega
      ql := by rw [List.length_append, List.length_append, h.is.ql]; rfl
      fl := by rw [List.length_append, List.length_append, h.is.fl]; rfl
      rep := fun i q2 l2 G hq hl hG => ?_
      apart := fun i j k G G2 hG hG2 hne c d => ?_
      off := fun G hG k c d => ?_
      out := fun G hG c => ?_
      pp := fun c => by
        rcases c with c | c | c
        · exact h.is.pp (.inl c)
        · exact h.is.pp (.inr (.inl c))
        · rcases hv' p c with d | d
          · exact hvp p d rfl
          · omega
      fit := h.is.fit }
    · rcases hlast i G hG with e | ⟨e, rfl⟩
      · have hi := (List.getElem?_eq_some_iff.1 e).1
        rw [List.getElem?_append_left (by rw [h.is.ql, ← h.is.fl]; exact hi)] at hq
        rw [List.getElem?_append_left (by rw [← h.is.fl]; exact hi)] at hl
        have hr' := h.is.rep i q2 l2 G hq hl e
        refine TS.kept hr' (Nat.le_trans hs1 (Nat.le_trans g2.size g3.size)) (fun k hk => keep0 k (TS.lt hr' k hk) (fun c => h.va G (List.mem_of_getElem? e) k c hk) (fun c => h.is.out G (List.mem_of_getElem? e) (c ▸ hk)))
      · rw [e, List.getElem?_append_right (by rw [h.is.ql, h.is.fl]; exact Nat.le_refl _), h.is.ql, h.is.fl, Nat.sub_self] at hq
        rw [e, List.getElem?_append_right (by rw [h.is.fl]; exact Nat.le_refl _), h.is.fl, Nat.sub_self] at hl
        simp only [List.getElem?_cons_zero, Option.some.injEq] at hq hl
        subst hq hl
        rw [e, h.is.fl]
        refine TS.kept hr (Nat.le_trans g2.size g3.size) (fun k hk => keep k (TS.lt hr k hk) (fun c => ?_) (fun c => ?_))
        · have := hF k hk
          have := hvl k c
          omega
        · have := hF k hk
          omega
    · rcases hlast i G hG with e | ⟨e, e2⟩ <;> rcases hlast j G2 hG2 with e3 | ⟨e3, e4⟩
      · exact h.is.apart i j k G G2 e e3 hne c d
      · subst e4
        have := hF k (TS.sub hr k d)
        have := hold G (List.mem_of_getElem? e) k c
        omega
      · subst e2
        have := hF k c
        have := hold G2 (List.mem_of_getElem? e3) k (hsub G2 (List.mem_of_getElem? e3) k d)
        omega
      · exact hne (e.trans e3.symm)
    · have hcase : G ∈ Fs ∨ G = F := hmem G hG
      rcases hcase with e | rfl
      · rcases d with d | d | d
        · exact h.is.off G e k c (.inl d)
        · exact h.is.off G e k c (.inr (.inl d))
        · rcases hv' k d with x | x
          · exact h.is.off G e k c (.inr (.inr x))
          · have := hold G e k (hsub G e k c)
            omega
      · have h1 := hF k (TS.sub hr k c)
        have h2 := TS.lt hr k (TS.sub hr k c)
        rcases d with d | d | d
        · have := (hRs k d).2.2
          omega
        · have := (hRf k d).2.2
          omega
        · rcases hv' k d with x | x
          · have := hvl k x
            omega
          · omega
    · rcases hmem G hG with e | rfl
      · exact h.is.out G e c
      · have := hF p c
        omega
  · refine (h.fr.trans (b1.mono h.fr.size)).grown g2 (Nat.le_trans h.fr.size hs1) (fun k hk => h.ge k (.inr (.inl (.inr (.inr hk))))) |>.grown g3 ?_ (fun k hk => by cases hk; exact h.ge p (.inl rfl))
    exact Nat.le_trans h.fr.size (Nat.le_trans hs1 g2.size)
  · have h0 := h.fr.size
    rcases hk with c | (c | c | c) | ⟨G, hG, c⟩
    · exact h.ge k (.inl c)
    · exact h.ge k (.inr (.inl (.inl c)))
    · exact h.ge k (.inr (.inl (.inr (.inl c))))
    · rcases hv' k c with d | d
      · exact h.ge k (.inr (.inl (.inr (.inr d))))
      · omega
    · rcases hmem G hG with e | rfl
      · exact h.ge k (.inr (.inr ⟨G, e, c⟩))
      · have := hF k c
        omega
  · rcases hmem G hG with e | rfl
    · rcases hv' k hk with d | d
      · exact h.va G e k d c
      · have := hold G e k c
        omega
    · have h1 := hF k c
      have h2 := TS.lt hr k c
      rcases hv' k hk with d | d
      · have := hvl k d
        omega
      · omega
  · rcases hv' k hk with d | d
    · exact h.sv k d
    · refine ⟨fun c => ?_, fun c => ?_⟩
      · have := (hRs k c).2.2
        omega
      · have := (hRf k c).2.2
        omega

theorem IGrow.cs (h : IGrow TS w0 w p r T s f v qs Fs) : Cs w [(⟨p, 4, none⟩, v)] := .cons h.is.lt_p h.is.c.2.2.2.2 (.nil _)
end

end Go.Proofs.YtnohmloilcpmiaaGreat
