/-
  A bundle of texts: IEC IED IEE IEH IEI.
-/
import Derived.Test.YtnohmloilcpmiaaQ27
import Derived.Test.YtnohmloilcpmiaaQ38
import Derived.Test.YtnohmloilcpmiaaQ34
import Derived.Test.YtnohmloilcpmiaaQ23
import Derived.Test.YtnohmloilcpmiaaQ22
namespace Go.Proofs.Ytnohmloilcpmiaa
open Go.RowKit Go.Lib

theorem rec_info' : (Try.prog.info? 47).map (fun i => (i.zero, i.size, i.bytes)) = some (some (.agg #[.string ⟨#[]⟩, .int .i64 0, .int .i64 0, .int .i64 0, .int .u64 0, .int .i64 0, .int .i64 0]), 7, 64) := by kernel_rfl

theorem iTakes_at {r : RchL} {ss : List SamL} {j : Nat} {x : SamL} (hx : ss[j]? = some x) (h : ∀ s ∈ ss.take j, rTakes r s.1 s.2.1 = 0) (hn : rTakes r x.1 x.2.1 ≠ 0) : iTakes r ss = rTakes r x.1 x.2.1 := by
  induction ss generalizing j with
  | nil => cases hx
  | cons a ss ih =>
    unfold iTakes at *
    rw [List.map_cons, List.find?_cons]
    cases j with
    | zero =>
      simp only [List.getElem?_cons_zero, Option.some.injEq] at hx
      subst hx
      rw [show (!decide (rTakes r a.1 a.2.1 = 0)) = true by simp [hn]]
      rfl
    | succ j =>
      have ha := h a (by rw [List.take_succ_cons]; exact List.mem_cons_self ..)
      rw [show (!decide (rTakes r a.1 a.2.1 = 0)) = false by simp [ha]]
      exact ih hx (fun s hs => h s (by rw [List.take_succ_cons]; exact List.mem_cons_of_mem _ hs))

theorem iCheck_none {r : RchL} {ss : List SamL} (h : ss.length = 0) : iCheck r ss = 1 := by unfold iCheck; rw [if_pos (List.length_eq_zero_iff.1 h)]
theorem iCheck_long {r : RchL} {ss : List SamL} (h : 8 < ss.length) : iCheck r ss = 2 := by
  unfold iCheck
  rw [if_neg (fun c => by rw [c] at h; simp at h), if_pos h]
theorem iCheck_takes {r : RchL} {ss : List SamL} (h : ss.length ≠ 0) (h8 : ¬ 8 < ss.length) : iCheck r ss = iTakes r ss := by
  unfold iCheck
  rw [if_neg (fun c => h (by rw [c]; rfl)), if_neg h8]

theorem ITs.cs {TS : TableSpec} {w : World} {p : Nat} {r : RchL} {T : List (List TRec)} {s f v : Value} {qs : List Nat} {Fs : List TFoot} (h : ITs TS w p r T s f v qs Fs) : Cs w [(⟨p, 0, none⟩, .int .i64 r.1), (⟨p, 1, none⟩, .string r.2.1.1), (⟨p, 2, none⟩, s), (⟨p, 3, none⟩, f)] := by
  obtain ⟨c0, c1, c2, c3, _⟩ := h.c
  exact .cons h.lt_p c0 (.cons h.lt_p c1 (.cons h.lt_p c2 (.cons h.lt_p c3 (.nil _))))

theorem Cs.grown {w w' : World} {o : Option Nat} {l : List (Addr × Value)} (h : Cs w l) (g : w.grownBy w' o) (hne : ∀ x ∈ l, some x.1.block ≠ o) : Cs w' l := fun x hx =>
  ⟨Nat.lt_of_lt_of_le (h x hx).1 g.size, (World.cell?_of_block (a := x.1) (g.block _ (h x hx).1 (hne x hx))).trans (h x hx).2⟩

/-- A sample in a variable. -/
theorem sam_cs (w : World) (n : ByteArray) (t x : Int) {l : List (Addr × Value)} (h : Cs w l) : Cs (w.alloc (.cells #[.string n, .int .i64 t, .int .i64 x] 63)) ((⟨w.heap.size, 0, none⟩, .string n) :: (⟨w.heap.size, 1, none⟩, .int .i64 t) :: (⟨w.heap.size, 2, none⟩, .int .i64 x) :: l) := by
  have hz := (MapKept.heap_alloc w (.cells #[.string n, .int .i64 t, .int .i64 x] 63 (0, 0))).1
  have hl : w.heap.size < (w.alloc (.cells #[.string n, .int .i64 t, .int .i64 x] 63)).heap.size := by simp
  exact .cons hl (by rw [cell_of_row _ _ _ _ _ _ hz]; rfl) (.cons hl (by rw [cell_of_row _ _ _ _ _ _ hz]; rfl) (.cons hl (by rw [cell_of_row _ _ _ _ _ _ hz]; rfl) (h.next ((Below.refl _ _).alloc (Nat.le_refl _) _))))

set_option maxRecDepth 20000 in
set_option maxHeartbeats 3200000 in
theorem iMayPut_any {TS : TableSpec} {w : World} {p : Nat} {r : RchL} {T : List (List TRec)} {s f v : Value} {qs : List Nat} {Fs : List TFoot} (h : ITs TS w p r T s f v qs Fs) (hT : 0 < T.length)
    (u : Value) (ss : List SamL) (hu : CellRow w u ss.length (flat aenc ss)) (hlen : ss.length ≤ 1000000) (hfit : ∀ x ∈ ss, SFit x) :
    Calls Try.prog 22 #[tptr p, u] w fun e w' => e = .returned (.int .i64 (iCheck r ss)) ∧ Below w.heap.size w w' := by
  have hno := iNone_any h hT
  have H := Hid.of h
  have HU := Hid.of hu
  have HF := Hid.of hfit
  obtain ⟨ua, uc, rfl, -⟩ := hu
  obtain ⟨N, hN⟩ : ∃ N, ss.length = N := ⟨_, rfl⟩
  have HN := Hid.of hN
  rw [hN] at HU hlen ⊢
  obtain ⟨ce, hce⟩ : ∃ ce, iCheck r ss = ce := ⟨_, rfl⟩
  have HC := Hid.of hce
  rw [hce]
  clear h hfit hN hce
  by_cases h0 : N = 0
  · have HZ : Hid (ce = 1) := Hid.of (by rw [← HC.out]; exact iCheck_none (by rw [HN.out]; exact h0))
    have k0 : ((N : Int) == 0) = true := by rw [h0]; rfl
    clear h0
    go_enter Try.func22, Try.ntmps22
    go_wp2_with fail
    refine hno.mono ?_
    rintro e w1 ⟨rfl, rfl⟩
    go_wp2
    go_ret
    rw [HZ.out]
    exact ⟨rfl, Below.refl _ _⟩
  have k0 : ((N : Int) == 0) = false := beq_eq_false_iff_ne.2 (by omega)
  by_cases h8 : 8 < N
  · have HZ : Hid (ce = 2) := Hid.of (by rw [← HC.out]; exact iCheck_long (by rw [HN.out]; exact h8))
    have k8 : (N : Int) > 8 := by omega
    clear h0 h8
    go_enter Try.func22, Try.ntmps22
    go_wp2_with fail
    refine hno.mono ?_
    rintro e w1 ⟨rfl, rfl⟩
    go_wp2
    go_ret
    rw [HZ.out]
    exact ⟨rfl, Below.refl _ _⟩
  have HE : Hid (iTakes r ss = ce) := Hid.of (by rw [← HC.out]; exact (iCheck_takes (by rw [HN.out]; exact h0) (by rw [HN.out]; exact h8)).symm)
  have k8 : ¬ (N : Int) > 8 := by omega
  clear h0 h8 HC
  go_enter Try.func22, Try.ntmps22
  go_wp2_with fail
  refine hno.mono ?_
  rintro e w1 ⟨rfl, rfl⟩
  go_wp2
  go_loopg [6, 7, 22] N (fun kx _ _ iv wr => ∃ j : Nat, iv = .int .i64 j ∧ j ≤ N ∧ N - j ≤ kx ∧ Hid (∀ s ∈ ss.take j, rTakes r s.1 s.2.1 = 0) ∧ Hid (Below w1.heap.size w1 wr))
  case atStart => exact ⟨0, rfl, Nat.zero_le _, Nat.le_refl _, Hid.of (fun _ hs => by rw [List.take_zero] at hs; cases hs), Hid.of (Below.refl _ _)⟩
  case round =>
    obtain ⟨j, rfl, hj, hk, HA, HB⟩ := hrel
    have j0 : (0 : Int) ≤ (j : Int) := Int.natCast_nonneg _
    by_cases hlt : (j : Int) < (N : Int)
    · obtain ⟨x, hx⟩ : ∃ x, ss[j]? = some x := ⟨_, List.getElem?_eq_getElem (by have := HN.out; omega)⟩
      obtain ⟨b1, o1, rfl, g1, d0, d1, d2⟩ := a_at (HU.out.kept HB.out) j x hx
      obtain ⟨n, t, z⟩ := x
      have XF := Hid.of (HF.out _ (List.mem_of_getElem? hx))
      have HX := Hid.of hx
      have HJ : Hid (j < N) := Hid.of (by omega)
      simp only at d0 d1 d2
      obtain ⟨y, hy⟩ : ∃ y, wr.heap.size = y := ⟨_, rfl⟩
      obtain ⟨w2, hw2⟩ : ∃ w2, wr.alloc (.cells #[.string n, .int .i64 t, .int .i64 z] 63) = w2 := ⟨_, rfl⟩
      have IT := H.out.below HB.out
      have CS2 : Hid (Cs w2 [(⟨y, 0, none⟩, .string n), (⟨y, 1, none⟩, .int .i64 t), (⟨y, 2, none⟩, .int .i64 z), (⟨p, 0, none⟩, .int .i64 r.1), (⟨p, 1, none⟩, .string r.2.1.1), (⟨p, 2, none⟩, s), (⟨p, 3, none⟩, f)]) := Hid.of (by rw [← hw2, ← hy]; exact sam_cs wr n t z IT.cs)
      have B2 : Hid (Below w1.heap.size w1 w2) := Hid.of (by rw [← hw2]; exact HB.out.alloc HB.out.size _)
      clear hx g1 IT
      go_upto_region 8 with fail
      clear hw2 hy d0 d1 d2
      have B2' := (Below.refl w2.heap.size w2).drew
      have B3 := Hid.of (B2.out.trans (B2'.mono B2.out.size))
      have RR : Hid (RchRow w2.drew (.agg #[.int .i64 r.1, .string r.2.1.1, s, f]) r) := Hid.of (H.out.below B3.out).reach
      have CS3 := Hid.of (CS2.out.next B2')
      clear B2'
      have d0 := (CS2.out).head
      have d1 := ((CS2.out).tail).head
      have d2 := (((CS2.out).tail).tail).head
      have d3 := ((((CS2.out).tail).tail).tail).head
      have d4 := (((((CS2.out).tail).tail).tail).tail).head
      have d5 := ((((((CS2.out).tail).tail).tail).tail).tail).head
      have d6 := (((((((CS2.out).tail).tail).tail).tail).tail).tail).head
      refine wp_region_noPanic ?_
      refine wp_region_held_drew (S := fun w' => w'.cell? ⟨y, 0, none⟩ = some (.string n) ∧ w'.cell? ⟨y, 1, none⟩ = some (.int .i64 t) ∧ w'.cell? ⟨y, 2, none⟩ = some (.int .i64 z) ∧ w'.cell? ⟨p, 0, none⟩ = some (.int .i64 r.1) ∧ w'.cell? ⟨p, 1, none⟩ = some (.string r.2.1.1) ∧ w'.cell? ⟨p, 2, none⟩ = some (s) ∧ w'.cell? ⟨p, 3, none⟩ = some (f)) (by kernel_rfl) ?_ (fun hHeld => ?_)
      · exact ⟨d0, d1, d2, d3, d4, d5, d6⟩
      refine wpAnyH_take (i := 0) (oi := ⟨_, _, _, _, _, _⟩) (v := ?_) rfl (by kernel_rfl) (by kernel_rfl) (by kernel_rfl) (fun _ _ _ h => h) (Or.inl ⟨by rfl, ?_⟩) hHeld ?_
      rotate_left
      · intro w' hSw
        try dsimp only at hSw
        go_simp
        all_goals with_reducible rfl
      simp only [Act.put, List.setIfInBounds_toArray, List.set_cons_zero, List.set_cons_succ]
      refine wpAnyH_take (i := 1) (oi := ⟨_, _, _, _, _, _⟩) (v := ?_) rfl (by kernel_rfl) (by kernel_rfl) (by kernel_rfl) (fun _ _ _ h => h) (Or.inl ⟨by rfl, ?_⟩) hHeld ?_
      rotate_left
      · intro w' hSw
        try dsimp only at hSw
        go_simp
        all_goals with_reducible rfl
      simp only [Act.put, List.setIfInBounds_toArray, List.set_cons_zero, List.set_cons_succ]
      refine wpAnyH_take (i := 2) (oi := ⟨_, _, _, _, _, _⟩) (v := ?_) rfl (by kernel_rfl) (by kernel_rfl) (by kernel_rfl) (fun _ _ _ h => h) (Or.inl ⟨by rfl, ?_⟩) hHeld ?_
      rotate_left
      · intro w' hSw
        try dsimp only at hSw
        go_simp
        all_goals with_reducible rfl
      simp only [Act.put, List.setIfInBounds_toArray, List.set_cons_zero, List.set_cons_succ]
      refine wpAnyH_take (i := 3) (oi := ⟨_, _, _, _, _, _⟩) (v := ?_) rfl (by kernel_rfl) (by kernel_rfl) (by kernel_rfl) (fun _ _ _ h => h) (Or.inl ⟨by rfl, ?_⟩) hHeld ?_
      rotate_left
      · intro w' hSw
        try dsimp only at hSw
        go_simp
        all_goals with_reducible rfl
      simp only [Act.put, List.setIfInBounds_toArray, List.set_cons_zero, List.set_cons_succ]
      refine wpAnyH_take (i := 4) (oi := ⟨_, _, _, _, _, _⟩) (v := ?_) rfl (by kernel_rfl) (by kernel_rfl) (by kernel_rfl) (fun _ _ _ h => h) (Or.inl ⟨by rfl, ?_⟩) hHeld ?_
      rotate_left
      · intro w' hSw
        try dsimp only at hSw
        go_simp
        all_goals with_reducible rfl
      simp only [Act.put, List.setIfInBounds_toArray, List.set_cons_zero, List.set_cons_succ]
      refine wpAnyH_ready (rs := [5]) (by kernel_rfl) (by simp) ?_
      refine AllReadyH.cons (o := ⟨_, _, _, _, _, _⟩) rfl (fun K hK => ?_) AllReadyH.nil
      go_simp
      refine (reaches.takes _ r n t z _ trivial H.out.fit XF.out.1 XF.out.2.1 RR.out).mono ?_
      rintro e w4 ⟨rfl, b4⟩
      have B4 := Hid.of (B3.out.trans (b4.mono B3.out.size))
      have CS4 := Hid.of (CS3.out.next b4)
      clear b4 CS3 RR B3 B2 CS2
      clear hHeld d0 d1 d2 d3 d4 d5 d6
      have d0 := (CS4.out).head
      have d1 := ((CS4.out).tail).head
      have d2 := (((CS4.out).tail).tail).head
      have d3 := ((((CS4.out).tail).tail).tail).head
      have d4 := (((((CS4.out).tail).tail).tail).tail).head
      have d5 := ((((((CS4.out).tail).tail).tail).tail).tail).head
      have d6 := (((((((CS4.out).tail).tail).tail).tail).tail).tail).head
      refine hK.out _ _ ⟨d0, d1, d2, d3, d4, d5, d6⟩ (fun hHeld => ?_)
      clear hK K
      try simp only [Act.put, List.setIfInBounds_toArray, List.set_cons_zero, List.set_cons_succ]
      refine wpAnyH_take (i := 6) (oi := ⟨_, _, _, _, _, _⟩) (v := ?_) rfl (by kernel_rfl) (by kernel_rfl) (by kernel_rfl) (fun _ _ _ h => h) (Or.inl ⟨by rfl, ?_⟩) hHeld ?_
      rotate_left
      · intro w' hSw
        try dsimp only at hSw
        go_simp
        all_goals with_reducible rfl
      simp only [Act.put, List.setIfInBounds_toArray, List.set_cons_zero, List.set_cons_succ]
      refine wpAnyH_done (by kernel_rfl) ?_ _
      refine NoPanic.normal ?_
      clear hHeld
      obtain ⟨te, hte⟩ : ∃ te, rTakes r n t = te := ⟨_, rfl⟩
      rw [hte]
      by_cases ht0 : te = 0
      · have HA2 : Hid (∀ s ∈ ss.take (j + 1), rTakes r s.1 s.2.1 = 0) := Hid.of (fun y hy => by
          rw [List.take_succ_eq_append_getElem (by have := HN.out; have := HJ.out; omega), (List.getElem?_eq_some_iff.1 HX.out).2, List.mem_append, List.mem_singleton] at hy
          rcases hy with hy | rfl
          · exact HA.out y hy
          · show rTakes r n t = 0
            rw [hte, ht0])
        subst ht0
        clear hte
        go_wp2
        go_roundg (N - (j + 1))
        case measure => have := HJ.out; omega
        case rel => exact ⟨j + 1, by go_num, HJ.out, Nat.le_refl _, HA2, B4⟩
      · have HZ : Hid (te = ce) := Hid.of (by rw [← HE.out, iTakes_at HX.out HA.out (by show rTakes r n t ≠ 0; rw [hte]; exact ht0)]; exact hte.symm)
        have ht1 : (te != 0) = true := by simp [ht0]
        clear hte ht0
        go_wp2
        go_ret
        rw [HZ.out]
        exact ⟨rfl, B4.out⟩
    · obtain rfl : j = N := by omega
      have HZ : Hid (0 = ce) := Hid.of (by
        rw [← HE.out]
        refine (iTakes_zero.2 (fun s hs => HA.out s ?_)).symm
        rw [← HN.out, List.take_length]
        exact hs)
      go_wp2
      go_ret
      rw [← HZ.out]
      exact ⟨rfl, HB.out⟩

theorem iRecs_snoc {r : RchL} {i : Nat} {ss : List SamL} {j : Nat} {n : ByteArray} {t x a : Int} {b : Bool} (hx : ss[j]? = some (n, t, x)) (h : rStart r (i : Int) t = (a, b)) : iRecs r i (ss.take (j + 1)) = if b then iRecs r i (ss.take j) ++ [⟨n, a, agOf [x]⟩] else iRecs r i (ss.take j) := by
  have hj := (List.getElem?_eq_some_iff.1 hx).1
  unfold iRecs
  rw [List.take_succ_eq_append_getElem hj, (List.getElem?_eq_some_iff.1 hx).2, List.filter_append, List.map_append]
  have e : iHas r i (n, t, x) = b := by unfold iHas; show (rStart r (i : Int) t).2 = b; rw [h]
  cases b
  · rw [List.filter_cons_of_neg (by rw [e]; simp), List.filter_nil, List.map_nil, List.append_nil]
    rfl
  · rw [List.filter_cons_of_pos e, List.filter_nil, List.map_cons, List.map_nil]
    simp only [if_true]
    unfold iRec
    simp only
    rw [h]

theorem iRecs_len (r : RchL) (i : Nat) (ss : List SamL) : (iRecs r i ss).length ≤ ss.length := by unfold iRecs; rw [List.length_map]; exact List.length_filter_le ..

theorem new_trec (w : World) (x : TRec) (t : TypeId) : Cells (w.alloc (.cells #[.string x.n, .int .i64 x.s, .int .i64 x.a.c, .int .i64 x.a.hi, .int .u64 x.a.lo, .int .i64 x.a.mn, .int .i64 x.a.mx] t)) w.heap.size 0 (flat renc ([x].map rl)) := by
  show Cells _ _ _ (flat renc [_])
  rw [flat_one]
  exact new_cells w _ t

set_option maxRecDepth 20000 in
set_option maxHeartbeats 6400000 in
theorem iBuckets_any {TS : TableSpec} {w : World} {p : Nat} {r : RchL} {T : List (List TRec)} {s f v : Value} {qs : List Nat} {Fs : List TFoot} (h : ITs TS w p r T s f v qs Fs) (i : Nat) (hi : i ≤ 1000)
    (u : Value) (ss : List SamL) (hu : CellRow w u ss.length (flat aenc ss)) (hlen : ss.length ≤ 1000) (hfit : ∀ x ∈ ss, SFit x) :
    Calls Try.prog 24 #[tptr p, .int .i64 i, u] w fun e w' => ∃ y, e = .returned y ∧ w'.ownsRow w.heap.size 47 7 y (iRecs r i ss).length (flat renc ((iRecs r i ss).map rl)) ∧ Below w.heap.size w w' := by
  obtain ⟨i0, hi0, hz0, hz1, hz2⟩ := info_parts rec_info'
  have HI := Hid.of hi0
  have HZ0 := Hid.of hz0
  have HZ1 := Hid.of hz1
  have HZ2 := Hid.of hz2
  have H := Hid.of h
  have HU := Hid.of hu
  have HF := Hid.of hfit
  have HII : Hid (In64 (i : Int)) := Hid.of (by unfold In64; omega)
  obtain ⟨ua, uc, rfl, -⟩ := hu
  obtain ⟨N, hN⟩ : ∃ N, ss.length = N := ⟨_, rfl⟩
  have HN := Hid.of hN
  rw [hN] at HU hlen ⊢
  clear h hfit hN hi0 hz0 hz1 hz2 hi
  go_enter Try.func24, Try.ntmps24
  go_wp2
  go_loopg [7, 9, 10, 11, 14] N (fun kx av _ _ _ iv wr => ∃ (j m : Nat) (lv : Value), lv = av ∧ iv = .int .i64 j ∧ j ≤ N ∧ m ≤ j ∧ N - j ≤ kx ∧ Hid ((iRecs r i (ss.take j)).length = m) ∧ Hid (wr.ownsRow w.heap.size 47 7 lv m (flat renc ((iRecs r i (ss.take j)).map rl))) ∧ Hid (Below w.heap.size w wr))
  case atStart => exact ⟨0, 0, _, rfl, rfl, Nat.zero_le _, Nat.le_refl _, Nat.le_refl _, Hid.of rfl, Hid.of (World.ownsRow_nil _ _ _ _), Hid.of (Below.refl _ _)⟩
  case round =>
    obtain ⟨j, m, lv, rfl, rfl, hj, hm, hk, HM, HO, HB⟩ := hrel
    have j0 : (0 : Int) ≤ (j : Int) := Int.natCast_nonneg _
    by_cases hlt : (j : Int) < (N : Int)
    · obtain ⟨x, hx⟩ : ∃ x, ss[j]? = some x := ⟨_, List.getElem?_eq_getElem (by have := HN.out; omega)⟩
      obtain ⟨b1, o1, rfl, g1, d0, d1, d2⟩ := a_at (HU.out.kept HB.out) j x hx
      obtain ⟨n, t, z⟩ := x
      have XF := Hid.of (HF.out _ (List.mem_of_getElem? hx))
      have HX := Hid.of hx
      have HJ : Hid (j < N) := Hid.of (by omega)
      have hmN : m ≤ 1000 := by omega
      simp only at d0 d1 d2
      obtain ⟨y, hy⟩ : ∃ y, wr.heap.size = y := ⟨_, rfl⟩
      obtain ⟨w2, hw2⟩ : ∃ w2, wr.alloc (.cells #[.string n, .int .i64 t, .int .i64 z] 63) = w2 := ⟨_, rfl⟩
      have IT := H.out.below HB.out
      have CS2 : Hid (Cs w2 [(⟨y, 0, none⟩, .string n), (⟨y, 1, none⟩, .int .i64 t), (⟨y, 2, none⟩, .int .i64 z), (⟨p, 0, none⟩, .int .i64 r.1), (⟨p, 1, none⟩, .string r.2.1.1), (⟨p, 2, none⟩, s), (⟨p, 3, none⟩, f)]) := Hid.of (by rw [← hw2, ← hy]; exact sam_cs wr n t z IT.cs)
      have b2 : Below wr.heap.size wr w2 := by rw [← hw2]; exact (Below.refl _ _).alloc (Nat.le_refl _) _
      have B2 : Hid (Below w.heap.size w w2) := Hid.of (HB.out.trans (b2.mono HB.out.size))
      have O2 := Hid.of (iown_kept HO.out b2)
      have HLY : Hid (∀ g, lv.ownBlock = some g → g < y) := Hid.of (fun g hg => by rw [← hy]; exact iown_lt HO.out hg)
      obtain ⟨st, hst⟩ : ∃ st, rStart r (i : Int) t = st := ⟨_, rfl⟩
      obtain ⟨a, b⟩ := st
      have HSN := Hid.of (iRecs_snoc (i := i) hx hst)
      have HST := Hid.of hst
      have HMJ := Hid.of hm
      clear hx g1 IT b2 HB HO hst hm
      go_upto_region 5 with fail
      clear hw2 hy d0 d1 d2
      have B2' := (Below.refl w2.heap.size w2).drew
      have B3 := Hid.of (B2.out.trans (B2'.mono B2.out.size))
      have O3 := Hid.of (iown_kept O2.out B2')
      have RR : Hid (RchRow w2.drew (.agg #[.int .i64 r.1, .string r.2.1.1, s, f]) r) := Hid.of (H.out.below B3.out).reach
      have CS3 := Hid.of (CS2.out.next B2')
      clear B2' B2 O2 CS2
      have CSX : Hid (Cs w2 [(⟨y, 0, none⟩, .string n), (⟨y, 1, none⟩, .int .i64 t), (⟨y, 2, none⟩, .int .i64 z), (⟨p, 0, none⟩, .int .i64 r.1), (⟨p, 1, none⟩, .string r.2.1.1), (⟨p, 2, none⟩, s), (⟨p, 3, none⟩, f)]) := Hid.of (fun x hx => CS3.out x hx)
      have d0 := (CSX.out).head
      have d1 := ((CSX.out).tail).head
      have d2 := (((CSX.out).tail).tail).head
      have d3 := ((((CSX.out).tail).tail).tail).head
      have d4 := (((((CSX.out).tail).tail).tail).tail).head
      have d5 := ((((((CSX.out).tail).tail).tail).tail).tail).head
      have d6 := (((((((CSX.out).tail).tail).tail).tail).tail).tail).head
      refine wp_region_noPanic ?_
      refine wp_region_held_drew (S := fun w' => w'.cell? ⟨y, 0, none⟩ = some (.string n) ∧ w'.cell? ⟨y, 1, none⟩ = some (.int .i64 t) ∧ w'.cell? ⟨y, 2, none⟩ = some (.int .i64 z) ∧ w'.cell? ⟨p, 0, none⟩ = some (.int .i64 r.1) ∧ w'.cell? ⟨p, 1, none⟩ = some (.string r.2.1.1) ∧ w'.cell? ⟨p, 2, none⟩ = some (s) ∧ w'.cell? ⟨p, 3, none⟩ = some (f)) (by kernel_rfl) ?_ (fun hHeld => ?_)
      · exact ⟨d0, d1, d2, d3, d4, d5, d6⟩
      refine wpAnyH_take (i := 0) (oi := ⟨_, _, _, _, _, _⟩) (v := ?_) rfl (by kernel_rfl) (by kernel_rfl) (by kernel_rfl) (fun _ _ _ h => h) (Or.inl ⟨by rfl, ?_⟩) hHeld ?_
      rotate_left
      · intro w' hSw
        try dsimp only at hSw
        go_simp
        all_goals with_reducible rfl
      simp only [Act.put, List.setIfInBounds_toArray, List.set_cons_zero, List.set_cons_succ]
      refine wpAnyH_take (i := 1) (oi := ⟨_, _, _, _, _, _⟩) (v := ?_) rfl (by kernel_rfl) (by kernel_rfl) (by kernel_rfl) (fun _ _ _ h => h) (Or.inl ⟨by rfl, ?_⟩) hHeld ?_
      rotate_left
      · intro w' hSw
        try dsimp only at hSw
        go_simp
        all_goals with_reducible rfl
      simp only [Act.put, List.setIfInBounds_toArray, List.set_cons_zero, List.set_cons_succ]
      refine wpAnyH_take (i := 2) (oi := ⟨_, _, _, _, _, _⟩) (v := ?_) rfl (by kernel_rfl) (by kernel_rfl) (by kernel_rfl) (fun _ _ _ h => h) (Or.inl ⟨by rfl, ?_⟩) hHeld ?_
      rotate_left
      · intro w' hSw
        try dsimp only at hSw
        go_simp
        all_goals with_reducible rfl
      simp only [Act.put, List.setIfInBounds_toArray, List.set_cons_zero, List.set_cons_succ]
      refine wpAnyH_take (i := 3) (oi := ⟨_, _, _, _, _, _⟩) (v := ?_) rfl (by kernel_rfl) (by kernel_rfl) (by kernel_rfl) (fun _ _ _ h => h) (Or.inl ⟨by rfl, ?_⟩) hHeld ?_
      rotate_left
      · intro w' hSw
        try dsimp only at hSw
        go_simp
        all_goals with_reducible rfl
      simp only [Act.put, List.setIfInBounds_toArray, List.set_cons_zero, List.set_cons_succ]
      refine wpAnyH_take (i := 4) (oi := ⟨_, _, _, _, _, _⟩) (v := ?_) rfl (by kernel_rfl) (by kernel_rfl) (by kernel_rfl) (fun _ _ _ h => h) (Or.inl ⟨by rfl, ?_⟩) hHeld ?_
      rotate_left
      · intro w' hSw
        try dsimp only at hSw
        go_simp
        all_goals with_reducible rfl
      simp only [Act.put, List.setIfInBounds_toArray, List.set_cons_zero, List.set_cons_succ]
      refine wpAnyH_take (i := 5) (oi := ⟨_, _, _, _, _, _⟩) (v := ?_) rfl (by kernel_rfl) (by kernel_rfl) (by kernel_rfl) (fun _ _ _ h => h) (Or.inl ⟨by rfl, ?_⟩) hHeld ?_
      rotate_left
      · intro w' hSw
        try dsimp only at hSw
        go_simp
        all_goals with_reducible rfl
      simp only [Act.put, List.setIfInBounds_toArray, List.set_cons_zero, List.set_cons_succ]
      refine wpAnyH_take (i := 6) (oi := ⟨_, _, _, _, _, _⟩) (v := ?_) rfl (by kernel_rfl) (by kernel_rfl) (by kernel_rfl) (fun _ _ _ h => h) (Or.inl ⟨by rfl, ?_⟩) hHeld ?_
      rotate_left
      · intro w' hSw
        try dsimp only at hSw
        go_simp
        all_goals with_reducible rfl
      simp only [Act.put, List.setIfInBounds_toArray, List.set_cons_zero, List.set_cons_succ]
      refine wpAnyH_ready (rs := [7]) (by kernel_rfl) (by simp) ?_
      refine AllReadyH.cons (o := ⟨_, _, _, _, _, _⟩) rfl (fun K hK => ?_) AllReadyH.nil
      go_simp
      refine (reaches.start _ r (i : Int) t _ trivial H.out.fit HII.out XF.out.2.1 RR.out).mono ?_
      rintro e w4 ⟨rfl, b4⟩
      rw [HST.out]
      have B4 := Hid.of (B3.out.trans (b4.mono B3.out.size))
      have CS4 := Hid.of (CS3.out.next b4)
      have O4 := Hid.of (iown_kept O3.out b4)
      clear b4 CS3 RR B3 O3 CSX HST
      clear hHeld d0 d1 d2 d3 d4 d5 d6
      have d0 := (CS4.out).head
      have d1 := ((CS4.out).tail).head
      have d2 := (((CS4.out).tail).tail).head
      have d3 := ((((CS4.out).tail).tail).tail).head
      have d4 := (((((CS4.out).tail).tail).tail).tail).head
      have d5 := ((((((CS4.out).tail).tail).tail).tail).tail).head
      have d6 := (((((((CS4.out).tail).tail).tail).tail).tail).tail).head
      refine hK.out _ _ ⟨d0, d1, d2, d3, d4, d5, d6⟩ (fun hHeld => ?_)
      clear hK K
      refine wpAnyH_take (i := 8) (oi := ⟨_, _, _, _, _, _⟩) (v := ?_) rfl (by kernel_rfl) (by kernel_rfl) (by kernel_rfl) (fun _ _ _ h => h) (Or.inl ⟨by rfl, ?_⟩) hHeld ?_
      rotate_left
      · intro w' hSw
        try dsimp only at hSw
        go_simp
        all_goals with_reducible rfl
      simp only [Act.put, List.setIfInBounds_toArray, List.set_cons_zero, List.set_cons_succ]
      refine wpAnyH_take (i := 9) (oi := ⟨_, _, _, _, _, _⟩) (v := ?_) rfl (by kernel_rfl) (by kernel_rfl) (by kernel_rfl) (fun _ _ _ h => h) (Or.inl ⟨by rfl, ?_⟩) hHeld ?_
      rotate_left
      · intro w' hSw
        try dsimp only at hSw
        go_simp
        all_goals with_reducible rfl
      simp only [Act.put, List.setIfInBounds_toArray, List.set_cons_zero, List.set_cons_succ]
      refine wpAnyH_take (i := 10) (oi := ⟨_, _, _, _, _, _⟩) (v := ?_) rfl (by kernel_rfl) (by kernel_rfl) (by kernel_rfl) (fun _ _ _ h => h) (Or.inl ⟨by rfl, ?_⟩) hHeld ?_
      rotate_left
      · intro w' hSw
        try dsimp only at hSw
        go_simp
        all_goals with_reducible rfl
      simp only [Act.put, List.setIfInBounds_toArray, List.set_cons_zero, List.set_cons_succ]
      refine wpAnyH_take (i := 11) (oi := ⟨_, _, _, _, _, _⟩) (v := ?_) rfl (by kernel_rfl) (by kernel_rfl) (by kernel_rfl) (fun _ _ _ h => h) (Or.inl ⟨by rfl, ?_⟩) hHeld ?_
      rotate_left
      · intro w' hSw
        try dsimp only at hSw
        go_simp
        all_goals with_reducible rfl
      simp only [Act.put, List.setIfInBounds_toArray, List.set_cons_zero, List.set_cons_succ]
      refine wpAnyH_take (i := 12) (oi := ⟨_, _, _, _, _, _⟩) (v := ?_) rfl (by kernel_rfl) (by kernel_rfl) (by kernel_rfl) (fun _ _ _ h => h) (Or.inl ⟨by rfl, ?_⟩) hHeld ?_
      rotate_left
      · intro w' hSw
        try dsimp only at hSw
        go_simp
        all_goals with_reducible rfl
      simp only [Act.put, List.setIfInBounds_toArray, List.set_cons_zero, List.set_cons_succ]
      refine wpAnyH_done (by kernel_rfl) ?_ _
      refine NoPanic.normal ?_
      clear hHeld d0 d1 d2 d3 d4 d5 d6
      cases b
      · go_wp2
        go_roundg (N - (j + 1))
        case measure => have := HJ.out; omega
        case rel =>
          have e := HSN.out
          simp only [Bool.false_eq_true, if_false] at e
          exact ⟨j + 1, m, _, rfl, by go_num, HJ.out, Nat.le_succ_of_le HMJ.out, Nat.le_refl _, Hid.of (by rw [e]; exact HM.out), Hid.of (by rw [e]; exact O4.out), B4⟩
      · have k1 := CS4.out.head
        have k2 := CS4.out.tail.tail.head
        have k3 : In64 z := XF.out.2.2
        have K3 := Hid.of k3
        go_upto_region 7 with fail
        have B4' := (Below.refl w4.heap.size w4).drew
        have B5 := Hid.of (B4.out.trans (B4'.mono B4.out.size))
        have O5 := Hid.of (iown_kept O4.out B4')
        clear k1 k2 k3 B4'
        have CS5 : Hid (Cs w4 [(⟨y, 0, none⟩, .string n), (⟨y, 2, none⟩, .int .i64 z)]) := Hid.of (.cons (CS4.out _ (List.mem_cons_self ..)).1 CS4.out.head (.cons (CS4.out _ (List.mem_cons_self ..)).1 CS4.out.tail.tail.head (.nil _)))
        have d0 := (CS5.out).head
        have d1 := ((CS5.out).tail).head
        refine wp_region_noPanic ?_
        refine wp_region_held_drew (S := fun w' => w'.cell? ⟨y, 0, none⟩ = some (.string n) ∧ w'.cell? ⟨y, 2, none⟩ = some (.int .i64 z)) (by kernel_rfl) ?_ (fun hHeld => ?_)
        · exact ⟨d0, d1⟩
        refine wpAnyH_take (i := 0) (oi := ⟨_, _, _, _, _, _⟩) (v := ?_) rfl (by kernel_rfl) (by kernel_rfl) (by kernel_rfl) (fun _ _ _ h => h) (Or.inl ⟨by rfl, ?_⟩) hHeld ?_
        rotate_left
        · intro w' hSw
          try dsimp only at hSw
          go_simp
          all_goals with_reducible rfl
        simp only [Act.put, List.setIfInBounds_toArray, List.set_cons_zero, List.set_cons_succ]
        refine wpAnyH_take (i := 1) (oi := ⟨_, _, _, _, _, _⟩) (v := ?_) rfl (by kernel_rfl) (by kernel_rfl) (by kernel_rfl) (fun _ _ _ h => h) (Or.inl ⟨by rfl, ?_⟩) hHeld ?_
        rotate_left
        · intro w' hSw
          try dsimp only at hSw
          go_simp
          all_goals with_reducible rfl
        simp only [Act.put, List.setIfInBounds_toArray, List.set_cons_zero, List.set_cons_succ]
        refine wpAnyH_take (i := 2) (oi := ⟨_, _, _, _, _, _⟩) (v := ?_) rfl (by kernel_rfl) (by kernel_rfl) (by kernel_rfl) (fun _ _ _ h => h) (Or.inl ⟨by rfl, ?_⟩) hHeld ?_
        rotate_left
        · intro w' hSw
          try dsimp only at hSw
          go_simp
          all_goals with_reducible rfl
        simp only [Act.put, List.setIfInBounds_toArray, List.set_cons_zero, List.set_cons_succ]
        refine wpAnyH_take (i := 3) (oi := ⟨_, _, _, _, _, _⟩) (v := ?_) rfl (by kernel_rfl) (by kernel_rfl) (by kernel_rfl) (fun _ _ _ h => h) (Or.inl ⟨by rfl, ?_⟩) hHeld ?_
        rotate_left
        · intro w' hSw
          try dsimp only at hSw
          go_simp
          all_goals with_reducible rfl
        simp only [Act.put, List.setIfInBounds_toArray, List.set_cons_zero, List.set_cons_succ]
        refine wpAnyH_take (i := 4) (oi := ⟨_, _, _, _, _, _⟩) (v := ?_) rfl (by kernel_rfl) (by kernel_rfl) (by kernel_rfl) (fun _ _ _ h => h) (Or.inl ⟨by rfl, ?_⟩) hHeld ?_
        rotate_left
        · intro w' hSw
          try dsimp only at hSw
          go_simp
          all_goals with_reducible rfl
        simp only [Act.put, List.setIfInBounds_toArray, List.set_cons_zero, List.set_cons_succ]
        refine wpAnyH_take (i := 5) (oi := ⟨_, _, _, _, _, _⟩) (v := ?_) rfl (by kernel_rfl) (by kernel_rfl) (by kernel_rfl) (fun _ _ _ h => h) (Or.inl ⟨by rfl, ?_⟩) hHeld ?_
        rotate_left
        · intro w' hSw
          try dsimp only at hSw
          go_simp
          all_goals with_reducible rfl
        simp only [Act.put, List.setIfInBounds_toArray, List.set_cons_zero, List.set_cons_succ]
        refine wpAnyH_ready (rs := [6]) (by kernel_rfl) (by simp) ?_
        refine AllReadyH.cons (o := ⟨_, _, _, _, _, _⟩) rfl (fun K hK => ?_) AllReadyH.nil
        go_simp
        obtain ⟨w6, hw6⟩ : ∃ w6, (w4.alloc (.cells #[.int .i64 z] 3)).drew = w6 := ⟨_, rfl⟩
        have b6 : Below w4.heap.size w4 w6 := by rw [← hw6]; exact ((Below.refl _ _).alloc (Nat.le_refl _) _).drew
        have N6 : Hid (NumRow .i64 w6 (.slice (some ⟨w4.heap.size, 0, none⟩) 1 1) [z]) := Hid.of (by rw [← hw6]; exact num_1 w4 z _)
        have B6 := Hid.of (B4.out.trans (b6.mono B4.out.size))
        have O6 := Hid.of (iown_kept O4.out b6)
        have CS6 := Hid.of (CS5.out.next b6)
        rw [hw6]
        clear hw6 b6
        clear hHeld d0 d1
        have d0 := (CS6.out).head
        have d1 := ((CS6.out).tail).head
        refine hK.out _ _ ⟨d0, d1⟩ (fun hHeld => ?_)
        clear hK K
        try simp only [Act.put, List.setIfInBounds_toArray, List.set_cons_zero, List.set_cons_succ]
        refine wpAnyH_ready (rs := [7]) (by kernel_rfl) (by simp) ?_
        refine AllReadyH.cons (o := ⟨_, _, _, _, _, _⟩) rfl (fun K hK => ?_) AllReadyH.nil
        go_simp
        refine (aggOf_any _ [z] _ N6.out (ints_1 z K3.out) (by simp)).mono ?_
        rintro e w7 ⟨rfl, b7⟩
        have B7 := Hid.of (B6.out.trans (b7.mono B6.out.size))
        have O7 := Hid.of (iown_kept O6.out b7)
        have CS7 := Hid.of (CS6.out.next b7)
        obtain ⟨ag, hag⟩ : ∃ ag, agOf [z] = ag := ⟨_, rfl⟩
        rw [hag] at HSN ⊢
        clear b7 hag N6 B6 O6 CS6 B5 O5 CS5
        unfold agv
        clear hHeld d0 d1
        have d0 := (CS7.out).head
        have d1 := ((CS7.out).tail).head
        refine hK.out _ _ ⟨d0, d1⟩ (fun hHeld => ?_)
        clear hK K
        try simp only [Act.put, List.setIfInBounds_toArray, List.set_cons_zero, List.set_cons_succ]
        refine wpAnyH_take (i := 8) (oi := ⟨_, _, _, _, _, _⟩) (v := ?_) rfl (by kernel_rfl) (by kernel_rfl) (by kernel_rfl) (fun _ _ _ h => h) (Or.inl ⟨by rfl, ?_⟩) hHeld ?_
        rotate_left
        · intro w' hSw
          try dsimp only at hSw
          go_simp
          all_goals with_reducible rfl
        simp only [Act.put, List.setIfInBounds_toArray, List.set_cons_zero, List.set_cons_succ]
        refine wpAnyH_ready (rs := [9]) (by kernel_rfl) (by simp) ?_
        refine AllReadyH.cons (o := ⟨_, _, _, _, _, _⟩) rfl (fun K hK => ?_) AllReadyH.nil
        go_simp
        obtain ⟨w8, hw8⟩ : ∃ w8, w7.alloc (.cells #[.string n, .int .i64 a, .int .i64 ag.c, .int .i64 ag.hi, .int .u64 ag.lo, .int .i64 ag.mn, .int .i64 ag.mx] 47) = w8 := ⟨_, rfl⟩
        have b8 : Below w7.heap.size w7 w8 := by rw [← hw8]; exact (Below.refl _ _).alloc (Nat.le_refl _) _
        have K8 : Hid (Cells w8 w7.heap.size 0 (flat renc ([(⟨n, a, ag⟩ : TRec)].map rl))) := Hid.of (by rw [← hw8]; exact new_trec w7 ⟨n, a, ag⟩ _)
        have B8 := Hid.of (B7.out.trans (b8.mono B7.out.size))
        have O8 := Hid.of (iown_kept O7.out b8)
        have CS8 := Hid.of (CS7.out.next b8)
        rw [hw8]
        clear hw8 b8
        clear hHeld d0 d1
        have d0 := (CS8.out).head
        have d1 := ((CS8.out).tail).head
        refine hK.out _ _ ⟨d0, d1⟩ (fun hHeld => ?_)
        clear hK K
        try simp only [Act.put, List.setIfInBounds_toArray, List.set_cons_zero, List.set_cons_succ]
        refine wpAnyH_ready (rs := [10]) (by kernel_rfl) (by simp) ?_
        refine AllReadyH.cons (o := ⟨_, _, _, _, _, _⟩) rfl (fun K hK => ?_) AllReadyH.nil
        refine step_append_keep rfl (.tmp 30) (.tmp 39) 34 rfl w.heap.size 47 i0 _ 7 64 Try.underlying34 HI.out HZ0.out HZ1.out HZ2.out rfl (by decide) lv m _ (by simp [Act.eval]) O8.out w7.heap.size 0 1 1 (flat renc ([(⟨n, a, ag⟩ : TRec)].map rl)) (by simp [Act.eval]) K8.out rfl (flat_ones renc_one _) (by unfold maxLen; omega) (by omega) B8.out.size ?_
        intro x9 w9 o9 g9 _ _
        have O9 := Hid.of o9
        have B9 : Hid (Below w.heap.size w w9) := Hid.of (B8.out.grown g9 B8.out.size (fun k hk => own_ge O8.out hk))
        have CS9 := Hid.of (CS8.out.grown g9 (fun q hq c => by have e : q.1.block = y := (by simp only [List.mem_cons, List.not_mem_nil, or_false] at hq; rcases hq with rfl | rfl <;> rfl); rw [e] at c; have := HLY.out _ c.symm; omega))
        clear o9 g9
        clear hHeld d0 d1
        have d0 := (CS9.out).head
        have d1 := ((CS9.out).tail).head
        refine hK.out _ _ ⟨d0, d1⟩ (fun hHeld => ?_)
        clear hK K
        try simp only [Act.put, List.setIfInBounds_toArray, List.set_cons_zero, List.set_cons_succ]
        refine wpAnyH_take (i := 11) (oi := ⟨_, _, _, _, _, _⟩) (v := ?_) rfl (by kernel_rfl) (by kernel_rfl) (by kernel_rfl) (fun _ _ _ h => h) (Or.inl ⟨by rfl, ?_⟩) hHeld ?_
        rotate_left
        · intro w' hSw
          try dsimp only at hSw
          go_simp
          all_goals with_reducible rfl
        simp only [Act.put, List.setIfInBounds_toArray, List.set_cons_zero, List.set_cons_succ]
        refine wpAnyH_done (by kernel_rfl) ?_ _
        refine NoPanic.normal ?_
        go_wp2
        go_roundg (N - (j + 1))
        case measure => have := HJ.out; omega
        case rel =>
          have e := HSN.out
          simp only [if_true] at e
          refine ⟨j + 1, m + 1, _, rfl, by go_num, HJ.out, Nat.succ_le_succ HMJ.out, Nat.le_refl _, Hid.of (by rw [e, List.length_append, HM.out]; rfl), Hid.of ?_, B9⟩
          rw [e, List.map_append, flat_append]
          exact O9.out
    · obtain rfl : j = N := by omega
      have e : ss.take j = ss := by rw [← HN.out, List.take_length]
      have HM2 := HM.out
      have HO2 := HO.out
      rw [e] at HM2 HO2
      rw [← HM2] at HO2
      have HO3 := Hid.of HO2
      clear HM2 HO2 e
      go_wp2
      go_ret
      exact ⟨_, rfl, HO3.out, HB.out⟩

end Go.Proofs.Ytnohmloilcpmiaa

namespace Go.Proofs.Ytnohmloilcpmiaa
open Go.RowKit Go.Lib

theorem iRecs_fit {r : RchL} {T : List (List TRec)} (h : IGood r T) {i : Nat} (hi : i < T.length) {ss : List SamL} (hs : ∀ s ∈ ss, SFit s) (ht : ∀ s ∈ ss, rTakes r s.1 s.2.1 = 0) : ∀ x ∈ iRecs r i ss, TFit x := by
  intro x hx
  obtain ⟨s, hs', rfl⟩ := List.mem_map.1 hx
  obtain ⟨h1, _⟩ := List.mem_filter.1 hs'
  exact iRec_fit h hi (hs s h1) (rTakes_ok (ht s h1)).2.1

theorem iCheck_zero {r : RchL} {ss : List SamL} (h : iCheck r ss = 0) : ss ≠ [] ∧ ss.length ≤ 8 ∧ ∀ s ∈ ss, rTakes r s.1 s.2.1 = 0 := by
  unfold iCheck at h
  split at h
  · cases h
  · split at h
    · cases h
    · exact ⟨‹_›, by omega, iTakes_zero.1 h⟩

set_option maxRecDepth 20000 in
set_option maxHeartbeats 3200000 in
theorem iput_any {TS : TableSpec} {w : World} {p : Nat} {r : RchL} {T : List (List TRec)} {F : TFoot} (u : Value) (ss : List SamL) (h : IRep TS w p r T F) (hl : ∀ l ∈ T, l.length + 8 ≤ 1000) (hu : CellRow w u ss.length (flat aenc ss)) (hlen : ss.length ≤ 1000) (hoff : ss ≠ [] → Off F.own u) (hfit : ∀ s ∈ ss, SFit s) :
    Calls Try.prog 8 #[tptr p, u] w fun x w' => x = .returned (.int .i64 (iCheck r ss)) ∧ ∃ F', IRep TS w' p r (if iCheck r ss = 0 then iPut r T ss else T) F' ∧ TStep F F' w w' := by
  obtain ⟨s, f, v, qs, Fs, h, hg, rfl⟩ := h
  obtain ⟨va, vc, rfl, -⟩ := h.tabs
  obtain ⟨N, hN⟩ : ∃ N, T.length = N := ⟨_, rfl⟩
  rw [hN] at h hoff ⊢
  have hmp := iMayPut_any h hg.pos.1 u ss hu (by omega) hfit
  have H := Hid.of h
  have HG := Hid.of hg
  have HU := Hid.of hu
  have HF := Hid.of hfit
  have HL := Hid.of hl
  have HO := Hid.of hoff
  obtain ⟨ua, uc, rfl, -⟩ := hu
  obtain ⟨M, hM⟩ : ∃ M, ss.length = M := ⟨_, rfl⟩
  have HM := Hid.of hM
  rw [hM] at HU HO hmp hlen ⊢
  have HN := Hid.of hN
  have hN5 : N ≤ 5 := by rw [← hN]; exact hg.pos.2
  obtain ⟨ce, hce⟩ : ∃ ce, iCheck r ss = ce := ⟨_, rfl⟩
  have HC := Hid.of hce
  rw [hce] at hmp ⊢
  clear h hg hfit hl hoff hM hN hce
  by_cases h0 : ce = 0
  · have HC0 := Hid.of (iCheck_zero (HC.out.trans h0))
    have HOF : Hid (Off (iFoot p s f (.slice va N vc) Fs).own (.slice ua M uc)) := Hid.of (HO.out HC0.out.1)
    have HLEN : Hid (M ≤ 8) := Hid.of (by rw [← HM.out]; exact HC0.out.2.1)
    rw [if_pos h0]
    subst h0
    clear HO
    go_enter Try.func8, Try.ntmps8
    go_wp2_with fail
    refine hmp.mono ?_
    rintro e w1 ⟨rfl, b1⟩
    have IT1 := H.out.below b1
    obtain ⟨-, -, -, -, c4⟩ := IT1.c
    have ST1 : Hid (TStep (iFoot p s f (.slice va N vc) Fs) (iFoot p s f (.slice va N vc) Fs) w w1) := Hid.of (TStep.of_below b1)
    have H1 := Hid.of IT1
    clear b1 IT1 hmp H
    go_wp2
    go_loopg [6, 7, 19] N (fun kx _ _ iv wr => ∃ (j : Nat) (Gs : List TFoot), iv = .int .i64 j ∧ j ≤ N ∧ N - j ≤ kx ∧ Hid (ITs TS wr p r (doneTo (fun i l => tAdds (tEv r i) l (iRecs r i ss)) T j) s f (.slice va N vc) qs Gs) ∧ Hid (TStep (iFoot p s f (.slice va N vc) Fs) (iFoot p s f (.slice va N vc) Gs) w wr))
    case atStart => exact ⟨0, Fs, rfl, Nat.zero_le _, Nat.le_refl _, Hid.of (by rw [doneTo_zero]; exact H1.out), ST1⟩
    case round =>
      clear H1 ST1 c4
      obtain ⟨j, Gs, rfl, hj, hk, IT, ST⟩ := hrel
      have j0 : (0 : Int) ≤ (j : Int) := Int.natCast_nonneg _
      by_cases hlt : (j : Int) < (N : Int)
      · obtain ⟨l, hT⟩ : ∃ l, T[j]? = some l := ⟨_, List.getElem?_eq_getElem (by have := HN.out; omega)⟩
        have hTj : j < T.length := by have := HN.out; omega
        have hdl := doneTo_at (fun i l => tAdds (tEv r i) l (iRecs r i ss)) hT
        have hds := doneTo_succ (fun i l => tAdds (tEv r i) l (iRecs r i ss)) hT
        obtain ⟨q, G, hq, hG, hrep⟩ := IT.out.at_i hdl
        have hcr := IT.out.tabs
        rw [doneTo_len, HN.out] at hcr
        obtain ⟨b1, o1, rfl, g1, d0⟩ := hcr.at j (tptr q) (by rw [List.getElem?_map, hq]; rfl)
        have hbk := iBuckets_any IT.out j (by omega) _ ss (by rw [HM.out]; exact ST.out.own.row HU.out HOF.out) (by rw [HM.out]; exact hlen) HF.out
        have HJ : Hid (j < N) := Hid.of (by omega)
        have HQ := Hid.of hq
        have HGG := Hid.of hG
        have HD := Hid.of hdl
        have HDS := Hid.of hds
        have HT := Hid.of hT
        have HTJ := Hid.of hTj
        clear hq hG hrep hcr g1 hdl hds hT hTj
        go_wp2_with fail
        refine hbk.mono ?_
        rintro e w2 ⟨y, rfl, o2, b2⟩
        have IT2 := Hid.of (IT.out.below b2)
        have ST2 := Hid.of (ST.out.trans (TStep.of_below b2))
        have hrep2 := IT2.out.rep j q l G HQ.out HD.out HGG.out
        have hadd := TS.add y (iRecs r j ss) hrep2 (by have := iRecs_len r j ss; have := HL.out l (List.mem_of_getElem? HT.out); have := HM.out; have := HLEN.out; omega) (own_row o2) (fun _ g hg c => by
          have h1 := own_ge o2 hg
          obtain ⟨q', G', hq', hG', hr'⟩ := IT.out.at_i HD.out
          rw [HGG.out] at hG'
          cases hG'
          have := TS.lt hr' g (TS.sub hr' g c)
          omega) (iRecs_fit HG.out HTJ.out HF.out HC0.out.2.2)
        clear o2 b2 hbk hrep2 d0 IT ST
        go_wp2_with fail
        refine hadd.mono ?_
        rintro e w3 ⟨rfl, G3, rep3, st3⟩
        obtain ⟨x1, x2⟩ := IT2.out.step HQ.out HD.out HGG.out rep3 st3
        rw [← HDS.out] at x1
        have IT3 := Hid.of x1
        have ST3 := Hid.of (ST2.out.trans x2)
        clear x1 x2 rep3 st3 hadd IT2 ST2
        go_wp2
        go_roundg (N - (j + 1))
        case measure => have := HJ.out; omega
        case rel => exact ⟨j + 1, _, by go_num, HJ.out, Nat.le_refl _, IT3, ST3⟩
      · obtain rfl : j = N := by omega
        have IT2 := IT.out
        rw [← HN.out, doneTo_all] at IT2
        have X : Hid (IRep TS wr p r (iPut r T ss) (iFoot p s f (.slice va j vc) Gs)) := Hid.of ⟨s, f, _, qs, Gs, by rw [HN.out] at IT2; exact IT2, HG.out.put HF.out HC0.out.2.2, rfl⟩
        clear IT2
        go_wp2
        go_ret
        exact ⟨rfl, _, X.out, ST.out⟩
  · have k0 : (ce != 0) = true := by simp [h0]
    rw [if_neg h0]
    clear h0 HO
    go_enter Try.func8, Try.ntmps8
    go_wp2_with fail
    refine hmp.mono ?_
    rintro e w1 ⟨rfl, b1⟩
    have X : Hid (IRep TS w1 p r T (iFoot p s f (.slice va N vc) Fs)) := Hid.of ⟨s, f, _, qs, Fs, H.out.below b1, HG.out, rfl⟩
    have Y : Hid (TStep (iFoot p s f (.slice va N vc) Fs) (iFoot p s f (.slice va N vc) Fs) w w1) := Hid.of (TStep.of_below b1)
    clear b1
    go_wp2
    go_ret
    exact ⟨rfl, _, X.out, Y.out⟩

theorem rFrom_nat' (r : RchL) (j : Nat) : rFrom r (j : Int) = rFromN r j := by
  unfold rFrom
  rw [if_neg (by omega), show ((j : Int).toNat) = j by omega]

theorem rFromN_in {r : RchL} (h : RFit r) (j : Nat) : TIn64 (rFromN r j) := by
  unfold rFromN
  cases h1 : r.2.1.2[j]? with
  | none => exact ⟨by show (-9223372036854775808 : Int) ≤ 0; decide, by show (0 : Int) ≤ _; decide⟩
  | some t =>
    have ht := h.2.1.2.2 t (List.mem_of_getElem? h1)
    have hb := gBack_int (now := r.1) (keep := t.2.2.1) (e := rEvery r.2.1.2 j) h.1 ht.2.2.1 (rEvery_in64 h.2.1 (List.getElem?_eq_some_iff.1 h1).1)
    cases h2 : r.2.2[j]? with
    | none => exact hb
    | some x =>
      have hx := h.2.2.2 x (List.mem_of_getElem? h2)
      show TIn64 (max _ _)
      unfold TIn64 In64 I64 at *
      omega

set_option maxRecDepth 20000 in
set_option maxHeartbeats 3200000 in
theorem itick_any {TS : TableSpec} {w : World} {p : Nat} {r : RchL} {T : List (List TRec)} {F : TFoot} (n : Int) (h : IRep TS w p r T F) (hl : ∀ l ∈ T, l.length ≤ 1000) (hn : In64 n) :
    Calls Try.prog 9 #[tptr p, .int .i64 n] w fun x w' => x = .returned (.int .i64 (iTickE r n)) ∧ ∃ F', IRep TS w' p (if iTickE r n = 0 then iNow r n else r) (if iTickE r n = 0 then iKeep (iNow r n) T else T) F' ∧ TStep F F' w w' := by
  obtain ⟨s, f, v, qs, Fs, h, hg, rfl⟩ := h
  obtain ⟨now, pol, fl⟩ := r
  have hno := iNone_any h hg.pos.1
  have n0 : 0 ≤ now := hg.n0
  have n1 : now ≤ 1099511627776 := hg.n1
  have H := Hid.of h
  have HG := Hid.of hg
  have HL := Hid.of hl
  have HN64 := Hid.of hn
  obtain ⟨N, hN⟩ : ∃ N, T.length = N := ⟨_, rfl⟩
  have HN := Hid.of hN
  have hN5 : N ≤ 5 := by rw [← hN]; exact hg.pos.2
  have X : Hid (IRep TS w p (now, pol, fl) T (iFoot p s f v Fs)) := Hid.of ⟨s, f, v, qs, Fs, h, hg, rfl⟩
  have c0 : w.cell? ⟨p, 0, none⟩ = some (.int .i64 now) := h.c.1
  have f0 : w.frozen? ⟨p, 0, none⟩ = false := row_frozen h.cell
  clear h hg hl hN
  by_cases hn0 : n < 0
  · have e : iTickE (now, pol, fl) n = 1 := by unfold iTickE; rw [if_pos hn0]
    rw [e]
    clear e
    go_enter Try.func9, Try.ntmps9
    go_wp2_with fail
    refine hno.mono ?_
    rintro e w1 ⟨rfl, rfl⟩
    go_wp2
    go_ret
    exact ⟨rfl, _, X.out, TStep.of_below (Below.refl _ _)⟩
  by_cases hn1 : n > 1099511627776 - now
  · have e : iTickE (now, pol, fl) n = 26 := by unfold iTickE maxT; rw [if_neg hn0, if_pos (by show 1099511627776 - now < n; omega)]
    rw [e]
    clear e
    go_enter Try.func9, Try.ntmps9
    go_wp2_with fail
    refine hno.mono ?_
    rintro e w1 ⟨rfl, rfl⟩
    go_wp2
    go_ret
    exact ⟨rfl, _, X.out, TStep.of_below (Below.refl _ _)⟩
  · have e : iTickE (now, pol, fl) n = 0 := by unfold iTickE maxT; rw [if_neg hn0, if_neg (by show ¬ 1099511627776 - now < n; omega)]
    rw [e, if_pos rfl, if_pos rfl]
    have hfit : RFit (iNow (now, pol, fl) n) := by
      have k := H.out.fit
      refine ⟨?_, k.2⟩
      show In64 (now + n)
      unfold In64
      omega
    obtain ⟨x1, x2⟩ := H.out.now n hfit
    have HGT := Hid.of (HG.out.tick (n := n) (by omega) (by unfold maxT; show n ≤ 1099511627776 - now; omega))
    obtain ⟨w1, hw1⟩ : ∃ w1, w.setCell ⟨p, 0, none⟩ (.int .i64 (now + n)) = w1 := ⟨_, rfl⟩
    have IT1 : ITs TS w1 p (iNow (now, pol, fl) n) T s f v qs Fs := by rw [← hw1]; exact x1
    have ST1 : Hid (TStep (iFoot p s f v Fs) (iFoot p s f v Fs) w w1) := Hid.of (by rw [← hw1]; exact x2)
    have hv1 := IT1.tabs
    obtain ⟨-, -, -, -, c4⟩ := IT1.c
    obtain ⟨va, vc, rfl, -⟩ := hv1
    rw [HN.out] at c4
    have H1 := Hid.of IT1
    rw [HN.out] at H1 ST1 ⊢
    obtain ⟨r, hr⟩ : ∃ r, iNow (now, pol, fl) n = r := ⟨_, rfl⟩
    rw [hr] at H1 HGT ⊢
    clear e IT1 x1 x2 X H HG hfit hr
    go_enter Try.func9, Try.ntmps9
    go_wp2_with fail
    refine hno.mono ?_
    rintro e w2 ⟨rfl, rfl⟩
    go_wp2
    clear hw1 c0 f0 hno
    go_loopg [5, 6, 38] N (fun kx _ _ iv wr => ∃ (j : Nat) (Gs : List TFoot), iv = .int .i64 j ∧ j ≤ N ∧ N - j ≤ kx ∧ Hid (ITs TS wr p r (doneTo (fun i l => tKeep l (rFromN r i)) T j) s f (.slice va N vc) qs Gs) ∧ Hid (TStep (iFoot p s f (.slice va N vc) Fs) (iFoot p s f (.slice va N vc) Gs) w2 wr))
    case atStart => exact ⟨0, Fs, rfl, Nat.zero_le _, Nat.le_refl _, Hid.of (by rw [doneTo_zero]; exact H1.out), ST1⟩
    case round =>
      clear H1 ST1 c4
      obtain ⟨j, Gs, rfl, hj, hk, IT, ST⟩ := hrel
      have j0 : (0 : Int) ≤ (j : Int) := Int.natCast_nonneg _
      by_cases hlt : (j : Int) < (N : Int)
      · obtain ⟨l, hT⟩ : ∃ l, T[j]? = some l := ⟨_, List.getElem?_eq_getElem (by have := HN.out; omega)⟩
        have hdl := doneTo_at (fun i l => tKeep l (rFromN r i)) hT
        have hds := doneTo_succ (fun i l => tKeep l (rFromN r i)) hT
        obtain ⟨q, G, hq, hG, hrep⟩ := IT.out.at_i hdl
        have hcr := IT.out.tabs
        rw [doneTo_len, HN.out] at hcr
        obtain ⟨b1, o1, rfl, g1, d0⟩ := hcr.at j (tptr q) (by rw [List.getElem?_map, hq]; rfl)
        have hfr := reaches.from_ _ r (j : Int) _ trivial IT.out.fit (by unfold In64; omega) IT.out.reach
        rw [rFrom_nat'] at hfr
        unfold rVal at hfr
        obtain ⟨k0, k1, k2, k3, -⟩ := IT.out.c
        have HJ : Hid (j < N) := Hid.of (by omega)
        have HQ := Hid.of hq
        have HGG := Hid.of hG
        have HD := Hid.of hdl
        have HDS := Hid.of hds
        have HLE : Hid (l.length ≤ 1000) := Hid.of (HL.out l (List.mem_of_getElem? hT))
        clear hq hG hrep hcr g1 hdl hds hT
        go_wp2_with fail
        refine hfr.mono ?_
        rintro e w3 ⟨rfl, b3⟩
        have IT2 := Hid.of (IT.out.below b3)
        have ST2 := Hid.of (ST.out.trans (TStep.of_below b3))
        have hdr := TS.drop (rFromN r j) (IT2.out.rep j q l G HQ.out HD.out HGG.out) HLE.out (rFromN_in IT2.out.fit j)
        clear b3 hfr d0 IT ST k0 k1 k2 k3
        go_wp2_with fail
        refine hdr.mono ?_
        rintro e w4 ⟨rfl, G4, rep4, st4⟩
        obtain ⟨x1, x2⟩ := IT2.out.step HQ.out HD.out HGG.out rep4 st4
        rw [← HDS.out] at x1
        have IT4 := Hid.of x1
        have ST4 := Hid.of (ST2.out.trans x2)
        clear x1 x2 rep4 st4 hdr IT2 ST2
        go_wp2
        go_roundg (N - (j + 1))
        case measure => have := HJ.out; omega
        case rel => exact ⟨j + 1, _, by go_num, HJ.out, Nat.le_refl _, IT4, ST4⟩
      · obtain rfl : j = N := by omega
        have IT2 := IT.out
        rw [← HN.out, doneTo_all] at IT2
        have X : Hid (IRep TS wr p r (iKeep r T) (iFoot p s f (.slice va T.length vc) Gs)) := Hid.of ⟨s, f, _, qs, Gs, IT2, HGT.out, rfl⟩
        rw [HN.out] at X
        clear IT2
        go_wp2
        go_ret
        exact ⟨rfl, _, X.out, ST.out⟩

end Go.Proofs.Ytnohmloilcpmiaa

namespace Go.Proofs.Ytnohmloilcpmiaa
open Go.RowKit Go.Lib

/-- Sums over the tiers, up to one. -/
def sumTo (g : Nat → List TRec → Nat) (T : List (List TRec)) (j : Nat) : Nat := ((T.take j).mapIdx g).sum
theorem sumTo_zero (g : Nat → List TRec → Nat) (T : List (List TRec)) : sumTo g T 0 = 0 := by unfold sumTo; rw [List.take_zero]; rfl
theorem sumTo_all (g : Nat → List TRec → Nat) (T : List (List TRec)) : sumTo g T T.length = (T.mapIdx g).sum := by unfold sumTo; rw [List.take_length]
theorem sumTo_succ (g : Nat → List TRec → Nat) {T : List (List TRec)} {j : Nat} {l : List TRec} (h : T[j]? = some l) : sumTo g T (j + 1) = sumTo g T j + g j l := by
  have hj := (List.getElem?_eq_some_iff.1 h).1
  unfold sumTo
  rw [List.take_succ_eq_append_getElem hj, (List.getElem?_eq_some_iff.1 h).2, List.mapIdx_append, List.sum_append]
  have e : (T.take j).length = j := by rw [List.length_take]; omega
  rw [e]
  simp
theorem sumTo_le {g : Nat → List TRec → Nat} {T : List (List TRec)} {m : Nat} (h : ∀ (i : Nat) l, T[i]? = some l → g i l ≤ m) : ∀ j, j ≤ T.length → sumTo g T j ≤ m * j
  | 0, _ => by rw [sumTo_zero]; exact Nat.zero_le _
  | j + 1, hj => by
    obtain ⟨l, hl⟩ : ∃ l, T[j]? = some l := ⟨_, List.getElem?_eq_getElem (by omega)⟩
    rw [sumTo_succ g hl, Nat.mul_succ]
    have := sumTo_le h j (by omega)
    have := h j l hl
    omega

set_option maxRecDepth 20000 in
set_option maxHeartbeats 3200000 in
theorem iask_any {TS : TableSpec} {w : World} {p : Nat} {r : RchL} {T : List (List TRec)} {F : TFoot} (n : ByteArray) (a b : Int) (h : IRep TS w p r T F) (hl : ∀ l ∈ T, l.length ≤ 1000) (hn : n.size ≤ 1000) (ha : In64 a) (hb : In64 b) :
    Calls Try.prog 10 #[tptr p, .string n, .int .i64 a, .int .i64 b] w fun x w' => ∃ u, (iAskE n a b = 0 → x = .returned (.tuple #[ansVal (rCover r a) u, .int .i64 0]) ∧ w'.ownsRow w.heap.size 47 7 u (tRange (iTab T (rCover r a)) n a b).length (flat renc ((tRange (iTab T (rCover r a)) n a b).map rl))) ∧ (iAskE n a b ≠ 0 → x = .returned (.tuple #[ansVal 0 u, .int .i64 (iAskE n a b)]) ∧ w'.ownsRow w.heap.size 47 7 u 0 []) ∧ Below w.heap.size w w' := by
  obtain ⟨s, f, v, qs, Fs, h, hg, rfl⟩ := h
  obtain ⟨z, hz⟩ : ∃ z, w.heap.size = z := ⟨_, rfl⟩
  obtain ⟨w1, hw1⟩ : ∃ w1, w.alloc (.cells #[.int .i64 0, .slice none 0 0] 40) = w1 := ⟨_, rfl⟩
  have b1 : Below w.heap.size w w1 := by rw [← hw1]; exact (Below.refl _ _).alloc (Nat.le_refl _) _
  have z1 : w1.heap[z]? = some (.cells #[.int .i64 0, .slice none 0 0] 40 (0, 0)) := by rw [← hw1, ← hz]; exact (MapKept.heap_alloc w _).1
  have hno := iNone_any (h.below b1) hg.pos.1
  have hma := iMayAsk_any n a b w1 (by unfold maxLen; omega)
  have H1 := Hid.of (h.below b1)
  have B1 := Hid.of b1
  have Z1 := Hid.of z1
  have HG := Hid.of hg
  have HL := Hid.of hl
  have HA := Hid.of ha
  have HBB := Hid.of hb
  have HZ : Hid (w.heap.size = z) := Hid.of hz
  have HW := Hid.of hw1
  clear h hg hl b1 z1 hz hw1 ha hb
  by_cases he : iAskE n a b = 0
  · rw [decide_eq_true he] at hma
    obtain ⟨c, hc, hcl, -⟩ := cover_some (r := r) a (by have := HG.out.pos.1; rw [HG.out.len] at this; exact this)
    have hcT : c < T.length := by rw [HG.out.len]; exact hcl
    obtain ⟨l, hT⟩ : ∃ l, T[c]? = some l := ⟨_, List.getElem?_eq_getElem hcT⟩
    have etab : iTab T (rCover r a) = l := by
      rw [hc]
      unfold iTab
      rw [if_neg (by omega), show ((c : Int).toNat) = c by omega, List.getD_eq_getElem?_getD, hT]
      rfl
    rw [etab, hc]
    have HE := Hid.of he
    have HT := Hid.of hT
    have HC := Hid.of hc
    have HLE : Hid (l.length ≤ 1000) := Hid.of (HL.out l (List.mem_of_getElem? hT))
    clear he etab hT hc hcl hcT
    go_enter Try.func10, Try.ntmps10
    go_upto_region 1 with fail
    rw [HW.out, HZ.out]
    clear HW
    go_wp2_with fail
    refine hno.mono ?_
    rintro e w2 ⟨rfl, rfl⟩
    go_wp2_with fail
    refine hma.mono ?_
    rintro e w3 ⟨rfl, b3⟩
    have H3 := Hid.of (H1.out.below b3)
    have B3 := Hid.of (B1.out.trans (b3.mono B1.out.size))
    have Z3 := Hid.of ((b3.block z (Array.getElem?_eq_some_iff.1 Z1.out).1).trans Z1.out)
    have hcv := reaches.cover _ r a w3 trivial H3.out.fit HA.out H3.out.reach
    rw [HC.out] at hcv
    unfold rVal at hcv
    obtain ⟨k0, k1, k2, k3, -⟩ := H3.out.c
    clear b3 hno hma H1 B1 Z1
    go_wp2_with fail
    refine hcv.mono ?_
    rintro e w4 ⟨rfl, b4⟩
    have IT4 := H3.out.below b4
    have B4 := Hid.of (B3.out.trans (b4.mono B3.out.size))
    have Z4 := Hid.of ((b4.block z (Array.getElem?_eq_some_iff.1 Z3.out).1).trans Z3.out)
    obtain ⟨q, G, hq, hG, hrep⟩ := IT4.at_i HT.out
    have hat := iAt_any IT4 hq
    have hrg := TS.range n a b hrep HLE.out (by omega) HA.out HBB.out
    clear b4 hcv k0 k1 k2 k3 H3 B3 Z3 IT4 hq hG hrep
    go_wp2_with fail
    refine hat.mono ?_
    rintro e w5 ⟨rfl, rfl⟩
    go_wp2_with fail
    refine hrg.mono ?_
    rintro e w6 ⟨u, rfl, o6, b6⟩
    obtain ⟨ua, uc, rfl, -⟩ := own_one o6
    have B6 := Hid.of (B4.out.trans (b6.mono B4.out.size))
    have z6 := (b6.block z (Array.getElem?_eq_some_iff.1 Z4.out).1).trans Z4.out
    have hz0 : w5.heap.size > z := (Array.getElem?_eq_some_iff.1 Z4.out).1
    have O6 := Hid.of o6
    have y0 := row_frozen (i := 0) z6
    have y1 := row_frozen (i := 1) z6
    have t0 : w6.cell? ⟨z, 0, none⟩ = some (.int .i64 0) := by rw [cell_of_row _ _ _ _ _ _ z6]; rfl
    have t1 : w6.cell? ⟨z, 1, none⟩ = some (.slice none 0 0) := by rw [cell_of_row _ _ _ _ _ _ z6]; rfl
    obtain ⟨L, hL⟩ : ∃ L, (tRange l n a b).length = L := ⟨_, rfl⟩
    have HLL := Hid.of hL
    rw [hL] at O6 ⊢
    have z7 := row_set (i := 1) (row_set (i := 0) z6 (.int .i64 (c : Int))) (.slice ua L uc)
    have g7 : w6.grownBy ((w6.setCell ⟨z, 0, none⟩ (.int .i64 (c : Int))).setCell ⟨z, 1, none⟩ (.slice ua L uc)) (some z) := grownBy_trans (grownBy_setCell _ _ _ _) (grownBy_setCell _ _ _ _)
    obtain ⟨w7, hw7⟩ : ∃ w7, (w6.setCell ⟨z, 0, none⟩ (.int .i64 (c : Int))).setCell ⟨z, 1, none⟩ (.slice ua L uc) = w7 := ⟨_, rfl⟩
    rw [hw7] at z7 g7
    have B7 : Hid (Below w.heap.size w w7) := Hid.of (B6.out.grown g7 B6.out.size (fun k hk => by cases hk; exact Nat.le_of_eq HZ.out))
    have O7 : Hid (w7.ownsRow w.heap.size 47 7 (.slice ua L uc) L (flat renc ((tRange l n a b).map rl))) := Hid.of (iown_at (own_mono O6.out (D := w.heap.size) B4.out.size) (fun g hg => g7.block g (iown_lt O6.out hg) (fun c => by have := own_ge O6.out hg; have := Option.some.inj c; omega)))
    have q0 : w7.cell? ⟨z, 0, none⟩ = some (.int .i64 (c : Int)) := by rw [cell_of_row _ _ _ _ _ _ z7]; simp
    have q1 : w7.cell? ⟨z, 1, none⟩ = some (.slice ua L uc) := by rw [cell_of_row _ _ _ _ _ _ z7]; simp
    clear o6 b6 z6 hz0 z7 g7 hrg hat hL
    go_wp2
    rw [HE.out]
    refine bodyPost_ret (v := .tuple #[ansVal (c : Int) (.slice ua L uc), .int .i64 0]) ?_ rfl ⟨.slice ua L uc, fun _ => ⟨rfl, by rw [HLL.out]; exact O7.out⟩, fun x => absurd rfl x, B7.out⟩
    simp [results, Try.results10, go_sem, q0, q1]
  · rw [decide_eq_false he] at hma
    have he1 : iAskE n a b = 1 := by
      unfold iAskE at he ⊢
      split
      · rfl
      · rename_i hc
        rw [if_neg hc] at he
        exact absurd rfl he
    have HE := Hid.of he
    have HE1 := Hid.of he1
    clear he he1
    go_enter Try.func10, Try.ntmps10
    go_upto_region 1 with fail
    rw [HW.out, HZ.out]
    clear HW
    go_wp2_with fail
    refine hno.mono ?_
    rintro e w2 ⟨rfl, rfl⟩
    go_wp2_with fail
    refine hma.mono ?_
    rintro e w3 ⟨rfl, b3⟩
    have B3 := Hid.of (B1.out.trans (b3.mono B1.out.size))
    have z3 := (b3.block z (Array.getElem?_eq_some_iff.1 Z1.out).1).trans Z1.out
    have y0 := row_frozen (i := 0) z3
    have y1 := row_frozen (i := 1) z3
    have t0 : w3.cell? ⟨z, 0, none⟩ = some (.int .i64 0) := by rw [cell_of_row _ _ _ _ _ _ z3]; rfl
    have t1 : w3.cell? ⟨z, 1, none⟩ = some (.slice none 0 0) := by rw [cell_of_row _ _ _ _ _ _ z3]; rfl
    have z7 := row_set (i := 1) (row_set (i := 0) z3 (.int .i64 0)) (.slice none 0 0)
    have g7 : w3.grownBy ((w3.setCell ⟨z, 0, none⟩ (.int .i64 0)).setCell ⟨z, 1, none⟩ (.slice none 0 0)) (some z) := grownBy_trans (grownBy_setCell _ _ _ _) (grownBy_setCell _ _ _ _)
    obtain ⟨w7, hw7⟩ : ∃ w7, (w3.setCell ⟨z, 0, none⟩ (.int .i64 0)).setCell ⟨z, 1, none⟩ (.slice none 0 0) = w7 := ⟨_, rfl⟩
    rw [hw7] at z7 g7
    have B7 : Hid (Below w.heap.size w w7) := Hid.of (B3.out.grown g7 B3.out.size (fun k hk => by cases hk; exact Nat.le_of_eq HZ.out))
    have q0 : w7.cell? ⟨z, 0, none⟩ = some (.int .i64 0) := by rw [cell_of_row _ _ _ _ _ _ z7]; simp
    have q1 : w7.cell? ⟨z, 1, none⟩ = some (.slice none 0 0) := by rw [cell_of_row _ _ _ _ _ _ z7]; simp
    clear b3 z3 z7 g7 hno hma
    go_wp2
    rw [HE1.out]
    refine bodyPost_ret (v := .tuple #[ansVal 0 (.slice none 0 0), .int .i64 1]) ?_ rfl ⟨.slice none 0 0, fun x => absurd x (by decide), fun _ => ⟨rfl, World.ownsRow_nil _ _ _ _⟩, B7.out⟩
    simp [results, Try.results10, go_sem, q0, q1]

set_option maxRecDepth 20000 in
set_option maxHeartbeats 800000 in
theorem ilen_any {TS : TableSpec} {w : World} {p : Nat} {r : RchL} {T : List (List TRec)} {F : TFoot} (h : IRep TS w p r T F) (hl : ∀ l ∈ T, l.length ≤ 1000) :
    Calls Try.prog 17 #[tptr p] w fun x w' => x = .returned (.int .i64 (iLen T : Nat)) ∧ Below w.heap.size w w' := by
  obtain ⟨s, f, v, qs, Fs, h, hg, rfl⟩ := h
  have hN5 := hg.pos.2
  obtain ⟨-, -, -, -, c4⟩ := h.c
  obtain ⟨va, vc, rfl, -⟩ := h.tabs
  obtain ⟨N, hN⟩ : ∃ N, T.length = N := ⟨_, rfl⟩
  have e : iLen T = sumTo (fun _ l => l.length) T N := by
    rw [← hN, sumTo_all]
    unfold iLen
    congr 1
    refine List.ext_getElem? fun i => ?_
    rw [List.getElem?_map, List.getElem?_mapIdx]
  have HS : Hid (∀ j, j ≤ N → sumTo (fun _ l => l.length) T j ≤ 1000 * j) := Hid.of (fun j hj => sumTo_le (fun i l h => hl l (List.mem_of_getElem? h)) j (by omega))
  rw [e]
  rw [hN] at h c4 hN5
  have H := Hid.of h
  have HN := Hid.of hN
  have HL := Hid.of hl
  clear e h hN hl hg
  go_enter Try.func17, Try.ntmps17
  go_wp2
  go_loopg [3, 5, 13] N (fun kx nv _ iv wr => ∃ (j m : Nat), nv = .int .i64 m ∧ iv = .int .i64 j ∧ j ≤ N ∧ m ≤ 5000 ∧ N - j ≤ kx ∧ Hid (sumTo (fun _ l => l.length) T j = m) ∧ Hid (Below w.heap.size w wr))
  case atStart => exact ⟨0, 0, rfl, rfl, Nat.zero_le _, Nat.zero_le _, Nat.le_refl _, Hid.of (sumTo_zero _ _), Hid.of (Below.refl _ _)⟩
  case round =>
    obtain ⟨j, m, rfl, rfl, hj, hm, hk, HM, HB⟩ := hrel
    have j0 : (0 : Int) ≤ (j : Int) := Int.natCast_nonneg _
    by_cases hlt : (j : Int) < (N : Int)
    · obtain ⟨l, hT⟩ : ∃ l, T[j]? = some l := ⟨_, List.getElem?_eq_getElem (by have := HN.out; omega)⟩
      have IT := H.out.below HB.out
      obtain ⟨q, G, hq, hG, hrep⟩ := IT.at_i hT
      have hcr := IT.tabs
      rw [HN.out] at hcr
      obtain ⟨b1, o1, rfl, g1, d0⟩ := hcr.at j (tptr q) (by rw [List.getElem?_map, hq]; rfl)
      have hln := TS.len hrep (HL.out l (List.mem_of_getElem? hT))
      obtain ⟨x, hx⟩ : ∃ x, l.length = x := ⟨_, rfl⟩
      have hx1 : x ≤ 1000 := by rw [← hx]; exact HL.out l (List.mem_of_getElem? hT)
      have HSU : Hid (sumTo (fun _ l => l.length) T (j + 1) = m + x) := Hid.of (by rw [sumTo_succ _ hT, HM.out, hx])
      have hmx : m + x ≤ 5000 := by have := HS.out (j + 1) (by omega); rw [HSU.out] at this; omega
      rw [hx] at hln
      have HJ : Hid (j < N) := Hid.of (by omega)
      clear hq hG hrep hcr g1 IT hT hx
      go_wp2_with fail
      refine hln.mono ?_
      rintro e w2 ⟨rfl, b2⟩
      have B2 := Hid.of (HB.out.trans (b2.mono HB.out.size))
      clear b2 hln d0 HB
      go_wp2
      go_roundg (N - (j + 1))
      case measure => have := HJ.out; omega
      case rel => exact ⟨j + 1, m + x, by go_num, by go_num, HJ.out, hmx, Nat.le_refl _, HSU, B2⟩
    · obtain rfl : j = N := by omega
      go_wp2
      go_ret
      rw [HM.out]
      exact ⟨rfl, HB.out⟩

end Go.Proofs.Ytnohmloilcpmiaa

namespace Go.Proofs.Ytnohmloilcpmiaa
open Go.RowKit Go.Lib

theorem ptab_info : (Try.prog.info? 70).map (fun i => (i.zero, i.size, i.bytes)) = some (some (.pointer none), 1, 8) := by kernel_rfl

/-- Tiers that are being made, above D: their tables' list grows by one table at a time. -/
structure IGrow (TS : TableSpec) (w0 w : World) (p : Nat) (r : RchL) (T : List (List TRec)) (s f v : Value) (qs : List Nat) (Fs : List TFoot) : Prop where
  is : ITs TS w p r T s f v qs Fs
  fr : Below w0.heap.size w0 w
  ge : ∀ k, (iFoot p s f v Fs).all k → w0.heap.size ≤ k
  va : ∀ F ∈ Fs, ∀ k, v.ownBlock = some k → ¬ F.all k
  sv : ∀ k, v.ownBlock = some k → s.ownBlock ≠ some k ∧ f.ownBlock ≠ some k

section
variable {TS : TableSpec} {w0 w w1 w2 w' : World} {p : Nat} {r : RchL} {T : List (List TRec)} {s f v : Value} {qs : List Nat} {Fs : List TFoot}

theorem IGrow.next (h : IGrow TS w0 w p r T s f v qs Fs) (b : Below w.heap.size w w') : IGrow TS w0 w' p r T s f v qs Fs :=
  ⟨h.is.below b, h.fr.trans (b.mono h.fr.size), h.ge, h.va, h.sv⟩

/-- They begin without a table. -/
theorem IGrow.new {u : Value} (hfit : RFit r) (h : OwnRch w0.heap.size w u r) (b : Below w0.heap.size w0 w) : ∃ s f, u = rVal r s f ∧ IGrow TS w0 (w.alloc (.cells #[.int .i64 r.1, .string r.2.1.1, s, f, .slice none 0 0] 56)) w.heap.size r [] s f (.slice none 0 0) [] [] := by
  obtain ⟨s, f, hu, h1, h2, -⟩ := h
  have hz := (MapKept.heap_alloc w (.cells #[.int .i64 r.1, .string r.2.1.1, s, f, .slice none 0 0] 56 (0, 0))).1
  have b1 : Below w.heap.size w (w.alloc (.cells #[.int .i64 r.1, .string r.2.1.1, s, f, .slice none 0 0] 56 (0, 0))) := (Below.refl _ _).alloc (Nat.le_refl _) _
  refine ⟨s, f, hu, ⟨?_, b.trans (b1.mono b.size), fun k hk => ?_, fun F hF => absurd hF List.not_mem_nil, fun k hk => by cases hk⟩⟩
  · exact {
      cell := hz
      hs := own_mono (iown_kept h1 b1) (Nat.zero_le _)
      hf := own_mono (iown_kept h2 b1) (Nat.zero_le _)
      hv := World.ownsRow_nil _ _ _ _
      ql := rfl
      fl := rfl
      rep := fun i q l F hq => by simp at hq
      apart := fun i j k F G hF => by simp at hF
      off := fun F hF => absurd hF List.not_mem_nil
      out := fun F hF => absurd hF List.not_mem_nil
      pp := fun c => by
        rcases c with c | c | c
        · have := iown_lt h1 c; omega
        · have := iown_lt h2 c; omega
        · cases c
      fit := hfit }
  · rcases hk with rfl | (c | c | c) | ⟨F, hF, _⟩
    · exact b.size
    · exact own_ge h1 c
    · exact own_ge h2 c
    · cases c
    · exact absurd hF List.not_mem_nil

/-- One table more: it is made (w1), put behind the others (w2), and the list is stored (w'). -/
theorem IGrow.more (h : IGrow TS w0 w p r T s f v qs Fs) {q : Nat} {l : List TRec} {F : TFoot} (b1 : Below w.heap.size w w1) (hr : TS.Rep w1 q (tEv r T.length) l F) (hF : ∀ k, F.all k → w.heap.size ≤ k) {v' : Value}
    (o2 : w2.ownsRow 0 70 1 v' (qs.length + 1) (qs.map tptr ++ [tptr q])) (g2 : w1.grownBy w2 v.ownBlock) (m2 : v'.ownBlock = v.ownBlock ∨ ∃ g, v'.ownBlock = some g ∧ w1.heap.size ≤ g) :
    IGrow TS w0 (w2.setCell ⟨p, 4, none⟩ v') p r (T ++ [l]) s f v' (qs ++ [q]) (Fs ++ [F]) := by
  have hp := h.is.lt_p
  have hs1 : w.heap.size ≤ w1.heap.size := b1.size
  have hvp : ∀ k, v.ownBlock = some k → k ≠ p := fun k hk c => h.is.pp (c ▸ .inr (.inr hk))
  have hvl : ∀ k, v.ownBlock = some k → k < w.heap.size := fun k hk => iown_lt h.is.hv hk
  have hv' : ∀ k, v'.ownBlock = some k → v.ownBlock = some k ∨ w1.heap.size ≤ k := fun k hk => by
    rcases m2 with e | ⟨g, e, hg⟩
    · exact .inl (e ▸ hk)
    · rw [e] at hk
      cases hk
      exact .inr hg
  have g3 := grownBy_setCell w2 p 4 v'
  -- what was there ahead, but for the list and the first block
  have keep : ∀ k, k < w1.heap.size → v.ownBlock ≠ some k → k ≠ p → (w2.setCell ⟨p, 4, none⟩ v').heap[k]? = w1.heap[k]? := fun k hk hne hkp =>
    (g3.block k (Nat.lt_of_lt_of_le hk g2.size) (fun c => hkp (Option.some.inj c))).trans (g2.block k hk (fun c => hne c.symm))
  have keep0 : ∀ k, k < w.heap.size → v.ownBlock ≠ some k → k ≠ p → (w2.setCell ⟨p, 4, none⟩ v').heap[k]? = w.heap[k]? := fun k hk hne hkp =>
    (keep k (by omega) hne hkp).trans (b1.block k hk)
  have hcell2 : w2.heap[p]? = some (.cells #[.int .i64 r.1, .string r.2.1.1, s, f, v] 56 (0, 0)) :=
    (g2.block p (by omega) (fun c => hvp p c.symm rfl)).trans ((b1.block p hp).trans h.is.cell)
  have hlast : ∀ (i : Nat) G, (Fs ++ [F])[i]? = some G → Fs[i]? = some G ∨ (i = Fs.length ∧ G = F) := fun i G hG => by
    rcases Nat.lt_or_ge i Fs.length with c | c
    · rw [List.getElem?_append_left c] at hG
      exact .inl hG
    · rw [List.getElem?_append_right c] at hG
      have hi : i - Fs.length = 0 := by
        rcases Nat.eq_zero_or_pos (i - Fs.length) with d | d
        · exact d
        · rw [List.getElem?_eq_none (by simp; omega)] at hG
          cases hG
      rw [hi] at hG
      exact .inr ⟨by omega, (Option.some.inj hG).symm⟩
  have hmem : ∀ G ∈ Fs ++ [F], G ∈ Fs ∨ G = F := fun G hG => by
    rcases List.mem_append.1 hG with c | c
    · exact .inl c
    · exact .inr (List.mem_singleton.1 c)
  have hold : ∀ G ∈ Fs, ∀ k, G.all k → k < w.heap.size := fun G hG k c => h.is.lt (.inr (.inr ⟨G, hG, c⟩))
  have hsub : ∀ G ∈ Fs, ∀ k, G.own k → G.all k := fun G hG k c => by
    obtain ⟨i, q', l', _, hr'⟩ := h.is.of_foot hG
    exact TS.sub hr' k c
  have hRs : ∀ k, s.ownBlock = some k → v.ownBlock ≠ some k ∧ k ≠ p ∧ k < w.heap.size := fun k hk => ⟨fun c => (h.sv k c).1 hk, fun c => h.is.pp (c ▸ .inl hk), iown_lt h.is.hs hk⟩
  have hRf : ∀ k, f.ownBlock = some k → v.ownBlock ≠ some k ∧ k ≠ p ∧ k < w.heap.size := fun k hk => ⟨fun c => (h.sv k c).2 hk, fun c => h.is.pp (c ▸ .inr (.inl hk)), iown_lt h.is.hf hk⟩
  refine ⟨?_, ?_, fun k hk => ?_, fun G hG k hk c => ?_, fun k hk => ?_⟩
  · refine {
      cell := by
        rw [row_set (i := 4) hcell2 v']
        simp
      hs := iown_at h.is.hs (fun k hk => keep0 k (hRs k hk).2.2 (hRs k hk).1 (hRs k hk).2.1)
      hf := iown_at h.is.hf (fun k hk => keep0 k (hRf k hk).2.2 (hRf k hk).1 (hRf k hk).2.1)
      hv := by
        rw [List.length_append, List.map_append]
        refine iown_at o2 (fun k hk => g3.block k (iown_lt o2 hk) (fun c => ?_))
        have c := Option.some.inj c
        rcases hv' k hk with d | d
        · exact hvp k d c
        · omega
      ql := by rw [List.length_append, List.length_append, h.is.ql]; rfl
      fl := by rw [List.length_append, List.length_append, h.is.fl]; rfl
      rep := fun i q2 l2 G hq hl hG => ?_
      apart := fun i j k G G2 hG hG2 hne c d => ?_
      off := fun G hG k c d => ?_
      out := fun G hG c => ?_
      pp := fun c => by
        rcases c with c | c | c
        · exact h.is.pp (.inl c)
        · exact h.is.pp (.inr (.inl c))
        · rcases hv' p c with d | d
          · exact hvp p d rfl
          · omega
      fit := h.is.fit }
    · rcases hlast i G hG with e | ⟨e, rfl⟩
      · have hi := (List.getElem?_eq_some_iff.1 e).1
        rw [List.getElem?_append_left (by rw [h.is.ql, ← h.is.fl]; exact hi)] at hq
        rw [List.getElem?_append_left (by rw [← h.is.fl]; exact hi)] at hl
        have hr' := h.is.rep i q2 l2 G hq hl e
        refine TS.kept hr' (Nat.le_trans hs1 (Nat.le_trans g2.size g3.size)) (fun k hk => keep0 k (TS.lt hr' k hk) (fun c => h.va G (List.mem_of_getElem? e) k c hk) (fun c => h.is.out G (List.mem_of_getElem? e) (c ▸ hk)))
      · rw [e, List.getElem?_append_right (by rw [h.is.ql, h.is.fl]; exact Nat.le_refl _), h.is.ql, h.is.fl, Nat.sub_self] at hq
        rw [e, List.getElem?_append_right (by rw [h.is.fl]; exact Nat.le_refl _), h.is.fl, Nat.sub_self] at hl
        simp only [List.getElem?_cons_zero, Option.some.injEq] at hq hl
        subst hq hl
        rw [e, h.is.fl]
        refine TS.kept hr (Nat.le_trans g2.size g3.size) (fun k hk => keep k (TS.lt hr k hk) (fun c => ?_) (fun c => ?_))
        · have := hF k hk
          have := hvl k c
          omega
        · have := hF k hk
          omega
    · rcases hlast i G hG with e | ⟨e, e2⟩ <;> rcases hlast j G2 hG2 with e3 | ⟨e3, e4⟩
      · exact h.is.apart i j k G G2 e e3 hne c d
      · subst e4
        have := hF k (TS.sub hr k d)
        have := hold G (List.mem_of_getElem? e) k c
        omega
      · subst e2
        have := hF k c
        have := hold G2 (List.mem_of_getElem? e3) k (hsub G2 (List.mem_of_getElem? e3) k d)
        omega
      · exact hne (e.trans e3.symm)
    · have hcase : G ∈ Fs ∨ G = F := hmem G hG
      rcases hcase with e | rfl
      · rcases d with d | d | d
        · exact h.is.off G e k c (.inl d)
        · exact h.is.off G e k c (.inr (.inl d))
        · rcases hv' k d with x | x
          · exact h.is.off G e k c (.inr (.inr x))
          · have := hold G e k (hsub G e k c)
            omega
      · have h1 := hF k (TS.sub hr k c)
        have h2 := TS.lt hr k (TS.sub hr k c)
        rcases d with d | d | d
        · have := (hRs k d).2.2
          omega
        · have := (hRf k d).2.2
          omega
        · rcases hv' k d with x | x
          · have := hvl k x
            omega
          · omega
    · rcases hmem G hG with e | rfl
      · exact h.is.out G e c
      · have := hF p c
        omega
  · refine (h.fr.trans (b1.mono h.fr.size)).grown g2 (Nat.le_trans h.fr.size hs1) (fun k hk => h.ge k (.inr (.inl (.inr (.inr hk))))) |>.grown g3 ?_ (fun k hk => by cases hk; exact h.ge p (.inl rfl))
    exact Nat.le_trans h.fr.size (Nat.le_trans hs1 g2.size)
  · have h0 := h.fr.size
    rcases hk with c | (c | c | c) | ⟨G, hG, c⟩
    · exact h.ge k (.inl c)
    · exact h.ge k (.inr (.inl (.inl c)))
    · exact h.ge k (.inr (.inl (.inr (.inl c))))
    · rcases hv' k c with d | d
      · exact h.ge k (.inr (.inl (.inr (.inr d))))
      · omega
    · rcases hmem G hG with e | rfl
      · exact h.ge k (.inr (.inr ⟨G, e, c⟩))
      · have := hF k c
        omega
  · rcases hmem G hG with e | rfl
    · rcases hv' k hk with d | d
      · exact h.va G e k d c
      · have := hold G e k c
        omega
    · have h1 := hF k c
      have h2 := TS.lt hr k c
      rcases hv' k hk with d | d
      · have := hvl k d
        omega
      · omega
  · rcases hv' k hk with d | d
    · exact h.sv k d
    · refine ⟨fun c => ?_, fun c => ?_⟩
      · have := (hRs k c).2.2
        omega
      · have := (hRf k c).2.2
        omega

theorem IGrow.cs (h : IGrow TS w0 w p r T s f v qs Fs) : Cs w [(⟨p, 4, none⟩, v)] := .cons h.is.lt_p h.is.c.2.2.2.2 (.nil _)
end

end Go.Proofs.Ytnohmloilcpmiaa

namespace Go.Proofs.Ytnohmloilcpmiaa
open Go.RowKit Go.Lib

theorem OwnRch.mono {B B' : Nat} {w : World} {v : Value} {r : RchL} (h : OwnRch B w v r) (hb : B' ≤ B) : OwnRch B' w v r := by
  obtain ⟨s, f, hv, h1, h2, h3⟩ := h
  exact ⟨s, f, hv, own_mono h1 hb, own_mono h2 hb, h3⟩

set_option maxRecDepth 20000 in
set_option maxHeartbeats 6400000 in
theorem inew_any {TS : TableSpec} (v f : Value) (p : PolL) (now : Int) (fl : List Int) (w : World) (hv : PolRow w v p) (h60 : p.1.size ≤ 60) (h10 : p.2.length ≤ 10) (ht : ∀ x ∈ p.2, x.1.size ≤ 60 ∧ In64 x.2.1 ∧ In64 x.2.2.1 ∧ In64 x.2.2.2) (hn : In64 now) (hf : CellRow w f fl.length (fl.map (Value.int .i64))) (hfc : CapOk f) (hfl : fl.length ≤ 1000) (hx : ∀ x ∈ fl, In64 x) :
    Calls Try.prog 7 #[v, .int .i64 now, f] w fun x w' => (iNewE p now fl = 0 → ∃ q F, x = .returned (.tuple #[tptr q, .int .i64 0]) ∧ IRep TS w' q (now, p, fl) (List.replicate p.2.length []) F ∧ (∀ k, F.all k → w.heap.size ≤ k)) ∧ (iNewE p now fl ≠ 0 → x = .returned (.tuple #[.pointer none, .int .i64 (iNewE p now fl)])) ∧ Below w.heap.size w w' := by
  have PF : PFit p := ⟨by omega, by omega, fun x hx => ⟨by have := (ht x hx).1; omega, (ht x hx).2⟩⟩
  have RF : Hid (RFit (now, p, fl)) := Hid.of ⟨hn, PF, by show fl.length ≤ _; omega, hx⟩
  have HV := Hid.of hv
  have HF := Hid.of hf
  have HFC := Hid.of hfc
  have HFL := Hid.of hfl
  obtain ⟨s, rfl, hs, hsc⟩ := hv
  obtain ⟨pn, pt⟩ := p
  obtain ⟨w1, hw1⟩ : ∃ w1, w.alloc (.cells #[.string pn, s] 24) = w1 := ⟨_, rfl⟩
  obtain ⟨z, hz⟩ : ∃ z, w.heap.size = z := ⟨_, rfl⟩
  have b1 : Below w.heap.size w w1 := by rw [← hw1]; exact (Below.refl _ _).alloc (Nat.le_refl _) _
  have k1 : PBlk w1 z pn s := by rw [← hw1, ← hz]; exact PBlk.made w pn s
  have HS := Hid.of hs
  obtain ⟨sa, sc, rfl, -⟩ := hs
  obtain ⟨fa, fc, rfl, -⟩ := hf
  simp only at HS hw1 k1 h10 ht h60
  obtain ⟨N, hN⟩ : ∃ N, pt.length = N := ⟨_, rfl⟩
  have HN := Hid.of hN
  rw [hN] at HS hw1 k1 h10
  have hpr : PolRow w1 (.agg #[.string pn, .slice sa N sc]) (pn, pt) := by
    have := HV.out.kept b1
    unfold polVal at this
    rw [hN] at this
    exact this
  have hck := check_any _ (pn, pt) w1 PF hpr
  have HPR := Hid.of hpr
  have B1 := Hid.of b1
  have K1 := Hid.of k1
  have HPT := Hid.of PF
  have H10 := Hid.of h10
  obtain ⟨ce, hce⟩ : ∃ ce, (pCheck (pn, pt)).1 = ce := ⟨_, rfl⟩
  obtain ⟨cl, hcl⟩ : ∃ cl, (pCheck (pn, pt)).2 = cl := ⟨_, rfl⟩
  rw [hce, hcl] at hck
  obtain ⟨er, her⟩ : ∃ er, iNewE (pn, pt) now fl = er := ⟨_, rfl⟩
  have HER := Hid.of her
  rw [her]
  have HCE := Hid.of hce
  have HW := Hid.of hw1
  have HZ : Hid (w.heap.size = z) := Hid.of hz
  obtain ⟨c0, c1⟩ := k1.at
  unfold polVal
  show Calls _ _ #[.agg #[.string pn, .slice sa pt.length sc], _, _] _ _
  rw [hN]
  clear hpr b1 k1 PF hx hn hfl hfc hce hcl her hw1 hz hsc hN h10 ht h60 HV
  by_cases h0 : ce = 0
  case neg =>
    have HE : Hid (er = ce) := Hid.of (by rw [← HER.out]; unfold iNewE; rw [HCE.out, if_pos h0])
    have k0 : (ce != 0) = true := by simp [h0]
    go_enter Try.func7, Try.ntmps7
    go_upto_region 1 with fail
    rw [HW.out, HZ.out]
    clear HW
    go_wp2_with fail
    refine hck.mono ?_
    rintro e w2 ⟨rfl, b2⟩
    have B2 := Hid.of (B1.out.trans (b2.mono B1.out.size))
    clear b2 hck c0 c1
    go_wp2
    go_ret2
    rw [HE.out]
    exact ⟨fun c => absurd c h0, fun _ => rfl, B2.out⟩
  subst h0
  have HE : Hid (er = if now < 0 ∨ maxT < now ∨ pt.length < fl.length ∨ flBad fl pt = true then 1 else 0) := Hid.of (by rw [← HER.out]; unfold iNewE; rw [HCE.out]; rfl)
  by_cases hn0 : now < 0
  · have HE1 : Hid (er = 1) := Hid.of (by rw [HE.out, if_pos (.inl hn0)])
    go_enter Try.func7, Try.ntmps7
    go_upto_region 1 with fail
    rw [HW.out, HZ.out]
    clear HW
    go_wp2_with fail
    refine hck.mono ?_
    rintro e w2 ⟨rfl, b2⟩
    have B2 := Hid.of (B1.out.trans (b2.mono B1.out.size))
    clear b2 hck c0 c1
    go_wp2
    go_ret2
    rw [HE1.out]
    exact ⟨fun c => absurd c (by decide), fun _ => rfl, B2.out⟩
  by_cases hn1 : now > 1099511627776
  · have HE1 : Hid (er = 1) := Hid.of (by rw [HE.out, if_pos (.inr (.inl (by unfold maxT; omega)))])
    go_enter Try.func7, Try.ntmps7
    go_upto_region 1 with fail
    rw [HW.out, HZ.out]
    clear HW
    go_wp2_with fail
    refine hck.mono ?_
    rintro e w2 ⟨rfl, b2⟩
    have B2 := Hid.of (B1.out.trans (b2.mono B1.out.size))
    clear b2 hck c0 c1
    go_wp2
    go_ret2
    rw [HE1.out]
    exact ⟨fun c => absurd c (by decide), fun _ => rfl, B2.out⟩
  obtain ⟨ff, hff⟩ : ∃ ff, flFit fl pt = ff := ⟨_, rfl⟩
  have HFF := Hid.of hff
  have hN0 := Hid.of hn0
  have hN1 := Hid.of hn1
  clear hff
  go_enter Try.func7, Try.ntmps7
  go_upto_region 1 with fail
  rw [HW.out, HZ.out]
  clear HW
  go_wp2_with fail
  refine hck.mono ?_
  rintro e w2 ⟨rfl, b2⟩
  have B2 := Hid.of (B1.out.trans (b2.mono B1.out.size))
  have K2 := Hid.of (K1.out.kept b2)
  have B12 := Hid.of b2
  have HS2 := Hid.of (HS.out.kept B2.out)
  have hfit := iFit_any (.slice sa N sc) (.slice fa fl.length fc) pt fl w2 (by rw [HN.out]; exact HS2.out) (HF.out.kept B2.out) (by have := H10.out; have := HN.out; omega) (by have := HFL.out; omega)
  rw [HFF.out] at hfit
  clear b2 hck c0 c1
  obtain ⟨c0, c1⟩ := K2.out.at
  go_wp2_with fail
  refine hfit.mono ?_
  rintro e w3 ⟨rfl, kd, hw3⟩
  have b3 : Below w2.heap.size w2 w3 := by rw [hw3]; exact below_drewN (Below.refl _ _) kd
  have B3 := Hid.of (B2.out.trans (b3.mono B2.out.size))
  have K3 := Hid.of (K2.out.kept b3)
  have B13 := Hid.of (B12.out.trans (b3.mono B12.out.size))
  clear hw3 b3 hfit c0 c1
  cases ff
  · have HE1 : Hid (er = 1) := Hid.of (by
      rw [HE.out, if_pos]
      have h := HFF.out
      unfold flFit at h
      simp only [Bool.and_eq_false_imp, decide_eq_true_eq, Bool.not_eq_false'] at h
      by_cases c : fl.length ≤ pt.length
      · exact .inr (.inr (.inr (h c)))
      · exact .inr (.inr (.inl (by omega))))
    go_wp2
    go_ret2
    rw [HE1.out]
    exact ⟨fun c => absurd c (by decide), fun _ => rfl, B3.out⟩
  · have HE0 : Hid (er = 0) := Hid.of (by
      rw [HE.out, if_neg]
      have h := HFF.out
      unfold flFit at h
      simp only [Bool.and_eq_true, decide_eq_true_eq, Bool.not_eq_true'] at h
      rintro (c | c | c | c)
      · have := hN0.out
        omega
      · unfold maxT at c
        have := hN1.out
        omega
      · omega
      · rw [h.2] at c
        cases c)
    have GD : Hid (IGood (now, (pn, pt), fl) (List.replicate pt.length [])) := Hid.of (IGood.new (HER.out.trans HE0.out))
    obtain ⟨i0, hi0, hz0, hz1, hz2⟩ := info_parts ptab_info
    have HI := Hid.of hi0
    have HZ0 := Hid.of hz0
    have HZ1 := Hid.of hz1
    have HZ2 := Hid.of hz2
    have hof := reaches.of _ (.slice fa fl.length fc) (pn, pt) now fl w3 trivial RF.out (HPR.out.kept B13.out) (HF.out.kept B3.out) HFC.out
    clear hi0 hz0 hz1 hz2 HE HS2 B1 B2 K1 K2 B12 B13
    obtain ⟨c0, c1⟩ := K3.out.at
    go_wp2_with fail
    refine hof.mono ?_
    rintro e w4 ⟨u, rfl, ou, b4⟩
    have B4 := Hid.of (B3.out.trans (b4.mono B3.out.size))
    obtain ⟨s2, f2, hu, G5⟩ := IGrow.new (TS := TS) (w0 := w) RF.out (ou.mono B3.out.size) B4.out
    subst hu
    obtain ⟨q, hq⟩ : ∃ q, w4.heap.size = q := ⟨_, rfl⟩
    obtain ⟨w5, hw5⟩ : ∃ w5, w4.alloc (.cells #[.int .i64 now, .string pn, s2, f2, .slice none 0 0] 56) = w5 := ⟨_, rfl⟩
    have b5 : Below w4.heap.size w4 w5 := by rw [← hw5]; exact (Below.refl _ _).alloc (Nat.le_refl _) _
    have GR5 : Hid (IGrow TS w w5 q (now, (pn, pt), fl) [] s2 f2 (.slice none 0 0) [] []) := Hid.of (by rw [← hw5, ← hq]; exact G5)
    have K5 := Hid.of ((K3.out.kept b4).kept b5)
    have HQ : Hid (w4.heap.size = q) := Hid.of hq
    have HW5 := Hid.of hw5
    clear b4 b5 ou hof c0 c1 K3 B3 B4 hq hw5 G5
    unfold rVal
    obtain ⟨c0, c1⟩ := K5.out.at
    go_upto_region 7 with fail
    rw [HW5.out, HQ.out]
    clear HW5 HQ
    go_wp2
    clear c0 c1
    go_loopg [12, 43] N (fun kx _ iv wr => ∃ (j : Nat) (v : Value) (qs : List Nat) (Fs : List TFoot), iv = .int .i64 j ∧ j ≤ N ∧ N - j ≤ kx ∧ Hid (IGrow TS w wr q (now, (pn, pt), fl) (List.replicate j []) s2 f2 v qs Fs))
    case atStart => exact ⟨0, _, [], [], rfl, Nat.zero_le _, Nat.le_refl _, GR5⟩
    case round =>
      clear GR5 K5
      obtain ⟨j, v, qs, Fs, rfl, hj, hk, GR⟩ := hrel
      have j0 : (0 : Int) ≤ (j : Int) := Int.natCast_nonneg _
      by_cases hlt : (j : Int) < (N : Int)
      · obtain ⟨t, ht⟩ : ∃ t, pt[j]? = some t := ⟨_, List.getElem?_eq_getElem (by have := HN.out; omega)⟩
        obtain ⟨b1, o1, rfl, g1, d0, d1, d2, d3⟩ := p_at (HS.out.kept GR.out.fr) j t ht
        have htk := tier_known GD.out.chk ht
        obtain ⟨t0, ev, t2, t3⟩ := t
        simp only at d0 d1 d2 d3 htk
        have HEV : Hid (tEv (now, (pn, pt), fl) (List.replicate j ([] : List TRec)).length = max ev 1) := Hid.of (by
          rw [List.length_replicate]
          unfold tEv
          show (match pt[j]? with | some t => t.2.1 | none => 1) = _
          rw [ht]
          show ev = _
          omega)
        have HE64 : Hid (TIn64 ev) := Hid.of ⟨by omega, by omega⟩
        have HJ : Hid (j < N) := Hid.of (by omega)
        have hj10 : j ≤ 10 := by have := H10.out; omega
        obtain ⟨va, vc, rfl, -⟩ := GR.out.is.tabs
        rw [List.length_replicate] at GR
        obtain ⟨y, hy⟩ : ∃ y, wr.heap.size = y := ⟨_, rfl⟩
        obtain ⟨w6, hw6⟩ : ∃ w6, wr.alloc (.cells #[.string t0, .int .i64 ev, .int .i64 t2, .int .i64 t3] 49) = w6 := ⟨_, rfl⟩
        have z6 : w6.heap[y]? = some (.cells #[.string t0, .int .i64 ev, .int .i64 t2, .int .i64 t3] 49 (0, 0)) := by rw [← hw6, ← hy]; exact (MapKept.heap_alloc wr _).1
        have b6 : Below wr.heap.size wr w6 := by rw [← hw6]; exact (Below.refl _ _).alloc (Nat.le_refl _) _
        have GR6 := Hid.of (GR.out.next b6)
        have HVY : Hid (∀ g, (Value.slice va j vc).ownBlock = some g → g < y) := Hid.of (fun g hg => by rw [← hy]; exact iown_lt GR.out.is.hv hg)
        have HQY : Hid (q < y) := Hid.of (by rw [← hy]; exact GR.out.is.lt_p)
        have CS6 : Hid (Cs w6 [(⟨y, 1, none⟩, .int .i64 ev)]) := Hid.of (.cons (Array.getElem?_eq_some_iff.1 z6).1 (by rw [cell_of_row _ _ _ _ _ _ z6]; rfl) (.nil _))
        clear ht g1 htk z6 b6 GR
        go_upto_region 10 with fail
        clear d0 d1 d2 d3 hy hw6
        obtain ⟨WD, hWD⟩ : ∃ WD, w6.drew = WD := ⟨_, rfl⟩
        have b6d : Below w6.heap.size w6 WD := by rw [← hWD]; exact (Below.refl _ _).drew
        have GR6d := Hid.of (GR6.out.next b6d)
        have B6d := Hid.of b6d
        have CSD := Hid.of (CS6.out.next b6d)
        clear b6d
        have d0 := (CS6.out).head
        refine wp_region_noPanic ?_
        refine wp_region_held_drew (S := fun w' => w'.cell? ⟨y, 1, none⟩ = some (.int .i64 ev)) (by kernel_rfl) ?_ (fun hHeld => ?_)
        · exact d0
        refine wpAnyH_take (i := 0) (oi := ⟨_, _, _, _, _, _⟩) (v := ?_) rfl (by kernel_rfl) (by kernel_rfl) (by kernel_rfl) (fun _ _ _ h => h) (Or.inl ⟨by rfl, ?_⟩) hHeld ?_
        rotate_left
        · intro w' hSw
          try dsimp only at hSw
          go_simp
          all_goals with_reducible rfl
        simp only [Act.put, List.setIfInBounds_toArray, List.set_cons_zero, List.set_cons_succ]
        refine wpAnyH_take (i := 1) (oi := ⟨_, _, _, _, _, _⟩) (v := ?_) rfl (by kernel_rfl) (by kernel_rfl) (by kernel_rfl) (fun _ _ _ h => h) (Or.inl ⟨by rfl, ?_⟩) hHeld ?_
        rotate_left
        · intro w' hSw
          try dsimp only at hSw
          go_simp
          all_goals with_reducible rfl
        simp only [Act.put, List.setIfInBounds_toArray, List.set_cons_zero, List.set_cons_succ]
        refine wpAnyH_take (i := 2) (oi := ⟨_, _, _, _, _, _⟩) (v := ?_) rfl (by kernel_rfl) (by kernel_rfl) (by kernel_rfl) (fun _ _ _ h => h) (Or.inl ⟨by rfl, ?_⟩) hHeld ?_
        rotate_left
        · intro w' hSw
          try dsimp only at hSw
          go_simp
          all_goals with_reducible rfl
        simp only [Act.put, List.setIfInBounds_toArray, List.set_cons_zero, List.set_cons_succ]
        refine wpAnyH_take (i := 3) (oi := ⟨_, _, _, _, _, _⟩) (v := ?_) rfl (by kernel_rfl) (by kernel_rfl) (by kernel_rfl) (fun _ _ _ h => h) (Or.inl ⟨by rfl, ?_⟩) hHeld ?_
        rotate_left
        · intro w' hSw
          try dsimp only at hSw
          go_simp
          all_goals with_reducible rfl
        simp only [Act.put, List.setIfInBounds_toArray, List.set_cons_zero, List.set_cons_succ]
        refine wpAnyH_take (i := 5) (oi := ⟨_, _, _, _, _, _⟩) (v := ?_) rfl (by kernel_rfl) (by kernel_rfl) (by kernel_rfl) (fun _ _ _ h => h) (Or.inl ⟨by rfl, ?_⟩) hHeld ?_
        rotate_left
        · intro w' hSw
          try dsimp only at hSw
          go_simp
          all_goals with_reducible rfl
        simp only [Act.put, List.setIfInBounds_toArray, List.set_cons_zero, List.set_cons_succ]
        refine wpAnyH_take (i := 6) (oi := ⟨_, _, _, _, _, _⟩) (v := ?_) rfl (by kernel_rfl) (by kernel_rfl) (by kernel_rfl) (fun _ _ _ h => h) (Or.inl ⟨by rfl, ?_⟩) hHeld ?_
        rotate_left
        · intro w' hSw
          try dsimp only at hSw
          go_simp
          all_goals with_reducible rfl
        simp only [Act.put, List.setIfInBounds_toArray, List.set_cons_zero, List.set_cons_succ]
        refine wpAnyH_ready (rs := [4, 7]) (by kernel_rfl) (by simp) ?_
        refine AllReadyH.cons (o := ⟨_, _, _, _, _, _⟩) rfl (fun K hK => ?_) (AllReadyH.cons (o := ⟨_, _, _, _, _, _⟩) rfl (fun K hK => ?_) AllReadyH.nil)
        · have e4 : WD.cell? ⟨q, 4, none⟩ = some (.slice va j vc) := GR6d.out.is.c.2.2.2.2
          go_simp
          clear e4
          clear hHeld d0
          have d0 := (CSD.out).head
          refine hK.out _ _ d0 (fun hHeld => ?_)
          clear hK K
          try simp only [Act.put, List.setIfInBounds_toArray, List.set_cons_zero, List.set_cons_succ]
          refine wpAnyH_ready (rs := [7]) (by kernel_rfl) (by simp) ?_
          refine AllReadyH.cons (o := ⟨_, _, _, _, _, _⟩) rfl (fun K hK => ?_) AllReadyH.nil
          go_simp
          refine (TS.new ev _ HE64.out).mono ?_
          rintro e w7 ⟨q7, G7, rfl, r7, rf7, b7⟩
          have R7 : Hid (TS.Rep w7 q7 (tEv (now, (pn, pt), fl) (List.replicate j ([] : List TRec)).length) [] G7) := Hid.of (by rw [HEV.out]; exact r7)
          have R7F : Hid (∀ k, G7.all k → w6.heap.size ≤ k) := Hid.of (fun k hk => Nat.le_trans B6d.out.size (rf7 k hk))
          have B7 := Hid.of (B6d.out.trans (b7.mono B6d.out.size))
          have GR7 := Hid.of (GR6d.out.next b7)
          have CS7 := Hid.of (CSD.out.next b7)
          clear b7 r7 rf7
          clear hHeld d0
          have d0 := (CS7.out).head
          refine hK.out _ _ d0 (fun hHeld => ?_)
          clear hK K
          try simp only [Act.put, List.setIfInBounds_toArray, List.set_cons_zero, List.set_cons_succ]
          refine wpAnyH_ready (rs := [8]) (by kernel_rfl) (by simp) ?_
          refine AllReadyH.cons (o := ⟨_, _, _, _, _, _⟩) rfl (fun K hK => ?_) AllReadyH.nil
          go_simp
          obtain ⟨w8, hw8⟩ : ∃ w8, w7.alloc (.cells #[tptr q7] 70) = w8 := ⟨_, rfl⟩
          have b8 : Below w7.heap.size w7 w8 := by rw [← hw8]; exact (Below.refl _ _).alloc (Nat.le_refl _) _
          have K8 : Hid (Cells w8 w7.heap.size 0 [tptr q7]) := Hid.of (by rw [← hw8]; exact one_cell w7 _ _)
          have B8 := Hid.of (B7.out.trans (b8.mono B7.out.size))
          have R8 := Hid.of (TS.kept R7.out b8.size (fun k hk => b8.block k (TS.lt R7.out k hk)))
          have GR8 := Hid.of (GR7.out.next b8)
          have CS8 := Hid.of (CS7.out.next b8)
          rw [hw8]
          clear hw8 b8 R7 B7 GR7 CS7
          clear hHeld d0
          have d0 := (CS8.out).head
          refine hK.out _ _ d0 (fun hHeld => ?_)
          clear hK K
          try simp only [Act.put, List.setIfInBounds_toArray, List.set_cons_zero, List.set_cons_succ]
          refine wpAnyH_ready (rs := [9]) (by kernel_rfl) (by simp) ?_
          refine AllReadyH.cons (o := ⟨_, _, _, _, _, _⟩) rfl (fun K hK => ?_) AllReadyH.nil
          refine step_append_keep rfl (.tmp 51) (.tmp 55) 54 rfl 0 70 i0 _ 1 8 Try.underlying54 HI.out HZ0.out HZ1.out HZ2.out rfl (by decide) (.slice va j vc) j (qs.map tptr) (by simp [Act.eval]) (by have := GR8.out.is.hv; rwa [GR8.out.is.ql, List.length_replicate] at this) w7.heap.size 0 1 1 [tptr q7] (by simp [Act.eval]) K8.out rfl (by simp [Value.oneCell']) (by unfold maxLen; omega) (by omega) (Nat.zero_le _) ?_
          intro v9 w9 o9 g9 _ m9
          obtain ⟨a9, c9, hv9, _⟩ := own_one o9
          subst hv9
          have O9 := Hid.of o9
          have G9 := Hid.of g9
          have M9 := Hid.of m9
          have z9 : w9.heap[q]? = some (.cells #[.int .i64 now, .string pn, s2, f2, .slice va j vc] 56 (0, 0)) := (g9.block q GR8.out.is.lt_p (fun c => GR8.out.is.pp (.inr (.inr c.symm)))).trans GR8.out.is.cell
          have f9 : w9.frozen? ⟨q, 4, none⟩ = false := row_frozen z9
          have e9 : w9.cell? ⟨q, 4, none⟩ = some (.slice va j vc) := by rw [cell_of_row _ _ _ _ _ _ z9]; rfl
          have CS9 := Hid.of (CS8.out.grown g9 (fun x hx c => by simp only [List.mem_cons, List.not_mem_nil, or_false] at hx; subst hx; have h : y < y := HVY.out _ c.symm; omega))
          clear o9 g9 m9 z9
          clear hHeld d0
          have d0 := (CS9.out).head
          refine hK.out _ _ d0 (fun hHeld => ?_)
          clear hK K
          try simp only [Act.put, List.setIfInBounds_toArray, List.set_cons_zero, List.set_cons_succ]
          refine wpAnyH_take (i := 10) (oi := ⟨_, _, _, _, _, _⟩) (v := ?_) rfl (by kernel_rfl) (by kernel_rfl) (by kernel_rfl) (fun _ _ _ h => h) (Or.inl ⟨by rfl, ?_⟩) hHeld ?_
          rotate_left
          · intro w' hSw
            try dsimp only at hSw
            go_simp
            all_goals with_reducible rfl
          simp only [Act.put, List.setIfInBounds_toArray, List.set_cons_zero, List.set_cons_succ]
          refine wpAnyH_take (i := 11) (oi := ⟨_, _, _, _, _, _⟩) (v := ?_) rfl (by kernel_rfl) (by kernel_rfl) (by kernel_rfl) (fun _ _ _ h => h) (Or.inl ⟨by rfl, ?_⟩) hHeld ?_
          rotate_left
          · intro w' hSw
            try dsimp only at hSw
            go_simp
            all_goals with_reducible rfl
          simp only [Act.put, List.setIfInBounds_toArray, List.set_cons_zero, List.set_cons_succ]
          refine wpAnyH_ready (rs := [12]) (by kernel_rfl) (by simp) ?_
          refine AllReadyH.cons (o := ⟨_, _, _, _, _, _⟩) rfl (fun K hK => ?_) AllReadyH.nil
          go_simp
          clear f9 e9
          have GRZ := Hid.of (GR6.out.more B8.out R8.out R7F.out (v' := .slice a9 (j + 1) c9) (w2 := w9) (by rw [GR6.out.is.ql, List.length_replicate]; exact O9.out) G9.out M9.out)
          obtain ⟨wz, hwz⟩ : ∃ wz, w9.setCell ⟨q, 4, none⟩ (.slice a9 (j + 1) c9) = wz := ⟨_, rfl⟩
          rw [hwz] at GRZ ⊢
          have gz : w9.grownBy wz (some q) := by rw [← hwz]; exact grownBy_setCell w9 q 4 (.slice a9 (j + 1) c9)
          have CSZ := Hid.of (CS9.out.grown gz (fun x hx c => by simp only [List.mem_cons, List.not_mem_nil, or_false] at hx; subst hx; have h : y = q := Option.some.inj c; have := HQY.out; omega))
          clear hwz gz
          clear hHeld d0
          have d0 := (CSZ.out).head
          refine hK.out _ _ d0 (fun hHeld => ?_)
          clear hK K
          refine wpAnyH_done (by kernel_rfl) ?_ _
          refine NoPanic.normal ?_
          clear hHeld
          clear d0
          go_wp2
          go_roundg (N - (j + 1))
          case measure => have := HJ.out; omega
          case rel => exact ⟨j + 1, _, _, _, by go_num, HJ.out, Nat.le_refl _, Hid.of (by have := GRZ.out; rwa [← List.replicate_succ'] at this)⟩
        · go_simp
          refine (TS.new ev _ HE64.out).mono ?_
          rintro e w7 ⟨q7, G7, rfl, r7, rf7, b7⟩
          have R7 : Hid (TS.Rep w7 q7 (tEv (now, (pn, pt), fl) (List.replicate j ([] : List TRec)).length) [] G7) := Hid.of (by rw [HEV.out]; exact r7)
          have R7F : Hid (∀ k, G7.all k → w6.heap.size ≤ k) := Hid.of (fun k hk => Nat.le_trans B6d.out.size (rf7 k hk))
          have B7 := Hid.of (B6d.out.trans (b7.mono B6d.out.size))
          have GR7 := Hid.of (GR6d.out.next b7)
          have CS7 := Hid.of (CSD.out.next b7)
          clear b7 r7 rf7
          clear hHeld d0
          have d0 := (CS7.out).head
          refine hK.out _ _ d0 (fun hHeld => ?_)
          clear hK K
          try simp only [Act.put, List.setIfInBounds_toArray, List.set_cons_zero, List.set_cons_succ]
          refine wpAnyH_ready (rs := [4, 8]) (by kernel_rfl) (by simp) ?_
          refine AllReadyH.cons (o := ⟨_, _, _, _, _, _⟩) rfl (fun K hK => ?_) (AllReadyH.cons (o := ⟨_, _, _, _, _, _⟩) rfl (fun K hK => ?_) AllReadyH.nil)
          · have e4 : w7.cell? ⟨q, 4, none⟩ = some (.slice va j vc) := GR7.out.is.c.2.2.2.2
            go_simp
            clear e4
            clear hHeld d0
            have d0 := (CS7.out).head
            refine hK.out _ _ d0 (fun hHeld => ?_)
            clear hK K
            try simp only [Act.put, List.setIfInBounds_toArray, List.set_cons_zero, List.set_cons_succ]
            refine wpAnyH_ready (rs := [8]) (by kernel_rfl) (by simp) ?_
            refine AllReadyH.cons (o := ⟨_, _, _, _, _, _⟩) rfl (fun K hK => ?_) AllReadyH.nil
            go_simp
            obtain ⟨w8, hw8⟩ : ∃ w8, w7.alloc (.cells #[tptr q7] 70) = w8 := ⟨_, rfl⟩
            have b8 : Below w7.heap.size w7 w8 := by rw [← hw8]; exact (Below.refl _ _).alloc (Nat.le_refl _) _
            have K8 : Hid (Cells w8 w7.heap.size 0 [tptr q7]) := Hid.of (by rw [← hw8]; exact one_cell w7 _ _)
            have B8 := Hid.of (B7.out.trans (b8.mono B7.out.size))
            have R8 := Hid.of (TS.kept R7.out b8.size (fun k hk => b8.block k (TS.lt R7.out k hk)))
            have GR8 := Hid.of (GR7.out.next b8)
            have CS8 := Hid.of (CS7.out.next b8)
            rw [hw8]
            clear hw8 b8 R7 B7 GR7 CS7
            clear hHeld d0
            have d0 := (CS8.out).head
            refine hK.out _ _ d0 (fun hHeld => ?_)
            clear hK K
            try simp only [Act.put, List.setIfInBounds_toArray, List.set_cons_zero, List.set_cons_succ]
            refine wpAnyH_ready (rs := [9]) (by kernel_rfl) (by simp) ?_
            refine AllReadyH.cons (o := ⟨_, _, _, _, _, _⟩) rfl (fun K hK => ?_) AllReadyH.nil
            refine step_append_keep rfl (.tmp 51) (.tmp 55) 54 rfl 0 70 i0 _ 1 8 Try.underlying54 HI.out HZ0.out HZ1.out HZ2.out rfl (by decide) (.slice va j vc) j (qs.map tptr) (by simp [Act.eval]) (by have := GR8.out.is.hv; rwa [GR8.out.is.ql, List.length_replicate] at this) w7.heap.size 0 1 1 [tptr q7] (by simp [Act.eval]) K8.out rfl (by simp [Value.oneCell']) (by unfold maxLen; omega) (by omega) (Nat.zero_le _) ?_
            intro v9 w9 o9 g9 _ m9
            obtain ⟨a9, c9, hv9, _⟩ := own_one o9
            subst hv9
            have O9 := Hid.of o9
            have G9 := Hid.of g9
            have M9 := Hid.of m9
            have z9 : w9.heap[q]? = some (.cells #[.int .i64 now, .string pn, s2, f2, .slice va j vc] 56 (0, 0)) := (g9.block q GR8.out.is.lt_p (fun c => GR8.out.is.pp (.inr (.inr c.symm)))).trans GR8.out.is.cell
            have f9 : w9.frozen? ⟨q, 4, none⟩ = false := row_frozen z9
            have e9 : w9.cell? ⟨q, 4, none⟩ = some (.slice va j vc) := by rw [cell_of_row _ _ _ _ _ _ z9]; rfl
            have CS9 := Hid.of (CS8.out.grown g9 (fun x hx c => by simp only [List.mem_cons, List.not_mem_nil, or_false] at hx; subst hx; have h : y < y := HVY.out _ c.symm; omega))
            clear o9 g9 m9 z9
            clear hHeld d0
            have d0 := (CS9.out).head
            refine hK.out _ _ d0 (fun hHeld => ?_)
            clear hK K
            try simp only [Act.put, List.setIfInBounds_toArray, List.set_cons_zero, List.set_cons_succ]
            refine wpAnyH_take (i := 10) (oi := ⟨_, _, _, _, _, _⟩) (v := ?_) rfl (by kernel_rfl) (by kernel_rfl) (by kernel_rfl) (fun _ _ _ h => h) (Or.inl ⟨by rfl, ?_⟩) hHeld ?_
            rotate_left
            · intro w' hSw
              try dsimp only at hSw
              go_simp
              all_goals with_reducible rfl
            simp only [Act.put, List.setIfInBounds_toArray, List.set_cons_zero, List.set_cons_succ]
            refine wpAnyH_take (i := 11) (oi := ⟨_, _, _, _, _, _⟩) (v := ?_) rfl (by kernel_rfl) (by kernel_rfl) (by kernel_rfl) (fun _ _ _ h => h) (Or.inl ⟨by rfl, ?_⟩) hHeld ?_
            rotate_left
            · intro w' hSw
              try dsimp only at hSw
              go_simp
              all_goals with_reducible rfl
            simp only [Act.put, List.setIfInBounds_toArray, List.set_cons_zero, List.set_cons_succ]
            refine wpAnyH_ready (rs := [12]) (by kernel_rfl) (by simp) ?_
            refine AllReadyH.cons (o := ⟨_, _, _, _, _, _⟩) rfl (fun K hK => ?_) AllReadyH.nil
            go_simp
            clear f9 e9
            have GRZ := Hid.of (GR6.out.more B8.out R8.out R7F.out (v' := .slice a9 (j + 1) c9) (w2 := w9) (by rw [GR6.out.is.ql, List.length_replicate]; exact O9.out) G9.out M9.out)
            obtain ⟨wz, hwz⟩ : ∃ wz, w9.setCell ⟨q, 4, none⟩ (.slice a9 (j + 1) c9) = wz := ⟨_, rfl⟩
            rw [hwz] at GRZ ⊢
            have gz : w9.grownBy wz (some q) := by rw [← hwz]; exact grownBy_setCell w9 q 4 (.slice a9 (j + 1) c9)
            have CSZ := Hid.of (CS9.out.grown gz (fun x hx c => by simp only [List.mem_cons, List.not_mem_nil, or_false] at hx; subst hx; have h : y = q := Option.some.inj c; have := HQY.out; omega))
            clear hwz gz
            clear hHeld d0
            have d0 := (CSZ.out).head
            refine hK.out _ _ d0 (fun hHeld => ?_)
            clear hK K
            refine wpAnyH_done (by kernel_rfl) ?_ _
            refine NoPanic.normal ?_
            clear hHeld
            clear d0
            go_wp2
            go_roundg (N - (j + 1))
            case measure => have := HJ.out; omega
            case rel => exact ⟨j + 1, _, _, _, by go_num, HJ.out, Nat.le_refl _, Hid.of (by have := GRZ.out; rwa [← List.replicate_succ'] at this)⟩
          · go_simp
            obtain ⟨w8, hw8⟩ : ∃ w8, w7.alloc (.cells #[tptr q7] 70) = w8 := ⟨_, rfl⟩
            have b8 : Below w7.heap.size w7 w8 := by rw [← hw8]; exact (Below.refl _ _).alloc (Nat.le_refl _) _
            have K8 : Hid (Cells w8 w7.heap.size 0 [tptr q7]) := Hid.of (by rw [← hw8]; exact one_cell w7 _ _)
            have B8 := Hid.of (B7.out.trans (b8.mono B7.out.size))
            have R8 := Hid.of (TS.kept R7.out b8.size (fun k hk => b8.block k (TS.lt R7.out k hk)))
            have GR8 := Hid.of (GR7.out.next b8)
            have CS8 := Hid.of (CS7.out.next b8)
            rw [hw8]
            clear hw8 b8 R7 B7 GR7 CS7
            clear hHeld d0
            have d0 := (CS8.out).head
            refine hK.out _ _ d0 (fun hHeld => ?_)
            clear hK K
            try simp only [Act.put, List.setIfInBounds_toArray, List.set_cons_zero, List.set_cons_succ]
            refine wpAnyH_ready (rs := [4]) (by kernel_rfl) (by simp) ?_
            refine AllReadyH.cons (o := ⟨_, _, _, _, _, _⟩) rfl (fun K hK => ?_) AllReadyH.nil
            have e4 : w8.cell? ⟨q, 4, none⟩ = some (.slice va j vc) := GR8.out.is.c.2.2.2.2
            go_simp
            clear e4
            clear hHeld d0
            have d0 := (CS8.out).head
            refine hK.out _ _ d0 (fun hHeld => ?_)
            clear hK K
            try simp only [Act.put, List.setIfInBounds_toArray, List.set_cons_zero, List.set_cons_succ]
            refine wpAnyH_ready (rs := [9]) (by kernel_rfl) (by simp) ?_
            refine AllReadyH.cons (o := ⟨_, _, _, _, _, _⟩) rfl (fun K hK => ?_) AllReadyH.nil
            refine step_append_keep rfl (.tmp 51) (.tmp 55) 54 rfl 0 70 i0 _ 1 8 Try.underlying54 HI.out HZ0.out HZ1.out HZ2.out rfl (by decide) (.slice va j vc) j (qs.map tptr) (by simp [Act.eval]) (by have := GR8.out.is.hv; rwa [GR8.out.is.ql, List.length_replicate] at this) w7.heap.size 0 1 1 [tptr q7] (by simp [Act.eval]) K8.out rfl (by simp [Value.oneCell']) (by unfold maxLen; omega) (by omega) (Nat.zero_le _) ?_
            intro v9 w9 o9 g9 _ m9
            obtain ⟨a9, c9, hv9, _⟩ := own_one o9
            subst hv9
            have O9 := Hid.of o9
            have G9 := Hid.of g9
            have M9 := Hid.of m9
            have z9 : w9.heap[q]? = some (.cells #[.int .i64 now, .string pn, s2, f2, .slice va j vc] 56 (0, 0)) := (g9.block q GR8.out.is.lt_p (fun c => GR8.out.is.pp (.inr (.inr c.symm)))).trans GR8.out.is.cell
            have f9 : w9.frozen? ⟨q, 4, none⟩ = false := row_frozen z9
            have e9 : w9.cell? ⟨q, 4, none⟩ = some (.slice va j vc) := by rw [cell_of_row _ _ _ _ _ _ z9]; rfl
            have CS9 := Hid.of (CS8.out.grown g9 (fun x hx c => by simp only [List.mem_cons, List.not_mem_nil, or_false] at hx; subst hx; have h : y < y := HVY.out _ c.symm; omega))
            clear o9 g9 m9 z9
            clear hHeld d0
            have d0 := (CS9.out).head
            refine hK.out _ _ d0 (fun hHeld => ?_)
            clear hK K
            try simp only [Act.put, List.setIfInBounds_toArray, List.set_cons_zero, List.set_cons_succ]
            refine wpAnyH_take (i := 10) (oi := ⟨_, _, _, _, _, _⟩) (v := ?_) rfl (by kernel_rfl) (by kernel_rfl) (by kernel_rfl) (fun _ _ _ h => h) (Or.inl ⟨by rfl, ?_⟩) hHeld ?_
            rotate_left
            · intro w' hSw
              try dsimp only at hSw
              go_simp
              all_goals with_reducible rfl
            simp only [Act.put, List.setIfInBounds_toArray, List.set_cons_zero, List.set_cons_succ]
            refine wpAnyH_take (i := 11) (oi := ⟨_, _, _, _, _, _⟩) (v := ?_) rfl (by kernel_rfl) (by kernel_rfl) (by kernel_rfl) (fun _ _ _ h => h) (Or.inl ⟨by rfl, ?_⟩) hHeld ?_
            rotate_left
            · intro w' hSw
              try dsimp only at hSw
              go_simp
              all_goals with_reducible rfl
            simp only [Act.put, List.setIfInBounds_toArray, List.set_cons_zero, List.set_cons_succ]
            refine wpAnyH_ready (rs := [12]) (by kernel_rfl) (by simp) ?_
            refine AllReadyH.cons (o := ⟨_, _, _, _, _, _⟩) rfl (fun K hK => ?_) AllReadyH.nil
            go_simp
            clear f9 e9
            have GRZ := Hid.of (GR6.out.more B8.out R8.out R7F.out (v' := .slice a9 (j + 1) c9) (w2 := w9) (by rw [GR6.out.is.ql, List.length_replicate]; exact O9.out) G9.out M9.out)
            obtain ⟨wz, hwz⟩ : ∃ wz, w9.setCell ⟨q, 4, none⟩ (.slice a9 (j + 1) c9) = wz := ⟨_, rfl⟩
            rw [hwz] at GRZ ⊢
            have gz : w9.grownBy wz (some q) := by rw [← hwz]; exact grownBy_setCell w9 q 4 (.slice a9 (j + 1) c9)
            have CSZ := Hid.of (CS9.out.grown gz (fun x hx c => by simp only [List.mem_cons, List.not_mem_nil, or_false] at hx; subst hx; have h : y = q := Option.some.inj c; have := HQY.out; omega))
            clear hwz gz
            clear hHeld d0
            have d0 := (CSZ.out).head
            refine hK.out _ _ d0 (fun hHeld => ?_)
            clear hK K
            refine wpAnyH_done (by kernel_rfl) ?_ _
            refine NoPanic.normal ?_
            clear hHeld
            clear d0
            go_wp2
            go_roundg (N - (j + 1))
            case measure => have := HJ.out; omega
            case rel => exact ⟨j + 1, _, _, _, by go_num, HJ.out, Nat.le_refl _, Hid.of (by have := GRZ.out; rwa [← List.replicate_succ'] at this)⟩
      · obtain rfl : j = N := by omega
        have X : Hid (IRep TS wr q (now, (pn, pt), fl) (List.replicate j []) (iFoot q s2 f2 v Fs)) := Hid.of ⟨s2, f2, v, qs, Fs, GR.out.is, by have := GD.out; rwa [HN.out] at this, rfl⟩
        go_wp2
        go_ret2
        rw [HE0.out]
        exact ⟨fun _ => ⟨q, rfl, _, X.out, GR.out.ge⟩, fun c => absurd rfl c, GR.out.fr⟩

end Go.Proofs.Ytnohmloilcpmiaa
