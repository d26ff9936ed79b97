/-
  A Book's lists of records are grown (package sedimentbook): growRecords.
-/
import Derived.Test.YtfgfgdchaoekfaaGreatDoorKRPq
namespace Go.Proofs.YtfgfgdchaoekfaaGreatDoor
open Go.RowKit Go.Lib

theorem marks_oneR (j n : Nat) : flat renc (rmarks j 0 n) ++ flat renc (rmarks j n 1) = flat renc (rmarks j 0 (n + 1)) := by
  rw [← flat_append]
  have := rmarks_add j 0 n 1
  rw [Nat.zero_add] at this
  rw [this]

theorem marks_moreR (j n k : Nat) : flat renc (rmarks j 0 n) ++ flat renc (rmarks j n k) = flat renc (rmarks j 0 (n + k)) := by
  rw [← flat_append]
  have := rmarks_add j 0 n k
  rw [Nat.zero_add] at this
  rw [this]

/-- What has been grown, up to the list j: all are put aside. -/
structure GrownR (j : Nat) (ls : List (Value × List RecL)) (gs : List Value) (qs0 qs : List Row1) : Prop where
  len : gs.length = j
  was : ∀ i x, i < j → ls[i]? = some x → rdone i x ∈ qs
  now : ∀ i x v, i < j → ls[i]? = some x → gs[i]? = some v → (⟨50, 7, v, x.2.length + 72, flat renc (rmarks i 0 (x.2.length + 72))⟩ : Row1) ∈ qs
  old : ∀ q ∈ qs0, q ∈ qs

theorem GrownR.step {j m : Nat} {ls : List (Value × List RecL)} {gs : List Value} {qs qj : List Row1} {x : Value × List RecL} {v : Value} (h : GrownR j ls gs qs qj) (hx : ls[j]? = some x) (hm : m = x.2.length + 72) :
    GrownR (j + 1) ls (gs ++ [v]) qs (rdone j x :: ⟨50, 7, v, m, flat renc (rmarks j 0 m)⟩ :: qj) := by
  subst hm
  refine ⟨by simp [h.len], fun i y hi hy => ?_, fun i y u hi hy hu => ?_, fun q hq => List.mem_cons_of_mem _ (List.mem_cons_of_mem _ (h.old q hq))⟩
  · by_cases e : i = j
    · subst e
      rw [hx] at hy
      simp only [Option.some.injEq] at hy
      subst hy
      exact List.mem_cons_self ..
    · exact List.mem_cons_of_mem _ (List.mem_cons_of_mem _ (h.was i y (by omega) hy))
  · by_cases e : i = j
    · subst e
      rw [hx] at hy
      simp only [Option.some.injEq] at hy
      subst hy
      rw [List.getElem?_append_right (by rw [h.len]; exact Nat.le_refl _), h.len, Nat.sub_self] at hu
      simp at hu
      subst hu
      exact List.mem_cons_of_mem _ (List.mem_cons_self ..)
    · rw [List.getElem?_append_left (by rw [h.len]; omega)] at hu
      exact List.mem_cons_of_mem _ (List.mem_cons_of_mem _ (h.now i y u (by omega) hy hu))

set_option maxRecDepth 20000 in
set_option maxHeartbeats 3200000 in
theorem growRecords_any (p D : Nat) (V : Value) (ls : List (Value × List RecL)) (rs qs : List Row1) (cs : Array Value) (T : TypeId) (w : World)
    (hp : p < D) (hD : D ≤ w.heap.size) (hB : w.heap[p]? = some (.cells cs T (0, 0))) (h2 : cs[4]? = some V) (hN : ls.length ≤ 1000) (hn : ∀ x ∈ ls, x.2.length ≤ 900000)
    (hb : Bag D w (⟨22, 1, V, ls.length, ls.map (·.1)⟩ :: (rrows ls.length ls ++ rs)) qs) :
    Calls Tryz.prog 63 #[.pointer (some ⟨p, 0, none⟩)] w fun e w' => ∃ G gs qs', e = .returned G ∧ Below p w w' ∧ w'.heap[p]? = some (.cells cs T (0, 0)) ∧ GrownR ls.length ls gs qs qs' ∧
      Bag D w' (⟨22, 1, G, ls.length, gs⟩ :: ⟨22, 1, V, ls.length, ls.map (·.1)⟩ :: rs) qs' := by
  have HB := Hid.of hb
  have HBk := Hid.of hB
  have H2 := Hid.of h2
  have HNN := Hid.of hn
  obtain ⟨Va, Vc, hVe, _⟩ := own_one (hb.own _ (List.mem_cons_self ..))
  simp only at hVe
  subst hVe
  have hpl : p < w.heap.size := by omega
  obtain ⟨A, hA⟩ : ∃ A, rrows ls.length ls = A := ⟨_, rfl⟩
  have hAi : ∀ i x, ls[i]? = some x → A[i]? = some (rdone i x) := by
    intro i x hx
    obtain ⟨hi, rfl⟩ := List.getElem?_eq_some_iff.1 hx
    rw [← hA]
    simp [rrows, hi]
  have hAl : A.length = ls.length := by rw [← hA]; exact rrows_length _ _
  rw [hA] at HB
  have HAI := Hid.of hAi
  have HAL := Hid.of hAl
  obtain ⟨i0, hi, hz0, hz1, hz2⟩ := info_parts (show (Tryz.prog.info? 50).map (fun i => (i.zero, i.size, i.bytes)) = some (some (.agg #[.string ⟨#[]⟩, .int .i64 0, .int .i64 0, .int .i64 0, .int .u64 0, .int .i64 0, .int .i64 0]), 7, 64) by kernel_rfl)
  have HI := Hid.of hi
  have HZ0 := Hid.of hz0
  have HZ1 := Hid.of hz1
  have HZ2 := Hid.of hz2
  obtain ⟨j0, ji, jz0, jz1, jz2⟩ := info_parts (show (Tryz.prog.info? 22).map (fun i => (i.zero, i.size, i.bytes)) = some (some (.slice none 0 0), 1, 24) by kernel_rfl)
  have JI := Hid.of ji
  have JZ0 := Hid.of jz0
  have JZ1 := Hid.of jz1
  have JZ2 := Hid.of jz2
  have START : Hid (Bag D w (⟨22, 1, .slice none 0 0, 0, []⟩ :: ⟨22, 1, .slice Va ls.length Vc, ls.length, ls.map (·.1)⟩ :: (A.drop 0 ++ rs)) qs) := by
    refine Hid.of ⟨fun r hr => ?_, List.pairwise_cons.2 ⟨fun x _ g hg => ?_, HB.out.apart⟩, HB.out.seen, fun q hq r hr => ?_⟩
    · rcases List.mem_cons.1 hr with rfl | hr
      · exact World.ownsRow_nil w D _ 1
      · exact HB.out.own r hr
    · cases hg
    · rcases List.mem_cons.1 hr with rfl | hr
      · intro g _ h
        cases h
      · exact HB.out.off q hq r hr
  have GS : Hid (GrownR 0 ls [] qs qs) := Hid.of ⟨rfl, fun i x h => by omega, fun i x v h => by omega, fun q hq => hq⟩
  clear hb hB h2 hn hA hAi hAl hi hz0 hz1 hz2 ji jz0 jz1 jz2 HB
  go_enter Tryz.func63, Tryz.ntmps63
  go_wp2
  go_loopw [3, 4] (fun o i wr => ∃ (j : Nat) (gs : List Value) (qj : List Row1), j ≤ ls.length ∧ i = .int .i64 j ∧ Hid (wr.heap[p]? = some (.cells cs T (0, 0))) ∧ Hid (Below p w wr) ∧ Hid (GrownR j ls gs qs qj) ∧
    Hid (Bag D wr (⟨22, 1, o, j, gs⟩ :: ⟨22, 1, .slice Va ls.length Vc, ls.length, ls.map (·.1)⟩ :: (A.drop j ++ rs)) qj)) (fun _ i _ => ls.length - (RowKit.intOf i).toNat)
  case atStart => exact ⟨0, [], qs, Nat.zero_le _, rfl, HBk, Hid.of (Below.refl _ _), GS, START⟩
  case round =>
    obtain ⟨j, gs, qj, hj, rfl, PB, Bw, GJ, BB⟩ := hrel
    have c2 : wr.cell? ⟨p, 4, none⟩ = some (.slice Va ls.length Vc) := by rw [cell_of_row wr p 4 _ _ _ PB.out]; exact H2.out
    have i0' : (0 : Int) ≤ (j : Int) := Int.natCast_nonneg _
    by_cases hlt : j < ls.length
    · have i1 : (j : Int) < (ls.length : Int) := by omega
      have hVr := own_row (BB.out.own _ (List.mem_cons_of_mem _ (List.mem_cons_self ..)))
      obtain ⟨bV, oV, rfl, hlV, hcV⟩ := hVr.at j ls[j].1 (by simp [hlt])
      have hdrop : A.drop j = rdone j ls[j] :: A.drop (j + 1) := by
        have h1 := HAI.out j ls[j] (by simp [hlt])
        obtain ⟨h2, h3⟩ := List.getElem?_eq_some_iff.1 h1
        rw [List.drop_eq_getElem_cons h2, h3]
      have hx := HNN.out ls[j] (List.getElem_mem hlt)
      have F0 := BB.out
      rw [hdrop] at F0
      have hls : ls[j]? = some ls[j] := List.getElem?_eq_getElem hlt
      generalize hxx : ls[j] = x at *
      obtain ⟨v, xs⟩ := x
      simp only [rdone] at hcV hx F0
      have F1 := F0.perm (((List.Perm.swap _ _ _).cons _).trans (List.Perm.swap _ _ _))
      obtain ⟨va, vc, hve, _⟩ := own_one (F1.own _ (List.mem_cons_self ..))
      simp only at hve
      subst hve
      obtain ⟨oa, oc, hoe, _⟩ := own_one (BB.out.own _ (List.mem_cons_self ..))
      simp only at hoe
      subst hoe
      have FF := Hid.of F1
      have HLS := Hid.of hls
      have OWN : Hid (wr.ownsRow D 50 7 (.slice va xs.length vc) xs.length (flat renc (rmarks j 0 xs.length))) := Hid.of (F1.own _ (List.mem_cons_self ..))
      have hDr : D ≤ wr.heap.size := by have := Bw.out.size; omega
      obtain ⟨n, hnn⟩ : ∃ n, xs.length = n := ⟨_, rfl⟩
      have HLN := Hid.of hnn
      rw [hnn] at hcV hx FF OWN
      clear F1 F0 hdrop hls hxx hVr BB hnn START GS
      go_wp2
      go_loopw [5, 6] (fun l k wi => ∃ kk : Nat, kk ≤ 12 ∧ k = .int .i64 kk ∧ Hid (GrewS D 50 7 wr wi (.slice va n vc) n l (n + kk) (flat renc (rmarks j 0 (n + kk))))) (fun _ k _ => 12 - (RowKit.intOf k).toNat)
      case atStart => exact ⟨0, by omega, rfl, Hid.of (GrewS.refl OWN.out)⟩
      case round =>
        obtain ⟨kk, hkk, rfl, GR⟩ := hrel
        obtain ⟨m, hm⟩ : ∃ m, n + kk = m := ⟨_, rfl⟩
        rw [hm] at GR
        obtain ⟨la, lc, hle, _⟩ := own_one GR.out.own
        subst hle
        have hm9 : m ≤ 900012 := by omega
        have k0 : (0 : Int) ≤ (kk : Int) := Int.natCast_nonneg _
        by_cases hk12 : kk < 12
        · have HMM := Hid.of hm
          have k1 : (kk : Int) < 12 := by omega
          have K12 := Hid.of hk12
          clear hm c2 hcV hk12 hkk
          go_wp2_with (first | (at_builtin; (refine append_keep_law rfl _ _ 22 rfl D 50 i0 (.agg #[.string ⟨#[]⟩, .int .i64 0, .int .i64 0, .int .i64 0, .int .u64 0, .int .i64 0, .int .i64 0]) 7 64 Tryz.underlying22 HI.out HZ0.out HZ1.out HZ2.out rfl (by decide) (.slice la m lc) m _ rfl G3.out.own bm om' 1 mc (flat renc (rmarks j m 1)) rfl CM.out (by rw [flat_length renc_len, rmarks_length]) (flat_ones renc_one _) (by unfold maxLen; omega) (by omega) hD3 ?_; intro v4 w4 o4 g4 k4 m4; have G4 := Hid.of (GrewS.append OWN.out G3.out o4 (by omega) g4 k4 m4); clear o4 g4 k4 m4)) | (go_at_call 110; (refine (markRecords_any j m 1 (by omega) (by omega) (by omega) _).mono ?_; rintro e' n3 ⟨mv, rfl, om, c3⟩; have cm := own_row om; obtain ⟨am, mc, hme, cm⟩ := cm; subst hme; obtain ⟨bm, om', hma, _, cmm⟩ := cm.resolve_left (by intro hc; have hc := congrArg List.length hc; rw [flat_length renc_len, rmarks_length] at hc; simp at hc); subst hma; have CM := Hid.of cmm; have G3 := Hid.of (GrewS.below OWN.out GR.out c3); have hD3 : D ≤ n3.heap.size := (by have := GR.out.grown.size; have := c3.size; omega); clear c3 om cm cmm)))
          have G5 := G4.out
          rw [marks_oneR] at G5
          have hmm := HMM.out
          exact ⟨⟨kk + 1, by have := K12.out; omega, by go_num, Hid.of (by rw [← Nat.add_assoc, hmm]; exact G5)⟩, by have := K12.out; simp [RowKit.intOf]; omega⟩
        · have hkk12 : kk = 12 := by omega
          subst hkk12
          have HMM := Hid.of hm
          clear hm c2 hcV hk12 hkk k0
          go_wp2_with (first | (at_builtin; (refine append_keep_law rfl _ _ 22 rfl D 50 i0 (.agg #[.string ⟨#[]⟩, .int .i64 0, .int .i64 0, .int .i64 0, .int .u64 0, .int .i64 0, .int .i64 0]) 7 64 Tryz.underlying22 HI.out HZ0.out HZ1.out HZ2.out rfl (by decide) (.slice la m lc) m _ rfl G3.out.own bm om' 60 mc (flat renc (rmarks j m 60)) rfl CM.out (by rw [flat_length renc_len, rmarks_length]) (flat_ones renc_one _) (by unfold maxLen; omega) (by omega) hD3 ?_; intro v4 w4 o4 g4 k4 m4; have G4 := Hid.of (GrewS.append OWN.out G3.out o4 (by omega) g4 k4 m4); obtain ⟨ra, rc, e4, _⟩ := own_one o4; subst e4; have B4 := Hid.of (FF.out.regrownS G4.out); have O4 := Hid.of (B4.out.own _ (List.mem_cons_self ..)); have hD4 : D ≤ w4.heap.size := (by have := G4.out.grown.size; omega); clear o4 g4 k4 m4)) | (at_builtin; (refine append_keep_law rfl _ _ 28 rfl D 22 j0 (.slice none 0 0) 1 24 Tryz.underlying28 JI.out JZ0.out JZ1.out JZ2.out rfl (by decide) (.slice oa j oc) j gs rfl (O4.out.alloc _) w4.heap.size 0 1 1 [.slice ra (m + 60) rc] rfl (one_cell w4 _ _) rfl (by simp [Value.oneCell']) (by unfold maxLen; omega) (by omega) (by simp; omega) ?_; intro v5 w5 o5 g5 k5 m5; have O5 := Hid.of o5; have G5 := Hid.of (grown_alloc g5); have M5 := Hid.of m5; clear o5 g5 k5 m5)) | (go_at_call 110; (refine (markRecords_any j m 60 (by omega) (by omega) (by omega) _).mono ?_; rintro e' n3 ⟨mv, rfl, om, c3⟩; have cm := own_row om; obtain ⟨am, mc, hme, cm⟩ := cm; subst hme; obtain ⟨bm, om', hma, _, cmm⟩ := cm.resolve_left (by intro hc; have hc := congrArg List.length hc; rw [flat_length renc_len, rmarks_length] at hc; simp at hc); subst hma; have CM := Hid.of cmm; have G3 := Hid.of (GrewS.below OWN.out GR.out c3); have hD3 : D ≤ n3.heap.size := (by have := GR.out.grown.size; have := c3.size; omega); clear c3 om cm cmm)))
          have hkx := HLN.out
          subst hkx
          have hmm := HMM.out
          subst hmm
          have B5 := B4.out
          rw [marks_moreR] at B5
          have hm5 := M5.out.imp_right fun ⟨g, e, (h : (w4.alloc (Obj.cells #[Value.slice ra (xs.length + 12 + 60) rc] 22)).heap.size ≤ g)⟩ => (⟨g, e, by simp at h; omega⟩ : ∃ g, v5.ownBlock = some g ∧ w4.heap.size ≤ g)
          have B6 := B5.grow G5.out O5.out hm5
          have P4 := block_kept PB.out hp G4.out.grown (fun g hg => (OWN.out.lt g hg).1)
          have P5 := block_kept P4 hp G5.out (fun g hg => (O4.out.lt g hg).1)
          have x1 := Bw.out.grown G4.out.grown (by have := Bw.out.size; omega) (fun g hg => by have := (OWN.out.lt g hg).1; omega)
          have x2 := x1.grown G5.out (by have := x1.size; omega) (fun g hg => by have := (O4.out.lt g hg).1; omega)
          exact ⟨⟨j + 1, _, _, by omega, by go_num, Hid.of P5, Hid.of x2, Hid.of (GJ.out.step HLS.out (m := xs.length + 12 + 60) (by simp only)), Hid.of B6⟩, by simp [RowKit.intOf]; omega⟩
    · go_wp2
      go_ret
      have : j = ls.length := by omega
      subst this
      have h := BB.out
      rw [← HAL.out, List.drop_length] at h
      rw [HAL.out] at h
      exact ⟨_, gs, qj, rfl, Bw.out, PB.out, GJ.out, h⟩

end Go.Proofs.YtfgfgdchaoekfaaGreatDoor
