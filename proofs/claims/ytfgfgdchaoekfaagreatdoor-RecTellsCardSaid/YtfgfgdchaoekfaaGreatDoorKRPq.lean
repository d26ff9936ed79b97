/-
  A Book's lists of records are marked (package sedimentbook): putRecords.
-/
import Derived.Test.YtfgfgdchaoekfaaGreatDoorKRBq
import Derived.Test.YtfgfgdchaoekfaaGreatDoorQ13
namespace Go.Proofs.YtfgfgdchaoekfaaGreatDoor
open Go.RowKit Go.Lib

/-- A kept list of ints, and the same with its marks. -/
def rtodo (x : Value × List RecL) : Row1 := ⟨50, 7, x.1, x.2.length, flat renc x.2⟩
def rdone (i : Nat) (x : Value × List RecL) : Row1 := ⟨50, 7, x.1, x.2.length, flat renc (rmarks i 0 x.2.length)⟩

/-- The lists, of which the first j have their marks. -/
def rrows (j : Nat) (ls : List (Value × List RecL)) : List Row1 := ls.mapIdx fun i x => if i < j then rdone i x else rtodo x

theorem rrows_zero (ls : List (Value × List RecL)) : rrows 0 ls = ls.map rtodo := by
  unfold rrows
  apply List.ext_getElem?
  intro i
  simp

theorem rrows_length (j : Nat) (ls : List (Value × List RecL)) : (rrows j ls).length = ls.length := by simp [rrows]

theorem rrows_at (j : Nat) (ls : List (Value × List RecL)) (h : j < ls.length) : (rrows j ls)[j]? = some (rtodo ls[j]) := by
  simp [rrows, h]

theorem rrows_succ (j : Nat) (ls : List (Value × List RecL)) (h : j < ls.length) : (rrows j ls).set j (rdone j ls[j]) = rrows (j + 1) ls := by
  unfold rrows
  apply List.ext_getElem?
  intro i
  rw [List.getElem?_set]
  by_cases e : j = i
  · subst e
    simp [h]
  · rw [if_neg e]
    simp only [List.getElem?_mapIdx]
    by_cases h2 : i < ls.length
    · rw [List.getElem?_eq_getElem h2]
      simp only [Option.map_some, Option.some.injEq]
      by_cases h3 : i < j
      · rw [if_pos h3, if_pos (by omega)]
      · rw [if_neg h3, if_neg (by omega)]
    · rw [List.getElem?_eq_none (by omega)]
      rfl

set_option maxRecDepth 20000 in
set_option maxHeartbeats 6400000 in
theorem putRecords_any (p D : Nat) (V : Value) (ls : List (Value × List RecL)) (rs : List Row1) (cs : Array Value) (T : TypeId) (w : World)
    (hp : p < D) (hD : D ≤ w.heap.size) (hB : w.heap[p]? = some (.cells cs T (0, 0))) (h2 : cs[4]? = some V) (hN : ls.length ≤ 1000) (hn : ∀ x ∈ ls, x.2.length ≤ 1000000)
    (hb : Bag D w (⟨22, 1, V, ls.length, ls.map (·.1)⟩ :: (rrows 0 ls ++ rs)) []) :
    Calls Tryz.prog 56 #[.pointer (some ⟨p, 0, none⟩)] w fun e w' => e = .returned (.tuple #[]) ∧ Below p w w' ∧ w'.heap[p]? = some (.cells cs T (0, 0)) ∧
      Bag D w' (⟨22, 1, V, ls.length, ls.map (·.1)⟩ :: (rrows ls.length ls ++ rs)) [] := by
  have HB := Hid.of hb
  have HBk := Hid.of hB
  have H2 := Hid.of h2
  have HNN := Hid.of hn
  obtain ⟨Va, Vc, hVe, _⟩ := own_one (hb.own _ (List.mem_cons_self ..))
  simp only at hVe
  subst hVe
  have hpl : p < w.heap.size := by omega
  clear hb hB h2 hn
  go_enter Tryz.func56, Tryz.ntmps56
  go_wp2
  go_loopw [2] (fun i wr => ∃ j : Nat, j ≤ ls.length ∧ i = .int .i64 j ∧ Hid (wr.heap[p]? = some (.cells cs T (0, 0))) ∧ Hid (Below p w wr) ∧ Hid (Bag D wr (⟨22, 1, .slice Va ls.length Vc, ls.length, ls.map (·.1)⟩ :: (rrows j ls ++ rs)) [])) (fun i _ => ls.length - (RowKit.intOf i).toNat)
  case atStart => exact ⟨0, Nat.zero_le _, rfl, HBk, Hid.of (Below.refl _ _), HB⟩
  case round =>
    obtain ⟨j, hj, rfl, PB, Bw, BB⟩ := hrel
    have c2 : wr.cell? ⟨p, 4, none⟩ = some (.slice Va ls.length Vc) := by rw [cell_of_row wr p 4 _ _ _ PB.out]; exact H2.out
    have i0 : (0 : Int) ≤ (j : Int) := Int.natCast_nonneg _
    by_cases hlt : j < ls.length
    · have i1 : (j : Int) < (ls.length : Int) := by omega
      have hVr := own_row (BB.out.own _ (List.mem_cons_self ..))
      obtain ⟨bV, oV, rfl, hlV, hcV⟩ := hVr.at j ls[j].1 (by simp [hlt])
      have hat := rrows_at j ls hlt
      have F0 := BB.out.front hat
      have hx := HNN.out ls[j] (List.getElem_mem hlt)
      have hset := rrows_succ j ls hlt
      have hmj : (ls.map (·.1))[j]? = some ls[j].1 := by simp [hlt]
      generalize hxx : ls[j] = x at *
      obtain ⟨v, xs⟩ := x
      simp only [rtodo] at hcV hx F0 hset hmj
      obtain ⟨va, vc, hve, _⟩ := own_one (F0.own _ (List.mem_cons_self ..))
      simp only at hve
      subst hve
      have FF := Hid.of F0
      have HS := Hid.of hset
      obtain ⟨n, hnn⟩ : ∃ n, xs.length = n := ⟨_, rfl⟩
      rw [hnn] at hcV hx FF hmj
      have HMJ := Hid.of hmj
      have HCV := Hid.of hcV
      have HLN := Hid.of hnn
      have hDr : D ≤ wr.heap.size := by have := Bw.out.size; omega
      clear F0 hat hset hxx hVr hnn hmj
      go_wp2_with (go_at_call 110; refine (markRecords_any j 0 n (by omega) (by omega) hx _).mono ?_; rintro e' n3 ⟨mv, rfl, om, c3⟩; obtain ⟨ma, mc, hme, _⟩ := own_one om; subst hme; have OM := Hid.of om; have C3 := Hid.of c3; clear om c3)
      have N1 := (FF.out.new C3.out OM.out hDr).perm (List.Perm.swap _ _ _)
      obtain ⟨M, hM⟩ : ∃ M, rmarks j 0 n = M := ⟨_, rfl⟩
      have hMl : M.length = xs.length := by rw [← hM, rmarks_length, HLN.out]
      have hMi : ∀ k, k < n → ∃ y, M[k]? = some y := fun k hk => ⟨_, List.getElem?_eq_getElem (by rw [hMl, HLN.out]; exact hk)⟩
      rw [hM] at N1
      have HM := Hid.of hM
      have HML := Hid.of hMl
      have HMI := Hid.of hMi
      obtain ⟨rest, hrest⟩ : ∃ rest, (rrows j ls).take j ++ (rrows j ls).drop (j + 1) ++ rs = rest := ⟨_, rfl⟩
      rw [hrest] at N1
      have HR := Hid.of hrest
      have NN : Hid (Bag D n3 (⟨50, 7, .slice va n vc, n, flat renc (parts M xs 0)⟩ :: ⟨50, 7, .slice ma n mc, n, flat renc M⟩ :: ⟨22, 1, .slice (some ⟨bV, oV, none⟩) ls.length Vc, ls.length, ls.map (·.1)⟩ :: rest) []) := Hid.of (by rw [parts_zero]; exact N1)
      have PN := Hid.of (block_kept PB.out hp (grown_of_below C3.out) (fun g hg => by cases hg))
      have BN : Hid (Below p w n3) := Hid.of (Bw.out.trans (C3.out.mono (by omega)))
      clear N1 hM hMl hMi hrest hcV c2 OM C3 FF BB
      go_loopw [4] (fun k wi => ∃ kk : Nat, kk ≤ n ∧ k = .int .i64 kk ∧ Hid (wi.heap[p]? = some (.cells cs T (0, 0))) ∧ Hid (Below p w wi) ∧
        Hid (Bag D wi (⟨50, 7, .slice va n vc, n, flat renc (parts M xs kk)⟩ :: ⟨50, 7, .slice ma n mc, n, flat renc M⟩ :: ⟨22, 1, .slice (some ⟨bV, oV, none⟩) ls.length Vc, ls.length, ls.map (·.1)⟩ :: rest) [])) (fun k _ => n - (RowKit.intOf k).toNat)
      case atStart => exact ⟨0, Nat.zero_le _, rfl, PN, BN, NN⟩
      case round =>
        obtain ⟨k, hk, rfl, PK, BK, BB⟩ := hrel
        have c2 : wr.cell? ⟨p, 4, none⟩ = some (.slice (some ⟨bV, oV, none⟩) ls.length Vc) := by rw [cell_of_row wr p 4 _ _ _ PK.out]; exact H2.out
        by_cases hkn : k < n
        · obtain ⟨y, hy⟩ := HMI.out k hkn
          have oR := BB.out.own _ (List.mem_cons_self ..)
          have cM := own_row (BB.out.own _ (List.mem_cons_of_mem _ (List.mem_cons_self ..)))
          have cV := own_row (BB.out.own _ (List.mem_cons_of_mem _ (List.mem_cons_of_mem _ (List.mem_cons_self ..))))
          simp only at oR cM cV
          obtain ⟨bm, om, rfl, hlm, hcm⟩ := r_at cM k y hy
          obtain ⟨y0, y1, y2, y3, y4, y5, y6⟩ := y
          obtain ⟨m0, m1, m2, m3, m4, m5, m6⟩ := hcm
          simp only at m0 m1 m2 m3 m4 m5 m6
          obtain ⟨bW, oW, hW, hlW, hcW⟩ := cV.at j (.slice va n vc) HMJ.out
          simp only [Option.some.injEq, Addr.mk.injEq, and_true] at hW
          obtain ⟨rfl, rfl⟩ := hW
          obtain ⟨g, hg⟩ : ∃ g, va = some ⟨g, 0, none⟩ := by
            rcases oR.2 with ⟨h, h'⟩ | ⟨g, cap, cur, h, _⟩
            · omega
            · simp only [Value.slice.injEq] at h
              exact ⟨g, h.1⟩
          subst hg
          have hct0 := oR.cellAt (k * 7) (by omega)
          have hfz0 := oR.frozenAt (k * 7)
          obtain ⟨u0, hu0⟩ : ∃ u, (flat renc (parts M xs k))[k * 7]? = some u := ⟨_, List.getElem?_eq_getElem (by rw [oR.1]; omega)⟩
          rw [hu0] at hct0
          have hct1 := oR.cellAt (k * 7 + 1) (by omega)
          have hfz1 := oR.frozenAt (k * 7 + 1)
          obtain ⟨u1, hu1⟩ : ∃ u, (flat renc (parts M xs k))[k * 7 + 1]? = some u := ⟨_, List.getElem?_eq_getElem (by rw [oR.1]; omega)⟩
          rw [hu1] at hct1
          have hct2 := oR.cellAt (k * 7 + 2) (by omega)
          have hfz2 := oR.frozenAt (k * 7 + 2)
          obtain ⟨u2, hu2⟩ : ∃ u, (flat renc (parts M xs k))[k * 7 + 2]? = some u := ⟨_, List.getElem?_eq_getElem (by rw [oR.1]; omega)⟩
          rw [hu2] at hct2
          have hct3 := oR.cellAt (k * 7 + 3) (by omega)
          have hfz3 := oR.frozenAt (k * 7 + 3)
          obtain ⟨u3, hu3⟩ : ∃ u, (flat renc (parts M xs k))[k * 7 + 3]? = some u := ⟨_, List.getElem?_eq_getElem (by rw [oR.1]; omega)⟩
          rw [hu3] at hct3
          have hct4 := oR.cellAt (k * 7 + 4) (by omega)
          have hfz4 := oR.frozenAt (k * 7 + 4)
          obtain ⟨u4, hu4⟩ : ∃ u, (flat renc (parts M xs k))[k * 7 + 4]? = some u := ⟨_, List.getElem?_eq_getElem (by rw [oR.1]; omega)⟩
          rw [hu4] at hct4
          have hct5 := oR.cellAt (k * 7 + 5) (by omega)
          have hfz5 := oR.frozenAt (k * 7 + 5)
          obtain ⟨u5, hu5⟩ : ∃ u, (flat renc (parts M xs k))[k * 7 + 5]? = some u := ⟨_, List.getElem?_eq_getElem (by rw [oR.1]; omega)⟩
          rw [hu5] at hct5
          have hct6 := oR.cellAt (k * 7 + 6) (by omega)
          have hfz6 := oR.frozenAt (k * 7 + 6)
          obtain ⟨u6, hu6⟩ : ∃ u, (flat renc (parts M xs k))[k * 7 + 6]? = some u := ⟨_, List.getElem?_eq_getElem (by rw [oR.1]; omega)⟩
          rw [hu6] at hct6
          have k0 : (0 : Int) ≤ (k : Int) := Int.natCast_nonneg _
          have k1 : (k : Int) < (n : Int) := by omega
          have OR := Hid.of oR
          have HY := Hid.of hy
          clear oR cM cV hu0 hu1 hu2 hu3 hu4 hu5 hu6 hy hlm hlW
          go_wp2
          go_region_law (fail)
          all_goals
            go_wp2
            go_roundw
            case rel =>
              obtain ⟨s1, s2⟩ := setCells_own (renc (y0, y1, y2, y3, y4, y5, y6)) (k * 7) OR.out
              rw [parts_set renc_len M xs k _ HY.out HML.out] at s1
              have B1 := BB.out.grow s2 s1 (.inl rfl)
              refine ⟨k + 1, by omega, by go_num, Hid.of ?_, Hid.of ?_, Hid.of (B1.below ((Below.refl _ _).drew))⟩
              · exact block_kept PK.out hp (grownBy_drew s2) (fun g' hg' => by have := OR.out.lt g' (by simpa [Value.ownBlock] using hg'); omega)
              · exact (BK.out.grown s2 (by have := BK.out.size; omega) (fun g' hg' => by have := OR.out.lt g' (by simpa [Value.ownBlock] using hg'); omega)).drew
            case measure => simp [RowKit.intOf]; omega
        · have : k = n := by omega
          subst this
          go_wp2
          have hkx := HLN.out
          subst hkx
          have B1 := (BB.out.perm (List.Perm.swap _ _ _)).drop
          rw [parts_all M xs HML.out, ← HM.out, ← HR.out] at B1
          have B2 := B1.back (by rw [rrows_length]; exact hlt)
          have B3 : Bag D wr (⟨22, 1, .slice (some ⟨bV, oV, none⟩) ls.length Vc, ls.length, ls.map (·.1)⟩ :: (rrows (j + 1) ls ++ rs)) [] := by
            have h := HS.out
            unfold rdone at h
            rw [← h]
            exact B2
          exact ⟨⟨j + 1, by omega, by go_num, PK, BK, Hid.of B3⟩, by simp [RowKit.intOf]; omega⟩
    · go_wp2
      go_end0
      have : j = ls.length := by omega
      subst this
      exact ⟨rfl, Bw.out, PB.out, BB.out⟩

end Go.Proofs.YtfgfgdchaoekfaaGreatDoor
