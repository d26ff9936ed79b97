/-
  A Book's lists of tiers are marked (package sedimentbook): putTiers.
-/
import Derived.Test.YtfbgjoildibikaaKPBq
import Derived.Test.YtfbgjoildibikaaQ10
namespace Go.Proofs.Ytfbgjoildibikaa
open Go.RowKit Go.Lib

/-- A kept list of ints, and the same with its marks. -/
def ptodo (x : Value × List TierL) : Row1 := ⟨63, 4, x.1, x.2.length, flat penc x.2⟩
def pdone (i : Nat) (x : Value × List TierL) : Row1 := ⟨63, 4, x.1, x.2.length, flat penc (pmarks i 0 x.2.length)⟩

/-- The lists, of which the first j have their marks. -/
def prows (j : Nat) (ls : List (Value × List TierL)) : List Row1 := ls.mapIdx fun i x => if i < j then pdone i x else ptodo x

theorem prows_zero (ls : List (Value × List TierL)) : prows 0 ls = ls.map ptodo := by
  unfold prows
  apply List.ext_getElem?
  intro i
  simp

theorem prows_length (j : Nat) (ls : List (Value × List TierL)) : (prows j ls).length = ls.length := by simp [prows]

theorem prows_at (j : Nat) (ls : List (Value × List TierL)) (h : j < ls.length) : (prows j ls)[j]? = some (ptodo ls[j]) := by
  simp [prows, h]

theorem prows_succ (j : Nat) (ls : List (Value × List TierL)) (h : j < ls.length) : (prows j ls).set j (pdone j ls[j]) = prows (j + 1) ls := by
  unfold prows
  apply List.ext_getElem?
  intro i
  rw [List.getElem?_set]
  by_cases e : j = i
  · subst e
    simp [h]
  · rw [if_neg e]
    simp only [List.getElem?_mapIdx]
    by_cases h2 : i < ls.length
    · rw [List.getElem?_eq_getElem h2]
      simp only [Option.map_some, Option.some.injEq]
      by_cases h3 : i < j
      · rw [if_pos h3, if_pos (by omega)]
      · rw [if_neg h3, if_neg (by omega)]
    · rw [List.getElem?_eq_none (by omega)]
      rfl

set_option maxRecDepth 20000 in
set_option maxHeartbeats 6400000 in
theorem putTiers_any (p D : Nat) (V : Value) (ls : List (Value × List TierL)) (rs : List Row1) (cs : Array Value) (T : TypeId) (w : World)
    (hp : p < D) (hD : D ≤ w.heap.size) (hB : w.heap[p]? = some (.cells cs T (0, 0))) (h2 : cs[8]? = some V) (hN : ls.length ≤ 1000) (hn : ∀ x ∈ ls, x.2.length ≤ 1000000)
    (hb : Bag D w (⟨22, 1, V, ls.length, ls.map (·.1)⟩ :: (prows 0 ls ++ rs)) []) :
    Calls Try.prog 59 #[.pointer (some ⟨p, 0, none⟩)] w fun e w' => e = .returned (.tuple #[]) ∧ Below p w w' ∧ w'.heap[p]? = some (.cells cs T (0, 0)) ∧
      Bag D w' (⟨22, 1, V, ls.length, ls.map (·.1)⟩ :: (prows ls.length ls ++ rs)) [] := by
  have HB := Hid.of hb
  have HBk := Hid.of hB
  have H2 := Hid.of h2
  have HNN := Hid.of hn
  obtain ⟨Va, Vc, hVe, _⟩ := own_one (hb.own _ (List.mem_cons_self ..))
  simp only at hVe
  subst hVe
  have hpl : p < w.heap.size := by omega
  clear hb hB h2 hn
  go_enter Try.func59, Try.ntmps59
  go_wp2
  go_loopw [2] (fun i wr => ∃ j : Nat, j ≤ ls.length ∧ i = .int .i64 j ∧ Hid (wr.heap[p]? = some (.cells cs T (0, 0))) ∧ Hid (Below p w wr) ∧ Hid (Bag D wr (⟨22, 1, .slice Va ls.length Vc, ls.length, ls.map (·.1)⟩ :: (prows j ls ++ rs)) [])) (fun i _ => ls.length - (RowKit.intOf i).toNat)
  case atStart => exact ⟨0, Nat.zero_le _, rfl, HBk, Hid.of (Below.refl _ _), HB⟩
  case round =>
    obtain ⟨j, hj, rfl, PB, Bw, BB⟩ := hrel
    have c2 : wr.cell? ⟨p, 8, none⟩ = some (.slice Va ls.length Vc) := by rw [cell_of_row wr p 8 _ _ _ PB.out]; exact H2.out
    have i0 : (0 : Int) ≤ (j : Int) := Int.natCast_nonneg _
    by_cases hlt : j < ls.length
    · have i1 : (j : Int) < (ls.length : Int) := by omega
      have hVr := own_row (BB.out.own _ (List.mem_cons_self ..))
      obtain ⟨bV, oV, rfl, hlV, hcV⟩ := hVr.at j ls[j].1 (by simp [hlt])
      have hat := prows_at j ls hlt
      have F0 := BB.out.front hat
      have hx := HNN.out ls[j] (List.getElem_mem hlt)
      have hset := prows_succ j ls hlt
      have hmj : (ls.map (·.1))[j]? = some ls[j].1 := by simp [hlt]
      generalize hxx : ls[j] = x at *
      obtain ⟨v, xs⟩ := x
      simp only [ptodo] at hcV hx F0 hset hmj
      obtain ⟨va, vc, hve, _⟩ := own_one (F0.own _ (List.mem_cons_self ..))
      simp only at hve
      subst hve
      have FF := Hid.of F0
      have HS := Hid.of hset
      obtain ⟨n, hnn⟩ : ∃ n, xs.length = n := ⟨_, rfl⟩
      rw [hnn] at hcV hx FF hmj
      have HMJ := Hid.of hmj
      have HCV := Hid.of hcV
      have HLN := Hid.of hnn
      have hDr : D ≤ wr.heap.size := by have := Bw.out.size; omega
      clear F0 hat hset hxx hVr hnn hmj
      go_wp2_with (go_at_call 93; refine (markTiers_any j 0 n (by omega) (by omega) hx _).mono ?_; rintro e' n3 ⟨mv, rfl, om, c3⟩; obtain ⟨ma, mc, hme, _⟩ := own_one om; subst hme; have OM := Hid.of om; have C3 := Hid.of c3; clear om c3)
      have N1 := (FF.out.new C3.out OM.out hDr).perm (List.Perm.swap _ _ _)
      obtain ⟨M, hM⟩ : ∃ M, pmarks j 0 n = M := ⟨_, rfl⟩
      have hMl : M.length = xs.length := by rw [← hM, pmarks_length, HLN.out]
      have hMi : ∀ k, k < n → ∃ y, M[k]? = some y := fun k hk => ⟨_, List.getElem?_eq_getElem (by rw [hMl, HLN.out]; exact hk)⟩
      rw [hM] at N1
      have HM := Hid.of hM
      have HML := Hid.of hMl
      have HMI := Hid.of hMi
      obtain ⟨rest, hrest⟩ : ∃ rest, (prows j ls).take j ++ (prows j ls).drop (j + 1) ++ rs = rest := ⟨_, rfl⟩
      rw [hrest] at N1
      have HR := Hid.of hrest
      have NN : Hid (Bag D n3 (⟨63, 4, .slice va n vc, n, flat penc (parts M xs 0)⟩ :: ⟨63, 4, .slice ma n mc, n, flat penc M⟩ :: ⟨22, 1, .slice (some ⟨bV, oV, none⟩) ls.length Vc, ls.length, ls.map (·.1)⟩ :: rest) []) := Hid.of (by rw [parts_zero]; exact N1)
      have PN := Hid.of (block_kept PB.out hp (grown_of_below C3.out) (fun g hg => by cases hg))
      have BN : Hid (Below p w n3) := Hid.of (Bw.out.trans (C3.out.mono (by omega)))
      clear N1 hM hMl hMi hrest hcV c2 OM C3 FF BB
      go_loopw [4] (fun k wi => ∃ kk : Nat, kk ≤ n ∧ k = .int .i64 kk ∧ Hid (wi.heap[p]? = some (.cells cs T (0, 0))) ∧ Hid (Below p w wi) ∧
        Hid (Bag D wi (⟨63, 4, .slice va n vc, n, flat penc (parts M xs kk)⟩ :: ⟨63, 4, .slice ma n mc, n, flat penc M⟩ :: ⟨22, 1, .slice (some ⟨bV, oV, none⟩) ls.length Vc, ls.length, ls.map (·.1)⟩ :: rest) [])) (fun k _ => n - (RowKit.intOf k).toNat)
      case atStart => exact ⟨0, Nat.zero_le _, rfl, PN, BN, NN⟩
      case round =>
        obtain ⟨k, hk, rfl, PK, BK, BB⟩ := hrel
        have c2 : wr.cell? ⟨p, 8, none⟩ = some (.slice (some ⟨bV, oV, none⟩) ls.length Vc) := by rw [cell_of_row wr p 8 _ _ _ PK.out]; exact H2.out
        by_cases hkn : k < n
        · obtain ⟨y, hy⟩ := HMI.out k hkn
          have oR := BB.out.own _ (List.mem_cons_self ..)
          have cM := own_row (BB.out.own _ (List.mem_cons_of_mem _ (List.mem_cons_self ..)))
          have cV := own_row (BB.out.own _ (List.mem_cons_of_mem _ (List.mem_cons_of_mem _ (List.mem_cons_self ..))))
          simp only at oR cM cV
          obtain ⟨bm, om, rfl, hlm, hcm⟩ := p_at cM k y hy
          obtain ⟨y0, y1, y2, y3⟩ := y
          obtain ⟨m0, m1, m2, m3⟩ := hcm
          simp only at m0 m1 m2 m3
          obtain ⟨bW, oW, hW, hlW, hcW⟩ := cV.at j (.slice va n vc) HMJ.out
          simp only [Option.some.injEq, Addr.mk.injEq, and_true] at hW
          obtain ⟨rfl, rfl⟩ := hW
          obtain ⟨g, hg⟩ : ∃ g, va = some ⟨g, 0, none⟩ := by
            rcases oR.2 with ⟨h, h'⟩ | ⟨g, cap, cur, h, _⟩
            · omega
            · simp only [Value.slice.injEq] at h
              exact ⟨g, h.1⟩
          subst hg
          have hct0 := oR.cellAt (k * 4) (by omega)
          have hfz0 := oR.frozenAt (k * 4)
          obtain ⟨u0, hu0⟩ : ∃ u, (flat penc (parts M xs k))[k * 4]? = some u := ⟨_, List.getElem?_eq_getElem (by rw [oR.1]; omega)⟩
          rw [hu0] at hct0
          have hct1 := oR.cellAt (k * 4 + 1) (by omega)
          have hfz1 := oR.frozenAt (k * 4 + 1)
          obtain ⟨u1, hu1⟩ : ∃ u, (flat penc (parts M xs k))[k * 4 + 1]? = some u := ⟨_, List.getElem?_eq_getElem (by rw [oR.1]; omega)⟩
          rw [hu1] at hct1
          have hct2 := oR.cellAt (k * 4 + 2) (by omega)
          have hfz2 := oR.frozenAt (k * 4 + 2)
          obtain ⟨u2, hu2⟩ : ∃ u, (flat penc (parts M xs k))[k * 4 + 2]? = some u := ⟨_, List.getElem?_eq_getElem (by rw [oR.1]; omega)⟩
          rw [hu2] at hct2
          have hct3 := oR.cellAt (k * 4 + 3) (by omega)
          have hfz3 := oR.frozenAt (k * 4 + 3)
          obtain ⟨u3, hu3⟩ : ∃ u, (flat penc (parts M xs k))[k * 4 + 3]? = some u := ⟨_, List.getElem?_eq_getElem (by rw [oR.1]; omega)⟩
          rw [hu3] at hct3
          have k0 : (0 : Int) ≤ (k : Int) := Int.natCast_nonneg _
          have k1 : (k : Int) < (n : Int) := by omega
          have OR := Hid.of oR
          have HY := Hid.of hy
          clear oR cM cV hu0 hu1 hu2 hu3 hy hlm hlW
          go_wp2
          go_region_law (fail)
          all_goals
            go_wp2
            go_roundw
            case rel =>
              obtain ⟨s1, s2⟩ := setCells_own (penc (y0, y1, y2, y3)) (k * 4) OR.out
              rw [parts_set penc_len M xs k _ HY.out HML.out] at s1
              have B1 := BB.out.grow s2 s1 (.inl rfl)
              refine ⟨k + 1, by omega, by go_num, Hid.of ?_, Hid.of ?_, Hid.of (B1.below ((Below.refl _ _).drew))⟩
              · exact block_kept PK.out hp (grownBy_drew s2) (fun g' hg' => by have := OR.out.lt g' (by simpa [Value.ownBlock] using hg'); omega)
              · exact (BK.out.grown s2 (by have := BK.out.size; omega) (fun g' hg' => by have := OR.out.lt g' (by simpa [Value.ownBlock] using hg'); omega)).drew
            case measure => simp [RowKit.intOf]; omega
        · have : k = n := by omega
          subst this
          go_wp2
          have hkx := HLN.out
          subst hkx
          have B1 := (BB.out.perm (List.Perm.swap _ _ _)).drop
          rw [parts_all M xs HML.out, ← HM.out, ← HR.out] at B1
          have B2 := B1.back (by rw [prows_length]; exact hlt)
          have B3 : Bag D wr (⟨22, 1, .slice (some ⟨bV, oV, none⟩) ls.length Vc, ls.length, ls.map (·.1)⟩ :: (prows (j + 1) ls ++ rs)) [] := by
            have h := HS.out
            unfold pdone at h
            rw [← h]
            exact B2
          exact ⟨⟨j + 1, by omega, by go_num, PK, BK, Hid.of B3⟩, by simp [RowKit.intOf]; omega⟩
    · go_wp2
      go_end0
      have : j = ls.length := by omega
      subst this
      exact ⟨rfl, Bw.out, PB.out, BB.out⟩

end Go.Proofs.Ytfbgjoildibikaa
