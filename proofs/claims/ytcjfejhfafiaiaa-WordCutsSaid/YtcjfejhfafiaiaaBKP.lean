/-
  A Book's lists of ints are marked (package sedimentbook): putInts.
-/
import Derived.Test.YtcjfejhfafiaiaaBKN
namespace Go.Proofs.Ytcjfejhfafiaiaa
open Go.RowKit Go.Lib

/-- The first k of M, and what is behind the first k of xs. -/
def part (M xs : List Value) (k : Nat) : List Value := M.take k ++ xs.drop k

theorem part_zero (M xs : List Value) : part M xs 0 = xs := by simp [part]

theorem part_all (M xs : List Value) (h : M.length = xs.length) : part M xs xs.length = M := by
  unfold part
  rw [← h, List.take_length, h, List.drop_length, List.append_nil]

theorem part_set (M xs : List Value) (k : Nat) (m : Value) (hm : M[k]? = some m) (h : M.length = xs.length) : (part M xs k).set k m = part M xs (k + 1) := by
  obtain ⟨hk, rfl⟩ := List.getElem?_eq_some_iff.1 hm
  have h1 : (M.take k).length = k := by rw [List.length_take]; omega
  have h2 : k < xs.length := by omega
  unfold part
  rw [List.set_append_right _ _ (by omega), h1, Nat.sub_self, List.drop_eq_getElem_cons h2, List.set_cons_zero, List.take_succ_eq_append_getElem hk, List.append_assoc]
  rfl

/-- A kept list of ints, and the same with its marks. -/
def itodo (x : Value × List Value) : Row1 := ⟨3, 1, x.1, x.2.length, x.2⟩
def idone (i : Nat) (x : Value × List Value) : Row1 := ⟨3, 1, x.1, x.2.length, (imarks i 0 x.2.length).map (Value.int .i64)⟩

/-- The lists, of which the first j have their marks. -/
def irows (j : Nat) (ls : List (Value × List Value)) : List Row1 := ls.mapIdx fun i x => if i < j then idone i x else itodo x

theorem irows_zero (ls : List (Value × List Value)) : irows 0 ls = ls.map itodo := by
  unfold irows
  apply List.ext_getElem?
  intro i
  simp

theorem irows_length (j : Nat) (ls : List (Value × List Value)) : (irows j ls).length = ls.length := by simp [irows]

theorem irows_at (j : Nat) (ls : List (Value × List Value)) (h : j < ls.length) : (irows j ls)[j]? = some (itodo ls[j]) := by
  simp [irows, h]

theorem irows_succ (j : Nat) (ls : List (Value × List Value)) (h : j < ls.length) : (irows j ls).set j (idone j ls[j]) = irows (j + 1) ls := by
  unfold irows
  apply List.ext_getElem?
  intro i
  rw [List.getElem?_set]
  by_cases e : j = i
  · subst e
    simp [h]
  · rw [if_neg e]
    simp only [List.getElem?_mapIdx]
    by_cases h2 : i < ls.length
    · rw [List.getElem?_eq_getElem h2]
      simp only [Option.map_some, Option.some.injEq]
      by_cases h3 : i < j
      · rw [if_pos h3, if_pos (by omega)]
      · rw [if_neg h3, if_neg (by omega)]
    · rw [List.getElem?_eq_none (by omega)]
      rfl

set_option maxHeartbeats 1600000 in
theorem putInts_any (p D : Nat) (V : Value) (ls : List (Value × List Value)) (rs : List Row1) (cs : Array Value) (T : TypeId) (w : World)
    (hp : p < D) (hD : D ≤ w.heap.size) (hB : w.heap[p]? = some (.cells cs T (0, 0))) (h2 : cs[2]? = some V) (hN : ls.length ≤ 1000) (hn : ∀ x ∈ ls, x.2.length ≤ 1000000)
    (hb : Bag D w (⟨22, 1, V, ls.length, ls.map (·.1)⟩ :: (irows 0 ls ++ rs)) []) :
    Calls Try.prog 37 #[.pointer (some ⟨p, 0, none⟩)] w fun e w' => e = .returned (.tuple #[]) ∧ Below p w w' ∧ w'.heap[p]? = some (.cells cs T (0, 0)) ∧
      Bag D w' (⟨22, 1, V, ls.length, ls.map (·.1)⟩ :: (irows ls.length ls ++ rs)) [] := by
  have HB := Hid.of hb
  have HBk := Hid.of hB
  have H2 := Hid.of h2
  have HNN := Hid.of hn
  obtain ⟨Va, Vc, hVe, _⟩ := own_one (hb.own _ (List.mem_cons_self ..))
  simp only at hVe
  subst hVe
  have hpl : p < w.heap.size := by omega
  clear hb hB h2 hn
  go_enter Try.func37, Try.ntmps37
  go_wp2
  go_loopw [2] (fun i wr => ∃ j : Nat, j ≤ ls.length ∧ i = .int .i64 j ∧ Hid (wr.heap[p]? = some (.cells cs T (0, 0))) ∧ Hid (Below p w wr) ∧ Hid (Bag D wr (⟨22, 1, .slice Va ls.length Vc, ls.length, ls.map (·.1)⟩ :: (irows j ls ++ rs)) [])) (fun i _ => ls.length - (RowKit.intOf i).toNat)
  case atStart => exact ⟨0, Nat.zero_le _, rfl, HBk, Hid.of (Below.refl _ _), HB⟩
  case round =>
    obtain ⟨j, hj, rfl, PB, Bw, BB⟩ := hrel
    have c2 : wr.cell? ⟨p, 2, none⟩ = some (.slice Va ls.length Vc) := by rw [cell_of_row wr p 2 _ _ _ PB.out]; exact H2.out
    have i0 : (0 : Int) ≤ (j : Int) := Int.natCast_nonneg _
    by_cases hlt : j < ls.length
    · have i1 : (j : Int) < (ls.length : Int) := by omega
      have hVr := own_row (BB.out.own _ (List.mem_cons_self ..))
      obtain ⟨bV, oV, rfl, hlV, hcV⟩ := hVr.at j ls[j].1 (by simp [hlt])
      have hat := irows_at j ls hlt
      have F0 := BB.out.front hat
      have hx := HNN.out ls[j] (List.getElem_mem hlt)
      have hset := irows_succ j ls hlt
      have hmj : (ls.map (·.1))[j]? = some ls[j].1 := by simp [hlt]
      generalize hxx : ls[j] = x at *
      obtain ⟨v, xs⟩ := x
      simp only [itodo] at hcV hx F0 hset hmj
      obtain ⟨va, vc, hve, _⟩ := own_one (F0.own _ (List.mem_cons_self ..))
      simp only at hve
      subst hve
      have FF := Hid.of F0
      have HS := Hid.of hset
      obtain ⟨n, hnn⟩ : ∃ n, xs.length = n := ⟨_, rfl⟩
      rw [hnn] at hcV hx FF hmj
      have HMJ := Hid.of hmj
      have HCV := Hid.of hcV
      have HLN := Hid.of hnn
      have hDr : D ≤ wr.heap.size := by have := Bw.out.size; omega
      clear F0 hat hset hxx hVr hnn hmj
      go_wp2_with (go_at_call 74; refine (markInts_any j 0 n (by omega) (by omega) hx _).mono ?_; rintro e' n3 ⟨mv, rfl, om, c3⟩; obtain ⟨ma, mc, hme, _⟩ := own_one om; subst hme; have OM := Hid.of om; have C3 := Hid.of c3; clear om c3)
      have N1 := (FF.out.new C3.out OM.out hDr).perm (List.Perm.swap _ _ _)
      obtain ⟨M, hM⟩ : ∃ M, (imarks j 0 n).map (Value.int .i64) = M := ⟨_, rfl⟩
      have hMl : M.length = xs.length := by rw [← hM, List.length_map, imarks_length, HLN.out]
      have hMi : ∀ k, k < n → ∃ y, M[k]? = some (.int .i64 y) := by
        intro k hk
        rw [← hM]
        refine ⟨(imarks j 0 n)[k]'(by rw [imarks_length]; exact hk), ?_⟩
        rw [List.getElem?_map, List.getElem?_eq_getElem (by rw [imarks_length]; exact hk)]
        rfl
      rw [hM] at N1
      have HM := Hid.of hM
      have HML := Hid.of hMl
      have HMI := Hid.of hMi
      obtain ⟨rest, hrest⟩ : ∃ rest, (irows j ls).take j ++ (irows j ls).drop (j + 1) ++ rs = rest := ⟨_, rfl⟩
      rw [hrest] at N1
      have HR := Hid.of hrest
      have NN : Hid (Bag D n3 (⟨3, 1, .slice va n vc, n, part M xs 0⟩ :: ⟨3, 1, .slice ma n mc, n, M⟩ :: ⟨22, 1, .slice (some ⟨bV, oV, none⟩) ls.length Vc, ls.length, ls.map (·.1)⟩ :: rest) []) := Hid.of (by rw [part_zero]; exact N1)
      have PN := Hid.of (block_kept PB.out hp (grown_of_below C3.out) (fun g hg => by cases hg))
      have BN : Hid (Below p w n3) := Hid.of (Bw.out.trans (C3.out.mono (by omega)))
      clear N1 hM hMl hMi hrest hcV c2 OM C3 FF BB
      go_loopw [4] (fun k wi => ∃ kk : Nat, kk ≤ n ∧ k = .int .i64 kk ∧ Hid (wi.heap[p]? = some (.cells cs T (0, 0))) ∧ Hid (Below p w wi) ∧
        Hid (Bag D wi (⟨3, 1, .slice va n vc, n, part M xs kk⟩ :: ⟨3, 1, .slice ma n mc, n, M⟩ :: ⟨22, 1, .slice (some ⟨bV, oV, none⟩) ls.length Vc, ls.length, ls.map (·.1)⟩ :: rest) [])) (fun k _ => n - (RowKit.intOf k).toNat)
      case atStart => exact ⟨0, Nat.zero_le _, rfl, PN, BN, NN⟩
      case round =>
        obtain ⟨k, hk, rfl, PK, BK, BB⟩ := hrel
        have c2 : wr.cell? ⟨p, 2, none⟩ = some (.slice (some ⟨bV, oV, none⟩) ls.length Vc) := by rw [cell_of_row wr p 2 _ _ _ PK.out]; exact H2.out
        by_cases hkn : k < n
        · obtain ⟨y, hy⟩ := HMI.out k hkn
          have oR := BB.out.own _ (List.mem_cons_self ..)
          have cM := own_row (BB.out.own _ (List.mem_cons_of_mem _ (List.mem_cons_self ..)))
          have cV := own_row (BB.out.own _ (List.mem_cons_of_mem _ (List.mem_cons_of_mem _ (List.mem_cons_self ..))))
          simp only at oR cM cV
          obtain ⟨bm, om, rfl, hlm, hcm⟩ := cM.at k _ hy
          obtain ⟨bW, oW, hW, hlW, hcW⟩ := cV.at j (.slice va n vc) HMJ.out
          simp only [Option.some.injEq, Addr.mk.injEq, and_true] at hW
          obtain ⟨rfl, rfl⟩ := hW
          obtain ⟨g, hg⟩ : ∃ g, va = some ⟨g, 0, none⟩ := by
            rcases oR.2 with ⟨h, h'⟩ | ⟨g, cap, cur, h, _⟩
            · omega
            · simp only [Value.slice.injEq] at h
              exact ⟨g, h.1⟩
          subst hg
          have hct := oR.cellAt k (by omega)
          have hfz := oR.frozenAt k
          obtain ⟨u, hu⟩ : ∃ u, (part M xs k)[k]? = some u := ⟨_, List.getElem?_eq_getElem (by rw [oR.1]; omega)⟩
          rw [hu] at hct
          have k0 : (0 : Int) ≤ (k : Int) := Int.natCast_nonneg _
          have k1 : (k : Int) < (n : Int) := by omega
          have OR := Hid.of oR
          have HY := Hid.of hy
          clear oR cM cV hu hy hlm hlW
          go_wp2
          go_region_law (fail)
          all_goals
            go_wp2
            go_roundw
            case rel =>
              obtain ⟨s1, s2⟩ := OR.out.stored k (.int .i64 y)
              rw [part_set M xs k _ HY.out HML.out] at s1
              have B1 := BB.out.grow s2 s1 (.inl rfl)
              refine ⟨k + 1, by omega, by go_num, Hid.of ?_, Hid.of ?_, Hid.of (B1.below ((Below.refl _ _).drew))⟩
              · exact block_kept PK.out hp (grownBy_drew s2) (fun g' hg' => by have := OR.out.lt g' (by simpa [Value.ownBlock] using hg'); omega)
              · exact (BK.out.grown s2 (by have := BK.out.size; omega) (fun g' hg' => by have := OR.out.lt g' (by simpa [Value.ownBlock] using hg'); omega)).drew
            case measure => simp [RowKit.intOf]; omega
        · have : k = n := by omega
          subst this
          go_wp2
          have hkx := HLN.out
          subst hkx
          have B1 := (BB.out.perm (List.Perm.swap _ _ _)).drop
          rw [part_all M xs HML.out, ← HM.out, ← HR.out] at B1
          have B2 := B1.back (by rw [irows_length]; exact hlt)
          have B3 : Bag D wr (⟨22, 1, .slice (some ⟨bV, oV, none⟩) ls.length Vc, ls.length, ls.map (·.1)⟩ :: (irows (j + 1) ls ++ rs)) [] := by
            have h := HS.out
            unfold idone at h
            rw [← h]
            exact B2
          exact ⟨⟨j + 1, by omega, by go_num, PK, BK, Hid.of B3⟩, by simp [RowKit.intOf]; omega⟩
    · go_wp2
      go_end0
      have : j = ls.length := by omega
      subst this
      exact ⟨rfl, Bw.out, PB.out, BB.out⟩

end Go.Proofs.Ytcjfejhfafiaiaa
