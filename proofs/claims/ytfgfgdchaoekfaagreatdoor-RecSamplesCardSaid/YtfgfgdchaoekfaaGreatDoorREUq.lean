/-
  The document's own Get of samples (sedimentref10).
-/
import Derived.Test.YtfgfgdchaoekfaaGreatDoorRESq
import Derived.Test.YtfgfgdchaoekfaaGreatDoorREGq
namespace Go.Proofs.YtfgfgdchaoekfaaGreatDoor
open Go.RowKit Go.Lib

theorem SmB.thawed {w : World} {b : Nat} {x : SamL} (h : SmB w b x) (i : Nat) : w.frozen? ⟨b, i, none⟩ = false := row_frozen h
theorem SmB.beside {w w' : World} {u b : Nat} {x : SamL} (h : SmB w b x) (g : w.grownBy w' (some u)) (ne : u ≠ b) : SmB w' b x := (g.block b (Array.getElem?_eq_some_iff.1 h).1 (fun c => ne (Option.some.inj c).symm)).trans h
theorem snew_row (w : World) (x : SamL) (t : TypeId) : Cells (w.alloc (.cells #[.string x.1, .int .i64 x.2.1, .int .i64 x.2.2] t)) w.heap.size 0 (flat aenc [x]) := by
  rw [flat_one]
  exact new_cells w _ t
theorem sm_info : (Tryz.prog.info? 107).map (fun i => (i.zero, i.size, i.bytes)) = some (some (.agg #[.string ⟨#[]⟩, .int .i64 0, .int .i64 0]), 3, 32) := by kernel_rfl
theorem smRead_fit (b : List UInt8) : SmIn (smRead b) := by
  refine ⟨?_, wrap64_bounds _, wrap64_bounds _⟩
  have := nmText_len (b.take 16)
  show (nmText (b.take 16)).size ≤ maxLen
  unfold maxLen
  omega
/-- What is got of the first parts. -/
def smUp (s : ByteArray) (j : Nat) : List SamL := (List.range j).map fun t => smRead (chk 32 s.data.toList t)
theorem smUp_succ (s : ByteArray) (j : Nat) : smUp s (j + 1) = smUp s j ++ [smRead (chk 32 s.data.toList j)] := by
  unfold smUp
  rw [List.range_succ, List.map_append]
  rfl
theorem smUp_len (s : ByteArray) (j : Nat) : (smUp s j).length = j := by unfold smUp; rw [List.length_map, List.length_range]

set_option maxRecDepth 20000 in
set_option maxHeartbeats 3200000 in
theorem refGetSams_any (s : ByteArray) (hs : s.size ≤ 100000) (w : World) :
    Calls Tryz.prog 23 #[.string s] w fun e w' => ∃ u, e = .returned (.tuple #[u, .int .i64 (smGet s).2]) ∧ w'.ownsRow w.heap.size 107 3 u (smGet s).1.length (flat aenc (smGet s).1) ∧ Below w.heap.size w w' := by
  obtain ⟨g1, hg1⟩ : ∃ t, (smGet s).1 = t := ⟨_, rfl⟩
  obtain ⟨g2, hg2⟩ : ∃ t, (smGet s).2 = t := ⟨_, rfl⟩
  rw [hg1, hg2]
  have G1 := Hid.of hg1
  have G2 := Hid.of hg2
  clear hg1 hg2
  have S9 : (s.size : Int) ≤ 100000 := by omega
  obtain ⟨i0, hi0, hz0, hz1, hz2⟩ := info_parts sm_info
  have HI := Hid.of hi0
  have HZ0 := Hid.of hz0
  have HZ1 := Hid.of hz1
  have HZ2 := Hid.of hz2
  clear hi0 hz0 hz1 hz2
  by_cases hm : s.size % 32 = 0
  · obtain ⟨K, hK⟩ : ∃ K, s.size = 32 * K := ⟨s.size / 32, by omega⟩
    have HK := Hid.of hK
    have hr : ((s.size : Int).tmod 32) = 0 := by
      rw [Int.tmod_eq_emod_of_nonneg (by omega)]
      omega
    have hsz : (s.size : Int) = 32 * (K : Int) := by omega
    have BADG : Hid (∀ j, j < K → smGood (chk 32 s.data.toList j) = false → g1 = [] ∧ g2 = 6) := Hid.of (fun j hj hb => by
      have e : smGet s = ([], 6) := by
        unfold smGet
        rw [if_neg (by omega), if_neg]
        intro c
        have h := List.all_eq_true.1 c j (List.mem_range.2 (by have := HK.out; omega))
        rw [hb] at h
        cases h
      rw [← G1.out, ← G2.out, e]
      exact ⟨rfl, rfl⟩)
    clear hK
    go_enter Tryz.func23, Tryz.ntmps23
    go_upto_region 5 with fail
    clear hr
    go_loopg [4, 5, 6, 7] K (fun kx lv iv uv rv wr => ∃ (j : Nat) (lw : Value), lv = lw ∧ iv = .int .i64 (32 * (j : Int)) ∧ j ≤ K ∧ K - j ≤ kx ∧ Hid (∀ t, t < j → smGood (chk 32 s.data.toList t) = true) ∧ Hid (wr.ownsRow w.heap.size 107 3 lw j (flat aenc (smUp s j))) ∧ Hid (Below w.heap.size w wr))
    case atStart => exact ⟨0, _, rfl, by go_num, Nat.zero_le _, Nat.le_refl _, Hid.of (fun t h => absurd h (Nat.not_lt_zero t)), Hid.of (World.ownsRow_nil _ _ _ _), Hid.of (Below.refl _ _)⟩
    case round =>
      obtain ⟨j, lw, rfl, rfl, hjK, hjx, GD, OW, HB⟩ := hrel
      have j0 : (0 : Int) ≤ (j : Int) := Int.natCast_nonneg _
      by_cases hlt : (j : Int) < (K : Int)
      · have hjK2 : j < K := by omega
        have HJK := Hid.of hjK2
        have jz : 32 * (j : Int) + 32 ≤ 32 * (K : Int) := by omega
        obtain ⟨b24, hb24⟩ : ∃ b, s.extract (32 * j) (32 * j + 32) = b := ⟨_, rfl⟩
        have s24 : b24.size = 32 := by rw [← hb24, ByteArray.size_extract]; have := HK.out; omega
        obtain ⟨C, hC⟩ : ∃ C, chk 32 s.data.toList j = C := ⟨_, rfl⟩
        have q0 : b24.data.toList = C := by
          rw [← hb24, ← hC]
          exact extract_list s (32 * j) 32
        obtain ⟨nm, hnm⟩ : ∃ t, nmText (C.take 16) = t := ⟨_, rfl⟩
        obtain ⟨ec, hec⟩ : ∃ t : Int, (if nmOk (C.take 16) = true then 0 else 6) = t := ⟨_, rfl⟩
        have HC := Hid.of hC
        have HNM := Hid.of hnm
        have HEC := Hid.of hec
        have Q0 := Hid.of q0
        have S24 := Hid.of s24
        have H24 := Hid.of hb24
        obtain ⟨u, hu⟩ : ∃ u, wr.heap.size = u := ⟨_, rfl⟩
        obtain ⟨w2, hw2⟩ : ∃ w2, wr.alloc (.cells #[.string b24, .int .i64 0] 82) = w2 := ⟨_, rfl⟩
        have U2 : Hid (RUn u b24 w2) := Hid.of (by rw [← hw2, ← hu]; exact RUn.new wr b24)
        have C2 : Hid (Below wr.heap.size wr w2) := Hid.of (by rw [← hw2]; exact (Below.refl _ _).alloc (Nat.le_refl _) _)
        have HW2 := Hid.of hw2
        have HU := Hid.of hu
        clear hb24 s24 hC q0 hnm hec hu hw2
        go_wp2_with fail
        rw [H24.out, HW2.out, HU.out]
        refine (refUName_any u b24 (by rw [S24.out]; decide) _ U2.out).mono ?_
        rintro e w3 ⟨rfl, u3, g3⟩
        rw [Q0.out, HEC.out] at u3
        rw [Q0.out, HNM.out]
        obtain ⟨r2, hr2⟩ : ∃ r, b24.extract 16 b24.size = r := ⟨_, rfl⟩
        rw [hr2] at u3
        have HR2 := Hid.of hr2
        have U3 := Hid.of u3
        have C3 := Hid.of (C2.out.grown g3 C2.out.size (fun k hk => by have := HU.out; cases hk; omega))
        clear u3 g3 hr2 HW2 U2 C2
        obtain ⟨rb, hrb⟩ : ∃ b, w3.heap.size = b := ⟨_, rfl⟩
        obtain ⟨w4, hw4⟩ : ∃ w4, w3.alloc (.cells #[.string nm, .int .i64 0, .int .i64 0] 107) = w4 := ⟨_, rfl⟩
        have b4 : Below w3.heap.size w3 w4 := by rw [← hw4]; exact (Below.refl _ _).alloc (Nat.le_refl _) _
        have R4 : Hid (SmB w4 rb (nm, 0, 0)) := Hid.of (by rw [← hw4, ← hrb]; exact Go.heap_alloc_new _ _)
        have U4 := Hid.of (U3.out.next b4)
        have C4 := Hid.of (C3.out.trans (b4.mono C3.out.size))
        have NE : Hid (u ≠ rb) := Hid.of (by have h := (Array.getElem?_eq_some_iff.1 U3.out).1; omega)
        have GB : Hid (wr.heap.size ≤ rb) := Hid.of (by have h := C3.out.size; omega)
        have HW4 := Hid.of hw4
        have HRB := Hid.of hrb
        clear hw4 hrb b4 U3 C3
        go_wp2_with fail
        rw [HW4.out, HRB.out]
        clear HW4 HRB
        have hint : ∃ (sv sx : Int) (r3 r4 : ByteArray), Hid (nmOk (C.take 16) = true → sv = wrap64 (val ((C.drop 16).take 8)) ∧ sx = wrap64 (val ((C.drop 24).take 8))) ∧ Hid ((-9223372036854775808 ≤ sv ∧ sv ≤ 9223372036854775807) ∧ -9223372036854775808 ≤ sx ∧ sx ≤ 9223372036854775807) ∧ (∀ W, RUnE u r2 ec W → Calls Tryz.prog 37 #[.pointer (some ⟨u, 0, none⟩)] W fun e w' => e = .returned (.int .i64 sv) ∧ RUnE u r3 ec w' ∧ W.grownBy w' (some u)) ∧ (∀ W, RUnE u r3 ec W → Calls Tryz.prog 37 #[.pointer (some ⟨u, 0, none⟩)] W fun e w' => e = .returned (.int .i64 sx) ∧ RUnE u r4 ec w' ∧ W.grownBy w' (some u)) := by
          by_cases hg : nmOk (C.take 16) = true
          · have he : ec = 0 := by rw [← HEC.out, if_pos hg]
            have h16 : r2.size = 16 := by rw [← HR2.out, ByteArray.size_extract, S24.out]; decide
            have e2 : r2.data.toList = (C.drop 16).take 16 := by
              rw [← HR2.out, S24.out, ← Q0.out]
              exact extract_list b24 16 16
            have e8 : r2.data.toList.take 8 = (C.drop 16).take 8 := by
              rw [e2, List.take_take]
              rfl
            have e9 : (r2.extract 8 r2.size).data.toList.take 8 = (C.drop 24).take 8 := by
              have h := extract_list r2 8 8
              rw [h16, show (16 : Nat) = 8 + 8 from rfl, h, e2, List.take_take, List.drop_take, List.take_take, List.drop_drop]
              rfl
            have z8 : (r2.extract 8 r2.size).size = 8 := by rw [ByteArray.size_extract, h16]; rfl
            refine ⟨wrap64 (val ((C.drop 16).take 8)), wrap64 (val ((C.drop 24).take 8)), r2.extract 8 r2.size, (r2.extract 8 r2.size).extract 8 (r2.extract 8 r2.size).size, Hid.of (fun _ => ⟨rfl, rfl⟩), Hid.of ⟨wrap64_bounds _, wrap64_bounds _⟩, fun W hW => ?_, fun W hW => ?_⟩
            · rw [he] at hW ⊢
              have h := refInt_goodU u r2 (by omega) W hW
              rw [e8] at h
              exact h
            · rw [he] at hW ⊢
              have h := refInt_goodU u (r2.extract 8 r2.size) (by omega) W hW
              rw [e9] at h
              exact h
          · have he : ec = 6 := by rw [← HEC.out, if_neg hg]
            refine ⟨0, 0, r2, r2, Hid.of (fun c => absurd c hg), Hid.of (by decide), fun W hW => ?_, fun W hW => ?_⟩
            all_goals
              rw [he] at hW ⊢
              refine (refInt_bad u r2 6 rfl W hW).mono ?_
              rintro e w' ⟨h1, rfl⟩
              exact ⟨h1, hW, grownBy_refl _ _⟩
        obtain ⟨sv, sx, r3, r4, HSV, SB, hint, hint2⟩ := hint
        refine (hint _ U4.out).mono ?_
        rintro e w5 ⟨rfl, u5, g5⟩
        have U5 := Hid.of u5
        have R5 := Hid.of (R4.out.beside g5 NE.out)
        have C5 := Hid.of (C4.out.grown g5 C4.out.size (fun k hk => by have := HU.out; cases hk; omega))
        have HI2 := Hid.of hint2
        clear u5 g5 hint hint2 U4 R4 C4
        have z1 := R5.out.thawed 1
        obtain ⟨-, y1, -⟩ := R5.out.at
        obtain ⟨w6, hw6⟩ : ∃ w6, w5.setCell ⟨rb, 1, none⟩ (.int .i64 sv) = w6 := ⟨_, rfl⟩
        have g6 : w5.grownBy w6 (some rb) := by rw [← hw6]; exact grownBy_setCell _ _ _ _
        have R6 : Hid (SmB w6 rb (nm, sv, 0)) := Hid.of (by rw [← hw6]; exact rrow_set R5.out)
        have U6 := Hid.of (U5.out.beside g6 NE.out)
        have C6 := Hid.of (C5.out.grown g6 C5.out.size (fun k hk => by have := GB.out; cases hk; omega))
        have HW6 := Hid.of hw6
        clear hw6 g6 U5
        go_wp2_with fail
        rw [HW6.out]
        clear HW6 R5 C5 z1 y1
        refine (HI2.out _ U6.out).mono ?_
        rintro e w7 ⟨rfl, u7, g7⟩
        have U7 := Hid.of u7
        have R7 := Hid.of (R6.out.beside g7 NE.out)
        have C7 := Hid.of (C6.out.grown g7 C6.out.size (fun k hk => by have := HU.out; cases hk; omega))
        clear u7 g7 U6 R6 C6
        have z1 := R7.out.thawed 2
        obtain ⟨-, -, y1⟩ := R7.out.at
        obtain ⟨w9, hw9⟩ : ∃ w9, w7.setCell ⟨rb, 2, none⟩ (.int .i64 sx) = w9 := ⟨_, rfl⟩
        have g9 : w7.grownBy w9 (some rb) := by rw [← hw9]; exact grownBy_setCell _ _ _ _
        have R9 : Hid (SmB w9 rb (nm, sv, sx)) := Hid.of (by rw [← hw9]; exact rrow_set R7.out)
        have U9 := Hid.of (U7.out.beside g9 NE.out)
        have C9 := Hid.of (C7.out.grown g9 C7.out.size (fun k hk => by have := GB.out; cases hk; omega))
        have HW9 := Hid.of hw9
        clear hw9 g9 U7
        go_upto_region 11 with fail
        rw [HW9.out]
        clear HW9 R7 C7 z1 y1
        have B9 := Hid.of (HB.out.trans (C9.out.mono HB.out.size))
        have e1 : w9.cell? ⟨u, 1, none⟩ = some (.int .i64 ec) := by rw [cell_of_row w9 u 1 _ _ _ U9.out]; rfl
        have RD : Hid (nmOk (C.take 16) = true → ((nm, sv, sx) : SamL) = smRead C) := Hid.of (fun hg => by
          unfold smRead
          rw [HNM.out, (HSV.out hg).1, (HSV.out hg).2])
        by_cases he : ec = 0
        · have hg : nmOk (C.take 16) = true := by
            have h := HEC.out
            rw [he] at h
            by_cases c : nmOk (C.take 16) = true
            · exact c
            · rw [if_neg c] at h; cases h
          have HG := Hid.of hg
          clear hg
          subst he
          have RE := Hid.of (RD.out HG.out)
          have FITR : Hid (SmIn ((nm, sv, sx) : SamL)) := Hid.of (by rw [RE.out]; exact smRead_fit C)
          obtain ⟨n0, n1, n2⟩ := R9.out.at
          obtain ⟨ok, hok⟩ : ∃ ok, smOk ((nm, sv, sx) : SamL) = ok := ⟨_, rfl⟩
          have HOK := Hid.of hok
          clear hok
          go_wp2_with fail
          refine (refValidSam_any (nm, sv, sx) FITR.out _).mono ?_
          rintro e w10 ⟨rfl, b10⟩
          rw [HOK.out]
          have GOK : Hid (smGood C = ok) := Hid.of (by unfold smGood; rw [HG.out, Bool.true_and, ← RE.out]; exact HOK.out)
          have R10 := Hid.of (R9.out.next b10)
          have C10 := Hid.of (C9.out.trans (b10.mono C9.out.size))
          have B10 := Hid.of (HB.out.trans (C10.out.mono HB.out.size))
          clear b10 R9 C9 U9 n0 n1 n2 e1
          cases ok
          · obtain ⟨h1, h2⟩ := BADG.out j HJK.out (by rw [HC.out]; exact GOK.out)
            subst h1
            subst h2
            go_wp2
            go_ret2
            exact ⟨.slice none 0 0, rfl, World.ownsRow_nil _ _ _ 3, B10.out⟩
          · have O10 := Hid.of (rown_keeps OW.out C10.out)
            obtain ⟨n0, n1, n2⟩ := R10.out.at
            have jn : j ≤ 4000 := by omega
            go_wp2_with (at_builtin; refine append_keep_law rfl (.tmp 44) (.tmp 46) 52 rfl w.heap.size 107 i0 _ 3 32 Tryz.underlying52 HI.out HZ0.out HZ1.out HZ2.out rfl (by decide) _ j _ rfl (World.ownsRow.alloc O10.out _) w10.heap.size 0 1 1 (flat aenc [((nm, sv, sx) : SamL)]) rfl (snew_row w10 (nm, sv, sx) _) rfl (by intro z hz; exact flat_ones aenc_one _ z hz) (by unfold maxLen; omega) (by omega) (by simp; have := B10.out.size; omega) ?_; intro x4 w11 o4 g4 _ _; have O4 := Hid.of o4; have G4 := Hid.of g4; clear o4 g4)
            clear n0 n1 n2
            have B11 : Hid (Below w.heap.size w w11) := Hid.of (((B10.out).alloc B10.out.size _).grown G4.out (by have := B10.out.size; simp; omega) (fun k hk => own_ge O10.out hk))
            go_roundg (K - (j + 1))
            case measure => have := HJK.out; omega
            case rel =>
              refine ⟨j + 1, x4, rfl, by go_num, HJK.out, Nat.le_refl _, Hid.of (fun t ht => ?_), Hid.of ?_, B11⟩
              · by_cases c : t = j
                · rw [c, HC.out]; exact GOK.out
                · exact GD.out t (by omega)
              · rw [smUp_succ, flat_append, HC.out, ← RE.out]
                exact O4.out
        · have hne : (ec != 0) = true := by simpa using he
          have bad : smGood C = false := by
            unfold smGood
            have c : nmOk (C.take 16) = false := by
              cases hc : nmOk (C.take 16) with
              | false => rfl
              | true =>
                have h := HEC.out
                rw [hc, if_pos rfl] at h
                exact absurd h.symm he
            rw [c, Bool.false_and]
          obtain ⟨h1, h2⟩ := BADG.out j HJK.out (by rw [HC.out]; exact bad)
          subst h1
          subst h2
          clear bad
          go_wp2
          go_ret2
          exact ⟨.slice none 0 0, rfl, World.ownsRow_nil _ _ _ 3, B9.out⟩
      · obtain rfl : K = j := by omega
        have e : smGet s = (smUp s K, 0) := by
          unfold smGet
          rw [if_neg (by omega), show s.size / 32 = K by have := HK.out; omega, if_pos (List.all_eq_true.2 fun t ht => GD.out t (List.mem_range.1 ht))]
          rfl
        obtain rfl : g1 = smUp s K := by rw [← G1.out, e]
        obtain rfl : g2 = 0 := by rw [← G2.out, e]
        clear e
        go_wp2
        go_ret2
        refine ⟨_, rfl, ?_, HB.out⟩
        simp only [smUp_len]
        exact OW.out
  · have hr : ((s.size : Int).tmod 32 != 0) = true := by
      rw [Int.tmod_eq_emod_of_nonneg (by omega), bne_iff_ne]
      omega
    have e : smGet s = ([], 5) := by
      unfold smGet
      rw [if_pos hm]
    obtain rfl : g1 = [] := by rw [← G1.out, e]
    obtain rfl : g2 = 5 := by rw [← G2.out, e]
    clear e
    go_enter Tryz.func23, Tryz.ntmps23
    go_wp2
    go_ret2
    exact ⟨.slice none 0 0, rfl, World.ownsRow_nil _ _ _ 3, Below.refl _ _⟩

end Go.Proofs.YtfgfgdchaoekfaaGreatDoor
