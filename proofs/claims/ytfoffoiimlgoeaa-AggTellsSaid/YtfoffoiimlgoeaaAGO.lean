/-
  What statement AggTells answers: true, for every input.
-/
import Derived.Test.YtfoffoiimlgoeaaAGD
namespace Go.Proofs.Ytfoffoiimlgoeaa
open Go.RowKit Go.Lib

theorem refOf_step {xs : List Int} (hl : Ints xs) (j : Nat) (hj : j < xs.length) : agRef (agOf (xs.take j)) (agOne (xs.getD j 0)) = agOf (xs.take (j + 1)) := by
  rw [agRef_join (agOf_good (ints_take hl j)), agOf_take xs j hj]

set_option maxRecDepth 100000 in
set_option maxHeartbeats 3200000 in
theorem tells_main (v u : Value) (xs : List Int) (l : List Ag) (b : ByteArray) (h1 : xs.length ≤ 60) (h2 : l.length ≤ 60) (h3 : b.size ≤ 300) (w : World) (hv : NumRow .i64 w v xs) (hu : AgRow w u l) (hl : Ints xs) (hm : ∀ x ∈ l, AgIn x) :
    Calls Try.prog 3 #[v, u, .string b] w fun e w' => e = .returned (.bool true) ∧ Below w.heap.size w w' := by
  have NV := Hid.of hv
  have NU := Hid.of hu
  obtain ⟨sa, cp, rfl, hv⟩ := hv
  obtain ⟨sb, cq, rfl, hu⟩ := hu
  have HV := Hid.of hv
  have HU := Hid.of hu
  have HL := Hid.of hl
  have HM := Hid.of hm
  clear hv hu hl hm
  go_enter Try.func3, Try.ntmps3
  go_wp2
  go_loopw [8] (fun i wr => ∃ j : Nat, j ≤ xs.length ∧ i = .int .i64 j ∧ Below w.heap.size w wr ∧ Hid (AgBlk wr w.heap.size (agOf (xs.take j)))) (fun i _ => xs.length - (RowKit.intOf i).toNat)
  case atStart => exact ⟨0, Nat.zero_le _, rfl, (Below.refl _ _).alloc (Nat.le_refl _) _, Hid.of (AgBlk.new w agZero)⟩
  case round =>
    obtain ⟨j, hj, rfl, hb, k0⟩ := hrel
    by_cases hlt : j < xs.length
    · have hne : xs ≠ [] := by intro e; subst e; simp at hlt
      obtain ⟨vb, vo, rfl, hvb, hcs⟩ := (HV.out).resolve_left hne
      obtain ⟨x, hxx⟩ : ∃ x, xs.getD j 0 = x := ⟨_, rfl⟩
      have hcell : wr.cell? ⟨vb, vo + j, none⟩ = some (.int .i64 x) := by rw [hb.cell hvb, hcs j hlt, hxx]
      have HT := Hid.of (refOf_step HL.out j hlt)
      rw [hxx] at HT
      have IX : Hid (IsInt x) := Hid.of (by rw [← hxx]; exact ints_get HL.out j hlt)
      have IS : Hid (AgIn (agOf (xs.take j))) := Hid.of (agOf_good (ints_take HL.out j)).1
      obtain ⟨s, hs⟩ : ∃ s, agOf (xs.take j) = s := ⟨_, rfl⟩
      rw [hs] at HT IS k0
      obtain ⟨y, hy⟩ : ∃ y, agOf (xs.take (j + 1)) = y := ⟨_, rfl⟩
      rw [hy] at HT
      have HY := Hid.of hy
      obtain ⟨q0, q1, q2, q3, q4⟩ := k0.out.at
      have i0 : (0 : Int) ≤ (j : Int) := Int.natCast_nonneg _
      have i1 : (j : Int) < (xs.length : Int) := by omega
      have ltr := k0.out.lt
      clear hcs hne hxx hs hy
      go_wp2
      refine wp_region_noPanic ?_
      go_region_with (first
        | (go_at_call 12; refine (refOne_any x _).mono ?_; rintro e w2 ⟨rfl, b2⟩; have c2 := (Below.refl wr.heap.size wr).drew.trans b2; have k2 := Hid.of (k0.out.kept c2); have B2 := Hid.of (hb.trans (c2.mono hb.size)); have lt2 := k2.out.lt; clear b2 c2 q0 q1 q2 q3 q4; obtain ⟨q0, q1, q2, q3, q4⟩ := k2.out.at)
        | (go_at_call 11; refine (refMerge_named s (agOne x) y IS.out (agOne_good IX.out.1 IX.out.2).1 HT.out _).mono ?_; rintro e w3 ⟨rfl, b3⟩; have k3 := Hid.of (k2.out.kept b3); have B3 := Hid.of (B2.out.trans (b3.mono B2.out.size)); have fz := k3.out.frozen; have lt3 := k3.out.lt; clear b3 q0 q1 q2 q3 q4; obtain ⟨q0, q1, q2, q3, q4⟩ := k3.out.at))
      all_goals
        refine NoPanic.normal ?_
        go_wp2
        go_roundw
        case rel => exact ⟨j + 1, by omega, by go_num, below_set5 B3.out (by omega) y, Hid.of (by rw [HY.out]; exact k3.out.set _)⟩
        case measure => simp [RowKit.intOf]; omega
    · have hjl : j = xs.length := by omega
      subst hjl
      rw [List.take_length] at k0
      obtain ⟨s, hs⟩ : ∃ s, agOf xs = s := ⟨_, rfl⟩
      obtain ⟨x, hx⟩ : ∃ x, agAll agZero l = x := ⟨_, rfl⟩
      have gs := agOf_good HL.out
      have gx := agAll_good agZero_good HM.out
      rw [hs] at k0 gs
      rw [hx] at gx
      obtain ⟨y, hy⟩ : ∃ y, agRef x s = y := ⟨_, rfl⟩
      have hy2 : agAll agZero [x, agOf xs] = y := by rw [hs, agAll_pair gx, ← agRef_join gx, hy]
      have HS := Hid.of hs
      have HX := Hid.of hx
      have GS := Hid.of gs
      have GX := Hid.of gx
      have HY := Hid.of hy
      have HY2 := Hid.of hy2
      clear hs hx gs gx hy hy2
      have ltr := k0.out.lt
      go_wp2_with fail
      refine (LentInts_any _ xs _ (NV.out.kept hb) (by omega)).mono ?_
      rintro e w2 ⟨m, rfl, hm2, b2⟩
      have k2 := Hid.of (k0.out.kept b2)
      have B2 := Hid.of (hb.trans (b2.mono hb.size))
      have M2 := Hid.of hm2
      obtain ⟨g, gc, rfl, _⟩ := hm2
      clear b2 k0 hb
      go_wp2_with fail
      refine (all_row _ l x HX.out _ (NU.out.kept B2.out) HM.out (by omega)).mono ?_
      rintro e w3 ⟨rfl, b3⟩
      have k3 := Hid.of ((k2.out.kept b3).alloc (.cells (agCells x) 27))
      have x3 := Hid.of (AgBlk.new w3 x)
      have B3' := Hid.of (B2.out.trans (b3.mono B2.out.size))
      have B3 := Hid.of (B3'.out.alloc B3'.out.size (.cells (agCells x) 27))
      have M3 := Hid.of ((M2.out.kept b3).kept ((Below.refl w3.heap.size w3).alloc (Nat.le_refl _) (.cells (agCells x) 27)))
      clear b3 k2 B3' M2
      simp only [agv]
      go_wp2
      obtain ⟨q0, q1, q2, q3, q4⟩ := k3.out.at
      obtain ⟨p0, p1, p2, p3, p4⟩ := x3.out.at
      go_region_held3 (fun w' => w'.cell? ⟨w.heap.size, 0, none⟩ = some (.int .i64 s.c) ∧ w'.cell? ⟨w.heap.size, 1, none⟩ = some (.int .i64 s.hi) ∧ w'.cell? ⟨w.heap.size, 2, none⟩ = some (.int .u64 s.lo) ∧ w'.cell? ⟨w.heap.size, 3, none⟩ = some (.int .i64 s.mn) ∧ w'.cell? ⟨w.heap.size, 4, none⟩ = some (.int .i64 s.mx) ∧ w'.cell? ⟨w3.heap.size, 0, none⟩ = some (.int .i64 x.c) ∧ w'.cell? ⟨w3.heap.size, 1, none⟩ = some (.int .i64 x.hi) ∧ w'.cell? ⟨w3.heap.size, 2, none⟩ = some (.int .u64 x.lo) ∧ w'.cell? ⟨w3.heap.size, 3, none⟩ = some (.int .i64 x.mn) ∧ w'.cell? ⟨w3.heap.size, 4, none⟩ = some (.int .i64 x.mx)) (go_keep) (first | (go_at_call 15; refine (Of_row _ xs s HS.out _ (M3.out.row.ints.kept (Below.refl _ _).drew) HL.out (by omega)).mono ?_; rintro e w4 ⟨rfl, b4⟩; have B4 := Hid.of (B3.out.drew.trans (b4.mono B3.out.drew.size)); have k4 := Hid.of (k3.out.kept ((Below.refl _ _).drew.trans b4)); have x4 := Hid.of (x3.out.kept ((Below.refl _ _).drew.trans b4)); have M4 := Hid.of (M3.out.kept ((Below.refl _ _).drew.trans b4)); clear b4 q0 q1 q2 q3 q4 p0 p1 p2 p3 p4; obtain ⟨q0, q1, q2, q3, q4⟩ := k4.out.at; obtain ⟨p0, p1, p2, p3, p4⟩ := x4.out.at) | (go_at_call 16; refine (Merge_row _ l x HX.out _ (NU.out.kept B4.out) HM.out (by omega)).mono ?_; rintro e w5 ⟨rfl, b5⟩; have B5 := Hid.of (B4.out.trans (b5.mono B4.out.size)); have k5 := Hid.of (k4.out.kept b5); have x5 := Hid.of (x4.out.kept b5); have M5 := Hid.of (M4.out.kept b5); clear b5 q0 q1 q2 q3 q4 p0 p1 p2 p3 p4; obtain ⟨q0, q1, q2, q3, q4⟩ := k5.out.at; obtain ⟨p0, p1, p2, p3, p4⟩ := x5.out.at) | (go_at_call 17; refine (Add_row x y GX.out.1 _ xs HY2.out _ M5.out.row.ints HL.out (by omega)).mono ?_; rintro e w6 ⟨rfl, b6⟩; have B6 := Hid.of (B5.out.trans (b6.mono B5.out.size)); have k6 := Hid.of (k5.out.kept b6); have x6 := Hid.of (x5.out.kept b6); have M6 := Hid.of (M5.out.kept b6); clear b6 q0 q1 q2 q3 q4 p0 p1 p2 p3 p4; obtain ⟨q0, q1, q2, q3, q4⟩ := k6.out.at; obtain ⟨p0, p1, p2, p3, p4⟩ := x6.out.at) | (go_at_call 11; refine (refMerge_named x s y GX.out.1 GS.out.1 HY.out _).mono ?_; rintro e w7 ⟨rfl, b7⟩; have B7 := Hid.of (B6.out.trans (b7.mono B6.out.size)); have k7 := Hid.of (k6.out.kept b7); have x7 := Hid.of (x6.out.kept b7); have M7 := Hid.of (M6.out.kept b7); clear b7 q0 q1 q2 q3 q4 p0 p1 p2 p3 p4; obtain ⟨q0, q1, q2, q3, q4⟩ := k7.out.at; obtain ⟨p0, p1, p2, p3, p4⟩ := x7.out.at) | (go_at_call 18; refine (StaysInts_any _ _ _ xs _ M7.out (NV.out.kept B7.out).cells' (by omega)).mono ?_; rintro e w8 ⟨rfl, b8⟩; have B8 := Hid.of (B7.out.trans (b8.mono B7.out.size)); have k8 := Hid.of (k7.out.kept b8); have x8 := Hid.of (x7.out.kept b8); have M8 := Hid.of (M7.out.kept b8); clear b8 q0 q1 q2 q3 q4 p0 p1 p2 p3 p4; obtain ⟨q0, q1, q2, q3, q4⟩ := k8.out.at; obtain ⟨p0, p1, p2, p3, p4⟩ := x8.out.at))
      all_goals
        clear q0 q1 q2 q3 q4 p0 p1 p2 p3 p4 k3 k4 k5 k6 k7 k8 x3 x4 x5 x6 x7 x8 M3 M4 M5 M6 M7 M8 B2 B3 B4 B5 B6 B7
        go_wp2
        go_loopw [11] (fun i wr => ∃ j : Nat, j ≤ l.length ∧ i = .int .i64 j ∧ Below w.heap.size w wr) (fun i _ => l.length - (RowKit.intOf i).toNat)
        case atStart => exact ⟨0, Nat.zero_le _, rfl, B8.out⟩
        case round =>
          obtain ⟨j, hj, rfl, hb⟩ := hrel
          by_cases hlt : j < l.length
          · have hne : l ≠ [] := by intro e; subst e; simp at hlt
            obtain ⟨vb, vo, rfl, hvb, hcs⟩ := (HU.out).resolve_left hne
            obtain ⟨z, hzz⟩ : ∃ z, l.getD j agZero = z := ⟨_, rfl⟩
            have AZ : Hid (AgAt w vb (vo + j * 5) z) := Hid.of (by rw [← hzz]; exact hcs j hlt)
            have IZ : Hid (AgIn z) := Hid.of (by rw [← hzz]; simp only [List.getD, List.getElem?_eq_getElem hlt, Option.getD_some]; exact HM.out _ (List.getElem_mem hlt))
            obtain ⟨t, e, p1, p2⟩ := Put_two z IZ.out
            obtain ⟨f, hf⟩ : ∃ f, agOk z = f := ⟨_, rfl⟩
            obtain ⟨vv, hvv⟩ : ∃ v, agVal z = v := ⟨_, rfl⟩
            obtain ⟨gg, hgg⟩ : ∃ g, agFits z = g := ⟨_, rfl⟩
            obtain ⟨mm, hmm⟩ : ∃ m, agMean z = m := ⟨_, rfl⟩
            have ht : (t.toList == t.toList) = true := beq_self_eq_true _
            have P1 := Hid.of p1
            have P2 := Hid.of p2
            have HF := Hid.of hf
            have HVV := Hid.of hvv
            have HGG := Hid.of hgg
            have HMM := Hid.of hmm
            have C0 := Hid.of hb
            have i0 : (0 : Int) ≤ (j : Int) := Int.natCast_nonneg _
            have i1 : (j : Int) < (l.length : Int) := by omega
            obtain ⟨q0, q1, q2, q3, q4⟩ := AZ.out.kept C0.out hvb
            clear hcs hne hzz p1 p2 hf hvv hgg hmm hb
            go_wp2_with fail
            refine (P1.out _).mono ?_
            rintro e' n1 ⟨rfl, c1⟩
            have C1 := Hid.of (C0.out.trans (c1.mono C0.out.size))
            clear c1 q0 q1 q2 q3 q4
            obtain ⟨q0, q1, q2, q3, q4⟩ := AZ.out.kept C1.out hvb
            go_wp2_with fail
            refine (P2.out _).mono ?_
            rintro e' n2 ⟨rfl, c2⟩
            have C2 := Hid.of (C1.out.trans (c2.mono C1.out.size))
            clear c2 q0 q1 q2 q3 q4
            obtain ⟨q0, q1, q2, q3, q4⟩ := AZ.out.kept C2.out hvb
            go_wp2
            go_region_held3 (fun w' => w'.cell? ⟨vb, vo + j * 5, none⟩ = some (.int .i64 z.c) ∧ w'.cell? ⟨vb, vo + j * 5 + 1, none⟩ = some (.int .i64 z.hi) ∧ w'.cell? ⟨vb, vo + j * 5 + 2, none⟩ = some (.int .u64 z.lo) ∧ w'.cell? ⟨vb, vo + j * 5 + 3, none⟩ = some (.int .i64 z.mn) ∧ w'.cell? ⟨vb, vo + j * 5 + 4, none⟩ = some (.int .i64 z.mx)) (go_keep) (first | (go_at_call 21; refine (Valid_named z f HF.out _).mono ?_; rintro e' n3 ⟨rfl, c3⟩; have C3 := Hid.of (C2.out.drew.trans (c3.mono C2.out.drew.size)); clear c3 q0 q1 q2 q3 q4; obtain ⟨q0, q1, q2, q3, q4⟩ := AZ.out.kept C3.out hvb) | (go_at_call 22; refine (refValid_named z f HF.out _).mono ?_; rintro e' n4 ⟨rfl, c4⟩; have C4 := Hid.of (C3.out.trans (c4.mono C3.out.size)); clear c4 q0 q1 q2 q3 q4; obtain ⟨q0, q1, q2, q3, q4⟩ := AZ.out.kept C4.out hvb))
            all_goals
              go_wp2_with fail
              refine (refValid_named z f HF.out _).mono ?_
              rintro e' n5 ⟨rfl, c5⟩
              have C5 := Hid.of (C4.out.trans (c5.mono C4.out.size))
              clear c5 q0 q1 q2 q3 q4
              obtain ⟨q0, q1, q2, q3, q4⟩ := AZ.out.kept C5.out hvb
              cases f
              case' true =>
                go_wp2_with fail
                refine (Sum_named z vv gg HVV.out HGG.out _).mono ?_
                rintro e' n6 ⟨rfl, c6⟩
                have C6 := Hid.of (C5.out.trans (c6.mono C5.out.size))
                clear c6 q0 q1 q2 q3 q4
                obtain ⟨q0, q1, q2, q3, q4⟩ := AZ.out.kept C6.out hvb
                go_wp2_with fail
                refine (refValue_named z IZ.out vv gg HVV.out HGG.out _).mono ?_
                rintro e' n7 ⟨rfl, c7⟩
                have C7 := Hid.of (C6.out.trans (c7.mono C6.out.size))
                clear c7 q0 q1 q2 q3 q4
                obtain ⟨q0, q1, q2, q3, q4⟩ := AZ.out.kept C7.out hvb
                clear C0 C1 C2 C3 C4 C5 C6
                have CC := C7
                clear C7
              case' false =>
                clear C0 C1 C2 C3 C4
                have CC := C5
                clear C5
              all_goals
                have C8 := CC
                clear CC
                go_wp2
                go_region_held3 (fun w' => w'.cell? ⟨vb, vo + j * 5, none⟩ = some (.int .i64 z.c) ∧ w'.cell? ⟨vb, vo + j * 5 + 1, none⟩ = some (.int .i64 z.hi) ∧ w'.cell? ⟨vb, vo + j * 5 + 2, none⟩ = some (.int .u64 z.lo) ∧ w'.cell? ⟨vb, vo + j * 5 + 3, none⟩ = some (.int .i64 z.mn) ∧ w'.cell? ⟨vb, vo + j * 5 + 4, none⟩ = some (.int .i64 z.mx)) (go_keep) (first | (go_at_call 25; refine (aggMean_named z mm HMM.out _).mono ?_; rintro e' n9 ⟨rfl, c9⟩; have C9 := Hid.of (C8.out.drew.trans (c9.mono C8.out.drew.size)); clear c9 q0 q1 q2 q3 q4; obtain ⟨q0, q1, q2, q3, q4⟩ := AZ.out.kept C9.out hvb) | (go_at_call 26; refine (refMean_named z IZ.out mm HMM.out _).mono ?_; rintro e' n10 ⟨rfl, c10⟩; have C10 := Hid.of (C9.out.trans (c10.mono C9.out.size)); clear c10 q0 q1 q2 q3 q4; obtain ⟨q0, q1, q2, q3, q4⟩ := AZ.out.kept C10.out hvb))
                all_goals
                  go_wp2
                  go_roundw
                  case rel => exact ⟨j + 1, by omega, by go_num, C10.out⟩
                  case measure => simp [RowKit.intOf]; omega
          · obtain ⟨r, k, r1, r2⟩ := Get_two b
            have R1 := Hid.of r1
            have R2 := Hid.of r2
            have C0 := Hid.of hb
            clear r1 r2 hb
            go_wp2_with fail
            refine (R1.out _).mono ?_
            rintro e' n1 ⟨rfl, c1⟩
            have C1' := Hid.of (C0.out.trans (c1.mono C0.out.size))
            have C1 := Hid.of (C1'.out.alloc C1'.out.size (.cells (agCells r) 27))
            have k1 := Hid.of (AgBlk.new n1 r)
            clear c1 C1'
            simp only [agv]
            go_wp2_with fail
            refine (R2.out _).mono ?_
            rintro e' n2 ⟨rfl, c2⟩
            have C2' := Hid.of (C1.out.trans (c2.mono C1.out.size))
            have C2 := Hid.of (C2'.out.alloc C2'.out.size (.cells (agCells r) 27))
            have k2 := Hid.of ((k1.out.kept c2).alloc (.cells (agCells r) 27))
            have l2 := Hid.of (AgBlk.new n2 r)
            clear c2 C2'
            simp only [agv]
            go_wp2_with fail
            refine (aggAlive_any _).mono ?_
            rintro e' n3 ⟨rfl, c3⟩
            have C3 := Hid.of (C2.out.trans (c3.mono C2.out.size))
            have k3 := Hid.of (k2.out.kept c3)
            have l3 := Hid.of (l2.out.kept c3)
            clear c3
            obtain ⟨q0, q1, q2, q3, q4⟩ := k3.out.at
            obtain ⟨p0, p1, p2, p3, p4⟩ := l3.out.at
            go_wp2
            go_ret
            exact ⟨rfl, C3.out⟩

theorem tells_any (v u : Value) (xs : List Int) (l : List Ag) (b : ByteArray) (w : World) (hv : NumRow .i64 w v xs) (hu : AgRow w u l) (hl : Ints xs) (hm : ∀ x ∈ l, AgIn x) :
    Calls Try.prog 3 #[v, u, .string b] w fun e w' => e = .returned (.bool true) ∧ Below w.heap.size w w' := by
  by_cases h : 60 < xs.length ∨ 60 < l.length ∨ 300 < b.size
  · exact tells_light v u xs l b h w hv hu
  · exact tells_main v u xs l b (by omega) (by omega) (by omega) w hv hu hl hm

end Go.Proofs.Ytfoffoiimlgoeaa
