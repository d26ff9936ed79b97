/-
  The document's own Get of records (sedimentref10).
-/
import Derived.Test.YtfgfgdchaoekfaaGreatDoorREOq
import Derived.Test.YtfgfgdchaoekfaaGreatDoorRENq
namespace Go.Proofs.YtfgfgdchaoekfaaGreatDoor
open Go.RowKit Go.Lib

theorem chk_parts (b : ByteArray) (j : Nat) : (b.extract (64 * j) (64 * j + 24)).data.toList.take 16 = (chk 64 b.data.toList j).take 16 ∧ ((b.extract (64 * j) (64 * j + 24)).extract 16 24).data.toList.take 8 = ((chk 64 b.data.toList j).drop 16).take 8 ∧ b.extract (64 * j + 24) (64 * j + 64) = txt (((chk 64 b.data.toList j).drop 24).take 40) := by
  have e1 : (b.extract (64 * j) (64 * j + 24)).data.toList = (b.data.toList.drop (64 * j)).take 24 := extract_list b (64 * j) 24
  refine ⟨?_, ?_, ?_⟩
  · rw [e1]
    unfold chk
    rw [List.take_take, List.take_take]
    rfl
  · have e2 : ((b.extract (64 * j) (64 * j + 24)).extract 16 24).data.toList = ((b.extract (64 * j) (64 * j + 24)).data.toList.drop 16).take 8 := extract_list _ 16 8
    rw [e2, e1]
    unfold chk
    rw [List.drop_take, List.drop_take, List.take_take, List.take_take, List.take_take]
    rfl
  · have e3 : (b.extract (64 * j + 24) (64 * j + 64)).data.toList = (b.data.toList.drop (64 * j + 24)).take 40 := by
      have h := extract_list b (64 * j + 24) 40
      rw [show 64 * j + 24 + 40 = 64 * j + 64 by omega] at h
      exact h
    rw [← txt_of (b.extract (64 * j + 24) (64 * j + 64)), e3]
    unfold chk
    congr 1
    rw [List.drop_take, List.take_take, List.drop_drop]
    rfl

theorem rrow_set {w : World} {q i : Nat} {v : Value} {cs : Array Value} {t : TypeId} (h : w.heap[q]? = some (.cells cs t (0, 0))) : (w.setCell ⟨q, i, none⟩ v).heap[q]? = some (.cells (cs.setIfInBounds i v) t (0, 0)) := row_set h v

/-- An aggregate is put into a record's variable. -/
theorem RcB.agg {w : World} {b : Nat} {x : TRec} (h : RcB w b x) (a : Ag) : RcB (((((w.setCell ⟨b, 2, none⟩ (.int .i64 a.c)).setCell ⟨b, 3, none⟩ (.int .i64 a.hi)).setCell ⟨b, 4, none⟩ (.int .u64 a.lo)).setCell ⟨b, 5, none⟩ (.int .i64 a.mn)).setCell ⟨b, 6, none⟩ (.int .i64 a.mx)) b ⟨x.n, x.s, a⟩ :=
  rrow_set (rrow_set (rrow_set (rrow_set (rrow_set h))))
theorem RcB.thawed {w : World} {b : Nat} {x : TRec} (h : RcB w b x) : w.frozen? ⟨b, 1, none⟩ = false ∧ w.frozen? ⟨b, 2, none⟩ = false ∧ w.frozen? ⟨b, 3, none⟩ = false ∧ w.frozen? ⟨b, 4, none⟩ = false ∧ w.frozen? ⟨b, 5, none⟩ = false ∧ w.frozen? ⟨b, 6, none⟩ = false :=
  ⟨row_frozen h, row_frozen h, row_frozen h, row_frozen h, row_frozen h, row_frozen h⟩

theorem rown_keeps {w w' : World} {D : Nat} {e : TypeId} {sz : Nat} {v : Value} {n : Nat} {xs : List Value} (h : w.ownsRow D e sz v n xs) (b : Below w.heap.size w w') : w'.ownsRow D e sz v n xs :=
  h.kept (⟨b.os, b.tape, b.output, b.size, fun i hi _ => b.block i hi⟩ : w.grownBy w' none) (by
    cases v.ownBlock with
    | none => exact .inl rfl
    | some g => exact .inr (by simp))
theorem rnew_row (w : World) (x : TRec) (t : TypeId) : Cells (w.alloc (.cells #[.string x.n, .int .i64 x.s, .int .i64 x.a.c, .int .i64 x.a.hi, .int .u64 x.a.lo, .int .i64 x.a.mn, .int .i64 x.a.mx] t)) w.heap.size 0 (flat renc ([x].map rl)) := by
  show Cells _ _ _ (flat renc [_])
  rw [flat_one]
  exact new_cells w _ t
theorem RUnE.beside {w w' : World} {u b : Nat} {r : ByteArray} {e : Int} (h : RUnE u r e w) (g : w.grownBy w' (some b)) (ne : u ≠ b) : RUnE u r e w' := (g.block u (Array.getElem?_eq_some_iff.1 h).1 (fun c => ne (Option.some.inj c))).trans h
theorem RUnE.next {w w' : World} {u : Nat} {r : ByteArray} {e : Int} (h : RUnE u r e w) (b : Below w.heap.size w w') : RUnE u r e w' := (b.block u (Array.getElem?_eq_some_iff.1 h).1).trans h
theorem RcB.beside {w w' : World} {u b : Nat} {x : TRec} (h : RcB w b x) (g : w.grownBy w' (some u)) (ne : u ≠ b) : RcB w' b x := (g.block b (Array.getElem?_eq_some_iff.1 h).1 (fun c => ne (Option.some.inj c).symm)).trans h
theorem rset5_grown (w : World) (b : Nat) (a : Ag) : w.grownBy (((((w.setCell ⟨b, 2, none⟩ (.int .i64 a.c)).setCell ⟨b, 3, none⟩ (.int .i64 a.hi)).setCell ⟨b, 4, none⟩ (.int .u64 a.lo)).setCell ⟨b, 5, none⟩ (.int .i64 a.mn)).setCell ⟨b, 6, none⟩ (.int .i64 a.mx)) (some b) :=
  grownBy_trans (grownBy_trans (grownBy_trans (grownBy_trans (grownBy_setCell _ _ _ _) (grownBy_setCell _ _ _ _)) (grownBy_setCell _ _ _ _)) (grownBy_setCell _ _ _ _)) (grownBy_setCell _ _ _ _)

theorem rc_info : (Tryz.prog.info? 50).map (fun i => (i.zero, i.size, i.bytes)) = some (some (.agg #[.string ⟨#[]⟩, .int .i64 0, .int .i64 0, .int .i64 0, .int .u64 0, .int .i64 0, .int .i64 0]), 7, 64) := by kernel_rfl

theorem nmText_len (b : List UInt8) : (nmText b).size ≤ 15 := by
  unfold nmText
  by_cases c : nmOk b = true
  · rw [if_pos c, txt_size, List.length_take]
    unfold nmOk at c
    rw [Bool.and_eq_true, decide_eq_true_eq] at c
    have := c.1
    omega
  · rw [if_neg c]
    decide

theorem rcRead_fit (b : List UInt8) : TFit (rcRead b) := by
  refine ⟨?_, ?_, agRead_in _⟩
  · have := nmText_len (b.take 16)
    show (nmText (b.take 16)).size ≤ maxLen
    unfold maxLen
    omega
  · exact wrap64_bounds _

/-- What is got of the first parts. -/
def rcUp (s : ByteArray) (j : Nat) : List TRec := (List.range j).map fun t => rcRead (chk 64 s.data.toList t)
theorem rcUp_succ (s : ByteArray) (j : Nat) : rcUp s (j + 1) = rcUp s j ++ [rcRead (chk 64 s.data.toList j)] := by
  unfold rcUp
  rw [List.range_succ, List.map_append]
  rfl
theorem rcUp_len (s : ByteArray) (j : Nat) : (rcUp s j).length = j := by unfold rcUp; rw [List.length_map, List.length_range]

set_option maxRecDepth 20000 in
set_option maxHeartbeats 6400000 in
theorem refGetRecs_any (s : ByteArray) (hs : s.size ≤ 100000) (w : World) :
    Calls Tryz.prog 11 #[.string s] w fun e w' => ∃ u, e = .returned (.tuple #[u, .int .i64 (rcGet s).2]) ∧ w'.ownsRow w.heap.size 50 7 u ((rcGet s).1.map rl).length (flat renc ((rcGet s).1.map rl)) ∧ Below w.heap.size w w' := by
  obtain ⟨g1, hg1⟩ : ∃ t, (rcGet s).1 = t := ⟨_, rfl⟩
  obtain ⟨g2, hg2⟩ : ∃ t, (rcGet s).2 = t := ⟨_, rfl⟩
  rw [hg1, hg2]
  have G1 := Hid.of hg1
  have G2 := Hid.of hg2
  clear hg1 hg2
  have S9 : (s.size : Int) ≤ 100000 := by omega
  obtain ⟨i0, hi0, hz0, hz1, hz2⟩ := info_parts rc_info
  have HI := Hid.of hi0
  have HZ0 := Hid.of hz0
  have HZ1 := Hid.of hz1
  have HZ2 := Hid.of hz2
  clear hi0 hz0 hz1 hz2
  by_cases hm : s.size % 64 = 0
  · obtain ⟨K, hK⟩ : ∃ K, s.size = 64 * K := ⟨s.size / 64, by omega⟩
    have HK := Hid.of hK
    have hr : ((s.size : Int).tmod 64) = 0 := by
      rw [Int.tmod_eq_emod_of_nonneg (by omega)]
      omega
    have hsz : (s.size : Int) = 64 * (K : Int) := by omega
    have BADG : Hid (∀ j, j < K → rcGood (chk 64 s.data.toList j) = false → g1 = [] ∧ g2 = 6) := Hid.of (fun j hj hb => by
      have e : rcGet s = ([], 6) := by
        unfold rcGet
        rw [if_neg (by omega), if_neg]
        intro c
        have h := List.all_eq_true.1 c j (List.mem_range.2 (by have := HK.out; omega))
        rw [hb] at h
        cases h
      rw [← G1.out, ← G2.out, e]
      exact ⟨rfl, rfl⟩)
    clear hK
    go_enter Tryz.func11, Tryz.ntmps11
    go_upto_region 5 with fail
    clear hr
    go_loopg [4, 5, 6, 7, 8, 9] K (fun kx lv iv uv rv av ev wr => ∃ (j : Nat) (lw : Value), lv = lw ∧ iv = .int .i64 (64 * (j : Int)) ∧ j ≤ K ∧ K - j ≤ kx ∧ Hid (∀ t, t < j → rcGood (chk 64 s.data.toList t) = true) ∧ Hid (wr.ownsRow w.heap.size 50 7 lw j (flat renc ((rcUp s j).map rl))) ∧ Hid (Below w.heap.size w wr))
    case atStart => exact ⟨0, _, rfl, by go_num, Nat.zero_le _, Nat.le_refl _, Hid.of (fun t h => absurd h (Nat.not_lt_zero t)), Hid.of (World.ownsRow_nil _ _ _ _), Hid.of (Below.refl _ _)⟩
    case round =>
      obtain ⟨j, lw, rfl, rfl, hjK, hjx, GD, OW, HB⟩ := hrel
      have j0 : (0 : Int) ≤ (j : Int) := Int.natCast_nonneg _
      by_cases hlt : (j : Int) < (K : Int)
      · have hjK2 : j < K := by omega
        have HJK := Hid.of hjK2
        have jz : 64 * (j : Int) + 64 ≤ 64 * (K : Int) := by omega
        obtain ⟨b24, hb24⟩ : ∃ b, s.extract (64 * j) (64 * j + 24) = b := ⟨_, rfl⟩
        have s24 : b24.size = 24 := by rw [← hb24, ByteArray.size_extract]; have := HK.out; omega
        obtain ⟨b40, hb40⟩ : ∃ b, s.extract (64 * j + 24) (64 * j + 64) = b := ⟨_, rfl⟩
        have s40 : b40.size = 40 := by rw [← hb40, ByteArray.size_extract]; have := HK.out; omega
        obtain ⟨C, hC⟩ : ∃ C, chk 64 s.data.toList j = C := ⟨_, rfl⟩
        obtain ⟨q1, q2, q3⟩ := chk_parts s j
        rw [hb24, hC] at q1 q2
        rw [hb40, hC] at q3
        obtain ⟨nm, hnm⟩ : ∃ t, nmText (C.take 16) = t := ⟨_, rfl⟩
        obtain ⟨ec, hec⟩ : ∃ t : Int, (if nmOk (C.take 16) = true then 0 else 6) = t := ⟨_, rfl⟩
        obtain ⟨f, hf⟩ : ∃ f, agOk (agRead b40) = f := ⟨_, rfl⟩
        obtain ⟨ga, hga⟩ : ∃ a, (if f = true then agRead b40 else agZero) = a := ⟨_, rfl⟩
        obtain ⟨ge, hge⟩ : ∃ t : Int, (if f = true then 0 else 6) = t := ⟨_, rfl⟩
        have HC := Hid.of hC
        have HNM := Hid.of hnm
        have HEC := Hid.of hec
        have HF := Hid.of hf
        have HGA := Hid.of hga
        have HGE := Hid.of hge
        have Q1 := Hid.of q1
        have Q2 := Hid.of q2
        have Q3 := Hid.of q3
        have S24 := Hid.of s24
        have S40 := Hid.of s40
        have H24 := Hid.of hb24
        have H40 := Hid.of hb40
        have HGET := Hid.of (fun W => refGet_full b40 s40 f hf W)
        obtain ⟨u, hu⟩ : ∃ u, wr.heap.size = u := ⟨_, rfl⟩
        obtain ⟨w2, hw2⟩ : ∃ w2, wr.alloc (.cells #[.string b24, .int .i64 0] 82) = w2 := ⟨_, rfl⟩
        have U2 : Hid (RUn u b24 w2) := Hid.of (by rw [← hw2, ← hu]; exact RUn.new wr b24)
        have C2 : Hid (Below wr.heap.size wr w2) := Hid.of (by rw [← hw2]; exact (Below.refl _ _).alloc (Nat.le_refl _) _)
        have HW2 := Hid.of hw2
        have HU := Hid.of hu
        clear hb24 s24 hb40 s40 hC q1 q2 q3 hnm hec hf hga hge hu hw2
        go_wp2_with fail
        rw [H24.out, HW2.out, HU.out]
        refine (refUName_any u b24 (by rw [S24.out]; decide) _ U2.out).mono ?_
        rintro e w3 ⟨rfl, u3, g3⟩
        rw [Q1.out, HEC.out] at u3
        rw [Q1.out, HNM.out]
        obtain ⟨r2, hr2⟩ : ∃ r, b24.extract 16 b24.size = r := ⟨_, rfl⟩
        rw [hr2] at u3
        have HR2 := Hid.of hr2
        have U3 := Hid.of u3
        have C3 := Hid.of (C2.out.grown g3 C2.out.size (fun k hk => by have := HU.out; cases hk; omega))
        clear u3 g3 hr2 HW2 U2 C2
        obtain ⟨rb, hrb⟩ : ∃ b, w3.heap.size = b := ⟨_, rfl⟩
        obtain ⟨w4, hw4⟩ : ∃ w4, w3.alloc (.cells #[.string nm, .int .i64 0, .int .i64 0, .int .i64 0, .int .u64 0, .int .i64 0, .int .i64 0] 50) = w4 := ⟨_, rfl⟩
        have b4 : Below w3.heap.size w3 w4 := by rw [← hw4]; exact (Below.refl _ _).alloc (Nat.le_refl _) _
        have R4 : Hid (RcB w4 rb ⟨nm, 0, agZero⟩) := Hid.of (by rw [← hw4, ← hrb]; exact Go.heap_alloc_new _ _)
        have U4 := Hid.of (U3.out.next b4)
        have C4 := Hid.of (C3.out.trans (b4.mono C3.out.size))
        have NE : Hid (u ≠ rb) := Hid.of (by have h := (Array.getElem?_eq_some_iff.1 U3.out).1; omega)
        have GB : Hid (wr.heap.size ≤ rb) := Hid.of (by have h := C3.out.size; omega)
        have HW4 := Hid.of hw4
        have HRB := Hid.of hrb
        clear hw4 hrb b4 U3 C3
        go_wp2_with fail
        rw [HW4.out, HRB.out]
        clear HW4 HRB
        have hint : ∃ (sv : Int) (r3 : ByteArray), Hid (nmOk (C.take 16) = true → sv = wrap64 (val ((C.drop 16).take 8))) ∧ Hid (-9223372036854775808 ≤ sv ∧ sv ≤ 9223372036854775807) ∧ Calls Tryz.prog 37 #[.pointer (some ⟨u, 0, none⟩)] w4 fun e w' => e = .returned (.int .i64 sv) ∧ RUnE u r3 ec w' ∧ w4.grownBy w' (some u) := by
          by_cases hg : nmOk (C.take 16) = true
          · have he : ec = 0 := by rw [← HEC.out, if_pos hg]
            have u4 := U4.out
            rw [he] at u4
            have h8 : 8 ≤ r2.size := by rw [← HR2.out, ByteArray.size_extract, S24.out]; decide
            have e8 : r2.data.toList.take 8 = (C.drop 16).take 8 := by
              rw [← Q2.out, ← HR2.out, S24.out]
            refine ⟨wrap64 (val ((C.drop 16).take 8)), r2.extract 8 r2.size, Hid.of (fun _ => rfl), Hid.of (wrap64_bounds _), ?_⟩
            have h := refInt_goodU u r2 h8 w4 u4
            rw [e8] at h
            rw [he]
            exact h
          · have he : ec = 6 := by rw [← HEC.out, if_neg hg]
            have u4 := U4.out
            rw [he] at u4
            refine ⟨0, r2, Hid.of (fun c => absurd c hg), Hid.of (by decide), ?_⟩
            refine (refInt_bad u r2 6 rfl w4 u4).mono ?_
            rintro e w' ⟨h1, rfl⟩
            rw [he]
            exact ⟨h1, u4, grownBy_refl _ _⟩
        obtain ⟨sv, r3, HSV, SB, hint⟩ := hint
        refine hint.mono ?_
        rintro e w5 ⟨rfl, u5, g5⟩
        have U5 := Hid.of u5
        have R5 := Hid.of (R4.out.beside g5 NE.out)
        have C5 := Hid.of (C4.out.grown g5 C4.out.size (fun k hk => by have := HU.out; cases hk; omega))
        clear u5 g5 hint U4 R4 C4
        obtain ⟨z1, -⟩ := R5.out.thawed
        obtain ⟨-, y1, -⟩ := R5.out.at
        obtain ⟨w6, hw6⟩ : ∃ w6, w5.setCell ⟨rb, 1, none⟩ (.int .i64 sv) = w6 := ⟨_, rfl⟩
        have g6 : w5.grownBy w6 (some rb) := by rw [← hw6]; exact grownBy_setCell _ _ _ _
        have R6 : Hid (RcB w6 rb ⟨nm, sv, agZero⟩) := Hid.of (by rw [← hw6]; exact rrow_set R5.out)
        have U6 := Hid.of (U5.out.beside g6 NE.out)
        have C6 := Hid.of (C5.out.grown g6 C5.out.size (fun k hk => by have := GB.out; cases hk; omega))
        have HW6 := Hid.of hw6
        clear hw6 g6 U5
        go_wp2_with fail
        rw [HW6.out, H40.out]
        clear HW6 R5 C5 z1 y1
        refine (HGET.out _).mono ?_
        rintro e w7 ⟨rfl, b7⟩
        rw [HGA.out, HGE.out]
        have R7 := Hid.of (R6.out.next b7)
        have U7 := Hid.of (U6.out.next b7)
        have C7 := Hid.of (C6.out.trans (b7.mono C6.out.size))
        clear b7 R6 U6 C6
        obtain ⟨ab, hab⟩ : ∃ b, w7.heap.size = b := ⟨_, rfl⟩
        obtain ⟨w8, hw8⟩ : ∃ w8, w7.alloc (.cells (agCells ga) 48) = w8 := ⟨_, rfl⟩
        have b8 : Below w7.heap.size w7 w8 := by rw [← hw8]; exact (Below.refl _ _).alloc (Nat.le_refl _) _
        have K8 : Hid (AgBlk w8 ab ga) := Hid.of (by rw [← hw8, ← hab]; exact AgBlk.new w7 ga)
        have R8 := Hid.of (R7.out.next b8)
        have U8 := Hid.of (U7.out.next b8)
        have C8 := Hid.of (C7.out.trans (b8.mono C7.out.size))
        have HW8 := Hid.of hw8
        have HAB := Hid.of hab
        clear hw8 hab b8 R7 U7 C7
        go_upto_region 11 with fail
        rw [HW8.out, HAB.out]
        clear HW8 HAB
        obtain ⟨p0, p1, p2, p3, p4⟩ := K8.out.at
        obtain ⟨-, z2, z3, z4, z5, z6⟩ := R8.out.thawed
        obtain ⟨n0, n1, n2, n3, n4, n5, n6⟩ := R8.out.at
        have kl := K8.out.lt
        have rl8 := (Array.getElem?_eq_some_iff.1 R8.out).1
        go_upto_region 12 with fail
        clear p0 p1 p2 p3 p4 z2 z3 z4 z5 z6 n0 n1 n2 n3 n4 n5 n6 kl rl8
        obtain ⟨w9, hw9⟩ : ∃ w9, (((((w8.setCell ⟨rb, 2, none⟩ (.int .i64 ga.c)).setCell ⟨rb, 3, none⟩ (.int .i64 ga.hi)).setCell ⟨rb, 4, none⟩ (.int .u64 ga.lo)).setCell ⟨rb, 5, none⟩ (.int .i64 ga.mn)).setCell ⟨rb, 6, none⟩ (.int .i64 ga.mx)) = w9 := ⟨_, rfl⟩
        have R9 : Hid (RcB w9 rb ⟨nm, sv, ga⟩) := Hid.of (by rw [← hw9]; exact R8.out.agg ga)
        have g9 : w8.grownBy w9 (some rb) := by rw [← hw9]; exact rset5_grown w8 rb ga
        have U9 := Hid.of (U8.out.beside g9 NE.out)
        have C9 := Hid.of (C8.out.grown g9 C8.out.size (fun k hk => by have := GB.out; cases hk; omega))
        rw [hw9]
        clear hw9 g9 U8 R8 C8 K8
        have B9 := Hid.of (HB.out.trans (C9.out.mono HB.out.size))
        have e1 : w9.cell? ⟨u, 1, none⟩ = some (.int .i64 ec) := by rw [cell_of_row w9 u 1 _ _ _ U9.out]; rfl
        have RD : Hid (nmOk (C.take 16) = true → f = true → (⟨nm, sv, ga⟩ : TRec) = rcRead C) := Hid.of (fun hg h1 => by
          unfold rcRead
          rw [HNM.out, HSV.out hg, ← Q3.out]
          have e : ga = agRead b40 := by rw [← HGA.out, if_pos h1]
          rw [e])
        by_cases he : ec = 0
        · have hg : nmOk (C.take 16) = true := by
            have h := HEC.out
            rw [he] at h
            by_cases c : nmOk (C.take 16) = true
            · exact c
            · rw [if_neg c] at h; cases h
          have HG := Hid.of hg
          clear hg
          subst he
          cases f
          · have hge : ge = 6 := by rw [← HGE.out]; rfl
            subst hge
            have bad : rcGood C = false := by
              unfold rcGood
              have h : rcOk (rcRead C) = false := by
                unfold rcOk rcRead
                simp only
                rw [← Q3.out, HF.out, Bool.and_false]
              rw [h, Bool.and_false]
            obtain ⟨h1, h2⟩ := BADG.out j HJK.out (by rw [HC.out]; exact bad)
            subst h1
            subst h2
            clear bad
            go_wp2
            go_ret2
            exact ⟨.slice none 0 0, rfl, World.ownsRow_nil _ _ _ 7, B9.out⟩
          · have hge : ge = 0 := by rw [← HGE.out]; rfl
            subst hge
            have RE := Hid.of (RD.out HG.out rfl)
            have FITR : Hid (TFit (⟨nm, sv, ga⟩ : TRec)) := Hid.of (by rw [RE.out]; exact rcRead_fit C)
            obtain ⟨n0, n1, n2, n3, n4, n5, n6⟩ := R9.out.at
            obtain ⟨ok, hok⟩ : ∃ ok, rcOk (⟨nm, sv, ga⟩ : TRec) = ok := ⟨_, rfl⟩
            have HOK := Hid.of hok
            clear hok
            go_wp2_with fail
            refine (refValidRec_any ⟨nm, sv, ga⟩ FITR.out _).mono ?_
            rintro e w10 ⟨rfl, b10⟩
            rw [HOK.out]
            have GOK : Hid (rcGood C = ok) := Hid.of (by unfold rcGood; rw [HG.out, Bool.true_and, ← RE.out]; exact HOK.out)
            have R10 := Hid.of (R9.out.next b10)
            have C10 := Hid.of (C9.out.trans (b10.mono C9.out.size))
            have B10 := Hid.of (HB.out.trans (C10.out.mono HB.out.size))
            clear b10 R9 C9 U9 n0 n1 n2 n3 n4 n5 n6 e1
            cases ok
            · obtain ⟨h1, h2⟩ := BADG.out j HJK.out (by rw [HC.out]; exact GOK.out)
              subst h1
              subst h2
              go_wp2
              go_ret2
              exact ⟨.slice none 0 0, rfl, World.ownsRow_nil _ _ _ 7, B10.out⟩
            · have O10 := Hid.of (rown_keeps OW.out C10.out)
              obtain ⟨n0, n1, n2, n3, n4, n5, n6⟩ := R10.out.at
              have jn : j ≤ 2000 := by omega
              go_wp2_with (at_builtin; refine append_keep_law rfl (.tmp 59) (.tmp 61) 22 rfl w.heap.size 50 i0 _ 7 64 Tryz.underlying22 HI.out HZ0.out HZ1.out HZ2.out rfl (by decide) _ j _ rfl (World.ownsRow.alloc O10.out _) w10.heap.size 0 1 1 (flat renc ([(⟨nm, sv, ga⟩ : TRec)].map rl)) rfl (rnew_row w10 ⟨nm, sv, ga⟩ _) rfl (by intro z hz; exact flat_ones renc_one _ z hz) (by unfold maxLen; omega) (by omega) (by simp; have := B10.out.size; omega) ?_; intro x4 w11 o4 g4 _ _; have O4 := Hid.of o4; have G4 := Hid.of g4; clear o4 g4)
              clear n0 n1 n2 n3 n4 n5 n6
              have B11 : Hid (Below w.heap.size w w11) := Hid.of (((B10.out).alloc B10.out.size _).grown G4.out (by have := B10.out.size; simp; omega) (fun k hk => own_ge O10.out hk))
              go_roundg (K - (j + 1))
              case measure => have := HJK.out; omega
              case rel =>
                refine ⟨j + 1, x4, rfl, by go_num, HJK.out, Nat.le_refl _, Hid.of (fun t ht => ?_), Hid.of ?_, B11⟩
                · by_cases c : t = j
                  · rw [c, HC.out]; exact GOK.out
                  · exact GD.out t (by omega)
                · rw [rcUp_succ, List.map_append, flat_append, HC.out, ← RE.out]
                  exact O4.out
        · have hne : (ec != 0) = true := by simpa using he
          have bad : rcGood C = false := by
            unfold rcGood
            have c : nmOk (C.take 16) = false := by
              cases hc : nmOk (C.take 16) with
              | false => rfl
              | true =>
                have h := HEC.out
                rw [hc, if_pos rfl] at h
                exact absurd h.symm he
            rw [c, Bool.false_and]
          obtain ⟨h1, h2⟩ := BADG.out j HJK.out (by rw [HC.out]; exact bad)
          subst h1
          subst h2
          clear bad
          go_wp2
          go_ret2
          exact ⟨.slice none 0 0, rfl, World.ownsRow_nil _ _ _ 7, B9.out⟩
      · obtain rfl : K = j := by omega
        have e : rcGet s = (rcUp s K, 0) := by
          unfold rcGet
          rw [if_neg (by omega), show s.size / 64 = K by have := HK.out; omega, if_pos (List.all_eq_true.2 fun t ht => GD.out t (List.mem_range.1 ht))]
          rfl
        obtain rfl : g1 = rcUp s K := by rw [← G1.out, e]
        obtain rfl : g2 = 0 := by rw [← G2.out, e]
        clear e
        go_wp2
        go_ret2
        refine ⟨_, rfl, ?_, HB.out⟩
        simp only [rcUp_len]
        exact OW.out
  · have hr : ((s.size : Int).tmod 64 != 0) = true := by
      rw [Int.tmod_eq_emod_of_nonneg (by omega), bne_iff_ne]
      omega
    have e : rcGet s = ([], 5) := by
      unfold rcGet
      rw [if_pos hm]
    obtain rfl : g1 = [] := by rw [← G1.out, e]
    obtain rfl : g2 = 5 := by rw [← G2.out, e]
    clear e
    go_enter Tryz.func11, Tryz.ntmps11
    go_wp2
    go_ret2
    exact ⟨.slice none 0 0, rfl, World.ownsRow_nil _ _ _ 7, Below.refl _ _⟩

end Go.Proofs.YtfgfgdchaoekfaaGreatDoor
