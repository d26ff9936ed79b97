/-
  The document's own Put of samples (sedimentref10).
-/
import Derived.Test.YtfgfgdchaoekfaaGreatDoorREOq
namespace Go.Proofs.YtfgfgdchaoekfaaGreatDoor
open Go.RowKit Go.Lib

/-- A variable that holds one. -/
def SmB (w : World) (b : Nat) (x : SamL) : Prop := w.heap[b]? = some (.cells #[.string x.1, .int .i64 x.2.1, .int .i64 x.2.2] 107 (0, 0))
theorem SmB.at {w : World} {b : Nat} {x : SamL} (h : SmB w b x) : w.cell? ⟨b, 0, none⟩ = some (.string x.1) ∧ w.cell? ⟨b, 1, none⟩ = some (.int .i64 x.2.1) ∧ w.cell? ⟨b, 2, none⟩ = some (.int .i64 x.2.2) := by
  refine ⟨?_, ?_, ?_⟩ <;> (rw [cell_of_row w b _ _ _ _ h]; rfl)
theorem SmB.next {w w' : World} {b : Nat} {x : SamL} (h : SmB w b x) (c : Below w.heap.size w w') : SmB w' b x := (c.block b (Array.getElem?_eq_some_iff.1 h).1).trans h

set_option maxRecDepth 20000 in
set_option maxHeartbeats 1600000 in
theorem refValidSam_any (x : SamL) (hx : SmIn x) (w : World) :
    Calls Tryz.prog 79 #[smv x] w fun e w' => e = .returned (.bool (smOk x)) ∧ Below w.heap.size w w' := by
  obtain ⟨y, hy⟩ : ∃ y, nOk x.1 = y := ⟨_, rfl⟩
  have res : smOk x = (y && decide (0 ≤ x.2.1) && decide (x.2.1 ≤ 1099511627776)) := by unfold smOk; rw [hy]
  obtain ⟨ok, hok⟩ : ∃ ok, smOk x = ok := ⟨_, rfl⟩
  rw [hok] at res ⊢
  have RES := Hid.of res
  have HY := Hid.of hy
  have HX := Hid.of hx
  obtain ⟨b, hb⟩ : ∃ b, w.heap.size = b := ⟨_, rfl⟩
  obtain ⟨w1, hw1⟩ : ∃ w1, w.alloc (.cells #[.string x.1, .int .i64 x.2.1, .int .i64 x.2.2] 107) = w1 := ⟨_, rfl⟩
  have b1 : Below w.heap.size w w1 := by rw [← hw1]; exact (Below.refl _ _).alloc (Nat.le_refl _) _
  have B1 := Hid.of b1
  have R1 : Hid (SmB w1 b x) := Hid.of (by rw [← hw1, ← hb]; exact Go.heap_alloc_new _ _)
  have HW := Hid.of hw1
  have HB := Hid.of hb
  clear hy res hx hb hw1 b1 hok
  obtain ⟨c0, c1, c2⟩ := R1.out.at
  go_enter Tryz.func79, Tryz.ntmps79
  go_upto_region 1 with fail
  rw [HW.out, HB.out]
  go_wp2_with fail
  refine (refName_any x.1 HX.out.1 _).mono ?_
  rintro e w2 ⟨rfl, q, rfl⟩
  rw [HY.out]
  have b2 : Below w1.heap.size w1 (w1.drewN q) := below_drewN (Below.refl _ _) q
  have R2 := Hid.of (R1.out.next b2)
  have B2 := Hid.of (B1.out.trans (b2.mono B1.out.size))
  clear b2 c0 c1 c2
  obtain ⟨c0, c1, c2⟩ := R2.out.at
  cases y
  · have ho : ok = false := by rw [RES.out]; rfl
    subst ho
    go_wp2
    go_ret
    exact ⟨rfl, B2.out⟩
  · by_cases h0 : 0 ≤ x.2.1
    · by_cases h1 : x.2.1 ≤ 1099511627776
      · have ho : ok = true := by rw [RES.out, decide_eq_true h0, decide_eq_true h1]; rfl
        subst ho
        go_wp2
        go_ret
        exact ⟨rfl, B2.out⟩
      · have ho : ok = false := by rw [RES.out, decide_eq_false h1]; simp
        subst ho
        go_wp2
        go_ret
        refine ⟨?_, B2.out⟩
        show Ending.returned (Value.bool (decide (x.2.1 ≤ 1099511627776))) = _
        rw [decide_eq_false (by omega)]
    · have ho : ok = false := by rw [RES.out, decide_eq_false h0]; simp
      subst ho
      go_wp2
      go_ret
      exact ⟨rfl, B2.out⟩

set_option maxRecDepth 20000 in
set_option maxHeartbeats 3200000 in
theorem refPutSams_any (v : Value) (l : List SamL) (w : World) (hv : CellRow w v l.length (flat aenc l)) (hl : l.length ≤ 1000) (fit : ∀ x ∈ l, SmIn x) :
    Calls Tryz.prog 21 #[v] w fun e w' => e = .returned (.tuple #[.string (smPut l).1, .int .i64 (smPut l).2]) ∧ Below w.heap.size w w' := by
  have HV := Hid.of hv
  have FIT := Hid.of fit
  obtain ⟨va, vc, rfl, -⟩ := hv
  obtain ⟨N, hN⟩ : ∃ N, l.length = N := ⟨_, rfl⟩
  have HN := Hid.of hN
  rw [hN] at HV hl ⊢
  have N9 : (N : Int) ≤ 1000 := by omega
  obtain ⟨t1, ht1⟩ : ∃ t, (smPut l).1 = t := ⟨_, rfl⟩
  obtain ⟨t2, ht2⟩ : ∃ t, (smPut l).2 = t := ⟨_, rfl⟩
  rw [ht1, ht2]
  have T1 := Hid.of ht1
  have T2 := Hid.of ht2
  clear hN ht1 ht2 fit
  go_enter Tryz.func21, Tryz.ntmps21
  go_upto_region 3 with fail
  obtain ⟨p, hp⟩ : ∃ p, w.heap.size = p := ⟨_, rfl⟩
  obtain ⟨w1, hw1⟩ : ∃ w1, w.alloc (.cells #[.slice none 0 0, .int .i64 0] 76) = w1 := ⟨_, rfl⟩
  have P1 : Hid (RPk p [] w1) := Hid.of (by rw [← hw1, ← hp]; exact RPk.new w)
  have B1 : Hid (Below p w w1) := Hid.of (by rw [← hw1, ← hp]; exact (Below.refl _ _).alloc (Nat.le_refl _) _)
  rw [hw1, hp]
  have HP := Hid.of hp
  clear hw1 hp
  go_loopg [5] N (fun kx iv wr => ∃ i : Nat, iv = .int .i64 i ∧ i ≤ N ∧ N - i ≤ kx ∧ Hid (∀ x ∈ l.take i, smOk x = true) ∧ Hid (RPk p ((l.take i).flatMap smBytes) wr) ∧ Hid (Below p w wr))
  case atStart => exact ⟨0, rfl, Nat.zero_le _, Nat.le_refl _, Hid.of (fun x h => by rw [List.take_zero] at h; cases h), by rw [List.take_zero]; exact P1, B1⟩
  case round =>
    clear P1 B1
    obtain ⟨i, rfl, hiN, hix, OK, PK, HB⟩ := hrel
    have i0 : (0 : Int) ≤ (i : Int) := Int.natCast_nonneg _
    have HBW : Hid (Below w.heap.size w wr) := Hid.of (HB.out.mono (Nat.le_of_eq HP.out))
    have LEN : Hid (((l.take i).flatMap smBytes).length = 32 * i) := Hid.of (by
      rw [parts_len (k := 32) (fun x hx => smBytes_len (by
        have h := OK.out x hx
        unfold smOk at h
        simp only [Bool.and_eq_true] at h
        exact (nOk_len h.1.1).2)), List.length_take, HN.out, Nat.min_eq_left hiN])
    by_cases hlt : (i : Int) < (N : Int)
    · have hiN2 : i < N := by omega
      obtain ⟨x, hx⟩ : ∃ x, l[i]? = some x := ⟨_, List.getElem?_eq_getElem (by rw [HN.out]; exact hiN2)⟩
      have HX := Hid.of hx
      have FX := Hid.of (FIT.out x (List.mem_of_getElem? hx))
      obtain ⟨vb, vo, hva, vl, d0, d1, d2⟩ := a_at (HV.out.kept HBW.out) i x hx
      subst hva
      have ROW : ∀ w', Below p w w' → (w'.cell? ⟨vb, vo + i * 3, none⟩ = some (.string x.1) ∧ w'.cell? ⟨vb, vo + i * 3 + 1, none⟩ = some (.int .i64 x.2.1) ∧ w'.cell? ⟨vb, vo + i * 3 + 2, none⟩ = some (.int .i64 x.2.2)) := fun w' b => by
        obtain ⟨vb', vo', e, -, k⟩ := a_at (HV.out.kept (b.mono (Nat.le_of_eq HP.out))) i x HX.out
        cases e
        exact k
      have ROWS := Hid.of ROW
      clear hx ROW
      obtain ⟨ok, hok⟩ : ∃ ok, smOk x = ok := ⟨_, rfl⟩
      have HOK := Hid.of hok
      clear hok
      go_wp2_with fail
      refine (refValidSam_any x FX.out _).mono ?_
      rintro e w2 ⟨rfl, b2⟩
      rw [HOK.out]
      have PK2 := Hid.of (PK.out.next b2)
      have HB2 := Hid.of (HB.out.trans (b2.mono (by have := PK.out.lt; omega)))
      clear b2 PK HB d0 d1 d2
      obtain ⟨d0, d1, d2⟩ := ROWS.out _ HB2.out
      cases ok
      · have bad : smPut l = (⟨#[]⟩, 1) := by
          unfold smPut
          rw [if_neg]
          intro c
          have h := List.all_eq_true.1 c x (List.mem_of_getElem? HX.out)
          rw [HOK.out] at h
          cases h
        obtain rfl : t1 = ⟨#[]⟩ := by rw [← T1.out, bad]
        obtain rfl : t2 = 1 := by rw [← T2.out, bad]
        have B9 := Hid.of (HB2.out.mono (Nat.le_of_eq HP.out))
        go_wp2
        go_ret2
        exact ⟨rfl, B9.out⟩
      · have hk := HOK.out
        unfold smOk at hk
        simp only [Bool.and_eq_true] at hk
        have hns := (nOk_len hk.1.1).2
        have LN := Hid.of (nameBytes_length x.1 hns)
        clear hk
        go_wp2_with fail
        refine (refPName_any p _ x.1 hns (by rw [LEN.out]; omega) _ PK2.out).mono ?_
        rintro e w3 ⟨rfl, p3, b3⟩
        have PK3 := Hid.of p3
        have HB3 := Hid.of (HB2.out.trans b3)
        clear p3 b3 PK2 HB2 d0 d1 d2
        obtain ⟨d0, d1, d2⟩ := ROWS.out _ HB3.out
        go_wp2_with fail
        refine (refInt_any p _ x.2.1 (by rw [List.length_append, LEN.out, LN.out]; omega) _ PK3.out).mono ?_
        rintro e w4 ⟨rfl, p4, b4⟩
        have PK4 := Hid.of p4
        have HB4 := Hid.of (HB3.out.trans b4)
        clear p4 b4 PK3 HB3 d0 d1 d2
        obtain ⟨d0, d1, d2⟩ := ROWS.out _ HB4.out
        go_wp2_with fail
        refine (refInt_any p _ x.2.2 (by rw [List.length_append, List.length_append, LEN.out, LN.out, le_length]; omega) _ PK4.out).mono ?_
        rintro e w5 ⟨rfl, p5, b5⟩
        have e9 : (l.take (i + 1)).flatMap smBytes = (((l.take i).flatMap smBytes ++ nameBytes x.1) ++ le 8 (unsigned x.2.1).toNat) ++ le 8 (unsigned x.2.2).toNat := by
          rw [List.take_add_one, HX.out, List.flatMap_append]
          show _ ++ (smBytes x ++ []) = _
          rw [List.append_nil]
          unfold smBytes
          simp only [List.append_assoc]
        rw [← e9] at p5
        have PK6 := Hid.of p5
        have HB6 := Hid.of (HB4.out.trans b5)
        clear p5 b5 e9 PK4 HB4 d0 d1 d2
        go_wp2
        go_roundg (N - (i + 1))
        case measure => omega
        case rel =>
          refine ⟨i + 1, by go_num, by omega, Nat.le_refl _, Hid.of (fun y hy => ?_), PK6, HB6⟩
          rw [List.take_add_one, HX.out, List.mem_append] at hy
          rcases hy with hy | hy
          · exact OK.out y hy
          · have e : y = x := by simpa using hy
            rw [e]
            exact HOK.out
    · obtain rfl : N = i := by omega
      have ok := OK.out
      have pk := PK.out
      rw [List.take_of_length_le (Nat.le_of_eq HN.out)] at ok pk
      have good : smPut l = (txt (l.flatMap smBytes), 0) := by
        unfold smPut
        rw [if_pos (List.all_eq_true.2 ok)]
      obtain rfl : t1 = txt (l.flatMap smBytes) := by rw [← T1.out, good]
      obtain rfl : t2 = 0 := by rw [← T2.out, good]
      obtain ⟨v, hrow, hown⟩ := pk
      have hcv := RPk.textAll hown
      have c0 : wr.cell? ⟨p, 0, none⟩ = some v := by rw [cell_of_row wr p 0 _ _ _ hrow]; rfl
      clear hown hrow good ok
      go_wp2
      go_ret2
      exact ⟨rfl, HBW.out⟩

end Go.Proofs.YtfgfgdchaoekfaaGreatDoor
