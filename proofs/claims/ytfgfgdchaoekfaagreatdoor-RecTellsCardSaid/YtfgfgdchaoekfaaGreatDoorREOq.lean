/-
  The document's own Put of records (sedimentref10).
-/
import Derived.Test.YtfgfgdchaoekfaaGreatDoorRERq
namespace Go.Proofs.YtfgfgdchaoekfaaGreatDoor
open Go.RowKit Go.Lib

theorem RPk.next {p : Nat} {l : List UInt8} {w w' : World} (h : RPk p l w) (b : Below w.heap.size w w') : RPk p l w' := by
  obtain ⟨v, h1, h2, h3⟩ := h
  refine ⟨v, (b.block p (Array.getElem?_eq_some_iff.1 h1).1).trans h1, h2, ?_⟩
  rcases h3 with h3 | ⟨g, cap, cur, fz, hv, hb, hh, r⟩
  · exact .inl h3
  · exact .inr ⟨g, cap, cur, fz, hv, hb, (b.block g (Array.getElem?_eq_some_iff.1 hh).1).trans hh, r⟩

/-- 'string(p.B)', whether there are bytes or not. -/
theorem RPk.textAll {p : Nat} {l : List UInt8} {w : World} {v : Value} (h : w.ownsRowF (p + 1) 5 1 v l.length (Lib.byteCells l)) :
    (convert 64 9 v).run Tryz.prog w = .ok (.string ⟨l.toArray⟩) w := by
  cases l with
  | cons x l => exact RPk.text h (Nat.succ_pos _)
  | nil =>
    have hv : ∃ a c, v = .slice a 0 c := by
      rcases h.2 with ⟨rfl, _⟩ | ⟨g, cap, cur, fz, rfl, _⟩
      · exact ⟨_, _, rfl⟩
      · exact ⟨_, _, rfl⟩
    obtain ⟨a, c, rfl⟩ := hv
    rw [run_convert_bytes_string (P := Tryz.prog) w 64 9 5 a 0 c Tryz.underlying64 Tryz.underlying5 Tryz.underlying9]
    cases a <;> simp [Conv.bytesToString, loadCells]
    all_goals rfl

set_option maxRecDepth 20000 in
set_option maxHeartbeats 3200000 in
theorem refPutRecs_any (v : Value) (l : List TRec) (w : World) (hv : CellRow w v l.length (flat renc (l.map rl))) (hl : l.length ≤ 1000) (fit : ∀ x ∈ l, TFit x) :
    Calls Tryz.prog 9 #[v] w fun e w' => e = .returned (.tuple #[.string (rcPut l).1, .int .i64 (rcPut l).2]) ∧ Below w.heap.size w w' := by
  have HV := Hid.of hv
  have FIT := Hid.of fit
  obtain ⟨va, vc, rfl, -⟩ := hv
  obtain ⟨N, hN⟩ : ∃ N, l.length = N := ⟨_, rfl⟩
  have HN := Hid.of hN
  rw [hN] at HV hl ⊢
  have N9 : (N : Int) ≤ 1000 := by omega
  obtain ⟨t1, ht1⟩ : ∃ t, (rcPut l).1 = t := ⟨_, rfl⟩
  obtain ⟨t2, ht2⟩ : ∃ t, (rcPut l).2 = t := ⟨_, rfl⟩
  rw [ht1, ht2]
  have T1 := Hid.of ht1
  have T2 := Hid.of ht2
  clear hN ht1 ht2 fit
  go_enter Tryz.func9, Tryz.ntmps9
  go_upto_region 3 with fail
  obtain ⟨p, hp⟩ : ∃ p, w.heap.size = p := ⟨_, rfl⟩
  obtain ⟨w1, hw1⟩ : ∃ w1, w.alloc (.cells #[.slice none 0 0, .int .i64 0] 76) = w1 := ⟨_, rfl⟩
  have P1 : Hid (RPk p [] w1) := Hid.of (by rw [← hw1, ← hp]; exact RPk.new w)
  have B1 : Hid (Below p w w1) := Hid.of (by rw [← hw1, ← hp]; exact (Below.refl _ _).alloc (Nat.le_refl _) _)
  rw [hw1, hp]
  have HP := Hid.of hp
  clear hw1 hp
  go_loopg [5, 6, 7] N (fun kx iv av ev wr => ∃ i : Nat, iv = .int .i64 i ∧ i ≤ N ∧ N - i ≤ kx ∧ Hid (∀ x ∈ l.take i, rcOk x = true) ∧ Hid (RPk p ((l.take i).flatMap rcBytes) wr) ∧ Hid (Below p w wr))
  case atStart => exact ⟨0, rfl, Nat.zero_le _, Nat.le_refl _, Hid.of (fun x h => by rw [List.take_zero] at h; cases h), by rw [List.take_zero]; exact P1, B1⟩
  case round =>
    clear P1 B1
    obtain ⟨i, rfl, hiN, hix, OK, PK, HB⟩ := hrel
    have i0 : (0 : Int) ≤ (i : Int) := Int.natCast_nonneg _
    have HBW : Hid (Below w.heap.size w wr) := Hid.of (HB.out.mono (Nat.le_of_eq HP.out))
    have LEN : Hid (((l.take i).flatMap rcBytes).length = 64 * i) := Hid.of (by
      rw [parts_len (k := 64) (fun x hx => rcBytes_len (by
        have h := OK.out x hx
        unfold rcOk at h
        simp only [Bool.and_eq_true] at h
        exact (nOk_len h.1.1.1).2)), List.length_take, HN.out, Nat.min_eq_left hiN])
    by_cases hlt : (i : Int) < (N : Int)
    · have hiN2 : i < N := by omega
      obtain ⟨x, hx⟩ : ∃ x, l[i]? = some x := ⟨_, List.getElem?_eq_getElem (by rw [HN.out]; exact hiN2)⟩
      have HX := Hid.of hx
      have FX := Hid.of (FIT.out x (List.mem_of_getElem? hx))
      obtain ⟨vb, vo, hva, vl, d0, d1, d2, d3, d4, d5, d6⟩ := r_at (HV.out.kept HBW.out) i (rl x) (by rw [List.getElem?_map, hx]; rfl)
      simp only [rl] at d0 d1 d2 d3 d4 d5 d6
      subst hva
      have ROW : ∀ w', Below p w w' → (w'.cell? ⟨vb, vo + i * 7, none⟩ = some (.string x.n) ∧ w'.cell? ⟨vb, vo + i * 7 + 1, none⟩ = some (.int .i64 x.s) ∧ w'.cell? ⟨vb, vo + i * 7 + 2, none⟩ = some (.int .i64 x.a.c) ∧ w'.cell? ⟨vb, vo + i * 7 + 3, none⟩ = some (.int .i64 x.a.hi) ∧ w'.cell? ⟨vb, vo + i * 7 + 4, none⟩ = some (.int .u64 x.a.lo) ∧ w'.cell? ⟨vb, vo + i * 7 + 5, none⟩ = some (.int .i64 x.a.mn) ∧ w'.cell? ⟨vb, vo + i * 7 + 6, none⟩ = some (.int .i64 x.a.mx)) := fun w' b => by
        obtain ⟨vb', vo', e, -, k⟩ := r_at (HV.out.kept (b.mono (Nat.le_of_eq HP.out))) i (rl x) (by rw [List.getElem?_map, HX.out]; rfl)
        cases e
        exact k
      have ROWS := Hid.of ROW
      clear hx ROW
      obtain ⟨ok, hok⟩ : ∃ ok, rcOk x = ok := ⟨_, rfl⟩
      have HOK := Hid.of hok
      clear hok
      go_wp2_with fail
      refine (refValidRec_any x FX.out _).mono ?_
      rintro e w2 ⟨rfl, b2⟩
      rw [HOK.out]
      have PK2 := Hid.of (PK.out.next b2)
      have HB2 := Hid.of (HB.out.trans (b2.mono (by have := PK.out.lt; omega)))
      clear b2 PK HB d0 d1 d2 d3 d4 d5 d6
      obtain ⟨d0, d1, d2, d3, d4, d5, d6⟩ := ROWS.out _ HB2.out
      cases ok
      · have bad : rcPut l = (⟨#[]⟩, 1) := by
          unfold rcPut
          rw [if_neg]
          intro c
          have h := List.all_eq_true.1 c x (List.mem_of_getElem? HX.out)
          rw [HOK.out] at h
          cases h
        obtain rfl : t1 = ⟨#[]⟩ := by rw [← T1.out, bad]
        obtain rfl : t2 = 1 := by rw [← T2.out, bad]
        have B9 := Hid.of (HB2.out.mono (Nat.le_of_eq HP.out))
        go_wp2
        go_ret2
        exact ⟨rfl, B9.out⟩
      · have hk := HOK.out
        unfold rcOk at hk
        simp only [Bool.and_eq_true] at hk
        have hns := (nOk_len hk.1.1.1).2
        have HAG := Hid.of hk.2
        have LN := Hid.of (nameBytes_length x.n hns)
        clear hk
        go_wp2_with fail
        refine (refPName_any p _ x.n hns (by rw [LEN.out]; omega) _ PK2.out).mono ?_
        rintro e w3 ⟨rfl, p3, b3⟩
        have PK3 := Hid.of p3
        have HB3 := Hid.of (HB2.out.trans b3)
        clear p3 b3 PK2 HB2 d0 d1 d2 d3 d4 d5 d6
        obtain ⟨d0, d1, d2, d3, d4, d5, d6⟩ := ROWS.out _ HB3.out
        go_wp2_with fail
        refine (refInt_any p _ x.s (by rw [List.length_append, LEN.out, LN.out]; omega) _ PK3.out).mono ?_
        rintro e w4 ⟨rfl, p4, b4⟩
        have PK4 := Hid.of p4
        have HB4 := Hid.of (HB3.out.trans b4)
        clear p4 b4 PK3 HB3 d0 d1 d2 d3 d4 d5 d6
        obtain ⟨d0, d1, d2, d3, d4, d5, d6⟩ := ROWS.out _ HB4.out
        go_wp2_with fail
        refine (refPut_good x.a HAG.out FX.out.2.2 _).mono ?_
        rintro e w5 ⟨rfl, b5⟩
        have PK5 := Hid.of (PK4.out.next b5)
        have HB5 := Hid.of (HB4.out.trans (b5.mono (by have := PK4.out.lt; omega)))
        clear b5 PK4 HB4 d0 d1 d2 d3 d4 d5 d6
        obtain ⟨v, hrow, hown⟩ := PK5.out.own
        have c0 : w5.cell? ⟨p, 0, none⟩ = some v := by rw [cell_of_row w5 p 0 _ _ _ hrow]; rfl
        have hlen : (((l.take i).flatMap rcBytes ++ nameBytes x.n) ++ le 8 (unsigned x.s).toNat).length = 64 * i + 24 := by
          rw [List.length_append, List.length_append, LEN.out, LN.out, le_length]
        rw [hlen] at hown
        have ROW := Hid.of hrow
        have LEN5 := Hid.of hlen
        clear hrow hlen
        go_wp2_with (at_builtin; refine append_text rfl _ _ rfl (p + 1) v (64 * i + 24) _ rfl w5 hown (agText x.a) rfl (by rw [agText_size]; omega) ?_; intro b' w6 hb1; obtain ⟨sa, sc, rfl⟩ := OwnBuf.slice hb1; have d0 : w6.cell? ⟨p, 0, none⟩ = some v := (by rw [hb1.2.1.cell (Nat.lt_succ_self p)]; exact c0); have fz : w6.frozen? ⟨p, 0, none⟩ = false := (by rw [hb1.2.1.frozen (Nat.lt_succ_self p)]; exact row_frozen ROW.out))
        have e9 : (l.take (i + 1)).flatMap rcBytes = ((l.take i).flatMap rcBytes ++ nameBytes x.n) ++ le 8 (unsigned x.s).toNat ++ agBytes x.a := by
          rw [List.take_add_one, HX.out, List.flatMap_append]
          show _ ++ (rcBytes x ++ []) = _
          rw [List.append_nil]
          unfold rcBytes
          simp only [List.append_assoc]
        have PK6 : Hid (RPk p ((l.take (i + 1)).flatMap rcBytes) (w6.setCell ⟨p, 0, none⟩ (.slice sa (64 * i + 24 + (agText x.a).size) sc))) := Hid.of (by
          rw [e9]
          refine PK5.out.stored ?_
          rw [List.length_append, LEN5.out, agBytes_len, byteCells_append]
          have h := hb1
          rw [strCells_eq, agText_size] at h
          rw [agText_size]
          exact h)
        have HB6 : Hid (Below p w (w6.setCell ⟨p, 0, none⟩ (.slice sa (64 * i + 24 + (agText x.a).size) sc))) := Hid.of ((HB5.out.trans (hb1.2.1.mono (Nat.le_succ p))).setCell (Nat.le_refl p) _)
        clear e9 hb1 d0 fz c0 hown
        go_roundg (N - (i + 1))
        case measure => omega
        case rel =>
          refine ⟨i + 1, by go_num, by omega, Nat.le_refl _, Hid.of (fun y hy => ?_), PK6, HB6⟩
          rw [List.take_add_one, HX.out, List.mem_append] at hy
          rcases hy with hy | hy
          · exact OK.out y hy
          · have e : y = x := by simpa using hy
            rw [e]
            exact HOK.out
    · obtain rfl : N = i := by omega
      have ok := OK.out
      have pk := PK.out
      rw [List.take_of_length_le (Nat.le_of_eq HN.out)] at ok pk
      have good : rcPut l = (txt (l.flatMap rcBytes), 0) := by
        unfold rcPut
        rw [if_pos (List.all_eq_true.2 ok)]
      obtain rfl : t1 = txt (l.flatMap rcBytes) := by rw [← T1.out, good]
      obtain rfl : t2 = 0 := by rw [← T2.out, good]
      obtain ⟨v, hrow, hown⟩ := pk
      have hcv := RPk.textAll hown
      have c0 : wr.cell? ⟨p, 0, none⟩ = some v := by rw [cell_of_row wr p 0 _ _ _ hrow]; rfl
      clear hown hrow good ok
      go_wp2
      go_ret2
      exact ⟨rfl, HBW.out⟩

end Go.Proofs.YtfgfgdchaoekfaaGreatDoor
