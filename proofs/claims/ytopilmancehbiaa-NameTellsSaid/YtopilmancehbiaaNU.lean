/-
  What statement NameTells answers: true, for every input. (name/nu.py writes this text.)
-/
import Derived.Test.YtopilmancehbiaaNT
import Derived.Test.YtopilmancehbiaaNBk
import Derived.Test.YtopilmancehbiaaNQ
import Derived.Test.YtopilmancehbiaaBL
import Derived.Test.YtopilmancehbiaaKXT
import Derived.Deep.DeepCutAuto
import Derived.Deep.CutBlock
namespace Go.Proofs.Ytopilmancehbiaa
open Go.RowKit Go.Lib

theorem refHash_below (s : ByteArray) (hs : s.size ≤ 1000000) (w : World) : Calls Try.prog 12 #[.string s] w fun e w' => e = .returned (.int .u32 (nHash s.data.toList : Nat)) ∧ Below w.heap.size w w' :=
  (refHash_any s (by unfold maxLen; omega) w).mono fun _ _ ⟨h, q, hq⟩ => ⟨h, by rw [hq]; exact below_drewN (Below.refl _ _) q⟩

theorem refShard_below (s : ByteArray) (hs : s.size ≤ 1000000) (n : Int) (w : World) : Calls Try.prog 14 #[.string s, .int .i64 n] w fun e w' => e = .returned (.int .i64 (nShard s n)) ∧ Below w.heap.size w w' :=
  (refShard_any s (by unfold maxLen; omega) n w).mono fun _ _ ⟨h, q, hq⟩ => ⟨h, by rw [hq]; exact below_drewN (Below.refl _ _) q⟩

theorem refLess_named {a b : NRec} {r : Bool} (hr : nLess a b = r) (w : World) : Calls Try.prog 22 #[nrv a, nrv b] w fun e w' => e = .returned (.bool r) ∧ Below w.heap.size w w' := by
  rw [← hr]; exact refLess_any a b w

set_option maxRecDepth 20000 in
set_option maxHeartbeats 3200000 in
theorem nameTells_main (v : Value) (ss : List ByteArray) (n : Int) (a b : NRec) (w : World) (hv : StrRow w v ss) (ha : ¬ 300 < a.n.size) (hb : ¬ 300 < b.n.size) :
    Calls Try.prog 3 #[v, .int .i64 n, nrv a, nrv b] w fun e w' => e = .returned (.bool true) ∧ Below w.heap.size w w' := by
  have HV := Hid.of hv
  obtain ⟨va, vc, rfl, _⟩ := hv
  obtain ⟨i0, hi, hz0, hz1, hz2⟩ := info_parts (show (Try.prog.info? 9).map (fun i => (i.zero, i.size, i.bytes)) = some (some (.string ⟨#[]⟩), 1, 16) by kernel_rfl)
  have HI := Hid.of hi
  have HZ0 := Hid.of hz0
  have HZ1 := Hid.of hz1
  have HZ2 := Hid.of hz2
  clear hi hz0 hz1 hz2
  obtain ⟨an, at_, ac, ahi, alo, amn, amx⟩ := a
  obtain ⟨bn, bt, bc, bhi, blo, bmn, bmx⟩ := b
  simp only at ha hb
  have a9 : (an.size : Int) ≤ 300 := by omega
  have b9 : (bn.size : Int) ≤ 300 := by omega
  have AS : Hid (an.size ≤ 300) := Hid.of (by omega)
  have BS : Hid (bn.size ≤ 300) := Hid.of (by omega)
  clear ha hb
  go_enter Try.func3, Try.ntmps3
  go_wp2_with fail
  refine (Short_sum 60 3000 (by decide) (by decide) _ ss _ (HV.out.kept (((Below.refl _ _).alloc (Nat.le_refl _) _).alloc (by simp) _))).mono ?_
  rintro e w1 ⟨r, rfl, hr, b1⟩
  have n0 : NBlk ((w.alloc (.cells #[.string an, .int .i64 at_, .int .i64 ac, .int .i64 ahi, .int .u64 alo, .int .i64 amn, .int .i64 amx] 27)).alloc (.cells #[.string bn, .int .i64 bt, .int .i64 bc, .int .i64 bhi, .int .u64 blo, .int .i64 bmn, .int .i64 bmx] 27)) w.heap.size ⟨an, at_, ac, ahi, alo, amn, amx⟩ := row_alloc (heap_alloc_new w _)
  have m0 : NBlk ((w.alloc (.cells #[.string an, .int .i64 at_, .int .i64 ac, .int .i64 ahi, .int .u64 alo, .int .i64 amn, .int .i64 amx] 27)).alloc (.cells #[.string bn, .int .i64 bt, .int .i64 bc, .int .i64 bhi, .int .u64 blo, .int .i64 bmn, .int .i64 bmx] 27)) (w.heap.size + 1) ⟨bn, bt, bc, bhi, blo, bmn, bmx⟩ := by
    have h := heap_alloc_new (w.alloc (.cells #[.string an, .int .i64 at_, .int .i64 ac, .int .i64 ahi, .int .u64 alo, .int .i64 amn, .int .i64 amx] 27)) (.cells #[.string bn, .int .i64 bt, .int .i64 bc, .int .i64 bhi, .int .u64 blo, .int .i64 bmn, .int .i64 bmx] 27)
    unfold NBlk
    simpa using h
  have k0 : Below w.heap.size w ((w.alloc (.cells #[.string an, .int .i64 at_, .int .i64 ac, .int .i64 ahi, .int .u64 alo, .int .i64 amn, .int .i64 amx] 27)).alloc (.cells #[.string bn, .int .i64 bt, .int .i64 bc, .int .i64 bhi, .int .u64 blo, .int .i64 bmn, .int .i64 bmx] 27)) := ((Below.refl _ _).alloc (Nat.le_refl _) _).alloc (by simp) _
  have N1 := Hid.of (n0.kept b1)
  have M1 := Hid.of (m0.kept b1)
  have K1 := Hid.of (k0.trans (b1.mono (by have := k0.size; omega)))
  have z1 := b1.size
  have z0 := k0.size
  have q6 : w1.cell? ⟨w.heap.size, 0, none⟩ = some (.string an) := cell_of_row w1 _ 0 _ _ _ N1.out
  have q7 : w1.cell? ⟨w.heap.size + 1, 0, none⟩ = some (.string bn) := cell_of_row w1 _ 0 _ _ _ M1.out
  clear n0 m0 k0 b1 z1 z0
  cases r with
  | false =>
    go_wp2_with fail
    refine (nameAlive_any _).mono ?_
    rintro e w2 ⟨rfl, b2⟩
    have B2 := K1.out.trans (b2.mono K1.out.size)
    go_wp2
    go_ret
    exact ⟨rfl, B2⟩
  | true =>
    obtain ⟨hl, ht⟩ := hr.out rfl
    have HL := Hid.of hl
    have HT := Hid.of ht
    have SZ := Hid.of (fun (s : ByteArray) (h : s ∈ ss) => (show s.size ≤ 1000000 by have := size_total h; omega))
    have HV1 := Hid.of ((HV.out.kept K1.out).cells)
    have l9 : (ss.length : Int) ≤ 60 := by omega
    clear hr hl ht
    go_wp2
    go_loopw [9, 10, 11] (fun gv ov iv wr => ∃ (j : Nat), j ≤ ss.length ∧ iv = .int .i64 j ∧ Hid (gv = .bool ((ss.take j).all nOk)) ∧ Hid (wr.ownsRow w1.heap.size 9 1 ov (nOrder (ss.take j)).length ((nOrder (ss.take j)).map Value.string)) ∧ Hid (Below w1.heap.size w1 wr)) (fun _ _ iv _ => ss.length - (RowKit.intOf iv).toNat)
    case atStart => exact ⟨0, Nat.zero_le _, rfl, Hid.of rfl, Hid.of (World.ownsRow_nil _ _ _ 1), Hid.of (Below.refl _ _)⟩
    case round =>
      obtain ⟨j, hj, rfl, hg, O, hb⟩ := hrel
      by_cases hlt : j < ss.length
      · obtain ⟨g, hgg⟩ : ∃ g, (ss.take j).all nOk = g := ⟨_, rfl⟩
        have hg' := hg.out
        rw [hgg] at hg'
        subst hg'
        obtain ⟨bl, ol, rfl, hl1, hc1⟩ := str_get HV1.out j ss[j] (List.getElem?_eq_getElem hlt)
        have hmem : ss[j] ∈ ss := List.getElem_mem hlt
        have htk : ss.take (j + 1) = ss.take j ++ [ss[j]] := List.take_succ_eq_append_getElem hlt
        have hsz := SZ.out _ hmem
        generalize ss[j] = s at *
        obtain ⟨o, ho⟩ : ∃ o, nOrder (ss.take j) = o := ⟨_, rfl⟩
        have hsn : nOrder (ss.take (j + 1)) = nIns o s := by rw [htk, nOrder_snoc, ho]
        have hall : (ss.take (j + 1)).all nOk = (g && nOk s) := by rw [htk, List.all_append, hgg]; simp
        have ol9 : o.length ≤ 60 := by
          have h1 := nOrder_length (ss.take j)
          rw [ho, List.length_take] at h1
          have := HL.out
          omega
        rw [ho] at O
        have d1 : wr.cell? ⟨bl, ol + j, none⟩ = some (.string s) := by rw [hb.out.cell hl1]; exact hc1
        have HSN := Hid.of hsn
        have HALL := Hid.of hall
        have HSZ := Hid.of hsz
        have OL9 := Hid.of ol9
        have hla : bl < wr.heap.size := by have := hb.out.size; omega
        have i0' : (0 : Int) ≤ (j : Int) := Int.natCast_nonneg _
        have i1 : (j : Int) < (ss.length : Int) := by omega
        clear hg htk hsn hall hsz ol9 hc1 hmem hgg ho q6 q7
        go_upto_region 8 with (fail)
        go_cut [9] (fun gv wx => gv = .bool (g && nOk s) ∧ ∃ q, wx = wr.drewN q)
        case first =>
          cases g
          · go_wp2_with fail
            go_meet
            exact ⟨rfl, 0, rfl⟩
          · go_wp2_with fail
            refine (refName_any s (by have := HSZ.out; unfold maxLen; omega) _).mono ?_
            rintro e x1 ⟨rfl, q, rfl⟩
            go_wp2_with fail
            go_meet
            exact ⟨by simp, q, rfl⟩
        case rest =>
          obtain ⟨rfl, q, rfl⟩ := hcut
          have Oa : Hid ((wr.drewN q).ownsRow w1.heap.size 9 1 u10 o.length (o.map Value.string)) := Hid.of O.out
          have ha := Hid.of (below_drewN hb.out q)
          have da : (wr.drewN q).cell? ⟨bl, ol + j, none⟩ = some (.string s) := d1
          have hla' : bl < (wr.drewN q).heap.size := hla
          clear d1 hb O hla
          generalize wr.drewN q = wa at *
          have Q0 := Hid.of da
          have CB : Hid (Below wa.heap.size wa wa) := Hid.of (Below.refl _ _)
          go_upto_region 9 with (fail)
          go_cut [72] (fun t wx => t = .bool false ∧ Hid (Below wa.heap.size wa wx))
          case first =>
            go_region_held3 (fun w' => w'.cell? ⟨bl, ol + j, none⟩ = some (.string s)) (go_keep) (first | (go_at_call 11; refine (hash_below s HSZ.out _).mono ?_; rintro e' x1 ⟨rfl, c1⟩; have CC : Hid (Below wa.heap.size wa x1) := Hid.of (by first | exact CB.out.drew.trans (c1.mono CB.out.drew.size) | exact CB.out.trans (c1.mono CB.out.size)); clear c1 CB da; have CB := CC; clear CC; have da : x1.cell? ⟨bl, ol + j, none⟩ = some (.string s) := (by rw [CB.out.cell hla']; exact Q0.out)) | (go_at_call 12; refine (refHash_below s HSZ.out _).mono ?_; rintro e' x1 ⟨rfl, c1⟩; have CC : Hid (Below wa.heap.size wa x1) := Hid.of (by first | exact CB.out.drew.trans (c1.mono CB.out.drew.size) | exact CB.out.trans (c1.mono CB.out.size)); clear c1 CB da; have CB := CC; clear CC; have da : x1.cell? ⟨bl, ol + j, none⟩ = some (.string s) := (by rw [CB.out.cell hla']; exact Q0.out)) | (go_at_call 13; refine (shard_below s HSZ.out n _).mono ?_; rintro e' x1 ⟨rfl, c1⟩; have CC : Hid (Below wa.heap.size wa x1) := Hid.of (by first | exact CB.out.drew.trans (c1.mono CB.out.drew.size) | exact CB.out.trans (c1.mono CB.out.size)); clear c1 CB da; have CB := CC; clear CC; have da : x1.cell? ⟨bl, ol + j, none⟩ = some (.string s) := (by rw [CB.out.cell hla']; exact Q0.out)) | (go_at_call 14; refine (refShard_below s HSZ.out n _).mono ?_; rintro e' x1 ⟨rfl, c1⟩; have CC : Hid (Below wa.heap.size wa x1) := Hid.of (by first | exact CB.out.drew.trans (c1.mono CB.out.drew.size) | exact CB.out.trans (c1.mono CB.out.size)); clear c1 CB da; have CB := CC; clear CC; have da : x1.cell? ⟨bl, ol + j, none⟩ = some (.string s) := (by rw [CB.out.cell hla']; exact Q0.out)))
            all_goals
              go_wp2_with fail
              go_meet
              exact ⟨by simp, CB⟩
          case rest =>
            obtain ⟨rfl, CB⟩ := hcut
            have Oc := Hid.of (Oa.out.kept (grown_of_below CB.out) (by cases u10.ownBlock <;> simp))
            obtain ⟨oa, oc, hoe, _⟩ := own_one Oc.out
            subst hoe
            have hb := Hid.of (ha.out.trans (CB.out.mono ha.out.size))
            have dc : wc.cell? ⟨bl, ol + j, none⟩ = some (.string s) := by rw [CB.out.cell hla']; exact Q0.out
            have HO := Hid.of (own_row Oc.out)
            have D0 := Hid.of dc
            clear CB ha Oa da Q0 hla' dc
            go_upto_block 2 with fail
            go_cut [12] (fun kv wx => kv = .int .i64 (nPos o s) ∧ ∃ q, wx = wc.drewN q)
            case first =>
              have dc : wc.cell? ⟨bl, ol + j, none⟩ = some (.string s) := D0.out
              go_wp2_with fail
              go_loopw [12] (fun kv wx => ∃ k : Nat, k ≤ nPos o s ∧ kv = .int .i64 k ∧ ∃ q, wx = wc.drewN q) (fun kv _ => o.length - (RowKit.intOf kv).toNat)
              case atStart => exact ⟨0, Nat.zero_le _, rfl, 0, rfl⟩
              case round =>
                obtain ⟨k, hk, rfl, q, rfl⟩ := hrel
                have hle := nPos_le o s
                by_cases hko : k < o.length
                · obtain ⟨t, ht⟩ : ∃ t, o[k]? = some t := ⟨_, List.getElem?_eq_getElem hko⟩
                  obtain ⟨b2, o2, rfl, h2, hct⟩ := str_get HO.out k t ht
                  have k0 : (0 : Int) ≤ (k : Int) := Int.natCast_nonneg _
                  have k1 : (k : Int) < (o.length : Int) := by omega
                  have o9 : (o.length : Int) ≤ 60 := by have := OL9.out; omega
                  have g1 : decide ((k : Int) < (o.length : Int)) = true := decide_eq_true k1
                  have g2 : decide (k < o.length) = true := decide_eq_true hko
                  have HK := Hid.of hk
                  have HKO := Hid.of hko
                  have HLE := Hid.of hle
                  have HTT := Hid.of ht
                  clear hk hle ht h2
                  by_cases hl : Op.bytesLess t.toList s.toList = true
                  · have HLL := Hid.of hl
                    go_wp2
                    go_quiet (fail)
                    go_wp2
                    go_roundw
                    case rel => exact ⟨k + 1, pos_step HK.out HTT.out HLL.out, by go_num, _, rfl⟩
                    case measure => have := HKO.out; simp [RowKit.intOf]; omega
                  · have hl' : Op.bytesLess t.toList s.toList = false := by simpa using hl
                    have HLL := Hid.of hl'
                    clear hl
                    go_wp2
                    go_quiet (fail)
                    go_wp2
                    go_meet
                    exact ⟨by rw [← pos_end HK.out HTT.out HLL.out], _, by rw [World.drewN_drewN]⟩
                · have hke : k = nPos o s := by omega
                  have g1 : decide ((k : Int) < (o.length : Int)) = false := decide_eq_false (by omega)
                  have g2 : decide (k < o.length) = false := decide_eq_false hko
                  have HKE := Hid.of hke
                  clear hke hk hle
                  go_wp2
                  go_quiet (fail)
                  go_wp2
                  go_meet
                  exact ⟨by rw [← HKE.out], _, by rw [World.drewN_drewN]⟩
            case rest =>
              obtain ⟨rfl, q, rfl⟩ := hcut
              have Od : Hid ((wc.drewN q).ownsRow w1.heap.size 9 1 (.slice oa o.length oc) o.length (o.map Value.string)) := Hid.of Oc.out
              have hb2 := Hid.of (below_drewN hb.out q)
              have D1 : Hid ((wc.drewN q).cell? ⟨bl, ol + j, none⟩ = some (.string s)) := Hid.of D0.out
              have HO1 : Hid (CellRow (wc.drewN q) (.slice oa o.length oc) o.length (o.map Value.string)) := Hid.of HO.out
              clear Oc hb D0 HO
              generalize wc.drewN q = wd at *
              have hle := nPos_le o s
              obtain ⟨k, hk⟩ : ∃ k, nPos o s = k := ⟨_, rfl⟩
              obtain ⟨b, hbb⟩ : ∃ b, decide (¬ o[nPos o s]? = some s) = b := ⟨_, rfl⟩
              have HBB := Hid.of hbb
              have HK := Hid.of hk
              rw [hk] at hle hbb ⊢
              have k0 : (0 : Int) ≤ (k : Int) := Int.natCast_nonneg _
              have k1 : (k : Int) ≤ (o.length : Int) := by omega
              have o9 : (o.length : Int) ≤ 60 := by have := OL9.out; omega
              have HB2 := Hid.of hbb
              have HLE := Hid.of hle
              clear hbb hk hle
              go_upto_region 14 with (fail)
              go_cut [104] (fun t wx => t = .bool b ∧ ∃ q, wx = wd.drewN q)
              case first =>
                have dc : wd.cell? ⟨bl, ol + j, none⟩ = some (.string s) := D1.out
                by_cases hko : k < o.length
                · obtain ⟨t, ht⟩ : ∃ t, o[k]? = some t := ⟨_, List.getElem?_eq_getElem hko⟩
                  obtain ⟨b2, o2, rfl, h2, hct⟩ := str_get HO1.out k t ht
                  have g1 : ((k : Int) == (o.length : Int)) = false := by simp; omega
                  have k2 : (k : Int) < (o.length : Int) := by omega
                  have g3 : (k == o.length) = false := by simp; omega
                  have g4 : decide (k = o.length) = false := decide_eq_false (by omega)
                  have g5 : decide ((k : Int) = (o.length : Int)) = false := decide_eq_false (by omega)
                  have g6 : ¬ (k : Int) = (o.length : Int) := by omega
                  by_cases e : t = s
                  · subst e
                    have hbt : b = false := by rw [← HB2.out, ht]; simp
                    subst hbt
                    have he : (t.toList == t.toList) = true := beq_self_eq_true _
                    clear ht h2 hko
                    go_quiet (fail)
                    go_wp2_with fail
                    go_meet
                    exact ⟨rfl, _, rfl⟩
                  · have hbt : b = true := by rw [← HB2.out, ht]; simp [e]
                    subst hbt
                    have he : (t.toList == s.toList) = false := by
                      cases h : (t.toList == s.toList) with
                      | false => rfl
                      | true => exact absurd (same_lists.1 h) e
                    clear ht h2 hko e
                    go_quiet (fail)
                    go_wp2_with fail
                    go_meet
                    exact ⟨rfl, _, rfl⟩
                · have hke : k = o.length := by have := HLE.out; omega
                  have hbt : b = true := by
                    rw [← HB2.out, hke, List.getElem?_eq_none (Nat.le_refl _)]
                    rfl
                  subst hbt
                  subst hke
                  clear hko
                  go_quiet (fail)
                  go_wp2_with fail
                  go_meet
                  exact ⟨rfl, _, rfl⟩
              case rest =>
                obtain ⟨rfl, q, rfl⟩ := hcut
                have Oe : Hid ((wd.drewN q).ownsRow w1.heap.size 9 1 (.slice oa o.length oc) o.length (o.map Value.string)) := Hid.of Od.out
                have hb3 := Hid.of (below_drewN hb2.out q)
                have D2 : Hid ((wd.drewN q).cell? ⟨bl, ol + j, none⟩ = some (.string s)) := Hid.of D1.out
                have HO2 : Hid (CellRow (wd.drewN q) (.slice oa o.length oc) o.length (o.map Value.string)) := Hid.of HO1.out
                clear Od hb2 D1 HO1
                generalize wd.drewN q = we at *
                cases b
                · have hod : o[k]? = some s := by have := HB2.out; simpa using this
                  have HIN := Hid.of (ins_old (o := o) (s := s) (by rw [HK.out]; exact hod))
                  clear hod
                  go_wp2
                  go_roundw
                  case rel => exact ⟨j + 1, by omega, by go_num, Hid.of (by rw [HALL.out]), Hid.of (by rw [HSN.out, HIN.out]; exact Oe.out), hb3⟩
                  case measure => simp [RowKit.intOf]; omega
                · have hod : ¬ o[k]? = some s := by have := HB2.out; simpa using this
                  have HIN := Hid.of (ins_new (o := o) (s := s) (by rw [HK.out]; exact hod))
                  clear hod
                  have key : (oa = none ∧ oc = 0 ∧ o.length = 0) ∨ ∃ gg, oa = some ⟨gg, 0, none⟩ ∧ o.length ≤ oc := by
                    rcases Oe.out.2 with ⟨h, h'⟩ | ⟨gg, cap, cur, h, _, _, hc, _⟩
                    · simp only [Value.slice.injEq] at h
                      exact .inl ⟨h.1, h.2.2, h'⟩
                    · simp only [Value.slice.injEq] at h
                      obtain ⟨h1, _, rfl⟩ := h
                      exact .inr ⟨gg, h1, hc⟩
                  rcases key with ⟨rfl, rfl, hz⟩ | ⟨gg, rfl, hcap⟩
                  · have ho : o = [] := List.eq_nil_of_length_eq_zero hz
                    subst ho
                    have hk0 : k = 0 := by have := HLE.out; simp at this; exact this
                    subst hk0
                    have de : we.cell? ⟨bl, ol + j, none⟩ = some (.string s) := D2.out
                    have HLB : Hid (bl < we.heap.size) := Hid.of (by have := hb3.out.size; omega)
                    clear hz
                    go_wp2
                    go_region_law (first | (refine step_append_any rfl (.tmp 114) (.tmp 117) 22 rfl we.heap.size 9 i0 (.string ⟨#[]⟩) 1 16 Try.underlying22 HI.out HZ0.out HZ1.out HZ2.out rfl (by decide) (.slice a2 1 e2) 1 _ (by simp [Act.eval]) O2.out (.slice none 0 0) 0 [] (by simp [Act.eval]) (⟨_, _, rfl, .inl rfl⟩) rfl (by simp) (by have := OL9.out; have := HLE.out; unfold maxLen; omega) (by have := OL9.out; have := HLE.out; omega) B2.out.size ?_; intro v3 x3 o3 g3 _; rw [Nat.add_zero, List.append_nil] at o3; obtain ⟨a3, e3, h3, _⟩ := own_one o3; subst h3; have O3 := Hid.of o3; have B3 : Hid (Below we.heap.size we x3) := Hid.of (B2.out.grown g3 B2.out.size (fun kk hk => own_ge O2.out hk)); clear o3 g3) | (refine step_append_any rfl (.tmp 108) (.tmp 113) 22 rfl we.heap.size 9 i0 (.string ⟨#[]⟩) 1 16 Try.underlying22 HI.out HZ0.out HZ1.out HZ2.out rfl (by decide) (.slice a1 0 e1) 0 _ (by simp [Act.eval]) (O1.out.alloc _) (.slice (some ⟨x1.heap.size, 0, none⟩) 1 1) 1 [.string s] (by simp [Act.eval]) ⟨_, _, rfl, .inr ⟨_, 0, rfl, by simp, one_cell x1 _ _⟩⟩ rfl (by simp [Value.oneCell']) (by have := OL9.out; have := HLE.out; unfold maxLen; omega) (by have := OL9.out; have := HLE.out; omega) (by have := B1.out.size; simp; omega) ?_; intro v2 x2 o2 g2 _; rw [Nat.zero_add, List.nil_append] at o2; obtain ⟨a2, e2, h2, _⟩ := own_one o2; subst h2; have O2 := Hid.of o2; have B2 : Hid (Below we.heap.size we x2) := Hid.of ((B1.out.alloc B1.out.size _).grown g2 (by have := B1.out.size; simp; omega) (fun kk hk => own_ge O1.out hk)); clear o2 g2) | (refine step_append_any rfl (.tmp 108) (.tmp 113) 22 rfl we.heap.size 9 i0 (.string ⟨#[]⟩) 1 16 Try.underlying22 HI.out HZ0.out HZ1.out HZ2.out rfl (by decide) (.slice a1 0 e1) 0 _ (by simp [Act.eval]) O1.out (.slice (some ⟨we.heap.size, 0, none⟩) 1 1) 1 [.string s] (by simp [Act.eval]) BK.out rfl (by simp [Value.oneCell']) (by have := OL9.out; have := HLE.out; unfold maxLen; omega) (by have := OL9.out; have := HLE.out; omega) B1.out.size ?_; intro v2 x2 o2 g2 _; rw [Nat.zero_add, List.nil_append] at o2; obtain ⟨a2, e2, h2, _⟩ := own_one o2; subst h2; have O2 := Hid.of o2; have B2 : Hid (Below we.heap.size we x2) := Hid.of (B1.out.grown g2 B1.out.size (fun kk hk => own_ge O1.out hk)); clear o2 g2) | (refine step_append_any rfl (.const (.slice none 0 0)) (.tmp 107) 22 rfl we.heap.size 9 i0 (.string ⟨#[]⟩) 1 16 Try.underlying22 HI.out HZ0.out HZ1.out HZ2.out rfl (by decide) (.slice none 0 0) 0 [] rfl (World.ownsRow_nil _ _ _ 1) (.slice none 0 0) 0 [] (by simp [Act.eval, Act.put]) (⟨_, _, rfl, .inl rfl⟩) rfl (by simp) (by have := OL9.out; have := HLE.out; unfold maxLen; omega) (by have := OL9.out; have := HLE.out; omega) (Nat.le_refl _) ?_; intro v1 x1 o1 g1 _; rw [List.nil_append] at o1; obtain ⟨a1, e1, h1, _⟩ := own_one o1; subst h1; have O1 := Hid.of o1; have B1 : Hid (Below we.heap.size we x1) := Hid.of ((Below.refl _ we).drew.grown g1 (Nat.le_refl _) (fun kk hk => by cases hk));  clear o1 g1; have de1 : x1.cell? ⟨bl, ol + j, none⟩ = some (.string s) := (by rw [B1.out.cell HLB.out]; exact D2.out)) | (refine step_append_any rfl (.const (.slice none 0 0)) (.tmp 107) 22 rfl we.heap.size 9 i0 (.string ⟨#[]⟩) 1 16 Try.underlying22 HI.out HZ0.out HZ1.out HZ2.out rfl (by decide) (.slice none 0 0) 0 [] rfl (World.ownsRow_nil _ _ _ 1) (.slice none 0 0) 0 [] (by simp [Act.eval]) (⟨_, _, rfl, .inl rfl⟩) rfl (by simp) (by have := OL9.out; have := HLE.out; unfold maxLen; omega) (by have := OL9.out; have := HLE.out; omega) (by simp) ?_; intro v1 x1 o1 g1 _; rw [List.nil_append] at o1; obtain ⟨a1, e1, h1, _⟩ := own_one o1; subst h1; have O1 := Hid.of o1; have B1 : Hid (Below we.heap.size we x1) := Hid.of (((Below.refl _ we).drew.alloc (Nat.le_refl _) _).grown g1 (by simp) (fun kk hk => by cases hk)); have BK : Hid (CellRow x1 (.slice (some ⟨we.heap.size, 0, none⟩) 1 1) 1 [.string s]) := Hid.of (CellRow.grown ⟨_, _, rfl, .inr ⟨_, 0, rfl, by simp, one_cell we.drew _ 9⟩⟩ g1 (.inr (by simp [Value.ownBlock]))); clear o1 g1; have de1 : x1.cell? ⟨bl, ol + j, none⟩ = some (.string s) := (by rw [B1.out.cell HLB.out]; exact D2.out)))
                    all_goals
                      have z3 := hb3.out.size
                      have e1 : nOrder (ss.take (j + 1)) = [s] := by
                        rw [HSN.out, HIN.out]
                        simp
                      have O5 : Hid (x3.ownsRow w1.heap.size 9 1 (.slice a3 1 e3) (nOrder (ss.take (j + 1))).length ((nOrder (ss.take (j + 1))).map Value.string)) := Hid.of (by rw [e1]; exact own_mono O3.out z3)
                      have B5 := Hid.of (hb3.out.trans (B3.out.mono z3))
                      clear e1 z3
                      go_wp2
                      go_roundw
                      case rel => exact ⟨j + 1, by omega, by go_num, Hid.of (by rw [HALL.out]), O5, B5⟩
                      case measure => simp [RowKit.intOf]; omega
                  · have de : we.cell? ⟨bl, ol + j, none⟩ = some (.string s) := D2.out
                    have cp : (o.length : Int) ≤ (oc : Int) := by omega
                    have kc : (k : Int) ≤ (oc : Int) := by omega
                    have L1 : Hid (((o.map Value.string).take k).length = k * 1) := Hid.of (by rw [List.length_take, List.length_map]; have := HLE.out; omega)
                    have L3 : Hid (((o.map Value.string).drop k).length = (o.length - k) * 1) := Hid.of (by rw [List.length_drop, List.length_map]; omega)
                    have U1 : Hid (∀ u ∈ (o.map Value.string).take k, u.oneCell' = true) := Hid.of (fun u hu => texts_one o u (List.mem_of_mem_take hu))
                    have U3 : Hid (∀ u ∈ (o.map Value.string).drop k, u.oneCell' = true) := Hid.of (fun u hu => texts_one o u (List.mem_of_mem_drop hu))
                    have R3 : Hid (∀ w', CellRow w' (.slice (some ⟨gg, 0, none⟩) o.length oc) o.length (o.map Value.string) → CellRow w' (.slice (if oc = k then some ⟨gg, 0, none⟩ else some ⟨gg, k, none⟩) (o.length - k) (oc - k)) (o.length - k) ((o.map Value.string).drop k)) := by
                      refine Hid.of fun w' h => ?_
                      by_cases e : oc = k
                      · refine ⟨_, _, rfl, .inl ?_⟩
                        rw [List.drop_eq_nil_iff, List.length_map]
                        omega
                      · rw [if_neg e]
                        have h' := CellRow.drop h (c' := oc - k) k
                        rwa [Nat.zero_add] at h'
                    have HLB : Hid (bl < we.heap.size) := Hid.of (by have := hb3.out.size; omega)
                    go_wp2
                    go_region_law (first | (refine step_append_any rfl (.tmp 114) (.tmp 117) 22 rfl we.heap.size 9 i0 (.string ⟨#[]⟩) 1 16 Try.underlying22 HI.out HZ0.out HZ1.out HZ2.out rfl (by decide) (.slice a2 (k + 1) e2) (k + 1) _ (by simp [Act.eval]) O2.out (.slice (if oc = k then some ⟨gg, 0, none⟩ else some ⟨gg, k, none⟩) (o.length - k) (oc - k)) (o.length - k) ((o.map Value.string).drop k) (by simp [Act.eval]) (by exact (R3.out _ (HO2.out.kept B2.out))) L3.out U3.out (by have := OL9.out; have := HLE.out; unfold maxLen; omega) (by have := OL9.out; have := HLE.out; omega) B2.out.size ?_; intro v3 x3 o3 g3 _; obtain ⟨a3, e3, h3, _⟩ := own_one o3; subst h3; have O3 := Hid.of o3; have B3 : Hid (Below we.heap.size we x3) := Hid.of (B2.out.grown g3 B2.out.size (fun kk hk => own_ge O2.out hk)); clear o3 g3) | (refine step_append_any rfl (.tmp 108) (.tmp 113) 22 rfl we.heap.size 9 i0 (.string ⟨#[]⟩) 1 16 Try.underlying22 HI.out HZ0.out HZ1.out HZ2.out rfl (by decide) (.slice a1 k e1) k _ (by simp [Act.eval]) (O1.out.alloc _) (.slice (some ⟨x1.heap.size, 0, none⟩) 1 1) 1 [.string s] (by simp [Act.eval]) ⟨_, _, rfl, .inr ⟨_, 0, rfl, by simp, one_cell x1 _ _⟩⟩ rfl (by simp [Value.oneCell']) (by have := OL9.out; have := HLE.out; unfold maxLen; omega) (by have := OL9.out; have := HLE.out; omega) (by have := B1.out.size; simp; omega) ?_; intro v2 x2 o2 g2 _; obtain ⟨a2, e2, h2, _⟩ := own_one o2; subst h2; have O2 := Hid.of o2; have B2 : Hid (Below we.heap.size we x2) := Hid.of ((B1.out.alloc B1.out.size _).grown g2 (by have := B1.out.size; simp; omega) (fun kk hk => own_ge O1.out hk)); clear o2 g2) | (refine step_append_any rfl (.tmp 108) (.tmp 113) 22 rfl we.heap.size 9 i0 (.string ⟨#[]⟩) 1 16 Try.underlying22 HI.out HZ0.out HZ1.out HZ2.out rfl (by decide) (.slice a1 k e1) k _ (by simp [Act.eval]) O1.out (.slice (some ⟨we.heap.size, 0, none⟩) 1 1) 1 [.string s] (by simp [Act.eval]) BK.out rfl (by simp [Value.oneCell']) (by have := OL9.out; have := HLE.out; unfold maxLen; omega) (by have := OL9.out; have := HLE.out; omega) B1.out.size ?_; intro v2 x2 o2 g2 _; obtain ⟨a2, e2, h2, _⟩ := own_one o2; subst h2; have O2 := Hid.of o2; have B2 : Hid (Below we.heap.size we x2) := Hid.of (B1.out.grown g2 B1.out.size (fun kk hk => own_ge O1.out hk)); clear o2 g2) | (refine step_append_any rfl (.const (.slice none 0 0)) (.tmp 107) 22 rfl we.heap.size 9 i0 (.string ⟨#[]⟩) 1 16 Try.underlying22 HI.out HZ0.out HZ1.out HZ2.out rfl (by decide) (.slice none 0 0) 0 [] rfl (World.ownsRow_nil _ _ _ 1) (.slice (some ⟨gg, 0, none⟩) k oc) k ((o.map Value.string).take k) (by simp [Act.eval, Act.put]) (by exact (CellRow.take HO2.out k)) L1.out U1.out (by have := OL9.out; have := HLE.out; unfold maxLen; omega) (by have := OL9.out; have := HLE.out; omega) (Nat.le_refl _) ?_; intro v1 x1 o1 g1 _; rw [Nat.zero_add, List.nil_append] at o1; obtain ⟨a1, e1, h1, _⟩ := own_one o1; subst h1; have O1 := Hid.of o1; have B1 : Hid (Below we.heap.size we x1) := Hid.of ((Below.refl _ we).drew.grown g1 (Nat.le_refl _) (fun kk hk => by cases hk));  clear o1 g1; have de1 : x1.cell? ⟨bl, ol + j, none⟩ = some (.string s) := (by rw [B1.out.cell HLB.out]; exact D2.out)) | (refine step_append_any rfl (.const (.slice none 0 0)) (.tmp 107) 22 rfl we.heap.size 9 i0 (.string ⟨#[]⟩) 1 16 Try.underlying22 HI.out HZ0.out HZ1.out HZ2.out rfl (by decide) (.slice none 0 0) 0 [] rfl (World.ownsRow_nil _ _ _ 1) (.slice (some ⟨gg, 0, none⟩) k oc) k ((o.map Value.string).take k) (by simp [Act.eval]) (by exact (CellRow.take (HO2.out.kept ((Below.refl _ we).drew.alloc (Nat.le_refl _) _)) k)) L1.out U1.out (by have := OL9.out; have := HLE.out; unfold maxLen; omega) (by have := OL9.out; have := HLE.out; omega) (by simp) ?_; intro v1 x1 o1 g1 _; rw [Nat.zero_add, List.nil_append] at o1; obtain ⟨a1, e1, h1, _⟩ := own_one o1; subst h1; have O1 := Hid.of o1; have B1 : Hid (Below we.heap.size we x1) := Hid.of (((Below.refl _ we).drew.alloc (Nat.le_refl _) _).grown g1 (by simp) (fun kk hk => by cases hk)); have BK : Hid (CellRow x1 (.slice (some ⟨we.heap.size, 0, none⟩) 1 1) 1 [.string s]) := Hid.of (CellRow.grown ⟨_, _, rfl, .inr ⟨_, 0, rfl, by simp, one_cell we.drew _ 9⟩⟩ g1 (.inr (by simp [Value.ownBlock]))); clear o1 g1; have de1 : x1.cell? ⟨bl, ol + j, none⟩ = some (.string s) := (by rw [B1.out.cell HLB.out]; exact D2.out)))
                    all_goals
                      have z3 := hb3.out.size
                      have e1 : ((o.map Value.string).take k ++ [.string s] ++ (o.map Value.string).drop k) = (nOrder (ss.take (j + 1))).map Value.string := by
                        rw [HSN.out, HIN.out, HK.out]
                        simp
                      have e2 : k + 1 + (o.length - k) = (nOrder (ss.take (j + 1))).length := by
                        have h1 := congrArg List.length e1
                        have h2 := O3.out.1
                        rw [e1, List.length_map] at h2
                        omega
                      have O4 : x3.ownsRow we.heap.size 9 1 (.slice a3 (k + 1 + (o.length - k)) e3) (nOrder (ss.take (j + 1))).length ((nOrder (ss.take (j + 1))).map Value.string) := by
                        rw [← e2, ← e1]
                        exact O3.out
                      have O5 := Hid.of (own_mono O4 z3)
                      have B5 := Hid.of (hb3.out.trans (B3.out.mono z3))
                      clear e1 e2 O4 z3
                      go_wp2
                      go_roundw
                      case rel => exact ⟨j + 1, by omega, by go_num, Hid.of (by rw [HALL.out]), O5, B5⟩
                      case measure => simp [RowKit.intOf]; omega
      · have hjl : j = ss.length := by omega
        subst hjl
        have hg' := hg.out
        have Oe := O.out
        rw [List.take_length] at hg' Oe
        obtain ⟨g, hgg⟩ : ∃ g, ss.all nOk = g := ⟨_, rfl⟩
        rw [hgg] at hg'
        subst hg'
        have HG := Hid.of hgg
        obtain ⟨os, hos⟩ : ∃ os, nOrder ss = os := ⟨_, rfl⟩
        rw [hos] at Oe
        have HOS := Hid.of hos
        have ol := nOrder_length ss
        rw [hos] at ol
        have OL := Hid.of (show os.length ≤ 60 by have := HL.out; omega)
        obtain ⟨oa, oc, hoe, _⟩ := own_one Oe
        subst hoe
        have HO := Hid.of (own_row Oe)
        have HVr := Hid.of (HV1.out.kept hb.out)
        have Nr := Hid.of (N1.out.kept hb.out)
        have Mr := Hid.of (M1.out.kept hb.out)
        have Kr := Hid.of (K1.out.trans (hb.out.mono K1.out.size))
        have Zr := Hid.of (show w.heap.size ≤ wr.heap.size from Kr.out.size)
        clear hlt hj hg O hb hgg hos ol Oe HV1 N1 M1 K1 q6 q7
        generalize wr = wb at *
        go_wp2
        go_loopw [14, 15, 16] (fun kv _ _ wx => ∃ (j : Nat) (V W : Value) (ls : List (Value × Value × List ByteArray)), j ≤ 2 ∧ kv = .int .i64 j ∧ Hid (ls.length = j) ∧ Hid (∀ x ∈ ls, x.2.2.length ≤ 900000) ∧ Hid (Here wb.heap.size (wb.heap.size + 1) (bookT V W) 44 wb wx (tblk V W ls ++ []) [])) (fun kv _ _ _ => 2 - (RowKit.intOf kv).toNat)
        case atStart => exact ⟨0, _, _, [], by omega, rfl, Hid.of rfl, Hid.of (fun x hx => absurd hx List.not_mem_nil), Hid.of (bookT_nil wb.heap.size _ wb _ (heap_alloc_new wb _) ((Below.refl _ _).alloc (Nat.le_refl _) _))⟩
        case round =>
          obtain ⟨j, V, W, ls, hj, rfl, HLL, HLS, H⟩ := hrel
          by_cases hlt : j < 2
          · have j1 : (j : Int) < 2 := by omega
            have HJ := Hid.of hlt
            clear hj hlt
            go_wp2_with fail
            refine (LentTexts_own _ ss _ (HVr.out.kept H.out.fr) (by have := HL.out; omega)).mono ?_
            rintro x n1 ⟨m, r, rfl, lo, c1⟩
            have LO := Hid.of lo
            obtain ⟨lg, lcap, rfl, rfl, lown⟩ := lo
            have H1 := Hid.of (H.out.more c1 lown)
            clear c1 lown
            go_wp2_with fail
            refine (order_any _ ss _ LO.out.lent.row (by have := HL.out; omega) SZ.out).mono ?_
            rintro x n2 ⟨u, rfl, o2, c2⟩
            rw [HOS.out] at o2
            obtain ⟨ua, uc, hue, _⟩ := own_one o2
            subst hue
            have H2 := Hid.of ((H1.out.more c2 o2).perm (row_behind _ _ _))
            clear c2 o2 H H1
            go_wp2_with fail
            refine (tblk_add wb.heap.size _ _ V W _ ls os _ _ wb _ (by rfl) (by rfl) (by have := HLL.out; have := HJ.out; omega) (by have := OL.out; omega) H2.out).mono ?_
            rintro x n3 ⟨rfl, V2, W2, uu, h3⟩
            have H3 : Hid (Here wb.heap.size (wb.heap.size + 1) (bookT V2 W2) 44 wb n3 (tblk V2 W2 (ls ++ [(.slice ua os.length uc, uu, os)]) ++ [⟨9, 1, .slice (some ⟨lg, 0, none⟩) (ss.length + 1) lcap, ss.length + 1, ss.map Value.string ++ [.string markText]⟩]) []) := Hid.of h3
            clear h3 H2
            go_wp2_with fail
            refine (SameTexts_quiet _ _ os _ (tblk_last H3.out) (HO.out.kept H3.out.fr) (by have := OL.out; omega)).mono ?_
            rintro x n4 ⟨rfl, q, rfl⟩
            have H4 := Hid.of (H3.out.drewN q)
            have LO4 := Hid.of (LO.out.again (H4.out.bag.own _ (List.mem_append_right _ (List.mem_singleton.2 rfl))))
            clear LO
            go_wp2_with fail
            refine (valid_any _ ss _ LO4.out.lent.row (by have := HL.out; omega) (fun s hs => by have := SZ.out s hs; unfold maxLen; omega)).mono ?_
            rintro x n5 ⟨rfl, q5, rfl⟩
            rw [HG.out]
            have H5 := Hid.of (H3.out.drewN (q + q5))
            clear H3 H4
            have LO5 := Hid.of (LO4.out.again (H5.out.bag.own _ (List.mem_append_right _ (List.mem_singleton.2 rfl))))
            clear LO4
            go_wp2_with fail
            refine (StaysTexts_any _ _ _ ss _ LO5.out.lent (HVr.out.kept H5.out.fr) (by have := HL.out; omega)).mono ?_
            rintro x n6 ⟨rfl, c6⟩
            have H6 := Hid.of (H5.out.next c6)
            clear H5 LO5 c6
            go_wp2
            go_roundw
            case rel =>
              refine ⟨j + 1, V2, W2, _, by have := HJ.out; omega, by go_num, Hid.of (by have := HLL.out; simp; omega), Hid.of (fun x hx => ?_), Hid.of (H6.out.sublist (rows_bare _))⟩
              rcases List.mem_append.1 hx with hx | hx
              · exact HLS.out x hx
              · rw [List.mem_singleton.1 hx]
                have := OL.out
                simp only
                omega
            case measure => have := HJ.out; simp [RowKit.intOf]; omega
          · have hj2 : j = 2 := by omega
            subst hj2
            clear hj hlt
            have N0 := Hid.of (Nr.out.kept H.out.fr)
            have M0 := Hid.of (Mr.out.kept H.out.fr)
            obtain ⟨a0, a1, a2, a3, a4, a5, a6⟩ := N0.out.at
            obtain ⟨b0, b1, b2, b3, b4, b5, b6⟩ := M0.out.at
            obtain ⟨lr, hlr⟩ : ∃ lr, nLess ⟨an, at_, ac, ahi, alo, amn, amx⟩ ⟨bn, bt, bc, bhi, blo, bmn, bmx⟩ = lr := ⟨_, rfl⟩
            have HLR := Hid.of hlr
            clear hlr
            go_wp2
            go_region_held3 (fun w' => w'.cell? ⟨w.heap.size, 0, none⟩ = some (.string an) ∧ w'.cell? ⟨w.heap.size, 1, none⟩ = some (.int .i64 at_) ∧ w'.cell? ⟨w.heap.size, 2, none⟩ = some (.int .i64 ac) ∧ w'.cell? ⟨w.heap.size, 3, none⟩ = some (.int .i64 ahi) ∧ w'.cell? ⟨w.heap.size, 4, none⟩ = some (.int .u64 alo) ∧ w'.cell? ⟨w.heap.size, 5, none⟩ = some (.int .i64 amn) ∧ w'.cell? ⟨w.heap.size, 6, none⟩ = some (.int .i64 amx) ∧ w'.cell? ⟨w.heap.size + 1, 0, none⟩ = some (.string bn) ∧ w'.cell? ⟨w.heap.size + 1, 1, none⟩ = some (.int .i64 bt) ∧ w'.cell? ⟨w.heap.size + 1, 2, none⟩ = some (.int .i64 bc) ∧ w'.cell? ⟨w.heap.size + 1, 3, none⟩ = some (.int .i64 bhi) ∧ w'.cell? ⟨w.heap.size + 1, 4, none⟩ = some (.int .u64 blo) ∧ w'.cell? ⟨w.heap.size + 1, 5, none⟩ = some (.int .i64 bmn) ∧ w'.cell? ⟨w.heap.size + 1, 6, none⟩ = some (.int .i64 bmx)) (go_keep) (first | (go_at_call 9; refine (nameAlive_any _).mono ?_; rintro x m1 ⟨rfl, c1⟩; have HH1 := Hid.of (H.out.next ((Below.refl _ wr).drew.trans c1)); have N1 := Hid.of (Nr.out.kept HH1.out.fr); have M1 := Hid.of (Mr.out.kept HH1.out.fr); clear c1; clear a0 a1 a2 a3 a4 a5 a6 b0 b1 b2 b3 b4 b5 b6; obtain ⟨a0, a1, a2, a3, a4, a5, a6⟩ := N1.out.at; obtain ⟨b0, b1, b2, b3, b4, b5, b6⟩ := M1.out.at) | (go_at_call 21; refine (Less_named (a := ⟨an, at_, ac, ahi, alo, amn, amx⟩) (b := ⟨bn, bt, bc, bhi, blo, bmn, bmx⟩) HLR.out _).mono ?_; rintro x m2 ⟨rfl, c2⟩; have HH2 := Hid.of (HH1.out.next c2); have N2 := Hid.of (Nr.out.kept HH2.out.fr); have M2 := Hid.of (Mr.out.kept HH2.out.fr); clear c2; clear a0 a1 a2 a3 a4 a5 a6 b0 b1 b2 b3 b4 b5 b6; obtain ⟨a0, a1, a2, a3, a4, a5, a6⟩ := N2.out.at; obtain ⟨b0, b1, b2, b3, b4, b5, b6⟩ := M2.out.at) | (go_at_call 22; refine (refLess_named (a := ⟨an, at_, ac, ahi, alo, amn, amx⟩) (b := ⟨bn, bt, bc, bhi, blo, bmn, bmx⟩) HLR.out _).mono ?_; rintro x m3 ⟨rfl, c3⟩; have HH3 := Hid.of (HH2.out.next c3); have N3 := Hid.of (Nr.out.kept HH3.out.fr); have M3 := Hid.of (Mr.out.kept HH3.out.fr); clear c3; clear a0 a1 a2 a3 a4 a5 a6 b0 b1 b2 b3 b4 b5 b6; obtain ⟨a0, a1, a2, a3, a4, a5, a6⟩ := N3.out.at; obtain ⟨b0, b1, b2, b3, b4, b5, b6⟩ := M3.out.at) | (go_at_call 23; refine (Apart_T wb.heap.size _ V W ls [] _ wb _ (by have := HLL.out; omega) HLS.out HH3.out).mono ?_; rintro x m4 ⟨rfl, c4⟩; have FR := Hid.of c4; have N4 := Hid.of (Nr.out.kept c4); have M4 := Hid.of (Mr.out.kept c4); clear c4; clear a0 a1 a2 a3 a4 a5 a6 b0 b1 b2 b3 b4 b5 b6; obtain ⟨a0, a1, a2, a3, a4, a5, a6⟩ := N4.out.at; obtain ⟨b0, b1, b2, b3, b4, b5, b6⟩ := M4.out.at))
            all_goals
              go_wp2
              go_ret
              exact ⟨by simp, Kr.out.trans (FR.out.mono Zr.out)⟩

end Go.Proofs.Ytopilmancehbiaa
