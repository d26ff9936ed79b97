/-
  RecParts: bytes of two lists, one behind the other, are those of both together.
-/
import Derived.Test.YtfgfgdchaoekfaaDoorQ24
import Derived.Test.YtfgfgdchaoekfaaDoorTFWq
import Derived.Test.YtfgfgdchaoekfaaDoorRSMq
namespace Go.Proofs.YtfgfgdchaoekfaaDoor
open Go.RowKit Go.Lib

theorem txt_append (a b : List UInt8) : txt (a ++ b) = txt a ++ txt b := by
  apply ByteArray.ext
  apply Array.ext'
  simp [txt]

/-- What Put tells of two lists together. -/
theorem rcPut_append (a b : List TRec) : ((rcPut (a ++ b)).2 = 0 ↔ (rcPut a).2 = 0 ∧ (rcPut b).2 = 0) ∧ ((rcPut (a ++ b)).2 = 0 → (rcPut (a ++ b)).1 = (rcPut a).1 ++ (rcPut b).1) := by
  have z : ∀ l : List TRec, (rcPut l).2 = 0 ↔ l.all rcOk = true := fun l => by
    unfold rcPut
    by_cases c : l.all rcOk = true
    · rw [if_pos c]; exact ⟨fun _ => c, fun _ => rfl⟩
    · rw [if_neg c]; exact ⟨fun h => (by cases h), fun h => absurd h c⟩
  have e : (rcPut (a ++ b)).2 = 0 ↔ (rcPut a).2 = 0 ∧ (rcPut b).2 = 0 := by
    rw [z, z, z, List.all_append, Bool.and_eq_true]
  refine ⟨e, fun h => ?_⟩
  have hab := e.1 h
  have h1 := (z _).1 h
  have h2 := (z _).1 hab.1
  have h3 := (z _).1 hab.2
  unfold rcPut
  rw [if_pos h1, if_pos h2, if_pos h3, List.flatMap_append]
  exact txt_append _ _

theorem smPut_append (a b : List SamL) : ((smPut (a ++ b)).2 = 0 ↔ (smPut a).2 = 0 ∧ (smPut b).2 = 0) ∧ ((smPut (a ++ b)).2 = 0 → (smPut (a ++ b)).1 = (smPut a).1 ++ (smPut b).1) := by
  have z : ∀ l : List SamL, (smPut l).2 = 0 ↔ l.all smOk = true := fun l => by
    unfold smPut
    by_cases c : l.all smOk = true
    · rw [if_pos c]; exact ⟨fun _ => c, fun _ => rfl⟩
    · rw [if_neg c]; exact ⟨fun h => (by cases h), fun h => absurd h c⟩
  have e : (smPut (a ++ b)).2 = 0 ↔ (smPut a).2 = 0 ∧ (smPut b).2 = 0 := by
    rw [z, z, z, List.all_append, Bool.and_eq_true]
  refine ⟨e, fun h => ?_⟩
  have hab := e.1 h
  have h1 := (z _).1 h
  have h2 := (z _).1 hab.1
  have h3 := (z _).1 hab.2
  unfold smPut
  rw [if_pos h1, if_pos h2, if_pos h3, List.flatMap_append]
  exact txt_append _ _

theorem rcPut_size (l : List TRec) : (rcPut l).1.size ≤ 64 * l.length := by
  unfold rcPut
  by_cases c : l.all rcOk = true
  · rw [if_pos c]
    show (txt _).size ≤ _
    rw [txt_size, parts_len (k := 64) (fun x hx => rcBytes_len (by
      have h := List.all_eq_true.1 c x hx
      unfold rcOk at h
      simp only [Bool.and_eq_true] at h
      exact (nOk_len h.1.1.1).2))]
    exact Nat.le_refl _
  · rw [if_neg c]
    exact Nat.zero_le _
theorem smPut_size (l : List SamL) : (smPut l).1.size ≤ 32 * l.length := by
  unfold smPut
  by_cases c : l.all smOk = true
  · rw [if_pos c]
    show (txt _).size ≤ _
    rw [txt_size, parts_len (k := 32) (fun x hx => smBytes_len (by
      have h := List.all_eq_true.1 c x hx
      unfold smOk at h
      simp only [Bool.and_eq_true] at h
      exact (nOk_len h.1.1).2))]
    exact Nat.le_refl _
  · rw [if_neg c]
    exact Nat.zero_le _

set_option maxRecDepth 20000 in
set_option maxHeartbeats 3200000 in
theorem recParts_main (S : RecSpec) (av bv sv tv : Value) (a b : List TRec) (ss tt : List SamL) (w : World) (hS : S.Ok w) (ha : CellRow w av a.length (flat renc (a.map rl))) (fa : ∀ x ∈ a, TFit x) (hb : CellRow w bv b.length (flat renc (b.map rl))) (fb : ∀ x ∈ b, TFit x) (hs : CellRow w sv ss.length (flat aenc ss)) (fs : ∀ x ∈ ss, SmIn x) (ht : CellRow w tv tt.length (flat aenc tt)) (ft : ∀ x ∈ tt, SmIn x) :
    Calls Tryd.prog 4 #[av, bv, sv, tv] w fun e w' => e = .returned (.bool true) ∧ Below w.heap.size w w' := by
  obtain ⟨NA, hna⟩ : ∃ n, a.length = n := ⟨_, rfl⟩
  obtain ⟨NB, hnb⟩ : ∃ n, b.length = n := ⟨_, rfl⟩
  obtain ⟨NS, hns⟩ : ∃ n, ss.length = n := ⟨_, rfl⟩
  obtain ⟨NT, hnt⟩ : ∃ n, tt.length = n := ⟨_, rfl⟩
  rw [hna] at ha
  rw [hnb] at hb
  rw [hns] at hs
  rw [hnt] at ht
  have HA := Hid.of ha
  have HB := Hid.of hb
  have HS := Hid.of hs
  have HT := Hid.of ht
  obtain ⟨aa, ac, rfl, -⟩ := ha
  obtain ⟨ba, bc, rfl, -⟩ := hb
  obtain ⟨sa, sc, rfl, -⟩ := hs
  obtain ⟨ta, tc, rfl, -⟩ := ht
  have HNA := Hid.of hna
  have HNB := Hid.of hnb
  have HNS := Hid.of hns
  have HNT := Hid.of hnt
  have FA := Hid.of fa
  have FB := Hid.of fb
  have FS := Hid.of fs
  have FT := Hid.of ft
  have OK := Hid.of hS
  have HAM : Hid (CellRow w (.slice aa NA ac) (a.map rl).length (flat renc (a.map rl))) := Hid.of (by rw [List.length_map, hna]; exact HA.out)
  have HBM : Hid (CellRow w (.slice ba NB bc) (b.map rl).length (flat renc (b.map rl))) := Hid.of (by rw [List.length_map, hnb]; exact HB.out)
  have HSM : Hid (CellRow w (.slice sa NS sc) ss.length (flat aenc ss)) := Hid.of (by rw [hns]; exact HS.out)
  have HTM : Hid (CellRow w (.slice ta NT tc) tt.length (flat aenc tt)) := Hid.of (by rw [hnt]; exact HT.out)
  obtain ⟨hi0, hq0, hq1, hq2, hq3⟩ := info_parts (show (Tryd.prog.info? 43).map (fun i => (i.zero, i.size, i.bytes)) = some (some (.agg #[.string ⟨#[]⟩, .int .i64 0, .int .i64 0, .int .i64 0, .int .u64 0, .int .i64 0, .int .i64 0]), 7, 64) by kernel_rfl)
  obtain ⟨hj0, hp0, hp1, hp2, hp3⟩ := info_parts (show (Tryd.prog.info? 45).map (fun i => (i.zero, i.size, i.bytes)) = some (some (.agg #[.string ⟨#[]⟩, .int .i64 0, .int .i64 0]), 3, 32) by kernel_rfl)
  have HI0 := Hid.of hq0
  have HI1 := Hid.of hq1
  have HI2 := Hid.of hq2
  have HI3 := Hid.of hq3
  have HJ0 := Hid.of hp0
  have HJ1 := Hid.of hp1
  have HJ2 := Hid.of hp2
  have HJ3 := Hid.of hp3
  clear hna hnb hns hnt fa fb fs ft hS hq0 hq1 hq2 hq3 hp0 hp1 hp2 hp3
  have ALV : Hid (∀ w9, Below w.heap.size w w9 → Calls Tryd.prog 7 #[] w9 fun e w' => e = .returned (.bool true) ∧ Below w.heap.size w w') := Hid.of (fun w9 h => by
    refine (recAlive_any S w9 (S.kept OK.out h)).mono ?_
    rintro e w' ⟨he, b⟩
    exact ⟨he, h.trans (b.mono h.size)⟩)
  go_enter Tryd.func4, Tryd.ntmps4
  go_wp2_with fail
  refine (Few_any 20 _ (a.map rl) _ HAM.out (by decide)).mono ?_
  rintro e w2 ⟨r, rfl, hr, b2⟩
  have B2 := Hid.of b2
  clear b2
  cases r
  · go_wp2_with fail
    refine (ALV.out _ B2.out).mono ?_
    rintro e w90 ⟨rfl, b90⟩
    go_wp2
    go_ret
    exact ⟨rfl, b90⟩
  have L1 : Hid (NA ≤ 20) := Hid.of (by have h := (hr.out rfl).1; rw [List.length_map, HNA.out] at h; exact h)
  clear hr
  go_wp2_with fail
  refine (Few_any 20 _ (b.map rl) _ (HBM.out.kept B2.out) (by decide)).mono ?_
  rintro e w3 ⟨r, rfl, hr, b3⟩
  have B3 := Hid.of (B2.out.trans (b3.mono B2.out.size))
  clear b3 B2
  cases r
  · go_wp2_with fail
    refine (ALV.out _ B3.out).mono ?_
    rintro e w90 ⟨rfl, b90⟩
    go_wp2
    go_ret
    exact ⟨rfl, b90⟩
  have L2 : Hid (NB ≤ 20) := Hid.of (by have h := (hr.out rfl).1; rw [List.length_map, HNB.out] at h; exact h)
  clear hr
  go_wp2_with fail
  refine (SmSome_any 20 _ ss _ (HSM.out.kept B3.out) (by decide)).mono ?_
  rintro e w4 ⟨r, rfl, hr, b4⟩
  have B4 := Hid.of (B3.out.trans (b4.mono B3.out.size))
  clear b4 B3
  cases r
  · go_wp2_with fail
    refine (ALV.out _ B4.out).mono ?_
    rintro e w90 ⟨rfl, b90⟩
    go_wp2
    go_ret
    exact ⟨rfl, b90⟩
  have L3 : Hid (NS ≤ 20) := Hid.of (by have h := (hr.out rfl).1; rw [HNS.out] at h; exact h)
  clear hr
  go_wp2_with fail
  refine (SmSome_any 20 _ tt _ (HTM.out.kept B4.out) (by decide)).mono ?_
  rintro e w5 ⟨r, rfl, hr, b5⟩
  have B5 := Hid.of (B4.out.trans (b5.mono B4.out.size))
  clear b5 B4
  cases r
  · go_wp2_with fail
    refine (ALV.out _ B5.out).mono ?_
    rintro e w90 ⟨rfl, b90⟩
    go_wp2
    go_ret
    exact ⟨rfl, b90⟩
  have L4 : Hid (NT ≤ 20) := Hid.of (by have h := (hr.out rfl).1; rw [HNT.out] at h; exact h)
  clear hr
  have l1 : NA ≤ 20 := L1.out
  have l2 : NB ≤ 20 := L2.out
  have l3 : NS ≤ 20 := L3.out
  have l4 : NT ≤ 20 := L4.out
  obtain ⟨x1, hx1⟩ : ∃ t, (rcPut a).1 = t := ⟨_, rfl⟩
  obtain ⟨e1, he1⟩ : ∃ t, (rcPut a).2 = t := ⟨_, rfl⟩
  obtain ⟨x2, hx2⟩ : ∃ t, (rcPut b).1 = t := ⟨_, rfl⟩
  obtain ⟨e2, he2⟩ : ∃ t, (rcPut b).2 = t := ⟨_, rfl⟩
  obtain ⟨x3, hx3⟩ : ∃ t, (rcPut (a ++ b)).1 = t := ⟨_, rfl⟩
  obtain ⟨e3, he3⟩ : ∃ t, (rcPut (a ++ b)).2 = t := ⟨_, rfl⟩
  obtain ⟨y1, hy1⟩ : ∃ t, (smPut ss).1 = t := ⟨_, rfl⟩
  obtain ⟨f1, hf1⟩ : ∃ t, (smPut ss).2 = t := ⟨_, rfl⟩
  obtain ⟨y2, hy2⟩ : ∃ t, (smPut tt).1 = t := ⟨_, rfl⟩
  obtain ⟨f2, hf2⟩ : ∃ t, (smPut tt).2 = t := ⟨_, rfl⟩
  obtain ⟨y3, hy3⟩ : ∃ t, (smPut (ss ++ tt)).1 = t := ⟨_, rfl⟩
  obtain ⟨f3, hf3⟩ : ∃ t, (smPut (ss ++ tt)).2 = t := ⟨_, rfl⟩
  have pe := rcPut_append a b
  rw [hx1, hx2, hx3, he1, he2, he3] at pe
  have qe := smPut_append ss tt
  rw [hy1, hy2, hy3, hf1, hf2, hf3] at qe
  have PE := Hid.of pe
  have QE := Hid.of qe
  have P1 : Hid (∀ W, Below w.heap.size w W → Calls Tryd.prog 8 #[.slice aa NA ac] W fun e w' => e = .returned (.tuple #[.string x1, .int .i64 e1]) ∧ Below W.heap.size W w') := Hid.of (fun W h => by
    rw [← hx1, ← he1]
    exact S.put _ a W (S.kept OK.out h) (by rw [HNA.out]; exact HA.out.kept h) (by have := HNA.out; omega) FA.out)
  have P2 : Hid (∀ W, Below w.heap.size w W → Calls Tryd.prog 8 #[.slice ba NB bc] W fun e w' => e = .returned (.tuple #[.string x2, .int .i64 e2]) ∧ Below W.heap.size W w') := Hid.of (fun W h => by
    rw [← hx2, ← he2]
    exact S.put _ b W (S.kept OK.out h) (by rw [HNB.out]; exact HB.out.kept h) (by have := HNB.out; omega) FB.out)
  have P3 : Hid (∀ W v, Below w.heap.size w W → CellRow W v (NA + NB) (flat renc (a.map rl) ++ flat renc (b.map rl)) → Calls Tryd.prog 8 #[v] W fun e w' => e = .returned (.tuple #[.string x3, .int .i64 e3]) ∧ Below W.heap.size W w') := Hid.of (fun W v h hv => by
    rw [← hx3, ← he3]
    refine S.put _ (a ++ b) W (S.kept OK.out h) (by rw [List.length_append, HNA.out, HNB.out, List.map_append, flat_append]; exact hv) (by rw [List.length_append, HNA.out, HNB.out]; omega) (fun x hx => ?_)
    rcases List.mem_append.1 hx with hx | hx
    · exact FA.out x hx
    · exact FB.out x hx)
  have Q1 : Hid (∀ W, Below w.heap.size w W → Calls Tryd.prog 9 #[.slice sa NS sc] W fun e w' => e = .returned (.tuple #[.string y1, .int .i64 f1]) ∧ Below W.heap.size W w') := Hid.of (fun W h => by
    rw [← hy1, ← hf1]
    exact S.putS _ ss W (S.kept OK.out h) (HSM.out.kept h) (by have := HNS.out; omega) FS.out)
  have Q2 : Hid (∀ W, Below w.heap.size w W → Calls Tryd.prog 9 #[.slice ta NT tc] W fun e w' => e = .returned (.tuple #[.string y2, .int .i64 f2]) ∧ Below W.heap.size W w') := Hid.of (fun W h => by
    rw [← hy2, ← hf2]
    exact S.putS _ tt W (S.kept OK.out h) (HTM.out.kept h) (by have := HNT.out; omega) FT.out)
  have Q3 : Hid (∀ W v, Below w.heap.size w W → CellRow W v (NS + NT) (flat aenc ss ++ flat aenc tt) → Calls Tryd.prog 9 #[v] W fun e w' => e = .returned (.tuple #[.string y3, .int .i64 f3]) ∧ Below W.heap.size W w') := Hid.of (fun W v h hv => by
    rw [← hy3, ← hf3]
    refine S.putS _ (ss ++ tt) W (S.kept OK.out h) (by rw [List.length_append, HNS.out, HNT.out, flat_append]; exact hv) (by rw [List.length_append, HNS.out, HNT.out]; omega) (fun x hx => ?_)
    rcases List.mem_append.1 hx with hx | hx
    · exact FS.out x hx
    · exact FT.out x hx)
  have hcat1 := fun w => run_string_add_sum (P := Tryd.prog) (w := w) x1 x2 (by have h1 := rcPut_size a; have h2 := rcPut_size b; rw [hx1, HNA.out] at h1; rw [hx2, HNB.out] at h2; omega)
  have hcat2 := fun w => run_string_add_sum (P := Tryd.prog) (w := w) y1 y2 (by have h1 := smPut_size ss; have h2 := smPut_size tt; rw [hy1, HNS.out] at h1; rw [hy2, HNT.out] at h2; omega)
  clear hx1 hx2 hx3 he1 he2 he3 hy1 hy2 hy3 hf1 hf2 hf3 pe qe
  go_wp2_with fail
  refine (P1.out _ B5.out).mono ?_
  rintro e w6 ⟨rfl, b6⟩
  have B6 := Hid.of (B5.out.trans (b6.mono B5.out.size))
  clear b6 B5
  go_wp2_with fail
  refine (P2.out _ B6.out).mono ?_
  rintro e w7 ⟨rfl, b7⟩
  have BP := Hid.of (B6.out.trans (b7.mono B6.out.size))
  have HSZ := Hid.of BP.out.size
  clear b7 B6
  go_wp2_with (first | (at_builtin; refine append_row_law rfl _ (.tmp 51) 22 rfl w.heap.size 43 hi0 (.agg #[.string ⟨#[]⟩, .int .i64 0, .int .i64 0, .int .i64 0, .int .u64 0, .int .i64 0, .int .i64 0]) 7 64 Tryd.underlying22 HI0.out HI1.out HI2.out HI3.out rfl (by decide) (.slice none 0 0) 0 [] rfl ⟨rfl, .inl ⟨rfl, rfl⟩⟩ _ NA (flat renc (a.map rl)) rfl (HA.out.kept BP.out) (by rw [flat_length renc_len, List.length_map, HNA.out]) (flat_ones renc_one _) (by unfold maxLen; omega) (by omega) HSZ.out ?_; intro v1 w1 o1 g1; have O1 : Hid (w1.ownsRow w.heap.size 43 7 v1 NA (flat renc (a.map rl))) := Hid.of (by simpa using o1); have C1 : Hid (Below w.heap.size w w1) := Hid.of (BP.out.grown g1 HSZ.out (fun k hk => by cases hk)); clear o1 g1) | (at_builtin; refine append_row_law rfl (.tmp 52) (.tmp 53) 22 rfl w.heap.size 43 hi0 (.agg #[.string ⟨#[]⟩, .int .i64 0, .int .i64 0, .int .i64 0, .int .u64 0, .int .i64 0, .int .i64 0]) 7 64 Tryd.underlying22 HI0.out HI1.out HI2.out HI3.out rfl (by decide) v1 NA _ rfl O1.out _ NB (flat renc (b.map rl)) rfl (HB.out.kept C1.out) (by rw [flat_length renc_len, List.length_map, HNB.out]) (flat_ones renc_one _) (by unfold maxLen; omega) (by omega) C1.out.size ?_; intro v2 w4 o2 g2; have O2 := Hid.of o2; have C2 : Hid (Below w.heap.size w w4) := Hid.of (C1.out.grown g2 C1.out.size (fun k hk => own_ge O1.out hk)); clear o2 g2))
  refine (P3.out _ _ C2.out (own_row O2.out)).mono ?_
  rintro e w8 ⟨rfl, b8⟩
  have B8 := Hid.of (C2.out.trans (b8.mono C2.out.size))
  clear b8 O1 O2 C1 C2 BP HSZ
  go_upto_region 6 with fail
  go_cut [77] from 58 to 77 (fun bv wx => bv = .bool false ∧ Hid (Below w.heap.size w wx))
  case first =>
    by_cases h1 : e1 = 0
    · by_cases h2 : e2 = 0
      · have h3 := PE.out.1.2 ⟨h1, h2⟩
        have h4 := PE.out.2 h3
        subst h1
        subst h2
        subst h3
        subst h4
        go_wp2_with fail
        go_meet
        exact ⟨rfl, B8⟩
      · have h3 : ¬ e3 = 0 := fun c => h2 (PE.out.1.1 c).2
        have k2 : (e2 == 0) = false := by simpa using h2
        have k3 : (e3 == 0) = false := by simpa using h3
        go_wp2_with fail
        go_meet
        exact ⟨rfl, B8⟩
    · have h3 : ¬ e3 = 0 := fun c => h1 (PE.out.1.1 c).1
      have k2 : (e1 == 0) = false := by simpa using h1
      have k3 : (e3 == 0) = false := by simpa using h3
      go_wp2_with fail
      go_meet
      exact ⟨rfl, B8⟩
  case rest =>
    obtain ⟨rfl, B9⟩ := hcut
    rename World => w9
    clear B8
    go_wp2_with fail
    refine (Q1.out _ B9.out).mono ?_
    rintro e w10 ⟨rfl, b6⟩
    have B10 := Hid.of (B9.out.trans (b6.mono B9.out.size))
    clear b6 B9
    go_wp2_with fail
    refine (Q2.out _ B10.out).mono ?_
    rintro e w11 ⟨rfl, b7⟩
    have BP := Hid.of (B10.out.trans (b7.mono B10.out.size))
    have HSZ := Hid.of BP.out.size
    clear b7 B10
    go_wp2_with (first | (at_builtin; refine append_row_law rfl _ (.tmp 89) 23 rfl w.heap.size 45 hj0 (.agg #[.string ⟨#[]⟩, .int .i64 0, .int .i64 0]) 3 32 Tryd.underlying23 HJ0.out HJ1.out HJ2.out HJ3.out rfl (by decide) (.slice none 0 0) 0 [] rfl ⟨rfl, .inl ⟨rfl, rfl⟩⟩ _ NS (flat aenc ss) rfl (HS.out.kept BP.out) (by rw [flat_length aenc_len, HNS.out]) (flat_ones aenc_one _) (by unfold maxLen; omega) (by omega) HSZ.out ?_; intro v1 w1 o1 g1; have O1 : Hid (w1.ownsRow w.heap.size 45 3 v1 NS (flat aenc ss)) := Hid.of (by simpa using o1); have C1 : Hid (Below w.heap.size w w1) := Hid.of (BP.out.grown g1 HSZ.out (fun k hk => by cases hk)); clear o1 g1) | (at_builtin; refine append_row_law rfl (.tmp 90) (.tmp 91) 23 rfl w.heap.size 45 hj0 (.agg #[.string ⟨#[]⟩, .int .i64 0, .int .i64 0]) 3 32 Tryd.underlying23 HJ0.out HJ1.out HJ2.out HJ3.out rfl (by decide) v1 NS _ rfl O1.out _ NT (flat aenc tt) rfl (HT.out.kept C1.out) (by rw [flat_length aenc_len, HNT.out]) (flat_ones aenc_one _) (by unfold maxLen; omega) (by omega) C1.out.size ?_; intro v2 w4 o2 g2; have O2 := Hid.of o2; have C2 : Hid (Below w.heap.size w w4) := Hid.of (C1.out.grown g2 C1.out.size (fun k hk => own_ge O1.out hk)); clear o2 g2))
    refine (Q3.out _ _ C2.out (own_row O2.out)).mono ?_
    rintro e w12 ⟨rfl, b8⟩
    have B12 := Hid.of (C2.out.trans (b8.mono C2.out.size))
    clear b8 O1 O2 C1 C2 BP HSZ
    go_wp2_with fail
    refine (ALV.out _ B12.out).mono ?_
    rintro e w13 ⟨rfl, b13⟩
    have B13 := Hid.of b13
    clear b13
    by_cases h1 : f1 = 0
    · by_cases h2 : f2 = 0
      · have h3 := QE.out.1.2 ⟨h1, h2⟩
        have h4 := QE.out.2 h3
        subst h1
        subst h2
        subst h3
        subst h4
        go_wp2
        go_ret
        exact ⟨rfl, B13.out⟩
      · have h3 : ¬ f3 = 0 := fun c => h2 (QE.out.1.1 c).2
        have k2 : (f2 == 0) = false := by simpa using h2
        have k3 : (f3 == 0) = false := by simpa using h3
        have k4 : (f3 != 0) = true := by simpa using h3
        go_wp2
        go_ret
        exact ⟨rfl, B13.out⟩
    · have h3 : ¬ f3 = 0 := fun c => h1 (QE.out.1.1 c).1
      have k2 : (f1 == 0) = false := by simpa using h1
      have k3 : (f3 == 0) = false := by simpa using h3
      have k4 : (f3 != 0) = true := by simpa using h3
      go_wp2
      go_ret
      exact ⟨rfl, B13.out⟩

end Go.Proofs.YtfgfgdchaoekfaaDoor
