/-
  What statement WordBack answers: true, for every input.
-/
import Derived.Test.YtcjfejhfafiaiaaWI
import Derived.Test.YtcjfejhfafiaiaaWA
import Derived.Test.YtcjfejhfafiaiaaBI
import Derived.Deep.RegionHeld3
import Derived.Deep.QuietTactic
import Derived.BigQuiet
namespace Go.Proofs.Ytcjfejhfafiaiaa
open Go.RowKit Go.Lib

set_option maxRecDepth 20000 in
set_option maxHeartbeats 6400000 in
theorem wordBack_main (S : WordSpec) (v1 v2 : Value) (l : List ByteArray) (gs : List Int) (w : World) (hv1 : StrRow w v1 l) (hv2 : NumRow .i64 w v2 gs) :
    Calls Try.prog 5 #[v1, v2] w fun e w' => e = .returned (.bool true) ∧ Below w.heap.size w w' := by
  have HS := Hid.of hv1
  have HC1 : Hid (CellRow w v1 l.length (l.map Value.string)) := Hid.of hv1.cells
  have HC2 : Hid (CellRow w v2 gs.length (gs.map (Value.int .i64))) := Hid.of (NumRow.cells' hv2)
  obtain ⟨a1, c1, rfl, _⟩ := hv1
  obtain ⟨a2, c2, rfl, _⟩ := hv2
  go_enter Try.func5, Try.ntmps5
  go_wp2_with fail
  refine (Short_sum 40 1500 (by omega) (by omega) _ l _ HS.out).mono ?_
  rintro e w1 ⟨r, rfl, hr, b1⟩
  have B1 := Hid.of b1
  clear b1
  cases r with
  | false =>
    go_wp2_with fail
    refine (wordAlive_any S _).mono ?_
    rintro e w2 ⟨rfl, b2⟩
    go_wp2
    go_ret
    exact ⟨rfl, B1.out.trans (b2.mono B1.out.size)⟩
  | true =>
    have L40 : Hid (l.length ≤ 40 ∧ total l ≤ 1500) := Hid.of (hr.out rfl)
    clear hr
    by_cases hg : 60 < gs.length
    · have hg2 : (60 : Int) < (gs.length : Int) := by omega
      go_wp2_with fail
      refine (wordAlive_any S _).mono ?_
      rintro e w2 ⟨rfl, b2⟩
      go_wp2
      go_ret
      exact ⟨rfl, B1.out.trans (b2.mono B1.out.size)⟩
    · have hg2 : ¬ (60 : Int) < (gs.length : Int) := by omega
      have l9 : (l.length : Int) ≤ 40 := by have := L40.out.1; omega
      clear hg
      go_wp2
      go_loopw [5, 6, 7] (fun tv iv _ wr => ∃ (k : Nat) (text : ByteArray), k ≤ l.length ∧ iv = .int .i64 k ∧ tv = .string text ∧ Hid (Laid l k text) ∧ Hid (text.size ≤ total (l.take k) + 7 * k) ∧ Hid (Below w.heap.size w wr)) (fun _ iv _ _ => l.length - (RowKit.intOf iv).toNat)
      case atStart => exact ⟨0, ⟨#[]⟩, Nat.zero_le _, rfl, rfl, Hid.of (Laid.zero l), Hid.of (Nat.zero_le _), B1⟩
      case round =>
        obtain ⟨k, text, hk, rfl, rfl, LD, TS, BW⟩ := hrel
        by_cases hlt : k < l.length
        · obtain ⟨b, o, rfl, hl, hcell⟩ := str_at HC1.out k hlt rfl
          obtain ⟨s, hs⟩ : ∃ s, l.getD k ByteArray.empty = s := ⟨_, rfl⟩
          rw [hs] at hcell
          have hat : l[k]? = some s := by
            rw [← hs]
            simp [List.getD, hlt]
          have tk := total_take l k hlt
          rw [hs] at tk
          have TK := Hid.of tk
          have AT := Hid.of hat
          have TL := Hid.of (total_take_le l (k + 1))
          have SZ : Hid (s.size ≤ 1500 ∧ text.size ≤ 1780) := Hid.of (by
            have := TL.out
            have := TS.out
            have := L40.out.2
            omega)
          have cs : wr.cell? ⟨b, o + k, none⟩ = some (.string s) := by rw [BW.out.cell hl]; exact hcell
          have HLB := Hid.of hl
          have HCE := Hid.of hcell
          have k0 : (0 : Int) ≤ (k : Int) := by omega
          have k1 : (k : Int) < (l.length : Int) := by omega
          have k41 : (k : Int) < 40 := by omega
          clear hk hs hat tk hl hcell
          cases hw : wIs s with
          | false =>
            have HW := Hid.of hw
            clear hw
            go_wp2_with fail
            refine (S.is s _ (by have := SZ.out; unfold maxLen; omega)).mono ?_
            rintro e w2 ⟨rfl, b2⟩
            rw [HW.out]
            have B2 := Hid.of (BW.out.trans (b2.mono BW.out.size))
            clear b2
            go_wp2_with fail
            refine (wordAlive_any S _).mono ?_
            rintro e w3 ⟨rfl, b3⟩
            go_wp2
            go_ret
            exact ⟨rfl, B2.out.trans (b3.mono B2.out.size)⟩
          | true =>
            have HW := Hid.of hw
            clear hw
            go_wp2_with fail
            refine (S.is s _ (by have := SZ.out; unfold maxLen; omega)).mono ?_
            rintro e w2 ⟨rfl, b2⟩
            rw [HW.out]
            have B2 := Hid.of (BW.out.trans (b2.mono BW.out.size))
            clear b2 cs
            have cs : w2.cell? ⟨b, o + k, none⟩ = some (.string s) := by rw [B2.out.cell HLB.out]; exact HCE.out
            by_cases hkg : k < gs.length
            · have kg : (k : Int) < (gs.length : Int) := by omega
              obtain ⟨b3, o3, rfl, hl3, hc3⟩ := int_at HC2.out k hkg rfl
              obtain ⟨g, hg⟩ : ∃ g, gs.getD k 0 = g := ⟨_, rfl⟩
              rw [hg] at hc3
              have cg : w2.cell? ⟨b3, o3 + k, none⟩ = some (.int .i64 g) := by rw [B2.out.cell hl3]; exact hc3
              have cgA : ∀ ob, (w2.alloc ob).cell? ⟨b3, o3 + k, none⟩ = some (.int .i64 g) := fun ob => by rw [World.cell?_alloc_lt _ _ _ (Nat.lt_of_lt_of_le hl3 B2.out.size)]; exact cg
              have csA : ∀ ob, (w2.alloc ob).cell? ⟨b, o + k, none⟩ = some (.string s) := fun ob => by rw [World.cell?_alloc_lt _ _ _ (Nat.lt_of_lt_of_le HLB.out B2.out.size)]; exact cs
              clear hl3 hc3 hg hkg cg cs
              have key : (wrap64 (g.tmod 5 + 5)).tmod 5 = 0 ∨ (wrap64 (g.tmod 5 + 5)).tmod 5 = 1 ∨ (wrap64 (g.tmod 5 + 5)).tmod 5 = 2 ∨ (wrap64 (g.tmod 5 + 5)).tmod 5 = 3 ∨ (wrap64 (g.tmod 5 + 5)).tmod 5 = 4 := by
                have h1 := Int.tmod_lt_of_pos g (show (0 : Int) < 5 by omega)
                have h2 := Int.lt_tmod_of_pos g (show (0 : Int) < 5 by omega)
                have h3 : wrap64 (g.tmod 5 + 5) = g.tmod 5 + 5 := by unfold wrap64; omega
                rw [h3, Int.tmod_eq_emod_of_nonneg (by omega)]
                omega
              rcases key with hm | hm | hm | hm | hm
              · have hcat := fun w => run_string_add_sum (P := Try.prog) (w := w) text s (by have := SZ.out; omega)
                have hcat2 := fun w => run_string_add_sum (P := Try.prog) (w := w) (text ++ s) (gapOf 0) (by rw [ByteArray.size_append]; have := SZ.out; have := gapOf_size 0; omega)
                have LD2 : Hid (Laid l (k + 1) ((text ++ s) ++ gapOf 0)) := Hid.of (LD.out.next AT.out HW.out 0)
                have TS2 : Hid (((text ++ s) ++ gapOf 0).size ≤ total (l.take (k + 1)) + 7 * (k + 1)) := Hid.of (by
                  rw [ByteArray.size_append, ByteArray.size_append, TK.out]
                  have := TS.out
                  have := gapOf_size 0
                  omega)
                generalize (text ++ s) ++ gapOf 0 = z at hcat2 LD2 TS2
                generalize text ++ s = y at hcat hcat2
                rw [show gapOf 0 = ⟨#[32]⟩ from rfl] at hcat2
                go_wp2
                go_roundw
                case rel => exact ⟨k + 1, z, by omega, by go_num, rfl, LD2, TS2, Hid.of (B2.out.alloc B2.out.size _)⟩
                case measure => simp [RowKit.intOf]; omega
              · have hcat := fun w => run_string_add_sum (P := Try.prog) (w := w) text s (by have := SZ.out; omega)
                have hcat2 := fun w => run_string_add_sum (P := Try.prog) (w := w) (text ++ s) (gapOf 1) (by rw [ByteArray.size_append]; have := SZ.out; have := gapOf_size 1; omega)
                have LD2 : Hid (Laid l (k + 1) ((text ++ s) ++ gapOf 1)) := Hid.of (LD.out.next AT.out HW.out 1)
                have TS2 : Hid (((text ++ s) ++ gapOf 1).size ≤ total (l.take (k + 1)) + 7 * (k + 1)) := Hid.of (by
                  rw [ByteArray.size_append, ByteArray.size_append, TK.out]
                  have := TS.out
                  have := gapOf_size 1
                  omega)
                generalize (text ++ s) ++ gapOf 1 = z at hcat2 LD2 TS2
                generalize text ++ s = y at hcat hcat2
                rw [show gapOf 1 = ⟨#[10]⟩ from rfl] at hcat2
                go_wp2
                go_roundw
                case rel => exact ⟨k + 1, z, by omega, by go_num, rfl, LD2, TS2, Hid.of (B2.out.alloc B2.out.size _)⟩
                case measure => simp [RowKit.intOf]; omega
              · have hcat := fun w => run_string_add_sum (P := Try.prog) (w := w) text s (by have := SZ.out; omega)
                have hcat2 := fun w => run_string_add_sum (P := Try.prog) (w := w) (text ++ s) (gapOf 2) (by rw [ByteArray.size_append]; have := SZ.out; have := gapOf_size 2; omega)
                have LD2 : Hid (Laid l (k + 1) ((text ++ s) ++ gapOf 2)) := Hid.of (LD.out.next AT.out HW.out 2)
                have TS2 : Hid (((text ++ s) ++ gapOf 2).size ≤ total (l.take (k + 1)) + 7 * (k + 1)) := Hid.of (by
                  rw [ByteArray.size_append, ByteArray.size_append, TK.out]
                  have := TS.out
                  have := gapOf_size 2
                  omega)
                generalize (text ++ s) ++ gapOf 2 = z at hcat2 LD2 TS2
                generalize text ++ s = y at hcat hcat2
                rw [show gapOf 2 = ⟨#[32, 9, 32]⟩ from rfl] at hcat2
                go_wp2
                go_roundw
                case rel => exact ⟨k + 1, z, by omega, by go_num, rfl, LD2, TS2, Hid.of (B2.out.alloc B2.out.size _)⟩
                case measure => simp [RowKit.intOf]; omega
              · have hcat := fun w => run_string_add_sum (P := Try.prog) (w := w) text s (by have := SZ.out; omega)
                have hcat2 := fun w => run_string_add_sum (P := Try.prog) (w := w) (text ++ s) (gapOf 3) (by rw [ByteArray.size_append]; have := SZ.out; have := gapOf_size 3; omega)
                have LD2 : Hid (Laid l (k + 1) ((text ++ s) ++ gapOf 3)) := Hid.of (LD.out.next AT.out HW.out 3)
                have TS2 : Hid (((text ++ s) ++ gapOf 3).size ≤ total (l.take (k + 1)) + 7 * (k + 1)) := Hid.of (by
                  rw [ByteArray.size_append, ByteArray.size_append, TK.out]
                  have := TS.out
                  have := gapOf_size 3
                  omega)
                generalize (text ++ s) ++ gapOf 3 = z at hcat2 LD2 TS2
                generalize text ++ s = y at hcat hcat2
                rw [show gapOf 3 = ⟨#[32, 35, 32, 120, 32, 121, 10]⟩ from rfl] at hcat2
                go_wp2
                go_roundw
                case rel => exact ⟨k + 1, z, by omega, by go_num, rfl, LD2, TS2, Hid.of (B2.out.alloc B2.out.size _)⟩
                case measure => simp [RowKit.intOf]; omega
              · have hcat := fun w => run_string_add_sum (P := Try.prog) (w := w) text s (by have := SZ.out; omega)
                have hcat2 := fun w => run_string_add_sum (P := Try.prog) (w := w) (text ++ s) (gapOf 4) (by rw [ByteArray.size_append]; have := SZ.out; have := gapOf_size 4; omega)
                have LD2 : Hid (Laid l (k + 1) ((text ++ s) ++ gapOf 4)) := Hid.of (LD.out.next AT.out HW.out 4)
                have TS2 : Hid (((text ++ s) ++ gapOf 4).size ≤ total (l.take (k + 1)) + 7 * (k + 1)) := Hid.of (by
                  rw [ByteArray.size_append, ByteArray.size_append, TK.out]
                  have := TS.out
                  have := gapOf_size 4
                  omega)
                generalize (text ++ s) ++ gapOf 4 = z at hcat2 LD2 TS2
                generalize text ++ s = y at hcat hcat2
                rw [show gapOf 4 = ⟨#[10, 10, 35, 32, 122, 10]⟩ from rfl] at hcat2
                go_wp2
                go_roundw
                case rel => exact ⟨k + 1, z, by omega, by go_num, rfl, LD2, TS2, Hid.of (B2.out.alloc B2.out.size _)⟩
                case measure => simp [RowKit.intOf]; omega
            · have kg : ¬ (k : Int) < (gs.length : Int) := by omega
              clear hkg
              have hcat := fun w => run_string_add_sum (P := Try.prog) (w := w) text s (by have := SZ.out; omega)
              have hcat2 := fun w => run_string_add_sum (P := Try.prog) (w := w) (text ++ s) (gapOf 0) (by rw [ByteArray.size_append]; have := SZ.out; have := gapOf_size 0; omega)
              have LD2 : Hid (Laid l (k + 1) ((text ++ s) ++ gapOf 0)) := Hid.of (LD.out.next AT.out HW.out 0)
              have TS2 : Hid (((text ++ s) ++ gapOf 0).size ≤ total (l.take (k + 1)) + 7 * (k + 1)) := Hid.of (by
                rw [ByteArray.size_append, ByteArray.size_append, TK.out]
                have := TS.out
                have := gapOf_size 0
                omega)
              generalize (text ++ s) ++ gapOf 0 = z at hcat2 LD2 TS2
              generalize text ++ s = y at hcat hcat2
              rw [show gapOf 0 = ⟨#[32]⟩ from rfl] at hcat2
              go_wp2
              go_roundw
              case rel => exact ⟨k + 1, z, by omega, by go_num, rfl, LD2, TS2, Hid.of (B2.out)⟩
              case measure => simp [RowKit.intOf]; omega
        · have hkl : k = l.length := by omega
          subst hkl
          obtain ⟨wq, hwq⟩ : ∃ wq, wq = wr := ⟨_, rfl⟩
          subst hwq
          have TZ : Hid (text.size ≤ 1780) := Hid.of (by
            have e1 := TS.out
            rw [List.take_length] at e1
            have := L40.out
            omega)
          obtain ⟨ws, hws, hwl, hwp⟩ := LD.out.cut (by have := TZ.out; omega)
          have WS := Hid.of hws
          have WLn : Hid (ws.length = l.length) := Hid.of (by rw [← hwl, List.length_map])
          have WL := Hid.of hwl
          have WP := Hid.of hwp
          clear hk hws hwl hwp
          obtain ⟨n, hn⟩ : ∃ n, l.length = n := ⟨_, rfl⟩
          have HN := Hid.of hn
          rw [hn] at WLn l9 HC1 ⊢
          have n40 : Hid (n ≤ 40) := Hid.of (by omega)
          clear hn
          go_wp2_with fail
          refine (cut_good S text ws _ (by have := TZ.out; unfold maxLen; omega) WS.out).mono ?_
          rintro e w2 ⟨p, F, rfl, h2⟩
          have H2 := Hid.of h2
          clear h2
          go_wp2_with fail
          refine (H2.out.len (by have := WLn.out; have := n40.out; omega)).mono ?_
          rintro e w3 ⟨rfl, h3, -⟩
          rw [WLn.out]
          have H3 := Hid.of h3
          clear h3 H2
          go_wp2
          go_loopw [11, 12, 13] (fun iv _ _ wx => ∃ (j : Nat) (F : Nat → Prop), j ≤ n ∧ iv = .int .i64 j ∧ Hid (WHere S wq.heap.size wq wx p (ws.drop j) F)) (fun iv _ _ _ => n - (RowKit.intOf iv).toNat)
          case atStart => exact ⟨0, F, Nat.zero_le _, rfl, H3⟩
          case round =>
            obtain ⟨j, F2, hj, rfl, H⟩ := hrel
            by_cases hlt : j < n
            · have hlw : j < ws.length := by rw [WLn.out]; exact hlt
              obtain ⟨x, hx⟩ : ∃ x, ws[j]? = some x := ⟨_, List.getElem?_eq_getElem hlw⟩
              have hd : ws.drop j = x :: ws.drop (j + 1) := by
                rw [List.drop_eq_getElem_cons hlw]
                rw [List.getElem?_eq_getElem hlw] at hx
                simp only [Option.some.injEq] at hx
                rw [hx]
              obtain ⟨s, ln, col⟩ := x
              have hp := WP.out _ (List.mem_of_getElem? hx)
              have hls : l[j]? = some s := by
                rw [← WL.out, List.getElem?_map, hx]
                rfl
              obtain ⟨b, o, rfl, hl, hcell⟩ := str_at HC1.out j (by rw [HN.out]; exact hlt) HN.out.symm
              rw [show l.getD j ByteArray.empty = s by simp [List.getD, hls]] at hcell
              have HCE := Hid.of hcell
              have HLB := Hid.of hl
              have n1 : decide (ln < 1) = false := decide_eq_false (by have := hp.1; simp only at this; omega)
              have n2 : decide (col < 1) = false := decide_eq_false (by have := hp.2; simp only at this; omega)
              have p1 : ¬ ln < 1 := by have := hp.1; simp only at this; omega
              have p2 : ¬ col < 1 := by have := hp.2; simp only at this; omega
              have j0 : (0 : Int) ≤ (j : Int) := by omega
              have j1 : (j : Int) < (n : Int) := by omega
              have se : (s.toList == s.toList) = true := beq_self_eq_true _
              have DL : Hid ((ws.drop j).length ≤ 4000) := Hid.of (by rw [List.length_drop, WLn.out]; have := n40.out; omega)
              have H1 := Hid.of H.out
              have HD := Hid.of hd
              clear hlw hx hd hp hls hl hcell hj H
              go_wp2_with fail
              refine (H1.out.next_ DL.out (x := (s, ln, col)) (b := true) (by rw [HD.out]; rfl) (l' := ws.drop (j + 1)) (by rw [HD.out]; rfl)).mono ?_
              rintro e w3 ⟨rfl, F3, h3, -⟩
              have H3 := Hid.of h3
              clear h3
              obtain ⟨w4, hw4⟩ : ∃ w4, w3.alloc (.cells #[.string s, .int .i64 ln, .int .i64 col] 44) = w4 := ⟨_, rfl⟩
              have K4 : Hid (WBlk w4 w3.heap.size (s, ln, col)) := Hid.of (by rw [← hw4]; exact WBlk.made w3 (s, ln, col))
              have H4 : Hid (WHere S wq.heap.size wq w4 p (ws.drop (j + 1)) F3) := Hid.of (by rw [← hw4]; exact H3.out.next ((Below.refl _ _).alloc (Nat.le_refl _) _))
              have HW4 := Hid.of hw4
              clear hw4
              obtain ⟨c0, c1, c2⟩ := K4.out.at
              have cs : w4.cell? ⟨b, o + j, none⟩ = some (.string s) := by
                rw [(BW.out.trans (H4.out.fr.mono BW.out.size)).cell HLB.out]
                exact HCE.out
              go_wp2_with fail
              rw [HW4.out]
              go_quiet (fail)
              go_wp2
              go_roundw
              case rel => exact ⟨j + 1, F3, by omega, by go_num, Hid.of (H4.out.next (below_drewN (Below.refl _ _) _))⟩
              case measure => simp [RowKit.intOf]; omega
            · have hjn : j = n := by omega
              subst hjn
              go_wp2_with fail
              refine (wordAlive_any S _).mono ?_
              rintro e w9 ⟨rfl, b9⟩
              go_wp2
              go_ret
              exact ⟨rfl, BW.out.trans ((H.out.next b9).fr.mono BW.out.size)⟩

end Go.Proofs.Ytcjfejhfafiaiaa
