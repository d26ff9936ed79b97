/-
  RecSamples: what package rec lays and gets is what the document's own words do; what was handed in stays; the lists lie apart.
-/
import Derived.Deep.RegionHeld3
import Derived.Test.YtfgfgdchaoekfaaGreatDoorQ24
import Derived.Test.YtfgfgdchaoekfaaGreatDoorREUq
import Derived.Test.YtfgfgdchaoekfaaGreatDoorKXAq
import Derived.Test.YtfgfgdchaoekfaaGreatDoorBLPq
import Derived.Test.YtfgfgdchaoekfaaGreatDoorRSMq
namespace Go.Proofs.YtfgfgdchaoekfaaGreatDoor
open Go.RowKit Go.Lib

/-- The mark behind lent samples. -/
def smMark : SamL := (⟨#[]⟩, -77, 0)

set_option maxHeartbeats 400000 in
theorem LentSamples_own (v : Value) (l : List SamL) (w : World) (hv : CellRow w v l.length (flat aenc l)) (hn : l.length ≤ 1000000) :
    Calls Tryz.prog 19 #[v] w fun e w' => ∃ g cap, e = .returned (.slice (some ⟨g, 0, none⟩) l.length cap) ∧ w'.ownsRow w.heap.size 107 3 (.slice (some ⟨g, 0, none⟩) (l.length + 1) cap) (l.length + 1) (flat aenc (l ++ [smMark])) ∧ Below w.heap.size w w' := by
  have HC := Hid.of hv
  obtain ⟨sa, c, rfl, _⟩ := hv
  obtain ⟨i0, hi, hz0, hz1, hz2⟩ := info_parts (show (Tryz.prog.info? 107).map (fun i => (i.zero, i.size, i.bytes)) = some (some (.agg #[.string ⟨#[]⟩, .int .i64 0, .int .i64 0]), 3, 32) by kernel_rfl)
  have HI := Hid.of hi
  have HZ0 := Hid.of hz0
  have HZ1 := Hid.of hz1
  have HZ2 := Hid.of hz2
  clear hi hz0 hz1 hz2
  go_enter Tryz.func19, Tryz.ntmps19
  go_wp2_with (first | (at_builtin; refine append_row_law rfl _ (.tmp 3) 52 rfl w.heap.size 107 i0 (.agg #[.string ⟨#[]⟩, .int .i64 0, .int .i64 0]) 3 32 Tryz.underlying52 HI.out HZ0.out HZ1.out HZ2.out rfl (by decide) (.slice none 0 0) 0 [] rfl ⟨rfl, .inl ⟨rfl, rfl⟩⟩ _ l.length _ rfl HC.out (flat_length aenc_len l) (flat_ones aenc_one l) (by unfold maxLen; omega) (by omega) (Nat.le_refl _) ?_; intro v1 w1 o1 g1; have O1 : Hid (w1.ownsRow w.heap.size 107 3 v1 l.length (flat aenc l)) := Hid.of (by simpa using o1); have b1 : Below w.heap.size w w1 := below_of_none g1; clear o1 g1) | (at_builtin; refine append_row_law rfl (.tmp 4) (.tmp 6) 52 rfl w.heap.size 107 i0 (.agg #[.string ⟨#[]⟩, .int .i64 0, .int .i64 0]) 3 32 Tryz.underlying52 HI.out HZ0.out HZ1.out HZ2.out rfl (by decide) v1 l.length _ rfl (O1.out.alloc _) (.slice (some ⟨w1.heap.size, 0, none⟩) 1 1) 1 (aenc smMark) rfl ⟨_, _, rfl, .inr ⟨_, 0, rfl, by simp, new_cells w1 _ _⟩⟩ rfl (aenc_one smMark) (by unfold maxLen; omega) (by omega) (by simp; have := b1.size; omega) ?_; intro v2 w2 o2 g2; have o3 := o2; obtain ⟨hl2, h2⟩ := o2; obtain ⟨g, cap, cur, rfl, hB, hrow, hcap, hmax, hcs, htk⟩ := h2.resolve_left (by simp)))
  go_ret
  have ef : flat aenc (l ++ [smMark]) = flat aenc l ++ aenc smMark := by rw [flat_append, flat_one]
  exact ⟨g, cap, rfl, by rw [ef]; exact o3, (b1.alloc b1.size _).grown g2 (by have := b1.size; simp; omega) (fun k hk => own_ge O1.out hk)⟩

/-- Lent ones, out of the row of one's own that they lie in. -/
theorem lent_smps_of {w : World} {D g cap : Nat} {l : List SamL} (h : w.ownsRow D 107 3 (.slice (some ⟨g, 0, none⟩) (l.length + 1) cap) (l.length + 1) (flat aenc (l ++ [smMark]))) : LentRow w D (.slice (some ⟨g, 0, none⟩) l.length cap) l.length (flat aenc l) (aenc smMark) := by
  have ef : flat aenc (l ++ [smMark]) = flat aenc l ++ aenc smMark := by rw [flat_append, flat_one]
  rw [ef] at h
  rcases h.2 with ⟨h1, _⟩ | ⟨g', cap', cur, hv, hB, hrow, hcap, hmax, hcs, htk⟩
  · cases h1
  · cases hv
    refine ⟨g, cap, rfl, hB, (Array.getElem?_eq_some_iff.1 hrow).1, hcap, hmax, fun j u hj => ?_⟩
    rw [Nat.zero_add, cell_of_row w g j _ _ _ hrow]
    rw [← htk] at hj
    rw [List.getElem?_take] at hj
    split at hj
    · simpa using hj
    · cases hj

set_option maxHeartbeats 400000 in
theorem StaysSamples_any (B : Nat) (u v : Value) (l : List SamL) (w : World) (hu : LentRow w B u l.length (flat aenc l) (aenc smMark)) (hv : CellRow w v l.length (flat aenc l)) (hn : l.length ≤ 1000000) :
    Calls Tryz.prog 26 #[u, v] w fun e w' => e = .returned (.bool true) ∧ Below w.heap.size w w' := by
  have HU := Hid.of hu.row
  have HV := Hid.of hv
  obtain ⟨g, cap, rfl, hB, hg, hc, hm, hcs⟩ := hu
  have hmark := hcs (l.length * 3 + 1) (.int .i64 (-77)) (by rw [List.getElem?_append_right (by rw [flat_length aenc_len]; omega), flat_length aenc_len]; simp [aenc, smMark])
  rw [Nat.zero_add] at hmark
  have HM := Hid.of hmark
  have c0 : (l.length : Int) + 1 ≤ (cap : Int) := by omega
  clear hcs hm hB hmark
  go_enter Tryz.func26, Tryz.ntmps26
  go_wp2_with fail
  refine (SameSamples_quiet _ _ l _ HU.out HV.out hn).mono ?_
  rintro e w1 ⟨rfl, q, rfl⟩
  have hmark := HM.out
  go_wp2
  go_ret
  exact ⟨rfl, below_drewN (Below.refl _ _) _⟩

theorem perm_xy (x y m : Row1) (A : List Row1) : (y :: x :: m :: (A ++ [])).Perm (x :: (A ++ [y, m])) := by
  classical
  rw [List.perm_iff_count]
  intro a
  simp only [List.count_append, List.count_cons, List.count_nil]
  omega

/-- A list that the Book keeps, as it is. -/
theorem ablk_has' {p D : Nat} {cs : Array Value} {T : TypeId} {w0 w : World} {V W : Value} {ls : List (Value × Value × List SamL)} {rows qs : List Row1} (h : Here p D cs T w0 w rows qs) (hs : ∀ r ∈ ablk V W ls, r ∈ rows) (y : Value × Value × List SamL) (hy : y ∈ ls) : CellRow w y.1 y.2.2.length (flat aenc y.2.2) := by
  have m1 : atodo (akept y) ∈ rows := by
    refine hs _ (List.mem_cons_of_mem _ (List.mem_append_left _ ?_))
    rw [arows_zero, List.map_map]
    exact List.mem_map.2 ⟨y, hy, rfl⟩
  have o1 := own_row (h.bag.own _ m1)
  simp only [atodo, akept] at o1
  exact o1

theorem bookA_built : Tryz.prog.built 35 [] = some (bookA (.slice none 0 0) (.slice none 0 0)) := by kernel_rfl

set_option maxRecDepth 20000 in
set_option maxHeartbeats 3200000 in
theorem recSamples_main (S : RecSpec) (lv : Value) (l : List SamL) (b : ByteArray) (w : World) (hS : S.Ok w) (hl : CellRow w lv l.length (flat aenc l)) (fit : ∀ x ∈ l, SmIn x) :
    Calls Tryz.prog 4 #[lv, .string b] w fun e w' => e = .returned (.bool true) ∧ Below w.heap.size w w' := by
  have HL := Hid.of hl
  obtain ⟨la, lc, rfl, -⟩ := hl
  obtain ⟨N, hN⟩ : ∃ N, l.length = N := ⟨_, rfl⟩
  have HN := Hid.of hN
  have FIT := Hid.of fit
  have OK := Hid.of hS
  rw [hN] at HL ⊢
  have HLM : Hid (CellRow w (.slice la N lc) l.length (flat aenc l)) := Hid.of (by rw [hN]; exact HL.out)
  clear hN fit hS
  have BAD : Hid (∀ w9, Below w.heap.size w w9 → Calls Tryz.prog 6 #[] w9 fun e w' => e = .returned (.bool true) ∧ Below w.heap.size w w') := Hid.of (fun w9 h => by
    refine (recAlive_any S w9 (S.kept OK.out h)).mono ?_
    rintro e w' ⟨he, b⟩
    exact ⟨he, h.trans (b.mono h.size)⟩)
  go_enter Tryz.func4, Tryz.ntmps4
  go_wp2_with fail
  refine (SmSome_any 40 _ l _ HLM.out (by decide)).mono ?_
  rintro e w2 ⟨r, rfl, hr, b2⟩
  have B2 := Hid.of b2
  clear b2
  cases r with
  | false =>
    go_wp2_with fail
    refine (BAD.out _ B2.out).mono ?_
    rintro e w3 ⟨rfl, b3⟩
    go_wp2
    go_ret
    exact ⟨rfl, b3⟩
  | true =>
    have N40 : Hid (N ≤ 40) := Hid.of (by have h := (hr.out rfl).1; rw [HN.out] at h; exact h)
    clear hr
    by_cases hb : (3000 : Int) < (b.size : Int)
    · go_wp2_with fail
      refine (BAD.out _ B2.out).mono ?_
      rintro e w3 ⟨rfl, b3⟩
      go_wp2
      go_ret
      exact ⟨rfl, b3⟩
    have BS : Hid (b.size ≤ 3000) := Hid.of (by omega)
    obtain ⟨t1, ht1⟩ : ∃ t, (smPut l).1 = t := ⟨_, rfl⟩
    obtain ⟨t2, ht2⟩ : ∃ t, (smPut l).2 = t := ⟨_, rfl⟩
    obtain ⟨g2, hg2⟩ : ∃ t, (smGet b).2 = t := ⟨_, rfl⟩
    obtain ⟨GL, hGL⟩ : ∃ t, (smGet b).1 = t := ⟨_, rfl⟩
    have PUT : Hid (∀ W (v : Value), S.Ok W → CellRow W v l.length (flat aenc l) → Calls Tryz.prog 20 #[v] W fun e w' => e = .returned (.tuple #[.string t1, .int .i64 t2]) ∧ Below W.heap.size W w') := Hid.of (fun W v h1 h2 => by
      rw [← ht1, ← ht2]
      exact S.putS v l W h1 h2 (by have := N40.out; have := HN.out; omega) FIT.out)
    have RPUT : Hid (∀ W (v : Value), CellRow W v l.length (flat aenc l) → Calls Tryz.prog 21 #[v] W fun e w' => e = .returned (.tuple #[.string t1, .int .i64 t2]) ∧ Below W.heap.size W w') := Hid.of (fun W v h2 => by
      rw [← ht1, ← ht2]
      exact refPutSams_any v l W h2 (by have := N40.out; have := HN.out; omega) FIT.out)
    have GET : Hid (∀ W, S.Ok W → Calls Tryz.prog 22 #[.string b] W fun e w' => ∃ u, e = .returned (.tuple #[u, .int .i64 g2]) ∧ w'.ownsRow W.heap.size 107 3 u GL.length (flat aenc GL) ∧ Below W.heap.size W w') := Hid.of (fun W h1 => by
      rw [← hg2, ← hGL]
      exact S.getS b W h1 (by have := BS.out; omega))
    have RGET : Hid (∀ W, Calls Tryz.prog 23 #[.string b] W fun e w' => ∃ u, e = .returned (.tuple #[u, .int .i64 g2]) ∧ w'.ownsRow W.heap.size 107 3 u GL.length (flat aenc GL) ∧ Below W.heap.size W w') := Hid.of (fun W => by
      rw [← hg2, ← hGL]
      exact refGetSams_any b (by have := BS.out; omega) W)
    have GLN : Hid (GL.length ≤ 3000) := Hid.of (by
      have h : (smGet b).1.length ≤ b.size := by
        unfold smGet
        by_cases c1 : b.size % 32 ≠ 0
        · rw [if_pos c1]; exact Nat.zero_le _
        · rw [if_neg c1]
          split
          · rw [List.length_map, List.length_range]; omega
          · exact Nat.zero_le _
      rw [hGL] at h
      have := BS.out
      omega)
    clear ht1 ht2 hg2 hGL
    go_upto_region 3 with fail
    clear hb
    go_wp2_with (first
      | (refine wpList_builtP rfl 35 [] rfl (bookA (.slice none 0 0) (.slice none 0 0)) bookA_built ?_)
      | (refine wpList_boxedP rfl 35 _ rfl (bookA (.slice none 0 0) (.slice none 0 0)) rfl ?_
         obtain ⟨q, hq⟩ : ∃ q, w2.heap.size = q := ⟨_, rfl⟩
         obtain ⟨w3, hw3⟩ : ∃ w3, w2.alloc (.cells (bookA (.slice none 0 0) (.slice none 0 0)) 35) = w3 := ⟨_, rfl⟩
         rw [hw3, hq]
         have J3 : Hid (Here q (q + 1) (bookA (.slice none 0 0) (.slice none 0 0)) 35 w2 w3 (ablk (.slice none 0 0) (.slice none 0 0) [] ++ []) []) := Hid.of (by
           rw [← hw3, ← hq]
           exact bookA_nil w2.heap.size 35 w2 _ (Go.heap_alloc_new _ _) ((Below.refl _ _).alloc (Nat.le_refl _) _))
         have HQ := Hid.of hq
         clear hw3 hq))
    have QB : Hid (∀ W, Below q w2 W → Below w.heap.size w W) := Hid.of (fun W h => B2.out.trans (h.mono (by have := HQ.out; have := B2.out.size; omega)))
    go_loopg [6, 7, 8, 9, 10, 11, 12, 13, 14, 15] 2 (fun kx kv x7 x8 x9 x10 x11 x12 x13 x14 x15 wr => ∃ (k : Nat) (V W : Value) (L : List (Value × Value × List SamL)), kv = .int .i64 k ∧ k ≤ 2 ∧ 2 - k ≤ kx ∧ Hid (Here q (q + 1) (bookA V W) 35 w2 wr (ablk V W L ++ []) []) ∧ Hid (L.length ≤ k ∧ ∀ y ∈ L, y.2.2.length ≤ 900000))
    case atStart => exact ⟨0, _, _, [], rfl, Nat.zero_le _, Nat.le_refl _, J3, Hid.of ⟨Nat.zero_le _, fun _ h => absurd h List.not_mem_nil⟩⟩
    case round =>
      clear J3
      obtain ⟨k, V, W, L, rfl, hk, hkx, J, LL⟩ := hrel
      have k0 : (0 : Int) ≤ (k : Int) := Int.natCast_nonneg _
      by_cases hlt : (k : Int) < 2
      · go_wp2_with fail
        refine (LentSamples_own _ l _ (HLM.out.kept (QB.out _ J.out.fr)) (by rw [HN.out]; have := N40.out; omega)).mono ?_
        rintro e w4 ⟨g, cap, rfl, o4, b4⟩
        have J4 := Hid.of (J.out.more b4 o4)
        have M4 := Hid.of (lent_smps_of (J4.out.bag.own _ (List.mem_cons_self ..)))
        clear o4 b4 J
        go_wp2_with fail
        refine (PUT.out _ _ (S.kept OK.out (QB.out _ J4.out.fr)) (by have h := M4.out.row; exact h)).mono ?_
        rintro e w5 ⟨rfl, b5⟩
        have J5 := Hid.of (J4.out.next b5)
        clear b5 J4 M4
        go_wp2_with fail
        refine (RPUT.out _ _ (by rw [HN.out]; exact HL.out.kept (QB.out _ J5.out.fr))).mono ?_
        rintro e w5b ⟨rfl, b5⟩
        have J5b := Hid.of (J5.out.next b5)
        clear b5 J5
        go_wp2_with fail
        refine (GET.out _ (S.kept OK.out (QB.out _ J5b.out.fr))).mono ?_
        rintro e w6 ⟨ux, rfl, ox, b6⟩
        have J6 := Hid.of (J5b.out.more b6 ox)
        clear b6 ox J5b
        go_wp2_with fail
        refine (RGET.out _).mono ?_
        rintro e w7 ⟨uy, rfl, oy, b7⟩
        have J7 : Hid (Here q (q + 1) (bookA V W) 35 w2 w7 ((⟨107, 3, ux, GL.length, flat aenc GL⟩ : Row1) :: (ablk V W L ++ [(⟨107, 3, uy, GL.length, flat aenc GL⟩ : Row1), (⟨107, 3, .slice (some ⟨g, 0, none⟩) (l.length + 1) cap, l.length + 1, flat aenc (l ++ [smMark])⟩ : Row1)])) []) := Hid.of ((J6.out.more b7 oy).perm (perm_xy _ _ _ _))
        clear b7 oy J6
        go_wp2_with fail
        refine (ablk_add q (q + 1) (bookA V W) V W ux L GL _ 35 w2 _ rfl rfl (by have := LL.out.1; omega) (by have := GLN.out; omega) J7.out).mono ?_
        rintro e w8 ⟨rfl, V2, W2, u2, k8⟩
        have J8 : Hid (Here q (q + 1) (bookA V2 W2) 35 w2 w8 (ablk V2 W2 (L ++ [(ux, u2, GL)]) ++ [(⟨107, 3, uy, GL.length, flat aenc GL⟩ : Row1), (⟨107, 3, .slice (some ⟨g, 0, none⟩) (l.length + 1) cap, l.length + 1, flat aenc (l ++ [smMark])⟩ : Row1)]) []) := Hid.of k8
        clear k8 J7
        have YR := own_row (J8.out.bag.own (⟨107, 3, uy, GL.length, flat aenc GL⟩ : Row1) (List.mem_append_right _ (List.mem_cons_self ..)))
        simp only at YR
        go_wp2_with fail
        refine (SameSamples_quiet _ uy GL _ (ablk_has' J8.out (fun r h => List.mem_append_left _ h) (ux, u2, GL) (by simp)) YR (by have := GLN.out; omega)).mono ?_
        rintro e w9 ⟨rfl, q9, rfl⟩
        have J9 := Hid.of (J8.out.drewN q9)
        clear J8 YR
        have m9 := lent_smps_of (J9.out.bag.own (⟨107, 3, .slice (some ⟨g, 0, none⟩) (l.length + 1) cap, l.length + 1, flat aenc (l ++ [smMark])⟩ : Row1) (List.mem_append_right _ (List.mem_cons_of_mem _ (List.mem_cons_self ..))))
        have M9 := Hid.of m9
        clear m9
        go_wp2_with fail
        refine (StaysSamples_any (q + 1) (.slice (some ⟨g, 0, none⟩) l.length cap) (.slice la N lc) l _ M9.out (HLM.out.kept (QB.out _ J9.out.fr)) (by rw [HN.out]; have := N40.out; omega)).mono ?_
        rintro e w10 ⟨rfl, b10⟩
        have J10 := Hid.of (J9.out.next b10)
        clear b10 J9 M9
        go_wp2_with fail
        go_roundg (2 - (k + 1))
        case measure => omega
        case rel =>
          refine ⟨k + 1, V2, W2, L ++ [(ux, u2, GL)], by go_num, by omega, Nat.le_refl _, Hid.of (J10.out.sublist (List.Sublist.append_left (List.nil_sublist _) _)), Hid.of ⟨by rw [List.length_append, List.length_singleton]; have := LL.out.1; omega, fun y hy => ?_⟩⟩
          rw [List.mem_append] at hy
          rcases hy with hy | hy
          · exact LL.out.2 y hy
          · rw [List.mem_singleton.1 hy]
            show GL.length ≤ _
            have := GLN.out
            omega
      · have BAD2 : Hid (∀ W, Below q w2 W → Calls Tryz.prog 6 #[] W fun e w' => e = .returned (.bool true) ∧ Below W.heap.size W w') := Hid.of (fun W h => recAlive_any S W (S.kept OK.out (QB.out _ h)))
        go_wp2_with fail
        refine (BAD2.out _ J.out.fr).mono ?_
        rintro e w20 ⟨rfl, b20⟩
        have J20 := Hid.of (J.out.next b20)
        clear b20 J
        go_wp2_with fail
        refine (Apart_A q (q + 1) V W L [] 35 w2 _ (by have := LL.out.1; omega) LL.out.2 J20.out).mono ?_
        rintro e w21 ⟨rfl, b21⟩
        go_wp2
        go_ret
        exact ⟨rfl, QB.out _ b21⟩

end Go.Proofs.YtfgfgdchaoekfaaGreatDoor
