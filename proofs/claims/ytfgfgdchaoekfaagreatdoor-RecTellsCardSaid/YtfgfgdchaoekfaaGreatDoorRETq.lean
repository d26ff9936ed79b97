/-
  RecTells: what package rec lays and gets is what the document's own words do; what was handed in stays; the lists lie apart.
-/
import Derived.Deep.RegionHeld3
import Derived.Test.YtfgfgdchaoekfaaGreatDoorQ24
import Derived.Test.YtfgfgdchaoekfaaGreatDoorREUq
import Derived.Test.YtfgfgdchaoekfaaGreatDoorKXRq
import Derived.Test.YtfgfgdchaoekfaaGreatDoorBLPq
import Derived.Test.YtfgfgdchaoekfaaGreatDoorTFWq
namespace Go.Proofs.YtfgfgdchaoekfaaGreatDoor
open Go.RowKit Go.Lib

/-- The mark behind lent records. -/
def rcMark : RecL := (⟨#[]⟩, -77, 0, 0, 0, 0, 0)

set_option maxHeartbeats 400000 in
theorem LentRecords_own (v : Value) (l : List RecL) (w : World) (hv : CellRow w v l.length (flat renc l)) (hn : l.length ≤ 1000000) :
    Calls Tryz.prog 7 #[v] w fun e w' => ∃ g cap, e = .returned (.slice (some ⟨g, 0, none⟩) l.length cap) ∧ w'.ownsRow w.heap.size 50 7 (.slice (some ⟨g, 0, none⟩) (l.length + 1) cap) (l.length + 1) (flat renc (l ++ [rcMark])) ∧ Below w.heap.size w w' := by
  have HC := Hid.of hv
  obtain ⟨sa, c, rfl, _⟩ := hv
  obtain ⟨i0, hi, hz0, hz1, hz2⟩ := info_parts (show (Tryz.prog.info? 50).map (fun i => (i.zero, i.size, i.bytes)) = some (some (.agg #[.string ⟨#[]⟩, .int .i64 0, .int .i64 0, .int .i64 0, .int .u64 0, .int .i64 0, .int .i64 0]), 7, 64) by kernel_rfl)
  have HI := Hid.of hi
  have HZ0 := Hid.of hz0
  have HZ1 := Hid.of hz1
  have HZ2 := Hid.of hz2
  clear hi hz0 hz1 hz2
  go_enter Tryz.func7, Tryz.ntmps7
  go_wp2_with (first | (at_builtin; refine append_row_law rfl _ (.tmp 3) 22 rfl w.heap.size 50 i0 (.agg #[.string ⟨#[]⟩, .int .i64 0, .int .i64 0, .int .i64 0, .int .u64 0, .int .i64 0, .int .i64 0]) 7 64 Tryz.underlying22 HI.out HZ0.out HZ1.out HZ2.out rfl (by decide) (.slice none 0 0) 0 [] rfl ⟨rfl, .inl ⟨rfl, rfl⟩⟩ _ l.length _ rfl HC.out (flat_length renc_len l) (flat_ones renc_one l) (by unfold maxLen; omega) (by omega) (Nat.le_refl _) ?_; intro v1 w1 o1 g1; have O1 : Hid (w1.ownsRow w.heap.size 50 7 v1 l.length (flat renc l)) := Hid.of (by simpa using o1); have b1 : Below w.heap.size w w1 := below_of_none g1; clear o1 g1) | (at_builtin; refine append_row_law rfl (.tmp 4) (.tmp 6) 22 rfl w.heap.size 50 i0 (.agg #[.string ⟨#[]⟩, .int .i64 0, .int .i64 0, .int .i64 0, .int .u64 0, .int .i64 0, .int .i64 0]) 7 64 Tryz.underlying22 HI.out HZ0.out HZ1.out HZ2.out rfl (by decide) v1 l.length _ rfl (O1.out.alloc _) (.slice (some ⟨w1.heap.size, 0, none⟩) 1 1) 1 (renc rcMark) rfl ⟨_, _, rfl, .inr ⟨_, 0, rfl, by simp, new_cells w1 _ _⟩⟩ rfl (renc_one rcMark) (by unfold maxLen; omega) (by omega) (by simp; have := b1.size; omega) ?_; intro v2 w2 o2 g2; have o3 := o2; obtain ⟨hl2, h2⟩ := o2; obtain ⟨g, cap, cur, rfl, hB, hrow, hcap, hmax, hcs, htk⟩ := h2.resolve_left (by simp)))
  go_ret
  have ef : flat renc (l ++ [rcMark]) = flat renc l ++ renc rcMark := by rw [flat_append, flat_one]
  exact ⟨g, cap, rfl, by rw [ef]; exact o3, (b1.alloc b1.size _).grown g2 (by have := b1.size; simp; omega) (fun k hk => own_ge O1.out hk)⟩

/-- Lent ones, out of the row of one's own that they lie in. -/
theorem lent_recs_of {w : World} {D g cap : Nat} {l : List RecL} (h : w.ownsRow D 50 7 (.slice (some ⟨g, 0, none⟩) (l.length + 1) cap) (l.length + 1) (flat renc (l ++ [rcMark]))) : LentRow w D (.slice (some ⟨g, 0, none⟩) l.length cap) l.length (flat renc l) (renc rcMark) := by
  have ef : flat renc (l ++ [rcMark]) = flat renc l ++ renc rcMark := by rw [flat_append, flat_one]
  rw [ef] at h
  rcases h.2 with ⟨h1, _⟩ | ⟨g', cap', cur, hv, hB, hrow, hcap, hmax, hcs, htk⟩
  · cases h1
  · cases hv
    refine ⟨g, cap, rfl, hB, (Array.getElem?_eq_some_iff.1 hrow).1, hcap, hmax, fun j u hj => ?_⟩
    rw [Nat.zero_add, cell_of_row w g j _ _ _ hrow]
    rw [← htk] at hj
    rw [List.getElem?_take] at hj
    split at hj
    · simpa using hj
    · cases hj

set_option maxHeartbeats 400000 in
theorem StaysRecords_any (B : Nat) (u v : Value) (l : List RecL) (w : World) (hu : LentRow w B u l.length (flat renc l) (renc rcMark)) (hv : CellRow w v l.length (flat renc l)) (hn : l.length ≤ 1000000) :
    Calls Tryz.prog 14 #[u, v] w fun e w' => e = .returned (.bool true) ∧ Below w.heap.size w w' := by
  have HU := Hid.of hu.row
  have HV := Hid.of hv
  obtain ⟨g, cap, rfl, hB, hg, hc, hm, hcs⟩ := hu
  have hmark := hcs (l.length * 7 + 1) (.int .i64 (-77)) (by rw [List.getElem?_append_right (by rw [flat_length renc_len]; omega), flat_length renc_len]; simp [renc, rcMark])
  rw [Nat.zero_add] at hmark
  have HM := Hid.of hmark
  have c0 : (l.length : Int) + 1 ≤ (cap : Int) := by omega
  clear hcs hm hB hmark
  go_enter Tryz.func14, Tryz.ntmps14
  go_wp2_with fail
  refine (SameRecords_quiet _ _ l _ HU.out HV.out hn).mono ?_
  rintro e w1 ⟨rfl, q, rfl⟩
  have hmark := HM.out
  go_wp2
  go_ret
  exact ⟨rfl, below_drewN (Below.refl _ _) _⟩

theorem perm_xy (x y m : Row1) (A : List Row1) : (y :: x :: m :: (A ++ [])).Perm (x :: (A ++ [y, m])) := by
  classical
  rw [List.perm_iff_count]
  intro a
  simp only [List.count_append, List.count_cons, List.count_nil]
  omega

/-- A list that the Book keeps, as it is. -/
theorem rblk_has' {p D : Nat} {cs : Array Value} {T : TypeId} {w0 w : World} {V W : Value} {ls : List (Value × Value × List RecL)} {rows qs : List Row1} (h : Here p D cs T w0 w rows qs) (hs : ∀ r ∈ rblk V W ls, r ∈ rows) (y : Value × Value × List RecL) (hy : y ∈ ls) : CellRow w y.1 y.2.2.length (flat renc y.2.2) := by
  have m1 : rtodo (rkept y) ∈ rows := by
    refine hs _ (List.mem_cons_of_mem _ (List.mem_append_left _ ?_))
    rw [rrows_zero, List.map_map]
    exact List.mem_map.2 ⟨y, hy, rfl⟩
  have o1 := own_row (h.bag.own _ m1)
  simp only [rtodo, rkept] at o1
  exact o1

theorem bookR_built : Tryz.prog.built 35 [] = some (bookR (.slice none 0 0) (.slice none 0 0)) := by kernel_rfl

set_option maxRecDepth 20000 in
set_option maxHeartbeats 3200000 in
theorem recTells_main (S : RecSpec) (lv : Value) (l : List TRec) (b : ByteArray) (w : World) (hS : S.Ok w) (hl : CellRow w lv l.length (flat renc (l.map rl))) (fit : ∀ x ∈ l, TFit x) :
    Calls Tryz.prog 3 #[lv, .string b] w fun e w' => e = .returned (.bool true) ∧ Below w.heap.size w w' := by
  have HL := Hid.of hl
  obtain ⟨la, lc, rfl, -⟩ := hl
  obtain ⟨N, hN⟩ : ∃ N, l.length = N := ⟨_, rfl⟩
  have HN := Hid.of hN
  have FIT := Hid.of fit
  have OK := Hid.of hS
  rw [hN] at HL ⊢
  have HLM : Hid (CellRow w (.slice la N lc) (l.map rl).length (flat renc (l.map rl))) := Hid.of (by rw [List.length_map]; rw [hN]; exact HL.out)
  clear hN fit hS
  have BAD : Hid (∀ w9, Below w.heap.size w w9 → Calls Tryz.prog 6 #[] w9 fun e w' => e = .returned (.bool true) ∧ Below w.heap.size w w') := Hid.of (fun w9 h => by
    refine (recAlive_any S w9 (S.kept OK.out h)).mono ?_
    rintro e w' ⟨he, b⟩
    exact ⟨he, h.trans (b.mono h.size)⟩)
  go_enter Tryz.func3, Tryz.ntmps3
  go_wp2_with fail
  refine (Few_any 40 _ (l.map rl) _ HLM.out (by decide)).mono ?_
  rintro e w2 ⟨r, rfl, hr, b2⟩
  have B2 := Hid.of b2
  clear b2
  cases r with
  | false =>
    go_wp2_with fail
    refine (BAD.out _ B2.out).mono ?_
    rintro e w3 ⟨rfl, b3⟩
    go_wp2
    go_ret
    exact ⟨rfl, b3⟩
  | true =>
    have N40 : Hid (N ≤ 40) := Hid.of (by have h := (hr.out rfl).1; rw [List.length_map] at h; rw [HN.out] at h; exact h)
    clear hr
    by_cases hb : (3000 : Int) < (b.size : Int)
    · go_wp2_with fail
      refine (BAD.out _ B2.out).mono ?_
      rintro e w3 ⟨rfl, b3⟩
      go_wp2
      go_ret
      exact ⟨rfl, b3⟩
    have BS : Hid (b.size ≤ 3000) := Hid.of (by omega)
    obtain ⟨t1, ht1⟩ : ∃ t, (rcPut l).1 = t := ⟨_, rfl⟩
    obtain ⟨t2, ht2⟩ : ∃ t, (rcPut l).2 = t := ⟨_, rfl⟩
    obtain ⟨g2, hg2⟩ : ∃ t, (rcGet b).2 = t := ⟨_, rfl⟩
    obtain ⟨GL, hGL⟩ : ∃ t, ((rcGet b).1.map rl) = t := ⟨_, rfl⟩
    have PUT : Hid (∀ W (v : Value), S.Ok W → CellRow W v l.length (flat renc (l.map rl)) → Calls Tryz.prog 8 #[v] W fun e w' => e = .returned (.tuple #[.string t1, .int .i64 t2]) ∧ Below W.heap.size W w') := Hid.of (fun W v h1 h2 => by
      rw [← ht1, ← ht2]
      exact S.put v l W h1 h2 (by have := N40.out; have := HN.out; omega) FIT.out)
    have RPUT : Hid (∀ W (v : Value), CellRow W v l.length (flat renc (l.map rl)) → Calls Tryz.prog 9 #[v] W fun e w' => e = .returned (.tuple #[.string t1, .int .i64 t2]) ∧ Below W.heap.size W w') := Hid.of (fun W v h2 => by
      rw [← ht1, ← ht2]
      exact refPutRecs_any v l W h2 (by have := N40.out; have := HN.out; omega) FIT.out)
    have GET : Hid (∀ W, S.Ok W → Calls Tryz.prog 10 #[.string b] W fun e w' => ∃ u, e = .returned (.tuple #[u, .int .i64 g2]) ∧ w'.ownsRow W.heap.size 50 7 u GL.length (flat renc GL) ∧ Below W.heap.size W w') := Hid.of (fun W h1 => by
      rw [← hg2, ← hGL]
      exact S.get b W h1 (by have := BS.out; omega))
    have RGET : Hid (∀ W, Calls Tryz.prog 11 #[.string b] W fun e w' => ∃ u, e = .returned (.tuple #[u, .int .i64 g2]) ∧ w'.ownsRow W.heap.size 50 7 u GL.length (flat renc GL) ∧ Below W.heap.size W w') := Hid.of (fun W => by
      rw [← hg2, ← hGL]
      exact refGetRecs_any b (by have := BS.out; omega) W)
    have GLN : Hid (GL.length ≤ 3000) := Hid.of (by
      have h : ((rcGet b).1.map rl).length ≤ b.size := by
        rw [List.length_map]
        unfold rcGet
        by_cases c1 : b.size % 64 ≠ 0
        · rw [if_pos c1]; exact Nat.zero_le _
        · rw [if_neg c1]
          split
          · rw [List.length_map, List.length_range]; omega
          · exact Nat.zero_le _
      rw [hGL] at h
      have := BS.out
      omega)
    clear ht1 ht2 hg2 hGL
    go_upto_region 3 with fail
    clear hb
    go_wp2_with (first
      | (refine wpList_builtP rfl 35 [] rfl (bookR (.slice none 0 0) (.slice none 0 0)) bookR_built ?_)
      | (refine wpList_boxedP rfl 35 _ rfl (bookR (.slice none 0 0) (.slice none 0 0)) rfl ?_
         obtain ⟨q, hq⟩ : ∃ q, w2.heap.size = q := ⟨_, rfl⟩
         obtain ⟨w3, hw3⟩ : ∃ w3, w2.alloc (.cells (bookR (.slice none 0 0) (.slice none 0 0)) 35) = w3 := ⟨_, rfl⟩
         rw [hw3, hq]
         have J3 : Hid (Here q (q + 1) (bookR (.slice none 0 0) (.slice none 0 0)) 35 w2 w3 (rblk (.slice none 0 0) (.slice none 0 0) [] ++ []) []) := Hid.of (by
           rw [← hw3, ← hq]
           exact bookR_nil w2.heap.size 35 w2 _ (Go.heap_alloc_new _ _) ((Below.refl _ _).alloc (Nat.le_refl _) _))
         have HQ := Hid.of hq
         clear hw3 hq))
    have QB : Hid (∀ W, Below q w2 W → Below w.heap.size w W) := Hid.of (fun W h => B2.out.trans (h.mono (by have := HQ.out; have := B2.out.size; omega)))
    go_loopg [6, 7, 8, 9, 10, 11, 12, 13, 14, 15] 2 (fun kx kv x7 x8 x9 x10 x11 x12 x13 x14 x15 wr => ∃ (k : Nat) (V W : Value) (L : List (Value × Value × List RecL)), kv = .int .i64 k ∧ k ≤ 2 ∧ 2 - k ≤ kx ∧ Hid (Here q (q + 1) (bookR V W) 35 w2 wr (rblk V W L ++ []) []) ∧ Hid (L.length ≤ k ∧ ∀ y ∈ L, y.2.2.length ≤ 900000))
    case atStart => exact ⟨0, _, _, [], rfl, Nat.zero_le _, Nat.le_refl _, J3, Hid.of ⟨Nat.zero_le _, fun _ h => absurd h List.not_mem_nil⟩⟩
    case round =>
      clear J3
      obtain ⟨k, V, W, L, rfl, hk, hkx, J, LL⟩ := hrel
      have k0 : (0 : Int) ≤ (k : Int) := Int.natCast_nonneg _
      by_cases hlt : (k : Int) < 2
      · go_wp2_with fail
        refine (LentRecords_own _ (l.map rl) _ (HLM.out.kept (QB.out _ J.out.fr)) (by rw [List.length_map]; rw [HN.out]; have := N40.out; omega)).mono ?_
        rintro e w4 ⟨g, cap, rfl, o4, b4⟩
        have J4 := Hid.of (J.out.more b4 o4)
        have M4 := Hid.of (lent_recs_of (J4.out.bag.own _ (List.mem_cons_self ..)))
        clear o4 b4 J
        go_wp2_with fail
        refine (PUT.out _ _ (S.kept OK.out (QB.out _ J4.out.fr)) (by have h := M4.out.row; rw [List.length_map] at h; exact h)).mono ?_
        rintro e w5 ⟨rfl, b5⟩
        have J5 := Hid.of (J4.out.next b5)
        clear b5 J4 M4
        go_wp2_with fail
        refine (RPUT.out _ _ (by rw [HN.out]; exact HL.out.kept (QB.out _ J5.out.fr))).mono ?_
        rintro e w5b ⟨rfl, b5⟩
        have J5b := Hid.of (J5.out.next b5)
        clear b5 J5
        go_wp2_with fail
        refine (GET.out _ (S.kept OK.out (QB.out _ J5b.out.fr))).mono ?_
        rintro e w6 ⟨ux, rfl, ox, b6⟩
        have J6 := Hid.of (J5b.out.more b6 ox)
        clear b6 ox J5b
        go_wp2_with fail
        refine (RGET.out _).mono ?_
        rintro e w7 ⟨uy, rfl, oy, b7⟩
        have J7 : Hid (Here q (q + 1) (bookR V W) 35 w2 w7 ((⟨50, 7, ux, GL.length, flat renc GL⟩ : Row1) :: (rblk V W L ++ [(⟨50, 7, uy, GL.length, flat renc GL⟩ : Row1), (⟨50, 7, .slice (some ⟨g, 0, none⟩) ((l.map rl).length + 1) cap, (l.map rl).length + 1, flat renc ((l.map rl) ++ [rcMark])⟩ : Row1)])) []) := Hid.of ((J6.out.more b7 oy).perm (perm_xy _ _ _ _))
        clear b7 oy J6
        go_wp2_with fail
        refine (rblk_add q (q + 1) (bookR V W) V W ux L GL _ 35 w2 _ rfl rfl (by have := LL.out.1; omega) (by have := GLN.out; omega) J7.out).mono ?_
        rintro e w8 ⟨rfl, V2, W2, u2, k8⟩
        have J8 : Hid (Here q (q + 1) (bookR V2 W2) 35 w2 w8 (rblk V2 W2 (L ++ [(ux, u2, GL)]) ++ [(⟨50, 7, uy, GL.length, flat renc GL⟩ : Row1), (⟨50, 7, .slice (some ⟨g, 0, none⟩) ((l.map rl).length + 1) cap, (l.map rl).length + 1, flat renc ((l.map rl) ++ [rcMark])⟩ : Row1)]) []) := Hid.of k8
        clear k8 J7
        have YR := own_row (J8.out.bag.own (⟨50, 7, uy, GL.length, flat renc GL⟩ : Row1) (List.mem_append_right _ (List.mem_cons_self ..)))
        simp only at YR
        go_wp2_with fail
        refine (SameRecords_quiet _ uy GL _ (rblk_has' J8.out (fun r h => List.mem_append_left _ h) (ux, u2, GL) (by simp)) YR (by have := GLN.out; omega)).mono ?_
        rintro e w9 ⟨rfl, q9, rfl⟩
        have J9 := Hid.of (J8.out.drewN q9)
        clear J8 YR
        have m9 := lent_recs_of (J9.out.bag.own (⟨50, 7, .slice (some ⟨g, 0, none⟩) ((l.map rl).length + 1) cap, (l.map rl).length + 1, flat renc ((l.map rl) ++ [rcMark])⟩ : Row1) (List.mem_append_right _ (List.mem_cons_of_mem _ (List.mem_cons_self ..))))
        rw [List.length_map] at m9
        have M9 := Hid.of m9
        clear m9
        go_wp2_with fail
        refine (StaysRecords_any (q + 1) (.slice (some ⟨g, 0, none⟩) l.length cap) (.slice la N lc) (l.map rl) _ (by rw [List.length_map]; exact M9.out) (HLM.out.kept (QB.out _ J9.out.fr)) (by rw [List.length_map]; rw [HN.out]; have := N40.out; omega)).mono ?_
        rintro e w10 ⟨rfl, b10⟩
        have J10 := Hid.of (J9.out.next b10)
        clear b10 J9 M9
        go_wp2_with fail
        go_roundg (2 - (k + 1))
        case measure => omega
        case rel =>
          refine ⟨k + 1, V2, W2, L ++ [(ux, u2, GL)], by go_num, by omega, Nat.le_refl _, Hid.of (J10.out.sublist (List.Sublist.append_left (List.nil_sublist _) _)), Hid.of ⟨by rw [List.length_append, List.length_singleton]; have := LL.out.1; omega, fun y hy => ?_⟩⟩
          rw [List.mem_append] at hy
          rcases hy with hy | hy
          · exact LL.out.2 y hy
          · rw [List.mem_singleton.1 hy]
            show GL.length ≤ _
            have := GLN.out
            omega
      · have BAD2 : Hid (∀ W, Below q w2 W → Calls Tryz.prog 6 #[] W fun e w' => e = .returned (.bool true) ∧ Below W.heap.size W w') := Hid.of (fun W h => recAlive_any S W (S.kept OK.out (QB.out _ h)))
        go_wp2_with fail
        go_loopg [16] N (fun kx iv wr => ∃ i : Nat, iv = .int .i64 i ∧ i ≤ N ∧ N - i ≤ kx ∧ Hid (Here q (q + 1) (bookR V W) 35 w2 wr (rblk V W L ++ []) []))
        case atStart => exact ⟨0, rfl, Nat.zero_le _, Nat.le_refl _, J⟩
        case round =>
          clear J
          obtain ⟨i, rfl, hiN, hix, J⟩ := hrel
          have i0 : (0 : Int) ≤ (i : Int) := Int.natCast_nonneg _
          by_cases hlt2 : (i : Int) < (N : Int)
          · have hi : i < N := by omega
            have i9 : (i : Int) ≤ 40 := by have := N40.out; omega
            obtain ⟨x, hx⟩ : ∃ x, l[i]? = some x := ⟨_, List.getElem?_eq_getElem (by rw [HN.out]; exact hi)⟩
            have FX := Hid.of (FIT.out x (List.mem_of_getElem? hx))
            obtain ⟨vb, vo, hva, vl, -⟩ := r_at (HL.out.kept (QB.out _ J.out.fr)) i (rl x) (by rw [List.getElem?_map, hx]; rfl)
            subst hva
            have ROWS : Hid (∀ w', Below q w2 w' → w'.cell? ⟨vb, vo + i * 7, none⟩ = some (.string x.n) ∧ w'.cell? ⟨vb, vo + i * 7 + 1, none⟩ = some (.int .i64 x.s) ∧ w'.cell? ⟨vb, vo + i * 7 + 2, none⟩ = some (.int .i64 x.a.c) ∧ w'.cell? ⟨vb, vo + i * 7 + 3, none⟩ = some (.int .i64 x.a.hi) ∧ w'.cell? ⟨vb, vo + i * 7 + 4, none⟩ = some (.int .u64 x.a.lo) ∧ w'.cell? ⟨vb, vo + i * 7 + 5, none⟩ = some (.int .i64 x.a.mn) ∧ w'.cell? ⟨vb, vo + i * 7 + 6, none⟩ = some (.int .i64 x.a.mx)) := Hid.of (fun w' b => by
              obtain ⟨vb', vo', e, -, k⟩ := r_at (HL.out.kept (QB.out _ b)) i (rl x) (by rw [List.getElem?_map, hx]; rfl)
              cases e
              exact k)
            obtain ⟨ok, hok⟩ : ∃ ok, rcOk x = ok := ⟨_, rfl⟩
            have HOK := Hid.of hok
            obtain ⟨d0, d1, d2, d3, d4, d5, d6⟩ := ROWS.out _ J.out.fr
            clear hx hok
            go_upto_region 18 with fail
            refine wp_region_noPanic ?_
            refine wp_region_held_drew (S := fun w' => w'.cell? ⟨vb, vo + i * 7, none⟩ = some (.string x.n) ∧ w'.cell? ⟨vb, vo + i * 7 + 1, none⟩ = some (.int .i64 x.s) ∧ w'.cell? ⟨vb, vo + i * 7 + 2, none⟩ = some (.int .i64 x.a.c) ∧ w'.cell? ⟨vb, vo + i * 7 + 3, none⟩ = some (.int .i64 x.a.hi) ∧ w'.cell? ⟨vb, vo + i * 7 + 4, none⟩ = some (.int .u64 x.a.lo) ∧ w'.cell? ⟨vb, vo + i * 7 + 5, none⟩ = some (.int .i64 x.a.mn) ∧ w'.cell? ⟨vb, vo + i * 7 + 6, none⟩ = some (.int .i64 x.a.mx)) (by kernel_rfl) ?_ (fun hHeld => ?_)
            · exact ⟨d0, d1, d2, d3, d4, d5, d6⟩
            refine wpAnyH_take (i := 0) (oi := ⟨_, _, _, _, _, _⟩) (v := ?_) rfl (by kernel_rfl) (by kernel_rfl) (by kernel_rfl) (fun _ _ _ h => h) (Or.inl ⟨by rfl, ?_⟩) hHeld ?_
            rotate_left
            · intro w' hSw
              try dsimp only at hSw
              go_simp
              all_goals with_reducible rfl
            simp only [Act.put, List.setIfInBounds_toArray, List.set_cons_zero, List.set_cons_succ]
            refine wpAnyH_take (i := 1) (oi := ⟨_, _, _, _, _, _⟩) (v := ?_) rfl (by kernel_rfl) (by kernel_rfl) (by kernel_rfl) (fun _ _ _ h => h) (Or.inl ⟨by rfl, ?_⟩) hHeld ?_
            rotate_left
            · intro w' hSw
              try dsimp only at hSw
              go_simp
              all_goals with_reducible rfl
            simp only [Act.put, List.setIfInBounds_toArray, List.set_cons_zero, List.set_cons_succ]
            refine wpAnyH_take (i := 2) (oi := ⟨_, _, _, _, _, _⟩) (v := ?_) rfl (by kernel_rfl) (by kernel_rfl) (by kernel_rfl) (fun _ _ _ h => h) (Or.inl ⟨by rfl, ?_⟩) hHeld ?_
            rotate_left
            · intro w' hSw
              try dsimp only at hSw
              go_simp
              all_goals with_reducible rfl
            simp only [Act.put, List.setIfInBounds_toArray, List.set_cons_zero, List.set_cons_succ]
            refine wpAnyH_take (i := 3) (oi := ⟨_, _, _, _, _, _⟩) (v := ?_) rfl (by kernel_rfl) (by kernel_rfl) (by kernel_rfl) (fun _ _ _ h => h) (Or.inl ⟨by rfl, ?_⟩) hHeld ?_
            rotate_left
            · intro w' hSw
              try dsimp only at hSw
              go_simp
              all_goals with_reducible rfl
            simp only [Act.put, List.setIfInBounds_toArray, List.set_cons_zero, List.set_cons_succ]
            refine wpAnyH_take (i := 5) (oi := ⟨_, _, _, _, _, _⟩) (v := ?_) rfl (by kernel_rfl) (by kernel_rfl) (by kernel_rfl) (fun _ _ _ h => h) (Or.inl ⟨by rfl, ?_⟩) hHeld ?_
            rotate_left
            · intro w' hSw
              try dsimp only at hSw
              go_simp
              all_goals with_reducible rfl
            simp only [Act.put, List.setIfInBounds_toArray, List.set_cons_zero, List.set_cons_succ]
            refine wpAnyH_take (i := 6) (oi := ⟨_, _, _, _, _, _⟩) (v := ?_) rfl (by kernel_rfl) (by kernel_rfl) (by kernel_rfl) (fun _ _ _ h => h) (Or.inl ⟨by rfl, ?_⟩) hHeld ?_
            rotate_left
            · intro w' hSw
              try dsimp only at hSw
              go_simp
              all_goals with_reducible rfl
            simp only [Act.put, List.setIfInBounds_toArray, List.set_cons_zero, List.set_cons_succ]
            refine wpAnyH_take (i := 7) (oi := ⟨_, _, _, _, _, _⟩) (v := ?_) rfl (by kernel_rfl) (by kernel_rfl) (by kernel_rfl) (fun _ _ _ h => h) (Or.inl ⟨by rfl, ?_⟩) hHeld ?_
            rotate_left
            · intro w' hSw
              try dsimp only at hSw
              go_simp
              all_goals with_reducible rfl
            simp only [Act.put, List.setIfInBounds_toArray, List.set_cons_zero, List.set_cons_succ]
            refine wpAnyH_take (i := 8) (oi := ⟨_, _, _, _, _, _⟩) (v := ?_) rfl (by kernel_rfl) (by kernel_rfl) (by kernel_rfl) (fun _ _ _ h => h) (Or.inl ⟨by rfl, ?_⟩) hHeld ?_
            rotate_left
            · intro w' hSw
              try dsimp only at hSw
              go_simp
              all_goals with_reducible rfl
            simp only [Act.put, List.setIfInBounds_toArray, List.set_cons_zero, List.set_cons_succ]
            refine wpAnyH_ready (rs := [4]) (by kernel_rfl) (by simp) ?_
            refine AllReadyH.cons (o := ⟨_, _, _, _, _, _⟩) rfl (fun K hK => ?_) AllReadyH.nil
            go_simp
            refine (S.valid x _ (S.kept OK.out (QB.out _ (J.out.next (Below.refl _ _).drew).fr)) FX.out).mono ?_
            rintro e w34 ⟨rfl, b9⟩
            rw [HOK.out]
            have Ja := Hid.of (J.out.next ((Below.refl _ _).drew.trans b9))
            clear b9 hHeld J d0 d1 d2 d3 d4 d5 d6
            obtain ⟨d0, d1, d2, d3, d4, d5, d6⟩ := ROWS.out _ Ja.out.fr
            refine hK.out _ _ ⟨d0, d1, d2, d3, d4, d5, d6⟩ (fun hHeld => ?_)
            clear hK K
            try simp only [Act.put, List.setIfInBounds_toArray, List.set_cons_zero, List.set_cons_succ]
            refine wpAnyH_ready (rs := [9]) (by kernel_rfl) (by simp) ?_
            refine AllReadyH.cons (o := ⟨_, _, _, _, _, _⟩) rfl (fun K hK => ?_) AllReadyH.nil
            go_simp
            refine (refValidRec_any x FX.out _).mono ?_
            rintro e w39 ⟨rfl, b9⟩
            rw [HOK.out]
            have Jb := Hid.of (Ja.out.next b9)
            clear b9 hHeld Ja d0 d1 d2 d3 d4 d5 d6
            obtain ⟨d0, d1, d2, d3, d4, d5, d6⟩ := ROWS.out _ Jb.out.fr
            refine hK.out _ _ ⟨d0, d1, d2, d3, d4, d5, d6⟩ (fun hHeld => ?_)
            clear hK K
            try simp only [Act.put, List.setIfInBounds_toArray, List.set_cons_zero, List.set_cons_succ]
            refine wpAnyH_take (i := 10) (oi := ⟨_, _, _, _, _, _⟩) (v := ?_) rfl (by kernel_rfl) (by kernel_rfl) (by kernel_rfl) (fun _ _ _ h => h) (Or.inl ⟨by rfl, ?_⟩) hHeld ?_
            rotate_left
            · intro w' hSw
              try dsimp only at hSw
              go_simp
              all_goals with_reducible rfl
            simp only [Act.put, List.setIfInBounds_toArray, List.set_cons_zero, List.set_cons_succ]
            refine wpAnyH_done (by kernel_rfl) ?_ _
            refine NoPanic.normal ?_
            clear hHeld d0 d1 d2 d3 d4 d5 d6
            go_wp2_with fail
            go_roundg (N - (i + 1))
            case measure => omega
            case rel => exact ⟨i + 1, by go_num, by omega, Nat.le_refl _, Jb⟩
          · obtain rfl : N = i := by omega
            go_wp2_with fail
            refine (BAD2.out _ J.out.fr).mono ?_
            rintro e w20 ⟨rfl, b20⟩
            have J20 := Hid.of (J.out.next b20)
            clear b20 J
            go_wp2_with fail
            refine (Apart_R q (q + 1) V W L [] 35 w2 _ (by have := LL.out.1; omega) LL.out.2 J20.out).mono ?_
            rintro e w21 ⟨rfl, b21⟩
            go_wp2
            go_ret
            exact ⟨rfl, QB.out _ b21⟩

end Go.Proofs.YtfgfgdchaoekfaaGreatDoor
