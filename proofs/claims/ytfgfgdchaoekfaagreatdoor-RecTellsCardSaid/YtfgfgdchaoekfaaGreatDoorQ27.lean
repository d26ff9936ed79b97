/-
  A bundle of texts: RGT RGS RSP.
-/
import Derived.Laws.MakeOwn
import Derived.Test.YtfgfgdchaoekfaaGreatDoorQ25
import Derived.Test.YtfgfgdchaoekfaaGreatDoorQ13
import Derived.Test.YtfgfgdchaoekfaaGreatDoorQ24
namespace Go.Proofs.YtfgfgdchaoekfaaGreatDoor
open Go.RowKit Go.Lib

theorem own_keeps {w w' : World} {D : Nat} {e : TypeId} {sz : Nat} {v : Value} {n : Nat} {xs : List Value} (h : w.ownsRow D e sz v n xs) (b : Below w.heap.size w w') : w'.ownsRow D e sz v n xs :=
  h.kept (⟨b.os, b.tape, b.output, b.size, fun i hi _ => b.block i hi⟩ : w.grownBy w' none) (by
    cases v.ownBlock with
    | none => exact .inl rfl
    | some g => exact .inr (by simp))
theorem new_rec (w : World) (x : TRec) (t : TypeId) : Cells (w.alloc (.cells #[.string x.n, .int .i64 x.s, .int .i64 x.a.c, .int .i64 x.a.hi, .int .u64 x.a.lo, .int .i64 x.a.mn, .int .i64 x.a.mx] t)) w.heap.size 0 (flat renc ([x].map rl)) := by
  show Cells _ _ _ (flat renc [_])
  rw [flat_one]
  exact new_cells w _ t
theorem rec_zero : (Tryz.prog.info? 50).map (fun i => (i.zero, i.size, i.bytes)) = some (some (.agg #[.string ⟨#[]⟩, .int .i64 0, .int .i64 0, .int .i64 0, .int .u64 0, .int .i64 0, .int .i64 0]), 7, 64) := by kernel_rfl
/-- What is got of the first parts. -/
def upR (s : ByteArray) (j : Nat) : List TRec := (List.range j).map fun t => rcRead (chk 64 s.data.toList t)
theorem upR_succ (s : ByteArray) (j : Nat) : upR s (j + 1) = upR s j ++ [rcRead (chk 64 s.data.toList j)] := by
  unfold upR
  rw [List.range_succ, List.map_append]
  rfl
theorem upR_len (s : ByteArray) (j : Nat) : (upR s j).length = j := by unfold upR; rw [List.length_map, List.length_range]
theorem text_some (b : ByteArray) (h : 0 < b.size) : b.toList.isEmpty = false := by
  rw [ByteArray.toList_eq]
  show b.data.toList.isEmpty = false
  cases hc : b.data.toList with
  | nil =>
    have : b.data.toList.length = 0 := by rw [hc]; rfl
    rw [byte_len] at this
    omega
  | cons _ _ => rfl
theorem text_none (b : ByteArray) (h : b.size = 0) : b.toList.isEmpty = true := by
  rw [ByteArray.toList_eq]
  have : b.data.toList = [] := List.eq_nil_of_length_eq_zero (by rw [byte_len]; exact h)
  show b.data.toList.isEmpty = true
  rw [this]
  rfl
theorem chk_head {s b : ByteArray} {k j : Nat} (h : b.data.toList = s.data.toList.drop (k * j)) : (b.extract 0 k).data.toList = chk k s.data.toList j := by
  have e : (b.extract 0 k).data.toList = (b.data.toList.drop 0).take k := by
    have h2 := extract_list b 0 k
    rw [Nat.zero_add] at h2
    exact h2
  rw [e, List.drop_zero, h]
  rfl
theorem chk_tail {s b : ByteArray} {k j : Nat} (hk : k ≤ b.size) (h : b.data.toList = s.data.toList.drop (k * j)) : (b.extract k b.size).data.toList = s.data.toList.drop (k * (j + 1)) := by
  have h2 := extract_list b k (b.size - k)
  rw [show k + (b.size - k) = b.size by omega] at h2
  rw [h2, List.take_of_length_le (by rw [List.length_drop, byte_len]; omega), h, List.drop_drop, Nat.mul_succ]

set_option maxRecDepth 20000 in
set_option maxHeartbeats 6400000 in
theorem recGet_any (s : ByteArray) (hs : s.size ≤ 100000) (w : World) :
    Calls Tryz.prog 10 #[.string s] w fun e w' => ∃ u, e = .returned (.tuple #[u, .int .i64 (rcGet s).2]) ∧ w'.ownsRow w.heap.size 50 7 u ((rcGet s).1.map rl).length (flat renc ((rcGet s).1.map rl)) ∧ Below w.heap.size w w' := by
  obtain ⟨g1, hg1⟩ : ∃ t, (rcGet s).1 = t := ⟨_, rfl⟩
  obtain ⟨g2, hg2⟩ : ∃ t, (rcGet s).2 = t := ⟨_, rfl⟩
  rw [hg1, hg2]
  have G1 := Hid.of hg1
  have G2 := Hid.of hg2
  clear hg1 hg2
  have S9 : (s.size : Int) ≤ 100000 := by omega
  obtain ⟨i0, hi0, hz0, hz1, hz2⟩ := info_parts rec_zero
  have HI := Hid.of hi0
  have HZ0 := Hid.of hz0
  have HZ1 := Hid.of hz1
  have HZ2 := Hid.of hz2
  clear hi0 hz0 hz1 hz2
  by_cases hm : s.size % 64 = 0
  · obtain ⟨K, hK⟩ : ∃ K, s.size = 64 * K := ⟨s.size / 64, by omega⟩
    have HK := Hid.of hK
    have K9 : K ≤ 2000 := by omega
    have hr : ((s.size : Int).tmod 64) = 0 := by
      rw [Int.tmod_eq_emod_of_nonneg (by omega)]
      omega
    have hq : ((s.size : Int).tdiv 64) = (K : Int) := by
      rw [Int.tdiv_eq_ediv_of_nonneg (by omega)]
      omega
    obtain ⟨w1, hmk, o1, g1'⟩ := run_makeSlice_owned (P := Tryz.prog) w w.heap.size 22 50 i0 _ 7 Tryz.underlying22 HI.out HZ0.out HZ1.out .i64 .i64 K (by omega) (by rw [HZ2.out]; omega) (by unfold maxLen; omega) (Nat.le_refl _)
    have O1 := Hid.of o1
    have B1 : Hid (Below w.heap.size w w1) := Hid.of (below_of_none g1')
    have BADG : Hid (∀ j, j < K → rcGood (chk 64 s.data.toList j) = false → g1 = [] ∧ g2 = 6) := Hid.of (fun j hj hb => by
      have e : rcGet s = ([], 6) := by
        unfold rcGet
        rw [if_neg (by omega), if_neg]
        intro c
        have h := List.all_eq_true.1 c j (List.mem_range.2 (by have := HK.out; omega))
        rw [hb] at h
        cases h
      rw [← G1.out, ← G2.out, e]
      exact ⟨rfl, rfl⟩)
    clear hK g1' o1
    go_enter Tryz.func10, Tryz.ntmps10
    go_upto_region 4 with fail
    clear hr hq hmk
    go_loopg [0, 4, 5] K (fun kx bv lv rv wr => ∃ (j : Nat) (lw : Value) (b : ByteArray), lv = lw ∧ bv = .string b ∧ j ≤ K ∧ K - j ≤ kx ∧ Hid (b.data.toList = s.data.toList.drop (64 * j)) ∧ Hid (b.size = 64 * K - 64 * j) ∧ Hid (∀ t, t < j → rcGood (chk 64 s.data.toList t) = true) ∧ Hid (wr.ownsRow w.heap.size 50 7 lw j (flat renc ((upR s j).map rl))) ∧ Hid (Below w.heap.size w wr))
    case atStart => exact ⟨0, _, s, rfl, rfl, Nat.zero_le _, Nat.le_refl _, Hid.of (by simp), Hid.of (by rw [HK.out]; omega), Hid.of (fun t h => absurd h (Nat.not_lt_zero t)), O1, B1⟩
    case round =>
      clear O1 B1
      obtain ⟨j, lw, b, rfl, rfl, hjK, hjx, BD, BS, GD, OW, HB⟩ := hrel
      by_cases hlt : j < K
      · have HJK := Hid.of hlt
        have bs : 64 ≤ b.size := by rw [BS.out]; omega
        have BS64 := Hid.of bs
        have hne : b.toList.isEmpty = false := text_some b (by omega)
        have bi : (64 : Int) ≤ (b.size : Int) := by omega
        obtain ⟨h, hh⟩ : ∃ h, b.extract 0 64 = h := ⟨_, rfl⟩
        obtain ⟨tl, htl⟩ : ∃ t, b.extract 64 b.size = t := ⟨_, rfl⟩
        have hs64 : h.size = 64 := by rw [← hh, ByteArray.size_extract]; omega
        obtain ⟨C, hC⟩ : ∃ C, chk 64 s.data.toList j = C := ⟨_, rfl⟩
        have HC := Hid.of hC
        have HD : Hid (h.data.toList = C) := Hid.of (by rw [← hh, chk_head BD.out]; exact hC)
        have TD : Hid (tl.data.toList = s.data.toList.drop (64 * (j + 1))) := Hid.of (by rw [← htl]; exact chk_tail bs BD.out)
        have TS : Hid (tl.size = 64 * K - 64 * (j + 1)) := Hid.of (by rw [← htl, ByteArray.size_extract, Nat.min_self, BS.out]; omega)
        have HS64 := Hid.of hs64
        have HH := Hid.of hh
        have HTL := Hid.of htl
        clear hC hs64 bs hh htl
        go_wp2_with fail
        rw [HH.out]
        refine (readRecord_any h HS64.out _).mono ?_
        rintro e w2 ⟨rfl, b2⟩
        rw [HD.out]
        obtain ⟨x, hx⟩ : ∃ x, rdR C = x := ⟨_, rfl⟩
        rw [hx]
        have HX := Hid.of hx
        have FX : Hid (TFit x) := Hid.of (by rw [← hx]; exact rdR_fit C)
        have OW2 := Hid.of (own_keeps OW.out b2)
        have HB2 := Hid.of (HB.out.trans (b2.mono HB.out.size))
        clear hx b2 OW HB
        obtain ⟨r, hr⟩ : ∃ r, w2.heap.size = r := ⟨_, rfl⟩
        obtain ⟨w3, hw3⟩ : ∃ w3, w2.alloc (.cells #[.string x.n, .int .i64 x.s, .int .i64 x.a.c, .int .i64 x.a.hi, .int .u64 x.a.lo, .int .i64 x.a.mn, .int .i64 x.a.mx] 50) = w3 := ⟨_, rfl⟩
        have b3 : Below w2.heap.size w2 w3 := by rw [← hw3]; exact (Below.refl _ _).alloc (Nat.le_refl _) _
        have R3 : Hid (RcBk w3 r x) := Hid.of (by rw [← hw3, ← hr]; exact Go.heap_alloc_new _ _)
        have OW3 := Hid.of (own_keeps OW2.out b3)
        have HB3 := Hid.of (HB2.out.trans (b3.mono HB2.out.size))
        have HW := Hid.of hw3
        have HR := Hid.of hr
        clear hw3 hr b3 OW2 HB2
        go_upto_region 7 with fail
        rw [HW.out, HR.out]
        clear HW
        obtain ⟨d0, d1, d2, d3, d4, d5, d6⟩ := R3.out.at
        go_wp2_with fail
        refine (recValid_any x FX.out _).mono ?_
        rintro e w4 ⟨rfl, b4⟩
        have OKE : Hid (rcOk x = rcGood C) := Hid.of (by rw [← HX.out]; exact rdR_ok C)
        obtain ⟨ok, hok⟩ : ∃ ok, rcGood C = ok := ⟨_, rfl⟩
        have HOK := Hid.of hok
        rw [OKE.out, HOK.out]
        have R4 := Hid.of (R3.out.next b4)
        have OW4 := Hid.of (own_keeps OW3.out b4)
        have HB4 := Hid.of (HB3.out.trans (b4.mono HB3.out.size))
        clear b4 hok R3 OW3 HB3 d0 d1 d2 d3 d4 d5 d6
        cases ok
        · obtain ⟨h1, h2⟩ := BADG.out j HJK.out (by rw [HC.out]; exact HOK.out)
          subst h1
          subst h2
          go_wp2
          go_ret2
          exact ⟨.slice none 0 0, rfl, World.ownsRow_nil _ _ _ 7, HB4.out⟩
        · have RE : Hid (x = rcRead C) := Hid.of (by rw [← HX.out]; exact rdR_read C HOK.out)
          obtain ⟨n0, n1, n2, n3, n4, n5, n6⟩ := R4.out.at
          have jn : j ≤ 2000 := by omega
          go_wp2_with (at_builtin; refine append_keep_law rfl (.tmp 24) (.tmp 26) 22 rfl w.heap.size 50 i0 _ 7 64 Tryz.underlying22 HI.out HZ0.out HZ1.out HZ2.out rfl (by decide) _ j _ rfl (World.ownsRow.alloc OW4.out _) w4.heap.size 0 1 1 (flat renc ([x].map rl)) rfl (new_rec w4 x _) rfl (by intro z hz; exact flat_ones renc_one _ z hz) (by unfold maxLen; omega) (by omega) (by simp; have := HB4.out.size; omega) ?_; intro x4 w5 o5 g5 _ _; have O5 := Hid.of o5; have G5 := Hid.of g5; clear o5 g5)
          clear n0 n1 n2 n3 n4 n5 n6
          have HB5 : Hid (Below w.heap.size w w5) := Hid.of (((HB4.out).alloc HB4.out.size _).grown G5.out (by have := HB4.out.size; simp; omega) (fun k hk => own_ge OW4.out hk))
          rw [HTL.out]
          go_roundg (K - (j + 1))
          case measure => have := HJK.out; omega
          case rel =>
            refine ⟨j + 1, x4, tl, rfl, rfl, HJK.out, Nat.le_refl _, TD, TS, Hid.of (fun t ht => ?_), Hid.of ?_, HB5⟩
            · by_cases c : t = j
              · rw [c, HC.out]; exact HOK.out
              · exact GD.out t (by omega)
            · rw [upR_succ, List.map_append, flat_append, HC.out, ← RE.out]
              exact O5.out
      · obtain rfl : K = j := by omega
        have hne : b.toList.isEmpty = true := text_none b (by rw [BS.out]; omega)
        have e : rcGet s = (upR s K, 0) := by
          unfold rcGet
          rw [if_neg (by omega), show s.size / 64 = K by have := HK.out; omega, if_pos (List.all_eq_true.2 fun t ht => GD.out t (List.mem_range.1 ht))]
          rfl
        obtain rfl : g1 = upR s K := by rw [← G1.out, e]
        obtain rfl : g2 = 0 := by rw [← G2.out, e]
        clear e
        go_wp2
        go_ret2
        refine ⟨_, rfl, ?_, HB.out⟩
        simp only [List.length_map, upR_len]
        exact OW.out
  · have hr : ((s.size : Int).tmod 64 != 0) = true := by
      rw [Int.tmod_eq_emod_of_nonneg (by omega), bne_iff_ne]
      omega
    have e : rcGet s = ([], 5) := by
      unfold rcGet
      rw [if_pos hm]
    obtain rfl : g1 = [] := by rw [← G1.out, e]
    obtain rfl : g2 = 5 := by rw [← G2.out, e]
    clear e
    go_enter Tryz.func10, Tryz.ntmps10
    go_wp2
    go_ret2
    exact ⟨.slice none 0 0, rfl, World.ownsRow_nil _ _ _ 7, Below.refl _ _⟩

end Go.Proofs.YtfgfgdchaoekfaaGreatDoor

namespace Go.Proofs.YtfgfgdchaoekfaaGreatDoor
open Go.RowKit Go.Lib

theorem new_smp (w : World) (x : SamL) (t : TypeId) : Cells (w.alloc (.cells #[.string x.1, .int .i64 x.2.1, .int .i64 x.2.2] t)) w.heap.size 0 (flat aenc [x]) := by
  show Cells _ _ _ (flat aenc [_])
  rw [flat_one]
  exact new_cells w _ t
theorem smp_zero : (Tryz.prog.info? 107).map (fun i => (i.zero, i.size, i.bytes)) = some (some (.agg #[.string ⟨#[]⟩, .int .i64 0, .int .i64 0]), 3, 32) := by kernel_rfl
/-- What is got of the first parts. -/
def upS (s : ByteArray) (j : Nat) : List SamL := (List.range j).map fun t => smRead (chk 32 s.data.toList t)
theorem upS_succ (s : ByteArray) (j : Nat) : upS s (j + 1) = upS s j ++ [smRead (chk 32 s.data.toList j)] := by
  unfold upS
  rw [List.range_succ, List.map_append]
  rfl
theorem upS_len (s : ByteArray) (j : Nat) : (upS s j).length = j := by unfold upS; rw [List.length_map, List.length_range]

set_option maxRecDepth 20000 in
set_option maxHeartbeats 6400000 in
theorem recGetS_any (s : ByteArray) (hs : s.size ≤ 100000) (w : World) :
    Calls Tryz.prog 22 #[.string s] w fun e w' => ∃ u, e = .returned (.tuple #[u, .int .i64 (smGet s).2]) ∧ w'.ownsRow w.heap.size 107 3 u (smGet s).1.length (flat aenc (smGet s).1) ∧ Below w.heap.size w w' := by
  obtain ⟨g1, hg1⟩ : ∃ t, (smGet s).1 = t := ⟨_, rfl⟩
  obtain ⟨g2, hg2⟩ : ∃ t, (smGet s).2 = t := ⟨_, rfl⟩
  rw [hg1, hg2]
  have G1 := Hid.of hg1
  have G2 := Hid.of hg2
  clear hg1 hg2
  have S9 : (s.size : Int) ≤ 100000 := by omega
  obtain ⟨i0, hi0, hz0, hz1, hz2⟩ := info_parts smp_zero
  have HI := Hid.of hi0
  have HZ0 := Hid.of hz0
  have HZ1 := Hid.of hz1
  have HZ2 := Hid.of hz2
  clear hi0 hz0 hz1 hz2
  by_cases hm : s.size % 32 = 0
  · obtain ⟨K, hK⟩ : ∃ K, s.size = 32 * K := ⟨s.size / 32, by omega⟩
    have HK := Hid.of hK
    have K9 : K ≤ 4000 := by omega
    have hr : ((s.size : Int).tmod 32) = 0 := by
      rw [Int.tmod_eq_emod_of_nonneg (by omega)]
      omega
    have hq : ((s.size : Int).tdiv 32) = (K : Int) := by
      rw [Int.tdiv_eq_ediv_of_nonneg (by omega)]
      omega
    obtain ⟨w1, hmk, o1, g1'⟩ := run_makeSlice_owned (P := Tryz.prog) w w.heap.size 52 107 i0 _ 3 Tryz.underlying52 HI.out HZ0.out HZ1.out .i64 .i64 K (by omega) (by rw [HZ2.out]; omega) (by unfold maxLen; omega) (Nat.le_refl _)
    have O1 := Hid.of o1
    have B1 : Hid (Below w.heap.size w w1) := Hid.of (below_of_none g1')
    have BADG : Hid (∀ j, j < K → smGood (chk 32 s.data.toList j) = false → g1 = [] ∧ g2 = 6) := Hid.of (fun j hj hb => by
      have e : smGet s = ([], 6) := by
        unfold smGet
        rw [if_neg (by omega), if_neg]
        intro c
        have h := List.all_eq_true.1 c j (List.mem_range.2 (by have := HK.out; omega))
        rw [hb] at h
        cases h
      rw [← G1.out, ← G2.out, e]
      exact ⟨rfl, rfl⟩)
    clear hK g1' o1
    go_enter Tryz.func22, Tryz.ntmps22
    go_upto_region 4 with fail
    clear hr hq hmk
    go_loopg [0, 4, 5] K (fun kx bv lv rv wr => ∃ (j : Nat) (lw : Value) (b : ByteArray), lv = lw ∧ bv = .string b ∧ j ≤ K ∧ K - j ≤ kx ∧ Hid (b.data.toList = s.data.toList.drop (32 * j)) ∧ Hid (b.size = 32 * K - 32 * j) ∧ Hid (∀ t, t < j → smGood (chk 32 s.data.toList t) = true) ∧ Hid (wr.ownsRow w.heap.size 107 3 lw j (flat aenc (upS s j))) ∧ Hid (Below w.heap.size w wr))
    case atStart => exact ⟨0, _, s, rfl, rfl, Nat.zero_le _, Nat.le_refl _, Hid.of (by simp), Hid.of (by rw [HK.out]; omega), Hid.of (fun t h => absurd h (Nat.not_lt_zero t)), O1, B1⟩
    case round =>
      clear O1 B1
      obtain ⟨j, lw, b, rfl, rfl, hjK, hjx, BD, BS, GD, OW, HB⟩ := hrel
      by_cases hlt : j < K
      · have HJK := Hid.of hlt
        have bs : 32 ≤ b.size := by rw [BS.out]; omega
        have BS64 := Hid.of bs
        have hne : b.toList.isEmpty = false := text_some b (by omega)
        have bi : (32 : Int) ≤ (b.size : Int) := by omega
        obtain ⟨h, hh⟩ : ∃ h, b.extract 0 32 = h := ⟨_, rfl⟩
        obtain ⟨tl, htl⟩ : ∃ t, b.extract 32 b.size = t := ⟨_, rfl⟩
        have hs64 : h.size = 32 := by rw [← hh, ByteArray.size_extract]; omega
        obtain ⟨C, hC⟩ : ∃ C, chk 32 s.data.toList j = C := ⟨_, rfl⟩
        have HC := Hid.of hC
        have HD : Hid (h.data.toList = C) := Hid.of (by rw [← hh, chk_head BD.out]; exact hC)
        have TD : Hid (tl.data.toList = s.data.toList.drop (32 * (j + 1))) := Hid.of (by rw [← htl]; exact chk_tail bs BD.out)
        have TS : Hid (tl.size = 32 * K - 32 * (j + 1)) := Hid.of (by rw [← htl, ByteArray.size_extract, Nat.min_self, BS.out]; omega)
        have HS64 := Hid.of hs64
        have HH := Hid.of hh
        have HTL := Hid.of htl
        clear hC hs64 bs hh htl
        go_wp2_with fail
        rw [HH.out]
        refine (readSample_any h HS64.out _).mono ?_
        rintro e w2 ⟨rfl, b2⟩
        rw [HD.out]
        obtain ⟨x, hx⟩ : ∃ x, rdS C = x := ⟨_, rfl⟩
        rw [hx]
        have HX := Hid.of hx
        have FX : Hid (SmIn x) := Hid.of (by rw [← hx]; exact rdS_fit C)
        have OW2 := Hid.of (own_keeps OW.out b2)
        have HB2 := Hid.of (HB.out.trans (b2.mono HB.out.size))
        clear hx b2 OW HB
        obtain ⟨r, hr⟩ : ∃ r, w2.heap.size = r := ⟨_, rfl⟩
        obtain ⟨w3, hw3⟩ : ∃ w3, w2.alloc (.cells #[.string x.1, .int .i64 x.2.1, .int .i64 x.2.2] 107) = w3 := ⟨_, rfl⟩
        have b3 : Below w2.heap.size w2 w3 := by rw [← hw3]; exact (Below.refl _ _).alloc (Nat.le_refl _) _
        have R3 : Hid (SmBk w3 r x) := Hid.of (by rw [← hw3, ← hr]; exact Go.heap_alloc_new _ _)
        have OW3 := Hid.of (own_keeps OW2.out b3)
        have HB3 := Hid.of (HB2.out.trans (b3.mono HB2.out.size))
        have HW := Hid.of hw3
        have HR := Hid.of hr
        clear hw3 hr b3 OW2 HB2
        go_upto_region 7 with fail
        rw [HW.out, HR.out]
        clear HW
        obtain ⟨d0, d1, d2⟩ := R3.out.at
        go_wp2_with fail
        refine (isSample_any x FX.out _).mono ?_
        rintro e w4 ⟨rfl, b4⟩
        have OKE : Hid (smOk x = smGood C) := Hid.of (by rw [← HX.out]; exact rdS_ok C)
        obtain ⟨ok, hok⟩ : ∃ ok, smGood C = ok := ⟨_, rfl⟩
        have HOK := Hid.of hok
        rw [OKE.out, HOK.out]
        have R4 := Hid.of (R3.out.next b4)
        have OW4 := Hid.of (own_keeps OW3.out b4)
        have HB4 := Hid.of (HB3.out.trans (b4.mono HB3.out.size))
        clear b4 hok R3 OW3 HB3 d0 d1 d2
        cases ok
        · obtain ⟨h1, h2⟩ := BADG.out j HJK.out (by rw [HC.out]; exact HOK.out)
          subst h1
          subst h2
          go_wp2
          go_ret2
          exact ⟨.slice none 0 0, rfl, World.ownsRow_nil _ _ _ 3, HB4.out⟩
        · have RE : Hid (x = smRead C) := Hid.of (by rw [← HX.out]; exact rdS_read C HOK.out)
          obtain ⟨n0, n1, n2⟩ := R4.out.at
          have jn : j ≤ 4000 := by omega
          go_wp2_with (at_builtin; refine append_keep_law rfl (.tmp 24) (.tmp 26) 52 rfl w.heap.size 107 i0 _ 3 32 Tryz.underlying52 HI.out HZ0.out HZ1.out HZ2.out rfl (by decide) _ j _ rfl (World.ownsRow.alloc OW4.out _) w4.heap.size 0 1 1 (flat aenc [x]) rfl (new_smp w4 x _) rfl (by intro z hz; exact flat_ones aenc_one _ z hz) (by unfold maxLen; omega) (by omega) (by simp; have := HB4.out.size; omega) ?_; intro x4 w5 o5 g5 _ _; have O5 := Hid.of o5; have G5 := Hid.of g5; clear o5 g5)
          clear n0 n1 n2
          have HB5 : Hid (Below w.heap.size w w5) := Hid.of (((HB4.out).alloc HB4.out.size _).grown G5.out (by have := HB4.out.size; simp; omega) (fun k hk => own_ge OW4.out hk))
          rw [HTL.out]
          go_roundg (K - (j + 1))
          case measure => have := HJK.out; omega
          case rel =>
            refine ⟨j + 1, x4, tl, rfl, rfl, HJK.out, Nat.le_refl _, TD, TS, Hid.of (fun t ht => ?_), Hid.of ?_, HB5⟩
            · by_cases c : t = j
              · rw [c, HC.out]; exact HOK.out
              · exact GD.out t (by omega)
            · rw [upS_succ, flat_append, HC.out, ← RE.out]
              exact O5.out
      · obtain rfl : K = j := by omega
        have hne : b.toList.isEmpty = true := text_none b (by rw [BS.out]; omega)
        have e : smGet s = (upS s K, 0) := by
          unfold smGet
          rw [if_neg (by omega), show s.size / 32 = K by have := HK.out; omega, if_pos (List.all_eq_true.2 fun t ht => GD.out t (List.mem_range.1 ht))]
          rfl
        obtain rfl : g1 = upS s K := by rw [← G1.out, e]
        obtain rfl : g2 = 0 := by rw [← G2.out, e]
        clear e
        go_wp2
        go_ret2
        refine ⟨_, rfl, ?_, HB.out⟩
        simp only [upS_len]
        exact OW.out
  · have hr : ((s.size : Int).tmod 32 != 0) = true := by
      rw [Int.tmod_eq_emod_of_nonneg (by omega), bne_iff_ne]
      omega
    have e : smGet s = ([], 5) := by
      unfold smGet
      rw [if_pos hm]
    obtain rfl : g1 = [] := by rw [← G1.out, e]
    obtain rfl : g2 = 5 := by rw [← G2.out, e]
    clear e
    go_enter Tryz.func22, Tryz.ntmps22
    go_wp2
    go_ret2
    exact ⟨.slice none 0 0, rfl, World.ownsRow_nil _ _ _ 3, Below.refl _ _⟩

end Go.Proofs.YtfgfgdchaoekfaaGreatDoor

namespace Go.Proofs.YtfgfgdchaoekfaaGreatDoor
open Go.RowKit Go.Lib

def recs : RecSpec where
  Ok := fun _ => True
  kept := fun _ _ => trivial
  valid := fun x w _ hx => recValid_any x hx w
  put := fun v l w _ hv hl hf => recPut_any v l w hv hl hf
  get := fun s w _ hs => recGet_any s hs w
  putS := fun v l w _ hv hl hf => recPutS_any v l w hv hl hf
  getS := fun s w _ hs => recGetS_any s hs w

end Go.Proofs.YtfgfgdchaoekfaaGreatDoor
