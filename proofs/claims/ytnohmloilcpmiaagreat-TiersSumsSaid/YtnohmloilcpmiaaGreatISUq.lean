/-
  What statement TiersSums answers: true, for every input.
-/
import Derived.Test.YtnohmloilcpmiaaGreatQ28
import Derived.Test.YtnohmloilcpmiaaGreatQ41
namespace Go.Proofs.YtnohmloilcpmiaaGreat
open Go.RowKit Go.Lib

/-- The counts of records, and the lower words of their sums. -/
def sumC (l : List TRec) : Int := (l.map (·.a.c)).sum
def sumLo (l : List TRec) : Int := (l.map (·.a.lo)).sum

theorem sumC_cons (x : TRec) (l : List TRec) : sumC (x :: l) = x.a.c + sumC l := by unfold sumC; rw [List.map_cons, List.sum_cons]
theorem sumLo_cons (x : TRec) (l : List TRec) : sumLo (x :: l) = x.a.lo + sumLo l := by unfold sumLo; rw [List.map_cons, List.sum_cons]
theorem sumC_nonneg {l : List TRec} (h : TAll l) : 0 ≤ sumC l := by
  induction l with
  | nil => exact Int.le_refl 0
  | cons x l ih =>
    rw [sumC_cons]
    have := ((agOk_iff _).1 h.head.1).1
    have := ih h.tail
    omega

theorem sum_ins {l : List TRec} {r : TRec} (h : TAll l) (hr : TGood r) (hc : sumC l + r.a.c ≤ 4611686018427387904) : sumC (tIns l r) = sumC l + r.a.c ∧ sumLo (tIns l r) % 18446744073709551616 = (sumLo l + r.a.lo) % 18446744073709551616 := by
  induction l with
  | nil =>
    refine ⟨?_, ?_⟩
    · show sumC [r] = _
      rw [sumC_cons]
      show r.a.c + 0 = 0 + r.a.c
      omega
    · show sumLo [r] % _ = _
      rw [sumLo_cons]
      show (r.a.lo + 0) % _ = (0 + r.a.lo) % _
      rw [Int.add_zero, Int.zero_add]
  | cons x l ih =>
    have hx := ((agOk_iff _).1 h.head.1).1
    have hl := sumC_nonneg h.tail
    have hr1 := ((agOk_iff _).1 hr.1).1
    rw [sumC_cons] at hc
    unfold tIns
    split
    · obtain ⟨i1, i2⟩ := ih h.tail (by omega)
      rw [sumC_cons, sumC_cons, sumLo_cons, sumLo_cons, i1]
      refine ⟨by omega, ?_⟩
      rw [Int.add_emod, i2, ← Int.add_emod, Int.add_assoc]
    · split
      · rw [sumC_cons, sumC_cons, sumLo_cons, sumLo_cons]
        refine ⟨?_, ?_⟩
        · show min (x.a.c + r.a.c) 4611686018427387904 + sumC l = _
          omega
        · show ((x.a.lo + r.a.lo) % 18446744073709551616 + sumLo l) % 18446744073709551616 = _
          rw [Int.emod_add_emod]
          congr 1
          omega
      · rw [sumC_cons, sumC_cons, sumLo_cons, sumLo_cons]
        refine ⟨by omega, ?_⟩
        congr 1
        omega

theorem sum_adds {e : Int} {rs l : List TRec} (h : TAll l) (hr : ∀ x ∈ rs, TGood x ∧ tOk e x = true ∧ x.a.c = 1) (hc : sumC l + rs.length ≤ 4611686018427387904) :
    sumC (tAdds e l rs) = sumC l + rs.length ∧ sumLo (tAdds e l rs) % 18446744073709551616 = (sumLo l + sumLo rs) % 18446744073709551616 := by
  induction rs generalizing l with
  | nil =>
    refine ⟨?_, ?_⟩
    · show sumC l = sumC l + 0
      omega
    · show sumLo l % _ = (sumLo l + 0) % _
      rw [Int.add_zero]
  | cons r rs ih =>
    obtain ⟨g, ok, c1⟩ := hr r (List.mem_cons_self ..)
    rw [List.length_cons] at hc ⊢
    have hstep : tAdds e l (r :: rs) = tAdds e (tIns l r) rs := by
      show tAdds e (tAdd e l r) rs = _
      unfold tAdd
      rw [if_pos ok]
    obtain ⟨a1, a2⟩ := sum_ins h g (by omega)
    obtain ⟨b1, b2⟩ := ih (tIns_all h g) (fun x hx => hr x (List.mem_cons_of_mem _ hx)) (by rw [a1, c1]; omega)
    rw [hstep, b1, b2, sumLo_cons]
    refine ⟨by rw [a1, c1]; omega, ?_⟩
    rw [Int.add_emod, a2, ← Int.add_emod, Int.add_assoc]

/-- The policy of the statement, the time 800. -/
def sPol : PolL := (⟨#[112]⟩, [(⟨#[97]⟩, 1, 900, 1), (⟨#[98]⟩, 4, 900, 3), (⟨#[99]⟩, 12, 900, 2)])
def sRch : RchL := (800, sPol, [])

theorem sums_new : iNewE sPol 800 [] = 0 := by decide +kernel
theorem sums_from : rFromN sRch 0 = 0 ∧ rFromN sRch 1 = 0 ∧ rFromN sRch 2 = 0 := by decide +kernel

/-- Those of the first samples that may come. -/
def sGood (ss : List SamL) : List SamL := ss.filter fun s => decide (rTakes sRch s.1 s.2.1 = 0)
/-- The sum of their values, as it wraps. -/
def sSum (ss : List SamL) : Int := (ss.map fun s => s.2.2 % 18446744073709551616).sum

theorem sums_has {i : Nat} (hi : i < 3) {s : SamL} (ht : 0 ≤ s.2.1) : iHas sRch i s = true := by
  have hf : rFromN sRch i = 0 := by
    obtain ⟨a, b, c⟩ := sums_from
    rcases i with _ | _ | _ | i
    · exact a
    · exact b
    · exact c
    · omega
  obtain ⟨t, ht'⟩ : ∃ t, sRch.2.1.2[i]? = some t := ⟨_, List.getElem?_eq_getElem (show i < sRch.2.1.2.length from hi)⟩
  have he : 1 ≤ t.2.1 := by
    rcases i with _ | _ | _ | i
    · cases ht'; decide
    · cases ht'; decide
    · cases ht'; decide
    · omega
  unfold iHas rStart
  rw [if_neg (by omega), show ((i : Int).toNat) = i by omega, ht', hf]
  exact decide_eq_true (floor_nonneg he ht)

/-- What tier i has of good samples: their number, their sum. -/
theorem sums_of {i : Nat} (hi : i < 3) {ss : List SamL} (hs : ∀ s ∈ ss, SFit s ∧ rTakes sRch s.1 s.2.1 = 0) (hl : ss.length ≤ 1000) :
    sumC (tAdds (tEv sRch i) [] (iRecs sRch i ss)) = ss.length ∧ sumLo (tAdds (tEv sRch i) [] (iRecs sRch i ss)) % 18446744073709551616 = sSum ss % 18446744073709551616 := by
  have hg := IGood.new sums_new
  have hr : iRecs sRch i ss = ss.map (iRec sRch i) := by
    unfold iRecs
    rw [List.filter_eq_self.2 (fun s h => sums_has hi (rTakes_ok (hs s h).2).2.1)]
  have hq : ∀ x ∈ iRecs sRch i ss, TGood x ∧ tOk (tEv sRch i) x = true ∧ x.a.c = 1 := fun x hx => by
    rw [hr] at hx
    obtain ⟨s, h, rfl⟩ := List.mem_map.1 hx
    obtain ⟨h1, h2⟩ := hs s h
    have k := rTakes_ok h2
    have ok := iRec_ok hg (i := i) (by rw [List.length_replicate]; exact hi) h1 k.1 k.2.1
    refine ⟨tOk_good ok (iRec_fit hg (i := i) (by rw [List.length_replicate]; exact hi) h1 k.2.1).2.2, ok, ?_⟩
    show (agOf [s.2.2]).c = 1
    rw [agOf_one h1.2.2]
    rfl
  have hn : (iRecs sRch i ss).length = ss.length := by rw [hr, List.length_map]
  obtain ⟨a, b⟩ := sum_adds (e := tEv sRch i) (l := []) all_nil hq (by show (0 : Int) + _ ≤ _; rw [hn]; omega)
  refine ⟨by rw [a, hn]; show (0 : Int) + _ = _; omega, ?_⟩
  rw [b]
  have e : sumLo (iRecs sRch i ss) = sSum ss := by
    rw [hr]
    unfold sumLo sSum
    rw [List.map_map]
    congr 1
    refine List.map_congr_left fun s h => ?_
    show (agOf [s.2.2]).lo = _
    rw [agOf_one (hs s h).1.2.2]
    rfl
  rw [e]
  show (0 + sSum ss) % _ = _
  rw [Int.zero_add]

theorem sSum_snoc (ss : List SamL) (s : SamL) : sSum (ss ++ [s]) = sSum ss + s.2.2 % 18446744073709551616 := by unfold sSum; rw [List.map_append, List.sum_append]; simp
theorem sumC_snoc (l : List TRec) (x : TRec) : sumC (l ++ [x]) = sumC l + x.a.c := by unfold sumC; rw [List.map_append, List.sum_append]; simp
theorem sumLo_snoc (l : List TRec) (x : TRec) : sumLo (l ++ [x]) = sumLo l + x.a.lo := by unfold sumLo; rw [List.map_append, List.sum_append]; simp

theorem sumC_take {l : List TRec} (h : TAll l) (k : Nat) : sumC (l.take k) ≤ sumC l := by
  have h1 := sumC_nonneg (fun z hz => h z (List.mem_of_mem_drop hz) : TAll (l.drop k))
  have h2 : sumC l = sumC (l.take k) + sumC (l.drop k) := by
    conv => lhs; rw [← List.take_append_drop k l]
    unfold sumC
    rw [List.map_append, List.sum_append]
  omega

theorem sGood_next {ss : List SamL} {i : Nat} {s : SamL} (h : ss[i]? = some s) : sGood (ss.take (i + 1)) = sGood (ss.take i) ++ (if rTakes sRch s.1 s.2.1 = 0 then [s] else []) := by
  obtain ⟨hi, hs⟩ := List.getElem?_eq_some_iff.1 h
  unfold sGood
  rw [List.take_succ_eq_append_getElem hi, hs, List.filter_append, List.filter_cons]
  by_cases c : rTakes sRch s.1 s.2.1 = 0
  · rw [if_pos (decide_eq_true c), if_pos c]
    rfl
  · rw [if_neg (by simpa using c), if_neg c]
    rfl

theorem iCheck_one (r : RchL) (s : SamL) : iCheck r [s] = rTakes r s.1 s.2.1 := by
  unfold iCheck iTakes
  rw [if_neg (by simp), if_neg (show ¬ 8 < [s].length from (by decide : ¬ 8 < 1)), List.map_singleton, List.find?_cons]
  by_cases h : rTakes r s.1 s.2.1 = 0
  · simp [h]
  · simp [h]

/-- The tiers' tables of the good ones. -/
def sT (ss : List SamL) : List (List TRec) := iPut sRch (List.replicate 3 []) ss
theorem sT_len (ss : List SamL) : (sT ss).length = 3 := by unfold sT iPut; rw [List.length_mapIdx]; rfl
theorem sT_at {j : Nat} (hj : j < 3) (ss : List SamL) : iTab (sT ss) (j : Int) = tAdds (tEv sRch j) [] (iRecs sRch j ss) := by
  unfold iTab sT iPut
  rw [if_neg (by omega), show ((j : Int).toNat) = j by omega]
  have h : ((List.replicate 3 ([] : List TRec)).mapIdx fun i l => tAdds (tEv sRch i) l (iRecs sRch i ss))[j]? = some (tAdds (tEv sRch j) [] (iRecs sRch j ss)) := by
    rw [List.getElem?_mapIdx, List.getElem?_replicate, if_pos hj]
    rfl
  rw [List.getD_eq_getElem?_getD, h]
  rfl
theorem sT_le (ss : List SamL) : ∀ l ∈ sT ss, l.length ≤ ss.length := fun l hl => by
  have := iPut_le (r := sRch) (T := List.replicate 3 []) (ss := ss) (m := 0) (fun l hl => by rw [List.eq_of_mem_replicate hl]; exact Nat.le_refl _) l hl
  omega

theorem sums_pol (w : World) (t : TypeId) : PolRow (w.alloc (.cells #[.string ⟨#[97]⟩, .int .i64 1, .int .i64 900, .int .i64 1, .string ⟨#[98]⟩, .int .i64 4, .int .i64 900, .int .i64 3, .string ⟨#[99]⟩, .int .i64 12, .int .i64 900, .int .i64 2] t)) (.agg #[.string ⟨#[112]⟩, .slice (some ⟨w.heap.size, 0, none⟩) 3 3]) sPol :=
  ⟨_, rfl, ⟨_, _, rfl, .inr ⟨_, 0, rfl, by simp, new_cells w _ t⟩⟩, Nat.le_refl _⟩

set_option maxRecDepth 20000 in
set_option maxHeartbeats 6400000 in
theorem tiersSums_main {TS : TableSpec} (S : TiersSpec TS) (v : Value) (ss : List SamL) (w : World) (hS : S.Ok w) (hv : CellRow w v ss.length (flat aenc ss)) (hs : ∀ s ∈ ss, SFit s) :
    Calls Tryz.prog 6 #[v] w fun e w' => e = .returned (.bool true) ∧ Below w.heap.size w w' := by
  have OK := Hid.of hS
  have HV := Hid.of hv
  have HS := Hid.of hs
  have hsm := Some_any 40 v ss w hv (by decide)
  obtain ⟨va, vc, rfl, -⟩ := hv
  obtain ⟨N, hN⟩ : ∃ N, ss.length = N := ⟨_, rfl⟩
  have NL := Hid.of hN
  rw [hN] at HV hsm ⊢
  clear hS hs hN
  go_enter Tryz.func6, Tryz.ntmps6
  go_wp2_with fail
  refine hsm.mono ?_
  rintro e w1 ⟨ok, rfl, HL, b1⟩
  have B1 := Hid.of b1
  have OK1 := Hid.of (S.okKept OK.out b1)
  clear hsm b1
  cases ok
  · go_wp2_with fail
    refine (tiersAlive_any S _ OK1.out).mono ?_
    rintro e w2 ⟨rfl, b2⟩
    have B2 := Hid.of (B1.out.trans (b2.mono B1.out.size))
    go_wp2
    go_ret
    exact ⟨rfl, B2.out⟩
  · have hN40 : N ≤ 40 := by have := (HL.out rfl).1; rw [NL.out] at this; exact this
    clear HL
    go_wp2_with fail
    obtain ⟨w2, hw2⟩ : ∃ w2, w1.alloc (.cells #[.string ⟨#[97]⟩, .int .i64 1, .int .i64 900, .int .i64 1, .string ⟨#[98]⟩, .int .i64 4, .int .i64 900, .int .i64 3, .string ⟨#[99]⟩, .int .i64 12, .int .i64 900, .int .i64 2] 57) = w2 := ⟨_, rfl⟩
    have b2 : Below w1.heap.size w1 w2 := by rw [← hw2]; exact (Below.refl _ _).alloc (Nat.le_refl _) _
    have B2 := Hid.of (B1.out.trans (b2.mono B1.out.size))
    have hnew := S.new (.agg #[.string ⟨#[112]⟩, .slice (some ⟨w1.heap.size, 0, none⟩) 3 3]) (.slice none 0 0) sPol 800 [] w2 (S.okKept OK1.out b2) (by rw [← hw2]; exact sums_pol w1 _) (by decide) (by decide) (by
      intro x hx
      simp only [sPol, List.mem_cons, List.not_mem_nil, or_false] at hx
      rcases hx with rfl | rfl | rfl <;> exact ⟨by decide, ⟨by decide, by decide⟩, ⟨by decide, by decide⟩, ⟨by decide, by decide⟩⟩) ⟨by decide, by decide⟩ ⟨_, _, rfl, .inl rfl⟩ (Nat.le_refl _) (by decide) (fun x hx => absurd hx List.not_mem_nil)
    rw [hw2]
    clear hw2 b2
    refine hnew.mono ?_
    rintro e w3 ⟨h1, -, b3⟩
    obtain ⟨p, F, rfl, rep, hF⟩ := h1 sums_new
    have H3 : Hid (IHere S w.heap.size w w3 p sRch (sT []) F) := Hid.of ⟨by rw [show sT [] = List.replicate 3 [] from iPut_nil _ _]; exact rep, fun k hk => Nat.le_trans B2.out.size (hF k (S.sub rep k hk)), Nat.le_trans B2.out.size b3.size, B2.out.trans (b3.mono B2.out.size)⟩
    clear rep hF b3 hnew h1 B1 B2 OK1
    go_wp2
    go_loopg [5, 6, 7] N (fun kx nv sv iv wr => ∃ (i m : Nat) (x : Int) (G : TFoot), nv = .int .i64 m ∧ sv = .int .u64 x ∧ iv = .int .i64 i ∧ i ≤ N ∧ N - i ≤ kx ∧ m ≤ i ∧ Hid ((sGood (ss.take i)).length = m) ∧ Hid (x = sSum (sGood (ss.take i)) % 18446744073709551616) ∧ Hid (IHere S w.heap.size w wr p sRch (sT (sGood (ss.take i))) G))
    case atStart => exact ⟨0, 0, 0, F, rfl, rfl, rfl, Nat.zero_le _, Nat.le_refl _, Nat.le_refl _, Hid.of rfl, Hid.of rfl, H3⟩
    case round =>
      clear H3
      obtain ⟨i, m, x, G, rfl, rfl, rfl, hin, hkx, hmi, HM, HX, H⟩ := hrel
      by_cases hlt : (i : Int) < (N : Int)
      · obtain ⟨s, hss⟩ : ∃ s, ss[i]? = some s := ⟨_, List.getElem?_eq_getElem (by have := NL.out; omega)⟩
        have SS := Hid.of hss
        have SF := Hid.of (HS.out s (List.mem_of_getElem? hss))
        obtain ⟨b1, o1, rfl, hb1, c0, c1, c2⟩ := a_at (HV.out.kept H.out.fr) i s hss
        have D2 : Hid (wr.cell? ⟨b1, o1 + i * 3 + 2, none⟩ = some (.int .i64 s.2.2)) := Hid.of c2
        have HB1 : Hid (b1 < w.heap.size) := Hid.of (by
          obtain ⟨_, _, hv, hc⟩ := HV.out
          simp only [Value.slice.injEq] at hv
          rcases hc with hc | ⟨b, o, ha, hl, _⟩
          · exfalso
            have := flat_length aenc_len ss
            rw [hc, List.length_nil, NL.out] at this
            omega
          · have := hv.1.trans ha
            simp only [Option.some.injEq, Addr.mk.injEq] at this
            omega)
        have HIN : Hid (i < N) := Hid.of (by omega)
        have hi0 : (0 : Int) ≤ (i : Int) := by omega
        clear hss hb1
        go_wp2_with fail
        obtain ⟨g0, hg0⟩ : ∃ g, wr.heap.size = g := ⟨_, rfl⟩
        obtain ⟨w4, hw4⟩ : ∃ w4, wr.alloc (.cells #[.string s.1, .int .i64 s.2.1, .int .i64 s.2.2] 23) = w4 := ⟨_, rfl⟩
        have b4 : Below wr.heap.size wr w4 := by rw [← hw4]; exact (Below.refl _ _).alloc (Nat.le_refl _) _
        have hrow : CellRow w4 (.slice (some ⟨g0, 0, none⟩) 1 1) [s].length (flat aenc [s]) := by rw [← hw4, ← hg0]; exact one_sam wr s _
        have H4 := Hid.of (H.out.next b4)
        have hoff : Off G.own (.slice (some ⟨g0, 0, none⟩) 1 1) := fun g hg hF => by
          have := S.lt H.out.rep g (S.sub H.out.rep g hF)
          simp [Value.ownBlock] at hg
          omega
        have hle : ∀ l ∈ sT (sGood (ss.take i)), l.length + 8 ≤ 1000 := fun l hl => by
          have := sT_le _ l hl
          have := HM.out
          omega
        have hput := S.put _ [s] (H4.out.ok OK.out) H4.out.rep hle hrow (Nat.le_refl _) (show 1 ≤ 1000 by decide) (fun _ => hoff) (fun y hy => by rw [List.mem_singleton.1 hy]; exact SF.out)
        rw [iCheck_one] at hput
        have hnx := sGood_next SS.out
        obtain ⟨er, her⟩ : ∃ er, rTakes sRch s.1 s.2.1 = er := ⟨_, rfl⟩
        rw [her] at hput hnx
        have hblt : b1 < w4.heap.size := Nat.lt_of_lt_of_le HB1.out (Nat.le_trans H.out.hB b4.size)
        have D3 := Hid.of (show w4.cell? ⟨b1, o1 + i * 3 + 2, none⟩ = some (.int .i64 s.2.2) by rw [b4.cell (Nat.lt_of_lt_of_le HB1.out H.out.hB)]; exact D2.out)
        rw [hw4, hg0]
        clear hw4 hg0 b4 hrow hoff hle H her c0 c1 c2
        refine hput.mono ?_
        rintro e w5 ⟨rfl, G5, rep5, st5⟩
        have d5 : w5.cell? ⟨b1, o1 + i * 3 + 2, none⟩ = some (.int .i64 s.2.2) := by
          rw [World.cell?_of_block (st5.own.block b1 hblt (fun c => by have := H4.out.ge b1 c; have := HB1.out; omega))]
          exact D3.out
        clear hput D3 hblt
        by_cases h0 : er = 0
        · subst h0
          rw [if_pos rfl] at rep5 hnx
          have rep6 : S.Rep w5 p sRch (sT (sGood (ss.take (i + 1)))) G5 := by
            rw [hnx]
            unfold sT
            rw [iPut_append]
            exact rep5
          have H5 := Hid.of (H4.out.step rep6 st5)
          have NX := Hid.of hnx
          clear rep5 rep6 st5 hnx H4
          go_wp2
          go_roundg (N - (i + 1))
          case measure => have := HIN.out; omega
          case rel =>
            refine ⟨i + 1, m + 1, _, G5, by go_num, rfl, by go_num, HIN.out, Nat.le_refl _, by omega, Hid.of (by rw [NX.out, List.length_append, HM.out]; rfl), Hid.of ?_, H5⟩
            rw [NX.out, sSum_snoc, u64_wrap, u64_wrap, HX.out]
            omega
        · rw [if_neg h0] at rep5 hnx
          rw [List.append_nil] at hnx
          have H5 := Hid.of (H4.out.step rep5 st5)
          have NX := Hid.of hnx
          clear rep5 st5 hnx H4 d5
          go_wp2
          go_roundg (N - (i + 1))
          case measure => have := HIN.out; omega
          case rel => exact ⟨i + 1, m, x, G5, rfl, rfl, by go_num, HIN.out, Nat.le_refl _, by omega, Hid.of (by rw [NX.out]; exact HM.out), Hid.of (by rw [NX.out]; exact HX.out), Hid.of (by rw [NX.out]; exact H5.out)⟩
      · obtain rfl : i = N := by omega
        have htk : ss.take i = ss := List.take_of_length_le (by rw [NL.out]; exact Nat.le_refl _)
        rw [htk] at HM HX H
        clear htk
        obtain ⟨g, hg⟩ : ∃ g, sGood ss = g := ⟨_, rfl⟩
        have hgf : ∀ s ∈ g, SFit s ∧ rTakes sRch s.1 s.2.1 = 0 := fun s h => by
          rw [← hg] at h
          obtain ⟨h1, h2⟩ := List.mem_filter.1 h
          exact ⟨HS.out s h1, of_decide_eq_true h2⟩
        rw [hg] at HM HX H
        have GF := Hid.of hgf
        generalize hwq : wr = wq at *
        have H0 := Hid.of H.out
        clear hg hgf hwq H
        go_wp2
        go_loopg [8] 3 (fun kx jv wz => ∃ j : Nat, jv = .int .i64 j ∧ j ≤ 3 ∧ 3 - j ≤ kx ∧ Hid (IHere S w.heap.size w wz p sRch (sT g) G))
        case atStart => exact ⟨0, rfl, Nat.zero_le _, Nat.le_refl _, H0⟩
        case round =>
          clear H0
          obtain ⟨j, rfl, hj3, hkx2, H⟩ := hrel
          by_cases hjl : (j : Int) < 3
          · have hj : j < 3 := by omega
            have hle : ∀ l ∈ sT g, l.length ≤ 1000 := fun l hl => by
              have := sT_le _ l hl
              have := HM.out
              omega
            have hrec := S.records (j : Int) (H.out.ok OK.out) H.out.rep hle ⟨by omega, by omega⟩
            rw [sT_at hj] at hrec
            obtain ⟨q1, q2⟩ := sums_of hj GF.out (by have := HM.out; omega)
            rw [HM.out] at q1
            rw [← HX.out] at q2
            have hLle : (tAdds (tEv sRch j) [] (iRecs sRch j g)).length ≤ 40 := by
              have h1 := sT_le g (iTab (sT g) (j : Int)) (by
                unfold iTab
                rw [if_neg (by omega), show ((j : Int).toNat) = j by omega, List.getD_eq_getElem?_getD, List.getElem?_eq_getElem (by rw [sT_len]; exact hj)]
                exact List.getElem_mem _)
              rw [sT_at hj] at h1
              have := HM.out
              omega
            have hall : TAll (tAdds (tEv sRch j) [] (iRecs sRch j g)) := tAdds_all all_nil (fun x hx => by
              obtain ⟨s, hs', rfl⟩ := List.mem_map.1 hx
              exact (agOf_good (fun y hy => by rw [List.mem_singleton.1 hy]; exact (GF.out s (List.mem_filter.1 hs').1).1.2.2)).1)
            obtain ⟨L, hL⟩ : ∃ L, tAdds (tEv sRch j) [] (iRecs sRch j g) = L := ⟨_, rfl⟩
            rw [hL] at hrec q1 q2 hLle hall
            obtain ⟨K, hK⟩ : ∃ K, L.length = K := ⟨_, rfl⟩
            have KL := Hid.of hK
            have Q1 := Hid.of q1
            have Q2 := Hid.of q2
            have LA := Hid.of hall
            rw [hK] at hLle
            have HJ := Hid.of hj
            clear hle q1 q2 hL hK hj hall
            go_wp2_with fail
            refine hrec.mono ?_
            rintro e w6 ⟨u, rfl, o6, b6⟩
            have hrow := own_row o6
            obtain ⟨ua, uc, hu, -⟩ := own_one o6
            subst hu
            have R6 : Hid (CellRow w6 (.slice ua K uc) K (flat renc (L.map rl))) := Hid.of (by rw [← KL.out]; exact hrow)
            have H6 := Hid.of (H.out.next b6)
            rw [KL.out]
            clear hrec hrow o6 b6 H
            go_wp2
            go_loopg [10, 11, 12] K (fun ky cv lv kv wy => ∃ (k : Nat) (c y : Int), cv = .int .i64 c ∧ lv = .int .u64 y ∧ kv = .int .i64 k ∧ k ≤ K ∧ K - k ≤ ky ∧ Hid (c = sumC (L.take k)) ∧ Hid (y = sumLo (L.take k) % 18446744073709551616) ∧ wy = w6)
            case atStart => exact ⟨0, 0, 0, rfl, rfl, rfl, Nat.zero_le _, Nat.le_refl _, Hid.of rfl, Hid.of rfl, rfl⟩
            case round =>
              obtain ⟨k, c, y, rfl, rfl, rfl, hkK, hky, HC, HY, rfl⟩ := hrel
              by_cases hkl : (k : Int) < (K : Int)
              · obtain ⟨x1, hx1⟩ : ∃ x, L[k]? = some x := ⟨_, List.getElem?_eq_getElem (by have := KL.out; omega)⟩
                have X1 := Hid.of hx1
                obtain ⟨b2, o2, rfl, hb2, e0, e1, e2, e3, e4, e5, e6⟩ := r_at R6.out k (rl x1) (by rw [List.getElem?_map, hx1]; rfl)
                have f2 : wr.cell? ⟨b2, o2 + k * 7 + 2, none⟩ = some (.int .i64 x1.a.c) := e2
                have f4 : wr.cell? ⟨b2, o2 + k * 7 + 2 + 2, none⟩ = some (.int .u64 x1.a.lo) := e4
                have hk0 : (0 : Int) ≤ (k : Int) := by omega
                have HKK : Hid (k < K) := Hid.of (by omega)
                have hnx := take_next hx1
                have hcb : 0 ≤ c ∧ c + x1.a.c ≤ 1000 ∧ 0 ≤ x1.a.c := by
                  have h1 := sumC_take LA.out (k + 1)
                  have h2 := sumC_nonneg (fun z hz => LA.out z (List.mem_of_mem_take hz) : TAll (L.take k))
                  have h3 := ((agOk_iff _).1 (LA.out x1 (List.mem_of_getElem? hx1)).1).1
                  rw [hnx, sumC_snoc, Q1.out] at h1
                  rw [HC.out]
                  omega
                have NX := Hid.of hnx
                clear hnx
                obtain ⟨cb0, cb1, cb2⟩ := hcb
                clear e0 e1 e2 e3 e4 e5 e6 hx1 hb2
                go_wp2
                go_roundg (K - (k + 1))
                case measure => have := HKK.out; omega
                case rel =>
                  refine ⟨k + 1, c + x1.a.c, _, rfl, rfl, by go_num, HKK.out, Nat.le_refl _, Hid.of (by rw [NX.out, sumC_snoc, HC.out]), Hid.of ?_, rfl⟩
                  rw [NX.out, sumLo_snoc, u64_wrap, HY.out, Int.emod_add_emod]
              · obtain rfl : k = K := by omega
                have htk : L.take k = L := List.take_of_length_le (by rw [KL.out]; exact Nat.le_refl _)
                rw [htk] at HC HY
                have hc : c = (m : Int) := by rw [HC.out, Q1.out]
                have hy : y = x := by rw [HY.out, Q2.out]
                subst hc
                subst hy
                clear htk
                go_wp2
                go_roundg (3 - (j + 1))
                case measure => have := HJ.out; omega
                case rel => exact ⟨j + 1, by go_num, HJ.out, Nat.le_refl _, H6⟩
          · go_wp2_with fail
            refine (tiersAlive_any S _ (H.out.ok OK.out)).mono ?_
            rintro e w7 ⟨rfl, b7⟩
            have H7 := Hid.of (H.out.next b7)
            go_wp2
            go_ret
            exact ⟨rfl, H7.out.fr⟩

end Go.Proofs.YtnohmloilcpmiaaGreat
