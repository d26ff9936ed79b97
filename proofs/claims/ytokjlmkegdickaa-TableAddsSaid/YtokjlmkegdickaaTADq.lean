/-
  TableAdds: it does not matter in what order records come, nor whether all at once.
-/
import Derived.StillTailTactics
import Derived.Test.YtokjlmkegdickaaTFIq
namespace Go.Proofs.Ytokjlmkegdickaa
open Go.RowKit Go.Lib

theorem flat_set {α : Type} {enc : α → List Value} {s : Nat} (h : ∀ x, (enc x).length = s) (l : List α) (k : Nat) (m : α) (hk : k < l.length) : setMany (flat enc l) (k * s) (enc m) = flat enc (l.set k m) := by
  have hbig := Nat.mul_le_mul_right s (show k + 1 ≤ l.length by omega)
  have e1 : k * s + s = (k + 1) * s := by rw [Nat.add_mul, Nat.one_mul]
  rw [setMany_eq _ _ _ (by rw [flat_length h, h]; omega), h, flat_take h, e1, flat_drop h, ← flat_one (enc := enc) m, ← flat_append, ← flat_append]
  congr 1
  rw [List.set_eq_take_append_cons_drop, if_pos hk]
  simp

/-- A list with two swapped is the same in another order. -/
theorem swap_perm {α : Type} {l : List α} {a b : Nat} {x y : α} (hx : l[a]? = some x) (hy : l[b]? = some y) : ((l.set a y).set b x).Perm l := by
  obtain ⟨ha, rfl⟩ := List.getElem?_eq_some_iff.1 hx
  obtain ⟨hb, rfl⟩ := List.getElem?_eq_some_iff.1 hy
  exact List.set_set_perm ha hb

theorem rl_set (l : List TRec) (a : Nat) (x : TRec) : (l.map rl).set a (rl x) = (l.set a x).map rl := (List.map_set ..).symm

/-- The place that an int tells of a list of M. -/
theorem place {x : Int} {M : Nat} (hM : 0 < M) : ∃ r s : Int, ∃ a : Nat, x.tmod M = r ∧ r + M = s ∧ s.tmod M = a ∧ a < M ∧ 0 ≤ s ∧ s ≤ 2 * M ∧ -(M : Int) ≤ r ∧ r ≤ M := by
  have h1 := Int.tmod_lt_of_pos x (show (0 : Int) < M by omega)
  have h2 := rem_low (e := M) x (by omega)
  have h3 := Int.tmod_lt_of_pos (x.tmod M + M) (show (0 : Int) < M by omega)
  have h4 := Int.tmod_nonneg (M : Int) (show 0 ≤ x.tmod M + M by omega)
  exact ⟨_, _, ((x.tmod M + M).tmod M).toNat, rfl, rfl, by omega, by omega, by omega, by omega, by omega, by omega⟩

/-- Two tables of one's own that share no block that either writes into. -/
structure TPair (S : TableSpec) (B : Nat) (w0 w : World) (p q : Nat) (l l' : List TRec) (F G : TFoot) : Prop where
  t : THere S B w0 w p 1 l F
  c : THere S B w0 w q 1 l' G
  d1 : ∀ k, F.all k → ¬ G.own k
  d2 : ∀ k, G.all k → ¬ F.own k

section
variable {S : TableSpec} {B p q : Nat} {w0 w w' : World} {l l' l2 : List TRec} {F G F' G' : TFoot}

theorem TPair.next (h : TPair S B w0 w p q l l' F G) (b : Below w.heap.size w w') : TPair S B w0 w' p q l l' F G := ⟨h.t.next b, h.c.next b, h.d1, h.d2⟩

theorem THere.beside {e : Int} (h : THere S B w0 w p e l F) (st : TStep G G' w w') (d : ∀ k, F.all k → ¬ G.own k) (hG : ∀ k, G.own k → B ≤ k) : THere S B w0 w' p e l F :=
  ⟨S.kept h.rep st.own.size (fun k hk => st.own.block k (S.lt h.rep k hk) (d k hk)), h.ge, Nat.le_trans h.hB st.own.size, st.own.below h.fr h.hB hG⟩

theorem TPair.one (h : TPair S B w0 w p q l l' F G) (r : S.Rep w' p 1 l2 F') (st : TStep F F' w w') : TPair S B w0 w' p q l2 l' F' G :=
  ⟨h.t.step r st, h.c.beside st h.d2 (fun k hk => h.t.ge k (S.sub h.t.rep k hk)), fun k hk hg => by
      rcases st.more k hk with c | c
      · exact h.d1 k c hg
      · have := S.lt h.c.rep k (S.sub h.c.rep k hg)
        omega, fun k hk hg => by
      rcases st.own.foot k hg with c | c
      · exact h.d2 k hk c
      · have := S.lt h.c.rep k hk
        omega⟩

theorem TPair.two (h : TPair S B w0 w p q l l' F G) (r : S.Rep w' q 1 l2 G') (st : TStep G G' w w') : TPair S B w0 w' p q l l2 F G' :=
  ⟨h.t.beside st h.d1 (fun k hk => h.c.ge k (S.sub h.c.rep k hk)), h.c.step r st, fun k hk hg => by
      rcases st.own.foot k hg with c | c
      · exact h.d1 k hk c
      · have := S.lt h.t.rep k hk
        omega, fun k hk hg => by
      rcases st.more k hk with c | c
      · exact h.d2 k c hg
      · have := S.lt h.t.rep k (S.sub h.t.rep k hg)
        omega⟩
end

theorem setCells_same (ys : List Value) : ∀ (w : World) (g o : Nat), w.setCells g o ys = setCells w g o ys := by
  induction ys with
  | nil => intro w g o; rfl
  | cons y ys ih => intro w g o; exact ih _ _ _

theorem own_there {w : World} {D : Nat} {e : TypeId} {g n cap k : Nat} {xs : List Value} (h : w.ownsRow D e 7 (.slice (some ⟨g, 0, none⟩) n cap) n xs) (hk : k < n) : w.there g (k * 7) 7 := by
  intro j hj
  have h1 := h.cellAt (k * 7 + j) (by omega)
  have h2 := h.frozenAt (k * 7 + j)
  refine ⟨?_, h2⟩
  rw [h1, List.getElem?_eq_getElem (by rw [h.1]; omega)]
  rfl

section
variable {P : Program}
/-- A whole struct stored, as one step of a region that draws its order. -/
theorem step_store_mid {ops : Array Oper} {op : Oper} {a : Act} {w : World} {K : Act → World → Prop} {Q : Exit → Act → World → Prop} {E : Prop} (hgd : op.guard = none) (ty : TypeId) (x y : Operand) (ho : op.op = .store ty x y)
    (b o : Nat) (cells : Array Value) (hx : a.eval x = .pointer (some ⟨b, o, none⟩)) (hy : a.eval y = .agg cells)
    (ht : w.there b o cells.size) (hi : (P.info? ty).map (·.size) = some cells.size) (h1 : cells.all (·.oneCell') = true)
    (h : K (a.put op.dst undef) (w.setCells b o cells.toList)) : if Region.wanted op (yielded ops a.tmps) = true then Oper.wp P op a w K Q else E := by
  have hw : Region.wanted op (yielded ops a.tmps) = true := by simp [Region.wanted, hgd]
  rw [if_pos hw]
  exact wp_store_mid ty x y ho b o cells hx hy ht hi h1 h
end

theorem rec_size7 : (Try.prog.info? 26).map (·.size) = some 7 := by kernel_rfl

/-- A record stored into a row of one's own. -/
theorem own_put {w : World} {D : Nat} {g n cap k : Nat} {ms : List TRec} (h : w.ownsRow D 26 7 (.slice (some ⟨g, 0, none⟩) n cap) n (flat renc (ms.map rl))) (x : TRec) (hl : ms.length = n) (hk : k < n) :
    (w.setCells g (k * 7) (renc (rl x))).ownsRow D 26 7 (.slice (some ⟨g, 0, none⟩) n cap) n (flat renc ((ms.set k x).map rl)) ∧ w.grownBy (w.setCells g (k * 7) (renc (rl x))) (some g) := by
  obtain ⟨h1, h2⟩ := setCells_own (renc (rl x)) (k * 7) h
  rw [flat_set renc_len (ms.map rl) k (rl x) (by rw [List.length_map]; omega), rl_set] at h1
  rw [setCells_same]
  exact ⟨h1, h2⟩

set_option maxRecDepth 20000 in
set_option maxHeartbeats 6400000 in
theorem tableAdds_main (S : TableSpec) (v gv : Value) (rs : List TRec) (os : List Int) (w : World) (hv : CellRow w v rs.length (flat renc (rs.map rl))) (hr : ∀ r ∈ rs, TFit r) (hg : NumRow .i64 w gv os) (hos : ∀ x ∈ os, TIn64 x) :
    Calls Try.prog 6 #[v, gv] w fun e w' => e = .returned (.bool true) ∧ Below w.heap.size w w' := by
  have hl : (rs.map rl).length = rs.length := List.length_map ..
  have HV0 := Hid.of (show CellRow w v (rs.map rl).length (flat renc (rs.map rl)) by rw [hl]; exact hv)
  have HV := Hid.of hv
  have HG := Hid.of (NumRow.cells' hg)
  obtain ⟨ga, gc, rfl, -⟩ := hg
  have HR := Hid.of hr
  have HOS := Hid.of hos
  clear hv hr hl hos
  go_enter Try.func6, Try.ntmps6
  go_wp2_with fail
  refine (Few_any 30 v _ w HV0.out (by decide)).mono ?_
  rintro e w1 ⟨r, rfl, hf, b1⟩
  have B1 := Hid.of b1
  clear b1
  have ALV : Hid (Calls Try.prog 9 #[] w1 fun e w' => e = .returned (.bool true) ∧ Below w.heap.size w w') := Hid.of (by
    refine (tableAlive_any S w1).mono ?_
    rintro e w' ⟨he, b⟩
    exact ⟨he, B1.out.trans (b.mono B1.out.size)⟩)
  cases r with
  | false =>
    go_wp2_with fail
    refine ALV.out.mono ?_
    rintro e w2 ⟨rfl, b2⟩
    go_wp2
    go_ret
    exact ⟨rfl, b2⟩
  | true =>
    have RF : Hid (rs.length ≤ 30) := Hid.of (by have := (hf.out rfl).1; rwa [List.length_map] at this)
    clear hf
    obtain ⟨O, hO⟩ : ∃ O, os.length = O := ⟨_, rfl⟩
    obtain ⟨M, hM⟩ : ∃ M, rs.length = M := ⟨_, rfl⟩
    have HO := Hid.of hO
    have HM := Hid.of hM
    rw [hO] at HG ⊢
    rw [hM] at RF HV
    clear hO hM
    by_cases hbad : (40 : Int) < (O : Int)
    · go_wp2_with fail
      refine ALV.out.mono ?_
      rintro e w3 ⟨rfl, b3⟩
      go_wp2
      go_ret
      exact ⟨rfl, b3⟩
    · have O40 : Hid (O ≤ 40) := Hid.of (by omega)
      clear ALV
      have V1 := Hid.of (HV.out.kept B1.out)
      have m9 : M ≤ 30 := RF.out
      have HFL : Hid ((flat renc (rs.map rl)).length = M * 7) := Hid.of (by rw [flat_length renc_len, List.length_map, HM.out])
      obtain ⟨i0, hi, hz0, hz1, hz2⟩ := info_parts (show (Try.prog.info? 26).map (fun i => (i.zero, i.size, i.bytes)) = some (some (.agg #[.string ⟨#[]⟩, .int .i64 0, .int .i64 0, .int .i64 0, .int .u64 0, .int .i64 0, .int .i64 0]), 7, 64) by kernel_rfl)
      have HI := Hid.of hi
      have HZ0 := Hid.of hz0
      have HZ1 := Hid.of hz1
      have HZ2 := Hid.of hz2
      clear hi hz0 hz1 hz2
      go_wp2_with (at_builtin; refine append_row_law rfl _ (.tmp 23) 38 rfl w1.heap.size 26 i0 (.agg #[.string ⟨#[]⟩, .int .i64 0, .int .i64 0, .int .i64 0, .int .u64 0, .int .i64 0, .int .i64 0]) 7 64 Try.underlying38 HI.out HZ0.out HZ1.out HZ2.out rfl (by decide) (.slice none 0 0) 0 [] rfl ⟨rfl, .inl ⟨rfl, rfl⟩⟩ _ M _ rfl V1.out HFL.out (flat_ones renc_one _) (by unfold maxLen; omega) (by omega) (Nat.le_refl _) ?_; intro v1 w2 o1 g1; have O1 : Hid (w2.ownsRow w1.heap.size 26 7 v1 M (flat renc (rs.map rl))) := Hid.of (by simpa using o1); have B2 : Hid (Below w1.heap.size w1 w2) := Hid.of (below_of_none g1); clear o1 g1)
      clear hbad
      obtain ⟨ma, mc, rfl, -⟩ := own_one O1.out
      go_loopw [6, 7, 8] (fun iv _ _ wr => ∃ (i : Nat) (ms : List TRec), i ≤ O ∧ iv = .int .i64 i ∧ Hid (ms.Perm rs) ∧ Hid (wr.ownsRow w1.heap.size 26 7 (.slice ma M mc) M (flat renc (ms.map rl))) ∧ Hid (Below w1.heap.size w1 wr)) (fun iv _ _ _ => O - (RowKit.intOf iv).toNat)
      case atStart => exact ⟨0, rs, Nat.zero_le _, rfl, Hid.of (List.Perm.refl _), O1, B2⟩
      case round =>
        clear O1 B2
        obtain ⟨i, ms, hi, rfl, PM, OR, BR⟩ := hrel
        have i0 : (0 : Int) ≤ (i : Int) := Int.natCast_nonneg _
        have i9 : (i : Int) ≤ 40 := by have := O40.out; omega
        obtain ⟨both, hboth⟩ : ∃ both, decide (i + 1 < O ∧ 0 < M) = both := ⟨_, rfl⟩
        have HBO := Hid.of hboth
        clear hboth
        go_upto_region 5 with fail
        go_cut [34] (fun bv wx => bv = .bool both ∧ wr = wx)
        case first =>
          have hex : (¬ (i : Int) + 1 < (O : Int)) ∨ ((i : Int) + 1 < (O : Int) ∧ M = 0) ∨ ((i : Int) + 1 < (O : Int) ∧ 0 < M) := by omega
          rcases hex with m1 | ⟨m1, m2⟩ | ⟨m1, m2⟩
          · go_wp2_with fail
            go_meet
            exact ⟨congrArg Value.bool (by rw [← HBO.out]; exact (decide_eq_false (by omega)).symm), rfl⟩
          · have m3 : ¬ (0 : Int) < (M : Int) := by omega
            have MZ := Hid.of m2
            clear m2
            go_wp2_with fail
            go_meet
            exact ⟨congrArg Value.bool (by have := MZ.out; rw [← HBO.out, Bool.eq_iff_iff]; simp only [decide_eq_true_eq]; omega), rfl⟩
          · have m3 : (0 : Int) < (M : Int) := by omega
            go_wp2_with fail
            go_meet
            exact ⟨congrArg Value.bool (by rw [← HBO.out]; exact (decide_eq_true (by omega)).symm), rfl⟩
        case rest =>
          obtain ⟨rfl, rfl⟩ := hcut
          cases both with
          | true =>
            obtain ⟨hO1, hM0⟩ := of_decide_eq_true HBO.out
            clear HBO
            obtain ⟨g, hg⟩ : ∃ g, ma = some ⟨g, 0, none⟩ := by
              rcases OR.out.2 with ⟨h, h'⟩ | ⟨g, cap, cur, h, _⟩
              · omega
              · simp only [Value.slice.injEq] at h
                exact ⟨g, h.1⟩
            subst hg
            have hms : ms.length = M := PM.out.length_eq.trans HM.out
            have HMS := Hid.of hms
            have G1 := Hid.of (HG.out.kept (B1.out.trans (BR.out.mono B1.out.size)))
            obtain ⟨x, hx⟩ : ∃ x, os.getD i 0 = x := ⟨_, rfl⟩
            obtain ⟨y, hy⟩ : ∃ y, os.getD (i + 1) 0 = y := ⟨_, rfl⟩
            obtain ⟨gb, go, rfl, -, gx⟩ := int_at G1.out i (by rw [HO.out]; omega) HO.out.symm
            obtain ⟨gb', go', hgb, -, gy⟩ := int_at G1.out (i + 1) (by rw [HO.out]; omega) HO.out.symm
            simp only [Option.some.injEq, Addr.mk.injEq, and_true] at hgb
            obtain ⟨rfl, rfl⟩ := hgb
            rw [hx] at gx
            rw [hy] at gy
            obtain ⟨k, hk⟩ : ∃ k, i + 1 = k := ⟨_, rfl⟩
            rw [hk] at gy
            have wk : IntKind.i64.wrap ((i : Int) + 1) = (k : Int) := by
              simp [IntKind.wrap, IntKind.bits, IntKind.signed]
              omega
            obtain ⟨r1, s1, a, ra, sa, ta, a9, sa0, sa9, ra0, ra9⟩ := place (x := x) hM0
            obtain ⟨r2, s2, b, rb, sb, tb, b9, sb0, sb9, rb0, rb9⟩ := place (x := y) hM0
            have wa : IntKind.i64.wrap (r1 + (M : Int)) = s1 := by
              rw [sa]
              simp [IntKind.wrap, IntKind.bits, IntKind.signed]
              omega
            have wb : IntKind.i64.wrap (r2 + (M : Int)) = s2 := by
              rw [sb]
              simp [IntKind.wrap, IntKind.bits, IntKind.signed]
              omega
            have mz : ¬ (M : Int) = 0 := by omega
            have ii1 : (i : Int) < (O : Int) := by omega
            have k0 : (0 : Int) ≤ (k : Int) := by omega
            have k1 : (k : Int) < (O : Int) := by omega
            have KI := Hid.of hk
            have A9 := Hid.of a9
            have B9 := Hid.of b9
            clear hx hy hk sa sb sa0 sa9 ra0 ra9 sb0 sb9 rb0 rb9 hms G1 a9 b9 hi
            go_upto_region 7 with fail
            go_quiet (fail)
            clear gx gy wk ra ta rb tb wa wb mz ii1 k0 k1
            go_upto_region 8 with fail
            have OR2 : Hid ((wr.drewN nq).ownsRow w1.heap.size 26 7 (.slice (some ⟨g, 0, none⟩) M mc) M (flat renc (ms.map rl))) := Hid.of ((Step.of_below (F := fun _ => False) (below_drewN (Below.refl _ _) nq)).own OR.out (fun _ _ c => c))
            have BR2 := Hid.of (below_drewN BR.out nq)
            generalize wr.drewN nq = wb at *
            obtain ⟨ya, hya⟩ : ∃ ya, ms[a]? = some ya := ⟨_, List.getElem?_eq_getElem (by rw [HMS.out]; exact A9.out)⟩
            obtain ⟨yb, hyb⟩ : ∃ yb, ms[b]? = some yb := ⟨_, List.getElem?_eq_getElem (by rw [HMS.out]; exact B9.out)⟩
            have CR := own_row OR2.out
            obtain ⟨ba, oa, hba, -, qa⟩ := r_at CR a (rl ya) (by rw [List.getElem?_map, hya]; rfl)
            obtain ⟨bb, ob, hbb, -, qb⟩ := r_at CR b (rl yb) (by rw [List.getElem?_map, hyb]; rfl)
            simp only [Option.some.injEq, Addr.mk.injEq, and_true] at hba hbb
            obtain ⟨rfl, rfl⟩ := hba
            obtain ⟨rfl, rfl⟩ := hbb
            obtain ⟨xa0, xa1, xa2, xa3, xa4, xa5, xa6⟩ := qa
            obtain ⟨xb0, xb1, xb2, xb3, xb4, xb5, xb6⟩ := qb
            simp only [rl, Nat.zero_add] at xa0 xa1 xa2 xa3 xa4 xa5 xa6 xb0 xb1 xb2 xb3 xb4 xb5 xb6
            have HYA := Hid.of hya
            have HYB := Hid.of hyb
            have ia0 : (0 : Int) ≤ (a : Int) := by omega
            have ia1 : (a : Int) < (M : Int) := by have := A9.out; omega
            have ib0 : (0 : Int) ≤ (b : Int) := by omega
            have ib1 : (b : Int) < (M : Int) := by have := B9.out; omega
            clear hya hyb CR OR BR
            refine wp_region_noPanic ?_
            refine wp_region_held_drew (S := fun _ => True) (by kernel_rfl) trivial (fun hHeld => ?_)
            refine wpAnyH_take (i := 0) (oi := ⟨_, _, _, _, _, _⟩) (v := ?_) rfl (by kernel_rfl) (by kernel_rfl) (by kernel_rfl) (fun _ _ _ h => h) (Or.inl ⟨by rfl, ?_⟩) hHeld ?_
            rotate_left
            · intro w' hSw
              try dsimp only at hSw
              go_simp
              all_goals with_reducible rfl
            simp only [Act.put, List.setIfInBounds_toArray, List.set_cons_zero, List.set_cons_succ]
            refine wpAnyH_take (i := 1) (oi := ⟨_, _, _, _, _, _⟩) (v := ?_) rfl (by kernel_rfl) (by kernel_rfl) (by kernel_rfl) (fun _ _ _ h => h) (Or.inl ⟨by rfl, ?_⟩) hHeld ?_
            rotate_left
            · intro w' hSw
              try dsimp only at hSw
              go_simp
              all_goals with_reducible rfl
            simp only [Act.put, List.setIfInBounds_toArray, List.set_cons_zero, List.set_cons_succ]
            refine wpAnyH_take (i := 2) (oi := ⟨_, _, _, _, _, _⟩) (v := ?_) rfl (by kernel_rfl) (by kernel_rfl) (by kernel_rfl) (fun _ _ _ h => h) (Or.inl ⟨by rfl, ?_⟩) hHeld ?_
            rotate_left
            · intro w' hSw
              try dsimp only at hSw
              go_simp
              all_goals with_reducible rfl
            simp only [Act.put, List.setIfInBounds_toArray, List.set_cons_zero, List.set_cons_succ]
            refine wpAnyH_take (i := 3) (oi := ⟨_, _, _, _, _, _⟩) (v := ?_) rfl (by kernel_rfl) (by kernel_rfl) (by kernel_rfl) (fun _ _ _ h => h) (Or.inl ⟨by rfl, ?_⟩) hHeld ?_
            rotate_left
            · intro w' hSw
              try dsimp only at hSw
              go_simp
              all_goals with_reducible rfl
            simp only [Act.put, List.setIfInBounds_toArray, List.set_cons_zero, List.set_cons_succ]
            refine wpAnyH_take (i := 4) (oi := ⟨_, _, _, _, _, _⟩) (v := ?_) rfl (by kernel_rfl) (by kernel_rfl) (by kernel_rfl) (fun _ _ _ h => h) (Or.inl ⟨by rfl, ?_⟩) hHeld ?_
            rotate_left
            · intro w' hSw
              try dsimp only at hSw
              go_simp
              all_goals with_reducible rfl
            simp only [Act.put, List.setIfInBounds_toArray, List.set_cons_zero, List.set_cons_succ]
            refine wpAnyH_take (i := 5) (oi := ⟨_, _, _, _, _, _⟩) (v := ?_) rfl (by kernel_rfl) (by kernel_rfl) (by kernel_rfl) (fun _ _ _ h => h) (Or.inl ⟨by rfl, ?_⟩) hHeld ?_
            rotate_left
            · intro w' hSw
              try dsimp only at hSw
              go_simp
              all_goals with_reducible rfl
            simp only [Act.put, List.setIfInBounds_toArray, List.set_cons_zero, List.set_cons_succ]
            refine wpAnyH_take (i := 6) (oi := ⟨_, _, _, _, _, _⟩) (v := ?_) rfl (by kernel_rfl) (by kernel_rfl) (by kernel_rfl) (fun _ _ _ h => h) (Or.inl ⟨by rfl, ?_⟩) hHeld ?_
            rotate_left
            · intro w' hSw
              try dsimp only at hSw
              go_simp
              all_goals with_reducible rfl
            simp only [Act.put, List.setIfInBounds_toArray, List.set_cons_zero, List.set_cons_succ]
            refine wpAnyH_take (i := 8) (oi := ⟨_, _, _, _, _, _⟩) (v := ?_) rfl (by kernel_rfl) (by kernel_rfl) (by kernel_rfl) (fun _ _ _ h => h) (Or.inl ⟨by rfl, ?_⟩) hHeld ?_
            rotate_left
            · intro w' hSw
              try dsimp only at hSw
              go_simp
              all_goals with_reducible rfl
            simp only [Act.put, List.setIfInBounds_toArray, List.set_cons_zero, List.set_cons_succ]
            refine wpAnyH_take (i := 9) (oi := ⟨_, _, _, _, _, _⟩) (v := ?_) rfl (by kernel_rfl) (by kernel_rfl) (by kernel_rfl) (fun _ _ _ h => h) (Or.inl ⟨by rfl, ?_⟩) hHeld ?_
            rotate_left
            · intro w' hSw
              try dsimp only at hSw
              go_simp
              all_goals with_reducible rfl
            simp only [Act.put, List.setIfInBounds_toArray, List.set_cons_zero, List.set_cons_succ]
            refine wpAnyH_take (i := 10) (oi := ⟨_, _, _, _, _, _⟩) (v := ?_) rfl (by kernel_rfl) (by kernel_rfl) (by kernel_rfl) (fun _ _ _ h => h) (Or.inl ⟨by rfl, ?_⟩) hHeld ?_
            rotate_left
            · intro w' hSw
              try dsimp only at hSw
              go_simp
              all_goals with_reducible rfl
            simp only [Act.put, List.setIfInBounds_toArray, List.set_cons_zero, List.set_cons_succ]
            obtain ⟨wd, hwd⟩ : ∃ wd, wb.drew = wd := ⟨_, rfl⟩
            have OD : Hid (wd.ownsRow w1.heap.size 26 7 (.slice (some ⟨g, 0, none⟩) M mc) M (flat renc (ms.map rl))) := Hid.of (by rw [← hwd]; exact (Step.of_below (F := fun _ => False) (Below.refl _ _).drew).own OR2.out (fun _ _ c => c))
            have BD : Hid (Below w1.heap.size w1 wd) := Hid.of (by rw [← hwd]; exact BR2.out.drew)
            have hca : ∀ z, wd.cell? z = wb.cell? z := fun z => by rw [← hwd]; rfl
            rw [← hca] at xa0 xa1 xa2 xa3 xa4 xa5 xa6 xb0 xb1 xb2 xb3 xb4 xb5 xb6
            rw [hwd]
            clear hwd hca OR2 BR2
            refine wpAnyH_ready (rs := [7, 11]) (by kernel_rfl) (by simp) ?_
            refine AllReadyH.cons (o := ⟨_, _, _, _, _, _⟩) rfl (fun K hK => ?_) (AllReadyH.cons (o := ⟨_, _, _, _, _, _⟩) rfl (fun K hK => ?_) AllReadyH.nil)
            · skip
              go_simp
              refine hK.out _ _ trivial (fun hHeld => ?_)
              clear hK K
              try simp only [Act.put, List.setIfInBounds_toArray, List.set_cons_zero, List.set_cons_succ]
              refine wpAnyH_ready (rs := [11]) (by kernel_rfl) (by simp) ?_
              refine AllReadyH.cons (o := ⟨_, _, _, _, _, _⟩) rfl (fun K hK => ?_) AllReadyH.nil
              go_simp
              refine hK.out _ _ trivial (fun hHeld => ?_)
              clear hK K
              try simp only [Act.put, List.setIfInBounds_toArray, List.set_cons_zero, List.set_cons_succ]
              clear xa0 xa1 xa2 xa3 xa4 xa5 xa6 xb0 xb1 xb2 xb3 xb4 xb5 xb6
              refine wpAnyH_take (i := 12) (oi := ⟨_, _, _, _, _, _⟩) (v := ?_) rfl (by kernel_rfl) (by kernel_rfl) (by kernel_rfl) (fun _ _ _ h => h) (Or.inl ⟨by rfl, ?_⟩) hHeld ?_
              rotate_left
              · intro w' hSw
                try dsimp only at hSw
                go_simp
                all_goals with_reducible rfl
              simp only [Act.put, List.setIfInBounds_toArray, List.set_cons_zero, List.set_cons_succ]
              refine wpAnyH_ready (rs := [13]) (by kernel_rfl) (by simp) ?_
              refine AllReadyH.cons (o := ⟨_, _, _, _, _, _⟩) rfl (fun K hK => ?_) AllReadyH.nil
              refine step_store_mid rfl 26 _ _ rfl g (a * 7) (renc (rl yb)).toArray rfl rfl (own_there OD.out A9.out) rec_size7 (all_oneCell_toArray (renc_one (rl yb))) ?_
              obtain ⟨p1, p2⟩ := own_put OD.out yb HMS.out A9.out
              refine hK.out _ _ trivial (fun hHeld => ?_)
              clear hK K
              try simp only [Act.put]
              obtain ⟨we, hwe⟩ : ∃ we, wd.setCells g (a * 7) (renc (rl yb)) = we := ⟨_, rfl⟩
              rw [hwe] at p1 p2
              rw [show wd.setCells g (a * 7) (renc (rl yb)).toArray.toList = we from hwe]
              have OE := Hid.of p1
              have BE := Hid.of (BD.out.grown p2 BD.out.size (fun k hk => by cases hk; exact own_ge OD.out rfl))
              clear p1 p2 hwe
              refine wpAnyH_take (i := 14) (oi := ⟨_, _, _, _, _, _⟩) (v := ?_) rfl (by kernel_rfl) (by kernel_rfl) (by kernel_rfl) (fun _ _ _ h => h) (Or.inl ⟨by rfl, ?_⟩) hHeld ?_
              rotate_left
              · intro w' hSw
                try dsimp only at hSw
                go_simp
                all_goals with_reducible rfl
              simp only [Act.put, List.setIfInBounds_toArray, List.set_cons_zero, List.set_cons_succ]
              refine wpAnyH_ready (rs := [15]) (by kernel_rfl) (by simp) ?_
              refine AllReadyH.cons (o := ⟨_, _, _, _, _, _⟩) rfl (fun K hK => ?_) AllReadyH.nil
              refine step_store_mid rfl 26 _ _ rfl g (b * 7) (renc (rl ya)).toArray rfl rfl (own_there OE.out B9.out) rec_size7 (all_oneCell_toArray (renc_one (rl ya))) ?_
              obtain ⟨p1, p2⟩ := own_put OE.out ya (by rw [List.length_set]; exact HMS.out) B9.out
              refine hK.out _ _ trivial (fun hHeld => ?_)
              clear hK K
              try simp only [Act.put]
              obtain ⟨wf, hwf⟩ : ∃ wf, we.setCells g (b * 7) (renc (rl ya)) = wf := ⟨_, rfl⟩
              rw [hwf] at p1 p2
              rw [show we.setCells g (b * 7) (renc (rl ya)).toArray.toList = wf from hwf]
              have OF := Hid.of p1
              have BF := Hid.of (BE.out.grown p2 BE.out.size (fun k hk => by cases hk; exact own_ge OE.out rfl))
              clear p1 p2 hwf
              refine wpAnyH_done (by kernel_rfl) ?_ _
              refine NoPanic.normal ?_
              go_wp2
              go_roundw
              case rel => exact ⟨i + 1, _, by omega, by go_num, Hid.of ((swap_perm HYA.out HYB.out).trans PM.out), OF, BF⟩
              case measure => simp [RowKit.intOf]; omega
            · skip
              go_simp
              refine hK.out _ _ trivial (fun hHeld => ?_)
              clear hK K
              try simp only [Act.put, List.setIfInBounds_toArray, List.set_cons_zero, List.set_cons_succ]
              refine wpAnyH_ready (rs := [7]) (by kernel_rfl) (by simp) ?_
              refine AllReadyH.cons (o := ⟨_, _, _, _, _, _⟩) rfl (fun K hK => ?_) AllReadyH.nil
              go_simp
              refine hK.out _ _ trivial (fun hHeld => ?_)
              clear hK K
              try simp only [Act.put, List.setIfInBounds_toArray, List.set_cons_zero, List.set_cons_succ]
              clear xa0 xa1 xa2 xa3 xa4 xa5 xa6 xb0 xb1 xb2 xb3 xb4 xb5 xb6
              refine wpAnyH_take (i := 12) (oi := ⟨_, _, _, _, _, _⟩) (v := ?_) rfl (by kernel_rfl) (by kernel_rfl) (by kernel_rfl) (fun _ _ _ h => h) (Or.inl ⟨by rfl, ?_⟩) hHeld ?_
              rotate_left
              · intro w' hSw
                try dsimp only at hSw
                go_simp
                all_goals with_reducible rfl
              simp only [Act.put, List.setIfInBounds_toArray, List.set_cons_zero, List.set_cons_succ]
              refine wpAnyH_ready (rs := [13]) (by kernel_rfl) (by simp) ?_
              refine AllReadyH.cons (o := ⟨_, _, _, _, _, _⟩) rfl (fun K hK => ?_) AllReadyH.nil
              refine step_store_mid rfl 26 _ _ rfl g (a * 7) (renc (rl yb)).toArray rfl rfl (own_there OD.out A9.out) rec_size7 (all_oneCell_toArray (renc_one (rl yb))) ?_
              obtain ⟨p1, p2⟩ := own_put OD.out yb HMS.out A9.out
              refine hK.out _ _ trivial (fun hHeld => ?_)
              clear hK K
              try simp only [Act.put]
              obtain ⟨we, hwe⟩ : ∃ we, wd.setCells g (a * 7) (renc (rl yb)) = we := ⟨_, rfl⟩
              rw [hwe] at p1 p2
              rw [show wd.setCells g (a * 7) (renc (rl yb)).toArray.toList = we from hwe]
              have OE := Hid.of p1
              have BE := Hid.of (BD.out.grown p2 BD.out.size (fun k hk => by cases hk; exact own_ge OD.out rfl))
              clear p1 p2 hwe
              refine wpAnyH_take (i := 14) (oi := ⟨_, _, _, _, _, _⟩) (v := ?_) rfl (by kernel_rfl) (by kernel_rfl) (by kernel_rfl) (fun _ _ _ h => h) (Or.inl ⟨by rfl, ?_⟩) hHeld ?_
              rotate_left
              · intro w' hSw
                try dsimp only at hSw
                go_simp
                all_goals with_reducible rfl
              simp only [Act.put, List.setIfInBounds_toArray, List.set_cons_zero, List.set_cons_succ]
              refine wpAnyH_ready (rs := [15]) (by kernel_rfl) (by simp) ?_
              refine AllReadyH.cons (o := ⟨_, _, _, _, _, _⟩) rfl (fun K hK => ?_) AllReadyH.nil
              refine step_store_mid rfl 26 _ _ rfl g (b * 7) (renc (rl ya)).toArray rfl rfl (own_there OE.out B9.out) rec_size7 (all_oneCell_toArray (renc_one (rl ya))) ?_
              obtain ⟨p1, p2⟩ := own_put OE.out ya (by rw [List.length_set]; exact HMS.out) B9.out
              refine hK.out _ _ trivial (fun hHeld => ?_)
              clear hK K
              try simp only [Act.put]
              obtain ⟨wf, hwf⟩ : ∃ wf, we.setCells g (b * 7) (renc (rl ya)) = wf := ⟨_, rfl⟩
              rw [hwf] at p1 p2
              rw [show we.setCells g (b * 7) (renc (rl ya)).toArray.toList = wf from hwf]
              have OF := Hid.of p1
              have BF := Hid.of (BE.out.grown p2 BE.out.size (fun k hk => by cases hk; exact own_ge OE.out rfl))
              clear p1 p2 hwf
              refine wpAnyH_done (by kernel_rfl) ?_ _
              refine NoPanic.normal ?_
              go_wp2
              go_roundw
              case rel => exact ⟨i + 1, _, by omega, by go_num, Hid.of ((swap_perm HYA.out HYB.out).trans PM.out), OF, BF⟩
              case measure => simp [RowKit.intOf]; omega
          | false =>
            have hMN := of_decide_eq_false HBO.out
            clear HBO
            clear hMN HG HOS HO O40 hi i0 i9
            generalize wr = wq at *
            have FITM : Hid (∀ r ∈ ms, TFit r) := Hid.of (fun r hr => HR.out r (PM.out.mem_iff.1 hr))
            have HMS : Hid (ms.length = M) := Hid.of (PM.out.length_eq.trans HM.out)
            have CM := Hid.of (own_row OR.out)
            have VR := Hid.of (V1.out.kept BR.out)
            have BW := Hid.of (B1.out.trans (BR.out.mono B1.out.size))
            have SAME : Hid (tAdds 1 [] ms = tAdds 1 [] rs ∧ tCount 1 ms = tCount 1 rs) := Hid.of (tAdds_perm (fun r hr => (FITM.out r hr).2.2) PM.out)
            have OFF : Hid (∀ (F : TFoot), (∀ k, F.all k → wq.heap.size ≤ k) → (∀ k, F.own k → F.all k) → rs ≠ [] → Off F.own v) := Hid.of (fun F h1 h2 hne g hg hF => by
              obtain ⟨a, c, rfl, hc⟩ := VR.out
              rcases hc with hc | ⟨b, o, rfl, hlt, _⟩
              · have := HFL.out
                rw [hc] at this
                simp at this
                have := HM.out
                exact hne (List.eq_nil_of_length_eq_zero (by omega))
              · simp [Value.ownBlock] at hg
                have := h1 g (h2 g hF)
                omega)
            clear PM OR V1 B1 BR HI HZ0 HZ1 HZ2
            go_wp2_with fail
            refine (S.new 1 _ (by unfold TIn64; decide)).mono ?_
            rintro e w20 ⟨p, F, rfl, repF, hF, b20⟩
            rw [show max (1 : Int) 1 = 1 by decide] at repF
            have T20 : Hid (THere S wq.heap.size wq w20 p 1 [] F) := Hid.of ⟨repF, hF, b20.size, b20⟩
            clear repF hF b20
            go_wp2_with fail
            refine (S.new 1 _ (by unfold TIn64; decide)).mono ?_
            rintro e w21 ⟨q, G, rfl, repG, hG, b21⟩
            rw [show max (1 : Int) 1 = 1 by decide] at repG
            have P21 : Hid (TPair S wq.heap.size wq w21 p q [] [] F G) := Hid.of
              ⟨T20.out.next b21, ⟨repG, fun k hk => Nat.le_trans T20.out.hB (hG k hk), Nat.le_trans T20.out.hB b21.size, T20.out.fr.trans (b21.mono T20.out.hB)⟩, fun k hk hg => by
                have := S.lt T20.out.rep k hk
                have := hG k (S.sub repG k hg)
                omega, fun k hk hg => by
                have := S.lt T20.out.rep k (S.sub T20.out.rep k hg)
                have := hG k hk
                omega⟩
            clear repG hG b21 T20
            go_wp2_with fail
            have hV21 : CellRow w21 v rs.length (flat renc (rs.map rl)) := by rw [HM.out]; exact VR.out.kept P21.out.t.fr
            refine (S.add v rs P21.out.t.rep (by show 0 + rs.length ≤ 1000; rw [HM.out]; omega) hV21 (OFF.out F P21.out.t.ge (S.sub P21.out.t.rep)) HR.out).mono ?_
            clear hV21
            rintro e w22 ⟨rfl, F2, rep2, st2⟩
            have P22 := Hid.of (P21.out.one rep2 st2)
            clear rep2 st2 P21
            have hL := tAdds_len 1 [] rs
            obtain ⟨L, hLe⟩ : ∃ L, tAdds 1 [] rs = L := ⟨_, rfl⟩
            obtain ⟨cn, hcn⟩ : ∃ cn, tCount 1 rs = cn := ⟨_, rfl⟩
            have C9 : Hid (cn ≤ 30) := Hid.of (by rw [← hcn]; unfold tCount; have := List.length_filter_le (tOk 1) rs; rw [HM.out] at this; omega)
            rw [hLe] at P22 hL
            rw [hLe, hcn] at SAME
            rw [hcn]
            have L30 : Hid (L.length ≤ 30) := Hid.of (by rw [HM.out] at hL; simp at hL; omega)
            clear hLe hcn hL
            go_wp2_with fail
            go_loopw [12, 13] (fun kv iv wr => ∃ (i : Nat) (G' : TFoot), i ≤ M ∧ iv = .int .i64 i ∧ kv = .int .i64 ((tCount 1 (ms.take i) : Nat) : Int) ∧ Hid (TPair S wq.heap.size wq wr p q L (tAdds 1 [] (ms.take i)) F2 G')) (fun _ iv _ => M - (RowKit.intOf iv).toNat)
            case atStart => exact ⟨0, G, Nat.zero_le _, rfl, rfl, P22⟩
            case round =>
              clear P22
              obtain ⟨i, G', hi, rfl, rfl, PP⟩ := hrel
              have i0 : (0 : Int) ≤ (i : Int) := Int.natCast_nonneg _
              by_cases hlt : i < M
              · have i1 : (i : Int) < (M : Int) := by omega
                obtain ⟨x, hx⟩ : ∃ x, ms[i]? = some x := ⟨_, List.getElem?_eq_getElem (by rw [HMS.out]; exact hlt)⟩
                have FX := Hid.of (FITM.out x (List.mem_of_getElem? hx))
                have CR := CM.out.kept PP.out.t.fr
                obtain ⟨b1, o1, rfl, -, x0, x1, x2, x3, x4, x5, x6⟩ := r_at CR i (rl x) (by rw [List.getElem?_map, hx]; rfl)
                simp only [rl] at x0 x1 x2 x3 x4 x5 x6
                have NXT : Hid (tAdds 1 (tAdds 1 [] (ms.take i)) [x] = tAdds 1 [] (ms.take (i + 1))) := Hid.of (by rw [← tAdds_append, List.take_add_one, hx]; rfl)
                have CNT : Hid (tCount 1 (ms.take (i + 1)) = tCount 1 (ms.take i) + tCount 1 [x]) := Hid.of (by
                  unfold tCount
                  rw [List.take_add_one, hx, List.filter_append, List.length_append]
                  rfl)
                obtain ⟨c, hc⟩ : ∃ c, tCount 1 (ms.take i) = c := ⟨_, rfl⟩
                obtain ⟨d, hd⟩ : ∃ d, tCount 1 [x] = d := ⟨_, rfl⟩
                rw [hc, hd] at CNT
                have c9 : c ≤ 30 := by rw [← hc]; unfold tCount; have h1 := List.length_filter_le (tOk 1) (ms.take i); rw [List.length_take] at h1; omega
                have d9 : d ≤ 1 := by rw [← hd]; unfold tCount; have h1 := List.length_filter_le (tOk 1) [x]; simpa using h1
                have HD := Hid.of hd
                have LN : Hid ((tAdds 1 [] (ms.take i)).length ≤ 30) := Hid.of (by have h1 := tAdds_len 1 [] (ms.take i); rw [List.length_take] at h1; simp at h1; omega)
                rw [hc]
                clear hc hd hx CR
                go_wp2_with fail
                obtain ⟨wa, hwa⟩ : ∃ wa, wr.alloc (.cells #[.string x.n, .int .i64 x.s, .int .i64 x.a.c, .int .i64 x.a.hi, .int .u64 x.a.lo, .int .i64 x.a.mn, .int .i64 x.a.mx] 26) = wa := ⟨_, rfl⟩
                rw [hwa]
                have row : CellRow wa (.slice (some ⟨wr.heap.size, 0, none⟩) 1 1) [x].length (flat renc ([x].map rl)) := by
                  rw [← hwa]
                  exact ⟨_, _, rfl, .inr ⟨wr.heap.size, 0, rfl, by simp, new_cells wr (renc (rl x)).toArray _⟩⟩
                have PA := Hid.of (PP.out.next (w' := wa) (by rw [← hwa]; exact (Below.refl _ _).alloc (Nat.le_refl _) _))
                have off : [x] ≠ [] → Off G'.own (.slice (some ⟨wr.heap.size, 0, none⟩) 1 1) := fun _ g hg hF => by
                  have := S.lt PP.out.c.rep g (S.sub PP.out.c.rep g hF)
                  simp [Value.ownBlock] at hg
                  omega
                clear hwa PP x0 x1 x2 x3 x4 x5 x6
                refine (S.add _ [x] PA.out.c.rep (by have := LN.out; show (tAdds 1 [] (ms.take i)).length + 1 ≤ 1000; omega) row off (fun r hr => by rw [List.mem_singleton.1 hr]; exact FX.out)).mono ?_
                clear row off
                rintro e w23 ⟨he, G3, rep3, st3⟩
                rw [HD.out] at he
                subst he
                rw [NXT.out] at rep3
                have P3 := Hid.of (PA.out.two rep3 st3)
                clear rep3 st3 PA
                go_wp2
                go_roundw
                case rel => exact ⟨i + 1, G3, by omega, by go_num, by rw [CNT.out]; go_num, P3⟩
                case measure => simp [RowKit.intOf]; omega
              · obtain rfl : M = i := by omega
                have e1 : ms.take M = ms := by rw [← HMS.out, List.take_length]
                rw [e1, SAME.out.1] at PP
                rw [e1, SAME.out.2]
                clear e1 hi hlt i0
                go_wp2_with fail
                refine (tableAlive_any S _).mono ?_
                rintro e w30 ⟨rfl, b30⟩
                have P30 := Hid.of (PP.out.next b30)
                clear b30 PP
                go_wp2_with fail
                refine (S.all P30.out.t.rep (by have := L30.out; omega)).mono ?_
                rintro e w31 ⟨u31, rfl, o31, b31⟩
                have P31 := Hid.of (P30.out.next b31)
                have O31 := Hid.of o31
                clear o31 b31 P30
                go_wp2_with fail
                refine (S.all P31.out.c.rep (by have := L30.out; omega)).mono ?_
                rintro e w32 ⟨u32, rfl, o32, b32⟩
                have P32 := Hid.of (P31.out.next b32)
                have K1 := Hid.of (own_row ((Step.of_below (F := fun _ => False) b32).own O31.out (fun _ _ c => c)))
                have K2 := Hid.of (own_row o32)
                clear o32 b32 P31 O31
                go_wp2_with fail
                refine (SameRecords_quiet _ _ (L.map rl) _ (by rw [List.length_map]; exact K1.out) (by rw [List.length_map]; exact K2.out) (by rw [List.length_map]; have := L30.out; omega)).mono ?_
                rintro e w33 ⟨rfl, q3, rfl⟩
                have P33 := Hid.of (P32.out.next (below_drewN (Below.refl _ _) q3))
                generalize w32.drewN q3 = w33 at *
                clear P32 K1 K2
                have NL : Hid ((tNames L).length ≤ 30) := Hid.of (by unfold tNames; have h1 := nOrder_length (L.map (·.n)); rw [List.length_map] at h1; have := L30.out; omega)
                go_wp2_with fail
                refine (S.names P33.out.t.rep (by have := L30.out; omega)).mono ?_
                rintro e w34 ⟨u34, rfl, o34, b34⟩
                have P34 := Hid.of (P33.out.next b34)
                have O34 := Hid.of o34
                clear o34 b34 P33
                go_wp2_with fail
                refine (S.names P34.out.c.rep (by have := L30.out; omega)).mono ?_
                rintro e w35 ⟨u35, rfl, o35, b35⟩
                have P35 := Hid.of (P34.out.next b35)
                have K1 := Hid.of (own_row ((Step.of_below (F := fun _ => False) b35).own O34.out (fun _ _ c => c)))
                have K2 := Hid.of (own_row o35)
                clear o35 b35 P34 O34
                go_wp2_with fail
                refine (SameTexts_any _ _ (tNames L) _ K1.out K2.out (by have := NL.out; omega)).mono ?_
                rintro e w36 ⟨rfl, b36⟩
                have FR := Hid.of (BW.out.trans ((P35.out.next b36).t.fr.mono BW.out.size))
                clear b36 P35 K1 K2
                go_wp2
                go_ret
                exact ⟨rfl, FR.out⟩

end Go.Proofs.Ytokjlmkegdickaa
