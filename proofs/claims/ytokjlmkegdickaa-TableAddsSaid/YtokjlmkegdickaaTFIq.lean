/-
  TableFinds: what is found stands in the list of all, and what stands there is found; a range has just those of its name between its ends.
-/
import Derived.Deep.DeepCutAuto
import Derived.Test.YtokjlmkegdickaaQ24
namespace Go.Proofs.Ytokjlmkegdickaa
open Go.RowKit Go.Lib

theorem tHas_of {L : List TRec} {x : TRec} (h : x ∈ L) : tHas L x.k = true := by
  unfold tHas
  rw [List.any_eq_true]
  exact ⟨x, h, decide_eq_true rfl⟩

theorem tAt_key {L : List TRec} (h1 : TSorted L) (h2 : TAll L) {x : TRec} (h : x ∈ L) : tAt L x.k = x.a := ((tW_mem h1 h2 x).1 h).2

theorem tAdds_s {Q : Int → Prop} {e : Int} {l rs : List TRec} (hl : ∀ x ∈ l, Q x.s) (hr : ∀ x ∈ rs, Q x.s) : ∀ x ∈ tAdds e l rs, Q x.s := by
  induction rs generalizing l with
  | nil => exact hl
  | cons r rs ih =>
    refine ih (l := tAdd e l r) ?_ (fun x hx => hr x (List.mem_cons_of_mem _ hx))
    unfold tAdd
    split
    · intro y hy
      rcases tIns_key hy with c | ⟨z, hz, c⟩
      · simp only [TRec.k, Prod.mk.injEq] at c
        rw [c.2]
        exact hr r (List.mem_cons_self ..)
      · simp only [TRec.k, Prod.mk.injEq] at c
        rw [c.2]
        exact hl z hz
    · exact hl

/-- What is known of a table that was made by adding. -/
structure TMade (L : List TRec) (e : Int) : Prop where
  so : TSorted L
  al : TAll L
  ok : ∀ x ∈ L, tOk e x = true
  s64 : ∀ x ∈ L, TIn64 x.s

theorem made_of {e : Int} {rs : List TRec} (h : ∀ r ∈ rs, TFit r) : TMade (tAdds e [] rs) e :=
  ⟨tAdds_sorted sorted_nil, tAdds_all all_nil (fun r hr => (h r hr).2.2), tAdds_ok (fun _ hx => absurd hx List.not_mem_nil) (fun r hr => (h r hr).2.2) all_nil, tAdds_s (fun _ hx => absurd hx List.not_mem_nil) (fun r hr => (h r hr).2.1)⟩

theorem TMade.name {L : List TRec} {e : Int} (h : TMade L e) {x : TRec} (hx : x ∈ L) : nOk x.n = true ∧ x.n.size ≤ 15 := by
  have h1 := h.ok x hx
  unfold tOk at h1
  simp only [Bool.and_eq_true, decide_eq_true_eq] at h1
  refine ⟨h1.1.1.1, ?_⟩
  have h2 := h1.1.1.1
  unfold nOk at h2
  simp only [Bool.and_eq_true, decide_eq_true_eq] at h2
  exact h2.1.2

theorem TMade.none {L : List TRec} {e : Int} (h : TMade L e) {n : ByteArray} (hn : nOk n = false) (s : Int) : tHas L (n, s) = false := by
  unfold tHas
  rw [List.any_eq_false]
  intro x hx
  simp only [decide_eq_true_eq]
  intro c
  have h1 := (h.name hx).1
  simp only [TRec.k, Prod.mk.injEq] at c
  rw [c.1, hn] at h1
  cases h1

theorem THere.other {S : TableSpec} {B p b : Nat} {w0 w w' : World} {e : Int} {l : List TRec} {F : TFoot} (h : THere S B w0 w p e l F) (g : w.grownBy w' (some b)) (hb : ¬ F.all b) (hB : B ≤ b) : THere S B w0 w' p e l F :=
  ⟨S.kept h.rep g.size (fun k hk => g.block k (S.lt h.rep k hk) (fun c => hb (by rw [← Option.some.inj c]; exact hk))), h.ge, Nat.le_trans h.hB g.size, h.fr.grown g h.hB (fun k hk => by cases hk; exact hB)⟩

theorem small_name {n : ByteArray} (h : n.size ≤ 15) : n.size ≤ 281474976710656 := by omega

set_option maxRecDepth 20000 in
set_option maxHeartbeats 6400000 in
theorem tableFinds_main (S : TableSpec) (v : Value) (rs : List TRec) (nm : ByteArray) (from_ to_ : Int) (w : World) (hv : CellRow w v rs.length (flat renc (rs.map rl))) (hr : ∀ r ∈ rs, TFit r) (hn : nm.size ≤ 281474976710656) (hf : TIn64 from_) (ht : TIn64 to_) :
    Calls Try.prog 7 #[v, .string nm, .int .i64 from_, .int .i64 to_] w fun e w' => e = .returned (.bool true) ∧ Below w.heap.size w w' := by
  have hl : (rs.map rl).length = rs.length := List.length_map ..
  have HV0 := Hid.of (show CellRow w v (rs.map rl).length (flat renc (rs.map rl)) by rw [hl]; exact hv)
  have HV := Hid.of hv
  have OFF : Hid (∀ (F : TFoot), (∀ k, F.all k → w.heap.size ≤ k) → (∀ k, F.own k → F.all k) → rs ≠ [] → Off F.own v) := Hid.of (fun F h1 h2 hne g hg hF => by
    obtain ⟨a, c, rfl, hc⟩ := HV.out
    rcases hc with hc | ⟨b, o, rfl, hlt, _⟩
    · have := flat_length renc_len (rs.map rl)
      rw [hc, hl] at this
      simp at this
      exact hne (List.eq_nil_of_length_eq_zero (by omega))
    · simp [Value.ownBlock] at hg
      have := h1 g (h2 g hF)
      omega)
  have HR := Hid.of hr
  have HNM := Hid.of hn
  have HF := Hid.of hf
  have HT := Hid.of ht
  clear hv hr hl hn hf ht
  go_enter Try.func7, Try.ntmps7
  go_wp2_with fail
  refine (Few_any 40 v _ w HV0.out (by decide)).mono ?_
  rintro e w1 ⟨r, rfl, hf, b1⟩
  have B1 := Hid.of b1
  clear b1
  have ALV : Hid (Calls Try.prog 9 #[] w1 fun e w' => e = .returned (.bool true) ∧ Below w.heap.size w w') := Hid.of (by
    refine (tableAlive_any S w1).mono ?_
    rintro e w' ⟨he, b⟩
    exact ⟨he, B1.out.trans (b.mono B1.out.size)⟩)
  cases r with
  | false =>
    go_wp2_with fail
    refine ALV.out.mono ?_
    rintro e w2 ⟨rfl, b2⟩
    go_wp2
    go_ret
    exact ⟨rfl, b2⟩
  | true =>
    have RF : Hid (rs.length ≤ 40) := Hid.of (by have := (hf.out rfl).1; rwa [List.length_map] at this)
    clear hf
    by_cases hbad : (60 : Int) < (nm.size : Int)
    · go_wp2_with fail
      refine ALV.out.mono ?_
      rintro e w3 ⟨rfl, b3⟩
      go_wp2
      go_ret
      exact ⟨rfl, b3⟩
    · clear ALV
      go_wp2_with fail
      clear hbad
      refine (S.new 1 _ (by unfold TIn64; decide)).mono ?_
      rintro e w2 ⟨p, F, rfl, rep, hF, b2⟩
      rw [show max (1 : Int) 1 = 1 by decide] at rep
      have T2 : Hid (THere S w.heap.size w w2 p 1 [] F) := Hid.of ⟨rep, fun k hk => Nat.le_trans B1.out.size (hF k hk), Nat.le_trans B1.out.size b2.size, B1.out.trans (b2.mono B1.out.size)⟩
      have V2 := Hid.of (HV.out.kept (B1.out.trans (b2.mono B1.out.size)))
      clear rep hF b2 B1
      go_wp2_with fail
      refine (S.add v rs T2.out.rep (by show 0 + rs.length ≤ 1000; have := RF.out; omega) V2.out (OFF.out F T2.out.ge (S.sub T2.out.rep)) HR.out).mono ?_
      rintro e w3 ⟨rfl, F3, rep3, st3⟩
      have hL := tAdds_len 1 [] rs
      have MD0 := made_of (e := 1) HR.out
      obtain ⟨L, hLe⟩ : ∃ L, tAdds 1 [] rs = L := ⟨_, rfl⟩
      rw [hLe] at rep3 hL MD0
      have MD := Hid.of MD0
      have T3 := Hid.of (T2.out.step rep3 st3)
      have L40 : Hid (L.length ≤ 40) := Hid.of (by have := RF.out; simp at hL; omega)
      clear rep3 st3 T2 V2 hL hLe MD0
      go_wp2_with fail
      refine (S.all T3.out.rep (by have := L40.out; omega)).mono ?_
      rintro e w4 ⟨u, rfl, o4, b4⟩
      have T4 := Hid.of (T3.out.next b4)
      have O4 := Hid.of o4
      clear o4 b4 T3
      go_wp2_with fail
      refine (S.range nm from_ to_ T4.out.rep (by have := L40.out; omega) HNM.out HF.out HT.out).mono ?_
      rintro e w6 ⟨u2, rfl, o6, b6⟩
      have T6 := Hid.of (T4.out.next b6)
      have C1 := Hid.of (own_row ((Step.of_below (F := fun _ => False) b6).own O4.out (fun _ _ c => c)))
      have C2 := Hid.of (own_row o6)
      obtain ⟨ua, uc, rfl, -⟩ := own_one O4.out
      obtain ⟨u2a, u2c, rfl, -⟩ := own_one o6
      clear o6 b6 T4 O4
      have K40 : Hid ((tRange L nm from_ to_).length ≤ L.length) := Hid.of (by unfold tRange; exact List.length_filter_le _ _)
      obtain ⟨K, hK⟩ : ∃ K, (tRange L nm from_ to_).length = K := ⟨_, rfl⟩
      obtain ⟨N, hN⟩ : ∃ N, L.length = N := ⟨_, rfl⟩
      have HK := Hid.of hK
      have HN := Hid.of hN
      rw [hK] at K40 C2 ⊢
      rw [hN] at K40 L40 C1 ⊢
      clear hK hN
      have k9 : K ≤ N := K40.out
      have n9 : N ≤ 40 := L40.out
      go_wp2_with fail
      go_loopw [12, 13, 14, 15] (fun kv iv _ _ wr => ∃ i : Nat, i ≤ N ∧ iv = .int .i64 i ∧ kv = .int .i64 ((tRange (L.take i) nm from_ to_).length : Nat) ∧ Hid (Below w6.heap.size w6 wr) ∧ Hid (THere S w.heap.size w wr p 1 L F3)) (fun _ iv _ _ _ => N - (RowKit.intOf iv).toNat)
      case atStart => exact ⟨0, Nat.zero_le _, rfl, rfl, Hid.of (Below.refl _ _), T6⟩
      case round =>
        clear T6
        obtain ⟨i, hi, rfl, rfl, HB, T⟩ := hrel
        obtain ⟨k, hk⟩ : ∃ k, (tRange (L.take i) nm from_ to_).length = k := ⟨_, rfl⟩
        have HKI := Hid.of hk
        rw [hk]
        clear hk
        have i0 : (0 : Int) ≤ (i : Int) := Int.natCast_nonneg _
        have k0 : (0 : Int) ≤ (k : Int) := Int.natCast_nonneg _
        by_cases hlt : i < N
        · have i1 : (i : Int) < (N : Int) := by omega
          obtain ⟨x, hx⟩ : ∃ x, L[i]? = some x := ⟨_, List.getElem?_eq_getElem (by rw [HN.out]; exact hlt)⟩
          have hm := List.mem_of_getElem? hx
          have FX : Hid (tAt L (x.n, x.s) = x.a ∧ tHas L (x.n, x.s) = true) := Hid.of ⟨tAt_key MD.out.so MD.out.al hm, tHas_of hm⟩
          have XN := Hid.of (small_name (MD.out.name hm).2)
          have XS := Hid.of (MD.out.s64 x hm)
          have HX := Hid.of hx
          obtain ⟨b1, o1, rfl, hl1, hr1⟩ := r_at C1.out i (rl x) (by rw [List.getElem?_map, hx]; rfl)
          have Q : Hid (∀ w9, Below w6.heap.size w6 w9 → rAt w9 b1 (o1 + i * 7) (rl x)) := Hid.of (fun w9 b9 => by
            obtain ⟨x0, x1, x2, x3, x4, x5, x6⟩ := hr1
            refine ⟨?_, ?_, ?_, ?_, ?_, ?_, ?_⟩ <;> rw [b9.cell hl1] <;> assumption)
          clear hx hm hl1 hr1
          obtain ⟨c0, c1, -⟩ := Q.out _ HB.out
          simp only [rl] at c0 c1
          go_upto_region 12 with fail
          go_cut [14, 15] (fun pv ov wx => ∃ bz : Nat, pv = .pointer (some ⟨bz, 0, none⟩) ∧ ov = .bool true ∧ Hid (AgBlk wx bz x.a) ∧ Hid (Below w6.heap.size w6 wx) ∧ Hid (THere S w.heap.size w wx p 1 L F3))
          case first =>
            refine wp_region_noPanic ?_
            refine wp_region_held_drew (S := fun w' => w'.cell? ⟨b1, o1 + i * 7, none⟩ = some (.string x.n) ∧ w'.cell? ⟨b1, o1 + i * 7 + 1, none⟩ = some (.int .i64 x.s)) (by kernel_rfl) ?_ (fun hHeld => ?_)
            · exact ⟨c0, c1⟩
            refine wpAnyH_take (i := 0) (oi := ⟨_, _, _, _, _, _⟩) (v := ?_) rfl (by kernel_rfl) (by kernel_rfl) (by kernel_rfl) (fun _ _ _ h => h) (Or.inl ⟨by rfl, ?_⟩) hHeld ?_
            rotate_left
            · intro w' hSw
              try dsimp only at hSw
              go_simp
              all_goals with_reducible rfl
            simp only [Act.put, List.setIfInBounds_toArray, List.set_cons_zero, List.set_cons_succ]
            refine wpAnyH_take (i := 1) (oi := ⟨_, _, _, _, _, _⟩) (v := ?_) rfl (by kernel_rfl) (by kernel_rfl) (by kernel_rfl) (fun _ _ _ h => h) (Or.inl ⟨by rfl, ?_⟩) hHeld ?_
            rotate_left
            · intro w' hSw
              try dsimp only at hSw
              go_simp
              all_goals with_reducible rfl
            simp only [Act.put, List.setIfInBounds_toArray, List.set_cons_zero, List.set_cons_succ]
            refine wpAnyH_take (i := 2) (oi := ⟨_, _, _, _, _, _⟩) (v := ?_) rfl (by kernel_rfl) (by kernel_rfl) (by kernel_rfl) (fun _ _ _ h => h) (Or.inl ⟨by rfl, ?_⟩) hHeld ?_
            rotate_left
            · intro w' hSw
              try dsimp only at hSw
              go_simp
              all_goals with_reducible rfl
            simp only [Act.put, List.setIfInBounds_toArray, List.set_cons_zero, List.set_cons_succ]
            refine wpAnyH_take (i := 3) (oi := ⟨_, _, _, _, _, _⟩) (v := ?_) rfl (by kernel_rfl) (by kernel_rfl) (by kernel_rfl) (fun _ _ _ h => h) (Or.inl ⟨by rfl, ?_⟩) hHeld ?_
            rotate_left
            · intro w' hSw
              try dsimp only at hSw
              go_simp
              all_goals with_reducible rfl
            simp only [Act.put, List.setIfInBounds_toArray, List.set_cons_zero, List.set_cons_succ]
            refine wpAnyH_take (i := 4) (oi := ⟨_, _, _, _, _, _⟩) (v := ?_) rfl (by kernel_rfl) (by kernel_rfl) (by kernel_rfl) (fun _ _ _ h => h) (Or.inl ⟨by rfl, ?_⟩) hHeld ?_
            rotate_left
            · intro w' hSw
              try dsimp only at hSw
              go_simp
              all_goals with_reducible rfl
            simp only [Act.put, List.setIfInBounds_toArray, List.set_cons_zero, List.set_cons_succ]
            refine wpAnyH_take (i := 5) (oi := ⟨_, _, _, _, _, _⟩) (v := ?_) rfl (by kernel_rfl) (by kernel_rfl) (by kernel_rfl) (fun _ _ _ h => h) (Or.inl ⟨by rfl, ?_⟩) hHeld ?_
            rotate_left
            · intro w' hSw
              try dsimp only at hSw
              go_simp
              all_goals with_reducible rfl
            simp only [Act.put, List.setIfInBounds_toArray, List.set_cons_zero, List.set_cons_succ]
            refine wpAnyH_take (i := 6) (oi := ⟨_, _, _, _, _, _⟩) (v := ?_) rfl (by kernel_rfl) (by kernel_rfl) (by kernel_rfl) (fun _ _ _ h => h) (Or.inl ⟨by rfl, ?_⟩) hHeld ?_
            rotate_left
            · intro w' hSw
              try dsimp only at hSw
              go_simp
              all_goals with_reducible rfl
            simp only [Act.put, List.setIfInBounds_toArray, List.set_cons_zero, List.set_cons_succ]
            refine wpAnyH_take (i := 7) (oi := ⟨_, _, _, _, _, _⟩) (v := ?_) rfl (by kernel_rfl) (by kernel_rfl) (by kernel_rfl) (fun _ _ _ h => h) (Or.inl ⟨by rfl, ?_⟩) hHeld ?_
            rotate_left
            · intro w' hSw
              try dsimp only at hSw
              go_simp
              all_goals with_reducible rfl
            simp only [Act.put, List.setIfInBounds_toArray, List.set_cons_zero, List.set_cons_succ]
            refine wpAnyH_take (i := 8) (oi := ⟨_, _, _, _, _, _⟩) (v := ?_) rfl (by kernel_rfl) (by kernel_rfl) (by kernel_rfl) (fun _ _ _ h => h) (Or.inl ⟨by rfl, ?_⟩) hHeld ?_
            rotate_left
            · intro w' hSw
              try dsimp only at hSw
              go_simp
              all_goals with_reducible rfl
            simp only [Act.put, List.setIfInBounds_toArray, List.set_cons_zero, List.set_cons_succ]
            refine wpAnyH_take (i := 9) (oi := ⟨_, _, _, _, _, _⟩) (v := ?_) rfl (by kernel_rfl) (by kernel_rfl) (by kernel_rfl) (fun _ _ _ h => h) (Or.inl ⟨by rfl, ?_⟩) hHeld ?_
            rotate_left
            · intro w' hSw
              try dsimp only at hSw
              go_simp
              all_goals with_reducible rfl
            simp only [Act.put, List.setIfInBounds_toArray, List.set_cons_zero, List.set_cons_succ]
            refine wpAnyH_take (i := 10) (oi := ⟨_, _, _, _, _, _⟩) (v := ?_) rfl (by kernel_rfl) (by kernel_rfl) (by kernel_rfl) (fun _ _ _ h => h) (Or.inl ⟨by rfl, ?_⟩) hHeld ?_
            rotate_left
            · intro w' hSw
              try dsimp only at hSw
              go_simp
              all_goals with_reducible rfl
            simp only [Act.put, List.setIfInBounds_toArray, List.set_cons_zero, List.set_cons_succ]
            refine wpAnyH_ready (rs := [11, 15]) (by kernel_rfl) (by simp) ?_
            refine AllReadyH.cons (o := ⟨_, _, _, _, _, _⟩) rfl (fun K hK => ?_) (AllReadyH.cons (o := ⟨_, _, _, _, _, _⟩) rfl (fun K hK => ?_) AllReadyH.nil)
            · skip
              go_simp
              refine (S.find x.n x.s (T.out.next (Below.refl _ _).drew).rep (by rw [HN.out]; omega) XN.out XS.out).mono ?_
              rintro e w7 ⟨he, b7⟩
              rw [FX.out.1, FX.out.2] at he
              subst he
              have c7 := (Below.refl _ _).drew.trans b7
              have T_w7 := Hid.of (T.out.next c7)
              have H_w7 := Hid.of (HB.out.trans (c7.mono HB.out.size))
              clear b7 c7 T
              clear hHeld c0 c1
              obtain ⟨c0, c1, -⟩ := Q.out _ H_w7.out
              simp only [rl] at c0 c1
              refine hK.out _ _ ⟨c0, c1⟩ (fun hHeld => ?_)
              clear hK K
              try simp only [Act.put, List.setIfInBounds_toArray, List.set_cons_zero, List.set_cons_succ]
              refine wpAnyH_take (i := 12) (oi := ⟨_, _, _, _, _, _⟩) (v := ?_) rfl (by kernel_rfl) (by kernel_rfl) (by kernel_rfl) (fun _ _ _ h => h) (Or.inl ⟨by rfl, ?_⟩) hHeld ?_
              rotate_left
              · intro w' hSw
                try dsimp only at hSw
                go_simp
                all_goals with_reducible rfl
              simp only [Act.put, List.setIfInBounds_toArray, List.set_cons_zero, List.set_cons_succ]
              refine wpAnyH_take (i := 13) (oi := ⟨_, _, _, _, _, _⟩) (v := ?_) rfl (by kernel_rfl) (by kernel_rfl) (by kernel_rfl) (fun _ _ _ h => h) (Or.inl ⟨by rfl, ?_⟩) hHeld ?_
              rotate_left
              · intro w' hSw
                try dsimp only at hSw
                go_simp
                all_goals with_reducible rfl
              simp only [Act.put, List.setIfInBounds_toArray, List.set_cons_zero, List.set_cons_succ]
              refine wpAnyH_take (i := 14) (oi := ⟨_, _, _, _, _, _⟩) (v := ?_) rfl (by kernel_rfl) (by kernel_rfl) (by kernel_rfl) (fun _ _ _ h => h) (Or.inl ⟨by rfl, ?_⟩) hHeld ?_
              rotate_left
              · intro w' hSw
                try dsimp only at hSw
                go_simp
                all_goals with_reducible rfl
              simp only [Act.put, List.setIfInBounds_toArray, List.set_cons_zero, List.set_cons_succ]
              refine wpAnyH_ready (rs := [15]) (by kernel_rfl) (by simp) ?_
              refine AllReadyH.cons (o := ⟨_, _, _, _, _, _⟩) rfl (fun K hK => ?_) AllReadyH.nil
              go_simp
              obtain ⟨w8, hv9⟩ : ∃ v9, (w7.alloc (.cells #[.int .i64 0, .int .i64 0, .int .u64 0, .int .i64 0, .int .i64 0] 24)) = v9 := ⟨_, rfl⟩
              have c7 : Below w7.heap.size w7 w8 := by rw [← hv9]; exact ((Below.refl _ _).alloc (Nat.le_refl _) _)
              have Z_w8 : Hid (AgBlk w8 w7.heap.size agZero) := Hid.of (by rw [← hv9]; exact AgBlk.new w7 agZero)
              have NF : Hid (¬ F3.all w7.heap.size) := Hid.of (fun c => by have := S.lt T_w7.out.rep _ c; omega)
              have GB : Hid (w.heap.size ≤ w7.heap.size ∧ w6.heap.size ≤ w7.heap.size) := Hid.of ⟨T_w7.out.hB, H_w7.out.size⟩
              have T_w8 := Hid.of (T_w7.out.next c7)
              have H_w8 := Hid.of (H_w7.out.trans (c7.mono H_w7.out.size))
              rw [hv9]
              clear hv9
              clear c7 T_w7
              clear hHeld c0 c1
              obtain ⟨c0, c1, -⟩ := Q.out _ H_w8.out
              simp only [rl] at c0 c1
              refine hK.out _ _ ⟨c0, c1⟩ (fun hHeld => ?_)
              clear hK K
              try simp only [Act.put, List.setIfInBounds_toArray, List.set_cons_zero, List.set_cons_succ]
              obtain ⟨q0, q1, q2, q3, q4⟩ := Z_w8.out.at
              rw [Nat.zero_add] at q1 q2 q3 q4
              have y0 := row_frozen (i := 0) Z_w8.out
              have y1 := row_frozen (i := 1) Z_w8.out
              have y2 := row_frozen (i := 2) Z_w8.out
              have y3 := row_frozen (i := 3) Z_w8.out
              have y4 := row_frozen (i := 4) Z_w8.out
              have AX := Z_w8.out.set x.a
              have GX := set5_grown w8 w7.heap.size x.a
              obtain ⟨wz, hwz⟩ : ∃ wz, set5 w8 w7.heap.size x.a = wz := ⟨_, rfl⟩
              rw [hwz] at AX GX
              unfold set5 at hwz
              simp only [agZero] at q0 q1 q2 q3 q4
              have TZ := Hid.of (T_w8.out.other GX NF.out GB.out.1)
              have HZ := Hid.of (H_w8.out.grown GX H_w8.out.size (fun k hk => by cases hk; exact GB.out.2))
              have KZ := Hid.of AX
              have HWZ := Hid.of hwz
              clear AX GX hwz
              refine wpAnyH_ready (rs := [16]) (by kernel_rfl) (by simp) ?_
              refine AllReadyH.cons (o := ⟨_, _, _, _, _, _⟩) rfl (fun K hK => ?_) AllReadyH.nil
              go_simp
              rw [HWZ.out]
              clear q0 q1 q2 q3 q4 y0 y1 y2 y3 y4
              clear hHeld c0 c1
              obtain ⟨c0, c1, -⟩ := Q.out _ HZ.out
              simp only [rl] at c0 c1
              refine hK.out _ _ ⟨c0, c1⟩ (fun hHeld => ?_)
              clear hK K
              try simp only [Act.put, List.setIfInBounds_toArray, List.set_cons_zero, List.set_cons_succ]
              refine wpAnyH_take (i := 17) (oi := ⟨_, _, _, _, _, _⟩) (v := ?_) rfl (by kernel_rfl) (by kernel_rfl) (by kernel_rfl) (fun _ _ _ h => h) (Or.inl ⟨by rfl, ?_⟩) hHeld ?_
              rotate_left
              · intro w' hSw
                try dsimp only at hSw
                go_simp
                all_goals with_reducible rfl
              simp only [Act.put, List.setIfInBounds_toArray, List.set_cons_zero, List.set_cons_succ]
              refine wpAnyH_done (by kernel_rfl) ?_ _
              refine NoPanic.normal ?_
              go_wp2_with fail
              go_meet
              exact ⟨_, rfl, rfl, KZ, HZ, TZ⟩
            · skip
              go_simp
              obtain ⟨w7, hv9⟩ : ∃ v9, (wr.alloc (.cells #[.int .i64 0, .int .i64 0, .int .u64 0, .int .i64 0, .int .i64 0] 24)).drew = v9 := ⟨_, rfl⟩
              have c7 : Below wr.heap.size wr w7 := by rw [← hv9]; exact ((Below.refl _ _).alloc (Nat.le_refl _) _).drew
              have Z_w7 : Hid (AgBlk w7 wr.heap.size agZero) := Hid.of (by rw [← hv9]; exact AgBlk.new wr agZero)
              have NF : Hid (¬ F3.all wr.heap.size) := Hid.of (fun c => by have := S.lt T.out.rep _ c; omega)
              have GB : Hid (w.heap.size ≤ wr.heap.size ∧ w6.heap.size ≤ wr.heap.size) := Hid.of ⟨T.out.hB, HB.out.size⟩
              have T_w7 := Hid.of (T.out.next c7)
              have H_w7 := Hid.of (HB.out.trans (c7.mono HB.out.size))
              rw [hv9]
              clear hv9
              clear c7 T
              clear hHeld c0 c1
              obtain ⟨c0, c1, -⟩ := Q.out _ H_w7.out
              simp only [rl] at c0 c1
              refine hK.out _ _ ⟨c0, c1⟩ (fun hHeld => ?_)
              clear hK K
              try simp only [Act.put, List.setIfInBounds_toArray, List.set_cons_zero, List.set_cons_succ]
              refine wpAnyH_ready (rs := [11]) (by kernel_rfl) (by simp) ?_
              refine AllReadyH.cons (o := ⟨_, _, _, _, _, _⟩) rfl (fun K hK => ?_) AllReadyH.nil
              go_simp
              refine (S.find x.n x.s T_w7.out.rep (by rw [HN.out]; omega) XN.out XS.out).mono ?_
              rintro e w8 ⟨he, b7⟩
              rw [FX.out.1, FX.out.2] at he
              subst he
              have c7 := b7
              have T_w8 := Hid.of (T_w7.out.next c7)
              have H_w8 := Hid.of (H_w7.out.trans (c7.mono H_w7.out.size))
              have Z_w8 := Hid.of (Z_w7.out.kept c7)
              clear b7 c7 T_w7 Z_w7
              clear hHeld c0 c1
              obtain ⟨c0, c1, -⟩ := Q.out _ H_w8.out
              simp only [rl] at c0 c1
              refine hK.out _ _ ⟨c0, c1⟩ (fun hHeld => ?_)
              clear hK K
              try simp only [Act.put, List.setIfInBounds_toArray, List.set_cons_zero, List.set_cons_succ]
              refine wpAnyH_take (i := 12) (oi := ⟨_, _, _, _, _, _⟩) (v := ?_) rfl (by kernel_rfl) (by kernel_rfl) (by kernel_rfl) (fun _ _ _ h => h) (Or.inl ⟨by rfl, ?_⟩) hHeld ?_
              rotate_left
              · intro w' hSw
                try dsimp only at hSw
                go_simp
                all_goals with_reducible rfl
              simp only [Act.put, List.setIfInBounds_toArray, List.set_cons_zero, List.set_cons_succ]
              refine wpAnyH_take (i := 13) (oi := ⟨_, _, _, _, _, _⟩) (v := ?_) rfl (by kernel_rfl) (by kernel_rfl) (by kernel_rfl) (fun _ _ _ h => h) (Or.inl ⟨by rfl, ?_⟩) hHeld ?_
              rotate_left
              · intro w' hSw
                try dsimp only at hSw
                go_simp
                all_goals with_reducible rfl
              simp only [Act.put, List.setIfInBounds_toArray, List.set_cons_zero, List.set_cons_succ]
              refine wpAnyH_take (i := 14) (oi := ⟨_, _, _, _, _, _⟩) (v := ?_) rfl (by kernel_rfl) (by kernel_rfl) (by kernel_rfl) (fun _ _ _ h => h) (Or.inl ⟨by rfl, ?_⟩) hHeld ?_
              rotate_left
              · intro w' hSw
                try dsimp only at hSw
                go_simp
                all_goals with_reducible rfl
              simp only [Act.put, List.setIfInBounds_toArray, List.set_cons_zero, List.set_cons_succ]
              obtain ⟨q0, q1, q2, q3, q4⟩ := Z_w8.out.at
              rw [Nat.zero_add] at q1 q2 q3 q4
              have y0 := row_frozen (i := 0) Z_w8.out
              have y1 := row_frozen (i := 1) Z_w8.out
              have y2 := row_frozen (i := 2) Z_w8.out
              have y3 := row_frozen (i := 3) Z_w8.out
              have y4 := row_frozen (i := 4) Z_w8.out
              have AX := Z_w8.out.set x.a
              have GX := set5_grown w8 wr.heap.size x.a
              obtain ⟨wz, hwz⟩ : ∃ wz, set5 w8 wr.heap.size x.a = wz := ⟨_, rfl⟩
              rw [hwz] at AX GX
              unfold set5 at hwz
              simp only [agZero] at q0 q1 q2 q3 q4
              have TZ := Hid.of (T_w8.out.other GX NF.out GB.out.1)
              have HZ := Hid.of (H_w8.out.grown GX H_w8.out.size (fun k hk => by cases hk; exact GB.out.2))
              have KZ := Hid.of AX
              have HWZ := Hid.of hwz
              clear AX GX hwz
              refine wpAnyH_ready (rs := [16]) (by kernel_rfl) (by simp) ?_
              refine AllReadyH.cons (o := ⟨_, _, _, _, _, _⟩) rfl (fun K hK => ?_) AllReadyH.nil
              go_simp
              rw [HWZ.out]
              clear q0 q1 q2 q3 q4 y0 y1 y2 y3 y4
              clear hHeld c0 c1
              obtain ⟨c0, c1, -⟩ := Q.out _ HZ.out
              simp only [rl] at c0 c1
              refine hK.out _ _ ⟨c0, c1⟩ (fun hHeld => ?_)
              clear hK K
              try simp only [Act.put, List.setIfInBounds_toArray, List.set_cons_zero, List.set_cons_succ]
              refine wpAnyH_take (i := 17) (oi := ⟨_, _, _, _, _, _⟩) (v := ?_) rfl (by kernel_rfl) (by kernel_rfl) (by kernel_rfl) (fun _ _ _ h => h) (Or.inl ⟨by rfl, ?_⟩) hHeld ?_
              rotate_left
              · intro w' hSw
                try dsimp only at hSw
                go_simp
                all_goals with_reducible rfl
              simp only [Act.put, List.setIfInBounds_toArray, List.set_cons_zero, List.set_cons_succ]
              refine wpAnyH_done (by kernel_rfl) ?_ _
              refine NoPanic.normal ?_
              go_wp2_with fail
              go_meet
              exact ⟨_, rfl, rfl, KZ, HZ, TZ⟩
          case rest =>
            obtain ⟨bz, rfl, rfl, KZ, HBc, TC⟩ := hcut
            clear HB T c0 c1
            obtain ⟨c0, c1, c2, c3, c4⟩ := KZ.out.at
            obtain ⟨x0, x1, x2, x3, x4, x5, x6⟩ := Q.out _ HBc.out
            simp only [rl] at x0 x1 x2 x3 x4 x5 x6
            rw [Nat.zero_add] at c1 c2 c3 c4
            have step : Hid (∀ q, Below w6.heap.size w6 (wc.drewN q) ∧ THere S w.heap.size w (wc.drewN q) p 1 L F3) := Hid.of (fun q => ⟨below_drewN HBc.out q, TC.out.next (below_drewN (Below.refl _ _) q)⟩)
            have XE : Hid (∀ b : Bool, (decide (x.n = nm) && decide (from_ ≤ x.s) && decide (x.s < to_)) = b → (tRange (L.take (i + 1)) nm from_ to_).length = k + if b = true then 1 else 0) := Hid.of (fun b hb => by
              have h1 := filter_take (P := fun y : TRec => decide (y.n = nm) && decide (from_ ≤ y.s) && decide (y.s < to_)) HX.out
              have h2 := HKI.out
              unfold tRange at h2 ⊢
              rw [h1, h2]
              simp only [hb])
            have key : (¬ x.n = nm) ∨ (x.n = nm ∧ x.s < from_) ∨ (x.n = nm ∧ ¬ x.s < from_ ∧ to_ ≤ x.s) ∨ (x.n = nm ∧ ¬ x.s < from_ ∧ ¬ to_ ≤ x.s) := by
              by_cases a : x.n = nm
              · by_cases b : x.s < from_
                · exact .inr (.inl ⟨a, b⟩)
                · by_cases c : to_ ≤ x.s
                  · exact .inr (.inr (.inl ⟨a, b, c⟩))
                  · exact .inr (.inr (.inr ⟨a, b, c⟩))
              · exact .inl a
            rcases key with a | ⟨a, b⟩ | ⟨a, b, c⟩ | ⟨a, b, c⟩
            · have e : (x.n.toList == nm.toList) = false := by
                rw [Bool.eq_false_iff]
                intro c
                exact a (toList_eq (by simpa using c))
              have KK : Hid ((tRange (L.take (i + 1)) nm from_ to_).length = k) := Hid.of (by have := XE.out false (by rw [decide_eq_false a]; rfl); simpa using this)
              clear a hi
              go_upto_region 13 with fail
              go_quiet (fail)
              go_wp2
              go_roundw
              case rel => exact ⟨i + 1, by omega, by go_num, by rw [KK.out], Hid.of (step.out _).1, Hid.of (step.out _).2⟩
              case measure => simp [RowKit.intOf]; omega
            · have e : (x.n.toList == nm.toList) = true := by rw [a]; simp
              have b2 : ¬ x.s ≥ from_ := by omega
              have KK : Hid ((tRange (L.take (i + 1)) nm from_ to_).length = k) := Hid.of (by have := XE.out false (by rw [decide_eq_false (show ¬ from_ ≤ x.s by omega)]; simp); simpa using this)
              clear a hi
              go_upto_region 13 with fail
              go_quiet (fail)
              go_wp2
              go_roundw
              case rel => exact ⟨i + 1, by omega, by go_num, by rw [KK.out], Hid.of (step.out _).1, Hid.of (step.out _).2⟩
              case measure => simp [RowKit.intOf]; omega
            · have e : (x.n.toList == nm.toList) = true := by rw [a]; simp
              have b2 : x.s ≥ from_ := by omega
              have c9 : ¬ x.s < to_ := by omega
              have KK : Hid ((tRange (L.take (i + 1)) nm from_ to_).length = k) := Hid.of (by have := XE.out false (by rw [decide_eq_false c9]; simp); simpa using this)
              clear a b c hi
              go_upto_region 13 with fail
              go_quiet (fail)
              go_wp2
              go_roundw
              case rel => exact ⟨i + 1, by omega, by go_num, by rw [KK.out], Hid.of (step.out _).1, Hid.of (step.out _).2⟩
              case measure => simp [RowKit.intOf]; omega
            · have e : (x.n.toList == nm.toList) = true := by rw [a]; simp
              have b2 : x.s ≥ from_ := by omega
              have c9 : x.s < to_ := by omega
              have hp : (fun y : TRec => decide (y.n = nm) && decide (from_ ≤ y.s) && decide (y.s < to_)) x = true := by
                show (decide (x.n = nm) && decide (from_ ≤ x.s) && decide (x.s < to_)) = true
                rw [decide_eq_true a, decide_eq_true (show from_ ≤ x.s by omega), decide_eq_true c9]
                rfl
              have hnx := filter_next (P := fun y : TRec => decide (y.n = nm) && decide (from_ ≤ y.s) && decide (y.s < to_)) HX.out hp
              have hx2 : (tRange L nm from_ to_)[k]? = some x := by
                have h2 := HKI.out
                unfold tRange at h2 ⊢
                rw [← h2]
                exact hnx
              have hk2 : k < K := by
                have h1 := (List.getElem?_eq_some_iff.1 hx2).1
                rw [HK.out] at h1
                exact h1
              have KK : Hid ((tRange (L.take (i + 1)) nm from_ to_).length = k + 1) := Hid.of (by have := XE.out true hp; simpa using this)
              obtain ⟨b7, o7, rfl, hl2, y0, y1, y2, y3, y4, y5, y6⟩ := r_at C2.out k (rl x) (by rw [List.getElem?_map, hx2]; rfl)
              rw [← HBc.out.cell hl2] at y0 y1 y2 y3 y4 y5 y6
              simp only [rl] at y0 y1 y2 y3 y4 y5 y6
              have k1 : (k : Int) < (K : Int) := by omega
              have k2 : decide ((K : Int) ≤ (k : Int)) = false := decide_eq_false (by omega)
              have k3 : decide (K ≤ k) = false := decide_eq_false (by omega)
              clear a b c hi hnx hp hx2 hk2
              go_upto_region 13 with fail
              go_quiet (fail)
              go_upto_region 16 with fail
              go_quiet (fail)
              go_wp2
              go_roundw
              case rel => exact ⟨i + 1, by omega, by go_num, by rw [KK.out]; go_num, Hid.of (step.out _).1, Hid.of (step.out _).2⟩
              case measure => simp [RowKit.intOf]; omega
        · obtain rfl : N = i := by omega
          have hkK : k = K := by
            have h1 := HKI.out
            rw [← HN.out, List.take_length, HK.out] at h1
            exact h1.symm
          subst hkK
          clear hi hlt i0
          have NO := Hid.of (MD.out.none (n := ⟨#[63]⟩) (by decide +kernel) 0)
          go_wp2_with fail
          refine (S.find ⟨#[63]⟩ 0 T.out.rep (by rw [HN.out]; omega) (by decide) (by unfold TIn64; decide)).mono ?_
          rintro e w7 ⟨he, b7⟩
          rw [NO.out] at he
          subst he
          have T7 := Hid.of (T.out.next b7)
          clear b7 T HB
          go_wp2_with fail
          obtain ⟨w8, hw8⟩ : ∃ w8, w7.alloc (.cells #[.int .i64 (tAt L (⟨#[63]⟩, 0)).c, .int .i64 (tAt L (⟨#[63]⟩, 0)).hi, .int .u64 (tAt L (⟨#[63]⟩, 0)).lo, .int .i64 (tAt L (⟨#[63]⟩, 0)).mn, .int .i64 (tAt L (⟨#[63]⟩, 0)).mx] 24) = w8 := ⟨_, rfl⟩
          rw [hw8]
          have T8 := Hid.of (T7.out.next (w' := w8) (by rw [← hw8]; exact (Below.refl _ _).alloc (Nat.le_refl _) _))
          clear hw8 T7
          refine (tableAlive_any S _).mono ?_
          rintro e w9 ⟨rfl, b9⟩
          have T9 := Hid.of (T8.out.next b9)
          clear b9 T8
          go_wp2_with fail
          refine (S.len T9.out.rep (by rw [HN.out]; omega)).mono ?_
          rintro e w10 ⟨rfl, b10⟩
          rw [HN.out]
          have T10 := Hid.of (T9.out.next b10)
          clear b10 T9
          go_wp2
          go_ret
          exact ⟨rfl, T10.out.fr⟩

end Go.Proofs.Ytokjlmkegdickaa
