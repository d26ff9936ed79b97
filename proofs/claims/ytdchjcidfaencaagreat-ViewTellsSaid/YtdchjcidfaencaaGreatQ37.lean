/-
  A bundle of texts: VLE VLF VLG VLH VSU VLI VAL.
-/
import Derived.Test.YtdchjcidfaencaaGreatQ34
import Derived.Test.YtdchjcidfaencaaGreatQ12
import Derived.Test.YtdchjcidfaencaaGreatQ32
import Derived.Test.YtdchjcidfaencaaGreatQ13
import Derived.Test.YtdchjcidfaencaaGreatQ25
namespace Go.Proofs.YtdchjcidfaencaaGreat
open Go.RowKit Go.Lib Go.Sort

/-- What a record of one key becomes, a value more. -/
theorem join_value {T : List TRec} {n : Nat} (hT : VGood T n) (k : TKey) {v : Int} (hv : TIn64 v) :
    AgIn ((tGet T k).getD agZero) ∧ agAll agZero [(tGet T k).getD agZero, agOf [v]] = (match tGet T k with | none => agOne v | some a => agBoth a (agOne v)) := by
  have hg := agOf_good (l := [v]) (fun x hx => by rw [List.mem_singleton.1 hx]; exact hv)
  rw [agOf_one hv] at hg ⊢
  have h1 : agAll agZero [(tGet T k).getD agZero, agOne v] = agJoin (agJoin agZero ((tGet T k).getD agZero)) (agOne v) := rfl
  have hok : agOk (agOne v) = true := by unfold agOk agOne; simp
  have hgo : AgGood (agOne v) := agOne_good hv.1 hv.2
  rw [h1]
  cases hk : tGet T k with
  | none =>
    refine ⟨agZero_in, ?_⟩
    show agJoin (agJoin agZero agZero) (agOne v) = agOne v
    rw [agJoin_zero_right, agJoin_zero_left _ hgo]
  | some a =>
    have f := hT.all _ (tGet_some hk)
    refine ⟨f.2, ?_⟩
    show agJoin (agJoin agZero a) (agOne v) = agBoth a (agOne v)
    rw [agJoin_zero_left _ f.g]
    unfold agJoin
    rw [if_pos hok, if_pos f.1]

theorem know_put {T : List TRec} {n : Nat} (hT : VGood T n) (k : TKey) {v : Int} (hv : TIn64 v) : bmPut (vKnow T) k (agv (agAll agZero [(tGet T k).getD agZero, agOf [v]])) = vKnow (tIns T ⟨k.1, k.2, agOne v⟩) := by
  funext x
  have h := tGet_ins (l := T) (r := ⟨k.1, k.2, agOne v⟩) hT.sorted x
  show bmPut (vKnow T) k _ x = (tGet _ x).map fun a => agv a
  rw [h, (join_value hT k hv).2]
  unfold bmPut
  by_cases c : x = k
  · rw [if_pos c, if_pos (show x = (⟨k.1, k.2, agOne v⟩ : TRec).k from c)]
    rfl
  · rw [if_neg c, if_neg (show ¬ x = (⟨k.1, k.2, agOne v⟩ : TRec).k from c)]

theorem know_zero {T : List TRec} (k : TKey) : (vKnow T k).getD (agv agZero) = agv ((tGet T k).getD agZero) := by
  unfold vKnow
  cases tGet T k <;> rfl

set_option maxRecDepth 20000 in
theorem vrecords_any (T : List TRec) (b n : Nat) (w : World) (hT : VGood T 1000) (hN : ∀ x ∈ T, x.n.size ≤ 1000) (hm : MapB Tryz.prog 82 w b n (vKnow T)) (hn : n ≤ 1000) :
    Calls Tryz.prog 27 #[.map (some b)] w fun e w' => ∃ u, e = .returned u ∧ TROwn w' w.heap.size u T ∧ Below w.heap.size w w' :=
  vcollect_any T b n w hT hN hm hn (fun _ _ w1 hc ho hl => vsort_any w1 hT.sorted hc ho hl)

/-- While samples are put into the map. -/
structure TQ (S : ReachSpec) (r : RchL) (now : Int) (n : ByteArray) (s f : Value) (w0 w : World) (z j : Nat) (T : List TRec) : Prop where
  kz : w.heap[z]? = some (.cells #[.int .i64 now, .string n, s, f] 46 (0, 0))
  rr0 : RchRow w0 (.agg #[.int .i64 now, .string n, s, f]) r
  ok0 : S.Ok w0
  mp : MapB Tryz.prog 82 w (z + 1) j (vKnow T)
  fr : Below w0.heap.size w0 w
  hz : w0.heap.size = z

section
variable {S : ReachSpec} {r : RchL} {now : Int} {n : ByteArray} {s f : Value} {w0 w w' : World} {z j : Nat} {T T' : List TRec}
theorem TQ.next (h : TQ S r now n s f w0 w z j T) (c : Below w.heap.size w w') : TQ S r now n s f w0 w' z j T :=
  ⟨(c.block _ (Array.getElem?_eq_some_iff.1 h.kz).1).trans h.kz, h.rr0, h.ok0, h.mp.at (c.block _ h.mp.lt), h.fr.trans (c.mono h.fr.size), h.hz⟩
theorem TQ.rr (h : TQ S r now n s f w0 w z j T) : RchRow w (.agg #[.int .i64 now, .string n, s, f]) r := h.rr0.kept h.fr
theorem TQ.ok (h : TQ S r now n s f w0 w z j T) : S.Ok w := S.kept h.ok0 h.fr
theorem TQ.at (h : TQ S r now n s f w0 w z j T) : w.cell? ⟨z, 0, none⟩ = some (.int .i64 now) ∧ w.cell? ⟨z, 1, none⟩ = some (.string n) ∧ w.cell? ⟨z, 2, none⟩ = some s ∧ w.cell? ⟨z, 3, none⟩ = some f := by
  refine ⟨?_, ?_, ?_, ?_⟩ <;> (rw [cell_of_row w z _ _ _ _ h.kz]; rfl)
theorem TQ.put (h : TQ S r now n s f w0 w z j T) (m : MapB Tryz.prog 82 w' (z + 1) (j + 1) (vKnow T')) (t : w.mapTurned w' (z + 1)) : TQ S r now n s f w0 w' z (j + 1) T' :=
  have g := t.grown
  ⟨(g.block _ (Array.getElem?_eq_some_iff.1 h.kz).1 (fun c => by have := Option.some.inj c; omega)).trans h.kz, h.rr0, h.ok0, m, h.fr.grown g h.fr.size (fun k hk => by cases hk; have := h.hz; omega), h.hz⟩
theorem TQ.more (h : TQ S r now n s f w0 w z j T) : TQ S r now n s f w0 w z (j + 1) T := ⟨h.kz, h.rr0, h.ok0, h.mp.mono (Nat.le_succ _), h.fr, h.hz⟩
end

theorem vnOk_le {s : ByteArray} (h : nOk s = true) : s.size ≤ 15 := by
  unfold nOk at h
  simp only [Bool.and_eq_true, decide_eq_true_eq] at h
  exact h.1.2

theorem vKeys {r : RchL} {i : Int} {ss : List SamL} (hr : VOk r) (hs : ∀ s ∈ ss, SFit s) : ∀ x ∈ vT r i ss, nOk x.n = true := by
  have key : ∀ k, ∀ x ∈ vT r i (ss.take k), nOk x.n = true := by
    intro k
    induction k with
    | zero => rw [List.take_zero, vT_nil]; exact fun _ h => absurd h List.not_mem_nil
    | succ k ih =>
      by_cases hk : k < ss.length
      · rw [List.take_succ_eq_append_getElem hk, vT_next hr (hs _ (List.getElem_mem hk))]
        split
        · rename_i hh
          obtain ⟨_, _, _, _, hn, _⟩ := vHas_in hh
          intro x hx
          rcases tIns_key hx with e | ⟨y, hy, e⟩
          · simp only [TRec.k, Prod.mk.injEq] at e
            rw [e.1]
            exact hn
          · simp only [TRec.k, Prod.mk.injEq] at e
            rw [e.1]
            exact ih y hy
        · exact ih
      · rw [List.take_of_length_le (by omega)] at ih ⊢
        exact ih
  have h := key ss.length
  rwa [List.take_length] at h

theorem vtake_next {α : Type} {l : List α} {k : Nat} {x : α} (h : l[k]? = some x) : l.take (k + 1) = l.take k ++ [x] := by
  obtain ⟨hk, rfl⟩ := List.getElem?_eq_some_iff.1 h
  exact List.take_succ_eq_append_getElem hk

set_option maxRecDepth 20000 in
set_option maxHeartbeats 6400000 in
theorem viewTier_any (S : ReachSpec) (rv v : Value) (r : RchL) (i : Int) (ss : List SamL) (w : World) (hS : S.Ok w) (fit : RFit r) (ok : VOk r) (hr : RchRow w rv r) (hi : In64 i) (hv : CellRow w v ss.length (flat aenc ss)) (hl : ss.length ≤ 1000) (fs : ∀ s ∈ ss, SFit s) :
    Calls Tryz.prog 9 #[rv, .int .i64 i, v] w fun e w' => ∃ u, e = .returned u ∧ TROwn w' w.heap.size u (vT r i ss) ∧ Below w.heap.size w w' := by
  have hr0 := hr
  obtain ⟨s, f, rfl, -⟩ := hr
  unfold rVal at hr0 ⊢
  obtain ⟨now, hnow⟩ : ∃ x, r.1 = x := ⟨_, rfl⟩
  obtain ⟨n, hnn⟩ : ∃ x, r.2.1.1 = x := ⟨_, rfl⟩
  rw [hnow, hnn] at hr0 ⊢
  have HV := Hid.of hv
  obtain ⟨va, vc, rfl, -⟩ := hv
  obtain ⟨Z, hZ⟩ : ∃ Z, ss.length = Z := ⟨_, rfl⟩
  rw [hZ] at HV hl ⊢
  obtain ⟨z, hz⟩ : ∃ z, w.heap.size = z := ⟨_, rfl⟩
  obtain ⟨w1, hw1⟩ : ∃ w1, (w.alloc (.cells #[.int .i64 now, .string n, s, f] 46)).alloc (.map #[] 0) = w1 := ⟨_, rfl⟩
  have b1 : Below w.heap.size w w1 := by rw [← hw1]; exact ((Below.refl _ _).alloc (Nat.le_refl _) _).alloc (by simp) _
  have q1 : TQ S r now n s f w w1 z 0 (vT r i (ss.take 0)) := by
    refine ⟨?_, hr0, hS, ?_, b1, hz⟩
    · rw [← hw1, ← hz]
      exact (Go.heap_alloc_old _ _ (by simp)).trans (Go.heap_alloc_new _ _)
    · have h := MapB.made (P := Tryz.prog) (k := 82) (w.alloc (.cells #[.int .i64 now, .string n, s, f] 46))
      rw [show (w.alloc (.cells #[.int .i64 now, .string n, s, f] 46)).heap.size = w.heap.size + 1 by simp, hw1, hz] at h
      have e : vKnow (vT r i (ss.take 0)) = fun _ => none := by
        funext k
        rw [List.take_zero, vT_nil]
        rfl
      rw [e]
      exact h
  have HW := Hid.of hw1
  have HZ := Hid.of hz
  have Q1 := Hid.of q1
  have FIT := Hid.of fit
  have OK := Hid.of ok
  have HI := Hid.of hi
  have FS := Hid.of fs
  have HL := Hid.of hZ
  clear hw1 hz b1 q1 fit ok hS hr0 hi fs hZ hnow hnn
  have hmk := run_makeMap (P := Tryz.prog) 80 (w.alloc (.cells #[.int .i64 now, .string n, s, f] 46))
  go_enter Tryz.func9, Tryz.ntmps9
  go_upto_region 2 with fail
  rw [HW.out, HZ.out]
  clear HW hmk
  go_wp2_with fail
  go_loopg [9, 10, 11, 15] Z (fun kx x9 x10 x11 iv wr => ∃ j : Nat, iv = .int .i64 j ∧ j ≤ Z ∧ Z - j ≤ kx ∧ Hid (TQ S r now n s f w wr z j (vT r i (ss.take j))))
  case atStart => exact ⟨0, rfl, Nat.zero_le _, Nat.le_refl _, Q1⟩
  case round =>
    clear Q1
    obtain ⟨j, rfl, hjZ, hjx, Q⟩ := hrel
    have j0 : (0 : Int) ≤ (j : Int) := Int.natCast_nonneg _
    by_cases hlt : (j : Int) < (Z : Int)
    · obtain ⟨x, hx⟩ : ∃ x, ss[j]? = some x := ⟨_, List.getElem?_eq_getElem (by have := HL.out; omega)⟩
      have XX := Hid.of hx
      have FX := Hid.of (FS.out x (List.mem_of_getElem? hx))
      obtain ⟨ab, ao, hva, al, a0, a1, a2⟩ := a_at (HV.out.kept Q.out.fr) j x hx
      subst hva
      clear hx
      obtain ⟨sn, st, sx⟩ := x
      have V0 : Hid (vT r i (ss.take (j + 1)) = if vHas r i (sn, st, sx) = true then tIns (vT r i (ss.take j)) ⟨sn, (rStart r i st).1, agOne sx⟩ else vT r i (ss.take j)) := Hid.of (by
        rw [vtake_next XX.out, vT_next OK.out FX.out])
      have VG : Hid (VGood (vT r i (ss.take j)) (ss.take j).length) := Hid.of (vT_good OK.out (fun s hs => FS.out s (List.mem_of_mem_take hs)))
      obtain ⟨T, hT⟩ : ∃ T, vT r i (ss.take j) = T := ⟨_, rfl⟩
      rw [hT] at Q V0 VG
      clear hT
      go_upto_region 5 with fail
      obtain ⟨q, hq⟩ : ∃ q, wr.heap.size = q := ⟨_, rfl⟩
      obtain ⟨w2, hw2⟩ : ∃ w2, wr.alloc (.cells #[.string sn, .int .i64 st, .int .i64 sx] 76) = w2 := ⟨_, rfl⟩
      have b2 : Below wr.heap.size wr w2 := by rw [← hw2]; exact (Below.refl _ _).alloc (Nat.le_refl _) _
      have k2 : w2.heap[q]? = some (.cells #[.string sn, .int .i64 st, .int .i64 sx] 76 (0, 0)) := by rw [← hw2, ← hq]; exact Go.heap_alloc_new _ _
      have l2 := (Array.getElem?_eq_some_iff.1 k2).1
      have CS2 : Hid (Cs w2 [(⟨q, 0, none⟩, .string sn), (⟨q, 1, none⟩, .int .i64 st), (⟨q, 2, none⟩, .int .i64 sx)]) := Hid.of (.cons l2 (by simp [World.cell?, k2]) (.cons l2 (by simp [World.cell?, k2]) (.cons l2 (by simp [World.cell?, k2]) (.nil _))))
      have HQ : Hid (z + 1 < q) := Hid.of (by have := Q.out.mp.lt; omega)
      have Q2 := Hid.of (Q.out.next b2)
      rw [hw2, hq]
      clear hw2 hq b2 k2 l2 Q a0 a1 a2 al
      obtain ⟨c0, c1, c2, c3⟩ := Q2.out.at
      have e0 := CS2.out.head
      have e1 := CS2.out.tail.head
      have e2 := CS2.out.tail.tail.head
      have hpl := vplace_any S _ r i sn st sx w2 Q2.out.ok FIT.out Q2.out.rr HI.out FX.out.1 FX.out.2.1
      obtain ⟨m, hm⟩ : ∃ m, vHas r i (sn, st, sx) = m := ⟨_, rfl⟩
      have HM := Hid.of hm
      rw [hm] at hpl V0
      clear hm
      go_wp2_with fail
      refine hpl.mono ?_
      rintro e w3 ⟨k, rfl, hk, b3⟩
      have Q3 := Hid.of (Q2.out.next b3)
      have CS3 := Hid.of (CS2.out.next b3)
      clear b3 hpl c0 c1 c2 c3 e0 e1 e2 Q2 CS2
      have b4 : Below w3.heap.size w3 (w3.alloc (.cells #[.string k.1, .int .i64 k.2] 82)) := (Below.refl _ _).alloc (Nat.le_refl _) _
      cases m
      · have Q4 := Hid.of ((Q3.out.next b4).more)
        have V1 : Hid (vT r i (ss.take (j + 1)) = T) := Hid.of (by rw [V0.out, if_neg Bool.false_ne_true])
        clear V0 b4 Q3 CS3 hk
        go_wp2_with fail
        go_roundg (Z - (j + 1))
        case measure => omega
        case rel => exact ⟨j + 1, by go_num, by omega, Nat.le_refl _, by rw [V1.out]; exact Q4⟩
      · obtain rfl := hk rfl
        obtain ⟨a, ha⟩ : ∃ a, (rStart r i st).1 = a := ⟨_, rfl⟩
        rw [ha] at V0 b4 ⊢
        have HPK : Hid (PkOk (sn, a)) := Hid.of ⟨FX.out.1, by
          have h1 := vStart_in OK.out HM.out
          have h2 := FX.out.2.1
          simp only [ha] at h1
          unfold TIn64 at h2
          simp only at h2
          show -9223372036854775808 ≤ a ∧ a ≤ 9223372036854775807
          omega⟩
        obtain ⟨w4, hw4⟩ : ∃ w4, w3.alloc (.cells #[.string sn, .int .i64 a] 82) = w4 := ⟨_, rfl⟩
        obtain ⟨g, hg⟩ : ∃ g, w3.heap.size = g := ⟨_, rfl⟩
        have k4 : w4.heap[g]? = some (.cells #[.string sn, .int .i64 a] 82 (0, 0)) := by rw [← hw4, ← hg]; exact Go.heap_alloc_new _ _
        have l4 := (Array.getElem?_eq_some_iff.1 k4).1
        rw [show ((sn, a) : TKey).1 = sn from rfl, show ((sn, a) : TKey).2 = a from rfl, hw4] at b4
        have Q4 := Hid.of (Q3.out.next b4)
        have CS4 : Hid (Cs w4 [(⟨g, 0, none⟩, .string sn), (⟨g, 1, none⟩, .int .i64 a), (⟨q, 2, none⟩, .int .i64 sx)]) := Hid.of (.cons l4 (by simp [World.cell?, k4]) (.cons l4 (by simp [World.cell?, k4]) ((CS3.out.next b4).tail.tail)))
        have HQG : Hid (z + 1 < q ∧ z + 1 < g) := Hid.of ⟨HQ.out, by have := Q3.out.mp.lt; omega⟩
        have JV := Hid.of (join_value VG.out (sn, a) FX.out.2.2)
        have KP := Hid.of (know_put VG.out (sn, a) FX.out.2.2)
        have HJ : Hid (j < Z ∧ Z ≤ 1000) := Hid.of ⟨by omega, hl⟩
        have HW4 := Hid.of hw4
        have HG := Hid.of hg
        have V1 : Hid (vT r i (ss.take (j + 1)) = tIns T ⟨sn, a, agOne sx⟩) := Hid.of (by rw [V0.out, if_pos rfl])
        clear b4 k4 l4 Q3 CS3 hw4 hg hk ha V0 HQ
        go_upto_region 7 with fail
        rw [HW4.out, HG.out]
        clear HW4 HG
        obtain ⟨w5, hw5⟩ : ∃ w5, w4.drew = w5 := ⟨_, rfl⟩
        have b5 : Below w4.heap.size w4 w5 := by rw [← hw5]; exact (Below.refl _ _).drew
        have Q5 := Hid.of (Q4.out.next b5)
        have CS5 := Hid.of (CS4.out.next b5)
        have HQ := HQG
        clear b5 Q4 CS4
        have d0 := (CS5.out).head
        have d1 := ((CS5.out).tail).head
        have d2 := (((CS5.out).tail).tail).head
        refine wp_region_noPanic ?_
        refine wp_region_held_drew (S := fun w' => w'.cell? ⟨g, 0, none⟩ = some (.string sn) ∧ w'.cell? ⟨g, 1, none⟩ = some (.int .i64 a) ∧ w'.cell? ⟨q, 2, none⟩ = some (.int .i64 sx)) (by kernel_rfl) ?_ (fun hHeld => ?_)
        · rw [hw5]; exact ⟨d0, d1, d2⟩
        refine wpAnyH_take (i := 0) (oi := ⟨_, _, _, _, _, _⟩) (v := ?_) rfl (by kernel_rfl) (by kernel_rfl) (by kernel_rfl) (fun _ _ _ h => h) (Or.inl ⟨by rfl, ?_⟩) hHeld ?_
        rotate_left
        · intro w' hSw
          try dsimp only at hSw
          go_simp
          all_goals with_reducible rfl
        simp only [Act.put, List.setIfInBounds_toArray, List.set_cons_zero, List.set_cons_succ]
        refine wpAnyH_take (i := 1) (oi := ⟨_, _, _, _, _, _⟩) (v := ?_) rfl (by kernel_rfl) (by kernel_rfl) (by kernel_rfl) (fun _ _ _ h => h) (Or.inl ⟨by rfl, ?_⟩) hHeld ?_
        rotate_left
        · intro w' hSw
          try dsimp only at hSw
          go_simp
          all_goals with_reducible rfl
        simp only [Act.put, List.setIfInBounds_toArray, List.set_cons_zero, List.set_cons_succ]
        refine wpAnyH_take (i := 2) (oi := ⟨_, _, _, _, _, _⟩) (v := ?_) rfl (by kernel_rfl) (by kernel_rfl) (by kernel_rfl) (fun _ _ _ h => h) (Or.inl ⟨by rfl, ?_⟩) hHeld ?_
        rotate_left
        · intro w' hSw
          try dsimp only at hSw
          go_simp
          all_goals with_reducible rfl
        simp only [Act.put, List.setIfInBounds_toArray, List.set_cons_zero, List.set_cons_succ]
        refine wpAnyH_take (i := 3) (oi := ⟨_, _, _, _, _, _⟩) (v := ?_) rfl (by kernel_rfl) (by kernel_rfl) (by kernel_rfl) (fun _ _ _ h => h) (Or.inl ⟨by rfl, ?_⟩) hHeld ?_
        rotate_left
        · intro w' hSw
          try dsimp only at hSw
          go_simp
          all_goals with_reducible rfl
        simp only [Act.put, List.setIfInBounds_toArray, List.set_cons_zero, List.set_cons_succ]
        refine wpAnyH_take (i := 5) (oi := ⟨_, _, _, _, _, _⟩) (v := ?_) rfl (by kernel_rfl) (by kernel_rfl) (by kernel_rfl) (fun _ _ _ h => h) (Or.inl ⟨by rfl, ?_⟩) hHeld ?_
        rotate_left
        · intro w' hSw
          try dsimp only at hSw
          go_simp
          all_goals with_reducible rfl
        simp only [Act.put, List.setIfInBounds_toArray, List.set_cons_zero, List.set_cons_succ]
        refine wpAnyH_take (i := 6) (oi := ⟨_, _, _, _, _, _⟩) (v := ?_) rfl (by kernel_rfl) (by kernel_rfl) (by kernel_rfl) (fun _ _ _ h => h) (Or.inl ⟨by rfl, ?_⟩) hHeld ?_
        rotate_left
        · intro w' hSw
          try dsimp only at hSw
          go_simp
          all_goals with_reducible rfl
        simp only [Act.put, List.setIfInBounds_toArray, List.set_cons_zero, List.set_cons_succ]
        refine wpAnyH_ready (rs := [4, 7]) (by kernel_rfl) (by simp) ?_
        refine AllReadyH.cons (o := ⟨_, _, _, _, _, _⟩) rfl (fun K hK => ?_) (AllReadyH.cons (o := ⟨_, _, _, _, _, _⟩) rfl (fun K hK => ?_) AllReadyH.nil)
        · have hlk := Q5.out.mp.look bucketKey Tryz.underlying80 (z := agv agZero) (Tryz.zeroValue59 _) (s := (sn, a)) HPK.out
          rw [know_zero] at hlk
          go_simp
          clear hlk
          clear hHeld d0 d1 d2
          have d0 := (CS5.out).head
          have d1 := ((CS5.out).tail).head
          have d2 := (((CS5.out).tail).tail).head
          refine hK.out _ _ ⟨d0, d1, d2⟩ (fun hHeld => ?_)
          clear hK K
          try simp only [Act.put, List.setIfInBounds_toArray, List.set_cons_zero, List.set_cons_succ]
          refine wpAnyH_ready (rs := [7]) (by kernel_rfl) (by simp) ?_
          refine AllReadyH.cons (o := ⟨_, _, _, _, _, _⟩) rfl (fun K hK => ?_) AllReadyH.nil
          go_simp
          obtain ⟨w6, hw6⟩ : ∃ w6, w5.alloc (.cells #[.int .i64 sx] 3) = w6 := ⟨_, rfl⟩
          have b6 : Below w5.heap.size w5 w6 := by rw [← hw6]; exact (Below.refl _ _).alloc (Nat.le_refl _) _
          have NR6 : Hid (NumRow .i64 w6 (.slice (some ⟨w5.heap.size, 0, none⟩) 1 1) [sx]) := Hid.of (by rw [← hw6]; exact num_1 w5 sx _)
          have Q6 := Hid.of (Q5.out.next b6)
          have CS6 := Hid.of (CS5.out.next b6)
          rw [hw6]
          clear hw6 b6 Q5 CS5
          clear hHeld d0 d1 d2
          have d0 := (CS6.out).head
          have d1 := ((CS6.out).tail).head
          have d2 := (((CS6.out).tail).tail).head
          refine hK.out _ _ ⟨d0, d1, d2⟩ (fun hHeld => ?_)
          clear hK K
          try simp only [Act.put, List.setIfInBounds_toArray, List.set_cons_zero, List.set_cons_succ]
          refine wpAnyH_ready (rs := [8]) (by kernel_rfl) (by simp) ?_
          refine AllReadyH.cons (o := ⟨_, _, _, _, _, _⟩) rfl (fun K hK => ?_) AllReadyH.nil
          go_simp
          refine (aggAdd_any _ JV.out.1 _ [sx] w6 NR6.out (ints_1 sx FX.out.2.2) (by simp)).mono ?_
          rintro e w7 ⟨rfl, b7⟩
          have Q7 := Hid.of (Q6.out.next b7)
          have CS7 := Hid.of (CS6.out.next b7)
          clear b7 Q6 CS6 NR6
          clear hHeld d0 d1 d2
          have d0 := (CS7.out).head
          have d1 := ((CS7.out).tail).head
          have d2 := (((CS7.out).tail).tail).head
          refine hK.out _ _ ⟨d0, d1, d2⟩ (fun hHeld => ?_)
          clear hK K
          try simp only [Act.put, List.setIfInBounds_toArray, List.set_cons_zero, List.set_cons_succ]
          refine wpAnyH_ready (rs := [9]) (by kernel_rfl) (by simp) ?_
          refine AllReadyH.cons (o := ⟨_, _, _, _, _, _⟩) rfl (fun K hK => ?_) AllReadyH.nil
          obtain ⟨w8, hrun, hm8, ht8⟩ := Q7.out.mp.store bucketKey Tryz.underlying80 (by have := HJ.out; unfold maxLen; omega) HPK.out (agv (agAll agZero [(tGet T (sn, a)).getD agZero, agOf [sx]]))
          go_simp
          have Q8 := Hid.of (Q7.out.put (by rw [← KP.out]; exact hm8) ht8)
          have CS8 := Hid.of (CS7.out.vgrown ht8.grown (fun x hx c => by simp only [List.mem_cons, List.not_mem_nil, or_false] at hx; have h := Option.some.inj c; have h2 := HQ.out; rcases hx with rfl | rfl | rfl <;> simp only at h <;> omega))
          clear hrun hm8 ht8 Q7 CS7
          clear hHeld d0 d1 d2
          have d0 := (CS8.out).head
          have d1 := ((CS8.out).tail).head
          have d2 := (((CS8.out).tail).tail).head
          refine hK.out _ _ ⟨d0, d1, d2⟩ (fun hHeld => ?_)
          clear hK K
          refine wpAnyH_done (by kernel_rfl) ?_ _
          refine NoPanic.normal ?_
          clear hHeld
          go_wp2
          go_roundg (Z - (j + 1))
          case measure => omega
          case rel => exact ⟨j + 1, by go_num, by omega, Nat.le_refl _, by rw [V1.out]; exact Q8⟩
        · go_simp
          obtain ⟨w6, hw6⟩ : ∃ w6, w5.alloc (.cells #[.int .i64 sx] 3) = w6 := ⟨_, rfl⟩
          have b6 : Below w5.heap.size w5 w6 := by rw [← hw6]; exact (Below.refl _ _).alloc (Nat.le_refl _) _
          have NR6 : Hid (NumRow .i64 w6 (.slice (some ⟨w5.heap.size, 0, none⟩) 1 1) [sx]) := Hid.of (by rw [← hw6]; exact num_1 w5 sx _)
          have Q6 := Hid.of (Q5.out.next b6)
          have CS6 := Hid.of (CS5.out.next b6)
          rw [hw6]
          clear hw6 b6 Q5 CS5
          clear hHeld d0 d1 d2
          have d0 := (CS6.out).head
          have d1 := ((CS6.out).tail).head
          have d2 := (((CS6.out).tail).tail).head
          refine hK.out _ _ ⟨d0, d1, d2⟩ (fun hHeld => ?_)
          clear hK K
          try simp only [Act.put, List.setIfInBounds_toArray, List.set_cons_zero, List.set_cons_succ]
          refine wpAnyH_ready (rs := [4]) (by kernel_rfl) (by simp) ?_
          refine AllReadyH.cons (o := ⟨_, _, _, _, _, _⟩) rfl (fun K hK => ?_) AllReadyH.nil
          have hlk := Q6.out.mp.look bucketKey Tryz.underlying80 (z := agv agZero) (Tryz.zeroValue59 _) (s := (sn, a)) HPK.out
          rw [know_zero] at hlk
          go_simp
          clear hlk
          clear hHeld d0 d1 d2
          have d0 := (CS6.out).head
          have d1 := ((CS6.out).tail).head
          have d2 := (((CS6.out).tail).tail).head
          refine hK.out _ _ ⟨d0, d1, d2⟩ (fun hHeld => ?_)
          clear hK K
          try simp only [Act.put, List.setIfInBounds_toArray, List.set_cons_zero, List.set_cons_succ]
          refine wpAnyH_ready (rs := [8]) (by kernel_rfl) (by simp) ?_
          refine AllReadyH.cons (o := ⟨_, _, _, _, _, _⟩) rfl (fun K hK => ?_) AllReadyH.nil
          go_simp
          refine (aggAdd_any _ JV.out.1 _ [sx] w6 NR6.out (ints_1 sx FX.out.2.2) (by simp)).mono ?_
          rintro e w7 ⟨rfl, b7⟩
          have Q7 := Hid.of (Q6.out.next b7)
          have CS7 := Hid.of (CS6.out.next b7)
          clear b7 Q6 CS6 NR6
          clear hHeld d0 d1 d2
          have d0 := (CS7.out).head
          have d1 := ((CS7.out).tail).head
          have d2 := (((CS7.out).tail).tail).head
          refine hK.out _ _ ⟨d0, d1, d2⟩ (fun hHeld => ?_)
          clear hK K
          try simp only [Act.put, List.setIfInBounds_toArray, List.set_cons_zero, List.set_cons_succ]
          refine wpAnyH_ready (rs := [9]) (by kernel_rfl) (by simp) ?_
          refine AllReadyH.cons (o := ⟨_, _, _, _, _, _⟩) rfl (fun K hK => ?_) AllReadyH.nil
          obtain ⟨w8, hrun, hm8, ht8⟩ := Q7.out.mp.store bucketKey Tryz.underlying80 (by have := HJ.out; unfold maxLen; omega) HPK.out (agv (agAll agZero [(tGet T (sn, a)).getD agZero, agOf [sx]]))
          go_simp
          have Q8 := Hid.of (Q7.out.put (by rw [← KP.out]; exact hm8) ht8)
          have CS8 := Hid.of (CS7.out.vgrown ht8.grown (fun x hx c => by simp only [List.mem_cons, List.not_mem_nil, or_false] at hx; have h := Option.some.inj c; have h2 := HQ.out; rcases hx with rfl | rfl | rfl <;> simp only at h <;> omega))
          clear hrun hm8 ht8 Q7 CS7
          clear hHeld d0 d1 d2
          have d0 := (CS8.out).head
          have d1 := ((CS8.out).tail).head
          have d2 := (((CS8.out).tail).tail).head
          refine hK.out _ _ ⟨d0, d1, d2⟩ (fun hHeld => ?_)
          clear hK K
          refine wpAnyH_done (by kernel_rfl) ?_ _
          refine NoPanic.normal ?_
          clear hHeld
          go_wp2
          go_roundg (Z - (j + 1))
          case measure => omega
          case rel => exact ⟨j + 1, by go_num, by omega, Nat.le_refl _, by rw [V1.out]; exact Q8⟩
    · obtain rfl : j = Z := by omega
      rw [List.take_of_length_le (Nat.le_of_eq HL.out)] at Q
      have vg := vT_good (i := i) OK.out FS.out
      have hrec := vrecords_any (vT r i ss) (z + 1) j wr (vg.mono (by rw [HL.out]; exact hl)) (fun x hx => by have := vnOk_le (vKeys OK.out FS.out x hx); omega) Q.out.mp hl
      clear vg
      go_wp2_with fail
      refine hrec.mono ?_
      rintro e w3 ⟨u, rfl, o3, b3⟩
      go_wp2
      go_ret
      exact ⟨u, rfl, own_mono o3 Q.out.fr.size, Q.out.fr.trans (b3.mono Q.out.fr.size)⟩

end Go.Proofs.YtdchjcidfaencaaGreat

namespace Go.Proofs.YtdchjcidfaencaaGreat
open Go.RowKit Go.Lib

/-- A list of records, as a row. -/
abbrev vRow (u : Value) (T : List TRec) : Row1 := ⟨61, 7, u, T.length, flat tenc T⟩
/-- The lists of all tiers. -/
def vRows (r : RchL) (ss : List SamL) (us : List Value) : List Row1 := us.mapIdx fun i u => vRow u (vT r (i : Int) ss)

theorem vRows_snoc (r : RchL) (ss : List SamL) (us : List Value) (u : Value) : vRows r ss (us ++ [u]) = vRows r ss us ++ [vRow u (vT r (us.length : Int) ss)] := by
  unfold vRows
  rw [List.mapIdx_concat]

theorem Bag.mono {D D' : Nat} {w : World} {rs qs : List Row1} (h : Bag D w rs qs) (hD : D' ≤ D) : Bag D' w rs qs :=
  ⟨fun r hr => own_mono (h.own r hr) hD, h.apart, h.seen, h.off⟩

/-- The list of the lists. -/
abbrev oRow (u : Value) (us : List Value) : Row1 := ⟨49, 1, u, us.length, us⟩

structure AQ (w0 w : World) (r : RchL) (ss : List SamL) (now : Int) (n : ByteArray) (s f : Value) (z : Nat) (lv : Value) (us : List Value) : Prop where
  kz : w.heap[z]? = some (.cells #[.int .i64 now, .string n, s, f] 46 (0, 0))
  fr : Below w0.heap.size w0 w
  hz : w0.heap.size = z
  bag : Bag (z + 1) w (oRow lv us :: vRows r ss us) []

section
variable {w0 w w' : World} {r : RchL} {ss : List SamL} {now : Int} {n : ByteArray} {s f : Value} {z : Nat} {lv : Value} {us : List Value}
theorem AQ.next (h : AQ w0 w r ss now n s f z lv us) (c : Below w.heap.size w w') : AQ w0 w' r ss now n s f z lv us :=
  ⟨(c.block _ (Array.getElem?_eq_some_iff.1 h.kz).1).trans h.kz, h.fr.trans (c.mono h.fr.size), h.hz, h.bag.below c⟩
theorem AQ.at (h : AQ w0 w r ss now n s f z lv us) : w.cell? ⟨z, 0, none⟩ = some (.int .i64 now) ∧ w.cell? ⟨z, 1, none⟩ = some (.string n) ∧ w.cell? ⟨z, 2, none⟩ = some s ∧ w.cell? ⟨z, 3, none⟩ = some f := by
  refine ⟨?_, ?_, ?_, ?_⟩ <;> (rw [cell_of_row w z _ _ _ _ h.kz]; rfl)
theorem AQ.lt (h : AQ w0 w r ss now n s f z lv us) : z + 1 ≤ w.heap.size := (Array.getElem?_eq_some_iff.1 h.kz).1
/-- A tier's list is made, then put behind the others. -/
theorem AQ.more (h : AQ w0 w r ss now n s f z lv us) {w1 w2 : World} {u v' : Value} (b : Below w.heap.size w w1) (o : TROwn w1 w.heap.size u (vT r (us.length : Int) ss)) (b2 : Below w1.heap.size w1 w2)
    (ho : w'.ownsRow (z + 1) 49 1 v' (us.length + 1) (us ++ [u])) (g : w2.grownBy w' lv.ownBlock) (hw : v'.ownBlock = lv.ownBlock ∨ ∃ k, v'.ownBlock = some k ∧ w2.heap.size ≤ k) : AQ w0 w' r ss now n s f z v' (us ++ [u]) := by
  have h1 := (h.next b).next b2
  have ob := h1.bag.own _ (List.mem_cons_self ..)
  have hge : ∀ k, lv.ownBlock = some k → z + 1 ≤ k := fun k hk => own_ge ob hk
  have l1 := h1.lt
  refine ⟨(g.block z l1 (fun e => by have := hge z e.symm; omega)).trans h1.kz, h1.fr.grown g h1.fr.size (fun k hk => by have := hge k hk; have := h.hz; omega), h.hz, ?_⟩
  have b3 : Bag (z + 1) w2 (vRow u (vT r (us.length : Int) ss) :: oRow lv us :: vRows r ss us) [] := (h.bag.new b o h.lt).below b2
  have b4 := (b3.perm (List.Perm.swap _ _ _)).grow g ho hw
  refine b4.perm ?_
  rw [vRows_snoc]
  refine (List.Perm.cons _ (List.perm_append_singleton _ _).symm).trans (List.Perm.of_eq ?_)
  simp [oRow]
end

set_option maxRecDepth 20000 in
set_option maxHeartbeats 3200000 in
theorem viewAll_any (S : ReachSpec) (rv v : Value) (r : RchL) (ss : List SamL) (w : World) (hS : S.Ok w) (fit : RFit r) (ok : VOk r) (hr : RchRow w rv r) (hN : r.2.1.2.length ≤ 1000) (hv : CellRow w v ss.length (flat aenc ss)) (hl : ss.length ≤ 1000) (fs : ∀ s ∈ ss, SFit s) :
    Calls Tryz.prog 10 #[rv, v] w fun e w' => ∃ u us, e = .returned u ∧ us.length = r.2.1.2.length ∧ Bag w.heap.size w' (oRow u us :: vRows r ss us) [] ∧ Below w.heap.size w w' := by
  have hr0 := hr
  obtain ⟨s, f, rfl, hs, -⟩ := hr
  unfold rVal at hr0 ⊢
  obtain ⟨now, hnow⟩ : ∃ x, r.1 = x := ⟨_, rfl⟩
  obtain ⟨n, hnn⟩ : ∃ x, r.2.1.1 = x := ⟨_, rfl⟩
  obtain ⟨N, hNN⟩ : ∃ N, r.2.1.2.length = N := ⟨_, rfl⟩
  rw [hnow, hnn] at hr0 ⊢
  obtain ⟨sa, sc, rfl, -⟩ := hs
  rw [hNN] at hr0 hN ⊢
  obtain ⟨i0, hi, hz0, hz1, hz2⟩ := info_parts (show (Tryz.prog.info? 49).map (fun i => (i.zero, i.size, i.bytes)) = some (some (.slice none 0 0), 1, 24) by kernel_rfl)
  have HI := Hid.of hi
  have HZ0 := Hid.of hz0
  have HZ1 := Hid.of hz1
  have HZ2 := Hid.of hz2
  clear hi hz0 hz1 hz2
  obtain ⟨z, hz⟩ : ∃ z, w.heap.size = z := ⟨_, rfl⟩
  obtain ⟨w1, hw1⟩ : ∃ w1, w.alloc (.cells #[.int .i64 now, .string n, .slice sa N sc, f] 46) = w1 := ⟨_, rfl⟩
  have b1 : Below w.heap.size w w1 := by rw [← hw1]; exact (Below.refl _ _).alloc (Nat.le_refl _) _
  have q1 : AQ w w1 r ss now n (.slice sa N sc) f z (.slice none 0 0) [] :=
    ⟨by rw [← hw1, ← hz]; exact Go.heap_alloc_new _ _, b1, hz, ⟨fun x hx => (by
      rcases List.mem_cons.1 hx with rfl | hx
      · exact World.ownsRow_nil _ _ _ 1
      · cases hx), List.pairwise_singleton _ _, fun _ h => absurd h List.not_mem_nil, fun _ h => absurd h List.not_mem_nil⟩⟩
  have HW := Hid.of hw1
  have HZ := Hid.of hz
  have Q1 := Hid.of q1
  have FIT := Hid.of fit
  have OK := Hid.of ok
  have HV := Hid.of hv
  have FS := Hid.of fs
  have HL := Hid.of hl
  have HS := Hid.of hS
  have HR := Hid.of hr0
  have hN9 : (N : Int) ≤ 1000 := by omega
  clear hw1 hz b1 q1 fit ok hS hr0 fs hl hnow hnn
  obtain ⟨va, vc, rfl, -⟩ := hv
  obtain ⟨c0, c1, c2, c3⟩ := Q1.out.at
  go_enter Tryz.func10, Tryz.ntmps10
  go_upto_region 2 with fail
  rw [HW.out, HZ.out]
  clear HW
  go_wp2_with fail
  clear c0 c1 c2 c3
  go_loopg [5, 6, 11] N (fun kx lv x6 iv wr => ∃ (us : List Value), iv = .int .i64 us.length ∧ us.length ≤ N ∧ N - us.length ≤ kx ∧ Hid (AQ w wr r ss now n (.slice sa N sc) f z lv us))
  case atStart => exact ⟨[], rfl, Nat.zero_le _, Nat.le_refl _, Q1⟩
  case round =>
    clear Q1
    obtain ⟨us, rfl, hjN, hjx, Q⟩ := hrel
    obtain ⟨j, hj⟩ : ∃ j, us.length = j := ⟨_, rfl⟩
    have HJ := Hid.of hj
    rw [hj] at hjN hjx ⊢
    have j0 : (0 : Int) ≤ (j : Int) := Int.natCast_nonneg _
    clear hj
    by_cases hlt : (j : Int) < (N : Int)
    · obtain ⟨c0, c1, c2, c3⟩ := Q.out.at
      have hti := viewTier_any S _ _ r (j : Int) ss wr (S.kept HS.out Q.out.fr) FIT.out OK.out (HR.out.kept Q.out.fr) (by unfold In64; omega) (HV.out.kept Q.out.fr) HL.out FS.out
      go_wp2_with fail
      refine hti.mono ?_
      rintro e w3 ⟨u, rfl, o3, b3⟩
      have O3 := Hid.of o3
      obtain ⟨ua, uc, hu, -⟩ := own_one o3
      obtain ⟨L, hL⟩ : ∃ L, (vT r (j : Int) ss).length = L := ⟨_, rfl⟩
      rw [hL] at hu
      clear hL
      have B3 := Hid.of b3
      have OB : Hid (w3.ownsRow (z + 1) 49 1 u5 j us) := Hid.of (by
        have h := (Q.out.next b3).bag.own _ (List.mem_cons_self ..)
        simp only at h
        rw [HJ.out] at h
        exact h)
      have hsz : z + 1 ≤ w3.heap.size := (Q.out.next b3).lt
      subst hu
      clear hti o3 b3 c0 c1 c2 c3
      go_wp2_with (at_builtin; go_loud (refine append_keep_law rfl _ _ 37 rfl (z + 1) 49 i0 (.slice none 0 0) 1 24 Tryz.underlying37 HI.out HZ0.out HZ1.out HZ2.out rfl (by decide) _ j _ rfl (OB.out.alloc _) w3.heap.size 0 1 1 [.slice ua L uc] rfl (one_cell w3 _ _) rfl (by intro y hy; rw [List.mem_singleton.1 hy]; rfl) (by unfold maxLen; omega) (by omega) (by simp; omega) ?_; intro v5 w5 o5 g5 k5 m5))
      have Q5 : Hid (AQ w w5 r ss now n (.slice sa N sc) f z v5 (us ++ [.slice ua L uc])) := Hid.of (Q.out.more B3.out (by rw [HJ.out]; exact O3.out) ((Below.refl _ _).alloc (Nat.le_refl _) _) (by rw [HJ.out]; exact o5) g5 m5)
      have L5 : Hid ((us ++ [(.slice ua L uc : Value)]).length = j + 1) := Hid.of (by rw [List.length_append, HJ.out]; rfl)
      clear o5 g5 k5 m5 Q O3 B3 OB
      go_wp2
      go_roundg (N - (j + 1))
      case measure => omega
      case rel => exact ⟨us ++ [.slice ua L uc], by rw [L5.out]; go_num, by rw [L5.out]; omega, by rw [L5.out]; exact Nat.le_refl _, Q5⟩
    · obtain rfl : j = N := by omega
      go_wp2
      go_ret
      exact ⟨_, rfl, us, HJ.out, Q.out.bag.mono (by have := HZ.out; omega), Q.out.fr⟩

end Go.Proofs.YtdchjcidfaencaaGreat

namespace Go.Proofs.YtdchjcidfaencaaGreat
open Go.RowKit Go.Lib

set_option maxRecDepth 20000 in
set_option maxHeartbeats 800000 in
theorem vMayAsk_any (n : ByteArray) (f t : Int) (w : World) (hn : n.size ≤ maxLen) :
    Calls Tryz.prog 34 #[.string n, .int .i64 f, .int .i64 t] w fun e w' => e = .returned (.bool (decide (iAskE n f t = 0))) ∧ Below w.heap.size w w' := by
  obtain ⟨w1, hw1⟩ : ∃ w1, w.alloc (.cells #[.string n] 9) = w1 := ⟨_, rfl⟩
  obtain ⟨g, hg⟩ : ∃ g, w.heap.size = g := ⟨_, rfl⟩
  have b1 : Below w.heap.size w w1 := by rw [← hw1]; exact (Below.refl _ _).alloc (Nat.le_refl _) _
  have hrow : CellRow w1 (.slice (some ⟨g, 0, none⟩) 1 1) [n].length ([n].map Value.string) := by
    rw [← hw1, ← hg]
    exact ⟨_, _, rfl, .inr ⟨_, 0, rfl, by simp, one_cell w _ _⟩⟩
  have hval := valid_any _ [n] w1 hrow (by simp) (fun s hs => by rw [List.mem_singleton.1 hs]; exact hn)
  have HW := Hid.of hw1
  have HG := Hid.of hg
  have B1 := Hid.of b1
  obtain ⟨a, ha⟩ : ∃ a, nOk n = a := ⟨_, rfl⟩
  rw [show ([n].all nOk) = a by simp [ha]] at hval
  obtain ⟨z, hz⟩ : ∃ z, decide (iAskE n f t = 0) = z := ⟨_, rfl⟩
  rw [hz]
  unfold iAskE at hz
  rw [ha] at hz
  clear b1 hrow hn hw1 hg ha
  cases a
  · obtain rfl : false = z := by rw [← hz]; simp
    clear hz
    go_enter Tryz.func34, Tryz.ntmps34
    go_wp2_with fail
    rw [HW.out, HG.out]
    refine hval.mono ?_
    rintro e w2 ⟨rfl, q, rfl⟩
    go_wp2
    go_ret
    exact ⟨rfl, below_drewN B1.out q⟩
  · by_cases h1 : 0 ≤ f
    · by_cases h2 : f ≤ t
      · obtain rfl : true = z := by rw [← hz]; simp; omega
        have k1 : f ≥ 0 := h1
        have k2 : t ≥ f := h2
        clear hz h1 h2
        go_enter Tryz.func34, Tryz.ntmps34
        go_wp2_with fail
        rw [HW.out, HG.out]
        refine hval.mono ?_
        rintro e w2 ⟨rfl, q, rfl⟩
        go_wp2
        go_ret
        exact ⟨rfl, below_drewN B1.out q⟩
      · obtain rfl : false = z := by rw [← hz]; simp; omega
        have k1 : f ≥ 0 := h1
        have K2 : Hid (decide (f ≤ t) = false) := Hid.of (decide_eq_false h2)
        clear hz h1 h2
        go_enter Tryz.func34, Tryz.ntmps34
        go_wp2_with fail
        rw [HW.out, HG.out]
        refine hval.mono ?_
        rintro e w2 ⟨rfl, q, rfl⟩
        go_wp2
        go_ret
        exact ⟨congrArg (fun b => Ending.returned (Value.bool b)) K2.out, below_drewN B1.out q⟩
    · obtain rfl : false = z := by rw [← hz]; simp; omega
      have k1 : ¬ f ≥ 0 := h1
      clear hz h1
      go_enter Tryz.func34, Tryz.ntmps34
      go_wp2_with fail
      rw [HW.out, HG.out]
      refine hval.mono ?_
      rintro e w2 ⟨rfl, q, rfl⟩
      go_wp2
      go_ret
      exact ⟨rfl, below_drewN B1.out q⟩

theorem samV_info : (Tryz.prog.info? 76).map (fun i => (i.zero, i.size, i.bytes)) = some (some (.agg #[.string ⟨#[]⟩, .int .i64 0, .int .i64 0]), 3, 32) := by kernel_rfl

/-- The samples of a series. -/
def vOf (n : ByteArray) (ss : List SamL) : List SamL := ss.filter fun s => decide (s.1 = n)

theorem vOf_next {n : ByteArray} {ss : List SamL} {j : Nat} {x : SamL} (hx : ss[j]? = some x) : vOf n (ss.take (j + 1)) = if x.1 = n then vOf n (ss.take j) ++ [x] else vOf n (ss.take j) := by
  unfold vOf
  rw [vtake_next hx, List.filter_append, List.filter_cons, List.filter_nil]
  by_cases h : x.1 = n
  · rw [if_pos h, if_pos (decide_eq_true h)]
  · rw [if_neg h, if_neg (by simpa using h), List.append_nil]

theorem vOf_len (n : ByteArray) (ss : List SamL) : (vOf n ss).length ≤ ss.length := List.length_filter_le _ _

set_option maxRecDepth 20000 in
set_option maxHeartbeats 3200000 in
theorem vOf_any (n : ByteArray) (v : Value) (ss : List SamL) (w : World) (hv : CellRow w v ss.length (flat aenc ss)) (hl : ss.length ≤ 1000) :
    Calls Tryz.prog 36 #[.string n, v] w fun e w' => ∃ u, e = .returned u ∧ w'.ownsRow w.heap.size 76 3 u (vOf n ss).length (flat aenc (vOf n ss)) ∧ Below w.heap.size w w' := by
  have HV := Hid.of hv
  obtain ⟨va, vc, rfl, -⟩ := hv
  obtain ⟨Z, hZ⟩ : ∃ Z, ss.length = Z := ⟨_, rfl⟩
  rw [hZ] at HV hl ⊢
  have HL := Hid.of hZ
  obtain ⟨i0, hi, hz0, hz1, hz2⟩ := info_parts samV_info
  have HI := Hid.of hi
  have HZ0 := Hid.of hz0
  have HZ1 := Hid.of hz1
  have HZ2 := Hid.of hz2
  clear hi hz0 hz1 hz2 hZ
  have hZ9 : (Z : Int) ≤ 1000 := by omega
  go_enter Tryz.func36, Tryz.ntmps36
  go_wp2_with fail
  go_loopg [5, 7, 10] Z (fun kx lv x7 iv wr => ∃ j : Nat, iv = .int .i64 j ∧ j ≤ Z ∧ Z - j ≤ kx ∧ Hid (wr.ownsRow w.heap.size 76 3 lv (vOf n (ss.take j)).length (flat aenc (vOf n (ss.take j)))) ∧ Hid (Below w.heap.size w wr))
  case atStart => exact ⟨0, rfl, Nat.zero_le _, Nat.le_refl _, Hid.of (World.ownsRow_nil _ _ _ _), Hid.of (Below.refl _ _)⟩
  case round =>
    obtain ⟨j, rfl, hjZ, hjx, O, B⟩ := hrel
    have j0 : (0 : Int) ≤ (j : Int) := Int.natCast_nonneg _
    by_cases hlt : (j : Int) < (Z : Int)
    · obtain ⟨x, hx⟩ : ∃ x, ss[j]? = some x := ⟨_, List.getElem?_eq_getElem (by have := HL.out; omega)⟩
      obtain ⟨ab, ao, hva, al, a0, a1, a2⟩ := a_at (HV.out.kept B.out) j x hx
      subst hva
      have NX := Hid.of (vOf_next (n := n) hx)
      have LJ : Hid ((vOf n (ss.take j)).length ≤ 1000) := Hid.of (Nat.le_trans (vOf_len _ _) (by rw [List.length_take]; omega))
      clear hx
      obtain ⟨sn, st, sx⟩ := x
      simp only at a0 a1 a2
      go_upto_region 5 with fail
      obtain ⟨q, hq⟩ : ∃ q, wr.heap.size = q := ⟨_, rfl⟩
      obtain ⟨w2, hw2⟩ : ∃ w2, wr.alloc (.cells #[.string sn, .int .i64 st, .int .i64 sx] 76) = w2 := ⟨_, rfl⟩
      have b2 : Below wr.heap.size wr w2 := by rw [← hw2]; exact (Below.refl _ _).alloc (Nat.le_refl _) _
      have k2 : w2.heap[q]? = some (.cells #[.string sn, .int .i64 st, .int .i64 sx] 76 (0, 0)) := by rw [← hw2, ← hq]; exact Go.heap_alloc_new _ _
      have O2 := Hid.of ((Step.of_below (F := fun _ => False) b2).own O.out (fun _ _ c => c))
      have B2 := Hid.of (B.out.trans (b2.mono B.out.size))
      have e0 : w2.cell? ⟨q, 0, none⟩ = some (.string sn) := by simp [World.cell?, k2]
      have e1 : w2.cell? ⟨q, 1, none⟩ = some (.int .i64 st) := by simp [World.cell?, k2]
      have e2 : w2.cell? ⟨q, 2, none⟩ = some (.int .i64 sx) := by simp [World.cell?, k2]
      rw [hw2, hq]
      clear hw2 hq b2 k2 O B a0 a1 a2 al
      by_cases hs : sn = n
      · have hb : (sn.toList == n.toList) = true := by rw [hs]; exact beq_self_eq_true _
        have N1 : Hid (vOf n (ss.take (j + 1)) = vOf n (ss.take j) ++ [(sn, st, sx)]) := Hid.of (by rw [NX.out, if_pos hs])
        clear hs
        obtain ⟨J, hJ⟩ : ∃ J, vOf n (ss.take j) = J := ⟨_, rfl⟩
        rw [hJ] at O2 N1 LJ
        clear hJ NX
        have hwl : w.heap.size ≤ w2.heap.size := B2.out.size
        go_wp2_with (at_builtin; refine append_keep_law rfl _ _ 26 rfl w.heap.size 76 i0 _ 3 32 Tryz.underlying26 HI.out HZ0.out HZ1.out HZ2.out rfl (by decide) _ J.length _ rfl (O2.out.alloc _) w2.heap.size 0 1 1 [.string sn, .int .i64 st, .int .i64 sx] rfl (new_cells w2 #[.string sn, .int .i64 st, .int .i64 sx] _) rfl (aenc_one (sn, st, sx)) (by have := LJ.out; unfold maxLen; omega) (by have := LJ.out; omega) (by simp; omega) ?_; intro v5 w5 o5 g5 k5 m5)
        have O5 : Hid (w5.ownsRow w.heap.size 76 3 v5 (J ++ [(sn, st, sx)]).length (flat aenc (J ++ [(sn, st, sx)]))) := Hid.of (by rw [List.length_append, flat_append, flat_one]; exact o5)
        have B5 : Hid (Below w.heap.size w w5) := Hid.of ((B2.out.trans (((Below.refl w2.heap.size w2).alloc (Nat.le_refl _) _).mono B2.out.size)).grown g5 (by simp; omega) (fun k hk => own_ge O2.out hk))
        clear o5 g5 k5 m5 O2 B2
        go_wp2
        go_roundg (Z - (j + 1))
        case measure => omega
        case rel => exact ⟨j + 1, by go_num, by omega, Nat.le_refl _, by rw [N1.out]; exact O5, B5⟩
      · have hb : (sn.toList == n.toList) = false := by
          rw [beq_eq_false_iff_ne]
          exact fun c => hs (toList_eq c)
        have N1 : Hid (vOf n (ss.take (j + 1)) = vOf n (ss.take j)) := Hid.of (by rw [NX.out, if_neg hs])
        clear hs NX
        go_wp2
        go_roundg (Z - (j + 1))
        case measure => omega
        case rel => exact ⟨j + 1, by go_num, by omega, Nat.le_refl _, by rw [N1.out]; exact O2, B2⟩
    · obtain rfl : j = Z := by omega
      rw [List.take_of_length_le (Nat.le_of_eq HL.out)] at O
      obtain ⟨ua, uc, rfl, -⟩ := own_one O.out
      go_wp2
      go_ret
      exact ⟨_, rfl, O.out, B.out⟩

end Go.Proofs.YtdchjcidfaencaaGreat

namespace Go.Proofs.YtdchjcidfaencaaGreat
open Go.RowKit Go.Lib

/-- How many samples stand in a tier. -/
def vN (r : RchL) (i : Int) (ss : List SamL) : Nat := (ss.filter (vHas r i)).length
def vNs (r : RchL) (ss : List SamL) (k : Nat) : List Int := (List.range k).map fun i : Nat => ((vN r (i : Int) ss : Nat) : Int)

theorem vNs_succ (r : RchL) (ss : List SamL) (k : Nat) : vNs r ss (k + 1) = vNs r ss k ++ [((vN r (k : Int) ss : Nat) : Int)] := by
  unfold vNs
  rw [List.range_succ, List.map_append]
  rfl
theorem vNs_len (r : RchL) (ss : List SamL) (k : Nat) : (vNs r ss k).length = k := by unfold vNs; rw [List.length_map, List.length_range]
theorem vN_next {r : RchL} {i : Int} {ss : List SamL} {j : Nat} {x : SamL} (hx : ss[j]? = some x) : vN r i (ss.take (j + 1)) = vN r i (ss.take j) + (if vHas r i x = true then 1 else 0) := by
  unfold vN
  rw [vtake_next hx, List.filter_append, List.length_append, List.filter_cons, List.filter_nil]
  split <;> rfl
theorem vN_le (r : RchL) (i : Int) (ss : List SamL) : vN r i ss ≤ ss.length := List.length_filter_le _ _

structure CQ (w0 w : World) (r : RchL) (ss : List SamL) (now : Int) (n : ByteArray) (s f : Value) (z : Nat) (lv : Value) (k : Nat) : Prop where
  kz : w.heap[z]? = some (.cells #[.int .i64 now, .string n, s, f] 46 (0, 0))
  fr : Below w0.heap.size w0 w
  hz : w0.heap.size = z
  own : w.ownsRow (z + 1) 3 1 lv k ((vNs r ss k).map (Value.int .i64))

section
variable {w0 w w' : World} {r : RchL} {ss : List SamL} {now : Int} {n : ByteArray} {s f : Value} {z : Nat} {lv : Value} {k : Nat}
theorem CQ.next (h : CQ w0 w r ss now n s f z lv k) (c : Below w.heap.size w w') : CQ w0 w' r ss now n s f z lv k :=
  ⟨(c.block _ (Array.getElem?_eq_some_iff.1 h.kz).1).trans h.kz, h.fr.trans (c.mono h.fr.size), h.hz, (Step.of_below (F := fun _ => False) c).own h.own (fun _ _ c => c)⟩
theorem CQ.at (h : CQ w0 w r ss now n s f z lv k) : w.cell? ⟨z, 0, none⟩ = some (.int .i64 now) ∧ w.cell? ⟨z, 1, none⟩ = some (.string n) ∧ w.cell? ⟨z, 2, none⟩ = some s ∧ w.cell? ⟨z, 3, none⟩ = some f := by
  refine ⟨?_, ?_, ?_, ?_⟩ <;> (rw [cell_of_row w z _ _ _ _ h.kz]; rfl)
theorem CQ.lt (h : CQ w0 w r ss now n s f z lv k) : z + 1 ≤ w.heap.size := (Array.getElem?_eq_some_iff.1 h.kz).1
theorem CQ.more (h : CQ w0 w r ss now n s f z lv k) {w1 : World} {v' : Value} (b : Below w.heap.size w w1)
    (ho : w'.ownsRow (z + 1) 3 1 v' (k + 1) ((vNs r ss k).map (Value.int .i64) ++ [.int .i64 (vN r (k : Int) ss : Nat)])) (g : w1.grownBy w' lv.ownBlock) : CQ w0 w' r ss now n s f z v' (k + 1) := by
  have h1 := h.next b
  have hge : ∀ k, lv.ownBlock = some k → z + 1 ≤ k := fun k hk => own_ge h1.own hk
  refine ⟨(g.block z h1.lt (fun e => by have := hge z e.symm; omega)).trans h1.kz, h1.fr.grown g h1.fr.size (fun k hk => by have := hge k hk; have := h.hz; omega), h.hz, ?_⟩
  rw [vNs_succ, List.map_append]
  exact ho
end

set_option maxRecDepth 20000 in
set_option maxHeartbeats 6400000 in
theorem viewCount_any (S : ReachSpec) (rv v : Value) (r : RchL) (ss : List SamL) (w : World) (hS : S.Ok w) (fit : RFit r) (hr : RchRow w rv r) (hN : r.2.1.2.length ≤ 1000) (hv : CellRow w v ss.length (flat aenc ss)) (hl : ss.length ≤ 1000) (fs : ∀ s ∈ ss, SFit s) :
    Calls Tryz.prog 11 #[rv, v] w fun e w' => ∃ u, e = .returned u ∧ w'.ownsRow w.heap.size 3 1 u r.2.1.2.length ((vNs r ss r.2.1.2.length).map (Value.int .i64)) ∧ Below w.heap.size w w' := by
  have hr0 := hr
  obtain ⟨s, f, rfl, hs, -⟩ := hr
  unfold rVal at hr0 ⊢
  obtain ⟨now, hnow⟩ : ∃ x, r.1 = x := ⟨_, rfl⟩
  obtain ⟨n, hnn⟩ : ∃ x, r.2.1.1 = x := ⟨_, rfl⟩
  obtain ⟨N, hNN⟩ : ∃ N, r.2.1.2.length = N := ⟨_, rfl⟩
  rw [hnow, hnn] at hr0 ⊢
  obtain ⟨sa, sc, rfl, -⟩ := hs
  rw [hNN] at hr0 hN ⊢
  obtain ⟨i0, hi, hz0, hz1, hz2⟩ := info_parts (show (Tryz.prog.info? 3).map (fun i => (i.zero, i.size, i.bytes)) = some (some (.int .i64 0), 1, 8) by kernel_rfl)
  have HI := Hid.of hi
  have HZ0 := Hid.of hz0
  have HZ1 := Hid.of hz1
  have HZ2 := Hid.of hz2
  clear hi hz0 hz1 hz2
  obtain ⟨z, hz⟩ : ∃ z, w.heap.size = z := ⟨_, rfl⟩
  obtain ⟨w1, hw1⟩ : ∃ w1, w.alloc (.cells #[.int .i64 now, .string n, .slice sa N sc, f] 46) = w1 := ⟨_, rfl⟩
  have b1 : Below w.heap.size w w1 := by rw [← hw1]; exact (Below.refl _ _).alloc (Nat.le_refl _) _
  have q1 : CQ w w1 r ss now n (.slice sa N sc) f z (.slice none 0 0) 0 :=
    ⟨by rw [← hw1, ← hz]; exact Go.heap_alloc_new _ _, b1, hz, World.ownsRow_nil _ _ _ 1⟩
  have HW := Hid.of hw1
  have HZ := Hid.of hz
  have Q1 := Hid.of q1
  have FIT := Hid.of fit
  have HV := Hid.of hv
  have FS := Hid.of fs
  have HS := Hid.of hS
  have HR := Hid.of hr0
  have hN9 : (N : Int) ≤ 1000 := by omega
  clear hw1 hz b1 q1 fit hS hr0 fs hnow hnn
  obtain ⟨va, vc, rfl, -⟩ := hv
  obtain ⟨Z, hZ⟩ : ∃ Z, ss.length = Z := ⟨_, rfl⟩
  rw [hZ] at HV hl ⊢
  have HL := Hid.of hZ
  have hZ9 : (Z : Int) ≤ 1000 := by omega
  clear hZ
  obtain ⟨c0, c1, c2, c3⟩ := Q1.out.at
  go_enter Tryz.func11, Tryz.ntmps11
  go_upto_region 2 with fail
  rw [HW.out, HZ.out]
  clear HW
  go_wp2_with fail
  clear c0 c1 c2 c3
  go_loopg [5, 6, 7, 9, 10, 11, 16] N (fun kx lv x6 x7 x9 x10 x11 iv wr => ∃ i : Nat, iv = .int .i64 i ∧ i ≤ N ∧ N - i ≤ kx ∧ Hid (CQ w wr r ss now n (.slice sa N sc) f z lv i))
  case atStart => exact ⟨0, rfl, Nat.zero_le _, Nat.le_refl _, Q1⟩
  case round =>
    clear Q1
    obtain ⟨i, rfl, hiN, hix, Q⟩ := hrel
    have i0' : (0 : Int) ≤ (i : Int) := Int.natCast_nonneg _
    by_cases hlt : (i : Int) < (N : Int)
    · have HI64 : Hid (In64 (i : Int)) := Hid.of (by unfold In64; omega)
      go_wp2_with fail
      go_loopg [7, 9, 10, 11, 21] Z (fun kx nv x9 x10 x11 jv wq => ∃ j k : Nat, jv = .int .i64 j ∧ nv = .int .i64 k ∧ j ≤ Z ∧ k ≤ j ∧ Z - j ≤ kx ∧ Hid (vN r (i : Int) (ss.take j) = k) ∧ Hid (CQ w wq r ss now n (.slice sa N sc) f z u5 i))
      case atStart => exact ⟨0, 0, rfl, rfl, Nat.zero_le _, Nat.le_refl _, Nat.le_refl _, Hid.of rfl, Q⟩
      case round =>
        clear Q
        obtain ⟨j, k, rfl, rfl, hjZ, hkj, hjx, HK, Q⟩ := hrel
        have j0 : (0 : Int) ≤ (j : Int) := Int.natCast_nonneg _
        have k0 : (0 : Int) ≤ (k : Int) := Int.natCast_nonneg _
        by_cases hlt2 : (j : Int) < (Z : Int)
        · obtain ⟨x, hx⟩ : ∃ x, ss[j]? = some x := ⟨_, List.getElem?_eq_getElem (by have := HL.out; omega)⟩
          have FX := Hid.of (FS.out x (List.mem_of_getElem? hx))
          have NX := Hid.of (vN_next (r := r) (i := (i : Int)) hx)
          obtain ⟨ab, ao, hva, al, a0, a1, a2⟩ := a_at (HV.out.kept Q.out.fr) j x hx
          subst hva
          clear hx
          obtain ⟨sn, st, sx⟩ := x
          simp only at a0 a1 a2
          go_upto_region 9 with fail
          obtain ⟨q, hq⟩ : ∃ q, wr.heap.size = q := ⟨_, rfl⟩
          obtain ⟨w2, hw2⟩ : ∃ w2, wr.alloc (.cells #[.string sn, .int .i64 st, .int .i64 sx] 76) = w2 := ⟨_, rfl⟩
          have b2 : Below wr.heap.size wr w2 := by rw [← hw2]; exact (Below.refl _ _).alloc (Nat.le_refl _) _
          have k2 : w2.heap[q]? = some (.cells #[.string sn, .int .i64 st, .int .i64 sx] 76 (0, 0)) := by rw [← hw2, ← hq]; exact Go.heap_alloc_new _ _
          have Q2 := Hid.of (Q.out.next b2)
          have e0 : w2.cell? ⟨q, 0, none⟩ = some (.string sn) := by simp [World.cell?, k2]
          have e1 : w2.cell? ⟨q, 1, none⟩ = some (.int .i64 st) := by simp [World.cell?, k2]
          have e2 : w2.cell? ⟨q, 2, none⟩ = some (.int .i64 sx) := by simp [World.cell?, k2]
          rw [hw2, hq]
          clear hw2 hq b2 k2 Q a0 a1 a2 al
          obtain ⟨c0, c1, c2, c3⟩ := Q2.out.at
          have hpl := vplace_any S _ r (i : Int) sn st sx w2 (S.kept HS.out Q2.out.fr) FIT.out (HR.out.kept Q2.out.fr) HI64.out FX.out.1 FX.out.2.1
          obtain ⟨m, hm⟩ : ∃ m, vHas r (i : Int) (sn, st, sx) = m := ⟨_, rfl⟩
          rw [hm] at hpl NX
          rw [HK.out] at NX
          clear hm
          go_wp2_with fail
          refine hpl.mono ?_
          rintro e w3 ⟨kk, rfl, -, b3⟩
          have Q3 := Hid.of (Q2.out.next b3)
          clear b3 hpl c0 c1 c2 c3 e0 e1 e2 Q2
          have b4 : Below w3.heap.size w3 (w3.alloc (.cells #[.string kk.1, .int .i64 kk.2] 82)) := (Below.refl _ _).alloc (Nat.le_refl _) _
          have Q4 := Hid.of (Q3.out.next b4)
          clear b4 Q3
          cases m
          · have N1 : Hid (vN r (i : Int) (ss.take (j + 1)) = k) := Hid.of (by rw [NX.out, if_neg Bool.false_ne_true]; rfl)
            clear NX
            go_wp2_with fail
            go_roundg (Z - (j + 1))
            case measure => omega
            case rel => exact ⟨j + 1, k, by go_num, rfl, by omega, by omega, Nat.le_refl _, N1, Q4⟩
          · have N1 : Hid (vN r (i : Int) (ss.take (j + 1)) = k + 1) := Hid.of (by rw [NX.out, if_pos rfl])
            clear NX
            go_wp2_with fail
            go_roundg (Z - (j + 1))
            case measure => omega
            case rel => exact ⟨j + 1, k + 1, by go_num, by go_num, by omega, by omega, Nat.le_refl _, N1, Q4⟩
        · obtain rfl : j = Z := by omega
          rw [List.take_of_length_le (Nat.le_of_eq HL.out)] at HK
          have OB := Hid.of Q.out.own
          have hsz := Q.out.lt
          go_wp2_with (at_builtin; refine append_keep_law rfl _ _ 25 rfl (z + 1) 3 i0 (.int .i64 0) 1 8 Tryz.underlying25 HI.out HZ0.out HZ1.out HZ2.out rfl (by decide) _ i _ rfl (OB.out.alloc _) wr.heap.size 0 1 1 [.int .i64 k] rfl (one_cell wr _ _) rfl (by intro y hy; rw [List.mem_singleton.1 hy]; rfl) (by unfold maxLen; omega) (by omega) (by simp; omega) ?_; intro v5 w5 o5 g5 k5 m5)
          have Q5 : Hid (CQ w w5 r ss now n (.slice sa N sc) f z v5 (i + 1)) := Hid.of (Q.out.more ((Below.refl _ _).alloc (Nat.le_refl _) _) (by rw [HK.out]; exact o5) g5)
          clear o5 g5 k5 m5 OB Q
          go_wp2
          go_roundg (N - (i + 1))
          case measure => omega
          case rel => exact ⟨i + 1, by go_num, by omega, Nat.le_refl _, Q5⟩
    · obtain rfl : i = N := by omega
      go_wp2
      go_ret
      exact ⟨_, rfl, own_mono Q.out.own (by have := HZ.out; omega), Q.out.fr⟩

end Go.Proofs.YtdchjcidfaencaaGreat

namespace Go.Proofs.YtdchjcidfaencaaGreat
open Go.RowKit Go.Lib

/-- The counts, put together. -/
def tCnt : List TRec → Int
  | [] => 0
  | x :: l => x.a.c + tCnt l

theorem tCnt_nonneg {l : List TRec} (h : ∀ x ∈ l, 0 ≤ x.a.c) : 0 ≤ tCnt l := by
  induction l with
  | nil => exact Int.le_refl _
  | cons x l ih =>
    have h1 := h x (List.mem_cons_self ..)
    have h2 := ih (fun y hy => h y (List.mem_cons_of_mem _ hy))
    show 0 ≤ x.a.c + tCnt l
    omega

theorem tCnt_ins {l : List TRec} {r : TRec} (h0 : ∀ x ∈ l, 0 ≤ x.a.c) (h9 : tCnt l + r.a.c ≤ 4611686018427387904) : tCnt (tIns l r) = tCnt l + r.a.c := by
  induction l with
  | nil => show r.a.c + 0 = 0 + r.a.c; omega
  | cons x l ih =>
    have hx := h0 x (List.mem_cons_self ..)
    have hl : ∀ y ∈ l, 0 ≤ y.a.c := fun y hy => h0 y (List.mem_cons_of_mem _ hy)
    have hn := tCnt_nonneg hl
    have e : tCnt (x :: l) = x.a.c + tCnt l := rfl
    rw [e] at h9 ⊢
    unfold tIns
    split
    · show x.a.c + tCnt (tIns l r) = _
      rw [ih hl (by omega)]
      omega
    · split
      · show (agBoth x.a r.a).c + tCnt l = _
        have e2 : (agBoth x.a r.a).c = min (x.a.c + r.a.c) 4611686018427387904 := rfl
        rw [e2]
        omega
      · show r.a.c + (x.a.c + tCnt l) = _
        omega

theorem vT_cnt {r : RchL} {i : Int} {ss : List SamL} (hr : VOk r) (hs : ∀ s ∈ ss, SFit s) (hl : ss.length ≤ 1000) : tCnt (vT r i ss) = ((vN r i ss : Nat) : Int) := by
  have key : ∀ k, tCnt (vT r i (ss.take k)) = ((vN r i (ss.take k) : Nat) : Int) := by
    intro k
    induction k with
    | zero =>
      rw [List.take_zero, vT_nil]
      rfl
    | succ k ih =>
      by_cases hk : k < ss.length
      · have hx : ss[k]? = some ss[k] := List.getElem?_eq_getElem hk
        rw [vN_next hx, List.take_succ_eq_append_getElem hk, vT_next hr (hs _ (List.getElem_mem hk))]
        have g := vT_good (i := i) hr (fun s h => hs s (List.mem_of_mem_take (i := k) h))
        have hc : ∀ x ∈ vT r i (ss.take k), 0 ≤ x.a.c := fun x hx => by
          have h := ((agOk_iff _).1 (g.fit x hx).2.2.2)
          omega
        have hn := vN_le r i (ss.take k)
        have hn2 : (ss.take k).length ≤ ss.length := List.length_take_le' _ _
        by_cases c : vHas r i ss[k] = true
        · rw [if_pos c, if_pos c, tCnt_ins hc (by show _ + (1 : Int) ≤ _; rw [ih]; omega), ih]
          show _ + (1 : Int) = _
          omega
        · rw [if_neg c, if_neg c, ih]
          rfl
      · rw [List.take_of_length_le (by omega)]
        rw [List.take_of_length_le (by omega)] at ih
        exact ih
  have h := key ss.length
  rwa [List.take_length] at h

end Go.Proofs.YtdchjcidfaencaaGreat

namespace Go.Proofs.YtdchjcidfaencaaGreat
open Go.RowKit Go.Lib

theorem filt_ins {l : List TRec} {r : TRec} (h : TSorted l) (P : TKey → Bool) : (tIns l r).filter (fun x => P x.k) = if P r.k = true then tIns (l.filter fun x => P x.k) r else l.filter fun x => P x.k := by
  induction l with
  | nil =>
    show [r].filter _ = _
    rw [List.filter_cons, List.filter_nil]
    by_cases c : P r.k = true
    · rw [if_pos c, if_pos c]
      rfl
    · rw [if_neg c, if_neg c]
  | cons x l ih =>
    obtain ⟨h1, h2⟩ := List.pairwise_cons.1 h
    have kc : ∀ (y : TRec) (m : List TRec), (y :: m).filter (fun x => P x.k) = if P y.k = true then y :: m.filter (fun x => P x.k) else m.filter (fun x => P x.k) := fun y m => List.filter_cons
    by_cases hk : kLtB x.k r.k = true
    · rw [show tIns (x :: l) r = x :: tIns l r by rw [tIns, if_pos hk], kc, kc, ih h2]
      by_cases c : P x.k = true
      · rw [if_pos c, if_pos c]
        by_cases d : P r.k = true
        · rw [if_pos d, if_pos d, tIns, if_pos hk]
        · rw [if_neg d, if_neg d]
      · rw [if_neg c, if_neg c]
    · by_cases he : x.k = r.k
      · rw [show tIns (x :: l) r = ⟨x.n, x.s, agBoth x.a r.a⟩ :: l by rw [tIns, if_neg hk, if_pos he], kc, kc]
        show (if P x.k = true then _ else _) = _
        by_cases c : P x.k = true
        · rw [if_pos c, if_pos c, if_pos (by rw [← he]; exact c), tIns, if_neg hk, if_pos he]
        · rw [if_neg c, if_neg c, if_neg (by rw [← he]; exact c)]
      · have hrx : kLt r.k x.k := by
          rcases kLt_total he with c | c
          · exact absurd (kLtB_iff.2 c) hk
          · exact c
        rw [show tIns (x :: l) r = r :: x :: l by rw [tIns, if_neg hk, if_neg he], kc]
        rw [tIns_front (l := (x :: l).filter fun x => P x.k) (fun y hy => by
          rcases List.mem_cons.1 (List.mem_filter.1 hy).1 with rfl | hy
          · exact hrx
          · exact kLt_trans hrx (h1 y hy))]

/-- The records of one series are those of its samples. -/
theorem vT_of {r : RchL} {i : Int} {n : ByteArray} {ss : List SamL} (hr : VOk r) (hs : ∀ s ∈ ss, SFit s) : vT r i (vOf n ss) = (vT r i ss).filter fun x => decide (x.k.1 = n) := by
  have key : ∀ k, vT r i (vOf n (ss.take k)) = (vT r i (ss.take k)).filter fun x => decide (x.k.1 = n) := by
    intro k
    induction k with
    | zero => rw [List.take_zero, vT_nil]; exact vT_nil r i
    | succ k ih =>
      by_cases hk : k < ss.length
      · have hx : ss[k]? = some ss[k] := List.getElem?_eq_getElem hk
        have f := hs _ (List.getElem_mem hk)
        rw [vOf_next hx, vtake_next hx, vT_next hr f]
        have sd := (vT_good (i := i) hr (fun s h => hs s (List.mem_of_mem_take (i := k) h))).sorted
        have fi := filt_ins (r := ⟨ss[k].1, (rStart r i ss[k].2.1).1, agOne ss[k].2.2⟩) sd (fun q => decide (q.1 = n))
        by_cases c : ss[k].1 = n
        · rw [if_pos c, vT_next hr f, ih]
          split
          · rw [fi]
            exact (if_pos (decide_eq_true c)).symm
          · rfl
        · rw [if_neg c, ih]
          split
          · rw [fi]
            exact (if_neg (show ¬ decide (ss[k].1 = n) = true by simpa using c)).symm
          · rfl
      · rw [List.take_of_length_le (by omega)] at ih ⊢
        exact ih
  have h := key ss.length
  rwa [List.take_length] at h

theorem tflat (l : List TRec) : flat tenc l = flat renc (l.map rl) := by
  unfold flat
  rw [List.flatMap_map]
  rfl

/-- What lies between the ends. -/
def vCut (f t : Int) (x : TRec) : Bool := decide (f ≤ x.s) && decide (x.s < t)
theorem vAsk_range {r : RchL} {i : Int} {n : ByteArray} {f t : Int} {ss : List SamL} (hr : VOk r) (hs : ∀ s ∈ ss, SFit s) : (vT r i (vOf n ss)).filter (vCut f t) = tRange (vT r i ss) n f t := by
  rw [vT_of hr hs, List.filter_filter]
  unfold tRange
  refine List.filter_congr fun x _ => ?_
  show (vCut f t x && decide (x.n = n)) = _
  unfold vCut
  cases decide (x.n = n) <;> cases decide (f ≤ x.s) <;> cases decide (x.s < t) <;> rfl

/-- While records are gathered into the answer. -/
structure KQ (D y : Nat) (c : Int) (w5 w : World) (lv : Value) (cs : List TRec) : Prop where
  ky : w.heap[y]? = some (.cells #[.int .i64 c, lv] 63 (0, 0))
  own : TROwn w D lv cs
  hD : D = w5.heap.size
  hw : D ≤ w.heap.size
  hy : y < D
  fr : Below y w5 w
  same : ∀ k, k < D → k ≠ y → w.heap[k]? = w5.heap[k]?

section
variable {D y : Nat} {c : Int} {w5 w w' : World} {lv : Value} {cs : List TRec}
theorem KQ.next (h : KQ D y c w5 w lv cs) (b : Below w.heap.size w w') : KQ D y c w5 w' lv cs :=
  ⟨(b.block _ (Array.getElem?_eq_some_iff.1 h.ky).1).trans h.ky, (Step.of_below (F := fun _ => False) b).own h.own (fun _ _ c => c), h.hD, Nat.le_trans h.hw b.size, h.hy, h.fr.trans (b.mono (by have := h.hy; have := h.hw; omega)), fun k hk hn => (b.block k (Nat.lt_of_lt_of_le hk h.hw)).trans (h.same k hk hn)⟩
theorem KQ.at (h : KQ D y c w5 w lv cs) : w.cell? ⟨y, 0, none⟩ = some (.int .i64 c) ∧ w.cell? ⟨y, 1, none⟩ = some lv := by
  refine ⟨?_, ?_⟩ <;> (rw [cell_of_row w y _ _ _ _ h.ky]; rfl)
/-- The list of records is as it was. -/
theorem KQ.cell (h : KQ D y c w5 w lv cs) {b o : Nat} {v : Value} (hb : b < D) (hn : b ≠ y) (hc : w5.cell? ⟨b, o, none⟩ = some v) : w.cell? ⟨b, o, none⟩ = some v :=
  (World.cell?_of_block (a := ⟨b, o, none⟩) (h.same b hb hn)).trans hc
/-- One more, put in its place. -/
theorem KQ.more (h : KQ D y c w5 w lv cs) {x : TRec} {v' : Value} (g : w.grownBy w' lv.ownBlock) (o : w'.ownsRow D 61 7 v' (cs.length + 1) (flat tenc cs ++ tenc x)) : KQ D y c w5 (w'.setCell ⟨y, 1, none⟩ v') v' (cs ++ [x]) := by
  have hge : ∀ k, lv.ownBlock = some k → D ≤ k := fun k hk => own_ge h.own hk
  have h1 := h.hy
  have h2 := h.hw
  have ky' : w'.heap[y]? = some (.cells #[.int .i64 c, lv] 63 (0, 0)) := (g.block y (by omega) (fun e => by have := hge y e.symm; omega)).trans h.ky
  have g2 := grownBy_setCell w' y 1 v'
  refine ⟨row_set (i := 1) ky' v', ?_, h.hD, Nat.le_trans h2 (Nat.le_trans g.size g2.size), h1, ?_, fun k hk hn => ?_⟩
  · show (w'.setCell ⟨y, 1, none⟩ v').ownsRow D _ 7 v' (cs ++ [x]).length _
    rw [List.length_append, flat_append, flat_one]
    exact vown_at o (fun k hk => g2.block k (o.lt k hk).2 (fun e => by have := own_ge o hk; have := Option.some.inj e; omega))
  · exact (h.fr.grown g (by omega) (fun k hk => by have := hge k hk; omega)).grown g2 (by have := g.size; omega) (fun k hk => by cases hk; exact Nat.le_refl _)
  · exact (g2.block k (by have := g.size; omega) (fun e => hn (Option.some.inj e))).trans ((g.block k (by omega) (fun e => by have := hge k e.symm; omega)).trans (h.same k hk hn))
end

/-- The variables of Ask: the reach, the answer. -/
structure VK (w : World) (z : Nat) (now : Int) (n : ByteArray) (s f : Value) : Prop where
  k1 : w.heap[z]? = some (.cells #[.int .i64 now, .string n, s, f] 46 (0, 0))
  k2 : w.heap[z + 1]? = some (.cells #[.int .i64 0, .slice none 0 0] 63 (0, 0))

section
variable {w w' : World} {z : Nat} {now : Int} {n : ByteArray} {s f : Value}
theorem VK.next (h : VK w z now n s f) (b : Below w.heap.size w w') : VK w' z now n s f :=
  ⟨(b.block _ (Array.getElem?_eq_some_iff.1 h.k1).1).trans h.k1, (b.block _ (Array.getElem?_eq_some_iff.1 h.k2).1).trans h.k2⟩
theorem VK.at1 (h : VK w z now n s f) : w.cell? ⟨z, 0, none⟩ = some (.int .i64 now) ∧ w.cell? ⟨z, 1, none⟩ = some (.string n) ∧ w.cell? ⟨z, 2, none⟩ = some s ∧ w.cell? ⟨z, 3, none⟩ = some f := by
  refine ⟨?_, ?_, ?_, ?_⟩ <;> (rw [cell_of_row w z _ _ _ _ h.k1]; rfl)
theorem VK.at2 (h : VK w z now n s f) : w.cell? ⟨z + 1, 0, none⟩ = some (.int .i64 0) ∧ w.cell? ⟨z + 1, 1, none⟩ = some (.slice none 0 0) ∧ w.frozen? ⟨z + 1, 0, none⟩ = false ∧ w.frozen? ⟨z + 1, 1, none⟩ = false := by
  refine ⟨?_, ?_, row_frozen h.k2, row_frozen h.k2⟩ <;> (rw [cell_of_row w (z + 1) _ _ _ _ h.k2]; rfl)
theorem ans_set {w : World} {y : Nat} {a b : Value} (h : w.heap[y]? = some (.cells #[a, b] 63 (0, 0))) (u v : Value) : ((w.setCell ⟨y, 0, none⟩ u).setCell ⟨y, 1, none⟩ v).cell? ⟨y, 0, none⟩ = some u ∧ ((w.setCell ⟨y, 0, none⟩ u).setCell ⟨y, 1, none⟩ v).cell? ⟨y, 1, none⟩ = some v := by
  have z7 := row_set (i := 1) (row_set (i := 0) h u) v
  refine ⟨?_, ?_⟩ <;> (rw [cell_of_row _ _ _ _ _ _ z7]; simp)
end

set_option maxRecDepth 20000 in
set_option maxHeartbeats 6400000 in
theorem viewAsk_any (S : ReachSpec) (rv v : Value) (r : RchL) (nm : ByteArray) (a b : Int) (ss : List SamL) (w : World) (hS : S.Ok w) (fit : RFit r) (ok : VOk r) (hr : RchRow w rv r) (hnm : nm.size ≤ maxLen) (ha : In64 a) (hc : In64 (rCover r a)) (hv : CellRow w v ss.length (flat aenc ss)) (hl : ss.length ≤ 1000) (fs : ∀ s ∈ ss, SFit s) :
    Calls Tryz.prog 16 #[rv, .string nm, .int .i64 a, .int .i64 b, v] w fun e w' => ∃ u, (iAskE nm a b = 0 → e = .returned (.tuple #[ansVal (rCover r a) u, .int .i64 0]) ∧ TROwn w' w.heap.size u (tRange (vT r (rCover r a) ss) nm a b)) ∧ (iAskE nm a b ≠ 0 → e = .returned (.tuple #[ansVal 0 u, .int .i64 (iAskE nm a b)]) ∧ TROwn w' w.heap.size u []) ∧ Below w.heap.size w w' := by
  have hr0 := hr
  obtain ⟨s, f, rfl, -⟩ := hr
  unfold rVal at hr0 ⊢
  obtain ⟨now, hnow⟩ : ∃ x, r.1 = x := ⟨_, rfl⟩
  obtain ⟨n, hnn⟩ : ∃ x, r.2.1.1 = x := ⟨_, rfl⟩
  rw [hnow, hnn] at hr0 ⊢
  have hz9 := hv
  obtain ⟨va, vc, rfl, -⟩ := hv
  have HV := Hid.of hz9
  obtain ⟨Z, hZ⟩ : ∃ Z, ss.length = Z := ⟨_, rfl⟩
  have HL := Hid.of (show ss.length ≤ 1000 from hl)
  obtain ⟨c, hcc⟩ : ∃ c, rCover r a = c := ⟨_, rfl⟩
  rw [hcc] at hc ⊢
  have HCC := Hid.of hcc
  clear hcc
  have hrange := vAsk_range (i := c) (n := nm) (f := a) (t := b) ok fs
  obtain ⟨z, hz⟩ : ∃ z, w.heap.size = z := ⟨_, rfl⟩
  obtain ⟨w1, hw1⟩ : ∃ w1, (w.alloc (.cells #[.int .i64 now, .string n, s, f] 46)).alloc (.cells #[.int .i64 0, .slice none 0 0] 63) = w1 := ⟨_, rfl⟩
  have b1 : Below w.heap.size w w1 := by rw [← hw1]; exact ((Below.refl _ _).alloc (Nat.le_refl _) _).alloc (by simp) _
  have k1 : VK w1 z now n s f := by
    rw [← hw1, ← hz]
    refine ⟨(Go.heap_alloc_old _ _ (by simp)).trans (Go.heap_alloc_new _ _), ?_⟩
    have h := Go.heap_alloc_new (w.alloc (.cells #[.int .i64 now, .string n, s, f] 46)) (.cells #[.int .i64 0, .slice none 0 0] 63 (0, 0))
    rw [show (w.alloc (.cells #[.int .i64 now, .string n, s, f] 46)).heap.size = w.heap.size + 1 by simp] at h
    exact h
  have hma := vMayAsk_any nm a b w1 hnm
  have K1 := Hid.of k1
  have B1 := Hid.of b1
  have HW := Hid.of hw1
  have HZ := Hid.of hz
  have HS := Hid.of hS
  have HR := Hid.of hr0
  have FIT := Hid.of fit
  have OK := Hid.of ok
  have FS := Hid.of fs
  have HA := Hid.of ha
  have HC := Hid.of hc
  clear hw1 hz b1 k1 hS hr0 fit ok fs ha hc hnow hnn hz9 hl hZ
  by_cases he : iAskE nm a b = 0
  · rw [decide_eq_true he] at hma
    have HE := Hid.of he
    have HRG := Hid.of hrange
    clear he hrange
    go_enter Tryz.func16, Tryz.ntmps16
    go_upto_region 1 with fail
    rw [HW.out, HZ.out]
    clear HW
    go_wp2_with fail
    refine hma.mono ?_
    rintro e w2 ⟨rfl, b2⟩
    have K2 := Hid.of (K1.out.next b2)
    have B2 := Hid.of (B1.out.trans (b2.mono B1.out.size))
    clear b2 hma K1 B1
    obtain ⟨c0, c1, c2, c3⟩ := K2.out.at1
    have hcv := S.cover _ r a w2 (S.kept HS.out B2.out) FIT.out HA.out (HR.out.kept B2.out)
    rw [HCC.out] at hcv
    go_wp2_with fail
    refine hcv.mono ?_
    rintro e w3 ⟨rfl, b3⟩
    have K3 := Hid.of (K2.out.next b3)
    have B3 := Hid.of (B2.out.trans (b3.mono B2.out.size))
    clear b3 hcv K2 B2 c0 c1 c2 c3
    go_upto_region 4 with fail
    obtain ⟨y, hy⟩ : ∃ y, w3.heap.size = y := ⟨_, rfl⟩
    obtain ⟨w4, hw4⟩ : ∃ w4, w3.alloc (.cells #[.int .i64 c, .slice none 0 0] 63) = w4 := ⟨_, rfl⟩
    have b4 : Below w3.heap.size w3 w4 := by rw [← hw4]; exact (Below.refl _ _).alloc (Nat.le_refl _) _
    have ky : w4.heap[y]? = some (.cells #[.int .i64 c, .slice none 0 0] 63 (0, 0)) := by rw [← hw4, ← hy]; exact Go.heap_alloc_new _ _
    have HYZ : Hid (z + 1 < y) := Hid.of (by have := (Array.getElem?_eq_some_iff.1 K3.out.k2).1; omega)
    have K4 := Hid.of (K3.out.next b4)
    have B4 := Hid.of (B3.out.trans (b4.mono B3.out.size))
    have KY := Hid.of ky
    rw [hw4, hy]
    clear hw4 hy b4 ky K3 B3
    obtain ⟨WD, hWD⟩ : ∃ WD, w4.drew = WD := ⟨_, rfl⟩
    have bD : Below w4.heap.size w4 WD := by rw [← hWD]; exact (Below.refl _ _).drew
    have KD := Hid.of (K4.out.next bD)
    have BD := Hid.of (B4.out.trans (bD.mono B4.out.size))
    have KYD := Hid.of ((bD.block y (Array.getElem?_eq_some_iff.1 KY.out).1).trans KY.out)
    have CSD : Hid (Cs WD [(⟨z, 0, none⟩, .int .i64 now), (⟨z, 1, none⟩, .string n), (⟨z, 2, none⟩, s), (⟨z, 3, none⟩, f), (⟨y, 0, none⟩, .int .i64 c)]) := Hid.of (by
      obtain ⟨c0, c1, c2, c3⟩ := KD.out.at1
      have l1 := (Array.getElem?_eq_some_iff.1 KD.out.k1).1
      have l2 := (Array.getElem?_eq_some_iff.1 KYD.out).1
      exact .cons l1 c0 (.cons l1 c1 (.cons l1 c2 (.cons l1 c3 (.cons l2 (by rw [cell_of_row WD y _ _ _ _ KYD.out]; rfl) (.nil _))))))
    have hof := vOf_any nm (.slice va ss.length vc) ss WD (HV.out.kept BD.out) HL.out
    clear bD K4 B4 KY
    have d0 := (CSD.out).head
    have d1 := ((CSD.out).tail).head
    have d2 := (((CSD.out).tail).tail).head
    have d3 := ((((CSD.out).tail).tail).tail).head
    have d4 := (((((CSD.out).tail).tail).tail).tail).head
    refine wp_region_noPanic ?_
    refine wp_region_held_drew (S := fun w' => w'.cell? ⟨z, 0, none⟩ = some (.int .i64 now) ∧ w'.cell? ⟨z, 1, none⟩ = some (.string n) ∧ w'.cell? ⟨z, 2, none⟩ = some (s) ∧ w'.cell? ⟨z, 3, none⟩ = some (f) ∧ w'.cell? ⟨y, 0, none⟩ = some (.int .i64 c)) (by kernel_rfl) ?_ (fun hHeld => ?_)
    · rw [hWD]; exact ⟨d0, d1, d2, d3, d4⟩
    refine wpAnyH_take (i := 0) (oi := ⟨_, _, _, _, _, _⟩) (v := ?_) rfl (by kernel_rfl) (by kernel_rfl) (by kernel_rfl) (fun _ _ _ h => h) (Or.inl ⟨by rfl, ?_⟩) hHeld ?_
    rotate_left
    · intro w' hSw
      try dsimp only at hSw
      go_simp
      all_goals with_reducible rfl
    simp only [Act.put, List.setIfInBounds_toArray, List.set_cons_zero, List.set_cons_succ]
    refine wpAnyH_take (i := 1) (oi := ⟨_, _, _, _, _, _⟩) (v := ?_) rfl (by kernel_rfl) (by kernel_rfl) (by kernel_rfl) (fun _ _ _ h => h) (Or.inl ⟨by rfl, ?_⟩) hHeld ?_
    rotate_left
    · intro w' hSw
      try dsimp only at hSw
      go_simp
      all_goals with_reducible rfl
    simp only [Act.put, List.setIfInBounds_toArray, List.set_cons_zero, List.set_cons_succ]
    refine wpAnyH_take (i := 2) (oi := ⟨_, _, _, _, _, _⟩) (v := ?_) rfl (by kernel_rfl) (by kernel_rfl) (by kernel_rfl) (fun _ _ _ h => h) (Or.inl ⟨by rfl, ?_⟩) hHeld ?_
    rotate_left
    · intro w' hSw
      try dsimp only at hSw
      go_simp
      all_goals with_reducible rfl
    simp only [Act.put, List.setIfInBounds_toArray, List.set_cons_zero, List.set_cons_succ]
    refine wpAnyH_take (i := 3) (oi := ⟨_, _, _, _, _, _⟩) (v := ?_) rfl (by kernel_rfl) (by kernel_rfl) (by kernel_rfl) (fun _ _ _ h => h) (Or.inl ⟨by rfl, ?_⟩) hHeld ?_
    rotate_left
    · intro w' hSw
      try dsimp only at hSw
      go_simp
      all_goals with_reducible rfl
    simp only [Act.put, List.setIfInBounds_toArray, List.set_cons_zero, List.set_cons_succ]
    refine wpAnyH_take (i := 4) (oi := ⟨_, _, _, _, _, _⟩) (v := ?_) rfl (by kernel_rfl) (by kernel_rfl) (by kernel_rfl) (fun _ _ _ h => h) (Or.inl ⟨by rfl, ?_⟩) hHeld ?_
    rotate_left
    · intro w' hSw
      try dsimp only at hSw
      go_simp
      all_goals with_reducible rfl
    simp only [Act.put, List.setIfInBounds_toArray, List.set_cons_zero, List.set_cons_succ]
    refine wpAnyH_take (i := 8) (oi := ⟨_, _, _, _, _, _⟩) (v := ?_) rfl (by kernel_rfl) (by kernel_rfl) (by kernel_rfl) (fun _ _ _ h => h) (Or.inl ⟨by rfl, ?_⟩) hHeld ?_
    rotate_left
    · intro w' hSw
      try dsimp only at hSw
      go_simp
      all_goals with_reducible rfl
    simp only [Act.put, List.setIfInBounds_toArray, List.set_cons_zero, List.set_cons_succ]
    refine wpAnyH_ready (rs := [5]) (by kernel_rfl) (by simp) ?_
    refine AllReadyH.cons (o := ⟨_, _, _, _, _, _⟩) rfl (fun K hK => ?_) AllReadyH.nil
    go_simp
    refine hof.mono ?_
    rintro e w5 ⟨u1, rfl, o1, b5⟩
    have CS5 := Hid.of (CSD.out.next b5)
    have K5 := Hid.of (KD.out.next b5)
    have B5 := Hid.of (BD.out.trans (b5.mono BD.out.size))
    have KY5 := Hid.of ((b5.block y (Array.getElem?_eq_some_iff.1 KYD.out).1).trans KYD.out)
    have row1 := own_row o1
    obtain ⟨u1a, u1c, hu1, -⟩ := own_one o1
    obtain ⟨L1, hL1⟩ : ∃ L1, (vOf nm ss).length = L1 := ⟨_, rfl⟩
    have hti := viewTier_any S (.agg #[.int .i64 now, .string n, s, f]) u1 r c (vOf nm ss) w5 (S.kept HS.out B5.out) FIT.out OK.out (HR.out.kept B5.out) HC.out row1 (Nat.le_trans (vOf_len _ _) HL.out) (fun x hx => FS.out x (List.mem_filter.1 hx).1)
    rw [hL1] at hu1
    subst hu1
    clear hL1 row1 o1 b5 CSD KD BD KYD hof
    clear hHeld d0 d1 d2 d3 d4
    have d0 := (CS5.out).head
    have d1 := ((CS5.out).tail).head
    have d2 := (((CS5.out).tail).tail).head
    have d3 := ((((CS5.out).tail).tail).tail).head
    have d4 := (((((CS5.out).tail).tail).tail).tail).head
    refine hK.out _ _ ⟨d0, d1, d2, d3, d4⟩ (fun hHeld => ?_)
    clear hK K
    try simp only [Act.put, List.setIfInBounds_toArray, List.set_cons_zero, List.set_cons_succ]
    refine wpAnyH_ready (rs := [6]) (by kernel_rfl) (by simp) ?_
    refine AllReadyH.cons (o := ⟨_, _, _, _, _, _⟩) rfl (fun K hK => ?_) AllReadyH.nil
    go_simp
    refine hti.mono ?_
    rintro e w6 ⟨u2, rfl, o2, b6⟩
    have CS6 := Hid.of (CS5.out.next b6)
    have K6 := Hid.of (K5.out.next b6)
    have B6 := Hid.of (B5.out.trans (b6.mono B5.out.size))
    have KY6 := Hid.of ((b6.block y (Array.getElem?_eq_some_iff.1 KY5.out).1).trans KY5.out)
    have Y5 : Hid (y < w5.heap.size) := Hid.of (Array.getElem?_eq_some_iff.1 KY5.out).1
    obtain ⟨T, hT⟩ : ∃ T, vT r c (vOf nm ss) = T := ⟨_, rfl⟩
    have HRG6 := HRG.out
    have TL : T.length ≤ 1000 := by rw [← hT]; exact Nat.le_trans (vT_good (i := c) OK.out (fun x hx => FS.out x (List.mem_filter.1 (show x ∈ vOf nm ss from hx)).1)).len (Nat.le_trans (vOf_len _ _) HL.out)
    rw [hT] at o2 HRG6
    have HTL := Hid.of TL
    have HRT := Hid.of HRG6
    clear TL HRG6 HRG hT
    have O2 := Hid.of o2
    obtain ⟨u2a, u2c, hu2, -⟩ := own_one o2
    obtain ⟨L, hL⟩ : ∃ L, T.length = L := ⟨_, rfl⟩
    rw [hL] at hu2
    subst hu2
    have HLL := Hid.of hL
    clear hL o2 b6 hti CS5 K5 B5 KY5
    clear hHeld d0 d1 d2 d3 d4
    have d0 := (CS6.out).head
    have d1 := ((CS6.out).tail).head
    have d2 := (((CS6.out).tail).tail).head
    have d3 := ((((CS6.out).tail).tail).tail).head
    have d4 := (((((CS6.out).tail).tail).tail).tail).head
    refine hK.out _ _ ⟨d0, d1, d2, d3, d4⟩ (fun hHeld => ?_)
    clear hK K
    try simp only [Act.put, List.setIfInBounds_toArray, List.set_cons_zero, List.set_cons_succ]
    refine wpAnyH_take (i := 7) (oi := ⟨_, _, _, _, _, _⟩) (v := ?_) rfl (by kernel_rfl) (by kernel_rfl) (by kernel_rfl) (fun _ _ _ h => h) (Or.inl ⟨by rfl, ?_⟩) hHeld ?_
    rotate_left
    · intro w' hSw
      try dsimp only at hSw
      go_simp
      all_goals with_reducible rfl
    simp only [Act.put, List.setIfInBounds_toArray, List.set_cons_zero, List.set_cons_succ]
    refine wpAnyH_done (by kernel_rfl) ?_ _
    refine NoPanic.normal ?_
    clear hHeld d0 d1 d2 d3 d4 CS6
    have hL9 : (L : Int) ≤ 1000 := by have := HTL.out; have := HLL.out; omega
    obtain ⟨i0, hi, hz0, hz1, hz2⟩ := info_parts recV_info
    have HI := Hid.of hi
    have HZ0 := Hid.of hz0
    have HZ1 := Hid.of hz1
    have HZ2 := Hid.of hz2
    clear hi hz0 hz1 hz2
    have Q0 : Hid (KQ w6.heap.size y c w6 w6 (.slice none 0 0) []) := Hid.of ⟨KY6.out, World.ownsRow_nil _ _ _ _, rfl, Nat.le_refl _, (Array.getElem?_eq_some_iff.1 KY6.out).1, Below.refl _ _, fun _ _ _ => rfl⟩
    have HWS : Hid (w.heap.size ≤ y) := Hid.of (by have := HZ.out; have := HYZ.out; omega)
    clear KY6 hWD
    go_wp2_with fail
    go_loopg [14, 33] L (fun kx x14 iv wr => ∃ (j : Nat) (lv : Value), iv = .int .i64 j ∧ j ≤ L ∧ L - j ≤ kx ∧ Hid (KQ w6.heap.size y c w6 wr lv ((T.take j).filter (vCut a b))))
    case atStart => exact ⟨0, _, rfl, Nat.zero_le _, Nat.le_refl _, Q0⟩
    case round =>
      clear Q0
      obtain ⟨j, lv, rfl, hjL, hjx, Q⟩ := hrel
      have j0 : (0 : Int) ≤ (j : Int) := Int.natCast_nonneg _
      by_cases hlt : (j : Int) < (L : Int)
      · obtain ⟨x, hx⟩ : ∃ x, T[j]? = some x := ⟨_, List.getElem?_eq_getElem (by have := HLL.out; omega)⟩
        have row2 : CellRow w6 (.slice u2a L u2c) L (flat renc (T.map rl)) := by
          have h := own_row O2.out
          rw [tflat, HLL.out] at h
          exact h
        obtain ⟨ub, uo, hua, ul, x0, x1, x2, x3, x4, x5, x6⟩ := r_at row2 j (rl x) (by rw [List.getElem?_map, hx]; rfl)
        subst hua
        have hne : ub ≠ y := by
          have h : w5.heap.size ≤ ub := own_ge O2.out rfl
          have := Y5.out
          omega
        have a0 := Q.out.cell ul hne x0
        have a1 := Q.out.cell ul hne x1
        have a2 := Q.out.cell ul hne x2
        have a3 := Q.out.cell ul hne x3
        have a4 := Q.out.cell ul hne x4
        have a5 := Q.out.cell ul hne x5
        have a6 := Q.out.cell ul hne x6
        have NX : Hid ((T.take (j + 1)).filter (vCut a b) = if vCut a b x = true then (T.take j).filter (vCut a b) ++ [x] else (T.take j).filter (vCut a b)) := Hid.of (by
          rw [vtake_next hx, List.filter_append, List.filter_cons, List.filter_nil]
          split
          · rfl
          · rw [List.append_nil])
        have LJ : Hid (((T.take j).filter (vCut a b)).length ≤ 1000) := Hid.of (Nat.le_trans (List.length_filter_le _ _) (by rw [List.length_take]; have := HTL.out; omega))
        obtain ⟨J, hJ⟩ : ∃ J, (T.take j).filter (vCut a b) = J := ⟨_, rfl⟩
        rw [hJ] at Q NX LJ
        have hul : ub < wr.heap.size := Nat.lt_of_lt_of_le ul Q.out.hw
        clear hJ x0 x1 x2 x3 x4 x5 x6 hx row2 ul hne
        obtain ⟨xn, xs, xa⟩ := x
        simp only [rl] at a0 a1 a2 a3 a4 a5 a6
        go_upto_region 7 with fail
        obtain ⟨q, hq⟩ : ∃ q, wr.heap.size = q := ⟨_, rfl⟩
        obtain ⟨w7, hw7⟩ : ∃ w7, wr.alloc (.cells #[.string xn, .int .i64 xs, .int .i64 xa.c, .int .i64 xa.hi, .int .u64 xa.lo, .int .i64 xa.mn, .int .i64 xa.mx] 61) = w7 := ⟨_, rfl⟩
        have b7 : Below wr.heap.size wr w7 := by rw [← hw7]; exact (Below.refl _ _).alloc (Nat.le_refl _) _
        have k7 : w7.heap[q]? = some (.cells #[.string xn, .int .i64 xs, .int .i64 xa.c, .int .i64 xa.hi, .int .u64 xa.lo, .int .i64 xa.mn, .int .i64 xa.mx] 61 (0, 0)) := by rw [← hw7, ← hq]; exact Go.heap_alloc_new _ _
        have Q7 := Hid.of (Q.out.next b7)
        obtain ⟨e0, e1, e2, e3, e4, e5, e6⟩ := rec7_at (x := ⟨xn, xs, xa⟩) k7
        simp only at e0 e1 e2 e3 e4 e5 e6
        rw [hw7, hq]
        clear hw7 hq b7 k7 Q a0 a1 a2 a3 a4 a5 a6
        have hex : (a ≤ xs ∧ xs < b) ∨ ¬ a ≤ xs ∨ (a ≤ xs ∧ ¬ xs < b) := by omega
        rcases hex with ⟨h1, h2⟩ | h1 | ⟨h1, h2⟩
        · have g1 : xs ≥ a := h1
          have N1 : Hid ((T.take (j + 1)).filter (vCut a b) = J ++ [⟨xn, xs, xa⟩]) := Hid.of (by
            rw [NX.out, if_pos]
            unfold vCut
            rw [decide_eq_true h1, decide_eq_true h2]
            rfl)
          clear NX h1
          obtain ⟨p0, p1⟩ := Q7.out.at
          have hsz := Q7.out.hw
          have hyD := Q7.out.hy
          go_wp2_with (at_builtin; refine append_keep_law rfl _ _ 49 rfl w6.heap.size 61 i0 _ 7 64 Tryz.underlying49 HI.out HZ0.out HZ1.out HZ2.out rfl (by decide) _ J.length _ rfl (Q7.out.own.alloc _) w7.heap.size 0 1 1 (tenc ⟨xn, xs, xa⟩) rfl (new_cells w7 #[.string xn, .int .i64 xs, .int .i64 xa.c, .int .i64 xa.hi, .int .u64 xa.lo, .int .i64 xa.mn, .int .i64 xa.mx] _) rfl (tenc_one _) (by have := LJ.out; unfold maxLen; omega) (by have := LJ.out; omega) (by first | (simp; omega) | (simp; done)) ?_; intro v8 w8 o8 g8 k8 m8; have Q8 := Hid.of ((Q7.out.next ((Below.refl w7.heap.size w7).alloc (Nat.le_refl _) _)).more g8 o8); have ky8 : w8.heap[y]? = some (.cells #[.int .i64 c, lv] 63 (0, 0)) := (g8.block y (by first | (simp; omega) | (simp; done)) (fun e => by have := own_ge Q7.out.own e.symm; omega)).trans (Q7.out.next ((Below.refl w7.heap.size w7).alloc (Nat.le_refl _) _)).ky; have s0 : w8.cell? ⟨y, 1, none⟩ = some lv := (by rw [cell_of_row w8 y _ _ _ _ ky8]; rfl); have s1 : w8.frozen? ⟨y, 1, none⟩ = false := row_frozen ky8; obtain ⟨v8a, v8c, hv8, -⟩ := own_one o8; subst hv8; clear o8 g8 k8 m8 ky8)
          go_wp2
          go_roundg (L - (j + 1))
          case measure => omega
          case rel => exact ⟨j + 1, _, by go_num, by omega, Nat.le_refl _, by rw [N1.out]; exact Q8⟩
        · have g1 : ¬ xs ≥ a := h1
          have N1 : Hid ((T.take (j + 1)).filter (vCut a b) = J) := Hid.of (by
            rw [NX.out, if_neg]
            unfold vCut
            rw [decide_eq_false h1]
            exact Bool.false_ne_true)
          clear NX h1
          go_wp2_with fail
          go_roundg (L - (j + 1))
          case measure => omega
          case rel => exact ⟨j + 1, lv, by go_num, by omega, Nat.le_refl _, by rw [N1.out]; exact Q7⟩
        · have g1 : xs ≥ a := h1
          have N1 : Hid ((T.take (j + 1)).filter (vCut a b) = J) := Hid.of (by
            rw [NX.out, if_neg]
            unfold vCut
            rw [decide_eq_false h2, Bool.and_false]
            exact Bool.false_ne_true)
          clear NX h1
          go_wp2_with fail
          go_roundg (L - (j + 1))
          case measure => omega
          case rel => exact ⟨j + 1, lv, by go_num, by omega, Nat.le_refl _, by rw [N1.out]; exact Q7⟩
      · obtain rfl : j = L := by omega
        rw [List.take_of_length_le (Nat.le_of_eq HLL.out), HRT.out] at Q
        obtain ⟨p0, p1⟩ := Q.out.at
        obtain ⟨G, hG⟩ : ∃ G, tRange (vT r c ss) nm a b = G := ⟨_, rfl⟩
        have HG := Hid.of hG
        rw [hG] at Q
        clear hG
        obtain ⟨la, lc, rfl, -⟩ := own_one Q.out.own
        have k2 : wr.heap[z + 1]? = some (.cells #[.int .i64 0, .slice none 0 0] 63 (0, 0)) := (Q.out.fr.block (z + 1) HYZ.out).trans K6.out.k2
        have t0 : wr.cell? ⟨z + 1, 0, none⟩ = some (.int .i64 0) := by rw [cell_of_row wr (z + 1) _ _ _ _ k2]; rfl
        have t1 : wr.cell? ⟨z + 1, 1, none⟩ = some (.slice none 0 0) := by rw [cell_of_row wr (z + 1) _ _ _ _ k2]; rfl
        have y0 : wr.frozen? ⟨z + 1, 0, none⟩ = false := row_frozen k2
        have y1 : wr.frozen? ⟨z + 1, 1, none⟩ = false := row_frozen k2
        obtain ⟨q0, q1⟩ := ans_set k2 (.int .i64 c) (.slice la G.length lc)
        have hzz : w.heap.size ≤ z + 1 := by have := HZ.out; omega
        have B9 : Hid (Below w.heap.size w wr) := Hid.of (B6.out.trans (Q.out.fr.mono HWS.out))
        have g9 : wr.grownBy ((wr.setCell ⟨z + 1, 0, none⟩ (.int .i64 c)).setCell ⟨z + 1, 1, none⟩ (.slice la G.length lc)) (some (z + 1)) := grownBy_trans (grownBy_setCell _ _ _ _) (grownBy_setCell _ _ _ _)
        have O9 : Hid (TROwn ((wr.setCell ⟨z + 1, 0, none⟩ (.int .i64 c)).setCell ⟨z + 1, 1, none⟩ (.slice la G.length lc)) w.heap.size (.slice la G.length lc) G) := Hid.of (own_mono (vown_at Q.out.own (fun g hg => g9.block g (Q.out.own.lt g hg).2 (fun e => by have h1 := own_ge Q.out.own hg; have h2 := Option.some.inj e; have h3 := Q.out.hy; have h4 := HYZ.out; omega))) (by have h1 := HWS.out; have h2 := Q.out.hy; omega))
        clear k2 g9
        go_wp2
        rw [HE.out]
        refine bodyPost_ret (v := .tuple #[ansVal c (.slice la G.length lc), .int .i64 0]) ?_ rfl ⟨.slice la G.length lc, fun _ => ⟨rfl, by rw [HG.out]; exact O9.out⟩, fun x => absurd rfl x, set2_below B9.out hzz _ _⟩
        simp [results, Tryz.results16, go_sem, q0, q1]
  · rw [decide_eq_false he] at hma
    have he1 : iAskE nm a b = 1 := by
      unfold iAskE at he ⊢
      split
      · rfl
      · rename_i hc
        rw [if_neg hc] at he
        exact absurd rfl he
    have HE1 := Hid.of he1
    have HE := Hid.of he
    clear he he1 hrange
    go_enter Tryz.func16, Tryz.ntmps16
    go_upto_region 1 with fail
    rw [HW.out, HZ.out]
    clear HW
    go_wp2_with fail
    refine hma.mono ?_
    rintro e w2 ⟨rfl, b2⟩
    have K2 := Hid.of (K1.out.next b2)
    have B2 := Hid.of (B1.out.trans (b2.mono B1.out.size))
    clear b2 hma K1 B1
    obtain ⟨t0, t1, y0, y1⟩ := K2.out.at2
    obtain ⟨q0, q1⟩ := ans_set K2.out.k2 (.int .i64 0) (.slice none 0 0)
    have hzz : w.heap.size ≤ z + 1 := by have := HZ.out; omega
    go_wp2
    rw [HE1.out]
    refine bodyPost_ret (v := .tuple #[ansVal 0 (.slice none 0 0), .int .i64 1]) ?_ rfl ⟨.slice none 0 0, fun x => absurd x (by decide), fun _ => ⟨rfl, World.ownsRow_nil _ _ _ _⟩, set2_below B2.out hzz _ _⟩
    simp [results, Tryz.results16, go_sem, q0, q1]

end Go.Proofs.YtdchjcidfaencaaGreat

namespace Go.Proofs.YtdchjcidfaencaaGreat
open Go.RowKit Go.Lib

def vReach : RchL := (30, webPol, [])
def vSams : List SamL := [(⟨#[97]⟩, 21, 4), (⟨#[97]⟩, 25, 6)]
def vSam : List SamL := [(⟨#[97]⟩, 21, 4)]
def vRec : TRec := ⟨⟨#[97]⟩, 20, ⟨2, 0, 10, 4, 6⟩⟩

theorem v_tier : vT vReach 1 vSams = [vRec] := by kernel_rfl
theorem v_ask : iAskE ⟨#[97]⟩ 20 30 = 0 := by decide +kernel
theorem v_cover : rCover vReach 20 = 0 := by decide +kernel
theorem v_range : (tRange (vT vReach (rCover vReach 20) vSam) ⟨#[97]⟩ 20 30).length = 1 := by kernel_rfl
theorem v_ok : VOk vReach := by unfold VOk; decide +kernel
theorem v_fit : RFit vReach := ⟨⟨by decide, by decide⟩, web_fit, by decide, fun _ h => by cases h⟩
theorem v_sfit : ∀ s ∈ vSams, SFit s := by
  intro s hs
  unfold vSams at hs
  simp only [List.mem_cons, List.not_mem_nil, or_false] at hs
  rcases hs with rfl | rfl
  · exact ⟨by unfold maxLen; decide, by unfold TIn64; decide, by unfold TIn64; decide⟩
  · exact ⟨by unfold maxLen; decide, by unfold TIn64; decide, by unfold TIn64; decide⟩

set_option maxRecDepth 20000 in
set_option maxHeartbeats 3200000 in
theorem viewAlive_any (S : ReachSpec) (w : World) (hS : S.Ok w) : Calls Tryz.prog 6 #[] w fun e w' => e = .returned (.bool true) ∧ Below w.heap.size w w' := by
  have FT := Hid.of v_fit
  have HS := Hid.of hS
  clear hS
  go_enter Tryz.func6, Tryz.ntmps6
  go_wp2_with fail
  refine (Web_any _).mono ?_
  rintro e w1 ⟨v, rfl, pr, b1⟩
  have PR := Hid.of pr
  have O1 := Hid.of (S.kept HS.out b1)
  have B1 := Hid.of b1
  clear b1 pr HS
  go_wp2_with fail
  refine (S.of _ _ webPol 30 [] _ O1.out FT.out PR.out ⟨_, _, rfl, .inl rfl⟩ (Nat.le_refl _)).mono ?_
  rintro e w2 ⟨u, rfl, ou, b2⟩
  have rr := OwnRch.row ou
  obtain ⟨s, f, rfl, o1, o2, -⟩ := ou
  obtain ⟨sa, sc, rfl, -⟩ := own_one o1
  obtain ⟨fa, fc, rfl, -⟩ := own_one o2
  clear o1 o2
  obtain ⟨n, hn⟩ : ∃ n, webPol.1 = n := ⟨_, rfl⟩
  have ev : rVal (30, webPol, []) (.slice sa ((30, webPol, []) : RchL).2.1.2.length sc) (.slice fa ((30, webPol, []) : RchL).2.2.length fc) = .agg #[.int .i64 30, .string n, .slice sa 2 sc, .slice fa 0 fc] := by rw [← hn]; rfl
  rw [ev]
  have X2 : Hid (RchRow w2 (.agg #[.int .i64 30, .string n, .slice sa 2 sc, .slice fa 0 fc]) vReach) := Hid.of (by rw [← ev]; exact rr)
  have B2 := Hid.of (B1.out.trans (b2.mono B1.out.size))
  have O2 := Hid.of (S.kept O1.out b2)
  obtain ⟨z, hz⟩ : ∃ z, w2.heap.size = z := ⟨_, rfl⟩
  obtain ⟨w3, hw3⟩ : ∃ w3, w2.alloc (.cells #[.int .i64 30, .string n, .slice sa 2 sc, .slice fa 0 fc] 46) = w3 := ⟨_, rfl⟩
  have H3 : Hid (RH S w z 30 n (.slice sa 2 sc) (.slice fa 0 fc) vReach w3) := Hid.of (by
    have b3 : Below w2.heap.size w2 w3 := by rw [← hw3]; exact (Below.refl _ _).alloc (Nat.le_refl _) _
    exact ⟨by rw [← hw3, ← hz]; exact Go.heap_alloc_new _ _, X2.out.kept b3, S.kept O2.out b3, B2.out.trans (b3.mono B2.out.size)⟩)
  have HW3 := Hid.of hw3
  have HZ := Hid.of hz
  clear b2 O1 B1 PR rr ev hn X2 B2 O2 hw3 hz
  go_upto_region 2 with fail
  rw [HW3.out, HZ.out]
  clear HW3 HZ
  obtain ⟨c0, c1, c2, c3⟩ := H3.out.at
  obtain ⟨w4, hw4⟩ : ∃ w4, w3.alloc (.cells #[.string ⟨#[97]⟩, .int .i64 21, .int .i64 4, .string ⟨#[97]⟩, .int .i64 25, .int .i64 6] 76) = w4 := ⟨_, rfl⟩
  have b4 : Below w3.heap.size w3 w4 := by rw [← hw4]; exact (Below.refl _ _).alloc (Nat.le_refl _) _
  have R4 : Hid (CellRow w4 (.slice (some ⟨w3.heap.size, 0, none⟩) 2 2) vSams.length (flat aenc vSams)) := Hid.of (by
    rw [← hw4]
    exact ⟨_, 2, rfl, .inr ⟨_, 0, rfl, by simp, new_cells w3 #[.string ⟨#[97]⟩, .int .i64 21, .int .i64 4, .string ⟨#[97]⟩, .int .i64 25, .int .i64 6] 76⟩⟩)
  have H4 := Hid.of (H3.out.next b4)
  have HW4 := Hid.of hw4
  clear hw4 b4
  go_wp2_with fail
  rw [HW4.out]
  clear HW4 c0 c1 c2 c3 H3
  refine (viewTier_any S _ _ vReach 1 vSams _ H4.out.ok FT.out v_ok H4.out.x (by unfold In64; decide) R4.out (by decide) v_sfit).mono ?_
  rintro e w5 ⟨l, rfl, o5, b5⟩
  rw [v_tier] at o5
  have H5 := Hid.of (H4.out.next b5)
  have O5 := Hid.of o5
  clear b5 o5 H4 R4
  obtain ⟨c0, c1, c2, c3⟩ := H5.out.at
  obtain ⟨w6, hw6⟩ : ∃ w6, w5.alloc (.cells #[.string ⟨#[97]⟩, .int .i64 21, .int .i64 4] 76) = w6 := ⟨_, rfl⟩
  have b6 : Below w5.heap.size w5 w6 := by rw [← hw6]; exact (Below.refl _ _).alloc (Nat.le_refl _) _
  have R6 : Hid (CellRow w6 (.slice (some ⟨w5.heap.size, 0, none⟩) 1 1) vSam.length (flat aenc vSam)) := Hid.of (by
    rw [← hw6]
    exact ⟨_, 1, rfl, .inr ⟨_, 0, rfl, by simp, new_cells w5 #[.string ⟨#[97]⟩, .int .i64 21, .int .i64 4] 76⟩⟩)
  have H6 := Hid.of (H5.out.next b6)
  have O6 := Hid.of ((Step.of_below (F := fun _ => False) b6).own O5.out (fun _ _ c => c))
  have HW6 := Hid.of hw6
  clear hw6 b6
  go_wp2_with fail
  rw [HW6.out]
  clear HW6 c0 c1 c2 c3 H5 O5
  refine (viewAsk_any S _ _ vReach ⟨#[97]⟩ 20 30 vSam _ H6.out.ok FT.out v_ok H6.out.x (by unfold maxLen; decide) (by unfold In64; decide) (by rw [v_cover]; unfold In64; decide) R6.out (by decide) (fun s hs => v_sfit s (List.mem_cons.2 (.inl (List.mem_singleton.1 hs))))).mono ?_
  rintro e w7 ⟨u, hu, -, b7⟩
  obtain ⟨rfl, ou⟩ := hu v_ask
  rw [v_cover] at ou ⊢
  have hlen := v_range
  rw [v_cover] at hlen
  obtain ⟨ua, uc, rfl, -⟩ := own_one ou
  rw [hlen]
  have H7 := Hid.of (H6.out.next b7)
  have O7 := Hid.of ((Step.of_below (F := fun _ => False) b7).own O6.out (fun _ _ c => c))
  clear hu ou hlen b7 H6 O6 R6
  go_upto_region 4 with fail
  obtain ⟨y, hy⟩ : ∃ y, w7.heap.size = y := ⟨_, rfl⟩
  obtain ⟨w8, hw8⟩ : ∃ w8, w7.alloc (.cells #[.int .i64 0, .slice ua 1 uc] 63) = w8 := ⟨_, rfl⟩
  have b8 : Below w7.heap.size w7 w8 := by rw [← hw8]; exact (Below.refl _ _).alloc (Nat.le_refl _) _
  have ky : w8.heap[y]? = some (.cells #[.int .i64 0, .slice ua 1 uc] 63 (0, 0)) := by rw [← hw8, ← hy]; exact Go.heap_alloc_new _ _
  have H8 := Hid.of (H7.out.next b8)
  have O8 := (Step.of_below (F := fun _ => False) b8).own O7.out (fun _ _ c => c)
  have r8 : CellRow w8 l 1 (flat renc [rl vRec]) := own_row O8
  obtain ⟨la, lc, rfl, -⟩ := own_one O8
  simp only [List.length_cons, List.length_nil, Nat.zero_add] at r8 ⊢
  obtain ⟨lb, lo, rfl, -, x0, x1, x2, x3, x4, x5, x6⟩ := r_at r8 0 (rl vRec) rfl
  simp only [rl, vRec, Nat.zero_mul, Nat.add_zero] at x0 x1 x2 x3 x4 x5 x6
  have e0 : w8.cell? ⟨y, 0, none⟩ = some (.int .i64 0) := by rw [cell_of_row w8 y _ _ _ _ ky]; rfl
  have e1 : w8.cell? ⟨y, 1, none⟩ = some (.slice ua 1 uc) := by rw [cell_of_row w8 y _ _ _ _ ky]; rfl
  rw [hw8, hy]
  clear hw8 hy b8 ky O8 r8 H7 O7
  obtain ⟨c0, c1, c2, c3⟩ := H8.out.at
  go_wp2_with fail
  clear x0 x1 x2 x3 x4 x5 x6 e0 e1 c0 c1 c2 c3
  refine (viewAll_any S _ _ vReach [] _ H8.out.ok FT.out v_ok H8.out.x (by decide) ⟨_, _, rfl, .inl rfl⟩ (by decide) (fun _ h => absurd h List.not_mem_nil)).mono ?_
  rintro e w9 ⟨q, us, rfl, hus, hbag, b9⟩
  have ho := hbag.own _ (List.mem_cons_self ..)
  obtain ⟨qa, qc, hq, -⟩ := own_one ho
  have hq2 : q = .slice qa 2 qc := hq.trans (by rw [show (oRow q us).n = us.length from rfl, hus]; rfl)
  subst hq2
  have H9 := Hid.of (H8.out.next b9)
  clear ho hq hbag hus b9 H8
  go_wp2
  go_ret
  exact ⟨rfl, H9.out.fr⟩

end Go.Proofs.YtdchjcidfaencaaGreat
