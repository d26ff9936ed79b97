/-
  A bundle of texts: QEI.
-/
import Derived.Test.YtbhcafginmkaaaaGreatN41
import Derived.Test.YtbhcafginmkaaaaGreatN45
import Derived.Test.YtbhcafginmkaaaaGreatN05
namespace Go.Proofs.YtbhcafginmkaaaaGreat
open Go.RowKit Go.Lib

theorem mBases_in {pl : PlanL} {r : RchL} (fp : MFit pl) (fr : RFit r) : ∀ x ∈ mBases pl r, In64 x := fun x hx => by
  obtain ⟨i, hi⟩ := List.getElem?_of_mem hx
  unfold mBases at hi
  rw [List.getElem?_mapIdx] at hi
  cases c : pl.1.2[i]? with
  | none => rw [c] at hi; cases hi
  | some y =>
    rw [c] at hi
    cases hi
    have h1 := rFrom_in2 fr (mSrc pl i)
    have h2 := (fp.1.2.2 y (List.mem_of_getElem? c)).2.1
    exact gCeil_int h1 h2

/-- Built: the sources' copies and the list of them, the new tiers as far as they are. -/
structure BuG {TS : TableSpec} (S : TiersSpec TS) (pl : PlanL) (r : RchL) (T : List (List TRec)) (B q : Nat) (lv : Value) (qs : List Nat) (Gs : List TFoot) (L : List (Addr × Value)) (j : Nat) (F : TFoot) (w0 w : World) : Prop where
  g : TbG TS r T (mSrc pl) w0.heap.size w0.heap.size lv qs Gs w
  rep : S.Rep w q (mTo pl r) (mPart pl r T j) F
  fa : ∀ k, F.all k → B ≤ k
  bB : w0.heap.size ≤ B
  bw : B ≤ w.heap.size
  off : ∀ G ∈ Gs, ∀ k, G.all k → ¬ F.own k
  offl : ∀ k, lv.ownBlock = some k → ¬ F.own k
  cs : Dc w L
  ll : ∀ x ∈ L, x.1.block < B
  fr : Below w0.heap.size w0 w

section
variable {TS : TableSpec} {S : TiersSpec TS} {pl : PlanL} {r : RchL} {T : List (List TRec)} {B q : Nat} {lv : Value} {qs : List Nat} {Gs : List TFoot} {L : List (Addr × Value)} {j j' : Nat} {F F' : TFoot} {w0 w w' : World}

theorem BuG.next (h : BuG S pl r T B q lv qs Gs L j F w0 w) (b : Below w.heap.size w w') : BuG S pl r T B q lv qs Gs L j F w0 w' :=
  ⟨h.g.next b, S.kept h.rep b.size (fun k hk => b.block k (S.lt h.rep k hk)), h.fa, h.bB, Nat.le_trans h.bw b.size, h.off, h.offl, h.cs.next b, h.ll, h.fr.trans (b.mono h.fr.size)⟩

theorem BuG.step (h : BuG S pl r T B q lv qs Gs L j F w0 w) (x : S.Rep w' q (mTo pl r) (mPart pl r T j') F') (st : TStep F F' w w') : BuG S pl r T B q lv qs Gs L j' F' w0 w' := by
  have hB := h.bw
  have hown : ∀ k, F.own k → B ≤ k := fun k hk => h.fa k (S.sub h.rep k hk)
  refine ⟨h.g.at st.own.size (fun G hG i hi => st.own.block i (h.g.lt hG hi) (h.off G hG i hi)) (fun g hg => st.own.block g (iown_lt h.g.own hg) (h.offl g hg)), x, fun k hk => ?_, h.bB, Nat.le_trans h.bw st.own.size, fun G hG k hk c => ?_, fun k hk c => ?_, fun y hy => ?_, h.ll, st.own.below h.fr h.fr.size (fun k hk => Nat.le_trans h.bB (hown k hk))⟩
  · rcases st.more k hk with c | c
    · exact h.fa k c
    · exact Nat.le_trans hB c
  · rcases st.own.foot k c with d | d
    · exact h.off G hG k hk d
    · have := h.g.lt hG hk
      omega
  · rcases st.own.foot k c with d | d
    · exact h.offl k hk d
    · have := iown_lt h.g.own hk
      omega
  · have hy1 := h.cs y hy
    have hy2 := h.ll y hy
    exact ⟨Nat.lt_of_lt_of_le hy1.1 st.own.size, (World.cell?_of_block (a := y.1) (st.own.block _ hy1.1 (fun c => by have := hown _ c; omega))).trans hy1.2⟩
end

theorem ptr_at {w : World} {a : Option Addr} {n c : Nat} {qs : List Nat} (h : CellRow w (.slice a n c) qs.length (qs.map tptr)) {j q : Nat} (hq : qs[j]? = some q) : ∃ b o, a = some ⟨b, o, none⟩ ∧ b < w.heap.size ∧ w.cell? ⟨b, o + j, none⟩ = some (tptr q) := by
  obtain ⟨a', c', hv, h⟩ := h
  simp only [Value.slice.injEq] at hv
  obtain ⟨rfl, _, rfl⟩ := hv
  rcases h with h | ⟨b, o, ha, hl, hc⟩
  · rw [List.map_eq_nil_iff] at h
    rw [h] at hq
    cases hq
  · exact ⟨b, o, ha, hl, hc j (tptr q) (by rw [List.getElem?_map, hq]; rfl)⟩

/-- What Build answers. -/
def BuildSays {TS : TableSpec} (S : TiersSpec TS) (pl : PlanL) (r : RchL) (T : List (List TRec)) (w : World) (x : Ending) (w' : World) : Prop :=
  (MFits pl r T.length → (iNewE pl.1 r.1 (mBases pl r) = 0 → ∃ q F', x = .returned (.tuple #[tptr q, .int .i64 0]) ∧ S.Rep w' q (mTo pl r) (mBuilt pl r T) F' ∧ (∀ k, F'.all k → w.heap.size ≤ k)) ∧ (iNewE pl.1 r.1 (mBases pl r) ≠ 0 → x = .returned (.tuple #[.pointer none, .int .i64 (iNewE pl.1 r.1 (mBases pl r))]))) ∧ (¬ MFits pl r T.length → x = .returned (.tuple #[.pointer none, .int .i64 1])) ∧ Below w.heap.size w w'
theorem BuildSays.mk {TS : TableSpec} {S : TiersSpec TS} {pl : PlanL} {r : RchL} {T : List (List TRec)} {w w' : World} {x : Ending} (h1 : MFits pl r T.length → (iNewE pl.1 r.1 (mBases pl r) = 0 → ∃ q F', x = .returned (.tuple #[tptr q, .int .i64 0]) ∧ S.Rep w' q (mTo pl r) (mBuilt pl r T) F' ∧ (∀ k, F'.all k → w.heap.size ≤ k)) ∧ (iNewE pl.1 r.1 (mBases pl r) ≠ 0 → x = .returned (.tuple #[.pointer none, .int .i64 (iNewE pl.1 r.1 (mBases pl r))]))) (h2 : ¬ MFits pl r T.length → x = .returned (.tuple #[.pointer none, .int .i64 1])) (h3 : Below w.heap.size w w') : BuildSays S pl r T w x w' := ⟨h1, h2, h3⟩

set_option maxRecDepth 20000 in
set_option maxHeartbeats 12800000 in
theorem build_any {TS : TableSpec} (S : TiersSpec TS) (v : Value) (pl : PlanL) {w : World} {p : Nat} {r : RchL} {T : List (List TRec)} {F : TFoot} (hS : S.Ok w) (hv : PlanRow w v pl) (fm : MFit pl) (h60 : pl.1.1.size ≤ 60) (h10 : pl.1.2.length ≤ 10) (ht : ∀ x ∈ pl.1.2, x.1.size ≤ 60) (h : S.Rep w p r T F) (hl : ∀ l ∈ T, l.length ≤ 1000) (hT : ∀ l ∈ T, ∀ z ∈ l, TFit z) :
    Calls Tryz.prog 35 #[v, tptr p] w fun x w' => BuildSays S pl r T w x w' := by
  have HS := Hid.of hS
  have HV := Hid.of hv
  have FM := Hid.of fm
  have HR := Hid.of h
  have HL := Hid.of hl
  have HT := Hid.of hT
  have H60 := Hid.of h60
  have H10 := Hid.of h10
  have HTN := Hid.of ht
  obtain ⟨s, f, rfl, hs, hf, -, -⟩ := hv
  have HSL := Hid.of hs
  obtain ⟨sa, sc, rfl, -⟩ := hs
  obtain ⟨fa, fc, rfl, -⟩ := hf
  unfold plVal at HV ⊢
  obtain ⟨n, hn⟩ : ∃ n, pl.1.1 = n := ⟨_, rfl⟩
  obtain ⟨N, hN⟩ : ∃ N, pl.1.2.length = N := ⟨_, rfl⟩
  obtain ⟨M, hM⟩ : ∃ M, pl.2.length = M := ⟨_, rfl⟩
  rw [hn, hN, hM] at HV
  rw [hN] at HSL
  rw [hn, hN, hM]
  obtain ⟨B, hB⟩ : ∃ B, w.heap.size = B := ⟨_, rfl⟩
  obtain ⟨w1, hw1⟩ : ∃ w1, w.alloc (.cells #[.string n, .slice sa N sc, .slice fa M fc] 49) = w1 := ⟨_, rfl⟩
  have b1 : Below w.heap.size w w1 := by rw [← hw1]; exact (Below.refl _ _).alloc (Nat.le_refl _) _
  have z1 : w1.heap.size = B + 1 := by rw [← hw1, ← hB]; simp
  have k1 : w1.heap[B]? = some (.cells #[.string n, .slice sa N sc, .slice fa M fc] 49 (0, 0)) := by rw [← hw1, ← hB]; exact (MapKept.heap_alloc w _).1
  have CS1 : Hid (Dc w1 [(⟨B, 0, none⟩, .string n), (⟨B, 1, none⟩, .slice sa N sc), (⟨B, 2, none⟩, .slice fa M fc)]) := Hid.of (Dc.app (Dc.one k1 (i := 0) rfl) (Dc.app (Dc.one k1 (i := 1) rfl) (Dc.one k1 (i := 2) rfl)))
  have PR : Hid (PolRow w (.agg #[.string n, .slice sa N sc]) pl.1) := Hid.of (by
    obtain ⟨s', f', he, hs', -, hc', -⟩ := HV.out
    unfold plVal at he
    simp only [Value.agg.injEq, Array.mk.injEq, List.cons.injEq, and_true] at he
    refine ⟨_, by rw [← hn], ?_, ?_⟩
    · rw [he.2.1]; exact hs'
    · rw [he.2.1]; exact hc')
  have B1 := Hid.of b1
  have Z1 := Hid.of z1
  have HW := Hid.of hw1
  have HBB := Hid.of hB
  have NN := Hid.of hN
  clear hw1 b1 z1 k1 hB hN hM hS fm h hl hn hT h60 h10 ht
  have KEEP : ∀ u, Below w.heap.size w u → Hid (S.Rep u p r T F) := fun u hu => Hid.of (S.kept HR.out hu.size (fun k hk => hu.block k (S.lt HR.out k hk)))
  obtain ⟨c0, c1⟩ : w1.cell? ⟨B, 0, none⟩ = some (.string n) ∧ w1.cell? ⟨B, 1, none⟩ = some (.slice sa N sc) := ⟨CS1.out.head, CS1.out.tail.head⟩
  have c2 : w1.cell? ⟨B, 2, none⟩ = some (.slice fa M fc) := CS1.out.tail.tail.head
  go_enter Tryz.func35, Tryz.ntmps35
  go_upto_region 1 with fail
  rw [HW.out, HBB.out]
  clear HW
  go_wp2_with fail
  refine (tables_any S _ pl (S.okKept HS.out B1.out) (HV.out.kept B1.out) FM.out (KEEP _ B1.out).out HL.out).mono ?_
  rintro e w2 ⟨u, bb, rfl, b2, hb, hg⟩
  have B2 := Hid.of (B1.out.trans (b2.mono B1.out.size))
  have CS2 := Hid.of (CS1.out.next b2)
  clear b2 c0 c1 c2 CS1
  cases bb with
  | false =>
    have NF : Hid (¬ MFits pl r T.length) := Hid.of (fun c => absurd (hb.out.2 c) (by decide))
    go_wp2
    go_ret2
    exact BuildSays.mk (fun c => absurd c NF.out) (fun _ => rfl) B2.out
  | true =>
    have YF : Hid (MFits pl r T.length) := Hid.of (hb.out.1 rfl)
    obtain ⟨qs, Gs, hql, tg1⟩ := hg rfl
    have tg : TbG TS r T (mSrc pl) w.heap.size w.heap.size u qs Gs w2 := ⟨own_mono tg1.own B1.out.size, tg1.gl, tg1.rep, fun G hG k hk => Nat.le_trans B1.out.size (tg1.ge G hG k hk), tg1.off⟩
    clear tg1
    have HQL := Hid.of (hql.trans NN.out)
    have TG := Hid.of tg
    obtain ⟨ua, uc, rfl, -⟩ := own_one tg.own
    clear hb hg hql tg
    have FRR := Hid.of (S.fit HR.out)
    obtain ⟨now, hnow⟩ : ∃ now, r.1 = now := ⟨_, rfl⟩
    obtain ⟨rn, hrn⟩ : ∃ n, r.2.1.1 = n := ⟨_, rfl⟩
    obtain ⟨rs, rf, p0, p1, p2, p3, prr⟩ := S.cells (KEEP _ B2.out).out
    have D2 : Hid (Dc w2 [(⟨B, 0, none⟩, .string n), (⟨B, 1, none⟩, .slice sa N sc), (⟨B, 2, none⟩, .slice fa M fc), (⟨p, 0, none⟩, .int .i64 now), (⟨p, 1, none⟩, .string rn), (⟨p, 2, none⟩, rs), (⟨p, 3, none⟩, rf)]) := Hid.of (Dc.app CS2.out (.cons (cell_lt p0) (by rw [p0, hnow]) (.cons (cell_lt p1) (by rw [p1, hrn]) (.cons (cell_lt p2) p2 (.cons (cell_lt p3) p3 (Dc.nil _))))))
    have RR2 : Hid (RchRow w2 (.agg #[.int .i64 now, .string rn, rs, rf]) r) := Hid.of (by have := prr; unfold rVal at this; rwa [hnow, hrn] at this)
    have HNOW := Hid.of hnow
    have NW64 : Hid (In64 now) := Hid.of (by rw [← hnow]; exact FRR.out.1)
    clear p0 p1 p2 p3 prr hnow hrn
    obtain ⟨er, her⟩ : ∃ er, iNewE pl.1 now (mBases pl r) = er := ⟨_, rfl⟩
    have HER := Hid.of her
    have HER3 : Hid (iNewE pl.1 r.1 (mBases pl r) = er) := Hid.of (by rw [HNOW.out]; exact her)
    clear her
    go_upto_region 4 with fail
    have bd := (Below.refl w2.heap.size w2).drew
    have B2d := Hid.of (B2.out.trans (bd.mono B2.out.size))
    have TGd := Hid.of (TG.out.next bd)
    have Dd := Hid.of (D2.out.next bd)
    have RRd := Hid.of (RR2.out.kept bd)
    clear bd
    have d0 := (D2.out).head
    have d1 := ((D2.out).tail).head
    have d2 := (((D2.out).tail).tail).head
    have d3 := ((((D2.out).tail).tail).tail).head
    have d4 := (((((D2.out).tail).tail).tail).tail).head
    have d5 := ((((((D2.out).tail).tail).tail).tail).tail).head
    have d6 := (((((((D2.out).tail).tail).tail).tail).tail).tail).head
    refine wp_region_noPanic ?_
    refine wp_region_held_drew (S := fun w' => w'.cell? ⟨B, 0, none⟩ = some (.string n) ∧ w'.cell? ⟨B, 1, none⟩ = some (.slice sa N sc) ∧ w'.cell? ⟨B, 2, none⟩ = some (.slice fa M fc) ∧ w'.cell? ⟨p, 0, none⟩ = some (.int .i64 now) ∧ w'.cell? ⟨p, 1, none⟩ = some (.string rn) ∧ w'.cell? ⟨p, 2, none⟩ = some (rs) ∧ w'.cell? ⟨p, 3, none⟩ = some (rf)) (by kernel_rfl) ?_ (fun hHeld => ?_)
    · exact ⟨d0, d1, d2, d3, d4, d5, d6⟩
    refine takeOp 0 (o := ⟨_, _, _, _, _, _⟩) (v := ?_) rfl (by kernel_rfl) (by rfl) hHeld ?_ ?_; rotate_left; (next => intro w' hSw; (try dsimp only at hSw); go_simp; all_goals with_reducible rfl); simp only [Act.put, pA9, pB9, pC9]
    refine takeOp 1 (o := ⟨_, _, _, _, _, _⟩) (v := ?_) rfl (by kernel_rfl) (by rfl) hHeld ?_ ?_; rotate_left; (next => intro w' hSw; (try dsimp only at hSw); go_simp; all_goals with_reducible rfl); simp only [Act.put, pA9, pB9, pC9]
    refine takeOp 2 (o := ⟨_, _, _, _, _, _⟩) (v := ?_) rfl (by kernel_rfl) (by rfl) hHeld ?_ ?_; rotate_left; (next => intro w' hSw; (try dsimp only at hSw); go_simp; all_goals with_reducible rfl); simp only [Act.put, pA9, pB9, pC9]
    refine takeOp 3 (o := ⟨_, _, _, _, _, _⟩) (v := ?_) rfl (by kernel_rfl) (by rfl) hHeld ?_ ?_; rotate_left; (next => intro w' hSw; (try dsimp only at hSw); go_simp; all_goals with_reducible rfl); simp only [Act.put, pA9, pB9, pC9]
    refine takeOp 4 (o := ⟨_, _, _, _, _, _⟩) (v := ?_) rfl (by kernel_rfl) (by rfl) hHeld ?_ ?_; rotate_left; (next => intro w' hSw; (try dsimp only at hSw); go_simp; all_goals with_reducible rfl); simp only [Act.put, pA9, pB9, pC9]
    refine takeOp 5 (o := ⟨_, _, _, _, _, _⟩) (v := ?_) rfl (by kernel_rfl) (by rfl) hHeld ?_ ?_; rotate_left; (next => intro w' hSw; (try dsimp only at hSw); go_simp; all_goals with_reducible rfl); simp only [Act.put, pA9, pB9, pC9]
    refine takeOp 6 (o := ⟨_, _, _, _, _, _⟩) (v := ?_) rfl (by kernel_rfl) (by rfl) hHeld ?_ ?_; rotate_left; (next => intro w' hSw; (try dsimp only at hSw); go_simp; all_goals with_reducible rfl); simp only [Act.put, pA9, pB9, pC9]
    refine takeOp 7 (o := ⟨_, _, _, _, _, _⟩) (v := ?_) rfl (by kernel_rfl) (by rfl) hHeld ?_ ?_; rotate_left; (next => intro w' hSw; (try dsimp only at hSw); go_simp; all_goals with_reducible rfl); simp only [Act.put, pA9, pB9, pC9]
    refine takeOp 8 (o := ⟨_, _, _, _, _, _⟩) (v := ?_) rfl (by kernel_rfl) (by rfl) hHeld ?_ ?_; rotate_left; (next => intro w' hSw; (try dsimp only at hSw); go_simp; all_goals with_reducible rfl); simp only [Act.put, pA9, pB9, pC9]
    refine takeOp 9 (o := ⟨_, _, _, _, _, _⟩) (v := ?_) rfl (by kernel_rfl) (by rfl) hHeld ?_ ?_; rotate_left; (next => intro w' hSw; (try dsimp only at hSw); go_simp; all_goals with_reducible rfl); simp only [Act.put, pA9, pB9, pC9]
    refine takeOp 10 (o := ⟨_, _, _, _, _, _⟩) (v := ?_) rfl (by kernel_rfl) (by rfl) hHeld ?_ ?_; rotate_left; (next => intro w' hSw; (try dsimp only at hSw); go_simp; all_goals with_reducible rfl); simp only [Act.put, pA9, pB9, pC9]
    refine takeOp 11 (o := ⟨_, _, _, _, _, _⟩) (v := ?_) rfl (by kernel_rfl) (by rfl) hHeld ?_ ?_; rotate_left; (next => intro w' hSw; (try dsimp only at hSw); go_simp; all_goals with_reducible rfl); simp only [Act.put, pA9, pB9, pC9]
    refine wpAnyH_ready (rs := [12]) (by kernel_rfl) (by simp) ?_
    refine AllReadyH.cons (o := ⟨_, _, _, _, _, _⟩) rfl (fun K hK => ?_) AllReadyH.nil
    go_simp
    refine (bases_any _ _ pl r _ FM.out FRR.out (HV.out.kept B2d.out) RRd.out).mono ?_
    rintro e w3 ⟨u, rfl, ou, b3⟩
    have B3 := Hid.of (B2d.out.trans (b3.mono B2d.out.size))
    have TG3 := Hid.of (TGd.out.next b3)
    have D3 := Hid.of (Dd.out.next b3)
    have U3 := Hid.of (own_row ou)
    have UC := Hid.of (own_cap ou)
    clear b3 ou B2d TGd Dd RRd B2 TG D2 RR2
    clear hHeld d0 d1 d2 d3 d4 d5 d6
    have d0 := (D3.out).head
    have d1 := ((D3.out).tail).head
    have d2 := (((D3.out).tail).tail).head
    have d3 := ((((D3.out).tail).tail).tail).head
    have d4 := (((((D3.out).tail).tail).tail).tail).head
    have d5 := ((((((D3.out).tail).tail).tail).tail).tail).head
    have d6 := (((((((D3.out).tail).tail).tail).tail).tail).tail).head
    refine hK.out _ _ ⟨d0, d1, d2, d3, d4, d5, d6⟩ (fun hHeld => ?_)
    clear hK K
    try simp only [Act.put, pA9, pB9, pC9]
    refine wpAnyH_ready (rs := [13]) (by kernel_rfl) (by simp) ?_
    refine AllReadyH.cons (o := ⟨_, _, _, _, _, _⟩) rfl (fun K hK => ?_) AllReadyH.nil
    go_simp
    refine (S.new _ u pl.1 now (mBases pl r) _ (S.okKept HS.out B3.out) (PR.out.kept B3.out) H60.out H10.out (fun x hx => ⟨HTN.out x hx, (FM.out.1.2.2 x hx).2⟩) NW64.out U3.out UC.out (by rw [mBases_len]; have := H10.out; omega) (mBases_in FM.out FRR.out)).mono ?_
    rintro e w4 ⟨h1, h2, b4⟩
    have S3 : Hid (w.heap.size ≤ w3.heap.size) := Hid.of B3.out.size
    have LT3 : Hid (∀ G ∈ Gs, ∀ k, G.all k → k < w3.heap.size) := Hid.of (fun G hG k hk => TG3.out.lt hG hk)
    have LU3 : Hid (∀ k, (Value.slice ua qs.length uc).ownBlock = some k → k < w3.heap.size) := Hid.of (fun k hk => iown_lt TG3.out.own hk)
    have LD3 : Hid (∀ x ∈ [((⟨B, 0, none⟩ : Addr), Value.string n), (⟨B, 1, none⟩, .slice sa N sc), (⟨B, 2, none⟩, .slice fa M fc)], x.1.block < w3.heap.size) := Hid.of (fun x hx => (Dc.left (k := [(⟨B, 0, none⟩, .string n), (⟨B, 1, none⟩, .slice sa N sc), (⟨B, 2, none⟩, .slice fa M fc)]) (l := [(⟨p, 0, none⟩, .int .i64 now), (⟨p, 1, none⟩, .string rn), (⟨p, 2, none⟩, rs), (⟨p, 3, none⟩, rf)]) D3.out x hx).1)
    have B4 := Hid.of (B3.out.trans (b4.mono B3.out.size))
    have TG4 := Hid.of (TG3.out.next b4)
    have D4 := Hid.of (D3.out.next b4)
    have S34 := Hid.of b4.size
    clear b4 B3 TG3 D3 U3 UC
    have h3 : Hid (∃ ad, e = .returned (.tuple #[.pointer ad, .int .i64 er]) ∧ (er = 0 → ∃ q F', ad = some ⟨q, 0, none⟩ ∧ S.Rep w4 q (mTo pl r) (mPart pl r T 0) F' ∧ ∀ k, F'.all k → w3.heap.size ≤ k) ∧ (er ≠ 0 → ad = none)) := Hid.of (by
      have HER2 := HER.out
      by_cases c : er = 0
      · obtain ⟨q, F', e1, e2, e3⟩ := h1 (HER2.trans c)
        exact ⟨_, by rw [e1, c], fun _ => ⟨q, F', rfl, by rw [mPart_zero]; have := e2; rw [← HNOW.out] at this; exact this, e3⟩, fun d => absurd c d⟩
      · have e1 := h2 (fun d => c (HER2.symm.trans d))
        exact ⟨none, by rw [e1, HER2], fun d => absurd d c, fun _ => rfl⟩)
    clear h1 h2
    obtain ⟨ad, h4, h5, h6⟩ := h3.out
    subst h4
    have H5 := Hid.of h5
    have H6 := Hid.of h6
    clear h3 h5 h6
    clear hHeld d0 d1 d2 d3 d4 d5 d6
    have d0 := (D4.out).head
    have d1 := ((D4.out).tail).head
    have d2 := (((D4.out).tail).tail).head
    have d3 := ((((D4.out).tail).tail).tail).head
    have d4 := (((((D4.out).tail).tail).tail).tail).head
    have d5 := ((((((D4.out).tail).tail).tail).tail).tail).head
    have d6 := (((((((D4.out).tail).tail).tail).tail).tail).tail).head
    refine hK.out _ _ ⟨d0, d1, d2, d3, d4, d5, d6⟩ (fun hHeld => ?_)
    clear hK K
    try simp only [Act.put, pA9, pB9, pC9]
    refine takeOp 14 (o := ⟨_, _, _, _, _, _⟩) (v := ?_) rfl (by kernel_rfl) (by rfl) hHeld ?_ ?_; rotate_left; (next => intro w' hSw; (try dsimp only at hSw); go_simp; all_goals with_reducible rfl); simp only [Act.put, pA9, pB9, pC9]
    refine takeOp 15 (o := ⟨_, _, _, _, _, _⟩) (v := ?_) rfl (by kernel_rfl) (by rfl) hHeld ?_ ?_; rotate_left; (next => intro w' hSw; (try dsimp only at hSw); go_simp; all_goals with_reducible rfl); simp only [Act.put, pA9, pB9, pC9]
    refine takeOp 16 (o := ⟨_, _, _, _, _, _⟩) (v := ?_) rfl (by kernel_rfl) (by rfl) hHeld ?_ ?_; rotate_left; (next => intro w' hSw; (try dsimp only at hSw); go_simp; all_goals with_reducible rfl); simp only [Act.put, pA9, pB9, pC9]
    refine takeOp 17 (o := ⟨_, _, _, _, _, _⟩) (v := ?_) rfl (by kernel_rfl) (by rfl) hHeld ?_ ?_; rotate_left; (next => intro w' hSw; (try dsimp only at hSw); go_simp; all_goals with_reducible rfl); simp only [Act.put, pA9, pB9, pC9]
    refine takeOp 18 (o := ⟨_, _, _, _, _, _⟩) (v := ?_) rfl (by kernel_rfl) (by rfl) hHeld ?_ ?_; rotate_left; (next => intro w' hSw; (try dsimp only at hSw); go_simp; all_goals with_reducible rfl); simp only [Act.put, pA9, pB9, pC9]
    refine wpAnyH_done (by kernel_rfl) ?_ _
    refine NoPanic.normal ?_
    clear hHeld d0 d1 d2 d3 d4 d5 d6
    by_cases he : er = 0
    case neg =>
      obtain rfl := H6.out he
      have he2 : (er == 0) = false := beq_eq_false_iff_ne.2 he
      have HE := Hid.of he
      go_wp2
      go_ret2
      exact BuildSays.mk (fun _ => ⟨fun c => absurd (HER3.out.symm.trans c) HE.out, fun _ => by rw [HER3.out]; rfl⟩) (fun c => absurd YF.out c) B4.out
    obtain ⟨q, F1, rfl, rep1, fa1⟩ := H5.out he
    subst he
    have G4 : Hid (BuG S pl r T w3.heap.size q (.slice ua qs.length uc) qs Gs [(⟨B, 0, none⟩, .string n), (⟨B, 1, none⟩, .slice sa N sc), (⟨B, 2, none⟩, .slice fa M fc)] 0 F1 w w4) := Hid.of
      ⟨TG4.out, rep1, fa1, S3.out, S34.out, fun G hG k hk c => by have := LT3.out G hG k hk; have := fa1 k (S.sub rep1 k c); omega, fun k hk c => by have := LU3.out k hk; have := fa1 k (S.sub rep1 k c); omega, Dc.left (k := [(⟨B, 0, none⟩, .string n), (⟨B, 1, none⟩, .slice sa N sc), (⟨B, 2, none⟩, .slice fa M fc)]) (l := [(⟨p, 0, none⟩, .int .i64 now), (⟨p, 1, none⟩, .string rn), (⟨p, 2, none⟩, rs), (⟨p, 3, none⟩, rf)]) D4.out, LD3.out, B4.out⟩
    have FTO := Hid.of (S.fit rep1)
    clear rep1 fa1 TG4 D4 B4 S3 S34 LT3 LU3 LD3 H5 H6
    rw [HQL.out] at G4
    simp only [HQL.out]
    have n10 : N ≤ 10 := by have := H10.out; rw [NN.out] at this; exact this
    go_upto_region 8 with fail
    go_loopg [43] N (fun kx iv wr => ∃ (j : Nat) (F' : TFoot), iv = .int .i64 j ∧ j ≤ N ∧ N - j ≤ kx ∧ Hid (BuG S pl r T w3.heap.size q (.slice ua N uc) qs Gs [(⟨B, 0, none⟩, .string n), (⟨B, 1, none⟩, .slice sa N sc), (⟨B, 2, none⟩, .slice fa M fc)] j F' w wr))
    case atStart => exact ⟨0, F1, rfl, Nat.zero_le _, Nat.le_refl _, G4⟩
    case round =>
      clear G4
      obtain ⟨j, F', rfl, hj, hk, G⟩ := hrel
      have j0 : (0 : Int) ≤ (j : Int) := Int.natCast_nonneg _
      by_cases hlt : (j : Int) < (N : Int)
      · obtain ⟨t, ht⟩ : ∃ t, pl.1.2[j]? = some t := ⟨_, List.getElem?_eq_getElem (by have := NN.out; omega)⟩
        have HTK := Hid.of (tier_known YF.out.1 ht)
        obtain ⟨tb, to_, hta, htl, -, d1, -, -⟩ := p_at (HSL.out.kept G.out.fr) j t ht
        subst hta
        obtain ⟨x, hx⟩ : ∃ x, qs[j]? = some x := ⟨_, List.getElem?_eq_getElem (by have := HQL.out; omega)⟩
        obtain ⟨G1, hG1⟩ : ∃ G1, Gs[j]? = some G1 := ⟨_, List.getElem?_eq_getElem (by have := G.out.g.gl; have := HQL.out; omega)⟩
        obtain ⟨lb, lo, hla, hlb, hlx⟩ := ptr_at (own_row G.out.g.own) hx
        subst hla
        have HTT := Hid.of ht
        have HX := Hid.of hx
        have HG1 := Hid.of hG1
        obtain ⟨t0, ev, t2, sh⟩ := t
        simp only at d1 HTK
        have HJ : Hid (j < N) := Hid.of (by omega)
        obtain ⟨s', f', p0, p1, p2, p3, prr⟩ := S.cells G.out.rep
        obtain ⟨on, hon⟩ : ∃ n, (mTo pl r).1 = n := ⟨_, rfl⟩
        obtain ⟨orn, horn⟩ : ∃ n, (mTo pl r).2.1.1 = n := ⟨_, rfl⟩
        unfold rVal at prr
        rw [hon] at p0 prr
        rw [horn] at p1 prr
        have D0 : Hid (Dc wr [(⟨B, 1, none⟩, .slice (some ⟨tb, to_, none⟩) N sc), (⟨tb, to_ + j * 4 + 1, none⟩, .int .i64 ev), (⟨q, 0, none⟩, .int .i64 on), (⟨q, 1, none⟩, .string orn), (⟨q, 2, none⟩, s'), (⟨q, 3, none⟩, f')]) := Hid.of (.cons G.out.cs.tail.lt G.out.cs.tail.head (.cons htl d1 (.cons (cell_lt p0) p0 (.cons (cell_lt p1) p1 (.cons (cell_lt p2) p2 (.cons (cell_lt p3) p3 (Dc.nil _)))))))
        have RR0 : Hid (RchRow wr (.agg #[.int .i64 on, .string orn, s', f']) (mTo pl r)) := Hid.of prr
        obtain ⟨fx, hfx⟩ : ∃ fx, rFrom (mTo pl r) (j : Int) = fx := ⟨_, rfl⟩
        have HFX := Hid.of hfx
        have FXI : Hid (TIn64 fx) := Hid.of (by rw [← hfx]; exact rFrom_in2 FTO.out _)
        have EVI : Hid (TIn64 ev) := Hid.of (by have h1 := HTK.out.1; have h2 := HTK.out.2.1; unfold TIn64; omega)
        have TABE : Hid (tRoll (tEv r (mSrc pl j).toNat) (T.getD (mSrc pl j).toNat []) ev fx = mTab pl r T j (t0, ev, t2, sh)) := Hid.of (by unfold mTab; rw [← hfx, rFrom_nat2])
        have LD1 : Hid ((T.getD (mSrc pl j).toNat []).length ≤ 1000) := Hid.of (by
          rw [List.getD_eq_getElem?_getD]
          cases c : T[(mSrc pl j).toNat]? with
          | none => exact Nat.zero_le _
          | some l => exact HL.out l (List.mem_of_getElem? c))
        clear ht hx hG1 hlb htl d1 p0 p1 p2 p3 prr hon horn hfx
        go_upto_region 10 with fail
        clear hlx
        have bd := (Below.refl wr.heap.size wr).drew
        have Gd := Hid.of (G.out.next bd)
        have Dd := Hid.of (D0.out.next bd)
        have RRd := Hid.of (RR0.out.kept bd)
        clear bd G RR0
        have d0 := (D0.out).head
        have d1 := ((D0.out).tail).head
        have d2 := (((D0.out).tail).tail).head
        have d3 := ((((D0.out).tail).tail).tail).head
        have d4 := (((((D0.out).tail).tail).tail).tail).head
        have d5 := ((((((D0.out).tail).tail).tail).tail).tail).head
        refine wp_region_noPanic ?_
        refine wp_region_held_drew (S := fun w' => w'.cell? ⟨B, 1, none⟩ = some (.slice (some ⟨tb, to_, none⟩) N sc) ∧ w'.cell? ⟨tb, to_ + j * 4 + 1, none⟩ = some (.int .i64 ev) ∧ w'.cell? ⟨q, 0, none⟩ = some (.int .i64 on) ∧ w'.cell? ⟨q, 1, none⟩ = some (.string orn) ∧ w'.cell? ⟨q, 2, none⟩ = some (s') ∧ w'.cell? ⟨q, 3, none⟩ = some (f')) (by kernel_rfl) ?_ (fun hHeld => ?_)
        · exact ⟨d0, d1, d2, d3, d4, d5⟩
        refine takeOp 0 (o := ⟨_, _, _, _, _, _⟩) (v := ?_) rfl (by kernel_rfl) (by rfl) hHeld ?_ ?_; rotate_left; (next => intro w' hSw; (try dsimp only at hSw); go_simp; all_goals with_reducible rfl); simp only [Act.put, pA9, pB9, pC9]
        refine takeOp 1 (o := ⟨_, _, _, _, _, _⟩) (v := ?_) rfl (by kernel_rfl) (by rfl) hHeld ?_ ?_; rotate_left; (next => intro w' hSw; (try dsimp only at hSw); go_simp; all_goals with_reducible rfl); simp only [Act.put, pA9, pB9, pC9]
        refine takeOp 2 (o := ⟨_, _, _, _, _, _⟩) (v := ?_) rfl (by kernel_rfl) (by rfl) hHeld ?_ ?_; rotate_left; (next => intro w' hSw; (try dsimp only at hSw); go_simp; all_goals with_reducible rfl); simp only [Act.put, pA9, pB9, pC9]
        refine takeOp 3 (o := ⟨_, _, _, _, _, _⟩) (v := ?_) rfl (by kernel_rfl) (by rfl) hHeld ?_ ?_; rotate_left; (next => intro w' hSw; (try dsimp only at hSw); go_simp; all_goals with_reducible rfl); simp only [Act.put, pA9, pB9, pC9]
        refine takeOp 4 (o := ⟨_, _, _, _, _, _⟩) (v := ?_) rfl (by kernel_rfl) (by rfl) hHeld ?_ ?_; rotate_left; (next => intro w' hSw; (try dsimp only at hSw); go_simp; all_goals with_reducible rfl); simp only [Act.put, pA9, pB9, pC9]
        refine takeOp 5 (o := ⟨_, _, _, _, _, _⟩) (v := ?_) rfl (by kernel_rfl) (by rfl) hHeld ?_ ?_; rotate_left; (next => intro w' hSw; (try dsimp only at hSw); go_simp; all_goals with_reducible rfl); simp only [Act.put, pA9, pB9, pC9]
        refine takeOp 6 (o := ⟨_, _, _, _, _, _⟩) (v := ?_) rfl (by kernel_rfl) (by rfl) hHeld ?_ ?_; rotate_left; (next => intro w' hSw; (try dsimp only at hSw); go_simp; all_goals with_reducible rfl); simp only [Act.put, pA9, pB9, pC9]
        refine takeOp 7 (o := ⟨_, _, _, _, _, _⟩) (v := ?_) rfl (by kernel_rfl) (by rfl) hHeld ?_ ?_; rotate_left; (next => intro w' hSw; (try dsimp only at hSw); go_simp; all_goals with_reducible rfl); simp only [Act.put, pA9, pB9, pC9]
        refine takeOp 8 (o := ⟨_, _, _, _, _, _⟩) (v := ?_) rfl (by kernel_rfl) (by rfl) hHeld ?_ ?_; rotate_left; (next => intro w' hSw; (try dsimp only at hSw); go_simp; all_goals with_reducible rfl); simp only [Act.put, pA9, pB9, pC9]
        refine takeOp 9 (o := ⟨_, _, _, _, _, _⟩) (v := ?_) rfl (by kernel_rfl) (by rfl) hHeld ?_ ?_; rotate_left; (next => intro w' hSw; (try dsimp only at hSw); go_simp; all_goals with_reducible rfl); simp only [Act.put, pA9, pB9, pC9]
        refine takeOp 10 (o := ⟨_, _, _, _, _, _⟩) (v := ?_) rfl (by kernel_rfl) (by rfl) hHeld ?_ ?_; rotate_left; (next => intro w' hSw; (try dsimp only at hSw); go_simp; all_goals with_reducible rfl); simp only [Act.put, pA9, pB9, pC9]
        refine takeOp 11 (o := ⟨_, _, _, _, _, _⟩) (v := ?_) rfl (by kernel_rfl) (by rfl) hHeld ?_ ?_; rotate_left; (next => intro w' hSw; (try dsimp only at hSw); go_simp; all_goals with_reducible rfl); simp only [Act.put, pA9, pB9, pC9]
        refine takeOp 12 (o := ⟨_, _, _, _, _, _⟩) (v := ?_) rfl (by kernel_rfl) (by rfl) hHeld ?_ ?_; rotate_left; (next => intro w' hSw; (try dsimp only at hSw); go_simp; all_goals with_reducible rfl); simp only [Act.put, pA9, pB9, pC9]
        refine wpAnyH_ready (rs := [13]) (by kernel_rfl) (by simp) ?_
        refine AllReadyH.cons (o := ⟨_, _, _, _, _, _⟩) rfl (fun K hK => ?_) AllReadyH.nil
        go_simp
        refine (reaches.from_ _ (mTo pl r) (j : Int) _ trivial FTO.out (by unfold In64; omega) RRd.out).mono ?_
        rintro e w5 ⟨rfl, b5⟩
        rw [HFX.out]
        have G5 := Hid.of (Gd.out.next b5)
        have D5 := Hid.of (Dd.out.next b5)
        clear b5 Gd Dd RRd D0
        clear hHeld d0 d1 d2 d3 d4 d5
        have d0 := (D5.out).head
        have d1 := ((D5.out).tail).head
        have d2 := (((D5.out).tail).tail).head
        have d3 := ((((D5.out).tail).tail).tail).head
        have d4 := (((((D5.out).tail).tail).tail).tail).head
        have d5 := ((((((D5.out).tail).tail).tail).tail).tail).head
        refine hK.out _ _ ⟨d0, d1, d2, d3, d4, d5⟩ (fun hHeld => ?_)
        clear hK K
        try simp only [Act.put, pA9, pB9, pC9]
        refine wpAnyH_ready (rs := [14]) (by kernel_rfl) (by simp) ?_
        refine AllReadyH.cons (o := ⟨_, _, _, _, _, _⟩) rfl (fun K hK => ?_) AllReadyH.nil
        go_simp
        refine (TS.roll ev fx (G5.out.g.rep j x G1 HX.out HG1.out) LD1.out EVI.out FXI.out).mono ?_
        rintro e w6 ⟨q6, G6, rfl, rep6, -, -, b6⟩
        have RQ := Hid.of rep6
        have GQ := Hid.of (G5.out.next b6)
        have D6 := Hid.of (D5.out.next b6)
        clear b6 rep6 G5 D5
        clear hHeld d0 d1 d2 d3 d4 d5
        have d0 := (D6.out).head
        have d1 := ((D6.out).tail).head
        have d2 := (((D6.out).tail).tail).head
        have d3 := ((((D6.out).tail).tail).tail).head
        have d4 := (((((D6.out).tail).tail).tail).tail).head
        have d5 := ((((((D6.out).tail).tail).tail).tail).tail).head
        refine hK.out _ _ ⟨d0, d1, d2, d3, d4, d5⟩ (fun hHeld => ?_)
        clear hK K
        try simp only [Act.put, pA9, pB9, pC9]
        refine takeOp 15 (o := ⟨_, _, _, _, _, _⟩) (v := ?_) rfl (by kernel_rfl) (by rfl) hHeld ?_ ?_; rotate_left; (next => intro w' hSw; (try dsimp only at hSw); go_simp; all_goals with_reducible rfl); simp only [Act.put, pA9, pB9, pC9]
        refine wpAnyH_done (by kernel_rfl) ?_ _
        refine NoPanic.normal ?_
        clear hHeld d0 d1 d2 d3 d4 d5 D6
        have hall := TS.all RQ.out (by rw [TABE.out]; exact mTab_len HL.out j _)
        rw [TABE.out] at hall
        clear RQ LD1
        go_wp2_with fail
        refine hall.mono ?_
        rintro e w7 ⟨u7, rfl, o7, b7⟩
        have G7 := Hid.of (GQ.out.next b7)
        have O7 := Hid.of o7
        have HGE : Hid (∀ k, u7.ownBlock = some k → ¬ F'.own k) := Hid.of (fun k hk c => by have h1 := (o7.lt k hk).1; have h2 := S.lt GQ.out.rep k (S.sub GQ.out.rep k c); omega)
        clear hall o7 b7 GQ
        have hload := S.load (j : Int) u7 (mTab pl r T j (t0, ev, t2, sh)) (S.okKept HS.out G7.out.fr) G7.out.rep (fun _ => by rw [show ((j : Int).toNat) = j by omega, mPart_none]; have := mTab_len HL.out j ((t0, ev, t2, sh) : TierL) (pl := pl) (r := r); simpa using this) (own_row O7.out) (own_cap O7.out) (fun _ k hk => HGE.out k hk) (by
          have hz : ∀ z ∈ T.getD (mSrc pl j).toNat [], TFit z := fun z hz => by
            rw [List.getD_eq_getElem?_getD] at hz
            cases c : T[(mSrc pl j).toNat]? with
            | none => rw [c] at hz; exact absurd hz List.not_mem_nil
            | some l => rw [c] at hz; exact HT.out l (List.mem_of_getElem? c) z hz
          exact (roll_fit HTK.out.1 EVI.out hz).2.1) (by unfold In64; omega)
        go_wp2_with fail
        refine hload.mono ?_
        rintro e w8 ⟨he8, F2, rep2, st2⟩
        obtain ⟨vv, rfl⟩ : ∃ vv : Int, e = .returned (.int .i64 vv) := ⟨_, he8⟩
        clear he8
        rw [if_pos (by omega), show ((j : Int).toNat) = j by omega, mPart_load HTT.out HTK.out.1 EVI.out HT.out] at rep2
        have G8 := Hid.of (G7.out.step rep2 st2)
        clear rep2 st2 hload G7 O7 HGE
        go_wp2
        go_roundg (N - (j + 1))
        case measure => have := HJ.out; omega
        case rel => exact ⟨j + 1, F2, by go_num, HJ.out, Nat.le_refl _, G8⟩
      · obtain rfl : j = N := by omega
        have RE : Hid (S.Rep wr q (mTo pl r) (mBuilt pl r T) F') := Hid.of (by have := G.out.rep; rwa [← NN.out, mPart_end] at this)
        go_wp2
        go_ret2
        exact BuildSays.mk (fun _ => ⟨fun _ => ⟨q, F', rfl, RE.out, fun k hk => Nat.le_trans G.out.bB (G.out.fa k hk)⟩, fun c => absurd HER3.out c⟩) (fun c => absurd YF.out c) G.out.fr

end Go.Proofs.YtbhcafginmkaaaaGreat
