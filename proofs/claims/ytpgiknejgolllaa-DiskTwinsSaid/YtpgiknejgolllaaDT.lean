/-
  What statement DiskTwins answers: true, for every input.
-/
import Derived.Test.YtpgiknejgolllaaDV
namespace Go.Proofs.Ytpgiknejgolllaa
open Go.RowKit Go.Lib

theorem own_row1 {w : World} {B : Nat} {e : TypeId} {v : Value} {n : Nat} {xs : List Value} (h : w.ownsRow B e 1 v n xs) : CellRow w v n xs := by
  obtain ⟨a, c, rfl⟩ := own_slice h
  refine ⟨a, c, rfl, ?_⟩
  rcases h.2 with ⟨h0, h0'⟩ | ⟨g, cap, cur, h0, _, hrow, _⟩
  · subst h0'
    exact .inl (List.eq_nil_of_length_eq_zero (by simpa using h.1))
  · simp only [Value.slice.injEq] at h0
    obtain ⟨rfl, _, rfl⟩ := h0
    refine .inr ⟨g, 0, rfl, (Array.getElem?_eq_some_iff.1 hrow).1, fun j u hj => ?_⟩
    rw [Nat.zero_add, h.cellAt j (by
      have := (List.getElem?_eq_some_iff.1 hj).1
      have := h.1
      omega)]
    exact hj

variable {S : DiskSpec} {B p p2 : Nat} {w0 w w' : World} {s s2 : DSt} {F F2 G G' : Foot}

/-- What is done to another disk leaves it. -/
theorem DHere.beside (H : DHere S B w0 w p s F) (st : FStep G G' w w') (hd : ∀ k, F.all k → ¬ G.own k) (hG : ∀ k, G.own k → B ≤ k) : DHere S B w0 w' p s F :=
  ⟨S.kept H.rep st.own.size (fun k hk => st.own.block k (S.lt H.rep k hk) (hd k hk)), H.ge, Nat.le_trans H.hB st.own.size, st.own.below H.fr H.hB hG⟩

theorem DHere.apart (H : DHere S B w0 w p s F) (st : FStep G G' w w') (hd : ∀ k, F.all k → ¬ G.own k) : ∀ k, F.all k → ¬ G'.own k := by
  intro k hk c
  rcases st.own.foot k c with c | c
  · exact hd k hk c
  · have := S.lt H.rep k hk
    omega

theorem DHere.twin (H : DHere S B w0 w p s F) (hs : s.Small 1000) :
    Calls Try.prog 17 #[dptr p] w fun e w' => ∃ p2 F2, e = .returned (dptr p2) ∧ DHere S B w0 w' p2 s F2 ∧ (∀ k, F2.own k → w.heap.size ≤ k) ∧ Below w.heap.size w w' := by
  refine (S.twin H.rep hs).mono ?_
  rintro e w' ⟨p2, F2, rfl, r, h, m, b⟩
  exact ⟨p2, F2, rfl, ⟨r, fun k hk => by
    rcases m k hk with c | c
    · exact H.ge k c
    · exact Nat.le_trans H.hB c, Nat.le_trans H.hB b.size, H.fr.trans (b.mono H.hB)⟩, h, b⟩

theorem cut_off (s : DSt) (ks : List Int) : (s.cut ks).on = false := by
  unfold DSt.cut
  split
  · rfl
  · rename_i h
    simpa using h

/-- A disk, its twin, and a row of one's own, each apart from what is written into the twin. -/
structure Pair (S : DiskSpec) (B : Nat) (w0 w : World) (p p2 : Nat) (s s2 : DSt) (F G : Foot) (u : Value) (n : Nat) (xs : List Value) : Prop where
  d : DHere S B w0 w p s F
  t : DHere S B w0 w p2 s2 G
  ap : ∀ k, F.all k → ¬ G.own k
  row : CellRow w u n xs
  off : Off G.own u
  lt : ∀ g, u.ownBlock = some g → g < w.heap.size

theorem Pair.next {u : Value} {n : Nat} {xs : List Value} (h : Pair S B w0 w p p2 s s2 F G u n xs) (b : Below w.heap.size w w') : Pair S B w0 w' p p2 s s2 F G u n xs :=
  ⟨h.d.next b, h.t.next b, h.ap, h.row.kept b, h.off, fun g hg => Nat.lt_of_lt_of_le (h.lt g hg) b.size⟩

theorem Pair.step {u : Value} {n : Nat} {xs : List Value} {s3 : DSt} (h : Pair S B w0 w p p2 s s2 F G u n xs) (d : DHere S B w0 w' p2 s3 G') (st : FStep G G' w w') : Pair S B w0 w' p p2 s s3 F G' u n xs :=
  ⟨h.d.beside st h.ap (fun k hk => h.t.ge k (S.sub h.t.rep k hk)), d, h.d.apart st h.ap, st.own.row h.row h.off, h.off.next st.own h.lt, fun g hg => Nat.lt_of_lt_of_le (h.lt g hg) st.own.size⟩

set_option maxRecDepth 20000 in
set_option maxHeartbeats 6400000 in
theorem diskTwins_main (S : DiskSpec) (v1 v2 : Value) (l m : List OpL) (w : World) (hv1 : OpsRow w v1 l) (hv2 : OpsRow w v2 m) :
    Calls Try.prog 6 #[v1, v2] w fun e w' => e = .returned (.bool true) ∧ Below w.heap.size w w' := by
  have HV1 := Hid.of hv1
  have HV2 := Hid.of hv2
  obtain ⟨⟨a1, c1, rfl, _⟩, _⟩ := hv1
  obtain ⟨⟨a2, c2, rfl, _⟩, _⟩ := hv2
  go_enter Try.func6, Try.ntmps6
  go_wp2_with fail
  refine (Light_any _ l _ HV1.out).mono ?_
  rintro e w1 ⟨r1, rfl, hr1, b1⟩
  have B1 := Hid.of b1
  clear b1
  cases r1 with
  | false =>
    go_wp2_with fail
    refine (diskAlive_any S _).mono ?_
    rintro e w2 ⟨rfl, b2⟩
    go_wp2
    go_ret
    exact ⟨rfl, B1.out.trans (b2.mono B1.out.size)⟩
  | true =>
    have L1 := Hid.of (hr1.out rfl)
    clear hr1
    go_wp2_with fail
    refine (Light_any _ m _ (HV2.out.kept B1.out)).mono ?_
    rintro e w2 ⟨r2, rfl, hr2, b2⟩
    have B2 := Hid.of (B1.out.trans (b2.mono B1.out.size))
    clear b2
    cases r2 with
    | false =>
      go_wp2_with fail
      refine (diskAlive_any S _).mono ?_
      rintro e w3 ⟨rfl, b3⟩
      go_wp2
      go_ret
      exact ⟨rfl, B2.out.trans (b3.mono B2.out.size)⟩
    | true =>
      have L2 := Hid.of (hr2.out rfl)
      clear hr2
      by_cases hz : 40 < l.length ∨ 40 < m.length
      · have hz' : 40 < l.length ∨ (¬ 40 < l.length ∧ 40 < m.length) := by omega
        clear hz
        rcases hz' with h1 | ⟨h1, h2⟩
        all_goals
          go_wp2_with fail
          refine (diskAlive_any S _).mono ?_
          rintro e w3 ⟨rfl, b3⟩
          go_wp2
          go_ret
          exact ⟨rfl, B2.out.trans (b3.mono B2.out.size)⟩
      · have h1 : ¬ 40 < l.length := fun h => hz (.inl h)
        have h2 : ¬ 40 < m.length := fun h => hz (.inr h)
        have L40 : Hid (l.length ≤ 40) := Hid.of (by omega)
        have M40 : Hid (m.length ≤ 40) := Hid.of (by omega)
        clear hz
        go_wp2_with fail
        refine (new_disk S 6 _ (by omega) (by omega)).mono ?_
        rintro e w3 ⟨p, F3, rfl, k3⟩
        have H3 : Hid (DHere S w.heap.size w w3 p (DSt.fresh 6) F3) := Hid.of ⟨k3.rep, fun k hk => Nat.le_trans B2.out.size (k3.ge k hk), Nat.le_trans B2.out.size k3.hB, B2.out.trans (k3.fr.mono B2.out.size)⟩
        clear k3 h1 h2
        go_wp2_with fail
        refine (run_any H3.out 0 ⟨Nat.le_refl _, Nat.le_refl _, by decide⟩ _ l (by have := L40.out; omega) HV1.out (Nat.le_refl _) (fun o ho => (L1.out.2 o ho).2)).mono ?_
        rintro e w4 ⟨rfl, s, F4, k4, -, sm⟩
        have H4 := Hid.of k4
        have SM : Hid (s.Small 1000) := Hid.of (sm.more (by have := L40.out; omega))
        have SM0 : Hid (s.Small 40) := Hid.of (sm.more (by have := L40.out; omega))
        clear k4 sm H3
        go_wp2_with fail
        refine (H4.out.twin SM.out).mono ?_
        rintro e w5 ⟨p2, G5, rfl, t5, g5, b5⟩
        have H5 := Hid.of (H4.out.next b5)
        have T5 := Hid.of t5
        have A5 : Hid (∀ k, F4.all k → ¬ G5.own k) := Hid.of (fun k hk c => by
          have e1 := g5 k c
          have e2 := H4.out.lt k hk
          omega)
        clear t5 g5 b5 H4
        go_wp2_with fail
        refine (shows_any H5.out SM.out).mono ?_
        rintro e w6 ⟨u, rfl, o6, b6⟩
        obtain ⟨ua, uc, rfl⟩ := own_slice o6
        have P6 : Hid (Pair S w.heap.size w w6 p p2 s s F4 G5 (.slice ua 6 uc) 6 ((shown s 6).map Value.string)) := Hid.of ⟨H5.out.next b6, T5.out.next b6, A5.out, own_row1 o6, fun g hg c => by
          have e1 := own_ge o6 hg
          have e2 := T5.out.lto g c
          omega, fun g hg => (o6.lt g hg).2⟩
        clear o6 b6 H5 T5 A5
        go_wp2
        go_region_held3 (fun _ => True) (trivial) (first | (go_at_call 21; refine (P6.out.d.next (Below.refl _ w6).drew |>.writes SM.out).mono ?_; rintro e w7 ⟨rfl, -, b7⟩; have P7 := Hid.of (P6.out.next ((Below.refl _ w6).drew.trans b7)); clear b7) | (go_at_call 16; refine (P7.out.d.waiting SM.out).mono ?_; rintro e w8 ⟨rfl, -, b8⟩; have P8 := Hid.of (P7.out.next b8); clear b8) | (go_at_call 18; refine P8.out.d.isOn.mono ?_; rintro e w9 ⟨rfl, -, b9⟩; have P9 := Hid.of (P8.out.next b9); clear b9))
        all_goals
          go_wp2_with fail
          refine (run_any P9.out.t 40 SM0.out _ m (by have := M40.out; omega) HV2.out (Nat.le_refl _) (fun o ho => (L2.out.2 o ho).2)).mono ?_
          rintro e wa ⟨rfl, s3, Ga, ka, sta, sma⟩
          have Pa := Hid.of (P9.out.step ka sta)
          have SMa : Hid (s3.Small 1000) := Hid.of (sma.more (by have := M40.out; omega))
          have La := Hid.of ka.lto
          clear ka sta sma
          go_wp2_with fail
          refine ((Pa.out.t.next ((Below.refl _ _).alloc (Nat.le_refl _) _)).cut (ks := [1, 1, 1]) rfl rfl SMa.out (ints_made _ [1, 1, 1] _ _ rfl rfl) (fun _ => off_new La.out _ _ _ rfl) (by decide)).mono ?_
          rintro e wb ⟨rfl, Gb, kb, stb⟩
          have Pb := Hid.of (Pa.out.step kb (FStep.after ((Below.refl _ _).alloc (Nat.le_refl _) _) stb))
          have OFF := Hid.of (cut_off s3 [1, 1, 1])
          clear kb stb La
          go_wp2_with fail
          refine (diskAlive_any S _).mono ?_
          rintro e wc ⟨rfl, bc⟩
          have Pc := Hid.of (Pb.out.next bc)
          clear bc
          go_wp2_with fail
          refine (shows_any Pc.out.d SM.out).mono ?_
          rintro e wd ⟨u2, rfl, od, bd⟩
          obtain ⟨ub, ud, rfl⟩ := own_slice od
          have Rd := Hid.of (own_row1 od)
          have Pd := Hid.of (Pc.out.next bd)
          clear od bd
          go_wp2_with fail
          refine (SameTexts_any _ _ (shown s 6) _ (by rw [shown_length]; exact Rd.out) (by rw [shown_length]; exact Pd.out.row) (by rw [shown_length]; omega)).mono ?_
          rintro e we ⟨rfl, be⟩
          have Pe := Hid.of (Pd.out.next be)
          clear be
          go_wp2_with fail
          refine (Pe.out.d.writes SM.out).mono ?_
          rintro e wf ⟨rfl, -, bf⟩
          have Pf := Hid.of (Pe.out.next bf)
          clear bf
          go_wp2_with fail
          refine (Pf.out.d.waiting SM.out).mono ?_
          rintro e wg ⟨rfl, -, bg⟩
          have Pg := Hid.of (Pf.out.next bg)
          clear bg
          go_wp2_with fail
          refine Pg.out.d.isOn.mono ?_
          rintro e wh ⟨rfl, -, bh⟩
          have Ph := Hid.of (Pg.out.next bh)
          clear bh
          go_wp2_with fail
          refine Ph.out.t.isOn.mono ?_
          rintro e wi ⟨rfl, hi, -⟩
          rw [OFF.out]
          go_wp2
          go_ret
          exact ⟨rfl, hi.fr⟩

end Go.Proofs.Ytpgiknejgolllaa
