/-
  A bundle of texts: QEF QEG QOF QRA QAL QST.
-/
import Derived.Test.YtbhcafginmkaaaaGreatT22
import Derived.Test.YtbhcafginmkaaaaGreatT16
import Derived.Test.YtbhcafginmkaaaaGreatT07
import Derived.Test.YtbhcafginmkaaaaGreatT20
namespace Go.Proofs.YtbhcafginmkaaaaGreat
open Go.RowKit Go.Lib

/-- While a plan is made: it lies in block m, its sources so far in fv. -/
structure MG (w0 w1 : World) (zb m : Nat) (n : ByteArray) (s2 fv : Value) (q : PolL) (L : List (Addr × Value)) (xs : List Int) (w : World) : Prop where
  k : LBlk w m n s2 fv
  kz : LBlk w zb ⟨#[]⟩ (.slice none 0 0) (.slice none 0 0)
  lz : zb < w1.heap.size
  os : w.ownsRow w1.heap.size 89 4 s2 q.2.length (flat penc q.2)
  of : w.ownsRow w1.heap.size 3 1 fv xs.length (xs.map (Value.int .i64))
  ap : Apart s2 fv
  hm : w1.heap.size ≤ m
  ms : s2.ownBlock ≠ some m
  mf : fv.ownBlock ≠ some m
  cs : Dc w L
  ll : ∀ x ∈ L, x.1.block < w1.heap.size
  fr : Below w0.heap.size w0 w
  f1 : w0.heap.size ≤ w1.heap.size

section
variable {w0 w1 w w' : World} {zb m : Nat} {n : ByteArray} {s2 fv : Value} {q : PolL} {L : List (Addr × Value)} {xs : List Int}

theorem MG.lt (h : MG w0 w1 zb m n s2 fv q L xs w) : m < w.heap.size := (Array.getElem?_eq_some_iff.1 h.k).1

theorem MG.next (h : MG w0 w1 zb m n s2 fv q L xs w) (b : Below w.heap.size w w') : MG w0 w1 zb m n s2 fv q L xs w' :=
  ⟨lblk_next h.k b, lblk_next h.kz b, h.lz, (Step.of_below (F := fun _ => False) b).own h.os (fun _ _ c => c), (Step.of_below (F := fun _ => False) b).own h.of (fun _ _ c => c), h.ap, h.hm, h.ms, h.mf, h.cs.next b, h.ll, h.fr.trans (b.mono h.fr.size), h.f1⟩

/-- One source more. -/
theorem MG.more (h : MG w0 w1 zb m n s2 fv q L xs w) {x : Int} {fv' : Value} {w2 : World} (b : Below w.heap.size w w') (g : w'.grownBy w2 fv.ownBlock) (o : w2.ownsRow w1.heap.size 3 1 fv' (xs.length + 1) (xs.map (Value.int .i64) ++ [.int .i64 x]))
    (hb : fv'.ownBlock = fv.ownBlock ∨ ∃ g, fv'.ownBlock = some g ∧ w'.heap.size ≤ g) : MG w0 w1 zb m n s2 fv' q L (xs ++ [x]) (w2.setCell ⟨m, 2, none⟩ fv') := by
  have h' := h.next b
  have hlt : m < w'.heap.size := h'.lt
  have k2 : LBlk w2 m n s2 fv := by
    show _ = _
    rw [g.block m hlt (fun c => h.mf c.symm)]
    exact h'.k
  have g3 : w2.grownBy (w2.setCell ⟨m, 2, none⟩ fv') (some m) := grownBy_setCell _ _ _ _
  have mf' : fv'.ownBlock ≠ some m := by
    rcases hb with e | ⟨g', e, hg⟩
    · rw [e]; exact h.mf
    · rw [e]
      intro c
      cases c
      omega
  have ap' : Apart s2 fv' := by
    rcases hb with e | ⟨g', e, hg⟩
    · intro k hk hk'
      rw [e] at hk'
      exact h.ap k hk hk'
    · intro k hk hk'
      rw [e] at hk'
      cases hk'
      have := (h'.os.lt _ hk).2
      omega
  have keep : ∀ {e : TypeId} {sz N : Nat} {v : Value} {ys : List Value}, w2.ownsRow w1.heap.size e sz v N ys → v.ownBlock ≠ some m → (w2.setCell ⟨m, 2, none⟩ fv').ownsRow w1.heap.size e sz v N ys := fun {e sz N v ys} hh hne => by
    refine ⟨hh.1, ?_⟩
    rcases hh.2 with c | ⟨g', cap, cur, ev, hB', hrow, rest⟩
    · exact .inl c
    · refine .inr ⟨g', cap, cur, ev, hB', ?_, rest⟩
      rw [g3.block g' (Array.getElem?_eq_some_iff.1 hrow).1 (fun c => hne (by rw [ev, c.symm]; rfl))]
      exact hrow
  have os2 : w2.ownsRow w1.heap.size 89 4 s2 q.2.length (flat penc q.2) := by
    refine ⟨h'.os.1, ?_⟩
    rcases h'.os.2 with c | ⟨g', cap, cur, ev, hB', hrow, rest⟩
    · exact .inl c
    · refine .inr ⟨g', cap, cur, ev, hB', ?_, rest⟩
      rw [g.block g' (Array.getElem?_eq_some_iff.1 hrow).1 (fun c => h.ap g' (by rw [ev]; rfl) c.symm)]
      exact hrow
  refine ⟨?_, ?_, h.lz, keep os2 h.ms, ?_, ap', h.hm, h.ms, mf', ?_, h.ll, ?_, h.f1⟩
  · have := row_set (i := 2) k2 fv'
    show _ = _
    rw [this]
    simp
  · have hz := h'.kz
    have hzl := (Array.getElem?_eq_some_iff.1 hz).1
    show _ = _
    rw [g3.block zb (by have := g.size; omega) (fun c => by have := Option.some.inj c; have := h.lz; have := h.hm; omega), g.block zb hzl (fun c => by have := (h'.of.lt _ c.symm).1; have := h.lz; omega)]
    exact hz
  · rw [List.length_append, List.map_append]
    exact keep o mf'
  · refine (h'.cs.grown g (fun x hx c => ?_)).grown g3 (fun x hx c => ?_)
    · have h1 := h.ll x hx
      have h2 := (h'.of.lt _ c.symm).1
      omega
    · have h1 := h.ll x hx
      have h2 := h.hm
      have := Option.some.inj c
      omega
  · have hf := h'.fr
    exact (hf.grown g hf.size (fun k hk => by have := (h'.of.lt _ hk).1; have := h.f1; omega)).grown g3 (by have := g.size; have := hf.size; omega) (fun k hk => by cases hk; have := h.hm; have := h.f1; omega)
end

theorem int_info' : (Tryz.prog.info? 3).map (fun i => (i.zero, i.size, i.bytes)) = some (some (.int .i64 0), 1, 8) := by kernel_rfl

set_option maxRecDepth 20000 in
set_option maxHeartbeats 6400000 in
theorem make_any (v rv tv : Value) (p q : PolL) (r : RchL) (w : World) (fp : PFit p) (fq : PFit q) (fr : RFit r) (hv : PolRow w v p) (hr : RchRow w rv r) (ht : PolRow w tv q) :
    Calls Tryz.prog 16 #[v, rv, tv] w fun x w' => ∃ u, x = .returned (.tuple #[u, .int .i64 (mErr p q)]) ∧ OwnPlan w.heap.size w' u (mMake p r q) ∧ Below w.heap.size w w' := by
  have FP := Hid.of fp
  have FQ := Hid.of fq
  have FR := Hid.of fr
  have HV := Hid.of hv
  have HR := Hid.of hr
  have HT := Hid.of ht
  obtain ⟨s, rfl, hs, -⟩ := hv
  obtain ⟨rs, rf, rfl, -, -, -, -⟩ := hr
  obtain ⟨s3, rfl, hs3, -⟩ := ht
  have HS := Hid.of hs
  have HS3 := Hid.of hs3
  obtain ⟨sa, sc, rfl, -⟩ := hs
  obtain ⟨ta, tc, rfl, -⟩ := hs3
  unfold rVal at HR ⊢
  obtain ⟨pn, hpn⟩ : ∃ n, p.1 = n := ⟨_, rfl⟩
  obtain ⟨qn, hqn⟩ : ∃ n, q.1 = n := ⟨_, rfl⟩
  obtain ⟨PN, hPN⟩ : ∃ N, p.2.length = N := ⟨_, rfl⟩
  obtain ⟨QN, hQN⟩ : ∃ N, q.2.length = N := ⟨_, rfl⟩
  obtain ⟨now, hnow⟩ : ∃ now, r.1 = now := ⟨_, rfl⟩
  obtain ⟨rn, hrn⟩ : ∃ n, r.2.1.1 = n := ⟨_, rfl⟩
  rw [hpn, hPN] at HV
  rw [hqn, hQN] at HT
  rw [hnow, hrn] at HR
  rw [hPN] at HS
  rw [hQN] at HS3
  rw [hpn, hqn, hPN, hQN, hnow, hrn]
  obtain ⟨B, hB⟩ : ∃ B, w.heap.size = B := ⟨_, rfl⟩
  obtain ⟨w1, hw1⟩ : ∃ w1, (((w.alloc (.cells #[.string pn, .slice sa PN sc] 24)).alloc (.cells #[.int .i64 now, .string rn, rs, rf] 47)).alloc (.cells #[.string qn, .slice ta QN tc] 24)).alloc (.cells #[.string ⟨#[]⟩, .slice none 0 0, .slice none 0 0] 49) = w1 := ⟨_, rfl⟩
  have hfour : Below w.heap.size w w1 ∧ w1.heap.size = B + 4 ∧ w1.heap[B]? = some (.cells #[.string pn, .slice sa PN sc] 24 (0, 0)) ∧ w1.heap[B + 1]? = some (.cells #[.int .i64 now, .string rn, rs, rf] 47 (0, 0)) ∧ w1.heap[B + 2]? = some (.cells #[.string qn, .slice ta QN tc] 24 (0, 0)) ∧ LBlk w1 (B + 3) ⟨#[]⟩ (.slice none 0 0) (.slice none 0 0) := by
    rw [← hw1, ← hB]
    obtain ⟨wa, ha⟩ : ∃ wa, w.alloc (.cells #[.string pn, .slice sa PN sc] 24) = wa := ⟨_, rfl⟩
    have a0 : wa.heap[w.heap.size]? = some (.cells #[.string pn, .slice sa PN sc] 24 (0, 0)) := by rw [← ha]; exact (MapKept.heap_alloc w _).1
    have asz : wa.heap.size = w.heap.size + 1 := by rw [← ha]; simp
    have ab : Below w.heap.size w wa := by rw [← ha]; exact (Below.refl _ _).alloc (Nat.le_refl _) _
    rw [ha]
    obtain ⟨wb, hb⟩ : ∃ wb, wa.alloc (.cells #[.int .i64 now, .string rn, rs, rf] 47) = wb := ⟨_, rfl⟩
    have b0 : wb.heap[w.heap.size + 1]? = some (.cells #[.int .i64 now, .string rn, rs, rf] 47 (0, 0)) := by rw [← hb, ← asz]; exact (MapKept.heap_alloc wa _).1
    have bs : wb.heap.size = w.heap.size + 2 := by rw [← hb]; simp [asz]
    have bb : Below wa.heap.size wa wb := by rw [← hb]; exact (Below.refl _ _).alloc (Nat.le_refl _) _
    rw [hb]
    obtain ⟨wc, hc⟩ : ∃ wc, wb.alloc (.cells #[.string qn, .slice ta QN tc] 24) = wc := ⟨_, rfl⟩
    have c0 : wc.heap[w.heap.size + 2]? = some (.cells #[.string qn, .slice ta QN tc] 24 (0, 0)) := by rw [← hc, ← bs]; exact (MapKept.heap_alloc wb _).1
    have cs : wc.heap.size = w.heap.size + 3 := by rw [← hc]; simp [bs]
    have cb : Below wb.heap.size wb wc := by rw [← hc]; exact (Below.refl _ _).alloc (Nat.le_refl _) _
    rw [hc]
    obtain ⟨wd, hd⟩ : ∃ wd, wc.alloc (.cells #[.string ⟨#[]⟩, .slice none 0 0, .slice none 0 0] 49) = wd := ⟨_, rfl⟩
    have d0 : wd.heap[w.heap.size + 3]? = some (.cells #[.string ⟨#[]⟩, .slice none 0 0, .slice none 0 0] 49 (0, 0)) := by rw [← hd, ← cs]; exact (MapKept.heap_alloc wc _).1
    have ds : wd.heap.size = w.heap.size + 4 := by rw [← hd]; simp [cs]
    have db : Below wc.heap.size wc wd := by rw [← hd]; exact (Below.refl _ _).alloc (Nat.le_refl _) _
    rw [hd]
    refine ⟨((ab.trans (bb.mono (by omega))).trans (cb.mono (by omega))).trans (db.mono (by omega)), ds, ?_, ?_, ?_, d0⟩
    · rw [db.block _ (by omega), cb.block _ (by omega), bb.block _ (by omega)]; exact a0
    · rw [db.block _ (by omega), cb.block _ (by omega)]; exact b0
    · rw [db.block _ (by omega)]; exact c0
  obtain ⟨b1, z1, k0, k1, k2, k3⟩ := hfour
  have CS1 : Hid (Dc w1 [(⟨B, 0, none⟩, .string pn), (⟨B, 1, none⟩, .slice sa PN sc), (⟨B + 1, 0, none⟩, .int .i64 now), (⟨B + 1, 1, none⟩, .string rn), (⟨B + 1, 2, none⟩, rs), (⟨B + 1, 3, none⟩, rf), (⟨B + 2, 0, none⟩, .string qn), (⟨B + 2, 1, none⟩, .slice ta QN tc)]) := Hid.of (Dc.app (Dc.one k0 (i := 0) rfl) (Dc.app (Dc.one k0 (i := 1) rfl) (Dc.app (Dc.one k1 (i := 0) rfl) (Dc.app (Dc.one k1 (i := 1) rfl) (Dc.app (Dc.one k1 (i := 2) rfl) (Dc.app (Dc.one k1 (i := 3) rfl) (Dc.app (Dc.one k2 (i := 0) rfl) (Dc.one k2 (i := 1) rfl))))))))
  have K3 : Hid (LBlk w1 (B + 3) ⟨#[]⟩ (.slice none 0 0) (.slice none 0 0)) := Hid.of k3
  have B1 := Hid.of b1
  have Z1 := Hid.of z1
  have HW := Hid.of hw1
  have HBB := Hid.of hB
  have NP := Hid.of hPN
  have NQ := Hid.of hQN
  have HN := Hid.of hqn
  clear hw1 b1 z1 k0 k1 k2 k3 hB fp fq fr hpn hqn hPN hQN hnow hrn
  go_enter Tryz.func16, Tryz.ntmps16
  go_upto_region 1 with fail
  rw [HW.out, HBB.out]
  clear HW
  obtain ⟨q0, q1⟩ : w1.cell? ⟨B, 0, none⟩ = some (.string pn) ∧ w1.cell? ⟨B, 1, none⟩ = some (.slice sa PN sc) := ⟨CS1.out.head, CS1.out.tail.head⟩
  go_wp2_with fail
  refine (check_any _ p _ FP.out (HV.out.kept B1.out)).mono ?_
  rintro e w2 ⟨rfl, b2⟩
  have B2 := Hid.of (B1.out.trans (b2.mono B1.out.size))
  have CS2 := Hid.of (CS1.out.next b2)
  have K2 := Hid.of (lblk_next K3.out b2)
  have S2 : Hid (w1.heap.size ≤ w2.heap.size) := Hid.of b2.size
  clear b2 q0 q1 CS1 K3
  obtain ⟨ce, cn, hce⟩ : ∃ ce cn, pCheck p = (ce, cn) := ⟨_, _, rfl⟩
  have HCE := Hid.of hce
  rw [hce]
  simp only
  clear hce
  by_cases hc : ce = 0
  case neg =>
    have hc2 : (ce == 0) = false := beq_eq_false_iff_ne.2 hc
    have ER : Hid (mErr p q = ce ∧ mMake p r q = ((⟨#[]⟩, []), [])) := Hid.of (by
      have e : mErr p q = ce := by unfold mErr; rw [HCE.out]; exact if_pos hc
      exact ⟨e, by unfold mMake; rw [if_neg (by rw [e]; exact hc)]⟩)
    have f0 := row_frozen (i := 0) K2.out
    have f1 := row_frozen (i := 1) K2.out
    have f2 := row_frozen (i := 2) K2.out
    obtain ⟨t0, t1, t2⟩ := lblk_at K2.out
    have KZ := lblk_set (n' := ⟨#[]⟩) (s' := .slice none 0 0) (f' := .slice none 0 0) K2.out
    have gz := setL_grown w2 (B + 3) ⟨#[]⟩ (.slice none 0 0) (.slice none 0 0)
    have BZ : Hid (Below w.heap.size w (setL w2 (B + 3) ⟨#[]⟩ (.slice none 0 0) (.slice none 0 0))) := Hid.of (B2.out.grown gz B2.out.size (fun k hk => by cases hk; have := HBB.out; omega))
    obtain ⟨r0, r1, r2⟩ := lblk_at KZ
    clear KZ gz
    unfold setL at r0 r1 r2 BZ
    go_wp2
    refine bodyPost_ret (v := .tuple #[.agg #[.string ⟨#[]⟩, .slice none 0 0, .slice none 0 0], .int .i64 ce]) ?_ rfl ⟨.agg #[.string ⟨#[]⟩, .slice none 0 0, .slice none 0 0], by rw [ER.out.1], by rw [ER.out.2]; exact ⟨_, _, rfl, World.ownsRow_nil _ _ _ _, World.ownsRow_nil _ _ _ _, fun g hg => by cases hg⟩, BZ.out⟩
    simp [results, Tryz.results16, go_sem, r0, r1, r2]
  subst hc
  obtain ⟨q0, q1⟩ : w2.cell? ⟨B + 2, 0, none⟩ = some (.string qn) ∧ w2.cell? ⟨B + 2, 1, none⟩ = some (.slice ta QN tc) := ⟨CS2.out.tail.tail.tail.tail.tail.tail.head, CS2.out.tail.tail.tail.tail.tail.tail.tail.head⟩
  go_wp2_with fail
  refine (check_any _ q _ FQ.out (HT.out.kept B2.out)).mono ?_
  rintro e w3 ⟨rfl, b3⟩
  have B3 := Hid.of (B2.out.trans (b3.mono B2.out.size))
  have CS3 := Hid.of (CS2.out.next b3)
  have K3 := Hid.of (lblk_next K2.out b3)
  have S3 : Hid (w1.heap.size ≤ w3.heap.size) := Hid.of (Nat.le_trans S2.out b3.size)
  clear b3 q0 q1 CS2 K2 B2 S2
  obtain ⟨de, dn, hde⟩ : ∃ de dn, pCheck q = (de, dn) := ⟨_, _, rfl⟩
  have HDE := Hid.of hde
  rw [hde]
  simp only
  clear hde
  by_cases hd : de = 0
  case neg =>
    have hc2 : (de == 0) = false := beq_eq_false_iff_ne.2 hd
    have ER : Hid (mErr p q = de ∧ mMake p r q = ((⟨#[]⟩, []), [])) := Hid.of (by
      have e : mErr p q = de := by unfold mErr; rw [HCE.out, HDE.out]; rfl
      exact ⟨e, by unfold mMake; rw [if_neg (by rw [e]; exact hd)]⟩)
    have B2 := B3
    have K2 := K3
    have f0 := row_frozen (i := 0) K2.out
    have f1 := row_frozen (i := 1) K2.out
    have f2 := row_frozen (i := 2) K2.out
    obtain ⟨t0, t1, t2⟩ := lblk_at K2.out
    have KZ := lblk_set (n' := ⟨#[]⟩) (s' := .slice none 0 0) (f' := .slice none 0 0) K2.out
    have gz := setL_grown w3 (B + 3) ⟨#[]⟩ (.slice none 0 0) (.slice none 0 0)
    have BZ : Hid (Below w.heap.size w (setL w3 (B + 3) ⟨#[]⟩ (.slice none 0 0) (.slice none 0 0))) := Hid.of (B2.out.grown gz B2.out.size (fun k hk => by cases hk; have := HBB.out; omega))
    obtain ⟨r0, r1, r2⟩ := lblk_at KZ
    clear KZ gz
    unfold setL at r0 r1 r2 BZ
    go_wp2
    refine bodyPost_ret (v := .tuple #[.agg #[.string ⟨#[]⟩, .slice none 0 0, .slice none 0 0], .int .i64 de]) ?_ rfl ⟨.agg #[.string ⟨#[]⟩, .slice none 0 0, .slice none 0 0], by rw [ER.out.1], by rw [ER.out.2]; exact ⟨_, _, rfl, World.ownsRow_nil _ _ _ _, World.ownsRow_nil _ _ _ _, fun g hg => by cases hg⟩, BZ.out⟩
    simp [results, Tryz.results16, go_sem, r0, r1, r2]
  subst hd
  have E0 : Hid (mErr p q = 0) := Hid.of (by unfold mErr; rw [HCE.out, HDE.out]; rfl)
  obtain ⟨q0, q1⟩ : w3.cell? ⟨B + 2, 0, none⟩ = some (.string qn) ∧ w3.cell? ⟨B + 2, 1, none⟩ = some (.slice ta QN tc) := ⟨CS3.out.tail.tail.tail.tail.tail.tail.head, CS3.out.tail.tail.tail.tail.tail.tail.tail.head⟩
  go_wp2_with fail
  refine (copy_any _ q _ FQ.out (HT.out.kept B3.out)).mono ?_
  rintro e w4 ⟨u, rfl, ou, b4⟩
  obtain ⟨s2, rfl, o2⟩ := ou
  rw [HN.out]
  obtain ⟨sa2, sc2, rfl, -⟩ := own_one o2
  rw [NQ.out] at o2 ⊢
  unfold polVal
  have B4 := Hid.of (B3.out.trans (b4.mono B3.out.size))
  obtain ⟨m, hm⟩ : ∃ m, w4.heap.size = m := ⟨_, rfl⟩
  obtain ⟨w5, hw5⟩ : ∃ w5, w4.alloc (.cells #[.string qn, .slice sa2 QN sc2, .slice none 0 0] 49) = w5 := ⟨_, rfl⟩
  have b5 : Below w4.heap.size w4 w5 := by rw [← hw5]; exact (Below.refl _ _).alloc (Nat.le_refl _) _
  have k5 : LBlk w5 m qn (.slice sa2 QN sc2) (.slice none 0 0) := by rw [← hw5, ← hm]; exact (MapKept.heap_alloc w4 _).1
  have M5 : Hid (MG w w1 (B + 3) m qn (.slice sa2 QN sc2) (.slice none 0 0) q [(⟨B, 0, none⟩, .string pn), (⟨B, 1, none⟩, .slice sa PN sc), (⟨B + 1, 0, none⟩, .int .i64 now), (⟨B + 1, 1, none⟩, .string rn), (⟨B + 1, 2, none⟩, rs), (⟨B + 1, 3, none⟩, rf), (⟨B + 2, 0, none⟩, .string qn), (⟨B + 2, 1, none⟩, .slice ta QN tc)] [] w5) := Hid.of
    ⟨k5, lblk_next (lblk_next K3.out b4) b5, by have := Z1.out; omega, by rw [NQ.out]; exact own_mono ((Step.of_below (F := fun _ => False) b5).own o2 (fun _ _ c => c)) S3.out, World.ownsRow_nil _ _ _ _, (fun g _ hg => by cases hg), (by have := b4.size; have := S3.out; omega), (fun c => by have := (o2.lt m c).2; omega), (fun c => by cases c), (CS3.out.next b4).next b5, fun x hx => by
      have := Z1.out
      simp only [List.mem_cons, List.not_mem_nil, or_false] at hx
      rcases hx with rfl | rfl | rfl | rfl | rfl | rfl | rfl | rfl <;> (simp only; omega), B4.out.trans (b5.mono B4.out.size), B1.out.size⟩
  have HW := Hid.of hw5
  have HMM := Hid.of hm
  clear hw5 hm b5 k5 b4 o2 q0 q1 CS3 K3 S3 B3
  obtain ⟨i0, hi, hz0, hz1, hz2⟩ := info_parts int_info'
  have HI := Hid.of hi
  have HZ0 := Hid.of hz0
  have HZ1 := Hid.of hz1
  have HZ2 := Hid.of hz2
  clear hi hz0 hz1 hz2
  go_upto_region 8 with fail
  rw [HW.out, HMM.out]
  clear HW HMM
  obtain ⟨q0, q1⟩ : w5.cell? ⟨B + 2, 0, none⟩ = some (.string qn) ∧ w5.cell? ⟨B + 2, 1, none⟩ = some (.slice ta QN tc) := ⟨M5.out.cs.tail.tail.tail.tail.tail.tail.head, M5.out.cs.tail.tail.tail.tail.tail.tail.tail.head⟩
  go_upto_region 9 with fail
  clear q0 q1
  go_loopg [39] QN (fun kx iv wr => ∃ (j : Nat) (fv : Value) (xs : List Int), iv = .int .i64 j ∧ j ≤ QN ∧ QN - j ≤ kx ∧ Hid (xs = (q.2.take j).map fun x => ((mFur r x.2.1 p.2 : Nat) : Int)) ∧ Hid (xs.length = j) ∧ Hid (MG w w1 (B + 3) m qn (.slice sa2 QN sc2) fv q [(⟨B, 0, none⟩, .string pn), (⟨B, 1, none⟩, .slice sa PN sc), (⟨B + 1, 0, none⟩, .int .i64 now), (⟨B + 1, 1, none⟩, .string rn), (⟨B + 1, 2, none⟩, rs), (⟨B + 1, 3, none⟩, rf), (⟨B + 2, 0, none⟩, .string qn), (⟨B + 2, 1, none⟩, .slice ta QN tc)] xs wr))
  case atStart => exact ⟨0, _, [], rfl, Nat.zero_le _, Nat.le_refl _, Hid.of rfl, Hid.of rfl, M5⟩
  case round =>
    clear M5
    obtain ⟨j, fv, xs, rfl, hj, hk, HX, HXL, M⟩ := hrel
    have j0 : (0 : Int) ≤ (j : Int) := Int.natCast_nonneg _
    have n9 : QN ≤ 1000000 := by have := FQ.out.1; rw [NQ.out] at this; exact this
    by_cases hlt : (j : Int) < (QN : Int)
    · obtain ⟨t, ht⟩ : ∃ t, q.2[j]? = some t := ⟨_, List.getElem?_eq_getElem (by have := NQ.out; omega)⟩
      obtain ⟨b1, o1, rfl, g1, d0, d1, d2, d3⟩ := p_at (HS3.out.kept M.out.fr) j t ht
      have HTT := Hid.of ht
      obtain ⟨t0, ev, t2, sh⟩ := t
      simp only at d0 d1 d2 d3
      have HJ : Hid (j < QN) := Hid.of (by omega)
      obtain ⟨va, vc, rfl, -⟩ := own_one M.out.of
      rw [HXL.out] at M
      obtain ⟨y, hy⟩ : ∃ y, wr.heap.size = y := ⟨_, rfl⟩
      obtain ⟨w6, hw6⟩ : ∃ w6, wr.alloc (.cells #[.string t0, .int .i64 ev, .int .i64 t2, .int .i64 sh] 89) = w6 := ⟨_, rfl⟩
      have z6 : w6.heap[y]? = some (.cells #[.string t0, .int .i64 ev, .int .i64 t2, .int .i64 sh] 89 (0, 0)) := by rw [← hw6, ← hy]; exact (MapKept.heap_alloc wr _).1
      have b6 : Below wr.heap.size wr w6 := by rw [← hw6]; exact (Below.refl _ _).alloc (Nat.le_refl _) _
      have M6 := Hid.of (M.out.next b6)
      have HVY : Hid (∀ g, (Value.slice va j vc).ownBlock = some g → g < y) := Hid.of (fun g hg => by rw [← hy]; exact (M.out.of.lt g hg).2)
      have HMY : Hid (m < y) := Hid.of (by rw [← hy]; exact M.out.lt)
      have CS6 : Hid (Dc w6 [(⟨B, 1, none⟩, .slice sa PN sc), (⟨B + 1, 0, none⟩, .int .i64 now), (⟨B + 1, 1, none⟩, .string rn), (⟨B + 1, 2, none⟩, rs), (⟨B + 1, 3, none⟩, rf), (⟨y, 1, none⟩, .int .i64 ev)]) := Hid.of (by
        have hc := M6.out.cs
        exact .cons hc.tail.lt hc.tail.head (.cons hc.tail.tail.lt hc.tail.tail.head (.cons hc.tail.tail.tail.lt hc.tail.tail.tail.head (.cons hc.tail.tail.tail.tail.lt hc.tail.tail.tail.tail.head (.cons hc.tail.tail.tail.tail.tail.lt hc.tail.tail.tail.tail.tail.head (Dc.one z6 (i := 1) rfl))))))
      have HLY : Hid (∀ x ∈ [(⟨B, 1, none⟩, .slice sa PN sc), (⟨B + 1, 0, none⟩, .int .i64 now), (⟨B + 1, 1, none⟩, .string rn), (⟨B + 1, 2, none⟩, rs), (⟨B + 1, 3, none⟩, rf), ((⟨y, 1, none⟩ : Addr), Value.int .i64 ev)], x.1.block < w1.heap.size ∨ x.1.block = y) := Hid.of (fun x hx => by
        have := Z1.out
        simp only [List.mem_cons, List.not_mem_nil, or_false] at hx
        rcases hx with rfl | rfl | rfl | rfl | rfl | rfl <;> first | (right; rfl) | (left; simp only; omega))
      have HFU : Hid (∀ u, Below w.heap.size w u → Calls Tryz.prog 102 #[.agg #[.int .i64 now, .string rn, rs, rf], .int .i64 ev, .slice sa PN sc] u fun x w' => x = .returned (.int .i64 ((mFur r ev p.2 : Nat) : Int)) ∧ Below u.heap.size u w') := Hid.of (fun u hu => by
        have := furthest_any (.agg #[.int .i64 now, .string rn, rs, rf]) (.slice sa PN sc) r ev p.2 u (HR.out.kept hu) FR.out (by rw [NP.out]; exact HS.out.kept hu) FP.out.1
        exact this)
      obtain ⟨sx, hsx⟩ : ∃ sx : Int, ((mFur r ev p.2 : Nat) : Int) = sx := ⟨_, rfl⟩
      rw [hsx] at HFU
      have HX2 : Hid (xs ++ [sx] = (q.2.take (j + 1)).map fun x => ((mFur r x.2.1 p.2 : Nat) : Int)) := Hid.of (by
        rw [List.take_add_one, HTT.out, List.map_append, ← HX.out]
        show xs ++ [sx] = xs ++ [((mFur r ev p.2 : Nat) : Int)]
        rw [hsx])
      have HW := Hid.of hw6
      have HY := Hid.of hy
      clear ht g1 z6 b6 M hw6 hy hsx HX HTT
      go_upto_region 11 with fail
      rw [HW.out, HY.out]
      clear d0 d1 d2 d3 HW HY
      obtain ⟨WD, hWD⟩ : ∃ WD, w6.drew = WD := ⟨_, rfl⟩
      have b6d : Below w6.heap.size w6 WD := by rw [← hWD]; exact (Below.refl _ _).drew
      have M6d := Hid.of (M6.out.next b6d)
      have CSD := Hid.of (CS6.out.next b6d)
      clear b6d
      have d0 := (CS6.out).head
      have d1 := ((CS6.out).tail).head
      have d2 := (((CS6.out).tail).tail).head
      have d3 := ((((CS6.out).tail).tail).tail).head
      have d4 := (((((CS6.out).tail).tail).tail).tail).head
      have d5 := ((((((CS6.out).tail).tail).tail).tail).tail).head
      refine wp_region_noPanic ?_
      refine wp_region_held_drew (S := fun w' => w'.cell? ⟨B, 1, none⟩ = some (.slice sa PN sc) ∧ w'.cell? ⟨B + 1, 0, none⟩ = some (.int .i64 now) ∧ w'.cell? ⟨B + 1, 1, none⟩ = some (.string rn) ∧ w'.cell? ⟨B + 1, 2, none⟩ = some (rs) ∧ w'.cell? ⟨B + 1, 3, none⟩ = some (rf) ∧ w'.cell? ⟨y, 1, none⟩ = some (.int .i64 ev)) (by kernel_rfl) ?_ (fun hHeld => ?_)
      · exact ⟨d0, d1, d2, d3, d4, d5⟩
      refine wpAnyH_take (i := 0) (oi := ⟨_, _, _, _, _, _⟩) (v := ?_) rfl (by kernel_rfl) (by kernel_rfl) (by kernel_rfl) (fun _ _ _ h => h) (Or.inl ⟨by rfl, ?_⟩) hHeld ?_
      rotate_left
      · intro w' hSw
        try dsimp only at hSw
        go_simp
        all_goals with_reducible rfl
      simp only [Act.put, List.setIfInBounds_toArray, List.set_cons_zero, List.set_cons_succ]
      refine wpAnyH_take (i := 2) (oi := ⟨_, _, _, _, _, _⟩) (v := ?_) rfl (by kernel_rfl) (by kernel_rfl) (by kernel_rfl) (fun _ _ _ h => h) (Or.inl ⟨by rfl, ?_⟩) hHeld ?_
      rotate_left
      · intro w' hSw
        try dsimp only at hSw
        go_simp
        all_goals with_reducible rfl
      simp only [Act.put, List.setIfInBounds_toArray, List.set_cons_zero, List.set_cons_succ]
      refine wpAnyH_take (i := 3) (oi := ⟨_, _, _, _, _, _⟩) (v := ?_) rfl (by kernel_rfl) (by kernel_rfl) (by kernel_rfl) (fun _ _ _ h => h) (Or.inl ⟨by rfl, ?_⟩) hHeld ?_
      rotate_left
      · intro w' hSw
        try dsimp only at hSw
        go_simp
        all_goals with_reducible rfl
      simp only [Act.put, List.setIfInBounds_toArray, List.set_cons_zero, List.set_cons_succ]
      refine wpAnyH_take (i := 4) (oi := ⟨_, _, _, _, _, _⟩) (v := ?_) rfl (by kernel_rfl) (by kernel_rfl) (by kernel_rfl) (fun _ _ _ h => h) (Or.inl ⟨by rfl, ?_⟩) hHeld ?_
      rotate_left
      · intro w' hSw
        try dsimp only at hSw
        go_simp
        all_goals with_reducible rfl
      simp only [Act.put, List.setIfInBounds_toArray, List.set_cons_zero, List.set_cons_succ]
      refine wpAnyH_take (i := 5) (oi := ⟨_, _, _, _, _, _⟩) (v := ?_) rfl (by kernel_rfl) (by kernel_rfl) (by kernel_rfl) (fun _ _ _ h => h) (Or.inl ⟨by rfl, ?_⟩) hHeld ?_
      rotate_left
      · intro w' hSw
        try dsimp only at hSw
        go_simp
        all_goals with_reducible rfl
      simp only [Act.put, List.setIfInBounds_toArray, List.set_cons_zero, List.set_cons_succ]
      refine wpAnyH_take (i := 6) (oi := ⟨_, _, _, _, _, _⟩) (v := ?_) rfl (by kernel_rfl) (by kernel_rfl) (by kernel_rfl) (fun _ _ _ h => h) (Or.inl ⟨by rfl, ?_⟩) hHeld ?_
      rotate_left
      · intro w' hSw
        try dsimp only at hSw
        go_simp
        all_goals with_reducible rfl
      simp only [Act.put, List.setIfInBounds_toArray, List.set_cons_zero, List.set_cons_succ]
      refine wpAnyH_ready (rs := [1, 7]) (by kernel_rfl) (by simp) ?_
      refine AllReadyH.cons (o := ⟨_, _, _, _, _, _⟩) rfl (fun K hK => ?_) (AllReadyH.cons (o := ⟨_, _, _, _, _, _⟩) rfl (fun K hK => ?_) AllReadyH.nil)
      · have e4 : WD.cell? ⟨m, 2, none⟩ = some (.slice va j vc) := (lblk_at M6d.out.k).2.2
        go_simp
        clear e4
        clear hHeld d0 d1 d2 d3 d4 d5
        have d0 := (CSD.out).head
        have d1 := ((CSD.out).tail).head
        have d2 := (((CSD.out).tail).tail).head
        have d3 := ((((CSD.out).tail).tail).tail).head
        have d4 := (((((CSD.out).tail).tail).tail).tail).head
        have d5 := ((((((CSD.out).tail).tail).tail).tail).tail).head
        refine hK.out _ _ ⟨d0, d1, d2, d3, d4, d5⟩ (fun hHeld => ?_)
        clear hK K
        try simp only [Act.put, List.setIfInBounds_toArray, List.set_cons_zero, List.set_cons_succ]
        refine wpAnyH_ready (rs := [7]) (by kernel_rfl) (by simp) ?_
        refine AllReadyH.cons (o := ⟨_, _, _, _, _, _⟩) rfl (fun K hK => ?_) AllReadyH.nil
        go_simp
        refine (HFU.out _ M6d.out.fr).mono ?_
        rintro e w7 ⟨rfl, b7⟩
        have M7 := Hid.of (M6d.out.next b7)
        have CS7 := Hid.of (CSD.out.next b7)
        clear b7
        clear hHeld d0 d1 d2 d3 d4 d5
        have d0 := (CS7.out).head
        have d1 := ((CS7.out).tail).head
        have d2 := (((CS7.out).tail).tail).head
        have d3 := ((((CS7.out).tail).tail).tail).head
        have d4 := (((((CS7.out).tail).tail).tail).tail).head
        have d5 := ((((((CS7.out).tail).tail).tail).tail).tail).head
        refine hK.out _ _ ⟨d0, d1, d2, d3, d4, d5⟩ (fun hHeld => ?_)
        clear hK K
        try simp only [Act.put, List.setIfInBounds_toArray, List.set_cons_zero, List.set_cons_succ]
        refine wpAnyH_ready (rs := [8]) (by kernel_rfl) (by simp) ?_
        refine AllReadyH.cons (o := ⟨_, _, _, _, _, _⟩) rfl (fun K hK => ?_) AllReadyH.nil
        go_simp
        obtain ⟨w8, hw8⟩ : ∃ w8, w7.alloc (.cells #[.int .i64 sx] 3) = w8 := ⟨_, rfl⟩
        have b8 : Below w7.heap.size w7 w8 := by rw [← hw8]; exact (Below.refl _ _).alloc (Nat.le_refl _) _
        have K8 : Hid (Cells w8 w7.heap.size 0 [.int .i64 sx]) := Hid.of (by rw [← hw8]; exact one_cell w7 _ _)
        have M8 := Hid.of (M7.out.next b8)
        have CS8 := Hid.of (CS7.out.next b8)
        rw [hw8]
        clear hw8 b8 M7 CS7
        clear hHeld d0 d1 d2 d3 d4 d5
        have d0 := (CS8.out).head
        have d1 := ((CS8.out).tail).head
        have d2 := (((CS8.out).tail).tail).head
        have d3 := ((((CS8.out).tail).tail).tail).head
        have d4 := (((((CS8.out).tail).tail).tail).tail).head
        have d5 := ((((((CS8.out).tail).tail).tail).tail).tail).head
        refine hK.out _ _ ⟨d0, d1, d2, d3, d4, d5⟩ (fun hHeld => ?_)
        clear hK K
        try simp only [Act.put, List.setIfInBounds_toArray, List.set_cons_zero, List.set_cons_succ]
        refine wpAnyH_ready (rs := [9]) (by kernel_rfl) (by simp) ?_
        refine AllReadyH.cons (o := ⟨_, _, _, _, _, _⟩) rfl (fun K hK => ?_) AllReadyH.nil
        refine step_append_keep rfl (.tmp 44) (.tmp 51) 25 rfl w1.heap.size 3 i0 _ 1 8 Tryz.underlying25 HI.out HZ0.out HZ1.out HZ2.out rfl (by decide) (.slice va j vc) j (xs.map (Value.int .i64)) (by simp [Act.eval]) (by have := M8.out.of; rwa [HXL.out] at this) w7.heap.size 0 1 1 [.int .i64 sx] (by simp [Act.eval]) K8.out rfl (by simp [Value.oneCell']) (by unfold maxLen; omega) (by omega) (by have := M8.out.hm; have := M8.out.lt; omega) ?_
        intro v9 w9 o9 g9 _ m9
        obtain ⟨a9, c9, hv9, _⟩ := own_one o9
        subst hv9
        have O9 := Hid.of o9
        have G9 := Hid.of g9
        have M9 := Hid.of m9
        have z9 : LBlk w9 m qn (.slice sa2 QN sc2) (.slice va j vc) := (g9.block m M8.out.lt (fun c => M8.out.mf c.symm)).trans M8.out.k
        have f9 : w9.frozen? ⟨m, 2, none⟩ = false := row_frozen z9
        have e9 : w9.cell? ⟨m, 2, none⟩ = some (.slice va j vc) := (lblk_at z9).2.2
        have CS9 := Hid.of (CS8.out.grown g9 (fun x hx c => by rcases HLY.out x hx with h | h <;> (have h1 := (M8.out.of.lt _ c.symm).1; have h2 := HVY.out _ c.symm; omega)))
        clear o9 g9 m9 z9
        clear hHeld d0 d1 d2 d3 d4 d5
        have d0 := (CS9.out).head
        have d1 := ((CS9.out).tail).head
        have d2 := (((CS9.out).tail).tail).head
        have d3 := ((((CS9.out).tail).tail).tail).head
        have d4 := (((((CS9.out).tail).tail).tail).tail).head
        have d5 := ((((((CS9.out).tail).tail).tail).tail).tail).head
        refine hK.out _ _ ⟨d0, d1, d2, d3, d4, d5⟩ (fun hHeld => ?_)
        clear hK K
        try simp only [Act.put, List.setIfInBounds_toArray, List.set_cons_zero, List.set_cons_succ]
        refine wpAnyH_take (i := 10) (oi := ⟨_, _, _, _, _, _⟩) (v := ?_) rfl (by kernel_rfl) (by kernel_rfl) (by kernel_rfl) (fun _ _ _ h => h) (Or.inl ⟨by rfl, ?_⟩) hHeld ?_
        rotate_left
        · intro w' hSw
          try dsimp only at hSw
          go_simp
          all_goals with_reducible rfl
        simp only [Act.put, List.setIfInBounds_toArray, List.set_cons_zero, List.set_cons_succ]
        refine wpAnyH_ready (rs := [11]) (by kernel_rfl) (by simp) ?_
        refine AllReadyH.cons (o := ⟨_, _, _, _, _, _⟩) rfl (fun K hK => ?_) AllReadyH.nil
        go_simp
        clear f9 e9
        have MZ := Hid.of (M8.out.more (Below.refl _ _) G9.out (fv' := .slice a9 (j + 1) c9) (w2 := w9) (by rw [HXL.out]; exact O9.out) M9.out)
        obtain ⟨wz, hwz⟩ : ∃ wz, w9.setCell ⟨m, 2, none⟩ (.slice a9 (j + 1) c9) = wz := ⟨_, rfl⟩
        rw [hwz] at MZ ⊢
        have gz : w9.grownBy wz (some m) := by rw [← hwz]; exact grownBy_setCell w9 m 2 (.slice a9 (j + 1) c9)
        have CSZ := Hid.of (CS9.out.grown gz (fun x hx c => by have h1 := Option.some.inj c; have h2 := HMY.out; have h3 := MZ.out.hm; have h4 := HLY.out x hx; omega))
        clear hwz gz
        clear hHeld d0 d1 d2 d3 d4 d5
        have d0 := (CSZ.out).head
        have d1 := ((CSZ.out).tail).head
        have d2 := (((CSZ.out).tail).tail).head
        have d3 := ((((CSZ.out).tail).tail).tail).head
        have d4 := (((((CSZ.out).tail).tail).tail).tail).head
        have d5 := ((((((CSZ.out).tail).tail).tail).tail).tail).head
        refine hK.out _ _ ⟨d0, d1, d2, d3, d4, d5⟩ (fun hHeld => ?_)
        clear hK K
        refine wpAnyH_done (by kernel_rfl) ?_ _
        refine NoPanic.normal ?_
        clear hHeld
        clear d0 d1 d2 d3 d4 d5
        go_wp2
        go_roundg (QN - (j + 1))
        case measure => have := HJ.out; omega
        case rel => exact ⟨j + 1, _, xs ++ [sx], by go_num, HJ.out, Nat.le_refl _, HX2, Hid.of (by rw [List.length_append, HXL.out]; rfl), MZ⟩
      · go_simp
        refine (HFU.out _ M6d.out.fr).mono ?_
        rintro e w7 ⟨rfl, b7⟩
        have M7 := Hid.of (M6d.out.next b7)
        have CS7 := Hid.of (CSD.out.next b7)
        clear b7
        clear hHeld d0 d1 d2 d3 d4 d5
        have d0 := (CS7.out).head
        have d1 := ((CS7.out).tail).head
        have d2 := (((CS7.out).tail).tail).head
        have d3 := ((((CS7.out).tail).tail).tail).head
        have d4 := (((((CS7.out).tail).tail).tail).tail).head
        have d5 := ((((((CS7.out).tail).tail).tail).tail).tail).head
        refine hK.out _ _ ⟨d0, d1, d2, d3, d4, d5⟩ (fun hHeld => ?_)
        clear hK K
        try simp only [Act.put, List.setIfInBounds_toArray, List.set_cons_zero, List.set_cons_succ]
        refine wpAnyH_ready (rs := [1, 8]) (by kernel_rfl) (by simp) ?_
        refine AllReadyH.cons (o := ⟨_, _, _, _, _, _⟩) rfl (fun K hK => ?_) (AllReadyH.cons (o := ⟨_, _, _, _, _, _⟩) rfl (fun K hK => ?_) AllReadyH.nil)
        · have e4 : w7.cell? ⟨m, 2, none⟩ = some (.slice va j vc) := (lblk_at M7.out.k).2.2
          go_simp
          clear e4
          clear hHeld d0 d1 d2 d3 d4 d5
          have d0 := (CS7.out).head
          have d1 := ((CS7.out).tail).head
          have d2 := (((CS7.out).tail).tail).head
          have d3 := ((((CS7.out).tail).tail).tail).head
          have d4 := (((((CS7.out).tail).tail).tail).tail).head
          have d5 := ((((((CS7.out).tail).tail).tail).tail).tail).head
          refine hK.out _ _ ⟨d0, d1, d2, d3, d4, d5⟩ (fun hHeld => ?_)
          clear hK K
          try simp only [Act.put, List.setIfInBounds_toArray, List.set_cons_zero, List.set_cons_succ]
          refine wpAnyH_ready (rs := [8]) (by kernel_rfl) (by simp) ?_
          refine AllReadyH.cons (o := ⟨_, _, _, _, _, _⟩) rfl (fun K hK => ?_) AllReadyH.nil
          go_simp
          obtain ⟨w8, hw8⟩ : ∃ w8, w7.alloc (.cells #[.int .i64 sx] 3) = w8 := ⟨_, rfl⟩
          have b8 : Below w7.heap.size w7 w8 := by rw [← hw8]; exact (Below.refl _ _).alloc (Nat.le_refl _) _
          have K8 : Hid (Cells w8 w7.heap.size 0 [.int .i64 sx]) := Hid.of (by rw [← hw8]; exact one_cell w7 _ _)
          have M8 := Hid.of (M7.out.next b8)
          have CS8 := Hid.of (CS7.out.next b8)
          rw [hw8]
          clear hw8 b8 M7 CS7
          clear hHeld d0 d1 d2 d3 d4 d5
          have d0 := (CS8.out).head
          have d1 := ((CS8.out).tail).head
          have d2 := (((CS8.out).tail).tail).head
          have d3 := ((((CS8.out).tail).tail).tail).head
          have d4 := (((((CS8.out).tail).tail).tail).tail).head
          have d5 := ((((((CS8.out).tail).tail).tail).tail).tail).head
          refine hK.out _ _ ⟨d0, d1, d2, d3, d4, d5⟩ (fun hHeld => ?_)
          clear hK K
          try simp only [Act.put, List.setIfInBounds_toArray, List.set_cons_zero, List.set_cons_succ]
          refine wpAnyH_ready (rs := [9]) (by kernel_rfl) (by simp) ?_
          refine AllReadyH.cons (o := ⟨_, _, _, _, _, _⟩) rfl (fun K hK => ?_) AllReadyH.nil
          refine step_append_keep rfl (.tmp 44) (.tmp 51) 25 rfl w1.heap.size 3 i0 _ 1 8 Tryz.underlying25 HI.out HZ0.out HZ1.out HZ2.out rfl (by decide) (.slice va j vc) j (xs.map (Value.int .i64)) (by simp [Act.eval]) (by have := M8.out.of; rwa [HXL.out] at this) w7.heap.size 0 1 1 [.int .i64 sx] (by simp [Act.eval]) K8.out rfl (by simp [Value.oneCell']) (by unfold maxLen; omega) (by omega) (by have := M8.out.hm; have := M8.out.lt; omega) ?_
          intro v9 w9 o9 g9 _ m9
          obtain ⟨a9, c9, hv9, _⟩ := own_one o9
          subst hv9
          have O9 := Hid.of o9
          have G9 := Hid.of g9
          have M9 := Hid.of m9
          have z9 : LBlk w9 m qn (.slice sa2 QN sc2) (.slice va j vc) := (g9.block m M8.out.lt (fun c => M8.out.mf c.symm)).trans M8.out.k
          have f9 : w9.frozen? ⟨m, 2, none⟩ = false := row_frozen z9
          have e9 : w9.cell? ⟨m, 2, none⟩ = some (.slice va j vc) := (lblk_at z9).2.2
          have CS9 := Hid.of (CS8.out.grown g9 (fun x hx c => by rcases HLY.out x hx with h | h <;> (have h1 := (M8.out.of.lt _ c.symm).1; have h2 := HVY.out _ c.symm; omega)))
          clear o9 g9 m9 z9
          clear hHeld d0 d1 d2 d3 d4 d5
          have d0 := (CS9.out).head
          have d1 := ((CS9.out).tail).head
          have d2 := (((CS9.out).tail).tail).head
          have d3 := ((((CS9.out).tail).tail).tail).head
          have d4 := (((((CS9.out).tail).tail).tail).tail).head
          have d5 := ((((((CS9.out).tail).tail).tail).tail).tail).head
          refine hK.out _ _ ⟨d0, d1, d2, d3, d4, d5⟩ (fun hHeld => ?_)
          clear hK K
          try simp only [Act.put, List.setIfInBounds_toArray, List.set_cons_zero, List.set_cons_succ]
          refine wpAnyH_take (i := 10) (oi := ⟨_, _, _, _, _, _⟩) (v := ?_) rfl (by kernel_rfl) (by kernel_rfl) (by kernel_rfl) (fun _ _ _ h => h) (Or.inl ⟨by rfl, ?_⟩) hHeld ?_
          rotate_left
          · intro w' hSw
            try dsimp only at hSw
            go_simp
            all_goals with_reducible rfl
          simp only [Act.put, List.setIfInBounds_toArray, List.set_cons_zero, List.set_cons_succ]
          refine wpAnyH_ready (rs := [11]) (by kernel_rfl) (by simp) ?_
          refine AllReadyH.cons (o := ⟨_, _, _, _, _, _⟩) rfl (fun K hK => ?_) AllReadyH.nil
          go_simp
          clear f9 e9
          have MZ := Hid.of (M8.out.more (Below.refl _ _) G9.out (fv' := .slice a9 (j + 1) c9) (w2 := w9) (by rw [HXL.out]; exact O9.out) M9.out)
          obtain ⟨wz, hwz⟩ : ∃ wz, w9.setCell ⟨m, 2, none⟩ (.slice a9 (j + 1) c9) = wz := ⟨_, rfl⟩
          rw [hwz] at MZ ⊢
          have gz : w9.grownBy wz (some m) := by rw [← hwz]; exact grownBy_setCell w9 m 2 (.slice a9 (j + 1) c9)
          have CSZ := Hid.of (CS9.out.grown gz (fun x hx c => by have h1 := Option.some.inj c; have h2 := HMY.out; have h3 := MZ.out.hm; have h4 := HLY.out x hx; omega))
          clear hwz gz
          clear hHeld d0 d1 d2 d3 d4 d5
          have d0 := (CSZ.out).head
          have d1 := ((CSZ.out).tail).head
          have d2 := (((CSZ.out).tail).tail).head
          have d3 := ((((CSZ.out).tail).tail).tail).head
          have d4 := (((((CSZ.out).tail).tail).tail).tail).head
          have d5 := ((((((CSZ.out).tail).tail).tail).tail).tail).head
          refine hK.out _ _ ⟨d0, d1, d2, d3, d4, d5⟩ (fun hHeld => ?_)
          clear hK K
          refine wpAnyH_done (by kernel_rfl) ?_ _
          refine NoPanic.normal ?_
          clear hHeld
          clear d0 d1 d2 d3 d4 d5
          go_wp2
          go_roundg (QN - (j + 1))
          case measure => have := HJ.out; omega
          case rel => exact ⟨j + 1, _, xs ++ [sx], by go_num, HJ.out, Nat.le_refl _, HX2, Hid.of (by rw [List.length_append, HXL.out]; rfl), MZ⟩
        · go_simp
          obtain ⟨w8, hw8⟩ : ∃ w8, w7.alloc (.cells #[.int .i64 sx] 3) = w8 := ⟨_, rfl⟩
          have b8 : Below w7.heap.size w7 w8 := by rw [← hw8]; exact (Below.refl _ _).alloc (Nat.le_refl _) _
          have K8 : Hid (Cells w8 w7.heap.size 0 [.int .i64 sx]) := Hid.of (by rw [← hw8]; exact one_cell w7 _ _)
          have M8 := Hid.of (M7.out.next b8)
          have CS8 := Hid.of (CS7.out.next b8)
          rw [hw8]
          clear hw8 b8 M7 CS7
          clear hHeld d0 d1 d2 d3 d4 d5
          have d0 := (CS8.out).head
          have d1 := ((CS8.out).tail).head
          have d2 := (((CS8.out).tail).tail).head
          have d3 := ((((CS8.out).tail).tail).tail).head
          have d4 := (((((CS8.out).tail).tail).tail).tail).head
          have d5 := ((((((CS8.out).tail).tail).tail).tail).tail).head
          refine hK.out _ _ ⟨d0, d1, d2, d3, d4, d5⟩ (fun hHeld => ?_)
          clear hK K
          try simp only [Act.put, List.setIfInBounds_toArray, List.set_cons_zero, List.set_cons_succ]
          refine wpAnyH_ready (rs := [1]) (by kernel_rfl) (by simp) ?_
          refine AllReadyH.cons (o := ⟨_, _, _, _, _, _⟩) rfl (fun K hK => ?_) AllReadyH.nil
          have e4 : w8.cell? ⟨m, 2, none⟩ = some (.slice va j vc) := (lblk_at M8.out.k).2.2
          go_simp
          clear e4
          clear hHeld d0 d1 d2 d3 d4 d5
          have d0 := (CS8.out).head
          have d1 := ((CS8.out).tail).head
          have d2 := (((CS8.out).tail).tail).head
          have d3 := ((((CS8.out).tail).tail).tail).head
          have d4 := (((((CS8.out).tail).tail).tail).tail).head
          have d5 := ((((((CS8.out).tail).tail).tail).tail).tail).head
          refine hK.out _ _ ⟨d0, d1, d2, d3, d4, d5⟩ (fun hHeld => ?_)
          clear hK K
          try simp only [Act.put, List.setIfInBounds_toArray, List.set_cons_zero, List.set_cons_succ]
          refine wpAnyH_ready (rs := [9]) (by kernel_rfl) (by simp) ?_
          refine AllReadyH.cons (o := ⟨_, _, _, _, _, _⟩) rfl (fun K hK => ?_) AllReadyH.nil
          refine step_append_keep rfl (.tmp 44) (.tmp 51) 25 rfl w1.heap.size 3 i0 _ 1 8 Tryz.underlying25 HI.out HZ0.out HZ1.out HZ2.out rfl (by decide) (.slice va j vc) j (xs.map (Value.int .i64)) (by simp [Act.eval]) (by have := M8.out.of; rwa [HXL.out] at this) w7.heap.size 0 1 1 [.int .i64 sx] (by simp [Act.eval]) K8.out rfl (by simp [Value.oneCell']) (by unfold maxLen; omega) (by omega) (by have := M8.out.hm; have := M8.out.lt; omega) ?_
          intro v9 w9 o9 g9 _ m9
          obtain ⟨a9, c9, hv9, _⟩ := own_one o9
          subst hv9
          have O9 := Hid.of o9
          have G9 := Hid.of g9
          have M9 := Hid.of m9
          have z9 : LBlk w9 m qn (.slice sa2 QN sc2) (.slice va j vc) := (g9.block m M8.out.lt (fun c => M8.out.mf c.symm)).trans M8.out.k
          have f9 : w9.frozen? ⟨m, 2, none⟩ = false := row_frozen z9
          have e9 : w9.cell? ⟨m, 2, none⟩ = some (.slice va j vc) := (lblk_at z9).2.2
          have CS9 := Hid.of (CS8.out.grown g9 (fun x hx c => by rcases HLY.out x hx with h | h <;> (have h1 := (M8.out.of.lt _ c.symm).1; have h2 := HVY.out _ c.symm; omega)))
          clear o9 g9 m9 z9
          clear hHeld d0 d1 d2 d3 d4 d5
          have d0 := (CS9.out).head
          have d1 := ((CS9.out).tail).head
          have d2 := (((CS9.out).tail).tail).head
          have d3 := ((((CS9.out).tail).tail).tail).head
          have d4 := (((((CS9.out).tail).tail).tail).tail).head
          have d5 := ((((((CS9.out).tail).tail).tail).tail).tail).head
          refine hK.out _ _ ⟨d0, d1, d2, d3, d4, d5⟩ (fun hHeld => ?_)
          clear hK K
          try simp only [Act.put, List.setIfInBounds_toArray, List.set_cons_zero, List.set_cons_succ]
          refine wpAnyH_take (i := 10) (oi := ⟨_, _, _, _, _, _⟩) (v := ?_) rfl (by kernel_rfl) (by kernel_rfl) (by kernel_rfl) (fun _ _ _ h => h) (Or.inl ⟨by rfl, ?_⟩) hHeld ?_
          rotate_left
          · intro w' hSw
            try dsimp only at hSw
            go_simp
            all_goals with_reducible rfl
          simp only [Act.put, List.setIfInBounds_toArray, List.set_cons_zero, List.set_cons_succ]
          refine wpAnyH_ready (rs := [11]) (by kernel_rfl) (by simp) ?_
          refine AllReadyH.cons (o := ⟨_, _, _, _, _, _⟩) rfl (fun K hK => ?_) AllReadyH.nil
          go_simp
          clear f9 e9
          have MZ := Hid.of (M8.out.more (Below.refl _ _) G9.out (fv' := .slice a9 (j + 1) c9) (w2 := w9) (by rw [HXL.out]; exact O9.out) M9.out)
          obtain ⟨wz, hwz⟩ : ∃ wz, w9.setCell ⟨m, 2, none⟩ (.slice a9 (j + 1) c9) = wz := ⟨_, rfl⟩
          rw [hwz] at MZ ⊢
          have gz : w9.grownBy wz (some m) := by rw [← hwz]; exact grownBy_setCell w9 m 2 (.slice a9 (j + 1) c9)
          have CSZ := Hid.of (CS9.out.grown gz (fun x hx c => by have h1 := Option.some.inj c; have h2 := HMY.out; have h3 := MZ.out.hm; have h4 := HLY.out x hx; omega))
          clear hwz gz
          clear hHeld d0 d1 d2 d3 d4 d5
          have d0 := (CSZ.out).head
          have d1 := ((CSZ.out).tail).head
          have d2 := (((CSZ.out).tail).tail).head
          have d3 := ((((CSZ.out).tail).tail).tail).head
          have d4 := (((((CSZ.out).tail).tail).tail).tail).head
          have d5 := ((((((CSZ.out).tail).tail).tail).tail).tail).head
          refine hK.out _ _ ⟨d0, d1, d2, d3, d4, d5⟩ (fun hHeld => ?_)
          clear hK K
          refine wpAnyH_done (by kernel_rfl) ?_ _
          refine NoPanic.normal ?_
          clear hHeld
          clear d0 d1 d2 d3 d4 d5
          go_wp2
          go_roundg (QN - (j + 1))
          case measure => have := HJ.out; omega
          case rel => exact ⟨j + 1, _, xs ++ [sx], by go_num, HJ.out, Nat.le_refl _, HX2, Hid.of (by rw [List.length_append, HXL.out]; rfl), MZ⟩
    · obtain rfl : j = QN := by omega
      obtain ⟨va, vc, rfl, -⟩ := own_one M.out.of
      rw [HXL.out] at M
      have HXE : Hid (mMake p r q = (q, xs)) := Hid.of (by rw [mMake_ok E0.out, HX.out, ← NQ.out, List.take_length])
      obtain ⟨q0, q1, q2⟩ := lblk_at M.out.k
      have f0 := row_frozen (i := 0) M.out.kz
      have f1 := row_frozen (i := 1) M.out.kz
      have f2 := row_frozen (i := 2) M.out.kz
      obtain ⟨t0, t1, t2⟩ := lblk_at M.out.kz
      have KZ := lblk_set (n' := qn) (s' := .slice sa2 j sc2) (f' := .slice va j vc) M.out.kz
      have gz := setL_grown wr (B + 3) qn (.slice sa2 j sc2) (.slice va j vc)
      have keep : ∀ {e : TypeId} {sz N : Nat} {v : Value} {ys : List Value}, wr.ownsRow w1.heap.size e sz v N ys → Hid ((setL wr (B + 3) qn (.slice sa2 j sc2) (.slice va j vc)).ownsRow w.heap.size e sz v N ys) := fun {e sz N v ys} hh => Hid.of (by
        suffices h1 : (setL wr (B + 3) qn (.slice sa2 j sc2) (.slice va j vc)).ownsRow w1.heap.size e sz v N ys from own_mono h1 B1.out.size
        refine ⟨hh.1, ?_⟩
        rcases hh.2 with c | ⟨g', cap, cur, ev, hB', hrow, rest⟩
        · exact .inl c
        · refine .inr ⟨g', cap, cur, ev, hB', ?_, rest⟩
          rw [gz.block g' (Array.getElem?_eq_some_iff.1 hrow).1 (fun c => by have := Option.some.inj c; have := Z1.out; omega)]
          exact hrow)
      have OO : Hid (OwnPlan w.heap.size (setL wr (B + 3) qn (.slice sa2 j sc2) (.slice va j vc)) (.agg #[.string qn, .slice sa2 j sc2, .slice va j vc]) (q, xs)) := Hid.of
        ⟨_, _, by unfold plVal; rw [← HN.out], (keep M.out.os).out, (keep (by have := M.out.of; exact this)).out, M.out.ap⟩
      have BZ : Hid (Below w.heap.size w (setL wr (B + 3) qn (.slice sa2 j sc2) (.slice va j vc))) := Hid.of (M.out.fr.grown gz M.out.fr.size (fun k hk => by cases hk; have := HBB.out; omega))
      obtain ⟨r0, r1, r2⟩ := lblk_at KZ
      clear KZ gz keep
      unfold setL at r0 r1 r2 BZ OO
      go_wp2
      refine bodyPost_ret (v := .tuple #[.agg #[.string qn, .slice sa2 j sc2, .slice va j vc], .int .i64 0]) ?_ rfl ⟨.agg #[.string qn, .slice sa2 j sc2, .slice va j vc], by rw [E0.out], by rw [HXE.out]; exact OO.out, BZ.out⟩
      simp [results, Tryz.results16, go_sem, r0, r1, r2]

end Go.Proofs.YtbhcafginmkaaaaGreat

namespace Go.Proofs.YtbhcafginmkaaaaGreat
open Go.RowKit Go.Lib

theorem rFrom_in2 {r : RchL} (h : RFit r) (i : Int) : I64 (rFrom r i) := by
  have key : ∀ j, I64 (rFromN r j) := fun j => by
    unfold rFromN
    split
    · unfold I64; omega
    · rename_i t ht
      have tb := h.2.1.2.2 t (List.mem_of_getElem? ht)
      have hg : I64 (gBack r.1 t.2.2.1 (rEvery r.2.1.2 j)) := by
        unfold gBack
        split
        · unfold I64; omega
        · rename_i c
          simp only [not_or, Int.not_lt] at c
          have h1 := h.1
          have h2 := tb.2.2.1
          have h3 : I64 (rEvery r.2.1.2 j) := by
            unfold rEvery
            split
            · rename_i u hu
              exact (h.2.1.2.2 u (List.mem_of_getElem? hu)).2.1
            · split
              · rename_i u hu
                exact (h.2.1.2.2 u (List.mem_of_getElem? hu)).2.1
              · unfold I64; omega
          have h4 := gFloor_int (t := r.1 - t.2.2.1) (e := rEvery r.2.1.2 j) (by unfold In64 at h1 h2; unfold I64; omega) h3
          unfold I64 at h4 ⊢
          omega
      split
      · exact hg
      · rename_i f hf
        have hf2 := h.2.2.2 f (List.mem_of_getElem? hf)
        unfold I64 at hg ⊢
        unfold In64 at hf2
        omega
  unfold rFrom
  split
  · unfold I64; omega
  · exact key _

theorem mSrc_in {p : PlanL} (h : MFit p) (j : Nat) : In64 (mSrc p j) := by
  unfold mSrc
  split
  · rename_i i hi
    exact h.2.2 i (List.mem_of_getElem? hi)
  · unfold In64; omega

theorem ceil_named2 {t e r : Int} (hr : gCeil t e = r) (ht : I64 t) (he : I64 e) (w : World) : Calls Tryz.prog 108 #[.int .i64 t, .int .i64 e] w fun x w' => x = .returned (.int .i64 r) ∧ Below w.heap.size w w' := by
  rw [← hr]
  refine (Ceil_any t e ht he w).mono ?_
  rintro x w' ⟨rfl, q, rfl⟩
  exact ⟨rfl, below_drewN (Below.refl _ _) q⟩

/-- The bases of the first i tiers. -/
def mPre (p : PlanL) (r : RchL) (i : Nat) : List Int := (mBases p r).take i

theorem mPre_succ {p : PlanL} {r : RchL} {i : Nat} {x : TierL} (hx : p.1.2[i]? = some x) : mPre p r (i + 1) = mPre p r i ++ [gCeil (rFrom r (mSrc p i)) x.2.1] := by
  unfold mPre
  have : (mBases p r)[i]? = some (gCeil (rFrom r (mSrc p i)) x.2.1) := by
    unfold mBases
    rw [List.getElem?_mapIdx, hx]
    rfl
  rw [List.take_add_one, this]
  rfl

theorem mBases_len (p : PlanL) (r : RchL) : (mBases p r).length = p.1.2.length := by unfold mBases; rw [List.length_mapIdx]

set_option maxRecDepth 20000 in
set_option maxHeartbeats 6400000 in
theorem bases_any (v rv : Value) (p : PlanL) (r : RchL) (w : World) (fp : MFit p) (fr : RFit r) (hv : PlanRow w v p) (hr : RchRow w rv r) :
    Calls Tryz.prog 23 #[v, rv] w fun x w' => ∃ u, x = .returned u ∧ w'.ownsRow w.heap.size 3 1 u (mBases p r).length ((mBases p r).map (Value.int .i64)) ∧ Below w.heap.size w w' := by
  have FP := Hid.of fp
  have FR := Hid.of fr
  have HV := Hid.of hv
  have HR := Hid.of hr
  obtain ⟨s, f, rfl, hs, hf, -, -⟩ := hv
  obtain ⟨rs, rf, rfl, -, -, -, -⟩ := hr
  have HS := Hid.of hs
  obtain ⟨sa, sc, rfl, -⟩ := hs
  unfold rVal at HR ⊢
  unfold plVal at HV ⊢
  obtain ⟨n, hn⟩ : ∃ n, p.1.1 = n := ⟨_, rfl⟩
  obtain ⟨N, hN⟩ : ∃ N, p.1.2.length = N := ⟨_, rfl⟩
  obtain ⟨now, hnow⟩ : ∃ now, r.1 = now := ⟨_, rfl⟩
  obtain ⟨rn, hrn⟩ : ∃ n, r.2.1.1 = n := ⟨_, rfl⟩
  rw [hn, hN] at HV
  rw [hnow, hrn] at HR
  rw [hN] at HS
  rw [hn, hN, hnow, hrn]
  obtain ⟨B, hB⟩ : ∃ B, w.heap.size = B := ⟨_, rfl⟩
  obtain ⟨w1, hw1⟩ : ∃ w1, (w.alloc (.cells #[.string n, .slice sa N sc, f] 49)).alloc (.cells #[.int .i64 now, .string rn, rs, rf] 47) = w1 := ⟨_, rfl⟩
  have htwo : Below w.heap.size w w1 ∧ w1.heap.size = B + 2 ∧ w1.heap[B]? = some (.cells #[.string n, .slice sa N sc, f] 49 (0, 0)) ∧ w1.heap[B + 1]? = some (.cells #[.int .i64 now, .string rn, rs, rf] 47 (0, 0)) := by
    rw [← hw1, ← hB]
    obtain ⟨wa, ha⟩ : ∃ wa, w.alloc (.cells #[.string n, .slice sa N sc, f] 49) = wa := ⟨_, rfl⟩
    have a0 : wa.heap[w.heap.size]? = some (.cells #[.string n, .slice sa N sc, f] 49 (0, 0)) := by rw [← ha]; exact (MapKept.heap_alloc w _).1
    have asz : wa.heap.size = w.heap.size + 1 := by rw [← ha]; simp
    have ab : Below w.heap.size w wa := by rw [← ha]; exact (Below.refl _ _).alloc (Nat.le_refl _) _
    rw [ha]
    obtain ⟨wb, hb⟩ : ∃ wb, wa.alloc (.cells #[.int .i64 now, .string rn, rs, rf] 47) = wb := ⟨_, rfl⟩
    have b0 : wb.heap[w.heap.size + 1]? = some (.cells #[.int .i64 now, .string rn, rs, rf] 47 (0, 0)) := by rw [← hb, ← asz]; exact (MapKept.heap_alloc wa _).1
    have bs : wb.heap.size = w.heap.size + 2 := by rw [← hb]; simp [asz]
    have bb : Below wa.heap.size wa wb := by rw [← hb]; exact (Below.refl _ _).alloc (Nat.le_refl _) _
    rw [hb]
    exact ⟨ab.trans (bb.mono (by omega)), bs, by rw [bb.block _ (by omega)]; exact a0, b0⟩
  obtain ⟨b1, z1, k0, k1⟩ := htwo
  have CS1 : Hid (Dc w1 [(⟨B, 0, none⟩, .string n), (⟨B, 1, none⟩, .slice sa N sc), (⟨B, 2, none⟩, f), (⟨B + 1, 0, none⟩, .int .i64 now), (⟨B + 1, 1, none⟩, .string rn), (⟨B + 1, 2, none⟩, rs), (⟨B + 1, 3, none⟩, rf)]) := Hid.of (Dc.app (Dc.one k0 (i := 0) rfl) (Dc.app (Dc.one k0 (i := 1) rfl) (Dc.app (Dc.one k0 (i := 2) rfl) (Dc.app (Dc.one k1 (i := 0) rfl) (Dc.app (Dc.one k1 (i := 1) rfl) (Dc.app (Dc.one k1 (i := 2) rfl) (Dc.one k1 (i := 3) rfl)))))))
  have B1 := Hid.of b1
  have Z1 := Hid.of z1
  have HW := Hid.of hw1
  have HBB := Hid.of hB
  have NP := Hid.of hN
  clear hw1 b1 z1 k0 k1 hB fp fr hn hN hnow hrn hf
  obtain ⟨i0, hi, hz0, hz1, hz2⟩ := info_parts int_info'
  have HI := Hid.of hi
  have HZ0 := Hid.of hz0
  have HZ1 := Hid.of hz1
  have HZ2 := Hid.of hz2
  clear hi hz0 hz1 hz2
  obtain ⟨q0, q1⟩ : w1.cell? ⟨B, 0, none⟩ = some (.string n) ∧ w1.cell? ⟨B, 1, none⟩ = some (.slice sa N sc) := ⟨CS1.out.head, CS1.out.tail.head⟩
  go_enter Tryz.func23, Tryz.ntmps23
  go_upto_region 1 with fail
  rw [HW.out, HBB.out]
  clear HW
  go_wp2
  clear q0 q1
  go_loopg [5, 12] N (fun kx lv iv wr => ∃ (j : Nat) (v : Value), iv = .int .i64 j ∧ v = lv ∧ j ≤ N ∧ N - j ≤ kx ∧ Hid (Dc wr [(⟨B, 0, none⟩, .string n), (⟨B, 1, none⟩, .slice sa N sc), (⟨B, 2, none⟩, f), (⟨B + 1, 0, none⟩, .int .i64 now), (⟨B + 1, 1, none⟩, .string rn), (⟨B + 1, 2, none⟩, rs), (⟨B + 1, 3, none⟩, rf)]) ∧ Hid (wr.ownsRow w1.heap.size 3 1 v j ((mPre p r j).map (Value.int .i64))) ∧ Hid (Below w.heap.size w wr) ∧ Hid (w1.heap.size ≤ wr.heap.size))
  case atStart => exact ⟨0, _, rfl, rfl, Nat.zero_le _, Nat.le_refl _, CS1, Hid.of (World.ownsRow_nil _ _ _ _), B1, Hid.of (Nat.le_refl _)⟩
  case round =>
    clear CS1 B1
    obtain ⟨j, v, rfl, rfl, hj, hk, CS, OW, HB, HSZ⟩ := hrel
    have j0 : (0 : Int) ≤ (j : Int) := Int.natCast_nonneg _
    have n9 : N ≤ 1000000 := by have := FP.out.1.1; rw [NP.out] at this; exact this
    by_cases hlt : (j : Int) < (N : Int)
    · obtain ⟨t, ht⟩ : ∃ t, p.1.2[j]? = some t := ⟨_, List.getElem?_eq_getElem (by have := NP.out; omega)⟩
      obtain ⟨b1, o1, rfl, g1, d0, d1, d2, d3⟩ := p_at (HS.out.kept HB.out) j t ht
      have HX2 := Hid.of (mPre_succ (r := r) ht)
      have TE : Hid (I64 t.2.1) := Hid.of (FP.out.1.2.2 t (List.mem_of_getElem? ht)).2.1
      obtain ⟨t0, ev, t2, sh⟩ := t
      simp only at d0 d1 d2 d3 HX2 TE
      have HJ : Hid (j < N) := Hid.of (by omega)
      obtain ⟨va, vc, rfl, -⟩ := own_one OW.out
      obtain ⟨y, hy⟩ : ∃ y, wr.heap.size = y := ⟨_, rfl⟩
      obtain ⟨w6, hw6⟩ : ∃ w6, wr.alloc (.cells #[.string t0, .int .i64 ev, .int .i64 t2, .int .i64 sh] 89) = w6 := ⟨_, rfl⟩
      have z6 : w6.heap[y]? = some (.cells #[.string t0, .int .i64 ev, .int .i64 t2, .int .i64 sh] 89 (0, 0)) := by rw [← hw6, ← hy]; exact (MapKept.heap_alloc wr _).1
      have b6 : Below wr.heap.size wr w6 := by rw [← hw6]; exact (Below.refl _ _).alloc (Nat.le_refl _) _
      have OW6 := Hid.of ((Step.of_below (F := fun _ => False) b6).own OW.out (fun _ _ c => c))
      have B6 := Hid.of (HB.out.trans (b6.mono HB.out.size))
      have HVY : Hid (∀ g, (Value.slice va j vc).ownBlock = some g → g < y ∧ w1.heap.size ≤ g) := Hid.of (fun g hg => by rw [← hy]; exact ⟨(OW.out.lt g hg).2, (OW.out.lt g hg).1⟩)
      have CS6 : Hid (Dc w6 [(⟨B, 0, none⟩, .string n), (⟨B, 1, none⟩, .slice (some ⟨b1, o1, none⟩) N sc), (⟨B, 2, none⟩, f), (⟨B + 1, 0, none⟩, .int .i64 now), (⟨B + 1, 1, none⟩, .string rn), (⟨B + 1, 2, none⟩, rs), (⟨B + 1, 3, none⟩, rf), (⟨y, 1, none⟩, .int .i64 ev)]) := Hid.of (Dc.app (CS.out.next b6) (Dc.one z6 (i := 1) rfl))
      have HLY : Hid (∀ x ∈ [(⟨B, 0, none⟩, .string n), (⟨B, 1, none⟩, .slice (some ⟨b1, o1, none⟩) N sc), (⟨B, 2, none⟩, f), (⟨B + 1, 0, none⟩, .int .i64 now), (⟨B + 1, 1, none⟩, .string rn), (⟨B + 1, 2, none⟩, rs), (⟨B + 1, 3, none⟩, rf), ((⟨y, 1, none⟩ : Addr), Value.int .i64 ev)], x.1.block < w1.heap.size ∨ x.1.block = y) := Hid.of (fun x hx => by
        have := Z1.out
        simp only [List.mem_cons, List.not_mem_nil, or_false] at hx
        rcases hx with rfl | rfl | rfl | rfl | rfl | rfl | rfl | rfl <;> first | (right; rfl) | (left; simp only; omega))
      have S6 : Hid (w1.heap.size ≤ w6.heap.size) := Hid.of (Nat.le_trans HSZ.out b6.size)
      obtain ⟨sx, hsx⟩ : ∃ sx, mSrc p j = sx := ⟨_, rfl⟩
      have HSI := Hid.of (mSrc_in FP.out j)
      rw [hsx] at HSI HX2
      obtain ⟨fx, hfx⟩ : ∃ fx, rFrom r sx = fx := ⟨_, rfl⟩
      have HFI := Hid.of (rFrom_in2 FR.out sx)
      rw [hfx] at HFI HX2
      obtain ⟨cx, hcx⟩ : ∃ cx, gCeil fx ev = cx := ⟨_, rfl⟩
      rw [hcx] at HX2
      have HSX := Hid.of hsx
      have HFX := Hid.of hfx
      have HCX := Hid.of hcx
      have RR : ∀ u, Below w.heap.size w u → Hid (RchRow u (.agg #[.int .i64 now, .string rn, rs, rf]) r) := fun u hu => Hid.of (HR.out.kept hu)
      have PR : ∀ u, Below w.heap.size w u → Hid (PlanRow u (.agg #[.string n, .slice (some ⟨b1, o1, none⟩) N sc, f]) p) := fun u hu => Hid.of (HV.out.kept hu)
      have HW := Hid.of hw6
      have HY := Hid.of hy
      clear ht g1 z6 b6 CS OW HB HSZ hw6 hy hsx hfx hcx
      go_upto_region 5 with fail
      rw [HW.out, HY.out]
      clear d0 d1 d2 d3 HW HY
      obtain ⟨WD, hWD⟩ : ∃ WD, w6.drew = WD := ⟨_, rfl⟩
      have b6d : Below w6.heap.size w6 WD := by rw [← hWD]; exact (Below.refl _ _).drew
      have B6d := Hid.of (B6.out.trans (b6d.mono B6.out.size))
      have CS6d := Hid.of (CS6.out.next b6d)
      have OW6d := Hid.of ((Step.of_below (F := fun _ => False) b6d).own OW6.out (fun _ _ c => c))
      have S6d : Hid (w1.heap.size ≤ WD.heap.size) := Hid.of (Nat.le_trans S6.out b6d.size)
      clear b6d B6 OW6 S6
      have d0 := (CS6.out).head
      have d1 := ((CS6.out).tail).head
      have d2 := (((CS6.out).tail).tail).head
      have d3 := ((((CS6.out).tail).tail).tail).head
      have d4 := (((((CS6.out).tail).tail).tail).tail).head
      have d5 := ((((((CS6.out).tail).tail).tail).tail).tail).head
      have d6 := (((((((CS6.out).tail).tail).tail).tail).tail).tail).head
      have d7 := ((((((((CS6.out).tail).tail).tail).tail).tail).tail).tail).head
      refine wp_region_noPanic ?_
      refine wp_region_held_drew (S := fun w' => w'.cell? ⟨B, 0, none⟩ = some (.string n) ∧ w'.cell? ⟨B, 1, none⟩ = some (.slice (some ⟨b1, o1, none⟩) N sc) ∧ w'.cell? ⟨B, 2, none⟩ = some (f) ∧ w'.cell? ⟨B + 1, 0, none⟩ = some (.int .i64 now) ∧ w'.cell? ⟨B + 1, 1, none⟩ = some (.string rn) ∧ w'.cell? ⟨B + 1, 2, none⟩ = some (rs) ∧ w'.cell? ⟨B + 1, 3, none⟩ = some (rf) ∧ w'.cell? ⟨y, 1, none⟩ = some (.int .i64 ev)) (by kernel_rfl) ?_ (fun hHeld => ?_)
      · exact ⟨d0, d1, d2, d3, d4, d5, d6, d7⟩
      refine wpAnyH_take (i := 0) (oi := ⟨_, _, _, _, _, _⟩) (v := ?_) rfl (by kernel_rfl) (by kernel_rfl) (by kernel_rfl) (fun _ _ _ h => h) (Or.inl ⟨by rfl, ?_⟩) hHeld ?_
      rotate_left
      · intro w' hSw
        try dsimp only at hSw
        go_simp
        all_goals with_reducible rfl
      simp only [Act.put, List.setIfInBounds_toArray, List.set_cons_zero, List.set_cons_succ]
      refine wpAnyH_take (i := 1) (oi := ⟨_, _, _, _, _, _⟩) (v := ?_) rfl (by kernel_rfl) (by kernel_rfl) (by kernel_rfl) (fun _ _ _ h => h) (Or.inl ⟨by rfl, ?_⟩) hHeld ?_
      rotate_left
      · intro w' hSw
        try dsimp only at hSw
        go_simp
        all_goals with_reducible rfl
      simp only [Act.put, List.setIfInBounds_toArray, List.set_cons_zero, List.set_cons_succ]
      refine wpAnyH_take (i := 2) (oi := ⟨_, _, _, _, _, _⟩) (v := ?_) rfl (by kernel_rfl) (by kernel_rfl) (by kernel_rfl) (fun _ _ _ h => h) (Or.inl ⟨by rfl, ?_⟩) hHeld ?_
      rotate_left
      · intro w' hSw
        try dsimp only at hSw
        go_simp
        all_goals with_reducible rfl
      simp only [Act.put, List.setIfInBounds_toArray, List.set_cons_zero, List.set_cons_succ]
      refine wpAnyH_take (i := 3) (oi := ⟨_, _, _, _, _, _⟩) (v := ?_) rfl (by kernel_rfl) (by kernel_rfl) (by kernel_rfl) (fun _ _ _ h => h) (Or.inl ⟨by rfl, ?_⟩) hHeld ?_
      rotate_left
      · intro w' hSw
        try dsimp only at hSw
        go_simp
        all_goals with_reducible rfl
      simp only [Act.put, List.setIfInBounds_toArray, List.set_cons_zero, List.set_cons_succ]
      refine wpAnyH_take (i := 6) (oi := ⟨_, _, _, _, _, _⟩) (v := ?_) rfl (by kernel_rfl) (by kernel_rfl) (by kernel_rfl) (fun _ _ _ h => h) (Or.inl ⟨by rfl, ?_⟩) hHeld ?_
      rotate_left
      · intro w' hSw
        try dsimp only at hSw
        go_simp
        all_goals with_reducible rfl
      simp only [Act.put, List.setIfInBounds_toArray, List.set_cons_zero, List.set_cons_succ]
      refine wpAnyH_take (i := 7) (oi := ⟨_, _, _, _, _, _⟩) (v := ?_) rfl (by kernel_rfl) (by kernel_rfl) (by kernel_rfl) (fun _ _ _ h => h) (Or.inl ⟨by rfl, ?_⟩) hHeld ?_
      rotate_left
      · intro w' hSw
        try dsimp only at hSw
        go_simp
        all_goals with_reducible rfl
      simp only [Act.put, List.setIfInBounds_toArray, List.set_cons_zero, List.set_cons_succ]
      refine wpAnyH_ready (rs := [4]) (by kernel_rfl) (by simp) ?_
      refine AllReadyH.cons (o := ⟨_, _, _, _, _, _⟩) rfl (fun K hK => ?_) AllReadyH.nil
      go_simp
      refine (psource_any _ p j _ (PR _ B6d.out).out).mono ?_
      rintro e w1a ⟨rfl, b1a⟩
      rw [HSX.out]
      have B1a := Hid.of (B6d.out.trans (b1a.mono B6d.out.size))
      have CS1a := Hid.of (CS6d.out.next b1a)
      have OW1a := Hid.of ((Step.of_below (F := fun _ => False) b1a).own OW6d.out (fun _ _ c => c))
      have S1a : Hid (w1.heap.size ≤ w1a.heap.size) := Hid.of (Nat.le_trans S6d.out b1a.size)
      clear b1a B6d CS6d OW6d S6d CS6 hWD
      clear hHeld d0 d1 d2 d3 d4 d5 d6 d7
      have d0 := (CS1a.out).head
      have d1 := ((CS1a.out).tail).head
      have d2 := (((CS1a.out).tail).tail).head
      have d3 := ((((CS1a.out).tail).tail).tail).head
      have d4 := (((((CS1a.out).tail).tail).tail).tail).head
      have d5 := ((((((CS1a.out).tail).tail).tail).tail).tail).head
      have d6 := (((((((CS1a.out).tail).tail).tail).tail).tail).tail).head
      have d7 := ((((((((CS1a.out).tail).tail).tail).tail).tail).tail).tail).head
      refine hK.out _ _ ⟨d0, d1, d2, d3, d4, d5, d6, d7⟩ (fun hHeld => ?_)
      clear hK K
      try simp only [Act.put, List.setIfInBounds_toArray, List.set_cons_zero, List.set_cons_succ]
      refine wpAnyH_ready (rs := [5]) (by kernel_rfl) (by simp) ?_
      refine AllReadyH.cons (o := ⟨_, _, _, _, _, _⟩) rfl (fun K hK => ?_) AllReadyH.nil
      go_simp
      refine (reaches.from_ _ r sx _ trivial FR.out HSI.out (RR _ B1a.out).out).mono ?_
      rintro e w2a ⟨rfl, b2a⟩
      rw [HFX.out]
      have B2a := Hid.of (B1a.out.trans (b2a.mono B1a.out.size))
      have CS2a := Hid.of (CS1a.out.next b2a)
      have OW2a := Hid.of ((Step.of_below (F := fun _ => False) b2a).own OW1a.out (fun _ _ c => c))
      have S2a : Hid (w1.heap.size ≤ w2a.heap.size) := Hid.of (Nat.le_trans S1a.out b2a.size)
      clear b2a B1a CS1a OW1a S1a
      clear hHeld d0 d1 d2 d3 d4 d5 d6 d7
      have d0 := (CS2a.out).head
      have d1 := ((CS2a.out).tail).head
      have d2 := (((CS2a.out).tail).tail).head
      have d3 := ((((CS2a.out).tail).tail).tail).head
      have d4 := (((((CS2a.out).tail).tail).tail).tail).head
      have d5 := ((((((CS2a.out).tail).tail).tail).tail).tail).head
      have d6 := (((((((CS2a.out).tail).tail).tail).tail).tail).tail).head
      have d7 := ((((((((CS2a.out).tail).tail).tail).tail).tail).tail).tail).head
      refine hK.out _ _ ⟨d0, d1, d2, d3, d4, d5, d6, d7⟩ (fun hHeld => ?_)
      clear hK K
      try simp only [Act.put, List.setIfInBounds_toArray, List.set_cons_zero, List.set_cons_succ]
      refine wpAnyH_ready (rs := [8]) (by kernel_rfl) (by simp) ?_
      refine AllReadyH.cons (o := ⟨_, _, _, _, _, _⟩) rfl (fun K hK => ?_) AllReadyH.nil
      go_simp
      refine (ceil_named2 HCX.out HFI.out TE.out _).mono ?_
      rintro e w3a ⟨rfl, b3a⟩
      have B3a := Hid.of (B2a.out.trans (b3a.mono B2a.out.size))
      have CS3a := Hid.of (CS2a.out.next b3a)
      have OW3a := Hid.of ((Step.of_below (F := fun _ => False) b3a).own OW2a.out (fun _ _ c => c))
      have S3a : Hid (w1.heap.size ≤ w3a.heap.size) := Hid.of (Nat.le_trans S2a.out b3a.size)
      clear b3a B2a CS2a OW2a S2a
      clear hHeld d0 d1 d2 d3 d4 d5 d6 d7
      have d0 := (CS3a.out).head
      have d1 := ((CS3a.out).tail).head
      have d2 := (((CS3a.out).tail).tail).head
      have d3 := ((((CS3a.out).tail).tail).tail).head
      have d4 := (((((CS3a.out).tail).tail).tail).tail).head
      have d5 := ((((((CS3a.out).tail).tail).tail).tail).tail).head
      have d6 := (((((((CS3a.out).tail).tail).tail).tail).tail).tail).head
      have d7 := ((((((((CS3a.out).tail).tail).tail).tail).tail).tail).tail).head
      refine hK.out _ _ ⟨d0, d1, d2, d3, d4, d5, d6, d7⟩ (fun hHeld => ?_)
      clear hK K
      try simp only [Act.put, List.setIfInBounds_toArray, List.set_cons_zero, List.set_cons_succ]
      refine wpAnyH_ready (rs := [9]) (by kernel_rfl) (by simp) ?_
      refine AllReadyH.cons (o := ⟨_, _, _, _, _, _⟩) rfl (fun K hK => ?_) AllReadyH.nil
      go_simp
      obtain ⟨w4a, hw4a⟩ : ∃ w4a, w3a.alloc (.cells #[.int .i64 cx] 3) = w4a := ⟨_, rfl⟩
      have b4a : Below w3a.heap.size w3a w4a := by rw [← hw4a]; exact (Below.refl _ _).alloc (Nat.le_refl _) _
      have K4 : Hid (Cells w4a w3a.heap.size 0 [.int .i64 cx]) := Hid.of (by rw [← hw4a]; exact one_cell w3a _ _)
      have B4a := Hid.of (B3a.out.trans (b4a.mono B3a.out.size))
      have CS4a := Hid.of (CS3a.out.next b4a)
      have OW4a := Hid.of ((Step.of_below (F := fun _ => False) b4a).own OW3a.out (fun _ _ c => c))
      have S4a : Hid (w1.heap.size ≤ w4a.heap.size) := Hid.of (Nat.le_trans S3a.out b4a.size)
      rw [hw4a]
      clear hw4a b4a B3a CS3a OW3a S3a
      clear hHeld d0 d1 d2 d3 d4 d5 d6 d7
      have d0 := (CS4a.out).head
      have d1 := ((CS4a.out).tail).head
      have d2 := (((CS4a.out).tail).tail).head
      have d3 := ((((CS4a.out).tail).tail).tail).head
      have d4 := (((((CS4a.out).tail).tail).tail).tail).head
      have d5 := ((((((CS4a.out).tail).tail).tail).tail).tail).head
      have d6 := (((((((CS4a.out).tail).tail).tail).tail).tail).tail).head
      have d7 := ((((((((CS4a.out).tail).tail).tail).tail).tail).tail).tail).head
      refine hK.out _ _ ⟨d0, d1, d2, d3, d4, d5, d6, d7⟩ (fun hHeld => ?_)
      clear hK K
      try simp only [Act.put, List.setIfInBounds_toArray, List.set_cons_zero, List.set_cons_succ]
      refine wpAnyH_ready (rs := [10]) (by kernel_rfl) (by simp) ?_
      refine AllReadyH.cons (o := ⟨_, _, _, _, _, _⟩) rfl (fun K hK => ?_) AllReadyH.nil
      refine step_append_keep rfl (.tmp 17) (.tmp 26) 25 rfl w1.heap.size 3 i0 _ 1 8 Tryz.underlying25 HI.out HZ0.out HZ1.out HZ2.out rfl (by decide) (.slice va j vc) j ((mPre p r j).map (Value.int .i64)) (by simp [Act.eval]) OW4a.out w3a.heap.size 0 1 1 [.int .i64 cx] (by simp [Act.eval]) K4.out rfl (by simp [Value.oneCell']) (by unfold maxLen; omega) (by omega) S4a.out ?_
      intro v9 w9 o9 g9 _ m9
      have OW9 : Hid (w9.ownsRow w1.heap.size 3 1 v9 (j + 1) ((mPre p r (j + 1)).map (Value.int .i64))) := Hid.of (by rw [HX2.out, List.map_append]; exact o9)
      have B9 : Hid (Below w.heap.size w w9) := Hid.of (B4a.out.grown g9 B4a.out.size (fun k hk => by have := (HVY.out k hk).2; have := Z1.out; have := HBB.out; omega))
      have CS9b := Hid.of (CS4a.out.grown g9 (fun x hx c => by rcases HLY.out x hx with h | h <;> (have h1 := HVY.out _ c.symm; omega)))
      have S9 : Hid (w1.heap.size ≤ w9.heap.size) := Hid.of (Nat.le_trans S4a.out g9.size)
      clear o9 g9 m9 B4a CS4a OW4a S4a K4
      clear hHeld d0 d1 d2 d3 d4 d5 d6 d7
      have d0 := (CS9b.out).head
      have d1 := ((CS9b.out).tail).head
      have d2 := (((CS9b.out).tail).tail).head
      have d3 := ((((CS9b.out).tail).tail).tail).head
      have d4 := (((((CS9b.out).tail).tail).tail).tail).head
      have d5 := ((((((CS9b.out).tail).tail).tail).tail).tail).head
      have d6 := (((((((CS9b.out).tail).tail).tail).tail).tail).tail).head
      have d7 := ((((((((CS9b.out).tail).tail).tail).tail).tail).tail).tail).head
      refine hK.out _ _ ⟨d0, d1, d2, d3, d4, d5, d6, d7⟩ (fun hHeld => ?_)
      clear hK K
      try simp only [Act.put, List.setIfInBounds_toArray, List.set_cons_zero, List.set_cons_succ]
      refine wpAnyH_take (i := 11) (oi := ⟨_, _, _, _, _, _⟩) (v := ?_) rfl (by kernel_rfl) (by kernel_rfl) (by kernel_rfl) (fun _ _ _ h => h) (Or.inl ⟨by rfl, ?_⟩) hHeld ?_
      rotate_left
      · intro w' hSw
        try dsimp only at hSw
        go_simp
        all_goals with_reducible rfl
      simp only [Act.put, List.setIfInBounds_toArray, List.set_cons_zero, List.set_cons_succ]
      refine wpAnyH_done (by kernel_rfl) ?_ _
      refine NoPanic.normal ?_
      clear hHeld d0 d1 d2 d3 d4 d5 d6 d7
      have CS9 : Hid (Dc w9 [(⟨B, 0, none⟩, .string n), (⟨B, 1, none⟩, .slice (some ⟨b1, o1, none⟩) N sc), (⟨B, 2, none⟩, f), (⟨B + 1, 0, none⟩, .int .i64 now), (⟨B + 1, 1, none⟩, .string rn), (⟨B + 1, 2, none⟩, rs), (⟨B + 1, 3, none⟩, rf)]) := Hid.of (Dc.left (l := [(⟨y, 1, none⟩, .int .i64 ev)]) CS9b.out)
      clear CS9b
      go_wp2
      go_roundg (N - (j + 1))
      case measure => have := HJ.out; omega
      case rel => exact ⟨j + 1, _, by go_num, rfl, HJ.out, Nat.le_refl _, CS9, OW9, B9, S9⟩
    · obtain rfl : j = N := by omega
      have e : Hid (mPre p r j = mBases p r ∧ (mBases p r).length = j) := Hid.of ⟨by unfold mPre; rw [List.take_of_length_le (by rw [mBases_len, NP.out]; exact Nat.le_refl _)], by rw [mBases_len, NP.out]⟩
      go_wp2
      go_ret
      refine ⟨_, rfl, ?_, HB.out⟩
      have h9 := own_mono OW.out (D := w.heap.size) (by have := Z1.out; have := HBB.out; omega)
      rw [e.out.1] at h9
      rw [e.out.2]
      exact h9

end Go.Proofs.YtbhcafginmkaaaaGreat

namespace Go.Proofs.YtbhcafginmkaaaaGreat
open Go.RowKit Go.Lib

/-- A plan's block as it is made. -/
abbrev ZBlk (w : World) (y : Nat) : Prop := LBlk w y ⟨#[]⟩ (.slice none 0 0) (.slice none 0 0)

theorem zblk_cell {w : World} {y o : Nat} {v : Value} (k : ZBlk w y) (h : w.cell? ⟨y, o, none⟩ = some v) : (o = 0 ∧ v = .string ⟨#[]⟩) ∨ v = .slice none 0 0 := by
  rw [cell_of_row w y o _ _ _ k] at h
  match o, h with
  | 0, h => left; exact ⟨rfl, by simpa using h.symm⟩
  | 1, h => right; simpa using h.symm
  | 2, h => right; simpa using h.symm
  | o + 3, h => simp at h

theorem cells_grown {w w' : World} {y b o : Nat} {xs : List Value} (g : w.grownBy w' (some y)) (hb : b < w.heap.size) (hne : b ≠ y) (h : Cells w b o xs) : Cells w' b o xs := fun j u hj =>
  (World.cell?_of_block (a := ⟨b, o + j, none⟩) (g.block b hb (fun c => hne (Option.some.inj c)))).trans (h j u hj)

theorem tiers_off {w w' : World} {y : Nat} {v : Value} {l : List TierL} (k : ZBlk w y) (g : w.grownBy w' (some y)) (h : CellRow w v l.length (flat penc l)) : CellRow w' v l.length (flat penc l) := by
  obtain ⟨a, c, rfl, h⟩ := h
  rcases h with h | ⟨b, o, rfl, hl, hc⟩
  · exact ⟨_, _, rfl, .inl h⟩
  · cases l with
    | nil => exact ⟨_, _, rfl, .inl rfl⟩
    | cons x l =>
      refine ⟨_, _, rfl, .inr ⟨b, o, rfl, Nat.lt_of_lt_of_le hl g.size, cells_grown g hl ?_ hc⟩⟩
      rintro rfl
      have h1 := hc 1 (.int .i64 x.2.1) rfl
      rcases zblk_cell k h1 with ⟨_, c⟩ | c <;> cases c

theorem ints_off {w w' : World} {y : Nat} {v : Value} {l : List Int} (k : ZBlk w y) (g : w.grownBy w' (some y)) (h : CellRow w v l.length (l.map (Value.int .i64))) : CellRow w' v l.length (l.map (Value.int .i64)) := by
  obtain ⟨a, c, rfl, h⟩ := h
  rcases h with h | ⟨b, o, rfl, hl, hc⟩
  · exact ⟨_, _, rfl, .inl h⟩
  · cases l with
    | nil => exact ⟨_, _, rfl, .inl rfl⟩
    | cons x l =>
      refine ⟨_, _, rfl, .inr ⟨b, o, rfl, Nat.lt_of_lt_of_le hl g.size, cells_grown g hl ?_ hc⟩⟩
      rintro rfl
      have h1 := hc 0 (.int .i64 x) rfl
      rcases zblk_cell k h1 with ⟨_, c⟩ | c <;> cases c

theorem rch_off {w w' : World} {y : Nat} {v : Value} {r : RchL} (k : ZBlk w y) (g : w.grownBy w' (some y)) (h : RchRow w v r) : RchRow w' v r := by
  obtain ⟨s, f, hv, h1, h2, h3⟩ := h
  exact ⟨s, f, hv, tiers_off k g h1, ints_off k g h2, h3⟩

theorem plan_off {w w' : World} {y : Nat} {v : Value} {p : PlanL} (k : ZBlk w y) (g : w.grownBy w' (some y)) (h : PlanRow w v p) : PlanRow w' v p := by
  obtain ⟨s, f, hv, h1, h2, h3⟩ := h
  exact ⟨s, f, hv, tiers_off k g h1, ints_off k g h2, h3⟩

theorem mFurN_le {r : RchL} {e : Int} : ∀ (l : List TierL) (i best : Nat), mFurN r e i best l ≤ max best (i + l.length)
  | [], i, best => by show best ≤ _; omega
  | x :: l, i, best => by
    show mFurN r e (i + 1) _ l ≤ _
    have h2 : (if gOn e x.2.1 = true ∧ rFromN r i ≤ rFromN r best then i else best) ≤ max best i := by split <;> omega
    refine Nat.le_trans (mFurN_le (r := r) (e := e) l (i + 1) _) ?_
    rw [List.length_cons]
    omega

theorem fur_in (r : RchL) (e : Int) (l : List TierL) (h : l.length ≤ 1000000) : In64 ((mFur r e l : Nat) : Int) := by
  have := mFurN_le (r := r) (e := e) l 0 0
  unfold In64 mFur
  omega

end Go.Proofs.YtbhcafginmkaaaaGreat

namespace Go.Proofs.YtbhcafginmkaaaaGreat
open Go.RowKit Go.Lib

/-- A plan that was made, or none. -/
structure Made13 (pl : PlanL) : Prop where
  ok : ShOk pl.1.2
  len : pl.1.2.length ≤ 10
  fit : MFit pl
  nil : pl.1.2 = [] → mZero pl = true

theorem Made13.sum {pl : PlanL} (h : Made13 pl) : 0 ≤ shSum pl.1.2 ∧ shSum pl.1.2 ≤ 80 := by
  have h1 := shSum_ge h.ok
  have h2 := h.len
  omega

theorem Made13.steps {pl : PlanL} (h : Made13 pl) : mSteps pl = if pl.1.2 = [] then 0 else shSum pl.1.2 + 2 := by
  split
  · rename_i c
    unfold mSteps
    rw [h.nil c]
    rfl
  · rename_i c
    exact mSteps_sum h.ok (by have := h.len; omega) c

theorem Made13.at_ {pl : PlanL} (h : Made13 pl) (k : Int) : mAt pl k = if k < 0 ∨ mSteps pl ≤ k then ((0, 0, 0), false) else mAtN k 0 pl.1.2 := by
  by_cases c : pl.1.2 = []
  · have hz := h.nil c
    have hs : mSteps pl = 0 := by rw [h.steps, if_pos c]
    rw [if_pos (by omega)]
    unfold mAt
    rw [if_pos (.inl hz)]
  · have hz := mZero_no c
    have hs : mSteps pl = shSum pl.1.2 + 2 := by rw [h.steps, if_neg c]
    by_cases k0 : k < 0
    · rw [if_pos (.inl k0)]
      unfold mAt
      rw [if_pos (.inr k0)]
    · have e : mAt pl k = mAtN k 0 pl.1.2 := by
        unfold mAt
        rw [if_neg (by rw [hz]; simp only [Bool.false_eq_true, false_or]; exact k0)]
      by_cases k1 : mSteps pl ≤ k
      · rw [if_pos (.inr k1), e]
        have := mAtN_end h.ok 0 (m := k - shSum pl.1.2) (by omega)
        rw [show shSum pl.1.2 + (k - shSum pl.1.2) = k by omega] at this
        rw [this]
        unfold mAtN
        rw [if_neg (by omega), if_neg (by omega)]
      · rw [if_neg (by omega), e]

theorem shSum_drop {l : List TierL} {j : Nat} {x : TierL} (hx : l[j]? = some x) : shSum (l.drop j) = x.2.2.2 + shSum (l.drop (j + 1)) := by
  obtain ⟨hj, e⟩ := List.getElem?_eq_some_iff.1 hx
  rw [List.drop_eq_getElem_cons hj, e]
  rfl

/-- The document's own plan, in a variable. -/
theorem refPlan_new (w : World) (n : ByteArray) (s f : Value) : Dc (w.alloc (.cells #[.string n, s, f] 31)) [(⟨w.heap.size, 0, none⟩, .string n), (⟨w.heap.size, 1, none⟩, s), (⟨w.heap.size, 2, none⟩, f)] := by
  have h : (w.alloc (.cells #[.string n, s, f] 31)).heap[w.heap.size]? = some (.cells #[.string n, s, f] 31 (0, 0)) := (MapKept.heap_alloc w _).1
  exact Dc.app (Dc.one h (i := 0) rfl) (Dc.app (Dc.one h (i := 1) rfl) (Dc.one h (i := 2) rfl))

set_option maxRecDepth 20000 in
set_option maxHeartbeats 1600000 in
theorem refSteps_any (v : Value) (pl : PlanL) (w : World) (hv : PlanRow w v pl) (hm : Made13 pl) : Calls Tryz.prog 22 #[v] w fun x w' => x = .returned (.int .i64 (mSteps pl)) ∧ Below w.heap.size w w' := by
  have HM := Hid.of hm
  obtain ⟨s, f, rfl, hs, hf, -, -⟩ := hv
  have HS := Hid.of hs
  obtain ⟨sa, sc, rfl, -⟩ := hs
  unfold plVal
  obtain ⟨n, hn⟩ : ∃ n, pl.1.1 = n := ⟨_, rfl⟩
  obtain ⟨N, hN⟩ : ∃ N, pl.1.2.length = N := ⟨_, rfl⟩
  rw [hN] at HS
  rw [hn, hN]
  obtain ⟨z, hz⟩ : ∃ z, w.heap.size = z := ⟨_, rfl⟩
  obtain ⟨w1, hw1⟩ : ∃ w1, w.alloc (.cells #[.string n, .slice sa N sc, f] 31) = w1 := ⟨_, rfl⟩
  have CS1 : Hid (Dc w1 [(⟨z, 0, none⟩, .string n), (⟨z, 1, none⟩, .slice sa N sc), (⟨z, 2, none⟩, f)]) := Hid.of (by rw [← hw1, ← hz]; exact refPlan_new _ _ _ _)
  have B1 : Hid (Below w.heap.size w w1) := Hid.of (by rw [← hw1]; exact (Below.refl _ _).alloc (Nat.le_refl _) _)
  have HW := Hid.of hw1
  have HZ := Hid.of hz
  have NN := Hid.of hN
  have n9 : N ≤ 10 := by rw [← hN]; exact hm.len
  clear hw1 hz hN hn hf hm
  have c1 : w1.cell? ⟨z, 1, none⟩ = some (.slice sa N sc) := CS1.out.tail.head
  go_enter Tryz.func22, Tryz.ntmps22
  go_upto_region 1 with fail
  rw [HW.out, HZ.out]
  clear HW
  by_cases h0 : N = 0
  · have E : Hid (mSteps pl = 0) := Hid.of (by rw [HM.out.steps, if_pos (List.eq_nil_of_length_eq_zero (by rw [NN.out]; exact h0))])
    subst h0
    go_wp2
    go_ret
    rw [E.out]
    exact ⟨rfl, B1.out⟩
  · have e0 : ((N : Int) == 0) = false := beq_eq_false_iff_ne.2 (by omega)
    have E : Hid (mSteps pl = 2 + shSum pl.1.2) := Hid.of (by
      rw [HM.out.steps, if_neg (fun c => h0 (by rw [← NN.out, c]; rfl))]
      omega)
    go_upto_region 5 with fail
    clear c1 e0
    go_loopg [3, 4] N (fun kx nv iv wr => ∃ (j : Nat) (m : Int), iv = .int .i64 j ∧ nv = .int .i64 m ∧ j ≤ N ∧ N - j ≤ kx ∧ Hid (m = 2 + shSum (pl.1.2.take j)) ∧ Hid (wr = w1))
    case atStart => exact ⟨0, 2, rfl, rfl, Nat.zero_le _, Nat.le_refl _, Hid.of rfl, Hid.of rfl⟩
    case round =>
      obtain ⟨j, m, rfl, rfl, hj, hk, HX, HWR⟩ := hrel
      have hwr := HWR.out
      subst hwr
      have j0 : (0 : Int) ≤ (j : Int) := Int.natCast_nonneg _
      have c1 : wr.cell? ⟨z, 1, none⟩ = some (.slice sa N sc) := CS1.out.tail.head
      by_cases hlt : (j : Int) < (N : Int)
      · obtain ⟨t, ht⟩ : ∃ t, pl.1.2[j]? = some t := ⟨_, List.getElem?_eq_getElem (by have := NN.out; omega)⟩
        obtain ⟨b1, o1, hsa, -, -, -, -, d3⟩ := p_at (HS.out.kept B1.out) j t ht
        subst hsa
        have HX2 : Hid (m + t.2.2.2 = 2 + shSum (pl.1.2.take (j + 1))) := Hid.of (by rw [shSum_take ht, HX.out]; omega)
        have hsh := HM.out.ok t (List.mem_of_getElem? ht)
        have hs1 := shSum_ge (l := pl.1.2.take j) (fun u hu => HM.out.ok u (List.mem_of_mem_take hu))
        rw [List.length_take] at hs1
        have hb : 0 ≤ m ∧ m ≤ 82 := by have := HX.out; omega
        obtain ⟨t0, t1, t2, sh⟩ := t
        simp only at d3 HX2 hsh
        obtain ⟨hsh1, hsh2⟩ := hsh
        obtain ⟨hb1, hb2⟩ := hb
        have HJ : Hid (j < N) := Hid.of (by omega)
        clear ht hs1
        go_wp2
        go_roundg (N - (j + 1))
        case measure => have := HJ.out; omega
        case rel => exact ⟨j + 1, m + sh, by go_num, by go_num, HJ.out, Nat.le_refl _, HX2, Hid.of rfl⟩
      · obtain rfl : j = N := by omega
        have E2 : Hid (mSteps pl = m) := Hid.of (by rw [E.out, HX.out, ← NN.out, List.take_length])
        go_wp2
        go_ret
        rw [E2.out]
        exact ⟨rfl, B1.out⟩

set_option maxRecDepth 20000 in
set_option maxHeartbeats 1600000 in
theorem refBound_any (v : Value) (pl : PlanL) (need : Int) (w : World) (hv : PlanRow w v pl) (hm : Made13 pl) (h0 : 0 ≤ need) (h1 : need ≤ 1152921504606846976) : Calls Tryz.prog 28 #[v, .int .i64 need] w fun x w' => x = .returned (.int .i64 (mBound pl need)) ∧ Below w.heap.size w w' := by
  have HM := Hid.of hm
  obtain ⟨s, f, rfl, hs, hf, -, -⟩ := hv
  have HS := Hid.of hs
  obtain ⟨sa, sc, rfl, -⟩ := hs
  unfold plVal
  obtain ⟨n, hn⟩ : ∃ n, pl.1.1 = n := ⟨_, rfl⟩
  obtain ⟨N, hN⟩ : ∃ N, pl.1.2.length = N := ⟨_, rfl⟩
  rw [hN] at HS
  rw [hn, hN]
  obtain ⟨z, hz⟩ : ∃ z, w.heap.size = z := ⟨_, rfl⟩
  obtain ⟨w1, hw1⟩ : ∃ w1, w.alloc (.cells #[.string n, .slice sa N sc, f] 31) = w1 := ⟨_, rfl⟩
  have CS1 : Hid (Dc w1 [(⟨z, 0, none⟩, .string n), (⟨z, 1, none⟩, .slice sa N sc), (⟨z, 2, none⟩, f)]) := Hid.of (by rw [← hw1, ← hz]; exact refPlan_new _ _ _ _)
  have B1 : Hid (Below w.heap.size w w1) := Hid.of (by rw [← hw1]; exact (Below.refl _ _).alloc (Nat.le_refl _) _)
  have HW := Hid.of hw1
  have HZ := Hid.of hz
  have NN := Hid.of hN
  have n9 : N ≤ 10 := by rw [← hN]; exact hm.len
  have E : Hid (mBound pl need = 2 * need + shSum pl.1.2) := Hid.of (by
    have := hm.sum
    unfold mBound
    rw [mFills_sum hm.ok (by have := hm.len; omega), mAdd_of (a := need) (b := shSum pl.1.2) (by unfold I64; omega), mAdd_of (by unfold I64; omega)]
    omega)
  clear hw1 hz hN hn hf hm
  go_enter Tryz.func28, Tryz.ntmps28
  go_upto_region 1 with fail
  rw [HW.out, HZ.out]
  clear HW
  go_upto_region 3 with fail
  go_loopg [5, 6] N (fun kx nv iv wr => ∃ (j : Nat) (m : Int), iv = .int .i64 j ∧ nv = .int .i64 m ∧ j ≤ N ∧ N - j ≤ kx ∧ Hid (m = 2 * need + shSum (pl.1.2.take j)) ∧ Hid (wr = w1))
  case atStart => exact ⟨0, 2 * need, rfl, rfl, Nat.zero_le _, Nat.le_refl _, Hid.of (by show _ = _ + 0; omega), Hid.of rfl⟩
  case round =>
    obtain ⟨j, m, rfl, rfl, hj, hk, HX, HWR⟩ := hrel
    have hwr := HWR.out
    subst hwr
    have j0 : (0 : Int) ≤ (j : Int) := Int.natCast_nonneg _
    have c1 : wr.cell? ⟨z, 1, none⟩ = some (.slice sa N sc) := CS1.out.tail.head
    by_cases hlt : (j : Int) < (N : Int)
    · obtain ⟨t, ht⟩ : ∃ t, pl.1.2[j]? = some t := ⟨_, List.getElem?_eq_getElem (by have := NN.out; omega)⟩
      obtain ⟨b1, o1, hsa, -, -, -, -, d3⟩ := p_at (HS.out.kept B1.out) j t ht
      subst hsa
      have HX2 : Hid (m + t.2.2.2 = 2 * need + shSum (pl.1.2.take (j + 1))) := Hid.of (by rw [shSum_take ht, HX.out]; omega)
      have hsh := HM.out.ok t (List.mem_of_getElem? ht)
      have hs1 := shSum_ge (l := pl.1.2.take j) (fun u hu => HM.out.ok u (List.mem_of_mem_take hu))
      rw [List.length_take] at hs1
      have hb : 0 ≤ m ∧ m ≤ 2305843009213694032 := by have := HX.out; omega
      obtain ⟨t0, t1, t2, sh⟩ := t
      simp only at d3 HX2 hsh
      obtain ⟨hsh1, hsh2⟩ := hsh
      obtain ⟨hb1, hb2⟩ := hb
      have HJ : Hid (j < N) := Hid.of (by omega)
      clear ht hs1
      go_wp2
      go_roundg (N - (j + 1))
      case measure => have := HJ.out; omega
      case rel => exact ⟨j + 1, m + sh, by go_num, by go_num, HJ.out, Nat.le_refl _, HX2, Hid.of rfl⟩
    · obtain rfl : j = N := by omega
      have E2 : Hid (mBound pl need = m) := Hid.of (by rw [E.out, HX.out, ← NN.out, List.take_length])
      go_wp2
      go_ret
      rw [E2.out]
      exact ⟨rfl, B1.out⟩

/-- What the document's own At answers, as a value. -/
abbrev refAtVal (x : StepL) : Value := .tuple #[.int .i64 x.1.1, .int .i64 x.1.2.1, .int .i64 x.1.2.2, .bool x.2]

set_option maxRecDepth 20000 in
set_option maxHeartbeats 3200000 in
theorem refAt_any (v : Value) (pl : PlanL) (k : Int) (w : World) (hv : PlanRow w v pl) (hm : Made13 pl) : Calls Tryz.prog 25 #[v, .int .i64 k] w fun x w' => x = .returned (refAtVal (mAt pl k)) ∧ Below w.heap.size w w' := by
  have HM := Hid.of hm
  have HV := Hid.of hv
  obtain ⟨s, f, rfl, hs, hf, -, -⟩ := hv
  have HS := Hid.of hs
  obtain ⟨sa, sc, rfl, -⟩ := hs
  unfold plVal at HV ⊢
  obtain ⟨n, hn⟩ : ∃ n, pl.1.1 = n := ⟨_, rfl⟩
  obtain ⟨N, hN⟩ : ∃ N, pl.1.2.length = N := ⟨_, rfl⟩
  rw [hN] at HS
  rw [hn, hN] at HV ⊢
  obtain ⟨z, hz⟩ : ∃ z, w.heap.size = z := ⟨_, rfl⟩
  obtain ⟨w1, hw1⟩ : ∃ w1, w.alloc (.cells #[.string n, .slice sa N sc, f] 31) = w1 := ⟨_, rfl⟩
  have CS1 : Hid (Dc w1 [(⟨z, 0, none⟩, .string n), (⟨z, 1, none⟩, .slice sa N sc), (⟨z, 2, none⟩, f)]) := Hid.of (by rw [← hw1, ← hz]; exact refPlan_new _ _ _ _)
  have B1 : Hid (Below w.heap.size w w1) := Hid.of (by rw [← hw1]; exact (Below.refl _ _).alloc (Nat.le_refl _) _)
  have HW := Hid.of hw1
  have HZ := Hid.of hz
  have NN := Hid.of hN
  have n9 : N ≤ 10 := by rw [← hN]; exact hm.len
  have ATE := Hid.of (hm.at_ k)
  clear hw1 hz hN hn hf hm
  obtain ⟨c0, c1⟩ : w1.cell? ⟨z, 0, none⟩ = some (.string n) ∧ w1.cell? ⟨z, 1, none⟩ = some (.slice sa N sc) := ⟨CS1.out.head, CS1.out.tail.head⟩
  have c2 : w1.cell? ⟨z, 2, none⟩ = some f := CS1.out.tail.tail.head
  go_enter Tryz.func25, Tryz.ntmps25
  go_upto_region 1 with fail
  rw [HW.out, HZ.out]
  clear HW
  by_cases k0 : k < 0
  · have E : Hid (mAt pl k = ((0, 0, 0), false)) := Hid.of (by rw [ATE.out, if_pos (.inl k0)])
    go_wp2
    refine bodyPost_ret (v := .tuple #[.int .i64 0, .int .i64 0, .int .i64 0, .bool false]) ?_ rfl ⟨by rw [E.out], B1.out⟩
    simp [results, Tryz.results25, go_sem]
  · go_wp2_with fail
    refine (refSteps_any _ pl _ (HV.out.kept B1.out) HM.out).mono ?_
    rintro e w2 ⟨rfl, b2⟩
    have B2 := Hid.of (B1.out.trans (b2.mono B1.out.size))
    have CS2 := Hid.of (CS1.out.next b2)
    obtain ⟨st, hst⟩ : ∃ st, mSteps pl = st := ⟨_, rfl⟩
    rw [hst] at ATE ⊢
    have HST := Hid.of hst
    clear b2 c0 c1 c2 CS1 B1 hst
    by_cases k1 : st ≤ k
    · have E : Hid (mAt pl k = ((0, 0, 0), false)) := Hid.of (by rw [ATE.out, if_pos (.inr k1)])
      go_wp2
      refine bodyPost_ret (v := .tuple #[.int .i64 0, .int .i64 0, .int .i64 0, .bool false]) ?_ rfl ⟨by rw [E.out], B2.out⟩
      simp [results, Tryz.results25, go_sem]
    · have E : Hid (mAt pl k = mAtN k 0 pl.1.2) := Hid.of (by rw [ATE.out, if_neg (by omega)])
      have KB : Hid (0 ≤ k ∧ k < shSum pl.1.2 + 2) := Hid.of (by
        refine ⟨by omega, ?_⟩
        have h1 := HM.out.steps
        rw [HST.out] at h1
        split at h1
        · omega
        · omega)
      go_upto_region 4 with fail
      clear k0 k1
      go_loopg [1, 8] N (fun kx kv iv wr => ∃ (j : Nat) (m : Int), iv = .int .i64 j ∧ kv = .int .i64 m ∧ j ≤ N ∧ N - j ≤ kx ∧ 0 ≤ m ∧ m ≤ 90 ∧ Hid (mAtN k 0 pl.1.2 = mAtN m j (pl.1.2.drop j)) ∧ Hid (m < shSum (pl.1.2.drop j) + 2) ∧ Hid (wr = w2))
      case atStart => exact ⟨0, k, rfl, rfl, Nat.zero_le _, Nat.le_refl _, KB.out.1, by have := KB.out.2; have := HM.out.sum; omega, Hid.of rfl, Hid.of KB.out.2, Hid.of rfl⟩
      case round =>
        obtain ⟨j, m, rfl, rfl, hj, hk, m0, m9, HE, HL, HWR⟩ := hrel
        have hwr := HWR.out
        subst hwr
        have j0 : (0 : Int) ≤ (j : Int) := Int.natCast_nonneg _
        have c1 : wr.cell? ⟨z, 1, none⟩ = some (.slice sa N sc) := CS2.out.tail.head
        by_cases hlt : (j : Int) < (N : Int)
        · obtain ⟨t, ht⟩ : ∃ t, pl.1.2[j]? = some t := ⟨_, List.getElem?_eq_getElem (by have := NN.out; omega)⟩
          obtain ⟨b1, o1, hsa, -, -, -, -, d3⟩ := p_at (HS.out.kept B2.out) j t ht
          subst hsa
          have hsh := HM.out.ok t (List.mem_of_getElem? ht)
          have HE2 := Hid.of (HE.out.trans (mAtN_drop ht m))
          have HL2 : Hid (m - t.2.2.2 < shSum (pl.1.2.drop (j + 1)) + 2) := Hid.of (by have := HL.out; rw [shSum_drop ht] at this; omega)
          obtain ⟨t0, t1, t2, sh⟩ := t
          simp only at d3 hsh HE2 HL2
          rw [show max sh 0 = sh by omega] at HE2
          obtain ⟨hsh1, hsh2⟩ := hsh
          have HJ : Hid (j < N) := Hid.of (by omega)
          clear ht
          by_cases hc : m < sh
          · have ER : Hid (mAt pl k = ((1, (j : Int), m), true)) := Hid.of (by rw [E.out, HE2.out, if_pos hc])
            go_wp2
            refine bodyPost_ret (v := .tuple #[.int .i64 1, .int .i64 j, .int .i64 m, .bool true]) ?_ rfl ⟨by rw [ER.out], B2.out⟩
            simp [results, Tryz.results25, go_sem]
          · have HE3 : Hid (mAtN k 0 pl.1.2 = mAtN (m - sh) (j + 1) (pl.1.2.drop (j + 1))) := Hid.of (by rw [HE2.out, if_neg hc])
            go_wp2
            go_roundg (N - (j + 1))
            case measure => have := HJ.out; omega
            case rel => exact ⟨j + 1, m - sh, by go_num, by go_num, HJ.out, Nat.le_refl _, by omega, by omega, HE3, HL2, Hid.of rfl⟩
        · obtain rfl : j = N := by omega
          have hd : pl.1.2.drop j = [] := List.drop_eq_nil_of_le (by have := NN.out; omega)
          have ER : Hid (mAt pl k = ((2 + m, 0, 0), true)) := Hid.of (by
            have h1 := HL.out
            rw [hd] at h1
            have h2 : m < 2 := by have : shSum ([] : List TierL) = 0 := rfl; omega
            rw [E.out, HE.out, hd]
            unfold mAtN
            by_cases h3 : m = 0
            · rw [if_pos h3, h3]; rfl
            · rw [if_neg h3, if_pos (by omega), show m = 1 by omega]; rfl)
          clear hd
          go_wp2
          refine bodyPost_ret (v := .tuple #[.int .i64 (2 + m), .int .i64 0, .int .i64 0, .bool true]) ?_ rfl ⟨by rw [ER.out], B2.out⟩
          simp [results, Tryz.results25, go_sem]

end Go.Proofs.YtbhcafginmkaaaaGreat

namespace Go.Proofs.YtbhcafginmkaaaaGreat
open Go.RowKit Go.Lib

def fifPol : PolL := (⟨#[112]⟩, [(⟨#[114, 97, 119]⟩, 1, 50, 1), (⟨#[102, 105, 102, 116, 105, 101, 115]⟩, 50, 5000, 3)])

theorem fif_fit : PFit fifPol := by
  refine ⟨by decide, by decide, ?_⟩
  intro x hx
  unfold fifPol at hx
  simp only [List.mem_cons, List.not_mem_nil, or_false] at hx
  rcases hx with rfl | rfl
  · exact ⟨by decide, ⟨by decide, by decide⟩, ⟨by decide, by decide⟩, ⟨by decide, by decide⟩⟩
  · exact ⟨by decide, ⟨by decide, by decide⟩, ⟨by decide, by decide⟩, ⟨by decide, by decide⟩⟩

theorem fif_make : mErr webPol fifPol = 0 ∧ mMake webPol webReach fifPol = (fifPol, [0, 1]) := by decide +kernel
theorem fif_tells : mSteps (fifPol, [0, 1]) = 6 ∧ mAt (fifPol, [0, 1]) 1 = ((1, 1, 0), true) ∧ mBases (fifPol, [0, 1]) webReach = [150, 0] ∧ mBound (fifPol, [0, 1]) 5 = 14 := by decide +kernel
theorem fif_mfit : MFit (fifPol, [0, 1]) := ⟨fif_fit, by decide, fun x hx => by
  simp only [List.mem_cons, List.not_mem_nil, or_false] at hx
  rcases hx with rfl | rfl <;> exact ⟨by decide, by decide⟩⟩

set_option maxRecDepth 20000 in
set_option maxHeartbeats 800000 in
theorem Fifties_any (w : World) : Calls Tryz.prog 96 #[] w fun e w' => ∃ v, e = .returned v ∧ PolRow w' v fifPol ∧ Below w.heap.size w w' := by
  go_enter Tryz.func96, Tryz.ntmps96
  go_wp2_with fail
  refine bodyPost_ret (results_cell_row (P := Tryz.prog) rfl _ _ w.heap.size 24 #[.string ⟨#[112]⟩, .slice (some ⟨w.heap.size + 1, 0, none⟩) 2 2] (0, 0) _ rfl ((Go.heap_alloc_old _ _ (by simp)).trans (Go.heap_alloc_new _ _)) Tryz.underlying24 rfl (by kernel_rfl)) rfl ?_
  have hs : (w.alloc (.cells #[.string ⟨#[112]⟩, .slice (some ⟨w.heap.size + 1, 0, none⟩) 2 2] 24)).heap.size = w.heap.size + 1 := by simp
  have hc := new_cells (w.alloc (.cells #[.string ⟨#[112]⟩, .slice (some ⟨w.heap.size + 1, 0, none⟩) 2 2] 24)) #[.string ⟨#[114, 97, 119]⟩, .int .i64 1, .int .i64 50, .int .i64 1, .string ⟨#[102, 105, 102, 116, 105, 101, 115]⟩, .int .i64 50, .int .i64 5000, .int .i64 3] 89
  rw [hs] at hc
  exact ⟨_, rfl, ⟨_, rfl, ⟨_, _, rfl, .inr ⟨w.heap.size + 1, 0, rfl, by simp, hc⟩⟩, Nat.le_refl _⟩, ((Below.refl _ _).alloc (Nat.le_refl _) _).alloc (by simp) _⟩

theorem ints_two {w : World} {fa : Option Addr} {fc : Nat} {a b : Int} (h : CellRow w (.slice fa 2 fc) 2 [.int .i64 a, .int .i64 b]) : ∃ g o, fa = some ⟨g, o, none⟩ ∧ Dc w [(⟨g, o, none⟩, .int .i64 a), (⟨g, o + 1, none⟩, .int .i64 b)] := by
  obtain ⟨a', c', hv, h⟩ := h
  cases hv
  rcases h with h | ⟨g, o, rfl, hl, hc⟩
  · cases h
  · have h0 := hc 0 (.int .i64 a) rfl
    have h1 := hc 1 (.int .i64 b) rfl
    exact ⟨g, o, rfl, .cons hl h0 (.cons hl h1 (Dc.nil _))⟩

set_option maxRecDepth 20000 in
set_option maxHeartbeats 6400000 in
theorem planAlive_any (w : World) : Calls Tryz.prog 13 #[] w fun e w' => e = .returned (.bool true) ∧ Below w.heap.size w w' := by
  have FT := Hid.of webReach_fit
  have FW := Hid.of web_fit
  have FF := Hid.of fif_fit
  have FM := Hid.of fif_mfit
  have MK := Hid.of fif_make
  obtain ⟨T1, T2, T3, T4⟩ := fif_tells
  have T1 := Hid.of T1
  have T2 := Hid.of T2
  have T3 := Hid.of T3
  have T4 := Hid.of T4
  go_enter Tryz.func13, Tryz.ntmps13
  go_wp2_with fail
  refine (Web_any _).mono ?_
  rintro e w1 ⟨v, rfl, pr, b1⟩
  have PR := Hid.of pr
  have B1 := Hid.of b1
  clear b1 pr
  go_wp2_with fail
  refine (reaches.of _ _ webPol 257 [] _ trivial FT.out PR.out ⟨_, _, rfl, .inl rfl⟩ (Nat.le_refl _)).mono ?_
  rintro e w2 ⟨u, rfl, ou, b2⟩
  have rr := OwnRch.row ou
  obtain ⟨s, f, rfl, o1, o2, -⟩ := ou
  obtain ⟨sa, sc, rfl, -⟩ := own_one o1
  obtain ⟨fa, fc, rfl, -⟩ := own_one o2
  clear o1 o2
  obtain ⟨n, hn⟩ : ∃ n, webPol.1 = n := ⟨_, rfl⟩
  have ev : rVal (257, webPol, []) (.slice sa ((257, webPol, []) : RchL).2.1.2.length sc) (.slice fa ((257, webPol, []) : RchL).2.2.length fc) = .agg #[.int .i64 257, .string n, .slice sa 2 sc, .slice fa 0 fc] := by rw [← hn]; rfl
  rw [ev]
  have X2 : Hid (RchRow w2 (.agg #[.int .i64 257, .string n, .slice sa 2 sc, .slice fa 0 fc]) webReach) := Hid.of (by rw [← ev]; exact rr)
  have B2 := Hid.of (B1.out.trans (b2.mono B1.out.size))
  obtain ⟨z, hz⟩ : ∃ z, w2.heap.size = z := ⟨_, rfl⟩
  obtain ⟨w3, hw3⟩ : ∃ w3, w2.alloc (.cells #[.int .i64 257, .string n, .slice sa 2 sc, .slice fa 0 fc] 47) = w3 := ⟨_, rfl⟩
  have b3 : Below w2.heap.size w2 w3 := by rw [← hw3]; exact (Below.refl _ _).alloc (Nat.le_refl _) _
  have k3 : w3.heap[z]? = some (.cells #[.int .i64 257, .string n, .slice sa 2 sc, .slice fa 0 fc] 47 (0, 0)) := by rw [← hw3, ← hz]; exact (MapKept.heap_alloc w2 _).1
  have X3 := Hid.of (X2.out.kept b3)
  have CS3 : Hid (Dc w3 [(⟨z, 0, none⟩, .int .i64 257), (⟨z, 1, none⟩, .string n), (⟨z, 2, none⟩, .slice sa 2 sc), (⟨z, 3, none⟩, .slice fa 0 fc)]) := Hid.of (Dc.app (Dc.one k3 (i := 0) rfl) (Dc.app (Dc.one k3 (i := 1) rfl) (Dc.app (Dc.one k3 (i := 2) rfl) (Dc.one k3 (i := 3) rfl))))
  have B3 := Hid.of (B2.out.trans (b3.mono B2.out.size))
  have HW := Hid.of hw3
  have HZ := Hid.of hz
  clear b2 B1 PR rr ev hn X2 B2 hw3 hz b3 k3
  go_upto_region 2 with fail
  rw [HW.out, HZ.out]
  clear HW HZ
  have B0 := B3
  have CS0 := CS3
  have X0 := X3
  clear B3 CS3 X3
  go_cut [2, 3] from 9 to 15 (fun pv ev wx => ∃ (y : Nat) (pn : ByteArray) (psa pfa : Option Addr) (psc pfc : Nat), pv = .pointer (some ⟨y, 0, none⟩) ∧ ev = .int .i64 0 ∧ Hid (Dc wx [(⟨z, 0, none⟩, .int .i64 257), (⟨z, 1, none⟩, .string n), (⟨z, 2, none⟩, .slice sa 2 sc), (⟨z, 3, none⟩, .slice fa 0 fc), (⟨y, 0, none⟩, .string pn), (⟨y, 1, none⟩, .slice psa 2 psc), (⟨y, 2, none⟩, .slice pfa 2 pfc)]) ∧ Hid (RchRow wx (.agg #[.int .i64 257, .string n, .slice sa 2 sc, .slice fa 0 fc]) webReach) ∧ Hid (PlanRow wx (.agg #[.string pn, .slice psa 2 psc, .slice pfa 2 pfc]) (fifPol, [0, 1])) ∧ Hid (Below w.heap.size w wx))
  case first =>
    have bD := (Below.refl w3.heap.size w3).drew
    have BD := Hid.of (B0.out.trans (bD.mono B0.out.size))
    have CSD := Hid.of (CS0.out.next bD)
    have XD := Hid.of (X0.out.kept bD)
    clear bD
    have d0 := (CS0.out).head
    have d1 := ((CS0.out).tail).head
    have d2 := (((CS0.out).tail).tail).head
    have d3 := ((((CS0.out).tail).tail).tail).head
    refine wp_region_noPanic ?_
    refine wp_region_held_drew (S := fun w' => w'.cell? ⟨z, 0, none⟩ = some (.int .i64 257) ∧ w'.cell? ⟨z, 1, none⟩ = some (.string n) ∧ w'.cell? ⟨z, 2, none⟩ = some (.slice sa 2 sc) ∧ w'.cell? ⟨z, 3, none⟩ = some (.slice fa 0 fc)) (by kernel_rfl) ?_ (fun hHeld => ?_)
    · exact ⟨d0, d1, d2, d3⟩
    clear B0 CS0 X0
    refine wpAnyH_take (i := 1) (oi := ⟨_, _, _, _, _, _⟩) (v := ?_) rfl (by kernel_rfl) (by kernel_rfl) (by kernel_rfl) (fun _ _ _ h => h) (Or.inl ⟨by rfl, ?_⟩) hHeld ?_
    rotate_left
    · intro w' hSw
      try dsimp only at hSw
      go_simp
      all_goals with_reducible rfl
    simp only [Act.put, List.setIfInBounds_toArray, List.set_cons_zero, List.set_cons_succ]
    refine wpAnyH_ready (rs := [0, 7]) (by kernel_rfl) (by simp) ?_
    refine AllReadyH.cons (o := ⟨_, _, _, _, _, _⟩) rfl (fun K hK => ?_) (AllReadyH.cons (o := ⟨_, _, _, _, _, _⟩) rfl (fun K hK => ?_) AllReadyH.nil)
    · go_simp
      refine (Web_any _).mono ?_
      rintro e w91 ⟨v4, rfl, pr, b91⟩
      have P91 := Hid.of pr
      clear pr
      have B91 := Hid.of (BD.out.trans (b91.mono BD.out.size))
      have CS91 := Hid.of (CSD.out.next b91)
      have X91 := Hid.of (XD.out.kept b91)
      clear b91 BD CSD XD
      clear hHeld d0 d1 d2 d3
      have d0 := (CS91.out).head
      have d1 := ((CS91.out).tail).head
      have d2 := (((CS91.out).tail).tail).head
      have d3 := ((((CS91.out).tail).tail).tail).head
      refine hK.out _ _ ⟨d0, d1, d2, d3⟩ (fun hHeld => ?_)
      clear hK K
      try simp only [Act.put, List.setIfInBounds_toArray, List.set_cons_zero, List.set_cons_succ]
      refine wpAnyH_ready (rs := [2, 7]) (by kernel_rfl) (by simp) ?_
      refine AllReadyH.cons (o := ⟨_, _, _, _, _, _⟩) rfl (fun K hK => ?_) (AllReadyH.cons (o := ⟨_, _, _, _, _, _⟩) rfl (fun K hK => ?_) AllReadyH.nil)
      · go_simp
        refine (Fifties_any _).mono ?_
        rintro e w92 ⟨v5, rfl, pr, b92⟩
        have Q92 := Hid.of pr
        clear pr
        have B92 := Hid.of (B91.out.trans (b92.mono B91.out.size))
        have CS92 := Hid.of (CS91.out.next b92)
        have X92 := Hid.of (X91.out.kept b92)
        have P92 := Hid.of (P91.out.kept b92)
        clear b92 B91 CS91 X91 P91
        clear hHeld d0 d1 d2 d3
        have d0 := (CS92.out).head
        have d1 := ((CS92.out).tail).head
        have d2 := (((CS92.out).tail).tail).head
        have d3 := ((((CS92.out).tail).tail).tail).head
        refine hK.out _ _ ⟨d0, d1, d2, d3⟩ (fun hHeld => ?_)
        clear hK K
        try simp only [Act.put, List.setIfInBounds_toArray, List.set_cons_zero, List.set_cons_succ]
        refine wpAnyH_ready (rs := [3, 7]) (by kernel_rfl) (by simp) ?_
        refine AllReadyH.cons (o := ⟨_, _, _, _, _, _⟩) rfl (fun K hK => ?_) (AllReadyH.cons (o := ⟨_, _, _, _, _, _⟩) rfl (fun K hK => ?_) AllReadyH.nil)
        · go_simp
          refine (make_any _ _ _ webPol fifPol webReach _ FW.out FF.out FT.out P92.out X92.out Q92.out).mono ?_
          rintro e w93 ⟨u6, rfl, ou, b93⟩
          rw [MK.out.1]
          rw [MK.out.2] at ou
          have L93 := Hid.of ou.row
          clear ou
          obtain ⟨ps, pf, hu, hps, hpf, -⟩ := L93.out
          subst hu
          obtain ⟨psa, psc, rfl, -⟩ := hps
          obtain ⟨pfa, pfc, rfl, -⟩ := hpf
          obtain ⟨pn, hpn⟩ : ∃ pn, fifPol.1 = pn := ⟨_, rfl⟩
          have ev : plVal (fifPol, [0, 1]) (.slice psa ((fifPol, [0, 1]) : PlanL).1.2.length psc) (.slice pfa ((fifPol, [0, 1]) : PlanL).2.length pfc) = .agg #[.string pn, .slice psa 2 psc, .slice pfa 2 pfc] := by rw [← hpn]; rfl
          rw [ev] at L93 ⊢
          clear ev hpn
          have B93 := Hid.of (B92.out.trans (b93.mono B92.out.size))
          have CS93 := Hid.of (CS92.out.next b93)
          have X93 := Hid.of (X92.out.kept b93)
          clear b93 B92 CS92 X92
          clear P92 Q92
          clear hHeld d0 d1 d2 d3
          have d0 := (CS93.out).head
          have d1 := ((CS93.out).tail).head
          have d2 := (((CS93.out).tail).tail).head
          have d3 := ((((CS93.out).tail).tail).tail).head
          refine hK.out _ _ ⟨d0, d1, d2, d3⟩ (fun hHeld => ?_)
          clear hK K
          try simp only [Act.put, List.setIfInBounds_toArray, List.set_cons_zero, List.set_cons_succ]
          refine wpAnyH_take (i := 4) (oi := ⟨_, _, _, _, _, _⟩) (v := ?_) rfl (by kernel_rfl) (by kernel_rfl) (by kernel_rfl) (fun _ _ _ h => h) (Or.inl ⟨by rfl, ?_⟩) hHeld ?_
          rotate_left
          · intro w' hSw
            try dsimp only at hSw
            go_simp
            all_goals with_reducible rfl
          simp only [Act.put, List.setIfInBounds_toArray, List.set_cons_zero, List.set_cons_succ]
          refine wpAnyH_take (i := 5) (oi := ⟨_, _, _, _, _, _⟩) (v := ?_) rfl (by kernel_rfl) (by kernel_rfl) (by kernel_rfl) (fun _ _ _ h => h) (Or.inl ⟨by rfl, ?_⟩) hHeld ?_
          rotate_left
          · intro w' hSw
            try dsimp only at hSw
            go_simp
            all_goals with_reducible rfl
          simp only [Act.put, List.setIfInBounds_toArray, List.set_cons_zero, List.set_cons_succ]
          refine wpAnyH_take (i := 6) (oi := ⟨_, _, _, _, _, _⟩) (v := ?_) rfl (by kernel_rfl) (by kernel_rfl) (by kernel_rfl) (fun _ _ _ h => h) (Or.inl ⟨by rfl, ?_⟩) hHeld ?_
          rotate_left
          · intro w' hSw
            try dsimp only at hSw
            go_simp
            all_goals with_reducible rfl
          simp only [Act.put, List.setIfInBounds_toArray, List.set_cons_zero, List.set_cons_succ]
          refine wpAnyH_ready (rs := [7]) (by kernel_rfl) (by simp) ?_
          refine AllReadyH.cons (o := ⟨_, _, _, _, _, _⟩) rfl (fun K hK => ?_) AllReadyH.nil
          go_simp
          obtain ⟨y, hy⟩ : ∃ y, (w93).heap.size = y := ⟨_, rfl⟩
          obtain ⟨w94, hw94⟩ : ∃ w94, (w93).alloc (.cells #[.string ⟨#[]⟩, .slice none 0 0, .slice none 0 0] 49) = w94 := ⟨_, rfl⟩
          have hx94 : (w93).alloc (.cells #[.string ⟨#[]⟩, .slice none 0 0, .slice none 0 0] 49) = w94 := hw94
          have b94 : Below (w93).heap.size (w93) w94 := by rw [← hx94]; exact (Below.refl _ _).alloc (Nat.le_refl _) _
          have K94 : Hid (w94.heap[y]? = some (.cells #[.string ⟨#[]⟩, .slice none 0 0, .slice none 0 0] 49 (0, 0))) := Hid.of (by rw [← hx94, ← hy]; exact (MapKept.heap_alloc (w93) _).1)
          have HLY : Hid (w.heap.size ≤ y) := Hid.of (by rw [← hy]; exact B93.out.size)
          have HLZ : Hid (∀ x ∈ ([(⟨z, 0, none⟩, .int .i64 257), (⟨z, 1, none⟩, .string n), (⟨z, 2, none⟩, .slice sa 2 sc), (⟨z, 3, none⟩, .slice fa 0 fc)] : List (Addr × Value)), x.1.block < y) := Hid.of (fun x hx => by rw [← hy]; exact (CS93.out x hx).1)
          rw [hw94, hy]
          clear hw94 hx94 hy
          have B94 := Hid.of (B93.out.trans (b94.mono B93.out.size))
          have CS94 := Hid.of (CS93.out.next b94)
          have X94 := Hid.of (X93.out.kept b94)
          have L94 := Hid.of (L93.out.kept b94)
          clear b94 B93 CS93 X93 L93
          clear hHeld d0 d1 d2 d3
          have d0 := (CS94.out).head
          have d1 := ((CS94.out).tail).head
          have d2 := (((CS94.out).tail).tail).head
          have d3 := ((((CS94.out).tail).tail).tail).head
          refine hK.out _ _ ⟨d0, d1, d2, d3⟩ (fun hHeld => ?_)
          clear hK K
          try simp only [Act.put, List.setIfInBounds_toArray, List.set_cons_zero, List.set_cons_succ]
          refine wpAnyH_ready (rs := [8]) (by kernel_rfl) (by simp) ?_
          refine AllReadyH.cons (o := ⟨_, _, _, _, _, _⟩) rfl (fun K hK => ?_) AllReadyH.nil
          have k0 := K94.out
          have f0 := row_frozen (i := 0) k0
          have f1 := row_frozen (i := 1) k0
          have f2 := row_frozen (i := 2) k0
          obtain ⟨t0, t1, t2⟩ := lblk_at k0
          go_simp
          clear f0 f1 f2 t0 t1 t2
          have KZ := Hid.of (lblk_set (n' := pn) (s' := .slice psa 2 psc) (f' := .slice pfa 2 pfc) k0)
          have gz := setL_grown w94 y pn (.slice psa 2 psc) (.slice pfa 2 pfc)
          have CSZ := Hid.of (CS94.out.grown gz (fun x hx c => by have h1 := Option.some.inj c; have h2 := HLZ.out x hx; omega))
          have BZ : Hid (Below w.heap.size w (setL w94 y pn (.slice psa 2 psc) (.slice pfa 2 pfc))) := Hid.of (B94.out.grown gz B94.out.size (fun k hk => by cases hk; exact HLY.out))
          have XZ : Hid (RchRow (setL w94 y pn (.slice psa 2 psc) (.slice pfa 2 pfc)) (.agg #[.int .i64 257, .string n, .slice sa 2 sc, .slice fa 0 fc]) webReach) := Hid.of (rch_off k0 gz X94.out)
          have LZ : Hid (PlanRow (setL w94 y pn (.slice psa 2 psc) (.slice pfa 2 pfc)) (.agg #[.string pn, .slice psa 2 psc, .slice pfa 2 pfc]) (fifPol, [0, 1])) := Hid.of (plan_off k0 gz L94.out)
          clear gz k0
          unfold setL at KZ CSZ BZ XZ LZ
          clear hHeld d0 d1 d2 d3
          have d0 := (CSZ.out).head
          have d1 := ((CSZ.out).tail).head
          have d2 := (((CSZ.out).tail).tail).head
          have d3 := ((((CSZ.out).tail).tail).tail).head
          refine hK.out _ _ ⟨d0, d1, d2, d3⟩ (fun hHeld => ?_)
          clear hK K
          try simp only [Act.put, List.setIfInBounds_toArray, List.set_cons_zero, List.set_cons_succ]
          refine wpAnyH_take (i := 9) (oi := ⟨_, _, _, _, _, _⟩) (v := ?_) rfl (by kernel_rfl) (by kernel_rfl) (by kernel_rfl) (fun _ _ _ h => h) (Or.inl ⟨by rfl, ?_⟩) hHeld ?_
          rotate_left
          · intro w' hSw
            try dsimp only at hSw
            go_simp
            all_goals with_reducible rfl
          simp only [Act.put, List.setIfInBounds_toArray, List.set_cons_zero, List.set_cons_succ]
          refine wpAnyH_done (by kernel_rfl) ?_ _
          refine NoPanic.normal ?_
          clear hHeld d0 d1 d2 d3
          go_wp2_with fail
          go_meet
          exact ⟨y, pn, psa, pfa, psc, pfc, rfl, rfl, Hid.of (Dc.app CSZ.out (Dc.app (Dc.one KZ.out (i := 0) rfl) (Dc.app (Dc.one KZ.out (i := 1) rfl) (Dc.one KZ.out (i := 2) rfl)))), XZ, LZ, BZ⟩
        · go_simp
          obtain ⟨y, hy⟩ : ∃ y, (w92).heap.size = y := ⟨_, rfl⟩
          obtain ⟨w95, hw95⟩ : ∃ w95, (w92).alloc (.cells #[.string ⟨#[]⟩, .slice none 0 0, .slice none 0 0] 49) = w95 := ⟨_, rfl⟩
          have hx95 : (w92).alloc (.cells #[.string ⟨#[]⟩, .slice none 0 0, .slice none 0 0] 49) = w95 := hw95
          have b95 : Below (w92).heap.size (w92) w95 := by rw [← hx95]; exact (Below.refl _ _).alloc (Nat.le_refl _) _
          have K95 : Hid (w95.heap[y]? = some (.cells #[.string ⟨#[]⟩, .slice none 0 0, .slice none 0 0] 49 (0, 0))) := Hid.of (by rw [← hx95, ← hy]; exact (MapKept.heap_alloc (w92) _).1)
          have HLY : Hid (w.heap.size ≤ y) := Hid.of (by rw [← hy]; exact B92.out.size)
          have HLZ : Hid (∀ x ∈ ([(⟨z, 0, none⟩, .int .i64 257), (⟨z, 1, none⟩, .string n), (⟨z, 2, none⟩, .slice sa 2 sc), (⟨z, 3, none⟩, .slice fa 0 fc)] : List (Addr × Value)), x.1.block < y) := Hid.of (fun x hx => by rw [← hy]; exact (CS92.out x hx).1)
          rw [hw95, hy]
          clear hw95 hx95 hy
          have B95 := Hid.of (B92.out.trans (b95.mono B92.out.size))
          have CS95 := Hid.of (CS92.out.next b95)
          have X95 := Hid.of (X92.out.kept b95)
          have P95 := Hid.of (P92.out.kept b95)
          have Q95 := Hid.of (Q92.out.kept b95)
          clear b95 B92 CS92 X92 P92 Q92
          clear hHeld d0 d1 d2 d3
          have d0 := (CS95.out).head
          have d1 := ((CS95.out).tail).head
          have d2 := (((CS95.out).tail).tail).head
          have d3 := ((((CS95.out).tail).tail).tail).head
          refine hK.out _ _ ⟨d0, d1, d2, d3⟩ (fun hHeld => ?_)
          clear hK K
          try simp only [Act.put, List.setIfInBounds_toArray, List.set_cons_zero, List.set_cons_succ]
          refine wpAnyH_ready (rs := [3]) (by kernel_rfl) (by simp) ?_
          refine AllReadyH.cons (o := ⟨_, _, _, _, _, _⟩) rfl (fun K hK => ?_) AllReadyH.nil
          go_simp
          refine (make_any _ _ _ webPol fifPol webReach _ FW.out FF.out FT.out P95.out X95.out Q95.out).mono ?_
          rintro e w96 ⟨u6, rfl, ou, b96⟩
          rw [MK.out.1]
          rw [MK.out.2] at ou
          have L96 := Hid.of ou.row
          clear ou
          obtain ⟨ps, pf, hu, hps, hpf, -⟩ := L96.out
          subst hu
          obtain ⟨psa, psc, rfl, -⟩ := hps
          obtain ⟨pfa, pfc, rfl, -⟩ := hpf
          obtain ⟨pn, hpn⟩ : ∃ pn, fifPol.1 = pn := ⟨_, rfl⟩
          have ev : plVal (fifPol, [0, 1]) (.slice psa ((fifPol, [0, 1]) : PlanL).1.2.length psc) (.slice pfa ((fifPol, [0, 1]) : PlanL).2.length pfc) = .agg #[.string pn, .slice psa 2 psc, .slice pfa 2 pfc] := by rw [← hpn]; rfl
          rw [ev] at L96 ⊢
          clear ev hpn
          have B96 := Hid.of (B95.out.trans (b96.mono B95.out.size))
          have CS96 := Hid.of (CS95.out.next b96)
          have X96 := Hid.of (X95.out.kept b96)
          have K96 := Hid.of (lblk_next K95.out b96)
          clear b96 B95 CS95 X95 K95
          clear P95 Q95
          clear hHeld d0 d1 d2 d3
          have d0 := (CS96.out).head
          have d1 := ((CS96.out).tail).head
          have d2 := (((CS96.out).tail).tail).head
          have d3 := ((((CS96.out).tail).tail).tail).head
          refine hK.out _ _ ⟨d0, d1, d2, d3⟩ (fun hHeld => ?_)
          clear hK K
          try simp only [Act.put, List.setIfInBounds_toArray, List.set_cons_zero, List.set_cons_succ]
          refine wpAnyH_take (i := 4) (oi := ⟨_, _, _, _, _, _⟩) (v := ?_) rfl (by kernel_rfl) (by kernel_rfl) (by kernel_rfl) (fun _ _ _ h => h) (Or.inl ⟨by rfl, ?_⟩) hHeld ?_
          rotate_left
          · intro w' hSw
            try dsimp only at hSw
            go_simp
            all_goals with_reducible rfl
          simp only [Act.put, List.setIfInBounds_toArray, List.set_cons_zero, List.set_cons_succ]
          refine wpAnyH_take (i := 5) (oi := ⟨_, _, _, _, _, _⟩) (v := ?_) rfl (by kernel_rfl) (by kernel_rfl) (by kernel_rfl) (fun _ _ _ h => h) (Or.inl ⟨by rfl, ?_⟩) hHeld ?_
          rotate_left
          · intro w' hSw
            try dsimp only at hSw
            go_simp
            all_goals with_reducible rfl
          simp only [Act.put, List.setIfInBounds_toArray, List.set_cons_zero, List.set_cons_succ]
          refine wpAnyH_take (i := 6) (oi := ⟨_, _, _, _, _, _⟩) (v := ?_) rfl (by kernel_rfl) (by kernel_rfl) (by kernel_rfl) (fun _ _ _ h => h) (Or.inl ⟨by rfl, ?_⟩) hHeld ?_
          rotate_left
          · intro w' hSw
            try dsimp only at hSw
            go_simp
            all_goals with_reducible rfl
          simp only [Act.put, List.setIfInBounds_toArray, List.set_cons_zero, List.set_cons_succ]
          refine wpAnyH_ready (rs := [8]) (by kernel_rfl) (by simp) ?_
          refine AllReadyH.cons (o := ⟨_, _, _, _, _, _⟩) rfl (fun K hK => ?_) AllReadyH.nil
          have k0 := K96.out
          have f0 := row_frozen (i := 0) k0
          have f1 := row_frozen (i := 1) k0
          have f2 := row_frozen (i := 2) k0
          obtain ⟨t0, t1, t2⟩ := lblk_at k0
          go_simp
          clear f0 f1 f2 t0 t1 t2
          have KZ := Hid.of (lblk_set (n' := pn) (s' := .slice psa 2 psc) (f' := .slice pfa 2 pfc) k0)
          have gz := setL_grown w96 y pn (.slice psa 2 psc) (.slice pfa 2 pfc)
          have CSZ := Hid.of (CS96.out.grown gz (fun x hx c => by have h1 := Option.some.inj c; have h2 := HLZ.out x hx; omega))
          have BZ : Hid (Below w.heap.size w (setL w96 y pn (.slice psa 2 psc) (.slice pfa 2 pfc))) := Hid.of (B96.out.grown gz B96.out.size (fun k hk => by cases hk; exact HLY.out))
          have XZ : Hid (RchRow (setL w96 y pn (.slice psa 2 psc) (.slice pfa 2 pfc)) (.agg #[.int .i64 257, .string n, .slice sa 2 sc, .slice fa 0 fc]) webReach) := Hid.of (rch_off k0 gz X96.out)
          have LZ : Hid (PlanRow (setL w96 y pn (.slice psa 2 psc) (.slice pfa 2 pfc)) (.agg #[.string pn, .slice psa 2 psc, .slice pfa 2 pfc]) (fifPol, [0, 1])) := Hid.of (plan_off k0 gz L96.out)
          clear gz k0
          unfold setL at KZ CSZ BZ XZ LZ
          clear hHeld d0 d1 d2 d3
          have d0 := (CSZ.out).head
          have d1 := ((CSZ.out).tail).head
          have d2 := (((CSZ.out).tail).tail).head
          have d3 := ((((CSZ.out).tail).tail).tail).head
          refine hK.out _ _ ⟨d0, d1, d2, d3⟩ (fun hHeld => ?_)
          clear hK K
          try simp only [Act.put, List.setIfInBounds_toArray, List.set_cons_zero, List.set_cons_succ]
          refine wpAnyH_take (i := 9) (oi := ⟨_, _, _, _, _, _⟩) (v := ?_) rfl (by kernel_rfl) (by kernel_rfl) (by kernel_rfl) (fun _ _ _ h => h) (Or.inl ⟨by rfl, ?_⟩) hHeld ?_
          rotate_left
          · intro w' hSw
            try dsimp only at hSw
            go_simp
            all_goals with_reducible rfl
          simp only [Act.put, List.setIfInBounds_toArray, List.set_cons_zero, List.set_cons_succ]
          refine wpAnyH_done (by kernel_rfl) ?_ _
          refine NoPanic.normal ?_
          clear hHeld d0 d1 d2 d3
          go_wp2_with fail
          go_meet
          exact ⟨y, pn, psa, pfa, psc, pfc, rfl, rfl, Hid.of (Dc.app CSZ.out (Dc.app (Dc.one KZ.out (i := 0) rfl) (Dc.app (Dc.one KZ.out (i := 1) rfl) (Dc.one KZ.out (i := 2) rfl)))), XZ, LZ, BZ⟩
      · go_simp
        obtain ⟨y, hy⟩ : ∃ y, (w91).heap.size = y := ⟨_, rfl⟩
        obtain ⟨w97, hw97⟩ : ∃ w97, (w91).alloc (.cells #[.string ⟨#[]⟩, .slice none 0 0, .slice none 0 0] 49) = w97 := ⟨_, rfl⟩
        have hx97 : (w91).alloc (.cells #[.string ⟨#[]⟩, .slice none 0 0, .slice none 0 0] 49) = w97 := hw97
        have b97 : Below (w91).heap.size (w91) w97 := by rw [← hx97]; exact (Below.refl _ _).alloc (Nat.le_refl _) _
        have K97 : Hid (w97.heap[y]? = some (.cells #[.string ⟨#[]⟩, .slice none 0 0, .slice none 0 0] 49 (0, 0))) := Hid.of (by rw [← hx97, ← hy]; exact (MapKept.heap_alloc (w91) _).1)
        have HLY : Hid (w.heap.size ≤ y) := Hid.of (by rw [← hy]; exact B91.out.size)
        have HLZ : Hid (∀ x ∈ ([(⟨z, 0, none⟩, .int .i64 257), (⟨z, 1, none⟩, .string n), (⟨z, 2, none⟩, .slice sa 2 sc), (⟨z, 3, none⟩, .slice fa 0 fc)] : List (Addr × Value)), x.1.block < y) := Hid.of (fun x hx => by rw [← hy]; exact (CS91.out x hx).1)
        rw [hw97, hy]
        clear hw97 hx97 hy
        have B97 := Hid.of (B91.out.trans (b97.mono B91.out.size))
        have CS97 := Hid.of (CS91.out.next b97)
        have X97 := Hid.of (X91.out.kept b97)
        have P97 := Hid.of (P91.out.kept b97)
        clear b97 B91 CS91 X91 P91
        clear hHeld d0 d1 d2 d3
        have d0 := (CS97.out).head
        have d1 := ((CS97.out).tail).head
        have d2 := (((CS97.out).tail).tail).head
        have d3 := ((((CS97.out).tail).tail).tail).head
        refine hK.out _ _ ⟨d0, d1, d2, d3⟩ (fun hHeld => ?_)
        clear hK K
        try simp only [Act.put, List.setIfInBounds_toArray, List.set_cons_zero, List.set_cons_succ]
        refine wpAnyH_ready (rs := [2]) (by kernel_rfl) (by simp) ?_
        refine AllReadyH.cons (o := ⟨_, _, _, _, _, _⟩) rfl (fun K hK => ?_) AllReadyH.nil
        go_simp
        refine (Fifties_any _).mono ?_
        rintro e w98 ⟨v5, rfl, pr, b98⟩
        have Q98 := Hid.of pr
        clear pr
        have B98 := Hid.of (B97.out.trans (b98.mono B97.out.size))
        have CS98 := Hid.of (CS97.out.next b98)
        have X98 := Hid.of (X97.out.kept b98)
        have P98 := Hid.of (P97.out.kept b98)
        have K98 := Hid.of (lblk_next K97.out b98)
        clear b98 B97 CS97 X97 P97 K97
        clear hHeld d0 d1 d2 d3
        have d0 := (CS98.out).head
        have d1 := ((CS98.out).tail).head
        have d2 := (((CS98.out).tail).tail).head
        have d3 := ((((CS98.out).tail).tail).tail).head
        refine hK.out _ _ ⟨d0, d1, d2, d3⟩ (fun hHeld => ?_)
        clear hK K
        try simp only [Act.put, List.setIfInBounds_toArray, List.set_cons_zero, List.set_cons_succ]
        refine wpAnyH_ready (rs := [3]) (by kernel_rfl) (by simp) ?_
        refine AllReadyH.cons (o := ⟨_, _, _, _, _, _⟩) rfl (fun K hK => ?_) AllReadyH.nil
        go_simp
        refine (make_any _ _ _ webPol fifPol webReach _ FW.out FF.out FT.out P98.out X98.out Q98.out).mono ?_
        rintro e w99 ⟨u6, rfl, ou, b99⟩
        rw [MK.out.1]
        rw [MK.out.2] at ou
        have L99 := Hid.of ou.row
        clear ou
        obtain ⟨ps, pf, hu, hps, hpf, -⟩ := L99.out
        subst hu
        obtain ⟨psa, psc, rfl, -⟩ := hps
        obtain ⟨pfa, pfc, rfl, -⟩ := hpf
        obtain ⟨pn, hpn⟩ : ∃ pn, fifPol.1 = pn := ⟨_, rfl⟩
        have ev : plVal (fifPol, [0, 1]) (.slice psa ((fifPol, [0, 1]) : PlanL).1.2.length psc) (.slice pfa ((fifPol, [0, 1]) : PlanL).2.length pfc) = .agg #[.string pn, .slice psa 2 psc, .slice pfa 2 pfc] := by rw [← hpn]; rfl
        rw [ev] at L99 ⊢
        clear ev hpn
        have B99 := Hid.of (B98.out.trans (b99.mono B98.out.size))
        have CS99 := Hid.of (CS98.out.next b99)
        have X99 := Hid.of (X98.out.kept b99)
        have K99 := Hid.of (lblk_next K98.out b99)
        clear b99 B98 CS98 X98 K98
        clear P98 Q98
        clear hHeld d0 d1 d2 d3
        have d0 := (CS99.out).head
        have d1 := ((CS99.out).tail).head
        have d2 := (((CS99.out).tail).tail).head
        have d3 := ((((CS99.out).tail).tail).tail).head
        refine hK.out _ _ ⟨d0, d1, d2, d3⟩ (fun hHeld => ?_)
        clear hK K
        try simp only [Act.put, List.setIfInBounds_toArray, List.set_cons_zero, List.set_cons_succ]
        refine wpAnyH_take (i := 4) (oi := ⟨_, _, _, _, _, _⟩) (v := ?_) rfl (by kernel_rfl) (by kernel_rfl) (by kernel_rfl) (fun _ _ _ h => h) (Or.inl ⟨by rfl, ?_⟩) hHeld ?_
        rotate_left
        · intro w' hSw
          try dsimp only at hSw
          go_simp
          all_goals with_reducible rfl
        simp only [Act.put, List.setIfInBounds_toArray, List.set_cons_zero, List.set_cons_succ]
        refine wpAnyH_take (i := 5) (oi := ⟨_, _, _, _, _, _⟩) (v := ?_) rfl (by kernel_rfl) (by kernel_rfl) (by kernel_rfl) (fun _ _ _ h => h) (Or.inl ⟨by rfl, ?_⟩) hHeld ?_
        rotate_left
        · intro w' hSw
          try dsimp only at hSw
          go_simp
          all_goals with_reducible rfl
        simp only [Act.put, List.setIfInBounds_toArray, List.set_cons_zero, List.set_cons_succ]
        refine wpAnyH_take (i := 6) (oi := ⟨_, _, _, _, _, _⟩) (v := ?_) rfl (by kernel_rfl) (by kernel_rfl) (by kernel_rfl) (fun _ _ _ h => h) (Or.inl ⟨by rfl, ?_⟩) hHeld ?_
        rotate_left
        · intro w' hSw
          try dsimp only at hSw
          go_simp
          all_goals with_reducible rfl
        simp only [Act.put, List.setIfInBounds_toArray, List.set_cons_zero, List.set_cons_succ]
        refine wpAnyH_ready (rs := [8]) (by kernel_rfl) (by simp) ?_
        refine AllReadyH.cons (o := ⟨_, _, _, _, _, _⟩) rfl (fun K hK => ?_) AllReadyH.nil
        have k0 := K99.out
        have f0 := row_frozen (i := 0) k0
        have f1 := row_frozen (i := 1) k0
        have f2 := row_frozen (i := 2) k0
        obtain ⟨t0, t1, t2⟩ := lblk_at k0
        go_simp
        clear f0 f1 f2 t0 t1 t2
        have KZ := Hid.of (lblk_set (n' := pn) (s' := .slice psa 2 psc) (f' := .slice pfa 2 pfc) k0)
        have gz := setL_grown w99 y pn (.slice psa 2 psc) (.slice pfa 2 pfc)
        have CSZ := Hid.of (CS99.out.grown gz (fun x hx c => by have h1 := Option.some.inj c; have h2 := HLZ.out x hx; omega))
        have BZ : Hid (Below w.heap.size w (setL w99 y pn (.slice psa 2 psc) (.slice pfa 2 pfc))) := Hid.of (B99.out.grown gz B99.out.size (fun k hk => by cases hk; exact HLY.out))
        have XZ : Hid (RchRow (setL w99 y pn (.slice psa 2 psc) (.slice pfa 2 pfc)) (.agg #[.int .i64 257, .string n, .slice sa 2 sc, .slice fa 0 fc]) webReach) := Hid.of (rch_off k0 gz X99.out)
        have LZ : Hid (PlanRow (setL w99 y pn (.slice psa 2 psc) (.slice pfa 2 pfc)) (.agg #[.string pn, .slice psa 2 psc, .slice pfa 2 pfc]) (fifPol, [0, 1])) := Hid.of (plan_off k0 gz L99.out)
        clear gz k0
        unfold setL at KZ CSZ BZ XZ LZ
        clear hHeld d0 d1 d2 d3
        have d0 := (CSZ.out).head
        have d1 := ((CSZ.out).tail).head
        have d2 := (((CSZ.out).tail).tail).head
        have d3 := ((((CSZ.out).tail).tail).tail).head
        refine hK.out _ _ ⟨d0, d1, d2, d3⟩ (fun hHeld => ?_)
        clear hK K
        try simp only [Act.put, List.setIfInBounds_toArray, List.set_cons_zero, List.set_cons_succ]
        refine wpAnyH_take (i := 9) (oi := ⟨_, _, _, _, _, _⟩) (v := ?_) rfl (by kernel_rfl) (by kernel_rfl) (by kernel_rfl) (fun _ _ _ h => h) (Or.inl ⟨by rfl, ?_⟩) hHeld ?_
        rotate_left
        · intro w' hSw
          try dsimp only at hSw
          go_simp
          all_goals with_reducible rfl
        simp only [Act.put, List.setIfInBounds_toArray, List.set_cons_zero, List.set_cons_succ]
        refine wpAnyH_done (by kernel_rfl) ?_ _
        refine NoPanic.normal ?_
        clear hHeld d0 d1 d2 d3
        go_wp2_with fail
        go_meet
        exact ⟨y, pn, psa, pfa, psc, pfc, rfl, rfl, Hid.of (Dc.app CSZ.out (Dc.app (Dc.one KZ.out (i := 0) rfl) (Dc.app (Dc.one KZ.out (i := 1) rfl) (Dc.one KZ.out (i := 2) rfl)))), XZ, LZ, BZ⟩
    · go_simp
      obtain ⟨y, hy⟩ : ∃ y, (w3).heap.size = y := ⟨_, rfl⟩
      obtain ⟨w910, hw910⟩ : ∃ w910, (w3.alloc (.cells #[.string ⟨#[]⟩, .slice none 0 0, .slice none 0 0] 49)).drew = w910 := ⟨_, rfl⟩
      have hx910 : (w3.drew).alloc (.cells #[.string ⟨#[]⟩, .slice none 0 0, .slice none 0 0] 49) = w910 := hw910
      have b910 : Below (w3.drew).heap.size (w3.drew) w910 := by rw [← hx910]; exact (Below.refl _ _).alloc (Nat.le_refl _) _
      have K910 : Hid (w910.heap[y]? = some (.cells #[.string ⟨#[]⟩, .slice none 0 0, .slice none 0 0] 49 (0, 0))) := Hid.of (by rw [← hx910, ← hy]; exact (MapKept.heap_alloc (w3.drew) _).1)
      have HLY : Hid (w.heap.size ≤ y) := Hid.of (by rw [← hy]; exact BD.out.size)
      have HLZ : Hid (∀ x ∈ ([(⟨z, 0, none⟩, .int .i64 257), (⟨z, 1, none⟩, .string n), (⟨z, 2, none⟩, .slice sa 2 sc), (⟨z, 3, none⟩, .slice fa 0 fc)] : List (Addr × Value)), x.1.block < y) := Hid.of (fun x hx => by rw [← hy]; exact (CSD.out x hx).1)
      rw [hw910, hy]
      clear hw910 hx910 hy
      have B910 := Hid.of (BD.out.trans (b910.mono BD.out.size))
      have CS910 := Hid.of (CSD.out.next b910)
      have X910 := Hid.of (XD.out.kept b910)
      clear b910 BD CSD XD
      clear hHeld d0 d1 d2 d3
      have d0 := (CS910.out).head
      have d1 := ((CS910.out).tail).head
      have d2 := (((CS910.out).tail).tail).head
      have d3 := ((((CS910.out).tail).tail).tail).head
      refine hK.out _ _ ⟨d0, d1, d2, d3⟩ (fun hHeld => ?_)
      clear hK K
      try simp only [Act.put, List.setIfInBounds_toArray, List.set_cons_zero, List.set_cons_succ]
      refine wpAnyH_ready (rs := [0]) (by kernel_rfl) (by simp) ?_
      refine AllReadyH.cons (o := ⟨_, _, _, _, _, _⟩) rfl (fun K hK => ?_) AllReadyH.nil
      go_simp
      refine (Web_any _).mono ?_
      rintro e w911 ⟨v4, rfl, pr, b911⟩
      have P911 := Hid.of pr
      clear pr
      have B911 := Hid.of (B910.out.trans (b911.mono B910.out.size))
      have CS911 := Hid.of (CS910.out.next b911)
      have X911 := Hid.of (X910.out.kept b911)
      have K911 := Hid.of (lblk_next K910.out b911)
      clear b911 B910 CS910 X910 K910
      clear hHeld d0 d1 d2 d3
      have d0 := (CS911.out).head
      have d1 := ((CS911.out).tail).head
      have d2 := (((CS911.out).tail).tail).head
      have d3 := ((((CS911.out).tail).tail).tail).head
      refine hK.out _ _ ⟨d0, d1, d2, d3⟩ (fun hHeld => ?_)
      clear hK K
      try simp only [Act.put, List.setIfInBounds_toArray, List.set_cons_zero, List.set_cons_succ]
      refine wpAnyH_ready (rs := [2]) (by kernel_rfl) (by simp) ?_
      refine AllReadyH.cons (o := ⟨_, _, _, _, _, _⟩) rfl (fun K hK => ?_) AllReadyH.nil
      go_simp
      refine (Fifties_any _).mono ?_
      rintro e w912 ⟨v5, rfl, pr, b912⟩
      have Q912 := Hid.of pr
      clear pr
      have B912 := Hid.of (B911.out.trans (b912.mono B911.out.size))
      have CS912 := Hid.of (CS911.out.next b912)
      have X912 := Hid.of (X911.out.kept b912)
      have K912 := Hid.of (lblk_next K911.out b912)
      have P912 := Hid.of (P911.out.kept b912)
      clear b912 B911 CS911 X911 K911 P911
      clear hHeld d0 d1 d2 d3
      have d0 := (CS912.out).head
      have d1 := ((CS912.out).tail).head
      have d2 := (((CS912.out).tail).tail).head
      have d3 := ((((CS912.out).tail).tail).tail).head
      refine hK.out _ _ ⟨d0, d1, d2, d3⟩ (fun hHeld => ?_)
      clear hK K
      try simp only [Act.put, List.setIfInBounds_toArray, List.set_cons_zero, List.set_cons_succ]
      refine wpAnyH_ready (rs := [3]) (by kernel_rfl) (by simp) ?_
      refine AllReadyH.cons (o := ⟨_, _, _, _, _, _⟩) rfl (fun K hK => ?_) AllReadyH.nil
      go_simp
      refine (make_any _ _ _ webPol fifPol webReach _ FW.out FF.out FT.out P912.out X912.out Q912.out).mono ?_
      rintro e w913 ⟨u6, rfl, ou, b913⟩
      rw [MK.out.1]
      rw [MK.out.2] at ou
      have L913 := Hid.of ou.row
      clear ou
      obtain ⟨ps, pf, hu, hps, hpf, -⟩ := L913.out
      subst hu
      obtain ⟨psa, psc, rfl, -⟩ := hps
      obtain ⟨pfa, pfc, rfl, -⟩ := hpf
      obtain ⟨pn, hpn⟩ : ∃ pn, fifPol.1 = pn := ⟨_, rfl⟩
      have ev : plVal (fifPol, [0, 1]) (.slice psa ((fifPol, [0, 1]) : PlanL).1.2.length psc) (.slice pfa ((fifPol, [0, 1]) : PlanL).2.length pfc) = .agg #[.string pn, .slice psa 2 psc, .slice pfa 2 pfc] := by rw [← hpn]; rfl
      rw [ev] at L913 ⊢
      clear ev hpn
      have B913 := Hid.of (B912.out.trans (b913.mono B912.out.size))
      have CS913 := Hid.of (CS912.out.next b913)
      have X913 := Hid.of (X912.out.kept b913)
      have K913 := Hid.of (lblk_next K912.out b913)
      clear b913 B912 CS912 X912 K912
      clear P912 Q912
      clear hHeld d0 d1 d2 d3
      have d0 := (CS913.out).head
      have d1 := ((CS913.out).tail).head
      have d2 := (((CS913.out).tail).tail).head
      have d3 := ((((CS913.out).tail).tail).tail).head
      refine hK.out _ _ ⟨d0, d1, d2, d3⟩ (fun hHeld => ?_)
      clear hK K
      try simp only [Act.put, List.setIfInBounds_toArray, List.set_cons_zero, List.set_cons_succ]
      refine wpAnyH_take (i := 4) (oi := ⟨_, _, _, _, _, _⟩) (v := ?_) rfl (by kernel_rfl) (by kernel_rfl) (by kernel_rfl) (fun _ _ _ h => h) (Or.inl ⟨by rfl, ?_⟩) hHeld ?_
      rotate_left
      · intro w' hSw
        try dsimp only at hSw
        go_simp
        all_goals with_reducible rfl
      simp only [Act.put, List.setIfInBounds_toArray, List.set_cons_zero, List.set_cons_succ]
      refine wpAnyH_take (i := 5) (oi := ⟨_, _, _, _, _, _⟩) (v := ?_) rfl (by kernel_rfl) (by kernel_rfl) (by kernel_rfl) (fun _ _ _ h => h) (Or.inl ⟨by rfl, ?_⟩) hHeld ?_
      rotate_left
      · intro w' hSw
        try dsimp only at hSw
        go_simp
        all_goals with_reducible rfl
      simp only [Act.put, List.setIfInBounds_toArray, List.set_cons_zero, List.set_cons_succ]
      refine wpAnyH_take (i := 6) (oi := ⟨_, _, _, _, _, _⟩) (v := ?_) rfl (by kernel_rfl) (by kernel_rfl) (by kernel_rfl) (fun _ _ _ h => h) (Or.inl ⟨by rfl, ?_⟩) hHeld ?_
      rotate_left
      · intro w' hSw
        try dsimp only at hSw
        go_simp
        all_goals with_reducible rfl
      simp only [Act.put, List.setIfInBounds_toArray, List.set_cons_zero, List.set_cons_succ]
      refine wpAnyH_ready (rs := [8]) (by kernel_rfl) (by simp) ?_
      refine AllReadyH.cons (o := ⟨_, _, _, _, _, _⟩) rfl (fun K hK => ?_) AllReadyH.nil
      have k0 := K913.out
      have f0 := row_frozen (i := 0) k0
      have f1 := row_frozen (i := 1) k0
      have f2 := row_frozen (i := 2) k0
      obtain ⟨t0, t1, t2⟩ := lblk_at k0
      go_simp
      clear f0 f1 f2 t0 t1 t2
      have KZ := Hid.of (lblk_set (n' := pn) (s' := .slice psa 2 psc) (f' := .slice pfa 2 pfc) k0)
      have gz := setL_grown w913 y pn (.slice psa 2 psc) (.slice pfa 2 pfc)
      have CSZ := Hid.of (CS913.out.grown gz (fun x hx c => by have h1 := Option.some.inj c; have h2 := HLZ.out x hx; omega))
      have BZ : Hid (Below w.heap.size w (setL w913 y pn (.slice psa 2 psc) (.slice pfa 2 pfc))) := Hid.of (B913.out.grown gz B913.out.size (fun k hk => by cases hk; exact HLY.out))
      have XZ : Hid (RchRow (setL w913 y pn (.slice psa 2 psc) (.slice pfa 2 pfc)) (.agg #[.int .i64 257, .string n, .slice sa 2 sc, .slice fa 0 fc]) webReach) := Hid.of (rch_off k0 gz X913.out)
      have LZ : Hid (PlanRow (setL w913 y pn (.slice psa 2 psc) (.slice pfa 2 pfc)) (.agg #[.string pn, .slice psa 2 psc, .slice pfa 2 pfc]) (fifPol, [0, 1])) := Hid.of (plan_off k0 gz L913.out)
      clear gz k0
      unfold setL at KZ CSZ BZ XZ LZ
      clear hHeld d0 d1 d2 d3
      have d0 := (CSZ.out).head
      have d1 := ((CSZ.out).tail).head
      have d2 := (((CSZ.out).tail).tail).head
      have d3 := ((((CSZ.out).tail).tail).tail).head
      refine hK.out _ _ ⟨d0, d1, d2, d3⟩ (fun hHeld => ?_)
      clear hK K
      try simp only [Act.put, List.setIfInBounds_toArray, List.set_cons_zero, List.set_cons_succ]
      refine wpAnyH_take (i := 9) (oi := ⟨_, _, _, _, _, _⟩) (v := ?_) rfl (by kernel_rfl) (by kernel_rfl) (by kernel_rfl) (fun _ _ _ h => h) (Or.inl ⟨by rfl, ?_⟩) hHeld ?_
      rotate_left
      · intro w' hSw
        try dsimp only at hSw
        go_simp
        all_goals with_reducible rfl
      simp only [Act.put, List.setIfInBounds_toArray, List.set_cons_zero, List.set_cons_succ]
      refine wpAnyH_done (by kernel_rfl) ?_ _
      refine NoPanic.normal ?_
      clear hHeld d0 d1 d2 d3
      go_wp2_with fail
      go_meet
      exact ⟨y, pn, psa, pfa, psc, pfc, rfl, rfl, Hid.of (Dc.app CSZ.out (Dc.app (Dc.one KZ.out (i := 0) rfl) (Dc.app (Dc.one KZ.out (i := 1) rfl) (Dc.one KZ.out (i := 2) rfl)))), XZ, LZ, BZ⟩
  case rest =>
    obtain ⟨y, pn, psa, pfa, psc, pfc, rfl, rfl, CS, X, L, BB⟩ := hcut
    have D1 : Hid (∃ g o, pfa = some ⟨g, o, none⟩ ∧ Dc wc [(⟨g, o, none⟩, .int .i64 0), (⟨g, o + 1, none⟩, .int .i64 1)]) := Hid.of (by
      obtain ⟨s', f', he, -, hf', -, -⟩ := L.out
      unfold plVal at he
      simp only [Value.agg.injEq, Array.mk.injEq, List.cons.injEq, and_true] at he
      rw [← he.2.2] at hf'
      exact ints_two hf')
    obtain ⟨g, o, rfl, hD⟩ := D1.out
    have DD := Hid.of hD
    clear hD D1
    obtain ⟨c0, c1⟩ : wc.cell? ⟨y, 0, none⟩ = some (.string pn) ∧ wc.cell? ⟨y, 1, none⟩ = some (.slice psa 2 psc) := ⟨CS.out.tail.tail.tail.tail.head, CS.out.tail.tail.tail.tail.tail.head⟩
    obtain ⟨c2, c3⟩ : wc.cell? ⟨y, 2, none⟩ = some (.slice (some ⟨g, o, none⟩) 2 pfc) ∧ wc.cell? ⟨g, o, none⟩ = some (.int .i64 0) := ⟨CS.out.tail.tail.tail.tail.tail.tail.head, DD.out.head⟩
    have c4 : wc.cell? ⟨g, o + 1, none⟩ = some (.int .i64 1) := DD.out.tail.head
    go_wp2_with fail
    refine (steps_any _ (fifPol, [0, 1]) _ L.out FM.out).mono ?_
    rintro e w6 ⟨rfl, b6⟩
    rw [T1.out]
    have CS6 := Hid.of (CS.out.next b6)
    have X6 := Hid.of (X.out.kept b6)
    have L6 := Hid.of (L.out.kept b6)
    have B6 := Hid.of (BB.out.trans (b6.mono BB.out.size))
    clear b6 CS X L BB DD c0 c1 c2 c3 c4
    obtain ⟨c0, c1⟩ : w6.cell? ⟨y, 0, none⟩ = some (.string pn) ∧ w6.cell? ⟨y, 1, none⟩ = some (.slice psa 2 psc) := ⟨CS6.out.tail.tail.tail.tail.head, CS6.out.tail.tail.tail.tail.tail.head⟩
    have c2 : w6.cell? ⟨y, 2, none⟩ = some (.slice (some ⟨g, o, none⟩) 2 pfc) := CS6.out.tail.tail.tail.tail.tail.tail.head
    go_wp2_with fail
    refine (at_any _ (fifPol, [0, 1]) 1 _ L6.out FM.out (by unfold I64; omega)).mono ?_
    rintro e w7 ⟨rfl, b7⟩
    rw [T2.out]
    unfold atVal
    simp only
    have CS7 := Hid.of (CS6.out.next b7)
    have X7 := Hid.of (X6.out.kept b7)
    have L7 := Hid.of (L6.out.kept b7)
    have B7 := Hid.of (B6.out.trans (b7.mono B6.out.size))
    clear b7 CS6 X6 L6 B6 c0 c1 c2
    obtain ⟨v, hv⟩ : ∃ v, w7.heap.size = v := ⟨_, rfl⟩
    obtain ⟨w8, hw8⟩ : ∃ w8, w7.alloc (.cells #[.int .i64 1, .int .i64 1, .int .i64 0] 59) = w8 := ⟨_, rfl⟩
    have b8 : Below w7.heap.size w7 w8 := by rw [← hw8]; exact (Below.refl _ _).alloc (Nat.le_refl _) _
    have V8 : Hid (SBlk w8 v 1 1 0) := Hid.of (by rw [← hw8, ← hv]; exact (MapKept.heap_alloc w7 _).1)
    have CS8 := Hid.of (CS7.out.next b8)
    have X8 := Hid.of (X7.out.kept b8)
    have L8 := Hid.of (L7.out.kept b8)
    have B8 := Hid.of (B7.out.trans (b8.mono B7.out.size))
    have HW := Hid.of hw8
    have HV := Hid.of hv
    clear b8 CS7 X7 L7 B7 hw8 hv
    go_upto_region 6 with fail
    rw [HW.out, HV.out]
    clear HW HV
    obtain ⟨c0, c1⟩ : w8.cell? ⟨y, 0, none⟩ = some (.string pn) ∧ w8.cell? ⟨y, 1, none⟩ = some (.slice psa 2 psc) := ⟨CS8.out.tail.tail.tail.tail.head, CS8.out.tail.tail.tail.tail.tail.head⟩
    have c2 : w8.cell? ⟨y, 2, none⟩ = some (.slice (some ⟨g, o, none⟩) 2 pfc) := CS8.out.tail.tail.tail.tail.tail.tail.head
    obtain ⟨e0, e1⟩ : w8.cell? ⟨z, 0, none⟩ = some (.int .i64 257) ∧ w8.cell? ⟨z, 1, none⟩ = some (.string n) := ⟨CS8.out.head, CS8.out.tail.head⟩
    obtain ⟨e2, e3⟩ : w8.cell? ⟨z, 2, none⟩ = some (.slice sa 2 sc) ∧ w8.cell? ⟨z, 3, none⟩ = some (.slice fa 0 fc) := ⟨CS8.out.tail.tail.head, CS8.out.tail.tail.tail.head⟩
    go_wp2_with fail
    refine (bases_any _ _ (fifPol, [0, 1]) webReach _ FM.out FT.out L8.out X8.out).mono ?_
    rintro e w9 ⟨u, rfl, ou, b9⟩
    rw [T3.out] at ou
    obtain ⟨ua, uc, rfl, -⟩ := own_one ou
    have hrow : CellRow w9 (.slice ua 2 uc) 2 [.int .i64 150, .int .i64 0] := own_row ou
    obtain ⟨g2, o2, rfl, hD2⟩ := ints_two hrow
    have CS9 := Hid.of (CS8.out.next b9)
    have L9 := Hid.of (L8.out.kept b9)
    have B9 := Hid.of (B8.out.trans (b9.mono B8.out.size))
    have V9 := Hid.of (sblk_next V8.out b9)
    have D9 := Hid.of hD2
    clear b9 CS8 X8 L8 B8 V8 ou hrow hD2 c0 c1 c2 e0 e1 e2 e3
    obtain ⟨c0, c1⟩ : w9.cell? ⟨y, 0, none⟩ = some (.string pn) ∧ w9.cell? ⟨y, 1, none⟩ = some (.slice psa 2 psc) := ⟨CS9.out.tail.tail.tail.tail.head, CS9.out.tail.tail.tail.tail.tail.head⟩
    have c2 : w9.cell? ⟨y, 2, none⟩ = some (.slice (some ⟨g, o, none⟩) 2 pfc) := CS9.out.tail.tail.tail.tail.tail.tail.head
    obtain ⟨s0, s1, s2⟩ := sblk_at V9.out
    have u0 : w9.cell? ⟨g2, o2, none⟩ = some (.int .i64 150) := D9.out.head
    have u1 : w9.cell? ⟨g2, o2 + 1, none⟩ = some (.int .i64 0) := D9.out.tail.head
    go_wp2_with fail
    refine (bound_any _ (fifPol, [0, 1]) 5 _ L9.out FM.out (by unfold I64; omega)).mono ?_
    rintro e wa ⟨rfl, ba⟩
    rw [T4.out]
    have BA := Hid.of (B9.out.trans (ba.mono B9.out.size))
    clear ba
    go_wp2
    go_ret
    exact ⟨rfl, BA.out⟩

end Go.Proofs.YtbhcafginmkaaaaGreat

namespace Go.Proofs.YtbhcafginmkaaaaGreat
open Go.RowKit Go.Lib

section
variable {w0 w w' : World} {Z y : Nat} {tn pn : ByteArray} {ts ps pf : Value} {pl : PlanL}
end

/-- The steps of a policy that may be. -/
structure StepsOk (q : PolL) (pl : PlanL) : Prop where
  ok : ShOk q.2
  ne : q.2 ≠ []
  len : q.2.length ≤ 10
  tq : pl.1 = q

theorem StepsOk.sum {q : PolL} {pl : PlanL} (h : StepsOk q pl) : 1 ≤ shSum q.2 ∧ shSum q.2 ≤ 80 := by
  have h1 := shSum_ge h.ok
  have h2 := h.len
  have h3 : 1 ≤ q.2.length := List.length_pos_iff.2 h.ne
  omega

theorem StepsOk.steps {q : PolL} {pl : PlanL} (h : StepsOk q pl) : mSteps pl = shSum q.2 + 2 := by
  have := mSteps_sum (pl := pl) (by rw [h.tq]; exact h.ok) (by rw [h.tq]; have := h.len; omega) (by rw [h.tq]; exact h.ne)
  rwa [h.tq] at this

theorem StepsOk.at_ {q : PolL} {pl : PlanL} (h : StepsOk q pl) {n : Int} (n0 : 0 ≤ n) : mAt pl n = mAtN n 0 q.2 := by
  unfold mAt
  rw [if_neg (by rw [mZero_no (by rw [h.tq]; exact h.ne)]; simp only [Bool.false_eq_true, false_or]; omega), h.tq]

theorem StepsOk.fill {q : PolL} {pl : PlanL} (h : StepsOk q pl) {j : Nat} {x : TierL} (hx : q.2[j]? = some x) {k : Int} (k0 : 0 ≤ k) (k1 : k < x.2.2.2) : mAt pl (shSum (q.2.take j) + k) = ((1, (j : Int), k), true) := by
  have h2 := shSum_ge (l := q.2.take j) (fun z hz => h.ok z (List.mem_of_mem_take hz))
  rw [h.at_ (by omega), mAtN_fill h.ok hx k0 k1, Nat.zero_add]

end Go.Proofs.YtbhcafginmkaaaaGreat
