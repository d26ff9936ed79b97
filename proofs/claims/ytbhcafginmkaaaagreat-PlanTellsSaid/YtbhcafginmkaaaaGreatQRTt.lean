/-
  PlanTells: the sources, the bases, every step, and what is filled by the first ones, of every two policies; the lists lie apart.
-/
import Derived.Deep.RegionHeld3
import Derived.Test.YtbhcafginmkaaaaGreatT21
import Derived.Test.YtbhcafginmkaaaaGreatT24
import Derived.Test.YtbhcafginmkaaaaGreatT23
namespace Go.Proofs.YtbhcafginmkaaaaGreat
open Go.RowKit Go.Lib

/-- What there is ahead of the Book: two policies that came in, the document's own reach and plan, in variables. -/
structure PE (Z xb qb : Nat) (fn tn : ByteArray) (fs ts gv : Value) (now : Int) (qn : ByteArray) (qs qf : Value) (p q : PolL) (fl : List Int) (pl : PlanL) (w0 u : World) : Prop where
  cs : Dc u [(⟨Z, 0, none⟩, .string fn), (⟨Z, 1, none⟩, fs), (⟨Z + 1, 0, none⟩, .string tn), (⟨Z + 1, 1, none⟩, ts), (⟨xb, 0, none⟩, .int .i64 now), (⟨xb, 1, none⟩, .string fn), (⟨xb, 2, none⟩, fs), (⟨xb, 3, none⟩, gv), (⟨qb, 0, none⟩, .string qn), (⟨qb, 1, none⟩, qs), (⟨qb, 2, none⟩, qf)]
  hp : PolRow u (.agg #[.string fn, fs]) p
  hq : PolRow u (.agg #[.string tn, ts]) q
  hf : CellRow u gv fl.length (fl.map (Value.int .i64))
  hx : RchRow u (.agg #[.int .i64 now, .string fn, fs, gv]) (now, p, fl)
  hl : PlanRow u (.agg #[.string qn, qs, qf]) pl
  fr : Below w0.heap.size w0 u

abbrev lRow (b : Nat) (n : ByteArray) (s f : Value) : Row1 := ⟨49, 3, .slice (some ⟨b, 0, none⟩) 1 1, 1, [.string n, s, f]⟩

theorem plan_rows {w : World} {n : ByteArray} {s f : Value} {pl : PlanL} (h : PlanRow w (.agg #[.string n, s, f]) pl) : CellRow w f pl.2.length (pl.2.map (Value.int .i64)) ∧ PolRow w (.agg #[.string n, s]) pl.1 := by
  obtain ⟨s', f', he, h1, h2, h3, h4⟩ := h
  unfold plVal at he
  simp only [Value.agg.injEq, Array.mk.injEq, List.cons.injEq, and_true, Value.string.injEq] at he
  obtain ⟨rfl, rfl, rfl⟩ := he
  exact ⟨h2, s, rfl, h1, h3⟩

section
variable {Z xb qb rb bl D : Nat} {fn tn qn rn pn : ByteArray} {fs ts gv qs qf rs rf ps pf : Value} {now : Int} {p q : PolL} {fl : List Int} {pl : PlanL} {w0 wb u u' : World} {cs : Array Value} {rows : List Row1}

theorem PE.next (h : PE Z xb qb fn tn fs ts gv now qn qs qf p q fl pl w0 u) (b : Below u.heap.size u u') : PE Z xb qb fn tn fs ts gv now qn qs qf p q fl pl w0 u' :=
  ⟨h.cs.next b, h.hp.kept b, h.hq.kept b, h.hf.kept b, h.hx.kept b, h.hl.kept b, h.fr.trans (b.mono h.fr.size)⟩

/-- And behind it: a reach and a plan that were answered. -/
structure PW (Z xb qb : Nat) (fn tn : ByteArray) (fs ts gv : Value) (now : Int) (qn : ByteArray) (qs qf : Value) (p q : PolL) (fl : List Int) (pl : PlanL) (rb bl : Nat) (rn pn : ByteArray) (rs rf ps pf : Value) (w0 : World) (cs : Array Value) (rows : List Row1) (wb u : World) : Prop where
  pe : PE Z xb qb fn tn fs ts gv now qn qs qf p q fl pl w0 u
  cr : Dc u [(⟨rb, 0, none⟩, .int .i64 now), (⟨rb, 1, none⟩, .string rn), (⟨rb, 2, none⟩, rs), (⟨rb, 3, none⟩, rf), (⟨bl, 0, none⟩, .string pn), (⟨bl, 1, none⟩, ps), (⟨bl, 2, none⟩, pf)]
  rr : RchRow u (.agg #[.int .i64 now, .string rn, rs, rf]) (now, p, fl)
  lr : PlanRow u (.agg #[.string pn, ps, pf]) pl
  bk : Here wb.heap.size (wb.heap.size + 1) cs 45 wb u rows []

theorem PW.next (h : PW Z xb qb fn tn fs ts gv now qn qs qf p q fl pl rb bl rn pn rs rf ps pf w0 cs rows wb u) (b : Below u.heap.size u u') : PW Z xb qb fn tn fs ts gv now qn qs qf p q fl pl rb bl rn pn rs rf ps pf w0 cs rows wb u' :=
  ⟨h.pe.next b, h.cr.next b, h.rr.kept b, h.lr.kept b, h.bk.next b⟩
theorem PW.lat (h : PW Z xb qb fn tn fs ts gv now qn qs qf p q fl pl rb bl rn pn rs rf ps pf w0 cs rows wb u) : u.cell? ⟨bl, 0, none⟩ = some (.string pn) ∧ u.cell? ⟨bl, 1, none⟩ = some ps ∧ u.cell? ⟨bl, 2, none⟩ = some pf :=
  ⟨h.cr.tail.tail.tail.tail.head, h.cr.tail.tail.tail.tail.tail.head, h.cr.tail.tail.tail.tail.tail.tail.head⟩
theorem PW.rat (h : PW Z xb qb fn tn fs ts gv now qn qs qf p q fl pl rb bl rn pn rs rf ps pf w0 cs rows wb u) : u.cell? ⟨rb, 0, none⟩ = some (.int .i64 now) ∧ u.cell? ⟨rb, 1, none⟩ = some (.string rn) ∧ u.cell? ⟨rb, 2, none⟩ = some rs ∧ u.cell? ⟨rb, 3, none⟩ = some rf :=
  ⟨h.cr.head, h.cr.tail.head, h.cr.tail.tail.head, h.cr.tail.tail.tail.head⟩
theorem PE.xq (h : PE Z xb qb fn tn fs ts gv now qn qs qf p q fl pl w0 u) : Dc u [(⟨xb, 0, none⟩, .int .i64 now), (⟨xb, 1, none⟩, .string fn), (⟨xb, 2, none⟩, fs), (⟨xb, 3, none⟩, gv), (⟨qb, 0, none⟩, .string qn), (⟨qb, 1, none⟩, qs), (⟨qb, 2, none⟩, qf)] := h.cs.tail.tail.tail.tail
theorem PW.qat (h : PW Z xb qb fn tn fs ts gv now qn qs qf p q fl pl rb bl rn pn rs rf ps pf w0 cs rows wb u) : u.cell? ⟨qb, 0, none⟩ = some (.string qn) ∧ u.cell? ⟨qb, 1, none⟩ = some qs ∧ u.cell? ⟨qb, 2, none⟩ = some qf := by
  have k := h.pe.xq.tail.tail.tail.tail
  exact ⟨k.head, k.tail.head, k.tail.tail.head⟩
theorem PW.d13 (h : PW Z xb qb fn tn fs ts gv now qn qs qf p q fl pl rb bl rn pn rs rf ps pf w0 cs rows wb u) : Dc u [(⟨bl, 0, none⟩, .string pn), (⟨bl, 1, none⟩, ps), (⟨bl, 2, none⟩, pf), (⟨qb, 0, none⟩, .string qn), (⟨qb, 1, none⟩, qs), (⟨qb, 2, none⟩, qf)] :=
  Dc.app h.cr.tail.tail.tail.tail h.pe.xq.tail.tail.tail.tail
theorem PW.d19 {sb : Nat} {kd tr sh : Int} (h : PW Z xb qb fn tn fs ts gv now qn qs qf p q fl pl rb bl rn pn rs rf ps pf w0 cs rows wb u) (s : SBlk u sb kd tr sh) : Dc u [(⟨bl, 0, none⟩, .string pn), (⟨bl, 1, none⟩, ps), (⟨bl, 2, none⟩, pf), (⟨qb, 0, none⟩, .string qn), (⟨qb, 1, none⟩, qs), (⟨qb, 2, none⟩, qf), (⟨xb, 0, none⟩, .int .i64 now), (⟨xb, 1, none⟩, .string fn), (⟨xb, 2, none⟩, fs), (⟨xb, 3, none⟩, gv), (⟨sb, 0, none⟩, .int .i64 kd), (⟨sb, 1, none⟩, .int .i64 tr), (⟨sb, 2, none⟩, .int .i64 sh)] := by
  have hx : Dc u [(⟨xb, 0, none⟩, .int .i64 now), (⟨xb, 1, none⟩, .string fn), (⟨xb, 2, none⟩, fs), (⟨xb, 3, none⟩, gv)] := Dc.left (l := [(⟨qb, 0, none⟩, .string qn), (⟨qb, 1, none⟩, qs), (⟨qb, 2, none⟩, qf)]) h.pe.xq
  exact Dc.app h.d13 (Dc.app hx (Dc.app (Dc.one s (i := 0) rfl) (Dc.app (Dc.one s (i := 1) rfl) (Dc.one s (i := 2) rfl))))

/-- All of it, out of what the Book and the rows beside it tell. -/
theorem PW.of {V W V' W' u2 u3 : Value} {L : List (Value × Value × List Int)} {L' : List (Value × Value × List TierL)} (P : PE Z xb qb fn tn fs ts gv now qn qs qf p q fl pl w0 wb) (h : Here wb.heap.size (wb.heap.size + 1) cs 45 wb u rows [])
    (mr : rRow rb now rn rs rf ∈ rows) (ms : pRow rs p.2 ∈ rows) (mf : iRow rf fl ∈ rows) (ml : lRow bl pn ps pf ∈ rows) (mi : ∀ r ∈ iblk V W L, r ∈ rows) (hi : (pf, u2, pl.2) ∈ L) (mp : ∀ r ∈ pblk V' W' L', r ∈ rows) (ht : (ps, u3, pl.1.2) ∈ L')
    (hn : p.1 = rn) (hm : pl.1.1 = pn) (hc : CapOk rs ∧ CapOk rf) (hd : CapOk ps ∧ CapOk pf) : PW Z xb qb fn tn fs ts gv now qn qs qf p q fl pl rb bl rn pn rs rf ps pf w0 cs rows wb u := by
  have kr := cells_blk (cs := #[.int .i64 now, .string rn, rs, rf]) (h.bag.own _ mr)
  have kl := cells_blk (cs := #[.string pn, ps, pf]) (h.bag.own _ ml)
  have a1 := iblk_has h mi _ hi
  have a2 := pblk_has h mp _ ht
  refine ⟨P.next h.fr, Dc.app (Dc.one kr (i := 0) rfl) (Dc.app (Dc.one kr (i := 1) rfl) (Dc.app (Dc.one kr (i := 2) rfl) (Dc.app (Dc.one kr (i := 3) rfl) (Dc.app (Dc.one kl (i := 0) rfl) (Dc.app (Dc.one kl (i := 1) rfl) (Dc.one kl (i := 2) rfl)))))), rch_of h hn ms mf hc, ?_, h⟩
  exact ⟨ps, pf, by unfold plVal; rw [hm], a2, a1, hd.1, hd.2⟩
end

/-- What is filled, of a plan that was made. -/
theorem made_filled {pl : PlanL} (hm : Made13 pl) {ti : Nat} {z : TierL} (hz : pl.1.2[ti]? = some z) (sn : ByteArray) : ∃ th : Int, (∀ k, mFilled pl k ti sn = decide (th < k)) ∧ th < 100 := by
  have so : StepsOk pl.1 pl := ⟨hm.ok, fun c => (by rw [c] at hz; cases hz), hm.len, rfl⟩
  obtain ⟨h1, h2, h3, h4⟩ := so.filled2 hz sn
  have h5 := so.sum
  exact ⟨_, h4, by omega⟩

theorem bookip13_built : Tryz.prog.built 45 [] = some (bookIP (.slice none 0 0) (.slice none 0 0) (.slice none 0 0) (.slice none 0 0)) := by kernel_rfl

set_option maxRecDepth 20000 in
set_option maxHeartbeats 25600000 in
theorem planTells_main (v tv gv : Value) (p q : PolL) (now k tier need : Int) (fl : List Int) (sn : ByteArray) (w : World) (hv : PolRow w v p) (hp : ∀ x ∈ p.2, TIn x) (ht : PolRow w tv q) (hq : ∀ x ∈ q.2, TIn x) (hnow : In64 now) (hg : NumRow .i64 w gv fl) (hgc : CapOk gv) (hfl : ∀ x ∈ fl, In64 x) (hk : In64 k) (hsn : sn.size ≤ maxLen) (hneed : In64 need) :
    Calls Tryz.prog 3 #[v, tv, .int .i64 now, gv, .int .i64 k, .int .i64 tier, .string sn, .int .i64 need] w fun e w' => e = .returned (.bool true) ∧ Below w.heap.size w w' := by
  have HV := Hid.of hv
  have HT := Hid.of ht
  have HP := Hid.of hp
  have HQ := Hid.of hq
  have HNW := Hid.of hnow
  have HFL := Hid.of hfl
  have HGC := Hid.of hgc
  have HK := Hid.of hk
  have HNE := Hid.of hneed
  have HSN := Hid.of hsn
  have HG := Hid.of (NumRow.cells' hg)
  obtain ⟨ga, gc, rfl, -⟩ := hg
  obtain ⟨s1, rfl, hs1, -⟩ := hv
  obtain ⟨s2, rfl, hs2, -⟩ := ht
  obtain ⟨sa, sc, rfl, -⟩ := hs1
  obtain ⟨ta, tc, rfl, -⟩ := hs2
  obtain ⟨fn, hfn⟩ : ∃ n, p.1 = n := ⟨_, rfl⟩
  obtain ⟨tn, htn⟩ : ∃ n, q.1 = n := ⟨_, rfl⟩
  obtain ⟨PN, hPN⟩ : ∃ N, p.2.length = N := ⟨_, rfl⟩
  obtain ⟨QN, hQN⟩ : ∃ N, q.2.length = N := ⟨_, rfl⟩
  obtain ⟨M, hM⟩ : ∃ M, fl.length = M := ⟨_, rfl⟩
  unfold polVal at HV HT ⊢
  rw [hfn, hPN] at HV
  rw [htn, hQN] at HT
  rw [hM] at HGC
  replace HG : Hid (CellRow w (.slice ga M gc) fl.length (fl.map (Value.int .i64))) := Hid.of (by rw [← hM]; exact HG.out)
  rw [hfn, htn, hPN, hQN, hM]
  obtain ⟨Z, hZ⟩ : ∃ Z, w.heap.size = Z := ⟨_, rfl⟩
  obtain ⟨w1, hw1⟩ : ∃ w1, (w.alloc (.cells #[.string fn, .slice sa PN sc] 24)).alloc (.cells #[.string tn, .slice ta QN tc] 24) = w1 := ⟨_, rfl⟩
  have htwo : Below w.heap.size w w1 ∧ w1.heap[Z]? = some (.cells #[.string fn, .slice sa PN sc] 24 (0, 0)) ∧ w1.heap[Z + 1]? = some (.cells #[.string tn, .slice ta QN tc] 24 (0, 0)) := by
    rw [← hw1, ← hZ]
    obtain ⟨wa, ha⟩ : ∃ wa, w.alloc (.cells #[.string fn, .slice sa PN sc] 24) = wa := ⟨_, rfl⟩
    have a0 : wa.heap[w.heap.size]? = some (.cells #[.string fn, .slice sa PN sc] 24 (0, 0)) := by rw [← ha]; exact (MapKept.heap_alloc w _).1
    have asz : wa.heap.size = w.heap.size + 1 := by rw [← ha]; simp
    have ab : Below w.heap.size w wa := by rw [← ha]; exact (Below.refl _ _).alloc (Nat.le_refl _) _
    rw [ha]
    obtain ⟨wb, hb⟩ : ∃ wb, wa.alloc (.cells #[.string tn, .slice ta QN tc] 24) = wb := ⟨_, rfl⟩
    have b0 : wb.heap[w.heap.size + 1]? = some (.cells #[.string tn, .slice ta QN tc] 24 (0, 0)) := by rw [← hb, ← asz]; exact (MapKept.heap_alloc wa _).1
    have bb : Below wa.heap.size wa wb := by rw [← hb]; exact (Below.refl _ _).alloc (Nat.le_refl _) _
    rw [hb]
    exact ⟨ab.trans (bb.mono (by omega)), by rw [bb.block _ (by omega)]; exact a0, b0⟩
  obtain ⟨b1, k0, k1⟩ := htwo
  have CS1 : Hid (Dc w1 [(⟨Z, 0, none⟩, .string fn), (⟨Z, 1, none⟩, .slice sa PN sc), (⟨Z + 1, 0, none⟩, .string tn), (⟨Z + 1, 1, none⟩, .slice ta QN tc)]) := Hid.of (Dc.app (Dc.one k0 (i := 0) rfl) (Dc.app (Dc.one k0 (i := 1) rfl) (Dc.app (Dc.one k1 (i := 0) rfl) (Dc.one k1 (i := 1) rfl))))
  have B1 := Hid.of b1
  have HW := Hid.of hw1
  have HZ := Hid.of hZ
  have NP := Hid.of hPN
  have NQ := Hid.of hQN
  have NM := Hid.of hM
  have HFN := Hid.of hfn
  clear hw1 b1 k0 k1 hZ hQN hPN hM hfn htn hp hq hnow hfl hgc hk hsn hneed
  have BAD : Hid (∀ w9, Below w.heap.size w w9 → Calls Tryz.prog 13 #[] w9 fun e w' => e = .returned (.bool true) ∧ Below w.heap.size w w') := Hid.of (fun w9 h => by
    refine (planAlive_any w9).mono ?_
    rintro e w' ⟨he, b⟩
    exact ⟨he, h.trans (b.mono h.size)⟩)
  obtain ⟨c0, c1⟩ : w1.cell? ⟨Z, 0, none⟩ = some (.string fn) ∧ w1.cell? ⟨Z, 1, none⟩ = some (.slice sa PN sc) := ⟨CS1.out.head, CS1.out.tail.head⟩
  go_enter Tryz.func3, Tryz.ntmps3
  go_upto_region 1 with fail
  rw [HW.out, HZ.out]
  clear HW
  go_wp2_with fail
  refine (Small_any _ p _ (HV.out.kept B1.out)).mono ?_
  rintro e w2 ⟨r, rfl, hr, b2⟩
  have B2 := Hid.of (B1.out.trans (b2.mono B1.out.size))
  have CS2 := Hid.of (CS1.out.next b2)
  clear b2 B1 CS1 c0 c1
  obtain ⟨c0, c1⟩ : w2.cell? ⟨Z + 1, 0, none⟩ = some (.string tn) ∧ w2.cell? ⟨Z + 1, 1, none⟩ = some (.slice ta QN tc) := ⟨CS2.out.tail.tail.head, CS2.out.tail.tail.tail.head⟩
  cases r with
  | false =>
    go_wp2_with fail
    refine (BAD.out _ B2.out).mono ?_
    rintro e w3 ⟨rfl, b3⟩
    go_wp2
    go_ret
    exact ⟨rfl, b3⟩
  | true =>
    have SM := Hid.of (hr.out rfl)
    have SP := Hid.of (fit_of HP.out (hr.out rfl))
    clear hr
    go_wp2_with fail
    refine (Small_any _ q _ (HT.out.kept B2.out)).mono ?_
    rintro e w3 ⟨r, rfl, hr, b3⟩
    have B3 := Hid.of (B2.out.trans (b3.mono B2.out.size))
    have CS3 := Hid.of (CS2.out.next b3)
    clear b3 B2 CS2 c0 c1
    by_cases hok : r = true ∧ M ≤ 12 ∧ sn.size ≤ 60 ∧ 0 ≤ need ∧ need ≤ 1152921504606846976
    case neg =>
      have hk : r = false ∨ (r = true ∧ (12 : Int) < (M : Int)) ∨ (r = true ∧ ¬ (12 : Int) < (M : Int) ∧ (60 : Int) < (sn.size : Int)) ∨ (r = true ∧ ¬ (12 : Int) < (M : Int) ∧ ¬ (60 : Int) < (sn.size : Int) ∧ need < 0) ∨ (r = true ∧ ¬ (12 : Int) < (M : Int) ∧ ¬ (60 : Int) < (sn.size : Int) ∧ ¬ need < 0 ∧ 1152921504606846976 < need) := by
        cases r
        · exact .inl rfl
        · right
          simp only [true_and] at hok ⊢
          omega
      clear hok hr
      rcases hk with rfl | ⟨rfl, h1⟩ | ⟨rfl, h1, h2⟩ | ⟨rfl, h1, h2, h3⟩ | ⟨rfl, h1, h2, h3, h4⟩
      all_goals
        go_wp2_with fail
        refine (BAD.out _ B3.out).mono ?_
        rintro e w4 ⟨rfl, b4⟩
        go_wp2
        go_ret
        exact ⟨rfl, b4⟩
    obtain ⟨rfl, hM12, hs60, hn0, hn1⟩ := hok
    have SQ := Hid.of (fit_of HQ.out (hr.out rfl))
    have SMQ := Hid.of (hr.out rfl)
    have M12 := Hid.of hM12
    have SN60 := Hid.of hs60
    have NE0 := Hid.of hn0
    have NE1 := Hid.of hn1
    have FT : Hid (RFit (now, p, fl)) := Hid.of ⟨HNW.out, SP.out, by show fl.length ≤ _; rw [NM.out]; have := M12.out; omega, HFL.out⟩
    have MD13 := Hid.of (made_plan (p := p) (q := q) (r := (now, p, fl)) SP.out.1 SQ.out SMQ.out.1)
    obtain ⟨er, her⟩ : ∃ er, mErr p q = er := ⟨_, rfl⟩
    obtain ⟨pl, hpl⟩ : ∃ pl, mMake p (now, p, fl) q = pl := ⟨_, rfl⟩
    have MK : Hid (mErr p q = er ∧ mMake p (now, p, fl) q = pl) := Hid.of ⟨her, hpl⟩
    rw [hpl] at MD13
    have M13 : Hid (Made13 pl) := Hid.of MD13.out.1
    have SL : Hid (pl.2.length = pl.1.2.length) := Hid.of MD13.out.2
    have FM : Hid (MFit pl) := Hid.of M13.out.fit
    clear MD13 her hpl
    obtain ⟨LN, hLN⟩ : ∃ n, pl.1.2.length = n := ⟨_, rfl⟩
    obtain ⟨LM, hLM⟩ : ∃ n, pl.2.length = n := ⟨_, rfl⟩
    have LL : Hid (pl.1.2.length = LN ∧ pl.2.length = LM) := Hid.of ⟨hLN, hLM⟩
    have LN10 : Hid (LN ≤ 10) := Hid.of (by rw [← hLN]; exact M13.out.len)
    have LM10 : Hid (LM ≤ 10) := Hid.of (by rw [← hLM, SL.out]; exact M13.out.len)
    obtain ⟨BN, hBN⟩ : ∃ n, (mBases pl (now, p, fl)).length = n := ⟨_, rfl⟩
    have BNL : Hid ((mBases pl (now, p, fl)).length = BN) := Hid.of hBN
    have BL : Hid (BN ≤ LN) := Hid.of (by rw [← hBN, mBases_len, hLN]; exact Nat.le_refl _)
    obtain ⟨kd, tr, sh, is_, hat⟩ : ∃ a b c d, mAt pl k = ((a, b, c), d) := ⟨_, _, _, _, rfl⟩
    have AT : Hid (mAt pl k = ((kd, tr, sh), is_)) := Hid.of hat
    clear hLN hLM hBN hat hr
    have m1 : decide ((12 : Int) < (M : Int)) = false := decide_eq_false (by omega)
    have m2 : decide ((60 : Int) < (sn.size : Int)) = false := decide_eq_false (by omega)
    have m3 : decide (need < 0) = false := decide_eq_false (by omega)
    have m4 : decide (1152921504606846976 < need) = false := decide_eq_false (by omega)
    obtain ⟨c0, c1⟩ : w3.cell? ⟨Z, 0, none⟩ = some (.string fn) ∧ w3.cell? ⟨Z, 1, none⟩ = some (.slice sa PN sc) := ⟨CS3.out.head, CS3.out.tail.head⟩
    go_upto_region 4 with fail
    clear m1 m2 m3 m4 hn0 hn1 hM12 hs60 c0 c1
    obtain ⟨xb, hxb⟩ : ∃ x, w3.heap.size = x := ⟨_, rfl⟩
    obtain ⟨w4, hw4⟩ : ∃ w4, w3.alloc (.cells #[.int .i64 now, .string fn, .slice sa PN sc, .slice ga M gc] 29) = w4 := ⟨_, rfl⟩
    have b4 : Below w3.heap.size w3 w4 := by rw [← hw4]; exact (Below.refl _ _).alloc (Nat.le_refl _) _
    have k4 : w4.heap[xb]? = some (.cells #[.int .i64 now, .string fn, .slice sa PN sc, .slice ga M gc] 29 (0, 0)) := by rw [← hw4, ← hxb]; exact (MapKept.heap_alloc w3 _).1
    have B4 := Hid.of (B3.out.trans (b4.mono B3.out.size))
    have CS4 : Hid (Dc w4 [(⟨Z, 0, none⟩, .string fn), (⟨Z, 1, none⟩, .slice sa PN sc), (⟨Z + 1, 0, none⟩, .string tn), (⟨Z + 1, 1, none⟩, .slice ta QN tc), (⟨xb, 0, none⟩, .int .i64 now), (⟨xb, 1, none⟩, .string fn), (⟨xb, 2, none⟩, .slice sa PN sc), (⟨xb, 3, none⟩, .slice ga M gc)]) := Hid.of (Dc.app (CS3.out.next b4) (Dc.app (Dc.one k4 (i := 0) rfl) (Dc.app (Dc.one k4 (i := 1) rfl) (Dc.app (Dc.one k4 (i := 2) rfl) (Dc.one k4 (i := 3) rfl)))))
    have X4 : Hid (RchRow w4 (.agg #[.int .i64 now, .string fn, .slice sa PN sc, .slice ga M gc]) (now, p, fl)) := Hid.of (by
      obtain ⟨s, hs, h1, h2⟩ := HV.out.kept B4.out
      unfold polVal at hs
      simp only [Value.agg.injEq, Array.mk.injEq, List.cons.injEq, and_true, Value.string.injEq] at hs
      obtain ⟨-, rfl⟩ := hs
      exact ⟨_, _, by unfold rVal; rw [← HFN.out], h1, HG.out.kept B4.out, h2, HGC.out⟩)
    have HW := Hid.of hw4
    have HX := Hid.of hxb
    clear hw4 hxb b4 k4 B3 CS3
    rw [HW.out, HX.out]
    clear HW HX
    obtain ⟨c0, c1⟩ : w4.cell? ⟨Z, 0, none⟩ = some (.string fn) ∧ w4.cell? ⟨Z, 1, none⟩ = some (.slice sa PN sc) := ⟨CS4.out.head, CS4.out.tail.head⟩
    obtain ⟨c2, c3⟩ : w4.cell? ⟨Z + 1, 0, none⟩ = some (.string tn) ∧ w4.cell? ⟨Z + 1, 1, none⟩ = some (.slice ta QN tc) := ⟨CS4.out.tail.tail.head, CS4.out.tail.tail.tail.head⟩
    obtain ⟨c4, c5⟩ : w4.cell? ⟨xb, 0, none⟩ = some (.int .i64 now) ∧ w4.cell? ⟨xb, 1, none⟩ = some (.string fn) := ⟨CS4.out.tail.tail.tail.tail.head, CS4.out.tail.tail.tail.tail.tail.head⟩
    obtain ⟨c6, c7⟩ : w4.cell? ⟨xb, 2, none⟩ = some (.slice sa PN sc) ∧ w4.cell? ⟨xb, 3, none⟩ = some (.slice ga M gc) := ⟨CS4.out.tail.tail.tail.tail.tail.tail.head, CS4.out.tail.tail.tail.tail.tail.tail.tail.head⟩
    go_wp2_with fail
    refine (refMake_any _ _ _ p q (now, p, fl) w4 SP.out SQ.out FT.out (HV.out.kept B4.out) X4.out (HT.out.kept B4.out)).mono ?_
    rintro e w5 ⟨u, rfl, lr, b5⟩
    rw [MK.out.1]
    rw [MK.out.2] at lr
    obtain ⟨qs, qf, rfl, hqs, hqf, hcs, hcf⟩ := lr
    have LR : Hid (PlanRow w5 (plVal pl qs qf) pl) := Hid.of ⟨qs, qf, rfl, hqs, hqf, hcs, hcf⟩
    obtain ⟨qsa, qsc, rfl, -⟩ := hqs
    obtain ⟨qfa, qfc, rfl, -⟩ := hqf
    unfold plVal at LR ⊢
    obtain ⟨qn, hqn⟩ : ∃ n, pl.1.1 = n := ⟨_, rfl⟩
    rw [hqn, LL.out.1, LL.out.2] at LR ⊢
    have CS5 := Hid.of (CS4.out.next b5)
    have X5 := Hid.of (X4.out.kept b5)
    have B5 := Hid.of (B4.out.trans (b5.mono B4.out.size))
    clear b5 CS4 X4 B4 hqn hcs hcf c0 c1 c2 c3 c4 c5 c6 c7
    obtain ⟨qb, hqb⟩ : ∃ x, w5.heap.size = x := ⟨_, rfl⟩
    obtain ⟨wb, hwb⟩ : ∃ x, w5.alloc (.cells #[.string qn, .slice qsa LN qsc, .slice qfa LM qfc] 31) = x := ⟨_, rfl⟩
    have bb : Below w5.heap.size w5 wb := by rw [← hwb]; exact (Below.refl _ _).alloc (Nat.le_refl _) _
    have kb : DBlk13 wb qb qn (.slice qsa LN qsc) (.slice qfa LM qfc) := by rw [← hwb, ← hqb]; exact (MapKept.heap_alloc w5 _).1
    have PB : Hid (PE Z xb qb fn tn (.slice sa PN sc) (.slice ta QN tc) (.slice ga M gc) now qn (.slice qsa LN qsc) (.slice qfa LM qfc) p q fl pl w wb) := Hid.of
      ⟨Dc.app (CS5.out.next bb) (Dc.app (Dc.one kb (i := 0) rfl) (Dc.app (Dc.one kb (i := 1) rfl) (Dc.one kb (i := 2) rfl))), HV.out.kept (B5.out.trans (bb.mono B5.out.size)), HT.out.kept (B5.out.trans (bb.mono B5.out.size)), HG.out.kept (B5.out.trans (bb.mono B5.out.size)), X5.out.kept bb, LR.out.kept bb, B5.out.trans (bb.mono B5.out.size)⟩
    have BB := Hid.of PB.out.fr
    have HW := Hid.of hwb
    have HX := Hid.of hqb
    clear hwb hqb bb kb CS5 X5 LR B5
    go_upto_region 5 with fail
    rw [HW.out, HX.out]
    clear HW HX
    go_wp2_with (first
      | (refine wpList_builtP rfl 45 [] rfl (bookIP (.slice none 0 0) (.slice none 0 0) (.slice none 0 0) (.slice none 0 0)) bookip13_built ?_)
      | (refine wpList_boxedP rfl 45 _ rfl (bookIP (.slice none 0 0) (.slice none 0 0) (.slice none 0 0) (.slice none 0 0)) rfl ?_
         obtain ⟨w6, hw6⟩ : ∃ w6, wb.alloc (.cells (bookIP (.slice none 0 0) (.slice none 0 0) (.slice none 0 0) (.slice none 0 0)) 45) = w6 := ⟨_, rfl⟩
         rw [hw6]
         have J6 : Hid (Here wb.heap.size (wb.heap.size + 1) (bookIP (.slice none 0 0) (.slice none 0 0) (.slice none 0 0) (.slice none 0 0)) 45 wb w6 (iblk (.slice none 0 0) (.slice none 0 0) [] ++ (pblk (.slice none 0 0) (.slice none 0 0) [] ++ [])) []) := Hid.of (by
           rw [← hw6]
           exact bookIP_nil _ _ _ _ (Go.heap_alloc_new _ _) ((Below.refl _ _).alloc (Nat.le_refl _) _))
         clear hw6))

    go_loopw [21, 22, 23, 24, 25, 26, 27, 28, 29, 30, 31] (fun kv _ _ _ _ _ _ _ _ _ _ wr => ∃ (k' : Nat) (V W V' W' : Value) (ls : List (Value × Value × List Int)) (ls' : List (Value × Value × List TierL)), k' ≤ 2 ∧ kv = .int .i64 k' ∧ Hid (Here wb.heap.size (wb.heap.size + 1) (bookIP V W V' W') 45 wb wr (iblk V W ls ++ (pblk V' W' ls' ++ [])) []) ∧ Hid (ls.length ≤ 2 * k') ∧ Hid (∀ y ∈ ls, y.2.2.length ≤ 900000) ∧ Hid (ls'.length ≤ k') ∧ Hid (∀ y ∈ ls', y.2.2.length ≤ 900000)) (fun kv _ _ _ _ _ _ _ _ _ _ _ => 2 - (RowKit.intOf kv).toNat)
    case atStart => exact ⟨0, _, _, _, _, [], [], Nat.zero_le _, rfl, J6, Hid.of (Nat.le_refl _), Hid.of (fun _ h => absurd h List.not_mem_nil), Hid.of (Nat.le_refl _), Hid.of (fun _ h => absurd h List.not_mem_nil)⟩
    case round =>
      clear J6
      obtain ⟨k', V, W, V', W', ls, ls', hk', rfl, J, LS, LL1, LS', LL2⟩ := hrel
      have P := Hid.of (PB.out.next J.out.fr)
      have k0 : (0 : Int) ≤ (k' : Int) := Int.natCast_nonneg _
      by_cases hlt : k' < 2
      · have k1 : (k' : Int) < 2 := by omega
        obtain ⟨c0, c1⟩ : wr.cell? ⟨Z, 0, none⟩ = some (.string fn) ∧ wr.cell? ⟨Z, 1, none⟩ = some (.slice sa PN sc) := ⟨P.out.cs.head, P.out.cs.tail.head⟩
        have hof := reaches.of _ (.slice ga M gc) p now fl wr trivial FT.out P.out.hp P.out.hf HGC.out
        go_wp2_with fail
        refine hof.mono ?_
        rintro e w9 ⟨u, rfl, ou, b9⟩
        clear hof
        have rr := OwnRch.row ou
        obtain ⟨s1, f1, rfl, o1, o2, ap⟩ := ou
        obtain ⟨s1a, s1c, rfl, -⟩ := own_one o1
        obtain ⟨f1a, f1c, rfl, -⟩ := own_one o2
        unfold rVal at rr ⊢
        simp only at o1 o2 ap rr ⊢
        have J9 : Hid (Here wb.heap.size (wb.heap.size + 1) (bookIP V W V' W') 45 wb w9 (pRow (.slice s1a p.2.length s1c) p.2 :: iRow (.slice f1a fl.length f1c) fl :: (iblk V W ls ++ (pblk V' W' ls' ++ []))) []) := Hid.of (J.out.more2 b9 o1 o2 ap)
        rw [NP.out, NM.out] at J9
        have C9 : Hid (CapOk (.slice s1a PN s1c) ∧ CapOk (.slice f1a M f1c)) := Hid.of ⟨by have := own_cap o1; rw [NP.out] at this; exact this, by have := own_cap o2; rw [NM.out] at this; exact this⟩
        rw [HFN.out, NP.out, NM.out] at ⊢
        clear o1 o2 ap b9 rr J P c0 c1
        obtain ⟨rb, hrb⟩ : ∃ x, w9.heap.size = x := ⟨_, rfl⟩
        obtain ⟨w10, hw10⟩ : ∃ w10, w9.alloc (.cells #[.int .i64 now, .string fn, .slice s1a PN s1c, .slice f1a M f1c] 47) = w10 := ⟨_, rfl⟩
        have b10 : Below w9.heap.size w9 w10 := by rw [← hw10]; exact (Below.refl _ _).alloc (Nat.le_refl _) _
        have J10 : Hid (Here wb.heap.size (wb.heap.size + 1) (bookIP V W V' W') 45 wb w10 (rRow rb now fn (.slice s1a PN s1c) (.slice f1a M f1c) :: pRow (.slice s1a PN s1c) p.2 :: iRow (.slice f1a M f1c) fl :: (iblk V W ls ++ (pblk V' W' ls' ++ []))) []) := Hid.of (J9.out.more b10 (by rw [← hw10, ← hrb]; exact cells_own w9 #[.int .i64 now, .string fn, .slice s1a PN s1c, .slice f1a M f1c] _ 4 rfl))
        have HW := Hid.of hw10
        have HX := Hid.of hrb
        clear hw10 hrb b10 J9
        go_upto_region 10 with fail
        rw [HW.out, HX.out]
        clear HW HX
        have P10 := Hid.of (PB.out.next J10.out.fr)
        have RR10 := Hid.of (rch_of (now := now) (p := p) (fl := fl) (s := .slice s1a PN s1c) (f := .slice f1a M f1c) J10.out HFN.out (by simp) (by simp) C9.out)
        have KR10 := Hid.of (cells_blk (cs := #[.int .i64 now, .string fn, .slice s1a PN s1c, .slice f1a M f1c]) (J10.out.bag.own _ (List.mem_cons_self ..)))
        have hmk := make_any _ _ _ p q (now, p, fl) w10 SP.out SQ.out FT.out P10.out.hp RR10.out P10.out.hq
        obtain ⟨c0, c1⟩ : w10.cell? ⟨Z, 0, none⟩ = some (.string fn) ∧ w10.cell? ⟨Z, 1, none⟩ = some (.slice sa PN sc) := ⟨P10.out.cs.head, P10.out.cs.tail.head⟩
        obtain ⟨c2, c3⟩ : w10.cell? ⟨Z + 1, 0, none⟩ = some (.string tn) ∧ w10.cell? ⟨Z + 1, 1, none⟩ = some (.slice ta QN tc) := ⟨P10.out.cs.tail.tail.head, P10.out.cs.tail.tail.tail.head⟩
        obtain ⟨y0, y1, y2, y3⟩ := RBlk.at' KR10.out
        go_wp2_with fail
        refine hmk.mono ?_
        rintro e w11 ⟨u, rfl, ou, b11⟩
        rw [MK.out.1]
        rw [MK.out.2] at ou
        obtain ⟨ps, pf, rfl, o1, o2, ap⟩ := ou
        obtain ⟨psa, psc, rfl, -⟩ := own_one o1
        obtain ⟨pfa, pfc, rfl, -⟩ := own_one o2
        have J11 : Hid (Here wb.heap.size (wb.heap.size + 1) (bookIP V W V' W') 45 wb w11 (pRow (.slice psa pl.1.2.length psc) pl.1.2 :: iRow (.slice pfa pl.2.length pfc) pl.2 :: rRow rb now fn (.slice s1a PN s1c) (.slice f1a M f1c) :: pRow (.slice s1a PN s1c) p.2 :: iRow (.slice f1a M f1c) fl :: (iblk V W ls ++ (pblk V' W' ls' ++ []))) []) := Hid.of (J10.out.more2 b11 o1 o2 ap)
        rw [LL.out.1, LL.out.2] at J11
        have C11 : Hid (CapOk (.slice psa LN psc) ∧ CapOk (.slice pfa LM pfc)) := Hid.of ⟨by have := own_cap o1; rw [LL.out.1] at this; exact this, by have := own_cap o2; rw [LL.out.2] at this; exact this⟩
        unfold plVal
        obtain ⟨pn, hpn⟩ : ∃ n, pl.1.1 = n := ⟨_, rfl⟩
        rw [hpn, LL.out.1, LL.out.2]
        have HPN := Hid.of hpn
        clear o1 o2 ap b11 hmk P10 RR10 KR10 J10 c0 c1 c2 c3 y0 y1 y2 y3 hpn
        obtain ⟨bl, hbl⟩ : ∃ x, w11.heap.size = x := ⟨_, rfl⟩
        obtain ⟨w12, hw12⟩ : ∃ w12, w11.alloc (.cells #[.string pn, .slice psa LN psc, .slice pfa LM pfc] 49) = w12 := ⟨_, rfl⟩
        have b12 : Below w11.heap.size w11 w12 := by rw [← hw12]; exact (Below.refl _ _).alloc (Nat.le_refl _) _
        have J12 : Hid (Here wb.heap.size (wb.heap.size + 1) (bookIP V W V' W') 45 wb w12 (lRow bl pn (.slice psa LN psc) (.slice pfa LM pfc) :: pRow (.slice psa LN psc) pl.1.2 :: iRow (.slice pfa LM pfc) pl.2 :: rRow rb now fn (.slice s1a PN s1c) (.slice f1a M f1c) :: pRow (.slice s1a PN s1c) p.2 :: iRow (.slice f1a M f1c) fl :: (iblk V W ls ++ (pblk V' W' ls' ++ []))) []) := Hid.of (J11.out.more b12 (by rw [← hw12, ← hbl]; exact cells_own w11 #[.string pn, .slice psa LN psc, .slice pfa LM pfc] _ 3 rfl))
        have HW := Hid.of hw12
        have HX := Hid.of hbl
        clear hw12 hbl b12 J11
        go_upto_region 11 with fail
        rw [HW.out, HX.out]
        clear HW HX
        have KL12 := Hid.of (cells_blk (cs := #[.string pn, .slice psa LN psc, .slice pfa LM pfc]) (J12.out.bag.own _ (List.mem_cons_self ..)))
        obtain ⟨y0, y1, y2⟩ := lblk_at KL12.out
        have J13 : Hid (Here wb.heap.size (wb.heap.size + 1) (bookIP V W V' W') 45 wb w12 (iRow (.slice pfa LM pfc) pl.2 :: (iblk V W ls ++ (lRow bl pn (.slice psa LN psc) (.slice pfa LM pfc) :: pRow (.slice psa LN psc) pl.1.2 :: rRow rb now fn (.slice s1a PN s1c) (.slice f1a M f1c) :: pRow (.slice s1a PN s1c) p.2 :: iRow (.slice f1a M f1c) fl :: (pblk V' W' ls' ++ [])))) []) := Hid.of (J12.out.perm (by
          generalize (lRow bl pn (.slice psa LN psc) (.slice pfa LM pfc) : Row1) = R1
          generalize (pRow (.slice psa LN psc) pl.1.2 : Row1) = R2
          generalize (iRow (.slice pfa LM pfc) pl.2 : Row1) = R3
          generalize (rRow rb now fn (.slice s1a PN s1c) (.slice f1a M f1c) : Row1) = R4
          generalize (pRow (.slice s1a PN s1c) p.2 : Row1) = R5
          generalize (iRow (.slice f1a M f1c) fl : Row1) = R6
          generalize (iblk V W ls) = R7
          generalize (pblk V' W' ls') = R8
          classical
          rw [List.perm_iff_count]
          intro a
          simp only [List.count_append, List.count_cons, List.count_nil]
          omega))
        clear J12
        go_wp2_with fail
        refine (iblk_add wb.heap.size (wb.heap.size + 1) (bookIP V W V' W') V W (.slice pfa LM pfc) ls pl.2 (lRow bl pn (.slice psa LN psc) (.slice pfa LM pfc) :: pRow (.slice psa LN psc) pl.1.2 :: rRow rb now fn (.slice s1a PN s1c) (.slice f1a M f1c) :: pRow (.slice s1a PN s1c) p.2 :: iRow (.slice f1a M f1c) fl :: (pblk V' W' ls' ++ [])) 45 wb _ rfl rfl (by have := LS.out; omega) (by rw [LL.out.2]; have := LM10.out; omega) J13.out).mono ?_
        rintro e w13 ⟨rfl, V2, W2, u2, k13⟩
        have h13 : Here wb.heap.size (wb.heap.size + 1) (bookIP V2 W2 V' W') 45 wb w13 (iblk V2 W2 (ls ++ [(.slice pfa LM pfc, u2, pl.2)]) ++ (lRow bl pn (.slice psa LN psc) (.slice pfa LM pfc) :: pRow (.slice psa LN psc) pl.1.2 :: rRow rb now fn (.slice s1a PN s1c) (.slice f1a M f1c) :: pRow (.slice s1a PN s1c) p.2 :: iRow (.slice f1a M f1c) fl :: (pblk V' W' ls' ++ []))) [] := k13
        have KL13 := Hid.of (cells_blk (cs := #[.string pn, .slice psa LN psc, .slice pfa LM pfc]) (h13.bag.own (lRow bl pn (.slice psa LN psc) (.slice pfa LM pfc)) (by simp)))
        have J14 : Hid (Here wb.heap.size (wb.heap.size + 1) (bookIP V2 W2 V' W') 45 wb w13 (pRow (.slice psa LN psc) pl.1.2 :: (pblk V' W' ls' ++ (lRow bl pn (.slice psa LN psc) (.slice pfa LM pfc) :: rRow rb now fn (.slice s1a PN s1c) (.slice f1a M f1c) :: pRow (.slice s1a PN s1c) p.2 :: iRow (.slice f1a M f1c) fl :: (iblk V2 W2 (ls ++ [(.slice pfa LM pfc, u2, pl.2)]))))) []) := Hid.of (h13.perm (by
          generalize (lRow bl pn (.slice psa LN psc) (.slice pfa LM pfc) : Row1) = R1
          generalize (pRow (.slice psa LN psc) pl.1.2 : Row1) = R2
          generalize (rRow rb now fn (.slice s1a PN s1c) (.slice f1a M f1c) : Row1) = R3
          generalize (pRow (.slice s1a PN s1c) p.2 : Row1) = R4
          generalize (iRow (.slice f1a M f1c) fl : Row1) = R5
          generalize (iblk V2 W2 (ls ++ [(.slice pfa LM pfc, u2, pl.2)])) = R6
          generalize (pblk V' W' ls') = R7
          classical
          rw [List.perm_iff_count]
          intro a
          simp only [List.count_append, List.count_cons, List.count_nil]
          omega))
        clear k13 h13 J13 y0 y1 y2 KL12
        obtain ⟨y0, y1, y2⟩ := lblk_at KL13.out
        go_wp2_with fail
        refine (pblk_add wb.heap.size (wb.heap.size + 1) (bookIP V2 W2 V' W') V' W' (.slice psa LN psc) ls' pl.1.2 (lRow bl pn (.slice psa LN psc) (.slice pfa LM pfc) :: rRow rb now fn (.slice s1a PN s1c) (.slice f1a M f1c) :: pRow (.slice s1a PN s1c) p.2 :: iRow (.slice f1a M f1c) fl :: (iblk V2 W2 (ls ++ [(.slice pfa LM pfc, u2, pl.2)]))) 45 wb _ rfl rfl (by have := LS'.out; omega) (by rw [LL.out.1]; have := LN10.out; omega) J14.out).mono ?_
        rintro e w14 ⟨rfl, V3, W3, u3, k14⟩
        have h14 : Here wb.heap.size (wb.heap.size + 1) (bookIP V2 W2 V3 W3) 45 wb w14 (pblk V3 W3 (ls' ++ [(.slice psa LN psc, u3, pl.1.2)]) ++ (lRow bl pn (.slice psa LN psc) (.slice pfa LM pfc) :: rRow rb now fn (.slice s1a PN s1c) (.slice f1a M f1c) :: pRow (.slice s1a PN s1c) p.2 :: iRow (.slice f1a M f1c) fl :: (iblk V2 W2 (ls ++ [(.slice pfa LM pfc, u2, pl.2)])))) [] := k14
        obtain ⟨RW, hRW⟩ : ∃ RW, pblk V3 W3 (ls' ++ [(.slice psa LN psc, u3, pl.1.2)]) ++ (lRow bl pn (.slice psa LN psc) (.slice pfa LM pfc) :: rRow rb now fn (.slice s1a PN s1c) (.slice f1a M f1c) :: pRow (.slice s1a PN s1c) p.2 :: iRow (.slice f1a M f1c) fl :: (iblk V2 W2 (ls ++ [(.slice pfa LM pfc, u2, pl.2)]))) = RW := ⟨_, rfl⟩
        have Z14 : Hid (PW Z xb qb fn tn (.slice sa PN sc) (.slice ta QN tc) (.slice ga M gc) now qn (.slice qsa LN qsc) (.slice qfa LM qfc) p q fl pl rb bl fn pn (.slice s1a PN s1c) (.slice f1a M f1c) (.slice psa LN psc) (.slice pfa LM pfc) w (bookIP V2 W2 V3 W3) RW wb w14) := Hid.of (by
          rw [← hRW]
          exact PW.of PB.out h14 (by simp) (by simp) (by simp) (by simp) (fun r hr => List.mem_append_right _ (List.mem_cons_of_mem _ (List.mem_cons_of_mem _ (List.mem_cons_of_mem _ (List.mem_cons_of_mem _ hr))))) (u2 := u2) (by simp) (fun r hr => List.mem_append_left _ hr) (u3 := u3) (by simp) HFN.out HPN.out C9.out C11.out)
        have HRW := Hid.of hRW
        have D14 := Hid.of Z14.out.d13
        clear k14 h14 J14 hRW y0 y1 y2 KL13
        go_upto_region 13 with fail
        have bd := (Below.refl w14.heap.size w14).drew
        have ZD := Hid.of (Z14.out.next bd)
        have DD := Hid.of (D14.out.next bd)
        clear bd Z14
        have d0 := (D14.out).head
        have d1 := ((D14.out).tail).head
        have d2 := (((D14.out).tail).tail).head
        have d3 := ((((D14.out).tail).tail).tail).head
        have d4 := (((((D14.out).tail).tail).tail).tail).head
        have d5 := ((((((D14.out).tail).tail).tail).tail).tail).head
        refine wp_region_noPanic ?_
        refine wp_region_held_drew (S := fun w' => w'.cell? ⟨bl, 0, none⟩ = some (.string pn) ∧ w'.cell? ⟨bl, 1, none⟩ = some (.slice psa LN psc) ∧ w'.cell? ⟨bl, 2, none⟩ = some (.slice pfa LM pfc) ∧ w'.cell? ⟨qb, 0, none⟩ = some (.string qn) ∧ w'.cell? ⟨qb, 1, none⟩ = some (.slice qsa LN qsc) ∧ w'.cell? ⟨qb, 2, none⟩ = some (.slice qfa LM qfc)) (by kernel_rfl) ?_ (fun hHeld => ?_)
        · exact ⟨d0, d1, d2, d3, d4, d5⟩
        refine wpAnyH_take (i := 0) (oi := ⟨_, _, _, _, _, _⟩) (v := ?_) rfl (by kernel_rfl) (by kernel_rfl) (by kernel_rfl) (fun _ _ _ h => h) (Or.inl ⟨by rfl, ?_⟩) hHeld ?_
        rotate_left
        · intro w' hSw
          try dsimp only at hSw
          go_simp
          all_goals with_reducible rfl
        simp only [Act.put, List.setIfInBounds_toArray, List.set_cons_zero, List.set_cons_succ]
        refine wpAnyH_take (i := 1) (oi := ⟨_, _, _, _, _, _⟩) (v := ?_) rfl (by kernel_rfl) (by kernel_rfl) (by kernel_rfl) (fun _ _ _ h => h) (Or.inl ⟨by rfl, ?_⟩) hHeld ?_
        rotate_left
        · intro w' hSw
          try dsimp only at hSw
          go_simp
          all_goals with_reducible rfl
        simp only [Act.put, List.setIfInBounds_toArray, List.set_cons_zero, List.set_cons_succ]
        refine wpAnyH_take (i := 2) (oi := ⟨_, _, _, _, _, _⟩) (v := ?_) rfl (by kernel_rfl) (by kernel_rfl) (by kernel_rfl) (fun _ _ _ h => h) (Or.inl ⟨by rfl, ?_⟩) hHeld ?_
        rotate_left
        · intro w' hSw
          try dsimp only at hSw
          go_simp
          all_goals with_reducible rfl
        simp only [Act.put, List.setIfInBounds_toArray, List.set_cons_zero, List.set_cons_succ]
        refine wpAnyH_take (i := 3) (oi := ⟨_, _, _, _, _, _⟩) (v := ?_) rfl (by kernel_rfl) (by kernel_rfl) (by kernel_rfl) (fun _ _ _ h => h) (Or.inl ⟨by rfl, ?_⟩) hHeld ?_
        rotate_left
        · intro w' hSw
          try dsimp only at hSw
          go_simp
          all_goals with_reducible rfl
        simp only [Act.put, List.setIfInBounds_toArray, List.set_cons_zero, List.set_cons_succ]
        refine wpAnyH_take (i := 4) (oi := ⟨_, _, _, _, _, _⟩) (v := ?_) rfl (by kernel_rfl) (by kernel_rfl) (by kernel_rfl) (fun _ _ _ h => h) (Or.inl ⟨by rfl, ?_⟩) hHeld ?_
        rotate_left
        · intro w' hSw
          try dsimp only at hSw
          go_simp
          all_goals with_reducible rfl
        simp only [Act.put, List.setIfInBounds_toArray, List.set_cons_zero, List.set_cons_succ]
        refine wpAnyH_take (i := 5) (oi := ⟨_, _, _, _, _, _⟩) (v := ?_) rfl (by kernel_rfl) (by kernel_rfl) (by kernel_rfl) (fun _ _ _ h => h) (Or.inl ⟨by rfl, ?_⟩) hHeld ?_
        rotate_left
        · intro w' hSw
          try dsimp only at hSw
          go_simp
          all_goals with_reducible rfl
        simp only [Act.put, List.setIfInBounds_toArray, List.set_cons_zero, List.set_cons_succ]
        refine wpAnyH_take (i := 6) (oi := ⟨_, _, _, _, _, _⟩) (v := ?_) rfl (by kernel_rfl) (by kernel_rfl) (by kernel_rfl) (fun _ _ _ h => h) (Or.inl ⟨by rfl, ?_⟩) hHeld ?_
        rotate_left
        · intro w' hSw
          try dsimp only at hSw
          go_simp
          all_goals with_reducible rfl
        simp only [Act.put, List.setIfInBounds_toArray, List.set_cons_zero, List.set_cons_succ]
        refine wpAnyH_take (i := 7) (oi := ⟨_, _, _, _, _, _⟩) (v := ?_) rfl (by kernel_rfl) (by kernel_rfl) (by kernel_rfl) (fun _ _ _ h => h) (Or.inl ⟨by rfl, ?_⟩) hHeld ?_
        rotate_left
        · intro w' hSw
          try dsimp only at hSw
          go_simp
          all_goals with_reducible rfl
        simp only [Act.put, List.setIfInBounds_toArray, List.set_cons_zero, List.set_cons_succ]
        refine wpAnyH_ready (rs := [8]) (by kernel_rfl) (by simp) ?_
        refine AllReadyH.cons (o := ⟨_, _, _, _, _, _⟩) rfl (fun K hK => ?_) AllReadyH.nil
        clear D14
        go_simp
        refine (SameInts_any _ _ pl.2 _ (plan_rows ZD.out.lr).1 (plan_rows ZD.out.pe.hl).1 (by rw [LL.out.2]; have := LM10.out; omega)).mono ?_
        rintro e wx2 ⟨rfl, bx⟩
        have Z2 := Hid.of (ZD.out.next bx)
        have D2 := Hid.of (DD.out.next bx)
        clear bx ZD DD
        clear hHeld d0 d1 d2 d3 d4 d5
        have d0 := (D2.out).head
        have d1 := ((D2.out).tail).head
        have d2 := (((D2.out).tail).tail).head
        have d3 := ((((D2.out).tail).tail).tail).head
        have d4 := (((((D2.out).tail).tail).tail).tail).head
        have d5 := ((((((D2.out).tail).tail).tail).tail).tail).head
        refine hK.out _ _ ⟨d0, d1, d2, d3, d4, d5⟩ (fun hHeld => ?_)
        clear hK K
        try simp only [Act.put, List.setIfInBounds_toArray, List.set_cons_zero, List.set_cons_succ]
        refine wpAnyH_take (i := 9) (oi := ⟨_, _, _, _, _, _⟩) (v := ?_) rfl (by kernel_rfl) (by kernel_rfl) (by kernel_rfl) (fun _ _ _ h => h) (Or.inl ⟨by rfl, ?_⟩) hHeld ?_
        rotate_left
        · intro w' hSw
          try dsimp only at hSw
          go_simp
          all_goals with_reducible rfl
        simp only [Act.put, List.setIfInBounds_toArray, List.set_cons_zero, List.set_cons_succ]
        refine wpAnyH_take (i := 10) (oi := ⟨_, _, _, _, _, _⟩) (v := ?_) rfl (by kernel_rfl) (by kernel_rfl) (by kernel_rfl) (fun _ _ _ h => h) (Or.inl ⟨by rfl, ?_⟩) hHeld ?_
        rotate_left
        · intro w' hSw
          try dsimp only at hSw
          go_simp
          all_goals with_reducible rfl
        simp only [Act.put, List.setIfInBounds_toArray, List.set_cons_zero, List.set_cons_succ]
        refine wpAnyH_take (i := 11) (oi := ⟨_, _, _, _, _, _⟩) (v := ?_) rfl (by kernel_rfl) (by kernel_rfl) (by kernel_rfl) (fun _ _ _ h => h) (Or.inl ⟨by rfl, ?_⟩) hHeld ?_
        rotate_left
        · intro w' hSw
          try dsimp only at hSw
          go_simp
          all_goals with_reducible rfl
        simp only [Act.put, List.setIfInBounds_toArray, List.set_cons_zero, List.set_cons_succ]
        refine wpAnyH_take (i := 12) (oi := ⟨_, _, _, _, _, _⟩) (v := ?_) rfl (by kernel_rfl) (by kernel_rfl) (by kernel_rfl) (fun _ _ _ h => h) (Or.inl ⟨by rfl, ?_⟩) hHeld ?_
        rotate_left
        · intro w' hSw
          try dsimp only at hSw
          go_simp
          all_goals with_reducible rfl
        simp only [Act.put, List.setIfInBounds_toArray, List.set_cons_zero, List.set_cons_succ]
        refine wpAnyH_take (i := 13) (oi := ⟨_, _, _, _, _, _⟩) (v := ?_) rfl (by kernel_rfl) (by kernel_rfl) (by kernel_rfl) (fun _ _ _ h => h) (Or.inl ⟨by rfl, ?_⟩) hHeld ?_
        rotate_left
        · intro w' hSw
          try dsimp only at hSw
          go_simp
          all_goals with_reducible rfl
        simp only [Act.put, List.setIfInBounds_toArray, List.set_cons_zero, List.set_cons_succ]
        refine wpAnyH_take (i := 14) (oi := ⟨_, _, _, _, _, _⟩) (v := ?_) rfl (by kernel_rfl) (by kernel_rfl) (by kernel_rfl) (fun _ _ _ h => h) (Or.inl ⟨by rfl, ?_⟩) hHeld ?_
        rotate_left
        · intro w' hSw
          try dsimp only at hSw
          go_simp
          all_goals with_reducible rfl
        simp only [Act.put, List.setIfInBounds_toArray, List.set_cons_zero, List.set_cons_succ]
        refine wpAnyH_take (i := 15) (oi := ⟨_, _, _, _, _, _⟩) (v := ?_) rfl (by kernel_rfl) (by kernel_rfl) (by kernel_rfl) (fun _ _ _ h => h) (Or.inl ⟨by rfl, ?_⟩) hHeld ?_
        rotate_left
        · intro w' hSw
          try dsimp only at hSw
          go_simp
          all_goals with_reducible rfl
        simp only [Act.put, List.setIfInBounds_toArray, List.set_cons_zero, List.set_cons_succ]
        refine wpAnyH_ready (rs := [16]) (by kernel_rfl) (by simp) ?_
        refine AllReadyH.cons (o := ⟨_, _, _, _, _, _⟩) rfl (fun K hK => ?_) AllReadyH.nil
        go_simp
        refine (refSame_any _ _ pl.1 pl.1 _ (plan_rows Z2.out.lr).2 (plan_rows Z2.out.pe.hl).2 (by rw [LL.out.1]; have := LN10.out; omega) (by rw [LL.out.1]; have := LN10.out; omega)).mono ?_
        rintro e wx3 ⟨rfl, bx⟩
        rw [show pSame pl.1 pl.1 = true from decide_eq_true rfl]
        have Z3 := Hid.of (Z2.out.next bx)
        have D3 := Hid.of (D2.out.next bx)
        clear bx Z2 D2
        clear hHeld d0 d1 d2 d3 d4 d5
        have d0 := (D3.out).head
        have d1 := ((D3.out).tail).head
        have d2 := (((D3.out).tail).tail).head
        have d3 := ((((D3.out).tail).tail).tail).head
        have d4 := (((((D3.out).tail).tail).tail).tail).head
        have d5 := ((((((D3.out).tail).tail).tail).tail).tail).head
        refine hK.out _ _ ⟨d0, d1, d2, d3, d4, d5⟩ (fun hHeld => ?_)
        clear hK K
        try simp only [Act.put, List.setIfInBounds_toArray, List.set_cons_zero, List.set_cons_succ]
        refine wpAnyH_take (i := 17) (oi := ⟨_, _, _, _, _, _⟩) (v := ?_) rfl (by kernel_rfl) (by kernel_rfl) (by kernel_rfl) (fun _ _ _ h => h) (Or.inl ⟨by rfl, ?_⟩) hHeld ?_
        rotate_left
        · intro w' hSw
          try dsimp only at hSw
          go_simp
          all_goals with_reducible rfl
        simp only [Act.put, List.setIfInBounds_toArray, List.set_cons_zero, List.set_cons_succ]
        refine wpAnyH_take (i := 18) (oi := ⟨_, _, _, _, _, _⟩) (v := ?_) rfl (by kernel_rfl) (by kernel_rfl) (by kernel_rfl) (fun _ _ _ h => h) (Or.inl ⟨by rfl, ?_⟩) hHeld ?_
        rotate_left
        · intro w' hSw
          try dsimp only at hSw
          go_simp
          all_goals with_reducible rfl
        simp only [Act.put, List.setIfInBounds_toArray, List.set_cons_zero, List.set_cons_succ]
        refine wpAnyH_take (i := 19) (oi := ⟨_, _, _, _, _, _⟩) (v := ?_) rfl (by kernel_rfl) (by kernel_rfl) (by kernel_rfl) (fun _ _ _ h => h) (Or.inl ⟨by rfl, ?_⟩) hHeld ?_
        rotate_left
        · intro w' hSw
          try dsimp only at hSw
          go_simp
          all_goals with_reducible rfl
        simp only [Act.put, List.setIfInBounds_toArray, List.set_cons_zero, List.set_cons_succ]
        refine wpAnyH_take (i := 20) (oi := ⟨_, _, _, _, _, _⟩) (v := ?_) rfl (by kernel_rfl) (by kernel_rfl) (by kernel_rfl) (fun _ _ _ h => h) (Or.inl ⟨by rfl, ?_⟩) hHeld ?_
        rotate_left
        · intro w' hSw
          try dsimp only at hSw
          go_simp
          all_goals with_reducible rfl
        simp only [Act.put, List.setIfInBounds_toArray, List.set_cons_zero, List.set_cons_succ]
        refine wpAnyH_take (i := 22) (oi := ⟨_, _, _, _, _, _⟩) (v := ?_) rfl (by kernel_rfl) (by kernel_rfl) (by kernel_rfl) (fun _ _ _ h => h) (Or.inl ⟨by rfl, ?_⟩) hHeld ?_
        rotate_left
        · intro w' hSw
          try dsimp only at hSw
          go_simp
          all_goals with_reducible rfl
        simp only [Act.put, List.setIfInBounds_toArray, List.set_cons_zero, List.set_cons_succ]
        refine wpAnyH_ready (rs := [21]) (by kernel_rfl) (by simp) ?_
        refine AllReadyH.cons (o := ⟨_, _, _, _, _, _⟩) rfl (fun K hK => ?_) AllReadyH.nil
        go_simp
        refine (steps_any _ pl _ Z3.out.lr FM.out).mono ?_
        rintro e wx4 ⟨rfl, bx⟩
        have Z4 := Hid.of (Z3.out.next bx)
        have D4 := Hid.of (D3.out.next bx)
        clear bx Z3 D3
        clear hHeld d0 d1 d2 d3 d4 d5
        have d0 := (D4.out).head
        have d1 := ((D4.out).tail).head
        have d2 := (((D4.out).tail).tail).head
        have d3 := ((((D4.out).tail).tail).tail).head
        have d4 := (((((D4.out).tail).tail).tail).tail).head
        have d5 := ((((((D4.out).tail).tail).tail).tail).tail).head
        refine hK.out _ _ ⟨d0, d1, d2, d3, d4, d5⟩ (fun hHeld => ?_)
        clear hK K
        try simp only [Act.put, List.setIfInBounds_toArray, List.set_cons_zero, List.set_cons_succ]
        refine wpAnyH_ready (rs := [23]) (by kernel_rfl) (by simp) ?_
        refine AllReadyH.cons (o := ⟨_, _, _, _, _, _⟩) rfl (fun K hK => ?_) AllReadyH.nil
        go_simp
        refine (refSteps_any _ pl _ Z4.out.pe.hl M13.out).mono ?_
        rintro e wx5 ⟨rfl, bx⟩
        have Z5 := Hid.of (Z4.out.next bx)
        have D5 := Hid.of (D4.out.next bx)
        clear bx Z4 D4
        clear hHeld d0 d1 d2 d3 d4 d5
        have d0 := (D5.out).head
        have d1 := ((D5.out).tail).head
        have d2 := (((D5.out).tail).tail).head
        have d3 := ((((D5.out).tail).tail).tail).head
        have d4 := (((((D5.out).tail).tail).tail).tail).head
        have d5 := ((((((D5.out).tail).tail).tail).tail).tail).head
        refine hK.out _ _ ⟨d0, d1, d2, d3, d4, d5⟩ (fun hHeld => ?_)
        clear hK K
        try simp only [Act.put, List.setIfInBounds_toArray, List.set_cons_zero, List.set_cons_succ]
        refine wpAnyH_take (i := 24) (oi := ⟨_, _, _, _, _, _⟩) (v := ?_) rfl (by kernel_rfl) (by kernel_rfl) (by kernel_rfl) (fun _ _ _ h => h) (Or.inl ⟨by rfl, ?_⟩) hHeld ?_
        rotate_left
        · intro w' hSw
          try dsimp only at hSw
          go_simp
          all_goals with_reducible rfl
        simp only [Act.put, List.setIfInBounds_toArray, List.set_cons_zero, List.set_cons_succ]
        refine wpAnyH_take (i := 25) (oi := ⟨_, _, _, _, _, _⟩) (v := ?_) rfl (by kernel_rfl) (by kernel_rfl) (by kernel_rfl) (fun _ _ _ h => h) (Or.inl ⟨by rfl, ?_⟩) hHeld ?_
        rotate_left
        · intro w' hSw
          try dsimp only at hSw
          go_simp
          all_goals with_reducible rfl
        simp only [Act.put, List.setIfInBounds_toArray, List.set_cons_zero, List.set_cons_succ]
        refine wpAnyH_done (by kernel_rfl) ?_ _
        refine NoPanic.normal ?_
        clear hHeld d0 d1 d2 d3 d4 d5
        have D5b := D5
        clear D5 D5b
        obtain ⟨l0, l1, l2⟩ := Z5.out.lat
        obtain ⟨y0, y1, y2, y3⟩ := Z5.out.rat
        go_wp2_with fail
        refine (bases_any _ _ pl (now, p, fl) _ FM.out FT.out Z5.out.lr Z5.out.rr).mono ?_
        rintro e w15 ⟨av, rfl, oa, b15⟩
        obtain ⟨aa, ac, rfl, -⟩ := own_one oa
        have h15 := Z5.out.bk.more b15 oa
        have hRW := HRW.out
        subst hRW
        clear HRW
        rw [BNL.out]
        have J15 : Hid (Here wb.heap.size (wb.heap.size + 1) (bookIP V2 W2 V3 W3) 45 wb w15 (iRow (.slice aa (mBases pl (now, p, fl)).length ac) (mBases pl (now, p, fl)) :: (iblk V2 W2 (ls ++ [(.slice pfa LM pfc, u2, pl.2)]) ++ (pblk V3 W3 (ls' ++ [(.slice psa LN psc, u3, pl.1.2)]) ++ [lRow bl pn (.slice psa LN psc) (.slice pfa LM pfc), rRow rb now fn (.slice s1a PN s1c) (.slice f1a M f1c), pRow (.slice s1a PN s1c) p.2, iRow (.slice f1a M f1c) fl]))) []) := Hid.of ((show Here wb.heap.size (wb.heap.size + 1) (bookIP V2 W2 V3 W3) 45 wb w15 (iRow (.slice aa (mBases pl (now, p, fl)).length ac) (mBases pl (now, p, fl)) :: (pblk V3 W3 (ls' ++ [(.slice psa LN psc, u3, pl.1.2)]) ++ (lRow bl pn (.slice psa LN psc) (.slice pfa LM pfc) :: rRow rb now fn (.slice s1a PN s1c) (.slice f1a M f1c) :: pRow (.slice s1a PN s1c) p.2 :: iRow (.slice f1a M f1c) fl :: (iblk V2 W2 (ls ++ [(.slice pfa LM pfc, u2, pl.2)]))))) [] from h15).perm (by
          generalize (iRow (.slice aa (mBases pl (now, p, fl)).length ac) (mBases pl (now, p, fl)) : Row1) = R1
          generalize (lRow bl pn (.slice psa LN psc) (.slice pfa LM pfc) : Row1) = R2
          generalize (rRow rb now fn (.slice s1a PN s1c) (.slice f1a M f1c) : Row1) = R3
          generalize (pRow (.slice s1a PN s1c) p.2 : Row1) = R4
          generalize (iRow (.slice f1a M f1c) fl : Row1) = R5
          generalize (iblk V2 W2 (ls ++ [(.slice pfa LM pfc, u2, pl.2)])) = R6
          generalize (pblk V3 W3 (ls' ++ [(.slice psa LN psc, u3, pl.1.2)])) = R7
          classical
          rw [List.perm_iff_count]
          intro a
          simp only [List.count_append, List.count_cons, List.count_nil]
          omega))
        rw [BNL.out] at J15
        clear oa b15 h15 Z5 l0 l1 l2 y0 y1 y2 y3
        go_wp2_with fail
        refine (iblk_add wb.heap.size (wb.heap.size + 1) (bookIP V2 W2 V3 W3) V2 W2 (.slice aa BN ac) (ls ++ [(.slice pfa LM pfc, u2, pl.2)]) (mBases pl (now, p, fl)) (pblk V3 W3 (ls' ++ [(.slice psa LN psc, u3, pl.1.2)]) ++ [lRow bl pn (.slice psa LN psc) (.slice pfa LM pfc), rRow rb now fn (.slice s1a PN s1c) (.slice f1a M f1c), pRow (.slice s1a PN s1c) p.2, iRow (.slice f1a M f1c) fl]) 45 wb _ rfl rfl (by rw [List.length_append, List.length_singleton]; have := LS.out; omega) (by rw [BNL.out]; have := BL.out; have := LN10.out; omega) J15.out).mono ?_
        rintro e w16 ⟨rfl, V4, W4, u4, k16⟩
        have h16 : Here wb.heap.size (wb.heap.size + 1) (bookIP V4 W4 V3 W3) 45 wb w16 (iblk V4 W4 (ls ++ [(.slice pfa LM pfc, u2, pl.2)] ++ [(.slice aa BN ac, u4, mBases pl (now, p, fl))]) ++ (pblk V3 W3 (ls' ++ [(.slice psa LN psc, u3, pl.1.2)]) ++ [lRow bl pn (.slice psa LN psc) (.slice pfa LM pfc), rRow rb now fn (.slice s1a PN s1c) (.slice f1a M f1c), pRow (.slice s1a PN s1c) p.2, iRow (.slice f1a M f1c) fl])) [] := k16
        obtain ⟨RW, hRW⟩ : ∃ RW, iblk V4 W4 (ls ++ [(.slice pfa LM pfc, u2, pl.2)] ++ [(.slice aa BN ac, u4, mBases pl (now, p, fl))]) ++ (pblk V3 W3 (ls' ++ [(.slice psa LN psc, u3, pl.1.2)]) ++ [lRow bl pn (.slice psa LN psc) (.slice pfa LM pfc), rRow rb now fn (.slice s1a PN s1c) (.slice f1a M f1c), pRow (.slice s1a PN s1c) p.2, iRow (.slice f1a M f1c) fl]) = RW := ⟨_, rfl⟩
        have Z16 : Hid (PW Z xb qb fn tn (.slice sa PN sc) (.slice ta QN tc) (.slice ga M gc) now qn (.slice qsa LN qsc) (.slice qfa LM qfc) p q fl pl rb bl fn pn (.slice s1a PN s1c) (.slice f1a M f1c) (.slice psa LN psc) (.slice pfa LM pfc) w (bookIP V4 W4 V3 W3) RW wb w16) := Hid.of (by
          rw [← hRW]
          exact PW.of PB.out h16 (by simp) (by simp) (by simp) (by simp) (fun r hr => List.mem_append_left _ hr) (u2 := u2) (by simp) (fun r hr => List.mem_append_right _ (List.mem_append_left _ hr)) (u3 := u3) (by simp) HFN.out HPN.out C9.out C11.out)
        have HAM : Hid (∀ r ∈ iblk V4 W4 (ls ++ [(.slice pfa LM pfc, u2, pl.2)] ++ [(.slice aa BN ac, u4, mBases pl (now, p, fl))]), r ∈ RW) := Hid.of (fun r hr => by rw [← hRW]; exact List.mem_append_left _ hr)
        have HRW := Hid.of hRW
        clear k16 h16 J15 hRW
        obtain ⟨l0, l1, l2⟩ := Z16.out.lat
        go_wp2_with fail
        refine (at_any _ pl k _ Z16.out.lr FM.out HK.out).mono ?_
        rintro e w17 ⟨rfl, b17⟩
        rw [AT.out]
        unfold atVal
        simp only
        have Z17 := Hid.of (Z16.out.next b17)
        clear b17 Z16 l0 l1 l2
        obtain ⟨sb, hsb⟩ : ∃ x, w17.heap.size = x := ⟨_, rfl⟩
        obtain ⟨w18, hw18⟩ : ∃ x, w17.alloc (.cells #[.int .i64 kd, .int .i64 tr, .int .i64 sh] 59) = x := ⟨_, rfl⟩
        have b18 : Below w17.heap.size w17 w18 := by rw [← hw18]; exact (Below.refl _ _).alloc (Nat.le_refl _) _
        have V18 : Hid (SBlk w18 sb kd tr sh) := Hid.of (by rw [← hw18, ← hsb]; exact (MapKept.heap_alloc w17 _).1)
        have Z18 := Hid.of (Z17.out.next b18)
        have HW := Hid.of hw18
        have HX := Hid.of hsb
        clear b18 Z17 hw18 hsb
        go_upto_region 18 with fail
        rw [HW.out, HX.out]
        clear HW HX
        obtain ⟨q0, q1, q2⟩ := Z18.out.qat
        go_wp2_with fail
        refine (refAt_any _ pl k _ Z18.out.pe.hl M13.out).mono ?_
        rintro e w19 ⟨rfl, b19⟩
        rw [AT.out]
        unfold refAtVal
        simp only
        have V19 := Hid.of (sblk_next V18.out b19)
        have Z19 := Hid.of (Z18.out.next b19)
        have D19 := Hid.of (PW.d19 Z19.out V19.out)
        clear b19 Z18 V18 V19 q0 q1 q2
        go_upto_region 19 with fail
        have bd := (Below.refl w19.heap.size w19).drew
        have ZD := Hid.of (Z19.out.next bd)
        have DD := Hid.of (D19.out.next bd)
        clear bd Z19
        have d0 := (D19.out).head
        have d1 := ((D19.out).tail).head
        have d2 := (((D19.out).tail).tail).head
        have d3 := ((((D19.out).tail).tail).tail).head
        have d4 := (((((D19.out).tail).tail).tail).tail).head
        have d5 := ((((((D19.out).tail).tail).tail).tail).tail).head
        have d6 := (((((((D19.out).tail).tail).tail).tail).tail).tail).head
        have d7 := ((((((((D19.out).tail).tail).tail).tail).tail).tail).tail).head
        have d8 := (((((((((D19.out).tail).tail).tail).tail).tail).tail).tail).tail).head
        have d9 := ((((((((((D19.out).tail).tail).tail).tail).tail).tail).tail).tail).tail).head
        have d10 := (((((((((((D19.out).tail).tail).tail).tail).tail).tail).tail).tail).tail).tail).head
        have d11 := ((((((((((((D19.out).tail).tail).tail).tail).tail).tail).tail).tail).tail).tail).tail).head
        have d12 := (((((((((((((D19.out).tail).tail).tail).tail).tail).tail).tail).tail).tail).tail).tail).tail).head
        refine wp_region_noPanic ?_
        refine wp_region_held_drew (S := fun w' => w'.cell? ⟨bl, 0, none⟩ = some (.string pn) ∧ w'.cell? ⟨bl, 1, none⟩ = some (.slice psa LN psc) ∧ w'.cell? ⟨bl, 2, none⟩ = some (.slice pfa LM pfc) ∧ w'.cell? ⟨qb, 0, none⟩ = some (.string qn) ∧ w'.cell? ⟨qb, 1, none⟩ = some (.slice qsa LN qsc) ∧ w'.cell? ⟨qb, 2, none⟩ = some (.slice qfa LM qfc) ∧ w'.cell? ⟨xb, 0, none⟩ = some (.int .i64 now) ∧ w'.cell? ⟨xb, 1, none⟩ = some (.string fn) ∧ w'.cell? ⟨xb, 2, none⟩ = some (.slice sa PN sc) ∧ w'.cell? ⟨xb, 3, none⟩ = some (.slice ga M gc) ∧ w'.cell? ⟨sb, 0, none⟩ = some (.int .i64 kd) ∧ w'.cell? ⟨sb, 1, none⟩ = some (.int .i64 tr) ∧ w'.cell? ⟨sb, 2, none⟩ = some (.int .i64 sh)) (by kernel_rfl) ?_ (fun hHeld => ?_)
        · exact ⟨d0, d1, d2, d3, d4, d5, d6, d7, d8, d9, d10, d11, d12⟩
        refine wpAnyH_take (i := 0) (oi := ⟨_, _, _, _, _, _⟩) (v := ?_) rfl (by kernel_rfl) (by kernel_rfl) (by kernel_rfl) (fun _ _ _ h => h) (Or.inl ⟨by rfl, ?_⟩) hHeld ?_
        rotate_left
        · intro w' hSw
          try dsimp only at hSw
          go_simp
          all_goals with_reducible rfl
        simp only [Act.put, List.setIfInBounds_toArray, List.set_cons_zero, List.set_cons_succ]
        refine wpAnyH_take (i := 1) (oi := ⟨_, _, _, _, _, _⟩) (v := ?_) rfl (by kernel_rfl) (by kernel_rfl) (by kernel_rfl) (fun _ _ _ h => h) (Or.inl ⟨by rfl, ?_⟩) hHeld ?_
        rotate_left
        · intro w' hSw
          try dsimp only at hSw
          go_simp
          all_goals with_reducible rfl
        simp only [Act.put, List.setIfInBounds_toArray, List.set_cons_zero, List.set_cons_succ]
        refine wpAnyH_take (i := 2) (oi := ⟨_, _, _, _, _, _⟩) (v := ?_) rfl (by kernel_rfl) (by kernel_rfl) (by kernel_rfl) (fun _ _ _ h => h) (Or.inl ⟨by rfl, ?_⟩) hHeld ?_
        rotate_left
        · intro w' hSw
          try dsimp only at hSw
          go_simp
          all_goals with_reducible rfl
        simp only [Act.put, List.setIfInBounds_toArray, List.set_cons_zero, List.set_cons_succ]
        refine wpAnyH_ready (rs := [3]) (by kernel_rfl) (by simp) ?_
        refine AllReadyH.cons (o := ⟨_, _, _, _, _, _⟩) rfl (fun K hK => ?_) AllReadyH.nil
        clear D19
        go_simp
        refine (refBases_any _ _ pl (now, p, fl) _ FM.out SL.out FT.out ZD.out.pe.hl ZD.out.pe.hx).mono ?_
        rintro e wx2 ⟨bv, rfl, ob, bx⟩
        obtain ⟨ba, bc, rfl, -⟩ := own_one ob
        have OB := Hid.of (own_row ob)
        rw [BNL.out] at OB ⊢
        clear ob
        have Z2 := Hid.of (ZD.out.next bx)
        have D2 := Hid.of (DD.out.next bx)
        clear bx ZD DD
        clear hHeld d0 d1 d2 d3 d4 d5 d6 d7 d8 d9 d10 d11 d12
        have d0 := (D2.out).head
        have d1 := ((D2.out).tail).head
        have d2 := (((D2.out).tail).tail).head
        have d3 := ((((D2.out).tail).tail).tail).head
        have d4 := (((((D2.out).tail).tail).tail).tail).head
        have d5 := ((((((D2.out).tail).tail).tail).tail).tail).head
        have d6 := (((((((D2.out).tail).tail).tail).tail).tail).tail).head
        have d7 := ((((((((D2.out).tail).tail).tail).tail).tail).tail).tail).head
        have d8 := (((((((((D2.out).tail).tail).tail).tail).tail).tail).tail).tail).head
        have d9 := ((((((((((D2.out).tail).tail).tail).tail).tail).tail).tail).tail).tail).head
        have d10 := (((((((((((D2.out).tail).tail).tail).tail).tail).tail).tail).tail).tail).tail).head
        have d11 := ((((((((((((D2.out).tail).tail).tail).tail).tail).tail).tail).tail).tail).tail).tail).head
        have d12 := (((((((((((((D2.out).tail).tail).tail).tail).tail).tail).tail).tail).tail).tail).tail).tail).head
        refine hK.out _ _ ⟨d0, d1, d2, d3, d4, d5, d6, d7, d8, d9, d10, d11, d12⟩ (fun hHeld => ?_)
        clear hK K
        try simp only [Act.put, List.setIfInBounds_toArray, List.set_cons_zero, List.set_cons_succ]
        refine wpAnyH_ready (rs := [4]) (by kernel_rfl) (by simp) ?_
        refine AllReadyH.cons (o := ⟨_, _, _, _, _, _⟩) rfl (fun K hK => ?_) AllReadyH.nil
        go_simp
        refine (SameInts_any _ _ (mBases pl (now, p, fl)) _ (by have h := iblk_has Z2.out.bk HAM.out (.slice aa BN ac, u4, mBases pl (now, p, fl)) (by simp); exact h) (by rw [BNL.out]; exact OB.out) (by rw [BNL.out]; have := LN10.out; have := BL.out; omega)).mono ?_
        rintro e wx3 ⟨rfl, bx⟩
        have Z3 := Hid.of (Z2.out.next bx)
        have D3 := Hid.of (D2.out.next bx)
        clear bx Z2 D2
        clear hHeld d0 d1 d2 d3 d4 d5 d6 d7 d8 d9 d10 d11 d12
        have d0 := (D3.out).head
        have d1 := ((D3.out).tail).head
        have d2 := (((D3.out).tail).tail).head
        have d3 := ((((D3.out).tail).tail).tail).head
        have d4 := (((((D3.out).tail).tail).tail).tail).head
        have d5 := ((((((D3.out).tail).tail).tail).tail).tail).head
        have d6 := (((((((D3.out).tail).tail).tail).tail).tail).tail).head
        have d7 := ((((((((D3.out).tail).tail).tail).tail).tail).tail).tail).head
        have d8 := (((((((((D3.out).tail).tail).tail).tail).tail).tail).tail).tail).head
        have d9 := ((((((((((D3.out).tail).tail).tail).tail).tail).tail).tail).tail).tail).head
        have d10 := (((((((((((D3.out).tail).tail).tail).tail).tail).tail).tail).tail).tail).tail).head
        have d11 := ((((((((((((D3.out).tail).tail).tail).tail).tail).tail).tail).tail).tail).tail).tail).head
        have d12 := (((((((((((((D3.out).tail).tail).tail).tail).tail).tail).tail).tail).tail).tail).tail).tail).head
        refine hK.out _ _ ⟨d0, d1, d2, d3, d4, d5, d6, d7, d8, d9, d10, d11, d12⟩ (fun hHeld => ?_)
        clear hK K
        try simp only [Act.put, List.setIfInBounds_toArray, List.set_cons_zero, List.set_cons_succ]
        refine wpAnyH_take (i := 5) (oi := ⟨_, _, _, _, _, _⟩) (v := ?_) rfl (by kernel_rfl) (by kernel_rfl) (by kernel_rfl) (fun _ _ _ h => h) (Or.inl ⟨by rfl, ?_⟩) hHeld ?_
        rotate_left
        · intro w' hSw
          try dsimp only at hSw
          go_simp
          all_goals with_reducible rfl
        simp only [Act.put, List.setIfInBounds_toArray, List.set_cons_zero, List.set_cons_succ]
        refine wpAnyH_take (i := 6) (oi := ⟨_, _, _, _, _, _⟩) (v := ?_) rfl (by kernel_rfl) (by kernel_rfl) (by kernel_rfl) (fun _ _ _ h => h) (Or.inl ⟨by rfl, ?_⟩) hHeld ?_
        rotate_left
        · intro w' hSw
          try dsimp only at hSw
          go_simp
          all_goals with_reducible rfl
        simp only [Act.put, List.setIfInBounds_toArray, List.set_cons_zero, List.set_cons_succ]
        refine wpAnyH_take (i := 7) (oi := ⟨_, _, _, _, _, _⟩) (v := ?_) rfl (by kernel_rfl) (by kernel_rfl) (by kernel_rfl) (fun _ _ _ h => h) (Or.inl ⟨by rfl, ?_⟩) hHeld ?_
        rotate_left
        · intro w' hSw
          try dsimp only at hSw
          go_simp
          all_goals with_reducible rfl
        simp only [Act.put, List.setIfInBounds_toArray, List.set_cons_zero, List.set_cons_succ]
        refine wpAnyH_take (i := 8) (oi := ⟨_, _, _, _, _, _⟩) (v := ?_) rfl (by kernel_rfl) (by kernel_rfl) (by kernel_rfl) (fun _ _ _ h => h) (Or.inl ⟨by rfl, ?_⟩) hHeld ?_
        rotate_left
        · intro w' hSw
          try dsimp only at hSw
          go_simp
          all_goals with_reducible rfl
        simp only [Act.put, List.setIfInBounds_toArray, List.set_cons_zero, List.set_cons_succ]
        refine wpAnyH_take (i := 9) (oi := ⟨_, _, _, _, _, _⟩) (v := ?_) rfl (by kernel_rfl) (by kernel_rfl) (by kernel_rfl) (fun _ _ _ h => h) (Or.inl ⟨by rfl, ?_⟩) hHeld ?_
        rotate_left
        · intro w' hSw
          try dsimp only at hSw
          go_simp
          all_goals with_reducible rfl
        simp only [Act.put, List.setIfInBounds_toArray, List.set_cons_zero, List.set_cons_succ]
        refine wpAnyH_take (i := 10) (oi := ⟨_, _, _, _, _, _⟩) (v := ?_) rfl (by kernel_rfl) (by kernel_rfl) (by kernel_rfl) (fun _ _ _ h => h) (Or.inl ⟨by rfl, ?_⟩) hHeld ?_
        rotate_left
        · intro w' hSw
          try dsimp only at hSw
          go_simp
          all_goals with_reducible rfl
        simp only [Act.put, List.setIfInBounds_toArray, List.set_cons_zero, List.set_cons_succ]
        refine wpAnyH_take (i := 11) (oi := ⟨_, _, _, _, _, _⟩) (v := ?_) rfl (by kernel_rfl) (by kernel_rfl) (by kernel_rfl) (fun _ _ _ h => h) (Or.inl ⟨by rfl, ?_⟩) hHeld ?_
        rotate_left
        · intro w' hSw
          try dsimp only at hSw
          go_simp
          all_goals with_reducible rfl
        simp only [Act.put, List.setIfInBounds_toArray, List.set_cons_zero, List.set_cons_succ]
        refine wpAnyH_take (i := 12) (oi := ⟨_, _, _, _, _, _⟩) (v := ?_) rfl (by kernel_rfl) (by kernel_rfl) (by kernel_rfl) (fun _ _ _ h => h) (Or.inl ⟨by rfl, ?_⟩) hHeld ?_
        rotate_left
        · intro w' hSw
          try dsimp only at hSw
          go_simp
          all_goals with_reducible rfl
        simp only [Act.put, List.setIfInBounds_toArray, List.set_cons_zero, List.set_cons_succ]
        refine wpAnyH_take (i := 13) (oi := ⟨_, _, _, _, _, _⟩) (v := ?_) rfl (by kernel_rfl) (by kernel_rfl) (by kernel_rfl) (fun _ _ _ h => h) (Or.inl ⟨by rfl, ?_⟩) hHeld ?_
        rotate_left
        · intro w' hSw
          try dsimp only at hSw
          go_simp
          all_goals with_reducible rfl
        simp only [Act.put, List.setIfInBounds_toArray, List.set_cons_zero, List.set_cons_succ]
        refine wpAnyH_take (i := 14) (oi := ⟨_, _, _, _, _, _⟩) (v := ?_) rfl (by kernel_rfl) (by kernel_rfl) (by kernel_rfl) (fun _ _ _ h => h) (Or.inl ⟨by rfl, ?_⟩) hHeld ?_
        rotate_left
        · intro w' hSw
          try dsimp only at hSw
          go_simp
          all_goals with_reducible rfl
        simp only [Act.put, List.setIfInBounds_toArray, List.set_cons_zero, List.set_cons_succ]
        refine wpAnyH_take (i := 15) (oi := ⟨_, _, _, _, _, _⟩) (v := ?_) rfl (by kernel_rfl) (by kernel_rfl) (by kernel_rfl) (fun _ _ _ h => h) (Or.inl ⟨by rfl, ?_⟩) hHeld ?_
        rotate_left
        · intro w' hSw
          try dsimp only at hSw
          go_simp
          all_goals with_reducible rfl
        simp only [Act.put, List.setIfInBounds_toArray, List.set_cons_zero, List.set_cons_succ]
        refine wpAnyH_take (i := 16) (oi := ⟨_, _, _, _, _, _⟩) (v := ?_) rfl (by kernel_rfl) (by kernel_rfl) (by kernel_rfl) (fun _ _ _ h => h) (Or.inl ⟨by rfl, ?_⟩) hHeld ?_
        rotate_left
        · intro w' hSw
          try dsimp only at hSw
          go_simp
          all_goals with_reducible rfl
        simp only [Act.put, List.setIfInBounds_toArray, List.set_cons_zero, List.set_cons_succ]
        refine wpAnyH_take (i := 17) (oi := ⟨_, _, _, _, _, _⟩) (v := ?_) rfl (by kernel_rfl) (by kernel_rfl) (by kernel_rfl) (fun _ _ _ h => h) (Or.inl ⟨by rfl, ?_⟩) hHeld ?_
        rotate_left
        · intro w' hSw
          try dsimp only at hSw
          go_simp
          all_goals with_reducible rfl
        simp only [Act.put, List.setIfInBounds_toArray, List.set_cons_zero, List.set_cons_succ]
        refine wpAnyH_take (i := 18) (oi := ⟨_, _, _, _, _, _⟩) (v := ?_) rfl (by kernel_rfl) (by kernel_rfl) (by kernel_rfl) (fun _ _ _ h => h) (Or.inl ⟨by rfl, ?_⟩) hHeld ?_
        rotate_left
        · intro w' hSw
          try dsimp only at hSw
          go_simp
          all_goals with_reducible rfl
        simp only [Act.put, List.setIfInBounds_toArray, List.set_cons_zero, List.set_cons_succ]
        refine wpAnyH_take (i := 19) (oi := ⟨_, _, _, _, _, _⟩) (v := ?_) rfl (by kernel_rfl) (by kernel_rfl) (by kernel_rfl) (fun _ _ _ h => h) (Or.inl ⟨by rfl, ?_⟩) hHeld ?_
        rotate_left
        · intro w' hSw
          try dsimp only at hSw
          go_simp
          all_goals with_reducible rfl
        simp only [Act.put, List.setIfInBounds_toArray, List.set_cons_zero, List.set_cons_succ]
        refine wpAnyH_take (i := 20) (oi := ⟨_, _, _, _, _, _⟩) (v := ?_) rfl (by kernel_rfl) (by kernel_rfl) (by kernel_rfl) (fun _ _ _ h => h) (Or.inl ⟨by rfl, ?_⟩) hHeld ?_
        rotate_left
        · intro w' hSw
          try dsimp only at hSw
          go_simp
          all_goals with_reducible rfl
        simp only [Act.put, List.setIfInBounds_toArray, List.set_cons_zero, List.set_cons_succ]
        refine wpAnyH_take (i := 21) (oi := ⟨_, _, _, _, _, _⟩) (v := ?_) rfl (by kernel_rfl) (by kernel_rfl) (by kernel_rfl) (fun _ _ _ h => h) (Or.inl ⟨by rfl, ?_⟩) hHeld ?_
        rotate_left
        · intro w' hSw
          try dsimp only at hSw
          go_simp
          all_goals with_reducible rfl
        simp only [Act.put, List.setIfInBounds_toArray, List.set_cons_zero, List.set_cons_succ]
        refine wpAnyH_take (i := 22) (oi := ⟨_, _, _, _, _, _⟩) (v := ?_) rfl (by kernel_rfl) (by kernel_rfl) (by kernel_rfl) (fun _ _ _ h => h) (Or.inl ⟨by rfl, ?_⟩) hHeld ?_
        rotate_left
        · intro w' hSw
          try dsimp only at hSw
          go_simp
          all_goals with_reducible rfl
        simp only [Act.put, List.setIfInBounds_toArray, List.set_cons_zero, List.set_cons_succ]
        refine wpAnyH_take (i := 23) (oi := ⟨_, _, _, _, _, _⟩) (v := ?_) rfl (by kernel_rfl) (by kernel_rfl) (by kernel_rfl) (fun _ _ _ h => h) (Or.inl ⟨by rfl, ?_⟩) hHeld ?_
        rotate_left
        · intro w' hSw
          try dsimp only at hSw
          go_simp
          all_goals with_reducible rfl
        simp only [Act.put, List.setIfInBounds_toArray, List.set_cons_zero, List.set_cons_succ]
        refine wpAnyH_take (i := 24) (oi := ⟨_, _, _, _, _, _⟩) (v := ?_) rfl (by kernel_rfl) (by kernel_rfl) (by kernel_rfl) (fun _ _ _ h => h) (Or.inl ⟨by rfl, ?_⟩) hHeld ?_
        rotate_left
        · intro w' hSw
          try dsimp only at hSw
          go_simp
          all_goals with_reducible rfl
        simp only [Act.put, List.setIfInBounds_toArray, List.set_cons_zero, List.set_cons_succ]
        refine wpAnyH_take (i := 25) (oi := ⟨_, _, _, _, _, _⟩) (v := ?_) rfl (by kernel_rfl) (by kernel_rfl) (by kernel_rfl) (fun _ _ _ h => h) (Or.inl ⟨by rfl, ?_⟩) hHeld ?_
        rotate_left
        · intro w' hSw
          try dsimp only at hSw
          go_simp
          all_goals with_reducible rfl
        simp only [Act.put, List.setIfInBounds_toArray, List.set_cons_zero, List.set_cons_succ]
        refine wpAnyH_take (i := 26) (oi := ⟨_, _, _, _, _, _⟩) (v := ?_) rfl (by kernel_rfl) (by kernel_rfl) (by kernel_rfl) (fun _ _ _ h => h) (Or.inl ⟨by rfl, ?_⟩) hHeld ?_
        rotate_left
        · intro w' hSw
          try dsimp only at hSw
          go_simp
          all_goals with_reducible rfl
        simp only [Act.put, List.setIfInBounds_toArray, List.set_cons_zero, List.set_cons_succ]
        refine wpAnyH_take (i := 27) (oi := ⟨_, _, _, _, _, _⟩) (v := ?_) rfl (by kernel_rfl) (by kernel_rfl) (by kernel_rfl) (fun _ _ _ h => h) (Or.inl ⟨by rfl, ?_⟩) hHeld ?_
        rotate_left
        · intro w' hSw
          try dsimp only at hSw
          go_simp
          all_goals with_reducible rfl
        simp only [Act.put, List.setIfInBounds_toArray, List.set_cons_zero, List.set_cons_succ]
        refine wpAnyH_take (i := 28) (oi := ⟨_, _, _, _, _, _⟩) (v := ?_) rfl (by kernel_rfl) (by kernel_rfl) (by kernel_rfl) (fun _ _ _ h => h) (Or.inl ⟨by rfl, ?_⟩) hHeld ?_
        rotate_left
        · intro w' hSw
          try dsimp only at hSw
          go_simp
          all_goals with_reducible rfl
        simp only [Act.put, List.setIfInBounds_toArray, List.set_cons_zero, List.set_cons_succ]
        refine wpAnyH_take (i := 29) (oi := ⟨_, _, _, _, _, _⟩) (v := ?_) rfl (by kernel_rfl) (by kernel_rfl) (by kernel_rfl) (fun _ _ _ h => h) (Or.inl ⟨by rfl, ?_⟩) hHeld ?_
        rotate_left
        · intro w' hSw
          try dsimp only at hSw
          go_simp
          all_goals with_reducible rfl
        simp only [Act.put, List.setIfInBounds_toArray, List.set_cons_zero, List.set_cons_succ]
        refine wpAnyH_take (i := 30) (oi := ⟨_, _, _, _, _, _⟩) (v := ?_) rfl (by kernel_rfl) (by kernel_rfl) (by kernel_rfl) (fun _ _ _ h => h) (Or.inl ⟨by rfl, ?_⟩) hHeld ?_
        rotate_left
        · intro w' hSw
          try dsimp only at hSw
          go_simp
          all_goals with_reducible rfl
        simp only [Act.put, List.setIfInBounds_toArray, List.set_cons_zero, List.set_cons_succ]
        refine wpAnyH_take (i := 31) (oi := ⟨_, _, _, _, _, _⟩) (v := ?_) rfl (by kernel_rfl) (by kernel_rfl) (by kernel_rfl) (fun _ _ _ h => h) (Or.inl ⟨by rfl, ?_⟩) hHeld ?_
        rotate_left
        · intro w' hSw
          try dsimp only at hSw
          go_simp
          all_goals with_reducible rfl
        simp only [Act.put, List.setIfInBounds_toArray, List.set_cons_zero, List.set_cons_succ]
        refine wpAnyH_take (i := 33) (oi := ⟨_, _, _, _, _, _⟩) (v := ?_) rfl (by kernel_rfl) (by kernel_rfl) (by kernel_rfl) (fun _ _ _ h => h) (Or.inl ⟨by rfl, ?_⟩) hHeld ?_
        rotate_left
        · intro w' hSw
          try dsimp only at hSw
          go_simp
          all_goals with_reducible rfl
        simp only [Act.put, List.setIfInBounds_toArray, List.set_cons_zero, List.set_cons_succ]
        refine wpAnyH_take (i := 34) (oi := ⟨_, _, _, _, _, _⟩) (v := ?_) rfl (by kernel_rfl) (by kernel_rfl) (by kernel_rfl) (fun _ _ _ h => h) (Or.inl ⟨by rfl, ?_⟩) hHeld ?_
        rotate_left
        · intro w' hSw
          try dsimp only at hSw
          go_simp
          all_goals with_reducible rfl
        simp only [Act.put, List.setIfInBounds_toArray, List.set_cons_zero, List.set_cons_succ]
        refine wpAnyH_ready (rs := [32]) (by kernel_rfl) (by simp) ?_
        refine AllReadyH.cons (o := ⟨_, _, _, _, _, _⟩) rfl (fun K hK => ?_) AllReadyH.nil
        go_simp
        refine (bound_any _ pl need _ Z3.out.lr FM.out HNE.out).mono ?_
        rintro e wx4 ⟨rfl, bx⟩
        have Z4 := Hid.of (Z3.out.next bx)
        have D4 := Hid.of (D3.out.next bx)
        clear bx Z3 D3
        clear hHeld d0 d1 d2 d3 d4 d5 d6 d7 d8 d9 d10 d11 d12
        have d0 := (D4.out).head
        have d1 := ((D4.out).tail).head
        have d2 := (((D4.out).tail).tail).head
        have d3 := ((((D4.out).tail).tail).tail).head
        have d4 := (((((D4.out).tail).tail).tail).tail).head
        have d5 := ((((((D4.out).tail).tail).tail).tail).tail).head
        have d6 := (((((((D4.out).tail).tail).tail).tail).tail).tail).head
        have d7 := ((((((((D4.out).tail).tail).tail).tail).tail).tail).tail).head
        have d8 := (((((((((D4.out).tail).tail).tail).tail).tail).tail).tail).tail).head
        have d9 := ((((((((((D4.out).tail).tail).tail).tail).tail).tail).tail).tail).tail).head
        have d10 := (((((((((((D4.out).tail).tail).tail).tail).tail).tail).tail).tail).tail).tail).head
        have d11 := ((((((((((((D4.out).tail).tail).tail).tail).tail).tail).tail).tail).tail).tail).tail).head
        have d12 := (((((((((((((D4.out).tail).tail).tail).tail).tail).tail).tail).tail).tail).tail).tail).tail).head
        refine hK.out _ _ ⟨d0, d1, d2, d3, d4, d5, d6, d7, d8, d9, d10, d11, d12⟩ (fun hHeld => ?_)
        clear hK K
        try simp only [Act.put, List.setIfInBounds_toArray, List.set_cons_zero, List.set_cons_succ]
        refine wpAnyH_ready (rs := [35]) (by kernel_rfl) (by simp) ?_
        refine AllReadyH.cons (o := ⟨_, _, _, _, _, _⟩) rfl (fun K hK => ?_) AllReadyH.nil
        go_simp
        refine (refBound_any _ pl need _ Z4.out.pe.hl M13.out NE0.out NE1.out).mono ?_
        rintro e wx5 ⟨rfl, bx⟩
        have Z5 := Hid.of (Z4.out.next bx)
        have D5 := Hid.of (D4.out.next bx)
        clear bx Z4 D4
        clear hHeld d0 d1 d2 d3 d4 d5 d6 d7 d8 d9 d10 d11 d12
        have d0 := (D5.out).head
        have d1 := ((D5.out).tail).head
        have d2 := (((D5.out).tail).tail).head
        have d3 := ((((D5.out).tail).tail).tail).head
        have d4 := (((((D5.out).tail).tail).tail).tail).head
        have d5 := ((((((D5.out).tail).tail).tail).tail).tail).head
        have d6 := (((((((D5.out).tail).tail).tail).tail).tail).tail).head
        have d7 := ((((((((D5.out).tail).tail).tail).tail).tail).tail).tail).head
        have d8 := (((((((((D5.out).tail).tail).tail).tail).tail).tail).tail).tail).head
        have d9 := ((((((((((D5.out).tail).tail).tail).tail).tail).tail).tail).tail).tail).head
        have d10 := (((((((((((D5.out).tail).tail).tail).tail).tail).tail).tail).tail).tail).tail).head
        have d11 := ((((((((((((D5.out).tail).tail).tail).tail).tail).tail).tail).tail).tail).tail).tail).head
        have d12 := (((((((((((((D5.out).tail).tail).tail).tail).tail).tail).tail).tail).tail).tail).tail).tail).head
        refine hK.out _ _ ⟨d0, d1, d2, d3, d4, d5, d6, d7, d8, d9, d10, d11, d12⟩ (fun hHeld => ?_)
        clear hK K
        try simp only [Act.put, List.setIfInBounds_toArray, List.set_cons_zero, List.set_cons_succ]
        refine wpAnyH_take (i := 36) (oi := ⟨_, _, _, _, _, _⟩) (v := ?_) rfl (by kernel_rfl) (by kernel_rfl) (by kernel_rfl) (fun _ _ _ h => h) (Or.inl ⟨by rfl, ?_⟩) hHeld ?_
        rotate_left
        · intro w' hSw
          try dsimp only at hSw
          go_simp
          all_goals with_reducible rfl
        simp only [Act.put, List.setIfInBounds_toArray, List.set_cons_zero, List.set_cons_succ]
        refine wpAnyH_take (i := 37) (oi := ⟨_, _, _, _, _, _⟩) (v := ?_) rfl (by kernel_rfl) (by kernel_rfl) (by kernel_rfl) (fun _ _ _ h => h) (Or.inl ⟨by rfl, ?_⟩) hHeld ?_
        rotate_left
        · intro w' hSw
          try dsimp only at hSw
          go_simp
          all_goals with_reducible rfl
        simp only [Act.put, List.setIfInBounds_toArray, List.set_cons_zero, List.set_cons_succ]
        refine wpAnyH_done (by kernel_rfl) ?_ _
        refine NoPanic.normal ?_
        clear hHeld d0 d1 d2 d3 d4 d5 d6 d7 d8 d9 d10 d11 d12
        clear D5 OB HAM
        go_upto_region 21 with fail
        generalize hw21 : wx5 = w21 at *
        clear hw21
        have Z21 := Z5
        have D21 := Hid.of Z21.out.d13
        clear Z5
        by_cases t0 : tier < 0
        · have t1 : ¬ (0 : Int) ≤ tier := by omega
          have bd := (Below.refl w21.heap.size w21).drew
          have ZD := Hid.of (Z21.out.next bd)
          have DD := Hid.of (D21.out.next bd)
          clear bd Z21
          have d0 := (D21.out).head
          have d1 := ((D21.out).tail).head
          have d2 := (((D21.out).tail).tail).head
          have d3 := ((((D21.out).tail).tail).tail).head
          have d4 := (((((D21.out).tail).tail).tail).tail).head
          have d5 := ((((((D21.out).tail).tail).tail).tail).tail).head
          refine wp_region_noPanic ?_
          refine wp_region_held_drew (S := fun w' => w'.cell? ⟨bl, 0, none⟩ = some (.string pn) ∧ w'.cell? ⟨bl, 1, none⟩ = some (.slice psa LN psc) ∧ w'.cell? ⟨bl, 2, none⟩ = some (.slice pfa LM pfc) ∧ w'.cell? ⟨qb, 0, none⟩ = some (.string qn) ∧ w'.cell? ⟨qb, 1, none⟩ = some (.slice qsa LN qsc) ∧ w'.cell? ⟨qb, 2, none⟩ = some (.slice qfa LM qfc)) (by kernel_rfl) ?_ (fun hHeld => ?_)
          · exact ⟨d0, d1, d2, d3, d4, d5⟩
          refine wpAnyH_take (i := 0) (oi := ⟨_, _, _, _, _, _⟩) (v := ?_) rfl (by kernel_rfl) (by kernel_rfl) (by kernel_rfl) (fun _ _ _ h => h) (Or.inl ⟨by rfl, ?_⟩) hHeld ?_
          rotate_left
          · intro w' hSw
            try dsimp only at hSw
            go_simp
            all_goals with_reducible rfl
          simp only [Act.put, List.setIfInBounds_toArray, List.set_cons_zero, List.set_cons_succ]
          refine wpAnyH_take (i := 1) (oi := ⟨_, _, _, _, _, _⟩) (v := ?_) rfl (by kernel_rfl) (by kernel_rfl) (by kernel_rfl) (fun _ _ _ h => h) (Or.inl ⟨by rfl, ?_⟩) hHeld ?_
          rotate_left
          · intro w' hSw
            try dsimp only at hSw
            go_simp
            all_goals with_reducible rfl
          simp only [Act.put, List.setIfInBounds_toArray, List.set_cons_zero, List.set_cons_succ]
          refine wpAnyH_take (i := 2) (oi := ⟨_, _, _, _, _, _⟩) (v := ?_) rfl (by kernel_rfl) (by kernel_rfl) (by kernel_rfl) (fun _ _ _ h => h) (Or.inl ⟨by rfl, ?_⟩) hHeld ?_
          rotate_left
          · intro w' hSw
            try dsimp only at hSw
            go_simp
            all_goals with_reducible rfl
          simp only [Act.put, List.setIfInBounds_toArray, List.set_cons_zero, List.set_cons_succ]
          refine wpAnyH_take (i := 3) (oi := ⟨_, _, _, _, _, _⟩) (v := undef) rfl (by kernel_rfl) (by kernel_rfl) (by kernel_rfl) (fun _ _ _ h => h) (Or.inr ⟨by rfl, rfl⟩) hHeld ?_
          simp only [Act.put, List.setIfInBounds_toArray, List.set_cons_zero, List.set_cons_succ]
          refine wpAnyH_take (i := 4) (oi := ⟨_, _, _, _, _, _⟩) (v := undef) rfl (by kernel_rfl) (by kernel_rfl) (by kernel_rfl) (fun _ _ _ h => h) (Or.inr ⟨by rfl, rfl⟩) hHeld ?_
          simp only [Act.put, List.setIfInBounds_toArray, List.set_cons_zero, List.set_cons_succ]
          refine wpAnyH_take (i := 5) (oi := ⟨_, _, _, _, _, _⟩) (v := undef) rfl (by kernel_rfl) (by kernel_rfl) (by kernel_rfl) (fun _ _ _ h => h) (Or.inr ⟨by rfl, rfl⟩) hHeld ?_
          simp only [Act.put, List.setIfInBounds_toArray, List.set_cons_zero, List.set_cons_succ]
          refine wpAnyH_take (i := 6) (oi := ⟨_, _, _, _, _, _⟩) (v := undef) rfl (by kernel_rfl) (by kernel_rfl) (by kernel_rfl) (fun _ _ _ h => h) (Or.inr ⟨by rfl, rfl⟩) hHeld ?_
          simp only [Act.put, List.setIfInBounds_toArray, List.set_cons_zero, List.set_cons_succ]
          refine wpAnyH_take (i := 7) (oi := ⟨_, _, _, _, _, _⟩) (v := undef) rfl (by kernel_rfl) (by kernel_rfl) (by kernel_rfl) (fun _ _ _ h => h) (Or.inr ⟨by rfl, rfl⟩) hHeld ?_
          simp only [Act.put, List.setIfInBounds_toArray, List.set_cons_zero, List.set_cons_succ]
          refine wpAnyH_take (i := 8) (oi := ⟨_, _, _, _, _, _⟩) (v := undef) rfl (by kernel_rfl) (by kernel_rfl) (by kernel_rfl) (fun _ _ _ h => h) (Or.inr ⟨by rfl, rfl⟩) hHeld ?_
          simp only [Act.put, List.setIfInBounds_toArray, List.set_cons_zero, List.set_cons_succ]
          refine wpAnyH_take (i := 9) (oi := ⟨_, _, _, _, _, _⟩) (v := ?_) rfl (by kernel_rfl) (by kernel_rfl) (by kernel_rfl) (fun _ _ _ h => h) (Or.inl ⟨by rfl, ?_⟩) hHeld ?_
          rotate_left
          · intro w' hSw
            try dsimp only at hSw
            go_simp
            all_goals with_reducible rfl
          simp only [Act.put, List.setIfInBounds_toArray, List.set_cons_zero, List.set_cons_succ]
          refine wpAnyH_take (i := 10) (oi := ⟨_, _, _, _, _, _⟩) (v := ?_) rfl (by kernel_rfl) (by kernel_rfl) (by kernel_rfl) (fun _ _ _ h => h) (Or.inl ⟨by rfl, ?_⟩) hHeld ?_
          rotate_left
          · intro w' hSw
            try dsimp only at hSw
            go_simp
            all_goals with_reducible rfl
          simp only [Act.put, List.setIfInBounds_toArray, List.set_cons_zero, List.set_cons_succ]
          refine wpAnyH_take (i := 11) (oi := ⟨_, _, _, _, _, _⟩) (v := undef) rfl (by kernel_rfl) (by kernel_rfl) (by kernel_rfl) (fun _ _ _ h => h) (Or.inr ⟨by rfl, rfl⟩) hHeld ?_
          simp only [Act.put, List.setIfInBounds_toArray, List.set_cons_zero, List.set_cons_succ]
          refine wpAnyH_take (i := 12) (oi := ⟨_, _, _, _, _, _⟩) (v := undef) rfl (by kernel_rfl) (by kernel_rfl) (by kernel_rfl) (fun _ _ _ h => h) (Or.inr ⟨by rfl, rfl⟩) hHeld ?_
          simp only [Act.put, List.setIfInBounds_toArray, List.set_cons_zero, List.set_cons_succ]
          refine wpAnyH_take (i := 13) (oi := ⟨_, _, _, _, _, _⟩) (v := undef) rfl (by kernel_rfl) (by kernel_rfl) (by kernel_rfl) (fun _ _ _ h => h) (Or.inr ⟨by rfl, rfl⟩) hHeld ?_
          simp only [Act.put, List.setIfInBounds_toArray, List.set_cons_zero, List.set_cons_succ]
          refine wpAnyH_take (i := 14) (oi := ⟨_, _, _, _, _, _⟩) (v := undef) rfl (by kernel_rfl) (by kernel_rfl) (by kernel_rfl) (fun _ _ _ h => h) (Or.inr ⟨by rfl, rfl⟩) hHeld ?_
          simp only [Act.put, List.setIfInBounds_toArray, List.set_cons_zero, List.set_cons_succ]
          refine wpAnyH_take (i := 15) (oi := ⟨_, _, _, _, _, _⟩) (v := undef) rfl (by kernel_rfl) (by kernel_rfl) (by kernel_rfl) (fun _ _ _ h => h) (Or.inr ⟨by rfl, rfl⟩) hHeld ?_
          simp only [Act.put, List.setIfInBounds_toArray, List.set_cons_zero, List.set_cons_succ]
          refine wpAnyH_take (i := 16) (oi := ⟨_, _, _, _, _, _⟩) (v := undef) rfl (by kernel_rfl) (by kernel_rfl) (by kernel_rfl) (fun _ _ _ h => h) (Or.inr ⟨by rfl, rfl⟩) hHeld ?_
          simp only [Act.put, List.setIfInBounds_toArray, List.set_cons_zero, List.set_cons_succ]
          refine wpAnyH_take (i := 17) (oi := ⟨_, _, _, _, _, _⟩) (v := undef) rfl (by kernel_rfl) (by kernel_rfl) (by kernel_rfl) (fun _ _ _ h => h) (Or.inr ⟨by rfl, rfl⟩) hHeld ?_
          simp only [Act.put, List.setIfInBounds_toArray, List.set_cons_zero, List.set_cons_succ]
          refine wpAnyH_take (i := 18) (oi := ⟨_, _, _, _, _, _⟩) (v := undef) rfl (by kernel_rfl) (by kernel_rfl) (by kernel_rfl) (fun _ _ _ h => h) (Or.inr ⟨by rfl, rfl⟩) hHeld ?_
          simp only [Act.put, List.setIfInBounds_toArray, List.set_cons_zero, List.set_cons_succ]
          refine wpAnyH_take (i := 19) (oi := ⟨_, _, _, _, _, _⟩) (v := undef) rfl (by kernel_rfl) (by kernel_rfl) (by kernel_rfl) (fun _ _ _ h => h) (Or.inr ⟨by rfl, rfl⟩) hHeld ?_
          simp only [Act.put, List.setIfInBounds_toArray, List.set_cons_zero, List.set_cons_succ]
          refine wpAnyH_take (i := 20) (oi := ⟨_, _, _, _, _, _⟩) (v := undef) rfl (by kernel_rfl) (by kernel_rfl) (by kernel_rfl) (fun _ _ _ h => h) (Or.inr ⟨by rfl, rfl⟩) hHeld ?_
          simp only [Act.put, List.setIfInBounds_toArray, List.set_cons_zero, List.set_cons_succ]
          refine wpAnyH_take (i := 21) (oi := ⟨_, _, _, _, _, _⟩) (v := undef) rfl (by kernel_rfl) (by kernel_rfl) (by kernel_rfl) (fun _ _ _ h => h) (Or.inr ⟨by rfl, rfl⟩) hHeld ?_
          simp only [Act.put, List.setIfInBounds_toArray, List.set_cons_zero, List.set_cons_succ]
          refine wpAnyH_take (i := 22) (oi := ⟨_, _, _, _, _, _⟩) (v := undef) rfl (by kernel_rfl) (by kernel_rfl) (by kernel_rfl) (fun _ _ _ h => h) (Or.inr ⟨by rfl, rfl⟩) hHeld ?_
          simp only [Act.put, List.setIfInBounds_toArray, List.set_cons_zero, List.set_cons_succ]
          refine wpAnyH_take (i := 23) (oi := ⟨_, _, _, _, _, _⟩) (v := ?_) rfl (by kernel_rfl) (by kernel_rfl) (by kernel_rfl) (fun _ _ _ h => h) (Or.inl ⟨by rfl, ?_⟩) hHeld ?_
          rotate_left
          · intro w' hSw
            try dsimp only at hSw
            go_simp
            all_goals with_reducible rfl
          simp only [Act.put, List.setIfInBounds_toArray, List.set_cons_zero, List.set_cons_succ]
          refine wpAnyH_done (by kernel_rfl) ?_ _
          refine NoPanic.normal ?_
          clear hHeld d0 d1 d2 d3 d4 d5
          clear D21
          have Z3 := ZD
          clear ZD
          go_wp2
          go_roundw
          case rel =>
            have hRW := HRW.out
            subst hRW
            have h41 := Z3.out.bk
            have h42 : Here wb.heap.size (wb.heap.size + 1) (bookIP V4 W4 V3 W3) 45 wb _ (iblk V4 W4 (ls ++ [(.slice pfa LM pfc, u2, pl.2)] ++ [(.slice aa BN ac, u4, mBases pl (now, p, fl))]) ++ (pblk V3 W3 (ls' ++ [(.slice psa LN psc, u3, pl.1.2)]) ++ [])) [] := (h41.perm (show List.Perm (iblk V4 W4 (ls ++ [(.slice pfa LM pfc, u2, pl.2)] ++ [(.slice aa BN ac, u4, mBases pl (now, p, fl))]) ++ (pblk V3 W3 (ls' ++ [(.slice psa LN psc, u3, pl.1.2)]) ++ [lRow bl pn (.slice psa LN psc) (.slice pfa LM pfc), rRow rb now fn (.slice s1a PN s1c) (.slice f1a M f1c), pRow (.slice s1a PN s1c) p.2, iRow (.slice f1a M f1c) fl])) ((iblk V4 W4 (ls ++ [(.slice pfa LM pfc, u2, pl.2)] ++ [(.slice aa BN ac, u4, mBases pl (now, p, fl))]) ++ (pblk V3 W3 (ls' ++ [(.slice psa LN psc, u3, pl.1.2)]) ++ [])) ++ [lRow bl pn (.slice psa LN psc) (.slice pfa LM pfc), rRow rb now fn (.slice s1a PN s1c) (.slice f1a M f1c), pRow (.slice s1a PN s1c) p.2, iRow (.slice f1a M f1c) fl]) from (by
            generalize (iblk V4 W4 (ls ++ [(.slice pfa LM pfc, u2, pl.2)] ++ [(.slice aa BN ac, u4, mBases pl (now, p, fl))])) = R1
            generalize (pblk V3 W3 (ls' ++ [(.slice psa LN psc, u3, pl.1.2)])) = R2
            generalize (lRow bl pn (.slice psa LN psc) (.slice pfa LM pfc) : Row1) = R3
            generalize (rRow rb now fn (.slice s1a PN s1c) (.slice f1a M f1c) : Row1) = R4
            generalize (pRow (.slice s1a PN s1c) p.2 : Row1) = R5
            generalize (iRow (.slice f1a M f1c) fl : Row1) = R6
            classical
            rw [List.perm_iff_count]
            intro a
            simp only [List.count_append, List.count_cons, List.count_nil]
            omega))).sublist (List.sublist_append_left _ _)
            refine ⟨k' + 1, V4, W4, V3, W3, _, _, by omega, by go_num, Hid.of h42, Hid.of (by simp only [List.length_append, List.length_singleton]; have := LS.out; omega), Hid.of (fun y hy => ?_), Hid.of (by simp only [List.length_append, List.length_singleton]; have := LS'.out; omega), Hid.of (fun y hy => ?_)⟩
            · rw [List.mem_append, List.mem_append] at hy
              rcases hy with (hy | hy) | hy
              · exact LL1.out y hy
              · rw [List.mem_singleton.1 hy]
                show pl.2.length ≤ _
                have := LL.out.2
                have := LM10.out
                omega
              · rw [List.mem_singleton.1 hy]
                show (mBases pl (now, p, fl)).length ≤ _
                have := BNL.out
                have := BL.out
                have := LN10.out
                omega
            · rw [List.mem_append] at hy
              rcases hy with hy | hy
              · exact LL2.out y hy
              · rw [List.mem_singleton.1 hy]
                show pl.1.2.length ≤ _
                have := LL.out.1
                have := LN10.out
                omega
          case measure => simp [RowKit.intOf]; omega
        by_cases t1 : (LN : Int) ≤ tier
        · have t2 : (0 : Int) ≤ tier := by omega
          have t3 : ¬ tier < (LN : Int) := by omega
          have bd := (Below.refl w21.heap.size w21).drew
          have ZD := Hid.of (Z21.out.next bd)
          have DD := Hid.of (D21.out.next bd)
          clear bd Z21
          have d0 := (D21.out).head
          have d1 := ((D21.out).tail).head
          have d2 := (((D21.out).tail).tail).head
          have d3 := ((((D21.out).tail).tail).tail).head
          have d4 := (((((D21.out).tail).tail).tail).tail).head
          have d5 := ((((((D21.out).tail).tail).tail).tail).tail).head
          refine wp_region_noPanic ?_
          refine wp_region_held_drew (S := fun w' => w'.cell? ⟨bl, 0, none⟩ = some (.string pn) ∧ w'.cell? ⟨bl, 1, none⟩ = some (.slice psa LN psc) ∧ w'.cell? ⟨bl, 2, none⟩ = some (.slice pfa LM pfc) ∧ w'.cell? ⟨qb, 0, none⟩ = some (.string qn) ∧ w'.cell? ⟨qb, 1, none⟩ = some (.slice qsa LN qsc) ∧ w'.cell? ⟨qb, 2, none⟩ = some (.slice qfa LM qfc)) (by kernel_rfl) ?_ (fun hHeld => ?_)
          · exact ⟨d0, d1, d2, d3, d4, d5⟩
          refine wpAnyH_take (i := 0) (oi := ⟨_, _, _, _, _, _⟩) (v := ?_) rfl (by kernel_rfl) (by kernel_rfl) (by kernel_rfl) (fun _ _ _ h => h) (Or.inl ⟨by rfl, ?_⟩) hHeld ?_
          rotate_left
          · intro w' hSw
            try dsimp only at hSw
            go_simp
            all_goals with_reducible rfl
          simp only [Act.put, List.setIfInBounds_toArray, List.set_cons_zero, List.set_cons_succ]
          refine wpAnyH_take (i := 1) (oi := ⟨_, _, _, _, _, _⟩) (v := ?_) rfl (by kernel_rfl) (by kernel_rfl) (by kernel_rfl) (fun _ _ _ h => h) (Or.inl ⟨by rfl, ?_⟩) hHeld ?_
          rotate_left
          · intro w' hSw
            try dsimp only at hSw
            go_simp
            all_goals with_reducible rfl
          simp only [Act.put, List.setIfInBounds_toArray, List.set_cons_zero, List.set_cons_succ]
          refine wpAnyH_take (i := 2) (oi := ⟨_, _, _, _, _, _⟩) (v := ?_) rfl (by kernel_rfl) (by kernel_rfl) (by kernel_rfl) (fun _ _ _ h => h) (Or.inl ⟨by rfl, ?_⟩) hHeld ?_
          rotate_left
          · intro w' hSw
            try dsimp only at hSw
            go_simp
            all_goals with_reducible rfl
          simp only [Act.put, List.setIfInBounds_toArray, List.set_cons_zero, List.set_cons_succ]
          refine wpAnyH_take (i := 3) (oi := ⟨_, _, _, _, _, _⟩) (v := ?_) rfl (by kernel_rfl) (by kernel_rfl) (by kernel_rfl) (fun _ _ _ h => h) (Or.inl ⟨by rfl, ?_⟩) hHeld ?_
          rotate_left
          · intro w' hSw
            try dsimp only at hSw
            go_simp
            all_goals with_reducible rfl
          simp only [Act.put, List.setIfInBounds_toArray, List.set_cons_zero, List.set_cons_succ]
          refine wpAnyH_take (i := 4) (oi := ⟨_, _, _, _, _, _⟩) (v := ?_) rfl (by kernel_rfl) (by kernel_rfl) (by kernel_rfl) (fun _ _ _ h => h) (Or.inl ⟨by rfl, ?_⟩) hHeld ?_
          rotate_left
          · intro w' hSw
            try dsimp only at hSw
            go_simp
            all_goals with_reducible rfl
          simp only [Act.put, List.setIfInBounds_toArray, List.set_cons_zero, List.set_cons_succ]
          refine wpAnyH_take (i := 5) (oi := ⟨_, _, _, _, _, _⟩) (v := ?_) rfl (by kernel_rfl) (by kernel_rfl) (by kernel_rfl) (fun _ _ _ h => h) (Or.inl ⟨by rfl, ?_⟩) hHeld ?_
          rotate_left
          · intro w' hSw
            try dsimp only at hSw
            go_simp
            all_goals with_reducible rfl
          simp only [Act.put, List.setIfInBounds_toArray, List.set_cons_zero, List.set_cons_succ]
          refine wpAnyH_take (i := 6) (oi := ⟨_, _, _, _, _, _⟩) (v := ?_) rfl (by kernel_rfl) (by kernel_rfl) (by kernel_rfl) (fun _ _ _ h => h) (Or.inl ⟨by rfl, ?_⟩) hHeld ?_
          rotate_left
          · intro w' hSw
            try dsimp only at hSw
            go_simp
            all_goals with_reducible rfl
          simp only [Act.put, List.setIfInBounds_toArray, List.set_cons_zero, List.set_cons_succ]
          refine wpAnyH_take (i := 7) (oi := ⟨_, _, _, _, _, _⟩) (v := ?_) rfl (by kernel_rfl) (by kernel_rfl) (by kernel_rfl) (fun _ _ _ h => h) (Or.inl ⟨by rfl, ?_⟩) hHeld ?_
          rotate_left
          · intro w' hSw
            try dsimp only at hSw
            go_simp
            all_goals with_reducible rfl
          simp only [Act.put, List.setIfInBounds_toArray, List.set_cons_zero, List.set_cons_succ]
          refine wpAnyH_take (i := 8) (oi := ⟨_, _, _, _, _, _⟩) (v := ?_) rfl (by kernel_rfl) (by kernel_rfl) (by kernel_rfl) (fun _ _ _ h => h) (Or.inl ⟨by rfl, ?_⟩) hHeld ?_
          rotate_left
          · intro w' hSw
            try dsimp only at hSw
            go_simp
            all_goals with_reducible rfl
          simp only [Act.put, List.setIfInBounds_toArray, List.set_cons_zero, List.set_cons_succ]
          refine wpAnyH_take (i := 9) (oi := ⟨_, _, _, _, _, _⟩) (v := ?_) rfl (by kernel_rfl) (by kernel_rfl) (by kernel_rfl) (fun _ _ _ h => h) (Or.inl ⟨by rfl, ?_⟩) hHeld ?_
          rotate_left
          · intro w' hSw
            try dsimp only at hSw
            go_simp
            all_goals with_reducible rfl
          simp only [Act.put, List.setIfInBounds_toArray, List.set_cons_zero, List.set_cons_succ]
          refine wpAnyH_take (i := 10) (oi := ⟨_, _, _, _, _, _⟩) (v := ?_) rfl (by kernel_rfl) (by kernel_rfl) (by kernel_rfl) (fun _ _ _ h => h) (Or.inl ⟨by rfl, ?_⟩) hHeld ?_
          rotate_left
          · intro w' hSw
            try dsimp only at hSw
            go_simp
            all_goals with_reducible rfl
          simp only [Act.put, List.setIfInBounds_toArray, List.set_cons_zero, List.set_cons_succ]
          refine wpAnyH_take (i := 11) (oi := ⟨_, _, _, _, _, _⟩) (v := undef) rfl (by kernel_rfl) (by kernel_rfl) (by kernel_rfl) (fun _ _ _ h => h) (Or.inr ⟨by rfl, rfl⟩) hHeld ?_
          simp only [Act.put, List.setIfInBounds_toArray, List.set_cons_zero, List.set_cons_succ]
          refine wpAnyH_take (i := 12) (oi := ⟨_, _, _, _, _, _⟩) (v := undef) rfl (by kernel_rfl) (by kernel_rfl) (by kernel_rfl) (fun _ _ _ h => h) (Or.inr ⟨by rfl, rfl⟩) hHeld ?_
          simp only [Act.put, List.setIfInBounds_toArray, List.set_cons_zero, List.set_cons_succ]
          refine wpAnyH_take (i := 13) (oi := ⟨_, _, _, _, _, _⟩) (v := undef) rfl (by kernel_rfl) (by kernel_rfl) (by kernel_rfl) (fun _ _ _ h => h) (Or.inr ⟨by rfl, rfl⟩) hHeld ?_
          simp only [Act.put, List.setIfInBounds_toArray, List.set_cons_zero, List.set_cons_succ]
          refine wpAnyH_take (i := 14) (oi := ⟨_, _, _, _, _, _⟩) (v := undef) rfl (by kernel_rfl) (by kernel_rfl) (by kernel_rfl) (fun _ _ _ h => h) (Or.inr ⟨by rfl, rfl⟩) hHeld ?_
          simp only [Act.put, List.setIfInBounds_toArray, List.set_cons_zero, List.set_cons_succ]
          refine wpAnyH_take (i := 15) (oi := ⟨_, _, _, _, _, _⟩) (v := undef) rfl (by kernel_rfl) (by kernel_rfl) (by kernel_rfl) (fun _ _ _ h => h) (Or.inr ⟨by rfl, rfl⟩) hHeld ?_
          simp only [Act.put, List.setIfInBounds_toArray, List.set_cons_zero, List.set_cons_succ]
          refine wpAnyH_take (i := 16) (oi := ⟨_, _, _, _, _, _⟩) (v := undef) rfl (by kernel_rfl) (by kernel_rfl) (by kernel_rfl) (fun _ _ _ h => h) (Or.inr ⟨by rfl, rfl⟩) hHeld ?_
          simp only [Act.put, List.setIfInBounds_toArray, List.set_cons_zero, List.set_cons_succ]
          refine wpAnyH_take (i := 17) (oi := ⟨_, _, _, _, _, _⟩) (v := undef) rfl (by kernel_rfl) (by kernel_rfl) (by kernel_rfl) (fun _ _ _ h => h) (Or.inr ⟨by rfl, rfl⟩) hHeld ?_
          simp only [Act.put, List.setIfInBounds_toArray, List.set_cons_zero, List.set_cons_succ]
          refine wpAnyH_take (i := 18) (oi := ⟨_, _, _, _, _, _⟩) (v := undef) rfl (by kernel_rfl) (by kernel_rfl) (by kernel_rfl) (fun _ _ _ h => h) (Or.inr ⟨by rfl, rfl⟩) hHeld ?_
          simp only [Act.put, List.setIfInBounds_toArray, List.set_cons_zero, List.set_cons_succ]
          refine wpAnyH_take (i := 19) (oi := ⟨_, _, _, _, _, _⟩) (v := undef) rfl (by kernel_rfl) (by kernel_rfl) (by kernel_rfl) (fun _ _ _ h => h) (Or.inr ⟨by rfl, rfl⟩) hHeld ?_
          simp only [Act.put, List.setIfInBounds_toArray, List.set_cons_zero, List.set_cons_succ]
          refine wpAnyH_take (i := 20) (oi := ⟨_, _, _, _, _, _⟩) (v := undef) rfl (by kernel_rfl) (by kernel_rfl) (by kernel_rfl) (fun _ _ _ h => h) (Or.inr ⟨by rfl, rfl⟩) hHeld ?_
          simp only [Act.put, List.setIfInBounds_toArray, List.set_cons_zero, List.set_cons_succ]
          refine wpAnyH_take (i := 21) (oi := ⟨_, _, _, _, _, _⟩) (v := undef) rfl (by kernel_rfl) (by kernel_rfl) (by kernel_rfl) (fun _ _ _ h => h) (Or.inr ⟨by rfl, rfl⟩) hHeld ?_
          simp only [Act.put, List.setIfInBounds_toArray, List.set_cons_zero, List.set_cons_succ]
          refine wpAnyH_take (i := 22) (oi := ⟨_, _, _, _, _, _⟩) (v := undef) rfl (by kernel_rfl) (by kernel_rfl) (by kernel_rfl) (fun _ _ _ h => h) (Or.inr ⟨by rfl, rfl⟩) hHeld ?_
          simp only [Act.put, List.setIfInBounds_toArray, List.set_cons_zero, List.set_cons_succ]
          refine wpAnyH_take (i := 23) (oi := ⟨_, _, _, _, _, _⟩) (v := ?_) rfl (by kernel_rfl) (by kernel_rfl) (by kernel_rfl) (fun _ _ _ h => h) (Or.inl ⟨by rfl, ?_⟩) hHeld ?_
          rotate_left
          · intro w' hSw
            try dsimp only at hSw
            go_simp
            all_goals with_reducible rfl
          simp only [Act.put, List.setIfInBounds_toArray, List.set_cons_zero, List.set_cons_succ]
          refine wpAnyH_done (by kernel_rfl) ?_ _
          refine NoPanic.normal ?_
          clear hHeld d0 d1 d2 d3 d4 d5
          clear D21
          have Z3 := ZD
          clear ZD
          go_wp2
          go_roundw
          case rel =>
            have hRW := HRW.out
            subst hRW
            have h41 := Z3.out.bk
            have h42 : Here wb.heap.size (wb.heap.size + 1) (bookIP V4 W4 V3 W3) 45 wb _ (iblk V4 W4 (ls ++ [(.slice pfa LM pfc, u2, pl.2)] ++ [(.slice aa BN ac, u4, mBases pl (now, p, fl))]) ++ (pblk V3 W3 (ls' ++ [(.slice psa LN psc, u3, pl.1.2)]) ++ [])) [] := (h41.perm (show List.Perm (iblk V4 W4 (ls ++ [(.slice pfa LM pfc, u2, pl.2)] ++ [(.slice aa BN ac, u4, mBases pl (now, p, fl))]) ++ (pblk V3 W3 (ls' ++ [(.slice psa LN psc, u3, pl.1.2)]) ++ [lRow bl pn (.slice psa LN psc) (.slice pfa LM pfc), rRow rb now fn (.slice s1a PN s1c) (.slice f1a M f1c), pRow (.slice s1a PN s1c) p.2, iRow (.slice f1a M f1c) fl])) ((iblk V4 W4 (ls ++ [(.slice pfa LM pfc, u2, pl.2)] ++ [(.slice aa BN ac, u4, mBases pl (now, p, fl))]) ++ (pblk V3 W3 (ls' ++ [(.slice psa LN psc, u3, pl.1.2)]) ++ [])) ++ [lRow bl pn (.slice psa LN psc) (.slice pfa LM pfc), rRow rb now fn (.slice s1a PN s1c) (.slice f1a M f1c), pRow (.slice s1a PN s1c) p.2, iRow (.slice f1a M f1c) fl]) from (by
            generalize (iblk V4 W4 (ls ++ [(.slice pfa LM pfc, u2, pl.2)] ++ [(.slice aa BN ac, u4, mBases pl (now, p, fl))])) = R1
            generalize (pblk V3 W3 (ls' ++ [(.slice psa LN psc, u3, pl.1.2)])) = R2
            generalize (lRow bl pn (.slice psa LN psc) (.slice pfa LM pfc) : Row1) = R3
            generalize (rRow rb now fn (.slice s1a PN s1c) (.slice f1a M f1c) : Row1) = R4
            generalize (pRow (.slice s1a PN s1c) p.2 : Row1) = R5
            generalize (iRow (.slice f1a M f1c) fl : Row1) = R6
            classical
            rw [List.perm_iff_count]
            intro a
            simp only [List.count_append, List.count_cons, List.count_nil]
            omega))).sublist (List.sublist_append_left _ _)
            refine ⟨k' + 1, V4, W4, V3, W3, _, _, by omega, by go_num, Hid.of h42, Hid.of (by simp only [List.length_append, List.length_singleton]; have := LS.out; omega), Hid.of (fun y hy => ?_), Hid.of (by simp only [List.length_append, List.length_singleton]; have := LS'.out; omega), Hid.of (fun y hy => ?_)⟩
            · rw [List.mem_append, List.mem_append] at hy
              rcases hy with (hy | hy) | hy
              · exact LL1.out y hy
              · rw [List.mem_singleton.1 hy]
                show pl.2.length ≤ _
                have := LL.out.2
                have := LM10.out
                omega
              · rw [List.mem_singleton.1 hy]
                show (mBases pl (now, p, fl)).length ≤ _
                have := BNL.out
                have := BL.out
                have := LN10.out
                omega
            · rw [List.mem_append] at hy
              rcases hy with hy | hy
              · exact LL2.out y hy
              · rw [List.mem_singleton.1 hy]
                show pl.1.2.length ≤ _
                have := LL.out.1
                have := LN10.out
                omega
          case measure => simp [RowKit.intOf]; omega
        obtain ⟨ti, rfl⟩ : ∃ ti : Nat, tier = (ti : Int) := ⟨tier.toNat, by omega⟩
        have HTI : Hid (ti < LN) := Hid.of (by omega)
        have t2 : (0 : Int) ≤ (ti : Int) := by omega
        have t3 : (ti : Int) < (LN : Int) := by omega
        clear t0 t1
        obtain ⟨z, hz⟩ : ∃ z, pl.1.2[ti]? = some z := ⟨_, List.getElem?_eq_getElem (by have := HTI.out; have := LL.out.1; omega)⟩
        obtain ⟨th, FIL0, FTH⟩ := made_filled M13.out hz sn
        have FIL := Hid.of FIL0
        obtain ⟨km, hkm⟩ : ∃ km, min k 100 = km := ⟨_, rfl⟩
        have KM100 : Hid (km ≤ 100) := Hid.of (by omega)
        have FKM : Hid (decide (th < km) = decide (th < k)) := Hid.of (by simp only [decide_eq_decide]; omega)
        have HKM := Hid.of hkm
        clear hz FIL0 FTH hkm
        have bd := (Below.refl w21.heap.size w21).drew
        have ZD := Hid.of (Z21.out.next bd)
        have DD := Hid.of (D21.out.next bd)
        clear bd Z21
        have d0 := (D21.out).head
        have d1 := ((D21.out).tail).head
        have d2 := (((D21.out).tail).tail).head
        have d3 := ((((D21.out).tail).tail).tail).head
        have d4 := (((((D21.out).tail).tail).tail).tail).head
        have d5 := ((((((D21.out).tail).tail).tail).tail).tail).head
        refine wp_region_noPanic ?_
        refine wp_region_held_drew (S := fun w' => w'.cell? ⟨bl, 0, none⟩ = some (.string pn) ∧ w'.cell? ⟨bl, 1, none⟩ = some (.slice psa LN psc) ∧ w'.cell? ⟨bl, 2, none⟩ = some (.slice pfa LM pfc) ∧ w'.cell? ⟨qb, 0, none⟩ = some (.string qn) ∧ w'.cell? ⟨qb, 1, none⟩ = some (.slice qsa LN qsc) ∧ w'.cell? ⟨qb, 2, none⟩ = some (.slice qfa LM qfc)) (by kernel_rfl) ?_ (fun hHeld => ?_)
        · exact ⟨d0, d1, d2, d3, d4, d5⟩
        refine wpAnyH_take (i := 0) (oi := ⟨_, _, _, _, _, _⟩) (v := ?_) rfl (by kernel_rfl) (by kernel_rfl) (by kernel_rfl) (fun _ _ _ h => h) (Or.inl ⟨by rfl, ?_⟩) hHeld ?_
        rotate_left
        · intro w' hSw
          try dsimp only at hSw
          go_simp
          all_goals with_reducible rfl
        simp only [Act.put, List.setIfInBounds_toArray, List.set_cons_zero, List.set_cons_succ]
        refine wpAnyH_take (i := 1) (oi := ⟨_, _, _, _, _, _⟩) (v := ?_) rfl (by kernel_rfl) (by kernel_rfl) (by kernel_rfl) (fun _ _ _ h => h) (Or.inl ⟨by rfl, ?_⟩) hHeld ?_
        rotate_left
        · intro w' hSw
          try dsimp only at hSw
          go_simp
          all_goals with_reducible rfl
        simp only [Act.put, List.setIfInBounds_toArray, List.set_cons_zero, List.set_cons_succ]
        refine wpAnyH_take (i := 2) (oi := ⟨_, _, _, _, _, _⟩) (v := ?_) rfl (by kernel_rfl) (by kernel_rfl) (by kernel_rfl) (fun _ _ _ h => h) (Or.inl ⟨by rfl, ?_⟩) hHeld ?_
        rotate_left
        · intro w' hSw
          try dsimp only at hSw
          go_simp
          all_goals with_reducible rfl
        simp only [Act.put, List.setIfInBounds_toArray, List.set_cons_zero, List.set_cons_succ]
        refine wpAnyH_take (i := 3) (oi := ⟨_, _, _, _, _, _⟩) (v := ?_) rfl (by kernel_rfl) (by kernel_rfl) (by kernel_rfl) (fun _ _ _ h => h) (Or.inl ⟨by rfl, ?_⟩) hHeld ?_
        rotate_left
        · intro w' hSw
          try dsimp only at hSw
          go_simp
          all_goals with_reducible rfl
        simp only [Act.put, List.setIfInBounds_toArray, List.set_cons_zero, List.set_cons_succ]
        refine wpAnyH_take (i := 4) (oi := ⟨_, _, _, _, _, _⟩) (v := ?_) rfl (by kernel_rfl) (by kernel_rfl) (by kernel_rfl) (fun _ _ _ h => h) (Or.inl ⟨by rfl, ?_⟩) hHeld ?_
        rotate_left
        · intro w' hSw
          try dsimp only at hSw
          go_simp
          all_goals with_reducible rfl
        simp only [Act.put, List.setIfInBounds_toArray, List.set_cons_zero, List.set_cons_succ]
        refine wpAnyH_take (i := 5) (oi := ⟨_, _, _, _, _, _⟩) (v := ?_) rfl (by kernel_rfl) (by kernel_rfl) (by kernel_rfl) (fun _ _ _ h => h) (Or.inl ⟨by rfl, ?_⟩) hHeld ?_
        rotate_left
        · intro w' hSw
          try dsimp only at hSw
          go_simp
          all_goals with_reducible rfl
        simp only [Act.put, List.setIfInBounds_toArray, List.set_cons_zero, List.set_cons_succ]
        refine wpAnyH_take (i := 6) (oi := ⟨_, _, _, _, _, _⟩) (v := ?_) rfl (by kernel_rfl) (by kernel_rfl) (by kernel_rfl) (fun _ _ _ h => h) (Or.inl ⟨by rfl, ?_⟩) hHeld ?_
        rotate_left
        · intro w' hSw
          try dsimp only at hSw
          go_simp
          all_goals with_reducible rfl
        simp only [Act.put, List.setIfInBounds_toArray, List.set_cons_zero, List.set_cons_succ]
        refine wpAnyH_take (i := 7) (oi := ⟨_, _, _, _, _, _⟩) (v := ?_) rfl (by kernel_rfl) (by kernel_rfl) (by kernel_rfl) (fun _ _ _ h => h) (Or.inl ⟨by rfl, ?_⟩) hHeld ?_
        rotate_left
        · intro w' hSw
          try dsimp only at hSw
          go_simp
          all_goals with_reducible rfl
        simp only [Act.put, List.setIfInBounds_toArray, List.set_cons_zero, List.set_cons_succ]
        refine wpAnyH_take (i := 8) (oi := ⟨_, _, _, _, _, _⟩) (v := ?_) rfl (by kernel_rfl) (by kernel_rfl) (by kernel_rfl) (fun _ _ _ h => h) (Or.inl ⟨by rfl, ?_⟩) hHeld ?_
        rotate_left
        · intro w' hSw
          try dsimp only at hSw
          go_simp
          all_goals with_reducible rfl
        simp only [Act.put, List.setIfInBounds_toArray, List.set_cons_zero, List.set_cons_succ]
        refine wpAnyH_take (i := 9) (oi := ⟨_, _, _, _, _, _⟩) (v := ?_) rfl (by kernel_rfl) (by kernel_rfl) (by kernel_rfl) (fun _ _ _ h => h) (Or.inl ⟨by rfl, ?_⟩) hHeld ?_
        rotate_left
        · intro w' hSw
          try dsimp only at hSw
          go_simp
          all_goals with_reducible rfl
        simp only [Act.put, List.setIfInBounds_toArray, List.set_cons_zero, List.set_cons_succ]
        refine wpAnyH_take (i := 10) (oi := ⟨_, _, _, _, _, _⟩) (v := ?_) rfl (by kernel_rfl) (by kernel_rfl) (by kernel_rfl) (fun _ _ _ h => h) (Or.inl ⟨by rfl, ?_⟩) hHeld ?_
        rotate_left
        · intro w' hSw
          try dsimp only at hSw
          go_simp
          all_goals with_reducible rfl
        simp only [Act.put, List.setIfInBounds_toArray, List.set_cons_zero, List.set_cons_succ]
        refine wpAnyH_take (i := 11) (oi := ⟨_, _, _, _, _, _⟩) (v := ?_) rfl (by kernel_rfl) (by kernel_rfl) (by kernel_rfl) (fun _ _ _ h => h) (Or.inl ⟨by rfl, ?_⟩) hHeld ?_
        rotate_left
        · intro w' hSw
          try dsimp only at hSw
          go_simp
          all_goals with_reducible rfl
        simp only [Act.put, List.setIfInBounds_toArray, List.set_cons_zero, List.set_cons_succ]
        refine wpAnyH_take (i := 12) (oi := ⟨_, _, _, _, _, _⟩) (v := ?_) rfl (by kernel_rfl) (by kernel_rfl) (by kernel_rfl) (fun _ _ _ h => h) (Or.inl ⟨by rfl, ?_⟩) hHeld ?_
        rotate_left
        · intro w' hSw
          try dsimp only at hSw
          go_simp
          all_goals with_reducible rfl
        simp only [Act.put, List.setIfInBounds_toArray, List.set_cons_zero, List.set_cons_succ]
        refine wpAnyH_take (i := 13) (oi := ⟨_, _, _, _, _, _⟩) (v := ?_) rfl (by kernel_rfl) (by kernel_rfl) (by kernel_rfl) (fun _ _ _ h => h) (Or.inl ⟨by rfl, ?_⟩) hHeld ?_
        rotate_left
        · intro w' hSw
          try dsimp only at hSw
          go_simp
          all_goals with_reducible rfl
        simp only [Act.put, List.setIfInBounds_toArray, List.set_cons_zero, List.set_cons_succ]
        refine wpAnyH_take (i := 14) (oi := ⟨_, _, _, _, _, _⟩) (v := ?_) rfl (by kernel_rfl) (by kernel_rfl) (by kernel_rfl) (fun _ _ _ h => h) (Or.inl ⟨by rfl, ?_⟩) hHeld ?_
        rotate_left
        · intro w' hSw
          try dsimp only at hSw
          go_simp
          all_goals with_reducible rfl
        simp only [Act.put, List.setIfInBounds_toArray, List.set_cons_zero, List.set_cons_succ]
        refine wpAnyH_take (i := 16) (oi := ⟨_, _, _, _, _, _⟩) (v := ?_) rfl (by kernel_rfl) (by kernel_rfl) (by kernel_rfl) (fun _ _ _ h => h) (Or.inl ⟨by rfl, ?_⟩) hHeld ?_
        rotate_left
        · intro w' hSw
          try dsimp only at hSw
          go_simp
          all_goals with_reducible rfl
        simp only [Act.put, List.setIfInBounds_toArray, List.set_cons_zero, List.set_cons_succ]
        refine wpAnyH_take (i := 17) (oi := ⟨_, _, _, _, _, _⟩) (v := ?_) rfl (by kernel_rfl) (by kernel_rfl) (by kernel_rfl) (fun _ _ _ h => h) (Or.inl ⟨by rfl, ?_⟩) hHeld ?_
        rotate_left
        · intro w' hSw
          try dsimp only at hSw
          go_simp
          all_goals with_reducible rfl
        simp only [Act.put, List.setIfInBounds_toArray, List.set_cons_zero, List.set_cons_succ]
        refine wpAnyH_take (i := 18) (oi := ⟨_, _, _, _, _, _⟩) (v := ?_) rfl (by kernel_rfl) (by kernel_rfl) (by kernel_rfl) (fun _ _ _ h => h) (Or.inl ⟨by rfl, ?_⟩) hHeld ?_
        rotate_left
        · intro w' hSw
          try dsimp only at hSw
          go_simp
          all_goals with_reducible rfl
        simp only [Act.put, List.setIfInBounds_toArray, List.set_cons_zero, List.set_cons_succ]
        refine wpAnyH_take (i := 19) (oi := ⟨_, _, _, _, _, _⟩) (v := ?_) rfl (by kernel_rfl) (by kernel_rfl) (by kernel_rfl) (fun _ _ _ h => h) (Or.inl ⟨by rfl, ?_⟩) hHeld ?_
        rotate_left
        · intro w' hSw
          try dsimp only at hSw
          go_simp
          all_goals with_reducible rfl
        simp only [Act.put, List.setIfInBounds_toArray, List.set_cons_zero, List.set_cons_succ]
        refine wpAnyH_take (i := 20) (oi := ⟨_, _, _, _, _, _⟩) (v := ?_) rfl (by kernel_rfl) (by kernel_rfl) (by kernel_rfl) (fun _ _ _ h => h) (Or.inl ⟨by rfl, ?_⟩) hHeld ?_
        rotate_left
        · intro w' hSw
          try dsimp only at hSw
          go_simp
          all_goals with_reducible rfl
        simp only [Act.put, List.setIfInBounds_toArray, List.set_cons_zero, List.set_cons_succ]
        refine wpAnyH_ready (rs := [15]) (by kernel_rfl) (by simp) ?_
        refine AllReadyH.cons (o := ⟨_, _, _, _, _, _⟩) rfl (fun K hK => ?_) AllReadyH.nil
        clear D21
        go_simp
        refine (filled_any _ pl k ti sn _ ZD.out.lr FM.out HSN.out).mono ?_
        rintro e wx2 ⟨rfl, bx⟩
        rw [FIL.out]
        have Z2 := Hid.of (ZD.out.next bx)
        have D2 := Hid.of (DD.out.next bx)
        clear bx ZD DD
        clear hHeld d0 d1 d2 d3 d4 d5
        have d0 := (D2.out).head
        have d1 := ((D2.out).tail).head
        have d2 := (((D2.out).tail).tail).head
        have d3 := ((((D2.out).tail).tail).tail).head
        have d4 := (((((D2.out).tail).tail).tail).tail).head
        have d5 := ((((((D2.out).tail).tail).tail).tail).tail).head
        refine hK.out _ _ ⟨d0, d1, d2, d3, d4, d5⟩ (fun hHeld => ?_)
        clear hK K
        try simp only [Act.put, List.setIfInBounds_toArray, List.set_cons_zero, List.set_cons_succ]
        refine wpAnyH_ready (rs := [21]) (by kernel_rfl) (by simp) ?_
        refine AllReadyH.cons (o := ⟨_, _, _, _, _, _⟩) rfl (fun K hK => ?_) AllReadyH.nil
        go_simp
        rw [HKM.out]
        refine (refFilled_any _ pl km ti sn _ Z2.out.pe.hl M13.out (by have := LL.out.1; have := HTI.out; omega) KM100.out (by have := SN60.out; omega)).mono ?_
        rintro e wx3 ⟨rfl, bx⟩
        rw [FIL.out, FKM.out]
        have Z3 := Hid.of (Z2.out.next bx)
        have D3 := Hid.of (D2.out.next bx)
        clear bx Z2 D2
        clear hHeld d0 d1 d2 d3 d4 d5
        have d0 := (D3.out).head
        have d1 := ((D3.out).tail).head
        have d2 := (((D3.out).tail).tail).head
        have d3 := ((((D3.out).tail).tail).tail).head
        have d4 := (((((D3.out).tail).tail).tail).tail).head
        have d5 := ((((((D3.out).tail).tail).tail).tail).tail).head
        refine hK.out _ _ ⟨d0, d1, d2, d3, d4, d5⟩ (fun hHeld => ?_)
        clear hK K
        try simp only [Act.put, List.setIfInBounds_toArray, List.set_cons_zero, List.set_cons_succ]
        refine wpAnyH_take (i := 22) (oi := ⟨_, _, _, _, _, _⟩) (v := ?_) rfl (by kernel_rfl) (by kernel_rfl) (by kernel_rfl) (fun _ _ _ h => h) (Or.inl ⟨by rfl, ?_⟩) hHeld ?_
        rotate_left
        · intro w' hSw
          try dsimp only at hSw
          go_simp
          all_goals with_reducible rfl
        simp only [Act.put, List.setIfInBounds_toArray, List.set_cons_zero, List.set_cons_succ]
        refine wpAnyH_take (i := 23) (oi := ⟨_, _, _, _, _, _⟩) (v := ?_) rfl (by kernel_rfl) (by kernel_rfl) (by kernel_rfl) (fun _ _ _ h => h) (Or.inl ⟨by rfl, ?_⟩) hHeld ?_
        rotate_left
        · intro w' hSw
          try dsimp only at hSw
          go_simp
          all_goals with_reducible rfl
        simp only [Act.put, List.setIfInBounds_toArray, List.set_cons_zero, List.set_cons_succ]
        refine wpAnyH_done (by kernel_rfl) ?_ _
        refine NoPanic.normal ?_
        clear hHeld d0 d1 d2 d3 d4 d5
        go_wp2
        go_roundw
        case rel =>
          have hRW := HRW.out
          subst hRW
          have h41 := Z3.out.bk
          have h42 : Here wb.heap.size (wb.heap.size + 1) (bookIP V4 W4 V3 W3) 45 wb _ (iblk V4 W4 (ls ++ [(.slice pfa LM pfc, u2, pl.2)] ++ [(.slice aa BN ac, u4, mBases pl (now, p, fl))]) ++ (pblk V3 W3 (ls' ++ [(.slice psa LN psc, u3, pl.1.2)]) ++ [])) [] := (h41.perm (show List.Perm (iblk V4 W4 (ls ++ [(.slice pfa LM pfc, u2, pl.2)] ++ [(.slice aa BN ac, u4, mBases pl (now, p, fl))]) ++ (pblk V3 W3 (ls' ++ [(.slice psa LN psc, u3, pl.1.2)]) ++ [lRow bl pn (.slice psa LN psc) (.slice pfa LM pfc), rRow rb now fn (.slice s1a PN s1c) (.slice f1a M f1c), pRow (.slice s1a PN s1c) p.2, iRow (.slice f1a M f1c) fl])) ((iblk V4 W4 (ls ++ [(.slice pfa LM pfc, u2, pl.2)] ++ [(.slice aa BN ac, u4, mBases pl (now, p, fl))]) ++ (pblk V3 W3 (ls' ++ [(.slice psa LN psc, u3, pl.1.2)]) ++ [])) ++ [lRow bl pn (.slice psa LN psc) (.slice pfa LM pfc), rRow rb now fn (.slice s1a PN s1c) (.slice f1a M f1c), pRow (.slice s1a PN s1c) p.2, iRow (.slice f1a M f1c) fl]) from (by
          generalize (iblk V4 W4 (ls ++ [(.slice pfa LM pfc, u2, pl.2)] ++ [(.slice aa BN ac, u4, mBases pl (now, p, fl))])) = R1
          generalize (pblk V3 W3 (ls' ++ [(.slice psa LN psc, u3, pl.1.2)])) = R2
          generalize (lRow bl pn (.slice psa LN psc) (.slice pfa LM pfc) : Row1) = R3
          generalize (rRow rb now fn (.slice s1a PN s1c) (.slice f1a M f1c) : Row1) = R4
          generalize (pRow (.slice s1a PN s1c) p.2 : Row1) = R5
          generalize (iRow (.slice f1a M f1c) fl : Row1) = R6
          classical
          rw [List.perm_iff_count]
          intro a
          simp only [List.count_append, List.count_cons, List.count_nil]
          omega))).sublist (List.sublist_append_left _ _)
          refine ⟨k' + 1, V4, W4, V3, W3, _, _, by omega, by go_num, Hid.of h42, Hid.of (by simp only [List.length_append, List.length_singleton]; have := LS.out; omega), Hid.of (fun y hy => ?_), Hid.of (by simp only [List.length_append, List.length_singleton]; have := LS'.out; omega), Hid.of (fun y hy => ?_)⟩
          · rw [List.mem_append, List.mem_append] at hy
            rcases hy with (hy | hy) | hy
            · exact LL1.out y hy
            · rw [List.mem_singleton.1 hy]
              show pl.2.length ≤ _
              have := LL.out.2
              have := LM10.out
              omega
            · rw [List.mem_singleton.1 hy]
              show (mBases pl (now, p, fl)).length ≤ _
              have := BNL.out
              have := BL.out
              have := LN10.out
              omega
          · rw [List.mem_append] at hy
            rcases hy with hy | hy
            · exact LL2.out y hy
            · rw [List.mem_singleton.1 hy]
              show pl.1.2.length ≤ _
              have := LL.out.1
              have := LN10.out
              omega
        case measure => simp [RowKit.intOf]; omega
      · have k1 : ¬ (k' : Int) < 2 := by omega
        go_wp2_with fail
        refine (planAlive_any _).mono ?_
        rintro e w50 ⟨rfl, b50⟩
        have J50 := Hid.of (J.out.next b50)
        clear b50 J P
        go_wp2_with fail
        refine (Apart_IP wb.heap.size (wb.heap.size + 1) V W ls V' W' ls' [] 45 wb _ (by have := LS.out; omega) LL1.out (by have := LS'.out; omega) LL2.out J50.out).mono ?_
        rintro e w51 ⟨rfl, b51⟩
        go_wp2
        go_ret
        exact ⟨rfl, BB.out.trans (b51.mono BB.out.size)⟩

end Go.Proofs.YtbhcafginmkaaaaGreat
