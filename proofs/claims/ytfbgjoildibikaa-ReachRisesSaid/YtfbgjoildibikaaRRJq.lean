/-
  ReachRises: how far back is reached never falls as time goes on; on the grid of its tier, if the floors are; what a tier has of a bucket at a later time it had ahead of it.
-/
import Derived.Deep.DeepCutAuto
import Derived.Test.YtfbgjoildibikaaRRIq
import Derived.Test.YtfbgjoildibikaaQ16
import Derived.Test.YtfbgjoildibikaaQ21
import Derived.Test.YtfbgjoildibikaaQ17
import Derived.Test.YtfbgjoildibikaaQ06
import Derived.Test.YtfbgjoildibikaaQ07
namespace Go.Proofs.Ytfbgjoildibikaa
open Go.RowKit Go.Lib

/-- The floors that are used lie between 0 and the clock's end twice over. -/
theorem grid_in {p : PolL} (hc : (pCheck p).1 = 0) {fl : List Int} {i : Nat} (hf : ∀ f ∈ fl.take i, 0 ≤ f ∧ f ≤ 2199023255552) : ∀ g ∈ rGrid (p.2.take i) (fl.take i), 0 ≤ g ∧ g ≤ 2199023255552 := by
  intro g hg
  obtain ⟨k, hk⟩ := List.getElem?_of_mem hg
  obtain ⟨f, t, h1, h2, rfl⟩ := rGrid_some hk
  have hf2 := hf f (List.mem_of_getElem? h1)
  have ht := tier_known hc (i := k) (t := t) (by
    rw [List.getElem?_take] at h2
    split at h2
    · exact h2
    · cases h2)
  have h3 : 0 ≤ f / t.2.1 := Int.ediv_nonneg hf2.1 (by omega)
  have h4 := Int.ediv_mul_le f (show t.2.1 ≠ 0 by omega)
  have h5 := Int.mul_nonneg h3 (show 0 ≤ t.2.1 by omega)
  omega

theorem grid_same (f e : Int) (h0 : 0 ≤ f) : f.tdiv e = f / e := Int.tdiv_eq_ediv_of_nonneg h0

/-- While floors are gathered: what came in, and the list so far. -/
structure GI (S : ReachSpec) (B : Nat) (w0 : World) (n : ByteArray) (sl gv : Value) (p : PolL) (fl : List Int) (i : Nat) (lv : Value) (w : World) : Prop where
  k : PBlk w B n sl
  q0 : PolRow w0 (polVal n sl) p
  g0 : CellRow w0 gv fl.length (fl.map (Value.int .i64))
  ok0 : S.Ok w0
  fr : Below B w0 w
  hB : B = w0.heap.size
  own : w.ownsRow (B + 1) 3 1 lv i ((rGrid (p.2.take i) (fl.take i)).map (Value.int .i64))

section
variable {S : ReachSpec} {B i : Nat} {w0 w w' : World} {n : ByteArray} {sl gv lv : Value} {p : PolL} {fl : List Int}
theorem GI.lt (h : GI S B w0 n sl gv p fl i lv w) : B < w.heap.size := (Array.getElem?_eq_some_iff.1 h.k).1
theorem GI.next (h : GI S B w0 n sl gv p fl i lv w) (c : Below w.heap.size w w') : GI S B w0 n sl gv p fl i lv w' :=
  ⟨h.k.kept c, h.q0, h.g0, h.ok0, h.fr.trans (c.mono (Nat.le_of_lt h.lt)), h.hB, (Step.of_below (F := fun _ => False) c).own h.own (fun _ _ c => c)⟩
theorem GI.fr' (h : GI S B w0 n sl gv p fl i lv w) : Below w0.heap.size w0 w := by have := h.fr; rw [h.hB] at this; exact this
theorem GI.q (h : GI S B w0 n sl gv p fl i lv w) : PolRow w (polVal n sl) p := h.q0.kept h.fr'
theorem GI.g (h : GI S B w0 n sl gv p fl i lv w) : CellRow w gv fl.length (fl.map (Value.int .i64)) := h.g0.kept h.fr'
theorem GI.ok (h : GI S B w0 n sl gv p fl i lv w) : S.Ok w := S.kept h.ok0 h.fr'

/-- A floor more. -/
theorem GI.more (h : GI S B w0 n sl gv p fl i lv w) {f gg : Int} {x : TierL} {v' : Value} (hf : fl[i]? = some f) (hx : p.2[i]? = some x) (he : f / x.2.1 * x.2.1 = gg) (g : w.grownBy w' lv.ownBlock)
    (ho : w'.ownsRow (B + 1) 3 1 v' (i + 1) ((rGrid (p.2.take i) (fl.take i)).map (Value.int .i64) ++ [.int .i64 gg])) : GI S B w0 n sl gv p fl (i + 1) v' w' := by
  have hge : ∀ k, lv.ownBlock = some k → B + 1 ≤ k := fun k hk => own_ge h.own hk
  refine ⟨?_, h.q0, h.g0, h.ok0, h.fr.grown g (Nat.le_of_lt h.lt) (fun k hk => by have := hge k hk; omega), h.hB, ?_⟩
  · unfold PBlk
    rw [g.block B h.lt (fun e => by have := hge B e.symm; omega)]
    exact h.k
  · rw [rGrid_next hf hx, he, List.map_append]
    exact ho
end

theorem step_grown_at {w w' : World} {p : Nat} (g : w.grownBy w' (some p)) : Step (fun j => j = p) (fun j => j = p) w w' :=
  ⟨g.os, g.tape, g.output, g.size, fun k hk hn => g.block k hk (fun e => hn (Option.some.inj e)), fun _ h => .inl h⟩

section
variable {S : ReachSpec} {B i : Nat} {w0 w w' : World} {n : ByteArray} {sl gv lv : Value} {p : PolL} {fl : List Int}
theorem GI.put (h : GI S B w0 n sl gv p fl i lv w) {b : Nat} (g : w.grownBy w' (some b)) (hb : B < b) (hne : ∀ k, lv.ownBlock = some k → k ≠ b) : GI S B w0 n sl gv p fl i lv w' := by
  refine ⟨?_, h.q0, h.g0, h.ok0, h.fr.grown g (Nat.le_of_lt h.lt) (fun k hk => by cases hk; omega), h.hB, (step_grown_at g).own h.own (fun k hk c => hne k hk c)⟩
  unfold PBlk
  rw [g.block B h.lt (fun e => by have := Option.some.inj e; omega)]
  exact h.k

theorem GI.row (h : GI S B w0 n sl gv p fl i lv w) {gl : List Int} (hg : rGrid (p.2.take i) (fl.take i) = gl) (hl : gl.length = i) : CellRow w lv gl.length (gl.map (Value.int .i64)) := by
  have := own_row h.own
  rw [hg] at this
  rw [hl]
  exact this
end

/-- Neither row lies at b. -/
def NotAt (s f : Value) (b : Nat) : Prop := (∀ g, s.ownBlock = some g → g ≠ b) ∧ ∀ g, f.ownBlock = some g → g ≠ b

/-- The rows of an answered Reach. -/
structure RO (w : World) (s f : Value) (r : RchL) : Prop where
  os : w.ownsRow 0 63 4 s r.2.1.2.length (flat penc r.2.1.2)
  of : w.ownsRow 0 3 1 f r.2.2.length (r.2.2.map (Value.int .i64))

theorem RO.made {B : Nat} {w : World} {s f : Value} {r : RchL} (h1 : w.ownsRow B 63 4 s r.2.1.2.length (flat penc r.2.1.2)) (h2 : w.ownsRow B 3 1 f r.2.2.length (r.2.2.map (Value.int .i64))) : RO w s f r ∧ ∀ b, b < B → NotAt s f b :=
  ⟨⟨own_mono h1 (Nat.zero_le _), own_mono h2 (Nat.zero_le _)⟩, fun b hb => ⟨fun g hg => by have := own_ge h1 hg; omega, fun g hg => by have := own_ge h2 hg; omega⟩⟩

theorem RO.next {w w' : World} {s f : Value} {r : RchL} (h : RO w s f r) (b : Below w.heap.size w w') : RO w' s f r :=
  ⟨(Step.of_below (F := fun _ => False) b).own h.os (fun _ _ c => c), (Step.of_below (F := fun _ => False) b).own h.of (fun _ _ c => c)⟩

theorem RO.new {w : World} {s f : Value} {r : RchL} (h : RO w s f r) : NotAt s f w.heap.size :=
  ⟨fun g hg => by have := (h.os.lt g hg).2; omega, fun g hg => by have := (h.of.lt g hg).2; omega⟩

theorem RO.put {w w' : World} {s f : Value} {r : RchL} (h : RO w s f r) {b : Nat} (g : w.grownBy w' (some b)) (hn : NotAt s f b) : RO w' s f r :=
  ⟨(step_grown_at g).own h.os (fun k hk c => hn.1 k hk c), (step_grown_at g).own h.of (fun k hk c => hn.2 k hk c)⟩

theorem RO.row {w : World} {s f : Value} {r : RchL} (h : RO w s f r) : RchRow w (rVal r s f) r := ⟨s, f, rfl, own_row h.os, own_row h.of, own_cap h.os, own_cap h.of⟩

/-- Two Reaches at two times, in variables, and the floors on the grid. -/
structure RZ (S : ReachSpec) (B : Nat) (w0 : World) (n : ByteArray) (sl gv : Value) (p : PolL) (fl gl : List Int) (i : Nat) (lv : Value) (ba bb : Nat) (now more : Int) (s f s' f' : Value) (w : World) : Prop where
  gi : GI S B w0 n sl gv p fl i lv w
  ka : KBlk w ba now n s f
  kb : KBlk w bb (now + more) n s' f'
  ra : RchRow w (.agg #[.int .i64 now, .string n, s, f]) (now, p, gl)
  rb : RchRow w (.agg #[.int .i64 (now + more), .string n, s', f']) (now + more, p, gl)

/-- The same, ahead of the two stores. -/
structure LZ (S : ReachSpec) (B : Nat) (w0 : World) (n : ByteArray) (sl gv : Value) (p : PolL) (fl gl : List Int) (i : Nat) (lv : Value) (ba bb : Nat) (now more : Int) (s f s' f' : Value) (w : World) : Prop where
  gi : GI S B w0 n sl gv p fl i lv w
  za : KBlk w ba 0 ⟨#[]⟩ (.slice none 0 0) (.slice none 0 0)
  zb : KBlk w bb 0 ⟨#[]⟩ (.slice none 0 0) (.slice none 0 0)
  oa : RO w s f (now, p, gl)
  ob : RO w s' f' (now + more, p, gl)
  na : NotAt s f ba ∧ NotAt s' f' ba ∧ ∀ k, lv.ownBlock = some k → k ≠ ba
  nb : NotAt s f bb ∧ NotAt s' f' bb ∧ ∀ k, lv.ownBlock = some k → k ≠ bb
  ne : ba ≠ bb
  hba : B < ba
  hbb : B < bb

section
variable {S : ReachSpec} {B i ba bb : Nat} {w0 w w' : World} {n : ByteArray} {sl gv lv s f s' f' : Value} {p : PolL} {fl gl : List Int} {now more : Int}
theorem RZ.next (h : RZ S B w0 n sl gv p fl gl i lv ba bb now more s f s' f' w) (c : Below w.heap.size w w') : RZ S B w0 n sl gv p fl gl i lv ba bb now more s f s' f' w' :=
  ⟨h.gi.next c, kblk_next h.ka c, kblk_next h.kb c, h.ra.kept c, h.rb.kept c⟩

theorem RZ.at (h : RZ S B w0 n sl gv p fl gl i lv ba bb now more s f s' f' w) : w.cell? ⟨B, 0, none⟩ = some (.string n) ∧ w.cell? ⟨B, 1, none⟩ = some sl ∧ w.cell? ⟨ba, 0, none⟩ = some (.int .i64 now) ∧ w.cell? ⟨ba, 1, none⟩ = some (.string n) ∧ w.cell? ⟨ba, 2, none⟩ = some s ∧ w.cell? ⟨ba, 3, none⟩ = some f ∧ w.cell? ⟨bb, 0, none⟩ = some (.int .i64 (now + more)) ∧ w.cell? ⟨bb, 1, none⟩ = some (.string n) ∧ w.cell? ⟨bb, 2, none⟩ = some s' ∧ w.cell? ⟨bb, 3, none⟩ = some f' :=
  ⟨h.gi.k.at.1, h.gi.k.at.2, (kblk_at h.ka).1, (kblk_at h.ka).2.1, (kblk_at h.ka).2.2.1, (kblk_at h.ka).2.2.2, (kblk_at h.kb).1, (kblk_at h.kb).2.1, (kblk_at h.kb).2.2.1, (kblk_at h.kb).2.2.2⟩

theorem RZ.tier (h : RZ S B w0 n sl gv p fl gl i lv ba bb now more s f s' f' w) {b o : Nat} {v : Value} (hb : b < w0.heap.size) (hc : w0.cell? ⟨b, o, none⟩ = some v) : w.cell? ⟨b, o, none⟩ = some v := by
  rw [h.gi.fr'.cell hb]
  exact hc

theorem RZ.floor {lg lc j : Nat} {g : Int} (h : RZ S B w0 n sl gv p fl gl i (.slice (some ⟨lg, 0, none⟩) i lc) ba bb now more s f s' f' w) (hg : rGrid (p.2.take i) (fl.take i) = gl) (hj : gl[j]? = some g) (hi : j < i) : w.cell? ⟨lg, j, none⟩ = some (.int .i64 g) := by
  have ho := h.gi.own
  rw [hg] at ho
  rw [ho.cellAt j (by omega), List.getElem?_map, hj]
  rfl

theorem LZ.one (h : LZ S B w0 n sl gv p fl gl i lv ba bb now more s f s' f' w) : GI S B w0 n sl gv p fl i lv (setR w ba now n s f) ∧ KBlk (setR w ba now n s f) bb 0 ⟨#[]⟩ (.slice none 0 0) (.slice none 0 0) :=
  ⟨h.gi.put (setR_grown w ba now n s f) h.hba h.na.2.2, kblk_grown h.zb (setR_grown w ba now n s f) (fun e => h.ne e.symm)⟩

theorem LZ.done (h : LZ S B w0 n sl gv p fl gl i lv ba bb now more s f s' f' w) (hn : p.1 = n) : RZ S B w0 n sl gv p fl gl i lv ba bb now more s f s' f' (setR (setR w ba now n s f) bb (now + more) n s' f') := by
  have g1 := setR_grown w ba now n s f
  have g2 := setR_grown (setR w ba now n s f) bb (now + more) n s' f'
  have r1 := ((h.oa.put g1 h.na.1).put g2 h.nb.1).row
  have r2 := ((h.ob.put g1 h.na.2.1).put g2 h.nb.2.1).row
  unfold rVal at r1 r2
  simp only at r1 r2
  rw [hn] at r1 r2
  exact ⟨h.one.1.put g2 h.hbb h.nb.2.2, kblk_grown (kblk_set h.za) g2 h.ne, kblk_set h.one.2, r1, r2⟩
end

set_option maxRecDepth 20000 in
set_option maxHeartbeats 12800000 in
theorem reachRises_main (S : ReachSpec) (v gv : Value) (p : PolL) (now more tier t : Int) (fl : List Int) (w : World) (hS : S.Ok w) (hv : PolRow w v p) (hp : ∀ x ∈ p.2, TIn x) (htier : In64 tier) (ht : In64 t) (hg : NumRow .i64 w gv fl) :
    Calls Try.prog 4 #[v, .int .i64 now, .int .i64 more, gv, .int .i64 tier, .int .i64 t] w fun e w' => e = .returned (.bool true) ∧ Below w.heap.size w w' := by
  obtain ⟨sl, rfl, hsl, hsk⟩ := hv
  have HSL := Hid.of hsl
  obtain ⟨sa, sc, rfl, -⟩ := hsl
  have HG := Hid.of (NumRow.cells' hg)
  obtain ⟨ga, gc, rfl, -⟩ := hg
  obtain ⟨n, hn⟩ : ∃ n, p.1 = n := ⟨_, rfl⟩
  obtain ⟨N, hN⟩ : ∃ N, p.2.length = N := ⟨_, rfl⟩
  obtain ⟨M, hM⟩ : ∃ M, fl.length = M := ⟨_, rfl⟩
  rw [hn, hN, hM]
  rw [hN] at HSL
  have HSK : Hid (CapOk (.slice sa N sc)) := Hid.of (by rw [← hN]; exact hsk)
  clear hsk
  obtain ⟨w1, hw1⟩ : ∃ w1, w.alloc (.cells #[.string n, .slice sa N sc] 24) = w1 := ⟨_, rfl⟩
  have b1 : Below w.heap.size w w1 := by rw [← hw1]; exact (Below.refl _ _).alloc (Nat.le_refl _) _
  have I1 : Hid (GI S w.heap.size w n (.slice sa N sc) (.slice ga M gc) p fl 0 (.slice none 0 0) w1) := Hid.of
    ⟨by rw [← hw1]; exact PBlk.made w _ _, ⟨_, by rw [hn], by rw [hN]; exact HSL.out, HSK.out⟩, by have h := HG.out; rw [hM] at h; rw [hM]; exact h, hS, b1, rfl, World.ownsRow_nil _ _ _ 1⟩
  have HW := Hid.of hw1
  have HN := Hid.of hN
  have HM := Hid.of hM
  have Hn := Hid.of hn
  have HP := Hid.of hp
  have HTI := Hid.of htier
  have HT := Hid.of ht
  clear hw1 b1 hN hM hn hS hp HSL HG htier ht
  obtain ⟨c0, c1⟩ := I1.out.k.at
  rw [← HW.out] at c0 c1
  go_enter Try.func4, Try.ntmps4
  go_wp2_with fail
  rw [HW.out]
  clear HW c0 c1
  refine (Small_any _ p _ I1.out.q).mono ?_
  rintro e w2 ⟨r, rfl, hr, b2⟩
  have I2 := Hid.of (I1.out.next b2)
  clear b2 I1
  obtain ⟨c0, c1⟩ := I2.out.k.at
  have BAD : Hid (∀ w9, GI S w.heap.size w n (.slice sa N sc) (.slice ga M gc) p fl 0 (.slice none 0 0) w9 → Calls Try.prog 10 #[] w9 fun e w' => e = .returned (.bool true) ∧ Below w.heap.size w w') := Hid.of (fun w9 h => by
    refine (reachAlive_any S w9 h.ok).mono ?_
    rintro e w' ⟨he, b⟩
    exact ⟨he, h.fr.trans (b.mono (by have := (Array.getElem?_eq_some_iff.1 h.k).1; omega))⟩)
  cases r with
  | false =>
    go_wp2_with fail
    refine (BAD.out _ I2.out).mono ?_
    rintro e w3 ⟨rfl, b3⟩
    go_wp2
    go_ret
    exact ⟨rfl, b3⟩
  | true =>
    have SP := Hid.of (fit_of HP.out (hr.out rfl))
    have N10 : Hid (N ≤ 10) := Hid.of (by rw [← HN.out]; exact (hr.out rfl).1)
    have SZ := Hid.of (hr.out rfl)
    clear hr
    by_cases hbad : now < 0 ∨ (¬ now < 0 ∧ 2199023255552 < now) ∨ (¬ now < 0 ∧ ¬ 2199023255552 < now ∧ more < 0) ∨ (¬ now < 0 ∧ ¬ 2199023255552 < now ∧ ¬ more < 0 ∧ 2199023255552 < more) ∨ (¬ now < 0 ∧ ¬ 2199023255552 < now ∧ ¬ more < 0 ∧ ¬ 2199023255552 < more ∧ (10 : Int) < (M : Int))
    · rcases hbad with h1 | ⟨h1, h2⟩ | ⟨h1, h2, h3⟩ | ⟨h1, h2, h3, h4⟩ | ⟨h1, h2, h3, h4, h5⟩
      all_goals
        go_wp2_with fail
        refine (BAD.out _ I2.out).mono ?_
        rintro e w3 ⟨rfl, b3⟩
        go_wp2
        go_ret
        exact ⟨rfl, b3⟩
    · obtain ⟨h1, h2, h3, h4, h5⟩ : ¬ now < 0 ∧ ¬ 2199023255552 < now ∧ ¬ more < 0 ∧ ¬ 2199023255552 < more ∧ ¬ (10 : Int) < (M : Int) := by omega
      clear hbad
      have NB := Hid.of (show 0 ≤ now ∧ now ≤ 2199023255552 ∧ 0 ≤ more ∧ more ≤ 2199023255552 ∧ M ≤ 10 by omega)
      go_wp2_with fail
      clear h1 h2 h3 h4 h5
      refine (refCheck_any _ p _ I2.out.q SP.out.1 (by have := SZ.out.2.1; unfold maxLen; omega) (fun x hx => by have := SZ.out.2.2 x hx; unfold maxLen; omega)).mono ?_
      rintro e w3 ⟨rfl, b3⟩
      have I3 := Hid.of (I2.out.next b3)
      clear b3 I2 c0 c1
      obtain ⟨c0, c1⟩ := I3.out.k.at
      obtain ⟨ce, cn, hce⟩ : ∃ ce cn, pCheck p = (ce, cn) := ⟨_, _, rfl⟩
      have HCE := Hid.of hce
      rw [hce]
      simp only
      by_cases hbad : ce ≠ 0 ∨ tier < 0 ∨ (N : Int) ≤ tier
      · have hb2 : (ce != 0) = true ∨ ((ce != 0) = false ∧ tier < 0) ∨ ((ce != 0) = false ∧ ¬ tier < 0 ∧ tier ≥ (N : Int)) := by
          by_cases h0 : ce = 0
          · have : (ce != 0) = false := by simp [h0]
            rcases hbad with h | h | h
            · exact absurd h0 h
            · exact .inr (.inl ⟨this, h⟩)
            · by_cases hz : tier < 0
              · exact .inr (.inl ⟨this, hz⟩)
              · exact .inr (.inr ⟨this, hz, h⟩)
          · exact .inl (by simpa using h0)
        clear hce hbad
        rcases hb2 with h1 | ⟨h1, h2⟩ | ⟨h1, h2, h3⟩
        all_goals
          go_wp2_with fail
          refine (BAD.out _ I3.out).mono ?_
          rintro e w4 ⟨rfl, b4⟩
          go_wp2
          go_ret
          exact ⟨rfl, b4⟩
      · obtain ⟨h0, h1, h2⟩ : ce = 0 ∧ ¬ tier < 0 ∧ ¬ tier ≥ (N : Int) := by omega
        subst h0
        have HC : Hid ((pCheck p).1 = 0) := Hid.of (by rw [hce])
        obtain ⟨j, rfl⟩ : ∃ j : Nat, tier = j := ⟨tier.toNat, by omega⟩
        have HJ : Hid (j < N) := Hid.of (by omega)
        clear hce hbad HCE
        go_wp2_with fail
        clear h1 h2 c0 c1
        obtain ⟨i0, hi, hz0, hz1, hz2⟩ := info_parts (show (Try.prog.info? 3).map (fun i => (i.zero, i.size, i.bytes)) = some (some (.int .i64 0), 1, 8) by kernel_rfl)
        have HI := Hid.of hi
        have HZ0 := Hid.of hz0
        have HZ1 := Hid.of hz1
        have HZ2 := Hid.of hz2
        clear hi hz0 hz1 hz2
        go_loopw [15, 16] (fun lv iv wr => ∃ i : Nat, i ≤ N ∧ i ≤ M ∧ iv = .int .i64 i ∧ Hid (GI S w.heap.size w n (.slice sa N sc) (.slice ga M gc) p fl i lv wr) ∧ Hid (∀ f ∈ fl.take i, 0 ≤ f ∧ f ≤ 2199023255552)) (fun _ iv _ => M - (RowKit.intOf iv).toNat)
        case atStart => exact ⟨0, Nat.zero_le _, Nat.zero_le _, rfl, I3, Hid.of (by simp)⟩
        case round =>
          clear I3
          obtain ⟨i, hiN, hiM, rfl, I, FI⟩ := hrel
          obtain ⟨c0, c1⟩ := I.out.k.at
          have j0 : (0 : Int) ≤ (i : Int) := Int.natCast_nonneg _
          obtain ⟨both, hboth⟩ : ∃ both, decide (i < M ∧ i < N) = both := ⟨_, rfl⟩
          have HBO := Hid.of hboth
          clear hboth
          go_upto_region 8 with fail
          go_cut [77] (fun bv wx => bv = .bool both ∧ wr = wx)
          case first =>
            have hex : (¬ (i : Int) < (M : Int)) ∨ ((i : Int) < (M : Int) ∧ ¬ (i : Int) < (N : Int)) ∨ ((i : Int) < (M : Int) ∧ (i : Int) < (N : Int)) := by omega
            rcases hex with m1 | ⟨m1, m2⟩ | ⟨m1, m2⟩
            · go_wp2_with fail
              go_meet
              exact ⟨congrArg Value.bool (by rw [← HBO.out]; exact (decide_eq_false (by omega)).symm), rfl⟩
            · go_wp2_with fail
              go_meet
              exact ⟨congrArg Value.bool (by rw [← HBO.out]; exact (decide_eq_false (by omega)).symm), rfl⟩
            · go_wp2_with fail
              go_meet
              exact ⟨congrArg Value.bool (by rw [← HBO.out]; exact (decide_eq_true (by omega)).symm), rfl⟩
          case rest =>
            obtain ⟨rfl, rfl⟩ := hcut
            cases both with
            | true =>
              obtain ⟨hM, hN⟩ := of_decide_eq_true HBO.out
              clear HBO
              have m1 : (i : Int) < (M : Int) := by omega
              have m2 : (i : Int) < (N : Int) := by omega
              have m9 : (i : Int) ≤ 10 := by have := N10.out; omega
              have row := I.out.g0
              rw [HM.out] at row
              obtain ⟨f, hf⟩ : ∃ f, fl[i]? = some f := ⟨_, List.getElem?_eq_getElem (by rw [HM.out]; exact hM)⟩
              obtain ⟨gb, go, rfl, hgl, hgc⟩ := int_at row i (by rw [HM.out]; exact hM) HM.out.symm
              have hfd : fl.getD i 0 = f := by rw [List.getD_eq_getElem?_getD, hf]; rfl
              rw [hfd, ← I.out.fr'.cell hgl] at hgc
              have HF := Hid.of hf
              have HGW := Hid.of hgl
              have HGL := Hid.of (Nat.lt_of_lt_of_le hgl I.out.fr'.size)
              clear row hfd hgl hf
              by_cases hb : f < 0 ∨ (¬ f < 0 ∧ 2199023255552 < f)
              · have BK := Hid.of (I.out)
                have ALV : Hid (Calls Try.prog 10 #[] wr fun e w' => e = .returned (.bool true) ∧ Below w.heap.size w w') := Hid.of (by
                  refine (reachAlive_any S wr BK.out.ok).mono ?_
                  rintro e w' ⟨he, b⟩
                  exact ⟨he, BK.out.fr.trans (b.mono (by have := (Array.getElem?_eq_some_iff.1 BK.out.k).1; omega))⟩)
                rcases hb with g1 | ⟨g1, g2⟩
                all_goals
                  go_wp2_with fail
                  refine ALV.out.mono ?_
                  rintro e w4 ⟨rfl, b4⟩
                  go_wp2
                  go_ret
                  exact ⟨rfl, b4⟩
              · obtain ⟨g1, g2⟩ : ¬ f < 0 ∧ ¬ 2199023255552 < f := by omega
                have FB := Hid.of (show 0 ≤ f ∧ f ≤ 2199023255552 by omega)
                obtain ⟨x, hx⟩ : ∃ x, p.2[i]? = some x := ⟨_, List.getElem?_eq_getElem (by rw [HN.out]; exact hN)⟩
                have HX := Hid.of hx
                have KX := Hid.of (tier_known HC.out hx)
                obtain ⟨qs, hqs, hqr, -⟩ := I.out.q0
                have hqs2 : qs = .slice sa N sc := by
                  unfold polVal at hqs
                  simp only [Value.agg.injEq] at hqs
                  cases hqs
                  rfl
                subst hqs2
                clear hqs
                rw [HN.out] at hqr
                obtain ⟨b1, o1, rfl, hb1, hc1⟩ := p_at hqr i _ hx
                obtain ⟨-, q1, -, -⟩ := hc1
                rw [← I.out.fr'.cell hb1] at q1
                have HBW := Hid.of hb1
                have HBL := Hid.of (Nat.lt_of_lt_of_le hb1 I.out.fr'.size)
                have e0 : ¬ x.2.1 = 0 := by have := KX.out.1; omega
                obtain ⟨q, hq⟩ : ∃ q, f / x.2.1 = q := ⟨_, rfl⟩
                have q2 : f.tdiv x.2.1 = q := by rw [grid_same f _ FB.out.1, hq]
                have q3 : 0 ≤ q ∧ 0 ≤ q * x.2.1 ∧ q * x.2.1 ≤ f := by
                  have h3 : 0 ≤ f / x.2.1 := Int.ediv_nonneg FB.out.1 (by have := KX.out.1; omega)
                  have h4 := Int.ediv_mul_le f e0
                  have h5 := Int.mul_nonneg h3 (show 0 ≤ x.2.1 by have := KX.out.1; omega)
                  rw [hq] at h3 h4 h5
                  exact ⟨h3, h5, h4⟩
                have q9 : q ≤ f := by
                  have h6 := Int.mul_le_mul_of_nonneg_left (show 1 ≤ x.2.1 from KX.out.1) q3.1
                  omega
                obtain ⟨gg, hgg⟩ : ∃ gg, q * x.2.1 = gg := ⟨_, rfl⟩
                have qw1 : IntKind.i64.wrap q = q := by
                  have := FB.out
                  simp [IntKind.wrap, IntKind.bits, IntKind.signed]
                  omega
                have qw2 : IntKind.i64.wrap gg = gg := by
                  rw [hgg] at q3
                  have := FB.out
                  simp [IntKind.wrap, IntKind.bits, IntKind.signed]
                  omega
                have qw : IntKind.i64.wrap (IntKind.i64.wrap q * x.2.1) = gg := by rw [qw1, hgg, qw2]
                have GB2 := Hid.of (show 0 ≤ gg ∧ gg ≤ 2199023255552 by have := FB.out; rw [← hgg]; omega)
                have GG := Hid.of (show f / x.2.1 * x.2.1 = gg by rw [hq, hgg])
                have HQ := Hid.of hq
                have Q3 := Hid.of q3
                obtain ⟨xe, hxe⟩ : ∃ xe, x.2.1 = xe := ⟨_, rfl⟩
                rw [hxe] at q1 e0 q2 qw
                have HXE := Hid.of hxe
                have OX := Hid.of I.out.own
                have R12 : Hid (PBlk wr w.heap.size n (.slice (some ⟨b1, o1, none⟩) N sc)) := Hid.of I.out.k
                clear hb hx hqr hb1 hq q3 q9 hxe qw1 qw2 hgg
                go_wp2_with fail
                refine wp_region_noPanic ?_
                refine wp_region_held_drew (S := fun w' => w'.cell? ⟨w.heap.size, 0, none⟩ = some (.string n) ∧ w'.cell? ⟨w.heap.size, 1, none⟩ = some (.slice (some ⟨b1, o1, none⟩) N sc) ∧ w'.cell? ⟨gb, go + i, none⟩ = some (.int .i64 f) ∧ w'.cell? ⟨b1, o1 + i * 4 + 1, none⟩ = some (.int .i64 xe)) (by kernel_rfl) ?_ (fun hHeld => ?_)
                · exact ⟨c0, c1, hgc, q1⟩
                refine wpAnyH_take (i := 0) (oi := ⟨_, _, _, _, _, _⟩) (v := ?_) rfl (by kernel_rfl) (by kernel_rfl) (by kernel_rfl) (fun _ _ _ h => h) (Or.inl ⟨by rfl, ?_⟩) hHeld ?_
                rotate_left
                · intro w' hSw
                  try dsimp only at hSw
                  go_simp
                  all_goals with_reducible rfl
                simp only [Act.put, List.setIfInBounds_toArray, List.set_cons_zero, List.set_cons_succ]
                refine wpAnyH_take (i := 1) (oi := ⟨_, _, _, _, _, _⟩) (v := ?_) rfl (by kernel_rfl) (by kernel_rfl) (by kernel_rfl) (fun _ _ _ h => h) (Or.inl ⟨by rfl, ?_⟩) hHeld ?_
                rotate_left
                · intro w' hSw
                  try dsimp only at hSw
                  go_simp
                  all_goals with_reducible rfl
                simp only [Act.put, List.setIfInBounds_toArray, List.set_cons_zero, List.set_cons_succ]
                refine wpAnyH_take (i := 2) (oi := ⟨_, _, _, _, _, _⟩) (v := ?_) rfl (by kernel_rfl) (by kernel_rfl) (by kernel_rfl) (fun _ _ _ h => h) (Or.inl ⟨by rfl, ?_⟩) hHeld ?_
                rotate_left
                · intro w' hSw
                  try dsimp only at hSw
                  go_simp
                  all_goals with_reducible rfl
                simp only [Act.put, List.setIfInBounds_toArray, List.set_cons_zero, List.set_cons_succ]
                refine wpAnyH_take (i := 3) (oi := ⟨_, _, _, _, _, _⟩) (v := ?_) rfl (by kernel_rfl) (by kernel_rfl) (by kernel_rfl) (fun _ _ _ h => h) (Or.inl ⟨by rfl, ?_⟩) hHeld ?_
                rotate_left
                · intro w' hSw
                  try dsimp only at hSw
                  go_simp
                  all_goals with_reducible rfl
                simp only [Act.put, List.setIfInBounds_toArray, List.set_cons_zero, List.set_cons_succ]
                refine wpAnyH_take (i := 4) (oi := ⟨_, _, _, _, _, _⟩) (v := ?_) rfl (by kernel_rfl) (by kernel_rfl) (by kernel_rfl) (fun _ _ _ h => h) (Or.inl ⟨by rfl, ?_⟩) hHeld ?_
                rotate_left
                · intro w' hSw
                  try dsimp only at hSw
                  go_simp
                  all_goals with_reducible rfl
                simp only [Act.put, List.setIfInBounds_toArray, List.set_cons_zero, List.set_cons_succ]
                refine wpAnyH_take (i := 5) (oi := ⟨_, _, _, _, _, _⟩) (v := ?_) rfl (by kernel_rfl) (by kernel_rfl) (by kernel_rfl) (fun _ _ _ h => h) (Or.inl ⟨by rfl, ?_⟩) hHeld ?_
                rotate_left
                · intro w' hSw
                  try dsimp only at hSw
                  go_simp
                  all_goals with_reducible rfl
                simp only [Act.put, List.setIfInBounds_toArray, List.set_cons_zero, List.set_cons_succ]
                refine wpAnyH_take (i := 6) (oi := ⟨_, _, _, _, _, _⟩) (v := ?_) rfl (by kernel_rfl) (by kernel_rfl) (by kernel_rfl) (fun _ _ _ h => h) (Or.inl ⟨by rfl, ?_⟩) hHeld ?_
                rotate_left
                · intro w' hSw
                  try dsimp only at hSw
                  go_simp
                  all_goals with_reducible rfl
                simp only [Act.put, List.setIfInBounds_toArray, List.set_cons_zero, List.set_cons_succ]
                refine wpAnyH_take (i := 7) (oi := ⟨_, _, _, _, _, _⟩) (v := ?_) rfl (by kernel_rfl) (by kernel_rfl) (by kernel_rfl) (fun _ _ _ h => h) (Or.inl ⟨by rfl, ?_⟩) hHeld ?_
                rotate_left
                · intro w' hSw
                  try dsimp only at hSw
                  go_simp
                  all_goals with_reducible rfl
                simp only [Act.put, List.setIfInBounds_toArray, List.set_cons_zero, List.set_cons_succ]
                refine wpAnyH_take (i := 8) (oi := ⟨_, _, _, _, _, _⟩) (v := ?_) rfl (by kernel_rfl) (by kernel_rfl) (by kernel_rfl) (fun _ _ _ h => h) (Or.inl ⟨by rfl, ?_⟩) hHeld ?_
                rotate_left
                · intro w' hSw
                  try dsimp only at hSw
                  go_simp
                  all_goals with_reducible rfl
                simp only [Act.put, List.setIfInBounds_toArray, List.set_cons_zero, List.set_cons_succ]
                refine wpAnyH_take (i := 9) (oi := ⟨_, _, _, _, _, _⟩) (v := ?_) rfl (by kernel_rfl) (by kernel_rfl) (by kernel_rfl) (fun _ _ _ h => h) (Or.inl ⟨by rfl, ?_⟩) hHeld ?_
                rotate_left
                · intro w' hSw
                  try dsimp only at hSw
                  go_simp
                  all_goals with_reducible rfl
                simp only [Act.put, List.setIfInBounds_toArray, List.set_cons_zero, List.set_cons_succ]
                refine wpAnyH_take (i := 10) (oi := ⟨_, _, _, _, _, _⟩) (v := ?_) rfl (by kernel_rfl) (by kernel_rfl) (by kernel_rfl) (fun _ _ _ h => h) (Or.inl ⟨by rfl, ?_⟩) hHeld ?_
                rotate_left
                · intro w' hSw
                  try dsimp only at hSw
                  go_simp
                  all_goals with_reducible rfl
                simp only [Act.put, List.setIfInBounds_toArray, List.set_cons_zero, List.set_cons_succ]
                refine wpAnyH_take (i := 11) (oi := ⟨_, _, _, _, _, _⟩) (v := ?_) rfl (by kernel_rfl) (by kernel_rfl) (by kernel_rfl) (fun _ _ _ h => h) (Or.inl ⟨by rfl, ?_⟩) hHeld ?_
                rotate_left
                · intro w' hSw
                  try dsimp only at hSw
                  go_simp
                  all_goals with_reducible rfl
                simp only [Act.put, List.setIfInBounds_toArray, List.set_cons_zero, List.set_cons_succ]
                refine wpAnyH_take (i := 12) (oi := ⟨_, _, _, _, _, _⟩) (v := ?_) rfl (by kernel_rfl) (by kernel_rfl) (by kernel_rfl) (fun _ _ _ h => h) (Or.inl ⟨by rfl, ?_⟩) hHeld ?_
                rotate_left
                · intro w' hSw
                  try dsimp only at hSw
                  go_simp
                  all_goals with_reducible rfl
                simp only [Act.put, List.setIfInBounds_toArray, List.set_cons_zero, List.set_cons_succ]
                refine wpAnyH_take (i := 13) (oi := ⟨_, _, _, _, _, _⟩) (v := ?_) rfl (by kernel_rfl) (by kernel_rfl) (by kernel_rfl) (fun _ _ _ h => h) (Or.inl ⟨by rfl, ?_⟩) hHeld ?_
                rotate_left
                · intro w' hSw
                  try dsimp only at hSw
                  go_simp
                  all_goals with_reducible rfl
                simp only [Act.put, List.setIfInBounds_toArray, List.set_cons_zero, List.set_cons_succ]
                refine wpAnyH_take (i := 14) (oi := ⟨_, _, _, _, _, _⟩) (v := ?_) rfl (by kernel_rfl) (by kernel_rfl) (by kernel_rfl) (fun _ _ _ h => h) (Or.inl ⟨by rfl, ?_⟩) hHeld ?_
                rotate_left
                · intro w' hSw
                  try dsimp only at hSw
                  go_simp
                  all_goals with_reducible rfl
                simp only [Act.put, List.setIfInBounds_toArray, List.set_cons_zero, List.set_cons_succ]
                refine wpAnyH_take (i := 15) (oi := ⟨_, _, _, _, _, _⟩) (v := ?_) rfl (by kernel_rfl) (by kernel_rfl) (by kernel_rfl) (fun _ _ _ h => h) (Or.inl ⟨by rfl, ?_⟩) hHeld ?_
                rotate_left
                · intro w' hSw
                  try dsimp only at hSw
                  go_simp
                  all_goals with_reducible rfl
                simp only [Act.put, List.setIfInBounds_toArray, List.set_cons_zero, List.set_cons_succ]
                refine wpAnyH_take (i := 16) (oi := ⟨_, _, _, _, _, _⟩) (v := ?_) rfl (by kernel_rfl) (by kernel_rfl) (by kernel_rfl) (fun _ _ _ h => h) (Or.inl ⟨by rfl, ?_⟩) hHeld ?_
                rotate_left
                · intro w' hSw
                  try dsimp only at hSw
                  go_simp
                  all_goals with_reducible rfl
                simp only [Act.put, List.setIfInBounds_toArray, List.set_cons_zero, List.set_cons_succ]
                refine wpAnyH_take (i := 17) (oi := ⟨_, _, _, _, _, _⟩) (v := ?_) rfl (by kernel_rfl) (by kernel_rfl) (by kernel_rfl) (fun _ _ _ h => h) (Or.inl ⟨by rfl, ?_⟩) hHeld ?_
                rotate_left
                · intro w' hSw
                  try dsimp only at hSw
                  go_simp
                  all_goals with_reducible rfl
                simp only [Act.put, List.setIfInBounds_toArray, List.set_cons_zero, List.set_cons_succ]
                refine wpAnyH_take (i := 18) (oi := ⟨_, _, _, _, _, _⟩) (v := ?_) rfl (by kernel_rfl) (by kernel_rfl) (by kernel_rfl) (fun _ _ _ h => h) (Or.inl ⟨by rfl, ?_⟩) hHeld ?_
                rotate_left
                · intro w' hSw
                  try dsimp only at hSw
                  go_simp
                  all_goals with_reducible rfl
                simp only [Act.put, List.setIfInBounds_toArray, List.set_cons_zero, List.set_cons_succ]
                refine wpAnyH_ready (rs := [19]) (by kernel_rfl) (by simp) ?_
                refine AllReadyH.cons (o := ⟨_, _, _, _, _, _⟩) rfl (fun K hK => ?_) AllReadyH.nil
                go_simp
                obtain ⟨wa, hwa⟩ : ∃ wa, (wr.alloc (.cells #[.int .i64 gg] 3)).drew = wa := ⟨_, rfl⟩
                have ba : Below wr.heap.size wr wa := by rw [← hwa]; exact ((Below.refl _ _).alloc (Nat.le_refl _) _).drew
                have IA := Hid.of (I.out.next ba)
                have OA : Hid (wa.ownsRow (w.heap.size + 1) 3 1 u15 i ((rGrid (p.2.take i) (fl.take i)).map (Value.int .i64))) := Hid.of IA.out.own
                have NC : Hid (Cells wa wr.heap.size 0 [.int .i64 gg]) := Hid.of (by rw [← hwa]; exact one_cell wr _ _)
                have AL : Hid (w.heap.size + 1 ≤ wa.heap.size) := Hid.of IA.out.lt
                have n0 : wa.cell? ⟨gb, go + i, none⟩ = some (.int .i64 f) := by rw [ba.cell HGL.out]; exact hgc
                have n1 : wa.cell? ⟨b1, o1 + i * 4 + 1, none⟩ = some (.int .i64 xe) := by rw [ba.cell HBL.out]; exact q1
                have N0 := Hid.of n0
                have N1 := Hid.of n1
                rw [hwa]
                clear hwa ba hHeld c0 c1 hgc q1
                obtain ⟨c0, c1⟩ := IA.out.k.at
                refine hK.out _ _ ⟨c0, c1, n0, n1⟩ (fun hHeld => ?_)
                clear hK K
                try simp only [Act.put, List.setIfInBounds_toArray, List.set_cons_zero, List.set_cons_succ]
                refine wpAnyH_ready (rs := [20]) (by kernel_rfl) (by simp) ?_
                refine AllReadyH.cons (o := ⟨_, _, _, _, _, _⟩) rfl (fun K hK => ?_) AllReadyH.nil
                refine step_append_keep rfl (.tmp 93) (.tmp 112) 25 rfl (w.heap.size + 1) 3 i0 (.int .i64 0) 1 8 Try.underlying25 HI.out HZ0.out HZ1.out HZ2.out rfl (by decide) u15 i _ (by simp [Act.eval]) OA.out wr.heap.size 0 1 1 [.int .i64 gg] (by simp [Act.eval]) NC.out rfl (by simp [Value.oneCell']) (by unfold maxLen; omega) (by omega) AL.out ?_
                intro v5 w5 o5 g5 k5 m5
                have I6 := Hid.of (IA.out.more HF.out HX.out GG.out g5 o5)
                have hge : ∀ k, u15.ownBlock = some k → w.heap.size + 1 ≤ k := fun k hk => own_ge OA.out hk
                have FW := Hid.of I6.out.g
                have P0 : w5.cell? ⟨gb, go + i, none⟩ = some (.int .i64 f) := by rw [World.cell?_of_block (g5.block gb (by have := AL.out; have := HGW.out; omega) (fun e => by have := hge gb e.symm; have := HGW.out; omega))]; exact N0.out
                have P1 : w5.cell? ⟨b1, o1 + i * 4 + 1, none⟩ = some (.int .i64 xe) := by rw [World.cell?_of_block (g5.block b1 (by have := AL.out; have := HBW.out; omega) (fun e => by have := hge b1 e.symm; have := HBW.out; omega))]; exact N1.out
                clear o5 g5 k5 m5 hge hHeld c0 c1 n0 n1
                obtain ⟨c0, c1⟩ := I6.out.k.at
                refine hK.out _ _ ⟨c0, c1, P0, P1⟩ (fun hHeld => ?_)
                clear hK K
                try simp only [Act.put, List.setIfInBounds_toArray, List.set_cons_zero, List.set_cons_succ]
                refine wpAnyH_take (i := 21) (oi := ⟨_, _, _, _, _, _⟩) (v := ?_) rfl (by kernel_rfl) (by kernel_rfl) (by kernel_rfl) (fun _ _ _ h => h) (Or.inl ⟨by rfl, ?_⟩) hHeld ?_
                rotate_left
                · intro w' hSw
                  try dsimp only at hSw
                  go_simp
                  all_goals with_reducible rfl
                simp only [Act.put, List.setIfInBounds_toArray, List.set_cons_zero, List.set_cons_succ]
                refine wpAnyH_done (by kernel_rfl) ?_ _
                refine NoPanic.normal ?_
                go_wp2
                go_roundw
                case rel =>
                  refine ⟨i + 1, by omega, by omega, by go_num, Hid.of I6.out, Hid.of (fun y hy => ?_)⟩
                  rw [List.take_add_one, HF.out, List.mem_append] at hy
                  rcases hy with hy | hy
                  · exact FI.out y hy
                  · simp only [Option.toList_some, List.mem_singleton] at hy
                    rw [hy]
                    exact FB.out
                case measure => simp [RowKit.intOf]; omega
            | false =>
              have hMN := of_decide_eq_false HBO.out
              clear HBO
              have hi : i = min M N := by omega
              have GLE : Hid (rGrid (p.2.take i) (fl.take i) = rGrid p.2 fl) := Hid.of (rGrid_take _ _ _ (by rw [hi, HM.out, HN.out]))
              have LE : Hid ((rGrid p.2 fl).length = i) := Hid.of (by rw [rGrid_len, HM.out, HN.out, hi])
              have GIN : Hid (∀ g ∈ rGrid p.2 fl, 0 ≤ g ∧ g ≤ 2199023255552) := Hid.of (by rw [← GLE.out]; exact grid_in HC.out FI.out)
              obtain ⟨gl, hgl⟩ : ∃ gl, rGrid p.2 fl = gl := ⟨_, rfl⟩
              rw [hgl] at GLE LE GIN
              have HGL := Hid.of hgl
              have I10 : Hid (i ≤ 10) := Hid.of (by have := N10.out; omega)
              have F1 : Hid (RFit (now, p, gl)) := Hid.of ⟨by have := NB.out; unfold In64; omega, SP.out, by show gl.length ≤ _; rw [LE.out]; omega, fun x hx => by have := GIN.out x hx; unfold In64; omega⟩
              have F2 : Hid (RFit (now + more, p, gl)) := Hid.of ⟨by have := NB.out; unfold In64; omega, SP.out, by show gl.length ≤ _; rw [LE.out]; omega, fun x hx => by have := GIN.out x hx; unfold In64; omega⟩
              obtain ⟨la, lc, rfl, -⟩ := own_one I.out.own
              have hw : IntKind.i64.wrap (now + more) = now + more := by
                have := NB.out
                simp [IntKind.wrap, IntKind.bits, IntKind.signed]
                omega
              clear hi hgl j0
              go_upto_region 13 with fail
              go_cut [17, 18] (fun pa pb wx => ∃ ba bb sa1 sc1 fa1 fc1 sa2 sc2 fa2 fc2, pa = .pointer (some ⟨ba, 0, none⟩) ∧ pb = .pointer (some ⟨bb, 0, none⟩) ∧ Hid (RZ S w.heap.size w n (.slice sa N sc) (.slice ga M gc) p fl gl i (.slice la i lc) ba bb now more (.slice sa1 N sc1) (.slice fa1 i fc1) (.slice sa2 N sc2) (.slice fa2 i fc2) wx))
              case first =>
                as_aux_lemma =>
                refine wp_region_noPanic ?_
                refine wp_region_held_drew (S := fun w' => w'.cell? ⟨w.heap.size, 0, none⟩ = some (.string n) ∧ w'.cell? ⟨w.heap.size, 1, none⟩ = some (.slice sa N sc)) (by kernel_rfl) ?_ (fun hHeld => ?_)
                · exact ⟨c0, c1⟩
                refine wpAnyH_take (i := 0) (oi := ⟨_, _, _, _, _, _⟩) (v := ?_) rfl (by kernel_rfl) (by kernel_rfl) (by kernel_rfl) (fun _ _ _ h => h) (Or.inl ⟨by rfl, ?_⟩) hHeld ?_
                rotate_left
                · intro w' hSw
                  try dsimp only at hSw
                  go_simp
                  all_goals with_reducible rfl
                simp only [Act.put, List.setIfInBounds_toArray, List.set_cons_zero, List.set_cons_succ]
                refine wpAnyH_take (i := 1) (oi := ⟨_, _, _, _, _, _⟩) (v := ?_) rfl (by kernel_rfl) (by kernel_rfl) (by kernel_rfl) (fun _ _ _ h => h) (Or.inl ⟨by rfl, ?_⟩) hHeld ?_
                rotate_left
                · intro w' hSw
                  try dsimp only at hSw
                  go_simp
                  all_goals with_reducible rfl
                simp only [Act.put, List.setIfInBounds_toArray, List.set_cons_zero, List.set_cons_succ]
                refine wpAnyH_take (i := 2) (oi := ⟨_, _, _, _, _, _⟩) (v := ?_) rfl (by kernel_rfl) (by kernel_rfl) (by kernel_rfl) (fun _ _ _ h => h) (Or.inl ⟨by rfl, ?_⟩) hHeld ?_
                rotate_left
                · intro w' hSw
                  try dsimp only at hSw
                  go_simp
                  all_goals with_reducible rfl
                simp only [Act.put, List.setIfInBounds_toArray, List.set_cons_zero, List.set_cons_succ]
                refine wpAnyH_take (i := 4) (oi := ⟨_, _, _, _, _, _⟩) (v := ?_) rfl (by kernel_rfl) (by kernel_rfl) (by kernel_rfl) (fun _ _ _ h => h) (Or.inl ⟨by rfl, ?_⟩) hHeld ?_
                rotate_left
                · intro w' hSw
                  try dsimp only at hSw
                  go_simp
                  all_goals with_reducible rfl
                simp only [Act.put, List.setIfInBounds_toArray, List.set_cons_zero, List.set_cons_succ]
                refine wpAnyH_take (i := 5) (oi := ⟨_, _, _, _, _, _⟩) (v := ?_) rfl (by kernel_rfl) (by kernel_rfl) (by kernel_rfl) (fun _ _ _ h => h) (Or.inl ⟨by rfl, ?_⟩) hHeld ?_
                rotate_left
                · intro w' hSw
                  try dsimp only at hSw
                  go_simp
                  all_goals with_reducible rfl
                simp only [Act.put, List.setIfInBounds_toArray, List.set_cons_zero, List.set_cons_succ]
                refine wpAnyH_take (i := 6) (oi := ⟨_, _, _, _, _, _⟩) (v := ?_) rfl (by kernel_rfl) (by kernel_rfl) (by kernel_rfl) (fun _ _ _ h => h) (Or.inl ⟨by rfl, ?_⟩) hHeld ?_
                rotate_left
                · intro w' hSw
                  try dsimp only at hSw
                  go_simp
                  all_goals with_reducible rfl
                simp only [Act.put, List.setIfInBounds_toArray, List.set_cons_zero, List.set_cons_succ]
                refine wpAnyH_take (i := 7) (oi := ⟨_, _, _, _, _, _⟩) (v := ?_) rfl (by kernel_rfl) (by kernel_rfl) (by kernel_rfl) (fun _ _ _ h => h) (Or.inl ⟨by rfl, ?_⟩) hHeld ?_
                rotate_left
                · intro w' hSw
                  try dsimp only at hSw
                  go_simp
                  all_goals with_reducible rfl
                simp only [Act.put, List.setIfInBounds_toArray, List.set_cons_zero, List.set_cons_succ]
                refine wpAnyH_take (i := 8) (oi := ⟨_, _, _, _, _, _⟩) (v := ?_) rfl (by kernel_rfl) (by kernel_rfl) (by kernel_rfl) (fun _ _ _ h => h) (Or.inl ⟨by rfl, ?_⟩) hHeld ?_
                rotate_left
                · intro w' hSw
                  try dsimp only at hSw
                  go_simp
                  all_goals with_reducible rfl
                simp only [Act.put, List.setIfInBounds_toArray, List.set_cons_zero, List.set_cons_succ]
                refine wpAnyH_ready (rs := [3, 10, 11]) (by kernel_rfl) (by simp) ?_
                refine AllReadyH.cons (o := ⟨_, _, _, _, _, _⟩) rfl (fun K hK => ?_) (AllReadyH.cons (o := ⟨_, _, _, _, _, _⟩) rfl (fun K hK => ?_) (AllReadyH.cons (o := ⟨_, _, _, _, _, _⟩) rfl (fun K hK => ?_) AllReadyH.nil))
                · skip
                  go_simp
                  refine (S.of _ _ p (now) gl _ (I.out.next (Below.refl _ _).drew).ok F1.out (I.out.next (Below.refl _ _).drew).q ((I.out.next (Below.refl _ _).drew).row GLE.out LE.out) (own_cap (I.out.next (Below.refl _ _).drew).own)).mono ?_
                  rintro e v1 ⟨u, rfl, ou, b9⟩
                  have c9 := (Below.refl _ _).drew.trans b9
                  obtain ⟨s1, f1, rfl, o1, o2, -⟩ := ou
                  obtain ⟨sa1, sc1, rfl, -⟩ := own_one o1
                  obtain ⟨fa1, fc1, rfl, -⟩ := own_one o2
                  have h9 := RO.made (s := .slice sa1 p.2.length sc1) (f := .slice fa1 gl.length fc1) (r := (now, p, gl)) o1 o2
                  rw [HN.out, LE.out] at h9
                  have e9 : rVal (now, p, gl) (.slice sa1 ((now, p, gl) : RchL).2.1.2.length sc1) (.slice fa1 ((now, p, gl) : RchL).2.2.length fc1) = .agg #[.int .i64 (now), .string n, .slice sa1 N sc1, .slice fa1 i fc1] := by rw [← Hn.out, ← HN.out, ← LE.out]; rfl
                  rw [e9]
                  clear e9 o1 o2 b9
                  have R1_n := Hid.of h9.1
                  clear h9
                  have G1 := Hid.of (I.out.next c9)
                  clear c9 hHeld c0 c1
                  obtain ⟨c0, c1⟩ := G1.out.k.at
                  refine hK.out _ _ ⟨c0, c1⟩ (fun hHeld => ?_)
                  clear hK K
                  try simp only [Act.put, List.setIfInBounds_toArray, List.set_cons_zero, List.set_cons_succ]
                  refine wpAnyH_ready (rs := [9, 10, 11]) (by kernel_rfl) (by simp) ?_
                  refine AllReadyH.cons (o := ⟨_, _, _, _, _, _⟩) rfl (fun K hK => ?_) (AllReadyH.cons (o := ⟨_, _, _, _, _, _⟩) rfl (fun K hK => ?_) (AllReadyH.cons (o := ⟨_, _, _, _, _, _⟩) rfl (fun K hK => ?_) AllReadyH.nil))
                  · skip
                    go_simp
                    refine (S.of _ _ p (now + more) gl _ G1.out.ok F2.out G1.out.q (G1.out.row GLE.out LE.out) (own_cap G1.out.own)).mono ?_
                    rintro e v2 ⟨u, rfl, ou, b9⟩
                    have c9 := b9
                    obtain ⟨s2, f2, rfl, o1, o2, -⟩ := ou
                    obtain ⟨sa2, sc2, rfl, -⟩ := own_one o1
                    obtain ⟨fa2, fc2, rfl, -⟩ := own_one o2
                    have h9 := RO.made (s := .slice sa2 p.2.length sc2) (f := .slice fa2 gl.length fc2) (r := (now + more, p, gl)) o1 o2
                    rw [HN.out, LE.out] at h9
                    have e9 : rVal (now + more, p, gl) (.slice sa2 ((now + more, p, gl) : RchL).2.1.2.length sc2) (.slice fa2 ((now + more, p, gl) : RchL).2.2.length fc2) = .agg #[.int .i64 (now + more), .string n, .slice sa2 N sc2, .slice fa2 i fc2] := by rw [← Hn.out, ← HN.out, ← LE.out]; rfl
                    rw [e9]
                    clear e9 o1 o2 b9
                    have R2_n := Hid.of h9.1
                    clear h9
                    have G2 := Hid.of (G1.out.next c9)
                    have R1_2 := Hid.of (R1_n.out.next c9)
                    clear c9 hHeld c0 c1
                    obtain ⟨c0, c1⟩ := G2.out.k.at
                    refine hK.out _ _ ⟨c0, c1⟩ (fun hHeld => ?_)
                    clear hK K
                    try simp only [Act.put, List.setIfInBounds_toArray, List.set_cons_zero, List.set_cons_succ]
                    refine wpAnyH_ready (rs := [10, 11]) (by kernel_rfl) (by simp) ?_
                    refine AllReadyH.cons (o := ⟨_, _, _, _, _, _⟩) rfl (fun K hK => ?_) (AllReadyH.cons (o := ⟨_, _, _, _, _, _⟩) rfl (fun K hK => ?_) AllReadyH.nil)
                    · skip
                      go_simp
                      obtain ⟨v3, hv9⟩ : ∃ v9, (v2.alloc (.cells #[.int .i64 0, .string ⟨#[]⟩, .slice none 0 0, .slice none 0 0] 46)) = v9 := ⟨_, rfl⟩
                      have c9 : Below v2.heap.size v2 v3 := by rw [← hv9]; exact ((Below.refl _ _).alloc (Nat.le_refl _) _)
                      have ZA_n : Hid (KBlk v3 v2.heap.size 0 ⟨#[]⟩ (.slice none 0 0) (.slice none 0 0)) := Hid.of (by rw [← hv9]; exact Go.heap_alloc_new _ _)
                      have HA : Hid (w.heap.size < v2.heap.size) := Hid.of G2.out.lt
                      have OWA : Hid (∀ k, (Value.slice la i lc).ownBlock = some k → k ≠ v2.heap.size) := Hid.of (fun k hk => by have := (G2.out.own.lt k hk).2; omega)
                      have NA1 := Hid.of R1_2.out.new
                      have NA2 := Hid.of R2_n.out.new
                      rw [hv9]
                      clear hv9
                      have G3 := Hid.of (G2.out.next c9)
                      have R1_3 := Hid.of (R1_2.out.next c9)
                      have R2_3 := Hid.of (R2_n.out.next c9)
                      clear c9 hHeld c0 c1
                      obtain ⟨c0, c1⟩ := G3.out.k.at
                      refine hK.out _ _ ⟨c0, c1⟩ (fun hHeld => ?_)
                      clear hK K
                      try simp only [Act.put, List.setIfInBounds_toArray, List.set_cons_zero, List.set_cons_succ]
                      refine wpAnyH_ready (rs := [11]) (by kernel_rfl) (by simp) ?_
                      refine AllReadyH.cons (o := ⟨_, _, _, _, _, _⟩) rfl (fun K hK => ?_) AllReadyH.nil
                      go_simp
                      obtain ⟨v4, hv9⟩ : ∃ v9, (v3.alloc (.cells #[.int .i64 0, .string ⟨#[]⟩, .slice none 0 0, .slice none 0 0] 46)) = v9 := ⟨_, rfl⟩
                      have c9 : Below v3.heap.size v3 v4 := by rw [← hv9]; exact ((Below.refl _ _).alloc (Nat.le_refl _) _)
                      have ZB_n : Hid (KBlk v4 v3.heap.size 0 ⟨#[]⟩ (.slice none 0 0) (.slice none 0 0)) := Hid.of (by rw [← hv9]; exact Go.heap_alloc_new _ _)
                      have HB : Hid (w.heap.size < v3.heap.size) := Hid.of G3.out.lt
                      have OWB : Hid (∀ k, (Value.slice la i lc).ownBlock = some k → k ≠ v3.heap.size) := Hid.of (fun k hk => by have := (G3.out.own.lt k hk).2; omega)
                      have NB1 := Hid.of R1_3.out.new
                      have NB2 := Hid.of R2_3.out.new
                      have NE : Hid (v2.heap.size ≠ v3.heap.size) := Hid.of (by have := (Array.getElem?_eq_some_iff.1 ZA_n.out).1; omega)
                      rw [hv9]
                      clear hv9
                      have G4 := Hid.of (G3.out.next c9)
                      have ZA_4 := Hid.of (kblk_next ZA_n.out c9)
                      have R1_4 := Hid.of (R1_3.out.next c9)
                      have R2_4 := Hid.of (R2_3.out.next c9)
                      clear c9 hHeld c0 c1
                      obtain ⟨c0, c1⟩ := G4.out.k.at
                      refine hK.out _ _ ⟨c0, c1⟩ (fun hHeld => ?_)
                      clear hK K
                      try simp only [Act.put, List.setIfInBounds_toArray, List.set_cons_zero, List.set_cons_succ]
                      have L : Hid (LZ S w.heap.size w n (.slice sa N sc) (.slice ga M gc) p fl gl i (.slice la i lc) v2.heap.size v3.heap.size now more (.slice sa1 N sc1) (.slice fa1 i fc1) (.slice sa2 N sc2) (.slice fa2 i fc2) v4) := Hid.of ⟨G4.out, ZA_4.out, ZB_n.out, R1_4.out, R2_4.out, ⟨NA1.out, NA2.out, OWA.out⟩, ⟨NB1.out, NB2.out, OWB.out⟩, NE.out, HA.out, HB.out⟩
                      have Z0 := L.out.done Hn.out
                      have one := L.out.one
                      obtain ⟨x1, hx1⟩ : ∃ x1, setR v4 v2.heap.size now n (.slice sa1 N sc1) (.slice fa1 i fc1) = x1 := ⟨_, rfl⟩
                      rw [hx1] at Z0 one
                      obtain ⟨x2, hx2⟩ : ∃ x2, setR x1 v3.heap.size (now + more) n (.slice sa2 N sc2) (.slice fa2 i fc2) = x2 := ⟨_, rfl⟩
                      rw [hx2] at Z0
                      have ONE1 := Hid.of one.1
                      have ONE2 := Hid.of one.2
                      have Z := Hid.of Z0
                      unfold setR at hx1 hx2
                      have HX1 := Hid.of hx1
                      have HX2 := Hid.of hx2
                      obtain ⟨q0, q1, q2, q3⟩ := kblk_at L.out.za
                      have y0 := row_frozen (i := 0) L.out.za
                      have y1 := row_frozen (i := 1) L.out.za
                      have y2 := row_frozen (i := 2) L.out.za
                      have y3 := row_frozen (i := 3) L.out.za
                      clear one Z0 hx1 hx2
                      refine wpAnyH_ready (rs := [12]) (by kernel_rfl) (by simp) ?_
                      refine AllReadyH.cons (o := ⟨_, _, _, _, _, _⟩) rfl (fun K hK => ?_) AllReadyH.nil
                      go_simp
                      rw [HX1.out]
                      clear q0 q1 q2 q3 y0 y1 y2 y3 hHeld c0 c1
                      obtain ⟨c0, c1⟩ := ONE1.out.k.at
                      refine hK.out _ _ ⟨c0, c1⟩ (fun hHeld => ?_)
                      clear hK K
                      try simp only [Act.put, List.setIfInBounds_toArray, List.set_cons_zero, List.set_cons_succ]
                      obtain ⟨q0, q1, q2, q3⟩ := kblk_at ONE2.out
                      have y0 := row_frozen (i := 0) ONE2.out
                      have y1 := row_frozen (i := 1) ONE2.out
                      have y2 := row_frozen (i := 2) ONE2.out
                      have y3 := row_frozen (i := 3) ONE2.out
                      refine wpAnyH_ready (rs := [13]) (by kernel_rfl) (by simp) ?_
                      refine AllReadyH.cons (o := ⟨_, _, _, _, _, _⟩) rfl (fun K hK => ?_) AllReadyH.nil
                      go_simp
                      rw [HX2.out]
                      clear q0 q1 q2 q3 y0 y1 y2 y3 hHeld c0 c1
                      obtain ⟨c0, c1⟩ := Z.out.gi.k.at
                      refine hK.out _ _ ⟨c0, c1⟩ (fun hHeld => ?_)
                      clear hK K
                      try simp only [Act.put, List.setIfInBounds_toArray, List.set_cons_zero, List.set_cons_succ]
                      refine wpAnyH_done (by kernel_rfl) ?_ _
                      refine NoPanic.normal ?_
                      go_wp2_with fail
                      go_meet
                      exact ⟨_, _, _, _, _, _, _, _, _, _, rfl, rfl, Z⟩
                    · skip
                      go_simp
                      obtain ⟨v3, hv9⟩ : ∃ v9, (v2.alloc (.cells #[.int .i64 0, .string ⟨#[]⟩, .slice none 0 0, .slice none 0 0] 46)) = v9 := ⟨_, rfl⟩
                      have c9 : Below v2.heap.size v2 v3 := by rw [← hv9]; exact ((Below.refl _ _).alloc (Nat.le_refl _) _)
                      have ZB_n : Hid (KBlk v3 v2.heap.size 0 ⟨#[]⟩ (.slice none 0 0) (.slice none 0 0)) := Hid.of (by rw [← hv9]; exact Go.heap_alloc_new _ _)
                      have HB : Hid (w.heap.size < v2.heap.size) := Hid.of G2.out.lt
                      have OWB : Hid (∀ k, (Value.slice la i lc).ownBlock = some k → k ≠ v2.heap.size) := Hid.of (fun k hk => by have := (G2.out.own.lt k hk).2; omega)
                      have NB1 := Hid.of R1_2.out.new
                      have NB2 := Hid.of R2_n.out.new
                      rw [hv9]
                      clear hv9
                      have G3 := Hid.of (G2.out.next c9)
                      have R1_3 := Hid.of (R1_2.out.next c9)
                      have R2_3 := Hid.of (R2_n.out.next c9)
                      clear c9 hHeld c0 c1
                      obtain ⟨c0, c1⟩ := G3.out.k.at
                      refine hK.out _ _ ⟨c0, c1⟩ (fun hHeld => ?_)
                      clear hK K
                      try simp only [Act.put, List.setIfInBounds_toArray, List.set_cons_zero, List.set_cons_succ]
                      refine wpAnyH_ready (rs := [10]) (by kernel_rfl) (by simp) ?_
                      refine AllReadyH.cons (o := ⟨_, _, _, _, _, _⟩) rfl (fun K hK => ?_) AllReadyH.nil
                      go_simp
                      obtain ⟨v4, hv9⟩ : ∃ v9, (v3.alloc (.cells #[.int .i64 0, .string ⟨#[]⟩, .slice none 0 0, .slice none 0 0] 46)) = v9 := ⟨_, rfl⟩
                      have c9 : Below v3.heap.size v3 v4 := by rw [← hv9]; exact ((Below.refl _ _).alloc (Nat.le_refl _) _)
                      have ZA_n : Hid (KBlk v4 v3.heap.size 0 ⟨#[]⟩ (.slice none 0 0) (.slice none 0 0)) := Hid.of (by rw [← hv9]; exact Go.heap_alloc_new _ _)
                      have HA : Hid (w.heap.size < v3.heap.size) := Hid.of G3.out.lt
                      have OWA : Hid (∀ k, (Value.slice la i lc).ownBlock = some k → k ≠ v3.heap.size) := Hid.of (fun k hk => by have := (G3.out.own.lt k hk).2; omega)
                      have NA1 := Hid.of R1_3.out.new
                      have NA2 := Hid.of R2_3.out.new
                      have NE : Hid (v3.heap.size ≠ v2.heap.size) := Hid.of (by have := (Array.getElem?_eq_some_iff.1 ZB_n.out).1; omega)
                      rw [hv9]
                      clear hv9
                      have G4 := Hid.of (G3.out.next c9)
                      have ZB_4 := Hid.of (kblk_next ZB_n.out c9)
                      have R1_4 := Hid.of (R1_3.out.next c9)
                      have R2_4 := Hid.of (R2_3.out.next c9)
                      clear c9 hHeld c0 c1
                      obtain ⟨c0, c1⟩ := G4.out.k.at
                      refine hK.out _ _ ⟨c0, c1⟩ (fun hHeld => ?_)
                      clear hK K
                      try simp only [Act.put, List.setIfInBounds_toArray, List.set_cons_zero, List.set_cons_succ]
                      have L : Hid (LZ S w.heap.size w n (.slice sa N sc) (.slice ga M gc) p fl gl i (.slice la i lc) v3.heap.size v2.heap.size now more (.slice sa1 N sc1) (.slice fa1 i fc1) (.slice sa2 N sc2) (.slice fa2 i fc2) v4) := Hid.of ⟨G4.out, ZA_n.out, ZB_4.out, R1_4.out, R2_4.out, ⟨NA1.out, NA2.out, OWA.out⟩, ⟨NB1.out, NB2.out, OWB.out⟩, NE.out, HA.out, HB.out⟩
                      have Z0 := L.out.done Hn.out
                      have one := L.out.one
                      obtain ⟨x1, hx1⟩ : ∃ x1, setR v4 v3.heap.size now n (.slice sa1 N sc1) (.slice fa1 i fc1) = x1 := ⟨_, rfl⟩
                      rw [hx1] at Z0 one
                      obtain ⟨x2, hx2⟩ : ∃ x2, setR x1 v2.heap.size (now + more) n (.slice sa2 N sc2) (.slice fa2 i fc2) = x2 := ⟨_, rfl⟩
                      rw [hx2] at Z0
                      have ONE1 := Hid.of one.1
                      have ONE2 := Hid.of one.2
                      have Z := Hid.of Z0
                      unfold setR at hx1 hx2
                      have HX1 := Hid.of hx1
                      have HX2 := Hid.of hx2
                      obtain ⟨q0, q1, q2, q3⟩ := kblk_at L.out.za
                      have y0 := row_frozen (i := 0) L.out.za
                      have y1 := row_frozen (i := 1) L.out.za
                      have y2 := row_frozen (i := 2) L.out.za
                      have y3 := row_frozen (i := 3) L.out.za
                      clear one Z0 hx1 hx2
                      refine wpAnyH_ready (rs := [12]) (by kernel_rfl) (by simp) ?_
                      refine AllReadyH.cons (o := ⟨_, _, _, _, _, _⟩) rfl (fun K hK => ?_) AllReadyH.nil
                      go_simp
                      rw [HX1.out]
                      clear q0 q1 q2 q3 y0 y1 y2 y3 hHeld c0 c1
                      obtain ⟨c0, c1⟩ := ONE1.out.k.at
                      refine hK.out _ _ ⟨c0, c1⟩ (fun hHeld => ?_)
                      clear hK K
                      try simp only [Act.put, List.setIfInBounds_toArray, List.set_cons_zero, List.set_cons_succ]
                      obtain ⟨q0, q1, q2, q3⟩ := kblk_at ONE2.out
                      have y0 := row_frozen (i := 0) ONE2.out
                      have y1 := row_frozen (i := 1) ONE2.out
                      have y2 := row_frozen (i := 2) ONE2.out
                      have y3 := row_frozen (i := 3) ONE2.out
                      refine wpAnyH_ready (rs := [13]) (by kernel_rfl) (by simp) ?_
                      refine AllReadyH.cons (o := ⟨_, _, _, _, _, _⟩) rfl (fun K hK => ?_) AllReadyH.nil
                      go_simp
                      rw [HX2.out]
                      clear q0 q1 q2 q3 y0 y1 y2 y3 hHeld c0 c1
                      obtain ⟨c0, c1⟩ := Z.out.gi.k.at
                      refine hK.out _ _ ⟨c0, c1⟩ (fun hHeld => ?_)
                      clear hK K
                      try simp only [Act.put, List.setIfInBounds_toArray, List.set_cons_zero, List.set_cons_succ]
                      refine wpAnyH_done (by kernel_rfl) ?_ _
                      refine NoPanic.normal ?_
                      go_wp2_with fail
                      go_meet
                      exact ⟨_, _, _, _, _, _, _, _, _, _, rfl, rfl, Z⟩
                  · skip
                    go_simp
                    obtain ⟨v2, hv9⟩ : ∃ v9, (v1.alloc (.cells #[.int .i64 0, .string ⟨#[]⟩, .slice none 0 0, .slice none 0 0] 46)) = v9 := ⟨_, rfl⟩
                    have c9 : Below v1.heap.size v1 v2 := by rw [← hv9]; exact ((Below.refl _ _).alloc (Nat.le_refl _) _)
                    have ZA_n : Hid (KBlk v2 v1.heap.size 0 ⟨#[]⟩ (.slice none 0 0) (.slice none 0 0)) := Hid.of (by rw [← hv9]; exact Go.heap_alloc_new _ _)
                    have HA : Hid (w.heap.size < v1.heap.size) := Hid.of G1.out.lt
                    have OWA : Hid (∀ k, (Value.slice la i lc).ownBlock = some k → k ≠ v1.heap.size) := Hid.of (fun k hk => by have := (G1.out.own.lt k hk).2; omega)
                    have NA1 := Hid.of R1_n.out.new
                    rw [hv9]
                    clear hv9
                    have G2 := Hid.of (G1.out.next c9)
                    have R1_2 := Hid.of (R1_n.out.next c9)
                    clear c9 hHeld c0 c1
                    obtain ⟨c0, c1⟩ := G2.out.k.at
                    refine hK.out _ _ ⟨c0, c1⟩ (fun hHeld => ?_)
                    clear hK K
                    try simp only [Act.put, List.setIfInBounds_toArray, List.set_cons_zero, List.set_cons_succ]
                    refine wpAnyH_ready (rs := [9, 11]) (by kernel_rfl) (by simp) ?_
                    refine AllReadyH.cons (o := ⟨_, _, _, _, _, _⟩) rfl (fun K hK => ?_) (AllReadyH.cons (o := ⟨_, _, _, _, _, _⟩) rfl (fun K hK => ?_) AllReadyH.nil)
                    · skip
                      go_simp
                      refine (S.of _ _ p (now + more) gl _ G2.out.ok F2.out G2.out.q (G2.out.row GLE.out LE.out) (own_cap G2.out.own)).mono ?_
                      rintro e v3 ⟨u, rfl, ou, b9⟩
                      have c9 := b9
                      obtain ⟨s2, f2, rfl, o1, o2, -⟩ := ou
                      obtain ⟨sa2, sc2, rfl, -⟩ := own_one o1
                      obtain ⟨fa2, fc2, rfl, -⟩ := own_one o2
                      have h9 := RO.made (s := .slice sa2 p.2.length sc2) (f := .slice fa2 gl.length fc2) (r := (now + more, p, gl)) o1 o2
                      rw [HN.out, LE.out] at h9
                      have e9 : rVal (now + more, p, gl) (.slice sa2 ((now + more, p, gl) : RchL).2.1.2.length sc2) (.slice fa2 ((now + more, p, gl) : RchL).2.2.length fc2) = .agg #[.int .i64 (now + more), .string n, .slice sa2 N sc2, .slice fa2 i fc2] := by rw [← Hn.out, ← HN.out, ← LE.out]; rfl
                      rw [e9]
                      clear e9 o1 o2 b9
                      have NA2 : Hid (NotAt (.slice sa2 N sc2) (.slice fa2 i fc2) v1.heap.size) := Hid.of (h9.2 _ (by have := (Array.getElem?_eq_some_iff.1 ZA_n.out).1; simpa using this))
                      have R2_n := Hid.of h9.1
                      clear h9
                      have G3 := Hid.of (G2.out.next c9)
                      have ZA_3 := Hid.of (kblk_next ZA_n.out c9)
                      have R1_3 := Hid.of (R1_2.out.next c9)
                      clear c9 hHeld c0 c1
                      obtain ⟨c0, c1⟩ := G3.out.k.at
                      refine hK.out _ _ ⟨c0, c1⟩ (fun hHeld => ?_)
                      clear hK K
                      try simp only [Act.put, List.setIfInBounds_toArray, List.set_cons_zero, List.set_cons_succ]
                      refine wpAnyH_ready (rs := [11]) (by kernel_rfl) (by simp) ?_
                      refine AllReadyH.cons (o := ⟨_, _, _, _, _, _⟩) rfl (fun K hK => ?_) AllReadyH.nil
                      go_simp
                      obtain ⟨v4, hv9⟩ : ∃ v9, (v3.alloc (.cells #[.int .i64 0, .string ⟨#[]⟩, .slice none 0 0, .slice none 0 0] 46)) = v9 := ⟨_, rfl⟩
                      have c9 : Below v3.heap.size v3 v4 := by rw [← hv9]; exact ((Below.refl _ _).alloc (Nat.le_refl _) _)
                      have ZB_n : Hid (KBlk v4 v3.heap.size 0 ⟨#[]⟩ (.slice none 0 0) (.slice none 0 0)) := Hid.of (by rw [← hv9]; exact Go.heap_alloc_new _ _)
                      have HB : Hid (w.heap.size < v3.heap.size) := Hid.of G3.out.lt
                      have OWB : Hid (∀ k, (Value.slice la i lc).ownBlock = some k → k ≠ v3.heap.size) := Hid.of (fun k hk => by have := (G3.out.own.lt k hk).2; omega)
                      have NB1 := Hid.of R1_3.out.new
                      have NB2 := Hid.of R2_n.out.new
                      have NE : Hid (v1.heap.size ≠ v3.heap.size) := Hid.of (by have := (Array.getElem?_eq_some_iff.1 ZA_3.out).1; omega)
                      rw [hv9]
                      clear hv9
                      have G4 := Hid.of (G3.out.next c9)
                      have ZA_4 := Hid.of (kblk_next ZA_3.out c9)
                      have R1_4 := Hid.of (R1_3.out.next c9)
                      have R2_4 := Hid.of (R2_n.out.next c9)
                      clear c9 hHeld c0 c1
                      obtain ⟨c0, c1⟩ := G4.out.k.at
                      refine hK.out _ _ ⟨c0, c1⟩ (fun hHeld => ?_)
                      clear hK K
                      try simp only [Act.put, List.setIfInBounds_toArray, List.set_cons_zero, List.set_cons_succ]
                      have L : Hid (LZ S w.heap.size w n (.slice sa N sc) (.slice ga M gc) p fl gl i (.slice la i lc) v1.heap.size v3.heap.size now more (.slice sa1 N sc1) (.slice fa1 i fc1) (.slice sa2 N sc2) (.slice fa2 i fc2) v4) := Hid.of ⟨G4.out, ZA_4.out, ZB_n.out, R1_4.out, R2_4.out, ⟨NA1.out, NA2.out, OWA.out⟩, ⟨NB1.out, NB2.out, OWB.out⟩, NE.out, HA.out, HB.out⟩
                      have Z0 := L.out.done Hn.out
                      have one := L.out.one
                      obtain ⟨x1, hx1⟩ : ∃ x1, setR v4 v1.heap.size now n (.slice sa1 N sc1) (.slice fa1 i fc1) = x1 := ⟨_, rfl⟩
                      rw [hx1] at Z0 one
                      obtain ⟨x2, hx2⟩ : ∃ x2, setR x1 v3.heap.size (now + more) n (.slice sa2 N sc2) (.slice fa2 i fc2) = x2 := ⟨_, rfl⟩
                      rw [hx2] at Z0
                      have ONE1 := Hid.of one.1
                      have ONE2 := Hid.of one.2
                      have Z := Hid.of Z0
                      unfold setR at hx1 hx2
                      have HX1 := Hid.of hx1
                      have HX2 := Hid.of hx2
                      obtain ⟨q0, q1, q2, q3⟩ := kblk_at L.out.za
                      have y0 := row_frozen (i := 0) L.out.za
                      have y1 := row_frozen (i := 1) L.out.za
                      have y2 := row_frozen (i := 2) L.out.za
                      have y3 := row_frozen (i := 3) L.out.za
                      clear one Z0 hx1 hx2
                      refine wpAnyH_ready (rs := [12]) (by kernel_rfl) (by simp) ?_
                      refine AllReadyH.cons (o := ⟨_, _, _, _, _, _⟩) rfl (fun K hK => ?_) AllReadyH.nil
                      go_simp
                      rw [HX1.out]
                      clear q0 q1 q2 q3 y0 y1 y2 y3 hHeld c0 c1
                      obtain ⟨c0, c1⟩ := ONE1.out.k.at
                      refine hK.out _ _ ⟨c0, c1⟩ (fun hHeld => ?_)
                      clear hK K
                      try simp only [Act.put, List.setIfInBounds_toArray, List.set_cons_zero, List.set_cons_succ]
                      obtain ⟨q0, q1, q2, q3⟩ := kblk_at ONE2.out
                      have y0 := row_frozen (i := 0) ONE2.out
                      have y1 := row_frozen (i := 1) ONE2.out
                      have y2 := row_frozen (i := 2) ONE2.out
                      have y3 := row_frozen (i := 3) ONE2.out
                      refine wpAnyH_ready (rs := [13]) (by kernel_rfl) (by simp) ?_
                      refine AllReadyH.cons (o := ⟨_, _, _, _, _, _⟩) rfl (fun K hK => ?_) AllReadyH.nil
                      go_simp
                      rw [HX2.out]
                      clear q0 q1 q2 q3 y0 y1 y2 y3 hHeld c0 c1
                      obtain ⟨c0, c1⟩ := Z.out.gi.k.at
                      refine hK.out _ _ ⟨c0, c1⟩ (fun hHeld => ?_)
                      clear hK K
                      try simp only [Act.put, List.setIfInBounds_toArray, List.set_cons_zero, List.set_cons_succ]
                      refine wpAnyH_done (by kernel_rfl) ?_ _
                      refine NoPanic.normal ?_
                      go_wp2_with fail
                      go_meet
                      exact ⟨_, _, _, _, _, _, _, _, _, _, rfl, rfl, Z⟩
                    · skip
                      go_simp
                      obtain ⟨v3, hv9⟩ : ∃ v9, (v2.alloc (.cells #[.int .i64 0, .string ⟨#[]⟩, .slice none 0 0, .slice none 0 0] 46)) = v9 := ⟨_, rfl⟩
                      have c9 : Below v2.heap.size v2 v3 := by rw [← hv9]; exact ((Below.refl _ _).alloc (Nat.le_refl _) _)
                      have ZB_n : Hid (KBlk v3 v2.heap.size 0 ⟨#[]⟩ (.slice none 0 0) (.slice none 0 0)) := Hid.of (by rw [← hv9]; exact Go.heap_alloc_new _ _)
                      have HB : Hid (w.heap.size < v2.heap.size) := Hid.of G2.out.lt
                      have OWB : Hid (∀ k, (Value.slice la i lc).ownBlock = some k → k ≠ v2.heap.size) := Hid.of (fun k hk => by have := (G2.out.own.lt k hk).2; omega)
                      have NB1 := Hid.of R1_2.out.new
                      have NE : Hid (v1.heap.size ≠ v2.heap.size) := Hid.of (by have := (Array.getElem?_eq_some_iff.1 ZA_n.out).1; omega)
                      rw [hv9]
                      clear hv9
                      have G3 := Hid.of (G2.out.next c9)
                      have ZA_3 := Hid.of (kblk_next ZA_n.out c9)
                      have R1_3 := Hid.of (R1_2.out.next c9)
                      clear c9 hHeld c0 c1
                      obtain ⟨c0, c1⟩ := G3.out.k.at
                      refine hK.out _ _ ⟨c0, c1⟩ (fun hHeld => ?_)
                      clear hK K
                      try simp only [Act.put, List.setIfInBounds_toArray, List.set_cons_zero, List.set_cons_succ]
                      refine wpAnyH_ready (rs := [9]) (by kernel_rfl) (by simp) ?_
                      refine AllReadyH.cons (o := ⟨_, _, _, _, _, _⟩) rfl (fun K hK => ?_) AllReadyH.nil
                      go_simp
                      refine (S.of _ _ p (now + more) gl _ G3.out.ok F2.out G3.out.q (G3.out.row GLE.out LE.out) (own_cap G3.out.own)).mono ?_
                      rintro e v4 ⟨u, rfl, ou, b9⟩
                      have c9 := b9
                      obtain ⟨s2, f2, rfl, o1, o2, -⟩ := ou
                      obtain ⟨sa2, sc2, rfl, -⟩ := own_one o1
                      obtain ⟨fa2, fc2, rfl, -⟩ := own_one o2
                      have h9 := RO.made (s := .slice sa2 p.2.length sc2) (f := .slice fa2 gl.length fc2) (r := (now + more, p, gl)) o1 o2
                      rw [HN.out, LE.out] at h9
                      have e9 : rVal (now + more, p, gl) (.slice sa2 ((now + more, p, gl) : RchL).2.1.2.length sc2) (.slice fa2 ((now + more, p, gl) : RchL).2.2.length fc2) = .agg #[.int .i64 (now + more), .string n, .slice sa2 N sc2, .slice fa2 i fc2] := by rw [← Hn.out, ← HN.out, ← LE.out]; rfl
                      rw [e9]
                      clear e9 o1 o2 b9
                      have NA2 : Hid (NotAt (.slice sa2 N sc2) (.slice fa2 i fc2) v1.heap.size) := Hid.of (h9.2 _ (by have := (Array.getElem?_eq_some_iff.1 ZA_3.out).1; simpa using this))
                      have NB2 : Hid (NotAt (.slice sa2 N sc2) (.slice fa2 i fc2) v2.heap.size) := Hid.of (h9.2 _ (by have := (Array.getElem?_eq_some_iff.1 ZB_n.out).1; simpa using this))
                      have R2_n := Hid.of h9.1
                      clear h9
                      have G4 := Hid.of (G3.out.next c9)
                      have ZA_4 := Hid.of (kblk_next ZA_3.out c9)
                      have ZB_4 := Hid.of (kblk_next ZB_n.out c9)
                      have R1_4 := Hid.of (R1_3.out.next c9)
                      clear c9 hHeld c0 c1
                      obtain ⟨c0, c1⟩ := G4.out.k.at
                      refine hK.out _ _ ⟨c0, c1⟩ (fun hHeld => ?_)
                      clear hK K
                      try simp only [Act.put, List.setIfInBounds_toArray, List.set_cons_zero, List.set_cons_succ]
                      have L : Hid (LZ S w.heap.size w n (.slice sa N sc) (.slice ga M gc) p fl gl i (.slice la i lc) v1.heap.size v2.heap.size now more (.slice sa1 N sc1) (.slice fa1 i fc1) (.slice sa2 N sc2) (.slice fa2 i fc2) v4) := Hid.of ⟨G4.out, ZA_4.out, ZB_4.out, R1_4.out, R2_n.out, ⟨NA1.out, NA2.out, OWA.out⟩, ⟨NB1.out, NB2.out, OWB.out⟩, NE.out, HA.out, HB.out⟩
                      have Z0 := L.out.done Hn.out
                      have one := L.out.one
                      obtain ⟨x1, hx1⟩ : ∃ x1, setR v4 v1.heap.size now n (.slice sa1 N sc1) (.slice fa1 i fc1) = x1 := ⟨_, rfl⟩
                      rw [hx1] at Z0 one
                      obtain ⟨x2, hx2⟩ : ∃ x2, setR x1 v2.heap.size (now + more) n (.slice sa2 N sc2) (.slice fa2 i fc2) = x2 := ⟨_, rfl⟩
                      rw [hx2] at Z0
                      have ONE1 := Hid.of one.1
                      have ONE2 := Hid.of one.2
                      have Z := Hid.of Z0
                      unfold setR at hx1 hx2
                      have HX1 := Hid.of hx1
                      have HX2 := Hid.of hx2
                      obtain ⟨q0, q1, q2, q3⟩ := kblk_at L.out.za
                      have y0 := row_frozen (i := 0) L.out.za
                      have y1 := row_frozen (i := 1) L.out.za
                      have y2 := row_frozen (i := 2) L.out.za
                      have y3 := row_frozen (i := 3) L.out.za
                      clear one Z0 hx1 hx2
                      refine wpAnyH_ready (rs := [12]) (by kernel_rfl) (by simp) ?_
                      refine AllReadyH.cons (o := ⟨_, _, _, _, _, _⟩) rfl (fun K hK => ?_) AllReadyH.nil
                      go_simp
                      rw [HX1.out]
                      clear q0 q1 q2 q3 y0 y1 y2 y3 hHeld c0 c1
                      obtain ⟨c0, c1⟩ := ONE1.out.k.at
                      refine hK.out _ _ ⟨c0, c1⟩ (fun hHeld => ?_)
                      clear hK K
                      try simp only [Act.put, List.setIfInBounds_toArray, List.set_cons_zero, List.set_cons_succ]
                      obtain ⟨q0, q1, q2, q3⟩ := kblk_at ONE2.out
                      have y0 := row_frozen (i := 0) ONE2.out
                      have y1 := row_frozen (i := 1) ONE2.out
                      have y2 := row_frozen (i := 2) ONE2.out
                      have y3 := row_frozen (i := 3) ONE2.out
                      refine wpAnyH_ready (rs := [13]) (by kernel_rfl) (by simp) ?_
                      refine AllReadyH.cons (o := ⟨_, _, _, _, _, _⟩) rfl (fun K hK => ?_) AllReadyH.nil
                      go_simp
                      rw [HX2.out]
                      clear q0 q1 q2 q3 y0 y1 y2 y3 hHeld c0 c1
                      obtain ⟨c0, c1⟩ := Z.out.gi.k.at
                      refine hK.out _ _ ⟨c0, c1⟩ (fun hHeld => ?_)
                      clear hK K
                      try simp only [Act.put, List.setIfInBounds_toArray, List.set_cons_zero, List.set_cons_succ]
                      refine wpAnyH_done (by kernel_rfl) ?_ _
                      refine NoPanic.normal ?_
                      go_wp2_with fail
                      go_meet
                      exact ⟨_, _, _, _, _, _, _, _, _, _, rfl, rfl, Z⟩
                  · skip
                    go_simp
                    obtain ⟨v2, hv9⟩ : ∃ v9, (v1.alloc (.cells #[.int .i64 0, .string ⟨#[]⟩, .slice none 0 0, .slice none 0 0] 46)) = v9 := ⟨_, rfl⟩
                    have c9 : Below v1.heap.size v1 v2 := by rw [← hv9]; exact ((Below.refl _ _).alloc (Nat.le_refl _) _)
                    have ZB_n : Hid (KBlk v2 v1.heap.size 0 ⟨#[]⟩ (.slice none 0 0) (.slice none 0 0)) := Hid.of (by rw [← hv9]; exact Go.heap_alloc_new _ _)
                    have HB : Hid (w.heap.size < v1.heap.size) := Hid.of G1.out.lt
                    have OWB : Hid (∀ k, (Value.slice la i lc).ownBlock = some k → k ≠ v1.heap.size) := Hid.of (fun k hk => by have := (G1.out.own.lt k hk).2; omega)
                    have NB1 := Hid.of R1_n.out.new
                    rw [hv9]
                    clear hv9
                    have G2 := Hid.of (G1.out.next c9)
                    have R1_2 := Hid.of (R1_n.out.next c9)
                    clear c9 hHeld c0 c1
                    obtain ⟨c0, c1⟩ := G2.out.k.at
                    refine hK.out _ _ ⟨c0, c1⟩ (fun hHeld => ?_)
                    clear hK K
                    try simp only [Act.put, List.setIfInBounds_toArray, List.set_cons_zero, List.set_cons_succ]
                    refine wpAnyH_ready (rs := [9, 10]) (by kernel_rfl) (by simp) ?_
                    refine AllReadyH.cons (o := ⟨_, _, _, _, _, _⟩) rfl (fun K hK => ?_) (AllReadyH.cons (o := ⟨_, _, _, _, _, _⟩) rfl (fun K hK => ?_) AllReadyH.nil)
                    · skip
                      go_simp
                      refine (S.of _ _ p (now + more) gl _ G2.out.ok F2.out G2.out.q (G2.out.row GLE.out LE.out) (own_cap G2.out.own)).mono ?_
                      rintro e v3 ⟨u, rfl, ou, b9⟩
                      have c9 := b9
                      obtain ⟨s2, f2, rfl, o1, o2, -⟩ := ou
                      obtain ⟨sa2, sc2, rfl, -⟩ := own_one o1
                      obtain ⟨fa2, fc2, rfl, -⟩ := own_one o2
                      have h9 := RO.made (s := .slice sa2 p.2.length sc2) (f := .slice fa2 gl.length fc2) (r := (now + more, p, gl)) o1 o2
                      rw [HN.out, LE.out] at h9
                      have e9 : rVal (now + more, p, gl) (.slice sa2 ((now + more, p, gl) : RchL).2.1.2.length sc2) (.slice fa2 ((now + more, p, gl) : RchL).2.2.length fc2) = .agg #[.int .i64 (now + more), .string n, .slice sa2 N sc2, .slice fa2 i fc2] := by rw [← Hn.out, ← HN.out, ← LE.out]; rfl
                      rw [e9]
                      clear e9 o1 o2 b9
                      have NB2 : Hid (NotAt (.slice sa2 N sc2) (.slice fa2 i fc2) v1.heap.size) := Hid.of (h9.2 _ (by have := (Array.getElem?_eq_some_iff.1 ZB_n.out).1; simpa using this))
                      have R2_n := Hid.of h9.1
                      clear h9
                      have G3 := Hid.of (G2.out.next c9)
                      have ZB_3 := Hid.of (kblk_next ZB_n.out c9)
                      have R1_3 := Hid.of (R1_2.out.next c9)
                      clear c9 hHeld c0 c1
                      obtain ⟨c0, c1⟩ := G3.out.k.at
                      refine hK.out _ _ ⟨c0, c1⟩ (fun hHeld => ?_)
                      clear hK K
                      try simp only [Act.put, List.setIfInBounds_toArray, List.set_cons_zero, List.set_cons_succ]
                      refine wpAnyH_ready (rs := [10]) (by kernel_rfl) (by simp) ?_
                      refine AllReadyH.cons (o := ⟨_, _, _, _, _, _⟩) rfl (fun K hK => ?_) AllReadyH.nil
                      go_simp
                      obtain ⟨v4, hv9⟩ : ∃ v9, (v3.alloc (.cells #[.int .i64 0, .string ⟨#[]⟩, .slice none 0 0, .slice none 0 0] 46)) = v9 := ⟨_, rfl⟩
                      have c9 : Below v3.heap.size v3 v4 := by rw [← hv9]; exact ((Below.refl _ _).alloc (Nat.le_refl _) _)
                      have ZA_n : Hid (KBlk v4 v3.heap.size 0 ⟨#[]⟩ (.slice none 0 0) (.slice none 0 0)) := Hid.of (by rw [← hv9]; exact Go.heap_alloc_new _ _)
                      have HA : Hid (w.heap.size < v3.heap.size) := Hid.of G3.out.lt
                      have OWA : Hid (∀ k, (Value.slice la i lc).ownBlock = some k → k ≠ v3.heap.size) := Hid.of (fun k hk => by have := (G3.out.own.lt k hk).2; omega)
                      have NA1 := Hid.of R1_3.out.new
                      have NA2 := Hid.of R2_n.out.new
                      have NE : Hid (v3.heap.size ≠ v1.heap.size) := Hid.of (by have := (Array.getElem?_eq_some_iff.1 ZB_3.out).1; omega)
                      rw [hv9]
                      clear hv9
                      have G4 := Hid.of (G3.out.next c9)
                      have ZB_4 := Hid.of (kblk_next ZB_3.out c9)
                      have R1_4 := Hid.of (R1_3.out.next c9)
                      have R2_4 := Hid.of (R2_n.out.next c9)
                      clear c9 hHeld c0 c1
                      obtain ⟨c0, c1⟩ := G4.out.k.at
                      refine hK.out _ _ ⟨c0, c1⟩ (fun hHeld => ?_)
                      clear hK K
                      try simp only [Act.put, List.setIfInBounds_toArray, List.set_cons_zero, List.set_cons_succ]
                      have L : Hid (LZ S w.heap.size w n (.slice sa N sc) (.slice ga M gc) p fl gl i (.slice la i lc) v3.heap.size v1.heap.size now more (.slice sa1 N sc1) (.slice fa1 i fc1) (.slice sa2 N sc2) (.slice fa2 i fc2) v4) := Hid.of ⟨G4.out, ZA_n.out, ZB_4.out, R1_4.out, R2_4.out, ⟨NA1.out, NA2.out, OWA.out⟩, ⟨NB1.out, NB2.out, OWB.out⟩, NE.out, HA.out, HB.out⟩
                      have Z0 := L.out.done Hn.out
                      have one := L.out.one
                      obtain ⟨x1, hx1⟩ : ∃ x1, setR v4 v3.heap.size now n (.slice sa1 N sc1) (.slice fa1 i fc1) = x1 := ⟨_, rfl⟩
                      rw [hx1] at Z0 one
                      obtain ⟨x2, hx2⟩ : ∃ x2, setR x1 v1.heap.size (now + more) n (.slice sa2 N sc2) (.slice fa2 i fc2) = x2 := ⟨_, rfl⟩
                      rw [hx2] at Z0
                      have ONE1 := Hid.of one.1
                      have ONE2 := Hid.of one.2
                      have Z := Hid.of Z0
                      unfold setR at hx1 hx2
                      have HX1 := Hid.of hx1
                      have HX2 := Hid.of hx2
                      obtain ⟨q0, q1, q2, q3⟩ := kblk_at L.out.za
                      have y0 := row_frozen (i := 0) L.out.za
                      have y1 := row_frozen (i := 1) L.out.za
                      have y2 := row_frozen (i := 2) L.out.za
                      have y3 := row_frozen (i := 3) L.out.za
                      clear one Z0 hx1 hx2
                      refine wpAnyH_ready (rs := [12]) (by kernel_rfl) (by simp) ?_
                      refine AllReadyH.cons (o := ⟨_, _, _, _, _, _⟩) rfl (fun K hK => ?_) AllReadyH.nil
                      go_simp
                      rw [HX1.out]
                      clear q0 q1 q2 q3 y0 y1 y2 y3 hHeld c0 c1
                      obtain ⟨c0, c1⟩ := ONE1.out.k.at
                      refine hK.out _ _ ⟨c0, c1⟩ (fun hHeld => ?_)
                      clear hK K
                      try simp only [Act.put, List.setIfInBounds_toArray, List.set_cons_zero, List.set_cons_succ]
                      obtain ⟨q0, q1, q2, q3⟩ := kblk_at ONE2.out
                      have y0 := row_frozen (i := 0) ONE2.out
                      have y1 := row_frozen (i := 1) ONE2.out
                      have y2 := row_frozen (i := 2) ONE2.out
                      have y3 := row_frozen (i := 3) ONE2.out
                      refine wpAnyH_ready (rs := [13]) (by kernel_rfl) (by simp) ?_
                      refine AllReadyH.cons (o := ⟨_, _, _, _, _, _⟩) rfl (fun K hK => ?_) AllReadyH.nil
                      go_simp
                      rw [HX2.out]
                      clear q0 q1 q2 q3 y0 y1 y2 y3 hHeld c0 c1
                      obtain ⟨c0, c1⟩ := Z.out.gi.k.at
                      refine hK.out _ _ ⟨c0, c1⟩ (fun hHeld => ?_)
                      clear hK K
                      try simp only [Act.put, List.setIfInBounds_toArray, List.set_cons_zero, List.set_cons_succ]
                      refine wpAnyH_done (by kernel_rfl) ?_ _
                      refine NoPanic.normal ?_
                      go_wp2_with fail
                      go_meet
                      exact ⟨_, _, _, _, _, _, _, _, _, _, rfl, rfl, Z⟩
                    · skip
                      go_simp
                      obtain ⟨v3, hv9⟩ : ∃ v9, (v2.alloc (.cells #[.int .i64 0, .string ⟨#[]⟩, .slice none 0 0, .slice none 0 0] 46)) = v9 := ⟨_, rfl⟩
                      have c9 : Below v2.heap.size v2 v3 := by rw [← hv9]; exact ((Below.refl _ _).alloc (Nat.le_refl _) _)
                      have ZA_n : Hid (KBlk v3 v2.heap.size 0 ⟨#[]⟩ (.slice none 0 0) (.slice none 0 0)) := Hid.of (by rw [← hv9]; exact Go.heap_alloc_new _ _)
                      have HA : Hid (w.heap.size < v2.heap.size) := Hid.of G2.out.lt
                      have OWA : Hid (∀ k, (Value.slice la i lc).ownBlock = some k → k ≠ v2.heap.size) := Hid.of (fun k hk => by have := (G2.out.own.lt k hk).2; omega)
                      have NA1 := Hid.of R1_2.out.new
                      have NE : Hid (v2.heap.size ≠ v1.heap.size) := Hid.of (by have := (Array.getElem?_eq_some_iff.1 ZB_n.out).1; omega)
                      rw [hv9]
                      clear hv9
                      have G3 := Hid.of (G2.out.next c9)
                      have ZB_3 := Hid.of (kblk_next ZB_n.out c9)
                      have R1_3 := Hid.of (R1_2.out.next c9)
                      clear c9 hHeld c0 c1
                      obtain ⟨c0, c1⟩ := G3.out.k.at
                      refine hK.out _ _ ⟨c0, c1⟩ (fun hHeld => ?_)
                      clear hK K
                      try simp only [Act.put, List.setIfInBounds_toArray, List.set_cons_zero, List.set_cons_succ]
                      refine wpAnyH_ready (rs := [9]) (by kernel_rfl) (by simp) ?_
                      refine AllReadyH.cons (o := ⟨_, _, _, _, _, _⟩) rfl (fun K hK => ?_) AllReadyH.nil
                      go_simp
                      refine (S.of _ _ p (now + more) gl _ G3.out.ok F2.out G3.out.q (G3.out.row GLE.out LE.out) (own_cap G3.out.own)).mono ?_
                      rintro e v4 ⟨u, rfl, ou, b9⟩
                      have c9 := b9
                      obtain ⟨s2, f2, rfl, o1, o2, -⟩ := ou
                      obtain ⟨sa2, sc2, rfl, -⟩ := own_one o1
                      obtain ⟨fa2, fc2, rfl, -⟩ := own_one o2
                      have h9 := RO.made (s := .slice sa2 p.2.length sc2) (f := .slice fa2 gl.length fc2) (r := (now + more, p, gl)) o1 o2
                      rw [HN.out, LE.out] at h9
                      have e9 : rVal (now + more, p, gl) (.slice sa2 ((now + more, p, gl) : RchL).2.1.2.length sc2) (.slice fa2 ((now + more, p, gl) : RchL).2.2.length fc2) = .agg #[.int .i64 (now + more), .string n, .slice sa2 N sc2, .slice fa2 i fc2] := by rw [← Hn.out, ← HN.out, ← LE.out]; rfl
                      rw [e9]
                      clear e9 o1 o2 b9
                      have NA2 : Hid (NotAt (.slice sa2 N sc2) (.slice fa2 i fc2) v2.heap.size) := Hid.of (h9.2 _ (by have := (Array.getElem?_eq_some_iff.1 ZA_n.out).1; simpa using this))
                      have NB2 : Hid (NotAt (.slice sa2 N sc2) (.slice fa2 i fc2) v1.heap.size) := Hid.of (h9.2 _ (by have := (Array.getElem?_eq_some_iff.1 ZB_3.out).1; simpa using this))
                      have R2_n := Hid.of h9.1
                      clear h9
                      have G4 := Hid.of (G3.out.next c9)
                      have ZA_4 := Hid.of (kblk_next ZA_n.out c9)
                      have ZB_4 := Hid.of (kblk_next ZB_3.out c9)
                      have R1_4 := Hid.of (R1_3.out.next c9)
                      clear c9 hHeld c0 c1
                      obtain ⟨c0, c1⟩ := G4.out.k.at
                      refine hK.out _ _ ⟨c0, c1⟩ (fun hHeld => ?_)
                      clear hK K
                      try simp only [Act.put, List.setIfInBounds_toArray, List.set_cons_zero, List.set_cons_succ]
                      have L : Hid (LZ S w.heap.size w n (.slice sa N sc) (.slice ga M gc) p fl gl i (.slice la i lc) v2.heap.size v1.heap.size now more (.slice sa1 N sc1) (.slice fa1 i fc1) (.slice sa2 N sc2) (.slice fa2 i fc2) v4) := Hid.of ⟨G4.out, ZA_4.out, ZB_4.out, R1_4.out, R2_n.out, ⟨NA1.out, NA2.out, OWA.out⟩, ⟨NB1.out, NB2.out, OWB.out⟩, NE.out, HA.out, HB.out⟩
                      have Z0 := L.out.done Hn.out
                      have one := L.out.one
                      obtain ⟨x1, hx1⟩ : ∃ x1, setR v4 v2.heap.size now n (.slice sa1 N sc1) (.slice fa1 i fc1) = x1 := ⟨_, rfl⟩
                      rw [hx1] at Z0 one
                      obtain ⟨x2, hx2⟩ : ∃ x2, setR x1 v1.heap.size (now + more) n (.slice sa2 N sc2) (.slice fa2 i fc2) = x2 := ⟨_, rfl⟩
                      rw [hx2] at Z0
                      have ONE1 := Hid.of one.1
                      have ONE2 := Hid.of one.2
                      have Z := Hid.of Z0
                      unfold setR at hx1 hx2
                      have HX1 := Hid.of hx1
                      have HX2 := Hid.of hx2
                      obtain ⟨q0, q1, q2, q3⟩ := kblk_at L.out.za
                      have y0 := row_frozen (i := 0) L.out.za
                      have y1 := row_frozen (i := 1) L.out.za
                      have y2 := row_frozen (i := 2) L.out.za
                      have y3 := row_frozen (i := 3) L.out.za
                      clear one Z0 hx1 hx2
                      refine wpAnyH_ready (rs := [12]) (by kernel_rfl) (by simp) ?_
                      refine AllReadyH.cons (o := ⟨_, _, _, _, _, _⟩) rfl (fun K hK => ?_) AllReadyH.nil
                      go_simp
                      rw [HX1.out]
                      clear q0 q1 q2 q3 y0 y1 y2 y3 hHeld c0 c1
                      obtain ⟨c0, c1⟩ := ONE1.out.k.at
                      refine hK.out _ _ ⟨c0, c1⟩ (fun hHeld => ?_)
                      clear hK K
                      try simp only [Act.put, List.setIfInBounds_toArray, List.set_cons_zero, List.set_cons_succ]
                      obtain ⟨q0, q1, q2, q3⟩ := kblk_at ONE2.out
                      have y0 := row_frozen (i := 0) ONE2.out
                      have y1 := row_frozen (i := 1) ONE2.out
                      have y2 := row_frozen (i := 2) ONE2.out
                      have y3 := row_frozen (i := 3) ONE2.out
                      refine wpAnyH_ready (rs := [13]) (by kernel_rfl) (by simp) ?_
                      refine AllReadyH.cons (o := ⟨_, _, _, _, _, _⟩) rfl (fun K hK => ?_) AllReadyH.nil
                      go_simp
                      rw [HX2.out]
                      clear q0 q1 q2 q3 y0 y1 y2 y3 hHeld c0 c1
                      obtain ⟨c0, c1⟩ := Z.out.gi.k.at
                      refine hK.out _ _ ⟨c0, c1⟩ (fun hHeld => ?_)
                      clear hK K
                      try simp only [Act.put, List.setIfInBounds_toArray, List.set_cons_zero, List.set_cons_succ]
                      refine wpAnyH_done (by kernel_rfl) ?_ _
                      refine NoPanic.normal ?_
                      go_wp2_with fail
                      go_meet
                      exact ⟨_, _, _, _, _, _, _, _, _, _, rfl, rfl, Z⟩
                · skip
                  go_simp
                  obtain ⟨v1, hv9⟩ : ∃ v9, (wr.alloc (.cells #[.int .i64 0, .string ⟨#[]⟩, .slice none 0 0, .slice none 0 0] 46)).drew = v9 := ⟨_, rfl⟩
                  have c9 : Below wr.heap.size wr v1 := by rw [← hv9]; exact ((Below.refl _ _).alloc (Nat.le_refl _) _).drew
                  have ZA_n : Hid (KBlk v1 wr.heap.size 0 ⟨#[]⟩ (.slice none 0 0) (.slice none 0 0)) := Hid.of (by rw [← hv9]; exact Go.heap_alloc_new _ _)
                  have HA : Hid (w.heap.size < wr.heap.size) := Hid.of I.out.lt
                  have OWA : Hid (∀ k, (Value.slice la i lc).ownBlock = some k → k ≠ wr.heap.size) := Hid.of (fun k hk => by have := (I.out.own.lt k hk).2; omega)
                  rw [hv9]
                  clear hv9
                  have G1 := Hid.of (I.out.next c9)
                  clear c9 hHeld c0 c1
                  obtain ⟨c0, c1⟩ := G1.out.k.at
                  refine hK.out _ _ ⟨c0, c1⟩ (fun hHeld => ?_)
                  clear hK K
                  try simp only [Act.put, List.setIfInBounds_toArray, List.set_cons_zero, List.set_cons_succ]
                  refine wpAnyH_ready (rs := [3, 11]) (by kernel_rfl) (by simp) ?_
                  refine AllReadyH.cons (o := ⟨_, _, _, _, _, _⟩) rfl (fun K hK => ?_) (AllReadyH.cons (o := ⟨_, _, _, _, _, _⟩) rfl (fun K hK => ?_) AllReadyH.nil)
                  · skip
                    go_simp
                    refine (S.of _ _ p (now) gl _ G1.out.ok F1.out G1.out.q (G1.out.row GLE.out LE.out) (own_cap G1.out.own)).mono ?_
                    rintro e v2 ⟨u, rfl, ou, b9⟩
                    have c9 := b9
                    obtain ⟨s1, f1, rfl, o1, o2, -⟩ := ou
                    obtain ⟨sa1, sc1, rfl, -⟩ := own_one o1
                    obtain ⟨fa1, fc1, rfl, -⟩ := own_one o2
                    have h9 := RO.made (s := .slice sa1 p.2.length sc1) (f := .slice fa1 gl.length fc1) (r := (now, p, gl)) o1 o2
                    rw [HN.out, LE.out] at h9
                    have e9 : rVal (now, p, gl) (.slice sa1 ((now, p, gl) : RchL).2.1.2.length sc1) (.slice fa1 ((now, p, gl) : RchL).2.2.length fc1) = .agg #[.int .i64 (now), .string n, .slice sa1 N sc1, .slice fa1 i fc1] := by rw [← Hn.out, ← HN.out, ← LE.out]; rfl
                    rw [e9]
                    clear e9 o1 o2 b9
                    have NA1 : Hid (NotAt (.slice sa1 N sc1) (.slice fa1 i fc1) wr.heap.size) := Hid.of (h9.2 _ (by have := (Array.getElem?_eq_some_iff.1 ZA_n.out).1; simpa using this))
                    have R1_n := Hid.of h9.1
                    clear h9
                    have G2 := Hid.of (G1.out.next c9)
                    have ZA_2 := Hid.of (kblk_next ZA_n.out c9)
                    clear c9 hHeld c0 c1
                    obtain ⟨c0, c1⟩ := G2.out.k.at
                    refine hK.out _ _ ⟨c0, c1⟩ (fun hHeld => ?_)
                    clear hK K
                    try simp only [Act.put, List.setIfInBounds_toArray, List.set_cons_zero, List.set_cons_succ]
                    refine wpAnyH_ready (rs := [9, 11]) (by kernel_rfl) (by simp) ?_
                    refine AllReadyH.cons (o := ⟨_, _, _, _, _, _⟩) rfl (fun K hK => ?_) (AllReadyH.cons (o := ⟨_, _, _, _, _, _⟩) rfl (fun K hK => ?_) AllReadyH.nil)
                    · skip
                      go_simp
                      refine (S.of _ _ p (now + more) gl _ G2.out.ok F2.out G2.out.q (G2.out.row GLE.out LE.out) (own_cap G2.out.own)).mono ?_
                      rintro e v3 ⟨u, rfl, ou, b9⟩
                      have c9 := b9
                      obtain ⟨s2, f2, rfl, o1, o2, -⟩ := ou
                      obtain ⟨sa2, sc2, rfl, -⟩ := own_one o1
                      obtain ⟨fa2, fc2, rfl, -⟩ := own_one o2
                      have h9 := RO.made (s := .slice sa2 p.2.length sc2) (f := .slice fa2 gl.length fc2) (r := (now + more, p, gl)) o1 o2
                      rw [HN.out, LE.out] at h9
                      have e9 : rVal (now + more, p, gl) (.slice sa2 ((now + more, p, gl) : RchL).2.1.2.length sc2) (.slice fa2 ((now + more, p, gl) : RchL).2.2.length fc2) = .agg #[.int .i64 (now + more), .string n, .slice sa2 N sc2, .slice fa2 i fc2] := by rw [← Hn.out, ← HN.out, ← LE.out]; rfl
                      rw [e9]
                      clear e9 o1 o2 b9
                      have NA2 : Hid (NotAt (.slice sa2 N sc2) (.slice fa2 i fc2) wr.heap.size) := Hid.of (h9.2 _ (by have := (Array.getElem?_eq_some_iff.1 ZA_2.out).1; simpa using this))
                      have R2_n := Hid.of h9.1
                      clear h9
                      have G3 := Hid.of (G2.out.next c9)
                      have ZA_3 := Hid.of (kblk_next ZA_2.out c9)
                      have R1_3 := Hid.of (R1_n.out.next c9)
                      clear c9 hHeld c0 c1
                      obtain ⟨c0, c1⟩ := G3.out.k.at
                      refine hK.out _ _ ⟨c0, c1⟩ (fun hHeld => ?_)
                      clear hK K
                      try simp only [Act.put, List.setIfInBounds_toArray, List.set_cons_zero, List.set_cons_succ]
                      refine wpAnyH_ready (rs := [11]) (by kernel_rfl) (by simp) ?_
                      refine AllReadyH.cons (o := ⟨_, _, _, _, _, _⟩) rfl (fun K hK => ?_) AllReadyH.nil
                      go_simp
                      obtain ⟨v4, hv9⟩ : ∃ v9, (v3.alloc (.cells #[.int .i64 0, .string ⟨#[]⟩, .slice none 0 0, .slice none 0 0] 46)) = v9 := ⟨_, rfl⟩
                      have c9 : Below v3.heap.size v3 v4 := by rw [← hv9]; exact ((Below.refl _ _).alloc (Nat.le_refl _) _)
                      have ZB_n : Hid (KBlk v4 v3.heap.size 0 ⟨#[]⟩ (.slice none 0 0) (.slice none 0 0)) := Hid.of (by rw [← hv9]; exact Go.heap_alloc_new _ _)
                      have HB : Hid (w.heap.size < v3.heap.size) := Hid.of G3.out.lt
                      have OWB : Hid (∀ k, (Value.slice la i lc).ownBlock = some k → k ≠ v3.heap.size) := Hid.of (fun k hk => by have := (G3.out.own.lt k hk).2; omega)
                      have NB1 := Hid.of R1_3.out.new
                      have NB2 := Hid.of R2_n.out.new
                      have NE : Hid (wr.heap.size ≠ v3.heap.size) := Hid.of (by have := (Array.getElem?_eq_some_iff.1 ZA_3.out).1; omega)
                      rw [hv9]
                      clear hv9
                      have G4 := Hid.of (G3.out.next c9)
                      have ZA_4 := Hid.of (kblk_next ZA_3.out c9)
                      have R1_4 := Hid.of (R1_3.out.next c9)
                      have R2_4 := Hid.of (R2_n.out.next c9)
                      clear c9 hHeld c0 c1
                      obtain ⟨c0, c1⟩ := G4.out.k.at
                      refine hK.out _ _ ⟨c0, c1⟩ (fun hHeld => ?_)
                      clear hK K
                      try simp only [Act.put, List.setIfInBounds_toArray, List.set_cons_zero, List.set_cons_succ]
                      have L : Hid (LZ S w.heap.size w n (.slice sa N sc) (.slice ga M gc) p fl gl i (.slice la i lc) wr.heap.size v3.heap.size now more (.slice sa1 N sc1) (.slice fa1 i fc1) (.slice sa2 N sc2) (.slice fa2 i fc2) v4) := Hid.of ⟨G4.out, ZA_4.out, ZB_n.out, R1_4.out, R2_4.out, ⟨NA1.out, NA2.out, OWA.out⟩, ⟨NB1.out, NB2.out, OWB.out⟩, NE.out, HA.out, HB.out⟩
                      have Z0 := L.out.done Hn.out
                      have one := L.out.one
                      obtain ⟨x1, hx1⟩ : ∃ x1, setR v4 wr.heap.size now n (.slice sa1 N sc1) (.slice fa1 i fc1) = x1 := ⟨_, rfl⟩
                      rw [hx1] at Z0 one
                      obtain ⟨x2, hx2⟩ : ∃ x2, setR x1 v3.heap.size (now + more) n (.slice sa2 N sc2) (.slice fa2 i fc2) = x2 := ⟨_, rfl⟩
                      rw [hx2] at Z0
                      have ONE1 := Hid.of one.1
                      have ONE2 := Hid.of one.2
                      have Z := Hid.of Z0
                      unfold setR at hx1 hx2
                      have HX1 := Hid.of hx1
                      have HX2 := Hid.of hx2
                      obtain ⟨q0, q1, q2, q3⟩ := kblk_at L.out.za
                      have y0 := row_frozen (i := 0) L.out.za
                      have y1 := row_frozen (i := 1) L.out.za
                      have y2 := row_frozen (i := 2) L.out.za
                      have y3 := row_frozen (i := 3) L.out.za
                      clear one Z0 hx1 hx2
                      refine wpAnyH_ready (rs := [12]) (by kernel_rfl) (by simp) ?_
                      refine AllReadyH.cons (o := ⟨_, _, _, _, _, _⟩) rfl (fun K hK => ?_) AllReadyH.nil
                      go_simp
                      rw [HX1.out]
                      clear q0 q1 q2 q3 y0 y1 y2 y3 hHeld c0 c1
                      obtain ⟨c0, c1⟩ := ONE1.out.k.at
                      refine hK.out _ _ ⟨c0, c1⟩ (fun hHeld => ?_)
                      clear hK K
                      try simp only [Act.put, List.setIfInBounds_toArray, List.set_cons_zero, List.set_cons_succ]
                      obtain ⟨q0, q1, q2, q3⟩ := kblk_at ONE2.out
                      have y0 := row_frozen (i := 0) ONE2.out
                      have y1 := row_frozen (i := 1) ONE2.out
                      have y2 := row_frozen (i := 2) ONE2.out
                      have y3 := row_frozen (i := 3) ONE2.out
                      refine wpAnyH_ready (rs := [13]) (by kernel_rfl) (by simp) ?_
                      refine AllReadyH.cons (o := ⟨_, _, _, _, _, _⟩) rfl (fun K hK => ?_) AllReadyH.nil
                      go_simp
                      rw [HX2.out]
                      clear q0 q1 q2 q3 y0 y1 y2 y3 hHeld c0 c1
                      obtain ⟨c0, c1⟩ := Z.out.gi.k.at
                      refine hK.out _ _ ⟨c0, c1⟩ (fun hHeld => ?_)
                      clear hK K
                      try simp only [Act.put, List.setIfInBounds_toArray, List.set_cons_zero, List.set_cons_succ]
                      refine wpAnyH_done (by kernel_rfl) ?_ _
                      refine NoPanic.normal ?_
                      go_wp2_with fail
                      go_meet
                      exact ⟨_, _, _, _, _, _, _, _, _, _, rfl, rfl, Z⟩
                    · skip
                      go_simp
                      obtain ⟨v3, hv9⟩ : ∃ v9, (v2.alloc (.cells #[.int .i64 0, .string ⟨#[]⟩, .slice none 0 0, .slice none 0 0] 46)) = v9 := ⟨_, rfl⟩
                      have c9 : Below v2.heap.size v2 v3 := by rw [← hv9]; exact ((Below.refl _ _).alloc (Nat.le_refl _) _)
                      have ZB_n : Hid (KBlk v3 v2.heap.size 0 ⟨#[]⟩ (.slice none 0 0) (.slice none 0 0)) := Hid.of (by rw [← hv9]; exact Go.heap_alloc_new _ _)
                      have HB : Hid (w.heap.size < v2.heap.size) := Hid.of G2.out.lt
                      have OWB : Hid (∀ k, (Value.slice la i lc).ownBlock = some k → k ≠ v2.heap.size) := Hid.of (fun k hk => by have := (G2.out.own.lt k hk).2; omega)
                      have NB1 := Hid.of R1_n.out.new
                      have NE : Hid (wr.heap.size ≠ v2.heap.size) := Hid.of (by have := (Array.getElem?_eq_some_iff.1 ZA_2.out).1; omega)
                      rw [hv9]
                      clear hv9
                      have G3 := Hid.of (G2.out.next c9)
                      have ZA_3 := Hid.of (kblk_next ZA_2.out c9)
                      have R1_3 := Hid.of (R1_n.out.next c9)
                      clear c9 hHeld c0 c1
                      obtain ⟨c0, c1⟩ := G3.out.k.at
                      refine hK.out _ _ ⟨c0, c1⟩ (fun hHeld => ?_)
                      clear hK K
                      try simp only [Act.put, List.setIfInBounds_toArray, List.set_cons_zero, List.set_cons_succ]
                      refine wpAnyH_ready (rs := [9]) (by kernel_rfl) (by simp) ?_
                      refine AllReadyH.cons (o := ⟨_, _, _, _, _, _⟩) rfl (fun K hK => ?_) AllReadyH.nil
                      go_simp
                      refine (S.of _ _ p (now + more) gl _ G3.out.ok F2.out G3.out.q (G3.out.row GLE.out LE.out) (own_cap G3.out.own)).mono ?_
                      rintro e v4 ⟨u, rfl, ou, b9⟩
                      have c9 := b9
                      obtain ⟨s2, f2, rfl, o1, o2, -⟩ := ou
                      obtain ⟨sa2, sc2, rfl, -⟩ := own_one o1
                      obtain ⟨fa2, fc2, rfl, -⟩ := own_one o2
                      have h9 := RO.made (s := .slice sa2 p.2.length sc2) (f := .slice fa2 gl.length fc2) (r := (now + more, p, gl)) o1 o2
                      rw [HN.out, LE.out] at h9
                      have e9 : rVal (now + more, p, gl) (.slice sa2 ((now + more, p, gl) : RchL).2.1.2.length sc2) (.slice fa2 ((now + more, p, gl) : RchL).2.2.length fc2) = .agg #[.int .i64 (now + more), .string n, .slice sa2 N sc2, .slice fa2 i fc2] := by rw [← Hn.out, ← HN.out, ← LE.out]; rfl
                      rw [e9]
                      clear e9 o1 o2 b9
                      have NA2 : Hid (NotAt (.slice sa2 N sc2) (.slice fa2 i fc2) wr.heap.size) := Hid.of (h9.2 _ (by have := (Array.getElem?_eq_some_iff.1 ZA_3.out).1; simpa using this))
                      have NB2 : Hid (NotAt (.slice sa2 N sc2) (.slice fa2 i fc2) v2.heap.size) := Hid.of (h9.2 _ (by have := (Array.getElem?_eq_some_iff.1 ZB_n.out).1; simpa using this))
                      have R2_n := Hid.of h9.1
                      clear h9
                      have G4 := Hid.of (G3.out.next c9)
                      have ZA_4 := Hid.of (kblk_next ZA_3.out c9)
                      have ZB_4 := Hid.of (kblk_next ZB_n.out c9)
                      have R1_4 := Hid.of (R1_3.out.next c9)
                      clear c9 hHeld c0 c1
                      obtain ⟨c0, c1⟩ := G4.out.k.at
                      refine hK.out _ _ ⟨c0, c1⟩ (fun hHeld => ?_)
                      clear hK K
                      try simp only [Act.put, List.setIfInBounds_toArray, List.set_cons_zero, List.set_cons_succ]
                      have L : Hid (LZ S w.heap.size w n (.slice sa N sc) (.slice ga M gc) p fl gl i (.slice la i lc) wr.heap.size v2.heap.size now more (.slice sa1 N sc1) (.slice fa1 i fc1) (.slice sa2 N sc2) (.slice fa2 i fc2) v4) := Hid.of ⟨G4.out, ZA_4.out, ZB_4.out, R1_4.out, R2_n.out, ⟨NA1.out, NA2.out, OWA.out⟩, ⟨NB1.out, NB2.out, OWB.out⟩, NE.out, HA.out, HB.out⟩
                      have Z0 := L.out.done Hn.out
                      have one := L.out.one
                      obtain ⟨x1, hx1⟩ : ∃ x1, setR v4 wr.heap.size now n (.slice sa1 N sc1) (.slice fa1 i fc1) = x1 := ⟨_, rfl⟩
                      rw [hx1] at Z0 one
                      obtain ⟨x2, hx2⟩ : ∃ x2, setR x1 v2.heap.size (now + more) n (.slice sa2 N sc2) (.slice fa2 i fc2) = x2 := ⟨_, rfl⟩
                      rw [hx2] at Z0
                      have ONE1 := Hid.of one.1
                      have ONE2 := Hid.of one.2
                      have Z := Hid.of Z0
                      unfold setR at hx1 hx2
                      have HX1 := Hid.of hx1
                      have HX2 := Hid.of hx2
                      obtain ⟨q0, q1, q2, q3⟩ := kblk_at L.out.za
                      have y0 := row_frozen (i := 0) L.out.za
                      have y1 := row_frozen (i := 1) L.out.za
                      have y2 := row_frozen (i := 2) L.out.za
                      have y3 := row_frozen (i := 3) L.out.za
                      clear one Z0 hx1 hx2
                      refine wpAnyH_ready (rs := [12]) (by kernel_rfl) (by simp) ?_
                      refine AllReadyH.cons (o := ⟨_, _, _, _, _, _⟩) rfl (fun K hK => ?_) AllReadyH.nil
                      go_simp
                      rw [HX1.out]
                      clear q0 q1 q2 q3 y0 y1 y2 y3 hHeld c0 c1
                      obtain ⟨c0, c1⟩ := ONE1.out.k.at
                      refine hK.out _ _ ⟨c0, c1⟩ (fun hHeld => ?_)
                      clear hK K
                      try simp only [Act.put, List.setIfInBounds_toArray, List.set_cons_zero, List.set_cons_succ]
                      obtain ⟨q0, q1, q2, q3⟩ := kblk_at ONE2.out
                      have y0 := row_frozen (i := 0) ONE2.out
                      have y1 := row_frozen (i := 1) ONE2.out
                      have y2 := row_frozen (i := 2) ONE2.out
                      have y3 := row_frozen (i := 3) ONE2.out
                      refine wpAnyH_ready (rs := [13]) (by kernel_rfl) (by simp) ?_
                      refine AllReadyH.cons (o := ⟨_, _, _, _, _, _⟩) rfl (fun K hK => ?_) AllReadyH.nil
                      go_simp
                      rw [HX2.out]
                      clear q0 q1 q2 q3 y0 y1 y2 y3 hHeld c0 c1
                      obtain ⟨c0, c1⟩ := Z.out.gi.k.at
                      refine hK.out _ _ ⟨c0, c1⟩ (fun hHeld => ?_)
                      clear hK K
                      try simp only [Act.put, List.setIfInBounds_toArray, List.set_cons_zero, List.set_cons_succ]
                      refine wpAnyH_done (by kernel_rfl) ?_ _
                      refine NoPanic.normal ?_
                      go_wp2_with fail
                      go_meet
                      exact ⟨_, _, _, _, _, _, _, _, _, _, rfl, rfl, Z⟩
                  · skip
                    go_simp
                    obtain ⟨v2, hv9⟩ : ∃ v9, (v1.alloc (.cells #[.int .i64 0, .string ⟨#[]⟩, .slice none 0 0, .slice none 0 0] 46)) = v9 := ⟨_, rfl⟩
                    have c9 : Below v1.heap.size v1 v2 := by rw [← hv9]; exact ((Below.refl _ _).alloc (Nat.le_refl _) _)
                    have ZB_n : Hid (KBlk v2 v1.heap.size 0 ⟨#[]⟩ (.slice none 0 0) (.slice none 0 0)) := Hid.of (by rw [← hv9]; exact Go.heap_alloc_new _ _)
                    have HB : Hid (w.heap.size < v1.heap.size) := Hid.of G1.out.lt
                    have OWB : Hid (∀ k, (Value.slice la i lc).ownBlock = some k → k ≠ v1.heap.size) := Hid.of (fun k hk => by have := (G1.out.own.lt k hk).2; omega)
                    have NE : Hid (wr.heap.size ≠ v1.heap.size) := Hid.of (by have := (Array.getElem?_eq_some_iff.1 ZA_n.out).1; omega)
                    rw [hv9]
                    clear hv9
                    have G2 := Hid.of (G1.out.next c9)
                    have ZA_2 := Hid.of (kblk_next ZA_n.out c9)
                    clear c9 hHeld c0 c1
                    obtain ⟨c0, c1⟩ := G2.out.k.at
                    refine hK.out _ _ ⟨c0, c1⟩ (fun hHeld => ?_)
                    clear hK K
                    try simp only [Act.put, List.setIfInBounds_toArray, List.set_cons_zero, List.set_cons_succ]
                    refine wpAnyH_ready (rs := [3]) (by kernel_rfl) (by simp) ?_
                    refine AllReadyH.cons (o := ⟨_, _, _, _, _, _⟩) rfl (fun K hK => ?_) AllReadyH.nil
                    go_simp
                    refine (S.of _ _ p (now) gl _ G2.out.ok F1.out G2.out.q (G2.out.row GLE.out LE.out) (own_cap G2.out.own)).mono ?_
                    rintro e v3 ⟨u, rfl, ou, b9⟩
                    have c9 := b9
                    obtain ⟨s1, f1, rfl, o1, o2, -⟩ := ou
                    obtain ⟨sa1, sc1, rfl, -⟩ := own_one o1
                    obtain ⟨fa1, fc1, rfl, -⟩ := own_one o2
                    have h9 := RO.made (s := .slice sa1 p.2.length sc1) (f := .slice fa1 gl.length fc1) (r := (now, p, gl)) o1 o2
                    rw [HN.out, LE.out] at h9
                    have e9 : rVal (now, p, gl) (.slice sa1 ((now, p, gl) : RchL).2.1.2.length sc1) (.slice fa1 ((now, p, gl) : RchL).2.2.length fc1) = .agg #[.int .i64 (now), .string n, .slice sa1 N sc1, .slice fa1 i fc1] := by rw [← Hn.out, ← HN.out, ← LE.out]; rfl
                    rw [e9]
                    clear e9 o1 o2 b9
                    have NA1 : Hid (NotAt (.slice sa1 N sc1) (.slice fa1 i fc1) wr.heap.size) := Hid.of (h9.2 _ (by have := (Array.getElem?_eq_some_iff.1 ZA_2.out).1; simpa using this))
                    have NB1 : Hid (NotAt (.slice sa1 N sc1) (.slice fa1 i fc1) v1.heap.size) := Hid.of (h9.2 _ (by have := (Array.getElem?_eq_some_iff.1 ZB_n.out).1; simpa using this))
                    have R1_n := Hid.of h9.1
                    clear h9
                    have G3 := Hid.of (G2.out.next c9)
                    have ZA_3 := Hid.of (kblk_next ZA_2.out c9)
                    have ZB_3 := Hid.of (kblk_next ZB_n.out c9)
                    clear c9 hHeld c0 c1
                    obtain ⟨c0, c1⟩ := G3.out.k.at
                    refine hK.out _ _ ⟨c0, c1⟩ (fun hHeld => ?_)
                    clear hK K
                    try simp only [Act.put, List.setIfInBounds_toArray, List.set_cons_zero, List.set_cons_succ]
                    refine wpAnyH_ready (rs := [9]) (by kernel_rfl) (by simp) ?_
                    refine AllReadyH.cons (o := ⟨_, _, _, _, _, _⟩) rfl (fun K hK => ?_) AllReadyH.nil
                    go_simp
                    refine (S.of _ _ p (now + more) gl _ G3.out.ok F2.out G3.out.q (G3.out.row GLE.out LE.out) (own_cap G3.out.own)).mono ?_
                    rintro e v4 ⟨u, rfl, ou, b9⟩
                    have c9 := b9
                    obtain ⟨s2, f2, rfl, o1, o2, -⟩ := ou
                    obtain ⟨sa2, sc2, rfl, -⟩ := own_one o1
                    obtain ⟨fa2, fc2, rfl, -⟩ := own_one o2
                    have h9 := RO.made (s := .slice sa2 p.2.length sc2) (f := .slice fa2 gl.length fc2) (r := (now + more, p, gl)) o1 o2
                    rw [HN.out, LE.out] at h9
                    have e9 : rVal (now + more, p, gl) (.slice sa2 ((now + more, p, gl) : RchL).2.1.2.length sc2) (.slice fa2 ((now + more, p, gl) : RchL).2.2.length fc2) = .agg #[.int .i64 (now + more), .string n, .slice sa2 N sc2, .slice fa2 i fc2] := by rw [← Hn.out, ← HN.out, ← LE.out]; rfl
                    rw [e9]
                    clear e9 o1 o2 b9
                    have NA2 : Hid (NotAt (.slice sa2 N sc2) (.slice fa2 i fc2) wr.heap.size) := Hid.of (h9.2 _ (by have := (Array.getElem?_eq_some_iff.1 ZA_3.out).1; simpa using this))
                    have NB2 : Hid (NotAt (.slice sa2 N sc2) (.slice fa2 i fc2) v1.heap.size) := Hid.of (h9.2 _ (by have := (Array.getElem?_eq_some_iff.1 ZB_3.out).1; simpa using this))
                    have R2_n := Hid.of h9.1
                    clear h9
                    have G4 := Hid.of (G3.out.next c9)
                    have ZA_4 := Hid.of (kblk_next ZA_3.out c9)
                    have ZB_4 := Hid.of (kblk_next ZB_3.out c9)
                    have R1_4 := Hid.of (R1_n.out.next c9)
                    clear c9 hHeld c0 c1
                    obtain ⟨c0, c1⟩ := G4.out.k.at
                    refine hK.out _ _ ⟨c0, c1⟩ (fun hHeld => ?_)
                    clear hK K
                    try simp only [Act.put, List.setIfInBounds_toArray, List.set_cons_zero, List.set_cons_succ]
                    have L : Hid (LZ S w.heap.size w n (.slice sa N sc) (.slice ga M gc) p fl gl i (.slice la i lc) wr.heap.size v1.heap.size now more (.slice sa1 N sc1) (.slice fa1 i fc1) (.slice sa2 N sc2) (.slice fa2 i fc2) v4) := Hid.of ⟨G4.out, ZA_4.out, ZB_4.out, R1_4.out, R2_n.out, ⟨NA1.out, NA2.out, OWA.out⟩, ⟨NB1.out, NB2.out, OWB.out⟩, NE.out, HA.out, HB.out⟩
                    have Z0 := L.out.done Hn.out
                    have one := L.out.one
                    obtain ⟨x1, hx1⟩ : ∃ x1, setR v4 wr.heap.size now n (.slice sa1 N sc1) (.slice fa1 i fc1) = x1 := ⟨_, rfl⟩
                    rw [hx1] at Z0 one
                    obtain ⟨x2, hx2⟩ : ∃ x2, setR x1 v1.heap.size (now + more) n (.slice sa2 N sc2) (.slice fa2 i fc2) = x2 := ⟨_, rfl⟩
                    rw [hx2] at Z0
                    have ONE1 := Hid.of one.1
                    have ONE2 := Hid.of one.2
                    have Z := Hid.of Z0
                    unfold setR at hx1 hx2
                    have HX1 := Hid.of hx1
                    have HX2 := Hid.of hx2
                    obtain ⟨q0, q1, q2, q3⟩ := kblk_at L.out.za
                    have y0 := row_frozen (i := 0) L.out.za
                    have y1 := row_frozen (i := 1) L.out.za
                    have y2 := row_frozen (i := 2) L.out.za
                    have y3 := row_frozen (i := 3) L.out.za
                    clear one Z0 hx1 hx2
                    refine wpAnyH_ready (rs := [12]) (by kernel_rfl) (by simp) ?_
                    refine AllReadyH.cons (o := ⟨_, _, _, _, _, _⟩) rfl (fun K hK => ?_) AllReadyH.nil
                    go_simp
                    rw [HX1.out]
                    clear q0 q1 q2 q3 y0 y1 y2 y3 hHeld c0 c1
                    obtain ⟨c0, c1⟩ := ONE1.out.k.at
                    refine hK.out _ _ ⟨c0, c1⟩ (fun hHeld => ?_)
                    clear hK K
                    try simp only [Act.put, List.setIfInBounds_toArray, List.set_cons_zero, List.set_cons_succ]
                    obtain ⟨q0, q1, q2, q3⟩ := kblk_at ONE2.out
                    have y0 := row_frozen (i := 0) ONE2.out
                    have y1 := row_frozen (i := 1) ONE2.out
                    have y2 := row_frozen (i := 2) ONE2.out
                    have y3 := row_frozen (i := 3) ONE2.out
                    refine wpAnyH_ready (rs := [13]) (by kernel_rfl) (by simp) ?_
                    refine AllReadyH.cons (o := ⟨_, _, _, _, _, _⟩) rfl (fun K hK => ?_) AllReadyH.nil
                    go_simp
                    rw [HX2.out]
                    clear q0 q1 q2 q3 y0 y1 y2 y3 hHeld c0 c1
                    obtain ⟨c0, c1⟩ := Z.out.gi.k.at
                    refine hK.out _ _ ⟨c0, c1⟩ (fun hHeld => ?_)
                    clear hK K
                    try simp only [Act.put, List.setIfInBounds_toArray, List.set_cons_zero, List.set_cons_succ]
                    refine wpAnyH_done (by kernel_rfl) ?_ _
                    refine NoPanic.normal ?_
                    go_wp2_with fail
                    go_meet
                    exact ⟨_, _, _, _, _, _, _, _, _, _, rfl, rfl, Z⟩
                · skip
                  go_simp
                  obtain ⟨v1, hv9⟩ : ∃ v9, (wr.alloc (.cells #[.int .i64 0, .string ⟨#[]⟩, .slice none 0 0, .slice none 0 0] 46)).drew = v9 := ⟨_, rfl⟩
                  have c9 : Below wr.heap.size wr v1 := by rw [← hv9]; exact ((Below.refl _ _).alloc (Nat.le_refl _) _).drew
                  have ZB_n : Hid (KBlk v1 wr.heap.size 0 ⟨#[]⟩ (.slice none 0 0) (.slice none 0 0)) := Hid.of (by rw [← hv9]; exact Go.heap_alloc_new _ _)
                  have HB : Hid (w.heap.size < wr.heap.size) := Hid.of I.out.lt
                  have OWB : Hid (∀ k, (Value.slice la i lc).ownBlock = some k → k ≠ wr.heap.size) := Hid.of (fun k hk => by have := (I.out.own.lt k hk).2; omega)
                  rw [hv9]
                  clear hv9
                  have G1 := Hid.of (I.out.next c9)
                  clear c9 hHeld c0 c1
                  obtain ⟨c0, c1⟩ := G1.out.k.at
                  refine hK.out _ _ ⟨c0, c1⟩ (fun hHeld => ?_)
                  clear hK K
                  try simp only [Act.put, List.setIfInBounds_toArray, List.set_cons_zero, List.set_cons_succ]
                  refine wpAnyH_ready (rs := [3, 10]) (by kernel_rfl) (by simp) ?_
                  refine AllReadyH.cons (o := ⟨_, _, _, _, _, _⟩) rfl (fun K hK => ?_) (AllReadyH.cons (o := ⟨_, _, _, _, _, _⟩) rfl (fun K hK => ?_) AllReadyH.nil)
                  · skip
                    go_simp
                    refine (S.of _ _ p (now) gl _ G1.out.ok F1.out G1.out.q (G1.out.row GLE.out LE.out) (own_cap G1.out.own)).mono ?_
                    rintro e v2 ⟨u, rfl, ou, b9⟩
                    have c9 := b9
                    obtain ⟨s1, f1, rfl, o1, o2, -⟩ := ou
                    obtain ⟨sa1, sc1, rfl, -⟩ := own_one o1
                    obtain ⟨fa1, fc1, rfl, -⟩ := own_one o2
                    have h9 := RO.made (s := .slice sa1 p.2.length sc1) (f := .slice fa1 gl.length fc1) (r := (now, p, gl)) o1 o2
                    rw [HN.out, LE.out] at h9
                    have e9 : rVal (now, p, gl) (.slice sa1 ((now, p, gl) : RchL).2.1.2.length sc1) (.slice fa1 ((now, p, gl) : RchL).2.2.length fc1) = .agg #[.int .i64 (now), .string n, .slice sa1 N sc1, .slice fa1 i fc1] := by rw [← Hn.out, ← HN.out, ← LE.out]; rfl
                    rw [e9]
                    clear e9 o1 o2 b9
                    have NB1 : Hid (NotAt (.slice sa1 N sc1) (.slice fa1 i fc1) wr.heap.size) := Hid.of (h9.2 _ (by have := (Array.getElem?_eq_some_iff.1 ZB_n.out).1; simpa using this))
                    have R1_n := Hid.of h9.1
                    clear h9
                    have G2 := Hid.of (G1.out.next c9)
                    have ZB_2 := Hid.of (kblk_next ZB_n.out c9)
                    clear c9 hHeld c0 c1
                    obtain ⟨c0, c1⟩ := G2.out.k.at
                    refine hK.out _ _ ⟨c0, c1⟩ (fun hHeld => ?_)
                    clear hK K
                    try simp only [Act.put, List.setIfInBounds_toArray, List.set_cons_zero, List.set_cons_succ]
                    refine wpAnyH_ready (rs := [9, 10]) (by kernel_rfl) (by simp) ?_
                    refine AllReadyH.cons (o := ⟨_, _, _, _, _, _⟩) rfl (fun K hK => ?_) (AllReadyH.cons (o := ⟨_, _, _, _, _, _⟩) rfl (fun K hK => ?_) AllReadyH.nil)
                    · skip
                      go_simp
                      refine (S.of _ _ p (now + more) gl _ G2.out.ok F2.out G2.out.q (G2.out.row GLE.out LE.out) (own_cap G2.out.own)).mono ?_
                      rintro e v3 ⟨u, rfl, ou, b9⟩
                      have c9 := b9
                      obtain ⟨s2, f2, rfl, o1, o2, -⟩ := ou
                      obtain ⟨sa2, sc2, rfl, -⟩ := own_one o1
                      obtain ⟨fa2, fc2, rfl, -⟩ := own_one o2
                      have h9 := RO.made (s := .slice sa2 p.2.length sc2) (f := .slice fa2 gl.length fc2) (r := (now + more, p, gl)) o1 o2
                      rw [HN.out, LE.out] at h9
                      have e9 : rVal (now + more, p, gl) (.slice sa2 ((now + more, p, gl) : RchL).2.1.2.length sc2) (.slice fa2 ((now + more, p, gl) : RchL).2.2.length fc2) = .agg #[.int .i64 (now + more), .string n, .slice sa2 N sc2, .slice fa2 i fc2] := by rw [← Hn.out, ← HN.out, ← LE.out]; rfl
                      rw [e9]
                      clear e9 o1 o2 b9
                      have NB2 : Hid (NotAt (.slice sa2 N sc2) (.slice fa2 i fc2) wr.heap.size) := Hid.of (h9.2 _ (by have := (Array.getElem?_eq_some_iff.1 ZB_2.out).1; simpa using this))
                      have R2_n := Hid.of h9.1
                      clear h9
                      have G3 := Hid.of (G2.out.next c9)
                      have ZB_3 := Hid.of (kblk_next ZB_2.out c9)
                      have R1_3 := Hid.of (R1_n.out.next c9)
                      clear c9 hHeld c0 c1
                      obtain ⟨c0, c1⟩ := G3.out.k.at
                      refine hK.out _ _ ⟨c0, c1⟩ (fun hHeld => ?_)
                      clear hK K
                      try simp only [Act.put, List.setIfInBounds_toArray, List.set_cons_zero, List.set_cons_succ]
                      refine wpAnyH_ready (rs := [10]) (by kernel_rfl) (by simp) ?_
                      refine AllReadyH.cons (o := ⟨_, _, _, _, _, _⟩) rfl (fun K hK => ?_) AllReadyH.nil
                      go_simp
                      obtain ⟨v4, hv9⟩ : ∃ v9, (v3.alloc (.cells #[.int .i64 0, .string ⟨#[]⟩, .slice none 0 0, .slice none 0 0] 46)) = v9 := ⟨_, rfl⟩
                      have c9 : Below v3.heap.size v3 v4 := by rw [← hv9]; exact ((Below.refl _ _).alloc (Nat.le_refl _) _)
                      have ZA_n : Hid (KBlk v4 v3.heap.size 0 ⟨#[]⟩ (.slice none 0 0) (.slice none 0 0)) := Hid.of (by rw [← hv9]; exact Go.heap_alloc_new _ _)
                      have HA : Hid (w.heap.size < v3.heap.size) := Hid.of G3.out.lt
                      have OWA : Hid (∀ k, (Value.slice la i lc).ownBlock = some k → k ≠ v3.heap.size) := Hid.of (fun k hk => by have := (G3.out.own.lt k hk).2; omega)
                      have NA1 := Hid.of R1_3.out.new
                      have NA2 := Hid.of R2_n.out.new
                      have NE : Hid (v3.heap.size ≠ wr.heap.size) := Hid.of (by have := (Array.getElem?_eq_some_iff.1 ZB_3.out).1; omega)
                      rw [hv9]
                      clear hv9
                      have G4 := Hid.of (G3.out.next c9)
                      have ZB_4 := Hid.of (kblk_next ZB_3.out c9)
                      have R1_4 := Hid.of (R1_3.out.next c9)
                      have R2_4 := Hid.of (R2_n.out.next c9)
                      clear c9 hHeld c0 c1
                      obtain ⟨c0, c1⟩ := G4.out.k.at
                      refine hK.out _ _ ⟨c0, c1⟩ (fun hHeld => ?_)
                      clear hK K
                      try simp only [Act.put, List.setIfInBounds_toArray, List.set_cons_zero, List.set_cons_succ]
                      have L : Hid (LZ S w.heap.size w n (.slice sa N sc) (.slice ga M gc) p fl gl i (.slice la i lc) v3.heap.size wr.heap.size now more (.slice sa1 N sc1) (.slice fa1 i fc1) (.slice sa2 N sc2) (.slice fa2 i fc2) v4) := Hid.of ⟨G4.out, ZA_n.out, ZB_4.out, R1_4.out, R2_4.out, ⟨NA1.out, NA2.out, OWA.out⟩, ⟨NB1.out, NB2.out, OWB.out⟩, NE.out, HA.out, HB.out⟩
                      have Z0 := L.out.done Hn.out
                      have one := L.out.one
                      obtain ⟨x1, hx1⟩ : ∃ x1, setR v4 v3.heap.size now n (.slice sa1 N sc1) (.slice fa1 i fc1) = x1 := ⟨_, rfl⟩
                      rw [hx1] at Z0 one
                      obtain ⟨x2, hx2⟩ : ∃ x2, setR x1 wr.heap.size (now + more) n (.slice sa2 N sc2) (.slice fa2 i fc2) = x2 := ⟨_, rfl⟩
                      rw [hx2] at Z0
                      have ONE1 := Hid.of one.1
                      have ONE2 := Hid.of one.2
                      have Z := Hid.of Z0
                      unfold setR at hx1 hx2
                      have HX1 := Hid.of hx1
                      have HX2 := Hid.of hx2
                      obtain ⟨q0, q1, q2, q3⟩ := kblk_at L.out.za
                      have y0 := row_frozen (i := 0) L.out.za
                      have y1 := row_frozen (i := 1) L.out.za
                      have y2 := row_frozen (i := 2) L.out.za
                      have y3 := row_frozen (i := 3) L.out.za
                      clear one Z0 hx1 hx2
                      refine wpAnyH_ready (rs := [12]) (by kernel_rfl) (by simp) ?_
                      refine AllReadyH.cons (o := ⟨_, _, _, _, _, _⟩) rfl (fun K hK => ?_) AllReadyH.nil
                      go_simp
                      rw [HX1.out]
                      clear q0 q1 q2 q3 y0 y1 y2 y3 hHeld c0 c1
                      obtain ⟨c0, c1⟩ := ONE1.out.k.at
                      refine hK.out _ _ ⟨c0, c1⟩ (fun hHeld => ?_)
                      clear hK K
                      try simp only [Act.put, List.setIfInBounds_toArray, List.set_cons_zero, List.set_cons_succ]
                      obtain ⟨q0, q1, q2, q3⟩ := kblk_at ONE2.out
                      have y0 := row_frozen (i := 0) ONE2.out
                      have y1 := row_frozen (i := 1) ONE2.out
                      have y2 := row_frozen (i := 2) ONE2.out
                      have y3 := row_frozen (i := 3) ONE2.out
                      refine wpAnyH_ready (rs := [13]) (by kernel_rfl) (by simp) ?_
                      refine AllReadyH.cons (o := ⟨_, _, _, _, _, _⟩) rfl (fun K hK => ?_) AllReadyH.nil
                      go_simp
                      rw [HX2.out]
                      clear q0 q1 q2 q3 y0 y1 y2 y3 hHeld c0 c1
                      obtain ⟨c0, c1⟩ := Z.out.gi.k.at
                      refine hK.out _ _ ⟨c0, c1⟩ (fun hHeld => ?_)
                      clear hK K
                      try simp only [Act.put, List.setIfInBounds_toArray, List.set_cons_zero, List.set_cons_succ]
                      refine wpAnyH_done (by kernel_rfl) ?_ _
                      refine NoPanic.normal ?_
                      go_wp2_with fail
                      go_meet
                      exact ⟨_, _, _, _, _, _, _, _, _, _, rfl, rfl, Z⟩
                    · skip
                      go_simp
                      obtain ⟨v3, hv9⟩ : ∃ v9, (v2.alloc (.cells #[.int .i64 0, .string ⟨#[]⟩, .slice none 0 0, .slice none 0 0] 46)) = v9 := ⟨_, rfl⟩
                      have c9 : Below v2.heap.size v2 v3 := by rw [← hv9]; exact ((Below.refl _ _).alloc (Nat.le_refl _) _)
                      have ZA_n : Hid (KBlk v3 v2.heap.size 0 ⟨#[]⟩ (.slice none 0 0) (.slice none 0 0)) := Hid.of (by rw [← hv9]; exact Go.heap_alloc_new _ _)
                      have HA : Hid (w.heap.size < v2.heap.size) := Hid.of G2.out.lt
                      have OWA : Hid (∀ k, (Value.slice la i lc).ownBlock = some k → k ≠ v2.heap.size) := Hid.of (fun k hk => by have := (G2.out.own.lt k hk).2; omega)
                      have NA1 := Hid.of R1_n.out.new
                      have NE : Hid (v2.heap.size ≠ wr.heap.size) := Hid.of (by have := (Array.getElem?_eq_some_iff.1 ZB_2.out).1; omega)
                      rw [hv9]
                      clear hv9
                      have G3 := Hid.of (G2.out.next c9)
                      have ZB_3 := Hid.of (kblk_next ZB_2.out c9)
                      have R1_3 := Hid.of (R1_n.out.next c9)
                      clear c9 hHeld c0 c1
                      obtain ⟨c0, c1⟩ := G3.out.k.at
                      refine hK.out _ _ ⟨c0, c1⟩ (fun hHeld => ?_)
                      clear hK K
                      try simp only [Act.put, List.setIfInBounds_toArray, List.set_cons_zero, List.set_cons_succ]
                      refine wpAnyH_ready (rs := [9]) (by kernel_rfl) (by simp) ?_
                      refine AllReadyH.cons (o := ⟨_, _, _, _, _, _⟩) rfl (fun K hK => ?_) AllReadyH.nil
                      go_simp
                      refine (S.of _ _ p (now + more) gl _ G3.out.ok F2.out G3.out.q (G3.out.row GLE.out LE.out) (own_cap G3.out.own)).mono ?_
                      rintro e v4 ⟨u, rfl, ou, b9⟩
                      have c9 := b9
                      obtain ⟨s2, f2, rfl, o1, o2, -⟩ := ou
                      obtain ⟨sa2, sc2, rfl, -⟩ := own_one o1
                      obtain ⟨fa2, fc2, rfl, -⟩ := own_one o2
                      have h9 := RO.made (s := .slice sa2 p.2.length sc2) (f := .slice fa2 gl.length fc2) (r := (now + more, p, gl)) o1 o2
                      rw [HN.out, LE.out] at h9
                      have e9 : rVal (now + more, p, gl) (.slice sa2 ((now + more, p, gl) : RchL).2.1.2.length sc2) (.slice fa2 ((now + more, p, gl) : RchL).2.2.length fc2) = .agg #[.int .i64 (now + more), .string n, .slice sa2 N sc2, .slice fa2 i fc2] := by rw [← Hn.out, ← HN.out, ← LE.out]; rfl
                      rw [e9]
                      clear e9 o1 o2 b9
                      have NA2 : Hid (NotAt (.slice sa2 N sc2) (.slice fa2 i fc2) v2.heap.size) := Hid.of (h9.2 _ (by have := (Array.getElem?_eq_some_iff.1 ZA_n.out).1; simpa using this))
                      have NB2 : Hid (NotAt (.slice sa2 N sc2) (.slice fa2 i fc2) wr.heap.size) := Hid.of (h9.2 _ (by have := (Array.getElem?_eq_some_iff.1 ZB_3.out).1; simpa using this))
                      have R2_n := Hid.of h9.1
                      clear h9
                      have G4 := Hid.of (G3.out.next c9)
                      have ZA_4 := Hid.of (kblk_next ZA_n.out c9)
                      have ZB_4 := Hid.of (kblk_next ZB_3.out c9)
                      have R1_4 := Hid.of (R1_3.out.next c9)
                      clear c9 hHeld c0 c1
                      obtain ⟨c0, c1⟩ := G4.out.k.at
                      refine hK.out _ _ ⟨c0, c1⟩ (fun hHeld => ?_)
                      clear hK K
                      try simp only [Act.put, List.setIfInBounds_toArray, List.set_cons_zero, List.set_cons_succ]
                      have L : Hid (LZ S w.heap.size w n (.slice sa N sc) (.slice ga M gc) p fl gl i (.slice la i lc) v2.heap.size wr.heap.size now more (.slice sa1 N sc1) (.slice fa1 i fc1) (.slice sa2 N sc2) (.slice fa2 i fc2) v4) := Hid.of ⟨G4.out, ZA_4.out, ZB_4.out, R1_4.out, R2_n.out, ⟨NA1.out, NA2.out, OWA.out⟩, ⟨NB1.out, NB2.out, OWB.out⟩, NE.out, HA.out, HB.out⟩
                      have Z0 := L.out.done Hn.out
                      have one := L.out.one
                      obtain ⟨x1, hx1⟩ : ∃ x1, setR v4 v2.heap.size now n (.slice sa1 N sc1) (.slice fa1 i fc1) = x1 := ⟨_, rfl⟩
                      rw [hx1] at Z0 one
                      obtain ⟨x2, hx2⟩ : ∃ x2, setR x1 wr.heap.size (now + more) n (.slice sa2 N sc2) (.slice fa2 i fc2) = x2 := ⟨_, rfl⟩
                      rw [hx2] at Z0
                      have ONE1 := Hid.of one.1
                      have ONE2 := Hid.of one.2
                      have Z := Hid.of Z0
                      unfold setR at hx1 hx2
                      have HX1 := Hid.of hx1
                      have HX2 := Hid.of hx2
                      obtain ⟨q0, q1, q2, q3⟩ := kblk_at L.out.za
                      have y0 := row_frozen (i := 0) L.out.za
                      have y1 := row_frozen (i := 1) L.out.za
                      have y2 := row_frozen (i := 2) L.out.za
                      have y3 := row_frozen (i := 3) L.out.za
                      clear one Z0 hx1 hx2
                      refine wpAnyH_ready (rs := [12]) (by kernel_rfl) (by simp) ?_
                      refine AllReadyH.cons (o := ⟨_, _, _, _, _, _⟩) rfl (fun K hK => ?_) AllReadyH.nil
                      go_simp
                      rw [HX1.out]
                      clear q0 q1 q2 q3 y0 y1 y2 y3 hHeld c0 c1
                      obtain ⟨c0, c1⟩ := ONE1.out.k.at
                      refine hK.out _ _ ⟨c0, c1⟩ (fun hHeld => ?_)
                      clear hK K
                      try simp only [Act.put, List.setIfInBounds_toArray, List.set_cons_zero, List.set_cons_succ]
                      obtain ⟨q0, q1, q2, q3⟩ := kblk_at ONE2.out
                      have y0 := row_frozen (i := 0) ONE2.out
                      have y1 := row_frozen (i := 1) ONE2.out
                      have y2 := row_frozen (i := 2) ONE2.out
                      have y3 := row_frozen (i := 3) ONE2.out
                      refine wpAnyH_ready (rs := [13]) (by kernel_rfl) (by simp) ?_
                      refine AllReadyH.cons (o := ⟨_, _, _, _, _, _⟩) rfl (fun K hK => ?_) AllReadyH.nil
                      go_simp
                      rw [HX2.out]
                      clear q0 q1 q2 q3 y0 y1 y2 y3 hHeld c0 c1
                      obtain ⟨c0, c1⟩ := Z.out.gi.k.at
                      refine hK.out _ _ ⟨c0, c1⟩ (fun hHeld => ?_)
                      clear hK K
                      try simp only [Act.put, List.setIfInBounds_toArray, List.set_cons_zero, List.set_cons_succ]
                      refine wpAnyH_done (by kernel_rfl) ?_ _
                      refine NoPanic.normal ?_
                      go_wp2_with fail
                      go_meet
                      exact ⟨_, _, _, _, _, _, _, _, _, _, rfl, rfl, Z⟩
                  · skip
                    go_simp
                    obtain ⟨v2, hv9⟩ : ∃ v9, (v1.alloc (.cells #[.int .i64 0, .string ⟨#[]⟩, .slice none 0 0, .slice none 0 0] 46)) = v9 := ⟨_, rfl⟩
                    have c9 : Below v1.heap.size v1 v2 := by rw [← hv9]; exact ((Below.refl _ _).alloc (Nat.le_refl _) _)
                    have ZA_n : Hid (KBlk v2 v1.heap.size 0 ⟨#[]⟩ (.slice none 0 0) (.slice none 0 0)) := Hid.of (by rw [← hv9]; exact Go.heap_alloc_new _ _)
                    have HA : Hid (w.heap.size < v1.heap.size) := Hid.of G1.out.lt
                    have OWA : Hid (∀ k, (Value.slice la i lc).ownBlock = some k → k ≠ v1.heap.size) := Hid.of (fun k hk => by have := (G1.out.own.lt k hk).2; omega)
                    have NE : Hid (v1.heap.size ≠ wr.heap.size) := Hid.of (by have := (Array.getElem?_eq_some_iff.1 ZB_n.out).1; omega)
                    rw [hv9]
                    clear hv9
                    have G2 := Hid.of (G1.out.next c9)
                    have ZB_2 := Hid.of (kblk_next ZB_n.out c9)
                    clear c9 hHeld c0 c1
                    obtain ⟨c0, c1⟩ := G2.out.k.at
                    refine hK.out _ _ ⟨c0, c1⟩ (fun hHeld => ?_)
                    clear hK K
                    try simp only [Act.put, List.setIfInBounds_toArray, List.set_cons_zero, List.set_cons_succ]
                    refine wpAnyH_ready (rs := [3]) (by kernel_rfl) (by simp) ?_
                    refine AllReadyH.cons (o := ⟨_, _, _, _, _, _⟩) rfl (fun K hK => ?_) AllReadyH.nil
                    go_simp
                    refine (S.of _ _ p (now) gl _ G2.out.ok F1.out G2.out.q (G2.out.row GLE.out LE.out) (own_cap G2.out.own)).mono ?_
                    rintro e v3 ⟨u, rfl, ou, b9⟩
                    have c9 := b9
                    obtain ⟨s1, f1, rfl, o1, o2, -⟩ := ou
                    obtain ⟨sa1, sc1, rfl, -⟩ := own_one o1
                    obtain ⟨fa1, fc1, rfl, -⟩ := own_one o2
                    have h9 := RO.made (s := .slice sa1 p.2.length sc1) (f := .slice fa1 gl.length fc1) (r := (now, p, gl)) o1 o2
                    rw [HN.out, LE.out] at h9
                    have e9 : rVal (now, p, gl) (.slice sa1 ((now, p, gl) : RchL).2.1.2.length sc1) (.slice fa1 ((now, p, gl) : RchL).2.2.length fc1) = .agg #[.int .i64 (now), .string n, .slice sa1 N sc1, .slice fa1 i fc1] := by rw [← Hn.out, ← HN.out, ← LE.out]; rfl
                    rw [e9]
                    clear e9 o1 o2 b9
                    have NA1 : Hid (NotAt (.slice sa1 N sc1) (.slice fa1 i fc1) v1.heap.size) := Hid.of (h9.2 _ (by have := (Array.getElem?_eq_some_iff.1 ZA_n.out).1; simpa using this))
                    have NB1 : Hid (NotAt (.slice sa1 N sc1) (.slice fa1 i fc1) wr.heap.size) := Hid.of (h9.2 _ (by have := (Array.getElem?_eq_some_iff.1 ZB_2.out).1; simpa using this))
                    have R1_n := Hid.of h9.1
                    clear h9
                    have G3 := Hid.of (G2.out.next c9)
                    have ZA_3 := Hid.of (kblk_next ZA_n.out c9)
                    have ZB_3 := Hid.of (kblk_next ZB_2.out c9)
                    clear c9 hHeld c0 c1
                    obtain ⟨c0, c1⟩ := G3.out.k.at
                    refine hK.out _ _ ⟨c0, c1⟩ (fun hHeld => ?_)
                    clear hK K
                    try simp only [Act.put, List.setIfInBounds_toArray, List.set_cons_zero, List.set_cons_succ]
                    refine wpAnyH_ready (rs := [9]) (by kernel_rfl) (by simp) ?_
                    refine AllReadyH.cons (o := ⟨_, _, _, _, _, _⟩) rfl (fun K hK => ?_) AllReadyH.nil
                    go_simp
                    refine (S.of _ _ p (now + more) gl _ G3.out.ok F2.out G3.out.q (G3.out.row GLE.out LE.out) (own_cap G3.out.own)).mono ?_
                    rintro e v4 ⟨u, rfl, ou, b9⟩
                    have c9 := b9
                    obtain ⟨s2, f2, rfl, o1, o2, -⟩ := ou
                    obtain ⟨sa2, sc2, rfl, -⟩ := own_one o1
                    obtain ⟨fa2, fc2, rfl, -⟩ := own_one o2
                    have h9 := RO.made (s := .slice sa2 p.2.length sc2) (f := .slice fa2 gl.length fc2) (r := (now + more, p, gl)) o1 o2
                    rw [HN.out, LE.out] at h9
                    have e9 : rVal (now + more, p, gl) (.slice sa2 ((now + more, p, gl) : RchL).2.1.2.length sc2) (.slice fa2 ((now + more, p, gl) : RchL).2.2.length fc2) = .agg #[.int .i64 (now + more), .string n, .slice sa2 N sc2, .slice fa2 i fc2] := by rw [← Hn.out, ← HN.out, ← LE.out]; rfl
                    rw [e9]
                    clear e9 o1 o2 b9
                    have NA2 : Hid (NotAt (.slice sa2 N sc2) (.slice fa2 i fc2) v1.heap.size) := Hid.of (h9.2 _ (by have := (Array.getElem?_eq_some_iff.1 ZA_3.out).1; simpa using this))
                    have NB2 : Hid (NotAt (.slice sa2 N sc2) (.slice fa2 i fc2) wr.heap.size) := Hid.of (h9.2 _ (by have := (Array.getElem?_eq_some_iff.1 ZB_3.out).1; simpa using this))
                    have R2_n := Hid.of h9.1
                    clear h9
                    have G4 := Hid.of (G3.out.next c9)
                    have ZA_4 := Hid.of (kblk_next ZA_3.out c9)
                    have ZB_4 := Hid.of (kblk_next ZB_3.out c9)
                    have R1_4 := Hid.of (R1_n.out.next c9)
                    clear c9 hHeld c0 c1
                    obtain ⟨c0, c1⟩ := G4.out.k.at
                    refine hK.out _ _ ⟨c0, c1⟩ (fun hHeld => ?_)
                    clear hK K
                    try simp only [Act.put, List.setIfInBounds_toArray, List.set_cons_zero, List.set_cons_succ]
                    have L : Hid (LZ S w.heap.size w n (.slice sa N sc) (.slice ga M gc) p fl gl i (.slice la i lc) v1.heap.size wr.heap.size now more (.slice sa1 N sc1) (.slice fa1 i fc1) (.slice sa2 N sc2) (.slice fa2 i fc2) v4) := Hid.of ⟨G4.out, ZA_4.out, ZB_4.out, R1_4.out, R2_n.out, ⟨NA1.out, NA2.out, OWA.out⟩, ⟨NB1.out, NB2.out, OWB.out⟩, NE.out, HA.out, HB.out⟩
                    have Z0 := L.out.done Hn.out
                    have one := L.out.one
                    obtain ⟨x1, hx1⟩ : ∃ x1, setR v4 v1.heap.size now n (.slice sa1 N sc1) (.slice fa1 i fc1) = x1 := ⟨_, rfl⟩
                    rw [hx1] at Z0 one
                    obtain ⟨x2, hx2⟩ : ∃ x2, setR x1 wr.heap.size (now + more) n (.slice sa2 N sc2) (.slice fa2 i fc2) = x2 := ⟨_, rfl⟩
                    rw [hx2] at Z0
                    have ONE1 := Hid.of one.1
                    have ONE2 := Hid.of one.2
                    have Z := Hid.of Z0
                    unfold setR at hx1 hx2
                    have HX1 := Hid.of hx1
                    have HX2 := Hid.of hx2
                    obtain ⟨q0, q1, q2, q3⟩ := kblk_at L.out.za
                    have y0 := row_frozen (i := 0) L.out.za
                    have y1 := row_frozen (i := 1) L.out.za
                    have y2 := row_frozen (i := 2) L.out.za
                    have y3 := row_frozen (i := 3) L.out.za
                    clear one Z0 hx1 hx2
                    refine wpAnyH_ready (rs := [12]) (by kernel_rfl) (by simp) ?_
                    refine AllReadyH.cons (o := ⟨_, _, _, _, _, _⟩) rfl (fun K hK => ?_) AllReadyH.nil
                    go_simp
                    rw [HX1.out]
                    clear q0 q1 q2 q3 y0 y1 y2 y3 hHeld c0 c1
                    obtain ⟨c0, c1⟩ := ONE1.out.k.at
                    refine hK.out _ _ ⟨c0, c1⟩ (fun hHeld => ?_)
                    clear hK K
                    try simp only [Act.put, List.setIfInBounds_toArray, List.set_cons_zero, List.set_cons_succ]
                    obtain ⟨q0, q1, q2, q3⟩ := kblk_at ONE2.out
                    have y0 := row_frozen (i := 0) ONE2.out
                    have y1 := row_frozen (i := 1) ONE2.out
                    have y2 := row_frozen (i := 2) ONE2.out
                    have y3 := row_frozen (i := 3) ONE2.out
                    refine wpAnyH_ready (rs := [13]) (by kernel_rfl) (by simp) ?_
                    refine AllReadyH.cons (o := ⟨_, _, _, _, _, _⟩) rfl (fun K hK => ?_) AllReadyH.nil
                    go_simp
                    rw [HX2.out]
                    clear q0 q1 q2 q3 y0 y1 y2 y3 hHeld c0 c1
                    obtain ⟨c0, c1⟩ := Z.out.gi.k.at
                    refine hK.out _ _ ⟨c0, c1⟩ (fun hHeld => ?_)
                    clear hK K
                    try simp only [Act.put, List.setIfInBounds_toArray, List.set_cons_zero, List.set_cons_succ]
                    refine wpAnyH_done (by kernel_rfl) ?_ _
                    refine NoPanic.normal ?_
                    go_wp2_with fail
                    go_meet
                    exact ⟨_, _, _, _, _, _, _, _, _, _, rfl, rfl, Z⟩
              case rest =>
                obtain ⟨ba, bb, sa1, sc1, fa1, fc1, sa2, sc2, fa2, fc2, rfl, rfl, Z⟩ := hcut
                obtain ⟨x, hx⟩ : ∃ x, p.2[j]? = some x := ⟨_, List.getElem?_eq_getElem (by rw [HN.out]; exact HJ.out)⟩
                have RI := rises_of HC.out (fl := fl) NB.out.1 NB.out.2.1 NB.out.2.2.1 NB.out.2.2.2.1 hx
                rw [HGL.out] at RI
                obtain ⟨va, hva⟩ : ∃ va, rFromN (now, p, gl) j = va := ⟨_, rfl⟩
                obtain ⟨vb, hvb⟩ : ∃ vb, rFromN (now + more, p, gl) j = vb := ⟨_, rfl⟩
                rw [hva, hvb] at RI
                have VA := Hid.of hva
                have VB := Hid.of hvb
                have KX := Hid.of (tier_known HC.out hx)
                obtain ⟨st, wsA, isB, hsa, hsb, himp⟩ : ∃ st wsA isB, rStart (now, p, gl) j t = (st, wsA) ∧ rStart (now + more, p, gl) j t = (st, isB) ∧ (isB = true → wsA = true) := by
                  unfold rStart
                  by_cases ht : t < 0
                  · rw [if_pos (.inr ht), if_pos (.inr ht)]
                    exact ⟨_, _, _, rfl, rfl, fun h => h⟩
                  · rw [if_neg (by omega), if_neg (by omega), Int.toNat_natCast]
                    simp only [hx, hva, hvb]
                    refine ⟨_, _, _, rfl, rfl, fun h => ?_⟩
                    have := of_decide_eq_true h
                    exact decide_eq_true (by have := RI.1; omega)
                have SA := Hid.of hsa
                have SB := Hid.of hsb
                have IMP := Hid.of himp
                have HAB : Hid (va ≤ vb) := Hid.of RI.1
                have HFL := Hid.of RI.2.2.2
                have J64 : Hid (In64 (j : Int)) := Hid.of HTI.out
                obtain ⟨qs, hqs, hqr, -⟩ := Z.out.gi.q0
                have hqs2 : qs = .slice sa N sc := by
                  unfold polVal at hqs
                  simp only [Value.agg.injEq] at hqs
                  cases hqs
                  rfl
                subst hqs2
                clear hqs
                rw [HN.out] at hqr
                obtain ⟨b1, o1, rfl, hb1, hc1⟩ := p_at hqr j _ hx
                obtain ⟨-, q1', -, -⟩ := hc1
                obtain ⟨xe, hxe⟩ : ∃ xe, x.2.1 = xe := ⟨_, rfl⟩
                rw [hxe] at q1' RI
                have Q1 : Hid (∀ w9, RZ S w.heap.size w n (.slice (some ⟨b1, o1, none⟩) N sc) (.slice ga M gc) p fl gl i (.slice la i lc) ba bb now more (.slice sa1 N sc1) (.slice fa1 i fc1) (.slice sa2 N sc2) (.slice fa2 i fc2) w9 → w9.cell? ⟨b1, o1 + j * 4 + 1, none⟩ = some (.int .i64 xe)) := Hid.of (fun w9 h => h.tier hb1 q1')
                have e0 : ¬ xe = 0 := by have := KX.out.1; omega
                have hm : va.tmod xe = 0 := by
                  rw [Int.tmod_eq_emod_of_nonneg RI.2.2.1]
                  exact Int.emod_eq_zero_of_dvd RI.2.1
                have j0 : (0 : Int) ≤ (j : Int) := Int.natCast_nonneg _
                have j1 : (j : Int) < (N : Int) := by have := HJ.out; omega
                have i9 : (i : Int) ≤ 10 := by have := I10.out; omega
                clear hx RI hva hvb hsa hsb himp hqr hb1 q1' hxe I hw c0 c1
                obtain ⟨c0, c1, d0, d1, d2, d3, e0', e1, e2, e3⟩ := Z.out.at
                go_wp2_with fail
                refine (S.start _ (now, p, gl) j t _ Z.out.gi.ok F1.out J64.out HT.out Z.out.ra).mono ?_
                rintro e w8 ⟨rfl, b8⟩
                rw [SA.out]
                have Z8 := Hid.of (Z.out.next b8)
                clear b8 c0 c1 d0 d1 d2 d3 e0' e1 e2 e3 Z
                obtain ⟨c0, c1, d0, d1, d2, d3, e0', e1, e2, e3⟩ := Z8.out.at
                simp only
                go_wp2_with fail
                refine (S.start _ (now + more, p, gl) j t _ Z8.out.gi.ok F2.out J64.out HT.out Z8.out.rb).mono ?_
                rintro e w9 ⟨rfl, b9⟩
                rw [SB.out]
                have Z9 := Hid.of (Z8.out.next b9)
                clear b9 c0 c1 d0 d1 d2 d3 e0' e1 e2 e3 Z8
                obtain ⟨c0, c1, d0, d1, d2, d3, e0', e1, e2, e3⟩ := Z9.out.at
                have q1 := Q1.out _ Z9.out
                simp only
                have hab : va ≤ vb := HAB.out
                by_cases hji : j < i
                · have k1 : (j : Int) < (i : Int) := by omega
                  have k2 : ¬ (j : Int) ≥ (i : Int) := by omega
                  obtain ⟨g, hg⟩ : ∃ g, gl[j]? = some g := ⟨_, List.getElem?_eq_getElem (by rw [LE.out]; exact hji)⟩
                  have hgv : va ≥ g := HFL.out g hg
                  obtain ⟨lg, rfl⟩ : ∃ lg, la = some ⟨lg, 0, none⟩ := by
                    rcases Z9.out.gi.own.2 with ⟨_, h⟩ | ⟨lg, cap, cur, h, _⟩
                    · omega
                    · cases h
                      exact ⟨lg, rfl⟩
                  have R1 : Hid (∀ w9, RZ S w.heap.size w n (.slice (some ⟨b1, o1, none⟩) N sc) (.slice ga M gc) p fl gl i (.slice (some ⟨lg, 0, none⟩) i lc) ba bb now more (.slice sa1 N sc1) (.slice fa1 i fc1) (.slice sa2 N sc2) (.slice fa2 i fc2) w9 → w9.cell? ⟨lg, j, none⟩ = some (.int .i64 g)) := Hid.of (fun w9 h => h.floor GLE.out hg hji)
                  have r1 := R1.out _ Z9.out
                  clear hg hji
                  as_aux_lemma =>
                  go_upto_region 16 with fail
                  refine wp_region_noPanic ?_
                  refine wp_region_held_drew (S := fun w' => (w'.cell? ⟨w.heap.size, 0, none⟩ = some (.string n) ∧ w'.cell? ⟨w.heap.size, 1, none⟩ = some (.slice (some ⟨b1, o1, none⟩) N sc) ∧ w'.cell? ⟨ba, 0, none⟩ = some (.int .i64 now) ∧ w'.cell? ⟨ba, 1, none⟩ = some (.string n) ∧ w'.cell? ⟨ba, 2, none⟩ = some (.slice sa1 N sc1) ∧ w'.cell? ⟨ba, 3, none⟩ = some (.slice fa1 i fc1) ∧ w'.cell? ⟨bb, 0, none⟩ = some (.int .i64 (now + more)) ∧ w'.cell? ⟨bb, 1, none⟩ = some (.string n) ∧ w'.cell? ⟨bb, 2, none⟩ = some (.slice sa2 N sc2) ∧ w'.cell? ⟨bb, 3, none⟩ = some (.slice fa2 i fc2)) ∧ w'.cell? ⟨b1, o1 + j * 4 + 1, none⟩ = some (.int .i64 xe) ∧ w'.cell? ⟨lg, j, none⟩ = some (.int .i64 g)) (by kernel_rfl) ?_ (fun hHeld => ?_)
                  · exact ⟨⟨c0, c1, d0, d1, d2, d3, e0', e1, e2, e3⟩, q1, r1⟩
                  refine wpAnyH_ready (rs := [0]) (by kernel_rfl) (by simp) ?_
                  refine AllReadyH.cons (o := ⟨_, _, _, _, _, _⟩) rfl (fun K hK => ?_) AllReadyH.nil
                  go_simp
                  refine (reachAlive_any S _ (Z9.out.next (Below.refl _ _).drew).gi.ok).mono ?_
                  rintro e u0 ⟨rfl, b9⟩
                  have Za := Hid.of (Z9.out.next ((Below.refl _ _).drew.trans b9))
                  clear b9 hHeld c0 c1 d0 d1 d2 d3 e0' e1 e2 e3 q1 r1
                  obtain ⟨c0, c1, d0, d1, d2, d3, e0', e1, e2, e3⟩ := Za.out.at
                  have q1 := Q1.out _ Za.out
                  have r1 := R1.out _ Za.out
                  refine hK.out _ _ ⟨⟨c0, c1, d0, d1, d2, d3, e0', e1, e2, e3⟩, q1, r1⟩ (fun hHeld => ?_)
                  clear hK K
                  try simp only [Act.put, List.setIfInBounds_toArray, List.set_cons_zero, List.set_cons_succ]
                  refine wpAnyH_take (i := 1) (oi := ⟨_, _, _, _, _, _⟩) (v := ?_) rfl (by kernel_rfl) (by kernel_rfl) (by kernel_rfl) (fun _ _ _ h => h) (Or.inl ⟨by rfl, ?_⟩) hHeld ?_
                  rotate_left
                  · intro w' hSw
                    try dsimp only at hSw
                    go_simp
                    all_goals with_reducible rfl
                  simp only [Act.put, List.setIfInBounds_toArray, List.set_cons_zero, List.set_cons_succ]
                  refine wpAnyH_take (i := 2) (oi := ⟨_, _, _, _, _, _⟩) (v := ?_) rfl (by kernel_rfl) (by kernel_rfl) (by kernel_rfl) (fun _ _ _ h => h) (Or.inl ⟨by rfl, ?_⟩) hHeld ?_
                  rotate_left
                  · intro w' hSw
                    try dsimp only at hSw
                    go_simp
                    all_goals with_reducible rfl
                  simp only [Act.put, List.setIfInBounds_toArray, List.set_cons_zero, List.set_cons_succ]
                  refine wpAnyH_take (i := 3) (oi := ⟨_, _, _, _, _, _⟩) (v := ?_) rfl (by kernel_rfl) (by kernel_rfl) (by kernel_rfl) (fun _ _ _ h => h) (Or.inl ⟨by rfl, ?_⟩) hHeld ?_
                  rotate_left
                  · intro w' hSw
                    try dsimp only at hSw
                    go_simp
                    all_goals with_reducible rfl
                  simp only [Act.put, List.setIfInBounds_toArray, List.set_cons_zero, List.set_cons_succ]
                  refine wpAnyH_take (i := 5) (oi := ⟨_, _, _, _, _, _⟩) (v := ?_) rfl (by kernel_rfl) (by kernel_rfl) (by kernel_rfl) (fun _ _ _ h => h) (Or.inl ⟨by rfl, ?_⟩) hHeld ?_
                  rotate_left
                  · intro w' hSw
                    try dsimp only at hSw
                    go_simp
                    all_goals with_reducible rfl
                  simp only [Act.put, List.setIfInBounds_toArray, List.set_cons_zero, List.set_cons_succ]
                  refine wpAnyH_take (i := 6) (oi := ⟨_, _, _, _, _, _⟩) (v := ?_) rfl (by kernel_rfl) (by kernel_rfl) (by kernel_rfl) (fun _ _ _ h => h) (Or.inl ⟨by rfl, ?_⟩) hHeld ?_
                  rotate_left
                  · intro w' hSw
                    try dsimp only at hSw
                    go_simp
                    all_goals with_reducible rfl
                  simp only [Act.put, List.setIfInBounds_toArray, List.set_cons_zero, List.set_cons_succ]
                  refine wpAnyH_ready (rs := [4]) (by kernel_rfl) (by simp) ?_
                  refine AllReadyH.cons (o := ⟨_, _, _, _, _, _⟩) rfl (fun K hK => ?_) AllReadyH.nil
                  go_simp
                  refine (S.from_ _ (now, p, gl) j _ Za.out.gi.ok F1.out J64.out Za.out.ra).mono ?_
                  rintro e u4 ⟨rfl, b9⟩
                  rw [rFrom_nat, VA.out]
                  have Zb := Hid.of (Za.out.next b9)
                  clear b9 hHeld c0 c1 d0 d1 d2 d3 e0' e1 e2 e3 q1 r1
                  obtain ⟨c0, c1, d0, d1, d2, d3, e0', e1, e2, e3⟩ := Zb.out.at
                  have q1 := Q1.out _ Zb.out
                  have r1 := R1.out _ Zb.out
                  refine hK.out _ _ ⟨⟨c0, c1, d0, d1, d2, d3, e0', e1, e2, e3⟩, q1, r1⟩ (fun hHeld => ?_)
                  clear hK K
                  try simp only [Act.put, List.setIfInBounds_toArray, List.set_cons_zero, List.set_cons_succ]
                  refine wpAnyH_ready (rs := [7]) (by kernel_rfl) (by simp) ?_
                  refine AllReadyH.cons (o := ⟨_, _, _, _, _, _⟩) rfl (fun K hK => ?_) AllReadyH.nil
                  go_simp
                  refine (S.from_ _ (now + more, p, gl) j _ Zb.out.gi.ok F2.out J64.out Zb.out.rb).mono ?_
                  rintro e u7 ⟨rfl, b9⟩
                  rw [rFrom_nat, VB.out]
                  have Zc := Hid.of (Zb.out.next b9)
                  clear b9 hHeld c0 c1 d0 d1 d2 d3 e0' e1 e2 e3 q1 r1
                  obtain ⟨c0, c1, d0, d1, d2, d3, e0', e1, e2, e3⟩ := Zc.out.at
                  have q1 := Q1.out _ Zc.out
                  have r1 := R1.out _ Zc.out
                  refine hK.out _ _ ⟨⟨c0, c1, d0, d1, d2, d3, e0', e1, e2, e3⟩, q1, r1⟩ (fun hHeld => ?_)
                  clear hK K
                  try simp only [Act.put, List.setIfInBounds_toArray, List.set_cons_zero, List.set_cons_succ]
                  refine wpAnyH_take (i := 8) (oi := ⟨_, _, _, _, _, _⟩) (v := ?_) rfl (by kernel_rfl) (by kernel_rfl) (by kernel_rfl) (fun _ _ _ h => h) (Or.inl ⟨by rfl, ?_⟩) hHeld ?_
                  rotate_left
                  · intro w' hSw
                    try dsimp only at hSw
                    go_simp
                    all_goals with_reducible rfl
                  simp only [Act.put, List.setIfInBounds_toArray, List.set_cons_zero, List.set_cons_succ]
                  refine wpAnyH_take (i := 9) (oi := ⟨_, _, _, _, _, _⟩) (v := ?_) rfl (by kernel_rfl) (by kernel_rfl) (by kernel_rfl) (fun _ _ _ h => h) (Or.inl ⟨by rfl, ?_⟩) hHeld ?_
                  rotate_left
                  · intro w' hSw
                    try dsimp only at hSw
                    go_simp
                    all_goals with_reducible rfl
                  simp only [Act.put, List.setIfInBounds_toArray, List.set_cons_zero, List.set_cons_succ]
                  refine wpAnyH_take (i := 10) (oi := ⟨_, _, _, _, _, _⟩) (v := ?_) rfl (by kernel_rfl) (by kernel_rfl) (by kernel_rfl) (fun _ _ _ h => h) (Or.inl ⟨by rfl, ?_⟩) hHeld ?_
                  rotate_left
                  · intro w' hSw
                    try dsimp only at hSw
                    go_simp
                    all_goals with_reducible rfl
                  simp only [Act.put, List.setIfInBounds_toArray, List.set_cons_zero, List.set_cons_succ]
                  refine wpAnyH_take (i := 11) (oi := ⟨_, _, _, _, _, _⟩) (v := ?_) rfl (by kernel_rfl) (by kernel_rfl) (by kernel_rfl) (fun _ _ _ h => h) (Or.inl ⟨by rfl, ?_⟩) hHeld ?_
                  rotate_left
                  · intro w' hSw
                    try dsimp only at hSw
                    go_simp
                    all_goals with_reducible rfl
                  simp only [Act.put, List.setIfInBounds_toArray, List.set_cons_zero, List.set_cons_succ]
                  refine wpAnyH_take (i := 12) (oi := ⟨_, _, _, _, _, _⟩) (v := ?_) rfl (by kernel_rfl) (by kernel_rfl) (by kernel_rfl) (fun _ _ _ h => h) (Or.inl ⟨by rfl, ?_⟩) hHeld ?_
                  rotate_left
                  · intro w' hSw
                    try dsimp only at hSw
                    go_simp
                    all_goals with_reducible rfl
                  simp only [Act.put, List.setIfInBounds_toArray, List.set_cons_zero, List.set_cons_succ]
                  refine wpAnyH_take (i := 14) (oi := ⟨_, _, _, _, _, _⟩) (v := ?_) rfl (by kernel_rfl) (by kernel_rfl) (by kernel_rfl) (fun _ _ _ h => h) (Or.inl ⟨by rfl, ?_⟩) hHeld ?_
                  rotate_left
                  · intro w' hSw
                    try dsimp only at hSw
                    go_simp
                    all_goals with_reducible rfl
                  simp only [Act.put, List.setIfInBounds_toArray, List.set_cons_zero, List.set_cons_succ]
                  refine wpAnyH_take (i := 15) (oi := ⟨_, _, _, _, _, _⟩) (v := ?_) rfl (by kernel_rfl) (by kernel_rfl) (by kernel_rfl) (fun _ _ _ h => h) (Or.inl ⟨by rfl, ?_⟩) hHeld ?_
                  rotate_left
                  · intro w' hSw
                    try dsimp only at hSw
                    go_simp
                    all_goals with_reducible rfl
                  simp only [Act.put, List.setIfInBounds_toArray, List.set_cons_zero, List.set_cons_succ]
                  refine wpAnyH_take (i := 16) (oi := ⟨_, _, _, _, _, _⟩) (v := ?_) rfl (by kernel_rfl) (by kernel_rfl) (by kernel_rfl) (fun _ _ _ h => h) (Or.inl ⟨by rfl, ?_⟩) hHeld ?_
                  rotate_left
                  · intro w' hSw
                    try dsimp only at hSw
                    go_simp
                    all_goals with_reducible rfl
                  simp only [Act.put, List.setIfInBounds_toArray, List.set_cons_zero, List.set_cons_succ]
                  refine wpAnyH_take (i := 17) (oi := ⟨_, _, _, _, _, _⟩) (v := ?_) rfl (by kernel_rfl) (by kernel_rfl) (by kernel_rfl) (fun _ _ _ h => h) (Or.inl ⟨by rfl, ?_⟩) hHeld ?_
                  rotate_left
                  · intro w' hSw
                    try dsimp only at hSw
                    go_simp
                    all_goals with_reducible rfl
                  simp only [Act.put, List.setIfInBounds_toArray, List.set_cons_zero, List.set_cons_succ]
                  refine wpAnyH_take (i := 18) (oi := ⟨_, _, _, _, _, _⟩) (v := ?_) rfl (by kernel_rfl) (by kernel_rfl) (by kernel_rfl) (fun _ _ _ h => h) (Or.inl ⟨by rfl, ?_⟩) hHeld ?_
                  rotate_left
                  · intro w' hSw
                    try dsimp only at hSw
                    go_simp
                    all_goals with_reducible rfl
                  simp only [Act.put, List.setIfInBounds_toArray, List.set_cons_zero, List.set_cons_succ]
                  refine wpAnyH_take (i := 19) (oi := ⟨_, _, _, _, _, _⟩) (v := ?_) rfl (by kernel_rfl) (by kernel_rfl) (by kernel_rfl) (fun _ _ _ h => h) (Or.inl ⟨by rfl, ?_⟩) hHeld ?_
                  rotate_left
                  · intro w' hSw
                    try dsimp only at hSw
                    go_simp
                    all_goals with_reducible rfl
                  simp only [Act.put, List.setIfInBounds_toArray, List.set_cons_zero, List.set_cons_succ]
                  refine wpAnyH_ready (rs := [13]) (by kernel_rfl) (by simp) ?_
                  refine AllReadyH.cons (o := ⟨_, _, _, _, _, _⟩) rfl (fun K hK => ?_) AllReadyH.nil
                  go_simp
                  refine (S.from_ _ (now, p, gl) j _ Zc.out.gi.ok F1.out J64.out Zc.out.ra).mono ?_
                  rintro e u13 ⟨rfl, b9⟩
                  rw [rFrom_nat, VA.out]
                  have Zd := Hid.of (Zc.out.next b9)
                  clear b9 hHeld c0 c1 d0 d1 d2 d3 e0' e1 e2 e3 q1 r1
                  obtain ⟨c0, c1, d0, d1, d2, d3, e0', e1, e2, e3⟩ := Zd.out.at
                  have q1 := Q1.out _ Zd.out
                  have r1 := R1.out _ Zd.out
                  refine hK.out _ _ ⟨⟨c0, c1, d0, d1, d2, d3, e0', e1, e2, e3⟩, q1, r1⟩ (fun hHeld => ?_)
                  clear hK K
                  try simp only [Act.put, List.setIfInBounds_toArray, List.set_cons_zero, List.set_cons_succ]
                  refine wpAnyH_take (i := 20) (oi := ⟨_, _, _, _, _, _⟩) (v := ?_) rfl (by kernel_rfl) (by kernel_rfl) (by kernel_rfl) (fun _ _ _ h => h) (Or.inl ⟨by rfl, ?_⟩) hHeld ?_
                  rotate_left
                  · intro w' hSw
                    try dsimp only at hSw
                    go_simp
                    all_goals with_reducible rfl
                  simp only [Act.put, List.setIfInBounds_toArray, List.set_cons_zero, List.set_cons_succ]
                  refine wpAnyH_take (i := 21) (oi := ⟨_, _, _, _, _, _⟩) (v := ?_) rfl (by kernel_rfl) (by kernel_rfl) (by kernel_rfl) (fun _ _ _ h => h) (Or.inl ⟨by rfl, ?_⟩) hHeld ?_
                  rotate_left
                  · intro w' hSw
                    try dsimp only at hSw
                    go_simp
                    all_goals with_reducible rfl
                  simp only [Act.put, List.setIfInBounds_toArray, List.set_cons_zero, List.set_cons_succ]
                  refine wpAnyH_take (i := 22) (oi := ⟨_, _, _, _, _, _⟩) (v := ?_) rfl (by kernel_rfl) (by kernel_rfl) (by kernel_rfl) (fun _ _ _ h => h) (Or.inl ⟨by rfl, ?_⟩) hHeld ?_
                  rotate_left
                  · intro w' hSw
                    try dsimp only at hSw
                    go_simp
                    all_goals with_reducible rfl
                  simp only [Act.put, List.setIfInBounds_toArray, List.set_cons_zero, List.set_cons_succ]
                  refine wpAnyH_take (i := 23) (oi := ⟨_, _, _, _, _, _⟩) (v := ?_) rfl (by kernel_rfl) (by kernel_rfl) (by kernel_rfl) (fun _ _ _ h => h) (Or.inl ⟨by rfl, ?_⟩) hHeld ?_
                  rotate_left
                  · intro w' hSw
                    try dsimp only at hSw
                    go_simp
                    all_goals with_reducible rfl
                  simp only [Act.put, List.setIfInBounds_toArray, List.set_cons_zero, List.set_cons_succ]
                  refine wpAnyH_take (i := 24) (oi := ⟨_, _, _, _, _, _⟩) (v := ?_) rfl (by kernel_rfl) (by kernel_rfl) (by kernel_rfl) (fun _ _ _ h => h) (Or.inl ⟨by rfl, ?_⟩) hHeld ?_
                  rotate_left
                  · intro w' hSw
                    try dsimp only at hSw
                    go_simp
                    all_goals with_reducible rfl
                  simp only [Act.put, List.setIfInBounds_toArray, List.set_cons_zero, List.set_cons_succ]
                  refine wpAnyH_take (i := 25) (oi := ⟨_, _, _, _, _, _⟩) (v := ?_) rfl (by kernel_rfl) (by kernel_rfl) (by kernel_rfl) (fun _ _ _ h => h) (Or.inl ⟨by rfl, ?_⟩) hHeld ?_
                  rotate_left
                  · intro w' hSw
                    try dsimp only at hSw
                    go_simp
                    all_goals with_reducible rfl
                  simp only [Act.put, List.setIfInBounds_toArray, List.set_cons_zero, List.set_cons_succ]
                  refine wpAnyH_take (i := 26) (oi := ⟨_, _, _, _, _, _⟩) (v := ?_) rfl (by kernel_rfl) (by kernel_rfl) (by kernel_rfl) (fun _ _ _ h => h) (Or.inl ⟨by rfl, ?_⟩) hHeld ?_
                  rotate_left
                  · intro w' hSw
                    try dsimp only at hSw
                    go_simp
                    all_goals with_reducible rfl
                  simp only [Act.put, List.setIfInBounds_toArray, List.set_cons_zero, List.set_cons_succ]
                  refine wpAnyH_take (i := 27) (oi := ⟨_, _, _, _, _, _⟩) (v := ?_) rfl (by kernel_rfl) (by kernel_rfl) (by kernel_rfl) (fun _ _ _ h => h) (Or.inl ⟨by rfl, ?_⟩) hHeld ?_
                  rotate_left
                  · intro w' hSw
                    try dsimp only at hSw
                    go_simp
                    all_goals with_reducible rfl
                  simp only [Act.put, List.setIfInBounds_toArray, List.set_cons_zero, List.set_cons_succ]
                  refine wpAnyH_take (i := 28) (oi := ⟨_, _, _, _, _, _⟩) (v := ?_) rfl (by kernel_rfl) (by kernel_rfl) (by kernel_rfl) (fun _ _ _ h => h) (Or.inl ⟨by rfl, ?_⟩) hHeld ?_
                  rotate_left
                  · intro w' hSw
                    try dsimp only at hSw
                    go_simp
                    all_goals with_reducible rfl
                  simp only [Act.put, List.setIfInBounds_toArray, List.set_cons_zero, List.set_cons_succ]
                  refine wpAnyH_take (i := 29) (oi := ⟨_, _, _, _, _, _⟩) (v := ?_) rfl (by kernel_rfl) (by kernel_rfl) (by kernel_rfl) (fun _ _ _ h => h) (Or.inl ⟨by rfl, ?_⟩) hHeld ?_
                  rotate_left
                  · intro w' hSw
                    try dsimp only at hSw
                    go_simp
                    all_goals with_reducible rfl
                  simp only [Act.put, List.setIfInBounds_toArray, List.set_cons_zero, List.set_cons_succ]
                  refine wpAnyH_take (i := 30) (oi := ⟨_, _, _, _, _, _⟩) (v := ?_) rfl (by kernel_rfl) (by kernel_rfl) (by kernel_rfl) (fun _ _ _ h => h) (Or.inl ⟨by rfl, ?_⟩) hHeld ?_
                  rotate_left
                  · intro w' hSw
                    try dsimp only at hSw
                    go_simp
                    all_goals with_reducible rfl
                  simp only [Act.put, List.setIfInBounds_toArray, List.set_cons_zero, List.set_cons_succ]
                  refine wpAnyH_take (i := 31) (oi := ⟨_, _, _, _, _, _⟩) (v := ?_) rfl (by kernel_rfl) (by kernel_rfl) (by kernel_rfl) (fun _ _ _ h => h) (Or.inl ⟨by rfl, ?_⟩) hHeld ?_
                  rotate_left
                  · intro w' hSw
                    try dsimp only at hSw
                    go_simp
                    all_goals with_reducible rfl
                  simp only [Act.put, List.setIfInBounds_toArray, List.set_cons_zero, List.set_cons_succ]
                  cases isB with
                  | true =>
                    have hws := IMP.out rfl
                    subst hws
                    refine wpAnyH_take (i := 32) (oi := ⟨_, _, _, _, _, _⟩) (v := ?_) rfl (by kernel_rfl) (by kernel_rfl) (by kernel_rfl) (fun _ _ _ h => h) (Or.inl ⟨by rfl, ?_⟩) hHeld ?_
                    rotate_left
                    · intro w' hSw
                      try dsimp only at hSw
                      go_simp
                      all_goals with_reducible rfl
                    simp only [Act.put, List.setIfInBounds_toArray, List.set_cons_zero, List.set_cons_succ]
                    refine wpAnyH_take (i := 33) (oi := ⟨_, _, _, _, _, _⟩) (v := ?_) rfl (by kernel_rfl) (by kernel_rfl) (by kernel_rfl) (fun _ _ _ h => h) (Or.inl ⟨by rfl, ?_⟩) hHeld ?_
                    rotate_left
                    · intro w' hSw
                      try dsimp only at hSw
                      go_simp
                      all_goals with_reducible rfl
                    simp only [Act.put, List.setIfInBounds_toArray, List.set_cons_zero, List.set_cons_succ]
                    refine wpAnyH_take (i := 34) (oi := ⟨_, _, _, _, _, _⟩) (v := ?_) rfl (by kernel_rfl) (by kernel_rfl) (by kernel_rfl) (fun _ _ _ h => h) (Or.inl ⟨by rfl, ?_⟩) hHeld ?_
                    rotate_left
                    · intro w' hSw
                      try dsimp only at hSw
                      go_simp
                      all_goals with_reducible rfl
                    simp only [Act.put, List.setIfInBounds_toArray, List.set_cons_zero, List.set_cons_succ]
                    refine wpAnyH_take (i := 35) (oi := ⟨_, _, _, _, _, _⟩) (v := ?_) rfl (by kernel_rfl) (by kernel_rfl) (by kernel_rfl) (fun _ _ _ h => h) (Or.inl ⟨by rfl, ?_⟩) hHeld ?_
                    rotate_left
                    · intro w' hSw
                      try dsimp only at hSw
                      go_simp
                      all_goals with_reducible rfl
                    simp only [Act.put, List.setIfInBounds_toArray, List.set_cons_zero, List.set_cons_succ]
                    refine wpAnyH_take (i := 36) (oi := ⟨_, _, _, _, _, _⟩) (v := ?_) rfl (by kernel_rfl) (by kernel_rfl) (by kernel_rfl) (fun _ _ _ h => h) (Or.inl ⟨by rfl, ?_⟩) hHeld ?_
                    rotate_left
                    · intro w' hSw
                      try dsimp only at hSw
                      go_simp
                      all_goals with_reducible rfl
                    simp only [Act.put, List.setIfInBounds_toArray, List.set_cons_zero, List.set_cons_succ]
                    refine wpAnyH_take (i := 37) (oi := ⟨_, _, _, _, _, _⟩) (v := ?_) rfl (by kernel_rfl) (by kernel_rfl) (by kernel_rfl) (fun _ _ _ h => h) (Or.inl ⟨by rfl, ?_⟩) hHeld ?_
                    rotate_left
                    · intro w' hSw
                      try dsimp only at hSw
                      go_simp
                      all_goals with_reducible rfl
                    simp only [Act.put, List.setIfInBounds_toArray, List.set_cons_zero, List.set_cons_succ]
                    refine wpAnyH_take (i := 38) (oi := ⟨_, _, _, _, _, _⟩) (v := ?_) rfl (by kernel_rfl) (by kernel_rfl) (by kernel_rfl) (fun _ _ _ h => h) (Or.inl ⟨by rfl, ?_⟩) hHeld ?_
                    rotate_left
                    · intro w' hSw
                      try dsimp only at hSw
                      go_simp
                      all_goals with_reducible rfl
                    simp only [Act.put, List.setIfInBounds_toArray, List.set_cons_zero, List.set_cons_succ]
                    refine wpAnyH_take (i := 39) (oi := ⟨_, _, _, _, _, _⟩) (v := ?_) rfl (by kernel_rfl) (by kernel_rfl) (by kernel_rfl) (fun _ _ _ h => h) (Or.inl ⟨by rfl, ?_⟩) hHeld ?_
                    rotate_left
                    · intro w' hSw
                      try dsimp only at hSw
                      go_simp
                      all_goals with_reducible rfl
                    simp only [Act.put, List.setIfInBounds_toArray, List.set_cons_zero, List.set_cons_succ]
                    refine wpAnyH_take (i := 40) (oi := ⟨_, _, _, _, _, _⟩) (v := ?_) rfl (by kernel_rfl) (by kernel_rfl) (by kernel_rfl) (fun _ _ _ h => h) (Or.inl ⟨by rfl, ?_⟩) hHeld ?_
                    rotate_left
                    · intro w' hSw
                      try dsimp only at hSw
                      go_simp
                      all_goals with_reducible rfl
                    simp only [Act.put, List.setIfInBounds_toArray, List.set_cons_zero, List.set_cons_succ]
                    refine wpAnyH_take (i := 41) (oi := ⟨_, _, _, _, _, _⟩) (v := ?_) rfl (by kernel_rfl) (by kernel_rfl) (by kernel_rfl) (fun _ _ _ h => h) (Or.inl ⟨by rfl, ?_⟩) hHeld ?_
                    rotate_left
                    · intro w' hSw
                      try dsimp only at hSw
                      go_simp
                      all_goals with_reducible rfl
                    simp only [Act.put, List.setIfInBounds_toArray, List.set_cons_zero, List.set_cons_succ]
                    refine wpAnyH_take (i := 42) (oi := ⟨_, _, _, _, _, _⟩) (v := ?_) rfl (by kernel_rfl) (by kernel_rfl) (by kernel_rfl) (fun _ _ _ h => h) (Or.inl ⟨by rfl, ?_⟩) hHeld ?_
                    rotate_left
                    · intro w' hSw
                      try dsimp only at hSw
                      go_simp
                      all_goals with_reducible rfl
                    simp only [Act.put, List.setIfInBounds_toArray, List.set_cons_zero, List.set_cons_succ]
                    refine wpAnyH_take (i := 44) (oi := ⟨_, _, _, _, _, _⟩) (v := ?_) rfl (by kernel_rfl) (by kernel_rfl) (by kernel_rfl) (fun _ _ _ h => h) (Or.inl ⟨by rfl, ?_⟩) hHeld ?_
                    rotate_left
                    · intro w' hSw
                      try dsimp only at hSw
                      go_simp
                      all_goals with_reducible rfl
                    simp only [Act.put, List.setIfInBounds_toArray, List.set_cons_zero, List.set_cons_succ]
                    refine wpAnyH_take (i := 45) (oi := ⟨_, _, _, _, _, _⟩) (v := ?_) rfl (by kernel_rfl) (by kernel_rfl) (by kernel_rfl) (fun _ _ _ h => h) (Or.inl ⟨by rfl, ?_⟩) hHeld ?_
                    rotate_left
                    · intro w' hSw
                      try dsimp only at hSw
                      go_simp
                      all_goals with_reducible rfl
                    simp only [Act.put, List.setIfInBounds_toArray, List.set_cons_zero, List.set_cons_succ]
                    refine wpAnyH_take (i := 46) (oi := ⟨_, _, _, _, _, _⟩) (v := ?_) rfl (by kernel_rfl) (by kernel_rfl) (by kernel_rfl) (fun _ _ _ h => h) (Or.inl ⟨by rfl, ?_⟩) hHeld ?_
                    rotate_left
                    · intro w' hSw
                      try dsimp only at hSw
                      go_simp
                      all_goals with_reducible rfl
                    simp only [Act.put, List.setIfInBounds_toArray, List.set_cons_zero, List.set_cons_succ]
                    refine wpAnyH_take (i := 47) (oi := ⟨_, _, _, _, _, _⟩) (v := ?_) rfl (by kernel_rfl) (by kernel_rfl) (by kernel_rfl) (fun _ _ _ h => h) (Or.inl ⟨by rfl, ?_⟩) hHeld ?_
                    rotate_left
                    · intro w' hSw
                      try dsimp only at hSw
                      go_simp
                      all_goals with_reducible rfl
                    simp only [Act.put, List.setIfInBounds_toArray, List.set_cons_zero, List.set_cons_succ]
                    refine wpAnyH_ready (rs := [43]) (by kernel_rfl) (by simp) ?_
                    refine AllReadyH.cons (o := ⟨_, _, _, _, _, _⟩) rfl (fun K hK => ?_) AllReadyH.nil
                    go_simp
                    refine (S.from_ _ (now, p, gl) j _ Zd.out.gi.ok F1.out J64.out Zd.out.ra).mono ?_
                    rintro e u43 ⟨rfl, b9⟩
                    rw [rFrom_nat, VA.out]
                    have Ze := Hid.of (Zd.out.next b9)
                    clear b9 hHeld c0 c1 d0 d1 d2 d3 e0' e1 e2 e3 q1 r1
                    obtain ⟨c0, c1, d0, d1, d2, d3, e0', e1, e2, e3⟩ := Ze.out.at
                    have q1 := Q1.out _ Ze.out
                    have r1 := R1.out _ Ze.out
                    refine hK.out _ _ ⟨⟨c0, c1, d0, d1, d2, d3, e0', e1, e2, e3⟩, q1, r1⟩ (fun hHeld => ?_)
                    clear hK K
                    try simp only [Act.put, List.setIfInBounds_toArray, List.set_cons_zero, List.set_cons_succ]
                    refine wpAnyH_take (i := 48) (oi := ⟨_, _, _, _, _, _⟩) (v := ?_) rfl (by kernel_rfl) (by kernel_rfl) (by kernel_rfl) (fun _ _ _ h => h) (Or.inl ⟨by rfl, ?_⟩) hHeld ?_
                    rotate_left
                    · intro w' hSw
                      try dsimp only at hSw
                      go_simp
                      all_goals with_reducible rfl
                    simp only [Act.put, List.setIfInBounds_toArray, List.set_cons_zero, List.set_cons_succ]
                    refine wpAnyH_take (i := 49) (oi := ⟨_, _, _, _, _, _⟩) (v := ?_) rfl (by kernel_rfl) (by kernel_rfl) (by kernel_rfl) (fun _ _ _ h => h) (Or.inl ⟨by rfl, ?_⟩) hHeld ?_
                    rotate_left
                    · intro w' hSw
                      try dsimp only at hSw
                      go_simp
                      all_goals with_reducible rfl
                    simp only [Act.put, List.setIfInBounds_toArray, List.set_cons_zero, List.set_cons_succ]
                    refine wpAnyH_take (i := 50) (oi := ⟨_, _, _, _, _, _⟩) (v := ?_) rfl (by kernel_rfl) (by kernel_rfl) (by kernel_rfl) (fun _ _ _ h => h) (Or.inl ⟨by rfl, ?_⟩) hHeld ?_
                    rotate_left
                    · intro w' hSw
                      try dsimp only at hSw
                      go_simp
                      all_goals with_reducible rfl
                    simp only [Act.put, List.setIfInBounds_toArray, List.set_cons_zero, List.set_cons_succ]
                    refine wpAnyH_take (i := 51) (oi := ⟨_, _, _, _, _, _⟩) (v := ?_) rfl (by kernel_rfl) (by kernel_rfl) (by kernel_rfl) (fun _ _ _ h => h) (Or.inl ⟨by rfl, ?_⟩) hHeld ?_
                    rotate_left
                    · intro w' hSw
                      try dsimp only at hSw
                      go_simp
                      all_goals with_reducible rfl
                    simp only [Act.put, List.setIfInBounds_toArray, List.set_cons_zero, List.set_cons_succ]
                    refine wpAnyH_done (by kernel_rfl) ?_ _
                    refine NoPanic.normal ?_
                    go_wp2
                    go_ret
                    exact ⟨rfl, Ze.out.gi.fr⟩
                  | false =>
                    refine wpAnyH_take (i := 32) (oi := ⟨_, _, _, _, _, _⟩) (v := undef) rfl (by kernel_rfl) (by kernel_rfl) (by kernel_rfl) (fun _ _ _ h => h) (Or.inr ⟨by rfl, rfl⟩) hHeld ?_
                    simp only [Act.put, List.setIfInBounds_toArray, List.set_cons_zero, List.set_cons_succ]
                    refine wpAnyH_take (i := 33) (oi := ⟨_, _, _, _, _, _⟩) (v := ?_) rfl (by kernel_rfl) (by kernel_rfl) (by kernel_rfl) (fun _ _ _ h => h) (Or.inl ⟨by rfl, ?_⟩) hHeld ?_
                    rotate_left
                    · intro w' hSw
                      try dsimp only at hSw
                      go_simp
                      all_goals with_reducible rfl
                    simp only [Act.put, List.setIfInBounds_toArray, List.set_cons_zero, List.set_cons_succ]
                    refine wpAnyH_take (i := 34) (oi := ⟨_, _, _, _, _, _⟩) (v := ?_) rfl (by kernel_rfl) (by kernel_rfl) (by kernel_rfl) (fun _ _ _ h => h) (Or.inl ⟨by rfl, ?_⟩) hHeld ?_
                    rotate_left
                    · intro w' hSw
                      try dsimp only at hSw
                      go_simp
                      all_goals with_reducible rfl
                    simp only [Act.put, List.setIfInBounds_toArray, List.set_cons_zero, List.set_cons_succ]
                    refine wpAnyH_take (i := 35) (oi := ⟨_, _, _, _, _, _⟩) (v := ?_) rfl (by kernel_rfl) (by kernel_rfl) (by kernel_rfl) (fun _ _ _ h => h) (Or.inl ⟨by rfl, ?_⟩) hHeld ?_
                    rotate_left
                    · intro w' hSw
                      try dsimp only at hSw
                      go_simp
                      all_goals with_reducible rfl
                    simp only [Act.put, List.setIfInBounds_toArray, List.set_cons_zero, List.set_cons_succ]
                    refine wpAnyH_take (i := 36) (oi := ⟨_, _, _, _, _, _⟩) (v := ?_) rfl (by kernel_rfl) (by kernel_rfl) (by kernel_rfl) (fun _ _ _ h => h) (Or.inl ⟨by rfl, ?_⟩) hHeld ?_
                    rotate_left
                    · intro w' hSw
                      try dsimp only at hSw
                      go_simp
                      all_goals with_reducible rfl
                    simp only [Act.put, List.setIfInBounds_toArray, List.set_cons_zero, List.set_cons_succ]
                    refine wpAnyH_take (i := 37) (oi := ⟨_, _, _, _, _, _⟩) (v := ?_) rfl (by kernel_rfl) (by kernel_rfl) (by kernel_rfl) (fun _ _ _ h => h) (Or.inl ⟨by rfl, ?_⟩) hHeld ?_
                    rotate_left
                    · intro w' hSw
                      try dsimp only at hSw
                      go_simp
                      all_goals with_reducible rfl
                    simp only [Act.put, List.setIfInBounds_toArray, List.set_cons_zero, List.set_cons_succ]
                    refine wpAnyH_take (i := 38) (oi := ⟨_, _, _, _, _, _⟩) (v := ?_) rfl (by kernel_rfl) (by kernel_rfl) (by kernel_rfl) (fun _ _ _ h => h) (Or.inl ⟨by rfl, ?_⟩) hHeld ?_
                    rotate_left
                    · intro w' hSw
                      try dsimp only at hSw
                      go_simp
                      all_goals with_reducible rfl
                    simp only [Act.put, List.setIfInBounds_toArray, List.set_cons_zero, List.set_cons_succ]
                    refine wpAnyH_take (i := 39) (oi := ⟨_, _, _, _, _, _⟩) (v := ?_) rfl (by kernel_rfl) (by kernel_rfl) (by kernel_rfl) (fun _ _ _ h => h) (Or.inl ⟨by rfl, ?_⟩) hHeld ?_
                    rotate_left
                    · intro w' hSw
                      try dsimp only at hSw
                      go_simp
                      all_goals with_reducible rfl
                    simp only [Act.put, List.setIfInBounds_toArray, List.set_cons_zero, List.set_cons_succ]
                    refine wpAnyH_take (i := 40) (oi := ⟨_, _, _, _, _, _⟩) (v := ?_) rfl (by kernel_rfl) (by kernel_rfl) (by kernel_rfl) (fun _ _ _ h => h) (Or.inl ⟨by rfl, ?_⟩) hHeld ?_
                    rotate_left
                    · intro w' hSw
                      try dsimp only at hSw
                      go_simp
                      all_goals with_reducible rfl
                    simp only [Act.put, List.setIfInBounds_toArray, List.set_cons_zero, List.set_cons_succ]
                    refine wpAnyH_take (i := 41) (oi := ⟨_, _, _, _, _, _⟩) (v := ?_) rfl (by kernel_rfl) (by kernel_rfl) (by kernel_rfl) (fun _ _ _ h => h) (Or.inl ⟨by rfl, ?_⟩) hHeld ?_
                    rotate_left
                    · intro w' hSw
                      try dsimp only at hSw
                      go_simp
                      all_goals with_reducible rfl
                    simp only [Act.put, List.setIfInBounds_toArray, List.set_cons_zero, List.set_cons_succ]
                    refine wpAnyH_take (i := 42) (oi := ⟨_, _, _, _, _, _⟩) (v := ?_) rfl (by kernel_rfl) (by kernel_rfl) (by kernel_rfl) (fun _ _ _ h => h) (Or.inl ⟨by rfl, ?_⟩) hHeld ?_
                    rotate_left
                    · intro w' hSw
                      try dsimp only at hSw
                      go_simp
                      all_goals with_reducible rfl
                    simp only [Act.put, List.setIfInBounds_toArray, List.set_cons_zero, List.set_cons_succ]
                    refine wpAnyH_take (i := 44) (oi := ⟨_, _, _, _, _, _⟩) (v := ?_) rfl (by kernel_rfl) (by kernel_rfl) (by kernel_rfl) (fun _ _ _ h => h) (Or.inl ⟨by rfl, ?_⟩) hHeld ?_
                    rotate_left
                    · intro w' hSw
                      try dsimp only at hSw
                      go_simp
                      all_goals with_reducible rfl
                    simp only [Act.put, List.setIfInBounds_toArray, List.set_cons_zero, List.set_cons_succ]
                    refine wpAnyH_take (i := 45) (oi := ⟨_, _, _, _, _, _⟩) (v := ?_) rfl (by kernel_rfl) (by kernel_rfl) (by kernel_rfl) (fun _ _ _ h => h) (Or.inl ⟨by rfl, ?_⟩) hHeld ?_
                    rotate_left
                    · intro w' hSw
                      try dsimp only at hSw
                      go_simp
                      all_goals with_reducible rfl
                    simp only [Act.put, List.setIfInBounds_toArray, List.set_cons_zero, List.set_cons_succ]
                    refine wpAnyH_take (i := 46) (oi := ⟨_, _, _, _, _, _⟩) (v := ?_) rfl (by kernel_rfl) (by kernel_rfl) (by kernel_rfl) (fun _ _ _ h => h) (Or.inl ⟨by rfl, ?_⟩) hHeld ?_
                    rotate_left
                    · intro w' hSw
                      try dsimp only at hSw
                      go_simp
                      all_goals with_reducible rfl
                    simp only [Act.put, List.setIfInBounds_toArray, List.set_cons_zero, List.set_cons_succ]
                    refine wpAnyH_take (i := 47) (oi := ⟨_, _, _, _, _, _⟩) (v := ?_) rfl (by kernel_rfl) (by kernel_rfl) (by kernel_rfl) (fun _ _ _ h => h) (Or.inl ⟨by rfl, ?_⟩) hHeld ?_
                    rotate_left
                    · intro w' hSw
                      try dsimp only at hSw
                      go_simp
                      all_goals with_reducible rfl
                    simp only [Act.put, List.setIfInBounds_toArray, List.set_cons_zero, List.set_cons_succ]
                    refine wpAnyH_ready (rs := [43]) (by kernel_rfl) (by simp) ?_
                    refine AllReadyH.cons (o := ⟨_, _, _, _, _, _⟩) rfl (fun K hK => ?_) AllReadyH.nil
                    go_simp
                    refine (S.from_ _ (now, p, gl) j _ Zd.out.gi.ok F1.out J64.out Zd.out.ra).mono ?_
                    rintro e u43 ⟨rfl, b9⟩
                    rw [rFrom_nat, VA.out]
                    have Ze := Hid.of (Zd.out.next b9)
                    clear b9 hHeld c0 c1 d0 d1 d2 d3 e0' e1 e2 e3 q1 r1
                    obtain ⟨c0, c1, d0, d1, d2, d3, e0', e1, e2, e3⟩ := Ze.out.at
                    have q1 := Q1.out _ Ze.out
                    have r1 := R1.out _ Ze.out
                    refine hK.out _ _ ⟨⟨c0, c1, d0, d1, d2, d3, e0', e1, e2, e3⟩, q1, r1⟩ (fun hHeld => ?_)
                    clear hK K
                    try simp only [Act.put, List.setIfInBounds_toArray, List.set_cons_zero, List.set_cons_succ]
                    refine wpAnyH_take (i := 48) (oi := ⟨_, _, _, _, _, _⟩) (v := ?_) rfl (by kernel_rfl) (by kernel_rfl) (by kernel_rfl) (fun _ _ _ h => h) (Or.inl ⟨by rfl, ?_⟩) hHeld ?_
                    rotate_left
                    · intro w' hSw
                      try dsimp only at hSw
                      go_simp
                      all_goals with_reducible rfl
                    simp only [Act.put, List.setIfInBounds_toArray, List.set_cons_zero, List.set_cons_succ]
                    refine wpAnyH_take (i := 49) (oi := ⟨_, _, _, _, _, _⟩) (v := ?_) rfl (by kernel_rfl) (by kernel_rfl) (by kernel_rfl) (fun _ _ _ h => h) (Or.inl ⟨by rfl, ?_⟩) hHeld ?_
                    rotate_left
                    · intro w' hSw
                      try dsimp only at hSw
                      go_simp
                      all_goals with_reducible rfl
                    simp only [Act.put, List.setIfInBounds_toArray, List.set_cons_zero, List.set_cons_succ]
                    refine wpAnyH_take (i := 50) (oi := ⟨_, _, _, _, _, _⟩) (v := ?_) rfl (by kernel_rfl) (by kernel_rfl) (by kernel_rfl) (fun _ _ _ h => h) (Or.inl ⟨by rfl, ?_⟩) hHeld ?_
                    rotate_left
                    · intro w' hSw
                      try dsimp only at hSw
                      go_simp
                      all_goals with_reducible rfl
                    simp only [Act.put, List.setIfInBounds_toArray, List.set_cons_zero, List.set_cons_succ]
                    refine wpAnyH_take (i := 51) (oi := ⟨_, _, _, _, _, _⟩) (v := ?_) rfl (by kernel_rfl) (by kernel_rfl) (by kernel_rfl) (fun _ _ _ h => h) (Or.inl ⟨by rfl, ?_⟩) hHeld ?_
                    rotate_left
                    · intro w' hSw
                      try dsimp only at hSw
                      go_simp
                      all_goals with_reducible rfl
                    simp only [Act.put, List.setIfInBounds_toArray, List.set_cons_zero, List.set_cons_succ]
                    refine wpAnyH_done (by kernel_rfl) ?_ _
                    refine NoPanic.normal ?_
                    go_wp2
                    go_ret
                    exact ⟨rfl, Ze.out.gi.fr⟩
                · have k2 : (j : Int) ≥ (i : Int) := by omega
                  clear hji
                  as_aux_lemma =>
                  go_upto_region 16 with fail
                  refine wp_region_noPanic ?_
                  refine wp_region_held_drew (S := fun w' => (w'.cell? ⟨w.heap.size, 0, none⟩ = some (.string n) ∧ w'.cell? ⟨w.heap.size, 1, none⟩ = some (.slice (some ⟨b1, o1, none⟩) N sc) ∧ w'.cell? ⟨ba, 0, none⟩ = some (.int .i64 now) ∧ w'.cell? ⟨ba, 1, none⟩ = some (.string n) ∧ w'.cell? ⟨ba, 2, none⟩ = some (.slice sa1 N sc1) ∧ w'.cell? ⟨ba, 3, none⟩ = some (.slice fa1 i fc1) ∧ w'.cell? ⟨bb, 0, none⟩ = some (.int .i64 (now + more)) ∧ w'.cell? ⟨bb, 1, none⟩ = some (.string n) ∧ w'.cell? ⟨bb, 2, none⟩ = some (.slice sa2 N sc2) ∧ w'.cell? ⟨bb, 3, none⟩ = some (.slice fa2 i fc2)) ∧ w'.cell? ⟨b1, o1 + j * 4 + 1, none⟩ = some (.int .i64 xe)) (by kernel_rfl) ?_ (fun hHeld => ?_)
                  · exact ⟨⟨c0, c1, d0, d1, d2, d3, e0', e1, e2, e3⟩, q1⟩
                  refine wpAnyH_ready (rs := [0]) (by kernel_rfl) (by simp) ?_
                  refine AllReadyH.cons (o := ⟨_, _, _, _, _, _⟩) rfl (fun K hK => ?_) AllReadyH.nil
                  go_simp
                  refine (reachAlive_any S _ (Z9.out.next (Below.refl _ _).drew).gi.ok).mono ?_
                  rintro e u0 ⟨rfl, b9⟩
                  have Za := Hid.of (Z9.out.next ((Below.refl _ _).drew.trans b9))
                  clear b9 hHeld c0 c1 d0 d1 d2 d3 e0' e1 e2 e3 q1
                  obtain ⟨c0, c1, d0, d1, d2, d3, e0', e1, e2, e3⟩ := Za.out.at
                  have q1 := Q1.out _ Za.out
                  refine hK.out _ _ ⟨⟨c0, c1, d0, d1, d2, d3, e0', e1, e2, e3⟩, q1⟩ (fun hHeld => ?_)
                  clear hK K
                  try simp only [Act.put, List.setIfInBounds_toArray, List.set_cons_zero, List.set_cons_succ]
                  refine wpAnyH_take (i := 1) (oi := ⟨_, _, _, _, _, _⟩) (v := ?_) rfl (by kernel_rfl) (by kernel_rfl) (by kernel_rfl) (fun _ _ _ h => h) (Or.inl ⟨by rfl, ?_⟩) hHeld ?_
                  rotate_left
                  · intro w' hSw
                    try dsimp only at hSw
                    go_simp
                    all_goals with_reducible rfl
                  simp only [Act.put, List.setIfInBounds_toArray, List.set_cons_zero, List.set_cons_succ]
                  refine wpAnyH_take (i := 2) (oi := ⟨_, _, _, _, _, _⟩) (v := ?_) rfl (by kernel_rfl) (by kernel_rfl) (by kernel_rfl) (fun _ _ _ h => h) (Or.inl ⟨by rfl, ?_⟩) hHeld ?_
                  rotate_left
                  · intro w' hSw
                    try dsimp only at hSw
                    go_simp
                    all_goals with_reducible rfl
                  simp only [Act.put, List.setIfInBounds_toArray, List.set_cons_zero, List.set_cons_succ]
                  refine wpAnyH_take (i := 3) (oi := ⟨_, _, _, _, _, _⟩) (v := ?_) rfl (by kernel_rfl) (by kernel_rfl) (by kernel_rfl) (fun _ _ _ h => h) (Or.inl ⟨by rfl, ?_⟩) hHeld ?_
                  rotate_left
                  · intro w' hSw
                    try dsimp only at hSw
                    go_simp
                    all_goals with_reducible rfl
                  simp only [Act.put, List.setIfInBounds_toArray, List.set_cons_zero, List.set_cons_succ]
                  refine wpAnyH_take (i := 5) (oi := ⟨_, _, _, _, _, _⟩) (v := ?_) rfl (by kernel_rfl) (by kernel_rfl) (by kernel_rfl) (fun _ _ _ h => h) (Or.inl ⟨by rfl, ?_⟩) hHeld ?_
                  rotate_left
                  · intro w' hSw
                    try dsimp only at hSw
                    go_simp
                    all_goals with_reducible rfl
                  simp only [Act.put, List.setIfInBounds_toArray, List.set_cons_zero, List.set_cons_succ]
                  refine wpAnyH_take (i := 6) (oi := ⟨_, _, _, _, _, _⟩) (v := ?_) rfl (by kernel_rfl) (by kernel_rfl) (by kernel_rfl) (fun _ _ _ h => h) (Or.inl ⟨by rfl, ?_⟩) hHeld ?_
                  rotate_left
                  · intro w' hSw
                    try dsimp only at hSw
                    go_simp
                    all_goals with_reducible rfl
                  simp only [Act.put, List.setIfInBounds_toArray, List.set_cons_zero, List.set_cons_succ]
                  refine wpAnyH_ready (rs := [4]) (by kernel_rfl) (by simp) ?_
                  refine AllReadyH.cons (o := ⟨_, _, _, _, _, _⟩) rfl (fun K hK => ?_) AllReadyH.nil
                  go_simp
                  refine (S.from_ _ (now, p, gl) j _ Za.out.gi.ok F1.out J64.out Za.out.ra).mono ?_
                  rintro e u4 ⟨rfl, b9⟩
                  rw [rFrom_nat, VA.out]
                  have Zb := Hid.of (Za.out.next b9)
                  clear b9 hHeld c0 c1 d0 d1 d2 d3 e0' e1 e2 e3 q1
                  obtain ⟨c0, c1, d0, d1, d2, d3, e0', e1, e2, e3⟩ := Zb.out.at
                  have q1 := Q1.out _ Zb.out
                  refine hK.out _ _ ⟨⟨c0, c1, d0, d1, d2, d3, e0', e1, e2, e3⟩, q1⟩ (fun hHeld => ?_)
                  clear hK K
                  try simp only [Act.put, List.setIfInBounds_toArray, List.set_cons_zero, List.set_cons_succ]
                  refine wpAnyH_ready (rs := [7]) (by kernel_rfl) (by simp) ?_
                  refine AllReadyH.cons (o := ⟨_, _, _, _, _, _⟩) rfl (fun K hK => ?_) AllReadyH.nil
                  go_simp
                  refine (S.from_ _ (now + more, p, gl) j _ Zb.out.gi.ok F2.out J64.out Zb.out.rb).mono ?_
                  rintro e u7 ⟨rfl, b9⟩
                  rw [rFrom_nat, VB.out]
                  have Zc := Hid.of (Zb.out.next b9)
                  clear b9 hHeld c0 c1 d0 d1 d2 d3 e0' e1 e2 e3 q1
                  obtain ⟨c0, c1, d0, d1, d2, d3, e0', e1, e2, e3⟩ := Zc.out.at
                  have q1 := Q1.out _ Zc.out
                  refine hK.out _ _ ⟨⟨c0, c1, d0, d1, d2, d3, e0', e1, e2, e3⟩, q1⟩ (fun hHeld => ?_)
                  clear hK K
                  try simp only [Act.put, List.setIfInBounds_toArray, List.set_cons_zero, List.set_cons_succ]
                  refine wpAnyH_take (i := 8) (oi := ⟨_, _, _, _, _, _⟩) (v := ?_) rfl (by kernel_rfl) (by kernel_rfl) (by kernel_rfl) (fun _ _ _ h => h) (Or.inl ⟨by rfl, ?_⟩) hHeld ?_
                  rotate_left
                  · intro w' hSw
                    try dsimp only at hSw
                    go_simp
                    all_goals with_reducible rfl
                  simp only [Act.put, List.setIfInBounds_toArray, List.set_cons_zero, List.set_cons_succ]
                  refine wpAnyH_take (i := 9) (oi := ⟨_, _, _, _, _, _⟩) (v := ?_) rfl (by kernel_rfl) (by kernel_rfl) (by kernel_rfl) (fun _ _ _ h => h) (Or.inl ⟨by rfl, ?_⟩) hHeld ?_
                  rotate_left
                  · intro w' hSw
                    try dsimp only at hSw
                    go_simp
                    all_goals with_reducible rfl
                  simp only [Act.put, List.setIfInBounds_toArray, List.set_cons_zero, List.set_cons_succ]
                  refine wpAnyH_take (i := 10) (oi := ⟨_, _, _, _, _, _⟩) (v := ?_) rfl (by kernel_rfl) (by kernel_rfl) (by kernel_rfl) (fun _ _ _ h => h) (Or.inl ⟨by rfl, ?_⟩) hHeld ?_
                  rotate_left
                  · intro w' hSw
                    try dsimp only at hSw
                    go_simp
                    all_goals with_reducible rfl
                  simp only [Act.put, List.setIfInBounds_toArray, List.set_cons_zero, List.set_cons_succ]
                  refine wpAnyH_take (i := 11) (oi := ⟨_, _, _, _, _, _⟩) (v := ?_) rfl (by kernel_rfl) (by kernel_rfl) (by kernel_rfl) (fun _ _ _ h => h) (Or.inl ⟨by rfl, ?_⟩) hHeld ?_
                  rotate_left
                  · intro w' hSw
                    try dsimp only at hSw
                    go_simp
                    all_goals with_reducible rfl
                  simp only [Act.put, List.setIfInBounds_toArray, List.set_cons_zero, List.set_cons_succ]
                  refine wpAnyH_take (i := 12) (oi := ⟨_, _, _, _, _, _⟩) (v := ?_) rfl (by kernel_rfl) (by kernel_rfl) (by kernel_rfl) (fun _ _ _ h => h) (Or.inl ⟨by rfl, ?_⟩) hHeld ?_
                  rotate_left
                  · intro w' hSw
                    try dsimp only at hSw
                    go_simp
                    all_goals with_reducible rfl
                  simp only [Act.put, List.setIfInBounds_toArray, List.set_cons_zero, List.set_cons_succ]
                  refine wpAnyH_take (i := 14) (oi := ⟨_, _, _, _, _, _⟩) (v := ?_) rfl (by kernel_rfl) (by kernel_rfl) (by kernel_rfl) (fun _ _ _ h => h) (Or.inl ⟨by rfl, ?_⟩) hHeld ?_
                  rotate_left
                  · intro w' hSw
                    try dsimp only at hSw
                    go_simp
                    all_goals with_reducible rfl
                  simp only [Act.put, List.setIfInBounds_toArray, List.set_cons_zero, List.set_cons_succ]
                  refine wpAnyH_take (i := 15) (oi := ⟨_, _, _, _, _, _⟩) (v := ?_) rfl (by kernel_rfl) (by kernel_rfl) (by kernel_rfl) (fun _ _ _ h => h) (Or.inl ⟨by rfl, ?_⟩) hHeld ?_
                  rotate_left
                  · intro w' hSw
                    try dsimp only at hSw
                    go_simp
                    all_goals with_reducible rfl
                  simp only [Act.put, List.setIfInBounds_toArray, List.set_cons_zero, List.set_cons_succ]
                  refine wpAnyH_take (i := 16) (oi := ⟨_, _, _, _, _, _⟩) (v := ?_) rfl (by kernel_rfl) (by kernel_rfl) (by kernel_rfl) (fun _ _ _ h => h) (Or.inl ⟨by rfl, ?_⟩) hHeld ?_
                  rotate_left
                  · intro w' hSw
                    try dsimp only at hSw
                    go_simp
                    all_goals with_reducible rfl
                  simp only [Act.put, List.setIfInBounds_toArray, List.set_cons_zero, List.set_cons_succ]
                  refine wpAnyH_take (i := 17) (oi := ⟨_, _, _, _, _, _⟩) (v := ?_) rfl (by kernel_rfl) (by kernel_rfl) (by kernel_rfl) (fun _ _ _ h => h) (Or.inl ⟨by rfl, ?_⟩) hHeld ?_
                  rotate_left
                  · intro w' hSw
                    try dsimp only at hSw
                    go_simp
                    all_goals with_reducible rfl
                  simp only [Act.put, List.setIfInBounds_toArray, List.set_cons_zero, List.set_cons_succ]
                  refine wpAnyH_take (i := 18) (oi := ⟨_, _, _, _, _, _⟩) (v := ?_) rfl (by kernel_rfl) (by kernel_rfl) (by kernel_rfl) (fun _ _ _ h => h) (Or.inl ⟨by rfl, ?_⟩) hHeld ?_
                  rotate_left
                  · intro w' hSw
                    try dsimp only at hSw
                    go_simp
                    all_goals with_reducible rfl
                  simp only [Act.put, List.setIfInBounds_toArray, List.set_cons_zero, List.set_cons_succ]
                  refine wpAnyH_take (i := 19) (oi := ⟨_, _, _, _, _, _⟩) (v := ?_) rfl (by kernel_rfl) (by kernel_rfl) (by kernel_rfl) (fun _ _ _ h => h) (Or.inl ⟨by rfl, ?_⟩) hHeld ?_
                  rotate_left
                  · intro w' hSw
                    try dsimp only at hSw
                    go_simp
                    all_goals with_reducible rfl
                  simp only [Act.put, List.setIfInBounds_toArray, List.set_cons_zero, List.set_cons_succ]
                  refine wpAnyH_ready (rs := [13]) (by kernel_rfl) (by simp) ?_
                  refine AllReadyH.cons (o := ⟨_, _, _, _, _, _⟩) rfl (fun K hK => ?_) AllReadyH.nil
                  go_simp
                  refine (S.from_ _ (now, p, gl) j _ Zc.out.gi.ok F1.out J64.out Zc.out.ra).mono ?_
                  rintro e u13 ⟨rfl, b9⟩
                  rw [rFrom_nat, VA.out]
                  have Zd := Hid.of (Zc.out.next b9)
                  clear b9 hHeld c0 c1 d0 d1 d2 d3 e0' e1 e2 e3 q1
                  obtain ⟨c0, c1, d0, d1, d2, d3, e0', e1, e2, e3⟩ := Zd.out.at
                  have q1 := Q1.out _ Zd.out
                  refine hK.out _ _ ⟨⟨c0, c1, d0, d1, d2, d3, e0', e1, e2, e3⟩, q1⟩ (fun hHeld => ?_)
                  clear hK K
                  try simp only [Act.put, List.setIfInBounds_toArray, List.set_cons_zero, List.set_cons_succ]
                  refine wpAnyH_take (i := 20) (oi := ⟨_, _, _, _, _, _⟩) (v := ?_) rfl (by kernel_rfl) (by kernel_rfl) (by kernel_rfl) (fun _ _ _ h => h) (Or.inl ⟨by rfl, ?_⟩) hHeld ?_
                  rotate_left
                  · intro w' hSw
                    try dsimp only at hSw
                    go_simp
                    all_goals with_reducible rfl
                  simp only [Act.put, List.setIfInBounds_toArray, List.set_cons_zero, List.set_cons_succ]
                  refine wpAnyH_take (i := 21) (oi := ⟨_, _, _, _, _, _⟩) (v := ?_) rfl (by kernel_rfl) (by kernel_rfl) (by kernel_rfl) (fun _ _ _ h => h) (Or.inl ⟨by rfl, ?_⟩) hHeld ?_
                  rotate_left
                  · intro w' hSw
                    try dsimp only at hSw
                    go_simp
                    all_goals with_reducible rfl
                  simp only [Act.put, List.setIfInBounds_toArray, List.set_cons_zero, List.set_cons_succ]
                  refine wpAnyH_take (i := 22) (oi := ⟨_, _, _, _, _, _⟩) (v := ?_) rfl (by kernel_rfl) (by kernel_rfl) (by kernel_rfl) (fun _ _ _ h => h) (Or.inl ⟨by rfl, ?_⟩) hHeld ?_
                  rotate_left
                  · intro w' hSw
                    try dsimp only at hSw
                    go_simp
                    all_goals with_reducible rfl
                  simp only [Act.put, List.setIfInBounds_toArray, List.set_cons_zero, List.set_cons_succ]
                  refine wpAnyH_take (i := 23) (oi := ⟨_, _, _, _, _, _⟩) (v := ?_) rfl (by kernel_rfl) (by kernel_rfl) (by kernel_rfl) (fun _ _ _ h => h) (Or.inl ⟨by rfl, ?_⟩) hHeld ?_
                  rotate_left
                  · intro w' hSw
                    try dsimp only at hSw
                    go_simp
                    all_goals with_reducible rfl
                  simp only [Act.put, List.setIfInBounds_toArray, List.set_cons_zero, List.set_cons_succ]
                  refine wpAnyH_take (i := 24) (oi := ⟨_, _, _, _, _, _⟩) (v := ?_) rfl (by kernel_rfl) (by kernel_rfl) (by kernel_rfl) (fun _ _ _ h => h) (Or.inl ⟨by rfl, ?_⟩) hHeld ?_
                  rotate_left
                  · intro w' hSw
                    try dsimp only at hSw
                    go_simp
                    all_goals with_reducible rfl
                  simp only [Act.put, List.setIfInBounds_toArray, List.set_cons_zero, List.set_cons_succ]
                  refine wpAnyH_take (i := 25) (oi := ⟨_, _, _, _, _, _⟩) (v := ?_) rfl (by kernel_rfl) (by kernel_rfl) (by kernel_rfl) (fun _ _ _ h => h) (Or.inl ⟨by rfl, ?_⟩) hHeld ?_
                  rotate_left
                  · intro w' hSw
                    try dsimp only at hSw
                    go_simp
                    all_goals with_reducible rfl
                  simp only [Act.put, List.setIfInBounds_toArray, List.set_cons_zero, List.set_cons_succ]
                  refine wpAnyH_take (i := 26) (oi := ⟨_, _, _, _, _, _⟩) (v := ?_) rfl (by kernel_rfl) (by kernel_rfl) (by kernel_rfl) (fun _ _ _ h => h) (Or.inl ⟨by rfl, ?_⟩) hHeld ?_
                  rotate_left
                  · intro w' hSw
                    try dsimp only at hSw
                    go_simp
                    all_goals with_reducible rfl
                  simp only [Act.put, List.setIfInBounds_toArray, List.set_cons_zero, List.set_cons_succ]
                  refine wpAnyH_take (i := 27) (oi := ⟨_, _, _, _, _, _⟩) (v := ?_) rfl (by kernel_rfl) (by kernel_rfl) (by kernel_rfl) (fun _ _ _ h => h) (Or.inl ⟨by rfl, ?_⟩) hHeld ?_
                  rotate_left
                  · intro w' hSw
                    try dsimp only at hSw
                    go_simp
                    all_goals with_reducible rfl
                  simp only [Act.put, List.setIfInBounds_toArray, List.set_cons_zero, List.set_cons_succ]
                  refine wpAnyH_take (i := 28) (oi := ⟨_, _, _, _, _, _⟩) (v := ?_) rfl (by kernel_rfl) (by kernel_rfl) (by kernel_rfl) (fun _ _ _ h => h) (Or.inl ⟨by rfl, ?_⟩) hHeld ?_
                  rotate_left
                  · intro w' hSw
                    try dsimp only at hSw
                    go_simp
                    all_goals with_reducible rfl
                  simp only [Act.put, List.setIfInBounds_toArray, List.set_cons_zero, List.set_cons_succ]
                  refine wpAnyH_take (i := 29) (oi := ⟨_, _, _, _, _, _⟩) (v := ?_) rfl (by kernel_rfl) (by kernel_rfl) (by kernel_rfl) (fun _ _ _ h => h) (Or.inl ⟨by rfl, ?_⟩) hHeld ?_
                  rotate_left
                  · intro w' hSw
                    try dsimp only at hSw
                    go_simp
                    all_goals with_reducible rfl
                  simp only [Act.put, List.setIfInBounds_toArray, List.set_cons_zero, List.set_cons_succ]
                  refine wpAnyH_take (i := 30) (oi := ⟨_, _, _, _, _, _⟩) (v := ?_) rfl (by kernel_rfl) (by kernel_rfl) (by kernel_rfl) (fun _ _ _ h => h) (Or.inl ⟨by rfl, ?_⟩) hHeld ?_
                  rotate_left
                  · intro w' hSw
                    try dsimp only at hSw
                    go_simp
                    all_goals with_reducible rfl
                  simp only [Act.put, List.setIfInBounds_toArray, List.set_cons_zero, List.set_cons_succ]
                  refine wpAnyH_take (i := 31) (oi := ⟨_, _, _, _, _, _⟩) (v := ?_) rfl (by kernel_rfl) (by kernel_rfl) (by kernel_rfl) (fun _ _ _ h => h) (Or.inl ⟨by rfl, ?_⟩) hHeld ?_
                  rotate_left
                  · intro w' hSw
                    try dsimp only at hSw
                    go_simp
                    all_goals with_reducible rfl
                  simp only [Act.put, List.setIfInBounds_toArray, List.set_cons_zero, List.set_cons_succ]
                  cases isB with
                  | true =>
                    have hws := IMP.out rfl
                    subst hws
                    refine wpAnyH_take (i := 32) (oi := ⟨_, _, _, _, _, _⟩) (v := ?_) rfl (by kernel_rfl) (by kernel_rfl) (by kernel_rfl) (fun _ _ _ h => h) (Or.inl ⟨by rfl, ?_⟩) hHeld ?_
                    rotate_left
                    · intro w' hSw
                      try dsimp only at hSw
                      go_simp
                      all_goals with_reducible rfl
                    simp only [Act.put, List.setIfInBounds_toArray, List.set_cons_zero, List.set_cons_succ]
                    refine wpAnyH_take (i := 33) (oi := ⟨_, _, _, _, _, _⟩) (v := ?_) rfl (by kernel_rfl) (by kernel_rfl) (by kernel_rfl) (fun _ _ _ h => h) (Or.inl ⟨by rfl, ?_⟩) hHeld ?_
                    rotate_left
                    · intro w' hSw
                      try dsimp only at hSw
                      go_simp
                      all_goals with_reducible rfl
                    simp only [Act.put, List.setIfInBounds_toArray, List.set_cons_zero, List.set_cons_succ]
                    refine wpAnyH_take (i := 34) (oi := ⟨_, _, _, _, _, _⟩) (v := ?_) rfl (by kernel_rfl) (by kernel_rfl) (by kernel_rfl) (fun _ _ _ h => h) (Or.inl ⟨by rfl, ?_⟩) hHeld ?_
                    rotate_left
                    · intro w' hSw
                      try dsimp only at hSw
                      go_simp
                      all_goals with_reducible rfl
                    simp only [Act.put, List.setIfInBounds_toArray, List.set_cons_zero, List.set_cons_succ]
                    refine wpAnyH_take (i := 35) (oi := ⟨_, _, _, _, _, _⟩) (v := ?_) rfl (by kernel_rfl) (by kernel_rfl) (by kernel_rfl) (fun _ _ _ h => h) (Or.inl ⟨by rfl, ?_⟩) hHeld ?_
                    rotate_left
                    · intro w' hSw
                      try dsimp only at hSw
                      go_simp
                      all_goals with_reducible rfl
                    simp only [Act.put, List.setIfInBounds_toArray, List.set_cons_zero, List.set_cons_succ]
                    refine wpAnyH_take (i := 36) (oi := ⟨_, _, _, _, _, _⟩) (v := ?_) rfl (by kernel_rfl) (by kernel_rfl) (by kernel_rfl) (fun _ _ _ h => h) (Or.inl ⟨by rfl, ?_⟩) hHeld ?_
                    rotate_left
                    · intro w' hSw
                      try dsimp only at hSw
                      go_simp
                      all_goals with_reducible rfl
                    simp only [Act.put, List.setIfInBounds_toArray, List.set_cons_zero, List.set_cons_succ]
                    refine wpAnyH_take (i := 37) (oi := ⟨_, _, _, _, _, _⟩) (v := ?_) rfl (by kernel_rfl) (by kernel_rfl) (by kernel_rfl) (fun _ _ _ h => h) (Or.inl ⟨by rfl, ?_⟩) hHeld ?_
                    rotate_left
                    · intro w' hSw
                      try dsimp only at hSw
                      go_simp
                      all_goals with_reducible rfl
                    simp only [Act.put, List.setIfInBounds_toArray, List.set_cons_zero, List.set_cons_succ]
                    refine wpAnyH_take (i := 38) (oi := ⟨_, _, _, _, _, _⟩) (v := ?_) rfl (by kernel_rfl) (by kernel_rfl) (by kernel_rfl) (fun _ _ _ h => h) (Or.inl ⟨by rfl, ?_⟩) hHeld ?_
                    rotate_left
                    · intro w' hSw
                      try dsimp only at hSw
                      go_simp
                      all_goals with_reducible rfl
                    simp only [Act.put, List.setIfInBounds_toArray, List.set_cons_zero, List.set_cons_succ]
                    refine wpAnyH_take (i := 39) (oi := ⟨_, _, _, _, _, _⟩) (v := ?_) rfl (by kernel_rfl) (by kernel_rfl) (by kernel_rfl) (fun _ _ _ h => h) (Or.inl ⟨by rfl, ?_⟩) hHeld ?_
                    rotate_left
                    · intro w' hSw
                      try dsimp only at hSw
                      go_simp
                      all_goals with_reducible rfl
                    simp only [Act.put, List.setIfInBounds_toArray, List.set_cons_zero, List.set_cons_succ]
                    refine wpAnyH_take (i := 40) (oi := ⟨_, _, _, _, _, _⟩) (v := ?_) rfl (by kernel_rfl) (by kernel_rfl) (by kernel_rfl) (fun _ _ _ h => h) (Or.inl ⟨by rfl, ?_⟩) hHeld ?_
                    rotate_left
                    · intro w' hSw
                      try dsimp only at hSw
                      go_simp
                      all_goals with_reducible rfl
                    simp only [Act.put, List.setIfInBounds_toArray, List.set_cons_zero, List.set_cons_succ]
                    refine wpAnyH_take (i := 41) (oi := ⟨_, _, _, _, _, _⟩) (v := undef) rfl (by kernel_rfl) (by kernel_rfl) (by kernel_rfl) (fun _ _ _ h => h) (Or.inr ⟨by rfl, rfl⟩) hHeld ?_
                    simp only [Act.put, List.setIfInBounds_toArray, List.set_cons_zero, List.set_cons_succ]
                    refine wpAnyH_take (i := 42) (oi := ⟨_, _, _, _, _, _⟩) (v := undef) rfl (by kernel_rfl) (by kernel_rfl) (by kernel_rfl) (fun _ _ _ h => h) (Or.inr ⟨by rfl, rfl⟩) hHeld ?_
                    simp only [Act.put, List.setIfInBounds_toArray, List.set_cons_zero, List.set_cons_succ]
                    refine wpAnyH_take (i := 43) (oi := ⟨_, _, _, _, _, _⟩) (v := undef) rfl (by kernel_rfl) (by kernel_rfl) (by kernel_rfl) (fun _ _ _ h => h) (Or.inr ⟨by rfl, rfl⟩) hHeld ?_
                    simp only [Act.put, List.setIfInBounds_toArray, List.set_cons_zero, List.set_cons_succ]
                    refine wpAnyH_take (i := 44) (oi := ⟨_, _, _, _, _, _⟩) (v := undef) rfl (by kernel_rfl) (by kernel_rfl) (by kernel_rfl) (fun _ _ _ h => h) (Or.inr ⟨by rfl, rfl⟩) hHeld ?_
                    simp only [Act.put, List.setIfInBounds_toArray, List.set_cons_zero, List.set_cons_succ]
                    refine wpAnyH_take (i := 45) (oi := ⟨_, _, _, _, _, _⟩) (v := undef) rfl (by kernel_rfl) (by kernel_rfl) (by kernel_rfl) (fun _ _ _ h => h) (Or.inr ⟨by rfl, rfl⟩) hHeld ?_
                    simp only [Act.put, List.setIfInBounds_toArray, List.set_cons_zero, List.set_cons_succ]
                    refine wpAnyH_take (i := 46) (oi := ⟨_, _, _, _, _, _⟩) (v := undef) rfl (by kernel_rfl) (by kernel_rfl) (by kernel_rfl) (fun _ _ _ h => h) (Or.inr ⟨by rfl, rfl⟩) hHeld ?_
                    simp only [Act.put, List.setIfInBounds_toArray, List.set_cons_zero, List.set_cons_succ]
                    refine wpAnyH_take (i := 47) (oi := ⟨_, _, _, _, _, _⟩) (v := undef) rfl (by kernel_rfl) (by kernel_rfl) (by kernel_rfl) (fun _ _ _ h => h) (Or.inr ⟨by rfl, rfl⟩) hHeld ?_
                    simp only [Act.put, List.setIfInBounds_toArray, List.set_cons_zero, List.set_cons_succ]
                    refine wpAnyH_take (i := 48) (oi := ⟨_, _, _, _, _, _⟩) (v := undef) rfl (by kernel_rfl) (by kernel_rfl) (by kernel_rfl) (fun _ _ _ h => h) (Or.inr ⟨by rfl, rfl⟩) hHeld ?_
                    simp only [Act.put, List.setIfInBounds_toArray, List.set_cons_zero, List.set_cons_succ]
                    refine wpAnyH_take (i := 49) (oi := ⟨_, _, _, _, _, _⟩) (v := ?_) rfl (by kernel_rfl) (by kernel_rfl) (by kernel_rfl) (fun _ _ _ h => h) (Or.inl ⟨by rfl, ?_⟩) hHeld ?_
                    rotate_left
                    · intro w' hSw
                      try dsimp only at hSw
                      go_simp
                      all_goals with_reducible rfl
                    simp only [Act.put, List.setIfInBounds_toArray, List.set_cons_zero, List.set_cons_succ]
                    refine wpAnyH_take (i := 50) (oi := ⟨_, _, _, _, _, _⟩) (v := ?_) rfl (by kernel_rfl) (by kernel_rfl) (by kernel_rfl) (fun _ _ _ h => h) (Or.inl ⟨by rfl, ?_⟩) hHeld ?_
                    rotate_left
                    · intro w' hSw
                      try dsimp only at hSw
                      go_simp
                      all_goals with_reducible rfl
                    simp only [Act.put, List.setIfInBounds_toArray, List.set_cons_zero, List.set_cons_succ]
                    refine wpAnyH_take (i := 51) (oi := ⟨_, _, _, _, _, _⟩) (v := ?_) rfl (by kernel_rfl) (by kernel_rfl) (by kernel_rfl) (fun _ _ _ h => h) (Or.inl ⟨by rfl, ?_⟩) hHeld ?_
                    rotate_left
                    · intro w' hSw
                      try dsimp only at hSw
                      go_simp
                      all_goals with_reducible rfl
                    simp only [Act.put, List.setIfInBounds_toArray, List.set_cons_zero, List.set_cons_succ]
                    refine wpAnyH_done (by kernel_rfl) ?_ _
                    refine NoPanic.normal ?_
                    go_wp2
                    go_ret
                    exact ⟨rfl, Zd.out.gi.fr⟩
                  | false =>
                    refine wpAnyH_take (i := 32) (oi := ⟨_, _, _, _, _, _⟩) (v := undef) rfl (by kernel_rfl) (by kernel_rfl) (by kernel_rfl) (fun _ _ _ h => h) (Or.inr ⟨by rfl, rfl⟩) hHeld ?_
                    simp only [Act.put, List.setIfInBounds_toArray, List.set_cons_zero, List.set_cons_succ]
                    refine wpAnyH_take (i := 33) (oi := ⟨_, _, _, _, _, _⟩) (v := ?_) rfl (by kernel_rfl) (by kernel_rfl) (by kernel_rfl) (fun _ _ _ h => h) (Or.inl ⟨by rfl, ?_⟩) hHeld ?_
                    rotate_left
                    · intro w' hSw
                      try dsimp only at hSw
                      go_simp
                      all_goals with_reducible rfl
                    simp only [Act.put, List.setIfInBounds_toArray, List.set_cons_zero, List.set_cons_succ]
                    refine wpAnyH_take (i := 34) (oi := ⟨_, _, _, _, _, _⟩) (v := ?_) rfl (by kernel_rfl) (by kernel_rfl) (by kernel_rfl) (fun _ _ _ h => h) (Or.inl ⟨by rfl, ?_⟩) hHeld ?_
                    rotate_left
                    · intro w' hSw
                      try dsimp only at hSw
                      go_simp
                      all_goals with_reducible rfl
                    simp only [Act.put, List.setIfInBounds_toArray, List.set_cons_zero, List.set_cons_succ]
                    refine wpAnyH_take (i := 35) (oi := ⟨_, _, _, _, _, _⟩) (v := ?_) rfl (by kernel_rfl) (by kernel_rfl) (by kernel_rfl) (fun _ _ _ h => h) (Or.inl ⟨by rfl, ?_⟩) hHeld ?_
                    rotate_left
                    · intro w' hSw
                      try dsimp only at hSw
                      go_simp
                      all_goals with_reducible rfl
                    simp only [Act.put, List.setIfInBounds_toArray, List.set_cons_zero, List.set_cons_succ]
                    refine wpAnyH_take (i := 36) (oi := ⟨_, _, _, _, _, _⟩) (v := ?_) rfl (by kernel_rfl) (by kernel_rfl) (by kernel_rfl) (fun _ _ _ h => h) (Or.inl ⟨by rfl, ?_⟩) hHeld ?_
                    rotate_left
                    · intro w' hSw
                      try dsimp only at hSw
                      go_simp
                      all_goals with_reducible rfl
                    simp only [Act.put, List.setIfInBounds_toArray, List.set_cons_zero, List.set_cons_succ]
                    refine wpAnyH_take (i := 37) (oi := ⟨_, _, _, _, _, _⟩) (v := ?_) rfl (by kernel_rfl) (by kernel_rfl) (by kernel_rfl) (fun _ _ _ h => h) (Or.inl ⟨by rfl, ?_⟩) hHeld ?_
                    rotate_left
                    · intro w' hSw
                      try dsimp only at hSw
                      go_simp
                      all_goals with_reducible rfl
                    simp only [Act.put, List.setIfInBounds_toArray, List.set_cons_zero, List.set_cons_succ]
                    refine wpAnyH_take (i := 38) (oi := ⟨_, _, _, _, _, _⟩) (v := ?_) rfl (by kernel_rfl) (by kernel_rfl) (by kernel_rfl) (fun _ _ _ h => h) (Or.inl ⟨by rfl, ?_⟩) hHeld ?_
                    rotate_left
                    · intro w' hSw
                      try dsimp only at hSw
                      go_simp
                      all_goals with_reducible rfl
                    simp only [Act.put, List.setIfInBounds_toArray, List.set_cons_zero, List.set_cons_succ]
                    refine wpAnyH_take (i := 39) (oi := ⟨_, _, _, _, _, _⟩) (v := ?_) rfl (by kernel_rfl) (by kernel_rfl) (by kernel_rfl) (fun _ _ _ h => h) (Or.inl ⟨by rfl, ?_⟩) hHeld ?_
                    rotate_left
                    · intro w' hSw
                      try dsimp only at hSw
                      go_simp
                      all_goals with_reducible rfl
                    simp only [Act.put, List.setIfInBounds_toArray, List.set_cons_zero, List.set_cons_succ]
                    refine wpAnyH_take (i := 40) (oi := ⟨_, _, _, _, _, _⟩) (v := ?_) rfl (by kernel_rfl) (by kernel_rfl) (by kernel_rfl) (fun _ _ _ h => h) (Or.inl ⟨by rfl, ?_⟩) hHeld ?_
                    rotate_left
                    · intro w' hSw
                      try dsimp only at hSw
                      go_simp
                      all_goals with_reducible rfl
                    simp only [Act.put, List.setIfInBounds_toArray, List.set_cons_zero, List.set_cons_succ]
                    refine wpAnyH_take (i := 41) (oi := ⟨_, _, _, _, _, _⟩) (v := undef) rfl (by kernel_rfl) (by kernel_rfl) (by kernel_rfl) (fun _ _ _ h => h) (Or.inr ⟨by rfl, rfl⟩) hHeld ?_
                    simp only [Act.put, List.setIfInBounds_toArray, List.set_cons_zero, List.set_cons_succ]
                    refine wpAnyH_take (i := 42) (oi := ⟨_, _, _, _, _, _⟩) (v := undef) rfl (by kernel_rfl) (by kernel_rfl) (by kernel_rfl) (fun _ _ _ h => h) (Or.inr ⟨by rfl, rfl⟩) hHeld ?_
                    simp only [Act.put, List.setIfInBounds_toArray, List.set_cons_zero, List.set_cons_succ]
                    refine wpAnyH_take (i := 43) (oi := ⟨_, _, _, _, _, _⟩) (v := undef) rfl (by kernel_rfl) (by kernel_rfl) (by kernel_rfl) (fun _ _ _ h => h) (Or.inr ⟨by rfl, rfl⟩) hHeld ?_
                    simp only [Act.put, List.setIfInBounds_toArray, List.set_cons_zero, List.set_cons_succ]
                    refine wpAnyH_take (i := 44) (oi := ⟨_, _, _, _, _, _⟩) (v := undef) rfl (by kernel_rfl) (by kernel_rfl) (by kernel_rfl) (fun _ _ _ h => h) (Or.inr ⟨by rfl, rfl⟩) hHeld ?_
                    simp only [Act.put, List.setIfInBounds_toArray, List.set_cons_zero, List.set_cons_succ]
                    refine wpAnyH_take (i := 45) (oi := ⟨_, _, _, _, _, _⟩) (v := undef) rfl (by kernel_rfl) (by kernel_rfl) (by kernel_rfl) (fun _ _ _ h => h) (Or.inr ⟨by rfl, rfl⟩) hHeld ?_
                    simp only [Act.put, List.setIfInBounds_toArray, List.set_cons_zero, List.set_cons_succ]
                    refine wpAnyH_take (i := 46) (oi := ⟨_, _, _, _, _, _⟩) (v := undef) rfl (by kernel_rfl) (by kernel_rfl) (by kernel_rfl) (fun _ _ _ h => h) (Or.inr ⟨by rfl, rfl⟩) hHeld ?_
                    simp only [Act.put, List.setIfInBounds_toArray, List.set_cons_zero, List.set_cons_succ]
                    refine wpAnyH_take (i := 47) (oi := ⟨_, _, _, _, _, _⟩) (v := undef) rfl (by kernel_rfl) (by kernel_rfl) (by kernel_rfl) (fun _ _ _ h => h) (Or.inr ⟨by rfl, rfl⟩) hHeld ?_
                    simp only [Act.put, List.setIfInBounds_toArray, List.set_cons_zero, List.set_cons_succ]
                    refine wpAnyH_take (i := 48) (oi := ⟨_, _, _, _, _, _⟩) (v := undef) rfl (by kernel_rfl) (by kernel_rfl) (by kernel_rfl) (fun _ _ _ h => h) (Or.inr ⟨by rfl, rfl⟩) hHeld ?_
                    simp only [Act.put, List.setIfInBounds_toArray, List.set_cons_zero, List.set_cons_succ]
                    refine wpAnyH_take (i := 49) (oi := ⟨_, _, _, _, _, _⟩) (v := ?_) rfl (by kernel_rfl) (by kernel_rfl) (by kernel_rfl) (fun _ _ _ h => h) (Or.inl ⟨by rfl, ?_⟩) hHeld ?_
                    rotate_left
                    · intro w' hSw
                      try dsimp only at hSw
                      go_simp
                      all_goals with_reducible rfl
                    simp only [Act.put, List.setIfInBounds_toArray, List.set_cons_zero, List.set_cons_succ]
                    refine wpAnyH_take (i := 50) (oi := ⟨_, _, _, _, _, _⟩) (v := ?_) rfl (by kernel_rfl) (by kernel_rfl) (by kernel_rfl) (fun _ _ _ h => h) (Or.inl ⟨by rfl, ?_⟩) hHeld ?_
                    rotate_left
                    · intro w' hSw
                      try dsimp only at hSw
                      go_simp
                      all_goals with_reducible rfl
                    simp only [Act.put, List.setIfInBounds_toArray, List.set_cons_zero, List.set_cons_succ]
                    refine wpAnyH_take (i := 51) (oi := ⟨_, _, _, _, _, _⟩) (v := ?_) rfl (by kernel_rfl) (by kernel_rfl) (by kernel_rfl) (fun _ _ _ h => h) (Or.inl ⟨by rfl, ?_⟩) hHeld ?_
                    rotate_left
                    · intro w' hSw
                      try dsimp only at hSw
                      go_simp
                      all_goals with_reducible rfl
                    simp only [Act.put, List.setIfInBounds_toArray, List.set_cons_zero, List.set_cons_succ]
                    refine wpAnyH_done (by kernel_rfl) ?_ _
                    refine NoPanic.normal ?_
                    go_wp2
                    go_ret
                    exact ⟨rfl, Zd.out.gi.fr⟩

end Go.Proofs.Ytfbgjoildibikaa
