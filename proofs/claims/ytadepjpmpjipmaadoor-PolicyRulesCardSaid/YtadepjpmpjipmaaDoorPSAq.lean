/-
  PolicySame: what is alike is alike both ways; a copy is; with one number changed it is not.
-/
import Derived.Deep.RegionHeld3
import Derived.Test.YtadepjpmpjipmaaDoorQ14
import Derived.Test.YtadepjpmpjipmaaDoorQ25
import Derived.Test.YtadepjpmpjipmaaDoorPSXq
namespace Go.Proofs.YtadepjpmpjipmaaDoor
open Go.RowKit Go.Lib

/-- Two policies that came in, and a copy of the first, in three variables. -/
structure SH (S : PolicySpec) (w0 : World) (B a3 a4 a7 : Nat) (n m : ByteArray) (x y z : Value) (p q c : PolL) (w : World) : Prop where
  k3 : PBlk w a3 n x
  k4 : PBlk w a4 m y
  k7 : PBlk w a7 n z
  q3 : PolRow w0 (polVal n x) p
  q4 : PolRow w0 (polVal m y) q
  o7 : w.ownsRow B 37 4 z c.2.length (flat penc c.2)
  n7 : c.1 = n
  ok0 : S.Ok w0
  fr : Below w0.heap.size w0 w
  off : w0.heap.size ≤ a3 ∧ a3 < B ∧ a4 < B ∧ w0.heap.size ≤ B ∧ ∀ g, z.ownBlock = some g → g ≠ a7

theorem SH.next {S : PolicySpec} {w0 w w' : World} {B a3 a4 a7 : Nat} {n m : ByteArray} {x y z : Value} {p q c : PolL} (h : SH S w0 B a3 a4 a7 n m x y z p q c w) (b : Below w.heap.size w w') : SH S w0 B a3 a4 a7 n m x y z p q c w' :=
  ⟨h.k3.kept b, h.k4.kept b, h.k7.kept b, h.q3, h.q4, (Step.of_below (F := fun _ => False) b).own h.o7 (fun _ _ h => h), h.n7, h.ok0, h.fr.trans (b.mono h.fr.size), h.off⟩

section
variable {S : PolicySpec} {w0 w : World} {B a3 a4 a7 : Nat} {n m : ByteArray} {x y z : Value} {p q c : PolL} {t0 : TierL}

theorem SH.ok (h : SH S w0 B a3 a4 a7 n m x y z p q c w) : S.Ok w := S.kept h.ok0 h.fr
theorem SH.r3 (h : SH S w0 B a3 a4 a7 n m x y z p q c w) : PolRow w (polVal n x) p := h.q3.kept h.fr
theorem SH.r4 (h : SH S w0 B a3 a4 a7 n m x y z p q c w) : PolRow w (polVal m y) q := h.q4.kept h.fr
theorem SH.r7 (h : SH S w0 B a3 a4 a7 n m x y z p q c w) : PolRow w (polVal n z) c := ⟨z, by rw [h.n7], own_row h.o7, own_cap h.o7⟩

theorem SH.at (h : SH S w0 B a3 a4 a7 n m x y z p q c w) : w.cell? ⟨a3, 0, none⟩ = some (.string n) ∧ w.cell? ⟨a3, 1, none⟩ = some x ∧ w.cell? ⟨a4, 0, none⟩ = some (.string m) ∧ w.cell? ⟨a4, 1, none⟩ = some y ∧ w.cell? ⟨a7, 0, none⟩ = some (.string n) ∧ w.cell? ⟨a7, 1, none⟩ = some z :=
  ⟨h.k3.at.1, h.k3.at.2, h.k4.at.1, h.k4.at.2, h.k7.at.1, h.k7.at.2⟩

theorem tier_set {l : List TierL} {j i : Nat} {t t' : TierL} {v : Value} (h : l[j]? = some t) (hi : i < 4) (ht : (penc t).set i v = penc t') : (flat penc l).set (j * 4 + i) v = flat penc (l.set j t') := by
  obtain ⟨hj, he⟩ := List.getElem?_eq_some_iff.1 h
  have e : l = l.take j ++ t :: l.drop (j + 1) := by
    rw [← he, ← List.drop_eq_getElem_cons hj, List.take_append_drop]
  have es : l.set j t' = l.take j ++ t' :: l.drop (j + 1) := by
    rw [List.set_eq_take_append_cons_drop, if_pos hj]
  have hlen : (l.take j).length = j := by rw [List.length_take]; omega
  have hf : (flat penc (l.take j)).length = j * 4 := by rw [flat_length penc_len, hlen]
  rw [es]
  conv => lhs; rw [e]
  have hc : ∀ (x : TierL) (r : List TierL), flat penc (x :: r) = penc x ++ flat penc r := fun _ _ => rfl
  rw [flat_append, flat_append, hc, hc, List.set_append_right _ _ (by omega), hf, show j * 4 + i - j * 4 = i by omega, List.set_append_left _ _ (by rw [penc_len]; exact hi), ht]

theorem tier_keep {l : List TierL} {j : Nat} {tn : ByteArray} {te tk ts : Int} (h : l[j]? = some (tn, te, tk, ts)) (v : Int) : (flat penc l).set (j * 4 + 2) (.int .i64 v) = flat penc (l.set j (tn, te, v, ts)) :=
  tier_set h (by decide) rfl

/-- A cell of the copy. -/
theorem SH.zat {N cap g : Nat} (h : SH S w0 B a3 a4 a7 n m x y (.slice (some ⟨g, 0, none⟩) N cap) p q c w) (hN : N = c.2.length) {i : Nat} {t : TierL} (ht : c.2[i]? = some t) (f : Nat) (hf : f < 4) (u : Value) (hu : (penc t)[f]? = some u) :
    w.cell? ⟨g, i * 4 + f, none⟩ = some u ∧ w.frozen? ⟨g, i * 4 + f, none⟩ = false := by
  subst hN
  have hi := (List.getElem?_eq_some_iff.1 ht).1
  refine ⟨?_, ?_⟩
  · rw [h.o7.cellAt (i * 4 + f) (show i * 4 + f < c.2.length * 4 by omega), flat_at penc_len c.2 i t ht f hf]
    exact hu
  · rcases h.o7.2 with ⟨h1, h2⟩ | ⟨g', cap', cur, h1, _, hrow, _⟩
    · omega
    · cases h1
      exact row_frozen hrow

/-- A cell of the copy is set. -/
theorem SH.put {N cap g o : Nat} {v : Value} {c' : PolL} (h : SH S w0 B a3 a4 a7 n m x y (.slice (some ⟨g, 0, none⟩) N cap) p q c w) (hn : c'.1 = c.1) (hl : c'.2.length = c.2.length) (hc : (flat penc c.2).set o v = flat penc c'.2) (hN : N = c.2.length) :
    SH S w0 B a3 a4 a7 n m x y (.slice (some ⟨g, 0, none⟩) N cap) p q c' (w.setCell ⟨g, o, none⟩ v) := by
  subst hN
  obtain ⟨o1, g1⟩ := h.o7.stored o v
  have hg := (h.o7.lt g rfl).1
  obtain ⟨f1, f2, f3, f4, f5⟩ := h.off
  have kp : ∀ (b : Nat) (n' : ByteArray) (s' : Value), b ≠ g → PBlk w b n' s' → PBlk (w.setCell ⟨g, o, none⟩ v) b n' s' := by
    intro b n' s' hb k
    unfold PBlk at k ⊢
    rw [g1.block b (Array.getElem?_eq_some_iff.1 k).1 (fun e => hb (Option.some.inj e))]
    exact k
  rw [hc] at o1
  exact ⟨kp _ _ _ (by omega) h.k3, kp _ _ _ (by omega) h.k4, kp _ _ _ (fun e => f5 g rfl e.symm) h.k7, h.q3, h.q4, by rw [hl]; exact o1, by rw [hn]; exact h.n7, h.ok0, h.fr.grown g1 h.fr.size (fun k hk => by cases hk; omega), h.off⟩
/-- A tier of the copy is another one. -/
theorem SH.put4 {N cap g i : Nat} (h : SH S w0 B a3 a4 a7 n m x y (.slice (some ⟨g, 0, none⟩) N cap) p q (c.1, c.2.set i t0) w) (hN : c.2.length = N) (hi : i < c.2.length) (t' : TierL) :
    SH S w0 B a3 a4 a7 n m x y (.slice (some ⟨g, 0, none⟩) N cap) p q (c.1, c.2.set i t') ((((w.setCell ⟨g, i * 4, none⟩ (.string t'.1)).setCell ⟨g, i * 4 + 1, none⟩ (.int .i64 t'.2.1)).setCell ⟨g, i * 4 + 2, none⟩ (.int .i64 t'.2.2.1)).setCell ⟨g, i * 4 + 3, none⟩ (.int .i64 t'.2.2.2)) := by
  have hl : ∀ t : TierL, N = (c.1, c.2.set i t).2.length := fun t => by simp [hN]
  have hs : ∀ t : TierL, (c.1, c.2.set i t).2[i]? = some t := fun t => List.getElem?_set_self hi
  have hc : ∀ (t u : TierL) (f : Nat) (v : Value), f < 4 → (penc t).set f v = penc u → (flat penc (c.1, c.2.set i t).2).set (i * 4 + f) v = flat penc (c.1, c.2.set i u).2 := fun t u f v hf hu => by
    have := tier_set (hs t) hf hu
    simpa [List.set_set] using this
  have h1 := h.put (c' := (c.1, c.2.set i (t'.1, t0.2.1, t0.2.2.1, t0.2.2.2))) rfl (by simp) (hc t0 _ 0 (.string t'.1) (by decide) rfl) (hl _)
  have h2 := h1.put (c' := (c.1, c.2.set i (t'.1, t'.2.1, t0.2.2.1, t0.2.2.2))) rfl (by simp) (hc _ _ 1 (.int .i64 t'.2.1) (by decide) rfl) (hl _)
  have h3 := h2.put (c' := (c.1, c.2.set i (t'.1, t'.2.1, t'.2.2.1, t0.2.2.2))) rfl (by simp) (hc _ _ 2 (.int .i64 t'.2.2.1) (by decide) rfl) (hl _)
  exact h3.put (c' := (c.1, c.2.set i t')) rfl (by simp) (hc _ _ 3 (.int .i64 t'.2.2.2) (by decide) rfl) (hl _)

theorem SH.drew_ (h : SH S w0 B a3 a4 a7 n m x y z p q c w) : SH S w0 B a3 a4 a7 n m x y z p q c w.drew := h.next (Below.refl _ _).drew

end

set_option maxRecDepth 20000 in
set_option maxHeartbeats 3200000 in
theorem policySame_main (S : PolicySpec) (u v : Value) (p q : PolL) (k : Int) (w : World) (hS : S.Ok w) (hu : PolRow w u p) (hv : PolRow w v q) (hp : ∀ x ∈ p.2, TIn x) (hq : ∀ x ∈ q.2, TIn x) :
    Calls Tryd.prog 7 #[u, v, .int .i64 k] w fun e w' => e = .returned (.bool true) ∧ Below w.heap.size w w' := by
  obtain ⟨sl, rfl, hsl, hsk⟩ := hu
  obtain ⟨tl, rfl, htl, htk⟩ := hv
  have HSL := Hid.of hsl
  have HTL := Hid.of htl
  obtain ⟨sa, sc, rfl, -⟩ := hsl
  obtain ⟨ta, tc, rfl, -⟩ := htl
  obtain ⟨n, hn⟩ : ∃ n, p.1 = n := ⟨_, rfl⟩
  obtain ⟨m, hm'⟩ : ∃ m, q.1 = m := ⟨_, rfl⟩
  obtain ⟨N, hN⟩ : ∃ N, p.2.length = N := ⟨_, rfl⟩
  obtain ⟨M, hM⟩ : ∃ M, q.2.length = M := ⟨_, rfl⟩
  rw [hn, hm', hN, hM]
  rw [hN] at HSL
  have HSK : Hid (CapOk (.slice sa N sc)) := Hid.of (by rw [← hN]; exact hsk)
  clear hsk
  rw [hM] at HTL
  have HTK : Hid (CapOk (.slice ta M tc)) := Hid.of (by rw [← hM]; exact htk)
  clear htk
  obtain ⟨w1, hw1⟩ : ∃ w1, (w.alloc (.cells #[.string n, .slice sa N sc] 24)).alloc (.cells #[.string m, .slice ta M tc] 24) = w1 := ⟨_, rfl⟩
  have b1 : Below w.heap.size w w1 := by rw [← hw1]; exact ((Below.refl _ _).alloc (Nat.le_refl _) _).alloc (by simp) _
  have K1 : Hid (PBlk w1 w.heap.size n (.slice sa N sc)) := Hid.of (by rw [← hw1]; exact (PBlk.made w _ _).kept ((Below.refl _ _).alloc (Nat.le_refl _) _))
  have K2 : Hid (PBlk w1 (w.heap.size + 1) m (.slice ta M tc)) := Hid.of (by rw [← hw1]; have := PBlk.made (w.alloc (.cells #[.string n, .slice sa N sc] 24)) m (.slice ta M tc); simpa using this)
  have HW := Hid.of hw1
  have B1 := Hid.of b1
  have HN := Hid.of hN
  have HM := Hid.of hM
  have Hn := Hid.of hn
  have Hm := Hid.of hm'
  have HS := Hid.of hS
  have O1 := Hid.of (S.kept hS b1)
  have HP := Hid.of hp
  have HQ := Hid.of hq
  have R1 : Hid (PolRow w1 (polVal n (.slice sa N sc)) p) := Hid.of ⟨_, by rw [hn], by rw [hN]; exact HSL.out.kept b1, HSK.out⟩
  have R2 : Hid (PolRow w1 (polVal m (.slice ta M tc)) q) := Hid.of ⟨_, by rw [hm'], by rw [hM]; exact HTL.out.kept b1, HTK.out⟩
  have QR1 : Hid (PolRow w (polVal n (.slice sa N sc)) p) := Hid.of ⟨_, by rw [hn], by rw [hN]; exact HSL.out, HSK.out⟩
  have QR2 : Hid (PolRow w (polVal m (.slice ta M tc)) q) := Hid.of ⟨_, by rw [hm'], by rw [hM]; exact HTL.out, HTK.out⟩
  have SZ1 : Hid (w1.heap.size = w.heap.size + 2) := Hid.of (by rw [← hw1]; simp)
  clear hw1 b1 hN hM hn hm' hS hp hq HSL HTL
  go_enter Tryd.func7, Tryd.ntmps7
  go_wp2_with fail
  rw [HW.out]
  clear HW
  refine (Small_any _ p _ R1.out).mono ?_
  rintro e w2 ⟨r, rfl, hr, b2⟩
  have K1' := Hid.of (K1.out.kept b2)
  have K2' := Hid.of (K2.out.kept b2)
  have R1' := Hid.of (R1.out.kept b2)
  have R2' := Hid.of (R2.out.kept b2)
  have B2 := Hid.of (B1.out.trans (b2.mono B1.out.size))
  have O2 := Hid.of (S.kept O1.out b2)
  have SZ2 : Hid (w.heap.size + 2 ≤ w2.heap.size) := Hid.of (by rw [← SZ1.out]; exact b2.size)
  clear b2 K1 K2 R1 R2 B1 O1
  cases r with
  | false =>
    go_wp2_with fail
    refine (polAlive_any S _ O2.out).mono ?_
    rintro e w3 ⟨rfl, b3⟩
    go_wp2
    go_ret
    exact ⟨rfl, B2.out.trans (b3.mono B2.out.size)⟩
  | true =>
    have SP := Hid.of (fit_of HP.out (hr.out rfl))
    clear hr
    obtain ⟨d0, d1⟩ := K2'.out.at
    go_wp2_with fail
    clear d0 d1
    refine (Small_any _ q _ R2'.out).mono ?_
    rintro e w3 ⟨r, rfl, hr, b3⟩
    have K1 := Hid.of (K1'.out.kept b3)
    have K2 := Hid.of (K2'.out.kept b3)
    have R1 := Hid.of (R1'.out.kept b3)
    have R2 := Hid.of (R2'.out.kept b3)
    have B3 := Hid.of (B2.out.trans (b3.mono B2.out.size))
    have O3 := Hid.of (S.kept O2.out b3)
    have SZ3 : Hid (w.heap.size + 2 ≤ w3.heap.size) := Hid.of (Nat.le_trans SZ2.out b3.size)
    clear b3 K1' K2' R1' R2' B2 O2
    cases r with
    | false =>
      go_wp2_with fail
      refine (polAlive_any S _ O3.out).mono ?_
      rintro e w4 ⟨rfl, b4⟩
      go_wp2
      go_ret
      exact ⟨rfl, B3.out.trans (b4.mono B3.out.size)⟩
    | true =>
      have SQ := Hid.of (fit_of HQ.out (hr.out rfl))
      clear hr
      obtain ⟨d0, d1⟩ := K1.out.at
      go_wp2_with fail
      clear d0 d1
      refine (S.copy _ p _ O3.out SP.out R1.out).mono ?_
      rintro e w4 ⟨cv, rfl, oc, b4⟩
      obtain ⟨cl, rfl, oc⟩ := oc
      obtain ⟨ca, cc, rfl, -⟩ := own_one oc
      rw [Hn.out, HN.out]
      obtain ⟨w5, hw5⟩ : ∃ w5, w4.alloc (.cells #[.string n, .slice ca N cc] 24) = w5 := ⟨_, rfl⟩
      have b5 : Below w4.heap.size w4 w5 := by rw [← hw5]; exact (Below.refl _ _).alloc (Nat.le_refl _) _
      have OC := Hid.of ((Step.of_below (F := fun _ => False) b5).own oc (fun _ _ h => h))
      have K1' := Hid.of ((K1.out.kept b4).kept b5)
      have K2' := Hid.of ((K2.out.kept b4).kept b5)
      have K3 : Hid (PBlk w5 w4.heap.size n (.slice ca N cc)) := Hid.of (by rw [← hw5]; exact PBlk.made w4 _ _)
      have R1' := Hid.of ((R1.out.kept b4).kept b5)
      have R2' := Hid.of ((R2.out.kept b4).kept b5)
      have B4 := B3.out.trans (b4.mono B3.out.size)
      have B5 := Hid.of (B4.trans (b5.mono B4.size))
      have O5 := Hid.of (S.kept (S.kept O3.out b4) b5)
      have HW5 := Hid.of hw5
      have OFF : Hid (w.heap.size ≤ w.heap.size ∧ w.heap.size < w3.heap.size ∧ w.heap.size + 1 < w3.heap.size ∧ w.heap.size ≤ w3.heap.size ∧ ∀ g, (Value.slice ca N cc).ownBlock = some g → g ≠ w4.heap.size) := Hid.of ⟨Nat.le_refl _, by have := SZ3.out; omega, by have := SZ3.out; omega, by have := SZ3.out; omega, fun g hg c => by rw [HN.out] at oc; have := (oc.lt g hg).2; omega⟩
      clear b4 b5 B4 K1 K2 R1 R2 B3 O3 oc hw5
      have LT : Hid (w3.heap.size ≤ w3.heap.size) := Hid.of (Nat.le_refl _)
      have H5 : Hid (SH S w w3.heap.size w.heap.size (w.heap.size + 1) w4.heap.size n m (.slice sa N sc) (.slice ta M tc) (.slice ca N cc) p q p w5) := Hid.of ⟨K1'.out, K2'.out, K3.out, QR1.out, QR2.out, by have h := OC.out; rw [HN.out] at h ⊢; exact h, Hn.out, HS.out, B5.out, OFF.out⟩
      have PQ : Hid (decide (q = p) = decide (p = q)) := Hid.of (by by_cases h : p = q <;> simp [h, eq_comm])
      obtain ⟨t, ht⟩ : ∃ t, decide (p = q) = t := ⟨_, rfl⟩
      have PT := Hid.of ht
      clear ht
      go_upto_region 4 with fail
      rw [HW5.out]
      clear HW5 K1' K2' K3 R1' R2' OC O5 B5 LT OFF
      generalize w3.heap.size = B4 at *
      generalize w4.heap.size = a7 at *
      go_cut [37] (fun t wx => t = .bool false ∧ Hid (SH S w B4 w.heap.size (w.heap.size + 1) a7 n m (.slice sa N sc) (.slice ta M tc) (.slice ca N cc) p q p wx))
      case first =>
        obtain ⟨c0, c1, c2, c3, c4, c5⟩ := H5.out.at
        refine wp_region_noPanic ?_
        refine wp_region_held_drew (S := fun w' => w'.cell? ⟨w.heap.size, 0, none⟩ = some (.string n) ∧ w'.cell? ⟨w.heap.size, 1, none⟩ = some (.slice sa N sc) ∧ w'.cell? ⟨w.heap.size + 1, 0, none⟩ = some (.string m) ∧ w'.cell? ⟨w.heap.size + 1, 1, none⟩ = some (.slice ta M tc) ∧ w'.cell? ⟨a7, 0, none⟩ = some (.string n) ∧ w'.cell? ⟨a7, 1, none⟩ = some (.slice ca N cc)) (by kernel_rfl) ?_ (fun hHeld => ?_)
        · exact ⟨c0, c1, c2, c3, c4, c5⟩
        refine wpAnyH_take (i := 0) (oi := ⟨_, _, _, _, _, _⟩) (v := ?_) rfl (by kernel_rfl) (by kernel_rfl) (by kernel_rfl) (fun _ _ _ h => h) (Or.inl ⟨by rfl, ?_⟩) hHeld ?_
        rotate_left
        · intro w' hSw
          try dsimp only at hSw
          go_simp
          all_goals with_reducible rfl
        simp only [Act.put, List.setIfInBounds_toArray, List.set_cons_zero, List.set_cons_succ]
        refine wpAnyH_take (i := 1) (oi := ⟨_, _, _, _, _, _⟩) (v := ?_) rfl (by kernel_rfl) (by kernel_rfl) (by kernel_rfl) (fun _ _ _ h => h) (Or.inl ⟨by rfl, ?_⟩) hHeld ?_
        rotate_left
        · intro w' hSw
          try dsimp only at hSw
          go_simp
          all_goals with_reducible rfl
        simp only [Act.put, List.setIfInBounds_toArray, List.set_cons_zero, List.set_cons_succ]
        refine wpAnyH_ready (rs := [2]) (by kernel_rfl) (by simp) ?_
        refine AllReadyH.cons (o := ⟨_, _, _, _, _, _⟩) rfl (fun K hK => ?_) AllReadyH.nil
        go_simp
        refine (S.same _ _ p p _ (H5.out.next (Below.refl _ _).drew).ok SP.out SP.out (H5.out.next (Below.refl _ _).drew).r3 (H5.out.next (Below.refl _ _).drew).r7).mono ?_
        rintro e w6 ⟨rfl, b6⟩
        have H6 := Hid.of (H5.out.next ((Below.refl _ _).drew.trans b6))
        clear b6 c0 c1 c2 c3 c4 c5 hHeld
        obtain ⟨c0, c1, c2, c3, c4, c5⟩ := H6.out.at
        refine hK.out _ _ ⟨c0, c1, c2, c3, c4, c5⟩ (fun hHeld => ?_)
        clear hK K
        refine wpAnyH_take (i := 3) (oi := ⟨_, _, _, _, _, _⟩) (v := ?_) rfl (by kernel_rfl) (by kernel_rfl) (by kernel_rfl) (fun _ _ _ h => h) (Or.inl ⟨by rfl, ?_⟩) hHeld ?_
        rotate_left
        · intro w' hSw
          try dsimp only at hSw
          go_simp
          all_goals with_reducible rfl
        simp only [Act.put, List.setIfInBounds_toArray, List.set_cons_zero, List.set_cons_succ]
        refine wpAnyH_take (i := 4) (oi := ⟨_, _, _, _, _, _⟩) (v := ?_) rfl (by kernel_rfl) (by kernel_rfl) (by kernel_rfl) (fun _ _ _ h => h) (Or.inl ⟨by rfl, ?_⟩) hHeld ?_
        rotate_left
        · intro w' hSw
          try dsimp only at hSw
          go_simp
          all_goals with_reducible rfl
        simp only [Act.put, List.setIfInBounds_toArray, List.set_cons_zero, List.set_cons_succ]
        refine wpAnyH_take (i := 5) (oi := ⟨_, _, _, _, _, _⟩) (v := ?_) rfl (by kernel_rfl) (by kernel_rfl) (by kernel_rfl) (fun _ _ _ h => h) (Or.inl ⟨by rfl, ?_⟩) hHeld ?_
        rotate_left
        · intro w' hSw
          try dsimp only at hSw
          go_simp
          all_goals with_reducible rfl
        simp only [Act.put, List.setIfInBounds_toArray, List.set_cons_zero, List.set_cons_succ]
        refine wpAnyH_take (i := 6) (oi := ⟨_, _, _, _, _, _⟩) (v := ?_) rfl (by kernel_rfl) (by kernel_rfl) (by kernel_rfl) (fun _ _ _ h => h) (Or.inl ⟨by rfl, ?_⟩) hHeld ?_
        rotate_left
        · intro w' hSw
          try dsimp only at hSw
          go_simp
          all_goals with_reducible rfl
        simp only [Act.put, List.setIfInBounds_toArray, List.set_cons_zero, List.set_cons_succ]
        refine wpAnyH_take (i := 8) (oi := ⟨_, _, _, _, _, _⟩) (v := ?_) rfl (by kernel_rfl) (by kernel_rfl) (by kernel_rfl) (fun _ _ _ h => h) (Or.inl ⟨by rfl, ?_⟩) hHeld ?_
        rotate_left
        · intro w' hSw
          try dsimp only at hSw
          go_simp
          all_goals with_reducible rfl
        simp only [Act.put, List.setIfInBounds_toArray, List.set_cons_zero, List.set_cons_succ]
        refine wpAnyH_take (i := 9) (oi := ⟨_, _, _, _, _, _⟩) (v := ?_) rfl (by kernel_rfl) (by kernel_rfl) (by kernel_rfl) (fun _ _ _ h => h) (Or.inl ⟨by rfl, ?_⟩) hHeld ?_
        rotate_left
        · intro w' hSw
          try dsimp only at hSw
          go_simp
          all_goals with_reducible rfl
        simp only [Act.put, List.setIfInBounds_toArray, List.set_cons_zero, List.set_cons_succ]
        refine wpAnyH_ready (rs := [7]) (by kernel_rfl) (by simp) ?_
        refine AllReadyH.cons (o := ⟨_, _, _, _, _, _⟩) rfl (fun K hK => ?_) AllReadyH.nil
        go_simp
        refine (S.same _ _ p q _ H6.out.ok SP.out SQ.out H6.out.r3 H6.out.r4).mono ?_
        rintro e w7 ⟨he, b7⟩
        rw [PT.out] at he
        subst he
        have H7 := Hid.of (H6.out.next b7)
        clear b7 c0 c1 c2 c3 c4 c5 hHeld
        obtain ⟨c0, c1, c2, c3, c4, c5⟩ := H7.out.at
        refine hK.out _ _ ⟨c0, c1, c2, c3, c4, c5⟩ (fun hHeld => ?_)
        clear hK K
        refine wpAnyH_ready (rs := [10]) (by kernel_rfl) (by simp) ?_
        refine AllReadyH.cons (o := ⟨_, _, _, _, _, _⟩) rfl (fun K hK => ?_) AllReadyH.nil
        go_simp
        refine (S.same _ _ q p _ H7.out.ok SQ.out SP.out H7.out.r4 H7.out.r3).mono ?_
        rintro e w8 ⟨he, b8⟩
        rw [PQ.out, PT.out] at he
        subst he
        have H8 := Hid.of (H7.out.next b8)
        clear b8 c0 c1 c2 c3 c4 c5 hHeld
        obtain ⟨c0, c1, c2, c3, c4, c5⟩ := H8.out.at
        refine hK.out _ _ ⟨c0, c1, c2, c3, c4, c5⟩ (fun hHeld => ?_)
        clear hK K
        refine wpAnyH_take (i := 11) (oi := ⟨_, _, _, _, _, _⟩) (v := ?_) rfl (by kernel_rfl) (by kernel_rfl) (by kernel_rfl) (fun _ _ _ h => h) (Or.inl ⟨by rfl, ?_⟩) hHeld ?_
        rotate_left
        · intro w' hSw
          try dsimp only at hSw
          go_simp
          all_goals with_reducible rfl
        simp only [Act.put, List.setIfInBounds_toArray, List.set_cons_zero, List.set_cons_succ]
        refine wpAnyH_take (i := 12) (oi := ⟨_, _, _, _, _, _⟩) (v := ?_) rfl (by kernel_rfl) (by kernel_rfl) (by kernel_rfl) (fun _ _ _ h => h) (Or.inl ⟨by rfl, ?_⟩) hHeld ?_
        rotate_left
        · intro w' hSw
          try dsimp only at hSw
          go_simp
          all_goals with_reducible rfl
        simp only [Act.put, List.setIfInBounds_toArray, List.set_cons_zero, List.set_cons_succ]
        refine wpAnyH_take (i := 13) (oi := ⟨_, _, _, _, _, _⟩) (v := ?_) rfl (by kernel_rfl) (by kernel_rfl) (by kernel_rfl) (fun _ _ _ h => h) (Or.inl ⟨by rfl, ?_⟩) hHeld ?_
        rotate_left
        · intro w' hSw
          try dsimp only at hSw
          go_simp
          all_goals with_reducible rfl
        simp only [Act.put, List.setIfInBounds_toArray, List.set_cons_zero, List.set_cons_succ]
        refine wpAnyH_take (i := 14) (oi := ⟨_, _, _, _, _, _⟩) (v := ?_) rfl (by kernel_rfl) (by kernel_rfl) (by kernel_rfl) (fun _ _ _ h => h) (Or.inl ⟨by rfl, ?_⟩) hHeld ?_
        rotate_left
        · intro w' hSw
          try dsimp only at hSw
          go_simp
          all_goals with_reducible rfl
        simp only [Act.put, List.setIfInBounds_toArray, List.set_cons_zero, List.set_cons_succ]
        refine wpAnyH_take (i := 15) (oi := ⟨_, _, _, _, _, _⟩) (v := ?_) rfl (by kernel_rfl) (by kernel_rfl) (by kernel_rfl) (fun _ _ _ h => h) (Or.inl ⟨by rfl, ?_⟩) hHeld ?_
        rotate_left
        · intro w' hSw
          try dsimp only at hSw
          go_simp
          all_goals with_reducible rfl
        simp only [Act.put, List.setIfInBounds_toArray, List.set_cons_zero, List.set_cons_succ]
        refine wpAnyH_ready (rs := [16]) (by kernel_rfl) (by simp) ?_
        refine AllReadyH.cons (o := ⟨_, _, _, _, _, _⟩) rfl (fun K hK => ?_) AllReadyH.nil
        go_simp
        refine (S.same _ _ p p _ H8.out.ok SP.out SP.out H8.out.r3 H8.out.r3).mono ?_
        rintro e w9 ⟨he, b9⟩
        rw [decide_eq_true (rfl : p = p)] at he
        subst he
        have H9 := Hid.of (H8.out.next b9)
        clear b9 c0 c1 c2 c3 c4 c5 hHeld
        obtain ⟨c0, c1, c2, c3, c4, c5⟩ := H9.out.at
        refine hK.out _ _ ⟨c0, c1, c2, c3, c4, c5⟩ (fun hHeld => ?_)
        clear hK K
        refine wpAnyH_take (i := 17) (oi := ⟨_, _, _, _, _, _⟩) (v := ?_) rfl (by kernel_rfl) (by kernel_rfl) (by kernel_rfl) (fun _ _ _ h => h) (Or.inl ⟨by rfl, ?_⟩) hHeld ?_
        rotate_left
        · intro w' hSw
          try dsimp only at hSw
          go_simp
          all_goals with_reducible rfl
        simp only [Act.put, List.setIfInBounds_toArray, List.set_cons_zero, List.set_cons_succ]
        refine wpAnyH_take (i := 18) (oi := ⟨_, _, _, _, _, _⟩) (v := ?_) rfl (by kernel_rfl) (by kernel_rfl) (by kernel_rfl) (fun _ _ _ h => h) (Or.inl ⟨by rfl, ?_⟩) hHeld ?_
        rotate_left
        · intro w' hSw
          try dsimp only at hSw
          go_simp
          all_goals with_reducible rfl
        simp only [Act.put, List.setIfInBounds_toArray, List.set_cons_zero, List.set_cons_succ]
        refine wpAnyH_done (by kernel_rfl) ?_ _
        refine NoPanic.normal ?_
        go_wp2_with fail
        go_meet
        exact ⟨by simp, H9⟩
      case rest =>
        obtain ⟨rfl, H⟩ := hcut
        clear H5
        obtain ⟨c0, c1, c2, c3, c4, c5⟩ := H.out.at
        by_cases k0 : k < 0
        · go_wp2_with fail
          refine (polAlive_any S _ H.out.ok).mono ?_
          rintro e wz ⟨rfl, bz⟩
          go_wp2
          go_ret
          exact ⟨rfl, H.out.fr.trans (bz.mono H.out.fr.size)⟩
        · by_cases k1 : (N : Int) ≤ k
          · go_wp2_with fail
            refine (polAlive_any S _ H.out.ok).mono ?_
            rintro e wz ⟨rfl, bz⟩
            go_wp2
            go_ret
            exact ⟨rfl, H.out.fr.trans (bz.mono H.out.fr.size)⟩
          · obtain ⟨j, rfl⟩ : ∃ j : Nat, k = j := ⟨k.toNat, by omega⟩
            have j0 : (0 : Int) ≤ (j : Int) := Int.natCast_nonneg _
            have j1 : j < p.2.length := by rw [HN.out]; omega
            have j2 : (j : Int) < (N : Int) := by omega
            obtain ⟨g, rfl⟩ : ∃ g, ca = some ⟨g, 0, none⟩ := by
              rcases H.out.o7.2 with ⟨h1, h2⟩ | ⟨g, cap, cur, h1, _⟩
              · omega
              · cases h1
                exact ⟨g, rfl⟩
            obtain ⟨xt, hxt⟩ : ∃ xt, p.2[j]? = some xt := ⟨_, List.getElem?_eq_getElem j1⟩
            have hcell : wc.cell? ⟨g, j * 4 + 2, none⟩ = some (.int .i64 xt.2.2.1) := by
              have ho := H.out.o7
              rw [← HN.out] at ho
              rw [ho.cellAt (j * 4 + 2) (show j * 4 + 2 < p.2.length * 4 by omega), flat_at penc_len p.2 j xt hxt 2 (by decide)]
              rfl
            have hfz : wc.frozen? ⟨g, j * 4 + 2, none⟩ = false := by
              rcases H.out.o7.2 with ⟨h1, h2⟩ | ⟨g', cap, cur, h1, hB', hrow, _⟩
              · omega
              · cases h1
                exact row_frozen hrow
            obtain ⟨tn, te, tk, ts⟩ := xt
            have TIn := SP.out.2.2 (tn, te, tk, ts) (List.mem_of_getElem? hxt)
            obtain ⟨tw, ti⟩ := turned tk
            have H2 : Hid (SH S w B4 w.heap.size (w.heap.size + 1) a7 n m (.slice sa N sc) (.slice ta M tc) (.slice (some ⟨g, 0, none⟩) N cc) p q (p.1, p.2.set j (tn, te, bits .xor .i64 tk 1, ts)) (wc.setCell ⟨g, j * 4 + 2, none⟩ (.int .i64 (bits .xor .i64 tk 1)))) := Hid.of
              (H.out.put rfl (by simp) (tier_keep hxt _) HN.out.symm)
            have NE : Hid (decide (p = (p.1, p.2.set j (tn, te, bits .xor .i64 tk 1, ts))) = false ∧ decide ((p.1, p.2.set j (tn, te, bits .xor .i64 tk 1, ts)) = p) = false) := Hid.of (by
              have h : ¬ p.2 = p.2.set j (tn, te, bits .xor .i64 tk 1, ts) := fun e => by
                have e2 := congrArg (fun l : List TierL => l[j]?) e
                simp only [hxt, List.getElem?_set_self j1] at e2
                simp only [Option.some.injEq, Prod.mk.injEq, true_and, and_true] at e2
                exact tw e2.symm
              exact ⟨decide_eq_false (fun e => h (congrArg Prod.snd e)), decide_eq_false (fun e => h (congrArg Prod.snd e).symm)⟩)
            have FC : Hid (PFit (p.1, p.2.set j (tn, te, bits .xor .i64 tk 1, ts))) := Hid.of (by
              refine ⟨by simpa using SP.out.1, SP.out.2.1, fun x hx => ?_⟩
              rcases List.mem_or_eq_of_mem_set hx with hx | rfl
              · exact SP.out.2.2 x hx
              · exact ⟨TIn.1, TIn.2.1, ti, TIn.2.2.2⟩)
            clear H TIn tw hxt ti
            go_wp2_with fail
            refine (polAlive_any S _ H2.out.ok).mono ?_
            rintro e we ⟨rfl, be⟩
            have H3 := Hid.of (H2.out.next be)
            clear be H2
            obtain ⟨d0, d1, d2, d3, d4, d5⟩ := H3.out.at
            go_wp2_with fail
            refine (S.same _ _ p _ _ H3.out.ok SP.out FC.out H3.out.r3 H3.out.r7).mono ?_
            rintro e wf ⟨rfl, bf⟩
            rw [NE.out.1]
            have H4 := Hid.of (H3.out.next bf)
            clear bf H3 d0 d1 d2 d3 d4 d5
            obtain ⟨d0, d1, d2, d3, d4, d5⟩ := H4.out.at
            go_wp2_with fail
            refine (S.same _ _ _ p _ H4.out.ok FC.out SP.out H4.out.r7 H4.out.r3).mono ?_
            rintro e wg ⟨rfl, bg⟩
            rw [NE.out.2]
            go_wp2
            go_ret
            exact ⟨rfl, H4.out.fr.trans (bg.mono H4.out.fr.size)⟩

end Go.Proofs.YtadepjpmpjipmaaDoor
