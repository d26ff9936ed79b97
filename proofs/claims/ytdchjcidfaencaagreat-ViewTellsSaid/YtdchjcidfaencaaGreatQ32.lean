/-
  A bundle of texts: IOP ISM ILT IVW.
-/
import Derived.Deep.QuietTactic
import Derived.BigQuiet
import Derived.Test.YtdchjcidfaencaaGreatQ25
import Derived.Test.YtdchjcidfaencaaGreatQ21
import Derived.Test.YtdchjcidfaencaaGreatQ30
import Derived.Test.YtdchjcidfaencaaGreatQ27
import Derived.Test.YtdchjcidfaencaaGreatQ26
import Derived.Test.YtdchjcidfaencaaGreatQ31
namespace Go.Proofs.YtdchjcidfaencaaGreat
open Go.RowKit Go.Lib

theorem sam_leaves : leaves Tryz.prog 2 76 = some [9, 3, 3] := by kernel_rfl
theorem sam_size : Tryz.prog.cellsOf 76 = 3 := by kernel_rfl

theorem sams_of_trod {H : Type} {enc : TypeId × Value → H} {W : World} {sp : Nat → Bool} {a : Option Addr} {len cap : Nat} {d : DataW H} {ps : List MemPlace} (h : DataW.Trod enc Tryz.prog W 0 sp true 26 (.slice a len cap) d ps) :
    ∃ ss : List SamL, ss.length = len ∧ CellRow W (.slice a len cap) ss.length (flat aenc ss) ∧ ss.length ≤ cap ∧ ∀ s ∈ ss, SFit s := by
  have hc := cap_of_trod Tryz.underlying26 h
  obtain ⟨l, hl, hr, hi⟩ : ∃ l : List SamL, l.length = len ∧ CellRow W (.slice a len cap) len (flat aenc l) ∧ ∀ x ∈ l, SFit x :=
    rows_of_trod Tryz.underlying26 sam_size (by decide) aenc_len SFit (⟨#[]⟩, 0, 0) (fun fuel cs x hl hx => by
      have hF := leaf_at 2 _ _ cs fuel x sam_leaves (by rw [sam_size]; omega) hx
      obtain ⟨n0, c0, w0⟩ := leaf_string Tryz.underlying9 (hF 0 _ rfl)
      obtain ⟨n1, c1, w1⟩ := leaf_int Tryz.underlying3 (hF 1 _ rfl)
      obtain ⟨n2, c2, w2⟩ := leaf_int Tryz.underlying3 (hF 2 _ rfl)
      refine ⟨(n0, n1, n2), ?_, w0, tin64_of n1 w1, tin64_of n2 w2⟩
      match cs, hl with
      | [x0, x1, x2], _ =>
        simp at c0 c1 c2
        subst c0 c1 c2
        rfl) h
  exact ⟨l, hl, by rw [hl]; exact hr, by rw [hl]; exact hc, hi⟩

/-- Few samples, short names. -/
def SFew (k : Nat) (l : List SamL) : Prop := l.length ≤ k ∧ ∀ x ∈ l, x.1.size ≤ 60

end Go.Proofs.YtdchjcidfaencaaGreat

namespace Go.Proofs.YtdchjcidfaencaaGreat
open Go.RowKit Go.Lib

set_option maxRecDepth 20000 in
set_option maxHeartbeats 800000 in
theorem Some_any (k : Nat) (v : Value) (l : List SamL) (w : World) (hv : CellRow w v l.length (flat aenc l)) (hk : k ≤ 1000) :
    Calls Tryz.prog 5 #[.int .i64 k, v] w fun e w' => ∃ r : Bool, e = .returned (.bool r) ∧ Hid (r = true → SFew k l) ∧ Below w.heap.size w w' := by
  have HV := Hid.of hv
  obtain ⟨sa, sc, rfl, -⟩ := hv
  go_enter Tryz.func5, Tryz.ntmps5
  go_wp2
  go_loopw [5] (fun i wr => ∃ j : Nat, j ≤ l.length ∧ j ≤ k ∧ i = .int .i64 j ∧ Hid (∀ x ∈ l.take j, x.1.size ≤ 60) ∧ Below w.heap.size w wr) (fun i _ => k - (RowKit.intOf i).toNat)
  case atStart => exact ⟨0, Nat.zero_le _, Nat.zero_le _, rfl, Hid.of (by simp), Below.refl _ _⟩
  case round =>
    obtain ⟨j, hj, hjk, rfl, A, hb⟩ := hrel
    have i0 : (0 : Int) ≤ (j : Int) := Int.natCast_nonneg _
    by_cases hlt : j < l.length
    · have i1 : (j : Int) < (l.length : Int) := by omega
      by_cases h12 : j < k
      · have i2 : (j : Int) < (k : Int) := by omega
        obtain ⟨b1, o1, rfl, hl1, hc1⟩ := a_at HV.out j l[j] (by simp [hlt])
        obtain ⟨x, hx⟩ : ∃ x, l[j] = x := ⟨_, rfl⟩
        rw [hx] at hc1
        obtain ⟨d0, -⟩ := hc1
        rw [← hb.cell hl1] at d0
        have HX := Hid.of hx
        have j9 : (j : Int) ≤ 1000 := by omega
        by_cases h60 : x.1.size ≤ 60
        · have i3 : ¬ (60 : Int) < (x.1.size : Int) := by omega
          clear hx
          go_wp2
          go_roundw
          case rel =>
            refine ⟨j + 1, by omega, by omega, by go_num, Hid.of ?_, hb⟩
            intro y hy
            rw [List.take_succ_eq_append_getElem hlt, List.mem_append, List.mem_singleton, HX.out] at hy
            rcases hy with hy | rfl
            · exact A.out y hy
            · exact h60
          case measure => simp [RowKit.intOf]; omega
        · have i3 : (60 : Int) < (x.1.size : Int) := by omega
          clear hx
          go_wp2
          go_ret
          exact ⟨false, rfl, Hid.of (fun h => by cases h), hb⟩
      · have i2 : ¬ (j : Int) < (k : Int) := by omega
        have i3 : ¬ (l.length : Int) ≤ (k : Int) := by omega
        go_wp2
        go_ret
        exact .inl ⟨rfl, Hid.of trivial, hb⟩
    · have i1 : ¬ (j : Int) < (l.length : Int) := by omega
      have hjl : j = l.length := by omega
      have i3 : (l.length : Int) ≤ (k : Int) := by omega
      go_wp2
      go_ret
      refine .inr ⟨rfl, Hid.of ⟨by omega, fun x hx => ?_⟩, hb⟩
      have := A.out x
      rw [hjl, List.take_length] at this
      exact this hx

end Go.Proofs.YtdchjcidfaencaaGreat

namespace Go.Proofs.YtdchjcidfaencaaGreat
open Go.RowKit Go.Lib

theorem take_next {α : Type} {l : List α} {k : Nat} {x : α} (h : l[k]? = some x) : l.take (k + 1) = l.take k ++ [x] := by
  obtain ⟨hk, hx⟩ := List.getElem?_eq_some_iff.1 h
  rw [List.take_succ_eq_append_getElem hk, hx]

end Go.Proofs.YtdchjcidfaencaaGreat

namespace Go.Proofs.YtdchjcidfaencaaGreat
open Go.RowKit Go.Lib

/-- A view's records are such as may stand in a table. -/
theorem view_s {r : RchL} {i : Nat} {y : TierL} (hy : r.2.1.2[i]? = some y) (he : 1 ≤ y.2.1) {s : SamL} (hs : SFit s) (hm : iMay s = true) : TFit (iRec r i s) := by
  have h0 : 0 ≤ s.2.1 := by
    unfold iMay at hm
    rw [Bool.and_eq_true] at hm
    exact of_decide_eq_true hm.2
  refine ⟨hs.1, ?_, (agOf_good (fun x hx => by rw [List.mem_singleton.1 hx]; exact hs.2.2)).1⟩
  have e : (rStart r (i : Int) s.2.1).1 = gFloor s.2.1 y.2.1 := by
    unfold rStart
    rw [if_neg (by omega), show ((i : Int).toNat) = i by omega, hy]
  show TIn64 (rStart r (i : Int) s.2.1).1
  rw [e]
  have f1 := gFloor_plain0 h0 he
  have f2 := gPast_bounds s.2.1 he
  have f3 : gPast s.2.1 y.2.1 ≤ s.2.1 := past_le he h0
  have f4 := hs.2.1
  unfold TIn64 at *
  omega
theorem iView_ok {r : RchL} {i : Nat} {y : TierL} (hy : r.2.1.2[i]? = some y) (he : 1 ≤ y.2.1) {ss : List SamL} (fs : ∀ s ∈ ss, SFit s) : (∀ z ∈ iView r i ss, TFit z ∧ agOk z.a = true) ∧ (iView r i ss).length ≤ ss.length := by
  have hr : ∀ x ∈ iRecs r i (ss.filter iMay), TFit x := fun x hx => by
    obtain ⟨s, hs, rfl⟩ := List.mem_map.1 hx
    have h1 := List.mem_filter.1 (List.mem_filter.1 hs).1
    exact view_s hy he (fs s h1.1) h1.2
  have m : TMade [] (tEv r i) := ⟨sorted_nil, all_nil, fun _ hx => absurd hx List.not_mem_nil, fun _ hx => absurd hx List.not_mem_nil⟩
  refine ⟨fun z hz => ?_, ?_⟩
  · have a := tAdds_all (e := tEv r i) all_nil (fun x hx => (hr x hx).2.2) z hz
    have k := tAdds_s (Q := fun s => TIn64 s) (l := []) (fun _ h => absurd h List.not_mem_nil) (fun x hx => (hr x hx).2.1) z hz
    have b := (m.adds hr).name hz
    exact ⟨⟨by have := b.2; unfold maxLen; omega, k, a.2⟩, a.1⟩
  have h1 := tAdds_len (tEv r i) [] (iRecs r i (ss.filter iMay))
  have h2 : (iRecs r i (ss.filter iMay)).length ≤ (ss.filter iMay).length := by unfold iRecs; rw [List.length_map]; exact List.length_filter_le ..
  have h3 := List.length_filter_le iMay ss
  unfold iView
  rw [List.length_nil] at h1
  omega

/-- The table that is filled, its list one's own. -/
def RT2 (w : World) (D q : Nat) (e : Int) (L : List TRec) : Prop := RT w q e L ∧ RTO w D q e L
theorem RT2.next {w w' : World} {D q : Nat} {e : Int} {L : List TRec} (h : RT2 w D q e L) (b : Below w.heap.size w w') : RT2 w' D q e L := ⟨h.1.next b, h.2.next b⟩

set_option maxRecDepth 20000 in
set_option maxHeartbeats 3200000 in
theorem refView_own (now : Int) (n : ByteArray) (s f : Value) (p : PolL) (fl : List Int) (tier : Int) (v : Value) (ss : List SamL) (w : World) (hs : CellRow w s p.2.length (flat penc p.2)) (hf : CellRow w f fl.length (fl.map (Value.int .i64))) (fit : RFit (now, p, fl)) (hc : ∀ t ∈ p.2, 1 ≤ t.2.1) (ht : In64 tier)
    (hv : CellRow w v ss.length (flat aenc ss)) (hl : ss.length ≤ 1000) (fs : ∀ s ∈ ss, SFit s) :
    Calls Tryz.prog 15 #[.agg #[.int .i64 now, .string n, s, f], .int .i64 tier, v] w fun e w' => ∃ u, e = .returned u ∧ w'.ownsRow w.heap.size 61 7 u (if 0 ≤ tier ∧ tier.toNat < p.2.length then iView (now, p, fl) tier.toNat ss else []).length (flat renc ((if 0 ≤ tier ∧ tier.toNat < p.2.length then iView (now, p, fl) tier.toNat ss else []).map rl)) ∧ Below w.heap.size w w' := by
  have H0 := Hid.of (QH.made (now := now) (n := n) hs hf)
  have FIT := Hid.of fit
  have HC := Hid.of hc
  have HV := Hid.of hv
  have FS := Hid.of fs
  obtain ⟨sa, sc, rfl, -⟩ := hs
  obtain ⟨fa, fc, rfl, -⟩ := hf
  obtain ⟨va, vc, rfl, -⟩ := hv
  obtain ⟨N, hN⟩ : ∃ N, p.2.length = N := ⟨_, rfl⟩
  obtain ⟨M, hM⟩ : ∃ M, fl.length = M := ⟨_, rfl⟩
  obtain ⟨Z, hK⟩ : ∃ Z, ss.length = Z := ⟨_, rfl⟩
  have NL := Hid.of hN
  have ML := Hid.of hM
  have KL := Hid.of hK
  have HT := Hid.of ht
  rw [hN, hM] at H0 ⊢
  rw [hK] at HV hl ⊢
  obtain ⟨w1, hw1⟩ : ∃ w1, w.alloc (.cells #[.int .i64 now, .string n, .slice sa N sc, .slice fa M fc] 33) = w1 := ⟨_, rfl⟩
  rw [hw1] at H0
  have HW := Hid.of hw1
  have n9 : (N : Int) ≤ 1000000 := by have := fit.2.1.1; rw [hN] at this; omega
  clear hN hM hK hw1 fit hc ht fs
  by_cases h0 : tier < 0
  · rw [if_neg (by omega)]
    go_enter Tryz.func15, Tryz.ntmps15
    go_wp2
    rw [HW.out]
    go_ret
    exact ⟨.slice none 0 0, rfl, World.ownsRow_nil _ _ _ 7, H0.out.fr⟩
  · obtain ⟨i, rfl⟩ : ∃ i : Nat, tier = i := ⟨tier.toNat, by omega⟩
    have i0 : (0 : Int) ≤ (i : Int) := Int.natCast_nonneg _
    obtain ⟨c0, c1, c2, c3⟩ := H0.out.at
    by_cases h1 : (N : Int) ≤ (i : Int)
    · rw [if_neg (by omega)]
      go_enter Tryz.func15, Tryz.ntmps15
      go_upto_region 1 with fail
      rw [HW.out]
      go_wp2
      go_ret
      exact ⟨.slice none 0 0, rfl, World.ownsRow_nil _ _ _ 7, H0.out.fr⟩
    · rw [if_pos (by omega)]
      have j2 : (i : Int) < (N : Int) := by omega
      obtain ⟨y, hy⟩ : ∃ y, p.2[i]? = some y := ⟨_, List.getElem?_eq_getElem (by rw [NL.out]; omega)⟩
      have HY := Hid.of hy
      have row := H0.out.hs
      rw [NL.out] at row
      obtain ⟨sb, so, rfl, sl, q0, q1, q2, q3⟩ := p_at row i y hy
      clear hy row sl q0 q2 q3
      go_enter Tryz.func15, Tryz.ntmps15
      go_upto_region 1 with fail
      rw [HW.out]
      clear HW
      go_wp2_with fail
      have HV1 := Hid.of (HV.out.kept H0.out.fr)
      have B1 := Hid.of H0.out.fr
      obtain ⟨q, hq⟩ : ∃ q, w1.heap.size = q := ⟨_, rfl⟩
      obtain ⟨w2, hw2⟩ : ∃ w2, w1.alloc (.cells #[.int .i64 y.2.1, .slice none 0 0] 72) = w2 := ⟨_, rfl⟩
      have b2 : Below w1.heap.size w1 w2 := by rw [← hw2]; exact (Below.refl _ _).alloc (Nat.le_refl _) _
      have r2 : RT2 w2 w1.heap.size q y.2.1 [] := ⟨⟨.slice none 0 0, by rw [← hw2, ← hq]; exact (MapKept.heap_alloc w1 _).1, ⟨_, _, rfl, .inl rfl⟩, Nat.le_refl _, by unfold maxLen; decide⟩, ⟨.slice none 0 0, by rw [← hw2, ← hq]; exact (MapKept.heap_alloc w1 _).1, World.ownsRow_nil _ _ _ 7⟩⟩
      rw [hw2, hq]
      have BB2 := Hid.of b2
      have R2 := Hid.of r2
      have HQ := Hid.of hq
      have EV : Hid (tEv (now, p, fl) i = y.2.1) := Hid.of (by unfold tEv; rw [show ((now, p, fl) : RchL).2.1.2[i]? = some y from HY.out])
      clear hw2 b2 r2 c0 c1 c2 c3 q1 hq
      go_loopg [8] Z (fun kx iv wr => ∃ k : Nat, iv = .int .i64 k ∧ k ≤ Z ∧ Z - k ≤ kx ∧ Hid (RT2 wr w1.heap.size q y.2.1 (iView (now, p, fl) i (ss.take k))) ∧ Hid (Below w1.heap.size w1 wr))
      case atStart => exact ⟨0, rfl, Nat.zero_le _, Nat.le_refl _, R2, BB2⟩
      case round =>
        clear R2 BB2
        obtain ⟨k, rfl, hkK, hkx, HR, HB⟩ := hrel
        have k0 : (0 : Int) ≤ (k : Int) := Int.natCast_nonneg _
        by_cases hlt : (k : Int) < (Z : Int)
        · obtain ⟨x, hx⟩ : ∃ x, ss[k]? = some x := ⟨_, List.getElem?_eq_getElem (by have := KL.out; omega)⟩
          have XX := Hid.of hx
          have FX := Hid.of (FS.out x (List.mem_of_getElem? hx))
          obtain ⟨ab, ao, hva, al, a0, a1, a2⟩ := a_at HV1.out k x hx
          subst hva
          clear hx
          obtain ⟨bn, hbn⟩ : ∃ b, nOk x.1 = b := ⟨_, rfl⟩
          have NB := Hid.of hbn
          clear hbn
          have CSW : Hid (Cs w1 [(⟨ab, ao + k * 3, none⟩, .string x.1), (⟨ab, ao + k * 3 + 1, none⟩, .int .i64 x.2.1), (⟨ab, ao + k * 3 + 2, none⟩, .int .i64 x.2.2)]) := Hid.of (.cons al a0 (.cons al a1 (.cons al a2 (.nil _))))
          have CS0 := Hid.of (CSW.out.next HB.out)
          have V0 : Hid (iView (now, p, fl) i (ss.take (k + 1)) = if iMay x = true ∧ (rStart (now, p, fl) (i : Int) x.2.1).2 = true then tAdd y.2.1 (iView (now, p, fl) i (ss.take k)) ⟨x.1, (rStart (now, p, fl) (i : Int) x.2.1).1, agOne x.2.2⟩ else iView (now, p, fl) i (ss.take k)) := Hid.of (by
            rw [take_next XX.out, iView_next, EV.out, agOf_one FX.out.2.2])
          clear al a0 a1 a2
          go_upto_region 7 with fail
          cases bn
          · have hm : iMay x = false := by unfold iMay; rw [NB.out]; rfl
            have hv9 : iView (now, p, fl) i (ss.take (k + 1)) = iView (now, p, fl) i (ss.take k) := by rw [V0.out, if_neg (fun c => by rw [hm] at c; cases c.1)]
            have V9 := Hid.of hv9
            clear hv9 hm
            have e0 := (CS0.out).head
            have e1 := ((CS0.out).tail).head
            have e2 := (((CS0.out).tail).tail).head
            go_wp2_with fail
            refine (refName_any x.1 FX.out.1 _).mono ?_
            rintro r w7 ⟨rfl, k7, hw7⟩
            have b7 : Below wr.heap.size wr w7 := by rw [hw7]; first | exact below_drewN ((Below.refl _ _).drew) k7 | exact below_drewN (Below.refl _ _) k7
            rw [NB.out]
            have HBB := Hid.of (HB.out.trans (b7.mono HB.out.size))
            have HRB := Hid.of (HR.out.next b7)
            have CS1 := Hid.of (CS0.out.next b7)
            clear hw7 b7 e0 e1 e2
            have e0 := (CS1.out).head
            have e1 := ((CS1.out).tail).head
            have e2 := (((CS1.out).tail).tail).head
            go_wp2_with fail
            go_roundg (Z - (k + 1))
            case measure => omega
            case rel => exact ⟨k + 1, by go_num, by omega, Nat.le_refl _, by rw [V9.out]; exact HRB, HBB⟩
          · by_cases ht0 : x.2.1 < 0
            · have hm : iMay x = false := by unfold iMay; rw [NB.out, decide_eq_false (by omega)]; rfl
              have hv9 : iView (now, p, fl) i (ss.take (k + 1)) = iView (now, p, fl) i (ss.take k) := by rw [V0.out, if_neg (fun c => by rw [hm] at c; cases c.1)]
              have V9 := Hid.of hv9
              clear hv9 hm
              have e0 := (CS0.out).head
              have e1 := ((CS0.out).tail).head
              have e2 := (((CS0.out).tail).tail).head
              go_wp2_with fail
              refine (refName_any x.1 FX.out.1 _).mono ?_
              rintro r w7 ⟨rfl, k7, hw7⟩
              have b7 : Below wr.heap.size wr w7 := by rw [hw7]; first | exact below_drewN ((Below.refl _ _).drew) k7 | exact below_drewN (Below.refl _ _) k7
              rw [NB.out]
              have HBB := Hid.of (HB.out.trans (b7.mono HB.out.size))
              have HRB := Hid.of (HR.out.next b7)
              have CS1 := Hid.of (CS0.out.next b7)
              clear hw7 b7 e0 e1 e2
              have e0 := (CS1.out).head
              have e1 := ((CS1.out).tail).head
              have e2 := (((CS1.out).tail).tail).head
              go_wp2_with fail
              go_roundg (Z - (k + 1))
              case measure => omega
              case rel => exact ⟨k + 1, by go_num, by omega, Nat.le_refl _, by rw [V9.out]; exact HRB, HBB⟩
            · have hm : iMay x = true := by unfold iMay; rw [NB.out, decide_eq_true (show 0 ≤ x.2.1 by omega)]; rfl
              have HM := Hid.of hm
              clear hm
              have e0 := (CS0.out).head
              have e1 := ((CS0.out).tail).head
              have e2 := (((CS0.out).tail).tail).head
              go_wp2_with fail
              refine (refName_any x.1 FX.out.1 _).mono ?_
              rintro r w7 ⟨rfl, k7, hw7⟩
              have b7 : Below wr.heap.size wr w7 := by rw [hw7]; first | exact below_drewN ((Below.refl _ _).drew) k7 | exact below_drewN (Below.refl _ _) k7
              rw [NB.out]
              have HBB := Hid.of (HB.out.trans (b7.mono HB.out.size))
              have HRB := Hid.of (HR.out.next b7)
              have CS1 := Hid.of (CS0.out.next b7)
              clear hw7 b7 e0 e1 e2
              have e0 := (CS1.out).head
              have e1 := ((CS1.out).tail).head
              have e2 := (((CS1.out).tail).tail).head
              have QB := Hid.of (H0.out.next HBB)
              obtain ⟨c0, c1, c2, c3⟩ := QB.out.at
              have hrs := refStart_any now n _ _ p fl (i : Int) x.2.1 w7.drew (QB.out.next (Below.refl _ _).drew).hs (QB.out.next (Below.refl _ _).drew).hf FIT.out HT.out FX.out.2.1
              obtain ⟨sv, hsv⟩ : ∃ z, rStart (now, p, fl) (i : Int) x.2.1 = z := ⟨_, rfl⟩
              have SV := Hid.of hsv
              rw [hsv] at hrs
              clear hsv
              obtain ⟨sv1, sv2⟩ := sv
              go_upto_region 8 with fail
              refine wp_region_noPanic ?_
              refine wp_region_held_drew (S := fun w' => w'.cell? ⟨w.heap.size, 0, none⟩ = some (.int .i64 now) ∧ w'.cell? ⟨w.heap.size, 1, none⟩ = some (.string n) ∧ w'.cell? ⟨w.heap.size, 2, none⟩ = some (.slice (some ⟨sb, so, none⟩) N sc) ∧ w'.cell? ⟨w.heap.size, 3, none⟩ = some (.slice fa M fc) ∧ w'.cell? ⟨ab, ao + k * 3, none⟩ = some (.string x.1) ∧ w'.cell? ⟨ab, ao + k * 3 + 1, none⟩ = some (.int .i64 x.2.1) ∧ w'.cell? ⟨ab, ao + k * 3 + 2, none⟩ = some (.int .i64 x.2.2)) (by kernel_rfl) ?_ (fun hHeld => ?_)
              · exact ⟨c0, c1, c2, c3, e0, e1, e2⟩
              refine wpAnyH_take (i := 0) (oi := ⟨_, _, _, _, _, _⟩) (v := ?_) rfl (by kernel_rfl) (by kernel_rfl) (by kernel_rfl) (fun _ _ _ h => h) (Or.inl ⟨by rfl, ?_⟩) hHeld ?_
              rotate_left
              · intro w' hSw
                try dsimp only at hSw
                go_simp
                all_goals with_reducible rfl
              simp only [Act.put, List.setIfInBounds_toArray, List.set_cons_zero, List.set_cons_succ]
              refine wpAnyH_take (i := 1) (oi := ⟨_, _, _, _, _, _⟩) (v := ?_) rfl (by kernel_rfl) (by kernel_rfl) (by kernel_rfl) (fun _ _ _ h => h) (Or.inl ⟨by rfl, ?_⟩) hHeld ?_
              rotate_left
              · intro w' hSw
                try dsimp only at hSw
                go_simp
                all_goals with_reducible rfl
              simp only [Act.put, List.setIfInBounds_toArray, List.set_cons_zero, List.set_cons_succ]
              refine wpAnyH_take (i := 2) (oi := ⟨_, _, _, _, _, _⟩) (v := ?_) rfl (by kernel_rfl) (by kernel_rfl) (by kernel_rfl) (fun _ _ _ h => h) (Or.inl ⟨by rfl, ?_⟩) hHeld ?_
              rotate_left
              · intro w' hSw
                try dsimp only at hSw
                go_simp
                all_goals with_reducible rfl
              simp only [Act.put, List.setIfInBounds_toArray, List.set_cons_zero, List.set_cons_succ]
              refine wpAnyH_take (i := 3) (oi := ⟨_, _, _, _, _, _⟩) (v := ?_) rfl (by kernel_rfl) (by kernel_rfl) (by kernel_rfl) (fun _ _ _ h => h) (Or.inl ⟨by rfl, ?_⟩) hHeld ?_
              rotate_left
              · intro w' hSw
                try dsimp only at hSw
                go_simp
                all_goals with_reducible rfl
              simp only [Act.put, List.setIfInBounds_toArray, List.set_cons_zero, List.set_cons_succ]
              refine wpAnyH_take (i := 4) (oi := ⟨_, _, _, _, _, _⟩) (v := ?_) rfl (by kernel_rfl) (by kernel_rfl) (by kernel_rfl) (fun _ _ _ h => h) (Or.inl ⟨by rfl, ?_⟩) hHeld ?_
              rotate_left
              · intro w' hSw
                try dsimp only at hSw
                go_simp
                all_goals with_reducible rfl
              simp only [Act.put, List.setIfInBounds_toArray, List.set_cons_zero, List.set_cons_succ]
              refine wpAnyH_take (i := 5) (oi := ⟨_, _, _, _, _, _⟩) (v := ?_) rfl (by kernel_rfl) (by kernel_rfl) (by kernel_rfl) (fun _ _ _ h => h) (Or.inl ⟨by rfl, ?_⟩) hHeld ?_
              rotate_left
              · intro w' hSw
                try dsimp only at hSw
                go_simp
                all_goals with_reducible rfl
              simp only [Act.put, List.setIfInBounds_toArray, List.set_cons_zero, List.set_cons_succ]
              refine wpAnyH_take (i := 6) (oi := ⟨_, _, _, _, _, _⟩) (v := ?_) rfl (by kernel_rfl) (by kernel_rfl) (by kernel_rfl) (fun _ _ _ h => h) (Or.inl ⟨by rfl, ?_⟩) hHeld ?_
              rotate_left
              · intro w' hSw
                try dsimp only at hSw
                go_simp
                all_goals with_reducible rfl
              simp only [Act.put, List.setIfInBounds_toArray, List.set_cons_zero, List.set_cons_succ]
              refine wpAnyH_ready (rs := [7]) (by kernel_rfl) (by simp) ?_
              refine AllReadyH.cons (o := ⟨_, _, _, _, _, _⟩) rfl (fun K hK => ?_) AllReadyH.nil
              go_simp
              refine hrs.mono ?_
              rintro e w8 ⟨rfl, b8⟩
              have b8' : Below w7.heap.size w7 w8 := by first | exact b8 | exact (Below.refl _ _).drew.trans b8
              have HB8 := Hid.of (HBB.out.trans (b8'.mono HBB.out.size))
              have HR8 := Hid.of (HRB.out.next b8')
              have CS8 := Hid.of (CS1.out.next b8')
              have QC := Hid.of (QB.out.next b8')
              clear b8 b8' hrs QB c0 c1 c2 c3 HBB HRB CS1 e0 e1 e2 hHeld
              obtain ⟨c0, c1, c2, c3⟩ := QC.out.at
              have e0 := (CS8.out).head
              have e1 := ((CS8.out).tail).head
              have e2 := (((CS8.out).tail).tail).head
              refine hK.out _ _ ⟨c0, c1, c2, c3, e0, e1, e2⟩ (fun hHeld => ?_)
              clear hK
              try simp only [Act.put, List.setIfInBounds_toArray, List.set_cons_zero, List.set_cons_succ]
              cases sv2
              · have hv9 : iView (now, p, fl) i (ss.take (k + 1)) = iView (now, p, fl) i (ss.take k) := by rw [V0.out, SV.out, if_neg (fun c => by cases c.2)]
                have V9 := Hid.of hv9
                clear hv9
                refine wpAnyH_take (i := 8) (oi := ⟨_, _, _, _, _, _⟩) (v := ?_) rfl (by kernel_rfl) (by kernel_rfl) (by kernel_rfl) (fun _ _ _ h => h) (Or.inl ⟨by rfl, ?_⟩) hHeld ?_
                rotate_left
                · intro w' hSw
                  try dsimp only at hSw
                  go_simp
                  all_goals with_reducible rfl
                simp only [Act.put, List.setIfInBounds_toArray, List.set_cons_zero, List.set_cons_succ]
                refine wpAnyH_take (i := 9) (oi := ⟨_, _, _, _, _, _⟩) (v := ?_) rfl (by kernel_rfl) (by kernel_rfl) (by kernel_rfl) (fun _ _ _ h => h) (Or.inl ⟨by rfl, ?_⟩) hHeld ?_
                rotate_left
                · intro w' hSw
                  try dsimp only at hSw
                  go_simp
                  all_goals with_reducible rfl
                simp only [Act.put, List.setIfInBounds_toArray, List.set_cons_zero, List.set_cons_succ]
                refine wpAnyH_take (i := 10) (oi := ⟨_, _, _, _, _, _⟩) (v := ?_) rfl (by kernel_rfl) (by kernel_rfl) (by kernel_rfl) (fun _ _ _ h => h) (Or.inl ⟨by rfl, ?_⟩) hHeld ?_
                rotate_left
                · intro w' hSw
                  try dsimp only at hSw
                  go_simp
                  all_goals with_reducible rfl
                simp only [Act.put, List.setIfInBounds_toArray, List.set_cons_zero, List.set_cons_succ]
                refine wpAnyH_take (i := 11) (oi := ⟨_, _, _, _, _, _⟩) (v := ?_) rfl (by kernel_rfl) (by kernel_rfl) (by kernel_rfl) (fun _ _ _ h => h) (Or.inl ⟨by rfl, ?_⟩) hHeld ?_
                rotate_left
                · intro w' hSw
                  try dsimp only at hSw
                  go_simp
                  all_goals with_reducible rfl
                simp only [Act.put, List.setIfInBounds_toArray, List.set_cons_zero, List.set_cons_succ]
                refine wpAnyH_take (i := 12) (oi := ⟨_, _, _, _, _, _⟩) (v := ?_) rfl (by kernel_rfl) (by kernel_rfl) (by kernel_rfl) (fun _ _ _ h => h) (Or.inl ⟨by rfl, ?_⟩) hHeld ?_
                rotate_left
                · intro w' hSw
                  try dsimp only at hSw
                  go_simp
                  all_goals with_reducible rfl
                simp only [Act.put, List.setIfInBounds_toArray, List.set_cons_zero, List.set_cons_succ]
                refine wpAnyH_done (by kernel_rfl) ?_ _
                refine NoPanic.normal ?_
                clear hHeld c0 c1 c2 c3 e0 e1 e2 QC
                go_wp2_with fail
                go_roundg (Z - (k + 1))
                case measure => omega
                case rel => exact ⟨k + 1, by go_num, by omega, Nat.le_refl _, by rw [V9.out]; exact HR8, HB8⟩
              · have hv9 : iView (now, p, fl) i (ss.take (k + 1)) = tAdd y.2.1 (iView (now, p, fl) i (ss.take k)) ⟨x.1, sv1, agOne x.2.2⟩ := by rw [V0.out, SV.out, if_pos ⟨HM.out, rfl⟩]
                have V9 := Hid.of hv9
                clear hv9
                have hev := HC.out _ (List.mem_of_getElem? HY.out)
                have FIN : Hid (TFit ⟨x.1, sv1, agOne x.2.2⟩) := Hid.of (by
                  have h := view_s (r := (now, p, fl)) HY.out hev FX.out HM.out
                  unfold iRec at h
                  rw [SV.out, agOf_one FX.out.2.2] at h
                  exact h)
                have VOK := Hid.of (iView_ok (r := (now, p, fl)) HY.out hev (ss := ss.take k) (fun s h => FS.out s (List.mem_of_mem_take h)))
                clear hev
                refine wpAnyH_take (i := 8) (oi := ⟨_, _, _, _, _, _⟩) (v := ?_) rfl (by kernel_rfl) (by kernel_rfl) (by kernel_rfl) (fun _ _ _ h => h) (Or.inl ⟨by rfl, ?_⟩) hHeld ?_
                rotate_left
                · intro w' hSw
                  try dsimp only at hSw
                  go_simp
                  all_goals with_reducible rfl
                simp only [Act.put, List.setIfInBounds_toArray, List.set_cons_zero, List.set_cons_succ]
                refine wpAnyH_take (i := 9) (oi := ⟨_, _, _, _, _, _⟩) (v := ?_) rfl (by kernel_rfl) (by kernel_rfl) (by kernel_rfl) (fun _ _ _ h => h) (Or.inl ⟨by rfl, ?_⟩) hHeld ?_
                rotate_left
                · intro w' hSw
                  try dsimp only at hSw
                  go_simp
                  all_goals with_reducible rfl
                simp only [Act.put, List.setIfInBounds_toArray, List.set_cons_zero, List.set_cons_succ]
                refine wpAnyH_take (i := 10) (oi := ⟨_, _, _, _, _, _⟩) (v := ?_) rfl (by kernel_rfl) (by kernel_rfl) (by kernel_rfl) (fun _ _ _ h => h) (Or.inl ⟨by rfl, ?_⟩) hHeld ?_
                rotate_left
                · intro w' hSw
                  try dsimp only at hSw
                  go_simp
                  all_goals with_reducible rfl
                simp only [Act.put, List.setIfInBounds_toArray, List.set_cons_zero, List.set_cons_succ]
                refine wpAnyH_take (i := 11) (oi := ⟨_, _, _, _, _, _⟩) (v := ?_) rfl (by kernel_rfl) (by kernel_rfl) (by kernel_rfl) (fun _ _ _ h => h) (Or.inl ⟨by rfl, ?_⟩) hHeld ?_
                rotate_left
                · intro w' hSw
                  try dsimp only at hSw
                  go_simp
                  all_goals with_reducible rfl
                simp only [Act.put, List.setIfInBounds_toArray, List.set_cons_zero, List.set_cons_succ]
                refine wpAnyH_take (i := 12) (oi := ⟨_, _, _, _, _, _⟩) (v := ?_) rfl (by kernel_rfl) (by kernel_rfl) (by kernel_rfl) (fun _ _ _ h => h) (Or.inl ⟨by rfl, ?_⟩) hHeld ?_
                rotate_left
                · intro w' hSw
                  try dsimp only at hSw
                  go_simp
                  all_goals with_reducible rfl
                simp only [Act.put, List.setIfInBounds_toArray, List.set_cons_zero, List.set_cons_succ]
                refine wpAnyH_done (by kernel_rfl) ?_ _
                refine NoPanic.normal ?_
                clear hHeld c0 c1 c2 c3 e0 e1 e2 QC
                go_upto_region 10 with fail
                have e0 := (CS8.out).head
                have e1 := ((CS8.out).tail).head
                have e2 := (((CS8.out).tail).tail).head
                refine wp_region_noPanic ?_
                refine wp_region_held_drew (S := fun w' => w'.cell? ⟨ab, ao + k * 3, none⟩ = some (.string x.1) ∧ w'.cell? ⟨ab, ao + k * 3 + 1, none⟩ = some (.int .i64 x.2.1) ∧ w'.cell? ⟨ab, ao + k * 3 + 2, none⟩ = some (.int .i64 x.2.2)) (by kernel_rfl) ?_ (fun hHeld => ?_)
                · exact ⟨e0, e1, e2⟩
                refine wpAnyH_take (i := 0) (oi := ⟨_, _, _, _, _, _⟩) (v := ?_) rfl (by kernel_rfl) (by kernel_rfl) (by kernel_rfl) (fun _ _ _ h => h) (Or.inl ⟨by rfl, ?_⟩) hHeld ?_
                rotate_left
                · intro w' hSw
                  try dsimp only at hSw
                  go_simp
                  all_goals with_reducible rfl
                simp only [Act.put, List.setIfInBounds_toArray, List.set_cons_zero, List.set_cons_succ]
                refine wpAnyH_take (i := 1) (oi := ⟨_, _, _, _, _, _⟩) (v := ?_) rfl (by kernel_rfl) (by kernel_rfl) (by kernel_rfl) (fun _ _ _ h => h) (Or.inl ⟨by rfl, ?_⟩) hHeld ?_
                rotate_left
                · intro w' hSw
                  try dsimp only at hSw
                  go_simp
                  all_goals with_reducible rfl
                simp only [Act.put, List.setIfInBounds_toArray, List.set_cons_zero, List.set_cons_succ]
                refine wpAnyH_take (i := 2) (oi := ⟨_, _, _, _, _, _⟩) (v := ?_) rfl (by kernel_rfl) (by kernel_rfl) (by kernel_rfl) (fun _ _ _ h => h) (Or.inl ⟨by rfl, ?_⟩) hHeld ?_
                rotate_left
                · intro w' hSw
                  try dsimp only at hSw
                  go_simp
                  all_goals with_reducible rfl
                simp only [Act.put, List.setIfInBounds_toArray, List.set_cons_zero, List.set_cons_succ]
                refine wpAnyH_take (i := 3) (oi := ⟨_, _, _, _, _, _⟩) (v := ?_) rfl (by kernel_rfl) (by kernel_rfl) (by kernel_rfl) (fun _ _ _ h => h) (Or.inl ⟨by rfl, ?_⟩) hHeld ?_
                rotate_left
                · intro w' hSw
                  try dsimp only at hSw
                  go_simp
                  all_goals with_reducible rfl
                simp only [Act.put, List.setIfInBounds_toArray, List.set_cons_zero, List.set_cons_succ]
                refine wpAnyH_take (i := 4) (oi := ⟨_, _, _, _, _, _⟩) (v := ?_) rfl (by kernel_rfl) (by kernel_rfl) (by kernel_rfl) (fun _ _ _ h => h) (Or.inl ⟨by rfl, ?_⟩) hHeld ?_
                rotate_left
                · intro w' hSw
                  try dsimp only at hSw
                  go_simp
                  all_goals with_reducible rfl
                simp only [Act.put, List.setIfInBounds_toArray, List.set_cons_zero, List.set_cons_succ]
                refine wpAnyH_take (i := 5) (oi := ⟨_, _, _, _, _, _⟩) (v := ?_) rfl (by kernel_rfl) (by kernel_rfl) (by kernel_rfl) (fun _ _ _ h => h) (Or.inl ⟨by rfl, ?_⟩) hHeld ?_
                rotate_left
                · intro w' hSw
                  try dsimp only at hSw
                  go_simp
                  all_goals with_reducible rfl
                simp only [Act.put, List.setIfInBounds_toArray, List.set_cons_zero, List.set_cons_succ]
                refine wpAnyH_take (i := 6) (oi := ⟨_, _, _, _, _, _⟩) (v := ?_) rfl (by kernel_rfl) (by kernel_rfl) (by kernel_rfl) (fun _ _ _ h => h) (Or.inl ⟨by rfl, ?_⟩) hHeld ?_
                rotate_left
                · intro w' hSw
                  try dsimp only at hSw
                  go_simp
                  all_goals with_reducible rfl
                simp only [Act.put, List.setIfInBounds_toArray, List.set_cons_zero, List.set_cons_succ]
                refine wpAnyH_take (i := 7) (oi := ⟨_, _, _, _, _, _⟩) (v := ?_) rfl (by kernel_rfl) (by kernel_rfl) (by kernel_rfl) (fun _ _ _ h => h) (Or.inl ⟨by rfl, ?_⟩) hHeld ?_
                rotate_left
                · intro w' hSw
                  try dsimp only at hSw
                  go_simp
                  all_goals with_reducible rfl
                simp only [Act.put, List.setIfInBounds_toArray, List.set_cons_zero, List.set_cons_succ]
                refine wpAnyH_take (i := 8) (oi := ⟨_, _, _, _, _, _⟩) (v := ?_) rfl (by kernel_rfl) (by kernel_rfl) (by kernel_rfl) (fun _ _ _ h => h) (Or.inl ⟨by rfl, ?_⟩) hHeld ?_
                rotate_left
                · intro w' hSw
                  try dsimp only at hSw
                  go_simp
                  all_goals with_reducible rfl
                simp only [Act.put, List.setIfInBounds_toArray, List.set_cons_zero, List.set_cons_succ]
                refine wpAnyH_take (i := 9) (oi := ⟨_, _, _, _, _, _⟩) (v := ?_) rfl (by kernel_rfl) (by kernel_rfl) (by kernel_rfl) (fun _ _ _ h => h) (Or.inl ⟨by rfl, ?_⟩) hHeld ?_
                rotate_left
                · intro w' hSw
                  try dsimp only at hSw
                  go_simp
                  all_goals with_reducible rfl
                simp only [Act.put, List.setIfInBounds_toArray, List.set_cons_zero, List.set_cons_succ]
                refine wpAnyH_take (i := 10) (oi := ⟨_, _, _, _, _, _⟩) (v := ?_) rfl (by kernel_rfl) (by kernel_rfl) (by kernel_rfl) (fun _ _ _ h => h) (Or.inl ⟨by rfl, ?_⟩) hHeld ?_
                rotate_left
                · intro w' hSw
                  try dsimp only at hSw
                  go_simp
                  all_goals with_reducible rfl
                simp only [Act.put, List.setIfInBounds_toArray, List.set_cons_zero, List.set_cons_succ]
                refine wpAnyH_take (i := 11) (oi := ⟨_, _, _, _, _, _⟩) (v := ?_) rfl (by kernel_rfl) (by kernel_rfl) (by kernel_rfl) (fun _ _ _ h => h) (Or.inl ⟨by rfl, ?_⟩) hHeld ?_
                rotate_left
                · intro w' hSw
                  try dsimp only at hSw
                  go_simp
                  all_goals with_reducible rfl
                simp only [Act.put, List.setIfInBounds_toArray, List.set_cons_zero, List.set_cons_succ]
                refine wpAnyH_ready (rs := [12]) (by kernel_rfl) (by simp) ?_
                refine AllReadyH.cons (o := ⟨_, _, _, _, _, _⟩) rfl (fun K hK => ?_) AllReadyH.nil
                go_simp
                refine (refOne_any x.2.2 _).mono ?_
                rintro r w9 ⟨rfl, b9⟩
                have c9 := (Below.refl w8.heap.size w8).drew.trans b9
                have HB9 := Hid.of (HB8.out.trans (c9.mono HB8.out.size))
                have HR9 := Hid.of (HR8.out.next c9)
                have CS9 := Hid.of (CS8.out.next c9)
                clear c9 b9 hHeld HB8 HR8 CS8 e0 e1 e2
                have e0 := (CS9.out).head
                have e1 := ((CS9.out).tail).head
                have e2 := (((CS9.out).tail).tail).head
                refine hK.out _ _ ⟨e0, e1, e2⟩ (fun hHeld => ?_)
                clear hK
                try simp only [Act.put, List.setIfInBounds_toArray, List.set_cons_zero, List.set_cons_succ]
                refine wpAnyH_take (i := 13) (oi := ⟨_, _, _, _, _, _⟩) (v := ?_) rfl (by kernel_rfl) (by kernel_rfl) (by kernel_rfl) (fun _ _ _ h => h) (Or.inl ⟨by rfl, ?_⟩) hHeld ?_
                rotate_left
                · intro w' hSw
                  try dsimp only at hSw
                  go_simp
                  all_goals with_reducible rfl
                simp only [Act.put, List.setIfInBounds_toArray, List.set_cons_zero, List.set_cons_succ]
                refine wpAnyH_ready (rs := [14]) (by kernel_rfl) (by simp) ?_
                refine AllReadyH.cons (o := ⟨_, _, _, _, _, _⟩) rfl (fun K hK => ?_) AllReadyH.nil
                go_simp
                refine (refTAdd_new ⟨x.1, sv1, agOne x.2.2⟩ HR9.out.1 FIN.out VOK.out.1 (by have h1 := VOK.out.2; have h2 := List.length_take_le k ss; have h3 := KL.out; omega)).mono ?_
                rintro r w10 ⟨rfl, hrt, hst, hro⟩
                have HRT : Hid (RT2 _ w1.heap.size q y.2.1 _) := Hid.of ⟨hrt, hro _ HB9.out.size HR9.out.2⟩
                have HBT := Hid.of (hst.below HB9.out HB9.out.size (fun g hg => by have := HQ.out; omega))
                have CST := Hid.of (CSW.out.next HBT.out)
                clear hrt hst hro hHeld HB9 HR9 CS9 e0 e1 e2
                have e0 := (CST.out).head
                have e1 := ((CST.out).tail).head
                have e2 := (((CST.out).tail).tail).head
                refine hK.out _ _ ⟨e0, e1, e2⟩ (fun hHeld => ?_)
                clear hK
                try simp only [Act.put, List.setIfInBounds_toArray, List.set_cons_zero, List.set_cons_succ]
                refine wpAnyH_done (by kernel_rfl) ?_ _
                refine NoPanic.normal ?_
                clear hHeld e0 e1 e2
                go_wp2_with fail
                go_roundg (Z - (k + 1))
                case measure => omega
                case rel => exact ⟨k + 1, by go_num, by omega, Nat.le_refl _, by rw [V9.out]; exact HRT, HBT⟩
        · obtain rfl : k = Z := by omega
          obtain ⟨u, hu, hrow⟩ := HR.out.2
          rw [List.take_of_length_le (Nat.le_of_eq KL.out)] at hrow
          obtain ⟨ua, uc, rfl, -⟩ := own_one hrow
          have l1 : wr.cell? ⟨q, 1, none⟩ = some (.slice ua (iView (now, p, fl) i ss).length uc) := by simp [World.cell?, hu]
          have HW9 := Hid.of (own_mono hrow B1.out.size)
          clear hrow
          go_wp2
          go_ret
          exact ⟨_, rfl, HW9.out, B1.out.trans (HB.out.mono B1.out.size)⟩

end Go.Proofs.YtdchjcidfaencaaGreat
