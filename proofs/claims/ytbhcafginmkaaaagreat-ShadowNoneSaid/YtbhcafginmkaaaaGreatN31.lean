/-
  A bundle of texts: TCS.
-/
import Derived.Test.YtbhcafginmkaaaaGreatN25
import Derived.Test.YtbhcafginmkaaaaGreatN30
namespace Go.Proofs.YtbhcafginmkaaaaGreat
open Go.RowKit Go.Lib Go.Sort

abbrev BkRow (w : World) (v : Value) (bs : List Bk) : Prop := CellRow w v bs.length (flat benc bs)

theorem BkOwn.row {w : World} {D : Nat} {v : Value} {bs : List Bk} (h : BkOwn w D v bs) : BkRow w v bs := by
  rcases h.2 with ⟨rfl, h0⟩ | ⟨g, cap, cur, rfl, _, hr, _⟩
  · rw [List.length_eq_zero_iff.1 h0]
    exact ⟨none, 0, rfl, .inl rfl⟩
  · have hlt := (Array.getElem?_eq_some_iff.1 hr).1
    refine ⟨_, _, rfl, .inr ⟨g, 0, rfl, hlt, fun j u hj => ?_⟩⟩
    have hl := (List.getElem?_eq_some_iff.1 hj).1
    rw [flat_length benc_len] at hl
    rw [Nat.zero_add, World.ownsRow.cellAt (show w.ownsRow D 269 6 (.slice (some ⟨g, 0, none⟩) bs.length cap) bs.length (flat benc bs) from h) j hl]
    exact hj

/-- An element's cells. -/
theorem bk_at {w : World} {a : Option Addr} {n c : Nat} {bs : List Bk} (h : CellRow w (.slice a n c) n (flat benc bs)) (j : Nat) (x : Bk) (hx : bs[j]? = some x) :
    ∃ b o, a = some ⟨b, o, none⟩ ∧ b < w.heap.size ∧ w.cell? ⟨b, o + j * 6, none⟩ = some (.int .i64 x.1) ∧ w.cell? ⟨b, o + j * 6 + 1, none⟩ = some (.int .i64 x.2.c) ∧ w.cell? ⟨b, o + j * 6 + 2, none⟩ = some (.int .i64 x.2.hi) ∧
      w.cell? ⟨b, o + j * 6 + 3, none⟩ = some (.int .u64 x.2.lo) ∧ w.cell? ⟨b, o + j * 6 + 4, none⟩ = some (.int .i64 x.2.mn) ∧ w.cell? ⟨b, o + j * 6 + 5, none⟩ = some (.int .i64 x.2.mx) := by
  obtain ⟨a', c', hv, h⟩ := h
  simp only [Value.slice.injEq] at hv
  obtain ⟨rfl, _, rfl⟩ := hv
  have hj := (List.getElem?_eq_some_iff.1 hx).1
  rcases h with h | ⟨b, o, rfl, hl, hc⟩
  · exfalso
    have := congrArg List.length h
    rw [flat_length benc_len] at this
    simp at this
    omega
  · have key : ∀ i u, i < 6 → (benc x)[i]? = some u → w.cell? ⟨b, o + j * 6 + i, none⟩ = some u := fun i u hi hu => by
      rw [Nat.add_assoc]
      exact hc (j * 6 + i) u ((flat_at benc_len bs j x hx i hi).trans hu)
    exact ⟨b, o, rfl, hl, key 0 _ (by decide) rfl, key 1 _ (by decide) rfl, key 2 _ (by decide) rfl, key 3 _ (by decide) rfl, key 4 _ (by decide) rfl, key 5 _ (by decide) rfl⟩

theorem below_grown (w : World) (q : Nat) (os : Array Obj) : Below w.heap.size w (grow (w.drewN q) os) :=
  ⟨rfl, rfl, rfl, by rw [size_grow]; exact Nat.le_add_right _ _, fun k hk => heap_grow_old (w.drewN q) os hk⟩

theorem beside_below (x : Bk) (s : Int) (w : World) : Calls Tryz.prog 283 #[bkv x, .int .i64 s] w fun e w' => e = .returned (.int .i64 (cmpI x.1 s)) ∧ Below w.heap.size w w' := by
  refine (beside_any x s w).mono ?_
  rintro e w' ⟨rfl, q, os, rfl⟩
  exact ⟨rfl, below_grown w q os⟩

/-- The function value that is handed on. -/
abbrev besideV : Value := .func (.func 283) #[] #[]

set_option maxHeartbeats 3200000 in
set_option maxRecDepth 20000 in
theorem search_any (v : Value) (bs : List Bk) (s : Int) (w : World) (hv : BkRow w v bs) (hr : BRise bs) (hn : bs.length ≤ 100000) :
    Calls Tryz.prog 282 #[v, .int .i64 s, besideV] w fun e w' => e = .returned (.tuple #[.int .i64 (sAt bs s : Nat), .bool (sHas bs s)]) ∧ Below w.heap.size w w' := by
  have eg : ∀ args w, (callFunc 283 args).run Tryz.prog w = .ok (.enter 283 args) w := enters_of Tryz.func283 (by kernel_rfl) rfl
  have HV : Hid (CellRow w v bs.length (flat benc bs)) := Hid.of hv
  have HS := Hid.of (sHas_at hr s)
  have HRI := Hid.of hr
  obtain ⟨n, hbl⟩ : ∃ n, bs.length = n := ⟨_, rfl⟩
  obtain ⟨va, vc, rfl, _⟩ := hv
  rw [hbl] at hn HV ⊢
  have BL := Hid.of hbl
  clear hbl hr
  obtain ⟨K, hK⟩ : ∃ K, sAt bs s = K := ⟨_, rfl⟩
  obtain ⟨F, hF⟩ : ∃ F, sHas bs s = F := ⟨_, rfl⟩
  rw [hK, hF]
  have HK := Hid.of hK
  have HF := Hid.of hF
  clear hK hF
  go_enter Tryz.func282, Tryz.ntmps282
  go_wp2
  go_loopg [9, 10] n (fun kx s9 s10 wr => ∃ lo hi : Nat, s9 = .int .i64 lo ∧ s10 = .int .i64 hi ∧ lo ≤ hi ∧ hi ≤ n ∧ hi - lo ≤ kx ∧ Hid (Below w.heap.size w wr) ∧ Hid ((∀ t x, bs[t]? = some x → t < lo → x.1 < s) ∧ (∀ t x, bs[t]? = some x → hi ≤ t → s ≤ x.1)))
  case atStart => exact ⟨0, n, rfl, rfl, Nat.zero_le _, Nat.le_refl _, by omega, Hid.of (Below.refl _ _), Hid.of ⟨fun t x _ ht => absurd ht (Nat.not_lt_zero _), fun t x hx ht => by
    have := (List.getElem?_eq_some_iff.1 hx).1
    have := BL.out
    omega⟩⟩
  case round =>
    obtain ⟨lo, hi, rfl, rfl, hlh, hin, hkx, HB, I⟩ := hrel
    by_cases hlt : lo < hi
    · obtain ⟨c, hc⟩ : ∃ c : Nat, ((lo : Int) + (hi : Int)) / 2 = (c : Int) := ⟨(lo + hi) / 2, by omega⟩
      have hc1 : lo ≤ c := by omega
      have hc2 : c < hi := by omega
      obtain ⟨x, hx⟩ : ∃ x, bs[c]? = some x := ⟨_, List.getElem?_eq_getElem (by have := BL.out; omega)⟩
      have HX := Hid.of hx
      obtain ⟨b, o, rfl, hbl, x0, x1, x2, x3, x4, x5⟩ := bk_at (HV.out.kept HB.out) c x hx
      clear hx hbl
      have hcn : (c : Int) < (n : Int) := by omega
      have hcc := beside_below x s wr
      by_cases hxs : x.1 < s
      · have hneg : cmpI x.1 s < 0 := cmpI_neg.2 hxs
        obtain ⟨r, hr⟩ : ∃ r, cmpI x.1 s = r := ⟨_, rfl⟩
        rw [hr] at hcc hneg
        have XS := Hid.of hxs
        clear hr hxs
        go_wp2_with (go_at_fn 283; refine hcc.mono ?_; rintro e w2 ⟨rfl, b2⟩; have HB2 := Hid.of (HB.out.trans (b2.mono HB.out.size)); clear b2)
        go_roundg (hi - (c + 1))
        case measure => omega
        case rel => exact ⟨c + 1, hi, by go_num, rfl, by omega, hin, Nat.le_refl _, HB2, Hid.of ⟨fun t y hy ht => by
          rcases Nat.lt_or_eq_of_le (Nat.le_of_lt_succ ht) with d | rfl
          · have h1 := (List.getElem?_eq_some_iff.1 hy).1
            have h2 := (List.getElem?_eq_some_iff.1 HX.out).1
            have := List.pairwise_iff_getElem.1 HRI.out t c h1 h2 d
            rw [(List.getElem?_eq_some_iff.1 hy).2, (List.getElem?_eq_some_iff.1 HX.out).2] at this
            have := XS.out
            omega
          · rw [HX.out] at hy
            rw [← Option.some.inj hy]
            exact XS.out, I.out.2⟩⟩
      · have hneg : ¬ cmpI x.1 s < 0 := fun h => hxs (cmpI_neg.1 h)
        obtain ⟨r, hr⟩ : ∃ r, cmpI x.1 s = r := ⟨_, rfl⟩
        rw [hr] at hcc hneg
        have XS := Hid.of hxs
        clear hr hxs
        go_wp2_with (go_at_fn 283; refine hcc.mono ?_; rintro e w2 ⟨rfl, b2⟩; have HB2 := Hid.of (HB.out.trans (b2.mono HB.out.size)); clear b2)
        go_roundg (c - lo)
        case measure => omega
        case rel => exact ⟨lo, c, rfl, rfl, hc1, by omega, Nat.le_refl _, HB2, Hid.of ⟨I.out.1, fun t y hy ht => by
          rcases Nat.lt_or_eq_of_le ht with d | rfl
          · have h1 := (List.getElem?_eq_some_iff.1 hy).1
            have h2 := (List.getElem?_eq_some_iff.1 HX.out).1
            have := List.pairwise_iff_getElem.1 HRI.out c t h2 h1 d
            rw [(List.getElem?_eq_some_iff.1 hy).2, (List.getElem?_eq_some_iff.1 HX.out).2] at this
            have := XS.out
            omega
          · rw [HX.out] at hy
            rw [← Option.some.inj hy]
            have := XS.out
            omega⟩⟩
    · obtain rfl : lo = hi := by omega
      have hKl : K = lo := by rw [← HK.out]; exact sAt_unique (by rw [BL.out]; exact hin) I.out.1 I.out.2
      have KL := Hid.of hKl
      clear hKl
      by_cases hn2 : lo < n
      · have hln : (lo : Int) < (n : Int) := by omega
        obtain ⟨x, hx⟩ : ∃ x, bs[lo]? = some x := ⟨_, List.getElem?_eq_getElem (by have := BL.out; omega)⟩
        have HX := Hid.of hx
        obtain ⟨b, o, rfl, hbl, x0, x1, x2, x3, x4, x5⟩ := bk_at (HV.out.kept HB.out) lo x hx
        clear hx hbl
        have hcc := beside_below x s wr
        by_cases hxs : x.1 = s
        · have hz : (cmpI x.1 s == 0) = true := by rw [beq_iff_eq]; exact cmpI_zero.2 hxs
          obtain ⟨r, hr⟩ : ∃ r, cmpI x.1 s = r := ⟨_, rfl⟩
          rw [hr] at hcc hz
          have XS := Hid.of hxs
          clear hr hxs
          go_wp2_with (go_at_fn 283; refine hcc.mono ?_; rintro e w2 ⟨rfl, b2⟩; have HB2 := Hid.of (HB.out.trans (b2.mono HB.out.size)); clear b2)
          go_ret2
          refine ⟨?_, HB2.out⟩
          rw [KL.out, show F = true by rw [← HF.out]; exact HS.out.2 ⟨x, by rw [HK.out, KL.out]; exact HX.out, XS.out⟩]
          rfl
        · have hz : (cmpI x.1 s == 0) = false := by rw [beq_eq_false_iff_ne]; exact fun h => hxs (cmpI_zero.1 h)
          obtain ⟨r, hr⟩ : ∃ r, cmpI x.1 s = r := ⟨_, rfl⟩
          rw [hr] at hcc hz
          have XS := Hid.of hxs
          clear hr hxs
          go_wp2_with (go_at_fn 283; refine hcc.mono ?_; rintro e w2 ⟨rfl, b2⟩; have HB2 := Hid.of (HB.out.trans (b2.mono HB.out.size)); clear b2)
          go_ret2
          refine ⟨?_, HB2.out⟩
          rw [KL.out, show F = false by
            rw [← HF.out, ← Bool.not_eq_true, HS.out]
            rintro ⟨y, hy, e⟩
            rw [HK.out, KL.out, HX.out] at hy
            rw [← Option.some.inj hy] at e
            exact XS.out e]
          rfl
      · have hln : ¬ (lo : Int) < (n : Int) := by omega
        go_wp2
        go_ret2
        refine ⟨?_, HB.out⟩
        rw [KL.out, show F = false by
          rw [← HF.out, ← Bool.not_eq_true, HS.out]
          rintro ⟨y, hy, e⟩
          rw [HK.out, KL.out] at hy
          have := (List.getElem?_eq_some_iff.1 hy).1
          have := BL.out
          omega]
        rfl

set_option maxHeartbeats 1600000 in
theorem place_any (v : Value) (bs : List Bk) (s : Int) (w : World) (hv : BkRow w v bs) (hr : BRise bs) (hn : bs.length ≤ 100000) :
    Calls Tryz.prog 253 #[v, .int .i64 s] w fun e w' => e = .returned (.tuple #[.int .i64 (sAt bs s : Nat), .bool (sHas bs s)]) ∧ Below w.heap.size w w' := by
  have hc := search_any v bs s w hv hr hn
  obtain ⟨K, hK⟩ : ∃ K, sAt bs s = K := ⟨_, rfl⟩
  obtain ⟨F, hF⟩ : ∃ F, sHas bs s = F := ⟨_, rfl⟩
  rw [hK, hF] at hc ⊢
  clear hv hr hn hK hF
  go_enter Tryz.func253, Tryz.ntmps253
  go_wp2_with (go_at_call 282; refine hc.mono ?_; rintro e w' ⟨rfl, b⟩)
  go_ret2
  exact ⟨rfl, b⟩

end Go.Proofs.YtbhcafginmkaaaaGreat
