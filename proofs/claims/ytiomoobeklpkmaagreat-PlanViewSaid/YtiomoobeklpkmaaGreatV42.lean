/-
 A bundle of texts: IOP ISM ILT ITK IVW IVN.
-/
import Derived.Deep.QuietTactic
import Derived.BigQuiet
import Derived.Test.YtiomoobeklpkmaaGreatV28
import Derived.Test.YtiomoobeklpkmaaGreatV23
import Derived.Test.YtiomoobeklpkmaaGreatV38
import Derived.Test.YtiomoobeklpkmaaGreatV33
import Derived.Test.YtiomoobeklpkmaaGreatV30
import Derived.Test.YtiomoobeklpkmaaGreatV40
import Derived.Test.YtiomoobeklpkmaaGreatV05
import Derived.Test.YtiomoobeklpkmaaGreatV18
import Derived.Test.YtiomoobeklpkmaaGreatV11
namespace Go.Proofs.YtiomoobeklpkmaaGreat
open Go.RowKit Go.Lib

/-- A step, as its cells; ss, ls: what its lists hold. -/
structure IOpL where
 k : Int
 n : Int
 sa : Option Addr
 sc : Nat
 ss : List SamL
 la : Option Addr
 lc : Nat
 ls : List TRec

def IOpL.cells (o : IOpL) : List Value := [.int .i64 o.k, .int .i64 o.n, .slice o.sa o.ss.length o.sc, .slice o.la o.ls.length o.lc]
theorem IOpL.len (o : IOpL) : o.cells.length = 4 := rfl

/-- A step's lists. -/
structure IOpIn (w : World) (o : IOpL) : Prop where
 s : CellRow w (.slice o.sa o.ss.length o.sc) o.ss.length (flat aenc o.ss)
 sc : o.ss.length ≤ o.sc
 sf : ∀ x ∈ o.ss, SFit x
 l : CellRow w (.slice o.la o.ls.length o.lc) o.ls.length (flat renc (o.ls.map rl))
 lc : o.ls.length ≤ o.lc
 lf : ∀ x ∈ o.ls, TFit x
 k : In64 o.k
 n : In64 o.n

theorem IOpIn.kept {w w' : World} {o : IOpL} (h : IOpIn w o) (b : Below w.heap.size w w') : IOpIn w' o := ⟨h.s.kept b, h.sc, h.sf, h.l.kept b, h.lc, h.lf, h.k, h.n⟩

/-- The steps that the slice v holds. -/
def IOpsRow (w : World) (v : Value) (l : List IOpL) : Prop := CellRow w v l.length (flat IOpL.cells l) ∧ ∀ o ∈ l, IOpIn w o

theorem IOpsRow.kept {w w' : World} {v : Value} {l : List IOpL} (h : IOpsRow w v l) (b : Below w.heap.size w w') : IOpsRow w' v l := ⟨h.1.kept b, fun o ho => (h.2 o ho).kept b⟩

theorem iop_at {w : World} {a : Option Addr} {n c : Nat} {l : List IOpL} (h : CellRow w (.slice a n c) n (flat IOpL.cells l)) (j : Nat) (x : IOpL) (hx : l[j]? = some x) : ∃ b o, a = some ⟨b, o, none⟩ ∧ b < w.heap.size ∧
  w.cell? ⟨b, o + j * 4, none⟩ = some (.int .i64 x.k) ∧ w.cell? ⟨b, o + j * 4 + 1, none⟩ = some (.int .i64 x.n) ∧ w.cell? ⟨b, o + j * 4 + 2, none⟩ = some (.slice x.sa x.ss.length x.sc) ∧ w.cell? ⟨b, o + j * 4 + 3, none⟩ = some (.slice x.la x.ls.length x.lc) := by
 obtain ⟨a', c', hv, h⟩ := h
 simp only [Value.slice.injEq] at hv
 obtain ⟨rfl, _, rfl⟩ := hv
 have hj := (List.getElem?_eq_some_iff.1 hx).1
 rcases h with h | ⟨b, o, ha, hl, hc⟩
 ·have := flat_length IOpL.len l
  rw [h, List.length_nil] at this
  omega
 ·refine ⟨b, o, ha, hl, ?_, ?_, ?_, ?_⟩
  ·exact hc (j * 4 + 0) _ ((flat_at IOpL.len l j x hx 0 (by decide)).trans rfl)
  ·exact hc (j * 4 + 1) _ ((flat_at IOpL.len l j x hx 1 (by decide)).trans rfl)
  ·exact hc (j * 4 + 2) _ ((flat_at IOpL.len l j x hx 2 (by decide)).trans rfl)
  ·exact hc (j * 4 + 3) _ ((flat_at IOpL.len l j x hx 3 (by decide)).trans rfl)

theorem sam_leaves : leaves Tryz.prog 2 178 = some [9, 3, 3] := by kernel_rfl
theorem sam_size : Tryz.prog.cellsOf 178 = 3 := by kernel_rfl

theorem sams_of_trod {H : Type} {enc : TypeId × Value → H} {W : World} {sp : Nat → Bool} {a : Option Addr} {len cap : Nat} {d : DataW H} {ps : List MemPlace} (h : DataW.Trod enc Tryz.prog W 0 sp true 87 (.slice a len cap) d ps) :
  ∃ ss : List SamL, ss.length = len ∧ CellRow W (.slice a len cap) ss.length (flat aenc ss) ∧ ss.length ≤ cap ∧ ∀ s ∈ ss, SFit s := by
 have hc := cap_of_trod Tryz.underlying87 h
 obtain ⟨l, hl, hr, hi⟩ : ∃ l : List SamL, l.length = len ∧ CellRow W (.slice a len cap) len (flat aenc l) ∧ ∀ x ∈ l, SFit x :=
  rows_of_trod Tryz.underlying87 sam_size (by decide) aenc_len SFit (⟨#[]⟩, 0, 0) (fun fuel cs x hl hx => by
   have hF := leaf_at 2 _ _ cs fuel x sam_leaves (by rw [sam_size]; omega) hx
   obtain ⟨n0, c0, w0⟩ := leaf_string Tryz.underlying9 (hF 0 _ rfl)
   obtain ⟨n1, c1, w1⟩ := leaf_int Tryz.underlying3 (hF 1 _ rfl)
   obtain ⟨n2, c2, w2⟩ := leaf_int Tryz.underlying3 (hF 2 _ rfl)
   refine ⟨(n0, n1, n2), ?_, w0, tin64_of n1 w1, tin64_of n2 w2⟩
   match cs, hl with
   | [x0, x1, x2], _ =>
    simp at c0 c1 c2
    subst c0 c1 c2
    rfl) h
 exact ⟨l, hl, by rw [hl]; exact hr, by rw [hl]; exact hc, hi⟩

theorem iop_leaves : leaves Tryz.prog 2 90 = some [3, 3, 87, 88] := by kernel_rfl
theorem iop_size : Tryz.prog.cellsOf 90 = 4 := by kernel_rfl

theorem iops_of_trod {H : Type} {enc : TypeId × Value → H} {W : World} {sp : Nat → Bool} {a : Option Addr} {len cap : Nat} {d : DataW H} {ps : List MemPlace} (h : DataW.Trod enc Tryz.prog W 0 sp true 68 (.slice a len cap) d ps) :
  ∃ l : List IOpL, l.length = len ∧ IOpsRow W (.slice a len cap) l := by
 obtain ⟨l, h1, h2, h3⟩ := rows_of_trod Tryz.underlying68 iop_size (by decide) IOpL.len (fun o : IOpL => IOpIn W o) ⟨0, 0, none, 0, [], none, 0, []⟩ (fun fuel cs x hl hx => by
  have hF := leaf_at 2 _ _ cs fuel x iop_leaves (by rw [iop_size]; omega) hx
  obtain ⟨n0, c0, w0⟩ := leaf_int Tryz.underlying3 (hF 0 _ rfl)
  obtain ⟨n1, c1, w1⟩ := leaf_int Tryz.underlying3 (hF 1 _ rfl)
  obtain ⟨a2, l2, k2, d2, p2, c2, t2⟩ := leaf_slice Tryz.underlying87 (hF 2 _ rfl)
  obtain ⟨a3, l3, k3, d3, p3, c3, t3⟩ := leaf_slice Tryz.underlying88 (hF 3 _ rfl)
  obtain ⟨ss, e2, r2, q2, f2⟩ := sams_of_trod t2
  obtain ⟨ls, e3, r3, f3⟩ := recs_of_trod t3
  have q3 := cap_of_trod Tryz.underlying88 t3
  subst e2 e3
  refine ⟨⟨n0, n1, a2, k2, ss, a3, k3, ls⟩, ?_, ⟨r2, q2, f2, r3, q3, f3, tin64_of n0 w0, tin64_of n1 w1⟩⟩
  match cs, hl with
  | [x0, x1, x2, x3], _ =>
   simp at c0 c1 c2 c3
   subst c0 c1 c2 c3
   rfl) h
 exact ⟨l, h1, by rw [h1]; exact h2, h3⟩

/-- Few samples, short names. -/
def SFew (k : Nat) (l : List SamL) : Prop := l.length ≤ k ∧ ∀ x ∈ l, x.1.size ≤ 60

end Go.Proofs.YtiomoobeklpkmaaGreat

namespace Go.Proofs.YtiomoobeklpkmaaGreat
open Go.RowKit Go.Lib

set_option maxRecDepth 20000 in
set_option maxHeartbeats 800000 in
theorem Some_any (k : Nat) (v : Value) (l : List SamL) (w : World) (hv : CellRow w v l.length (flat aenc l)) (hk : k ≤ 1000) :
  Calls Tryz.prog 45 #[.int .i64 k, v] w fun e w' => ∃ r : Bool, e = .returned (.bool r) ∧ Hid (r = true → SFew k l) ∧ Below w.heap.size w w' := by
 have HV := Hid.of hv
 obtain ⟨sa, sc, rfl, -⟩ := hv
 go_enter Tryz.func45, Tryz.ntmps45
 go_wp2
 go_loopw [5] (fun i wr => ∃ j : Nat, j ≤ l.length ∧ j ≤ k ∧ i = .int .i64 j ∧ Hid (∀ x ∈ l.take j, x.1.size ≤ 60) ∧ Below w.heap.size w wr) (fun i _ => k - (RowKit.intOf i).toNat)
 case atStart => exact ⟨0, Nat.zero_le _, Nat.zero_le _, rfl, Hid.of (by simp), Below.refl _ _⟩
 case round =>
  obtain ⟨j, hj, hjk, rfl, A, hb⟩ := hrel
  have i0 : (0 : Int) ≤ (j : Int) := Int.natCast_nonneg _
  by_cases hlt : j < l.length
  ·have i1 : (j : Int) < (l.length : Int) := by omega
   by_cases h12 : j < k
   ·have i2 : (j : Int) < (k : Int) := by omega
    obtain ⟨b1, o1, rfl, hl1, hc1⟩ := a_at HV.out j l[j] (by simp [hlt])
    obtain ⟨x, hx⟩ : ∃ x, l[j] = x := ⟨_, rfl⟩
    rw [hx] at hc1
    obtain ⟨d0, -⟩ := hc1
    rw [← hb.cell hl1] at d0
    have HX := Hid.of hx
    have j9 : (j : Int) ≤ 1000 := by omega
    by_cases h60 : x.1.size ≤ 60
    ·have i3 : ¬ (60 : Int) < (x.1.size : Int) := by omega
     clear hx
     go_wp2
     go_roundw
     case rel =>
      refine ⟨j + 1, by omega, by omega, by go_num, Hid.of ?_, hb⟩
      intro y hy
      rw [List.take_succ_eq_append_getElem hlt, List.mem_append, List.mem_singleton, HX.out] at hy
      rcases hy with hy | rfl
      ·exact A.out y hy
      ·exact h60
     case measure => simp [RowKit.intOf]; omega
    ·have i3 : (60 : Int) < (x.1.size : Int) := by omega
     clear hx
     go_wp2
     go_ret
     exact ⟨false, rfl, Hid.of (fun h => by cases h), hb⟩
   ·have i2 : ¬ (j : Int) < (k : Int) := by omega
    have i3 : ¬ (l.length : Int) ≤ (k : Int) := by omega
    go_wp2
    go_ret
    exact .inl ⟨rfl, Hid.of trivial, hb⟩
  ·have i1 : ¬ (j : Int) < (l.length : Int) := by omega
   have hjl : j = l.length := by omega
   have i3 : (l.length : Int) ≤ (k : Int) := by omega
   go_wp2
   go_ret
   refine .inr ⟨rfl, Hid.of ⟨by omega, fun x hx => ?_⟩, hb⟩
   have := A.out x
   rw [hjl, List.take_length] at this
   exact this hx

end Go.Proofs.YtiomoobeklpkmaaGreat

namespace Go.Proofs.YtiomoobeklpkmaaGreat
open Go.RowKit Go.Lib

theorem take_next {α : Type} {l : List α} {k : Nat} {x : α} (h : l[k]? = some x) : l.take (k + 1) = l.take k ++ [x] := by
 obtain ⟨hk, hx⟩ := List.getElem?_eq_some_iff.1 h
 rw [List.take_succ_eq_append_getElem hk, hx]

def ILight (l : List IOpL) : Prop := l.length ≤ 50 ∧ ∀ o ∈ l, SFew 20 o.ss ∧ o.ls.length ≤ 20

set_option maxRecDepth 20000 in
set_option maxHeartbeats 3200000 in
theorem Light_any (v : Value) (l : List IOpL) (w : World) (hv : IOpsRow w v l) :
  Calls Tryz.prog 29 #[v] w fun e w' => ∃ r : Bool, e = .returned (.bool r) ∧ Hid (r = true → ILight l) ∧ Below w.heap.size w w' := by
 have HV := Hid.of hv
 obtain ⟨⟨va, vc, rfl, -⟩, -⟩ := hv
 obtain ⟨N, hN⟩ : ∃ N, l.length = N := ⟨_, rfl⟩
 have NL := Hid.of hN
 have HR : Hid (CellRow w (.slice va N vc) N (flat IOpL.cells l)) := Hid.of (by rw [← hN]; exact HV.out.1)
 rw [hN]
 clear hN
 go_enter Tryz.func29, Tryz.ntmps29
 go_wp2
 go_loopg [3] N (fun kx iv wr => ∃ i : Nat, iv = .int .i64 i ∧ i ≤ N ∧ i ≤ 200 ∧ N - i ≤ kx ∧ Hid (∀ o ∈ l.take i, SFew 20 o.ss ∧ o.ls.length ≤ 20) ∧ Hid (Below w.heap.size w wr))
 case atStart => exact ⟨0, rfl, Nat.zero_le _, Nat.zero_le _, Nat.le_refl _, Hid.of (by simp), Hid.of (Below.refl _ _)⟩
 case round =>
  obtain ⟨i, rfl, hiN, hi2, hkx, HA, HB⟩ := hrel
  have i0 : (0 : Int) ≤ (i : Int) := Int.natCast_nonneg _
  by_cases hlt : (i : Int) < (N : Int)
  ·by_cases h2 : (i : Int) < 200
   ·obtain ⟨o, ho⟩ : ∃ o, l[i]? = some o := ⟨_, List.getElem?_eq_getElem (by have := NL.out; omega)⟩
    have OO := Hid.of ho
    have OI := Hid.of ((HV.out.2 o (List.mem_of_getElem? ho)).kept HB.out)
    obtain ⟨bq, o1, rfl, hb1, c0, c1, c2, c3⟩ := iop_at (HR.out.kept HB.out) i o ho
    have hs := Some_any 20 _ o.ss wr OI.out.s (by decide)
    obtain ⟨sn, hsn⟩ : ∃ n, o.ss.length = n := ⟨_, rfl⟩
    obtain ⟨ln, hln⟩ : ∃ n, o.ls.length = n := ⟨_, rfl⟩
    rw [hsn] at hs c2
    have SN := Hid.of hsn
    have LN := Hid.of hln
    rw [hln] at c3
    have hin : i < N := by omega
    clear ho hsn hln
    go_wp2_with fail
    refine hs.mono ?_
    rintro e w1 ⟨ok, rfl, HS, b1⟩
    have HB1 := Hid.of (HB.out.trans (b1.mono HB.out.size))
    have hf := Few_any 20 (.slice o.la o.ls.length o.lc) (o.ls.map rl) w1 (by rw [List.length_map]; exact OI.out.l.kept b1) (by decide)
    have d3 : w1.cell? ⟨bq, o1 + i * 4 + 3, none⟩ = some (.slice o.la ln o.lc) := by rw [b1.cell hb1]; exact c3
    have HIN := Hid.of hin
    rw [LN.out] at hf
    clear hs b1 hb1 c0 c1 c2 c3 hin
    cases ok
    ·go_wp2
     go_ret
     exact ⟨false, rfl, Hid.of (fun h => by cases h), HB1.out⟩
    ·go_wp2_with fail
     refine hf.mono ?_
     rintro e w2 ⟨ok2, rfl, HF, b2⟩
     have HB2 := Hid.of (HB1.out.trans (b2.mono HB1.out.size))
     clear b2 hf
     cases ok2
     ·go_wp2
      go_ret
      exact ⟨false, rfl, Hid.of (fun h => by cases h), HB2.out⟩
     ·go_wp2
      go_roundg (N - (i + 1))
      case measure => have := HIN.out; omega
      case rel =>
       refine ⟨i + 1, by go_num, HIN.out, by omega, Nat.le_refl _, Hid.of (fun y hy => ?_), HB2⟩
       rw [take_next OO.out] at hy
       rcases List.mem_append.1 hy with hy | hy
       ·exact HA.out y hy
       ·rw [List.mem_singleton.1 hy]
        have := (HF.out (by first | rfl | trivial)).1
        rw [List.length_map] at this
        exact ⟨HS.out (by first | rfl | trivial), this⟩
   ·have h3 : ¬ (N : Int) ≤ 50 := by omega
    go_wp2
    go_ret
    exact .inl ⟨rfl, Hid.of trivial, HB.out⟩
  ·obtain rfl : i = N := by omega
   by_cases h3 : (i : Int) ≤ 50
   ·go_wp2
    go_ret
    refine .inr ⟨rfl, Hid.of ⟨by rw [NL.out]; omega, fun o ho => ?_⟩, HB.out⟩
    have := HA.out
    rw [List.take_of_length_le (by rw [NL.out]; exact Nat.le_refl _)] at this
    exact this o ho
   ·go_wp2
    go_ret
    exact .inl ⟨rfl, Hid.of trivial, HB.out⟩

end Go.Proofs.YtiomoobeklpkmaaGreat

namespace Go.Proofs.YtiomoobeklpkmaaGreat
open Go.RowKit Go.Lib

theorem sams_ne {ss : List SamL} (h : ss ≠ []) : flat aenc ss ≠ [] := fun c => by
 have := flat_length aenc_len ss
 rw [c, List.length_nil] at this
 exact h (List.length_eq_zero_iff.1 (by omega))
theorem iCheck_len {r : RchL} {ss : List SamL} (h : iCheck r ss = 0) : ss ≠ [] ∧ ss.length ≤ 8 ∧ iTakes r ss = 0 := by
 unfold iCheck at h
 split at h
 ·cases h
 ·split at h
  ·cases h
  ·exact ⟨‹_›, by omega, h⟩
end Go.Proofs.YtiomoobeklpkmaaGreat

namespace Go.Proofs.YtiomoobeklpkmaaGreat
open Go.RowKit Go.Lib

/-- A view's records are such as may stand in a table. -/
theorem view_s {r : RchL} {i : Nat} {y : TierL} (hy : r.2.1.2[i]? = some y) (he : 1 ≤ y.2.1) {s : SamL} (hs : SFit s) (hm : iMay s = true) : TFit (iRec r i s) := by
 have h0 : 0 ≤ s.2.1 := by
  unfold iMay at hm
  rw [Bool.and_eq_true] at hm
  exact of_decide_eq_true hm.2
 refine ⟨hs.1, ?_, (agOf_good (fun x hx => by rw [List.mem_singleton.1 hx]; exact hs.2.2)).1⟩
 have e : (rStart r (i : Int) s.2.1).1 = gFloor s.2.1 y.2.1 := by
  unfold rStart
  rw [if_neg (by omega), show ((i : Int).toNat) = i by omega, hy]
 show TIn64 (rStart r (i : Int) s.2.1).1
 rw [e]
 have f1 := gFloor_plain0 h0 he
 have f2 := gPast_bounds s.2.1 he
 have f3 : gPast s.2.1 y.2.1 ≤ s.2.1 := past_le he h0
 have f4 := hs.2.1
 unfold TIn64 at *
 omega
theorem iView_ok {r : RchL} {i : Nat} {y : TierL} (hy : r.2.1.2[i]? = some y) (he : 1 ≤ y.2.1) {ss : List SamL} (fs : ∀ s ∈ ss, SFit s) : (∀ z ∈ iView r i ss, TFit z ∧ agOk z.a = true) ∧ (iView r i ss).length ≤ ss.length := by
 have hr : ∀ x ∈ iRecs r i (ss.filter iMay), TFit x := fun x hx => by
  obtain ⟨s, hs, rfl⟩ := List.mem_map.1 hx
  have h1 := List.mem_filter.1 (List.mem_filter.1 hs).1
  exact view_s hy he (fs s h1.1) h1.2
 have m : TMade [] (tEv r i) := ⟨sorted_nil, all_nil, fun _ hx => absurd hx List.not_mem_nil, fun _ hx => absurd hx List.not_mem_nil⟩
 refine ⟨fun z hz => ?_, ?_⟩
 ·have a := tAdds_all (e := tEv r i) all_nil (fun x hx => (hr x hx).2.2) z hz
  have k := tAdds_s (Q := fun s => TIn64 s) (l := []) (fun _ h => absurd h List.not_mem_nil) (fun x hx => (hr x hx).2.1) z hz
  have b := (m.adds hr).name hz
  exact ⟨⟨by have := b.2; unfold maxLen; omega, k, a.2⟩, a.1⟩
 have h1 := tAdds_len (tEv r i) [] (iRecs r i (ss.filter iMay))
 have h2 : (iRecs r i (ss.filter iMay)).length ≤ (ss.filter iMay).length := by unfold iRecs; rw [List.length_map]; exact List.length_filter_le ..
 have h3 := List.length_filter_le iMay ss
 unfold iView
 rw [List.length_nil] at h1
 omega

set_option maxRecDepth 20000 in
set_option maxHeartbeats 3200000 in
theorem refView_every (now : Int) (n : ByteArray) (s f : Value) (p : PolL) (fl : List Int) (tier : Int) (v : Value) (ss : List SamL) (w : World) (hs : CellRow w s p.2.length (flat penc p.2)) (hf : CellRow w f fl.length (fl.map (Value.int .i64))) (fit : RFit (now, p, fl)) (hc : ∀ t ∈ p.2, 1 ≤ t.2.1) (ht : In64 tier)
  (hv : CellRow w v ss.length (flat aenc ss)) (hl : ss.length ≤ 1000) (fs : ∀ s ∈ ss, SFit s) :
  Calls Tryz.prog 44 #[.agg #[.int .i64 now, .string n, s, f], .int .i64 tier, v] w fun e w' => ∃ u, e = .returned u ∧ CellRow w' u (if 0 ≤ tier ∧ tier.toNat < p.2.length then iView (now, p, fl) tier.toNat ss else []).length (flat renc ((if 0 ≤ tier ∧ tier.toNat < p.2.length then iView (now, p, fl) tier.toNat ss else []).map rl)) ∧ Below w.heap.size w w' := by
 have H0 := Hid.of (QH.made (now := now) (n := n) hs hf)
 have FIT := Hid.of fit
 have HC := Hid.of hc
 have HV := Hid.of hv
 have FS := Hid.of fs
 obtain ⟨sa, sc, rfl, -⟩ := hs
 obtain ⟨fa, fc, rfl, -⟩ := hf
 obtain ⟨va, vc, rfl, -⟩ := hv
 obtain ⟨N, hN⟩ : ∃ N, p.2.length = N := ⟨_, rfl⟩
 obtain ⟨M, hM⟩ : ∃ M, fl.length = M := ⟨_, rfl⟩
 obtain ⟨Z, hK⟩ : ∃ Z, ss.length = Z := ⟨_, rfl⟩
 have NL := Hid.of hN
 have ML := Hid.of hM
 have KL := Hid.of hK
 have HT := Hid.of ht
 rw [hN, hM] at H0 ⊢
 rw [hK] at HV hl ⊢
 obtain ⟨w1, hw1⟩ : ∃ w1, w.alloc (.cells #[.int .i64 now, .string n, .slice sa N sc, .slice fa M fc] 29) = w1 := ⟨_, rfl⟩
 rw [hw1] at H0
 have HW := Hid.of hw1
 have n9 : (N : Int) ≤ 1000000 := by have := fit.2.1.1; rw [hN] at this; omega
 clear hN hM hK hw1 fit hc ht fs
 by_cases h0 : tier < 0
 ·rw [if_neg (by omega)]
  go_enter Tryz.func44, Tryz.ntmps44
  go_wp2
  rw [HW.out]
  go_ret
  exact ⟨.slice none 0 0, rfl, ⟨_, _, rfl, .inl rfl⟩, H0.out.fr⟩
 ·obtain ⟨i, rfl⟩ : ∃ i : Nat, tier = i := ⟨tier.toNat, by omega⟩
  have i0 : (0 : Int) ≤ (i : Int) := Int.natCast_nonneg _
  obtain ⟨c0, c1, c2, c3⟩ := H0.out.at
  by_cases h1 : (N : Int) ≤ (i : Int)
  ·rw [if_neg (by omega)]
   go_enter Tryz.func44, Tryz.ntmps44
   go_upto_region 1 with fail
   rw [HW.out]
   go_wp2
   go_ret
   exact ⟨.slice none 0 0, rfl, ⟨_, _, rfl, .inl rfl⟩, H0.out.fr⟩
  ·rw [if_pos (by omega)]
   have j2 : (i : Int) < (N : Int) := by omega
   obtain ⟨y, hy⟩ : ∃ y, p.2[i]? = some y := ⟨_, List.getElem?_eq_getElem (by rw [NL.out]; omega)⟩
   have HY := Hid.of hy
   have row := H0.out.hs
   rw [NL.out] at row
   obtain ⟨sb, so, rfl, sl, q0, q1, q2, q3⟩ := p_at row i y hy
   clear hy row sl q0 q2 q3
   go_enter Tryz.func44, Tryz.ntmps44
   go_upto_region 1 with fail
   rw [HW.out]
   clear HW
   go_wp2_with fail
   have HV1 := Hid.of (HV.out.kept H0.out.fr)
   have B1 := Hid.of H0.out.fr
   obtain ⟨q, hq⟩ : ∃ q, w1.heap.size = q := ⟨_, rfl⟩
   obtain ⟨w2, hw2⟩ : ∃ w2, w1.alloc (.cells #[.int .i64 y.2.1, .slice none 0 0] 119) = w2 := ⟨_, rfl⟩
   have b2 : Below w1.heap.size w1 w2 := by rw [← hw2]; exact (Below.refl _ _).alloc (Nat.le_refl _) _
   have r2 : RT w2 q y.2.1 [] := ⟨.slice none 0 0, by rw [← hw2, ← hq]; exact (MapKept.heap_alloc w1 _).1, ⟨_, _, rfl, .inl rfl⟩, Nat.le_refl _, by unfold maxLen; decide⟩
   rw [hw2, hq]
   have BB2 := Hid.of b2
   have R2 := Hid.of r2
   have HQ := Hid.of hq
   have EV : Hid (tEv (now, p, fl) i = y.2.1) := Hid.of (by unfold tEv; rw [show ((now, p, fl) : RchL).2.1.2[i]? = some y from HY.out])
   clear hw2 b2 r2 c0 c1 c2 c3 q1 hq
   go_loopg [8] Z (fun kx iv wr => ∃ k : Nat, iv = .int .i64 k ∧ k ≤ Z ∧ Z - k ≤ kx ∧ Hid (RT wr q y.2.1 (iView (now, p, fl) i (ss.take k))) ∧ Hid (Below w1.heap.size w1 wr))
   case atStart => exact ⟨0, rfl, Nat.zero_le _, Nat.le_refl _, R2, BB2⟩
   case round =>
    clear R2 BB2
    obtain ⟨k, rfl, hkK, hkx, HR, HB⟩ := hrel
    have k0 : (0 : Int) ≤ (k : Int) := Int.natCast_nonneg _
    by_cases hlt : (k : Int) < (Z : Int)
    ·obtain ⟨x, hx⟩ : ∃ x, ss[k]? = some x := ⟨_, List.getElem?_eq_getElem (by have := KL.out; omega)⟩
     have XX := Hid.of hx
     have FX := Hid.of (FS.out x (List.mem_of_getElem? hx))
     obtain ⟨ab, ao, hva, al, a0, a1, a2⟩ := a_at HV1.out k x hx
     subst hva
     clear hx
     obtain ⟨bn, hbn⟩ : ∃ b, nOk x.1 = b := ⟨_, rfl⟩
     have NB := Hid.of hbn
     clear hbn
     have CSW : Hid (Cs w1 [(⟨ab, ao + k * 3, none⟩, .string x.1), (⟨ab, ao + k * 3 + 1, none⟩, .int .i64 x.2.1), (⟨ab, ao + k * 3 + 2, none⟩, .int .i64 x.2.2)]) := Hid.of (.cons al a0 (.cons al a1 (.cons al a2 (.nil _))))
     have CS0 := Hid.of (CSW.out.next HB.out)
     have V0 : Hid (iView (now, p, fl) i (ss.take (k + 1)) = if iMay x = true ∧ (rStart (now, p, fl) (i : Int) x.2.1).2 = true then tAdd y.2.1 (iView (now, p, fl) i (ss.take k)) ⟨x.1, (rStart (now, p, fl) (i : Int) x.2.1).1, agOne x.2.2⟩ else iView (now, p, fl) i (ss.take k)) := Hid.of (by
      rw [take_next XX.out, iView_next, EV.out, agOf_one FX.out.2.2])
     clear al a0 a1 a2
     go_upto_region 7 with fail
     cases bn
     ·have hm : iMay x = false := by unfold iMay; rw [NB.out]; rfl
      have hv9 : iView (now, p, fl) i (ss.take (k + 1)) = iView (now, p, fl) i (ss.take k) := by rw [V0.out, if_neg (fun c => by rw [hm] at c; cases c.1)]
      have V9 := Hid.of hv9
      clear hv9 hm
      have e0 := (CS0.out).head
      have e1 := ((CS0.out).tail).head
      have e2 := (((CS0.out).tail).tail).head
      go_wp2_with fail
      refine (refName_any x.1 FX.out.1 _).mono ?_
      rintro r w7 ⟨rfl, k7, hw7⟩
      have b7 : Below wr.heap.size wr w7 := by rw [hw7]; first | exact below_drewN ((Below.refl _ _).drew) k7 | exact below_drewN (Below.refl _ _) k7
      rw [NB.out]
      have HBB := Hid.of (HB.out.trans (b7.mono HB.out.size))
      have HRB := Hid.of (HR.out.next b7)
      have CS1 := Hid.of (CS0.out.next b7)
      clear hw7 b7 e0 e1 e2
      have e0 := (CS1.out).head
      have e1 := ((CS1.out).tail).head
      have e2 := (((CS1.out).tail).tail).head
      go_wp2_with fail
      go_roundg (Z - (k + 1))
      case measure => omega
      case rel => exact ⟨k + 1, by go_num, by omega, Nat.le_refl _, by rw [V9.out]; exact HRB, HBB⟩
     ·by_cases ht0 : x.2.1 < 0
      ·have hm : iMay x = false := by unfold iMay; rw [NB.out, decide_eq_false (by omega)]; rfl
       have hv9 : iView (now, p, fl) i (ss.take (k + 1)) = iView (now, p, fl) i (ss.take k) := by rw [V0.out, if_neg (fun c => by rw [hm] at c; cases c.1)]
       have V9 := Hid.of hv9
       clear hv9 hm
       have e0 := (CS0.out).head
       have e1 := ((CS0.out).tail).head
       have e2 := (((CS0.out).tail).tail).head
       go_wp2_with fail
       refine (refName_any x.1 FX.out.1 _).mono ?_
       rintro r w7 ⟨rfl, k7, hw7⟩
       have b7 : Below wr.heap.size wr w7 := by rw [hw7]; first | exact below_drewN ((Below.refl _ _).drew) k7 | exact below_drewN (Below.refl _ _) k7
       rw [NB.out]
       have HBB := Hid.of (HB.out.trans (b7.mono HB.out.size))
       have HRB := Hid.of (HR.out.next b7)
       have CS1 := Hid.of (CS0.out.next b7)
       clear hw7 b7 e0 e1 e2
       have e0 := (CS1.out).head
       have e1 := ((CS1.out).tail).head
       have e2 := (((CS1.out).tail).tail).head
       go_wp2_with fail
       go_roundg (Z - (k + 1))
       case measure => omega
       case rel => exact ⟨k + 1, by go_num, by omega, Nat.le_refl _, by rw [V9.out]; exact HRB, HBB⟩
      ·have hm : iMay x = true := by unfold iMay; rw [NB.out, decide_eq_true (show 0 ≤ x.2.1 by omega)]; rfl
       have HM := Hid.of hm
       clear hm
       have e0 := (CS0.out).head
       have e1 := ((CS0.out).tail).head
       have e2 := (((CS0.out).tail).tail).head
       go_wp2_with fail
       refine (refName_any x.1 FX.out.1 _).mono ?_
       rintro r w7 ⟨rfl, k7, hw7⟩
       have b7 : Below wr.heap.size wr w7 := by rw [hw7]; first | exact below_drewN ((Below.refl _ _).drew) k7 | exact below_drewN (Below.refl _ _) k7
       rw [NB.out]
       have HBB := Hid.of (HB.out.trans (b7.mono HB.out.size))
       have HRB := Hid.of (HR.out.next b7)
       have CS1 := Hid.of (CS0.out.next b7)
       clear hw7 b7 e0 e1 e2
       have e0 := (CS1.out).head
       have e1 := ((CS1.out).tail).head
       have e2 := (((CS1.out).tail).tail).head
       have QB := Hid.of (H0.out.next HBB)
       obtain ⟨c0, c1, c2, c3⟩ := QB.out.at
       have hrs := refStart_any now n _ _ p fl (i : Int) x.2.1 w7.drew (QB.out.next (Below.refl _ _).drew).hs (QB.out.next (Below.refl _ _).drew).hf FIT.out HT.out FX.out.2.1
       obtain ⟨sv, hsv⟩ : ∃ z, rStart (now, p, fl) (i : Int) x.2.1 = z := ⟨_, rfl⟩
       have SV := Hid.of hsv
       rw [hsv] at hrs
       clear hsv
       obtain ⟨sv1, sv2⟩ := sv
       go_upto_region 8 with fail
       refine wp_region_noPanic ?_
       refine wp_region_held_drew (S := fun w' => w'.cell? ⟨w.heap.size, 0, none⟩ = some (.int .i64 now) ∧ w'.cell? ⟨w.heap.size, 1, none⟩ = some (.string n) ∧ w'.cell? ⟨w.heap.size, 2, none⟩ = some (.slice (some ⟨sb, so, none⟩) N sc) ∧ w'.cell? ⟨w.heap.size, 3, none⟩ = some (.slice fa M fc) ∧ w'.cell? ⟨ab, ao + k * 3, none⟩ = some (.string x.1) ∧ w'.cell? ⟨ab, ao + k * 3 + 1, none⟩ = some (.int .i64 x.2.1) ∧ w'.cell? ⟨ab, ao + k * 3 + 2, none⟩ = some (.int .i64 x.2.2)) (by kernel_rfl) ?_ (fun hHeld => ?_)
       ·exact ⟨c0, c1, c2, c3, e0, e1, e2⟩
       refine takeOp 0 (o := ⟨_, _, _, _, _, _⟩) (v := ?_) rfl (by kernel_rfl) (by rfl) hHeld ?_ ?_; rotate_left; (next => intro w' hSw; (try dsimp only at hSw); go_simp; all_goals with_reducible rfl); simp only [Act.put, pA9, pB9, pC9]
       refine takeOp 1 (o := ⟨_, _, _, _, _, _⟩) (v := ?_) rfl (by kernel_rfl) (by rfl) hHeld ?_ ?_; rotate_left; (next => intro w' hSw; (try dsimp only at hSw); go_simp; all_goals with_reducible rfl); simp only [Act.put, pA9, pB9, pC9]
       refine takeOp 2 (o := ⟨_, _, _, _, _, _⟩) (v := ?_) rfl (by kernel_rfl) (by rfl) hHeld ?_ ?_; rotate_left; (next => intro w' hSw; (try dsimp only at hSw); go_simp; all_goals with_reducible rfl); simp only [Act.put, pA9, pB9, pC9]
       refine takeOp 3 (o := ⟨_, _, _, _, _, _⟩) (v := ?_) rfl (by kernel_rfl) (by rfl) hHeld ?_ ?_; rotate_left; (next => intro w' hSw; (try dsimp only at hSw); go_simp; all_goals with_reducible rfl); simp only [Act.put, pA9, pB9, pC9]
       refine takeOp 4 (o := ⟨_, _, _, _, _, _⟩) (v := ?_) rfl (by kernel_rfl) (by rfl) hHeld ?_ ?_; rotate_left; (next => intro w' hSw; (try dsimp only at hSw); go_simp; all_goals with_reducible rfl); simp only [Act.put, pA9, pB9, pC9]
       refine takeOp 5 (o := ⟨_, _, _, _, _, _⟩) (v := ?_) rfl (by kernel_rfl) (by rfl) hHeld ?_ ?_; rotate_left; (next => intro w' hSw; (try dsimp only at hSw); go_simp; all_goals with_reducible rfl); simp only [Act.put, pA9, pB9, pC9]
       refine takeOp 6 (o := ⟨_, _, _, _, _, _⟩) (v := ?_) rfl (by kernel_rfl) (by rfl) hHeld ?_ ?_; rotate_left; (next => intro w' hSw; (try dsimp only at hSw); go_simp; all_goals with_reducible rfl); simp only [Act.put, pA9, pB9, pC9]
       refine wpAnyH_ready (rs := [7]) (by kernel_rfl) (by simp) ?_
       refine AllReadyH.cons (o := ⟨_, _, _, _, _, _⟩) rfl (fun K hK => ?_) AllReadyH.nil
       go_simp
       refine hrs.mono ?_
       rintro e w8 ⟨rfl, b8⟩
       have b8' : Below w7.heap.size w7 w8 := by first | exact b8 | exact (Below.refl _ _).drew.trans b8
       have HB8 := Hid.of (HBB.out.trans (b8'.mono HBB.out.size))
       have HR8 := Hid.of (HRB.out.next b8')
       have CS8 := Hid.of (CS1.out.next b8')
       have QC := Hid.of (QB.out.next b8')
       clear b8 b8' hrs QB c0 c1 c2 c3 HBB HRB CS1 e0 e1 e2 hHeld
       obtain ⟨c0, c1, c2, c3⟩ := QC.out.at
       have e0 := (CS8.out).head
       have e1 := ((CS8.out).tail).head
       have e2 := (((CS8.out).tail).tail).head
       refine hK.out _ _ ⟨c0, c1, c2, c3, e0, e1, e2⟩ (fun hHeld => ?_)
       clear hK
       try simp only [Act.put, pA9, pB9, pC9]
       cases sv2
       ·have hv9 : iView (now, p, fl) i (ss.take (k + 1)) = iView (now, p, fl) i (ss.take k) := by rw [V0.out, SV.out, if_neg (fun c => by cases c.2)]
        have V9 := Hid.of hv9
        clear hv9
        refine takeOp 8 (o := ⟨_, _, _, _, _, _⟩) (v := ?_) rfl (by kernel_rfl) (by rfl) hHeld ?_ ?_; rotate_left; (next => intro w' hSw; (try dsimp only at hSw); go_simp; all_goals with_reducible rfl); simp only [Act.put, pA9, pB9, pC9]
        refine takeOp 9 (o := ⟨_, _, _, _, _, _⟩) (v := ?_) rfl (by kernel_rfl) (by rfl) hHeld ?_ ?_; rotate_left; (next => intro w' hSw; (try dsimp only at hSw); go_simp; all_goals with_reducible rfl); simp only [Act.put, pA9, pB9, pC9]
        refine takeOp 10 (o := ⟨_, _, _, _, _, _⟩) (v := ?_) rfl (by kernel_rfl) (by rfl) hHeld ?_ ?_; rotate_left; (next => intro w' hSw; (try dsimp only at hSw); go_simp; all_goals with_reducible rfl); simp only [Act.put, pA9, pB9, pC9]
        refine takeOp 11 (o := ⟨_, _, _, _, _, _⟩) (v := ?_) rfl (by kernel_rfl) (by rfl) hHeld ?_ ?_; rotate_left; (next => intro w' hSw; (try dsimp only at hSw); go_simp; all_goals with_reducible rfl); simp only [Act.put, pA9, pB9, pC9]
        refine takeOp 12 (o := ⟨_, _, _, _, _, _⟩) (v := ?_) rfl (by kernel_rfl) (by rfl) hHeld ?_ ?_; rotate_left; (next => intro w' hSw; (try dsimp only at hSw); go_simp; all_goals with_reducible rfl); simp only [Act.put, pA9, pB9, pC9]
        refine wpAnyH_done (by kernel_rfl) ?_ _
        refine NoPanic.normal ?_
        clear hHeld c0 c1 c2 c3 e0 e1 e2 QC
        go_wp2_with fail
        go_roundg (Z - (k + 1))
        case measure => omega
        case rel => exact ⟨k + 1, by go_num, by omega, Nat.le_refl _, by rw [V9.out]; exact HR8, HB8⟩
       ·have hv9 : iView (now, p, fl) i (ss.take (k + 1)) = tAdd y.2.1 (iView (now, p, fl) i (ss.take k)) ⟨x.1, sv1, agOne x.2.2⟩ := by rw [V0.out, SV.out, if_pos ⟨HM.out, rfl⟩]
        have V9 := Hid.of hv9
        clear hv9
        have hev := HC.out _ (List.mem_of_getElem? HY.out)
        have FIN : Hid (TFit ⟨x.1, sv1, agOne x.2.2⟩) := Hid.of (by
         have h := view_s (r := (now, p, fl)) HY.out hev FX.out HM.out
         unfold iRec at h
         rw [SV.out, agOf_one FX.out.2.2] at h
         exact h)
        have VOK := Hid.of (iView_ok (r := (now, p, fl)) HY.out hev (ss := ss.take k) (fun s h => FS.out s (List.mem_of_mem_take h)))
        clear hev
        refine takeOp 8 (o := ⟨_, _, _, _, _, _⟩) (v := ?_) rfl (by kernel_rfl) (by rfl) hHeld ?_ ?_; rotate_left; (next => intro w' hSw; (try dsimp only at hSw); go_simp; all_goals with_reducible rfl); simp only [Act.put, pA9, pB9, pC9]
        refine takeOp 9 (o := ⟨_, _, _, _, _, _⟩) (v := ?_) rfl (by kernel_rfl) (by rfl) hHeld ?_ ?_; rotate_left; (next => intro w' hSw; (try dsimp only at hSw); go_simp; all_goals with_reducible rfl); simp only [Act.put, pA9, pB9, pC9]
        refine takeOp 10 (o := ⟨_, _, _, _, _, _⟩) (v := ?_) rfl (by kernel_rfl) (by rfl) hHeld ?_ ?_; rotate_left; (next => intro w' hSw; (try dsimp only at hSw); go_simp; all_goals with_reducible rfl); simp only [Act.put, pA9, pB9, pC9]
        refine takeOp 11 (o := ⟨_, _, _, _, _, _⟩) (v := ?_) rfl (by kernel_rfl) (by rfl) hHeld ?_ ?_; rotate_left; (next => intro w' hSw; (try dsimp only at hSw); go_simp; all_goals with_reducible rfl); simp only [Act.put, pA9, pB9, pC9]
        refine takeOp 12 (o := ⟨_, _, _, _, _, _⟩) (v := ?_) rfl (by kernel_rfl) (by rfl) hHeld ?_ ?_; rotate_left; (next => intro w' hSw; (try dsimp only at hSw); go_simp; all_goals with_reducible rfl); simp only [Act.put, pA9, pB9, pC9]
        refine wpAnyH_done (by kernel_rfl) ?_ _
        refine NoPanic.normal ?_
        clear hHeld c0 c1 c2 c3 e0 e1 e2 QC
        go_upto_region 10 with fail
        have e0 := (CS8.out).head
        have e1 := ((CS8.out).tail).head
        have e2 := (((CS8.out).tail).tail).head
        refine wp_region_noPanic ?_
        refine wp_region_held_drew (S := fun w' => w'.cell? ⟨ab, ao + k * 3, none⟩ = some (.string x.1) ∧ w'.cell? ⟨ab, ao + k * 3 + 1, none⟩ = some (.int .i64 x.2.1) ∧ w'.cell? ⟨ab, ao + k * 3 + 2, none⟩ = some (.int .i64 x.2.2)) (by kernel_rfl) ?_ (fun hHeld => ?_)
        ·exact ⟨e0, e1, e2⟩
        refine takeOp 0 (o := ⟨_, _, _, _, _, _⟩) (v := ?_) rfl (by kernel_rfl) (by rfl) hHeld ?_ ?_; rotate_left; (next => intro w' hSw; (try dsimp only at hSw); go_simp; all_goals with_reducible rfl); simp only [Act.put, pA9, pB9, pC9]
        refine takeOp 1 (o := ⟨_, _, _, _, _, _⟩) (v := ?_) rfl (by kernel_rfl) (by rfl) hHeld ?_ ?_; rotate_left; (next => intro w' hSw; (try dsimp only at hSw); go_simp; all_goals with_reducible rfl); simp only [Act.put, pA9, pB9, pC9]
        refine takeOp 2 (o := ⟨_, _, _, _, _, _⟩) (v := ?_) rfl (by kernel_rfl) (by rfl) hHeld ?_ ?_; rotate_left; (next => intro w' hSw; (try dsimp only at hSw); go_simp; all_goals with_reducible rfl); simp only [Act.put, pA9, pB9, pC9]
        refine takeOp 3 (o := ⟨_, _, _, _, _, _⟩) (v := ?_) rfl (by kernel_rfl) (by rfl) hHeld ?_ ?_; rotate_left; (next => intro w' hSw; (try dsimp only at hSw); go_simp; all_goals with_reducible rfl); simp only [Act.put, pA9, pB9, pC9]
        refine takeOp 4 (o := ⟨_, _, _, _, _, _⟩) (v := ?_) rfl (by kernel_rfl) (by rfl) hHeld ?_ ?_; rotate_left; (next => intro w' hSw; (try dsimp only at hSw); go_simp; all_goals with_reducible rfl); simp only [Act.put, pA9, pB9, pC9]
        refine takeOp 5 (o := ⟨_, _, _, _, _, _⟩) (v := ?_) rfl (by kernel_rfl) (by rfl) hHeld ?_ ?_; rotate_left; (next => intro w' hSw; (try dsimp only at hSw); go_simp; all_goals with_reducible rfl); simp only [Act.put, pA9, pB9, pC9]
        refine takeOp 6 (o := ⟨_, _, _, _, _, _⟩) (v := ?_) rfl (by kernel_rfl) (by rfl) hHeld ?_ ?_; rotate_left; (next => intro w' hSw; (try dsimp only at hSw); go_simp; all_goals with_reducible rfl); simp only [Act.put, pA9, pB9, pC9]
        refine takeOp 7 (o := ⟨_, _, _, _, _, _⟩) (v := ?_) rfl (by kernel_rfl) (by rfl) hHeld ?_ ?_; rotate_left; (next => intro w' hSw; (try dsimp only at hSw); go_simp; all_goals with_reducible rfl); simp only [Act.put, pA9, pB9, pC9]
        refine takeOp 8 (o := ⟨_, _, _, _, _, _⟩) (v := ?_) rfl (by kernel_rfl) (by rfl) hHeld ?_ ?_; rotate_left; (next => intro w' hSw; (try dsimp only at hSw); go_simp; all_goals with_reducible rfl); simp only [Act.put, pA9, pB9, pC9]
        refine takeOp 9 (o := ⟨_, _, _, _, _, _⟩) (v := ?_) rfl (by kernel_rfl) (by rfl) hHeld ?_ ?_; rotate_left; (next => intro w' hSw; (try dsimp only at hSw); go_simp; all_goals with_reducible rfl); simp only [Act.put, pA9, pB9, pC9]
        refine takeOp 10 (o := ⟨_, _, _, _, _, _⟩) (v := ?_) rfl (by kernel_rfl) (by rfl) hHeld ?_ ?_; rotate_left; (next => intro w' hSw; (try dsimp only at hSw); go_simp; all_goals with_reducible rfl); simp only [Act.put, pA9, pB9, pC9]
        refine takeOp 11 (o := ⟨_, _, _, _, _, _⟩) (v := ?_) rfl (by kernel_rfl) (by rfl) hHeld ?_ ?_; rotate_left; (next => intro w' hSw; (try dsimp only at hSw); go_simp; all_goals with_reducible rfl); simp only [Act.put, pA9, pB9, pC9]
        refine wpAnyH_ready (rs := [12]) (by kernel_rfl) (by simp) ?_
        refine AllReadyH.cons (o := ⟨_, _, _, _, _, _⟩) rfl (fun K hK => ?_) AllReadyH.nil
        go_simp
        refine (refOne_any x.2.2 _).mono ?_
        rintro r w9 ⟨rfl, b9⟩
        have c9 := (Below.refl w8.heap.size w8).drew.trans b9
        have HB9 := Hid.of (HB8.out.trans (c9.mono HB8.out.size))
        have HR9 := Hid.of (HR8.out.next c9)
        have CS9 := Hid.of (CS8.out.next c9)
        clear c9 b9 hHeld HB8 HR8 CS8 e0 e1 e2
        have e0 := (CS9.out).head
        have e1 := ((CS9.out).tail).head
        have e2 := (((CS9.out).tail).tail).head
        refine hK.out _ _ ⟨e0, e1, e2⟩ (fun hHeld => ?_)
        clear hK
        try simp only [Act.put, pA9, pB9, pC9]
        refine takeOp 13 (o := ⟨_, _, _, _, _, _⟩) (v := ?_) rfl (by kernel_rfl) (by rfl) hHeld ?_ ?_; rotate_left; (next => intro w' hSw; (try dsimp only at hSw); go_simp; all_goals with_reducible rfl); simp only [Act.put, pA9, pB9, pC9]
        refine wpAnyH_ready (rs := [14]) (by kernel_rfl) (by simp) ?_
        refine AllReadyH.cons (o := ⟨_, _, _, _, _, _⟩) rfl (fun K hK => ?_) AllReadyH.nil
        go_simp
        refine (refTAdd_any ⟨x.1, sv1, agOne x.2.2⟩ HR9.out FIN.out VOK.out.1 (by have h1 := VOK.out.2; have h2 := List.length_take_le k ss; have h3 := KL.out; omega)).mono ?_
        rintro r w10 ⟨rfl, hrt, hst⟩
        have HRT := Hid.of hrt
        have HBT := Hid.of (hst.below HB9.out HB9.out.size (fun g hg => by have := HQ.out; omega))
        have CST := Hid.of (CSW.out.next HBT.out)
        clear hrt hst hHeld HB9 HR9 CS9 e0 e1 e2
        have e0 := (CST.out).head
        have e1 := ((CST.out).tail).head
        have e2 := (((CST.out).tail).tail).head
        refine hK.out _ _ ⟨e0, e1, e2⟩ (fun hHeld => ?_)
        clear hK
        try simp only [Act.put, pA9, pB9, pC9]
        refine wpAnyH_done (by kernel_rfl) ?_ _
        refine NoPanic.normal ?_
        clear hHeld e0 e1 e2
        go_wp2_with fail
        go_roundg (Z - (k + 1))
        case measure => omega
        case rel => exact ⟨k + 1, by go_num, by omega, Nat.le_refl _, by rw [V9.out]; exact HRT, HBT⟩
    ·obtain rfl : k = Z := by omega
     obtain ⟨u, hu, hrow, hcap⟩ := HR.out
     rw [List.take_of_length_le (Nat.le_of_eq KL.out)] at hrow
     obtain ⟨ua, uc, rfl, -⟩ := id hrow
     have l1 : wr.cell? ⟨q, 1, none⟩ = some (.slice ua (iView (now, p, fl) i ss).length uc) := by simp [World.cell?, hu]
     have HW9 := Hid.of hrow
     clear hrow hcap
     go_wp2
     go_ret
     exact ⟨_, rfl, HW9.out, B1.out.trans (HB.out.mono B1.out.size)⟩

end Go.Proofs.YtiomoobeklpkmaaGreat

namespace Go.Proofs.YtiomoobeklpkmaaGreat
open Go.RowKit Go.Lib

/-- All tiers' views. -/
def iViews (r : RchL) (all : List SamL) : List (List TRec) := (List.range r.2.1.2.length).map fun i => iView r i all

theorem iViews_get {r : RchL} {all : List SamL} {i : Nat} (h : i < r.2.1.2.length) : (iViews r all)[i]? = some (iView r i all) := by
 unfold iViews
 rw [List.getElem?_map, List.getElem?_range h]
 rfl
theorem iViews_none {r : RchL} {all : List SamL} {i : Nat} (h : r.2.1.2.length ≤ i) : (iViews r all)[i]? = none := by
 unfold iViews
 rw [List.getElem?_map, List.getElem?_eq_none (by rw [List.length_range]; exact h)]
 rfl
theorem iViews_nil (r : RchL) : iViews r [] = List.replicate r.2.1.2.length [] := by
 refine List.ext_getElem? fun i => ?_
 rw [List.getElem?_replicate]
 split
 ·rw [iViews_get ‹_›, iView_nil]
 ·rw [iViews_none (by omega)]
theorem iViews_put {r : RchL} {all ss : List SamL} (h : ∀ s ∈ ss, rTakes r s.1 s.2.1 = 0) : iPut r (iViews r all) ss = iViews r (all ++ ss) := by
 refine List.ext_getElem? fun i => ?_
 unfold iPut
 rw [List.getElem?_mapIdx]
 by_cases c : i < r.2.1.2.length
 ·rw [iViews_get c, iViews_get c, iView_put h]
  rfl
 ·rw [iViews_none (by omega), iViews_none (by omega)]
  rfl
theorem iViews_tick {r : RchL} {all : List SamL} {n : Int} (h : IGood r (iViews r all)) (n0 : 0 ≤ n) (n1 : n ≤ 2199023255552) : iKeep (iNow r n) (iViews r all) = iViews (iNow r n) all := by
 refine List.ext_getElem? fun i => ?_
 unfold iKeep
 rw [List.getElem?_mapIdx]
 by_cases c : i < r.2.1.2.length
 ·obtain ⟨x, hx⟩ : ∃ x, r.2.1.2[i]? = some x := ⟨_, List.getElem?_eq_getElem c⟩
  rw [iViews_get c, iViews_get (r := iNow r n) c]
  show some (tKeep (iView r i all) (rFromN (iNow r n) i)) = _
  rw [iView_tick hx (h.rises n0 n1 hx).1]
 ·rw [iViews_none (by omega), iViews_none (r := iNow r n) (by show r.2.1.2.length ≤ i; omega)]
  rfl
theorem iTab_views (r : RchL) (all : List SamL) (tier : Int) : iTab (iViews r all) tier = if 0 ≤ tier ∧ tier.toNat < r.2.1.2.length then iView r tier.toNat all else [] := by
 unfold iTab
 by_cases h0 : tier < 0
 ·rw [if_pos h0, if_neg (by omega)]
 ·rw [if_neg h0, List.getD_eq_getElem?_getD]
  by_cases c : tier.toNat < r.2.1.2.length
  ·rw [iViews_get c, if_pos ⟨by omega, c⟩]
   rfl
  ·rw [iViews_none (by omega), if_neg (by omega)]
   rfl

theorem iown_lt' {w : World} {D : Nat} {e : TypeId} {sz n : Nat} {v : Value} {xs : List Value} (h : w.ownsRow D e sz v n xs) {g : Nat} (hg : v.ownBlock = some g) : g < w.heap.size := (h.lt g hg).2
theorem iown_kept' {w w' : World} {D : Nat} {e : TypeId} {sz n : Nat} {v : Value} {xs : List Value} (h : w.ownsRow D e sz v n xs) (b : Below w.heap.size w w') : w'.ownsRow D e sz v n xs := (Step.of_below (F := fun _ => False) b).own h (fun _ _ c => c)
theorem addr_of {w : World} {a : Option Addr} {n c : Nat} {xs : List Value} (h : CellRow w (.slice a n c) n xs) (hx : xs ≠ []) : ∃ b o, a = some ⟨b, o, none⟩ ∧ b < w.heap.size ∧ Cells w b o xs := by
 obtain ⟨a', c', hv, h⟩ := h
 simp only [Value.slice.injEq] at hv
 obtain ⟨rfl, _, rfl⟩ := hv
 rcases h with h | h
 ·exact absurd h hx
 ·exact h
theorem iCheck_zero' {r : RchL} {ss : List SamL} (h : iCheck r ss = 0) : ss ≠ [] ∧ ss.length ≤ 8 ∧ ∀ s ∈ ss, rTakes r s.1 s.2.1 = 0 := by
 obtain ⟨h1, h2, h3⟩ := iCheck_len h
 exact ⟨h1, h2, iTakes_zero.1 h3⟩

theorem IHere.grown {TS : TableSpec} {S : TiersSpec TS} {B p : Nat} {w0 w w' : World} {r : RchL} {T : List (List TRec)} {F : TFoot} {o : Option Nat} (h : IHere S B w0 w p r T F) (g : w.grownBy w' o) (ho : ∀ k, o = some k → B ≤ k ∧ ¬ F.all k) : IHere S B w0 w' p r T F :=
 ⟨S.kept h.rep g.size (fun k hk => g.block k (S.lt h.rep k hk) (fun c => (ho k c.symm).2 hk)), h.ge, Nat.le_trans h.hB g.size, h.fr.grown g h.hB (fun k hk => (ho k hk).1)⟩

theorem tick_len {r : RchL} {n : Int} (h : iTickE r n = 0) : 0 ≤ n ∧ n ≤ maxT - r.1 := by
 unfold iTickE at h
 split at h
 ·cases h
 ·split at h
  ·cases h
  ·omega

end Go.Proofs.YtiomoobeklpkmaaGreat
