/-
  A bundle of texts: IOP ISM ILT ITK IVN.
-/
import Derived.Deep.QuietTactic
import Derived.BigQuiet
import Derived.Deep.RegionHeld3
import Derived.Test.YtiomoobeklpkmaaGreatS26
import Derived.Test.YtiomoobeklpkmaaGreatS21
import Derived.Test.YtiomoobeklpkmaaGreatS35
import Derived.Test.YtiomoobeklpkmaaGreatS30
import Derived.Test.YtiomoobeklpkmaaGreatS37
import Derived.Test.YtiomoobeklpkmaaGreatS18
import Derived.Test.YtiomoobeklpkmaaGreatS11
namespace Go.Proofs.YtiomoobeklpkmaaGreat
open Go.RowKit Go.Lib

/-- A step, as its cells; ss, ls: what its lists hold. -/
structure IOpL where
  k : Int
  n : Int
  sa : Option Addr
  sc : Nat
  ss : List SamL
  la : Option Addr
  lc : Nat
  ls : List TRec

def IOpL.cells (o : IOpL) : List Value := [.int .i64 o.k, .int .i64 o.n, .slice o.sa o.ss.length o.sc, .slice o.la o.ls.length o.lc]
theorem IOpL.len (o : IOpL) : o.cells.length = 4 := rfl

/-- A step's lists. -/
structure IOpIn (w : World) (o : IOpL) : Prop where
  s : CellRow w (.slice o.sa o.ss.length o.sc) o.ss.length (flat aenc o.ss)
  sc : o.ss.length ≤ o.sc
  sf : ∀ x ∈ o.ss, SFit x
  l : CellRow w (.slice o.la o.ls.length o.lc) o.ls.length (flat renc (o.ls.map rl))
  lc : o.ls.length ≤ o.lc
  lf : ∀ x ∈ o.ls, TFit x
  k : In64 o.k
  n : In64 o.n

theorem IOpIn.kept {w w' : World} {o : IOpL} (h : IOpIn w o) (b : Below w.heap.size w w') : IOpIn w' o := ⟨h.s.kept b, h.sc, h.sf, h.l.kept b, h.lc, h.lf, h.k, h.n⟩

/-- The steps that the slice v holds. -/
def IOpsRow (w : World) (v : Value) (l : List IOpL) : Prop := CellRow w v l.length (flat IOpL.cells l) ∧ ∀ o ∈ l, IOpIn w o

theorem IOpsRow.kept {w w' : World} {v : Value} {l : List IOpL} (h : IOpsRow w v l) (b : Below w.heap.size w w') : IOpsRow w' v l := ⟨h.1.kept b, fun o ho => (h.2 o ho).kept b⟩

theorem iop_at {w : World} {a : Option Addr} {n c : Nat} {l : List IOpL} (h : CellRow w (.slice a n c) n (flat IOpL.cells l)) (j : Nat) (x : IOpL) (hx : l[j]? = some x) : ∃ b o, a = some ⟨b, o, none⟩ ∧ b < w.heap.size ∧
    w.cell? ⟨b, o + j * 4, none⟩ = some (.int .i64 x.k) ∧ w.cell? ⟨b, o + j * 4 + 1, none⟩ = some (.int .i64 x.n) ∧ w.cell? ⟨b, o + j * 4 + 2, none⟩ = some (.slice x.sa x.ss.length x.sc) ∧ w.cell? ⟨b, o + j * 4 + 3, none⟩ = some (.slice x.la x.ls.length x.lc) := by
  obtain ⟨a', c', hv, h⟩ := h
  simp only [Value.slice.injEq] at hv
  obtain ⟨rfl, _, rfl⟩ := hv
  have hj := (List.getElem?_eq_some_iff.1 hx).1
  rcases h with h | ⟨b, o, ha, hl, hc⟩
  · have := flat_length IOpL.len l
    rw [h, List.length_nil] at this
    omega
  · refine ⟨b, o, ha, hl, ?_, ?_, ?_, ?_⟩
    · exact hc (j * 4 + 0) _ ((flat_at IOpL.len l j x hx 0 (by decide)).trans rfl)
    · exact hc (j * 4 + 1) _ ((flat_at IOpL.len l j x hx 1 (by decide)).trans rfl)
    · exact hc (j * 4 + 2) _ ((flat_at IOpL.len l j x hx 2 (by decide)).trans rfl)
    · exact hc (j * 4 + 3) _ ((flat_at IOpL.len l j x hx 3 (by decide)).trans rfl)

theorem sam_leaves : leaves Tryz.prog 2 178 = some [9, 3, 3] := by kernel_rfl
theorem sam_size : Tryz.prog.cellsOf 178 = 3 := by kernel_rfl

theorem sams_of_trod {H : Type} {enc : TypeId × Value → H} {W : World} {sp : Nat → Bool} {a : Option Addr} {len cap : Nat} {d : DataW H} {ps : List MemPlace} (h : DataW.Trod enc Tryz.prog W 0 sp true 87 (.slice a len cap) d ps) :
    ∃ ss : List SamL, ss.length = len ∧ CellRow W (.slice a len cap) ss.length (flat aenc ss) ∧ ss.length ≤ cap ∧ ∀ s ∈ ss, SFit s := by
  have hc := cap_of_trod Tryz.underlying87 h
  obtain ⟨l, hl, hr, hi⟩ : ∃ l : List SamL, l.length = len ∧ CellRow W (.slice a len cap) len (flat aenc l) ∧ ∀ x ∈ l, SFit x :=
    rows_of_trod Tryz.underlying87 sam_size (by decide) aenc_len SFit (⟨#[]⟩, 0, 0) (fun fuel cs x hl hx => by
      have hF := leaf_at 2 _ _ cs fuel x sam_leaves (by rw [sam_size]; omega) hx
      obtain ⟨n0, c0, w0⟩ := leaf_string Tryz.underlying9 (hF 0 _ rfl)
      obtain ⟨n1, c1, w1⟩ := leaf_int Tryz.underlying3 (hF 1 _ rfl)
      obtain ⟨n2, c2, w2⟩ := leaf_int Tryz.underlying3 (hF 2 _ rfl)
      refine ⟨(n0, n1, n2), ?_, w0, tin64_of n1 w1, tin64_of n2 w2⟩
      match cs, hl with
      | [x0, x1, x2], _ =>
        simp at c0 c1 c2
        subst c0 c1 c2
        rfl) h
  exact ⟨l, hl, by rw [hl]; exact hr, by rw [hl]; exact hc, hi⟩

theorem iop_leaves : leaves Tryz.prog 2 90 = some [3, 3, 87, 88] := by kernel_rfl
theorem iop_size : Tryz.prog.cellsOf 90 = 4 := by kernel_rfl

theorem iops_of_trod {H : Type} {enc : TypeId × Value → H} {W : World} {sp : Nat → Bool} {a : Option Addr} {len cap : Nat} {d : DataW H} {ps : List MemPlace} (h : DataW.Trod enc Tryz.prog W 0 sp true 68 (.slice a len cap) d ps) :
    ∃ l : List IOpL, l.length = len ∧ IOpsRow W (.slice a len cap) l := by
  obtain ⟨l, h1, h2, h3⟩ := rows_of_trod Tryz.underlying68 iop_size (by decide) IOpL.len (fun o : IOpL => IOpIn W o) ⟨0, 0, none, 0, [], none, 0, []⟩ (fun fuel cs x hl hx => by
    have hF := leaf_at 2 _ _ cs fuel x iop_leaves (by rw [iop_size]; omega) hx
    obtain ⟨n0, c0, w0⟩ := leaf_int Tryz.underlying3 (hF 0 _ rfl)
    obtain ⟨n1, c1, w1⟩ := leaf_int Tryz.underlying3 (hF 1 _ rfl)
    obtain ⟨a2, l2, k2, d2, p2, c2, t2⟩ := leaf_slice Tryz.underlying87 (hF 2 _ rfl)
    obtain ⟨a3, l3, k3, d3, p3, c3, t3⟩ := leaf_slice Tryz.underlying88 (hF 3 _ rfl)
    obtain ⟨ss, e2, r2, q2, f2⟩ := sams_of_trod t2
    obtain ⟨ls, e3, r3, f3⟩ := recs_of_trod t3
    have q3 := cap_of_trod Tryz.underlying88 t3
    subst e2 e3
    refine ⟨⟨n0, n1, a2, k2, ss, a3, k3, ls⟩, ?_, ⟨r2, q2, f2, r3, q3, f3, tin64_of n0 w0, tin64_of n1 w1⟩⟩
    match cs, hl with
    | [x0, x1, x2, x3], _ =>
      simp at c0 c1 c2 c3
      subst c0 c1 c2 c3
      rfl) h
  exact ⟨l, h1, by rw [h1]; exact h2, h3⟩

/-- Few samples, short names. -/
def SFew (k : Nat) (l : List SamL) : Prop := l.length ≤ k ∧ ∀ x ∈ l, x.1.size ≤ 60

end Go.Proofs.YtiomoobeklpkmaaGreat

namespace Go.Proofs.YtiomoobeklpkmaaGreat
open Go.RowKit Go.Lib

set_option maxRecDepth 20000 in
set_option maxHeartbeats 800000 in
theorem Some_any (k : Nat) (v : Value) (l : List SamL) (w : World) (hv : CellRow w v l.length (flat aenc l)) (hk : k ≤ 1000) :
    Calls Tryz.prog 45 #[.int .i64 k, v] w fun e w' => ∃ r : Bool, e = .returned (.bool r) ∧ Hid (r = true → SFew k l) ∧ Below w.heap.size w w' := by
  have HV := Hid.of hv
  obtain ⟨sa, sc, rfl, -⟩ := hv
  go_enter Tryz.func45, Tryz.ntmps45
  go_wp2
  go_loopw [5] (fun i wr => ∃ j : Nat, j ≤ l.length ∧ j ≤ k ∧ i = .int .i64 j ∧ Hid (∀ x ∈ l.take j, x.1.size ≤ 60) ∧ Below w.heap.size w wr) (fun i _ => k - (RowKit.intOf i).toNat)
  case atStart => exact ⟨0, Nat.zero_le _, Nat.zero_le _, rfl, Hid.of (by simp), Below.refl _ _⟩
  case round =>
    obtain ⟨j, hj, hjk, rfl, A, hb⟩ := hrel
    have i0 : (0 : Int) ≤ (j : Int) := Int.natCast_nonneg _
    by_cases hlt : j < l.length
    · have i1 : (j : Int) < (l.length : Int) := by omega
      by_cases h12 : j < k
      · have i2 : (j : Int) < (k : Int) := by omega
        obtain ⟨b1, o1, rfl, hl1, hc1⟩ := a_at HV.out j l[j] (by simp [hlt])
        obtain ⟨x, hx⟩ : ∃ x, l[j] = x := ⟨_, rfl⟩
        rw [hx] at hc1
        obtain ⟨d0, -⟩ := hc1
        rw [← hb.cell hl1] at d0
        have HX := Hid.of hx
        have j9 : (j : Int) ≤ 1000 := by omega
        by_cases h60 : x.1.size ≤ 60
        · have i3 : ¬ (60 : Int) < (x.1.size : Int) := by omega
          clear hx
          go_wp2
          go_roundw
          case rel =>
            refine ⟨j + 1, by omega, by omega, by go_num, Hid.of ?_, hb⟩
            intro y hy
            rw [List.take_succ_eq_append_getElem hlt, List.mem_append, List.mem_singleton, HX.out] at hy
            rcases hy with hy | rfl
            · exact A.out y hy
            · exact h60
          case measure => simp [RowKit.intOf]; omega
        · have i3 : (60 : Int) < (x.1.size : Int) := by omega
          clear hx
          go_wp2
          go_ret
          exact ⟨false, rfl, Hid.of (fun h => by cases h), hb⟩
      · have i2 : ¬ (j : Int) < (k : Int) := by omega
        have i3 : ¬ (l.length : Int) ≤ (k : Int) := by omega
        go_wp2
        go_ret
        exact .inl ⟨rfl, Hid.of trivial, hb⟩
    · have i1 : ¬ (j : Int) < (l.length : Int) := by omega
      have hjl : j = l.length := by omega
      have i3 : (l.length : Int) ≤ (k : Int) := by omega
      go_wp2
      go_ret
      refine .inr ⟨rfl, Hid.of ⟨by omega, fun x hx => ?_⟩, hb⟩
      have := A.out x
      rw [hjl, List.take_length] at this
      exact this hx

end Go.Proofs.YtiomoobeklpkmaaGreat

namespace Go.Proofs.YtiomoobeklpkmaaGreat
open Go.RowKit Go.Lib

theorem take_next {α : Type} {l : List α} {k : Nat} {x : α} (h : l[k]? = some x) : l.take (k + 1) = l.take k ++ [x] := by
  obtain ⟨hk, hx⟩ := List.getElem?_eq_some_iff.1 h
  rw [List.take_succ_eq_append_getElem hk, hx]

def ILight (l : List IOpL) : Prop := l.length ≤ 50 ∧ ∀ o ∈ l, SFew 20 o.ss ∧ o.ls.length ≤ 20

set_option maxRecDepth 20000 in
set_option maxHeartbeats 3200000 in
theorem Light_any (v : Value) (l : List IOpL) (w : World) (hv : IOpsRow w v l) :
    Calls Tryz.prog 29 #[v] w fun e w' => ∃ r : Bool, e = .returned (.bool r) ∧ Hid (r = true → ILight l) ∧ Below w.heap.size w w' := by
  have HV := Hid.of hv
  obtain ⟨⟨va, vc, rfl, -⟩, -⟩ := hv
  obtain ⟨N, hN⟩ : ∃ N, l.length = N := ⟨_, rfl⟩
  have NL := Hid.of hN
  have HR : Hid (CellRow w (.slice va N vc) N (flat IOpL.cells l)) := Hid.of (by rw [← hN]; exact HV.out.1)
  rw [hN]
  clear hN
  go_enter Tryz.func29, Tryz.ntmps29
  go_wp2
  go_loopg [3] N (fun kx iv wr => ∃ i : Nat, iv = .int .i64 i ∧ i ≤ N ∧ i ≤ 200 ∧ N - i ≤ kx ∧ Hid (∀ o ∈ l.take i, SFew 20 o.ss ∧ o.ls.length ≤ 20) ∧ Hid (Below w.heap.size w wr))
  case atStart => exact ⟨0, rfl, Nat.zero_le _, Nat.zero_le _, Nat.le_refl _, Hid.of (by simp), Hid.of (Below.refl _ _)⟩
  case round =>
    obtain ⟨i, rfl, hiN, hi2, hkx, HA, HB⟩ := hrel
    have i0 : (0 : Int) ≤ (i : Int) := Int.natCast_nonneg _
    by_cases hlt : (i : Int) < (N : Int)
    · by_cases h2 : (i : Int) < 200
      · obtain ⟨o, ho⟩ : ∃ o, l[i]? = some o := ⟨_, List.getElem?_eq_getElem (by have := NL.out; omega)⟩
        have OO := Hid.of ho
        have OI := Hid.of ((HV.out.2 o (List.mem_of_getElem? ho)).kept HB.out)
        obtain ⟨bq, o1, rfl, hb1, c0, c1, c2, c3⟩ := iop_at (HR.out.kept HB.out) i o ho
        have hs := Some_any 20 _ o.ss wr OI.out.s (by decide)
        obtain ⟨sn, hsn⟩ : ∃ n, o.ss.length = n := ⟨_, rfl⟩
        obtain ⟨ln, hln⟩ : ∃ n, o.ls.length = n := ⟨_, rfl⟩
        rw [hsn] at hs c2
        have SN := Hid.of hsn
        have LN := Hid.of hln
        rw [hln] at c3
        have hin : i < N := by omega
        clear ho hsn hln
        go_wp2_with fail
        refine hs.mono ?_
        rintro e w1 ⟨ok, rfl, HS, b1⟩
        have HB1 := Hid.of (HB.out.trans (b1.mono HB.out.size))
        have hf := Few_any 20 (.slice o.la o.ls.length o.lc) (o.ls.map rl) w1 (by rw [List.length_map]; exact OI.out.l.kept b1) (by decide)
        have d3 : w1.cell? ⟨bq, o1 + i * 4 + 3, none⟩ = some (.slice o.la ln o.lc) := by rw [b1.cell hb1]; exact c3
        have HIN := Hid.of hin
        rw [LN.out] at hf
        clear hs b1 hb1 c0 c1 c2 c3 hin
        cases ok
        · go_wp2
          go_ret
          exact ⟨false, rfl, Hid.of (fun h => by cases h), HB1.out⟩
        · go_wp2_with fail
          refine hf.mono ?_
          rintro e w2 ⟨ok2, rfl, HF, b2⟩
          have HB2 := Hid.of (HB1.out.trans (b2.mono HB1.out.size))
          clear b2 hf
          cases ok2
          · go_wp2
            go_ret
            exact ⟨false, rfl, Hid.of (fun h => by cases h), HB2.out⟩
          · go_wp2
            go_roundg (N - (i + 1))
            case measure => have := HIN.out; omega
            case rel =>
              refine ⟨i + 1, by go_num, HIN.out, by omega, Nat.le_refl _, Hid.of (fun y hy => ?_), HB2⟩
              rw [take_next OO.out] at hy
              rcases List.mem_append.1 hy with hy | hy
              · exact HA.out y hy
              · rw [List.mem_singleton.1 hy]
                have := (HF.out (by first | rfl | trivial)).1
                rw [List.length_map] at this
                exact ⟨HS.out (by first | rfl | trivial), this⟩
      · have h3 : ¬ (N : Int) ≤ 50 := by omega
        go_wp2
        go_ret
        exact .inl ⟨rfl, Hid.of trivial, HB.out⟩
    · obtain rfl : i = N := by omega
      by_cases h3 : (i : Int) ≤ 50
      · go_wp2
        go_ret
        refine .inr ⟨rfl, Hid.of ⟨by rw [NL.out]; omega, fun o ho => ?_⟩, HB.out⟩
        have := HA.out
        rw [List.take_of_length_le (by rw [NL.out]; exact Nat.le_refl _)] at this
        exact this o ho
      · go_wp2
        go_ret
        exact .inl ⟨rfl, Hid.of trivial, HB.out⟩

end Go.Proofs.YtiomoobeklpkmaaGreat

namespace Go.Proofs.YtiomoobeklpkmaaGreat
open Go.RowKit Go.Lib

theorem sams_ne {ss : List SamL} (h : ss ≠ []) : flat aenc ss ≠ [] := fun c => by
  have := flat_length aenc_len ss
  rw [c, List.length_nil] at this
  exact h (List.length_eq_zero_iff.1 (by omega))
theorem iCheck_len {r : RchL} {ss : List SamL} (h : iCheck r ss = 0) : ss ≠ [] ∧ ss.length ≤ 8 ∧ iTakes r ss = 0 := by
  unfold iCheck at h
  split at h
  · cases h
  · split at h
    · cases h
    · exact ⟨‹_›, by omega, h⟩
end Go.Proofs.YtiomoobeklpkmaaGreat

namespace Go.Proofs.YtiomoobeklpkmaaGreat
open Go.RowKit Go.Lib

/-- All tiers' views. -/
def iViews (r : RchL) (all : List SamL) : List (List TRec) := (List.range r.2.1.2.length).map fun i => iView r i all

theorem iViews_get {r : RchL} {all : List SamL} {i : Nat} (h : i < r.2.1.2.length) : (iViews r all)[i]? = some (iView r i all) := by
  unfold iViews
  rw [List.getElem?_map, List.getElem?_range h]
  rfl
theorem iViews_none {r : RchL} {all : List SamL} {i : Nat} (h : r.2.1.2.length ≤ i) : (iViews r all)[i]? = none := by
  unfold iViews
  rw [List.getElem?_map, List.getElem?_eq_none (by rw [List.length_range]; exact h)]
  rfl
theorem iViews_nil (r : RchL) : iViews r [] = List.replicate r.2.1.2.length [] := by
  refine List.ext_getElem? fun i => ?_
  rw [List.getElem?_replicate]
  split
  · rw [iViews_get ‹_›, iView_nil]
  · rw [iViews_none (by omega)]
theorem iViews_put {r : RchL} {all ss : List SamL} (h : ∀ s ∈ ss, rTakes r s.1 s.2.1 = 0) : iPut r (iViews r all) ss = iViews r (all ++ ss) := by
  refine List.ext_getElem? fun i => ?_
  unfold iPut
  rw [List.getElem?_mapIdx]
  by_cases c : i < r.2.1.2.length
  · rw [iViews_get c, iViews_get c, iView_put h]
    rfl
  · rw [iViews_none (by omega), iViews_none (by omega)]
    rfl
theorem iViews_tick {r : RchL} {all : List SamL} {n : Int} (h : IGood r (iViews r all)) (n0 : 0 ≤ n) (n1 : n ≤ 2199023255552) : iKeep (iNow r n) (iViews r all) = iViews (iNow r n) all := by
  refine List.ext_getElem? fun i => ?_
  unfold iKeep
  rw [List.getElem?_mapIdx]
  by_cases c : i < r.2.1.2.length
  · obtain ⟨x, hx⟩ : ∃ x, r.2.1.2[i]? = some x := ⟨_, List.getElem?_eq_getElem c⟩
    rw [iViews_get c, iViews_get (r := iNow r n) c]
    show some (tKeep (iView r i all) (rFromN (iNow r n) i)) = _
    rw [iView_tick hx (h.rises n0 n1 hx).1]
  · rw [iViews_none (by omega), iViews_none (r := iNow r n) (by show r.2.1.2.length ≤ i; omega)]
    rfl
theorem iTab_views (r : RchL) (all : List SamL) (tier : Int) : iTab (iViews r all) tier = if 0 ≤ tier ∧ tier.toNat < r.2.1.2.length then iView r tier.toNat all else [] := by
  unfold iTab
  by_cases h0 : tier < 0
  · rw [if_pos h0, if_neg (by omega)]
  · rw [if_neg h0, List.getD_eq_getElem?_getD]
    by_cases c : tier.toNat < r.2.1.2.length
    · rw [iViews_get c, if_pos ⟨by omega, c⟩]
      rfl
    · rw [iViews_none (by omega), if_neg (by omega)]
      rfl

theorem iCheck_zero' {r : RchL} {ss : List SamL} (h : iCheck r ss = 0) : ss ≠ [] ∧ ss.length ≤ 8 ∧ ∀ s ∈ ss, rTakes r s.1 s.2.1 = 0 := by
  obtain ⟨h1, h2, h3⟩ := iCheck_len h
  exact ⟨h1, h2, iTakes_zero.1 h3⟩

theorem IHere.grown {TS : TableSpec} {S : TiersSpec TS} {B p : Nat} {w0 w w' : World} {r : RchL} {T : List (List TRec)} {F : TFoot} {o : Option Nat} (h : IHere S B w0 w p r T F) (g : w.grownBy w' o) (ho : ∀ k, o = some k → B ≤ k ∧ ¬ F.all k) : IHere S B w0 w' p r T F :=
  ⟨S.kept h.rep g.size (fun k hk => g.block k (S.lt h.rep k hk) (fun c => (ho k c.symm).2 hk)), h.ge, Nat.le_trans h.hB g.size, h.fr.grown g h.hB (fun k hk => (ho k hk).1)⟩

theorem tick_len {r : RchL} {n : Int} (h : iTickE r n = 0) : 0 ≤ n ∧ n ≤ maxT - r.1 := by
  unfold iTickE at h
  split at h
  · cases h
  · split at h
    · cases h
    · omega

end Go.Proofs.YtiomoobeklpkmaaGreat
