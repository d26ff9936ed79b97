/-
 A bundle of texts: POI RCV TRS.
-/
import Derived.Deep.RegionHeld3
import Derived.Test.YtiomoobeklpkmaaGreatV23
import Derived.Test.YtiomoobeklpkmaaGreatV33
import Derived.Test.YtiomoobeklpkmaaGreatV21
import Derived.Test.YtiomoobeklpkmaaGreatV11
namespace Go.Proofs.YtiomoobeklpkmaaGreat
open Go.ChangeShapes Go.WideShapes Go.ChangeAt Go.RowKit Go.Lib

theorem tier_leaves : leaves Tryz.prog 2 105 = some [9, 3, 3, 3] := by kernel_rfl
theorem tier_size : Tryz.prog.cellsOf 105 = 4 := by kernel_rfl
theorem pol_leaves : leaves Tryz.prog 2 24 = some [9, 22] := by kernel_rfl
theorem pol_size : Tryz.prog.cellsOf 24 = 2 := by kernel_rfl

theorem in64_of (n : Int) (h : (Lit.int .i64 n).wf = true) : In64 n := int_bounds h

/-- What is told of a tier that came in. -/
def TIn (x : TierL) : Prop := x.1.size ≤ maxLen ∧ In64 x.2.1 ∧ In64 x.2.2.1 ∧ In64 x.2.2.2

theorem tiers_of_trod {H : Type} {enc : TypeId × Value → H} {W : World} {sp : Nat → Bool} {a : Option Addr} {len cap : Nat} {d : DataW H} {ps : List MemPlace} (h : DataW.Trod enc Tryz.prog W 0 sp true 22 (.slice a len cap) d ps) :
  ∃ l : List TierL, l.length = len ∧ CellRow W (.slice a len cap) len (flat penc l) ∧ ∀ x ∈ l, TIn x :=
 rows_of_trod Tryz.underlying22 tier_size (by decide) penc_len TIn (⟨#[]⟩, 0, 0, 0) (fun fuel cs x hl hx => by
  have hF := leaf_at 2 _ _ cs fuel x tier_leaves (by rw [tier_size]; omega) hx
  obtain ⟨n0, c0, w0⟩ := leaf_string Tryz.underlying9 (hF 0 _ rfl)
  obtain ⟨n1, c1, w1⟩ := leaf_int Tryz.underlying3 (hF 1 _ rfl)
  obtain ⟨n2, c2, w2⟩ := leaf_int Tryz.underlying3 (hF 2 _ rfl)
  obtain ⟨n3, c3, w3⟩ := leaf_int Tryz.underlying3 (hF 3 _ rfl)
  refine ⟨(n0, n1, n2, n3), ?_, w0, ?_⟩
  ·match cs, hl with
   | [x0, x1, x2, x3], _ =>
    simp at c0 c1 c2 c3
    subst c0 c1 c2 c3
    rfl
  ·exact ⟨in64_of n1 w1, in64_of n2 w2, in64_of n3 w3⟩) h

theorem cap_of_trod {H : Type} {enc : TypeId × Value → H} {P : Program} {W : World} {sp : Nat → Bool} {ty e : TypeId} {a : Option Addr} {len cap : Nat} {d : DataW H} {ps : List MemPlace} (ht : P.underlying ty = some (.slice e)) (h : DataW.Trod enc P W 0 sp true ty (.slice a len cap) d ps) : CapOk (.slice a len cap) := by
 obtain ⟨fuel, hf⟩ := h
 rcases DataW.trod_slice ht hf with ⟨h1, _⟩ | ⟨a', len', cap', elems, rest, n, _, h1, _, _, h2, _⟩
 ·simp [Value.cells] at h1
  obtain ⟨_, rfl, rfl⟩ := h1
  exact Nat.le_refl _
 ·simp [Value.cells] at h1
  obtain ⟨_, rfl, rfl⟩ := h1
  exact h2

set_option maxRecDepth 20000 in
/-- One that came in by value. -/
theorem pol_of_trod {H : Type} {enc : TypeId × Value → H} {W : World} {sp : Nat → Bool} {r : Reach} {b0 : Nat} {v : Value} {d : DataW H} {ps : List MemPlace} (hv : Value.okWide Tryz.prog W r b0 24 v)
  (h : DataW.Trod enc Tryz.prog W 0 sp true 24 v d ps) : ∃ p : PolL, PolRow W v p ∧ p.1.size ≤ maxLen ∧ ∀ x ∈ p.2, TIn x := by
 obtain ⟨cs, rfl, hsz⟩ := okWide_struct Tryz.underlying24 hv
 obtain ⟨fuel, hf⟩ := h
 have hl : cs.toList.length = 2 := Array.length_toList.trans (hsz.trans pol_size)
 have hF := leaf_at 2 _ _ cs.toList fuel _ pol_leaves (by rw [pol_size]; omega) hf
 obtain ⟨n0, c0, w0⟩ := leaf_string Tryz.underlying9 (hF 0 _ rfl)
 obtain ⟨a1, l1, k1, d1, p1, c1, t1⟩ := leaf_slice Tryz.underlying22 (hF 1 _ rfl)
 obtain ⟨l, hlen, hr, ht⟩ := tiers_of_trod t1
 refine ⟨(n0, l), ⟨.slice a1 l1 k1, ?_, by rw [hlen]; exact hr, cap_of_trod Tryz.underlying22 t1⟩, w0, ht⟩
 have e : cs.toList = [.string n0, .slice a1 l1 k1] := by
  match hcs : cs.toList, hl with
  | [x0, x1], _ =>
   rw [hcs] at c0 c1
   simp at c0 c1
   rw [c0, c1]
 rw [← Array.toArray_toList (xs := cs), e]

/-- A small one that came in fits. -/
theorem fit_of {p : PolL} (h : ∀ x ∈ p.2, TIn x) (s : PSmall p) : PFit p :=
 ⟨by have := s.1; omega, by have := s.2.1; omega, fun x hx => ⟨by have := s.2.2 x hx; omega, (h x hx).2⟩⟩

end Go.Proofs.YtiomoobeklpkmaaGreat

namespace Go.Proofs.YtiomoobeklpkmaaGreat
open Go.RowKit Go.Lib

theorem rFrom_nat (r : RchL) (j : Nat) : rFrom r (j : Int) = rFromN r j := by
 unfold rFrom
 rw [if_neg (by omega)]
 rfl

section
variable {S : ReachSpec} {w0 w w' : World} {b4 b6 b9 : Nat} {n sn : ByteArray} {sl s f : Value} {t x now : Int} {r : RchL}
end

end Go.Proofs.YtiomoobeklpkmaaGreat

namespace Go.Proofs.YtiomoobeklpkmaaGreat
open Go.ChangeShapes Go.WideShapes Go.ChangeAt Go.RowKit Go.Lib

theorem rec_leaves' : leaves Tryz.prog 3 101 = some [9, 3, 3, 3, 97, 3, 3] := by kernel_rfl
theorem rec_size' : Tryz.prog.cellsOf 101 = 7 := by kernel_rfl

theorem tin64_of (n : Int) (h : (Lit.int .i64 n).wf = true) : TIn64 n := int_bounds h

theorem u64_of (n : Int) (h : (Lit.int .u64 n).wf = true) : 0 ≤ n ∧ n < 18446744073709551616 := word_bounds h

/-- A record out of its cells. -/
def trec (x : RecL) : TRec := ⟨x.1, x.2.1, ⟨x.2.2.1, x.2.2.2.1, x.2.2.2.2.1, x.2.2.2.2.2.1, x.2.2.2.2.2.2⟩⟩

theorem rl_trec (x : RecL) : rl (trec x) = x := rfl

theorem map_trec (l : List RecL) : (l.map trec).map rl = l := by
 rw [List.map_map]
 exact (List.map_congr_left (fun x _ => rl_trec x)).trans (List.map_id l)

theorem recs_of_trod {H : Type} {enc : TypeId × Value → H} {W : World} {sp : Nat → Bool} {a : Option Addr} {len cap : Nat} {d : DataW H} {ps : List MemPlace} (h : DataW.Trod enc Tryz.prog W 0 sp true 88 (.slice a len cap) d ps) :
  ∃ rs : List TRec, rs.length = len ∧ CellRow W (.slice a len cap) rs.length (flat renc (rs.map rl)) ∧ ∀ r ∈ rs, TFit r := by
 obtain ⟨l, hl, hr, hi⟩ : ∃ l : List RecL, l.length = len ∧ CellRow W (.slice a len cap) len (flat renc l) ∧ ∀ x ∈ l, TFit (trec x) :=
  rows_of_trod Tryz.underlying88 rec_size' (by decide) renc_len (fun x => TFit (trec x)) (⟨#[]⟩, 0, 0, 0, 0, 0, 0) (fun fuel cs x hl hx => by
   have hF := leaf_at 3 _ _ cs fuel x rec_leaves' (by rw [rec_size']; omega) hx
   obtain ⟨n0, c0, w0⟩ := leaf_string Tryz.underlying9 (hF 0 _ rfl)
   obtain ⟨n1, c1, w1⟩ := leaf_int Tryz.underlying3 (hF 1 _ rfl)
   obtain ⟨n2, c2, w2⟩ := leaf_int Tryz.underlying3 (hF 2 _ rfl)
   obtain ⟨n3, c3, w3⟩ := leaf_int Tryz.underlying3 (hF 3 _ rfl)
   obtain ⟨n4, c4, w4⟩ := leaf_int Tryz.underlying97 (hF 4 _ rfl)
   obtain ⟨n5, c5, w5⟩ := leaf_int Tryz.underlying3 (hF 5 _ rfl)
   obtain ⟨n6, c6, w6⟩ := leaf_int Tryz.underlying3 (hF 6 _ rfl)
   refine ⟨(n0, n1, n2, n3, n4, n5, n6), ?_, w0, tin64_of n1 w1, tin64_of n2 w2, tin64_of n3 w3, u64_of n4 w4, tin64_of n5 w5, tin64_of n6 w6⟩
   match cs, hl with
   | [x0, x1, x2, x3, x4, x5, x6], _ =>
    simp at c0 c1 c2 c3 c4 c5 c6
    subst c0 c1 c2 c3 c4 c5 c6
    rfl) h
 refine ⟨l.map trec, by rw [List.length_map]; exact hl, by rw [map_trec, List.length_map, hl]; exact hr, fun r hr' => ?_⟩
 obtain ⟨x, hx, rfl⟩ := List.mem_map.1 hr'
 exact hi x hx

end Go.Proofs.YtiomoobeklpkmaaGreat
