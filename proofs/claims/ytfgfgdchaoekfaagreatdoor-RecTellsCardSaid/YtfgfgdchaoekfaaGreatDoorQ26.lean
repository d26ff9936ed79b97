/-
  A bundle of texts: TRS.
-/
import Derived.Test.YtfgfgdchaoekfaaGreatDoorQ19
import Derived.Test.YtfgfgdchaoekfaaGreatDoorQ22
import Derived.Test.YtfgfgdchaoekfaaGreatDoorQ17
namespace Go.Proofs.YtfgfgdchaoekfaaGreatDoor
open Go.ChangeShapes Go.WideShapes Go.ChangeAt Go.RowKit Go.Lib

theorem rec_leaves' : leaves Tryz.prog 3 50 = some [9, 3, 3, 3, 46, 3, 3] := by kernel_rfl
theorem rec_size' : Tryz.prog.cellsOf 50 = 7 := by kernel_rfl

theorem tin64_of (n : Int) (h : (Lit.int .i64 n).wf = true) : TIn64 n := int_bounds h

theorem u64_of (n : Int) (h : (Lit.int .u64 n).wf = true) : 0 ≤ n ∧ n < 18446744073709551616 := word_bounds h

/-- A record out of its cells. -/
def trec (x : RecL) : TRec := ⟨x.1, x.2.1, ⟨x.2.2.1, x.2.2.2.1, x.2.2.2.2.1, x.2.2.2.2.2.1, x.2.2.2.2.2.2⟩⟩

theorem rl_trec (x : RecL) : rl (trec x) = x := rfl

theorem map_trec (l : List RecL) : (l.map trec).map rl = l := by
  rw [List.map_map]
  exact (List.map_congr_left (fun x _ => rl_trec x)).trans (List.map_id l)

theorem recs_of_trod {H : Type} {enc : TypeId × Value → H} {W : World} {sp : Nat → Bool} {a : Option Addr} {len cap : Nat} {d : DataW H} {ps : List MemPlace} (h : DataW.Trod enc Tryz.prog W 0 sp true 22 (.slice a len cap) d ps) :
    ∃ rs : List TRec, rs.length = len ∧ CellRow W (.slice a len cap) rs.length (flat renc (rs.map rl)) ∧ ∀ r ∈ rs, TFit r := by
  obtain ⟨l, hl, hr, hi⟩ : ∃ l : List RecL, l.length = len ∧ CellRow W (.slice a len cap) len (flat renc l) ∧ ∀ x ∈ l, TFit (trec x) :=
    rows_of_trod Tryz.underlying22 rec_size' (by decide) renc_len (fun x => TFit (trec x)) (⟨#[]⟩, 0, 0, 0, 0, 0, 0) (fun fuel cs x hl hx => by
      have hF := leaf_at 3 _ _ cs fuel x rec_leaves' (by rw [rec_size']; omega) hx
      obtain ⟨n0, c0, w0⟩ := leaf_string Tryz.underlying9 (hF 0 _ rfl)
      obtain ⟨n1, c1, w1⟩ := leaf_int Tryz.underlying3 (hF 1 _ rfl)
      obtain ⟨n2, c2, w2⟩ := leaf_int Tryz.underlying3 (hF 2 _ rfl)
      obtain ⟨n3, c3, w3⟩ := leaf_int Tryz.underlying3 (hF 3 _ rfl)
      obtain ⟨n4, c4, w4⟩ := leaf_int Tryz.underlying46 (hF 4 _ rfl)
      obtain ⟨n5, c5, w5⟩ := leaf_int Tryz.underlying3 (hF 5 _ rfl)
      obtain ⟨n6, c6, w6⟩ := leaf_int Tryz.underlying3 (hF 6 _ rfl)
      refine ⟨(n0, n1, n2, n3, n4, n5, n6), ?_, w0, tin64_of n1 w1, tin64_of n2 w2, tin64_of n3 w3, u64_of n4 w4, tin64_of n5 w5, tin64_of n6 w6⟩
      match cs, hl with
      | [x0, x1, x2, x3, x4, x5, x6], _ =>
        simp at c0 c1 c2 c3 c4 c5 c6
        subst c0 c1 c2 c3 c4 c5 c6
        rfl) h
  refine ⟨l.map trec, by rw [List.length_map]; exact hl, by rw [map_trec, List.length_map, hl]; exact hr, fun r hr' => ?_⟩
  obtain ⟨x, hx, rfl⟩ := List.mem_map.1 hr'
  exact hi x hx

end Go.Proofs.YtfgfgdchaoekfaaGreatDoor
