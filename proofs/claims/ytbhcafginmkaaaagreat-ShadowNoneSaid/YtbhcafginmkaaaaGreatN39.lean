/-
  A bundle of texts: TMC TMD TME.
-/
import Derived.Test.YtbhcafginmkaaaaGreatN37
import Derived.Test.YtbhcafginmkaaaaGreatN24
import Derived.Test.YtbhcafginmkaaaaGreatN14
namespace Go.Proofs.YtbhcafginmkaaaaGreat
open Go.RowKit Go.Lib

theorem tall_any {w : World} {p b : Nat} {e : Int} {l : List TRec} {m : ByteArray → Option Value} (h : TIs w p e l b m) :
    Calls Tryz.prog 252 #[tptr p] w fun x w' => x = .returned (.map (some b)) ∧ w' = w := by
  have c1 := h.c1
  clear h
  go_enter Tryz.func252, Tryz.ntmps252
  go_wp2
  go_ret
  exact ⟨rfl, rfl⟩

theorem every_any {w : World} {p : Nat} {e : Int} {l : List TRec} {F : TFoot} (h : TRep w p e l F) :
    Calls Tryz.prog 230 #[tptr p] w fun x w' => x = .returned (.int .i64 e) ∧ Below w.heap.size w w' := by
  obtain ⟨b, m, h, -⟩ := h
  have c0 := h.c0
  have he : max e 1 = e := by have := h.e1; omega
  clear h
  go_enter Tryz.func230, Tryz.ntmps230
  go_wp2
  go_ret
  exact ⟨rfl, Below.refl _ _⟩

theorem new_any (e : Int) (w : World) (he : TIn64 e) : Calls Tryz.prog 173 #[.int .i64 e] w fun x w' => ∃ p F, x = .returned (tptr p) ∧ TRep w' p (max e 1) [] F ∧ (∀ k, F.all k → w.heap.size ≤ k) ∧ Below w.heap.size w w' := by
  have hm : 1 ≤ max e 1 ∧ TIn64 (max e 1) := by unfold TIn64 at *; omega
  have HM := Hid.of hm
  obtain ⟨M, hM⟩ : ∃ M, max e 1 = M := ⟨_, rfl⟩
  rw [hM] at HM ⊢
  clear he hm
  have hmk := run_makeMap (P := Tryz.prog) 261 w
  go_enter Tryz.func173, Tryz.ntmps173
  go_wp2

  go_ret
  obtain ⟨h1, h2⟩ := HM.out
  have hs1 : (w.alloc (.map #[] 0)).heap.size = w.heap.size + 1 := by simp
  refine ⟨w.heap.size + 1, _, by rfl, ⟨w.heap.size, fun _ => none, ⟨?_, ?_, fun _ _ _ => rfl, fun s _ c => absurd rfl c, fun s t v u g _ _ c => (by cases c), by omega, List.Pairwise.nil, fun x hx => absurd hx List.not_mem_nil, fun x hx => absurd hx List.not_mem_nil, h1, h2⟩, rfl⟩, ?_, ?_⟩
  · have := (MapKept.heap_alloc (w.alloc (.map #[] 0)) (.cells #[.int .i64 M, .map (some w.heap.size)] 263)).1
    rw [hs1] at this
    exact this
  · refine (MapIs.made (P := Tryz.prog) (k := 9) w).at ?_
    exact (MapKept.heap_alloc (w.alloc (.map #[] 0)) _).2 _ (by omega)
  · rintro k (rfl | rfl | ⟨s, v, _, c, _⟩)
    · omega
    · exact Nat.le_refl _
    · cases c
  · exact ((Below.refl w.heap.size w).alloc (Nat.le_refl _) _).alloc (by simp) _

theorem own_shape {w : World} {D : Nat} {v : Value} {bs : List Bk} (h : BkOwn w D v bs) : ∃ va vc, v = .slice va bs.length vc ∧ bs.length ≤ vc ∧ vc ≤ maxLen := by
  rcases h.2 with ⟨rfl, h0⟩ | ⟨g, cap, cur, rfl, _, _, h1, h2, _⟩
  · exact ⟨none, 0, by rw [h0], by omega, by decide⟩
  · exact ⟨_, _, rfl, h1, h2⟩

end Go.Proofs.YtbhcafginmkaaaaGreat

namespace Go.Proofs.YtbhcafginmkaaaaGreat
open Go.RowKit Go.Lib

abbrev mT : Tryz.prog.underlying 261 = some (.map 9 266) := Tryz.underlying261
theorem series_zero (w : World) : (zeroValue 266).run Tryz.prog w = .ok (.slice none 0 0) w := by
  obtain ⟨i0, hi, hz0, hz1, hz2⟩ := info_parts (show (Tryz.prog.info? 266).map (fun i => (i.zero, i.size, i.bytes)) = some (some (.slice none 0 0), 1, 24) by kernel_rfl)
  simp [zeroValue, typeInfo, hi, hz0]

theorem TIs.look {w : World} {p b : Nat} {e : Int} {l : List TRec} {m : ByteArray → Option Value} (h : TIs w p e l b m) {s : ByteArray} (hs : s.size ≤ maxLen) :
    ∃ v, BkOwn w 0 v (ser l s) ∧ (m s).getD (.slice none 0 0) = v ∧ (Instr.lookup 261 (.map (some b)) (.string s) false).run Tryz.prog w = .ok v w :=
  ⟨_, h.row hs, rfl, h.map.look kT mT (series_zero w) hs⟩

end Go.Proofs.YtbhcafginmkaaaaGreat

namespace Go.Proofs.YtbhcafginmkaaaaGreat
open Go.RowKit Go.Lib

theorem below_next {B r : Nat} {w0 w w' : World} (h : Below B w0 w) (g : w.grownBy w' (some r)) (hr : B ≤ r) (hB : B ≤ w.heap.size) : Below B w0 w' := h.grown g hB (fun j hj => by cases hj; exact hr)

/-- All that a table has is known to its map. -/
theorem TIs.some_of {w : World} {p b : Nat} {e : Int} {l : List TRec} {m : ByteArray → Option Value} (h : TIs w p e l b m) {x : TRec} (hx : x ∈ l) : x.n.size ≤ maxLen ∧ (m x.n).isSome = true := by
  have hs := (h.fit x hx).1
  obtain ⟨v, hv, _⟩ := h.some_ x.n hs (fun c => by
    have := mem_ser (l := l) (s := x.n) (b := (x.s, x.a)) |>.2 hx
    rw [c] at this
    exact absurd this List.not_mem_nil)
  exact ⟨hs, by rw [hv]; rfl⟩

end Go.Proofs.YtbhcafginmkaaaaGreat
