/-
  A bundle of texts: TMW.
-/
import Derived.Shelf.SlIter.Nil
import Derived.Laws.IdiomRangeMap
import Derived.Test.YtbhcafginmkaaaaGreatN44
namespace Go.Proofs.YtbhcafginmkaaaaGreat
open Go.RowKit Go.Lib Go.Sort Go.Maps Go.Shelf Go.Proofs

/-- Nil, or a zero table at a block. -/
def NoT (w : World) (tv : Value) : Prop := tv = .pointer none ∨ ∃ z, tv = tptr z ∧ w.heap[z]? = some (.cells #[.int .i64 0, .map none] 263)

theorem NoT.next {w w' : World} {tv : Value} (h : NoT w tv) (b : Below w.heap.size w w') : NoT w' tv := by
  rcases h with h | ⟨z, h, hz⟩
  · exact .inl h
  · exact .inr ⟨z, h, (b.block z (Array.getElem?_eq_some_iff.1 hz).1).trans hz⟩

theorem all_no {w : World} {tv : Value} (h : NoT w tv) : Calls Tryz.prog 252 #[tv] w fun x w' => x = .returned (.map none) ∧ w' = w := by
  rcases h with rfl | ⟨z, rfl, hz⟩
  · go_enter Tryz.func252, Tryz.ntmps252
    go_wp2
    go_ret
    exact ⟨rfl, rfl⟩
  · have c1 : w.cell? ⟨z, 1, none⟩ = some (.map none) := by simp [World.cell?, hz]
    go_enter Tryz.func252, Tryz.ntmps252
    go_wp2
    go_ret
    exact ⟨rfl, rfl⟩

theorem keys_no (w : World) :
    Calls Tryz.prog 269 #[.map none] w (fun x w' => x = .returned (.func (.func 291) #[] #[.pointer (some ⟨w.heap.size, 0, none⟩)]) ∧ w' = w.alloc (.cells #[.map none] 261)) ∧
    Calls Tryz.prog 268 #[.func (.func 291) #[] #[.pointer (some ⟨w.heap.size, 0, none⟩)]] (w.alloc (.cells #[.map none] 261)) fun x w' =>
      ∃ v : Value, x = .returned v ∧ CellRow w' v 0 [] ∧ Below w.heap.size w w' := by
  refine ⟨callsIn_wide.1 (AnyZ.keys_in (ρ := laysKeys_ren) laysKeys Fence.wide 5 trivial rfl none w), ?_⟩
  have hseq : SeqGives Fence.wide 2 Tryz.prog 291 #[.pointer (some ⟨w.heap.size, 0, none⟩)] encStr (fun ss => ss = []) 0 (w.alloc (.cells #[.map none] 261)) :=
    AnyZ.keys_gives_nil (ρ := laysKeys_ren) { laysKeys with } Fence.wide _ trivial rfl w.heap.size _ (by simp) (by simp)
  have hc := callsIn_wide.1 (AnyZ.collect_in (ρ := laysCollect_ren) laysCollect Fence.wide 4 trivial trivial rfl (by omega) 291 #[.pointer (some ⟨w.heap.size, 0, none⟩)] trivial (enters_of Tryz.func291 (by kernel_rfl) rfl) _ _ (by unfold maxLen; omega) (by omega) _ hseq)
  refine hc.mono ?_
  rintro x w' ⟨v, ss, rfl, rfl, hrow, -, hb⟩
  exact ⟨v, rfl, own_cells_row hrow rfl, ((Below.refl _ w).alloc (Nat.le_refl _) _).trans (hb.mono (by simp))⟩

theorem names_no {w : World} {tv : Value} (h : NoT w tv) : Calls Tryz.prog 233 #[tv] w fun x w' => ∃ u, x = .returned u ∧ CellRow w' u 0 [] ∧ Below w.heap.size w w' := by
  have hall := all_no h
  obtain ⟨hk1, hk2⟩ := keys_no w
  go_enter Tryz.func233, Tryz.ntmps233
  go_wp2_with fail
  refine hall.mono ?_
  rintro x w1 ⟨rfl, rfl⟩
  go_wp2_with fail
  refine hk1.mono ?_
  rintro x w2 ⟨rfl, rfl⟩
  go_wp2_with fail
  refine hk2.mono ?_
  rintro x w3 ⟨v, rfl, hrow, b3⟩
  have hor := order_any v [] w3 hrow (by simp) (fun s hs => absurd hs List.not_mem_nil)
  have B3 := Hid.of b3
  clear b3 hrow hk1 hk2 hall
  go_wp2_with fail
  refine hor.mono ?_
  rintro x w4 ⟨u, rfl, o4, b4⟩
  have B4 := Hid.of (B3.out.trans (b4.mono B3.out.size))
  have O4 : Hid (CellRow w4 u 0 []) := Hid.of (own_cells_row o4 rfl)
  clear b4 o4 hor
  go_wp2
  go_ret
  exact ⟨_, rfl, O4.out, B4.out⟩

theorem recs_no {w : World} {tv : Value} (va : Option Addr) (vc : Nat) : Calls Tryz.prog 232 #[tv, .slice va 0 vc] w fun x w' => x = .returned (.slice none 0 0) ∧ Below w.heap.size w w' := by
  go_enter Tryz.func232, Tryz.ntmps232
  go_wp2
  go_loopg [5, 10] 0 (fun kx av iv wr => av = .slice none 0 0 ∧ iv = .int .i64 0 ∧ wr = w)
  case atStart => exact ⟨rfl, rfl, rfl⟩
  case round =>
    obtain ⟨rfl, rfl, rfl⟩ := hrel
    go_wp2
    go_ret
    exact ⟨rfl, Below.refl _ _⟩

theorem allRecs_no {w : World} {tv : Value} (h : NoT w tv) : Calls Tryz.prog 149 #[tv] w fun x w' => x = .returned (.slice none 0 0) ∧ Below w.heap.size w w' := by
  have hnm := names_no h
  go_enter Tryz.func149, Tryz.ntmps149
  go_wp2_with fail
  refine hnm.mono ?_
  rintro x w1 ⟨v, rfl, ⟨va, vc, rfl, -⟩, b1⟩
  have B1 := Hid.of b1
  clear b1 hnm
  go_wp2_with fail
  refine (recs_no va vc).mono ?_
  rintro x w2 ⟨rfl, b2⟩
  have B2 := Hid.of (B1.out.trans (b2.mono B1.out.size))
  clear b2
  go_wp2
  go_ret
  exact ⟨rfl, B2.out⟩

theorem copy_nil (w : World) : Calls Tryz.prog 146 #[.pointer none] w fun x w' => x = .returned (.pointer none) ∧ w' = w := by
  go_enter Tryz.func146, Tryz.ntmps146
  go_wp2
  go_ret
  exact ⟨rfl, rfl⟩

end Go.Proofs.YtbhcafginmkaaaaGreat
