/-
  What method put does to a Packer, said of the bytes that it holds; and methods Len and Small.
-/
import Derived.Test.YtfoffoiimlgoeaaC
namespace Go.Proofs.Ytfoffoiimlgoeaa
open Go.RowKit Go.Lib

theorem Pk.len_lt {B p : Nat} {l : List UInt8} {bad : Int} {w : World} (h : Pk B p l bad w) : p < w.heap.size := by
  obtain ⟨_, _, h, _⟩ := h
  exact (Array.getElem?_eq_some_iff.1 h).1

theorem Pk.bad {B p : Nat} {l : List UInt8} {bad : Int} {w : World} (h : Pk B p l bad w) : w.cell? ⟨p, 1, none⟩ = some (.int .i64 bad) := by
  obtain ⟨_, _, h, _⟩ := h
  rw [cell_of_row w p 1 _ _ _ h]; rfl

theorem Pk.at {B p : Nat} {l : List UInt8} {bad : Int} {w : World} (h : Pk B p l bad w) : w.cell? ⟨p, 0, none⟩ = some (.int .i64 l.length) := by
  obtain ⟨_, _, h, _⟩ := h
  rw [cell_of_row w p 0 _ _ _ h]; rfl

theorem Pk.kept {B p : Nat} {l : List UInt8} {bad : Int} {w w' : World} (h : Pk B p l bad w) (hb : w.grownBy w' none) : Pk B p l bad w' := by
  obtain ⟨r, last, h, hc, hw, hB⟩ := h
  refine ⟨r, last, ?_, hc.kept ⟨hb.os, hb.tape, hb.output, hb.size, fun k hk _ => hb.block k hk (by simp)⟩, hw, hB⟩
  rw [hb.block p (Array.getElem?_eq_some_iff.1 h).1 (by simp)]; exact h

theorem put_stopped_Pk (B p : Nat) (l : List UInt8) (bad : Int) (hb : (bad != 0) = true) (v : Value) (e0 : Int) (w : World) (h : Pk B p l bad w) :
    Calls Try.prog 46 #[.pointer (some ⟨p, 0, none⟩), v, .int .i64 e0] w fun e w' => e = .returned (.tuple #[]) ∧ w = w' :=
  put_stopped p v e0 bad hb w h.bad

theorem put_Pk (B p : Nat) (l : List UInt8) (v : Value) (B' : Nat) (l2 : List UInt8) (e0 : Int) (w : World) (h : Pk B p l 0 w) (hs : w.ownsRowF B' 5 1 v l2.length (Lib.byteCells l2))
    (h1 : l.length ≤ 140737488355328) (h2 : l2.length ≤ 140737488355328) :
    Calls Try.prog 46 #[.pointer (some ⟨p, 0, none⟩), v, .int .i64 e0] w fun e w' => e = .returned (.tuple #[]) ∧ Pk B p (l ++ l2) e0 w' ∧ w.grownBy w' (some p) := by
  obtain ⟨r, last, h, hc, hw, hB⟩ := h
  have hp : p < w.heap.size := (Array.getElem?_eq_some_iff.1 h).1
  have c1 : w.cell? ⟨p, 1, none⟩ = some (.int .i64 0) := by rw [cell_of_row w p 1 _ _ _ h]; rfl
  have none : ∀ (sa : Option Addr) (c : Nat), l2.length = 0 → v = .slice sa 0 c → Calls Try.prog 46 #[.pointer (some ⟨p, 0, none⟩), v, .int .i64 e0] w fun e w' => e = .returned (.tuple #[]) ∧ Pk B p (l ++ l2) e0 w' ∧ w.grownBy w' (some p) := by
    intro sa c h0 hv
    subst hv
    have e2 : l2 = [] := List.eq_nil_of_length_eq_zero h0
    subst e2
    refine (put_none p sa c e0 w c1 (row_frozen h)).mono ?_
    rintro e w' ⟨rfl, s1⟩
    refine ⟨rfl, ?_, s1.grown⟩
    rw [List.append_nil]
    exact ⟨r, last, s1.row h, hc.kept s1.grown, hw, hB⟩
  obtain ⟨hlen, hs⟩ := hs
  rcases hs with ⟨rfl, h0⟩ | ⟨g, cap, cur, fz, rfl, hbg, hg, hfz, hnc, hcm, hcs, htk⟩
  · exact none _ _ h0 rfl
  · by_cases h0 : l2.length = 0
    · exact none (some ⟨g, 0, .none⟩) cap h0 (by rw [h0])
    · have hcv := run_convert_bytes_back (P := Try.prog) w.drew 60 9 5 ⟨g, 0, .none⟩ cap l2 Try.underlying60 Try.underlying5 Try.underlying9
        (bytes_of_row (w := w.drew) hg (by simpa using htk))
      refine (put_some p g l2.length cap l.length last ⟨l2.toArray⟩ w h (by omega) (by omega) h2 (by omega) hcv e0).mono ?_
      rintro e w' ⟨rfl, hq1, hq2, hq3⟩
      refine ⟨rfl, ⟨l2 :: r, some ⟨w.heap.size, 0, .none⟩, ?_, ⟨w.heap.size, last, rfl, by intro e; subst e; simp at h0, ?_, by omega, hq2, hc.kept hq3⟩, by rw [whole_cons, hw], hB⟩, hq3⟩
      · rw [hq1]; simp
      · omega

end Go.Proofs.Ytfoffoiimlgoeaa
