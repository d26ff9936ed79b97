/-
  What a Packer of package pack is in memory, and what its method put does to it.
-/
import Derived.Test.YtfoffoiimlgoeaaB
import Derived.RegionTactic
import Derived.ChangeAlike
import Derived.Lib.BufferRead
import Derived.Laws.IdiomStrings
namespace Go.Proofs.Ytfoffoiimlgoeaa
open Go.RowKit Go.Lib

/-- The pieces of a Packer: the last one first. -/
def Chain (w : World) (B p : Nat) : List (List UInt8) → Option Addr → Prop
  | [], v => v = none
  | s :: r, v => ∃ g prev, v = some ⟨g, 0, none⟩ ∧ s ≠ [] ∧ B ≤ g ∧ g ≠ p ∧ w.heap[g]? = some (.cells #[.pointer prev, .string ⟨s.toArray⟩] 81 (0, 0)) ∧ Chain w B p r prev

/-- The bytes of pieces. -/
def whole (r : List (List UInt8)) : List UInt8 := r.reverse.flatten

theorem whole_cons (s : List UInt8) (r : List (List UInt8)) : whole (s :: r) = whole r ++ s := by simp [whole]

/-- In w block p is a Packer that holds the bytes l, with the error bad. -/
def Pk (B p : Nat) (l : List UInt8) (bad : Int) (w : World) : Prop :=
  ∃ r last, w.heap[p]? = some (.cells #[.int .i64 l.length, .int .i64 bad, .pointer last] 55 (0, 0)) ∧ Chain w B p r last ∧ whole r = l ∧ B ≤ p

theorem Chain.kept {w w' : World} {B p : Nat} (hg : w.grownBy w' (some p)) : ∀ {r : List (List UInt8)} {v : Option Addr}, Chain w B p r v → Chain w' B p r v
  | [], _, h => h
  | _ :: _, _, ⟨g, prev, hv, hs, hB, hp, hc, hr⟩ => ⟨g, prev, hv, hs, hB, hp, by rw [hg.block g (Array.getElem?_eq_some_iff.1 hc).1 (by simpa using hp)]; exact hc, Chain.kept hg hr⟩

set_option maxHeartbeats 400000 in
theorem put_nil (v : Value) (e0 : Int) (w : World) :
    Calls Try.prog 46 #[.pointer none, v, .int .i64 e0] w fun e w' => e = .returned (.tuple #[]) ∧ w = w' := by
  go_enter Try.func46, Try.ntmps46
  go_wp2
  exact bodyPost_ret (results_none rfl _ _ _) rfl ⟨rfl, rfl⟩

set_option maxHeartbeats 400000 in
theorem put_stopped (p : Nat) (v : Value) (e0 bad : Int) (hb : (bad != 0) = true) (w : World) (h : w.cell? ⟨p, 1, none⟩ = some (.int .i64 bad)) :
    Calls Try.prog 46 #[.pointer (some ⟨p, 0, none⟩), v, .int .i64 e0] w fun e w' => e = .returned (.tuple #[]) ∧ w = w' := by
  go_enter Try.func46, Try.ntmps46
  go_wp2_with (go_at_call 47; refine (stopped_yes p bad hb _ h).mono ?_; rintro e w' ⟨rfl, rfl⟩)
  exact bodyPost_ret (results_none rfl _ _ _) rfl ⟨rfl, rfl⟩

set_option maxHeartbeats 400000 in
theorem put_none (p : Nat) (sa : Option Addr) (c : Nat) (e0 : Int) (w : World) (h : w.cell? ⟨p, 1, none⟩ = some (.int .i64 0)) (hf : w.frozen? ⟨p, 1, none⟩ = false) :
    Calls Try.prog 46 #[.pointer (some ⟨p, 0, none⟩), .slice sa 0 c, .int .i64 e0] w fun e w' => e = .returned (.tuple #[]) ∧ Stored p 1 (.int .i64 e0) w w' := by
  go_enter Try.func46, Try.ntmps46
  go_wp2_with (first | (go_at_call 47; refine (stopped_no p _ h).mono ?_; rintro e w' ⟨rfl, rfl⟩) | (go_at_call 54; refine (stop_no p e0 _ h hf).mono ?_; rintro e w' ⟨rfl, hs1⟩))
  go_end0
  exact ⟨rfl, hs1⟩

/-- What put leaves: the Packer's block, the new piece, and all else as it was. -/
def Put (p : Nat) (at1 e0 : Int) (last : Option Addr) (s : ByteArray) (w w' : World) : Prop :=
  w'.heap[p]? = some (.cells #[.int .i64 at1, .int .i64 e0, .pointer (some ⟨w.heap.size, 0, none⟩)] 55 (0, 0)) ∧
    w'.heap[w.heap.size]? = some (.cells #[.pointer last, .string s] 81 (0, 0)) ∧ w.grownBy w' (some p)

theorem Put.mk {p : Nat} {at0 at1 e0 : Int} {last : Option Addr} {s : ByteArray} {w w1 w2 : World} (h : w.heap[p]? = some (.cells #[.int .i64 at0, .int .i64 0, .pointer last] 55 (0, 0)))
    (h1 : Stored p 0 (.int .i64 at1) ((w.setCell ⟨p, 2, none⟩ (.pointer (some ⟨w.heap.size, 0, none⟩))).alloc (.cells #[.pointer last, .string s] 81)).drew w1) (h2 : Stored p 1 (.int .i64 e0) w1 w2) : Put p at1 e0 last s w w2 := by
  have hp : p < w.heap.size := (Array.getElem?_eq_some_iff.1 h).1
  have e : (w.setCell ⟨p, 2, none⟩ (.pointer (some ⟨w.heap.size, 0, none⟩))).heap.size = w.heap.size := by simp [World.setCell]
  have r0 : ((w.setCell ⟨p, 2, none⟩ (.pointer (some ⟨w.heap.size, 0, none⟩))).alloc (.cells #[.pointer last, .string s] 81)).drew.heap[p]? = _ := row_alloc (row_set (i := 2) h _)
  have g0 : w.grownBy ((w.setCell ⟨p, 2, none⟩ (.pointer (some ⟨w.heap.size, 0, none⟩))).alloc (.cells #[.pointer last, .string s] 81)).drew (some p) :=
    grownBy_trans (b := w.setCell ⟨p, 2, none⟩ (.pointer (some ⟨w.heap.size, 0, none⟩))) (grownBy_setCell w p 2 _) (grownBy_drew (World.grownBy_alloc _ (.cells #[.pointer last, .string s] 81) _))
  have k : ((w.setCell ⟨p, 2, none⟩ (.pointer (some ⟨w.heap.size, 0, none⟩))).alloc (.cells #[.pointer last, .string s] 81)).drew.heap[w.heap.size]? = some (.cells #[.pointer last, .string s] 81 (0, 0)) := by
    have k := Go.heap_alloc_new (w.setCell ⟨p, 2, none⟩ (.pointer (some ⟨w.heap.size, 0, none⟩))) (.cells #[.pointer last, .string s] 81)
    rw [e] at k
    exact k
  have hsz : w.heap.size < ((w.setCell ⟨p, 2, none⟩ (.pointer (some ⟨w.heap.size, 0, none⟩))).alloc (.cells #[.pointer last, .string s] 81)).drew.heap.size := (Array.getElem?_eq_some_iff.1 k).1
  have gg := grownBy_trans h1.grown h2.grown
  exact ⟨h2.row (h1.row r0), (gg.block _ hsz (by simp; omega)).trans k, grownBy_trans g0 gg⟩

set_option maxHeartbeats 400000 in
theorem put_some (p : Nat) (g n c : Nat) (at0 : Int) (last : Option Addr) (s : ByteArray) (w : World) (h : w.heap[p]? = some (.cells #[.int .i64 at0, .int .i64 0, .pointer last] 55 (0, 0))) (hn : 0 < n)
    (ha : 0 ≤ at0) (hn2 : n ≤ 140737488355328) (ha2 : at0 ≤ 140737488355328)
    (hcv : (convert 60 9 (.slice (some ⟨g, 0, none⟩) n c)).run Try.prog w.drew = .ok (.string s) w.drew) (e0 : Int) :
    Calls Try.prog 46 #[.pointer (some ⟨p, 0, none⟩), .slice (some ⟨g, 0, none⟩) n c, .int .i64 e0] w fun e w' => e = .returned (.tuple #[]) ∧ Put p (at0 + n) e0 last s w w' := by
  have c0 := cell_of_row w p 0 _ _ _ h
  have c1 := cell_of_row w p 1 _ _ _ h
  have c2 := cell_of_row w p 2 _ _ _ h
  simp at c0 c1 c2
  have f2 : w.frozen? ⟨p, 2, none⟩ = false := row_frozen h
  have hp : p < w.heap.size := (Array.getElem?_eq_some_iff.1 h).1
  have h' := Hid.of h
  have r1 : Hid (((w.setCell ⟨p, 2, none⟩ (.pointer (some ⟨w.heap.size, 0, none⟩))).alloc (.cells #[.pointer last, .string s] 81)).drew.heap[p]? = _) := Hid.of (row_alloc (row_set (i := 2) h (.pointer (some ⟨w.heap.size, 0, none⟩))))
  clear h
  go_enter Try.func46, Try.ntmps46
  go_wp2_with (first | (go_at_call 47; refine (stopped_no p _ c1).mono ?_; rintro e w' ⟨rfl, rfl⟩))
  go_region
  clear c0 c1 c2 f2
  go_wp2_with (first | (go_at_call 53; refine (pass_any p at0 n _ (cell_of_row _ p 0 _ _ _ r1.out) (row_frozen r1.out) ha (by omega) (by omega)).mono ?_; rintro e w1 ⟨rfl, s1⟩) | (go_at_call 54; refine (stop_no p e0 _ (cell_of_row _ p 1 _ _ _ (s1.row r1.out)) (row_frozen (s1.row r1.out))).mono ?_; rintro e w2 ⟨rfl, s2⟩))
  go_end0
  exact ⟨rfl, Put.mk h'.out s1 s2⟩

end Go.Proofs.Ytfoffoiimlgoeaa
