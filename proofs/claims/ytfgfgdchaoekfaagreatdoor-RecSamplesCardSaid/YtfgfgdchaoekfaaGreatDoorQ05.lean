/-
  A bundle of texts: C D E F G H I.
-/
import Derived.RegionTactic
import Derived.ChangeAlike
import Derived.Lib.BufferRead
import Derived.Laws.IdiomStrings
import Derived.Lib.LazyBuf
import Derived.Test.YtfgfgdchaoekfaaGreatDoorQ02
namespace Go.Proofs.YtfgfgdchaoekfaaGreatDoor
open Go.RowKit Go.Lib

/-- The pieces of a Packer: the last one first. -/
def Chain (w : World) (B p : Nat) : List (List UInt8) → Option Addr → Prop
  | [], v => v = none
  | s :: r, v => ∃ g prev, v = some ⟨g, 0, none⟩ ∧ s ≠ [] ∧ B ≤ g ∧ g ≠ p ∧ w.heap[g]? = some (.cells #[.pointer prev, .string ⟨s.toArray⟩] 165 (0, 0)) ∧ Chain w B p r prev

/-- The bytes of pieces. -/
def whole (r : List (List UInt8)) : List UInt8 := r.reverse.flatten

theorem whole_cons (s : List UInt8) (r : List (List UInt8)) : whole (s :: r) = whole r ++ s := by simp [whole]

/-- In w block p is a Packer that holds the bytes l, with the error bad. -/
def Pk (B p : Nat) (l : List UInt8) (bad : Int) (w : World) : Prop :=
  ∃ r last, w.heap[p]? = some (.cells #[.int .i64 l.length, .int .i64 bad, .pointer last] 118 (0, 0)) ∧ Chain w B p r last ∧ whole r = l ∧ B ≤ p

theorem Chain.kept {w w' : World} {B p : Nat} (hg : w.grownBy w' (some p)) : ∀ {r : List (List UInt8)} {v : Option Addr}, Chain w B p r v → Chain w' B p r v
  | [], _, h => h
  | _ :: _, _, ⟨g, prev, hv, hs, hB, hp, hc, hr⟩ => ⟨g, prev, hv, hs, hB, hp, by rw [hg.block g (Array.getElem?_eq_some_iff.1 hc).1 (by simpa using hp)]; exact hc, Chain.kept hg hr⟩

set_option maxHeartbeats 400000 in
theorem put_none (p : Nat) (sa : Option Addr) (c : Nat) (e0 : Int) (w : World) (h : w.cell? ⟨p, 1, none⟩ = some (.int .i64 0)) (hf : w.frozen? ⟨p, 1, none⟩ = false) :
    Calls Tryz.prog 120 #[.pointer (some ⟨p, 0, none⟩), .slice sa 0 c, .int .i64 e0] w fun e w' => e = .returned (.tuple #[]) ∧ Stored p 1 (.int .i64 e0) w w' := by
  go_enter Tryz.func120, Tryz.ntmps120
  go_wp2_with (first | (go_at_call 122; refine (stopped_no p _ h).mono ?_; rintro e w' ⟨rfl, rfl⟩) | (go_at_call 126; refine (stop_no p e0 _ h hf).mono ?_; rintro e w' ⟨rfl, hs1⟩))
  go_end0
  exact ⟨rfl, hs1⟩

/-- What put leaves: the Packer's block, the new piece, and all else as it was. -/
def Put (p : Nat) (at1 e0 : Int) (last : Option Addr) (s : ByteArray) (w w' : World) : Prop :=
  w'.heap[p]? = some (.cells #[.int .i64 at1, .int .i64 e0, .pointer (some ⟨w.heap.size, 0, none⟩)] 118 (0, 0)) ∧
    w'.heap[w.heap.size]? = some (.cells #[.pointer last, .string s] 165 (0, 0)) ∧ w.grownBy w' (some p)

theorem Put.mk {p : Nat} {at0 at1 e0 : Int} {last : Option Addr} {s : ByteArray} {w w1 w2 : World} (h : w.heap[p]? = some (.cells #[.int .i64 at0, .int .i64 0, .pointer last] 118 (0, 0)))
    (h1 : Stored p 0 (.int .i64 at1) ((w.setCell ⟨p, 2, none⟩ (.pointer (some ⟨w.heap.size, 0, none⟩))).alloc (.cells #[.pointer last, .string s] 165)).drew w1) (h2 : Stored p 1 (.int .i64 e0) w1 w2) : Put p at1 e0 last s w w2 := by
  have hp : p < w.heap.size := (Array.getElem?_eq_some_iff.1 h).1
  have e : (w.setCell ⟨p, 2, none⟩ (.pointer (some ⟨w.heap.size, 0, none⟩))).heap.size = w.heap.size := by simp [World.setCell]
  have r0 : ((w.setCell ⟨p, 2, none⟩ (.pointer (some ⟨w.heap.size, 0, none⟩))).alloc (.cells #[.pointer last, .string s] 165)).drew.heap[p]? = _ := row_alloc (row_set (i := 2) h _)
  have g0 : w.grownBy ((w.setCell ⟨p, 2, none⟩ (.pointer (some ⟨w.heap.size, 0, none⟩))).alloc (.cells #[.pointer last, .string s] 165)).drew (some p) :=
    grownBy_trans (b := w.setCell ⟨p, 2, none⟩ (.pointer (some ⟨w.heap.size, 0, none⟩))) (grownBy_setCell w p 2 _) (grownBy_drew (World.grownBy_alloc _ (.cells #[.pointer last, .string s] 165) _))
  have k : ((w.setCell ⟨p, 2, none⟩ (.pointer (some ⟨w.heap.size, 0, none⟩))).alloc (.cells #[.pointer last, .string s] 165)).drew.heap[w.heap.size]? = some (.cells #[.pointer last, .string s] 165 (0, 0)) := by
    have k := Go.heap_alloc_new (w.setCell ⟨p, 2, none⟩ (.pointer (some ⟨w.heap.size, 0, none⟩))) (.cells #[.pointer last, .string s] 165)
    rw [e] at k
    exact k
  have hsz : w.heap.size < ((w.setCell ⟨p, 2, none⟩ (.pointer (some ⟨w.heap.size, 0, none⟩))).alloc (.cells #[.pointer last, .string s] 165)).drew.heap.size := (Array.getElem?_eq_some_iff.1 k).1
  have gg := grownBy_trans h1.grown h2.grown
  exact ⟨h2.row (h1.row r0), (gg.block _ hsz (by simp; omega)).trans k, grownBy_trans g0 gg⟩

set_option maxHeartbeats 400000 in
theorem put_some (p : Nat) (g n c : Nat) (at0 : Int) (last : Option Addr) (s : ByteArray) (w : World) (h : w.heap[p]? = some (.cells #[.int .i64 at0, .int .i64 0, .pointer last] 118 (0, 0))) (hn : 0 < n)
    (ha : 0 ≤ at0) (hn2 : n ≤ 140737488355328) (ha2 : at0 ≤ 140737488355328)
    (hcv : (convert 64 9 (.slice (some ⟨g, 0, none⟩) n c)).run Tryz.prog w.drew = .ok (.string s) w.drew) (e0 : Int) :
    Calls Tryz.prog 120 #[.pointer (some ⟨p, 0, none⟩), .slice (some ⟨g, 0, none⟩) n c, .int .i64 e0] w fun e w' => e = .returned (.tuple #[]) ∧ Put p (at0 + n) e0 last s w w' := by
  have c0 := cell_of_row w p 0 _ _ _ h
  have c1 := cell_of_row w p 1 _ _ _ h
  have c2 := cell_of_row w p 2 _ _ _ h
  simp at c0 c1 c2
  have f2 : w.frozen? ⟨p, 2, none⟩ = false := row_frozen h
  have hp : p < w.heap.size := (Array.getElem?_eq_some_iff.1 h).1
  have h' := Hid.of h
  have r1 : Hid (((w.setCell ⟨p, 2, none⟩ (.pointer (some ⟨w.heap.size, 0, none⟩))).alloc (.cells #[.pointer last, .string s] 165)).drew.heap[p]? = _) := Hid.of (row_alloc (row_set (i := 2) h (.pointer (some ⟨w.heap.size, 0, none⟩))))
  clear h
  go_enter Tryz.func120, Tryz.ntmps120
  go_wp2_with (first | (go_at_call 122; refine (stopped_no p _ c1).mono ?_; rintro e w' ⟨rfl, rfl⟩))
  go_region
  clear c0 c1 c2 f2
  go_wp2_with (first | (go_at_call 129; refine (pass_any p at0 n _ (cell_of_row _ p 0 _ _ _ r1.out) (row_frozen r1.out) ha (by omega) (by omega)).mono ?_; rintro e w1 ⟨rfl, s1⟩) | (go_at_call 126; refine (stop_no p e0 _ (cell_of_row _ p 1 _ _ _ (s1.row r1.out)) (row_frozen (s1.row r1.out))).mono ?_; rintro e w2 ⟨rfl, s2⟩))
  go_end0
  exact ⟨rfl, Put.mk h'.out s1 s2⟩

end Go.Proofs.YtfgfgdchaoekfaaGreatDoor

namespace Go.Proofs.YtfgfgdchaoekfaaGreatDoor
open Go.RowKit Go.Lib

theorem Pk.bad {B p : Nat} {l : List UInt8} {bad : Int} {w : World} (h : Pk B p l bad w) : w.cell? ⟨p, 1, none⟩ = some (.int .i64 bad) := by
  obtain ⟨_, _, h, _⟩ := h
  rw [cell_of_row w p 1 _ _ _ h]; rfl

theorem Pk.at {B p : Nat} {l : List UInt8} {bad : Int} {w : World} (h : Pk B p l bad w) : w.cell? ⟨p, 0, none⟩ = some (.int .i64 l.length) := by
  obtain ⟨_, _, h, _⟩ := h
  rw [cell_of_row w p 0 _ _ _ h]; rfl

theorem Pk.kept {B p : Nat} {l : List UInt8} {bad : Int} {w w' : World} (h : Pk B p l bad w) (hb : w.grownBy w' none) : Pk B p l bad w' := by
  obtain ⟨r, last, h, hc, hw, hB⟩ := h
  refine ⟨r, last, ?_, hc.kept ⟨hb.os, hb.tape, hb.output, hb.size, fun k hk _ => hb.block k hk (by simp)⟩, hw, hB⟩
  rw [hb.block p (Array.getElem?_eq_some_iff.1 h).1 (by simp)]; exact h

theorem put_Pk (B p : Nat) (l : List UInt8) (v : Value) (B' : Nat) (l2 : List UInt8) (e0 : Int) (w : World) (h : Pk B p l 0 w) (hs : w.ownsRowF B' 5 1 v l2.length (Lib.byteCells l2))
    (h1 : l.length ≤ 140737488355328) (h2 : l2.length ≤ 140737488355328) :
    Calls Tryz.prog 120 #[.pointer (some ⟨p, 0, none⟩), v, .int .i64 e0] w fun e w' => e = .returned (.tuple #[]) ∧ Pk B p (l ++ l2) e0 w' ∧ w.grownBy w' (some p) := by
  obtain ⟨r, last, h, hc, hw, hB⟩ := h
  have hp : p < w.heap.size := (Array.getElem?_eq_some_iff.1 h).1
  have c1 : w.cell? ⟨p, 1, none⟩ = some (.int .i64 0) := by rw [cell_of_row w p 1 _ _ _ h]; rfl
  have none : ∀ (sa : Option Addr) (c : Nat), l2.length = 0 → v = .slice sa 0 c → Calls Tryz.prog 120 #[.pointer (some ⟨p, 0, none⟩), v, .int .i64 e0] w fun e w' => e = .returned (.tuple #[]) ∧ Pk B p (l ++ l2) e0 w' ∧ w.grownBy w' (some p) := by
    intro sa c h0 hv
    subst hv
    have e2 : l2 = [] := List.eq_nil_of_length_eq_zero h0
    subst e2
    refine (put_none p sa c e0 w c1 (row_frozen h)).mono ?_
    rintro e w' ⟨rfl, s1⟩
    refine ⟨rfl, ?_, s1.grown⟩
    rw [List.append_nil]
    exact ⟨r, last, s1.row h, hc.kept s1.grown, hw, hB⟩
  obtain ⟨hlen, hs⟩ := hs
  rcases hs with ⟨rfl, h0⟩ | ⟨g, cap, cur, fz, rfl, hbg, hg, hfz, hnc, hcm, hcs, htk⟩
  · exact none _ _ h0 rfl
  · by_cases h0 : l2.length = 0
    · exact none (some ⟨g, 0, .none⟩) cap h0 (by rw [h0])
    · have hcv := run_convert_bytes_back (P := Tryz.prog) w.drew 64 9 5 ⟨g, 0, .none⟩ cap l2 Tryz.underlying64 Tryz.underlying5 Tryz.underlying9
        (bytes_of_row (w := w.drew) hg (by simpa using htk))
      refine (put_some p g l2.length cap l.length last ⟨l2.toArray⟩ w h (by omega) (by omega) h2 (by omega) hcv e0).mono ?_
      rintro e w' ⟨rfl, hq1, hq2, hq3⟩
      refine ⟨rfl, ⟨l2 :: r, some ⟨w.heap.size, 0, .none⟩, ?_, ⟨w.heap.size, last, rfl, by intro e; subst e; simp at h0, ?_, by omega, hq2, hc.kept hq3⟩, by rw [whole_cons, hw], hB⟩, hq3⟩
      · rw [hq1]; simp
      · omega

end Go.Proofs.YtfgfgdchaoekfaaGreatDoor

namespace Go.Proofs.YtfgfgdchaoekfaaGreatDoor
open Go.RowKit Go.Lib

/-- What Small puts of numbers that fit. -/
def smallBytes (k : Nat) (xs : List Int) : List UInt8 := (xs.map fun x => le k x.toNat).flatten

theorem smallBytes_take (k : Nat) (xs : List Int) (j : Nat) (h : j < xs.length) : smallBytes k (xs.take (j + 1)) = smallBytes k (xs.take j) ++ le k (xs.getD j 0).toNat := by
  unfold smallBytes
  have e : xs.getD j 0 = xs[j] := by simp [List.getD, h]
  rw [List.take_succ_eq_append_getElem h, List.map_append, List.flatten_append, e]
  simp

theorem smallBytes_length (k : Nat) (xs : List Int) : (smallBytes k xs).length = k * xs.length := by
  unfold smallBytes
  induction xs with
  | nil => simp
  | cons x xs ih => simp [le_length, ih, Nat.mul_add]; omega

/-- What put does to the receiver pv in the worlds that come behind w: R says it. -/
def PutSpec (pv : Value) (w : World) (R : Int → List UInt8 → World → World → Prop) : Prop :=
  ∀ (v : Value) (l2 : List UInt8) (e0 : Int) (wr : World), Below w.heap.size w wr → wr.ownsRowF w.heap.size 5 1 v l2.length (Lib.byteCells l2) → l2.length ≤ 140737488355328 →
    Calls Tryz.prog 120 #[pv, v, .int .i64 e0] wr fun e w' => e = .returned (.tuple #[]) ∧ R e0 l2 wr w'

theorem putSpec_Pk (B p : Nat) (l : List UInt8) (w : World) (h : Pk B p l 0 w) (h1 : l.length ≤ 140737488355328) :
    PutSpec (.pointer (some ⟨p, 0, none⟩)) w (fun e0 l2 wr w' => Pk B p (l ++ l2) e0 w' ∧ wr.grownBy w' (some p)) :=
  fun v l2 e0 wr hb hs h2 => put_Pk B p l v w.heap.size l2 e0 wr (h.kept (grown_of_below hb)) hs h1 h2

/-- What a method did: it wrote new blocks alone, and put l2 with the error e0. -/
def Did (w : World) (R : Int → List UInt8 → World → World → Prop) (e0 : Int) (l2 : List UInt8) (w' : World) : Prop := ∃ wr, Below w.heap.size w wr ∧ R e0 l2 wr w'

theorem Did.pk {B p : Nat} {l l2 : List UInt8} {e0 : Int} {w w' : World} (h : Did w (fun e0 l2 wr w' => Pk B p (l ++ l2) e0 w' ∧ wr.grownBy w' (some p)) e0 l2 w') : Pk B p (l ++ l2) e0 w' ∧ w.grownBy w' (some p) := by
  obtain ⟨wr, hb, h1, h2⟩ := h
  exact ⟨h1, grownBy_trans ⟨hb.os, hb.tape, hb.output, hb.size, fun k hk _ => hb.block k hk⟩ h2⟩

theorem Did.same {l2 : List UInt8} {e0 : Int} {w w' : World} (h : Did w (fun _ _ wr w' => wr = w') e0 l2 w') : Below w.heap.size w w' := by
  obtain ⟨wr, hb, rfl⟩ := h
  exact hb

end Go.Proofs.YtfgfgdchaoekfaaGreatDoor

namespace Go.Proofs.YtfgfgdchaoekfaaGreatDoor
open Go.RowKit Go.Lib

/-- An int without its sign: modulo 2 to the 64. -/
def unsigned (x : Int) : Int := IntKind.u64.wrap x

theorem unsigned_nonneg (x : Int) : 0 ≤ unsigned x := by
  show 0 ≤ x % 18446744073709551616
  omega

theorem getD_map (f : Int → Int) (xs : List Int) (j : Nat) (h : j < xs.length) : (xs.map f).getD j 0 = f (xs.getD j 0) := by
  simp [List.getD, h]

set_option maxHeartbeats 400000 in
theorem Ints_any (pv : Option Addr) (v : Value) (xs : List Int) (w : World) (R : Int → List UInt8 → World → World → Prop) (hput : Hid (PutSpec (.pointer pv) w R))
    (hv : NumRow .i64 w v xs) (h2 : xs.length ≤ 1000000000) :
    Calls Tryz.prog 87 #[.pointer pv, v] w fun e w' => e = .returned (.tuple #[]) ∧ Did w R 0 (smallBytes 8 (xs.map unsigned)) w' := by
  obtain ⟨a, c, rfl, hv⟩ := hv
  have HV := Hid.of hv
  clear hv
  have hlm : (xs.map unsigned).length = xs.length := by simp
  have HL := Hid.of hlm
  clear hlm
  go_enter Tryz.func87, Tryz.ntmps87
  go_wp2
  go_loopw [4, 9] (fun b i wr => ∃ j : Nat, j ≤ xs.length ∧ i = .int .i64 j ∧ OwnBuf w.heap.size 5 b (j * 8) (Lib.byteCells (smallBytes 8 ((xs.map unsigned).take j))) w wr) (fun _ i _ => xs.length - (intOf i).toNat)
  case atStart => exact ⟨0, Nat.zero_le _, rfl, by simpa [smallBytes, Lib.byteCells] using ⟨World.ownsRowF_nil w _ _ _, Below.refl _ _, Nat.le_refl _⟩⟩
  case round =>
    obtain ⟨j, hj, rfl, hbr⟩ := hrel
    by_cases hlt : j < xs.length
    · have hne : xs ≠ [] := by intro e; subst e; simp at hlt
      obtain ⟨vb, vo, rfl, hvb, hcs⟩ := (HV.out).resolve_left hne
      obtain ⟨x, hx⟩ : ∃ x, xs.getD j 0 = x := ⟨_, rfl⟩
      have hcell : wr.cell? ⟨vb, vo + j, none⟩ = some (.int .i64 x) := by rw [hbr.2.1.cell hvb, hcs j hlt, hx]
      obtain ⟨m, hm⟩ := Int.eq_ofNat_of_zero_le (unsigned_nonneg x)
      have hwr : IntKind.u64.wrap x = (m : Int) := hm
      have HM := Hid.of hm
      have HX := Hid.of hx
      clear hm hcs hne hx
      go_wp2_with (go_at_call 121; refine (lay_any w.heap.size _ (j * 8) _ w _ 8 m (by omega) hbr (by omega)).mono ?_; rintro e w1 ⟨b', rfl, hb1⟩)
      go_roundw
      case rel =>
        refine ⟨j + 1, by omega, by go_num, ?_⟩
        rw [smallBytes_take 8 _ j (by rw [HL.out]; exact hlt), getD_map _ _ _ hlt, HX.out, HM.out, byteCells_append, Nat.succ_mul]
        exact hb1
      case measure => simp [intOf]; omega
    · have hjl : j = xs.length := by omega
      subst hjl
      obtain ⟨hbr1, hbr2, hbr3⟩ := hbr
      rw [List.take_of_length_le (by rw [HL.out]; exact Nat.le_refl _)] at hbr1
      go_wp2_with (go_at_call 120; refine (hput.out _ (smallBytes 8 (xs.map unsigned)) 0 _ hbr2 (by rw [smallBytes_length, HL.out, Nat.mul_comm]; exact hbr1) (by rw [smallBytes_length, HL.out]; omega)).mono ?_; rintro e w1 ⟨rfl, h4⟩)
      go_end0
      exact ⟨rfl, _, hbr2, h4⟩

set_option maxHeartbeats 400000 in
theorem Words_any (pv : Option Addr) (v : Value) (xs : List Int) (w : World) (R : Int → List UInt8 → World → World → Prop) (hput : Hid (PutSpec (.pointer pv) w R))
    (hv : NumRow .u64 w v xs) (hnn : Hid (∀ j, j < xs.length → 0 ≤ xs.getD j 0)) (h2 : xs.length ≤ 1000000000) :
    Calls Tryz.prog 123 #[.pointer pv, v] w fun e w' => e = .returned (.tuple #[]) ∧ Did w R 0 (smallBytes 8 xs) w' := by
  obtain ⟨a, c, rfl, hv⟩ := hv
  have HV := Hid.of hv
  clear hv
  go_enter Tryz.func123, Tryz.ntmps123
  go_wp2
  go_loopw [4, 9] (fun b i wr => ∃ j : Nat, j ≤ xs.length ∧ i = .int .i64 j ∧ OwnBuf w.heap.size 5 b (j * 8) (Lib.byteCells (smallBytes 8 (xs.take j))) w wr) (fun _ i _ => xs.length - (intOf i).toNat)
  case atStart => exact ⟨0, Nat.zero_le _, rfl, by simpa [smallBytes, Lib.byteCells] using ⟨World.ownsRowF_nil w _ _ _, Below.refl _ _, Nat.le_refl _⟩⟩
  case round =>
    obtain ⟨j, hj, rfl, hbr⟩ := hrel
    by_cases hlt : j < xs.length
    · have hne : xs ≠ [] := by intro e; subst e; simp at hlt
      obtain ⟨vb, vo, rfl, hvb, hcs⟩ := (HV.out).resolve_left hne
      obtain ⟨m, hm⟩ := Int.eq_ofNat_of_zero_le (hnn.out j hlt)
      have hcell : wr.cell? ⟨vb, vo + j, none⟩ = some (.int .u64 m) := by rw [hbr.2.1.cell hvb, hcs j hlt, hm]
      have HM := Hid.of hm
      clear hm hcs hne
      go_wp2_with (go_at_call 121; refine (lay_any w.heap.size _ (j * 8) _ w _ 8 m (by omega) hbr (by omega)).mono ?_; rintro e w1 ⟨b', rfl, hb1⟩)
      go_roundw
      case rel =>
        refine ⟨j + 1, by omega, by go_num, ?_⟩
        rw [smallBytes_take 8 _ j hlt, HM.out, byteCells_append, Nat.succ_mul]
        exact hb1
      case measure => simp [intOf]; omega
    · have hjl : j = xs.length := by omega
      subst hjl
      obtain ⟨hbr1, hbr2, hbr3⟩ := hbr
      rw [List.take_length] at hbr1
      go_wp2_with (go_at_call 120; refine (hput.out _ (smallBytes 8 xs) 0 _ hbr2 (by rw [smallBytes_length, Nat.mul_comm]; exact hbr1) (by rw [smallBytes_length]; omega)).mono ?_; rintro e w1 ⟨rfl, h4⟩)
      go_end0
      exact ⟨rfl, _, hbr2, h4⟩

end Go.Proofs.YtfgfgdchaoekfaaGreatDoor

namespace Go.Proofs.YtfgfgdchaoekfaaGreatDoor
open Go.RowKit Go.Lib

/-- The sixteen bytes of a name. -/
def nameBytes (s : ByteArray) : List UInt8 := [UInt8.ofNat s.size] ++ s.data.toList ++ List.replicate (15 - s.size) 0

def namesBytes (ss : List ByteArray) : List UInt8 := (ss.map nameBytes).flatten

theorem nameBytes_length (s : ByteArray) (h : s.size ≤ 15) : (nameBytes s).length = 16 := by
  simp only [nameBytes, List.length_append, bytes_len, List.length_replicate, List.length_cons, List.length_nil]
  omega

theorem namesBytes_take (ss : List ByteArray) (j : Nat) (h : j < ss.length) : namesBytes (ss.take (j + 1)) = namesBytes (ss.take j) ++ nameBytes (ss.getD j ByteArray.empty) := by
  unfold namesBytes
  have e : ss.getD j ByteArray.empty = ss[j] := by simp [List.getD, h]
  rw [List.take_succ_eq_append_getElem h, List.map_append, List.flatten_append, e]
  simp

theorem namesBytes_length (ss : List ByteArray) (h : ∀ s ∈ ss, s.size ≤ 15) : (namesBytes ss).length = ss.length * 16 := by
  unfold namesBytes
  induction ss with
  | nil => rfl
  | cons s ss ih =>
    rw [List.map_cons, List.flatten_cons, List.length_append, nameBytes_length s (h s (by simp)), ih (fun t ht => h t (by simp [ht]))]
    simp; omega

theorem small_mem {ss : List ByteArray} {m : Nat} (hm : m ≤ ss.length) (h : ∀ j, j < m → (ss.getD j ByteArray.empty).size ≤ 15) : ∀ s ∈ ss.take m, s.size ≤ 15 := by
  intro s hs
  obtain ⟨j, hj, rfl⟩ := List.mem_iff_getElem.1 hs
  have hj2 : j < m := by have := hj; simp at this; omega
  have := h j hj2
  have e : ss.getD j ByteArray.empty = ss[j] := by simp [List.getD]; rw [List.getElem?_eq_getElem (by omega)]; rfl
  rw [e] at this
  simpa using this

set_option maxHeartbeats 400000 in
theorem Names_good (pv : Option Addr) (v : Value) (ss : List ByteArray) (w : World) (R : Int → List UInt8 → World → World → Prop) (hput : Hid (PutSpec (.pointer pv) w R))
    (hv : StrRow w v ss) (hok : Hid (∀ j, j < ss.length → (ss.getD j ByteArray.empty).size ≤ 15)) (h2 : ss.length ≤ 1000000000) :
    Calls Tryz.prog 86 #[.pointer pv, v] w fun e w' => e = .returned (.tuple #[]) ∧ Did w R 0 (namesBytes ss) w' := by
  obtain ⟨a, c, rfl, hv⟩ := hv
  have HV := Hid.of hv
  clear hv
  go_enter Tryz.func86, Tryz.ntmps86
  go_wp2
  go_loopw [4, 9] (fun b i wr => ∃ j : Nat, j ≤ ss.length ∧ i = .int .i64 j ∧ OwnBuf w.heap.size 5 b (j * 16) (Lib.byteCells (namesBytes (ss.take j))) w wr) (fun _ i _ => ss.length - (intOf i).toNat)
  case atStart => exact ⟨0, Nat.zero_le _, rfl, by simpa [namesBytes, Lib.byteCells] using ⟨World.ownsRowF_nil w _ _ _, Below.refl _ _, Nat.le_refl _⟩⟩
  case round =>
    obtain ⟨j, hj, rfl, hbr⟩ := hrel
    by_cases hlt : j < ss.length
    · have hne : ss ≠ [] := by intro e; subst e; simp at hlt
      obtain ⟨vb, vo, rfl, hvb, hcs⟩ := (HV.out).resolve_left hne
      have hsz := hok.out j hlt
      obtain ⟨s, hs⟩ : ∃ s, s = ss.getD j ByteArray.empty := ⟨_, rfl⟩
      have hcell : wr.cell? ⟨vb, vo + j, none⟩ = some (.string s) := by rw [hbr.2.1.cell hvb, hcs j hlt, hs]
      rw [← hs] at hsz
      have HS := Hid.of hs
      clear hs hcs hne
      go_wp2_with (first | (at_builtin; refine append_byte rfl _ _ rfl w.heap.size u4 (j * 16) _ rfl w _ s.size hbr rfl (by omega) ?_; intro b1 w1 hb1) | (at_builtin; refine append_text rfl _ _ rfl w.heap.size b1 (j * 16 + 1) _ rfl w hb1 s rfl (by omega) ?_; intro b2 w2 hb2) | (at_builtin; refine append_zeros rfl _ _ rfl w.heap.size b2 (j * 16 + 1 + s.size) (by omega) _ rfl w hb2 _ (15 - s.size) (by omega) (by omega) rfl (by omega) ?_; intro b3 w3 hb3))
      go_roundw
      case rel =>
        refine ⟨j + 1, by omega, by go_num, ?_⟩
        rw [namesBytes_take ss j hlt, ← HS.out, byteCells_append, nameBytes, byteCells_append, byteCells_append, Nat.succ_mul]
        have e1 : j * 16 + 1 + s.size + (15 - s.size) = j * 16 + 16 := by omega
        have e2 : Lib.byteCells [UInt8.ofNat s.size] = [Value.int .u8 s.size] := by
          have h := byteCells_snoc [] s.size
          simp only [List.nil_append] at h
          rw [h]
          have : ((s.size : Nat) : Int) % 256 = s.size := by omega
          rw [this]; rfl
        rw [e1] at hb3
        rw [e2, ← strCells_eq]
        simpa only [List.append_assoc] using hb3
      case measure => simp [intOf]; omega
    · have hjl : j = ss.length := by omega
      subst hjl
      obtain ⟨hbr1, hbr2, hbr3⟩ := hbr
      rw [List.take_length] at hbr1
      have hnl : (namesBytes ss).length = ss.length * 16 := namesBytes_length ss (by have := small_mem (Nat.le_refl ss.length) hok.out; rwa [List.take_length] at this)
      have HN := Hid.of hnl
      clear hnl
      go_wp2_with (go_at_call 120; refine (hput.out _ (namesBytes ss) 0 _ hbr2 (by rw [HN.out]; exact hbr1) (by rw [HN.out]; omega)).mono ?_; rintro e w1 ⟨rfl, h4⟩)
      go_end0
      exact ⟨rfl, _, hbr2, h4⟩

theorem madeCells_bytes (n : Nat) : (madeCells (Value.int .u8 0).cells (n * 1)).toList = Lib.byteCells (List.replicate n 0) := by
  have h1 : (Value.int IntKind.u8 0).cells = #[Value.int .u8 0] := rfl
  rw [h1]
  apply List.ext_getElem
  · simp [madeCells, Lib.byteCells]
  · intro i h1 h2
    simp [madeCells, Lib.byteCells, Nat.mod_one]

theorem make_bytes {ops : Array Oper} {rest : List Oper} {o : Oper} {a : Act} {Q : Exit → Act → World → Prop} (w : World) (hgd : o.guard = none) (l c : Operand) (hop : o.op = Op.makeSlice 64 l c)
    (B : Nat) (L C : Int) (n : Nat) (hl : a.eval l = .int .i64 L) (hc : a.eval c = .int .i64 C) (hL : L = (n : Int)) (hC : C = (n : Int)) (hn : n ≤ 140737488355328) (hB : B ≤ w.heap.size)
    (h : ∀ w', w'.ownsRow B 5 1 (.slice (some ⟨w.heap.size, 0, none⟩) n n) n (Lib.byteCells (List.replicate n 0)) → w.grownBy w' none → wpList Tryz.prog ops Q rest (a.put o.dst (.slice (some ⟨w.heap.size, 0, none⟩) n n)) w') :
    wpList Tryz.prog ops Q (o :: rest) a w := by
  obtain ⟨i0, hi, hz0, hz1, hz2⟩ := info_parts (show (Tryz.prog.info? 5).map (fun i => (i.zero, i.size, i.bytes)) = some (some (.int .u8 0), 1, 1) by kernel_rfl)
  refine wpList_make_full w hgd l c 64 hop B 5 i0 (.int .u8 0) 1 Tryz.underlying64 hi hz0 hz1 .i64 .i64 L C n hl hc hL hC (by rw [hz2]; omega) (by unfold maxLen; omega) hB ?_
  intro w' h1 h2
  rw [madeCells_bytes] at h1
  exact h w' h1 h2

end Go.Proofs.YtfgfgdchaoekfaaGreatDoor

namespace Go.Proofs.YtfgfgdchaoekfaaGreatDoor
open Go.RowKit Go.Lib

theorem step_copy {ops : Array Oper} {o : Oper} {a : Act} {w : World} {K : Act → World → Prop} {Q : Exit → Act → World → Prop} {E : Prop}
    (hg : o.guard = none) (d x : Operand) (hop : o.op = Op.call { callee := Callee.builtin Builtin.copy, args := #[d, x], argTypes := #[64, 9] })
    (b off dLen dCap : Nat) (hd : a.eval d = .slice (some ⟨b, off, none⟩) dLen dCap) (t : ByteArray) (hx : a.eval x = .string t) (hle : t.size ≤ dLen)
    (n : Nat) (f : Nat → Value) (hr : w.rowIs b 5 n f) (ho : off + t.size ≤ n)
    (hK : K (a.put o.dst (goInt t.size)) (w.setCells b off (strCells t))) :
    if Region.wanted o (yielded ops a.tmps) = true then Oper.wp Tryz.prog o a w K Q else E := by
  obtain ⟨cs, hb, hs, hc⟩ := hr
  refine step_copy_string hg d x 64 9 hop 5 Tryz.underlying64 (fun _ => by kernel_rfl) b off dLen dCap hd t hx hle ?_ ?_ hK
  · intro j hj
    have := hc (off + j) (by omega)
    simp [World.cell?, hb, this]
  · intro j _
    simp [World.frozen?, hb]

theorem row_of_made {w : World} {B A n : Nat} (h : w.ownsRow B 5 1 (.slice (some ⟨A, 0, none⟩) n n) n (Lib.byteCells (List.replicate n 0))) : w.rowIs A 5 n (fun _ => .int .u8 0) := by
  obtain ⟨_, h | ⟨g, cap, cur, hv, _, hg, _, _, hcs, htk⟩⟩ := h
  · exact absurd h.1 (by simp)
  · simp only [Value.slice.injEq, Option.some.injEq, Addr.mk.injEq, true_and, and_true] at hv
    obtain ⟨rfl, rfl⟩ := hv
    refine ⟨cur, hg, by simpa using hcs, fun i hi => ?_⟩
    have h1 : cur.toList.take (n * 1) = cur.toList := List.take_of_length_le (by simp [hcs])
    rw [h1] at htk
    have h2 : cur[i]? = cur.toList[i]? := by simp
    rw [h2, htk]
    simp [Lib.byteCells, hi]

theorem cells_of_rowIs {w : World} {A : Nat} {l : List UInt8} {f : Nat → Value} (h : w.rowIs A 5 l.length f) (hf : ∀ i, 0 ≤ i → i < l.length → f i = .int .u8 ((l.getD i 0).toNat : Int)) :
    ∀ j (hj : j < l.length), w.cell? ((⟨A, 0, none⟩ : Addr).add j) = some (.int .u8 (l[j].toNat : Int)) := by
  intro j hj
  have hadd : (⟨A, 0, none⟩ : Addr).add j = ⟨A, j, none⟩ := by unfold Addr.add; split <;> simp_all
  rw [hadd, h.cell hj, hf j (Nat.zero_le _) hj]
  simp [List.getD, hj]

theorem round_row {l s : List UInt8} {r' : List (List UInt8)} {q : ByteArray} {e : Nat} {f : Nat → Value} (hpre : whole (s :: r') <+: l) (hqd : q.data.toList = s) (hqs : q.size = s.length) (hwl : e = (whole r').length + s.length)
    (hf : ∀ i, e ≤ i → i < l.length → f i = .int .u8 ((l.getD i 0).toNat : Int)) :
    Hid (∀ i, e - q.size ≤ i → i < l.length → (fun j => if e - q.size ≤ j ∧ j < e - q.size + (strCells q).length then (strCells q)[j - (e - q.size)]?.getD default else f j) i = .int .u8 ((l.getD i 0).toNat : Int)) := by
  intro i h1 h2
  obtain ⟨rest, rfl⟩ := hpre
  rw [whole_cons] at h2 ⊢
  have hsl : (strCells q).length = s.length := by rw [strCells_length, hqs]
  have ho : e - q.size = (whole r').length := by omega
  rw [ho] at h1
  simp only [ho, hsl]
  by_cases hc : i < (whole r').length + s.length
  · rw [if_pos ⟨h1, hc⟩]
    have hlt : i - (whole r').length < s.length := by omega
    have e1 : (strCells q)[i - (whole r').length]? = some (.int .u8 ((s[i - (whole r').length]'hlt).toNat : Int)) := by
      rw [strCells_eq, hqd]
      simp [Lib.byteCells, hlt]
    rw [e1]
    have e2 : (whole r' ++ s ++ rest).getD i 0 = s[i - (whole r').length]'hlt := by
      rw [List.append_assoc, List.getD, List.getElem?_append_right h1, List.getElem?_append_left hlt, List.getElem?_eq_getElem hlt]
      rfl
    rw [e2]
    rfl
  · rw [if_neg (by omega)]
    rw [hf i (by omega) (by rw [whole_cons]; exact h2), whole_cons]

set_option maxHeartbeats 400000 in
theorem Done_good (B p : Nat) (l : List UInt8) (w : World) (h : Pk B p l 0 w) (hl : l.length ≤ 140737488355328) :
    Calls Tryz.prog 88 #[.pointer (some ⟨p, 0, none⟩)] w fun e w' => e = .returned (.tuple #[.string ⟨l.toArray⟩, .int .i64 0]) ∧ Below w.heap.size w w' := by
  have c1 := h.bad
  have c0 := h.at
  obtain ⟨r0, last, hrow, hch, hwh, hB⟩ := h
  have c2 : w.cell? ⟨p, 2, none⟩ = some (.pointer last) := by rw [cell_of_row w p 2 _ _ _ hrow]; rfl
  have hp : p < w.heap.size := (Array.getElem?_eq_some_iff.1 hrow).1
  have HC := Hid.of hch
  have HW := Hid.of hwh
  clear hrow hch hwh
  go_enter Tryz.func88, Tryz.ntmps88
  go_wp2_with (first | (go_at_call 122; refine (stopped_no p _ c1).mono ?_; rintro e w' ⟨rfl, rfl⟩) | (at_make; refine make_bytes _ rfl _ _ rfl w.heap.size _ _ l.length rfl rfl rfl rfl hl (Nat.le_refl _) ?_; intro w1 ho1 hg1; have d0 : w1.cell? ⟨p, 0, none⟩ = some (.int .i64 l.length) := hg1.cell c0 (by simp); have d2 : w1.cell? ⟨p, 2, none⟩ = some (.pointer last) := hg1.cell c2 (by simp); clear c0 c1 c2))
  have hrow1 := row_of_made ho1
  have HM1 : Hid (∀ i, l.length ≤ i → i < l.length → (fun _ => Value.int .u8 0 : Nat → Value) i = .int .u8 ((l.getD i 0).toNat : Int)) := fun i h1 h2 => absurd h2 (by omega)
  go_loopw [5, 6] (fun ev x wr => ∃ (r : List (List UInt8)) (e : Nat) (lp : Option Addr) (f : Nat → Value), ev = .int .i64 e ∧ x = .pointer lp ∧ e ≤ l.length ∧ Hid (Chain w B p r lp) ∧ Hid (e = (whole r).length) ∧ Hid (whole r <+: l) ∧ Below w.heap.size w wr ∧ Hid (wr.rowIs w.heap.size 5 l.length f) ∧ Hid (∀ i, e ≤ i → i < l.length → f i = .int .u8 ((l.getD i 0).toNat : Int))) (fun ev _ _ => (intOf ev).toNat)
  case atStart => exact ⟨r0, l.length, last, _, rfl, rfl, Nat.le_refl _, HC, by rw [HW.out]; exact Hid.of rfl, by rw [HW.out]; exact Hid.of (List.prefix_refl l), below_of_none hg1, Hid.of hrow1, HM1⟩
  case round =>
    obtain ⟨r, e, lp, f, rfl, rfl, hel, hch, hen, hpre, hbe, hri, hf⟩ := hrel
    clear d0 d2 hrow1 HM1 ho1 hg1
    cases lp with
    | none =>
      have hr0 : r = [] := by
        cases r with
        | nil => rfl
        | cons s r' => obtain ⟨_, _, hv, _⟩ := hch.out; cases hv
      subst hr0
      have he0 : e = 0 := by rw [hen.out]; rfl
      subst he0
      have hcv := run_convert_bytes_back (P := Tryz.prog) wr 64 9 5 ⟨w.heap.size, 0, none⟩ l.length l Tryz.underlying64 Tryz.underlying5 Tryz.underlying9 (cells_of_rowIs hri.out hf.out)
      go_wp2
      go_ret2
      exact ⟨rfl, hbe⟩
    | some ad =>
      match r, hch.out with
      | s :: r', hh =>
        obtain ⟨g, prev, hv, hs, hBg, hgp, hcell, hrest⟩ := hh
        obtain rfl := Option.some.inj hv
        obtain ⟨q, hq⟩ : ∃ q : ByteArray, q = ⟨s.toArray⟩ := ⟨_, rfl⟩
        have hgl : g < w.heap.size := (Array.getElem?_eq_some_iff.1 hcell).1
        have k0 : wr.cell? ⟨g, 0, none⟩ = some (.pointer prev) := by rw [hbe.cell hgl, cell_of_row w g 0 _ _ _ hcell]; rfl
        have k1 : wr.cell? ⟨g, 1, none⟩ = some (.string q) := by rw [hbe.cell hgl, cell_of_row w g 1 _ _ _ hcell, hq]; rfl
        have hqs : q.size = s.length := by rw [hq]; rfl
        have hqd : q.data.toList = s := by rw [hq]
        have hwl : e = (whole r').length + s.length := by rw [hen.out, whole_cons, List.length_append]
        have hql : q.size ≤ e := by omega
        have hq0 : 0 < q.size := by rw [hqs]; exact List.length_pos_iff.2 hs
        have H := Hid.of (And.intro hqs (And.intro hqd (And.intro hwl (And.intro hq hrest))))
        clear hqs hqd hwl hcell hs hv hq hrest
        have hx1 : ((e : Int) - (q.size : Int)) ≤ (l.length : Int) := by omega
        have hx2 : ¬ l.length = e - q.size := by omega
        go_wp2_with fail
        have hbe2 : Below w.heap.size w (wr.drew.setCells w.heap.size (e - q.size) (strCells q)) := below_setCells (Nat.le_refl _) _ _ _ hbe.drew
        have k2 : (wr.drew.setCells w.heap.size (e - q.size) (strCells q)).cell? ⟨g, 0, none⟩ = some (.pointer prev) := by rw [hbe2.cell hgl, ← hbe.cell hgl]; exact k0
        go_region_law (refine step_copy rfl (.tmp 48) (.tmp 52) rfl w.heap.size (e - q.size) (l.length - (e - q.size)) (l.length - (e - q.size)) (by simp [Act.eval]) q (by simp [Act.eval]) (by omega) l.length f hri.out (by omega) ?_)
        go_wp2
        go_roundw
        case rel =>
          obtain ⟨hqs, hqd, hwl, hq, hrest⟩ := H.out
          exact ⟨r', e - q.size, prev, _, by rw [Int.natCast_sub hql], rfl, by omega, hrest, Hid.of (by omega), Hid.of (by have h := hpre.out; rw [whole_cons] at h; exact (List.prefix_append _ _).trans h), hbe2,
            Hid.of (rowIs_setCells (strCells q) (e - q.size) wr.drew f hri.out), round_row hpre.out hqd hqs hwl hf.out⟩
        case measure => simp [intOf]; omega

end Go.Proofs.YtfgfgdchaoekfaaGreatDoor

namespace Go.Proofs.YtfgfgdchaoekfaaGreatDoor
open Go.RowKit Go.Lib

/-- The number that bytes have, the lowest first. -/
def val : List UInt8 → Nat
  | [] => 0
  | b :: r => b.toNat + 256 * val r

theorem val_lt (l : List UInt8) : val l < 256 ^ l.length := by
  induction l with
  | nil => simp [val]
  | cons b r ih =>
    rw [val, List.length_cons, Nat.pow_succ]
    have := b.toNat_lt
    omega

theorem val_drop (l : List UInt8) (j : Nat) (h : j < l.length) : val (l.drop j) = (l[j]).toNat + 256 * val (l.drop (j + 1)) := by
  rw [List.drop_eq_getElem_cons h, val]

theorem val_le (k x : Nat) (h : x < 256 ^ k) : val (le k x) = x := by
  induction k generalizing x with
  | zero => simp at h; simp [le, val, h]
  | succ k ih =>
    rw [le, val, ih (x / 256) (by rw [Nat.pow_succ] at h; omega)]
    simp
    omega

set_option maxHeartbeats 400000 in
theorem value_any (s : ByteArray) (w : World) (hs : s.size ≤ 8) :
    Calls Tryz.prog 143 #[.string s] w fun e w' => e = .returned (.int .u64 (val s.data.toList)) ∧ w = w' := by
  go_enter Tryz.func143, Tryz.ntmps143
  go_wp2
  go_loop [3, 4] (fun v i => ∃ (j a : Nat), j ≤ s.size ∧ i = .int .i64 ((j : Int) - 1) ∧ v = .int .u64 a ∧ Hid (a = val (s.data.toList.drop j))) (fun _ i => (intOf i + 1).toNat)
  case atStart => exact ⟨s.size, 0, Nat.le_refl _, rfl, rfl, Hid.of (by rw [List.drop_eq_nil_of_le (by rw [byte_len]; exact Nat.le_refl _)]; rfl)⟩
  case round =>
    obtain ⟨j, a, hj, rfl, rfl, ha⟩ := hrel
    cases j with
    | zero =>
      go_wp2
      go_ret
      rw [ha.out]
      exact ⟨rfl, rfl⟩
    | succ m =>
      have hm : m < s.size := by omega
      have ei : ((m + 1 : Nat) : Int) - 1 = (m : Int) := by omega
      rw [ei]
      go_wp2
      go_round
      case rel =>
        refine ⟨m, val (s.data.toList.drop m), by omega, rfl, ?_, Hid.of rfl⟩
        rw [val_drop _ _ (by rw [byte_len]; exact hm), ← ha.out]
        have hlt : a * 256 < 18446744073709551616 := by
          have h1 := val_lt (s.data.toList.drop (m + 1))
          rw [← ha.out, List.length_drop, byte_len] at h1
          have h2 : (256 : Nat) ^ (s.size - (m + 1)) ≤ 256 ^ 7 := Nat.pow_le_pow_right (by decide) (by omega)
          omega
        have hb : (s[m]'hm).toNat < 256 := (s[m]'hm).toNat_lt
        have hg : s.data.toList[m]'(by rw [byte_len]; exact hm) = s[m]'hm := rfl
        rw [hg]
        have e1 : IntKind.u64.wrap ((a : Int) * 256) = ((a * 256 : Nat) : Int) := by
          show ((a : Int) * 256) % 18446744073709551616 = _
          omega
        have e2 : IntKind.u64.wrap (((s[m]'hm).toNat : Nat) : Int) = (((s[m]'hm).toNat : Nat) : Int) := by
          show (((s[m]'hm).toNat : Nat) : Int) % 18446744073709551616 = _
          omega
        rw [e1, e2, u64_or_nat _ _ hlt (by omega)]
        have h3 := Nat.two_pow_add_eq_or_of_lt (i := 8) (b := (s[m]'hm).toNat) (by omega) a
        have h4 : a * 256 ||| (s[m]'hm).toNat = (s[m]'hm).toNat + 256 * a := by
          rw [Nat.mul_comm a 256]
          have : (2 : Nat) ^ 8 = 256 := by decide
          rw [this] at h3
          omega
        rw [h4]
      case measure => simp [intOf]

theorem value_nil (w : World) : Calls Tryz.prog 143 #[.string ⟨#[]⟩] w fun e w' => e = .returned (.int .u64 0) ∧ w = w' := value_any ⟨#[]⟩ w (by decide)

end Go.Proofs.YtfgfgdchaoekfaaGreatDoor
