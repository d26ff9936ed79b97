/-
  A bundle of texts: AGL.
-/
import Derived.Deep.DeepCutAuto
import Derived.Test.YtfgfgdchaoekfaaGreatDoorQ08
namespace Go.Proofs.YtfgfgdchaoekfaaGreatDoor
open Go.RowKit Go.Lib

/-- The five cells at ⟨b, o⟩ hold a. -/
def AgAt (w : World) (b o : Nat) (a : Ag) : Prop :=
  w.cell? ⟨b, o, none⟩ = some (.int .i64 a.c) ∧ w.cell? ⟨b, o + 1, none⟩ = some (.int .i64 a.hi) ∧ w.cell? ⟨b, o + 2, none⟩ = some (.int .u64 a.lo) ∧ w.cell? ⟨b, o + 3, none⟩ = some (.int .i64 a.mn) ∧ w.cell? ⟨b, o + 4, none⟩ = some (.int .i64 a.mx)

theorem AgAt.kept {w w' : World} {b o : Nat} {a : Ag} (h : AgAt w b o a) (hb : Below w.heap.size w w') (hl : b < w.heap.size) : AgAt w' b o a := by
  obtain ⟨h0, h1, h2, h3, h4⟩ := h
  exact ⟨by rw [hb.cell hl]; exact h0, by rw [hb.cell hl]; exact h1, by rw [hb.cell hl]; exact h2, by rw [hb.cell hl]; exact h3, by rw [hb.cell hl]; exact h4⟩

theorem agAll_take (a : Ag) (l : List Ag) (j : Nat) (h : j < l.length) : agAll a (l.take (j + 1)) = agJoin (agAll a (l.take j)) (l.getD j agZero) := by
  rw [List.take_succ_eq_append_getElem h, agAll_append]
  have e : l.getD j agZero = l[j] := by simp [List.getD, h]
  rw [e]
  rfl

/-- The cells of a. -/
abbrev agCells (a : Ag) : Array Value := #[.int .i64 a.c, .int .i64 a.hi, .int .u64 a.lo, .int .i64 a.mn, .int .i64 a.mx]

/-- Block b is a variable that holds a. -/
def AgBlk (w : World) (b : Nat) (a : Ag) : Prop := w.heap[b]? = some (.cells (agCells a) 48 (0, 0))

theorem AgBlk.lt {w : World} {b : Nat} {a : Ag} (h : AgBlk w b a) : b < w.heap.size := (Array.getElem?_eq_some_iff.1 h).1

theorem AgBlk.at {w : World} {b : Nat} {a : Ag} (h : AgBlk w b a) : AgAt w b 0 a := by
  refine ⟨?_, ?_, ?_, ?_, ?_⟩ <;> (rw [cell_of_row w b _ _ _ _ h]; rfl)

theorem AgBlk.frozen {w : World} {b : Nat} {a : Ag} (h : AgBlk w b a) : ∀ o, w.frozen? ⟨b, o, none⟩ = false := by
  intro o
  unfold AgBlk at h
  simp [World.frozen?, h]

theorem AgBlk.kept {w w' : World} {b : Nat} {a : Ag} (h : AgBlk w b a) (hb : Below w.heap.size w w') : AgBlk w' b a := by
  unfold AgBlk
  rw [hb.block b h.lt]
  exact h

theorem AgBlk.alloc {w : World} {b : Nat} {a : Ag} (h : AgBlk w b a) (o : Obj) : AgBlk (w.alloc o) b a := row_alloc h

theorem AgBlk.new (w : World) (a : Ag) : AgBlk (w.alloc (.cells (agCells a) 48)) w.heap.size a := Go.heap_alloc_new _ _

theorem AgBlk.made (w : World) (a : Ag) (b : Nat) (cs : Array Value) (hb : b = w.heap.size) (hcs : cs = agCells a) : AgBlk (w.alloc (.cells cs 48)) b a := by
  subst hb hcs
  exact AgBlk.new w a

/-- A variable is given another value. -/
def set5 (w : World) (p : Nat) (a : Ag) : World :=
  ((((w.setCell ⟨p, 0, none⟩ (.int .i64 a.c)).setCell ⟨p, 1, none⟩ (.int .i64 a.hi)).setCell ⟨p, 2, none⟩ (.int .u64 a.lo)).setCell ⟨p, 3, none⟩ (.int .i64 a.mn)).setCell ⟨p, 4, none⟩ (.int .i64 a.mx)

theorem AgBlk.set {w : World} {p : Nat} {a : Ag} (h : AgBlk w p a) (x : Ag) : AgBlk (set5 w p x) p x := by
  have h0 := row_set h (i := 0) (.int .i64 x.c)
  have h1 := row_set h0 (i := 1) (.int .i64 x.hi)
  have h2 := row_set h1 (i := 2) (.int .u64 x.lo)
  have h3 := row_set h2 (i := 3) (.int .i64 x.mn)
  have h4 := row_set h3 (i := 4) (.int .i64 x.mx)
  exact h4

theorem set5_grown (w : World) (p : Nat) (a : Ag) : w.grownBy (set5 w p a) (some p) :=
  grownBy_trans (grownBy_trans (grownBy_trans (grownBy_trans (grownBy_setCell _ _ _ _) (grownBy_setCell _ _ _ _)) (grownBy_setCell _ _ _ _)) (grownBy_setCell _ _ _ _)) (grownBy_setCell _ _ _ _)

theorem AgBlk.set_other {w : World} {b p : Nat} {a : Ag} (h : AgBlk w b a) (x : Ag) (hne : b ≠ p) : AgBlk (set5 w p x) b a := by
  unfold AgBlk
  rw [(set5_grown w p x).block b h.lt (by simpa using fun e => hne e)]
  exact h

theorem below_set5 {B p : Nat} {w w' : World} (h : Below B w w') (hp : B ≤ p) (a : Ag) : Below B w (set5 w' p a) :=
  ((((h.setCell hp _).setCell hp _).setCell hp _).setCell hp _).setCell hp _

theorem agOf_take (xs : List Int) (j : Nat) (h : j < xs.length) : agOf (xs.take (j + 1)) = agJoin (agOf (xs.take j)) (agOne (xs.getD j 0)) := by
  unfold agOf
  rw [List.map_take, agAll_take _ _ _ (by simpa using h), List.map_take]
  congr 1
  simp [List.getD, h]

theorem ints_get {xs : List Int} (h : Ints xs) (j : Nat) (hj : j < xs.length) : -9223372036854775808 ≤ xs.getD j 0 ∧ xs.getD j 0 ≤ 9223372036854775807 := by
  have e : xs.getD j 0 = xs[j] := by simp [List.getD, hj]
  rw [e]
  exact h _ (List.getElem_mem hj)

theorem ints_take {xs : List Int} (h : Ints xs) (j : Nat) : Ints (xs.take j) := fun x hx => h x (List.mem_of_mem_take hx)

/-- An int of 64 bits, by name. -/
def IsInt (x : Int) : Prop := -9223372036854775808 ≤ x ∧ x ≤ 9223372036854775807

set_option maxHeartbeats 800000 in
theorem aggOf_any (v : Value) (xs : List Int) (w : World) (hv : NumRow .i64 w v xs) (hl : Ints xs) (hn : xs.length ≤ 1000000) :
    Calls Tryz.prog 27 #[v] w fun e w' => e = .returned (agv (agOf xs)) ∧ Below w.heap.size w w' := by
  obtain ⟨a, c, rfl, hv⟩ := hv
  have HV := Hid.of hv
  have HL := Hid.of hl
  clear hv hl
  go_enter Tryz.func27, Tryz.ntmps27
  go_wp2
  go_loopw [8] (fun i wr => ∃ j : Nat, j ≤ xs.length ∧ i = .int .i64 j ∧ Below w.heap.size w wr ∧ Hid (AgBlk wr w.heap.size agZero) ∧ Hid (AgBlk wr (w.heap.size + 1) (agOf (xs.take j)))) (fun i _ => xs.length - (RowKit.intOf i).toNat)
  case atStart =>
    exact ⟨0, Nat.zero_le _, rfl, ((Below.refl _ _).alloc (Nat.le_refl _) _).alloc (by simp) _, Hid.of ((AgBlk.new _ agZero).alloc _), Hid.of (AgBlk.made _ agZero _ _ (by simp) (by rfl))⟩
  case round =>
    obtain ⟨j, hj, rfl, hb, h0, h1⟩ := hrel
    by_cases hlt : j < xs.length
    · have hne : xs ≠ [] := by intro e; subst e; simp at hlt
      obtain ⟨vb, vo, rfl, hvb, hcs⟩ := (HV.out).resolve_left hne
      obtain ⟨x, hxx⟩ : ∃ x, xs.getD j 0 = x := ⟨_, rfl⟩
      have hcell : wr.cell? ⟨vb, vo + j, none⟩ = some (.int .i64 x) := by rw [hb.cell hvb, hcs j hlt, hxx]
      have HT := Hid.of (agOf_take xs j hlt)
      rw [hxx] at HT
      have IX : Hid (IsInt x) := Hid.of (by rw [← hxx]; exact ints_get HL.out j hlt)
      have IA : Hid (AgIn (agOf (xs.take j))) := Hid.of (agOf_good (ints_take HL.out j)).1
      obtain ⟨s, hs⟩ : ∃ s, agOf (xs.take j) = s := ⟨_, rfl⟩
      rw [hs] at HT IA h1
      obtain ⟨s0, s1, s2, s3, s4⟩ := h1.out.at
      have i0 : (0 : Int) ≤ (j : Int) := Int.natCast_nonneg _
      have i1 : (j : Int) < (xs.length : Int) := by omega
      have lt1 := h1.out.lt
      clear hcs hne hxx hs
      go_wp2
      refine wp_region_noPanic ?_
      go_region_with (first
        | (go_at_call 83; refine (aggOne_any x IX.out.1 IX.out.2 _).mono ?_; rintro e w2 ⟨rfl, b2⟩; have c2 := (Below.refl wr.heap.size wr).drew.trans b2; have g0 := Hid.of (h0.out.kept c2); have g1 := Hid.of (h1.out.kept c2); have B2 := Hid.of (hb.trans (c2.mono hb.size)); obtain ⟨r0, r1, r2, r3, r4⟩ := g1.out.at; have lt2 := g1.out.lt; clear b2 c2 s0 s1 s2 s3 s4)
        | (go_at_call 82; refine (aggJoin_any s (agOne x) IA.out (agOne_good IX.out.1 IX.out.2).1 _).mono ?_; rintro e w3 ⟨rfl, b3⟩; have g2 := Hid.of (g0.out.kept b3); have g3 := Hid.of (g1.out.kept b3); have B3 := Hid.of (B2.out.trans (b3.mono B2.out.size)); have fz := g3.out.frozen; have lt3 := g3.out.lt; obtain ⟨t0, t1, t2, t3, t4⟩ := g3.out.at; clear b3 g0 g1 B2 r0 r1 r2 r3 r4))
      all_goals
        refine NoPanic.normal ?_
        go_wp2
        go_roundw
        case rel => exact ⟨j + 1, by omega, by go_num, below_set5 B3.out (by omega) (agJoin s (agOne x)), Hid.of (g2.out.set_other _ (by omega)), Hid.of (by rw [HT.out]; exact g3.out.set _)⟩
        case measure => simp [RowKit.intOf]; omega
    · have hjl : j = xs.length := by omega
      subst hjl
      rw [List.take_length] at h1
      obtain ⟨s, hs⟩ : ∃ s, agOf xs = s := ⟨_, rfl⟩
      rw [hs] at h1
      have HS := Hid.of hs
      obtain ⟨s0, s1, s2, s3, s4⟩ := h1.out.at
      have fz := h0.out.frozen
      have lt0 := h0.out.lt
      obtain ⟨q0, q1, q2, q3, q4⟩ := h0.out.at
      clear hs
      go_wp2
      refine bodyPost_ret (v := agv s) ?_ rfl ⟨by rw [HS.out], ?_⟩
      · simp [results, Tryz.results27, go_sem, q0, q1, q2, q3, q4]
      · exact below_set5 hb (Nat.le_refl _) s

end Go.Proofs.YtfgfgdchaoekfaaGreatDoor
