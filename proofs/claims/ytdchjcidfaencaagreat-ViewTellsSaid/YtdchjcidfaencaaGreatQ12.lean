/-
  A bundle of texts: AGL AGA.
-/
import Derived.Deep.DeepCutAuto
import Derived.Test.YtdchjcidfaencaaGreatQ09
namespace Go.Proofs.YtdchjcidfaencaaGreat
open Go.RowKit Go.Lib

/-- The five cells at ⟨b, o⟩ hold a. -/
def AgAt (w : World) (b o : Nat) (a : Ag) : Prop :=
  w.cell? ⟨b, o, none⟩ = some (.int .i64 a.c) ∧ w.cell? ⟨b, o + 1, none⟩ = some (.int .i64 a.hi) ∧ w.cell? ⟨b, o + 2, none⟩ = some (.int .u64 a.lo) ∧ w.cell? ⟨b, o + 3, none⟩ = some (.int .i64 a.mn) ∧ w.cell? ⟨b, o + 4, none⟩ = some (.int .i64 a.mx)

theorem AgAt.kept {w w' : World} {b o : Nat} {a : Ag} (h : AgAt w b o a) (hb : Below w.heap.size w w') (hl : b < w.heap.size) : AgAt w' b o a := by
  obtain ⟨h0, h1, h2, h3, h4⟩ := h
  exact ⟨by rw [hb.cell hl]; exact h0, by rw [hb.cell hl]; exact h1, by rw [hb.cell hl]; exact h2, by rw [hb.cell hl]; exact h3, by rw [hb.cell hl]; exact h4⟩

/-- The slice v holds the aggregates l. -/
def AgRow (w : World) (v : Value) (l : List Ag) : Prop :=
  ∃ a c, v = .slice a l.length c ∧ ((l = []) ∨ ∃ b o, a = some ⟨b, o, none⟩ ∧ b < w.heap.size ∧ ∀ j, j < l.length → AgAt w b (o + j * 5) (l.getD j agZero))

theorem AgRow.kept {w w' : World} {v : Value} {l : List Ag} (h : AgRow w v l) (hb : Below w.heap.size w w') : AgRow w' v l := by
  obtain ⟨a, c, hv, h⟩ := h
  refine ⟨a, c, hv, ?_⟩
  rcases h with h | ⟨b, o, ha, hl, hc⟩
  · exact .inl h
  · exact .inr ⟨b, o, ha, Nat.lt_of_lt_of_le hl hb.size, fun j hj => (hc j hj).kept hb hl⟩

theorem agAll_take (a : Ag) (l : List Ag) (j : Nat) (h : j < l.length) : agAll a (l.take (j + 1)) = agJoin (agAll a (l.take j)) (l.getD j agZero) := by
  rw [List.take_succ_eq_append_getElem h, agAll_append]
  have e : l.getD j agZero = l[j] := by simp [List.getD, h]
  rw [e]
  rfl

/-- The cells of a. -/
abbrev agCells (a : Ag) : Array Value := #[.int .i64 a.c, .int .i64 a.hi, .int .u64 a.lo, .int .i64 a.mn, .int .i64 a.mx]

/-- Block b is a variable that holds a. -/
def AgBlk (w : World) (b : Nat) (a : Ag) : Prop := w.heap[b]? = some (.cells (agCells a) 59 (0, 0))

theorem AgBlk.lt {w : World} {b : Nat} {a : Ag} (h : AgBlk w b a) : b < w.heap.size := (Array.getElem?_eq_some_iff.1 h).1

theorem AgBlk.at {w : World} {b : Nat} {a : Ag} (h : AgBlk w b a) : AgAt w b 0 a := by
  refine ⟨?_, ?_, ?_, ?_, ?_⟩ <;> (rw [cell_of_row w b _ _ _ _ h]; rfl)

theorem AgBlk.frozen {w : World} {b : Nat} {a : Ag} (h : AgBlk w b a) : ∀ o, w.frozen? ⟨b, o, none⟩ = false := by
  intro o
  unfold AgBlk at h
  simp [World.frozen?, h]

theorem AgBlk.kept {w w' : World} {b : Nat} {a : Ag} (h : AgBlk w b a) (hb : Below w.heap.size w w') : AgBlk w' b a := by
  unfold AgBlk
  rw [hb.block b h.lt]
  exact h

theorem AgBlk.alloc {w : World} {b : Nat} {a : Ag} (h : AgBlk w b a) (o : Obj) : AgBlk (w.alloc o) b a := row_alloc h

theorem AgBlk.new (w : World) (a : Ag) : AgBlk (w.alloc (.cells (agCells a) 59)) w.heap.size a := Go.heap_alloc_new _ _

theorem AgBlk.made (w : World) (a : Ag) (b : Nat) (cs : Array Value) (hb : b = w.heap.size) (hcs : cs = agCells a) : AgBlk (w.alloc (.cells cs 59)) b a := by
  subst hb hcs
  exact AgBlk.new w a

/-- A variable is given another value. -/
def set5 (w : World) (p : Nat) (a : Ag) : World :=
  ((((w.setCell ⟨p, 0, none⟩ (.int .i64 a.c)).setCell ⟨p, 1, none⟩ (.int .i64 a.hi)).setCell ⟨p, 2, none⟩ (.int .u64 a.lo)).setCell ⟨p, 3, none⟩ (.int .i64 a.mn)).setCell ⟨p, 4, none⟩ (.int .i64 a.mx)

theorem AgBlk.set {w : World} {p : Nat} {a : Ag} (h : AgBlk w p a) (x : Ag) : AgBlk (set5 w p x) p x := by
  have h0 := row_set h (i := 0) (.int .i64 x.c)
  have h1 := row_set h0 (i := 1) (.int .i64 x.hi)
  have h2 := row_set h1 (i := 2) (.int .u64 x.lo)
  have h3 := row_set h2 (i := 3) (.int .i64 x.mn)
  have h4 := row_set h3 (i := 4) (.int .i64 x.mx)
  exact h4

theorem set5_grown (w : World) (p : Nat) (a : Ag) : w.grownBy (set5 w p a) (some p) :=
  grownBy_trans (grownBy_trans (grownBy_trans (grownBy_trans (grownBy_setCell _ _ _ _) (grownBy_setCell _ _ _ _)) (grownBy_setCell _ _ _ _)) (grownBy_setCell _ _ _ _)) (grownBy_setCell _ _ _ _)

theorem AgBlk.set_other {w : World} {b p : Nat} {a : Ag} (h : AgBlk w b a) (x : Ag) (hne : b ≠ p) : AgBlk (set5 w p x) b a := by
  unfold AgBlk
  rw [(set5_grown w p x).block b h.lt (by simpa using fun e => hne e)]
  exact h

theorem below_set5 {B p : Nat} {w w' : World} (h : Below B w w') (hp : B ≤ p) (a : Ag) : Below B w (set5 w' p a) :=
  ((((h.setCell hp _).setCell hp _).setCell hp _).setCell hp _).setCell hp _

set_option maxHeartbeats 800000 in
theorem aggMerge_any (v : Value) (l : List Ag) (w : World) (hv : AgRow w v l) (hl : ∀ x ∈ l, AgIn x) (hn : l.length ≤ 1000000) :
    Calls Tryz.prog 75 #[v] w fun e w' => e = .returned (agv (agAll agZero l)) ∧ Below w.heap.size w w' := by
  obtain ⟨a, c, rfl, hv⟩ := hv
  have HV := Hid.of hv
  have HL := Hid.of hl
  clear hv hl
  go_enter Tryz.func75, Tryz.ntmps75
  go_wp2
  go_loopw [8] (fun i wr => ∃ j : Nat, j ≤ l.length ∧ i = .int .i64 j ∧ Below w.heap.size w wr ∧ Hid (AgBlk wr w.heap.size agZero) ∧ Hid (AgBlk wr (w.heap.size + 1) (agAll agZero (l.take j)))) (fun i _ => l.length - (RowKit.intOf i).toNat)
  case atStart =>
    refine ⟨0, Nat.zero_le _, rfl, ((Below.refl _ _).alloc (Nat.le_refl _) _).alloc (by simp) _, Hid.of ((AgBlk.new _ agZero).alloc _), Hid.of (AgBlk.made _ agZero _ _ (by simp) (by rfl))⟩
  case round =>
    obtain ⟨j, hj, rfl, hb, h0, h1⟩ := hrel
    by_cases hlt : j < l.length
    · have hne : l ≠ [] := by intro e; subst e; simp at hlt
      obtain ⟨vb, vo, rfl, hvb, hcs⟩ := (HV.out).resolve_left hne
      obtain ⟨x, hxx⟩ : ∃ x, l.getD j agZero = x := ⟨_, rfl⟩
      have hat := (hcs j hlt).kept hb hvb
      rw [hxx] at hat
      have HT := Hid.of (agAll_take agZero l j hlt)
      rw [hxx] at HT
      have IX : Hid (AgIn x) := Hid.of (by rw [← hxx]; simp only [List.getD, List.getElem?_eq_getElem hlt, Option.getD_some]; exact HL.out _ (List.getElem_mem hlt))
      have IA : Hid (AgIn (agAll agZero (l.take j))) := Hid.of (agAll_in agZero_in fun y hy => HL.out y (List.mem_of_mem_take hy))
      obtain ⟨s, hs⟩ : ∃ s, agAll agZero (l.take j) = s := ⟨_, rfl⟩
      rw [hs] at HT IA h1
      obtain ⟨x0, x1, x2, x3, x4⟩ := hat
      obtain ⟨s0, s1, s2, s3, s4⟩ := h1.out.at
      have i0 : (0 : Int) ≤ (j : Int) := Int.natCast_nonneg _
      have i1 : (j : Int) < (l.length : Int) := by omega
      have lt1 := h1.out.lt
      clear hcs hne hxx hs
      go_wp2_with fail
      refine (aggJoin_any s x IA.out IX.out _).mono ?_
      rintro e w2 ⟨rfl, b2⟩
      have g0 := Hid.of ((h0.out.alloc _).kept b2)
      have g1 := Hid.of ((h1.out.alloc _).kept b2)
      have fz := g1.out.frozen
      obtain ⟨t0, t1, t2, t3, t4⟩ := g1.out.at
      have B2 := Hid.of ((hb.alloc hb.size _).trans (b2.mono (by have := hb.size; simp; omega)))
      have lt2 := g1.out.lt
      clear b2 h0 h1 hb s0 s1 s2 s3 s4 x0 x1 x2 x3 x4
      go_wp2
      go_roundw
      case rel => exact ⟨j + 1, by omega, by go_num, below_set5 B2.out (by omega) (agJoin s x), Hid.of (g0.out.set_other _ (by omega)), Hid.of (by rw [HT.out]; exact g1.out.set _)⟩
      case measure => simp [RowKit.intOf]; omega
    · have hjl : j = l.length := by omega
      subst hjl
      rw [List.take_length] at h1
      obtain ⟨s, hs⟩ : ∃ s, agAll agZero l = s := ⟨_, rfl⟩
      rw [hs] at h1
      have HS := Hid.of hs
      obtain ⟨s0, s1, s2, s3, s4⟩ := h1.out.at
      have fz := h0.out.frozen
      have lt0 := h0.out.lt
      obtain ⟨q0, q1, q2, q3, q4⟩ := h0.out.at
      clear hs
      go_wp2
      refine bodyPost_ret (v := agv s) ?_ rfl ⟨by rw [HS.out], ?_⟩
      · simp [results, Tryz.results75, go_sem, q0, q1, q2, q3, q4]
      · exact below_set5 hb (Nat.le_refl _) s

theorem agOf_take (xs : List Int) (j : Nat) (h : j < xs.length) : agOf (xs.take (j + 1)) = agJoin (agOf (xs.take j)) (agOne (xs.getD j 0)) := by
  unfold agOf
  rw [List.map_take, agAll_take _ _ _ (by simpa using h), List.map_take]
  congr 1
  simp [List.getD, h]

theorem ints_get {xs : List Int} (h : Ints xs) (j : Nat) (hj : j < xs.length) : -9223372036854775808 ≤ xs.getD j 0 ∧ xs.getD j 0 ≤ 9223372036854775807 := by
  have e : xs.getD j 0 = xs[j] := by simp [List.getD, hj]
  rw [e]
  exact h _ (List.getElem_mem hj)

theorem ints_take {xs : List Int} (h : Ints xs) (j : Nat) : Ints (xs.take j) := fun x hx => h x (List.mem_of_mem_take hx)

/-- An int of 64 bits, by name. -/
def IsInt (x : Int) : Prop := -9223372036854775808 ≤ x ∧ x ≤ 9223372036854775807

set_option maxHeartbeats 800000 in
theorem aggOf_any (v : Value) (xs : List Int) (w : World) (hv : NumRow .i64 w v xs) (hl : Ints xs) (hn : xs.length ≤ 1000000) :
    Calls Tryz.prog 76 #[v] w fun e w' => e = .returned (agv (agOf xs)) ∧ Below w.heap.size w w' := by
  obtain ⟨a, c, rfl, hv⟩ := hv
  have HV := Hid.of hv
  have HL := Hid.of hl
  clear hv hl
  go_enter Tryz.func76, Tryz.ntmps76
  go_wp2
  go_loopw [8] (fun i wr => ∃ j : Nat, j ≤ xs.length ∧ i = .int .i64 j ∧ Below w.heap.size w wr ∧ Hid (AgBlk wr w.heap.size agZero) ∧ Hid (AgBlk wr (w.heap.size + 1) (agOf (xs.take j)))) (fun i _ => xs.length - (RowKit.intOf i).toNat)
  case atStart =>
    exact ⟨0, Nat.zero_le _, rfl, ((Below.refl _ _).alloc (Nat.le_refl _) _).alloc (by simp) _, Hid.of ((AgBlk.new _ agZero).alloc _), Hid.of (AgBlk.made _ agZero _ _ (by simp) (by rfl))⟩
  case round =>
    obtain ⟨j, hj, rfl, hb, h0, h1⟩ := hrel
    by_cases hlt : j < xs.length
    · have hne : xs ≠ [] := by intro e; subst e; simp at hlt
      obtain ⟨vb, vo, rfl, hvb, hcs⟩ := (HV.out).resolve_left hne
      obtain ⟨x, hxx⟩ : ∃ x, xs.getD j 0 = x := ⟨_, rfl⟩
      have hcell : wr.cell? ⟨vb, vo + j, none⟩ = some (.int .i64 x) := by rw [hb.cell hvb, hcs j hlt, hxx]
      have HT := Hid.of (agOf_take xs j hlt)
      rw [hxx] at HT
      have IX : Hid (IsInt x) := Hid.of (by rw [← hxx]; exact ints_get HL.out j hlt)
      have IA : Hid (AgIn (agOf (xs.take j))) := Hid.of (agOf_good (ints_take HL.out j)).1
      obtain ⟨s, hs⟩ : ∃ s, agOf (xs.take j) = s := ⟨_, rfl⟩
      rw [hs] at HT IA h1
      obtain ⟨s0, s1, s2, s3, s4⟩ := h1.out.at
      have i0 : (0 : Int) ≤ (j : Int) := Int.natCast_nonneg _
      have i1 : (j : Int) < (xs.length : Int) := by omega
      have lt1 := h1.out.lt
      clear hcs hne hxx hs
      go_wp2
      refine wp_region_noPanic ?_
      go_region_with (first
        | (go_at_call 105; refine (aggOne_any x IX.out.1 IX.out.2 _).mono ?_; rintro e w2 ⟨rfl, b2⟩; have c2 := (Below.refl wr.heap.size wr).drew.trans b2; have g0 := Hid.of (h0.out.kept c2); have g1 := Hid.of (h1.out.kept c2); have B2 := Hid.of (hb.trans (c2.mono hb.size)); obtain ⟨r0, r1, r2, r3, r4⟩ := g1.out.at; have lt2 := g1.out.lt; clear b2 c2 s0 s1 s2 s3 s4)
        | (go_at_call 104; refine (aggJoin_any s (agOne x) IA.out (agOne_good IX.out.1 IX.out.2).1 _).mono ?_; rintro e w3 ⟨rfl, b3⟩; have g2 := Hid.of (g0.out.kept b3); have g3 := Hid.of (g1.out.kept b3); have B3 := Hid.of (B2.out.trans (b3.mono B2.out.size)); have fz := g3.out.frozen; have lt3 := g3.out.lt; obtain ⟨t0, t1, t2, t3, t4⟩ := g3.out.at; clear b3 g0 g1 B2 r0 r1 r2 r3 r4))
      all_goals
        refine NoPanic.normal ?_
        go_wp2
        go_roundw
        case rel => exact ⟨j + 1, by omega, by go_num, below_set5 B3.out (by omega) (agJoin s (agOne x)), Hid.of (g2.out.set_other _ (by omega)), Hid.of (by rw [HT.out]; exact g3.out.set _)⟩
        case measure => simp [RowKit.intOf]; omega
    · have hjl : j = xs.length := by omega
      subst hjl
      rw [List.take_length] at h1
      obtain ⟨s, hs⟩ : ∃ s, agOf xs = s := ⟨_, rfl⟩
      rw [hs] at h1
      have HS := Hid.of hs
      obtain ⟨s0, s1, s2, s3, s4⟩ := h1.out.at
      have fz := h0.out.frozen
      have lt0 := h0.out.lt
      obtain ⟨q0, q1, q2, q3, q4⟩ := h0.out.at
      clear hs
      go_wp2
      refine bodyPost_ret (v := agv s) ?_ rfl ⟨by rw [HS.out], ?_⟩
      · simp [results, Tryz.results76, go_sem, q0, q1, q2, q3, q4]
      · exact below_set5 hb (Nat.le_refl _) s

end Go.Proofs.YtdchjcidfaencaaGreat

namespace Go.Proofs.YtdchjcidfaencaaGreat
open Go.RowKit Go.Lib

theorem flat5 (l : List Ag) (j k : Nat) (hj : j < l.length) (hk : k < 5) : (l.flatMap fun a => (agCells a).toList)[j * 5 + k]? = (agCells (l.getD j agZero))[k]? := by
  induction l generalizing j with
  | nil => simp at hj
  | cons x l ih =>
    rw [List.flatMap_cons]
    cases j with
    | zero =>
      rw [List.getElem?_append_left (by simpa using hk)]
      simp [List.getD]
    | succ j =>
      rw [List.getElem?_append_right (by simp; omega)]
      have e : (j + 1) * 5 + k - (agCells x).toList.length = j * 5 + k := by simp; omega
      rw [e, ih j (by simpa using hj)]
      rfl

theorem AgRow.made (w1 : World) (t : TypeId) (l : List Ag) (cs : Array Value) (hcs : cs.toList = l.flatMap fun a => (agCells a).toList) (b n c : Nat) (hb : b = w1.heap.size) (hn : n = l.length) :
    AgRow (w1.alloc (.cells cs t)) (.slice (some ⟨b, 0, none⟩) n c) l := by
  subst hb hn
  refine ⟨_, c, rfl, .inr ⟨_, 0, rfl, by simp, ?_⟩⟩
  intro j hj
  have key : ∀ k v, k < 5 → (agCells (l.getD j agZero))[k]? = some v → (w1.alloc (.cells cs t)).cell? ⟨w1.heap.size, 0 + j * 5 + k, none⟩ = some v := by
    intro k v hk hv
    rw [cell_of_row _ _ _ _ _ _ (Go.heap_alloc_new _ _), Nat.zero_add, ← Array.getElem?_toList, hcs, flat5 l j k hj hk, hv]
  exact ⟨key 0 _ (by omega) (by rfl), key 1 _ (by omega) (by rfl), key 2 _ (by omega) (by rfl), key 3 _ (by omega) (by rfl), key 4 _ (by omega) (by rfl)⟩

theorem Merge_2 (a a' : Ag) (ha : AgIn a) (ha' : AgIn a') (w1 : World) (t : TypeId) (cs : Array Value) (hcs : cs = agCells a ++ agCells a') (b : Nat) (hb : b = w1.heap.size) :
    Calls Tryz.prog 75 #[.slice (some ⟨b, 0, none⟩) 2 2] (w1.alloc (.cells cs t)) fun e w' => e = .returned (agv (agAll agZero [a, a'])) ∧ Below w1.heap.size w1 w' := by
  refine (aggMerge_any _ [a, a'] _ (AgRow.made w1 t [a, a'] cs (by rw [hcs]; rfl) b 2 2 hb rfl) (by simpa using ⟨ha, ha'⟩) (by simp)).mono ?_
  rintro e w' ⟨rfl, h⟩
  exact ⟨rfl, ((Below.refl _ _).alloc (Nat.le_refl _) _).trans (h.mono (by simp))⟩

theorem NumRow.kept {k : IntKind} {w w' : World} {v : Value} {xs : List Int} (h : NumRow k w v xs) (hb : Below w.heap.size w w') : NumRow k w' v xs := by
  obtain ⟨a, c, hv, h⟩ := h
  refine ⟨a, c, hv, ?_⟩
  rcases h with h | ⟨b, o, ha, hlt, hc⟩
  · exact .inl h
  · exact .inr ⟨b, o, ha, Nat.lt_of_lt_of_le hlt hb.size, fun j hj => by rw [hb.cell hlt]; exact hc j hj⟩

set_option maxHeartbeats 800000 in
theorem aggAdd_any (x : Ag) (hx : AgIn x) (v : Value) (xs : List Int) (w : World) (hv : NumRow .i64 w v xs) (hl : Ints xs) (hn : xs.length ≤ 1000000) :
    Calls Tryz.prog 26 #[agv x, v] w fun e w' => e = .returned (agv (agAll agZero [x, agOf xs])) ∧ Below w.heap.size w w' := by
  have HV := Hid.of hv
  have HL := Hid.of hl
  have HX := Hid.of hx
  have HO := Hid.of (agOf_good hl).1
  obtain ⟨a, c, rfl, _⟩ := hv
  clear hl hx
  go_enter Tryz.func26, Tryz.ntmps26
  go_wp2
  have g0 := Hid.of ((AgBlk.new w x).alloc (.cells (agCells agZero) 59))
  have g1 : Hid (AgBlk ((w.alloc (.cells (agCells x) 59)).alloc (.cells (agCells agZero) 59)) (w.heap.size + 1) agZero) := Hid.of (AgBlk.made _ _ _ _ (by simp) (by rfl))
  have B0 := Hid.of (((Below.refl w.heap.size w).alloc (Nat.le_refl _) (.cells (agCells x) 59)).alloc (by simp) (.cells (agCells agZero) 59))
  refine wp_region_noPanic ?_
  go_region_with (first
    | (go_at_call 76; refine (aggOf_any _ xs _ (HV.out.kept B0.out.drew) HL.out hn).mono ?_; rintro e w2 ⟨rfl, b2⟩; have c2 := B0.out.drew.trans (b2.mono B0.out.drew.size); have k0 := g0.out.kept ((Below.refl _ _).drew.trans b2); have k1 := g1.out.kept ((Below.refl _ _).drew.trans b2); obtain ⟨q0, q1, q2, q3, q4⟩ := k0.at; have lt2 := k0.lt)
    | (go_at_call 75; refine (Merge_2 x (agOf xs) HX.out HO.out _ _ _ (by rfl) _ (by rfl)).mono ?_; rintro e w3 ⟨rfl, b3⟩; have m1 := k1.kept b3; obtain ⟨r0, r1, r2, r3, r4⟩ := m1.at; have fz := m1.frozen; have lt3 := m1.lt))
  all_goals
    refine NoPanic.normal ?_
    go_wp2
    refine bodyPost_ret (v := agv (agAll agZero [x, agOf xs])) ?_ rfl ⟨rfl, ?_⟩
    · simp [results, Tryz.results26, go_sem, r0, r1, r2, r3, r4]
    · exact below_set5 (c2.trans (b3.mono c2.size)) (by omega) _

end Go.Proofs.YtdchjcidfaencaaGreat
