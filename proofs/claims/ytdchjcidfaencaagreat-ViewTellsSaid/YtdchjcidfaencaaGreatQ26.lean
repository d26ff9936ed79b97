/-
  A bundle of texts: IRA.
-/
import Derived.Deep.RegionHeld3
import Derived.Test.YtdchjcidfaencaaGreatQ21
import Derived.Test.YtdchjcidfaencaaGreatQ19
import Derived.Test.YtdchjcidfaencaaGreatQ16
import Derived.Test.YtdchjcidfaencaaGreatQ13
import Derived.Test.YtdchjcidfaencaaGreatQ25
namespace Go.Proofs.YtdchjcidfaencaaGreat
open Go.RowKit Go.Lib

/-- The first place that is not ahead of a record. -/
def tPos (L : List TRec) (r : TRec) : Nat := (L.takeWhile fun x => kLtB x.k r.k).length

theorem tPos_le (L : List TRec) (r : TRec) : tPos L r ≤ L.length := (List.takeWhile_sublist _).length_le
theorem tPos_cons {x : TRec} {L : List TRec} {r : TRec} : tPos (x :: L) r = if kLtB x.k r.k = true then tPos L r + 1 else 0 := by
  unfold tPos
  rw [List.takeWhile_cons]
  split <;> rfl
theorem tPos_ahead {L : List TRec} {r : TRec} {i : Nat} {x : TRec} (hi : i < tPos L r) (hx : L[i]? = some x) : kLtB x.k r.k = true := by
  induction L generalizing i with
  | nil => cases hx
  | cons y L ih =>
    rw [tPos_cons] at hi
    split at hi
    · cases i with
      | zero => cases hx; assumption
      | succ i => exact ih (by omega) hx
    · omega
theorem tPos_at {L : List TRec} {r : TRec} {x : TRec} (hx : L[tPos L r]? = some x) : kLtB x.k r.k = false := by
  induction L with
  | nil => cases hx
  | cons y L ih =>
    rw [tPos_cons] at hx
    split at hx
    · exact ih hx
    · cases hx; exact Bool.eq_false_iff.2 ‹_›

theorem tIns_new {L : List TRec} {r : TRec} (h : ∀ x, L[tPos L r]? = some x → x.k ≠ r.k) : tIns L r = L.take (tPos L r) ++ r :: L.drop (tPos L r) := by
  induction L with
  | nil => rfl
  | cons y L ih =>
    rw [tPos_cons] at h ⊢
    unfold tIns
    by_cases c : kLtB y.k r.k = true
    · rw [if_pos c] at h ⊢
      rw [if_pos c, ih h]
      rfl
    · rw [if_neg c] at h ⊢
      rw [if_neg c, if_neg (h y rfl)]
      rfl
theorem tIns_same {L : List TRec} {r x : TRec} (hx : L[tPos L r]? = some x) (hk : x.k = r.k) : tIns L r = L.take (tPos L r) ++ ⟨r.n, r.s, agBoth x.a r.a⟩ :: L.drop (tPos L r + 1) := by
  induction L with
  | nil => cases hx
  | cons y L ih =>
    rw [tPos_cons] at hx ⊢
    unfold tIns
    by_cases c : kLtB y.k r.k = true
    · rw [if_pos c] at hx ⊢
      rw [if_pos c, ih hx]
      rfl
    · rw [if_neg c] at hx ⊢
      obtain rfl : y = x := Option.some.inj hx
      rw [if_neg c, if_pos hk]
      have h1 : y.n = r.n := congrArg Prod.fst hk
      have h2 : y.s = r.s := congrArg Prod.snd hk
      rw [h1, h2]
      rfl

/-- A slice is not longer than its room, nor its room beyond an int. -/
def CapIn : Value → Prop
  | .slice _ n c => n ≤ c ∧ c ≤ maxLen
  | _ => True

/-- The document's own table at block p. -/
def RT (w : World) (p : Nat) (e : Int) (L : List TRec) : Prop := ∃ u, w.heap[p]? = some (.cells #[.int .i64 e, u] 72) ∧ CellRow w u L.length (flat renc (L.map rl)) ∧ CapIn u

theorem RT.lt {w : World} {p : Nat} {e : Int} {L : List TRec} (h : RT w p e L) : p < w.heap.size := by
  obtain ⟨u, h, _⟩ := h
  exact (Array.getElem?_eq_some_iff.1 h).1
theorem RT.next {w w' : World} {p : Nat} {e : Int} {L : List TRec} (h : RT w p e L) (b : Below w.heap.size w w') : RT w' p e L := by
  obtain ⟨u, h1, h2, h3⟩ := h
  exact ⟨u, (b.block p (Array.getElem?_eq_some_iff.1 h1).1).trans h1, h2.kept b, h3⟩

/-- A row of records from a place on; up to one. -/
theorem row_from {w : World} {ua : Option Addr} {N uc c' k : Nat} {rs : List TRec} (h : CellRow w (.slice ua N uc) N (flat renc (rs.map rl))) (hl : rs.length = N) (a' : Option Addr) (ha : k < N → a' = Option.map (fun x => x.add (k * 7)) ua) :
    CellRow w (.slice a' (N - k) c') (N - k) (flat renc ((rs.drop k).map rl)) := by
  by_cases hk : k < N
  · obtain ⟨a1, c1, hv, h⟩ := h
    simp only [Value.slice.injEq] at hv
    obtain ⟨rfl, _, rfl⟩ := hv
    rcases h with h | ⟨b, o, rfl, hb, hc⟩
    · exfalso
      have := flat_length renc_len (rs.map rl)
      rw [h, List.length_nil, List.length_map] at this
      omega
    · refine ⟨_, _, rfl, .inr ⟨b, o + k * 7, ?_, hb, fun j u hj => ?_⟩⟩
      · rw [ha hk]
        show some (Addr.add ⟨b, o, none⟩ (k * 7)) = _
        rw [Addr.add_lit]
      · rw [List.map_drop, ← flat_drop renc_len, List.getElem?_drop] at hj
        have := hc (k * 7 + j) u hj
        rwa [← Nat.add_assoc] at this
  · refine ⟨_, _, rfl, .inl ?_⟩
    rw [List.drop_eq_nil_of_le (by omega)]
    rfl
theorem row_upto {w : World} {ua : Option Addr} {N uc c' : Nat} {rs : List TRec} (h : CellRow w (.slice ua N uc) N (flat renc (rs.map rl))) (k : Nat) : CellRow w (.slice ua k c') k (flat renc ((rs.take k).map rl)) := by
  obtain ⟨a1, c1, hv, h⟩ := h
  simp only [Value.slice.injEq] at hv
  obtain ⟨rfl, _, rfl⟩ := hv
  refine ⟨_, _, rfl, ?_⟩
  rcases h with h | ⟨b, o, rfl, hb, hc⟩
  · left
    rw [List.map_take, ← flat_take renc_len, h]
    exact List.take_nil
  · refine .inr ⟨b, o, rfl, hb, fun j u hj => hc j u ?_⟩
    rw [List.map_take, ← flat_take renc_len, List.getElem?_take] at hj
    split at hj
    · exact hj
    · cases hj

/-- A record by value. -/
abbrev trv (x : TRec) : Value := nrv ⟨x.n, x.s, x.a.c, x.a.hi, x.a.lo, x.a.mn, x.a.mx⟩
/-- The cells of a variable at block q that holds it. -/
abbrev boxC (q : Nat) (x : TRec) : List (Addr × Value) := [(⟨q, 0, none⟩, .string x.n), (⟨q, 1, none⟩, .int .i64 x.s), (⟨q, 2, none⟩, .int .i64 x.a.c), (⟨q, 3, none⟩, .int .i64 x.a.hi), (⟨q, 4, none⟩, .int .u64 x.a.lo), (⟨q, 5, none⟩, .int .i64 x.a.mn), (⟨q, 6, none⟩, .int .i64 x.a.mx)]

theorem rinfo : (Tryz.prog.info? 61).map (fun i => (i.zero, i.size, i.bytes)) = some (some (.agg #[.string ⟨#[]⟩, .int .i64 0, .int .i64 0, .int .i64 0, .int .u64 0, .int .i64 0, .int .i64 0]), 7, 64) := by kernel_rfl
theorem one_row (w : World) (x : TRec) (t : TypeId) : CellRow (w.alloc (.cells #[.string x.n, .int .i64 x.s, .int .i64 x.a.c, .int .i64 x.a.hi, .int .u64 x.a.lo, .int .i64 x.a.mn, .int .i64 x.a.mx] t)) (.slice (some ⟨w.heap.size, 0, none⟩) 1 1) 1 (flat renc ([x].map rl)) := by
  refine ⟨_, 1, rfl, .inr ⟨_, 0, rfl, by simp, ?_⟩⟩
  show ∀ j u, (flat renc [rl x])[j]? = some u → _
  rw [flat_one]
  exact new_cells w _ t
theorem own_keeps {w w' : World} {D : Nat} {e : TypeId} {sz : Nat} {v : Value} {n : Nat} {xs : List Value} (h : w.ownsRow D e sz v n xs) (b : Below w.heap.size w w') : w'.ownsRow D e sz v n xs :=
  h.kept (⟨b.os, b.tape, b.output, b.size, fun i hi _ => b.block i hi⟩ : w.grownBy w' none) (by
    cases v.ownBlock with
    | none => exact .inl rfl
    | some g => exact .inr (by simp))

/-- A row of one's own is the table's now. -/
theorem RT.stored {v : World} {p B n : Nat} {e : Int} {u0 u : Value} {rows : List TRec} (hup : v.heap[p]? = some (.cells #[.int .i64 e, u0] 72)) (hp : p < B) (o : v.ownsRow B 61 7 u n (flat renc (rows.map rl))) (hl : rows.length = n) : RT (v.setCell ⟨p, 1, none⟩ u) p e rows := by
  subst hl
  refine ⟨u, row_set hup u, (own_row o).grown (grownBy_setCell v p 1 u) (.inr fun c => ?_), ?_⟩
  · have := own_ge o c
    omega
  · rcases o.2 with ⟨rfl, _⟩ | ⟨g, cap, cur, rfl, _, _, h1, h2, _⟩
    · exact ⟨Nat.le_refl _, by unfold maxLen; decide⟩
    · exact ⟨h1, h2⟩
/-- .. and the table's list is one of one's own, its block at D or above. -/
def RTO (w : World) (D p : Nat) (e : Int) (L : List TRec) : Prop := ∃ u, w.heap[p]? = some (.cells #[.int .i64 e, u] 72) ∧ w.ownsRow D 61 7 u L.length (flat renc (L.map rl))
theorem RTO.next {w w' : World} {D p : Nat} {e : Int} {L : List TRec} (h : RTO w D p e L) (b : Below w.heap.size w w') : RTO w' D p e L := by
  obtain ⟨u, h1, h2⟩ := h
  exact ⟨u, (b.block p (Array.getElem?_eq_some_iff.1 h1).1).trans h1, own_keeps h2 b⟩
theorem RTO.stored {v : World} {p B D n : Nat} {e : Int} {u0 u : Value} {rows : List TRec} (hup : v.heap[p]? = some (.cells #[.int .i64 e, u0] 72)) (hp : p < B) (hD : D ≤ B) (o : v.ownsRow B 61 7 u n (flat renc (rows.map rl))) (hl : rows.length = n) : RTO (v.setCell ⟨p, 1, none⟩ u) D p e rows := by
  subst hl
  exact ⟨u, row_set hup u, own_mono (o.kept (grownBy_setCell v p 1 u) (.inr fun c => by first | (have := own_ge o c; omega) | (have := own_ge o c.symm; omega))) hD⟩
theorem cell_beside {v : World} {p : Nat} {u y : Value} {a : Addr} (h : v.cell? a = some y) (ne : a.block ≠ p) : (v.setCell ⟨p, 1, none⟩ u).cell? a = some y := by
  rw [World.cell?_of_block ((grownBy_setCell v p 1 u).block a.block (cell_lt h) (fun c => ne (Option.some.inj c)))]
  exact h
theorem step_stored {w v : World} {p : Nat} (b : Below w.heap.size w v) (u : Value) : Step (fun k => k = p) (fun k => k = p) w (v.setCell ⟨p, 1, none⟩ u) :=
  have g := grownBy_setCell v p 1 u
  ⟨g.os.trans b.os, g.tape.trans b.tape, g.output.trans b.output, Nat.le_trans b.size g.size, fun k hk hf => (g.block k (Nat.lt_of_lt_of_le hk b.size) (by first | exact fun c => hf (Option.some.inj c).symm | exact fun c => hf (Option.some.inj c))).trans (b.block k hk), fun _ h => .inl h⟩

/-- The variable itself. -/
def RBx (w : World) (q : Nat) (x : TRec) : Prop := w.heap[q]? = some (.cells #[.string x.n, .int .i64 x.s, .int .i64 x.a.c, .int .i64 x.a.hi, .int .u64 x.a.lo, .int .i64 x.a.mn, .int .i64 x.a.mx] 61)
theorem RBx.lt {w : World} {q : Nat} {x : TRec} (h : RBx w q x) : q < w.heap.size := (Array.getElem?_eq_some_iff.1 h).1
theorem RBx.next {w w' : World} {q : Nat} {x : TRec} (h : RBx w q x) (b : Below w.heap.size w w') : RBx w' q x := (b.block q h.lt).trans h
theorem RBx.at {w : World} {q : Nat} {x : TRec} (h : RBx w q x) : w.cell? ⟨q, 2, none⟩ = some (.int .i64 x.a.c) ∧ w.cell? ⟨q, 3, none⟩ = some (.int .i64 x.a.hi) ∧ w.cell? ⟨q, 4, none⟩ = some (.int .u64 x.a.lo) ∧ w.cell? ⟨q, 5, none⟩ = some (.int .i64 x.a.mn) ∧ w.cell? ⟨q, 6, none⟩ = some (.int .i64 x.a.mx) := by
  unfold RBx at h
  refine ⟨?_, ?_, ?_, ?_, ?_⟩ <;> simp [World.cell?, h]
theorem RBx.thawed {w : World} {q : Nat} {x : TRec} (h : RBx w q x) : w.frozen? ⟨q, 2, none⟩ = false ∧ w.frozen? ⟨q, 3, none⟩ = false ∧ w.frozen? ⟨q, 4, none⟩ = false ∧ w.frozen? ⟨q, 5, none⟩ = false ∧ w.frozen? ⟨q, 6, none⟩ = false :=
  ⟨row_frozen h, row_frozen h, row_frozen h, row_frozen h, row_frozen h⟩
theorem RBx.cs {w : World} {q : Nat} {x : TRec} (h : RBx w q x) : Cs w (boxC q x) := by
  have hl := h.lt
  unfold RBx at h
  exact .cons hl (by simp [World.cell?, h]) (.cons hl (by simp [World.cell?, h]) (.cons hl (by simp [World.cell?, h]) (.cons hl (by simp [World.cell?, h]) (.cons hl (by simp [World.cell?, h]) (.cons hl (by simp [World.cell?, h]) (.cons hl (by simp [World.cell?, h]) (.nil _)))))))
theorem set_heap {w : World} {q i : Nat} {v : Value} {cs : Array Value} {t : TypeId} (h : w.heap[q]? = some (.cells cs t)) : (w.setCell ⟨q, i, none⟩ v).heap[q]? = some (.cells (cs.setIfInBounds i v) t) := by
  rw [setCell_eq_setRow _ _ _ _ _ _ _ h]
  exact setRow_heap _ _ _ _ _ _ h
theorem RBx.set {w : World} {q : Nat} {x : TRec} (h : RBx w q x) (a : Ag) : RBx (((((w.setCell ⟨q, 2, none⟩ (.int .i64 a.c)).setCell ⟨q, 3, none⟩ (.int .i64 a.hi)).setCell ⟨q, 4, none⟩ (.int .u64 a.lo)).setCell ⟨q, 5, none⟩ (.int .i64 a.mn)).setCell ⟨q, 6, none⟩ (.int .i64 a.mx)) q ⟨x.n, x.s, a⟩ :=
  set_heap (set_heap (set_heap (set_heap (set_heap h))))
theorem below_set {B : Nat} {w0 w : World} {q : Nat} (h : Below B w0 w) (hq : B ≤ q) (v2 v3 v4 v5 v6 : Value) : Below B w0 (((((w.setCell ⟨q, 2, none⟩ v2).setCell ⟨q, 3, none⟩ v3).setCell ⟨q, 4, none⟩ v4).setCell ⟨q, 5, none⟩ v5).setCell ⟨q, 6, none⟩ v6) :=
  ((((h.setCell (p := ⟨q, 2, none⟩) hq v2).setCell (p := ⟨q, 3, none⟩) hq v3).setCell (p := ⟨q, 4, none⟩) hq v4).setCell (p := ⟨q, 5, none⟩) hq v5).setCell (p := ⟨q, 6, none⟩) hq v6

set_option maxRecDepth 20000 in
set_option maxHeartbeats 6400000 in
theorem refTAdd_new {w : World} {p : Nat} {e : Int} {L : List TRec} (x : TRec) (h : RT w p e L) (hx : TFit x) (hL : ∀ y ∈ L, TFit y ∧ agOk y.a = true) (hn : L.length ≤ 10000) :
    Calls Tryz.prog 32 #[tptr p, trv x] w fun r w' => r = .returned (.bool (tOk e x)) ∧ RT w' p e (tAdd e L x) ∧ Step (fun k => k = p) (fun k => k = p) w w' ∧ (∀ D, D ≤ w.heap.size → RTO w D p e L → RTO w' D p e (tAdd e L x)) := by
  obtain ⟨q, hq⟩ : ∃ q, w.heap.size = q := ⟨_, rfl⟩
  obtain ⟨w1, hw1⟩ : ∃ w1, w.alloc (.cells #[.string x.n, .int .i64 x.s, .int .i64 x.a.c, .int .i64 x.a.hi, .int .u64 x.a.lo, .int .i64 x.a.mn, .int .i64 x.a.mx] 61) = w1 := ⟨_, rfl⟩
  have hb1 : Below w.heap.size w w1 := by rw [← hw1]; exact (Below.refl _ _).alloc (Nat.le_refl _) _
  have hbx : w1.heap[q]? = some (.cells #[.string x.n, .int .i64 x.s, .int .i64 x.a.c, .int .i64 x.a.hi, .int .u64 x.a.lo, .int .i64 x.a.mn, .int .i64 x.a.mx] 61) := by rw [← hw1, ← hq]; exact (MapKept.heap_alloc w _).1
  have hql : q < w1.heap.size := (Array.getElem?_eq_some_iff.1 hbx).1
  have R0 := Hid.of h
  have R1 := Hid.of (h.next hb1)
  have hp0 : w1.cell? ⟨p, 0, none⟩ = some (.int .i64 e) := by
    obtain ⟨u, hu, _⟩ := R1.out
    simp [World.cell?, hu]
  have CS1 : Hid (Cs w1 ((⟨p, 0, none⟩, .int .i64 e) :: boxC q x)) := Hid.of (.cons R1.out.lt hp0 (.cons hql (by simp [World.cell?, hbx]) (.cons hql (by simp [World.cell?, hbx]) (.cons hql (by simp [World.cell?, hbx]) (.cons hql (by simp [World.cell?, hbx]) (.cons hql (by simp [World.cell?, hbx]) (.cons hql (by simp [World.cell?, hbx]) (.cons hql (by simp [World.cell?, hbx]) (.nil _)))))))))
  have X1 : Hid (RBx w1 q x) := Hid.of hbx
  have B1 := Hid.of hb1
  have HPQ : Hid (p < q) := Hid.of (by rw [← hq]; exact h.lt)
  obtain ⟨f1, f2, f3⟩ := hx
  have F1 := Hid.of f1
  have F2 := Hid.of f2
  have F3 := Hid.of f3
  have HL := Hid.of hL
  have HN := Hid.of hn
  obtain ⟨v1, h1⟩ : ∃ v1, nOk x.n = v1 := ⟨_, rfl⟩
  obtain ⟨v3, h3⟩ : ∃ v3, gOn x.s e = v3 := ⟨_, rfl⟩
  obtain ⟨v4, h4⟩ : ∃ v4, agOk x.a = v4 := ⟨_, rfl⟩
  have res : tOk e x = (v1 && decide (0 ≤ x.s) && v3 && v4) := by unfold tOk; rw [h1, h3, h4]
  have RES := Hid.of res
  have V1 := Hid.of h1
  have V3 := Hid.of h3
  have V4 := Hid.of h4
  have HW := Hid.of hw1
  have HQ := Hid.of hq
  clear res h1 h3 h4 hw1 f1 f2 f3 hq hb1 hbx hql hp0 h hL hn
  have c0 := (CS1.out).head
  have c1 := ((CS1.out).tail).head
  have c2 := (((CS1.out).tail).tail).head
  have c3 := ((((CS1.out).tail).tail).tail).head
  have c4 := (((((CS1.out).tail).tail).tail).tail).head
  have c5 := ((((((CS1.out).tail).tail).tail).tail).tail).head
  have c6 := (((((((CS1.out).tail).tail).tail).tail).tail).tail).head
  have c7 := ((((((((CS1.out).tail).tail).tail).tail).tail).tail).tail).head
  cases v1
  · have hno : tOk e x = false := by rw [RES.out]; rfl
    go_enter Tryz.func32, Tryz.ntmps32
    go_upto_region 1 with fail
    rw [HW.out]
    rw [HQ.out]
    clear HW
    refine wp_region_noPanic ?_
    refine wp_region_held_drew (S := fun w' => w'.cell? ⟨p, 0, none⟩ = some (.int .i64 e) ∧ w'.cell? ⟨q, 0, none⟩ = some (.string x.n) ∧ w'.cell? ⟨q, 1, none⟩ = some (.int .i64 x.s) ∧ w'.cell? ⟨q, 2, none⟩ = some (.int .i64 x.a.c) ∧ w'.cell? ⟨q, 3, none⟩ = some (.int .i64 x.a.hi) ∧ w'.cell? ⟨q, 4, none⟩ = some (.int .u64 x.a.lo) ∧ w'.cell? ⟨q, 5, none⟩ = some (.int .i64 x.a.mn) ∧ w'.cell? ⟨q, 6, none⟩ = some (.int .i64 x.a.mx)) (by kernel_rfl) ?_ (fun hHeld => ?_)
    · exact ⟨c0, c1, c2, c3, c4, c5, c6, c7⟩
    refine wpAnyH_take (i := 0) (oi := ⟨_, _, _, _, _, _⟩) (v := ?_) rfl (by kernel_rfl) (by kernel_rfl) (by kernel_rfl) (fun _ _ _ h => h) (Or.inl ⟨by rfl, ?_⟩) hHeld ?_
    rotate_left
    · intro w' hSw
      try dsimp only at hSw
      go_simp
      all_goals with_reducible rfl
    simp only [Act.put, List.setIfInBounds_toArray, List.set_cons_zero, List.set_cons_succ]
    refine wpAnyH_take (i := 1) (oi := ⟨_, _, _, _, _, _⟩) (v := ?_) rfl (by kernel_rfl) (by kernel_rfl) (by kernel_rfl) (fun _ _ _ h => h) (Or.inl ⟨by rfl, ?_⟩) hHeld ?_
    rotate_left
    · intro w' hSw
      try dsimp only at hSw
      go_simp
      all_goals with_reducible rfl
    simp only [Act.put, List.setIfInBounds_toArray, List.set_cons_zero, List.set_cons_succ]
    refine wpAnyH_ready (rs := [2]) (by kernel_rfl) (by simp) ?_
    refine AllReadyH.cons (o := ⟨_, _, _, _, _, _⟩) rfl (fun K hK => ?_) AllReadyH.nil
    go_simp
    refine (refName_any x.n F1.out _).mono ?_
    rintro r w2 ⟨rfl, k2, hw2⟩
    have b2 : Below w1.heap.size w1 w2 := by rw [hw2]; exact below_drewN ((Below.refl _ _).drew) k2
    clear hw2
    rw [V1.out]
    have B2 := Hid.of (B1.out.trans (b2.mono B1.out.size))
    have R2 := Hid.of (R1.out.next b2)
    have CS2 := Hid.of (CS1.out.next b2)
    have X2 := Hid.of (X1.out.next b2)
    clear b2 hHeld c0 c1 c2 c3 c4 c5 c6 c7 B1 R1 CS1 X1
    have c0 := (CS2.out).head
    have c1 := ((CS2.out).tail).head
    have c2 := (((CS2.out).tail).tail).head
    have c3 := ((((CS2.out).tail).tail).tail).head
    have c4 := (((((CS2.out).tail).tail).tail).tail).head
    have c5 := ((((((CS2.out).tail).tail).tail).tail).tail).head
    have c6 := (((((((CS2.out).tail).tail).tail).tail).tail).tail).head
    have c7 := ((((((((CS2.out).tail).tail).tail).tail).tail).tail).tail).head
    refine hK.out _ _ ⟨c0, c1, c2, c3, c4, c5, c6, c7⟩ (fun hHeld => ?_)
    clear hK K
    try simp only [Act.put, List.setIfInBounds_toArray, List.set_cons_zero, List.set_cons_succ]
    refine wpAnyH_take (i := 3) (oi := ⟨_, _, _, _, _, _⟩) (v := ?_) rfl (by kernel_rfl) (by kernel_rfl) (by kernel_rfl) (fun _ _ _ h => h) (Or.inl ⟨by rfl, ?_⟩) hHeld ?_
    rotate_left
    · intro w' hSw
      try dsimp only at hSw
      go_simp
      all_goals with_reducible rfl
    simp only [Act.put, List.setIfInBounds_toArray, List.set_cons_zero, List.set_cons_succ]
    refine wpAnyH_take (i := 4) (oi := ⟨_, _, _, _, _, _⟩) (v := ?_) rfl (by kernel_rfl) (by kernel_rfl) (by kernel_rfl) (fun _ _ _ h => h) (Or.inl ⟨by rfl, ?_⟩) hHeld ?_
    rotate_left
    · intro w' hSw
      try dsimp only at hSw
      go_simp
      all_goals with_reducible rfl
    simp only [Act.put, List.setIfInBounds_toArray, List.set_cons_zero, List.set_cons_succ]
    refine wpAnyH_take (i := 5) (oi := ⟨_, _, _, _, _, _⟩) (v := undef) rfl (by kernel_rfl) (by kernel_rfl) (by kernel_rfl) (fun _ _ _ h => h) (Or.inr ⟨by rfl, rfl⟩) hHeld ?_
    simp only [Act.put, List.setIfInBounds_toArray, List.set_cons_zero, List.set_cons_succ]
    refine wpAnyH_take (i := 6) (oi := ⟨_, _, _, _, _, _⟩) (v := undef) rfl (by kernel_rfl) (by kernel_rfl) (by kernel_rfl) (fun _ _ _ h => h) (Or.inr ⟨by rfl, rfl⟩) hHeld ?_
    simp only [Act.put, List.setIfInBounds_toArray, List.set_cons_zero, List.set_cons_succ]
    refine wpAnyH_take (i := 7) (oi := ⟨_, _, _, _, _, _⟩) (v := undef) rfl (by kernel_rfl) (by kernel_rfl) (by kernel_rfl) (fun _ _ _ h => h) (Or.inr ⟨by rfl, rfl⟩) hHeld ?_
    simp only [Act.put, List.setIfInBounds_toArray, List.set_cons_zero, List.set_cons_succ]
    refine wpAnyH_take (i := 8) (oi := ⟨_, _, _, _, _, _⟩) (v := ?_) rfl (by kernel_rfl) (by kernel_rfl) (by kernel_rfl) (fun _ _ _ h => h) (Or.inl ⟨by rfl, ?_⟩) hHeld ?_
    rotate_left
    · intro w' hSw
      try dsimp only at hSw
      go_simp
      all_goals with_reducible rfl
    simp only [Act.put, List.setIfInBounds_toArray, List.set_cons_zero, List.set_cons_succ]
    refine wpAnyH_take (i := 9) (oi := ⟨_, _, _, _, _, _⟩) (v := ?_) rfl (by kernel_rfl) (by kernel_rfl) (by kernel_rfl) (fun _ _ _ h => h) (Or.inl ⟨by rfl, ?_⟩) hHeld ?_
    rotate_left
    · intro w' hSw
      try dsimp only at hSw
      go_simp
      all_goals with_reducible rfl
    simp only [Act.put, List.setIfInBounds_toArray, List.set_cons_zero, List.set_cons_succ]
    refine wpAnyH_take (i := 10) (oi := ⟨_, _, _, _, _, _⟩) (v := undef) rfl (by kernel_rfl) (by kernel_rfl) (by kernel_rfl) (fun _ _ _ h => h) (Or.inr ⟨by rfl, rfl⟩) hHeld ?_
    simp only [Act.put, List.setIfInBounds_toArray, List.set_cons_zero, List.set_cons_succ]
    refine wpAnyH_take (i := 11) (oi := ⟨_, _, _, _, _, _⟩) (v := undef) rfl (by kernel_rfl) (by kernel_rfl) (by kernel_rfl) (fun _ _ _ h => h) (Or.inr ⟨by rfl, rfl⟩) hHeld ?_
    simp only [Act.put, List.setIfInBounds_toArray, List.set_cons_zero, List.set_cons_succ]
    refine wpAnyH_take (i := 12) (oi := ⟨_, _, _, _, _, _⟩) (v := undef) rfl (by kernel_rfl) (by kernel_rfl) (by kernel_rfl) (fun _ _ _ h => h) (Or.inr ⟨by rfl, rfl⟩) hHeld ?_
    simp only [Act.put, List.setIfInBounds_toArray, List.set_cons_zero, List.set_cons_succ]
    refine wpAnyH_take (i := 13) (oi := ⟨_, _, _, _, _, _⟩) (v := undef) rfl (by kernel_rfl) (by kernel_rfl) (by kernel_rfl) (fun _ _ _ h => h) (Or.inr ⟨by rfl, rfl⟩) hHeld ?_
    simp only [Act.put, List.setIfInBounds_toArray, List.set_cons_zero, List.set_cons_succ]
    refine wpAnyH_take (i := 14) (oi := ⟨_, _, _, _, _, _⟩) (v := undef) rfl (by kernel_rfl) (by kernel_rfl) (by kernel_rfl) (fun _ _ _ h => h) (Or.inr ⟨by rfl, rfl⟩) hHeld ?_
    simp only [Act.put, List.setIfInBounds_toArray, List.set_cons_zero, List.set_cons_succ]
    refine wpAnyH_take (i := 15) (oi := ⟨_, _, _, _, _, _⟩) (v := undef) rfl (by kernel_rfl) (by kernel_rfl) (by kernel_rfl) (fun _ _ _ h => h) (Or.inr ⟨by rfl, rfl⟩) hHeld ?_
    simp only [Act.put, List.setIfInBounds_toArray, List.set_cons_zero, List.set_cons_succ]
    refine wpAnyH_take (i := 16) (oi := ⟨_, _, _, _, _, _⟩) (v := undef) rfl (by kernel_rfl) (by kernel_rfl) (by kernel_rfl) (fun _ _ _ h => h) (Or.inr ⟨by rfl, rfl⟩) hHeld ?_
    simp only [Act.put, List.setIfInBounds_toArray, List.set_cons_zero, List.set_cons_succ]
    refine wpAnyH_take (i := 17) (oi := ⟨_, _, _, _, _, _⟩) (v := undef) rfl (by kernel_rfl) (by kernel_rfl) (by kernel_rfl) (fun _ _ _ h => h) (Or.inr ⟨by rfl, rfl⟩) hHeld ?_
    simp only [Act.put, List.setIfInBounds_toArray, List.set_cons_zero, List.set_cons_succ]
    refine wpAnyH_take (i := 18) (oi := ⟨_, _, _, _, _, _⟩) (v := ?_) rfl (by kernel_rfl) (by kernel_rfl) (by kernel_rfl) (fun _ _ _ h => h) (Or.inl ⟨by rfl, ?_⟩) hHeld ?_
    rotate_left
    · intro w' hSw
      try dsimp only at hSw
      go_simp
      all_goals with_reducible rfl
    simp only [Act.put, List.setIfInBounds_toArray, List.set_cons_zero, List.set_cons_succ]
    refine wpAnyH_take (i := 19) (oi := ⟨_, _, _, _, _, _⟩) (v := ?_) rfl (by kernel_rfl) (by kernel_rfl) (by kernel_rfl) (fun _ _ _ h => h) (Or.inl ⟨by rfl, ?_⟩) hHeld ?_
    rotate_left
    · intro w' hSw
      try dsimp only at hSw
      go_simp
      all_goals with_reducible rfl
    simp only [Act.put, List.setIfInBounds_toArray, List.set_cons_zero, List.set_cons_succ]
    refine wpAnyH_take (i := 20) (oi := ⟨_, _, _, _, _, _⟩) (v := undef) rfl (by kernel_rfl) (by kernel_rfl) (by kernel_rfl) (fun _ _ _ h => h) (Or.inr ⟨by rfl, rfl⟩) hHeld ?_
    simp only [Act.put, List.setIfInBounds_toArray, List.set_cons_zero, List.set_cons_succ]
    refine wpAnyH_take (i := 21) (oi := ⟨_, _, _, _, _, _⟩) (v := undef) rfl (by kernel_rfl) (by kernel_rfl) (by kernel_rfl) (fun _ _ _ h => h) (Or.inr ⟨by rfl, rfl⟩) hHeld ?_
    simp only [Act.put, List.setIfInBounds_toArray, List.set_cons_zero, List.set_cons_succ]
    refine wpAnyH_take (i := 22) (oi := ⟨_, _, _, _, _, _⟩) (v := undef) rfl (by kernel_rfl) (by kernel_rfl) (by kernel_rfl) (fun _ _ _ h => h) (Or.inr ⟨by rfl, rfl⟩) hHeld ?_
    simp only [Act.put, List.setIfInBounds_toArray, List.set_cons_zero, List.set_cons_succ]
    refine wpAnyH_take (i := 23) (oi := ⟨_, _, _, _, _, _⟩) (v := undef) rfl (by kernel_rfl) (by kernel_rfl) (by kernel_rfl) (fun _ _ _ h => h) (Or.inr ⟨by rfl, rfl⟩) hHeld ?_
    simp only [Act.put, List.setIfInBounds_toArray, List.set_cons_zero, List.set_cons_succ]
    refine wpAnyH_take (i := 24) (oi := ⟨_, _, _, _, _, _⟩) (v := ?_) rfl (by kernel_rfl) (by kernel_rfl) (by kernel_rfl) (fun _ _ _ h => h) (Or.inl ⟨by rfl, ?_⟩) hHeld ?_
    rotate_left
    · intro w' hSw
      try dsimp only at hSw
      go_simp
      all_goals with_reducible rfl
    simp only [Act.put, List.setIfInBounds_toArray, List.set_cons_zero, List.set_cons_succ]
    refine wpAnyH_done (by kernel_rfl) ?_ _
    refine NoPanic.normal ?_
    have R9 := R2
    have B9 := B2
    go_wp2
    go_ret
    exact ⟨by first | (rw [hno]; rfl) | rfl, by unfold tAdd; rw [hno]; exact R9.out, Step.of_below B9.out, fun D _ h => by unfold tAdd; rw [hno]; exact h.next B9.out⟩
  · by_cases hs : 0 ≤ x.s
    · have hs1 : ¬ x.s < 0 := by omega
      cases v3
      · have hno : tOk e x = false := by rw [RES.out]; simp
        go_enter Tryz.func32, Tryz.ntmps32
        go_upto_region 1 with fail
        rw [HW.out]
        rw [HQ.out]
        clear HW
        refine wp_region_noPanic ?_
        refine wp_region_held_drew (S := fun w' => w'.cell? ⟨p, 0, none⟩ = some (.int .i64 e) ∧ w'.cell? ⟨q, 0, none⟩ = some (.string x.n) ∧ w'.cell? ⟨q, 1, none⟩ = some (.int .i64 x.s) ∧ w'.cell? ⟨q, 2, none⟩ = some (.int .i64 x.a.c) ∧ w'.cell? ⟨q, 3, none⟩ = some (.int .i64 x.a.hi) ∧ w'.cell? ⟨q, 4, none⟩ = some (.int .u64 x.a.lo) ∧ w'.cell? ⟨q, 5, none⟩ = some (.int .i64 x.a.mn) ∧ w'.cell? ⟨q, 6, none⟩ = some (.int .i64 x.a.mx)) (by kernel_rfl) ?_ (fun hHeld => ?_)
        · exact ⟨c0, c1, c2, c3, c4, c5, c6, c7⟩
        refine wpAnyH_take (i := 0) (oi := ⟨_, _, _, _, _, _⟩) (v := ?_) rfl (by kernel_rfl) (by kernel_rfl) (by kernel_rfl) (fun _ _ _ h => h) (Or.inl ⟨by rfl, ?_⟩) hHeld ?_
        rotate_left
        · intro w' hSw
          try dsimp only at hSw
          go_simp
          all_goals with_reducible rfl
        simp only [Act.put, List.setIfInBounds_toArray, List.set_cons_zero, List.set_cons_succ]
        refine wpAnyH_take (i := 1) (oi := ⟨_, _, _, _, _, _⟩) (v := ?_) rfl (by kernel_rfl) (by kernel_rfl) (by kernel_rfl) (fun _ _ _ h => h) (Or.inl ⟨by rfl, ?_⟩) hHeld ?_
        rotate_left
        · intro w' hSw
          try dsimp only at hSw
          go_simp
          all_goals with_reducible rfl
        simp only [Act.put, List.setIfInBounds_toArray, List.set_cons_zero, List.set_cons_succ]
        refine wpAnyH_ready (rs := [2]) (by kernel_rfl) (by simp) ?_
        refine AllReadyH.cons (o := ⟨_, _, _, _, _, _⟩) rfl (fun K hK => ?_) AllReadyH.nil
        go_simp
        refine (refName_any x.n F1.out _).mono ?_
        rintro r w2 ⟨rfl, k2, hw2⟩
        have b2 : Below w1.heap.size w1 w2 := by rw [hw2]; exact below_drewN ((Below.refl _ _).drew) k2
        clear hw2
        rw [V1.out]
        have B2 := Hid.of (B1.out.trans (b2.mono B1.out.size))
        have R2 := Hid.of (R1.out.next b2)
        have CS2 := Hid.of (CS1.out.next b2)
        have X2 := Hid.of (X1.out.next b2)
        clear b2 hHeld c0 c1 c2 c3 c4 c5 c6 c7 B1 R1 CS1 X1
        have c0 := (CS2.out).head
        have c1 := ((CS2.out).tail).head
        have c2 := (((CS2.out).tail).tail).head
        have c3 := ((((CS2.out).tail).tail).tail).head
        have c4 := (((((CS2.out).tail).tail).tail).tail).head
        have c5 := ((((((CS2.out).tail).tail).tail).tail).tail).head
        have c6 := (((((((CS2.out).tail).tail).tail).tail).tail).tail).head
        have c7 := ((((((((CS2.out).tail).tail).tail).tail).tail).tail).tail).head
        refine hK.out _ _ ⟨c0, c1, c2, c3, c4, c5, c6, c7⟩ (fun hHeld => ?_)
        clear hK K
        try simp only [Act.put, List.setIfInBounds_toArray, List.set_cons_zero, List.set_cons_succ]
        refine wpAnyH_take (i := 3) (oi := ⟨_, _, _, _, _, _⟩) (v := ?_) rfl (by kernel_rfl) (by kernel_rfl) (by kernel_rfl) (fun _ _ _ h => h) (Or.inl ⟨by rfl, ?_⟩) hHeld ?_
        rotate_left
        · intro w' hSw
          try dsimp only at hSw
          go_simp
          all_goals with_reducible rfl
        simp only [Act.put, List.setIfInBounds_toArray, List.set_cons_zero, List.set_cons_succ]
        refine wpAnyH_take (i := 4) (oi := ⟨_, _, _, _, _, _⟩) (v := ?_) rfl (by kernel_rfl) (by kernel_rfl) (by kernel_rfl) (fun _ _ _ h => h) (Or.inl ⟨by rfl, ?_⟩) hHeld ?_
        rotate_left
        · intro w' hSw
          try dsimp only at hSw
          go_simp
          all_goals with_reducible rfl
        simp only [Act.put, List.setIfInBounds_toArray, List.set_cons_zero, List.set_cons_succ]
        refine wpAnyH_take (i := 5) (oi := ⟨_, _, _, _, _, _⟩) (v := ?_) rfl (by kernel_rfl) (by kernel_rfl) (by kernel_rfl) (fun _ _ _ h => h) (Or.inl ⟨by rfl, ?_⟩) hHeld ?_
        rotate_left
        · intro w' hSw
          try dsimp only at hSw
          go_simp
          all_goals with_reducible rfl
        simp only [Act.put, List.setIfInBounds_toArray, List.set_cons_zero, List.set_cons_succ]
        refine wpAnyH_take (i := 6) (oi := ⟨_, _, _, _, _, _⟩) (v := ?_) rfl (by kernel_rfl) (by kernel_rfl) (by kernel_rfl) (fun _ _ _ h => h) (Or.inl ⟨by rfl, ?_⟩) hHeld ?_
        rotate_left
        · intro w' hSw
          try dsimp only at hSw
          go_simp
          all_goals with_reducible rfl
        simp only [Act.put, List.setIfInBounds_toArray, List.set_cons_zero, List.set_cons_succ]
        refine wpAnyH_take (i := 7) (oi := ⟨_, _, _, _, _, _⟩) (v := ?_) rfl (by kernel_rfl) (by kernel_rfl) (by kernel_rfl) (fun _ _ _ h => h) (Or.inl ⟨by rfl, ?_⟩) hHeld ?_
        rotate_left
        · intro w' hSw
          try dsimp only at hSw
          go_simp
          all_goals with_reducible rfl
        simp only [Act.put, List.setIfInBounds_toArray, List.set_cons_zero, List.set_cons_succ]
        refine wpAnyH_take (i := 8) (oi := ⟨_, _, _, _, _, _⟩) (v := ?_) rfl (by kernel_rfl) (by kernel_rfl) (by kernel_rfl) (fun _ _ _ h => h) (Or.inl ⟨by rfl, ?_⟩) hHeld ?_
        rotate_left
        · intro w' hSw
          try dsimp only at hSw
          go_simp
          all_goals with_reducible rfl
        simp only [Act.put, List.setIfInBounds_toArray, List.set_cons_zero, List.set_cons_succ]
        refine wpAnyH_take (i := 9) (oi := ⟨_, _, _, _, _, _⟩) (v := ?_) rfl (by kernel_rfl) (by kernel_rfl) (by kernel_rfl) (fun _ _ _ h => h) (Or.inl ⟨by rfl, ?_⟩) hHeld ?_
        rotate_left
        · intro w' hSw
          try dsimp only at hSw
          go_simp
          all_goals with_reducible rfl
        simp only [Act.put, List.setIfInBounds_toArray, List.set_cons_zero, List.set_cons_succ]
        refine wpAnyH_take (i := 10) (oi := ⟨_, _, _, _, _, _⟩) (v := ?_) rfl (by kernel_rfl) (by kernel_rfl) (by kernel_rfl) (fun _ _ _ h => h) (Or.inl ⟨by rfl, ?_⟩) hHeld ?_
        rotate_left
        · intro w' hSw
          try dsimp only at hSw
          go_simp
          all_goals with_reducible rfl
        simp only [Act.put, List.setIfInBounds_toArray, List.set_cons_zero, List.set_cons_succ]
        refine wpAnyH_take (i := 11) (oi := ⟨_, _, _, _, _, _⟩) (v := ?_) rfl (by kernel_rfl) (by kernel_rfl) (by kernel_rfl) (fun _ _ _ h => h) (Or.inl ⟨by rfl, ?_⟩) hHeld ?_
        rotate_left
        · intro w' hSw
          try dsimp only at hSw
          go_simp
          all_goals with_reducible rfl
        simp only [Act.put, List.setIfInBounds_toArray, List.set_cons_zero, List.set_cons_succ]
        refine wpAnyH_take (i := 12) (oi := ⟨_, _, _, _, _, _⟩) (v := ?_) rfl (by kernel_rfl) (by kernel_rfl) (by kernel_rfl) (fun _ _ _ h => h) (Or.inl ⟨by rfl, ?_⟩) hHeld ?_
        rotate_left
        · intro w' hSw
          try dsimp only at hSw
          go_simp
          all_goals with_reducible rfl
        simp only [Act.put, List.setIfInBounds_toArray, List.set_cons_zero, List.set_cons_succ]
        refine wpAnyH_take (i := 13) (oi := ⟨_, _, _, _, _, _⟩) (v := ?_) rfl (by kernel_rfl) (by kernel_rfl) (by kernel_rfl) (fun _ _ _ h => h) (Or.inl ⟨by rfl, ?_⟩) hHeld ?_
        rotate_left
        · intro w' hSw
          try dsimp only at hSw
          go_simp
          all_goals with_reducible rfl
        simp only [Act.put, List.setIfInBounds_toArray, List.set_cons_zero, List.set_cons_succ]
        refine wpAnyH_take (i := 14) (oi := ⟨_, _, _, _, _, _⟩) (v := ?_) rfl (by kernel_rfl) (by kernel_rfl) (by kernel_rfl) (fun _ _ _ h => h) (Or.inl ⟨by rfl, ?_⟩) hHeld ?_
        rotate_left
        · intro w' hSw
          try dsimp only at hSw
          go_simp
          all_goals with_reducible rfl
        simp only [Act.put, List.setIfInBounds_toArray, List.set_cons_zero, List.set_cons_succ]
        refine wpAnyH_take (i := 15) (oi := ⟨_, _, _, _, _, _⟩) (v := ?_) rfl (by kernel_rfl) (by kernel_rfl) (by kernel_rfl) (fun _ _ _ h => h) (Or.inl ⟨by rfl, ?_⟩) hHeld ?_
        rotate_left
        · intro w' hSw
          try dsimp only at hSw
          go_simp
          all_goals with_reducible rfl
        simp only [Act.put, List.setIfInBounds_toArray, List.set_cons_zero, List.set_cons_succ]
        refine wpAnyH_ready (rs := [16]) (by kernel_rfl) (by simp) ?_
        refine AllReadyH.cons (o := ⟨_, _, _, _, _, _⟩) rfl (fun K hK => ?_) AllReadyH.nil
        go_simp
        refine (refOn_any x.s e _).mono ?_
        rintro r w3 ⟨rfl, k3, hw3⟩
        have b3 : Below w2.heap.size w2 w3 := by rw [hw3]; exact below_drewN (Below.refl _ _) k3
        clear hw3
        rw [V3.out]
        have B3 := Hid.of (B2.out.trans (b3.mono B2.out.size))
        have R3 := Hid.of (R2.out.next b3)
        have CS3 := Hid.of (CS2.out.next b3)
        have X3 := Hid.of (X2.out.next b3)
        clear b3 hHeld c0 c1 c2 c3 c4 c5 c6 c7 B2 R2 CS2 X2
        have c0 := (CS3.out).head
        have c1 := ((CS3.out).tail).head
        have c2 := (((CS3.out).tail).tail).head
        have c3 := ((((CS3.out).tail).tail).tail).head
        have c4 := (((((CS3.out).tail).tail).tail).tail).head
        have c5 := ((((((CS3.out).tail).tail).tail).tail).tail).head
        have c6 := (((((((CS3.out).tail).tail).tail).tail).tail).tail).head
        have c7 := ((((((((CS3.out).tail).tail).tail).tail).tail).tail).tail).head
        refine hK.out _ _ ⟨c0, c1, c2, c3, c4, c5, c6, c7⟩ (fun hHeld => ?_)
        clear hK K
        try simp only [Act.put, List.setIfInBounds_toArray, List.set_cons_zero, List.set_cons_succ]
        refine wpAnyH_take (i := 17) (oi := ⟨_, _, _, _, _, _⟩) (v := ?_) rfl (by kernel_rfl) (by kernel_rfl) (by kernel_rfl) (fun _ _ _ h => h) (Or.inl ⟨by rfl, ?_⟩) hHeld ?_
        rotate_left
        · intro w' hSw
          try dsimp only at hSw
          go_simp
          all_goals with_reducible rfl
        simp only [Act.put, List.setIfInBounds_toArray, List.set_cons_zero, List.set_cons_succ]
        refine wpAnyH_take (i := 18) (oi := ⟨_, _, _, _, _, _⟩) (v := ?_) rfl (by kernel_rfl) (by kernel_rfl) (by kernel_rfl) (fun _ _ _ h => h) (Or.inl ⟨by rfl, ?_⟩) hHeld ?_
        rotate_left
        · intro w' hSw
          try dsimp only at hSw
          go_simp
          all_goals with_reducible rfl
        simp only [Act.put, List.setIfInBounds_toArray, List.set_cons_zero, List.set_cons_succ]
        refine wpAnyH_take (i := 19) (oi := ⟨_, _, _, _, _, _⟩) (v := ?_) rfl (by kernel_rfl) (by kernel_rfl) (by kernel_rfl) (fun _ _ _ h => h) (Or.inl ⟨by rfl, ?_⟩) hHeld ?_
        rotate_left
        · intro w' hSw
          try dsimp only at hSw
          go_simp
          all_goals with_reducible rfl
        simp only [Act.put, List.setIfInBounds_toArray, List.set_cons_zero, List.set_cons_succ]
        refine wpAnyH_take (i := 20) (oi := ⟨_, _, _, _, _, _⟩) (v := undef) rfl (by kernel_rfl) (by kernel_rfl) (by kernel_rfl) (fun _ _ _ h => h) (Or.inr ⟨by rfl, rfl⟩) hHeld ?_
        simp only [Act.put, List.setIfInBounds_toArray, List.set_cons_zero, List.set_cons_succ]
        refine wpAnyH_take (i := 21) (oi := ⟨_, _, _, _, _, _⟩) (v := undef) rfl (by kernel_rfl) (by kernel_rfl) (by kernel_rfl) (fun _ _ _ h => h) (Or.inr ⟨by rfl, rfl⟩) hHeld ?_
        simp only [Act.put, List.setIfInBounds_toArray, List.set_cons_zero, List.set_cons_succ]
        refine wpAnyH_take (i := 22) (oi := ⟨_, _, _, _, _, _⟩) (v := undef) rfl (by kernel_rfl) (by kernel_rfl) (by kernel_rfl) (fun _ _ _ h => h) (Or.inr ⟨by rfl, rfl⟩) hHeld ?_
        simp only [Act.put, List.setIfInBounds_toArray, List.set_cons_zero, List.set_cons_succ]
        refine wpAnyH_take (i := 23) (oi := ⟨_, _, _, _, _, _⟩) (v := undef) rfl (by kernel_rfl) (by kernel_rfl) (by kernel_rfl) (fun _ _ _ h => h) (Or.inr ⟨by rfl, rfl⟩) hHeld ?_
        simp only [Act.put, List.setIfInBounds_toArray, List.set_cons_zero, List.set_cons_succ]
        refine wpAnyH_take (i := 24) (oi := ⟨_, _, _, _, _, _⟩) (v := ?_) rfl (by kernel_rfl) (by kernel_rfl) (by kernel_rfl) (fun _ _ _ h => h) (Or.inl ⟨by rfl, ?_⟩) hHeld ?_
        rotate_left
        · intro w' hSw
          try dsimp only at hSw
          go_simp
          all_goals with_reducible rfl
        simp only [Act.put, List.setIfInBounds_toArray, List.set_cons_zero, List.set_cons_succ]
        refine wpAnyH_done (by kernel_rfl) ?_ _
        refine NoPanic.normal ?_
        have R9 := R3
        have B9 := B3
        go_wp2
        go_ret
        exact ⟨by first | (rw [hno]; rfl) | rfl, by unfold tAdd; rw [hno]; exact R9.out, Step.of_below B9.out, fun D _ h => by unfold tAdd; rw [hno]; exact h.next B9.out⟩
      · cases v4
        · have hno : tOk e x = false := by rw [RES.out]; simp
          go_enter Tryz.func32, Tryz.ntmps32
          go_upto_region 1 with fail
          rw [HW.out]
          rw [HQ.out]
          clear HW
          refine wp_region_noPanic ?_
          refine wp_region_held_drew (S := fun w' => w'.cell? ⟨p, 0, none⟩ = some (.int .i64 e) ∧ w'.cell? ⟨q, 0, none⟩ = some (.string x.n) ∧ w'.cell? ⟨q, 1, none⟩ = some (.int .i64 x.s) ∧ w'.cell? ⟨q, 2, none⟩ = some (.int .i64 x.a.c) ∧ w'.cell? ⟨q, 3, none⟩ = some (.int .i64 x.a.hi) ∧ w'.cell? ⟨q, 4, none⟩ = some (.int .u64 x.a.lo) ∧ w'.cell? ⟨q, 5, none⟩ = some (.int .i64 x.a.mn) ∧ w'.cell? ⟨q, 6, none⟩ = some (.int .i64 x.a.mx)) (by kernel_rfl) ?_ (fun hHeld => ?_)
          · exact ⟨c0, c1, c2, c3, c4, c5, c6, c7⟩
          refine wpAnyH_take (i := 0) (oi := ⟨_, _, _, _, _, _⟩) (v := ?_) rfl (by kernel_rfl) (by kernel_rfl) (by kernel_rfl) (fun _ _ _ h => h) (Or.inl ⟨by rfl, ?_⟩) hHeld ?_
          rotate_left
          · intro w' hSw
            try dsimp only at hSw
            go_simp
            all_goals with_reducible rfl
          simp only [Act.put, List.setIfInBounds_toArray, List.set_cons_zero, List.set_cons_succ]
          refine wpAnyH_take (i := 1) (oi := ⟨_, _, _, _, _, _⟩) (v := ?_) rfl (by kernel_rfl) (by kernel_rfl) (by kernel_rfl) (fun _ _ _ h => h) (Or.inl ⟨by rfl, ?_⟩) hHeld ?_
          rotate_left
          · intro w' hSw
            try dsimp only at hSw
            go_simp
            all_goals with_reducible rfl
          simp only [Act.put, List.setIfInBounds_toArray, List.set_cons_zero, List.set_cons_succ]
          refine wpAnyH_ready (rs := [2]) (by kernel_rfl) (by simp) ?_
          refine AllReadyH.cons (o := ⟨_, _, _, _, _, _⟩) rfl (fun K hK => ?_) AllReadyH.nil
          go_simp
          refine (refName_any x.n F1.out _).mono ?_
          rintro r w2 ⟨rfl, k2, hw2⟩
          have b2 : Below w1.heap.size w1 w2 := by rw [hw2]; exact below_drewN ((Below.refl _ _).drew) k2
          clear hw2
          rw [V1.out]
          have B2 := Hid.of (B1.out.trans (b2.mono B1.out.size))
          have R2 := Hid.of (R1.out.next b2)
          have CS2 := Hid.of (CS1.out.next b2)
          have X2 := Hid.of (X1.out.next b2)
          clear b2 hHeld c0 c1 c2 c3 c4 c5 c6 c7 B1 R1 CS1 X1
          have c0 := (CS2.out).head
          have c1 := ((CS2.out).tail).head
          have c2 := (((CS2.out).tail).tail).head
          have c3 := ((((CS2.out).tail).tail).tail).head
          have c4 := (((((CS2.out).tail).tail).tail).tail).head
          have c5 := ((((((CS2.out).tail).tail).tail).tail).tail).head
          have c6 := (((((((CS2.out).tail).tail).tail).tail).tail).tail).head
          have c7 := ((((((((CS2.out).tail).tail).tail).tail).tail).tail).tail).head
          refine hK.out _ _ ⟨c0, c1, c2, c3, c4, c5, c6, c7⟩ (fun hHeld => ?_)
          clear hK K
          try simp only [Act.put, List.setIfInBounds_toArray, List.set_cons_zero, List.set_cons_succ]
          refine wpAnyH_take (i := 3) (oi := ⟨_, _, _, _, _, _⟩) (v := ?_) rfl (by kernel_rfl) (by kernel_rfl) (by kernel_rfl) (fun _ _ _ h => h) (Or.inl ⟨by rfl, ?_⟩) hHeld ?_
          rotate_left
          · intro w' hSw
            try dsimp only at hSw
            go_simp
            all_goals with_reducible rfl
          simp only [Act.put, List.setIfInBounds_toArray, List.set_cons_zero, List.set_cons_succ]
          refine wpAnyH_take (i := 4) (oi := ⟨_, _, _, _, _, _⟩) (v := ?_) rfl (by kernel_rfl) (by kernel_rfl) (by kernel_rfl) (fun _ _ _ h => h) (Or.inl ⟨by rfl, ?_⟩) hHeld ?_
          rotate_left
          · intro w' hSw
            try dsimp only at hSw
            go_simp
            all_goals with_reducible rfl
          simp only [Act.put, List.setIfInBounds_toArray, List.set_cons_zero, List.set_cons_succ]
          refine wpAnyH_take (i := 5) (oi := ⟨_, _, _, _, _, _⟩) (v := ?_) rfl (by kernel_rfl) (by kernel_rfl) (by kernel_rfl) (fun _ _ _ h => h) (Or.inl ⟨by rfl, ?_⟩) hHeld ?_
          rotate_left
          · intro w' hSw
            try dsimp only at hSw
            go_simp
            all_goals with_reducible rfl
          simp only [Act.put, List.setIfInBounds_toArray, List.set_cons_zero, List.set_cons_succ]
          refine wpAnyH_take (i := 6) (oi := ⟨_, _, _, _, _, _⟩) (v := ?_) rfl (by kernel_rfl) (by kernel_rfl) (by kernel_rfl) (fun _ _ _ h => h) (Or.inl ⟨by rfl, ?_⟩) hHeld ?_
          rotate_left
          · intro w' hSw
            try dsimp only at hSw
            go_simp
            all_goals with_reducible rfl
          simp only [Act.put, List.setIfInBounds_toArray, List.set_cons_zero, List.set_cons_succ]
          refine wpAnyH_take (i := 7) (oi := ⟨_, _, _, _, _, _⟩) (v := ?_) rfl (by kernel_rfl) (by kernel_rfl) (by kernel_rfl) (fun _ _ _ h => h) (Or.inl ⟨by rfl, ?_⟩) hHeld ?_
          rotate_left
          · intro w' hSw
            try dsimp only at hSw
            go_simp
            all_goals with_reducible rfl
          simp only [Act.put, List.setIfInBounds_toArray, List.set_cons_zero, List.set_cons_succ]
          refine wpAnyH_take (i := 8) (oi := ⟨_, _, _, _, _, _⟩) (v := ?_) rfl (by kernel_rfl) (by kernel_rfl) (by kernel_rfl) (fun _ _ _ h => h) (Or.inl ⟨by rfl, ?_⟩) hHeld ?_
          rotate_left
          · intro w' hSw
            try dsimp only at hSw
            go_simp
            all_goals with_reducible rfl
          simp only [Act.put, List.setIfInBounds_toArray, List.set_cons_zero, List.set_cons_succ]
          refine wpAnyH_take (i := 9) (oi := ⟨_, _, _, _, _, _⟩) (v := ?_) rfl (by kernel_rfl) (by kernel_rfl) (by kernel_rfl) (fun _ _ _ h => h) (Or.inl ⟨by rfl, ?_⟩) hHeld ?_
          rotate_left
          · intro w' hSw
            try dsimp only at hSw
            go_simp
            all_goals with_reducible rfl
          simp only [Act.put, List.setIfInBounds_toArray, List.set_cons_zero, List.set_cons_succ]
          refine wpAnyH_take (i := 10) (oi := ⟨_, _, _, _, _, _⟩) (v := ?_) rfl (by kernel_rfl) (by kernel_rfl) (by kernel_rfl) (fun _ _ _ h => h) (Or.inl ⟨by rfl, ?_⟩) hHeld ?_
          rotate_left
          · intro w' hSw
            try dsimp only at hSw
            go_simp
            all_goals with_reducible rfl
          simp only [Act.put, List.setIfInBounds_toArray, List.set_cons_zero, List.set_cons_succ]
          refine wpAnyH_take (i := 11) (oi := ⟨_, _, _, _, _, _⟩) (v := ?_) rfl (by kernel_rfl) (by kernel_rfl) (by kernel_rfl) (fun _ _ _ h => h) (Or.inl ⟨by rfl, ?_⟩) hHeld ?_
          rotate_left
          · intro w' hSw
            try dsimp only at hSw
            go_simp
            all_goals with_reducible rfl
          simp only [Act.put, List.setIfInBounds_toArray, List.set_cons_zero, List.set_cons_succ]
          refine wpAnyH_take (i := 12) (oi := ⟨_, _, _, _, _, _⟩) (v := ?_) rfl (by kernel_rfl) (by kernel_rfl) (by kernel_rfl) (fun _ _ _ h => h) (Or.inl ⟨by rfl, ?_⟩) hHeld ?_
          rotate_left
          · intro w' hSw
            try dsimp only at hSw
            go_simp
            all_goals with_reducible rfl
          simp only [Act.put, List.setIfInBounds_toArray, List.set_cons_zero, List.set_cons_succ]
          refine wpAnyH_take (i := 13) (oi := ⟨_, _, _, _, _, _⟩) (v := ?_) rfl (by kernel_rfl) (by kernel_rfl) (by kernel_rfl) (fun _ _ _ h => h) (Or.inl ⟨by rfl, ?_⟩) hHeld ?_
          rotate_left
          · intro w' hSw
            try dsimp only at hSw
            go_simp
            all_goals with_reducible rfl
          simp only [Act.put, List.setIfInBounds_toArray, List.set_cons_zero, List.set_cons_succ]
          refine wpAnyH_take (i := 14) (oi := ⟨_, _, _, _, _, _⟩) (v := ?_) rfl (by kernel_rfl) (by kernel_rfl) (by kernel_rfl) (fun _ _ _ h => h) (Or.inl ⟨by rfl, ?_⟩) hHeld ?_
          rotate_left
          · intro w' hSw
            try dsimp only at hSw
            go_simp
            all_goals with_reducible rfl
          simp only [Act.put, List.setIfInBounds_toArray, List.set_cons_zero, List.set_cons_succ]
          refine wpAnyH_take (i := 15) (oi := ⟨_, _, _, _, _, _⟩) (v := ?_) rfl (by kernel_rfl) (by kernel_rfl) (by kernel_rfl) (fun _ _ _ h => h) (Or.inl ⟨by rfl, ?_⟩) hHeld ?_
          rotate_left
          · intro w' hSw
            try dsimp only at hSw
            go_simp
            all_goals with_reducible rfl
          simp only [Act.put, List.setIfInBounds_toArray, List.set_cons_zero, List.set_cons_succ]
          refine wpAnyH_ready (rs := [16]) (by kernel_rfl) (by simp) ?_
          refine AllReadyH.cons (o := ⟨_, _, _, _, _, _⟩) rfl (fun K hK => ?_) AllReadyH.nil
          go_simp
          refine (refOn_any x.s e _).mono ?_
          rintro r w3 ⟨rfl, k3, hw3⟩
          have b3 : Below w2.heap.size w2 w3 := by rw [hw3]; exact below_drewN (Below.refl _ _) k3
          clear hw3
          rw [V3.out]
          have B3 := Hid.of (B2.out.trans (b3.mono B2.out.size))
          have R3 := Hid.of (R2.out.next b3)
          have CS3 := Hid.of (CS2.out.next b3)
          have X3 := Hid.of (X2.out.next b3)
          clear b3 hHeld c0 c1 c2 c3 c4 c5 c6 c7 B2 R2 CS2 X2
          have c0 := (CS3.out).head
          have c1 := ((CS3.out).tail).head
          have c2 := (((CS3.out).tail).tail).head
          have c3 := ((((CS3.out).tail).tail).tail).head
          have c4 := (((((CS3.out).tail).tail).tail).tail).head
          have c5 := ((((((CS3.out).tail).tail).tail).tail).tail).head
          have c6 := (((((((CS3.out).tail).tail).tail).tail).tail).tail).head
          have c7 := ((((((((CS3.out).tail).tail).tail).tail).tail).tail).tail).head
          refine hK.out _ _ ⟨c0, c1, c2, c3, c4, c5, c6, c7⟩ (fun hHeld => ?_)
          clear hK K
          try simp only [Act.put, List.setIfInBounds_toArray, List.set_cons_zero, List.set_cons_succ]
          refine wpAnyH_take (i := 17) (oi := ⟨_, _, _, _, _, _⟩) (v := ?_) rfl (by kernel_rfl) (by kernel_rfl) (by kernel_rfl) (fun _ _ _ h => h) (Or.inl ⟨by rfl, ?_⟩) hHeld ?_
          rotate_left
          · intro w' hSw
            try dsimp only at hSw
            go_simp
            all_goals with_reducible rfl
          simp only [Act.put, List.setIfInBounds_toArray, List.set_cons_zero, List.set_cons_succ]
          refine wpAnyH_take (i := 18) (oi := ⟨_, _, _, _, _, _⟩) (v := ?_) rfl (by kernel_rfl) (by kernel_rfl) (by kernel_rfl) (fun _ _ _ h => h) (Or.inl ⟨by rfl, ?_⟩) hHeld ?_
          rotate_left
          · intro w' hSw
            try dsimp only at hSw
            go_simp
            all_goals with_reducible rfl
          simp only [Act.put, List.setIfInBounds_toArray, List.set_cons_zero, List.set_cons_succ]
          refine wpAnyH_take (i := 19) (oi := ⟨_, _, _, _, _, _⟩) (v := ?_) rfl (by kernel_rfl) (by kernel_rfl) (by kernel_rfl) (fun _ _ _ h => h) (Or.inl ⟨by rfl, ?_⟩) hHeld ?_
          rotate_left
          · intro w' hSw
            try dsimp only at hSw
            go_simp
            all_goals with_reducible rfl
          simp only [Act.put, List.setIfInBounds_toArray, List.set_cons_zero, List.set_cons_succ]
          refine wpAnyH_take (i := 20) (oi := ⟨_, _, _, _, _, _⟩) (v := ?_) rfl (by kernel_rfl) (by kernel_rfl) (by kernel_rfl) (fun _ _ _ h => h) (Or.inl ⟨by rfl, ?_⟩) hHeld ?_
          rotate_left
          · intro w' hSw
            try dsimp only at hSw
            go_simp
            all_goals with_reducible rfl
          simp only [Act.put, List.setIfInBounds_toArray, List.set_cons_zero, List.set_cons_succ]
          refine wpAnyH_take (i := 21) (oi := ⟨_, _, _, _, _, _⟩) (v := ?_) rfl (by kernel_rfl) (by kernel_rfl) (by kernel_rfl) (fun _ _ _ h => h) (Or.inl ⟨by rfl, ?_⟩) hHeld ?_
          rotate_left
          · intro w' hSw
            try dsimp only at hSw
            go_simp
            all_goals with_reducible rfl
          simp only [Act.put, List.setIfInBounds_toArray, List.set_cons_zero, List.set_cons_succ]
          refine wpAnyH_ready (rs := [22]) (by kernel_rfl) (by simp) ?_
          refine AllReadyH.cons (o := ⟨_, _, _, _, _, _⟩) rfl (fun K hK => ?_) AllReadyH.nil
          go_simp
          refine (refValid_any x.a _).mono ?_
          rintro r w4 ⟨rfl, b4⟩
          rw [V4.out]
          have B4 := Hid.of (B3.out.trans (b4.mono B3.out.size))
          have R4 := Hid.of (R3.out.next b4)
          have CS4 := Hid.of (CS3.out.next b4)
          have X4 := Hid.of (X3.out.next b4)
          clear b4 hHeld c0 c1 c2 c3 c4 c5 c6 c7 B3 R3 CS3 X3
          have c0 := (CS4.out).head
          have c1 := ((CS4.out).tail).head
          have c2 := (((CS4.out).tail).tail).head
          have c3 := ((((CS4.out).tail).tail).tail).head
          have c4 := (((((CS4.out).tail).tail).tail).tail).head
          have c5 := ((((((CS4.out).tail).tail).tail).tail).tail).head
          have c6 := (((((((CS4.out).tail).tail).tail).tail).tail).tail).head
          have c7 := ((((((((CS4.out).tail).tail).tail).tail).tail).tail).tail).head
          refine hK.out _ _ ⟨c0, c1, c2, c3, c4, c5, c6, c7⟩ (fun hHeld => ?_)
          clear hK K
          try simp only [Act.put, List.setIfInBounds_toArray, List.set_cons_zero, List.set_cons_succ]
          refine wpAnyH_take (i := 23) (oi := ⟨_, _, _, _, _, _⟩) (v := ?_) rfl (by kernel_rfl) (by kernel_rfl) (by kernel_rfl) (fun _ _ _ h => h) (Or.inl ⟨by rfl, ?_⟩) hHeld ?_
          rotate_left
          · intro w' hSw
            try dsimp only at hSw
            go_simp
            all_goals with_reducible rfl
          simp only [Act.put, List.setIfInBounds_toArray, List.set_cons_zero, List.set_cons_succ]
          refine wpAnyH_take (i := 24) (oi := ⟨_, _, _, _, _, _⟩) (v := ?_) rfl (by kernel_rfl) (by kernel_rfl) (by kernel_rfl) (fun _ _ _ h => h) (Or.inl ⟨by rfl, ?_⟩) hHeld ?_
          rotate_left
          · intro w' hSw
            try dsimp only at hSw
            go_simp
            all_goals with_reducible rfl
          simp only [Act.put, List.setIfInBounds_toArray, List.set_cons_zero, List.set_cons_succ]
          refine wpAnyH_done (by kernel_rfl) ?_ _
          refine NoPanic.normal ?_
          have R9 := R4
          have B9 := B4
          go_wp2
          go_ret
          exact ⟨by first | (rw [hno]; rfl) | rfl, by unfold tAdd; rw [hno]; exact R9.out, Step.of_below B9.out, fun D _ h => by unfold tAdd; rw [hno]; exact h.next B9.out⟩
        · have hok : tOk e x = true := by rw [RES.out]; simp [hs]
          have OKX := Hid.of hok
          clear hok
          go_enter Tryz.func32, Tryz.ntmps32
          go_upto_region 1 with fail
          rw [HW.out]
          rw [HQ.out]
          clear HW
          refine wp_region_noPanic ?_
          refine wp_region_held_drew (S := fun w' => w'.cell? ⟨p, 0, none⟩ = some (.int .i64 e) ∧ w'.cell? ⟨q, 0, none⟩ = some (.string x.n) ∧ w'.cell? ⟨q, 1, none⟩ = some (.int .i64 x.s) ∧ w'.cell? ⟨q, 2, none⟩ = some (.int .i64 x.a.c) ∧ w'.cell? ⟨q, 3, none⟩ = some (.int .i64 x.a.hi) ∧ w'.cell? ⟨q, 4, none⟩ = some (.int .u64 x.a.lo) ∧ w'.cell? ⟨q, 5, none⟩ = some (.int .i64 x.a.mn) ∧ w'.cell? ⟨q, 6, none⟩ = some (.int .i64 x.a.mx)) (by kernel_rfl) ?_ (fun hHeld => ?_)
          · exact ⟨c0, c1, c2, c3, c4, c5, c6, c7⟩
          refine wpAnyH_take (i := 0) (oi := ⟨_, _, _, _, _, _⟩) (v := ?_) rfl (by kernel_rfl) (by kernel_rfl) (by kernel_rfl) (fun _ _ _ h => h) (Or.inl ⟨by rfl, ?_⟩) hHeld ?_
          rotate_left
          · intro w' hSw
            try dsimp only at hSw
            go_simp
            all_goals with_reducible rfl
          simp only [Act.put, List.setIfInBounds_toArray, List.set_cons_zero, List.set_cons_succ]
          refine wpAnyH_take (i := 1) (oi := ⟨_, _, _, _, _, _⟩) (v := ?_) rfl (by kernel_rfl) (by kernel_rfl) (by kernel_rfl) (fun _ _ _ h => h) (Or.inl ⟨by rfl, ?_⟩) hHeld ?_
          rotate_left
          · intro w' hSw
            try dsimp only at hSw
            go_simp
            all_goals with_reducible rfl
          simp only [Act.put, List.setIfInBounds_toArray, List.set_cons_zero, List.set_cons_succ]
          refine wpAnyH_ready (rs := [2]) (by kernel_rfl) (by simp) ?_
          refine AllReadyH.cons (o := ⟨_, _, _, _, _, _⟩) rfl (fun K hK => ?_) AllReadyH.nil
          go_simp
          refine (refName_any x.n F1.out _).mono ?_
          rintro r w2 ⟨rfl, k2, hw2⟩
          have b2 : Below w1.heap.size w1 w2 := by rw [hw2]; exact below_drewN ((Below.refl _ _).drew) k2
          clear hw2
          rw [V1.out]
          have B2 := Hid.of (B1.out.trans (b2.mono B1.out.size))
          have R2 := Hid.of (R1.out.next b2)
          have CS2 := Hid.of (CS1.out.next b2)
          have X2 := Hid.of (X1.out.next b2)
          clear b2 hHeld c0 c1 c2 c3 c4 c5 c6 c7 B1 R1 CS1 X1
          have c0 := (CS2.out).head
          have c1 := ((CS2.out).tail).head
          have c2 := (((CS2.out).tail).tail).head
          have c3 := ((((CS2.out).tail).tail).tail).head
          have c4 := (((((CS2.out).tail).tail).tail).tail).head
          have c5 := ((((((CS2.out).tail).tail).tail).tail).tail).head
          have c6 := (((((((CS2.out).tail).tail).tail).tail).tail).tail).head
          have c7 := ((((((((CS2.out).tail).tail).tail).tail).tail).tail).tail).head
          refine hK.out _ _ ⟨c0, c1, c2, c3, c4, c5, c6, c7⟩ (fun hHeld => ?_)
          clear hK K
          try simp only [Act.put, List.setIfInBounds_toArray, List.set_cons_zero, List.set_cons_succ]
          refine wpAnyH_take (i := 3) (oi := ⟨_, _, _, _, _, _⟩) (v := ?_) rfl (by kernel_rfl) (by kernel_rfl) (by kernel_rfl) (fun _ _ _ h => h) (Or.inl ⟨by rfl, ?_⟩) hHeld ?_
          rotate_left
          · intro w' hSw
            try dsimp only at hSw
            go_simp
            all_goals with_reducible rfl
          simp only [Act.put, List.setIfInBounds_toArray, List.set_cons_zero, List.set_cons_succ]
          refine wpAnyH_take (i := 4) (oi := ⟨_, _, _, _, _, _⟩) (v := ?_) rfl (by kernel_rfl) (by kernel_rfl) (by kernel_rfl) (fun _ _ _ h => h) (Or.inl ⟨by rfl, ?_⟩) hHeld ?_
          rotate_left
          · intro w' hSw
            try dsimp only at hSw
            go_simp
            all_goals with_reducible rfl
          simp only [Act.put, List.setIfInBounds_toArray, List.set_cons_zero, List.set_cons_succ]
          refine wpAnyH_take (i := 5) (oi := ⟨_, _, _, _, _, _⟩) (v := ?_) rfl (by kernel_rfl) (by kernel_rfl) (by kernel_rfl) (fun _ _ _ h => h) (Or.inl ⟨by rfl, ?_⟩) hHeld ?_
          rotate_left
          · intro w' hSw
            try dsimp only at hSw
            go_simp
            all_goals with_reducible rfl
          simp only [Act.put, List.setIfInBounds_toArray, List.set_cons_zero, List.set_cons_succ]
          refine wpAnyH_take (i := 6) (oi := ⟨_, _, _, _, _, _⟩) (v := ?_) rfl (by kernel_rfl) (by kernel_rfl) (by kernel_rfl) (fun _ _ _ h => h) (Or.inl ⟨by rfl, ?_⟩) hHeld ?_
          rotate_left
          · intro w' hSw
            try dsimp only at hSw
            go_simp
            all_goals with_reducible rfl
          simp only [Act.put, List.setIfInBounds_toArray, List.set_cons_zero, List.set_cons_succ]
          refine wpAnyH_take (i := 7) (oi := ⟨_, _, _, _, _, _⟩) (v := ?_) rfl (by kernel_rfl) (by kernel_rfl) (by kernel_rfl) (fun _ _ _ h => h) (Or.inl ⟨by rfl, ?_⟩) hHeld ?_
          rotate_left
          · intro w' hSw
            try dsimp only at hSw
            go_simp
            all_goals with_reducible rfl
          simp only [Act.put, List.setIfInBounds_toArray, List.set_cons_zero, List.set_cons_succ]
          refine wpAnyH_take (i := 8) (oi := ⟨_, _, _, _, _, _⟩) (v := ?_) rfl (by kernel_rfl) (by kernel_rfl) (by kernel_rfl) (fun _ _ _ h => h) (Or.inl ⟨by rfl, ?_⟩) hHeld ?_
          rotate_left
          · intro w' hSw
            try dsimp only at hSw
            go_simp
            all_goals with_reducible rfl
          simp only [Act.put, List.setIfInBounds_toArray, List.set_cons_zero, List.set_cons_succ]
          refine wpAnyH_take (i := 9) (oi := ⟨_, _, _, _, _, _⟩) (v := ?_) rfl (by kernel_rfl) (by kernel_rfl) (by kernel_rfl) (fun _ _ _ h => h) (Or.inl ⟨by rfl, ?_⟩) hHeld ?_
          rotate_left
          · intro w' hSw
            try dsimp only at hSw
            go_simp
            all_goals with_reducible rfl
          simp only [Act.put, List.setIfInBounds_toArray, List.set_cons_zero, List.set_cons_succ]
          refine wpAnyH_take (i := 10) (oi := ⟨_, _, _, _, _, _⟩) (v := ?_) rfl (by kernel_rfl) (by kernel_rfl) (by kernel_rfl) (fun _ _ _ h => h) (Or.inl ⟨by rfl, ?_⟩) hHeld ?_
          rotate_left
          · intro w' hSw
            try dsimp only at hSw
            go_simp
            all_goals with_reducible rfl
          simp only [Act.put, List.setIfInBounds_toArray, List.set_cons_zero, List.set_cons_succ]
          refine wpAnyH_take (i := 11) (oi := ⟨_, _, _, _, _, _⟩) (v := ?_) rfl (by kernel_rfl) (by kernel_rfl) (by kernel_rfl) (fun _ _ _ h => h) (Or.inl ⟨by rfl, ?_⟩) hHeld ?_
          rotate_left
          · intro w' hSw
            try dsimp only at hSw
            go_simp
            all_goals with_reducible rfl
          simp only [Act.put, List.setIfInBounds_toArray, List.set_cons_zero, List.set_cons_succ]
          refine wpAnyH_take (i := 12) (oi := ⟨_, _, _, _, _, _⟩) (v := ?_) rfl (by kernel_rfl) (by kernel_rfl) (by kernel_rfl) (fun _ _ _ h => h) (Or.inl ⟨by rfl, ?_⟩) hHeld ?_
          rotate_left
          · intro w' hSw
            try dsimp only at hSw
            go_simp
            all_goals with_reducible rfl
          simp only [Act.put, List.setIfInBounds_toArray, List.set_cons_zero, List.set_cons_succ]
          refine wpAnyH_take (i := 13) (oi := ⟨_, _, _, _, _, _⟩) (v := ?_) rfl (by kernel_rfl) (by kernel_rfl) (by kernel_rfl) (fun _ _ _ h => h) (Or.inl ⟨by rfl, ?_⟩) hHeld ?_
          rotate_left
          · intro w' hSw
            try dsimp only at hSw
            go_simp
            all_goals with_reducible rfl
          simp only [Act.put, List.setIfInBounds_toArray, List.set_cons_zero, List.set_cons_succ]
          refine wpAnyH_take (i := 14) (oi := ⟨_, _, _, _, _, _⟩) (v := ?_) rfl (by kernel_rfl) (by kernel_rfl) (by kernel_rfl) (fun _ _ _ h => h) (Or.inl ⟨by rfl, ?_⟩) hHeld ?_
          rotate_left
          · intro w' hSw
            try dsimp only at hSw
            go_simp
            all_goals with_reducible rfl
          simp only [Act.put, List.setIfInBounds_toArray, List.set_cons_zero, List.set_cons_succ]
          refine wpAnyH_take (i := 15) (oi := ⟨_, _, _, _, _, _⟩) (v := ?_) rfl (by kernel_rfl) (by kernel_rfl) (by kernel_rfl) (fun _ _ _ h => h) (Or.inl ⟨by rfl, ?_⟩) hHeld ?_
          rotate_left
          · intro w' hSw
            try dsimp only at hSw
            go_simp
            all_goals with_reducible rfl
          simp only [Act.put, List.setIfInBounds_toArray, List.set_cons_zero, List.set_cons_succ]
          refine wpAnyH_ready (rs := [16]) (by kernel_rfl) (by simp) ?_
          refine AllReadyH.cons (o := ⟨_, _, _, _, _, _⟩) rfl (fun K hK => ?_) AllReadyH.nil
          go_simp
          refine (refOn_any x.s e _).mono ?_
          rintro r w3 ⟨rfl, k3, hw3⟩
          have b3 : Below w2.heap.size w2 w3 := by rw [hw3]; exact below_drewN (Below.refl _ _) k3
          clear hw3
          rw [V3.out]
          have B3 := Hid.of (B2.out.trans (b3.mono B2.out.size))
          have R3 := Hid.of (R2.out.next b3)
          have CS3 := Hid.of (CS2.out.next b3)
          have X3 := Hid.of (X2.out.next b3)
          clear b3 hHeld c0 c1 c2 c3 c4 c5 c6 c7 B2 R2 CS2 X2
          have c0 := (CS3.out).head
          have c1 := ((CS3.out).tail).head
          have c2 := (((CS3.out).tail).tail).head
          have c3 := ((((CS3.out).tail).tail).tail).head
          have c4 := (((((CS3.out).tail).tail).tail).tail).head
          have c5 := ((((((CS3.out).tail).tail).tail).tail).tail).head
          have c6 := (((((((CS3.out).tail).tail).tail).tail).tail).tail).head
          have c7 := ((((((((CS3.out).tail).tail).tail).tail).tail).tail).tail).head
          refine hK.out _ _ ⟨c0, c1, c2, c3, c4, c5, c6, c7⟩ (fun hHeld => ?_)
          clear hK K
          try simp only [Act.put, List.setIfInBounds_toArray, List.set_cons_zero, List.set_cons_succ]
          refine wpAnyH_take (i := 17) (oi := ⟨_, _, _, _, _, _⟩) (v := ?_) rfl (by kernel_rfl) (by kernel_rfl) (by kernel_rfl) (fun _ _ _ h => h) (Or.inl ⟨by rfl, ?_⟩) hHeld ?_
          rotate_left
          · intro w' hSw
            try dsimp only at hSw
            go_simp
            all_goals with_reducible rfl
          simp only [Act.put, List.setIfInBounds_toArray, List.set_cons_zero, List.set_cons_succ]
          refine wpAnyH_take (i := 18) (oi := ⟨_, _, _, _, _, _⟩) (v := ?_) rfl (by kernel_rfl) (by kernel_rfl) (by kernel_rfl) (fun _ _ _ h => h) (Or.inl ⟨by rfl, ?_⟩) hHeld ?_
          rotate_left
          · intro w' hSw
            try dsimp only at hSw
            go_simp
            all_goals with_reducible rfl
          simp only [Act.put, List.setIfInBounds_toArray, List.set_cons_zero, List.set_cons_succ]
          refine wpAnyH_take (i := 19) (oi := ⟨_, _, _, _, _, _⟩) (v := ?_) rfl (by kernel_rfl) (by kernel_rfl) (by kernel_rfl) (fun _ _ _ h => h) (Or.inl ⟨by rfl, ?_⟩) hHeld ?_
          rotate_left
          · intro w' hSw
            try dsimp only at hSw
            go_simp
            all_goals with_reducible rfl
          simp only [Act.put, List.setIfInBounds_toArray, List.set_cons_zero, List.set_cons_succ]
          refine wpAnyH_take (i := 20) (oi := ⟨_, _, _, _, _, _⟩) (v := ?_) rfl (by kernel_rfl) (by kernel_rfl) (by kernel_rfl) (fun _ _ _ h => h) (Or.inl ⟨by rfl, ?_⟩) hHeld ?_
          rotate_left
          · intro w' hSw
            try dsimp only at hSw
            go_simp
            all_goals with_reducible rfl
          simp only [Act.put, List.setIfInBounds_toArray, List.set_cons_zero, List.set_cons_succ]
          refine wpAnyH_take (i := 21) (oi := ⟨_, _, _, _, _, _⟩) (v := ?_) rfl (by kernel_rfl) (by kernel_rfl) (by kernel_rfl) (fun _ _ _ h => h) (Or.inl ⟨by rfl, ?_⟩) hHeld ?_
          rotate_left
          · intro w' hSw
            try dsimp only at hSw
            go_simp
            all_goals with_reducible rfl
          simp only [Act.put, List.setIfInBounds_toArray, List.set_cons_zero, List.set_cons_succ]
          refine wpAnyH_ready (rs := [22]) (by kernel_rfl) (by simp) ?_
          refine AllReadyH.cons (o := ⟨_, _, _, _, _, _⟩) rfl (fun K hK => ?_) AllReadyH.nil
          go_simp
          refine (refValid_any x.a _).mono ?_
          rintro r w4 ⟨rfl, b4⟩
          rw [V4.out]
          have B4 := Hid.of (B3.out.trans (b4.mono B3.out.size))
          have R4 := Hid.of (R3.out.next b4)
          have CS4 := Hid.of (CS3.out.next b4)
          have X4 := Hid.of (X3.out.next b4)
          clear b4 hHeld c0 c1 c2 c3 c4 c5 c6 c7 B3 R3 CS3 X3
          have c0 := (CS4.out).head
          have c1 := ((CS4.out).tail).head
          have c2 := (((CS4.out).tail).tail).head
          have c3 := ((((CS4.out).tail).tail).tail).head
          have c4 := (((((CS4.out).tail).tail).tail).tail).head
          have c5 := ((((((CS4.out).tail).tail).tail).tail).tail).head
          have c6 := (((((((CS4.out).tail).tail).tail).tail).tail).tail).head
          have c7 := ((((((((CS4.out).tail).tail).tail).tail).tail).tail).tail).head
          refine hK.out _ _ ⟨c0, c1, c2, c3, c4, c5, c6, c7⟩ (fun hHeld => ?_)
          clear hK K
          try simp only [Act.put, List.setIfInBounds_toArray, List.set_cons_zero, List.set_cons_succ]
          refine wpAnyH_take (i := 23) (oi := ⟨_, _, _, _, _, _⟩) (v := ?_) rfl (by kernel_rfl) (by kernel_rfl) (by kernel_rfl) (fun _ _ _ h => h) (Or.inl ⟨by rfl, ?_⟩) hHeld ?_
          rotate_left
          · intro w' hSw
            try dsimp only at hSw
            go_simp
            all_goals with_reducible rfl
          simp only [Act.put, List.setIfInBounds_toArray, List.set_cons_zero, List.set_cons_succ]
          refine wpAnyH_take (i := 24) (oi := ⟨_, _, _, _, _, _⟩) (v := ?_) rfl (by kernel_rfl) (by kernel_rfl) (by kernel_rfl) (fun _ _ _ h => h) (Or.inl ⟨by rfl, ?_⟩) hHeld ?_
          rotate_left
          · intro w' hSw
            try dsimp only at hSw
            go_simp
            all_goals with_reducible rfl
          simp only [Act.put, List.setIfInBounds_toArray, List.set_cons_zero, List.set_cons_succ]
          refine wpAnyH_done (by kernel_rfl) ?_ _
          refine NoPanic.normal ?_
          clear hHeld
          obtain ⟨u, hu, hrow, hcap⟩ := R0.out
          obtain ⟨ua, uc, rfl, -⟩ := id hrow
          obtain ⟨N, hN⟩ : ∃ N, L.length = N := ⟨_, rfl⟩
          have NL := Hid.of hN
          rw [hN] at hu hrow hcap
          have HU := Hid.of hu
          have HRW := Hid.of hrow
          have HCP : Hid (N ≤ uc ∧ uc ≤ maxLen) := Hid.of hcap
          have hN9 : N ≤ 10000 := by have := HN.out; omega
          have hk0 := tPos_le L x
          rw [hN] at hk0
          obtain ⟨K, hK⟩ : ∃ K, tPos L x = K := ⟨_, rfl⟩
          rw [hK] at hk0
          have KP := Hid.of hK
          clear hu hrow hcap hN hK c0 c1 c2 c3 c4 c5 c6 c7
          go_wp2
          go_loopg [5] N (fun kx kv wr => ∃ k : Nat, kv = .int .i64 k ∧ k ≤ K ∧ N - k ≤ kx ∧ Hid (Below w4.heap.size w4 wr))
          case atStart => exact ⟨0, rfl, Nat.zero_le _, Nat.le_refl _, Hid.of (Below.refl _ _)⟩
          case round =>
            obtain ⟨k, rfl, hkK, hkx, HB⟩ := hrel
            have hk1 : (0 : Int) ≤ (k : Int) := by omega
            have hk2 : k ≤ N := by omega
            obtain ⟨both, hboth⟩ : ∃ b, b = decide (k < K) := ⟨_, rfl⟩
            go_upto_region 4 with fail
            go_cut [49] (fun bv wx => bv = .bool both ∧ Hid (Below wr.heap.size wr wx))
            case first =>
              have CS5 := Hid.of (CS4.out.next HB.out)
              have hup : wr.heap[p]? = some (.cells #[.int .i64 e, .slice ua N uc] 72) := ((B4.out.trans (HB.out.mono B4.out.size)).block p R0.out.lt).trans HU.out
              have l1 : wr.cell? ⟨p, 1, none⟩ = some (.slice ua N uc) := by simp [World.cell?, hup]
              by_cases hlt : (k : Int) < (N : Int)
              · obtain ⟨y, hy⟩ : ∃ y, L[k]? = some y := ⟨_, List.getElem?_eq_getElem (by have := NL.out; omega)⟩
                obtain ⟨bL, oL, hua, hbl, y0, y1, y2, y3, y4, y5, y6⟩ := r_at (HRW.out.kept (B4.out.trans (HB.out.mono B4.out.size))) k (rl y) (by rw [List.getElem?_map, hy]; rfl)
                have hbt : nLess ⟨y.n, y.s, y.a.c, y.a.hi, y.a.lo, y.a.mn, y.a.mx⟩ ⟨x.n, x.s, x.a.c, x.a.hi, x.a.lo, x.a.mn, x.a.mx⟩ = both := by
                  rw [hboth]
                  show kLtB y.k x.k = _
                  by_cases c : k < K
                  · rw [decide_eq_true c]
                    exact tPos_ahead (by rw [KP.out]; exact c) hy
                  · rw [decide_eq_false c]
                    obtain rfl : k = K := by omega
                    exact tPos_at (r := x) (by rw [KP.out]; exact hy)
                have BT := Hid.of hbt
                rw [hua] at l1
                have CSA : Hid (Cs wr ((⟨p, 1, none⟩, .slice (some ⟨bL, oL, none⟩) N uc) :: (⟨bL, oL + k * 7, none⟩, .string y.n) :: (⟨bL, oL + k * 7 + 1, none⟩, .int .i64 y.s) :: (⟨bL, oL + k * 7 + 2, none⟩, .int .i64 y.a.c) :: (⟨bL, oL + k * 7 + 3, none⟩, .int .i64 y.a.hi) :: (⟨bL, oL + k * 7 + 4, none⟩, .int .u64 y.a.lo) :: (⟨bL, oL + k * 7 + 5, none⟩, .int .i64 y.a.mn) :: (⟨bL, oL + k * 7 + 6, none⟩, .int .i64 y.a.mx) :: boxC q x)) :=
                  Hid.of (.cons (Nat.lt_of_lt_of_le R4.out.lt HB.out.size) l1 (.cons hbl y0 (.cons hbl y1 (.cons hbl y2 (.cons hbl y3 (.cons hbl y4 (.cons hbl y5 (.cons hbl y6 CS5.out.tail))))))))
                clear y0 y1 y2 y3 y4 y5 y6 hbl hy hua l1 hup CS5 hbt hboth
                have d0 := (CSA.out).head
                have d1 := ((CSA.out).tail).head
                have d2 := (((CSA.out).tail).tail).head
                have d3 := ((((CSA.out).tail).tail).tail).head
                have d4 := (((((CSA.out).tail).tail).tail).tail).head
                have d5 := ((((((CSA.out).tail).tail).tail).tail).tail).head
                have d6 := (((((((CSA.out).tail).tail).tail).tail).tail).tail).head
                have d7 := ((((((((CSA.out).tail).tail).tail).tail).tail).tail).tail).head
                have d8 := (((((((((CSA.out).tail).tail).tail).tail).tail).tail).tail).tail).head
                have d9 := ((((((((((CSA.out).tail).tail).tail).tail).tail).tail).tail).tail).tail).head
                have d10 := (((((((((((CSA.out).tail).tail).tail).tail).tail).tail).tail).tail).tail).tail).head
                have d11 := ((((((((((((CSA.out).tail).tail).tail).tail).tail).tail).tail).tail).tail).tail).tail).head
                have d12 := (((((((((((((CSA.out).tail).tail).tail).tail).tail).tail).tail).tail).tail).tail).tail).tail).head
                have d13 := ((((((((((((((CSA.out).tail).tail).tail).tail).tail).tail).tail).tail).tail).tail).tail).tail).tail).head
                have d14 := (((((((((((((((CSA.out).tail).tail).tail).tail).tail).tail).tail).tail).tail).tail).tail).tail).tail).tail).head
                refine wp_region_noPanic ?_
                refine wp_region_held_drew (S := fun w' => w'.cell? ⟨p, 1, none⟩ = some (.slice (some ⟨bL, oL, none⟩) N uc) ∧ w'.cell? ⟨bL, oL + k * 7, none⟩ = some (.string y.n) ∧ w'.cell? ⟨bL, oL + k * 7 + 1, none⟩ = some (.int .i64 y.s) ∧ w'.cell? ⟨bL, oL + k * 7 + 2, none⟩ = some (.int .i64 y.a.c) ∧ w'.cell? ⟨bL, oL + k * 7 + 3, none⟩ = some (.int .i64 y.a.hi) ∧ w'.cell? ⟨bL, oL + k * 7 + 4, none⟩ = some (.int .u64 y.a.lo) ∧ w'.cell? ⟨bL, oL + k * 7 + 5, none⟩ = some (.int .i64 y.a.mn) ∧ w'.cell? ⟨bL, oL + k * 7 + 6, none⟩ = some (.int .i64 y.a.mx) ∧ w'.cell? ⟨q, 0, none⟩ = some (.string x.n) ∧ w'.cell? ⟨q, 1, none⟩ = some (.int .i64 x.s) ∧ w'.cell? ⟨q, 2, none⟩ = some (.int .i64 x.a.c) ∧ w'.cell? ⟨q, 3, none⟩ = some (.int .i64 x.a.hi) ∧ w'.cell? ⟨q, 4, none⟩ = some (.int .u64 x.a.lo) ∧ w'.cell? ⟨q, 5, none⟩ = some (.int .i64 x.a.mn) ∧ w'.cell? ⟨q, 6, none⟩ = some (.int .i64 x.a.mx)) (by kernel_rfl) ?_ (fun hHeld => ?_)
                · exact ⟨d0, d1, d2, d3, d4, d5, d6, d7, d8, d9, d10, d11, d12, d13, d14⟩
                refine wpAnyH_take (i := 0) (oi := ⟨_, _, _, _, _, _⟩) (v := ?_) rfl (by kernel_rfl) (by kernel_rfl) (by kernel_rfl) (fun _ _ _ h => h) (Or.inl ⟨by rfl, ?_⟩) hHeld ?_
                rotate_left
                · intro w' hSw
                  try dsimp only at hSw
                  go_simp
                  all_goals with_reducible rfl
                simp only [Act.put, List.setIfInBounds_toArray, List.set_cons_zero, List.set_cons_succ]
                refine wpAnyH_take (i := 1) (oi := ⟨_, _, _, _, _, _⟩) (v := ?_) rfl (by kernel_rfl) (by kernel_rfl) (by kernel_rfl) (fun _ _ _ h => h) (Or.inl ⟨by rfl, ?_⟩) hHeld ?_
                rotate_left
                · intro w' hSw
                  try dsimp only at hSw
                  go_simp
                  all_goals with_reducible rfl
                simp only [Act.put, List.setIfInBounds_toArray, List.set_cons_zero, List.set_cons_succ]
                refine wpAnyH_take (i := 2) (oi := ⟨_, _, _, _, _, _⟩) (v := ?_) rfl (by kernel_rfl) (by kernel_rfl) (by kernel_rfl) (fun _ _ _ h => h) (Or.inl ⟨by rfl, ?_⟩) hHeld ?_
                rotate_left
                · intro w' hSw
                  try dsimp only at hSw
                  go_simp
                  all_goals with_reducible rfl
                simp only [Act.put, List.setIfInBounds_toArray, List.set_cons_zero, List.set_cons_succ]
                refine wpAnyH_take (i := 3) (oi := ⟨_, _, _, _, _, _⟩) (v := ?_) rfl (by kernel_rfl) (by kernel_rfl) (by kernel_rfl) (fun _ _ _ h => h) (Or.inl ⟨by rfl, ?_⟩) hHeld ?_
                rotate_left
                · intro w' hSw
                  try dsimp only at hSw
                  go_simp
                  all_goals with_reducible rfl
                simp only [Act.put, List.setIfInBounds_toArray, List.set_cons_zero, List.set_cons_succ]
                refine wpAnyH_take (i := 4) (oi := ⟨_, _, _, _, _, _⟩) (v := ?_) rfl (by kernel_rfl) (by kernel_rfl) (by kernel_rfl) (fun _ _ _ h => h) (Or.inl ⟨by rfl, ?_⟩) hHeld ?_
                rotate_left
                · intro w' hSw
                  try dsimp only at hSw
                  go_simp
                  all_goals with_reducible rfl
                simp only [Act.put, List.setIfInBounds_toArray, List.set_cons_zero, List.set_cons_succ]
                refine wpAnyH_take (i := 5) (oi := ⟨_, _, _, _, _, _⟩) (v := ?_) rfl (by kernel_rfl) (by kernel_rfl) (by kernel_rfl) (fun _ _ _ h => h) (Or.inl ⟨by rfl, ?_⟩) hHeld ?_
                rotate_left
                · intro w' hSw
                  try dsimp only at hSw
                  go_simp
                  all_goals with_reducible rfl
                simp only [Act.put, List.setIfInBounds_toArray, List.set_cons_zero, List.set_cons_succ]
                refine wpAnyH_take (i := 6) (oi := ⟨_, _, _, _, _, _⟩) (v := ?_) rfl (by kernel_rfl) (by kernel_rfl) (by kernel_rfl) (fun _ _ _ h => h) (Or.inl ⟨by rfl, ?_⟩) hHeld ?_
                rotate_left
                · intro w' hSw
                  try dsimp only at hSw
                  go_simp
                  all_goals with_reducible rfl
                simp only [Act.put, List.setIfInBounds_toArray, List.set_cons_zero, List.set_cons_succ]
                refine wpAnyH_take (i := 7) (oi := ⟨_, _, _, _, _, _⟩) (v := ?_) rfl (by kernel_rfl) (by kernel_rfl) (by kernel_rfl) (fun _ _ _ h => h) (Or.inl ⟨by rfl, ?_⟩) hHeld ?_
                rotate_left
                · intro w' hSw
                  try dsimp only at hSw
                  go_simp
                  all_goals with_reducible rfl
                simp only [Act.put, List.setIfInBounds_toArray, List.set_cons_zero, List.set_cons_succ]
                refine wpAnyH_take (i := 8) (oi := ⟨_, _, _, _, _, _⟩) (v := ?_) rfl (by kernel_rfl) (by kernel_rfl) (by kernel_rfl) (fun _ _ _ h => h) (Or.inl ⟨by rfl, ?_⟩) hHeld ?_
                rotate_left
                · intro w' hSw
                  try dsimp only at hSw
                  go_simp
                  all_goals with_reducible rfl
                simp only [Act.put, List.setIfInBounds_toArray, List.set_cons_zero, List.set_cons_succ]
                refine wpAnyH_take (i := 9) (oi := ⟨_, _, _, _, _, _⟩) (v := ?_) rfl (by kernel_rfl) (by kernel_rfl) (by kernel_rfl) (fun _ _ _ h => h) (Or.inl ⟨by rfl, ?_⟩) hHeld ?_
                rotate_left
                · intro w' hSw
                  try dsimp only at hSw
                  go_simp
                  all_goals with_reducible rfl
                simp only [Act.put, List.setIfInBounds_toArray, List.set_cons_zero, List.set_cons_succ]
                refine wpAnyH_take (i := 10) (oi := ⟨_, _, _, _, _, _⟩) (v := ?_) rfl (by kernel_rfl) (by kernel_rfl) (by kernel_rfl) (fun _ _ _ h => h) (Or.inl ⟨by rfl, ?_⟩) hHeld ?_
                rotate_left
                · intro w' hSw
                  try dsimp only at hSw
                  go_simp
                  all_goals with_reducible rfl
                simp only [Act.put, List.setIfInBounds_toArray, List.set_cons_zero, List.set_cons_succ]
                refine wpAnyH_take (i := 11) (oi := ⟨_, _, _, _, _, _⟩) (v := ?_) rfl (by kernel_rfl) (by kernel_rfl) (by kernel_rfl) (fun _ _ _ h => h) (Or.inl ⟨by rfl, ?_⟩) hHeld ?_
                rotate_left
                · intro w' hSw
                  try dsimp only at hSw
                  go_simp
                  all_goals with_reducible rfl
                simp only [Act.put, List.setIfInBounds_toArray, List.set_cons_zero, List.set_cons_succ]
                refine wpAnyH_take (i := 12) (oi := ⟨_, _, _, _, _, _⟩) (v := ?_) rfl (by kernel_rfl) (by kernel_rfl) (by kernel_rfl) (fun _ _ _ h => h) (Or.inl ⟨by rfl, ?_⟩) hHeld ?_
                rotate_left
                · intro w' hSw
                  try dsimp only at hSw
                  go_simp
                  all_goals with_reducible rfl
                simp only [Act.put, List.setIfInBounds_toArray, List.set_cons_zero, List.set_cons_succ]
                refine wpAnyH_take (i := 13) (oi := ⟨_, _, _, _, _, _⟩) (v := ?_) rfl (by kernel_rfl) (by kernel_rfl) (by kernel_rfl) (fun _ _ _ h => h) (Or.inl ⟨by rfl, ?_⟩) hHeld ?_
                rotate_left
                · intro w' hSw
                  try dsimp only at hSw
                  go_simp
                  all_goals with_reducible rfl
                simp only [Act.put, List.setIfInBounds_toArray, List.set_cons_zero, List.set_cons_succ]
                refine wpAnyH_take (i := 14) (oi := ⟨_, _, _, _, _, _⟩) (v := ?_) rfl (by kernel_rfl) (by kernel_rfl) (by kernel_rfl) (fun _ _ _ h => h) (Or.inl ⟨by rfl, ?_⟩) hHeld ?_
                rotate_left
                · intro w' hSw
                  try dsimp only at hSw
                  go_simp
                  all_goals with_reducible rfl
                simp only [Act.put, List.setIfInBounds_toArray, List.set_cons_zero, List.set_cons_succ]
                refine wpAnyH_take (i := 15) (oi := ⟨_, _, _, _, _, _⟩) (v := ?_) rfl (by kernel_rfl) (by kernel_rfl) (by kernel_rfl) (fun _ _ _ h => h) (Or.inl ⟨by rfl, ?_⟩) hHeld ?_
                rotate_left
                · intro w' hSw
                  try dsimp only at hSw
                  go_simp
                  all_goals with_reducible rfl
                simp only [Act.put, List.setIfInBounds_toArray, List.set_cons_zero, List.set_cons_succ]
                refine wpAnyH_ready (rs := [16]) (by kernel_rfl) (by simp) ?_
                refine AllReadyH.cons (o := ⟨_, _, _, _, _, _⟩) rfl (fun K hK => ?_) AllReadyH.nil
                go_simp
                refine (refLess_any ⟨y.n, y.s, y.a.c, y.a.hi, y.a.lo, y.a.mn, y.a.mx⟩ ⟨x.n, x.s, x.a.c, x.a.hi, x.a.lo, x.a.mn, x.a.mx⟩ _).mono ?_
                rintro r w6 ⟨rfl, b6⟩
                rw [BT.out]
                have c6 := (Below.refl wr.heap.size wr).drew.trans b6
                have CSB := Hid.of (CSA.out.next c6)
                have B6 := Hid.of c6
                clear b6 c6 hHeld d0 d1 d2 d3 d4 d5 d6 d7 d8 d9 d10 d11 d12 d13 d14 CSA
                have d0 := (CSB.out).head
                have d1 := ((CSB.out).tail).head
                have d2 := (((CSB.out).tail).tail).head
                have d3 := ((((CSB.out).tail).tail).tail).head
                have d4 := (((((CSB.out).tail).tail).tail).tail).head
                have d5 := ((((((CSB.out).tail).tail).tail).tail).tail).head
                have d6 := (((((((CSB.out).tail).tail).tail).tail).tail).tail).head
                have d7 := ((((((((CSB.out).tail).tail).tail).tail).tail).tail).tail).head
                have d8 := (((((((((CSB.out).tail).tail).tail).tail).tail).tail).tail).tail).head
                have d9 := ((((((((((CSB.out).tail).tail).tail).tail).tail).tail).tail).tail).tail).head
                have d10 := (((((((((((CSB.out).tail).tail).tail).tail).tail).tail).tail).tail).tail).tail).head
                have d11 := ((((((((((((CSB.out).tail).tail).tail).tail).tail).tail).tail).tail).tail).tail).tail).head
                have d12 := (((((((((((((CSB.out).tail).tail).tail).tail).tail).tail).tail).tail).tail).tail).tail).tail).head
                have d13 := ((((((((((((((CSB.out).tail).tail).tail).tail).tail).tail).tail).tail).tail).tail).tail).tail).tail).head
                have d14 := (((((((((((((((CSB.out).tail).tail).tail).tail).tail).tail).tail).tail).tail).tail).tail).tail).tail).tail).head
                refine hK.out _ _ ⟨d0, d1, d2, d3, d4, d5, d6, d7, d8, d9, d10, d11, d12, d13, d14⟩ (fun hHeld => ?_)
                clear hK K
                try simp only [Act.put, List.setIfInBounds_toArray, List.set_cons_zero, List.set_cons_succ]
                refine wpAnyH_take (i := 17) (oi := ⟨_, _, _, _, _, _⟩) (v := ?_) rfl (by kernel_rfl) (by kernel_rfl) (by kernel_rfl) (fun _ _ _ h => h) (Or.inl ⟨by rfl, ?_⟩) hHeld ?_
                rotate_left
                · intro w' hSw
                  try dsimp only at hSw
                  go_simp
                  all_goals with_reducible rfl
                simp only [Act.put, List.setIfInBounds_toArray, List.set_cons_zero, List.set_cons_succ]
                refine wpAnyH_done (by kernel_rfl) ?_ _
                refine NoPanic.normal ?_
                clear hHeld
                go_wp2_with fail
                go_meet
                exact ⟨rfl, B6⟩
              · obtain rfl : both = false := by rw [hboth]; exact decide_eq_false (by omega)
                clear hup CS5 hboth
                refine wp_region_noPanic ?_
                refine wp_region_held_drew (S := fun w' => w'.cell? ⟨p, 1, none⟩ = some (.slice ua N uc)) (by kernel_rfl) ?_ (fun hHeld => ?_)
                · exact l1
                refine wpAnyH_take (i := 0) (oi := ⟨_, _, _, _, _, _⟩) (v := ?_) rfl (by kernel_rfl) (by kernel_rfl) (by kernel_rfl) (fun _ _ _ h => h) (Or.inl ⟨by rfl, ?_⟩) hHeld ?_
                rotate_left
                · intro w' hSw
                  try dsimp only at hSw
                  go_simp
                  all_goals with_reducible rfl
                simp only [Act.put, List.setIfInBounds_toArray, List.set_cons_zero, List.set_cons_succ]
                refine wpAnyH_take (i := 1) (oi := ⟨_, _, _, _, _, _⟩) (v := ?_) rfl (by kernel_rfl) (by kernel_rfl) (by kernel_rfl) (fun _ _ _ h => h) (Or.inl ⟨by rfl, ?_⟩) hHeld ?_
                rotate_left
                · intro w' hSw
                  try dsimp only at hSw
                  go_simp
                  all_goals with_reducible rfl
                simp only [Act.put, List.setIfInBounds_toArray, List.set_cons_zero, List.set_cons_succ]
                refine wpAnyH_take (i := 2) (oi := ⟨_, _, _, _, _, _⟩) (v := ?_) rfl (by kernel_rfl) (by kernel_rfl) (by kernel_rfl) (fun _ _ _ h => h) (Or.inl ⟨by rfl, ?_⟩) hHeld ?_
                rotate_left
                · intro w' hSw
                  try dsimp only at hSw
                  go_simp
                  all_goals with_reducible rfl
                simp only [Act.put, List.setIfInBounds_toArray, List.set_cons_zero, List.set_cons_succ]
                refine wpAnyH_take (i := 3) (oi := ⟨_, _, _, _, _, _⟩) (v := ?_) rfl (by kernel_rfl) (by kernel_rfl) (by kernel_rfl) (fun _ _ _ h => h) (Or.inl ⟨by rfl, ?_⟩) hHeld ?_
                rotate_left
                · intro w' hSw
                  try dsimp only at hSw
                  go_simp
                  all_goals with_reducible rfl
                simp only [Act.put, List.setIfInBounds_toArray, List.set_cons_zero, List.set_cons_succ]
                refine wpAnyH_take (i := 4) (oi := ⟨_, _, _, _, _, _⟩) (v := ?_) rfl (by kernel_rfl) (by kernel_rfl) (by kernel_rfl) (fun _ _ _ h => h) (Or.inl ⟨by rfl, ?_⟩) hHeld ?_
                rotate_left
                · intro w' hSw
                  try dsimp only at hSw
                  go_simp
                  all_goals with_reducible rfl
                simp only [Act.put, List.setIfInBounds_toArray, List.set_cons_zero, List.set_cons_succ]
                refine wpAnyH_take (i := 5) (oi := ⟨_, _, _, _, _, _⟩) (v := ?_) rfl (by kernel_rfl) (by kernel_rfl) (by kernel_rfl) (fun _ _ _ h => h) (Or.inl ⟨by rfl, ?_⟩) hHeld ?_
                rotate_left
                · intro w' hSw
                  try dsimp only at hSw
                  go_simp
                  all_goals with_reducible rfl
                simp only [Act.put, List.setIfInBounds_toArray, List.set_cons_zero, List.set_cons_succ]
                refine wpAnyH_take (i := 6) (oi := ⟨_, _, _, _, _, _⟩) (v := ?_) rfl (by kernel_rfl) (by kernel_rfl) (by kernel_rfl) (fun _ _ _ h => h) (Or.inl ⟨by rfl, ?_⟩) hHeld ?_
                rotate_left
                · intro w' hSw
                  try dsimp only at hSw
                  go_simp
                  all_goals with_reducible rfl
                simp only [Act.put, List.setIfInBounds_toArray, List.set_cons_zero, List.set_cons_succ]
                refine wpAnyH_take (i := 7) (oi := ⟨_, _, _, _, _, _⟩) (v := ?_) rfl (by kernel_rfl) (by kernel_rfl) (by kernel_rfl) (fun _ _ _ h => h) (Or.inl ⟨by rfl, ?_⟩) hHeld ?_
                rotate_left
                · intro w' hSw
                  try dsimp only at hSw
                  go_simp
                  all_goals with_reducible rfl
                simp only [Act.put, List.setIfInBounds_toArray, List.set_cons_zero, List.set_cons_succ]
                refine wpAnyH_take (i := 8) (oi := ⟨_, _, _, _, _, _⟩) (v := undef) rfl (by kernel_rfl) (by kernel_rfl) (by kernel_rfl) (fun _ _ _ h => h) (Or.inr ⟨by rfl, rfl⟩) hHeld ?_
                simp only [Act.put, List.setIfInBounds_toArray, List.set_cons_zero, List.set_cons_succ]
                refine wpAnyH_take (i := 9) (oi := ⟨_, _, _, _, _, _⟩) (v := undef) rfl (by kernel_rfl) (by kernel_rfl) (by kernel_rfl) (fun _ _ _ h => h) (Or.inr ⟨by rfl, rfl⟩) hHeld ?_
                simp only [Act.put, List.setIfInBounds_toArray, List.set_cons_zero, List.set_cons_succ]
                refine wpAnyH_take (i := 10) (oi := ⟨_, _, _, _, _, _⟩) (v := undef) rfl (by kernel_rfl) (by kernel_rfl) (by kernel_rfl) (fun _ _ _ h => h) (Or.inr ⟨by rfl, rfl⟩) hHeld ?_
                simp only [Act.put, List.setIfInBounds_toArray, List.set_cons_zero, List.set_cons_succ]
                refine wpAnyH_take (i := 11) (oi := ⟨_, _, _, _, _, _⟩) (v := undef) rfl (by kernel_rfl) (by kernel_rfl) (by kernel_rfl) (fun _ _ _ h => h) (Or.inr ⟨by rfl, rfl⟩) hHeld ?_
                simp only [Act.put, List.setIfInBounds_toArray, List.set_cons_zero, List.set_cons_succ]
                refine wpAnyH_take (i := 12) (oi := ⟨_, _, _, _, _, _⟩) (v := undef) rfl (by kernel_rfl) (by kernel_rfl) (by kernel_rfl) (fun _ _ _ h => h) (Or.inr ⟨by rfl, rfl⟩) hHeld ?_
                simp only [Act.put, List.setIfInBounds_toArray, List.set_cons_zero, List.set_cons_succ]
                refine wpAnyH_take (i := 13) (oi := ⟨_, _, _, _, _, _⟩) (v := undef) rfl (by kernel_rfl) (by kernel_rfl) (by kernel_rfl) (fun _ _ _ h => h) (Or.inr ⟨by rfl, rfl⟩) hHeld ?_
                simp only [Act.put, List.setIfInBounds_toArray, List.set_cons_zero, List.set_cons_succ]
                refine wpAnyH_take (i := 14) (oi := ⟨_, _, _, _, _, _⟩) (v := undef) rfl (by kernel_rfl) (by kernel_rfl) (by kernel_rfl) (fun _ _ _ h => h) (Or.inr ⟨by rfl, rfl⟩) hHeld ?_
                simp only [Act.put, List.setIfInBounds_toArray, List.set_cons_zero, List.set_cons_succ]
                refine wpAnyH_take (i := 15) (oi := ⟨_, _, _, _, _, _⟩) (v := undef) rfl (by kernel_rfl) (by kernel_rfl) (by kernel_rfl) (fun _ _ _ h => h) (Or.inr ⟨by rfl, rfl⟩) hHeld ?_
                simp only [Act.put, List.setIfInBounds_toArray, List.set_cons_zero, List.set_cons_succ]
                refine wpAnyH_take (i := 16) (oi := ⟨_, _, _, _, _, _⟩) (v := undef) rfl (by kernel_rfl) (by kernel_rfl) (by kernel_rfl) (fun _ _ _ h => h) (Or.inr ⟨by rfl, rfl⟩) hHeld ?_
                simp only [Act.put, List.setIfInBounds_toArray, List.set_cons_zero, List.set_cons_succ]
                refine wpAnyH_take (i := 17) (oi := ⟨_, _, _, _, _, _⟩) (v := ?_) rfl (by kernel_rfl) (by kernel_rfl) (by kernel_rfl) (fun _ _ _ h => h) (Or.inl ⟨by rfl, ?_⟩) hHeld ?_
                rotate_left
                · intro w' hSw
                  try dsimp only at hSw
                  go_simp
                  all_goals with_reducible rfl
                simp only [Act.put, List.setIfInBounds_toArray, List.set_cons_zero, List.set_cons_succ]
                refine wpAnyH_done (by kernel_rfl) ?_ _
                refine NoPanic.normal ?_
                clear hHeld
                go_wp2_with fail
                go_meet
                exact ⟨rfl, Hid.of (Below.refl _ _).drew⟩
            case rest =>
              obtain ⟨rfl, hb5⟩ := hcut
              have HB5 := Hid.of (HB.out.trans (hb5.out.mono HB.out.size))
              clear hb5 HB
              by_cases hkl : k < K
              · obtain rfl : both = true := by rw [hboth]; exact decide_eq_true hkl
                clear hboth
                go_wp2
                go_roundg (N - (k + 1))
                case measure => omega
                case rel => exact ⟨k + 1, by go_num, by omega, Nat.le_refl _, HB5⟩
              · obtain rfl : both = false := by rw [hboth]; exact decide_eq_false hkl
                obtain rfl : k = K := by omega
                clear hboth hkl hkK hkx
                have BC := Hid.of (B4.out.trans (HB5.out.mono B4.out.size))
                have CSC := Hid.of (CS4.out.next HB5.out).tail
                have XC := Hid.of (X4.out.next HB5.out)
                clear HB5 B4 CS4 R4 X4
                go_upto_region 6 with fail
                go_cut [6] from 52 to 57 (fun v wx => Hid (CellRow wx v (N - k) (flat renc ((L.drop k).map rl))) ∧ wx = wc)
                case first =>
                  have hup : wc.heap[p]? = some (.cells #[.int .i64 e, .slice ua N uc] 72) := (BC.out.block p R0.out.lt).trans HU.out
                  have l1 : wc.cell? ⟨p, 1, none⟩ = some (.slice ua N uc) := by simp [World.cell?, hup]
                  have hkc : (k : Int) ≤ (N : Int) := by omega
                  have hNc : (N : Int) ≤ (uc : Int) := by have := HCP.out.1; omega
                  have hcm : uc ≤ 9223372036854775807 := by have := HCP.out.2; unfold maxLen at this; omega
                  have LR := Hid.of (HRW.out.kept BC.out)
                  by_cases hku : k < uc
                  · have hku' : (k : Int) < (uc : Int) := by omega
                    go_wp2_with fail
                    go_meet
                    exact ⟨Hid.of (row_from LR.out NL.out _ (fun _ => rfl)), rfl⟩
                  · obtain rfl : k = N := by omega
                    obtain rfl : uc = k := by have := HCP.out; omega
                    go_wp2_with fail
                    go_meet
                    refine ⟨Hid.of ?_, rfl⟩
                    have hr := row_from (c' := 0) (k := uc) LR.out NL.out ua (fun c => absurd c (Nat.lt_irrefl _))
                    rw [Nat.sub_self] at hr ⊢
                    exact hr
                case rest =>
                  obtain ⟨D0, rfl⟩ := hcut
                  generalize hwd : wc = wd at *
                  clear hwd
                  obtain ⟨same, hsame⟩ : ∃ s : Bool, (∃ y, L[k]? = some y ∧ y.k = x.k) ↔ s = true := ⟨decide (∃ y, L[k]? = some y ∧ y.k = x.k) (h := Classical.propDecidable _), by simp⟩
                  have SME := Hid.of hsame
                  clear hsame
                  go_upto_region 7 with fail
                  go_cut [90] from 58 to 90 (fun bv wx => bv = .bool same ∧ Hid (Below wd.heap.size wd wx))
                  case first =>
                    have hup : wd.heap[p]? = some (.cells #[.int .i64 e, .slice ua N uc] 72) := (BC.out.block p R0.out.lt).trans HU.out
                    have l1 : wd.cell? ⟨p, 1, none⟩ = some (.slice ua N uc) := by simp [World.cell?, hup]
                    by_cases hlt : (k : Int) < (N : Int)
                    · obtain ⟨y, hy⟩ : ∃ y, L[k]? = some y := ⟨_, List.getElem?_eq_getElem (by have := NL.out; omega)⟩
                      obtain ⟨bL, oL, hua, hbl, y0, y1, y2, y3, y4, y5, y6⟩ := r_at (HRW.out.kept BC.out) k (rl y) (by rw [List.getElem?_map, hy]; rfl)
                      rw [hua] at l1
                      have CSA : Hid (Cs wd ((⟨p, 1, none⟩, .slice (some ⟨bL, oL, none⟩) N uc) :: (⟨bL, oL + k * 7, none⟩, .string y.n) :: (⟨bL, oL + k * 7 + 1, none⟩, .int .i64 y.s) :: boxC q x)) :=
                        Hid.of (.cons (Nat.lt_of_lt_of_le R0.out.lt BC.out.size) l1 (.cons hbl y0 (.cons hbl y1 CSC.out)))
                      have SMY : Hid (same = ((y.n.toList == x.n.toList) && decide (y.s = x.s))) := Hid.of (by
                        rw [Bool.eq_iff_iff, ← SME.out, Bool.and_eq_true, beq_iff_eq, decide_eq_true_eq]
                        constructor
                        · rintro ⟨z, hz, hk⟩
                          rw [hy] at hz
                          cases hz
                          exact ⟨by rw [show y.n = x.n from congrArg Prod.fst hk], congrArg Prod.snd hk⟩
                        · rintro ⟨h1, h2⟩
                          exact ⟨y, hy, Prod.ext (toList_eq h1) h2⟩)
                      obtain ⟨nb, hnb⟩ : ∃ b, (y.n.toList == x.n.toList) = b := ⟨_, rfl⟩
                      have NB := Hid.of hnb
                      clear y0 y1 y2 y3 y4 y5 y6 hbl hy hua l1 hup
                      cases nb
                      · obtain rfl : same = false := by rw [SMY.out, NB.out]; rfl
                        have d0 := (CSA.out).head
                        have d1 := ((CSA.out).tail).head
                        have d2 := (((CSA.out).tail).tail).head
                        have d3 := ((((CSA.out).tail).tail).tail).head
                        have d4 := (((((CSA.out).tail).tail).tail).tail).head
                        refine wp_region_noPanic ?_
                        refine wp_region_held_drew (S := fun w' => w'.cell? ⟨p, 1, none⟩ = some (.slice (some ⟨bL, oL, none⟩) N uc) ∧ w'.cell? ⟨bL, oL + k * 7, none⟩ = some (.string y.n) ∧ w'.cell? ⟨bL, oL + k * 7 + 1, none⟩ = some (.int .i64 y.s) ∧ w'.cell? ⟨q, 0, none⟩ = some (.string x.n) ∧ w'.cell? ⟨q, 1, none⟩ = some (.int .i64 x.s)) (by kernel_rfl) ?_ (fun hHeld => ?_)
                        · exact ⟨d0, d1, d2, d3, d4⟩
                        refine wpAnyH_take (i := 0) (oi := ⟨_, _, _, _, _, _⟩) (v := ?_) rfl (by kernel_rfl) (by kernel_rfl) (by kernel_rfl) (fun _ _ _ h => h) (Or.inl ⟨by rfl, ?_⟩) hHeld ?_
                        rotate_left
                        · intro w' hSw
                          try dsimp only at hSw
                          go_simp
                          all_goals with_reducible rfl
                        simp only [Act.put, List.setIfInBounds_toArray, List.set_cons_zero, List.set_cons_succ]
                        refine wpAnyH_take (i := 1) (oi := ⟨_, _, _, _, _, _⟩) (v := ?_) rfl (by kernel_rfl) (by kernel_rfl) (by kernel_rfl) (fun _ _ _ h => h) (Or.inl ⟨by rfl, ?_⟩) hHeld ?_
                        rotate_left
                        · intro w' hSw
                          try dsimp only at hSw
                          go_simp
                          all_goals with_reducible rfl
                        simp only [Act.put, List.setIfInBounds_toArray, List.set_cons_zero, List.set_cons_succ]
                        refine wpAnyH_take (i := 2) (oi := ⟨_, _, _, _, _, _⟩) (v := ?_) rfl (by kernel_rfl) (by kernel_rfl) (by kernel_rfl) (fun _ _ _ h => h) (Or.inl ⟨by rfl, ?_⟩) hHeld ?_
                        rotate_left
                        · intro w' hSw
                          try dsimp only at hSw
                          go_simp
                          all_goals with_reducible rfl
                        simp only [Act.put, List.setIfInBounds_toArray, List.set_cons_zero, List.set_cons_succ]
                        refine wpAnyH_take (i := 3) (oi := ⟨_, _, _, _, _, _⟩) (v := ?_) rfl (by kernel_rfl) (by kernel_rfl) (by kernel_rfl) (fun _ _ _ h => h) (Or.inl ⟨by rfl, ?_⟩) hHeld ?_
                        rotate_left
                        · intro w' hSw
                          try dsimp only at hSw
                          go_simp
                          all_goals with_reducible rfl
                        simp only [Act.put, List.setIfInBounds_toArray, List.set_cons_zero, List.set_cons_succ]
                        refine wpAnyH_take (i := 4) (oi := ⟨_, _, _, _, _, _⟩) (v := ?_) rfl (by kernel_rfl) (by kernel_rfl) (by kernel_rfl) (fun _ _ _ h => h) (Or.inl ⟨by rfl, ?_⟩) hHeld ?_
                        rotate_left
                        · intro w' hSw
                          try dsimp only at hSw
                          go_simp
                          all_goals with_reducible rfl
                        simp only [Act.put, List.setIfInBounds_toArray, List.set_cons_zero, List.set_cons_succ]
                        refine wpAnyH_take (i := 5) (oi := ⟨_, _, _, _, _, _⟩) (v := ?_) rfl (by kernel_rfl) (by kernel_rfl) (by kernel_rfl) (fun _ _ _ h => h) (Or.inl ⟨by rfl, ?_⟩) hHeld ?_
                        rotate_left
                        · intro w' hSw
                          try dsimp only at hSw
                          go_simp
                          all_goals with_reducible rfl
                        simp only [Act.put, List.setIfInBounds_toArray, List.set_cons_zero, List.set_cons_succ]
                        refine wpAnyH_take (i := 6) (oi := ⟨_, _, _, _, _, _⟩) (v := ?_) rfl (by kernel_rfl) (by kernel_rfl) (by kernel_rfl) (fun _ _ _ h => h) (Or.inl ⟨by rfl, ?_⟩) hHeld ?_
                        rotate_left
                        · intro w' hSw
                          try dsimp only at hSw
                          go_simp
                          all_goals with_reducible rfl
                        simp only [Act.put, List.setIfInBounds_toArray, List.set_cons_zero, List.set_cons_succ]
                        refine wpAnyH_take (i := 7) (oi := ⟨_, _, _, _, _, _⟩) (v := ?_) rfl (by kernel_rfl) (by kernel_rfl) (by kernel_rfl) (fun _ _ _ h => h) (Or.inl ⟨by rfl, ?_⟩) hHeld ?_
                        rotate_left
                        · intro w' hSw
                          try dsimp only at hSw
                          go_simp
                          all_goals with_reducible rfl
                        simp only [Act.put, List.setIfInBounds_toArray, List.set_cons_zero, List.set_cons_succ]
                        refine wpAnyH_take (i := 8) (oi := ⟨_, _, _, _, _, _⟩) (v := ?_) rfl (by kernel_rfl) (by kernel_rfl) (by kernel_rfl) (fun _ _ _ h => h) (Or.inl ⟨by rfl, ?_⟩) hHeld ?_
                        rotate_left
                        · intro w' hSw
                          try dsimp only at hSw
                          go_simp
                          all_goals with_reducible rfl
                        simp only [Act.put, List.setIfInBounds_toArray, List.set_cons_zero, List.set_cons_succ]
                        refine wpAnyH_take (i := 9) (oi := ⟨_, _, _, _, _, _⟩) (v := ?_) rfl (by kernel_rfl) (by kernel_rfl) (by kernel_rfl) (fun _ _ _ h => h) (Or.inl ⟨by rfl, ?_⟩) hHeld ?_
                        rotate_left
                        · intro w' hSw
                          try dsimp only at hSw
                          go_simp
                          all_goals with_reducible rfl
                        simp only [Act.put, List.setIfInBounds_toArray, List.set_cons_zero, List.set_cons_succ]
                        refine wpAnyH_take (i := 10) (oi := ⟨_, _, _, _, _, _⟩) (v := ?_) rfl (by kernel_rfl) (by kernel_rfl) (by kernel_rfl) (fun _ _ _ h => h) (Or.inl ⟨by rfl, ?_⟩) hHeld ?_
                        rotate_left
                        · intro w' hSw
                          try dsimp only at hSw
                          go_simp
                          all_goals with_reducible rfl
                        simp only [Act.put, List.setIfInBounds_toArray, List.set_cons_zero, List.set_cons_succ]
                        refine wpAnyH_take (i := 11) (oi := ⟨_, _, _, _, _, _⟩) (v := ?_) rfl (by kernel_rfl) (by kernel_rfl) (by kernel_rfl) (fun _ _ _ h => h) (Or.inl ⟨by rfl, ?_⟩) hHeld ?_
                        rotate_left
                        · intro w' hSw
                          try dsimp only at hSw
                          go_simp
                          all_goals with_reducible rfl
                        simp only [Act.put, List.setIfInBounds_toArray, List.set_cons_zero, List.set_cons_succ]
                        refine wpAnyH_take (i := 12) (oi := ⟨_, _, _, _, _, _⟩) (v := ?_) rfl (by kernel_rfl) (by kernel_rfl) (by kernel_rfl) (fun _ _ _ h => h) (Or.inl ⟨by rfl, ?_⟩) hHeld ?_
                        rotate_left
                        · intro w' hSw
                          try dsimp only at hSw
                          go_simp
                          all_goals with_reducible rfl
                        simp only [Act.put, List.setIfInBounds_toArray, List.set_cons_zero, List.set_cons_succ]
                        refine wpAnyH_take (i := 13) (oi := ⟨_, _, _, _, _, _⟩) (v := ?_) rfl (by kernel_rfl) (by kernel_rfl) (by kernel_rfl) (fun _ _ _ h => h) (Or.inl ⟨by rfl, ?_⟩) hHeld ?_
                        rotate_left
                        · intro w' hSw
                          try dsimp only at hSw
                          go_simp
                          all_goals with_reducible rfl
                        simp only [Act.put, List.setIfInBounds_toArray, List.set_cons_zero, List.set_cons_succ]
                        refine wpAnyH_take (i := 14) (oi := ⟨_, _, _, _, _, _⟩) (v := ?_) rfl (by kernel_rfl) (by kernel_rfl) (by kernel_rfl) (fun _ _ _ h => h) (Or.inl ⟨by rfl, ?_⟩) hHeld ?_
                        rotate_left
                        · intro w' hSw
                          try dsimp only at hSw
                          go_simp
                          all_goals with_reducible rfl
                        simp only [Act.put, List.setIfInBounds_toArray, List.set_cons_zero, List.set_cons_succ]
                        refine wpAnyH_take (i := 15) (oi := ⟨_, _, _, _, _, _⟩) (v := ?_) rfl (by kernel_rfl) (by kernel_rfl) (by kernel_rfl) (fun _ _ _ h => h) (Or.inl ⟨by rfl, ?_⟩) hHeld ?_
                        rotate_left
                        · intro w' hSw
                          try dsimp only at hSw
                          go_simp
                          all_goals with_reducible rfl
                        simp only [Act.put, List.setIfInBounds_toArray, List.set_cons_zero, List.set_cons_succ]
                        refine wpAnyH_take (i := 16) (oi := ⟨_, _, _, _, _, _⟩) (v := ?_) rfl (by kernel_rfl) (by kernel_rfl) (by kernel_rfl) (fun _ _ _ h => h) (Or.inl ⟨by rfl, ?_⟩) hHeld ?_
                        rotate_left
                        · intro w' hSw
                          try dsimp only at hSw
                          go_simp
                          all_goals with_reducible rfl
                        simp only [Act.put, List.setIfInBounds_toArray, List.set_cons_zero, List.set_cons_succ]
                        refine wpAnyH_take (i := 17) (oi := ⟨_, _, _, _, _, _⟩) (v := ?_) rfl (by kernel_rfl) (by kernel_rfl) (by kernel_rfl) (fun _ _ _ h => h) (Or.inl ⟨by rfl, ?_⟩) hHeld ?_
                        rotate_left
                        · intro w' hSw
                          try dsimp only at hSw
                          go_simp
                          all_goals with_reducible rfl
                        simp only [Act.put, List.setIfInBounds_toArray, List.set_cons_zero, List.set_cons_succ]
                        refine wpAnyH_take (i := 18) (oi := ⟨_, _, _, _, _, _⟩) (v := ?_) rfl (by kernel_rfl) (by kernel_rfl) (by kernel_rfl) (fun _ _ _ h => h) (Or.inl ⟨by rfl, ?_⟩) hHeld ?_
                        rotate_left
                        · intro w' hSw
                          try dsimp only at hSw
                          go_simp
                          all_goals with_reducible rfl
                        simp only [Act.put, List.setIfInBounds_toArray, List.set_cons_zero, List.set_cons_succ]
                        refine wpAnyH_take (i := 19) (oi := ⟨_, _, _, _, _, _⟩) (v := ?_) rfl (by kernel_rfl) (by kernel_rfl) (by kernel_rfl) (fun _ _ _ h => h) (Or.inl ⟨by rfl, ?_⟩) hHeld ?_
                        rotate_left
                        · intro w' hSw
                          try dsimp only at hSw
                          go_simp
                          all_goals with_reducible rfl
                        simp only [Act.put, List.setIfInBounds_toArray, List.set_cons_zero, List.set_cons_succ]
                        refine wpAnyH_take (i := 20) (oi := ⟨_, _, _, _, _, _⟩) (v := ?_) rfl (by kernel_rfl) (by kernel_rfl) (by kernel_rfl) (fun _ _ _ h => h) (Or.inl ⟨by rfl, ?_⟩) hHeld ?_
                        rotate_left
                        · intro w' hSw
                          try dsimp only at hSw
                          go_simp
                          all_goals with_reducible rfl
                        simp only [Act.put, List.setIfInBounds_toArray, List.set_cons_zero, List.set_cons_succ]
                        refine wpAnyH_take (i := 21) (oi := ⟨_, _, _, _, _, _⟩) (v := undef) rfl (by kernel_rfl) (by kernel_rfl) (by kernel_rfl) (fun _ _ _ h => h) (Or.inr ⟨by rfl, rfl⟩) hHeld ?_
                        simp only [Act.put, List.setIfInBounds_toArray, List.set_cons_zero, List.set_cons_succ]
                        refine wpAnyH_take (i := 22) (oi := ⟨_, _, _, _, _, _⟩) (v := undef) rfl (by kernel_rfl) (by kernel_rfl) (by kernel_rfl) (fun _ _ _ h => h) (Or.inr ⟨by rfl, rfl⟩) hHeld ?_
                        simp only [Act.put, List.setIfInBounds_toArray, List.set_cons_zero, List.set_cons_succ]
                        refine wpAnyH_take (i := 23) (oi := ⟨_, _, _, _, _, _⟩) (v := undef) rfl (by kernel_rfl) (by kernel_rfl) (by kernel_rfl) (fun _ _ _ h => h) (Or.inr ⟨by rfl, rfl⟩) hHeld ?_
                        simp only [Act.put, List.setIfInBounds_toArray, List.set_cons_zero, List.set_cons_succ]
                        refine wpAnyH_take (i := 24) (oi := ⟨_, _, _, _, _, _⟩) (v := undef) rfl (by kernel_rfl) (by kernel_rfl) (by kernel_rfl) (fun _ _ _ h => h) (Or.inr ⟨by rfl, rfl⟩) hHeld ?_
                        simp only [Act.put, List.setIfInBounds_toArray, List.set_cons_zero, List.set_cons_succ]
                        refine wpAnyH_take (i := 25) (oi := ⟨_, _, _, _, _, _⟩) (v := undef) rfl (by kernel_rfl) (by kernel_rfl) (by kernel_rfl) (fun _ _ _ h => h) (Or.inr ⟨by rfl, rfl⟩) hHeld ?_
                        simp only [Act.put, List.setIfInBounds_toArray, List.set_cons_zero, List.set_cons_succ]
                        refine wpAnyH_take (i := 26) (oi := ⟨_, _, _, _, _, _⟩) (v := undef) rfl (by kernel_rfl) (by kernel_rfl) (by kernel_rfl) (fun _ _ _ h => h) (Or.inr ⟨by rfl, rfl⟩) hHeld ?_
                        simp only [Act.put, List.setIfInBounds_toArray, List.set_cons_zero, List.set_cons_succ]
                        refine wpAnyH_take (i := 27) (oi := ⟨_, _, _, _, _, _⟩) (v := undef) rfl (by kernel_rfl) (by kernel_rfl) (by kernel_rfl) (fun _ _ _ h => h) (Or.inr ⟨by rfl, rfl⟩) hHeld ?_
                        simp only [Act.put, List.setIfInBounds_toArray, List.set_cons_zero, List.set_cons_succ]
                        refine wpAnyH_take (i := 28) (oi := ⟨_, _, _, _, _, _⟩) (v := undef) rfl (by kernel_rfl) (by kernel_rfl) (by kernel_rfl) (fun _ _ _ h => h) (Or.inr ⟨by rfl, rfl⟩) hHeld ?_
                        simp only [Act.put, List.setIfInBounds_toArray, List.set_cons_zero, List.set_cons_succ]
                        refine wpAnyH_take (i := 29) (oi := ⟨_, _, _, _, _, _⟩) (v := undef) rfl (by kernel_rfl) (by kernel_rfl) (by kernel_rfl) (fun _ _ _ h => h) (Or.inr ⟨by rfl, rfl⟩) hHeld ?_
                        simp only [Act.put, List.setIfInBounds_toArray, List.set_cons_zero, List.set_cons_succ]
                        refine wpAnyH_take (i := 30) (oi := ⟨_, _, _, _, _, _⟩) (v := undef) rfl (by kernel_rfl) (by kernel_rfl) (by kernel_rfl) (fun _ _ _ h => h) (Or.inr ⟨by rfl, rfl⟩) hHeld ?_
                        simp only [Act.put, List.setIfInBounds_toArray, List.set_cons_zero, List.set_cons_succ]
                        refine wpAnyH_take (i := 31) (oi := ⟨_, _, _, _, _, _⟩) (v := undef) rfl (by kernel_rfl) (by kernel_rfl) (by kernel_rfl) (fun _ _ _ h => h) (Or.inr ⟨by rfl, rfl⟩) hHeld ?_
                        simp only [Act.put, List.setIfInBounds_toArray, List.set_cons_zero, List.set_cons_succ]
                        refine wpAnyH_take (i := 32) (oi := ⟨_, _, _, _, _, _⟩) (v := ?_) rfl (by kernel_rfl) (by kernel_rfl) (by kernel_rfl) (fun _ _ _ h => h) (Or.inl ⟨by rfl, ?_⟩) hHeld ?_
                        rotate_left
                        · intro w' hSw
                          try dsimp only at hSw
                          go_simp
                          all_goals with_reducible rfl
                        simp only [Act.put, List.setIfInBounds_toArray, List.set_cons_zero, List.set_cons_succ]
                        refine wpAnyH_done (by kernel_rfl) ?_ _
                        refine NoPanic.normal ?_
                        clear hHeld
                        go_wp2_with fail
                        go_meet
                        exact ⟨rfl, Hid.of (Below.refl _ _).drew⟩
                      · have d0 := (CSA.out).head
                        have d1 := ((CSA.out).tail).head
                        have d2 := (((CSA.out).tail).tail).head
                        have d3 := ((((CSA.out).tail).tail).tail).head
                        have d4 := (((((CSA.out).tail).tail).tail).tail).head
                        refine wp_region_noPanic ?_
                        refine wp_region_held_drew (S := fun w' => w'.cell? ⟨p, 1, none⟩ = some (.slice (some ⟨bL, oL, none⟩) N uc) ∧ w'.cell? ⟨bL, oL + k * 7, none⟩ = some (.string y.n) ∧ w'.cell? ⟨bL, oL + k * 7 + 1, none⟩ = some (.int .i64 y.s) ∧ w'.cell? ⟨q, 0, none⟩ = some (.string x.n) ∧ w'.cell? ⟨q, 1, none⟩ = some (.int .i64 x.s)) (by kernel_rfl) ?_ (fun hHeld => ?_)
                        · exact ⟨d0, d1, d2, d3, d4⟩
                        refine wpAnyH_take (i := 0) (oi := ⟨_, _, _, _, _, _⟩) (v := ?_) rfl (by kernel_rfl) (by kernel_rfl) (by kernel_rfl) (fun _ _ _ h => h) (Or.inl ⟨by rfl, ?_⟩) hHeld ?_
                        rotate_left
                        · intro w' hSw
                          try dsimp only at hSw
                          go_simp
                          all_goals with_reducible rfl
                        simp only [Act.put, List.setIfInBounds_toArray, List.set_cons_zero, List.set_cons_succ]
                        refine wpAnyH_take (i := 1) (oi := ⟨_, _, _, _, _, _⟩) (v := ?_) rfl (by kernel_rfl) (by kernel_rfl) (by kernel_rfl) (fun _ _ _ h => h) (Or.inl ⟨by rfl, ?_⟩) hHeld ?_
                        rotate_left
                        · intro w' hSw
                          try dsimp only at hSw
                          go_simp
                          all_goals with_reducible rfl
                        simp only [Act.put, List.setIfInBounds_toArray, List.set_cons_zero, List.set_cons_succ]
                        refine wpAnyH_take (i := 2) (oi := ⟨_, _, _, _, _, _⟩) (v := ?_) rfl (by kernel_rfl) (by kernel_rfl) (by kernel_rfl) (fun _ _ _ h => h) (Or.inl ⟨by rfl, ?_⟩) hHeld ?_
                        rotate_left
                        · intro w' hSw
                          try dsimp only at hSw
                          go_simp
                          all_goals with_reducible rfl
                        simp only [Act.put, List.setIfInBounds_toArray, List.set_cons_zero, List.set_cons_succ]
                        refine wpAnyH_take (i := 3) (oi := ⟨_, _, _, _, _, _⟩) (v := ?_) rfl (by kernel_rfl) (by kernel_rfl) (by kernel_rfl) (fun _ _ _ h => h) (Or.inl ⟨by rfl, ?_⟩) hHeld ?_
                        rotate_left
                        · intro w' hSw
                          try dsimp only at hSw
                          go_simp
                          all_goals with_reducible rfl
                        simp only [Act.put, List.setIfInBounds_toArray, List.set_cons_zero, List.set_cons_succ]
                        refine wpAnyH_take (i := 4) (oi := ⟨_, _, _, _, _, _⟩) (v := ?_) rfl (by kernel_rfl) (by kernel_rfl) (by kernel_rfl) (fun _ _ _ h => h) (Or.inl ⟨by rfl, ?_⟩) hHeld ?_
                        rotate_left
                        · intro w' hSw
                          try dsimp only at hSw
                          go_simp
                          all_goals with_reducible rfl
                        simp only [Act.put, List.setIfInBounds_toArray, List.set_cons_zero, List.set_cons_succ]
                        refine wpAnyH_take (i := 5) (oi := ⟨_, _, _, _, _, _⟩) (v := ?_) rfl (by kernel_rfl) (by kernel_rfl) (by kernel_rfl) (fun _ _ _ h => h) (Or.inl ⟨by rfl, ?_⟩) hHeld ?_
                        rotate_left
                        · intro w' hSw
                          try dsimp only at hSw
                          go_simp
                          all_goals with_reducible rfl
                        simp only [Act.put, List.setIfInBounds_toArray, List.set_cons_zero, List.set_cons_succ]
                        refine wpAnyH_take (i := 6) (oi := ⟨_, _, _, _, _, _⟩) (v := ?_) rfl (by kernel_rfl) (by kernel_rfl) (by kernel_rfl) (fun _ _ _ h => h) (Or.inl ⟨by rfl, ?_⟩) hHeld ?_
                        rotate_left
                        · intro w' hSw
                          try dsimp only at hSw
                          go_simp
                          all_goals with_reducible rfl
                        simp only [Act.put, List.setIfInBounds_toArray, List.set_cons_zero, List.set_cons_succ]
                        refine wpAnyH_take (i := 7) (oi := ⟨_, _, _, _, _, _⟩) (v := ?_) rfl (by kernel_rfl) (by kernel_rfl) (by kernel_rfl) (fun _ _ _ h => h) (Or.inl ⟨by rfl, ?_⟩) hHeld ?_
                        rotate_left
                        · intro w' hSw
                          try dsimp only at hSw
                          go_simp
                          all_goals with_reducible rfl
                        simp only [Act.put, List.setIfInBounds_toArray, List.set_cons_zero, List.set_cons_succ]
                        refine wpAnyH_take (i := 8) (oi := ⟨_, _, _, _, _, _⟩) (v := ?_) rfl (by kernel_rfl) (by kernel_rfl) (by kernel_rfl) (fun _ _ _ h => h) (Or.inl ⟨by rfl, ?_⟩) hHeld ?_
                        rotate_left
                        · intro w' hSw
                          try dsimp only at hSw
                          go_simp
                          all_goals with_reducible rfl
                        simp only [Act.put, List.setIfInBounds_toArray, List.set_cons_zero, List.set_cons_succ]
                        refine wpAnyH_take (i := 9) (oi := ⟨_, _, _, _, _, _⟩) (v := ?_) rfl (by kernel_rfl) (by kernel_rfl) (by kernel_rfl) (fun _ _ _ h => h) (Or.inl ⟨by rfl, ?_⟩) hHeld ?_
                        rotate_left
                        · intro w' hSw
                          try dsimp only at hSw
                          go_simp
                          all_goals with_reducible rfl
                        simp only [Act.put, List.setIfInBounds_toArray, List.set_cons_zero, List.set_cons_succ]
                        refine wpAnyH_take (i := 10) (oi := ⟨_, _, _, _, _, _⟩) (v := ?_) rfl (by kernel_rfl) (by kernel_rfl) (by kernel_rfl) (fun _ _ _ h => h) (Or.inl ⟨by rfl, ?_⟩) hHeld ?_
                        rotate_left
                        · intro w' hSw
                          try dsimp only at hSw
                          go_simp
                          all_goals with_reducible rfl
                        simp only [Act.put, List.setIfInBounds_toArray, List.set_cons_zero, List.set_cons_succ]
                        refine wpAnyH_take (i := 11) (oi := ⟨_, _, _, _, _, _⟩) (v := ?_) rfl (by kernel_rfl) (by kernel_rfl) (by kernel_rfl) (fun _ _ _ h => h) (Or.inl ⟨by rfl, ?_⟩) hHeld ?_
                        rotate_left
                        · intro w' hSw
                          try dsimp only at hSw
                          go_simp
                          all_goals with_reducible rfl
                        simp only [Act.put, List.setIfInBounds_toArray, List.set_cons_zero, List.set_cons_succ]
                        refine wpAnyH_take (i := 12) (oi := ⟨_, _, _, _, _, _⟩) (v := ?_) rfl (by kernel_rfl) (by kernel_rfl) (by kernel_rfl) (fun _ _ _ h => h) (Or.inl ⟨by rfl, ?_⟩) hHeld ?_
                        rotate_left
                        · intro w' hSw
                          try dsimp only at hSw
                          go_simp
                          all_goals with_reducible rfl
                        simp only [Act.put, List.setIfInBounds_toArray, List.set_cons_zero, List.set_cons_succ]
                        refine wpAnyH_take (i := 13) (oi := ⟨_, _, _, _, _, _⟩) (v := ?_) rfl (by kernel_rfl) (by kernel_rfl) (by kernel_rfl) (fun _ _ _ h => h) (Or.inl ⟨by rfl, ?_⟩) hHeld ?_
                        rotate_left
                        · intro w' hSw
                          try dsimp only at hSw
                          go_simp
                          all_goals with_reducible rfl
                        simp only [Act.put, List.setIfInBounds_toArray, List.set_cons_zero, List.set_cons_succ]
                        refine wpAnyH_take (i := 14) (oi := ⟨_, _, _, _, _, _⟩) (v := ?_) rfl (by kernel_rfl) (by kernel_rfl) (by kernel_rfl) (fun _ _ _ h => h) (Or.inl ⟨by rfl, ?_⟩) hHeld ?_
                        rotate_left
                        · intro w' hSw
                          try dsimp only at hSw
                          go_simp
                          all_goals with_reducible rfl
                        simp only [Act.put, List.setIfInBounds_toArray, List.set_cons_zero, List.set_cons_succ]
                        refine wpAnyH_take (i := 15) (oi := ⟨_, _, _, _, _, _⟩) (v := ?_) rfl (by kernel_rfl) (by kernel_rfl) (by kernel_rfl) (fun _ _ _ h => h) (Or.inl ⟨by rfl, ?_⟩) hHeld ?_
                        rotate_left
                        · intro w' hSw
                          try dsimp only at hSw
                          go_simp
                          all_goals with_reducible rfl
                        simp only [Act.put, List.setIfInBounds_toArray, List.set_cons_zero, List.set_cons_succ]
                        refine wpAnyH_take (i := 16) (oi := ⟨_, _, _, _, _, _⟩) (v := ?_) rfl (by kernel_rfl) (by kernel_rfl) (by kernel_rfl) (fun _ _ _ h => h) (Or.inl ⟨by rfl, ?_⟩) hHeld ?_
                        rotate_left
                        · intro w' hSw
                          try dsimp only at hSw
                          go_simp
                          all_goals with_reducible rfl
                        simp only [Act.put, List.setIfInBounds_toArray, List.set_cons_zero, List.set_cons_succ]
                        refine wpAnyH_take (i := 17) (oi := ⟨_, _, _, _, _, _⟩) (v := ?_) rfl (by kernel_rfl) (by kernel_rfl) (by kernel_rfl) (fun _ _ _ h => h) (Or.inl ⟨by rfl, ?_⟩) hHeld ?_
                        rotate_left
                        · intro w' hSw
                          try dsimp only at hSw
                          go_simp
                          all_goals with_reducible rfl
                        simp only [Act.put, List.setIfInBounds_toArray, List.set_cons_zero, List.set_cons_succ]
                        refine wpAnyH_take (i := 18) (oi := ⟨_, _, _, _, _, _⟩) (v := ?_) rfl (by kernel_rfl) (by kernel_rfl) (by kernel_rfl) (fun _ _ _ h => h) (Or.inl ⟨by rfl, ?_⟩) hHeld ?_
                        rotate_left
                        · intro w' hSw
                          try dsimp only at hSw
                          go_simp
                          all_goals with_reducible rfl
                        simp only [Act.put, List.setIfInBounds_toArray, List.set_cons_zero, List.set_cons_succ]
                        refine wpAnyH_take (i := 19) (oi := ⟨_, _, _, _, _, _⟩) (v := ?_) rfl (by kernel_rfl) (by kernel_rfl) (by kernel_rfl) (fun _ _ _ h => h) (Or.inl ⟨by rfl, ?_⟩) hHeld ?_
                        rotate_left
                        · intro w' hSw
                          try dsimp only at hSw
                          go_simp
                          all_goals with_reducible rfl
                        simp only [Act.put, List.setIfInBounds_toArray, List.set_cons_zero, List.set_cons_succ]
                        refine wpAnyH_take (i := 20) (oi := ⟨_, _, _, _, _, _⟩) (v := ?_) rfl (by kernel_rfl) (by kernel_rfl) (by kernel_rfl) (fun _ _ _ h => h) (Or.inl ⟨by rfl, ?_⟩) hHeld ?_
                        rotate_left
                        · intro w' hSw
                          try dsimp only at hSw
                          go_simp
                          all_goals with_reducible rfl
                        simp only [Act.put, List.setIfInBounds_toArray, List.set_cons_zero, List.set_cons_succ]
                        refine wpAnyH_take (i := 21) (oi := ⟨_, _, _, _, _, _⟩) (v := ?_) rfl (by kernel_rfl) (by kernel_rfl) (by kernel_rfl) (fun _ _ _ h => h) (Or.inl ⟨by rfl, ?_⟩) hHeld ?_
                        rotate_left
                        · intro w' hSw
                          try dsimp only at hSw
                          go_simp
                          all_goals with_reducible rfl
                        simp only [Act.put, List.setIfInBounds_toArray, List.set_cons_zero, List.set_cons_succ]
                        refine wpAnyH_take (i := 22) (oi := ⟨_, _, _, _, _, _⟩) (v := ?_) rfl (by kernel_rfl) (by kernel_rfl) (by kernel_rfl) (fun _ _ _ h => h) (Or.inl ⟨by rfl, ?_⟩) hHeld ?_
                        rotate_left
                        · intro w' hSw
                          try dsimp only at hSw
                          go_simp
                          all_goals with_reducible rfl
                        simp only [Act.put, List.setIfInBounds_toArray, List.set_cons_zero, List.set_cons_succ]
                        refine wpAnyH_take (i := 23) (oi := ⟨_, _, _, _, _, _⟩) (v := ?_) rfl (by kernel_rfl) (by kernel_rfl) (by kernel_rfl) (fun _ _ _ h => h) (Or.inl ⟨by rfl, ?_⟩) hHeld ?_
                        rotate_left
                        · intro w' hSw
                          try dsimp only at hSw
                          go_simp
                          all_goals with_reducible rfl
                        simp only [Act.put, List.setIfInBounds_toArray, List.set_cons_zero, List.set_cons_succ]
                        refine wpAnyH_take (i := 24) (oi := ⟨_, _, _, _, _, _⟩) (v := ?_) rfl (by kernel_rfl) (by kernel_rfl) (by kernel_rfl) (fun _ _ _ h => h) (Or.inl ⟨by rfl, ?_⟩) hHeld ?_
                        rotate_left
                        · intro w' hSw
                          try dsimp only at hSw
                          go_simp
                          all_goals with_reducible rfl
                        simp only [Act.put, List.setIfInBounds_toArray, List.set_cons_zero, List.set_cons_succ]
                        refine wpAnyH_take (i := 25) (oi := ⟨_, _, _, _, _, _⟩) (v := ?_) rfl (by kernel_rfl) (by kernel_rfl) (by kernel_rfl) (fun _ _ _ h => h) (Or.inl ⟨by rfl, ?_⟩) hHeld ?_
                        rotate_left
                        · intro w' hSw
                          try dsimp only at hSw
                          go_simp
                          all_goals with_reducible rfl
                        simp only [Act.put, List.setIfInBounds_toArray, List.set_cons_zero, List.set_cons_succ]
                        refine wpAnyH_take (i := 26) (oi := ⟨_, _, _, _, _, _⟩) (v := ?_) rfl (by kernel_rfl) (by kernel_rfl) (by kernel_rfl) (fun _ _ _ h => h) (Or.inl ⟨by rfl, ?_⟩) hHeld ?_
                        rotate_left
                        · intro w' hSw
                          try dsimp only at hSw
                          go_simp
                          all_goals with_reducible rfl
                        simp only [Act.put, List.setIfInBounds_toArray, List.set_cons_zero, List.set_cons_succ]
                        refine wpAnyH_take (i := 27) (oi := ⟨_, _, _, _, _, _⟩) (v := ?_) rfl (by kernel_rfl) (by kernel_rfl) (by kernel_rfl) (fun _ _ _ h => h) (Or.inl ⟨by rfl, ?_⟩) hHeld ?_
                        rotate_left
                        · intro w' hSw
                          try dsimp only at hSw
                          go_simp
                          all_goals with_reducible rfl
                        simp only [Act.put, List.setIfInBounds_toArray, List.set_cons_zero, List.set_cons_succ]
                        refine wpAnyH_take (i := 28) (oi := ⟨_, _, _, _, _, _⟩) (v := ?_) rfl (by kernel_rfl) (by kernel_rfl) (by kernel_rfl) (fun _ _ _ h => h) (Or.inl ⟨by rfl, ?_⟩) hHeld ?_
                        rotate_left
                        · intro w' hSw
                          try dsimp only at hSw
                          go_simp
                          all_goals with_reducible rfl
                        simp only [Act.put, List.setIfInBounds_toArray, List.set_cons_zero, List.set_cons_succ]
                        refine wpAnyH_take (i := 29) (oi := ⟨_, _, _, _, _, _⟩) (v := ?_) rfl (by kernel_rfl) (by kernel_rfl) (by kernel_rfl) (fun _ _ _ h => h) (Or.inl ⟨by rfl, ?_⟩) hHeld ?_
                        rotate_left
                        · intro w' hSw
                          try dsimp only at hSw
                          go_simp
                          all_goals with_reducible rfl
                        simp only [Act.put, List.setIfInBounds_toArray, List.set_cons_zero, List.set_cons_succ]
                        refine wpAnyH_take (i := 30) (oi := ⟨_, _, _, _, _, _⟩) (v := ?_) rfl (by kernel_rfl) (by kernel_rfl) (by kernel_rfl) (fun _ _ _ h => h) (Or.inl ⟨by rfl, ?_⟩) hHeld ?_
                        rotate_left
                        · intro w' hSw
                          try dsimp only at hSw
                          go_simp
                          all_goals with_reducible rfl
                        simp only [Act.put, List.setIfInBounds_toArray, List.set_cons_zero, List.set_cons_succ]
                        refine wpAnyH_take (i := 31) (oi := ⟨_, _, _, _, _, _⟩) (v := ?_) rfl (by kernel_rfl) (by kernel_rfl) (by kernel_rfl) (fun _ _ _ h => h) (Or.inl ⟨by rfl, ?_⟩) hHeld ?_
                        rotate_left
                        · intro w' hSw
                          try dsimp only at hSw
                          go_simp
                          all_goals with_reducible rfl
                        simp only [Act.put, List.setIfInBounds_toArray, List.set_cons_zero, List.set_cons_succ]
                        refine wpAnyH_take (i := 32) (oi := ⟨_, _, _, _, _, _⟩) (v := ?_) rfl (by kernel_rfl) (by kernel_rfl) (by kernel_rfl) (fun _ _ _ h => h) (Or.inl ⟨by rfl, ?_⟩) hHeld ?_
                        rotate_left
                        · intro w' hSw
                          try dsimp only at hSw
                          go_simp
                          all_goals with_reducible rfl
                        simp only [Act.put, List.setIfInBounds_toArray, List.set_cons_zero, List.set_cons_succ]
                        refine wpAnyH_done (by kernel_rfl) ?_ _
                        refine NoPanic.normal ?_
                        clear hHeld
                        go_wp2_with fail
                        go_meet
                        exact ⟨by rw [SMY.out, NB.out, Bool.true_and]; rfl, Hid.of (Below.refl _ _).drew⟩
                    · obtain rfl : same = false := by
                        cases same
                        · rfl
                        · obtain ⟨y, hy, _⟩ := SME.out.2 rfl
                          have := (List.getElem?_eq_some_iff.1 hy).1
                          have := NL.out
                          omega
                      skip
                      refine wp_region_noPanic ?_
                      refine wp_region_held_drew (S := fun w' => w'.cell? ⟨p, 1, none⟩ = some (.slice ua N uc)) (by kernel_rfl) ?_ (fun hHeld => ?_)
                      · exact l1
                      refine wpAnyH_take (i := 0) (oi := ⟨_, _, _, _, _, _⟩) (v := ?_) rfl (by kernel_rfl) (by kernel_rfl) (by kernel_rfl) (fun _ _ _ h => h) (Or.inl ⟨by rfl, ?_⟩) hHeld ?_
                      rotate_left
                      · intro w' hSw
                        try dsimp only at hSw
                        go_simp
                        all_goals with_reducible rfl
                      simp only [Act.put, List.setIfInBounds_toArray, List.set_cons_zero, List.set_cons_succ]
                      refine wpAnyH_take (i := 1) (oi := ⟨_, _, _, _, _, _⟩) (v := ?_) rfl (by kernel_rfl) (by kernel_rfl) (by kernel_rfl) (fun _ _ _ h => h) (Or.inl ⟨by rfl, ?_⟩) hHeld ?_
                      rotate_left
                      · intro w' hSw
                        try dsimp only at hSw
                        go_simp
                        all_goals with_reducible rfl
                      simp only [Act.put, List.setIfInBounds_toArray, List.set_cons_zero, List.set_cons_succ]
                      refine wpAnyH_take (i := 2) (oi := ⟨_, _, _, _, _, _⟩) (v := ?_) rfl (by kernel_rfl) (by kernel_rfl) (by kernel_rfl) (fun _ _ _ h => h) (Or.inl ⟨by rfl, ?_⟩) hHeld ?_
                      rotate_left
                      · intro w' hSw
                        try dsimp only at hSw
                        go_simp
                        all_goals with_reducible rfl
                      simp only [Act.put, List.setIfInBounds_toArray, List.set_cons_zero, List.set_cons_succ]
                      refine wpAnyH_take (i := 3) (oi := ⟨_, _, _, _, _, _⟩) (v := ?_) rfl (by kernel_rfl) (by kernel_rfl) (by kernel_rfl) (fun _ _ _ h => h) (Or.inl ⟨by rfl, ?_⟩) hHeld ?_
                      rotate_left
                      · intro w' hSw
                        try dsimp only at hSw
                        go_simp
                        all_goals with_reducible rfl
                      simp only [Act.put, List.setIfInBounds_toArray, List.set_cons_zero, List.set_cons_succ]
                      refine wpAnyH_take (i := 4) (oi := ⟨_, _, _, _, _, _⟩) (v := ?_) rfl (by kernel_rfl) (by kernel_rfl) (by kernel_rfl) (fun _ _ _ h => h) (Or.inl ⟨by rfl, ?_⟩) hHeld ?_
                      rotate_left
                      · intro w' hSw
                        try dsimp only at hSw
                        go_simp
                        all_goals with_reducible rfl
                      simp only [Act.put, List.setIfInBounds_toArray, List.set_cons_zero, List.set_cons_succ]
                      refine wpAnyH_take (i := 5) (oi := ⟨_, _, _, _, _, _⟩) (v := ?_) rfl (by kernel_rfl) (by kernel_rfl) (by kernel_rfl) (fun _ _ _ h => h) (Or.inl ⟨by rfl, ?_⟩) hHeld ?_
                      rotate_left
                      · intro w' hSw
                        try dsimp only at hSw
                        go_simp
                        all_goals with_reducible rfl
                      simp only [Act.put, List.setIfInBounds_toArray, List.set_cons_zero, List.set_cons_succ]
                      refine wpAnyH_take (i := 6) (oi := ⟨_, _, _, _, _, _⟩) (v := ?_) rfl (by kernel_rfl) (by kernel_rfl) (by kernel_rfl) (fun _ _ _ h => h) (Or.inl ⟨by rfl, ?_⟩) hHeld ?_
                      rotate_left
                      · intro w' hSw
                        try dsimp only at hSw
                        go_simp
                        all_goals with_reducible rfl
                      simp only [Act.put, List.setIfInBounds_toArray, List.set_cons_zero, List.set_cons_succ]
                      refine wpAnyH_take (i := 7) (oi := ⟨_, _, _, _, _, _⟩) (v := ?_) rfl (by kernel_rfl) (by kernel_rfl) (by kernel_rfl) (fun _ _ _ h => h) (Or.inl ⟨by rfl, ?_⟩) hHeld ?_
                      rotate_left
                      · intro w' hSw
                        try dsimp only at hSw
                        go_simp
                        all_goals with_reducible rfl
                      simp only [Act.put, List.setIfInBounds_toArray, List.set_cons_zero, List.set_cons_succ]
                      refine wpAnyH_take (i := 8) (oi := ⟨_, _, _, _, _, _⟩) (v := undef) rfl (by kernel_rfl) (by kernel_rfl) (by kernel_rfl) (fun _ _ _ h => h) (Or.inr ⟨by rfl, rfl⟩) hHeld ?_
                      simp only [Act.put, List.setIfInBounds_toArray, List.set_cons_zero, List.set_cons_succ]
                      refine wpAnyH_take (i := 9) (oi := ⟨_, _, _, _, _, _⟩) (v := undef) rfl (by kernel_rfl) (by kernel_rfl) (by kernel_rfl) (fun _ _ _ h => h) (Or.inr ⟨by rfl, rfl⟩) hHeld ?_
                      simp only [Act.put, List.setIfInBounds_toArray, List.set_cons_zero, List.set_cons_succ]
                      refine wpAnyH_take (i := 10) (oi := ⟨_, _, _, _, _, _⟩) (v := undef) rfl (by kernel_rfl) (by kernel_rfl) (by kernel_rfl) (fun _ _ _ h => h) (Or.inr ⟨by rfl, rfl⟩) hHeld ?_
                      simp only [Act.put, List.setIfInBounds_toArray, List.set_cons_zero, List.set_cons_succ]
                      refine wpAnyH_take (i := 11) (oi := ⟨_, _, _, _, _, _⟩) (v := undef) rfl (by kernel_rfl) (by kernel_rfl) (by kernel_rfl) (fun _ _ _ h => h) (Or.inr ⟨by rfl, rfl⟩) hHeld ?_
                      simp only [Act.put, List.setIfInBounds_toArray, List.set_cons_zero, List.set_cons_succ]
                      refine wpAnyH_take (i := 12) (oi := ⟨_, _, _, _, _, _⟩) (v := undef) rfl (by kernel_rfl) (by kernel_rfl) (by kernel_rfl) (fun _ _ _ h => h) (Or.inr ⟨by rfl, rfl⟩) hHeld ?_
                      simp only [Act.put, List.setIfInBounds_toArray, List.set_cons_zero, List.set_cons_succ]
                      refine wpAnyH_take (i := 13) (oi := ⟨_, _, _, _, _, _⟩) (v := undef) rfl (by kernel_rfl) (by kernel_rfl) (by kernel_rfl) (fun _ _ _ h => h) (Or.inr ⟨by rfl, rfl⟩) hHeld ?_
                      simp only [Act.put, List.setIfInBounds_toArray, List.set_cons_zero, List.set_cons_succ]
                      refine wpAnyH_take (i := 14) (oi := ⟨_, _, _, _, _, _⟩) (v := undef) rfl (by kernel_rfl) (by kernel_rfl) (by kernel_rfl) (fun _ _ _ h => h) (Or.inr ⟨by rfl, rfl⟩) hHeld ?_
                      simp only [Act.put, List.setIfInBounds_toArray, List.set_cons_zero, List.set_cons_succ]
                      refine wpAnyH_take (i := 15) (oi := ⟨_, _, _, _, _, _⟩) (v := undef) rfl (by kernel_rfl) (by kernel_rfl) (by kernel_rfl) (fun _ _ _ h => h) (Or.inr ⟨by rfl, rfl⟩) hHeld ?_
                      simp only [Act.put, List.setIfInBounds_toArray, List.set_cons_zero, List.set_cons_succ]
                      refine wpAnyH_take (i := 16) (oi := ⟨_, _, _, _, _, _⟩) (v := undef) rfl (by kernel_rfl) (by kernel_rfl) (by kernel_rfl) (fun _ _ _ h => h) (Or.inr ⟨by rfl, rfl⟩) hHeld ?_
                      simp only [Act.put, List.setIfInBounds_toArray, List.set_cons_zero, List.set_cons_succ]
                      refine wpAnyH_take (i := 17) (oi := ⟨_, _, _, _, _, _⟩) (v := undef) rfl (by kernel_rfl) (by kernel_rfl) (by kernel_rfl) (fun _ _ _ h => h) (Or.inr ⟨by rfl, rfl⟩) hHeld ?_
                      simp only [Act.put, List.setIfInBounds_toArray, List.set_cons_zero, List.set_cons_succ]
                      refine wpAnyH_take (i := 18) (oi := ⟨_, _, _, _, _, _⟩) (v := undef) rfl (by kernel_rfl) (by kernel_rfl) (by kernel_rfl) (fun _ _ _ h => h) (Or.inr ⟨by rfl, rfl⟩) hHeld ?_
                      simp only [Act.put, List.setIfInBounds_toArray, List.set_cons_zero, List.set_cons_succ]
                      refine wpAnyH_take (i := 19) (oi := ⟨_, _, _, _, _, _⟩) (v := ?_) rfl (by kernel_rfl) (by kernel_rfl) (by kernel_rfl) (fun _ _ _ h => h) (Or.inl ⟨by rfl, ?_⟩) hHeld ?_
                      rotate_left
                      · intro w' hSw
                        try dsimp only at hSw
                        go_simp
                        all_goals with_reducible rfl
                      simp only [Act.put, List.setIfInBounds_toArray, List.set_cons_zero, List.set_cons_succ]
                      refine wpAnyH_take (i := 20) (oi := ⟨_, _, _, _, _, _⟩) (v := ?_) rfl (by kernel_rfl) (by kernel_rfl) (by kernel_rfl) (fun _ _ _ h => h) (Or.inl ⟨by rfl, ?_⟩) hHeld ?_
                      rotate_left
                      · intro w' hSw
                        try dsimp only at hSw
                        go_simp
                        all_goals with_reducible rfl
                      simp only [Act.put, List.setIfInBounds_toArray, List.set_cons_zero, List.set_cons_succ]
                      refine wpAnyH_take (i := 21) (oi := ⟨_, _, _, _, _, _⟩) (v := undef) rfl (by kernel_rfl) (by kernel_rfl) (by kernel_rfl) (fun _ _ _ h => h) (Or.inr ⟨by rfl, rfl⟩) hHeld ?_
                      simp only [Act.put, List.setIfInBounds_toArray, List.set_cons_zero, List.set_cons_succ]
                      refine wpAnyH_take (i := 22) (oi := ⟨_, _, _, _, _, _⟩) (v := undef) rfl (by kernel_rfl) (by kernel_rfl) (by kernel_rfl) (fun _ _ _ h => h) (Or.inr ⟨by rfl, rfl⟩) hHeld ?_
                      simp only [Act.put, List.setIfInBounds_toArray, List.set_cons_zero, List.set_cons_succ]
                      refine wpAnyH_take (i := 23) (oi := ⟨_, _, _, _, _, _⟩) (v := undef) rfl (by kernel_rfl) (by kernel_rfl) (by kernel_rfl) (fun _ _ _ h => h) (Or.inr ⟨by rfl, rfl⟩) hHeld ?_
                      simp only [Act.put, List.setIfInBounds_toArray, List.set_cons_zero, List.set_cons_succ]
                      refine wpAnyH_take (i := 24) (oi := ⟨_, _, _, _, _, _⟩) (v := undef) rfl (by kernel_rfl) (by kernel_rfl) (by kernel_rfl) (fun _ _ _ h => h) (Or.inr ⟨by rfl, rfl⟩) hHeld ?_
                      simp only [Act.put, List.setIfInBounds_toArray, List.set_cons_zero, List.set_cons_succ]
                      refine wpAnyH_take (i := 25) (oi := ⟨_, _, _, _, _, _⟩) (v := undef) rfl (by kernel_rfl) (by kernel_rfl) (by kernel_rfl) (fun _ _ _ h => h) (Or.inr ⟨by rfl, rfl⟩) hHeld ?_
                      simp only [Act.put, List.setIfInBounds_toArray, List.set_cons_zero, List.set_cons_succ]
                      refine wpAnyH_take (i := 26) (oi := ⟨_, _, _, _, _, _⟩) (v := undef) rfl (by kernel_rfl) (by kernel_rfl) (by kernel_rfl) (fun _ _ _ h => h) (Or.inr ⟨by rfl, rfl⟩) hHeld ?_
                      simp only [Act.put, List.setIfInBounds_toArray, List.set_cons_zero, List.set_cons_succ]
                      refine wpAnyH_take (i := 27) (oi := ⟨_, _, _, _, _, _⟩) (v := undef) rfl (by kernel_rfl) (by kernel_rfl) (by kernel_rfl) (fun _ _ _ h => h) (Or.inr ⟨by rfl, rfl⟩) hHeld ?_
                      simp only [Act.put, List.setIfInBounds_toArray, List.set_cons_zero, List.set_cons_succ]
                      refine wpAnyH_take (i := 28) (oi := ⟨_, _, _, _, _, _⟩) (v := undef) rfl (by kernel_rfl) (by kernel_rfl) (by kernel_rfl) (fun _ _ _ h => h) (Or.inr ⟨by rfl, rfl⟩) hHeld ?_
                      simp only [Act.put, List.setIfInBounds_toArray, List.set_cons_zero, List.set_cons_succ]
                      refine wpAnyH_take (i := 29) (oi := ⟨_, _, _, _, _, _⟩) (v := undef) rfl (by kernel_rfl) (by kernel_rfl) (by kernel_rfl) (fun _ _ _ h => h) (Or.inr ⟨by rfl, rfl⟩) hHeld ?_
                      simp only [Act.put, List.setIfInBounds_toArray, List.set_cons_zero, List.set_cons_succ]
                      refine wpAnyH_take (i := 30) (oi := ⟨_, _, _, _, _, _⟩) (v := undef) rfl (by kernel_rfl) (by kernel_rfl) (by kernel_rfl) (fun _ _ _ h => h) (Or.inr ⟨by rfl, rfl⟩) hHeld ?_
                      simp only [Act.put, List.setIfInBounds_toArray, List.set_cons_zero, List.set_cons_succ]
                      refine wpAnyH_take (i := 31) (oi := ⟨_, _, _, _, _, _⟩) (v := undef) rfl (by kernel_rfl) (by kernel_rfl) (by kernel_rfl) (fun _ _ _ h => h) (Or.inr ⟨by rfl, rfl⟩) hHeld ?_
                      simp only [Act.put, List.setIfInBounds_toArray, List.set_cons_zero, List.set_cons_succ]
                      refine wpAnyH_take (i := 32) (oi := ⟨_, _, _, _, _, _⟩) (v := ?_) rfl (by kernel_rfl) (by kernel_rfl) (by kernel_rfl) (fun _ _ _ h => h) (Or.inl ⟨by rfl, ?_⟩) hHeld ?_
                      rotate_left
                      · intro w' hSw
                        try dsimp only at hSw
                        go_simp
                        all_goals with_reducible rfl
                      simp only [Act.put, List.setIfInBounds_toArray, List.set_cons_zero, List.set_cons_succ]
                      refine wpAnyH_done (by kernel_rfl) ?_ _
                      refine NoPanic.normal ?_
                      clear hHeld
                      go_wp2_with fail
                      go_meet
                      exact ⟨rfl, Hid.of (Below.refl _ _).drew⟩
                  case rest =>
                    obtain ⟨rfl, hb7⟩ := hcut
                    have BD := Hid.of (BC.out.trans (hb7.out.mono BC.out.size))
                    have CSD := Hid.of (CSC.out.next hb7.out)
                    have D1 := Hid.of (D0.out.kept hb7.out)
                    have XE := Hid.of (XC.out.next hb7.out)
                    clear hb7 BC CSC D0 XC
                    generalize hwe : wc = we at *
                    clear hwe
                    go_upto_if 90 with fail
                    go_cut [6] from 91 to 109 (fun v wx => ∃ (x' : TRec) (D : List TRec), Hid (tIns L x = L.take k ++ x' :: D) ∧ Hid (CellRow wx v D.length (flat renc (D.map rl))) ∧ D.length ≤ N - k ∧ Hid (Cs wx (boxC q x')) ∧ Hid (Below w.heap.size w wx))
                    case first =>
                      cases same
                      · go_wp2_with fail
                        go_meet
                        have hD : (L.drop k).length = N - k := by rw [List.length_drop, NL.out]
                        refine ⟨x, L.drop k, Hid.of ?_, Hid.of (by rw [hD]; exact D1.out), by omega, CSD, BD⟩
                        rw [← KP.out]
                        refine tIns_new fun y hy hk => ?_
                        rw [KP.out] at hy
                        have := SME.out.1 ⟨y, hy, hk⟩
                        cases this
                      · obtain ⟨y, hy, hyk⟩ := SME.out.2 rfl
                        have hkN : k < N := by have := (List.getElem?_eq_some_iff.1 hy).1; have := NL.out; omega
                        have hup : we.heap[p]? = some (.cells #[.int .i64 e, .slice ua N uc] 72) := (BD.out.block p R0.out.lt).trans HU.out
                        have l1 : we.cell? ⟨p, 1, none⟩ = some (.slice ua N uc) := by simp [World.cell?, hup]
                        have hlt : (k : Int) < (N : Int) := by omega
                        obtain ⟨bL, oL, hua, hbl, y0, y1, y2, y3, y4, y5, y6⟩ := r_at (HRW.out.kept BD.out) k (rl y) (by rw [List.getElem?_map, hy]; rfl)
                        have YY := Hid.of hy
                        have YK := Hid.of hyk
                        have hyl := HL.out y (List.mem_of_getElem? hy)
                        have YIN := Hid.of hyl.1.2.2
                        have BOTH : Hid (agv (agRef y.a x.a) = .agg #[.int .i64 (agBoth y.a x.a).c, .int .i64 (agBoth y.a x.a).hi, .int .u64 (agBoth y.a x.a).lo, .int .i64 (agBoth y.a x.a).mn, .int .i64 (agBoth y.a x.a).mx]) := Hid.of (by
                          unfold agRef
                          rw [if_pos hyl.2, if_pos V4.out])
                        rw [hua] at l1
                        have CSA : Hid (Cs we ((⟨p, 1, none⟩, .slice (some ⟨bL, oL, none⟩) N uc) :: (⟨bL, oL + k * 7 + 2, none⟩, .int .i64 y.a.c) :: (⟨bL, oL + k * 7 + 3, none⟩, .int .i64 y.a.hi) :: (⟨bL, oL + k * 7 + 4, none⟩, .int .u64 y.a.lo) :: (⟨bL, oL + k * 7 + 5, none⟩, .int .i64 y.a.mn) :: (⟨bL, oL + k * 7 + 6, none⟩, .int .i64 y.a.mx) :: [])) :=
                          Hid.of (.cons (Nat.lt_of_lt_of_le R0.out.lt BD.out.size) l1 (.cons hbl y2 (.cons hbl y3 (.cons hbl y4 (.cons hbl y5 (.cons hbl y6 (.nil _)))))))
                        have CSB := Hid.of XE.out.cs
                        have HUA := Hid.of hua
                        clear y0 y1 y2 y3 y4 y5 y6 hbl hy hyk hyl hua l1 hup CSD
                        go_upto_region 8 with fail
                        have d0 := (CSA.out).head
                        have d1 := ((CSA.out).tail).head
                        have d2 := (((CSA.out).tail).tail).head
                        have d3 := ((((CSA.out).tail).tail).tail).head
                        have d4 := (((((CSA.out).tail).tail).tail).tail).head
                        have d5 := ((((((CSA.out).tail).tail).tail).tail).tail).head
                        have e0 := (CSB.out).head
                        have e1 := ((CSB.out).tail).head
                        have e2 := (((CSB.out).tail).tail).head
                        have e3 := ((((CSB.out).tail).tail).tail).head
                        have e4 := (((((CSB.out).tail).tail).tail).tail).head
                        have e5 := ((((((CSB.out).tail).tail).tail).tail).tail).head
                        have e6 := (((((((CSB.out).tail).tail).tail).tail).tail).tail).head
                        refine wp_region_noPanic ?_
                        refine wp_region_held_drew (S := fun w' => w'.cell? ⟨p, 1, none⟩ = some (.slice (some ⟨bL, oL, none⟩) N uc) ∧ w'.cell? ⟨bL, oL + k * 7 + 2, none⟩ = some (.int .i64 y.a.c) ∧ w'.cell? ⟨bL, oL + k * 7 + 3, none⟩ = some (.int .i64 y.a.hi) ∧ w'.cell? ⟨bL, oL + k * 7 + 4, none⟩ = some (.int .u64 y.a.lo) ∧ w'.cell? ⟨bL, oL + k * 7 + 5, none⟩ = some (.int .i64 y.a.mn) ∧ w'.cell? ⟨bL, oL + k * 7 + 6, none⟩ = some (.int .i64 y.a.mx)) (by kernel_rfl) ?_ (fun hHeld => ?_)
                        · exact ⟨d0, d1, d2, d3, d4, d5⟩
                        refine wpAnyH_take (i := 0) (oi := ⟨_, _, _, _, _, _⟩) (v := ?_) rfl (by kernel_rfl) (by kernel_rfl) (by kernel_rfl) (fun _ _ _ h => h) (Or.inl ⟨by rfl, ?_⟩) hHeld ?_
                        rotate_left
                        · intro w' hSw
                          try dsimp only at hSw
                          go_simp
                          all_goals with_reducible rfl
                        simp only [Act.put, List.setIfInBounds_toArray, List.set_cons_zero, List.set_cons_succ]
                        refine wpAnyH_take (i := 1) (oi := ⟨_, _, _, _, _, _⟩) (v := ?_) rfl (by kernel_rfl) (by kernel_rfl) (by kernel_rfl) (fun _ _ _ h => h) (Or.inl ⟨by rfl, ?_⟩) hHeld ?_
                        rotate_left
                        · intro w' hSw
                          try dsimp only at hSw
                          go_simp
                          all_goals with_reducible rfl
                        simp only [Act.put, List.setIfInBounds_toArray, List.set_cons_zero, List.set_cons_succ]
                        refine wpAnyH_take (i := 2) (oi := ⟨_, _, _, _, _, _⟩) (v := ?_) rfl (by kernel_rfl) (by kernel_rfl) (by kernel_rfl) (fun _ _ _ h => h) (Or.inl ⟨by rfl, ?_⟩) hHeld ?_
                        rotate_left
                        · intro w' hSw
                          try dsimp only at hSw
                          go_simp
                          all_goals with_reducible rfl
                        simp only [Act.put, List.setIfInBounds_toArray, List.set_cons_zero, List.set_cons_succ]
                        refine wpAnyH_take (i := 3) (oi := ⟨_, _, _, _, _, _⟩) (v := ?_) rfl (by kernel_rfl) (by kernel_rfl) (by kernel_rfl) (fun _ _ _ h => h) (Or.inl ⟨by rfl, ?_⟩) hHeld ?_
                        rotate_left
                        · intro w' hSw
                          try dsimp only at hSw
                          go_simp
                          all_goals with_reducible rfl
                        simp only [Act.put, List.setIfInBounds_toArray, List.set_cons_zero, List.set_cons_succ]
                        refine wpAnyH_take (i := 4) (oi := ⟨_, _, _, _, _, _⟩) (v := ?_) rfl (by kernel_rfl) (by kernel_rfl) (by kernel_rfl) (fun _ _ _ h => h) (Or.inl ⟨by rfl, ?_⟩) hHeld ?_
                        rotate_left
                        · intro w' hSw
                          try dsimp only at hSw
                          go_simp
                          all_goals with_reducible rfl
                        simp only [Act.put, List.setIfInBounds_toArray, List.set_cons_zero, List.set_cons_succ]
                        refine wpAnyH_take (i := 5) (oi := ⟨_, _, _, _, _, _⟩) (v := ?_) rfl (by kernel_rfl) (by kernel_rfl) (by kernel_rfl) (fun _ _ _ h => h) (Or.inl ⟨by rfl, ?_⟩) hHeld ?_
                        rotate_left
                        · intro w' hSw
                          try dsimp only at hSw
                          go_simp
                          all_goals with_reducible rfl
                        simp only [Act.put, List.setIfInBounds_toArray, List.set_cons_zero, List.set_cons_succ]
                        refine wpAnyH_take (i := 6) (oi := ⟨_, _, _, _, _, _⟩) (v := ?_) rfl (by kernel_rfl) (by kernel_rfl) (by kernel_rfl) (fun _ _ _ h => h) (Or.inl ⟨by rfl, ?_⟩) hHeld ?_
                        rotate_left
                        · intro w' hSw
                          try dsimp only at hSw
                          go_simp
                          all_goals with_reducible rfl
                        simp only [Act.put, List.setIfInBounds_toArray, List.set_cons_zero, List.set_cons_succ]
                        refine wpAnyH_take (i := 7) (oi := ⟨_, _, _, _, _, _⟩) (v := ?_) rfl (by kernel_rfl) (by kernel_rfl) (by kernel_rfl) (fun _ _ _ h => h) (Or.inl ⟨by rfl, ?_⟩) hHeld ?_
                        rotate_left
                        · intro w' hSw
                          try dsimp only at hSw
                          go_simp
                          all_goals with_reducible rfl
                        simp only [Act.put, List.setIfInBounds_toArray, List.set_cons_zero, List.set_cons_succ]
                        refine wpAnyH_take (i := 8) (oi := ⟨_, _, _, _, _, _⟩) (v := ?_) rfl (by kernel_rfl) (by kernel_rfl) (by kernel_rfl) (fun _ _ _ h => h) (Or.inl ⟨by rfl, ?_⟩) hHeld ?_
                        rotate_left
                        · intro w' hSw
                          try dsimp only at hSw
                          go_simp
                          all_goals with_reducible rfl
                        simp only [Act.put, List.setIfInBounds_toArray, List.set_cons_zero, List.set_cons_succ]
                        refine wpAnyH_ready (rs := [9]) (by kernel_rfl) (by simp) ?_
                        refine AllReadyH.cons (o := ⟨_, _, _, _, _, _⟩) rfl (fun K hK => ?_) AllReadyH.nil
                        go_simp
                        clear hHeld
                        refine hK.out _ _ ⟨d0, d1, d2, d3, d4, d5⟩ (fun hHeld => ?_)
                        clear hK K
                        try simp only [Act.put, List.setIfInBounds_toArray, List.set_cons_zero, List.set_cons_succ]
                        refine wpAnyH_ready (rs := [10]) (by kernel_rfl) (by simp) ?_
                        refine AllReadyH.cons (o := ⟨_, _, _, _, _, _⟩) rfl (fun K hK => ?_) AllReadyH.nil
                        go_simp
                        refine (refMerge_any y.a x.a YIN.out F3.out _).mono ?_
                        rintro r w7 ⟨rfl, b7⟩
                        rw [BOTH.out]
                        have c7 := (Below.refl we.heap.size we).drew.trans b7
                        have CSA7 := Hid.of (CSA.out.next c7)
                        have XF := Hid.of (XE.out.next c7)
                        have BF := Hid.of (BD.out.trans (c7.mono BD.out.size))
                        clear b7 c7 hHeld d0 d1 d2 d3 d4 d5 CSA e0 e1 e2 e3 e4 e5 e6 CSB
                        have d0 := (CSA7.out).head
                        have d1 := ((CSA7.out).tail).head
                        have d2 := (((CSA7.out).tail).tail).head
                        have d3 := ((((CSA7.out).tail).tail).tail).head
                        have d4 := (((((CSA7.out).tail).tail).tail).tail).head
                        have d5 := ((((((CSA7.out).tail).tail).tail).tail).tail).head
                        obtain ⟨e2, e3, e4, e5, e6⟩ := XF.out.at
                        obtain ⟨z2, z3, z4, z5, z6⟩ := XF.out.thawed
                        refine hK.out _ _ ⟨d0, d1, d2, d3, d4, d5⟩ (fun hHeld => ?_)
                        clear hK K
                        try simp only [Act.put, List.setIfInBounds_toArray, List.set_cons_zero, List.set_cons_succ]
                        refine wpAnyH_take (i := 11) (oi := ⟨_, _, _, _, _, _⟩) (v := ?_) rfl (by kernel_rfl) (by kernel_rfl) (by kernel_rfl) (fun _ _ _ h => h) (Or.inl ⟨by rfl, ?_⟩) hHeld ?_
                        rotate_left
                        · intro w' hSw
                          try dsimp only at hSw
                          go_simp
                          all_goals with_reducible rfl
                        simp only [Act.put, List.setIfInBounds_toArray, List.set_cons_zero, List.set_cons_succ]
                        refine wpAnyH_ready (rs := [12]) (by kernel_rfl) (by simp) ?_
                        refine AllReadyH.cons (o := ⟨_, _, _, _, _, _⟩) rfl (fun K hK => ?_) AllReadyH.nil
                        go_simp
                        obtain ⟨w8, hw8⟩ : ∃ w8, (((((w7.setCell ⟨q, 2, none⟩ (.int .i64 (agBoth y.a x.a).c)).setCell ⟨q, 3, none⟩ (.int .i64 (agBoth y.a x.a).hi)).setCell ⟨q, 4, none⟩ (.int .u64 (agBoth y.a x.a).lo)).setCell ⟨q, 5, none⟩ (.int .i64 (agBoth y.a x.a).mn)).setCell ⟨q, 6, none⟩ (.int .i64 (agBoth y.a x.a).mx)) = w8 := ⟨_, rfl⟩
                        have XG : Hid (RBx w8 q ⟨x.n, x.s, agBoth y.a x.a⟩) := Hid.of (by rw [← hw8]; exact XF.out.set _)
                        have BG : Hid (Below w.heap.size w w8) := Hid.of (by rw [← hw8]; exact below_set BF.out (Nat.le_of_eq HQ.out) _ _ _ _ _)
                        rw [hw8]
                        clear hw8 hHeld d0 d1 d2 d3 d4 d5 e2 e3 e4 e5 e6 z2 z3 z4 z5 z6 XF BF CSA7
                        have hup : w8.heap[p]? = some (.cells #[.int .i64 e, .slice ua N uc] 72) := (BG.out.block p R0.out.lt).trans HU.out
                        have LR := Hid.of (HRW.out.kept BG.out)
                        obtain ⟨bL2, oL2, hua2, hbl2, y0, y1, y2, y3, y4, y5, y6⟩ := r_at LR.out k (rl y) (by rw [List.getElem?_map, YY.out]; rfl)
                        have d0 : w8.cell? ⟨p, 1, none⟩ = some (.slice (some ⟨bL, oL, none⟩) N uc) := by rw [← HUA.out]; simp [World.cell?, hup]
                        have d1 : w8.cell? ⟨bL, oL + k * 7 + 2, none⟩ = some (.int .i64 y.a.c) ∧ w8.cell? ⟨bL, oL + k * 7 + 3, none⟩ = some (.int .i64 y.a.hi) ∧ w8.cell? ⟨bL, oL + k * 7 + 4, none⟩ = some (.int .u64 y.a.lo) ∧ w8.cell? ⟨bL, oL + k * 7 + 5, none⟩ = some (.int .i64 y.a.mn) ∧ w8.cell? ⟨bL, oL + k * 7 + 6, none⟩ = some (.int .i64 y.a.mx) := by
                          rw [HUA.out] at hua2
                          simp only [Option.some.injEq, Addr.mk.injEq, and_true] at hua2
                          obtain ⟨rfl, rfl⟩ := hua2
                          exact ⟨y2, y3, y4, y5, y6⟩
                        clear y0 y1 y2 y3 y4 y5 y6 hua2 hbl2 hup
                        refine hK.out _ _ ⟨d0, d1⟩ (fun hHeld => ?_)
                        clear hK K
                        refine wpAnyH_done (by kernel_rfl) ?_ _
                        refine NoPanic.normal ?_
                        clear hHeld d1
                        rw [← HUA.out] at d0
                        have hT : tIns L x = L.take k ++ ⟨x.n, x.s, agBoth y.a x.a⟩ :: L.drop (k + 1) := by
                          have h1 := tIns_same (L := L) (r := x) (x := y) (by rw [KP.out]; exact YY.out) YK.out
                          rw [KP.out] at h1
                          exact h1
                        have TT := Hid.of hT
                        have hD : (L.drop (k + 1)).length = N - (k + 1) := by rw [List.length_drop, NL.out]
                        have DD := Hid.of hD
                        clear hT hD
                        have hk1 : (0 : Int) ≤ (k : Int) + 1 := by omega
                        have hkc : (k : Int) + 1 ≤ (N : Int) := by omega
                        have hNc : (N : Int) ≤ (uc : Int) := by have := HCP.out.1; omega
                        have hcm : uc ≤ 9223372036854775807 := by have := HCP.out.2; unfold maxLen at this; omega
                        by_cases hku : k + 1 < uc
                        · have hku' : (k : Int) + 1 < (uc : Int) := by omega
                          go_wp2_with fail
                          go_meet
                          exact ⟨_, L.drop (k + 1), TT, Hid.of (by rw [DD.out]; exact row_from LR.out NL.out _ (fun _ => by first | rfl | simp)), by rw [DD.out]; omega, Hid.of XG.out.cs, BG⟩
                        · have hku' : uc = k + 1 := by have := HCP.out; omega
                          have hNk : N = k + 1 := by have := HCP.out; omega
                          subst hku'
                          go_wp2_with fail
                          go_meet
                          refine ⟨_, L.drop (k + 1), TT, Hid.of ?_, by rw [DD.out]; omega, Hid.of XG.out.cs, BG⟩
                          rw [DD.out]
                          have hr := row_from (c' := 0) (k := k + 1) LR.out NL.out ua (fun c => by omega)
                          rw [hNk, Nat.sub_self] at hr ⊢
                          exact hr
                    case rest =>
                      obtain ⟨x', D, HT, HD, hDl, HCB, HBB⟩ := hcut
                      generalize hwf : wc = wf at *
                      clear hwf BD CSD D1 XE SME
                      obtain ⟨wg, hwg⟩ : ∃ wg, wf.drew = wg := ⟨_, rfl⟩
                      have hbg : Below wf.heap.size wf wg := by rw [← hwg]; exact (Below.refl _ _).drew
                      have B_wg := Hid.of (HBB.out.trans (hbg.mono HBB.out.size))
                      have C_wg := Hid.of (HCB.out.next hbg)
                      have D_wg := Hid.of (HD.out.kept hbg)
                      clear hbg HBB HCB HD
                      have hkc : (k : Int) ≤ (N : Int) := by omega
                      have hNc : (N : Int) ≤ (uc : Int) := by have := HCP.out.1; omega
                      have hcm : uc ≤ 9223372036854775807 := by have := HCP.out.2; unfold maxLen at this; omega
                      have hkuN : k ≤ uc := by omega
                      have hkN' : k ≤ N := by omega
                      obtain ⟨i0, hi0, hz0, hz1, hz2⟩ := info_parts rinfo
                      have HI := Hid.of hi0
                      have HZ0 := Hid.of hz0
                      have HZ1 := Hid.of hz1
                      have HZ2 := Hid.of hz2
                      clear hi0 hz0 hz1 hz2
                      go_upto_region 10 with fail
                      have c0 := (C_wg.out).head
                      have c1 := ((C_wg.out).tail).head
                      have c2 := (((C_wg.out).tail).tail).head
                      have c3 := ((((C_wg.out).tail).tail).tail).head
                      have c4 := (((((C_wg.out).tail).tail).tail).tail).head
                      have c5 := ((((((C_wg.out).tail).tail).tail).tail).tail).head
                      have c6 := (((((((C_wg.out).tail).tail).tail).tail).tail).tail).head
                      refine wp_region_noPanic ?_
                      refine wp_region_held_drew (S := fun w' => w'.cell? ⟨q, 0, none⟩ = some (.string x'.n) ∧ w'.cell? ⟨q, 1, none⟩ = some (.int .i64 x'.s) ∧ w'.cell? ⟨q, 2, none⟩ = some (.int .i64 x'.a.c) ∧ w'.cell? ⟨q, 3, none⟩ = some (.int .i64 x'.a.hi) ∧ w'.cell? ⟨q, 4, none⟩ = some (.int .u64 x'.a.lo) ∧ w'.cell? ⟨q, 5, none⟩ = some (.int .i64 x'.a.mn) ∧ w'.cell? ⟨q, 6, none⟩ = some (.int .i64 x'.a.mx)) (by kernel_rfl) ?_ (fun hHeld => ?_)
                      · rw [hwg]
                        exact ⟨c0, c1, c2, c3, c4, c5, c6⟩
                      rw [hwg]
                      rw [hwg] at hHeld
                      have G_wg := Hid.of (Below.refl wg.heap.size wg)
                      refine wpAnyH_take (i := 0) (oi := ⟨_, _, _, _, _, _⟩) (v := ?_) rfl (by kernel_rfl) (by kernel_rfl) (by kernel_rfl) (fun _ _ _ h => h) (Or.inl ⟨by rfl, ?_⟩) hHeld ?_
                      rotate_left
                      · intro w' hSw
                        try dsimp only at hSw
                        go_simp
                        all_goals with_reducible rfl
                      simp only [Act.put, List.setIfInBounds_toArray, List.set_cons_zero, List.set_cons_succ]
                      refine wpAnyH_take (i := 1) (oi := ⟨_, _, _, _, _, _⟩) (v := ?_) rfl (by kernel_rfl) (by kernel_rfl) (by kernel_rfl) (fun _ _ _ h => h) (Or.inl ⟨by rfl, ?_⟩) hHeld ?_
                      rotate_left
                      · intro w' hSw
                        try dsimp only at hSw
                        go_simp
                        all_goals with_reducible rfl
                      simp only [Act.put, List.setIfInBounds_toArray, List.set_cons_zero, List.set_cons_succ]
                      refine wpAnyH_take (i := 2) (oi := ⟨_, _, _, _, _, _⟩) (v := ?_) rfl (by kernel_rfl) (by kernel_rfl) (by kernel_rfl) (fun _ _ _ h => h) (Or.inl ⟨by rfl, ?_⟩) hHeld ?_
                      rotate_left
                      · intro w' hSw
                        try dsimp only at hSw
                        go_simp
                        all_goals with_reducible rfl
                      simp only [Act.put, List.setIfInBounds_toArray, List.set_cons_zero, List.set_cons_succ]
                      refine wpAnyH_take (i := 3) (oi := ⟨_, _, _, _, _, _⟩) (v := ?_) rfl (by kernel_rfl) (by kernel_rfl) (by kernel_rfl) (fun _ _ _ h => h) (Or.inl ⟨by rfl, ?_⟩) hHeld ?_
                      rotate_left
                      · intro w' hSw
                        try dsimp only at hSw
                        go_simp
                        all_goals with_reducible rfl
                      simp only [Act.put, List.setIfInBounds_toArray, List.set_cons_zero, List.set_cons_succ]
                      refine wpAnyH_take (i := 5) (oi := ⟨_, _, _, _, _, _⟩) (v := ?_) rfl (by kernel_rfl) (by kernel_rfl) (by kernel_rfl) (fun _ _ _ h => h) (Or.inl ⟨by rfl, ?_⟩) hHeld ?_
                      rotate_left
                      · intro w' hSw
                        try dsimp only at hSw
                        go_simp
                        all_goals with_reducible rfl
                      simp only [Act.put, List.setIfInBounds_toArray, List.set_cons_zero, List.set_cons_succ]
                      refine wpAnyH_take (i := 8) (oi := ⟨_, _, _, _, _, _⟩) (v := ?_) rfl (by kernel_rfl) (by kernel_rfl) (by kernel_rfl) (fun _ _ _ h => h) (Or.inl ⟨by rfl, ?_⟩) hHeld ?_
                      rotate_left
                      · intro w' hSw
                        try dsimp only at hSw
                        go_simp
                        all_goals with_reducible rfl
                      simp only [Act.put, List.setIfInBounds_toArray, List.set_cons_zero, List.set_cons_succ]
                      refine wpAnyH_take (i := 11) (oi := ⟨_, _, _, _, _, _⟩) (v := ?_) rfl (by kernel_rfl) (by kernel_rfl) (by kernel_rfl) (fun _ _ _ h => h) (Or.inl ⟨by rfl, ?_⟩) hHeld ?_
                      rotate_left
                      · intro w' hSw
                        try dsimp only at hSw
                        go_simp
                        all_goals with_reducible rfl
                      simp only [Act.put, List.setIfInBounds_toArray, List.set_cons_zero, List.set_cons_succ]
                      refine wpAnyH_ready (rs := [4, 9]) (by kernel_rfl) (by simp) ?_
                      refine AllReadyH.cons (o := ⟨_, _, _, _, _, _⟩) rfl (fun K hK => ?_) (AllReadyH.cons (o := ⟨_, _, _, _, _, _⟩) rfl (fun K hK => ?_) AllReadyH.nil)
                      · have l4 : wg.cell? ⟨p, 1, none⟩ = some (.slice ua N uc) := by have h4 := ((B_wg.out.trans (G_wg.out.mono B_wg.out.size)).block p R0.out.lt).trans HU.out; simp [World.cell?, h4]
                        go_simp
                        clear l4 hHeld
                        refine hK.out _ _ ⟨c0, c1, c2, c3, c4, c5, c6⟩ (fun hHeld => ?_)
                        clear hK K
                        try simp only [Act.put, List.setIfInBounds_toArray, List.set_cons_zero, List.set_cons_succ]
                        refine wpAnyH_take (i := 6) (oi := ⟨_, _, _, _, _, _⟩) (v := ?_) rfl (by kernel_rfl) (by kernel_rfl) (by kernel_rfl) (fun _ _ _ h => h) (Or.inl ⟨by rfl, ?_⟩) hHeld ?_
                        rotate_left
                        · intro w' hSw
                          try dsimp only at hSw
                          go_simp
                          all_goals with_reducible rfl
                        simp only [Act.put, List.setIfInBounds_toArray, List.set_cons_zero, List.set_cons_succ]
                        refine wpAnyH_ready (rs := [7, 9]) (by kernel_rfl) (by simp) ?_
                        refine AllReadyH.cons (o := ⟨_, _, _, _, _, _⟩) rfl (fun K hK => ?_) (AllReadyH.cons (o := ⟨_, _, _, _, _, _⟩) rfl (fun K hK => ?_) AllReadyH.nil)
                        · refine step_append_any rfl (.const (.slice none 0 0)) (.tmp 116) 49 rfl wg.heap.size 61 i0 _ 7 64 Tryz.underlying49 HI.out HZ0.out HZ1.out HZ2.out rfl (by decide) (.slice none 0 0) 0 [] rfl (World.ownsRow_nil _ _ _ 7) (.slice ua k uc) k (flat renc ((L.take k).map rl)) (by simp [Act.eval]) (row_upto (HRW.out.kept (B_wg.out.trans (G_wg.out.mono B_wg.out.size))) k) (by rw [flat_length renc_len, List.length_map, List.length_take, NL.out, Nat.min_eq_left (show k ≤ N by omega)]) (flat_ones renc_one _) (by unfold maxLen; omega) (by omega) G_wg.out.size ?_
                          intro u_v1 v1 o6 g6 _
                          rw [Nat.zero_add, List.nil_append] at o6
                          have O_v1 := Hid.of o6
                          have hb6 : Below wg.heap.size wg v1 := (Below.refl _ _).grown g6 (Nat.le_refl _) (fun k hk => by cases hk)
                          have G_v1 := Hid.of (G_wg.out.trans (hb6.mono G_wg.out.size))
                          have C_v1 := Hid.of (C_wg.out.next hb6)
                          clear o6 g6 hb6
                          clear hHeld c0 c1 c2 c3 c4 c5 c6
                          have c0 := (C_v1.out).head
                          have c1 := ((C_v1.out).tail).head
                          have c2 := (((C_v1.out).tail).tail).head
                          have c3 := ((((C_v1.out).tail).tail).tail).head
                          have c4 := (((((C_v1.out).tail).tail).tail).tail).head
                          have c5 := ((((((C_v1.out).tail).tail).tail).tail).tail).head
                          have c6 := (((((((C_v1.out).tail).tail).tail).tail).tail).tail).head
                          refine hK.out _ _ ⟨c0, c1, c2, c3, c4, c5, c6⟩ (fun hHeld => ?_)
                          clear hK K
                          try simp only [Act.put, List.setIfInBounds_toArray, List.set_cons_zero, List.set_cons_succ]
                          refine wpAnyH_ready (rs := [9]) (by kernel_rfl) (by simp) ?_
                          refine AllReadyH.cons (o := ⟨_, _, _, _, _, _⟩) rfl (fun K hK => ?_) AllReadyH.nil
                          go_simp
                          obtain ⟨v2, hw9⟩ : ∃ v9, (v1.alloc (.cells #[.string x'.n, .int .i64 x'.s, .int .i64 x'.a.c, .int .i64 x'.a.hi, .int .u64 x'.a.lo, .int .i64 x'.a.mn, .int .i64 x'.a.mx] 61)) = v9 := ⟨_, rfl⟩
                          have hb9 : Below v1.heap.size v1 v2 := by rw [← hw9]; exact (Below.refl _ _).alloc (Nat.le_refl _) _
                          have N_v2 : Hid (CellRow v2 (.slice (some ⟨v1.heap.size, 0, none⟩) 1 1) 1 (flat renc ([x'].map rl))) := Hid.of (by rw [← hw9]; exact one_row v1 x' _)
                          rw [hw9]
                          have G_v2 := Hid.of (G_v1.out.trans (hb9.mono G_v1.out.size))
                          have C_v2 := Hid.of (C_v1.out.next hb9)
                          have O_v2 := Hid.of (own_keeps O_v1.out hb9)
                          clear hw9 hb9
                          clear hHeld c0 c1 c2 c3 c4 c5 c6
                          have c0 := (C_v2.out).head
                          have c1 := ((C_v2.out).tail).head
                          have c2 := (((C_v2.out).tail).tail).head
                          have c3 := ((((C_v2.out).tail).tail).tail).head
                          have c4 := (((((C_v2.out).tail).tail).tail).tail).head
                          have c5 := ((((((C_v2.out).tail).tail).tail).tail).tail).head
                          have c6 := (((((((C_v2.out).tail).tail).tail).tail).tail).tail).head
                          refine hK.out _ _ ⟨c0, c1, c2, c3, c4, c5, c6⟩ (fun hHeld => ?_)
                          clear hK K
                          try simp only [Act.put, List.setIfInBounds_toArray, List.set_cons_zero, List.set_cons_succ]
                          refine wpAnyH_ready (rs := [10]) (by kernel_rfl) (by simp) ?_
                          refine AllReadyH.cons (o := ⟨_, _, _, _, _, _⟩) rfl (fun K hK => ?_) AllReadyH.nil
                          refine step_append_any rfl (.tmp 117) (.tmp 119) 49 rfl wg.heap.size 61 i0 _ 7 64 Tryz.underlying49 HI.out HZ0.out HZ1.out HZ2.out rfl (by decide) u_v1 k _ (by simp [Act.eval]) O_v2.out (.slice (some ⟨v1.heap.size, 0, none⟩) 1 1) 1 (flat renc ([x'].map rl)) (by simp [Act.eval]) N_v2.out (by rw [flat_length renc_len]; rfl) (flat_ones renc_one _) (by unfold maxLen; omega) (by omega) G_v2.out.size ?_
                          intro u_v3 v3 o6 g6 _
                          have O_v3 := Hid.of o6
                          have G_v3 := Hid.of (G_v2.out.grown g6 G_v2.out.size (fun kk hk => own_ge O_v2.out hk))
                          have C_v3 := Hid.of (C_wg.out.next G_v3.out)
                          clear o6 g6
                          clear hHeld c0 c1 c2 c3 c4 c5 c6
                          have c0 := (C_v3.out).head
                          have c1 := ((C_v3.out).tail).head
                          have c2 := (((C_v3.out).tail).tail).head
                          have c3 := ((((C_v3.out).tail).tail).tail).head
                          have c4 := (((((C_v3.out).tail).tail).tail).tail).head
                          have c5 := ((((((C_v3.out).tail).tail).tail).tail).tail).head
                          have c6 := (((((((C_v3.out).tail).tail).tail).tail).tail).tail).head
                          refine hK.out _ _ ⟨c0, c1, c2, c3, c4, c5, c6⟩ (fun hHeld => ?_)
                          clear hK K
                          try simp only [Act.put, List.setIfInBounds_toArray, List.set_cons_zero, List.set_cons_succ]
                          refine wpAnyH_ready (rs := [12]) (by kernel_rfl) (by simp) ?_
                          refine AllReadyH.cons (o := ⟨_, _, _, _, _, _⟩) rfl (fun K hK => ?_) AllReadyH.nil
                          refine step_append_any rfl (.tmp 120) (.tmp 121) 49 rfl wg.heap.size 61 i0 _ 7 64 Tryz.underlying49 HI.out HZ0.out HZ1.out HZ2.out rfl (by decide) u_v3 (k + 1) _ (by simp [Act.eval]) O_v3.out u6 D.length (flat renc (D.map rl)) (by simp [Act.eval]) (D_wg.out.kept G_v3.out) (by rw [flat_length renc_len, List.length_map]) (flat_ones renc_one _) (by unfold maxLen; omega) (by omega) G_v3.out.size ?_
                          intro u_v4 v4 o6 g6 _
                          have O_v4 := Hid.of o6
                          have G_v4 := Hid.of (G_v3.out.grown g6 G_v3.out.size (fun kk hk => own_ge O_v3.out hk))
                          have C_v4 := Hid.of (C_wg.out.next G_v4.out)
                          clear o6 g6
                          clear hHeld c0 c1 c2 c3 c4 c5 c6
                          have c0 := (C_v4.out).head
                          have c1 := ((C_v4.out).tail).head
                          have c2 := (((C_v4.out).tail).tail).head
                          have c3 := ((((C_v4.out).tail).tail).tail).head
                          have c4 := (((((C_v4.out).tail).tail).tail).tail).head
                          have c5 := ((((((C_v4.out).tail).tail).tail).tail).tail).head
                          have c6 := (((((((C_v4.out).tail).tail).tail).tail).tail).tail).head
                          refine hK.out _ _ ⟨c0, c1, c2, c3, c4, c5, c6⟩ (fun hHeld => ?_)
                          clear hK K
                          try simp only [Act.put, List.setIfInBounds_toArray, List.set_cons_zero, List.set_cons_succ]
                          refine wpAnyH_take (i := 13) (oi := ⟨_, _, _, _, _, _⟩) (v := ?_) rfl (by kernel_rfl) (by kernel_rfl) (by kernel_rfl) (fun _ _ _ h => h) (Or.inl ⟨by rfl, ?_⟩) hHeld ?_
                          rotate_left
                          · intro w' hSw
                            try dsimp only at hSw
                            go_simp
                            all_goals with_reducible rfl
                          simp only [Act.put, List.setIfInBounds_toArray, List.set_cons_zero, List.set_cons_succ]
                          refine wpAnyH_take (i := 14) (oi := ⟨_, _, _, _, _, _⟩) (v := ?_) rfl (by kernel_rfl) (by kernel_rfl) (by kernel_rfl) (fun _ _ _ h => h) (Or.inl ⟨by rfl, ?_⟩) hHeld ?_
                          rotate_left
                          · intro w' hSw
                            try dsimp only at hSw
                            go_simp
                            all_goals with_reducible rfl
                          simp only [Act.put, List.setIfInBounds_toArray, List.set_cons_zero, List.set_cons_succ]
                          have h4 := ((B_wg.out.trans (G_v4.out.mono B_wg.out.size)).block p R0.out.lt).trans HU.out
                          have zf : v4.frozen? ⟨p, 1, none⟩ = false := row_frozen h4
                          have l4 : v4.cell? ⟨p, 1, none⟩ = some (.slice ua N uc) := by simp [World.cell?, h4]
                          obtain ⟨ta, tc, hu, -⟩ := own_one O_v4.out
                          subst hu
                          refine wpAnyH_ready (rs := [15]) (by kernel_rfl) (by simp) ?_
                          refine AllReadyH.cons (o := ⟨_, _, _, _, _, _⟩) rfl (fun K hK => ?_) AllReadyH.nil
                          go_simp
                          have hqp : q ≠ p := by have := HPQ.out; omega
                          refine hK.out _ _ ⟨cell_beside c0 hqp, cell_beside c1 hqp, cell_beside c2 hqp, cell_beside c3 hqp, cell_beside c4 hqp, cell_beside c5 hqp, cell_beside c6 hqp⟩ (fun hHeld => ?_)
                          clear hK K
                          refine wpAnyH_done (by kernel_rfl) ?_ _
                          refine NoPanic.normal ?_
                          clear hHeld l4 zf c0 c1 c2 c3 c4 c5 c6
                          have HOW := Hid.of O_v4.out
                          have HUP := Hid.of h4
                          clear h4
                          go_wp2
                          go_ret
                          refine ⟨by first | (rw [OKX.out]; rfl) | rfl, ?_, step_stored (B_wg.out.trans (G_v4.out.mono B_wg.out.size)) _, fun D hD _ => ?_⟩
                          · unfold tAdd
                            rw [if_pos OKX.out, HT.out]
                            have h9 := HOW.out
                            rw [← flat_append, ← flat_append, ← List.map_append, ← List.map_append, List.append_assoc] at h9
                            refine RT.stored HUP.out (Nat.lt_of_lt_of_le R0.out.lt B_wg.out.size) h9 ?_
                            rw [List.length_append, List.length_cons, List.length_take, NL.out, Nat.min_eq_left hkN']
                            omega
                          · unfold tAdd
                            rw [if_pos OKX.out, HT.out]
                            have h9 := HOW.out
                            rw [← flat_append, ← flat_append, ← List.map_append, ← List.map_append, List.append_assoc] at h9
                            refine RTO.stored HUP.out (Nat.lt_of_lt_of_le R0.out.lt B_wg.out.size) (Nat.le_trans hD B_wg.out.size) h9 ?_
                            rw [List.length_append, List.length_cons, List.length_take, NL.out, Nat.min_eq_left hkN']
                            omega
                        · go_simp
                          obtain ⟨v5, hw9⟩ : ∃ v9, (wg.alloc (.cells #[.string x'.n, .int .i64 x'.s, .int .i64 x'.a.c, .int .i64 x'.a.hi, .int .u64 x'.a.lo, .int .i64 x'.a.mn, .int .i64 x'.a.mx] 61)) = v9 := ⟨_, rfl⟩
                          have hb9 : Below wg.heap.size wg v5 := by rw [← hw9]; exact (Below.refl _ _).alloc (Nat.le_refl _) _
                          have N_v5 : Hid (CellRow v5 (.slice (some ⟨wg.heap.size, 0, none⟩) 1 1) 1 (flat renc ([x'].map rl))) := Hid.of (by rw [← hw9]; exact one_row wg x' _)
                          rw [hw9]
                          have G_v5 := Hid.of (G_wg.out.trans (hb9.mono G_wg.out.size))
                          have C_v5 := Hid.of (C_wg.out.next hb9)
                          clear hw9 hb9
                          clear hHeld c0 c1 c2 c3 c4 c5 c6
                          have c0 := (C_v5.out).head
                          have c1 := ((C_v5.out).tail).head
                          have c2 := (((C_v5.out).tail).tail).head
                          have c3 := ((((C_v5.out).tail).tail).tail).head
                          have c4 := (((((C_v5.out).tail).tail).tail).tail).head
                          have c5 := ((((((C_v5.out).tail).tail).tail).tail).tail).head
                          have c6 := (((((((C_v5.out).tail).tail).tail).tail).tail).tail).head
                          refine hK.out _ _ ⟨c0, c1, c2, c3, c4, c5, c6⟩ (fun hHeld => ?_)
                          clear hK K
                          try simp only [Act.put, List.setIfInBounds_toArray, List.set_cons_zero, List.set_cons_succ]
                          refine wpAnyH_ready (rs := [7]) (by kernel_rfl) (by simp) ?_
                          refine AllReadyH.cons (o := ⟨_, _, _, _, _, _⟩) rfl (fun K hK => ?_) AllReadyH.nil
                          refine step_append_any rfl (.const (.slice none 0 0)) (.tmp 116) 49 rfl wg.heap.size 61 i0 _ 7 64 Tryz.underlying49 HI.out HZ0.out HZ1.out HZ2.out rfl (by decide) (.slice none 0 0) 0 [] rfl (World.ownsRow_nil _ _ _ 7) (.slice ua k uc) k (flat renc ((L.take k).map rl)) (by simp [Act.eval]) (row_upto (HRW.out.kept (B_wg.out.trans (G_v5.out.mono B_wg.out.size))) k) (by rw [flat_length renc_len, List.length_map, List.length_take, NL.out, Nat.min_eq_left (show k ≤ N by omega)]) (flat_ones renc_one _) (by unfold maxLen; omega) (by omega) G_v5.out.size ?_
                          intro u_v6 v6 o6 g6 _
                          rw [Nat.zero_add, List.nil_append] at o6
                          have O_v6 := Hid.of o6
                          have hb6 : Below v5.heap.size v5 v6 := (Below.refl _ _).grown g6 (Nat.le_refl _) (fun k hk => by cases hk)
                          have G_v6 := Hid.of (G_v5.out.trans (hb6.mono G_v5.out.size))
                          have C_v6 := Hid.of (C_v5.out.next hb6)
                          have N_v6 := Hid.of (N_v5.out.kept hb6)
                          clear o6 g6 hb6
                          clear hHeld c0 c1 c2 c3 c4 c5 c6
                          have c0 := (C_v6.out).head
                          have c1 := ((C_v6.out).tail).head
                          have c2 := (((C_v6.out).tail).tail).head
                          have c3 := ((((C_v6.out).tail).tail).tail).head
                          have c4 := (((((C_v6.out).tail).tail).tail).tail).head
                          have c5 := ((((((C_v6.out).tail).tail).tail).tail).tail).head
                          have c6 := (((((((C_v6.out).tail).tail).tail).tail).tail).tail).head
                          refine hK.out _ _ ⟨c0, c1, c2, c3, c4, c5, c6⟩ (fun hHeld => ?_)
                          clear hK K
                          try simp only [Act.put, List.setIfInBounds_toArray, List.set_cons_zero, List.set_cons_succ]
                          refine wpAnyH_ready (rs := [10]) (by kernel_rfl) (by simp) ?_
                          refine AllReadyH.cons (o := ⟨_, _, _, _, _, _⟩) rfl (fun K hK => ?_) AllReadyH.nil
                          refine step_append_any rfl (.tmp 117) (.tmp 119) 49 rfl wg.heap.size 61 i0 _ 7 64 Tryz.underlying49 HI.out HZ0.out HZ1.out HZ2.out rfl (by decide) u_v6 k _ (by simp [Act.eval]) O_v6.out (.slice (some ⟨wg.heap.size, 0, none⟩) 1 1) 1 (flat renc ([x'].map rl)) (by simp [Act.eval]) N_v6.out (by rw [flat_length renc_len]; rfl) (flat_ones renc_one _) (by unfold maxLen; omega) (by omega) G_v6.out.size ?_
                          intro u_v7 v7 o6 g6 _
                          have O_v7 := Hid.of o6
                          have G_v7 := Hid.of (G_v6.out.grown g6 G_v6.out.size (fun kk hk => own_ge O_v6.out hk))
                          have C_v7 := Hid.of (C_wg.out.next G_v7.out)
                          clear o6 g6
                          clear hHeld c0 c1 c2 c3 c4 c5 c6
                          have c0 := (C_v7.out).head
                          have c1 := ((C_v7.out).tail).head
                          have c2 := (((C_v7.out).tail).tail).head
                          have c3 := ((((C_v7.out).tail).tail).tail).head
                          have c4 := (((((C_v7.out).tail).tail).tail).tail).head
                          have c5 := ((((((C_v7.out).tail).tail).tail).tail).tail).head
                          have c6 := (((((((C_v7.out).tail).tail).tail).tail).tail).tail).head
                          refine hK.out _ _ ⟨c0, c1, c2, c3, c4, c5, c6⟩ (fun hHeld => ?_)
                          clear hK K
                          try simp only [Act.put, List.setIfInBounds_toArray, List.set_cons_zero, List.set_cons_succ]
                          refine wpAnyH_ready (rs := [12]) (by kernel_rfl) (by simp) ?_
                          refine AllReadyH.cons (o := ⟨_, _, _, _, _, _⟩) rfl (fun K hK => ?_) AllReadyH.nil
                          refine step_append_any rfl (.tmp 120) (.tmp 121) 49 rfl wg.heap.size 61 i0 _ 7 64 Tryz.underlying49 HI.out HZ0.out HZ1.out HZ2.out rfl (by decide) u_v7 (k + 1) _ (by simp [Act.eval]) O_v7.out u6 D.length (flat renc (D.map rl)) (by simp [Act.eval]) (D_wg.out.kept G_v7.out) (by rw [flat_length renc_len, List.length_map]) (flat_ones renc_one _) (by unfold maxLen; omega) (by omega) G_v7.out.size ?_
                          intro u_v8 v8 o6 g6 _
                          have O_v8 := Hid.of o6
                          have G_v8 := Hid.of (G_v7.out.grown g6 G_v7.out.size (fun kk hk => own_ge O_v7.out hk))
                          have C_v8 := Hid.of (C_wg.out.next G_v8.out)
                          clear o6 g6
                          clear hHeld c0 c1 c2 c3 c4 c5 c6
                          have c0 := (C_v8.out).head
                          have c1 := ((C_v8.out).tail).head
                          have c2 := (((C_v8.out).tail).tail).head
                          have c3 := ((((C_v8.out).tail).tail).tail).head
                          have c4 := (((((C_v8.out).tail).tail).tail).tail).head
                          have c5 := ((((((C_v8.out).tail).tail).tail).tail).tail).head
                          have c6 := (((((((C_v8.out).tail).tail).tail).tail).tail).tail).head
                          refine hK.out _ _ ⟨c0, c1, c2, c3, c4, c5, c6⟩ (fun hHeld => ?_)
                          clear hK K
                          try simp only [Act.put, List.setIfInBounds_toArray, List.set_cons_zero, List.set_cons_succ]
                          refine wpAnyH_take (i := 13) (oi := ⟨_, _, _, _, _, _⟩) (v := ?_) rfl (by kernel_rfl) (by kernel_rfl) (by kernel_rfl) (fun _ _ _ h => h) (Or.inl ⟨by rfl, ?_⟩) hHeld ?_
                          rotate_left
                          · intro w' hSw
                            try dsimp only at hSw
                            go_simp
                            all_goals with_reducible rfl
                          simp only [Act.put, List.setIfInBounds_toArray, List.set_cons_zero, List.set_cons_succ]
                          refine wpAnyH_take (i := 14) (oi := ⟨_, _, _, _, _, _⟩) (v := ?_) rfl (by kernel_rfl) (by kernel_rfl) (by kernel_rfl) (fun _ _ _ h => h) (Or.inl ⟨by rfl, ?_⟩) hHeld ?_
                          rotate_left
                          · intro w' hSw
                            try dsimp only at hSw
                            go_simp
                            all_goals with_reducible rfl
                          simp only [Act.put, List.setIfInBounds_toArray, List.set_cons_zero, List.set_cons_succ]
                          have h4 := ((B_wg.out.trans (G_v8.out.mono B_wg.out.size)).block p R0.out.lt).trans HU.out
                          have zf : v8.frozen? ⟨p, 1, none⟩ = false := row_frozen h4
                          have l4 : v8.cell? ⟨p, 1, none⟩ = some (.slice ua N uc) := by simp [World.cell?, h4]
                          obtain ⟨ta, tc, hu, -⟩ := own_one O_v8.out
                          subst hu
                          refine wpAnyH_ready (rs := [15]) (by kernel_rfl) (by simp) ?_
                          refine AllReadyH.cons (o := ⟨_, _, _, _, _, _⟩) rfl (fun K hK => ?_) AllReadyH.nil
                          go_simp
                          have hqp : q ≠ p := by have := HPQ.out; omega
                          refine hK.out _ _ ⟨cell_beside c0 hqp, cell_beside c1 hqp, cell_beside c2 hqp, cell_beside c3 hqp, cell_beside c4 hqp, cell_beside c5 hqp, cell_beside c6 hqp⟩ (fun hHeld => ?_)
                          clear hK K
                          refine wpAnyH_done (by kernel_rfl) ?_ _
                          refine NoPanic.normal ?_
                          clear hHeld l4 zf c0 c1 c2 c3 c4 c5 c6
                          have HOW := Hid.of O_v8.out
                          have HUP := Hid.of h4
                          clear h4
                          go_wp2
                          go_ret
                          refine ⟨by first | (rw [OKX.out]; rfl) | rfl, ?_, step_stored (B_wg.out.trans (G_v8.out.mono B_wg.out.size)) _, fun D hD _ => ?_⟩
                          · unfold tAdd
                            rw [if_pos OKX.out, HT.out]
                            have h9 := HOW.out
                            rw [← flat_append, ← flat_append, ← List.map_append, ← List.map_append, List.append_assoc] at h9
                            refine RT.stored HUP.out (Nat.lt_of_lt_of_le R0.out.lt B_wg.out.size) h9 ?_
                            rw [List.length_append, List.length_cons, List.length_take, NL.out, Nat.min_eq_left hkN']
                            omega
                          · unfold tAdd
                            rw [if_pos OKX.out, HT.out]
                            have h9 := HOW.out
                            rw [← flat_append, ← flat_append, ← List.map_append, ← List.map_append, List.append_assoc] at h9
                            refine RTO.stored HUP.out (Nat.lt_of_lt_of_le R0.out.lt B_wg.out.size) (Nat.le_trans hD B_wg.out.size) h9 ?_
                            rw [List.length_append, List.length_cons, List.length_take, NL.out, Nat.min_eq_left hkN']
                            omega
                      · go_simp
                        obtain ⟨v9, hw9⟩ : ∃ v9, (wg.alloc (.cells #[.string x'.n, .int .i64 x'.s, .int .i64 x'.a.c, .int .i64 x'.a.hi, .int .u64 x'.a.lo, .int .i64 x'.a.mn, .int .i64 x'.a.mx] 61)) = v9 := ⟨_, rfl⟩
                        have hb9 : Below wg.heap.size wg v9 := by rw [← hw9]; exact (Below.refl _ _).alloc (Nat.le_refl _) _
                        have N_v9 : Hid (CellRow v9 (.slice (some ⟨wg.heap.size, 0, none⟩) 1 1) 1 (flat renc ([x'].map rl))) := Hid.of (by rw [← hw9]; exact one_row wg x' _)
                        rw [hw9]
                        have G_v9 := Hid.of (G_wg.out.trans (hb9.mono G_wg.out.size))
                        have C_v9 := Hid.of (C_wg.out.next hb9)
                        clear hw9 hb9
                        clear hHeld c0 c1 c2 c3 c4 c5 c6
                        have c0 := (C_v9.out).head
                        have c1 := ((C_v9.out).tail).head
                        have c2 := (((C_v9.out).tail).tail).head
                        have c3 := ((((C_v9.out).tail).tail).tail).head
                        have c4 := (((((C_v9.out).tail).tail).tail).tail).head
                        have c5 := ((((((C_v9.out).tail).tail).tail).tail).tail).head
                        have c6 := (((((((C_v9.out).tail).tail).tail).tail).tail).tail).head
                        refine hK.out _ _ ⟨c0, c1, c2, c3, c4, c5, c6⟩ (fun hHeld => ?_)
                        clear hK K
                        try simp only [Act.put, List.setIfInBounds_toArray, List.set_cons_zero, List.set_cons_succ]
                        refine wpAnyH_ready (rs := [4]) (by kernel_rfl) (by simp) ?_
                        refine AllReadyH.cons (o := ⟨_, _, _, _, _, _⟩) rfl (fun K hK => ?_) AllReadyH.nil
                        have l4 : v9.cell? ⟨p, 1, none⟩ = some (.slice ua N uc) := by have h4 := ((B_wg.out.trans (G_v9.out.mono B_wg.out.size)).block p R0.out.lt).trans HU.out; simp [World.cell?, h4]
                        go_simp
                        clear l4 hHeld
                        refine hK.out _ _ ⟨c0, c1, c2, c3, c4, c5, c6⟩ (fun hHeld => ?_)
                        clear hK K
                        try simp only [Act.put, List.setIfInBounds_toArray, List.set_cons_zero, List.set_cons_succ]
                        refine wpAnyH_take (i := 6) (oi := ⟨_, _, _, _, _, _⟩) (v := ?_) rfl (by kernel_rfl) (by kernel_rfl) (by kernel_rfl) (fun _ _ _ h => h) (Or.inl ⟨by rfl, ?_⟩) hHeld ?_
                        rotate_left
                        · intro w' hSw
                          try dsimp only at hSw
                          go_simp
                          all_goals with_reducible rfl
                        simp only [Act.put, List.setIfInBounds_toArray, List.set_cons_zero, List.set_cons_succ]
                        refine wpAnyH_ready (rs := [7]) (by kernel_rfl) (by simp) ?_
                        refine AllReadyH.cons (o := ⟨_, _, _, _, _, _⟩) rfl (fun K hK => ?_) AllReadyH.nil
                        refine step_append_any rfl (.const (.slice none 0 0)) (.tmp 116) 49 rfl wg.heap.size 61 i0 _ 7 64 Tryz.underlying49 HI.out HZ0.out HZ1.out HZ2.out rfl (by decide) (.slice none 0 0) 0 [] rfl (World.ownsRow_nil _ _ _ 7) (.slice ua k uc) k (flat renc ((L.take k).map rl)) (by simp [Act.eval]) (row_upto (HRW.out.kept (B_wg.out.trans (G_v9.out.mono B_wg.out.size))) k) (by rw [flat_length renc_len, List.length_map, List.length_take, NL.out, Nat.min_eq_left (show k ≤ N by omega)]) (flat_ones renc_one _) (by unfold maxLen; omega) (by omega) G_v9.out.size ?_
                        intro u_v10 v10 o6 g6 _
                        rw [Nat.zero_add, List.nil_append] at o6
                        have O_v10 := Hid.of o6
                        have hb6 : Below v9.heap.size v9 v10 := (Below.refl _ _).grown g6 (Nat.le_refl _) (fun k hk => by cases hk)
                        have G_v10 := Hid.of (G_v9.out.trans (hb6.mono G_v9.out.size))
                        have C_v10 := Hid.of (C_v9.out.next hb6)
                        have N_v10 := Hid.of (N_v9.out.kept hb6)
                        clear o6 g6 hb6
                        clear hHeld c0 c1 c2 c3 c4 c5 c6
                        have c0 := (C_v10.out).head
                        have c1 := ((C_v10.out).tail).head
                        have c2 := (((C_v10.out).tail).tail).head
                        have c3 := ((((C_v10.out).tail).tail).tail).head
                        have c4 := (((((C_v10.out).tail).tail).tail).tail).head
                        have c5 := ((((((C_v10.out).tail).tail).tail).tail).tail).head
                        have c6 := (((((((C_v10.out).tail).tail).tail).tail).tail).tail).head
                        refine hK.out _ _ ⟨c0, c1, c2, c3, c4, c5, c6⟩ (fun hHeld => ?_)
                        clear hK K
                        try simp only [Act.put, List.setIfInBounds_toArray, List.set_cons_zero, List.set_cons_succ]
                        refine wpAnyH_ready (rs := [10]) (by kernel_rfl) (by simp) ?_
                        refine AllReadyH.cons (o := ⟨_, _, _, _, _, _⟩) rfl (fun K hK => ?_) AllReadyH.nil
                        refine step_append_any rfl (.tmp 117) (.tmp 119) 49 rfl wg.heap.size 61 i0 _ 7 64 Tryz.underlying49 HI.out HZ0.out HZ1.out HZ2.out rfl (by decide) u_v10 k _ (by simp [Act.eval]) O_v10.out (.slice (some ⟨wg.heap.size, 0, none⟩) 1 1) 1 (flat renc ([x'].map rl)) (by simp [Act.eval]) N_v10.out (by rw [flat_length renc_len]; rfl) (flat_ones renc_one _) (by unfold maxLen; omega) (by omega) G_v10.out.size ?_
                        intro u_v11 v11 o6 g6 _
                        have O_v11 := Hid.of o6
                        have G_v11 := Hid.of (G_v10.out.grown g6 G_v10.out.size (fun kk hk => own_ge O_v10.out hk))
                        have C_v11 := Hid.of (C_wg.out.next G_v11.out)
                        clear o6 g6
                        clear hHeld c0 c1 c2 c3 c4 c5 c6
                        have c0 := (C_v11.out).head
                        have c1 := ((C_v11.out).tail).head
                        have c2 := (((C_v11.out).tail).tail).head
                        have c3 := ((((C_v11.out).tail).tail).tail).head
                        have c4 := (((((C_v11.out).tail).tail).tail).tail).head
                        have c5 := ((((((C_v11.out).tail).tail).tail).tail).tail).head
                        have c6 := (((((((C_v11.out).tail).tail).tail).tail).tail).tail).head
                        refine hK.out _ _ ⟨c0, c1, c2, c3, c4, c5, c6⟩ (fun hHeld => ?_)
                        clear hK K
                        try simp only [Act.put, List.setIfInBounds_toArray, List.set_cons_zero, List.set_cons_succ]
                        refine wpAnyH_ready (rs := [12]) (by kernel_rfl) (by simp) ?_
                        refine AllReadyH.cons (o := ⟨_, _, _, _, _, _⟩) rfl (fun K hK => ?_) AllReadyH.nil
                        refine step_append_any rfl (.tmp 120) (.tmp 121) 49 rfl wg.heap.size 61 i0 _ 7 64 Tryz.underlying49 HI.out HZ0.out HZ1.out HZ2.out rfl (by decide) u_v11 (k + 1) _ (by simp [Act.eval]) O_v11.out u6 D.length (flat renc (D.map rl)) (by simp [Act.eval]) (D_wg.out.kept G_v11.out) (by rw [flat_length renc_len, List.length_map]) (flat_ones renc_one _) (by unfold maxLen; omega) (by omega) G_v11.out.size ?_
                        intro u_v12 v12 o6 g6 _
                        have O_v12 := Hid.of o6
                        have G_v12 := Hid.of (G_v11.out.grown g6 G_v11.out.size (fun kk hk => own_ge O_v11.out hk))
                        have C_v12 := Hid.of (C_wg.out.next G_v12.out)
                        clear o6 g6
                        clear hHeld c0 c1 c2 c3 c4 c5 c6
                        have c0 := (C_v12.out).head
                        have c1 := ((C_v12.out).tail).head
                        have c2 := (((C_v12.out).tail).tail).head
                        have c3 := ((((C_v12.out).tail).tail).tail).head
                        have c4 := (((((C_v12.out).tail).tail).tail).tail).head
                        have c5 := ((((((C_v12.out).tail).tail).tail).tail).tail).head
                        have c6 := (((((((C_v12.out).tail).tail).tail).tail).tail).tail).head
                        refine hK.out _ _ ⟨c0, c1, c2, c3, c4, c5, c6⟩ (fun hHeld => ?_)
                        clear hK K
                        try simp only [Act.put, List.setIfInBounds_toArray, List.set_cons_zero, List.set_cons_succ]
                        refine wpAnyH_take (i := 13) (oi := ⟨_, _, _, _, _, _⟩) (v := ?_) rfl (by kernel_rfl) (by kernel_rfl) (by kernel_rfl) (fun _ _ _ h => h) (Or.inl ⟨by rfl, ?_⟩) hHeld ?_
                        rotate_left
                        · intro w' hSw
                          try dsimp only at hSw
                          go_simp
                          all_goals with_reducible rfl
                        simp only [Act.put, List.setIfInBounds_toArray, List.set_cons_zero, List.set_cons_succ]
                        refine wpAnyH_take (i := 14) (oi := ⟨_, _, _, _, _, _⟩) (v := ?_) rfl (by kernel_rfl) (by kernel_rfl) (by kernel_rfl) (fun _ _ _ h => h) (Or.inl ⟨by rfl, ?_⟩) hHeld ?_
                        rotate_left
                        · intro w' hSw
                          try dsimp only at hSw
                          go_simp
                          all_goals with_reducible rfl
                        simp only [Act.put, List.setIfInBounds_toArray, List.set_cons_zero, List.set_cons_succ]
                        have h4 := ((B_wg.out.trans (G_v12.out.mono B_wg.out.size)).block p R0.out.lt).trans HU.out
                        have zf : v12.frozen? ⟨p, 1, none⟩ = false := row_frozen h4
                        have l4 : v12.cell? ⟨p, 1, none⟩ = some (.slice ua N uc) := by simp [World.cell?, h4]
                        obtain ⟨ta, tc, hu, -⟩ := own_one O_v12.out
                        subst hu
                        refine wpAnyH_ready (rs := [15]) (by kernel_rfl) (by simp) ?_
                        refine AllReadyH.cons (o := ⟨_, _, _, _, _, _⟩) rfl (fun K hK => ?_) AllReadyH.nil
                        go_simp
                        have hqp : q ≠ p := by have := HPQ.out; omega
                        refine hK.out _ _ ⟨cell_beside c0 hqp, cell_beside c1 hqp, cell_beside c2 hqp, cell_beside c3 hqp, cell_beside c4 hqp, cell_beside c5 hqp, cell_beside c6 hqp⟩ (fun hHeld => ?_)
                        clear hK K
                        refine wpAnyH_done (by kernel_rfl) ?_ _
                        refine NoPanic.normal ?_
                        clear hHeld l4 zf c0 c1 c2 c3 c4 c5 c6
                        have HOW := Hid.of O_v12.out
                        have HUP := Hid.of h4
                        clear h4
                        go_wp2
                        go_ret
                        refine ⟨by first | (rw [OKX.out]; rfl) | rfl, ?_, step_stored (B_wg.out.trans (G_v12.out.mono B_wg.out.size)) _, fun D hD _ => ?_⟩
                        · unfold tAdd
                          rw [if_pos OKX.out, HT.out]
                          have h9 := HOW.out
                          rw [← flat_append, ← flat_append, ← List.map_append, ← List.map_append, List.append_assoc] at h9
                          refine RT.stored HUP.out (Nat.lt_of_lt_of_le R0.out.lt B_wg.out.size) h9 ?_
                          rw [List.length_append, List.length_cons, List.length_take, NL.out, Nat.min_eq_left hkN']
                          omega
                        · unfold tAdd
                          rw [if_pos OKX.out, HT.out]
                          have h9 := HOW.out
                          rw [← flat_append, ← flat_append, ← List.map_append, ← List.map_append, List.append_assoc] at h9
                          refine RTO.stored HUP.out (Nat.lt_of_lt_of_le R0.out.lt B_wg.out.size) (Nat.le_trans hD B_wg.out.size) h9 ?_
                          rw [List.length_append, List.length_cons, List.length_take, NL.out, Nat.min_eq_left hkN']
                          omega
    · have hno : tOk e x = false := by rw [RES.out, decide_eq_false hs]; rfl
      have hs1 : x.s < 0 := by omega
      clear hs
      go_enter Tryz.func32, Tryz.ntmps32
      go_upto_region 1 with fail
      rw [HW.out]
      rw [HQ.out]
      clear HW
      refine wp_region_noPanic ?_
      refine wp_region_held_drew (S := fun w' => w'.cell? ⟨p, 0, none⟩ = some (.int .i64 e) ∧ w'.cell? ⟨q, 0, none⟩ = some (.string x.n) ∧ w'.cell? ⟨q, 1, none⟩ = some (.int .i64 x.s) ∧ w'.cell? ⟨q, 2, none⟩ = some (.int .i64 x.a.c) ∧ w'.cell? ⟨q, 3, none⟩ = some (.int .i64 x.a.hi) ∧ w'.cell? ⟨q, 4, none⟩ = some (.int .u64 x.a.lo) ∧ w'.cell? ⟨q, 5, none⟩ = some (.int .i64 x.a.mn) ∧ w'.cell? ⟨q, 6, none⟩ = some (.int .i64 x.a.mx)) (by kernel_rfl) ?_ (fun hHeld => ?_)
      · exact ⟨c0, c1, c2, c3, c4, c5, c6, c7⟩
      refine wpAnyH_take (i := 0) (oi := ⟨_, _, _, _, _, _⟩) (v := ?_) rfl (by kernel_rfl) (by kernel_rfl) (by kernel_rfl) (fun _ _ _ h => h) (Or.inl ⟨by rfl, ?_⟩) hHeld ?_
      rotate_left
      · intro w' hSw
        try dsimp only at hSw
        go_simp
        all_goals with_reducible rfl
      simp only [Act.put, List.setIfInBounds_toArray, List.set_cons_zero, List.set_cons_succ]
      refine wpAnyH_take (i := 1) (oi := ⟨_, _, _, _, _, _⟩) (v := ?_) rfl (by kernel_rfl) (by kernel_rfl) (by kernel_rfl) (fun _ _ _ h => h) (Or.inl ⟨by rfl, ?_⟩) hHeld ?_
      rotate_left
      · intro w' hSw
        try dsimp only at hSw
        go_simp
        all_goals with_reducible rfl
      simp only [Act.put, List.setIfInBounds_toArray, List.set_cons_zero, List.set_cons_succ]
      refine wpAnyH_ready (rs := [2]) (by kernel_rfl) (by simp) ?_
      refine AllReadyH.cons (o := ⟨_, _, _, _, _, _⟩) rfl (fun K hK => ?_) AllReadyH.nil
      go_simp
      refine (refName_any x.n F1.out _).mono ?_
      rintro r w2 ⟨rfl, k2, hw2⟩
      have b2 : Below w1.heap.size w1 w2 := by rw [hw2]; exact below_drewN ((Below.refl _ _).drew) k2
      clear hw2
      rw [V1.out]
      have B2 := Hid.of (B1.out.trans (b2.mono B1.out.size))
      have R2 := Hid.of (R1.out.next b2)
      have CS2 := Hid.of (CS1.out.next b2)
      have X2 := Hid.of (X1.out.next b2)
      clear b2 hHeld c0 c1 c2 c3 c4 c5 c6 c7 B1 R1 CS1 X1
      have c0 := (CS2.out).head
      have c1 := ((CS2.out).tail).head
      have c2 := (((CS2.out).tail).tail).head
      have c3 := ((((CS2.out).tail).tail).tail).head
      have c4 := (((((CS2.out).tail).tail).tail).tail).head
      have c5 := ((((((CS2.out).tail).tail).tail).tail).tail).head
      have c6 := (((((((CS2.out).tail).tail).tail).tail).tail).tail).head
      have c7 := ((((((((CS2.out).tail).tail).tail).tail).tail).tail).tail).head
      refine hK.out _ _ ⟨c0, c1, c2, c3, c4, c5, c6, c7⟩ (fun hHeld => ?_)
      clear hK K
      try simp only [Act.put, List.setIfInBounds_toArray, List.set_cons_zero, List.set_cons_succ]
      refine wpAnyH_take (i := 3) (oi := ⟨_, _, _, _, _, _⟩) (v := ?_) rfl (by kernel_rfl) (by kernel_rfl) (by kernel_rfl) (fun _ _ _ h => h) (Or.inl ⟨by rfl, ?_⟩) hHeld ?_
      rotate_left
      · intro w' hSw
        try dsimp only at hSw
        go_simp
        all_goals with_reducible rfl
      simp only [Act.put, List.setIfInBounds_toArray, List.set_cons_zero, List.set_cons_succ]
      refine wpAnyH_take (i := 4) (oi := ⟨_, _, _, _, _, _⟩) (v := ?_) rfl (by kernel_rfl) (by kernel_rfl) (by kernel_rfl) (fun _ _ _ h => h) (Or.inl ⟨by rfl, ?_⟩) hHeld ?_
      rotate_left
      · intro w' hSw
        try dsimp only at hSw
        go_simp
        all_goals with_reducible rfl
      simp only [Act.put, List.setIfInBounds_toArray, List.set_cons_zero, List.set_cons_succ]
      refine wpAnyH_take (i := 5) (oi := ⟨_, _, _, _, _, _⟩) (v := ?_) rfl (by kernel_rfl) (by kernel_rfl) (by kernel_rfl) (fun _ _ _ h => h) (Or.inl ⟨by rfl, ?_⟩) hHeld ?_
      rotate_left
      · intro w' hSw
        try dsimp only at hSw
        go_simp
        all_goals with_reducible rfl
      simp only [Act.put, List.setIfInBounds_toArray, List.set_cons_zero, List.set_cons_succ]
      refine wpAnyH_take (i := 6) (oi := ⟨_, _, _, _, _, _⟩) (v := ?_) rfl (by kernel_rfl) (by kernel_rfl) (by kernel_rfl) (fun _ _ _ h => h) (Or.inl ⟨by rfl, ?_⟩) hHeld ?_
      rotate_left
      · intro w' hSw
        try dsimp only at hSw
        go_simp
        all_goals with_reducible rfl
      simp only [Act.put, List.setIfInBounds_toArray, List.set_cons_zero, List.set_cons_succ]
      refine wpAnyH_take (i := 7) (oi := ⟨_, _, _, _, _, _⟩) (v := ?_) rfl (by kernel_rfl) (by kernel_rfl) (by kernel_rfl) (fun _ _ _ h => h) (Or.inl ⟨by rfl, ?_⟩) hHeld ?_
      rotate_left
      · intro w' hSw
        try dsimp only at hSw
        go_simp
        all_goals with_reducible rfl
      simp only [Act.put, List.setIfInBounds_toArray, List.set_cons_zero, List.set_cons_succ]
      refine wpAnyH_take (i := 8) (oi := ⟨_, _, _, _, _, _⟩) (v := ?_) rfl (by kernel_rfl) (by kernel_rfl) (by kernel_rfl) (fun _ _ _ h => h) (Or.inl ⟨by rfl, ?_⟩) hHeld ?_
      rotate_left
      · intro w' hSw
        try dsimp only at hSw
        go_simp
        all_goals with_reducible rfl
      simp only [Act.put, List.setIfInBounds_toArray, List.set_cons_zero, List.set_cons_succ]
      refine wpAnyH_take (i := 9) (oi := ⟨_, _, _, _, _, _⟩) (v := ?_) rfl (by kernel_rfl) (by kernel_rfl) (by kernel_rfl) (fun _ _ _ h => h) (Or.inl ⟨by rfl, ?_⟩) hHeld ?_
      rotate_left
      · intro w' hSw
        try dsimp only at hSw
        go_simp
        all_goals with_reducible rfl
      simp only [Act.put, List.setIfInBounds_toArray, List.set_cons_zero, List.set_cons_succ]
      refine wpAnyH_take (i := 10) (oi := ⟨_, _, _, _, _, _⟩) (v := undef) rfl (by kernel_rfl) (by kernel_rfl) (by kernel_rfl) (fun _ _ _ h => h) (Or.inr ⟨by rfl, rfl⟩) hHeld ?_
      simp only [Act.put, List.setIfInBounds_toArray, List.set_cons_zero, List.set_cons_succ]
      refine wpAnyH_take (i := 11) (oi := ⟨_, _, _, _, _, _⟩) (v := undef) rfl (by kernel_rfl) (by kernel_rfl) (by kernel_rfl) (fun _ _ _ h => h) (Or.inr ⟨by rfl, rfl⟩) hHeld ?_
      simp only [Act.put, List.setIfInBounds_toArray, List.set_cons_zero, List.set_cons_succ]
      refine wpAnyH_take (i := 12) (oi := ⟨_, _, _, _, _, _⟩) (v := undef) rfl (by kernel_rfl) (by kernel_rfl) (by kernel_rfl) (fun _ _ _ h => h) (Or.inr ⟨by rfl, rfl⟩) hHeld ?_
      simp only [Act.put, List.setIfInBounds_toArray, List.set_cons_zero, List.set_cons_succ]
      refine wpAnyH_take (i := 13) (oi := ⟨_, _, _, _, _, _⟩) (v := undef) rfl (by kernel_rfl) (by kernel_rfl) (by kernel_rfl) (fun _ _ _ h => h) (Or.inr ⟨by rfl, rfl⟩) hHeld ?_
      simp only [Act.put, List.setIfInBounds_toArray, List.set_cons_zero, List.set_cons_succ]
      refine wpAnyH_take (i := 14) (oi := ⟨_, _, _, _, _, _⟩) (v := undef) rfl (by kernel_rfl) (by kernel_rfl) (by kernel_rfl) (fun _ _ _ h => h) (Or.inr ⟨by rfl, rfl⟩) hHeld ?_
      simp only [Act.put, List.setIfInBounds_toArray, List.set_cons_zero, List.set_cons_succ]
      refine wpAnyH_take (i := 15) (oi := ⟨_, _, _, _, _, _⟩) (v := undef) rfl (by kernel_rfl) (by kernel_rfl) (by kernel_rfl) (fun _ _ _ h => h) (Or.inr ⟨by rfl, rfl⟩) hHeld ?_
      simp only [Act.put, List.setIfInBounds_toArray, List.set_cons_zero, List.set_cons_succ]
      refine wpAnyH_take (i := 16) (oi := ⟨_, _, _, _, _, _⟩) (v := undef) rfl (by kernel_rfl) (by kernel_rfl) (by kernel_rfl) (fun _ _ _ h => h) (Or.inr ⟨by rfl, rfl⟩) hHeld ?_
      simp only [Act.put, List.setIfInBounds_toArray, List.set_cons_zero, List.set_cons_succ]
      refine wpAnyH_take (i := 17) (oi := ⟨_, _, _, _, _, _⟩) (v := undef) rfl (by kernel_rfl) (by kernel_rfl) (by kernel_rfl) (fun _ _ _ h => h) (Or.inr ⟨by rfl, rfl⟩) hHeld ?_
      simp only [Act.put, List.setIfInBounds_toArray, List.set_cons_zero, List.set_cons_succ]
      refine wpAnyH_take (i := 18) (oi := ⟨_, _, _, _, _, _⟩) (v := ?_) rfl (by kernel_rfl) (by kernel_rfl) (by kernel_rfl) (fun _ _ _ h => h) (Or.inl ⟨by rfl, ?_⟩) hHeld ?_
      rotate_left
      · intro w' hSw
        try dsimp only at hSw
        go_simp
        all_goals with_reducible rfl
      simp only [Act.put, List.setIfInBounds_toArray, List.set_cons_zero, List.set_cons_succ]
      refine wpAnyH_take (i := 19) (oi := ⟨_, _, _, _, _, _⟩) (v := ?_) rfl (by kernel_rfl) (by kernel_rfl) (by kernel_rfl) (fun _ _ _ h => h) (Or.inl ⟨by rfl, ?_⟩) hHeld ?_
      rotate_left
      · intro w' hSw
        try dsimp only at hSw
        go_simp
        all_goals with_reducible rfl
      simp only [Act.put, List.setIfInBounds_toArray, List.set_cons_zero, List.set_cons_succ]
      refine wpAnyH_take (i := 20) (oi := ⟨_, _, _, _, _, _⟩) (v := undef) rfl (by kernel_rfl) (by kernel_rfl) (by kernel_rfl) (fun _ _ _ h => h) (Or.inr ⟨by rfl, rfl⟩) hHeld ?_
      simp only [Act.put, List.setIfInBounds_toArray, List.set_cons_zero, List.set_cons_succ]
      refine wpAnyH_take (i := 21) (oi := ⟨_, _, _, _, _, _⟩) (v := undef) rfl (by kernel_rfl) (by kernel_rfl) (by kernel_rfl) (fun _ _ _ h => h) (Or.inr ⟨by rfl, rfl⟩) hHeld ?_
      simp only [Act.put, List.setIfInBounds_toArray, List.set_cons_zero, List.set_cons_succ]
      refine wpAnyH_take (i := 22) (oi := ⟨_, _, _, _, _, _⟩) (v := undef) rfl (by kernel_rfl) (by kernel_rfl) (by kernel_rfl) (fun _ _ _ h => h) (Or.inr ⟨by rfl, rfl⟩) hHeld ?_
      simp only [Act.put, List.setIfInBounds_toArray, List.set_cons_zero, List.set_cons_succ]
      refine wpAnyH_take (i := 23) (oi := ⟨_, _, _, _, _, _⟩) (v := undef) rfl (by kernel_rfl) (by kernel_rfl) (by kernel_rfl) (fun _ _ _ h => h) (Or.inr ⟨by rfl, rfl⟩) hHeld ?_
      simp only [Act.put, List.setIfInBounds_toArray, List.set_cons_zero, List.set_cons_succ]
      refine wpAnyH_take (i := 24) (oi := ⟨_, _, _, _, _, _⟩) (v := ?_) rfl (by kernel_rfl) (by kernel_rfl) (by kernel_rfl) (fun _ _ _ h => h) (Or.inl ⟨by rfl, ?_⟩) hHeld ?_
      rotate_left
      · intro w' hSw
        try dsimp only at hSw
        go_simp
        all_goals with_reducible rfl
      simp only [Act.put, List.setIfInBounds_toArray, List.set_cons_zero, List.set_cons_succ]
      refine wpAnyH_done (by kernel_rfl) ?_ _
      refine NoPanic.normal ?_
      have R9 := R2
      have B9 := B2
      go_wp2
      go_ret
      exact ⟨by first | (rw [hno]; rfl) | rfl, by unfold tAdd; rw [hno]; exact R9.out, Step.of_below B9.out, fun D _ h => by unfold tAdd; rw [hno]; exact h.next B9.out⟩
end Go.Proofs.YtdchjcidfaencaaGreat
