/-
  A bundle of texts: TCT TCU TCV TCW TCX.
-/
import Derived.Deep.DeepCutAuto
import Derived.Test.YtbhcafginmkaaaaGreatN31
import Derived.Test.YtbhcafginmkaaaaGreatN14
import Derived.Test.YtbhcafginmkaaaaGreatN30
import Derived.Test.YtbhcafginmkaaaaGreatN06
namespace Go.Proofs.YtbhcafginmkaaaaGreat
open Go.RowKit Go.Lib Go.Sort

theorem two_flat (l : List Ag) (j k : Nat) (hj : j < l.length) (hk : k < 5) : (l.flatMap fun a => (agCells a).toList)[j * 5 + k]? = (agCells (l.getD j agZero))[k]? := by
  induction l generalizing j with
  | nil => simp at hj
  | cons x l ih =>
    rw [List.flatMap_cons]
    cases j with
    | zero =>
      rw [List.getElem?_append_left (by simpa using hk)]
      simp [List.getD]
    | succ j =>
      rw [List.getElem?_append_right (by simp; omega)]
      have e : (j + 1) * 5 + k - (agCells x).toList.length = j * 5 + k := by simp; omega
      rw [e, ih j (by simpa using hj)]
      rfl

theorem two_made (w1 : World) (t : TypeId) (l : List Ag) (cs : Array Value) (hcs : cs.toList = l.flatMap fun a => (agCells a).toList) (b n c : Nat) (hb : b = w1.heap.size) (hn : n = l.length) :
    AgRow (w1.alloc (.cells cs t)) (.slice (some ⟨b, 0, none⟩) n c) l := by
  subst hb hn
  refine ⟨_, c, rfl, .inr ⟨_, 0, rfl, by simp, ?_⟩⟩
  intro j hj
  have key : ∀ k v, k < 5 → (agCells (l.getD j agZero))[k]? = some v → (w1.alloc (.cells cs t)).cell? ⟨w1.heap.size, 0 + j * 5 + k, none⟩ = some v := by
    intro k v hk hv
    rw [cell_of_row _ _ _ _ _ _ (Go.heap_alloc_new _ _), Nat.zero_add, ← Array.getElem?_toList, hcs, two_flat l j k hj hk, hv]
  exact ⟨key 0 _ (by omega) (by rfl), key 1 _ (by omega) (by rfl), key 2 _ (by omega) (by rfl), key 3 _ (by omega) (by rfl), key 4 _ (by omega) (by rfl)⟩

theorem merge_two (a a' : Ag) (ha : AgIn a) (ha' : AgIn a') (w1 : World) (t : TypeId) (cs : Array Value) (hcs : cs = agCells a ++ agCells a') (b : Nat) (hb : b = w1.heap.size) :
    Calls Tryz.prog 242 #[.slice (some ⟨b, 0, none⟩) 2 2] (w1.alloc (.cells cs t)) fun e w' => e = .returned (agv (agAll agZero [a, a'])) ∧ Below w1.heap.size w1 w' := by
  refine (aggMerge_any _ [a, a'] _ (two_made w1 t [a, a'] cs (by rw [hcs]; rfl) b 2 2 hb rfl) (by simpa using ⟨ha, ha'⟩) (by simp)).mono ?_
  rintro e w' ⟨rfl, h⟩
  exact ⟨rfl, ((Below.refl _ _).alloc (Nat.le_refl _) _).trans (h.mono (by simp))⟩

/-- An aggregate's cells laid over those of an element. -/
theorem setMany_agg (bs : List Bk) (k : Nat) (x : Bk) (a : Ag) (hx : bs[k]? = some x) : setMany (flat benc bs) (k * 6 + 1) [.int .i64 a.c, .int .i64 a.hi, .int .u64 a.lo, .int .i64 a.mn, .int .i64 a.mx] = flat benc (bs.set k (x.1, a)) := by
  have hk := (List.getElem?_eq_some_iff.1 hx).1
  have hl : (flat benc bs).length = bs.length * 6 := flat_length benc_len bs
  rw [setMany_eq _ _ _ (by rw [hl]; simp; omega)]
  have e1 : bs.set k (x.1, a) = bs.take k ++ ((x.1, a) :: bs.drop (k + 1)) := by
    rw [List.set_eq_take_append_cons_drop, if_pos hk]
  rw [e1, flat_append]
  have e2 : flat benc ((x.1, a) :: bs.drop (k + 1)) = .int .i64 x.1 :: ([.int .i64 a.c, .int .i64 a.hi, .int .u64 a.lo, .int .i64 a.mn, .int .i64 a.mx] ++ flat benc (bs.drop (k + 1))) := rfl
  rw [e2, flat_take_bk bs k (by omega), flat_drop_bk bs (k + 1) (by omega)]
  have e3 : (flat benc bs).take (k * 6 + 1) = (flat benc bs).take (k * 6) ++ [.int .i64 x.1] := by
    rw [List.take_succ_eq_append_getElem (by rw [hl]; omega)]
    congr 1
    have := flat_at benc_len bs k x hx 0 (by decide)
    rw [Nat.add_zero, List.getElem?_eq_getElem (by rw [hl]; omega)] at this
    rw [Option.some.inj this]
  rw [e3, List.append_assoc, List.append_assoc]
  show _ ++ ([Value.int .i64 x.1] ++ (_ ++ List.drop (k * 6 + 1 + 5) _)) = _
  rw [show k * 6 + 1 + 5 = (k + 1) * 6 by omega]
  rfl

theorem sPush_empty (b : Bk) : sPush [] b = [b] := rfl
theorem sPush_more {bs : List Bk} {x b : Bk} {k : Nat} (hk : bs.length = k + 1) (hx : bs[k]? = some x) (h : x.1 < b.1) : sPush bs b = bs ++ [b] := by
  unfold sPush
  rw [List.getLast?_eq_getElem?, hk, Nat.add_sub_cancel, hx]
  show (if x.1 < b.1 then _ else _) = _
  rw [if_pos h]
theorem sPush_join {bs : List Bk} {x b : Bk} {k : Nat} (hk : bs.length = k + 1) (hx : bs[k]? = some x) (h : ¬ x.1 < b.1) : sPush bs b = bs.set k (bJoin x b) := by
  unfold sPush
  rw [List.getLast?_eq_getElem?, hk, Nat.add_sub_cancel, hx]
  show (if x.1 < b.1 then _ else _) = _
  rw [if_neg h, List.set_eq_take_append_cons_drop, if_pos (by omega), List.drop_eq_nil_of_le (by omega), List.dropLast_eq_take, hk, Nat.add_sub_cancel]

theorem new_bk (w : World) (b : Bk) (t : TypeId) : Cells (w.alloc (.cells #[.int .i64 b.1, .int .i64 b.2.c, .int .i64 b.2.hi, .int .u64 b.2.lo, .int .i64 b.2.mn, .int .i64 b.2.mx] t)) w.heap.size 0 (flat benc [b]) := by
  rw [flat_one]
  exact new_cells w _ t

theorem own_kept_none {w w' : World} {D : Nat} {e : TypeId} {sz : Nat} {v : Value} {n : Nat} {xs : List Value} (h : w.ownsRow D e sz v n xs) (hb : w.grownBy w' none) : w'.ownsRow D e sz v n xs :=
  h.kept hb (by
    cases hh : v.ownBlock with
    | none => exact .inl rfl
    | some g => exact .inr (by simp))

theorem below_grows {w w' : World} (b : Below w.drew.heap.size w.drew w') : w.grownBy w' none := ⟨b.os, b.tape, b.output, b.size, fun i hi _ => b.block i hi⟩

/-- The cells of an element's aggregate are there. -/
theorem agg_there {w : World} {D g n cap k : Nat} {bs : List Bk} (h : w.ownsRow D 269 6 (.slice (some ⟨g, 0, none⟩) n cap) n (flat benc bs)) (hl : bs.length = n) (hk : k < n) :
    ∃ x : Bk, w.cell? ⟨g, k * 6 + 1, none⟩ = some (.int .i64 x.2.c) ∧ w.cell? ⟨g, k * 6 + 2, none⟩ = some (.int .i64 x.2.hi) ∧ w.cell? ⟨g, k * 6 + 3, none⟩ = some (.int .u64 x.2.lo) ∧ w.cell? ⟨g, k * 6 + 4, none⟩ = some (.int .i64 x.2.mn) ∧ w.cell? ⟨g, k * 6 + 5, none⟩ = some (.int .i64 x.2.mx) := by
  obtain ⟨x, hx⟩ : ∃ x, bs[k]? = some x := ⟨_, List.getElem?_eq_getElem (by omega)⟩
  have key : ∀ i u, i < 6 → (benc x)[i]? = some u → w.cell? ⟨g, k * 6 + i, none⟩ = some u := fun i u hi hu => by
    rw [h.cellAt (k * 6 + i) (by omega)]
    exact (flat_at benc_len bs k x hx i hi).trans hu
  exact ⟨x, key 1 _ (by decide) rfl, key 2 _ (by decide) rfl, key 3 _ (by decide) rfl, key 4 _ (by decide) rfl, key 5 _ (by decide) rfl⟩

theorem agg_thawed {w : World} {D g n cap : Nat} {bs : List Bk} (h : w.ownsRow D 269 6 (.slice (some ⟨g, 0, none⟩) n cap) n (flat benc bs)) (k : Nat) :
    w.frozen? ⟨g, k * 6 + 1, none⟩ = false ∧ w.frozen? ⟨g, k * 6 + 2, none⟩ = false ∧ w.frozen? ⟨g, k * 6 + 3, none⟩ = false ∧ w.frozen? ⟨g, k * 6 + 4, none⟩ = false ∧ w.frozen? ⟨g, k * 6 + 5, none⟩ = false :=
  ⟨h.frozenAt _, h.frozenAt _, h.frozenAt _, h.frozenAt _, h.frozenAt _⟩

theorem grown_drewN {w w' : World} {row : Option Nat} (h : w.grownBy w' row) (q : Nat) : w.grownBy (w'.drewN q) row := ⟨h.os, h.tape, h.output, h.size, h.block⟩

theorem grown_ahead2 {w wq w2 : World} {row : Option Nat} (h : w.grownBy wq none) (h2 : wq.grownBy w2 row) : w.grownBy w2 row :=
  ⟨h2.os.trans h.os, h2.tape.trans h.tape, h2.output.trans h.output, Nat.le_trans h.size h2.size, fun i hi hne => by
    rw [h2.block i (Nat.lt_of_lt_of_le hi h.size) hne]
    exact h.block i hi (by simp)⟩

set_option maxHeartbeats 6400000 in
set_option maxRecDepth 20000 in
theorem push_any {D : Nat} {v : Value} (bs : List Bk) (b : Bk) (w : World) (h : BkOwn w D v bs) (hg : BAll bs) (hb : BGood b) (hn : bs.length ≤ 100000) (hD : D ≤ w.heap.size) :
    Calls Tryz.prog 266 #[v, bkv b] w fun e w' => ∃ x, e = .returned x ∧ BkOwn w' D x (sPush bs b) ∧ w.grownBy w' v.ownBlock ∧ OldOrNew w v x := by
  obtain ⟨i0, hi0, hz0, hz1, hz2⟩ := info_parts bk_info
  have HI := Hid.of hi0
  have HZ0 := Hid.of hz0
  have HZ1 := Hid.of hz1
  have HZ2 := Hid.of hz2
  clear hi0 hz0 hz1 hz2
  show Calls Tryz.prog 266 #[v, .agg #[.int .i64 b.1, .int .i64 b.2.c, .int .i64 b.2.hi, .int .u64 b.2.lo, .int .i64 b.2.mn, .int .i64 b.2.mx]] w _
  have H : Hid (w.ownsRow D 269 6 v bs.length (flat benc bs)) := Hid.of h
  have HROW : Hid (CellRow w v bs.length (flat benc bs)) := Hid.of (BkOwn.row h)
  have HG := Hid.of hg
  have HB := Hid.of hb
  obtain ⟨va, vc, rfl, -⟩ := own_one h
  unfold OldOrNew
  obtain ⟨n, hbl⟩ : ∃ n, bs.length = n := ⟨_, rfl⟩
  have BL := Hid.of hbl
  rw [hbl] at hn H HROW ⊢
  obtain ⟨vb, hvb⟩ : ∃ vb, (Value.slice va n vc).ownBlock = vb := ⟨_, rfl⟩
  rw [hvb]
  have VB := Hid.of hvb
  clear h hg hb hbl hvb
  rcases Nat.eq_zero_or_pos n with rfl | hpos
  · -- the first one
    have hnil : bs = [] := List.length_eq_zero_iff.1 BL.out
    have HN := Hid.of hnil
    clear hnil
    go_enter Tryz.func266, Tryz.ntmps266
    go_wp2_with fail
    obtain ⟨w1, hw1⟩ : ∃ w1, w.alloc (.cells #[.int .i64 b.1, .int .i64 b.2.c, .int .i64 b.2.hi, .int .u64 b.2.lo, .int .i64 b.2.mn, .int .i64 b.2.mx] 269) = w1 := ⟨_, rfl⟩
    have B1 := Hid.of (show w.grownBy w1 none by rw [← hw1]; exact World.grownBy_alloc w _ none)
    have H1 := Hid.of (show w1.ownsRow D 269 6 (.slice va 0 vc) 0 (flat benc bs) from own_kept_none H.out B1.out)
    have hbx : w1.heap[w.heap.size]? = some (.cells #[.int .i64 b.1, .int .i64 b.2.c, .int .i64 b.2.hi, .int .u64 b.2.lo, .int .i64 b.2.mn, .int .i64 b.2.mx] 269 (0, 0)) := by rw [← hw1]; exact (MapKept.heap_alloc w _).1
    have hlt1 : w.heap.size < w1.heap.size := by rw [← hw1]; simp
    have BX1 := Hid.of hbx
    have y0 : w1.cell? ⟨w.heap.size, 0, none⟩ = some (.int .i64 b.1) := by rw [cell_of_row _ _ _ _ _ _ hbx]; rfl
    have y1 : w1.cell? ⟨w.heap.size, 1, none⟩ = some (.int .i64 b.2.c) := by rw [cell_of_row _ _ _ _ _ _ hbx]; rfl
    have y2 : w1.cell? ⟨w.heap.size, 2, none⟩ = some (.int .i64 b.2.hi) := by rw [cell_of_row _ _ _ _ _ _ hbx]; rfl
    have y3 : w1.cell? ⟨w.heap.size, 3, none⟩ = some (.int .u64 b.2.lo) := by rw [cell_of_row _ _ _ _ _ _ hbx]; rfl
    have y4 : w1.cell? ⟨w.heap.size, 4, none⟩ = some (.int .i64 b.2.mn) := by rw [cell_of_row _ _ _ _ _ _ hbx]; rfl
    have y5 : w1.cell? ⟨w.heap.size, 5, none⟩ = some (.int .i64 b.2.mx) := by rw [cell_of_row _ _ _ _ _ _ hbx]; rfl
    rw [hw1]
    clear hw1 hbx
    go_quiet (fail)
    obtain ⟨wq, hwq⟩ : ∃ wq, w1.drewN nq = wq := ⟨_, rfl⟩
    have BQ := Hid.of (show w.grownBy wq none by rw [← hwq]; exact grown_drewN B1.out nq)
    have HQ := Hid.of (show wq.ownsRow D 269 6 (.slice va 0 vc) 0 (flat benc bs) by rw [← hwq]; exact H1.out)
    have hlt1 : w.heap.size < wq.heap.size := by rw [← hwq]; exact hlt1
    have y0 : wq.cell? ⟨w.heap.size, 0, none⟩ = some (.int .i64 b.1) := by rw [← hwq]; exact y0
    have y1 : wq.cell? ⟨w.heap.size, 1, none⟩ = some (.int .i64 b.2.c) := by rw [← hwq]; exact y1
    have y2 : wq.cell? ⟨w.heap.size, 2, none⟩ = some (.int .i64 b.2.hi) := by rw [← hwq]; exact y2
    have y3 : wq.cell? ⟨w.heap.size, 3, none⟩ = some (.int .u64 b.2.lo) := by rw [← hwq]; exact y3
    have y4 : wq.cell? ⟨w.heap.size, 4, none⟩ = some (.int .i64 b.2.mn) := by rw [← hwq]; exact y4
    have y5 : wq.cell? ⟨w.heap.size, 5, none⟩ = some (.int .i64 b.2.mx) := by rw [← hwq]; exact y5
    rw [hwq]
    clear hwq
    go_wp2_with (at_builtin; refine append_keep_law rfl (.tmp 21) (.tmp 23) 266 rfl D 269 i0 _ 6 48 Tryz.underlying266 HI.out HZ0.out HZ1.out HZ2.out rfl (by decide) (.slice va 0 vc) 0 _ rfl (HQ.out.alloc _) wq.heap.size 0 1 1 (flat benc [b]) rfl (new_bk wq b _) rfl (flat_ones_bk _) (by unfold maxLen; omega) (by omega) (by simp; have := BQ.out.size; omega) ?_; intro x w2 o1 g1 _ l1; have O1 := Hid.of o1; have G1 := Hid.of g1; have L1 := Hid.of l1; clear o1 g1 l1)
    go_ret
    refine ⟨_, rfl, ?_, grown_ahead2 BQ.out (by rw [← VB.out]; exact grown_ahead2 (World.grownBy_alloc _ _ none) G1.out), ?_⟩
    · unfold BkOwn
      rw [HN.out, sPush_empty]
      have := O1.out
      rw [HN.out] at this
      exact this
    · rcases L1.out with c | ⟨g, c1, c2⟩
      · exact .inl (by rw [← VB.out]; exact c)
      · exact .inr ⟨g, c1, Nat.le_trans BQ.out.size (Nat.le_trans (by simp) c2)⟩
  · obtain ⟨k, hk⟩ : ∃ k : Nat, (n : Int) - 1 = (k : Int) := ⟨n - 1, by omega⟩
    have hkn : k < n := by omega
    have hk1 : (k : Int) < (n : Int) := by omega
    have hk0 : (0 : Int) ≤ (k : Int) := by omega
    have hk2 : decide ((k : Int) < 0) = false := decide_eq_false (by omega)
    have BL2 : Hid (bs.length = k + 1) := Hid.of (by have := BL.out; omega)
    obtain ⟨x, hx⟩ : ∃ x, bs[k]? = some x := ⟨_, List.getElem?_eq_getElem (by have := BL.out; omega)⟩
    have HX := Hid.of hx
    obtain ⟨g', cap', cur', h0, hDg, hrow, hcap, hmax, hcs, htk⟩ := H.out.2.resolve_left (fun c => by omega)
    simp only [Value.slice.injEq, true_and] at h0
    obtain ⟨rfl, rfl⟩ := h0
    have HGL : Hid (g' < w.heap.size) := Hid.of (Array.getElem?_eq_some_iff.1 hrow).1
    obtain ⟨g, o, hgo, hgl, x0, x1, x2, x3, x4, x5⟩ := bk_at HROW.out k x hx
    simp only [Option.some.injEq, Addr.mk.injEq, and_true] at hgo
    obtain ⟨rfl, rfl⟩ := hgo
    simp only [Nat.zero_add] at x0 x1 x2 x3 x4 x5
    clear hx hrow hcap hmax hcs htk hgl
    by_cases hlt : x.1 < b.1
    · -- behind the last one
      have HLT := Hid.of hlt
      have hd : decide (x.1 < b.1) = true := decide_eq_true hlt
      clear hlt
      go_enter Tryz.func266, Tryz.ntmps266
      go_wp2_with fail
      obtain ⟨w1, hw1⟩ : ∃ w1, w.alloc (.cells #[.int .i64 b.1, .int .i64 b.2.c, .int .i64 b.2.hi, .int .u64 b.2.lo, .int .i64 b.2.mn, .int .i64 b.2.mx] 269) = w1 := ⟨_, rfl⟩
      have B1 := Hid.of (show w.grownBy w1 none by rw [← hw1]; exact World.grownBy_alloc w _ none)
      have H1 := Hid.of (show w1.ownsRow D 269 6 (.slice (some ⟨g', 0, none⟩) n vc) n (flat benc bs) from own_kept_none H.out B1.out)
      have hbx : w1.heap[w.heap.size]? = some (.cells #[.int .i64 b.1, .int .i64 b.2.c, .int .i64 b.2.hi, .int .u64 b.2.lo, .int .i64 b.2.mn, .int .i64 b.2.mx] 269 (0, 0)) := by rw [← hw1]; exact (MapKept.heap_alloc w _).1
      have hlt1 : w.heap.size < w1.heap.size := by rw [← hw1]; simp
      have BX1 := Hid.of hbx
      have y0 : w1.cell? ⟨w.heap.size, 0, none⟩ = some (.int .i64 b.1) := by rw [cell_of_row _ _ _ _ _ _ hbx]; rfl
      have y1 : w1.cell? ⟨w.heap.size, 1, none⟩ = some (.int .i64 b.2.c) := by rw [cell_of_row _ _ _ _ _ _ hbx]; rfl
      have y2 : w1.cell? ⟨w.heap.size, 2, none⟩ = some (.int .i64 b.2.hi) := by rw [cell_of_row _ _ _ _ _ _ hbx]; rfl
      have y3 : w1.cell? ⟨w.heap.size, 3, none⟩ = some (.int .u64 b.2.lo) := by rw [cell_of_row _ _ _ _ _ _ hbx]; rfl
      have y4 : w1.cell? ⟨w.heap.size, 4, none⟩ = some (.int .i64 b.2.mn) := by rw [cell_of_row _ _ _ _ _ _ hbx]; rfl
      have y5 : w1.cell? ⟨w.heap.size, 5, none⟩ = some (.int .i64 b.2.mx) := by rw [cell_of_row _ _ _ _ _ _ hbx]; rfl
      have x0 : w1.cell? ⟨g', k * 6, none⟩ = some (.int .i64 x.1) := by rw [World.cell?_of_block (B1.out.block g' HGL.out (by simp))]; exact x0
      have x1 : w1.cell? ⟨g', k * 6 + 1, none⟩ = some (.int .i64 x.2.c) := by rw [World.cell?_of_block (B1.out.block g' HGL.out (by simp))]; exact x1
      have x2 : w1.cell? ⟨g', k * 6 + 2, none⟩ = some (.int .i64 x.2.hi) := by rw [World.cell?_of_block (B1.out.block g' HGL.out (by simp))]; exact x2
      have x3 : w1.cell? ⟨g', k * 6 + 3, none⟩ = some (.int .u64 x.2.lo) := by rw [World.cell?_of_block (B1.out.block g' HGL.out (by simp))]; exact x3
      have x4 : w1.cell? ⟨g', k * 6 + 4, none⟩ = some (.int .i64 x.2.mn) := by rw [World.cell?_of_block (B1.out.block g' HGL.out (by simp))]; exact x4
      have x5 : w1.cell? ⟨g', k * 6 + 5, none⟩ = some (.int .i64 x.2.mx) := by rw [World.cell?_of_block (B1.out.block g' HGL.out (by simp))]; exact x5
      rw [hw1]
      clear hw1 hbx
      go_quiet (fail)
      obtain ⟨wq, hwq⟩ : ∃ wq, w1.drewN nq = wq := ⟨_, rfl⟩
      have BQ := Hid.of (show w.grownBy wq none by rw [← hwq]; exact grown_drewN B1.out nq)
      have HQ := Hid.of (show wq.ownsRow D 269 6 (.slice (some ⟨g', 0, none⟩) n vc) n (flat benc bs) by rw [← hwq]; exact H1.out)
      have hlt1 : w.heap.size < wq.heap.size := by rw [← hwq]; exact hlt1
      have y0 : wq.cell? ⟨w.heap.size, 0, none⟩ = some (.int .i64 b.1) := by rw [← hwq]; exact y0
      have y1 : wq.cell? ⟨w.heap.size, 1, none⟩ = some (.int .i64 b.2.c) := by rw [← hwq]; exact y1
      have y2 : wq.cell? ⟨w.heap.size, 2, none⟩ = some (.int .i64 b.2.hi) := by rw [← hwq]; exact y2
      have y3 : wq.cell? ⟨w.heap.size, 3, none⟩ = some (.int .u64 b.2.lo) := by rw [← hwq]; exact y3
      have y4 : wq.cell? ⟨w.heap.size, 4, none⟩ = some (.int .i64 b.2.mn) := by rw [← hwq]; exact y4
      have y5 : wq.cell? ⟨w.heap.size, 5, none⟩ = some (.int .i64 b.2.mx) := by rw [← hwq]; exact y5
      have x0 : wq.cell? ⟨g', k * 6, none⟩ = some (.int .i64 x.1) := by rw [← hwq]; exact x0
      have x1 : wq.cell? ⟨g', k * 6 + 1, none⟩ = some (.int .i64 x.2.c) := by rw [← hwq]; exact x1
      have x2 : wq.cell? ⟨g', k * 6 + 2, none⟩ = some (.int .i64 x.2.hi) := by rw [← hwq]; exact x2
      have x3 : wq.cell? ⟨g', k * 6 + 3, none⟩ = some (.int .u64 x.2.lo) := by rw [← hwq]; exact x3
      have x4 : wq.cell? ⟨g', k * 6 + 4, none⟩ = some (.int .i64 x.2.mn) := by rw [← hwq]; exact x4
      have x5 : wq.cell? ⟨g', k * 6 + 5, none⟩ = some (.int .i64 x.2.mx) := by rw [← hwq]; exact x5
      rw [hwq]
      clear hwq
      go_wp2_with (at_builtin; refine append_keep_law rfl (.tmp 21) (.tmp 23) 266 rfl D 269 i0 _ 6 48 Tryz.underlying266 HI.out HZ0.out HZ1.out HZ2.out rfl (by decide) (.slice (some ⟨g', 0, none⟩) n vc) n _ rfl (HQ.out.alloc _) wq.heap.size 0 1 1 (flat benc [b]) rfl (new_bk wq b _) rfl (flat_ones_bk _) (by unfold maxLen; omega) (by omega) (by simp; have := BQ.out.size; omega) ?_; intro x w2 o1 g1 _ l1; have O1 := Hid.of o1; have G1 := Hid.of g1; have L1 := Hid.of l1; clear o1 g1 l1)
      go_ret
      refine ⟨_, rfl, ?_, grown_ahead2 BQ.out (by rw [← VB.out]; exact grown_ahead2 (World.grownBy_alloc _ _ none) G1.out), ?_⟩
      · unfold BkOwn
        rw [sPush_more BL2.out HX.out HLT.out, List.length_append, BL.out, flat_append]
        exact O1.out
      · rcases L1.out with c | ⟨g, c1, c2⟩
        · exact .inl (by rw [← VB.out]; exact c)
        · exact .inr ⟨g, c1, Nat.le_trans BQ.out.size (Nat.le_trans (by simp) c2)⟩
    · -- the same bucket, or one that does not stand ahead
      have HLT := Hid.of hlt
      have hd : decide (x.1 < b.1) = false := decide_eq_false hlt
      clear hlt
      have hxg : BGood x := HG.out x (List.mem_of_getElem? HX.out)
      have MB := Hid.of (merge_both hxg.1 hxg.2.1 HB.out.1)
      have IX := Hid.of hxg.2.1
      clear hxg
      go_enter Tryz.func266, Tryz.ntmps266
      go_wp2_with fail
      obtain ⟨w1, hw1⟩ : ∃ w1, w.alloc (.cells #[.int .i64 b.1, .int .i64 b.2.c, .int .i64 b.2.hi, .int .u64 b.2.lo, .int .i64 b.2.mn, .int .i64 b.2.mx] 269) = w1 := ⟨_, rfl⟩
      have B1 := Hid.of (show w.grownBy w1 none by rw [← hw1]; exact World.grownBy_alloc w _ none)
      have H1 := Hid.of (show w1.ownsRow D 269 6 (.slice (some ⟨g', 0, none⟩) n vc) n (flat benc bs) from own_kept_none H.out B1.out)
      have hbx : w1.heap[w.heap.size]? = some (.cells #[.int .i64 b.1, .int .i64 b.2.c, .int .i64 b.2.hi, .int .u64 b.2.lo, .int .i64 b.2.mn, .int .i64 b.2.mx] 269 (0, 0)) := by rw [← hw1]; exact (MapKept.heap_alloc w _).1
      have hlt1 : w.heap.size < w1.heap.size := by rw [← hw1]; simp
      have BX1 := Hid.of hbx
      have y0 : w1.cell? ⟨w.heap.size, 0, none⟩ = some (.int .i64 b.1) := by rw [cell_of_row _ _ _ _ _ _ hbx]; rfl
      have y1 : w1.cell? ⟨w.heap.size, 1, none⟩ = some (.int .i64 b.2.c) := by rw [cell_of_row _ _ _ _ _ _ hbx]; rfl
      have y2 : w1.cell? ⟨w.heap.size, 2, none⟩ = some (.int .i64 b.2.hi) := by rw [cell_of_row _ _ _ _ _ _ hbx]; rfl
      have y3 : w1.cell? ⟨w.heap.size, 3, none⟩ = some (.int .u64 b.2.lo) := by rw [cell_of_row _ _ _ _ _ _ hbx]; rfl
      have y4 : w1.cell? ⟨w.heap.size, 4, none⟩ = some (.int .i64 b.2.mn) := by rw [cell_of_row _ _ _ _ _ _ hbx]; rfl
      have y5 : w1.cell? ⟨w.heap.size, 5, none⟩ = some (.int .i64 b.2.mx) := by rw [cell_of_row _ _ _ _ _ _ hbx]; rfl
      have x0 : w1.cell? ⟨g', k * 6, none⟩ = some (.int .i64 x.1) := by rw [World.cell?_of_block (B1.out.block g' HGL.out (by simp))]; exact x0
      have x1 : w1.cell? ⟨g', k * 6 + 1, none⟩ = some (.int .i64 x.2.c) := by rw [World.cell?_of_block (B1.out.block g' HGL.out (by simp))]; exact x1
      have x2 : w1.cell? ⟨g', k * 6 + 2, none⟩ = some (.int .i64 x.2.hi) := by rw [World.cell?_of_block (B1.out.block g' HGL.out (by simp))]; exact x2
      have x3 : w1.cell? ⟨g', k * 6 + 3, none⟩ = some (.int .u64 x.2.lo) := by rw [World.cell?_of_block (B1.out.block g' HGL.out (by simp))]; exact x3
      have x4 : w1.cell? ⟨g', k * 6 + 4, none⟩ = some (.int .i64 x.2.mn) := by rw [World.cell?_of_block (B1.out.block g' HGL.out (by simp))]; exact x4
      have x5 : w1.cell? ⟨g', k * 6 + 5, none⟩ = some (.int .i64 x.2.mx) := by rw [World.cell?_of_block (B1.out.block g' HGL.out (by simp))]; exact x5
      rw [hw1]
      clear hw1 hbx
      go_quiet (fail)
      obtain ⟨wq, hwq⟩ : ∃ wq, w1.drewN nq = wq := ⟨_, rfl⟩
      have BQ := Hid.of (show w.grownBy wq none by rw [← hwq]; exact grown_drewN B1.out nq)
      have HQ := Hid.of (show wq.ownsRow D 269 6 (.slice (some ⟨g', 0, none⟩) n vc) n (flat benc bs) by rw [← hwq]; exact H1.out)
      have hlt1 : w.heap.size < wq.heap.size := by rw [← hwq]; exact hlt1
      have y0 : wq.cell? ⟨w.heap.size, 0, none⟩ = some (.int .i64 b.1) := by rw [← hwq]; exact y0
      have y1 : wq.cell? ⟨w.heap.size, 1, none⟩ = some (.int .i64 b.2.c) := by rw [← hwq]; exact y1
      have y2 : wq.cell? ⟨w.heap.size, 2, none⟩ = some (.int .i64 b.2.hi) := by rw [← hwq]; exact y2
      have y3 : wq.cell? ⟨w.heap.size, 3, none⟩ = some (.int .u64 b.2.lo) := by rw [← hwq]; exact y3
      have y4 : wq.cell? ⟨w.heap.size, 4, none⟩ = some (.int .i64 b.2.mn) := by rw [← hwq]; exact y4
      have y5 : wq.cell? ⟨w.heap.size, 5, none⟩ = some (.int .i64 b.2.mx) := by rw [← hwq]; exact y5
      have x0 : wq.cell? ⟨g', k * 6, none⟩ = some (.int .i64 x.1) := by rw [← hwq]; exact x0
      have x1 : wq.cell? ⟨g', k * 6 + 1, none⟩ = some (.int .i64 x.2.c) := by rw [← hwq]; exact x1
      have x2 : wq.cell? ⟨g', k * 6 + 2, none⟩ = some (.int .i64 x.2.hi) := by rw [← hwq]; exact x2
      have x3 : wq.cell? ⟨g', k * 6 + 3, none⟩ = some (.int .u64 x.2.lo) := by rw [← hwq]; exact x3
      have x4 : wq.cell? ⟨g', k * 6 + 4, none⟩ = some (.int .i64 x.2.mn) := by rw [← hwq]; exact x4
      have x5 : wq.cell? ⟨g', k * 6 + 5, none⟩ = some (.int .i64 x.2.mx) := by rw [← hwq]; exact x5
      rw [hwq]
      clear hwq
      obtain ⟨m, hm⟩ : ∃ m, agBoth x.2 b.2 = m := ⟨_, rfl⟩
      have HM := Hid.of hm
      clear hm
      go_wp2_with fail
      refine wp_region_noPanic ?_
      go_region_with (first | (go_at_call 242; go_loud (refine (merge_two x.2 b.2 IX.out HB.out.2.1 wq.drew 100 #[.int .i64 x.2.c, .int .i64 x.2.hi, .int .u64 x.2.lo, .int .i64 x.2.mn, .int .i64 x.2.mx, .int .i64 b.2.c, .int .i64 b.2.hi, .int .u64 b.2.lo, .int .i64 b.2.mn, .int .i64 b.2.mx] rfl wq.heap.size rfl).mono ?_); rintro e w2 ⟨rfl, b2⟩; rw [MB.out, HM.out]; have G2 := Hid.of (below_grows b2); have H2 := Hid.of (own_kept_none HQ.out G2.out); obtain ⟨xx, m1, m2, m3, m4, m5⟩ := agg_there H2.out BL.out hkn; obtain ⟨f1, f2, f3, f4, f5⟩ := agg_thawed H2.out k; clear b2))
      all_goals
        refine NoPanic.normal ?_
        go_wp2
        go_ret
        obtain ⟨o1, o2⟩ := setCells_own [.int .i64 m.c, .int .i64 m.hi, .int .u64 m.lo, .int .i64 m.mn, .int .i64 m.mx] (k * 6 + 1) H2.out
        rw [setMany_agg bs k x m HX.out] at o1
        refine ⟨_, rfl, ?_, grown_ahead2 BQ.out (by rw [← VB.out]; exact grown_ahead2 G2.out o2), .inl (by rw [← VB.out]; rfl)⟩
        unfold BkOwn
        rw [sPush_join BL2.out HX.out (Int.not_lt.2 HLT.out), List.length_set, BL.out, show bJoin x b = (x.1, m) by rw [← HM.out]; rfl]
        exact o1

end Go.Proofs.YtbhcafginmkaaaaGreat

namespace Go.Proofs.YtbhcafginmkaaaaGreat
open Go.RowKit Go.Lib Go.Sort

/-- A piece of a series: where it lies, and that its room is no less than its length. -/
def BkPiece (w : World) (v : Value) (l : List Bk) : Prop := ∃ a c, v = .slice a l.length c ∧ l.length ≤ c ∧ c ≤ maxLen ∧ CellRow w v l.length (flat benc l)

/-- A variable that holds a bucket. -/
def BkBox (w : World) (p : Nat) (b : Bk) : Prop := w.heap[p]? = some (.cells #[.int .i64 b.1, .int .i64 b.2.c, .int .i64 b.2.hi, .int .u64 b.2.lo, .int .i64 b.2.mn, .int .i64 b.2.mx] 269 (0, 0))

theorem BkBox.kept {w w' : World} {p : Nat} {b : Bk} {row : Option Nat} (h : BkBox w p b) (hg : w.grownBy w' row) (hr : row ≠ some p) : BkBox w' p b := by
  unfold BkBox at *
  rw [hg.block p (Array.getElem?_eq_some_iff.1 h).1 (fun c => hr c.symm)]
  exact h

theorem BkBox.lt {w : World} {p : Nat} {b : Bk} (h : BkBox w p b) : p < w.heap.size := (Array.getElem?_eq_some_iff.1 h).1

theorem BkBox.at {w : World} {p : Nat} {b : Bk} (h : BkBox w p b) : w.cell? ⟨p, 0, none⟩ = some (.int .i64 b.1) ∧ w.cell? ⟨p, 1, none⟩ = some (.int .i64 b.2.c) ∧ w.cell? ⟨p, 2, none⟩ = some (.int .i64 b.2.hi) ∧
    w.cell? ⟨p, 3, none⟩ = some (.int .u64 b.2.lo) ∧ w.cell? ⟨p, 4, none⟩ = some (.int .i64 b.2.mn) ∧ w.cell? ⟨p, 5, none⟩ = some (.int .i64 b.2.mx) := by
  unfold BkBox at h
  exact ⟨by rw [cell_of_row _ _ _ _ _ _ h]; rfl, by rw [cell_of_row _ _ _ _ _ _ h]; rfl, by rw [cell_of_row _ _ _ _ _ _ h]; rfl, by rw [cell_of_row _ _ _ _ _ _ h]; rfl, by rw [cell_of_row _ _ _ _ _ _ h]; rfl, by rw [cell_of_row _ _ _ _ _ _ h]; rfl⟩

theorem BkBox.new (w : World) (b : Bk) : BkBox (w.alloc (.cells #[.int .i64 b.1, .int .i64 b.2.c, .int .i64 b.2.hi, .int .u64 b.2.lo, .int .i64 b.2.mn, .int .i64 b.2.mx] 269)) w.heap.size b := (MapKept.heap_alloc w _).1

/-- A piece from its second element on. -/
theorem piece_tail {w : World} {b o c : Nat} {x : Bk} {l : List Bk} (h : CellRow w (.slice (some ⟨b, o, none⟩) (l.length + 1) c) (l.length + 1) (flat benc (x :: l))) (a' : Option Addr) (n' c' : Nat) (hn : n' = l.length) (ha : l ≠ [] → a' = some ⟨b, o + 6, none⟩) :
    CellRow w (.slice a' n' c') n' (flat benc l) := by
  subst hn
  refine ⟨a', c', rfl, ?_⟩
  cases l with
  | nil => exact .inl rfl
  | cons y l =>
    rw [ha (by simp)]
    obtain ⟨a, c, hv, h⟩ := h
    simp only [Value.slice.injEq] at hv
    obtain ⟨rfl, _, rfl⟩ := hv
    rcases h with h | ⟨b', o', he, hl, hc⟩
    · cases h
    · simp only [Option.some.injEq, Addr.mk.injEq, and_true] at he
      obtain ⟨rfl, rfl⟩ := he
      refine .inr ⟨b, o + 6, rfl, hl, fun j u hj => ?_⟩
      have := hc (6 + j) u (by
        show (benc x ++ flat benc (y :: l))[6 + j]? = _
        rw [List.getElem?_append_right (by rw [benc_len]; omega), benc_len, Nat.add_sub_cancel_left]
        exact hj)
      rw [Nat.add_assoc]
      exact this

theorem sPush_good {l : List Bk} {b : Bk} (h : BAll l) (hb : BGood b) : BAll (sPush l b) ∧ (sPush l b).length ≤ l.length + 1 := by
  unfold sPush
  cases hl : l.getLast? with
  | none => exact ⟨fun x hx => by rw [List.mem_singleton.1 hx]; exact hb, by simp⟩
  | some y =>
    have hy := h y (List.mem_of_getLast? hl)
    show BAll (if y.1 < b.1 then l ++ [b] else l.dropLast ++ [bJoin y b]) ∧ (if y.1 < b.1 then l ++ [b] else l.dropLast ++ [bJoin y b]).length ≤ _
    split
    · exact ⟨h.append (fun x hx => by rw [List.mem_singleton.1 hx]; exact hb), by simp⟩
    · refine ⟨BAll.append (h.sub fun x hx => List.dropLast_subset l hx) (fun x hx => by rw [List.mem_singleton.1 hx]; exact bJoin_good hy hb), ?_⟩
      rw [List.length_append, List.length_dropLast]
      simp

theorem last_take {f : List Bk} {j : Nat} {b : Bk} (hf : f.Pairwise fun x y => x.1 ≤ y.1) (hb : f[j]? = some b) : ∀ c, (f.take j).getLast? = some c → c.1 ≤ b.1 := by
  intro c hc
  have hj := (List.getElem?_eq_some_iff.1 hb).1
  have hm := List.mem_of_getLast? hc
  obtain ⟨i, hi, he⟩ := List.mem_iff_getElem.1 hm
  rw [List.length_take] at hi
  rw [List.getElem_take] at he
  have := List.pairwise_iff_getElem.1 hf i j (by omega) hj (by omega)
  rw [he, (List.getElem?_eq_some_iff.1 hb).2] at this
  exact this

set_option maxHeartbeats 12800000 in
set_option maxRecDepth 20000 in
theorem weave_any (v u : Value) (M f : List Bk) (w : World) (hv : BkPiece w v M) (hu : BkRow w u f) (hr : BRise M) (hM : BAll M) (hF : BAll f) (hs : f.Pairwise fun x y => x.1 ≤ y.1) (hne : f ≠ [])
    (hle : ∀ x ∈ M, ∀ b, f.getLast? = some b → x.1 ≤ b.1) (hn : M.length + f.length ≤ 50000) :
    Calls Tryz.prog 281 #[v, u] w fun e w' => ∃ x, e = .returned x ∧ BkOwn w' w.heap.size x (sAdds M f) ∧ Below w.heap.size w w' := by
  obtain ⟨i0, hi0, hz0, hz1, hz2⟩ := info_parts bk_info
  have HI := Hid.of hi0
  have HZ0 := Hid.of hz0
  have HZ1 := Hid.of hz1
  have HZ2 := Hid.of hz2
  clear hi0 hz0 hz1 hz2
  have HMA := Hid.of hM
  have HFA := Hid.of hF
  have HS := Hid.of hs
  have HLE := Hid.of hle
  have HNE := Hid.of hne
  have HU : Hid (CellRow w u f.length (flat benc f)) := Hid.of hu
  obtain ⟨ua, uc, rfl, -⟩ := hu
  have HV := Hid.of hv
  obtain ⟨va, vc, rfl, -, -, -⟩ := hv
  have W0 := Hid.of (Woven.start hr)
  obtain ⟨F, hfl⟩ : ∃ F, f.length = F := ⟨_, rfl⟩
  have FL := Hid.of hfl
  rw [hfl] at HU hn ⊢
  obtain ⟨ML, hml⟩ : ∃ ML, M.length = ML := ⟨_, rfl⟩
  have HML := Hid.of hml
  rw [hml] at hn ⊢
  clear hM hF hs hle hr hne hfl
  go_enter Tryz.func281, Tryz.ntmps281
  go_wp2
  go_loopg [0, 5, 10] F (fun kx lv wv iv wr => ∃ (j : Nat) (ws l : List Bk), iv = .int .i64 j ∧ j ≤ F ∧ F - j ≤ kx ∧ Hid (BkPiece w lv l) ∧ Hid (BkOwn wr w.heap.size wv ws) ∧ Hid (Woven M (f.take j) ws l) ∧ Hid (ws.length + l.length ≤ ML + j ∧ BAll ws ∧ BAll l) ∧ Hid (Below w.heap.size w wr))
  case atStart => exact ⟨0, [], M, rfl, Nat.zero_le _, by omega, Hid.of (hml ▸ HV.out), Hid.of (World.ownsRow_nil _ _ _ _), W0, Hid.of ⟨by simp [hml], BAll.nil, HMA.out⟩, Hid.of (Below.refl _ _)⟩
  case round =>
    clear hml
    obtain ⟨j, ws, l, rfl, hjF, hkx, HL, HW, WO, SZ, HB⟩ := hrel
    by_cases hlt : (j : Int) < (F : Int)
    · obtain ⟨b, hb⟩ : ∃ b, f[j]? = some b := ⟨_, List.getElem?_eq_getElem (by have := FL.out; omega)⟩
      have HBJ := Hid.of hb
      have GB := Hid.of (HFA.out b (List.mem_of_getElem? hb))
      obtain ⟨fb, fo, rfl, hfb, c0, c1, c2, c3, c4, c5⟩ := bk_at (HU.out.kept HB.out) j b hb
      have hj0 : (0 : Int) ≤ (j : Int) := by omega
      clear hb
      obtain ⟨la, lc, rfl, hlc, hlm, hlrow⟩ := HL.out
      obtain ⟨wa, wc, rfl, -⟩ := own_one HW.out
      go_wp2_with fail
      obtain ⟨p, hp⟩ : ∃ p, wr.heap.size = p := ⟨_, rfl⟩
      obtain ⟨w1, hw1⟩ : ∃ w1, wr.alloc (.cells #[.int .i64 b.1, .int .i64 b.2.c, .int .i64 b.2.hi, .int .u64 b.2.lo, .int .i64 b.2.mn, .int .i64 b.2.mx] 269) = w1 := ⟨_, rfl⟩
      have BX := Hid.of (show BkBox w1 p b by rw [← hw1, ← hp]; exact BkBox.new wr b)
      have HW1 := Hid.of (show BkOwn w1 w.heap.size (.slice wa ws.length wc) ws by rw [← hw1]; exact World.ownsRow.alloc HW.out _)
      have HB1 := Hid.of (show Below w.heap.size w w1 by rw [← hw1]; exact HB.out.alloc HB.out.size _)
      have HPN : Hid ((Value.slice wa ws.length wc).ownBlock ≠ some p) := Hid.of (fun c => by have := (World.ownsRow.lt HW.out p c).2; omega)
      have HPW : Hid (w.heap.size ≤ p) := Hid.of (by rw [← hp]; exact HB.out.size)
      rw [hw1, hp]
      clear hw1 hp HW HB c0 c1 c2 c3 c4 c5 hlrow hlm hlc
      obtain ⟨lv0, hlv0⟩ : ∃ x, Value.slice la l.length lc = x := ⟨_, rfl⟩
      obtain ⟨wv0, hwv0⟩ : ∃ x, Value.slice wa ws.length wc = x := ⟨_, rfl⟩
      rw [hlv0] at HL ⊢
      rw [hwv0] at HW1 HPN ⊢
      clear hlv0 hwv0
      go_loopg [0, 5] l.length (fun ky lv xv w2 => ∃ (wv : Value) (m l' : List Bk), wv = xv ∧ Hid (l = m ++ l') ∧ l'.length ≤ ky ∧ Hid (∀ x ∈ m, x.1 ≤ b.1) ∧ Hid (BkPiece w lv l') ∧ Hid (BkOwn w2 w.heap.size wv (ws ++ m)) ∧ Hid (BkBox w2 p b) ∧ Hid (wv.ownBlock ≠ some p) ∧ Hid (Below w.heap.size w w2))
      case atStart => exact ⟨wv0, [], l, rfl, Hid.of rfl, Nat.le_refl _, Hid.of (fun x hx => absurd hx List.not_mem_nil), HL, Hid.of (by rw [List.append_nil]; exact HW1.out), BX, HPN, HB1⟩
      case round =>
        clear HL HW1 BX HPN HB1
        obtain ⟨wv, m, l', rfl, HLM, hky, HMB, HL2, HW2, BX2, HPN2, HB2⟩ := hrel
        obtain ⟨y0, y1, y2, y3, y4, y5⟩ := BX2.out.at
        obtain ⟨la, lc, rfl, hlc, hlm, hlrow⟩ := HL2.out
        cases l' with
        | nil =>
          have HGT : Hid (∀ x ∈ ([] : List Bk), b.1 < x.1) := Hid.of (fun x hx => absurd hx List.not_mem_nil)
          have HL3 := HL2
          clear HL2 hlrow hlc hlm
          go_wp2_with fail
          go_quiet (fail)
          obtain ⟨w3, hw3⟩ : ∃ w3, wr.drewN nq = w3 := ⟨_, rfl⟩
          have HW3 : Hid (BkOwn w3 w.heap.size wv (ws ++ m)) := Hid.of (by rw [← hw3]; exact HW2.out)
          have BX3 : Hid (BkBox w3 p b) := Hid.of (by rw [← hw3]; exact BX2.out)
          have HB3 : Hid (Below w.heap.size w w3) := Hid.of (by rw [← hw3]; exact below_drewN HB2.out _)
          rw [hw3]
          clear hw3 HW2 BX2 HB2 y0 y1 y2 y3 y4 y5
          have BX2 := BX3
          obtain ⟨y0, y1, y2, y3, y4, y5⟩ := BX2.out.at
          have hpush := push_any (D := w.heap.size) (ws ++ m) b w3 HW3.out (by
            obtain ⟨_, s2, s3⟩ := SZ.out
            refine s2.append (s3.sub fun x hx => ?_)
            rw [HLM.out]; exact List.mem_append_left _ hx) GB.out (by
            have s1 := SZ.out.1
            have := congrArg List.length HLM.out
            rw [List.length_append] at this ⊢
            omega) (HB3.out.size)
          go_wp2_with (go_at_call 266; refine hpush.mono ?_; rintro e w4 ⟨x, rfl, o4, g4, _⟩; have O4 := Hid.of o4; have G4 := Hid.of g4; clear o4 g4)
          go_roundg (F - (j + 1))
          case measure => omega
          case rel =>
            have hw := (show Woven M (f.take j) ws (m ++ ([])) from HLM.out ▸ WO.out).next (b := b) HMB.out HGT.out (last_take HS.out HBJ.out)
            rw [show f.take j ++ [b] = f.take (j + 1) by rw [List.take_succ_eq_append_getElem (by have := FL.out; omega), (List.getElem?_eq_some_iff.1 HBJ.out).2]] at hw
            obtain ⟨s1, s2, s3⟩ := SZ.out
            have hlm := HLM.out
            have hg : BAll (sPush (ws ++ m) b) ∧ (sPush (ws ++ m) b).length ≤ (ws ++ m).length + 1 := sPush_good (s2.append (s3.sub fun x hx => by rw [hlm]; exact List.mem_append_left _ hx)) GB.out
            exact ⟨j + 1, sPush (ws ++ m) b, ([]), by go_num, by omega, Nat.le_refl _, HL3, O4, Hid.of hw, Hid.of ⟨by
              have := congrArg List.length hlm
              have h2 := hg.2
              rw [List.length_append] at this h2
              omega, hg.1, s3.sub fun x hx => by rw [hlm]; exact List.mem_append_right _ hx⟩, Hid.of (HB3.out.grown G4.out HB3.out.size (fun k hk => own_ge HW3.out hk))⟩
        | cons y l' =>
          obtain ⟨yb, yo, rfl, hyl, x0, x1, x2, x3, x4, x5⟩ := bk_at (hlrow.kept HB2.out) 0 y rfl
          simp only [Nat.zero_mul, Nat.add_zero] at x0 x1 x2 x3 x4 x5
          obtain ⟨ll, hll⟩ : ∃ n, (y :: l').length = n := ⟨_, rfl⟩
          rw [hll] at HL2 hlrow hlc ⊢
          have LL := Hid.of hll
          have hl0 : 0 < ll := by rw [← hll]; simp
          have hl1 : (0 : Int) < (ll : Int) := by omega
          have hl2 : 1 ≤ ll := hl0
          have hlm2 : lc ≤ 9223372036854775807 := by unfold maxLen at hlm; omega
          have HROW := Hid.of hlrow
          have HLC := Hid.of hlc
          have HLMX := Hid.of hlm
          clear hll hyl hlrow hlm
          by_cases hle : y.1 ≤ b.1
          · -- it goes over
            have HLE2 := Hid.of hle
            have hd : decide (y.1 ≤ b.1) = true := decide_eq_true hle
            clear hle
            go_wp2_with fail
            go_quiet (fail)
            obtain ⟨w3, hw3⟩ : ∃ w3, wr.drewN nq = w3 := ⟨_, rfl⟩
            have HW3 : Hid (BkOwn w3 w.heap.size wv (ws ++ m)) := Hid.of (by rw [← hw3]; exact HW2.out)
            have BX3 : Hid (BkBox w3 p b) := Hid.of (by rw [← hw3]; exact BX2.out)
            have HB3 : Hid (Below w.heap.size w w3) := Hid.of (by rw [← hw3]; exact below_drewN HB2.out _)
            rw [hw3]
            have x0 : w3.cell? ⟨yb, yo, none⟩ = some (.int .i64 y.1) := by rw [← hw3]; exact x0
            have x1 : w3.cell? ⟨yb, yo + 1, none⟩ = some (.int .i64 y.2.c) := by rw [← hw3]; exact x1
            have x2 : w3.cell? ⟨yb, yo + 2, none⟩ = some (.int .i64 y.2.hi) := by rw [← hw3]; exact x2
            have x3 : w3.cell? ⟨yb, yo + 3, none⟩ = some (.int .u64 y.2.lo) := by rw [← hw3]; exact x3
            have x4 : w3.cell? ⟨yb, yo + 4, none⟩ = some (.int .i64 y.2.mn) := by rw [← hw3]; exact x4
            have x5 : w3.cell? ⟨yb, yo + 5, none⟩ = some (.int .i64 y.2.mx) := by rw [← hw3]; exact x5
            clear hw3 HW2 BX2 HB2 y0 y1 y2 y3 y4 y5
            have hlen : (ws ++ m).length + 1 ≤ 100000 := by
              obtain ⟨s1, _, _⟩ := SZ.out
              have := congrArg List.length HLM.out
              rw [List.length_append, List.length_cons] at this
              rw [List.length_append]
              omega
            have HLEN := Hid.of hlen
            clear hlen
            go_wp2_with (at_builtin; refine append_keep_law rfl (.tmp 26) (.tmp 30) 266 rfl w.heap.size 269 i0 _ 6 48 Tryz.underlying266 HI.out HZ0.out HZ1.out HZ2.out rfl (by decide) wv (ws ++ m).length _ rfl (World.ownsRow.alloc (show w3.ownsRow w.heap.size 269 6 wv (ws ++ m).length (flat benc (ws ++ m)) from HW3.out) _) w3.heap.size 0 1 1 (flat benc [y]) rfl (new_bk w3 y _) rfl (flat_ones_bk _) (by unfold maxLen; have := HLEN.out; omega) (by have := HLEN.out; omega) (by simp; have := HB3.out.size; omega) ?_; intro x w4 o1 g1 _ l1; have O1 := Hid.of o1; have G1 := Hid.of g1; have L1 := Hid.of l1; clear o1 g1 l1)
            all_goals
              go_roundg l'.length
              case measure => simp at hky; omega
              case rel =>
                have hg3 : w3.grownBy w4 wv.ownBlock := grown_ahead2 (World.grownBy_alloc _ _ none) G1.out
                refine ⟨x, m ++ [y], l', rfl, Hid.of (by rw [List.append_assoc]; exact HLM.out), Nat.le_refl _, Hid.of (fun z hz => ?_), Hid.of ⟨_, _, by first | rfl | (congr 1; have := LL.out; simp at this; omega), ?_, ?_, ?_⟩, Hid.of ?_, Hid.of (BX3.out.kept hg3 HPN2.out), Hid.of ?_, Hid.of (HB3.out.grown hg3 HB3.out.size (fun k hk => own_ge HW3.out hk))⟩
                · rcases List.mem_append.1 hz with hz | hz
                  · exact HMB.out z hz
                  · rw [List.mem_singleton.1 hz]; exact HLE2.out
                · have h1 : l'.length + 1 = ll := LL.out
                  have h2 := HLC.out
                  omega
                · have := HLMX.out; unfold maxLen at *; omega
                · have h1 : l'.length + 1 = ll := LL.out
                  have h2 := HLC.out
                  have hr := HROW.out
                  rw [← h1] at hr
                  rw [show ll - 1 = l'.length by omega]
                  refine piece_tail hr _ _ _ rfl (fun hne => ?_)
                  first | rfl | (have := List.length_pos_iff.2 hne; omega)
                · unfold BkOwn
                  rw [← List.append_assoc, List.length_append, flat_append]
                  exact O1.out
                · intro c
                  rcases L1.out with k | ⟨g, k1, k2⟩
                  · exact HPN2.out (k.symm.trans c)
                  · rw [k1] at c
                    have := BX3.out.lt
                    simp at k2
                    have := Option.some.inj c
                    omega
          · -- it stays
            have hyb : b.1 < y.1 := by omega
            have hd : decide (y.1 ≤ b.1) = false := decide_eq_false hle
            have HGT : Hid (∀ x ∈ y :: l', b.1 < x.1) := Hid.of (fun z hz => by
              rcases List.mem_cons.1 hz with rfl | hz
              · exact hyb
              · have h1 := WO.out.rise
                rw [HLM.out] at h1
                have h2 := (rise_parts (rise_parts h1).2.1).2.1
                have h3 := (List.pairwise_cons.1 h2).1 z hz
                omega)
            have HL3 := HL2
            clear hle hyb
            go_wp2_with fail
            go_quiet (fail)
            obtain ⟨w3, hw3⟩ : ∃ w3, wr.drewN nq = w3 := ⟨_, rfl⟩
            have HW3 : Hid (BkOwn w3 w.heap.size wv (ws ++ m)) := Hid.of (by rw [← hw3]; exact HW2.out)
            have BX3 : Hid (BkBox w3 p b) := Hid.of (by rw [← hw3]; exact BX2.out)
            have HB3 : Hid (Below w.heap.size w w3) := Hid.of (by rw [← hw3]; exact below_drewN HB2.out _)
            rw [hw3]
            clear hw3 HW2 BX2 HB2 y0 y1 y2 y3 y4 y5 x0 x1 x2 x3 x4 x5
            have BX2 := BX3
            obtain ⟨y0, y1, y2, y3, y4, y5⟩ := BX2.out.at
            have hpush := push_any (D := w.heap.size) (ws ++ m) b w3 HW3.out (by
              obtain ⟨_, s2, s3⟩ := SZ.out
              refine s2.append (s3.sub fun x hx => ?_)
              rw [HLM.out]; exact List.mem_append_left _ hx) GB.out (by
              have s1 := SZ.out.1
              have := congrArg List.length HLM.out
              rw [List.length_append] at this ⊢
              omega) (HB3.out.size)
            go_wp2_with (go_at_call 266; refine hpush.mono ?_; rintro e w4 ⟨x, rfl, o4, g4, _⟩; have O4 := Hid.of o4; have G4 := Hid.of g4; clear o4 g4)
            go_roundg (F - (j + 1))
            case measure => omega
            case rel =>
              have hw := (show Woven M (f.take j) ws (m ++ ((y :: l'))) from HLM.out ▸ WO.out).next (b := b) HMB.out HGT.out (last_take HS.out HBJ.out)
              rw [show f.take j ++ [b] = f.take (j + 1) by rw [List.take_succ_eq_append_getElem (by have := FL.out; omega), (List.getElem?_eq_some_iff.1 HBJ.out).2]] at hw
              obtain ⟨s1, s2, s3⟩ := SZ.out
              have hlm := HLM.out
              have hg : BAll (sPush (ws ++ m) b) ∧ (sPush (ws ++ m) b).length ≤ (ws ++ m).length + 1 := sPush_good (s2.append (s3.sub fun x hx => by rw [hlm]; exact List.mem_append_left _ hx)) GB.out
              exact ⟨j + 1, sPush (ws ++ m) b, ((y :: l')), by go_num, by omega, Nat.le_refl _, HL3, O4, Hid.of hw, Hid.of ⟨by
                have := congrArg List.length hlm
                have h2 := hg.2
                rw [List.length_append] at this h2
                omega, hg.1, s3.sub fun x hx => by rw [hlm]; exact List.mem_append_right _ hx⟩, Hid.of (HB3.out.grown G4.out HB3.out.size (fun k hk => own_ge HW3.out hk))⟩
    · -- all are woven in
      obtain rfl : j = F := by omega
      go_wp2
      go_ret
      refine ⟨_, rfl, ?_, HB.out⟩
      have hft : f.take j = f := List.take_of_length_le (by rw [FL.out]; exact Nat.le_refl _)
      have hw := WO.out
      rw [hft] at hw
      rw [← hw.over HNE.out HLE.out (fun x hx b hb => by
        obtain ⟨i, hi, rfl⟩ := List.mem_iff_getElem.1 hx
        have hl := List.getLast?_eq_getElem? (l := f)
        rw [hb] at hl
        obtain ⟨h1, h2⟩ := List.getElem?_eq_some_iff.1 hl.symm
        rcases Nat.lt_or_eq_of_le (show i ≤ f.length - 1 by omega) with c | c
        · rw [← h2]
          exact List.pairwise_iff_getElem.1 HS.out i (f.length - 1) hi h1 c
        · subst c
          rw [h2]
          exact Int.le_refl _)]
      exact HW.out

end Go.Proofs.YtbhcafginmkaaaaGreat

namespace Go.Proofs.YtbhcafginmkaaaaGreat
open Go.RowKit Go.Lib Go.Sort

/-- Blocks that F knows may have turned, and there are new ones; nothing else. -/
structure Touch (F : Nat → Prop) (w w' : World) : Prop where
  os : w'.os = w.os
  tape : w'.tape = w.tape
  output : w'.output = w.output
  size : w.heap.size ≤ w'.heap.size
  block : ∀ k, k < w.heap.size → ¬ F k → w'.heap[k]? = w.heap[k]?

theorem Touch.refl (F : Nat → Prop) (w : World) : Touch F w w := ⟨rfl, rfl, rfl, Nat.le_refl _, fun _ _ _ => rfl⟩
theorem Touch.trans {F : Nat → Prop} {a b c : World} (h : Touch F a b) (k : Touch F b c) : Touch F a c :=
  ⟨k.os.trans h.os, k.tape.trans h.tape, k.output.trans h.output, Nat.le_trans h.size k.size, fun i hi hf => (k.block i (Nat.lt_of_lt_of_le hi h.size) hf).trans (h.block i hi hf)⟩
theorem Touch.mono {F G : Nat → Prop} {a b : World} (h : Touch F a b) (k : ∀ i, i < a.heap.size → F i → G i) : Touch G a b := ⟨h.os, h.tape, h.output, h.size, fun i hi hf => h.block i hi (fun c => hf (k i hi c))⟩
theorem Touch.below {F : Nat → Prop} {w w' : World} (h : Below w.heap.size w w') : Touch F w w' := ⟨h.os, h.tape, h.output, h.size, fun k hk _ => h.block k hk⟩
theorem Touch.grown {F : Nat → Prop} {w w' : World} {row : Option Nat} (h : w.grownBy w' row) (k : ∀ i, i < w.heap.size → row = some i → F i) : Touch F w w' := ⟨h.os, h.tape, h.output, h.size, fun i hi hf => h.block i hi (fun c => hf (k i hi c.symm))⟩
theorem Touch.row {F : Nat → Prop} {w w' : World} {v : Value} {n : Nat} {xs : List Value} (st : Touch F w w') (h : CellRow w v n xs) (ho : ∀ g, v.ownBlock = some g → ¬ F g) : CellRow w' v n xs := by
  obtain ⟨a, c, rfl, h⟩ := h
  refine ⟨a, c, rfl, ?_⟩
  rcases h with h | ⟨b, o, rfl, hl, hc⟩
  · exact .inl h
  · refine .inr ⟨b, o, rfl, Nat.lt_of_lt_of_le hl st.size, fun j u hj => ?_⟩
    rw [World.cell?_of_block (st.block b hl (ho b rfl))]
    exact hc j u hj
theorem Touch.own {F : Nat → Prop} {w w' : World} {B : Nat} {e : TypeId} {sz : Nat} {v : Value} {n : Nat} {xs : List Value} (st : Touch F w w') (h : w.ownsRow B e sz v n xs) (ho : ∀ g, v.ownBlock = some g → ¬ F g) : w'.ownsRow B e sz v n xs := by
  refine ⟨h.1, ?_⟩
  rcases h.2 with h0 | ⟨g, cap, cur, rfl, hB, hrow, rest⟩
  · exact .inl h0
  · exact .inr ⟨g, cap, cur, rfl, hB, by rw [st.block g (Array.getElem?_eq_some_iff.1 hrow).1 (ho g rfl)]; exact hrow, rest⟩

theorem sAt_mono {l : List Bk} (hr : BRise l) {s t : Int} (h : s ≤ t) : sAt l s ≤ sAt l t := by
  rcases Nat.lt_or_ge (sAt l t) (sAt l s) with c | c
  · exfalso
    have hl : sAt l t < l.length := Nat.lt_of_lt_of_le c (sAt_le l s)
    have h1 := (sAt_cut hr s).1 _ _ (List.getElem?_eq_getElem hl) c
    have h2 := (sAt_cut hr t).2 _ _ (List.getElem?_eq_getElem hl) (Nat.le_refl _)
    omega
  · exact c

/-- Where what stands behind a time begins. -/
def sEnd (l : List Bk) (s : Int) : Nat := if sHas l s = true then sAt l s + 1 else sAt l s

theorem sEnd_le {l : List Bk} (hr : BRise l) (s : Int) : sEnd l s ≤ l.length := by
  unfold sEnd
  split
  · rename_i h
    obtain ⟨x, hx, _⟩ := (sHas_at hr s).1 h
    exact (List.getElem?_eq_some_iff.1 hx).1
  · exact sAt_le l s
theorem sAt_sEnd (l : List Bk) (s : Int) : sAt l s ≤ sEnd l s := by unfold sEnd; split <;> omega

theorem sEnd_cut {l : List Bk} (hr : BRise l) (s : Int) : (∀ j x, l[j]? = some x → j < sEnd l s → x.1 ≤ s) ∧ (∀ j x, l[j]? = some x → sEnd l s ≤ j → s < x.1) := by
  obtain ⟨c1, c2⟩ := sAt_cut hr s
  unfold sEnd
  split
  · rename_i h
    obtain ⟨y, hy, hys⟩ := (sHas_at hr s).1 h
    refine ⟨fun j x hx hj => ?_, fun j x hx hj => ?_⟩
    · rcases Nat.lt_or_eq_of_le (Nat.le_of_lt_succ hj) with k | rfl
      · have := c1 j x hx k; omega
      · rw [hy] at hx
        rw [← Option.some.inj hx]
        omega
    · obtain ⟨h1, h2⟩ := List.getElem?_eq_some_iff.1 hx
      obtain ⟨h3, h4⟩ := List.getElem?_eq_some_iff.1 hy
      have := List.pairwise_iff_getElem.1 hr (sAt l s) j h3 h1 (by omega)
      rw [h2, h4] at this
      omega
  · rename_i h
    refine ⟨fun j x hx hj => by have := c1 j x hx hj; omega, fun j x hx hj => ?_⟩
    have k1 := c2 j x hx hj
    have k2 : x.1 ≠ s := fun c => h (by
      unfold sHas
      exact List.any_eq_true.2 ⟨x, List.mem_of_getElem? hx, decide_eq_true c⟩)
    omega

theorem sIns_len (l : List Bk) (b : Bk) : l.length ≤ (sIns l b).length ∧ 0 < (sIns l b).length ∧ (sIns l b).length ≤ l.length + 1 := by
  induction l with
  | nil => exact ⟨by simp [sIns], by simp [sIns], by simp [sIns]⟩
  | cons x l ih =>
    unfold sIns
    split
    · simp only [List.length_cons]; omega
    · split <;> simp

theorem sAdds_len (l f : List Bk) : l.length ≤ (sAdds l f).length ∧ (sAdds l f).length ≤ l.length + f.length ∧ (f ≠ [] → 0 < (sAdds l f).length) := by
  induction f generalizing l with
  | nil => exact ⟨Nat.le_refl _, by simp [sAdds], fun h => absurd rfl h⟩
  | cons b f ih =>
    obtain ⟨h1, h2, _⟩ := ih (sIns l b)
    obtain ⟨k1, k2, k3⟩ := sIns_len l b
    have e : sAdds l (b :: f) = sAdds (sIns l b) f := rfl
    rw [e, List.length_cons]
    exact ⟨by omega, by omega, fun _ => by omega⟩

/-- What stands between, with the others woven in, in its place. -/
theorem add_parts {l cs : List Bk} {c0 cl : Bk} (hr : BRise l) (hs : cs.Pairwise fun x y => x.1 ≤ y.1) (h0 : cs[0]? = some c0) (hl : cs[cs.length - 1]? = some cl) :
    sAt l c0.1 ≤ sEnd l cl.1 ∧ (∀ x ∈ (l.take (sEnd l cl.1)).drop (sAt l c0.1), x.1 ≤ cl.1) ∧ l.take (sAt l c0.1) ++ (sAdds ((l.take (sEnd l cl.1)).drop (sAt l c0.1)) cs ++ l.drop (sEnd l cl.1)) = sAdds l cs := by
  obtain ⟨p0, q0⟩ := List.getElem?_eq_some_iff.1 h0
  obtain ⟨p1, q1⟩ := List.getElem?_eq_some_iff.1 hl
  have hc : ∀ b ∈ cs, c0.1 ≤ b.1 ∧ b.1 ≤ cl.1 := fun b hb => by
    obtain ⟨i, hi, rfl⟩ := List.mem_iff_getElem.1 hb
    constructor
    · rcases Nat.eq_zero_or_pos i with rfl | k
      · rw [q0]; exact Int.le_refl _
      · rw [← q0]; exact List.pairwise_iff_getElem.1 hs 0 i p0 hi k
    · rcases Nat.lt_or_eq_of_le (show i ≤ cs.length - 1 by omega) with k | k
      · rw [← q1]; exact List.pairwise_iff_getElem.1 hs i (cs.length - 1) hi p1 k
      · subst k; rw [q1]; exact Int.le_refl _
  have h01 : c0.1 ≤ cl.1 := (hc c0 (List.mem_of_getElem? h0)).2
  have hle : sAt l c0.1 ≤ sEnd l cl.1 := Nat.le_trans (sAt_mono hr h01) (sAt_sEnd l cl.1)
  refine ⟨hle, fun x hx => ?_, ?_⟩
  · obtain ⟨i, hi⟩ := List.getElem?_of_mem hx
    rw [List.getElem?_drop, List.getElem?_take] at hi
    split at hi
    · exact (sEnd_cut hr cl.1).1 _ x hi ‹_›
    · cases hi
  · rw [← sAdds_mid (fun x hx b hb => ?_) (fun x hx b hb => ?_)]
    · congr 1
      rw [← List.append_assoc]
      have e : l.take (sAt l c0.1) = (l.take (sEnd l cl.1)).take (sAt l c0.1) := by rw [List.take_take, Nat.min_eq_left hle]
      rw [e, List.take_append_drop, List.take_append_drop]
    · obtain ⟨i, hi⟩ := List.getElem?_of_mem hx
      rw [List.getElem?_take] at hi
      split at hi
      · have := (sAt_cut hr c0.1).1 _ x hi ‹_›
        have := (hc b hb).1
        omega
      · cases hi
    · obtain ⟨i, hi⟩ := List.getElem?_of_mem hx
      rw [List.getElem?_drop] at hi
      have := (sEnd_cut hr cl.1).2 _ x hi (by omega)
      have := (hc b hb).2
      omega

theorem piece_of {w : World} {D : Nat} {g n cap : Nat} {bs : List Bk} (h : w.ownsRow D 269 6 (.slice (some ⟨g, 0, none⟩) n cap) n (flat benc bs)) (hl : bs.length = n) (a e : Nat) (hae : a ≤ e) (hen : e ≤ n) (a' : Option Addr) (ha : a < cap → a' = some ⟨g, a * 6, none⟩) :
    BkPiece w (.slice a' (e - a) (cap - a)) ((bs.take e).drop a) := by
  obtain ⟨cur, hr, hcap, hmax, hcs, ht, hD⟩ := own_block h
  have hlen : ((bs.take e).drop a).length = e - a := by rw [List.length_drop, List.length_take]; omega
  refine ⟨a', cap - a, by rw [hlen], by rw [hlen]; omega, by omega, ?_⟩
  rw [hlen]
  refine ⟨a', cap - a, rfl, ?_⟩
  rcases Nat.lt_or_ge a cap with c | c
  · refine .inr ⟨g, a * 6, ha c, (Array.getElem?_eq_some_iff.1 hr).1, ?_⟩
    have hp := own_prefix h hl e hen
    have := own_cellsAt hp (by rw [List.length_take]; omega) a hae
    exact this
  · left
    have : (bs.take e).drop a = [] := List.drop_eq_nil_of_le (by rw [List.length_take]; omega)
    rw [this]
    rfl

end Go.Proofs.YtbhcafginmkaaaaGreat

namespace Go.Proofs.YtbhcafginmkaaaaGreat
open Go.RowKit Go.Lib Go.Sort

theorem own_kept_below {w w' : World} {D : Nat} {e : TypeId} {sz : Nat} {v : Value} {n : Nat} {xs : List Value} (h : w.ownsRow D e sz v n xs) (b : Below w.heap.size w w') : w'.ownsRow D e sz v n xs :=
  own_kept_none h ⟨b.os, b.tape, b.output, b.size, fun i hi _ => b.block i hi⟩

set_option maxHeartbeats 6400000 in
set_option maxRecDepth 20000 in
theorem add_any {D Du : Nat} {v u : Value} (bs f : List Bk) (w : World) (h : BkOwn w D v bs) (hu : BkOwn w Du u f) (hoff : ∀ g, u.ownBlock = some g → v.ownBlock ≠ some g) (hr : BRise bs) (hg : BAll bs) (hf : BAll f) (hne : f ≠ [])
    (hn : bs.length + f.length ≤ 5000) (hD : D ≤ w.heap.size) :
    Calls Tryz.prog 250 #[v, u] w fun e w' => ∃ x, e = .returned x ∧ BkOwn w' D x (sAdds bs f) ∧ Touch (fun k => v.ownBlock = some k ∨ u.ownBlock = some k) w w' ∧ OldOrNew w v x := by
  have H : Hid (w.ownsRow D 269 6 v bs.length (flat benc bs)) := Hid.of h
  have HU : Hid (w.ownsRow Du 269 6 u f.length (flat benc f)) := Hid.of hu
  have HOFF := Hid.of hoff
  have HR := Hid.of hr
  have HG := Hid.of hg
  have HF := Hid.of hf
  have HNE := Hid.of hne
  have HN := Hid.of hn
  have HD := Hid.of hD
  clear hu hoff hr hg hf hne hn hD
  obtain ⟨ua, uc, rfl, -⟩ := own_one HU.out
  obtain ⟨va, vc, rfl, -⟩ := own_one h
  obtain ⟨n, hbl⟩ : ∃ n, bs.length = n := ⟨_, rfl⟩
  obtain ⟨m, hfl⟩ : ∃ m, f.length = m := ⟨_, rfl⟩
  have BL := Hid.of hbl
  have FL := Hid.of hfl
  have hm0 : 0 < m := by rw [← hfl]; exact List.length_pos_iff.2 HNE.out
  have hm1 : (0 : Int) < (m : Int) := by omega
  rw [hbl, hfl] at HN
  have hcap : n ≤ vc ∧ vc ≤ maxLen := by
    rcases h.2 with ⟨h0, h1⟩ | ⟨g, cap, cur, h0, _, _, h1, h2, _⟩
    · simp only [Value.slice.injEq] at h0
      exact ⟨by omega, by unfold maxLen; omega⟩
    · simp only [Value.slice.injEq] at h0
      exact ⟨by omega, by omega⟩
  have HCAP := Hid.of hcap
  clear hcap
  have hsort := sortOwn_any f w HU.out HNE.out (by have := HN.out; omega)
  rw [hfl] at hsort HU HOFF ⊢
  rw [hbl] at H HOFF ⊢
  clear h hbl hfl
  go_enter Tryz.func250, Tryz.ntmps250
  go_wp2_with fail
  refine hsort.mono ?_
  rintro e w1 ⟨rfl, cs, hp, hs, o1, g1⟩
  have hcl : cs.length = m := by rw [hp.length_eq, FL.out]
  have CL := Hid.of hcl
  have PM := Hid.of hp
  have CS := Hid.of hs
  have O1 : Hid (w1.ownsRow Du 269 6 (.slice ua m uc) m (flat benc cs)) := Hid.of (by unfold BkOwn at o1; rw [hcl] at o1; exact o1)
  have G1 := Hid.of g1
  have H1 : Hid (w1.ownsRow D 269 6 (.slice va n vc) n (flat benc bs)) := Hid.of (H.out.kept g1 (by
    cases hh : (Value.slice va n vc).ownBlock with
    | none => exact .inl rfl
    | some g => exact .inr (fun c => HOFF.out g c.symm hh)))
  have R1 : Hid (BkRow w1 (.slice va n vc) bs) := Hid.of (BkOwn.row (by unfold BkOwn; rw [BL.out]; exact H1.out))
  have U1 : Hid (CellRow w1 (.slice ua m uc) m (flat benc cs)) := Hid.of (by
    have := BkOwn.row (w := w1) (D := Du) (v := .slice ua m uc) (bs := cs) (by unfold BkOwn; rw [hcl]; exact O1.out)
    unfold BkRow at this
    rw [hcl] at this
    exact this)
  obtain ⟨c0, h0⟩ : ∃ c0, cs[0]? = some c0 := ⟨_, List.getElem?_eq_getElem (by omega)⟩
  obtain ⟨cl, hl⟩ : ∃ cl, cs[m - 1]? = some cl := ⟨_, List.getElem?_eq_getElem (by omega)⟩
  have PARTS := Hid.of (add_parts HR.out hs h0 (by rw [hcl]; exact hl))
  have EL := Hid.of (sEnd_le HR.out cl.1)
  obtain ⟨ub, uo, rfl, hub, z0, -, -, -, -, -⟩ := bk_at U1.out 0 c0 h0
  simp only [Nat.zero_mul, Nat.add_zero] at z0
  have UBL := Hid.of hub
  have hpl := place_any (.slice va n vc) bs c0.1 w1 R1.out HR.out (by rw [BL.out]; have := HN.out; omega)
  obtain ⟨A, hA⟩ : ∃ A, sAt bs c0.1 = A := ⟨_, rfl⟩
  obtain ⟨F0, hF0⟩ : ∃ A, sHas bs c0.1 = A := ⟨_, rfl⟩
  rw [hA, hF0] at hpl
  rw [hA] at PARTS
  have C0 := Hid.of h0
  have CLL := Hid.of hl
  clear hp hs o1 g1 hcl h0 hl hub hA hF0
  go_wp2_with fail
  refine hpl.mono ?_
  rintro e w2 ⟨rfl, b2⟩
  have B2 := Hid.of b2
  obtain ⟨ub', uo', hue, -, z1, -, -, -, -, -⟩ := bk_at (U1.out.kept b2) (m - 1) cl CLL.out
  simp only [Option.some.injEq, Addr.mk.injEq, and_true] at hue
  obtain ⟨rfl, rfl⟩ := hue
  have hpl2 := place_any (.slice va n vc) bs cl.1 w2 (R1.out.kept b2) HR.out (by rw [BL.out]; have := HN.out; omega)
  obtain ⟨m1, hm1e⟩ : ∃ m1 : Nat, (m : Int) - 1 = (m1 : Int) := ⟨m - 1, by omega⟩
  rw [show m - 1 = m1 by omega] at z1
  have hm1c : (m1 : Int) ≤ 5000 := by have := HN.out; omega
  have hm1a : (0 : Int) ≤ (m1 : Int) := by omega
  have hm1b : (m1 : Int) < (m : Int) := by omega
  unfold sEnd at PARTS EL
  obtain ⟨L, hL⟩ : ∃ A, sAt bs cl.1 = A := ⟨_, rfl⟩
  obtain ⟨F1, hF1⟩ : ∃ A, sHas bs cl.1 = A := ⟨_, rfl⟩
  have HLB : Hid (L ≤ bs.length) := Hid.of (by rw [← hL]; exact sAt_le bs cl.1)
  rw [hL, hF1] at hpl2 PARTS EL
  clear b2 hL hF1
  go_wp2_with fail
  refine hpl2.mono ?_
  rintro e w3 ⟨rfl, b3⟩
  have B3 := Hid.of (B2.out.trans (b3.mono B2.out.size))
  clear b3 B2 z0 z1
  obtain ⟨E, hE⟩ : ∃ E, (if F1 = true then L + 1 else L) = E := ⟨_, rfl⟩
  have HE1 : Hid (F1 = true → L + 1 = E) := Hid.of (fun c => by rw [← hE, if_pos c])
  have HE0 : Hid (F1 = false → L = E) := Hid.of (fun c => by rw [← hE, c]; rfl)
  rw [hE] at PARTS EL
  have hLb : (L : Int) ≤ 5000 := by have := HLB.out; have := BL.out; have := HN.out; omega
  clear hE
  go_upto_if 32 with fail
  go_cut [7] from 33 (fun s7 wx => s7 = .int .i64 E ∧ wx = w3)
  case first =>
    cases F1 with
    | true =>
      go_wp2_with fail
      go_meet
      case rel => exact ⟨by have := HE1.out (by first | rfl | trivial); subst this; go_num, rfl⟩
    | false =>
      go_wp2_with fail
      go_meet
      case rel => exact ⟨by have := HE0.out (by first | rfl | trivial); subst this; rfl, rfl⟩
  case rest =>
    obtain ⟨rfl, rfl⟩ := hcut
    obtain ⟨P1, P2, P3⟩ := PARTS.out
    have EN : E ≤ n := by have := EL.out; have := BL.out; omega
    obtain ⟨hnv, hvm⟩ := HCAP.out
    have hvm2 : vc ≤ 9223372036854775807 := by unfold maxLen at hvm; omega
    have hAE : (A : Int) ≤ (E : Int) := by omega
    have hEv : (E : Int) ≤ (vc : Int) := by omega
    have P2' := Hid.of P2
    have P3' := Hid.of P3
    clear P2 P3
    have RC : Hid (BkRow wc (.slice va n vc) bs) := Hid.of (R1.out.kept B3.out)
    obtain ⟨M, hM⟩ : ∃ M, (bs.take E).drop A = M := ⟨_, rfl⟩
    rw [hM] at P2' P3'
    have HM := Hid.of hM
    have MLEN : Hid (M.length = E - A) := Hid.of (by rw [← hM, List.length_drop, List.length_take, BL.out]; omega)
    have MSUB : Hid (∀ x ∈ M, x ∈ bs) := Hid.of (fun x hx => by rw [← hM] at hx; exact List.mem_of_mem_take (List.mem_of_mem_drop hx))
    have MR : Hid (BRise M) := Hid.of (by rw [← hM]; exact (List.Pairwise.sublist ((List.drop_sublist _ _).trans (List.take_sublist _ _)) HR.out))
    clear hM
    by_cases hAv : vc = A
    · have hAv2 := hAv.symm
      subst hAv2
      obtain rfl : E = A := by omega
      obtain rfl : n = E := by omega
      have hMn : M = [] := List.length_eq_zero_iff.1 (by rw [MLEN.out]; omega)
      have MN := Hid.of hMn
      clear hMn
      go_wp2_with fail
      refine (weave_any _ _ M cs wc ⟨va, 0, (by rw [MN.out]; rfl), (by rw [MN.out]; exact Nat.le_refl _), (by decide), (by rw [MN.out]; exact ⟨va, 0, rfl, .inl rfl⟩)⟩ (by
        have := U1.out.kept B3.out
        unfold BkRow
        rw [CL.out]
        exact this) MR.out (fun x hx => HG.out x (MSUB.out x hx)) (fun x hx => HF.out x (PM.out.mem_iff.1 hx)) CS.out (by intro c; have := CL.out; rw [c] at this; simp at this; omega) (fun x hx b hb => by
          have hq := List.getLast?_eq_getElem? (l := cs)
          rw [hb, CL.out, CLL.out] at hq
          rw [Option.some.inj hq]
          exact P2'.out x hx) (by have h1 := MLEN.out; have h2 := CL.out; have h3 := HN.out; omega)).mono ?_
      rintro e w4 ⟨x, rfl, o4, b4⟩
      have hx1 := (sAdds_len M cs)
      have hgr : w4.heap.size ≥ wc.heap.size := b4.size
      have hcs0 : cs ≠ [] := by intro c; have := CL.out; rw [c] at this; simp at this; omega
      have hbw : w.heap.size ≤ wc.heap.size := Nat.le_trans G1.out.size B3.out.size
      have H4 : w4.ownsRow D 269 6 (.slice va n n) n (flat benc bs) := own_kept_below (own_kept_below H1.out B3.out) b4
      have hrep := replace_any (D := D) (Du := wc.heap.size) (v := .slice va n n) (u := x) bs (sAdds M cs) n n w4 (by unfold BkOwn; rw [BL.out]; exact H4) o4 (fun g hg c => by
          have h1 := own_ge o4 hg
          have h2 := (H1.out.lt g c).2
          have h3 := B3.out.size
          omega) (by omega) (by rw [BL.out]; omega) (by intro c; have h1 := hx1.2.2 hcs0; rw [c] at h1; simp at h1) (by have h1 := MLEN.out; omega) (by have h1 := MLEN.out; have h2 := CL.out; have h3 := HN.out; have h4 := BL.out; omega) (by have := HD.out; omega)
      have HREP := Hid.of hrep
      have B4 := Hid.of b4
      obtain ⟨xa, xc, rfl, -⟩ := own_one o4
      clear o4 b4 hx1 hgr hcs0 H4 hrep hbw
      go_wp2_with fail
      refine HREP.out.mono ?_
      rintro e w5 ⟨z, rfl, o5, g5, l5⟩
      have O5 := Hid.of o5
      have G5 := Hid.of g5
      have L5 := Hid.of l5
      clear o5 g5 l5
      go_wp2
      go_ret
      refine ⟨z, rfl, ?_, ?_, ?_⟩
      · have := O5.out
        rw [P3'.out, ← sAdds_perm HR.out HG.out HF.out PM.out.symm] at this
        exact this
      · refine (Touch.grown G1.out (fun i _ hi => .inr hi)).trans (((Touch.below B3.out).trans (Touch.below B4.out)).trans (Touch.grown G5.out (fun i _ hi => .inl hi)))
      · rcases L5.out with c | ⟨g, c1, c2⟩
        · exact .inl c
        · exact .inr ⟨g, c1, Nat.le_trans (Nat.le_trans G1.out.size B3.out.size) (Nat.le_trans B4.out.size c2)⟩
    · have HPC : Hid (BkPiece wc (.slice (Option.map (fun x => x.add (A * 6)) va) (E - A) (vc - A)) M) := Hid.of (by
        obtain ⟨g, hg⟩ : ∃ g, va = some ⟨g, 0, none⟩ := by
          rcases H1.out.2 with ⟨h0, h1⟩ | ⟨g, cap, cur, h0, _⟩
          · simp only [Value.slice.injEq] at h0
            exfalso
            omega
          · simp only [Value.slice.injEq] at h0
            exact ⟨g, h0.1⟩
        rw [← HM.out]
        subst hg
        exact piece_of (own_kept_below H1.out B3.out) BL.out A E P1 EN _ (fun _ => by show some (Addr.add _ _) = _; rw [Addr.add_lit, Nat.zero_add]))
      go_wp2_with fail
      refine (weave_any _ _ M cs wc HPC.out (by
        have := U1.out.kept B3.out
        unfold BkRow
        rw [CL.out]
        exact this) MR.out (fun x hx => HG.out x (MSUB.out x hx)) (fun x hx => HF.out x (PM.out.mem_iff.1 hx)) CS.out (by intro c; have := CL.out; rw [c] at this; simp at this; omega) (fun x hx b hb => by
          have hq := List.getLast?_eq_getElem? (l := cs)
          rw [hb, CL.out, CLL.out] at hq
          rw [Option.some.inj hq]
          exact P2'.out x hx) (by have h1 := MLEN.out; have h2 := CL.out; have h3 := HN.out; omega)).mono ?_
      rintro e w4 ⟨x, rfl, o4, b4⟩
      have hx1 := (sAdds_len M cs)
      have hgr : w4.heap.size ≥ wc.heap.size := b4.size
      have hcs0 : cs ≠ [] := by intro c; have := CL.out; rw [c] at this; simp at this; omega
      have hbw : w.heap.size ≤ wc.heap.size := Nat.le_trans G1.out.size B3.out.size
      have H4 : w4.ownsRow D 269 6 (.slice va n vc) n (flat benc bs) := own_kept_below (own_kept_below H1.out B3.out) b4
      have hrep := replace_any (D := D) (Du := wc.heap.size) (v := .slice va n vc) (u := x) bs (sAdds M cs) A E w4 (by unfold BkOwn; rw [BL.out]; exact H4) o4 (fun g hg c => by
          have h1 := own_ge o4 hg
          have h2 := (H1.out.lt g c).2
          have h3 := B3.out.size
          omega) (by omega) (by rw [BL.out]; omega) (by intro c; have h1 := hx1.2.2 hcs0; rw [c] at h1; simp at h1) (by have h1 := MLEN.out; omega) (by have h1 := MLEN.out; have h2 := CL.out; have h3 := HN.out; have h4 := BL.out; omega) (by have := HD.out; omega)
      have HREP := Hid.of hrep
      have B4 := Hid.of b4
      obtain ⟨xa, xc, rfl, -⟩ := own_one o4
      clear o4 b4 hx1 hgr hcs0 H4 hrep hbw
      go_wp2_with fail
      refine HREP.out.mono ?_
      rintro e w5 ⟨z, rfl, o5, g5, l5⟩
      have O5 := Hid.of o5
      have G5 := Hid.of g5
      have L5 := Hid.of l5
      clear o5 g5 l5
      go_wp2
      go_ret
      refine ⟨z, rfl, ?_, ?_, ?_⟩
      · have := O5.out
        rw [P3'.out, ← sAdds_perm HR.out HG.out HF.out PM.out.symm] at this
        exact this
      · refine (Touch.grown G1.out (fun i _ hi => .inr hi)).trans (((Touch.below B3.out).trans (Touch.below B4.out)).trans (Touch.grown G5.out (fun i _ hi => .inl hi)))
      · rcases L5.out with c | ⟨g, c1, c2⟩
        · exact .inl c
        · exact .inr ⟨g, c1, Nat.le_trans (Nat.le_trans G1.out.size B3.out.size) (Nat.le_trans B4.out.size c2)⟩

end Go.Proofs.YtbhcafginmkaaaaGreat

namespace Go.Proofs.YtbhcafginmkaaaaGreat
open Go.RowKit Go.Lib Go.Sort

theorem rec_info : (Tryz.prog.info? 102).map (fun i => (i.zero, i.size, i.bytes)) = some (some (.agg #[.string ⟨#[]⟩, .int .i64 0, .int .i64 0, .int .i64 0, .int .u64 0, .int .i64 0, .int .i64 0]), 7, 64) := by kernel_rfl

theorem sRecs_len (s : ByteArray) (l : List Bk) : (sRecs s l).length = l.length := by unfold sRecs; rw [List.length_map]

theorem new_rec (w : World) (s : ByteArray) (b : Bk) (t : TypeId) : Cells (w.alloc (.cells #[.string s, .int .i64 b.1, .int .i64 b.2.c, .int .i64 b.2.hi, .int .u64 b.2.lo, .int .i64 b.2.mn, .int .i64 b.2.mx] t)) w.heap.size 0 (flat renc ((sRecs s [b]).map rl)) := by
  show Cells _ _ _ (flat renc [_])
  rw [flat_one]
  exact new_cells w _ t

set_option maxHeartbeats 3200000 in
set_option maxRecDepth 20000 in
theorem records_any (v : Value) (bs : List Bk) (s : ByteArray) (w : World) (hv : BkRow w v bs) (hn : bs.length ≤ 100000) :
    Calls Tryz.prog 255 #[v, .string s] w fun e w' => ∃ u, e = .returned u ∧ w'.ownsRow w.heap.size 102 7 u bs.length (flat renc ((sRecs s bs).map rl)) ∧ Below w.heap.size w w' := by
  obtain ⟨i0, hi0, hz0, hz1, hz2⟩ := info_parts rec_info
  have HI := Hid.of hi0
  have HZ0 := Hid.of hz0
  have HZ1 := Hid.of hz1
  have HZ2 := Hid.of hz2
  clear hi0 hz0 hz1 hz2
  have HV : Hid (CellRow w v bs.length (flat benc bs)) := Hid.of hv
  obtain ⟨va, vc, rfl, -⟩ := hv
  obtain ⟨n, hbl⟩ : ∃ n, bs.length = n := ⟨_, rfl⟩
  have BL := Hid.of hbl
  rw [hbl] at hn HV ⊢
  clear hbl
  go_enter Tryz.func255, Tryz.ntmps255
  go_wp2
  go_loopg [5, 10] n (fun kx av iv wr => ∃ (j : Nat) (u : Value), u = av ∧ iv = .int .i64 j ∧ j ≤ n ∧ n - j ≤ kx ∧ Hid (wr.ownsRow w.heap.size 102 7 u j (flat renc ((sRecs s (bs.take j)).map rl))) ∧ Hid (Below w.heap.size w wr))
  case atStart => exact ⟨0, _, rfl, rfl, Nat.zero_le _, Nat.le_refl _, Hid.of (World.ownsRow_nil _ _ _ _), Hid.of (Below.refl _ _)⟩
  case round =>
    obtain ⟨j, u, rfl, rfl, hjn, hkx, HU, HB⟩ := hrel
    by_cases hlt : (j : Int) < (n : Int)
    · obtain ⟨b, hb⟩ : ∃ b, bs[j]? = some b := ⟨_, List.getElem?_eq_getElem (by have := BL.out; omega)⟩
      have HBJ := Hid.of hb
      obtain ⟨fb, fo, rfl, hfb, c0, c1, c2, c3, c4, c5⟩ := bk_at (HV.out.kept HB.out) j b hb
      have hj0 : (0 : Int) ≤ (j : Int) := by omega
      have HJN : Hid (j < n) := Hid.of (by omega)
      clear hb hfb
      go_upto_region 5 with fail
      obtain ⟨p, hp⟩ : ∃ p, wr.heap.size = p := ⟨_, rfl⟩
      obtain ⟨w1, hw1⟩ : ∃ w1, wr.alloc (.cells #[.int .i64 b.1, .int .i64 b.2.c, .int .i64 b.2.hi, .int .u64 b.2.lo, .int .i64 b.2.mn, .int .i64 b.2.mx] 269) = w1 := ⟨_, rfl⟩
      have BX := Hid.of (show BkBox w1 p b by rw [← hw1, ← hp]; exact BkBox.new wr b)
      have HU1 := Hid.of (show w1.ownsRow w.heap.size 102 7 u j (flat renc ((sRecs s (bs.take j)).map rl)) by rw [← hw1]; exact World.ownsRow.alloc HU.out _)
      have HB1 := Hid.of (show Below w.heap.size w w1 by rw [← hw1]; exact HB.out.alloc HB.out.size _)
      rw [hw1, hp]
      obtain ⟨y0, y1, y2, y3, y4, y5⟩ := BX.out.at
      clear hw1 hp HU HB c0 c1 c2 c3 c4 c5
      go_wp2_with (at_builtin; refine append_keep_law rfl (.tmp 14) (.tmp 21) 91 rfl w.heap.size 102 i0 _ 7 64 Tryz.underlying91 HI.out HZ0.out HZ1.out HZ2.out rfl (by decide) u j _ rfl (World.ownsRow.alloc HU1.out _) w1.heap.size 0 1 1 (flat renc ((sRecs s [b]).map rl)) rfl (new_rec w1 s b _) rfl (by intro x hx; exact flat_ones renc_one _ x hx) (by unfold maxLen; omega) (by omega) (by simp; have := HB1.out.size; omega) ?_; intro x w4 o1 g1 _ l1; have O1 := Hid.of o1; have G1 := Hid.of g1; clear o1 g1 l1)
      go_roundg (n - (j + 1))
      case measure => have := HJN.out; omega
      case rel =>
        have hg3 : w1.grownBy w4 u.ownBlock := grown_ahead2 (World.grownBy_alloc _ _ none) G1.out
        refine ⟨j + 1, x, rfl, by go_num, HJN.out, Nat.le_refl _, Hid.of ?_, Hid.of (HB1.out.grown hg3 HB1.out.size (fun k hk => own_ge HU1.out hk))⟩
        have := O1.out
        rw [← flat_append, ← List.map_append] at this
        rw [List.take_succ_eq_append_getElem (by have := BL.out; have := HJN.out; omega), (List.getElem?_eq_some_iff.1 HBJ.out).2]
        unfold sRecs at *
        rw [List.map_append]
        exact this
    · obtain rfl : j = n := by omega
      go_wp2
      go_ret
      refine ⟨_, rfl, ?_, HB.out⟩
      have := HU.out
      rw [List.take_of_length_le (by rw [BL.out]; exact Nat.le_refl _)] at this
      exact this

/-- What is rolled of a series: in buckets of e ticks, those that begin at from or later. -/
def sRoll (l : List Bk) (e from_ : Int) : List Bk := sAdds [] ((l.map fun b => ((gFloor b.1 e, b.2) : Bk)).filter fun b => decide (from_ ≤ b.1))

def sFl (e : Int) (b : Bk) : Bk := (gFloor b.1 e, b.2)

theorem sRoll_eq (l : List Bk) (e from_ : Int) : sRoll l e from_ = sAdds [] ((l.map (sFl e)).filter fun b => decide (from_ ≤ b.1)) := rfl

theorem sFl_good {e : Int} {b : Bk} (he : 1 ≤ e) (h0 : 0 ≤ b.1) (h : BGood b) : BGood (sFl e b) := by
  refine ⟨h.1, h.2.1, ?_⟩
  have h1 := gFloor_plain0 h0 he
  have h2 := (gPast_bounds b.1 he)
  have h3 : gPast b.1 e ≤ b.1 := past_le he h0
  have h4 := h.2.2
  unfold TIn64 at *
  show _ ≤ gFloor b.1 e ∧ gFloor b.1 e ≤ _
  omega

theorem sFl_mono {e : Int} {a b : Bk} (he : 1 ≤ e) (ha : 0 ≤ a.1) (hb : 0 ≤ b.1) (h : a.1 ≤ b.1) : (sFl e a).1 ≤ (sFl e b).1 := by
  show gFloor a.1 e ≤ gFloor b.1 e
  rw [gFloor_plain0 ha he, gFloor_plain0 hb he]
  exact gFloor_mono he h

theorem sAdds_start {f l : List Bk} {x : Bk} (h : x ∈ sAdds l f) : (∃ y ∈ l, x.1 = y.1) ∨ ∃ y ∈ f, x.1 = y.1 := by
  induction f generalizing l with
  | nil => exact .inl ⟨x, h, rfl⟩
  | cons c f ih =>
    rcases ih (l := sIns l c) h with ⟨y, hy, e⟩ | ⟨y, hy, e⟩
    · rcases sIns_start hy with e2 | ⟨z, hz, e2⟩
      · exact .inr ⟨c, List.mem_cons_self .., e.trans e2⟩
      · exact .inl ⟨z, hz, e.trans e2⟩
    · exact .inr ⟨y, List.mem_cons_of_mem _ hy, e⟩

/-- One bucket more is rolled. -/
theorem sRoll_next {l : List Bk} {e f : Int} {j : Nat} {b : Bk} (he : 1 ≤ e) (hr : BRise l) (h0 : ∀ x ∈ l, 0 ≤ x.1) (hb : l[j]? = some b) :
    sRoll (l.take (j + 1)) e f = if f ≤ (sFl e b).1 then sPush (sRoll (l.take j) e f) (sFl e b) else sRoll (l.take j) e f := by
  have hj := (List.getElem?_eq_some_iff.1 hb).1
  rw [List.take_succ_eq_append_getElem hj, (List.getElem?_eq_some_iff.1 hb).2, sRoll_eq, List.map_append, List.filter_append]
  by_cases h : f ≤ (sFl e b).1
  · rw [if_pos h]
    have e1 : (([b].map (sFl e)).filter fun b => decide (f ≤ b.1)) = [sFl e b] := by
      rw [List.map_singleton, List.filter_cons, if_pos (decide_eq_true h)]
      rfl
    rw [e1, sPush_ins (by rw [sRoll_eq]; exact sAdds_rise List.Pairwise.nil) (fun x hx => ?_)]
    · unfold sAdds
      rw [List.foldl_append]
      rfl
    · rw [sRoll_eq] at hx
      rcases sAdds_start hx with ⟨y, hy, _⟩ | ⟨y, hy, ex⟩
      · exact absurd hy List.not_mem_nil
      · obtain ⟨z, hz, rfl⟩ := List.mem_map.1 (List.mem_filter.1 hy).1
        rw [ex]
        obtain ⟨i, hi, hze⟩ := List.mem_iff_getElem.1 hz
        rw [List.length_take] at hi
        rw [List.getElem_take] at hze
        have hlt := List.pairwise_iff_getElem.1 hr i j (by omega) hj (by omega)
        rw [hze, (List.getElem?_eq_some_iff.1 hb).2] at hlt
        exact sFl_mono he (h0 z (List.mem_of_mem_take hz)) (h0 b (List.mem_of_getElem? hb)) (by omega)
  · rw [if_neg h]
    have e1 : (([b].map (sFl e)).filter fun b => decide (f ≤ b.1)) = [] := by
      rw [List.map_singleton, List.filter_cons, if_neg (by simpa using h)]
      rfl
    rw [e1, List.append_nil]
    rfl

theorem BkBox.set0 {w : World} {p : Nat} {b : Bk} (h : BkBox w p b) (f : Int) : BkBox (w.setCell ⟨p, 0, none⟩ (.int .i64 f)) p (f, b.2) := by
  have h' : w.heap[p]? = some (.cells #[.int .i64 b.1, .int .i64 b.2.c, .int .i64 b.2.hi, .int .u64 b.2.lo, .int .i64 b.2.mn, .int .i64 b.2.mx] 269 (0, 0)) := h
  rw [setCell_eq_setRow w p 0 _ _ _ _ h']
  exact setRow_heap w p _ _ _ _ h'

set_option maxHeartbeats 3200000 in
set_option maxRecDepth 20000 in
theorem sroll_any (v : Value) (bs : List Bk) (e f : Int) (w : World) (hv : BkRow w v bs) (hr : BRise bs) (hg : BAll bs) (h0 : ∀ x ∈ bs, 0 ≤ x.1) (he1 : 1 ≤ e) (he : TIn64 e) (hn : bs.length ≤ 50000) :
    Calls Tryz.prog 231 #[v, .int .i64 e, .int .i64 f] w fun x w' => ∃ u, x = .returned u ∧ BkOwn w' w.heap.size u (sRoll bs e f) ∧ Below w.heap.size w w' := by
  have HV : Hid (CellRow w v bs.length (flat benc bs)) := Hid.of hv
  obtain ⟨va, vc, rfl, -⟩ := hv
  obtain ⟨n, hbl⟩ : ∃ n, bs.length = n := ⟨_, rfl⟩
  have BL := Hid.of hbl
  have HR := Hid.of hr
  have HG := Hid.of hg
  have H0 := Hid.of h0
  have HE1 := Hid.of he1
  have HE := Hid.of he
  rw [hbl] at hn HV ⊢
  clear hbl hr hg h0 he1 he
  go_enter Tryz.func231, Tryz.ntmps231
  go_wp2
  go_loopg [7, 12] n (fun kx av iv wr => ∃ (j : Nat) (u : Value), u = av ∧ iv = .int .i64 j ∧ j ≤ n ∧ n - j ≤ kx ∧ Hid (BkOwn wr w.heap.size u (sRoll (bs.take j) e f)) ∧ Hid (BAll (sRoll (bs.take j) e f) ∧ (sRoll (bs.take j) e f).length ≤ j) ∧ Hid (Below w.heap.size w wr))
  case atStart => exact ⟨0, _, rfl, rfl, Nat.zero_le _, Nat.le_refl _, Hid.of (World.ownsRow_nil _ _ _ _), Hid.of ⟨BAll.nil, Nat.le_refl _⟩, Hid.of (Below.refl _ _)⟩
  case round =>
    obtain ⟨j, u, rfl, rfl, hjn, hkx, HU, HS, HB⟩ := hrel
    by_cases hlt : (j : Int) < (n : Int)
    · obtain ⟨b, hb⟩ : ∃ b, bs[j]? = some b := ⟨_, List.getElem?_eq_getElem (by have := BL.out; omega)⟩
      have HBJ := Hid.of hb
      obtain ⟨fb, fo, rfl, hfb, c0, c1, c2, c3, c4, c5⟩ := bk_at (HV.out.kept HB.out) j b hb
      have hj0 : (0 : Int) ≤ (j : Int) := by omega
      have HJN : Hid (j < n) := Hid.of (by omega)
      have GB := Hid.of (HG.out b (List.mem_of_getElem? HBJ.out))
      have FG := Hid.of (sFl_good HE1.out (H0.out b (List.mem_of_getElem? HBJ.out)) GB.out)
      have NX := Hid.of (sRoll_next (f := f) HE1.out HR.out H0.out HBJ.out)
      clear hb hfb
      go_upto_region 5 with fail
      obtain ⟨p, hp⟩ : ∃ p, wr.heap.size = p := ⟨_, rfl⟩
      obtain ⟨w1, hw1⟩ : ∃ w1, wr.alloc (.cells #[.int .i64 b.1, .int .i64 b.2.c, .int .i64 b.2.hi, .int .u64 b.2.lo, .int .i64 b.2.mn, .int .i64 b.2.mx] 269) = w1 := ⟨_, rfl⟩
      have BX := Hid.of (show BkBox w1 p b by rw [← hw1, ← hp]; exact BkBox.new wr b)
      have HU1 := Hid.of (show BkOwn w1 w.heap.size u (sRoll (bs.take j) e f) by rw [← hw1]; exact World.ownsRow.alloc HU.out _)
      have HB1 := Hid.of (show Below w.heap.size w w1 by rw [← hw1]; exact HB.out.alloc HB.out.size _)
      have HPW : Hid (w.heap.size ≤ p) := Hid.of (by rw [← hp]; exact HB.out.size)
      have HPN : Hid (u.ownBlock ≠ some p) := Hid.of (fun c => by have := (World.ownsRow.lt HU.out p c).2; omega)
      rw [hw1, hp]
      obtain ⟨y0, y1, y2, y3, y4, y5⟩ := BX.out.at
      clear hw1 hp HU HB c0 c1 c2 c3 c4 c5
      have hfl := Floor_any b.1 e GB.out.2.2 HE.out w1
      obtain ⟨fl, hfe⟩ : ∃ fl, gFloor b.1 e = fl := ⟨_, rfl⟩
      rw [hfe] at hfl
      have FE := Hid.of hfe
      have SFE : Hid (sFl e b = (fl, b.2)) := Hid.of (by rw [← hfe]; rfl)
      clear hfe
      go_wp2_with fail
      refine hfl.mono ?_
      rintro x w2 ⟨rfl, q, rfl⟩
      obtain ⟨w2, hw2⟩ : ∃ w2, w1.drewN q = w2 := ⟨_, rfl⟩
      have BX2 := Hid.of (show BkBox w2 p b by rw [← hw2]; exact BX.out)
      have HU2 := Hid.of (show BkOwn w2 w.heap.size u (sRoll (bs.take j) e f) by rw [← hw2]; exact HU1.out)
      have HB2 := Hid.of (show Below w.heap.size w w2 by rw [← hw2]; exact below_drewN HB1.out _)
      rw [hw2]
      have z0 := BX2.out.at.1
      have zf : w2.frozen? ⟨p, 0, none⟩ = false := by
        have h' : w2.heap[p]? = some (.cells #[.int .i64 b.1, .int .i64 b.2.c, .int .i64 b.2.hi, .int .u64 b.2.lo, .int .i64 b.2.mn, .int .i64 b.2.mx] 269 (0, 0)) := BX2.out
        simp [World.frozen?, h']
      clear hw2 BX HU1 HB1 y0 y1 y2 y3 y4 y5 hfl
      go_upto_region 6 with fail
      obtain ⟨w3, hw3⟩ : ∃ w3, w2.setCell ⟨p, 0, none⟩ (.int .i64 fl) = w3 := ⟨_, rfl⟩
      have hgs : w2.grownBy (w2.setCell ⟨p, 0, none⟩ (.int .i64 fl)) (some p) := grownBy_setCell w2 p 0 _
      have BX3 := Hid.of (show BkBox w3 p (fl, b.2) by rw [← hw3]; exact BX2.out.set0 fl)
      have HU3 := Hid.of (show BkOwn w3 w.heap.size u (sRoll (bs.take j) e f) by rw [← hw3]; exact World.ownsRow.kept HU2.out hgs (.inr HPN.out))
      have HB3 := Hid.of (show Below w.heap.size w w3 by rw [← hw3]; exact HB2.out.setCell (p := ⟨p, 0, none⟩) HPW.out _)
      rw [hw3]
      obtain ⟨y0, y1, y2, y3, y4, y5⟩ := BX3.out.at
      clear hw3 hgs BX2 HU2 HB2 z0 zf
      by_cases hf : f ≤ fl
      · have HF := Hid.of hf
        have hpush := push_any (D := w.heap.size) (sRoll (bs.take j) e f) (fl, b.2) w3 HU3.out HS.out.1 (by rw [← SFE.out]; exact FG.out) (by have := HS.out.2; omega) HB3.out.size
        go_wp2_with (go_at_call 266; refine hpush.mono ?_; rintro x w4 ⟨z, rfl, o4, g4, _⟩; have O4 := Hid.of o4; have G4 := Hid.of g4; clear o4 g4)
        go_roundg (n - (j + 1))
        case measure => have := HJN.out; omega
        case rel =>
          have hnx := NX.out
          rw [SFE.out, if_pos HF.out] at hnx
          obtain ⟨k1, k2⟩ := sPush_good HS.out.1 (show BGood (fl, b.2) by rw [← SFE.out]; exact FG.out)
          exact ⟨j + 1, z, rfl, by go_num, HJN.out, Nat.le_refl _, Hid.of (by rw [hnx]; exact O4.out), Hid.of (by rw [hnx]; exact ⟨k1, by have := HS.out.2; omega⟩), Hid.of (HB3.out.grown G4.out HB3.out.size (fun k hk => own_ge HU3.out hk))⟩
      · have HF := Hid.of hf
        go_wp2
        go_roundg (n - (j + 1))
        case measure => have := HJN.out; omega
        case rel =>
          have hnx := NX.out
          rw [SFE.out, if_neg (Int.not_le.2 HF.out)] at hnx
          exact ⟨j + 1, u, rfl, by go_num, HJN.out, Nat.le_refl _, Hid.of (by rw [hnx]; exact HU3.out), Hid.of (by rw [hnx]; exact ⟨HS.out.1, by have := HS.out.2; omega⟩), HB3⟩
    · obtain rfl : j = n := by omega
      go_wp2
      go_ret
      refine ⟨_, rfl, ?_, HB.out⟩
      have := HU.out
      rw [List.take_of_length_le (by rw [BL.out]; exact Nat.le_refl _)] at this
      exact this

end Go.Proofs.YtbhcafginmkaaaaGreat
