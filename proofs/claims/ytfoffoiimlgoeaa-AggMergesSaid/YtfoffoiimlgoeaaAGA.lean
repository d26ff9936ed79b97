/-
  What function Add of package agg answers; lists of one, two, three aggregates that are laid anew.
-/
import Derived.Test.YtfoffoiimlgoeaaAGL
namespace Go.Proofs.Ytfoffoiimlgoeaa
open Go.RowKit Go.Lib

theorem flat5 (l : List Ag) (j k : Nat) (hj : j < l.length) (hk : k < 5) : (l.flatMap fun a => (agCells a).toList)[j * 5 + k]? = (agCells (l.getD j agZero))[k]? := by
  induction l generalizing j with
  | nil => simp at hj
  | cons x l ih =>
    rw [List.flatMap_cons]
    cases j with
    | zero =>
      rw [List.getElem?_append_left (by simpa using hk)]
      simp [List.getD]
    | succ j =>
      rw [List.getElem?_append_right (by simp; omega)]
      have e : (j + 1) * 5 + k - (agCells x).toList.length = j * 5 + k := by simp; omega
      rw [e, ih j (by simpa using hj)]
      rfl

theorem AgRow.made (w1 : World) (t : TypeId) (l : List Ag) (cs : Array Value) (hcs : cs.toList = l.flatMap fun a => (agCells a).toList) (b n c : Nat) (hb : b = w1.heap.size) (hn : n = l.length) :
    AgRow (w1.alloc (.cells cs t)) (.slice (some ⟨b, 0, none⟩) n c) l := by
  subst hb hn
  refine ⟨_, c, rfl, .inr ⟨_, 0, rfl, by simp, ?_⟩⟩
  intro j hj
  have key : ∀ k v, k < 5 → (agCells (l.getD j agZero))[k]? = some v → (w1.alloc (.cells cs t)).cell? ⟨w1.heap.size, 0 + j * 5 + k, none⟩ = some v := by
    intro k v hk hv
    rw [cell_of_row _ _ _ _ _ _ (Go.heap_alloc_new _ _), Nat.zero_add, ← Array.getElem?_toList, hcs, flat5 l j k hj hk, hv]
  exact ⟨key 0 _ (by omega) (by rfl), key 1 _ (by omega) (by rfl), key 2 _ (by omega) (by rfl), key 3 _ (by omega) (by rfl), key 4 _ (by omega) (by rfl)⟩

/-- What Merge answers of one, two, three. -/
theorem Merge_1 (a : Ag) (ha : AgIn a) (w1 : World) (t : TypeId) (cs : Array Value) (hcs : cs = agCells a) (b : Nat) (hb : b = w1.heap.size) :
    Calls Try.prog 16 #[.slice (some ⟨b, 0, none⟩) 1 1] (w1.alloc (.cells cs t)) fun e w' => e = .returned (agv (agAll agZero [a])) ∧ Below w1.heap.size w1 w' := by
  refine (aggMerge_any _ [a] _ (AgRow.made w1 t [a] cs (by rw [hcs]; rfl) b 1 1 hb rfl) (by simpa using ha) (by simp)).mono ?_
  rintro e w' ⟨rfl, h⟩
  exact ⟨rfl, ((Below.refl _ _).alloc (Nat.le_refl _) _).trans (h.mono (by simp))⟩

theorem Merge_2 (a a' : Ag) (ha : AgIn a) (ha' : AgIn a') (w1 : World) (t : TypeId) (cs : Array Value) (hcs : cs = agCells a ++ agCells a') (b : Nat) (hb : b = w1.heap.size) :
    Calls Try.prog 16 #[.slice (some ⟨b, 0, none⟩) 2 2] (w1.alloc (.cells cs t)) fun e w' => e = .returned (agv (agAll agZero [a, a'])) ∧ Below w1.heap.size w1 w' := by
  refine (aggMerge_any _ [a, a'] _ (AgRow.made w1 t [a, a'] cs (by rw [hcs]; rfl) b 2 2 hb rfl) (by simpa using ⟨ha, ha'⟩) (by simp)).mono ?_
  rintro e w' ⟨rfl, h⟩
  exact ⟨rfl, ((Below.refl _ _).alloc (Nat.le_refl _) _).trans (h.mono (by simp))⟩

theorem Merge_3 (a a' a'' : Ag) (ha : AgIn a) (ha' : AgIn a') (ha'' : AgIn a'') (w1 : World) (t : TypeId) (cs : Array Value) (hcs : cs = agCells a ++ agCells a' ++ agCells a'') (b : Nat) (hb : b = w1.heap.size) :
    Calls Try.prog 16 #[.slice (some ⟨b, 0, none⟩) 3 3] (w1.alloc (.cells cs t)) fun e w' => e = .returned (agv (agAll agZero [a, a', a''])) ∧ Below w1.heap.size w1 w' := by
  refine (aggMerge_any _ [a, a', a''] _ (AgRow.made w1 t [a, a', a''] cs (by rw [hcs]; rfl) b 3 3 hb rfl) (by simpa using ⟨ha, ha', ha''⟩) (by simp)).mono ?_
  rintro e w' ⟨rfl, h⟩
  exact ⟨rfl, ((Below.refl _ _).alloc (Nat.le_refl _) _).trans (h.mono (by simp))⟩

theorem NumRow.kept {k : IntKind} {w w' : World} {v : Value} {xs : List Int} (h : NumRow k w v xs) (hb : Below w.heap.size w w') : NumRow k w' v xs := by
  obtain ⟨a, c, hv, h⟩ := h
  refine ⟨a, c, hv, ?_⟩
  rcases h with h | ⟨b, o, ha, hlt, hc⟩
  · exact .inl h
  · exact .inr ⟨b, o, ha, Nat.lt_of_lt_of_le hlt hb.size, fun j hj => by rw [hb.cell hlt]; exact hc j hj⟩

set_option maxHeartbeats 800000 in
theorem aggAdd_any (x : Ag) (hx : AgIn x) (v : Value) (xs : List Int) (w : World) (hv : NumRow .i64 w v xs) (hl : Ints xs) (hn : xs.length ≤ 1000000) :
    Calls Try.prog 17 #[agv x, v] w fun e w' => e = .returned (agv (agAll agZero [x, agOf xs])) ∧ Below w.heap.size w w' := by
  have HV := Hid.of hv
  have HL := Hid.of hl
  have HX := Hid.of hx
  have HO := Hid.of (agOf_good hl).1
  obtain ⟨a, c, rfl, _⟩ := hv
  clear hl hx
  go_enter Try.func17, Try.ntmps17
  go_wp2
  have g0 := Hid.of ((AgBlk.new w x).alloc (.cells (agCells agZero) 27))
  have g1 : Hid (AgBlk ((w.alloc (.cells (agCells x) 27)).alloc (.cells (agCells agZero) 27)) (w.heap.size + 1) agZero) := Hid.of (AgBlk.made _ _ _ _ (by simp) (by rfl))
  have B0 := Hid.of (((Below.refl w.heap.size w).alloc (Nat.le_refl _) (.cells (agCells x) 27)).alloc (by simp) (.cells (agCells agZero) 27))
  refine wp_region_noPanic ?_
  go_region_with (first
    | (go_at_call 15; refine (aggOf_any _ xs _ (HV.out.kept B0.out.drew) HL.out hn).mono ?_; rintro e w2 ⟨rfl, b2⟩; have c2 := B0.out.drew.trans (b2.mono B0.out.drew.size); have k0 := g0.out.kept ((Below.refl _ _).drew.trans b2); have k1 := g1.out.kept ((Below.refl _ _).drew.trans b2); obtain ⟨q0, q1, q2, q3, q4⟩ := k0.at; have lt2 := k0.lt)
    | (go_at_call 16; refine (Merge_2 x (agOf xs) HX.out HO.out _ _ _ (by rfl) _ (by rfl)).mono ?_; rintro e w3 ⟨rfl, b3⟩; have m1 := k1.kept b3; obtain ⟨r0, r1, r2, r3, r4⟩ := m1.at; have fz := m1.frozen; have lt3 := m1.lt))
  all_goals
    refine NoPanic.normal ?_
    go_wp2
    refine bodyPost_ret (v := agv (agAll agZero [x, agOf xs])) ?_ rfl ⟨rfl, ?_⟩
    · simp [results, Try.results17, go_sem, r0, r1, r2, r3, r4]
    · exact below_set5 (c2.trans (b3.mono c2.size)) (by omega) _

end Go.Proofs.Ytfoffoiimlgoeaa
