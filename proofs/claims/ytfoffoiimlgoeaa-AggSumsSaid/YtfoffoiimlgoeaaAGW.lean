/-
  What statement AggEnds answers: true, for every input.
-/
import Derived.Test.YtfoffoiimlgoeaaAGE
namespace Go.Proofs.Ytfoffoiimlgoeaa
open Go.RowKit Go.Lib

/-- What is known of the aggregate of some values. -/
def EndsOf (l : List Int) (a : Ag) : Prop := agOk a = true ∧ a.c = l.length ∧ (l.any (· == a.mn)) = true ∧ (l.any (· == a.mx)) = true ∧ ∀ x ∈ l, a.mn ≤ x ∧ x ≤ a.mx

theorem ends_one {x : Int} (hx : IsInt x) : EndsOf [x] (agOne x) := by
  have ho := agOne_good hx.1 hx.2
  refine ⟨?_, rfl, ?_, ?_, ?_⟩
  · rw [agOk_iff]; simp [agOne]
  · simp [agOne]
  · simp [agOne]
  · intro y hy
    simp at hy
    subst hy
    simp [agOne]

theorem ends_snoc {l : List Int} {a : Ag} {x : Int} (h : EndsOf l a) (hx : IsInt x) (hn : l.length < 60) : EndsOf (l ++ [x]) (agJoin a (agOne x)) := by
  obtain ⟨h0, h1, h2, h3, h4⟩ := h
  have ho : agOk (agOne x) = true := by rw [agOk_iff]; simp [agOne]
  have e : agJoin a (agOne x) = agBoth a (agOne x) := by unfold agJoin; rw [if_pos ho, if_pos h0]
  rw [e]
  refine ⟨agBoth_ok h0 ho, ?_, ?_, ?_, ?_⟩
  · simp only [agBoth, agOne, List.length_append, List.length_cons, List.length_nil]
    omega
  · simp only [agBoth, agOne, List.any_append]
    by_cases hc : a.mn ≤ x
    · rw [Int.min_eq_left hc, h2]; rfl
    · rw [Int.min_eq_right (by omega)]; simp
  · simp only [agBoth, agOne, List.any_append]
    by_cases hc : x ≤ a.mx
    · rw [Int.max_eq_left hc, h3]; rfl
    · rw [Int.max_eq_right (by omega)]; simp
  · intro y hy
    simp only [agBoth, agOne]
    rcases List.mem_append.1 hy with hy | hy
    · have := h4 y hy
      omega
    · simp at hy
      subst hy
      omega

theorem agOf_ends (l : List Int) (hl : Ints l) (h0 : 0 < l.length) (hn : l.length ≤ 60) : EndsOf l (agOf l) := by
  have key : ∀ j, j < l.length → EndsOf (l.take (j + 1)) (agOf (l.take (j + 1))) := by
    intro j
    induction j with
    | zero =>
      intro hj
      have hx := ints_get hl 0 hj
      have e : l.take (0 + 1) = [l.getD 0 0] := by
        rw [List.take_succ_eq_append_getElem hj]
        simp [List.getD, hj]
      rw [e]
      have e2 : agOf [l.getD 0 0] = agOne (l.getD 0 0) := agJoin_zero_left _ (agOne_good hx.1 hx.2)
      rw [e2]
      exact ends_one hx
    | succ j ih =>
      intro hj
      have hx := ints_get hl (j + 1) hj
      have e : l.take (j + 1 + 1) = l.take (j + 1) ++ [l.getD (j + 1) 0] := by
        rw [List.take_succ_eq_append_getElem hj]
        simp [List.getD, hj]
      rw [agOf_take l (j + 1) hj, e]
      exact ends_snoc (ih (by omega)) hx (by rw [List.length_take]; omega)
  have := key (l.length - 1) (by omega)
  have e : l.length - 1 + 1 = l.length := by omega
  rwa [e, List.take_length] at this

theorem any_take (l : List Int) (m : Int) (j : Nat) (h : j < l.length) : (l.take (j + 1)).any (· == m) = ((l.take j).any (· == m) || l.getD j 0 == m) := by
  rw [List.take_succ_eq_append_getElem h, List.any_append]
  simp [List.getD, h]

theorem ends_light (v : Value) (xs : List Int) (h : xs.length < 1 ∨ 60 < xs.length) (w : World) (hv : NumRow .i64 w v xs) :
    Calls Try.prog 8 #[v] w fun e w' => e = .returned (.bool true) ∧ Below w.heap.size w w' := by
  obtain ⟨sa, c, rfl, _⟩ := hv
  have HZ : Hid (agOf [] = agZero) := Hid.of rfl
  have key : ∀ hs : xs.length < 1 ∨ (¬ xs.length < 1 ∧ 60 < xs.length), Calls Try.prog 8 #[.slice sa xs.length c] w fun e w' => e = .returned (.bool true) ∧ Below w.heap.size w w' := by
    clear h
    intro hs
    rcases hs with h1 | ⟨h1, h2⟩
    all_goals
      go_enter Try.func8, Try.ntmps8
      go_wp2_with fail
      refine (aggAlive_any _).mono ?_
      rintro e w1 ⟨rfl, b1⟩
      go_wp2_with fail
      refine (Of_none agZero HZ.out _).mono ?_
      rintro e w2 ⟨rfl, b2⟩
      have B2 := Hid.of (b1.trans (b2.mono b1.size))
      clear b1 b2
      simp only [agv, agZero]
      go_wp2
      go_ret
      exact ⟨rfl, B2.out⟩
  exact key (by omega)

set_option maxHeartbeats 1600000 in
theorem ends_main (v : Value) (xs : List Int) (h0 : 0 < xs.length) (hn : xs.length ≤ 60) (w : World) (hv : NumRow .i64 w v xs) (hl : Ints xs) :
    Calls Try.prog 8 #[v] w fun e w' => e = .returned (.bool true) ∧ Below w.heap.size w w' := by
  have NV := Hid.of hv
  obtain ⟨sa, c, rfl, hv⟩ := hv
  have HV := Hid.of hv
  have HL := Hid.of hl
  obtain ⟨s, hs⟩ : ∃ s, agOf xs = s := ⟨_, rfl⟩
  obtain ⟨e0, e1, e2, e3, e4⟩ := agOf_ends xs hl h0 hn
  rw [hs] at e0 e1 e2 e3 e4
  have HS := Hid.of hs
  have E0 := Hid.of e0
  have E1 := Hid.of e1
  have E2 := Hid.of e2
  have E3 := Hid.of e3
  have E4 := Hid.of e4
  have i1 : ¬ ((xs.length : Int) < 1) := by omega
  clear hv hl hs e0 e1 e2 e3 e4
  go_enter Try.func8, Try.ntmps8
  go_wp2_with fail
  refine (aggOf_any _ xs _ NV.out HL.out (by omega)).mono ?_
  rintro e w1 ⟨rfl, b1⟩
  rw [HS.out]
  have B1 := Hid.of (b1.alloc b1.size (.cells (agCells s) 27))
  have g1 := Hid.of (AgBlk.new w1 s)
  have lt1 : w.heap.size ≤ w1.heap.size := b1.size
  clear b1
  simp only [agv]
  go_wp2
  go_loopw [4, 5, 6] (fun l m i wr => ∃ (j : Nat) (p q : Bool), j ≤ xs.length ∧ i = .int .i64 j ∧ l = .bool p ∧ m = .bool q ∧ Hid (p = (xs.take j).any (· == s.mn)) ∧ Hid (q = (xs.take j).any (· == s.mx)) ∧ Below w.heap.size w wr ∧ Hid (AgBlk wr w1.heap.size s)) (fun _ _ i _ => xs.length - (RowKit.intOf i).toNat)
  case atStart => exact ⟨0, false, false, Nat.zero_le _, rfl, rfl, rfl, Hid.of (by simp), Hid.of (by simp), B1.out, g1⟩
  case round =>
    obtain ⟨j, p, q, hj, rfl, rfl, rfl, hp, hq, hb, k1⟩ := hrel
    obtain ⟨s0, s1, s2, s3, s4⟩ := k1.out.at
    by_cases hlt : j < xs.length
    · have hne : xs ≠ [] := by intro e; subst e; simp at hlt
      obtain ⟨vb, vo, rfl, hvb, hcs⟩ := (HV.out).resolve_left hne
      obtain ⟨x, hxx⟩ : ∃ x, xs.getD j 0 = x := ⟨_, rfl⟩
      have hcell : wr.cell? ⟨vb, vo + j, none⟩ = some (.int .i64 x) := by rw [hb.cell hvb, hcs j hlt, hxx]
      have A1 := Hid.of (any_take xs s.mn j hlt)
      have A2 := Hid.of (any_take xs s.mx j hlt)
      rw [hxx] at A1 A2
      have hmem : x ∈ xs := by
        rw [← hxx]
        simp only [List.getD, List.getElem?_eq_getElem hlt, Option.getD_some]
        exact List.getElem_mem hlt
      obtain ⟨b1, b2⟩ := E4.out x hmem
      obtain ⟨y, hy⟩ : ∃ y, (x == s.mn) = y := ⟨_, rfl⟩
      obtain ⟨z, hz⟩ : ∃ z, (x == s.mx) = z := ⟨_, rfl⟩
      rw [hy] at A1
      rw [hz] at A2
      have i0 : (0 : Int) ≤ (j : Int) := Int.natCast_nonneg _
      have i2 : (j : Int) < (xs.length : Int) := by omega
      clear hcs hne hxx hmem
      cases p <;> cases q
      all_goals
        go_wp2
        go_quiet (fail)
        go_wp2
        go_quiet (fail)
        go_wp2
        go_quiet (fail)
        go_wp2
        exact ⟨⟨j + 1, _, _, by omega, by go_num, rfl, rfl, Hid.of (by rw [A1.out, ← hp.out]; simp), Hid.of (by rw [A2.out, ← hq.out]; simp), below_drewN hb _, Hid.of (k1.out.kept (below_drewN (Below.refl _ _) _))⟩, by simp [intOf]; omega⟩
    · have hjl : j = xs.length := by omega
      subst hjl
      have hp2 := hp.out
      have hq2 := hq.out
      rw [List.take_length, E2.out] at hp2
      rw [List.take_length, E3.out] at hq2
      subst hp2 hq2
      have e1 : (s.c == (xs.length : Int)) = true := beq_iff_eq.2 E1.out
      clear hp hq
      go_wp2_with fail
      refine (aggAlive_any _).mono ?_
      rintro e w2 ⟨rfl, b2⟩
      have k2 := Hid.of (k1.out.kept b2)
      have B2 := Hid.of (hb.trans (b2.mono hb.size))
      clear b2 s0 s1 s2 s3 s4
      obtain ⟨s0, s1, s2, s3, s4⟩ := k2.out.at
      go_wp2_with fail
      refine (Valid_named s _ E0.out _).mono ?_
      rintro e w3 ⟨rfl, b3⟩
      have B3 := Hid.of (B2.out.trans (b3.mono B2.out.size))
      clear b3
      go_wp2
      go_ret
      exact ⟨rfl, B3.out⟩

theorem ends_any (v : Value) (xs : List Int) (w : World) (hv : NumRow .i64 w v xs) (hl : Ints xs) :
    Calls Try.prog 8 #[v] w fun e w' => e = .returned (.bool true) ∧ Below w.heap.size w w' := by
  by_cases h : xs.length < 1 ∨ 60 < xs.length
  · exact ends_light v xs h w hv
  · exact ends_main v xs (by omega) (by omega) w hv hl

end Go.Proofs.Ytfoffoiimlgoeaa
