/-
  What functions Room and Short of package sedimentbook answer.
-/
import Derived.Test.YtcjfejhfafiaiaaBA
namespace Go.Proofs.Ytcjfejhfafiaiaa
open Go.RowKit Go.Lib

/-- How much room is left behind parts of these sizes; -1: they have none. -/
def room : Int → List Int → Int
  | l, [] => l
  | l, x :: xs => if l < 0 ∨ l < x then -1 else room (l - x) xs

theorem room_le (l : Int) (xs : List Int) (h : ∀ x ∈ xs, 0 ≤ x) : room l xs ≤ max l (-1) := by
  induction xs generalizing l with
  | nil => simp [room]; omega
  | cons x xs ih =>
    rw [room]
    split
    · omega
    · have h1 := ih (l - x) fun y hy => h y (by simp [hy])
      have h2 := h x (by simp)
      omega

theorem room_ge (l : Int) (xs : List Int) (h : -1 ≤ l) : -1 ≤ room l xs := by
  induction xs generalizing l with
  | nil => exact h
  | cons x xs ih =>
    rw [room]
    split
    · omega
    · exact ih _ (by omega)

theorem room_drop (l : Int) (xs : List Int) (j : Nat) (h : j < xs.length) : room l (xs.drop j) = if l < 0 ∨ l < xs.getD j 0 then -1 else room (l - xs.getD j 0) (xs.drop (j + 1)) := by
  have e : xs.getD j 0 = xs[j] := by simp [List.getD, h]
  rw [List.drop_eq_getElem_cons h, room, e]

set_option maxHeartbeats 800000 in
theorem Room_any (l0 : Int) (hl : -1 ≤ l0) (hl2 : l0 ≤ 4611686018427387904) (v : Value) (xs : List Int) (hx : Hid (∀ j, j < xs.length → 0 ≤ xs.getD j 0)) (hn : xs.length ≤ 1000000000) (w : World) (hv : NumRow .i64 w v xs) :
    Calls Try.prog 59 #[.int .i64 l0, v] w fun e w' => e = .returned (.int .i64 (room l0 xs)) ∧ w = w' := by
  obtain ⟨a, c, rfl, hv⟩ := hv
  have HV := Hid.of hv
  clear hv
  go_enter Try.func59, Try.ntmps59
  go_wp2
  go_loop [0, 5] (fun lv i => ∃ (j : Nat) (l : Int), j ≤ xs.length ∧ i = .int .i64 j ∧ lv = .int .i64 l ∧ -1 ≤ l ∧ l ≤ 4611686018427387904 ∧ Hid (room l0 xs = room l (xs.drop j))) (fun _ i => xs.length - (RowKit.intOf i).toNat)
  case atStart => exact ⟨0, l0, Nat.zero_le _, rfl, rfl, hl, hl2, Hid.of rfl⟩
  case round =>
    obtain ⟨j, l, hj, rfl, rfl, b1, b2, hr⟩ := hrel
    by_cases hlt : j < xs.length
    · have hne : xs ≠ [] := by intro e; subst e; simp at hlt
      obtain ⟨vb, vo, rfl, hvb, hcs⟩ := (HV.out).resolve_left hne
      obtain ⟨x, hxx⟩ : ∃ x, xs.getD j 0 = x := ⟨_, rfl⟩
      have hcell : w.cell? ⟨vb, vo + j, none⟩ = some (.int .i64 x) := by rw [hcs j hlt, hxx]
      have c1 := hx.out j hlt
      rw [hxx] at c1
      have hstep := room_drop l xs j hlt
      rw [hxx] at hstep
      have HS := Hid.of hstep
      clear hstep hcs hne hxx
      have i0 : (0 : Int) ≤ (j : Int) := Int.natCast_nonneg _
      have i1 : (j : Int) < (xs.length : Int) := by omega
      by_cases hneg : l < 0
      · go_wp2
        go_ret
        rw [hr.out, HS.out, if_pos (.inl hneg)]
        exact ⟨rfl, rfl⟩
      · by_cases hbig : l < x
        · go_wp2
          go_ret
          rw [hr.out, HS.out, if_pos (.inr hbig)]
          exact ⟨rfl, rfl⟩
        · go_wp2
          go_round
          case rel => exact ⟨j + 1, l - x, by omega, by go_num, rfl, by omega, by omega, Hid.of (by rw [hr.out, HS.out, if_neg (by omega)])⟩
          case measure => simp [RowKit.intOf]; omega
    · have hjl : j = xs.length := by omega
      subst hjl
      have hfin := hr.out
      rw [List.drop_length] at hfin
      have HF := Hid.of hfin
      clear hfin
      go_wp2
      go_ret
      rw [HF.out]
      exact ⟨rfl, rfl⟩

theorem Room_at (l : Int) (hl : -1 ≤ l) (hl2 : l ≤ 4611686018427387904) (x : Int) (hx : Hid (∀ j, j < [x].length → 0 ≤ [x].getD j 0)) (w1 : World) (t : TypeId) (b : Nat) (hb : b = w1.heap.size) (q : Int) (hq : room l [x] = q) :
    Calls Try.prog 59 #[.int .i64 l, .slice (some ⟨b, 0, none⟩) 1 1] (w1.alloc (.cells #[.int .i64 x] t)) fun e w' => e = .returned (.int .i64 q) ∧ Below w1.heap.size w1 w' := by
  refine (Room_any l hl hl2 _ [x] hx (by simp) _ (NumRow.made .i64 _ _ [x] _ rfl _ _ _ hb rfl)).mono ?_
  rintro e w' ⟨he, rfl⟩
  exact ⟨by rw [he, hq], (Below.refl _ _).alloc (Nat.le_refl _) _⟩

/-- How many bytes texts have together. -/
def total (ss : List ByteArray) : Nat := (ss.map ByteArray.size).sum

theorem total_take (ss : List ByteArray) (j : Nat) (h : j < ss.length) : total (ss.take (j + 1)) = total (ss.take j) + (ss.getD j ByteArray.empty).size := by
  unfold total
  have e : ss.getD j ByteArray.empty = ss[j] := by simp [List.getD, h]
  rw [List.take_succ_eq_append_getElem h, List.map_append, List.sum_append, e]
  simp

theorem total_take_le (ss : List ByteArray) (j : Nat) : total (ss.take j) ≤ total ss := by
  have h : total ss = total (ss.take j) + total (ss.drop j) := by
    unfold total
    rw [← List.sum_append, ← List.map_append, List.take_append_drop]
  omega

/-- What Short ends with. -/
def ShortEnd (few r0 : Nat) (ss : List ByteArray) (w : World) (e : Ending) (w' : World) : Prop := ∃ r : Bool, e = .returned (.bool r) ∧ Hid (r = true → ss.length ≤ few ∧ total ss ≤ r0) ∧ Below w.heap.size w w'

set_option maxHeartbeats 800000 in
theorem Short_sum (few r0 : Nat) (hr : r0 ≤ 4611686018427387904) (hf : few ≤ 1000000) (v : Value) (ss : List ByteArray) (w : World) (hv : StrRow w v ss) :
    Calls Try.prog 18 #[.int .i64 few, .int .i64 r0, v] w (ShortEnd few r0 ss w) := by
  obtain ⟨a, c, rfl, hv⟩ := hv
  have HV := Hid.of hv
  clear hv
  by_cases hlen : few < ss.length
  · go_enter Try.func18, Try.ntmps18
    go_wp2
    go_ret
    exact ⟨false, rfl, Hid.of (fun h => by cases h), Below.refl _ _⟩
  · go_enter Try.func18, Try.ntmps18
    go_wp2
    go_loopw [1, 7] (fun lv i wr => ∃ (j : Nat) (l : Int), j ≤ ss.length ∧ i = .int .i64 j ∧ lv = .int .i64 l ∧ -1 ≤ l ∧ l ≤ 4611686018427387904 ∧ Hid (0 ≤ l → l + total (ss.take j) = r0) ∧ Below w.heap.size w wr) (fun _ i _ => ss.length - (RowKit.intOf i).toNat)
    case atStart => exact ⟨0, r0, Nat.zero_le _, rfl, rfl, by omega, by omega, Hid.of (fun _ => by simp [total]), Below.refl _ _⟩
    case round =>
      obtain ⟨j, l, hj, rfl, rfl, b1, b2, hs0, hbe⟩ := hrel
      by_cases hlt : j < ss.length
      · by_cases hneg : l < 0
        · have hd : decide (0 ≤ l) = false := decide_eq_false (by omega)
          go_wp2
          go_ret
          exact ⟨false, rfl, Hid.of (fun h => by cases h), hbe⟩
        · have hne : ss ≠ [] := by intro e; subst e; simp at hlt
          obtain ⟨vb, vo, rfl, hvb, hcs⟩ := (HV.out).resolve_left hne
          obtain ⟨s, hs⟩ : ∃ s, ss.getD j ByteArray.empty = s := ⟨_, rfl⟩
          have hcell : wr.cell? ⟨vb, vo + j, none⟩ = some (.string s) := by rw [hbe.cell hvb, hcs j hlt, hs]
          have hT := Hid.of (total_take ss j hlt)
          rw [hs] at hT
          have hB := hbe.size
          have h1 : Hid (∀ q, q < [((s.size : Nat) : Int)].length → 0 ≤ [((s.size : Nat) : Int)].getD q 0) := Hid.of fun q hq => by
            match q, hq with
            | 0, _ => exact Int.natCast_nonneg _
            | q + 1, hq => simp at hq
          have hr2 := room_le l [((s.size : Nat) : Int)] (fun x hx => by simp at hx; omega)
          have hr3 := room_ge l [((s.size : Nat) : Int)] b1
          have hq0 : Hid (0 ≤ room l [((s.size : Nat) : Int)] → room l [((s.size : Nat) : Int)] + total (ss.take (j + 1)) = r0) := Hid.of (by
            intro h
            have hroom : room l [((s.size : Nat) : Int)] = if l < 0 ∨ l < (s.size : Int) then -1 else l - (s.size : Int) := rfl
            rw [hroom] at h ⊢
            rw [hT.out]
            split at h
            · omega
            · rename_i hc
              rw [if_neg hc]
              have := hs0.out (by omega)
              omega)
          clear hcs hne hs
          have i0 : (0 : Int) ≤ (j : Int) := Int.natCast_nonneg _
          have i1 : (j : Int) < (ss.length : Int) := by omega
          generalize hq : room l [((s.size : Nat) : Int)] = q at *
          have HQ := Hid.of hq
          clear hq
          go_wp2_with fail
          refine (Room_at l b1 b2 _ h1 _ _ _ rfl q HQ.out).mono ?_
          rintro e w8 ⟨rfl, b8⟩
          go_wp2
          go_roundw
          case rel => exact ⟨j + 1, q, by omega, by go_num, rfl, by omega, by omega, hq0, hbe.trans (b8.mono hbe.size)⟩
          case measure => simp [RowKit.intOf]; omega
      · have hjl : j = ss.length := by omega
        subst hjl
        by_cases hneg : l < 0
        · have hd : decide (0 ≤ l) = false := decide_eq_false (by omega)
          go_wp2
          go_ret
          exact ⟨false, rfl, Hid.of (fun h => by cases h), hbe⟩
        · have hfin := Hid.of (hs0.out (by omega))
          go_wp2
          go_ret
          exact ⟨true, rfl, Hid.of (fun _ => by have := hfin.out; rw [List.take_length] at this; exact ⟨by omega, by omega⟩), hbe⟩

theorem Short_any (few r0 : Nat) (hr : r0 ≤ 4611686018427387904) (hf : few ≤ 1000000) (v : Value) (ss : List ByteArray) (w : World) (hv : StrRow w v ss) :
    Calls Try.prog 18 #[.int .i64 few, .int .i64 r0, v] w fun e w' => ∃ r : Bool, e = .returned (.bool r) ∧ Hid (r = true → ss.length ≤ few) ∧ Below w.heap.size w w' :=
  (Short_sum few r0 hr hf v ss w hv).mono fun _ _ ⟨r, he, h, hb⟩ => ⟨r, he, Hid.of (fun hr => (h.out hr).1), hb⟩

end Go.Proofs.Ytcjfejhfafiaiaa
