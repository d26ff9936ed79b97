/-
  What statement AggBack answers: true, for every input.
-/
import Derived.Test.YtfoffoiimlgoeaaAGI
import Derived.Test.YtfoffoiimlgoeaaAGE
namespace Go.Proofs.Ytfoffoiimlgoeaa
open Go.RowKit Go.Lib

theorem unsigned_lt (x : Int) : (unsigned x).toNat < 18446744073709551616 := by
  unfold unsigned
  rw [wrapU]
  omega

theorem back_int (x : Int) (h : -9223372036854775808 ≤ x ∧ x ≤ 9223372036854775807) : wrap64 (((unsigned x).toNat : Nat) : Int) = x := by
  rw [i64_wrap]
  have : (((unsigned x).toNat : Nat) : Int) = x % 18446744073709551616 := by
    unfold unsigned
    rw [wrapU]
    omega
  rw [this]
  unfold w64
  omega

theorem part_val {l : List UInt8} {pre post : List UInt8} {x k : Nat} (hl : l = pre ++ (le 8 x ++ post)) (hk : pre.length = k) (hx : x < 18446744073709551616) : val ((l.drop k).take 8) = x := by
  subst hk hl
  rw [List.drop_left, List.take_append_of_le_length (by rw [le_length]; exact Nat.le_refl _), List.take_of_length_le (by rw [le_length]; exact Nat.le_refl _)]
  exact val_le 8 x hx

theorem agRead_text (a : Ag) (h : AgIn a) : agRead (agText a) = a := by
  obtain ⟨h0, h1, h2, h3, h4⟩ := h
  have hb : (agText a).data.toList = agBytes a := by simp [agText]
  have c0 : chunk (agText a) 0 = (unsigned a.c).toNat := by
    unfold chunk
    rw [hb]
    exact part_val (pre := []) (by unfold agBytes; simp only [List.append_assoc, List.nil_append]; rfl) rfl (unsigned_lt _)
  have c1 : chunk (agText a) 8 = (unsigned a.hi).toNat := by
    unfold chunk
    rw [hb]
    exact part_val (pre := le 8 (unsigned a.c).toNat) (by unfold agBytes; simp only [List.append_assoc]; rfl) (by simp [le_length]) (unsigned_lt _)
  have c2 : chunk (agText a) 16 = a.lo.toNat := by
    unfold chunk
    rw [hb]
    exact part_val (pre := le 8 (unsigned a.c).toNat ++ le 8 (unsigned a.hi).toNat) (by unfold agBytes; simp only [List.append_assoc]; rfl) (by simp [le_length]) (by omega)
  have c3 : chunk (agText a) 24 = (unsigned a.mn).toNat := by
    unfold chunk
    rw [hb]
    exact part_val (pre := le 8 (unsigned a.c).toNat ++ le 8 (unsigned a.hi).toNat ++ le 8 a.lo.toNat) (by unfold agBytes; simp only [List.append_assoc]; rfl) (by simp [le_length]) (unsigned_lt _)
  have c4 : chunk (agText a) 32 = (unsigned a.mx).toNat := by
    unfold chunk
    rw [hb]
    exact part_val (pre := le 8 (unsigned a.c).toNat ++ le 8 (unsigned a.hi).toNat ++ le 8 a.lo.toNat ++ le 8 (unsigned a.mn).toNat) (post := []) (by unfold agBytes; simp only [List.append_assoc, List.append_nil]) (by simp [le_length]) (unsigned_lt _)
  apply Ag.same
  · simp only [agRead, c0]; exact back_int _ h0
  · simp only [agRead, c1]; exact back_int _ h1
  · simp only [agRead, c2]; omega
  · simp only [agRead, c3]; exact back_int _ h3
  · simp only [agRead, c4]; exact back_int _ h4

/-- What Get answers of the text of a. -/
theorem Get_text (a : Ag) (h : AgIn a) (ho : agOk a = true) (t : ByteArray) (ht : agText a = t) (w : World) : Calls Try.prog 27 #[.string t] w fun e w' => e = .returned (.tuple #[agv a, .int .i64 0]) ∧ Below w.heap.size w w' := by
  subst ht
  have := Get_full (agText a) (agText_size a) true (by rw [agRead_text a h]; exact ho) w
  rw [agRead_text a h] at this
  exact this

theorem Put_named (a : Ag) (h : agOk a = true) (ha : AgIn a) (t : ByteArray) (ht : agText a = t) (w : World) : Calls Try.prog 19 #[agv a] w fun e w' => e = .returned (.tuple #[.string t, .int .i64 0]) ∧ Below w.heap.size w w' := by
  subst ht
  exact Put_good a h ha w

theorem back_none (a : Ag) (cut : Int) (h : agOk a = false) (w : World) :
    Calls Try.prog 6 #[agv a, .int .i64 cut] w fun e w' => e = .returned (.bool true) ∧ Below w.heap.size w w' := by
  have HO := Hid.of h
  have g0 := Hid.of (AgBlk.new w a)
  have B0 := Hid.of ((Below.refl w.heap.size w).alloc (Nat.le_refl _) (.cells (agCells a) 27))
  clear h
  go_enter Try.func6, Try.ntmps6
  go_wp2_with fail
  refine (Put_bad a HO.out _).mono ?_
  rintro e w1 ⟨rfl, b1⟩
  have g1 := Hid.of (g0.out.kept b1)
  have B1 := Hid.of (B0.out.trans (b1.mono B0.out.size))
  clear b1
  go_wp2_with fail
  refine (aggAlive_any _).mono ?_
  rintro e w2 ⟨rfl, b2⟩
  have g2 := Hid.of (g1.out.kept b2)
  have B2 := Hid.of (B1.out.trans (b2.mono B1.out.size))
  clear b2
  obtain ⟨q0, q1, q2, q3, q4⟩ := g2.out.at
  go_wp2_with fail
  refine (Valid_named a _ HO.out _).mono ?_
  rintro e w3 ⟨rfl, b3⟩
  have B3 := Hid.of (B2.out.trans (b3.mono B2.out.size))
  clear b3
  go_wp2
  go_ret
  exact ⟨rfl, B3.out⟩

set_option maxHeartbeats 800000 in
theorem back_good (a : Ag) (cut : Int) (h : agOk a = true) (ha : AgIn a) (w : World) :
    Calls Try.prog 6 #[agv a, .int .i64 cut] w fun e w' => e = .returned (.bool true) ∧ Below w.heap.size w w' := by
  have HO := Hid.of h
  have HA := Hid.of ha
  obtain ⟨t, ht⟩ : ∃ t, agText a = t := ⟨_, rfl⟩
  have hz : t.size = 40 := by rw [← ht]; exact agText_size a
  have HT := Hid.of ht
  have key : ∀ hs : cut < 0 ∨ (¬ cut < 0 ∧ 40 ≤ cut) ∨ (∃ c : Nat, cut = (c : Int) ∧ c < 40), Calls Try.prog 6 #[agv a, .int .i64 cut] w fun e w' => e = .returned (.bool true) ∧ Below w.heap.size w w' := by
    intro hs
    have HZ := Hid.of hz
    have g0 := Hid.of (AgBlk.new w a)
    have B0 := Hid.of ((Below.refl w.heap.size w).alloc (Nat.le_refl _) (.cells (agCells a) 27))
    clear h ha ht
    have S0 : Hid (ByteArray.empty.size ≠ 40) := Hid.of (by decide)
    rcases hs with h1 | ⟨h1, h2⟩ | ⟨c, rfl, h2⟩
    case' inr.inr =>
      have S0 : Hid ((t.extract 0 c).size ≠ 40) := Hid.of (by rw [ByteArray.size_extract]; omega)
      have i0 : (0 : Int) ≤ (c : Int) := Int.natCast_nonneg _
    all_goals
      go_enter Try.func6, Try.ntmps6
      go_wp2_with fail
      refine (Put_named a HO.out HA.out t HT.out _).mono ?_
      rintro e w1 ⟨rfl, b1⟩
      have g1 := Hid.of (g0.out.kept b1)
      have B1 := Hid.of (B0.out.trans (b1.mono B0.out.size))
      clear b1
      go_wp2_with fail
      refine (Get_text a HA.out HO.out t HT.out _).mono ?_
      rintro e w2 ⟨rfl, b2⟩
      have g2 := Hid.of ((g1.out.kept b2).alloc (.cells (agCells a) 27))
      have h2 := Hid.of (AgBlk.new w2 a)
      have B2' := Hid.of (B1.out.trans (b2.mono B1.out.size))
      have B2 := Hid.of (B2'.out.alloc B2'.out.size (.cells (agCells a) 27))
      clear b2 B2'
      simp only [agv]
      go_wp2_with fail
      refine (Get_short _ S0.out _).mono ?_
      rintro e w3 ⟨rfl, b3⟩
      have g3 := Hid.of ((g2.out.kept b3).alloc (.cells (agCells agZero) 27))
      have h3 := Hid.of ((h2.out.kept b3).alloc (.cells (agCells agZero) 27))
      have B3' := Hid.of (B2.out.trans (b3.mono B2.out.size))
      have B3 := Hid.of (B3'.out.alloc B3'.out.size (.cells (agCells agZero) 27))
      clear b3 B3'
      simp only [agv]
      go_wp2_with fail
      refine (aggAlive_any _).mono ?_
      rintro e w4 ⟨rfl, b4⟩
      have g4 := Hid.of (g3.out.kept b4)
      have h4 := Hid.of (h3.out.kept b4)
      have B4 := Hid.of (B3.out.trans (b4.mono B3.out.size))
      clear b4
      obtain ⟨q0, q1, q2, q3, q4⟩ := g4.out.at
      obtain ⟨p0, p1, p2, p3, p4⟩ := h4.out.at
      go_wp2
      go_ret
      exact ⟨rfl, B4.out⟩
  by_cases h1 : cut < 0
  · exact key (.inl h1)
  · by_cases h2 : 40 ≤ cut
    · exact key (.inr (.inl ⟨h1, h2⟩))
    · exact key (.inr (.inr ⟨cut.toNat, by omega, by omega⟩))

theorem back_any (a : Ag) (cut : Int) (ha : AgIn a) (w : World) :
    Calls Try.prog 6 #[agv a, .int .i64 cut] w fun e w' => e = .returned (.bool true) ∧ Below w.heap.size w w' := by
  by_cases h : agOk a = true
  · exact back_good a cut h ha w
  · exact back_none a cut (by simpa using h) w

end Go.Proofs.Ytfoffoiimlgoeaa
