/-
  What functions Get of package agg, PutAgg and GetAgg of the document's own, answer.
-/
import Derived.Test.YtfoffoiimlgoeaaAGP
namespace Go.Proofs.Ytfoffoiimlgoeaa
open Go.RowKit Go.Lib

theorem refPut_bad (a : Ag) (h : agOk a = false) (w : World) : Calls Try.prog 20 #[agv a] w fun e w' => e = .returned (.tuple #[.string ⟨#[]⟩, .int .i64 1]) ∧ Below w.heap.size w w' := by
  have HO := Hid.of h
  have B0 := Hid.of ((Below.refl w.heap.size w).alloc (Nat.le_refl _) (.cells (agCells a) 27))
  clear h
  go_enter Try.func20, Try.ntmps20
  go_wp2_with fail
  refine (refValid_any a _).mono ?_
  rintro e w1 ⟨rfl, b1⟩
  rw [HO.out]
  have B1 := Hid.of (B0.out.trans (b1.mono B0.out.size))
  clear b1
  go_wp2
  go_ret2
  exact ⟨rfl, B1.out⟩

set_option maxHeartbeats 800000 in
theorem refPut_good (a : Ag) (h : agOk a = true) (ha : AgIn a) (w : World) : Calls Try.prog 20 #[agv a] w fun e w' => e = .returned (.tuple #[.string (agText a), .int .i64 0]) ∧ Below w.heap.size w w' := by
  have HO := Hid.of h
  obtain ⟨m, hm⟩ := Int.eq_ofNat_of_zero_le ha.2.2.1.1
  have HM : Hid (m < 18446744073709551616) := Hid.of (by have := ha.2.2.1.2; omega)
  have HT : Hid (a.lo.toNat = m) := Hid.of (by rw [hm]; rfl)
  have B0 := Hid.of ((Below.refl w.heap.size w).alloc (Nat.le_refl _) (.cells (agCells a) 27))
  have k0 := Hid.of (AgBlk.new w a)
  have HL := Hid.of hm
  clear h ha hm
  go_enter Try.func20, Try.ntmps20
  go_wp2_with fail
  refine (refValid_any a _).mono ?_
  rintro e w1 ⟨rfl, b1⟩
  rw [HO.out]
  have B1 := Hid.of (B0.out.trans (b1.mono B0.out.size))
  have k1 := Hid.of (k0.out.kept b1)
  obtain ⟨q0, q1, q2, q3, q4⟩ := k1.out.at
  rw [HL.out] at q2
  have lt1 := k1.out.lt
  clear b1
  go_wp2_with fail
  refine (refInt_any w1.heap.size [] a.c (by decide) _ (RPk.new w1)).mono ?_
  rintro e w2 ⟨rfl, p2, b2⟩
  have C2 := Hid.of (((Below.refl w1.heap.size w1).alloc (Nat.le_refl _) (.cells #[.slice none 0 0, .int .i64 0] 62)).trans b2)
  have P2 := Hid.of p2
  have k2 := Hid.of (k1.out.kept C2.out)
  clear p2 b2 q0 q1 q2 q3 q4 lt1
  obtain ⟨q0, q1, q2, q3, q4⟩ := k2.out.at
  rw [HL.out] at q2
  have lt1 := k2.out.lt
  go_wp2_with fail
  refine (refInt_any w1.heap.size _ a.hi (by simp [le_length]) _ P2.out).mono ?_
  rintro e w3 ⟨rfl, p3, b3⟩
  have C3 := Hid.of (C2.out.trans b3)
  have P3 := Hid.of p3
  have k3 := Hid.of (k1.out.kept C3.out)
  clear p3 b3 q0 q1 q2 q3 q4 lt1 P2 C2 k2
  obtain ⟨q0, q1, q2, q3, q4⟩ := k3.out.at
  rw [HL.out] at q2
  have lt1 := k3.out.lt
  go_wp2_with fail
  refine (refWord_any w1.heap.size _ m 8 (by decide) HM.out (by simp [le_length]) _ P3.out).mono ?_
  rintro e w4 ⟨rfl, p4, b4⟩
  have C4 := Hid.of (C3.out.trans b4)
  have P4 := Hid.of p4
  have k4 := Hid.of (k1.out.kept C4.out)
  clear p4 b4 q0 q1 q2 q3 q4 lt1 P3 C3 k3
  obtain ⟨q0, q1, q2, q3, q4⟩ := k4.out.at
  have lt1 := k4.out.lt
  go_wp2_with fail
  refine (refInt_any w1.heap.size _ a.mn (by simp [le_length]) _ P4.out).mono ?_
  rintro e w5 ⟨rfl, p5, b5⟩
  have C5 := Hid.of (C4.out.trans b5)
  have P5 := Hid.of p5
  have k5 := Hid.of (k1.out.kept C5.out)
  clear p5 b5 q0 q1 q2 q3 q4 lt1 P4 C4 k4
  obtain ⟨q0, q1, q2, q3, q4⟩ := k5.out.at
  have lt1 := k5.out.lt
  go_wp2_with fail
  refine (refInt_any w1.heap.size _ a.mx (by simp [le_length]) _ P5.out).mono ?_
  rintro e w6 ⟨rfl, p6, b6⟩
  have C6 := Hid.of (C5.out.trans b6)
  clear b6 q0 q1 q2 q3 q4 lt1 P5 C5 k5
  obtain ⟨v, hrow, hown⟩ := p6
  have hcv := RPk.text hown (by simp [le_length])
  have hb : (⟨([] ++ le 8 (unsigned a.c).toNat ++ le 8 (unsigned a.hi).toNat ++ le 8 m ++ le 8 (unsigned a.mn).toNat ++ le 8 (unsigned a.mx).toNat).toArray⟩ : ByteArray) = agText a := by
    unfold agText agBytes
    rw [HT.out, List.nil_append]
  rw [hb] at hcv
  have c0 : w6.cell? ⟨w1.heap.size, 0, none⟩ = some v := by rw [cell_of_row w6 _ 0 _ _ _ hrow]; rfl
  have B6 := Hid.of (B1.out.trans (C6.out.mono B1.out.size))
  clear hown hrow hb
  go_wp2
  go_ret2
  exact ⟨rfl, B6.out⟩

end Go.Proofs.Ytfoffoiimlgoeaa
