/-
  What functions Put of package agg, and PutAgg of the document's own, answer.
-/
import Derived.Test.YtfoffoiimlgoeaaAGK
import Derived.Test.YtfoffoiimlgoeaaL
import Derived.Test.YtfoffoiimlgoeaaBP
namespace Go.Proofs.Ytfoffoiimlgoeaa
open Go.RowKit Go.Lib

/-- The forty bytes of an aggregate. -/
def agBytes (a : Ag) : List UInt8 := le 8 (unsigned a.c).toNat ++ le 8 (unsigned a.hi).toNat ++ le 8 a.lo.toNat ++ le 8 (unsigned a.mn).toNat ++ le 8 (unsigned a.mx).toNat

def agText (a : Ag) : ByteArray := ⟨(agBytes a).toArray⟩

theorem agBytes_len (a : Ag) : (agBytes a).length = 40 := by simp [agBytes, le_length]

theorem agText_size (a : Ag) : (agText a).size = 40 := by
  unfold agText
  show (agBytes a).toArray.size = 40
  rw [List.size_toArray, agBytes_len]

theorem put_bytes (a : Ag) : [] ++ smallBytes 8 ([a.c, a.hi].map unsigned) ++ smallBytes 8 [a.lo] ++ smallBytes 8 ([a.mn, a.mx].map unsigned) = agBytes a := by
  simp [agBytes, smallBytes]

theorem put_len1 (a : Ag) : ([] ++ smallBytes 8 ([a.c, a.hi].map unsigned)).length = 16 := by simp [smallBytes_length]

theorem put_len2 (a : Ag) : ([] ++ smallBytes 8 ([a.c, a.hi].map unsigned) ++ smallBytes 8 [a.lo]).length = 24 := by simp [smallBytes_length]

theorem pk_lt {B p : Nat} {l : List UInt8} {bad : Int} {w : World} (h : Pk B p l bad w) : p < w.heap.size := by
  obtain ⟨r, last, h, _⟩ := h
  exact (Array.getElem?_eq_some_iff.1 h).1

theorem Put_bad (a : Ag) (h : agOk a = false) (w : World) : Calls Try.prog 19 #[agv a] w fun e w' => e = .returned (.tuple #[.string ⟨#[]⟩, .int .i64 1]) ∧ Below w.heap.size w w' := by
  have HO := Hid.of h
  have B0 := Hid.of ((Below.refl w.heap.size w).alloc (Nat.le_refl _) (.cells (agCells a) 27))
  clear h
  go_enter Try.func19, Try.ntmps19
  go_wp2_with fail
  refine (aggValid_any a _).mono ?_
  rintro e w1 ⟨rfl, b1⟩
  rw [HO.out]
  have B1 := Hid.of (B0.out.trans (b1.mono B0.out.size))
  clear b1
  go_wp2
  go_ret2
  exact ⟨rfl, B1.out⟩

set_option maxHeartbeats 800000 in
theorem Put_good (a : Ag) (h : agOk a = true) (ha : AgIn a) (w : World) : Calls Try.prog 19 #[agv a] w fun e w' => e = .returned (.tuple #[.string (agText a), .int .i64 0]) ∧ Below w.heap.size w w' := by
  have HO := Hid.of h
  have HL : Hid (∀ j, j < [a.lo].length → 0 ≤ [a.lo].getD j 0) := Hid.of (by
    intro j hj
    obtain rfl : j = 0 := by simp at hj; omega
    exact ha.2.2.1.1)
  have B0 := Hid.of ((Below.refl w.heap.size w).alloc (Nat.le_refl _) (.cells (agCells a) 27))
  have k0 := Hid.of (AgBlk.new w a)
  clear h ha
  go_enter Try.func19, Try.ntmps19
  go_wp2_with fail
  refine (aggValid_any a _).mono ?_
  rintro e w1 ⟨rfl, b1⟩
  rw [HO.out]
  have B1 := Hid.of (B0.out.trans (b1.mono B0.out.size))
  have k1 := Hid.of (k0.out.kept b1)
  obtain ⟨q0, q1, q2, q3, q4⟩ := k1.out.at
  have lt1 := k1.out.lt
  clear b1
  go_wp2_with fail
  refine (Ints_pk ((Pk.new w1).kept (World.grownBy_alloc _ _ _)) (by decide) _ [a.c, a.hi] (NumRow.made .i64 _ _ [a.c, a.hi] _ rfl _ _ _ (by simp) rfl) (by simp)).mono ?_
  rintro e w2 ⟨rfl, p2, g2⟩
  have b2 : Below w1.heap.size w1 w2 := (((Below.refl _ _).alloc (Nat.le_refl _) _).alloc (by simp) _).trans (Below.of_grown g2 (Nat.le_refl _) (by simp; omega))
  have k2 := Hid.of (k1.out.kept b2)
  have C2 := Hid.of b2
  have P2 := Hid.of p2
  clear p2 g2 b2 q0 q1 q2 q3 q4 lt1
  obtain ⟨q0, q1, q2, q3, q4⟩ := k2.out.at
  have lt1 := k2.out.lt
  go_wp2_with fail
  refine (Words_pk (P2.out.kept (World.grownBy_alloc _ _ _)) (by rw [put_len1]; decide) _ [a.lo] (NumRow.made .u64 _ _ [a.lo] _ rfl _ _ _ (by simp) rfl) HL.out (by simp)).mono ?_
  rintro e w3 ⟨rfl, p3, g3⟩
  have b3 : Below w1.heap.size w1 w3 := (C2.out.alloc C2.out.size _).trans (Below.of_grown g3 (Nat.le_refl _) (pk_lt (P2.out.kept (World.grownBy_alloc _ _ _))))
  have k3 := Hid.of (k1.out.kept b3)
  have C3 := Hid.of b3
  have P3 := Hid.of p3
  clear p3 g3 b3 q0 q1 q2 q3 q4 lt1 P2 C2 k2
  obtain ⟨q0, q1, q2, q3, q4⟩ := k3.out.at
  have lt1 := k3.out.lt
  go_wp2_with fail
  refine (Ints_pk (P3.out.kept (World.grownBy_alloc _ _ _)) (by rw [put_len2]; decide) _ [a.mn, a.mx] (NumRow.made .i64 _ _ [a.mn, a.mx] _ rfl _ _ _ (by simp) rfl) (by simp)).mono ?_
  rintro e w4 ⟨rfl, p4, g4⟩
  have b4 : Below w1.heap.size w1 w4 := (C3.out.alloc C3.out.size _).trans (Below.of_grown g4 (Nat.le_refl _) (pk_lt (P3.out.kept (World.grownBy_alloc _ _ _))))
  rw [put_bytes] at p4
  have C4 := Hid.of b4
  have P4 := Hid.of p4
  clear p4 g4 b4 q0 q1 q2 q3 q4 lt1 P3 C3 k3
  go_wp2_with fail
  refine (Done_good _ _ _ _ P4.out (by rw [agBytes_len]; decide)).mono ?_
  rintro e w5 ⟨rfl, b5⟩
  have B5 := Hid.of (B1.out.trans ((C4.out.trans (b5.mono C4.out.size)).mono B1.out.size))
  clear b5
  go_wp2
  go_ret2
  exact ⟨rfl, B5.out⟩

end Go.Proofs.Ytfoffoiimlgoeaa
