/-
  A bundle of texts: AGP AGG AGH RGA.
-/
import Derived.Test.YtfgfgdchaoekfaaGreatDoorQ15
import Derived.Test.YtfgfgdchaoekfaaGreatDoorQ09
import Derived.Test.YtfgfgdchaoekfaaGreatDoorQ20
import Derived.Test.YtfgfgdchaoekfaaGreatDoorQ10
namespace Go.Proofs.YtfgfgdchaoekfaaGreatDoor
open Go.RowKit Go.Lib

/-- The forty bytes of an aggregate. -/
def agBytes (a : Ag) : List UInt8 := le 8 (unsigned a.c).toNat ++ le 8 (unsigned a.hi).toNat ++ le 8 a.lo.toNat ++ le 8 (unsigned a.mn).toNat ++ le 8 (unsigned a.mx).toNat

def agText (a : Ag) : ByteArray := ⟨(agBytes a).toArray⟩

theorem agBytes_len (a : Ag) : (agBytes a).length = 40 := by simp [agBytes, le_length]

theorem agText_size (a : Ag) : (agText a).size = 40 := by
  unfold agText
  show (agBytes a).toArray.size = 40
  rw [List.size_toArray, agBytes_len]

theorem put_bytes (a : Ag) : [] ++ smallBytes 8 ([a.c, a.hi].map unsigned) ++ smallBytes 8 [a.lo] ++ smallBytes 8 ([a.mn, a.mx].map unsigned) = agBytes a := by
  simp [agBytes, smallBytes]

theorem put_len1 (a : Ag) : ([] ++ smallBytes 8 ([a.c, a.hi].map unsigned)).length = 16 := by simp [smallBytes_length]

theorem put_len2 (a : Ag) : ([] ++ smallBytes 8 ([a.c, a.hi].map unsigned) ++ smallBytes 8 [a.lo]).length = 24 := by simp [smallBytes_length]

theorem pk_lt {B p : Nat} {l : List UInt8} {bad : Int} {w : World} (h : Pk B p l bad w) : p < w.heap.size := by
  obtain ⟨r, last, h, _⟩ := h
  exact (Array.getElem?_eq_some_iff.1 h).1

theorem Put_bad (a : Ag) (h : agOk a = false) (w : World) : Calls Tryz.prog 89 #[agv a] w fun e w' => e = .returned (.tuple #[.string ⟨#[]⟩, .int .i64 1]) ∧ Below w.heap.size w w' := by
  have HO := Hid.of h
  have B0 := Hid.of ((Below.refl w.heap.size w).alloc (Nat.le_refl _) (.cells (agCells a) 48))
  clear h
  go_enter Tryz.func89, Tryz.ntmps89
  go_wp2_with fail
  refine (aggValid_any a _).mono ?_
  rintro e w1 ⟨rfl, b1⟩
  rw [HO.out]
  have B1 := Hid.of (B0.out.trans (b1.mono B0.out.size))
  clear b1
  go_wp2
  go_ret2
  exact ⟨rfl, B1.out⟩

set_option maxHeartbeats 800000 in
theorem Put_good (a : Ag) (h : agOk a = true) (ha : AgIn a) (w : World) : Calls Tryz.prog 89 #[agv a] w fun e w' => e = .returned (.tuple #[.string (agText a), .int .i64 0]) ∧ Below w.heap.size w w' := by
  have HO := Hid.of h
  have HL : Hid (∀ j, j < [a.lo].length → 0 ≤ [a.lo].getD j 0) := Hid.of (by
    intro j hj
    obtain rfl : j = 0 := by simp at hj; omega
    exact ha.2.2.1.1)
  have B0 := Hid.of ((Below.refl w.heap.size w).alloc (Nat.le_refl _) (.cells (agCells a) 48))
  have k0 := Hid.of (AgBlk.new w a)
  clear h ha
  go_enter Tryz.func89, Tryz.ntmps89
  go_wp2_with fail
  refine (aggValid_any a _).mono ?_
  rintro e w1 ⟨rfl, b1⟩
  rw [HO.out]
  have B1 := Hid.of (B0.out.trans (b1.mono B0.out.size))
  have k1 := Hid.of (k0.out.kept b1)
  obtain ⟨q0, q1, q2, q3, q4⟩ := k1.out.at
  have lt1 := k1.out.lt
  clear b1
  go_wp2_with fail
  refine (Ints_pk ((Pk.new w1).kept (World.grownBy_alloc _ _ _)) (by decide) _ [a.c, a.hi] (NumRow.made .i64 _ _ [a.c, a.hi] _ rfl _ _ _ (by simp) rfl) (by simp)).mono ?_
  rintro e w2 ⟨rfl, p2, g2⟩
  have b2 : Below w1.heap.size w1 w2 := (((Below.refl _ _).alloc (Nat.le_refl _) _).alloc (by simp) _).trans (Below.of_grown g2 (Nat.le_refl _) (by simp; omega))
  have k2 := Hid.of (k1.out.kept b2)
  have C2 := Hid.of b2
  have P2 := Hid.of p2
  clear p2 g2 b2 q0 q1 q2 q3 q4 lt1
  obtain ⟨q0, q1, q2, q3, q4⟩ := k2.out.at
  have lt1 := k2.out.lt
  go_wp2_with fail
  refine (Words_pk (P2.out.kept (World.grownBy_alloc _ _ _)) (by rw [put_len1]; decide) _ [a.lo] (NumRow.made .u64 _ _ [a.lo] _ rfl _ _ _ (by simp) rfl) HL.out (by simp)).mono ?_
  rintro e w3 ⟨rfl, p3, g3⟩
  have b3 : Below w1.heap.size w1 w3 := (C2.out.alloc C2.out.size _).trans (Below.of_grown g3 (Nat.le_refl _) (pk_lt (P2.out.kept (World.grownBy_alloc _ _ _))))
  have k3 := Hid.of (k1.out.kept b3)
  have C3 := Hid.of b3
  have P3 := Hid.of p3
  clear p3 g3 b3 q0 q1 q2 q3 q4 lt1 P2 C2 k2
  obtain ⟨q0, q1, q2, q3, q4⟩ := k3.out.at
  have lt1 := k3.out.lt
  go_wp2_with fail
  refine (Ints_pk (P3.out.kept (World.grownBy_alloc _ _ _)) (by rw [put_len2]; decide) _ [a.mn, a.mx] (NumRow.made .i64 _ _ [a.mn, a.mx] _ rfl _ _ _ (by simp) rfl) (by simp)).mono ?_
  rintro e w4 ⟨rfl, p4, g4⟩
  have b4 : Below w1.heap.size w1 w4 := (C3.out.alloc C3.out.size _).trans (Below.of_grown g4 (Nat.le_refl _) (pk_lt (P3.out.kept (World.grownBy_alloc _ _ _))))
  rw [put_bytes] at p4
  have C4 := Hid.of b4
  have P4 := Hid.of p4
  clear p4 g4 b4 q0 q1 q2 q3 q4 lt1 P3 C3 k3
  go_wp2_with fail
  refine (Done_good _ _ _ _ P4.out (by rw [agBytes_len]; decide)).mono ?_
  rintro e w5 ⟨rfl, b5⟩
  have B5 := Hid.of (B1.out.trans ((C4.out.trans (b5.mono C4.out.size)).mono B1.out.size))
  clear b5
  go_wp2
  go_ret2
  exact ⟨rfl, B5.out⟩

end Go.Proofs.YtfgfgdchaoekfaaGreatDoor

namespace Go.Proofs.YtfgfgdchaoekfaaGreatDoor
open Go.RowKit Go.Lib

set_option maxHeartbeats 800000 in
theorem refPut_good (a : Ag) (h : agOk a = true) (ha : AgIn a) (w : World) : Calls Tryz.prog 34 #[agv a] w fun e w' => e = .returned (.tuple #[.string (agText a), .int .i64 0]) ∧ Below w.heap.size w w' := by
  have HO := Hid.of h
  obtain ⟨m, hm⟩ := Int.eq_ofNat_of_zero_le ha.2.2.1.1
  have HM : Hid (m < 18446744073709551616) := Hid.of (by have := ha.2.2.1.2; omega)
  have HT : Hid (a.lo.toNat = m) := Hid.of (by rw [hm]; rfl)
  have B0 := Hid.of ((Below.refl w.heap.size w).alloc (Nat.le_refl _) (.cells (agCells a) 48))
  have k0 := Hid.of (AgBlk.new w a)
  have HL := Hid.of hm
  clear h ha hm
  go_enter Tryz.func34, Tryz.ntmps34
  go_wp2_with fail
  refine (refValid_any a _).mono ?_
  rintro e w1 ⟨rfl, b1⟩
  rw [HO.out]
  have B1 := Hid.of (B0.out.trans (b1.mono B0.out.size))
  have k1 := Hid.of (k0.out.kept b1)
  obtain ⟨q0, q1, q2, q3, q4⟩ := k1.out.at
  rw [HL.out] at q2
  have lt1 := k1.out.lt
  clear b1
  go_wp2_with fail
  refine (refInt_any w1.heap.size [] a.c (by decide) _ (RPk.new w1)).mono ?_
  rintro e w2 ⟨rfl, p2, b2⟩
  have C2 := Hid.of (((Below.refl w1.heap.size w1).alloc (Nat.le_refl _) (.cells #[.slice none 0 0, .int .i64 0] 76)).trans b2)
  have P2 := Hid.of p2
  have k2 := Hid.of (k1.out.kept C2.out)
  clear p2 b2 q0 q1 q2 q3 q4 lt1
  obtain ⟨q0, q1, q2, q3, q4⟩ := k2.out.at
  rw [HL.out] at q2
  have lt1 := k2.out.lt
  go_wp2_with fail
  refine (refInt_any w1.heap.size _ a.hi (by simp [le_length]) _ P2.out).mono ?_
  rintro e w3 ⟨rfl, p3, b3⟩
  have C3 := Hid.of (C2.out.trans b3)
  have P3 := Hid.of p3
  have k3 := Hid.of (k1.out.kept C3.out)
  clear p3 b3 q0 q1 q2 q3 q4 lt1 P2 C2 k2
  obtain ⟨q0, q1, q2, q3, q4⟩ := k3.out.at
  rw [HL.out] at q2
  have lt1 := k3.out.lt
  go_wp2_with fail
  refine (refWord_any w1.heap.size _ m 8 (by decide) HM.out (by simp [le_length]) _ P3.out).mono ?_
  rintro e w4 ⟨rfl, p4, b4⟩
  have C4 := Hid.of (C3.out.trans b4)
  have P4 := Hid.of p4
  have k4 := Hid.of (k1.out.kept C4.out)
  clear p4 b4 q0 q1 q2 q3 q4 lt1 P3 C3 k3
  obtain ⟨q0, q1, q2, q3, q4⟩ := k4.out.at
  have lt1 := k4.out.lt
  go_wp2_with fail
  refine (refInt_any w1.heap.size _ a.mn (by simp [le_length]) _ P4.out).mono ?_
  rintro e w5 ⟨rfl, p5, b5⟩
  have C5 := Hid.of (C4.out.trans b5)
  have P5 := Hid.of p5
  have k5 := Hid.of (k1.out.kept C5.out)
  clear p5 b5 q0 q1 q2 q3 q4 lt1 P4 C4 k4
  obtain ⟨q0, q1, q2, q3, q4⟩ := k5.out.at
  have lt1 := k5.out.lt
  go_wp2_with fail
  refine (refInt_any w1.heap.size _ a.mx (by simp [le_length]) _ P5.out).mono ?_
  rintro e w6 ⟨rfl, p6, b6⟩
  have C6 := Hid.of (C5.out.trans b6)
  clear b6 q0 q1 q2 q3 q4 lt1 P5 C5 k5
  obtain ⟨v, hrow, hown⟩ := p6
  have hcv := RPk.text hown (by simp [le_length])
  have hb : (⟨([] ++ le 8 (unsigned a.c).toNat ++ le 8 (unsigned a.hi).toNat ++ le 8 m ++ le 8 (unsigned a.mn).toNat ++ le 8 (unsigned a.mx).toNat).toArray⟩ : ByteArray) = agText a := by
    unfold agText agBytes
    rw [HT.out, List.nil_append]
  rw [hb] at hcv
  have c0 : w6.cell? ⟨w1.heap.size, 0, none⟩ = some v := by rw [cell_of_row w6 _ 0 _ _ _ hrow]; rfl
  have B6 := Hid.of (B1.out.trans (C6.out.mono B1.out.size))
  clear hown hrow hb
  go_wp2
  go_ret2
  exact ⟨rfl, B6.out⟩

end Go.Proofs.YtfgfgdchaoekfaaGreatDoor

namespace Go.Proofs.YtfgfgdchaoekfaaGreatDoor
open Go.RowKit Go.Lib

/-- The number in eight bytes from k on. -/
def chunk (b : ByteArray) (k : Nat) : Nat := val ((b.data.toList.drop k).take 8)

/-- The aggregate of forty bytes. -/
def agRead (b : ByteArray) : Ag := ⟨wrap64 (chunk b 0), wrap64 (chunk b 8), chunk b 16, wrap64 (chunk b 24), wrap64 (chunk b 32)⟩

theorem wrap64_bounds (x : Int) : -9223372036854775808 ≤ wrap64 x ∧ wrap64 x ≤ 9223372036854775807 := by
  rw [i64_wrap]; exact w64_bounds x

theorem chunk_lt (b : ByteArray) (k : Nat) : chunk b k < 18446744073709551616 := by
  have := sub_val b k 8
  unfold chunk
  exact this

theorem agRead_in (b : ByteArray) : AgIn (agRead b) := by
  refine ⟨wrap64_bounds _, wrap64_bounds _, ⟨Int.natCast_nonneg _, ?_⟩, wrap64_bounds _, wrap64_bounds _⟩
  have := chunk_lt b 16
  simp only [agRead]
  omega

/-- What Get answers. -/
def agGot (b : ByteArray) : Ag × Int := if b.size = 40 then (if agOk (agRead b) = true then (agRead b, 0) else (agZero, 6)) else (agZero, 5)

theorem Int_at (u : Nat) (s : ByteArray) (k : Nat) (x : Int) (hx : wrap64 (val ((s.data.toList.drop k).take 8)) = x) (hn : k + 8 ≤ s.size) (w : World) (h : Un u s k 0 w) :
    Calls Tryz.prog 94 #[.pointer (some ⟨u, 0, none⟩)] w fun e w' => e = .returned (.int .i64 x) ∧ Un u s (k + 8) 0 w' ∧ w.grownBy w' (some u) := by
  subst hx
  exact Int_goodU u s k hn w h

theorem Word_at (u : Nat) (s : ByteArray) (k : Nat) (x : Int) (hx : ((val ((s.data.toList.drop k).take 8) : Nat) : Int) = x) (hn : k + 8 ≤ s.size) (w : World) (h : Un u s k 0 w) :
    Calls Tryz.prog 128 #[.pointer (some ⟨u, 0, none⟩)] w fun e w' => e = .returned (.int .u64 x) ∧ Un u s (k + 8) 0 w' ∧ w.grownBy w' (some u) := by
  subst hx
  exact Word_goodU u s k hn w h

theorem AgBlk.grown {w w' : World} {b p : Nat} {a : Ag} (h : AgBlk w b a) (hg : w.grownBy w' (some p)) (hne : b ≠ p) : AgBlk w' b a := by
  unfold AgBlk
  rw [hg.block b h.lt (by simpa using hne)]
  exact h

theorem Get_short (b : ByteArray) (h : b.size ≠ 40) (w : World) : Calls Tryz.prog 95 #[.string b] w fun e w' => e = .returned (.tuple #[agv agZero, .int .i64 5]) ∧ Below w.heap.size w w' := by
  have hd : ((b.size : Int) == 40) = false := by simpa using (by omega : ¬ (b.size : Int) = 40)
  have hd2 : ((b.size : Int) != 40) = true := by simp [bne, hd]
  clear h
  go_enter Tryz.func95, Tryz.ntmps95
  go_wp2
  refine bodyPost_ret (v := .tuple #[agv agZero, .int .i64 5]) ?_ rfl ⟨rfl, ?_⟩
  · simp [results, Tryz.results95, go_sem, agZero]
  · exact (Below.refl _ _).alloc (Nat.le_refl _) _

set_option maxHeartbeats 800000 in
theorem Get_full (b : ByteArray) (h : b.size = 40) (f : Bool) (hf : agOk (agRead b) = f) (w : World) : Calls Tryz.prog 95 #[.string b] w fun e w' => e = .returned (.tuple #[agv (if f = true then agRead b else agZero), .int .i64 (if f = true then 0 else 6)]) ∧ Below w.heap.size w w' := by
  have hd : ((b.size : Int) == 40) = true := by simpa using (by omega : (b.size : Int) = 40)
  have hd2 : ((b.size : Int) != 40) = false := by simp [bne, hd]
  have HS := Hid.of h
  have HF := Hid.of hf
  have g0 := Hid.of (AgBlk.new w agZero)
  clear h hf
  go_enter Tryz.func95, Tryz.ntmps95
  go_wp2_with fail
  refine (From_any b _ (by rw [HS.out]; decide)).mono ?_
  rintro e w1 ⟨rfl, u1, c1⟩
  have b1 := below_of_none c1
  have u1' : Un (w.heap.size + 1) b 0 0 w1 := by simpa using u1
  have U1 := Hid.of u1'
  have g1 := Hid.of (g0.out.kept b1)
  have B1 := Hid.of (((Below.refl w.heap.size w).alloc (Nat.le_refl _) (.cells (agCells agZero) 48)).trans (b1.mono (by simp)))
  clear u1 u1' c1 b1 hd hd2 g0
  go_wp2_with fail
  refine (Int_at _ b 0 (agRead b).c rfl (by rw [HS.out]; decide) _ U1.out).mono ?_
  rintro e w2 ⟨rfl, u2, c2⟩
  have U2 := Hid.of u2
  have g2 := Hid.of (g1.out.grown c2 (by omega))
  have B2 := Hid.of (B1.out.trans (Below.of_grown c2 (by omega) U1.out.lt))
  clear u2 c2 U1 g1 B1
  go_wp2_with fail
  refine (Int_at _ b 8 (agRead b).hi rfl (by rw [HS.out]; decide) _ U2.out).mono ?_
  rintro e w3 ⟨rfl, u3, c3⟩
  have U3 := Hid.of u3
  have g3 := Hid.of (g2.out.grown c3 (by omega))
  have B3 := Hid.of (B2.out.trans (Below.of_grown c3 (by omega) U2.out.lt))
  clear u3 c3 U2 g2 B2
  go_wp2_with fail
  refine (Word_at _ b 16 (agRead b).lo rfl (by rw [HS.out]; decide) _ U3.out).mono ?_
  rintro e w4 ⟨rfl, u4, c4⟩
  have U4 := Hid.of u4
  have g4 := Hid.of (g3.out.grown c4 (by omega))
  have B4 := Hid.of (B3.out.trans (Below.of_grown c4 (by omega) U3.out.lt))
  clear u4 c4 U3 g3 B3
  go_wp2_with fail
  refine (Int_at _ b 24 (agRead b).mn rfl (by rw [HS.out]; decide) _ U4.out).mono ?_
  rintro e w5 ⟨rfl, u5, c5⟩
  have U5 := Hid.of u5
  have g5 := Hid.of (g4.out.grown c5 (by omega))
  have B5 := Hid.of (B4.out.trans (Below.of_grown c5 (by omega) U4.out.lt))
  clear u5 c5 U4 g4 B4
  go_wp2_with fail
  refine (Int_at _ b 32 (agRead b).mx rfl (by rw [HS.out]; decide) _ U5.out).mono ?_
  rintro e w6 ⟨rfl, u6, c6⟩
  have U6 := Hid.of u6
  have g6 := Hid.of (g5.out.grown c6 (by omega))
  have B6 := Hid.of (B5.out.trans (Below.of_grown c6 (by omega) U5.out.lt))
  clear u6 c6 U5 g5 B5
  obtain ⟨x, hx⟩ : ∃ x, agRead b = x := ⟨_, rfl⟩
  rw [hx] at HF ⊢
  have HX := Hid.of hx
  have lt6 := g6.out.lt
  clear hx
  go_wp2_with fail
  refine (aggValid_any x _).mono ?_
  rintro e w7 ⟨rfl, b7⟩
  rw [HF.out]
  have g7 := Hid.of ((g6.out.alloc _).kept b7)
  have h7 := Hid.of ((AgBlk.made w6 x _ _ rfl (by rfl)).kept b7)
  have B7 := Hid.of ((B6.out.alloc B6.out.size _).trans (b7.mono (by have := B6.out.size; simp; omega)))
  clear b7 g6 U6 B6
  obtain ⟨q0, q1, q2, q3, q4⟩ := g7.out.at
  obtain ⟨p0, p1, p2, p3, p4⟩ := h7.out.at
  have fz := g7.out.frozen
  have lt7 := g7.out.lt
  cases f
  · go_wp2
    refine bodyPost_ret (v := .tuple #[agv agZero, .int .i64 6]) ?_ rfl ⟨rfl, ?_⟩
    · simp [results, Tryz.results95, go_sem, q0, q1, q2, q3, q4, agZero]
    · exact below_set5 B7.out (Nat.le_refl _) agZero
  · go_wp2
    refine bodyPost_ret (v := .tuple #[agv x, .int .i64 0]) ?_ rfl ⟨by rw [HX.out], ?_⟩
    · simp [results, Tryz.results95, go_sem, q0, q1, q2, q3, q4]
    · exact below_set5 B7.out (Nat.le_refl _) x

end Go.Proofs.YtfgfgdchaoekfaaGreatDoor

namespace Go.Proofs.YtfgfgdchaoekfaaGreatDoor
open Go.RowKit Go.Lib

theorem aggGot_any (b : ByteArray) (w : World) : Calls Tryz.prog 95 #[.string b] w fun e w' => e = .returned (.tuple #[agv (agGot b).1, .int .i64 (agGot b).2]) ∧ Below w.heap.size w w' := by
  unfold agGot
  by_cases h : b.size = 40
  · rw [if_pos h]
    cases hf : agOk (agRead b) with
    | true =>
      have k := Get_full b h true hf w
      simpa using k
    | false =>
      have k := Get_full b h false hf w
      simpa using k
  · rw [if_neg h]
    exact Get_short b h w
theorem aggPut_any (a : Ag) (ha : AgIn a) (w : World) : Calls Tryz.prog 89 #[agv a] w fun e w' => e = .returned (.tuple #[.string (if agOk a = true then agText a else ⟨#[]⟩), .int .i64 (if agOk a = true then 0 else 1)]) ∧ Below w.heap.size w w' := by
  cases h : agOk a with
  | true =>
    have k := Put_good a h ha w
    simpa using k
  | false =>
    have k := Put_bad a h w
    simpa using k

end Go.Proofs.YtfgfgdchaoekfaaGreatDoor
