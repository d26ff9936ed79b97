/-
  What methods Ints, Words and Text of a Packer do.
-/
import Derived.Test.YtfoffoiimlgoeaaE
namespace Go.Proofs.Ytfoffoiimlgoeaa
open Go.RowKit Go.Lib

/-- An int without its sign: modulo 2 to the 64. -/
def unsigned (x : Int) : Int := IntKind.u64.wrap x

theorem unsigned_nonneg (x : Int) : 0 ≤ unsigned x := by
  show 0 ≤ x % 18446744073709551616
  omega

theorem getD_map (f : Int → Int) (xs : List Int) (j : Nat) (h : j < xs.length) : (xs.map f).getD j 0 = f (xs.getD j 0) := by
  simp [List.getD, h]

set_option maxHeartbeats 400000 in
theorem Ints_any (pv : Option Addr) (v : Value) (xs : List Int) (w : World) (R : Int → List UInt8 → World → World → Prop) (hput : Hid (PutSpec (.pointer pv) w R))
    (hv : NumRow .i64 w v xs) (h2 : xs.length ≤ 1000000000) :
    Calls Try.prog 32 #[.pointer pv, v] w fun e w' => e = .returned (.tuple #[]) ∧ Did w R 0 (smallBytes 8 (xs.map unsigned)) w' := by
  obtain ⟨a, c, rfl, hv⟩ := hv
  have HV := Hid.of hv
  clear hv
  have hlm : (xs.map unsigned).length = xs.length := by simp
  have HL := Hid.of hlm
  clear hlm
  go_enter Try.func32, Try.ntmps32
  go_wp2
  go_loopw [4, 9] (fun b i wr => ∃ j : Nat, j ≤ xs.length ∧ i = .int .i64 j ∧ OwnBuf w.heap.size 5 b (j * 8) (Lib.byteCells (smallBytes 8 ((xs.map unsigned).take j))) w wr) (fun _ i _ => xs.length - (intOf i).toNat)
  case atStart => exact ⟨0, Nat.zero_le _, rfl, by simpa [smallBytes, Lib.byteCells] using ⟨World.ownsRowF_nil w _ _ _, Below.refl _ _, Nat.le_refl _⟩⟩
  case round =>
    obtain ⟨j, hj, rfl, hbr⟩ := hrel
    by_cases hlt : j < xs.length
    · have hne : xs ≠ [] := by intro e; subst e; simp at hlt
      obtain ⟨vb, vo, rfl, hvb, hcs⟩ := (HV.out).resolve_left hne
      obtain ⟨x, hx⟩ : ∃ x, xs.getD j 0 = x := ⟨_, rfl⟩
      have hcell : wr.cell? ⟨vb, vo + j, none⟩ = some (.int .i64 x) := by rw [hbr.2.1.cell hvb, hcs j hlt, hx]
      obtain ⟨m, hm⟩ := Int.eq_ofNat_of_zero_le (unsigned_nonneg x)
      have hwr : IntKind.u64.wrap x = (m : Int) := hm
      have HM := Hid.of hm
      have HX := Hid.of hx
      clear hm hcs hne hx
      go_wp2_with (go_at_call 45; refine (lay_any w.heap.size _ (j * 8) _ w _ 8 m (by omega) hbr (by omega)).mono ?_; rintro e w1 ⟨b', rfl, hb1⟩)
      go_roundw
      case rel =>
        refine ⟨j + 1, by omega, by go_num, ?_⟩
        rw [smallBytes_take 8 _ j (by rw [HL.out]; exact hlt), getD_map _ _ _ hlt, HX.out, HM.out, byteCells_append, Nat.succ_mul]
        exact hb1
      case measure => simp [intOf]; omega
    · have hjl : j = xs.length := by omega
      subst hjl
      obtain ⟨hbr1, hbr2, hbr3⟩ := hbr
      rw [List.take_of_length_le (by rw [HL.out]; exact Nat.le_refl _)] at hbr1
      go_wp2_with (go_at_call 46; refine (hput.out _ (smallBytes 8 (xs.map unsigned)) 0 _ hbr2 (by rw [smallBytes_length, HL.out, Nat.mul_comm]; exact hbr1) (by rw [smallBytes_length, HL.out]; omega)).mono ?_; rintro e w1 ⟨rfl, h4⟩)
      go_end0
      exact ⟨rfl, _, hbr2, h4⟩

set_option maxHeartbeats 400000 in
theorem Words_any (pv : Option Addr) (v : Value) (xs : List Int) (w : World) (R : Int → List UInt8 → World → World → Prop) (hput : Hid (PutSpec (.pointer pv) w R))
    (hv : NumRow .u64 w v xs) (hnn : Hid (∀ j, j < xs.length → 0 ≤ xs.getD j 0)) (h2 : xs.length ≤ 1000000000) :
    Calls Try.prog 33 #[.pointer pv, v] w fun e w' => e = .returned (.tuple #[]) ∧ Did w R 0 (smallBytes 8 xs) w' := by
  obtain ⟨a, c, rfl, hv⟩ := hv
  have HV := Hid.of hv
  clear hv
  go_enter Try.func33, Try.ntmps33
  go_wp2
  go_loopw [4, 9] (fun b i wr => ∃ j : Nat, j ≤ xs.length ∧ i = .int .i64 j ∧ OwnBuf w.heap.size 5 b (j * 8) (Lib.byteCells (smallBytes 8 (xs.take j))) w wr) (fun _ i _ => xs.length - (intOf i).toNat)
  case atStart => exact ⟨0, Nat.zero_le _, rfl, by simpa [smallBytes, Lib.byteCells] using ⟨World.ownsRowF_nil w _ _ _, Below.refl _ _, Nat.le_refl _⟩⟩
  case round =>
    obtain ⟨j, hj, rfl, hbr⟩ := hrel
    by_cases hlt : j < xs.length
    · have hne : xs ≠ [] := by intro e; subst e; simp at hlt
      obtain ⟨vb, vo, rfl, hvb, hcs⟩ := (HV.out).resolve_left hne
      obtain ⟨m, hm⟩ := Int.eq_ofNat_of_zero_le (hnn.out j hlt)
      have hcell : wr.cell? ⟨vb, vo + j, none⟩ = some (.int .u64 m) := by rw [hbr.2.1.cell hvb, hcs j hlt, hm]
      have HM := Hid.of hm
      clear hm hcs hne
      go_wp2_with (go_at_call 45; refine (lay_any w.heap.size _ (j * 8) _ w _ 8 m (by omega) hbr (by omega)).mono ?_; rintro e w1 ⟨b', rfl, hb1⟩)
      go_roundw
      case rel =>
        refine ⟨j + 1, by omega, by go_num, ?_⟩
        rw [smallBytes_take 8 _ j hlt, HM.out, byteCells_append, Nat.succ_mul]
        exact hb1
      case measure => simp [intOf]; omega
    · have hjl : j = xs.length := by omega
      subst hjl
      obtain ⟨hbr1, hbr2, hbr3⟩ := hbr
      rw [List.take_length] at hbr1
      go_wp2_with (go_at_call 46; refine (hput.out _ (smallBytes 8 xs) 0 _ hbr2 (by rw [smallBytes_length, Nat.mul_comm]; exact hbr1) (by rw [smallBytes_length]; omega)).mono ?_; rintro e w1 ⟨rfl, h4⟩)
      go_end0
      exact ⟨rfl, _, hbr2, h4⟩

end Go.Proofs.Ytfoffoiimlgoeaa
