/-
  The document's own Packer and Unpacker (sedimentref1): names.
-/
import Derived.Test.YtfgfgdchaoekfaaGreatDoorQ24
import Derived.Test.YtfgfgdchaoekfaaGreatDoorQ20
import Derived.Test.YtfgfgdchaoekfaaGreatDoorQ10
namespace Go.Proofs.YtfgfgdchaoekfaaGreatDoor
open Go.RowKit Go.Lib

theorem nb_next {s : ByteArray} (hs : s.size ≤ 15) {i : Nat} (hi : i < 15) (x : UInt8) (hx : (∀ h : i < s.size, s[i]'h = x) ∧ (s.size ≤ i → x = 0)) : (nameBytes s).take (1 + (i + 1)) = (nameBytes s).take (1 + i) ++ [x] := by
  have hl := nameBytes_length s hs
  have h1 : 1 + i < (nameBytes s).length := by omega
  rw [show 1 + (i + 1) = (1 + i) + 1 by omega, List.take_succ_eq_append_getElem h1]
  congr 2
  have e : (nameBytes s)[1 + i]? = some x := by
    unfold nameBytes
    rw [List.append_assoc, show [UInt8.ofNat s.size] ++ (s.data.toList ++ List.replicate (15 - s.size) 0) = UInt8.ofNat s.size :: (s.data.toList ++ List.replicate (15 - s.size) 0) from rfl, Nat.add_comm 1 i, List.getElem?_cons_succ]
    by_cases c : i < s.size
    · rw [List.getElem?_append_left (by rw [byte_len]; exact c), ← hx.1 c]
      rw [List.getElem?_eq_getElem (by rw [byte_len]; exact c)]
      rfl
    · rw [List.getElem?_append_right (by rw [byte_len]; omega), byte_len, List.getElem?_replicate, if_pos (by omega), hx.2 (by omega)]
  exact Option.some.inj ((List.getElem?_eq_getElem h1).symm.trans e)

set_option maxRecDepth 20000 in
set_option maxHeartbeats 1600000 in
theorem refPName_any (p : Nat) (l : List UInt8) (s : ByteArray) (hs : s.size ≤ 15) (hl : l.length ≤ 10000000) (w : World) (h : RPk p l w) :
    Calls Tryz.prog 32 #[.pointer (some ⟨p, 0, none⟩), .string s] w fun e w' => e = .returned (.tuple #[]) ∧ RWrote p (l ++ nameBytes s) w w' := by
  have H := Hid.of h
  have hs0 : ¬ (15 : Int) < (s.size : Int) := by omega
  have HL := Hid.of hl
  have LN : Hid ((nameBytes s).length = 16) := Hid.of (nameBytes_length s hs)
  clear h
  go_enter Tryz.func32, Tryz.ntmps32
  go_wp2_with fail
  refine (refWord_any p l s.size 1 (by decide) (by omega) (by omega) _ H.out).mono ?_
  rintro e w1 ⟨rfl, h1, b1⟩
  have H1 : Hid (RPk p (l ++ (nameBytes s).take (1 + 0)) w1) := Hid.of (by
    have e : (nameBytes s).take (1 + 0) = le 1 s.size := rfl
    rw [e]
    exact h1)
  have B1 := Hid.of b1
  clear h1 b1
  go_upto_region 4 with fail
  go_loopg [4] 15 (fun kx iv wr => ∃ i : Nat, iv = .int .i64 i ∧ i ≤ 15 ∧ 15 - i ≤ kx ∧ Hid (RPk p (l ++ (nameBytes s).take (1 + i)) wr) ∧ Hid (Below p w wr))
  case atStart => exact ⟨0, rfl, Nat.zero_le _, Nat.le_refl _, H1, B1⟩
  case round =>
    clear H1 B1
    obtain ⟨i, rfl, hi, hix, HR, HB⟩ := hrel
    have i0 : (0 : Int) ≤ (i : Int) := Int.natCast_nonneg _
    have len : (l ++ (nameBytes s).take (1 + i)).length ≤ 100000000 := by
      rw [List.length_append, List.length_take, LN.out]
      have := HL.out
      omega
    by_cases h15 : (i : Int) < 15
    · by_cases hlt : (i : Int) < (s.size : Int)
      · have hc : i < s.size := by omega
        obtain ⟨x, hx⟩ : ∃ x, s[i]'hc = x := ⟨_, rfl⟩
        have NX := Hid.of (nb_next (s := s) (by omega) (i := i) (by omega) x ⟨fun _ => hx, fun c => by omega⟩)
        go_wp2_with fail
        rw [show IntKind.u64.wrap (x.toNat : Int) = (x.toNat : Int) by rw [wrapU]; have := x.toNat_lt; omega]
        refine (refWord_any p _ x.toNat 1 (by decide) (by have := x.toNat_lt; omega) len _ HR.out).mono ?_
        rintro e w2 ⟨rfl, h2, b2⟩
        have H2 : Hid (RPk p (l ++ (nameBytes s).take (1 + (i + 1))) w2) := Hid.of (by
          rw [NX.out, ← List.append_assoc]
          have e : le 1 x.toNat = [x] := by simp [le]
          rw [← e]
          exact h2)
        have B2 := Hid.of (HB.out.trans b2)
        clear h2 b2 HR HB hx NX
        go_wp2
        go_roundg (15 - (i + 1))
        case measure => omega
        case rel => exact ⟨i + 1, by go_num, by omega, Nat.le_refl _, H2, B2⟩
      · have NX := Hid.of (nb_next (s := s) (by omega) (i := i) (by omega) 0 ⟨fun c => by omega, fun _ => rfl⟩)
        go_wp2_with fail
        refine (refWord_any p _ 0 1 (by decide) (by decide) len _ HR.out).mono ?_
        rintro e w2 ⟨rfl, h2, b2⟩
        have H2 : Hid (RPk p (l ++ (nameBytes s).take (1 + (i + 1))) w2) := Hid.of (by
          rw [NX.out, ← List.append_assoc]
          exact h2)
        have B2 := Hid.of (HB.out.trans b2)
        clear h2 b2 HR HB NX
        go_wp2
        go_roundg (15 - (i + 1))
        case measure => omega
        case rel => exact ⟨i + 1, by go_num, by omega, Nat.le_refl _, H2, B2⟩
    · obtain rfl : 15 = i := by omega
      have e : (nameBytes s).take (1 + 15) = nameBytes s := List.take_of_length_le (by rw [LN.out]; decide)
      have hr := HR.out
      rw [e] at hr
      have HR2 := Hid.of hr
      clear hr
      go_wp2
      go_end0
      exact ⟨rfl, HR2.out, HB.out⟩

/-- The document's own Unpacker with its error. -/
def RUnE (u : Nat) (r : ByteArray) (e : Int) (w : World) : Prop := w.heap[u]? = some (.cells #[.string r, .int .i64 e] 82 (0, 0))

set_option maxHeartbeats 400000 in
theorem refUfail_any (u : Nat) (r : ByteArray) (x : Int) (w : World) (h : RUn u r w) :
    Calls Tryz.prog 98 #[.pointer (some ⟨u, 0, none⟩), .int .i64 x] w fun e w' => e = .returned (.tuple #[]) ∧ RUnE u r x w' ∧ w.grownBy w' (some u) := by
  have c1 : w.cell? ⟨u, 1, none⟩ = some (.int .i64 0) := by rw [cell_of_row w u 1 _ _ _ h]; rfl
  have fz := row_frozen (i := 1) h
  have H := Hid.of h
  clear h
  go_enter Tryz.func98, Tryz.ntmps98
  go_wp2
  go_end0
  exact ⟨rfl, row_set H.out _, grownBy_setCell _ _ _ _⟩

set_option maxHeartbeats 400000 in
theorem refTake_bad (u : Nat) (r : ByteArray) (x n : Int) (hx : (x != 0) = true) (w : World) (h : RUnE u r x w) :
    Calls Tryz.prog 97 #[.pointer (some ⟨u, 0, none⟩), .int .i64 n] w fun e w' => e = .returned (.string ⟨#[]⟩) ∧ w = w' := by
  have c1 : w.cell? ⟨u, 1, none⟩ = some (.int .i64 x) := by rw [cell_of_row w u 1 _ _ _ h]; rfl
  go_enter Tryz.func97, Tryz.ntmps97
  go_wp2
  go_ret
  exact ⟨rfl, rfl⟩

set_option maxHeartbeats 400000 in
theorem refInt_bad (u : Nat) (r : ByteArray) (x : Int) (hx : (x != 0) = true) (w : World) (h : RUnE u r x w) :
    Calls Tryz.prog 37 #[.pointer (some ⟨u, 0, none⟩)] w fun e w' => e = .returned (.int .i64 0) ∧ w = w' := by
  have H := Hid.of h
  have hw : Calls Tryz.prog 99 #[.pointer (some ⟨u, 0, none⟩)] w fun e w' => e = .returned (.int .u64 0) ∧ w = w' := by
    go_enter Tryz.func99, Tryz.ntmps99
    go_wp2_with fail
    refine (refTake_bad u r x 8 hx _ H.out).mono ?_
    rintro e w2 ⟨rfl, rfl⟩
    go_wp2_with fail
    refine (little_any ⟨#[]⟩ _ (by decide)).mono ?_
    rintro e w3 ⟨rfl, rfl⟩
    go_wp2
    go_ret
    exact ⟨rfl, rfl⟩
  clear h
  go_enter Tryz.func37, Tryz.ntmps37
  go_wp2_with fail
  refine hw.mono ?_
  rintro e w2 ⟨rfl, rfl⟩
  go_wp2
  go_ret
  exact ⟨rfl, rfl⟩

end Go.Proofs.YtfgfgdchaoekfaaGreatDoor
