/-
  What statement PackFirst answers: true, for every input.
-/
import Derived.Test.YtdlljjbooajgiaaDoorQ
namespace Go.Proofs.YtdlljjbooajgiaaDoor
open Go.RowKit Go.Lib

theorem Small_stoppedP {B p : Nat} {l : List UInt8} {bad : Int} (hbad : (bad != 0) = true) {w : World} (h : Pk B p l bad w) (n : Int) (hn : ¬ (1 ≤ n ∧ n ≤ 7)) (v : Value) :
    Calls Tryd.prog 17 #[.pointer (some ⟨p, 0, none⟩), .int .i64 n, v] w fun e w' => e = .returned (.tuple #[]) ∧ Below w.heap.size w w' :=
  (Small_wrong _ n hn v w _ (Hid.of (putSpec_stopped B p l bad hbad w h))).mono fun _ _ ⟨he, hd⟩ => ⟨he, hd.same⟩

theorem Text_stoppedP {B p : Nat} {l : List UInt8} {bad : Int} (hbad : (bad != 0) = true) {w : World} (h : Pk B p l bad w) (s : ByteArray) (hs : s.size ≤ 60000) :
    Calls Tryd.prog 20 #[.pointer (some ⟨p, 0, none⟩), .string s] w fun e w' => e = .returned (.tuple #[]) ∧ Below w.heap.size w w' :=
  (Text_any _ s hs w _ (Hid.of (putSpec_stopped B p l bad hbad w h))).mono fun _ _ ⟨he, hd⟩ => ⟨he, hd.same⟩

/-- The input that the statement passes by. -/
theorem first_light (s b : ByteArray) (n : Int) (h : s.size < 16 ∨ 300 < s.size ∨ 300 < b.size) (w : World) (htab : Hid (Tab w)) :
    Calls Tryd.prog 6 #[.string s, .int .i64 n, .string b] w fun e w' => e = .returned (.bool true) ∧ Below w.heap.size w w' := by
  have key : ∀ h : s.size < 16 ∨ (¬ s.size < 16 ∧ 300 < s.size) ∨ (¬ s.size < 16 ∧ ¬ 300 < s.size ∧ 300 < b.size), Calls Tryd.prog 6 #[.string s, .int .i64 n, .string b] w fun e w' => e = .returned (.bool true) ∧ Below w.heap.size w w' := by
    clear h
    intro h
    rcases h with h | ⟨h0, h⟩ | ⟨h0, h1, h⟩
    all_goals
      go_enter Tryd.func6, Tryd.ntmps6
      go_wp2_with fail
      refine (alive_any _ htab).mono ?_
      rintro e w4 ⟨rfl, b4⟩
      go_wp2
      go_ret
      exact ⟨rfl, b4⟩
  exact key (by omega)

set_option maxHeartbeats 800000 in
theorem first_full (s b : ByteArray) (n : Int) (h0 : 16 ≤ s.size) (h1 : s.size ≤ 300) (h2 : b.size ≤ 300) (w : World) (htab : Hid (Tab w)) :
    Calls Tryd.prog 6 #[.string s, .int .i64 n, .string b] w fun e w' => e = .returned (.bool true) ∧ Below w.heap.size w w' := by
  go_enter Tryd.func6, Tryd.ntmps6
  go_wp2_with fail
  refine (Ints_pk (packer_and_row w n) (by decide) _ [n] (NumRow.made .i64 _ _ [n] _ rfl _ _ _ (by simp) rfl) (by simp)).mono ?_
  rintro e w1 ⟨rfl, hk1, g1⟩
  have b1 : Below w.heap.size w w1 := ((((Below.refl _ _).alloc (Nat.le_refl _) _).alloc (by simp) _).trans (Below.of_grown g1 (Nat.le_refl _) (by simp; omega)))
  have HK1 := Hid.of hk1
  have hp1 := hk1.len_lt
  clear hk1 g1
  go_wp2_with fail
  refine (Names_pk_bad (HK1.out.kept (World.grownBy_alloc _ _ _)) (by rw [List.nil_append, smallBytes_length]; simp) _ [s] 0 (by simp) (StrRow.made _ _ [s] _ rfl _ _ _ rfl rfl) (fun j hj => absurd hj (by omega)) (by show 15 < s.size; omega) (by simp)).mono ?_
  rintro e w2 ⟨rfl, hk2, g2⟩
  have b2 : Below w.heap.size w w2 := (b1.alloc (by omega) _).trans (Below.of_grown g2 (Nat.le_refl _) (by simp; omega))
  have HK2 := Hid.of hk2
  clear hk2 g2 b1 HK1
  go_wp2_with fail
  refine (Small_stoppedP rfl (HK2.out.kept (World.grownBy_alloc _ _ _)) 9 (by decide) _).mono ?_
  rintro e w3 ⟨rfl, c3⟩
  have b3 : Below w.heap.size w w3 := (b2.alloc b2.size _).trans (c3.mono (by have := b2.size; simp; omega))
  have HK3 := Hid.of ((HK2.out.kept (World.grownBy_alloc _ _ _)).kept (grown_of_below c3))
  clear c3 b2 HK2
  go_wp2_with fail
  refine (Text_stoppedP rfl HK3.out _ (by decide)).mono ?_
  rintro e w4 ⟨rfl, c4⟩
  have b4 : Below w.heap.size w w4 := b3.trans (c4.mono b3.size)
  have HK4 := Hid.of (HK3.out.kept (grown_of_below c4))
  clear c4 b3 HK3
  go_wp2_with fail
  refine (Done_bad _ _ _ 2 rfl _ HK4.out).mono ?_
  rintro e w5 ⟨rfl, c5⟩
  have b5 : Below w.heap.size w w5 := b4.trans (c5.mono b4.size)
  clear c5 b4 HK4
  go_wp2_with fail
  refine (From_any b _ (by omega)).mono ?_
  rintro e w6 ⟨rfl, hu6, g6⟩
  have b6 : Below w.heap.size w w6 := b5.trans ((below_of_none g6).mono b5.size)
  have hs5 := b5.size
  have HU6 := Hid.of hu6
  clear hu6 g6 b5
  go_wp2_with fail
  refine (Small_wrongU _ _ _ 8 (by decide) _ HU6.out).mono ?_
  rintro e w7 ⟨rfl, hu7, g7⟩
  have b7 : Below w.heap.size w w7 := b6.trans (Below.of_grown g7 (by omega) HU6.out.lt)
  have HU7 := Hid.of hu7
  have T7 := Hid.of (htab.out.below b7 (Nat.le_refl _))
  clear hu7 g7 b6 HU6
  go_wp2_with fail
  refine (alive_any _ T7).mono ?_
  rintro e w8 ⟨rfl, c8⟩
  have b8 : Below w.heap.size w w8 := b7.trans (c8.mono b7.size)
  have HU8 := Hid.of (HU7.out.kept (grown_of_below c8))
  clear c8 b7 HU7 T7
  go_wp2_with fail
  refine (Bad_Un _ _ _ _ _ HU8.out).mono ?_
  rintro e w9 ⟨rfl, rfl⟩
  go_wp2_with fail
  refine (Int_stoppedU _ _ _ 1 rfl _ HU8.out).mono ?_
  rintro e w9 ⟨rfl, rfl⟩
  go_wp2_with fail
  refine (Name_stoppedU _ _ _ 1 rfl _ HU8.out).mono ?_
  rintro e w9 ⟨rfl, rfl⟩
  go_wp2_with fail
  refine (Text_stoppedU _ _ _ 1 rfl _ HU8.out).mono ?_
  rintro e w9 ⟨rfl, hu9, g9⟩
  have b9 : Below w.heap.size w w9 := b8.trans (Below.of_grown g9 (by omega) HU8.out.lt)
  have HU9 := Hid.of hu9
  clear hu9 g9 b8 HU8
  go_wp2_with fail
  refine (Bad_Un _ _ _ _ _ HU9.out).mono ?_
  rintro e w10 ⟨rfl, rfl⟩
  go_wp2
  go_ret
  exact ⟨rfl, b9⟩

theorem first_any (s b : ByteArray) (n : Int) (w : World) (htab : Hid (Tab w)) :
    Calls Tryd.prog 6 #[.string s, .int .i64 n, .string b] w fun e w' => e = .returned (.bool true) ∧ Below w.heap.size w w' := by
  by_cases h : s.size < 16 ∨ 300 < s.size ∨ 300 < b.size
  · exact first_light s b n h w htab
  · exact first_full s b n (by omega) (by omega) (by omega) w htab

end Go.Proofs.YtdlljjbooajgiaaDoor
