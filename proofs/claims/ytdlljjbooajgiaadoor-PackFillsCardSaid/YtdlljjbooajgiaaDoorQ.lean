/-
  What statement PackNone answers: true, for every input.
-/
import Derived.Test.YtdlljjbooajgiaaDoorN
namespace Go.Proofs.YtdlljjbooajgiaaDoor
open Go.RowKit Go.Lib

theorem Small_nilP (n : Int) (w1 : World) (t : TypeId) (b : Nat) (hb : b = w1.heap.size) :
    Calls Tryd.prog 17 #[.pointer none, .int .i64 1, .slice (some ⟨b, 0, none⟩) 1 1] (w1.alloc (.cells #[.int .i64 n] t)) fun e w' => e = .returned (.tuple #[]) ∧ Below (w1.alloc (.cells #[.int .i64 n] t)).heap.size (w1.alloc (.cells #[.int .i64 n] t)) w' := by
  have hr : NumRow .i64 (w1.alloc (.cells #[.int .i64 n] t)) (.slice (some ⟨b, 0, none⟩) 1 1) [n] := NumRow.made .i64 _ _ [n] _ rfl _ _ _ hb rfl
  by_cases h : 0 ≤ n ∧ n < 256 ^ 1
  · exact (Small_good none 1 (by decide) (by decide) _ [n] _ _ (Hid.of (putSpec_nil _)) hr (Hid.of (one_ok n 1 h.1 h.2)) (by simp)).mono fun _ _ ⟨he, hd⟩ => ⟨he, hd.same⟩
  · exact (Small_bad none 1 (by decide) (by decide) _ [n] 0 (by simp) _ _ (Hid.of (putSpec_nil _)) hr (Hid.of fun j hj => absurd hj (by omega)) (Hid.of h) (by simp)).mono fun _ _ ⟨he, hd⟩ => ⟨he, hd.same⟩

theorem Ints_nilP (n : Int) (w1 : World) (t : TypeId) (b : Nat) (hb : b = w1.heap.size) :
    Calls Tryd.prog 16 #[.pointer none, .slice (some ⟨b, 0, none⟩) 1 1] (w1.alloc (.cells #[.int .i64 n] t)) fun e w' => e = .returned (.tuple #[]) ∧ Below (w1.alloc (.cells #[.int .i64 n] t)).heap.size (w1.alloc (.cells #[.int .i64 n] t)) w' :=
  (Ints_any none _ [n] _ _ (Hid.of (putSpec_nil _)) (NumRow.made .i64 _ _ [n] _ rfl _ _ _ hb rfl) (by simp)).mono fun _ _ ⟨he, hd⟩ => ⟨he, hd.same⟩

theorem Words_nilP (w1 : World) (t : TypeId) (b : Nat) (hb : b = w1.heap.size) :
    Calls Tryd.prog 18 #[.pointer none, .slice (some ⟨b, 0, none⟩) 1 1] (w1.alloc (.cells #[.int .u64 1] t)) fun e w' => e = .returned (.tuple #[]) ∧ Below (w1.alloc (.cells #[.int .u64 1] t)).heap.size (w1.alloc (.cells #[.int .u64 1] t)) w' :=
  (Words_any none _ [1] _ _ (Hid.of (putSpec_nil _)) (NumRow.made .u64 _ _ [1] _ rfl _ _ _ hb rfl) (Hid.of (by decide)) (by simp)).mono fun _ _ ⟨he, hd⟩ => ⟨he, hd.same⟩

theorem Names_nilP (s : ByteArray) (w1 : World) (t : TypeId) (b : Nat) (hb : b = w1.heap.size) :
    Calls Tryd.prog 19 #[.pointer none, .slice (some ⟨b, 0, none⟩) 1 1] (w1.alloc (.cells #[.string s] t)) fun e w' => e = .returned (.tuple #[]) ∧ Below (w1.alloc (.cells #[.string s] t)).heap.size (w1.alloc (.cells #[.string s] t)) w' := by
  have hr : StrRow (w1.alloc (.cells #[.string s] t)) (.slice (some ⟨b, 0, none⟩) 1 1) [s] := StrRow.made _ _ [s] _ rfl _ _ _ hb rfl
  by_cases h : s.size ≤ 15
  · exact (Names_good none _ [s] _ _ (Hid.of (putSpec_nil _)) hr (Hid.of (fun j hj => by match j, hj with | 0, _ => exact h | j + 1, hj => simp at hj)) (by simp)).mono fun _ _ ⟨he, hd⟩ => ⟨he, hd.same⟩
  · exact (Names_bad none _ [s] 0 (by simp) _ _ (Hid.of (putSpec_nil _)) hr (Hid.of fun j hj => absurd hj (by omega)) (by show 15 < s.size; omega) (by simp)).mono fun _ _ ⟨he, hd⟩ => ⟨he, hd.same⟩

theorem Text_nilP (s : ByteArray) (hs : s.size ≤ 60000) (w : World) :
    Calls Tryd.prog 20 #[.pointer none, .string s] w fun e w' => e = .returned (.tuple #[]) ∧ Below w.heap.size w w' :=
  (Text_any none s hs w _ (Hid.of (putSpec_nil _))).mono fun _ _ ⟨he, hd⟩ => ⟨he, hd.same⟩

theorem Fill_nilP (n : Int) (w : World) :
    Calls Tryd.prog 21 #[.pointer none, .int .i64 n] w fun e w' => e = .returned (.tuple #[]) ∧ Below w.heap.size w w' := by
  by_cases h : 0 ≤ n ∧ n ≤ 60000
  · obtain ⟨m, rfl⟩ := Int.eq_ofNat_of_zero_le h.1
    exact (Fill_good none m 0 (by omega) (Nat.zero_le _) w _ (Hid.of (putSpec_nil _)) (Hid.of fun wr _ => Len_nil wr)).mono fun _ _ ⟨he, hd⟩ => ⟨he, hd.same⟩
  · exact (Fill_wrong none n h w _ (Hid.of (putSpec_nil _))).mono fun _ _ ⟨he, hd⟩ => ⟨he, hd.same⟩

set_option maxHeartbeats 800000 in
theorem none_any (n : Int) (s : ByteArray) (w : World) (htab : Hid (Tab w)) :
    Calls Tryd.prog 4 #[.int .i64 n, .string s] w fun e w' => e = .returned (.bool true) ∧ Below w.heap.size w w' := by
  by_cases hs : 300 < s.size
  · go_enter Tryd.func4, Tryd.ntmps4
    go_wp2_with fail
    refine (alive_any _ htab).mono ?_
    rintro e w4 ⟨rfl, b4⟩
    go_wp2
    go_ret
    exact ⟨rfl, b4⟩
  · go_enter Tryd.func4, Tryd.ntmps4
    go_wp2_with fail
    refine (Ints_nilP n _ _ _ rfl).mono ?_
    rintro e w1 ⟨rfl, c1⟩
    have b1 : Below w.heap.size w w1 := ((Below.refl _ w).alloc (Nat.le_refl _) _).trans (c1.mono (by simp))
    clear c1
    go_wp2_with fail
    refine (Small_nilP n _ _ _ rfl).mono ?_
    rintro e w2 ⟨rfl, c2⟩
    have b2 : Below w.heap.size w w2 := (b1.alloc b1.size _).trans (c2.mono (by have := b1.size; simp; omega))
    clear c2 b1
    go_wp2_with fail
    refine (Words_nilP _ _ _ rfl).mono ?_
    rintro e w3 ⟨rfl, c3⟩
    have b3 : Below w.heap.size w w3 := (b2.alloc b2.size _).trans (c3.mono (by have := b2.size; simp; omega))
    clear c3 b2
    go_wp2_with fail
    refine (Names_nilP s _ _ _ rfl).mono ?_
    rintro e w4 ⟨rfl, c4⟩
    have b4 : Below w.heap.size w w4 := (b3.alloc b3.size _).trans (c4.mono (by have := b3.size; simp; omega))
    clear c4 b3
    go_wp2_with fail
    refine (Text_nilP s (by omega) _).mono ?_
    rintro e w5 ⟨rfl, c5⟩
    have b5 : Below w.heap.size w w5 := b4.trans (c5.mono b4.size)
    clear c5 b4
    go_wp2_with fail
    refine (Fill_nilP n _).mono ?_
    rintro e w6 ⟨rfl, c6⟩
    have b6 : Below w.heap.size w w6 := b5.trans (c6.mono b5.size)
    clear c6 b5
    go_wp2_with fail
    refine (Done_nil _).mono ?_
    rintro e w7 ⟨rfl, rfl⟩
    have T6 := Hid.of (htab.out.below b6 (Nat.le_refl _))
    go_wp2_with fail
    refine (alive_any _ T6).mono ?_
    rintro e w8 ⟨rfl, c8⟩
    have b8 : Below w.heap.size w w8 := b6.trans (c8.mono b6.size)
    clear c8 b6 T6
    have hcat : ((⟨#[]⟩ : ByteArray) ++ ⟨#[]⟩ ++ ⟨#[]⟩).toList = [] := by rw [ByteArray.toList_eq]; rfl
    go_wp2_with (first | (go_at_call 23; refine (Len_nil _).mono ?_; rintro e w9 ⟨rfl, rfl⟩) | (go_at_call 24; refine (Int_nilU _).mono ?_; rintro e w9 ⟨rfl, rfl⟩) | (go_at_call 25; refine (Small_nilU _ _).mono ?_; rintro e w9 ⟨rfl, rfl⟩) | (go_at_call 26; refine (Left_nil _).mono ?_; rintro e w9 ⟨rfl, rfl⟩) | (go_at_call 27; refine (Word_nilU _).mono ?_; rintro e w9 ⟨rfl, rfl⟩) | (go_at_call 28; refine (Name_nilU _).mono ?_; rintro e w9 ⟨rfl, rfl⟩) | (go_at_call 29; refine (Text_nilU _).mono ?_; rintro e w9 ⟨rfl, rfl⟩) | (go_at_call 30; refine (Rest_nilU _).mono ?_; rintro e w9 ⟨rfl, rfl⟩) | (go_at_call 31; refine (Bad_nil _).mono ?_; rintro e w9 ⟨rfl, rfl⟩))
    go_ret
    exact ⟨rfl, b8⟩

end Go.Proofs.YtdlljjbooajgiaaDoor
