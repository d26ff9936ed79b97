/-
  What package word's own Cut, Peek, Next, Len and Is answer.
-/
import Derived.Test.YtcjfejhfafiaiaaWLD
import Derived.Test.YtcjfejhfafiaiaaWK
namespace Go.Proofs.Ytcjfejhfafiaiaa
open Go.RowKit Go.Lib

set_option maxRecDepth 20000 in
set_option maxHeartbeats 1600000 in
theorem cut_long (t : ByteArray) (w : World) (h : 4000 < t.size) :
    Calls Try.prog 9 #[.string t] w fun e w' => e = .returned (.tuple #[.pointer none, .int .i64 2, .int .i64 0]) ∧ Below w.heap.size w w' := by
  have h1 : (4000 : Int) < (t.size : Int) := by omega
  clear h
  go_enter Try.func9, Try.ntmps9
  go_wp2
  go_ret3
  exact ⟨rfl, Below.refl _ _⟩

set_option maxRecDepth 20000 in
set_option maxHeartbeats 1600000 in
theorem cut_wrong (t : ByteArray) (w : World) (h : t.size ≤ 4000) (hk : wLen wMay t.data.toList < t.size) :
    Calls Try.prog 9 #[.string t] w fun e w' => e = .returned (.tuple #[.pointer none, .int .i64 22, .int .i64 (lPass (1, 1) (t.data.toList.take (wLen wMay t.data.toList))).1]) ∧ Below w.heap.size w w' := by
  have h1 : ¬ (4000 : Int) < (t.size : Int) := by omega
  have HM : Hid (t.size ≤ maxLen) := Hid.of (by unfold maxLen; omega)
  obtain ⟨k, hk2⟩ : ∃ k, wLen wMay t.data.toList = k := ⟨_, rfl⟩
  have HG := Hid.of (good_any t HM.out)
  rw [hk2] at hk HG ⊢
  have h2 : (k : Int) < (t.size : Int) := by omega
  have h3 : (k : Int) ≤ (t.size : Int) := by omega
  have HS : Hid ((t.extract 0 k).size ≤ 1000000) := Hid.of (by simp [ByteArray.size_extract]; omega)
  have HT := Hid.of (extract_take t k)
  clear h hk hk2
  go_enter Try.func9, Try.ntmps9
  go_wp2_with fail
  refine (HG.out _).mono ?_
  rintro e w1 ⟨rfl, rfl⟩
  go_wp2_with fail
  refine (start_any _).mono ?_
  rintro e w2 ⟨rfl, b2⟩
  have B2 := Hid.of b2
  clear b2
  go_wp2_with fail
  have K0 : Hid (Blk (w2.alloc (.cells #[.int .i64 1, .int .i64 1] 54)) w2.heap.size 54 [.int .i64 ((1, 1) : Nat × Nat).1, .int .i64 ((1, 1) : Nat × Nat).2]) := Hid.of (Go.heap_alloc_new _ _)
  refine (pass_any _ _ 54 (1, 1) [] (t.extract 0 k) K0.out HS.out (by decide) (by decide)).mono ?_
  rintro e w3 ⟨rfl, b3, g3⟩
  rw [HT.out] at b3
  have e0 := b3.cell 0 _ rfl
  have B3 := Hid.of ((B2.out.alloc B2.out.size (.cells #[.int .i64 1, .int .i64 1] 54)).grown g3 (by have := B2.out.size; simp; omega) (fun j hj => by have := B2.out.size; simp at hj; omega))
  clear b3 g3
  go_wp2
  go_quiet (fail)
  go_wp2
  go_ret3
  exact ⟨rfl, below_drewN B3.out _⟩

set_option maxRecDepth 20000 in
set_option maxHeartbeats 1600000 in
theorem cut_right (t : ByteArray) (w : World) (h : t.size ≤ 4000) (hk : wLen wMay t.data.toList = t.size) :
    Calls Try.prog 9 #[.string t] w fun e w' => ∃ p x t', e = .returned (.tuple #[wptr p, .int .i64 0, .int .i64 0]) ∧ WdAt w' p x t' (wFrom (1, 1) t.data.toList) ∧ WFirst t' ∧ w.heap.size ≤ p ∧ Below w.heap.size w w' := by
  have h1 : ¬ (4000 : Int) < (t.size : Int) := by omega
  have HM : Hid (t.size ≤ maxLen) := Hid.of (by unfold maxLen; omega)
  have HG := Hid.of (good_any t HM.out)
  have HK := Hid.of hk
  rw [hk] at HG
  have h2 : ¬ (t.size : Int) < (t.size : Int) := by omega
  have HH := Hid.of h
  clear h hk
  go_enter Try.func9, Try.ntmps9
  go_wp2_with fail
  refine (HG.out _).mono ?_
  rintro e w1 ⟨rfl, rfl⟩
  go_wp2_with fail
  refine (start_any _).mono ?_
  rintro e w2 ⟨rfl, b2⟩
  have B2 := Hid.of b2
  clear b2
  go_wp2_with fail
  refine (Clone_any t _ (by have := HH.out; omega)).mono ?_
  rintro e w3 ⟨rfl, b3⟩
  have B3 := Hid.of (B2.out.trans (b3.mono B2.out.size))
  clear b3
  go_wp2_with fail
  obtain ⟨p, hp⟩ : ∃ p, w3.heap.size = p := ⟨_, rfl⟩
  obtain ⟨w4, hw4⟩ : ∃ w4, w3.alloc (.cells #[.int .i64 1, .int .i64 1, .string t] 56) = w4 := ⟨_, rfl⟩
  have K4 : Hid (WdAt w4 p (1, 1) t (wFrom (1, 1) t.data.toList)) := Hid.of (by
    rw [← hw4, ← hp]
    exact ⟨Go.heap_alloc_new _ _, wMay_all (by rw [HK.out, byte_len]), rfl, by have := HH.out; show 1 + t.size ≤ _; omega, by have := HH.out; show 1 + t.size ≤ _; omega⟩)
  have B4 : Hid (Below w1.heap.size w1 w4) := Hid.of (by rw [← hw4]; exact B3.out.alloc B3.out.size _)
  have P : Hid (w1.heap.size ≤ p) := Hid.of (by rw [← hp]; exact B3.out.size)
  rw [show (Value.pointer (some ⟨w3.heap.size, 0, none⟩)) = wptr p by rw [hp], hw4]
  clear hp hw4
  refine (seek_any _ p (1, 1) t _ K4.out).mono ?_
  rintro e w5 ⟨rfl, ⟨x5, t5, k5, f5, -⟩, g5⟩
  have K5 := Hid.of k5
  have F5 := Hid.of f5
  have B5 := Hid.of (B4.out.grown g5 B4.out.size (fun j hj => by have := P.out; simp at hj; omega))
  clear k5 f5 g5
  go_wp2_with fail
  go_ret3
  exact ⟨p, x5, t5, rfl, K5.out, F5.out, P.out, B5.out⟩

theorem below_set3 {B b : Nat} {w v : World} (h : Below B w v) (hB : B ≤ b) (hs : B ≤ v.heap.size) (v0 v1 v2 : Value) : Below B w (((v.setCell ⟨b, 0, none⟩ v0).setCell ⟨b, 1, none⟩ v1).setCell ⟨b, 2, none⟩ v2) :=
  h.grown (grownBy_trans (grownBy_trans (grownBy_setCell v b 0 v0) (grownBy_setCell _ b 1 v1)) (grownBy_setCell _ b 2 v2)) hs (fun k hk => by cases hk; exact hB)

theorem first_of {w : World} {p : Nat} {x : Nat × Nat} {t : ByteArray} {l : List WdL} (h : WdAt w p x t l) (hf : WFirst t) (h0 : 0 < t.size) :
    l = (t.extract 0 (wLen wIn t.data.toList), (x.1 : Int), (x.2 : Int)) :: l.tail ∧ wLen wIn t.data.toList ≤ t.size := by
  obtain ⟨r, hr⟩ := list_cons t h0
  have hc := hf _ _ hr
  have hw := h.words
  rw [hr, wFrom_word x _ r hc.1 hc.2 (by rw [← hr]; exact h.may), ← hr] at hw
  have hle := wLen_le wIn t.data.toList
  rw [byte_len] at hle
  refine ⟨?_, hle⟩
  rw [← hw, List.tail_cons]
  congr 2
  apply same_bytes
  rw [extract_take]

theorem last_of {w : World} {p : Nat} {x : Nat × Nat} {t : ByteArray} {l : List WdL} (h : WdAt w p x t l) (h0 : t.size = 0) : l = [] := by
  have hw := h.words
  have : t.data.toList = [] := List.eq_nil_of_length_eq_zero (by rw [byte_len]; exact h0)
  rw [this] at hw
  exact hw.symm

set_option maxRecDepth 20000 in
set_option maxHeartbeats 1600000 in
theorem peek_none (w : World) (p : Nat) (x : Nat × Nat) (t : ByteArray) (l : List WdL) (h : WdAt w p x t l) (h0 : t.size = 0) :
    Calls Try.prog 11 #[wptr p] w fun e w' => e = .returned (.tuple #[wdVal (⟨#[]⟩, 0, 0), .bool false]) ∧ Below w.heap.size w w' := by
  have hi := text_empty h0
  have lt : p < w.heap.size := (Array.getElem?_eq_some_iff.1 h.row).1
  have e2 : (w.alloc (.cells #[.string ⟨#[]⟩, .int .i64 0, .int .i64 0] 44)).cell? ⟨p, 2, none⟩ = some (.string t) := by
    rw [World.cell?_of_block (Below.heap_alloc _ _ _ lt)]
    exact h.row.cell 2 _ rfl
  clear h h0 lt
  go_enter Try.func11, Try.ntmps11
  go_wp2
  refine bodyPost_ret (v := .tuple #[wdVal (⟨#[]⟩, 0, 0), .bool false]) ?_ rfl ⟨rfl, ?_⟩
  · simp [results, Try.results11, go_sem]
  · exact (Below.refl _ _).alloc (Nat.le_refl _) _

set_option maxRecDepth 20000 in
set_option maxHeartbeats 1600000 in
theorem peek_nil (w : World) :
    Calls Try.prog 11 #[.pointer none] w fun e w' => e = .returned (.tuple #[wdVal (⟨#[]⟩, 0, 0), .bool false]) ∧ Below w.heap.size w w' := by
  go_enter Try.func11, Try.ntmps11
  go_wp2
  refine bodyPost_ret (v := .tuple #[wdVal (⟨#[]⟩, 0, 0), .bool false]) ?_ rfl ⟨rfl, ?_⟩
  · simp [results, Try.results11, go_sem]
  · exact (Below.refl _ _).alloc (Nat.le_refl _) _

end Go.Proofs.Ytcjfejhfafiaiaa
