/-
  A bundle of texts: WLE WLP WLF WLG.
-/
import Derived.Deep.RegionHeld3
import Derived.Test.YtadepjpmpjipmaaGreatDoorQ21
import Derived.Test.YtadepjpmpjipmaaGreatDoorQ11
/-
  What package word's own Cut, Peek, Next, Len and Is answer.
-/
namespace Go.Proofs.YtadepjpmpjipmaaGreatDoor
open Go.RowKit Go.Lib

set_option maxRecDepth 20000 in
set_option maxHeartbeats 1600000 in
theorem cut_long (t : ByteArray) (w : World) (h : 4000 < t.size) :
    Calls Tryz.prog 65 #[.string t] w fun e w' => e = .returned (.tuple #[.pointer none, .int .i64 2, .int .i64 0]) ∧ Below w.heap.size w w' := by
  have h1 : (4000 : Int) < (t.size : Int) := by omega
  clear h
  go_enter Tryz.func65, Tryz.ntmps65
  go_wp2
  go_ret3
  exact ⟨rfl, Below.refl _ _⟩

set_option maxRecDepth 20000 in
set_option maxHeartbeats 1600000 in
theorem cut_wrong (t : ByteArray) (w : World) (h : t.size ≤ 4000) (hk : wLen wMay t.data.toList < t.size) :
    Calls Tryz.prog 65 #[.string t] w fun e w' => e = .returned (.tuple #[.pointer none, .int .i64 22, .int .i64 (lPass (1, 1) (t.data.toList.take (wLen wMay t.data.toList))).1]) ∧ Below w.heap.size w w' := by
  have h1 : ¬ (4000 : Int) < (t.size : Int) := by omega
  have HM : Hid (t.size ≤ maxLen) := Hid.of (by unfold maxLen; omega)
  obtain ⟨k, hk2⟩ : ∃ k, wLen wMay t.data.toList = k := ⟨_, rfl⟩
  have HG := Hid.of (good_any t HM.out)
  rw [hk2] at hk HG ⊢
  have h2 : (k : Int) < (t.size : Int) := by omega
  have h3 : (k : Int) ≤ (t.size : Int) := by omega
  have HS : Hid ((t.extract 0 k).size ≤ 1000000) := Hid.of (by simp [ByteArray.size_extract]; omega)
  have HT := Hid.of (extract_take t k)
  clear h hk hk2
  go_enter Tryz.func65, Tryz.ntmps65
  go_wp2_with fail
  refine (HG.out _).mono ?_
  rintro e w1 ⟨rfl, rfl⟩
  go_wp2_with fail
  refine (start_any _).mono ?_
  rintro e w2 ⟨rfl, b2⟩
  have B2 := Hid.of b2
  clear b2
  go_wp2_with fail
  have K0 : Hid (Blk (w2.alloc (.cells #[.int .i64 1, .int .i64 1] 121)) w2.heap.size 121 [.int .i64 ((1, 1) : Nat × Nat).1, .int .i64 ((1, 1) : Nat × Nat).2]) := Hid.of (Go.heap_alloc_new _ _)
  refine (pass_any _ _ 121 (1, 1) [] (t.extract 0 k) K0.out HS.out (by decide) (by decide)).mono ?_
  rintro e w3 ⟨rfl, b3, g3⟩
  rw [HT.out] at b3
  have e0 := b3.cell 0 _ rfl
  have B3 := Hid.of ((B2.out.alloc B2.out.size (.cells #[.int .i64 1, .int .i64 1] 121)).grown g3 (by have := B2.out.size; simp; omega) (fun j hj => by have := B2.out.size; simp at hj; omega))
  clear b3 g3
  go_wp2
  go_quiet (fail)
  go_wp2
  go_ret3
  exact ⟨rfl, below_drewN B3.out _⟩

set_option maxRecDepth 20000 in
set_option maxHeartbeats 1600000 in
theorem cut_right (t : ByteArray) (w : World) (h : t.size ≤ 4000) (hk : wLen wMay t.data.toList = t.size) :
    Calls Tryz.prog 65 #[.string t] w fun e w' => ∃ p x t', e = .returned (.tuple #[wptr p, .int .i64 0, .int .i64 0]) ∧ WdAt w' p x t' (wFrom (1, 1) t.data.toList) ∧ WFirst t' ∧ w.heap.size ≤ p ∧ Below w.heap.size w w' := by
  have h1 : ¬ (4000 : Int) < (t.size : Int) := by omega
  have HM : Hid (t.size ≤ maxLen) := Hid.of (by unfold maxLen; omega)
  have HG := Hid.of (good_any t HM.out)
  have HK := Hid.of hk
  rw [hk] at HG
  have h2 : ¬ (t.size : Int) < (t.size : Int) := by omega
  have HH := Hid.of h
  clear h hk
  go_enter Tryz.func65, Tryz.ntmps65
  go_wp2_with fail
  refine (HG.out _).mono ?_
  rintro e w1 ⟨rfl, rfl⟩
  go_wp2_with fail
  refine (start_any _).mono ?_
  rintro e w2 ⟨rfl, b2⟩
  have B2 := Hid.of b2
  clear b2
  go_wp2_with fail
  refine (Clone_any t _ (by have := HH.out; omega)).mono ?_
  rintro e w3 ⟨rfl, b3⟩
  have B3 := Hid.of (B2.out.trans (b3.mono B2.out.size))
  clear b3
  go_wp2_with fail
  obtain ⟨p, hp⟩ : ∃ p, w3.heap.size = p := ⟨_, rfl⟩
  obtain ⟨w4, hw4⟩ : ∃ w4, w3.alloc (.cells #[.int .i64 1, .int .i64 1, .string t] 125) = w4 := ⟨_, rfl⟩
  have K4 : Hid (WdAt w4 p (1, 1) t (wFrom (1, 1) t.data.toList)) := Hid.of (by
    rw [← hw4, ← hp]
    exact ⟨Go.heap_alloc_new _ _, wMay_all (by rw [HK.out, byte_len]), rfl, by have := HH.out; show 1 + t.size ≤ _; omega, by have := HH.out; show 1 + t.size ≤ _; omega⟩)
  have B4 : Hid (Below w1.heap.size w1 w4) := Hid.of (by rw [← hw4]; exact B3.out.alloc B3.out.size _)
  have P : Hid (w1.heap.size ≤ p) := Hid.of (by rw [← hp]; exact B3.out.size)
  rw [show (Value.pointer (some ⟨w3.heap.size, 0, none⟩)) = wptr p by rw [hp], hw4]
  clear hp hw4
  refine (seek_any _ p (1, 1) t _ K4.out).mono ?_
  rintro e w5 ⟨rfl, ⟨x5, t5, k5, f5, -⟩, g5⟩
  have K5 := Hid.of k5
  have F5 := Hid.of f5
  have B5 := Hid.of (B4.out.grown g5 B4.out.size (fun j hj => by have := P.out; simp at hj; omega))
  clear k5 f5 g5
  go_wp2_with fail
  go_ret3
  exact ⟨p, x5, t5, rfl, K5.out, F5.out, P.out, B5.out⟩

theorem below_set3 {B b : Nat} {w v : World} (h : Below B w v) (hB : B ≤ b) (hs : B ≤ v.heap.size) (v0 v1 v2 : Value) : Below B w (((v.setCell ⟨b, 0, none⟩ v0).setCell ⟨b, 1, none⟩ v1).setCell ⟨b, 2, none⟩ v2) :=
  h.grown (grownBy_trans (grownBy_trans (grownBy_setCell v b 0 v0) (grownBy_setCell _ b 1 v1)) (grownBy_setCell _ b 2 v2)) hs (fun k hk => by cases hk; exact hB)

theorem first_of {w : World} {p : Nat} {x : Nat × Nat} {t : ByteArray} {l : List WdL} (h : WdAt w p x t l) (hf : WFirst t) (h0 : 0 < t.size) :
    l = (t.extract 0 (wLen wIn t.data.toList), (x.1 : Int), (x.2 : Int)) :: l.tail ∧ wLen wIn t.data.toList ≤ t.size := by
  obtain ⟨r, hr⟩ := list_cons t h0
  have hc := hf _ _ hr
  have hw := h.words
  rw [hr, wFrom_word x _ r hc.1 hc.2 (by rw [← hr]; exact h.may), ← hr] at hw
  have hle := wLen_le wIn t.data.toList
  rw [byte_len] at hle
  refine ⟨?_, hle⟩
  rw [← hw, List.tail_cons]
  congr 2
  apply same_bytes
  rw [extract_take]

theorem last_of {w : World} {p : Nat} {x : Nat × Nat} {t : ByteArray} {l : List WdL} (h : WdAt w p x t l) (h0 : t.size = 0) : l = [] := by
  have hw := h.words
  have : t.data.toList = [] := List.eq_nil_of_length_eq_zero (by rw [byte_len]; exact h0)
  rw [this] at hw
  exact hw.symm

set_option maxRecDepth 20000 in
set_option maxHeartbeats 1600000 in
theorem peek_none (w : World) (p : Nat) (x : Nat × Nat) (t : ByteArray) (l : List WdL) (h : WdAt w p x t l) (h0 : t.size = 0) :
    Calls Tryz.prog 92 #[wptr p] w fun e w' => e = .returned (.tuple #[wdVal (⟨#[]⟩, 0, 0), .bool false]) ∧ Below w.heap.size w w' := by
  have hi := text_empty h0
  have lt : p < w.heap.size := (Array.getElem?_eq_some_iff.1 h.row).1
  have e2 : (w.alloc (.cells #[.string ⟨#[]⟩, .int .i64 0, .int .i64 0] 118)).cell? ⟨p, 2, none⟩ = some (.string t) := by
    rw [World.cell?_of_block (Below.heap_alloc _ _ _ lt)]
    exact h.row.cell 2 _ rfl
  clear h h0 lt
  go_enter Tryz.func92, Tryz.ntmps92
  go_wp2
  refine bodyPost_ret (v := .tuple #[wdVal (⟨#[]⟩, 0, 0), .bool false]) ?_ rfl ⟨rfl, ?_⟩
  · simp [results, Tryz.results92, go_sem]
  · exact (Below.refl _ _).alloc (Nat.le_refl _) _

set_option maxRecDepth 20000 in
set_option maxHeartbeats 1600000 in
theorem peek_nil (w : World) :
    Calls Tryz.prog 92 #[.pointer none] w fun e w' => e = .returned (.tuple #[wdVal (⟨#[]⟩, 0, 0), .bool false]) ∧ Below w.heap.size w w' := by
  go_enter Tryz.func92, Tryz.ntmps92
  go_wp2
  refine bodyPost_ret (v := .tuple #[wdVal (⟨#[]⟩, 0, 0), .bool false]) ?_ rfl ⟨rfl, ?_⟩
  · simp [results, Tryz.results92, go_sem]
  · exact (Below.refl _ _).alloc (Nat.le_refl _) _

end Go.Proofs.YtadepjpmpjipmaaGreatDoor

/-
  What package word's own Peek answers where there is a word.
-/
namespace Go.Proofs.YtadepjpmpjipmaaGreatDoor
open Go.RowKit Go.Lib

set_option maxRecDepth 20000 in
set_option maxHeartbeats 3200000 in
theorem peek_some (w : World) (p : Nat) (x : Nat × Nat) (t : ByteArray) (l : List WdL) (h : WdAt w p x t l) (hf : WFirst t) (h0 : 0 < t.size) :
    Calls Tryz.prog 92 #[wptr p] w fun e w' => e = .returned (.tuple #[wdVal (t.extract 0 (wLen wIn t.data.toList), (x.1 : Int), (x.2 : Int)), .bool true]) ∧ Below w.heap.size w w' := by
  obtain ⟨-, hle⟩ := first_of h hf h0
  have HM : Hid (t.size ≤ maxLen) := Hid.of (by have := h.b1; unfold maxLen; omega)
  have hcl : (t.extract 0 (wLen wIn t.data.toList)).size ≤ 281474976710656 := by have := h.b1; simp [ByteArray.size_extract]; omega
  obtain ⟨n, hn⟩ : ∃ n, wLen wIn t.data.toList = n := ⟨_, rfl⟩
  have HG := Hid.of (run_any t HM.out)
  rw [hn] at hcl hle HG ⊢
  have HC := Hid.of hcl
  have n1 : (n : Int) ≤ (t.size : Int) := by omega
  have hi := text_some h0
  have lt : p < w.heap.size := (Array.getElem?_eq_some_iff.1 h.row).1
  obtain ⟨x1, x2⟩ := x
  simp only
  obtain ⟨w1, hw1⟩ : ∃ w1, w.alloc (.cells #[.string ⟨#[]⟩, .int .i64 0, .int .i64 0] 118) = w1 := ⟨_, rfl⟩
  have LTP := Hid.of lt
  have LT1 : Hid (p < w1.heap.size) := Hid.of (by rw [← hw1]; simp; omega)
  have hp1 : WRow w1 p (x1, x2) t := by
    rw [← hw1]
    exact row_alloc h.row
  have c0 : w1.cell? ⟨p, 0, none⟩ = some (.int .i64 x1) := hp1.cell 0 _ rfl
  have c1 : w1.cell? ⟨p, 1, none⟩ = some (.int .i64 x2) := hp1.cell 1 _ rfl
  have c2 : w1.cell? ⟨p, 2, none⟩ = some (.string t) := hp1.cell 2 _ rfl
  have e2 : (w.alloc (.cells #[.string ⟨#[]⟩, .int .i64 0, .int .i64 0] 118)).cell? ⟨p, 2, none⟩ = some (.string t) := by rw [hw1]; exact c2
  have R1 : Hid (Blk w1 w.heap.size 118 [.string ⟨#[]⟩, .int .i64 0, .int .i64 0]) := Hid.of (by rw [← hw1]; exact Go.heap_alloc_new _ _)
  have C0 := Hid.of c0
  have C1 := Hid.of c1
  have C2 := Hid.of c2
  have HW1 := Hid.of hw1
  have B1 : Hid (Below w.heap.size w w1) := Hid.of (by rw [← hw1]; exact (Below.refl _ _).alloc (Nat.le_refl _) _)
  clear h hf h0 hle hn hcl hp1 lt hw1
  go_enter Tryz.func92, Tryz.ntmps92
  go_wp2_with fail
  rw [HW1.out]
  refine wp_region_noPanic ?_
  refine wp_region_held_drew (S := fun w' => w'.cell? ⟨p, 0, none⟩ = some (.int .i64 x1) ∧ w'.cell? ⟨p, 1, none⟩ = some (.int .i64 x2) ∧ w'.cell? ⟨p, 2, none⟩ = some (.string t)) (by kernel_rfl) ?_ (fun hHeld => ?_)
  · exact ⟨c0, c1, c2⟩
  refine wpAnyH_take (i := 0) (oi := ⟨_, _, _, _, _, _⟩) (v := ?_) rfl (by kernel_rfl) (by kernel_rfl) (by kernel_rfl) (fun _ _ _ h => h) (Or.inl ⟨by rfl, ?_⟩) hHeld ?_
  rotate_left
  · intro w' hSw
    try dsimp only at hSw
    go_simp
    all_goals with_reducible rfl
  simp only [Act.put, List.setIfInBounds_toArray, List.set_cons_zero, List.set_cons_succ]
  refine wpAnyH_take (i := 1) (oi := ⟨_, _, _, _, _, _⟩) (v := ?_) rfl (by kernel_rfl) (by kernel_rfl) (by kernel_rfl) (fun _ _ _ h => h) (Or.inl ⟨by rfl, ?_⟩) hHeld ?_
  rotate_left
  · intro w' hSw
    try dsimp only at hSw
    go_simp
    all_goals with_reducible rfl
  simp only [Act.put, List.setIfInBounds_toArray, List.set_cons_zero, List.set_cons_succ]
  refine wpAnyH_take (i := 2) (oi := ⟨_, _, _, _, _, _⟩) (v := ?_) rfl (by kernel_rfl) (by kernel_rfl) (by kernel_rfl) (fun _ _ _ h => h) (Or.inl ⟨by rfl, ?_⟩) hHeld ?_
  rotate_left
  · intro w' hSw
    try dsimp only at hSw
    go_simp
    all_goals with_reducible rfl
  simp only [Act.put, List.setIfInBounds_toArray, List.set_cons_zero, List.set_cons_succ]
  refine wpAnyH_take (i := 3) (oi := ⟨_, _, _, _, _, _⟩) (v := ?_) rfl (by kernel_rfl) (by kernel_rfl) (by kernel_rfl) (fun _ _ _ h => h) (Or.inl ⟨by rfl, ?_⟩) hHeld ?_
  rotate_left
  · intro w' hSw
    try dsimp only at hSw
    go_simp
    all_goals with_reducible rfl
  simp only [Act.put, List.setIfInBounds_toArray, List.set_cons_zero, List.set_cons_succ]
  refine wpAnyH_take (i := 4) (oi := ⟨_, _, _, _, _, _⟩) (v := ?_) rfl (by kernel_rfl) (by kernel_rfl) (by kernel_rfl) (fun _ _ _ h => h) (Or.inl ⟨by rfl, ?_⟩) hHeld ?_
  rotate_left
  · intro w' hSw
    try dsimp only at hSw
    go_simp
    all_goals with_reducible rfl
  simp only [Act.put, List.setIfInBounds_toArray, List.set_cons_zero, List.set_cons_succ]
  refine wpAnyH_take (i := 5) (oi := ⟨_, _, _, _, _, _⟩) (v := ?_) rfl (by kernel_rfl) (by kernel_rfl) (by kernel_rfl) (fun _ _ _ h => h) (Or.inl ⟨by rfl, ?_⟩) hHeld ?_
  rotate_left
  · intro w' hSw
    try dsimp only at hSw
    go_simp
    all_goals with_reducible rfl
  simp only [Act.put, List.setIfInBounds_toArray, List.set_cons_zero, List.set_cons_succ]
  refine wpAnyH_take (i := 6) (oi := ⟨_, _, _, _, _, _⟩) (v := ?_) rfl (by kernel_rfl) (by kernel_rfl) (by kernel_rfl) (fun _ _ _ h => h) (Or.inl ⟨by rfl, ?_⟩) hHeld ?_
  rotate_left
  · intro w' hSw
    try dsimp only at hSw
    go_simp
    all_goals with_reducible rfl
  simp only [Act.put, List.setIfInBounds_toArray, List.set_cons_zero, List.set_cons_succ]
  refine wpAnyH_take (i := 7) (oi := ⟨_, _, _, _, _, _⟩) (v := ?_) rfl (by kernel_rfl) (by kernel_rfl) (by kernel_rfl) (fun _ _ _ h => h) (Or.inl ⟨by rfl, ?_⟩) hHeld ?_
  rotate_left
  · intro w' hSw
    try dsimp only at hSw
    go_simp
    all_goals with_reducible rfl
  simp only [Act.put, List.setIfInBounds_toArray, List.set_cons_zero, List.set_cons_succ]
  refine wpAnyH_take (i := 11) (oi := ⟨_, _, _, _, _, _⟩) (v := ?_) rfl (by kernel_rfl) (by kernel_rfl) (by kernel_rfl) (fun _ _ _ h => h) (Or.inl ⟨by rfl, ?_⟩) hHeld ?_
  rotate_left
  · intro w' hSw
    try dsimp only at hSw
    go_simp
    all_goals with_reducible rfl
  simp only [Act.put, List.setIfInBounds_toArray, List.set_cons_zero, List.set_cons_succ]
  refine wpAnyH_take (i := 12) (oi := ⟨_, _, _, _, _, _⟩) (v := ?_) rfl (by kernel_rfl) (by kernel_rfl) (by kernel_rfl) (fun _ _ _ h => h) (Or.inl ⟨by rfl, ?_⟩) hHeld ?_
  rotate_left
  · intro w' hSw
    try dsimp only at hSw
    go_simp
    all_goals with_reducible rfl
  simp only [Act.put, List.setIfInBounds_toArray, List.set_cons_zero, List.set_cons_succ]
  refine wpAnyH_take (i := 13) (oi := ⟨_, _, _, _, _, _⟩) (v := ?_) rfl (by kernel_rfl) (by kernel_rfl) (by kernel_rfl) (fun _ _ _ h => h) (Or.inl ⟨by rfl, ?_⟩) hHeld ?_
  rotate_left
  · intro w' hSw
    try dsimp only at hSw
    go_simp
    all_goals with_reducible rfl
  simp only [Act.put, List.setIfInBounds_toArray, List.set_cons_zero, List.set_cons_succ]
  refine wpAnyH_take (i := 14) (oi := ⟨_, _, _, _, _, _⟩) (v := ?_) rfl (by kernel_rfl) (by kernel_rfl) (by kernel_rfl) (fun _ _ _ h => h) (Or.inl ⟨by rfl, ?_⟩) hHeld ?_
  rotate_left
  · intro w' hSw
    try dsimp only at hSw
    go_simp
    all_goals with_reducible rfl
  simp only [Act.put, List.setIfInBounds_toArray, List.set_cons_zero, List.set_cons_succ]
  refine wpAnyH_take (i := 15) (oi := ⟨_, _, _, _, _, _⟩) (v := ?_) rfl (by kernel_rfl) (by kernel_rfl) (by kernel_rfl) (fun _ _ _ h => h) (Or.inl ⟨by rfl, ?_⟩) hHeld ?_
  rotate_left
  · intro w' hSw
    try dsimp only at hSw
    go_simp
    all_goals with_reducible rfl
  simp only [Act.put, List.setIfInBounds_toArray, List.set_cons_zero, List.set_cons_succ]
  refine wpAnyH_take (i := 16) (oi := ⟨_, _, _, _, _, _⟩) (v := ?_) rfl (by kernel_rfl) (by kernel_rfl) (by kernel_rfl) (fun _ _ _ h => h) (Or.inl ⟨by rfl, ?_⟩) hHeld ?_
  rotate_left
  · intro w' hSw
    try dsimp only at hSw
    go_simp
    all_goals with_reducible rfl
  simp only [Act.put, List.setIfInBounds_toArray, List.set_cons_zero, List.set_cons_succ]
  refine wpAnyH_take (i := 17) (oi := ⟨_, _, _, _, _, _⟩) (v := ?_) rfl (by kernel_rfl) (by kernel_rfl) (by kernel_rfl) (fun _ _ _ h => h) (Or.inl ⟨by rfl, ?_⟩) hHeld ?_
  rotate_left
  · intro w' hSw
    try dsimp only at hSw
    go_simp
    all_goals with_reducible rfl
  simp only [Act.put, List.setIfInBounds_toArray, List.set_cons_zero, List.set_cons_succ]
  refine wpAnyH_take (i := 18) (oi := ⟨_, _, _, _, _, _⟩) (v := ?_) rfl (by kernel_rfl) (by kernel_rfl) (by kernel_rfl) (fun _ _ _ h => h) (Or.inl ⟨by rfl, ?_⟩) hHeld ?_
  rotate_left
  · intro w' hSw
    try dsimp only at hSw
    go_simp
    all_goals with_reducible rfl
  simp only [Act.put, List.setIfInBounds_toArray, List.set_cons_zero, List.set_cons_succ]
  refine wpAnyH_take (i := 19) (oi := ⟨_, _, _, _, _, _⟩) (v := ?_) rfl (by kernel_rfl) (by kernel_rfl) (by kernel_rfl) (fun _ _ _ h => h) (Or.inl ⟨by rfl, ?_⟩) hHeld ?_
  rotate_left
  · intro w' hSw
    try dsimp only at hSw
    go_simp
    all_goals with_reducible rfl
  simp only [Act.put, List.setIfInBounds_toArray, List.set_cons_zero, List.set_cons_succ]
  refine wpAnyH_take (i := 20) (oi := ⟨_, _, _, _, _, _⟩) (v := ?_) rfl (by kernel_rfl) (by kernel_rfl) (by kernel_rfl) (fun _ _ _ h => h) (Or.inl ⟨by rfl, ?_⟩) hHeld ?_
  rotate_left
  · intro w' hSw
    try dsimp only at hSw
    go_simp
    all_goals with_reducible rfl
  simp only [Act.put, List.setIfInBounds_toArray, List.set_cons_zero, List.set_cons_succ]
  refine wpAnyH_ready (rs := [8]) (by kernel_rfl) (by simp) ?_
  refine AllReadyH.cons (o := ⟨_, _, _, _, _, _⟩) rfl (fun K hK => ?_) AllReadyH.nil
  go_simp
  refine (HG.out _).mono ?_
  rintro e w2 ⟨rfl, rfl⟩
  refine hK.out _ _ ⟨c0, c1, c2⟩ (fun hHeld => ?_)
  clear hK K
  try simp only [Act.put, List.setIfInBounds_toArray, List.set_cons_zero, List.set_cons_succ]
  refine wpAnyH_take (i := 9) (oi := ⟨_, _, _, _, _, _⟩) (v := ?_) rfl (by kernel_rfl) (by kernel_rfl) (by kernel_rfl) (fun _ _ _ h => h) (Or.inl ⟨by rfl, ?_⟩) hHeld ?_
  rotate_left
  · intro w' hSw
    try dsimp only at hSw
    go_simp
    all_goals with_reducible rfl
  simp only [Act.put, List.setIfInBounds_toArray, List.set_cons_zero, List.set_cons_succ]
  refine wpAnyH_ready (rs := [10]) (by kernel_rfl) (by simp) ?_
  refine AllReadyH.cons (o := ⟨_, _, _, _, _, _⟩) rfl (fun K hK => ?_) AllReadyH.nil
  go_simp
  refine (Clone_any _ _ HC.out).mono ?_
  rintro e w3 ⟨rfl, b3⟩
  have B3 : Hid (Below w1.heap.size w1 w3) := Hid.of ((Below.refl _ w1).drew.trans b3)
  clear b3 c0 c1 c2 hHeld
  have c0 : w3.cell? ⟨p, 0, none⟩ = some (.int .i64 x1) := by rw [B3.out.cell LT1.out]; exact C0.out
  have c1 : w3.cell? ⟨p, 1, none⟩ = some (.int .i64 x2) := by rw [B3.out.cell LT1.out]; exact C1.out
  have c2 : w3.cell? ⟨p, 2, none⟩ = some (.string t) := by rw [B3.out.cell LT1.out]; exact C2.out
  have r3 : Blk w3 w.heap.size 118 [.string ⟨#[]⟩, .int .i64 0, .int .i64 0] := by
    have := R1.out
    unfold Blk at this ⊢
    rw [B3.out.block _ (Array.getElem?_eq_some_iff.1 this).1]
    exact this
  have d0 := r3.cell 0 _ rfl
  have d1 := r3.cell 1 _ rfl
  have d2 := r3.cell 2 _ rfl
  have f0 : w3.frozen? ⟨w.heap.size, 0, none⟩ = false := row_frozen r3
  have f1 : w3.frozen? ⟨w.heap.size, 1, none⟩ = false := row_frozen r3
  have f2 : w3.frozen? ⟨w.heap.size, 2, none⟩ = false := row_frozen r3
  have R3 := Hid.of r3
  clear r3
  refine hK.out _ _ ⟨c0, c1, c2⟩ (fun hHeld => ?_)
  clear hK K
  try simp only [Act.put, List.setIfInBounds_toArray, List.set_cons_zero, List.set_cons_succ]
  refine wpAnyH_take (i := 21) (oi := ⟨_, _, _, _, _, _⟩) (v := ?_) rfl (by kernel_rfl) (by kernel_rfl) (by kernel_rfl) (fun _ _ _ h => h) (Or.inl ⟨by rfl, ?_⟩) hHeld ?_
  rotate_left
  · intro w' hSw
    try dsimp only at hSw
    go_simp
    all_goals with_reducible rfl
  simp only [Act.put, List.setIfInBounds_toArray, List.set_cons_zero, List.set_cons_succ]
  refine wpAnyH_ready (rs := [22]) (by kernel_rfl) (by simp) ?_
  refine AllReadyH.cons (o := ⟨_, _, _, _, _, _⟩) rfl (fun K hK => ?_) AllReadyH.nil
  go_simp
  have r4 : Blk (((w3.setCell ⟨w.heap.size, 0, none⟩ (.string (t.extract 0 n))).setCell ⟨w.heap.size, 1, none⟩ (.int .i64 x1)).setCell ⟨w.heap.size, 2, none⟩ (.int .i64 x2)) w.heap.size 118 [.string (t.extract 0 n), .int .i64 x1, .int .i64 x2] := by
    have := row_set (i := 2) (row_set (i := 1) (row_set (i := 0) R3.out (.string (t.extract 0 n))) (.int .i64 x1)) (.int .i64 x2)
    unfold Blk
    rw [this]
    simp
  have g4 : w3.grownBy (((w3.setCell ⟨w.heap.size, 0, none⟩ (.string (t.extract 0 n))).setCell ⟨w.heap.size, 1, none⟩ (.int .i64 x1)).setCell ⟨w.heap.size, 2, none⟩ (.int .i64 x2)) (some w.heap.size) :=
    grownBy_trans (grownBy_trans (grownBy_setCell _ _ _ _) (grownBy_setCell _ _ _ _)) (grownBy_setCell _ _ _ _)
  have b4 : Below w.heap.size w (((w3.setCell ⟨w.heap.size, 0, none⟩ (.string (t.extract 0 n))).setCell ⟨w.heap.size, 1, none⟩ (.int .i64 x1)).setCell ⟨w.heap.size, 2, none⟩ (.int .i64 x2)) :=
    below_set3 (B1.out.trans (B3.out.mono B1.out.size)) (Nat.le_refl _) (B1.out.trans (B3.out.mono B1.out.size)).size _ _ _
  clear d0 d1 d2 f0 f1 f2 hHeld
  generalize (((w3.setCell ⟨w.heap.size, 0, none⟩ (.string (t.extract 0 n))).setCell ⟨w.heap.size, 1, none⟩ (.int .i64 x1)).setCell ⟨w.heap.size, 2, none⟩ (.int .i64 x2)) = w4 at r4 g4 b4 ⊢
  have hb4 : w4.heap[p]? = w3.heap[p]? := g4.block p (Nat.lt_of_lt_of_le LT1.out B3.out.size) (fun e => by cases e; exact absurd LTP.out (Nat.lt_irrefl _))
  rw [← World.cell?_of_block hb4] at c0 c1 c2
  have z0 := r4.cell 0 _ rfl
  have z1 := r4.cell 1 _ rfl
  have z2 := r4.cell 2 _ rfl
  have B4 := Hid.of b4
  clear r4 g4 b4 hb4
  refine hK.out _ _ ⟨c0, c1, c2⟩ (fun hHeld => ?_)
  clear hK K
  try simp only [Act.put, List.setIfInBounds_toArray, List.set_cons_zero, List.set_cons_succ]
  refine wpAnyH_take (i := 23) (oi := ⟨_, _, _, _, _, _⟩) (v := ?_) rfl (by kernel_rfl) (by kernel_rfl) (by kernel_rfl) (fun _ _ _ h => h) (Or.inl ⟨by rfl, ?_⟩) hHeld ?_
  rotate_left
  · intro w' hSw
    try dsimp only at hSw
    go_simp
    all_goals with_reducible rfl
  simp only [Act.put, List.setIfInBounds_toArray, List.set_cons_zero, List.set_cons_succ]
  refine wpAnyH_done (by kernel_rfl) ?_ _
  refine NoPanic.normal ?_
  go_wp2
  refine bodyPost_ret (v := .tuple #[wdVal (t.extract 0 n, (x1 : Int), (x2 : Int)), .bool true]) ?_ rfl ⟨rfl, B4.out⟩
  simp [results, Tryz.results92, go_sem, z0, z1, z2]

end Go.Proofs.YtadepjpmpjipmaaGreatDoor

/-
  What package word's own Next, Len and Is answer.
-/
namespace Go.Proofs.YtadepjpmpjipmaaGreatDoor
open Go.RowKit Go.Lib

theorem WdAt.kept {w w' : World} {p : Nat} {x : Nat × Nat} {t : ByteArray} {l : List WdL} (h : WdAt w p x t l) (hb : w'.heap[p]? = w.heap[p]?) : WdAt w' p x t l :=
  ⟨by have := h.row; unfold WRow Blk at this ⊢; rw [hb]; exact this, h.may, h.words, h.b1, h.b2⟩

theorem WdAt.lt {w : World} {p : Nat} {x : Nat × Nat} {t : ByteArray} {l : List WdL} (h : WdAt w p x t l) : p < w.heap.size := (Array.getElem?_eq_some_iff.1 h.row).1

theorem WdAt.below {w w' : World} {p : Nat} {x : Nat × Nat} {t : ByteArray} {l : List WdL} (h : WdAt w p x t l) (b : Below w.heap.size w w') : WdAt w' p x t l := h.kept (b.block p h.lt)

theorem peek_any (w : World) (p : Nat) (x : Nat × Nat) (t : ByteArray) (l : List WdL) (h : WdAt w p x t l) (hf : WFirst t) :
    Calls Tryz.prog 92 #[wptr p] w fun e w' => e = .returned (.tuple #[wdVal (wHead l).1, .bool (wHead l).2]) ∧ Below w.heap.size w w' := by
  rcases Nat.eq_zero_or_pos t.size with h0 | h0
  · have hl := last_of h h0
    subst hl
    exact peek_none w p x t _ h h0
  · have hl := (first_of h hf h0).1
    have := peek_some w p x t l h hf h0
    rw [hl]
    exact this

theorem peek_at (w : World) (p : Nat) (x : Nat × Nat) (t : ByteArray) (l : List WdL) (h : WdAt w p x t l) (hf : WFirst t) (s : ByteArray) (ln col : Int) (b : Bool) (hx : wHead l = ((s, ln, col), b)) :
    Calls Tryz.prog 92 #[wptr p] w fun e w' => e = .returned (.tuple #[.agg #[.string s, .int .i64 ln, .int .i64 col], .bool b]) ∧ Below w.heap.size w w' := by
  have := peek_any w p x t l h hf
  rw [hx] at this
  exact this

theorem BlkW.made (w : World) (s : ByteArray) (ln col : Int) : Blk (w.alloc (.cells #[.string s, .int .i64 ln, .int .i64 col] 118)) w.heap.size 118 [.string s, .int .i64 ln, .int .i64 col] := Go.heap_alloc_new _ _

theorem Blk.kept {w w' : World} {b : Nat} {ty : TypeId} {xs : List Value} (h : Blk w b ty xs) (hb : w'.heap[b]? = w.heap[b]?) : Blk w' b ty xs := by
  unfold Blk at h ⊢
  rw [hb]
  exact h

theorem Blk.lt {w : World} {b : Nat} {ty : TypeId} {xs : List Value} (h : Blk w b ty xs) : b < w.heap.size := (Array.getElem?_eq_some_iff.1 h).1

/-- Three cells are set. -/
def set3 (v : World) (b : Nat) (v0 v1 v2 : Value) : World := ((v.setCell ⟨b, 0, none⟩ v0).setCell ⟨b, 1, none⟩ v1).setCell ⟨b, 2, none⟩ v2

theorem blk_set3 {v : World} {b : Nat} {ty : TypeId} {u0 u1 u2 : Value} (h : Blk v b ty [u0, u1, u2]) (v0 v1 v2 : Value) : Blk (set3 v b v0 v1 v2) b ty [v0, v1, v2] := by
  have := row_set (i := 2) (row_set (i := 1) (row_set (i := 0) h v0) v1) v2
  unfold set3 Blk
  rw [this]
  simp

theorem set3_grown (v : World) (b : Nat) (v0 v1 v2 : Value) : v.grownBy (set3 v b v0 v1 v2) (some b) :=
  grownBy_trans (grownBy_trans (grownBy_setCell _ _ _ _) (grownBy_setCell _ _ _ _)) (grownBy_setCell _ _ _ _)

end Go.Proofs.YtadepjpmpjipmaaGreatDoor

/-
  What package word's own Len and Is answer.
-/
namespace Go.Proofs.YtadepjpmpjipmaaGreatDoor
open Go.RowKit Go.Lib

theorem BlkV.made (w : World) (x : Nat × Nat) (t : ByteArray) : WRow (w.alloc (.cells #[.int .i64 x.1, .int .i64 x.2, .string t] 125)) w.heap.size x t := Go.heap_alloc_new _ _

theorem wFrom_sizes : ∀ (n : Nat) (t : List UInt8) (x : Nat × Nat), t.length ≤ n → (∀ c ∈ t, wMay c = true) → ∀ y ∈ wFrom x t, y.1.size ≤ t.length
  | 0, t, x, hn, _, y, hy => by
    have : t = [] := List.eq_nil_of_length_eq_zero (by omega)
    subst this
    rw [wFrom_nil] at hy
    cases hy
  | n + 1, [], x, _, _, y, hy => by
    rw [wFrom_nil] at hy
    cases hy
  | n + 1, c :: t, x, hn, hm, y, hy => by
    rw [List.length_cons] at hn
    by_cases hc : wIn c = true
    · by_cases h35 : c.toNat = 35
      · have hp : wNoEnd c = true := by unfold wNoEnd; rw [h35]; rfl
        rw [wFrom_remark x c t h35] at hy
        have hk : 1 ≤ wLen wNoEnd (c :: t) := by unfold wLen; rw [List.takeWhile_cons, if_pos hp, List.length_cons]; omega
        have := wFrom_sizes n _ _ (by rw [List.length_drop, List.length_cons]; omega) (fun d hd => hm d (List.mem_of_mem_drop hd)) y hy
        rw [List.length_drop] at this
        omega
      · rw [wFrom_word x c t hc h35 hm] at hy
        have hk : 1 ≤ wLen wIn (c :: t) := by unfold wLen; rw [List.takeWhile_cons, if_pos hc, List.length_cons]; omega
        rcases List.mem_cons.1 hy with rfl | hy
        · rw [← byte_len]
          simp only [List.length_take]
          omega
        · have := wFrom_sizes n _ _ (by rw [List.length_drop, List.length_cons]; omega) (fun d hd => hm d (List.mem_of_mem_drop hd)) y hy
          rw [List.length_drop] at this
          omega
    · rw [wFrom_blank x c t (by simpa using hc) (hm c (List.mem_cons_self ..))] at hy
      have := wFrom_sizes n t _ (by omega) (fun d hd => hm d (List.mem_cons_of_mem _ hd)) y hy
      rw [List.length_cons]
      omega

theorem may_of_in {c : UInt8} (h : wIn c = true) : wMay c = true := by
  have := wIn_yes h
  unfold wMay
  rw [decide_eq_false (by unfold wBad; omega)]
  rfl

theorem wLen_full {p : UInt8 → Bool} {t : List UInt8} (h : wLen p t = t.length) : ∀ c ∈ t, p c = true := by
  have ht := wLen_take p t
  rw [h, List.take_length] at ht
  intro c hc
  rw [ht] at hc
  exact takeWhile_mem _ _ _ hc

theorem wIs_true (s : ByteArray) (h0 : 0 < s.size) (h1 : s.size ≤ 4000) (h35 : ¬ s[0].toNat = 35) (hr : wLen wIn s.data.toList = s.size) : wIs s = true := by
  obtain ⟨r, hs⟩ := list_cons s h0
  have hin := wLen_full (hr.trans (byte_len s).symm)
  have hm : ∀ c ∈ s.data.toList, wMay c = true := fun c hc => may_of_in (hin c hc)
  have hw : wFrom (1, 1) s.data.toList = [(s, 1, 1)] := by
    have e := wFrom_word (1, 1) s[0] r (hin _ (by rw [hs]; exact List.mem_cons_self ..)) h35 (by rw [← hs]; exact hm)
    rw [← hs, hr] at e
    rw [e, List.drop_eq_nil_of_le (by rw [byte_len]; exact Nat.le_refl _), wFrom_nil]
    congr 2
    refine same_bytes ?_
    rw [List.take_of_length_le (by rw [byte_len]; exact Nat.le_refl _)]
  unfold wIs
  rw [wCut_may (by rw [byte_len]; exact h1) hm, hw]
  exact beq_self_eq_true _

theorem wIs_no (s : ByteArray) (h : s.size ≤ 4000 → (∀ c ∈ s.data.toList, wMay c = true) → ∀ y, wFrom (1, 1) s.data.toList = [y] → y.1.size < s.size) : wIs s = false := by
  unfold wIs
  rcases Nat.lt_or_ge 4000 s.size with h1 | h1
  · have : wCut s.data.toList = (none, 2, 0) := by unfold wCut; rw [if_pos (by rw [byte_len]; exact h1)]
    rw [this]
  · rcases Nat.lt_or_ge (wLen wMay s.data.toList) s.data.toList.length with h2 | h2
    · rw [wCut_maynot (by rw [byte_len]; exact h1) h2]
    · have hm := wLen_full (Nat.le_antisymm (wLen_le wMay s.data.toList) h2)
      rw [wCut_may (by rw [byte_len]; exact h1) hm]
      have := h h1 hm
      simp only
      cases hw : wFrom (1, 1) s.data.toList with
      | nil => rfl
      | cons y l =>
        cases l with
        | cons _ _ => rfl
        | nil =>
          have hy := this y hw
          simp only
          refine beq_false_of_ne fun e => ?_
          have e2 := congrArg List.length e
          rw [ByteArray.toList_eq, ByteArray.toList_eq, byte_len, byte_len] at e2
          omega

theorem wIs_empty (s : ByteArray) (h0 : s.size = 0) : wIs s = false := wIs_no s (fun _ _ y hy => by
  have : s.data.toList = [] := List.eq_nil_of_length_eq_zero (by rw [byte_len]; exact h0)
  rw [this, wFrom_nil] at hy
  cases hy)

theorem wIs_long (s : ByteArray) (h0 : 4000 < s.size) : wIs s = false := wIs_no s (fun h _ _ _ => by omega)

theorem wIs_remark (s : ByteArray) (h0 : 0 < s.size) (h35 : s[0].toNat = 35) : wIs s = false := wIs_no s (fun _ hm y hy => by
  obtain ⟨r, hs⟩ := list_cons s h0
  have e := wFrom_remark (1, 1) s[0] r h35
  rw [← hs] at e
  rw [e] at hy
  have hp : wNoEnd s[0] = true := by unfold wNoEnd; rw [h35]; rfl
  have hk : 1 ≤ wLen wNoEnd s.data.toList := by rw [hs]; unfold wLen; rw [List.takeWhile_cons, if_pos hp, List.length_cons]; omega
  have := wFrom_sizes _ _ _ (Nat.le_refl _) (fun d hd => hm d (List.mem_of_mem_drop hd)) y (by rw [hy]; exact List.mem_cons_self ..)
  rw [List.length_drop, byte_len] at this
  omega)

theorem wIs_more (s : ByteArray) (h0 : 0 < s.size) (h35 : ¬ s[0].toNat = 35) (hr : ¬ wLen wIn s.data.toList = s.size) : wIs s = false := wIs_no s (fun _ hm y hy => by
  obtain ⟨r, hs⟩ := list_cons s h0
  have hle := wLen_le wIn s.data.toList
  rw [byte_len] at hle
  cases hc : wIn s[0] with
  | true =>
    have e := wFrom_word (1, 1) s[0] r hc h35 (by rw [← hs]; exact hm)
    rw [← hs, hy] at e
    have e2 := (List.cons.inj e).1
    rw [e2, ← byte_len]
    simp only [List.length_take, byte_len]
    omega
  | false =>
    have e := wFrom_blank (1, 1) s[0] r hc (hm _ (by rw [hs]; exact List.mem_cons_self ..))
    rw [← hs, hy] at e
    have := wFrom_sizes _ r _ (Nat.le_refl _) (fun d hd => hm d (by rw [hs]; exact List.mem_cons_of_mem _ hd)) y (by rw [← e]; exact List.mem_cons_self ..)
    have hl := congrArg List.length hs
    rw [byte_len, List.length_cons] at hl
    omega)

end Go.Proofs.YtadepjpmpjipmaaGreatDoor
