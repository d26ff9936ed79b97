/-
  What methods Len, Small, Ints and Words of a Packer do.
-/
import Derived.Test.YtdlljjbooajgiaaDoorD
namespace Go.Proofs.YtdlljjbooajgiaaDoor
open Go.RowKit Go.Lib

set_option maxHeartbeats 400000 in
theorem Len_Pk (B p : Nat) (l : List UInt8) (bad : Int) (w : World) (h : Pk B p l bad w) :
    Calls Tryd.prog 23 #[.pointer (some ⟨p, 0, none⟩)] w fun e w' => e = .returned (.int .i64 l.length) ∧ w = w' := by
  have c0 := h.at
  clear h
  go_enter Tryd.func23, Tryd.ntmps23
  go_wp2
  go_ret
  exact ⟨rfl, rfl⟩

set_option maxHeartbeats 400000 in
theorem Len_nil (w : World) :
    Calls Tryd.prog 23 #[.pointer none] w fun e w' => e = .returned (.int .i64 0) ∧ w = w' := by
  go_enter Tryd.func23, Tryd.ntmps23
  go_wp2
  go_ret
  exact ⟨rfl, rfl⟩

/-- The slice v holds the numbers xs of kind k. -/
def NumRow (k : IntKind) (w : World) (v : Value) (xs : List Int) : Prop :=
  ∃ a c, v = .slice a xs.length c ∧ ((xs = []) ∨ ∃ b o, a = some ⟨b, o, none⟩ ∧ b < w.heap.size ∧ ∀ j, j < xs.length → w.cell? ⟨b, o + j, none⟩ = some (.int k (xs.getD j 0)))

theorem NumRow.at {k : IntKind} {w : World} {b o n c : Nat} {xs : List Int} (hb : b < w.heap.size) (hc : ∀ j, j < xs.length → w.cell? ⟨b, o + j, none⟩ = some (.int k (xs.getD j 0))) (hn : n = xs.length) :
    NumRow k w (.slice (some ⟨b, o, none⟩) n c) xs := ⟨_, c, by rw [hn], .inr ⟨b, o, rfl, hb, hc⟩⟩

/-- What Small puts of numbers that fit. -/
def smallBytes (k : Nat) (xs : List Int) : List UInt8 := (xs.map fun x => le k x.toNat).flatten

theorem smallBytes_take (k : Nat) (xs : List Int) (j : Nat) (h : j < xs.length) : smallBytes k (xs.take (j + 1)) = smallBytes k (xs.take j) ++ le k (xs.getD j 0).toNat := by
  unfold smallBytes
  have e : xs.getD j 0 = xs[j] := by simp [List.getD, h]
  rw [List.take_succ_eq_append_getElem h, List.map_append, List.flatten_append, e]
  simp

theorem smallBytes_length (k : Nat) (xs : List Int) : (smallBytes k xs).length = k * xs.length := by
  unfold smallBytes
  induction xs with
  | nil => simp
  | cons x xs ih => simp [le_length, ih, Nat.mul_add]; omega

/-- What put does to the receiver pv in the worlds that come behind w: R says it. -/
def PutSpec (pv : Value) (w : World) (R : Int → List UInt8 → World → World → Prop) : Prop :=
  ∀ (v : Value) (l2 : List UInt8) (e0 : Int) (wr : World), Below w.heap.size w wr → wr.ownsRowF w.heap.size 5 1 v l2.length (Lib.byteCells l2) → l2.length ≤ 140737488355328 →
    Calls Tryd.prog 37 #[pv, v, .int .i64 e0] wr fun e w' => e = .returned (.tuple #[]) ∧ R e0 l2 wr w'

theorem putSpec_Pk (B p : Nat) (l : List UInt8) (w : World) (h : Pk B p l 0 w) (h1 : l.length ≤ 140737488355328) :
    PutSpec (.pointer (some ⟨p, 0, none⟩)) w (fun e0 l2 wr w' => Pk B p (l ++ l2) e0 w' ∧ wr.grownBy w' (some p)) :=
  fun v l2 e0 wr hb hs h2 => put_Pk B p l v w.heap.size l2 e0 wr (h.kept (grown_of_below hb)) hs h1 h2

theorem putSpec_stopped (B p : Nat) (l : List UInt8) (bad : Int) (hbad : (bad != 0) = true) (w : World) (h : Pk B p l bad w) :
    PutSpec (.pointer (some ⟨p, 0, none⟩)) w (fun _ _ wr w' => wr = w') :=
  fun v _ e0 wr hb _ _ => put_stopped p v e0 bad hbad wr (h.kept (grown_of_below hb)).bad

theorem putSpec_nil (w : World) : PutSpec (.pointer none) w (fun _ _ wr w' => wr = w') :=
  fun v _ e0 wr _ _ _ => put_nil v e0 wr

/-- What a method did: it wrote new blocks alone, and put l2 with the error e0. -/
def Did (w : World) (R : Int → List UInt8 → World → World → Prop) (e0 : Int) (l2 : List UInt8) (w' : World) : Prop := ∃ wr, Below w.heap.size w wr ∧ R e0 l2 wr w'

theorem Did.pk {B p : Nat} {l l2 : List UInt8} {e0 : Int} {w w' : World} (h : Did w (fun e0 l2 wr w' => Pk B p (l ++ l2) e0 w' ∧ wr.grownBy w' (some p)) e0 l2 w') : Pk B p (l ++ l2) e0 w' ∧ w.grownBy w' (some p) := by
  obtain ⟨wr, hb, h1, h2⟩ := h
  exact ⟨h1, grownBy_trans ⟨hb.os, hb.tape, hb.output, hb.size, fun k hk _ => hb.block k hk⟩ h2⟩

theorem Did.same {l2 : List UInt8} {e0 : Int} {w w' : World} (h : Did w (fun _ _ wr w' => wr = w') e0 l2 w') : Below w.heap.size w w' := by
  obtain ⟨wr, hb, rfl⟩ := h
  exact hb

set_option maxHeartbeats 400000 in
theorem Small_wrong (pv : Option Addr) (n : Int) (hn : ¬ (1 ≤ n ∧ n ≤ 7)) (v : Value) (w : World) (R : Int → List UInt8 → World → World → Prop) (hput : Hid (PutSpec (.pointer pv) w R)) :
    Calls Tryd.prog 17 #[.pointer pv, .int .i64 n, v] w fun e w' => e = .returned (.tuple #[]) ∧ Did w R 1 [] w' := by
  have HN := Hid.of hn
  clear hn
  go_enter Tryd.func17, Tryd.ntmps17
  go_wp2_with (first | (go_at_call 38; refine (isSmall_no n HN.out _).mono ?_; rintro e w' ⟨rfl, rfl⟩) | (go_at_call 37; refine (hput.out (.slice none 0 0) [] 1 _ (Below.refl _ _) (World.ownsRowF_nil _ _ _ _) (by simp)).mono ?_; rintro e w' ⟨rfl, h2⟩))
  exact bodyPost_ret (results_none rfl _ _ _) rfl ⟨rfl, _, Below.refl _ _, h2⟩

theorem pow_wrap (k : Nat) (hk : k ≤ 7) : wrap64 (2 ^ (8 * k)) = 256 ^ k := by
  match k, hk with
  | 0, _ => rw [IntWalk.wrap64_in _ (by decide)]; rfl
  | 1, _ => rw [IntWalk.wrap64_in _ (by decide)]; rfl
  | 2, _ => rw [IntWalk.wrap64_in _ (by decide)]; rfl
  | 3, _ => rw [IntWalk.wrap64_in _ (by decide)]; rfl
  | 4, _ => rw [IntWalk.wrap64_in _ (by decide)]; rfl
  | 5, _ => rw [IntWalk.wrap64_in _ (by decide)]; rfl
  | 6, _ => rw [IntWalk.wrap64_in _ (by decide)]; rfl
  | 7, _ => rw [IntWalk.wrap64_in _ (by decide)]; rfl
  | k + 8, h => omega

theorem u64_small (m k : Nat) (hk : k ≤ 7) (h : (m : Int) < 256 ^ k) : IntKind.u64.wrap (m : Int) = m := by
  have h2 : (256 : Int) ^ k ≤ 72057594037927936 := by
    have h3 : (256 : Nat) ^ k ≤ 256 ^ 7 := Nat.pow_le_pow_right (by decide) hk
    have h4 : (((256 : Nat) ^ k : Nat) : Int) = (256 : Int) ^ k := by simp
    rw [← h4]
    omega
  show (m : Int) % 18446744073709551616 = m
  omega

set_option maxHeartbeats 400000 in
theorem Small_good (pv : Option Addr) (k : Nat) (hk : 1 ≤ k) (hk7 : k ≤ 7) (v : Value) (xs : List Int) (w : World) (R : Int → List UInt8 → World → World → Prop) (hput : Hid (PutSpec (.pointer pv) w R))
    (hv : NumRow .i64 w v xs) (hok : Hid (∀ j, j < xs.length → 0 ≤ xs.getD j 0 ∧ xs.getD j 0 < 256 ^ k)) (h2 : xs.length ≤ 1000000000) :
    Calls Tryd.prog 17 #[.pointer pv, .int .i64 k, v] w fun e w' => e = .returned (.tuple #[]) ∧ Did w R 0 (smallBytes k xs) w' := by
  obtain ⟨a, c, rfl, hv⟩ := hv
  have HV := Hid.of hv
  clear hv
  have hjk : ∀ j, j ≤ xs.length → j * k + 8 ≤ 140737488355328 := fun j hj => by have := Nat.mul_le_mul hj hk7; omega
  have HJ := Hid.of hjk
  clear hjk
  go_enter Tryd.func17, Tryd.ntmps17
  go_wp2_with (first | (go_at_call 38; refine (isSmall_yes k (by omega) (by omega) _).mono ?_; rintro e w' ⟨rfl, rfl⟩))
  go_loopw [6, 16] (fun b i wr => ∃ j : Nat, j ≤ xs.length ∧ i = .int .i64 j ∧ OwnBuf w.heap.size 5 b (j * k) (Lib.byteCells (smallBytes k (xs.take j))) w wr) (fun _ i _ => xs.length - (intOf i).toNat)
  case atStart => exact ⟨0, Nat.zero_le _, rfl, by simpa [smallBytes, Lib.byteCells] using ⟨World.ownsRowF_nil w _ _ _, Below.refl _ _, Nat.le_refl _⟩⟩
  case round =>
    obtain ⟨j, hj, rfl, hbr⟩ := hrel
    by_cases hlt : j < xs.length
    · have hne : xs ≠ [] := by intro e; subst e; simp at hlt
      obtain ⟨vb, vo, rfl, hvb, hcs⟩ := (HV.out).resolve_left hne
      obtain ⟨hlo, hhi⟩ := hok.out j hlt
      obtain ⟨m, hm⟩ := Int.eq_ofNat_of_zero_le hlo
      have hcell : wr.cell? ⟨vb, vo + j, none⟩ = some (.int .i64 m) := by rw [hbr.2.1.cell hvb, hcs j hlt, hm]
      rw [hm] at hhi
      have hwr := u64_small m k hk7 hhi
      have hhi' : (m : Int) < wrap64 (2 ^ (8 * k)) := by rw [pow_wrap k hk7]; exact hhi
      have HM := Hid.of hm
      clear hm hhi hlo hcs hne
      go_wp2_with (go_at_call 36; refine (lay_any w.heap.size _ (j * k) _ w _ k m (by omega) hbr (HJ.out j hj)).mono ?_; rintro e w1 ⟨b', rfl, hb1⟩)
      go_roundw
      case rel =>
        refine ⟨j + 1, by omega, by go_num, ?_⟩
        rw [smallBytes_take k xs j hlt, HM.out, byteCells_append, Nat.succ_mul]
        exact hb1
      case measure => simp [intOf]; omega
    · have hjl : j = xs.length := by omega
      subst hjl
      obtain ⟨hbr1, hbr2, hbr3⟩ := hbr
      rw [List.take_length] at hbr1
      go_wp2_with (go_at_call 37; refine (hput.out _ (smallBytes k xs) 0 _ hbr2 (by rw [smallBytes_length, Nat.mul_comm]; exact hbr1) (by rw [smallBytes_length, Nat.mul_comm]; have := HJ.out xs.length (Nat.le_refl _); omega)).mono ?_; rintro e w1 ⟨rfl, h4⟩)
      go_end0
      exact ⟨rfl, _, hbr2, h4⟩

set_option maxHeartbeats 400000 in
theorem Small_bad (pv : Option Addr) (k : Nat) (hk : 1 ≤ k) (hk7 : k ≤ 7) (v : Value) (xs : List Int) (m : Nat) (hm : m < xs.length) (w : World) (R : Int → List UInt8 → World → World → Prop) (hput : Hid (PutSpec (.pointer pv) w R))
    (hv : NumRow .i64 w v xs) (hok : Hid (∀ j, j < m → 0 ≤ xs.getD j 0 ∧ xs.getD j 0 < 256 ^ k)) (hbad : Hid (¬ (0 ≤ xs.getD m 0 ∧ xs.getD m 0 < 256 ^ k))) (h2 : xs.length ≤ 1000000000) :
    Calls Tryd.prog 17 #[.pointer pv, .int .i64 k, v] w fun e w' => e = .returned (.tuple #[]) ∧ Did w R 1 (smallBytes k (xs.take m)) w' := by
  obtain ⟨a, c, rfl, hv⟩ := hv
  have HV := Hid.of hv
  clear hv
  have hjk : ∀ j, j ≤ xs.length → j * k + 8 ≤ 140737488355328 := fun j hj => by have := Nat.mul_le_mul hj hk7; omega
  have HJ := Hid.of hjk
  clear hjk
  go_enter Tryd.func17, Tryd.ntmps17
  go_wp2_with (first | (go_at_call 38; refine (isSmall_yes k (by omega) (by omega) _).mono ?_; rintro e w' ⟨rfl, rfl⟩))
  go_loopw [6, 16] (fun b i wr => ∃ j : Nat, j ≤ m ∧ i = .int .i64 j ∧ OwnBuf w.heap.size 5 b (j * k) (Lib.byteCells (smallBytes k (xs.take j))) w wr) (fun _ i _ => m - (intOf i).toNat)
  case atStart => exact ⟨0, Nat.zero_le _, rfl, by simpa [smallBytes, Lib.byteCells] using ⟨World.ownsRowF_nil w _ _ _, Below.refl _ _, Nat.le_refl _⟩⟩
  case round =>
    obtain ⟨j, hj, rfl, hbr⟩ := hrel
    have hlt : j < xs.length := by omega
    have hne : xs ≠ [] := by intro e; subst e; simp at hlt
    obtain ⟨vb, vo, rfl, hvb, hcs⟩ := (HV.out).resolve_left hne
    by_cases hjm : j < m
    · obtain ⟨hlo, hhi⟩ := hok.out j hjm
      obtain ⟨y, hy⟩ := Int.eq_ofNat_of_zero_le hlo
      have hcell : wr.cell? ⟨vb, vo + j, none⟩ = some (.int .i64 y) := by rw [hbr.2.1.cell hvb, hcs j hlt, hy]
      rw [hy] at hhi
      have hwr := u64_small y k hk7 hhi
      have hhi' : (y : Int) < wrap64 (2 ^ (8 * k)) := by rw [pow_wrap k hk7]; exact hhi
      have HY := Hid.of hy
      clear hy hhi hlo hcs hne
      go_wp2_with (go_at_call 36; refine (lay_any w.heap.size _ (j * k) _ w _ k y (by omega) hbr (HJ.out j (by omega))).mono ?_; rintro e w1 ⟨b', rfl, hb1⟩)
      go_roundw
      case rel =>
        refine ⟨j + 1, by omega, by go_num, ?_⟩
        rw [smallBytes_take k xs j hlt, HY.out, byteCells_append, Nat.succ_mul]
        exact hb1
      case measure => simp [intOf]; omega
    · have hjl : j = m := by omega
      subst hjl
      obtain ⟨hbr1, hbr2, hbr3⟩ := hbr
      have hcell : wr.cell? ⟨vb, vo + j, none⟩ = some (.int .i64 (xs.getD j 0)) := by rw [hbr2.cell hvb, hcs j hlt]
      obtain ⟨x, hx⟩ : ∃ x, x = xs.getD j 0 := ⟨_, rfl⟩
      rw [← hx] at hcell hbad
      have htl : (xs.take j).length = j := by simp; omega
      have HT := Hid.of htl
      have HX := Hid.of hx
      clear hx hcs hne htl
      by_cases h0 : 0 ≤ x
      · have hge : ¬ x < wrap64 (2 ^ (8 * k)) := by rw [pow_wrap k hk7]; exact fun hc => hbad.out ⟨h0, hc⟩
        go_wp2_with (go_at_call 37; refine (hput.out _ (smallBytes k (xs.take j)) 1 _ hbr2 (by rw [smallBytes_length, HT.out, Nat.mul_comm]; exact hbr1) (by rw [smallBytes_length, HT.out, Nat.mul_comm]; have := HJ.out j (by omega); omega)).mono ?_; rintro e w1 ⟨rfl, h4⟩)
        exact bodyPost_ret (results_none rfl _ _ _) rfl ⟨rfl, _, hbr2, h4⟩
      · go_wp2_with (go_at_call 37; refine (hput.out _ (smallBytes k (xs.take j)) 1 _ hbr2 (by rw [smallBytes_length, HT.out, Nat.mul_comm]; exact hbr1) (by rw [smallBytes_length, HT.out, Nat.mul_comm]; have := HJ.out j (by omega); omega)).mono ?_; rintro e w1 ⟨rfl, h4⟩)
        exact bodyPost_ret (results_none rfl _ _ _) rfl ⟨rfl, _, hbr2, h4⟩

end Go.Proofs.YtdlljjbooajgiaaDoor
