/-
  A bundle of texts: NR TBM NF.
-/
import Derived.Deep.DeepCutAuto
import Derived.WalkKit
import Derived.Laws.BitsAllLaws
import Derived.Test.YtfgfgdchaoekfaaGreatDoorQ06
import Derived.Test.YtfgfgdchaoekfaaGreatDoorQ01
import Derived.Test.YtfgfgdchaoekfaaGreatDoorQ02
namespace Go.Proofs.YtfgfgdchaoekfaaGreatDoor
open Go.RowKit Go.Lib

/-- A byte that a name may have. -/
def nByteP (c : Nat) : Prop := 97 ≤ c ∧ c ≤ 122 ∨ 48 ≤ c ∧ c ≤ 57 ∨ c = 46 ∨ c = 95 ∨ c = 45

instance (c : Nat) : Decidable (nByteP c) := by unfold nByteP; infer_instance

def nByte (c : UInt8) : Bool := decide (nByteP c.toNat)

/-- It may be a name. -/
def nOk (s : ByteArray) : Bool := decide (1 ≤ s.size) && decide (s.size ≤ 15) && s.data.toList.all nByte

theorem nOk_size {s : ByteArray} (h : s.size < 1 ∨ 15 < s.size) : nOk s = false := by
  unfold nOk
  rcases h with h | h
  · rw [decide_eq_false (show ¬ 1 ≤ s.size by omega)]; rfl
  · rw [decide_eq_false (show ¬ s.size ≤ 15 by omega), Bool.and_false, Bool.false_and]

theorem nOk_all {s : ByteArray} (h1 : 1 ≤ s.size) (h2 : s.size ≤ 15) : nOk s = s.data.toList.all nByte := by
  unfold nOk
  rw [decide_eq_true h1, decide_eq_true h2]
  rfl

theorem all_false {s : ByteArray} {k : Nat} (hk : k < s.size) (hp : ¬ nByteP s[k].toNat) : s.data.toList.all nByte = false := by
  have h : nByte s[k] = false := decide_eq_false hp
  rw [List.all_eq_false]
  exact ⟨s[k], by have : s.data.toList[k]'(by rw [byte_len]; exact hk) ∈ s.data.toList := List.getElem_mem _; exact this, by rw [h]; simp⟩

theorem all_take {s : ByteArray} {k : Nat} (hk : k < s.size) (hp : nByteP s[k].toNat) (ht : (s.data.toList.take k).all nByte = true) : (s.data.toList.take (k + 1)).all nByte = true := by
  have h : nByte s[k] = true := decide_eq_true hp
  rw [take_snoc s k hk, List.all_append, ht]
  simp [h]

set_option maxRecDepth 20000 in
set_option maxHeartbeats 1600000 in
theorem refName_any (s : ByteArray) (hs : s.size ≤ maxLen) (w : World) :
    Calls Tryz.prog 43 #[.string s] w fun e w' => e = .returned (.bool (nOk s)) ∧ ∃ q, w' = w.drewN q := by
  unfold maxLen at hs
  by_cases hz : s.size < 1 ∨ 15 < s.size
  · rw [nOk_size hz]
    have hz' : s.size < 1 ∨ (¬ s.size < 1 ∧ 15 < s.size) := by omega
    clear hz
    rcases hz' with h1 | ⟨h1, h2⟩
    all_goals
      go_enter Tryz.func43, Tryz.ntmps43
      go_wp2
      go_ret
      exact ⟨rfl, 0, rfl⟩
  · have h1 : ¬ s.size < 1 := fun c => hz (.inl c)
    have h2 : ¬ 15 < s.size := fun c => hz (.inr c)
    have e0 := Hid.of (nOk_all (s := s) (by omega) (by omega))
    clear hz
    go_enter Tryz.func43, Tryz.ntmps43
    go_wp2
    go_loopw [3] (fun i wr => ∃ k : Nat, k ≤ s.size ∧ i = .int .i64 k ∧ Hid ((s.data.toList.take k).all nByte = true) ∧ ∃ q, wr = w.drewN q) (fun i _ => s.size - (intOf i).toNat)
    case atStart => exact ⟨0, Nat.zero_le _, rfl, Hid.of rfl, 0, rfl⟩
    case round =>
      obtain ⟨k, hk, rfl, HA, q, rfl⟩ := hrel
      by_cases hlt : k < s.size
      · have HF := Hid.of (fun h => all_false hlt h)
        have HT := Hid.of (fun h => all_take hlt h HA.out)
        have hc9 := s[k].toNat_lt
        go_upto_region 7 with (fail)
        generalize s[k].toNat = c at *
        go_wp2
        all_goals first
          | (go_ret; rw [e0.out, HF.out (by unfold nByteP; first | omega | (simp at *; omega))]; exact ⟨rfl, q, rfl⟩)
          | (exact ⟨⟨k + 1, by omega, by go_num, Hid.of (HT.out (by unfold nByteP; first | omega | (simp at *; omega))), q, rfl⟩, by simp [intOf]; omega⟩)
      · go_wp2
        go_ret
        have : k = s.size := by omega
        subst this
        have h := HA.out
        rw [List.take_of_length_le (by rw [byte_len]; exact Nat.le_refl _)] at h
        rw [e0.out, h]
        exact ⟨rfl, q, rfl⟩

end Go.Proofs.YtfgfgdchaoekfaaGreatDoor

namespace Go.Proofs.YtfgfgdchaoekfaaGreatDoor
open Go.RowKit

abbrev TKey := ByteArray × Int

/-- A record. -/
structure TRec where
  n : ByteArray
  s : Int
  a : Ag

def TRec.k (r : TRec) : TKey := (r.n, r.s)

theorem TRec.same {x y : TRec} (h : x.k = y.k) (ha : x.a = y.a) : x = y := by
  cases x; cases y
  simp only [TRec.k, Prod.mk.injEq] at h
  obtain ⟨rfl, rfl⟩ := h
  simp only at ha
  rw [ha]

/-- Valid, and such as memory can hold. -/
def TGood (r : TRec) : Prop := agOk r.a = true ∧ AgIn r.a
def TAll (l : List TRec) : Prop := ∀ x ∈ l, TGood x

theorem TGood.g {r : TRec} (h : TGood r) : AgGood r.a := ⟨h.2, .inl h.1⟩

theorem TAll.head {x : TRec} {l : List TRec} (h : TAll (x :: l)) : TGood x := h x (List.mem_cons_self ..)

theorem all_nil : TAll [] := fun _ hx => absurd hx List.not_mem_nil

end Go.Proofs.YtfgfgdchaoekfaaGreatDoor

namespace Go.Proofs.YtfgfgdchaoekfaaGreatDoor
open Go.RowKit Go.Lib

set_option maxRecDepth 20000 in
set_option maxHeartbeats 800000 in
theorem mayBe_any (c : Nat) (w : World) :
    Calls Tryz.prog 131 #[.int .u8 c] w fun e w' => e = .returned (.bool (decide (nByteP c))) ∧ w' = w := by
  have HT := Hid.of (fun h : nByteP c => decide_eq_true h)
  have HF := Hid.of (fun h : ¬ nByteP c => decide_eq_false h)
  go_enter Tryz.func131, Tryz.ntmps131
  go_wp2
  all_goals
    go_ret
    refine ⟨?_, rfl⟩
    first
      | (rw [HT.out (by unfold nByteP; omega)]; rfl)
      | (rw [HF.out (by unfold nByteP; omega)]; rfl)
      | (refine congrArg (fun b => Ending.returned (.bool b)) (Bool.eq_iff_iff.2 ?_)
         simp only [Bool.or_eq_true, decide_eq_true_eq, beq_iff_eq]
         unfold nByteP
         omega)

end Go.Proofs.YtfgfgdchaoekfaaGreatDoor
