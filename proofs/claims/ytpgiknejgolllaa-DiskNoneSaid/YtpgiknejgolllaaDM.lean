/-
  The disk of chapter 6, plain: what lasts, what waits, the power, how many writes, and what it is armed with.
-/
import Derived.WalkKit
import Derived.Test.YtpgiknejgolllaaBA
namespace Go.Proofs.Ytpgiknejgolllaa
open Go.RowKit

/-- A block full of a byte. -/
def fillText (c : UInt8) : ByteArray := ⟨(List.replicate 256 c).toArray⟩

theorem fillText_size (c : UInt8) : (fillText c).size = 256 := by
  show (List.replicate 256 c).toArray.size = 256
  rw [List.size_toArray, List.length_replicate]

structure DSt where
  last : List ByteArray
  waits : List (Nat × ByteArray)
  on : Bool
  cnt : Nat
  armed : Option (Nat × List Int)

/-- Blocks behind some writes. -/
def dApply (l : List ByteArray) (ws : List (Nat × ByteArray)) : List ByteArray := ws.foldl (fun l w => l.set w.1 w.2) l

/-- Those of the writes that stay. -/
def dStay : List (Nat × ByteArray) → List Int → List (Nat × ByteArray)
  | [], _ => []
  | _ :: _, [] => []
  | w :: ws, k :: ks => if k % 2 = 1 then w :: dStay ws ks else dStay ws ks

/-- Does the write at place k stay? -/
def dBit (keep : List Int) (k : Nat) : Bool := match keep[k]? with
  | some v => decide (v % 2 = 1)
  | none => false

def DSt.cur (s : DSt) : List ByteArray := dApply s.last s.waits
def DSt.cut (s : DSt) (keep : List Int) : DSt := if s.on then { s with last := dApply s.last (dStay s.waits keep), waits := [], on := false, armed := none } else { s with armed := none }
def DSt.cuts (s : DSt) : Nat := if s.on then s.waits.length else 0
def DSt.spend (s : DSt) : Bool × DSt := match s.armed with
  | some (0, keep) => (false, s.cut keep)
  | some (n + 1, keep) => (true, { s with cnt := s.cnt + 1, armed := some (n, keep) })
  | none => (true, { s with cnt := s.cnt + 1 })
def DSt.write (s : DSt) (i : Int) (data : ByteArray) : Int × DSt :=
  if s.on = false then (14, s) else if data.size ≠ 256 then (1, s) else if i < 0 ∨ (s.last.length : Int) ≤ i then (15, s)
  else if s.spend.1 then (0, { s.spend.2 with waits := s.spend.2.waits ++ [(i.toNat, data)] }) else (14, s.spend.2)
def DSt.flush (s : DSt) : Int × DSt :=
  if s.on = false then (14, s) else if s.spend.1 then (0, { s.spend.2 with last := s.spend.2.cur, waits := [] }) else (14, s.spend.2)
def DSt.readErr (s : DSt) (i : Int) : Int := if s.on = false then 14 else if i < 0 ∨ (s.last.length : Int) ≤ i then 15 else 0
def DSt.restore (s : DSt) : DSt := { s with last := s.cur, waits := [], on := true }
def DSt.arm (s : DSt) (n : Int) (keep : List Int) : DSt := { s with armed := if n < 0 then none else some (n.toNat, keep) }
def DSt.fresh (n : Nat) : DSt := ⟨List.replicate n (fillText 0), [], true, 0, none⟩

theorem dApply_snoc (l : List ByteArray) (ws : List (Nat × ByteArray)) (w : Nat × ByteArray) : dApply l (ws ++ [w]) = (dApply l ws).set w.1 w.2 := by
  simp [dApply, List.foldl_append]

theorem dApply_length (l : List ByteArray) (ws : List (Nat × ByteArray)) : (dApply l ws).length = l.length := by
  induction ws generalizing l with
  | nil => rfl
  | cons w ws ih => exact (ih (l.set w.1 w.2)).trans (by simp)

theorem dStay_snoc (ws : List (Nat × ByteArray)) (w : Nat × ByteArray) (keep : List Int) : dStay (ws ++ [w]) keep = dStay ws keep ++ (if dBit keep ws.length then [w] else []) := by
  induction ws generalizing keep with
  | nil =>
    cases keep with
    | nil => simp [dStay, dBit]
    | cons k ks =>
      simp only [List.nil_append, dStay, dBit, List.length_nil, List.getElem?_cons_zero, decide_eq_true_eq]
  | cons v ws ih =>
    cases keep with
    | nil => simp [dStay, dBit]
    | cons k ks =>
      have hb : dBit (k :: ks) (v :: ws).length = dBit ks ws.length := by simp [dBit]
      rw [hb, List.cons_append, dStay, dStay, ih ks]
      split <;> simp

/-- What a cut leaves, a write more. -/
theorem dCut_snoc (l : List ByteArray) (ws : List (Nat × ByteArray)) (w : Nat × ByteArray) (keep : List Int) : dApply l (dStay (ws ++ [w]) keep) = if dBit keep ws.length then (dApply l (dStay ws keep)).set w.1 w.2 else dApply l (dStay ws keep) := by
  rw [dStay_snoc]
  split
  · rw [dApply_snoc]
  · rw [List.append_nil]

theorem DSt.cur_length (s : DSt) : s.cur.length = s.last.length := dApply_length _ _

theorem DSt.cut_room (s : DSt) (keep : List Int) : (s.cut keep).last.length = s.last.length := by
  unfold DSt.cut
  split
  · exact dApply_length _ _
  · rfl

theorem DSt.cut_cnt (s : DSt) (keep : List Int) : (s.cut keep).cnt = s.cnt := by
  unfold DSt.cut
  split <;> rfl

theorem DSt.cut_waits (s : DSt) (keep : List Int) : (s.cut keep).waits.length ≤ s.waits.length := by
  unfold DSt.cut
  split <;> simp

theorem DSt.spend_room (s : DSt) : s.spend.2.last.length = s.last.length := by
  unfold DSt.spend
  split
  · exact s.cut_room _
  · rfl
  · rfl

theorem DSt.spend_cnt (s : DSt) : s.spend.2.cnt ≤ s.cnt + 1 := by
  unfold DSt.spend
  split
  · rw [s.cut_cnt]; omega
  · exact Nat.le_refl _
  · exact Nat.le_refl _

theorem DSt.spend_waits (s : DSt) : s.spend.2.waits.length ≤ s.waits.length := by
  unfold DSt.spend
  split
  · exact s.cut_waits _
  · exact Nat.le_refl _
  · exact Nat.le_refl _

theorem DSt.write_room (s : DSt) (i : Int) (data : ByteArray) : (s.write i data).2.last.length = s.last.length := by
  unfold DSt.write
  repeat' split
  all_goals first | rfl | exact s.spend_room

theorem DSt.write_cnt (s : DSt) (i : Int) (data : ByteArray) : (s.write i data).2.cnt ≤ s.cnt + 1 := by
  unfold DSt.write
  repeat' split
  all_goals first | exact Nat.le_succ _ | exact s.spend_cnt

theorem DSt.write_waits (s : DSt) (i : Int) (data : ByteArray) : (s.write i data).2.waits.length ≤ s.waits.length + 1 := by
  have := s.spend_waits
  unfold DSt.write
  repeat' split
  all_goals first | exact Nat.le_succ _ | (simp; omega) | omega

theorem DSt.flush_room (s : DSt) : s.flush.2.last.length = s.last.length := by
  unfold DSt.flush
  repeat' split
  all_goals first | rfl | exact s.spend_room | (rw [DSt.cur_length]; exact s.spend_room)

theorem DSt.flush_cnt (s : DSt) : s.flush.2.cnt ≤ s.cnt + 1 := by
  unfold DSt.flush
  repeat' split
  all_goals first | exact Nat.le_succ _ | exact s.spend_cnt

theorem DSt.flush_waits (s : DSt) : s.flush.2.waits.length ≤ s.waits.length := by
  have := s.spend_waits
  unfold DSt.flush
  repeat' split
  all_goals first | exact Nat.le_refl _ | (simp; done) | omega

/-- Small enough for every count. -/
def DSt.Small (s : DSt) (n : Nat) : Prop := s.cnt ≤ n ∧ s.waits.length ≤ n ∧ s.last.length ≤ 4096

theorem DSt.Small.write {s : DSt} {n : Nat} (h : s.Small n) (i : Int) (data : ByteArray) : (s.write i data).2.Small (n + 1) :=
  ⟨Nat.le_trans (s.write_cnt i data) (Nat.succ_le_succ h.1), Nat.le_trans (s.write_waits i data) (Nat.succ_le_succ h.2.1), by rw [s.write_room]; exact h.2.2⟩
theorem DSt.Small.flush {s : DSt} {n : Nat} (h : s.Small n) : s.flush.2.Small (n + 1) :=
  ⟨Nat.le_trans s.flush_cnt (Nat.succ_le_succ h.1), Nat.le_trans s.flush_waits (Nat.le_succ_of_le h.2.1), by rw [s.flush_room]; exact h.2.2⟩
theorem DSt.Small.cut {s : DSt} {n : Nat} (h : s.Small n) (keep : List Int) : (s.cut keep).Small n :=
  ⟨by rw [s.cut_cnt]; exact h.1, Nat.le_trans (s.cut_waits keep) h.2.1, by rw [s.cut_room]; exact h.2.2⟩
theorem DSt.Small.restore {s : DSt} {n : Nat} (h : s.Small n) : s.restore.Small n := ⟨h.1, Nat.zero_le _, by rw [show s.restore.last = s.cur from rfl, s.cur_length]; exact h.2.2⟩
theorem DSt.Small.arm {s : DSt} {n : Nat} (h : s.Small n) (k : Int) (keep : List Int) : (s.arm k keep).Small n := h
theorem DSt.Small.more {s : DSt} {n m : Nat} (h : s.Small n) (k : n ≤ m) : s.Small m := ⟨Nat.le_trans h.1 k, Nat.le_trans h.2.1 k, h.2.2⟩
theorem DSt.Small.fresh (n : Nat) (h : n ≤ 4096) : (DSt.fresh n).Small 0 := ⟨Nat.le_refl _, Nat.le_refl _, by simp [DSt.fresh]; exact h⟩

end Go.Proofs.Ytpgiknejgolllaa
