/-
  A bundle of texts: NR TBM NF.
-/
import Derived.Deep.DeepCutAuto
import Derived.Test.YtdchjcidfaencaaGreatQ05
import Derived.Test.YtdchjcidfaencaaGreatQ01
import Derived.Test.YtdchjcidfaencaaGreatQ02
import Derived.Test.YtdchjcidfaencaaGreatQ04
namespace Go.Proofs.YtdchjcidfaencaaGreat
open Go.RowKit Go.Lib

/-- A byte that a name may have. -/
def nByteP (c : Nat) : Prop := 97 ≤ c ∧ c ≤ 122 ∨ 48 ≤ c ∧ c ≤ 57 ∨ c = 46 ∨ c = 95 ∨ c = 45

instance (c : Nat) : Decidable (nByteP c) := by unfold nByteP; infer_instance

def nByte (c : UInt8) : Bool := decide (nByteP c.toNat)

/-- It may be a name. -/
def nOk (s : ByteArray) : Bool := decide (1 ≤ s.size) && decide (s.size ≤ 15) && s.data.toList.all nByte

theorem nOk_size {s : ByteArray} (h : s.size < 1 ∨ 15 < s.size) : nOk s = false := by
  unfold nOk
  rcases h with h | h
  · rw [decide_eq_false (show ¬ 1 ≤ s.size by omega)]; rfl
  · rw [decide_eq_false (show ¬ s.size ≤ 15 by omega), Bool.and_false, Bool.false_and]

theorem nOk_all {s : ByteArray} (h1 : 1 ≤ s.size) (h2 : s.size ≤ 15) : nOk s = s.data.toList.all nByte := by
  unfold nOk
  rw [decide_eq_true h1, decide_eq_true h2]
  rfl

theorem all_false {s : ByteArray} {k : Nat} (hk : k < s.size) (hp : ¬ nByteP s[k].toNat) : s.data.toList.all nByte = false := by
  have h : nByte s[k] = false := decide_eq_false hp
  rw [List.all_eq_false]
  exact ⟨s[k], by have : s.data.toList[k]'(by rw [byte_len]; exact hk) ∈ s.data.toList := List.getElem_mem _; exact this, by rw [h]; simp⟩

theorem all_take {s : ByteArray} {k : Nat} (hk : k < s.size) (hp : nByteP s[k].toNat) (ht : (s.data.toList.take k).all nByte = true) : (s.data.toList.take (k + 1)).all nByte = true := by
  have h : nByte s[k] = true := decide_eq_true hp
  rw [take_snoc s k hk, List.all_append, ht]
  simp [h]

set_option maxRecDepth 20000 in
set_option maxHeartbeats 1600000 in
theorem refName_any (s : ByteArray) (hs : s.size ≤ maxLen) (w : World) :
    Calls Tryz.prog 30 #[.string s] w fun e w' => e = .returned (.bool (nOk s)) ∧ ∃ q, w' = w.drewN q := by
  unfold maxLen at hs
  by_cases hz : s.size < 1 ∨ 15 < s.size
  · rw [nOk_size hz]
    have hz' : s.size < 1 ∨ (¬ s.size < 1 ∧ 15 < s.size) := by omega
    clear hz
    rcases hz' with h1 | ⟨h1, h2⟩
    all_goals
      go_enter Tryz.func30, Tryz.ntmps30
      go_wp2
      go_ret
      exact ⟨rfl, 0, rfl⟩
  · have h1 : ¬ s.size < 1 := fun c => hz (.inl c)
    have h2 : ¬ 15 < s.size := fun c => hz (.inr c)
    have e0 := Hid.of (nOk_all (s := s) (by omega) (by omega))
    clear hz
    go_enter Tryz.func30, Tryz.ntmps30
    go_wp2
    go_loopw [3] (fun i wr => ∃ k : Nat, k ≤ s.size ∧ i = .int .i64 k ∧ Hid ((s.data.toList.take k).all nByte = true) ∧ ∃ q, wr = w.drewN q) (fun i _ => s.size - (intOf i).toNat)
    case atStart => exact ⟨0, Nat.zero_le _, rfl, Hid.of rfl, 0, rfl⟩
    case round =>
      obtain ⟨k, hk, rfl, HA, q, rfl⟩ := hrel
      by_cases hlt : k < s.size
      · have HF := Hid.of (fun h => all_false hlt h)
        have HT := Hid.of (fun h => all_take hlt h HA.out)
        have hc9 := s[k].toNat_lt
        go_upto_region 7 with (fail)
        generalize s[k].toNat = c at *
        go_wp2
        all_goals first
          | (go_ret; rw [e0.out, HF.out (by unfold nByteP; first | omega | (simp at *; omega))]; exact ⟨rfl, q, rfl⟩)
          | (exact ⟨⟨k + 1, by omega, by go_num, Hid.of (HT.out (by unfold nByteP; first | omega | (simp at *; omega))), q, rfl⟩, by simp [intOf]; omega⟩)
      · go_wp2
        go_ret
        have : k = s.size := by omega
        subst this
        have h := HA.out
        rw [List.take_of_length_le (by rw [byte_len]; exact Nat.le_refl _)] at h
        rw [e0.out, h]
        exact ⟨rfl, q, rfl⟩

/-- A record, as a value. -/
structure NRec where
  n : ByteArray
  t : Int
  c : Int
  hi : Int
  lo : Int
  mn : Int
  mx : Int

abbrev nrv (a : NRec) : Value := .agg #[.string a.n, .int .i64 a.t, .int .i64 a.c, .int .i64 a.hi, .int .u64 a.lo, .int .i64 a.mn, .int .i64 a.mx]

/-- One record stands ahead of another one. -/
def nLess (a b : NRec) : Bool := Op.bytesLess a.n.toList b.n.toList || (a.n.toList == b.n.toList) && decide (a.t < b.t)

theorem nLess_parts {a b : NRec} {x y z : Bool} (h1 : Op.bytesLess a.n.toList b.n.toList = x) (h2 : (a.n.toList == b.n.toList) = y) (h3 : decide (a.t < b.t) = z) : nLess a b = (x || y && z) := by
  unfold nLess
  rw [h1, h2, h3]

set_option maxRecDepth 20000 in
set_option maxHeartbeats 800000 in
theorem refLess_any (a b : NRec) (w : World) :
    Calls Tryz.prog 82 #[nrv a, nrv b] w fun e w' => e = .returned (.bool (nLess a b)) ∧ Below w.heap.size w w' := by
  obtain ⟨x, h1⟩ : ∃ x, Op.bytesLess a.n.toList b.n.toList = x := ⟨_, rfl⟩
  obtain ⟨y, h2⟩ : ∃ y, (a.n.toList == b.n.toList) = y := ⟨_, rfl⟩
  obtain ⟨z, h3⟩ : ∃ z, decide (a.t < b.t) = z := ⟨_, rfl⟩
  rw [nLess_parts h1 h2 h3]
  obtain ⟨an, at_, ac, ahi, alo, amn, amx⟩ := a
  obtain ⟨bn, bt, bc, bhi, blo, bmn, bmx⟩ := b
  simp only at h1 h2 h3
  cases x <;> cases y <;> cases z
  all_goals
    go_enter Tryz.func82, Tryz.ntmps82
    go_wp2
    go_ret
    exact ⟨rfl, ((Below.refl _ _).alloc (Nat.le_refl _) _).alloc (by simp) _⟩

end Go.Proofs.YtdchjcidfaencaaGreat

namespace Go.Proofs.YtdchjcidfaencaaGreat
open Go.RowKit

abbrev TKey := ByteArray × Int

/-- One name and start ahead of another. -/
def kLt (a b : TKey) : Prop := nLt a.1 b.1 ∨ (a.1 = b.1 ∧ a.2 < b.2)

def kLtB (a b : TKey) : Bool := Op.bytesLess a.1.toList b.1.toList || ((a.1.toList == b.1.toList) && decide (a.2 < b.2))

theorem kLtB_iff {a b : TKey} : kLtB a b = true ↔ kLt a b := by
  unfold kLtB kLt nLt
  rw [Bool.or_eq_true, Bool.and_eq_true, beq_iff_eq, decide_eq_true_eq]
  constructor
  · rintro (h | ⟨h, k⟩)
    · exact .inl h
    · exact .inr ⟨toList_eq h, k⟩
  · rintro (h | ⟨h, k⟩)
    · exact .inl h
    · exact .inr ⟨by rw [h], k⟩

theorem kLt_irrefl (a : TKey) : ¬ kLt a a := by
  rintro (h | ⟨_, h⟩)
  · exact nLt_irrefl _ h
  · omega

theorem kLt_trans {a b c : TKey} (h1 : kLt a b) (h2 : kLt b c) : kLt a c := by
  rcases h1 with h1 | ⟨h1, k1⟩ <;> rcases h2 with h2 | ⟨h2, k2⟩
  · exact .inl (nLt_trans h1 h2)
  · exact .inl (by rw [← h2]; exact h1)
  · exact .inl (by rw [h1]; exact h2)
  · exact .inr ⟨h1.trans h2, by omega⟩

theorem kLt_total {a b : TKey} (h : a ≠ b) : kLt a b ∨ kLt b a := by
  by_cases h1 : a.1 = b.1
  · have h2 : a.2 ≠ b.2 := fun c => h (Prod.ext h1 c)
    by_cases h3 : a.2 < b.2
    · exact .inl (.inr ⟨h1, h3⟩)
    · exact .inr (.inr ⟨h1.symm, by omega⟩)
  · rcases nLt_total h1 with h2 | h2
    · exact .inl (.inl h2)
    · exact .inr (.inl h2)

/-- A record. -/
structure TRec where
  n : ByteArray
  s : Int
  a : Ag

def TRec.k (r : TRec) : TKey := (r.n, r.s)

theorem TRec.same {x y : TRec} (h : x.k = y.k) (ha : x.a = y.a) : x = y := by
  cases x; cases y
  simp only [TRec.k, Prod.mk.injEq] at h
  obtain ⟨rfl, rfl⟩ := h
  simp only at ha
  rw [ha]

/-- It may stand in a table. -/
def tOk (e : Int) (r : TRec) : Bool := nOk r.n && decide (0 ≤ r.s) && gOn r.s e && agOk r.a

/-- One more, in its place. -/
def tIns : List TRec → TRec → List TRec
  | [], r => [r]
  | x :: l, r => if kLtB x.k r.k = true then x :: tIns l r else if x.k = r.k then ⟨x.n, x.s, agBoth x.a r.a⟩ :: l else r :: x :: l

def tAdd (e : Int) (l : List TRec) (r : TRec) : List TRec := if tOk e r = true then tIns l r else l
def tAdds (e : Int) (l rs : List TRec) : List TRec := rs.foldl (tAdd e) l
def TSorted (l : List TRec) : Prop := l.Pairwise fun x y => kLt x.k y.k
/-- Valid, and such as memory can hold. -/
def TGood (r : TRec) : Prop := agOk r.a = true ∧ AgIn r.a
def TAll (l : List TRec) : Prop := ∀ x ∈ l, TGood x

theorem TGood.g {r : TRec} (h : TGood r) : AgGood r.a := ⟨h.2, .inl h.1⟩

theorem TAll.tail {x : TRec} {l : List TRec} (h : TAll (x :: l)) : TAll l := fun y hy => h y (List.mem_cons_of_mem _ hy)
theorem TAll.head {x : TRec} {l : List TRec} (h : TAll (x :: l)) : TGood x := h x (List.mem_cons_self ..)

theorem tIns_all {l : List TRec} {r : TRec} (h : TAll l) (hr : TGood r) : TAll (tIns l r) := by
  induction l with
  | nil => intro x hx; rw [List.mem_singleton.1 hx]; exact hr
  | cons y l ih =>
    unfold tIns
    split
    · intro x hx
      rcases List.mem_cons.1 hx with rfl | hx
      · exact h.head
      · exact ih h.tail x hx
    · split
      · intro x hx
        rcases List.mem_cons.1 hx with rfl | hx
        · exact ⟨agBoth_ok h.head.1 hr.1, agBoth_in h.head.2 hr.2 h.head.1 hr.1⟩
        · exact h.tail x hx
      · intro x hx
        rcases List.mem_cons.1 hx with rfl | hx
        · exact hr
        · exact h x hx

theorem tOk_good {e : Int} {r : TRec} (h : tOk e r = true) (hi : AgIn r.a) : TGood r := by
  unfold tOk at h
  rw [Bool.and_eq_true] at h
  exact ⟨h.2, hi⟩

theorem tAdds_all {e : Int} {l rs : List TRec} (h : TAll l) (hr : ∀ r ∈ rs, AgIn r.a) : TAll (tAdds e l rs) := by
  induction rs generalizing l with
  | nil => exact h
  | cons r rs ih =>
    refine ih (l := tAdd e l r) ?_ (fun x hx => hr x (List.mem_cons_of_mem _ hx))
    unfold tAdd
    split
    · exact tIns_all h (tOk_good ‹_› (hr r (List.mem_cons_self ..)))
    · exact h

theorem tIns_key {l : List TRec} {r y : TRec} (h : y ∈ tIns l r) : y.k = r.k ∨ ∃ x ∈ l, y.k = x.k := by
  induction l with
  | nil => exact .inl (by rw [List.mem_singleton.1 h])
  | cons x l ih =>
    unfold tIns at h
    split at h
    · rcases List.mem_cons.1 h with rfl | h
      · exact .inr ⟨_, List.mem_cons_self .., rfl⟩
      · rcases ih h with h | ⟨z, hz, h⟩
        · exact .inl h
        · exact .inr ⟨z, List.mem_cons_of_mem _ hz, h⟩
    · split at h
      · rcases List.mem_cons.1 h with rfl | h
        · exact .inr ⟨x, List.mem_cons_self .., rfl⟩
        · exact .inr ⟨y, List.mem_cons_of_mem _ h, rfl⟩
      · rcases List.mem_cons.1 h with rfl | h
        · exact .inl rfl
        · exact .inr ⟨y, h, rfl⟩

theorem tIns_sorted {l : List TRec} {r : TRec} (h : TSorted l) : TSorted (tIns l r) := by
  induction l with
  | nil => exact List.pairwise_singleton _ _
  | cons x l ih =>
    obtain ⟨h1, h2⟩ := List.pairwise_cons.1 h
    unfold tIns
    split
    · rename_i hk
      refine List.pairwise_cons.2 ⟨fun y hy => ?_, ih h2⟩
      rcases tIns_key hy with e | ⟨z, hz, e⟩
      · rw [e]; exact kLtB_iff.1 hk
      · rw [e]; exact h1 z hz
    · split
      · exact List.pairwise_cons.2 ⟨fun y hy => h1 y hy, h2⟩
      · rename_i hk hne
        have hrx : kLt r.k x.k := by
          rcases kLt_total hne with c | c
          · exact absurd (kLtB_iff.2 c) hk
          · exact c
        refine List.pairwise_cons.2 ⟨fun y hy => ?_, h⟩
        rcases List.mem_cons.1 hy with rfl | hy
        · exact hrx
        · exact kLt_trans hrx (h1 y hy)

theorem tAdds_sorted {e : Int} {l rs : List TRec} (h : TSorted l) : TSorted (tAdds e l rs) := by
  induction rs generalizing l with
  | nil => exact h
  | cons r rs ih =>
    refine ih (l := tAdd e l r) ?_
    unfold tAdd
    split
    · exact tIns_sorted h
    · exact h

theorem sorted_nil : TSorted [] := List.Pairwise.nil
theorem all_nil : TAll [] := fun _ hx => absurd hx List.not_mem_nil

theorem sorted_same : ∀ {a b : List TRec}, TSorted a → TSorted b → (∀ x, x ∈ a ↔ x ∈ b) → a = b
  | [], [], _, _, _ => rfl
  | [], y :: b, _, _, h => absurd ((h y).2 (List.mem_cons_self ..)) List.not_mem_nil
  | x :: a, [], _, _, h => absurd ((h x).1 (List.mem_cons_self ..)) List.not_mem_nil
  | x :: a, y :: b, ha, hb, h => by
    obtain ⟨a1, a2⟩ := List.pairwise_cons.1 ha
    obtain ⟨b1, b2⟩ := List.pairwise_cons.1 hb
    have e : x = y := by
      rcases List.mem_cons.1 ((h x).1 (List.mem_cons_self ..)) with c | c
      · exact c
      · rcases List.mem_cons.1 ((h y).2 (List.mem_cons_self ..)) with d | d
        · exact d.symm
        · exact absurd (kLt_trans (b1 x c) (a1 y d)) (kLt_irrefl _)
    subst e
    rw [sorted_same a2 b2 (fun z => ?_)]
    constructor
    · intro hz
      rcases List.mem_cons.1 ((h z).1 (List.mem_cons_of_mem _ hz)) with rfl | c
      · exact absurd (a1 z hz) (kLt_irrefl _)
      · exact c
    · intro hz
      rcases List.mem_cons.1 ((h z).2 (List.mem_cons_of_mem _ hz)) with rfl | c
      · exact absurd (b1 z hz) (kLt_irrefl _)
      · exact c

theorem tAdds_append (e : Int) (l rs ks : List TRec) : tAdds e l (rs ++ ks) = tAdds e (tAdds e l rs) ks := List.foldl_append

theorem tAdds_ok {e : Int} {l rs : List TRec} (hl : ∀ x ∈ l, tOk e x = true) (h : ∀ x ∈ rs, AgIn x.a) (ha : TAll l) : ∀ x ∈ tAdds e l rs, tOk e x = true := by
  induction rs generalizing l with
  | nil => exact hl
  | cons r rs ih =>
    have hi : AgIn r.a := h r (List.mem_cons_self ..)
    refine ih (l := tAdd e l r) ?_ (fun x hx => h x (List.mem_cons_of_mem _ hx)) ?_
    · unfold tAdd
      split
      · rename_i hok
        intro y hy
        have hg := tIns_all ha (tOk_good hok hi) y hy
        unfold tOk at hok ⊢
        simp only [Bool.and_eq_true, decide_eq_true_eq] at hok ⊢
        rcases tIns_key hy with e1 | ⟨z, hz, e1⟩
        · simp only [TRec.k, Prod.mk.injEq] at e1
          rw [e1.1, e1.2]
          exact ⟨hok.1, hg.1⟩
        · have := hl z hz
          unfold tOk at this
          simp only [Bool.and_eq_true, decide_eq_true_eq] at this
          simp only [TRec.k, Prod.mk.injEq] at e1
          rw [e1.1, e1.2]
          exact ⟨this.1, hg.1⟩
      · exact hl
    · unfold tAdd
      split
      · rename_i hok
        exact tIns_all ha (tOk_good hok hi)
      · exact ha

end Go.Proofs.YtdchjcidfaencaaGreat

namespace Go.Proofs.YtdchjcidfaencaaGreat
open Go.RowKit Go.Lib

set_option maxRecDepth 20000 in
set_option maxHeartbeats 800000 in
theorem mayBe_any (c : Nat) (w : World) :
    Calls Tryz.prog 114 #[.int .u8 c] w fun e w' => e = .returned (.bool (decide (nByteP c))) ∧ w' = w := by
  have HT := Hid.of (fun h : nByteP c => decide_eq_true h)
  have HF := Hid.of (fun h : ¬ nByteP c => decide_eq_false h)
  go_enter Tryz.func114, Tryz.ntmps114
  go_wp2
  all_goals
    go_ret
    refine ⟨?_, rfl⟩
    first
      | (rw [HT.out (by unfold nByteP; omega)]; rfl)
      | (rw [HF.out (by unfold nByteP; omega)]; rfl)
      | (refine congrArg (fun b => Ending.returned (.bool b)) (Bool.eq_iff_iff.2 ?_)
         simp only [Bool.or_eq_true, decide_eq_true_eq, beq_iff_eq]
         unfold nByteP
         omega)

end Go.Proofs.YtdchjcidfaencaaGreat
