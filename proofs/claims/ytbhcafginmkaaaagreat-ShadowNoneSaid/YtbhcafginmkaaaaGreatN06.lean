/-
  A bundle of texts: NM GW.
-/
import Derived.WalkKit
import Derived.Laws.BitsAllLaws
import Derived.Test.YtbhcafginmkaaaaGreatN04
import Derived.Test.YtbhcafginmkaaaaGreatN03
namespace Go.Proofs.YtbhcafginmkaaaaGreat
open Go.RowKit

theorem less_irrefl (x : List UInt8) : Op.bytesLess x x = false := by
  induction x with
  | nil => rfl
  | cons a x ih => simp [Op.bytesLess, ih]

theorem less_trans : ∀ {x y z : List UInt8}, Op.bytesLess x y = true → Op.bytesLess y z = true → Op.bytesLess x z = true
  | _, [], _, h, _ => by simp [Op.bytesLess] at h
  | _, _ :: _, [], _, h => by simp [Op.bytesLess] at h
  | [], _ :: _, _ :: _, _, _ => rfl
  | a :: x, b :: y, c :: z, h1, h2 => by
    simp only [Op.bytesLess, Bool.or_eq_true, decide_eq_true_eq, Bool.and_eq_true, beq_iff_eq] at h1 h2 ⊢
    rcases h1 with h1 | ⟨rfl, h1⟩
    · rcases h2 with h2 | ⟨rfl, h2⟩
      · exact .inl (UInt8.lt_trans h1 h2)
      · exact .inl h1
    · rcases h2 with h2 | ⟨rfl, h2⟩
      · exact .inl h2
      · exact .inr ⟨rfl, less_trans h1 h2⟩

theorem less_total : ∀ (x y : List UInt8), x ≠ y → Op.bytesLess x y = true ∨ Op.bytesLess y x = true
  | [], [], h => absurd rfl h
  | [], _ :: _, _ => .inl rfl
  | _ :: _, [], _ => .inr rfl
  | a :: x, b :: y, h => by
    simp only [Op.bytesLess, Bool.or_eq_true, decide_eq_true_eq, Bool.and_eq_true, beq_iff_eq]
    by_cases e : a = b
    · subst e
      rcases less_total x y (fun c => h (by rw [c])) with k | k
      · exact .inl (.inr ⟨rfl, k⟩)
      · exact .inr (.inr ⟨rfl, k⟩)
    · have : a < b ∨ b < a := by
        rcases Nat.lt_trichotomy a.toNat b.toNat with k | k | k
        · exact .inl (UInt8.lt_iff_toNat_lt.2 k)
        · exact absurd (UInt8.toNat_inj.1 k) e
        · exact .inr (UInt8.lt_iff_toNat_lt.2 k)
      rcases this with k | k
      · exact .inl (.inl k)
      · exact .inr (.inl k)

theorem less_asymm {x y : List UInt8} (h : Op.bytesLess x y = true) : Op.bytesLess y x = false := by
  cases k : Op.bytesLess y x with
  | false => rfl
  | true => have := less_trans h k; rw [less_irrefl] at this; cases this

/-- One text stands ahead of another one. -/
def nLt (a b : ByteArray) : Prop := Op.bytesLess a.toList b.toList = true

theorem toList_eq {a b : ByteArray} (h : a.toList = b.toList) : a = b := by
  rw [ByteArray.toList_eq, ByteArray.toList_eq] at h
  cases a; cases b
  simp only [ByteArray.mk.injEq]
  exact Array.toList_inj.1 h

theorem nLt_irrefl (a : ByteArray) : ¬ nLt a a := by unfold nLt; rw [less_irrefl]; simp
theorem nLt_trans {a b c : ByteArray} (h1 : nLt a b) (h2 : nLt b c) : nLt a c := less_trans h1 h2
theorem nLt_total {a b : ByteArray} (h : a ≠ b) : nLt a b ∨ nLt b a := less_total _ _ (fun c => h (toList_eq c))

/-- They rise: so each is there once. -/
def Rising (l : List ByteArray) : Prop := l.Pairwise nLt

theorem rising_unique : ∀ {a b : List ByteArray}, Rising a → Rising b → (∀ s, s ∈ a ↔ s ∈ b) → a = b
  | [], [], _, _, _ => rfl
  | [], y :: b, _, _, h => absurd ((h y).2 (List.mem_cons_self ..)) List.not_mem_nil
  | x :: a, [], _, _, h => absurd ((h x).1 (List.mem_cons_self ..)) List.not_mem_nil
  | x :: a, y :: b, ha, hb, h => by
    obtain ⟨a1, a2⟩ := List.pairwise_cons.1 ha
    obtain ⟨b1, b2⟩ := List.pairwise_cons.1 hb
    have e : x = y := by
      rcases List.mem_cons.1 ((h x).1 (List.mem_cons_self ..)) with e | e
      · exact e
      · rcases List.mem_cons.1 ((h y).2 (List.mem_cons_self ..)) with k | k
        · exact k.symm
        · exact absurd (nLt_trans (b1 x e) (a1 y k)) (nLt_irrefl y)
    subst e
    have : a = b := rising_unique a2 b2 (fun s => by
      constructor
      · intro hs
        rcases List.mem_cons.1 ((h s).1 (List.mem_cons_of_mem _ hs)) with rfl | k
        · exact absurd (a1 s hs) (nLt_irrefl s)
        · exact k
      · intro hs
        rcases List.mem_cons.1 ((h s).2 (List.mem_cons_of_mem _ hs)) with rfl | k
        · exact absurd (b1 s hs) (nLt_irrefl s)
        · exact k)
    rw [this]

/-- How many at the beginning stand ahead of s. -/
def nPos (o : List ByteArray) (s : ByteArray) : Nat := (o.takeWhile fun t => Op.bytesLess t.toList s.toList).length

theorem nPos_le (o : List ByteArray) (s : ByteArray) : nPos o s ≤ o.length := (List.takeWhile_sublist _).length_le

theorem nPos_before (o : List ByteArray) (s : ByteArray) (j : Nat) (h : j < nPos o s) (t : ByteArray) (ht : o[j]? = some t) : nLt t s := by
  induction o generalizing j with
  | nil => simp at ht
  | cons a o ih =>
    unfold nPos at h
    rw [List.takeWhile_cons] at h
    split at h
    · next hl =>
      match j with
      | 0 =>
        simp at ht
        subst ht
        exact hl
      | j + 1 =>
        simp only [List.length_cons] at h
        exact ih j (by unfold nPos; omega) (by simpa using ht)
    · simp at h

theorem nPos_at (o : List ByteArray) (s : ByteArray) (t : ByteArray) (ht : o[nPos o s]? = some t) : Op.bytesLess t.toList s.toList = false := by
  induction o with
  | nil => simp at ht
  | cons a o ih =>
    unfold nPos at ht
    rw [List.takeWhile_cons] at ht
    split at ht
    · next hl =>
      simp only [List.length_cons, List.getElem?_cons_succ] at ht
      exact ih ht
    · next hl =>
      simp at ht
      subst ht
      simpa using hl

/-- s is put where it belongs. -/
def nIns (o : List ByteArray) (s : ByteArray) : List ByteArray := if o[nPos o s]? = some s then o else o.take (nPos o s) ++ [s] ++ o.drop (nPos o s)

theorem nIns_mem (o : List ByteArray) (s t : ByteArray) : t ∈ nIns o s ↔ t ∈ o ∨ t = s := by
  unfold nIns
  split
  · next h =>
    constructor
    · exact .inl
    · rintro (h1 | rfl)
      · exact h1
      · exact List.mem_of_getElem? h
  · constructor
    · intro h
      simp only [List.mem_append, List.mem_singleton] at h
      rcases h with (h | h) | h
      · exact .inl (List.mem_of_mem_take h)
      · exact .inr h
      · exact .inl (List.mem_of_mem_drop h)
    · intro h
      simp only [List.mem_append, List.mem_singleton]
      rcases h with h | h
      · have e := List.take_append_drop (nPos o s) o
        rw [← e] at h
        rcases List.mem_append.1 h with h | h
        · exact .inl (.inl h)
        · exact .inr h
      · exact .inl (.inr h)

theorem nIns_rising (o : List ByteArray) (s : ByteArray) (h : Rising o) : Rising (nIns o s) := by
  unfold nIns
  split
  · exact h
  · next hne =>
    have e := List.take_append_drop (nPos o s) o
    have hp : Rising (o.take (nPos o s) ++ o.drop (nPos o s)) := by rw [e]; exact h
    obtain ⟨h1, h2, h3⟩ := List.pairwise_append.1 hp
    have before : ∀ t ∈ o.take (nPos o s), nLt t s := by
      intro t ht
      obtain ⟨j, hj⟩ := List.getElem?_of_mem ht
      have hlt := (List.getElem?_eq_some_iff.1 hj).1
      rw [List.length_take] at hlt
      rw [List.getElem?_take_of_lt (by omega)] at hj
      exact nPos_before o s j (by omega) t hj
    have behind : ∀ t ∈ o.drop (nPos o s), nLt s t := by
      cases hd : o.drop (nPos o s) with
      | nil => intro t ht; exact absurd ht List.not_mem_nil
      | cons u r =>
        have hu : o[nPos o s]? = some u := by
          have : (o.drop (nPos o s))[0]? = some u := by rw [hd]; rfl
          rwa [List.getElem?_drop, Nat.add_zero] at this
        have hsu : nLt s u := by
          have k := nPos_at o s u hu
          have ne : u ≠ s := by rintro rfl; exact hne hu
          rcases nLt_total ne with c | c
          · unfold nLt at c; rw [k] at c; cases c
          · exact c
        intro t ht
        rcases List.mem_cons.1 ht with rfl | ht
        · exact hsu
        · rw [hd] at h2
          exact nLt_trans hsu ((List.pairwise_cons.1 h2).1 t ht)
    refine List.pairwise_append.2 ⟨List.pairwise_append.2 ⟨h1, List.pairwise_singleton _ _, fun a ha b hb => ?_⟩, h2, fun a ha b hb => ?_⟩
    · rw [List.mem_singleton.1 hb]
      exact before a ha
    · rcases List.mem_append.1 ha with ha | ha
      · exact h3 a ha b hb
      · rw [List.mem_singleton.1 ha]
        exact behind b hb

/-- All of l, rising, each once. -/
def nOrder (l : List ByteArray) : List ByteArray := l.foldl nIns []

theorem nOrder_props (l : List ByteArray) : Rising (nOrder l) ∧ ∀ s, s ∈ nOrder l ↔ s ∈ l := by
  have key : ∀ (l o : List ByteArray), Rising o → Rising (l.foldl nIns o) ∧ ∀ s, s ∈ l.foldl nIns o ↔ s ∈ o ∨ s ∈ l := by
    intro l
    induction l with
    | nil => intro o h; exact ⟨h, fun s => by simp⟩
    | cons a l ih =>
      intro o h
      obtain ⟨h1, h2⟩ := ih (nIns o a) (nIns_rising o a h)
      refine ⟨h1, fun s => ?_⟩
      rw [List.foldl_cons, h2 s, nIns_mem, List.mem_cons, or_assoc]
  obtain ⟨h1, h2⟩ := key l [] List.Pairwise.nil
  exact ⟨h1, fun s => by rw [nOrder, h2 s]; simp⟩

/-- Whatever rises and has the same texts is that. -/
theorem nOrder_of {l a : List ByteArray} (h : Rising a) (hm : ∀ s, s ∈ a ↔ s ∈ l) : a = nOrder l :=
  rising_unique h (nOrder_props l).1 (fun s => (hm s).trans ((nOrder_props l).2 s).symm)

theorem nIns_length (o : List ByteArray) (s : ByteArray) : (nIns o s).length ≤ o.length + 1 := by
  unfold nIns
  split
  · omega
  · have := nPos_le o s
    simp only [List.length_append, List.length_take, List.length_drop, List.length_cons, List.length_nil]
    omega

theorem nOrder_length (l : List ByteArray) : (nOrder l).length ≤ l.length := by
  have key : ∀ (l o : List ByteArray), (l.foldl nIns o).length ≤ o.length + l.length := by
    intro l
    induction l with
    | nil => intro o; simp
    | cons a l ih =>
      intro o
      have h1 := ih (nIns o a)
      have h2 := nIns_length o a
      simp only [List.foldl_cons, List.length_cons]
      omega
  have := key l []
  simpa [nOrder] using this

/-- The hash. -/
def nHash1 (x : Nat) (c : UInt8) : Nat := ((x ^^^ c.toNat) * 16777619) % 4294967296
def nHash (l : List UInt8) : Nat := l.foldl nHash1 2166136261

theorem nHash_lt (l : List UInt8) : nHash l < 4294967296 := by
  have key : ∀ (l : List UInt8) (x : Nat), x < 4294967296 → l.foldl nHash1 x < 4294967296 := by
    intro l
    induction l with
    | nil => intro x h; exact h
    | cons a l ih => intro x _; exact ih _ (Nat.mod_lt _ (by omega))
  exact key l _ (by omega)

theorem nHash_take (l : List UInt8) (j : Nat) (h : j < l.length) : nHash (l.take (j + 1)) = nHash1 (nHash (l.take j)) l[j] := by
  unfold nHash
  rw [List.take_succ_eq_append_getElem h, List.foldl_append, List.foldl_cons, List.foldl_nil]

end Go.Proofs.YtbhcafginmkaaaaGreat

namespace Go.Proofs.YtbhcafginmkaaaaGreat
open Go.RowKit Go.Lib

theorem and_none (e : Int) : bits .and .i64 e 0 = 0 := by
  show IntKind.i64.wrap ((BitVec.ofInt 64 e &&& BitVec.ofInt 64 0).toNat : Int) = 0
  have : BitVec.ofInt 64 (0 : Int) = 0#64 := by rfl
  rw [this, BitVec.and_zero]
  rfl

theorem and_all {e : Int} (h : I64 e) : bits .and .i64 e (-1) = e := by
  show IntKind.i64.wrap ((BitVec.ofInt 64 e &&& BitVec.ofInt 64 (-1)).toNat : Int) = e
  have : BitVec.ofInt 64 (-1 : Int) = BitVec.allOnes 64 := by rfl
  rw [this, BitVec.and_allOnes, BitVec.toNat_ofInt, IntKind.wrap_i64]
  unfold I64 at h
  omega

set_option maxHeartbeats 400000 in
theorem rest_any (t e : Int) (he : I64 e) (h1 : 1 ≤ e) (w : World) :
    Calls Tryz.prog 212 #[.int .i64 t, .int .i64 e] w fun x w' => x = .returned (.int .i64 (gPast t e)) ∧ ∃ q, w' = w.drewN q := by
  have hp := gPast_rem t h1
  have hl := rem_low t h1
  have hu := Int.tmod_lt_of_pos t (show 0 < e by omega)
  have HA := Hid.of (and_all he)
  obtain ⟨r, hr⟩ : ∃ r, t.tmod e = r := ⟨_, rfl⟩
  rw [hr] at hp hl hu
  have e0 : ¬ e = 0 := by omega
  go_enter Tryz.func212, Tryz.ntmps212
  go_wp2
  have key : wrap64 (r + bits BinOp.and IntKind.i64 e (r / 9223372036854775808)) = gPast t e := by
    rw [hp]
    unfold I64 at he
    by_cases h : r < 0
    · have : r / 9223372036854775808 = -1 := by omega
      rw [if_pos h, this, HA.out]
      exact IntWalk.wrap64_in _ (by omega)
    · have : r / 9223372036854775808 = 0 := by omega
      rw [if_neg h, this, and_none, Int.add_zero]
      exact IntWalk.wrap64_in _ (by omega)
  rw [key]
  go_ret
  exact ⟨rfl, 0, rfl⟩

theorem Floor_case (t e p : Int) (h1 : 1 ≤ e) (hp : gPast t e = p) : gFloor t e = if t < -9223372036854775808 + p then t + (e - p) else t - p := by
  unfold gFloor
  rw [if_neg (by omega), hp]

set_option maxHeartbeats 400000 in
theorem Floor_any (t e : Int) (ht : I64 t) (he : I64 e) (w : World) :
    Calls Tryz.prog 259 #[.int .i64 t, .int .i64 e] w fun x w' => x = .returned (.int .i64 (gFloor t e)) ∧ ∃ q, w' = w.drewN q := by
  by_cases h1 : e < 1
  · have hf : gFloor t e = t := by unfold gFloor; rw [if_pos h1]
    rw [hf]
    go_enter Tryz.func259, Tryz.ntmps259
    go_wp2
    go_ret
    exact ⟨rfl, 0, rfl⟩
  · have h2 : 1 ≤ e := by omega
    have hf := Hid.of (Floor_case t e _ h2 rfl)
    have HE := Hid.of he
    obtain ⟨p0, p1⟩ := gPast_bounds t h2
    have e9 : e ≤ 9223372036854775807 := he.2
    have t0 : -9223372036854775808 ≤ t := ht.1
    have t9 : t ≤ 9223372036854775807 := ht.2
    go_enter Tryz.func259, Tryz.ntmps259
    go_wp2_with fail
    refine (rest_any t e HE.out h2 _).mono ?_
    rintro x w1 ⟨rfl, q, rfl⟩
    generalize gPast t e = p at *
    by_cases g : t < -9223372036854775808 + p
    · go_wp2
      go_ret
      rw [hf.out, if_pos g]
      exact ⟨rfl, q, rfl⟩
    · go_wp2
      go_ret
      rw [hf.out, if_neg (by omega)]
      exact ⟨rfl, q, rfl⟩

theorem ahead_of {e p : Int} (p0 : 0 ≤ p) (p1 : p < e) : (e - p).tmod e = if p = 0 then 0 else e - p := by
  rw [Int.tmod_eq_emod_of_nonneg (by omega)]
  by_cases c : p = 0
  · subst c
    rw [if_pos rfl, Int.sub_zero, Int.emod_self]
  · rw [if_neg c]
    exact Int.emod_eq_of_lt (by omega) (by omega)

theorem Ceil_case (t e p a : Int) (h1 : 1 ≤ e) (hp : gPast t e = p) (t9 : t ≤ 9223372036854775807) (ha : (if p = 0 then 0 else e - p) = a) : gCeil t e = if 9223372036854775807 - a < t then t - p else t + a := by
  unfold gCeil
  rw [if_neg (by omega), hp]
  by_cases c : p = 0
  · rw [if_pos c] at ha ⊢
    rw [if_neg (by omega)]
    omega
  · rw [if_neg c] at ha ⊢
    rw [ha]

set_option maxHeartbeats 400000 in
theorem Ceil_any (t e : Int) (ht : I64 t) (he : I64 e) (w : World) :
    Calls Tryz.prog 108 #[.int .i64 t, .int .i64 e] w fun x w' => x = .returned (.int .i64 (gCeil t e)) ∧ ∃ q, w' = w.drewN q := by
  by_cases h1 : e < 1
  · have hf : gCeil t e = t := by unfold gCeil; rw [if_pos h1]
    rw [hf]
    go_enter Tryz.func108, Tryz.ntmps108
    go_wp2
    go_ret
    exact ⟨rfl, 0, rfl⟩
  · have h2 : 1 ≤ e := by omega
    have HE := Hid.of he
    obtain ⟨p0, p1⟩ := gPast_bounds t h2
    obtain ⟨p, hp⟩ : ∃ p, gPast t e = p := ⟨_, rfl⟩
    rw [hp] at p0 p1
    obtain ⟨a, ha⟩ : ∃ a, (if p = 0 then 0 else e - p) = a := ⟨_, rfl⟩
    have hf := Hid.of (Ceil_case t e p a h2 hp ht.2 ha)
    have HP := Hid.of hp
    have hm := ahead_of p0 p1
    rw [ha] at hm
    have a0 : 0 ≤ a ∧ a < e := by
      rw [← ha]
      split <;> omega
    obtain ⟨a0, a1⟩ := a0
    have e9 : e ≤ 9223372036854775807 := he.2
    have t0 : -9223372036854775808 ≤ t := ht.1
    have t9 : t ≤ 9223372036854775807 := ht.2
    have e0 : ¬ e = 0 := by omega
    clear hp ha
    go_enter Tryz.func108, Tryz.ntmps108
    go_wp2_with fail
    refine (rest_any t e HE.out h2 _).mono ?_
    rintro x w1 ⟨rfl, q, rfl⟩
    rw [HP.out]
    by_cases g : 9223372036854775807 - a < t
    · go_wp2
      go_ret
      rw [hf.out, if_pos g]
      exact ⟨rfl, q, rfl⟩
    · go_wp2
      go_ret
      rw [hf.out, if_neg (by omega)]
      exact ⟨rfl, q, rfl⟩

set_option maxHeartbeats 400000 in
theorem Divides_any (e t : Int) (w : World) :
    Calls Tryz.prog 211 #[.int .i64 e, .int .i64 t] w fun x w' => x = .returned (.bool (gOn t e)) ∧ ∃ q, w' = w.drewN q := by
  by_cases h1 : 1 ≤ e
  · obtain ⟨r, hr⟩ : ∃ r, t.tmod e = r := ⟨_, rfl⟩
    have hg : gOn t e = decide (r = 0) := by unfold gOn; rw [decide_eq_true h1, hr, Bool.true_and]
    have HG := Hid.of hg
    have e0 : ¬ e = 0 := by omega
    clear hg
    go_enter Tryz.func211, Tryz.ntmps211
    go_wp2
    go_ret
    rw [HG.out]
    exact ⟨rfl, 0, rfl⟩
  · have hg : gOn t e = false := by unfold gOn; rw [decide_eq_false h1, Bool.false_and]
    rw [hg]
    go_enter Tryz.func211, Tryz.ntmps211
    go_wp2
    go_ret
    exact ⟨rfl, 0, rfl⟩

set_option maxHeartbeats 400000 in
theorem On_any (t e : Int) (w : World) :
    Calls Tryz.prog 247 #[.int .i64 t, .int .i64 e] w fun x w' => x = .returned (.bool (gOn t e)) ∧ ∃ q, w' = w.drewN q := by
  go_enter Tryz.func247, Tryz.ntmps247
  go_wp2_with fail
  refine (Divides_any e t _).mono ?_
  rintro x w1 ⟨rfl, q, rfl⟩
  go_wp2
  go_ret
  exact ⟨rfl, q, rfl⟩

set_option maxHeartbeats 400000 in
theorem Back_any (now keep e : Int) (hn : I64 now) (hk : I64 keep) (he : I64 e) (w : World) :
    Calls Tryz.prog 202 #[.int .i64 now, .int .i64 keep, .int .i64 e] w fun x w' => x = .returned (.int .i64 (gBack now keep e)) ∧ ∃ q, w' = w.drewN q := by
  have HE := Hid.of he
  by_cases h : now < 0 ∨ keep < 0 ∨ e < 1
  · have hg : gBack now keep e = 0 := by unfold gBack; rw [if_pos h]
    rw [hg]
    have h' : now < 0 ∨ (¬ now < 0 ∧ keep < 0) ∨ (¬ now < 0 ∧ ¬ keep < 0 ∧ e < 1) := by omega
    clear h hg
    rcases h' with h1 | ⟨h1, h2⟩ | ⟨h1, h2, h3⟩
    all_goals
      go_enter Tryz.func202, Tryz.ntmps202
      go_wp2
      go_ret
      exact ⟨rfl, 0, rfl⟩
  · have n0 : ¬ now < 0 := fun c => h (.inl c)
    have k0 : ¬ keep < 0 := fun c => h (.inr (.inl c))
    have e0 : ¬ e < 1 := fun c => h (.inr (.inr c))
    have n9 : now ≤ 9223372036854775807 := hn.2
    have k9 : keep ≤ 9223372036854775807 := hk.2
    have hg : gBack now keep e = max (gFloor (now - keep) e) 0 := by unfold gBack; rw [if_neg h]
    have hd : I64 (now - keep) := by unfold I64; omega
    have HG := Hid.of hg
    have HD := Hid.of hd
    clear h hg hd
    go_enter Tryz.func202, Tryz.ntmps202
    go_wp2_with fail
    refine (Floor_any (now - keep) e HD.out HE.out _).mono ?_
    rintro x w1 ⟨rfl, q, rfl⟩
    generalize gFloor (now - keep) e = f at *
    go_wp2
    all_goals
      go_ret
      rw [HG.out]
      refine ⟨?_, q, rfl⟩
      simp
      omega

end Go.Proofs.YtbhcafginmkaaaaGreat
