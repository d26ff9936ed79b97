/-
  What functions count and Starts of package grid answer.
-/
import Derived.Test.YtjmnffcmgigodaaBI
import Derived.Test.YtjmnffcmgigodaaGW
namespace Go.Proofs.Ytjmnffcmgigodaa
open Go.RowKit Go.Lib

/-- How many multiples of e there are from first on, below to. -/
def gCount (from_ first to e : Int) : Int := if first < from_ ∨ to ≤ first then 0 else (to - 1 - first) / e + 1

theorem gCount_nonneg {from_ first to e : Int} (he : 1 ≤ e) : 0 ≤ gCount from_ first to e := by
  unfold gCount
  split
  · exact Int.le_refl _
  · have := Int.ediv_nonneg (show 0 ≤ to - 1 - first by omega) (show 0 ≤ e by omega)
    omega

theorem count_wraps {first to e : Int} (f0 : -9223372036854775808 ≤ first) (t9 : to ≤ 9223372036854775807) (h : first < to) (h1 : 1 ≤ e) :
    IntKind.u64.wrap (IntKind.u64.wrap ((IntKind.u64.wrap (IntKind.u64.wrap (to - 1) - IntKind.u64.wrap first)).tdiv e) + 1) = (to - 1 - first) / e + 1 := by
  have a : IntKind.u64.wrap (IntKind.u64.wrap (to - 1) - IntKind.u64.wrap first) = to - 1 - first := by
    rw [IntKind.wrap_u64, IntKind.wrap_u64, IntKind.wrap_u64]
    omega
  rw [a, Int.tdiv_eq_ediv_of_nonneg (by omega)]
  have q0 := Int.ediv_nonneg (show 0 ≤ to - 1 - first by omega) (show 0 ≤ e by omega)
  have q1 : (to - 1 - first) / e ≤ to - 1 - first := Int.ediv_le_self _ (by omega)
  rw [IntKind.wrap_u64, IntKind.wrap_u64]
  omega

set_option maxHeartbeats 400000 in
theorem count_any (from_ first to e : Int) (hf : I64 first) (ht : I64 to) (he : I64 e) (h1 : 1 ≤ e) (w : World) :
    Calls Try.prog 24 #[.int .i64 from_, .int .i64 first, .int .i64 to, .int .i64 e] w fun x w' => x = .returned (.int .u64 (gCount from_ first to e)) ∧ ∃ q, w' = w.drewN q := by
  by_cases h : first < from_ ∨ to ≤ first
  · have hg : gCount from_ first to e = 0 := by unfold gCount; rw [if_pos h]
    rw [hg]
    have h' : first < from_ ∨ (¬ first < from_ ∧ to ≤ first) := by omega
    clear h hg
    rcases h' with g1 | ⟨g1, g2⟩
    all_goals
      go_enter Try.func24, Try.ntmps24
      go_wp2
      go_ret
      exact ⟨rfl, 0, rfl⟩
  · have g1 : ¬ first < from_ := fun c => h (.inl c)
    have g2 : ¬ to ≤ first := fun c => h (.inr c)
    have hg : gCount from_ first to e = (to - 1 - first) / e + 1 := by unfold gCount; rw [if_neg h]
    have HG := Hid.of hg
    have f0 := hf.1
    have t9 := ht.2
    have e9 := he.2
    clear h hg
    go_enter Try.func24, Try.ntmps24
    go_wp2
    rw [count_wraps f0 t9 g2 h1]
    go_ret
    rw [HG.out]
    exact ⟨rfl, 0, rfl⟩

/-- The multiples of e from first on, n of them. -/
def gRow (first e : Int) (n : Nat) : List Int := (List.range n).map fun i : Nat => first + (i : Int) * e

theorem gRow_length (first e : Int) (n : Nat) : (gRow first e n).length = n := by simp [gRow]

theorem gRow_succ (first e : Int) (n : Nat) : gRow first e (n + 1) = gRow first e n ++ [first + (n : Int) * e] := by
  simp [gRow, List.range_succ]

/-- A row of n numbers, of which the first j are multiples of e from f on, and the others 0. -/
def gPart (f e : Int) (j n : Nat) : List Value := (gRow f e j).map (Value.int .i64) ++ List.replicate (n - j) (.int .i64 0)

theorem gPart_set (f e : Int) (j n : Nat) (h : j < n) : (gPart f e j n).set j (.int .i64 (f + (j : Int) * e)) = gPart f e (j + 1) n := by
  unfold gPart
  rw [gRow_succ, List.map_append, List.append_assoc, List.set_append_right _ _ (by simp [gRow_length])]
  have : n - j = (n - (j + 1)) + 1 := by omega
  rw [this, List.replicate_succ]
  simp [gRow_length]

theorem gPart_end (f e : Int) (n : Nat) : gPart f e n n = (gRow f e n).map (Value.int .i64) := by simp [gPart]

theorem made_ints (n : Nat) : (madeCells (Value.int .i64 0).cells (n * 1)).toList = List.replicate n (.int .i64 0) := by
  rw [Nat.mul_one]
  exact toList_madeCells_one _ n

theorem make_ints {ops : Array Oper} {rest : List Oper} {o : Oper} {a : Act} {Q : Exit → Act → World → Prop} (w : World) (hgd : o.guard = none) (l c : Operand) (hop : o.op = Op.makeSlice 33 l c)
    (B : Nat) (k : IntKind) (L : Int) (n : Nat) (hl : a.eval l = .int k L) (hc : a.eval c = .int k L) (hL : L = (n : Int)) (hn : n ≤ 1000000) (hB : B ≤ w.heap.size)
    (h : ∀ w', w'.ownsRow B 3 1 (.slice (some ⟨w.heap.size, 0, none⟩) n n) n (List.replicate n (.int .i64 0)) → w.grownBy w' none → wpList Try.prog ops Q rest (a.put o.dst (.slice (some ⟨w.heap.size, 0, none⟩) n n)) w') :
    wpList Try.prog ops Q (o :: rest) a w := by
  obtain ⟨i0, hi, hz0, hz1, hz2⟩ := info_parts (show (Try.prog.info? 3).map (fun i => (i.zero, i.size, i.bytes)) = some (some (.int .i64 0), 1, 8) by kernel_rfl)
  refine wpList_make_full w hgd l c 33 hop B 3 i0 (.int .i64 0) 1 Try.underlying33 hi hz0 hz1 k k L L n hl hc hL hL (by rw [hz2]; omega) (by unfold maxLen; omega) hB ?_
  intro w' h1 h2
  rw [made_ints] at h1
  exact h w' h1 h2

theorem count_in {a f b e : Int} {n j : Nat} (he : 1 ≤ e) (hn : gCount a f b e = (n : Int)) (hj : j < n) : 0 ≤ (j : Int) * e ∧ f + (j : Int) * e ≤ b - 1 ∧ a ≤ f := by
  unfold gCount at hn
  have h0 : 0 ≤ (j : Int) * e := Int.mul_nonneg (by omega) (by omega)
  split at hn
  · omega
  · have h1 : (j : Int) ≤ (b - 1 - f) / e := by omega
    have h2 := Int.mul_le_mul_of_nonneg_right h1 (show 0 ≤ e by omega)
    have h3 := Int.mul_ediv_add_emod (b - 1 - f) e
    have h4 := Int.emod_nonneg (b - 1 - f) (show e ≠ 0 by omega)
    rw [Int.mul_comm ((b - 1 - f) / e)] at h2
    omega

theorem count_value {a f b e : Int} {n j : Nat} (he : 1 ≤ e) (hn : gCount a f b e = (n : Int)) (hj : j < n) (hf : I64 f) (hb : I64 b) : wrap64 (f + wrap64 ((j : Int) * e)) = f + (j : Int) * e := by
  obtain ⟨h0, h1, _⟩ := count_in he hn hj
  unfold I64 at *
  unfold wrap64
  omega

set_option maxHeartbeats 400000 in
theorem Starts_main (a b e m : Int) (n : Nat) (h1 : ¬ e < 1) (h2 : ¬ m < 0) (m9 : m ≤ 100000) (ha : I64 a) (hb : I64 b) (he : I64 e) (f : Int) (hf : gCeil a e = f) (hn : gCount a f b e = (n : Int)) (hm : ¬ m < (n : Int)) (w : World) :
    Calls Try.prog 9 #[.int .i64 a, .int .i64 b, .int .i64 e, .int .i64 m] w fun x w' => ∃ v, x = .returned (.tuple #[v, .bool true]) ∧ w'.ownsRow w.heap.size 3 1 v n ((gRow f e n).map (Value.int .i64)) ∧ Below w.heap.size w w' := by
  have HA := Hid.of ha
  have HB := Hid.of hb
  have HE := Hid.of he
  have HN := Hid.of hn
  have HF := Hid.of (gCeil_int ha he)
  rw [hf] at HF
  have HC := Hid.of hf
  clear ha hb he hn hf
  go_enter Try.func9, Try.ntmps9
  go_wp2_with fail
  refine (Ceil_any a e HA.out HE.out _).mono ?_
  rintro x w1 ⟨rfl, q, rfl⟩
  rw [HC.out]
  go_wp2_with fail
  refine (count_any a f b e HF.out HB.out HE.out (by omega) _).mono ?_
  rintro x w1 ⟨rfl, q2, rfl⟩
  rw [HN.out]
  have n0 : (n : Int) ≤ 100000 := by omega
  go_wp2_with (at_make; refine make_ints _ rfl _ _ rfl w.heap.size _ _ n rfl rfl rfl (by omega) (Nat.le_refl _) ?_; intro w1 o1 g1; have O1 := Hid.of o1; have B1 := Hid.of (below_of_none g1); clear o1 g1)
  have hz : w.heap.size ≤ (w.drewN (q + q2)).heap.size := Nat.le_refl _
  obtain ⟨g, hg⟩ : ∃ g, w.heap.size = g := ⟨_, rfl⟩
  have O2 : Hid (w1.ownsRow w.heap.size 3 1 (.slice (some ⟨g, 0, none⟩) n n) n (gPart f e 0 n)) := Hid.of (by rw [← hg]; exact O1.out)
  go_loopw [36] (fun i wr => ∃ j : Nat, j ≤ n ∧ i = .int .i64 j ∧ Hid (wr.ownsRow w.heap.size 3 1 (.slice (some ⟨g, 0, none⟩) n n) n (gPart f e j n)) ∧ Hid (Below w.heap.size w wr)) (fun i _ => n - (RowKit.intOf i).toNat)
  case atStart => exact ⟨0, Nat.zero_le _, rfl, O2, Hid.of ((below_drewN (Below.refl _ w) _).trans B1.out)⟩
  case round =>
    obtain ⟨j, hj, rfl, OJ, BJ⟩ := hrel
    by_cases hlt : j < n
    · have hc := OJ.out.cellAt j (by omega)
      have hfz := OJ.out.frozenAt j
      have hV := Hid.of (count_value (by omega) HN.out hlt HF.out HB.out)
      obtain ⟨u, hu⟩ : ∃ u, (gPart f e j n)[j]? = some u := by
        refine ⟨_, List.getElem?_eq_getElem ?_⟩
        rw [OJ.out.1]; omega
      rw [hu] at hc
      have i0 : (0 : Int) ≤ (j : Int) := Int.natCast_nonneg _
      have i1 : (j : Int) < (n : Int) := by omega
      clear hu
      go_wp2
      rw [hV.out]
      obtain ⟨s1, s2⟩ := OJ.out.stored j (.int .i64 (f + (j : Int) * e))
      rw [gPart_set f e j n hlt] at s1
      exact ⟨⟨j + 1, by omega, by go_num, Hid.of s1, Hid.of (BJ.out.grown s2 BJ.out.size (fun k hk => own_ge OJ.out hk))⟩, by simp [RowKit.intOf]; omega⟩
    · go_wp2
      go_ret2
      have : j = n := by omega
      subst this
      refine ⟨_, rfl, ?_, BJ.out⟩
      have := OJ.out
      rw [gPart_end, ← hg] at this
      exact this

set_option maxHeartbeats 400000 in
theorem Starts_bad (a b e m : Int) (h : e < 1 ∨ m < 0) (w : World) :
    Calls Try.prog 9 #[.int .i64 a, .int .i64 b, .int .i64 e, .int .i64 m] w fun x w' => x = .returned (.tuple #[.slice none 0 0, .bool false]) ∧ ∃ q, w' = w.drewN q := by
  have h' : e < 1 ∨ (¬ e < 1 ∧ m < 0) := by omega
  clear h
  rcases h' with h1 | ⟨h1, h2⟩
  all_goals
    go_enter Try.func9, Try.ntmps9
    go_wp2
    go_ret2
    exact ⟨rfl, 0, rfl⟩

set_option maxHeartbeats 400000 in
theorem Starts_more (a b e m : Int) (h1 : ¬ e < 1) (h2 : ¬ m < 0) (m9 : m ≤ 100000) (ha : I64 a) (hb : I64 b) (he : I64 e) (hm : m < gCount a (gCeil a e) b e) (w : World) :
    Calls Try.prog 9 #[.int .i64 a, .int .i64 b, .int .i64 e, .int .i64 m] w fun x w' => x = .returned (.tuple #[.slice none 0 0, .bool false]) ∧ ∃ q, w' = w.drewN q := by
  have HA := Hid.of ha
  have HB := Hid.of hb
  have HE := Hid.of he
  have HF := Hid.of (gCeil_int ha he)
  clear ha hb he
  go_enter Try.func9, Try.ntmps9
  go_wp2_with fail
  refine (Ceil_any a e HA.out HE.out _).mono ?_
  rintro x w1 ⟨rfl, q, rfl⟩
  generalize gCeil a e = f at *
  go_wp2_with fail
  refine (count_any a f b e HF.out HB.out HE.out (by omega) _).mono ?_
  rintro x w1 ⟨rfl, q2, rfl⟩
  generalize gCount a f b e = n at *
  go_wp2
  go_ret2
  exact ⟨rfl, _, rfl⟩

end Go.Proofs.Ytjmnffcmgigodaa
