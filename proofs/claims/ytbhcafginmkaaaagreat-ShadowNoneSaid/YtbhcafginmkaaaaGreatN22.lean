/-
  A bundle of texts: POC PRL PEA PEB PEC QMO QPG.
-/
import Derived.Deep.CutBlock
import Derived.Deep.DeepCutAuto
import Derived.Deep.QuietTactic
import Derived.BigQuiet
import Derived.Deep.RegionHeld3
import Derived.Test.YtbhcafginmkaaaaGreatN21
import Derived.Test.YtbhcafginmkaaaaGreatN16
import Derived.Test.YtbhcafginmkaaaaGreatN15
import Derived.Test.YtbhcafginmkaaaaGreatN05
import Derived.Test.YtbhcafginmkaaaaGreatN09
namespace Go.Proofs.YtbhcafginmkaaaaGreat
open Go.RowKit Go.Lib

/-- Is its name that of a tier ahead? -/
def badN (d : List TierL) (n : ByteArray) : Bool := d.any fun o => o.1.toList == n.toList

theorem drop_at {l : List TierL} {j : Nat} {x : TierL} (hx : l[j]? = some x) : l.drop j = x :: l.drop (j + 1) := by
  obtain ⟨h, e⟩ := List.getElem?_eq_some_iff.1 hx
  rw [List.drop_eq_getElem_cons h, e]

theorem pBad_stop {l : List TierL} {j : Nat} {x : TierL} (E : pBad [] l = pBad (l.take j) (l.drop j)) (hx : l[j]? = some x) (h : tierOk (l.take j) x = false) : pBad [] l = some (j + 1) := by
  have hj := (List.getElem?_eq_some_iff.1 hx).1
  rw [E, drop_at hx, pBad, h]
  simp
  omega

theorem pBad_on {l : List TierL} {j : Nat} {x : TierL} (E : pBad [] l = pBad (l.take j) (l.drop j)) (hx : l[j]? = some x) (h : tierOk (l.take j) x = true) : pBad [] l = pBad (l.take (j + 1)) (l.drop (j + 1)) := by
  rw [E, drop_at hx, pBad, h, List.take_add_one, hx]
  rfl

theorem badN_next {l : List TierL} {j : Nat} {y : TierL} (n : ByteArray) (hy : l[j]? = some y) : badN (l.take (j + 1)) n = (badN (l.take j) n || (y.1.toList == n.toList)) := by
  unfold badN
  rw [List.take_add_one, hy, List.any_append]
  simp

theorem wrap_at (i : Nat) (h : (i : Int) ≤ 1000000) : IntKind.i64.wrap (i : Int) = (i : Int) := by
  have := Int.natCast_nonneg i
  simp [IntKind.wrap, IntKind.bits, IntKind.signed]
  omega

/-- A variable that holds a tier. -/
def TBlk (w : World) (b : Nat) (x : TierL) : Prop := w.heap[b]? = some (.cells #[.string x.1, .int .i64 x.2.1, .int .i64 x.2.2.1, .int .i64 x.2.2.2] 89 (0, 0))

theorem TBlk.made (w : World) (x : TierL) : TBlk (w.alloc (.cells #[.string x.1, .int .i64 x.2.1, .int .i64 x.2.2.1, .int .i64 x.2.2.2] 89)) w.heap.size x := Go.heap_alloc_new _ _

theorem TBlk.kept {w w' : World} {b : Nat} {x : TierL} (h : TBlk w b x) (c : Below w.heap.size w w') : TBlk w' b x := by
  unfold TBlk at h ⊢
  rw [c.block b (Array.getElem?_eq_some_iff.1 h).1]
  exact h

theorem TBlk.at {w : World} {b : Nat} {x : TierL} (h : TBlk w b x) : w.cell? ⟨b, 0, none⟩ = some (.string x.1) ∧ w.cell? ⟨b, 1, none⟩ = some (.int .i64 x.2.1) ∧ w.cell? ⟨b, 2, none⟩ = some (.int .i64 x.2.2.1) ∧ w.cell? ⟨b, 3, none⟩ = some (.int .i64 x.2.2.2) := by
  refine ⟨?_, ?_, ?_, ?_⟩ <;> (rw [cell_of_row w b _ _ _ _ h]; rfl)

end Go.Proofs.YtbhcafginmkaaaaGreat

namespace Go.Proofs.YtbhcafginmkaaaaGreat
open Go.RowKit Go.Lib

theorem prNone : ∀ (l d : List TierL), pBad d l = none → ∀ (i : Nat) (t : TierL), l[i]? = some t → tierOk (d ++ l.take i) t = true
  | [], d, _, i, t, ht => by simp at ht
  | x :: l, d, h, i, t, ht => by
    rw [pBad] at h
    split at h
    · rename_i hx
      cases i with
      | zero =>
        simp at ht
        subst ht
        rw [List.take_zero, List.append_nil]
        exact hx
      | succ i =>
        have := prNone l (d ++ [x]) h i t (by simpa using ht)
        rwa [List.append_assoc, List.singleton_append] at this
    · cases h

theorem pCheck_ok {p : PolL} (h : (pCheck p).1 = 0) : pCheck p = (0, 0) ∧ nOk p.1 = true ∧ 1 ≤ p.2.length ∧ p.2.length ≤ 5 ∧ pBad [] p.2 = none := by
  unfold pCheck at h ⊢
  split at h
  · cases h
  · rename_i hc
    rw [if_neg hc]
    have hn : nOk p.1 = true := by
      cases hb : nOk p.1 with
      | true => rfl
      | false => exact absurd (.inl hb) hc
    cases hb : pBad [] p.2 with
    | none => exact ⟨rfl, hn, by omega, by omega, rfl⟩
    | some i => rw [hb] at h; cases h

/-- What is known of a tier of a policy that may be. -/
theorem tier_known {p : PolL} (h : (pCheck p).1 = 0) {i : Nat} {t : TierL} (ht : p.2[i]? = some t) : 1 ≤ t.2.1 ∧ t.2.1 ≤ 1000000 ∧ 1 ≤ t.2.2.1 ∧ t.2.2.1 ≤ 1000000 ∧ 1 ≤ t.2.2.2 ∧ t.2.2.2 ≤ 8 ∧ nOk t.1 = true ∧ (i = 0 → t.2.1 = 1) ∧
    ∀ o, 0 < i → p.2[i - 1]? = some o → o.2.1 < t.2.1 ∧ t.2.1 % o.2.1 = 0 ∧ o.2.2.1 ≤ t.2.2.1 := by
  have hk := prNone p.2 [] (pCheck_ok h).2.2.2.2 i t ht
  rw [List.nil_append] at hk
  have hk0 := hk
  unfold tierOk at hk
  simp only [Bool.and_eq_true, decide_eq_true_eq] at hk
  obtain ⟨⟨⟨⟨⟨⟨⟨⟨a, b⟩, c⟩, e⟩, f⟩, g⟩, k⟩, -⟩, j⟩ := hk
  refine ⟨g, k, b, c, e, f, a, ?_, ?_⟩
  · rintro rfl
    rw [List.take_zero] at j
    simpa using j
  · intro o hi ho
    have hl : (p.2.take i).getLast? = some o := by
      obtain ⟨i, rfl⟩ : ∃ m, i = m + 1 := ⟨i - 1, by omega⟩
      rw [List.take_add_one, show p.2[i]? = some o from ho]
      simp
    rw [hl] at j
    simp only [Bool.and_eq_true, decide_eq_true_eq] at j
    exact ⟨j.1.1, j.1.2, j.2⟩

end Go.Proofs.YtbhcafginmkaaaaGreat

namespace Go.Proofs.YtbhcafginmkaaaaGreat
open Go.RowKit Go.Lib

/-- A tier as a value. -/
abbrev tierVal (x : TierL) : Value := .agg #[.string x.1, .int .i64 x.2.1, .int .i64 x.2.2.1, .int .i64 x.2.2.2]

set_option maxHeartbeats 400000 in
theorem within_any (v a b : Int) (w : World) :
    Calls Tryz.prog 209 #[.int .i64 v, .int .i64 a, .int .i64 b] w fun e w' => e = .returned (.bool (decide (a ≤ v ∧ v ≤ b))) ∧ w' = w := by
  by_cases h1 : v ≥ a
  · by_cases h2 : v ≤ b
    · have hr : decide (a ≤ v ∧ v ≤ b) = true := decide_eq_true ⟨h1, h2⟩
      rw [hr]
      clear hr
      go_enter Tryz.func209, Tryz.ntmps209
      go_wp2
      go_ret
      exact ⟨rfl, rfl⟩
    · have hr : decide (a ≤ v ∧ v ≤ b) = false := decide_eq_false (fun h => h2 h.2)
      rw [hr]
      clear hr
      go_enter Tryz.func209, Tryz.ntmps209
      go_wp2
      go_ret
      exact ⟨rfl, rfl⟩
  · have hr : decide (a ≤ v ∧ v ≤ b) = false := decide_eq_false (fun h => h1 h.1)
    rw [hr]
    clear hr
    go_enter Tryz.func209, Tryz.ntmps209
    go_wp2
    go_ret
    exact ⟨rfl, rfl⟩

theorem within_at {v a b : Int} {r : Bool} (h : decide (a ≤ v ∧ v ≤ b) = r) (w : World) :
    Calls Tryz.prog 209 #[.int .i64 v, .int .i64 a, .int .i64 b] w fun e w' => e = .returned (.bool r) ∧ w' = w := by
  rw [← h]; exact within_any v a b w

/-- Does e divide t? -/
def pDiv (e t : Int) : Bool := decide (1 ≤ e) && decide (t.tmod e = 0)

theorem pDivides_any (e t : Int) (w : World) :
    Calls Tryz.prog 211 #[.int .i64 e, .int .i64 t] w fun x w' => x = .returned (.bool (pDiv e t)) ∧ ∃ q, w' = w.drewN q := by
  by_cases h1 : 1 ≤ e
  · obtain ⟨r, hr⟩ : ∃ r, t.tmod e = r := ⟨_, rfl⟩
    have hg : pDiv e t = decide (r = 0) := by unfold pDiv; rw [decide_eq_true h1, hr, Bool.true_and]
    have HG := Hid.of hg
    have e0 : ¬ e = 0 := by omega
    clear hg
    go_enter Tryz.func211, Tryz.ntmps211
    go_wp2
    go_ret
    rw [HG.out]
    exact ⟨rfl, 0, rfl⟩
  · have hg : pDiv e t = false := by unfold pDiv; rw [decide_eq_false h1, Bool.false_and]
    rw [hg]
    go_enter Tryz.func211, Tryz.ntmps211
    go_wp2
    go_ret
    exact ⟨rfl, 0, rfl⟩

set_option maxRecDepth 20000 in
set_option maxHeartbeats 800000 in
theorem isNew_any (s : ByteArray) (v : Value) (d : List TierL) (w : World) (hv : CellRow w v d.length (flat penc d)) (hn : d.length ≤ 1000000) :
    Calls Tryz.prog 262 #[.string s, v] w fun e w' => e = .returned (.bool (!(badN d s))) ∧ Below w.heap.size w w' := by
  have HV := Hid.of hv
  obtain ⟨va, vc, rfl, -⟩ := hv
  go_enter Tryz.func262, Tryz.ntmps262
  go_wp2
  go_loopw [9] (fun i wr => ∃ j : Nat, j ≤ d.length ∧ i = .int .i64 j ∧ Hid (badN (d.take j) s = false) ∧ Below w.heap.size w wr) (fun i _ => d.length - (RowKit.intOf i).toNat)
  case atStart => exact ⟨0, Nat.zero_le _, rfl, Hid.of (by simp [badN]), Below.refl _ _⟩
  case round =>
    obtain ⟨j, hj, rfl, A, hb⟩ := hrel
    have i0 : (0 : Int) ≤ (j : Int) := Int.natCast_nonneg _
    by_cases hlt : j < d.length
    · obtain ⟨b1, o1, rfl, hl1, hc1⟩ := p_at HV.out j d[j] (by simp [hlt])
      obtain ⟨x, hx⟩ : ∃ x, d[j] = x := ⟨_, rfl⟩
      rw [hx] at hc1
      have HX : Hid (d[j]? = some x) := Hid.of (by rw [← hx]; exact List.getElem?_eq_getElem hlt)
      obtain ⟨x0, x1, x2, x3⟩ := x
      obtain ⟨c0, c1, c2, c3⟩ := hc1
      rw [← hb.cell hl1] at c0 c1 c2 c3
      simp only at c0 c1 c2 c3
      have i1 : (j : Int) < (d.length : Int) := by omega
      have NX := Hid.of (badN_next s HX.out)
      have HB := Hid.of hb
      clear hx hb
      obtain ⟨r, hr⟩ : ∃ r, (x0.toList == s.toList) = r := ⟨_, rfl⟩
      have HR := Hid.of hr
      cases r with
      | true =>
        go_wp2
        go_ret
        refine ⟨?_, HB.out.alloc HB.out.size _⟩
        have h1 : badN d s = true := by
          unfold badN
          rw [List.any_eq_true]
          exact ⟨(x0, x1, x2, x3), List.mem_of_getElem? HX.out, HR.out⟩
        rw [h1]
        rfl
      | false =>
        go_wp2
        go_roundw
        case rel => exact ⟨j + 1, by omega, by go_num, Hid.of (by rw [NX.out, A.out]; exact HR.out), HB.out.alloc HB.out.size _⟩
        case measure => simp [RowKit.intOf]; omega
    · have hjl : j = d.length := by omega
      have h1 := A.out
      rw [hjl, List.take_length] at h1
      have H1 := Hid.of h1
      clear h1 hjl
      go_wp2
      go_ret
      rw [H1.out]
      exact ⟨rfl, hb⟩

/-- May t stand behind o? -/
def pCoarser (t o : TierL) : Bool := decide (o.2.1 + 1 ≤ t.2.1 ∧ t.2.1 ≤ 1000000) && pDiv o.2.1 t.2.1 && decide (o.2.2.1 ≤ t.2.2.1)

set_option maxRecDepth 20000 in
set_option maxHeartbeats 800000 in
theorem coarser_any (t o : TierL) (w : World) (ho : 1 ≤ o.2.1 ∧ o.2.1 ≤ 1000000) :
    Calls Tryz.prog 263 #[tierVal t, tierVal o] w fun e w' => e = .returned (.bool (pCoarser t o)) ∧ Below w.heap.size w w' := by
  obtain ⟨t0, t1, t2, t3⟩ := t
  obtain ⟨o0, o1, o2, o3⟩ := o
  obtain ⟨h1, h2⟩ := ho
  simp only at h1 h2
  have hr : pCoarser (t0, t1, t2, t3) (o0, o1, o2, o3) = (decide (o1 + 1 ≤ t1 ∧ t1 ≤ 1000000) && pDiv o1 t1 && decide (o2 ≤ t2)) := rfl
  rw [hr]
  clear hr
  simp only [tierVal]
  obtain ⟨w1, hw1⟩ : ∃ w1, (w.alloc (.cells #[.string t0, .int .i64 t1, .int .i64 t2, .int .i64 t3] 89)).alloc (.cells #[.string o0, .int .i64 o1, .int .i64 o2, .int .i64 o3] 89) = w1 := ⟨_, rfl⟩
  have B1 : Hid (Below w.heap.size w w1) := Hid.of (by rw [← hw1]; exact ((Below.refl _ _).alloc (Nat.le_refl _) _).alloc (by simp) _)
  have K1 : Hid (TBlk w1 w.heap.size (t0, t1, t2, t3)) := Hid.of (by rw [← hw1]; exact (TBlk.made w _).kept ((Below.refl _ _).alloc (Nat.le_refl _) _))
  have K2 : Hid (TBlk w1 (w.heap.size + 1) (o0, o1, o2, o3)) := Hid.of (by rw [← hw1]; have := TBlk.made (w.alloc (.cells #[.string t0, .int .i64 t1, .int .i64 t2, .int .i64 t3] 89)) (o0, o1, o2, o3); simpa using this)
  have HW := Hid.of hw1
  obtain ⟨c0, c1, c2, c3⟩ := K1.out.at
  obtain ⟨d0, d1, d2, d3⟩ := K2.out.at
  simp only at c0 c1 c2 c3 d0 d1 d2 d3
  rw [← hw1] at c0 c1 c2 c3 d0 d1 d2 d3
  clear hw1
  go_enter Tryz.func263, Tryz.ntmps263
  go_wp2_with fail
  refine (within_any t1 (o1 + 1) 1000000 _).mono ?_
  rintro e w2 ⟨rfl, rfl⟩
  rw [HW.out] at *
  by_cases hw : o1 + 1 ≤ t1 ∧ t1 ≤ 1000000
  · have r1 : decide (o1 + 1 ≤ t1 ∧ t1 ≤ 1000000) = true := decide_eq_true hw
    rw [r1]
    have R1 := Hid.of r1
    clear r1 hw
    go_wp2_with fail
    refine (pDivides_any o1 t1 _).mono ?_
    rintro e w2 ⟨rfl, q, rfl⟩
    obtain ⟨r, hr⟩ : ∃ r, pDiv o1 t1 = r := ⟨_, rfl⟩
    rw [hr]
    have R2 := Hid.of hr
    clear hr
    cases r with
    | true =>
      go_wp2
      go_ret
      rw [R1.out, R2.out]
      exact ⟨rfl, below_drewN B1.out q⟩
    | false =>
      go_wp2
      go_ret
      rw [R1.out, R2.out]
      exact ⟨rfl, below_drewN B1.out q⟩
  · have r1 : decide (o1 + 1 ≤ t1 ∧ t1 ≤ 1000000) = false := decide_eq_false hw
    rw [r1]
    have R1 := Hid.of r1
    clear r1 hw
    go_wp2
    go_ret
    rw [R1.out]
    exact ⟨rfl, B1.out⟩

end Go.Proofs.YtbhcafginmkaaaaGreat

namespace Go.Proofs.YtbhcafginmkaaaaGreat
open Go.RowKit Go.Lib

theorem pol_name_row (w : World) (s : ByteArray) (t : TypeId) : CellRow (w.alloc (.cells #[.string s] t)) (.slice (some ⟨w.heap.size, 0, none⟩) 1 1) [s].length ([s].map Value.string) :=
  ⟨_, _, rfl, .inr ⟨_, 0, rfl, by simp, one_cell w _ _⟩⟩

theorem pDiv_iff {e t : Int} (he : 1 ≤ e) (ht : 0 ≤ t) : pDiv e t = decide (t % e = 0) := by
  unfold pDiv
  rw [decide_eq_true he, Bool.true_and, Int.tmod_eq_emod_of_nonneg ht]

theorem pOk_first (x : TierL) : tierOk [] x = (nOk x.1 && decide (1 ≤ x.2.2.1 ∧ x.2.2.1 ≤ 1000000) && decide (1 ≤ x.2.2.2 ∧ x.2.2.2 ≤ 8) && decide (x.2.1 = 1)) := by
  unfold tierOk
  rw [Bool.eq_iff_iff]
  simp only [List.getLast?_nil, List.all_nil, Bool.and_eq_true, decide_eq_true_eq]
  constructor
  · rintro ⟨⟨⟨⟨⟨⟨⟨⟨a, b⟩, c⟩, d⟩, e⟩, f⟩, g⟩, -⟩, i⟩
    exact ⟨⟨⟨a, b, c⟩, d, e⟩, i⟩
  · rintro ⟨⟨⟨a, b, c⟩, d, e⟩, i⟩
    exact ⟨⟨⟨⟨⟨⟨⟨⟨a, b⟩, c⟩, d⟩, e⟩, by omega⟩, by omega⟩, trivial⟩, i⟩

theorem pOk_next (d : List TierL) (o x : TierL) (h : d.getLast? = some o) (ho : 1 ≤ o.2.1) : tierOk d x = (nOk x.1 && decide (1 ≤ x.2.2.1 ∧ x.2.2.1 ≤ 1000000) && decide (1 ≤ x.2.2.2 ∧ x.2.2.2 ≤ 8) && (!(badN d x.1) && pCoarser x o)) := by
  have hb : (d.all fun o => !(o.1.toList == x.1.toList)) = !(badN d x.1) := by
    unfold badN
    rw [List.not_any_eq_all_not]
  unfold tierOk
  rw [h, hb, Bool.eq_iff_iff]
  unfold pCoarser
  simp only [Bool.and_eq_true, decide_eq_true_eq]
  constructor
  · rintro ⟨⟨⟨⟨⟨⟨⟨⟨a, b⟩, c⟩, d⟩, e⟩, f⟩, g⟩, k⟩, ⟨m, n⟩, q⟩
    refine ⟨⟨⟨a, b, c⟩, d, e⟩, k, ⟨⟨by omega, g⟩, ?_⟩, q⟩
    rw [pDiv_iff ho (by omega)]
    exact decide_eq_true n
  · rintro ⟨⟨⟨a, b, c⟩, d, e⟩, k, ⟨⟨m, g⟩, n⟩, q⟩
    rw [pDiv_iff ho (by omega)] at n
    exact ⟨⟨⟨⟨⟨⟨⟨⟨a, b⟩, c⟩, d⟩, e⟩, by omega⟩, g⟩, k⟩, ⟨by omega, of_decide_eq_true n⟩, q⟩

set_option maxRecDepth 20000 in
set_option maxHeartbeats 800000 in
theorem follows_any (t : TierL) (v : Value) (d : List TierL) (w : World) (hv : CellRow w v d.length (flat penc d)) (hn : d.length ≤ 1000000) (ht : t.1.size ≤ maxLen) (hd : ∀ y ∈ d, 1 ≤ y.2.1 ∧ y.2.1 ≤ 1000000) :
    Calls Tryz.prog 210 #[tierVal t, v] w fun e w' => e = .returned (.bool (tierOk d t)) ∧ Below w.heap.size w w' := by
  obtain ⟨t0, t1, t2, t3⟩ := t
  simp only at ht
  have HV := Hid.of hv
  obtain ⟨va, vc, rfl, -⟩ := hv
  have HT := Hid.of ht
  have HD := Hid.of hd
  simp only [tierVal]
  obtain ⟨w1, hw1⟩ : ∃ w1, w.alloc (.cells #[.string t0, .int .i64 t1, .int .i64 t2, .int .i64 t3] 89) = w1 := ⟨_, rfl⟩
  obtain ⟨w2, hw2⟩ : ∃ w2, w1.alloc (.cells #[.string t0] 9) = w2 := ⟨_, rfl⟩
  have B1 : Hid (Below w.heap.size w w1) := Hid.of (by rw [← hw1]; exact (Below.refl _ _).alloc (Nat.le_refl _) _)
  have K1 : Hid (TBlk w1 w.heap.size (t0, t1, t2, t3)) := Hid.of (by rw [← hw1]; exact TBlk.made w (t0, t1, t2, t3))
  have b2 : Below w1.heap.size w1 w2 := by rw [← hw2]; exact (Below.refl _ _).alloc (Nat.le_refl _) _
  have B2 := Hid.of (B1.out.trans (b2.mono B1.out.size))
  have K2 := Hid.of (K1.out.kept b2)
  have NR := Hid.of (pol_name_row w1 t0 9)
  have SZ : Hid (w1.heap.size = w.heap.size + 1) := Hid.of (by rw [← hw1]; simp)
  have HW1 := Hid.of hw1
  have HW2 := Hid.of hw2
  obtain ⟨c0, c1, c2, c3⟩ := K1.out.at
  simp only at c0 c1 c2 c3
  rw [← hw1] at c0 c1 c2 c3
  clear hw1 hw2 b2 ht hd
  go_enter Tryz.func210, Tryz.ntmps210
  go_wp2_with fail
  rw [HW1.out, HW2.out]
  clear c0 c1 c2 c3
  have nr := NR.out
  rw [HW2.out, SZ.out] at nr
  refine (valid_any _ [t0] _ nr (by simp) (fun s hs => by rw [List.mem_singleton.1 hs]; exact HT.out)).mono ?_
  rintro e w3 ⟨rfl, q, rfl⟩
  have B3 := Hid.of (below_drewN B2.out q)
  have K3 : Hid (TBlk (w2.drewN q) w.heap.size (t0, t1, t2, t3)) := Hid.of K2.out
  clear HW1 HW2 SZ nr NR K1 K2 B1 B2
  generalize w2.drewN q = w3 at *
  obtain ⟨r0, hr0⟩ : ∃ r, nOk t0 = r := ⟨_, rfl⟩
  have R0 := Hid.of hr0
  have hall : [t0].all nOk = r0 := by rw [← hr0]; simp
  rw [hall]
  clear hall hr0
  obtain ⟨c0, c1, c2, c3⟩ := K3.out.at
  simp only at c0 c1 c2 c3
  have FALSE : Hid ((nOk t0 && decide (1 ≤ t2 ∧ t2 ≤ 1000000) && decide (1 ≤ t3 ∧ t3 ≤ 8)) = false → tierOk d (t0, t1, t2, t3) = false) := Hid.of (fun h => by
    cases hl : d.getLast? with
    | none =>
      have hd0 : d = [] := List.getLast?_eq_none_iff.1 hl
      rw [hd0, pOk_first]
      simp only [h, Bool.false_and]
    | some o =>
      rw [pOk_next d o _ hl (HD.out o (List.mem_of_getLast? hl)).1]
      simp only [h, Bool.false_and])
  cases r0 with
  | false =>
    go_wp2
    go_ret
    rw [FALSE.out (by rw [R0.out]; rfl)]
    exact ⟨rfl, B3.out⟩
  | true =>
    go_wp2_with fail
    obtain ⟨r1, hr1⟩ : ∃ r, decide (1 ≤ t2 ∧ t2 ≤ 1000000) = r := ⟨_, rfl⟩
    have R1 := Hid.of hr1
    clear hr1
    refine (within_at R1.out _).mono ?_
    rintro e w4 ⟨rfl, rfl⟩
    cases r1 with
    | false =>
      go_wp2
      go_ret
      rw [FALSE.out (by rw [R0.out, R1.out]; rfl)]
      exact ⟨rfl, B3.out⟩
    | true =>
      go_wp2_with fail
      obtain ⟨r2, hr2⟩ : ∃ r, decide (1 ≤ t3 ∧ t3 ≤ 8) = r := ⟨_, rfl⟩
      have R2 := Hid.of hr2
      clear hr2
      refine (within_at R2.out _).mono ?_
      rintro e w5 ⟨rfl, rfl⟩
      cases r2 with
      | false =>
        go_wp2
        go_ret
        rw [FALSE.out (by rw [R0.out, R1.out, R2.out]; rfl)]
        exact ⟨rfl, B3.out⟩
      | true =>
        clear FALSE
        cases hl : d.getLast? with
        | none =>
          have hd0 : d = [] := List.getLast?_eq_none_iff.1 hl
          subst hd0
          have OK := Hid.of (pOk_first (t0, t1, t2, t3))
          clear hl
          simp only [List.length_nil]
          go_wp2
          go_ret
          rw [OK.out]
          simp only [R0.out, R1.out, R2.out, Bool.true_and]
          exact ⟨rfl, B3.out⟩
        | some o =>
          have ho := HD.out o (List.mem_of_getLast? hl)
          have OK := Hid.of (pOk_next d o (t0, t1, t2, t3) hl ho.1)
          have HO := Hid.of ho
          obtain ⟨i, hi⟩ : ∃ i, d.length = i + 1 := ⟨d.length - 1, by
            cases d with
            | nil => cases hl
            | cons y r => simp⟩
          have hoi : d[i]? = some o := by
            rw [List.getLast?_eq_getElem?, hi] at hl
            exact hl
          obtain ⟨b1, o1, rfl, g1, hc1⟩ := p_at HV.out i o hoi
          obtain ⟨y0, y1, y2, y3⟩ := o
          obtain ⟨f0, f1, f2, f3⟩ := hc1
          rw [← B3.out.cell g1] at f0 f1 f2 f3
          simp only at f0 f1 f2 f3
          have n0 : (0 : Int) ≤ (i : Int) := Int.natCast_nonneg _
          have n1 : (i : Int) < (d.length : Int) := by omega
          have n3 : ¬ (d.length : Int) = 0 := by omega
          have ej : (d.length : Int) - 1 = (i : Int) := by omega
          have hw : IntKind.i64.wrap ((d.length : Int) - 1) = (i : Int) := by rw [ej]; exact wrap_at _ (by omega)
          have G1 := Hid.of g1
          have HVD : Hid (CellRow w5 (.slice (some ⟨b1, o1, none⟩) d.length vc) d.length (flat penc d)) := Hid.of (HV.out.kept B3.out)
          have HL : Hid (d.length ≤ 1000000) := Hid.of hn
          clear hl hoi ho ej hi HV hn
          obtain ⟨r3, hr3⟩ : ∃ r, badN d t0 = r := ⟨_, rfl⟩
          have R3 := Hid.of hr3
          clear hr3
          go_wp2_with fail
          go_upto_region 5 with fail
          cases r3 with
          | true =>
            refine wp_region_noPanic ?_
            refine wp_region_held_drew (S := fun w' => (w'.cell? ⟨w.heap.size, 0, none⟩ = some (.string t0) ∧ w'.cell? ⟨w.heap.size, 1, none⟩ = some (.int .i64 t1) ∧ w'.cell? ⟨w.heap.size, 2, none⟩ = some (.int .i64 t2) ∧ w'.cell? ⟨w.heap.size, 3, none⟩ = some (.int .i64 t3)) ∧ (w'.cell? ⟨b1, o1 + i * 4, none⟩ = some (.string y0) ∧ w'.cell? ⟨b1, o1 + i * 4 + 1, none⟩ = some (.int .i64 y1) ∧ w'.cell? ⟨b1, o1 + i * 4 + 2, none⟩ = some (.int .i64 y2) ∧ w'.cell? ⟨b1, o1 + i * 4 + 3, none⟩ = some (.int .i64 y3))) (by kernel_rfl) ?_ (fun hHeld => ?_)
            · exact ⟨⟨c0, c1, c2, c3⟩, f0, f1, f2, f3⟩
            refine takeOp 0 (o := ⟨_, _, _, _, _, _⟩) (v := ?_) rfl (by kernel_rfl) (by rfl) hHeld ?_ ?_; rotate_left; (next => intro w' hSw; (try dsimp only at hSw); go_simp; all_goals with_reducible rfl); simp only [Act.put, pA9, pB9, pC9]
            refine takeOp 1 (o := ⟨_, _, _, _, _, _⟩) (v := ?_) rfl (by kernel_rfl) (by rfl) hHeld ?_ ?_; rotate_left; (next => intro w' hSw; (try dsimp only at hSw); go_simp; all_goals with_reducible rfl); simp only [Act.put, pA9, pB9, pC9]
            refine takeOp 2 (o := ⟨_, _, _, _, _, _⟩) (v := ?_) rfl (by kernel_rfl) (by rfl) hHeld ?_ ?_; rotate_left; (next => intro w' hSw; (try dsimp only at hSw); go_simp; all_goals with_reducible rfl); simp only [Act.put, pA9, pB9, pC9]
            refine wpAnyH_ready (rs := [3]) (by kernel_rfl) (by simp) ?_
            refine AllReadyH.cons (o := ⟨_, _, _, _, _, _⟩) rfl (fun K hK => ?_) AllReadyH.nil
            go_simp
            refine (isNew_any t0 _ d _ (CellRow.drewN HVD.out 1) HL.out).mono ?_
            rintro e w6 ⟨rfl, b6⟩
            have c6 := (Below.refl _ _).drew.trans b6
            have B6 := Hid.of (B3.out.trans (c6.mono B3.out.size))
            have K6 := Hid.of (K3.out.kept c6)
            have F6 : Hid (w6.cell? ⟨b1, o1 + i * 4, none⟩ = some (.string y0) ∧ w6.cell? ⟨b1, o1 + i * 4 + 1, none⟩ = some (.int .i64 y1) ∧ w6.cell? ⟨b1, o1 + i * 4 + 2, none⟩ = some (.int .i64 y2) ∧ w6.cell? ⟨b1, o1 + i * 4 + 3, none⟩ = some (.int .i64 y3)) := Hid.of (by
              have hl : b1 < w5.heap.size := Nat.lt_of_lt_of_le G1.out B3.out.size
              rw [c6.cell hl, c6.cell hl, c6.cell hl, c6.cell hl]
              exact ⟨f0, f1, f2, f3⟩)
            rw [R3.out]
            clear b6 c6 hHeld c0 c1 c2 c3 f0 f1 f2 f3
            obtain ⟨c0, c1, c2, c3⟩ := K6.out.at
            obtain ⟨f0, f1, f2, f3⟩ := F6.out
            simp only at c0 c1 c2 c3
            refine hK.out _ _ ⟨⟨c0, c1, c2, c3⟩, f0, f1, f2, f3⟩ (fun hHeld => ?_)
            clear hK K
            try simp only [Act.put, pA9, pB9, pC9]
            refine takeOp 4 (o := ⟨_, _, _, _, _, _⟩) (v := ?_) rfl (by kernel_rfl) (by rfl) hHeld ?_ ?_; rotate_left; (next => intro w' hSw; (try dsimp only at hSw); go_simp; all_goals with_reducible rfl); simp only [Act.put, pA9, pB9, pC9]
            refine skipOp 5 (o := ⟨_, _, _, _, _, _⟩) rfl (by kernel_rfl) (by rfl) hHeld ?_
            simp only [Act.put, pA9, pB9, pC9]
            refine skipOp 6 (o := ⟨_, _, _, _, _, _⟩) rfl (by kernel_rfl) (by rfl) hHeld ?_
            simp only [Act.put, pA9, pB9, pC9]
            refine skipOp 7 (o := ⟨_, _, _, _, _, _⟩) rfl (by kernel_rfl) (by rfl) hHeld ?_
            simp only [Act.put, pA9, pB9, pC9]
            refine skipOp 8 (o := ⟨_, _, _, _, _, _⟩) rfl (by kernel_rfl) (by rfl) hHeld ?_
            simp only [Act.put, pA9, pB9, pC9]
            refine skipOp 9 (o := ⟨_, _, _, _, _, _⟩) rfl (by kernel_rfl) (by rfl) hHeld ?_
            simp only [Act.put, pA9, pB9, pC9]
            refine skipOp 10 (o := ⟨_, _, _, _, _, _⟩) rfl (by kernel_rfl) (by rfl) hHeld ?_
            simp only [Act.put, pA9, pB9, pC9]
            refine skipOp 11 (o := ⟨_, _, _, _, _, _⟩) rfl (by kernel_rfl) (by rfl) hHeld ?_
            simp only [Act.put, pA9, pB9, pC9]
            refine skipOp 12 (o := ⟨_, _, _, _, _, _⟩) rfl (by kernel_rfl) (by rfl) hHeld ?_
            simp only [Act.put, pA9, pB9, pC9]
            refine takeOp 13 (o := ⟨_, _, _, _, _, _⟩) (v := ?_) rfl (by kernel_rfl) (by rfl) hHeld ?_ ?_; rotate_left; (next => intro w' hSw; (try dsimp only at hSw); go_simp; all_goals with_reducible rfl); simp only [Act.put, pA9, pB9, pC9]
            refine takeOp 14 (o := ⟨_, _, _, _, _, _⟩) (v := ?_) rfl (by kernel_rfl) (by rfl) hHeld ?_ ?_; rotate_left; (next => intro w' hSw; (try dsimp only at hSw); go_simp; all_goals with_reducible rfl); simp only [Act.put, pA9, pB9, pC9]
            refine wpAnyH_done (by kernel_rfl) ?_ _
            refine NoPanic.normal ?_
            go_wp2
            go_ret
            rw [OK.out]
            simp only [R0.out, R1.out, R2.out, R3.out, Bool.true_and, Bool.not_true, Bool.false_and]
            exact ⟨rfl, B6.out⟩
          | false =>
            refine wp_region_noPanic ?_
            refine wp_region_held_drew (S := fun w' => (w'.cell? ⟨w.heap.size, 0, none⟩ = some (.string t0) ∧ w'.cell? ⟨w.heap.size, 1, none⟩ = some (.int .i64 t1) ∧ w'.cell? ⟨w.heap.size, 2, none⟩ = some (.int .i64 t2) ∧ w'.cell? ⟨w.heap.size, 3, none⟩ = some (.int .i64 t3)) ∧ (w'.cell? ⟨b1, o1 + i * 4, none⟩ = some (.string y0) ∧ w'.cell? ⟨b1, o1 + i * 4 + 1, none⟩ = some (.int .i64 y1) ∧ w'.cell? ⟨b1, o1 + i * 4 + 2, none⟩ = some (.int .i64 y2) ∧ w'.cell? ⟨b1, o1 + i * 4 + 3, none⟩ = some (.int .i64 y3))) (by kernel_rfl) ?_ (fun hHeld => ?_)
            · exact ⟨⟨c0, c1, c2, c3⟩, f0, f1, f2, f3⟩
            refine takeOp 0 (o := ⟨_, _, _, _, _, _⟩) (v := ?_) rfl (by kernel_rfl) (by rfl) hHeld ?_ ?_; rotate_left; (next => intro w' hSw; (try dsimp only at hSw); go_simp; all_goals with_reducible rfl); simp only [Act.put, pA9, pB9, pC9]
            refine takeOp 1 (o := ⟨_, _, _, _, _, _⟩) (v := ?_) rfl (by kernel_rfl) (by rfl) hHeld ?_ ?_; rotate_left; (next => intro w' hSw; (try dsimp only at hSw); go_simp; all_goals with_reducible rfl); simp only [Act.put, pA9, pB9, pC9]
            refine takeOp 2 (o := ⟨_, _, _, _, _, _⟩) (v := ?_) rfl (by kernel_rfl) (by rfl) hHeld ?_ ?_; rotate_left; (next => intro w' hSw; (try dsimp only at hSw); go_simp; all_goals with_reducible rfl); simp only [Act.put, pA9, pB9, pC9]
            refine wpAnyH_ready (rs := [3]) (by kernel_rfl) (by simp) ?_
            refine AllReadyH.cons (o := ⟨_, _, _, _, _, _⟩) rfl (fun K hK => ?_) AllReadyH.nil
            go_simp
            refine (isNew_any t0 _ d _ (CellRow.drewN HVD.out 1) HL.out).mono ?_
            rintro e w6 ⟨rfl, b6⟩
            have c6 := (Below.refl _ _).drew.trans b6
            have B6 := Hid.of (B3.out.trans (c6.mono B3.out.size))
            have K6 := Hid.of (K3.out.kept c6)
            have F6 : Hid (w6.cell? ⟨b1, o1 + i * 4, none⟩ = some (.string y0) ∧ w6.cell? ⟨b1, o1 + i * 4 + 1, none⟩ = some (.int .i64 y1) ∧ w6.cell? ⟨b1, o1 + i * 4 + 2, none⟩ = some (.int .i64 y2) ∧ w6.cell? ⟨b1, o1 + i * 4 + 3, none⟩ = some (.int .i64 y3)) := Hid.of (by
              have hl : b1 < w5.heap.size := Nat.lt_of_lt_of_le G1.out B3.out.size
              rw [c6.cell hl, c6.cell hl, c6.cell hl, c6.cell hl]
              exact ⟨f0, f1, f2, f3⟩)
            rw [R3.out]
            clear b6 c6 hHeld c0 c1 c2 c3 f0 f1 f2 f3
            obtain ⟨c0, c1, c2, c3⟩ := K6.out.at
            obtain ⟨f0, f1, f2, f3⟩ := F6.out
            simp only at c0 c1 c2 c3
            refine hK.out _ _ ⟨⟨c0, c1, c2, c3⟩, f0, f1, f2, f3⟩ (fun hHeld => ?_)
            clear hK K
            try simp only [Act.put, pA9, pB9, pC9]
            refine takeOp 4 (o := ⟨_, _, _, _, _, _⟩) (v := ?_) rfl (by kernel_rfl) (by rfl) hHeld ?_ ?_; rotate_left; (next => intro w' hSw; (try dsimp only at hSw); go_simp; all_goals with_reducible rfl); simp only [Act.put, pA9, pB9, pC9]
            refine takeOp 5 (o := ⟨_, _, _, _, _, _⟩) (v := ?_) rfl (by kernel_rfl) (by rfl) hHeld ?_ ?_; rotate_left; (next => intro w' hSw; (try dsimp only at hSw); go_simp; all_goals with_reducible rfl); simp only [Act.put, pA9, pB9, pC9]
            refine takeOp 6 (o := ⟨_, _, _, _, _, _⟩) (v := ?_) rfl (by kernel_rfl) (by rfl) hHeld ?_ ?_; rotate_left; (next => intro w' hSw; (try dsimp only at hSw); go_simp; all_goals with_reducible rfl); simp only [Act.put, pA9, pB9, pC9]
            refine takeOp 7 (o := ⟨_, _, _, _, _, _⟩) (v := ?_) rfl (by kernel_rfl) (by rfl) hHeld ?_ ?_; rotate_left; (next => intro w' hSw; (try dsimp only at hSw); go_simp; all_goals with_reducible rfl); simp only [Act.put, pA9, pB9, pC9]
            refine takeOp 8 (o := ⟨_, _, _, _, _, _⟩) (v := ?_) rfl (by kernel_rfl) (by rfl) hHeld ?_ ?_; rotate_left; (next => intro w' hSw; (try dsimp only at hSw); go_simp; all_goals with_reducible rfl); simp only [Act.put, pA9, pB9, pC9]
            refine takeOp 9 (o := ⟨_, _, _, _, _, _⟩) (v := ?_) rfl (by kernel_rfl) (by rfl) hHeld ?_ ?_; rotate_left; (next => intro w' hSw; (try dsimp only at hSw); go_simp; all_goals with_reducible rfl); simp only [Act.put, pA9, pB9, pC9]
            refine takeOp 10 (o := ⟨_, _, _, _, _, _⟩) (v := ?_) rfl (by kernel_rfl) (by rfl) hHeld ?_ ?_; rotate_left; (next => intro w' hSw; (try dsimp only at hSw); go_simp; all_goals with_reducible rfl); simp only [Act.put, pA9, pB9, pC9]
            refine takeOp 11 (o := ⟨_, _, _, _, _, _⟩) (v := ?_) rfl (by kernel_rfl) (by rfl) hHeld ?_ ?_; rotate_left; (next => intro w' hSw; (try dsimp only at hSw); go_simp; all_goals with_reducible rfl); simp only [Act.put, pA9, pB9, pC9]
            refine wpAnyH_ready (rs := [12]) (by kernel_rfl) (by simp) ?_
            refine AllReadyH.cons (o := ⟨_, _, _, _, _, _⟩) rfl (fun K hK => ?_) AllReadyH.nil
            go_simp
            refine (coarser_any (t0, t1, t2, t3) (y0, y1, y2, y3) _ HO.out).mono ?_
            rintro e w7 ⟨rfl, b7⟩
            have B7 := Hid.of (B6.out.trans (b7.mono B6.out.size))
            have K7 := Hid.of (K6.out.kept b7)
            have F7 : Hid (w7.cell? ⟨b1, o1 + i * 4, none⟩ = some (.string y0) ∧ w7.cell? ⟨b1, o1 + i * 4 + 1, none⟩ = some (.int .i64 y1) ∧ w7.cell? ⟨b1, o1 + i * 4 + 2, none⟩ = some (.int .i64 y2) ∧ w7.cell? ⟨b1, o1 + i * 4 + 3, none⟩ = some (.int .i64 y3)) := Hid.of (by
              have hl : b1 < w6.heap.size := Nat.lt_of_lt_of_le G1.out B6.out.size
              rw [b7.cell hl, b7.cell hl, b7.cell hl, b7.cell hl]
              exact ⟨f0, f1, f2, f3⟩)
            obtain ⟨r4, hr4⟩ : ∃ r, pCoarser (t0, t1, t2, t3) (y0, y1, y2, y3) = r := ⟨_, rfl⟩
            have R4 := Hid.of hr4
            rw [hr4]
            clear hr4 b7 hHeld c0 c1 c2 c3 f0 f1 f2 f3
            obtain ⟨c0, c1, c2, c3⟩ := K7.out.at
            obtain ⟨f0, f1, f2, f3⟩ := F7.out
            simp only at c0 c1 c2 c3
            refine hK.out _ _ ⟨⟨c0, c1, c2, c3⟩, f0, f1, f2, f3⟩ (fun hHeld => ?_)
            clear hK K
            try simp only [Act.put, pA9, pB9, pC9]
            refine takeOp 13 (o := ⟨_, _, _, _, _, _⟩) (v := ?_) rfl (by kernel_rfl) (by rfl) hHeld ?_ ?_; rotate_left; (next => intro w' hSw; (try dsimp only at hSw); go_simp; all_goals with_reducible rfl); simp only [Act.put, pA9, pB9, pC9]
            refine takeOp 14 (o := ⟨_, _, _, _, _, _⟩) (v := ?_) rfl (by kernel_rfl) (by rfl) hHeld ?_ ?_; rotate_left; (next => intro w' hSw; (try dsimp only at hSw); go_simp; all_goals with_reducible rfl); simp only [Act.put, pA9, pB9, pC9]
            refine wpAnyH_done (by kernel_rfl) ?_ _
            refine NoPanic.normal ?_
            go_wp2
            go_ret
            rw [OK.out]
            simp only [R0.out, R1.out, R2.out, R3.out, R4.out, Bool.true_and, Bool.not_false]
            exact ⟨rfl, B7.out⟩

end Go.Proofs.YtbhcafginmkaaaaGreat

namespace Go.Proofs.YtbhcafginmkaaaaGreat
open Go.RowKit Go.Lib

theorem cells_take {w : World} {a : Option Addr} {c : Nat} {l : List TierL} (h : CellRow w (.slice a l.length c) l.length (flat penc l)) (j : Nat) (hj : j ≤ l.length) : CellRow w (.slice a j c) (l.take j).length (flat penc (l.take j)) := by
  obtain ⟨a', c', hv, h⟩ := h
  cases hv
  refine ⟨a, c, by rw [List.length_take, Nat.min_eq_left hj], ?_⟩
  rcases h with h | ⟨b, o, ha, hl, hc⟩
  · left
    cases l with
    | nil => simp [flat]
    | cons x r => simp [flat, penc] at h
  · refine .inr ⟨b, o, ha, hl, fun k u hk => hc k u ?_⟩
    have h1 : flat penc l = flat penc (l.take j) ++ flat penc (l.drop j) := by rw [← flat_append, List.take_append_drop]
    rw [h1, List.getElem?_append_left (List.getElem?_eq_some_iff.1 hk).1]
    exact hk

theorem pOk_every {d : List TierL} {x : TierL} (h : tierOk d x = true) : 1 ≤ x.2.1 ∧ x.2.1 ≤ 1000000 := by
  unfold tierOk at h
  simp only [Bool.and_eq_true, decide_eq_true_eq] at h
  exact ⟨h.1.1.1.2, h.1.1.2⟩

theorem small_len {n : Nat} (h : n ≤ 1000000) : n ≤ maxLen := by unfold maxLen; omega

set_option maxRecDepth 20000 in
set_option maxHeartbeats 1600000 in
theorem check_any (v : Value) (p : PolL) (w : World) (hf : PFit p) (hv : PolRow w v p) :
    Calls Tryz.prog 101 #[v] w fun e w' => e = .returned (.tuple #[.int .i64 (pCheck p).1, .int .i64 (pCheck p).2]) ∧ Below w.heap.size w w' := by
  obtain ⟨n, l⟩ := p
  obtain ⟨hp, hn, ht⟩ := hf
  obtain ⟨s, rfl, hs, hk⟩ := hv
  simp only at hs hp ht hn
  have HS := Hid.of hs
  have HT := Hid.of ht
  obtain ⟨sa, sc, rfl, -⟩ := hs
  have HK : Hid (l.length ≤ sc) := Hid.of hk
  obtain ⟨w1, hw1⟩ : ∃ w1, w.alloc (.cells #[.string n, .slice sa l.length sc] 24) = w1 := ⟨_, rfl⟩
  obtain ⟨w2, hw2⟩ : ∃ w2, w1.alloc (.cells #[.string n] 9) = w2 := ⟨_, rfl⟩
  have B1 : Hid (Below w.heap.size w w1) := Hid.of (by rw [← hw1]; exact (Below.refl _ _).alloc (Nat.le_refl _) _)
  have K1 : Hid (PBlk w1 w.heap.size n (.slice sa l.length sc)) := Hid.of (by rw [← hw1]; exact PBlk.made w _ _)
  have b2 : Below w1.heap.size w1 w2 := by rw [← hw2]; exact (Below.refl _ _).alloc (Nat.le_refl _) _
  have B2 := Hid.of (B1.out.trans (b2.mono B1.out.size))
  have K2 := Hid.of (K1.out.kept b2)
  have NR := Hid.of (pol_name_row w1 n 9)
  have SZ : Hid (w1.heap.size = w.heap.size + 1) := Hid.of (by rw [← hw1]; simp)
  have HW1 := Hid.of hw1
  have HW2 := Hid.of hw2
  have HN := Hid.of (small_len hn)
  have HPL := Hid.of hp
  obtain ⟨c0, c1⟩ := K1.out.at
  rw [← hw1] at c0 c1
  clear hw1 hw2 b2 ht hn hk hp
  go_enter Tryz.func101, Tryz.ntmps101
  go_wp2_with fail
  rw [HW1.out, HW2.out]
  clear c0 c1
  have nr := NR.out
  rw [HW2.out, SZ.out] at nr
  refine (valid_any _ [n] _ nr (by simp) (fun s hs => by rw [List.mem_singleton.1 hs]; exact HN.out)).mono ?_
  rintro e w3 ⟨rfl, q, rfl⟩
  have B3 := Hid.of (below_drewN B2.out q)
  have K3 : Hid (PBlk (w2.drewN q) w.heap.size n (.slice sa l.length sc)) := Hid.of K2.out
  clear HW1 HW2 SZ nr NR K1 K2 B1 B2
  generalize w2.drewN q = w3 at *
  obtain ⟨r0, hr0⟩ : ∃ r, nOk n = r := ⟨_, rfl⟩
  have R0 := Hid.of hr0
  have hall : [n].all nOk = r0 := by rw [← hr0]; simp
  rw [hall]
  clear hall hr0
  obtain ⟨c0, c1⟩ := K3.out.at
  have RET : Hid (nOk n = false ∨ l.length < 1 ∨ 5 < l.length → pCheck (n, l) = (23, 0)) := Hid.of (fun h => by unfold pCheck; rw [if_pos h])
  cases r0 with
  | false =>
    go_wp2
    go_ret2
    rw [RET.out (.inl R0.out)]
    exact ⟨rfl, B3.out⟩
  | true =>
    obtain ⟨r1, hr1⟩ : ∃ r, decide ((1 : Int) ≤ (l.length : Int) ∧ (l.length : Int) ≤ 5) = r := ⟨_, rfl⟩
    have R1 := Hid.of hr1
    clear hr1
    go_wp2_with fail
    refine (within_at R1.out _).mono ?_
    rintro e w4 ⟨rfl, rfl⟩
    cases r1 with
    | false =>
      go_wp2
      go_ret2
      rw [RET.out (.inr (by have := of_decide_eq_false R1.out; omega))]
      exact ⟨rfl, B3.out⟩
    | true =>
      have HP : Hid (pCheck (n, l) = match pBad [] l with | some i => (23, (i : Int)) | none => (0, 0)) := Hid.of (by
        have h1 := of_decide_eq_true R1.out
        unfold pCheck
        rw [if_neg (fun h => by
          rcases h with h | h | h
          · rw [R0.out] at h; cases h
          · simp only at h; omega
          · simp only at h; omega)]
        cases pBad [] l <;> rfl)
      clear RET
      go_wp2
      go_loopw [21] (fun i wr => ∃ j : Nat, j ≤ l.length ∧ i = .int .i64 j ∧ Hid (pBad [] l = pBad (l.take j) (l.drop j)) ∧ Hid (∀ x ∈ l.take j, 1 ≤ x.2.1 ∧ x.2.1 ≤ 1000000) ∧ Hid (PBlk wr w.heap.size n (.slice sa l.length sc)) ∧ Hid (Below w.heap.size w wr)) (fun i _ => l.length - (RowKit.intOf i).toNat)
      case atStart => exact ⟨0, Nat.zero_le _, rfl, Hid.of rfl, Hid.of (by simp), K3, B3⟩
      case round =>
        clear K3 B3 c0 c1
        obtain ⟨j, hj, rfl, E, A, K, b⟩ := hrel
        obtain ⟨c0, c1⟩ := K.out.at
        have i0 : (0 : Int) ≤ (j : Int) := Int.natCast_nonneg _
        by_cases hlt : j < l.length
        · have i3 : (j : Int) < (l.length : Int) := by omega
          obtain ⟨b1, o1, rfl, g1, hc1⟩ := p_at HS.out j l[j] (by simp [hlt])
          obtain ⟨x, hx⟩ : ∃ x, l[j] = x := ⟨_, rfl⟩
          rw [hx] at hc1
          have HX : Hid (l[j]? = some x) := Hid.of (by rw [← hx]; exact List.getElem?_eq_getElem hlt)
          have SX : Hid (x.1.size ≤ maxLen) := Hid.of (small_len (HT.out x (by rw [← hx]; exact List.getElem_mem hlt)).1)
          obtain ⟨x0, x1, x2, x3⟩ := x
          obtain ⟨f0, f1, f2, f3⟩ := hc1
          rw [← b.out.cell g1] at f0 f1 f2 f3
          simp only at f0 f1 f2 f3
          have i4 : (j : Int) ≤ (sc : Int) := by have := HK.out; omega
          clear hx
          go_upto_region 6 with fail
          obtain ⟨wa, hwa⟩ : ∃ wa, wr.alloc (.cells #[.string x0, .int .i64 x1, .int .i64 x2, .int .i64 x3] 89) = wa := ⟨_, rfl⟩
          have TB : Hid (TBlk wa wr.heap.size (x0, x1, x2, x3)) := Hid.of (by rw [← hwa]; exact TBlk.made wr (x0, x1, x2, x3))
          have ba : Below wr.heap.size wr wa := by rw [← hwa]; exact (Below.refl _ _).alloc (Nat.le_refl _) _
          have KA := Hid.of (K.out.kept ba)
          have BA := Hid.of (b.out.trans (ba.mono b.out.size))
          rw [hwa]
          generalize wr.heap.size = tb at *
          clear f0 f1 f2 f3 c0 c1 K b ba hwa
          obtain ⟨c0, c1⟩ := KA.out.at
          obtain ⟨f0, f1, f2, f3⟩ := TB.out.at
          simp only at f0 f1 f2 f3
          refine wp_region_noPanic ?_
          refine wp_region_held_drew (S := fun w' => (w'.cell? ⟨w.heap.size, 0, none⟩ = some (.string n) ∧ w'.cell? ⟨w.heap.size, 1, none⟩ = some (.slice (some ⟨b1, o1, none⟩) l.length sc)) ∧ (w'.cell? ⟨tb, 0, none⟩ = some (.string x0) ∧ w'.cell? ⟨tb, 1, none⟩ = some (.int .i64 x1) ∧ w'.cell? ⟨tb, 2, none⟩ = some (.int .i64 x2) ∧ w'.cell? ⟨tb, 3, none⟩ = some (.int .i64 x3))) (by kernel_rfl) ?_ (fun hHeld => ?_)
          · exact ⟨⟨c0, c1⟩, f0, f1, f2, f3⟩
          refine takeOp 0 (o := ⟨_, _, _, _, _, _⟩) (v := ?_) rfl (by kernel_rfl) (by rfl) hHeld ?_ ?_; rotate_left; (next => intro w' hSw; (try dsimp only at hSw); go_simp; all_goals with_reducible rfl); simp only [Act.put, pA9, pB9, pC9]
          refine takeOp 1 (o := ⟨_, _, _, _, _, _⟩) (v := ?_) rfl (by kernel_rfl) (by rfl) hHeld ?_ ?_; rotate_left; (next => intro w' hSw; (try dsimp only at hSw); go_simp; all_goals with_reducible rfl); simp only [Act.put, pA9, pB9, pC9]
          refine takeOp 2 (o := ⟨_, _, _, _, _, _⟩) (v := ?_) rfl (by kernel_rfl) (by rfl) hHeld ?_ ?_; rotate_left; (next => intro w' hSw; (try dsimp only at hSw); go_simp; all_goals with_reducible rfl); simp only [Act.put, pA9, pB9, pC9]
          refine takeOp 3 (o := ⟨_, _, _, _, _, _⟩) (v := ?_) rfl (by kernel_rfl) (by rfl) hHeld ?_ ?_; rotate_left; (next => intro w' hSw; (try dsimp only at hSw); go_simp; all_goals with_reducible rfl); simp only [Act.put, pA9, pB9, pC9]
          refine takeOp 4 (o := ⟨_, _, _, _, _, _⟩) (v := ?_) rfl (by kernel_rfl) (by rfl) hHeld ?_ ?_; rotate_left; (next => intro w' hSw; (try dsimp only at hSw); go_simp; all_goals with_reducible rfl); simp only [Act.put, pA9, pB9, pC9]
          refine wpAnyH_ready (rs := [5]) (by kernel_rfl) (by simp) ?_
          refine AllReadyH.cons (o := ⟨_, _, _, _, _, _⟩) rfl (fun K hK => ?_) AllReadyH.nil
          go_simp
          refine (follows_any (x0, x1, x2, x3) _ (l.take j) _ (cells_take (CellRow.drewN (HS.out.kept BA.out) 1) j hj) (by rw [List.length_take]; have := HPL.out; omega) SX.out A.out).mono ?_
          rintro e w6 ⟨rfl, b6⟩
          have c6 := (Below.refl _ _).drew.trans b6
          have B6 := Hid.of (BA.out.trans (c6.mono BA.out.size))
          have K6 := Hid.of (KA.out.kept c6)
          have T6 := Hid.of (TB.out.kept c6)
          obtain ⟨r5, hr5⟩ : ∃ r, tierOk (l.take j) (x0, x1, x2, x3) = r := ⟨_, rfl⟩
          have R5 := Hid.of hr5
          rw [hr5]
          clear b6 c6 hHeld c0 c1 f0 f1 f2 f3 hr5
          obtain ⟨c0, c1⟩ := K6.out.at
          obtain ⟨f0, f1, f2, f3⟩ := T6.out.at
          simp only at f0 f1 f2 f3
          refine hK.out _ _ ⟨⟨c0, c1⟩, f0, f1, f2, f3⟩ (fun hHeld => ?_)
          clear hK K
          try simp only [Act.put, pA9, pB9, pC9]
          refine takeOp 6 (o := ⟨_, _, _, _, _, _⟩) (v := ?_) rfl (by kernel_rfl) (by rfl) hHeld ?_ ?_; rotate_left; (next => intro w' hSw; (try dsimp only at hSw); go_simp; all_goals with_reducible rfl); simp only [Act.put, pA9, pB9, pC9]
          refine wpAnyH_done (by kernel_rfl) ?_ _
          refine NoPanic.normal ?_
          cases r5 with
          | false =>
            have ST := Hid.of (pBad_stop E.out HX.out R5.out)
            have HPS : Hid (pCheck (n, l) = (23, ((j + 1 : Nat) : Int))) := Hid.of (by rw [HP.out, ST.out])
            have EE : Hid (((j + 1 : Nat) : Int) = (j : Int) + 1) := Hid.of (by omega)
            have j9 : (j : Int) ≤ 1000000 := by have := HPL.out; omega
            go_wp2
            go_ret2
            rw [HPS.out, EE.out]
            exact ⟨rfl, B6.out⟩
          | true =>
            have ON := Hid.of (pBad_on E.out HX.out R5.out)
            have IN := Hid.of (pOk_every R5.out)
            have j9 : (j : Int) ≤ 1000000 := by have := HPL.out; omega
            go_wp2
            go_roundw
            case rel =>
              refine ⟨j + 1, by omega, by go_num, ON, Hid.of (fun z hz => ?_), K6, B6⟩
              rw [List.take_add_one, HX.out, List.mem_append] at hz
              rcases hz with hz | hz
              · exact A.out z hz
              · simp only [Option.toList_some, List.mem_singleton] at hz
                rw [hz]
                exact IN.out
            case measure => simp [RowKit.intOf]; omega
        · have hjl : j = l.length := by omega
          have HPN : Hid (pCheck (n, l) = (0, 0)) := Hid.of (by
            rw [HP.out, E.out, hjl, List.drop_length]
            rfl)
          clear hjl
          go_wp2
          go_ret2
          rw [HPN.out]
          exact ⟨rfl, b.out⟩

end Go.Proofs.YtbhcafginmkaaaaGreat

namespace Go.Proofs.YtbhcafginmkaaaaGreat
open Go.RowKit Go.Lib

/-- To, and the sources. -/
abbrev PlanL := PolL × List Int

/-- An int's ends. -/
def mSat (x : Int) : Int := max (-9223372036854775808) (min x 9223372036854775807)
def mAdd (a b : Int) : Int := mSat (a + b)

theorem mSat_in (x : Int) : I64 (mSat x) := by unfold mSat I64; omega
theorem mSat_of {x : Int} (h : I64 x) : mSat x = x := by unfold mSat I64 at *; omega
theorem mAdd_of {a b : Int} (h : I64 (a + b)) : mAdd a b = a + b := mSat_of h

/-- How many fills tiers take, behind n. -/
def mFillsN (n : Int) : List TierL → Int
  | [] => n
  | x :: l => mFillsN (mAdd n (max x.2.2.2 0)) l
def mFills (l : List TierL) : Int := mFillsN 0 l

/-- The tier of which a new one is made: from tier i on, the best one till there. -/
def mFurN (r : RchL) (e : Int) (i best : Nat) : List TierL → Nat
  | [] => best
  | x :: l => mFurN r e (i + 1) (if gOn e x.2.1 = true ∧ rFromN r i ≤ rFromN r best then i else best) l
def mFur (r : RchL) (e : Int) (l : List TierL) : Nat := mFurN r e 0 0 l

def mErr (p q : PolL) : Int := if (pCheck p).1 ≠ 0 then (pCheck p).1 else (pCheck q).1
def mMake (p : PolL) (r : RchL) (q : PolL) : PlanL := if mErr p q = 0 then (q, q.2.map fun x => ((mFur r x.2.1 p.2 : Nat) : Int)) else ((⟨#[]⟩, []), [])

def mZero (pl : PlanL) : Bool := decide (pl.1.1 = ⟨#[]⟩) && decide (pl.1.2 = []) && decide (pl.2 = [])
def mSteps (pl : PlanL) : Int := if mZero pl = true then 0 else mAdd (mFills pl.1.2) 2

/-- A step: kind, tier, shard; and whether there is one. -/
abbrev StepL := (Int × Int × Int) × Bool
def mAtN (k : Int) (i : Nat) : List TierL → StepL
  | [] => if k = 0 then ((2, 0, 0), true) else if k = 1 then ((3, 0, 0), true) else ((0, 0, 0), false)
  | x :: l => if k < max x.2.2.2 0 then ((1, i, k), true) else mAtN (k - max x.2.2.2 0) (i + 1) l
def mAt (pl : PlanL) (k : Int) : StepL := if mZero pl = true ∨ k < 0 then ((0, 0, 0), false) else mAtN k 0 pl.1.2

def mSrc (pl : PlanL) (j : Nat) : Int := match pl.2[j]? with | some i => i | none => -1
def mBases (pl : PlanL) (r : RchL) : List Int := pl.1.2.mapIdx fun j x => gCeil (rFrom r (mSrc pl j)) x.2.1
def mBound (pl : PlanL) (need : Int) : Int := mAdd need (mAdd need (mFills pl.1.2))

theorem mFillsN_in {n : Int} (h : I64 n) : ∀ l, I64 (mFillsN n l)
  | [] => h
  | _ :: l => mFillsN_in (mSat_in _) l

theorem mFills_in (l : List TierL) : I64 (mFills l) := mFillsN_in (by unfold I64; omega) l

theorem mFills_one {x : TierL} (h : I64 x.2.2.2) : mFills [x] = max x.2.2.2 0 := by
  show mAdd 0 (max x.2.2.2 0) = _
  rw [mAdd_of (by unfold I64 at *; omega)]
  omega

end Go.Proofs.YtbhcafginmkaaaaGreat

namespace Go.Proofs.YtbhcafginmkaaaaGreat
open Go.RowKit Go.Lib

theorem mErr_zero {p q : PolL} (h : mErr p q = 0) : (pCheck p).1 = 0 ∧ (pCheck q).1 = 0 := by
  unfold mErr at h
  split at h
  · rename_i c
    exact absurd h c
  · rename_i c
    exact ⟨by simpa using c, h⟩

theorem mMake_ok {p q : PolL} (h : mErr p q = 0) (r : RchL) : mMake p r q = (q, q.2.map fun x => ((mFur r x.2.1 p.2 : Nat) : Int)) := by
  unfold mMake
  rw [if_pos h]

end Go.Proofs.YtbhcafginmkaaaaGreat
