/-
  What Light answers over steps.
-/
import Derived.Test.YtpgiknejgolllaaDO
namespace Go.Proofs.Ytpgiknejgolllaa
open Go.RowKit Go.Lib

theorem Room_two (l : Int) (hl : -1 ≤ l) (hl2 : l ≤ 4611686018427387904) (x y : Nat) (w1 : World) (t : TypeId) (b : Nat) (hb : b = w1.heap.size) (q : Int) (hq : room l [(x : Int), (y : Int)] = q) :
    Calls Try.prog 36 #[.int .i64 l, .slice (some ⟨b, 0, none⟩) 2 2] (w1.alloc (.cells #[.int .i64 x, .int .i64 y] t)).drew fun e w' => e = .returned (.int .i64 q) ∧ Below w1.heap.size w1 w' := by
  have hx : Hid (∀ j, j < [(x : Int), (y : Int)].length → 0 ≤ [(x : Int), (y : Int)].getD j 0) := Hid.of fun j hj => by
    match j, hj with
    | 0, _ => exact Int.natCast_nonneg _
    | 1, _ => exact Int.natCast_nonneg _
    | j + 2, hj => exact absurd hj (by simp)
  have hr0 : NumRow .i64 (w1.alloc (.cells #[.int .i64 x, .int .i64 y] t)) (.slice (some ⟨b, 0, none⟩) 2 2) [(x : Int), (y : Int)] := NumRow.made .i64 _ _ [(x : Int), (y : Int)] _ rfl _ _ _ hb rfl
  have hr : NumRow .i64 (w1.alloc (.cells #[.int .i64 x, .int .i64 y] t)).drew (.slice (some ⟨b, 0, none⟩) 2 2) [(x : Int), (y : Int)] := hr0
  refine (Room_any l hl hl2 _ [(x : Int), (y : Int)] hx (by simp) _ hr).mono ?_
  rintro e w' ⟨he, rfl⟩
  exact ⟨by rw [he, hq], ((Below.refl _ _).alloc (Nat.le_refl _) _).drew⟩

theorem room_two (l : Int) (x y : Nat) (h : -1 ≤ l) : (0 ≤ room l [(x : Int), (y : Int)] → (x : Int) ≤ l ∧ (y : Int) ≤ l ∧ room l [(x : Int), (y : Int)] ≤ l ∧ 0 ≤ l) ∧ -1 ≤ room l [(x : Int), (y : Int)] ∧ room l [(x : Int), (y : Int)] ≤ max l (-1) := by
  refine ⟨fun h => ?_, room_ge _ _ h, room_le _ _ (fun z hz => by simp at hz; omega)⟩
  simp only [room] at h ⊢
  split at h
  · omega
  · split at h
    · omega
    · rw [if_neg (by assumption), if_neg (by assumption)]
      omega

/-- What Light ends with. -/
def LightEnd (l : List OpL) (w : World) (e : Ending) (w' : World) : Prop := ∃ r : Bool, e = .returned (.bool r) ∧ Hid (r = true → l.length ≤ 80 ∧ ∀ o ∈ l, o.t.size ≤ 20000 ∧ o.ks.length ≤ 20000) ∧ Below w.heap.size w w'

set_option maxRecDepth 20000 in
set_option maxHeartbeats 3200000 in
theorem Light_any (v : Value) (l : List OpL) (w : World) (hv : OpsRow w v l) :
    Calls Try.prog 22 #[v] w (LightEnd l w) := by
  have HV := Hid.of hv
  obtain ⟨⟨va, vc, rfl, _⟩, _⟩ := hv
  go_enter Try.func22, Try.ntmps22
  go_wp2
  go_loopw [3, 4] (fun lv iv wr => ∃ (j : Nat) (r : Int), j ≤ l.length ∧ j ≤ 200 ∧ iv = .int .i64 j ∧ lv = .int .i64 r ∧ -1 ≤ r ∧ r ≤ 20000 ∧ Hid (0 ≤ r → ∀ i o, i < j → l[i]? = some o → o.t.size ≤ 20000 ∧ o.ks.length ≤ 20000) ∧ Below w.heap.size w wr) (fun _ iv _ => l.length - (RowKit.intOf iv).toNat)
  case atStart => exact ⟨0, 20000, Nat.zero_le _, by omega, rfl, rfl, by omega, by omega, Hid.of (fun _ i o hi => by omega), Below.refl _ _⟩
  case round =>
    obtain ⟨j, r, hj, hj2, rfl, rfl, r1, r2, hok, hb⟩ := hrel
    have i0 : (0 : Int) ≤ (j : Int) := Int.natCast_nonneg _
    by_cases hlt : j < l.length
    · have i1 : (j : Int) < (l.length : Int) := by omega
      by_cases h200 : j < 200
      · have i2 : (j : Int) < 200 := by omega
        by_cases hneg : r < 0
        · have hd : decide (0 ≤ r) = false := decide_eq_false (by omega)
          go_wp2
          all_goals
            go_ret
            exact ⟨false, by simp, Hid.of (fun h => by cases h), hb⟩
        · have h0 : 0 ≤ r := by omega
          have hd : decide (0 ≤ r) = true := decide_eq_true h0
          have ho : l[j]? = some l[j] := List.getElem?_eq_getElem hlt
          generalize l[j] = o at ho
          obtain ⟨bb, oo, rfl, hlb, _, _, _, c3, c4⟩ := op_at HV.out.1 j o ho
          have d3 : wr.cell? ⟨bb, oo + j * 5 + 3, none⟩ = some (.string o.t) := by rw [hb.cell hlb]; exact c3
          have d4 : wr.cell? ⟨bb, oo + j * 5 + 4, none⟩ = some (.slice o.a o.ks.length o.cap) := by rw [hb.cell hlb]; exact c4
          obtain ⟨q, hq⟩ : ∃ q, room r [(o.t.size : Int), (o.ks.length : Int)] = q := ⟨_, rfl⟩
          obtain ⟨g1, g2, g3⟩ := room_two r o.t.size o.ks.length r1
          rw [hq] at g1 g2 g3
          have HQ := Hid.of hq
          have HOK : Hid (0 ≤ q → ∀ i x, i < j + 1 → l[i]? = some x → x.t.size ≤ 20000 ∧ x.ks.length ≤ 20000) := Hid.of (fun h i x hi hx => by
            obtain ⟨e1, e2, e3, e4⟩ := g1 h
            by_cases c : i = j
            · subst c
              rw [ho] at hx
              simp only [Option.some.injEq] at hx
              subst hx
              exact ⟨by omega, by omega⟩
            · exact hok.out e4 i x (by omega) hx)
          have HLT := Hid.of hlb
          have C3 := Hid.of c3
          have C4 := Hid.of c4
          have HB := Hid.of hb
          clear hq g1 ho c3 c4 hok hb
          go_wp2
          go_region_held3 (fun w' => w'.cell? ⟨bb, oo + j * 5 + 3, none⟩ = some (.string o.t) ∧ w'.cell? ⟨bb, oo + j * 5 + 4, none⟩ = some (.slice o.a o.ks.length o.cap)) (go_keep) (first | (go_at_call 36; refine (Room_two r r1 (by omega) o.t.size o.ks.length _ _ _ rfl q HQ.out).mono ?_; rintro e x1 ⟨rfl, k1⟩; have B1 := Hid.of (HB.out.trans (k1.mono HB.out.size)); clear k1 d3 d4; have d3 : x1.cell? ⟨bb, oo + j * 5 + 3, none⟩ = some (.string o.t) := (by rw [B1.out.cell HLT.out]; exact C3.out); have d4 : x1.cell? ⟨bb, oo + j * 5 + 4, none⟩ = some (.slice o.a o.ks.length o.cap) := (by rw [B1.out.cell HLT.out]; exact C4.out)))
          go_wp2
          go_roundw
          case rel => exact ⟨j + 1, q, by omega, by omega, by go_num, rfl, by omega, by omega, HOK, B1.out⟩
          case measure => simp [RowKit.intOf]; omega
      · have h201 : ¬ (j : Int) < 200 := by omega
        have h81 : ¬ (l.length : Int) ≤ 80 := by omega
        go_wp2
        all_goals
          go_ret
          exact ⟨false, by simp, Hid.of (fun h => by cases h), hb⟩
    · have hjl : j = l.length := by omega
      have hnl : ¬ (j : Int) < (l.length : Int) := by omega
      have HOK := hok
      by_cases c80 : l.length ≤ 80
      · have c81 : (l.length : Int) ≤ 80 := by omega
        by_cases hneg : r < 0
        · have hd : decide (0 ≤ r) = false := decide_eq_false (by omega)
          go_wp2
          all_goals
            go_ret
            exact ⟨false, by simp, Hid.of (fun h => by cases h), hb⟩
        · have hd : decide (0 ≤ r) = true := decide_eq_true (by omega)
          have HE : Hid (l.length ≤ 80 ∧ ∀ o ∈ l, o.t.size ≤ 20000 ∧ o.ks.length ≤ 20000) := Hid.of ⟨c80, fun o ho => by
            obtain ⟨i, hi⟩ := List.getElem?_of_mem ho
            have := (List.getElem?_eq_some_iff.1 hi).1
            exact HOK.out (by omega) i o (by omega) hi⟩
          go_wp2
          all_goals
            go_ret
            exact ⟨true, by simp, Hid.of (fun _ => HE.out), hb⟩
      · have c81 : ¬ (l.length : Int) ≤ 80 := by omega
        go_wp2
        all_goals
          go_ret
          exact ⟨false, by simp, Hid.of (fun h => by cases h), hb⟩

end Go.Proofs.Ytpgiknejgolllaa
