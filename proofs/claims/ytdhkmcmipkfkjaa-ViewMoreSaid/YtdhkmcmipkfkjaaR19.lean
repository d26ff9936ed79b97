/-
  A bundle of texts: POC PRL PEB.
-/
import Derived.Deep.CutBlock
import Derived.Deep.DeepCutAuto
import Derived.Deep.QuietTactic
import Derived.BigQuiet
import Derived.Deep.RegionHeld3
import Derived.Test.YtdhkmcmipkfkjaaR18
import Derived.Test.YtdhkmcmipkfkjaaR13
import Derived.Test.YtdhkmcmipkfkjaaR12
namespace Go.Proofs.Ytdhkmcmipkfkjaa
open Go.RowKit Go.Lib

/-- What a tier may not be by itself. -/
def bad0 (x : TierL) : Bool := !(nOk x.1) || decide (x.2.2.1 < 1 ∨ 1000000 < x.2.2.1 ∨ x.2.2.2 < 1 ∨ 8 < x.2.2.2 ∨ x.2.1 < 1 ∨ 1000000 < x.2.1)

/-- Is its name that of a tier ahead? -/
def badN (d : List TierL) (n : ByteArray) : Bool := d.any fun o => o.1.toList == n.toList

theorem tierOk_first (x : TierL) : tierOk [] x = !(bad0 x || badN [] x.1 || decide (¬ x.2.1 = 1)) := by
  unfold tierOk bad0 badN
  rw [Bool.eq_iff_iff]
  simp only [List.getLast?_nil, List.all_nil, List.any_nil, Bool.and_eq_true, decide_eq_true_eq, Bool.not_eq_true', Bool.or_eq_false_iff, Bool.not_eq_false', decide_eq_false_iff_not]
  constructor
  · rintro ⟨⟨⟨⟨⟨⟨⟨⟨a, b⟩, c⟩, d⟩, e⟩, f⟩, g⟩, h⟩, i⟩
    exact ⟨⟨⟨a, by omega⟩, trivial⟩, by omega⟩
  · rintro ⟨⟨⟨a, b⟩, -⟩, c⟩
    exact ⟨⟨⟨⟨⟨⟨⟨⟨a, by omega⟩, by omega⟩, by omega⟩, by omega⟩, by omega⟩, by omega⟩, trivial⟩, by omega⟩

theorem tierOk_next (d : List TierL) (o x : TierL) (h : d.getLast? = some o) : tierOk d x = !(bad0 x || badN d x.1 || (decide (x.2.1 ≤ o.2.1) || decide (¬ x.2.1 % o.2.1 = 0) || decide (x.2.2.1 < o.2.2.1))) := by
  unfold tierOk bad0
  rw [h]
  have hb : (d.all fun o => !(o.1.toList == x.1.toList)) = !(badN d x.1) := by
    unfold badN
    rw [List.not_any_eq_all_not]
  rw [hb, Bool.eq_iff_iff]
  simp only [Bool.and_eq_true, decide_eq_true_eq, Bool.not_eq_true', Bool.or_eq_false_iff, Bool.not_eq_false', decide_eq_false_iff_not]
  constructor
  · rintro ⟨⟨⟨⟨⟨⟨⟨⟨a, b⟩, c⟩, e⟩, f⟩, g⟩, i⟩, k⟩, ⟨m, n⟩, p⟩
    exact ⟨⟨⟨a, by omega⟩, k⟩, ⟨by omega, by omega⟩, by omega⟩
  · rintro ⟨⟨⟨a, b⟩, k⟩, ⟨m, n⟩, p⟩
    exact ⟨⟨⟨⟨⟨⟨⟨⟨a, by omega⟩, by omega⟩, by omega⟩, by omega⟩, by omega⟩, by omega⟩, k⟩, ⟨by omega, by omega⟩, by omega⟩

theorem drop_at {l : List TierL} {j : Nat} {x : TierL} (hx : l[j]? = some x) : l.drop j = x :: l.drop (j + 1) := by
  obtain ⟨h, e⟩ := List.getElem?_eq_some_iff.1 hx
  rw [List.drop_eq_getElem_cons h, e]

theorem pBad_stop {l : List TierL} {j : Nat} {x : TierL} (E : pBad [] l = pBad (l.take j) (l.drop j)) (hx : l[j]? = some x) (h : tierOk (l.take j) x = false) : pBad [] l = some (j + 1) := by
  have hj := (List.getElem?_eq_some_iff.1 hx).1
  rw [E, drop_at hx, pBad, h]
  simp
  omega

theorem pBad_on {l : List TierL} {j : Nat} {x : TierL} (E : pBad [] l = pBad (l.take j) (l.drop j)) (hx : l[j]? = some x) (h : tierOk (l.take j) x = true) : pBad [] l = pBad (l.take (j + 1)) (l.drop (j + 1)) := by
  rw [E, drop_at hx, pBad, h, List.take_add_one, hx]
  rfl

theorem badN_next {l : List TierL} {j : Nat} {y : TierL} (n : ByteArray) (hy : l[j]? = some y) : badN (l.take (j + 1)) n = (badN (l.take j) n || (y.1.toList == n.toList)) := by
  unfold badN
  rw [List.take_add_one, hy, List.any_append]
  simp

theorem wrap_at (i : Nat) (h : (i : Int) ≤ 1000000) : IntKind.i64.wrap (i : Int) = (i : Int) := by
  have := Int.natCast_nonneg i
  simp [IntKind.wrap, IntKind.bits, IntKind.signed]
  omega

/-- A variable that holds a tier. -/
def TBlk (w : World) (b : Nat) (x : TierL) : Prop := w.heap[b]? = some (.cells #[.string x.1, .int .i64 x.2.1, .int .i64 x.2.2.1, .int .i64 x.2.2.2] 57 (0, 0))

theorem TBlk.made (w : World) (x : TierL) : TBlk (w.alloc (.cells #[.string x.1, .int .i64 x.2.1, .int .i64 x.2.2.1, .int .i64 x.2.2.2] 57)) w.heap.size x := Go.heap_alloc_new _ _

theorem TBlk.kept {w w' : World} {b : Nat} {x : TierL} (h : TBlk w b x) (c : Below w.heap.size w w') : TBlk w' b x := by
  unfold TBlk at h ⊢
  rw [c.block b (Array.getElem?_eq_some_iff.1 h).1]
  exact h

theorem TBlk.at {w : World} {b : Nat} {x : TierL} (h : TBlk w b x) : w.cell? ⟨b, 0, none⟩ = some (.string x.1) ∧ w.cell? ⟨b, 1, none⟩ = some (.int .i64 x.2.1) ∧ w.cell? ⟨b, 2, none⟩ = some (.int .i64 x.2.2.1) ∧ w.cell? ⟨b, 3, none⟩ = some (.int .i64 x.2.2.2) := by
  refine ⟨?_, ?_, ?_, ?_⟩ <;> (rw [cell_of_row w b _ _ _ _ h]; rfl)

set_option maxRecDepth 20000 in
set_option maxHeartbeats 3200000 in
theorem refCheck_any (v : Value) (p : PolL) (w : World) (hv : PolRow w v p) (hp : p.2.length ≤ 1000000) (hn : p.1.size ≤ maxLen) (ht : ∀ x ∈ p.2, x.1.size ≤ maxLen) :
    Calls Try.prog 6 #[v] w fun e w' => e = .returned (.tuple #[.int .i64 (pCheck p).1, .int .i64 (pCheck p).2]) ∧ Below w.heap.size w w' := by
  obtain ⟨n, l⟩ := p
  obtain ⟨s, rfl, hs, -⟩ := hv
  simp only at hs hp ht hn
  have HS := Hid.of hs
  have HT := Hid.of ht
  obtain ⟨sa, sc, rfl, -⟩ := hs
  obtain ⟨w1, hw1⟩ : ∃ w1, w.alloc (.cells #[.string n, .slice sa l.length sc] 24) = w1 := ⟨_, rfl⟩
  have b1 : Below w.heap.size w w1 := by rw [← hw1]; exact (Below.refl _ _).alloc (Nat.le_refl _) _
  have K1 : Hid (PBlk w1 w.heap.size n (.slice sa l.length sc)) := Hid.of (by rw [← hw1]; exact PBlk.made w _ _)
  have HW := Hid.of hw1
  have B1 := Hid.of b1
  have HSZ := Hid.of hn
  clear hw1 b1 ht hn
  go_enter Try.func6, Try.ntmps6
  go_wp2_with fail
  rw [HW.out]
  refine (refName_any n HSZ.out _).mono ?_
  rintro e w2 ⟨rfl, q, rfl⟩
  have B2 := Hid.of (below_drewN B1.out q)
  have K2 : Hid (PBlk (w1.drewN q) w.heap.size n (.slice sa l.length sc)) := Hid.of K1.out
  clear HW B1 K1
  generalize w1.drewN q = w2 at *
  obtain ⟨c0, c1⟩ := K2.out.at
  obtain ⟨b, hb⟩ : ∃ b, nOk n = b := ⟨_, rfl⟩
  have HB := Hid.of hb
  rw [hb]
  clear hb
  have RET : Hid (nOk n = false ∨ l.length < 1 ∨ 5 < l.length → pCheck (n, l) = (23, 0)) := Hid.of (fun h => by unfold pCheck; rw [if_pos h])
  cases b with
  | false =>
    go_wp2
    go_ret2
    rw [RET.out (.inl HB.out)]
    exact ⟨rfl, B2.out⟩
  | true =>
    by_cases h1 : l.length < 1
    · have i1 : (l.length : Int) < 1 := by omega
      go_wp2
      go_ret2
      rw [RET.out (.inr (.inl h1))]
      exact ⟨rfl, B2.out⟩
    · have i1 : ¬ (l.length : Int) < 1 := by omega
      by_cases h5 : 5 < l.length
      · have i2 : (5 : Int) < (l.length : Int) := by omega
        go_wp2
        go_ret2
        rw [RET.out (.inr (.inr h5))]
        exact ⟨rfl, B2.out⟩
      · have i2 : ¬ (5 : Int) < (l.length : Int) := by omega
        have HP : Hid (pCheck (n, l) = match pBad [] l with | some i => (23, (i : Int)) | none => (0, 0)) := Hid.of (by
          unfold pCheck
          rw [if_neg (fun h => by
            rcases h with h | h | h
            · rw [HB.out] at h; cases h
            · exact h1 h
            · exact h5 h)]
          cases pBad [] l <;> rfl)
        clear RET
        go_wp2
        go_loopw [4] (fun i wr => ∃ j : Nat, j ≤ l.length ∧ i = .int .i64 j ∧ Hid (pBad [] l = pBad (l.take j) (l.drop j)) ∧ Hid (∀ x ∈ l.take j, 1 ≤ x.2.1) ∧ Hid (PBlk wr w.heap.size n (.slice sa l.length sc)) ∧ Hid (Below w.heap.size w wr)) (fun i _ => l.length - (RowKit.intOf i).toNat)
        case atStart => exact ⟨0, Nat.zero_le _, rfl, Hid.of rfl, Hid.of (by simp), K2, B2⟩
        case round =>
          clear K2 B2 c0 c1
          obtain ⟨j, hj, rfl, E, A, K, b⟩ := hrel
          obtain ⟨c0, c1⟩ := K.out.at
          have i0 : (0 : Int) ≤ (j : Int) := Int.natCast_nonneg _
          by_cases hlt : j < l.length
          · have i3 : (j : Int) < (l.length : Int) := by omega
            obtain ⟨b1, o1, rfl, g1, hc1⟩ := p_at HS.out j l[j] (by simp [hlt])
            obtain ⟨x, hx⟩ : ∃ x, l[j] = x := ⟨_, rfl⟩
            rw [hx] at hc1
            have HX : Hid (l[j]? = some x) := Hid.of (by rw [← hx]; exact List.getElem?_eq_getElem hlt)
            have SX : Hid (x.1.size ≤ maxLen) := Hid.of (HT.out x (by rw [← hx]; exact List.getElem_mem hlt))
            obtain ⟨x0, x1, x2, x3⟩ := x
            obtain ⟨f0, f1, f2, f3⟩ := hc1
            rw [← b.out.cell g1] at f0 f1 f2 f3
            simp only at f0 f1 f2 f3
            clear hx
            go_upto_region 7 with fail
            obtain ⟨wa, hwa⟩ : ∃ wa, wr.alloc (.cells #[.string x0, .int .i64 x1, .int .i64 x2, .int .i64 x3] 57) = wa := ⟨_, rfl⟩
            have TB : Hid (TBlk wa wr.heap.size (x0, x1, x2, x3)) := Hid.of (by rw [← hwa]; exact TBlk.made wr (x0, x1, x2, x3))
            have ba : Below wr.heap.size wr wa := by rw [← hwa]; exact (Below.refl _ _).alloc (Nat.le_refl _) _
            have KA := Hid.of (K.out.kept ba)
            have BA := Hid.of (b.out.trans (ba.mono b.out.size))
            rw [hwa]
            generalize wr.heap.size = tb at *
            clear f0 f1 f2 f3 c0 c1 K b ba hwa
            obtain ⟨c0, c1⟩ := KA.out.at
            obtain ⟨f0, f1, f2, f3⟩ := TB.out.at
            simp only at f0 f1 f2 f3
            obtain ⟨b0, hb0⟩ : ∃ b0, bad0 (x0, x1, x2, x3) = b0 := ⟨_, rfl⟩
            have HB0 := Hid.of hb0
            clear hb0
            go_cut [6] (fun bv wx => bv = .bool b0 ∧ ∃ q, wx = wa.drewN q)
            case first =>
              go_wp2_with fail
              refine (refName_any x0 SX.out _).mono ?_
              rintro e w3 ⟨rfl, q, rfl⟩
              have HB1 := HB0.out
              unfold bad0 at HB1
              simp only at HB1
              obtain ⟨c, hc⟩ : ∃ c, nOk x0 = c := ⟨_, rfl⟩
              rw [hc] at HB1
              rw [hc]
              cases c with
              | false =>
                have HB2 := Hid.of HB1
                clear HB1 hc
                go_wp2_with fail
                go_meet
                exact ⟨by rw [← HB2.out]; rfl, q, rfl⟩
              | true =>
                simp only [Bool.not_true, Bool.false_or] at HB1
                have HB2 := Hid.of HB1
                clear HB1 hc
                go_wp2_with fail
                all_goals
                  go_meet
                  refine ⟨?_, q, rfl⟩
                  rw [← HB2.out]
                  first
                    | exact congrArg Value.bool (decide_eq_true (by omega)).symm
                    | exact congrArg Value.bool (decide_eq_false (by omega)).symm
                    | (refine congrArg Value.bool (Bool.eq_iff_iff.2 ?_); simp only [Bool.or_eq_true, decide_eq_true_eq]; omega)
            case rest =>
              obtain ⟨rfl, q, rfl⟩ := hcut
              go_wp2_with fail
              go_loopw [6, 7] (fun fv kv wx => ∃ (k : Nat) (f : Bool), k ≤ j ∧ kv = .int .i64 k ∧ fv = .bool f ∧ Hid ((b0 || badN (l.take k) x0) = f) ∧ ∃ q, wx = wa.drewN q) (fun _ kv _ => j - (RowKit.intOf kv).toNat)
              case atStart => exact ⟨0, b0, Nat.zero_le _, rfl, rfl, Hid.of (by simp [badN]), q, rfl⟩
              case round =>
                obtain ⟨k, f, hk, rfl, rfl, F, q, rfl⟩ := hrel
                have k0 : (0 : Int) ≤ (k : Int) := Int.natCast_nonneg _
                by_cases hkj : k < j
                · have k1 : (k : Int) < (j : Int) := by omega
                  have k2 : (k : Int) < (l.length : Int) := by omega
                  obtain ⟨b2, o2, hbo, -, hc2⟩ := p_at HS.out k l[k] (by simp)
                  simp only [Option.some.injEq, Addr.mk.injEq, and_true] at hbo
                  obtain ⟨rfl, rfl⟩ := hbo
                  obtain ⟨y, hy⟩ : ∃ y, l[k] = y := ⟨_, rfl⟩
                  rw [hy] at hc2
                  have HY : Hid (l[k]? = some y) := Hid.of (by rw [← hy]; exact List.getElem?_eq_getElem _)
                  obtain ⟨h0, -, -, -⟩ := hc2
                  rw [← BA.out.cell g1] at h0
                  obtain ⟨y0, y1, y2, y3⟩ := y
                  simp only at h0
                  obtain ⟨r, hr⟩ : ∃ r, (y0.toList == x0.toList) = r := ⟨_, rfl⟩
                  have NX : Hid ((b0 || badN (l.take (k + 1)) x0) = (f || r)) := Hid.of (by rw [badN_next x0 HY.out, ← Bool.or_assoc, F.out]; exact congrArg (f || ·) hr)
                  clear hy
                  cases f with
                  | true =>
                    clear hr
                    go_wp2
                    go_quiet (fail)
                    go_wp2
                    go_roundw
                    case rel => exact ⟨k + 1, true, by omega, by go_num, rfl, Hid.of (by rw [NX.out]; rfl), _, rfl⟩
                    case measure => simp [RowKit.intOf]; omega
                  | false =>
                    go_wp2
                    go_quiet (fail)
                    go_wp2
                    go_roundw
                    case rel => exact ⟨k + 1, r, by omega, by go_num, rfl, Hid.of (by rw [NX.out]; rfl), _, rfl⟩
                    case measure => simp [RowKit.intOf]; omega
                · have hkk : j = k := by omega
                  subst hkk
                  clear hk hkj
                  have POS : Hid (f = false → 1 ≤ x1 ∧ x1 ≤ 1000000) := Hid.of (fun h => by
                    have h1 := F.out
                    rw [h] at h1
                    have h2 := (Bool.or_eq_false_iff.1 h1).1
                    have h3 := HB0.out
                    rw [h2] at h3
                    unfold bad0 at h3
                    have h4 := of_decide_eq_false (Bool.or_eq_false_iff.1 h3).2
                    simp only at h4
                    omega)
                  have NEW : Hid (1 ≤ x1 → ∀ z ∈ l.take (j + 1), 1 ≤ z.2.1) := Hid.of (fun h z hz => by
                    rw [List.take_add_one, HX.out, List.mem_append] at hz
                    rcases hz with hz | hz
                    · exact A.out z hz
                    · simp only [Option.toList_some, List.mem_singleton] at hz
                      rw [hz]
                      exact h)
                  by_cases hj0 : j = 0
                  · have TO : Hid (tierOk (l.take j) (x0, x1, x2, x3) = !(f || decide (¬ x1 = 1))) := Hid.of (by
                      have h := F.out
                      rw [hj0, List.take_zero] at h ⊢
                      rw [tierOk_first, HB0.out, h])
                    have zb : ((j : Int) == 0) = true := by simp [hj0]
                    by_cases hbad : f = true ∨ ¬ x1 = 1
                    · have ST := Hid.of (pBad_stop E.out HX.out (by rw [TO.out]; rcases hbad with h | h <;> simp [h]))
                      have HPS : Hid (pCheck (n, l) = (23, ((j + 1 : Nat) : Int))) := Hid.of (by rw [HP.out, ST.out])
                      have e : ((j + 1 : Nat) : Int) = (j : Int) + 1 := by omega
                      have EE := Hid.of e
                      clear e hj0
                      cases f
                      · have h1 : ¬ x1 = 1 := by simpa using hbad
                        have h2 : (x1 != 1) = true := by simp [h1]
                        clear hbad h1
                        go_wp2
                        go_ret2
                        rw [HPS.out, EE.out]
                        exact ⟨rfl, below_drewN BA.out _⟩
                      · clear hbad
                        go_wp2
                        go_ret2
                        rw [HPS.out, EE.out]
                        exact ⟨rfl, below_drewN BA.out _⟩
                    · simp only [not_or, Bool.not_eq_true, Decidable.not_not] at hbad
                      obtain ⟨rfl, hx1⟩ := hbad
                      have ON := Hid.of (pBad_on E.out HX.out (by rw [TO.out]; simp [hx1]))
                      have h2 : (x1 != 1) = false := by simp [hx1]
                      have HX1 := Hid.of hx1
                      clear hx1 hj0
                      go_wp2
                      go_roundw
                      case rel => exact ⟨j + 1, by omega, by go_num, ON, Hid.of (NEW.out (by have := HX1.out; omega)), Hid.of KA.out, Hid.of (below_drewN BA.out _)⟩
                      case measure => simp [RowKit.intOf]; omega
                  · obtain ⟨i, hi⟩ : ∃ i, j = i + 1 := ⟨j - 1, by omega⟩
                    obtain ⟨b2, o2, hbo, -, hc2⟩ := p_at HS.out i (l[i]'(by omega)) (by simp)
                    simp only [Option.some.injEq, Addr.mk.injEq, and_true] at hbo
                    obtain ⟨rfl, rfl⟩ := hbo
                    obtain ⟨y, hy⟩ : ∃ y, (l[i]'(by omega)) = y := ⟨_, rfl⟩
                    rw [hy] at hc2
                    have HY : l[i]? = some y := by rw [← hy]; exact List.getElem?_eq_getElem _
                    obtain ⟨h0, h1, h2, h3⟩ := hc2
                    rw [← BA.out.cell g1] at h0 h1 h2 h3
                    have LA : Hid ((l.take j).getLast? = some y) := Hid.of (by rw [hi, List.take_add_one, HY]; simp)
                    have Y1 : Hid (1 ≤ y.2.1) := Hid.of (A.out y (List.mem_of_getLast? LA.out))
                    have TO : Hid (tierOk (l.take j) (x0, x1, x2, x3) = !(f || (decide (x1 ≤ y.2.1) || decide (¬ x1 % y.2.1 = 0) || decide (x2 < y.2.2.1)))) := Hid.of (by rw [tierOk_next _ y _ LA.out, HB0.out, F.out])
                    obtain ⟨y0, y1, y2, y3⟩ := y
                    simp only at h0 h1 h2 h3
                    have zb : ((j : Int) == 0) = false := by simp [hj0]
                    have ej : (j : Int) - 1 = (i : Int) := by omega
                    have hw : IntKind.i64.wrap ((j : Int) - 1) = (i : Int) := by rw [ej]; exact wrap_at _ (by omega)
                    have n0 : (0 : Int) ≤ (i : Int) := Int.natCast_nonneg _
                    have n1 : (i : Int) < (l.length : Int) := by omega
                    clear ej hi hj0 hy HY
                    have KC : Hid (PBlk (wa.drewN q) w.heap.size n (.slice (some ⟨b1, o1, none⟩) l.length sc)) := Hid.of KA.out
                    have TC : Hid (TBlk (wa.drewN q) tb (x0, x1, x2, x3)) := Hid.of TB.out
                    have BC := Hid.of (below_drewN BA.out q)
                    have d0 : (wa.drewN q).cell? ⟨b1, o1 + i * 4, none⟩ = some (.string y0) := h0
                    have d1 : (wa.drewN q).cell? ⟨b1, o1 + i * 4 + 1, none⟩ = some (.int .i64 y1) := h1
                    have d2 : (wa.drewN q).cell? ⟨b1, o1 + i * 4 + 2, none⟩ = some (.int .i64 y2) := h2
                    have d3 : (wa.drewN q).cell? ⟨b1, o1 + i * 4 + 3, none⟩ = some (.int .i64 y3) := h3
                    clear h0 h1 h2 h3 KA TB BA c0 c1 f0 f1 f2 f3
                    generalize wa.drewN q = wc at *
                    obtain ⟨c0, c1⟩ := KC.out.at
                    go_upto_region 15 with fail
                    obtain ⟨wd, hwd⟩ : ∃ wd, wc.alloc (.cells #[.string y0, .int .i64 y1, .int .i64 y2, .int .i64 y3] 57) = wd := ⟨_, rfl⟩
                    have bd : Below wc.heap.size wc wd := by rw [← hwd]; exact (Below.refl _ _).alloc (Nat.le_refl _) _
                    have TD := Hid.of (TC.out.kept bd)
                    have OD : Hid (TBlk wd wc.heap.size (y0, y1, y2, y3)) := Hid.of (by rw [← hwd]; exact TBlk.made wc (y0, y1, y2, y3))
                    have KD := Hid.of (KC.out.kept bd)
                    have BD := Hid.of (BC.out.trans (bd.mono BC.out.size))
                    rw [hwd]
                    generalize wc.heap.size = ob at *
                    clear hwd bd TC KC BC c0 c1 d0 d1 d2 d3
                    obtain ⟨f0, f1, f2, f3⟩ := TD.out.at
                    obtain ⟨h0, h1, h2, h3⟩ := OD.out.at
                    obtain ⟨c0, c1⟩ := KD.out.at
                    simp only at f0 f1 f2 f3 h0 h1 h2 h3
                    have EE : Hid (((j + 1 : Nat) : Int) = (j : Int) + 1) := Hid.of (by omega)
                    have HPS : Hid (tierOk (l.take j) (x0, x1, x2, x3) = false → pCheck (n, l) = (23, ((j + 1 : Nat) : Int))) := Hid.of (fun h => by rw [HP.out, pBad_stop E.out HX.out h])
                    cases f with
                    | true =>
                      go_wp2
                      go_ret2
                      rw [HPS.out (by rw [TO.out]; rfl), EE.out]
                      exact ⟨rfl, BD.out⟩
                    | false =>
                      by_cases le : x1 ≤ y1
                      · go_wp2
                        go_ret2
                        rw [HPS.out (by rw [TO.out]; simp [le]), EE.out]
                        exact ⟨rfl, BD.out⟩
                      · have XR := POS.out rfl
                        have yp : (1 : Int) ≤ y1 := Y1.out
                        have hy0 : ¬ y1 = 0 := by omega
                        have hyb : (y1 == 0) = false := by simp [hy0]
                        by_cases md : x1 % y1 = 0
                        · by_cases lk : x2 < y2
                          · have BAD := Hid.of (HPS.out (by rw [TO.out]; simp [lk]))
                            go_wp2
                            go_ret2
                            rw [BAD.out, EE.out]
                            exact ⟨rfl, BD.out⟩
                          · have ON := Hid.of (pBad_on E.out HX.out (by rw [TO.out]; simp [le, md, lk]))
                            have NW := Hid.of (NEW.out XR.1)
                            go_wp2
                            go_roundw
                            case rel => exact ⟨j + 1, by omega, by go_num, ON, NW, KD, BD⟩
                            case measure => simp [RowKit.intOf]; omega
                        · have BAD := Hid.of (HPS.out (by rw [TO.out]; simp [md]))
                          go_wp2
                          go_ret2
                          rw [BAD.out, EE.out]
                          exact ⟨rfl, BD.out⟩
          · have hjl : j = l.length := by omega
            have FIN : Hid (pCheck (n, l) = (0, 0)) := Hid.of (by
              have h := E.out
              rw [hjl, List.take_length, List.drop_length, pBad] at h
              rw [HP.out, h])
            have B9 := Hid.of b.out
            clear hjl
            go_wp2
            go_ret2
            rw [FIN.out]
            exact ⟨rfl, B9.out⟩

end Go.Proofs.Ytdhkmcmipkfkjaa

namespace Go.Proofs.Ytdhkmcmipkfkjaa
open Go.RowKit Go.Lib

theorem prNone : ∀ (l d : List TierL), pBad d l = none → ∀ (i : Nat) (t : TierL), l[i]? = some t → tierOk (d ++ l.take i) t = true
  | [], d, _, i, t, ht => by simp at ht
  | x :: l, d, h, i, t, ht => by
    rw [pBad] at h
    split at h
    · rename_i hx
      cases i with
      | zero =>
        simp at ht
        subst ht
        rw [List.take_zero, List.append_nil]
        exact hx
      | succ i =>
        have := prNone l (d ++ [x]) h i t (by simpa using ht)
        rwa [List.append_assoc, List.singleton_append] at this
    · cases h

theorem pCheck_ok {p : PolL} (h : (pCheck p).1 = 0) : pCheck p = (0, 0) ∧ nOk p.1 = true ∧ 1 ≤ p.2.length ∧ p.2.length ≤ 5 ∧ pBad [] p.2 = none := by
  unfold pCheck at h ⊢
  split at h
  · cases h
  · rename_i hc
    rw [if_neg hc]
    have hn : nOk p.1 = true := by
      cases hb : nOk p.1 with
      | true => rfl
      | false => exact absurd (.inl hb) hc
    cases hb : pBad [] p.2 with
    | none => exact ⟨rfl, hn, by omega, by omega, rfl⟩
    | some i => rw [hb] at h; cases h

/-- What is known of a tier of a policy that may be. -/
theorem tier_known {p : PolL} (h : (pCheck p).1 = 0) {i : Nat} {t : TierL} (ht : p.2[i]? = some t) : 1 ≤ t.2.1 ∧ t.2.1 ≤ 1000000 ∧ 1 ≤ t.2.2.1 ∧ t.2.2.1 ≤ 1000000 ∧ 1 ≤ t.2.2.2 ∧ t.2.2.2 ≤ 8 ∧ nOk t.1 = true ∧ (i = 0 → t.2.1 = 1) ∧
    ∀ o, 0 < i → p.2[i - 1]? = some o → o.2.1 < t.2.1 ∧ t.2.1 % o.2.1 = 0 ∧ o.2.2.1 ≤ t.2.2.1 := by
  have hk := prNone p.2 [] (pCheck_ok h).2.2.2.2 i t ht
  rw [List.nil_append] at hk
  have hk0 := hk
  unfold tierOk at hk
  simp only [Bool.and_eq_true, decide_eq_true_eq] at hk
  obtain ⟨⟨⟨⟨⟨⟨⟨⟨a, b⟩, c⟩, e⟩, f⟩, g⟩, k⟩, -⟩, j⟩ := hk
  refine ⟨g, k, b, c, e, f, a, ?_, ?_⟩
  · rintro rfl
    rw [List.take_zero] at j
    simpa using j
  · intro o hi ho
    have hl : (p.2.take i).getLast? = some o := by
      obtain ⟨i, rfl⟩ : ∃ m, i = m + 1 := ⟨i - 1, by omega⟩
      rw [List.take_add_one, show p.2[i]? = some o from ho]
      simp
    rw [hl] at j
    simp only [Bool.and_eq_true, decide_eq_true_eq] at j
    exact ⟨j.1.1, j.1.2, j.2⟩

end Go.Proofs.Ytdhkmcmipkfkjaa

namespace Go.Proofs.Ytdhkmcmipkfkjaa
open Go.RowKit Go.Lib

theorem pol_name_row (w : World) (s : ByteArray) (t : TypeId) : CellRow (w.alloc (.cells #[.string s] t)) (.slice (some ⟨w.heap.size, 0, none⟩) 1 1) [s].length ([s].map Value.string) :=
  ⟨_, _, rfl, .inr ⟨_, 0, rfl, by simp, one_cell w _ _⟩⟩

end Go.Proofs.Ytdhkmcmipkfkjaa
