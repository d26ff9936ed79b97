/-
  What statement NameOnce answers: true, for every input.
-/
import Derived.Test.YtopilmancehbiaaNA
import Derived.Test.YtopilmancehbiaaNQ
import Derived.Test.YtopilmancehbiaaBKN
import Derived.Deep.DeepCutAuto
import Derived.Deep.CutBlock
import Derived.Deep.QuietTactic
import Derived.BigQuiet
namespace Go.Proofs.Ytopilmancehbiaa
open Go.RowKit Go.Lib

theorem size_tot {ss : List ByteArray} {s : ByteArray} (h : s ∈ ss) : s.size ≤ total ss := by
  induction ss with
  | nil => exact absurd h List.not_mem_nil
  | cons a l ih =>
    have e : total (a :: l) = a.size + total l := by simp [total]
    rcases List.mem_cons.1 h with rfl | h
    · omega
    · have := ih h
      omega

theorem nOrder_again (ss : List ByteArray) : nOrder (nOrder ss) = nOrder ss := (nOrder_of (nOrder_props ss).1 (fun _ => Iff.rfl)).symm

theorem rising_at {os : List ByteArray} (h : Rising os) {j : Nat} (h1 : 1 ≤ j) (hj : j < os.length) : ∃ i s t, i + 1 = j ∧ os[i]? = some s ∧ os[j]? = some t ∧ Op.bytesLess s.toList t.toList = true := by
  obtain ⟨i, rfl⟩ : ∃ i, j = i + 1 := ⟨j - 1, by omega⟩
  exact ⟨i, os[i], os[i + 1], rfl, List.getElem?_eq_getElem (by omega), List.getElem?_eq_getElem hj, List.pairwise_iff_getElem.1 h i (i + 1) (by omega) hj (by omega)⟩

theorem wrap_small (i : Nat) (h : (i : Int) ≤ 1000000) : IntKind.i64.wrap (i : Int) = (i : Int) := by
  have := Int.natCast_nonneg i
  simp [IntKind.wrap, IntKind.bits, IntKind.signed]
  omega

/-- Is s among the first k? -/
def seen (os : List ByteArray) (k : Nat) (s : ByteArray) : Bool := (os.take k).any fun t => t.toList == s.toList

theorem seen_step (os : List ByteArray) (k : Nat) (s t : ByteArray) (ht : os[k]? = some t) (f r : Bool) (hf : seen os k s = f) (hr : (t.toList == s.toList) = r) : seen os (k + 1) s = (f || r) := by
  have hk := (List.getElem?_eq_some_iff.1 ht).1
  have he := (List.getElem?_eq_some_iff.1 ht).2
  unfold seen at hf ⊢
  rw [List.take_succ_eq_append_getElem hk, List.any_append, hf, he]
  simp [hr]

theorem seen_all (os : List ByteArray) (s : ByteArray) (h : s ∈ os) : seen os os.length s = true := by
  unfold seen
  rw [List.take_length, List.any_eq_true]
  exact ⟨s, h, beq_self_eq_true _⟩

set_option maxRecDepth 20000 in
set_option maxHeartbeats 3200000 in
theorem nameOnce_main (v : Value) (ss : List ByteArray) (w : World) (hv : StrRow w v ss) :
    Calls Try.prog 6 #[v] w fun e w' => e = .returned (.bool true) ∧ Below w.heap.size w w' := by
  have HV := Hid.of hv
  obtain ⟨va, vc, rfl, _⟩ := hv
  go_enter Try.func6, Try.ntmps6
  go_wp2_with fail
  refine (Short_sum 40 2000 (by decide) (by decide) _ ss _ HV.out).mono ?_
  rintro e w1 ⟨r, rfl, hr, b1⟩
  cases r with
  | false =>
    go_wp2_with fail
    refine (nameAlive_any _).mono ?_
    rintro e w2 ⟨rfl, b2⟩
    go_wp2
    go_ret
    exact ⟨rfl, b1.trans (b2.mono b1.size)⟩
  | true =>
    obtain ⟨hl, ht⟩ := hr.out rfl
    have HL := Hid.of hl
    have SZ := Hid.of (fun (x : ByteArray) (h : x ∈ ss) => (show x.size ≤ 1000000 by have := size_tot h; omega))
    have HV1 := Hid.of ((HV.out.kept b1).cells)
    have l9 : (ss.length : Int) ≤ 40 := by omega
    have B1 := Hid.of b1
    clear hr hl ht b1
    go_wp2_with fail
    refine (order_any _ ss _ HV1.out (by have := HL.out; omega) SZ.out).mono ?_
    rintro e w2 ⟨u, rfl, o2, b2⟩
    have B2 := Hid.of (B1.out.trans (b2.mono B1.out.size))
    have HV2 := Hid.of (HV1.out.kept b2)
    have AGAIN := Hid.of (nOrder_again ss)
    have PROPS := Hid.of (nOrder_props ss)
    have SZO := Hid.of (fun (x : ByteArray) (h : x ∈ nOrder ss) => SZ.out x (((nOrder_props ss).2 x).1 h))
    have hle := nOrder_length ss
    obtain ⟨os, has⟩ : ∃ os, nOrder ss = os := ⟨_, rfl⟩
    rw [has] at o2 AGAIN PROPS SZO hle
    have HLE := Hid.of hle
    have a9 : (os.length : Int) ≤ 40 := by have := HL.out; omega
    have a8 : (os.length : Int) ≤ (ss.length : Int) := by omega
    obtain ⟨ua, uc, hu, _⟩ := own_one o2
    subst hu
    have HO := Hid.of (own_row o2)
    clear o2 b2 hle has HV1
    go_wp2
    go_loopw [4] (fun iv wr => ∃ j : Nat, 1 ≤ j ∧ iv = .int .i64 j ∧ ∃ q, wr = w2.drewN q) (fun iv _ => os.length - (RowKit.intOf iv).toNat)
    case atStart => exact ⟨1, Nat.le_refl _, rfl, 0, rfl⟩
    case round =>
      obtain ⟨j, hj1, rfl, q, rfl⟩ := hrel
      by_cases hlt : j < os.length
      · have i1 : (j : Int) < (os.length : Int) := by omega
        obtain ⟨i, s, t, hi, hs1, hs2, hless⟩ := rising_at PROPS.out.1 hj1 hlt
        obtain ⟨b1, o1, rfl, _, c1⟩ := str_get0 HO.out i _ hs1
        obtain ⟨b2, o2, hbo, _, c2⟩ := str_get0 HO.out j _ hs2
        simp only [Option.some.injEq, Addr.mk.injEq, and_true] at hbo
        obtain ⟨rfl, rfl⟩ := hbo
        have ej : ((j : Int) - 1) = (i : Int) := by omega
        have d1 : w2.cell? ⟨b1, o1 + i, none⟩ = some (.string s) := c1
        have d2 : w2.cell? ⟨b1, o1 + j, none⟩ = some (.string t) := c2
        have i0 : (0 : Int) ≤ (i : Int) := Int.natCast_nonneg _
        have i2 : (i : Int) < (os.length : Int) := by omega
        have j0 : (0 : Int) ≤ (j : Int) := Int.natCast_nonneg _
        have HJ := Hid.of hj1
        clear c1 c2 hs1 hs2 hj1
        have hw : IntKind.i64.wrap ((j : Int) - 1) = (i : Int) := by
          rw [ej]
          exact wrap_small _ (by omega)
        clear ej
        go_wp2
        go_quiet (fail)
        go_wp2
        go_roundw
        case rel => exact ⟨j + 1, by omega, by go_num, _, rfl⟩
        case measure => simp [RowKit.intOf]; omega
      · clear hj1
        go_wp2
        go_loopw [5, 6, 7] (fun iv _ _ wr => ∃ j : Nat, j ≤ ss.length ∧ iv = .int .i64 j ∧ ∃ q, wr = w2.drewN q) (fun iv _ _ _ => ss.length - (RowKit.intOf iv).toNat)
        case atStart => exact ⟨0, Nat.zero_le _, rfl, q, rfl⟩
        case round =>
          obtain ⟨j, hj, rfl, q, rfl⟩ := hrel
          by_cases hlt : j < ss.length
          · have i1 : (j : Int) < (ss.length : Int) := by omega
            obtain ⟨bs, os1, rfl, _, c1⟩ := str_get0 HV2.out j _ (List.getElem?_eq_getElem hlt)
            have hmem : ss[j] ∈ os := (PROPS.out.2 _).2 (List.getElem_mem hlt)
            have HSEE := Hid.of (seen_all os ss[j] hmem)
            generalize ss[j] = s at *
            have C1 := Hid.of c1
            clear c1 hmem
            go_wp2
            go_loopw [6, 7] (fun fv kv wr => ∃ (k : Nat) (f : Bool), k ≤ os.length ∧ kv = .int .i64 k ∧ fv = .bool f ∧ Hid (seen os k s = f) ∧ ∃ q, wr = w2.drewN q) (fun _ kv _ => os.length - (RowKit.intOf kv).toNat)
            case atStart => exact ⟨0, false, Nat.zero_le _, rfl, rfl, Hid.of rfl, q, rfl⟩
            case round =>
              obtain ⟨k, f, hk, rfl, rfl, HF, q, rfl⟩ := hrel
              by_cases hko : k < os.length
              · have k1 : (k : Int) < (os.length : Int) := by omega
                have hot : os[k]? = some os[k] := List.getElem?_eq_getElem hko
                generalize os[k] = t at hot
                obtain ⟨r, hr⟩ : ∃ r, (t.toList == s.toList) = r := ⟨_, rfl⟩
                have HS2 := Hid.of (seen_step os k s t hot f r HF.out hr)
                obtain ⟨b2, o2, rfl, _, c2⟩ := str_get0 HO.out k _ hot
                have d1 : w2.cell? ⟨bs, os1 + j, none⟩ = some (.string s) := C1.out
                have d2 : w2.cell? ⟨b2, o2 + k, none⟩ = some (.string t) := c2
                have j0 : (0 : Int) ≤ (j : Int) := Int.natCast_nonneg _
                have k0 : (0 : Int) ≤ (k : Int) := Int.natCast_nonneg _
                clear c2 hot HF
                cases f <;> cases r
                all_goals
                  go_wp2
                  go_quiet (fail)
                  go_wp2
                  go_roundw
                  case rel => exact ⟨k + 1, _, by omega, by go_num, rfl, HS2, _, rfl⟩
                  case measure => simp [RowKit.intOf]; omega
              · have hke : k = os.length := by omega
                subst hke
                have hf := HF.out
                rw [HSEE.out] at hf
                subst hf
                go_wp2
                go_roundw
                case rel => exact ⟨j + 1, by omega, by go_num, _, rfl⟩
                case measure => simp [RowKit.intOf]; omega
          · clear hj
            go_wp2_with fail
            refine (nameAlive_any _).mono ?_
            rintro e w3 ⟨rfl, b3⟩
            have B3 := Hid.of ((below_drewN B2.out q).trans (b3.mono (below_drewN B2.out q).size))
            have HO3 := Hid.of ((HO.out.drewN q).kept b3)
            clear b3
            go_wp2_with fail
            refine (order_any _ os _ HO3.out (by omega) SZO.out).mono ?_
            rintro e w4 ⟨u4, rfl, o4, b4⟩
            rw [AGAIN.out] at o4
            have HU4 := Hid.of (own_row o4)
            have HO4 := Hid.of (HO3.out.kept b4)
            have B4 := Hid.of (B3.out.trans (b4.mono B3.out.size))
            clear o4 b4
            go_wp2_with fail
            refine (SameTexts_any _ _ os _ HU4.out HO4.out (by omega)).mono ?_
            rintro e w5 ⟨rfl, b5⟩
            have B5 := Hid.of (B4.out.trans (b5.mono B4.out.size))
            clear b5
            go_wp2
            go_ret
            exact ⟨rfl, B5.out⟩

end Go.Proofs.Ytopilmancehbiaa
