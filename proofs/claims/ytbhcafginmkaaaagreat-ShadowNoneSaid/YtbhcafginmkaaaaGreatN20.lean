/-
  A bundle of texts: TCC TCD.
-/
import Derived.Deep.DeepCutAuto
import Derived.Deep.CutRange
import Derived.Test.YtbhcafginmkaaaaGreatN17
namespace Go.Proofs.YtbhcafginmkaaaaGreat
open Go.RowKit Go.Lib Go.Sort

set_option maxHeartbeats 32000000 in
set_option maxRecDepth 1000000 in
/-- One element stands left. -/
theorem symMerge_left (k : Nat) (zE : ∀ w, (Go.sizeOf 269).run Tryz.prog w = .ok k w) (blk off cap : Nat) (d0 : Array Bk) (w0 : World) (R : RowK benc k w0 blk off d0) (hcmp : CmpLays Tryz.prog 279 #[] benc k bcf blk off d0.size w0)
    (a m b : Nat) (d : Array Bk) (w : World) (hs : d0.size = d.size) (S : SWK benc k w0 blk off d w) (ham : a < m) (hmb : m < b) (hb : b ≤ d.size) (hsz : d.size ≤ 100000) (h1 : SortedIn blt a m d) (h2 : SortedIn blt m b d) (hm1 : m = a + 1) :
    Calls Tryz.prog 317 #[.slice (some ⟨blk, off, none⟩) d.size cap, .int .i64 a, .int .i64 m, .int .i64 b, byStartV] w fun e w' => e = .returned (.tuple #[]) ∧ ∃ d', PermIn a b d d' ∧ SortedIn blt a b d' ∧ SWK benc k w0 blk off d' w' := by
  have mixed : Tryz.prog.follows Departure.mixedOrders = true := by kernel_rfl
  have eg : ∀ args w, (callFunc 279 args).run Tryz.prog w = .ok (.enter 279 args) w := enters_of Tryz.func279 (by kernel_rfl) rfl
  have HC : Aside _ := hcmp
  clear hcmp
  have S0 : Aside (SWK benc k w0 blk off d w) := S
  have H1 : Aside (SortedIn blt a m d) := h1
  have H2 : Aside (SortedIn blt m b d) := h2
  clear S h1 h2
  have z1 : (m : Int) - (a : Int) = 1 := by omega
  have M1 := Hid.of hm1
  clear hm1
  go_enter Tryz.func317, Tryz.ntmps317
  go_wp2
  go_loopg [10, 11] (b - m) (fun kx s10 s11 wr => ∃ i j : Nat, s10 = .int .i64 i ∧ s11 = .int .i64 j ∧ m ≤ i ∧ i ≤ j ∧ j ≤ b ∧ j - i ≤ kx ∧ Aside (SWK benc k w0 blk off d wr) ∧ Aside ((i = m ∨ blt d[i - 1]! d[a]! = true) ∧ (j = b ∨ blt d[j]! d[a]! = false)))
  case atStart => exact ⟨m, b, rfl, rfl, Nat.le_refl _, by omega, Nat.le_refl _, Nat.le_refl _, S0, .inl rfl, .inl rfl⟩
  case round =>
    clear S0
    obtain ⟨i, j, rfl, rfl, hmi, hij, hjb, hkx, S1, I⟩ := hrel
    by_cases hlt : (i : Int) < (j : Int)
    · obtain ⟨c, hc⟩ : ∃ c : Nat, ((i : Int) + (j : Int)) / 2 = (c : Int) := ⟨(i + j) / 2, by omega⟩
      have hc1 : i ≤ c := by omega
      have hc2 : c < j := by omega
      obtain ⟨dk, hdk⟩ : ∃ dk, dk = d := ⟨_, rfl⟩
      have hds : dk.size = d.size := by rw [hdk]
      rw [← hdk] at S1
      cases HV : blt dk[c]! dk[a]! with
      | true =>
        have exA : ((c : Int)).toNat = c := by omega
        have pxA : (0 : Int) ≤ (c : Int) := by omega
        have bxA : (c : Int) < (d.size : Int) := by omega
        have rxA : IntKind.i64.wrap ((c : Int)) = (c : Int) := by rw [IntKind.wrap_i64]; omega
        have eyA : ((a : Int)).toNat = a := by omega
        have pyA : (0 : Int) ≤ (a : Int) := by omega
        have byA : (a : Int) < (d.size : Int) := by omega
        have ryA : IntKind.i64.wrap ((a : Int)) = (a : Int) := by rw [IntKind.wrap_i64]; omega
        obtain ⟨uA, huA⟩ : ∃ x, x = dk[c]! := ⟨_, rfl⟩
        obtain ⟨vA, hvA⟩ : ∃ x, x = dk[a]! := ⟨_, rfl⟩
        have lxA := S1.out.ld R (by omega) Tryz.prog (c) (by omega)
        have lyA := S1.out.ld R (by omega) Tryz.prog (a) (by omega)
        rw [← huA] at lxA
        rw [← hvA] at lyA
        have hcA := S1.out.cmp HC.out (by omega) uA vA
        have nvA : bcf uA vA < 0 := by rw [huA, hvA]; exact of_decide_eq_true HV
        have dvA : decide (bcf uA vA < 0) = true := decide_eq_true nvA
        have HVA := Hid.of HV
        clear huA hvA HV
        go_wp2_with fail
        go_quiet_grown (first | (go_at_fn 279; refine Calls.grown_of (hcA _ _)))
        have TA : Aside (SWK benc k w0 blk off dk (grow (wr.drewN nq) osq)) := S1.out.grown nq osq
        clear lxA lyA hcA S1
        generalize grow (wr.drewN nq) osq = wA at TA ⊢
        clear nq osq
        go_wp2
        go_roundg (j - (c + 1))
        case measure => omega
        case rel => exact ⟨c + 1, j, by go_num, rfl, by omega, by omega, hjb, Nat.le_refl _, by rw [← hdk]; exact TA, .inr (by rw [← hdk]; exact HVA.out), I.out.2⟩
      | false =>
        have exB : ((c : Int)).toNat = c := by omega
        have pxB : (0 : Int) ≤ (c : Int) := by omega
        have bxB : (c : Int) < (d.size : Int) := by omega
        have rxB : IntKind.i64.wrap ((c : Int)) = (c : Int) := by rw [IntKind.wrap_i64]; omega
        have eyB : ((a : Int)).toNat = a := by omega
        have pyB : (0 : Int) ≤ (a : Int) := by omega
        have byB : (a : Int) < (d.size : Int) := by omega
        have ryB : IntKind.i64.wrap ((a : Int)) = (a : Int) := by rw [IntKind.wrap_i64]; omega
        obtain ⟨uB, huB⟩ : ∃ x, x = dk[c]! := ⟨_, rfl⟩
        obtain ⟨vB, hvB⟩ : ∃ x, x = dk[a]! := ⟨_, rfl⟩
        have lxB := S1.out.ld R (by omega) Tryz.prog (c) (by omega)
        have lyB := S1.out.ld R (by omega) Tryz.prog (a) (by omega)
        rw [← huB] at lxB
        rw [← hvB] at lyB
        have hcB := S1.out.cmp HC.out (by omega) uB vB
        have nvB : ¬ bcf uB vB < 0 := by rw [huB, hvB]; exact of_decide_eq_false HV
        have dvB : decide (bcf uB vB < 0) = false := decide_eq_false nvB
        have HVB := Hid.of HV
        clear huB hvB HV
        go_wp2_with fail
        go_quiet_grown (first | (go_at_fn 279; refine Calls.grown_of (hcB _ _)))
        have TB : Aside (SWK benc k w0 blk off dk (grow (wr.drewN nq) osq)) := S1.out.grown nq osq
        clear lxB lyB hcB S1
        generalize grow (wr.drewN nq) osq = wB at TB ⊢
        clear nq osq
        go_wp2
        go_roundg (c - i)
        case measure => omega
        case rel => exact ⟨i, c, rfl, rfl, hmi, hc1, by omega, Nat.le_refl _, by rw [← hdk]; exact TB, I.out.1, .inr (by rw [← hdk]; exact HVB.out)⟩
    · obtain rfl : i = j := by omega
      go_wp2
      go_loopg [13] i (fun kx s13 wr => ∃ (q : Nat) (dk : Array Bk), s13 = .int .i64 q ∧ a ≤ q ∧ q < i ∧ i - q ≤ kx ∧ dk.size = d.size ∧ Aside (RotR a (a + 1) (q + 1) d dk) ∧ Aside (PermIn a b d dk) ∧ Aside (SWK benc k w0 blk off dk wr))
      case atStart => exact ⟨a, d, rfl, Nat.le_refl _, by omega, by omega, rfl, RotR.refl_right a (a + 1) d, permIn_refl d a b, S1⟩
      case round =>
        clear S1
        obtain ⟨q, dk, rfl, haq, hqi, hkq, hds, HR, HP, S1⟩ := hrel
        by_cases hq : (q : Int) < (i : Int) - 1
        · skip
          have exC : ((q : Int)).toNat = q := by omega
          have pxC : (0 : Int) ≤ (q : Int) := by omega
          have bxC : (q : Int) < (d.size : Int) := by omega
          have rxC : IntKind.i64.wrap ((q : Int)) = (q : Int) := by rw [IntKind.wrap_i64]; omega
          have eyC : ((q : Int) + 1).toNat = q + 1 := by omega
          have pyC : (0 : Int) ≤ (q : Int) + 1 := by omega
          have byC : (q : Int) + 1 < (d.size : Int) := by omega
          have ryC : IntKind.i64.wrap ((q : Int) + 1) = (q : Int) + 1 := by rw [IntKind.wrap_i64]; omega
          have TC : Aside (SWK benc k w0 blk off (swp dk (q) (q + 1)) ((wr.drew.setCells blk (off + (q) * k) (benc dk[q + 1]!)).setCells blk (off + (q + 1) * k) (benc dk[q]!))) := S1.out.swapped R (q) (q + 1) (by omega) (by omega)
          have lxC := S1.out.ld1 R (by omega) Tryz.prog (q) (by omega)
          have lyC := S1.out.ld1 R (by omega) Tryz.prog (q + 1) (by omega)
          have sxC := S1.out.st1 R (by omega) Tryz.prog (q) (by omega) dk[q + 1]!
          have syC := S1.out.st2 R (by omega) Tryz.prog (q) (q + 1) (by omega) (by omega) dk[q + 1]! dk[q]!
          have nxC : (benc dk[q]!).length = k := R.hk _
          have nyC : (benc dk[q + 1]!).length = k := R.hk _
          generalize benc dk[q]! = cI at TC lxC syC nxC
          generalize benc dk[q + 1]! = cJ at TC lyC sxC syC nyC
          clear S1
          go_wp2_with fail
          go_big_region_o
          clear lxC lyC sxC syC
          generalize (wr.drew.setCells blk (off + (q) * k) cJ).setCells blk (off + (q + 1) * k) cI = wC at TC ⊢
          go_wp2
          go_roundg (i - (q + 1))
          case measure => omega
          case rel => exact ⟨q + 1, swp dk q (q + 1), by go_num, by omega, by omega, by omega, by rw [size_swp]; exact hds, RotR.up HR.out haq (by omega), permIn_trans _ _ _ _ _ HP.out (swp_permIn dk a b q (q + 1) (by omega) (by omega) (by omega) (by omega) (by omega)), TC⟩
        · obtain rfl : i = q + 1 := by omega
          go_wp2
          (try simp only [Exit.inBlock, Exit.then]); refine bodyPost_ret (results_none rfl _ _ _) rfl ?_
          obtain rfl := M1.out
          exact ⟨rfl, dk, HP.out, one_up blt_swo H2.out hmi hjb I.out.1 I.out.2 HR.out, S1.out⟩

set_option maxHeartbeats 32000000 in
set_option maxRecDepth 1000000 in
/-- One element stands right. -/
theorem symMerge_right (k : Nat) (zE : ∀ w, (Go.sizeOf 269).run Tryz.prog w = .ok k w) (blk off cap : Nat) (d0 : Array Bk) (w0 : World) (R : RowK benc k w0 blk off d0) (hcmp : CmpLays Tryz.prog 279 #[] benc k bcf blk off d0.size w0)
    (a m b : Nat) (d : Array Bk) (w : World) (hs : d0.size = d.size) (S : SWK benc k w0 blk off d w) (ham : a < m) (hmb : m < b) (hb : b ≤ d.size) (hsz : d.size ≤ 100000) (h1 : SortedIn blt a m d) (h2 : SortedIn blt m b d) (hm1 : ¬ m = a + 1) (hb1 : b = m + 1) :
    Calls Tryz.prog 317 #[.slice (some ⟨blk, off, none⟩) d.size cap, .int .i64 a, .int .i64 m, .int .i64 b, byStartV] w fun e w' => e = .returned (.tuple #[]) ∧ ∃ d', PermIn a b d d' ∧ SortedIn blt a b d' ∧ SWK benc k w0 blk off d' w' := by
  have mixed : Tryz.prog.follows Departure.mixedOrders = true := by kernel_rfl
  have eg : ∀ args w, (callFunc 279 args).run Tryz.prog w = .ok (.enter 279 args) w := enters_of Tryz.func279 (by kernel_rfl) rfl
  have HC : Aside _ := hcmp
  clear hcmp
  have S0 : Aside (SWK benc k w0 blk off d w) := S
  have H1 : Aside (SortedIn blt a m d) := h1
  have H2 : Aside (SortedIn blt m b d) := h2
  clear S h1 h2
  have n1 : ((m : Int) - (a : Int) == 1) = false := beq_eq_false_iff_ne.2 (by omega)
  have z1 : (b : Int) - (m : Int) = 1 := by omega
  have B1 := Hid.of hb1
  clear hb1
  go_enter Tryz.func317, Tryz.ntmps317
  go_wp2
  go_loopg [14, 15] (m - a) (fun kx s10 s11 wr => ∃ i j : Nat, s10 = .int .i64 i ∧ s11 = .int .i64 j ∧ a ≤ i ∧ i ≤ j ∧ j ≤ m ∧ j - i ≤ kx ∧ Aside (SWK benc k w0 blk off d wr) ∧ Aside ((i = a ∨ blt d[m]! d[i - 1]! = false) ∧ (j = m ∨ blt d[m]! d[j]! = true)))
  case atStart => exact ⟨a, m, rfl, rfl, Nat.le_refl _, by omega, Nat.le_refl _, Nat.le_refl _, S0, .inl rfl, .inl rfl⟩
  case round =>
    clear S0
    obtain ⟨i, j, rfl, rfl, hmi, hij, hjb, hkx, S1, I⟩ := hrel
    by_cases hlt : (i : Int) < (j : Int)
    · obtain ⟨c, hc⟩ : ∃ c : Nat, ((i : Int) + (j : Int)) / 2 = (c : Int) := ⟨(i + j) / 2, by omega⟩
      have hc1 : i ≤ c := by omega
      have hc2 : c < j := by omega
      obtain ⟨dk, hdk⟩ : ∃ dk, dk = d := ⟨_, rfl⟩
      have hds : dk.size = d.size := by rw [hdk]
      rw [← hdk] at S1
      cases HV : blt dk[m]! dk[c]! with
      | false =>
        have exA : ((m : Int)).toNat = m := by omega
        have pxA : (0 : Int) ≤ (m : Int) := by omega
        have bxA : (m : Int) < (d.size : Int) := by omega
        have rxA : IntKind.i64.wrap ((m : Int)) = (m : Int) := by rw [IntKind.wrap_i64]; omega
        have eyA : ((c : Int)).toNat = c := by omega
        have pyA : (0 : Int) ≤ (c : Int) := by omega
        have byA : (c : Int) < (d.size : Int) := by omega
        have ryA : IntKind.i64.wrap ((c : Int)) = (c : Int) := by rw [IntKind.wrap_i64]; omega
        obtain ⟨uA, huA⟩ : ∃ x, x = dk[m]! := ⟨_, rfl⟩
        obtain ⟨vA, hvA⟩ : ∃ x, x = dk[c]! := ⟨_, rfl⟩
        have lxA := S1.out.ld R (by omega) Tryz.prog (m) (by omega)
        have lyA := S1.out.ld R (by omega) Tryz.prog (c) (by omega)
        rw [← huA] at lxA
        rw [← hvA] at lyA
        have hcA := S1.out.cmp HC.out (by omega) uA vA
        have nvA : ¬ bcf uA vA < 0 := by rw [huA, hvA]; exact of_decide_eq_false HV
        have dvA : decide (bcf uA vA < 0) = false := decide_eq_false nvA
        have HVA := Hid.of HV
        clear huA hvA HV
        go_wp2_with fail
        go_quiet_grown (first | (go_at_fn 279; refine Calls.grown_of (hcA _ _)))
        have TA : Aside (SWK benc k w0 blk off dk (grow (wr.drewN nq) osq)) := S1.out.grown nq osq
        clear lxA lyA hcA S1
        generalize grow (wr.drewN nq) osq = wA at TA ⊢
        clear nq osq
        go_wp2
        go_roundg (j - (c + 1))
        case measure => omega
        case rel => exact ⟨c + 1, j, by go_num, rfl, by omega, by omega, hjb, Nat.le_refl _, by rw [← hdk]; exact TA, .inr (by rw [← hdk]; exact HVA.out), I.out.2⟩
      | true =>
        have exB : ((m : Int)).toNat = m := by omega
        have pxB : (0 : Int) ≤ (m : Int) := by omega
        have bxB : (m : Int) < (d.size : Int) := by omega
        have rxB : IntKind.i64.wrap ((m : Int)) = (m : Int) := by rw [IntKind.wrap_i64]; omega
        have eyB : ((c : Int)).toNat = c := by omega
        have pyB : (0 : Int) ≤ (c : Int) := by omega
        have byB : (c : Int) < (d.size : Int) := by omega
        have ryB : IntKind.i64.wrap ((c : Int)) = (c : Int) := by rw [IntKind.wrap_i64]; omega
        obtain ⟨uB, huB⟩ : ∃ x, x = dk[m]! := ⟨_, rfl⟩
        obtain ⟨vB, hvB⟩ : ∃ x, x = dk[c]! := ⟨_, rfl⟩
        have lxB := S1.out.ld R (by omega) Tryz.prog (m) (by omega)
        have lyB := S1.out.ld R (by omega) Tryz.prog (c) (by omega)
        rw [← huB] at lxB
        rw [← hvB] at lyB
        have hcB := S1.out.cmp HC.out (by omega) uB vB
        have nvB : bcf uB vB < 0 := by rw [huB, hvB]; exact of_decide_eq_true HV
        have dvB : decide (bcf uB vB < 0) = true := decide_eq_true nvB
        have HVB := Hid.of HV
        clear huB hvB HV
        go_wp2_with fail
        go_quiet_grown (first | (go_at_fn 279; refine Calls.grown_of (hcB _ _)))
        have TB : Aside (SWK benc k w0 blk off dk (grow (wr.drewN nq) osq)) := S1.out.grown nq osq
        clear lxB lyB hcB S1
        generalize grow (wr.drewN nq) osq = wB at TB ⊢
        clear nq osq
        go_wp2
        go_roundg (c - i)
        case measure => omega
        case rel => exact ⟨i, c, rfl, rfl, hmi, hc1, by omega, Nat.le_refl _, by rw [← hdk]; exact TB, I.out.1, .inr (by rw [← hdk]; exact HVB.out)⟩
    · obtain rfl : i = j := by omega
      go_wp2
      go_loopg [17] (m - i) (fun kx s17 wr => ∃ (q : Nat) (dk : Array Bk), s17 = .int .i64 q ∧ i ≤ q ∧ q ≤ m ∧ q - i ≤ kx ∧ dk.size = d.size ∧ Aside (RotR q m (m + 1) d dk) ∧ Aside (PermIn a b d dk) ∧ Aside (SWK benc k w0 blk off dk wr))
      case atStart => exact ⟨m, d, rfl, hjb, Nat.le_refl _, by omega, rfl, RotR.refl_left m (m + 1) d, permIn_refl d a b, S1⟩
      case round =>
        clear S1
        obtain ⟨q, dk, rfl, haq, hqi, hkq, hds, HR, HP, S1⟩ := hrel
        by_cases hq : (q : Int) > (i : Int)
        · obtain ⟨p, hp⟩ : ∃ p : Nat, (q : Int) - 1 = (p : Int) := ⟨q - 1, by omega⟩
          have exC : ((q : Int)).toNat = q := by omega
          have pxC : (0 : Int) ≤ (q : Int) := by omega
          have bxC : (q : Int) < (d.size : Int) := by omega
          have rxC : IntKind.i64.wrap ((q : Int)) = (q : Int) := by rw [IntKind.wrap_i64]; omega
          have eyC : ((p : Int)).toNat = p := by omega
          have pyC : (0 : Int) ≤ (p : Int) := by omega
          have byC : (p : Int) < (d.size : Int) := by omega
          have ryC : IntKind.i64.wrap ((p : Int)) = (p : Int) := by rw [IntKind.wrap_i64]; omega
          have TC : Aside (SWK benc k w0 blk off (swp dk (q) (p)) ((wr.drew.setCells blk (off + (q) * k) (benc dk[p]!)).setCells blk (off + (p) * k) (benc dk[q]!))) := S1.out.swapped R (q) (p) (by omega) (by omega)
          have lxC := S1.out.ld1 R (by omega) Tryz.prog (q) (by omega)
          have lyC := S1.out.ld1 R (by omega) Tryz.prog (p) (by omega)
          have sxC := S1.out.st1 R (by omega) Tryz.prog (q) (by omega) dk[p]!
          have syC := S1.out.st2 R (by omega) Tryz.prog (q) (p) (by omega) (by omega) dk[p]! dk[q]!
          have nxC : (benc dk[q]!).length = k := R.hk _
          have nyC : (benc dk[p]!).length = k := R.hk _
          generalize benc dk[q]! = cI at TC lxC syC nxC
          generalize benc dk[p]! = cJ at TC lyC sxC syC nyC
          clear S1
          go_wp2_with fail
          go_big_region_o
          clear lxC lyC sxC syC
          generalize (wr.drew.setCells blk (off + (q) * k) cJ).setCells blk (off + (p) * k) cI = wC at TC ⊢
          go_wp2
          go_roundg (p - i)
          case measure => omega
          case rel =>
            obtain rfl : q = p + 1 := by omega
            exact ⟨p, swp dk (p + 1) p, by go_num, by omega, by omega, Nat.le_refl _, by rw [size_swp]; exact hds, RotR.down HR.out (by omega) (by omega), permIn_trans _ _ _ _ _ HP.out (swp_permIn dk a b (p + 1) p (by omega) (by omega) (by omega) (by omega) (by omega)), TC⟩
        · obtain rfl : q = i := by omega
          go_wp2
          (try simp only [Exit.inBlock, Exit.then]); refine bodyPost_ret (results_none rfl _ _ _) rfl ?_
          obtain rfl := B1.out
          exact ⟨rfl, dk, HP.out, one_down blt_swo H1.out hmi hqi I.out.1 I.out.2 HR.out, S1.out⟩

set_option maxHeartbeats 32000000 in
set_option maxRecDepth 1000000 in
/-- Neither. -/
theorem symMerge_mid (k : Nat) (zE : ∀ w, (Go.sizeOf 269).run Tryz.prog w = .ok k w) (blk off cap : Nat) (d0 : Array Bk) (w0 : World) (R : RowK benc k w0 blk off d0) (hcmp : CmpLays Tryz.prog 279 #[] benc k bcf blk off d0.size w0)
    (a m b : Nat) (d : Array Bk) (w : World) (hs : d0.size = d.size) (S : SWK benc k w0 blk off d w) (ham : a < m) (hmb : m < b) (hb : b ≤ d.size) (hsz : d.size ≤ 100000) (h1 : SortedIn blt a m d) (h2 : SortedIn blt m b d) (hm1 : ¬ m = a + 1) (hb1 : ¬ b = m + 1) (N : Nat) (hN : b - a < N + 1)
    (ih : ∀ (a m b : Nat) (d : Array Bk) (w : World), b - a < N → d0.size = d.size → SWK benc k w0 blk off d w → a < m → m < b → b ≤ d.size → d.size ≤ 100000 → SortedIn blt a m d → SortedIn blt m b d →
    Calls Tryz.prog 317 #[.slice (some ⟨blk, off, none⟩) d.size cap, .int .i64 a, .int .i64 m, .int .i64 b, byStartV] w fun e w' => e = .returned (.tuple #[]) ∧ ∃ d', PermIn a b d d' ∧ SortedIn blt a b d' ∧ SWK benc k w0 blk off d' w' ) :
    Calls Tryz.prog 317 #[.slice (some ⟨blk, off, none⟩) d.size cap, .int .i64 a, .int .i64 m, .int .i64 b, byStartV] w fun e w' => e = .returned (.tuple #[]) ∧ ∃ d', PermIn a b d d' ∧ SortedIn blt a b d' ∧ SWK benc k w0 blk off d' w' := by
  have mixed : Tryz.prog.follows Departure.mixedOrders = true := by kernel_rfl
  have eg : ∀ args w, (callFunc 279 args).run Tryz.prog w = .ok (.enter 279 args) w := enters_of Tryz.func279 (by kernel_rfl) rfl
  have HC : Aside _ := hcmp
  clear hcmp
  have S0 : Aside (SWK benc k w0 blk off d w) := S
  have H1 : Aside (SortedIn blt a m d) := h1
  have H2 : Aside (SortedIn blt m b d) := h2
  clear S h1 h2
  have IH : Aside _ := ih
  clear ih
  have n1 : ((m : Int) - (a : Int) == 1) = false := beq_eq_false_iff_ne.2 (by omega)
  have n2 : ((b : Int) - (m : Int) == 1) = false := beq_eq_false_iff_ne.2 (by omega)
  obtain ⟨mid, hmid⟩ : ∃ c : Nat, ((a : Int) + (b : Int)) / 2 = (c : Int) := ⟨(a + b) / 2, by omega⟩
  have hmid1 : a + 1 < mid := by omega
  have hmid2 : mid + 1 < b := by omega
  clear hm1 hb1
  go_enter Tryz.func317, Tryz.ntmps317
  go_upto_if 140 with fail
  go_cut [20, 21] from 138 to 146 (fun s20 s21 wc => ∃ st r0 : Nat, s20 = .int .i64 st ∧ s21 = .int .i64 r0 ∧ a ≤ st ∧ st ≤ r0 ∧ r0 ≤ m ∧ r0 ≤ mid ∧ mid + m ≤ b + st ∧ Aside (st = a ∨ mid + m - st = b) ∧ Aside (r0 = m ∨ r0 = mid) ∧ wc = w)
  case first =>
    by_cases hmm : (m : Int) > (mid : Int)
    · go_wp2_with fail
      go_meet
      case rel => exact ⟨mid + m - b, mid, by go_num, rfl, by omega, by omega, by omega, Nat.le_refl _, by omega, .inr (by omega), .inr rfl, rfl⟩
    · go_wp2_with fail
      go_meet
      case rel => exact ⟨a, m, rfl, rfl, Nat.le_refl _, by omega, Nat.le_refl _, by omega, by omega, .inl rfl, .inl rfl, rfl⟩
  case rest =>
    obtain ⟨st, r0, rfl, rfl, hst1, hst2, hr1, hr2, hst3, ST, RZ, rfl⟩ := hcut
    go_wp2
    go_loopg [20, 21] (r0 - st) (fun kx s20 s21 wr => ∃ s r : Nat, s20 = .int .i64 s ∧ s21 = .int .i64 r ∧ st ≤ s ∧ s ≤ r ∧ r ≤ r0 ∧ r - s ≤ kx ∧ Aside (SWK benc k w0 blk off d wr) ∧ Aside ((s = st ∨ blt d[mid + m - s]! d[s - 1]! = false) ∧ (r = r0 ∨ blt d[mid + m - 1 - r]! d[r]! = true)))
    case atStart => exact ⟨st, r0, rfl, rfl, Nat.le_refl _, hst2, Nat.le_refl _, Nat.le_refl _, S0, .inl rfl, .inl rfl⟩
    case round =>
      clear S0
      obtain ⟨s, r, rfl, rfl, hs1, hsr, hrr, hkx, S1, I⟩ := hrel
      by_cases hlt : (s : Int) < (r : Int)
      · obtain ⟨c, hc⟩ : ∃ c : Nat, ((s : Int) + (r : Int)) / 2 = (c : Int) := ⟨(s + r) / 2, by omega⟩
        have hc1 : s ≤ c := by omega
        have hc2 : c < r := by omega
        obtain ⟨q, hq⟩ : ∃ q : Nat, (mid : Int) + (m : Int) - 1 - (c : Int) = (q : Int) := ⟨mid + m - 1 - c, by omega⟩
        obtain ⟨dk, hdk⟩ : ∃ dk, dk = d := ⟨_, rfl⟩
        have hds : dk.size = d.size := by rw [hdk]
        rw [← hdk] at S1
        cases HV : blt dk[q]! dk[c]! with
        | false =>
          have exA : ((q : Int)).toNat = q := by omega
          have pxA : (0 : Int) ≤ (q : Int) := by omega
          have bxA : (q : Int) < (d.size : Int) := by omega
          have rxA : IntKind.i64.wrap ((q : Int)) = (q : Int) := by rw [IntKind.wrap_i64]; omega
          have eyA : ((c : Int)).toNat = c := by omega
          have pyA : (0 : Int) ≤ (c : Int) := by omega
          have byA : (c : Int) < (d.size : Int) := by omega
          have ryA : IntKind.i64.wrap ((c : Int)) = (c : Int) := by rw [IntKind.wrap_i64]; omega
          obtain ⟨uA, huA⟩ : ∃ x, x = dk[q]! := ⟨_, rfl⟩
          obtain ⟨vA, hvA⟩ : ∃ x, x = dk[c]! := ⟨_, rfl⟩
          have lxA := S1.out.ld R (by omega) Tryz.prog (q) (by omega)
          have lyA := S1.out.ld R (by omega) Tryz.prog (c) (by omega)
          rw [← huA] at lxA
          rw [← hvA] at lyA
          have hcA := S1.out.cmp HC.out (by omega) uA vA
          have nvA : ¬ bcf uA vA < 0 := by rw [huA, hvA]; exact of_decide_eq_false HV
          have dvA : decide (bcf uA vA < 0) = false := decide_eq_false nvA
          have HVA := Hid.of HV
          clear huA hvA HV
          go_wp2_with fail
          go_quiet_grown (first | (go_at_fn 279; refine Calls.grown_of (hcA _ _)))
          have TA : Aside (SWK benc k w0 blk off dk (grow (wr.drewN nq) osq)) := S1.out.grown nq osq
          clear lxA lyA hcA S1
          generalize grow (wr.drewN nq) osq = wA at TA ⊢
          clear nq osq
          go_wp2
          go_roundg (r - (c + 1))
          case measure => omega
          case rel => exact ⟨c + 1, r, by go_num, rfl, by omega, by omega, hrr, Nat.le_refl _, by rw [← hdk]; exact TA, .inr (by rw [← hdk, show mid + m - (c + 1) = q by omega]; exact HVA.out), I.out.2⟩
        | true =>
          have exB : ((q : Int)).toNat = q := by omega
          have pxB : (0 : Int) ≤ (q : Int) := by omega
          have bxB : (q : Int) < (d.size : Int) := by omega
          have rxB : IntKind.i64.wrap ((q : Int)) = (q : Int) := by rw [IntKind.wrap_i64]; omega
          have eyB : ((c : Int)).toNat = c := by omega
          have pyB : (0 : Int) ≤ (c : Int) := by omega
          have byB : (c : Int) < (d.size : Int) := by omega
          have ryB : IntKind.i64.wrap ((c : Int)) = (c : Int) := by rw [IntKind.wrap_i64]; omega
          obtain ⟨uB, huB⟩ : ∃ x, x = dk[q]! := ⟨_, rfl⟩
          obtain ⟨vB, hvB⟩ : ∃ x, x = dk[c]! := ⟨_, rfl⟩
          have lxB := S1.out.ld R (by omega) Tryz.prog (q) (by omega)
          have lyB := S1.out.ld R (by omega) Tryz.prog (c) (by omega)
          rw [← huB] at lxB
          rw [← hvB] at lyB
          have hcB := S1.out.cmp HC.out (by omega) uB vB
          have nvB : bcf uB vB < 0 := by rw [huB, hvB]; exact of_decide_eq_true HV
          have dvB : decide (bcf uB vB < 0) = true := decide_eq_true nvB
          have HVB := Hid.of HV
          clear huB hvB HV
          go_wp2_with fail
          go_quiet_grown (first | (go_at_fn 279; refine Calls.grown_of (hcB _ _)))
          have TB : Aside (SWK benc k w0 blk off dk (grow (wr.drewN nq) osq)) := S1.out.grown nq osq
          clear lxB lyB hcB S1
          generalize grow (wr.drewN nq) osq = wB at TB ⊢
          clear nq osq
          go_wp2
          go_roundg (c - s)
          case measure => omega
          case rel => exact ⟨s, c, rfl, rfl, hs1, hc1, by omega, Nat.le_refl _, by rw [← hdk]; exact TB, I.out.1, .inr (by rw [← hdk, show mid + m - 1 - c = q by omega]; exact HVB.out)⟩
      · obtain rfl : s = r := by omega
        obtain ⟨e, he⟩ : ∃ e : Nat, (mid : Int) + (m : Int) - (s : Int) = (e : Int) := ⟨mid + m - s, by omega⟩
        have CUT : Aside (CutAt blt a m b mid s e d) := ⟨by omega, by omega, by omega, by omega, by omega, by omega, by omega, by
            rcases I.out.1 with c | c
            · rcases ST.out with c2 | c2
              · exact .inl (by omega)
              · exact .inr (.inl (by omega))
            · exact .inr (.inr (by rw [show e = mid + m - s by omega]; exact c)), by
            rcases I.out.2 with c | c
            · rcases RZ.out with c2 | c2
              · exact .inl (by omega)
              · exact .inr (.inl (by omega))
            · exact .inr (.inr (by rw [show e - 1 = mid + m - 1 - s by omega]; exact c))⟩
        clear I ST RZ
        have he1 : m ≤ e := by omega
        have he2 : mid ≤ e := by omega
        have he3 : e ≤ b := by omega
        have hsm : s ≤ mid := by omega
        obtain ⟨c1, hc1⟩ : ∃ c1, decide (s < m ∧ m < e) = c1 := ⟨_, rfl⟩
        have C1 := Hid.of hc1
        clear hc1
        go_upto_region 39 with fail
        go_cut [185] from 178 to 185 (fun bv wx => bv = .bool c1 ∧ wx = wr)
        case first =>
          have hex : (¬ (s : Int) < (m : Int)) ∨ ((s : Int) < (m : Int) ∧ ¬ (m : Int) < (e : Int)) ∨ ((s : Int) < (m : Int) ∧ (m : Int) < (e : Int)) := by omega
          rcases hex with g1 | ⟨g1, g2⟩ | ⟨g1, g2⟩
          · go_wp2_with fail
            go_meet
            case rel => exact ⟨congrArg Value.bool (by rw [← C1.out]; exact (decide_eq_false (by omega)).symm), rfl⟩
          · go_wp2_with fail
            go_meet
            case rel => exact ⟨congrArg Value.bool (by rw [← C1.out]; exact (decide_eq_false (by omega)).symm), rfl⟩
          · go_wp2_with fail
            go_meet
            case rel => exact ⟨congrArg Value.bool (by rw [← C1.out]; exact (decide_eq_true (by omega)).symm), rfl⟩
        case rest =>
          obtain ⟨rfl, rfl⟩ := hcut
          go_upto_if 185 with fail
          go_cut [] from 178 to 191 (fun wx => ∃ d1, Aside (RotR s m e d d1) ∧ Aside (PermIn a b d d1) ∧ Aside (SWK benc k w0 blk off d1 wx))
          case first =>
            cases c1 with
            | false =>
              have hno := of_decide_eq_false C1.out
              go_wp2_with fail
              go_meet
              case rel => exact ⟨d, (by
                  rcases Nat.lt_or_ge s m with h | h
                  · obtain rfl : e = m := by omega
                    exact RotR.refl_right s e d
                  · obtain rfl : s = m := by omega
                    exact RotR.refl_left s e d : RotR s m e d d), permIn_refl d a b, S1⟩
            | true =>
              obtain ⟨hy1, hy2⟩ := of_decide_eq_true C1.out
              have hrot := rotate_any k zE byStartV blk off cap s m e d0 d w0 wc R hs S1.out hy1 hy2 (by omega) hsz
              go_wp2_with (go_at_call 330; refine hrot.mono ?_; rintro e' w2 ⟨rfl, d1, g1, g2, g3⟩)
              go_meet
              case rel => exact ⟨d1, g1, permIn_mono _ _ _ _ _ _ (by omega) he3 hb g2, g3⟩
          case rest =>
            obtain ⟨d1, HR, HP, S3⟩ := hcut
            have z1 : d1.size = d.size := HR.out.1
            have PARTS := Hid.of (CutAt.parts blt_swo CUT.out H1.out H2.out HR.out)
            clear CUT H1 H2 S1 C1
            obtain ⟨c2, hc2⟩ : ∃ c2, decide (a < s ∧ s < mid) = c2 := ⟨_, rfl⟩
            have C2 := Hid.of hc2
            clear hc2
            go_upto_region 41 with fail
            go_cut [199] from 192 to 199 (fun bv wx => bv = .bool c2 ∧ wx = wc)
            case first =>
              have hex : (¬ (a : Int) < (s : Int)) ∨ ((a : Int) < (s : Int) ∧ ¬ (s : Int) < (mid : Int)) ∨ ((a : Int) < (s : Int) ∧ (s : Int) < (mid : Int)) := by omega
              rcases hex with g1 | ⟨g1, g2⟩ | ⟨g1, g2⟩
              · go_wp2_with fail
                go_meet
                case rel => exact ⟨congrArg Value.bool (by rw [← C2.out]; exact (decide_eq_false (by omega)).symm), rfl⟩
              · go_wp2_with fail
                go_meet
                case rel => exact ⟨congrArg Value.bool (by rw [← C2.out]; exact (decide_eq_false (by omega)).symm), rfl⟩
              · go_wp2_with fail
                go_meet
                case rel => exact ⟨congrArg Value.bool (by rw [← C2.out]; exact (decide_eq_true (by omega)).symm), rfl⟩
            case rest =>
              obtain ⟨rfl, rfl⟩ := hcut
              go_upto_if 199 with fail
              go_cut [] from 192 to 205 (fun wx => ∃ d2, Aside (PermIn a mid d1 d2) ∧ Aside (SortedIn blt a mid d2) ∧ Aside (SWK benc k w0 blk off d2 wx))
              case first =>
                cases c2 with
                | false =>
                  have hno := of_decide_eq_false C2.out
                  go_wp2_with fail
                  go_meet
                  case rel => exact ⟨d1, permIn_refl d1 a mid, (by
                      rcases Nat.lt_or_ge a s with h | h
                      · obtain rfl : s = mid := by omega
                        exact PARTS.out.1
                      · obtain rfl : s = a := by omega
                        exact PARTS.out.2.1 : SortedIn blt a mid d1), S3⟩
                | true =>
                  obtain ⟨hy1, hy2⟩ := of_decide_eq_true C2.out
                  have hm := IH.out a s mid d1 wc (by omega) (by omega) S3.out hy1 hy2 (by omega) (by omega) PARTS.out.1 PARTS.out.2.1
                  rw [z1] at hm
                  go_wp2_with (go_at_call 317; refine hm.mono ?_; rintro e' w2 ⟨rfl, d2, g1, g2, g3⟩)
                  go_meet
                  case rel => exact ⟨d2, g1, g2, g3⟩
              case rest =>
                obtain ⟨d2, HP2, HS2, S4⟩ := hcut
                have z2 : d2.size = d1.size := HP2.out.1
                clear S3 C2
                have hR1 : SortedIn blt mid e d2 := in_same PARTS.out.2.2.1 (fun t ht _ => HP2.out.2.1 t (.inr ht))
                have hR2 : SortedIn blt e b d2 := in_same PARTS.out.2.2.2.1 (fun t ht _ => HP2.out.2.1 t (.inr (by omega)))
                have HR1 := Hid.of hR1
                have HR2 := Hid.of hR2
                clear hR1 hR2
                have hend : ∀ d3, PermIn mid b d2 d3 → SortedIn blt mid b d3 → PermIn a b d d3 ∧ SortedIn blt a b d3 := fun d3 h3 h4 => by
                  obtain ⟨q1, q2⟩ := halves (by omega) (by omega) (by omega) HP2.out h3 HS2.out h4 PARTS.out.2.2.2.2
                  exact ⟨permIn_trans _ _ _ _ _ HP.out q2, q1⟩
                have HEND := Hid.of hend
                clear hend
                obtain ⟨c3, hc3⟩ : ∃ c3, decide (mid < e ∧ e < b) = c3 := ⟨_, rfl⟩
                have C3 := Hid.of hc3
                clear hc3
                go_upto_region 43 with fail
                go_cut [213] from 206 to 213 (fun bv wx => bv = .bool c3 ∧ wx = wc)
                case first =>
                  have hex : (¬ (mid : Int) < (e : Int)) ∨ ((mid : Int) < (e : Int) ∧ ¬ (e : Int) < (b : Int)) ∨ ((mid : Int) < (e : Int) ∧ (e : Int) < (b : Int)) := by omega
                  rcases hex with g1 | ⟨g1, g2⟩ | ⟨g1, g2⟩
                  · go_wp2_with fail
                    go_meet
                    case rel => exact ⟨congrArg Value.bool (by rw [← C3.out]; exact (decide_eq_false (by omega)).symm), rfl⟩
                  · go_wp2_with fail
                    go_meet
                    case rel => exact ⟨congrArg Value.bool (by rw [← C3.out]; exact (decide_eq_false (by omega)).symm), rfl⟩
                  · go_wp2_with fail
                    go_meet
                    case rel => exact ⟨congrArg Value.bool (by rw [← C3.out]; exact (decide_eq_true (by omega)).symm), rfl⟩
                case rest =>
                  obtain ⟨rfl, rfl⟩ := hcut
                  cases c3 with
                  | false =>
                    have hno := of_decide_eq_false C3.out
                    go_wp2
                    go_end0
                    obtain ⟨q1, q2⟩ := HEND.out d2 (permIn_refl d2 mid b) (by
                      rcases Nat.lt_or_ge mid e with h | h
                      · obtain rfl : e = b := by omega
                        exact HR1.out
                      · obtain rfl : e = mid := by omega
                        exact HR2.out)
                    exact ⟨rfl, d2, q1, q2, S4.out⟩
                  | true =>
                    obtain ⟨hy1, hy2⟩ := of_decide_eq_true C3.out
                    have hm := IH.out mid e b d2 wc (by omega) (by omega) S4.out hy1 hy2 (by omega) (by omega) HR1.out HR2.out
                    rw [z2, z1] at hm
                    go_wp2_with (go_at_call 317; refine hm.mono ?_; rintro e' w2 ⟨rfl, d3, g1, g2, g3⟩)
                    go_end0
                    obtain ⟨q1, q2⟩ := HEND.out d3 g1 g2
                    exact ⟨rfl, d3, q1, q2, g3⟩

theorem symMerge_all (k : Nat) (zE : ∀ w, (Go.sizeOf 269).run Tryz.prog w = .ok k w) (blk off cap : Nat) (d0 : Array Bk) (w0 : World) (R : RowK benc k w0 blk off d0) (hcmp : CmpLays Tryz.prog 279 #[] benc k bcf blk off d0.size w0) :
    ∀ N : Nat, ∀ (a m b : Nat) (d : Array Bk) (w : World), b - a < N → d0.size = d.size → SWK benc k w0 blk off d w → a < m → m < b → b ≤ d.size → d.size ≤ 100000 → SortedIn blt a m d → SortedIn blt m b d →
    Calls Tryz.prog 317 #[.slice (some ⟨blk, off, none⟩) d.size cap, .int .i64 a, .int .i64 m, .int .i64 b, byStartV] w fun e w' => e = .returned (.tuple #[]) ∧ ∃ d', PermIn a b d d' ∧ SortedIn blt a b d' ∧ SWK benc k w0 blk off d' w' := by
  intro N
  induction N with
  | zero => intro _ _ _ _ _ h; exact absurd h (Nat.not_lt_zero _)
  | succ N ih =>
    intro a m b d w hN hs S ham hmb hb hsz h1 h2
    by_cases hm1 : m = a + 1
    · exact symMerge_left k zE blk off cap d0 w0 R hcmp a m b d w hs S ham hmb hb hsz h1 h2 hm1
    · by_cases hb1 : b = m + 1
      · exact symMerge_right k zE blk off cap d0 w0 R hcmp a m b d w hs S ham hmb hb hsz h1 h2 hm1 hb1
      · exact symMerge_mid k zE blk off cap d0 w0 R hcmp a m b d w hs S ham hmb hb hsz h1 h2 hm1 hb1 N hN ih

theorem symMerge_any (blk off cap a m b : Nat) (d0 d : Array Bk) (w0 w : World) (R : RowK benc 6 w0 blk off d0) (hs : d0.size = d.size) (S : SWK benc 6 w0 blk off d w) (ham : a < m) (hmb : m < b) (hb : b ≤ d.size) (hsz : d.size ≤ 100000) (h1 : SortedIn blt a m d) (h2 : SortedIn blt m b d) :
    Calls Tryz.prog 317 #[.slice (some ⟨blk, off, none⟩) d.size cap, .int .i64 a, .int .i64 m, .int .i64 b, byStartV] w fun e w' => e = .returned (.tuple #[]) ∧ ∃ d', PermIn a b d d' ∧ SortedIn blt a b d' ∧ SWK benc 6 w0 blk off d' w' :=
  symMerge_all 6 Tryz.sizeOf269 blk off cap d0 w0 R (byStart_lays blk off d0.size w0) (b - a + 1) a m b d w (by omega) hs S ham hmb hb hsz h1 h2

end Go.Proofs.YtbhcafginmkaaaaGreat

namespace Go.Proofs.YtbhcafginmkaaaaGreat
open Go.RowKit Go.Lib Go.Sort

/-- A call's contract, whatever way its two ints are put. -/
theorem call_at2 {P : Program} {f : Nat} {s v : Value} {a b : Int} {w : World} {R : Ending → World → Prop} (h : Calls P f #[s, .int .i64 a, .int .i64 b, v] w R) (x y : Int) (hx : x = a) (hy : y = b) : Calls P f #[s, .int .i64 x, .int .i64 y, v] w R := by
  subst hx hy
  exact h

theorem runs_start {n A x : Nat} {d d' : Array Bk} (hx : x = A * 20) (h : ∀ q, q < A → SortedIn blt (q * 20) (q * 20 + 20) d) (hn : n < x + 20) (hp : PermIn x n d d') (hs : SortedIn blt x n d') : Runs blt 20 n d' := by
  subst hx
  intro q
  rcases Nat.lt_trichotomy q A with c | rfl | c
  · exact in_sub (in_same (h q c) (fun t _ ht => hp.2.1 t (.inl (by omega)))) (Nat.le_refl _) (by omega)
  · exact in_sub hs (Nat.le_refl _) (by omega)
  · exact in_empty _ (by omega)

set_option maxHeartbeats 16000000 in
set_option maxRecDepth 1000000 in
theorem stable_any (blk off cap : Nat) (d : Array Bk) (w : World) (R : RowK benc 6 w blk off d) (hsz : d.size ≤ 10000) :
    Calls Tryz.prog 303 #[.slice (some ⟨blk, off, none⟩) d.size cap, .int .i64 d.size, byStartV] w fun e w' => e = .returned (.tuple #[]) ∧ ∃ d', PermIn 0 d.size d d' ∧ SortedIn blt 0 d.size d' ∧ SWK benc 6 w blk off d' w' := by
  obtain ⟨n, hn⟩ : ∃ n, d.size = n := ⟨_, rfl⟩
  have HN := Hid.of hn
  have HR : Aside _ := R
  have S0 : Aside (SWK benc 6 w blk off d w) := SWK.start R.hH
  rw [hn] at hsz ⊢
  clear hn R
  go_enter Tryz.func303, Tryz.ntmps303
  go_wp2
  -- parts of twenty
  go_loopg [7, 8] n (fun kx s7 s8 wr => ∃ (A x : Nat) (dk : Array Bk), s7 = .int .i64 x ∧ s8 = .int .i64 ((x : Int) + 20) ∧ Hid (x = A * 20) ∧ x ≤ n ∧ n - x ≤ kx ∧ Aside (∀ q, q < A → SortedIn blt (q * 20) (q * 20 + 20) dk) ∧ Aside (PermIn 0 n d dk) ∧ Hid (dk.size = n) ∧ Aside (SWK benc 6 w blk off dk wr))
  case atStart => exact ⟨0, 0, d, rfl, by go_num, Hid.of rfl, by omega, by omega, fun q hq => by omega, permIn_refl d 0 n, HN, S0⟩
  case round =>
    clear S0
    obtain ⟨A, x, dk, rfl, rfl, HX, hA, hkx, HO, HP, HDS, S1⟩ := hrel
    by_cases hlt : (x : Int) + 20 ≤ (n : Int)
    · have hc := insertion_any blk off cap x (x + 20) d dk w wr HR.out (by rw [HN.out, HDS.out]) S1.out (by omega) (by rw [HDS.out]; omega) (by rw [HDS.out]; omega)
      rw [HDS.out] at hc
      have hcc := call_at2 hc
      go_wp2_with (go_at_call 316; refine (hcc _ _ (by omega) (by omega)).mono ?_; rintro e w2 ⟨rfl, d2, g1, g2, g3⟩)
      go_roundg (n - (x + 20))
      case measure => omega
      case rel =>
        refine ⟨A + 1, x + 20, d2, by go_num, by go_num, Hid.of (by have := HX.out; omega), by omega, Nat.le_refl _, fun q hq => ?_, permIn_trans _ _ _ _ _ HP.out (permIn_mono _ _ _ _ _ _ (by omega) (by omega) (by rw [HDS.out]; omega) g1), Hid.of (g1.1.trans HDS.out), g3⟩
        rcases Nat.lt_or_eq_of_le (Nat.le_of_lt_succ hq) with c | rfl
        · exact in_same (HO.out q c) (fun t _ ht => g1.2.1 t (.inl (by have := HX.out; omega)))
        · rw [← HX.out]; exact g2
    · -- what is left over
      have hc := insertion_any blk off cap x n d dk w wr HR.out (by rw [HN.out, HDS.out]) S1.out hA (by rw [HDS.out]; omega) (by rw [HDS.out]; omega)
      rw [HDS.out] at hc
      go_wp2_with (go_at_call 316; refine hc.mono ?_; rintro e w2 ⟨rfl, d2, g1, g2, g3⟩)
      have RU : Aside (Runs blt 20 n d2) := runs_start HX.out HO.out (by omega) g1 g2
      have P2 : Aside (PermIn 0 n d d2) := permIn_trans _ _ _ _ _ HP.out (permIn_mono _ _ _ _ _ _ (by omega) (Nat.le_refl _) (by rw [HDS.out]; omega) g1)
      have Z2 : Hid (d2.size = n) := Hid.of (g1.1.trans HDS.out)
      have S2 : Aside (SWK benc 6 w blk off d2 w2) := g3
      clear g1 g2 g3 HO HP HDS S1 hkx
      -- twice as many at once
      go_loopg [6, 7, 8, 9] n (fun kx s6 _ _ _ wr => ∃ (bs : Nat) (dk : Array Bk), s6 = .int .i64 bs ∧ 20 ≤ bs ∧ bs ≤ 20000 ∧ n - bs ≤ kx ∧ Aside (Runs blt bs n dk) ∧ Aside (PermIn 0 n d dk) ∧ Hid (dk.size = n) ∧ Aside (SWK benc 6 w blk off dk wr))
      case atStart => exact ⟨20, d2, by go_num, Nat.le_refl _, by omega, by omega, RU, P2, Z2, S2⟩
      case round =>
        clear RU P2 Z2 S2
        obtain ⟨bs, dk, rfl, hbs, hbs2, hko, RU, HP, HDS, S1⟩ := hrel
        by_cases hbn : (bs : Int) < (n : Int)
        · go_wp2
          go_loopg [7, 8] n (fun kx s7 s8 wr => ∃ (A x : Nat) (dk : Array Bk), s7 = .int .i64 x ∧ s8 = .int .i64 ((x : Int) + 2 * (bs : Int)) ∧ Hid (x = A * (2 * bs)) ∧ x ≤ n ∧ n - x ≤ kx ∧ Aside (Half blt bs n A dk) ∧ Aside (PermIn 0 n d dk) ∧ Hid (dk.size = n) ∧ Aside (SWK benc 6 w blk off dk wr))
          case atStart => exact ⟨0, 0, dk, rfl, by go_num, Hid.of (by omega), by omega, by omega, Runs.half RU.out, HP, HDS, S1⟩
          case round =>
            clear RU HP HDS S1
            obtain ⟨A, x, dk, rfl, rfl, HX, hA, hkx, HO, HP, HDS, S1⟩ := hrel
            by_cases hlt : (x : Int) + 2 * (bs : Int) ≤ (n : Int)
            · have hc := symMerge_any blk off cap x (x + bs) (x + 2 * bs) d dk w wr HR.out (by rw [HN.out, HDS.out]) S1.out (by omega) (by omega) (by rw [HDS.out]; omega) (by rw [HDS.out]; omega) (by
                  have := HO.out.first (by have := HX.out; omega)
                  rw [← HX.out] at this
                  exact this) (by
                  have := HO.out.second
                  rw [← HX.out] at this
                  exact in_sub this (Nat.le_refl _) (by omega))
              rw [HDS.out] at hc
              have hcc := call_at hc
              go_wp2_with (go_at_call 317; refine (hcc _ _ _ (by omega) (by omega) (by omega)).mono ?_; rintro e w2 ⟨rfl, d2, g1, g2, g3⟩)
              go_roundg (n - (x + 2 * bs))
              case measure => omega
              case rel =>
                refine ⟨A + 1, x + 2 * bs, d2, by go_num, by go_num, Hid.of (by have := HX.out; rw [Nat.add_mul, Nat.one_mul]; omega), by omega, Nat.le_refl _, HO.out.next (by rw [← HX.out]; exact g1) (by rw [← HX.out]; exact g2), permIn_trans _ _ _ _ _ HP.out (permIn_mono _ _ _ _ _ _ (by omega) (by omega) (by rw [HDS.out]; omega) g1), Hid.of (g1.1.trans HDS.out), g3⟩
            · -- what is left over
              by_cases hm : (x : Int) + (bs : Int) < (n : Int)
              · have hc := symMerge_any blk off cap x (x + bs) n d dk w wr HR.out (by rw [HN.out, HDS.out]) S1.out (by omega) (by omega) (by rw [HDS.out]; omega) (by rw [HDS.out]; omega) (by
                    have := HO.out.first (by have := HX.out; omega)
                    rw [← HX.out] at this
                    exact this) (by
                    have := HO.out.second
                    rw [← HX.out] at this
                    exact in_sub this (Nat.le_refl _) (by omega))
                rw [HDS.out] at hc
                have hcc := call_at hc
                go_wp2_with (go_at_call 317; refine (hcc _ _ _ (by omega) (by omega) (by omega)).mono ?_; rintro e w2 ⟨rfl, d2, g1, g2, g3⟩)
                go_roundg (n - 2 * bs)
                case measure => omega
                case rel => exact ⟨2 * bs, d2, by go_num, by omega, by omega, Nat.le_refl _, HO.out.runs (by have := HX.out; omega) (by have := HX.out; omega) (by rw [← HX.out]; exact g1) (by rw [← HX.out]; exact g2), permIn_trans _ _ _ _ _ HP.out (permIn_mono _ _ _ _ _ _ (by omega) (Nat.le_refl _) (by rw [HDS.out]; omega) g1), Hid.of (g1.1.trans HDS.out), g3⟩
              · go_wp2
                go_roundg (n - 2 * bs)
                case measure => omega
                case rel => exact ⟨2 * bs, dk, by go_num, by omega, by omega, Nat.le_refl _, HO.out.runs (by have := HX.out; omega) (by have := HX.out; omega) (permIn_refl _ _ _) (by
                    have := HO.out.left (2 * A) (Nat.le_refl _)
                    rw [two_mul_mul, ← HX.out] at this
                    rw [← HX.out]
                    exact in_sub this (Nat.le_refl _) (by omega)), HP, HDS, S1⟩
        · go_wp2
          go_end0
          exact ⟨rfl, dk, HP.out, RU.out.all (by omega), S1.out⟩

set_option maxHeartbeats 1600000 in
theorem sortStable_any (blk off cap : Nat) (d : Array Bk) (w : World) (R : RowK benc 6 w blk off d) (hsz : d.size ≤ 10000) :
    Calls Tryz.prog 278 #[.slice (some ⟨blk, off, none⟩) d.size cap, byStartV] w fun e w' => e = .returned (.tuple #[]) ∧ ∃ d', PermIn 0 d.size d d' ∧ SortedIn blt 0 d.size d' ∧ SWK benc 6 w blk off d' w' := by
  have hc := stable_any blk off cap d w R hsz
  go_enter Tryz.func278, Tryz.ntmps278
  go_wp2_with (go_at_call 303; refine hc.mono ?_; rintro e w2 ⟨rfl, d2, g1, g2, g3⟩)
  go_end0
  exact ⟨rfl, d2, g1, g2, g3⟩

end Go.Proofs.YtbhcafginmkaaaaGreat
