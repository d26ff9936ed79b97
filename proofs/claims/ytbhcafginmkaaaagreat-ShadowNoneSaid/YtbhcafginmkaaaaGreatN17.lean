/-
  A bundle of texts: TCB TCI.
-/
import Derived.Sort.WalkB2
import Derived.Sort.WalkB12
import Derived.Deep.LoopGhost
import Derived.Test.YtbhcafginmkaaaaGreatN08
import Derived.Test.YtbhcafginmkaaaaGreatN02
namespace Go.Proofs.YtbhcafginmkaaaaGreat
open Go.RowKit Go.Lib Go.Sort

set_option maxHeartbeats 4000000 in
set_option maxRecDepth 1000000 in
theorem swapRange_any (k : Nat) (zE : ∀ w, (Go.sizeOf 269).run Tryz.prog w = .ok k w) (fv : Value) (blk off cap a b n : Nat) (d0 d : Array Bk) (w0 w : World)
    (R : RowK benc k w0 blk off d0) (hs : d0.size = d.size) (S : SWK benc k w0 blk off d w) (hab : a + n ≤ b) (hb : b + n ≤ d.size) (hsz : d.size ≤ 100000) :
    Calls Tryz.prog 336 #[.slice (some ⟨blk, off, none⟩) d.size cap, .int .i64 a, .int .i64 b, .int .i64 n, fv] w fun e w' => e = .returned (.tuple #[]) ∧ ∃ d', SwR a b n d d' ∧ PermIn a (b + n) d d' ∧ SWK benc k w0 blk off d' w' := by
  have mixed : Tryz.prog.follows Departure.mixedOrders = true := by kernel_rfl
  have S0 : Aside (SWK benc k w0 blk off d w) := S
  clear S
  go_enter Tryz.func336, Tryz.ntmps336
  go_wp2
  go_loopg [10] n (fun kx s10 wr => ∃ (i : Nat) (dk : Array Bk), s10 = .int .i64 i ∧ i ≤ n ∧ n - i ≤ kx ∧ Aside (SwR a b i d dk) ∧ Aside (PermIn a (b + n) d dk) ∧ dk.size = d.size ∧ Aside (SWK benc k w0 blk off dk wr))
  case atStart => exact ⟨0, d, rfl, by omega, by omega, SwR.zero a b d, permIn_refl d a (b + n), rfl, S0⟩
  case round =>
    clear S0
    obtain ⟨i, dk, rfl, hi, hkx, HW, HP, hds, S1⟩ := hrel
    by_cases hlt : (i : Int) < (n : Int)
    · go_wp2_with fail
      have ea : ((a : Int) + (i : Int)).toNat = a + i := by omega
      have pa : (0 : Int) ≤ (a : Int) + (i : Int) := by omega
      have ba : (a : Int) + (i : Int) < (d.size : Int) := by omega
      have ra : IntKind.i64.wrap ((a : Int) + (i : Int)) = (a : Int) + (i : Int) := by rw [IntKind.wrap_i64]; omega
      have ec : ((b : Int) + (i : Int)).toNat = b + i := by omega
      have pc : (0 : Int) ≤ (b : Int) + (i : Int) := by omega
      have bc : (b : Int) + (i : Int) < (d.size : Int) := by omega
      have rc : IntKind.i64.wrap ((b : Int) + (i : Int)) = (b : Int) + (i : Int) := by rw [IntKind.wrap_i64]; omega
      have S2 : Aside (SWK benc k w0 blk off (swp dk (a + i) (b + i)) ((wr.drew.setCells blk (off + (a + i) * k) (benc dk[b + i]!)).setCells blk (off + (b + i) * k) (benc dk[a + i]!))) := S1.out.swapped R (a + i) (b + i) (by omega) (by omega)
      have la := S1.out.ld1 R (by omega) Tryz.prog (a + i) (by omega)
      have lb := S1.out.ld1 R (by omega) Tryz.prog (b + i) (by omega)
      have sa := S1.out.st1 R (by omega) Tryz.prog (a + i) (by omega) dk[b + i]!
      have sb := S1.out.st2 R (by omega) Tryz.prog (a + i) (b + i) (by omega) (by omega) dk[b + i]! dk[a + i]!
      have na : (benc dk[a + i]!).length = k := R.hk _
      have nb : (benc dk[b + i]!).length = k := R.hk _
      generalize benc dk[a + i]! = cI at S2 la sb na
      generalize benc dk[b + i]! = cJ at S2 lb sa sb nb
      clear S1
      go_wp2_with fail
      go_big_region_o
      clear la lb sa sb
      generalize (wr.drew.setCells blk (off + (a + i) * k) cJ).setCells blk (off + (b + i) * k) cI = w2 at S2 ⊢
      go_wp2
      go_roundg (n - (i + 1))
      case measure => omega
      case rel =>
        exact ⟨i + 1, swp dk (a + i) (b + i), by go_num, by omega, by omega, SwR.step HW.out (by omega) (by omega), permIn_trans _ _ _ _ _ HP.out (swp_permIn dk a (b + n) (a + i) (b + i) (by omega) (by omega) (by omega) (by omega) (by omega)), by rw [size_swp]; exact hds, S2⟩
    · obtain rfl : i = n := by omega
      go_wp2
      go_end0
      exact ⟨rfl, dk, HW.out, HP.out, S1.out⟩

/-- A call's contract, whatever way its three ints are put. -/
theorem call_at {P : Program} {f : Nat} {s v : Value} {a b c : Int} {w : World} {R : Ending → World → Prop} (h : Calls P f #[s, .int .i64 a, .int .i64 b, .int .i64 c, v] w R) (x y z : Int) (hx : x = a) (hy : y = b) (hz : z = c) : Calls P f #[s, .int .i64 x, .int .i64 y, .int .i64 z, v] w R := by
  subst hx hy hz
  exact h

set_option maxHeartbeats 4000000 in
set_option maxRecDepth 1000000 in
theorem rotate_any (k : Nat) (zE : ∀ w, (Go.sizeOf 269).run Tryz.prog w = .ok k w) (fv : Value) (blk off cap a m b : Nat) (d0 d : Array Bk) (w0 w : World)
    (R : RowK benc k w0 blk off d0) (hs : d0.size = d.size) (S : SWK benc k w0 blk off d w) (ham : a < m) (hmb : m < b) (hb : b ≤ d.size) (hsz : d.size ≤ 100000) :
    Calls Tryz.prog 330 #[.slice (some ⟨blk, off, none⟩) d.size cap, .int .i64 a, .int .i64 m, .int .i64 b, fv] w fun e w' => e = .returned (.tuple #[]) ∧ ∃ d', RotR a m b d d' ∧ PermIn a b d d' ∧ SWK benc k w0 blk off d' w' := by
  have S0 : Aside (SWK benc k w0 blk off d w) := S
  clear S
  have ZE := Hid.of zE
  clear zE
  go_enter Tryz.func330, Tryz.ntmps330
  go_wp2
  go_loopg [10, 11] (b - a) (fun kx s10 s11 wr => ∃ (i j : Nat) (dk : Array Bk), s10 = .int .i64 i ∧ s11 = .int .i64 j ∧ 0 < i ∧ 0 < j ∧ i ≤ m - a ∧ j ≤ b - m ∧ i + j ≤ kx ∧ Aside (∀ fin, RotR (m - i) m (m + j) dk fin → RotR a m b d fin) ∧ Aside (PermIn a b d dk) ∧ dk.size = d.size ∧ Aside (SWK benc k w0 blk off dk wr))
  case atStart => exact ⟨m - a, b - m, d, by go_num, by go_num, by omega, by omega, by omega, by omega, by omega, fun fin h => by rwa [show m - (m - a) = a by omega, show m + (b - m) = b by omega] at h, permIn_refl d a b, rfl, S0⟩
  case round =>
    clear S0
    obtain ⟨i, j, dk, rfl, rfl, hi0, hj0, him, hjb, hkx, HW, HP, hds, S1⟩ := hrel
    rcases Nat.lt_trichotomy i j with hij | hij | hij
    · -- the greater part stands right
      have n1 : ¬ (i : Int) = (j : Int) := by omega
      have n2 : ¬ (i : Int) > (j : Int) := by omega
      have hc := swapRange_any k ZE.out fv blk off cap (m - i) (m + (j - i)) i d0 dk w0 wr R (by omega) S1.out (by omega) (by omega) (by omega)
      rw [hds] at hc
      have hcc := call_at hc
      go_wp2_with (go_at_call 336; refine (hcc _ _ _ (by omega) (by omega) (by omega)).mono ?_; rintro e w2 ⟨rfl, d2, h2, p2, S2⟩)
      go_roundg j
      case measure => omega
      case rel => exact ⟨i, j - i, d2, rfl, by go_num, hi0, by omega, by omega, by omega, by omega, fun fin h => HW.out fin (by
          obtain ⟨r, rfl⟩ : ∃ r, j = r + i := ⟨j - i, by omega⟩
          obtain ⟨p, rfl⟩ : ∃ p, m = p + i := ⟨m - i, by omega⟩
          rw [show p + i - i = p by omega] at h h2 ⊢
          rw [show p + i + (r + i - i) = p + i + r by omega] at h h2
          exact RotR.right h2 h), permIn_trans _ _ _ _ _ HP.out (permIn_mono _ _ _ _ _ _ (by omega) (by omega) (by omega) p2), h2.1.trans hds, S2⟩
    · subst hij
      have hc := swapRange_any k ZE.out fv blk off cap (m - i) m i d0 dk w0 wr R (by omega) S1.out (by omega) (by omega) (by omega)
      rw [hds] at hc
      have hcc := call_at hc
      go_wp2_with (go_at_call 336; refine (hcc _ _ _ (by omega) (by omega) (by omega)).mono ?_; rintro e w2 ⟨rfl, d2, h2, p2, S2⟩)
      go_end0
      exact ⟨rfl, d2, HW.out d2 (by
          obtain ⟨p, rfl⟩ : ∃ p, m = p + i := ⟨m - i, by omega⟩
          rw [show p + i - i = p by omega] at h2 ⊢
          exact RotR.even h2), permIn_trans _ _ _ _ _ HP.out (permIn_mono _ _ _ _ _ _ (by omega) (by omega) (by omega) p2), S2⟩
    · have n1 : ¬ (i : Int) = (j : Int) := by omega
      have n2 : (i : Int) > (j : Int) := by omega
      have hc := swapRange_any k ZE.out fv blk off cap (m - i) m j d0 dk w0 wr R (by omega) S1.out (by omega) (by omega) (by omega)
      rw [hds] at hc
      have hcc := call_at hc
      go_wp2_with (go_at_call 336; refine (hcc _ _ _ (by omega) (by omega) (by omega)).mono ?_; rintro e w2 ⟨rfl, d2, h2, p2, S2⟩)
      go_roundg i
      case measure => omega
      case rel => exact ⟨i - j, j, d2, by go_num, rfl, by omega, hj0, by omega, by omega, by omega, fun fin h => HW.out fin (by
          obtain ⟨r, rfl⟩ : ∃ r, i = r + j := ⟨i - j, by omega⟩
          obtain ⟨p, rfl⟩ : ∃ p, m = p + (r + j) := ⟨m - (r + j), by omega⟩
          rw [show p + (r + j) - (r + j) = p by omega] at h2 ⊢
          rw [show p + (r + j) - (r + j - j) = p + j by omega] at h
          exact RotR.left h2 h), permIn_trans _ _ _ _ _ HP.out (permIn_mono _ _ _ _ _ _ (by omega) (by omega) (by omega) p2), h2.1.trans hds, S2⟩

end Go.Proofs.YtbhcafginmkaaaaGreat

namespace Go.Proofs.YtbhcafginmkaaaaGreat
open Go.RowKit Go.Lib Go.Sort Go.Shelf

def laysInsert_ren : Go.Shelf.Ren := ⟨fun | 20 => 316 | n => n, fun | 24 => 269 | 22 => 265 | 3 => 3 | 25 => 303 | 4 => 4 | 0 => 0 | n => n, fun | n => n⟩
theorem laysInsert : Go.Proofs.SlLaysF0.n20 Tryz.prog laysInsert_ren := {
  mixed := by kernel_rfl
  f20 := ⟨Tryz.f316.name, by decide, Tryz.func316.trans (congrArg some (by kernel_rfl))⟩
  t0 := Tryz.underlying0
  a0 := Tryz.isAgg0
  z0 := Tryz.sizeOf0
  v0 := Tryz.zeroValue0
  t3 := Tryz.underlying3
  a3 := Tryz.isAgg3
  z3 := Tryz.sizeOf3
  v3 := Tryz.zeroValue3
  t4 := Tryz.underlying4
  a4 := Tryz.isAgg4
  z4 := Tryz.sizeOf4
  v4 := Tryz.zeroValue4
  t22 := Tryz.underlying265
  a22 := Tryz.isAgg265
  z22 := Tryz.sizeOf265
  v22 := Tryz.zeroValue265
  t25 := Tryz.underlying303
  a25 := Tryz.isAgg303
  z25 := Tryz.sizeOf303
  v25 := Tryz.zeroValue303 }

/-- The function value that is handed on. -/
abbrev byStartV : Value := .func (.func 279) #[] #[]

theorem insertion_any (blk off cap a b : Nat) (d0 d : Array Bk) (w0 w : World) (R : RowK benc 6 w0 blk off d0) (hs : d0.size = d.size) (S : SWK benc 6 w0 blk off d w) (hab : a ≤ b) (hb : b ≤ d.size) (hsz : d.size ≤ 100000) :
    Calls Tryz.prog 316 #[.slice (some ⟨blk, off, none⟩) d.size cap, .int .i64 a, .int .i64 b, byStartV] w fun e w' => e = .returned (.tuple #[]) ∧ ∃ d', PermIn a b d d' ∧ SortedIn blt a b d' ∧ SWK benc 6 w0 blk off d' w' := by
  have eg : ∀ args w, (callFunc 279 args).run Tryz.prog w = .ok (.enter 279 args) w := enters_of Tryz.func279 (by kernel_rfl) rfl
  have hcon := AnyQ.insertionSortCmpFunc laysInsert 6 Tryz.isAgg269 Tryz.sizeOf269 benc benc_len benc_one bcf 279 #[] blk off cap a b d w eg (byStart_lays blk off d.size w) (S.holds R.hblk R.hH hs.symm) (S.lt R.hblk) hab hb (by omega)
  change Calls Tryz.prog 316 _ _ _ at hcon
  refine hcon.mono ?_
  rintro e w' ⟨rfl, n, os, rfl⟩
  obtain ⟨hp, ho⟩ := insertionSort_holds (lt := ltOf bcf) blt_swo d a b hab hb
  exact ⟨rfl, _, hp, ho, S.on R.hblk n _ os hp.1⟩

end Go.Proofs.YtbhcafginmkaaaaGreat
