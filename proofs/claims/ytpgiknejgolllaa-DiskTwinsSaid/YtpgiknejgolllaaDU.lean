/-
  What run and shows answer.
-/
import Derived.Test.YtpgiknejgolllaaDI
namespace Go.Proofs.Ytpgiknejgolllaa
open Go.RowKit Go.Lib

set_option maxRecDepth 20000 in
set_option maxHeartbeats 3200000 in
theorem run_any {S : DiskSpec} {B p : Nat} {w0 w : World} {s : DSt} {F : Foot} (H : DHere S B w0 w p s F) (n : Nat) (hs : s.Small n) (v : Value) (l : List OpL) (hn : n + l.length ≤ 900) (hv : OpsRow w0 v l) (hB : w0.heap.size ≤ B) (hk : ∀ o ∈ l, o.ks.length ≤ 20000) :
    Calls Try.prog 23 #[dptr p, v] w fun e w' => e = .returned (.tuple #[]) ∧ ∃ s' F', DHere S B w0 w' p s' F' ∧ FStep F F' w w' ∧ s'.Small (n + l.length) := by
  have HV := Hid.of hv
  have HH := Hid.of H
  have HS := Hid.of hs
  have HK := Hid.of hk
  have HN := Hid.of hn
  have HB := Hid.of hB
  have l9 : (l.length : Int) ≤ 900 := by omega
  obtain ⟨⟨va, vc, rfl, _⟩, _⟩ := hv
  clear hs hk hn hB
  go_enter Try.func23, Try.ntmps23
  go_wp2
  go_loopw [4] (fun iv wr => ∃ (j : Nat) (s' : DSt) (F' : Foot), j ≤ l.length ∧ iv = .int .i64 j ∧ Hid (DHere S B w0 wr p s' F') ∧ Hid (FStep F F' w wr) ∧ Hid (s'.Small (n + j))) (fun iv _ => l.length - (RowKit.intOf iv).toNat)
  case atStart => exact ⟨0, s, F, Nat.zero_le _, rfl, HH, Hid.of (FStep.refl _ _), HS⟩
  case round =>
    obtain ⟨j, s', F', hj, rfl, G, ST, SM⟩ := hrel
    by_cases hlt : j < l.length
    · have i0 : (0 : Int) ≤ (j : Int) := Int.natCast_nonneg _
      have i1 : (j : Int) < (l.length : Int) := by omega
      have ho : l[j]? = some l[j] := List.getElem?_eq_getElem hlt
      have hmem : l[j] ∈ l := List.getElem_mem hlt
      generalize l[j] = o at ho hmem
      obtain ⟨bb, oo, rfl, hlb, c0, c1, _, c3, c4⟩ := op_at HV.out.1 j o ho
      have hfr : Below w0.heap.size w0 wr := G.out.fr.mono HB.out
      have d0 : wr.cell? ⟨bb, oo + j * 5, none⟩ = some (.int .i64 o.k) := by rw [hfr.cell hlb]; exact c0
      have d1 : wr.cell? ⟨bb, oo + j * 5 + 1, none⟩ = some (.int .i64 o.at_) := by rw [hfr.cell hlb]; exact c1
      have d3 : wr.cell? ⟨bb, oo + j * 5 + 3, none⟩ = some (.string o.t) := by rw [hfr.cell hlb]; exact c3
      have d4 : wr.cell? ⟨bb, oo + j * 5 + 4, none⟩ = some (.slice o.a o.ks.length o.cap) := by rw [hfr.cell hlb]; exact c4
      have T9 := Hid.of (HV.out.2 o hmem).2
      have KR := Hid.of (HV.out.2 o hmem).1
      have K9 := Hid.of (HK.out o hmem)
      have S9 : Hid (s'.Small 1000) := Hid.of (SM.out.more (by have := HN.out; omega))
      obtain ⟨kk, hkk⟩ : ∃ kk, o.k = kk := ⟨_, rfl⟩
      rw [hkk] at d0
      have HLB := Hid.of hlb
      have C1 := Hid.of c1
      have C3 := Hid.of c3
      clear ho hmem c0 c1 c3 c4 hfr hkk
      by_cases k1 : kk = 1
      · subst k1
        obtain ⟨err, s2, hw⟩ : ∃ err s2, s'.write o.at_ o.t = (err, s2) := ⟨_, _, rfl⟩
        have SM2 : Hid (s2.Small (n + (j + 1))) := Hid.of (by have := SM.out.write o.at_ o.t; rw [hw] at this; exact this)
        have HW := Hid.of hw
        clear hw
        go_wp2
        go_region_held3 (fun w' => w'.cell? ⟨bb, oo + j * 5 + 1, none⟩ = some (.int .i64 o.at_) ∧ w'.cell? ⟨bb, oo + j * 5 + 3, none⟩ = some (.string o.t)) (go_keep) (first | (go_at_call 11; refine ((G.out.next (Below.refl _ wr).drew).write HW.out S9.out T9.out).mono ?_; rintro e q1 ⟨rfl, F2, r1, st⟩; have G1 := Hid.of r1; have ST1 := Hid.of (ST.out.trans (FStep.after (Below.refl _ wr).drew st)); have hf1 : Below w0.heap.size w0 q1 := G1.out.fr.mono HB.out; clear r1 st d1 d3; have d1 : q1.cell? ⟨bb, oo + j * 5 + 1, none⟩ = some (.int .i64 o.at_) := (by rw [hf1.cell HLB.out]; exact C1.out); have d3 : q1.cell? ⟨bb, oo + j * 5 + 3, none⟩ = some (.string o.t) := (by rw [hf1.cell HLB.out]; exact C3.out)))
        go_wp2
        go_roundw
        case rel => exact ⟨j + 1, s2, F2, by omega, by go_num, G1, ST1, SM2⟩
        case measure => simp [RowKit.intOf]; omega
      · by_cases k2 : kk = 2
        · subst k2
          obtain ⟨err, s2, hw⟩ : ∃ err s2, s'.flush = (err, s2) := ⟨_, _, rfl⟩
          have SM2 : Hid (s2.Small (n + (j + 1))) := Hid.of (by have := SM.out.flush; rw [hw] at this; exact this)
          have HW := Hid.of hw
          clear hw
          go_wp2_with fail
          refine (G.out.flush HW.out S9.out).mono ?_
          rintro e q1 ⟨rfl, F2, r1, st⟩
          have G1 := Hid.of r1
          have ST1 := Hid.of (ST.out.trans st)
          clear r1 st
          go_wp2
          go_roundw
          case rel => exact ⟨j + 1, s2, F2, by omega, by go_num, G1, ST1, SM2⟩
          case measure => simp [RowKit.intOf]; omega
        · by_cases k3 : kk = 3
          · subst k3
            have SM2 : Hid ((s'.cut o.ks).Small (n + (j + 1))) := Hid.of ((SM.out.cut o.ks).more (by omega))
            go_wp2_with fail
            refine (G.out.cut (ks := o.ks) rfl rfl S9.out (KR.out.kept (G.out.fr.mono HB.out)) (G.out.off_arg KR.out HB.out) (by have := K9.out; omega)).mono ?_
            rintro e q1 ⟨rfl, F2, r1, st⟩
            have G1 := Hid.of r1
            have ST1 := Hid.of (ST.out.trans st)
            clear r1 st
            go_wp2
            go_roundw
            case rel => exact ⟨j + 1, _, F2, by omega, by go_num, G1, ST1, SM2⟩
            case measure => simp [RowKit.intOf]; omega
          · by_cases k4 : kk = 4
            · subst k4
              have SM2 : Hid (s'.restore.Small (n + (j + 1))) := Hid.of (SM.out.restore.more (by omega))
              go_wp2_with fail
              refine (G.out.restore S9.out).mono ?_
              rintro e q1 ⟨rfl, F2, r1, st⟩
              have G1 := Hid.of r1
              have ST1 := Hid.of (ST.out.trans st)
              clear r1 st
              go_wp2
              go_roundw
              case rel => exact ⟨j + 1, _, F2, by omega, by go_num, G1, ST1, SM2⟩
              case measure => simp [RowKit.intOf]; omega
            · have SM2 : Hid (s'.Small (n + (j + 1))) := Hid.of (SM.out.more (by omega))
              go_wp2
              go_roundw
              case rel => exact ⟨j + 1, s', F', by omega, by go_num, G, ST, SM2⟩
              case measure => simp [RowKit.intOf]; omega
    · have hjl : j = l.length := by omega
      subst hjl
      go_wp2
      go_end0
      exact ⟨rfl, s', F', G.out, ST.out, SM.out⟩

end Go.Proofs.Ytpgiknejgolllaa
