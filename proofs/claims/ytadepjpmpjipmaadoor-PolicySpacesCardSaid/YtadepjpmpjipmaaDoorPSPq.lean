/-
  PolicySpaces: blanks, empty lines and remarks do not matter.
-/
import Derived.Laws.BitsAllLaws
import Derived.Test.YtadepjpmpjipmaaDoorPBAq
import Derived.Test.YtadepjpmpjipmaaDoorPSXq
import Derived.Test.YtadepjpmpjipmaaDoorQ06
namespace Go.Proofs.YtadepjpmpjipmaaDoor
open Go.RowKit Go.Lib

theorem and_three (e : Int) : bits .and .i64 e 3 = e % 4 := by
  show IntKind.i64.wrap ((BitVec.ofInt 64 e &&& BitVec.ofInt 64 3).toNat : Int) = e % 4
  have h1 : (BitVec.ofInt 64 3).toNat = 2 ^ 2 - 1 := by decide
  rw [BitVec.toNat_and, h1, Nat.and_two_pow_sub_one_eq_mod, ofInt_i64, i64_wrap_lt _ (by omega)]
  split <;> omega

/-- The gap that is asked for at the k-th place. -/
def gapAt (gs : List Int) (k : Nat) : Nat := if k < gs.length then (gs.getD k 0 % 4).toNat else 0

theorem one_size (s : ByteArray) (i : Nat) : (s.extract i (i + 1)).size ≤ 1 := by
  simp [ByteArray.size_extract]
  omega

theorem one_text {s : ByteArray} {i : Nat} {c : UInt8} (h : i < s.size) (hc : s[i].toNat = c.toNat) : (s.extract i (i + 1)).data.toList = [c] := by
  rw [extract_list, List.drop_eq_getElem_cons (by rw [byte_len]; exact h)]
  have : s.data.toList[i]'(by rw [byte_len]; exact h) = s[i] := rfl
  rw [this]
  simp only [List.take_succ_cons, List.take_zero]
  rw [show s[i] = c from UInt8.toNat_inj.1 hc]

theorem ints_at {w w' : World} {v : Value} {gs : List Int} {M : Nat} (h : Hid (NumRow .i64 w v gs)) (b : Below w.heap.size w w') (hM : gs.length = M) : CellRow w' v M (gs.map (Value.int .i64)) := by
  rw [← hM]
  exact h.out.cells'.kept b

set_option maxRecDepth 20000 in
set_option maxHeartbeats 6400000 in
theorem policySpaces_main (S : PolicySpec) (u v : Value) (p : PolL) (gs : List Int) (w : World) (hS : S.Ok w) (hu : PolRow w u p) (hp : ∀ x ∈ p.2, TIn x) (hv : NumRow .i64 w v gs) :
    Calls Tryd.prog 5 #[u, v] w fun e w' => e = .returned (.bool true) ∧ Below w.heap.size w w' := by
  obtain ⟨sl, rfl, hsl, hsk⟩ := hu
  have HSL := Hid.of hsl
  obtain ⟨sa, sc, rfl, -⟩ := hsl
  have GR := Hid.of hv
  obtain ⟨ga, gcap, rfl, -⟩ := hv
  obtain ⟨n, hn⟩ : ∃ n, p.1 = n := ⟨_, rfl⟩
  obtain ⟨N, hN⟩ : ∃ N, p.2.length = N := ⟨_, rfl⟩
  obtain ⟨M, hM⟩ : ∃ M, gs.length = M := ⟨_, rfl⟩
  rw [hn, hN, hM]
  rw [hM] at GR
  rw [hN] at HSL
  have HSK : Hid (CapOk (.slice sa N sc)) := Hid.of (by rw [← hN]; exact hsk)
  clear hsk
  obtain ⟨w1, hw1⟩ : ∃ w1, w.alloc (.cells #[.string n, .slice sa N sc] 24) = w1 := ⟨_, rfl⟩
  have H1 : Hid (PH S w w.heap.size n (.slice sa N sc) p w1) := Hid.of (by
    rw [← hw1]
    exact ⟨PBlk.made w _ _, ⟨_, by rw [hn], by rw [hN]; exact HSL.out, HSK.out⟩, hS, (Below.refl _ _).alloc (Nat.le_refl _) _⟩)
  have HW := Hid.of hw1
  have HP := Hid.of hp
  have HM := Hid.of hM
  clear hw1 hN hn hS hp HSL hM
  go_enter Tryd.func5, Tryd.ntmps5
  go_wp2_with fail
  rw [HW.out]
  clear HW
  refine (Small_any _ p _ H1.out.r3).mono ?_
  rintro e w2 ⟨r, rfl, hr, b2⟩
  have H2 := Hid.of (H1.out.next b2)
  clear b2 H1
  obtain ⟨d0, d1⟩ := H2.out.k3.at
  by_cases hc : r = true ∧ M ≤ 60
  · obtain ⟨rfl, h1⟩ := hc
    have SP := Hid.of (fit_of HP.out (hr.out rfl))
    have g1 : ¬ (60 : Int) < (M : Int) := by omega
    have M9 := Hid.of h1
    clear hr h1
    go_wp2_with fail
    clear d0 d1
    refine (S.print _ p _ H2.out.ok SP.out H2.out.r3).mono ?_
    rintro e w3 ⟨rfl, b3⟩
    have H3 := Hid.of (H2.out.next b3)
    clear b3 H2
    by_cases hc : (pCheck p).1 = 0
    · have hpp : pPrint p = (⟨(polText p).toArray⟩, 0) := by unfold pPrint; rw [if_pos hc]
      rw [hpp]
      have HC := Hid.of hc
      obtain ⟨s, hs⟩ : ∃ s : ByteArray, s = ⟨(polText p).toArray⟩ := ⟨_, rfl⟩
      rw [← hs]
      have HS : Hid (s.data.toList = polText p) := Hid.of (by rw [hs])
      have SL : Hid (s.size ≤ 400) := Hid.of (by rw [← byte_len, HS.out]; exact polText_len hc)
      obtain ⟨T, hT⟩ : ∃ T, spaced (gapAt gs) 0 s.data.toList = T := ⟨_, rfl⟩
      have TL : Hid (T.length ≤ 4000) := Hid.of (by rw [← hT]; have := spaced_len (gapAt gs) s.data.toList 0; rw [byte_len] at this; have := SL.out; omega)
      have HR : Hid (pRead T = (p, 0, 0)) := Hid.of (by rw [← hT, HS.out]; exact (pRead_spaced hc (gapAt gs) 0).2)
      have s9 : (s.size : Int) ≤ 400 := by have := SL.out; omega
      have H0 : Hid ((⟨#[]⟩ : ByteArray).data.toList ++ spaced (gapAt gs) 0 (s.data.toList.drop 0) = T) := Hid.of hT
      clear hpp hs hc hT
      go_wp2_with fail
      go_loopw [7, 8, 9] (fun bv kv iv wr => ∃ (i k : Nat) (b : ByteArray), i ≤ s.size ∧ k ≤ i ∧ bv = .string b ∧ kv = .int .i64 k ∧ iv = .int .i64 i ∧ Hid (b.data.toList ++ spaced (gapAt gs) k (s.data.toList.drop i) = T) ∧ Hid (PH S w w.heap.size n (.slice sa N sc) p wr)) (fun _ _ iv _ => s.size - (RowKit.intOf iv).toNat)
      case atStart => exact ⟨0, 0, ⟨#[]⟩, Nat.zero_le _, Nat.le_refl _, rfl, rfl, rfl, H0, H3⟩
      case round =>
        clear H0 H3
        obtain ⟨i, k, b, hi, hk, rfl, rfl, rfl, HT0, H⟩ := hrel
        by_cases hlt : i < s.size
        · have i1 : (i : Int) < (s.size : Int) := by omega
          have i2 : (i : Int) + 1 ≤ (s.size : Int) := by omega
          have BL : Hid (b.size ≤ 4000) := Hid.of (by have := congrArg List.length HT0.out; rw [List.length_append, byte_len] at this; have := TL.out; omega)
          have hdrop : s.data.toList.drop i = s[i] :: s.data.toList.drop (i + 1) := by
            rw [List.drop_eq_getElem_cons (by rw [byte_len]; exact hlt)]
            rfl
          have HTx := Hid.of HT0.out
          rw [hdrop] at HTx
          clear hdrop HT0
          by_cases hc : s[i].toNat = 32
          · have hcb : s[i].toNat = (32 : UInt8).toNat := hc
            by_cases kl : k < gs.length
            · have k2 : (k : Int) < (M : Int) := by have := HM.out; omega
              obtain ⟨ev, hev⟩ : ∃ ev, gs.getD k 0 = ev := ⟨_, rfl⟩
              obtain ⟨gb, go, rfl, gl, gc⟩ := int_at (ints_at GR H.out.fr HM.out) k kl HM.out.symm
              rw [hev] at gc
              have and3 := and_three ev
              have he : ev % 4 = 0 ∨ ev % 4 = 1 ∨ ev % 4 = 2 ∨ ev % 4 = 3 := by omega
              rcases he with he4 | he4 | he4 | he4
              · have kk := hk
                have GK : Hid (gapAt gs k = 0) := Hid.of (by unfold gapAt; rw [if_pos kl, hev, he4]; rfl)
                have hcat := fun w => run_string_add_sum (P := Tryd.prog) (w := w) b (s.extract i (i + 1)) (by have h1 := one_size s i; have := BL.out; omega)
                have HT : Hid ((b ++ ((s.extract i (i + 1)) : ByteArray)).data.toList ++ spaced (gapAt gs) (k + 1) (s.data.toList.drop (i + 1)) = T) := Hid.of (by
                  have h := HTx.out
                  rw [spaced, if_pos hc, GK.out] at h
                  rw [append_list, List.append_assoc]
                  rw [one_text hlt hcb]
                  exact h)
                generalize b ++ ((s.extract i (i + 1)) : ByteArray) = b2 at hcat HT
                have e1 : ((s[i].toNat : Int) == 32) = true := by simp [hc]
                rw [he4] at and3
                clear he4 hev
                have e4 : ((s[i].toNat : Int) == 10) = false := by simp [hc]
                have e5 : ¬ (s[i].toNat : Int) = 10 := by omega
                clear hc hcb HTx
                go_wp2
                go_roundw
                case rel => exact ⟨i + 1, k + 1, b2, by omega, by omega, rfl, by go_num, by go_num, HT, Hid.of (H.out.next (by first | exact Below.refl _ _ | exact (Below.refl _ _).alloc (Nat.le_refl _) _))⟩
                case measure => simp [RowKit.intOf]; omega
              · have kk := hk
                have GK : Hid (gapAt gs k = 1) := Hid.of (by unfold gapAt; rw [if_pos kl, hev, he4]; rfl)
                have hcat := fun w => run_string_add_sum (P := Tryd.prog) (w := w) b ⟨#[32, 32]⟩ (by have h1 : (⟨#[32, 32]⟩ : ByteArray).size = 2 := rfl; have := BL.out; omega)
                have HT : Hid ((b ++ (⟨#[32, 32]⟩ : ByteArray)).data.toList ++ spaced (gapAt gs) (k + 1) (s.data.toList.drop (i + 1)) = T) := Hid.of (by
                  have h := HTx.out
                  rw [spaced, if_pos hc, GK.out] at h
                  rw [append_list, List.append_assoc]
                  exact h)
                generalize b ++ (⟨#[32, 32]⟩ : ByteArray) = b2 at hcat HT
                have e1 : ((s[i].toNat : Int) == 32) = true := by simp [hc]
                rw [he4] at and3
                clear he4 hev
                clear hc hcb HTx
                go_wp2
                go_roundw
                case rel => exact ⟨i + 1, k + 1, b2, by omega, by omega, rfl, by go_num, by go_num, HT, Hid.of (H.out.next (by first | exact Below.refl _ _ | exact (Below.refl _ _).alloc (Nat.le_refl _) _))⟩
                case measure => simp [RowKit.intOf]; omega
              · have kk := hk
                have GK : Hid (gapAt gs k = 2) := Hid.of (by unfold gapAt; rw [if_pos kl, hev, he4]; rfl)
                have hcat := fun w => run_string_add_sum (P := Tryd.prog) (w := w) b ⟨#[9]⟩ (by have h1 : (⟨#[9]⟩ : ByteArray).size = 1 := rfl; have := BL.out; omega)
                have HT : Hid ((b ++ (⟨#[9]⟩ : ByteArray)).data.toList ++ spaced (gapAt gs) (k + 1) (s.data.toList.drop (i + 1)) = T) := Hid.of (by
                  have h := HTx.out
                  rw [spaced, if_pos hc, GK.out] at h
                  rw [append_list, List.append_assoc]
                  exact h)
                generalize b ++ (⟨#[9]⟩ : ByteArray) = b2 at hcat HT
                have e1 : ((s[i].toNat : Int) == 32) = true := by simp [hc]
                rw [he4] at and3
                clear he4 hev
                clear hc hcb HTx
                go_wp2
                go_roundw
                case rel => exact ⟨i + 1, k + 1, b2, by omega, by omega, rfl, by go_num, by go_num, HT, Hid.of (H.out.next (by first | exact Below.refl _ _ | exact (Below.refl _ _).alloc (Nat.le_refl _) _))⟩
                case measure => simp [RowKit.intOf]; omega
              · have kk := hk
                have GK : Hid (gapAt gs k = 3) := Hid.of (by unfold gapAt; rw [if_pos kl, hev, he4]; rfl)
                have hcat := fun w => run_string_add_sum (P := Tryd.prog) (w := w) b ⟨#[32, 9, 32]⟩ (by have h1 : (⟨#[32, 9, 32]⟩ : ByteArray).size = 3 := rfl; have := BL.out; omega)
                have HT : Hid ((b ++ (⟨#[32, 9, 32]⟩ : ByteArray)).data.toList ++ spaced (gapAt gs) (k + 1) (s.data.toList.drop (i + 1)) = T) := Hid.of (by
                  have h := HTx.out
                  rw [spaced, if_pos hc, GK.out] at h
                  rw [append_list, List.append_assoc]
                  exact h)
                generalize b ++ (⟨#[32, 9, 32]⟩ : ByteArray) = b2 at hcat HT
                have e1 : ((s[i].toNat : Int) == 32) = true := by simp [hc]
                rw [he4] at and3
                clear he4 hev
                clear hc hcb HTx
                go_wp2
                go_roundw
                case rel => exact ⟨i + 1, k + 1, b2, by omega, by omega, rfl, by go_num, by go_num, HT, Hid.of (H.out.next (by first | exact Below.refl _ _ | exact (Below.refl _ _).alloc (Nat.le_refl _) _))⟩
                case measure => simp [RowKit.intOf]; omega
            · have k2 : ¬ (k : Int) < (M : Int) := by have := HM.out; omega
              have GK : Hid (gapAt gs k = 0) := Hid.of (by unfold gapAt; rw [if_neg kl])
              have hcat := fun w => run_string_add_sum (P := Tryd.prog) (w := w) b (s.extract i (i + 1)) (by have h1 := one_size s i; have := BL.out; omega)
              have HT : Hid ((b ++ ((s.extract i (i + 1)) : ByteArray)).data.toList ++ spaced (gapAt gs) (k + 1) (s.data.toList.drop (i + 1)) = T) := Hid.of (by
                have h := HTx.out
                rw [spaced, if_pos hc, GK.out] at h
                rw [append_list, List.append_assoc]
                rw [one_text hlt hcb]
                exact h)
              generalize b ++ ((s.extract i (i + 1)) : ByteArray) = b2 at hcat HT
              have e1 : ((s[i].toNat : Int) == 32) = true := by simp [hc]
              have e4 : ((s[i].toNat : Int) == 10) = false := by simp [hc]
              have e5 : ¬ (s[i].toNat : Int) = 10 := by omega
              clear hc hcb HTx
              go_wp2
              go_roundw
              case rel => exact ⟨i + 1, k + 1, b2, by omega, by omega, rfl, by go_num, by go_num, HT, Hid.of (H.out.next (by first | exact Below.refl _ _ | exact (Below.refl _ _).alloc (Nat.le_refl _) _))⟩
              case measure => simp [RowKit.intOf]; omega
          · by_cases hc2 : s[i].toNat = 10
            · have hc := hc2
              have hcb : s[i].toNat = (10 : UInt8).toNat := hc
              clear hc2
              by_cases kl : k < gs.length
              · have k2 : (k : Int) < (M : Int) := by have := HM.out; omega
                obtain ⟨ev, hev⟩ : ∃ ev, gs.getD k 0 = ev := ⟨_, rfl⟩
                obtain ⟨gb, go, rfl, gl, gc⟩ := int_at (ints_at GR H.out.fr HM.out) k kl HM.out.symm
                rw [hev] at gc
                have and3 := and_three ev
                have he : ev % 4 = 0 ∨ ev % 4 = 1 ∨ ev % 4 = 2 ∨ ev % 4 = 3 := by omega
                rcases he with he4 | he4 | he4 | he4
                · have kk := hk
                  have GK : Hid (gapAt gs k = 0) := Hid.of (by unfold gapAt; rw [if_pos kl, hev, he4]; rfl)
                  have hcat := fun w => run_string_add_sum (P := Tryd.prog) (w := w) b (s.extract i (i + 1)) (by have h1 := one_size s i; have := BL.out; omega)
                  have HT : Hid ((b ++ ((s.extract i (i + 1)) : ByteArray)).data.toList ++ spaced (gapAt gs) (k + 1) (s.data.toList.drop (i + 1)) = T) := Hid.of (by
                    have h := HTx.out
                    rw [spaced, if_neg (by omega), if_pos hc, GK.out] at h
                    rw [append_list, List.append_assoc]
                    rw [one_text hlt hcb]
                    exact h)
                  generalize b ++ ((s.extract i (i + 1)) : ByteArray) = b2 at hcat HT
                  have e1 : ((s[i].toNat : Int) == 32) = false := by simp [hc]
                  have e2 : ((s[i].toNat : Int) == 10) = true := by simp [hc]
                  have e3 : ¬ (s[i].toNat : Int) = 32 := by omega
                  rw [he4] at and3
                  clear he4 hev
                  clear hc hcb HTx
                  go_wp2
                  go_roundw
                  case rel => exact ⟨i + 1, k + 1, b2, by omega, by omega, rfl, by go_num, by go_num, HT, Hid.of (H.out.next (by first | exact Below.refl _ _ | exact (Below.refl _ _).alloc (Nat.le_refl _) _))⟩
                  case measure => simp [RowKit.intOf]; omega
                · have kk := hk
                  have GK : Hid (gapAt gs k = 1) := Hid.of (by unfold gapAt; rw [if_pos kl, hev, he4]; rfl)
                  have hcat := fun w => run_string_add_sum (P := Tryd.prog) (w := w) b ⟨#[10, 10]⟩ (by have h1 : (⟨#[10, 10]⟩ : ByteArray).size = 2 := rfl; have := BL.out; omega)
                  have HT : Hid ((b ++ (⟨#[10, 10]⟩ : ByteArray)).data.toList ++ spaced (gapAt gs) (k + 1) (s.data.toList.drop (i + 1)) = T) := Hid.of (by
                    have h := HTx.out
                    rw [spaced, if_neg (by omega), if_pos hc, GK.out] at h
                    rw [append_list, List.append_assoc]
                    exact h)
                  generalize b ++ (⟨#[10, 10]⟩ : ByteArray) = b2 at hcat HT
                  have e1 : ((s[i].toNat : Int) == 32) = false := by simp [hc]
                  have e2 : ((s[i].toNat : Int) == 10) = true := by simp [hc]
                  have e3 : ¬ (s[i].toNat : Int) = 32 := by omega
                  rw [he4] at and3
                  clear he4 hev
                  clear hc hcb HTx
                  go_wp2
                  go_roundw
                  case rel => exact ⟨i + 1, k + 1, b2, by omega, by omega, rfl, by go_num, by go_num, HT, Hid.of (H.out.next (by first | exact Below.refl _ _ | exact (Below.refl _ _).alloc (Nat.le_refl _) _))⟩
                  case measure => simp [RowKit.intOf]; omega
                · have kk := hk
                  have GK : Hid (gapAt gs k = 2) := Hid.of (by unfold gapAt; rw [if_pos kl, hev, he4]; rfl)
                  have hcat := fun w => run_string_add_sum (P := Tryd.prog) (w := w) b ⟨#[32, 35, 32, 120, 32, 121, 10]⟩ (by have h1 : (⟨#[32, 35, 32, 120, 32, 121, 10]⟩ : ByteArray).size = 7 := rfl; have := BL.out; omega)
                  have HT : Hid ((b ++ (⟨#[32, 35, 32, 120, 32, 121, 10]⟩ : ByteArray)).data.toList ++ spaced (gapAt gs) (k + 1) (s.data.toList.drop (i + 1)) = T) := Hid.of (by
                    have h := HTx.out
                    rw [spaced, if_neg (by omega), if_pos hc, GK.out] at h
                    rw [append_list, List.append_assoc]
                    exact h)
                  generalize b ++ (⟨#[32, 35, 32, 120, 32, 121, 10]⟩ : ByteArray) = b2 at hcat HT
                  have e1 : ((s[i].toNat : Int) == 32) = false := by simp [hc]
                  have e2 : ((s[i].toNat : Int) == 10) = true := by simp [hc]
                  have e3 : ¬ (s[i].toNat : Int) = 32 := by omega
                  rw [he4] at and3
                  clear he4 hev
                  clear hc hcb HTx
                  go_wp2
                  go_roundw
                  case rel => exact ⟨i + 1, k + 1, b2, by omega, by omega, rfl, by go_num, by go_num, HT, Hid.of (H.out.next (by first | exact Below.refl _ _ | exact (Below.refl _ _).alloc (Nat.le_refl _) _))⟩
                  case measure => simp [RowKit.intOf]; omega
                · have kk := hk
                  have GK : Hid (gapAt gs k = 3) := Hid.of (by unfold gapAt; rw [if_pos kl, hev, he4]; rfl)
                  have hcat := fun w => run_string_add_sum (P := Tryd.prog) (w := w) b ⟨#[10, 35, 32, 116, 105, 101, 114, 32, 122, 10]⟩ (by have h1 : (⟨#[10, 35, 32, 116, 105, 101, 114, 32, 122, 10]⟩ : ByteArray).size = 10 := rfl; have := BL.out; omega)
                  have HT : Hid ((b ++ (⟨#[10, 35, 32, 116, 105, 101, 114, 32, 122, 10]⟩ : ByteArray)).data.toList ++ spaced (gapAt gs) (k + 1) (s.data.toList.drop (i + 1)) = T) := Hid.of (by
                    have h := HTx.out
                    rw [spaced, if_neg (by omega), if_pos hc, GK.out] at h
                    rw [append_list, List.append_assoc]
                    exact h)
                  generalize b ++ (⟨#[10, 35, 32, 116, 105, 101, 114, 32, 122, 10]⟩ : ByteArray) = b2 at hcat HT
                  have e1 : ((s[i].toNat : Int) == 32) = false := by simp [hc]
                  have e2 : ((s[i].toNat : Int) == 10) = true := by simp [hc]
                  have e3 : ¬ (s[i].toNat : Int) = 32 := by omega
                  rw [he4] at and3
                  clear he4 hev
                  clear hc hcb HTx
                  go_wp2
                  go_roundw
                  case rel => exact ⟨i + 1, k + 1, b2, by omega, by omega, rfl, by go_num, by go_num, HT, Hid.of (H.out.next (by first | exact Below.refl _ _ | exact (Below.refl _ _).alloc (Nat.le_refl _) _))⟩
                  case measure => simp [RowKit.intOf]; omega
              · have k2 : ¬ (k : Int) < (M : Int) := by have := HM.out; omega
                have GK : Hid (gapAt gs k = 0) := Hid.of (by unfold gapAt; rw [if_neg kl])
                have hcat := fun w => run_string_add_sum (P := Tryd.prog) (w := w) b (s.extract i (i + 1)) (by have h1 := one_size s i; have := BL.out; omega)
                have HT : Hid ((b ++ ((s.extract i (i + 1)) : ByteArray)).data.toList ++ spaced (gapAt gs) (k + 1) (s.data.toList.drop (i + 1)) = T) := Hid.of (by
                  have h := HTx.out
                  rw [spaced, if_neg (by omega), if_pos hc, GK.out] at h
                  rw [append_list, List.append_assoc]
                  rw [one_text hlt hcb]
                  exact h)
                generalize b ++ ((s.extract i (i + 1)) : ByteArray) = b2 at hcat HT
                have e1 : ((s[i].toNat : Int) == 32) = false := by simp [hc]
                have e2 : ((s[i].toNat : Int) == 10) = true := by simp [hc]
                have e3 : ¬ (s[i].toNat : Int) = 32 := by omega
                clear hc hcb HTx
                go_wp2
                go_roundw
                case rel => exact ⟨i + 1, k + 1, b2, by omega, by omega, rfl, by go_num, by go_num, HT, Hid.of (H.out.next (by first | exact Below.refl _ _ | exact (Below.refl _ _).alloc (Nat.le_refl _) _))⟩
                case measure => simp [RowKit.intOf]; omega
            · have hcat := fun w => run_string_add_sum (P := Tryd.prog) (w := w) b (s.extract i (i + 1)) (by have h1 := one_size s i; have := BL.out; omega)
              have HT : Hid ((b ++ s.extract i (i + 1)).data.toList ++ spaced (gapAt gs) k (s.data.toList.drop (i + 1)) = T) := Hid.of (by
                have h := HTx.out
                rw [spaced, if_neg hc, if_neg hc2] at h
                rw [append_list, List.append_assoc, one_text hlt rfl]
                exact h)
              generalize b ++ s.extract i (i + 1) = b2 at hcat HT
              have e1 : ((s[i].toNat : Int) == 32) = false := by rw [beq_eq_false_iff_ne]; omega
              have e2 : ((s[i].toNat : Int) == 10) = false := by rw [beq_eq_false_iff_ne]; omega
              have e3 : ¬ (s[i].toNat : Int) = 32 := by omega
              have e4 : ¬ (s[i].toNat : Int) = 10 := by omega
              clear hc hc2 HTx
              go_wp2
              go_roundw
              case rel => exact ⟨i + 1, k, b2, by omega, by omega, rfl, rfl, by go_num, HT, H⟩
              case measure => simp [RowKit.intOf]; omega
        · have hil : i = s.size := by omega
          have i1 : ¬ (i : Int) < (s.size : Int) := by omega
          have BT : Hid (b.data.toList = T) := Hid.of (by
            have h := HT0.out
            rw [List.drop_eq_nil_of_le (by rw [byte_len]; omega)] at h
            simpa [spaced] using h)
          have BS : Hid (b.size ≤ maxLen) := Hid.of (by rw [← byte_len, BT.out]; have := TL.out; unfold maxLen; omega)
          clear HT0
          go_wp2_with fail
          refine (S.read b _ H.out.ok BS.out).mono ?_
          rintro e w4 ⟨v, rfl, ov, b4⟩
          rw [BT.out, HR.out] at ov ⊢
          obtain ⟨vs, rfl, os⟩ := ov
          obtain ⟨ta, tc, rfl, -⟩ := own_one os
          have H4 := Hid.of (H.out.next b4)
          have hr := own_row os
          have hcp := Hid.of (own_cap os)
          obtain ⟨w5, hw5⟩ : ∃ w5, w4.alloc (.cells #[.string p.1, .slice ta p.2.length tc] 24) = w5 := ⟨_, rfl⟩
          have V5 : Hid (VPol w5 w4.heap.size p (.slice ta p.2.length tc)) := Hid.of (by rw [← hw5]; exact VPol.made hr hcp.out)
          have H5 : Hid (PH S w w.heap.size n (.slice sa N sc) p w5) := Hid.of (by rw [← hw5]; exact H4.out.next ((Below.refl _ _).alloc (Nat.le_refl _) _))
          have HW := Hid.of hw5
          clear b4 os hr hw5 H H4
          simp only
          go_wp2_with fail
          rw [HW.out]
          clear HW
          generalize w4.heap.size = a5 at *
          refine (polAlive_any S _ H5.out.ok).mono ?_
          rintro e w6 ⟨rfl, b6⟩
          have V6 := Hid.of (V5.out.next b6)
          have H6 := Hid.of (H5.out.next b6)
          clear b6 V5 H5
          obtain ⟨c0, c1⟩ := H6.out.k3.at
          obtain ⟨c2, c3⟩ := V6.out.blk.at
          go_wp2_with fail
          refine (S.same _ _ p p _ H6.out.ok SP.out SP.out H6.out.r3 V6.out.pol).mono ?_
          rintro e w7 ⟨rfl, b7⟩
          rw [show decide (p = p) = true from decide_eq_true rfl]
          go_wp2
          go_ret
          exact ⟨rfl, H6.out.end_ b7⟩
    · obtain ⟨i, hpp⟩ : ∃ i, pPrint p = (⟨#[]⟩, i) ∧ ¬ i = 0 := ⟨_, by unfold pPrint; rw [if_neg hc], hc⟩
      have q1 : (i != 0) = true := by simpa using hpp.2
      rw [hpp.1]
      clear hpp hc
      go_wp2_with fail
      refine (polAlive_any S _ H3.out.ok).mono ?_
      rintro e w4 ⟨rfl, b4⟩
      go_wp2
      go_ret
      exact ⟨rfl, H3.out.end_ b4⟩
  · have key : r = false ∨ (r = true ∧ (60 : Int) < (M : Int)) := by
      cases r with
      | false => exact .inl rfl
      | true =>
        simp only [true_and] at hc ⊢
        omega
    clear hc
    rcases key with rfl | ⟨rfl, h1⟩
    all_goals
      go_wp2_with fail
      refine (polAlive_any S _ H2.out.ok).mono ?_
      rintro e w3 ⟨rfl, b3⟩
      go_wp2
      go_ret
      exact ⟨rfl, H2.out.end_ b3⟩

end Go.Proofs.YtadepjpmpjipmaaDoor
