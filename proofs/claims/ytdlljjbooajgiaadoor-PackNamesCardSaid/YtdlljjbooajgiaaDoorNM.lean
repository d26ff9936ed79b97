/-
  What statement PackNames answers: true, for every input.
-/
import Derived.Test.YtdlljjbooajgiaaDoorBK
import Derived.Test.YtdlljjbooajgiaaDoorY
namespace Go.Proofs.YtdlljjbooajgiaaDoor
open Go.RowKit Go.Lib

theorem StrRow.kept {w w' : World} {v : Value} {ss : List ByteArray} (h : StrRow w v ss) (hb : Below w.heap.size w w') : StrRow w' v ss := by
  obtain ⟨a, c, hv, h⟩ := h
  refine ⟨a, c, hv, ?_⟩
  rcases h with h | ⟨b, o, ha, hlt, hc⟩
  · exact .inl h
  · exact .inr ⟨b, o, ha, Nat.lt_of_lt_of_le hlt hb.size, fun j hj => by rw [hb.cell hlt]; exact hc j hj⟩

/-- The first name that is too long, or none is. -/
theorem first_long (ss : List ByteArray) : (∀ j, j < ss.length → (ss.getD j ByteArray.empty).size ≤ 15) ∨ ∃ m, m < ss.length ∧ (∀ j, j < m → (ss.getD j ByteArray.empty).size ≤ 15) ∧ 15 < (ss.getD m ByteArray.empty).size := by
  induction ss with
  | nil => exact .inl fun j hj => by simp at hj
  | cons s ss ih =>
    by_cases h : s.size ≤ 15
    · rcases ih with ih | ⟨m, hm, h1, h2⟩
      · refine .inl fun j hj => ?_
        match j, hj with
        | 0, _ => exact h
        | j + 1, hj => exact ih j (by simpa using hj)
      · refine .inr ⟨m + 1, by simpa using hm, fun j hj => ?_, h2⟩
        match j, hj with
        | 0, _ => exact h
        | j + 1, hj => exact h1 j (by omega)
    · exact .inr ⟨0, by simp, fun j hj => absurd hj (by omega), by show 15 < s.size; omega⟩

set_option maxHeartbeats 800000 in
theorem names_any (sa : Option Addr) (len cap : Nat) (ss : List ByteArray) (hl : ss.length = len) (w : World) (hv : StrRow w (.slice sa len cap) ss) (htab : Hid (Tab w)) :
    Calls Tryd.prog 8 #[.slice sa len cap] w fun e w' => e = .returned (.bool true) ∧ Below w.heap.size w w' := by
  subst hl
  have HV := Hid.of hv
  clear hv
  go_enter Tryd.func8, Tryd.ntmps8
  go_wp2_with fail
  refine (Short_any 20 600 (by decide) (by decide) _ ss _ HV.out).mono ?_
  rintro e w1 ⟨r, rfl, hr, b1⟩
  have T1 := Hid.of (htab.out.below b1 (Nat.le_refl _))
  cases r with
  | false =>
    go_wp2_with fail
    refine (alive_any _ T1).mono ?_
    rintro e w4 ⟨rfl, b4⟩
    have b5 : Below w.heap.size w w4 := b1.trans (b4.mono b1.size)
    clear b4 b1 T1
    go_wp2
    go_ret
    exact ⟨rfl, b5⟩
  | true =>
    have hlen : ss.length ≤ 20 := hr.out rfl
    have HV1 := Hid.of (HV.out.kept b1)
    clear hr
    have hB := b1.size
    rcases first_long ss with hok | ⟨m, hm, hok, hbad⟩
    · have HO := Hid.of hok
      have HM : Hid (∀ s ∈ ss, s.size ≤ 15) := Hid.of (by have := small_mem (Nat.le_refl ss.length) hok; rwa [List.take_length] at this)
      clear hok
      go_wp2_with fail
      refine (Names_pk (Pk.new w1) (by decide) _ ss (HV1.out.kept ((Below.refl _ _).alloc (Nat.le_refl _) _)) HO.out (by omega)).mono ?_
      rintro e w2 ⟨rfl, hk2, g2⟩
      have b2 : Below w.heap.size w w2 := (b1.alloc b1.size _).trans (Below.of_grown g2 b1.size (by simp))
      rw [List.nil_append] at hk2
      have HK2 := Hid.of hk2
      clear hk2 g2
      go_wp2_with fail
      refine (Done_good _ _ _ _ HK2.out (by rw [namesBytes_length ss HM.out]; omega)).mono ?_
      rintro e w3 ⟨rfl, c3⟩
      have b3 : Below w.heap.size w w3 := b2.trans (c3.mono b2.size)
      clear c3 b2 HK2
      obtain ⟨s, hs⟩ : ∃ s : ByteArray, s = ⟨(namesBytes ss).toArray⟩ := ⟨_, rfl⟩
      rw [← hs]
      have HS : Hid (s.data.toList = namesBytes ss) := Hid.of (by rw [hs])
      have HL : Hid (s.size = ss.length * 16) := Hid.of (by rw [← byte_len, HS.out, namesBytes_length ss HM.out])
      clear hs b1 T1
      go_wp2
      go_loopw [6] (fun i wr => ∃ j : Nat, j ≤ ss.length ∧ i = .int .i64 j ∧ Below w.heap.size w wr) (fun i _ => ss.length - (RowKit.intOf i).toNat)
      case atStart => exact ⟨0, Nat.zero_le _, rfl, b3⟩
      case round =>
        obtain ⟨j, hj, rfl, hbe⟩ := hrel
        by_cases hlt : j < ss.length
        · have hne : ss ≠ [] := by intro e; subst e; simp at hlt
          obtain ⟨_, _, hsl, hv⟩ := HV.out
          obtain ⟨vb, vo, ha, hvb, hcs⟩ := hv.resolve_left hne
          simp only [Value.slice.injEq] at hsl
          obtain ⟨rfl, _, rfl⟩ := hsl
          subst ha
          obtain ⟨t, ht⟩ : ∃ t, ss.getD j ByteArray.empty = t := ⟨_, rfl⟩
          have hcell : wr.cell? ⟨vb, vo + j, none⟩ = some (.string t) := by rw [hbe.cell hvb, hcs j hlt, ht]
          have htz := HO.out j hlt
          rw [ht] at htz
          have i0 : (0 : Int) ≤ (j : Int) := Int.natCast_nonneg _
          have i1 : (j : Int) < (ss.length : Int) := by omega
          clear hcs hne ht HV HV1
          go_wp2
          go_roundw
          case rel => exact ⟨j + 1, by omega, by go_num, hbe⟩
          case measure => simp [RowKit.intOf]; omega
        · go_wp2_with fail
          refine (From_any s _ (by rw [HL.out]; omega)).mono ?_
          rintro e w7 ⟨rfl, hu7, g7⟩
          have b7 : Below w.heap.size w w7 := hbe.trans ((below_of_none g7).mono hbe.size)
          obtain ⟨ub, hub⟩ : ∃ ub, ub = wr.heap.size := ⟨_, rfl⟩
          have hub1 : w.heap.size ≤ ub := by rw [hub]; exact hbe.size
          rw [← hub] at hu7 ⊢
          have HU7 : Hid (Un ub s (16 * 0) 0 w7) := Hid.of hu7
          have hs16 : ((s.size : Nat) : Int) = 16 * (ss.length : Int) := by rw [HL.out]; omega
          clear hu7 g7 hub hbe b3
          go_wp2
          clear hs16
          obtain ⟨wo, rfl⟩ : ∃ wo : World, wo = wr := ⟨_, rfl⟩
          go_loopw [8] (fun i wr => ∃ j : Nat, j ≤ ss.length ∧ i = .int .i64 j ∧ Hid (Un ub s (16 * j) 0 wr) ∧ Below w.heap.size w wr) (fun i _ => ss.length - (RowKit.intOf i).toNat)
          case atStart => exact ⟨0, Nat.zero_le _, rfl, HU7, b7⟩
          case round =>
            obtain ⟨j, hj, rfl, HU, hbe⟩ := hrel
            by_cases hlt : j < ss.length
            · have hne : ss ≠ [] := by intro e; subst e; simp at hlt
              obtain ⟨_, _, hsl, hv⟩ := HV.out
              obtain ⟨vb, vo, ha, hvb, hcs⟩ := hv.resolve_left hne
              simp only [Value.slice.injEq] at hsl
              obtain ⟨rfl, _, rfl⟩ := hsl
              subst ha
              obtain ⟨t, ht⟩ : ∃ t, ss.getD j ByteArray.empty = t := ⟨_, rfl⟩
              have hcell : wr.cell? ⟨vb, vo + j, none⟩ = some (.string t) := by rw [hbe.cell hvb, hcs j hlt, ht]
              have htz := HO.out j hlt
              rw [ht] at htz
              have HN : Hid ((s.data.toList.drop (16 * j)).take 16 = nameBytes t) := Hid.of (by
                rw [HS.out, ← ht]
                refine seg (namesBytes_split ss j hlt) ?_ (nameBytes_length _ (HO.out j hlt))
                rw [namesBytes_length _ (fun q hq => HM.out q (List.mem_of_mem_take hq)), List.length_take]
                omega)
              have hsz : 16 * j + 16 ≤ s.size := by rw [HL.out]; omega
              have i0 : (0 : Int) ≤ (j : Int) := Int.natCast_nonneg _
              have i1 : (j : Int) < (ss.length : Int) := by omega
              have hcell0 : Hid (wr.drew.cell? ⟨vb, vo + j, none⟩ = some (.string t)) := hcell
              have et : (t.toList == t.toList) = true := beq_self_eq_true _
              clear hcs hne ht HV HV1
              go_wp2_with fail
              go_region_held3 (fun w' => w'.cell? ⟨vb, vo + j, none⟩ = some (.string t))
                (first | go_keep | exact g8.cell hcell0.out (by simp; omega))
                (first | (go_at_call 28; refine (Name_at ub s t (16 * j) htz hsz HN.out wr _ HU.out (by rfl)).mono ?_; rintro e w8 ⟨rfl, hu8, g8⟩))
              go_wp2
              go_roundw
              case rel => exact ⟨j + 1, by omega, by go_num, Hid.of (by rw [Nat.mul_succ]; exact hu8), hbe.drew.trans (below_of_grown g8 hub1 hbe.drew.size)⟩
              case measure => simp [RowKit.intOf]; omega
            · have T1 := Hid.of (htab.out.below hbe (Nat.le_refl _))
              go_wp2_with fail
              refine (alive_any _ T1).mono ?_
              rintro e w8 ⟨rfl, c8⟩
              have b8 : Below w.heap.size w w8 := hbe.trans (c8.mono hbe.size)
              have HU8 := Hid.of (HU.out.kept (grown_of_below c8))
              clear c8 hbe HU T1
              go_wp2_with fail
              refine (Bad_Un _ _ _ _ _ HU8.out).mono ?_
              rintro e w14 ⟨rfl, rfl⟩
              go_wp2
              go_ret
              exact ⟨rfl, b8⟩
    · have HO := Hid.of hok
      have HB := Hid.of hbad
      clear hok hbad
      go_wp2_with fail
      refine (Names_pk_bad (Pk.new w1) (by decide) _ ss m hm (HV1.out.kept ((Below.refl _ _).alloc (Nat.le_refl _) _)) HO.out HB.out (by omega)).mono ?_
      rintro e w2 ⟨rfl, hk2, g2⟩
      have b2 : Below w.heap.size w w2 := (b1.alloc b1.size _).trans (Below.of_grown g2 b1.size (by simp))
      have HK2 := Hid.of hk2
      clear hk2 g2
      go_wp2_with fail
      refine (Done_bad _ _ _ 2 rfl _ HK2.out).mono ?_
      rintro e w3 ⟨rfl, c3⟩
      have b3 : Below w.heap.size w w3 := b2.trans (c3.mono b2.size)
      clear c3 b2 HK2 b1 T1
      go_wp2
      go_loopw [6] (fun i wr => ∃ j : Nat, j ≤ m ∧ i = .int .i64 j ∧ Below w.heap.size w wr) (fun i _ => m - (RowKit.intOf i).toNat)
      case atStart => exact ⟨0, Nat.zero_le _, rfl, b3⟩
      case round =>
        obtain ⟨j, hj, rfl, hbe⟩ := hrel
        have hlt : j < ss.length := by omega
        have hne : ss ≠ [] := by intro e; subst e; simp at hlt
        obtain ⟨_, _, hsl, hv⟩ := HV.out
        obtain ⟨vb, vo, ha, hvb, hcs⟩ := hv.resolve_left hne
        simp only [Value.slice.injEq] at hsl
        obtain ⟨rfl, _, rfl⟩ := hsl
        subst ha
        obtain ⟨t, ht⟩ : ∃ t, ss.getD j ByteArray.empty = t := ⟨_, rfl⟩
        have hcell : wr.cell? ⟨vb, vo + j, none⟩ = some (.string t) := by rw [hbe.cell hvb, hcs j hlt, ht]
        have i0 : (0 : Int) ≤ (j : Int) := Int.natCast_nonneg _
        have i1 : (j : Int) < (ss.length : Int) := by omega
        by_cases hjm : j < m
        · have htz := HO.out j hjm
          rw [ht] at htz
          clear hcs hne ht HV HV1
          go_wp2
          go_roundw
          case rel => exact ⟨j + 1, by omega, by go_num, hbe⟩
          case measure => simp [RowKit.intOf]; omega
        · have hjl : j = m := by omega
          have htz := HB.out
          rw [← hjl, ht] at htz
          clear hcs hne ht HV HV1 hjl
          have T1 := Hid.of (htab.out.below hbe (Nat.le_refl _))
          go_wp2_with fail
          refine (alive_any _ T1).mono ?_
          rintro e w8 ⟨rfl, c8⟩
          have b8 : Below w.heap.size w w8 := hbe.trans (c8.mono hbe.size)
          clear c8 hbe T1
          go_wp2
          go_ret
          exact ⟨rfl, b8⟩

end Go.Proofs.YtdlljjbooajgiaaDoor
