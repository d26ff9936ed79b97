/-
  The law's own fold (all), and the lists of ints that are lent with a mark behind them: LentInts, SameInts, StaysInts.
-/
import Derived.Test.YtfoffoiimlgoeaaAGQ
import Derived.Test.YtfoffoiimlgoeaaBT
namespace Go.Proofs.Ytfoffoiimlgoeaa
open Go.RowKit Go.Lib

theorem refAll_take (l : List Ag) (hl : ∀ x ∈ l, AgIn x) (j : Nat) (h : j < l.length) : agAll agZero (l.take (j + 1)) = agRef (agAll agZero (l.take j)) (l.getD j agZero) := by
  rw [agAll_take _ _ _ h, agRef_join (agAll_good agZero_good fun y hy => hl y (List.mem_of_mem_take hy))]

set_option maxHeartbeats 800000 in
theorem lawAll_any (v : Value) (l : List Ag) (w : World) (hv : AgRow w v l) (hl : ∀ x ∈ l, AgIn x) (hn : l.length ≤ 1000000) :
    Calls Try.prog 14 #[v] w fun e w' => e = .returned (agv (agAll agZero l)) ∧ Below w.heap.size w w' := by
  obtain ⟨a, c, rfl, hv⟩ := hv
  have HV := Hid.of hv
  have HL := Hid.of hl
  clear hv hl
  go_enter Try.func14, Try.ntmps14
  go_wp2
  go_loopw [4] (fun i wr => ∃ j : Nat, j ≤ l.length ∧ i = .int .i64 j ∧ Below w.heap.size w wr ∧ Hid (AgBlk wr w.heap.size agZero) ∧ Hid (AgBlk wr (w.heap.size + 1) (agAll agZero (l.take j)))) (fun i _ => l.length - (RowKit.intOf i).toNat)
  case atStart =>
    exact ⟨0, Nat.zero_le _, rfl, ((Below.refl _ _).alloc (Nat.le_refl _) _).alloc (by simp) _, Hid.of ((AgBlk.new _ agZero).alloc _), Hid.of (AgBlk.made _ agZero _ _ (by simp) (by rfl))⟩
  case round =>
    obtain ⟨j, hj, rfl, hb, h0, h1⟩ := hrel
    by_cases hlt : j < l.length
    · have hne : l ≠ [] := by intro e; subst e; simp at hlt
      obtain ⟨vb, vo, rfl, hvb, hcs⟩ := (HV.out).resolve_left hne
      obtain ⟨x, hxx⟩ : ∃ x, l.getD j agZero = x := ⟨_, rfl⟩
      have hat := (hcs j hlt).kept hb hvb
      rw [hxx] at hat
      have HT := Hid.of (refAll_take l HL.out j hlt)
      rw [hxx] at HT
      have IX : Hid (AgIn x) := Hid.of (by rw [← hxx]; simp only [List.getD, List.getElem?_eq_getElem hlt, Option.getD_some]; exact HL.out _ (List.getElem_mem hlt))
      have IA : Hid (AgIn (agAll agZero (l.take j))) := Hid.of (agAll_in agZero_in fun y hy => HL.out y (List.mem_of_mem_take hy))
      obtain ⟨s, hs⟩ : ∃ s, agAll agZero (l.take j) = s := ⟨_, rfl⟩
      rw [hs] at HT IA h1
      obtain ⟨x0, x1, x2, x3, x4⟩ := hat
      obtain ⟨s0, s1, s2, s3, s4⟩ := h1.out.at
      have i0 : (0 : Int) ≤ (j : Int) := Int.natCast_nonneg _
      have i1 : (j : Int) < (l.length : Int) := by omega
      have lt1 := h1.out.lt
      clear hcs hne hxx hs
      go_wp2
      refine wp_region_noPanic ?_
      go_region_with (first | (go_at_call 11; refine (refMerge_any s x IA.out IX.out _).mono ?_; rintro e w2 ⟨rfl, b2⟩; have c2 := (Below.refl wr.heap.size wr).drew.trans b2; have g0 := Hid.of (h0.out.kept c2); have g1 := Hid.of (h1.out.kept c2); have B2 := Hid.of (hb.trans (c2.mono hb.size)); obtain ⟨r0, r1, r2, r3, r4⟩ := g1.out.at; have lt2 := g1.out.lt; have fz := g1.out.frozen; clear b2 c2 s0 s1 s2 s3 s4 x0 x1 x2 x3 x4))
      all_goals
        refine NoPanic.normal ?_
        go_wp2
        go_roundw
        case rel => exact ⟨j + 1, by omega, by go_num, below_set5 B2.out (by omega) (agRef s x), Hid.of (g0.out.set_other _ (by omega)), Hid.of (by rw [HT.out]; exact g1.out.set _)⟩
        case measure => simp [RowKit.intOf]; omega
    · have hjl : j = l.length := by omega
      subst hjl
      rw [List.take_length] at h1
      obtain ⟨s, hs⟩ : ∃ s, agAll agZero l = s := ⟨_, rfl⟩
      rw [hs] at h1
      have HS := Hid.of hs
      obtain ⟨s0, s1, s2, s3, s4⟩ := h1.out.at
      have fz := h0.out.frozen
      have lt0 := h0.out.lt
      obtain ⟨q0, q1, q2, q3, q4⟩ := h0.out.at
      clear hs
      go_wp2
      refine bodyPost_ret (v := agv s) ?_ rfl ⟨by rw [HS.out], ?_⟩
      · simp [results, Try.results14, go_sem, q0, q1, q2, q3, q4]
      · exact below_set5 hb (Nat.le_refl _) s

end Go.Proofs.Ytfoffoiimlgoeaa
