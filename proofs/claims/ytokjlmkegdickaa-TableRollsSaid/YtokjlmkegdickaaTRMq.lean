/-
  Plain facts for TableRolls: rolled in two steps it is as at once; of what is not left out nothing is lost.
-/
import Derived.Test.YtokjlmkegdickaaTFIq
namespace Go.Proofs.Ytokjlmkegdickaa
open Go.RowKit Go.Lib

theorem floor_floor {t a b : Int} (ha : 1 ≤ a) (hb : 1 ≤ b) (ht : 0 ≤ t) : gFloor (gFloor t a) (a * b) = gFloor t (a * b) := by
  have m1 : 1 * 1 ≤ a * b := Int.mul_le_mul ha hb (by omega) (by omega)
  have m3 : 1 ≤ a * b := by omega
  obtain ⟨p0, p1⟩ := gPast_bounds t ha
  have f1 := gFloor_plain0 ht ha
  have h0 : 0 ≤ gFloor t a := by have : gPast t a ≤ t := past_le ha ht; omega
  have f3 := gFloor_plain0 ht m3
  have f4 := gFloor_plain0 h0 m3
  have g4 : gPast (gFloor t a) (a * b) = gPast t (a * b) - gPast t a := by
    have h1 : gPast (gPast t (a * b)) a = gPast t a := by
      unfold gPast
      exact Int.emod_emod_of_dvd t (Int.dvd_mul_right a b)
    obtain ⟨r0, r1⟩ := gPast_bounds t m3
    have h2 : gPast t a ≤ gPast t (a * b) := by
      rw [← h1]
      unfold gPast at *
      exact past_le (by omega) r0
    rw [f1]
    have h3 : t - gPast t a = (gPast t (a * b) - gPast t a) + (t / (a * b)) * (a * b) := by
      have := Int.mul_ediv_add_emod t (a * b)
      unfold gPast at *
      rw [Int.mul_comm (t / (a * b))]
      omega
    rw [h3]
    show (gPast t (a * b) - gPast t a + t / (a * b) * (a * b)) % (a * b) = _
    rw [Int.add_mul_emod_self_right]
    exact Int.emod_eq_of_lt (by omega) (by omega)
  omega

theorem floor_nonneg {t e : Int} (he : 1 ≤ e) (ht : 0 ≤ t) : 0 ≤ gFloor t e := by
  have := gFloor_plain0 ht he
  have : gPast t e ≤ t := past_le he ht
  omega

theorem ok_s {e : Int} {x : TRec} (h : tOk e x = true) : 0 ≤ x.s := by
  unfold tOk at h
  simp only [Bool.and_eq_true, decide_eq_true_eq] at h
  exact h.1.1.2

theorem ok_on {e : Int} {x : TRec} (h : tOk e x = true) : gOn x.s e = true := by
  unfold tOk at h
  simp only [Bool.and_eq_true] at h
  exact h.1.2

/-- Rolled, and nothing left out. -/
theorem roll_zero {e e' : Int} {L : List TRec} (he : 1 ≤ e') (hd : e'.tmod e = 0) (ho : ∀ x ∈ L, tOk e x = true) : tRoll e L e' 0 = tAdds e' [] (L.map (tFl e')) := by
  unfold tRoll
  rw [show max e' 1 = e' by omega, if_pos hd, List.filter_eq_self.2]
  intro x hx
  obtain ⟨y, hy, rfl⟩ := List.mem_map.1 hx
  exact decide_eq_true (floor_nonneg he (ok_s (ho y hy)))

theorem roll_twice {L : List TRec} {a b : Int} (h : TMade L 1) (ha : 1 ≤ a) (hb : 1 ≤ b) : tRoll a (tRoll 1 L a 0) (a * b) 0 = tRoll 1 L (a * b) 0 := by
  have m1 : 1 * 1 ≤ a * b := Int.mul_le_mul ha hb (by omega) (by omega)
  have m3 : 1 ≤ a * b := by omega
  have hr : ∀ x ∈ L.map (tFl a), AgIn x.a := by
    intro x hx
    obtain ⟨y, hy, rfl⟩ := List.mem_map.1 hx
    exact (h.al y hy).2
  have ho : ∀ x ∈ L.map (tFl a), tOk a x = true := by
    intro x hx
    obtain ⟨y, hy, rfl⟩ := List.mem_map.1 hx
    exact tFl_ok ha (h.ok y hy)
  have h1 := roll_zero (e := 1) ha (Int.tmod_one a) h.ok
  have h2 := roll_zero (e := 1) m3 (Int.tmod_one (a * b)) h.ok
  rw [h1, h2]
  have oA := tAdds_ok (e := a) (l := []) (fun _ hx => absurd hx List.not_mem_nil) hr all_nil
  rw [roll_zero m3 (Int.mul_tmod_right a b) oA, tAdds_roll m3 ho hr, List.map_map]
  congr 1
  apply List.map_congr_left
  intro x hx
  show (⟨x.n, gFloor (gFloor x.s a) (a * b), x.a⟩ : TRec) = ⟨x.n, gFloor x.s (a * b), x.a⟩
  rw [floor_floor ha hb (ok_s (h.ok x hx))]

theorem roll_len (e : Int) (L : List TRec) (e' f : Int) : (tRoll e L e' f).length ≤ L.length := by
  unfold tRoll
  split
  · refine Nat.le_trans (tAdds_len _ _ _) ?_
    have := List.length_filter_le (fun x : TRec => decide (f ≤ x.s)) (L.map (tFl (max e' 1)))
    rw [List.length_map] at this
    simpa using this
  · exact Nat.zero_le _

/-- What a cut one has. -/
theorem roll_cut {L : List TRec} {a f : Int} (ha : 1 ≤ a) : tRoll 1 L a f = tAdds a [] ((L.map (tFl a)).filter fun x => decide (f ≤ x.s)) := by
  unfold tRoll
  rw [show max a 1 = a by omega, if_pos (Int.tmod_one a)]

theorem cut_facts {L : List TRec} {a f : Int} (h : TMade L 1) (ha : 1 ≤ a) :
    (∀ x ∈ tRoll 1 L a f, f ≤ x.s ∧ a ∣ x.s ∧ TGood x) ∧ tW (fun _ => true) (tRoll 1 L a f) = tW (fun k => decide (f ≤ gFloor k.2 a)) L := by
  have hr : ∀ x ∈ (L.map (tFl a)).filter (fun x => decide (f ≤ x.s)), AgIn x.a := by
    intro x hx
    obtain ⟨y, hy, rfl⟩ := List.mem_map.1 (List.mem_filter.1 hx).1
    exact (h.al y hy).2
  have ho : ∀ x ∈ (L.map (tFl a)).filter (fun x => decide (f ≤ x.s)), tOk a x = true := by
    intro x hx
    obtain ⟨y, hy, rfl⟩ := List.mem_map.1 (List.mem_filter.1 hx).1
    exact tFl_ok ha (h.ok y hy)
  rw [roll_cut ha]
  refine ⟨fun x hx => ⟨?_, ?_, tAdds_all all_nil hr x hx⟩, ?_⟩
  · exact tAdds_s (Q := fun s => f ≤ s) (fun _ hx => absurd hx List.not_mem_nil) (fun y hy => of_decide_eq_true (List.mem_filter.1 hy).2) x hx
  · exact (gOn_dvd.1 (ok_on (tAdds_ok (e := a) (l := []) (fun _ hx => absurd hx List.not_mem_nil) hr all_nil x hx))).2
  · rw [tW_of hr, filter_ok ho]
    unfold tW
    rw [List.filter_eq_self.2 (fun _ _ => rfl), List.filter_map, List.map_map]
    rfl

theorem tW_snoc {P : TKey → Bool} {l : List TRec} {x : TRec} : tW P (l ++ [x]) = if P x.k = true then agJoin (tW P l) x.a else tW P l := by
  unfold tW
  rw [List.filter_append, List.map_append, agAll_append, List.filter_cons]
  split
  · rfl
  · rfl

theorem tW_next {P : TKey → Bool} {L : List TRec} {i : Nat} {x : TRec} (hx : L[i]? = some x) : tW P (L.take (i + 1)) = if P x.k = true then agJoin (tW P (L.take i)) x.a else tW P (L.take i) := by
  rw [List.take_add_one, hx]
  exact tW_snoc

end Go.Proofs.Ytokjlmkegdickaa
