/-
  What function Number of package pack answers.
-/
import Derived.Test.YtdlljjbooajgiaaDoorM
import Derived.Test.YtdlljjbooajgiaaDoorU
import Derived.Stop.LaidErr
namespace Go.Proofs.YtdlljjbooajgiaaDoor
open Go.RowKit Go.Lib

/-- The library's two errors of strconv lie in w. -/
def Errs (w : World) : Prop := (∃ tp p, w.var? Tryd.prog "strconv.ErrSyntax" = some #[.iface tp p]) ∧ ∃ tp p, w.var? Tryd.prog "strconv.ErrRange" = some #[.iface tp p]

theorem synNamed : Tryd.prog.globalNamed "strconv.ErrSyntax" = some 0 := by kernel_rfl
theorem rngNamed : Tryd.prog.globalNamed "strconv.ErrRange" = some 1 := by kernel_rfl

theorem Errs.below {w0 w w' : World} (h : Errs w) (hb : Below w0.heap.size w w') (hB : 2 ≤ w0.heap.size) : Errs w' := by
  obtain ⟨⟨t1, p1, h1⟩, t2, p2, h2⟩ := h
  exact ⟨⟨t1, p1, var?_below hb synNamed (by omega) h1⟩, t2, p2, var?_below hb rngNamed (by omega) h2⟩

theorem bytesWorld_below (w : World) (e : TypeId) (t : ByteArray) : Below w.heap.size w (Lib.bytesWorld w e t) := by
  unfold Lib.bytesWorld
  refine ⟨rfl, rfl, rfl, ?_, ?_⟩
  · simp [World.freeze]
  · intro k hk
    simp only [World.freeze]
    rw [if_neg (by decide), Array.getElem?_modify]
    have hne : ¬ w.heap.size = k := by omega
    simp only [hne, if_false]
    exact Below.heap_alloc w.drew _ k hk

theorem Atoi_ok (s : ByteArray) (hs : s.size ≤ 1000000) (v : Int) (h : Lib.atoiAll s.data.toList = .ok v) (w : World) :
    Calls Tryd.prog 34 #[.string s] w fun e w' => e = .returned (.tuple #[.int .i64 v, .nilIface]) ∧ Below w.heap.size w w' := by
  refine (Tryd.strconv_Atoi_ok s (by omega) v h w).mono ?_
  rintro e w' ⟨he, hw⟩
  refine ⟨he, ?_⟩
  rcases hw with rfl | ⟨t, rfl⟩
  · exact Below.refl _ _
  · exact bytesWorld_below _ _ _

theorem Atoi_bad (s : ByteArray) (hs : s.size ≤ 1000000) (h : ∀ v, Lib.atoiAll s.data.toList ≠ .ok v) (w : World) (he : Errs w) :
    Calls Tryd.prog 34 #[.string s] w fun e w' => ∃ n te pe, e = .returned (.tuple #[.int .i64 n, .iface te pe]) ∧ Below w.heap.size w w' := by
  obtain ⟨⟨t1, p1, h1⟩, t2, p2, h2⟩ := he
  cases ha : Lib.atoiAll s.data.toList
  case ok v => exact absurd ha (h v)
  case range =>
    refine (Tryd.strconv_Atoi_range_var s (by omega) ha t2 p2 w h2).mono ?_
    rintro e w' ⟨N, he, _, _, hb⟩
    exact ⟨_, _, _, he, hb⟩
  · refine (Any.strconv_Atoi_syntax_var Tryd.laysC172 s (by omega) ha t1 p1 w h1).mono ?_
    rintro e w' ⟨N, he, _, _, hb⟩
    exact ⟨_, _, _, he, hb⟩

set_option maxHeartbeats 400000 in
theorem Number_err (s : ByteArray) (hs : s.size ≤ 1000000) (h : Hid (∀ v, Lib.atoiAll s.data.toList ≠ .ok v)) (w : World) (he : Hid (Errs w)) :
    Calls Tryd.prog 12 #[.string s] w fun e w' => e = .returned (.tuple #[.int .i64 0, .int .i64 1]) ∧ Below w.heap.size w w' := by
  go_enter Tryd.func12, Tryd.ntmps12
  go_wp2_with (go_at_call 34; refine (Atoi_bad s hs h.out _ he.out).mono ?_; rintro e w2 ⟨n, te, pe, rfl, b2⟩)
  go_ret2
  exact ⟨rfl, b2⟩

/-- An int of at most eighteen digits. -/
def Small18 (v : Int) : Prop := -1000000000000000000 < v ∧ v < 1000000000000000000

theorem bounds18 {v : Int} (h : Small18 v) : -9223372036854775808 ≤ v ∧ v ≤ 9223372036854775807 := by unfold Small18 at h; omega

theorem Digits_str (n : Int) (h0 : -9223372036854775808 ≤ n) (h1 : n ≤ 9223372036854775807) (w : World) (htab : Hid (Tab w)) :
    Calls Tryd.prog 14 #[.int .i64 n] w fun e w' => ∃ d : ByteArray, e = .returned (.string d) ∧ Hid (d.data.toList = Lib.itoa n) ∧ w.grownBy w' none :=
  (Digits_any n h0 h1 w htab).mono fun _ _ ⟨he, hg⟩ => ⟨_, he, rfl, hg⟩

set_option maxHeartbeats 400000 in
theorem Number_same (s : ByteArray) (hs : s.size ≤ 1000000) (v : Int) (h : Hid (Lib.atoiAll s.data.toList = .ok v)) (hv : Hid (Small18 v)) (hd : Hid (Lib.itoa v = s.data.toList)) (w : World) (htab : Hid (Tab w)) :
    Calls Tryd.prog 12 #[.string s] w fun e w' => e = .returned (.tuple #[.int .i64 v, .int .i64 0]) ∧ Below w.heap.size w w' := by
  have d1 : ¬ v ≤ -1000000000000000000 := by have := hv.out.1; omega
  have d2 : ¬ v ≥ 1000000000000000000 := by have := hv.out.2; omega
  go_enter Tryd.func12, Tryd.ntmps12
  go_wp2_with fail
  refine (Atoi_ok s hs v h.out _).mono ?_
  rintro e w2 ⟨rfl, b2⟩
  have T2 := Hid.of (htab.out.below b2 (Nat.le_refl _))
  go_wp2_with fail
  refine (Digits_str v (bounds18 hv.out).1 (bounds18 hv.out).2 _ T2).mono ?_
  rintro e w3 ⟨d, rfl, hdd, g3⟩
  have hq : (d.toList == s.toList) = true := by rw [ByteArray.toList_eq, ByteArray.toList_eq, hdd.out, hd.out]; exact beq_self_eq_true _
  have b3 : Below w.heap.size w w3 := b2.trans ((below_of_none g3).mono b2.size)
  clear g3 T2 b2
  go_wp2
  go_ret2
  exact ⟨rfl, b3⟩

set_option maxHeartbeats 400000 in
theorem Number_other (s : ByteArray) (hs : s.size ≤ 1000000) (v : Int) (h : Hid (Lib.atoiAll s.data.toList = .ok v)) (hv : Hid (Small18 v)) (hd : Hid (Lib.itoa v ≠ s.data.toList)) (w : World) (htab : Hid (Tab w)) :
    Calls Tryd.prog 12 #[.string s] w fun e w' => e = .returned (.tuple #[.int .i64 0, .int .i64 1]) ∧ Below w.heap.size w w' := by
  have d1 : ¬ v ≤ -1000000000000000000 := by have := hv.out.1; omega
  have d2 : ¬ v ≥ 1000000000000000000 := by have := hv.out.2; omega
  go_enter Tryd.func12, Tryd.ntmps12
  go_wp2_with fail
  refine (Atoi_ok s hs v h.out _).mono ?_
  rintro e w2 ⟨rfl, b2⟩
  have T2 := Hid.of (htab.out.below b2 (Nat.le_refl _))
  go_wp2_with fail
  refine (Digits_str v (bounds18 hv.out).1 (bounds18 hv.out).2 _ T2).mono ?_
  rintro e w3 ⟨d, rfl, hdd, g3⟩
  have hq : (d.toList == s.toList) = false := by rw [ByteArray.toList_eq, ByteArray.toList_eq, hdd.out]; exact beq_false_of_ne hd.out
  have b3 : Below w.heap.size w w3 := b2.trans ((below_of_none g3).mono b2.size)
  clear g3 T2 b2
  go_wp2
  go_ret2
  exact ⟨rfl, b3⟩

set_option maxHeartbeats 400000 in
theorem Number_big (s : ByteArray) (hs : s.size ≤ 1000000) (v : Int) (h : Hid (Lib.atoiAll s.data.toList = .ok v)) (hv : v ≤ -1000000000000000000 ∨ 1000000000000000000 ≤ v) (w : World) :
    Calls Tryd.prog 12 #[.string s] w fun e w' => e = .returned (.tuple #[.int .i64 0, .int .i64 1]) ∧ Below w.heap.size w w' := by
  have key : ∀ hv : v ≤ -1000000000000000000 ∨ (¬ v ≤ -1000000000000000000 ∧ v ≥ 1000000000000000000), Calls Tryd.prog 12 #[.string s] w fun e w' => e = .returned (.tuple #[.int .i64 0, .int .i64 1]) ∧ Below w.heap.size w w' := by
    clear hv
    intro hv
    rcases hv with d1 | ⟨d1, d2⟩
    all_goals
      go_enter Tryd.func12, Tryd.ntmps12
      go_wp2_with fail
      refine (Atoi_ok s hs v h.out _).mono ?_
      rintro e w2 ⟨rfl, b2⟩
      go_wp2
      go_ret2
      exact ⟨rfl, b2⟩
  exact key (by omega)

/-- What Number answers, in Lean's own words. -/
def number (l : List UInt8) : Int × Int :=
  match Lib.atoiAll l with
  | .ok v => if (-1000000000000000000 < v ∧ v < 1000000000000000000) ∧ Lib.itoa v = l then (v, 0) else (0, 1)
  | _ => (0, 1)

theorem Number_any (s : ByteArray) (hs : s.size ≤ 1000000) (w : World) (htab : Hid (Tab w)) (he : Hid (Errs w)) :
    Calls Tryd.prog 12 #[.string s] w fun e w' => e = .returned (.tuple #[.int .i64 (number s.data.toList).1, .int .i64 (number s.data.toList).2]) ∧ Below w.heap.size w w' := by
  by_cases h : ∃ v, Lib.atoiAll s.data.toList = .ok v
  · obtain ⟨v, hv⟩ := h
    by_cases h18 : -1000000000000000000 < v ∧ v < 1000000000000000000
    · by_cases hd : Lib.itoa v = s.data.toList
      · have e : number s.data.toList = (v, 0) := by unfold number; rw [hv]; exact if_pos ⟨h18, hd⟩
        rw [e]
        exact Number_same s hs v hv h18 hd w htab
      · have e : number s.data.toList = (0, 1) := by unfold number; rw [hv]; exact if_neg fun hc => hd hc.2
        rw [e]
        exact Number_other s hs v hv h18 hd w htab
    · have e : number s.data.toList = (0, 1) := by unfold number; rw [hv]; exact if_neg fun hc => h18 hc.1
      rw [e]
      exact Number_big s hs v hv (by omega) w
  · have hn : ∀ v, Lib.atoiAll s.data.toList ≠ .ok v := fun v hv => h ⟨v, hv⟩
    have e : number s.data.toList = (0, 1) := by
      unfold number
      split
      · rename_i v hv; exact absurd hv (hn v)
      · rfl
    rw [e]
    exact Number_err s hs hn w he

end Go.Proofs.YtdlljjbooajgiaaDoor
