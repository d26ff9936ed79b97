/-
  A bundle of texts: BNU.
-/
import Derived.Stop.LaidErr
import Derived.LaidMore
import Derived.WalkSmall
import Derived.Test.YtadepjpmpjipmaaGreatDoorRows
import Derived.Test.YtadepjpmpjipmaaGreatDoorQ02
import Derived.Test.YtadepjpmpjipmaaGreatDoorQ01
import Derived.Test.YtadepjpmpjipmaaGreatDoorQ04
/-
  Number and Digits of package pack, in any seat (a seat of the statements of pack itself has them in pack/L, M, V).
-/
namespace Go.Proofs.YtadepjpmpjipmaaGreatDoor
open Go.RowKit Go.Lib

theorem nvar_kept {P : Program} {w w' : World} {n : String} {cs : Array Value} (b : Below w.heap.size w w') (h : w.var? P n = some cs) : w'.var? P n = some cs := by
  unfold World.var? at h ⊢
  cases hg : P.globalNamed n with
  | none => rw [hg] at h; cases h
  | some g =>
    rw [hg] at h
    simp only [Option.bind_some] at h ⊢
    have hl : g < w.heap.size := by
      by_cases c : g < w.heap.size
      · exact c
      · rw [Array.getElem?_eq_none (by omega)] at h
        cases h
    rw [b.block g hl]
    exact h

/-- The library's table of powers of ten lies in w. -/
def Tab (w : World) : Prop := Lib.TabIs Tryz.prog w "internal/strconv.uint64pow10" .u64 Lib.pow10Tab

theorem powNamed : Tryz.prog.globalNamed "internal/strconv.uint64pow10" = some 1 := by kernel_rfl

theorem Tab.kept {w w' : World} (h : Tab w) (hb : Below w.heap.size w w') : Tab w' := nvar_kept hb h

theorem Tab.of_laid {w : World} {rest : List (String × DataW Unit)} (h : laidMet Tryz.prog (("internal/strconv.uint64pow10", Rows.laid_internal_strconv_uint64pow10) :: rest) w) : Tab w :=
  tabIs_of_head (zs := Lib.pow10Tab) (k := .u64) powNamed (t := 168) (e := 106) (n := 20) (by kernel_rfl) Tryz.underlying168 Tryz.underlying106 (by kernel_rfl) (by kernel_rfl) h

/-- The library's two errors of strconv lie in w. -/
def Errs (w : World) : Prop := (∃ tp p, w.var? Tryz.prog "strconv.ErrSyntax" = some #[.iface tp p]) ∧ ∃ tp p, w.var? Tryz.prog "strconv.ErrRange" = some #[.iface tp p]

theorem synNamed : Tryz.prog.globalNamed "strconv.ErrSyntax" = some 4 := by kernel_rfl
theorem rngNamed : Tryz.prog.globalNamed "strconv.ErrRange" = some 5 := by kernel_rfl

theorem Errs.kept {w w' : World} (h : Errs w) (hb : Below w.heap.size w w') : Errs w' := by
  obtain ⟨⟨t1, p1, h1⟩, t2, p2, h2⟩ := h
  exact ⟨⟨t1, p1, nvar_kept hb h1⟩, t2, p2, nvar_kept hb h2⟩

theorem errRow (u : TypeId) (h : Tryz.prog.typeName? 3 u = some "*errors.errorString") : u = 194 := by
  have star : "*" ++ "errors.errorString" = "*errors.errorString" := by decide
  exact typeName_ptr_named (nm := "errors.errorString") (by rw [star]; kernel_rfl) (by kernel_rfl) (by decide) u (by rw [star]; exact h)

theorem errs_of_laid {w : World} {rest : List (String × DataW Unit)} (h : laidMet Tryz.prog (("strconv.ErrRange", Rows.laid_strconv_ErrRange) :: ("strconv.ErrSyntax", Rows.laid_strconv_ErrSyntax) :: rest) w) : Errs w := by
  obtain ⟨a, _, h1, _⟩ := laid_sentinel h rngNamed (ti := 139) (tp := 194) (te := 196) (ts := 9) (by kernel_rfl) Tryz.underlying139 errRow Tryz.underlying194 Tryz.underlying196 rfl rfl Tryz.underlying9 (by kernel_rfl) (by kernel_rfl)
  obtain ⟨b, _, h2, _⟩ := laid_sentinel h.tail synNamed (ti := 139) (tp := 194) (te := 196) (ts := 9) (by kernel_rfl) Tryz.underlying139 errRow Tryz.underlying194 Tryz.underlying196 rfl rfl Tryz.underlying9 (by kernel_rfl) (by kernel_rfl)
  exact ⟨⟨_, _, h2⟩, _, _, h1⟩

theorem grown_of_grow (w : World) (k : Nat) (os : Array Obj) : w.grownBy (Go.Sort.grow (w.drewN k) os) none := by
  -- where Itoa (71) is
  refine ⟨rfl, rfl, rfl, ?_, fun i hi _ => ?_⟩
  · show w.heap.size ≤ (w.heap ++ os).size
    simp
  · show (w.heap ++ os)[i]? = w.heap[i]?
    rw [Array.getElem?_append_left hi]

set_option maxHeartbeats 400000 in
theorem Digits_any (n : Int) (h0 : -9223372036854775808 ≤ n) (h1 : n ≤ 9223372036854775807) (w : World) (htab : Hid (Lib.TabIs Tryz.prog w "internal/strconv.uint64pow10" .u64 Lib.pow10Tab)) :
    Calls Tryz.prog 26 #[.int .i64 n] w fun e w' => e = .returned (.string ⟨(Lib.itoa n).toArray⟩) ∧ w.grownBy w' none := by
  have H0 := Hid.of h0
  have H1 := Hid.of h1
  clear h0 h1
  go_enter Tryz.func26, Tryz.ntmps26
  go_wp2_with (go_at_call 71; refine (Tryz.strconv_Itoa n H0.out H1.out _ htab.out).mono ?_; rintro e w2 ⟨rfl, k, os, h2⟩)
  go_ret
  subst h2
  exact ⟨rfl, grown_of_grow _ _ _⟩

theorem bytesWorld_below (w : World) (e : TypeId) (t : ByteArray) : Below w.heap.size w (Lib.bytesWorld w e t) := by
  unfold Lib.bytesWorld
  refine ⟨rfl, rfl, rfl, ?_, ?_⟩
  · simp [World.freeze]
  · intro k hk
    simp only [World.freeze]
    rw [if_neg (by decide), Array.getElem?_modify]
    have hne : ¬ w.heap.size = k := by omega
    simp only [hne, if_false]
    exact Below.heap_alloc w.drew _ k hk

theorem Atoi_ok (s : ByteArray) (hs : s.size ≤ 1000000) (v : Int) (h : Lib.atoiAll s.data.toList = .ok v) (w : World) :
    Calls Tryz.prog 129 #[.string s] w fun e w' => e = .returned (.tuple #[.int .i64 v, .nilIface]) ∧ Below w.heap.size w w' := by
  refine (Tryz.strconv_Atoi_ok s (by omega) v h w).mono ?_
  rintro e w' ⟨he, hw⟩
  refine ⟨he, ?_⟩
  rcases hw with rfl | ⟨t, rfl⟩
  · exact Below.refl _ _
  · exact bytesWorld_below _ _ _

theorem Atoi_bad (s : ByteArray) (hs : s.size ≤ 1000000) (h : ∀ v, Lib.atoiAll s.data.toList ≠ .ok v) (w : World) (he : Errs w) :
    Calls Tryz.prog 129 #[.string s] w fun e w' => ∃ n te pe, e = .returned (.tuple #[.int .i64 n, .iface te pe]) ∧ Below w.heap.size w w' := by
  obtain ⟨⟨t1, p1, h1⟩, t2, p2, h2⟩ := he
  cases ha : Lib.atoiAll s.data.toList
  case ok v => exact absurd ha (h v)
  case range =>
    refine (Tryz.strconv_Atoi_range_var s (by omega) ha t2 p2 w h2).mono ?_
    rintro e w' ⟨N, he, _, _, hb⟩
    exact ⟨_, _, _, he, hb⟩
  · refine (Any.strconv_Atoi_syntax_var Tryz.laysC172 s (by omega) ha t1 p1 w h1).mono ?_
    rintro e w' ⟨N, he, _, _, hb⟩
    exact ⟨_, _, _, he, hb⟩

set_option maxHeartbeats 400000 in
theorem Number_err (s : ByteArray) (hs : s.size ≤ 1000000) (h : Hid (∀ v, Lib.atoiAll s.data.toList ≠ .ok v)) (w : World) (he : Hid (Errs w)) :
    Calls Tryz.prog 122 #[.string s] w fun e w' => e = .returned (.tuple #[.int .i64 0, .int .i64 1]) ∧ Below w.heap.size w w' := by
  go_enter Tryz.func122, Tryz.ntmps122
  go_wp2_with (go_at_call 129; refine (Atoi_bad s hs h.out _ he.out).mono ?_; rintro e w2 ⟨n, te, pe, rfl, b2⟩)
  go_ret2
  exact ⟨rfl, b2⟩

/-- An int of at most eighteen digits. -/
def Small18 (v : Int) : Prop := -1000000000000000000 < v ∧ v < 1000000000000000000

theorem bounds18 {v : Int} (h : Small18 v) : -9223372036854775808 ≤ v ∧ v ≤ 9223372036854775807 := by unfold Small18 at h; omega

theorem Digits_str (n : Int) (h0 : -9223372036854775808 ≤ n) (h1 : n ≤ 9223372036854775807) (w : World) (htab : Hid (Tab w)) :
    Calls Tryz.prog 26 #[.int .i64 n] w fun e w' => ∃ d : ByteArray, e = .returned (.string d) ∧ Hid (d.data.toList = Lib.itoa n) ∧ w.grownBy w' none :=
  (Digits_any n h0 h1 w htab).mono fun _ _ ⟨he, hg⟩ => ⟨_, he, rfl, hg⟩

set_option maxHeartbeats 400000 in
theorem Number_same (s : ByteArray) (hs : s.size ≤ 1000000) (v : Int) (h : Hid (Lib.atoiAll s.data.toList = .ok v)) (hv : Hid (Small18 v)) (hd : Hid (Lib.itoa v = s.data.toList)) (w : World) (htab : Hid (Tab w)) :
    Calls Tryz.prog 122 #[.string s] w fun e w' => e = .returned (.tuple #[.int .i64 v, .int .i64 0]) ∧ Below w.heap.size w w' := by
  have d1 : ¬ v ≤ -1000000000000000000 := by have := hv.out.1; omega
  have d2 : ¬ v ≥ 1000000000000000000 := by have := hv.out.2; omega
  go_enter Tryz.func122, Tryz.ntmps122
  go_wp2_with fail
  refine (Atoi_ok s hs v h.out _).mono ?_
  rintro e w2 ⟨rfl, b2⟩
  have T2 := Hid.of (htab.out.kept b2)
  go_wp2_with fail
  refine (Digits_str v (bounds18 hv.out).1 (bounds18 hv.out).2 _ T2).mono ?_
  rintro e w3 ⟨d, rfl, hdd, g3⟩
  have hq : (d.toList == s.toList) = true := by rw [ByteArray.toList_eq, ByteArray.toList_eq, hdd.out, hd.out]; exact beq_self_eq_true _
  have b3 : Below w.heap.size w w3 := b2.trans ((below_of_none g3).mono b2.size)
  clear g3 T2 b2
  go_wp2
  go_ret2
  exact ⟨rfl, b3⟩

set_option maxHeartbeats 400000 in
theorem Number_other (s : ByteArray) (hs : s.size ≤ 1000000) (v : Int) (h : Hid (Lib.atoiAll s.data.toList = .ok v)) (hv : Hid (Small18 v)) (hd : Hid (Lib.itoa v ≠ s.data.toList)) (w : World) (htab : Hid (Tab w)) :
    Calls Tryz.prog 122 #[.string s] w fun e w' => e = .returned (.tuple #[.int .i64 0, .int .i64 1]) ∧ Below w.heap.size w w' := by
  have d1 : ¬ v ≤ -1000000000000000000 := by have := hv.out.1; omega
  have d2 : ¬ v ≥ 1000000000000000000 := by have := hv.out.2; omega
  go_enter Tryz.func122, Tryz.ntmps122
  go_wp2_with fail
  refine (Atoi_ok s hs v h.out _).mono ?_
  rintro e w2 ⟨rfl, b2⟩
  have T2 := Hid.of (htab.out.kept b2)
  go_wp2_with fail
  refine (Digits_str v (bounds18 hv.out).1 (bounds18 hv.out).2 _ T2).mono ?_
  rintro e w3 ⟨d, rfl, hdd, g3⟩
  have hq : (d.toList == s.toList) = false := by rw [ByteArray.toList_eq, ByteArray.toList_eq, hdd.out]; exact beq_false_of_ne hd.out
  have b3 : Below w.heap.size w w3 := b2.trans ((below_of_none g3).mono b2.size)
  clear g3 T2 b2
  go_wp2
  go_ret2
  exact ⟨rfl, b3⟩

set_option maxHeartbeats 400000 in
theorem Number_big (s : ByteArray) (hs : s.size ≤ 1000000) (v : Int) (h : Hid (Lib.atoiAll s.data.toList = .ok v)) (hv : v ≤ -1000000000000000000 ∨ 1000000000000000000 ≤ v) (w : World) :
    Calls Tryz.prog 122 #[.string s] w fun e w' => e = .returned (.tuple #[.int .i64 0, .int .i64 1]) ∧ Below w.heap.size w w' := by
  have key : ∀ hv : v ≤ -1000000000000000000 ∨ (¬ v ≤ -1000000000000000000 ∧ v ≥ 1000000000000000000), Calls Tryz.prog 122 #[.string s] w fun e w' => e = .returned (.tuple #[.int .i64 0, .int .i64 1]) ∧ Below w.heap.size w w' := by
    clear hv
    intro hv
    rcases hv with d1 | ⟨d1, d2⟩
    all_goals
      go_enter Tryz.func122, Tryz.ntmps122
      go_wp2_with fail
      refine (Atoi_ok s hs v h.out _).mono ?_
      rintro e w2 ⟨rfl, b2⟩
      go_wp2
      go_ret2
      exact ⟨rfl, b2⟩
  exact key (by omega)

/-- What Number answers, in Lean's own words. -/
def number (l : List UInt8) : Int × Int :=
  match Lib.atoiAll l with
  | .ok v => if (-1000000000000000000 < v ∧ v < 1000000000000000000) ∧ Lib.itoa v = l then (v, 0) else (0, 1)
  | _ => (0, 1)

theorem Number_any (s : ByteArray) (hs : s.size ≤ 1000000) (w : World) (htab : Hid (Tab w)) (he : Hid (Errs w)) :
    Calls Tryz.prog 122 #[.string s] w fun e w' => e = .returned (.tuple #[.int .i64 (number s.data.toList).1, .int .i64 (number s.data.toList).2]) ∧ Below w.heap.size w w' := by
  by_cases h : ∃ v, Lib.atoiAll s.data.toList = .ok v
  · obtain ⟨v, hv⟩ := h
    by_cases h18 : -1000000000000000000 < v ∧ v < 1000000000000000000
    · by_cases hd : Lib.itoa v = s.data.toList
      · have e : number s.data.toList = (v, 0) := by unfold number; rw [hv]; exact if_pos ⟨h18, hd⟩
        rw [e]
        exact Number_same s hs v hv h18 hd w htab
      · have e : number s.data.toList = (0, 1) := by unfold number; rw [hv]; exact if_neg fun hc => hd hc.2
        rw [e]
        exact Number_other s hs v hv h18 hd w htab
    · have e : number s.data.toList = (0, 1) := by unfold number; rw [hv]; exact if_neg fun hc => h18 hc.1
      rw [e]
      exact Number_big s hs v hv (by omega) w
  · have hn : ∀ v, Lib.atoiAll s.data.toList ≠ .ok v := fun v hv => h ⟨v, hv⟩
    have e : number s.data.toList = (0, 1) := by
      unfold number
      split
      · rename_i v hv; exact absurd hv (hn v)
      · rfl
    rw [e]
    exact Number_err s hs hn w he

/-- What strconv was when the program began: its table, its errors. -/
structure Nums (w : World) : Prop where
  tab : Tab w
  errs : Errs w

theorem Nums.kept {w w' : World} (h : Nums w) (hb : Below w.heap.size w w') : Nums w' := ⟨h.tab.kept hb, h.errs.kept hb⟩

theorem Nums.of_laid {w : World} {rest : List (String × DataW Unit)} (h : laidMet Tryz.prog (("internal/strconv.uint64pow10", Rows.laid_internal_strconv_uint64pow10) :: ("strconv.ErrRange", Rows.laid_strconv_ErrRange) :: ("strconv.ErrSyntax", Rows.laid_strconv_ErrSyntax) :: rest) w) : Nums w :=
  ⟨Tab.of_laid h, errs_of_laid h.tail⟩

end Go.Proofs.YtadepjpmpjipmaaGreatDoor
