/-
  A bundle of texts: TCA.
-/
import Derived.Shelf.SlSortCmp.KitK
import Derived.Test.YtbhcafginmkaaaaGreatN01
import Derived.Test.YtbhcafginmkaaaaGreatN04
namespace Go.Proofs.YtbhcafginmkaaaaGreat
open Go.RowKit Go.Lib Go.Sort

/-- A bucket: where it begins, what is known of its values. -/
abbrev Bk := Int × Ag

def benc (x : Bk) : List Value := [.int .i64 x.1, .int .i64 x.2.c, .int .i64 x.2.hi, .int .u64 x.2.lo, .int .i64 x.2.mn, .int .i64 x.2.mx]
abbrev bkv (x : Bk) : Value := .agg (benc x).toArray

theorem benc_len (x : Bk) : (benc x).length = 6 := rfl
theorem benc_one (x : Bk) : ∀ u ∈ benc x, u.oneCell' = true := by
  intro u hu
  simp only [benc, List.mem_cons, List.not_mem_nil, or_false] at hu
  rcases hu with rfl | rfl | rfl | rfl | rfl | rfl <;> rfl

def cmpI (a b : Int) : Int := if a < b then -1 else if a > b then 1 else 0

theorem cmpI_neg {a b : Int} : cmpI a b < 0 ↔ a < b := by
  unfold cmpI
  split
  · exact ⟨fun _ => ‹_›, fun _ => by decide⟩
  · split
    · exact ⟨fun h => absurd h (by decide), fun h => absurd h ‹_›⟩
    · exact ⟨fun h => absurd h (by decide), fun h => absurd h ‹_›⟩
theorem cmpI_zero {a b : Int} : cmpI a b = 0 ↔ a = b := by
  unfold cmpI
  split
  · exact ⟨fun h => absurd h (by decide), fun h => by omega⟩
  · split
    · exact ⟨fun h => absurd h (by decide), fun h => by omega⟩
    · exact ⟨fun _ => by omega, fun _ => rfl⟩

/-- Of two buckets, by where they begin. -/
def bcf (x y : Bk) : Int := cmpI x.1 y.1
abbrev blt (x y : Bk) : Bool := ltOf bcf x y

theorem blt_iff (x y : Bk) : blt x y = true ↔ x.1 < y.1 := by
  unfold blt ltOf bcf
  rw [decide_eq_true_eq, cmpI_neg]
theorem blt_no (x y : Bk) : blt x y = false ↔ y.1 ≤ x.1 := by
  rw [← Bool.not_eq_true, blt_iff, Int.not_lt]
theorem blt_swo : SWO blt := ⟨fun x => (blt_no x x).2 (Int.le_refl _), fun x y z h k => (blt_iff x z).2 (by have := (blt_iff x y).1 h; have := (blt_iff y z).1 k; omega), fun x y z h k => (blt_no x z).2 (by have := (blt_no x y).1 h; have := (blt_no y z).1 k; omega)⟩

instance : Inhabited Ag := ⟨agZero⟩

theorem isNaN_any (x : Int) (w : World) : Calls Tryz.prog 319 #[.int .i64 x] w fun e w' => e = .returned (.bool false) ∧ w' = w := by
  go_enter Tryz.func319, Tryz.ntmps319
  go_wp2
  go_ret
  exact ⟨rfl, rfl⟩

theorem compare_any (a b : Int) (w : World) : Calls Tryz.prog 308 #[.int .i64 a, .int .i64 b] w fun e w' => e = .returned (.int .i64 (cmpI a b)) ∧ w' = w := by
  have h1 : a < b → cmpI a b = -1 := fun h => by unfold cmpI; rw [if_pos h]
  have h2 : ¬ a < b → b < a → cmpI a b = 1 := fun h k => by unfold cmpI; rw [if_neg h, if_pos k]
  have h3 : ¬ a < b → ¬ b < a → cmpI a b = 0 := fun h k => by unfold cmpI; rw [if_neg h, if_neg k]
  have H1 := Hid.of h1
  have H2 := Hid.of h2
  have H3 := Hid.of h3
  clear h1 h2 h3
  have hex : a < b ∨ (¬ a < b ∧ b < a) ∨ (¬ a < b ∧ ¬ b < a) := by omega
  go_enter Tryz.func308, Tryz.ntmps308
  rcases hex with h | ⟨h, h2⟩ | ⟨h, h2⟩
  · go_wp2_with (go_at_call 319; refine (isNaN_any _ _).mono ?_; rintro e w' ⟨rfl, rfl⟩)
    go_ret
    exact ⟨by rw [H1.out (by omega)]; rfl, rfl⟩
  · go_wp2_with (go_at_call 319; refine (isNaN_any _ _).mono ?_; rintro e w' ⟨rfl, rfl⟩)
    go_ret
    exact ⟨by rw [H2.out (by omega) (by omega)]; rfl, rfl⟩
  · go_wp2_with (go_at_call 319; refine (isNaN_any _ _).mono ?_; rintro e w' ⟨rfl, rfl⟩)
    go_ret
    exact ⟨by rw [H3.out (by omega) (by omega)]; rfl, rfl⟩

theorem beside_any (x : Bk) (s : Int) (w : World) : Calls Tryz.prog 283 #[bkv x, .int .i64 s] w fun e w' => e = .returned (.int .i64 (cmpI x.1 s)) ∧ ∃ q os, w' = grow (w.drewN q) os := by
  have hc := compare_any x.1 s
  show Calls Tryz.prog 283 #[.agg #[.int .i64 x.1, .int .i64 x.2.c, .int .i64 x.2.hi, .int .u64 x.2.lo, .int .i64 x.2.mn, .int .i64 x.2.mx], .int .i64 s] w _
  generalize cmpI x.1 s = r at hc ⊢
  go_enter Tryz.func283, Tryz.ntmps283
  go_wp2_with (go_at_call 308; refine (hc _).mono ?_; rintro e w' ⟨rfl, rfl⟩)
  go_ret
  exact ⟨rfl, 0, _, by rw [alloc_eq_grow]; rfl⟩

theorem grown_two (w : World) (o1 o2 : Obj) (q : Nat) (os : Array Obj) : ∃ q' os', grow (((w.alloc o1).alloc o2).drewN q) os = grow (w.drewN q') os' := by
  rw [alloc_eq_grow, alloc_eq_grow, grow_grow]
  exact ⟨q, _, grow_grow (w.drewN q) _ os⟩

theorem byStart_any (x y : Bk) (w : World) : Calls Tryz.prog 279 #[bkv x, bkv y] w fun e w' => e = .returned (.int .i64 (bcf x y)) ∧ ∃ q os, w' = grow (w.drewN q) os := by
  have hc := beside_any x y.1
  show Calls Tryz.prog 279 #[.agg #[.int .i64 x.1, .int .i64 x.2.c, .int .i64 x.2.hi, .int .u64 x.2.lo, .int .i64 x.2.mn, .int .i64 x.2.mx], .agg #[.int .i64 y.1, .int .i64 y.2.c, .int .i64 y.2.hi, .int .u64 y.2.lo, .int .i64 y.2.mn, .int .i64 y.2.mx]] w _
  change ∀ w, Calls Tryz.prog 283 #[.agg #[.int .i64 x.1, .int .i64 x.2.c, .int .i64 x.2.hi, .int .u64 x.2.lo, .int .i64 x.2.mn, .int .i64 x.2.mx], .int .i64 y.1] w _ at hc
  show Calls _ _ _ _ fun e w' => e = .returned (.int .i64 (cmpI x.1 y.1)) ∧ _
  generalize cmpI x.1 y.1 = r at hc ⊢
  go_enter Tryz.func279, Tryz.ntmps279
  go_wp2_with (go_at_call 283; refine (hc _).mono ?_; rintro e w' ⟨rfl, q, os, rfl⟩)
  go_ret
  exact ⟨rfl, grown_two w _ _ q os⟩

theorem byStart_lays (blk off size : Nat) (w : World) : CmpLays Tryz.prog 279 #[] benc 6 bcf blk off size w := fun _ _ _ _ x y => byStart_any x y _

end Go.Proofs.YtbhcafginmkaaaaGreat
