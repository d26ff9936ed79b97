/-
  What function alive of the statements answers: true, in every world in which the library's table of powers of ten lies.
-/
import Derived.Test.YtdlljjbooajgiaaDoorL
import Derived.WalkSmall
namespace Go.Proofs.YtdlljjbooajgiaaDoor
open Go.RowKit Go.Lib

/-- The library's table of powers of ten lies in w. -/
def Tab (w : World) : Prop := Lib.TabIs Tryd.prog w "internal/strconv.uint64pow10" .u64 Lib.pow10Tab

theorem powNamed : Tryd.prog.globalNamed "internal/strconv.uint64pow10" = some 2 := by kernel_rfl

theorem Tab.lt {w : World} (h : Tab w) : 2 < w.heap.size := World.block_lt_of_cell? w _ (TabIs.cell h powNamed 0 (by decide))

theorem Tab.below {w0 w w' : World} (h : Tab w) (hb : Below w0.heap.size w w') (hB : w.heap.size ≤ w0.heap.size) : Tab w' := var?_below hb powNamed (Nat.lt_of_lt_of_le h.lt hB) h

theorem Tab.of_laid {w : World} {rest : List (String × DataW Unit)} (h : laidMet Tryd.prog (("internal/strconv.uint64pow10", Rows.laid_internal_strconv_uint64pow10) :: rest) w) : Tab w :=
  tabIs_of_head (zs := Lib.pow10Tab) (k := .u64) powNamed (t := 115) (e := 33) (n := 20) (by kernel_rfl) Tryd.underlying115 Tryd.underlying33 (by kernel_rfl) (by kernel_rfl) h

theorem NumRow.made (k : IntKind) (w1 : World) (t : TypeId) (xs : List Int) (cs : Array Value) (hcs : cs = (xs.map (Value.int k)).toArray) (b n c : Nat) (hb : b = w1.heap.size) (hn : n = xs.length) :
    NumRow k (w1.alloc (.cells cs t)) (.slice (some ⟨b, 0, none⟩) n c) xs := by
  subst hb hcs
  refine NumRow.at (by simp) ?_ hn
  intro j hj
  rw [Nat.zero_add, cell_of_row _ _ _ _ _ _ (Go.heap_alloc_new _ _)]
  simp [List.getD, hj]

theorem StrRow.made (w1 : World) (t : TypeId) (ss : List ByteArray) (cs : Array Value) (hcs : cs = (ss.map Value.string).toArray) (b n c : Nat) (hb : b = w1.heap.size) (hn : n = ss.length) :
    StrRow (w1.alloc (.cells cs t)) (.slice (some ⟨b, 0, none⟩) n c) ss := by
  subst hb hcs
  refine ⟨_, c, by rw [hn], .inr ⟨w1.heap.size, 0, rfl, by simp, ?_⟩⟩
  intro j hj
  rw [Nat.zero_add, cell_of_row _ _ _ _ _ _ (Go.heap_alloc_new _ _)]
  simp [List.getD, hj]

theorem Below.of_grown {B p : Nat} {w w' : World} (h : w.grownBy w' (some p)) (hB : B ≤ p) (hs : p < w.heap.size) : Below B w w' := below_of_grown h hB (by omega)

def aliveBytes : List UInt8 := [2, 1, 1, 0, 2, 97, 98, 0, 0, 0, 0, 0, 0, 0, 0, 0, 0, 0, 0, 0]

theorem alive_bytes : ([] : List UInt8) ++ smallBytes 2 [258, 1] ++ namesBytes [⟨#[97, 98]⟩] = aliveBytes := by decide +kernel

theorem itoa_seven : Lib.itoa (-7) = [45, 55] := by decide +kernel

theorem Digits_seven (w : World) (htab : Hid (Tab w)) :
    Calls Tryd.prog 14 #[.int .i64 (-7)] w fun e w' => e = .returned (.string ⟨#[45, 55]⟩) ∧ w.grownBy w' none := by
  have h := Digits_any (-7) (by decide) (by decide) w htab
  rw [itoa_seven] at h
  exact h

set_option maxHeartbeats 400000 in
theorem alive_any (w : World) (htab : Hid (Tab w)) :
    Calls Tryd.prog 11 #[] w fun e w' => e = .returned (.bool true) ∧ Below w.heap.size w w' := by
  go_enter Tryd.func11, Tryd.ntmps11
  go_wp2_with fail
  refine (Small_pk ((Pk.new w).kept (World.grownBy_alloc _ _ _)) (by decide) 2 (by decide) (by decide) _ [258, 1] (NumRow.made .i64 _ _ [258, 1] _ rfl _ _ _ (by simp) rfl) (by decide) (by decide)).mono ?_
  rintro e w2 ⟨rfl, hk2, g2⟩
  have b2 : Below w.heap.size w w2 := ((((Below.refl _ _).alloc (Nat.le_refl _) _).alloc (by simp) _).trans (Below.of_grown g2 (Nat.le_refl _) (by simp; omega)))
  have HK2 := Hid.of hk2
  have hp2 := hk2.len_lt
  clear hk2 g2
  go_wp2_with fail
  refine (Names_pk (HK2.out.kept (World.grownBy_alloc _ _ _)) (by decide) _ [⟨#[97, 98]⟩] (StrRow.made _ _ [⟨#[97, 98]⟩] _ rfl _ _ _ rfl rfl) (by decide) (by decide)).mono ?_
  rintro e w3 ⟨rfl, hk3, g3⟩
  have b3 : Below w.heap.size w w3 := (b2.alloc (by omega) _).trans (Below.of_grown g3 (Nat.le_refl _) (by simp; omega))
  rw [alive_bytes] at hk3
  have HK3 := Hid.of hk3
  clear hk3 g3 b2 HK2
  go_wp2_with fail
  refine (Done_good _ _ _ _ HK3.out (by decide)).mono ?_
  rintro e w4 ⟨rfl, b4⟩
  have b4' : Below w.heap.size w w4 := b3.trans (b4.mono b3.size)
  clear b4
  go_wp2_with fail
  refine (From_any _ _ (by decide)).mono ?_
  rintro e w5 ⟨rfl, hu5, g5⟩
  have b5 : Below w.heap.size w w5 := b4'.trans ((below_of_none g5).mono b4'.size)
  have HU5 := Hid.of hu5
  have hu5l := hu5.lt
  have hs4 := b4'.size
  clear hu5 g5 b3 HK3
  have hl1 : aliveBytes.length = 20 := rfl
  have hl2 : ((⟨aliveBytes.toArray⟩ : ByteArray).extract 0 7).toList = [2, 1, 1, 0, 2, 97, 98] := by rw [ByteArray.toList_eq]; decide +kernel
  go_wp2_with fail
  refine (Small_goodN _ ⟨#[2, 1, 5]⟩ 0 2 (by decide) (by decide) (by decide) 258 (by decide +kernel) _ HU5.out).mono ?_
  rintro e w6 ⟨rfl, hu6, g6⟩
  have b6 : Below w.heap.size w w6 := b5.trans (Below.of_grown g6 (by omega) hu5l)
  have HU6 := Hid.of hu6
  clear hu6 g6 HU5 b5
  go_wp2_with fail
  refine (Left_Un _ _ _ _ _ HU6.out).mono ?_
  rintro e w7 ⟨rfl, rfl⟩
  have hle : (((⟨#[2, 1, 5]⟩ : ByteArray).size - (0 + 2) : Nat) : Int) = 1 := by decide
  have T6 : Hid (Tab w6.drew) := Hid.of (htab.out.below b6.drew (Nat.le_refl _))
  go_wp2_with fail
  refine (Digits_seven _ T6).mono ?_
  rintro e w8 ⟨rfl, g8⟩
  have b8 : Below w.heap.size w w8 := b6.drew.trans ((below_of_none g8).mono b6.drew.size)
  go_wp2
  go_ret
  exact ⟨rfl, b8⟩

end Go.Proofs.YtdlljjbooajgiaaDoor
