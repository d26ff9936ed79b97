/-
  What shows answers.
-/
import Derived.Test.YtpgiknejgolllaaDU
namespace Go.Proofs.Ytpgiknejgolllaa
open Go.RowKit Go.Lib

def offText : ByteArray := ⟨#[111, 102, 102]⟩

/-- What is shown of a block. -/
def showOf (s : DSt) (i : Nat) : ByteArray := if s.readErr i = 0 then s.cur.getD i ⟨#[]⟩ else offText

def shown (s : DSt) (k : Nat) : List ByteArray := (List.range k).map (showOf s)

theorem shown_succ (s : DSt) (k : Nat) : shown s (k + 1) = shown s k ++ [showOf s k] := by
  unfold shown
  rw [List.range_succ, List.map_append]
  rfl

theorem shown_length (s : DSt) (k : Nat) : (shown s k).length = k := by simp [shown]

theorem own_slice {w : World} {B : Nat} {e : TypeId} {v : Value} {n : Nat} {xs : List Value} (h : w.ownsRow B e 1 v n xs) : ∃ a c, v = .slice a n c := by
  rcases h.2 with ⟨h, h'⟩ | ⟨g, cap, cur, h, _⟩
  · rw [h, h']; exact ⟨_, _, rfl⟩
  · exact ⟨_, _, h⟩

theorem text_cell (w : World) (t : ByteArray) : CellRow (w.alloc (.cells #[.string t] 9)) (.slice (some ⟨w.heap.size, 0, none⟩) 1 1) 1 [.string t] := by
  refine ⟨_, _, rfl, .inr ⟨_, 0, rfl, by simp, fun j u hj => ?_⟩⟩
  match j, hj with
  | 0, hj =>
    simp at hj
    subst hj
    rw [Nat.zero_add, World.cell?_alloc_new]
    rfl
  | j + 1, hj => simp at hj

set_option maxRecDepth 20000 in
set_option maxHeartbeats 1600000 in
theorem shows_any {S : DiskSpec} {B p : Nat} {w0 w : World} {s : DSt} {F : Foot} (H : DHere S B w0 w p s F) (hs : s.Small 1000) :
    Calls Try.prog 24 #[dptr p] w fun e w' => ∃ u, e = .returned u ∧ w'.ownsRow w.heap.size 9 1 u 6 ((shown s 6).map Value.string) ∧ Below w.heap.size w w' := by
  have HH := Hid.of H
  have HS := Hid.of hs
  obtain ⟨i0, hi, hz0, hz1, hz2⟩ := info_parts (show (Try.prog.info? 9).map (fun i => (i.zero, i.size, i.bytes)) = some (some (.string ⟨#[]⟩), 1, 16) by kernel_rfl)
  have HI := Hid.of hi
  have HZ0 := Hid.of hz0
  have HZ1 := Hid.of hz1
  have HZ2 := Hid.of hz2
  clear hi hz0 hz1 hz2 hs
  go_enter Try.func24, Try.ntmps24
  go_wp2
  go_loopw [3, 4, 5, 6] (fun lv iv _ _ wr => ∃ j : Nat, j ≤ 6 ∧ iv = .int .i64 j ∧ Hid (wr.ownsRow w.heap.size 9 1 lv j ((shown s j).map Value.string)) ∧ Hid (Below w.heap.size w wr)) (fun _ iv _ _ _ => 6 - (RowKit.intOf iv).toNat)
  case atStart => exact ⟨0, by omega, rfl, Hid.of (World.ownsRow_nil _ _ _ 1), Hid.of (Below.refl _ _)⟩
  case round =>
    obtain ⟨j, hj, rfl, O, hb⟩ := hrel
    obtain ⟨a, c, rfl⟩ := own_slice O.out
    by_cases hlt : j < 6
    · have j1 : (j : Int) < 6 := by omega
      have j0 : (0 : Int) ≤ (j : Int) := Int.natCast_nonneg _
      have HJ := Hid.of hlt
      clear hj
      by_cases he : s.readErr (j : Int) = 0
      · have HE := Hid.of he
        clear he
        go_wp2_with fail
        refine (((HH.out.next hb.out)).read (j : Int) HS.out).mono ?_
        rintro e q1 ⟨t, rfl, ht, -, r1⟩
        have ht' := ht HE.out
        rw [Int.toNat_natCast] at ht'
        have hsh : showOf s j = t := by
          unfold showOf
          rw [if_pos HE.out, List.getD, ht']
          rfl
        have SH := Hid.of hsh
        have B1 := Hid.of (hb.out.trans (r1.mono hb.out.size))
        have O1 := Hid.of (O.out.kept (grown_of_below r1) (by simp [Value.ownBlock]; cases a <;> simp))
        rw [HE.out]
        clear ht ht' hsh r1
        go_wp2_with (at_builtin; refine append_row_law rfl _ _ 46 rfl w.heap.size 9 i0 (.string ⟨#[]⟩) 1 16 Try.underlying46 HI.out HZ0.out HZ1.out HZ2.out rfl (by decide) (.slice a j c) j _ rfl (O1.out.alloc _) (.slice (some ⟨q1.heap.size, 0, none⟩) 1 1) 1 [.string t] rfl (text_cell q1 t) rfl (by simp [Value.oneCell']) (by have := HJ.out; unfold maxLen; omega) (by have := HJ.out; omega) (by simp; have := B1.out.size; omega) ?_; intro v2 w2 o2 g2; have O2 := Hid.of o2; have G2 := Hid.of g2; clear o2 g2)
        go_roundw
        case rel =>
          refine ⟨j + 1, by have := HJ.out; omega, by go_num, Hid.of ?_, Hid.of ((B1.out.alloc B1.out.size _).grown G2.out (by simp; have := B1.out.size; omega) (fun k hk => own_ge O1.out hk))⟩
          rw [shown_succ, List.map_append, SH.out]
          exact O2.out
        case measure => have := HJ.out; simp [RowKit.intOf]; omega
      · obtain ⟨err, herr⟩ : ∃ err, s.readErr (j : Int) = err := ⟨_, rfl⟩
        have hsh : showOf s j = offText := by
          unfold showOf
          rw [if_neg he]
        have SH := Hid.of hsh
        rw [herr] at he
        have HE := Hid.of herr
        clear herr hsh
        go_wp2_with fail
        refine (((HH.out.next hb.out)).read (j : Int) HS.out).mono ?_
        rintro e q1 ⟨t, rfl, -, -, r1⟩
        have B1 := Hid.of (hb.out.trans (r1.mono hb.out.size))
        have O1 := Hid.of (O.out.kept (grown_of_below r1) (by simp [Value.ownBlock]; cases a <;> simp))
        rw [HE.out]
        clear r1
        go_wp2_with (at_builtin; refine append_row_law rfl _ _ 46 rfl w.heap.size 9 i0 (.string ⟨#[]⟩) 1 16 Try.underlying46 HI.out HZ0.out HZ1.out HZ2.out rfl (by decide) (.slice a j c) j _ rfl (O1.out.alloc _) (.slice (some ⟨q1.heap.size, 0, none⟩) 1 1) 1 [.string offText] rfl (text_cell q1 offText) rfl (by simp [Value.oneCell']) (by have := HJ.out; unfold maxLen; omega) (by have := HJ.out; omega) (by simp; have := B1.out.size; omega) ?_; intro v2 w2 o2 g2; have O2 := Hid.of o2; have G2 := Hid.of g2; clear o2 g2)
        go_roundw
        case rel =>
          refine ⟨j + 1, by have := HJ.out; omega, by go_num, Hid.of ?_, Hid.of ((B1.out.alloc B1.out.size _).grown G2.out (by simp; have := B1.out.size; omega) (fun k hk => own_ge O1.out hk))⟩
          rw [shown_succ, List.map_append, SH.out]
          exact O2.out
        case measure => have := HJ.out; simp [RowKit.intOf]; omega
    · have hj6 : j = 6 := by omega
      subst hj6
      go_wp2
      go_ret
      exact ⟨_, rfl, O.out, hb.out⟩

end Go.Proofs.Ytpgiknejgolllaa
