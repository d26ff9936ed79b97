/-
  What the document's own Cut answers.
-/
import Derived.Test.YtcjfejhfafiaiaaWM
import Derived.Test.YtcjfejhfafiaiaaBT
import Derived.Test.YtcjfejhfafiaiaaBFL
import Derived.Deep.DeepCutAuto
import Derived.Deep.CutBlock
namespace Go.Proofs.Ytcjfejhfafiaiaa
open Go.RowKit Go.Lib

def wdCells (x : WdL) : List Value := [.string x.1, .int .i64 x.2.1, .int .i64 x.2.2]

theorem wdCells_len (x : WdL) : (wdCells x).length = 3 := rfl

/-- The text's bytes, and a line end behind them. -/
def wAll (t : ByteArray) : List UInt8 := t.data.toList ++ [10]

theorem wAll_length (t : ByteArray) : (wAll t).length = t.size + 1 := by
  unfold wAll
  rw [List.length_append, byte_len]
  rfl

theorem wAll_lt {t : ByteArray} {k : Nat} (h : k < t.size) : (wAll t)[k]? = some t[k] := by
  unfold wAll
  rw [List.getElem?_append_left (by rw [byte_len]; exact h), List.getElem?_eq_getElem (by rw [byte_len]; exact h)]
  rfl

theorem wAll_end (t : ByteArray) : (wAll t)[t.size]? = some 10 := by
  unfold wAll
  rw [List.getElem?_append_right (by rw [byte_len]; exact Nat.le_refl _), byte_len, Nat.sub_self]
  rfl

theorem wAll_take {t : ByteArray} {k : Nat} (c : UInt8) (h : (wAll t)[k]? = some c) : (wAll t).take (k + 1) = (wAll t).take k ++ [c] := by
  have hk := (List.getElem?_eq_some_iff.1 h).1
  have he := (List.getElem?_eq_some_iff.1 h).2
  rw [List.take_succ_eq_append_getElem hk, he]

theorem wRun_next {t : ByteArray} {k : Nat} {s : WSt} {c : UInt8} (h : wRun .start ((wAll t).take k) = .inl s) (hc : (wAll t)[k]? = some c) (hb : ¬ wBad c.toNat) : wRun .start ((wAll t).take (k + 1)) = .inl (s.step c) := by
  rw [wAll_take c hc, wRun_snoc h, if_neg hb]

theorem not_bad_10 : ¬ wBad (10 : UInt8).toNat := by decide

theorem wCut_bad {t : ByteArray} {k : Nat} {s : WSt} {c : UInt8} (hn : ¬ 4000 < t.size) (h : wRun .start ((wAll t).take k) = .inl s) (hc : (wAll t)[k]? = some c) (hb : wBad c.toNat) : wCut t.data.toList = (none, 22, (s.line : Int)) := by
  have hk : k < t.size := by
    have h1 := (List.getElem?_eq_some_iff.1 hc).1
    rw [wAll_length] at h1
    rcases Nat.lt_or_ge k t.size with h2 | h2
    · exact h2
    · have h3 : k = t.size := by omega
      subst h3
      rw [wAll_end] at hc
      simp only [Option.some.injEq] at hc
      subst hc
      exact absurd hb not_bad_10
  have e : (wAll t).take k = t.data.toList.take k := by
    unfold wAll
    rw [List.take_append_of_le_length (by rw [byte_len]; omega)]
  have e2 : t.data.toList = t.data.toList.take k ++ c :: t.data.toList.drop (k + 1) := by
    have h1 : t.data.toList[k]? = some c := by
      rw [wAll_lt hk] at hc
      rw [List.getElem?_eq_getElem (by rw [byte_len]; exact hk)]
      exact hc
    have h2 := (List.getElem?_eq_some_iff.1 h1)
    conv => lhs; rw [← List.take_append_drop k t.data.toList]
    rw [List.drop_eq_getElem_cons h2.1, h2.2]
  rw [e] at h
  unfold wCut
  rw [if_neg (by rw [byte_len]; exact hn)]
  have hr := wRun_bad (b := t.data.toList.drop (k + 1)) h hb
  rw [← e2] at hr
  rw [hr]

theorem wCut_good {t : ByteArray} {s : WSt} (hn : ¬ 4000 < t.size) (h : wRun .start ((wAll t).take (t.size + 1)) = .inl s) : wCut t.data.toList = (some s.out, 0, 0) := by
  rw [List.take_of_length_le (by rw [wAll_length]; exact Nat.le_refl _)] at h
  unfold wAll at h
  rw [wRun_append] at h
  unfold wCut
  rw [if_neg (by rw [byte_len]; exact hn)]
  cases hr : wRun .start t.data.toList with
  | inr n => rw [hr] at h; cases h
  | inl s0 =>
    rw [hr] at h
    simp only at h ⊢
    have e : wRun s0 [10] = .inl (s0.step 10) := by
      rw [wRun, if_neg not_bad_10]
      rfl
    rw [e] at h
    simp only [Sum.inl.injEq] at h
    have e2 : (s0.step 10).out = s0.ended := rfl
    rw [← h, e2]

/-- What Cut ends with. -/
def RefCutEnd (t : ByteArray) (w : World) (e : Ending) (w' : World) : Prop :=
  ∃ v, e = .returned (.tuple #[v, .int .i64 (wCut t.data.toList).2.1, .int .i64 (wCut t.data.toList).2.2]) ∧ w'.ownsRow w.heap.size 48 3 v ((wCut t.data.toList).1.getD []).length (flat wdCells ((wCut t.data.toList).1.getD [])) ∧ Below w.heap.size w w'

/-- Where the word under way began. -/
def WAt (t : ByteArray) (k : Nat) (s : WSt) (v : Value) : Prop := match s.cur with
  | none => v = .int .i64 (-1)
  | some w => ∃ a : Nat, v = .int .i64 a ∧ a + w.length = k ∧ k ≤ t.size ∧ 0 < w.length ∧ w = (t.data.toList.drop a).take (k - a)

theorem word_text (t : ByteArray) (a k : Nat) (wd : List UInt8) (hak : a + wd.length = k) (h : wd = (t.data.toList.drop a).take (k - a)) : (⟨wd.toArray⟩ : ByteArray) = t.extract a k := by
  refine same_bytes ?_
  have e := extract_list t a (k - a)
  rw [show a + (k - a) = k by omega] at e
  rw [e, ← h]

theorem take_one {l : List UInt8} {k : Nat} {c : UInt8} (h : l[k]? = some c) : (l.drop k).take 1 = [c] := by
  have h2 := List.getElem?_eq_some_iff.1 h
  rw [List.drop_eq_getElem_cons h2.1, h2.2]
  rfl

theorem take_more {l : List UInt8} {k a : Nat} {c : UInt8} (h : l[k]? = some c) (ha : a ≤ k) : (l.drop a).take (k + 1 - a) = (l.drop a).take (k - a) ++ [c] := by
  have h2 : (l.drop a)[k - a]? = some c := by rw [List.getElem?_drop, show a + (k - a) = k by omega]; exact h
  have h3 := List.getElem?_eq_some_iff.1 h2
  rw [show k + 1 - a = (k - a) + 1 by omega, List.take_succ_eq_append_getElem h3.1, h3.2]

theorem one_word (w : World) (s : ByteArray) (x y : Int) : CellRow (w.alloc (.cells #[.string s, .int .i64 x, .int .i64 y] 48)) (.slice (some ⟨w.heap.size, 0, none⟩) 1 1) 1 (wdCells (s, x, y)) := by
  refine ⟨_, _, rfl, .inr ⟨_, 0, rfl, by simp, fun j u hj => ?_⟩⟩
  rw [Nat.zero_add, World.cell?_alloc_new]
  simpa [wdCells] using hj

theorem own_any {w : World} {B : Nat} {e : TypeId} {sz : Nat} {v : Value} {n : Nat} {xs : List Value} (h : w.ownsRow B e sz v n xs) : ∃ a c, v = .slice a n c := by
  rcases h.2 with ⟨h, h'⟩ | ⟨g, cap, cur, h, _⟩
  · rw [h, h']; exact ⟨_, _, rfl⟩
  · exact ⟨_, _, h⟩

theorem own_ge3 {w : World} {B : Nat} {e : TypeId} {size : Nat} {v : Value} {n : Nat} {xs : List Value} (h : w.ownsRow B e size v n xs) {k : Nat} (hk : v.ownBlock = some k) : B ≤ k := (h.lt k hk).1

set_option maxRecDepth 20000 in
set_option maxHeartbeats 6400000 in
theorem refCut_any (t : ByteArray) (w : World) (ht : t.size ≤ maxLen) :
    Calls Try.prog 8 #[.string t] w (RefCutEnd t w) := by
  unfold maxLen at ht
  by_cases hn : 4000 < t.size
  · have hw : wCut t.data.toList = (none, 2, 0) := by
      unfold wCut
      rw [if_pos (by rw [byte_len]; exact hn)]
    have HW := Hid.of hw
    clear hw
    go_enter Try.func8, Try.ntmps8
    go_wp2
    go_ret3
    unfold RefCutEnd
    rw [HW.out]
    exact ⟨_, rfl, World.ownsRow_nil _ _ _ 3, Below.refl _ _⟩
  · have HN := Hid.of hn
    have n9 : (t.size : Int) ≤ 4000 := by omega
    obtain ⟨i0, hi, hz0, hz1, hz2⟩ := info_parts (show (Try.prog.info? 48).map (fun i => (i.zero, i.size, i.bytes)) = some (some (.agg #[.string ⟨#[]⟩, .int .i64 0, .int .i64 0]), 3, 32) by kernel_rfl)
    have HI := Hid.of hi
    have HZ0 := Hid.of hz0
    have HZ1 := Hid.of hz1
    have HZ2 := Hid.of hz2
    clear hi hz0 hz1 hz2 ht
    go_enter Try.func8, Try.ntmps8
    go_wp2
    go_loopw [5, 6, 7, 8, 9, 10, 11] (fun ov lv cv av rv iv _ wr => ∃ (k : Nat) (s : WSt), k ≤ t.size + 1 ∧ iv = .int .i64 k ∧ lv = .int .i64 s.line ∧ cv = .int .i64 s.col ∧ rv = .bool s.remark ∧ s.line ≤ k + 1 ∧ s.col ≤ k + 1 ∧ s.out.length ≤ k ∧ Hid (WAt t k s av) ∧ Hid (wRun .start ((wAll t).take k) = .inl s) ∧ Hid (wr.ownsRow w.heap.size 48 3 ov s.out.length (flat wdCells s.out)) ∧ Hid (Below w.heap.size w wr)) (fun _ _ _ _ _ iv _ _ => t.size + 1 - (RowKit.intOf iv).toNat)
    case atStart => exact ⟨0, .start, Nat.zero_le _, rfl, rfl, rfl, rfl, by decide, by decide, by decide, Hid.of rfl, Hid.of rfl, Hid.of (World.ownsRow_nil _ _ _ 3), Hid.of (Below.refl _ _)⟩
    case round =>
      obtain ⟨k, s, hk, rfl, rfl, rfl, rfl, l9, c9, o9, HA, HR, O, hb⟩ := hrel
      have k0 : (0 : Int) ≤ (k : Int) := Int.natCast_nonneg _
      by_cases hlt : k ≤ t.size
      · have O9 : Hid (s.out.length ≤ 4000) := Hid.of (by omega)
        by_cases he : k < t.size
        · have hc := wAll_lt he
          have k2 : (k : Int) < (t.size : Int) := by omega
          have k1 : (k : Int) ≤ (t.size : Int) := by omega
          go_upto_region 12 with (fail)
          have hx9 := t[k].toNat_lt
          have htk : t.data.toList[k]? = some t[k] := by rw [List.getElem?_eq_getElem (by rw [byte_len]; exact he)]; rfl
          generalize t[k] = c at *
          by_cases hbad : wBad c.toNat
          · skip
            have HW := Hid.of (wCut_bad HN.out HR.out hc hbad)
            unfold wBad at hbad
            have h1 : ¬ (c.toNat : Int) = 10 := by omega
            have h2 : ¬ (c.toNat : Int) = 32 := by omega
            have h3 : ¬ (c.toNat : Int) = 9 := by omega
            have h4 : (c.toNat : Int) < 33 ∨ (33 ≤ (c.toNat : Int) ∧ 126 < (c.toNat : Int)) := by omega
            have g1 : ((c.toNat : Int) != 10) = true := by simpa using h1
            have g2 : ((c.toNat : Int) != 32) = true := by simpa using h2
            have g3 : ((c.toNat : Int) != 9) = true := by simpa using h3
            clear hbad hc
            rcases h4 with h4 | ⟨h4, h5⟩
            all_goals
              go_wp2
              go_ret3
              unfold RefCutEnd
              rw [HW.out]
              exact ⟨_, rfl, World.ownsRow_nil _ _ _ 3, hb.out⟩
          · have RN := Hid.of (wRun_next HR.out hc hbad)
            have key : c.toNat = 10 ∨ c.toNat = 32 ∨ c.toNat = 9 ∨ (33 ≤ c.toNat ∧ c.toNat ≤ 126) := by unfold wBad at hbad; omega
            clear hbad hc HR
            rcases key with hm | hm | hm | hm
            · have hmi : (c.toNat : Int) = 10 := by omega
              rcases hcur : s.cur with _ | wd
              · have ha := HA.out
                unfold WAt at ha
                rw [hcur] at ha
                simp only at ha
                subst ha
                have SE : Hid (s.step c = ⟨s.out, s.line + 1, 1, none, false⟩) := Hid.of (by unfold WSt.step; rw [if_pos hm]; unfold WSt.ended; rw [hcur])
                clear hcur
                go_wp2
                go_roundw
                case rel => exact ⟨k + 1, ⟨s.out, s.line + 1, 1, none, false⟩, by omega, by go_num, by go_num, rfl, rfl, by simp only; omega, by simp only; omega, by simp only; omega, Hid.of rfl, Hid.of (by rw [RN.out, SE.out]), O, hb⟩
                case measure => simp [RowKit.intOf]; omega
              · obtain ⟨a, rfl, hak, hkn, hw0, hwd⟩ : ∃ a : Nat, u8 = .int .i64 a ∧ a + wd.length = k ∧ k ≤ t.size ∧ 0 < wd.length ∧ wd = (t.data.toList.drop a).take (k - a) := by
                  have ha := HA.out
                  unfold WAt at ha
                  rw [hcur] at ha
                  exact ha
                have SE : Hid (s.step c = ⟨(s.out ++ [(t.extract a k, (s.line : Int), (s.col : Int) - ((k : Int) - (a : Int)))]), s.line + 1, 1, none, false⟩) := Hid.of (by unfold WSt.step; rw [if_pos hm]; unfold WSt.ended; rw [hcur]; simp only; rw [word_text t a k wd hak hwd, show (wd.length : Int) = (k : Int) - (a : Int) by omega])
                obtain ⟨oa, oc, rfl⟩ := own_any O.out
                have a0 : (0 : Int) ≤ (a : Int) := Int.natCast_nonneg _
                have a1 : (a : Int) ≤ (k : Int) := by omega
                clear hcur hwd
                go_wp2_with (at_builtin; refine append_row_law rfl _ _ 24 rfl w.heap.size 48 i0 (.agg #[.string ⟨#[]⟩, .int .i64 0, .int .i64 0]) 3 32 Try.underlying24 HI.out HZ0.out HZ1.out HZ2.out rfl (by decide) (.slice oa s.out.length oc) s.out.length _ rfl (O.out.alloc _) (.slice (some ⟨wr.heap.size, 0, none⟩) 1 1) 1 (wdCells (t.extract a k, (s.line : Int), (s.col : Int) - ((k : Int) - (a : Int)))) rfl (one_word wr _ _ _) rfl (by intro u hu; simp [wdCells] at hu; rcases hu with rfl | rfl | rfl <;> rfl) (by have := O9.out; unfold maxLen; omega) (by have := O9.out; omega) (by simp; have := hb.out.size; omega) ?_; intro v2 w2 o2 g2; have O2 := Hid.of o2; have G2 := Hid.of g2; clear o2 g2)
                go_roundw
                case rel => exact ⟨k + 1, ⟨(s.out ++ [(t.extract a k, (s.line : Int), (s.col : Int) - ((k : Int) - (a : Int)))]), s.line + 1, 1, none, false⟩, by omega, by go_num, by go_num, rfl, rfl, by simp only; omega, by simp only; omega, by simp only [List.length_append, List.length_singleton]; omega, Hid.of rfl, Hid.of (by rw [RN.out, SE.out]), Hid.of (by simp only; rw [List.length_append, flat_append]; exact O2.out), Hid.of ((hb.out.alloc hb.out.size _).grown G2.out (by simp; have := hb.out.size; omega) (fun q hq => own_ge3 O.out hq))⟩
                case measure => simp [RowKit.intOf]; omega
            · have hmi : (c.toNat : Int) = 32 := by omega
              rcases hcur : s.cur with _ | wd
              · have ha := HA.out
                unfold WAt at ha
                rw [hcur] at ha
                simp only at ha
                subst ha
                have SE : Hid (s.step c = ⟨s.out, s.line, s.col + 1, none, s.remark⟩) := Hid.of (by unfold WSt.step; rw [if_neg (by omega), if_pos (by omega)]; unfold WSt.ended; rw [hcur])
                clear hcur
                go_wp2
                go_roundw
                case rel => exact ⟨k + 1, ⟨s.out, s.line, s.col + 1, none, s.remark⟩, by omega, by go_num, rfl, by go_num, rfl, by simp only; omega, by simp only; omega, by simp only; omega, Hid.of rfl, Hid.of (by rw [RN.out, SE.out]), O, hb⟩
                case measure => simp [RowKit.intOf]; omega
              · obtain ⟨a, rfl, hak, hkn, hw0, hwd⟩ : ∃ a : Nat, u8 = .int .i64 a ∧ a + wd.length = k ∧ k ≤ t.size ∧ 0 < wd.length ∧ wd = (t.data.toList.drop a).take (k - a) := by
                  have ha := HA.out
                  unfold WAt at ha
                  rw [hcur] at ha
                  exact ha
                have SE : Hid (s.step c = ⟨(s.out ++ [(t.extract a k, (s.line : Int), (s.col : Int) - ((k : Int) - (a : Int)))]), s.line, s.col + 1, none, s.remark⟩) := Hid.of (by unfold WSt.step; rw [if_neg (by omega), if_pos (by omega)]; unfold WSt.ended; rw [hcur]; simp only; rw [word_text t a k wd hak hwd, show (wd.length : Int) = (k : Int) - (a : Int) by omega])
                obtain ⟨oa, oc, rfl⟩ := own_any O.out
                have a0 : (0 : Int) ≤ (a : Int) := Int.natCast_nonneg _
                have a1 : (a : Int) ≤ (k : Int) := by omega
                clear hcur hwd
                go_wp2_with (at_builtin; refine append_row_law rfl _ _ 24 rfl w.heap.size 48 i0 (.agg #[.string ⟨#[]⟩, .int .i64 0, .int .i64 0]) 3 32 Try.underlying24 HI.out HZ0.out HZ1.out HZ2.out rfl (by decide) (.slice oa s.out.length oc) s.out.length _ rfl (O.out.alloc _) (.slice (some ⟨wr.heap.size, 0, none⟩) 1 1) 1 (wdCells (t.extract a k, (s.line : Int), (s.col : Int) - ((k : Int) - (a : Int)))) rfl (one_word wr _ _ _) rfl (by intro u hu; simp [wdCells] at hu; rcases hu with rfl | rfl | rfl <;> rfl) (by have := O9.out; unfold maxLen; omega) (by have := O9.out; omega) (by simp; have := hb.out.size; omega) ?_; intro v2 w2 o2 g2; have O2 := Hid.of o2; have G2 := Hid.of g2; clear o2 g2)
                go_roundw
                case rel => exact ⟨k + 1, ⟨(s.out ++ [(t.extract a k, (s.line : Int), (s.col : Int) - ((k : Int) - (a : Int)))]), s.line, s.col + 1, none, s.remark⟩, by omega, by go_num, rfl, by go_num, rfl, by simp only; omega, by simp only; omega, by simp only [List.length_append, List.length_singleton]; omega, Hid.of rfl, Hid.of (by rw [RN.out, SE.out]), Hid.of (by simp only; rw [List.length_append, flat_append]; exact O2.out), Hid.of ((hb.out.alloc hb.out.size _).grown G2.out (by simp; have := hb.out.size; omega) (fun q hq => own_ge3 O.out hq))⟩
                case measure => simp [RowKit.intOf]; omega
            · have hmi : (c.toNat : Int) = 9 := by omega
              rcases hcur : s.cur with _ | wd
              · have ha := HA.out
                unfold WAt at ha
                rw [hcur] at ha
                simp only at ha
                subst ha
                have SE : Hid (s.step c = ⟨s.out, s.line, s.col + 1, none, s.remark⟩) := Hid.of (by unfold WSt.step; rw [if_neg (by omega), if_pos (by omega)]; unfold WSt.ended; rw [hcur])
                clear hcur
                go_wp2
                go_roundw
                case rel => exact ⟨k + 1, ⟨s.out, s.line, s.col + 1, none, s.remark⟩, by omega, by go_num, rfl, by go_num, rfl, by simp only; omega, by simp only; omega, by simp only; omega, Hid.of rfl, Hid.of (by rw [RN.out, SE.out]), O, hb⟩
                case measure => simp [RowKit.intOf]; omega
              · obtain ⟨a, rfl, hak, hkn, hw0, hwd⟩ : ∃ a : Nat, u8 = .int .i64 a ∧ a + wd.length = k ∧ k ≤ t.size ∧ 0 < wd.length ∧ wd = (t.data.toList.drop a).take (k - a) := by
                  have ha := HA.out
                  unfold WAt at ha
                  rw [hcur] at ha
                  exact ha
                have SE : Hid (s.step c = ⟨(s.out ++ [(t.extract a k, (s.line : Int), (s.col : Int) - ((k : Int) - (a : Int)))]), s.line, s.col + 1, none, s.remark⟩) := Hid.of (by unfold WSt.step; rw [if_neg (by omega), if_pos (by omega)]; unfold WSt.ended; rw [hcur]; simp only; rw [word_text t a k wd hak hwd, show (wd.length : Int) = (k : Int) - (a : Int) by omega])
                obtain ⟨oa, oc, rfl⟩ := own_any O.out
                have a0 : (0 : Int) ≤ (a : Int) := Int.natCast_nonneg _
                have a1 : (a : Int) ≤ (k : Int) := by omega
                clear hcur hwd
                go_wp2_with (at_builtin; refine append_row_law rfl _ _ 24 rfl w.heap.size 48 i0 (.agg #[.string ⟨#[]⟩, .int .i64 0, .int .i64 0]) 3 32 Try.underlying24 HI.out HZ0.out HZ1.out HZ2.out rfl (by decide) (.slice oa s.out.length oc) s.out.length _ rfl (O.out.alloc _) (.slice (some ⟨wr.heap.size, 0, none⟩) 1 1) 1 (wdCells (t.extract a k, (s.line : Int), (s.col : Int) - ((k : Int) - (a : Int)))) rfl (one_word wr _ _ _) rfl (by intro u hu; simp [wdCells] at hu; rcases hu with rfl | rfl | rfl <;> rfl) (by have := O9.out; unfold maxLen; omega) (by have := O9.out; omega) (by simp; have := hb.out.size; omega) ?_; intro v2 w2 o2 g2; have O2 := Hid.of o2; have G2 := Hid.of g2; clear o2 g2)
                go_roundw
                case rel => exact ⟨k + 1, ⟨(s.out ++ [(t.extract a k, (s.line : Int), (s.col : Int) - ((k : Int) - (a : Int)))]), s.line, s.col + 1, none, s.remark⟩, by omega, by go_num, rfl, by go_num, rfl, by simp only; omega, by simp only; omega, by simp only [List.length_append, List.length_singleton]; omega, Hid.of rfl, Hid.of (by rw [RN.out, SE.out]), Hid.of (by simp only; rw [List.length_append, flat_append]; exact O2.out), Hid.of ((hb.out.alloc hb.out.size _).grown G2.out (by simp; have := hb.out.size; omega) (fun q hq => own_ge3 O.out hq))⟩
                case measure => simp [RowKit.intOf]; omega
            · have h1 : ¬ (c.toNat : Int) = 10 := by omega
              have h2 : ¬ (c.toNat : Int) = 32 := by omega
              have h3 : ¬ (c.toNat : Int) = 9 := by omega
              have g1 : ((c.toNat : Int) != 10) = true := by simpa using h1
              have g2 : ((c.toNat : Int) != 32) = true := by simpa using h2
              have g3 : ((c.toNat : Int) != 9) = true := by simpa using h3
              have h4 : ¬ (c.toNat : Int) < 33 := by omega
              have h5 : ¬ (126 : Int) < (c.toNat : Int) := by omega
              have h6 : ¬ (c.toNat : Int) ≤ 32 := by omega
              rcases hcur : s.cur with _ | wd
              · have ha := HA.out
                unfold WAt at ha
                rw [hcur] at ha
                simp only at ha
                subst ha
                rcases hrem : s.remark with _ | _
                · by_cases h35 : c.toNat = 35
                  · have h36 : ((c.toNat : Int) == 35) = true := by simp [h35]
                    have SE : Hid (s.step c = ⟨s.out, s.line, s.col + 1, none, true⟩) := Hid.of (by unfold WSt.step; rw [if_neg (by omega), if_neg (by omega), hcur]; simp only; rw [hrem, if_neg (by simp), if_pos h35])
                    have h37 : (c.toNat : Int) = 35 := by omega
                    clear hcur h35
                    go_wp2
                    go_roundw
                    case rel => exact ⟨k + 1, ⟨s.out, s.line, s.col + 1, none, true⟩, by omega, by go_num, rfl, by go_num, rfl, by simp only; omega, by simp only; omega, by simp only; omega, Hid.of rfl, Hid.of (by rw [RN.out, SE.out]), O, hb⟩
                    case measure => simp [RowKit.intOf]; omega
                  · have h36 : ((c.toNat : Int) == 35) = false := by simpa using (show ¬ (c.toNat : Int) = 35 by omega)
                    have SE : Hid (s.step c = ⟨s.out, s.line, s.col + 1, some [c], false⟩) := Hid.of (by unfold WSt.step; rw [if_neg (by omega), if_neg (by omega), hcur]; simp only; rw [hrem, if_neg (by simp), if_neg h35])
                    have h37 : ¬ (c.toNat : Int) = 35 := by omega
                    have WA : Hid (WAt t (k + 1) ⟨s.out, s.line, s.col + 1, some [c], false⟩ (.int .i64 (k : Int))) := Hid.of ⟨k, rfl, rfl, by omega, by simp, by rw [show k + 1 - k = 1 by omega]; exact (take_one htk).symm⟩
                    clear hcur
                    go_wp2
                    go_roundw
                    case rel => exact ⟨k + 1, ⟨s.out, s.line, s.col + 1, some [c], false⟩, by omega, by go_num, rfl, by go_num, rfl, by simp only; omega, by simp only; omega, by simp only; omega, Hid.of WA.out, Hid.of (by rw [RN.out, SE.out]), O, hb⟩
                    case measure => simp [RowKit.intOf]; omega
                · have SE : Hid (s.step c = ⟨s.out, s.line, s.col + 1, none, true⟩) := Hid.of (by unfold WSt.step; rw [if_neg (by omega), if_neg (by omega), hcur]; simp only; rw [hrem, if_pos rfl])
                  clear hcur
                  go_wp2
                  go_roundw
                  case rel => exact ⟨k + 1, ⟨s.out, s.line, s.col + 1, none, true⟩, by omega, by go_num, rfl, by go_num, rfl, by simp only; omega, by simp only; omega, by simp only; omega, Hid.of rfl, Hid.of (by rw [RN.out, SE.out]), O, hb⟩
                  case measure => simp [RowKit.intOf]; omega
              · obtain ⟨a, rfl, hak, hkn, hw0, hwd⟩ : ∃ a : Nat, u8 = .int .i64 a ∧ a + wd.length = k ∧ k ≤ t.size ∧ 0 < wd.length ∧ wd = (t.data.toList.drop a).take (k - a) := by
                  have ha := HA.out
                  unfold WAt at ha
                  rw [hcur] at ha
                  exact ha
                have SE : Hid (s.step c = ⟨s.out, s.line, s.col + 1, some (wd ++ [c]), s.remark⟩) := Hid.of (by unfold WSt.step; rw [if_neg (by omega), if_neg (by omega), hcur])
                have WA : Hid (WAt t (k + 1) ⟨s.out, s.line, s.col + 1, some (wd ++ [c]), s.remark⟩ (.int .i64 (a : Int))) := Hid.of ⟨a, rfl, by rw [List.length_append, List.length_singleton]; omega, by omega, by simp, by rw [hwd]; exact (take_more htk (by omega)).symm⟩
                have a0 : (0 : Int) ≤ (a : Int) := Int.natCast_nonneg _
                clear hcur hwd
                go_wp2
                go_roundw
                case rel => exact ⟨k + 1, ⟨s.out, s.line, s.col + 1, some (wd ++ [c]), s.remark⟩, by omega, by go_num, rfl, by go_num, rfl, by simp only; omega, by simp only; omega, by simp only; omega, Hid.of WA.out, Hid.of (by rw [RN.out, SE.out]), O, hb⟩
                case measure => simp [RowKit.intOf]; omega
        · have hke : k = t.size := by omega
          have k2 : ¬ (k : Int) < (t.size : Int) := by omega
          have k1 : (k : Int) ≤ (t.size : Int) := by omega
          obtain ⟨c, hcc⟩ : ∃ c : UInt8, c = 10 := ⟨_, rfl⟩
          have hm : c.toNat = 10 := by rw [hcc]; rfl
          have RN := Hid.of (wRun_next HR.out (show (wAll t)[k]? = some c by rw [hke, hcc]; exact wAll_end t) (by rw [hcc]; exact not_bad_10))
          clear hcc HR hke
          rcases hcur : s.cur with _ | wd
          · have ha := HA.out
            unfold WAt at ha
            rw [hcur] at ha
            simp only at ha
            subst ha
            have SE : Hid (s.step c = ⟨s.out, s.line + 1, 1, none, false⟩) := Hid.of (by unfold WSt.step; rw [if_pos hm]; unfold WSt.ended; rw [hcur])
            clear hcur
            go_wp2
            go_roundw
            case rel => exact ⟨k + 1, ⟨s.out, s.line + 1, 1, none, false⟩, by omega, by go_num, by go_num, rfl, rfl, by simp only; omega, by simp only; omega, by simp only; omega, Hid.of rfl, Hid.of (by rw [RN.out, SE.out]), O, hb⟩
            case measure => simp [RowKit.intOf]; omega
          · obtain ⟨a, rfl, hak, hkn, hw0, hwd⟩ : ∃ a : Nat, u8 = .int .i64 a ∧ a + wd.length = k ∧ k ≤ t.size ∧ 0 < wd.length ∧ wd = (t.data.toList.drop a).take (k - a) := by
              have ha := HA.out
              unfold WAt at ha
              rw [hcur] at ha
              exact ha
            have SE : Hid (s.step c = ⟨(s.out ++ [(t.extract a k, (s.line : Int), (s.col : Int) - ((k : Int) - (a : Int)))]), s.line + 1, 1, none, false⟩) := Hid.of (by unfold WSt.step; rw [if_pos hm]; unfold WSt.ended; rw [hcur]; simp only; rw [word_text t a k wd hak hwd, show (wd.length : Int) = (k : Int) - (a : Int) by omega])
            obtain ⟨oa, oc, rfl⟩ := own_any O.out
            have a0 : (0 : Int) ≤ (a : Int) := Int.natCast_nonneg _
            have a1 : (a : Int) ≤ (k : Int) := by omega
            clear hcur hwd
            go_wp2_with (at_builtin; refine append_row_law rfl _ _ 24 rfl w.heap.size 48 i0 (.agg #[.string ⟨#[]⟩, .int .i64 0, .int .i64 0]) 3 32 Try.underlying24 HI.out HZ0.out HZ1.out HZ2.out rfl (by decide) (.slice oa s.out.length oc) s.out.length _ rfl (O.out.alloc _) (.slice (some ⟨wr.heap.size, 0, none⟩) 1 1) 1 (wdCells (t.extract a k, (s.line : Int), (s.col : Int) - ((k : Int) - (a : Int)))) rfl (one_word wr _ _ _) rfl (by intro u hu; simp [wdCells] at hu; rcases hu with rfl | rfl | rfl <;> rfl) (by have := O9.out; unfold maxLen; omega) (by have := O9.out; omega) (by simp; have := hb.out.size; omega) ?_; intro v2 w2 o2 g2; have O2 := Hid.of o2; have G2 := Hid.of g2; clear o2 g2)
            go_roundw
            case rel => exact ⟨k + 1, ⟨(s.out ++ [(t.extract a k, (s.line : Int), (s.col : Int) - ((k : Int) - (a : Int)))]), s.line + 1, 1, none, false⟩, by omega, by go_num, by go_num, rfl, rfl, by simp only; omega, by simp only; omega, by simp only [List.length_append, List.length_singleton]; omega, Hid.of rfl, Hid.of (by rw [RN.out, SE.out]), Hid.of (by simp only; rw [List.length_append, flat_append]; exact O2.out), Hid.of ((hb.out.alloc hb.out.size _).grown G2.out (by simp; have := hb.out.size; omega) (fun q hq => own_ge3 O.out hq))⟩
            case measure => simp [RowKit.intOf]; omega
      · have hk2 : k = t.size + 1 := by omega
        subst hk2
        have HW := Hid.of (wCut_good HN.out HR.out)
        go_wp2
        go_ret3
        unfold RefCutEnd
        rw [HW.out]
        exact ⟨_, rfl, O.out, hb.out⟩

end Go.Proofs.Ytcjfejhfafiaiaa
