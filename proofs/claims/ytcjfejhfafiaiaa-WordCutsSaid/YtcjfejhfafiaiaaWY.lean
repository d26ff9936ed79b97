/-
  What statement WordCuts answers: true, for every input.
-/
import Derived.Test.YtcjfejhfafiaiaaWX
import Derived.Test.YtcjfejhfafiaiaaBI
import Derived.Test.YtcjfejhfafiaiaaWK
import Derived.Laws.BitsAllLaws
import Derived.Laws.StructEq
import Derived.Deep.RegionHeld3
import Derived.Deep.QuietTactic
import Derived.BigQuiet
namespace Go.Proofs.Ytcjfejhfafiaiaa
open Go.RowKit Go.Lib

theorem and_3 (e : Int) : bits .and .i64 e 3 = e % 4 := by
  show IntKind.i64.wrap ((BitVec.ofInt 64 e &&& BitVec.ofInt 64 3).toNat : Int) = e % 4
  have h1 : (BitVec.ofInt 64 3).toNat = 2 ^ 2 - 1 := by decide
  have h2 : (BitVec.ofInt 64 e).toNat = (e % 18446744073709551616).toNat := by
    rw [BitVec.toNat_ofInt]
    rfl
  rw [BitVec.toNat_and, h1, Nat.and_two_pow_sub_one_eq_mod, h2, IntKind.wrap_i64]
  omega

theorem wLine_le (r : List WdL) : wLine r ≤ r.length := by
  cases r with
  | nil => exact Nat.le_refl _
  | cons x r =>
    unfold wLine
    exact (List.takeWhile_prefix _).length_le

theorem wLine_pos (x : WdL) (r : List WdL) : 0 < wLine (x :: r) := by
  show 0 < ((x :: r).takeWhile fun y => y.2.1 == x.2.1).length
  rw [List.takeWhile_cons, if_pos (by simp)]
  simp

theorem takeWhile_in {α : Type} (f : α → Bool) : ∀ (l : List α) (k : Nat), k < (l.takeWhile f).length → ∃ y, l[k]? = some y ∧ f y = true
  | [], k, h => by simp at h
  | a :: l, k, h => by
    rw [List.takeWhile_cons] at h
    split at h
    · rename_i hf
      cases k with
      | zero => exact ⟨a, rfl, hf⟩
      | succ k => exact takeWhile_in f l k (by simpa using h)
    · simp at h

theorem takeWhile_end {α : Type} (f : α → Bool) : ∀ (l : List α), (l.takeWhile f).length < l.length → ∃ y, l[(l.takeWhile f).length]? = some y ∧ f y = false
  | [], h => by simp at h
  | a :: l, h => by
    rw [List.takeWhile_cons] at h ⊢
    split at h
    · rename_i hf
      rw [if_pos hf]
      simpa using takeWhile_end f l (by simpa using h)
    · rename_i hf
      rw [if_neg hf]
      exact ⟨a, rfl, by simpa using hf⟩

theorem wLine_in {x : WdL} {r : List WdL} {k : Nat} (h : k < wLine (x :: r)) : ∃ y, (x :: r)[k]? = some y ∧ y.2.1 = x.2.1 := by
  obtain ⟨y, h1, h2⟩ := takeWhile_in _ _ _ h
  exact ⟨y, h1, by simpa using h2⟩

theorem wLine_end {x : WdL} {r : List WdL} (h : wLine (x :: r) < (x :: r).length) : ∃ y, (x :: r)[wLine (x :: r)]? = some y ∧ ¬ y.2.1 = x.2.1 := by
  obtain ⟨y, h1, h2⟩ := takeWhile_end _ _ h
  exact ⟨y, h1, by simpa using h2⟩

theorem book_built : Try.prog.built 41 [] = some (bookW (.slice none 0 0) (.slice none 0 0)) := by kernel_rfl

set_option maxRecDepth 20000 in
set_option maxHeartbeats 12800000 in
theorem wordCuts_main (S : WordSpec) (t : ByteArray) (v : Value) (hs : List Int) (w : World) (ht : t.size ≤ maxLen) (hv : NumRow .i64 w v hs) :
    Calls Try.prog 3 #[.string t, v] w fun e w' => e = .returned (.bool true) ∧ Below w.heap.size w w' := by
  have HT := Hid.of ht
  have HC : Hid (CellRow w v hs.length (hs.map (Value.int .i64))) := Hid.of (NumRow.cells' hv)
  obtain ⟨va, vc, rfl, _⟩ := hv
  by_cases hz : 4100 < t.size ∨ 200 < hs.length
  · have hz' : (4100 : Int) < (t.size : Int) ∨ (¬ (4100 : Int) < (t.size : Int) ∧ (200 : Int) < (hs.length : Int)) := by omega
    clear hz
    rcases hz' with h1 | ⟨h1, h2⟩
    all_goals
      go_enter Try.func3, Try.ntmps3
      go_wp2_with fail
      refine (wordAlive_any S _).mono ?_
      rintro e w1 ⟨rfl, b1⟩
      go_wp2
      go_ret
      exact ⟨rfl, b1⟩
  · have h1 : ¬ (4100 : Int) < (t.size : Int) := by omega
    have h2 : ¬ (200 : Int) < (hs.length : Int) := by omega
    have H200 : Hid (hs.length ≤ 200) := Hid.of (by omega)
    clear hz ht
    rcases wCut_kinds t.data.toList with ⟨l, hl⟩ | ⟨er, n, he, hne⟩
    · have HL := Hid.of hl
      clear hl
      go_enter Try.func3, Try.ntmps3
      go_wp2_with fail
      refine (refCut_any t _ HT.out).mono ?_
      rintro e w1 ⟨mv, rfl, o1, b1⟩
      rw [HL.out] at o1 ⊢
      simp only [Option.getD_some] at o1
      have O1 := Hid.of o1
      have B1 := Hid.of b1
      obtain ⟨ma, mc, rfl⟩ : ∃ a c, mv = .slice a l.length c := by
        rcases o1.2 with ⟨h, h'⟩ | ⟨g, cap, cur, h, _⟩
        · rw [h, h']; exact ⟨_, _, rfl⟩
        · exact ⟨_, _, h⟩
      clear o1 b1
      go_wp2_with fail
      refine (cut_good S t l _ HT.out HL.out).mono ?_
      rintro e w2 ⟨p, F, rfl, k2⟩
      have K2 := Hid.of k2
      clear k2
      go_wp2_with (first
        | (refine wpList_builtW rfl 41 [] rfl (bookW (.slice none 0 0) (.slice none 0 0)) book_built ?_)
        | (refine wpList_boxedW rfl 41 _ rfl (bookW (.slice none 0 0) (.slice none 0 0)) rfl ?_
           obtain ⟨w3, hw3⟩ : ∃ w3, w2.alloc (.cells (bookW (.slice none 0 0) (.slice none 0 0)) 41) = w3 := ⟨_, rfl⟩
           rw [hw3]
           obtain ⟨bp, hbp⟩ : ∃ bp, w2.heap.size = bp := ⟨_, rfl⟩
           rw [hbp]
           have C3 : Hid (Cuts S w1.heap.size bp w1 w3 p l F (.slice ma l.length mc) (.slice none 0 0) (.slice none 0 0) []) := Hid.of (by
             have hge := O1.out
             have hlo : ∀ k, F k → k < bp := fun k hk => by rw [← hbp]; exact S.lt K2.out.rep k hk
             have hbl : w1.heap.size ≤ bp := by rw [← hbp]; exact K2.out.hB
             have bw : Below w2.heap.size w2 w3 := by rw [← hw3]; exact (Below.refl _ _).alloc (Nat.le_refl _) _
             refine ⟨K2.out.next bw, hlo, bookW_nil bp _ w3 w3 (by rw [← hw3, ← hbp]; exact Go.heap_alloc_new _ _) (Below.refl _ _), ((own_row hge).kept K2.out.fr).kept bw, fun hx g hg => ?_, hbl, ?_⟩
             · have e1 := hge.lt g hg
               exact ⟨by omega, fun c => by
                 have := K2.out.ge g c
                 omega⟩
             · rcases hge.2 with ⟨h, h'⟩ | ⟨g, cap, cur, h, _, _, hcap, _⟩
               · exact ⟨ma, mc, rfl, by omega⟩
               · simp only [Value.slice.injEq] at h
                 exact ⟨ma, mc, rfl, by omega⟩)
           clear hw3 hbp))
      have L4 := Hid.of (wCut_few HL.out)
      go_loopw [5, 12, 13, 14, 15, 16, 17, 18, 19] (fun mv iv _ _ _ _ _ _ _ wr => ∃ (i : Nat) (r : List WdL) (G : Nat → Prop) (V W : Value) (ls : List (Value × Value × List WordL)), i ≤ hs.length ∧ iv = .int .i64 i ∧ Hid (Cuts S w1.heap.size bp w1 wr p r G mv V W ls) ∧ Hid (ls.length ≤ i) ∧ Hid (∀ x ∈ ls, x.2.2.length ≤ 900000) ∧ Hid (r.length ≤ 4000)) (fun _ iv _ _ _ _ _ _ _ _ => hs.length - (RowKit.intOf iv).toNat)
      case atStart => exact ⟨0, l, F, _, _, [], Nat.zero_le _, rfl, C3, Hid.of (Nat.le_refl _), Hid.of (fun _ h => absurd h List.not_mem_nil), L4⟩
      case round =>
        obtain ⟨i, r, G, V, W, ls, hi, rfl, C, LS, LN, R4⟩ := hrel
        obtain ⟨ra, rc, rfl, hrc⟩ := C.out.fit
        have RC := Hid.of hrc
        clear hrc
        by_cases hlt : i < hs.length
        · obtain ⟨b0, o0, rfl, hl0, hc0⟩ := int_at HC.out i hlt rfl
          obtain ⟨y, hy⟩ : ∃ y, hs.getD i 0 = y := ⟨_, rfl⟩
          rw [hy] at hc0
          have i0 : (0 : Int) ≤ (i : Int) := by omega
          have i1 : (i : Int) < (hs.length : Int) := by omega
          have HY0 := Hid.of hl0
          have HY1 := Hid.of hc0
          obtain ⟨N, hN⟩ : ∃ N, r.length = N := ⟨_, rfl⟩
          have HN := Hid.of hN
          rw [hN] at RC R4 C ⊢
          have n9 : (N : Int) ≤ 4000 := by have := R4.out; omega
          clear hi hl0 hc0 hy hN
          go_wp2_with fail
          refine (C.out.wd.len (by rw [HN.out]; exact R4.out)).mono ?_
          rintro e w4 ⟨rfl, -, b4⟩
          rw [HN.out]
          have C4 := Hid.of (C.out.next b4)
          have cy : w4.cell? ⟨b0, o0 + i, none⟩ = some (.int .i64 y) := by rw [(B1.out.trans (C4.out.wd.fr.mono B1.out.size)).cell HY0.out]; exact HY1.out
          clear b4 C
          have key : bits .and .i64 y 3 = 0 ∨ bits .and .i64 y 3 = 1 ∨ bits .and .i64 y 3 = 2 ∨ bits .and .i64 y 3 = 3 := by
            rw [and_3]
            omega
          rcases key with hk | hk | hk | hk
          · cases r with
            | nil =>
              obtain rfl : N = 0 := by simpa using HN.out.symm
              go_wp2_with fail
              refine (C4.out.wd.peek (by rw [HN.out]; exact R4.out) rfl).mono ?_
              rintro e w5 ⟨rfl, -, b5⟩
              have C5 := Hid.of (C4.out.next b5)
              clear b5
              obtain ⟨w6, hw6⟩ : ∃ w6, w5.alloc (.cells #[.string ⟨#[]⟩, .int .i64 0, .int .i64 0] 44) = w6 := ⟨_, rfl⟩
              have K6 : Hid (WBlk w6 w5.heap.size (⟨#[]⟩, 0, 0)) := Hid.of (by rw [← hw6]; exact WBlk.made w5 (⟨#[]⟩, 0, 0))
              have C6 := Hid.of (C5.out.next (show Below w5.heap.size w5 w6 by rw [← hw6]; exact (Below.refl _ _).alloc (Nat.le_refl _) _))
              have HW6 := Hid.of hw6
              clear hw6
              obtain ⟨c0, c1, c2⟩ := K6.out.at
              go_wp2_with fail
              rw [HW6.out]
              go_quiet (fail)
              go_wp2
              go_roundw
              case rel => exact ⟨i + 1, [], G, V, W, ls, by omega, by go_num, Hid.of (C6.out.next (below_drewN (Below.refl _ _) _)), Hid.of (Nat.le_succ_of_le LS.out), LN, Hid.of (Nat.zero_le _)⟩
              case measure => simp [RowKit.intOf]; omega
            | cons x r' =>
              obtain ⟨s, ln, col⟩ := x
              have n2 : 0 < N := by have := HN.out; simp only [List.length_cons] at this; omega
              have n1 : (0 : Int) < (N : Int) := by omega
              go_wp2_with fail
              refine (C4.out.wd.peek (by rw [HN.out]; exact R4.out) rfl).mono ?_
              rintro e w5 ⟨rfl, -, b5⟩
              have C5 := Hid.of (C4.out.next b5)
              clear b5
              obtain ⟨w6, hw6⟩ : ∃ w6, w5.alloc (.cells #[.string s, .int .i64 ln, .int .i64 col] 44) = w6 := ⟨_, rfl⟩
              have K6 : Hid (WBlk w6 w5.heap.size (s, ln, col)) := Hid.of (by rw [← hw6]; exact WBlk.made w5 (s, ln, col))
              have C6 := Hid.of (C5.out.next (show Below w5.heap.size w5 w6 by rw [← hw6]; exact (Below.refl _ _).alloc (Nat.le_refl _) _))
              have HW6 := Hid.of hw6
              clear hw6
              obtain ⟨c0, c1, c2⟩ := K6.out.at
              have row6 := C6.out.row
              rw [HN.out] at row6
              obtain ⟨b1, o1, rfl, hl1, d0, d1, d2⟩ := w_at row6 0 (s, ln, col) rfl
              rw [Nat.zero_mul, Nat.add_zero] at d0 d1 d2
              have HL1 := Hid.of hl1
              have D0 := Hid.of d0
              have D1 := Hid.of d1
              have D2 := Hid.of d2
              clear row6 hl1
              go_wp2_with fail
              rw [HW6.out]
              refine wp_region_noPanic ?_
              refine wp_region_held_drew (S := fun w' => w'.cell? ⟨w5.heap.size, 0, none⟩ = some (.string s) ∧ w'.cell? ⟨w5.heap.size, 1, none⟩ = some (.int .i64 ln) ∧ w'.cell? ⟨w5.heap.size, 2, none⟩ = some (.int .i64 col) ∧ w'.cell? ⟨b1, o1, none⟩ = some (.string s) ∧ w'.cell? ⟨b1, o1 + 1, none⟩ = some (.int .i64 ln) ∧ w'.cell? ⟨b1, o1 + 2, none⟩ = some (.int .i64 col)) (by kernel_rfl) ?_ (fun hHeld => ?_)
              · exact ⟨c0, c1, c2, d0, d1, d2⟩
              refine wpAnyH_take (i := 0) (oi := ⟨_, _, _, _, _, _⟩) (v := ?_) rfl (by kernel_rfl) (by kernel_rfl) (by kernel_rfl) (fun _ _ _ h => h) (Or.inl ⟨by rfl, ?_⟩) hHeld ?_
              rotate_left
              · intro w' hSw
                try dsimp only at hSw
                go_simp
                all_goals with_reducible rfl
              simp only [Act.put, List.setIfInBounds_toArray, List.set_cons_zero, List.set_cons_succ]
              refine wpAnyH_take (i := 1) (oi := ⟨_, _, _, _, _, _⟩) (v := ?_) rfl (by kernel_rfl) (by kernel_rfl) (by kernel_rfl) (fun _ _ _ h => h) (Or.inl ⟨by rfl, ?_⟩) hHeld ?_
              rotate_left
              · intro w' hSw
                try dsimp only at hSw
                go_simp
                all_goals with_reducible rfl
              simp only [Act.put, List.setIfInBounds_toArray, List.set_cons_zero, List.set_cons_succ]
              refine wpAnyH_take (i := 2) (oi := ⟨_, _, _, _, _, _⟩) (v := ?_) rfl (by kernel_rfl) (by kernel_rfl) (by kernel_rfl) (fun _ _ _ h => h) (Or.inl ⟨by rfl, ?_⟩) hHeld ?_
              rotate_left
              · intro w' hSw
                try dsimp only at hSw
                go_simp
                all_goals with_reducible rfl
              simp only [Act.put, List.setIfInBounds_toArray, List.set_cons_zero, List.set_cons_succ]
              refine wpAnyH_take (i := 3) (oi := ⟨_, _, _, _, _, _⟩) (v := ?_) rfl (by kernel_rfl) (by kernel_rfl) (by kernel_rfl) (fun _ _ _ h => h) (Or.inl ⟨by rfl, ?_⟩) hHeld ?_
              rotate_left
              · intro w' hSw
                try dsimp only at hSw
                go_simp
                all_goals with_reducible rfl
              simp only [Act.put, List.setIfInBounds_toArray, List.set_cons_zero, List.set_cons_succ]
              refine wpAnyH_take (i := 4) (oi := ⟨_, _, _, _, _, _⟩) (v := ?_) rfl (by kernel_rfl) (by kernel_rfl) (by kernel_rfl) (fun _ _ _ h => h) (Or.inl ⟨by rfl, ?_⟩) hHeld ?_
              rotate_left
              · intro w' hSw
                try dsimp only at hSw
                go_simp
                all_goals with_reducible rfl
              simp only [Act.put, List.setIfInBounds_toArray, List.set_cons_zero, List.set_cons_succ]
              refine wpAnyH_take (i := 5) (oi := ⟨_, _, _, _, _, _⟩) (v := ?_) rfl (by kernel_rfl) (by kernel_rfl) (by kernel_rfl) (fun _ _ _ h => h) (Or.inl ⟨by rfl, ?_⟩) hHeld ?_
              rotate_left
              · intro w' hSw
                try dsimp only at hSw
                go_simp
                all_goals with_reducible rfl
              simp only [Act.put, List.setIfInBounds_toArray, List.set_cons_zero, List.set_cons_succ]
              refine wpAnyH_take (i := 6) (oi := ⟨_, _, _, _, _, _⟩) (v := ?_) rfl (by kernel_rfl) (by kernel_rfl) (by kernel_rfl) (fun _ _ _ h => h) (Or.inl ⟨by rfl, ?_⟩) hHeld ?_
              rotate_left
              · intro w' hSw
                try dsimp only at hSw
                go_simp
                all_goals with_reducible rfl
              simp only [Act.put, List.setIfInBounds_toArray, List.set_cons_zero, List.set_cons_succ]
              refine wpAnyH_take (i := 7) (oi := ⟨_, _, _, _, _, _⟩) (v := ?_) rfl (by kernel_rfl) (by kernel_rfl) (by kernel_rfl) (fun _ _ _ h => h) (Or.inl ⟨by rfl, ?_⟩) hHeld ?_
              rotate_left
              · intro w' hSw
                try dsimp only at hSw
                go_simp
                all_goals with_reducible rfl
              simp only [Act.put, List.setIfInBounds_toArray, List.set_cons_zero, List.set_cons_succ]
              refine wpAnyH_take (i := 8) (oi := ⟨_, _, _, _, _, _⟩) (v := ?_) rfl (by kernel_rfl) (by kernel_rfl) (by kernel_rfl) (fun _ _ _ h => h) (Or.inl ⟨by rfl, ?_⟩) hHeld ?_
              rotate_left
              · intro w' hSw
                try dsimp only at hSw
                go_simp
                all_goals with_reducible rfl
              simp only [Act.put, List.setIfInBounds_toArray, List.set_cons_zero, List.set_cons_succ]
              refine wpAnyH_take (i := 9) (oi := ⟨_, _, _, _, _, _⟩) (v := ?_) rfl (by kernel_rfl) (by kernel_rfl) (by kernel_rfl) (fun _ _ _ h => h) (Or.inl ⟨by rfl, ?_⟩) hHeld ?_
              rotate_left
              · intro w' hSw
                try dsimp only at hSw
                go_simp
                all_goals with_reducible rfl
              simp only [Act.put, List.setIfInBounds_toArray, List.set_cons_zero, List.set_cons_succ]
              refine wpAnyH_take (i := 10) (oi := ⟨_, _, _, _, _, _⟩) (v := ?_) rfl (by kernel_rfl) (by kernel_rfl) (by kernel_rfl) (fun _ _ _ h => h) (Or.inl ⟨by rfl, ?_⟩) hHeld ?_
              rotate_left
              · intro w' hSw
                try dsimp only at hSw
                go_simp
                all_goals with_reducible rfl
              simp only [Act.put, List.setIfInBounds_toArray, List.set_cons_zero, List.set_cons_succ]
              refine wpAnyH_take (i := 11) (oi := ⟨_, _, _, _, _, _⟩) (v := ?_) rfl (by kernel_rfl) (by kernel_rfl) (by kernel_rfl) (fun _ _ _ h => h) (Or.inl ⟨by rfl, ?_⟩) hHeld ?_
              rotate_left
              · intro w' hSw
                try dsimp only at hSw
                go_simp
                all_goals with_reducible rfl
              simp only [Act.put, List.setIfInBounds_toArray, List.set_cons_zero, List.set_cons_succ]
              refine wpAnyH_ready (rs := [12]) (by kernel_rfl) (by simp) ?_
              refine AllReadyH.cons (o := ⟨_, _, _, _, _, _⟩) rfl (fun K hK => ?_) AllReadyH.nil
              go_simp
              refine (same_any (s, ln, col) _).mono ?_
              rintro e w7 ⟨rfl, b7⟩
              have B7 : Hid (Below w6.heap.size w6 w7) := Hid.of ((Below.refl _ w6).drew.trans b7)
              have C7 := Hid.of (C6.out.next B7.out)
              have K7 := Hid.of (K6.out.kept B7.out)
              clear b7 c0 c1 c2 d0 d1 d2 hHeld
              obtain ⟨c0, c1, c2⟩ := K7.out.at
              have d0 : w7.cell? ⟨b1, o1, none⟩ = some (.string s) := by rw [B7.out.cell HL1.out]; exact D0.out
              have d1 : w7.cell? ⟨b1, o1 + 1, none⟩ = some (.int .i64 ln) := by rw [B7.out.cell HL1.out]; exact D1.out
              have d2 : w7.cell? ⟨b1, o1 + 2, none⟩ = some (.int .i64 col) := by rw [B7.out.cell HL1.out]; exact D2.out
              refine hK.out _ _ ⟨c0, c1, c2, d0, d1, d2⟩ (fun hHeld => ?_)
              clear hK K
              try simp only [Act.put, List.setIfInBounds_toArray, List.set_cons_zero, List.set_cons_succ]
              refine wpAnyH_take (i := 13) (oi := ⟨_, _, _, _, _, _⟩) (v := ?_) rfl (by kernel_rfl) (by kernel_rfl) (by kernel_rfl) (fun _ _ _ h => h) (Or.inl ⟨by rfl, ?_⟩) hHeld ?_
              rotate_left
              · intro w' hSw
                try dsimp only at hSw
                go_simp
                all_goals with_reducible rfl
              simp only [Act.put, List.setIfInBounds_toArray, List.set_cons_zero, List.set_cons_succ]
              refine wpAnyH_take (i := 14) (oi := ⟨_, _, _, _, _, _⟩) (v := ?_) rfl (by kernel_rfl) (by kernel_rfl) (by kernel_rfl) (fun _ _ _ h => h) (Or.inl ⟨by rfl, ?_⟩) hHeld ?_
              rotate_left
              · intro w' hSw
                try dsimp only at hSw
                go_simp
                all_goals with_reducible rfl
              simp only [Act.put, List.setIfInBounds_toArray, List.set_cons_zero, List.set_cons_succ]
              refine wpAnyH_take (i := 15) (oi := ⟨_, _, _, _, _, _⟩) (v := ?_) rfl (by kernel_rfl) (by kernel_rfl) (by kernel_rfl) (fun _ _ _ h => h) (Or.inl ⟨by rfl, ?_⟩) hHeld ?_
              rotate_left
              · intro w' hSw
                try dsimp only at hSw
                go_simp
                all_goals with_reducible rfl
              simp only [Act.put, List.setIfInBounds_toArray, List.set_cons_zero, List.set_cons_succ]
              refine wpAnyH_take (i := 16) (oi := ⟨_, _, _, _, _, _⟩) (v := ?_) rfl (by kernel_rfl) (by kernel_rfl) (by kernel_rfl) (fun _ _ _ h => h) (Or.inl ⟨by rfl, ?_⟩) hHeld ?_
              rotate_left
              · intro w' hSw
                try dsimp only at hSw
                go_simp
                all_goals with_reducible rfl
              simp only [Act.put, List.setIfInBounds_toArray, List.set_cons_zero, List.set_cons_succ]
              refine wpAnyH_take (i := 17) (oi := ⟨_, _, _, _, _, _⟩) (v := ?_) rfl (by kernel_rfl) (by kernel_rfl) (by kernel_rfl) (fun _ _ _ h => h) (Or.inl ⟨by rfl, ?_⟩) hHeld ?_
              rotate_left
              · intro w' hSw
                try dsimp only at hSw
                go_simp
                all_goals with_reducible rfl
              simp only [Act.put, List.setIfInBounds_toArray, List.set_cons_zero, List.set_cons_succ]
              refine wpAnyH_take (i := 18) (oi := ⟨_, _, _, _, _, _⟩) (v := ?_) rfl (by kernel_rfl) (by kernel_rfl) (by kernel_rfl) (fun _ _ _ h => h) (Or.inl ⟨by rfl, ?_⟩) hHeld ?_
              rotate_left
              · intro w' hSw
                try dsimp only at hSw
                go_simp
                all_goals with_reducible rfl
              simp only [Act.put, List.setIfInBounds_toArray, List.set_cons_zero, List.set_cons_succ]
              refine wpAnyH_take (i := 19) (oi := ⟨_, _, _, _, _, _⟩) (v := ?_) rfl (by kernel_rfl) (by kernel_rfl) (by kernel_rfl) (fun _ _ _ h => h) (Or.inl ⟨by rfl, ?_⟩) hHeld ?_
              rotate_left
              · intro w' hSw
                try dsimp only at hSw
                go_simp
                all_goals with_reducible rfl
              simp only [Act.put, List.setIfInBounds_toArray, List.set_cons_zero, List.set_cons_succ]
              refine wpAnyH_take (i := 20) (oi := ⟨_, _, _, _, _, _⟩) (v := undef) rfl (by kernel_rfl) (by kernel_rfl) (by kernel_rfl) (fun _ _ _ h => h) (Or.inr ⟨by rfl, rfl⟩) hHeld ?_
              simp only [Act.put, List.setIfInBounds_toArray, List.set_cons_zero, List.set_cons_succ]
              refine wpAnyH_take (i := 21) (oi := ⟨_, _, _, _, _, _⟩) (v := undef) rfl (by kernel_rfl) (by kernel_rfl) (by kernel_rfl) (fun _ _ _ h => h) (Or.inr ⟨by rfl, rfl⟩) hHeld ?_
              simp only [Act.put, List.setIfInBounds_toArray, List.set_cons_zero, List.set_cons_succ]
              refine wpAnyH_take (i := 22) (oi := ⟨_, _, _, _, _, _⟩) (v := undef) rfl (by kernel_rfl) (by kernel_rfl) (by kernel_rfl) (fun _ _ _ h => h) (Or.inr ⟨by rfl, rfl⟩) hHeld ?_
              simp only [Act.put, List.setIfInBounds_toArray, List.set_cons_zero, List.set_cons_succ]
              refine wpAnyH_take (i := 23) (oi := ⟨_, _, _, _, _, _⟩) (v := ?_) rfl (by kernel_rfl) (by kernel_rfl) (by kernel_rfl) (fun _ _ _ h => h) (Or.inl ⟨by rfl, ?_⟩) hHeld ?_
              rotate_left
              · intro w' hSw
                try dsimp only at hSw
                go_simp
                all_goals with_reducible rfl
              simp only [Act.put, List.setIfInBounds_toArray, List.set_cons_zero, List.set_cons_succ]
              refine wpAnyH_take (i := 24) (oi := ⟨_, _, _, _, _, _⟩) (v := ?_) rfl (by kernel_rfl) (by kernel_rfl) (by kernel_rfl) (fun _ _ _ h => h) (Or.inl ⟨by rfl, ?_⟩) hHeld ?_
              rotate_left
              · intro w' hSw
                try dsimp only at hSw
                go_simp
                all_goals with_reducible rfl
              simp only [Act.put, List.setIfInBounds_toArray, List.set_cons_zero, List.set_cons_succ]
              refine wpAnyH_done (by kernel_rfl) ?_ _
              refine NoPanic.normal ?_
              go_wp2
              go_roundw
              case rel => exact ⟨i + 1, (s, ln, col) :: r', G, V, W, ls, by omega, by go_num, C7, Hid.of (Nat.le_succ_of_le LS.out), LN, Hid.of (by rw [HN.out]; exact R4.out)⟩
              case measure => simp [RowKit.intOf]; omega
          · skip
            obtain ⟨q, hq, hql⟩ : ∃ q, r.take (wLine r) = q ∧ q.length = wLine r := ⟨_, rfl, by rw [List.length_take]; have := wLine_le r; omega⟩
            have HQ := Hid.of hq
            have HQL := Hid.of hql
            have QN : Hid (q.length ≤ N) := Hid.of (by rw [hql, ← HN.out]; exact wLine_le r)
            clear hq hql
            go_wp2_with fail
            refine (S.line C4.out.wd.rep (by rw [HN.out]; exact R4.out)).mono ?_
            rintro e w5 ⟨u, rfl, ou, G5, rp, stp, offu, hG⟩
            rw [HQ.out, ← HQL.out] at ou
            rw [← HQL.out] at rp
            obtain ⟨ua, uc, rfl⟩ : ∃ a c, u = .slice a q.length c := by
              rcases ou.2 with ⟨h, h'⟩ | ⟨g, cap, cur, h, _⟩
              · rw [h, h']; exact ⟨_, _, rfl⟩
              · exact ⟨_, _, h⟩
            have T5 := Hid.of (C4.out.taken rp stp hG)
            have J5 : Hid (Here bp (bp + 1) (bookW V W) 41 w5 w5 (⟨44, 3, .slice ua q.length uc, q.length, flat wenc q⟩ :: (wblk V W ls ++ [])) []) := Hid.of (T5.out.bk.join (own_mono ou C4.out.bk.hD) (fun x hx g hg hx2 => by
              have e1 := own_ge ou hg
              have e2 := ((C4.out.bk.bag.own x hx).lt g hx2).2
              omega))
            clear ou rp stp offu hG
            obtain ⟨n, hn⟩ : ∃ n, q.length = n := ⟨_, rfl⟩
            have HQn := Hid.of hn
            have N4 : Hid (n ≤ 4000) := Hid.of (by have := QN.out; have := R4.out; omega)
            have J6 := Hid.of (wblk_add bp (bp + 1) (bookW V W) V W (.slice ua q.length uc) ls q [] 41 w5 w5 rfl rfl (by have := LS.out; have := H200.out; omega) (by have := N4.out; omega) J5.out)
            rw [hn] at J6 T5 QN ⊢
            clear hn J5
            go_wp2_with fail
            refine J6.out.mono ?_
            rintro e w6 ⟨rfl, V', W', u', k6⟩
            have k6' : Here bp (bp + 1) (bookW V' W') 41 w5 w6 (wblk V' W' (ls ++ [(.slice ua n uc, u', q)]) ++ []) [] := k6
            have T6 := Hid.of (T5.out.booked k6')
            have UR : Hid (CellRow w6 (.slice ua n uc) n (flat wenc q)) := Hid.of (by have := wblk_last k6; rw [HQn.out] at this; exact this)
            clear k6 k6' J6
            have QI : Hid (∀ k, k < n → q[k]? = r[k]?) := Hid.of (fun k hk => by rw [← HQ.out, List.getElem?_take, if_pos (by rw [← HQL.out, HQn.out]; exact hk)])
            go_wp2
            go_loopw [16] (fun kv wx => ∃ (k nq : Nat), k ≤ n ∧ kv = .int .i64 k ∧ wx = w6.drewN nq) (fun kv _ => n - (RowKit.intOf kv).toNat)
            case atStart => exact ⟨0, 0, Nat.zero_le _, rfl, rfl⟩
            case round =>
              obtain ⟨k, nq, hk, rfl, rfl⟩ := hrel
              have row6 := T6.out.row
              rw [HN.out] at row6
              have k0 : (0 : Int) ≤ (k : Int) := by omega
              by_cases hkn : k < n
              · have hkN : k < N := by have := QN.out; omega
                have hkI : (k : Int) < (N : Int) := by omega
                obtain ⟨x, r', rfl⟩ : ∃ x r', r = x :: r' := by
                  cases r with
                  | nil => exact absurd HN.out (by simp; omega)
                  | cons x r' => exact ⟨x, r', rfl⟩
                obtain ⟨y, hy, hyl⟩ := wLine_in (x := x) (r := r') (k := k) (by rw [← HQL.out, HQn.out]; exact hkn)
                obtain ⟨b1, o1, rfl, hl1, d0, d1, d2⟩ := w_at row6 0 x rfl
                obtain ⟨b2, o2, hb2, hl2, f0, f1, f2⟩ := w_at row6 k y hy
                simp only [Option.some.injEq, Addr.mk.injEq, and_true] at hb2
                obtain ⟨rfl, rfl⟩ := hb2
                rw [Nat.zero_mul, Nat.add_zero] at d1
                rw [hyl] at f1
                have n2 : 0 < N := by omega
                obtain ⟨ln, hln⟩ : ∃ ln, x.2.1 = ln := ⟨_, rfl⟩
                rw [hln] at d1 f1
                clear row6 hy hyl d0 d2 f0 f2 hln hl2 hk
                go_wp2_with fail
                go_quiet (fail)
                go_wp2
                go_roundw
                case rel => exact ⟨k + 1, _, by omega, by go_num, rfl⟩
                case measure => simp [RowKit.intOf]; omega
              · have hkn' : k = n := by omega
                subst hkn'
                have k9 : (k : Int) ≤ 4000 := by have := N4.out; omega
                by_cases hkN : k < N
                · have hkI : (k : Int) < (N : Int) := by omega
                  obtain ⟨x, r', rfl⟩ : ∃ x r', r = x :: r' := by
                    cases r with
                    | nil => exact absurd HN.out (by simp; omega)
                    | cons x r' => exact ⟨x, r', rfl⟩
                  obtain ⟨y, hy, hyl⟩ := wLine_end (x := x) (r := r') (by rw [← HQL.out, HQn.out, HN.out]; exact hkN)
                  rw [← HQL.out, HQn.out] at hy
                  obtain ⟨b1, o1, rfl, hl1, d0, d1, d2⟩ := w_at row6 0 x rfl
                  obtain ⟨b2, o2, hb2, hl2, f0, f1, f2⟩ := w_at row6 k y hy
                  simp only [Option.some.injEq, Addr.mk.injEq, and_true] at hb2
                  obtain ⟨rfl, rfl⟩ := hb2
                  rw [Nat.zero_mul, Nat.add_zero] at d1
                  have n2 : 0 < N := by omega
                  obtain ⟨ln, hln⟩ : ∃ ln, x.2.1 = ln := ⟨_, rfl⟩
                  obtain ⟨lm, hlm⟩ : ∃ lm, y.2.1 = lm := ⟨_, rfl⟩
                  rw [hln] at d1 hyl
                  rw [hlm] at f1 hyl
                  have hne : (lm == ln) = false := by simpa using hyl
                  clear row6 hy d0 d2 f0 f2 hln hlm hl2 hk
                  go_wp2_with fail
                  go_quiet (fail)
                  go_wp2
                  go_loopw [17] (fun kv wx => ∃ j : Nat, j ≤ k ∧ kv = .int .i64 j ∧ Hid (Below w6.heap.size w6 wx)) (fun kv _ => k - (RowKit.intOf kv).toNat)
                  case atStart => exact ⟨0, Nat.zero_le _, rfl, Hid.of (below_drewN (Below.refl _ _) _)⟩
                  case round =>
                    obtain ⟨j, hj, rfl, BW⟩ := hrel
                    have j0 : (0 : Int) ≤ (j : Int) := by omega
                    by_cases hjk : j < k
                    · have j1 : (j : Int) < (k : Int) := by omega
                      have j2 : (j : Int) < (N : Int) := by have := QN.out; omega
                      obtain ⟨z, hz⟩ : ∃ z, q[j]? = some z := ⟨_, List.getElem?_eq_getElem (by rw [HQn.out]; exact hjk)⟩
                      have hz2 := hz
                      rw [QI.out j hjk] at hz2
                      obtain ⟨zs, zl, zc⟩ := z
                      obtain ⟨b3, o3, rfl, hl3, p0, p1, p2⟩ := w_at (UR.out.kept BW.out) j _ hz
                      have rowx := (T6.out.next BW.out).row
                      rw [HN.out] at rowx
                      obtain ⟨b4, o4, hb4, hl4, q0, q1, q2⟩ := w_at rowx j _ hz2
                      simp only [Option.some.injEq, Addr.mk.injEq, and_true] at hb4
                      obtain ⟨rfl, rfl⟩ := hb4
                      have P0 := Hid.of p0
                      have P1 := Hid.of p1
                      have P2 := Hid.of p2
                      have Q0 := Hid.of q0
                      have Q1 := Hid.of q1
                      have Q2 := Hid.of q2
                      have HL3 := Hid.of hl3
                      have HL4 := Hid.of hl4
                      clear hz hz2 rowx hl3 hl4 hj
                      go_wp2
                      go_region_held3 (fun w' => w'.cell? ⟨b3, o3 + j * 3, none⟩ = some (.string zs) ∧ w'.cell? ⟨b3, o3 + j * 3 + 1, none⟩ = some (.int .i64 zl) ∧ w'.cell? ⟨b3, o3 + j * 3 + 2, none⟩ = some (.int .i64 zc) ∧ w'.cell? ⟨b1, o1 + j * 3, none⟩ = some (.string zs) ∧ w'.cell? ⟨b1, o1 + j * 3 + 1, none⟩ = some (.int .i64 zl) ∧ w'.cell? ⟨b1, o1 + j * 3 + 2, none⟩ = some (.int .i64 zc)) (go_keep) (first | (go_at_call 12; refine (same_any (zs, zl, zc) _).mono ?_; rintro e w8 ⟨rfl, b8⟩; have B8 : Hid (Below wr.heap.size wr w8) := Hid.of ((Below.refl _ wr).drew.trans b8); clear b8 p0 p1 p2 q0 q1 q2; have p0 := (B8.out.cell (p := ⟨b3, o3 + j * 3, none⟩) HL3.out).trans P0.out; have p1 := (B8.out.cell (p := ⟨b3, o3 + j * 3 + 1, none⟩) HL3.out).trans P1.out; have p2 := (B8.out.cell (p := ⟨b3, o3 + j * 3 + 2, none⟩) HL3.out).trans P2.out; have q0 := (B8.out.cell (p := ⟨b1, o1 + j * 3, none⟩) HL4.out).trans Q0.out; have q1 := (B8.out.cell (p := ⟨b1, o1 + j * 3 + 1, none⟩) HL4.out).trans Q1.out; have q2 := (B8.out.cell (p := ⟨b1, o1 + j * 3 + 2, none⟩) HL4.out).trans Q2.out))
                      go_wp2
                      go_roundw
                      case rel => exact ⟨j + 1, by omega, by go_num, Hid.of (BW.out.trans (B8.out.mono BW.out.size))⟩
                      case measure => simp [RowKit.intOf]; omega
                    · have hjk2 : j = k := by omega
                      subst hjk2
                      have T9 := Hid.of (T6.out.next BW.out)
                      have LS2 : Hid ((ls ++ [(Value.slice ua j uc, u', q)]).length ≤ i + 1) := Hid.of (by rw [List.length_append]; have := LS.out; simp; omega)
                      have LN2 : Hid (∀ x ∈ ls ++ [(Value.slice ua j uc, u', q)], x.2.2.length ≤ 900000) := Hid.of (fun x hx => by
                        rw [List.mem_append] at hx
                        rcases hx with hx | hx
                        · exact LN.out x hx
                        · simp only [List.mem_singleton] at hx
                          rw [hx]
                          have := HQn.out
                          have := N4.out
                          simp only
                          omega)
                      have CU := T9.out.sliced (k := j) rfl HN.out RC.out (by omega)
                      have hr1 : ¬ rc = j := by have := RC.out; omega
                      have j3 : (j : Int) ≤ (N : Int) := by omega
                      rw [if_neg hr1] at CU
                      have CU2 := Hid.of CU
                      clear CU hj
                      go_wp2
                      go_roundw
                      case rel => exact ⟨i + 1, _, G5, V', W', _, by omega, by go_num, CU2, LS2, LN2, Hid.of (by rw [List.length_drop, HN.out]; have := R4.out; omega)⟩
                      case measure => simp [RowKit.intOf]; omega
                · have hkI : ¬ (k : Int) < (N : Int) := by omega
                  have hke : k = N := by have := QN.out; omega
                  clear row6 hk
                  go_wp2_with fail
                  go_quiet (fail)
                  go_wp2
                  go_loopw [17] (fun kv wx => ∃ j : Nat, j ≤ k ∧ kv = .int .i64 j ∧ Hid (Below w6.heap.size w6 wx)) (fun kv _ => k - (RowKit.intOf kv).toNat)
                  case atStart => exact ⟨0, Nat.zero_le _, rfl, Hid.of (below_drewN (Below.refl _ _) _)⟩
                  case round =>
                    obtain ⟨j, hj, rfl, BW⟩ := hrel
                    have j0 : (0 : Int) ≤ (j : Int) := by omega
                    by_cases hjk : j < k
                    · have j1 : (j : Int) < (k : Int) := by omega
                      have j2 : (j : Int) < (N : Int) := by have := QN.out; omega
                      obtain ⟨z, hz⟩ : ∃ z, q[j]? = some z := ⟨_, List.getElem?_eq_getElem (by rw [HQn.out]; exact hjk)⟩
                      have hz2 := hz
                      rw [QI.out j hjk] at hz2
                      obtain ⟨zs, zl, zc⟩ := z
                      obtain ⟨b3, o3, rfl, hl3, p0, p1, p2⟩ := w_at (UR.out.kept BW.out) j _ hz
                      have rowx := (T6.out.next BW.out).row
                      rw [HN.out] at rowx
                      obtain ⟨b4, o4, hb4, hl4, q0, q1, q2⟩ := w_at rowx j _ hz2
                      subst hb4
                      have P0 := Hid.of p0
                      have P1 := Hid.of p1
                      have P2 := Hid.of p2
                      have Q0 := Hid.of q0
                      have Q1 := Hid.of q1
                      have Q2 := Hid.of q2
                      have HL3 := Hid.of hl3
                      have HL4 := Hid.of hl4
                      clear hz hz2 rowx hl3 hl4 hj
                      go_wp2
                      go_region_held3 (fun w' => w'.cell? ⟨b3, o3 + j * 3, none⟩ = some (.string zs) ∧ w'.cell? ⟨b3, o3 + j * 3 + 1, none⟩ = some (.int .i64 zl) ∧ w'.cell? ⟨b3, o3 + j * 3 + 2, none⟩ = some (.int .i64 zc) ∧ w'.cell? ⟨b4, o4 + j * 3, none⟩ = some (.string zs) ∧ w'.cell? ⟨b4, o4 + j * 3 + 1, none⟩ = some (.int .i64 zl) ∧ w'.cell? ⟨b4, o4 + j * 3 + 2, none⟩ = some (.int .i64 zc)) (go_keep) (first | (go_at_call 12; refine (same_any (zs, zl, zc) _).mono ?_; rintro e w8 ⟨rfl, b8⟩; have B8 : Hid (Below wr.heap.size wr w8) := Hid.of ((Below.refl _ wr).drew.trans b8); clear b8 p0 p1 p2 q0 q1 q2; have p0 := (B8.out.cell (p := ⟨b3, o3 + j * 3, none⟩) HL3.out).trans P0.out; have p1 := (B8.out.cell (p := ⟨b3, o3 + j * 3 + 1, none⟩) HL3.out).trans P1.out; have p2 := (B8.out.cell (p := ⟨b3, o3 + j * 3 + 2, none⟩) HL3.out).trans P2.out; have q0 := (B8.out.cell (p := ⟨b4, o4 + j * 3, none⟩) HL4.out).trans Q0.out; have q1 := (B8.out.cell (p := ⟨b4, o4 + j * 3 + 1, none⟩) HL4.out).trans Q1.out; have q2 := (B8.out.cell (p := ⟨b4, o4 + j * 3 + 2, none⟩) HL4.out).trans Q2.out))
                      go_wp2
                      go_roundw
                      case rel => exact ⟨j + 1, by omega, by go_num, Hid.of (BW.out.trans (B8.out.mono BW.out.size))⟩
                      case measure => simp [RowKit.intOf]; omega
                    · have hjk2 : j = k := by omega
                      subst hjk2
                      have T9 := Hid.of (T6.out.next BW.out)
                      have LS2 : Hid ((ls ++ [(Value.slice ua j uc, u', q)]).length ≤ i + 1) := Hid.of (by rw [List.length_append]; have := LS.out; simp; omega)
                      have LN2 : Hid (∀ x ∈ ls ++ [(Value.slice ua j uc, u', q)], x.2.2.length ≤ 900000) := Hid.of (fun x hx => by
                        rw [List.mem_append] at hx
                        rcases hx with hx | hx
                        · exact LN.out x hx
                        · simp only [List.mem_singleton] at hx
                          rw [hx]
                          have := HQn.out
                          have := N4.out
                          simp only
                          omega)
                      subst hke
                      have hr0 : r.drop j = [] := List.eq_nil_of_length_eq_zero (by rw [List.length_drop, HN.out]; omega)
                      have j3 : (j : Int) ≤ (j : Int) := Int.le_refl _
                      by_cases hr1 : rc = j
                      · go_wp2
                        go_roundw
                        case rel => exact ⟨i + 1, [], G5, V', W', _, by omega, by go_num, Hid.of (T9.out.all hr0), LS2, LN2, Hid.of (Nat.zero_le _)⟩
                        case measure => simp [RowKit.intOf]; omega
                      · go_wp2
                        go_roundw
                        case rel => exact ⟨i + 1, [], G5, V', W', _, by omega, by go_num, Hid.of (T9.out.all hr0), LS2, LN2, Hid.of (Nat.zero_le _)⟩
                        case measure => simp [RowKit.intOf]; omega
          · cases r with
            | nil =>
              obtain rfl : N = 0 := by simpa using HN.out.symm
              go_wp2_with fail
              refine (S.next C4.out.wd.rep (by rw [HN.out]; exact R4.out)).mono ?_
              rintro e w5 ⟨rfl, G5, rp, stp, hG⟩
              have T5 := Hid.of (C4.out.taken rp stp hG)
              clear rp stp hG
              obtain ⟨w6, hw6⟩ : ∃ w6, w5.alloc (.cells #[.string ⟨#[]⟩, .int .i64 0, .int .i64 0] 44) = w6 := ⟨_, rfl⟩
              have K6 : Hid (WBlk w6 w5.heap.size (⟨#[]⟩, 0, 0)) := Hid.of (by rw [← hw6]; exact WBlk.made w5 (⟨#[]⟩, 0, 0))
              have T6 := Hid.of (T5.out.next (show Below w5.heap.size w5 w6 by rw [← hw6]; exact (Below.refl _ _).alloc (Nat.le_refl _) _))
              have HW6 := Hid.of hw6
              clear hw6
              obtain ⟨c0, c1, c2⟩ := K6.out.at
              go_wp2_with fail
              simp only [wHead, wdVal]
              rw [HW6.out]
              go_quiet (fail)
              go_wp2
              go_roundw
              case rel => exact ⟨i + 1, [], G5, V, W, ls, by omega, by go_num, Hid.of ((T6.out.next (below_drewN (Below.refl _ _) _)).cut (k := 0) rfl (T6.out.next (below_drewN (Below.refl _ _) _)).row (fun h => absurd rfl h) T6.out.fit), Hid.of (Nat.le_succ_of_le LS.out), LN, Hid.of (Nat.zero_le _)⟩
              case measure => simp [RowKit.intOf]; omega
            | cons x r' =>
              obtain ⟨s, ln, col⟩ := x
              have n2 : 0 < N := by have := HN.out; simp only [List.length_cons] at this; omega
              have n1 : (0 : Int) < (N : Int) := by omega
              go_wp2_with fail
              refine (S.next C4.out.wd.rep (by rw [HN.out]; exact R4.out)).mono ?_
              rintro e w5 ⟨rfl, G5, rp, stp, hG⟩
              have T5 := Hid.of (C4.out.taken rp stp hG)
              clear rp stp hG
              obtain ⟨w6, hw6⟩ : ∃ w6, w5.alloc (.cells #[.string s, .int .i64 ln, .int .i64 col] 44) = w6 := ⟨_, rfl⟩
              have K6 : Hid (WBlk w6 w5.heap.size (s, ln, col)) := Hid.of (by rw [← hw6]; exact WBlk.made w5 (s, ln, col))
              have T6 := Hid.of (T5.out.next (show Below w5.heap.size w5 w6 by rw [← hw6]; exact (Below.refl _ _).alloc (Nat.le_refl _) _))
              have HW6 := Hid.of hw6
              clear hw6
              obtain ⟨c0, c1, c2⟩ := K6.out.at
              have row6 := T6.out.row
              rw [HN.out] at row6
              obtain ⟨b1, o1, rfl, hl1, d0, d1, d2⟩ := w_at row6 0 (s, ln, col) rfl
              rw [Nat.zero_mul, Nat.add_zero] at d0 d1 d2
              have HL1 := Hid.of hl1
              have D0 := Hid.of d0
              have D1 := Hid.of d1
              have D2 := Hid.of d2
              clear row6 hl1
              go_wp2_with fail
              simp only [wHead, wdVal]
              rw [HW6.out]
              refine wp_region_noPanic ?_
              refine wp_region_held_drew (S := fun w' => w'.cell? ⟨w5.heap.size, 0, none⟩ = some (.string s) ∧ w'.cell? ⟨w5.heap.size, 1, none⟩ = some (.int .i64 ln) ∧ w'.cell? ⟨w5.heap.size, 2, none⟩ = some (.int .i64 col) ∧ w'.cell? ⟨b1, o1, none⟩ = some (.string s) ∧ w'.cell? ⟨b1, o1 + 1, none⟩ = some (.int .i64 ln) ∧ w'.cell? ⟨b1, o1 + 2, none⟩ = some (.int .i64 col)) (by kernel_rfl) ?_ (fun hHeld => ?_)
              · exact ⟨c0, c1, c2, d0, d1, d2⟩
              refine wpAnyH_take (i := 0) (oi := ⟨_, _, _, _, _, _⟩) (v := ?_) rfl (by kernel_rfl) (by kernel_rfl) (by kernel_rfl) (fun _ _ _ h => h) (Or.inl ⟨by rfl, ?_⟩) hHeld ?_
              rotate_left
              · intro w' hSw
                try dsimp only at hSw
                go_simp
                all_goals with_reducible rfl
              simp only [Act.put, List.setIfInBounds_toArray, List.set_cons_zero, List.set_cons_succ]
              refine wpAnyH_take (i := 1) (oi := ⟨_, _, _, _, _, _⟩) (v := ?_) rfl (by kernel_rfl) (by kernel_rfl) (by kernel_rfl) (fun _ _ _ h => h) (Or.inl ⟨by rfl, ?_⟩) hHeld ?_
              rotate_left
              · intro w' hSw
                try dsimp only at hSw
                go_simp
                all_goals with_reducible rfl
              simp only [Act.put, List.setIfInBounds_toArray, List.set_cons_zero, List.set_cons_succ]
              refine wpAnyH_take (i := 2) (oi := ⟨_, _, _, _, _, _⟩) (v := ?_) rfl (by kernel_rfl) (by kernel_rfl) (by kernel_rfl) (fun _ _ _ h => h) (Or.inl ⟨by rfl, ?_⟩) hHeld ?_
              rotate_left
              · intro w' hSw
                try dsimp only at hSw
                go_simp
                all_goals with_reducible rfl
              simp only [Act.put, List.setIfInBounds_toArray, List.set_cons_zero, List.set_cons_succ]
              refine wpAnyH_take (i := 3) (oi := ⟨_, _, _, _, _, _⟩) (v := ?_) rfl (by kernel_rfl) (by kernel_rfl) (by kernel_rfl) (fun _ _ _ h => h) (Or.inl ⟨by rfl, ?_⟩) hHeld ?_
              rotate_left
              · intro w' hSw
                try dsimp only at hSw
                go_simp
                all_goals with_reducible rfl
              simp only [Act.put, List.setIfInBounds_toArray, List.set_cons_zero, List.set_cons_succ]
              refine wpAnyH_take (i := 4) (oi := ⟨_, _, _, _, _, _⟩) (v := ?_) rfl (by kernel_rfl) (by kernel_rfl) (by kernel_rfl) (fun _ _ _ h => h) (Or.inl ⟨by rfl, ?_⟩) hHeld ?_
              rotate_left
              · intro w' hSw
                try dsimp only at hSw
                go_simp
                all_goals with_reducible rfl
              simp only [Act.put, List.setIfInBounds_toArray, List.set_cons_zero, List.set_cons_succ]
              refine wpAnyH_take (i := 5) (oi := ⟨_, _, _, _, _, _⟩) (v := ?_) rfl (by kernel_rfl) (by kernel_rfl) (by kernel_rfl) (fun _ _ _ h => h) (Or.inl ⟨by rfl, ?_⟩) hHeld ?_
              rotate_left
              · intro w' hSw
                try dsimp only at hSw
                go_simp
                all_goals with_reducible rfl
              simp only [Act.put, List.setIfInBounds_toArray, List.set_cons_zero, List.set_cons_succ]
              refine wpAnyH_take (i := 6) (oi := ⟨_, _, _, _, _, _⟩) (v := ?_) rfl (by kernel_rfl) (by kernel_rfl) (by kernel_rfl) (fun _ _ _ h => h) (Or.inl ⟨by rfl, ?_⟩) hHeld ?_
              rotate_left
              · intro w' hSw
                try dsimp only at hSw
                go_simp
                all_goals with_reducible rfl
              simp only [Act.put, List.setIfInBounds_toArray, List.set_cons_zero, List.set_cons_succ]
              refine wpAnyH_take (i := 7) (oi := ⟨_, _, _, _, _, _⟩) (v := ?_) rfl (by kernel_rfl) (by kernel_rfl) (by kernel_rfl) (fun _ _ _ h => h) (Or.inl ⟨by rfl, ?_⟩) hHeld ?_
              rotate_left
              · intro w' hSw
                try dsimp only at hSw
                go_simp
                all_goals with_reducible rfl
              simp only [Act.put, List.setIfInBounds_toArray, List.set_cons_zero, List.set_cons_succ]
              refine wpAnyH_take (i := 8) (oi := ⟨_, _, _, _, _, _⟩) (v := ?_) rfl (by kernel_rfl) (by kernel_rfl) (by kernel_rfl) (fun _ _ _ h => h) (Or.inl ⟨by rfl, ?_⟩) hHeld ?_
              rotate_left
              · intro w' hSw
                try dsimp only at hSw
                go_simp
                all_goals with_reducible rfl
              simp only [Act.put, List.setIfInBounds_toArray, List.set_cons_zero, List.set_cons_succ]
              refine wpAnyH_take (i := 9) (oi := ⟨_, _, _, _, _, _⟩) (v := ?_) rfl (by kernel_rfl) (by kernel_rfl) (by kernel_rfl) (fun _ _ _ h => h) (Or.inl ⟨by rfl, ?_⟩) hHeld ?_
              rotate_left
              · intro w' hSw
                try dsimp only at hSw
                go_simp
                all_goals with_reducible rfl
              simp only [Act.put, List.setIfInBounds_toArray, List.set_cons_zero, List.set_cons_succ]
              refine wpAnyH_take (i := 10) (oi := ⟨_, _, _, _, _, _⟩) (v := ?_) rfl (by kernel_rfl) (by kernel_rfl) (by kernel_rfl) (fun _ _ _ h => h) (Or.inl ⟨by rfl, ?_⟩) hHeld ?_
              rotate_left
              · intro w' hSw
                try dsimp only at hSw
                go_simp
                all_goals with_reducible rfl
              simp only [Act.put, List.setIfInBounds_toArray, List.set_cons_zero, List.set_cons_succ]
              refine wpAnyH_take (i := 11) (oi := ⟨_, _, _, _, _, _⟩) (v := ?_) rfl (by kernel_rfl) (by kernel_rfl) (by kernel_rfl) (fun _ _ _ h => h) (Or.inl ⟨by rfl, ?_⟩) hHeld ?_
              rotate_left
              · intro w' hSw
                try dsimp only at hSw
                go_simp
                all_goals with_reducible rfl
              simp only [Act.put, List.setIfInBounds_toArray, List.set_cons_zero, List.set_cons_succ]
              refine wpAnyH_ready (rs := [12]) (by kernel_rfl) (by simp) ?_
              refine AllReadyH.cons (o := ⟨_, _, _, _, _, _⟩) rfl (fun K hK => ?_) AllReadyH.nil
              go_simp
              refine (same_any (s, ln, col) _).mono ?_
              rintro e w7 ⟨rfl, b7⟩
              have B7 : Hid (Below w6.heap.size w6 w7) := Hid.of ((Below.refl _ w6).drew.trans b7)
              have T7 := Hid.of (T6.out.next B7.out)
              have K7 := Hid.of (K6.out.kept B7.out)
              clear b7 c0 c1 c2 d0 d1 d2 hHeld
              obtain ⟨c0, c1, c2⟩ := K7.out.at
              have d0 : w7.cell? ⟨b1, o1, none⟩ = some (.string s) := by rw [B7.out.cell HL1.out]; exact D0.out
              have d1 : w7.cell? ⟨b1, o1 + 1, none⟩ = some (.int .i64 ln) := by rw [B7.out.cell HL1.out]; exact D1.out
              have d2 : w7.cell? ⟨b1, o1 + 2, none⟩ = some (.int .i64 col) := by rw [B7.out.cell HL1.out]; exact D2.out
              refine hK.out _ _ ⟨c0, c1, c2, d0, d1, d2⟩ (fun hHeld => ?_)
              clear hK K
              try simp only [Act.put, List.setIfInBounds_toArray, List.set_cons_zero, List.set_cons_succ]
              refine wpAnyH_take (i := 13) (oi := ⟨_, _, _, _, _, _⟩) (v := ?_) rfl (by kernel_rfl) (by kernel_rfl) (by kernel_rfl) (fun _ _ _ h => h) (Or.inl ⟨by rfl, ?_⟩) hHeld ?_
              rotate_left
              · intro w' hSw
                try dsimp only at hSw
                go_simp
                all_goals with_reducible rfl
              simp only [Act.put, List.setIfInBounds_toArray, List.set_cons_zero, List.set_cons_succ]
              refine wpAnyH_take (i := 14) (oi := ⟨_, _, _, _, _, _⟩) (v := ?_) rfl (by kernel_rfl) (by kernel_rfl) (by kernel_rfl) (fun _ _ _ h => h) (Or.inl ⟨by rfl, ?_⟩) hHeld ?_
              rotate_left
              · intro w' hSw
                try dsimp only at hSw
                go_simp
                all_goals with_reducible rfl
              simp only [Act.put, List.setIfInBounds_toArray, List.set_cons_zero, List.set_cons_succ]
              refine wpAnyH_take (i := 15) (oi := ⟨_, _, _, _, _, _⟩) (v := ?_) rfl (by kernel_rfl) (by kernel_rfl) (by kernel_rfl) (fun _ _ _ h => h) (Or.inl ⟨by rfl, ?_⟩) hHeld ?_
              rotate_left
              · intro w' hSw
                try dsimp only at hSw
                go_simp
                all_goals with_reducible rfl
              simp only [Act.put, List.setIfInBounds_toArray, List.set_cons_zero, List.set_cons_succ]
              refine wpAnyH_take (i := 16) (oi := ⟨_, _, _, _, _, _⟩) (v := ?_) rfl (by kernel_rfl) (by kernel_rfl) (by kernel_rfl) (fun _ _ _ h => h) (Or.inl ⟨by rfl, ?_⟩) hHeld ?_
              rotate_left
              · intro w' hSw
                try dsimp only at hSw
                go_simp
                all_goals with_reducible rfl
              simp only [Act.put, List.setIfInBounds_toArray, List.set_cons_zero, List.set_cons_succ]
              refine wpAnyH_take (i := 17) (oi := ⟨_, _, _, _, _, _⟩) (v := ?_) rfl (by kernel_rfl) (by kernel_rfl) (by kernel_rfl) (fun _ _ _ h => h) (Or.inl ⟨by rfl, ?_⟩) hHeld ?_
              rotate_left
              · intro w' hSw
                try dsimp only at hSw
                go_simp
                all_goals with_reducible rfl
              simp only [Act.put, List.setIfInBounds_toArray, List.set_cons_zero, List.set_cons_succ]
              refine wpAnyH_take (i := 18) (oi := ⟨_, _, _, _, _, _⟩) (v := ?_) rfl (by kernel_rfl) (by kernel_rfl) (by kernel_rfl) (fun _ _ _ h => h) (Or.inl ⟨by rfl, ?_⟩) hHeld ?_
              rotate_left
              · intro w' hSw
                try dsimp only at hSw
                go_simp
                all_goals with_reducible rfl
              simp only [Act.put, List.setIfInBounds_toArray, List.set_cons_zero, List.set_cons_succ]
              refine wpAnyH_take (i := 19) (oi := ⟨_, _, _, _, _, _⟩) (v := ?_) rfl (by kernel_rfl) (by kernel_rfl) (by kernel_rfl) (fun _ _ _ h => h) (Or.inl ⟨by rfl, ?_⟩) hHeld ?_
              rotate_left
              · intro w' hSw
                try dsimp only at hSw
                go_simp
                all_goals with_reducible rfl
              simp only [Act.put, List.setIfInBounds_toArray, List.set_cons_zero, List.set_cons_succ]
              refine wpAnyH_take (i := 20) (oi := ⟨_, _, _, _, _, _⟩) (v := undef) rfl (by kernel_rfl) (by kernel_rfl) (by kernel_rfl) (fun _ _ _ h => h) (Or.inr ⟨by rfl, rfl⟩) hHeld ?_
              simp only [Act.put, List.setIfInBounds_toArray, List.set_cons_zero, List.set_cons_succ]
              refine wpAnyH_take (i := 21) (oi := ⟨_, _, _, _, _, _⟩) (v := undef) rfl (by kernel_rfl) (by kernel_rfl) (by kernel_rfl) (fun _ _ _ h => h) (Or.inr ⟨by rfl, rfl⟩) hHeld ?_
              simp only [Act.put, List.setIfInBounds_toArray, List.set_cons_zero, List.set_cons_succ]
              refine wpAnyH_take (i := 22) (oi := ⟨_, _, _, _, _, _⟩) (v := undef) rfl (by kernel_rfl) (by kernel_rfl) (by kernel_rfl) (fun _ _ _ h => h) (Or.inr ⟨by rfl, rfl⟩) hHeld ?_
              simp only [Act.put, List.setIfInBounds_toArray, List.set_cons_zero, List.set_cons_succ]
              refine wpAnyH_take (i := 23) (oi := ⟨_, _, _, _, _, _⟩) (v := ?_) rfl (by kernel_rfl) (by kernel_rfl) (by kernel_rfl) (fun _ _ _ h => h) (Or.inl ⟨by rfl, ?_⟩) hHeld ?_
              rotate_left
              · intro w' hSw
                try dsimp only at hSw
                go_simp
                all_goals with_reducible rfl
              simp only [Act.put, List.setIfInBounds_toArray, List.set_cons_zero, List.set_cons_succ]
              refine wpAnyH_take (i := 24) (oi := ⟨_, _, _, _, _, _⟩) (v := ?_) rfl (by kernel_rfl) (by kernel_rfl) (by kernel_rfl) (fun _ _ _ h => h) (Or.inl ⟨by rfl, ?_⟩) hHeld ?_
              rotate_left
              · intro w' hSw
                try dsimp only at hSw
                go_simp
                all_goals with_reducible rfl
              simp only [Act.put, List.setIfInBounds_toArray, List.set_cons_zero, List.set_cons_succ]
              refine wpAnyH_done (by kernel_rfl) ?_ _
              refine NoPanic.normal ?_
              have n3 : (1 : Int) ≤ (N : Int) := by omega
              have CU := T7.out.sliced (k := 1) rfl HN.out RC.out (by omega)
              by_cases hr1 : rc = 1
              · rw [if_pos hr1, show rc - 1 = 0 by omega] at CU
                have CU2 := Hid.of CU
                clear CU
                go_wp2
                go_roundw
                case rel => exact ⟨i + 1, r', G5, V, W, ls, by omega, by go_num, CU2, Hid.of (Nat.le_succ_of_le LS.out), LN, Hid.of (by have := R4.out; have := HN.out; simp only [List.length_cons] at this; omega)⟩
                case measure => simp [RowKit.intOf]; omega
              · rw [if_neg hr1] at CU
                have CU2 := Hid.of CU
                clear CU
                go_wp2
                go_roundw
                case rel => exact ⟨i + 1, r', G5, V, W, ls, by omega, by go_num, CU2, Hid.of (Nat.le_succ_of_le LS.out), LN, Hid.of (by have := R4.out; have := HN.out; simp only [List.length_cons] at this; omega)⟩
                case measure => simp [RowKit.intOf]; omega
          · cases r with
            | nil =>
              obtain rfl : N = 0 := by simpa using HN.out.symm
              go_wp2_with fail
              refine (S.next C4.out.wd.rep (by rw [HN.out]; exact R4.out)).mono ?_
              rintro e w5 ⟨rfl, G5, rp, stp, hG⟩
              have T5 := Hid.of (C4.out.taken rp stp hG)
              clear rp stp hG
              obtain ⟨w6, hw6⟩ : ∃ w6, w5.alloc (.cells #[.string ⟨#[]⟩, .int .i64 0, .int .i64 0] 44) = w6 := ⟨_, rfl⟩
              have K6 : Hid (WBlk w6 w5.heap.size (⟨#[]⟩, 0, 0)) := Hid.of (by rw [← hw6]; exact WBlk.made w5 (⟨#[]⟩, 0, 0))
              have T6 := Hid.of (T5.out.next (show Below w5.heap.size w5 w6 by rw [← hw6]; exact (Below.refl _ _).alloc (Nat.le_refl _) _))
              have HW6 := Hid.of hw6
              clear hw6
              obtain ⟨c0, c1, c2⟩ := K6.out.at
              go_wp2_with fail
              simp only [wHead, wdVal]
              rw [HW6.out]
              go_quiet (fail)
              go_wp2
              go_roundw
              case rel => exact ⟨i + 1, [], G5, V, W, ls, by omega, by go_num, Hid.of ((T6.out.next (below_drewN (Below.refl _ _) _)).cut (k := 0) rfl (T6.out.next (below_drewN (Below.refl _ _) _)).row (fun h => absurd rfl h) T6.out.fit), Hid.of (Nat.le_succ_of_le LS.out), LN, Hid.of (Nat.zero_le _)⟩
              case measure => simp [RowKit.intOf]; omega
            | cons x r' =>
              obtain ⟨s, ln, col⟩ := x
              have n2 : 0 < N := by have := HN.out; simp only [List.length_cons] at this; omega
              have n1 : (0 : Int) < (N : Int) := by omega
              go_wp2_with fail
              refine (S.next C4.out.wd.rep (by rw [HN.out]; exact R4.out)).mono ?_
              rintro e w5 ⟨rfl, G5, rp, stp, hG⟩
              have T5 := Hid.of (C4.out.taken rp stp hG)
              clear rp stp hG
              obtain ⟨w6, hw6⟩ : ∃ w6, w5.alloc (.cells #[.string s, .int .i64 ln, .int .i64 col] 44) = w6 := ⟨_, rfl⟩
              have K6 : Hid (WBlk w6 w5.heap.size (s, ln, col)) := Hid.of (by rw [← hw6]; exact WBlk.made w5 (s, ln, col))
              have T6 := Hid.of (T5.out.next (show Below w5.heap.size w5 w6 by rw [← hw6]; exact (Below.refl _ _).alloc (Nat.le_refl _) _))
              have HW6 := Hid.of hw6
              clear hw6
              obtain ⟨c0, c1, c2⟩ := K6.out.at
              have row6 := T6.out.row
              rw [HN.out] at row6
              obtain ⟨b1, o1, rfl, hl1, d0, d1, d2⟩ := w_at row6 0 (s, ln, col) rfl
              rw [Nat.zero_mul, Nat.add_zero] at d0 d1 d2
              have HL1 := Hid.of hl1
              have D0 := Hid.of d0
              have D1 := Hid.of d1
              have D2 := Hid.of d2
              clear row6 hl1
              go_wp2_with fail
              simp only [wHead, wdVal]
              rw [HW6.out]
              refine wp_region_noPanic ?_
              refine wp_region_held_drew (S := fun w' => w'.cell? ⟨w5.heap.size, 0, none⟩ = some (.string s) ∧ w'.cell? ⟨w5.heap.size, 1, none⟩ = some (.int .i64 ln) ∧ w'.cell? ⟨w5.heap.size, 2, none⟩ = some (.int .i64 col) ∧ w'.cell? ⟨b1, o1, none⟩ = some (.string s) ∧ w'.cell? ⟨b1, o1 + 1, none⟩ = some (.int .i64 ln) ∧ w'.cell? ⟨b1, o1 + 2, none⟩ = some (.int .i64 col)) (by kernel_rfl) ?_ (fun hHeld => ?_)
              · exact ⟨c0, c1, c2, d0, d1, d2⟩
              refine wpAnyH_take (i := 0) (oi := ⟨_, _, _, _, _, _⟩) (v := ?_) rfl (by kernel_rfl) (by kernel_rfl) (by kernel_rfl) (fun _ _ _ h => h) (Or.inl ⟨by rfl, ?_⟩) hHeld ?_
              rotate_left
              · intro w' hSw
                try dsimp only at hSw
                go_simp
                all_goals with_reducible rfl
              simp only [Act.put, List.setIfInBounds_toArray, List.set_cons_zero, List.set_cons_succ]
              refine wpAnyH_take (i := 1) (oi := ⟨_, _, _, _, _, _⟩) (v := ?_) rfl (by kernel_rfl) (by kernel_rfl) (by kernel_rfl) (fun _ _ _ h => h) (Or.inl ⟨by rfl, ?_⟩) hHeld ?_
              rotate_left
              · intro w' hSw
                try dsimp only at hSw
                go_simp
                all_goals with_reducible rfl
              simp only [Act.put, List.setIfInBounds_toArray, List.set_cons_zero, List.set_cons_succ]
              refine wpAnyH_take (i := 2) (oi := ⟨_, _, _, _, _, _⟩) (v := ?_) rfl (by kernel_rfl) (by kernel_rfl) (by kernel_rfl) (fun _ _ _ h => h) (Or.inl ⟨by rfl, ?_⟩) hHeld ?_
              rotate_left
              · intro w' hSw
                try dsimp only at hSw
                go_simp
                all_goals with_reducible rfl
              simp only [Act.put, List.setIfInBounds_toArray, List.set_cons_zero, List.set_cons_succ]
              refine wpAnyH_take (i := 3) (oi := ⟨_, _, _, _, _, _⟩) (v := ?_) rfl (by kernel_rfl) (by kernel_rfl) (by kernel_rfl) (fun _ _ _ h => h) (Or.inl ⟨by rfl, ?_⟩) hHeld ?_
              rotate_left
              · intro w' hSw
                try dsimp only at hSw
                go_simp
                all_goals with_reducible rfl
              simp only [Act.put, List.setIfInBounds_toArray, List.set_cons_zero, List.set_cons_succ]
              refine wpAnyH_take (i := 4) (oi := ⟨_, _, _, _, _, _⟩) (v := ?_) rfl (by kernel_rfl) (by kernel_rfl) (by kernel_rfl) (fun _ _ _ h => h) (Or.inl ⟨by rfl, ?_⟩) hHeld ?_
              rotate_left
              · intro w' hSw
                try dsimp only at hSw
                go_simp
                all_goals with_reducible rfl
              simp only [Act.put, List.setIfInBounds_toArray, List.set_cons_zero, List.set_cons_succ]
              refine wpAnyH_take (i := 5) (oi := ⟨_, _, _, _, _, _⟩) (v := ?_) rfl (by kernel_rfl) (by kernel_rfl) (by kernel_rfl) (fun _ _ _ h => h) (Or.inl ⟨by rfl, ?_⟩) hHeld ?_
              rotate_left
              · intro w' hSw
                try dsimp only at hSw
                go_simp
                all_goals with_reducible rfl
              simp only [Act.put, List.setIfInBounds_toArray, List.set_cons_zero, List.set_cons_succ]
              refine wpAnyH_take (i := 6) (oi := ⟨_, _, _, _, _, _⟩) (v := ?_) rfl (by kernel_rfl) (by kernel_rfl) (by kernel_rfl) (fun _ _ _ h => h) (Or.inl ⟨by rfl, ?_⟩) hHeld ?_
              rotate_left
              · intro w' hSw
                try dsimp only at hSw
                go_simp
                all_goals with_reducible rfl
              simp only [Act.put, List.setIfInBounds_toArray, List.set_cons_zero, List.set_cons_succ]
              refine wpAnyH_take (i := 7) (oi := ⟨_, _, _, _, _, _⟩) (v := ?_) rfl (by kernel_rfl) (by kernel_rfl) (by kernel_rfl) (fun _ _ _ h => h) (Or.inl ⟨by rfl, ?_⟩) hHeld ?_
              rotate_left
              · intro w' hSw
                try dsimp only at hSw
                go_simp
                all_goals with_reducible rfl
              simp only [Act.put, List.setIfInBounds_toArray, List.set_cons_zero, List.set_cons_succ]
              refine wpAnyH_take (i := 8) (oi := ⟨_, _, _, _, _, _⟩) (v := ?_) rfl (by kernel_rfl) (by kernel_rfl) (by kernel_rfl) (fun _ _ _ h => h) (Or.inl ⟨by rfl, ?_⟩) hHeld ?_
              rotate_left
              · intro w' hSw
                try dsimp only at hSw
                go_simp
                all_goals with_reducible rfl
              simp only [Act.put, List.setIfInBounds_toArray, List.set_cons_zero, List.set_cons_succ]
              refine wpAnyH_take (i := 9) (oi := ⟨_, _, _, _, _, _⟩) (v := ?_) rfl (by kernel_rfl) (by kernel_rfl) (by kernel_rfl) (fun _ _ _ h => h) (Or.inl ⟨by rfl, ?_⟩) hHeld ?_
              rotate_left
              · intro w' hSw
                try dsimp only at hSw
                go_simp
                all_goals with_reducible rfl
              simp only [Act.put, List.setIfInBounds_toArray, List.set_cons_zero, List.set_cons_succ]
              refine wpAnyH_take (i := 10) (oi := ⟨_, _, _, _, _, _⟩) (v := ?_) rfl (by kernel_rfl) (by kernel_rfl) (by kernel_rfl) (fun _ _ _ h => h) (Or.inl ⟨by rfl, ?_⟩) hHeld ?_
              rotate_left
              · intro w' hSw
                try dsimp only at hSw
                go_simp
                all_goals with_reducible rfl
              simp only [Act.put, List.setIfInBounds_toArray, List.set_cons_zero, List.set_cons_succ]
              refine wpAnyH_take (i := 11) (oi := ⟨_, _, _, _, _, _⟩) (v := ?_) rfl (by kernel_rfl) (by kernel_rfl) (by kernel_rfl) (fun _ _ _ h => h) (Or.inl ⟨by rfl, ?_⟩) hHeld ?_
              rotate_left
              · intro w' hSw
                try dsimp only at hSw
                go_simp
                all_goals with_reducible rfl
              simp only [Act.put, List.setIfInBounds_toArray, List.set_cons_zero, List.set_cons_succ]
              refine wpAnyH_ready (rs := [12]) (by kernel_rfl) (by simp) ?_
              refine AllReadyH.cons (o := ⟨_, _, _, _, _, _⟩) rfl (fun K hK => ?_) AllReadyH.nil
              go_simp
              refine (same_any (s, ln, col) _).mono ?_
              rintro e w7 ⟨rfl, b7⟩
              have B7 : Hid (Below w6.heap.size w6 w7) := Hid.of ((Below.refl _ w6).drew.trans b7)
              have T7 := Hid.of (T6.out.next B7.out)
              have K7 := Hid.of (K6.out.kept B7.out)
              clear b7 c0 c1 c2 d0 d1 d2 hHeld
              obtain ⟨c0, c1, c2⟩ := K7.out.at
              have d0 : w7.cell? ⟨b1, o1, none⟩ = some (.string s) := by rw [B7.out.cell HL1.out]; exact D0.out
              have d1 : w7.cell? ⟨b1, o1 + 1, none⟩ = some (.int .i64 ln) := by rw [B7.out.cell HL1.out]; exact D1.out
              have d2 : w7.cell? ⟨b1, o1 + 2, none⟩ = some (.int .i64 col) := by rw [B7.out.cell HL1.out]; exact D2.out
              refine hK.out _ _ ⟨c0, c1, c2, d0, d1, d2⟩ (fun hHeld => ?_)
              clear hK K
              try simp only [Act.put, List.setIfInBounds_toArray, List.set_cons_zero, List.set_cons_succ]
              refine wpAnyH_take (i := 13) (oi := ⟨_, _, _, _, _, _⟩) (v := ?_) rfl (by kernel_rfl) (by kernel_rfl) (by kernel_rfl) (fun _ _ _ h => h) (Or.inl ⟨by rfl, ?_⟩) hHeld ?_
              rotate_left
              · intro w' hSw
                try dsimp only at hSw
                go_simp
                all_goals with_reducible rfl
              simp only [Act.put, List.setIfInBounds_toArray, List.set_cons_zero, List.set_cons_succ]
              refine wpAnyH_take (i := 14) (oi := ⟨_, _, _, _, _, _⟩) (v := ?_) rfl (by kernel_rfl) (by kernel_rfl) (by kernel_rfl) (fun _ _ _ h => h) (Or.inl ⟨by rfl, ?_⟩) hHeld ?_
              rotate_left
              · intro w' hSw
                try dsimp only at hSw
                go_simp
                all_goals with_reducible rfl
              simp only [Act.put, List.setIfInBounds_toArray, List.set_cons_zero, List.set_cons_succ]
              refine wpAnyH_take (i := 15) (oi := ⟨_, _, _, _, _, _⟩) (v := ?_) rfl (by kernel_rfl) (by kernel_rfl) (by kernel_rfl) (fun _ _ _ h => h) (Or.inl ⟨by rfl, ?_⟩) hHeld ?_
              rotate_left
              · intro w' hSw
                try dsimp only at hSw
                go_simp
                all_goals with_reducible rfl
              simp only [Act.put, List.setIfInBounds_toArray, List.set_cons_zero, List.set_cons_succ]
              refine wpAnyH_take (i := 16) (oi := ⟨_, _, _, _, _, _⟩) (v := ?_) rfl (by kernel_rfl) (by kernel_rfl) (by kernel_rfl) (fun _ _ _ h => h) (Or.inl ⟨by rfl, ?_⟩) hHeld ?_
              rotate_left
              · intro w' hSw
                try dsimp only at hSw
                go_simp
                all_goals with_reducible rfl
              simp only [Act.put, List.setIfInBounds_toArray, List.set_cons_zero, List.set_cons_succ]
              refine wpAnyH_take (i := 17) (oi := ⟨_, _, _, _, _, _⟩) (v := ?_) rfl (by kernel_rfl) (by kernel_rfl) (by kernel_rfl) (fun _ _ _ h => h) (Or.inl ⟨by rfl, ?_⟩) hHeld ?_
              rotate_left
              · intro w' hSw
                try dsimp only at hSw
                go_simp
                all_goals with_reducible rfl
              simp only [Act.put, List.setIfInBounds_toArray, List.set_cons_zero, List.set_cons_succ]
              refine wpAnyH_take (i := 18) (oi := ⟨_, _, _, _, _, _⟩) (v := ?_) rfl (by kernel_rfl) (by kernel_rfl) (by kernel_rfl) (fun _ _ _ h => h) (Or.inl ⟨by rfl, ?_⟩) hHeld ?_
              rotate_left
              · intro w' hSw
                try dsimp only at hSw
                go_simp
                all_goals with_reducible rfl
              simp only [Act.put, List.setIfInBounds_toArray, List.set_cons_zero, List.set_cons_succ]
              refine wpAnyH_take (i := 19) (oi := ⟨_, _, _, _, _, _⟩) (v := ?_) rfl (by kernel_rfl) (by kernel_rfl) (by kernel_rfl) (fun _ _ _ h => h) (Or.inl ⟨by rfl, ?_⟩) hHeld ?_
              rotate_left
              · intro w' hSw
                try dsimp only at hSw
                go_simp
                all_goals with_reducible rfl
              simp only [Act.put, List.setIfInBounds_toArray, List.set_cons_zero, List.set_cons_succ]
              refine wpAnyH_take (i := 20) (oi := ⟨_, _, _, _, _, _⟩) (v := undef) rfl (by kernel_rfl) (by kernel_rfl) (by kernel_rfl) (fun _ _ _ h => h) (Or.inr ⟨by rfl, rfl⟩) hHeld ?_
              simp only [Act.put, List.setIfInBounds_toArray, List.set_cons_zero, List.set_cons_succ]
              refine wpAnyH_take (i := 21) (oi := ⟨_, _, _, _, _, _⟩) (v := undef) rfl (by kernel_rfl) (by kernel_rfl) (by kernel_rfl) (fun _ _ _ h => h) (Or.inr ⟨by rfl, rfl⟩) hHeld ?_
              simp only [Act.put, List.setIfInBounds_toArray, List.set_cons_zero, List.set_cons_succ]
              refine wpAnyH_take (i := 22) (oi := ⟨_, _, _, _, _, _⟩) (v := undef) rfl (by kernel_rfl) (by kernel_rfl) (by kernel_rfl) (fun _ _ _ h => h) (Or.inr ⟨by rfl, rfl⟩) hHeld ?_
              simp only [Act.put, List.setIfInBounds_toArray, List.set_cons_zero, List.set_cons_succ]
              refine wpAnyH_take (i := 23) (oi := ⟨_, _, _, _, _, _⟩) (v := ?_) rfl (by kernel_rfl) (by kernel_rfl) (by kernel_rfl) (fun _ _ _ h => h) (Or.inl ⟨by rfl, ?_⟩) hHeld ?_
              rotate_left
              · intro w' hSw
                try dsimp only at hSw
                go_simp
                all_goals with_reducible rfl
              simp only [Act.put, List.setIfInBounds_toArray, List.set_cons_zero, List.set_cons_succ]
              refine wpAnyH_take (i := 24) (oi := ⟨_, _, _, _, _, _⟩) (v := ?_) rfl (by kernel_rfl) (by kernel_rfl) (by kernel_rfl) (fun _ _ _ h => h) (Or.inl ⟨by rfl, ?_⟩) hHeld ?_
              rotate_left
              · intro w' hSw
                try dsimp only at hSw
                go_simp
                all_goals with_reducible rfl
              simp only [Act.put, List.setIfInBounds_toArray, List.set_cons_zero, List.set_cons_succ]
              refine wpAnyH_done (by kernel_rfl) ?_ _
              refine NoPanic.normal ?_
              have n3 : (1 : Int) ≤ (N : Int) := by omega
              have CU := T7.out.sliced (k := 1) rfl HN.out RC.out (by omega)
              by_cases hr1 : rc = 1
              · rw [if_pos hr1, show rc - 1 = 0 by omega] at CU
                have CU2 := Hid.of CU
                clear CU
                go_wp2
                go_roundw
                case rel => exact ⟨i + 1, r', G5, V, W, ls, by omega, by go_num, CU2, Hid.of (Nat.le_succ_of_le LS.out), LN, Hid.of (by have := R4.out; have := HN.out; simp only [List.length_cons] at this; omega)⟩
                case measure => simp [RowKit.intOf]; omega
              · rw [if_neg hr1] at CU
                have CU2 := Hid.of CU
                clear CU
                go_wp2
                go_roundw
                case rel => exact ⟨i + 1, r', G5, V, W, ls, by omega, by go_num, CU2, Hid.of (Nat.le_succ_of_le LS.out), LN, Hid.of (by have := R4.out; have := HN.out; simp only [List.length_cons] at this; omega)⟩
                case measure => simp [RowKit.intOf]; omega
        · have hil : i = hs.length := by omega
          subst hil
          clear hi
          go_wp2_with fail
          refine (wordAlive_any S _).mono ?_
          rintro e w4 ⟨rfl, b4⟩
          have C4 := Hid.of (C.out.next b4)
          clear b4
          go_wp2_with fail
          refine (C4.out.wd.len R4.out).mono ?_
          rintro e w5 ⟨rfl, -, b5⟩
          have C5 := Hid.of (C4.out.next b5)
          clear b5
          go_wp2_with fail
          refine (Apart_W bp (bp + 1) V W ls [] 41 w5 w5 (by have := LS.out; have := H200.out; omega) LN.out C5.out.bk).mono ?_
          rintro e w6 ⟨rfl, b6⟩
          go_wp2
          go_ret
          exact ⟨rfl, B1.out.trans ((C5.out.wd.fr.trans (b6.mono C5.out.hB)).mono B1.out.size)⟩
    · have HE := Hid.of he
      have n0 : (er == 0) = false := by simpa using hne
      have n1 : ¬ er = 0 := hne
      clear he hne
      go_enter Try.func3, Try.ntmps3
      go_wp2_with fail
      refine (refCut_any t _ HT.out).mono ?_
      rintro e w1 ⟨mv, rfl, o1, b1⟩
      rw [HE.out] at o1 ⊢
      have B1 := Hid.of b1
      clear o1 b1
      go_wp2_with fail
      refine (cut_none S t er n _ HT.out HE.out).mono ?_
      rintro e w2 ⟨rfl, b2⟩
      have B2 := Hid.of (B1.out.trans (b2.mono B1.out.size))
      clear b2
      go_wp2_with fail
      refine (wordAlive_any S _).mono ?_
      rintro e w3 ⟨rfl, b3⟩
      go_wp2
      go_ret
      exact ⟨rfl, B2.out.trans (b3.mono B2.out.size)⟩

end Go.Proofs.Ytcjfejhfafiaiaa
