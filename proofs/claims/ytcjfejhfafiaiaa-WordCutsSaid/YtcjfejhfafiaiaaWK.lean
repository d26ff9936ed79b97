/-
  What statement WordIs answers: true, for every input.
-/
import Derived.Test.YtcjfejhfafiaiaaWC
import Derived.Test.YtcjfejhfafiaiaaWA
namespace Go.Proofs.Ytcjfejhfafiaiaa
open Go.RowKit Go.Lib

/-- What chapter 7 says of nil and of zero Words. -/
structure WordNone (S : WordSpec) where
  cells : Array Value
  built : Try.prog.built 56 [] = some cells
  zero : ∀ w : World, ∃ F, S.Rep (w.alloc (.cells cells 56)) w.heap.size [] F ∧ ∀ k, F k → w.heap.size ≤ k
  next : ∀ w : World, Calls Try.prog 15 #[.pointer none] w fun e w' => e = .returned (.tuple #[wdVal (⟨#[]⟩, 0, 0), .bool false]) ∧ Below w.heap.size w w'
  line : ∀ w : World, Calls Try.prog 13 #[.pointer none] w fun e w' => (∃ a c, e = .returned (.slice a 0 c)) ∧ Below w.heap.size w w'
  len : ∀ w : World, Calls Try.prog 10 #[.pointer none] w fun e w' => e = .returned (.int .i64 0) ∧ Below w.heap.size w w'

section
variable {P : Program}

/-- A struct put together, its cells said. -/
theorem wpList_builtW {ops : Array Oper} {rest : List Oper} {o : Oper} {a : Act} {w : World} {Q : Exit → Act → World → Prop} (hg : o.guard = none) (t : TypeId) (ps : List (Nat × Operand)) (ho : o.op = .build t ps.toArray)
    (cs : Array Value) (hc : P.built t (ps.map fun x => (x.1, a.eval x.2)) = some cs)
    (h : wpList P ops Q rest (a.put o.dst (.agg cs)) w) : wpList P ops Q (o :: rest) a w := by
  have e : P.built t (ps.toArray.map fun (i, x) => (i, a.eval x)).toList = some cs := by
    rw [← hc]
    congr 1
    simp
  exact wpList_build hg t ps.toArray ho (by rw [e]; rfl) (by rw [e]; exact h)

/-- A variable on the heap, its cells said. -/
theorem wpList_boxedW {ops : Array Oper} {rest : List Oper} {o : Oper} {a : Act} {w : World} {Q : Exit → Act → World → Prop} (hg : o.guard = none) (t : TypeId) (x : Operand) (ho : o.op = .box t x)
    (cs : Array Value) (hx : (a.eval x).cells = cs)
    (h : wpList P ops Q rest (a.put o.dst (.pointer (some ⟨w.heap.size, 0, none⟩))) (w.alloc (.cells cs t))) : wpList P ops Q (o :: rest) a w :=
  wpList_plain hg fun K hK => by
    unfold Oper.wp execOp
    simp only [ho, Instr.box, newVar, newRow, run_newObj_alloc, Sem.run_bind, Sem.run_pure, Result.andThen_ok, hx]
    exact hK _ _ h
end

set_option maxRecDepth 20000 in
set_option maxHeartbeats 6400000 in
theorem wordIs_main (S : WordSpec) (Z : WordNone S) (s : ByteArray) (w : World) (hs : s.size ≤ maxLen) :
    Calls Try.prog 4 #[.string s] w fun e w' => e = .returned (.bool true) ∧ Below w.heap.size w w' := by
  have HS := Hid.of hs
  by_cases hbig : 4100 < s.size
  · have h1 : (4100 : Int) < (s.size : Int) := by omega
    clear hs hbig
    go_enter Try.func4, Try.ntmps4
    go_wp2_with fail
    refine (wordAlive_any S _).mono ?_
    rintro e w1 ⟨rfl, b1⟩
    go_wp2
    go_ret
    exact ⟨rfl, b1⟩
  · have h1 : ¬ (4100 : Int) < (s.size : Int) := by omega
    clear hs hbig
    go_enter Try.func4, Try.ntmps4
    go_wp2_with fail
    refine (refCut_any s _ HS.out).mono ?_
    rintro e w1 ⟨v, rfl, o1, b1⟩
    have B1 := Hid.of b1
    clear b1
    rcases wCut_kinds s.data.toList with ⟨l, hl⟩ | ⟨er, n, he, hne⟩
    · rw [hl] at o1 ⊢
      simp only [Option.getD_some] at o1
      have HL := Hid.of hl
      clear hl
      by_cases h1l : l.length = 1
      · obtain ⟨x, rfl⟩ : ∃ x, l = [x] := by
          cases l with
          | nil => cases h1l
          | cons x r =>
            cases r with
            | nil => exact ⟨x, rfl⟩
            | cons y r => simp at h1l
        obtain ⟨s0, ln, col⟩ := x
        obtain ⟨bb, hbb⟩ : ∃ bb, (s0.toList == s.toList) = bb := ⟨_, rfl⟩
        have WI : Hid (wIs s = bb) := Hid.of (by unfold wIs; rw [HL.out]; exact hbb)
        obtain ⟨g, cap, rfl, gl, gc⟩ : ∃ g cap, v = .slice (some ⟨g, 0, none⟩) 1 cap ∧ g < w1.heap.size ∧ w1.cell? ⟨g, 0, none⟩ = some (.string s0) := by
          rcases o1.2 with ⟨_, h⟩ | ⟨g, cap, cur, hv, hB, hrow, _⟩
          · cases h
          · refine ⟨g, cap, hv, (Array.getElem?_eq_some_iff.1 hrow).1, ?_⟩
            rw [hv] at o1
            rw [o1.cellAt 0 (by simp)]
            rfl
        have GL := Hid.of gl
        have GC := Hid.of gc
        clear h1l o1 gl gc
        cases bb with
        | true =>
          go_wp2_with (first
            | (refine wpList_builtW rfl 56 [] rfl Z.cells Z.built ?_)
            | (refine wpList_boxedW rfl 56 _ rfl Z.cells rfl ?_
               obtain ⟨F, r0, f0⟩ := Z.zero w1
               obtain ⟨w2, hw2⟩ : ∃ w2, w1.alloc (.cells Z.cells 56) = w2 := ⟨_, rfl⟩
               obtain ⟨q, hq⟩ : ∃ q, w1.heap.size = q := ⟨_, rfl⟩
               have H2 : Hid (WHere S w1.heap.size w1 w2 q [] F) := Hid.of (by rw [← hw2, ← hq]; exact ⟨r0, f0, by simp, (Below.refl _ _).alloc (Nat.le_refl _) _⟩)
               rw [hw2, show (Value.pointer (some ⟨w1.heap.size, 0, none⟩)) = wptr q by rw [hq]]
               clear hw2 hq r0 f0))
          refine (Z.next _).mono ?_
          rintro e w3 ⟨rfl, b3⟩
          have H3 := Hid.of (H2.out.next b3)
          clear b3
          obtain ⟨w4, hw4⟩ : ∃ w4, w3.alloc (.cells #[.string ⟨#[]⟩, .int .i64 0, .int .i64 0] 44) = w4 := ⟨_, rfl⟩
          have H4 : Hid (WHere S w1.heap.size w1 w4 q [] F) := Hid.of (by rw [← hw4]; exact H3.out.next ((Below.refl _ _).alloc (Nat.le_refl _) _))
          have HW4 := Hid.of hw4
          clear hw4
          go_wp2_with fail
          rw [HW4.out]
          refine (H4.out.peek (by decide) rfl).mono ?_
          rintro e w5 ⟨rfl, h5, -⟩
          have H5 := Hid.of h5
          clear h5
          obtain ⟨w6, hw6⟩ : ∃ w6, w5.alloc (.cells #[.string ⟨#[]⟩, .int .i64 0, .int .i64 0] 44) = w6 := ⟨_, rfl⟩
          have H6 : Hid (WHere S w1.heap.size w1 w6 q [] F) := Hid.of (by rw [← hw6]; exact H5.out.next ((Below.refl _ _).alloc (Nat.le_refl _) _))
          have HW6 := Hid.of hw6
          clear hw6
          go_wp2_with fail
          rw [HW6.out]
          refine (wordAlive_any S _).mono ?_
          rintro e w7 ⟨rfl, b7⟩
          have H7 := Hid.of (H6.out.next b7)
          clear b7
          go_wp2_with fail
          refine (S.is s _ HS.out).mono ?_
          rintro e w8 ⟨rfl, b8⟩
          rw [WI.out]
          have H8 := Hid.of (H7.out.next b8)
          clear b8
          have cs : w8.cell? ⟨g, 0, none⟩ = some (.string s0) := by rw [H8.out.fr.cell GL.out]; exact GC.out
          go_wp2_with fail
          refine (Z.line _).mono ?_
          rintro e w9 ⟨⟨la, lc, rfl⟩, b9⟩
          have H9 := Hid.of (H8.out.next b9)
          clear b9
          go_wp2_with fail
          refine (Z.len _).mono ?_
          rintro e wa ⟨rfl, ba⟩
          have Ha := Hid.of (H9.out.next ba)
          clear ba
          go_wp2_with fail
          refine (Ha.out.len (by decide)).mono ?_
          rintro e wb ⟨rfl, hb, -⟩
          have Hb := Hid.of hb
          clear hb
          go_wp2_with fail
          refine (Hb.out.line (n := 0) (by decide) rfl rfl).mono ?_
          rintro e wc ⟨u, rfl, oc, Fc, hc, -, -⟩
          obtain ⟨ua, uc, rfl⟩ : ∃ a c, u = .slice a 0 c := by
            rcases oc.2 with ⟨h, _⟩ | ⟨g, cap, cur, h, _⟩
            · exact ⟨_, _, h⟩
            · exact ⟨_, _, h⟩
          have Hc := Hid.of hc
          clear hc oc
          go_wp2
          go_ret
          exact ⟨rfl, B1.out.trans (Hc.out.fr.mono B1.out.size)⟩
        | false =>
          go_wp2_with (first
            | (refine wpList_builtW rfl 56 [] rfl Z.cells Z.built ?_)
            | (refine wpList_boxedW rfl 56 _ rfl Z.cells rfl ?_
               obtain ⟨F, r0, f0⟩ := Z.zero w1
               obtain ⟨w2, hw2⟩ : ∃ w2, w1.alloc (.cells Z.cells 56) = w2 := ⟨_, rfl⟩
               obtain ⟨q, hq⟩ : ∃ q, w1.heap.size = q := ⟨_, rfl⟩
               have H2 : Hid (WHere S w1.heap.size w1 w2 q [] F) := Hid.of (by rw [← hw2, ← hq]; exact ⟨r0, f0, by simp, (Below.refl _ _).alloc (Nat.le_refl _) _⟩)
               rw [hw2, show (Value.pointer (some ⟨w1.heap.size, 0, none⟩)) = wptr q by rw [hq]]
               clear hw2 hq r0 f0))
          refine (Z.next _).mono ?_
          rintro e w3 ⟨rfl, b3⟩
          have H3 := Hid.of (H2.out.next b3)
          clear b3
          obtain ⟨w4, hw4⟩ : ∃ w4, w3.alloc (.cells #[.string ⟨#[]⟩, .int .i64 0, .int .i64 0] 44) = w4 := ⟨_, rfl⟩
          have H4 : Hid (WHere S w1.heap.size w1 w4 q [] F) := Hid.of (by rw [← hw4]; exact H3.out.next ((Below.refl _ _).alloc (Nat.le_refl _) _))
          have HW4 := Hid.of hw4
          clear hw4
          go_wp2_with fail
          rw [HW4.out]
          refine (H4.out.peek (by decide) rfl).mono ?_
          rintro e w5 ⟨rfl, h5, -⟩
          have H5 := Hid.of h5
          clear h5
          obtain ⟨w6, hw6⟩ : ∃ w6, w5.alloc (.cells #[.string ⟨#[]⟩, .int .i64 0, .int .i64 0] 44) = w6 := ⟨_, rfl⟩
          have H6 : Hid (WHere S w1.heap.size w1 w6 q [] F) := Hid.of (by rw [← hw6]; exact H5.out.next ((Below.refl _ _).alloc (Nat.le_refl _) _))
          have HW6 := Hid.of hw6
          clear hw6
          go_wp2_with fail
          rw [HW6.out]
          refine (wordAlive_any S _).mono ?_
          rintro e w7 ⟨rfl, b7⟩
          have H7 := Hid.of (H6.out.next b7)
          clear b7
          go_wp2_with fail
          refine (S.is s _ HS.out).mono ?_
          rintro e w8 ⟨rfl, b8⟩
          rw [WI.out]
          have H8 := Hid.of (H7.out.next b8)
          clear b8
          have cs : w8.cell? ⟨g, 0, none⟩ = some (.string s0) := by rw [H8.out.fr.cell GL.out]; exact GC.out
          go_wp2_with fail
          refine (Z.line _).mono ?_
          rintro e w9 ⟨⟨la, lc, rfl⟩, b9⟩
          have H9 := Hid.of (H8.out.next b9)
          clear b9
          go_wp2_with fail
          refine (Z.len _).mono ?_
          rintro e wa ⟨rfl, ba⟩
          have Ha := Hid.of (H9.out.next ba)
          clear ba
          go_wp2_with fail
          refine (Ha.out.len (by decide)).mono ?_
          rintro e wb ⟨rfl, hb, -⟩
          have Hb := Hid.of hb
          clear hb
          go_wp2_with fail
          refine (Hb.out.line (n := 0) (by decide) rfl rfl).mono ?_
          rintro e wc ⟨u, rfl, oc, Fc, hc, -, -⟩
          obtain ⟨ua, uc, rfl⟩ : ∃ a c, u = .slice a 0 c := by
            rcases oc.2 with ⟨h, _⟩ | ⟨g, cap, cur, h, _⟩
            · exact ⟨_, _, h⟩
            · exact ⟨_, _, h⟩
          have Hc := Hid.of hc
          clear hc oc
          go_wp2
          go_ret
          exact ⟨rfl, B1.out.trans (Hc.out.fr.mono B1.out.size)⟩
      · have WI : Hid (wIs s = false) := Hid.of (by
          unfold wIs
          rw [HL.out]
          match l, h1l with
          | [], _ => rfl
          | [_], h => exact absurd rfl h
          | _ :: _ :: _, _ => rfl)
        have n1 : ¬ (l.length : Int) = 1 := by omega
        obtain ⟨va, vc, rfl⟩ : ∃ a c, v = .slice a l.length c := by
          rcases o1.2 with ⟨h, h'⟩ | ⟨g, cap, cur, h, _⟩
          · rw [h, h']; exact ⟨_, _, rfl⟩
          · exact ⟨_, _, h⟩
        obtain ⟨k, hk⟩ : ∃ k, l.length = k := ⟨_, rfl⟩
        rw [hk] at n1 ⊢
        clear h1l o1 hk
        go_wp2_with (first
          | (refine wpList_builtW rfl 56 [] rfl Z.cells Z.built ?_)
          | (refine wpList_boxedW rfl 56 _ rfl Z.cells rfl ?_
             obtain ⟨F, r0, f0⟩ := Z.zero w1
             obtain ⟨w2, hw2⟩ : ∃ w2, w1.alloc (.cells Z.cells 56) = w2 := ⟨_, rfl⟩
             obtain ⟨q, hq⟩ : ∃ q, w1.heap.size = q := ⟨_, rfl⟩
             have H2 : Hid (WHere S w1.heap.size w1 w2 q [] F) := Hid.of (by rw [← hw2, ← hq]; exact ⟨r0, f0, by simp, (Below.refl _ _).alloc (Nat.le_refl _) _⟩)
             rw [hw2, show (Value.pointer (some ⟨w1.heap.size, 0, none⟩)) = wptr q by rw [hq]]
             clear hw2 hq r0 f0))
        refine (Z.next _).mono ?_
        rintro e w3 ⟨rfl, b3⟩
        have H3 := Hid.of (H2.out.next b3)
        clear b3
        obtain ⟨w4, hw4⟩ : ∃ w4, w3.alloc (.cells #[.string ⟨#[]⟩, .int .i64 0, .int .i64 0] 44) = w4 := ⟨_, rfl⟩
        have H4 : Hid (WHere S w1.heap.size w1 w4 q [] F) := Hid.of (by rw [← hw4]; exact H3.out.next ((Below.refl _ _).alloc (Nat.le_refl _) _))
        have HW4 := Hid.of hw4
        clear hw4
        go_wp2_with fail
        rw [HW4.out]
        refine (H4.out.peek (by decide) rfl).mono ?_
        rintro e w5 ⟨rfl, h5, -⟩
        have H5 := Hid.of h5
        clear h5
        obtain ⟨w6, hw6⟩ : ∃ w6, w5.alloc (.cells #[.string ⟨#[]⟩, .int .i64 0, .int .i64 0] 44) = w6 := ⟨_, rfl⟩
        have H6 : Hid (WHere S w1.heap.size w1 w6 q [] F) := Hid.of (by rw [← hw6]; exact H5.out.next ((Below.refl _ _).alloc (Nat.le_refl _) _))
        have HW6 := Hid.of hw6
        clear hw6
        go_wp2_with fail
        rw [HW6.out]
        refine (wordAlive_any S _).mono ?_
        rintro e w7 ⟨rfl, b7⟩
        have H7 := Hid.of (H6.out.next b7)
        clear b7
        go_wp2_with fail
        refine (S.is s _ HS.out).mono ?_
        rintro e w8 ⟨rfl, b8⟩
        rw [WI.out]
        have H8 := Hid.of (H7.out.next b8)
        clear b8
        go_wp2_with fail
        refine (Z.line _).mono ?_
        rintro e w9 ⟨⟨la, lc, rfl⟩, b9⟩
        have H9 := Hid.of (H8.out.next b9)
        clear b9
        go_wp2_with fail
        refine (Z.len _).mono ?_
        rintro e wa ⟨rfl, ba⟩
        have Ha := Hid.of (H9.out.next ba)
        clear ba
        go_wp2_with fail
        refine (Ha.out.len (by decide)).mono ?_
        rintro e wb ⟨rfl, hb, -⟩
        have Hb := Hid.of hb
        clear hb
        go_wp2_with fail
        refine (Hb.out.line (n := 0) (by decide) rfl rfl).mono ?_
        rintro e wc ⟨u, rfl, oc, Fc, hc, -, -⟩
        obtain ⟨ua, uc, rfl⟩ : ∃ a c, u = .slice a 0 c := by
          rcases oc.2 with ⟨h, _⟩ | ⟨g, cap, cur, h, _⟩
          · exact ⟨_, _, h⟩
          · exact ⟨_, _, h⟩
        have Hc := Hid.of hc
        clear hc oc
        go_wp2
        go_ret
        exact ⟨rfl, B1.out.trans (Hc.out.fr.mono B1.out.size)⟩
    · rw [he] at o1 ⊢
      have WI : Hid (wIs s = false) := Hid.of (by unfold wIs; rw [he])
      have n0 : (er == 0) = false := by simpa using hne
      obtain ⟨va, vc, rfl⟩ : ∃ a c, v = .slice a 0 c := by
        rcases o1.2 with ⟨h, _⟩ | ⟨g, cap, cur, h, _⟩
        · exact ⟨_, _, h⟩
        · exact ⟨_, _, h⟩
      clear o1 he
      go_wp2_with (first
        | (refine wpList_builtW rfl 56 [] rfl Z.cells Z.built ?_)
        | (refine wpList_boxedW rfl 56 _ rfl Z.cells rfl ?_
           obtain ⟨F, r0, f0⟩ := Z.zero w1
           obtain ⟨w2, hw2⟩ : ∃ w2, w1.alloc (.cells Z.cells 56) = w2 := ⟨_, rfl⟩
           obtain ⟨q, hq⟩ : ∃ q, w1.heap.size = q := ⟨_, rfl⟩
           have H2 : Hid (WHere S w1.heap.size w1 w2 q [] F) := Hid.of (by rw [← hw2, ← hq]; exact ⟨r0, f0, by simp, (Below.refl _ _).alloc (Nat.le_refl _) _⟩)
           rw [hw2, show (Value.pointer (some ⟨w1.heap.size, 0, none⟩)) = wptr q by rw [hq]]
           clear hw2 hq r0 f0))
      refine (Z.next _).mono ?_
      rintro e w3 ⟨rfl, b3⟩
      have H3 := Hid.of (H2.out.next b3)
      clear b3
      obtain ⟨w4, hw4⟩ : ∃ w4, w3.alloc (.cells #[.string ⟨#[]⟩, .int .i64 0, .int .i64 0] 44) = w4 := ⟨_, rfl⟩
      have H4 : Hid (WHere S w1.heap.size w1 w4 q [] F) := Hid.of (by rw [← hw4]; exact H3.out.next ((Below.refl _ _).alloc (Nat.le_refl _) _))
      have HW4 := Hid.of hw4
      clear hw4
      go_wp2_with fail
      rw [HW4.out]
      refine (H4.out.peek (by decide) rfl).mono ?_
      rintro e w5 ⟨rfl, h5, -⟩
      have H5 := Hid.of h5
      clear h5
      obtain ⟨w6, hw6⟩ : ∃ w6, w5.alloc (.cells #[.string ⟨#[]⟩, .int .i64 0, .int .i64 0] 44) = w6 := ⟨_, rfl⟩
      have H6 : Hid (WHere S w1.heap.size w1 w6 q [] F) := Hid.of (by rw [← hw6]; exact H5.out.next ((Below.refl _ _).alloc (Nat.le_refl _) _))
      have HW6 := Hid.of hw6
      clear hw6
      go_wp2_with fail
      rw [HW6.out]
      refine (wordAlive_any S _).mono ?_
      rintro e w7 ⟨rfl, b7⟩
      have H7 := Hid.of (H6.out.next b7)
      clear b7
      go_wp2_with fail
      refine (S.is s _ HS.out).mono ?_
      rintro e w8 ⟨rfl, b8⟩
      rw [WI.out]
      have H8 := Hid.of (H7.out.next b8)
      clear b8
      go_wp2_with fail
      refine (Z.line _).mono ?_
      rintro e w9 ⟨⟨la, lc, rfl⟩, b9⟩
      have H9 := Hid.of (H8.out.next b9)
      clear b9
      go_wp2_with fail
      refine (Z.len _).mono ?_
      rintro e wa ⟨rfl, ba⟩
      have Ha := Hid.of (H9.out.next ba)
      clear ba
      go_wp2_with fail
      refine (Ha.out.len (by decide)).mono ?_
      rintro e wb ⟨rfl, hb, -⟩
      have Hb := Hid.of hb
      clear hb
      go_wp2_with fail
      refine (Hb.out.line (n := 0) (by decide) rfl rfl).mono ?_
      rintro e wc ⟨u, rfl, oc, Fc, hc, -, -⟩
      obtain ⟨ua, uc, rfl⟩ : ∃ a c, u = .slice a 0 c := by
        rcases oc.2 with ⟨h, _⟩ | ⟨g, cap, cur, h, _⟩
        · exact ⟨_, _, h⟩
        · exact ⟨_, _, h⟩
      have Hc := Hid.of hc
      clear hc oc
      go_wp2
      go_ret
      exact ⟨rfl, B1.out.trans (Hc.out.fr.mono B1.out.size)⟩

end Go.Proofs.Ytcjfejhfafiaiaa
