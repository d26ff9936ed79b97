/-
  What alive answers: true.
-/
import Derived.Test.YtcjfejhfafiaiaaWP
namespace Go.Proofs.Ytcjfejhfafiaiaa
open Go.RowKit Go.Lib

/-- Words of one's own above B; below B all is as it was. -/
structure WHere (S : WordSpec) (B : Nat) (w0 w : World) (p : Nat) (l : List WdL) (F : Nat → Prop) : Prop where
  rep : S.Rep w p l F
  ge : ∀ k, F k → B ≤ k
  hB : B ≤ w.heap.size
  fr : Below B w0 w

variable {S : WordSpec} {B p : Nat} {w0 w w' : World} {l l' : List WdL} {F F' : Nat → Prop}

theorem WHere.next (h : WHere S B w0 w p l F) (b : Below w.heap.size w w') : WHere S B w0 w' p l F :=
  ⟨S.kept h.rep b.size (fun k hk => b.block k (S.lt h.rep k hk)), h.ge, Nat.le_trans h.hB b.size, h.fr.trans (b.mono h.hB)⟩

theorem WHere.step (h : WHere S B w0 w p l F) (r : S.Rep w' p l' F') (st : Step F F' w w') : WHere S B w0 w' p l' F' :=
  ⟨r, st.ge h.hB h.ge, Nat.le_trans h.hB st.size, st.below h.fr h.hB h.ge⟩

theorem WHere.grown {row : Option Nat} (h : WHere S B w0 w p l F) (g : w.grownBy w' row) (hr : ∀ k, row = some k → ¬ F k ∧ B ≤ k) : WHere S B w0 w' p l F :=
  ⟨S.kept h.rep g.size (fun k hk => g.block k (S.lt h.rep k hk) (fun e => (hr k e.symm).1 hk)), h.ge, Nat.le_trans h.hB g.size, h.fr.grown g h.hB (fun k hk => (hr k hk).2)⟩

/-- Cut of a text that may be. -/
theorem cut_good (S : WordSpec) (t : ByteArray) (l : List WdL) (w : World) (ht : t.size ≤ maxLen) (h : wCut t.data.toList = (some l, 0, 0)) :
    Calls Try.prog 9 #[.string t] w fun e w' => ∃ p F, e = .returned (.tuple #[wptr p, .int .i64 0, .int .i64 0]) ∧ WHere S w.heap.size w w' p l F := by
  refine (S.cut t w ht).mono ?_
  rintro e w' ⟨b, he⟩
  rw [h] at he
  obtain ⟨p, F, rfl, r, hf⟩ := he
  exact ⟨p, F, rfl, r, hf, b.size, b⟩

/-- Cut of one that may not be. -/
theorem cut_none (S : WordSpec) (t : ByteArray) (e n : Int) (w : World) (ht : t.size ≤ maxLen) (h : wCut t.data.toList = (none, e, n)) :
    Calls Try.prog 9 #[.string t] w fun x w' => x = .returned (.tuple #[.pointer none, .int .i64 e, .int .i64 n]) ∧ Below w.heap.size w w' := by
  refine (S.cut t w ht).mono ?_
  rintro x w' ⟨b, he⟩
  rw [h] at he
  exact ⟨he, b⟩

theorem WHere.len (H : WHere S B w0 w p l F) (hl : l.length ≤ 4000) : Calls Try.prog 10 #[wptr p] w fun e w' => e = .returned (.int .i64 l.length) ∧ WHere S B w0 w' p l F ∧ Below w.heap.size w w' :=
  (S.len H.rep hl).mono fun _ _ ⟨h, b⟩ => ⟨h, H.next b, b⟩

theorem WHere.peek (H : WHere S B w0 w p l F) (hl : l.length ≤ 4000) {x : WdL} {b : Bool} (hx : wHead l = (x, b)) : Calls Try.prog 11 #[wptr p] w fun e w' => e = .returned (.tuple #[wdVal x, .bool b]) ∧ WHere S B w0 w' p l F ∧ Below w.heap.size w w' := by
  refine (S.peek H.rep hl).mono ?_
  rintro e w' ⟨rfl, c⟩
  rw [hx]
  exact ⟨rfl, H.next c, c⟩

theorem WHere.next_ (H : WHere S B w0 w p l F) (hl : l.length ≤ 4000) {x : WdL} {b : Bool} (hx : wHead l = (x, b)) (ht : l.tail = l') : Calls Try.prog 15 #[wptr p] w fun e w' => e = .returned (.tuple #[wdVal x, .bool b]) ∧ ∃ F', WHere S B w0 w' p l' F' ∧ Step F F' w w' := by
  refine (S.next H.rep hl).mono ?_
  rintro e w' ⟨rfl, F', r, st, -⟩
  rw [hx]
  rw [ht] at r
  exact ⟨rfl, F', H.step r st, st⟩

theorem WHere.line (H : WHere S B w0 w p l F) (hl : l.length ≤ 4000) {n : Nat} (hn : wLine l = n) (ht : l.drop n = l') : Calls Try.prog 13 #[wptr p] w fun e w' => ∃ u, e = .returned u ∧ w'.ownsRow w.heap.size 44 3 u n (flat wdRow (l.take n)) ∧ ∃ F', WHere S B w0 w' p l' F' ∧ Step F F' w w' ∧ Off F' u := by
  refine (S.line H.rep hl).mono ?_
  rintro e w' ⟨u, rfl, o, F', r, st, off, -⟩
  rw [hn] at o r
  rw [ht] at r
  exact ⟨u, rfl, o, F', H.step r st, st, off⟩

/-- A variable that holds a word. -/
def WBlk (w : World) (b : Nat) (x : WdL) : Prop := w.heap[b]? = some (.cells #[.string x.1, .int .i64 x.2.1, .int .i64 x.2.2] 44 (0, 0))

theorem WBlk.made (w : World) (x : WdL) : WBlk (w.alloc (.cells #[.string x.1, .int .i64 x.2.1, .int .i64 x.2.2] 44)) w.heap.size x := Go.heap_alloc_new _ _

theorem WBlk.kept {b : Nat} {x : WdL} (h : WBlk w b x) (c : Below w.heap.size w w') : WBlk w' b x := by
  unfold WBlk at h ⊢
  rw [c.block b (Array.getElem?_eq_some_iff.1 h).1]
  exact h

theorem WBlk.step {b : Nat} {x : WdL} (h : WBlk w b x) (st : Step F F' w w') (hb : ¬ F b) : WBlk w' b x := by
  unfold WBlk at h ⊢
  rw [st.block b (Array.getElem?_eq_some_iff.1 h).1 hb]
  exact h

theorem WBlk.at {b : Nat} {x : WdL} (h : WBlk w b x) : w.cell? ⟨b, 0, none⟩ = some (.string x.1) ∧ w.cell? ⟨b, 1, none⟩ = some (.int .i64 x.2.1) ∧ w.cell? ⟨b, 2, none⟩ = some (.int .i64 x.2.2) := by
  refine ⟨?_, ?_, ?_⟩ <;> (rw [cell_of_row w b _ _ _ _ h]; rfl)

theorem alive_cut : wCut (⟨#[97, 32, 98, 32, 35, 32, 99, 10, 32, 100]⟩ : ByteArray).data.toList = (some [(⟨#[97]⟩, 1, 1), (⟨#[98]⟩, 1, 3), (⟨#[100]⟩, 2, 2)], 0, 0) := by rfl

set_option maxRecDepth 20000 in
set_option maxHeartbeats 1600000 in
theorem wordAlive_any (S : WordSpec) (w : World) : Calls Try.prog 7 #[] w fun e w' => e = .returned (.bool true) ∧ Below w.heap.size w w' := by
  have AC := Hid.of alive_cut
  go_enter Try.func7, Try.ntmps7
  go_wp2_with fail
  refine (cut_good S _ _ _ (by decide) AC.out).mono ?_
  rintro e w1 ⟨p, F1, rfl, h1⟩
  have H1 := Hid.of h1
  clear h1
  go_wp2_with fail
  refine (H1.out.len (by decide)).mono ?_
  rintro e w2 ⟨rfl, h2, -⟩
  have H2 := Hid.of h2
  clear h2 H1
  go_wp2_with fail
  refine (H2.out.next_ (by decide) rfl rfl).mono ?_
  rintro e w3 ⟨rfl, F3, h3, -⟩
  have H3 := Hid.of h3
  have L3 := Hid.of (S.lt h3.rep)
  clear h3 H2
  obtain ⟨w4, hw4⟩ : ∃ w4, w3.alloc (.cells #[.string ⟨#[97]⟩, .int .i64 1, .int .i64 1] 44) = w4 := ⟨_, rfl⟩
  have K4 : Hid (WBlk w4 w3.heap.size (⟨#[97]⟩, 1, 1)) := Hid.of (by rw [← hw4]; exact WBlk.made w3 (⟨#[97]⟩, 1, 1))
  have H4 : Hid (WHere S w.heap.size w w4 p [(⟨#[98]⟩, 1, 3), (⟨#[100]⟩, 2, 2)] F3) := Hid.of (by rw [← hw4]; exact H3.out.next ((Below.refl _ _).alloc (Nat.le_refl _) _))
  have HW4 := Hid.of hw4
  have NF : Hid (¬ F3 w3.heap.size) := Hid.of (fun c => Nat.lt_irrefl _ (L3.out _ c))
  clear hw4
  go_wp2_with fail
  rw [HW4.out]
  refine (H4.out.line (n := 1) (by decide) rfl rfl).mono ?_
  rintro e w5 ⟨u, rfl, o5, F5, h5, st, -⟩
  obtain ⟨ua, uc, rfl⟩ : ∃ a c, u = .slice a 1 c := by
    rcases o5.2 with ⟨h, h'⟩ | ⟨g, cap, cur, h, _⟩
    · cases h'
    · exact ⟨_, _, h⟩
  have H5 := Hid.of h5
  have K5 := Hid.of (K4.out.step st NF.out)
  clear h5 o5 st H4 K4
  go_wp2_with fail
  refine (H5.out.peek (by decide) rfl).mono ?_
  rintro e w6 ⟨rfl, h6, b6⟩
  have K6 := Hid.of (K5.out.kept b6)
  have H6 := Hid.of h6
  clear h6 b6 H5 K5
  have K7 := Hid.of (K6.out.kept ((Below.refl _ _).alloc (Nat.le_refl _) (.cells #[.string ⟨#[100]⟩, .int .i64 2, .int .i64 2] 44)))
  obtain ⟨c0, c1, c2⟩ := K7.out.at
  have he1 : ((⟨#[97]⟩ : ByteArray).toList == (⟨#[97]⟩ : ByteArray).toList) = true := beq_self_eq_true _
  go_wp2
  go_ret
  exact ⟨rfl, (H6.out.next ((Below.refl _ _).alloc (Nat.le_refl _) _)).fr⟩

end Go.Proofs.Ytcjfejhfafiaiaa
