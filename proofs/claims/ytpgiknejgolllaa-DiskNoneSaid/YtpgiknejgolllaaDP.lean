/-
  What chapter 6 says of package dev's functions, over whatever way a disk lies in memory: its blocks are a footprint, and each call touches that alone.
-/
import Derived.Test.YtpgiknejgolllaaDM
import Derived.Test.YtpgiknejgolllaaBT
import Derived.Test.YtpgiknejgolllaaBST
namespace Go.Proofs.Ytpgiknejgolllaa
open Go.RowKit

/-- The disk at block p. -/
abbrev dptr (p : Nat) : Value := .pointer (some ⟨p, 0, none⟩)

/-- The blocks that a disk lives in: all of them, and those of them that its calls write into (the others may be shared with other disks). -/
structure Foot where
  own : Nat → Prop
  all : Nat → Prop

/-- A call has written into the blocks that it may, and made new ones; the footprint is F' behind it. -/
structure FStep (F F' : Foot) (w w' : World) : Prop where
  own : Step F.own F'.own w w'
  more : ∀ k, F'.all k → F.all k ∨ w.heap.size ≤ k

theorem FStep.of_below {F : Foot} {w w' : World} (b : Below w.heap.size w w') : FStep F F w w' := ⟨Step.of_below b, fun _ h => .inl h⟩
theorem FStep.refl (F : Foot) (w : World) : FStep F F w w := ⟨Step.refl _ _, fun _ h => .inl h⟩
theorem FStep.trans {F F' F'' : Foot} {w w' w'' : World} (h : FStep F F' w w') (k : FStep F' F'' w' w'') : FStep F F'' w w'' :=
  ⟨h.own.trans k.own, fun i hi => by
    rcases k.more i hi with c | c
    · exact h.more i c
    · exact .inr (Nat.le_trans h.own.size c)⟩
theorem FStep.after {F F' : Foot} {w w' w'' : World} (b : Below w.heap.size w w') (k : FStep F F' w' w'') : FStep F F' w w'' := (FStep.of_below b).trans k
theorem FStep.ge {B : Nat} {F F' : Foot} {w w' : World} (h : FStep F F' w w') (hB : B ≤ w.heap.size) (hF : ∀ k, F.all k → B ≤ k) : ∀ k, F'.all k → B ≤ k := by
  intro k hk
  rcases h.more k hk with c | c
  · exact hF k c
  · omega

/-- The document's words on each call. -/
structure DiskSpec where
  Rep : World → Nat → DSt → Foot → Prop
  lt : ∀ {w p s F}, Rep w p s F → ∀ k, F.all k → k < w.heap.size
  sub : ∀ {w p s F}, Rep w p s F → ∀ k, F.own k → F.all k
  kept : ∀ {w w' p s F}, Rep w p s F → w.heap.size ≤ w'.heap.size → (∀ k, F.all k → w'.heap[k]? = w.heap[k]?) → Rep w' p s F
  new : ∀ (n : Nat) (w : World), 1 ≤ n → n ≤ 4096 → Calls Try.prog 19 #[.int .i64 n] w fun e w' => ∃ p F, e = .returned (dptr p) ∧ Rep w' p (DSt.fresh n) F ∧ (∀ k, F.all k → w.heap.size ≤ k) ∧ Below w.heap.size w w'
  isOn : ∀ {w p s F}, Rep w p s F → Calls Try.prog 18 #[dptr p] w fun e w' => e = .returned (.bool s.on) ∧ Below w.heap.size w w'
  writes : ∀ {w p s F}, Rep w p s F → s.Small 1000 → Calls Try.prog 21 #[dptr p] w fun e w' => e = .returned (.int .i64 s.cnt) ∧ Below w.heap.size w w'
  blocks : ∀ {w p s F}, Rep w p s F → s.Small 1000 → Calls Try.prog 15 #[dptr p] w fun e w' => e = .returned (.int .i64 s.last.length) ∧ Below w.heap.size w w'
  waiting : ∀ {w p s F}, Rep w p s F → s.Small 1000 → Calls Try.prog 16 #[dptr p] w fun e w' => e = .returned (.int .i64 s.waits.length) ∧ Below w.heap.size w w'
  read : ∀ {w p s F} (i : Int), Rep w p s F → s.Small 1000 → Calls Try.prog 9 #[dptr p, .int .i64 i] w fun e w' => ∃ t, e = .returned (.tuple #[.string t, .int .i64 (s.readErr i)]) ∧ (s.readErr i = 0 → s.cur[i.toNat]? = some t) ∧ Below w.heap.size w w'
  write : ∀ {w p s F} (i : Int) (t : ByteArray), Rep w p s F → s.Small 1000 → t.size ≤ maxLen → Calls Try.prog 11 #[dptr p, .int .i64 i, .string t] w fun e w' => e = .returned (.int .i64 (s.write i t).1) ∧ ∃ F', Rep w' p (s.write i t).2 F' ∧ FStep F F' w w'
  flush : ∀ {w p s F}, Rep w p s F → s.Small 1000 → Calls Try.prog 13 #[dptr p] w fun e w' => e = .returned (.int .i64 s.flush.1) ∧ ∃ F', Rep w' p s.flush.2 F' ∧ FStep F F' w w'
  cut : ∀ {w p s F} (v : Value) (ks : List Int), Rep w p s F → s.Small 1000 → CellRow w v ks.length (ks.map (Value.int .i64)) → (ks ≠ [] → Off F.own v) → ks.length ≤ 100000 → Calls Try.prog 14 #[dptr p, v] w fun e w' => e = .returned (.int .i64 s.cuts) ∧ ∃ F', Rep w' p (s.cut ks) F' ∧ FStep F F' w w'
  restore : ∀ {w p s F}, Rep w p s F → s.Small 1000 → Calls Try.prog 8 #[dptr p] w fun e w' => e = .returned (.tuple #[]) ∧ ∃ F', Rep w' p s.restore F' ∧ FStep F F' w w'
  arm : ∀ {w p s F} (n : Int) (v : Value) (ks : List Int), Rep w p s F → s.Small 1000 → CellRow w v ks.length (ks.map (Value.int .i64)) → (ks ≠ [] → Off F.own v) → ks.length ≤ 100000 → n ≤ 1000000 → Calls Try.prog 20 #[dptr p, .int .i64 n, v] w fun e w' => e = .returned (.tuple #[]) ∧ ∃ F', Rep w' p (s.arm n ks) F' ∧ FStep F F' w w'
  twin : ∀ {w p s F}, Rep w p s F → s.Small 1000 → Calls Try.prog 17 #[dptr p] w fun e w' => ∃ p2 F2, e = .returned (dptr p2) ∧ Rep w' p2 s F2 ∧ (∀ k, F2.own k → w.heap.size ≤ k) ∧ (∀ k, F2.all k → F.all k ∨ w.heap.size ≤ k) ∧ Below w.heap.size w w'

/-- A disk of one's own in state s, above B; below B all is as it was. -/
structure DHere (S : DiskSpec) (B : Nat) (w0 w : World) (p : Nat) (s : DSt) (F : Foot) : Prop where
  rep : S.Rep w p s F
  ge : ∀ k, F.all k → B ≤ k
  hB : B ≤ w.heap.size
  fr : Below B w0 w

theorem DHere.next {S : DiskSpec} {B p : Nat} {w0 w w' : World} {s : DSt} {F : Foot} (h : DHere S B w0 w p s F) (b : Below w.heap.size w w') : DHere S B w0 w' p s F :=
  ⟨S.kept h.rep b.size (fun k hk => b.block k (S.lt h.rep k hk)), h.ge, Nat.le_trans h.hB b.size, h.fr.trans (b.mono h.hB)⟩

theorem DHere.step {S : DiskSpec} {B p : Nat} {w0 w w' : World} {s s' : DSt} {F F' : Foot} (h : DHere S B w0 w p s F) (r : S.Rep w' p s' F') (st : FStep F F' w w') : DHere S B w0 w' p s' F' :=
  ⟨r, st.ge h.hB h.ge, Nat.le_trans h.hB st.own.size, st.own.below h.fr h.hB (fun k hk => h.ge k (S.sub h.rep k hk))⟩

/-- What is done elsewhere leaves it. -/
theorem DHere.grown {S : DiskSpec} {B p : Nat} {w0 w w' : World} {s : DSt} {F : Foot} {row : Option Nat} (h : DHere S B w0 w p s F) (g : w.grownBy w' row) (hr : ∀ k, row = some k → ¬ F.all k ∧ B ≤ k) : DHere S B w0 w' p s F :=
  ⟨S.kept h.rep g.size (fun k hk => g.block k (S.lt h.rep k hk) (fun e => (hr k e.symm).1 hk)), h.ge, Nat.le_trans h.hB g.size, h.fr.grown g h.hB (fun k hk => (hr k hk).2)⟩

theorem DHere.off_below {S : DiskSpec} {B p : Nat} {w0 w : World} {s : DSt} {F : Foot} (h : DHere S B w0 w p s F) {v : Value} {n : Nat} {xs : List Value} (hv : CellRow w0 v n xs) (hB : w0.heap.size ≤ B) (hx : xs ≠ []) : Off F.own v := by
  obtain ⟨a, c, rfl, hc⟩ := hv
  rcases hc with hc | ⟨b, o, rfl, hl, _⟩
  · exact absurd hc hx
  · intro g hg hF
    simp [Value.ownBlock] at hg
    have := h.ge g (S.sub h.rep g hF)
    omega

end Go.Proofs.Ytpgiknejgolllaa
