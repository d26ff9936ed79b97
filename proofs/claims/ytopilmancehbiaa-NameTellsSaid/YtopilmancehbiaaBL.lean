/-
  LentTexts (package sedimentbook), said as a row of one's own of one text more: the mark behind them lies in it.
-/
import Derived.Test.YtopilmancehbiaaBT
import Derived.Test.YtopilmancehbiaaBG
namespace Go.Proofs.Ytopilmancehbiaa
open Go.RowKit Go.Lib

/-- The slice m of n elements begins a row of one's own that holds xs, then the mark. -/
def LentOwn (w : World) (B : Nat) (e : TypeId) (m : Value) (n : Nat) (xs : List Value) (mark : Value) (r : Value) : Prop :=
  ∃ g cap, m = .slice (some ⟨g, 0, none⟩) n cap ∧ r = .slice (some ⟨g, 0, none⟩) (n + 1) cap ∧ w.ownsRow B e 1 r (n + 1) (xs ++ [mark])

theorem LentOwn.lent {w : World} {B : Nat} {e : TypeId} {m : Value} {n : Nat} {xs : List Value} {mark r : Value} (h : LentOwn w B e m n xs mark r) : LentRow w B m n xs [mark] := by
  obtain ⟨g, cap, hm, rfl, ho⟩ := h
  rcases ho.2 with ⟨h, _⟩ | ⟨g', cap', cur, h, hB, hrow, hcap, hmax, hcs, htk⟩
  · cases h
  · simp only [Value.slice.injEq, Option.some.injEq, Addr.mk.injEq, and_true, true_and] at h
    obtain ⟨rfl, rfl⟩ := h
    refine ⟨g, cap, hm, hB, (Array.getElem?_eq_some_iff.1 hrow).1, hcap, hmax, fun j u hj => ?_⟩
    rw [Nat.zero_add, cell_of_row w g j _ _ _ hrow]
    rw [← htk] at hj
    rw [List.getElem?_take] at hj
    split at hj
    · simpa using hj
    · cases hj

/-- As it lies in a later world, if its row is there still. -/
theorem LentOwn.again {w w' : World} {B D : Nat} {e : TypeId} {m : Value} {n : Nat} {xs : List Value} {mark r : Value} (h : LentOwn w B e m n xs mark r) (ho : w'.ownsRow D e 1 r (n + 1) (xs ++ [mark])) : LentOwn w' D e m n xs mark r := by
  obtain ⟨g, cap, hm, hr, _⟩ := h
  exact ⟨g, cap, hm, hr, ho⟩

theorem LentOwn.own {w : World} {B : Nat} {e : TypeId} {m : Value} {n : Nat} {xs : List Value} {mark r : Value} (h : LentOwn w B e m n xs mark r) : w.ownsRow B e 1 r (n + 1) (xs ++ [mark]) := by
  obtain ⟨g, cap, hm, hr, ho⟩ := h
  exact ho

set_option maxHeartbeats 400000 in
theorem LentTexts_own (v : Value) (ss : List ByteArray) (w : World) (hv : CellRow w v ss.length (ss.map Value.string)) (hn : ss.length ≤ 1000000) :
    Calls Try.prog 15 #[v] w fun e w' => ∃ m r, e = .returned m ∧ LentOwn w' w.heap.size 9 m ss.length (ss.map Value.string) (.string markText) r ∧ Below w.heap.size w w' := by
  have hc := hv
  obtain ⟨sa, c, rfl, _⟩ := hv
  have HC := Hid.of hc
  clear hc
  obtain ⟨i0, hi, hz0, hz1, hz2⟩ := info_parts (show (Try.prog.info? 9).map (fun i => (i.zero, i.size, i.bytes)) = some (some (.string ⟨#[]⟩), 1, 16) by kernel_rfl)
  have HI := Hid.of hi
  have HZ0 := Hid.of hz0
  have HZ1 := Hid.of hz1
  have HZ2 := Hid.of hz2
  clear hi hz0 hz1 hz2
  go_enter Try.func15, Try.ntmps15
  go_wp2_with (first | (at_builtin; refine append_row_law rfl _ (.tmp 3) 22 rfl w.heap.size 9 i0 (.string ⟨#[]⟩) 1 16 Try.underlying22 HI.out HZ0.out HZ1.out HZ2.out rfl (by decide) (.slice none 0 0) 0 [] rfl ⟨rfl, .inl ⟨rfl, rfl⟩⟩ _ ss.length _ rfl HC.out (by simp) (strs_one ss) (by unfold maxLen; omega) (by omega) (Nat.le_refl _) ?_; intro v1 w1 o1 g1; have O1 : Hid (w1.ownsRow w.heap.size 9 1 v1 ss.length (ss.map Value.string)) := Hid.of (by simpa using o1); have b1 : Below w.heap.size w w1 := below_of_none g1; clear o1 g1) | (at_builtin; refine append_row_law rfl (.tmp 4) (.tmp 5) 22 rfl w.heap.size 9 i0 (.string ⟨#[]⟩) 1 16 Try.underlying22 HI.out HZ0.out HZ1.out HZ2.out rfl (by decide) v1 ss.length _ rfl (O1.out.alloc _) (.slice (some ⟨w1.heap.size, 0, none⟩) 1 1) 1 [.string markText] rfl ⟨_, _, rfl, .inr ⟨_, 0, rfl, by simp, mark_cells w1⟩⟩ rfl (by simp [Value.oneCell']) (by unfold maxLen; omega) (by omega) (by simp; have := b1.size; omega) ?_; intro v2 w2 o2 g2; have O2 := Hid.of o2; obtain ⟨hl2, h2⟩ := o2; obtain ⟨g, cap, cur, rfl, hB, hrow, hcap, hmax, hcs, htk⟩ := h2.resolve_left (by simp)))
  go_ret
  exact ⟨_, _, rfl, ⟨g, cap, rfl, rfl, O2.out⟩, (b1.alloc b1.size _).grown g2 (by have := b1.size; simp; omega) (fun k hk => own_ge O1.out hk)⟩

/-- A row beside is put behind. -/
theorem row_behind (a r : Row1) (t : List Row1) : (a :: r :: (t ++ [])).Perm (a :: (t ++ [r])) := by
  rw [List.append_nil]
  exact (List.perm_append_singleton r t).symm.cons a

theorem rows_bare {r : Row1} (t : List Row1) : (t ++ []).Sublist (t ++ [r]) := (List.Sublist.refl t).append (List.nil_sublist _)

end Go.Proofs.Ytopilmancehbiaa
