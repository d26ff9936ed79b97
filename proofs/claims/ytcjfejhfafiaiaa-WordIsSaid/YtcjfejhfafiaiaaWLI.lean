/-
  The landed package word keeps what chapter 7 says.
-/
import Derived.Test.YtcjfejhfafiaiaaWLH
namespace Go.Proofs.Ytcjfejhfafiaiaa
open Go.RowKit Go.Lib

/-- Words lie in one block. -/
def WdRep (w : World) (p : Nat) (l : List WdL) (F : Nat → Prop) : Prop := F = (fun k => k = p) ∧ ∃ x t, WdAt w p x t l ∧ WFirst t

theorem WdRep.next {w w' : World} {p : Nat} {l : List WdL} {F : Nat → Prop} (h : WdRep w p l F) (b : Below w.heap.size w w') : WdRep w' p l F := by
  obtain ⟨hF, x, t, k, f⟩ := h
  exact ⟨hF, x, t, k.below b, f⟩

theorem word_cut (t : ByteArray) (w : World) : Calls Try.prog 9 #[.string t] w (CutEnd WdRep t w) := by
  rcases Nat.lt_or_ge 4000 t.size with h | h
  · refine (cut_long t w h).mono ?_
    rintro e w' ⟨rfl, b⟩
    have hw : wCut t.data.toList = (none, 2, 0) := by unfold wCut; rw [if_pos (by rw [byte_len]; exact h)]
    unfold CutEnd
    rw [hw]
    exact ⟨b, rfl⟩
  · rcases Nat.lt_or_ge (wLen wMay t.data.toList) t.size with hk | hk
    · refine (cut_wrong t w h hk).mono ?_
      rintro e w' ⟨rfl, b⟩
      have hw := wCut_maynot (t := t.data.toList) (by rw [byte_len]; exact h) (by rw [byte_len]; exact hk)
      unfold CutEnd
      rw [hw]
      exact ⟨b, rfl⟩
    · have hk2 : wLen wMay t.data.toList = t.size := by
        have := wLen_le wMay t.data.toList
        rw [byte_len] at this
        omega
      refine (cut_right t w h hk2).mono ?_
      rintro e w' ⟨p, x, t', rfl, k, f, hp, b⟩
      have hw := wCut_may (t := t.data.toList) (by rw [byte_len]; exact h) (wMay_all (by rw [hk2, byte_len]))
      unfold CutEnd
      rw [hw]
      exact ⟨b, p, _, rfl, ⟨rfl, x, t', k, f⟩, fun j hj => by have hj2 : j = p := hj; omega⟩

def words : WordSpec where
  Rep := WdRep
  lt := by
    rintro w p l F ⟨rfl, x, t, k, f⟩ j rfl
    exact k.lt
  kept := by
    rintro w w' p l F ⟨rfl, x, t, k, f⟩ - hb
    exact ⟨rfl, x, t, k.kept (hb p rfl), f⟩
  cut t w _ := word_cut t w
  len := by
    rintro w p l F ⟨rfl, x, t, k, f⟩ hl
    exact len_any w p x t l k f hl
  peek := by
    rintro w p l F ⟨rfl, x, t, k, f⟩ -
    exact peek_any w p x t l k f
  next := by
    rintro w p l F ⟨rfl, x, t, k, f⟩ -
    cases l with
    | nil =>
      refine (next_no w (wptr p) (fun w' b => peek_none w' p x t [] (k.below b) ?_)).mono ?_
      · rcases Nat.eq_zero_or_pos t.size with h0 | h0
        · exact h0
        · have := (first_of k f h0).1
          cases this
      · rintro e w' ⟨rfl, b⟩
        exact ⟨rfl, _, ⟨rfl, x, t, k.below b, f⟩, Step.of_below b, fun _ h => h⟩
    | cons y l =>
      obtain ⟨s, ln, col⟩ := y
      refine (next_some w p x t s ln col l k f).mono ?_
      rintro e w' ⟨rfl, x', t', k', f', st⟩
      exact ⟨rfl, _, ⟨rfl, x', t', k', f'⟩, st, fun _ h => h⟩
  line := by
    rintro w p l F ⟨rfl, x, t, k, f⟩ hl
    refine (line_any w p x t l k f hl).mono ?_
    rintro e w' ⟨v, b, rfl, I⟩
    obtain ⟨x', t', k', f'⟩ := I.left
    exact ⟨v, rfl, I.row, _, ⟨rfl, x', t', k', f'⟩, I.step, fun g hg c => by have := (I.row.lt g hg).1; have := k.lt; simp only at c; omega, fun _ h => h⟩
  is := is_any

set_option maxRecDepth 20000 in
set_option maxHeartbeats 3200000 in
theorem line_nil (w : World) :
    Calls Try.prog 13 #[.pointer none] w fun e w' => (∃ a c, e = .returned (.slice a 0 c)) ∧ Below w.heap.size w w' := by
  go_enter Try.func13, Try.ntmps13
  go_wp2_with fail
  refine (peek_nil w).mono ?_
  rintro e w2 ⟨rfl, b2⟩
  have B2 := Hid.of (b2.alloc b2.size (.cells #[.string ⟨#[]⟩, .int .i64 0, .int .i64 0] 44))
  clear b2
  simp only [wdVal]
  go_wp2_with fail
  go_loopw [3, 4, 5] (fun lv _ bv wr => lv = .slice none 0 0 ∧ bv = .bool false ∧ Hid (Below w.heap.size w wr)) (fun _ _ _ _ => 0)
  case atStart => exact ⟨rfl, rfl, B2⟩
  case round =>
    obtain ⟨rfl, rfl, B⟩ := hrel
    clear B2
    go_wp2_with fail
    go_quiet (fail)
    go_wp2
    go_ret
    exact ⟨⟨_, _, rfl⟩, below_drewN B.out _⟩

def wordNone : WordNone words where
  cells := #[.int .i64 0, .int .i64 0, .string ⟨#[]⟩]
  built := by kernel_rfl
  zero w := ⟨fun k => k = w.heap.size, ⟨rfl, (0, 0), ⟨#[]⟩, ⟨Go.heap_alloc_new _ _, fun c h => by simp at h, rfl, by decide, by decide⟩, fun c r h => by simp at h⟩, fun k hk => by have hk2 : k = w.heap.size := hk; omega⟩
  next w := next_no w (.pointer none) (fun w' _ => peek_nil w')
  line := line_nil
  len := len_nil

end Go.Proofs.Ytcjfejhfafiaiaa
