/-
  A bundle of texts: BA BFL BB.
-/
import Derived.WalkKit
import Derived.WalkSpells
import Derived.WalkLawsBesides
import Derived.ChangeAlike
import Derived.Laws.IdiomStrings
import Derived.WalkSmall
import Derived.Lib.BufSteps
import Derived.Deep.Draws
import Derived.Test.YtokjlmkegdickaaRows
/-
  What every text of a seat shares: blocks, worlds that grow, lists of bytes, slices of numbers and of texts.
-/
namespace Go.Proofs.Ytokjlmkegdickaa
open Go.RowKit Go.Lib

theorem Hid.of {p : Prop} (h : p) : Hid p := h

/-- A block of cells of the struct type t that nobody has frozen. -/
def Blk (w : World) (b : Nat) (t : TypeId) (xs : List Value) : Prop := w.heap[b]? = some (.cells xs.toArray t (0, 0))

theorem Blk.cell {w : World} {b : Nat} {t : TypeId} {xs : List Value} (h : Blk w b t xs) (i : Nat) (v : Value) (hv : xs[i]? = some v) : w.cell? ⟨b, i, none⟩ = some v := by
  rw [cell_of_row w b i xs.toArray t (0, 0) h]; simpa using hv

/-- w' is w, but for the cell i of block p, which holds x now. -/
def Stored (p i : Nat) (x : Value) (w w' : World) : Prop := w.setCell ⟨p, i, none⟩ x = w'

theorem Stored.row {p i : Nat} {x : Value} {w w' : World} (s : Stored p i x w w') {cs : Array Value} {t : TypeId} (h : w.heap[p]? = some (.cells cs t (0, 0))) : w'.heap[p]? = some (.cells (cs.setIfInBounds i x) t (0, 0)) := by
  unfold Stored at s; subst s
  exact Go.heap_setCell_same w p i cs t x h

theorem Stored.grown {p i : Nat} {x : Value} {w w' : World} (s : Stored p i x w w') : w.grownBy w' (some p) := by
  unfold Stored at s; subst s
  exact ⟨rfl, rfl, rfl, by simp [World.setCell], fun k _ hr => Below.heap_setCell _ _ _ _ (by simpa using hr)⟩

theorem grownBy_refl (w : World) (row : Option Nat) : w.grownBy w row := ⟨rfl, rfl, rfl, Nat.le_refl _, fun _ _ _ => rfl⟩

theorem grownBy_trans {a b c : World} {row : Option Nat} (h : a.grownBy b row) (k : b.grownBy c row) : a.grownBy c row :=
  ⟨k.os.trans h.os, k.tape.trans h.tape, k.output.trans h.output, Nat.le_trans h.size k.size, fun i hi hr => (k.block i (Nat.lt_of_lt_of_le hi h.size) hr).trans (h.block i hi hr)⟩

theorem grownBy_drew {a b : World} {row : Option Nat} (h : a.grownBy b row) : a.grownBy b.drew row := ⟨h.os, h.tape, h.output, h.size, h.block⟩

theorem grownBy_setCell (w : World) (p o : Nat) (u : Value) : w.grownBy (w.setCell ⟨p, o, none⟩ u) (some p) :=
  ⟨rfl, rfl, rfl, by simp [World.setCell], fun k _ hr => Below.heap_setCell _ _ _ _ (by simpa using hr)⟩

/-- What is written to one's own block alone, seen from below. -/
theorem below_of_grown {B p : Nat} {w w' : World} (h : w.grownBy w' (some p)) (hB : B ≤ p) (hs : B ≤ w.heap.size) : Below B w w' :=
  (Below.refl B w).grown h hs (fun k hk => by simp at hk; omega)

theorem row_set {w : World} {p i : Nat} {cs : Array Value} {t : TypeId} (h : w.heap[p]? = some (.cells cs t (0, 0))) (x : Value) : (w.setCell ⟨p, i, none⟩ x).heap[p]? = some (.cells (cs.setIfInBounds i x) t (0, 0)) :=
  Go.heap_setCell_same w p i cs t x h

theorem row_alloc {w : World} {p : Nat} {b o : Obj} (h : w.heap[p]? = some b) : (w.alloc o).heap[p]? = some b := by
  rw [Below.heap_alloc _ _ _ (Array.getElem?_eq_some_iff.1 h).1]; exact h

theorem row_frozen {w : World} {p i : Nat} {cs : Array Value} {t : TypeId} (h : w.heap[p]? = some (.cells cs t (0, 0))) : w.frozen? ⟨p, i, none⟩ = false := by simp [World.frozen?, h]

/-- All that lay in a world before is as it was. -/
theorem grown_of_below {w w' : World} (h : Below w.heap.size w w') : w.grownBy w' none := ⟨h.os, h.tape, h.output, h.size, fun k hk _ => h.block k hk⟩

theorem below_of_none {w w' : World} (h : w.grownBy w' none) : Below w.heap.size w w' := ⟨h.os, h.tape, h.output, h.size, fun k hk => h.block k hk (by simp)⟩

theorem Below.of_grown {B p : Nat} {w w' : World} (h : w.grownBy w' (some p)) (hB : B ≤ p) (hs : p < w.heap.size) : Below B w w' := below_of_grown h hB (by omega)

theorem below_drewN {B : Nat} {w w' : World} (h : Below B w w') (n : Nat) : Below B w (w'.drewN n) := by
  obtain ⟨h1, h2, h3, h4, h5⟩ := h
  exact ⟨h1, h2, h3, h4, h5⟩

theorem bytes_len (s : ByteArray) : s.data.toList.length = s.size := Array.length_toList

theorem byte_len (s : ByteArray) : s.data.toList.length = s.size := Array.length_toList

theorem extract_size (s : ByteArray) (k n : Nat) (h : k + n ≤ s.size) : (s.extract k (k + n)).size = n := by
  simp [ByteArray.size_extract]; omega

theorem extract_list (s : ByteArray) (k n : Nat) : (s.extract k (k + n)).data.toList = (s.data.toList.drop k).take n := by simp

theorem append_list (a b : ByteArray) : (a ++ b).data.toList = a.data.toList ++ b.data.toList := by
  rw [ByteArray.data_append]
  simp

theorem one_more {d : ByteArray} (c : UInt8) (h : d.size ≤ 100) : ((⟨#[c]⟩ : ByteArray) ++ d).size ≤ 1000000 := by
  rw [ByteArray.size_append]
  have : (⟨#[c]⟩ : ByteArray).size = 1 := rfl
  omega

theorem take_snoc (s : ByteArray) (k : Nat) (h : k < s.size) : s.data.toList.take (k + 1) = s.data.toList.take k ++ [s[k]'h] := by
  rw [List.take_succ_eq_append_getElem (by rw [byte_len]; exact h)]; rfl

/-- The first byte of a text that is not empty. -/
theorem list_cons (s : ByteArray) (h : 0 < s.size) : ∃ r, s.data.toList = s[0]'h :: r := by
  have hl : 0 < s.data.toList.length := by rw [byte_len]; exact h
  cases hs : s.data.toList with
  | nil => rw [hs] at hl; simp at hl
  | cons c r =>
    refine ⟨r, ?_⟩
    have : s[0]'h = s.data.toList[0]'hl := rfl
    rw [this]
    simp only [hs, List.getElem_cons_zero]

theorem same_bytes {a b : ByteArray} (h : a.data.toList = b.data.toList) : a = b := by
  cases a; cases b
  simp only at h
  congr 1
  exact Array.toList_inj.1 h

theorem text_same {a b : ByteArray} (h : a.data.toList = b.data.toList) : a = b := by
  cases a; cases b
  simp only at h
  congr 1
  exact Array.toList_inj.1 h

/-- The slice v holds the numbers xs of kind k. -/
def NumRow (k : IntKind) (w : World) (v : Value) (xs : List Int) : Prop :=
  ∃ a c, v = .slice a xs.length c ∧ ((xs = []) ∨ ∃ b o, a = some ⟨b, o, none⟩ ∧ b < w.heap.size ∧ ∀ j, j < xs.length → w.cell? ⟨b, o + j, none⟩ = some (.int k (xs.getD j 0)))

theorem NumRow.at {k : IntKind} {w : World} {b o n c : Nat} {xs : List Int} (hb : b < w.heap.size) (hc : ∀ j, j < xs.length → w.cell? ⟨b, o + j, none⟩ = some (.int k (xs.getD j 0))) (hn : n = xs.length) :
    NumRow k w (.slice (some ⟨b, o, none⟩) n c) xs := ⟨_, c, by rw [hn], .inr ⟨b, o, rfl, hb, hc⟩⟩

theorem NumRow.made (k : IntKind) (w1 : World) (t : TypeId) (xs : List Int) (cs : Array Value) (hcs : cs = (xs.map (Value.int k)).toArray) (b n c : Nat) (hb : b = w1.heap.size) (hn : n = xs.length) :
    NumRow k (w1.alloc (.cells cs t)) (.slice (some ⟨b, 0, none⟩) n c) xs := by
  subst hb hcs
  refine NumRow.at (by simp) ?_ hn
  intro j hj
  rw [Nat.zero_add, cell_of_row _ _ _ _ _ _ (Go.heap_alloc_new _ _)]
  simp [List.getD, hj]

/-- The slice v holds the texts ss. -/
def StrRow (w : World) (v : Value) (ss : List ByteArray) : Prop :=
  ∃ a c, v = .slice a ss.length c ∧ ((ss = []) ∨ ∃ b o, a = some ⟨b, o, none⟩ ∧ b < w.heap.size ∧ ∀ j, j < ss.length → w.cell? ⟨b, o + j, none⟩ = some (.string (ss.getD j ByteArray.empty)))

theorem StrRow.kept {w w' : World} {v : Value} {ss : List ByteArray} (h : StrRow w v ss) (hb : Below w.heap.size w w') : StrRow w' v ss := by
  obtain ⟨a, c, hv, h⟩ := h
  refine ⟨a, c, hv, ?_⟩
  rcases h with h | ⟨b, o, ha, hlt, hc⟩
  · exact .inl h
  · exact .inr ⟨b, o, ha, Nat.lt_of_lt_of_le hlt hb.size, fun j hj => by rw [hb.cell hlt]; exact hc j hj⟩

theorem StrRow.made (w1 : World) (t : TypeId) (ss : List ByteArray) (cs : Array Value) (hcs : cs = (ss.map Value.string).toArray) (b n c : Nat) (hb : b = w1.heap.size) (hn : n = ss.length) :
    StrRow (w1.alloc (.cells cs t)) (.slice (some ⟨b, 0, none⟩) n c) ss := by
  subst hb hcs
  refine ⟨_, c, by rw [hn], .inr ⟨w1.heap.size, 0, rfl, by simp, ?_⟩⟩
  intro j hj
  rw [Nat.zero_add, cell_of_row _ _ _ _ _ _ (Go.heap_alloc_new _ _)]
  simp [List.getD, hj]

theorem made_get (m j : Nat) (h : j < m) : (madeCells #[Value.int .u8 0] m)[j]? = some (.int .u8 0) := by
  simp [madeCells, h, Nat.mod_one]

/-- The text of bytes 0 that stand in a new slice. -/
theorem conv_zeros (w : World) (m : Nat) :
    (convert 108 9 (.slice (some ⟨w.heap.size, 0, none⟩) m m)).run Try.prog (w.alloc (.cells (madeCells #[Value.int .u8 0] m) 5)) = .ok (.string ⟨(List.replicate m (0 : UInt8)).toArray⟩) (w.alloc (.cells (madeCells #[Value.int .u8 0] m) 5)) := by
  have h := run_convert_bytes_back (P := Try.prog) (w.alloc (.cells (madeCells #[Value.int .u8 0] m) 5)) 108 9 5 ⟨w.heap.size, 0, none⟩ m (List.replicate m 0) Try.underlying108 Try.underlying5 Try.underlying9 (fun j hj => by
    rw [List.length_replicate] at hj
    have := made_get m j hj
    simp only [List.getElem_replicate]
    have ea : (⟨w.heap.size, 0, none⟩ : Addr).add j = ⟨w.heap.size, j, none⟩ := by unfold Addr.add; split <;> simp_all
    rw [ea, World.cell?_alloc_new, this]
    rfl)
  rw [List.length_replicate] at h
  exact h

theorem conv_one (w : World) (z : Int) : (convert 108 9 (.slice (some ⟨w.heap.size, 0, none⟩) 1 1)).run Try.prog (w.alloc (.cells #[.int .u8 z] 5)) = .ok (.string ⟨#[UInt8.ofNat z.toNat]⟩) (w.alloc (.cells #[.int .u8 z] 5)) := by
  rw [run_convert_bytes_string _ 108 9 5 (some ⟨w.heap.size, 0, none⟩) 1 1 Try.underlying108 Try.underlying5 Try.underlying9]
  have hl := run_loadCells_list (P := Try.prog) (w.alloc (.cells #[.int .u8 z] 5)) ⟨w.heap.size, 0, none⟩ ([z].map (Value.int .u8)) (fun j v hj => by
    match j, hj with
    | 0, hj =>
      simp at hj
      subst hj
      simp [Addr.add]
    | j + 1, hj => simp at hj)
  rw [run_bytesToString _ _ 1 1 _ hl]
  rfl

end Go.Proofs.Ytokjlmkegdickaa

/-
  Rows whose elements are several cells each: their cells laid flat.
-/
namespace Go.Proofs.Ytokjlmkegdickaa
open Go.RowKit Go.Lib

/-- The cells of a list, each element's as enc says. -/
def flat {α : Type} (enc : α → List Value) (l : List α) : List Value := l.flatMap enc

section
variable {α : Type} {enc : α → List Value} {s : Nat}

theorem flat_nil : flat enc [] = [] := rfl

theorem flat_append (a b : List α) : flat enc (a ++ b) = flat enc a ++ flat enc b := by simp [flat]

theorem flat_one (a : α) : flat enc [a] = enc a := by simp [flat]

theorem flat_length (h : ∀ x, (enc x).length = s) (l : List α) : (flat enc l).length = l.length * s := by
  induction l with
  | nil => simp [flat]
  | cons a l ih =>
    have e : flat enc (a :: l) = enc a ++ flat enc l := rfl
    rw [e, List.length_append, ih, h, List.length_cons, Nat.add_mul, Nat.one_mul, Nat.add_comm]

theorem flat_at (h : ∀ x, (enc x).length = s) (l : List α) (j : Nat) (x : α) (hx : l[j]? = some x) (i : Nat) (hi : i < s) : (flat enc l)[j * s + i]? = (enc x)[i]? := by
  induction l generalizing j with
  | nil => simp at hx
  | cons a l ih =>
    have e : flat enc (a :: l) = enc a ++ flat enc l := rfl
    rw [e]
    match j with
    | 0 =>
      simp at hx
      subst hx
      rw [Nat.zero_mul, Nat.zero_add, List.getElem?_append_left (by rw [h]; exact hi)]
    | j + 1 =>
      have e2 : (j + 1) * s + i = s + (j * s + i) := by rw [Nat.add_mul, Nat.one_mul]; omega
      rw [e2, List.getElem?_append_right (by rw [h]; omega), h]
      have e3 : s + (j * s + i) - s = j * s + i := by omega
      rw [e3]
      exact ih j (by simpa using hx)

theorem flat_ones (h : ∀ x, ∀ u ∈ enc x, u.oneCell' = true) (l : List α) : ∀ u ∈ flat enc l, u.oneCell' = true := by
  intro u hu
  obtain ⟨x, _, hx⟩ := List.mem_flatMap.1 hu
  exact h x u hx

end

end Go.Proofs.Ytokjlmkegdickaa

/-
  What functions Room and Short of package sedimentbook answer.
-/
namespace Go.Proofs.Ytokjlmkegdickaa
open Go.RowKit Go.Lib

/-- How much room is left behind parts of these sizes; -1: they have none. -/
def room : Int → List Int → Int
  | l, [] => l
  | l, x :: xs => if l < 0 ∨ l < x then -1 else room (l - x) xs

theorem room_le (l : Int) (xs : List Int) (h : ∀ x ∈ xs, 0 ≤ x) : room l xs ≤ max l (-1) := by
  induction xs generalizing l with
  | nil => simp [room]; omega
  | cons x xs ih =>
    rw [room]
    split
    · omega
    · have h1 := ih (l - x) fun y hy => h y (by simp [hy])
      have h2 := h x (by simp)
      omega

theorem room_ge (l : Int) (xs : List Int) (h : -1 ≤ l) : -1 ≤ room l xs := by
  induction xs generalizing l with
  | nil => exact h
  | cons x xs ih =>
    rw [room]
    split
    · omega
    · exact ih _ (by omega)

theorem room_drop (l : Int) (xs : List Int) (j : Nat) (h : j < xs.length) : room l (xs.drop j) = if l < 0 ∨ l < xs.getD j 0 then -1 else room (l - xs.getD j 0) (xs.drop (j + 1)) := by
  have e : xs.getD j 0 = xs[j] := by simp [List.getD, h]
  rw [List.drop_eq_getElem_cons h, room, e]



/-- How many bytes texts have together. -/
def total (ss : List ByteArray) : Nat := (ss.map ByteArray.size).sum

theorem total_take (ss : List ByteArray) (j : Nat) (h : j < ss.length) : total (ss.take (j + 1)) = total (ss.take j) + (ss.getD j ByteArray.empty).size := by
  unfold total
  have e : ss.getD j ByteArray.empty = ss[j] := by simp [List.getD, h]
  rw [List.take_succ_eq_append_getElem h, List.map_append, List.sum_append, e]
  simp

theorem total_take_le (ss : List ByteArray) (j : Nat) : total (ss.take j) ≤ total ss := by
  have h : total ss = total (ss.take j) + total (ss.drop j) := by
    unfold total
    rw [← List.sum_append, ← List.map_append, List.take_append_drop]
  omega

/-- What Short ends with. -/
def ShortEnd (few r0 : Nat) (ss : List ByteArray) (w : World) (e : Ending) (w' : World) : Prop := ∃ r : Bool, e = .returned (.bool r) ∧ Hid (r = true → ss.length ≤ few ∧ total ss ≤ r0) ∧ Below w.heap.size w w'


end Go.Proofs.Ytokjlmkegdickaa
