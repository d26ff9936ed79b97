/-
  A bundle of texts: BA A B Z BFL.
-/
import Derived.WalkKit
import Derived.WalkSpells
import Derived.WalkLawsBesides
import Derived.ChangeAlike
import Derived.Laws.IdiomStrings
import Derived.WalkSmall
import Derived.Lib.BufSteps
import Derived.Deep.Draws
import Derived.Lib.AppendZerosOnto
import Derived.Test.YtfgfgdchaoekfaaGreatDoorRows
namespace Go.Proofs.YtfgfgdchaoekfaaGreatDoor
open Go.RowKit Go.Lib

theorem Hid.of {p : Prop} (h : p) : Hid p := h

/-- w' is w, but for the cell i of block p, which holds x now. -/
def Stored (p i : Nat) (x : Value) (w w' : World) : Prop := w.setCell ⟨p, i, none⟩ x = w'

theorem Stored.row {p i : Nat} {x : Value} {w w' : World} (s : Stored p i x w w') {cs : Array Value} {t : TypeId} (h : w.heap[p]? = some (.cells cs t (0, 0))) : w'.heap[p]? = some (.cells (cs.setIfInBounds i x) t (0, 0)) := by
  unfold Stored at s; subst s
  exact Go.heap_setCell_same w p i cs t x h

theorem Stored.grown {p i : Nat} {x : Value} {w w' : World} (s : Stored p i x w w') : w.grownBy w' (some p) := by
  unfold Stored at s; subst s
  exact ⟨rfl, rfl, rfl, by simp [World.setCell], fun k _ hr => Below.heap_setCell _ _ _ _ (by simpa using hr)⟩

theorem grownBy_refl (w : World) (row : Option Nat) : w.grownBy w row := ⟨rfl, rfl, rfl, Nat.le_refl _, fun _ _ _ => rfl⟩

theorem grownBy_trans {a b c : World} {row : Option Nat} (h : a.grownBy b row) (k : b.grownBy c row) : a.grownBy c row :=
  ⟨k.os.trans h.os, k.tape.trans h.tape, k.output.trans h.output, Nat.le_trans h.size k.size, fun i hi hr => (k.block i (Nat.lt_of_lt_of_le hi h.size) hr).trans (h.block i hi hr)⟩

theorem grownBy_drew {a b : World} {row : Option Nat} (h : a.grownBy b row) : a.grownBy b.drew row := ⟨h.os, h.tape, h.output, h.size, h.block⟩

theorem grownBy_setCell (w : World) (p o : Nat) (u : Value) : w.grownBy (w.setCell ⟨p, o, none⟩ u) (some p) :=
  ⟨rfl, rfl, rfl, by simp [World.setCell], fun k _ hr => Below.heap_setCell _ _ _ _ (by simpa using hr)⟩

/-- What is written to one's own block alone, seen from below. -/
theorem below_of_grown {B p : Nat} {w w' : World} (h : w.grownBy w' (some p)) (hB : B ≤ p) (hs : B ≤ w.heap.size) : Below B w w' :=
  (Below.refl B w).grown h hs (fun k hk => by simp at hk; omega)

theorem row_set {w : World} {p i : Nat} {cs : Array Value} {t : TypeId} (h : w.heap[p]? = some (.cells cs t (0, 0))) (x : Value) : (w.setCell ⟨p, i, none⟩ x).heap[p]? = some (.cells (cs.setIfInBounds i x) t (0, 0)) :=
  Go.heap_setCell_same w p i cs t x h

theorem row_alloc {w : World} {p : Nat} {b o : Obj} (h : w.heap[p]? = some b) : (w.alloc o).heap[p]? = some b := by
  rw [Below.heap_alloc _ _ _ (Array.getElem?_eq_some_iff.1 h).1]; exact h

theorem row_frozen {w : World} {p i : Nat} {cs : Array Value} {t : TypeId} (h : w.heap[p]? = some (.cells cs t (0, 0))) : w.frozen? ⟨p, i, none⟩ = false := by simp [World.frozen?, h]

/-- All that lay in a world before is as it was. -/
theorem grown_of_below {w w' : World} (h : Below w.heap.size w w') : w.grownBy w' none := ⟨h.os, h.tape, h.output, h.size, fun k hk _ => h.block k hk⟩

theorem below_of_none {w w' : World} (h : w.grownBy w' none) : Below w.heap.size w w' := ⟨h.os, h.tape, h.output, h.size, fun k hk => h.block k hk (by simp)⟩

theorem Below.of_grown {B p : Nat} {w w' : World} (h : w.grownBy w' (some p)) (hB : B ≤ p) (hs : p < w.heap.size) : Below B w w' := below_of_grown h hB (by omega)

theorem below_drewN {B : Nat} {w w' : World} (h : Below B w w') (n : Nat) : Below B w (w'.drewN n) := by
  obtain ⟨h1, h2, h3, h4, h5⟩ := h
  exact ⟨h1, h2, h3, h4, h5⟩

theorem bytes_len (s : ByteArray) : s.data.toList.length = s.size := Array.length_toList

theorem byte_len (s : ByteArray) : s.data.toList.length = s.size := Array.length_toList

theorem extract_size (s : ByteArray) (k n : Nat) (h : k + n ≤ s.size) : (s.extract k (k + n)).size = n := by
  simp [ByteArray.size_extract]; omega

theorem extract_list (s : ByteArray) (k n : Nat) : (s.extract k (k + n)).data.toList = (s.data.toList.drop k).take n := by simp

theorem take_snoc (s : ByteArray) (k : Nat) (h : k < s.size) : s.data.toList.take (k + 1) = s.data.toList.take k ++ [s[k]'h] := by
  rw [List.take_succ_eq_append_getElem (by rw [byte_len]; exact h)]; rfl

/-- The slice v holds the numbers xs of kind k. -/
def NumRow (k : IntKind) (w : World) (v : Value) (xs : List Int) : Prop :=
  ∃ a c, v = .slice a xs.length c ∧ ((xs = []) ∨ ∃ b o, a = some ⟨b, o, none⟩ ∧ b < w.heap.size ∧ ∀ j, j < xs.length → w.cell? ⟨b, o + j, none⟩ = some (.int k (xs.getD j 0)))

theorem NumRow.at {k : IntKind} {w : World} {b o n c : Nat} {xs : List Int} (hb : b < w.heap.size) (hc : ∀ j, j < xs.length → w.cell? ⟨b, o + j, none⟩ = some (.int k (xs.getD j 0))) (hn : n = xs.length) :
    NumRow k w (.slice (some ⟨b, o, none⟩) n c) xs := ⟨_, c, by rw [hn], .inr ⟨b, o, rfl, hb, hc⟩⟩

theorem NumRow.made (k : IntKind) (w1 : World) (t : TypeId) (xs : List Int) (cs : Array Value) (hcs : cs = (xs.map (Value.int k)).toArray) (b n c : Nat) (hb : b = w1.heap.size) (hn : n = xs.length) :
    NumRow k (w1.alloc (.cells cs t)) (.slice (some ⟨b, 0, none⟩) n c) xs := by
  subst hb hcs
  refine NumRow.at (by simp) ?_ hn
  intro j hj
  rw [Nat.zero_add, cell_of_row _ _ _ _ _ _ (Go.heap_alloc_new _ _)]
  simp [List.getD, hj]

/-- The slice v holds the texts ss. -/
def StrRow (w : World) (v : Value) (ss : List ByteArray) : Prop :=
  ∃ a c, v = .slice a ss.length c ∧ ((ss = []) ∨ ∃ b o, a = some ⟨b, o, none⟩ ∧ b < w.heap.size ∧ ∀ j, j < ss.length → w.cell? ⟨b, o + j, none⟩ = some (.string (ss.getD j ByteArray.empty)))

theorem StrRow.kept {w w' : World} {v : Value} {ss : List ByteArray} (h : StrRow w v ss) (hb : Below w.heap.size w w') : StrRow w' v ss := by
  obtain ⟨a, c, hv, h⟩ := h
  refine ⟨a, c, hv, ?_⟩
  rcases h with h | ⟨b, o, ha, hlt, hc⟩
  · exact .inl h
  · exact .inr ⟨b, o, ha, Nat.lt_of_lt_of_le hlt hb.size, fun j hj => by rw [hb.cell hlt]; exact hc j hj⟩

theorem StrRow.made (w1 : World) (t : TypeId) (ss : List ByteArray) (cs : Array Value) (hcs : cs = (ss.map Value.string).toArray) (b n c : Nat) (hb : b = w1.heap.size) (hn : n = ss.length) :
    StrRow (w1.alloc (.cells cs t)) (.slice (some ⟨b, 0, none⟩) n c) ss := by
  subst hb hcs
  refine ⟨_, c, by rw [hn], .inr ⟨w1.heap.size, 0, rfl, by simp, ?_⟩⟩
  intro j hj
  rw [Nat.zero_add, cell_of_row _ _ _ _ _ _ (Go.heap_alloc_new _ _)]
  simp [List.getD, hj]

end Go.Proofs.YtfgfgdchaoekfaaGreatDoor

namespace Go.Proofs.YtfgfgdchaoekfaaGreatDoor
open Go.RowKit

set_option maxHeartbeats 400000 in
theorem stopped_no (p : Nat) (w : World) (h : w.cell? ⟨p, 1, none⟩ = some (.int .i64 0)) :
    Calls Tryz.prog 122 #[.pointer (some ⟨p, 0, none⟩)] w fun e w' => e = .returned (.bool false) ∧ w = w' := by
  go_enter Tryz.func122, Tryz.ntmps122
  go_wp2
  go_ret
  exact ⟨rfl, rfl⟩

set_option maxHeartbeats 400000 in
theorem stopped_yes (p : Nat) (bad : Int) (hb : (bad != 0) = true) (w : World) (h : w.cell? ⟨p, 1, none⟩ = some (.int .i64 bad)) :
    Calls Tryz.prog 122 #[.pointer (some ⟨p, 0, none⟩)] w fun e w' => e = .returned (.bool true) ∧ w = w' := by
  go_enter Tryz.func122, Tryz.ntmps122
  go_wp2
  go_ret
  exact ⟨rfl, rfl⟩

set_option maxHeartbeats 400000 in
theorem stop_no (p : Nat) (e0 : Int) (w : World) (h : w.cell? ⟨p, 1, none⟩ = some (.int .i64 0)) (hf : w.frozen? ⟨p, 1, none⟩ = false) :
    Calls Tryz.prog 126 #[.pointer (some ⟨p, 0, none⟩), .int .i64 e0] w fun e w' => e = .returned (.tuple #[]) ∧ Stored p 1 (.int .i64 e0) w w' := by
  go_enter Tryz.func126, Tryz.ntmps126
  go_wp2_with (go_at_call 122; refine (stopped_no p _ h).mono ?_; rintro e w' ⟨rfl, rfl⟩)
  go_end0
  exact ⟨rfl, rfl⟩

set_option maxHeartbeats 400000 in
theorem pass_any (p : Nat) (n k : Int) (w : World) (h : w.cell? ⟨p, 0, none⟩ = some (.int .i64 n)) (hf : w.frozen? ⟨p, 0, none⟩ = false)
    (h0 : 0 ≤ n) (h1 : 0 ≤ k) (h2 : n + k ≤ 4611686018427387904) :
    Calls Tryz.prog 129 #[.pointer (some ⟨p, 0, none⟩), .int .i64 k] w fun e w' => e = .returned (.tuple #[]) ∧ Stored p 0 (.int .i64 (n + k)) w w' := by
  go_enter Tryz.func129, Tryz.ntmps129
  go_wp2
  go_end0
  exact ⟨rfl, rfl⟩

end Go.Proofs.YtfgfgdchaoekfaaGreatDoor

namespace Go.Proofs.YtfgfgdchaoekfaaGreatDoor
open Go.RowKit Go.Lib

/-- The lowest k bytes of x, the lowest first. -/
def le : Nat → Nat → List UInt8
  | 0, _ => []
  | k + 1, x => UInt8.ofNat x :: le k (x / 256)

theorem le_length (k x : Nat) : (le k x).length = k := by
  induction k generalizing x with
  | zero => rfl
  | succ k ih => simp [le, ih]

theorem le_snoc (k x : Nat) : le (k + 1) x = le k x ++ [UInt8.ofNat (x / 256 ^ k)] := by
  induction k generalizing x with
  | zero => simp [le]
  | succ k ih =>
    rw [le, ih (x / 256), le, List.cons_append, Nat.div_div_eq_div_mul, Nat.pow_succ']

theorem append_text {ops : Array Oper} {rest : List Oper} {o : Oper} {a : Act} {Q : Exit → Act → World → Prop} {w : World} (hgd : o.guard = none) (sl x : Operand)
    (ho : o.op = .call { callee := .builtin .append, args := #[sl, x], argTypes := #[64, 9] })
    (B : Nat) (v : Value) (n : Nat) (xs : List Value) (hs : a.eval sl = v) (W0 : World) (hb : OwnBuf B 5 v n xs W0 w) (s : ByteArray) (hx : a.eval x = .string s) (hlen : n + s.size ≤ 140737488355328)
    (h : ∀ v' w', OwnBuf B 5 v' (n + s.size) (xs ++ strCells s) W0 w' → wpList Tryz.prog ops Q rest (a.put o.dst v') w') : wpList Tryz.prog ops Q (o :: rest) a w := by
  obtain ⟨i0, hi, hz0, hz1, hz2⟩ := info_parts (show (Tryz.prog.info? 5).map (fun i => (i.zero, i.size, i.bytes)) = some (some (.int .u8 0), 1, 1) by kernel_rfl)
  exact Lib.wpList_append_text hgd sl x 64 9 ho B 5 i0 Tryz.underlying64 Tryz.underlying9 hi hz0 hz1 hz2 v n xs hs W0 hb s hx hlen h

theorem append_byte {ops : Array Oper} {rest : List Oper} {o : Oper} {a : Act} {Q : Exit → Act → World → Prop} (hgd : o.guard = none) (sl x : Operand)
    (ho : o.op = .call { callee := .builtin .append, args := #[sl, x], argTypes := #[64, 64] })
    (B : Nat) (v : Value) (n : Nat) (xs : List Value) (hs : a.eval sl = v) (W0 w0 : World) (c : Int) (hb : OwnBuf B 5 v n xs W0 w0)
    (hx : a.eval x = .slice (some ⟨w0.heap.size, 0, none⟩) 1 1) (hlen : n + 1 ≤ 140737488355328)
    (h : ∀ v' w', OwnBuf B 5 v' (n + 1) (xs ++ [.int .u8 c]) W0 w' → wpList Tryz.prog ops Q rest (a.put o.dst v') w') : wpList Tryz.prog ops Q (o :: rest) a (w0.alloc (.cells #[.int .u8 c] 5)) := by
  obtain ⟨i0, hi, hz0, hz1, hz2⟩ := info_parts (show (Tryz.prog.info? 5).map (fun i => (i.zero, i.size, i.bytes)) = some (some (.int .u8 0), 1, 1) by kernel_rfl)
  exact Lib.wpList_append_byte hgd sl x 64 ho B 5 i0 Tryz.underlying64 hi hz0 hz1 hz2 v n xs hs W0 w0 c hb hx hlen h

theorem byteCells_snoc (l : List UInt8) (y : Nat) : Lib.byteCells (l ++ [UInt8.ofNat y]) = Lib.byteCells l ++ [Value.int .u8 ((y : Int) % 256)] := by
  simp [Lib.byteCells]

set_option maxHeartbeats 400000 in
theorem lay_any (B : Nat) (v : Value) (n : Nat) (xs : List Value) (W0 w : World) (k x : Nat) (hk : k ≤ 8) (hb : OwnBuf B 5 v n xs W0 w) (hn : n + 8 ≤ 140737488355328) :
    Calls Tryz.prog 121 #[v, .int .i64 k, .int .u64 (x : Nat)] w fun e w' => ∃ v', e = .returned v' ∧ OwnBuf B 5 v' (n + k) (xs ++ Lib.byteCells (le k x)) W0 w' := by
  go_enter Tryz.func121, Tryz.ntmps121
  go_wp2
  go_loopw [0, 2, 8] (fun b y i wr => ∃ (j : Nat) (a : Int), j ≤ k ∧ i = .int .i64 j ∧ y = .int .u64 a ∧ Hid (a = ((x / 256 ^ j : Nat) : Int)) ∧ OwnBuf B 5 b (n + j) (xs ++ Lib.byteCells (le j x)) W0 wr) (fun _ _ i _ => k - (intOf i).toNat)
  case atStart => exact ⟨0, x, Nat.zero_le _, rfl, rfl, by simp [Hid], by simpa [le, Lib.byteCells] using hb⟩
  case round =>
    obtain ⟨j, a, hj, rfl, rfl, hja, hbr⟩ := hrel
    by_cases hlt : j < k
    · go_wp2_with (at_builtin; refine append_byte rfl _ _ rfl B u0 (n + j) _ rfl W0 _ (a % 256) hbr rfl (by omega) ?_; intro b' w1 hb1)
      go_roundw
      case rel =>
        refine ⟨j + 1, _, by omega, by go_num, rfl, ?_, ?_⟩
        · have := hja.out
          subst this
          show ((x / 256 ^ j : Nat) : Int) / 256 = _
          rw [Nat.pow_succ, ← Nat.div_div_eq_div_mul]; omega
        · have := hja.out
          subst this
          rw [le_snoc, byteCells_snoc]
          rw [← List.append_assoc]
          exact hb1
      case measure => simp [intOf]; omega
    · go_wp2
      go_ret
      have : j = k := by omega
      subst this
      exact ⟨_, rfl, hbr⟩

end Go.Proofs.YtfgfgdchaoekfaaGreatDoor

namespace Go.Proofs.YtfgfgdchaoekfaaGreatDoor
open Go.RowKit Go.Lib

theorem zeroCells_one (k : Nat) : Builtin.zeroCells (Value.int .u8 0).cells k = (Lib.byteCells (List.replicate k 0)).toArray := by
  apply Array.ext'
  simp only [Builtin.zeroCells, Lib.byteCells]
  have h1 : (Value.int IntKind.u8 0).cells = #[Value.int .u8 0] := rfl
  rw [h1]
  apply List.ext_getElem
  · simp
  · intro i h1 h2
    simp [Nat.mod_one]

section
variable {P : Program}

theorem run_append_room_zeros (w : World) (t tn ty e : TypeId) (i : TypeInfo) (kq kn : IntKind) (ht : P.underlying t = some (.slice e)) (htn : P.underlying tn = some (.int kn)) (hi : P.info? e = some i) (hz : i.zero = some (.int .u8 0)) (hs1 : i.size = 1) (hb1 : i.bytes = 1)
    (g sLen sCap : Nat) (cur : Array Value) (fz : Nat × Nat) (hg : w.heap[g]? = some (.cells cur e fz)) (hfz : fz.2 ≤ sLen) (k : Nat) (hk : k ≤ 1000000)
    (hroom : sLen + k ≤ sCap) (hfit : sLen + k ≤ cur.size) :
    (Builtin.append_ #[t, tn] ty #[.slice (some ⟨g, 0, none⟩) sLen sCap, .int kq k]).run P w =
      .ok (.slice (some ⟨g, 0, none⟩) (sLen + k) sCap) (w.setRow g (cur.toList.take sLen ++ Lib.byteCells (List.replicate k 0) ++ cur.toList.drop (sLen + k)).toArray) := by
  have hw : IntKind.i64.wrap (k : Int) = k := by rw [IntKind.wrap_i64]; omega
  have hneg : ¬ ((k : Int) < 0) := by omega
  have h48i : ¬ (281474976710656 < (k : Int)) := by omega
  have hst := run_storeCells_atF P g sLen e fz (Lib.byteCells (List.replicate k 0)) 0 cur w hg (by simpa using hfz) (by simpa [Lib.byteCells] using hfit) (by intro v hv; simp [Lib.byteCells] at hv; rw [hv.2]; rfl)
  have hl : (Lib.byteCells (List.replicate k 0)).length = k := by simp [Lib.byteCells]
  simp only [Nat.add_zero, hl] at hst
  have hzc := zeroCells_one k
  by_cases h0 : k = 0
  · subst h0
    have hw0 : IntKind.i64.wrap 0 = 0 := by decide
    simp at hroom
    simp [Lib.byteCells] at hst
    simp [Builtin.append_, run_underlying ht, run_underlying htn, sizeOf, typeInfo, asInt, asIntOf, hi, hs1, hb1, hw0, hroom, Addr.add_lit, hst, Lib.byteCells]
  · simp [Builtin.append_, run_underlying ht, run_underlying htn, sizeOf, typeInfo, zeroValue, asInt, asIntOf, hi, hz, hs1, hb1, hw, hneg, h48i, h0, hroom, Addr.add_lit, hzc, hst]

theorem append_zeros_law {ops : Array Oper} {rest : List Oper} {o : Oper} {a : Act} {Q : Exit → Act → World → Prop} {w : World} (hgd : o.guard = none) (sl x : Operand) (t tn : TypeId)
    (ho : o.op = .call { callee := .builtin .append, args := #[sl, x], argTypes := #[t, tn] })
    (B : Nat) (e : TypeId) (i : TypeInfo) (kn : IntKind) (ht : P.underlying t = some (.slice e)) (hu : P.underlying tn = some (.int kn)) (hi : P.info? e = some i) (hz : i.zero = some (.int .u8 0)) (hsize : i.size = 1) (hby : i.bytes = 1)
    (v : Value) (n : Nat) (hn : 0 < n) (xs : List Value) (hs : a.eval sl = v) (W0 : World) (hb : OwnBuf B e v n xs W0 w) (kq : IntKind) (k : Nat) (hk : k ≤ 1000000) (hx : a.eval x = .int kq k) (hlen : n + k ≤ 140737488355328)
    (h : ∀ v' w', OwnBuf B e v' (n + k) (xs ++ Lib.byteCells (List.replicate k 0)) W0 w' → wpList P ops Q rest (a.put o.dst v') w') : wpList P ops Q (o :: rest) a w := by
  refine wpList_plain hgd fun K hK => ?_
  have key : ∃ v' w', (Builtin.append_ #[t, tn] o.type #[v, .int kq k]).run P w = .ok v' w' ∧ w'.ownsRowF B e 1 v' (n + k) (xs ++ Lib.byteCells (List.replicate k 0)) ∧ w.grownBy w' v.ownBlock := by
    have hown := hb.1
    rcases hown.2 with ⟨rfl, h0⟩ | ⟨g, cap, cur, fz, rfl, hbg, hg, hfz, hnc, hcm, hcs, htake⟩
    · omega
    · have hxl : xs.length = n := by simpa using hown.1
      have hzl : (Lib.byteCells (List.replicate k 0)).length = k := by simp [Lib.byteCells]
      have hl2 : (xs ++ Lib.byteCells (List.replicate k 0)).length = (n + k) * 1 := by rw [List.length_append, hxl, hzl, Nat.mul_one]
      by_cases hroom : n + k ≤ cap
      · have hcs' : cur.size = cap := by simpa using hcs
        have hr := run_append_room_zeros (P := P) w t tn o.type e i kq kn ht hu hi hz hsize hby g n cap cur fz hg (by simpa using hfz) k hk hroom (by omega)
        refine ⟨_, _, hr, ⟨hl2, .inr ⟨g, cap, _, fz, rfl, hbg, setRow_heap w g cur _ e _ hg, by omega, hroom, hcm, ?_, ?_⟩⟩, ⟨rfl, rfl, rfl, by simp, fun k _ hk => setRow_other w g k _ (fun e => hk (by simp [Value.ownBlock, e]))⟩⟩
        · simp only [List.size_toArray, List.length_append, List.length_take, List.length_drop, Array.length_toList, hzl]
          omega
        · have ht' : cur.toList.take n = xs := by simpa using htake
          rw [ht', ← hl2]
          exact List.take_left
      · have holds : ∀ j u, xs[j]? = some u → w.cell? ((⟨g, 0, none⟩ : Addr).add j) = some u := hown.cells (g := g) rfl
        have hfo := run_firstCells_some (P := P) w.drew i.size n ⟨g, 0, none⟩ n cap xs (by rw [hsize]; omega) (by simpa using holds)
        have hr := run_append_grow_zeros (P := P) w t tn o.type e i (.int .u8 0) kq kn ht hu hi hz (some ⟨g, 0, none⟩) n cap xs hfo k (by omega) (by omega) (by omega) (by omega) (by rw [hby]; omega) (by rw [hby]; exact growslice_fits (by omega) (by omega))
        have hge := grownCap_ge w (n + k) cap e
        have hcm2 : grownCap w (n + k) cap e ≤ maxLen := grownCap_le_maxLen w (n + k) cap e (by unfold maxLen; omega)
        refine ⟨_, _, hr, ⟨hl2, .inr ⟨w.heap.size, _, _, (0, 0), rfl, hb.2.2, Go.heap_alloc_new w.drew _, Nat.zero_le _, hge, hcm2, ?_, ?_⟩⟩, ⟨rfl, rfl, rfl, by simp, fun q hq _ => Below.heap_alloc w.drew _ q hq⟩⟩
        · have hz1 : (Value.int IntKind.u8 0).cells.size = 1 := rfl
          simp only [Array.size_append, List.size_toArray, size_zeroCells, hz1, hxl]
          omega
        · rw [zeroCells_one k]
          simp only [Array.toList_append, List.append_assoc]
          rw [← List.append_assoc, ← hl2]
          exact List.take_left
  obtain ⟨v', w', hr, h2, h3⟩ := key
  unfold Oper.wp execOp
  simp only [ho, resolve, invoke, builtin, Sem.run_bind, Sem.run_pure, Result.andThen_ok, List.map_toArray, List.map_cons, List.map_nil, hs, hx, hr]
  exact hK _ _ (h v' w' (hb.grown h2 h3))
end

theorem append_zeros {ops : Array Oper} {rest : List Oper} {o : Oper} {a : Act} {Q : Exit → Act → World → Prop} {w : World} (hgd : o.guard = none) (sl x : Operand)
    (ho : o.op = .call { callee := .builtin .append, args := #[sl, x], argTypes := #[64, 3] })
    (B : Nat) (v : Value) (n : Nat) (hn : 0 < n) (xs : List Value) (hs : a.eval sl = v) (W0 : World) (hb : OwnBuf B 5 v n xs W0 w) (z : Int) (k : Nat) (hzk : z = k) (hk : k ≤ 1000000) (hx : a.eval x = .int .i64 z) (hlen : n + k ≤ 140737488355328)
    (h : ∀ v' w', OwnBuf B 5 v' (n + k) (xs ++ Lib.byteCells (List.replicate k 0)) W0 w' → wpList Tryz.prog ops Q rest (a.put o.dst v') w') : wpList Tryz.prog ops Q (o :: rest) a w := by
  obtain ⟨i0, hi, hz0, hz1, hz2⟩ := info_parts (show (Tryz.prog.info? 5).map (fun i => (i.zero, i.size, i.bytes)) = some (some (.int .u8 0), 1, 1) by kernel_rfl)
  exact append_zeros_law hgd sl x 64 3 ho B 5 i0 .i64 Tryz.underlying64 Tryz.underlying3 hi hz0 hz1 hz2 v n hn xs hs W0 hb .i64 k hk (by rw [hx, hzk]) hlen h

end Go.Proofs.YtfgfgdchaoekfaaGreatDoor

namespace Go.Proofs.YtfgfgdchaoekfaaGreatDoor
open Go.RowKit Go.Lib

/-- The cells of a list, each element's as enc says. -/
def flat {α : Type} (enc : α → List Value) (l : List α) : List Value := l.flatMap enc

section
variable {α : Type} {enc : α → List Value} {s : Nat}

theorem flat_append (a b : List α) : flat enc (a ++ b) = flat enc a ++ flat enc b := by simp [flat]

theorem flat_one (a : α) : flat enc [a] = enc a := by simp [flat]

theorem flat_length (h : ∀ x, (enc x).length = s) (l : List α) : (flat enc l).length = l.length * s := by
  induction l with
  | nil => simp [flat]
  | cons a l ih =>
    have e : flat enc (a :: l) = enc a ++ flat enc l := rfl
    rw [e, List.length_append, ih, h, List.length_cons, Nat.add_mul, Nat.one_mul, Nat.add_comm]

theorem flat_at (h : ∀ x, (enc x).length = s) (l : List α) (j : Nat) (x : α) (hx : l[j]? = some x) (i : Nat) (hi : i < s) : (flat enc l)[j * s + i]? = (enc x)[i]? := by
  induction l generalizing j with
  | nil => simp at hx
  | cons a l ih =>
    have e : flat enc (a :: l) = enc a ++ flat enc l := rfl
    rw [e]
    match j with
    | 0 =>
      simp at hx
      subst hx
      rw [Nat.zero_mul, Nat.zero_add, List.getElem?_append_left (by rw [h]; exact hi)]
    | j + 1 =>
      have e2 : (j + 1) * s + i = s + (j * s + i) := by rw [Nat.add_mul, Nat.one_mul]; omega
      rw [e2, List.getElem?_append_right (by rw [h]; omega), h]
      have e3 : s + (j * s + i) - s = j * s + i := by omega
      rw [e3]
      exact ih j (by simpa using hx)

theorem flat_ones (h : ∀ x, ∀ u ∈ enc x, u.oneCell' = true) (l : List α) : ∀ u ∈ flat enc l, u.oneCell' = true := by
  intro u hu
  obtain ⟨x, _, hx⟩ := List.mem_flatMap.1 hu
  exact h x u hx

end

end Go.Proofs.YtfgfgdchaoekfaaGreatDoor
