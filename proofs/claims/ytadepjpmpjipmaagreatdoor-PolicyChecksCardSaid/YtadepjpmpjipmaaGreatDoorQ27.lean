/-
  A bundle of texts: PED PEM PER PET PEF.
-/
import Derived.Deep.QuietTactic
import Derived.BigQuiet
import Derived.Deep.RegionHeld3
import Derived.Test.YtadepjpmpjipmaaGreatDoorQ15
import Derived.Test.YtadepjpmpjipmaaGreatDoorQ18
import Derived.Test.YtadepjpmpjipmaaGreatDoorQ26
import Derived.Test.YtadepjpmpjipmaaGreatDoorQ06
import Derived.Test.YtadepjpmpjipmaaGreatDoorQ09
/-
  The landed package policy: headForm, tierForm, printLine.
-/
namespace Go.Proofs.YtadepjpmpjipmaaGreatDoor
open Go.RowKit Go.Lib

/-- The slice v of one's own holds the words ss, and no more. -/
def Form (B : Nat) (w : World) (v : Value) (ss : List ByteArray) : Prop := ∃ g, v = .slice (some ⟨g, 0, none⟩) ss.length ss.length ∧ B ≤ g ∧ g < w.heap.size ∧ Cells w g 0 (ss.map Value.string)

def tPolicy : ByteArray := ⟨#[112, 111, 108, 105, 99, 121]⟩
def tTier : ByteArray := ⟨#[116, 105, 101, 114]⟩
def tEvery : ByteArray := ⟨#[101, 118, 101, 114, 121]⟩
def tKeep : ByteArray := ⟨#[107, 101, 101, 112]⟩
def tShards : ByteArray := ⟨#[115, 104, 97, 114, 100, 115]⟩

theorem Form.row {B : Nat} {w : World} {v : Value} {ss : List ByteArray} (h : Form B w v ss) : CellRow w v ss.length (ss.map Value.string) := by
  obtain ⟨g, rfl, _, hl, hc⟩ := h
  exact ⟨_, _, rfl, .inr ⟨g, 0, rfl, hl, hc⟩⟩

theorem Form.kept {B : Nat} {w w' : World} {v : Value} {ss : List ByteArray} (h : Form B w v ss) (b : Below w.heap.size w w') : Form B w' v ss := by
  obtain ⟨g, rfl, h1, hl, hc⟩ := h
  exact ⟨g, rfl, h1, Nat.lt_of_lt_of_le hl b.size, hc.kept b hl⟩

theorem form_made (w : World) (ss : List ByteArray) (cs : Array Value) (h : cs.toList = ss.map Value.string) (t : TypeId) : Form w.heap.size (w.alloc (.cells cs t)) (.slice (some ⟨w.heap.size, 0, none⟩) ss.length ss.length) ss := by
  refine ⟨_, rfl, Nat.le_refl _, by simp, fun j u hj => ?_⟩
  rw [Nat.zero_add, World.cell?_alloc_new, ← Array.getElem?_toList, h]
  exact hj

set_option maxHeartbeats 400000 in
theorem headForm_any (s : ByteArray) (w : World) :
    Calls Tryz.prog 24 #[.string s] w fun e w' => ∃ v, e = .returned v ∧ Form w.heap.size w' v [tPolicy, s] ∧ Below w.heap.size w w' := by
  go_enter Tryz.func24, Tryz.ntmps24
  go_wp2
  go_ret
  exact ⟨_, rfl, form_made w [tPolicy, s] _ rfl _, (Below.refl _ _).alloc (Nat.le_refl _) _⟩

set_option maxHeartbeats 400000 in
theorem tierForm_any (a b c d : ByteArray) (w : World) :
    Calls Tryz.prog 25 #[.string a, .string b, .string c, .string d] w fun e w' => ∃ v, e = .returned v ∧ Form w.heap.size w' v [tTier, a, tEvery, b, tKeep, c, tShards, d] ∧ Below w.heap.size w w' := by
  go_enter Tryz.func25, Tryz.ntmps25
  go_wp2
  go_ret
  exact ⟨_, rfl, form_made w [tTier, a, tEvery, b, tKeep, c, tShards, d] _ rfl _, (Below.refl _ _).alloc (Nat.le_refl _) _⟩

theorem join_line : ∀ l : List (List UInt8), Lib.join l [32] = oneLine l
  | [] => rfl
  | [x] => by rw [Lib.join_one]; rfl
  | x :: y :: r => by
    have h := join_line (y :: r)
    rw [Lib.join_cons] at h ⊢
    show x ++ Lib.joinTail [32] (y :: r) = x ++ 32 :: oneLine (y :: r)
    rw [← h]
    simp [Lib.joinTail]

set_option maxHeartbeats 400000 in
theorem printLine_any (B : Nat) (v : Value) (ss : List ByteArray) (w : World) (hv : Form B w v ss) (hs : (oneLine (ss.map (·.data.toList))).length ≤ 1000) (hn : ss.length ≤ 1000) :
    Calls Tryz.prog 23 #[v] w fun e w' => ∃ s : ByteArray, e = .returned (.string s) ∧ Hid (s.data.toList = oneLine (ss.map (·.data.toList)) ++ [10]) ∧ Below w.heap.size w w' := by
  obtain ⟨g, rfl, hB, hl, hc⟩ := hv
  have HC := Hid.of hc
  have HL := Hid.of hl
  have HS := Hid.of hs
  have HN := Hid.of hn
  obtain ⟨j, hj⟩ : ∃ j : ByteArray, ⟨(Lib.join (ss.map (·.data.toList)) (⟨#[32]⟩ : ByteArray).data.toList).toArray⟩ = j := ⟨_, rfl⟩
  have hjl : j.data.toList = oneLine (ss.map (·.data.toList)) := by
    rw [← hj]
    exact (List.toList_toArray ..).trans (join_line _)
  have hjs : j.size ≤ 1000 := by rw [← byte_len, hjl]; exact hs
  have HJ := Hid.of hj
  have HJL := Hid.of hjl
  have hcat := fun w => run_string_add_sum (P := Tryz.prog) (w := w) j ⟨#[10]⟩ (by have : (⟨#[10]⟩ : ByteArray).size = 1 := rfl; omega)
  obtain ⟨z, hz⟩ : ∃ z : ByteArray, z = j ++ ⟨#[10]⟩ := ⟨_, rfl⟩
  rw [← hz] at hcat
  have HZ := Hid.of hz
  clear hc hl hs hn hj hjl hjs hz
  go_enter Tryz.func23, Tryz.ntmps23
  go_wp2_with fail
  refine (Tryz.strings_Join g 0 ss.length ss ⟨#[32]⟩ _ (fun k x hk => HC.out k _ (by rw [List.getElem?_map, hk]; rfl)) HL.out (by have := HN.out; omega) (Nat.le_refl _) (by
    have := HS.out
    rw [show (⟨#[32]⟩ : ByteArray).data.toList = [32] from rfl, join_line]
    omega)).mono ?_
  rintro e w2 ⟨rfl, b2⟩
  rw [HJ.out]
  have B2 := Hid.of b2
  clear b2
  go_wp2
  go_ret
  refine ⟨z, rfl, Hid.of ?_, B2.out⟩
  rw [HZ.out, append_list, HJL.out]

end Go.Proofs.YtadepjpmpjipmaaGreatDoor

/-
  The landed package policy: numbers.
-/
namespace Go.Proofs.YtadepjpmpjipmaaGreatDoor
open Go.RowKit Go.Lib

/-- The numbers that words are. -/
def nums : List ByteArray → Option (List Int)
  | [] => some []
  | s :: r => (pNum s.data.toList).bind fun v => (nums r).map (v :: ·)

theorem nums_append : ∀ a b : List ByteArray, nums (a ++ b) = (nums a).bind fun x => (nums b).map (x ++ ·)
  | [], b => by simp [nums]
  | s :: a, b => by
    rw [List.cons_append, nums, nums, nums_append a b]
    cases pNum s.data.toList with
    | none => rfl
    | some v =>
      cases nums a with
      | none => rfl
      | some x => cases nums b <;> rfl

theorem nums_one (s : ByteArray) : nums [s] = (pNum s.data.toList).map fun v => [v] := by
  unfold nums
  cases pNum s.data.toList <;> rfl

theorem nums_next {ss : List ByteArray} {j : Nat} {x : List Int} {s : ByteArray} {v : Int} (h : nums (ss.take j) = some x) (hs : ss[j]? = some s) (hv : pNum s.data.toList = some v) : nums (ss.take (j + 1)) = some (x ++ [v]) := by
  rw [List.take_add_one, hs, nums_append, h]
  show (nums [s]).map (x ++ ·) = _
  rw [nums_one, hv]
  rfl

theorem nums_stop {ss : List ByteArray} {j : Nat} {s : ByteArray} (hs : ss[j]? = some s) (hv : pNum s.data.toList = none) : nums ss = none := by
  have e : ss = ss.take j ++ (s :: ss.drop (j + 1)) := by
    obtain ⟨h, e⟩ := List.getElem?_eq_some_iff.1 hs
    have := List.drop_eq_getElem_cons h
    rw [e] at this
    rw [← this, List.take_append_drop]
  rw [e, nums_append]
  have : nums (s :: ss.drop (j + 1)) = none := by
    unfold nums
    rw [hv]
    rfl
  rw [this]
  cases nums (ss.take j) <;> rfl

theorem nums_len : ∀ {ss : List ByteArray} {x : List Int}, nums ss = some x → x.length = ss.length
  | [], x, h => by
    simp only [nums, Option.some.injEq] at h
    rw [← h]
    rfl
  | s :: r, x, h => by
    rw [nums] at h
    cases hp : pNum s.data.toList with
    | none => rw [hp] at h; cases h
    | some v =>
      rw [hp] at h
      cases hr : nums r with
      | none => rw [hr] at h; cases h
      | some y =>
        rw [hr] at h
        simp at h
        rw [← h, List.length_cons, List.length_cons, nums_len hr]

/-- What numbers answers. -/
def NumsEnd (ss : List ByteArray) (w : World) (e : Ending) (w' : World) : Prop :=
  Below w.heap.size w w' ∧ match nums ss with
    | some ns => ∃ u, e = .returned (.tuple #[u, .bool true]) ∧ w'.ownsRow w.heap.size 3 1 u ns.length (ns.map (Value.int .i64))
    | none => e = .returned (.tuple #[.slice none 0 0, .bool false])

theorem int_cells (w : World) (x : Int) : Cells (w.alloc (.cells #[.int .i64 x] 3)) w.heap.size 0 [.int .i64 x] := one_cell w _ _

theorem number_at {s : ByteArray} {a b : Int} (h : number s.data.toList = (a, b)) (hs : s.size ≤ 1000000) (w : World) (hn : Hid (Nums w)) :
    Calls Tryz.prog 122 #[.string s] w fun e w' => e = .returned (.tuple #[.int .i64 a, .int .i64 b]) ∧ Below w.heap.size w w' := by
  have := Number_any s hs w (Hid.of hn.out.tab) (Hid.of hn.out.errs)
  rw [h] at this
  exact this

set_option maxRecDepth 20000 in
set_option maxHeartbeats 1600000 in
theorem numbers_any (v : Value) (ss : List ByteArray) (w : World) (hN : Nums w) (hv : CellRow w v ss.length (ss.map Value.string)) (hn : ss.length ≤ 1000) (hs : ∀ s ∈ ss, s.size ≤ 1000000) :
    Calls Tryz.prog 113 #[v] w (NumsEnd ss w) := by
  have HV := Hid.of hv
  have HS := Hid.of hs
  have HNU := Hid.of hN
  obtain ⟨va, vc, rfl, _⟩ := hv
  obtain ⟨i0, hi, hz0, hz1, hz2⟩ := info_parts (show (Tryz.prog.info? 3).map (fun i => (i.zero, i.size, i.bytes)) = some (some (.int .i64 0), 1, 8) by kernel_rfl)
  have HI := Hid.of hi
  have HZ0 := Hid.of hz0
  have HZ1 := Hid.of hz1
  have HZ2 := Hid.of hz2
  clear hs hN hi hz0 hz1 hz2
  go_enter Tryz.func113, Tryz.ntmps113
  go_wp2
  go_loopw [4, 11] (fun lv iv wr => ∃ (j : Nat) (ns : List Int), j ≤ ss.length ∧ iv = .int .i64 j ∧ Hid (nums (ss.take j) = some ns) ∧ Hid (ns.length = j) ∧ Hid (wr.ownsRow w.heap.size 3 1 lv j (ns.map (Value.int .i64))) ∧ Hid (Below w.heap.size w wr)) (fun _ iv _ => ss.length - (RowKit.intOf iv).toNat)
  case atStart => exact ⟨0, [], Nat.zero_le _, rfl, Hid.of rfl, Hid.of rfl, Hid.of (World.ownsRow_nil _ _ _ 1), Hid.of (Below.refl _ _)⟩
  case round =>
    obtain ⟨j, ns, hj, rfl, E, L, O, B⟩ := hrel
    have i0' : (0 : Int) ≤ (j : Int) := Int.natCast_nonneg _
    by_cases hlt : j < ss.length
    · obtain ⟨s, hs⟩ : ∃ s, ss[j]? = some s := ⟨_, List.getElem?_eq_getElem hlt⟩
      obtain ⟨b1, o1, rfl, hl1, hc1⟩ := str_get0 (HV.out.kept B.out) j s hs
      have hsz := HS.out s (List.mem_of_getElem? hs)
      have HSZ := Hid.of hsz
      have HX := Hid.of hs
      have i1 : (j : Int) < (ss.length : Int) := by omega
      have N1 : Hid (Nums wr) := Hid.of (HNU.out.kept B.out)
      clear hs hsz hl1
      cases hp : pNum s.data.toList with
      | none =>
        have hnum : number s.data.toList = (0, 1) := by rw [number_pNum, hp]
        have ST := Hid.of (nums_stop HX.out hp)
        have HNM := Hid.of hnum
        clear hp hnum
        go_wp2_with fail
        refine (number_at HNM.out HSZ.out _ N1).mono ?_
        rintro e w2 ⟨rfl, b2⟩
        have B2 := Hid.of (B.out.trans (b2.mono B.out.size))
        clear b2
        go_wp2
        go_ret2
        unfold NumsEnd
        rw [ST.out]
        exact ⟨B2.out, rfl⟩
      | some x =>
        have hnum : number s.data.toList = (x, 0) := by rw [number_pNum, hp]
        have NX := Hid.of (nums_next E.out HX.out hp)
        have HNM := Hid.of hnum
        clear hp hnum
        go_wp2_with fail
        refine (number_at HNM.out HSZ.out _ N1).mono ?_
        rintro e w2 ⟨rfl, b2⟩
        have B2 := Hid.of (B.out.trans (b2.mono B.out.size))
        have O2 := Hid.of ((Step.of_below (F := fun _ => False) b2).own O.out (fun _ _ c => c))
        clear b2
        go_wp2_with (at_builtin; refine append_row_law rfl _ _ 89 rfl w.heap.size 3 i0 (.int .i64 0) 1 8 Tryz.underlying89 HI.out HZ0.out HZ1.out HZ2.out rfl (by decide) _ j _ rfl (O2.out.alloc _) (.slice (some ⟨w2.heap.size, 0, none⟩) 1 1) 1 [.int .i64 x] rfl ⟨_, _, rfl, .inr ⟨_, 0, rfl, by simp, int_cells w2 x⟩⟩ rfl (by simp [Value.oneCell']) (by unfold maxLen; omega) (by omega) (by simp; have := B2.out.size; omega) ?_; intro v3 w3 o3 g3; have O3 : Hid (w3.ownsRow w.heap.size 3 1 v3 (j + 1) ((ns ++ [x]).map (Value.int .i64))) := Hid.of (by rw [List.map_append]; exact o3); have B3 := Hid.of ((B2.out.alloc B2.out.size _).grown g3 (by have := B2.out.size; simp; omega) (fun k hk => own_ge O2.out hk)); clear o3 g3)
        go_roundw
        case rel => exact ⟨j + 1, ns ++ [x], by omega, by go_num, NX, Hid.of (by rw [List.length_append, L.out]; rfl), O3, B3⟩
        case measure => simp [RowKit.intOf]; omega
    · have hjl : j = ss.length := by omega
      have HE : Hid (nums ss = some ns) := Hid.of (by
        have := E.out
        rw [hjl, List.take_length] at this
        exact this)
      clear hjl
      go_wp2
      go_ret2
      unfold NumsEnd
      rw [HE.out]
      exact ⟨B.out, _, rfl, by rw [L.out]; exact O.out⟩

end Go.Proofs.YtadepjpmpjipmaaGreatDoor

/-
  The landed package policy: readLine.
-/
namespace Go.Proofs.YtadepjpmpjipmaaGreatDoor
open Go.RowKit Go.Lib

/-- A word against a form's: taken, as it is, or neither. -/
def fillOne (f x : ByteArray) : Option (List ByteArray) := if f.size = 0 then some [x] else if f = x then some [] else none

/-- The words where the form is open. -/
def fill : List ByteArray → List ByteArray → Option (List ByteArray)
  | [], [] => some []
  | f :: fs, x :: xs => (fillOne f x).bind fun a => (fill fs xs).map (a ++ ·)
  | _, _ => none

theorem fill_append : ∀ (a c b d : List ByteArray), a.length = c.length → fill (a ++ b) (c ++ d) = (fill a c).bind fun u => (fill b d).map (u ++ ·)
  | [], [], b, d, _ => by simp [fill]
  | f :: a, x :: c, b, d, h => by
    rw [List.cons_append, List.cons_append, fill, fill, fill_append a c b d (by simpa using h)]
    cases fillOne f x with
    | none => rfl
    | some u =>
      cases fill a c with
      | none => rfl
      | some v => cases fill b d <;> simp
  | [], _ :: _, _, _, h => by simp at h
  | _ :: _, [], _, _, h => by simp at h

theorem fill_one (f x : ByteArray) : fill [f] [x] = fillOne f x := by
  unfold fill fill
  cases fillOne f x <;> simp

theorem fill_len : ∀ (a c u : List ByteArray), fill a c = some u → a.length = c.length
  | [], [], _, _ => rfl
  | f :: a, x :: c, u, h => by
    rw [fill] at h
    cases hf : fillOne f x with
    | none => rw [hf] at h; cases h
    | some v =>
      rw [hf] at h
      cases hr : fill a c with
      | none => rw [hr] at h; cases h
      | some y => rw [List.length_cons, List.length_cons, fill_len a c y hr]
  | [], _ :: _, _, h => by simp [fill] at h
  | _ :: _, [], _, h => by simp [fill] at h

theorem fill_next {ss xs u v : List ByteArray} {j : Nat} {f x : ByteArray} (h : fill (ss.take j) (xs.take j) = some u) (hs : ss[j]? = some f) (hx : xs[j]? = some x) (ho : fillOne f x = some v) : fill (ss.take (j + 1)) (xs.take (j + 1)) = some (u ++ v) := by
  rw [List.take_add_one, List.take_add_one, hs, hx, Option.toList_some, Option.toList_some, fill_append _ _ _ _ (fill_len _ _ _ h), h]
  show (fill [f] [x]).map (u ++ ·) = _
  rw [fill_one, ho]
  rfl

theorem fill_stop {ss xs u : List ByteArray} {j : Nat} {f x : ByteArray} (h : fill (ss.take j) (xs.take j) = some u) (hs : ss[j]? = some f) (hx : xs[j]? = some x) (ho : fillOne f x = none) : fill ss xs = none := by
  have cut : ∀ {l : List ByteArray} {y : ByteArray}, l[j]? = some y → l = l.take j ++ (y :: l.drop (j + 1)) := fun {l y} hy => by
    obtain ⟨hlt, e⟩ := List.getElem?_eq_some_iff.1 hy
    have := List.drop_eq_getElem_cons hlt
    rw [e] at this
    rw [← this, List.take_append_drop]
  rw [cut hs, cut hx, fill_append _ _ _ _ (fill_len _ _ _ h), h]
  have : fill (f :: ss.drop (j + 1)) (x :: xs.drop (j + 1)) = none := by
    rw [fill, ho]
    rfl
  rw [this]
  rfl

theorem wdr_three (x : WdL) : (wdRow x).length = 3 := rfl

theorem wd_at {w : World} {a : Option Addr} {n c : Nat} {ws : List WdL} (h : CellRow w (.slice a n c) n (flat wdRow ws)) (j : Nat) (x : WdL) (hx : ws[j]? = some x) : ∃ b o, a = some ⟨b, o, none⟩ ∧ b < w.heap.size ∧ w.cell? ⟨b, o + j * 3, none⟩ = some (.string x.1) ∧ w.cell? ⟨b, o + j * 3 + 1, none⟩ = some (.int .i64 x.2.1) ∧ w.cell? ⟨b, o + j * 3 + 2, none⟩ = some (.int .i64 x.2.2) := by
  obtain ⟨a', c', hv, h⟩ := h
  cases hv
  rcases h with h | ⟨b, o, ha, hl, hc⟩
  · have h1 := flat_at wdr_three ws j x hx 0 (by decide)
    rw [h] at h1
    simp [wdRow] at h1
  · refine ⟨b, o, ha, hl, ?_, ?_, ?_⟩
    · exact hc (j * 3 + 0) _ ((flat_at wdr_three ws j x hx 0 (by decide)).trans rfl)
    · exact hc (j * 3 + 1) _ ((flat_at wdr_three ws j x hx 1 (by decide)).trans rfl)
    · exact hc (j * 3 + 2) _ ((flat_at wdr_three ws j x hx 2 (by decide)).trans rfl)

/-- The words of the next line. -/
def lineOf (l : List WdL) : List ByteArray := (l.take (wLine l)).map (·.1)

/-- What readLine answers. -/
def LineEnd (S : WordSpec) (ss : List ByteArray) (p : Nat) (l : List WdL) (F : Nat → Prop) (w : World) (e : Ending) (w' : World) : Prop :=
  (∃ F', S.Rep w' p (l.drop (wLine l)) F' ∧ Step F F' w w' ∧ ∀ k, F' k → F k) ∧ match fill ss (lineOf l) with
    | some xs => ∃ u, e = .returned (.tuple #[u, .bool true]) ∧ w'.ownsRow w.heap.size 9 1 u xs.length (xs.map Value.string)
    | none => e = .returned (.tuple #[.slice none 0 0, .bool false])

theorem line_len (l : List WdL) : (lineOf l).length = wLine l := by
  have h : wLine l ≤ l.length := by
    cases l with
    | nil => exact Nat.le_refl _
    | cons x r => exact (List.takeWhile_sublist _).length_le
  unfold lineOf
  rw [List.length_map, List.length_take, Nat.min_eq_left h]

theorem wline_le (l : List WdL) : wLine l ≤ l.length := by
  cases l with
  | nil => exact Nat.le_refl _
  | cons x r => exact (List.takeWhile_sublist _).length_le

theorem text_zero {s : ByteArray} (h : s.size = 0) : s.toList.isEmpty = true := by
  rw [ByteArray.toList_eq, List.isEmpty_iff]
  exact List.eq_nil_of_length_eq_zero (by rw [byte_len]; exact h)

theorem text_pos {s : ByteArray} (h : ¬ s.size = 0) : s.toList.isEmpty = false := by
  rw [ByteArray.toList_eq, List.isEmpty_eq_false_iff]
  intro e
  exact h (by rw [← byte_len, e]; rfl)

theorem str_cells (w : World) (s : ByteArray) : Cells (w.alloc (.cells #[.string s] 9)) w.heap.size 0 [.string s] := one_cell w _ _

set_option maxRecDepth 20000 in
set_option maxHeartbeats 3200000 in
theorem readLine_any (S : WordSpec) {w : World} {p : Nat} {l : List WdL} {F : Nat → Prop} (hR : S.Rep w p l F) (hl : l.length ≤ 4000) (v : Value) (ss : List ByteArray) (hv : CellRow w v ss.length (ss.map Value.string)) (ho : Off F v) (hn : ss.length ≤ 1000) :
    Calls Tryz.prog 106 #[wptr p, v] w (LineEnd S ss p l F w) := by
  have HR := Hid.of hR
  have HLL := Hid.of hl
  have HV0 := Hid.of hv
  have HO := Hid.of ho
  obtain ⟨i0, hi, hz0, hz1, hz2⟩ := info_parts (show (Tryz.prog.info? 9).map (fun i => (i.zero, i.size, i.bytes)) = some (some (.string ⟨#[]⟩), 1, 16) by kernel_rfl)
  have HI := Hid.of hi
  have HZ0 := Hid.of hz0
  have HZ1 := Hid.of hz1
  have HZ2 := Hid.of hz2
  obtain ⟨va, vc, rfl, -⟩ := hv
  clear hR hl ho hi hz0 hz1 hz2
  go_enter Tryz.func106, Tryz.ntmps106
  go_wp2_with fail
  refine (S.line HR.out HLL.out).mono ?_
  rintro e w2 ⟨u, rfl, ou, F', hR', st, hoff, hsub⟩
  have R2 := Hid.of hR'
  have ST := Hid.of st
  have SUB := Hid.of hsub
  have HV := Hid.of (st.row HV0.out HO.out)
  have HW := Hid.of (own_row ou)
  obtain ⟨ua, uc, rfl, -⟩ := own_one ou
  have LL := Hid.of (line_len l)
  have M4 : wLine l ≤ 4000 := Nat.le_trans (wline_le l) HLL.out
  have ENDS : Hid (∀ (wr : World), Below w2.heap.size w2 wr → ∃ F', S.Rep wr p (l.drop (wLine l)) F' ∧ Step F F' w wr ∧ ∀ k, F' k → F k) := Hid.of (fun wr b => ⟨F', S.kept hR' b.size (fun k hk => b.block k (S.lt hR' k hk)), st.trans (Step.of_below b), hsub⟩)
  clear ou hR' st hoff hsub HV0
  generalize hm : wLine l = m at *
  have HM := Hid.of hm
  clear hm
  by_cases hlen : m = ss.length
  · have q1 : ((m : Int) != (ss.length : Int)) = false := by rw [hlen]; simp
    have q2 : (m : Int) = (ss.length : Int) := by rw [hlen]
    have HLEN := Hid.of hlen
    go_wp2_with fail
    go_loopw [7, 19] (fun lv iv wr => ∃ (j : Nat) (xs : List ByteArray), j ≤ m ∧ iv = .int .i64 j ∧ Hid (fill (ss.take j) ((lineOf l).take j) = some xs) ∧ Hid (xs.length ≤ j) ∧ Hid (wr.ownsRow w2.heap.size 9 1 lv xs.length (xs.map Value.string)) ∧ Hid (Below w2.heap.size w2 wr)) (fun _ iv _ => m - (RowKit.intOf iv).toNat)
    case atStart => exact ⟨0, [], Nat.zero_le _, rfl, Hid.of (by simp [fill]), Hid.of (Nat.le_refl _), Hid.of (World.ownsRow_nil _ _ _ 1), Hid.of (Below.refl _ _)⟩
    case round =>
      obtain ⟨j, xs, hj, rfl, E, L, O, B⟩ := hrel
      have n0 : (0 : Int) ≤ (j : Int) := Int.natCast_nonneg _
      by_cases hlt : j < m
      · obtain ⟨f, hf⟩ : ∃ f, ss[j]? = some f := ⟨_, List.getElem?_eq_getElem (by omega)⟩
        obtain ⟨x, hx⟩ : ∃ x, (l.take m)[j]? = some x := ⟨_, List.getElem?_eq_getElem (by
          have := LL.out
          unfold lineOf at this
          rw [List.length_map, HM.out] at this
          omega)⟩
        have hx2 : (lineOf l)[j]? = some x.1 := by
          unfold lineOf
          rw [List.getElem?_map, HM.out, hx]
          rfl
        obtain ⟨b1, o1, rfl, hl1, c0, c1, c2⟩ := wd_at (HW.out.kept B.out) j x hx
        obtain ⟨b2, o2, rfl, hl2, d0⟩ := str_get0 (HV.out.kept B.out) j f hf
        obtain ⟨x0, x1, x2⟩ := x
        simp only at c0 c1 c2 hx2
        have HF := Hid.of hf
        have HX := Hid.of hx2
        have n1 : (j : Int) < (m : Int) := by omega
        have n2 : (j : Int) < (ss.length : Int) := by omega
        have n3 : (j : Int) ≤ 4000 := by omega
        clear hf hx hx2 hl1 hl2
        by_cases hf0 : f.size = 0
        · have e0 := text_zero hf0
          have ONE : Hid (fillOne f x0 = some [x0]) := Hid.of (by unfold fillOne; rw [if_pos hf0])
          have NX := Hid.of (fill_next E.out HF.out HX.out ONE.out)
          clear hf0
          obtain ⟨wa, hwa⟩ : ∃ wa, wr.alloc (.cells #[.string x0, .int .i64 x1, .int .i64 x2] 118) = wa := ⟨_, rfl⟩
          have B3 : Hid (Below w2.heap.size w2 wa) := Hid.of (by rw [← hwa]; exact B.out.alloc B.out.size _)
          have O3 : Hid (wa.ownsRow w2.heap.size 9 1 u7 xs.length (xs.map Value.string)) := Hid.of (by rw [← hwa]; exact O.out.alloc _)
          have d1 : wa.cell? ⟨b2, o2 + j, none⟩ = some (.string f) := by rw [← hwa]; exact Lib.cell?_alloc_some _ d0
          have g0 : wa.cell? ⟨wr.heap.size, 0, none⟩ = some (.string x0) := by rw [← hwa, World.cell?_alloc_new]; rfl
          have HWA := Hid.of hwa
          clear hwa
          go_upto_region 8 with fail
          rw [HWA.out]
          clear HWA c0 c1 c2 d0
          generalize wr.heap.size = tb at *
          go_wp2_with (at_builtin; refine append_row_law rfl _ _ 57 rfl w2.heap.size 9 i0 (.string ⟨#[]⟩) 1 16 Tryz.underlying57 HI.out HZ0.out HZ1.out HZ2.out rfl (by decide) _ xs.length _ rfl (O3.out.alloc _) (.slice (some ⟨wa.heap.size, 0, none⟩) 1 1) 1 [.string x0] rfl ⟨_, _, rfl, .inr ⟨_, 0, rfl, by simp, str_cells wa x0⟩⟩ rfl (by simp [Value.oneCell']) (by have := L.out; unfold maxLen; omega) (by have := L.out; omega) (by simp; have := B3.out.size; omega) ?_; intro v4 w4 o4 g4; have O4 : Hid (w4.ownsRow w2.heap.size 9 1 v4 (xs ++ [x0]).length ((xs ++ [x0]).map Value.string)) := Hid.of (by rw [List.map_append, List.length_append]; exact o4); have B4 := Hid.of ((B3.out.alloc B3.out.size _).grown g4 (by have := B3.out.size; simp; omega) (fun k hk => own_ge O3.out hk)); clear o4 g4)
          go_roundw
          case rel => exact ⟨j + 1, xs ++ [x0], by omega, by go_num, NX, Hid.of (by rw [List.length_append]; have := L.out; simp; omega), O4, B4⟩
          case measure => simp [RowKit.intOf]; omega
        · have e0 := text_pos hf0
          obtain ⟨wa, hwa⟩ : ∃ wa, wr.alloc (.cells #[.string x0, .int .i64 x1, .int .i64 x2] 118) = wa := ⟨_, rfl⟩
          have B3 : Hid (Below w2.heap.size w2 wa) := Hid.of (by rw [← hwa]; exact B.out.alloc B.out.size _)
          have O3 : Hid (wa.ownsRow w2.heap.size 9 1 u7 xs.length (xs.map Value.string)) := Hid.of (by rw [← hwa]; exact O.out.alloc _)
          have d1 : wa.cell? ⟨b2, o2 + j, none⟩ = some (.string f) := by rw [← hwa]; exact Lib.cell?_alloc_some _ d0
          have g0 : wa.cell? ⟨wr.heap.size, 0, none⟩ = some (.string x0) := by rw [← hwa, World.cell?_alloc_new]; rfl
          have HWA := Hid.of hwa
          clear hwa
          go_upto_region 8 with fail
          rw [HWA.out]
          clear HWA c0 c1 c2 d0
          generalize wr.heap.size = tb at *
          by_cases hfx : f = x0
          · have ONE : Hid (fillOne f x0 = some []) := Hid.of (by unfold fillOne; rw [if_neg hf0, if_pos hfx])
            have NX := Hid.of (fill_next E.out HF.out HX.out ONE.out)
            have e1 : (f.toList == x0.toList) = true := by rw [hfx]; exact beq_self_eq_true _
            clear hfx hf0
            go_wp2_with fail
            go_quiet (fail)
            go_wp2
            go_roundw
            case rel => exact ⟨j + 1, xs, by omega, by go_num, Hid.of (by have := NX.out; rw [List.append_nil] at this; exact this), Hid.of (by have := L.out; omega), O3, Hid.of (below_drewN B3.out _)⟩
            case measure => simp [RowKit.intOf]; omega
          · have ONE : Hid (fillOne f x0 = none) := Hid.of (by unfold fillOne; rw [if_neg hf0, if_neg hfx])
            have NX := Hid.of (fill_stop E.out HF.out HX.out ONE.out)
            have e1 : (f.toList == x0.toList) = false := beq_eq_false_iff_ne.2 (fun c => hfx (toList_eq c))
            clear hfx hf0
            go_wp2_with fail
            go_quiet (fail)
            go_wp2
            go_ret2
            unfold LineEnd
            rw [NX.out, HM.out]
            exact ⟨ENDS.out _ (below_drewN B3.out _), rfl⟩
      · have hjm : j = m := by omega
        have HE : Hid (fill ss (lineOf l) = some xs) := Hid.of (by
          have h1 := E.out
          rw [hjm, List.take_of_length_le (by rw [← HLEN.out]; exact Nat.le_refl _), List.take_of_length_le (by rw [LL.out]; exact Nat.le_refl _)] at h1
          exact h1)
        clear hjm
        go_wp2
        go_ret2
        unfold LineEnd
        rw [HE.out, HM.out]
        exact ⟨ENDS.out _ B.out, _, rfl, own_mono O.out ST.out.size⟩
  · have q1 : ((m : Int) != (ss.length : Int)) = true := by simp; omega
    have HE : Hid (fill ss (lineOf l) = none) := Hid.of (by
      cases h : fill ss (lineOf l) with
      | none => rfl
      | some u => exact absurd ((fill_len _ _ _ h).trans LL.out).symm hlen)
    clear hlen
    go_wp2
    go_ret2
    unfold LineEnd
    rw [HE.out, HM.out]
    exact ⟨ENDS.out _ (Below.refl _ _), rfl⟩

end Go.Proofs.YtadepjpmpjipmaaGreatDoor

/-
  The landed package policy: readHead, readTier.
-/
namespace Go.Proofs.YtadepjpmpjipmaaGreatDoor
open Go.RowKit Go.Lib

/-- Words of which lines have been read since w0, where they were l and touched F. -/
structure RL (S : WordSpec) (w0 : World) (p : Nat) (l : List WdL) (F F' : Nat → Prop) (w : World) : Prop where
  rep : S.Rep w p l F'
  st : Step F F' w0 w
  sub : ∀ k, F' k → F k
  lt : ∀ k, F k → k < w0.heap.size

section
variable {S : WordSpec} {w0 w w' : World} {p : Nat} {l : List WdL} {F F' : Nat → Prop}

theorem RL.start (h : S.Rep w p l F) : RL S w p l F F w := ⟨h, Step.refl _ _, fun _ h => h, S.lt h⟩

theorem RL.next (h : RL S w0 p l F F' w) (b : Below w.heap.size w w') : RL S w0 p l F F' w' :=
  ⟨S.kept h.rep b.size (fun k hk => b.block k (S.lt h.rep k hk)), h.st.trans (Step.of_below b), h.sub, h.lt⟩

theorem RL.put (h : RL S w0 p l F F' w) {b : Nat} (g : w.grownBy w' (some b)) (hb : w0.heap.size ≤ b) : RL S w0 p l F F' w' := by
  have ne : ∀ k, F k → ¬ some k = some b := fun k hk e => by
    have := h.lt k hk
    have := Option.some.inj e
    omega
  refine ⟨S.kept h.rep g.size (fun k hk => g.block k (S.lt h.rep k hk) (ne k (h.sub k hk))), ⟨g.os.trans h.st.os, g.tape.trans h.st.tape, g.output.trans h.st.output, Nat.le_trans h.st.size g.size, fun k hk hn => ?_, h.st.foot⟩, h.sub, h.lt⟩
  rw [g.block k (Nat.lt_of_lt_of_le hk h.st.size) (fun e => by have := Option.some.inj e; omega)]
  exact h.st.block k hk hn

theorem RL.line (h : RL S w0 p l F F' w) {l' : List WdL} {F'' : Nat → Prop} (hr : S.Rep w' p l' F'') (st : Step F' F'' w w') (hs : ∀ k, F'' k → F' k) : RL S w0 p l' F F'' w' :=
  ⟨hr, h.st.trans st, fun k hk => h.sub k (hs k hk), h.lt⟩

/-- What lies above what the words touch stays. -/
theorem RL.off (h : RL S w0 p l F F' w) {k : Nat} (hk : w0.heap.size ≤ k) : ¬ F' k := fun c => by have := h.lt k (h.sub k c); omega
end

theorem TBlk.stepped {F F' : Nat → Prop} {w w' : World} {b : Nat} {x : TierL} (h : TBlk w b x) (st : Step F F' w w') (hb : ¬ F b) : TBlk w' b x := by
  unfold TBlk at h ⊢
  rw [st.block b (Array.getElem?_eq_some_iff.1 h).1 hb]
  exact h

/-! ## Forms -/

def eText : ByteArray := ⟨#[]⟩

/-- The name that a policy's first line has. -/
def headRes (l : List ByteArray) : Option ByteArray := match l with
  | [a, n] => if tPolicy = a then some n else none
  | _ => none

theorem fill_head (l : List ByteArray) : fill [tPolicy, eText] l = (headRes l).map fun n => [n] := by
  unfold headRes
  match l with
  | [] => rfl
  | [a] =>
    unfold fill
    cases fillOne tPolicy a <;> rfl
  | [a, n] =>
    unfold fill fill fill
    have h1 : fillOne eText n = some [n] := if_pos rfl
    rw [h1]
    by_cases h : tPolicy = a
    · have h2 : fillOne tPolicy a = some [] := by unfold fillOne; rw [if_neg (by decide), if_pos h]
      rw [h2]
      show some [n] = (if tPolicy = a then some n else none).map fun n => [n]
      rw [if_pos h]
      rfl
    · have h2 : fillOne tPolicy a = none := by unfold fillOne; rw [if_neg (by decide), if_neg h]
      rw [h2]
      show none = (if tPolicy = a then some n else none).map fun n => [n]
      rw [if_neg h]
      rfl
  | a :: b :: c :: r =>
    cases h : fill [tPolicy, eText] (a :: b :: c :: r) with
    | none => rfl
    | some u => have := fill_len _ _ _ h; simp at this

/-- The words of a tier's line where its form is open. -/
def tierOpen (l : List ByteArray) : Option (List ByteArray) := match l with
  | [a, n, b, x, c, y, d, z] => if tTier = a ∧ tEvery = b ∧ tKeep = c ∧ tShards = d then some [n, x, y, z] else none
  | _ => none

theorem fillOne_word {f x : ByteArray} (hf : ¬ f.size = 0) : fillOne f x = if f = x then some [] else none := by
  unfold fillOne
  rw [if_neg hf]

theorem fillOne_open (x : ByteArray) : fillOne eText x = some [x] := if_pos rfl

theorem fill_cons (f x : ByteArray) (fs xs : List ByteArray) : fill (f :: fs) (x :: xs) = (fillOne f x).bind fun a => (fill fs xs).map (a ++ ·) := by rw [fill]

theorem fill_tier (l : List ByteArray) : fill [tTier, eText, tEvery, eText, tKeep, eText, tShards, eText] l = tierOpen l := by
  cases h8 : l with
  | nil => rfl
  | cons a l1 =>
  by_cases hlen : l.length = 8
  · obtain ⟨a, n, b, x, c, y, d, z, rfl⟩ : ∃ a n b x c y d z, l = [a, n, b, x, c, y, d, z] := by
      match l, hlen with
      | [a, n, b, x, c, y, d, z], _ => exact ⟨a, n, b, x, c, y, d, z, rfl⟩
    rw [← h8]
    have e0 : fill [] [] = some [] := rfl
    simp only [fill_cons, fillOne_open, e0, fillOne_word (show ¬ tTier.size = 0 by decide), fillOne_word (show ¬ tEvery.size = 0 by decide), fillOne_word (show ¬ tKeep.size = 0 by decide), fillOne_word (show ¬ tShards.size = 0 by decide)]
    unfold tierOpen
    by_cases h1 : tTier = a <;> by_cases h2 : tEvery = b <;> by_cases h3 : tKeep = c <;> by_cases h4 : tShards = d <;> simp [h1, h2, h3, h4]
  · rw [← h8]
    have hn : tierOpen l = none := by
      unfold tierOpen
      split
      · simp at hlen
      · rfl
    rw [hn]
    cases h : fill [tTier, eText, tEvery, eText, tKeep, eText, tShards, eText] l with
    | none => rfl
    | some u => exact absurd (fill_len _ _ _ h).symm hlen

/-- The tier that a line is. -/
def tierRes (l : List ByteArray) : Option TierL := match tierOpen l with
  | some [n, x, y, z] => match nums [x, y, z] with
    | some [e, k, s] => some (n, e, k, s)
    | _ => none
  | _ => none

theorem open_four {l u : List ByteArray} (h : tierOpen l = some u) : ∃ n x y z, u = [n, x, y, z] := by
  unfold tierOpen at h
  split at h
  · split at h
    · simp only [Option.some.injEq] at h
      exact ⟨_, _, _, _, h.symm⟩
    · cases h
  · cases h

theorem nums_three {x y z : ByteArray} {ns : List Int} (h : nums [x, y, z] = some ns) : ∃ e k s, ns = [e, k, s] := by
  have := nums_len h
  match ns, this with
  | [e, k, s], _ => exact ⟨e, k, s, rfl⟩

theorem same_iff (f x : ByteArray) (s : List UInt8) (h : f.data.toList = s) : (f = x) ↔ x.data.toList = s := by
  constructor
  · rintro rfl
    exact h
  · intro e
    exact same_bytes (h.trans e.symm)

theorem texts_line (l : List WdL) : texts (l.take (wLine l)) = (lineOf l).map (·.data.toList) := by
  unfold texts lineOf
  rw [List.map_map]
  rfl

theorem back_bytes (n : ByteArray) : (⟨n.data.toList.toArray⟩ : ByteArray) = n := by
  apply same_bytes
  rfl

theorem tierRes_of (l : List ByteArray) : tierOf (l.map (·.data.toList)) = tierRes l := by
  unfold tierRes
  by_cases hlen : l.length = 8
  · obtain ⟨a, n, b, x, c, y, d, z, rfl⟩ : ∃ a n b x c y d z, l = [a, n, b, x, c, y, d, z] := by
      match l, hlen with
      | [a, n, b, x, c, y, d, z], _ => exact ⟨a, n, b, x, c, y, d, z, rfl⟩
    have i1 := same_iff tTier a sTier rfl
    have i2 := same_iff tEvery b sEvery rfl
    have i3 := same_iff tKeep c sKeep rfl
    have i4 := same_iff tShards d sShards rfl
    simp only [List.map_cons, List.map_nil, tierOf, tierOpen, i1, i2, i3, i4]
    by_cases h : a.data.toList = sTier ∧ b.data.toList = sEvery ∧ c.data.toList = sKeep ∧ d.data.toList = sShards
    · rw [if_pos h, if_pos h]
      simp only [nums]
      cases pNum x.data.toList with
      | none => rfl
      | some e =>
        cases pNum y.data.toList with
        | none => rfl
        | some k =>
          cases pNum z.data.toList with
          | none => rfl
          | some s => exact congrArg some (Prod.ext (back_bytes n) rfl)
    · rw [if_neg h, if_neg h]
  · have h1 : tierOpen l = none := by
      unfold tierOpen
      split
      · simp at hlen
      · rfl
    rw [h1]
    unfold tierOf
    split
    · rename_i h
      have := congrArg List.length h
      simp at this
      exact absurd this hlen
    · rfl

theorem own_of {w : World} {B : Nat} {e : TypeId} {u : Value} {xs : List Value} {n : Nat} (h : w.ownsRow B e 1 u n xs) (hn : 0 < n) : ∃ g cap, u = .slice (some ⟨g, 0, none⟩) n cap ∧ n ≤ cap ∧ B ≤ g ∧ g < w.heap.size ∧ Cells w g 0 xs := by
  have hr := own_row h
  rcases h.2 with ⟨_, h0⟩ | ⟨g, cap, cur, rfl, hB, hrow, hcap, hmax, hcs, htk⟩
  · omega
  · refine ⟨g, cap, rfl, hcap, hB, (Array.getElem?_eq_some_iff.1 hrow).1, fun j u hj => ?_⟩
    rw [Nat.zero_add, cell_of_row w g j _ _ _ hrow]
    rw [← htk, List.getElem?_take] at hj
    split at hj
    · simpa using hj
    · cases hj

set_option maxRecDepth 20000 in
set_option maxHeartbeats 1600000 in
theorem readHead_any (S : WordSpec) {w : World} {p : Nat} {l : List WdL} {F : Nat → Prop} (hR : S.Rep w p l F) (hl : l.length ≤ 4000) :
    Calls Tryz.prog 93 #[wptr p] w fun e w' => (∃ F', RL S w p (l.drop (wLine l)) F F' w') ∧ e = .returned (.tuple #[.string ((headRes (lineOf l)).getD eText), .bool (headRes (lineOf l)).isSome]) := by
  have HR := Hid.of (RL.start hR)
  have HL := Hid.of hl
  have FH := Hid.of (fill_head (lineOf l))
  clear hR hl
  go_enter Tryz.func93, Tryz.ntmps93
  go_wp2_with fail
  refine (headForm_any eText _).mono ?_
  rintro e w2 ⟨v, rfl, f2, b2⟩
  have R2 := Hid.of (HR.out.next b2)
  have F2 := Hid.of f2
  clear b2 f2 HR
  go_wp2_with fail
  refine (readLine_any S R2.out.rep HL.out v [tPolicy, eText] F2.out.row (fun g hg => by
    obtain ⟨g', e, hB, _⟩ := F2.out
    rw [e] at hg
    simp only [Value.ownBlock, Option.some.injEq] at hg
    exact R2.out.off (by omega)) (by simp)).mono ?_
  rintro e w3 ⟨⟨F', h1, h2, h3⟩, he⟩
  have R3 := Hid.of (R2.out.line h1 h2 h3)
  rw [FH.out] at he
  clear h1 h2 h3 F2 R2
  cases hh : headRes (lineOf l) with
  | none =>
    rw [hh] at he
    simp only [Option.map_none] at he
    subst he
    have HH := Hid.of hh
    clear hh
    go_wp2
    go_ret2
    rw [HH.out]
    exact ⟨⟨_, R3.out⟩, rfl⟩
  | some n =>
    rw [hh] at he
    simp only [Option.map_some] at he
    obtain ⟨u, rfl, ou⟩ := he
    obtain ⟨g, cap, rfl, hcap, hB, hg, hc⟩ := own_of ou (by simp)
    have c0 := hc 0 (.string n) rfl
    rw [Nat.zero_add] at c0
    simp only [List.length_cons, List.length_nil] at hcap ⊢
    have HH := Hid.of hh
    clear hh ou hc hB hg
    go_wp2
    go_ret2
    rw [HH.out]
    exact ⟨⟨_, R3.out⟩, rfl⟩

/-- No tier. -/
def tierZero : TierL := (⟨#[]⟩, 0, 0, 0)

def set4 (v : World) (b : Nat) (x : TierL) : World := (((v.setCell ⟨b, 0, none⟩ (.string x.1)).setCell ⟨b, 1, none⟩ (.int .i64 x.2.1)).setCell ⟨b, 2, none⟩ (.int .i64 x.2.2.1)).setCell ⟨b, 3, none⟩ (.int .i64 x.2.2.2)

theorem tblk_set4 {v : World} {b : Nat} {y : TierL} (h : TBlk v b y) (x : TierL) : TBlk (set4 v b x) b x := by
  have := row_set (i := 3) (row_set (i := 2) (row_set (i := 1) (row_set (i := 0) h (.string x.1)) (.int .i64 x.2.1)) (.int .i64 x.2.2.1)) (.int .i64 x.2.2.2)
  unfold set4 TBlk
  rw [this]
  simp

theorem set4_grown (v : World) (b : Nat) (x : TierL) : v.grownBy (set4 v b x) (some b) :=
  grownBy_trans (grownBy_trans (grownBy_trans (grownBy_setCell _ _ _ _) (grownBy_setCell _ _ _ _)) (grownBy_setCell _ _ _ _)) (grownBy_setCell _ _ _ _)

theorem grown_cell {w w' : World} {b k o : Nat} {u : Value} (g : w.grownBy w' (some b)) (hk : k < w.heap.size) (hne : b < k) (h : w.cell? ⟨k, o, none⟩ = some u) : w'.cell? ⟨k, o, none⟩ = some u := by
  rw [World.cell?_of_block (g.block k hk (fun c => by have := Option.some.inj c; omega))]
  exact h

theorem grown_drew {w w' : World} {r : Option Nat} (g : w.grownBy w' r) : w.grownBy w'.drew r := ⟨g.os, g.tape, g.output, g.size, g.block⟩

theorem set4_cell {w : World} {b : Nat} (x : TierL) {k o : Nat} {u : Value} (hk : k < w.heap.size) (hne : b < k) (h : w.cell? ⟨k, o, none⟩ = some u) : (set4 w b x).drew.cell? ⟨k, o, none⟩ = some u :=
  grown_cell (grown_drew (set4_grown w b x)) hk hne h

theorem tblk_drew {w : World} {b : Nat} {x : TierL} (h : TBlk w b x) : TBlk w.drew b x := h

set_option maxRecDepth 20000 in
set_option maxHeartbeats 1600000 in
theorem readTier_any (S : WordSpec) {w : World} {p : Nat} {l : List WdL} {F : Nat → Prop} (hR : S.Rep w p l F) (hl : l.length ≤ 4000) (hz : ∀ x ∈ l, x.1.size ≤ 4000) (hN : ∀ F' w', Step F F' w w' → Nums w') :
    Calls Tryz.prog 107 #[wptr p] w fun e w' => (∃ F', RL S w p (l.drop (wLine l)) F F' w') ∧ e = .returned (.tuple #[tierVal ((tierRes (lineOf l)).getD tierZero), .bool (tierRes (lineOf l)).isSome]) := by
  have HR0 := Hid.of (RL.start hR)
  have HL := Hid.of hl
  have FT := Hid.of (fill_tier (lineOf l))
  have HN := Hid.of hN
  have SZ : Hid (∀ s ∈ lineOf l, s.size ≤ 1000000) := Hid.of (fun s hs => by
    unfold lineOf at hs
    obtain ⟨x, hx, rfl⟩ := List.mem_map.1 hs
    have := hz x (List.mem_of_mem_take hx)
    omega)
  obtain ⟨w1, hw1⟩ : ∃ w1, w.alloc (.cells #[.string ⟨#[]⟩, .int .i64 0, .int .i64 0, .int .i64 0] 49) = w1 := ⟨_, rfl⟩
  have b1 : Below w.heap.size w w1 := by rw [← hw1]; exact (Below.refl _ _).alloc (Nat.le_refl _) _
  have T1 : Hid (TBlk w1 w.heap.size tierZero) := Hid.of (by rw [← hw1]; exact TBlk.made w tierZero)
  have R1 := Hid.of (HR0.out.next b1)
  have HW := Hid.of hw1
  clear hR hl hN hz hw1 b1 HR0
  go_enter Tryz.func107, Tryz.ntmps107
  go_wp2_with fail
  rw [HW.out]
  clear HW
  refine (tierForm_any eText eText eText eText _).mono ?_
  rintro e w2 ⟨v, rfl, f2, b2⟩
  have R2 := Hid.of (R1.out.next b2)
  have T2 := Hid.of (T1.out.kept b2)
  have F2 := Hid.of f2
  have BS := Hid.of (show w.heap.size ≤ w1.heap.size from R1.out.st.size)
  clear b2 f2 R1 T1
  go_wp2_with fail
  refine (readLine_any S R2.out.rep HL.out v [tTier, eText, tEvery, eText, tKeep, eText, tShards, eText] F2.out.row (fun g hg => by
    obtain ⟨g', e, hB, _⟩ := F2.out
    rw [e] at hg
    simp only [Value.ownBlock, Option.some.injEq] at hg
    exact R2.out.off (by have := BS.out; omega)) (by simp)).mono ?_
  rintro e w3 ⟨⟨F', h1, h2, h3⟩, he⟩
  have R3 := Hid.of (R2.out.line h1 h2 h3)
  have T3 := Hid.of (T2.out.stepped h2 (R2.out.off (Nat.le_refl _)))
  have BS3 : Hid (w.heap.size < w2.heap.size) := Hid.of (Array.getElem?_eq_some_iff.1 T2.out).1
  rw [FT.out] at he
  clear h1 h2 h3 F2 R2 T2
  have NO : Hid (∀ w9, TBlk w9 w.heap.size tierZero → (∃ F', RL S w p (l.drop (wLine l)) F F' w9) → tierRes (lineOf l) = none → ∃ F', RL S w p (l.drop (wLine l)) F F' (set4 w9 w.heap.size tierZero)) := Hid.of (fun w9 _ h _ => by
    obtain ⟨F', h⟩ := h
    exact ⟨F', h.put (set4_grown w9 w.heap.size tierZero) (Nat.le_refl _)⟩)
  cases hh : tierOpen (lineOf l) with
  | none =>
    rw [hh] at he
    simp only at he
    subst he
    have HT : Hid (tierRes (lineOf l) = none) := Hid.of (by unfold tierRes; rw [hh])
    obtain ⟨c0, c1, c2, c3⟩ := T3.out.at
    have z0 := row_frozen (i := 0) T3.out
    have z1 := row_frozen (i := 1) T3.out
    have z2 := row_frozen (i := 2) T3.out
    have z3 := row_frozen (i := 3) T3.out
    have Q := Hid.of (tblk_set4 T3.out tierZero)
    obtain ⟨q0, q1, q2, q3⟩ := Q.out.at
    simp only [tierZero] at c0 c1 c2 c3 q0 q1 q2 q3
    unfold set4 at q0 q1 q2 q3
    simp only at q0 q1 q2 q3
    clear hh
    go_wp2
    refine bodyPost_ret (v := .tuple #[tierVal tierZero, .bool false]) ?_ rfl ⟨?_, by rw [HT.out]; rfl⟩
    · simp [results, Tryz.results107, go_sem, q0, q1, q2, q3, tierZero, tierVal]
    · exact NO.out _ T3.out ⟨_, R3.out⟩ HT.out
  | some xs =>
    rw [hh] at he
    simp only at he
    obtain ⟨u, rfl, ou⟩ := he
    obtain ⟨n, x, y, z, rfl⟩ := open_four hh
    obtain ⟨g, cap, rfl, hcap, hB, hg, hc⟩ := own_of ou (by simp)
    have hmem : ∀ s ∈ [x, y, z], s.size ≤ 1000000 := fun s hs => SZ.out s (by
      unfold tierOpen at hh
      split at hh
      · rename_i heq
        rw [heq]
        split at hh
        · simp only [Option.some.injEq, List.cons.injEq, and_true] at hh
          obtain ⟨rfl, rfl, rfl, rfl⟩ := hh
          simp at hs ⊢
          rcases hs with rfl | rfl | rfl <;> simp
        · cases hh
      · cases hh)
    have HO := Hid.of hh
    have HC := Hid.of hc
    have HG := Hid.of hg
    have HGB : Hid (w.heap.size < g) := Hid.of (by have := BS3.out; omega)
    have HM := Hid.of hmem
    have hcap4 : 4 ≤ cap := hcap
    have HROW : Hid (CellRow w3 (.slice (some ⟨g, 1, none⟩) 3 (cap - 1)) [x, y, z].length ([x, y, z].map Value.string)) := Hid.of ⟨_, _, rfl, .inr ⟨g, 1, rfl, hg, fun j v hj => by
      have := hc (1 + j) v (by
        rw [show 1 + j = j + 1 by omega]
        exact hj)
      rw [Nat.zero_add] at this
      exact this⟩⟩
    have HNW := Hid.of (HN.out _ _ R3.out.st)
    simp only [List.length_cons, List.length_nil]
    clear hh ou hc hB hg hmem hcap
    go_wp2_with fail
    refine (numbers_any _ [x, y, z] _ HNW.out HROW.out (by simp) HM.out).mono ?_
    rintro e w4 ⟨b4, he⟩
    have R4 := Hid.of (R3.out.next b4)
    have T4 := Hid.of (T3.out.kept b4)
    cases hn : nums [x, y, z] with
    | none =>
      rw [hn] at he
      simp only at he
      subst he
      have HT : Hid (tierRes (lineOf l) = none) := Hid.of (by unfold tierRes; rw [HO.out]; simp only; rw [hn])
      obtain ⟨c0, c1, c2, c3⟩ := T4.out.at
      have z0 := row_frozen (i := 0) T4.out
      have z1 := row_frozen (i := 1) T4.out
      have z2 := row_frozen (i := 2) T4.out
      have z3 := row_frozen (i := 3) T4.out
      have Q := Hid.of (tblk_set4 T4.out tierZero)
      obtain ⟨q0, q1, q2, q3⟩ := Q.out.at
      simp only [tierZero] at c0 c1 c2 c3 q0 q1 q2 q3
      unfold set4 at q0 q1 q2 q3
      simp only at q0 q1 q2 q3
      clear hn b4
      go_wp2
      refine bodyPost_ret (v := .tuple #[tierVal tierZero, .bool false]) ?_ rfl ⟨?_, by rw [HT.out]; rfl⟩
      · simp [results, Tryz.results107, go_sem, q0, q1, q2, q3, tierZero, tierVal]
      · exact NO.out _ T4.out ⟨_, R4.out⟩ HT.out
    | some ns =>
      rw [hn] at he
      simp only at he
      obtain ⟨u2, rfl, ou⟩ := he
      obtain ⟨e, k, s, rfl⟩ := nums_three hn
      have HT : Hid (tierRes (lineOf l) = some (n, e, k, s)) := Hid.of (by unfold tierRes; rw [HO.out]; simp only; rw [hn])
      obtain ⟨g2, cap2, rfl, hcap2, hB2, hg2, hc2⟩ := own_of ou (by simp)
      have hcap3 : 3 ≤ cap2 := hcap2
      have f0 : w4.cell? ⟨g, 0, none⟩ = some (.string n) := by rw [b4.cell HG.out]; exact HC.out 0 _ rfl
      have e0 : w4.cell? ⟨g2, 0, none⟩ = some (.int .i64 e) := hc2 0 _ rfl
      have e1 : w4.cell? ⟨g2, 1, none⟩ = some (.int .i64 k) := hc2 1 _ rfl
      have e2 : w4.cell? ⟨g2, 2, none⟩ = some (.int .i64 s) := hc2 2 _ rfl
      obtain ⟨c0, c1, c2, c3⟩ := T4.out.at
      have z0 := row_frozen (i := 0) T4.out
      have z1 := row_frozen (i := 1) T4.out
      have z2 := row_frozen (i := 2) T4.out
      have z3 := row_frozen (i := 3) T4.out
      have NG := Hid.of (show w.heap.size < g ∧ g < w4.heap.size ∧ w.heap.size < g2 ∧ g2 < w4.heap.size from ⟨HGB.out, by have := b4.size; have := HG.out; omega, by have := HGB.out; have := HG.out; omega, hg2⟩)
      have R5' := Hid.of ((R4.out.put (set4_grown w4 w.heap.size (n, e, k, s)) (Nat.le_refl _)).next (Below.refl _ _).drew)
      have T5' := Hid.of (tblk_drew (tblk_set4 T4.out (n, e, k, s)))
      have F5' := Hid.of (set4_cell (n, e, k, s) NG.out.2.1 NG.out.1 f0)
      have E50' := Hid.of (set4_cell (n, e, k, s) NG.out.2.2.2 NG.out.2.2.1 e0)
      have E51' := Hid.of (set4_cell (n, e, k, s) NG.out.2.2.2 NG.out.2.2.1 e1)
      have E52' := Hid.of (set4_cell (n, e, k, s) NG.out.2.2.2 NG.out.2.2.1 e2)
      obtain ⟨w5, hw5⟩ : ∃ w5, (set4 w4 w.heap.size (n, e, k, s)).drew = w5 := ⟨_, rfl⟩
      rw [hw5] at R5' T5' F5' E50' E51' E52'
      unfold set4 at hw5
      simp only at hw5
      have HW5 := Hid.of hw5
      simp only [tierZero] at c0 c1 c2 c3
      simp only [List.length_cons, List.length_nil]
      clear hn ou hc2 hB2 hg2 hcap2 b4 hw5
      go_upto_region 7 with fail
      refine wp_region_noPanic ?_
      refine wp_region_held_drew (S := fun w' => w'.cell? ⟨g, 0, none⟩ = some (.string n) ∧ w'.cell? ⟨g2, 0, none⟩ = some (.int .i64 e) ∧ w'.cell? ⟨g2, 1, none⟩ = some (.int .i64 k) ∧ w'.cell? ⟨g2, 2, none⟩ = some (.int .i64 s)) (by kernel_rfl) ?_ (fun hHeld => ?_)
      · exact ⟨f0, e0, e1, e2⟩
      refine wpAnyH_take (i := 0) (oi := ⟨_, _, _, _, _, _⟩) (v := ?_) rfl (by kernel_rfl) (by kernel_rfl) (by kernel_rfl) (fun _ _ _ h => h) (Or.inl ⟨by rfl, ?_⟩) hHeld ?_
      rotate_left
      · intro w' hSw
        try dsimp only at hSw
        go_simp
        all_goals with_reducible rfl
      simp only [Act.put, List.setIfInBounds_toArray, List.set_cons_zero, List.set_cons_succ]
      refine wpAnyH_take (i := 1) (oi := ⟨_, _, _, _, _, _⟩) (v := ?_) rfl (by kernel_rfl) (by kernel_rfl) (by kernel_rfl) (fun _ _ _ h => h) (Or.inl ⟨by rfl, ?_⟩) hHeld ?_
      rotate_left
      · intro w' hSw
        try dsimp only at hSw
        go_simp
        all_goals with_reducible rfl
      simp only [Act.put, List.setIfInBounds_toArray, List.set_cons_zero, List.set_cons_succ]
      refine wpAnyH_take (i := 2) (oi := ⟨_, _, _, _, _, _⟩) (v := ?_) rfl (by kernel_rfl) (by kernel_rfl) (by kernel_rfl) (fun _ _ _ h => h) (Or.inl ⟨by rfl, ?_⟩) hHeld ?_
      rotate_left
      · intro w' hSw
        try dsimp only at hSw
        go_simp
        all_goals with_reducible rfl
      simp only [Act.put, List.setIfInBounds_toArray, List.set_cons_zero, List.set_cons_succ]
      refine wpAnyH_take (i := 3) (oi := ⟨_, _, _, _, _, _⟩) (v := ?_) rfl (by kernel_rfl) (by kernel_rfl) (by kernel_rfl) (fun _ _ _ h => h) (Or.inl ⟨by rfl, ?_⟩) hHeld ?_
      rotate_left
      · intro w' hSw
        try dsimp only at hSw
        go_simp
        all_goals with_reducible rfl
      simp only [Act.put, List.setIfInBounds_toArray, List.set_cons_zero, List.set_cons_succ]
      refine wpAnyH_take (i := 4) (oi := ⟨_, _, _, _, _, _⟩) (v := ?_) rfl (by kernel_rfl) (by kernel_rfl) (by kernel_rfl) (fun _ _ _ h => h) (Or.inl ⟨by rfl, ?_⟩) hHeld ?_
      rotate_left
      · intro w' hSw
        try dsimp only at hSw
        go_simp
        all_goals with_reducible rfl
      simp only [Act.put, List.setIfInBounds_toArray, List.set_cons_zero, List.set_cons_succ]
      refine wpAnyH_take (i := 5) (oi := ⟨_, _, _, _, _, _⟩) (v := ?_) rfl (by kernel_rfl) (by kernel_rfl) (by kernel_rfl) (fun _ _ _ h => h) (Or.inl ⟨by rfl, ?_⟩) hHeld ?_
      rotate_left
      · intro w' hSw
        try dsimp only at hSw
        go_simp
        all_goals with_reducible rfl
      simp only [Act.put, List.setIfInBounds_toArray, List.set_cons_zero, List.set_cons_succ]
      refine wpAnyH_take (i := 6) (oi := ⟨_, _, _, _, _, _⟩) (v := ?_) rfl (by kernel_rfl) (by kernel_rfl) (by kernel_rfl) (fun _ _ _ h => h) (Or.inl ⟨by rfl, ?_⟩) hHeld ?_
      rotate_left
      · intro w' hSw
        try dsimp only at hSw
        go_simp
        all_goals with_reducible rfl
      simp only [Act.put, List.setIfInBounds_toArray, List.set_cons_zero, List.set_cons_succ]
      refine wpAnyH_take (i := 7) (oi := ⟨_, _, _, _, _, _⟩) (v := ?_) rfl (by kernel_rfl) (by kernel_rfl) (by kernel_rfl) (fun _ _ _ h => h) (Or.inl ⟨by rfl, ?_⟩) hHeld ?_
      rotate_left
      · intro w' hSw
        try dsimp only at hSw
        go_simp
        all_goals with_reducible rfl
      simp only [Act.put, List.setIfInBounds_toArray, List.set_cons_zero, List.set_cons_succ]
      refine wpAnyH_take (i := 8) (oi := ⟨_, _, _, _, _, _⟩) (v := ?_) rfl (by kernel_rfl) (by kernel_rfl) (by kernel_rfl) (fun _ _ _ h => h) (Or.inl ⟨by rfl, ?_⟩) hHeld ?_
      rotate_left
      · intro w' hSw
        try dsimp only at hSw
        go_simp
        all_goals with_reducible rfl
      simp only [Act.put, List.setIfInBounds_toArray, List.set_cons_zero, List.set_cons_succ]
      refine wpAnyH_take (i := 9) (oi := ⟨_, _, _, _, _, _⟩) (v := ?_) rfl (by kernel_rfl) (by kernel_rfl) (by kernel_rfl) (fun _ _ _ h => h) (Or.inl ⟨by rfl, ?_⟩) hHeld ?_
      rotate_left
      · intro w' hSw
        try dsimp only at hSw
        go_simp
        all_goals with_reducible rfl
      simp only [Act.put, List.setIfInBounds_toArray, List.set_cons_zero, List.set_cons_succ]
      refine wpAnyH_take (i := 10) (oi := ⟨_, _, _, _, _, _⟩) (v := ?_) rfl (by kernel_rfl) (by kernel_rfl) (by kernel_rfl) (fun _ _ _ h => h) (Or.inl ⟨by rfl, ?_⟩) hHeld ?_
      rotate_left
      · intro w' hSw
        try dsimp only at hSw
        go_simp
        all_goals with_reducible rfl
      simp only [Act.put, List.setIfInBounds_toArray, List.set_cons_zero, List.set_cons_succ]
      refine wpAnyH_take (i := 11) (oi := ⟨_, _, _, _, _, _⟩) (v := ?_) rfl (by kernel_rfl) (by kernel_rfl) (by kernel_rfl) (fun _ _ _ h => h) (Or.inl ⟨by rfl, ?_⟩) hHeld ?_
      rotate_left
      · intro w' hSw
        try dsimp only at hSw
        go_simp
        all_goals with_reducible rfl
      simp only [Act.put, List.setIfInBounds_toArray, List.set_cons_zero, List.set_cons_succ]
      refine wpAnyH_take (i := 12) (oi := ⟨_, _, _, _, _, _⟩) (v := ?_) rfl (by kernel_rfl) (by kernel_rfl) (by kernel_rfl) (fun _ _ _ h => h) (Or.inl ⟨by rfl, ?_⟩) hHeld ?_
      rotate_left
      · intro w' hSw
        try dsimp only at hSw
        go_simp
        all_goals with_reducible rfl
      simp only [Act.put, List.setIfInBounds_toArray, List.set_cons_zero, List.set_cons_succ]
      refine wpAnyH_ready (rs := [13]) (by kernel_rfl) (by simp) ?_
      refine AllReadyH.cons (o := ⟨_, _, _, _, _, _⟩) rfl (fun K hK => ?_) AllReadyH.nil
      go_simp
      rw [HW5.out]
      clear f0 e0 e1 e2 c0 c1 c2 c3 z0 z1 z2 z3 hHeld
      have F0 := F5'.out
      have E0 := E50'.out
      have E1 := E51'.out
      have E2 := E52'.out
      refine hK.out _ _ ⟨F0, E0, E1, E2⟩ (fun hHeld => ?_)
      clear hK K
      try simp only [Act.put, List.setIfInBounds_toArray, List.set_cons_zero, List.set_cons_succ]
      refine wpAnyH_take (i := 14) (oi := ⟨_, _, _, _, _, _⟩) (v := ?_) rfl (by kernel_rfl) (by kernel_rfl) (by kernel_rfl) (fun _ _ _ h => h) (Or.inl ⟨by rfl, ?_⟩) hHeld ?_
      rotate_left
      · intro w' hSw
        try dsimp only at hSw
        go_simp
        all_goals with_reducible rfl
      simp only [Act.put, List.setIfInBounds_toArray, List.set_cons_zero, List.set_cons_succ]
      refine wpAnyH_done (by kernel_rfl) ?_ _
      refine NoPanic.normal ?_
      clear F0 E0 E1 E2
      obtain ⟨q0, q1, q2, q3⟩ := T5'.out.at
      simp only at q0 q1 q2 q3
      go_wp2
      refine bodyPost_ret (v := .tuple #[tierVal (n, e, k, s), .bool true]) ?_ rfl ⟨⟨_, R5'.out⟩, by rw [HT.out]; rfl⟩
      simp [results, Tryz.results107, go_sem, q0, q1, q2, q3, tierVal]

end Go.Proofs.YtadepjpmpjipmaaGreatDoor

/-
  The landed package policy: Print.
-/
namespace Go.Proofs.YtadepjpmpjipmaaGreatDoor
open Go.RowKit Go.Lib

theorem flat_on (ls : List (List (List UInt8))) (x : List (List UInt8)) : flatLines (ls ++ [x]) = flatLines ls ++ (oneLine x ++ [10]) := by
  unfold flatLines
  rw [List.map_append, List.flatten_append]
  simp

theorem flat_start (x : List (List UInt8)) : flatLines [x] = oneLine x ++ [10] := by
  unfold flatLines
  simp

theorem flat_part_len {p : PolL} (h : (pCheck p).1 = 0) (i : Nat) : (flatLines (headWords p :: (p.2.take i).map tierWords)).length ≤ 400 := by
  have h1 := polText_len h
  have h2 : polText p = flatLines (headWords p :: (p.2.take i).map tierWords) ++ flatLines ((p.2.drop i).map tierWords) := by
    have h3 : polWords p = (headWords p :: (p.2.take i).map tierWords) ++ (p.2.drop i).map tierWords := by
      unfold polWords
      rw [List.cons_append, ← List.map_append, List.take_append_drop]
    rw [polText_flat, h3]
    unfold flatLines
    rw [List.map_append, List.flatten_append]
  rw [h2, List.length_append] at h1
  omega

theorem head_len {p : PolL} (h : (pCheck p).1 = 0) : (oneLine (headWords p)).length ≤ 400 := by
  have := flat_part_len h 0
  rw [List.take_zero, List.map_nil, flat_start, List.length_append] at this
  omega

theorem below_grown {w w' : World} (h : w.grownBy w' none) : Below w.heap.size w w' := below_of_none h

set_option maxRecDepth 20000 in
set_option maxHeartbeats 3200000 in
theorem print_any (v : Value) (p : PolL) (w : World) (hN : Nums w) (hf : PFit p) (hv : PolRow w v p) :
    Calls Tryz.prog 9 #[v] w fun e w' => e = .returned (.tuple #[.string (pPrint p).1, .int .i64 (pPrint p).2]) ∧ Below w.heap.size w w' := by
  have HV := Hid.of hv
  have HF := Hid.of hf
  have HNU := Hid.of hN
  obtain ⟨sl, rfl, hsl, -⟩ := hv
  have HSL := Hid.of hsl
  obtain ⟨sa, sc, rfl, -⟩ := hsl
  obtain ⟨n, hn'⟩ : ∃ n, p.1 = n := ⟨_, rfl⟩
  obtain ⟨N, hN'⟩ : ∃ N, p.2.length = N := ⟨_, rfl⟩
  rw [hn', hN']
  rw [hn', hN'] at HV
  rw [hN'] at HSL
  obtain ⟨w1, hw1⟩ : ∃ w1, w.alloc (.cells #[.string n, .slice sa N sc] 24) = w1 := ⟨_, rfl⟩
  have b1 : Below w.heap.size w w1 := by rw [← hw1]; exact (Below.refl _ _).alloc (Nat.le_refl _) _
  have K1 : Hid (PBlk w1 w.heap.size n (.slice sa N sc)) := Hid.of (by rw [← hw1]; exact PBlk.made w _ _)
  have HW := Hid.of hw1
  have B1 := Hid.of b1
  have HN := Hid.of hN'
  have Hn := Hid.of hn'
  obtain ⟨c0, c1⟩ := K1.out.at
  rw [← hw1] at c0 c1
  clear hw1 b1 hN' hn' hf hN
  go_enter Tryz.func9, Tryz.ntmps9
  go_wp2_with fail
  rw [HW.out]
  clear HW c0 c1
  refine (check_any _ p _ HF.out (HV.out.kept B1.out)).mono ?_
  rintro e w2 ⟨rfl, b2⟩
  have K2 := Hid.of (K1.out.kept b2)
  have B2 := Hid.of (B1.out.trans (b2.mono B1.out.size))
  clear b2 K1 B1
  by_cases hc : (pCheck p).1 = 0
  · have hpp : pPrint p = (⟨(polText p).toArray⟩, 0) := by unfold pPrint; rw [if_pos hc]
    have PP := Hid.of hpp
    have HC := Hid.of hc
    have HH : Hid ((oneLine ([tPolicy, n].map (·.data.toList))).length ≤ 1000) := Hid.of (by
      have h1 := head_len hc
      have h2 : headWords p = [tPolicy, n].map (·.data.toList) := by
        unfold headWords
        rw [Hn.out]
        rfl
      rw [h2] at h1
      omega)
    rw [hc]
    obtain ⟨c0, c1⟩ := K2.out.at
    clear hpp hc
    go_wp2_with fail
    refine (headForm_any n _).mono ?_
    rintro e w3 ⟨v3, rfl, f3, b3⟩
    have F3 := Hid.of f3
    have B3 := Hid.of (B2.out.trans (b3.mono B2.out.size))
    have K3 := Hid.of (K2.out.kept b3)
    clear f3 b3 c0 c1 K2 B2
    go_wp2_with fail
    refine (printLine_any _ v3 _ _ F3.out HH.out (by simp)).mono ?_
    rintro e w4 ⟨x, rfl, hx, b4⟩
    have B4 := Hid.of (B3.out.trans (b4.mono B3.out.size))
    have K4 := Hid.of (K3.out.kept b4)
    have I0 : Hid (x.data.toList = flatLines (headWords p :: (p.2.take 0).map tierWords)) := Hid.of (by
      rw [hx.out, List.take_zero, List.map_nil, flat_start]
      unfold headWords
      rw [Hn.out]
      rfl)
    clear b4 F3 B3 K3 hx
    obtain ⟨c0, c1⟩ := K4.out.at
    go_wp2_with fail
    clear c0 c1
    go_loopw [6, 24] (fun sv iv wr => ∃ (i : Nat) (s : ByteArray), i ≤ N ∧ iv = .int .i64 i ∧ sv = .string s ∧ Hid (s.data.toList = flatLines (headWords p :: (p.2.take i).map tierWords)) ∧ Hid (PBlk wr w.heap.size n (.slice sa N sc)) ∧ Hid (Below w.heap.size w wr)) (fun _ iv _ => N - (RowKit.intOf iv).toNat)
    case atStart => exact ⟨0, x, Nat.zero_le _, rfl, rfl, I0, K4, B4⟩
    case round =>
      clear I0 K4 B4
      obtain ⟨i, s, hi, rfl, rfl, HI, K, B⟩ := hrel
      obtain ⟨c0, c1⟩ := K.out.at
      by_cases hlt : i < N
      · have i0 : (0 : Int) ≤ (i : Int) := Int.natCast_nonneg _
        have i1 : (i : Int) < (N : Int) := by omega
        have hil : i < p.2.length := by rw [HN.out]; exact hlt
        have i9 : (i : Int) ≤ 1000000 := by have := HF.out.1; have := HN.out; omega
        obtain ⟨xt, hxt⟩ : ∃ xt, p.2[i]? = some xt := ⟨_, List.getElem?_eq_getElem hil⟩
        obtain ⟨tn, te, tk, ts⟩ := xt
        have HX := Hid.of hxt
        have hin := (pCheck_in HC.out).2.2.2 _ (List.mem_of_getElem? hxt)
        have HIN := Hid.of hin
        obtain ⟨b1, o1, rfl, g1, hc1⟩ := p_at (HSL.out.kept B.out) i _ hxt
        obtain ⟨f0, f1, f2, f3⟩ := hc1
        simp only at f0 f1 f2 f3
        obtain ⟨wa, hwa⟩ : ∃ wa, wr.alloc (.cells #[.string tn, .int .i64 te, .int .i64 tk, .int .i64 ts] 49) = wa := ⟨_, rfl⟩
        have A : Below wr.heap.size wr wa := by rw [← hwa]; exact (Below.refl _ _).alloc (Nat.le_refl _) _
        have TW : Hid (TBlk wa wr.heap.size (tn, te, tk, ts)) := Hid.of (by rw [← hwa]; exact TBlk.made wr (tn, te, tk, ts))
        have BW := Hid.of (B.out.trans (A.mono B.out.size))
        have KW := Hid.of (K.out.kept A)
        have SL : s.size ≤ 400 := by
          rw [← byte_len, HI.out]
          exact flat_part_len HC.out i
        have HWA := Hid.of hwa
        clear hxt hin hwa A
        go_wp2_with fail
        rw [HWA.out]
        clear HWA f0 f1 f2 f3 c0 c1
        generalize wr.heap.size = tb at TW ⊢
        obtain ⟨e0, e1, e2, e3⟩ := TW.out.at
        simp only at e0 e1 e2 e3
        have N0 : Hid (Nums wa) := Hid.of (HNU.out.kept BW.out)
        refine wp_region_noPanic ?_
        refine wp_region_held_drew (S := fun w' => w'.cell? ⟨tb, 0, none⟩ = some (.string tn) ∧ w'.cell? ⟨tb, 1, none⟩ = some (.int .i64 te) ∧ w'.cell? ⟨tb, 2, none⟩ = some (.int .i64 tk) ∧ w'.cell? ⟨tb, 3, none⟩ = some (.int .i64 ts)) (by kernel_rfl) ?_ (fun hHeld => ?_)
        · exact ⟨e0, e1, e2, e3⟩
        refine wpAnyH_take (i := 0) (oi := ⟨_, _, _, _, _, _⟩) (v := ?_) rfl (by kernel_rfl) (by kernel_rfl) (by kernel_rfl) (fun _ _ _ h => h) (Or.inl ⟨by rfl, ?_⟩) hHeld ?_
        rotate_left
        · intro w' hSw
          try dsimp only at hSw
          go_simp
          all_goals with_reducible rfl
        simp only [Act.put, List.setIfInBounds_toArray, List.set_cons_zero, List.set_cons_succ]
        refine wpAnyH_take (i := 1) (oi := ⟨_, _, _, _, _, _⟩) (v := ?_) rfl (by kernel_rfl) (by kernel_rfl) (by kernel_rfl) (fun _ _ _ h => h) (Or.inl ⟨by rfl, ?_⟩) hHeld ?_
        rotate_left
        · intro w' hSw
          try dsimp only at hSw
          go_simp
          all_goals with_reducible rfl
        simp only [Act.put, List.setIfInBounds_toArray, List.set_cons_zero, List.set_cons_succ]
        refine wpAnyH_take (i := 2) (oi := ⟨_, _, _, _, _, _⟩) (v := ?_) rfl (by kernel_rfl) (by kernel_rfl) (by kernel_rfl) (fun _ _ _ h => h) (Or.inl ⟨by rfl, ?_⟩) hHeld ?_
        rotate_left
        · intro w' hSw
          try dsimp only at hSw
          go_simp
          all_goals with_reducible rfl
        simp only [Act.put, List.setIfInBounds_toArray, List.set_cons_zero, List.set_cons_succ]
        refine wpAnyH_take (i := 3) (oi := ⟨_, _, _, _, _, _⟩) (v := ?_) rfl (by kernel_rfl) (by kernel_rfl) (by kernel_rfl) (fun _ _ _ h => h) (Or.inl ⟨by rfl, ?_⟩) hHeld ?_
        rotate_left
        · intro w' hSw
          try dsimp only at hSw
          go_simp
          all_goals with_reducible rfl
        simp only [Act.put, List.setIfInBounds_toArray, List.set_cons_zero, List.set_cons_succ]
        refine wpAnyH_take (i := 4) (oi := ⟨_, _, _, _, _, _⟩) (v := ?_) rfl (by kernel_rfl) (by kernel_rfl) (by kernel_rfl) (fun _ _ _ h => h) (Or.inl ⟨by rfl, ?_⟩) hHeld ?_
        rotate_left
        · intro w' hSw
          try dsimp only at hSw
          go_simp
          all_goals with_reducible rfl
        simp only [Act.put, List.setIfInBounds_toArray, List.set_cons_zero, List.set_cons_succ]
        refine wpAnyH_take (i := 6) (oi := ⟨_, _, _, _, _, _⟩) (v := ?_) rfl (by kernel_rfl) (by kernel_rfl) (by kernel_rfl) (fun _ _ _ h => h) (Or.inl ⟨by rfl, ?_⟩) hHeld ?_
        rotate_left
        · intro w' hSw
          try dsimp only at hSw
          go_simp
          all_goals with_reducible rfl
        simp only [Act.put, List.setIfInBounds_toArray, List.set_cons_zero, List.set_cons_succ]
        refine wpAnyH_take (i := 7) (oi := ⟨_, _, _, _, _, _⟩) (v := ?_) rfl (by kernel_rfl) (by kernel_rfl) (by kernel_rfl) (fun _ _ _ h => h) (Or.inl ⟨by rfl, ?_⟩) hHeld ?_
        rotate_left
        · intro w' hSw
          try dsimp only at hSw
          go_simp
          all_goals with_reducible rfl
        simp only [Act.put, List.setIfInBounds_toArray, List.set_cons_zero, List.set_cons_succ]
        refine wpAnyH_take (i := 9) (oi := ⟨_, _, _, _, _, _⟩) (v := ?_) rfl (by kernel_rfl) (by kernel_rfl) (by kernel_rfl) (fun _ _ _ h => h) (Or.inl ⟨by rfl, ?_⟩) hHeld ?_
        rotate_left
        · intro w' hSw
          try dsimp only at hSw
          go_simp
          all_goals with_reducible rfl
        simp only [Act.put, List.setIfInBounds_toArray, List.set_cons_zero, List.set_cons_succ]
        refine wpAnyH_take (i := 10) (oi := ⟨_, _, _, _, _, _⟩) (v := ?_) rfl (by kernel_rfl) (by kernel_rfl) (by kernel_rfl) (fun _ _ _ h => h) (Or.inl ⟨by rfl, ?_⟩) hHeld ?_
        rotate_left
        · intro w' hSw
          try dsimp only at hSw
          go_simp
          all_goals with_reducible rfl
        simp only [Act.put, List.setIfInBounds_toArray, List.set_cons_zero, List.set_cons_succ]
        refine wpAnyH_ready (rs := [5]) (by kernel_rfl) (by simp) ?_
        refine AllReadyH.cons (o := ⟨_, _, _, _, _, _⟩) rfl (fun K hK => ?_) AllReadyH.nil
        go_simp
        refine (Digits_str te (by have := HIN.out.2.1; simp only at this; omega) (by have := HIN.out.2.1; simp only at this; omega) _ (Hid.of (N0.out.kept (below_drewN (Below.refl _ _) 1)).tab)).mono ?_
        rintro e w5 ⟨da, rfl, hda, gr⟩
        have b5 := below_grown gr
        have c5 := (Below.refl _ _).drew.trans b5
        have B5 := Hid.of (BW.out.trans (c5.mono BW.out.size))
        have K5 := Hid.of (KW.out.kept c5)
        have T5 := Hid.of (TW.out.kept c5)
        have N5 := Hid.of (N0.out.kept c5)
        clear gr
        clear b5 c5 e0 e1 e2 e3 hHeld
        obtain ⟨e0, e1, e2, e3⟩ := T5.out.at
        simp only at e0 e1 e2 e3
        refine hK.out _ _ ⟨e0, e1, e2, e3⟩ (fun hHeld => ?_)
        clear hK K
        try simp only [Act.put, List.setIfInBounds_toArray, List.set_cons_zero, List.set_cons_succ]
        refine wpAnyH_ready (rs := [8]) (by kernel_rfl) (by simp) ?_
        refine AllReadyH.cons (o := ⟨_, _, _, _, _, _⟩) rfl (fun K hK => ?_) AllReadyH.nil
        go_simp
        refine (Digits_str tk (by have := HIN.out.2.2.1; simp only at this; omega) (by have := HIN.out.2.2.1; simp only at this; omega) _ (Hid.of N5.out.tab)).mono ?_
        rintro e w6 ⟨db, rfl, hdb, gr⟩
        have b6 := below_grown gr
        have c6 := b6
        have B6 := Hid.of (B5.out.trans (c6.mono B5.out.size))
        have K6 := Hid.of (K5.out.kept c6)
        have T6 := Hid.of (T5.out.kept c6)
        have N6 := Hid.of (N5.out.kept c6)
        clear gr
        clear b6 c6 e0 e1 e2 e3 hHeld
        obtain ⟨e0, e1, e2, e3⟩ := T6.out.at
        simp only at e0 e1 e2 e3
        refine hK.out _ _ ⟨e0, e1, e2, e3⟩ (fun hHeld => ?_)
        clear hK K
        try simp only [Act.put, List.setIfInBounds_toArray, List.set_cons_zero, List.set_cons_succ]
        refine wpAnyH_ready (rs := [11]) (by kernel_rfl) (by simp) ?_
        refine AllReadyH.cons (o := ⟨_, _, _, _, _, _⟩) rfl (fun K hK => ?_) AllReadyH.nil
        go_simp
        refine (Digits_str ts (by have := HIN.out.2.2.2; simp only at this; omega) (by have := HIN.out.2.2.2; simp only at this; omega) _ (Hid.of N6.out.tab)).mono ?_
        rintro e w7 ⟨dc, rfl, hdc, gr⟩
        have b7 := below_grown gr
        have c7 := b7
        have B7 := Hid.of (B6.out.trans (c7.mono B6.out.size))
        have K7 := Hid.of (K6.out.kept c7)
        have T7 := Hid.of (T6.out.kept c7)
        have N7 := Hid.of (N6.out.kept c7)
        clear gr
        clear b7 c7 e0 e1 e2 e3 hHeld
        obtain ⟨e0, e1, e2, e3⟩ := T7.out.at
        simp only at e0 e1 e2 e3
        refine hK.out _ _ ⟨e0, e1, e2, e3⟩ (fun hHeld => ?_)
        clear hK K
        try simp only [Act.put, List.setIfInBounds_toArray, List.set_cons_zero, List.set_cons_succ]
        refine wpAnyH_ready (rs := [12]) (by kernel_rfl) (by simp) ?_
        refine AllReadyH.cons (o := ⟨_, _, _, _, _, _⟩) rfl (fun K hK => ?_) AllReadyH.nil
        go_simp
        refine (tierForm_any tn da db dc _).mono ?_
        rintro e w8 ⟨v8, rfl, f8, b8⟩
        have c8 := b8
        have B8 := Hid.of (B7.out.trans (c8.mono B7.out.size))
        have K8 := Hid.of (K7.out.kept c8)
        have T8 := Hid.of (T7.out.kept c8)
        have N8 := Hid.of (N7.out.kept c8)
        have F8 := Hid.of f8
        clear f8
        clear b8 c8 e0 e1 e2 e3 hHeld
        obtain ⟨e0, e1, e2, e3⟩ := T8.out.at
        simp only at e0 e1 e2 e3
        refine hK.out _ _ ⟨e0, e1, e2, e3⟩ (fun hHeld => ?_)
        clear hK K
        try simp only [Act.put, List.setIfInBounds_toArray, List.set_cons_zero, List.set_cons_succ]
        refine wpAnyH_ready (rs := [13]) (by kernel_rfl) (by simp) ?_
        refine AllReadyH.cons (o := ⟨_, _, _, _, _, _⟩) rfl (fun K hK => ?_) AllReadyH.nil
        go_simp
        have hwd : [tTier, tn, tEvery, da, tKeep, db, tShards, dc].map (·.data.toList) = tierWords (tn, te, tk, ts) := by
          simp only [List.map_cons, List.map_nil, hda.out, hdb.out, hdc.out]
          rfl
        have HWD := Hid.of hwd
        clear hwd
        refine (printLine_any _ v8 _ _ F8.out (by rw [HWD.out]; have := tierLine_len HIN.out; omega) (by simp)).mono ?_
        rintro e w10 ⟨y, rfl, hy, b10⟩
        rw [HWD.out] at hy
        have ys : y.size ≤ 63 := by rw [← byte_len, hy.out, List.length_append]; have := tierLine_len HIN.out; simp only [List.length_cons, List.length_nil]; omega
        have hcat := fun w => run_string_add_sum (P := Tryz.prog) (w := w) s y (by omega)
        obtain ⟨z, hz⟩ : ∃ z : ByteArray, z = s ++ y := ⟨_, rfl⟩
        rw [← hz] at hcat
        have XZ : Hid (z.data.toList = s.data.toList ++ (oneLine (tierWords (tn, te, tk, ts)) ++ [10])) := Hid.of (by rw [hz, append_list, hy.out])
        clear ys hz hy SL
        have c10 := b10
        have B10 := Hid.of (B8.out.trans (c10.mono B8.out.size))
        have K10 := Hid.of (K8.out.kept c10)
        have T10 := Hid.of (T8.out.kept c10)
        have N10 := Hid.of (N8.out.kept c10)
        clear b10 c10 e0 e1 e2 e3 hHeld
        obtain ⟨e0, e1, e2, e3⟩ := T10.out.at
        simp only at e0 e1 e2 e3
        refine hK.out _ _ ⟨e0, e1, e2, e3⟩ (fun hHeld => ?_)
        clear hK K
        try simp only [Act.put, List.setIfInBounds_toArray, List.set_cons_zero, List.set_cons_succ]
        refine wpAnyH_take (i := 14) (oi := ⟨_, _, _, _, _, _⟩) (v := ?_) rfl (by kernel_rfl) (by kernel_rfl) (by kernel_rfl) (fun _ _ _ h => h) (Or.inl ⟨by rfl, ?_⟩) hHeld ?_
        rotate_left
        · intro w' hSw
          try dsimp only at hSw
          go_simp
          all_goals with_reducible rfl
        simp only [Act.put, List.setIfInBounds_toArray, List.set_cons_zero, List.set_cons_succ]
        refine wpAnyH_take (i := 15) (oi := ⟨_, _, _, _, _, _⟩) (v := ?_) rfl (by kernel_rfl) (by kernel_rfl) (by kernel_rfl) (fun _ _ _ h => h) (Or.inl ⟨by rfl, ?_⟩) hHeld ?_
        rotate_left
        · intro w' hSw
          try dsimp only at hSw
          go_simp
          all_goals with_reducible rfl
        simp only [Act.put, List.setIfInBounds_toArray, List.set_cons_zero, List.set_cons_succ]
        refine wpAnyH_done (by kernel_rfl) ?_ _
        refine NoPanic.normal ?_
        go_wp2
        go_roundw
        case rel =>
          refine ⟨i + 1, z, by omega, by go_num, rfl, Hid.of ?_, K10, B10⟩
          rw [List.take_add_one, HX.out, Option.toList_some, List.map_append, List.map_singleton, ← List.cons_append, flat_on, ← HI.out, XZ.out]
        case measure => simp [RowKit.intOf]; omega
      · have i1 : ¬ (i : Int) < (N : Int) := by omega
        have hiN : i = N := by omega
        have hs : s = ⟨(polText p).toArray⟩ := by
          apply same_bytes
          rw [HI.out, hiN, List.take_of_length_le (by rw [HN.out]; exact Nat.le_refl _)]
          rfl
        have HS := Hid.of hs
        clear hs hiN
        go_wp2
        go_ret2
        rw [PP.out, HS.out]
        exact ⟨rfl, B.out⟩
  · have hpp : pPrint p = (⟨#[]⟩, (pCheck p).1) := by unfold pPrint; rw [if_neg hc]
    obtain ⟨q, hq⟩ : ∃ q, (pCheck p).1 = q := ⟨_, rfl⟩
    rw [hq] at hc hpp ⊢
    have PN := Hid.of hpp
    have q1 : (q != 0) = true := by simpa using hc
    clear hpp hc hq
    go_wp2
    go_ret2
    rw [PN.out]
    exact ⟨rfl, B2.out⟩

end Go.Proofs.YtadepjpmpjipmaaGreatDoor
