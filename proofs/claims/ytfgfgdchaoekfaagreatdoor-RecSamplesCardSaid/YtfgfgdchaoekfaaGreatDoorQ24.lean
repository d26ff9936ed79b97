/-
  A bundle of texts: REM REP REK RVA RLY.
-/
import Derived.Test.YtfgfgdchaoekfaaGreatDoorQ23
import Derived.Test.YtfgfgdchaoekfaaGreatDoorQ19
import Derived.Test.YtfgfgdchaoekfaaGreatDoorQ16
import Derived.Test.YtfgfgdchaoekfaaGreatDoorQ11
import Derived.Test.YtfgfgdchaoekfaaGreatDoorQ20
import Derived.Test.YtfgfgdchaoekfaaGreatDoorQ14
namespace Go.Proofs.YtfgfgdchaoekfaaGreatDoor
open Go.RowKit Go.Lib

/-- Bytes as a text. -/
def txt (l : List UInt8) : ByteArray := ⟨l.toArray⟩
theorem txt_list (l : List UInt8) : (txt l).data.toList = l := rfl
theorem txt_size (l : List UInt8) : (txt l).size = l.length := by
  show l.toArray.size = _
  rw [List.size_toArray]
theorem txt_of (s : ByteArray) : txt s.data.toList = s := by
  apply ByteArray.ext
  exact Array.ext' rfl

/-- A record by value. -/
abbrev rcv (x : TRec) : Value := .agg #[.string x.n, .int .i64 x.s, .int .i64 x.a.c, .int .i64 x.a.hi, .int .u64 x.a.lo, .int .i64 x.a.mn, .int .i64 x.a.mx]

/-- What came in as a sample. -/
def SmIn (s : SamL) : Prop := s.1.size ≤ maxLen ∧ TIn64 s.2.1 ∧ TIn64 s.2.2

/-- A sample by value. -/
abbrev smv (x : SamL) : Value := .agg #[.string x.1, .int .i64 x.2.1, .int .i64 x.2.2]

/-- May a record, a sample be put? -/
def rcOk (x : TRec) : Bool := nOk x.n && decide (0 ≤ x.s) && decide (x.s ≤ 1099511627776) && agOk x.a
def smOk (x : SamL) : Bool := nOk x.1 && decide (0 ≤ x.2.1) && decide (x.2.1 ≤ 1099511627776)

/-- Their bytes. -/
def rcBytes (x : TRec) : List UInt8 := nameBytes x.n ++ (le 8 (unsigned x.s).toNat ++ agBytes x.a)
def smBytes (x : SamL) : List UInt8 := nameBytes x.1 ++ (le 8 (unsigned x.2.1).toNat ++ le 8 (unsigned x.2.2).toNat)

/-- What Put answers. -/
def rcPut (l : List TRec) : ByteArray × Int := if l.all rcOk = true then (txt (l.flatMap rcBytes), 0) else (⟨#[]⟩, 1)
def smPut (l : List SamL) : ByteArray × Int := if l.all smOk = true then (txt (l.flatMap smBytes), 0) else (⟨#[]⟩, 1)

/-- The sixteen bytes of a name, read. -/
def nmLen (b : List UInt8) : Nat := (b.headD 0).toNat
def nmOk (b : List UInt8) : Bool := decide (nmLen b ≤ 15) && (b.drop (1 + nmLen b)).all fun x => decide (x = 0)
def nmText (b : List UInt8) : ByteArray := if nmOk b = true then txt ((b.drop 1).take (nmLen b)) else ⟨#[]⟩

/-- A record, a sample of its bytes. -/
def rcRead (b : List UInt8) : TRec := ⟨nmText (b.take 16), wrap64 (val ((b.drop 16).take 8)), agRead (txt ((b.drop 24).take 40))⟩
def rcGood (b : List UInt8) : Bool := nmOk (b.take 16) && rcOk (rcRead b)
def smRead (b : List UInt8) : SamL := (nmText (b.take 16), wrap64 (val ((b.drop 16).take 8)), wrap64 (val ((b.drop 24).take 8)))
def smGood (b : List UInt8) : Bool := nmOk (b.take 16) && smOk (smRead b)

/-- The j-th part of k bytes. -/
def chk (k : Nat) (b : List UInt8) (j : Nat) : List UInt8 := (b.drop (k * j)).take k

/-- What Get answers. -/
def rcGet (s : ByteArray) : List TRec × Int := if s.size % 64 ≠ 0 then ([], 5) else if (List.range (s.size / 64)).all (fun j => rcGood (chk 64 s.data.toList j)) = true then ((List.range (s.size / 64)).map fun j => rcRead (chk 64 s.data.toList j), 0) else ([], 6)
def smGet (s : ByteArray) : List SamL × Int := if s.size % 32 ≠ 0 then ([], 5) else if (List.range (s.size / 32)).all (fun j => smGood (chk 32 s.data.toList j)) = true then ((List.range (s.size / 32)).map fun j => smRead (chk 32 s.data.toList j), 0) else ([], 6)

theorem nOk_len {s : ByteArray} (h : nOk s = true) : 1 ≤ s.size ∧ s.size ≤ 15 := by
  by_cases c : s.size < 1 ∨ 15 < s.size
  · rw [nOk_size c] at h
    cases h
  · omega

theorem nm_read {t : ByteArray} (ht : t.size ≤ 15) : nmOk (nameBytes t) = true ∧ nmText (nameBytes t) = t := by
  have e : nmLen (nameBytes t) = t.size := by
    unfold nmLen nameBytes
    show (UInt8.ofNat t.size).toNat = _
    simp
    omega
  have d : (nameBytes t).drop (1 + t.size) = List.replicate (15 - t.size) 0 := by
    unfold nameBytes
    rw [List.append_assoc, show [UInt8.ofNat t.size] ++ (t.data.toList ++ List.replicate (15 - t.size) 0) = UInt8.ofNat t.size :: (t.data.toList ++ List.replicate (15 - t.size) 0) from rfl, Nat.add_comm, List.drop_succ_cons, ← byte_len t, List.drop_left]
  have ok : nmOk (nameBytes t) = true := by
    unfold nmOk
    rw [e, d, decide_eq_true ht, Bool.true_and, List.all_eq_true]
    intro x hx
    rw [List.eq_of_mem_replicate hx]
    rfl
  refine ⟨ok, ?_⟩
  unfold nmText
  rw [if_pos ok, e]
  have x : ((nameBytes t).drop 1).take t.size = t.data.toList := by
    have this : (nameBytes t).drop 1 = t.data.toList ++ List.replicate (15 - t.size) 0 := by
      unfold nameBytes
      rw [List.append_assoc]
      rfl
    rw [this, ← byte_len t, List.take_left]
  rw [x]
  exact txt_of t

/-- Sixteen bytes that are a name's are just those that are laid of it. -/
theorem nm_back {b : List UInt8} (hb : b.length = 16) (h : nmOk b = true) : b = nameBytes (nmText b) ∧ (nmText b).size = nmLen b ∧ nmLen b ≤ 15 := by
  have h0 := h
  unfold nmOk at h
  rw [Bool.and_eq_true, decide_eq_true_eq, List.all_eq_true] at h
  obtain ⟨h1, h2⟩ := h
  have e : nmText b = txt ((b.drop 1).take (nmLen b)) := by unfold nmText; rw [if_pos h0]
  have sz : (nmText b).size = nmLen b := by
    rw [e, txt_size, List.length_take, List.length_drop]
    omega
  refine ⟨?_, sz, h1⟩
  obtain ⟨x, r, rfl⟩ : ∃ x r, b = x :: r := by
    cases b with
    | nil => cases hb
    | cons x r => exact ⟨x, r, rfl⟩
  have hx : nmLen (x :: r) = x.toNat := rfl
  have hd : (x :: r).drop (1 + nmLen (x :: r)) = List.replicate (15 - nmLen (x :: r)) 0 := by
    refine List.eq_replicate_iff.2 ⟨?_, fun y hy => of_decide_eq_true (h2 y hy)⟩
    rw [List.length_drop, hb]
    omega
  unfold nameBytes
  rw [sz, e, txt_list]
  have hr : r = r.take (nmLen (x :: r)) ++ r.drop (nmLen (x :: r)) := (List.take_append_drop _ _).symm
  rw [Nat.add_comm, List.drop_succ_cons] at hd
  have hu : UInt8.ofNat (nmLen (x :: r)) = x := by rw [hx]; simp
  rw [hu]
  show x :: r = (x :: (r.take (nmLen (x :: r)))) ++ List.replicate (15 - nmLen (x :: r)) 0
  rw [← hd, List.cons_append]
  congr 1

theorem rcBytes_len {x : TRec} (h : x.n.size ≤ 15) : (rcBytes x).length = 64 := by
  unfold rcBytes
  rw [List.length_append, List.length_append, nameBytes_length _ h, le_length, agBytes_len]

theorem smBytes_len {x : SamL} (h : x.1.size ≤ 15) : (smBytes x).length = 32 := by
  unfold smBytes
  rw [List.length_append, List.length_append, nameBytes_length _ h, le_length, le_length]

theorem uns_lt (x : Int) : (unsigned x).toNat < 18446744073709551616 := by
  unfold unsigned
  rw [wrapU]
  omega

theorem uns_back (x : Int) (h : -9223372036854775808 ≤ x ∧ x ≤ 9223372036854775807) : wrap64 (((unsigned x).toNat : Nat) : Int) = x := by
  rw [i64_wrap]
  have : (((unsigned x).toNat : Nat) : Int) = x % 18446744073709551616 := by
    unfold unsigned
    rw [wrapU]
    omega
  rw [this]
  unfold w64
  omega

theorem piece_val {l : List UInt8} {pre post : List UInt8} {x k : Nat} (hl : l = pre ++ (le 8 x ++ post)) (hk : pre.length = k) (hx : x < 18446744073709551616) : val ((l.drop k).take 8) = x := by
  subst hk hl
  rw [List.drop_left, List.take_append_of_le_length (by rw [le_length]; exact Nat.le_refl _), List.take_of_length_le (by rw [le_length]; exact Nat.le_refl _)]
  exact val_le 8 x hx

theorem agRead_back (a : Ag) (h : AgIn a) : agRead (agText a) = a := by
  obtain ⟨h0, h1, h2, h3, h4⟩ := h
  have hb : (agText a).data.toList = agBytes a := by simp [agText]
  have c0 : chunk (agText a) 0 = (unsigned a.c).toNat := by
    unfold chunk
    rw [hb]
    exact piece_val (pre := []) (by unfold agBytes; simp only [List.append_assoc, List.nil_append]; rfl) rfl (uns_lt _)
  have c1 : chunk (agText a) 8 = (unsigned a.hi).toNat := by
    unfold chunk
    rw [hb]
    exact piece_val (pre := le 8 (unsigned a.c).toNat) (by unfold agBytes; simp only [List.append_assoc]; rfl) (by simp [le_length]) (uns_lt _)
  have c2 : chunk (agText a) 16 = a.lo.toNat := by
    unfold chunk
    rw [hb]
    exact piece_val (pre := le 8 (unsigned a.c).toNat ++ le 8 (unsigned a.hi).toNat) (by unfold agBytes; simp only [List.append_assoc]; rfl) (by simp [le_length]) (by omega)
  have c3 : chunk (agText a) 24 = (unsigned a.mn).toNat := by
    unfold chunk
    rw [hb]
    exact piece_val (pre := le 8 (unsigned a.c).toNat ++ le 8 (unsigned a.hi).toNat ++ le 8 a.lo.toNat) (by unfold agBytes; simp only [List.append_assoc]; rfl) (by simp [le_length]) (uns_lt _)
  have c4 : chunk (agText a) 32 = (unsigned a.mx).toNat := by
    unfold chunk
    rw [hb]
    exact piece_val (pre := le 8 (unsigned a.c).toNat ++ le 8 (unsigned a.hi).toNat ++ le 8 a.lo.toNat ++ le 8 (unsigned a.mn).toNat) (post := []) (by unfold agBytes; simp only [List.append_assoc, List.append_nil]) (by simp [le_length]) (uns_lt _)
  apply Ag.same
  · simp only [agRead, c0]; exact uns_back _ h0
  · simp only [agRead, c1]; exact uns_back _ h1
  · simp only [agRead, c2]; omega
  · simp only [agRead, c3]; exact uns_back _ h3
  · simp only [agRead, c4]; exact uns_back _ h4

theorem agText_txt (a : Ag) : agText a = txt (agBytes a) := rfl

/-- What was laid is read. -/
theorem rcRead_bytes {x : TRec} (ok : rcOk x = true) (hs : -9223372036854775808 ≤ x.s ∧ x.s ≤ 9223372036854775807) (ha : AgIn x.a) : rcRead (rcBytes x) = x ∧ rcGood (rcBytes x) = true := by
  have ok0 := ok
  unfold rcOk at ok
  simp only [Bool.and_eq_true, decide_eq_true_eq] at ok
  have ln := (nOk_len ok.1.1.1).2
  have l16 := nameBytes_length x.n ln
  have r := nm_read ln
  have t1 : (rcBytes x).take 16 = nameBytes x.n := by
    unfold rcBytes
    rw [← l16, List.take_left]
  have t2 : wrap64 (((val (((rcBytes x).drop 16).take 8)) : Nat) : Int) = x.s := by
    rw [piece_val (l := rcBytes x) (pre := nameBytes x.n) (post := agBytes x.a) (x := (unsigned x.s).toNat) rfl l16 (uns_lt _)]
    exact uns_back _ hs
  have t3 : ((rcBytes x).drop 24).take 40 = agBytes x.a := by
    have e : rcBytes x = (nameBytes x.n ++ le 8 (unsigned x.s).toNat) ++ agBytes x.a := by unfold rcBytes; rw [List.append_assoc]
    have l24 : (nameBytes x.n ++ le 8 (unsigned x.s).toNat).length = 24 := by rw [List.length_append, l16, le_length]
    rw [e, ← l24, List.drop_left, List.take_of_length_le (by rw [agBytes_len]; exact Nat.le_refl _)]
  have e : rcRead (rcBytes x) = x := by
    unfold rcRead
    rw [t1, t2, t3, r.2, ← agText_txt, agRead_back _ ha]
  refine ⟨e, ?_⟩
  unfold rcGood
  rw [e, ok0, t1, r.1]
  rfl

/-- Parts of equal length, one behind the other. -/
theorem parts_len {α : Type} {k : Nat} {f : α → List UInt8} {l : List α} (h : ∀ x ∈ l, (f x).length = k) : (l.flatMap f).length = k * l.length := by
  induction l with
  | nil => simp
  | cons x l ih =>
    rw [List.flatMap_cons, List.length_append, h x (List.mem_cons_self ..), ih (fun y hy => h y (List.mem_cons_of_mem _ hy)), List.length_cons, Nat.mul_succ, Nat.add_comm]

theorem chk_at {α : Type} {k : Nat} {f : α → List UInt8} {l : List α} (h : ∀ x ∈ l, (f x).length = k) {j : Nat} {x : α} (hj : l[j]? = some x) : chk k (l.flatMap f) j = f x := by
  induction l generalizing j with
  | nil => cases hj
  | cons y l ih =>
    have hy := h y (List.mem_cons_self ..)
    have hl : ∀ z ∈ l, (f z).length = k := fun z hz => h z (List.mem_cons_of_mem _ hz)
    cases j with
    | zero =>
      rw [List.getElem?_cons_zero] at hj
      cases hj
      unfold chk
      rw [Nat.mul_zero, List.drop_zero, List.flatMap_cons, ← hy, List.take_left]
    | succ j =>
      rw [List.getElem?_cons_succ] at hj
      rw [← ih hl hj]
      unfold chk
      rw [List.flatMap_cons, Nat.mul_succ, Nat.add_comm, ← List.drop_drop, ← hy, List.drop_left]

theorem rcGet_put {l : List TRec} (ok : l.all rcOk = true) (fit : ∀ x ∈ l, (-9223372036854775808 ≤ x.s ∧ x.s ≤ 9223372036854775807) ∧ AgIn x.a) : rcGet (txt (l.flatMap rcBytes)) = (l, 0) ∧ (txt (l.flatMap rcBytes)).size = 64 * l.length := by
  rw [List.all_eq_true] at ok
  have hl : ∀ x ∈ l, (rcBytes x).length = 64 := fun x hx => rcBytes_len (by
    have h := ok x hx
    unfold rcOk at h
    simp only [Bool.and_eq_true] at h
    exact (nOk_len h.1.1.1).2)
  have sz : (txt (l.flatMap rcBytes)).size = 64 * l.length := by rw [txt_size, parts_len hl]
  refine ⟨?_, sz⟩
  have r : ∀ j x, l[j]? = some x → rcRead (chk 64 (txt (l.flatMap rcBytes)).data.toList j) = x ∧ rcGood (chk 64 (txt (l.flatMap rcBytes)).data.toList j) = true := fun j x hj => by
    rw [txt_list, chk_at hl hj]
    have hx := List.mem_of_getElem? hj
    exact rcRead_bytes (ok x hx) (fit x hx).1 (fit x hx).2
  unfold rcGet
  rw [sz, if_neg (by omega), show 64 * l.length / 64 = l.length by omega, if_pos]
  · congr 1
    apply List.ext_getElem?
    intro j
    rw [List.getElem?_map]
    by_cases c : j < l.length
    · rw [List.getElem?_range c, List.getElem?_eq_getElem c]
      exact congrArg some (r j _ (List.getElem?_eq_getElem c)).1
    · have h1 : (List.range l.length)[j]? = none := List.getElem?_eq_none (by rw [List.length_range]; omega)
      have h2 : l[j]? = none := List.getElem?_eq_none (by omega)
      rw [h1, h2]
      rfl
  · rw [List.all_eq_true]
    intro j hj
    have c := List.mem_range.1 hj
    exact (r j _ (List.getElem?_eq_getElem c)).2

end Go.Proofs.YtfgfgdchaoekfaaGreatDoor

namespace Go.Proofs.YtfgfgdchaoekfaaGreatDoor
open Go.RowKit Go.Lib

/-- Package rec: each call, as the document says it. -/
structure RecSpec where
  Ok : World → Prop
  kept : ∀ {w w'}, Ok w → Below w.heap.size w w' → Ok w'
  valid : ∀ (x : TRec) (w : World), Ok w → TFit x → Calls Tryz.prog 15 #[rcv x] w fun e w' => e = .returned (.bool (rcOk x)) ∧ Below w.heap.size w w'
  put : ∀ (v : Value) (l : List TRec) (w : World), Ok w → CellRow w v l.length (flat renc (l.map rl)) → l.length ≤ 1000 → (∀ x ∈ l, TFit x) → Calls Tryz.prog 8 #[v] w fun e w' => e = .returned (.tuple #[.string (rcPut l).1, .int .i64 (rcPut l).2]) ∧ Below w.heap.size w w'
  get : ∀ (s : ByteArray) (w : World), Ok w → s.size ≤ 100000 → Calls Tryz.prog 10 #[.string s] w fun e w' => ∃ u, e = .returned (.tuple #[u, .int .i64 (rcGet s).2]) ∧ w'.ownsRow w.heap.size 50 7 u ((rcGet s).1.map rl).length (flat renc ((rcGet s).1.map rl)) ∧ Below w.heap.size w w'
  putS : ∀ (v : Value) (l : List SamL) (w : World), Ok w → CellRow w v l.length (flat aenc l) → l.length ≤ 1000 → (∀ x ∈ l, SmIn x) → Calls Tryz.prog 20 #[v] w fun e w' => e = .returned (.tuple #[.string (smPut l).1, .int .i64 (smPut l).2]) ∧ Below w.heap.size w w'
  getS : ∀ (s : ByteArray) (w : World), Ok w → s.size ≤ 100000 → Calls Tryz.prog 22 #[.string s] w fun e w' => ∃ u, e = .returned (.tuple #[u, .int .i64 (smGet s).2]) ∧ w'.ownsRow w.heap.size 107 3 u (smGet s).1.length (flat aenc (smGet s).1) ∧ Below w.heap.size w w'

theorem rc_ints (x : Int) (h : -9223372036854775808 ≤ x ∧ x ≤ 9223372036854775807) : Ints [x] := fun y hy => by rw [List.mem_singleton.1 hy]; exact h
theorem rc_num (w : World) (x : Int) (T : TypeId) : NumRow .i64 (w.alloc (.cells #[.int .i64 x] T)) (.slice (some ⟨w.heap.size, 0, none⟩) 1 1) [x] :=
  CellRow.ints (xs := [x]) ⟨_, _, rfl, .inr ⟨w.heap.size, 0, rfl, by simp, new_cells w #[.int .i64 x] T⟩⟩
def rcA : TRec := ⟨⟨#[97]⟩, 5, ⟨1, 0, 7, 7, 7⟩⟩
theorem rcA_of : agOf [7] = rcA.a := by kernel_rfl
theorem rcA_ok : rcOk rcA = true := by kernel_rfl
theorem rcA_fit : TFit rcA := by
  refine ⟨by unfold maxLen; decide, by unfold TIn64 rcA; decide, ?_⟩
  unfold AgIn rcA
  decide
theorem rcA_row (w : World) (T : TypeId) : CellRow (w.alloc (.cells #[.string rcA.n, .int .i64 rcA.s, .int .i64 rcA.a.c, .int .i64 rcA.a.hi, .int .u64 rcA.a.lo, .int .i64 rcA.a.mn, .int .i64 rcA.a.mx] T)) (.slice (some ⟨w.heap.size, 0, none⟩) 1 1) [rcA].length (flat renc ([rcA].map rl)) := by
  refine ⟨_, _, rfl, .inr ⟨w.heap.size, 0, rfl, by simp, ?_⟩⟩
  show Cells _ _ _ (flat renc [_])
  rw [flat_one]
  exact new_cells w _ T
theorem rcA_put : ∃ t, rcPut [rcA] = (t, 0) ∧ t.size = 64 ∧ rcGet t = ([rcA], 0) := by
  have h := rcGet_put (l := [rcA]) (by simp [rcA_ok]) (fun x hx => by rw [List.mem_singleton.1 hx]; exact ⟨rcA_fit.2.1, rcA_fit.2.2⟩)
  refine ⟨_, ?_, h.2, h.1⟩
  unfold rcPut
  rw [if_pos (by simp [rcA_ok])]

set_option maxRecDepth 20000 in
set_option maxHeartbeats 3200000 in
theorem recAlive_any (S : RecSpec) (w : World) (hS : S.Ok w) : Calls Tryz.prog 6 #[] w fun e w' => e = .returned (.bool true) ∧ Below w.heap.size w w' := by
  have OK := Hid.of hS
  obtain ⟨t, ht, hts, htg⟩ := rcA_put
  have HT := Hid.of ht
  have HTS := Hid.of hts
  have HTG := Hid.of htg
  have ts : (t.size : Int) = 64 := by rw [hts]; rfl
  clear ht hts htg hS
  go_enter Tryz.func6, Tryz.ntmps6
  go_wp2_with fail
  refine (aggOf_any _ [7] _ (rc_num w 7 3) (rc_ints 7 (by decide)) (by simp)).mono ?_
  rintro e w2 ⟨rfl, b2⟩
  rw [rcA_of]
  have B2 := Hid.of (((Below.refl w.heap.size w).alloc (Nat.le_refl _) (.cells #[.int .i64 7] 3)).trans (b2.mono (by simp)))
  clear b2
  go_wp2_with fail
  obtain ⟨w3, hw3⟩ : ∃ w3, w2.alloc (.cells #[.string ⟨#[97]⟩, .int .i64 5, .int .i64 rcA.a.c, .int .i64 rcA.a.hi, .int .u64 rcA.a.lo, .int .i64 rcA.a.mn, .int .i64 rcA.a.mx] 50) = w3 := ⟨_, rfl⟩
  have RW : Hid (CellRow w3 (.slice (some ⟨w2.heap.size, 0, none⟩) 1 1) [rcA].length (flat renc ([rcA].map rl))) := Hid.of (by rw [← hw3]; exact rcA_row w2 _)
  have b3 : Below w2.heap.size w2 w3 := by rw [← hw3]; exact (Below.refl _ _).alloc (Nat.le_refl _) _
  have B3 := Hid.of (B2.out.trans (b3.mono B2.out.size))
  rw [hw3]
  clear hw3 b3 B2
  refine (S.put _ [rcA] _ (S.kept OK.out B3.out) RW.out (by decide) (fun x hx => by rw [List.mem_singleton.1 hx]; exact rcA_fit)).mono ?_
  rintro e w4 ⟨rfl, b4⟩
  rw [HT.out]
  simp only
  have B4 := Hid.of (B3.out.trans (b4.mono B3.out.size))
  clear b4 B3 RW
  go_wp2_with fail
  refine (S.get t _ (S.kept OK.out B4.out) (by rw [HTS.out]; decide)).mono ?_
  rintro e w5 ⟨u, rfl, ou, b5⟩
  rw [HTG.out] at ou ⊢
  simp only at ou ⊢
  have B5 := Hid.of (B4.out.trans (b5.mono B4.out.size))
  obtain ⟨ua, uc, hu, -⟩ := own_one ou
  have hu2 : u = .slice ua 1 uc := hu
  subst hu2
  obtain ⟨ub, uo, hua, ul, d0, d1, d2, d3, d4, d5, d6⟩ := r_at (own_row ou) 0 (rl rcA) rfl
  subst hua
  simp only [Nat.zero_mul, Nat.add_zero, rl] at d0 d1 d2 d3 d4 d5 d6
  clear b5 B4 ou hu
  go_wp2_with fail
  refine (S.valid rcA _ (S.kept OK.out B5.out) rcA_fit).mono ?_
  rintro e w6 ⟨rfl, b6⟩
  rw [rcA_ok]
  have B6 := Hid.of (B5.out.trans (b6.mono B5.out.size))
  clear b6 B5 d0 d1 d2 d3 d4 d5 d6
  go_wp2
  go_ret
  exact ⟨rfl, B6.out⟩

end Go.Proofs.YtfgfgdchaoekfaaGreatDoor

namespace Go.Proofs.YtfgfgdchaoekfaaGreatDoor
open Go.RowKit Go.Lib

theorem dw_head {p : UInt8 → Bool} : ∀ (l : List UInt8) (y : UInt8) (r : List UInt8), l.dropWhile p = y :: r → p y = false := by
  intro l
  induction l with
  | nil => intro y r h; cases h
  | cons x l ih =>
    intro y r h
    rw [List.dropWhile_cons] at h
    by_cases c : p x = true
    · rw [if_pos c] at h
      exact ih y r h
    · rw [if_neg c] at h
      cases h
      simpa using c

theorem dw_nil {p : UInt8 → Bool} : ∀ (l : List UInt8), l.dropWhile p = [] → ∀ x ∈ l, p x = true := by
  intro l
  induction l with
  | nil => intro _ x hx; cases hx
  | cons y l ih =>
    intro h x hx
    rw [List.dropWhile_cons] at h
    by_cases c : p y = true
    · rw [if_pos c] at h
      rcases List.mem_cons.1 hx with rfl | hx
      · exact c
      · exact ih h x hx
    · rw [if_neg c] at h
      cases h

theorem trim_nil {l : List UInt8} (h : Lib.trimB l 0 = []) : ∀ x ∈ l, x = 0 := by
  unfold Lib.trimB Lib.trimLeftB Lib.trimRightB at h
  have h := dw_nil _ h
  have h2 : l.reverse.dropWhile (fun x => x == 0) = [] := by
    cases hd : l.reverse.dropWhile (fun x => x == 0) with
    | nil => rfl
    | cons y r =>
      have h1 := h y (by rw [List.mem_reverse, hd]; exact List.mem_cons_self ..)
      have h3 := dw_head _ _ _ hd
      rw [h1] at h3
      cases h3
  have h2 := dw_nil _ h2
  intro x hx
  have := h2 x (List.mem_reverse.2 hx)
  simpa using this

theorem Trim_some (s : ByteArray) (w : World) (h : ∃ x ∈ s.data.toList, x ≠ 0) (hm : s.size ≤ 1000000) :
    Calls Tryz.prog 125 #[.string s, .string ⟨#[0]⟩] w fun e w' => ∃ t : ByteArray, e = .returned (.string t) ∧ t.toList.isEmpty = false ∧ w.grownBy w' none := by
  refine (Tryz.strings_Trim_one s 0 (by decide) w (by omega)).mono ?_
  rintro e w' ⟨rfl, hw⟩
  refine ⟨_, rfl, ?_, ?_⟩
  · obtain ⟨x, hx, hx0⟩ := h
    have hne : Lib.trimB s.data.toList 0 ≠ [] := fun c => hx0 (trim_nil c x hx)
    rw [ByteArray.toList_eq]
    show (Lib.trimB s.data.toList 0).isEmpty = false
    cases hc : Lib.trimB s.data.toList 0 with
    | nil => exact absurd hc hne
    | cons _ _ => rfl
  · rcases hw with rfl | rfl
    · exact grownBy_refl _ _
    · exact grownBy_drew (grownBy_refl _ _)

set_option maxRecDepth 20000 in
set_option maxHeartbeats 800000 in
theorem Name_badU (u : Nat) (s : ByteArray) (k : Nat) (hn : k + 16 ≤ s.size) (hnm : Hid (nmOk ((s.data.toList.drop k).take 16) = false)) (w : World) (h : Un u s k 0 w) :
    Calls Tryz.prog 93 #[.pointer (some ⟨u, 0, none⟩)] w fun e w' => e = .returned (.string ⟨#[]⟩) ∧ ReadTo u s (k + 16) 6 w w' := by
  have H := Hid.of h
  clear h
  go_enter Tryz.func93, Tryz.ntmps93
  go_wp2_with fail
  refine (take_goodN u s k 16 hn _ H.out).mono ?_
  rintro e w2 ⟨b, rfl, hb, hbs, hu2, g2⟩
  have h0 : 0 < b.size := by have := hbs.out; omega
  have hbe : b.toList.isEmpty = false := name_some hbs.out
  have HU := Hid.of hu2
  have G2 := Hid.of g2
  clear hu2 g2
  have BAD : Hid (nmOk b.data.toList = false) := Hid.of (by rw [hb.out]; exact hnm.out)
  obtain ⟨m, hm⟩ : ∃ m, (b[0]'h0).toNat = m := ⟨_, rfl⟩
  have HM : Hid (nmLen b.data.toList = m) := Hid.of (by
    rw [← hm]
    have e1 : b.data.toList[0]? = some (b[0]'h0) := by
      rw [List.getElem?_eq_getElem (by rw [byte_len]; exact h0)]
      rfl
    unfold nmLen
    rw [List.headD_eq_head?_getD, List.head?_eq_getElem?, e1]
    rfl)
  have m9 : m < 256 := by rw [← hm]; exact (b[0]'h0).toNat_lt
  by_cases h15 : m ≤ 15
  · have h16 : ¬ (16 : Int) < 1 + (m : Int) := by omega
    have hsz := hbs.out
    have hb1 : 1 + m ≤ b.size := by omega
    have ex : ∃ x ∈ (b.extract (1 + m) 16).data.toList, x ≠ 0 := by
      have e0 : 16 = 1 + m + (15 - m) := by omega
      rw [e0, extract_list, List.take_of_length_le (by rw [List.length_drop, byte_len]; omega)]
      have h := BAD.out
      unfold nmOk at h
      rw [HM.out, decide_eq_true h15, Bool.true_and, List.all_eq_false] at h
      obtain ⟨x, hx, hx0⟩ := h
      exact ⟨x, hx, fun c => hx0 (decide_eq_true c)⟩
    have EX := Hid.of ex
    clear ex
    go_wp2_with (first | (go_at_call 125; refine (Trim_some _ _ EX.out (by rw [ByteArray.size_extract]; omega)).mono ?_; rintro e w3 ⟨t, rfl, hte, g3⟩; have h3 := HU.out.kept g3) | (go_at_call 126; refine (stop_no u 6 _ h3.cells.2.1 (row_frozen h3.1)).mono ?_; rintro e w4 ⟨rfl, s4⟩))
    go_ret
    exact ⟨rfl, ⟨s4.row h3.1, h3.2⟩, grownBy_trans G2.out (grownBy_trans (grownBy_weak g3) s4.grown)⟩
  · have h16 : (16 : Int) < 1 + (m : Int) := by omega
    have hu := HU.out
    go_wp2_with (go_at_call 126; refine (stop_no u 6 _ hu.cells.2.1 (row_frozen hu.1)).mono ?_; rintro e w4 ⟨rfl, s4⟩)
    go_ret
    exact ⟨rfl, ⟨s4.row hu.1, hu.2⟩, grownBy_trans G2.out s4.grown⟩

theorem Name_anyU (u : Nat) (s : ByteArray) (k : Nat) (hn : k + 16 ≤ s.size) (w : World) (h : Un u s k 0 w) :
    Calls Tryz.prog 93 #[.pointer (some ⟨u, 0, none⟩)] w fun e w' => e = .returned (.string (nmText ((s.data.toList.drop k).take 16))) ∧ ReadTo u s (k + 16) (if nmOk ((s.data.toList.drop k).take 16) = true then 0 else 6) w w' := by
  have hl : ((s.data.toList.drop k).take 16).length = 16 := by rw [List.length_take, List.length_drop, byte_len]; omega
  by_cases c : nmOk ((s.data.toList.drop k).take 16) = true
  · obtain ⟨h1, h2, h3⟩ := nm_back hl c
    rw [if_pos c]
    exact Name_goodU u s _ k (by omega) hn (Hid.of h1) w h
  · have e : nmText ((s.data.toList.drop k).take 16) = ⟨#[]⟩ := by unfold nmText; rw [if_neg c]
    rw [if_neg c, e]
    exact Name_badU u s k hn (Hid.of (by simpa using c)) w h

end Go.Proofs.YtfgfgdchaoekfaaGreatDoor

namespace Go.Proofs.YtfgfgdchaoekfaaGreatDoor
open Go.RowKit Go.Lib

/-- A variable that holds a record, a sample. -/
def RcBk (w : World) (b : Nat) (x : TRec) : Prop := w.heap[b]? = some (.cells #[.string x.n, .int .i64 x.s, .int .i64 x.a.c, .int .i64 x.a.hi, .int .u64 x.a.lo, .int .i64 x.a.mn, .int .i64 x.a.mx] 50 (0, 0))
theorem RcBk.at {w : World} {b : Nat} {x : TRec} (h : RcBk w b x) : w.cell? ⟨b, 0, none⟩ = some (.string x.n) ∧ w.cell? ⟨b, 1, none⟩ = some (.int .i64 x.s) ∧ w.cell? ⟨b, 2, none⟩ = some (.int .i64 x.a.c) ∧ w.cell? ⟨b, 3, none⟩ = some (.int .i64 x.a.hi) ∧ w.cell? ⟨b, 4, none⟩ = some (.int .u64 x.a.lo) ∧ w.cell? ⟨b, 5, none⟩ = some (.int .i64 x.a.mn) ∧ w.cell? ⟨b, 6, none⟩ = some (.int .i64 x.a.mx) := by
  refine ⟨?_, ?_, ?_, ?_, ?_, ?_, ?_⟩ <;> (rw [cell_of_row w b _ _ _ _ h]; rfl)
theorem RcBk.next {w w' : World} {b : Nat} {x : TRec} (h : RcBk w b x) (c : Below w.heap.size w w') : RcBk w' b x := (c.block b (Array.getElem?_eq_some_iff.1 h).1).trans h
def SmBk (w : World) (b : Nat) (x : SamL) : Prop := w.heap[b]? = some (.cells #[.string x.1, .int .i64 x.2.1, .int .i64 x.2.2] 107 (0, 0))
theorem SmBk.at {w : World} {b : Nat} {x : SamL} (h : SmBk w b x) : w.cell? ⟨b, 0, none⟩ = some (.string x.1) ∧ w.cell? ⟨b, 1, none⟩ = some (.int .i64 x.2.1) ∧ w.cell? ⟨b, 2, none⟩ = some (.int .i64 x.2.2) := by
  refine ⟨?_, ?_, ?_⟩ <;> (rw [cell_of_row w b _ _ _ _ h]; rfl)
theorem SmBk.next {w w' : World} {b : Nat} {x : SamL} (h : SmBk w b x) (c : Below w.heap.size w w') : SmBk w' b x := (c.block b (Array.getElem?_eq_some_iff.1 h).1).trans h

theorem one_name (w : World) (s : ByteArray) (T : TypeId) : CellRow (w.alloc (.cells #[.string s] T)) (.slice (some ⟨w.heap.size, 0, none⟩) 1 1) [s].length ([s].map Value.string) :=
  ⟨_, _, rfl, .inr ⟨w.heap.size, 0, rfl, by simp, new_cells w #[.string s] T⟩⟩

theorem isTime_any (x : Int) (w : World) : Calls Tryz.prog 41 #[.int .i64 x] w fun e w' => e = .returned (.bool (decide (0 ≤ x) && decide (x ≤ 1099511627776))) ∧ w' = w := by
  by_cases h0 : 0 ≤ x
  · have h0b : decide (0 ≤ x) = true := decide_eq_true h0
    by_cases h1 : x ≤ 1099511627776
    · have h1b : decide (x ≤ 1099511627776) = true := decide_eq_true h1
      rw [h0b, h1b]
      go_enter Tryz.func41, Tryz.ntmps41
      go_wp2
      go_ret
      exact ⟨rfl, rfl⟩
    · have h1b : decide (x ≤ 1099511627776) = false := decide_eq_false h1
      rw [h0b, h1b]
      go_enter Tryz.func41, Tryz.ntmps41
      go_wp2
      go_ret
      exact ⟨rfl, rfl⟩
  · have h0b : decide (0 ≤ x) = false := decide_eq_false h0
    rw [h0b]
    go_enter Tryz.func41, Tryz.ntmps41
    go_wp2
    go_ret
    exact ⟨rfl, rfl⟩

set_option maxRecDepth 20000 in
set_option maxHeartbeats 1600000 in
theorem recValid_any (x : TRec) (hx : TFit x) (w : World) :
    Calls Tryz.prog 15 #[rcv x] w fun e w' => e = .returned (.bool (rcOk x)) ∧ Below w.heap.size w w' := by
  obtain ⟨y, hy⟩ : ∃ y, nOk x.n = y := ⟨_, rfl⟩
  obtain ⟨t, ht⟩ : ∃ t, (decide (0 ≤ x.s) && decide (x.s ≤ 1099511627776)) = t := ⟨_, rfl⟩
  obtain ⟨z, hz⟩ : ∃ z, agOk x.a = z := ⟨_, rfl⟩
  have res : rcOk x = (y && t && z) := by unfold rcOk; rw [hy, hz, ← ht]; simp only [Bool.and_assoc]
  obtain ⟨ok, hok⟩ : ∃ ok, rcOk x = ok := ⟨_, rfl⟩
  rw [hok] at res ⊢
  have RES := Hid.of res
  have HY := Hid.of hy
  have HZ := Hid.of hz
  have HT := Hid.of ht
  have HX := Hid.of hx
  obtain ⟨b, hb⟩ : ∃ b, w.heap.size = b := ⟨_, rfl⟩
  obtain ⟨w1, hw1⟩ : ∃ w1, w.alloc (.cells #[.string x.n, .int .i64 x.s, .int .i64 x.a.c, .int .i64 x.a.hi, .int .u64 x.a.lo, .int .i64 x.a.mn, .int .i64 x.a.mx] 50) = w1 := ⟨_, rfl⟩
  have b1 : Below w.heap.size w w1 := by rw [← hw1]; exact (Below.refl _ _).alloc (Nat.le_refl _) _
  have B1 := Hid.of b1
  have R1 : Hid (RcBk w1 b x) := Hid.of (by rw [← hw1, ← hb]; exact Go.heap_alloc_new _ _)
  have HW := Hid.of hw1
  have HB := Hid.of hb
  clear hy hz ht res hx hb hw1 b1 hok
  go_enter Tryz.func15, Tryz.ntmps15
  go_upto_region 1 with fail
  rw [HW.out, HB.out]
  obtain ⟨c0, c1, c2, c3, c4, c5, c6⟩ := R1.out.at
  go_wp2_with fail
  refine (valid_any _ [x.n] _ (one_name _ _ _) (by simp) (fun s hs => by rw [List.mem_singleton.1 hs]; exact HX.out.1)).mono ?_
  rintro e w2 ⟨rfl, q, hw2⟩
  have b2 : Below w1.heap.size w1 w2 := by rw [hw2]; exact below_drewN ((Below.refl _ _).alloc (Nat.le_refl _) _) q
  rw [List.all_cons, HY.out, List.all_nil, Bool.and_true]
  have R2 := Hid.of (R1.out.next b2)
  have B2 := Hid.of (B1.out.trans (b2.mono B1.out.size))
  clear b2 hw2 c0 c1 c2 c3 c4 c5 c6
  obtain ⟨c0, c1, c2, c3, c4, c5, c6⟩ := R2.out.at
  cases y
  · have ho : ok = false := by rw [RES.out]; rfl
    subst ho
    go_wp2
    go_ret
    exact ⟨rfl, B2.out⟩
  · go_wp2_with fail
    refine (isTime_any x.s _).mono ?_
    rintro e w3 ⟨rfl, rfl⟩
    rw [HT.out]
    cases t
    · have ho : ok = false := by rw [RES.out]; rfl
      subst ho
      go_wp2
      go_ret
      exact ⟨rfl, B2.out⟩
    · have ho : ok = z := by rw [RES.out]; rfl
      subst ho
      go_wp2_with fail
      refine (aggValid_any x.a _).mono ?_
      rintro e w4 ⟨rfl, b4⟩
      rw [HZ.out]
      have B4 := Hid.of (B2.out.trans (b4.mono B2.out.size))
      clear b4
      go_wp2
      go_ret
      exact ⟨rfl, B4.out⟩

set_option maxRecDepth 20000 in
set_option maxHeartbeats 1600000 in
theorem isSample_any (x : SamL) (hx : SmIn x) (w : World) :
    Calls Tryz.prog 77 #[smv x] w fun e w' => e = .returned (.bool (smOk x)) ∧ Below w.heap.size w w' := by
  obtain ⟨y, hy⟩ : ∃ y, nOk x.1 = y := ⟨_, rfl⟩
  obtain ⟨t, ht⟩ : ∃ t, (decide (0 ≤ x.2.1) && decide (x.2.1 ≤ 1099511627776)) = t := ⟨_, rfl⟩
  have res : smOk x = (y && t) := by unfold smOk; rw [hy, ← ht]; simp only [Bool.and_assoc]
  obtain ⟨ok, hok⟩ : ∃ ok, smOk x = ok := ⟨_, rfl⟩
  rw [hok] at res ⊢
  have RES := Hid.of res
  have HY := Hid.of hy
  have HT := Hid.of ht
  have HX := Hid.of hx
  obtain ⟨b, hb⟩ : ∃ b, w.heap.size = b := ⟨_, rfl⟩
  obtain ⟨w1, hw1⟩ : ∃ w1, w.alloc (.cells #[.string x.1, .int .i64 x.2.1, .int .i64 x.2.2] 107) = w1 := ⟨_, rfl⟩
  have b1 : Below w.heap.size w w1 := by rw [← hw1]; exact (Below.refl _ _).alloc (Nat.le_refl _) _
  have B1 := Hid.of b1
  have R1 : Hid (SmBk w1 b x) := Hid.of (by rw [← hw1, ← hb]; exact Go.heap_alloc_new _ _)
  have HW := Hid.of hw1
  have HB := Hid.of hb
  clear hy ht res hx hb hw1 b1 hok
  go_enter Tryz.func77, Tryz.ntmps77
  go_upto_region 1 with fail
  rw [HW.out, HB.out]
  obtain ⟨c0, c1, c2⟩ := R1.out.at
  go_wp2_with fail
  refine (valid_any _ [x.1] _ (one_name _ _ _) (by simp) (fun s hs => by rw [List.mem_singleton.1 hs]; exact HX.out.1)).mono ?_
  rintro e w2 ⟨rfl, q, hw2⟩
  have b2 : Below w1.heap.size w1 w2 := by rw [hw2]; exact below_drewN ((Below.refl _ _).alloc (Nat.le_refl _) _) q
  rw [List.all_cons, HY.out, List.all_nil, Bool.and_true]
  have R2 := Hid.of (R1.out.next b2)
  have B2 := Hid.of (B1.out.trans (b2.mono B1.out.size))
  clear b2 hw2 c0 c1 c2
  obtain ⟨c0, c1, c2⟩ := R2.out.at
  cases y
  · have ho : ok = false := by rw [RES.out]; rfl
    subst ho
    go_wp2
    go_ret
    exact ⟨rfl, B2.out⟩
  · go_wp2_with fail
    refine (isTime_any x.2.1 _).mono ?_
    rintro e w3 ⟨rfl, rfl⟩
    rw [HT.out]
    have ho : ok = t := by rw [RES.out]; rfl
    subst ho
    go_wp2
    go_ret
    exact ⟨rfl, B2.out⟩

end Go.Proofs.YtfgfgdchaoekfaaGreatDoor

namespace Go.Proofs.YtfgfgdchaoekfaaGreatDoor
open Go.RowKit Go.Lib

theorem one_num (w : World) (x : Int) (T : TypeId) : NumRow .i64 (w.alloc (.cells #[.int .i64 x] T)) (.slice (some ⟨w.heap.size, 0, none⟩) 1 1) [x] :=
  CellRow.ints (xs := [x]) ⟨_, _, rfl, .inr ⟨w.heap.size, 0, rfl, by simp, new_cells w #[.int .i64 x] T⟩⟩
theorem two_num (w : World) (x y : Int) (T : TypeId) : NumRow .i64 (w.alloc (.cells #[.int .i64 x, .int .i64 y] T)) (.slice (some ⟨w.heap.size, 0, none⟩) 2 2) [x, y] :=
  CellRow.ints (xs := [x, y]) ⟨_, _, rfl, .inr ⟨w.heap.size, 0, rfl, by simp, new_cells w #[.int .i64 x, .int .i64 y] T⟩⟩
theorem one_str (w : World) (s : ByteArray) (T : TypeId) : StrRow (w.alloc (.cells #[.string s] T)) (.slice (some ⟨w.heap.size, 0, none⟩) 1 1) [s] :=
  StrRow.made w T [s] #[.string s] rfl _ _ _ rfl rfl
theorem names_one (s : ByteArray) : [] ++ namesBytes [s] = nameBytes s := by simp [namesBytes]
theorem small_one (x : Int) : smallBytes 8 ([x].map unsigned) = le 8 (unsigned x).toNat := by simp [smallBytes]
theorem small_two (x y : Int) : smallBytes 8 ([x, y].map unsigned) = le 8 (unsigned x).toNat ++ le 8 (unsigned y).toNat := by simp [smallBytes]

set_option maxRecDepth 20000 in
set_option maxHeartbeats 1600000 in
theorem layRecord_any (x : TRec) (hx : TFit x) (ok : rcOk x = true) (w : World) :
    Calls Tryz.prog 30 #[rcv x] w fun e w' => e = .returned (.string (txt (rcBytes x))) ∧ Below w.heap.size w w' := by
  have hk := ok
  unfold rcOk at hk
  simp only [Bool.and_eq_true] at hk
  have hns := (nOk_len hk.1.1.1).2
  have HAG := Hid.of hk.2
  have HNS := Hid.of hns
  have HX := Hid.of hx
  have LN := Hid.of (nameBytes_length x.n hns)
  obtain ⟨b, hb⟩ : ∃ b, w.heap.size = b := ⟨_, rfl⟩
  obtain ⟨w1, hw1⟩ : ∃ w1, w.alloc (.cells #[.string x.n, .int .i64 x.s, .int .i64 x.a.c, .int .i64 x.a.hi, .int .u64 x.a.lo, .int .i64 x.a.mn, .int .i64 x.a.mx] 50) = w1 := ⟨_, rfl⟩
  have b1 : Below w.heap.size w w1 := by rw [← hw1]; exact (Below.refl _ _).alloc (Nat.le_refl _) _
  have B1 := Hid.of b1
  have R1 : Hid (RcBk w1 b x) := Hid.of (by rw [← hw1, ← hb]; exact Go.heap_alloc_new _ _)
  have HW := Hid.of hw1
  have HB := Hid.of hb
  clear hk hns hx ok hb hw1 b1
  go_enter Tryz.func30, Tryz.ntmps30
  go_upto_region 1 with fail
  rw [HW.out, HB.out]
  clear HW HB
  obtain ⟨p, hp⟩ : ∃ p, w1.heap.size = p := ⟨_, rfl⟩
  obtain ⟨w2, hw2⟩ : ∃ w2, w1.alloc (.cells #[.int .i64 0, .int .i64 0, .pointer none] 118) = w2 := ⟨_, rfl⟩
  have b2 : Below w1.heap.size w1 w2 := by rw [← hw2]; exact (Below.refl _ _).alloc (Nat.le_refl _) _
  have P2 : Hid (Pk p p [] 0 w2) := Hid.of (by rw [← hw2, ← hp]; exact Pk.new w1)
  have R2 := Hid.of (R1.out.next b2)
  have C2 : Hid (Below p w1 w2) := Hid.of (by rw [← hp]; exact b2)
  have GP : Hid (w.heap.size ≤ p) := Hid.of (by have := B1.out.size; omega)
  have NB : Hid (b < p) := Hid.of (by have := (Array.getElem?_eq_some_iff.1 R1.out).1; omega)
  have HW := Hid.of hw2
  have HP := Hid.of hp
  clear hw2 hp b2
  go_upto_region 2 with fail
  rw [HW.out, HP.out]
  clear HW R1
  obtain ⟨c0, c1, c2, c3, c4, c5, c6⟩ := R2.out.at
  go_wp2_with fail
  obtain ⟨w3, hw3⟩ : ∃ w3, w2.alloc (.cells #[.string x.n] 9) = w3 := ⟨_, rfl⟩
  have b3 : Below w2.heap.size w2 w3 := by rw [← hw3]; exact (Below.refl _ _).alloc (Nat.le_refl _) _
  have N3 : Hid (StrRow w3 (.slice (some ⟨w2.heap.size, 0, none⟩) 1 1) [x.n]) := Hid.of (by rw [← hw3]; exact one_str w2 x.n _)
  rw [hw3]
  clear hw3
  have P3 := Hid.of (P2.out.kept (grown_of_below b3))
  have R3 := Hid.of (R2.out.next b3)
  have C3 := Hid.of (C2.out.trans (b3.mono (by have := pk_lt P2.out; omega)))
  clear b3 P2 R2 C2 c0 c1 c2 c3 c4 c5 c6
  refine (Names_pk P3.out (by decide) _ [x.n] N3.out (by intro j hj; obtain rfl : j = 0 := (by simp at hj; omega); exact HNS.out) (by simp)).mono ?_
  rintro e w4 ⟨rfl, p4, g4⟩
  rw [names_one] at p4
  have P4 := Hid.of p4
  have R4 : Hid (RcBk w4 b x) := Hid.of ((g4.block b (Array.getElem?_eq_some_iff.1 R3.out).1 (by simp; have := NB.out; omega)).trans R3.out)
  have C4 := Hid.of (C3.out.trans (Below.of_grown g4 (Nat.le_refl _) (pk_lt P3.out)))
  clear p4 g4 P3 R3 C3 N3
  obtain ⟨c0, c1, c2, c3, c4, c5, c6⟩ := R4.out.at
  go_wp2_with fail
  obtain ⟨w5, hw5⟩ : ∃ w5, w4.alloc (.cells #[.int .i64 x.s] 3) = w5 := ⟨_, rfl⟩
  have b5 : Below w4.heap.size w4 w5 := by rw [← hw5]; exact (Below.refl _ _).alloc (Nat.le_refl _) _
  have N5 : Hid (NumRow .i64 w5 (.slice (some ⟨w4.heap.size, 0, none⟩) 1 1) [x.s]) := Hid.of (by rw [← hw5]; exact one_num w4 x.s _)
  rw [hw5]
  clear hw5
  have P5 := Hid.of (P4.out.kept (grown_of_below b5))
  have R5 := Hid.of (R4.out.next b5)
  have C5 := Hid.of (C4.out.trans (b5.mono (by have := pk_lt P4.out; omega)))
  clear b5 P4 R4 C4 c0 c1 c2 c3 c4 c5 c6
  refine (Ints_pk P5.out (by rw [LN.out]; decide) _ [x.s] N5.out (by simp)).mono ?_
  rintro e w6 ⟨rfl, p6, g6⟩
  rw [small_one] at p6
  have P6 := Hid.of p6
  have R6 : Hid (RcBk w6 b x) := Hid.of ((g6.block b (Array.getElem?_eq_some_iff.1 R5.out).1 (by simp; have := NB.out; omega)).trans R5.out)
  have C6 := Hid.of (C5.out.trans (Below.of_grown g6 (Nat.le_refl _) (pk_lt P5.out)))
  clear p6 g6 P5 R5 C5 N5
  go_wp2_with fail
  refine (Done_good _ _ _ _ P6.out (by rw [List.length_append, LN.out, le_length]; decide)).mono ?_
  rintro e w7 ⟨rfl, b7⟩
  have R7 := Hid.of (R6.out.next b7)
  have C7 := Hid.of (C6.out.trans (b7.mono (by have := pk_lt P6.out; omega)))
  clear b7 P6 R6 C6
  obtain ⟨c0, c1, c2, c3, c4, c5, c6⟩ := R7.out.at
  obtain ⟨hd, hhd⟩ : ∃ hd : ByteArray, (⟨(nameBytes x.n ++ le 8 (unsigned x.s).toNat).toArray⟩ : ByteArray) = hd := ⟨_, rfl⟩
  have hds : hd.size = 24 := by
    rw [← hhd]
    show (nameBytes x.n ++ le 8 (unsigned x.s).toNat).toArray.size = 24
    rw [List.size_toArray, List.length_append, LN.out, le_length]
  have HHD := Hid.of hhd
  have HDS := Hid.of hds
  rw [hhd]
  clear hhd hds
  go_wp2_with fail
  refine (aggPut_any x.a HX.out.2.2 _).mono ?_
  rintro e w8 ⟨rfl, b8⟩
  rw [if_pos HAG.out, if_pos HAG.out]
  have C8 := Hid.of (C7.out.trans (b8.mono (by have := C7.out.size; have := HP.out; omega)))
  have B8 := Hid.of (B1.out.trans (C8.out.mono GP.out))
  have AS := Hid.of (agText_size x.a)
  have res : txt (rcBytes x) = hd ++ agText x.a := by
    apply ByteArray.ext
    rw [← HHD.out]
    unfold txt rcBytes agText
    apply Array.ext'
    simp
  obtain ⟨ag, hag⟩ : ∃ ag, agText x.a = ag := ⟨_, rfl⟩
  rw [hag] at AS res ⊢
  have RES := Hid.of res
  clear b8 R7 C7 C8 c0 c1 c2 c3 c4 c5 c6 res HHD
  have hcat := fun w => run_string_add_sum (P := Tryz.prog) (w := w) hd ag (by rw [HDS.out, AS.out]; decide)
  clear hag
  go_wp2
  go_ret
  exact ⟨by rw [RES.out]; rfl, B8.out⟩

set_option maxRecDepth 20000 in
set_option maxHeartbeats 1600000 in
theorem laySample_any (x : SamL) (ok : smOk x = true) (w : World) :
    Calls Tryz.prog 78 #[smv x] w fun e w' => e = .returned (.string (txt (smBytes x))) ∧ Below w.heap.size w w' := by
  have hk := ok
  unfold smOk at hk
  simp only [Bool.and_eq_true] at hk
  have hns := (nOk_len hk.1.1).2
  have HNS := Hid.of hns
  have LN := Hid.of (nameBytes_length x.1 hns)
  obtain ⟨b, hb⟩ : ∃ b, w.heap.size = b := ⟨_, rfl⟩
  obtain ⟨w1, hw1⟩ : ∃ w1, w.alloc (.cells #[.string x.1, .int .i64 x.2.1, .int .i64 x.2.2] 107) = w1 := ⟨_, rfl⟩
  have b1 : Below w.heap.size w w1 := by rw [← hw1]; exact (Below.refl _ _).alloc (Nat.le_refl _) _
  have B1 := Hid.of b1
  have R1 : Hid (SmBk w1 b x) := Hid.of (by rw [← hw1, ← hb]; exact Go.heap_alloc_new _ _)
  have HW := Hid.of hw1
  have HB := Hid.of hb
  clear hk hns ok hb hw1 b1
  go_enter Tryz.func78, Tryz.ntmps78
  go_upto_region 1 with fail
  rw [HW.out, HB.out]
  clear HW HB
  obtain ⟨p, hp⟩ : ∃ p, w1.heap.size = p := ⟨_, rfl⟩
  obtain ⟨w2, hw2⟩ : ∃ w2, w1.alloc (.cells #[.int .i64 0, .int .i64 0, .pointer none] 118) = w2 := ⟨_, rfl⟩
  have b2 : Below w1.heap.size w1 w2 := by rw [← hw2]; exact (Below.refl _ _).alloc (Nat.le_refl _) _
  have P2 : Hid (Pk p p [] 0 w2) := Hid.of (by rw [← hw2, ← hp]; exact Pk.new w1)
  have R2 := Hid.of (R1.out.next b2)
  have C2 : Hid (Below p w1 w2) := Hid.of (by rw [← hp]; exact b2)
  have GP : Hid (w.heap.size ≤ p) := Hid.of (by have := B1.out.size; omega)
  have NB : Hid (b < p) := Hid.of (by have := (Array.getElem?_eq_some_iff.1 R1.out).1; omega)
  have HW := Hid.of hw2
  have HP := Hid.of hp
  clear hw2 hp b2
  go_upto_region 2 with fail
  rw [HW.out, HP.out]
  clear HW R1
  obtain ⟨c0, c1, c2⟩ := R2.out.at
  go_wp2_with fail
  obtain ⟨w3, hw3⟩ : ∃ w3, w2.alloc (.cells #[.string x.1] 9) = w3 := ⟨_, rfl⟩
  have b3 : Below w2.heap.size w2 w3 := by rw [← hw3]; exact (Below.refl _ _).alloc (Nat.le_refl _) _
  have N3 : Hid (StrRow w3 (.slice (some ⟨w2.heap.size, 0, none⟩) 1 1) [x.1]) := Hid.of (by rw [← hw3]; exact one_str w2 x.1 _)
  rw [hw3]
  clear hw3
  have P3 := Hid.of (P2.out.kept (grown_of_below b3))
  have R3 := Hid.of (R2.out.next b3)
  have C3 := Hid.of (C2.out.trans (b3.mono (by have := pk_lt P2.out; omega)))
  clear b3 P2 R2 C2 c0 c1 c2
  refine (Names_pk P3.out (by decide) _ [x.1] N3.out (by intro j hj; obtain rfl : j = 0 := (by simp at hj; omega); exact HNS.out) (by simp)).mono ?_
  rintro e w4 ⟨rfl, p4, g4⟩
  rw [names_one] at p4
  have P4 := Hid.of p4
  have R4 : Hid (SmBk w4 b x) := Hid.of ((g4.block b (Array.getElem?_eq_some_iff.1 R3.out).1 (by simp; have := NB.out; omega)).trans R3.out)
  have C4 := Hid.of (C3.out.trans (Below.of_grown g4 (Nat.le_refl _) (pk_lt P3.out)))
  clear p4 g4 P3 R3 C3 N3
  obtain ⟨c0, c1, c2⟩ := R4.out.at
  go_wp2_with fail
  obtain ⟨w5, hw5⟩ : ∃ w5, w4.alloc (.cells #[.int .i64 x.2.1, .int .i64 x.2.2] 3) = w5 := ⟨_, rfl⟩
  have b5 : Below w4.heap.size w4 w5 := by rw [← hw5]; exact (Below.refl _ _).alloc (Nat.le_refl _) _
  have N5 : Hid (NumRow .i64 w5 (.slice (some ⟨w4.heap.size, 0, none⟩) 2 2) [x.2.1, x.2.2]) := Hid.of (by rw [← hw5]; exact two_num w4 x.2.1 x.2.2 _)
  rw [hw5]
  clear hw5
  have P5 := Hid.of (P4.out.kept (grown_of_below b5))
  have C5 := Hid.of (C4.out.trans (b5.mono (by have := pk_lt P4.out; omega)))
  clear b5 P4 R4 C4 c0 c1 c2
  refine (Ints_pk P5.out (by rw [LN.out]; decide) _ [x.2.1, x.2.2] N5.out (by simp)).mono ?_
  rintro e w6 ⟨rfl, p6, g6⟩
  rw [small_two] at p6
  have P6 := Hid.of p6
  have C6 := Hid.of (C5.out.trans (Below.of_grown g6 (Nat.le_refl _) (pk_lt P5.out)))
  clear p6 g6 P5 C5 N5
  go_wp2_with fail
  refine (Done_good _ _ _ _ P6.out (by simp [LN.out, le_length])).mono ?_
  rintro e w7 ⟨rfl, b7⟩
  have C7 := Hid.of (C6.out.trans (b7.mono (by have := pk_lt P6.out; omega)))
  have B7 := Hid.of (B1.out.trans (C7.out.mono GP.out))
  obtain ⟨tx, htx⟩ : ∃ t : ByteArray, (⟨(nameBytes x.1 ++ (le 8 (unsigned x.2.1).toNat ++ le 8 (unsigned x.2.2).toNat)).toArray⟩ : ByteArray) = t := ⟨_, rfl⟩
  have RES : Hid (txt (smBytes x) = tx) := Hid.of (by rw [← htx]; rfl)
  rw [htx]
  clear b7 P6 C6 C7 htx
  go_wp2
  go_ret
  exact ⟨by rw [RES.out]; rfl, B7.out⟩

end Go.Proofs.YtfgfgdchaoekfaaGreatDoor
