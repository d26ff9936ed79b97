/-
  A bundle of texts: J BP.
-/
import Derived.Deep.QuietTactic
import Derived.BigQuiet
import Derived.Test.YtfgfgdchaoekfaaGreatDoorQ05
namespace Go.Proofs.YtfgfgdchaoekfaaGreatDoor
open Go.RowKit Go.Lib

/-- In w block u is an Unpacker of the bytes s, k of which are read, with the error bad. -/
def Un (u : Nat) (s : ByteArray) (k : Nat) (bad : Int) (w : World) : Prop :=
  w.heap[u]? = some (.cells #[.int .i64 k, .int .i64 bad, .string s] 168 (0, 0)) ∧ k ≤ s.size ∧ s.size ≤ 140737488355328

theorem Un.cells {u : Nat} {s : ByteArray} {k : Nat} {bad : Int} {w : World} (h : Un u s k bad w) :
    w.cell? ⟨u, 0, none⟩ = some (.int .i64 k) ∧ w.cell? ⟨u, 1, none⟩ = some (.int .i64 bad) ∧ w.cell? ⟨u, 2, none⟩ = some (.string s) := by
  refine ⟨?_, ?_, ?_⟩ <;> (rw [cell_of_row w u _ _ _ _ h.1]; rfl)

theorem Un.kept {u : Nat} {s : ByteArray} {k : Nat} {bad : Int} {w w' : World} (h : Un u s k bad w) (g : w.grownBy w' none) : Un u s k bad w' :=
  ⟨by rw [g.block u (Array.getElem?_eq_some_iff.1 h.1).1 (by simp)]; exact h.1, h.2⟩

theorem Un.lt {u : Nat} {s : ByteArray} {k : Nat} {bad : Int} {w : World} (h : Un u s k bad w) : u < w.heap.size := (Array.getElem?_eq_some_iff.1 h.1).1

theorem grownBy_drewN (w : World) (q : Nat) (row : Option Nat) : w.grownBy (w.drewN q) row := ⟨rfl, rfl, rfl, Nat.le_refl _, fun _ _ _ => rfl⟩

set_option maxHeartbeats 400000 in
theorem Left_Un (u : Nat) (s : ByteArray) (k : Nat) (bad : Int) (w : World) (h : Un u s k bad w) :
    Calls Tryz.prog 134 #[.pointer (some ⟨u, 0, none⟩)] w fun e w' => e = .returned (.int .i64 ((s.size - k : Nat) : Int)) ∧ w.drew = w' := by
  obtain ⟨c0, c1, c2⟩ := h.cells
  have hk := h.2.1
  have hs := h.2.2
  clear h
  go_enter Tryz.func134, Tryz.ntmps134
  go_wp2
  go_region
  all_goals (go_wp2; go_ret; exact ⟨by rw [Int.natCast_sub hk]; rfl, rfl⟩)

set_option maxHeartbeats 400000 in
theorem From_any (s : ByteArray) (w : World) (hs : s.size ≤ 140737488355328) :
    Calls Tryz.prog 92 #[.string s] w fun e w' => e = .returned (.pointer (some ⟨w.heap.size, 0, none⟩)) ∧ Un w.heap.size s 0 0 w' ∧ w.grownBy w' none := by
  go_enter Tryz.func92, Tryz.ntmps92
  go_wp2
  go_ret
  exact ⟨rfl, ⟨Go.heap_alloc_new _ _, Nat.zero_le _, hs⟩, World.grownBy_alloc _ _ _⟩

set_option maxHeartbeats 400000 in
theorem take_stopped (u : Nat) (s : ByteArray) (k : Nat) (bad : Int) (hb : (bad != 0) = true) (n : Int) (w : World) (h : Un u s k bad w) :
    Calls Tryz.prog 124 #[.pointer (some ⟨u, 0, none⟩), .int .i64 n] w fun e w' => e = .returned (.string ⟨#[]⟩) ∧ w = w' := by
  obtain ⟨c0, c1, c2⟩ := h.cells
  clear h
  go_enter Tryz.func124, Tryz.ntmps124
  go_wp2_with (go_at_call 122; refine (stopped_yes u bad hb _ c1).mono ?_; rintro e w' ⟨rfl, rfl⟩)
  go_ret
  exact ⟨rfl, rfl⟩

set_option maxHeartbeats 400000 in
theorem take_good (u : Nat) (s : ByteArray) (k n : Nat) (hn : k + n ≤ s.size) (w : World) (h : Un u s k 0 w) :
    Calls Tryz.prog 124 #[.pointer (some ⟨u, 0, none⟩), .int .i64 n] w fun e w' => e = .returned (.string (s.extract k (k + n))) ∧ Un u s (k + n) 0 w' ∧ w.grownBy w' (some u) := by
  obtain ⟨c0, c1, c2⟩ := h.cells
  have hk := h.2.1
  have hs := h.2.2
  have H := Hid.of h
  clear h
  go_enter Tryz.func124, Tryz.ntmps124
  go_wp2_with (first | (go_at_call 122; refine (stopped_no u _ c1).mono ?_; rintro e w' ⟨rfl, rfl⟩) | (go_at_call 134; refine (Left_Un u s k 0 _ H.out).mono ?_; rintro e w' ⟨rfl, rfl⟩))
  go_quiet (fail)
  go_wp2_with (go_at_call 129; refine (pass_any u k n _ (show (w.drewN (1 + nq)).cell? _ = _ from c0) (row_frozen (w := w.drewN (1 + nq)) H.out.1) (by omega) (by omega) (by omega)).mono ?_; rintro e w2 ⟨rfl, s2⟩)
  go_ret
  refine ⟨rfl, ⟨?_, by omega, hs⟩, grownBy_trans (grownBy_drewN w _ _) s2.grown⟩
  rw [s2.row (w := w.drewN (1 + nq)) H.out.1, Int.natCast_add]
  rfl

/-- What a read leaves where there is an error already, or too few bytes, or enough of them. -/
def ReadTo (u : Nat) (s : ByteArray) (k : Nat) (bad : Int) (w w' : World) : Prop := Un u s k bad w' ∧ w.grownBy w' (some u)

theorem sub_val (s : ByteArray) (k n : Nat) : val ((s.data.toList.drop k).take n) < 256 ^ n := by
  have h1 := val_lt ((s.data.toList.drop k).take n)
  have h2 : (256 : Nat) ^ ((s.data.toList.drop k).take n).length ≤ 256 ^ n := Nat.pow_le_pow_right (by decide) (List.length_take_le _ _)
  omega

set_option maxHeartbeats 400000 in
theorem Word_goodU (u : Nat) (s : ByteArray) (k : Nat) (hn : k + 8 ≤ s.size) (w : World) (h : Un u s k 0 w) :
    Calls Tryz.prog 128 #[.pointer (some ⟨u, 0, none⟩)] w fun e w' => e = .returned (.int .u64 (val ((s.data.toList.drop k).take 8))) ∧ ReadTo u s (k + 8) 0 w w' := by
  have H := Hid.of h
  clear h
  go_enter Tryz.func128, Tryz.ntmps128
  go_wp2_with (first | (go_at_call 124; refine (take_good u s k 8 hn _ H.out).mono ?_; rintro e w2 ⟨rfl, hu2, g2⟩) | (go_at_call 143; refine (value_any _ _ (by rw [extract_size s k 8 hn]; omega)).mono ?_; rintro e w3 ⟨rfl, rfl⟩))
  go_ret
  exact ⟨rfl, hu2, g2⟩

set_option maxHeartbeats 400000 in
theorem Word_stoppedU (u : Nat) (s : ByteArray) (k : Nat) (bad : Int) (hb : (bad != 0) = true) (w : World) (h : Un u s k bad w) :
    Calls Tryz.prog 128 #[.pointer (some ⟨u, 0, none⟩)] w fun e w' => e = .returned (.int .u64 0) ∧ w = w' := by
  have H := Hid.of h
  clear h
  go_enter Tryz.func128, Tryz.ntmps128
  go_wp2_with (first | (go_at_call 124; refine (take_stopped u s k bad hb 8 _ H.out).mono ?_; rintro e w2 ⟨rfl, rfl⟩) | (go_at_call 143; refine (value_nil _).mono ?_; rintro e w3 ⟨rfl, rfl⟩))
  go_ret
  exact ⟨rfl, rfl⟩

set_option maxHeartbeats 400000 in
theorem Int_goodU (u : Nat) (s : ByteArray) (k : Nat) (hn : k + 8 ≤ s.size) (w : World) (h : Un u s k 0 w) :
    Calls Tryz.prog 94 #[.pointer (some ⟨u, 0, none⟩)] w fun e w' => e = .returned (.int .i64 (wrap64 (val ((s.data.toList.drop k).take 8)))) ∧ ReadTo u s (k + 8) 0 w w' := by
  have H := Hid.of h
  clear h
  go_enter Tryz.func94, Tryz.ntmps94
  go_wp2_with (go_at_call 128; refine (Word_goodU u s k hn _ H.out).mono ?_; rintro e w2 ⟨rfl, h2⟩)
  go_ret
  exact ⟨rfl, h2⟩

set_option maxHeartbeats 400000 in
theorem Int_stoppedU (u : Nat) (s : ByteArray) (k : Nat) (bad : Int) (hb : (bad != 0) = true) (w : World) (h : Un u s k bad w) :
    Calls Tryz.prog 94 #[.pointer (some ⟨u, 0, none⟩)] w fun e w' => e = .returned (.int .i64 0) ∧ w = w' := by
  have H := Hid.of h
  clear h
  go_enter Tryz.func94, Tryz.ntmps94
  go_wp2_with (go_at_call 128; refine (Word_stoppedU u s k bad hb _ H.out).mono ?_; rintro e w2 ⟨rfl, rfl⟩)
  go_ret
  exact ⟨rfl, rfl⟩

end Go.Proofs.YtfgfgdchaoekfaaGreatDoor

namespace Go.Proofs.YtfgfgdchaoekfaaGreatDoor
open Go.RowKit Go.Lib

theorem wrapU (x : Int) : IntKind.u64.wrap x = x % 18446744073709551616 := rfl

/-- Block p is the document's Packer, with the bytes l and no error. -/
def RPk (p : Nat) (l : List UInt8) (w : World) : Prop :=
  ∃ v, w.heap[p]? = some (.cells #[v, .int .i64 0] 76 (0, 0)) ∧ w.ownsRowF (p + 1) 5 1 v l.length (Lib.byteCells l)

theorem RPk.lt {p : Nat} {l : List UInt8} {w : World} (h : RPk p l w) : p < w.heap.size := by
  obtain ⟨v, h1, _⟩ := h
  exact (Array.getElem?_eq_some_iff.1 h1).1

theorem RPk.new (w : World) : RPk w.heap.size [] (w.alloc (.cells #[.slice none 0 0, .int .i64 0] 76)) :=
  ⟨_, Go.heap_alloc_new _ _, rfl, .inl ⟨rfl, rfl⟩⟩

theorem ownsRowF_set {w : World} {base : Nat} {e : TypeId} {size : Nat} {v : Value} {n : Nat} {xs : List Value} (h : w.ownsRowF base e size v n xs) (p i : Nat) (hp : p < base) (x : Value) : (w.setCell ⟨p, i, none⟩ x).ownsRowF base e size v n xs := by
  obtain ⟨h1, h2⟩ := h
  refine ⟨h1, ?_⟩
  rcases h2 with h2 | ⟨g, cap, cur, fz, hv, hb, hh, r⟩
  · exact .inl h2
  · refine .inr ⟨g, cap, cur, fz, hv, hb, ?_, r⟩
    rw [Below.heap_setCell _ _ _ _ (by simp; omega)]
    exact hh

theorem RPk.stored {p : Nat} {l l' : List UInt8} {w w' : World} {v' : Value} (h : RPk p l w) (ho : OwnBuf (p + 1) 5 v' l'.length (Lib.byteCells l') w w') : RPk p l' (w'.setCell ⟨p, 0, none⟩ v') := by
  obtain ⟨v, h1, _⟩ := h
  refine ⟨v', ?_, ownsRowF_set ho.1 p 0 (Nat.lt_succ_self p) v'⟩
  have := row_set (w := w') (p := p) (i := 0) (by rw [ho.2.1.block p (Nat.lt_succ_self p)]; exact h1) v'
  exact this

theorem RPk.own {p : Nat} {l : List UInt8} {w : World} (h : RPk p l w) : ∃ v, w.heap[p]? = some (.cells #[v, .int .i64 0] 76 (0, 0)) ∧ OwnBuf (p + 1) 5 v l.length (Lib.byteCells l) w w := by
  have hl := h.lt
  obtain ⟨v, h1, h2⟩ := h
  exact ⟨v, h1, h2, Below.refl _ _, hl⟩

theorem OwnBuf.slice {B : Nat} {e : TypeId} {v : Value} {n : Nat} {xs : List Value} {W0 w : World} (h : OwnBuf B e v n xs W0 w) : ∃ sa c, v = .slice sa n c := by
  rcases h.1.2 with ⟨rfl, rfl⟩ | ⟨g, cap, cur, fz, rfl, _⟩
  · exact ⟨_, _, rfl⟩
  · exact ⟨_, _, rfl⟩

/-- 'string(p.B)'. -/
theorem RPk.text {p : Nat} {l : List UInt8} {w : World} {v : Value} (h : w.ownsRowF (p + 1) 5 1 v l.length (Lib.byteCells l)) (hl : 0 < l.length) :
    (convert 64 9 v).run Tryz.prog w = .ok (.string ⟨l.toArray⟩) w := by
  have hcs := h
  rcases h.2 with ⟨_, h0⟩ | ⟨g, cap, cur, fz, rfl, _⟩
  · omega
  · refine run_convert_bytes_back (P := Tryz.prog) w 64 9 5 ⟨g, 0, none⟩ cap l Tryz.underlying64 Tryz.underlying5 Tryz.underlying9 (fun j hj => ?_)
    exact hcs.cells (g := g) rfl j _ (by simp [Lib.byteCells, hj])

/-- What a call of the document's Packer leaves. -/
def RWrote (p : Nat) (l : List UInt8) (w w' : World) : Prop := RPk p l w' ∧ Below p w w'

set_option maxHeartbeats 400000 in
theorem refWord_any (p : Nat) (l : List UInt8) (m k : Nat) (hk : k ≤ 8) (hm : m < 18446744073709551616) (hl : l.length ≤ 100000000) (w : World) (h : RPk p l w) :
    Calls Tryz.prog 91 #[.pointer (some ⟨p, 0, none⟩), .int .u64 (m : Nat), .int .i64 k] w fun e w' => e = .returned (.tuple #[]) ∧ RWrote p (l ++ le k m) w w' := by
  have H := Hid.of h
  clear h
  go_enter Tryz.func91, Tryz.ntmps91
  go_wp2
  go_loopw [1, 6] (fun y i wr => ∃ (j a : Nat), j ≤ k ∧ i = .int .i64 j ∧ y = .int .u64 a ∧ a < 18446744073709551616 ∧ Hid (a = m / 256 ^ j) ∧ Hid (RPk p (l ++ le j m) wr) ∧ Below p w wr) (fun _ i _ => k - (intOf i).toNat)
  case atStart => exact ⟨0, m, Nat.zero_le _, rfl, rfl, hm, by simp [Hid], Hid.of (by simpa [le] using H.out), Below.refl _ _⟩
  case round =>
    obtain ⟨j, a, hj, rfl, rfl, ha, hja, hp, hb⟩ := hrel
    obtain ⟨v, hrow, hown⟩ := hp.out.own
    have c0 : wr.cell? ⟨p, 0, none⟩ = some v := by rw [cell_of_row wr p 0 _ _ _ hrow]; rfl
    have c1 : wr.cell? ⟨p, 1, none⟩ = some (.int .i64 0) := by rw [cell_of_row wr p 1 _ _ _ hrow]; rfl
    have hlen : (l ++ le j m).length = l.length + j := by rw [List.length_append, le_length]
    rw [hlen] at hown
    have ROW := Hid.of hrow
    clear hrow
    by_cases hlt : j < k
    · go_wp2_with (at_builtin; refine append_byte rfl _ _ rfl (p + 1) v (l.length + j) _ rfl wr _ ((a : Int) % 256) hown rfl (by omega) ?_; intro b' w1 hb1; obtain ⟨sa, sc, rfl⟩ := OwnBuf.slice hb1; have d0 : w1.cell? ⟨p, 0, none⟩ = some v := (by rw [hb1.2.1.cell (Nat.lt_succ_self p)]; exact c0); have fz : w1.frozen? ⟨p, 0, none⟩ = false := (by rw [hb1.2.1.frozen (Nat.lt_succ_self p)]; exact row_frozen ROW.out))
      go_roundw
      case rel =>
        refine ⟨j + 1, a / 256, by omega, by go_num, ?_, by omega, Hid.of ?_, Hid.of ?_, ?_⟩
        · congr 1
        · have := hja.out
          subst this
          rw [Nat.pow_succ, ← Nat.div_div_eq_div_mul]
        · have h2 : l ++ le (j + 1) m = (l ++ le j m) ++ [UInt8.ofNat a] := by rw [le_snoc, hja.out, List.append_assoc]
          have h3 : (l ++ le (j + 1) m).length = l.length + j + 1 := by rw [List.length_append, le_length]; omega
          refine hp.out.stored ?_
          rw [h3, h2, byteCells_snoc]
          exact hb1
        · exact (hb.trans (hb1.2.1.mono (Nat.le_succ p))).setCell (Nat.le_refl p) _
      case measure => simp [intOf]; omega
    · go_wp2
      go_end0
      have : j = k := by omega
      subst this
      exact ⟨rfl, hp.out, hb⟩

set_option maxHeartbeats 400000 in
theorem refInt_any (p : Nat) (l : List UInt8) (x : Int) (hl : l.length ≤ 100000000) (w : World) (h : RPk p l w) :
    Calls Tryz.prog 33 #[.pointer (some ⟨p, 0, none⟩), .int .i64 x] w fun e w' => e = .returned (.tuple #[]) ∧ RWrote p (l ++ le 8 (unsigned x).toNat) w w' := by
  obtain ⟨m, hm⟩ := Int.eq_ofNat_of_zero_le (unsigned_nonneg x)
  have e : (unsigned x).toNat = m := by rw [hm]; rfl
  rw [e]
  have hw : IntKind.u64.wrap x = (m : Int) := hm
  have HM : Hid (m < 18446744073709551616) := Hid.of (by rw [wrapU] at hw; omega)
  have H := Hid.of h
  clear h e hm
  go_enter Tryz.func33, Tryz.ntmps33
  go_wp2_with fail
  refine (refWord_any p l m 8 (by decide) HM.out hl _ H.out).mono ?_
  rintro e w1 ⟨rfl, h1⟩
  have H1 := Hid.of h1
  clear h1
  go_wp2
  go_end0
  exact ⟨rfl, H1.out⟩

set_option maxHeartbeats 400000 in
theorem little_any (s : ByteArray) (w : World) (hs : s.size ≤ 8) :
    Calls Tryz.prog 130 #[.string s] w fun e w' => e = .returned (.int .u64 (val s.data.toList)) ∧ w = w' := by
  go_enter Tryz.func130, Tryz.ntmps130
  go_wp2
  go_loop [3, 4] (fun v i => ∃ (j a : Nat), j ≤ s.size ∧ i = .int .i64 ((j : Int) - 1) ∧ v = .int .u64 a ∧ Hid (a = val (s.data.toList.drop j))) (fun _ i => (intOf i + 1).toNat)
  case atStart => exact ⟨s.size, 0, Nat.le_refl _, rfl, rfl, Hid.of (by rw [List.drop_eq_nil_of_le (by rw [byte_len]; exact Nat.le_refl _)]; rfl)⟩
  case round =>
    obtain ⟨j, a, hj, rfl, rfl, ha⟩ := hrel
    cases j with
    | zero =>
      go_wp2
      go_ret
      rw [ha.out]
      exact ⟨rfl, rfl⟩
    | succ m =>
      have hm : m < s.size := by omega
      have ei : ((m + 1 : Nat) : Int) - 1 = (m : Int) := by omega
      rw [ei]
      go_wp2
      go_round
      case rel =>
        refine ⟨m, val (s.data.toList.drop m), by omega, rfl, ?_, Hid.of rfl⟩
        rw [val_drop _ _ (by rw [byte_len]; exact hm), ← ha.out]
        have hlt : a * 256 < 18446744073709551616 := by
          have h1 := val_lt (s.data.toList.drop (m + 1))
          rw [← ha.out, List.length_drop, byte_len] at h1
          have h2 : (256 : Nat) ^ (s.size - (m + 1)) ≤ 256 ^ 7 := Nat.pow_le_pow_right (by decide) (by omega)
          omega
        have hb : (s[m]'hm).toNat < 256 := (s[m]'hm).toNat_lt
        have hg : s.data.toList[m]'(by rw [byte_len]; exact hm) = s[m]'hm := rfl
        rw [hg]
        rw [wrapU, wrapU, wrapU]
        congr 1
        omega
      case measure => simp [intOf]

/-- Block u is the document's Unpacker, with the text r left and no error. -/
def RUn (u : Nat) (r : ByteArray) (w : World) : Prop := w.heap[u]? = some (.cells #[.string r, .int .i64 0] 82 (0, 0))

theorem RUn.lt {u : Nat} {r : ByteArray} {w : World} (h : RUn u r w) : u < w.heap.size := (Array.getElem?_eq_some_iff.1 h).1

theorem RUn.kept {u : Nat} {r : ByteArray} {w w' : World} (h : RUn u r w) (g : w.grownBy w' none) : RUn u r w' := by
  unfold RUn
  rw [g.block u h.lt (by simp)]
  exact h

theorem RUn.new (w : World) (r : ByteArray) : RUn w.heap.size r (w.alloc (.cells #[.string r, .int .i64 0] 82)) := Go.heap_alloc_new _ _

set_option maxHeartbeats 400000 in
theorem refTake_good (u : Nat) (r : ByteArray) (n : Nat) (hn : n ≤ r.size) (w : World) (h : RUn u r w) :
    Calls Tryz.prog 97 #[.pointer (some ⟨u, 0, none⟩), .int .i64 n] w fun e w' => e = .returned (.string (r.extract 0 n)) ∧ RUn u (r.extract n r.size) w' ∧ w.grownBy w' (some u) := by
  have c0 : w.cell? ⟨u, 0, none⟩ = some (.string r) := by rw [cell_of_row w u 0 _ _ _ h]; rfl
  have c1 : w.cell? ⟨u, 1, none⟩ = some (.int .i64 0) := by rw [cell_of_row w u 1 _ _ _ h]; rfl
  have fz := row_frozen (i := 0) h
  have H := Hid.of h
  clear h
  go_enter Tryz.func97, Tryz.ntmps97
  go_wp2
  go_ret
  exact ⟨rfl, row_set H.out _, grownBy_setCell _ _ _ _⟩

set_option maxHeartbeats 400000 in
theorem refWord_goodU (u : Nat) (r : ByteArray) (hn : 8 ≤ r.size) (w : World) (h : RUn u r w) :
    Calls Tryz.prog 99 #[.pointer (some ⟨u, 0, none⟩)] w fun e w' => e = .returned (.int .u64 (val (r.data.toList.take 8))) ∧ RUn u (r.extract 8 r.size) w' ∧ w.grownBy w' (some u) := by
  have H := Hid.of h
  have HT : Hid ((r.extract 0 8).size = 8) := Hid.of (by rw [ByteArray.size_extract]; omega)
  have HV : Hid ((r.extract 0 8).data.toList = r.data.toList.take 8) := Hid.of (by simp)
  clear h
  go_enter Tryz.func99, Tryz.ntmps99
  go_wp2_with fail
  refine (refTake_good u r 8 hn _ H.out).mono ?_
  rintro e w2 ⟨rfl, h2, g2⟩
  go_wp2_with fail
  refine (little_any _ _ (by rw [HT.out]; exact Nat.le_refl _)).mono ?_
  rintro e w3 ⟨rfl, rfl⟩
  rw [HV.out]
  go_wp2
  go_ret
  exact ⟨rfl, h2, g2⟩

set_option maxHeartbeats 400000 in
theorem refInt_goodU (u : Nat) (r : ByteArray) (hn : 8 ≤ r.size) (w : World) (h : RUn u r w) :
    Calls Tryz.prog 37 #[.pointer (some ⟨u, 0, none⟩)] w fun e w' => e = .returned (.int .i64 (wrap64 (val (r.data.toList.take 8)))) ∧ RUn u (r.extract 8 r.size) w' ∧ w.grownBy w' (some u) := by
  have H := Hid.of h
  clear h
  go_enter Tryz.func37, Tryz.ntmps37
  go_wp2_with (go_at_call 99; refine (refWord_goodU u r hn _ H.out).mono ?_; rintro e w2 ⟨rfl, h2⟩)
  go_ret
  exact ⟨rfl, h2⟩

end Go.Proofs.YtfgfgdchaoekfaaGreatDoor
