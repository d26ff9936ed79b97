/-
  The document's own Packer and Unpacker (package sedimentref1): Word and Int of both, take, little.
-/
import Derived.Test.YtfoffoiimlgoeaaJ
import Derived.Test.YtfoffoiimlgoeaaF
namespace Go.Proofs.Ytfoffoiimlgoeaa
open Go.RowKit Go.Lib

theorem wrapU (x : Int) : IntKind.u64.wrap x = x % 18446744073709551616 := rfl

/-- Block p is the document's Packer, with the bytes l and no error. -/
def RPk (p : Nat) (l : List UInt8) (w : World) : Prop :=
  ∃ v, w.heap[p]? = some (.cells #[v, .int .i64 0] 62 (0, 0)) ∧ w.ownsRowF (p + 1) 5 1 v l.length (Lib.byteCells l)

theorem RPk.lt {p : Nat} {l : List UInt8} {w : World} (h : RPk p l w) : p < w.heap.size := by
  obtain ⟨v, h1, _⟩ := h
  exact (Array.getElem?_eq_some_iff.1 h1).1

theorem RPk.new (w : World) : RPk w.heap.size [] (w.alloc (.cells #[.slice none 0 0, .int .i64 0] 62)) :=
  ⟨_, Go.heap_alloc_new _ _, rfl, .inl ⟨rfl, rfl⟩⟩

theorem ownsRowF_set {w : World} {base : Nat} {e : TypeId} {size : Nat} {v : Value} {n : Nat} {xs : List Value} (h : w.ownsRowF base e size v n xs) (p i : Nat) (hp : p < base) (x : Value) : (w.setCell ⟨p, i, none⟩ x).ownsRowF base e size v n xs := by
  obtain ⟨h1, h2⟩ := h
  refine ⟨h1, ?_⟩
  rcases h2 with h2 | ⟨g, cap, cur, fz, hv, hb, hh, r⟩
  · exact .inl h2
  · refine .inr ⟨g, cap, cur, fz, hv, hb, ?_, r⟩
    rw [Below.heap_setCell _ _ _ _ (by simp; omega)]
    exact hh

theorem RPk.stored {p : Nat} {l l' : List UInt8} {w w' : World} {v' : Value} (h : RPk p l w) (ho : OwnBuf (p + 1) 5 v' l'.length (Lib.byteCells l') w w') : RPk p l' (w'.setCell ⟨p, 0, none⟩ v') := by
  obtain ⟨v, h1, _⟩ := h
  refine ⟨v', ?_, ownsRowF_set ho.1 p 0 (Nat.lt_succ_self p) v'⟩
  have := row_set (w := w') (p := p) (i := 0) (by rw [ho.2.1.block p (Nat.lt_succ_self p)]; exact h1) v'
  exact this

theorem RPk.own {p : Nat} {l : List UInt8} {w : World} (h : RPk p l w) : ∃ v, w.heap[p]? = some (.cells #[v, .int .i64 0] 62 (0, 0)) ∧ OwnBuf (p + 1) 5 v l.length (Lib.byteCells l) w w := by
  have hl := h.lt
  obtain ⟨v, h1, h2⟩ := h
  exact ⟨v, h1, h2, Below.refl _ _, hl⟩

theorem OwnBuf.slice {B : Nat} {e : TypeId} {v : Value} {n : Nat} {xs : List Value} {W0 w : World} (h : OwnBuf B e v n xs W0 w) : ∃ sa c, v = .slice sa n c := by
  rcases h.1.2 with ⟨rfl, rfl⟩ | ⟨g, cap, cur, fz, rfl, _⟩
  · exact ⟨_, _, rfl⟩
  · exact ⟨_, _, rfl⟩

/-- 'string(p.B)'. -/
theorem RPk.text {p : Nat} {l : List UInt8} {w : World} {v : Value} (h : w.ownsRowF (p + 1) 5 1 v l.length (Lib.byteCells l)) (hl : 0 < l.length) :
    (convert 60 9 v).run Try.prog w = .ok (.string ⟨l.toArray⟩) w := by
  have hcs := h
  rcases h.2 with ⟨_, h0⟩ | ⟨g, cap, cur, fz, rfl, _⟩
  · omega
  · refine run_convert_bytes_back (P := Try.prog) w 60 9 5 ⟨g, 0, none⟩ cap l Try.underlying60 Try.underlying5 Try.underlying9 (fun j hj => ?_)
    exact hcs.cells (g := g) rfl j _ (by simp [Lib.byteCells, hj])

/-- What a call of the document's Packer leaves. -/
def RWrote (p : Nat) (l : List UInt8) (w w' : World) : Prop := RPk p l w' ∧ Below p w w'

set_option maxHeartbeats 400000 in
theorem refWord_any (p : Nat) (l : List UInt8) (m k : Nat) (hk : k ≤ 8) (hm : m < 18446744073709551616) (hl : l.length ≤ 100000000) (w : World) (h : RPk p l w) :
    Calls Try.prog 36 #[.pointer (some ⟨p, 0, none⟩), .int .u64 (m : Nat), .int .i64 k] w fun e w' => e = .returned (.tuple #[]) ∧ RWrote p (l ++ le k m) w w' := by
  have H := Hid.of h
  clear h
  go_enter Try.func36, Try.ntmps36
  go_wp2
  go_loopw [1, 6] (fun y i wr => ∃ (j a : Nat), j ≤ k ∧ i = .int .i64 j ∧ y = .int .u64 a ∧ a < 18446744073709551616 ∧ Hid (a = m / 256 ^ j) ∧ Hid (RPk p (l ++ le j m) wr) ∧ Below p w wr) (fun _ i _ => k - (intOf i).toNat)
  case atStart => exact ⟨0, m, Nat.zero_le _, rfl, rfl, hm, by simp [Hid], Hid.of (by simpa [le] using H.out), Below.refl _ _⟩
  case round =>
    obtain ⟨j, a, hj, rfl, rfl, ha, hja, hp, hb⟩ := hrel
    obtain ⟨v, hrow, hown⟩ := hp.out.own
    have c0 : wr.cell? ⟨p, 0, none⟩ = some v := by rw [cell_of_row wr p 0 _ _ _ hrow]; rfl
    have c1 : wr.cell? ⟨p, 1, none⟩ = some (.int .i64 0) := by rw [cell_of_row wr p 1 _ _ _ hrow]; rfl
    have hlen : (l ++ le j m).length = l.length + j := by rw [List.length_append, le_length]
    rw [hlen] at hown
    have ROW := Hid.of hrow
    clear hrow
    by_cases hlt : j < k
    · go_wp2_with (at_builtin; refine append_byte rfl _ _ rfl (p + 1) v (l.length + j) _ rfl wr _ ((a : Int) % 256) hown rfl (by omega) ?_; intro b' w1 hb1; obtain ⟨sa, sc, rfl⟩ := OwnBuf.slice hb1; have d0 : w1.cell? ⟨p, 0, none⟩ = some v := (by rw [hb1.2.1.cell (Nat.lt_succ_self p)]; exact c0); have fz : w1.frozen? ⟨p, 0, none⟩ = false := (by rw [hb1.2.1.frozen (Nat.lt_succ_self p)]; exact row_frozen ROW.out))
      go_roundw
      case rel =>
        refine ⟨j + 1, a / 256, by omega, by go_num, ?_, by omega, Hid.of ?_, Hid.of ?_, ?_⟩
        · congr 1
        · have := hja.out
          subst this
          rw [Nat.pow_succ, ← Nat.div_div_eq_div_mul]
        · have h2 : l ++ le (j + 1) m = (l ++ le j m) ++ [UInt8.ofNat a] := by rw [le_snoc, hja.out, List.append_assoc]
          have h3 : (l ++ le (j + 1) m).length = l.length + j + 1 := by rw [List.length_append, le_length]; omega
          refine hp.out.stored ?_
          rw [h3, h2, byteCells_snoc]
          exact hb1
        · exact (hb.trans (hb1.2.1.mono (Nat.le_succ p))).setCell (Nat.le_refl p) _
      case measure => simp [intOf]; omega
    · go_wp2
      go_end0
      have : j = k := by omega
      subst this
      exact ⟨rfl, hp.out, hb⟩

theorem wrap_le (x : Int) (m : Nat) (hm : IntKind.u64.wrap x = (m : Int)) : unsigned x = (m : Int) := hm

set_option maxHeartbeats 400000 in
theorem refInt_any (p : Nat) (l : List UInt8) (x : Int) (hl : l.length ≤ 100000000) (w : World) (h : RPk p l w) :
    Calls Try.prog 35 #[.pointer (some ⟨p, 0, none⟩), .int .i64 x] w fun e w' => e = .returned (.tuple #[]) ∧ RWrote p (l ++ le 8 (unsigned x).toNat) w w' := by
  obtain ⟨m, hm⟩ := Int.eq_ofNat_of_zero_le (unsigned_nonneg x)
  have e : (unsigned x).toNat = m := by rw [hm]; rfl
  rw [e]
  have hw : IntKind.u64.wrap x = (m : Int) := hm
  have HM : Hid (m < 18446744073709551616) := Hid.of (by rw [wrapU] at hw; omega)
  have H := Hid.of h
  clear h e hm
  go_enter Try.func35, Try.ntmps35
  go_wp2_with fail
  refine (refWord_any p l m 8 (by decide) HM.out hl _ H.out).mono ?_
  rintro e w1 ⟨rfl, h1⟩
  have H1 := Hid.of h1
  clear h1
  go_wp2
  go_end0
  exact ⟨rfl, H1.out⟩

set_option maxHeartbeats 400000 in
theorem little_any (s : ByteArray) (w : World) (hs : s.size ≤ 8) :
    Calls Try.prog 50 #[.string s] w fun e w' => e = .returned (.int .u64 (val s.data.toList)) ∧ w = w' := by
  go_enter Try.func50, Try.ntmps50
  go_wp2
  go_loop [3, 4] (fun v i => ∃ (j a : Nat), j ≤ s.size ∧ i = .int .i64 ((j : Int) - 1) ∧ v = .int .u64 a ∧ Hid (a = val (s.data.toList.drop j))) (fun _ i => (intOf i + 1).toNat)
  case atStart => exact ⟨s.size, 0, Nat.le_refl _, rfl, rfl, Hid.of (by rw [List.drop_eq_nil_of_le (by rw [byte_len]; exact Nat.le_refl _)]; rfl)⟩
  case round =>
    obtain ⟨j, a, hj, rfl, rfl, ha⟩ := hrel
    cases j with
    | zero =>
      go_wp2
      go_ret
      rw [ha.out]
      exact ⟨rfl, rfl⟩
    | succ m =>
      have hm : m < s.size := by omega
      have ei : ((m + 1 : Nat) : Int) - 1 = (m : Int) := by omega
      rw [ei]
      go_wp2
      go_round
      case rel =>
        refine ⟨m, val (s.data.toList.drop m), by omega, rfl, ?_, Hid.of rfl⟩
        rw [val_drop _ _ (by rw [byte_len]; exact hm), ← ha.out]
        have hlt : a * 256 < 18446744073709551616 := by
          have h1 := val_lt (s.data.toList.drop (m + 1))
          rw [← ha.out, List.length_drop, byte_len] at h1
          have h2 : (256 : Nat) ^ (s.size - (m + 1)) ≤ 256 ^ 7 := Nat.pow_le_pow_right (by decide) (by omega)
          omega
        have hb : (s[m]'hm).toNat < 256 := (s[m]'hm).toNat_lt
        have hg : s.data.toList[m]'(by rw [byte_len]; exact hm) = s[m]'hm := rfl
        rw [hg]
        rw [wrapU, wrapU, wrapU]
        congr 1
        omega
      case measure => simp [intOf]

/-- Block u is the document's Unpacker, with the text r left and no error. -/
def RUn (u : Nat) (r : ByteArray) (w : World) : Prop := w.heap[u]? = some (.cells #[.string r, .int .i64 0] 72 (0, 0))

theorem RUn.lt {u : Nat} {r : ByteArray} {w : World} (h : RUn u r w) : u < w.heap.size := (Array.getElem?_eq_some_iff.1 h).1

theorem RUn.kept {u : Nat} {r : ByteArray} {w w' : World} (h : RUn u r w) (g : w.grownBy w' none) : RUn u r w' := by
  unfold RUn
  rw [g.block u h.lt (by simp)]
  exact h

theorem RUn.new (w : World) (r : ByteArray) : RUn w.heap.size r (w.alloc (.cells #[.string r, .int .i64 0] 72)) := Go.heap_alloc_new _ _

set_option maxHeartbeats 400000 in
theorem refTake_good (u : Nat) (r : ByteArray) (n : Nat) (hn : n ≤ r.size) (w : World) (h : RUn u r w) :
    Calls Try.prog 51 #[.pointer (some ⟨u, 0, none⟩), .int .i64 n] w fun e w' => e = .returned (.string (r.extract 0 n)) ∧ RUn u (r.extract n r.size) w' ∧ w.grownBy w' (some u) := by
  have c0 : w.cell? ⟨u, 0, none⟩ = some (.string r) := by rw [cell_of_row w u 0 _ _ _ h]; rfl
  have c1 : w.cell? ⟨u, 1, none⟩ = some (.int .i64 0) := by rw [cell_of_row w u 1 _ _ _ h]; rfl
  have fz := row_frozen (i := 0) h
  have H := Hid.of h
  clear h
  go_enter Try.func51, Try.ntmps51
  go_wp2
  go_ret
  exact ⟨rfl, row_set H.out _, grownBy_setCell _ _ _ _⟩

set_option maxHeartbeats 400000 in
theorem refWord_goodU (u : Nat) (r : ByteArray) (hn : 8 ≤ r.size) (w : World) (h : RUn u r w) :
    Calls Try.prog 42 #[.pointer (some ⟨u, 0, none⟩)] w fun e w' => e = .returned (.int .u64 (val (r.data.toList.take 8))) ∧ RUn u (r.extract 8 r.size) w' ∧ w.grownBy w' (some u) := by
  have H := Hid.of h
  have HT : Hid ((r.extract 0 8).size = 8) := Hid.of (by rw [ByteArray.size_extract]; omega)
  have HV : Hid ((r.extract 0 8).data.toList = r.data.toList.take 8) := Hid.of (by simp)
  clear h
  go_enter Try.func42, Try.ntmps42
  go_wp2_with fail
  refine (refTake_good u r 8 hn _ H.out).mono ?_
  rintro e w2 ⟨rfl, h2, g2⟩
  go_wp2_with fail
  refine (little_any _ _ (by rw [HT.out]; exact Nat.le_refl _)).mono ?_
  rintro e w3 ⟨rfl, rfl⟩
  rw [HV.out]
  go_wp2
  go_ret
  exact ⟨rfl, h2, g2⟩

set_option maxHeartbeats 400000 in
theorem refInt_goodU (u : Nat) (r : ByteArray) (hn : 8 ≤ r.size) (w : World) (h : RUn u r w) :
    Calls Try.prog 41 #[.pointer (some ⟨u, 0, none⟩)] w fun e w' => e = .returned (.int .i64 (wrap64 (val (r.data.toList.take 8)))) ∧ RUn u (r.extract 8 r.size) w' ∧ w.grownBy w' (some u) := by
  have H := Hid.of h
  clear h
  go_enter Try.func41, Try.ntmps41
  go_wp2_with (go_at_call 42; refine (refWord_goodU u r hn _ H.out).mono ?_; rintro e w2 ⟨rfl, h2⟩)
  go_ret
  exact ⟨rfl, h2⟩

end Go.Proofs.Ytfoffoiimlgoeaa
