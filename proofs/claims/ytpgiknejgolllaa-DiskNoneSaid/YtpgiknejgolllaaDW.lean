/-
  The calls of a disk that is one's own, each with its state told; and what alive answers.
-/
import Derived.Test.YtpgiknejgolllaaDP
import Derived.Test.YtpgiknejgolllaaDF
namespace Go.Proofs.Ytpgiknejgolllaa
open Go.RowKit Go.Lib

theorem DSt.write_free (l : List ByteArray) (ws : List (Nat × ByteArray)) (c i : Nat) (t : ByteArray) (ht : t.size = 256) (hi : i < l.length) : DSt.write ⟨l, ws, true, c, none⟩ i t = (0, ⟨l, ws ++ [(i, t)], true, c + 1, none⟩) := by
  unfold DSt.write
  rw [if_neg (by simp), if_neg (by simp [ht]), if_neg (by simp only; omega)]
  rfl

theorem DSt.write_armed (l : List ByteArray) (ws : List (Nat × ByteArray)) (c i n : Nat) (keep : List Int) (t : ByteArray) (ht : t.size = 256) (hi : i < l.length) : DSt.write ⟨l, ws, true, c, some (n + 1, keep)⟩ i t = (0, ⟨l, ws ++ [(i, t)], true, c + 1, some (n, keep)⟩) := by
  unfold DSt.write
  rw [if_neg (by simp), if_neg (by simp [ht]), if_neg (by simp only; omega)]
  rfl

theorem DSt.write_arg {s : DSt} (hs : s.on = true) (i : Int) (t : ByteArray) (ht : t.size ≠ 256) : s.write i t = (1, s) := by
  unfold DSt.write
  rw [if_neg (by simp [hs]), if_pos ht]

theorem DSt.write_range {s : DSt} (hs : s.on = true) (i : Int) (t : ByteArray) (ht : t.size = 256) (hi : i < 0 ∨ (s.last.length : Int) ≤ i) : s.write i t = (15, s) := by
  unfold DSt.write
  rw [if_neg (by simp [hs]), if_neg (by simp [ht]), if_pos hi]

theorem DSt.write_off {s : DSt} (hs : s.on = false) (i : Int) (t : ByteArray) : s.write i t = (14, s) := by
  unfold DSt.write
  rw [if_pos hs]

theorem DSt.flush_free (l : List ByteArray) (ws : List (Nat × ByteArray)) (c : Nat) : DSt.flush ⟨l, ws, true, c, none⟩ = (0, ⟨dApply l ws, [], true, c + 1, none⟩) := rfl

theorem DSt.flush_power (l : List ByteArray) (ws : List (Nat × ByteArray)) (c : Nat) (keep : List Int) : DSt.flush ⟨l, ws, true, c, some (0, keep)⟩ = (14, ⟨dApply l (dStay ws keep), [], false, c, none⟩) := rfl

theorem DSt.flush_off {s : DSt} (hs : s.on = false) : s.flush = (14, s) := by
  unfold DSt.flush
  rw [if_pos hs]

theorem DSt.cut_on (l : List ByteArray) (ws : List (Nat × ByteArray)) (c : Nat) (a : Option (Nat × List Int)) (keep : List Int) : DSt.cut ⟨l, ws, true, c, a⟩ keep = ⟨dApply l (dStay ws keep), [], false, c, none⟩ := rfl

theorem DSt.read_on {s : DSt} (hs : s.on = true) (i : Nat) (hi : i < s.last.length) : s.readErr i = 0 := by
  unfold DSt.readErr
  rw [if_neg (by simp [hs]), if_neg (by omega)]

theorem small_rfl {s : DSt} (h : (Nat.ble s.cnt 1000 && Nat.ble s.waits.length 1000 && Nat.ble s.last.length 4096) = true) : s.Small 1000 := by
  simp only [Bool.and_eq_true] at h
  exact ⟨Nat.le_of_ble_eq_true h.1.1, Nat.le_of_ble_eq_true h.1.2, Nat.le_of_ble_eq_true h.2⟩

variable {S : DiskSpec} {B p : Nat} {w0 w : World} {s : DSt} {F : Foot}

theorem new_disk (S : DiskSpec) (n : Nat) (w : World) (h1 : 1 ≤ n) (h2 : n ≤ 4096) : Calls Try.prog 19 #[.int .i64 n] w fun e w' => ∃ p F, e = .returned (dptr p) ∧ DHere S w.heap.size w w' p (DSt.fresh n) F := by
  refine (S.new n w h1 h2).mono ?_
  rintro e w' ⟨p, F, rfl, h1, h2, h3⟩
  exact ⟨p, F, rfl, h1, h2, h3.size, h3⟩

theorem DHere.write (H : DHere S B w0 w p s F) {i : Int} {t : ByteArray} {err : Int} {s' : DSt} (he : s.write i t = (err, s')) (hs : s.Small 1000) (ht : t.size ≤ maxLen) :
    Calls Try.prog 11 #[dptr p, .int .i64 i, .string t] w fun e w' => e = .returned (.int .i64 err) ∧ ∃ F', DHere S B w0 w' p s' F' ∧ FStep F F' w w' := by
  refine (S.write i t H.rep hs ht).mono ?_
  rintro e w' ⟨rfl, F', r, st⟩
  rw [he] at r ⊢
  exact ⟨rfl, F', H.step r st, st⟩

theorem DHere.flush (H : DHere S B w0 w p s F) {err : Int} {s' : DSt} (he : s.flush = (err, s')) (hs : s.Small 1000) :
    Calls Try.prog 13 #[dptr p] w fun e w' => e = .returned (.int .i64 err) ∧ ∃ F', DHere S B w0 w' p s' F' ∧ FStep F F' w w' := by
  refine (S.flush H.rep hs).mono ?_
  rintro e w' ⟨rfl, F', r, st⟩
  rw [he] at r ⊢
  exact ⟨rfl, F', H.step r st, st⟩

theorem DHere.cut (H : DHere S B w0 w p s F) {v : Value} {ks : List Int} {n : Nat} {s' : DSt} (he : s.cut ks = s') (hn : s.cuts = n) (hs : s.Small 1000) (hv : CellRow w v ks.length (ks.map (Value.int .i64))) (ho : ks ≠ [] → Off F.own v) (hk : ks.length ≤ 100000) :
    Calls Try.prog 14 #[dptr p, v] w fun e w' => e = .returned (.int .i64 n) ∧ ∃ F', DHere S B w0 w' p s' F' ∧ FStep F F' w w' := by
  refine (S.cut v ks H.rep hs hv ho hk).mono ?_
  rintro e w' ⟨rfl, F', r, st⟩
  rw [he] at r
  rw [hn]
  exact ⟨rfl, F', H.step r st, st⟩

theorem DHere.restore (H : DHere S B w0 w p s F) (hs : s.Small 1000) :
    Calls Try.prog 8 #[dptr p] w fun e w' => e = .returned (.tuple #[]) ∧ ∃ F', DHere S B w0 w' p s.restore F' ∧ FStep F F' w w' := by
  refine (S.restore H.rep hs).mono ?_
  rintro e w' ⟨rfl, F', r, st⟩
  exact ⟨rfl, F', H.step r st, st⟩

theorem DHere.arm (H : DHere S B w0 w p s F) {n : Int} {v : Value} {ks : List Int} (hs : s.Small 1000) (hv : CellRow w v ks.length (ks.map (Value.int .i64))) (ho : ks ≠ [] → Off F.own v) (hk : ks.length ≤ 100000) (h6 : n ≤ 1000000) :
    Calls Try.prog 20 #[dptr p, .int .i64 n, v] w fun e w' => e = .returned (.tuple #[]) ∧ ∃ F', DHere S B w0 w' p (s.arm n ks) F' ∧ FStep F F' w w' := by
  refine (S.arm n v ks H.rep hs hv ho hk h6).mono ?_
  rintro e w' ⟨rfl, F', r, st⟩
  exact ⟨rfl, F', H.step r st, st⟩

theorem DHere.read (H : DHere S B w0 w p s F) (i : Int) (hs : s.Small 1000) :
    Calls Try.prog 9 #[dptr p, .int .i64 i] w fun e w' => ∃ t, e = .returned (.tuple #[.string t, .int .i64 (s.readErr i)]) ∧ (s.readErr i = 0 → s.cur[i.toNat]? = some t) ∧ DHere S B w0 w' p s F ∧ Below w.heap.size w w' := by
  refine (S.read i H.rep hs).mono ?_
  rintro e w' ⟨t, rfl, h, b⟩
  exact ⟨t, rfl, h, H.next b, b⟩

/-- Read of a block that there is, with power. -/
theorem DHere.reads (H : DHere S B w0 w p s F) {i : Nat} {t : ByteArray} (hon : s.on = true) (hi : s.cur[i]? = some t) (hs : s.Small 1000) :
    Calls Try.prog 9 #[dptr p, .int .i64 i] w fun e w' => e = .returned (.tuple #[.string t, .int .i64 0]) ∧ DHere S B w0 w' p s F ∧ Below w.heap.size w w' := by
  have hl : i < s.last.length := by
    have := (List.getElem?_eq_some_iff.1 hi).1
    rwa [DSt.cur_length] at this
  have h0 := s.read_on hon i hl
  refine (H.read i hs).mono ?_
  rintro e w' ⟨u, rfl, h, hh, b⟩
  rw [h0] at h ⊢
  have e1 := h rfl
  rw [Int.toNat_natCast, hi] at e1
  simp only [Option.some.injEq] at e1
  subst e1
  exact ⟨rfl, hh, b⟩

theorem DHere.isOn (H : DHere S B w0 w p s F) : Calls Try.prog 18 #[dptr p] w fun e w' => e = .returned (.bool s.on) ∧ DHere S B w0 w' p s F ∧ Below w.heap.size w w' :=
  (S.isOn H.rep).mono fun _ _ ⟨h, b⟩ => ⟨h, H.next b, b⟩

theorem DHere.writes (H : DHere S B w0 w p s F) (hs : s.Small 1000) : Calls Try.prog 21 #[dptr p] w fun e w' => e = .returned (.int .i64 s.cnt) ∧ DHere S B w0 w' p s F ∧ Below w.heap.size w w' :=
  (S.writes H.rep hs).mono fun _ _ ⟨h, b⟩ => ⟨h, H.next b, b⟩

theorem DHere.waiting (H : DHere S B w0 w p s F) (hs : s.Small 1000) : Calls Try.prog 16 #[dptr p] w fun e w' => e = .returned (.int .i64 s.waits.length) ∧ DHere S B w0 w' p s F ∧ Below w.heap.size w w' :=
  (S.waiting H.rep hs).mono fun _ _ ⟨h, b⟩ => ⟨h, H.next b, b⟩

theorem DHere.blocks (H : DHere S B w0 w p s F) (hs : s.Small 1000) : Calls Try.prog 15 #[dptr p] w fun e w' => e = .returned (.int .i64 s.last.length) ∧ DHere S B w0 w' p s F ∧ Below w.heap.size w w' :=
  (S.blocks H.rep hs).mono fun _ _ ⟨h, b⟩ => ⟨h, H.next b, b⟩

theorem Fill_named {c : UInt8} {k : Int} (hk : (c.toNat : Int) = k) (w : World) : Calls Try.prog 12 #[.int .u8 k] w fun e w' => e = .returned (.string (fillText c)) ∧ Below w.heap.size w w' := by
  rw [← hk]
  exact Fill_any c w

theorem fill_max (c : UInt8) : (fillText c).size ≤ maxLen := by rw [fillText_size]; unfold maxLen; omega

/-- A new slice of ints, as an argument. -/
theorem ints_made (w : World) (ks : List Int) (n b : Nat) (hb : b = w.heap.size) (hn : n = ks.length) : CellRow (w.alloc (.cells (ks.map (Value.int .i64)).toArray 3)) (.slice (some ⟨b, 0, none⟩) n n) n (ks.map (Value.int .i64)) := by
  subst hb hn
  refine ⟨_, _, rfl, .inr ⟨_, 0, rfl, by simp, fun j u hj => ?_⟩⟩
  rw [Nat.zero_add, World.cell?_alloc_new]
  simpa using hj

theorem DHere.off_arg (H : DHere S B w0 w p s F) {v : Value} {ks : List Int} (hv : CellRow w0 v ks.length (ks.map (Value.int .i64))) (hB : w0.heap.size ≤ B) : ks ≠ [] → Off F.own v :=
  fun h => H.off_below hv hB (by simpa using h)

theorem off_new {F : Nat → Prop} {w : World} (hF : ∀ k, F k → k < w.heap.size) (n c b : Nat) (hb : b = w.heap.size) : Off F (.slice (some ⟨b, 0, none⟩) n c) := by
  intro g hg hf
  simp [Value.ownBlock] at hg
  have := hF g hf
  omega

theorem DHere.lt (H : DHere S B w0 w p s F) : ∀ k, F.all k → k < w.heap.size := S.lt H.rep
theorem DHere.lto (H : DHere S B w0 w p s F) : ∀ k, F.own k → k < w.heap.size := fun k hk => H.lt k (S.sub H.rep k hk)

end Go.Proofs.Ytpgiknejgolllaa
