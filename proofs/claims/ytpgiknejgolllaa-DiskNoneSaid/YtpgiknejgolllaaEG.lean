/-
  What begin, Write, Read, Flush and Restore answer.
-/
import Derived.Test.YtpgiknejgolllaaEF
namespace Go.Proofs.Ytpgiknejgolllaa
open Go.RowKit Go.Lib

theorem Done.refl {w : World} {p : Nat} {d : DV} {A : Nat → Prop} {s : DSt} {f g : Nat → ByteArray} (h : DIn w p d A s f g) : Done w w p A s := ⟨⟨d, A, f, g, h, fun _ k => .inl k⟩, grownBy_refl _ _⟩

theorem Done.trans {w w1 w2 : World} {p : Nat} {A A1 : Nat → Prop} {s2 : DSt} (hA : ∀ k, A1 k → A k ∨ w.heap.size ≤ k) (g : w.grownBy w1 (some p)) (h : Done w1 w2 p A1 s2) : Done w w2 p A s2 := by
  obtain ⟨⟨d', A', f', g', a, b⟩, fr⟩ := h
  refine ⟨⟨d', A', f', g', a, fun k hk => ?_⟩, grownBy_trans g fr⟩
  rcases b k hk with c | c
  · exact hA k c
  · exact .inr (Nat.le_trans g.size c)

theorem DIn.spent {w w' : World} {p : Nat} {d d' : DV} {A : Nat → Prop} {s s' : DSt} {f g : Nat → ByteArray} (h : DIn w p d A s f g) (b : DBlk w' p d') (fr : w.grownBy w' (some p)) (h1 : d'.on = s'.on) (h2 : d'.done = s'.cnt) (h3 : d'.blocks = d.blocks) (h4 : d'.waiting = d.waiting)
    (h5 : d'.now = d.now) (h6 : d'.last = d.last) (h7 : d'.latest = d.latest) (e1 : s'.last = s.last) (e2 : s'.waits = s.waits) (ar : Arms w' A p d' s'.armed) : DIn w' p d' A s' f g := by
  have hb : ∀ k, A k → k ≠ p → w'.heap[k]? = w.heap[k]? := fun k hk hp => fr.block k (h.lt k hk) (by simpa using hp)
  have ec : s'.cur = s.cur := by unfold DSt.cur; rw [e1, e2]
  refine ⟨b, h1, h2, ?_, ?_, ?_, by rw [ec]; exact h.cur, ?_, by rw [e1]; exact h.last, ?_, ar, h.own, fun k hk => Nat.lt_of_lt_of_le (h.lt k hk) fr.size, by rw [e1]; exact h.room, by rw [e1, e2]; exact h.good⟩
  · rw [h3, e1]; exact h.blocks
  · rw [h4, e2]; exact h.waiting
  · rw [h5]; exact h.now.kept (fun _ k => k) hb
  · rw [h6]; exact h.lasts.kept (fun _ k => k) hb
  · rw [h7, e2]; exact h.chain.kept (fun _ k => k) hb

theorem DIn.settled {w w' : World} {p : Nat} {d : DV} {A : Nat → Prop} {s : DSt} {f g : Nat → ByteArray} (h : DIn w p d A s f g) (b : DBlk w' p d.settle) (fr : w.grownBy w' (some p)) : DIn w' p d.settle A { s with last := s.cur, waits := [] } f f := by
  have hb : ∀ k, A k → k ≠ p → w'.heap[k]? = w.heap[k]? := fun k hk hp => fr.block k (h.lt k hk) (by simpa using hp)
  have hk := h.now.kept (fun _ k => k) hb
  refine ⟨b, h.on, h.done, ?_, rfl, hk, h.cur, hk, h.cur, rfl, h.arms.kept (fun _ k => k) fr.size hb rfl rfl rfl, h.own, fun k hk => Nat.lt_of_lt_of_le (h.lt k hk) fr.size, ?_, fun x hx => absurd hx (by simp)⟩
  · rw [s.cur_length]; exact h.blocks
  · rw [s.cur_length]; exact h.room

theorem begin_any (w : World) (p : Nat) (d : DV) (A : Nat → Prop) (s : DSt) (f g : Nat → ByteArray) (h : DIn w p d A s f g) (hs : s.Small 1000) :
    Calls Try.prog 30 #[dptr p] w fun e w' => e = .returned (.bool s.spend.1) ∧ Done w w' p A s.spend.2 := by
  have H := Hid.of h
  have HS := Hid.of hs
  have h0 : 0 ≤ d.done := by rw [h.done]; omega
  have h1 : d.done ≤ 1000000 := by rw [h.done]; have := hs.1; omega
  have har := h.arms
  have B0 := Hid.of h0
  have B1 := Hid.of h1
  have hb : ∀ (w' : World), w.grownBy w' (some p) → ∀ k, A k → k ≠ p → w'.heap[k]? = w.heap[k]? := fun w' fr k hk hp => fr.block k (h.lt k hk) (by simpa using hp)
  have HB := Hid.of hb
  clear h hs h0 h1 hb
  cases ha : s.armed with
  | none =>
    rw [ha] at har
    have R : s.spend = (true, { s with cnt := s.cnt + 1 }) := by unfold DSt.spend; rw [ha]
    rw [R]
    have AF := Hid.of har.1
    have HA := Hid.of ha
    have HR := Hid.of har
    clear R ha har
    go_enter Try.func30, Try.ntmps30
    go_wp2_with (go_at_call 38; refine (spend_free _ p d H.out.blk AF.out B0.out B1.out).mono ?_; rintro e w1 ⟨rfl, d1, g1⟩; have D1 := Hid.of d1; have G1 := Hid.of g1; clear d1 g1)
    go_ret
    refine ⟨rfl, ⟨⟨{ d with done := d.done + 1 }, A, f, g, H.out.spent D1.out G1.out H.out.on (by simp only [H.out.done]; omega) rfl rfl rfl rfl rfl rfl rfl ?_, fun k hk => .inl hk⟩, G1.out⟩⟩
    have := HR.out
    rw [← HA.out] at this
    exact this.kept (fun _ k => k) G1.out.size (HB.out _ G1.out) rfl rfl rfl
  | some x =>
    obtain ⟨n, ks⟩ := x
    rw [ha] at har
    cases n with
    | zero =>
      have R : s.spend = (false, s.cut ks) := by unfold DSt.spend; rw [ha]
      rw [R]
      obtain ⟨a1, a2, a3, a4, a5, a6⟩ := har
      have A1 := Hid.of a1
      have A2 : Hid (d.left = 0) := Hid.of a2
      have A4 := Hid.of a4
      have A5 := Hid.of a5
      have A6 := Hid.of a6
      have e4 := H.out.blk.c4
      obtain ⟨kv, hkv⟩ : ∃ kv, d.keep = kv := ⟨_, rfl⟩
      rw [hkv] at e4
      have KV := Hid.of hkv
      clear R ha a1 a2 a3 a4 a5 a6 hkv
      go_enter Try.func30, Try.ntmps30
      go_wp2_with (first
        | (go_at_call 38; refine (spend_no _ p d H.out.blk A1.out A2.out).mono ?_; rintro e w1 ⟨rfl, rfl⟩)
        | (go_at_call 14; rw [← KV.out]; refine (cut_any _ p d A s f g H.out HS.out _ ks A5.out (fun hk b hb hp => (A6.out hk b hb).2 hp) A4.out).mono ?_; rintro e w2 ⟨rfl, c2⟩; have C2 := Hid.of c2; clear c2))
      go_ret
      exact ⟨rfl, C2.out⟩
    | succ n =>
      have R : s.spend = (true, { s with cnt := s.cnt + 1, armed := some (n, ks) }) := by unfold DSt.spend; rw [ha]
      rw [R]
      have A1 := Hid.of har.1
      have A2 : Hid (1 ≤ d.left) := Hid.of (by have := har.2.1; omega)
      have A3 : Hid (d.left ≤ 1000000) := Hid.of (by have := har.2.1; have := har.2.2.1; omega)
      have HR := Hid.of har
      clear R ha har
      go_enter Try.func30, Try.ntmps30
      go_wp2_with (go_at_call 38; refine (spend_one _ p d H.out.blk A1.out A2.out A3.out B0.out B1.out).mono ?_; rintro e w1 ⟨rfl, d1, g1⟩; have D1 := Hid.of d1; have G1 := Hid.of g1; clear d1 g1)
      go_ret
      refine ⟨rfl, ⟨⟨{ d with left := d.left - 1, done := d.done + 1 }, A, f, g, H.out.spent D1.out G1.out H.out.on (by simp only [H.out.done]; omega) rfl rfl rfl rfl rfl rfl rfl ?_, fun k hk => .inl hk⟩, G1.out⟩⟩
      have := Arms.kept (d' := d) HR.out (A' := A) (fun _ k => k) G1.out.size (HB.out _ G1.out) rfl rfl rfl
      obtain ⟨a1, a2, a3, a4, a5, a6⟩ := this
      exact ⟨a1, by simp only; omega, by omega, a4, a5, a6⟩

theorem readErr_may (s : DSt) (i : Int) : mayErr s i 256 = s.readErr i := by
  unfold mayErr DSt.readErr
  simp

theorem read_any (w : World) (p : Nat) (d : DV) (A : Nat → Prop) (s : DSt) (f g : Nat → ByteArray) (h : DIn w p d A s f g) (i : Int) :
    Calls Try.prog 9 #[dptr p, .int .i64 i] w fun e w' => ∃ t, e = .returned (.tuple #[.string t, .int .i64 (s.readErr i)]) ∧ (s.readErr i = 0 → s.cur[i.toNat]? = some t) ∧ Below w.heap.size w w' := by
  have H := Hid.of h
  have hm := readErr_may s i
  obtain ⟨er, her⟩ : ∃ er, s.readErr i = er := ⟨_, rfl⟩
  rw [her] at hm
  have HM := Hid.of hm
  have HE := Hid.of her
  rw [her]
  clear h hm her
  by_cases h0 : er = 0
  · subst h0
    have hi : 0 ≤ i ∧ i < (s.last.length : Int) := by
      have := HE.out
      unfold DSt.readErr at this
      split at this
      · omega
      · split at this <;> omega
    obtain ⟨m, rfl⟩ : ∃ m : Nat, i = m := ⟨i.toNat, by omega⟩
    have hml : m < s.last.length := by omega
    have M9 : Hid (m < 4096) := Hid.of (by have := H.out.room; omega)
    have hc : s.cur[m]? = some (textAt f m) := by
      have hl : m < s.cur.length := by rw [s.cur_length]; exact hml
      rw [← H.out.cur.at_ m _ (List.getElem?_eq_getElem hl)]
      exact List.getElem?_eq_getElem hl
    have HC := Hid.of hc
    clear hi hml hc
    obtain ⟨t, ht⟩ : ∃ t, textAt f m = t := ⟨_, rfl⟩
    have HT := Hid.of ht
    clear ht
    go_enter Try.func9, Try.ntmps9
    go_wp2_with (first
      | (go_at_call 28; refine (may_any _ p d s _ 256 H.out.blk H.out.on H.out.blocks).mono ?_; rintro e w1 ⟨rfl, rfl⟩; rw [HM.out])
      | (go_at_call 29; refine (get_any _ p d A f m H.out.blk H.out.now M9.out (H.out.cur.size m)).mono ?_; rintro e w2 ⟨rfl, b2⟩; rw [HT.out]))
    go_ret2
    refine ⟨t, rfl, fun _ => ?_, b2⟩
    rw [Int.toNat_natCast, HC.out, HT.out]
  · go_enter Try.func9, Try.ntmps9
    go_wp2_with (go_at_call 28; refine (may_any _ p d s _ 256 H.out.blk H.out.on H.out.blocks).mono ?_; rintro e w1 ⟨rfl, rfl⟩; rw [HM.out])
    go_ret2
    exact ⟨_, rfl, fun hz => absurd hz h0, Below.refl _ _⟩

theorem flush_any (w : World) (p : Nat) (d : DV) (A : Nat → Prop) (s : DSt) (f g : Nat → ByteArray) (h : DIn w p d A s f g) (hs : s.Small 1000) :
    Calls Try.prog 13 #[dptr p] w fun e w' => e = .returned (.int .i64 s.flush.1) ∧ Done w w' p A s.flush.2 := by
  have H := Hid.of h
  have HS := Hid.of hs
  have hon := h.on
  clear h hs
  by_cases hson : s.on = false
  · have R : s.flush = (14, s) := by unfold DSt.flush; rw [if_pos hson]
    rw [R]
    have ON : Hid (d.on = false) := Hid.of (hon.trans hson)
    clear R hson hon
    go_enter Try.func13, Try.ntmps13
    go_wp2_with (go_at_call 18; refine (isOn_any _ p d H.out.blk).mono ?_; rintro e w1 ⟨rfl, rfl⟩; rw [ON.out])
    go_ret
    exact ⟨rfl, Done.refl H.out⟩
  · have ON : Hid (d.on = true) := Hid.of (hon.trans (by simpa using hson))
    cases hb : s.spend.1 with
    | false =>
      have R : s.flush = (14, s.spend.2) := by unfold DSt.flush; rw [if_neg hson, if_neg (by simp [hb])]
      rw [R]
      have HB := Hid.of hb
      clear R hson hon hb
      go_enter Try.func13, Try.ntmps13
      go_wp2_with (first
        | (go_at_call 18; refine (isOn_any _ p d H.out.blk).mono ?_; rintro e w1 ⟨rfl, rfl⟩; rw [ON.out])
        | (go_at_call 30; refine (begin_any _ p d A s f g H.out HS.out).mono ?_; rintro e w2 ⟨rfl, c2⟩; have C2 := Hid.of c2; clear c2; rw [HB.out]))
      go_ret
      exact ⟨rfl, C2.out⟩
    | true =>
      have R : s.flush = (0, { s.spend.2 with last := s.spend.2.cur, waits := [] }) := by unfold DSt.flush; rw [if_neg hson, if_pos hb]
      rw [R]
      have HB := Hid.of hb
      clear R hson hon hb
      go_enter Try.func13, Try.ntmps13
      go_wp2_with (first
        | (go_at_call 18; refine (isOn_any _ p d H.out.blk).mono ?_; rintro e w1 ⟨rfl, rfl⟩; rw [ON.out])
        | (go_at_call 30; refine (begin_any _ p d A s f g H.out HS.out).mono ?_; rintro e w2 ⟨rfl, c2⟩; obtain ⟨⟨d2, A2, f2, g2, i2, m2⟩, fr2⟩ := c2; have I2 := Hid.of i2; have M2 := Hid.of m2; have F2 := Hid.of fr2; clear i2 m2 fr2; rw [HB.out])
        | (go_at_call 27; refine (settle_any _ p d2 I2.out.blk I2.out.now.one).mono ?_; rintro e w3 ⟨rfl, d3, g3⟩; have D3 := Hid.of d3; have G3 := Hid.of g3; clear d3 g3))
      go_ret
      exact ⟨rfl, ⟨⟨d2.settle, A2, f2, f2, I2.out.settled D3.out G3.out, M2.out⟩, grownBy_trans F2.out G3.out⟩⟩

theorem restore_any (w : World) (p : Nat) (d : DV) (A : Nat → Prop) (s : DSt) (f g : Nat → ByteArray) (h : DIn w p d A s f g) :
    Calls Try.prog 8 #[dptr p] w fun e w' => e = .returned (.tuple #[]) ∧ Done w w' p A s.restore := by
  have H := Hid.of h
  have hb : d.blocks = s.last.length := h.blocks
  obtain ⟨m, hm⟩ : ∃ m, s.last.length = m := ⟨_, rfl⟩
  have m1 : ¬ (m : Int) = 0 := by have := h.room; omega
  rw [hm] at hb
  have HB := Hid.of hb
  have f0 := h.blk.free 0
  have e0 := h.blk.c0
  have N1 : Hid (∀ v ∈ d.now, v.oneCell' = true) := Hid.of h.now.one
  clear h hb hm
  go_enter Try.func8, Try.ntmps8
  go_wp2_with (first
    | (go_at_call 15; refine (blocks_any _ p d H.out.blk).mono ?_; rintro e w1 ⟨rfl, rfl⟩; rw [HB.out])
    | (go_at_call 27; refine (settle_any _ p { d with on := true } (H.out.blk.on_ true) N1.out).mono ?_; rintro e w3 ⟨rfl, d3, g3⟩; have D3 := Hid.of d3; have G3 := Hid.of g3; clear d3 g3))
  go_end0
  have I := H.out.spent (s' := { s with on := true }) (H.out.blk.on_ true) (grownBy_setCell _ _ _ _) rfl H.out.done rfl rfl rfl rfl rfl rfl rfl (H.out.arms.kept (fun _ k => k) (grownBy_setCell _ _ _ _).size (fun k hk hp => (grownBy_setCell _ p _ _).block k (H.out.lt k hk) (by simpa using hp)) rfl rfl rfl)
  exact ⟨rfl, ⟨⟨_, A, f, f, I.settled D3.out G3.out, fun k hk => .inl hk⟩, grownBy_trans (grownBy_setCell _ _ _ _) G3.out⟩⟩

end Go.Proofs.Ytpgiknejgolllaa
