/-
  What Write answers.
-/
import Derived.Test.YtpgiknejgolllaaEG
namespace Go.Proofs.Ytpgiknejgolllaa
open Go.RowKit Go.Lib

theorem mayErr_write (s : DSt) (i : Int) (t : ByteArray) (h : mayErr s i t.size ≠ 0) : s.write i t = (mayErr s i t.size, s) := by
  unfold mayErr at h ⊢
  unfold DSt.write
  by_cases h1 : s.on = false
  · simp [h1]
  · by_cases h2 : t.size = 256
    · by_cases h3 : i < 0 ∨ (s.last.length : Int) ≤ i
      · simp [h1, h2, h3]
      · simp [h1, h2, h3] at h
    · have : ¬ ((t.size : Int) = 256) := by omega
      simp [h1, h2, this]

theorem mayErr_zero {s : DSt} {i : Int} {t : ByteArray} (h : mayErr s i t.size = 0) : s.on = true ∧ t.size = 256 ∧ 0 ≤ i ∧ i < (s.last.length : Int) := by
  unfold mayErr at h
  by_cases h1 : s.on = false
  · simp [h1] at h
  · by_cases h2 : (t.size : Int) = 256
    · by_cases h3 : i < 0 ∨ (s.last.length : Int) ≤ i
      · simp [h1, h2, h3] at h
      · exact ⟨by simpa using h1, by omega, by omega, by omega⟩
    · simp [h1, h2] at h

theorem write_built (a : Option Addr) (i : Int) (t : ByteArray) : Try.prog.built 60 [(0, .pointer a), (1, .int .i64 i), (2, .string t)] = some #[.pointer a, .int .i64 i, .string t] := by kernel_rfl

theorem DIn.wrote {w4 w5 w6 : World} {p N m n : Nat} {d2 : DV} {A2 : Nat → Prop} {s1 : DSt} {f2 g2 : Nat → ByteArray} {t : ByteArray} {la : Option Addr} (I : DIn w4 p d2 A2 s1 f2 g2)
    (hN : w4.heap[N]? = some (.cells #[.pointer la, .int .i64 m, .string t] 60 (0, 0))) (hNp : N ≠ p) (hla : d2.latest = .pointer la) (g5 : w4.grownBy w5 (some p)) (g6 : w5.grownBy w6 (some p)) (hlt : w5.heap.size < w6.heap.size)
    (blk : DBlk w6 p { d2 with latest := .pointer (some ⟨N, 0, none⟩), waiting := (n : Int) + 1, now := d2.now.set (m / 64) (.pointer (some ⟨w5.heap.size, 0, none⟩)) })
    (sh : w6.heap[w5.heap.size]? = some (.cells (shelfCells (fset f2 m t) (m / 64)).toArray 73 (0, 0))) (hm : m < s1.last.length) (ht : t.size = 256) (hn : s1.waits.length = n) :
    DIn w6 p { d2 with latest := .pointer (some ⟨N, 0, none⟩), waiting := (n : Int) + 1, now := d2.now.set (m / 64) (.pointer (some ⟨w5.heap.size, 0, none⟩)) } (fun k => A2 k ∨ k = N ∨ k = w5.heap.size) { s1 with waits := s1.waits ++ [(m, t)] } (fset f2 m t) g2 := by
  have g := grownBy_trans g5 g6
  have hp := I.blk.lt
  have hNl : N < w4.heap.size := (Array.getElem?_eq_some_iff.1 hN).1
  have hb : ∀ k, A2 k → k ≠ p → w6.heap[k]? = w4.heap[k]? := fun k hk hp => g.block k (I.lt k hk) (by simpa using hp)
  have hA : ∀ k, A2 k → (A2 k ∨ k = N ∨ k = w5.heap.size) := fun _ k => .inl k
  have s5 := g5.size
  have hcur : DSt.cur { s1 with waits := s1.waits ++ [(m, t)] } = s1.cur.set m t := dApply_snoc _ _ _
  refine ⟨blk, I.on, I.done, I.blocks, ?_, I.now.set m t hA hb (.inr (.inr rfl)) (by omega) sh, by rw [hcur]; exact I.cur.set m t ht, I.lasts.kept hA hb, I.last, ?_, I.arms.kept hA g.size hb rfl rfl rfl, .inl I.own, ?_, I.room, ?_⟩
  · simp only [List.length_append, List.length_cons, List.length_nil, hn]
    omega
  · rw [List.reverse_append]
    refine ⟨N, .pointer la, rfl, .inr (.inl rfl), hNp, ?_, ?_⟩
    · rw [g.block N hNl (by simpa using hNp)]
      exact hN
    · rw [← hla]
      exact I.chain.kept hA hb
  · rintro k (hk | hk | hk)
    · exact Nat.lt_of_lt_of_le (I.lt k hk) g.size
    · have := g.size
      omega
    · omega
  · intro x hx
    rw [List.mem_append] at hx
    rcases hx with hx | hx
    · exact I.good x hx
    · simp only [List.mem_singleton] at hx
      subst hx
      exact ⟨hm, ht⟩

set_option maxRecDepth 4000 in
set_option maxHeartbeats 1600000 in
theorem write_any (w : World) (p : Nat) (d : DV) (A : Nat → Prop) (s : DSt) (f g : Nat → ByteArray) (h : DIn w p d A s f g) (hs : s.Small 1000) (i : Int) (t : ByteArray) :
    Calls Try.prog 11 #[dptr p, .int .i64 i, .string t] w fun e w' => e = .returned (.int .i64 (s.write i t).1) ∧ Done w w' p A (s.write i t).2 := by
  have H := Hid.of h
  have HS := Hid.of hs
  clear h hs
  by_cases hm : mayErr s i t.size = 0
  · obtain ⟨h1, h2, h3, h4⟩ := mayErr_zero hm
    have HM := Hid.of hm
    obtain ⟨m, rfl⟩ : ∃ m : Nat, i = m := ⟨i.toNat, by omega⟩
    have ML : Hid (m < s.last.length) := Hid.of (by omega)
    have M9 : Hid (m < 4096) := Hid.of (by have := H.out.room; omega)
    have T2 := Hid.of h2
    have W0 : ¬ s.on = false := by simp [h1]
    cases hb : s.spend.1 with
    | false =>
      have R : s.write m t = (14, s.spend.2) := by
        unfold DSt.write
        rw [if_neg W0, if_neg (by simp [h2]), if_neg (by omega), if_neg (by simp [hb])]
      rw [R]
      have HB := Hid.of hb
      clear R W0 h1 h2 h3 h4 hb hm
      go_enter Try.func11, Try.ntmps11
      go_wp2_with (first
        | (go_at_call 28; refine (may_any _ p d s _ _ H.out.blk H.out.on H.out.blocks).mono ?_; rintro e w1 ⟨rfl, rfl⟩; rw [HM.out])
        | (go_at_call 30; refine (begin_any _ p d A s f g H.out HS.out).mono ?_; rintro e w2 ⟨rfl, c2⟩; have C2 := Hid.of c2; clear c2; rw [HB.out]))
      go_ret
      exact ⟨rfl, C2.out⟩
    | true =>
      have R : s.write m t = (0, { s.spend.2 with waits := s.spend.2.waits ++ [(m, t)] }) := by
        unfold DSt.write
        rw [if_neg W0, if_neg (by simp [h2]), if_neg (by omega), if_pos hb]
        rfl
      rw [R]
      have HB := Hid.of hb
      have SL : Hid (s.spend.2.last.length = s.last.length) := Hid.of s.spend_room
      have SW : Hid (s.spend.2.waits.length ≤ 1000) := Hid.of (Nat.le_trans s.spend_waits HS.out.2.1)
      obtain ⟨s1, hs1⟩ : ∃ s1, s.spend.2 = s1 := ⟨_, rfl⟩
      rw [hs1] at SL SW ⊢
      have HS1 := Hid.of hs1
      clear R W0 h1 h2 h3 h4 hb hm hs1
      go_enter Try.func11, Try.ntmps11
      go_wp2_with (first
        | (go_at_call 28; refine (may_any _ p d s _ _ H.out.blk H.out.on H.out.blocks).mono ?_; rintro e w1 ⟨rfl, rfl⟩; rw [HM.out])
        | (go_at_call 30; refine (begin_any _ p d A s f g H.out HS.out).mono ?_; rintro e w2 ⟨rfl, c2⟩; rw [HS1.out] at c2; obtain ⟨⟨d2, A2, f2, g2, i2, m2⟩, fr2⟩ := c2; have I2 := Hid.of i2; have M2 := Hid.of m2; have F2 := Hid.of fr2; clear i2 m2 fr2; rw [HB.out])
        | (go_at_call 31; refine (Clone_any _ _ (by have := T2.out; omega)).mono ?_; rintro e w3 ⟨rfl, b3⟩
           have I3 := Hid.of (I2.out.next b3)
           have F3 : Hid (w1.grownBy w3 (some p)) := Hid.of (grownBy_trans F2.out (grown_p b3))
           have B3 : Hid (w2.heap.size ≤ w3.heap.size) := Hid.of b3.size
           clear b3
           obtain ⟨la, hla⟩ := I3.out.chain.one.2
           have HLA := Hid.of hla
           have e4 := I3.out.blk.c134
           rw [hla] at e4
           clear hla)
        | (refine wpList_built rfl 60 _ rfl #[.pointer la, .int .i64 m, .string t] (write_built la m t) ?_)
        | (refine wpList_boxed rfl 60 _ rfl #[.pointer la, .int .i64 m, .string t] rfl ?_
           obtain ⟨w4, hw4⟩ : ∃ w4, w3.alloc (.cells #[.pointer la, .int .i64 m, .string t] 60) = w4 := ⟨_, rfl⟩
           have b4 : Below w3.heap.size w3 w4 := by rw [← hw4]; exact (Below.refl _ _).alloc (Nat.le_refl _) _
           have I4 := Hid.of (I3.out.next b4)
           have F4 : Hid (w1.grownBy w4 (some p)) := Hid.of (grownBy_trans F3.out (grown_p b4))
           have N4 : Hid (w4.heap[w3.heap.size]? = some (.cells #[.pointer la, .int .i64 m, .string t] 60 (0, 0))) := Hid.of (by rw [← hw4]; exact Go.heap_alloc_new _ _)
           rw [hw4]
           obtain ⟨N, hN⟩ : ∃ N, w3.heap.size = N := ⟨_, rfl⟩
           rw [hN] at N4 ⊢
           have HN := Hid.of hN
           clear hw4 b4 hN
           have f4 := I4.out.blk.free 134
           have f5 := I4.out.blk.free 135
           have e5 := I4.out.blk.c135
           rw [I4.out.waiting] at e5
           obtain ⟨n, hn⟩ : ∃ n, s1.waits.length = n := ⟨_, rfl⟩
           rw [hn] at e5 SW
           have n9 : (n : Int) ≤ 1000 := by have := SW.out; omega
           have HNN := Hid.of hn
           clear hn
           have e6 := I4.out.blk.c134)
        | (go_at_call 32
           obtain ⟨w5, hw5⟩ : ∃ w5, (w4.setCell ⟨p, 134, none⟩ (.pointer (some ⟨N, 0, none⟩))).setCell ⟨p, 135, none⟩ (.int .i64 ((n : Int) + 1)) = w5 := ⟨_, rfl⟩
           rw [hw5]
           have D5 : Hid (DBlk w5 p { d2 with latest := .pointer (some ⟨N, 0, none⟩), waiting := (n : Int) + 1 }) := Hid.of (by rw [← hw5]; exact (I4.out.blk.latest_ _).waiting_ _)
           have G5 : Hid (w4.grownBy w5 (some p)) := Hid.of (by rw [← hw5]; exact grownBy_trans (grownBy_setCell _ _ _ _) (grownBy_setCell _ _ _ _))
           clear hw5
           refine (put_any w5 p _ A2 f2 m t D5.out (I4.out.now.kept (fun _ k => k) (fun k hk hp => G5.out.block k (I4.out.lt k hk) (by simpa using hp))) M9.out).mono ?_
           rintro e w6 ⟨rfl, b1, b2, b3, b4⟩
           have K1 := Hid.of b1
           have K2 := Hid.of b2
           have K3 := Hid.of b3
           have K4 := Hid.of b4
           clear b1 b2 b3 b4))
      go_ret
      have hp3 := I3.out.blk.lt
      have hn3 := HN.out
      refine ⟨rfl, ⟨⟨_, _, _, _, DIn.wrote I4.out N4.out (by omega) HLA.out G5.out K3.out K4.out K1.out K2.out (by have := SL.out; have := ML.out; omega) T2.out HNN.out, ?_⟩, grownBy_trans F4.out (grownBy_trans G5.out K3.out)⟩⟩
      rintro k (hk | hk | hk)
      · exact M2.out k hk
      · have := F3.out.size
        exact .inr (by omega)
      · have := F4.out.size
        have := G5.out.size
        exact .inr (by omega)
  · rw [mayErr_write s i t hm]
    obtain ⟨er, her⟩ : ∃ er, mayErr s i t.size = er := ⟨_, rfl⟩
    rw [her] at hm ⊢
    have HM := Hid.of her
    clear her
    go_enter Try.func11, Try.ntmps11
    go_wp2_with (go_at_call 28; refine (may_any _ p d s _ _ H.out.blk H.out.on H.out.blocks).mono ?_; rintro e w1 ⟨rfl, rfl⟩; rw [HM.out])
    go_ret
    exact ⟨rfl, Done.refl H.out⟩

end Go.Proofs.Ytpgiknejgolllaa
