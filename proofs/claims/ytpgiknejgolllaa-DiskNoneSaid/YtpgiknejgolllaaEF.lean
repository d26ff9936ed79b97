/-
  What Cut answers.
-/
import Derived.Test.YtpgiknejgolllaaEE
import Derived.Test.YtpgiknejgolllaaDB
import Derived.Deep.RegionHeld3
namespace Go.Proofs.Ytpgiknejgolllaa
open Go.RowKit Go.Lib

/-- A cut under way: w is the world ahead of it, A what the disk lived in, bs what its blocks hold by now. -/
structure Cutting (w wr : World) (p : Nat) (d : DV) (A : Nat → Prop) (bs : List ByteArray) : Prop where
  ex : ∃ nw A' f, DBlk wr p { d with now := nw } ∧ Shelves wr A' p nw f ∧ Holds f bs ∧ (∀ k, A k → A' k) ∧ (∀ k, A' k → A k ∨ w.heap.size ≤ k) ∧ (∀ k, A' k → k < wr.heap.size)
  fr : w.grownBy wr (some p)

theorem grown_p {w w' : World} {p : Nat} (b : Below w.heap.size w w') : w.grownBy w' (some p) := ⟨b.os, b.tape, b.output, b.size, fun k hk _ => b.block k hk⟩

theorem Cutting.next {w wr w' : World} {p : Nat} {d : DV} {A : Nat → Prop} {bs : List ByteArray} (h : Cutting w wr p d A bs) (b : Below wr.heap.size wr w') : Cutting w w' p d A bs := by
  obtain ⟨⟨nw, A', f, a1, a2, a3, a4, a5, a6⟩, fr⟩ := h
  exact ⟨⟨nw, A', f, a1.below b, a2.kept (fun _ k => k) (fun k hk _ => b.block k (a6 k hk)), a3, a4, a5, fun k hk => Nat.lt_of_lt_of_le (a6 k hk) b.size⟩, grownBy_trans fr (grown_p b)⟩

theorem Cutting.put {w wr : World} {p : Nat} {d : DV} {A : Nat → Prop} {bs : List ByteArray} (h : Cutting w wr p d A bs) (i : Nat) (t : ByteArray) (hi : i < 4096) (ht : t.size = 256) :
    Calls Try.prog 32 #[sptr p, .int .i64 i, .string t] wr fun e w' => e = .returned (.tuple #[]) ∧ Cutting w w' p d A (bs.set i t) ∧ wr.grownBy w' (some p) := by
  obtain ⟨⟨nw, A', f, a1, a2, a3, a4, a5, a6⟩, fr⟩ := h
  refine (put_any wr p _ A' f i t a1 a2 hi).mono ?_
  rintro e w' ⟨rfl, b1, b2, b3, b4⟩
  refine ⟨rfl, ⟨⟨_, fun k => A' k ∨ k = wr.heap.size, _, b1, a2.set i t (fun k hk => .inl hk) (fun k hk hp => b3.block k (a6 k hk) (by simpa using hp)) (.inr rfl) (by have := a1.lt; omega) b2, a3.set i t ht, fun k hk => .inl (a4 k hk), fun k hk => ?_, fun k hk => ?_⟩, grownBy_trans fr b3⟩, b3⟩
  · rcases hk with hk | hk
    · exact a5 k hk
    · have := fr.size
      exact .inr (by omega)
  · rcases hk with hk | hk
    · exact Nat.lt_of_lt_of_le (a6 k hk) b3.size
    · omega

theorem Cells.off {w w' : World} {p N o : Nat} {xs : List Value} (h : Cells w N o xs) (g : w.grownBy w' (some p)) (hN : N < w.heap.size) (hp : N ≠ p) : Cells w' N o xs := fun j u hj => by
  rw [World.cell?_of_block (g.block N hN (by simpa using hp))]
  exact h j u hj

theorem DSt.cut_off_eq {s : DSt} (h : s.on = false) (ks : List Int) : s.cut ks = { s with armed := none } := by
  unfold DSt.cut
  rw [if_neg (by simp [h])]

theorem DSt.cut_on_eq {s : DSt} (h : s.on = true) (ks : List Int) : s.cut ks = { s with last := dApply s.last (dStay s.waits ks), waits := [], on := false, armed := none } := by
  unfold DSt.cut
  rw [if_pos h]

/-- A call has written into the disk's own block alone; it lives in blocks of A' now. -/
structure Done (w w' : World) (p : Nat) (A : Nat → Prop) (s' : DSt) : Prop where
  ex : ∃ d' A' f' g', DIn w' p d' A' s' f' g' ∧ (∀ k, A' k → A k ∨ w.heap.size ≤ k)
  fr : w.grownBy w' (some p)

theorem ptr_at {w : World} {N : Nat} {ps : List Value} (h : Cells w N 0 ps) (k : Nat) (v : Value) (hv : ps[k]? = some v) : w.cell? ⟨N, k, none⟩ = some v := by
  have := h k v hv
  rwa [Nat.zero_add] at this

set_option maxRecDepth 4000 in
set_option maxHeartbeats 1600000 in
theorem cut_any (w : World) (p : Nat) (d : DV) (A : Nat → Prop) (s : DSt) (f g : Nat → ByteArray) (h : DIn w p d A s f g) (hs : s.Small 1000) (v : Value) (ks : List Int)
    (hv : CellRow w v ks.length (ks.map (Value.int .i64))) (ho : ks ≠ [] → Off (· = p) v) (hk : ks.length ≤ 100000) :
    Calls Try.prog 14 #[dptr p, v] w fun e w' => e = .returned (.int .i64 s.cuts) ∧ Done w w' p A (s.cut ks) := by
  have H := Hid.of h
  have HS := Hid.of hs
  have HK := Hid.of hk
  have HV := Hid.of hv
  have HO : Hid (ks.map (Value.int .i64) ≠ [] → Off (· = p) v) := Hid.of (fun hx => ho (by simpa using hx))
  have k9 : (ks.length : Int) ≤ 100000 := by omega
  obtain ⟨va, vc, rfl, hvc⟩ := hv
  have hon := h.on
  clear h hs hk ho hvc
  by_cases hson : s.on = true
  · have ON : Hid (d.on = true) := Hid.of (hon.trans hson)
    have SON := Hid.of hson
    have R : s.cuts = s.waits.length := by unfold DSt.cuts; rw [if_pos hson]
    rw [R]
    obtain ⟨n, hn⟩ : ∃ n, s.waits.length = n := ⟨_, rfl⟩
    rw [hn]
    have HN := Hid.of hn
    have n9 : (n : Int) ≤ 1000 := by have := HS.out.2.1; omega
    clear R hson hon hn
    go_enter Try.func14, Try.ntmps14
    go_wp2_with (first
      | (go_at_call 33; refine (disarm_any _ p d H.out.blk).mono ?_; rintro e w1 ⟨rfl, d1, g1⟩; have D1 := Hid.of d1; have G1 := Hid.of g1
         have e5 := d1.c135
         rw [show d.disarm.waiting = (n : Int) from H.out.waiting.trans (by rw [HN.out])] at e5
         have f0 := d1.free 0
         have e0 := d1.c0
         have HL : Hid (d.disarm.last.length = 64) := Hid.of d1.last
         clear d1 g1)
      | (go_at_call 18; refine (isOn_any _ p _ D1.out).mono ?_; rintro e w2 ⟨rfl, rfl⟩; rw [show d.disarm.on = true from ON.out])
      | (refine wpList_load_mid rfl 28 _ rfl p 70 rfl d.disarm.last _ D1.out.rlast Try.underlying28 rfl (by rw [HL.out]; exact shelves_size) ?_)
      | (refine wpList_store_mid rfl 28 _ _ rfl p 6 d.disarm.last.toArray rfl rfl (by simpa [HL.out] using (D1.out.on_ false).there_now) (by simpa [HL.out] using shelves_size) (all_oneCell_toArray H.out.lasts.one) ?_
         obtain ⟨w3, hw3⟩ : ∃ w3, (w2.setCell ⟨p, 0, none⟩ (.bool false)).setCells p 6 d.disarm.last.toArray.toList = w3 := ⟨_, rfl⟩
         rw [hw3]
         have D3 : Hid (DBlk w3 p { d.disarm with on := false, now := d.last }) := Hid.of (by rw [← hw3]; exact (D1.out.on_ false).nows d.last HL.out)
         have G3 : Hid (w.grownBy w3 (some p)) := Hid.of (by rw [← hw3]; exact grownBy_trans G1.out (grownBy_trans (grownBy_setCell _ _ _ _) (setCells_other p _ _ _)))
         clear hw3)
      | (go_at_call 34; refine (queue_any w3 p _ A s.waits D3.out H.out.waiting (H.out.chain.kept (fun _ k => k) (fun k hk hp => G3.out.block k (H.out.lt k hk) (by simpa using hp))) HS.out.2.1).mono ?_; rintro e w4 ⟨N, ps, rfl, q1, q2, q3, q4, b4⟩
         have CU : Hid (Cutting w3 w4 p { d.disarm with on := false } A s.last) := Hid.of ⟨⟨d.last, A, g, D3.out.below b4, H.out.lasts.kept (fun _ k => k) (fun k hk hp => by rw [b4.block k (Nat.lt_of_lt_of_le (H.out.lt k hk) G3.out.size)]; exact G3.out.block k (H.out.lt k hk) (by simpa using hp)), H.out.last, fun _ k => k, fun _ k => .inl k, fun k hk => Nat.lt_of_lt_of_le (H.out.lt k hk) (Nat.le_trans G3.out.size b4.size)⟩, grown_p b4⟩
         have HP := Hid.of D3.out.lt
         have Q1 := Hid.of q1
         have Q2 := Hid.of q2
         have Q3 := Hid.of q3
         have Q4 := Hid.of q4
         clear q1 q2 q3 q4 b4
         rw [HN.out]))
    go_loopw [6, 7, 37] (fun _ _ iv wr => ∃ j : Nat, j ≤ n ∧ iv = .int .i64 j ∧ Hid (Cutting w3 wr p { d.disarm with on := false } A (dApply s.last (dStay (s.waits.take j) ks))) ∧ Hid (Cells wr N 0 ps) ∧ Hid (N < wr.heap.size)) (fun _ _ iv _ => n - (RowKit.intOf iv).toNat)
    case atStart => exact ⟨0, Nat.zero_le _, rfl, CU, Q3, Q2⟩
    case round =>
      obtain ⟨j, hj, rfl, C, PS, NL⟩ := hrel
      by_cases hlt : j < n
      · obtain ⟨x, hx⟩ : ∃ x, s.waits[j]? = some x := ⟨_, List.getElem?_eq_getElem (by have := HN.out; omega)⟩
        obtain ⟨gk, u, a1, a2, a3, a4⟩ := Q4.out.2 j x hx
        have hgood := H.out.good x (List.mem_of_getElem? hx)
        have hroom := H.out.room
        have x9 : Hid (x.1 < 4096) := Hid.of (by omega)
        have X2 := Hid.of hgood.2
        have gl : gk < w3.heap.size := (Array.getElem?_eq_some_iff.1 a4).1
        have hblk : wr.heap[gk]? = some (.cells #[u, .int .i64 x.1, .string x.2] 60 (0, 0)) := by rw [C.out.fr.block gk gl (by simpa using a3)]; exact a4
        have cp := ptr_at PS.out j _ a1
        have c1 : wr.cell? ⟨gk, 1, none⟩ = some (.int .i64 x.1) := by rw [cell_of_row _ _ _ _ _ _ hblk]; rfl
        have c2 : wr.cell? ⟨gk, 2, none⟩ = some (.string x.2) := by rw [cell_of_row _ _ _ _ _ _ hblk]; rfl
        have hsn : s.waits.take (j + 1) = s.waits.take j ++ [x] := by
          rw [List.take_add_one, hx]
          rfl
        have htl : (s.waits.take j).length = j := by
          rw [List.length_take]
          have := HN.out
          omega
        have WN : Hid (dApply s.last (dStay (s.waits.take (j + 1)) ks) = if dBit ks j then (dApply s.last (dStay (s.waits.take j) ks)).set x.1 x.2 else dApply s.last (dStay (s.waits.take j) ks)) := Hid.of (by rw [hsn, dCut_snoc, htl])
        have key : (¬ j < ks.length ∧ dBit ks j = false) ∨ (j < ks.length ∧ ∃ y, ks[j]? = some y ∧ y % 2 = 1 ∧ dBit ks j = true) ∨ (j < ks.length ∧ ∃ y, ks[j]? = some y ∧ ¬ y % 2 = 1 ∧ dBit ks j = false) := by
          by_cases c2 : j < ks.length
          · have hk : ks[j]? = some ks[j] := List.getElem?_eq_getElem c2
            by_cases c3 : ks[j] % 2 = 1
            · exact .inr (.inl ⟨c2, _, hk, c3, by simp [dBit, hk, c3]⟩)
            · exact .inr (.inr ⟨c2, _, hk, c3, by simp [dBit, hk, c3]⟩)
          · exact .inl ⟨c2, by simp [dBit, List.getElem?_eq_none (Nat.le_of_not_lt c2)]⟩
        have j0 : (0 : Int) ≤ (j : Int) := by omega
        have j1 : (j : Int) < (n : Int) := by omega
        have KV : Hid (CellRow wr (.slice va ks.length vc) ks.length (ks.map (Value.int .i64))) := Hid.of ((HV.out.off G3.out HO.out).off C.out.fr HO.out)
        have GP : Hid (gk ≠ p ∧ gk < wr.heap.size) := Hid.of ⟨a3, Nat.lt_of_lt_of_le gl C.out.fr.size⟩
        have K1 := Hid.of c1
        have K2 := Hid.of c2
        clear hx a1 a2 a3 a4 hgood hroom gl hblk hsn htl hj
        rcases key with ⟨d2, hb⟩ | ⟨d2, y, hy, hm, hb⟩ | ⟨d2, y, hy, hm, hb⟩
        · have d3 : ¬ (j : Int) < (ks.length : Int) := by omega
          have WN2 := WN.out
          rw [if_neg (by simp [hb])] at WN2
          have WN3 := Hid.of WN2
          clear WN2 hb WN
          go_wp2
          go_roundw
          case rel => exact ⟨j + 1, by omega, by go_num, Hid.of (by rw [WN3.out]; exact C.out), PS, NL⟩
          case measure => simp [RowKit.intOf]; omega
        · have d3 : (j : Int) < (ks.length : Int) := by omega
          have WN2 := WN.out
          rw [if_pos hb] at WN2
          have WN3 := Hid.of WN2
          have hb1 : bits .and .i64 y 1 = 1 := by rw [and_1]; exact hm
          obtain ⟨b3, o3, rfl, hl3, hc3⟩ := int_at0 KV.out j y hy
          clear WN2 hb WN hy hm hl3
          go_wp2
          go_region_held3 (fun w' => w'.cell? ⟨gk, 1, none⟩ = some (.int .i64 x.1) ∧ w'.cell? ⟨gk, 2, none⟩ = some (.string x.2)) (go_keep) (first | (go_at_call 32; refine ((C.out.next (Below.refl _ wr).drew).put x.1 x.2 x9.out X2.out).mono ?_; rintro e q1 ⟨rfl, c4, g4⟩; have C4 := Hid.of c4; have GG : Hid (wr.grownBy q1 (some p)) := Hid.of ⟨g4.os, g4.tape, g4.output, g4.size, fun k hk hr => g4.block k hk hr⟩; clear c4 g4 c1 c2; have c1 : q1.cell? ⟨gk, 1, none⟩ = some (.int .i64 x.1) := (by rw [World.cell?_of_block (GG.out.block gk GP.out.2 (by simpa using GP.out.1))]; exact K1.out); have c2 : q1.cell? ⟨gk, 2, none⟩ = some (.string x.2) := (by rw [World.cell?_of_block (GG.out.block gk GP.out.2 (by simpa using GP.out.1))]; exact K2.out)))
          go_wp2
          go_roundw
          case rel => exact ⟨j + 1, by omega, by go_num, Hid.of (by rw [WN3.out]; exact C4.out), Hid.of (PS.out.off GG.out NL.out (by have := HP.out; have := Q1.out; omega)), Hid.of (Nat.lt_of_lt_of_le NL.out GG.out.size)⟩
          case measure => simp [RowKit.intOf]; omega
        · have d3 : (j : Int) < (ks.length : Int) := by omega
          have WN2 := WN.out
          rw [if_neg (by simp [hb])] at WN2
          have WN3 := Hid.of WN2
          have hb1 : bits .and .i64 y 1 = 0 := by rw [and_1]; omega
          obtain ⟨b3, o3, rfl, hl3, hc3⟩ := int_at0 KV.out j y hy
          clear WN2 hb WN hy hm hl3
          go_wp2
          go_roundw
          case rel => exact ⟨j + 1, by omega, by go_num, Hid.of (by rw [WN3.out]; exact C.out), PS, NL⟩
          case measure => simp [RowKit.intOf]; omega
      · have hjn : j = n := by omega
        subst hjn
        have FIN : s.waits.take j = s.waits := List.take_of_length_le (Nat.le_of_eq HN.out)
        rw [FIN] at C
        obtain ⟨⟨nw, A', f', a1, a2, a3, a4, a5, a6⟩, fr⟩ := C.out
        have A1 := Hid.of a1
        have A2 := Hid.of a2
        have A3 := Hid.of a3
        have A4 := Hid.of a4
        have A5 := Hid.of a5
        have A6 := Hid.of a6
        have FR := Hid.of fr
        clear a1 a2 a3 a4 a5 a6 fr FIN hj
        go_wp2_with (go_at_call 27; refine (settle_any _ p _ A1.out A2.out.one).mono ?_; rintro e w9 ⟨rfl, d9, g9⟩; have D9 := Hid.of d9; have G9 := Hid.of g9; clear d9 g9)
        go_ret
        refine ⟨rfl, ⟨⟨DV.settle { d.disarm with on := false, now := nw }, A', f', f', ?_, fun k hk => ?_⟩, grownBy_trans G3.out (grownBy_trans FR.out G9.out)⟩⟩
        · rw [DSt.cut_on_eq SON.out]
          have hkept : Shelves w9 A' p nw f' := A2.out.kept (fun _ k => k) (fun k hk hp => G9.out.block k (A6.out k hk) (by simpa using hp))
          refine ⟨D9.out, rfl, H.out.done, ?_, rfl, hkept, A3.out, hkept, A3.out, rfl, ⟨rfl, _, _, _, rfl⟩, A4.out p H.out.own, fun k hk => Nat.lt_of_lt_of_le (A6.out k hk) G9.out.size, ?_, fun x hx => absurd hx (by simp)⟩
          · rw [dApply_length]
            exact H.out.blocks
          · rw [dApply_length]
            exact H.out.room
        · rcases A5.out k hk with h | h
          · exact .inl h
          · exact .inr (Nat.le_trans G3.out.size h)
  · have hoff : s.on = false := by simpa using hson
    have ON : Hid (d.on = false) := Hid.of (hon.trans hoff)
    have SOFF := Hid.of hoff
    have R : s.cuts = 0 := by unfold DSt.cuts; rw [if_neg hson]
    rw [R]
    clear R hson hon hoff
    go_enter Try.func14, Try.ntmps14
    go_wp2_with (first
      | (go_at_call 33; refine (disarm_any _ p d H.out.blk).mono ?_; rintro e w1 ⟨rfl, d1, g1⟩; have D1 := Hid.of d1; have G1 := Hid.of g1; clear d1 g1)
      | (go_at_call 18; refine (isOn_any _ p _ D1.out).mono ?_; rintro e w2 ⟨rfl, rfl⟩; rw [show d.disarm.on = false from ON.out]))
    go_ret
    refine ⟨rfl, ⟨⟨d.disarm, A, f, g, ?_, fun k hk => .inl hk⟩, G1.out⟩⟩
    rw [DSt.cut_off_eq SOFF.out]
    have hb : ∀ k, A k → k ≠ p → w2.heap[k]? = w.heap[k]? := fun k hk hp => G1.out.block k (H.out.lt k hk) (by simpa using hp)
    exact ⟨D1.out, H.out.on, H.out.done, H.out.blocks, H.out.waiting, H.out.now.kept (fun _ k => k) hb, H.out.cur, H.out.lasts.kept (fun _ k => k) hb, H.out.last, H.out.chain.kept (fun _ k => k) hb, ⟨rfl, _, _, _, rfl⟩, H.out.own, fun k hk => Nat.lt_of_lt_of_le (H.out.lt k hk) G1.out.size, H.out.room, H.out.good⟩

end Go.Proofs.Ytpgiknejgolllaa
