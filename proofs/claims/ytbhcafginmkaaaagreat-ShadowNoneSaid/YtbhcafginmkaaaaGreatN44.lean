/-
  A bundle of texts: TMN TMO TMP TMT TMU TMV.
-/
import Derived.Shelf.SlMaps.Clone
import Derived.Test.YtbhcafginmkaaaaGreatN43
import Derived.Test.YtbhcafginmkaaaaGreatN23
import Derived.Test.YtbhcafginmkaaaaGreatN05
namespace Go.Proofs.YtbhcafginmkaaaaGreat
open Go.RowKit Go.Lib Go.Shelf

def laysMClone_ren : Go.Shelf.Ren := ⟨fun | 5 => 228 | 7 => 265 | n => n, fun | 23 => 261 | 25 => 9 | 3 => 266 | 4 => 4 | 20 => 20 | n => n, fun | n => n⟩
theorem laysMClone : Go.Proofs.SlLaysW.n5 Tryz.prog laysMClone_ren := {
  mixed := by kernel_rfl
  f5 := ⟨Tryz.f228.name, by decide, Tryz.func228.trans (congrArg some (by kernel_rfl))⟩
  f7 := Tryz.func265.trans (congrArg some (by kernel_rfl))
  t4 := Tryz.underlying4
  a4 := Tryz.isAgg4
  z4 := Tryz.sizeOf4
  v4 := Tryz.zeroValue4
  t20 := Tryz.underlying20
  a20 := Tryz.isAgg20
  z20 := Tryz.sizeOf20
  v20 := Tryz.zeroValue20
  t23 := Tryz.underlying261
  a23 := Tryz.isAgg261
  z23 := Tryz.sizeOf261
  v23 := Tryz.zeroValue261 }

theorem mclone_any {w : World} {b n : Nat} {m : ByteArray → Option Value} (h : TMap w b n m) :
    Calls Tryz.prog 228 #[.map (some b)] w fun e w' => e = .returned (.map (some w.heap.size)) ∧ TMap w' w.heap.size n m ∧ w.heap.size < w'.heap.size ∧ Below w.heap.size w w' := by
  obtain ⟨D, hown, hkn⟩ := h
  refine (AnyW.maps_Clone_owns (ρ := laysMClone_ren) laysMClone 9 asIs b n D w hown).mono ?_
  rintro e w' ⟨rfl, h1, -, h3⟩
  exact ⟨rfl, ⟨D, h1, hkn⟩, h1.lt, h3⟩

/-- A twin under way: of the names that are done the rows are its own; of the others they are the elder table's. -/
structure Twin (w : World) (D B q n : Nat) (m mm : ByteArray → Option Value) (left : ByteArray → Bool) (l : List TRec) : Prop where
  map : TMap w B n mm
  todo : ∀ s, left s = true → (m s).isSome = true
  none_ : ∀ s, s.size ≤ maxLen → m s = none → mm s = none
  done : ∀ s, s.size ≤ maxLen → left s = false → (m s).isSome = true → ∃ u, mm s = some u ∧ BkOwn w D u (ser l s) ∧ u.ownBlock ≠ some B ∧ u.ownBlock ≠ some q
  apart : ∀ s t u v g, s.size ≤ maxLen → t.size ≤ maxLen → left s = false → left t = false → mm s = some u → mm t = some v → u.ownBlock = some g → v.ownBlock = some g → s = t

theorem Twin.at {w w' : World} {D B q n r : Nat} {m mm : ByteArray → Option Value} {left : ByteArray → Bool} {l : List TRec} (h : Twin w D B q n m mm left l) (k : ∀ i, i < w.heap.size → i ≠ r → w'.heap[i]? = w.heap[i]?) (hB : B ≠ r) (hr : ∀ cs t, w.heap[r]? ≠ some (.cells cs t (0, 0))) : Twin w' D B q n m mm left l where
  map := h.map.at (k B h.map.lt hB)
  todo := h.todo
  none_ := h.none_
  done s hs hl hm := by
    obtain ⟨u, h1, h2, h3⟩ := h.done s hs hl hm
    refine ⟨u, h1, own_at h2 (fun g hg => k g (own_lt h2 hg) (fun c => ?_)), h3⟩
    subst c
    rcases h2.2 with ⟨rfl, _⟩ | ⟨g', cap, cur, rfl, _, hrow, _⟩
    · cases hg
    · cases hg
      exact hr _ _ hrow
  apart := h.apart

/-- One more is done. -/
theorem Twin.next {w w' w2 : World} {D B q n n' : Nat} {m mm : ByteArray → Option Value} {left : ByteArray → Bool} {l : List TRec} (h : Twin w D B q n m mm left l) (bl : Below w.heap.size w w') (hq : q < w.heap.size) (hD : D ≤ w.heap.size) {s : ByteArray} (hs : s.size ≤ maxLen) (hls : left s = true) {u : Value} (hu : BkOwn w' w.heap.size u (ser l s))
    (hm : TMap w2 B n' (mPut mm s u)) (ht : w'.mapTurned w2 B) : Twin w2 D B q n' m (mPut mm s u) (lessN left s) l := by
  have hge : ∀ g, u.ownBlock = some g → w.heap.size ≤ g := fun g hg => own_ge hu hg
  have hB := h.map.lt
  have hlf : ∀ t, t ≠ s → lessN left s t = left t := fun t c => by simp [lessN, c]
  refine ⟨hm, fun t c => h.todo t (by simp [lessN] at c; exact c.1), fun t hts c => ?_, fun t hts hl hms => ?_, fun t x y z g ht' hx h1 h2 h3 h4 g1 g2 => ?_⟩
  · unfold mPut
    rw [if_neg (fun e => by rw [e] at c; have := h.todo s hls; rw [c] at this; cases this)]
    exact h.none_ t hts c
  · unfold mPut
    by_cases e : t = s
    · subst e
      rw [if_pos rfl]
      refine ⟨u, rfl, own_at (own_base hu (fun g hg => Nat.le_trans hD (hge g hg))) (fun g hg => ht.grown.block g (own_lt hu hg) (fun c => ?_)), fun c => ?_, fun c => ?_⟩
      · have := hge g hg
        have := Option.some.inj c
        omega
      · have := hge B c
        omega
      · have := hge q c
        omega
    · rw [if_neg e]
      rw [hlf t e] at hl
      obtain ⟨x, h1, h2, h3, h4⟩ := h.done t hts hl hms
      refine ⟨x, h1, own_at h2 (fun g hg => ?_), h3, h4⟩
      rw [ht.grown.block g (Nat.lt_of_lt_of_le (own_lt h2 hg) bl.size) (fun c => h3 (by rw [hg, c]))]
      exact bl.block g (own_lt h2 hg)
  · have key : ∀ a v, a.size ≤ maxLen → a ≠ s → lessN left s a = false → mm a = some v → v.ownBlock = some g → g < w.heap.size := fun a v ha hne hl hv hg => by
      rw [hlf a hne] at hl
      cases hma : m a with
      | none => rw [h.none_ a ha hma] at hv; cases hv
      | some x =>
        obtain ⟨y, k1, k2, _⟩ := h.done a ha hl (by rw [hma]; rfl)
        rw [k1] at hv
        cases hv
        exact own_lt k2 hg
    unfold mPut at h3 h4
    by_cases ts : t = s
    · rw [if_pos ts] at h3
      by_cases xs : x = s
      · rw [ts, xs]
      · rw [if_neg xs] at h4
        have a1 := key x z hx xs h2 h4 g2
        rw [← Option.some.inj h3] at g1
        have := hge g g1
        omega
    · rw [if_neg ts] at h3
      by_cases xs : x = s
      · rw [if_pos xs] at h4
        have a1 := key t y ht' ts h1 h3 g1
        rw [← Option.some.inj h4] at g2
        have := hge g g2
        omega
      · rw [if_neg xs] at h4
        rw [hlf t ts] at h1
        rw [hlf x xs] at h2
        exact h.apart t x y z g ht' hx h1 h2 h3 h4 g1 g2

/-- All are done: a table. -/
theorem Twin.made {w w0 : World} {D B q n p b : Nat} {m mm : ByteArray → Option Value} {left : ByteArray → Bool} {l : List TRec} {e : Int} (h : Twin w D B q n m mm left l) (h0 : TIs w0 p e l b m) (hl : ∀ s, s.size ≤ maxLen → left s = false) (hq : w.heap[q]? = some (.cells #[.int .i64 e, .map (some B)] 263)) (hqB : q ≠ B) : TIs w q e l B mm := by
  have hsome : ∀ s, s.size ≤ maxLen → ser l s ≠ [] → (m s).isSome = true := fun s hs c => by
    obtain ⟨v, hv, _⟩ := h0.some_ s hs c
    rw [hv]
    rfl
  refine TIs.make hq h.map (fun s hs c => h.none_ s hs (h0.none_ s hs c)) (fun s hs c => ?_) (fun s t u v g hs ht h1 h2 g1 g2 => h.apart s t u v g hs ht (hl s hs) (hl t ht) h1 h2 g1 g2) hqB h0.sorted h0.ok h0.fit h0.e1 h0.e64
  obtain ⟨u, h1, h2, h3, h4⟩ := h.done s hs (hl s hs) (hsome s hs c)
  exact ⟨u, h1, own_base h2 (fun _ _ => Nat.zero_le _), h3, h4⟩

end Go.Proofs.YtbhcafginmkaaaaGreat

namespace Go.Proofs.YtbhcafginmkaaaaGreat
open Go.RowKit Go.Lib

theorem RangeIs.iter {P : Program} {k : TypeId} {w : World} {b r n cnt : Nat} {m : ByteArray → Option Value} {left : ByteArray → Bool} (h : RangeIs P k w b r n m left cnt) : ∀ cs t, w.heap[r]? ≠ some (.cells cs t (0, 0)) := by
  obtain ⟨D, lf, ⟨es, clock, since, seen, c0, _, _, _, _, hr, _⟩, _⟩ := h
  intro cs t c
  rw [hr] at c
  cases c

/-- All that a twin holds lies above where it began. -/
theorem Twin.ge {w : World} {D B q n : Nat} {m mm : ByteArray → Option Value} {left : ByteArray → Bool} {l : List TRec} (h : Twin w D B q n m mm left l) (hl : ∀ s, s.size ≤ maxLen → left s = false) (hD : D ≤ B) {k : Nat} (hk : foot B mm k) : D ≤ k := by
  rcases hk with rfl | ⟨s, v, hs, hv, hg⟩
  · exact hD
  · cases hms : m s with
    | none => rw [h.none_ s hs hms] at hv; cases hv
    | some x =>
      obtain ⟨u, h1, h2, _⟩ := h.done s hs (hl s hs) (by rw [hms]; rfl)
      rw [h1] at hv
      cases hv
      exact own_ge h2 hg

set_option maxHeartbeats 3200000 in
set_option maxRecDepth 20000 in
theorem tcopy_any {w : World} {p : Nat} {e : Int} {l : List TRec} {F : TFoot} (h : TRep w p e l F) (hl : l.length ≤ 1000) :
    Calls Tryz.prog 146 #[tptr p] w fun x w' => ∃ q G, x = .returned (tptr q) ∧ TRep w' q e l G ∧ (∀ k, G.own k → w.heap.size ≤ k) ∧ (∀ k, G.all k → w.heap.size ≤ k) ∧ Below w.heap.size w w' := by
  obtain ⟨b, m, h, rfl⟩ := h
  have H := Hid.of h
  have c0 : w.drew.cell? ⟨p, 0, none⟩ = some (.int .i64 e) := h.c0
  have c1 : w.drew.cell? ⟨p, 1, none⟩ = some (.map (some b)) := h.c1
  obtain ⟨n, hn⟩ : ∃ n, l.length = n := ⟨_, rfl⟩
  have LN := Hid.of hn
  have hm := h.map
  rw [hn] at hm hl
  have HMP := Hid.of hm
  have hcl := (mclone_any (w := w.drew) hm).mono (R' := fun x w' => x = .returned (.map (some w.heap.size)) ∧ TMap w' w.heap.size n m ∧ w.heap.size < w'.heap.size ∧ Below w.heap.size w w') (by rintro x w' ⟨rfl, h1, h2, b⟩; exact ⟨rfl, h1, h2, ⟨b.os, b.tape, b.output, b.size, b.block⟩⟩)
  clear h hn hm
  go_enter Tryz.func146, Tryz.ntmps146
  go_wp2_with fail
  refine wp_region_noPanic ?_
  go_region_with (first
    | (go_at_call 228; go_loud (refine hcl.mono ?_; rintro x w2 ⟨rfl, m2, s2, b2⟩; have d0 := (H.out.below b2).c0; have d1 := (H.out.below b2).c1; have M2 := Hid.of m2; have S2 := Hid.of s2; have B2 := Hid.of b2; clear m2 s2 b2)))
  all_goals
    refine NoPanic.normal ?_
    obtain ⟨w3, hw3⟩ : ∃ w3, w2.alloc (.cells #[.int .i64 e, .map (some w.heap.size)] 263) = w3 := ⟨_, rfl⟩
    obtain ⟨q, hq⟩ : ∃ q, w2.heap.size = q := ⟨_, rfl⟩
    have Q3 : Hid (w3.heap[q]? = some (.cells #[.int .i64 e, .map (some w.heap.size)] 263)) := Hid.of (by rw [← hw3, ← hq]; exact (MapKept.heap_alloc w2 _).1)
    have QL : Hid (w.heap.size < q ∧ q < w3.heap.size) := Hid.of (by rw [← hw3, ← hq]; exact ⟨S2.out, by simp⟩)
    have B3 : Hid (Below w.heap.size w w3) := Hid.of (by rw [← hw3]; exact B2.out.alloc B2.out.size _)
    have M3 : Hid (TMap w3 w.heap.size n m) := Hid.of (M2.out.at (by rw [← hw3]; exact (MapKept.heap_alloc w2 _).2 _ M2.out.lt))
    have e1 := (H.out.below B3.out).c1
    have hm3 : TMap w3 b n m := HMP.out.at (B3.out.block b HMP.out.lt)
    rw [hw3, hq]
    clear d0 d1 c0 c1 hcl hw3 hq M2 B2 S2
    go_wp2_with (first
      | (at_range; refine wpList_range_text _ rfl _ 261 rfl 9 266 kT mT b n m rfl hm3 ?_; intro w4 c4 hrg4 hc4 hg4 hs4)
      | go_in)
    go_frame
    have B4 := Hid.of (B3.out.grown hg4 B3.out.size (fun j hj => by cases hj))
    have Q4 : Hid (w4.heap[q]? = some (.cells #[.int .i64 e, .map (some w.heap.size)] 263)) := Hid.of ((hg4.block q QL.out.2 (by simp)).trans Q3.out)
    have M4 : Hid (TMap w4 w.heap.size n m) := Hid.of (M3.out.at (hg4.block _ M3.out.lt (by simp)))
    have hRL : w.heap.size < w3.heap.size := by have := QL.out; omega
    have TW0 : Hid (Twin w4 w.heap.size w.heap.size q n m m (fun s => (m s).isSome) l) := Hid.of ⟨M4.out, fun _ h => h, fun _ _ h => h, fun s _ h1 h2 => (by rw [h1] at h2; cases h2), fun s t u v g hs _ h1 _ h3 => (by rw [h3] at h1; cases h1)⟩
    clear hg4 hm3 e1 Q3 M3 M4
    have HW4 := Hid.of (show w4.heap.size = w3.heap.size + 1 from hs4)
    have RG4 := Hid.of hrg4
    clear hrg4 hs4
    go_loopg [] n (fun kx wr => ∃ (left : ByteArray → Bool) (cnt nb : Nat) (mm : ByteArray → Option Value), cnt ≤ kx ∧ nb + cnt ≤ 2 * n ∧ Hid (RangeIs Tryz.prog 9 wr b w3.heap.size n m left cnt) ∧ Hid (Twin wr w.heap.size w.heap.size q nb m mm left l) ∧ Hid (wr.heap[q]? = some (.cells #[.int .i64 e, .map (some w.heap.size)] 263)) ∧ Hid (Below w.heap.size w wr))
    case atStart => exact ⟨_, c4, n, m, hc4, by omega, RG4, TW0, Q4, B4⟩
    case round =>
      obtain ⟨left, cnt, nb, mm, hck, hnb, RG, TW, QH, HB⟩ := hrel
      have hrg := RG.out
      go_wp2_with (first
        | (at_next; refine wpList_next_text _ rfl _ rfl 9 kT b w3.heap.size n m left cnt rfl hrg ?_ ?_)
        | go_in)
      · intro h0 hdone
        have TD := Hid.of hdone
        clear hdone h0 hrg
        go_wp2
        go_ret
        refine ⟨q, _, rfl, ⟨w.heap.size, mm, TW.out.made H.out TD.out QH.out (by have := QL.out; omega), rfl⟩, ?_, ?_, HB.out⟩
        · intro k hk
          exact TW.out.ge TD.out (Nat.le_refl _) hk
        · intro k hk
          rcases hk with rfl | hk
          · have := QL.out; omega
          · exact TW.out.ge TD.out (Nat.le_refl _) hk
      · intro s v w5 cnt' hs hls hms hrg1 hlt hg1 hs1 hen
        have TW5 := Hid.of (TW.out.at (w' := w5) (r := w3.heap.size) (fun i _ hi => hg1.block i ‹_› (fun c => hi (Option.some.inj c))) (by omega) RG.out.iter)
        have Q5 : Hid (w5.heap[q]? = some (.cells #[.int .i64 e, .map (some w.heap.size)] 263)) := Hid.of ((hg1.block q (Array.getElem?_eq_some_iff.1 QH.out).1 (fun c => by have := Option.some.inj c; have := QL.out; omega)).trans QH.out)
        have B5 := Hid.of (below_next HB.out hg1 (by omega) HB.out.size)
        have hv := own_at (H.out.known hs hms).2.1 (w' := w5) (fun g hg => B5.out.block g (own_lt (H.out.known hs hms).2.1 hg))
        obtain ⟨va, vc, rfl, hvc, hvm⟩ := own_shape hv
        have hln := ser_le l s
        obtain ⟨N, hN⟩ : ∃ N, (ser l s).length = N := ⟨_, rfl⟩
        have hrow : BkRow w5.drew (.slice va (ser l s).length vc) (ser l s) := BkOwn.row (D := 0) (w := w5) hv
        have hcl2 := (bkClone_any _ _ w5.drew hrow (by have := LN.out; omega)).mono (R' := fun x w' => ∃ u, x = .returned u ∧ BkOwn w' w5.heap.size u (ser l s) ∧ Below w5.heap.size w5 w') (by rintro x w' ⟨u, rfl, o, b⟩; exact ⟨u, rfl, o, ⟨b.os, b.tape, b.output, b.size, b.block⟩⟩)
        rw [hN] at hen hvc hcl2
        have NE := Hid.of hN
        have LS := Hid.of hls
        have RG5 := Hid.of hrg1
        have QS : Hid (q < w5.heap.size) := Hid.of (Array.getElem?_eq_some_iff.1 Q5.out).1
        have d1 : w5.drew.cell? ⟨q, 1, none⟩ = some (.map (some w.heap.size)) := by
          have := Q5.out
          show w5.cell? _ = _
          simp [World.cell?, this]
        have hnm : nb < maxLen := by unfold maxLen; omega
        clear hv hrow hN hrg hrg1 hg1 hs1 hms hls hln hvc hvm
        go_wp2_with fail
        refine wp_region_noPanic ?_
        go_region_with (first
          | (go_at_call 229; go_loud (refine hcl2.mono ?_; rintro x w6 ⟨u6, rfl, o6, b6⟩; have O6 := Hid.of o6; have B6 := Hid.of b6; have Q6 : Hid (w6.heap[q]? = some (.cells #[.int .i64 e, .map (some w.heap.size)] 263)) := Hid.of ((b6.block q QS.out).trans Q5.out); have d2 : w6.cell? ⟨q, 1, none⟩ = some (.map (some w.heap.size)) := (by have := Q6.out; simp [World.cell?, this]); have hm6 : TMap w6 w.heap.size nb mm := TW5.out.map.at (b6.block _ TW5.out.map.lt); obtain ⟨w7, hrun7, hm7, ht7⟩ := hm6.store kT mT hnm hs u6; have M7 := Hid.of hm7; have T7 := Hid.of ht7; clear o6 b6 hm7 ht7 hm6)))
        all_goals
          refine NoPanic.normal ?_
          clear hrun7 d2 d1
          go_wp2
          go_roundg cnt'
          case measure => omega
          case rel =>
            have hold : ∀ i, i < w6.heap.size → i ≠ w.heap.size → w7.heap[i]? = w6.heap[i]? := fun i hi hne => T7.out.grown.block i hi (fun c => hne (Option.some.inj c))
            have hb0 := H.out.map.lt
            have hb6 := RG5.out.is.lt
            have hr6 := RG5.out.lt
            refine ⟨lessN left s, cnt', nb + 1, mPut mm s u6, Nat.le_refl _, by omega, Hid.of ?_, Hid.of (TW5.out.next B6.out QS.out B5.out.size hs LS.out O6.out M7.out T7.out), Hid.of ?_, Hid.of ?_⟩
            · exact RG5.out.at ((hold b (Nat.lt_of_lt_of_le hb6 B6.out.size) (by omega)).trans (B6.out.block b hb6)) ((hold _ (Nat.lt_of_lt_of_le hr6 B6.out.size) (by omega)).trans (B6.out.block _ hr6))
            · exact (hold q (Nat.lt_of_lt_of_le QS.out B6.out.size) (by have := QL.out; omega)).trans Q6.out
            · exact (B5.out.trans (B6.out.mono B5.out.size)).grown T7.out.grown (by have := B5.out.size; have := B6.out.size; omega) (fun j hj => by cases hj; exact Nat.le_refl _)

end Go.Proofs.YtbhcafginmkaaaaGreat

namespace Go.Proofs.YtbhcafginmkaaaaGreat
open Go.RowKit Go.Lib

theorem tAdds_key {e : Int} {l rs : List TRec} {x : TRec} (h : x ∈ tAdds e l rs) : (∃ y ∈ l, x.k = y.k) ∨ ∃ y ∈ rs, x.k = y.k := by
  induction rs generalizing l with
  | nil => exact .inl ⟨x, h, rfl⟩
  | cons r rs ih =>
    rcases ih (l := tAdd e l r) h with ⟨y, hy, ey⟩ | ⟨y, hy, ey⟩
    · unfold tAdd at hy
      split at hy
      · rcases tIns_key hy with c | ⟨z, hz, c⟩
        · exact .inr ⟨r, List.mem_cons_self .., ey.trans c⟩
        · exact .inl ⟨z, hz, ey.trans c⟩
      · exact .inl ⟨y, hy, ey⟩
    · exact .inr ⟨y, List.mem_cons_of_mem _ hy, ey⟩

/-- What comes of records that fit fits. -/
theorem tAdds_fit {e : Int} {l rs : List TRec} (hl : ∀ x ∈ l, TFit x) (ha : TAll l) (hr : ∀ x ∈ rs, TFit x) : ∀ x ∈ tAdds e l rs, TFit x := fun x hx => by
  have h1 := tAdds_all (e := e) ha (fun r hr' => (hr r hr').2.2) x hx
  have hk : ∀ y : TRec, TFit y → x.k = y.k → TFit x := fun y hy c => by
    simp only [TRec.k, Prod.mk.injEq] at c
    exact ⟨by rw [c.1]; exact hy.1, by rw [c.2]; exact hy.2.1, h1.2⟩
  rcases tAdds_key hx with ⟨y, hy, c⟩ | ⟨y, hy, c⟩
  · exact hk y (hl y hy) c
  · exact hk y (hr y hy) c

/-- A row's block holds buckets. -/
theorem bk_cells {w : World} {D g : Nat} {v : Value} {bs : List Bk} (h : BkOwn w D v bs) (hg : v.ownBlock = some g) : ∃ cs, w.heap[g]? = some (.cells cs 269 (0, 0)) := by
  rcases h.2 with ⟨rfl, _⟩ | ⟨g', cap, cur, rfl, _, hrow, _⟩
  · cases hg
  · cases hg
    exact ⟨_, hrow⟩
theorem own_not_map {w : World} {D b n : Nat} {v : Value} {bs : List Bk} {m : ByteArray → Option Value} (h : BkOwn w D v bs) (k : TMap w b n m) : v.ownBlock ≠ some b := fun c => by
  obtain ⟨cs, hc⟩ := bk_cells h c
  obtain ⟨_, ⟨es, clock, hb, _⟩, _⟩ := k
  rw [hb] at hc
  cases hc
theorem own_not_iter {w : World} {D b r n cnt : Nat} {v : Value} {bs : List Bk} {m : ByteArray → Option Value} {left : ByteArray → Bool} (h : BkOwn w D v bs) (k : RangeIs Tryz.prog 9 w b r n m left cnt) : v.ownBlock ≠ some r := fun c => by
  obtain ⟨cs, hc⟩ := bk_cells h c
  exact k.iter _ _ hc
theorem own_not_table {w : World} {D p b : Nat} {e : Int} {l : List TRec} {v : Value} {bs : List Bk} {m : ByteArray → Option Value} (h : BkOwn w D v bs) (k : TIs w p e l b m) : v.ownBlock ≠ some p := fun c => by
  obtain ⟨cs, hc⟩ := bk_cells h c
  rw [k.cell] at hc
  simp only [Option.some.injEq, Obj.cells.injEq] at hc
  exact absurd hc.2.1 (by decide)

/-- A step of a loop over another map has turned its iterator alone. -/
theorem TIs.aside {w w' : World} {p b : Nat} {e : Int} {l : List TRec} {m : ByteArray → Option Value} (h : TIs w p e l b m) {B r n cnt : Nat} {m' : ByteArray → Option Value} {lf : ByteArray → Bool} (hr : RangeIs Tryz.prog 9 w B r n m' lf cnt) (hg : w.grownBy w' (some r)) (hp : p ≠ r) (hb : b ≠ r) : TIs w' p e l b m := by
  refine h.at fun i hi => ?_
  refine hg.block i (hi.elim (fun c => by rw [c]; exact h.lt_p) h.lt) fun c => ?_
  cases c
  rcases hi with c | c | ⟨s, v, hs, hv, hgb⟩
  · exact hp c.symm
  · exact hb c.symm
  · exact own_not_iter (h.known hs hv).2.1 hr hgb

/-- What is rolled of the records, from a time on. -/
def rUp (l : List TRec) (E f : Int) : List TRec := (l.map (tFl E)).filter fun x => decide (f ≤ x.s)
/-- What is rolled when of the names these are left. -/
def lUp (l : List TRec) (left : ByteArray → Bool) (E f : Int) : List TRec := tAdds E [] (rUp (l.filter fun x => !left x.n) E f)

theorem rUp_ser (l : List TRec) (E f : Int) (s : ByteArray) : ser (rUp l E f) s = ((ser l s).map (sFl E)).filter fun b => decide (f ≤ b.1) := by
  unfold rUp
  rw [ser_filter_start (fun t => decide (f ≤ t))]
  congr 1
  unfold ser
  rw [List.filter_map, List.map_map, List.map_map]
  rfl

theorem rUp_ok {l : List TRec} {e E f : Int} (hE : 1 ≤ E) (h : ∀ x ∈ l, tOk e x = true) : ∀ x ∈ rUp l E f, tOk E x = true := fun x hx => by
  obtain ⟨y, hy, rfl⟩ := List.mem_map.1 (List.mem_filter.1 hx).1
  exact tFl_ok hE (h y hy)

theorem rUp_fit {l : List TRec} {e E f : Int} (hE : 1 ≤ E) (h : ∀ x ∈ l, tOk e x = true) (hf : ∀ x ∈ l, TFit x) : ∀ x ∈ rUp l E f, TFit x := fun x hx => by
  obtain ⟨y, hy, rfl⟩ := List.mem_map.1 (List.mem_filter.1 hx).1
  obtain ⟨f1, f2, f3⟩ := hf y hy
  have h0 := h y hy
  unfold tOk at h0
  simp only [Bool.and_eq_true, decide_eq_true_eq] at h0
  have h1 := h0.1.1.2
  refine ⟨f1, ?_, f3⟩
  have g1 := gFloor_plain0 h1 hE
  have g2 := gPast_bounds y.s hE
  have g3 : gPast y.s E ≤ y.s := past_le hE h1
  unfold TIn64 at *
  show _ ≤ gFloor y.s E ∧ gFloor y.s E ≤ _
  omega

section
variable {l : List TRec} {left : ByteArray → Bool} {e E f : Int}

theorem lUp_sorted : TSorted (lUp l left E f) := tAdds_sorted sorted_nil
theorem lUp_sub (h : ∀ x ∈ l, tOk e x = true) : ∀ x ∈ l.filter (fun x => !left x.n), tOk e x = true := fun x hx => h x (List.mem_filter.1 hx).1
theorem lUp_ok (hE : 1 ≤ E) (h : ∀ x ∈ l, tOk e x = true) (hf : ∀ x ∈ l, TFit x) : ∀ x ∈ lUp l left E f, tOk E x = true :=
  tAdds_ok (fun _ hx => absurd hx List.not_mem_nil) (fun x hx => (rUp_fit hE (lUp_sub h) (fun y hy => hf y (List.mem_filter.1 hy).1) x hx).2.2) all_nil
theorem lUp_fit (hE : 1 ≤ E) (h : ∀ x ∈ l, tOk e x = true) (hf : ∀ x ∈ l, TFit x) : ∀ x ∈ lUp l left E f, TFit x :=
  tAdds_fit (fun _ hx => absurd hx List.not_mem_nil) all_nil (rUp_fit hE (lUp_sub h) (fun y hy => hf y (List.mem_filter.1 hy).1))
theorem lUp_ser (hE : 1 ≤ E) (h : ∀ x ∈ l, tOk e x = true) (s : ByteArray) : ser (lUp l left E f) s = if left s = true then [] else sRoll (ser l s) E f := by
  unfold lUp
  rw [ser_adds sorted_nil, filter_ok (rUp_ok hE (lUp_sub h)), rUp_ser, ser_filter_name (fun x => !left x)]
  by_cases c : left s = true
  · rw [if_neg (by rw [c]; decide), if_pos c]
    rfl
  · rw [if_pos (by simpa using c), if_neg c]
    rfl

theorem lUp_len : (lUp l left E f).length ≤ l.length := by
  unfold lUp rUp
  refine Nat.le_trans (tAdds_len ..) ?_
  rw [List.length_nil, Nat.zero_add]
  refine Nat.le_trans (List.length_filter_le ..) ?_
  rw [List.length_map]
  exact List.length_filter_le ..
theorem lUp_start (h : ∀ x ∈ l, left x.n = true) : lUp l left E f = [] := by
  unfold lUp
  rw [List.filter_eq_nil_iff.2 (fun x hx => by rw [h x hx]; decide)]
  rfl
theorem lUp_end (h : ∀ x ∈ l, left x.n = false) : lUp l left E f = tAdds E [] (rUp l E f) := by
  unfold lUp
  rw [List.filter_eq_self.2 (fun x hx => by rw [h x hx]; rfl)]

theorem lUp_next (hE : 1 ≤ E) (h : ∀ x ∈ l, tOk e x = true) {s : ByteArray} (hls : left s = true) (t : ByteArray) : ser (lUp l (lessN left s) E f) t = if t = s then sRoll (ser l s) E f else ser (lUp l left E f) t := by
  rw [lUp_ser hE h, lUp_ser hE h]
  by_cases ts : t = s
  · subst ts
    rw [if_neg (by simp [lessN]), if_pos rfl]
  · rw [if_neg (c := t = s) ts]
    have : lessN left s t = left t := by simp [lessN, ts]
    rw [this]

/-- Of a series nothing is rolled: the same table. -/
theorem lUp_same (hE : 1 ≤ E) (h : ∀ x ∈ l, tOk e x = true) {s : ByteArray} (hls : left s = true) (hr : sRoll (ser l s) E f = []) : lUp l (lessN left s) E f = lUp l left E f := by
  refine by_series lUp_sorted lUp_sorted fun t => ?_
  rw [lUp_next hE h hls]
  by_cases ts : t = s
  · rw [if_pos ts, hr, ts, lUp_ser hE h, if_pos hls]
  · rw [if_neg ts]

/-- A series is rolled: a new row under a new name. -/
theorem lUp_put {w w' w2 : World} {q b n : Nat} {m : ByteArray → Option Value} (hE : 1 ≤ E) (h : ∀ x ∈ l, tOk e x = true) (hf : ∀ x ∈ l, TFit x) {s : ByteArray} (hs : s.size ≤ maxLen) (hls : left s = true) (hne : sRoll (ser l s) E f ≠ []) (hT : TIs w q E (lUp l left E f) b m) (bl : Below w.heap.size w w')
    {u : Value} (hu : BkOwn w' w.heap.size u (sRoll (ser l s) E f)) (hm : TMap w2 b n (mPut m s u)) (ht : w'.mapTurned w2 b) : TIs w2 q E (lUp l (lessN left s) E f) b (mPut m s u) := by
  have hss : ser (lUp l (lessN left s) E f) s = sRoll (ser l s) E f := by rw [lUp_next hE h hls, if_pos rfl]
  have hge : ∀ g, u.ownBlock = some g → w.heap.size ≤ g := fun g hg => own_ge hu hg
  have hb := hT.map.lt
  have hp := hT.lt_p
  have hold : ∀ i, i < w.heap.size → i ≠ b → w2.heap[i]? = w.heap[i]? := fun i hi hib => (ht.grown.block i (Nat.lt_of_lt_of_le hi bl.size) (fun c => hib (Option.some.inj c))).trans (bl.block i hi)
  refine hT.put s hs u hm ?_ ?_ (fun c => ?_) (fun c => ?_) (fun t x g hts ne hx hg => ⟨fun c => ?_, ?_⟩) (hold q hp hT.pb) (fun t ne => by rw [lUp_next hE h hls, if_neg ne]) lUp_sorted (lUp_ok hE h hf) (lUp_fit hE h hf)
  · rw [hss]
    refine own_at (own_base hu (D' := 0) (fun _ _ => Nat.zero_le _)) (fun g hg => ht.grown.block g (own_lt hu hg) (fun c => ?_))
    have := hge g hg
    have := Option.some.inj c
    omega
  · rw [hss]
    exact hne
  · have := hge b c
    omega
  · have := hge q c
    omega
  · have := hge g c
    have := own_lt (hT.known hts hx).2.1 hg
    omega
  · exact hold g (own_lt (hT.known hts hx).2.1 hg) (fun c => (hT.known hts hx).2.2.1 (by rw [hg, c]))
end

theorem sRoll_len (l : List Bk) (e f : Int) : (sRoll l e f).length ≤ l.length := by
  have h1 := (sAdds_len [] ((l.map (sFl e)).filter fun b => decide (f ≤ b.1))).2.1
  have h2 := List.length_filter_le (fun b : Bk => decide (f ≤ b.1)) (l.map (sFl e))
  rw [List.length_map] at h2
  rw [sRoll_eq]
  simp only [List.length_nil] at h1
  omega

theorem quiet_r {P : Program} {f : FuncId} {args : Array Value} {w : World} {n : Nat} {v : Value}
    (h : Calls P f args (w.drewN n) fun e w' => e = .returned v ∧ ∃ k, w' = (w.drewN n).drewN k) : Calls P f args (w.drewN n) fun e w'' => e = .returned v ∧ ∃ m, w'' = w.drewN m :=
  h.mono fun _ _ ⟨he, k, hk⟩ => ⟨he, n + k, by rw [hk, World.drewN_drewN]⟩

theorem every_quiet {w : World} {p b : Nat} {e : Int} {l : List TRec} {m : ByteArray → Option Value} (h : TIs w p e l b m) (n : Nat) :
    Calls Tryz.prog 230 #[tptr p] (w.drewN n) fun x w' => x = .returned (.int .i64 e) ∧ ∃ q, w' = (w.drewN n).drewN q := by
  have c0 : (w.drewN n).cell? ⟨p, 0, none⟩ = some (.int .i64 e) := h.c0
  have he : max e 1 = e := by have := h.e1; omega
  clear h
  obtain ⟨v, hv⟩ : ∃ v, w.drewN n = v := ⟨_, rfl⟩
  rw [hv] at c0 ⊢
  go_enter Tryz.func230, Tryz.ntmps230
  go_wp2
  go_ret
  exact ⟨rfl, 0, rfl⟩

theorem divides_named {E e : Int} {dv : Bool} (h : gOn E e = dv) (w : World) : Calls Tryz.prog 211 #[.int .i64 e, .int .i64 E] w fun x w' => x = .returned (.bool dv) ∧ ∃ q, w' = w.drewN q := by
  rw [← h]
  exact Divides_any e E w

theorem divides_of {e E : Int} (he : 1 ≤ e) : gOn E e = decide (E.tmod e = 0) := by
  rw [Bool.eq_iff_iff, decide_eq_true_eq, gOn_iff, gPast_zero_iff E he]
  exact ⟨fun h => h.2, fun h => ⟨he, h⟩⟩

set_option maxHeartbeats 3200000 in
set_option maxRecDepth 20000 in
theorem troll_any {w : World} {p : Nat} {e : Int} {l : List TRec} {F : TFoot} (e' f : Int) (h : TRep w p e l F) (hl : l.length ≤ 1000) (he' : TIn64 e') :
    Calls Tryz.prog 148 #[tptr p, .int .i64 e', .int .i64 f] w fun x w' => ∃ q G, x = .returned (tptr q) ∧ TRep w' q (max e' 1) (tRoll e l e' f) G ∧ (∀ k, G.own k → w.heap.size ≤ k) ∧ (∀ k, G.all k → F.all k ∨ w.heap.size ≤ k) ∧ Below w.heap.size w w' := by
  have hE1 : 1 ≤ max e' 1 := by omega
  have hE64 : TIn64 (max e' 1) := by unfold TIn64 at *; omega
  have hnew := new_any e' w he'
  obtain ⟨E, hE⟩ : ∃ E, max e' 1 = E := ⟨_, rfl⟩
  have htr : tRoll e l e' f = if E.tmod e = 0 then tAdds E [] (rUp l E f) else [] := by
    unfold tRoll rUp
    rw [hE]
  rw [htr]
  rw [hE] at hnew hE1 hE64 ⊢
  have hTR := h
  obtain ⟨b, m, h, rfl⟩ := h
  have H := Hid.of h
  have HR := Hid.of hTR
  have hdv := divides_of (E := E) h.e1
  have HE1 := Hid.of hE1
  have HE64 := Hid.of hE64
  obtain ⟨n, hn⟩ : ∃ n, l.length = n := ⟨_, rfl⟩
  have LN := Hid.of hn
  rw [hn] at hl
  clear h hn hE htr he' hTR hE1 hE64
  go_enter Tryz.func148, Tryz.ntmps148
  go_wp2_with fail
  refine hnew.mono ?_
  rintro x w1 ⟨q, F1, rfl, ⟨bq, mq, U1, rfl⟩, hF1, b1⟩
  have hq : w.heap.size ≤ q := hF1 q (.inl rfl)
  have hbq : w.heap.size ≤ bq := hF1 bq (.inr (.inl rfl))
  have B1 := Hid.of b1
  have U1' := Hid.of U1
  have HF1 := Hid.of hF1
  have u0 := U1.c0
  obtain ⟨dv, hdve⟩ : ∃ dv, gOn E e = dv := ⟨_, rfl⟩
  rw [hdve] at hdv
  have DV := Hid.of hdv
  have DE := Hid.of hdve
  have HT1 := Hid.of (H.out.below B1.out)
  clear b1 U1 hF1 hnew hdv hdve
  go_wp2_with fail
  go_quiet (first | (go_at_call 230; exact quiet_r (every_quiet HT1.out _)) | (go_at_call 211; exact quiet_r (divides_named DE.out _)))
  obtain ⟨w2, hw2⟩ : ∃ w2, w1.drewN nq = w2 := ⟨_, rfl⟩
  have b2 : Below w1.heap.size w1 w2 := by rw [← hw2]; exact below_drewN (Below.refl _ _) _
  rw [hw2]
  have U2 := Hid.of (U1'.out.below b2)
  have H2 := Hid.of (HT1.out.below b2)
  have B2 := Hid.of (B1.out.trans (b2.mono B1.out.size))
  clear hw2 b2 U1' HT1 B1 u0
  cases dv
  · have E0 : ¬ E.tmod e = 0 := fun c => by have := DV.out; rw [decide_eq_true c] at this; cases this
    have EH := Hid.of E0
    clear E0
    go_wp2
    go_ret
    refine ⟨q, rfl, _, ⟨bq, mq, ?_, rfl⟩, fun k hk => HF1.out k (.inr hk), fun k hk => .inr (HF1.out k hk), B2.out⟩
    exact U2.out
  · have E0 : E.tmod e = 0 := of_decide_eq_true DV.out.symm
    have EH := Hid.of E0
    have c1 := H2.out.c1
    have hm : TMap w2 b n m := by have := H2.out.map; rw [LN.out] at this; exact this
    clear E0
    go_wp2_with (first
      | (at_range; refine wpList_range_text _ rfl _ 261 rfl 9 266 kT mT b n m rfl hm ?_; intro w3 c3 hrg3 hc3 hg3 hs3)
      | go_in)
    go_frame
    obtain ⟨r0, hr0⟩ : ∃ r0, w2.heap.size = r0 := ⟨_, rfl⟩
    rw [hr0] at hrg3 ⊢
    have R0 : Hid (q < r0 ∧ bq < r0 ∧ w.heap.size ≤ r0) := Hid.of ⟨by rw [← hr0]; exact U2.out.lt_p, by rw [← hr0]; exact U2.out.map.lt, by rw [← hr0]; exact B2.out.size⟩
    have B3 := Hid.of (B2.out.grown hg3 B2.out.size (fun j hj => by cases hj))
    have U3 : Hid (TIs w3 q E [] bq mq) := Hid.of (U2.out.below ⟨hg3.os, hg3.tape, hg3.output, hg3.size, fun i hi => hg3.block i hi (by simp)⟩)
    have RG3 := Hid.of hrg3
    clear hg3 hs3 hm hrg3 hr0 c1 U2 H2 B2
    go_loopg [] n (fun kx wr => ∃ (left : ByteArray → Bool) (cnt : Nat) (mj : ByteArray → Option Value), cnt ≤ kx ∧ Hid (RangeIs Tryz.prog 9 wr b r0 n m left cnt) ∧ Hid (TIs wr q E (lUp l left E f) bq mj) ∧ Hid (∀ k, foot bq mj k → w.heap.size ≤ k) ∧ Hid (Below w.heap.size w wr))
    case atStart =>
      exact ⟨_, c3, mq, hc3, RG3, Hid.of (by rw [lUp_start (fun x hx => (H.out.some_of hx).2)]; exact U3.out), Hid.of (fun k hk => HF1.out k (.inr hk)), B3⟩
    case round =>
      obtain ⟨left, cnt, mj, hck, RG, U, HFT, HB⟩ := hrel
      have hrg := RG.out
      go_wp2_with (first
        | (at_next; refine wpList_next_text _ rfl _ rfl 9 kT b r0 n m left cnt rfl hrg ?_ ?_)
        | go_in)
      · intro h0 hdone
        have e1 : lUp l left E f = tAdds E [] (rUp l E f) := lUp_end (fun x hx => hdone _ (H.out.some_of hx).1)
        have E1 := Hid.of e1
        clear hdone h0 hrg e1
        go_wp2
        go_ret
        refine ⟨q, rfl, _, ⟨bq, mj, ?_, rfl⟩, HFT.out, fun k hk => .inr (hk.elim (fun c => by rw [c]; exact hq) (HFT.out k)), HB.out⟩
        rw [← E1.out]
        exact U.out
      · intro s v w5 cnt' hs hls hms hrg1 hlt hg1 hs1 hen
        have U5 := Hid.of (U.out.aside RG.out hg1 (by have := R0.out; omega) (by have := R0.out; omega))
        have B5 := Hid.of (below_next HB.out hg1 R0.out.2.2 HB.out.size)
        have hk5 := H.out.known hs hms
        have hv := own_at hk5.2.1 (w' := w5) (fun g hg => B5.out.block g (own_lt hk5.2.1 hg))
        have hln := ser_le l s
        rw [LN.out] at hln
        have hsr := sroll_any v (ser l s) E f w5 (BkOwn.row hv) (H.out.rise s) (H.out.all s) (fun x hx => H.out.start _ (mem_ser.1 hx)) HE1.out HE64.out (by omega)
        have LS := Hid.of hls
        have RG5 := Hid.of hrg1
        obtain ⟨va, vc, rfl, -, -⟩ := own_shape hv
        have d0 := U5.out.c0
        have hlen := sRoll_len (ser l s) E f
        obtain ⟨N, hN⟩ : ∃ N, (ser l s).length = N := ⟨_, rfl⟩
        rw [hN] at hen hsr hlen hln
        clear hv hk5 hN hrg hrg1 hg1 hs1 hms hls
        go_wp2_with fail
        refine hsr.mono ?_
        rintro x w6 ⟨u, rfl, o6, b6⟩
        obtain ⟨ua, uc, rfl, -, -⟩ := own_shape o6
        obtain ⟨k, hk⟩ : ∃ k, (sRoll (ser l s) E f).length = k := ⟨_, rfl⟩
        have KE := Hid.of hk
        have O6 := Hid.of o6
        rw [hk] at O6 hlen ⊢
        have U6 := Hid.of (U5.out.below b6)
        have B6 := Hid.of b6
        have RG6 := Hid.of (RG5.out.at (b6.block b RG5.out.is.lt) (b6.block _ RG5.out.lt))
        have d1 := U6.out.c1
        clear o6 b6 hsr hk d0
        by_cases hk0 : k = 0
        · subst hk0
          have hnil : sRoll (ser l s) E f = [] := List.length_eq_zero_iff.1 KE.out
          have HNL := Hid.of hnil
          clear hnil
          go_wp2
          go_roundg cnt'
          case measure => omega
          case rel =>
            exact ⟨lessN left s, cnt', mj, Nat.le_refl _, RG6, Hid.of (by rw [lUp_same HE1.out H.out.ok LS.out HNL.out]; exact U6.out), HFT, Hid.of (B5.out.trans (B6.out.mono B5.out.size))⟩
        · have hk1 : (0 : Int) < (k : Int) := by omega
          have hk2 : 0 < k := by omega
          have hmq := U6.out.map
          have hnm : (lUp l left E f).length < maxLen := by have := lUp_len (l := l) (left := left) (E := E) (f := f); have := LN.out; unfold maxLen; omega
          go_wp2_with (first
            | (at_mapUpdate; refine wpList_store_text _ rfl _ _ _ 261 rfl 9 266 kT mT bq _ mj rfl hmq hnm s rfl hs (.slice ua k uc) rfl ?_; intro w7 hm7 ht7)
            | go_in)
          go_roundg cnt'
          case measure => omega
          case rel =>
            have hne : sRoll (ser l s) E f ≠ [] := fun c => by have := KE.out; rw [c, List.length_nil] at this; omega
            have hb7 : ∀ i, i < w6.heap.size → i ≠ bq → w7.heap[i]? = w6.heap[i]? := fun i hi hne => ht7.grown.block i hi (fun c => hne (Option.some.inj c))
            have hbb : b < w.heap.size := H.out.map.lt
            have hge : ∀ g, (Value.slice ua k uc).ownBlock = some g → w5.heap.size ≤ g := fun g hg => own_ge O6.out hg
            refine ⟨lessN left s, cnt', mPut mj s (.slice ua k uc), Nat.le_refl _, Hid.of (RG6.out.at (hb7 b RG6.out.is.lt (by omega)) (hb7 r0 RG6.out.lt (by have := R0.out; omega))), Hid.of (lUp_put HE1.out H.out.ok H.out.fit hs LS.out hne U5.out B6.out O6.out hm7 ht7), Hid.of (fun i hi => ?_), Hid.of ((B5.out.trans (B6.out.mono B5.out.size)).grown ht7.grown (by have := B5.out.size; have := B6.out.size; omega) (fun j hj => by cases hj; exact hbq))⟩
            rcases hi with c | ⟨t, x, ht, hx, hg⟩
            · rw [c]
              exact hbq
            · unfold mPut at hx
              split at hx
              · rw [← Option.some.inj hx] at hg
                have := hge i hg
                have := B5.out.size
                omega
              · exact HFT.out i (.inr ⟨t, x, ht, hx, hg⟩)

end Go.Proofs.YtbhcafginmkaaaaGreat

namespace Go.Proofs.YtbhcafginmkaaaaGreat
open Go.RowKit Go.Lib

theorem ser_snoc (l : List TRec) (r : TRec) (t : ByteArray) : ser (l ++ [r]) t = if t = r.n then ser l t ++ [(r.s, r.a)] else ser l t := by
  unfold ser
  rw [List.filter_append, List.map_append]
  by_cases h : t = r.n
  · subst h
    rw [if_pos rfl, List.filter_cons, if_pos (decide_eq_true rfl)]
    rfl
  · rw [if_neg h, List.filter_cons, if_neg (by simpa using fun c => h c.symm)]
    simp

/-- The fresh records, by name: a map at block B of rows above D. -/
structure Fr (w : World) (D B n : Nat) (m : ByteArray → Option Value) (l : List TRec) : Prop where
  map : TMap w B n m
  none_ : ∀ s, s.size ≤ maxLen → ser l s = [] → m s = none
  some_ : ∀ s, s.size ≤ maxLen → ser l s ≠ [] → ∃ v, m s = some v ∧ BkOwn w D v (ser l s)
  apart : ∀ s t v u g, s.size ≤ maxLen → t.size ≤ maxLen → m s = some v → m t = some u → v.ownBlock = some g → u.ownBlock = some g → s = t

section
variable {w w1 w2 : World} {D B n n' : Nat} {m : ByteArray → Option Value} {l : List TRec}

theorem Fr.made (w : World) (D : Nat) : Fr (w.alloc (.map #[] 0)) D w.heap.size 0 (fun _ => none) [] :=
  ⟨MapIs.made w, fun _ _ _ => rfl, fun _ _ c => absurd rfl c, fun _ _ _ _ _ _ _ c => by cases c⟩
theorem Fr.known (h : Fr w D B n m l) {s : ByteArray} (hs : s.size ≤ maxLen) {v : Value} (hv : m s = some v) : ser l s ≠ [] ∧ BkOwn w D v (ser l s) := by
  by_cases c : ser l s = []
  · rw [h.none_ s hs c] at hv
    cases hv
  · obtain ⟨u, h1, h2⟩ := h.some_ s hs c
    rw [h1] at hv
    cases hv
    exact ⟨c, h2⟩
theorem Fr.row (h : Fr w D B n m l) {s : ByteArray} (hs : s.size ≤ maxLen) : BkOwn w D ((m s).getD (.slice none 0 0)) (ser l s) := by
  by_cases c : ser l s = []
  · rw [h.none_ s hs c, c]
    exact World.ownsRow_nil _ _ _ _
  · obtain ⟨u, h1, h2⟩ := h.some_ s hs c
    rw [h1]
    exact h2
theorem Fr.next (h : Fr w D B n m l) (b : Below w.heap.size w w1) : Fr w1 D B n m l where
  map := h.map.at (b.block B h.map.lt)
  none_ := h.none_
  some_ s hs c := by
    obtain ⟨v, h1, h2⟩ := h.some_ s hs c
    exact ⟨v, h1, own_kept_below h2 b⟩
  apart := h.apart

/-- One record more under its name. -/
theorem Fr.add (h : Fr w D B n m l) (r : TRec) (hr : r.n.size ≤ maxLen) {x : Value} (hx : BkOwn w1 D x (ser l r.n ++ [(r.s, r.a)])) (hg : w.grownBy w1 ((m r.n).getD (.slice none 0 0)).ownBlock) (ho : OldOrNew w ((m r.n).getD (.slice none 0 0)) x)
    (hm : TMap w2 B n' (mPut m r.n x)) (ht : w1.mapTurned w2 B) : Fr w2 D B n' (mPut m r.n x) (l ++ [r]) := by
  have hB1 : TMap w1 B n m := h.map.at (hg.block B h.map.lt (fun c => own_not_map (h.row hr) h.map c.symm))
  have hold : ∀ i, i < w.heap.size → i ≠ B → some i ≠ ((m r.n).getD (.slice none 0 0)).ownBlock → w2.heap[i]? = w.heap[i]? := fun i hi hiB hio => (ht.grown.block i (Nat.lt_of_lt_of_le hi hg.size) (fun c => hiB (Option.some.inj c))).trans (hg.block i hi hio)
  have hkey : ∀ t u g, t.size ≤ maxLen → t ≠ r.n → m t = some u → u.ownBlock = some g → ((m r.n).getD (.slice none 0 0)).ownBlock ≠ some g := fun t u g hts ne hu hg' c => by
    cases hmr : m r.n with
    | none => rw [hmr] at c; cases c
    | some v =>
      rw [hmr] at c
      exact ne (h.apart t r.n u v g hts hr hu hmr hg' c)
  refine ⟨hm, fun t hts c => ?_, fun t hts c => ?_, fun s t v u g hs hts hv hu g1 g2 => ?_⟩
  · rw [ser_snoc] at c
    unfold mPut
    by_cases e : t = r.n
    · rw [if_pos e] at c
      simp at c
    · rw [if_neg e] at c ⊢
      exact h.none_ t hts c
  · rw [ser_snoc] at c ⊢
    unfold mPut
    by_cases e : t = r.n
    · subst e
      rw [if_pos rfl, if_pos rfl]
      exact ⟨x, rfl, own_at hx (fun g hg' => ht.grown.block g (own_lt hx hg') (fun c => own_not_map hx hB1 (by rw [hg', c])))⟩
    · rw [if_neg e] at c
      rw [if_neg e, if_neg e]
      obtain ⟨u, h1, h2⟩ := h.some_ t hts c
      exact ⟨u, h1, own_at h2 (fun g hg' => hold g (own_lt h2 hg') (fun c => own_not_map h2 h.map (by rw [hg', c])) (fun c => hkey t u g hts e h1 hg' c.symm))⟩
  · have key : ∀ t u, t.size ≤ maxLen → t ≠ r.n → m t = some u → u.ownBlock = some g → x.ownBlock ≠ some g := fun t u hts ne hu hg' c => by
      rcases ho with o | ⟨g', o, hge⟩
      · rw [c] at o
        exact hkey t u g hts ne hu hg' o.symm
      · rw [c] at o
        cases o
        have := own_lt (h.known hts hu).2 hg'
        omega
    unfold mPut at hv hu
    by_cases se : s = r.n
    · rw [if_pos se] at hv
      by_cases te : t = r.n
      · rw [se, te]
      · rw [if_neg te] at hu
        rw [← Option.some.inj hv] at g1
        exact absurd g1 (key t u hts te hu g2)
    · rw [if_neg se] at hv
      by_cases te : t = r.n
      · rw [if_pos te] at hu
        rw [← Option.some.inj hu] at g2
        exact absurd g2 (key s v hs se hv g1)
      · rw [if_neg te] at hu
        exact h.apart s t v u g hs hts hv hu g1 g2
end

/-- The table when of the fresh names these are left. -/
def lAdd (e : Int) (l rs : List TRec) (left : ByteArray → Bool) : List TRec := tAdds e l (rs.filter fun x => !left x.n)

section
variable {e : Int} {l rs : List TRec} {left : ByteArray → Bool}

theorem lAdd_sorted (h : TSorted l) : TSorted (lAdd e l rs left) := tAdds_sorted h
theorem lAdd_ser (h : TSorted l) (hrs : ∀ x ∈ rs, tOk e x = true) (s : ByteArray) : ser (lAdd e l rs left) s = if left s = true then ser l s else sAdds (ser l s) (ser rs s) := by
  unfold lAdd
  rw [ser_adds h, filter_ok (fun x hx => hrs x (List.mem_filter.1 hx).1), ser_filter_name (fun x => !left x)]
  by_cases c : left s = true
  · rw [if_neg (by rw [c]; decide), if_pos c]
    rfl
  · rw [if_pos (by simpa using c), if_neg c]
theorem lAdd_start (h : ∀ x ∈ rs, left x.n = true) : lAdd e l rs left = l := by
  unfold lAdd
  rw [List.filter_eq_nil_iff.2 (fun x hx => by rw [h x hx]; decide)]
  rfl
theorem lAdd_end (h : ∀ x ∈ rs, left x.n = false) : lAdd e l rs left = tAdds e l rs := by
  unfold lAdd
  rw [List.filter_eq_self.2 (fun x hx => by rw [h x hx]; rfl)]
theorem lAdd_next (h : TSorted l) (hrs : ∀ x ∈ rs, tOk e x = true) {s : ByteArray} (t : ByteArray) : ser (lAdd e l rs (lessN left s)) t = if t = s then sAdds (ser l s) (ser rs s) else ser (lAdd e l rs left) t := by
  rw [lAdd_ser h hrs, lAdd_ser h hrs]
  by_cases ts : t = s
  · subst ts
    rw [if_neg (by simp [lessN]), if_pos rfl]
  · rw [if_neg (c := t = s) ts]
    have : lessN left s t = left t := by simp [lessN, ts]
    rw [this]
end

theorem tAdds_filter (e : Int) (l rs : List TRec) : tAdds e l (rs.filter (tOk e)) = tAdds e l rs := by
  unfold tAdds
  induction rs generalizing l with
  | nil => rfl
  | cons r rs ih =>
    rw [List.filter_cons]
    by_cases h : tOk e r = true
    · rw [if_pos h, List.foldl_cons, List.foldl_cons]
      exact ih _
    · rw [if_neg h, List.foldl_cons, ih]
      congr 1
      unfold tAdd
      rw [if_neg h]

theorem tCount_step {e : Int} {rs : List TRec} {j : Nat} {r : TRec} (h : rs[j]? = some r) : (rs.take (j + 1)).filter (tOk e) = (rs.take j).filter (tOk e) ++ (if tOk e r = true then [r] else []) := by
  obtain ⟨hj, hr⟩ := List.getElem?_eq_some_iff.1 h
  rw [List.take_succ_eq_append_getElem hj, hr, List.filter_append, List.filter_cons]
  rfl

/-- The table while it is put to: of the names that are left the fresh rows lie as they did. -/
structure Wv (w : World) (D p b : Nat) (mf mj : ByteArray → Option Value) (left : ByteArray → Bool) (e : Int) (l rs : List TRec) : Prop where
  tab : TIs w p e (lAdd e l rs left) b mj
  row : ∀ s v, s.size ≤ maxLen → left s = true → mf s = some v → BkOwn w D v (ser rs s)
  cross : ∀ s t v u g, s.size ≤ maxLen → t.size ≤ maxLen → left s = true → mf s = some v → mj t = some u → v.ownBlock = some g → u.ownBlock ≠ some g

section
variable {w w' w2 : World} {D p b n : Nat} {mf mj : ByteArray → Option Value} {left : ByteArray → Bool} {e : Int} {l rs : List TRec}

theorem Wv.below (h : Wv w D p b mf mj left e l rs) (k : Below w.heap.size w w') : Wv w' D p b mf mj left e l rs :=
  ⟨h.tab.below k, fun s v hs hl hv => own_kept_below (h.row s v hs hl hv) k, h.cross⟩

/-- The loop's step has turned the iterator alone. -/
theorem Wv.stepped (h : Wv w D p b mf mj left e l rs) {B r n cnt : Nat} {m' : ByteArray → Option Value} {lf : ByteArray → Bool} (hr : RangeIs Tryz.prog 9 w B r n m' lf cnt) (hg : w.grownBy w' (some r)) (hp : p ≠ r) (hb : b ≠ r) : Wv w' D p b mf mj left e l rs := by
  refine ⟨h.tab.aside hr hg hp hb, fun s v hs hl hv => ?_, h.cross⟩
  · exact own_at (h.row s v hs hl hv) (fun g hgb => hg.block g (own_lt (h.row s v hs hl hv) hgb) (fun c => own_not_iter (h.row s v hs hl hv) hr (by rw [hgb, c])))

/-- A name's fresh records are put to its series. -/
theorem Wv.next (h : Wv w D p b mf mj left e l rs) (hsl : TSorted l) (hok : ∀ x ∈ l, tOk e x = true) (hfit : ∀ x ∈ l, TFit x) (hrs : ∀ x ∈ rs, tOk e x = true) (hrf : ∀ x ∈ rs, TFit x) (hap : ∀ s t v u g, s.size ≤ maxLen → t.size ≤ maxLen → mf s = some v → mf t = some u → v.ownBlock = some g → u.ownBlock = some g → s = t)
    {s : ByteArray} (hs : s.size ≤ maxLen) (hls : left s = true) {v x : Value} (hv : mf s = some v) (hne : ser rs s ≠ []) (hx : BkOwn w' 0 x (sAdds (ser l s) (ser rs s))) (ht : Touch (fun k => ((mj s).getD (.slice none 0 0)).ownBlock = some k ∨ v.ownBlock = some k) w w') (ho : OldOrNew w ((mj s).getD (.slice none 0 0)) x)
    (hm : TMap w2 b n (mPut mj s x)) (hT : w'.mapTurned w2 b) : Wv w2 D p b mf (mPut mj s x) (lessN left s) e l rs := by
  have hTG : TAll l := fun y hy => by
    have h1 := hok y hy
    unfold tOk at h1
    simp only [Bool.and_eq_true] at h1
    exact ⟨h1.2, (hfit y hy).2.2⟩
  have hv0 := h.row s v hs hls hv
  have hold_cases : ∀ g, ((mj s).getD (.slice none 0 0)).ownBlock = some g → ∃ o, mj s = some o ∧ o.ownBlock = some g := fun g hg => by
    cases hmj : mj s with
    | none => rw [hmj] at hg; cases hg
    | some o => rw [hmj] at hg; exact ⟨o, rfl, hg⟩
  have hb0 := h.tab.map.lt
  have hp0 := h.tab.lt_p
  have nb : ∀ g, ((mj s).getD (.slice none 0 0)).ownBlock = some g ∨ v.ownBlock = some g → g ≠ b ∧ g ≠ p := fun g hg => by
    rcases hg with hg | hg
    · obtain ⟨o, h1, h2⟩ := hold_cases g hg
      have k := h.tab.known hs h1
      exact ⟨fun c => k.2.2.1 (by rw [h2, c]), fun c => k.2.2.2 (by rw [h2, c])⟩
    · exact ⟨fun c => own_not_map hv0 h.tab.map (by rw [hg, c]), fun c => own_not_table hv0 h.tab (by rw [hg, c])⟩
  have hb1 : w'.heap[b]? = w.heap[b]? := ht.block b hb0 (fun c => (nb b c).1 rfl)
  have hM1 : TMap w' b _ mj := h.tab.map.at hb1
  have hxb : x.ownBlock ≠ some b := own_not_map hx hM1
  have hxlt : ∀ g, x.ownBlock = some g → g ≠ b := fun g hg c => hxb (by rw [hg, c])
  have hold : ∀ i, i < w.heap.size → i ≠ b → (¬ (((mj s).getD (.slice none 0 0)).ownBlock = some i ∨ v.ownBlock = some i)) → w2.heap[i]? = w.heap[i]? := fun i hi hib hn => (hT.grown.block i (Nat.lt_of_lt_of_le hi ht.size) (fun c => hib (Option.some.inj c))).trans (ht.block i hi hn)
  have hp2 : w2.heap[p]? = w.heap[p]? := hold p hp0 h.tab.pb (fun c => (nb p c).2 rfl)
  -- another series' row
  have other : ∀ t u g, t.size ≤ maxLen → t ≠ s → mj t = some u → u.ownBlock = some g → x.ownBlock ≠ some g ∧ w2.heap[g]? = w.heap[g]? := fun t u g hts ne hu hg => by
    have k := h.tab.known hts hu
    have hlt := own_lt k.2.1 hg
    have no : ((mj s).getD (.slice none 0 0)).ownBlock ≠ some g := fun c => by
      obtain ⟨o, h1, h2⟩ := hold_cases g c
      exact ne (h.tab.apart t s u o g hts hs hu h1 hg h2)
    refine ⟨fun c => ?_, hold g hlt (fun c => k.2.2.1 (by rw [hg, c])) (fun c => ?_)⟩
    · rcases ho with o | ⟨g', o, hge⟩
      · rw [c] at o
        exact no o.symm
      · rw [c] at o
        cases o
        omega
    · rcases c with c | c
      · exact no c
      · exact h.cross s t v u g hs hts hls hv hu c hg
  have hser : ser (lAdd e l rs (lessN left s)) s = sAdds (ser l s) (ser rs s) := by rw [lAdd_next hsl hrs, if_pos rfl]
  -- another name's fresh row
  have fresh : ∀ t u, t.size ≤ maxLen → lessN left s t = true → mf t = some u → t ≠ s ∧ left t = true ∧ BkOwn w D u (ser rs t) ∧ ∀ g, u.ownBlock = some g → g ≠ b ∧ ¬ (((mj s).getD (.slice none 0 0)).ownBlock = some g ∨ v.ownBlock = some g) := fun t u hts hl hu => by
    have h1 : left t = true := by simp [lessN] at hl; exact hl.1
    have h2 : t ≠ s := by simp [lessN] at hl; exact hl.2
    have h3 := h.row t u hts h1 hu
    refine ⟨h2, h1, h3, fun g hg => ⟨fun c => own_not_map h3 h.tab.map (by rw [hg, c]), fun c => ?_⟩⟩
    rcases c with c | c
    · obtain ⟨o, k1, k2⟩ := hold_cases g c
      exact h.cross t s u o g hts hs h1 hu k1 hg k2
    · exact h2 (hap t s u v g hts hs hu hv hg c)
  refine ⟨?_, fun t u hts hl hu => ?_, fun t y u z g hts hy hl hu hz g1 => ?_⟩
  · refine h.tab.put s hs x hm ?_ ?_ hxb (fun c => ?_) other hp2 (fun t ne => by rw [lAdd_next hsl hrs, if_neg ne]) (lAdd_sorted hsl) ?_ ?_
    · rw [hser]
      exact own_at hx (fun g hg => hT.grown.block g (own_lt hx hg) (fun c => hxlt g hg (Option.some.inj c).symm.symm))
    · rw [hser]
      intro c
      have := (sAdds_len (ser l s) (ser rs s)).2.2 hne
      rw [c] at this
      simp at this
    · obtain ⟨cs, hc⟩ := bk_cells hx c
      have hp1 : w'.heap[p]? = w.heap[p]? := ht.block p hp0 (fun c => (nb p c).2 rfl)
      rw [hp1, h.tab.cell] at hc
      simp only [Option.some.injEq, Obj.cells.injEq] at hc
      exact absurd hc.2.1 (by decide)
    · exact tAdds_ok hok (fun y hy => (hrf y (List.mem_filter.1 hy).1).2.2) hTG
    · exact tAdds_fit hfit hTG (fun y hy => hrf y (List.mem_filter.1 hy).1)
  · obtain ⟨_, _, h3, h4⟩ := fresh t u hts hl hu
    exact own_at h3 (fun g hg => hold g (own_lt h3 hg) (h4 g hg).1 (h4 g hg).2)
  · obtain ⟨h1, h2, h3, h4⟩ := fresh t u hts hl hu
    have hlt := own_lt h3 g1
    unfold mPut at hz
    by_cases ys : y = s
    · rw [if_pos ys] at hz
      rw [← Option.some.inj hz]
      intro c
      rcases ho with o | ⟨g', o, hge⟩
      · rw [c] at o
        exact (h4 g g1).2 (.inl o.symm)
      · rw [c] at o
        cases o
        omega
    · rw [if_neg ys] at hz
      exact h.cross t y u z g hts hy h2 hu hz g1
end

end Go.Proofs.YtbhcafginmkaaaaGreat

namespace Go.Proofs.YtbhcafginmkaaaaGreat
open Go.RowKit Go.Lib

abbrev fT : Tryz.prog.underlying 278 = some (.map 9 265) := Tryz.underlying278
theorem buckets_zero (w : World) : (zeroValue 265).run Tryz.prog w = .ok (.slice none 0 0) w := by
  obtain ⟨i0, hi, hz0, hz1, hz2⟩ := info_parts (show (Tryz.prog.info? 265).map (fun i => (i.zero, i.size, i.bytes)) = some (some (.slice none 0 0), 1, 24) by kernel_rfl)
  simp [zeroValue, typeInfo, hi, hz0]

/-- A look into a map, as one step of a region that draws its order. -/
theorem step_look_text {P : Program} {o : Oper} {ops : Array Oper} {a : Act} {w : World} {K : Act → World → Prop} {Q : Exit → Act → World → Prop} {E : Prop} (hgd : o.guard = none) (x y : Operand) (t : TypeId) (hop : o.op = Op.lookup t x y false) (k e : TypeId) (hk : P.underlying k = some .string) (ht : P.underlying t = some (.map k e)) {z : Value} (hz : (zeroValue e).run P w = .ok z w) (b n : Nat) (m : ByteArray → Option Value)
    (hm : a.eval x = .map (some b)) (h : MapIs P k w b n m) (s : ByteArray) (hx : a.eval y = .string s) (hs : s.size ≤ maxLen) (v : Value) (hv : (m s).getD z = v)
    (hK : K (a.put o.dst v) w) :
    if Region.wanted o (yielded ops a.tmps) = true then Oper.wp P o a w K Q else E := by
  have hw : Region.wanted o (yielded ops a.tmps) = true := by simp [Region.wanted, hgd]
  rw [if_pos hw]
  have hrun := h.look hk ht hz hs
  rw [hv] at hrun
  unfold Oper.wp
  simp [execOp, hop, hm, hx, hrun, Result.andThen]
  exact hK

/-- Block q is a variable that holds record x. -/
def RBox (w : World) (q : Nat) (x : TRec) : Prop := w.heap[q]? = some (.cells #[.string x.n, .int .i64 x.s, .int .i64 x.a.c, .int .i64 x.a.hi, .int .u64 x.a.lo, .int .i64 x.a.mn, .int .i64 x.a.mx] 102)
theorem RBox.at {w : World} {q : Nat} {x : TRec} (hb : RBox w q x) : w.cell? ⟨q, 0, none⟩ = some (.string x.n) ∧ w.cell? ⟨q, 1, none⟩ = some (.int .i64 x.s) ∧ w.cell? ⟨q, 2, none⟩ = some (.int .i64 x.a.c) ∧ w.cell? ⟨q, 3, none⟩ = some (.int .i64 x.a.hi) ∧ w.cell? ⟨q, 4, none⟩ = some (.int .u64 x.a.lo) ∧ w.cell? ⟨q, 5, none⟩ = some (.int .i64 x.a.mn) ∧ w.cell? ⟨q, 6, none⟩ = some (.int .i64 x.a.mx) := by
  unfold RBox at hb
  refine ⟨?_, ?_, ?_, ?_, ?_, ?_, ?_⟩ <;> simp [World.cell?, hb]

theorem RBox.not_own {w : World} {q D : Nat} {x : TRec} {v : Value} {n : Nat} {xs : List Value} (hb : RBox w q x) (h : w.ownsRow D 269 6 v n xs) : v.ownBlock ≠ some q := fun c => by
  rcases h.2 with ⟨rfl, _⟩ | ⟨g', cap, cur, rfl, _, hrow, _⟩
  · cases c
  · cases c
    unfold RBox at hb
    rw [hb] at hrow
    simp only [Option.some.injEq, Obj.cells.injEq] at hrow
    exact absurd hrow.2.1 (by decide)
theorem RBox.not_map {w : World} {q b n : Nat} {x : TRec} {m : ByteArray → Option Value} (hb : RBox w q x) (h : TMap w b n m) : q ≠ b := fun c => by
  obtain ⟨_, ⟨es, clock, hm, _⟩, _⟩ := h
  unfold RBox at hb
  rw [c, hm] at hb
  cases hb

set_option maxHeartbeats 6400000 in
set_option maxRecDepth 20000 in
theorem tadd_any {w : World} {p : Nat} {e : Int} {l : List TRec} {F : TFoot} (v : Value) (rs : List TRec) (h : TRep w p e l F) (hn : l.length + rs.length ≤ 1000) (hv : CellRow w v rs.length (flat renc (rs.map rl))) (hf : ∀ r ∈ rs, TFit r) :
    Calls Tryz.prog 176 #[tptr p, v] w fun x w' => x = .returned (.int .i64 (tCount e rs : Nat)) ∧ ∃ F', TRep w' p e (tAdds e l rs) F' ∧ TStep F F' w w' := by
  obtain ⟨i0, hi0, hz0, hz1, hz2⟩ := info_parts bk_info
  have HI := Hid.of hi0
  have HZ0 := Hid.of hz0
  have HZ1 := Hid.of hz1
  have HZ2 := Hid.of hz2
  clear hi0 hz0 hz1 hz2
  obtain ⟨b, m, h, rfl⟩ := h
  have H := Hid.of h
  have HF := Hid.of hf
  have HV := Hid.of hv
  have HN := Hid.of hn
  obtain ⟨va, vc, rfl, -⟩ := hv
  obtain ⟨N, hN⟩ : ∃ N, rs.length = N := ⟨_, rfl⟩
  rw [hN] at HV hn ⊢
  have BL := Hid.of hN
  have hn1 : N ≤ 1000 := by omega
  clear h hf hN hn
  have hmk := run_makeMap (P := Tryz.prog) 278 w
  go_enter Tryz.func176, Tryz.ntmps176
  go_upto_region 3 with fail
  obtain ⟨fb, hfb⟩ : ∃ fb, w.heap.size = fb := ⟨_, rfl⟩
  obtain ⟨w1, hw1⟩ : ∃ w1, w.alloc (.map #[] 0) = w1 := ⟨_, rfl⟩
  have FR0 : Hid (Fr w1 w.heap.size fb 0 (fun _ => none) []) := Hid.of (by rw [← hw1, ← hfb]; exact Fr.made w _)
  have B1 : Hid (Below w.heap.size w w1) := Hid.of (by rw [← hw1]; exact (Below.refl _ _).alloc (Nat.le_refl _) _)
  have HFB : Hid (w.heap.size = fb) := Hid.of hfb
  rw [hw1, hfb]
  clear hmk hw1 hfb
  go_wp2
  go_loopg [5, 14] N (fun kx nv iv wr => ∃ (j c nb : Nat) (mf : ByteArray → Option Value), nv = .int .i64 c ∧ iv = .int .i64 j ∧ j ≤ N ∧ N - j ≤ kx ∧ c ≤ j ∧ nb ≤ j ∧ Hid (((rs.take j).filter (tOk e)).length = c) ∧ Hid (Fr wr w.heap.size fb nb mf ((rs.take j).filter (tOk e))) ∧ Hid (Below w.heap.size w wr))
  case atStart => exact ⟨0, 0, 0, _, rfl, rfl, Nat.zero_le _, Nat.le_refl _, Nat.le_refl _, Nat.le_refl _, Hid.of rfl, FR0, B1⟩
  case round =>
    clear FR0 B1
    obtain ⟨j, c, nb, mf, rfl, rfl, hjn, hkx, hcj, hnb, HC, FR, HB⟩ := hrel
    by_cases hlt : (j : Int) < (N : Int)
    · obtain ⟨r, hr⟩ : ∃ r, rs[j]? = some r := ⟨_, List.getElem?_eq_getElem (by have := BL.out; omega)⟩
      have HR := Hid.of hr
      have hrf := HF.out r (List.mem_of_getElem? hr)
      have hv := (HV.out).kept HB.out
      have hlen : (rs.map rl).length = N := by rw [List.length_map, BL.out]
      obtain ⟨b1, o1, rfl, hb1, c0, c1, c2, c3, c4, c5, c6⟩ := r_at hv j (rl r) (by rw [List.getElem?_map, hr]; rfl)
      have d0 : wr.cell? ⟨b1, o1 + j * 7, none⟩ = some (.string r.n) := c0
      have d1 : wr.cell? ⟨b1, o1 + j * 7 + 1, none⟩ = some (.int .i64 r.s) := c1
      have d2 : wr.cell? ⟨b1, o1 + j * 7 + 2, none⟩ = some (.int .i64 r.a.c) := c2
      have d3 : wr.cell? ⟨b1, o1 + j * 7 + 3, none⟩ = some (.int .i64 r.a.hi) := c3
      have d4 : wr.cell? ⟨b1, o1 + j * 7 + 4, none⟩ = some (.int .u64 r.a.lo) := c4
      have d5 : wr.cell? ⟨b1, o1 + j * 7 + 5, none⟩ = some (.int .i64 r.a.mn) := c5
      have d6 : wr.cell? ⟨b1, o1 + j * 7 + 6, none⟩ = some (.int .i64 r.a.mx) := c6
      have hj0 : (0 : Int) ≤ (j : Int) := by omega
      have HJN : Hid (j < N) := Hid.of (by omega)
      clear c0 c1 c2 c3 c4 c5 c6 hr hv hb1 hlen
      go_upto_region 6 with fail
      obtain ⟨q, hq⟩ : ∃ q, wr.heap.size = q := ⟨_, rfl⟩
      obtain ⟨w2, hw2⟩ : ∃ w2, wr.alloc (.cells #[.string r.n, .int .i64 r.s, .int .i64 r.a.c, .int .i64 r.a.hi, .int .u64 r.a.lo, .int .i64 r.a.mn, .int .i64 r.a.mx] 102) = w2 := ⟨_, rfl⟩
      have b2 : Below wr.heap.size wr w2 := by rw [← hw2]; exact (Below.refl _ _).alloc (Nat.le_refl _) _
      have BX2 : Hid (RBox w2 q r) := Hid.of (by rw [← hw2, ← hq]; exact (MapKept.heap_alloc wr _).1)
      have FR2 := Hid.of (FR.out.next b2)
      have HB2 := Hid.of (HB.out.trans (b2.mono HB.out.size))
      rw [hw2, hq]
      have htk := ttakes_any (H.out.below HB2.out) r hrf
      obtain ⟨y0, y1, y2, y3, y4, y5, y6⟩ := BX2.out.at
      clear hw2 hq b2 FR HB d0 d1 d2 d3 d4 d5 d6
      go_wp2_with fail
      refine htk.mono ?_
      rintro x w3 ⟨rfl, b3⟩
      have hst := tCount_step (e := e) HR.out
      have BX3 : Hid (RBox w3 q r) := Hid.of ((b3.block q (Array.getElem?_eq_some_iff.1 BX2.out).1).trans BX2.out)
      have FR3 := Hid.of (FR2.out.next b3)
      have HB3 := Hid.of (HB2.out.trans (b3.mono HB2.out.size))
      clear htk b3 FR2 HB2 BX2 y0 y1 y2 y3 y4 y5 y6
      obtain ⟨ok, hok⟩ : ∃ ok, tOk e r = ok := ⟨_, rfl⟩
      rw [hok] at hst ⊢
      have HOK := Hid.of hok
      clear hok
      cases ok
      · have HST := Hid.of hst
        clear hst
        go_wp2
        go_roundg (N - (j + 1))
        case measure => have := HJN.out; omega
        case rel =>
          have hst := HST.out
          rw [if_neg (by decide), List.append_nil] at hst
          exact ⟨j + 1, c, nb, mf, rfl, by go_num, HJN.out, Nat.le_refl _, by omega, by omega, Hid.of (by rw [hst]; exact HC.out), Hid.of (by rw [hst]; exact FR3.out), HB3⟩
      · rw [if_pos rfl] at hst
        have HST := Hid.of hst
        have hsz := hrf.1
        obtain ⟨old, hold⟩ : ∃ old, (mf r.n).getD (.slice none 0 0) = old := ⟨_, rfl⟩
        have HO := Hid.of hold
        have hrow := FR3.out.row hsz
        rw [hold] at hrow
        obtain ⟨n, hln⟩ : ∃ n, (ser ((rs.take j).filter (tOk e)) r.n).length = n := ⟨_, rfl⟩
        have LN := Hid.of hln
        have hnj : n ≤ j := by rw [← hln]; exact Nat.le_trans (ser_le _ _) (Nat.le_trans (List.length_filter_le ..) (by rw [List.length_take]; omega))
        have HOW : Hid (w3.ownsRow w.heap.size 269 6 old n (flat benc (ser ((rs.take j).filter (tOk e)) r.n))) := Hid.of (by rw [← hln]; exact hrow)
        have HROW : Hid (BkOwn w3 w.heap.size old (ser ((rs.take j).filter (tOk e)) r.n)) := Hid.of hrow
        clear hst hold hrow hln
        obtain ⟨y0, y1, y2, y3, y4, y5, y6⟩ := BX3.out.at
        go_upto_region 7 with fail
        refine wp_region_noPanic ?_
        refine wp_region_held_drew (S := fun w' => w'.cell? ⟨q, 0, none⟩ = some (.string r.n) ∧ w'.cell? ⟨q, 1, none⟩ = some (.int .i64 r.s) ∧ w'.cell? ⟨q, 2, none⟩ = some (.int .i64 r.a.c) ∧ w'.cell? ⟨q, 3, none⟩ = some (.int .i64 r.a.hi) ∧ w'.cell? ⟨q, 4, none⟩ = some (.int .u64 r.a.lo) ∧ w'.cell? ⟨q, 5, none⟩ = some (.int .i64 r.a.mn) ∧ w'.cell? ⟨q, 6, none⟩ = some (.int .i64 r.a.mx)) (by kernel_rfl) ?_ (fun hHeld => ?_)
        · exact ⟨y0, y1, y2, y3, y4, y5, y6⟩
        refine takeOp 0 (o := ⟨_, _, _, _, _, _⟩) (v := ?_) rfl (by kernel_rfl) (by rfl) hHeld ?_ ?_; rotate_left; (next => intro w' hSw; (try dsimp only at hSw); go_simp; all_goals with_reducible rfl); simp only [Act.put, pA9, pB9, pC9]
        refine takeOp 1 (o := ⟨_, _, _, _, _, _⟩) (v := ?_) rfl (by kernel_rfl) (by rfl) hHeld ?_ ?_; rotate_left; (next => intro w' hSw; (try dsimp only at hSw); go_simp; all_goals with_reducible rfl); simp only [Act.put, pA9, pB9, pC9]
        refine takeOp 2 (o := ⟨_, _, _, _, _, _⟩) (v := ?_) rfl (by kernel_rfl) (by rfl) hHeld ?_ ?_; rotate_left; (next => intro w' hSw; (try dsimp only at hSw); go_simp; all_goals with_reducible rfl); simp only [Act.put, pA9, pB9, pC9]
        refine takeOp 3 (o := ⟨_, _, _, _, _, _⟩) (v := ?_) rfl (by kernel_rfl) (by rfl) hHeld ?_ ?_; rotate_left; (next => intro w' hSw; (try dsimp only at hSw); go_simp; all_goals with_reducible rfl); simp only [Act.put, pA9, pB9, pC9]
        refine takeOp 4 (o := ⟨_, _, _, _, _, _⟩) (v := ?_) rfl (by kernel_rfl) (by rfl) hHeld ?_ ?_; rotate_left; (next => intro w' hSw; (try dsimp only at hSw); go_simp; all_goals with_reducible rfl); simp only [Act.put, pA9, pB9, pC9]
        refine takeOp 5 (o := ⟨_, _, _, _, _, _⟩) (v := ?_) rfl (by kernel_rfl) (by rfl) hHeld ?_ ?_; rotate_left; (next => intro w' hSw; (try dsimp only at hSw); go_simp; all_goals with_reducible rfl); simp only [Act.put, pA9, pB9, pC9]
        refine takeOp 7 (o := ⟨_, _, _, _, _, _⟩) (v := ?_) rfl (by kernel_rfl) (by rfl) hHeld ?_ ?_; rotate_left; (next => intro w' hSw; (try dsimp only at hSw); go_simp; all_goals with_reducible rfl); simp only [Act.put, pA9, pB9, pC9]
        refine takeOp 8 (o := ⟨_, _, _, _, _, _⟩) (v := ?_) rfl (by kernel_rfl) (by rfl) hHeld ?_ ?_; rotate_left; (next => intro w' hSw; (try dsimp only at hSw); go_simp; all_goals with_reducible rfl); simp only [Act.put, pA9, pB9, pC9]
        refine takeOp 9 (o := ⟨_, _, _, _, _, _⟩) (v := ?_) rfl (by kernel_rfl) (by rfl) hHeld ?_ ?_; rotate_left; (next => intro w' hSw; (try dsimp only at hSw); go_simp; all_goals with_reducible rfl); simp only [Act.put, pA9, pB9, pC9]
        refine takeOp 10 (o := ⟨_, _, _, _, _, _⟩) (v := ?_) rfl (by kernel_rfl) (by rfl) hHeld ?_ ?_; rotate_left; (next => intro w' hSw; (try dsimp only at hSw); go_simp; all_goals with_reducible rfl); simp only [Act.put, pA9, pB9, pC9]
        refine takeOp 11 (o := ⟨_, _, _, _, _, _⟩) (v := ?_) rfl (by kernel_rfl) (by rfl) hHeld ?_ ?_; rotate_left; (next => intro w' hSw; (try dsimp only at hSw); go_simp; all_goals with_reducible rfl); simp only [Act.put, pA9, pB9, pC9]
        refine wpAnyH_ready (rs := [6, 12]) (by kernel_rfl) (by simp) ?_
        refine AllReadyH.cons (o := ⟨_, _, _, _, _, _⟩) rfl (fun K hK => ?_) (AllReadyH.cons (o := ⟨_, _, _, _, _, _⟩) rfl (fun K hK => ?_) AllReadyH.nil)
        · refine step_look_text rfl _ _ 278 rfl 9 265 kT fT (buckets_zero _) fb nb mf rfl (FR3.out.map.at rfl) r.n rfl hsz old HO.out ?_
          clear hHeld
          refine hK.out _ _ ⟨y0, y1, y2, y3, y4, y5, y6⟩ (fun hHeld => ?_)
          clear hK K
          try simp only [Act.put, pA9, pB9, pC9]
          refine wpAnyH_ready (rs := [12]) (by kernel_rfl) (by simp) ?_
          refine AllReadyH.cons (o := ⟨_, _, _, _, _, _⟩) rfl (fun K hK => ?_) AllReadyH.nil
          go_simp
          obtain ⟨w4, hw4⟩ : ∃ w4, (w3.alloc (.cells #[.int .i64 r.s, .int .i64 r.a.c, .int .i64 r.a.hi, .int .u64 r.a.lo, .int .i64 r.a.mn, .int .i64 r.a.mx] 269)).drew = w4 := ⟨_, rfl⟩
          have b4 : Below w3.heap.size w3 w4 := by rw [← hw4]; exact ((Below.refl _ _).alloc (Nat.le_refl _) _).drew
          have CK4 : Hid (Cells w4 w3.heap.size 0 (flat benc [(r.s, r.a)])) := Hid.of (by rw [← hw4]; exact new_bk w3 (r.s, r.a) _)
          rw [hw4]
          have BX4 : Hid (RBox w4 q r) := Hid.of ((b4.block q (Array.getElem?_eq_some_iff.1 BX3.out).1).trans BX3.out)
          have FR4 := Hid.of (FR3.out.next b4)
          have HB4 := Hid.of (HB3.out.trans (b4.mono HB3.out.size))
          have HOW4 := Hid.of (own_kept_below HOW.out b4)
          clear hw4 b4 BX3 FR3 HB3 HOW HROW
          clear hHeld y0 y1 y2 y3 y4 y5 y6
          obtain ⟨y0, y1, y2, y3, y4, y5, y6⟩ := BX4.out.at
          refine hK.out _ _ ⟨y0, y1, y2, y3, y4, y5, y6⟩ (fun hHeld => ?_)
          clear hK K
          try simp only [Act.put, pA9, pB9, pC9]
          refine wpAnyH_ready (rs := [13]) (by kernel_rfl) (by simp) ?_
          refine AllReadyH.cons (o := ⟨_, _, _, _, _, _⟩) rfl (fun K hK => ?_) AllReadyH.nil
          refine step_append_keep rfl (.tmp 27) (.tmp 33) 265 rfl w.heap.size 269 i0 _ 6 48 Tryz.underlying265 HI.out HZ0.out HZ1.out HZ2.out rfl (by decide) old n _ (by simp [Act.eval]) HOW4.out w3.heap.size 0 1 1 (flat benc [(r.s, r.a)]) (by simp [Act.eval]) CK4.out rfl (flat_ones benc_one _) (by unfold maxLen; omega) (by omega) HB4.out.size ?_
          intro x w5 o5 g5 _ l5
          have BX5 : Hid (RBox w5 q r) := Hid.of ((g5.block q (Array.getElem?_eq_some_iff.1 BX4.out).1 (fun c => RBox.not_own BX4.out HOW4.out c.symm)).trans BX4.out)
          have O5 := Hid.of o5
          have G5 := Hid.of g5
          have L5 := Hid.of l5
          have HB5 : Hid (Below w.heap.size w w5) := Hid.of (HB4.out.grown g5 HB4.out.size (fun k hk => own_ge HOW4.out hk))
          have hm5 : TMap w5 fb nb mf := FR4.out.map.at (g5.block fb FR4.out.map.lt (fun c => own_not_map (by rw [← HO.out]; exact FR4.out.row hsz) FR4.out.map c.symm))
          clear o5 g5 l5
          clear hHeld y0 y1 y2 y3 y4 y5 y6
          obtain ⟨y0, y1, y2, y3, y4, y5, y6⟩ := BX5.out.at
          refine hK.out _ _ ⟨y0, y1, y2, y3, y4, y5, y6⟩ (fun hHeld => ?_)
          clear hK K
          try simp only [Act.put, pA9, pB9, pC9]
          refine wpAnyH_ready (rs := [14]) (by kernel_rfl) (by simp) ?_
          refine AllReadyH.cons (o := ⟨_, _, _, _, _, _⟩) rfl (fun K hK => ?_) AllReadyH.nil
          refine step_store_text rfl _ _ _ 278 rfl 9 265 kT fT fb nb mf rfl hm5 (by unfold maxLen; omega) r.n rfl hsz x rfl ?_
          intro w6 hm6 ht6
          have BX6 : Hid (RBox w6 q r) := Hid.of ((ht6.grown.block q (Array.getElem?_eq_some_iff.1 BX5.out).1 (fun c => RBox.not_map BX5.out hm5 (Option.some.inj c))).trans BX5.out)
          have M6 := Hid.of hm6
          have T6 := Hid.of ht6
          clear hm6 ht6 hm5
          clear hHeld y0 y1 y2 y3 y4 y5 y6
          obtain ⟨y0, y1, y2, y3, y4, y5, y6⟩ := BX6.out.at
          refine hK.out _ _ ⟨y0, y1, y2, y3, y4, y5, y6⟩ (fun hHeld => ?_)
          clear hK K
          refine wpAnyH_done (by kernel_rfl) ?_ _
          refine NoPanic.normal ?_
          go_wp2
          go_roundg (N - (j + 1))
          case measure => have := HJN.out; omega
          case rel =>
            refine ⟨j + 1, c + 1, nb + 1, mPut mf r.n x, by go_num, by go_num, HJN.out, Nat.le_refl _, by omega, by omega, Hid.of (by rw [HST.out, List.length_append, HC.out]; rfl), Hid.of ?_, Hid.of (HB5.out.grown T6.out.grown HB5.out.size (fun k hk => by cases hk; exact Nat.le_of_eq HFB.out))⟩
            rw [HST.out]
            refine FR4.out.add r hsz ?_ (by rw [HO.out]; exact G5.out) (by rw [HO.out]; exact L5.out) M6.out T6.out
            have := O5.out
            rw [← flat_append] at this
            unfold BkOwn
            rw [List.length_append, LN.out]
            exact this
        · go_simp
          obtain ⟨w4, hw4⟩ : ∃ w4, (w3.alloc (.cells #[.int .i64 r.s, .int .i64 r.a.c, .int .i64 r.a.hi, .int .u64 r.a.lo, .int .i64 r.a.mn, .int .i64 r.a.mx] 269)).drew = w4 := ⟨_, rfl⟩
          have b4 : Below w3.heap.size w3 w4 := by rw [← hw4]; exact ((Below.refl _ _).alloc (Nat.le_refl _) _).drew
          have CK4 : Hid (Cells w4 w3.heap.size 0 (flat benc [(r.s, r.a)])) := Hid.of (by rw [← hw4]; exact new_bk w3 (r.s, r.a) _)
          rw [hw4]
          have BX4 : Hid (RBox w4 q r) := Hid.of ((b4.block q (Array.getElem?_eq_some_iff.1 BX3.out).1).trans BX3.out)
          have FR4 := Hid.of (FR3.out.next b4)
          have HB4 := Hid.of (HB3.out.trans (b4.mono HB3.out.size))
          have HOW4 := Hid.of (own_kept_below HOW.out b4)
          clear hw4 b4 BX3 FR3 HB3 HOW HROW
          clear hHeld y0 y1 y2 y3 y4 y5 y6
          obtain ⟨y0, y1, y2, y3, y4, y5, y6⟩ := BX4.out.at
          refine hK.out _ _ ⟨y0, y1, y2, y3, y4, y5, y6⟩ (fun hHeld => ?_)
          clear hK K
          try simp only [Act.put, pA9, pB9, pC9]
          refine wpAnyH_ready (rs := [6]) (by kernel_rfl) (by simp) ?_
          refine AllReadyH.cons (o := ⟨_, _, _, _, _, _⟩) rfl (fun K hK => ?_) AllReadyH.nil
          refine step_look_text rfl _ _ 278 rfl 9 265 kT fT (buckets_zero _) fb nb mf rfl (FR4.out.map.at rfl) r.n rfl hsz old HO.out ?_
          clear hHeld
          refine hK.out _ _ ⟨y0, y1, y2, y3, y4, y5, y6⟩ (fun hHeld => ?_)
          clear hK K
          try simp only [Act.put, pA9, pB9, pC9]
          refine wpAnyH_ready (rs := [13]) (by kernel_rfl) (by simp) ?_
          refine AllReadyH.cons (o := ⟨_, _, _, _, _, _⟩) rfl (fun K hK => ?_) AllReadyH.nil
          refine step_append_keep rfl (.tmp 27) (.tmp 33) 265 rfl w.heap.size 269 i0 _ 6 48 Tryz.underlying265 HI.out HZ0.out HZ1.out HZ2.out rfl (by decide) old n _ (by simp [Act.eval]) HOW4.out w3.heap.size 0 1 1 (flat benc [(r.s, r.a)]) (by simp [Act.eval]) CK4.out rfl (flat_ones benc_one _) (by unfold maxLen; omega) (by omega) HB4.out.size ?_
          intro x w5 o5 g5 _ l5
          have BX5 : Hid (RBox w5 q r) := Hid.of ((g5.block q (Array.getElem?_eq_some_iff.1 BX4.out).1 (fun c => RBox.not_own BX4.out HOW4.out c.symm)).trans BX4.out)
          have O5 := Hid.of o5
          have G5 := Hid.of g5
          have L5 := Hid.of l5
          have HB5 : Hid (Below w.heap.size w w5) := Hid.of (HB4.out.grown g5 HB4.out.size (fun k hk => own_ge HOW4.out hk))
          have hm5 : TMap w5 fb nb mf := FR4.out.map.at (g5.block fb FR4.out.map.lt (fun c => own_not_map (by rw [← HO.out]; exact FR4.out.row hsz) FR4.out.map c.symm))
          clear o5 g5 l5
          clear hHeld y0 y1 y2 y3 y4 y5 y6
          obtain ⟨y0, y1, y2, y3, y4, y5, y6⟩ := BX5.out.at
          refine hK.out _ _ ⟨y0, y1, y2, y3, y4, y5, y6⟩ (fun hHeld => ?_)
          clear hK K
          try simp only [Act.put, pA9, pB9, pC9]
          refine wpAnyH_ready (rs := [14]) (by kernel_rfl) (by simp) ?_
          refine AllReadyH.cons (o := ⟨_, _, _, _, _, _⟩) rfl (fun K hK => ?_) AllReadyH.nil
          refine step_store_text rfl _ _ _ 278 rfl 9 265 kT fT fb nb mf rfl hm5 (by unfold maxLen; omega) r.n rfl hsz x rfl ?_
          intro w6 hm6 ht6
          have BX6 : Hid (RBox w6 q r) := Hid.of ((ht6.grown.block q (Array.getElem?_eq_some_iff.1 BX5.out).1 (fun c => RBox.not_map BX5.out hm5 (Option.some.inj c))).trans BX5.out)
          have M6 := Hid.of hm6
          have T6 := Hid.of ht6
          clear hm6 ht6 hm5
          clear hHeld y0 y1 y2 y3 y4 y5 y6
          obtain ⟨y0, y1, y2, y3, y4, y5, y6⟩ := BX6.out.at
          refine hK.out _ _ ⟨y0, y1, y2, y3, y4, y5, y6⟩ (fun hHeld => ?_)
          clear hK K
          refine wpAnyH_done (by kernel_rfl) ?_ _
          refine NoPanic.normal ?_
          go_wp2
          go_roundg (N - (j + 1))
          case measure => have := HJN.out; omega
          case rel =>
            refine ⟨j + 1, c + 1, nb + 1, mPut mf r.n x, by go_num, by go_num, HJN.out, Nat.le_refl _, by omega, by omega, Hid.of (by rw [HST.out, List.length_append, HC.out]; rfl), Hid.of ?_, Hid.of (HB5.out.grown T6.out.grown HB5.out.size (fun k hk => by cases hk; exact Nat.le_of_eq HFB.out))⟩
            rw [HST.out]
            refine FR4.out.add r hsz ?_ (by rw [HO.out]; exact G5.out) (by rw [HO.out]; exact L5.out) M6.out T6.out
            have := O5.out
            rw [← flat_append] at this
            unfold BkOwn
            rw [List.length_append, LN.out]
            exact this
    · obtain rfl : j = N := by omega
      have htk : rs.take j = rs := List.take_of_length_le (by rw [BL.out]; exact Nat.le_refl _)
      rw [htk] at FR HC
      obtain ⟨fs, hfs⟩ : ∃ fs, rs.filter (tOk e) = fs := ⟨_, rfl⟩
      rw [hfs] at FR HC
      have hfin : ∀ x ∈ fs, x ∈ rs ∧ tOk e x = true := fun x hx => by rw [← hfs] at hx; exact List.mem_filter.1 hx
      have FOK : Hid (∀ x ∈ fs, tOk e x = true) := Hid.of fun x hx => (hfin x hx).2
      have FFT : Hid (∀ x ∈ fs, TFit x) := Hid.of fun x hx => HF.out x (hfin x hx).1
      have FLN : Hid (fs.length ≤ rs.length) := Hid.of (by rw [← hfs]; exact List.length_filter_le ..)
      have FAD : Hid (tAdds e l fs = tAdds e l rs) := Hid.of (by rw [← hfs]; exact tAdds_filter e l rs)
      have FAP := Hid.of FR.out.apart
      have FKN : Hid (∀ s, s.size ≤ maxLen → ∀ v, mf s = some v → ser fs s ≠ []) := Hid.of fun s hs v hv => (FR.out.known hs hv).1
      have FSM : Hid (∀ x ∈ fs, (mf x.n).isSome = true) := Hid.of fun x hx => by
        obtain ⟨v, hv, _⟩ := FR.out.some_ x.n (FFT.out x hx).1 (fun c => by
          have := mem_ser (l := fs) (s := x.n) (b := (x.s, x.a)) |>.2 hx
          rw [c] at this
          exact absurd this List.not_mem_nil)
        rw [hv]
        rfl
      have CN : Hid (tCount e rs = c) := Hid.of (by unfold tCount; rw [hfs]; exact HC.out)
      have LAL : Hid (∀ lf, (lAdd e l fs lf).length ≤ 1000) := Hid.of fun lf => by
        have h1 := tAdds_len e l (fs.filter fun x => !lf x.n)
        have h2 := List.length_filter_le (fun x : TRec => !lf x.n) fs
        have h3 := FLN.out
        have h4 := HN.out
        unfold lAdd
        omega
      have hmf := FR.out.map
      clear hfs hfin htk hkx hjn
      go_wp2_with (first
        | (at_range; refine wpList_range_text _ rfl _ 278 rfl 9 265 kT fT fb nb mf rfl hmf ?_; intro w4 c4 hrg4 hc4 hg4 hs4)
        | go_in)
      generalize hwq : wr = wq at *
      obtain ⟨r0, hr0⟩ : ∃ r0, wq.heap.size = r0 := ⟨_, rfl⟩
      rw [hr0] at hrg4 ⊢
      have b4 : Below wq.heap.size wq w4 := ⟨hg4.os, hg4.tape, hg4.output, hg4.size, fun i hi => hg4.block i hi (by simp)⟩
      have R0 : Hid (p < w.heap.size ∧ b < w.heap.size ∧ w.heap.size ≤ r0 ∧ w.heap.size = fb) := Hid.of ⟨H.out.lt_p, H.out.map.lt, by rw [← hr0]; exact HB.out.size, HFB.out⟩
      have RG4 := Hid.of hrg4
      have HC4 := Hid.of hc4
      have W4 : Hid (Wv w4 w.heap.size p b mf m (fun s => (mf s).isSome) e l fs) := Hid.of (by
        refine Wv.below ⟨?_, fun s v hs _ hv => (FR.out.known hs hv).2, fun s t v u g hs ht _ hv hu g1 g2 => ?_⟩ b4
        · rw [lAdd_start FSM.out]
          exact H.out.below HB.out
        · have h1 := own_ge (FR.out.known hs hv).2 g1
          have h2 := own_lt (H.out.known ht hu).2.1 g2
          omega)
      have TO4 : Hid (Touch (fun i => foot b m i ∨ w.heap.size ≤ i) w w4) := Hid.of (Touch.below (HB.out.trans (b4.mono HB.out.size)))
      clear hmf hrg4 hg4 hs4 hr0 b4 FR HB hc4 hwq
      go_loopg [] nb (fun kx wz => ∃ (left : ByteArray → Bool) (cnt : Nat) (mj : ByteArray → Option Value), cnt ≤ kx ∧ Hid (RangeIs Tryz.prog 9 wz fb r0 nb mf left cnt) ∧ Hid (Wv wz w.heap.size p b mf mj left e l fs) ∧ Hid (∀ s v g, s.size ≤ maxLen → mj s = some v → v.ownBlock = some g → foot b m g ∨ w.heap.size ≤ g) ∧ Hid (Touch (fun i => foot b m i ∨ w.heap.size ≤ i) w wz))
      case atStart => exact ⟨_, c4, m, HC4.out, RG4, W4, Hid.of (fun s v g hs hv hg => .inl (.inr ⟨s, v, hs, hv, hg⟩)), TO4⟩
      case round =>
        clear RG4 W4 TO4 HC4
        obtain ⟨left, cnt, mj, hck, RG, WV, FTS, TO⟩ := hrel
        have hrg := RG.out
        go_wp2_with (first
          | (at_next; refine wpList_next_text _ rfl _ rfl 9 kT fb r0 nb mf left cnt rfl hrg ?_ ?_)
          | go_in)
        · intro h0 hdone
          have e1 : lAdd e l fs left = tAdds e l rs := (lAdd_end (fun x hx => hdone _ (FFT.out x hx).1)).trans FAD.out
          have E1 := Hid.of e1
          clear hdone h0 hrg e1
          go_wp2
          go_ret
          refine ⟨by rw [CN.out]; rfl, _, ⟨b, mj, by rw [← E1.out]; exact WV.out.tab, rfl⟩, tstep_of (TO.out.mono (fun i hi c => c.elim id (fun c => absurd hi (Nat.not_lt.2 c)))) (fun k hk => ?_)⟩
          rcases hk with c | ⟨s, v, h1, h2, h3⟩
          · exact .inl (.inl c)
          · exact FTS.out s v k h1 h2 h3
        · intro s v w5 cnt' hs hls hms hrg1 hlt5 hg1 hs1 hen
          have hR := R0.out
          have hW5 := WV.out.stepped RG.out hg1 (by omega) (by omega)
          have hv := hW5.row s v hs hls hms
          have hne := FKN.out s hs v hms
          obtain ⟨va, vc, rfl, -, -⟩ := own_shape hv
          obtain ⟨n, hn⟩ : ∃ n, (ser fs s).length = n := ⟨_, rfl⟩
          rw [hn] at hen hms
          have S15 : Hid (s.size ≤ 281474976710656) := Hid.of (by
            obtain ⟨x, hx⟩ := List.exists_mem_of_ne_nil _ hne
            have := FOK.out _ (mem_ser.1 hx)
            unfold tOk at this
            simp only [Bool.and_eq_true] at this
            have := tnOk_le this.1.1.1
            omega)
          obtain ⟨old, hold⟩ : ∃ old, (mj s).getD (.slice none 0 0) = old := ⟨_, rfl⟩
          have HO := Hid.of hold
          have LS := Hid.of hls
          have MS := Hid.of hms
          have FNE := Hid.of hne
          have FGD : Hid (BAll (ser fs s)) := Hid.of (ser_good (fun x hx => tOk_good (FOK.out x hx) (FFT.out x hx).2.2) (fun x hx => (FFT.out x hx).2.1) s)
          have W5 := Hid.of hW5
          have RG5 := Hid.of hrg1
          have TO5 := Hid.of (TO.out.trans (Touch.grown (F := fun i => foot b m i ∨ w.heap.size ≤ i) hg1 (fun i _ c => by cases c; exact .inr hR.2.2.1)))
          have B5 : Hid (w.heap.size ≤ w5.heap.size) := Hid.of TO5.out.size
          have d1 : w5.drew.cell? ⟨p, 1, none⟩ = some (.map (some b)) := W5.out.tab.c1
          clear hv hn hold hrg hrg1 hg1 hs1 hms hls hne hW5 hR WV TO
          go_upto_region 13 with fail
          refine wp_region_noPanic ?_
          refine wp_region_held_drew (S := fun w' => w'.cell? ⟨p, 1, none⟩ = some (.map (some b))) (by kernel_rfl) ?_ (fun hHeld => ?_)
          · exact d1
          refine takeOp 0 (o := ⟨_, _, _, _, _, _⟩) (v := ?_) rfl (by kernel_rfl) (by rfl) hHeld ?_ ?_; rotate_left; (next => intro w' hSw; (try dsimp only at hSw); go_simp; all_goals with_reducible rfl); simp only [Act.put, pA9, pB9, pC9]
          refine takeOp 1 (o := ⟨_, _, _, _, _, _⟩) (v := ?_) rfl (by kernel_rfl) (by rfl) hHeld ?_ ?_; rotate_left; (next => intro w' hSw; (try dsimp only at hSw); go_simp; all_goals with_reducible rfl); simp only [Act.put, pA9, pB9, pC9]
          refine takeOp 2 (o := ⟨_, _, _, _, _, _⟩) (v := ?_) rfl (by kernel_rfl) (by rfl) hHeld ?_ ?_; rotate_left; (next => intro w' hSw; (try dsimp only at hSw); go_simp; all_goals with_reducible rfl); simp only [Act.put, pA9, pB9, pC9]
          refine takeOp 3 (o := ⟨_, _, _, _, _, _⟩) (v := ?_) rfl (by kernel_rfl) (by rfl) hHeld ?_ ?_; rotate_left; (next => intro w' hSw; (try dsimp only at hSw); go_simp; all_goals with_reducible rfl); simp only [Act.put, pA9, pB9, pC9]
          refine takeOp 4 (o := ⟨_, _, _, _, _, _⟩) (v := ?_) rfl (by kernel_rfl) (by rfl) hHeld ?_ ?_; rotate_left; (next => intro w' hSw; (try dsimp only at hSw); go_simp; all_goals with_reducible rfl); simp only [Act.put, pA9, pB9, pC9]
          refine takeOp 6 (o := ⟨_, _, _, _, _, _⟩) (v := ?_) rfl (by kernel_rfl) (by rfl) hHeld ?_ ?_; rotate_left; (next => intro w' hSw; (try dsimp only at hSw); go_simp; all_goals with_reducible rfl); simp only [Act.put, pA9, pB9, pC9]
          refine takeOp 7 (o := ⟨_, _, _, _, _, _⟩) (v := ?_) rfl (by kernel_rfl) (by rfl) hHeld ?_ ?_; rotate_left; (next => intro w' hSw; (try dsimp only at hSw); go_simp; all_goals with_reducible rfl); simp only [Act.put, pA9, pB9, pC9]
          refine takeOp 8 (o := ⟨_, _, _, _, _, _⟩) (v := ?_) rfl (by kernel_rfl) (by rfl) hHeld ?_ ?_; rotate_left; (next => intro w' hSw; (try dsimp only at hSw); go_simp; all_goals with_reducible rfl); simp only [Act.put, pA9, pB9, pC9]
          refine takeOp 9 (o := ⟨_, _, _, _, _, _⟩) (v := ?_) rfl (by kernel_rfl) (by rfl) hHeld ?_ ?_; rotate_left; (next => intro w' hSw; (try dsimp only at hSw); go_simp; all_goals with_reducible rfl); simp only [Act.put, pA9, pB9, pC9]
          refine takeOp 10 (o := ⟨_, _, _, _, _, _⟩) (v := ?_) rfl (by kernel_rfl) (by rfl) hHeld ?_ ?_; rotate_left; (next => intro w' hSw; (try dsimp only at hSw); go_simp; all_goals with_reducible rfl); simp only [Act.put, pA9, pB9, pC9]
          refine takeOp 12 (o := ⟨_, _, _, _, _, _⟩) (v := ?_) rfl (by kernel_rfl) (by rfl) hHeld ?_ ?_; rotate_left; (next => intro w' hSw; (try dsimp only at hSw); go_simp; all_goals with_reducible rfl); simp only [Act.put, pA9, pB9, pC9]
          refine wpAnyH_ready (rs := [5, 11]) (by kernel_rfl) (by simp) ?_
          refine AllReadyH.cons (o := ⟨_, _, _, _, _, _⟩) rfl (fun K hK => ?_) (AllReadyH.cons (o := ⟨_, _, _, _, _, _⟩) rfl (fun K hK => ?_) AllReadyH.nil)
          · go_simp
            refine (Clone_any s _ S15.out).mono ?_
            rintro x w6 ⟨rfl, b6⟩
            have c6 := (Below.refl w5.heap.size w5).drew.trans b6
            have W6 := Hid.of (W5.out.below c6)
            have RG6 := Hid.of (RG5.out.at (c6.block fb RG5.out.is.lt) (c6.block _ RG5.out.lt))
            have B6 := Hid.of c6
            clear b6 c6
            clear hHeld d1
            have d1 := W6.out.tab.c1
            refine hK.out _ _ d1 (fun hHeld => ?_)
            clear hK K
            try simp only [Act.put, pA9, pB9, pC9]
            refine wpAnyH_ready (rs := [11]) (by kernel_rfl) (by simp) ?_
            refine AllReadyH.cons (o := ⟨_, _, _, _, _, _⟩) rfl (fun K hK => ?_) AllReadyH.nil
            refine step_look_text rfl _ _ 261 rfl 9 266 kT mT (series_zero _) b _ mj rfl W6.out.tab.map s rfl hs old HO.out ?_
            clear hHeld
            refine hK.out _ _ d1 (fun hHeld => ?_)
            clear hK K
            try simp only [Act.put, pA9, pB9, pC9]
            refine wpAnyH_ready (rs := [13]) (by kernel_rfl) (by simp) ?_
            refine AllReadyH.cons (o := ⟨_, _, _, _, _, _⟩) rfl (fun K hK => ?_) AllReadyH.nil
            go_simp
            have ROWS := W6.out.row s _ hs LS.out MS.out
            have OLD := W6.out.tab.row hs
            rw [HO.out, lAdd_ser H.out.sorted FOK.out, if_pos LS.out] at OLD
            refine (add_any (ser l s) (ser fs s) w6 OLD ROWS (fun g hg c => ?_) (H.out.rise s) (H.out.all s) FGD.out FNE.out (by have := ser_le l s; have := ser_le fs s; have := FLN.out; have := HN.out; have := BL.out; omega) (Nat.zero_le _)).mono ?_
            · rw [← HO.out] at c
              cases hmj : mj s with
              | none => rw [hmj] at c; cases c
              | some o => rw [hmj] at c; exact W6.out.cross s s _ o g hs hs LS.out MS.out hmj hg c
            rintro e7 w7 ⟨x, rfl, o7, t7, n7⟩
            have O7 := Hid.of o7
            have T7 := Hid.of t7
            have N7 := Hid.of n7
            have hnoB : ∀ g, (old.ownBlock = some g ∨ (Value.slice va n vc).ownBlock = some g) → g ≠ b ∧ g ≠ p ∧ g ≠ fb ∧ g ≠ r0 := fun g hg => by
              rcases hg with hg | hg
              · exact ⟨fun c => own_not_map OLD W6.out.tab.map (by rw [hg, c]), fun c => own_not_table OLD W6.out.tab (by rw [hg, c]), fun c => own_not_map OLD RG6.out.is (by rw [hg, c]), fun c => own_not_iter OLD RG6.out (by rw [hg, c])⟩
              · exact ⟨fun c => own_not_map ROWS W6.out.tab.map (by rw [hg, c]), fun c => own_not_table ROWS W6.out.tab (by rw [hg, c]), fun c => own_not_map ROWS RG6.out.is (by rw [hg, c]), fun c => own_not_iter ROWS RG6.out (by rw [hg, c])⟩
            have hp7 : w7.heap[p]? = w6.heap[p]? := t7.block p W6.out.tab.lt_p (fun c => (hnoB p c).2.1 rfl)
            have hm7 : TMap w7 b (lAdd e l fs left).length mj := W6.out.tab.map.at (t7.block b W6.out.tab.map.lt (fun c => (hnoB b c).1 rfl))
            have RG7 := Hid.of (RG6.out.at (t7.block fb RG6.out.is.lt (fun c => (hnoB fb c).2.2.1 rfl)) (t7.block r0 RG6.out.lt (fun c => (hnoB r0 c).2.2.2 rfl)))
            have P7 : Hid (w7.heap[p]? = some (.cells #[.int .i64 e, .map (some b)] 263)) := Hid.of (hp7.trans W6.out.tab.cell)
            have d7 : w7.cell? ⟨p, 1, none⟩ = some (.map (some b)) := by have := P7.out; simp [World.cell?, this]
            clear o7 t7 n7 ROWS OLD hnoB hp7 hHeld d1
            refine hK.out _ _ d7 (fun hHeld => ?_)
            clear hK K
            try simp only [Act.put, pA9, pB9, pC9]
            refine wpAnyH_ready (rs := [14]) (by kernel_rfl) (by simp) ?_
            refine AllReadyH.cons (o := ⟨_, _, _, _, _, _⟩) rfl (fun K hK => ?_) AllReadyH.nil
            refine step_store_text rfl _ _ _ 261 rfl 9 266 kT mT b _ mj rfl hm7 (by have := LAL.out left; unfold maxLen; omega) s rfl hs x rfl ?_
            intro w8 hm8 ht8
            have M8 := Hid.of hm8
            have T8 := Hid.of ht8
            have d8 : w8.cell? ⟨p, 1, none⟩ = some (.map (some b)) := by have h8 := ht8.grown.block p (Array.getElem?_eq_some_iff.1 P7.out).1 (fun c => H.out.pb (Option.some.inj c)); rw [P7.out] at h8; simp [World.cell?, h8]
            clear hm8 ht8 hm7 d7 hHeld
            refine hK.out _ _ d8 (fun hHeld => ?_)
            clear hK K
            refine wpAnyH_done (by kernel_rfl) ?_ _
            refine NoPanic.normal ?_
            go_wp2
            go_roundg cnt'
            case measure => omega
            case rel =>
              have hold8 : ∀ i, i < w7.heap.size → i ≠ b → w8.heap[i]? = w7.heap[i]? := fun i hi hne => T8.out.grown.block i hi (fun c => hne (Option.some.inj c))
              have hrf := RG7.out.is.lt
              have hri := RG7.out.lt
              have hbl := H.out.map.lt
              have hR := R0.out
              have W8 := W6.out.next H.out.sorted H.out.ok H.out.fit FOK.out FFT.out FAP.out hs LS.out MS.out FNE.out O7.out (by rw [HO.out]; exact T7.out) (by rw [HO.out]; exact N7.out) M8.out T8.out
              refine ⟨lessN left s, cnt', _, Nat.le_refl _, Hid.of (RG7.out.at (hold8 fb hrf (by omega)) (hold8 r0 hri (by omega))), Hid.of W8, Hid.of (fun t y g hts hy hg => ?_), Hid.of ?_⟩
              · unfold mPut at hy
                split at hy
                · rw [← Option.some.inj hy] at hg
                  rcases N7.out with o | ⟨g', o, hge⟩
                  · rw [hg, ← HO.out] at o
                    cases hmj : mj s with
                    | none => rw [hmj] at o; cases o
                    | some z => rw [hmj] at o; exact FTS.out s z g hs hmj o.symm
                  · rw [hg] at o
                    cases o
                    have := B6.out.size
                    have := B5.out
                    exact .inr (by omega)
                · exact FTS.out t y g hts hy hg
              · refine ((TO5.out.trans (Touch.below B6.out)).trans (T7.out.mono ?_)).trans (turned_touch T8.out (.inl (.inl rfl)))
                intro i hi hc
                rcases hc with c | c
                · rw [← HO.out] at c
                  cases hmj : mj s with
                  | none => rw [hmj] at c; cases c
                  | some z => rw [hmj] at c; exact FTS.out s z i hs hmj c
                · exact .inr (own_ge (W6.out.row s _ hs LS.out MS.out) c)
          · refine step_look_text rfl _ _ 261 rfl 9 266 kT mT (series_zero _) b _ mj rfl (W5.out.tab.map.at rfl) s rfl hs old HO.out ?_
            clear hHeld
            refine hK.out _ _ d1 (fun hHeld => ?_)
            clear hK K
            try simp only [Act.put, pA9, pB9, pC9]
            refine wpAnyH_ready (rs := [5]) (by kernel_rfl) (by simp) ?_
            refine AllReadyH.cons (o := ⟨_, _, _, _, _, _⟩) rfl (fun K hK => ?_) AllReadyH.nil
            go_simp
            refine (Clone_any s _ S15.out).mono ?_
            rintro x w6 ⟨rfl, b6⟩
            have c6 := (Below.refl w5.heap.size w5).drew.trans b6
            have W6 := Hid.of (W5.out.below c6)
            have RG6 := Hid.of (RG5.out.at (c6.block fb RG5.out.is.lt) (c6.block _ RG5.out.lt))
            have B6 := Hid.of c6
            clear b6 c6
            clear hHeld d1
            have d1 := W6.out.tab.c1
            refine hK.out _ _ d1 (fun hHeld => ?_)
            clear hK K
            try simp only [Act.put, pA9, pB9, pC9]
            refine wpAnyH_ready (rs := [13]) (by kernel_rfl) (by simp) ?_
            refine AllReadyH.cons (o := ⟨_, _, _, _, _, _⟩) rfl (fun K hK => ?_) AllReadyH.nil
            go_simp
            have ROWS := W6.out.row s _ hs LS.out MS.out
            have OLD := W6.out.tab.row hs
            rw [HO.out, lAdd_ser H.out.sorted FOK.out, if_pos LS.out] at OLD
            refine (add_any (ser l s) (ser fs s) w6 OLD ROWS (fun g hg c => ?_) (H.out.rise s) (H.out.all s) FGD.out FNE.out (by have := ser_le l s; have := ser_le fs s; have := FLN.out; have := HN.out; have := BL.out; omega) (Nat.zero_le _)).mono ?_
            · rw [← HO.out] at c
              cases hmj : mj s with
              | none => rw [hmj] at c; cases c
              | some o => rw [hmj] at c; exact W6.out.cross s s _ o g hs hs LS.out MS.out hmj hg c
            rintro e7 w7 ⟨x, rfl, o7, t7, n7⟩
            have O7 := Hid.of o7
            have T7 := Hid.of t7
            have N7 := Hid.of n7
            have hnoB : ∀ g, (old.ownBlock = some g ∨ (Value.slice va n vc).ownBlock = some g) → g ≠ b ∧ g ≠ p ∧ g ≠ fb ∧ g ≠ r0 := fun g hg => by
              rcases hg with hg | hg
              · exact ⟨fun c => own_not_map OLD W6.out.tab.map (by rw [hg, c]), fun c => own_not_table OLD W6.out.tab (by rw [hg, c]), fun c => own_not_map OLD RG6.out.is (by rw [hg, c]), fun c => own_not_iter OLD RG6.out (by rw [hg, c])⟩
              · exact ⟨fun c => own_not_map ROWS W6.out.tab.map (by rw [hg, c]), fun c => own_not_table ROWS W6.out.tab (by rw [hg, c]), fun c => own_not_map ROWS RG6.out.is (by rw [hg, c]), fun c => own_not_iter ROWS RG6.out (by rw [hg, c])⟩
            have hp7 : w7.heap[p]? = w6.heap[p]? := t7.block p W6.out.tab.lt_p (fun c => (hnoB p c).2.1 rfl)
            have hm7 : TMap w7 b (lAdd e l fs left).length mj := W6.out.tab.map.at (t7.block b W6.out.tab.map.lt (fun c => (hnoB b c).1 rfl))
            have RG7 := Hid.of (RG6.out.at (t7.block fb RG6.out.is.lt (fun c => (hnoB fb c).2.2.1 rfl)) (t7.block r0 RG6.out.lt (fun c => (hnoB r0 c).2.2.2 rfl)))
            have P7 : Hid (w7.heap[p]? = some (.cells #[.int .i64 e, .map (some b)] 263)) := Hid.of (hp7.trans W6.out.tab.cell)
            have d7 : w7.cell? ⟨p, 1, none⟩ = some (.map (some b)) := by have := P7.out; simp [World.cell?, this]
            clear o7 t7 n7 ROWS OLD hnoB hp7 hHeld d1
            refine hK.out _ _ d7 (fun hHeld => ?_)
            clear hK K
            try simp only [Act.put, pA9, pB9, pC9]
            refine wpAnyH_ready (rs := [14]) (by kernel_rfl) (by simp) ?_
            refine AllReadyH.cons (o := ⟨_, _, _, _, _, _⟩) rfl (fun K hK => ?_) AllReadyH.nil
            refine step_store_text rfl _ _ _ 261 rfl 9 266 kT mT b _ mj rfl hm7 (by have := LAL.out left; unfold maxLen; omega) s rfl hs x rfl ?_
            intro w8 hm8 ht8
            have M8 := Hid.of hm8
            have T8 := Hid.of ht8
            have d8 : w8.cell? ⟨p, 1, none⟩ = some (.map (some b)) := by have h8 := ht8.grown.block p (Array.getElem?_eq_some_iff.1 P7.out).1 (fun c => H.out.pb (Option.some.inj c)); rw [P7.out] at h8; simp [World.cell?, h8]
            clear hm8 ht8 hm7 d7 hHeld
            refine hK.out _ _ d8 (fun hHeld => ?_)
            clear hK K
            refine wpAnyH_done (by kernel_rfl) ?_ _
            refine NoPanic.normal ?_
            go_wp2
            go_roundg cnt'
            case measure => omega
            case rel =>
              have hold8 : ∀ i, i < w7.heap.size → i ≠ b → w8.heap[i]? = w7.heap[i]? := fun i hi hne => T8.out.grown.block i hi (fun c => hne (Option.some.inj c))
              have hrf := RG7.out.is.lt
              have hri := RG7.out.lt
              have hbl := H.out.map.lt
              have hR := R0.out
              have W8 := W6.out.next H.out.sorted H.out.ok H.out.fit FOK.out FFT.out FAP.out hs LS.out MS.out FNE.out O7.out (by rw [HO.out]; exact T7.out) (by rw [HO.out]; exact N7.out) M8.out T8.out
              refine ⟨lessN left s, cnt', _, Nat.le_refl _, Hid.of (RG7.out.at (hold8 fb hrf (by omega)) (hold8 r0 hri (by omega))), Hid.of W8, Hid.of (fun t y g hts hy hg => ?_), Hid.of ?_⟩
              · unfold mPut at hy
                split at hy
                · rw [← Option.some.inj hy] at hg
                  rcases N7.out with o | ⟨g', o, hge⟩
                  · rw [hg, ← HO.out] at o
                    cases hmj : mj s with
                    | none => rw [hmj] at o; cases o
                    | some z => rw [hmj] at o; exact FTS.out s z g hs hmj o.symm
                  · rw [hg] at o
                    cases o
                    have := B6.out.size
                    have := B5.out
                    exact .inr (by omega)
                · exact FTS.out t y g hts hy hg
              · refine ((TO5.out.trans (Touch.below B6.out)).trans (T7.out.mono ?_)).trans (turned_touch T8.out (.inl (.inl rfl)))
                intro i hi hc
                rcases hc with c | c
                · rw [← HO.out] at c
                  cases hmj : mj s with
                  | none => rw [hmj] at c; cases c
                  | some z => rw [hmj] at c; exact FTS.out s z i hs hmj c
                · exact .inr (own_ge (W6.out.row s _ hs LS.out MS.out) c)

end Go.Proofs.YtbhcafginmkaaaaGreat

namespace Go.Proofs.YtbhcafginmkaaaaGreat
open Go.RowKit Go.Lib

def tables : TableSpec where
  Rep := TRep
  lt := TRep.lt
  sub := TRep.sub
  kept := TRep.kept
  new := new_any
  every := every_any
  add := fun v rs h hn hv _ hf => tadd_any v rs h hn hv hf
  all := allRecs_any
  names := names_any
  shard := fun k n h hl _ _ => tshard_any k n h hl
  clear_ := fun k n h hl _ _ => clear_any k n h hl
  roll := fun e' f h hl he _ => troll_any e' f h hl he
  need := fun n h hl hn => need_any n h hl hn
  copy := tcopy_any

end Go.Proofs.YtbhcafginmkaaaaGreat
