/-
  A bundle of texts: TMC TMD TME.
-/
import Derived.Test.YtnohmloilcpmiaaQ36
import Derived.Test.YtnohmloilcpmiaaQ18
import Derived.Test.YtnohmloilcpmiaaQ13
namespace Go.Proofs.Ytnohmloilcpmiaa
open Go.RowKit Go.Lib

theorem tall_any {w : World} {p b : Nat} {e : Int} {l : List TRec} {m : ByteArray → Option Value} (h : TIs w p e l b m) :
    Calls Try.prog 45 #[tptr p] w fun x w' => x = .returned (.map (some b)) ∧ w' = w := by
  have c1 := h.c1
  clear h
  go_enter Try.func45, Try.ntmps45
  go_wp2
  go_ret
  exact ⟨rfl, rfl⟩

theorem new_any (e : Int) (w : World) (he : TIn64 e) : Calls Try.prog 21 #[.int .i64 e] w fun x w' => ∃ p F, x = .returned (tptr p) ∧ TRep w' p (max e 1) [] F ∧ (∀ k, F.all k → w.heap.size ≤ k) ∧ Below w.heap.size w w' := by
  have hm : 1 ≤ max e 1 ∧ TIn64 (max e 1) := by unfold TIn64 at *; omega
  have HM := Hid.of hm
  obtain ⟨M, hM⟩ : ∃ M, max e 1 = M := ⟨_, rfl⟩
  rw [hM] at HM ⊢
  clear he hm
  have hmk := run_makeMap (P := Try.prog) 84 w
  go_enter Try.func21, Try.ntmps21
  go_wp2

  go_ret
  obtain ⟨h1, h2⟩ := HM.out
  have hs1 : (w.alloc (.map #[] 0)).heap.size = w.heap.size + 1 := by simp
  refine ⟨w.heap.size + 1, _, by rfl, ⟨w.heap.size, fun _ => none, ⟨?_, ?_, fun _ _ _ => rfl, fun s _ c => absurd rfl c, fun s t v u g _ _ c => (by cases c), by omega, List.Pairwise.nil, fun x hx => absurd hx List.not_mem_nil, fun x hx => absurd hx List.not_mem_nil, h1, h2⟩, rfl⟩, ?_, ?_⟩
  · have := (MapKept.heap_alloc (w.alloc (.map #[] 0)) (.cells #[.int .i64 M, .map (some w.heap.size)] 86)).1
    rw [hs1] at this
    exact this
  · refine (MapIs.made (P := Try.prog) (k := 9) w).at ?_
    exact (MapKept.heap_alloc (w.alloc (.map #[] 0)) _).2 _ (by omega)
  · rintro k (rfl | rfl | ⟨s, v, _, c, _⟩)
    · omega
    · exact Nat.le_refl _
    · cases c
  · exact ((Below.refl w.heap.size w).alloc (Nat.le_refl _) _).alloc (by simp) _

theorem own_shape {w : World} {D : Nat} {v : Value} {bs : List Bk} (h : BkOwn w D v bs) : ∃ va vc, v = .slice va bs.length vc ∧ bs.length ≤ vc ∧ vc ≤ maxLen := by
  rcases h.2 with ⟨rfl, h0⟩ | ⟨g, cap, cur, rfl, _, _, h1, h2, _⟩
  · exact ⟨none, 0, by rw [h0], by omega, by decide⟩
  · exact ⟨_, _, rfl, h1, h2⟩

/-- A piece of a series. -/
theorem cut_row {w : World} {D : Nat} {va : Option Addr} {n vc A E : Nat} {bs : List Bk} (h : BkOwn w D (.slice va n vc) bs) (hl : bs.length = n) (hAE : A ≤ E) (hE : E ≤ n) :
    CellRow w (.slice (Option.map (fun x => x.add (A * 6)) va) (E - A) (vc - A)) (E - A) (flat benc ((bs.take E).drop A)) := by
  cases va with
  | none =>
    rcases h.2 with ⟨h0, h1⟩ | ⟨g, cap, cur, h0, _⟩
    · have : (bs.take E).drop A = [] := List.drop_eq_nil_of_le (by rw [List.length_take]; omega)
      rw [this]
      exact ⟨_, _, rfl, .inl rfl⟩
    · cases h0
  | some a =>
    have ha : ∃ g, a = ⟨g, 0, none⟩ := by
      rcases h.2 with ⟨h0, _⟩ | ⟨g, cap, cur, h0, _⟩
      · cases h0
      · simp only [Value.slice.injEq, Option.some.injEq] at h0
        exact ⟨g, h0.1⟩
    obtain ⟨g, rfl⟩ := ha
    unfold BkOwn at h
    rw [hl] at h
    obtain ⟨_, _, _, _, _, hr⟩ := piece_of h hl A E hAE hE _ (fun _ => by show some (Addr.add ⟨g, 0, none⟩ (A * 6)) = _; rw [Addr.add_lit, Nat.zero_add])
    have hlen : ((bs.take E).drop A).length = E - A := by rw [List.length_drop, List.length_take]; omega
    rw [hlen] at hr
    exact hr

set_option maxHeartbeats 1600000 in
theorem between_any {D : Nat} (v : Value) (bs : List Bk) (f t : Int) (w : World) (h : BkOwn w D v bs) (hr : BRise bs) (hn : bs.length ≤ 5000) :
    Calls Try.prog 52 #[v, .int .i64 f, .int .i64 t] w fun e w' => ∃ u, e = .returned u ∧ BkRow w' u (bs.filter fun x => decide (f ≤ x.1) && decide (x.1 < t)) ∧ Below w.heap.size w w' := by
  rw [between_of hr f t]
  obtain ⟨va, vc, rfl, hvc, hvm⟩ := own_shape h
  have R := Hid.of h.row
  have H := Hid.of h
  have HR := Hid.of hr
  have hc1 := place_any _ bs f w R.out hr (by omega)
  have hA0 := sAt_le bs f
  have hE0 := sAt_le bs t
  obtain ⟨n, hbl⟩ : ∃ n, bs.length = n := ⟨_, rfl⟩
  rw [hbl] at hc1 H hvc hA0 hE0 hn R ⊢
  have BL := Hid.of hbl
  obtain ⟨A, hA⟩ : ∃ A, sAt bs f = A := ⟨_, rfl⟩
  obtain ⟨F0, hF0⟩ : ∃ A, sHas bs f = A := ⟨_, rfl⟩
  rw [hA] at hA0 ⊢
  rw [hA, hF0] at hc1
  obtain ⟨K, hK⟩ : ∃ A, sAt bs t = A := ⟨_, rfl⟩
  obtain ⟨F1, hF1⟩ : ∃ A, sHas bs t = A := ⟨_, rfl⟩
  have KF := Hid.of (And.intro hK hF1)
  obtain ⟨E, hE⟩ : ∃ E, max A K = E := ⟨_, rfl⟩
  rw [hK] at hE0 ⊢
  rw [hE]
  have EH := Hid.of hE
  clear hA hF0 h hr hbl hK hF1 hE
  go_enter Try.func52, Try.ntmps52
  go_wp2_with fail
  refine hc1.mono ?_
  rintro e w1 ⟨rfl, b1⟩
  have B1 := Hid.of b1
  have hc2 := place_any (.slice va n vc) bs t w1 (R.out.kept b1) HR.out (by rw [BL.out]; omega)
  rw [KF.out.1, KF.out.2] at hc2
  clear b1
  go_wp2_with fail
  refine hc2.mono ?_
  rintro e w2 ⟨rfl, b2⟩
  have B2 := Hid.of (B1.out.trans (b2.mono B1.out.size))
  clear b2
  have hE := EH.out
  have hEm : max (A : Int) (K : Int) = (E : Int) := by omega
  have hvm2 : vc ≤ 9223372036854775807 := by unfold maxLen at hvm; omega
  have hAE : A ≤ E := by omega
  have hEn : E ≤ n := by omega
  have hAE' : (A : Int) ≤ (E : Int) := by omega
  have hEv : (E : Int) ≤ (vc : Int) := by omega
  clear hE
  have hlen : ((bs.take E).drop A).length = E - A := by rw [List.length_drop, List.length_take, BL.out]; omega
  have HL := Hid.of hlen
  have EN := Hid.of (And.intro hAE hEn)
  clear hlen hAE hEn
  by_cases hAv : A < vc
  · have hAv' : (A : Int) < (vc : Int) := by omega
    go_wp2
    go_ret
    refine ⟨_, rfl, ?_, B2.out⟩
    have H2 : BkOwn w2 D (.slice va n vc) bs := own_at H.out (fun g hg => B2.out.block g (own_lt H.out hg))
    unfold BkRow
    rw [HL.out]
    exact cut_row H2 BL.out EN.out.1 EN.out.2
  · obtain rfl : A = vc := by have := EN.out; omega
    obtain rfl : E = A := by have := EN.out; omega
    go_wp2
    go_ret
    refine ⟨_, rfl, ?_, B2.out⟩
    have : (bs.take E).drop E = [] := List.drop_eq_nil_of_le (by rw [List.length_take]; omega)
    rw [this]
    exact ⟨_, _, rfl, .inl rfl⟩

end Go.Proofs.Ytnohmloilcpmiaa

namespace Go.Proofs.Ytnohmloilcpmiaa
open Go.RowKit Go.Lib

abbrev mT : Try.prog.underlying 84 = some (.map 9 93) := Try.underlying84
theorem series_zero (w : World) : (zeroValue 93).run Try.prog w = .ok (.slice none 0 0) w := by
  obtain ⟨i0, hi, hz0, hz1, hz2⟩ := info_parts (show (Try.prog.info? 93).map (fun i => (i.zero, i.size, i.bytes)) = some (some (.slice none 0 0), 1, 24) by kernel_rfl)
  simp [zeroValue, typeInfo, hi, hz0]

theorem TIs.look {w : World} {p b : Nat} {e : Int} {l : List TRec} {m : ByteArray → Option Value} (h : TIs w p e l b m) {s : ByteArray} (hs : s.size ≤ maxLen) :
    ∃ v, BkOwn w 0 v (ser l s) ∧ (m s).getD (.slice none 0 0) = v ∧ (Instr.lookup 84 (.map (some b)) (.string s) false).run Try.prog w = .ok v w :=
  ⟨_, h.row hs, rfl, h.map.look kT mT (series_zero w) hs⟩

set_option maxHeartbeats 1600000 in
theorem range_any {w : World} {p : Nat} {e : Int} {l : List TRec} {F : TFoot} (n : ByteArray) (f t : Int) (h : TRep w p e l F) (hl : l.length ≤ 1000) (hn2 : n.size ≤ 281474976710656) :
    Calls Try.prog 30 #[tptr p, .string n, .int .i64 f, .int .i64 t] w fun x w' => ∃ u, x = .returned u ∧ w'.ownsRow w.heap.size 47 7 u (tRange l n f t).length (flat renc ((tRange l n f t).map rl)) ∧ Below w.heap.size w w' := by
  have hn : n.size ≤ maxLen := by unfold maxLen; omega
  obtain ⟨b, m, h, -⟩ := h
  rw [tRange_ser]
  obtain ⟨v, hv, -, hlk⟩ := h.look hn
  have hbw := between_any v (ser l n) f t w hv (h.rise n) (Nat.le_trans (ser_le l n) (by omega))
  have hall := tall_any h
  have hlen := Nat.le_trans (List.length_filter_le (fun x : Bk => decide (f ≤ x.1) && decide (x.1 < t)) (ser l n)) (ser_le l n)
  obtain ⟨bs, hbs⟩ : ∃ bs, ((ser l n).filter fun x => decide (f ≤ x.1) && decide (x.1 < t)) = bs := ⟨_, rfl⟩
  rw [hbs] at hbw hlen ⊢
  clear h hv hbs hn
  go_enter Try.func30, Try.ntmps30
  go_wp2_with fail
  refine hall.mono ?_
  rintro x w1 ⟨rfl, rfl⟩
  go_wp2_with fail
  refine hbw.mono ?_
  rintro x w2 ⟨u, rfl, hu, b2⟩
  have B2 := Hid.of b2
  have U := Hid.of hu
  clear b2 hu
  go_wp2_with fail
  refine (Clone_any n w2 hn2).mono ?_
  rintro x w3 ⟨rfl, b3⟩
  have hrc := records_any u bs n w3 (U.out.kept b3) (by omega)
  have B3 := Hid.of (B2.out.trans (b3.mono B2.out.size))
  clear b3
  go_wp2_with fail
  refine hrc.mono ?_
  rintro x w4 ⟨u4, rfl, o4, b4⟩
  have B4 := Hid.of (B3.out.trans (b4.mono B3.out.size))
  have O4 := Hid.of (own_base o4 (D' := w1.heap.size) (fun g hg => Nat.le_trans B3.out.size (own_ge o4 hg)))
  clear b4 o4
  go_wp2
  go_ret
  exact ⟨_, rfl, by rw [sRecs_len]; exact O4.out, B4.out⟩

end Go.Proofs.Ytnohmloilcpmiaa

namespace Go.Proofs.Ytnohmloilcpmiaa
open Go.RowKit Go.Lib

theorem below_next {B r : Nat} {w0 w w' : World} (h : Below B w0 w) (g : w.grownBy w' (some r)) (hr : B ≤ r) (hB : B ≤ w.heap.size) : Below B w0 w' := h.grown g hB (fun j hj => by cases hj; exact hr)

/-- All that a table has is known to its map. -/
theorem TIs.some_of {w : World} {p b : Nat} {e : Int} {l : List TRec} {m : ByteArray → Option Value} (h : TIs w p e l b m) {x : TRec} (hx : x ∈ l) : x.n.size ≤ maxLen ∧ (m x.n).isSome = true := by
  have hs := (h.fit x hx).1
  obtain ⟨v, hv, _⟩ := h.some_ x.n hs (fun c => by
    have := mem_ser (l := l) (s := x.n) (b := (x.s, x.a)) |>.2 hx
    rw [c] at this
    exact absurd this List.not_mem_nil)
  exact ⟨hs, by rw [hv]; rfl⟩

set_option maxHeartbeats 1600000 in
set_option maxRecDepth 20000 in
theorem len_any {w : World} {p : Nat} {e : Int} {l : List TRec} {F : TFoot} (h : TRep w p e l F) (hl : l.length ≤ 1000) :
    Calls Try.prog 33 #[tptr p] w fun x w' => x = .returned (.int .i64 (l.length : Nat)) ∧ Below w.heap.size w w' := by
  obtain ⟨b, m, h, -⟩ := h
  have H := Hid.of h
  have hall := tall_any h
  have hm := h.map
  obtain ⟨n, hn⟩ : ∃ n, l.length = n := ⟨_, rfl⟩
  have LN := Hid.of hn
  rw [hn] at hm hl ⊢
  clear h hn
  go_enter Try.func33, Try.ntmps33
  go_wp2_with fail
  refine hall.mono ?_
  rintro x w1 ⟨rfl, rfl⟩
  go_wp2_with (first
    | (at_range; refine wpList_range_text _ rfl _ 84 rfl 9 93 kT mT b n m rfl hm ?_; intro w2 c0 hrg0 hc0 hg0 hs0)
    | go_in)
  go_frame
  have B0 := Hid.of ((Below.refl w1.heap.size w1).grown hg0 (Nat.le_refl _) (fun j hj => by cases hj))
  clear hg0 hs0 hm hall
  go_loopg [3] n (fun kx nv wr => ∃ (left : ByteArray → Bool) (cnt c : Nat), nv = .int .i64 c ∧ c ≤ n ∧ cnt ≤ kx ∧ Hid (RangeIs Try.prog 9 wr b w1.heap.size n m left cnt) ∧ Hid (Below w1.heap.size w1 wr) ∧ Hid (c = cntN l fun s => !left s) ∧ Hid (∀ s, left s = true → (m s).isSome = true))
  case atStart =>
    refine ⟨_, c0, 0, rfl, Nat.zero_le _, hc0, Hid.of hrg0, B0, Hid.of (cntN_none fun x hx => ?_).symm, Hid.of fun s hs => hs⟩
    rw [(H.out.some_of hx).2]
    rfl
  case round =>
    obtain ⟨left, cnt, c, rfl, hcn, hck, RG, HB, HC, HLm⟩ := hrel
    have hrg := RG.out
    go_wp2_with (first
      | (at_next; refine wpList_next_text _ rfl _ rfl 9 kT b w1.heap.size n m left cnt rfl hrg ?_ ?_)
      | go_in)
    · intro h0 hdone
      have : c = n := by
        rw [HC.out, cntN_all (fun x hx => by rw [hdone _ (H.out.some_of hx).1]; rfl)]
        exact LN.out
      subst this
      clear hdone h0 hrg
      go_wp2
      go_ret
      exact ⟨rfl, HB.out⟩
    · intro s v w3 cnt' hs hls hms hrg1 hlt hg1 hs1 hen
      have hv := (H.out.known hs hms).2.1
      obtain ⟨va, vc, rfl, -, -⟩ := own_shape hv
      have hstep := cntN_more (l := l) (p := fun s => !left s) (q := fun x => !(left x && !decide (x = s))) (s := s) (by simp [hls]) (fun x => by cases left x <;> simp)
      have hle := cntN_le l (fun x => !(left x && !decide (x = s)))
      obtain ⟨k, hk⟩ : ∃ k, (ser l s).length = k := ⟨_, rfl⟩
      rw [hk] at hen hstep
      rw [← HC.out] at hstep
      have ST := Hid.of hstep
      have RG1 := Hid.of hrg1
      have HB1 := Hid.of (below_next HB.out hg1 (Nat.le_refl _) HB.out.size)
      have hck' : c + k ≤ n := by have := LN.out; omega
      have LE : Hid (∀ x, (left x && !decide (x = s)) = true → (m x).isSome = true) := Hid.of fun x hx => HLm.out x (by simp at hx; exact hx.1)
      clear hstep hle hrg hrg1 hg1 hs1 hv hk hms hls
      go_wp2
      go_roundg cnt'
      case measure => omega
      case rel => exact ⟨_, cnt', c + k, by go_num, hck', Nat.le_refl _, RG1, HB1, Hid.of (by rw [ST.out]), LE⟩

end Go.Proofs.Ytnohmloilcpmiaa
