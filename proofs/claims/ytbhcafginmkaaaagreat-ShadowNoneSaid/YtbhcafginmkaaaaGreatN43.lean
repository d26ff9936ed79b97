/-
  A bundle of texts: TMF TMG TMH TMI TMJ TMK TMS TMR.
-/
import Derived.Shelf.SlIter.Collect
import Derived.Deep.RegionHeld3
import Derived.Test.YtbhcafginmkaaaaGreatN39
import Derived.Test.YtbhcafginmkaaaaGreatN33
import Derived.Test.YtbhcafginmkaaaaGreatN09
import Derived.Test.YtbhcafginmkaaaaGreatN16
import Derived.Test.YtbhcafginmkaaaaGreatN05
import Derived.Test.YtbhcafginmkaaaaGreatN37
import Derived.Test.YtbhcafginmkaaaaGreatN23
namespace Go.Proofs.YtbhcafginmkaaaaGreat
open Go.RowKit Go.Lib Go.Sort Go.Maps Go.Shelf Go.Proofs

def laysKeys_ren : Go.Shelf.Ren := ⟨fun | 7 => 269 | 10 => 291 | n => n, fun | 23 => 261 | 26 => 9 | 3 => 266 | 28 => 294 | 0 => 0 | 27 => 293 | 33 => 211 | 4 => 4 | n => n, fun | n => n⟩
theorem laysKeys : Go.Proofs.SlLaysZ.n7 Tryz.prog laysKeys_ren := {
  mixed := by kernel_rfl
  f7 := ⟨Tryz.f269.name, by decide, Tryz.func269.trans (congrArg some (by kernel_rfl))⟩
  f10 := ⟨Tryz.f291.name, by decide, Tryz.func291.trans (congrArg some (by kernel_rfl))⟩
  t0 := Tryz.underlying0
  a0 := Tryz.isAgg0
  z0 := Tryz.sizeOf0
  v0 := Tryz.zeroValue0
  t4 := Tryz.underlying4
  a4 := Tryz.isAgg4
  z4 := Tryz.sizeOf4
  v4 := Tryz.zeroValue4
  t23 := Tryz.underlying261
  a23 := Tryz.isAgg261
  z23 := Tryz.sizeOf261
  v23 := Tryz.zeroValue261
  t26 := Tryz.underlying9
  a26 := Tryz.isAgg9
  z26 := Tryz.sizeOf9
  v26 := Tryz.zeroValue9
  t27 := Tryz.underlying293
  a27 := Tryz.isAgg293
  z27 := Tryz.sizeOf293
  v27 := Tryz.zeroValue293
  t28 := Tryz.underlying294
  a28 := Tryz.isAgg294
  z28 := Tryz.sizeOf294
  v28 := Tryz.zeroValue294
  t33 := Tryz.underlying211
  a33 := Tryz.isAgg211
  z33 := Tryz.sizeOf211
  v33 := Tryz.zeroValue211 }
def laysCollect_ren : Go.Shelf.Ren := ⟨fun | 8 => 268 | 11 => 290 | n => n, fun | 26 => 9 | 28 => 294 | 24 => 241 | 0 => 0 | 33 => 211 | 4 => 4 | n => n, fun | n => n⟩
theorem laysCollect : Go.Proofs.SlLaysZ.n8 Tryz.prog laysCollect_ren := {
  mixed := by kernel_rfl
  f8 := ⟨Tryz.f268.name, by decide, Tryz.func268.trans (congrArg some (by kernel_rfl))⟩
  f11 := ⟨Tryz.f290.name, by decide, Tryz.func290.trans (congrArg some (by kernel_rfl))⟩
  t0 := Tryz.underlying0
  a0 := Tryz.isAgg0
  z0 := Tryz.sizeOf0
  v0 := Tryz.zeroValue0
  t24 := Tryz.underlying241
  a24 := Tryz.isAgg241
  z24 := Tryz.sizeOf241
  v24 := Tryz.zeroValue241
  t26 := Tryz.underlying9
  a26 := Tryz.isAgg9
  z26 := Tryz.sizeOf9
  v26 := Tryz.zeroValue9
  t28 := Tryz.underlying294
  a28 := Tryz.isAgg294
  z28 := Tryz.sizeOf294
  v28 := Tryz.zeroValue294
  i26 := by kernel_rfl }

theorem mem_strKeys {P : Program} {k : TypeId} {R : Value → Option (DataW Value × List MemPlace)} {w : World} {b n : Nat} {D : DataW Value} (h : w.ownsMap P k R b n D) (hk : P.underlying k = some .string) (x : List UInt8) : x ∈ strKeys D ↔ Maps.has D (.string x) = true := by
  obtain ⟨es, clock, hb, F, hs, rfl⟩ := h
  have key : ∀ p ∈ (es.toList.map (WideElems.rg P k R)).foldr DataW.insert [], ∃ s : ByteArray, p.1 = sk s := fun p hp => by
    obtain ⟨y, hy, rfl⟩ := List.mem_map.1 (mem_sorted.1 hp)
    obtain ⟨z, hz⟩ := F.reads y hy
    obtain ⟨s, _, e2, _⟩ := WideMaps.string_of_keyOf hk (WideElems.rd_key hz)
    exact ⟨s, by rw [WideElems.rg_of hz]; exact e2⟩
  show x ∈ List.map (fun p : Lit × DataW Value => strOf p.1) _ ↔ _
  rw [List.mem_map, Maps.has_eq, List.any_eq_true]
  constructor
  · rintro ⟨p, hp, rfl⟩
    obtain ⟨s, e⟩ := key p hp
    exact ⟨p, hp, by rw [e]; exact WideAt.sameKey_self (sk_key s)⟩
  · rintro ⟨p, hp, e⟩
    exact ⟨p, hp, by rw [WideAt.sameKey_eq e]; rfl⟩

theorem own_cells_row {w : World} {D : Nat} {e : TypeId} {sz : Nat} {v : Value} {n : Nat} {xs : List Value} (h : w.ownsRow D e sz v n xs) (hl : xs.length = n * sz) : CellRow w v n xs := by
  rcases h.2 with ⟨rfl, h0⟩ | ⟨g, cap, cur, rfl, _, hr, _⟩
  · subst h0
    exact ⟨none, 0, rfl, .inl (List.length_eq_zero_iff.1 (by rw [hl]; omega))⟩
  · have hlt := (Array.getElem?_eq_some_iff.1 hr).1
    refine ⟨_, _, rfl, .inr ⟨g, 0, rfl, hlt, fun j u hj => ?_⟩⟩
    have hl2 := (List.getElem?_eq_some_iff.1 hj).1
    rw [Nat.zero_add, World.ownsRow.cellAt h j (by omega)]
    exact hj

theorem tnOk_le {s : ByteArray} (h : nOk s = true) : s.size ≤ 15 := by
  unfold nOk at h
  simp only [Bool.and_eq_true, decide_eq_true_eq] at h
  exact h.1.2

theorem TIs.name_le {w : World} {p b : Nat} {e : Int} {l : List TRec} {m : ByteArray → Option Value} (h : TIs w p e l b m) {x : TRec} (hx : x ∈ l) : x.n.size ≤ 15 := by
  have h1 := h.ok x hx
  unfold tOk at h1
  simp only [Bool.and_eq_true] at h1
  exact tnOk_le h1.1.1.1

theorem TIs.in_names {w : World} {p b : Nat} {e : Int} {l : List TRec} {m : ByteArray → Option Value} (h : TIs w p e l b m) {s : ByteArray} (hs : s.size ≤ maxLen) : (m s).isSome = true ↔ s ∈ l.map (·.n) := by
  rw [List.mem_map]
  constructor
  · intro c
    obtain ⟨v, hv⟩ := Option.isSome_iff_exists.1 c
    have hne := (h.known hs hv).1
    obtain ⟨y, hy⟩ := List.exists_mem_of_ne_nil _ hne
    exact ⟨_, mem_ser.1 hy, rfl⟩
  · rintro ⟨x, hx, rfl⟩
    exact (h.some_of hx).2

set_option maxHeartbeats 1600000 in
/-- slices.Collect(maps.Keys(m)). -/
theorem keys_any {w : World} {p b : Nat} {e : Int} {l : List TRec} {m : ByteArray → Option Value} (h : TIs w p e l b m) (hl : l.length ≤ 1000) :
    Calls Tryz.prog 269 #[.map (some b)] w (fun x w' => x = .returned (.func (.func 291) #[] #[.pointer (some ⟨w.heap.size, 0, none⟩)]) ∧ w' = w.alloc (.cells #[.map (some b)] 261)) ∧
    Calls Tryz.prog 268 #[.func (.func 291) #[] #[.pointer (some ⟨w.heap.size, 0, none⟩)]] (w.alloc (.cells #[.map (some b)] 261)) fun x w' =>
      ∃ (v : Value) (ts : List ByteArray), x = .returned v ∧ CellRow w' v ts.length (ts.map Value.string) ∧ ts.length ≤ 1000 ∧ (∀ s, s ∈ ts ↔ s ∈ l.map (·.n)) ∧ Below w.heap.size w w' := by
  refine ⟨callsIn_wide.1 (AnyZ.keys_in (ρ := laysKeys_ren) laysKeys Fence.wide 5 trivial rfl (some b) w), ?_⟩
  obtain ⟨D0, hown, hkn⟩ := h.map
  have hbl := hown.lt
  have hsz := hown.size_le
  have hseq : SeqGives Fence.wide 2 Tryz.prog 291 #[.pointer (some ⟨w.heap.size, 0, none⟩)] encStr (fun ss => ss.Perm (strKeys D0)) (Maps.size D0) (w.alloc (.cells #[.map (some b)] 261)) :=
    AnyZ.keys_gives (ρ := laysKeys_ren) { laysKeys with } Fence.wide _ trivial rfl (by omega) w.heap.size b l.length D0 _ (by simp) (by simp) (by
      obtain ⟨es, clock, hb, Ft, hs, hD⟩ := hown
      exact ⟨es, clock, (Below.heap_alloc _ _ b hbl).trans hb, Ft, hs, hD⟩)
  have hc := callsIn_wide.1 (AnyZ.collect_in (ρ := laysCollect_ren) laysCollect Fence.wide 4 trivial trivial rfl (by omega) 291 #[.pointer (some ⟨w.heap.size, 0, none⟩)] trivial (enters_of Tryz.func291 (by kernel_rfl) rfl) _ _ (by unfold maxLen; omega) (by omega) _ hseq)
  refine hc.mono ?_
  rintro x w' ⟨v, ss, rfl, hp, hrow, -, hb⟩
  have hlen : ss.length = Maps.size D0 := by
    rw [hp.length_eq]
    obtain ⟨es, clock, _, _, _, rfl⟩ := hown
    exact List.length_map ..
  refine ⟨v, ss.map fun x => ⟨x.toArray⟩, rfl, ?_, by rw [List.length_map]; omega, fun s => ?_, ((Below.refl _ w).alloc (Nat.le_refl _) _).trans (hb.mono (by simp))⟩
  · rw [List.length_map, List.map_map]
    exact own_cells_row hrow (by rw [List.length_map, Nat.mul_one])
  · have h1 : s ∈ ss.map (fun x => (⟨x.toArray⟩ : ByteArray)) ↔ s.data.toList ∈ strKeys D0 := by
      rw [← hp.mem_iff, List.mem_map]
      constructor
      · rintro ⟨y, hy, rfl⟩
        simpa using hy
      · intro c
        exact ⟨_, c, by simp⟩
    rw [h1]
    constructor
    · intro c
      have hs : s.size ≤ maxLen := by simpa using strKeys_le hown kT _ c
      have hh := (mem_strKeys hown kT _).1 c
      have h2 := hkn.has hs
      exact (h.in_names hs).1 (by rw [← h2]; exact hh)
    · intro c
      obtain ⟨y, hy, rfl⟩ := List.mem_map.1 c
      obtain ⟨hs, hsome⟩ := h.some_of hy
      exact (mem_strKeys hown kT _).2 (by rw [← hsome]; exact hkn.has hs)

set_option maxHeartbeats 1600000 in
theorem names_any {w : World} {p : Nat} {e : Int} {l : List TRec} {F : TFoot} (h : TRep w p e l F) (hl : l.length ≤ 1000) :
    Calls Tryz.prog 233 #[tptr p] w fun x w' => ∃ u, x = .returned u ∧ w'.ownsRow w.heap.size 9 1 u (tNames l).length ((tNames l).map Value.string) ∧ Below w.heap.size w w' := by
  obtain ⟨b, m, h, -⟩ := h
  have hall := tall_any h
  obtain ⟨hk1, hk2⟩ := keys_any h hl
  have HNL : Hid (∀ x ∈ l, x.n.size ≤ 15) := Hid.of fun x hx => h.name_le hx
  clear h hl
  go_enter Tryz.func233, Tryz.ntmps233
  go_wp2_with fail
  refine hall.mono ?_
  rintro x w1 ⟨rfl, rfl⟩
  go_wp2_with fail
  refine hk1.mono ?_
  rintro x w2 ⟨rfl, rfl⟩
  go_wp2_with fail
  refine hk2.mono ?_
  rintro x w3 ⟨v, ts, rfl, hrow, hlen, hmem, b3⟩
  have hor := order_any v ts w3 hrow hlen (fun s hs => by
    obtain ⟨x, hx, rfl⟩ := List.mem_map.1 ((hmem s).1 hs)
    have := HNL.out x hx
    omega)
  have e1 : nOrder ts = tNames l := nOrder_of (nOrder_props ts).1 (fun s => by rw [(nOrder_props ts).2 s]; exact hmem s)
  rw [e1] at hor
  have B3 := Hid.of b3
  obtain ⟨ns, hns⟩ : ∃ ns, tNames l = ns := ⟨_, rfl⟩
  rw [hns] at hor
  have NS := Hid.of hns
  clear b3 hmem hlen hrow e1 hns hk1 hk2 hall
  go_wp2_with fail
  refine hor.mono ?_
  rintro x w4 ⟨u, rfl, o4, b4⟩
  have B4 := Hid.of (B3.out.trans (b4.mono B3.out.size))
  have O4 := Hid.of (own_base o4 (D' := w1.heap.size) (fun g hg => Nat.le_trans B3.out.size (own_ge o4 hg)))
  clear b4 o4 hor
  go_wp2
  go_ret
  exact ⟨_, rfl, by rw [NS.out]; exact O4.out, B4.out⟩

end Go.Proofs.YtbhcafginmkaaaaGreat

namespace Go.Proofs.YtbhcafginmkaaaaGreat
open Go.RowKit Go.Lib

theorem recs_len {l : List TRec} (h : TSorted l) (ss : List ByteArray) (hr : Rising ss) : (ss.flatMap fun s => sRecs s (ser l s)).length ≤ l.length := by
  rw [recs_of h ss hr]
  exact List.length_filter_le ..

theorem renc_ones (l : List RecL) : ∀ u ∈ flat renc l, u.oneCell' = true := fun u hu => by
  unfold flat at hu
  obtain ⟨x, _, hx⟩ := List.mem_flatMap.1 hu
  exact renc_one x u hx

set_option maxHeartbeats 3200000 in
set_option maxRecDepth 20000 in
theorem recs_any {w : World} {p b : Nat} {e : Int} {l : List TRec} {m : ByteArray → Option Value} (v : Value) (ss : List ByteArray) (h : TIs w p e l b m) (hl : l.length ≤ 1000) (hv : CellRow w v ss.length (ss.map Value.string)) (hr : Rising ss) (hs : ∀ s ∈ ss, s.size ≤ maxLen) (hn : ss.length ≤ 1000) :
    Calls Tryz.prog 232 #[tptr p, v] w fun x w' => ∃ u, x = .returned u ∧ w'.ownsRow w.heap.size 102 7 u (l.filter fun x => ss.any fun s => decide (x.n = s)).length (flat renc ((l.filter fun x => ss.any fun s => decide (x.n = s)).map rl)) ∧ Below w.heap.size w w' := by
  rw [← recs_of h.sorted ss hr]
  obtain ⟨i0, hi0, hz0, hz1, hz2⟩ := info_parts rec_info
  have HI := Hid.of hi0
  have HZ0 := Hid.of hz0
  have HZ1 := Hid.of hz1
  have HZ2 := Hid.of hz2
  clear hi0 hz0 hz1 hz2
  have H := Hid.of h
  have HS := Hid.of hs
  have HL := Hid.of hl
  have HLEN : Hid (∀ j, ((ss.take j).flatMap fun s => sRecs s (ser l s)).length ≤ 1000) := Hid.of fun j => Nat.le_trans (recs_len h.sorted (ss.take j) (List.Pairwise.sublist (List.take_sublist ..) hr)) hl
  have HV : Hid (CellRow w v ss.length (ss.map Value.string)) := Hid.of hv
  obtain ⟨va, vc, rfl, -⟩ := hv
  obtain ⟨n, hbl⟩ : ∃ n, ss.length = n := ⟨_, rfl⟩
  rw [hbl] at HV hn ⊢
  have BL := Hid.of hbl
  clear hbl hr hs h hl
  go_enter Tryz.func232, Tryz.ntmps232
  go_wp2
  go_loopg [5, 10] n (fun kx av iv wr => ∃ (j : Nat) (u : Value), u = av ∧ iv = .int .i64 j ∧ j ≤ n ∧ n - j ≤ kx ∧ Hid (wr.ownsRow w.heap.size 102 7 u ((ss.take j).flatMap fun s => sRecs s (ser l s)).length (flat renc (((ss.take j).flatMap fun s => sRecs s (ser l s)).map rl))) ∧ Hid (Below w.heap.size w wr))
  case atStart => exact ⟨0, _, rfl, rfl, Nat.zero_le _, Nat.le_refl _, Hid.of (World.ownsRow_nil _ _ _ _), Hid.of (Below.refl _ _)⟩
  case round =>
    obtain ⟨j, u, rfl, rfl, hjn, hkx, HU, HB⟩ := hrel
    by_cases hlt : (j : Int) < (n : Int)
    · obtain ⟨s, hss⟩ : ∃ s, ss[j]? = some s := ⟨_, List.getElem?_eq_getElem (by have := BL.out; omega)⟩
      have HSJ := Hid.of hss
      obtain ⟨b1, o1, rfl, hl1, hc1⟩ := (HV.out.kept HB.out).at j (.string s) (by rw [List.getElem?_map, hss]; rfl)
      have d1 : wr.cell? ⟨b1, o1 + j, none⟩ = some (.string s) := hc1
      have hT := H.out.below HB.out
      have c1 := hT.c1
      have hsz := HS.out s (List.mem_of_getElem? hss)
      obtain ⟨x, hx, -, hlk⟩ := hT.look hsz
      have hrc := records_any x (ser l s) s wr hx.row (by have h2 := recs_len H.out.sorted [s] (List.pairwise_singleton _ _); have h3 := ser_le l s; have h4 := HL.out; omega)
      have hsl := sRecs_len s (ser l s)
      have HT : Hid (((ss.take (j + 1)).flatMap fun s => sRecs s (ser l s)) = ((ss.take j).flatMap fun s => sRecs s (ser l s)) ++ sRecs s (ser l s)) := Hid.of (by
        rw [List.take_succ_eq_append_getElem (by have := BL.out; omega), (List.getElem?_eq_some_iff.1 hss).2, List.flatMap_append]
        simp)
      obtain ⟨rs, hrs⟩ : ∃ rs, sRecs s (ser l s) = rs := ⟨_, rfl⟩
      have hlen2 := HLEN.out (j + 1)
      rw [HT.out, List.length_append, hrs] at hlen2
      rw [hrs] at hrc hsl HT
      rw [← hsl] at hrc
      obtain ⟨acc, hacc⟩ : ∃ acc, ((ss.take j).flatMap fun s => sRecs s (ser l s)) = acc := ⟨_, rfl⟩
      rw [hacc] at hlen2 HU HT
      obtain ⟨an, han⟩ : ∃ an, acc.length = an := ⟨_, rfl⟩
      obtain ⟨rn, hrn⟩ : ∃ rn, rs.length = rn := ⟨_, rfl⟩
      rw [han] at hlen2 HU
      rw [hrn] at hlen2 hrc
      have RN := Hid.of hrn
      have AN := Hid.of han
      have hj0 : (0 : Int) ≤ (j : Int) := by omega
      have HJN : Hid (j < n) := Hid.of (by omega)
      clear hss hc1 hl1 hsl hrs hx hT hacc han hrn hsz
      go_wp2_with fail
      refine hrc.mono ?_
      rintro e2 w2 ⟨u2, rfl, o2, b2⟩
      have O2 := Hid.of (own_cells_row o2 (by rw [flat_length renc_len, List.length_map, RN.out]))
      have HU2 := Hid.of (own_at HU.out (w' := w2) (fun g hg => b2.block g (own_lt HU.out hg)))
      have HB2 := Hid.of (HB.out.trans (b2.mono HB.out.size))
      clear b2 o2 hrc
      go_wp2_with (at_builtin; refine append_row_law rfl _ _ 91 rfl w.heap.size 102 i0 (.agg #[.string ⟨#[]⟩, .int .i64 0, .int .i64 0, .int .i64 0, .int .u64 0, .int .i64 0, .int .i64 0]) 7 64 Tryz.underlying91 HI.out HZ0.out HZ1.out HZ2.out rfl (by decide) u an _ rfl HU2.out u2 rn _ rfl O2.out (by rw [flat_length renc_len, List.length_map, RN.out]) (renc_ones _) (by unfold maxLen; omega) (by omega) HB2.out.size ?_; intro v1 w3 o3 g3)
      go_roundg (n - (j + 1))
      case measure => have := HJN.out; omega
      case rel =>
        refine ⟨j + 1, v1, rfl, by go_num, HJN.out, Nat.le_refl _, Hid.of ?_, Hid.of (HB2.out.grown g3 HB2.out.size (fun k hk => own_ge HU2.out hk))⟩
        rw [HT.out, List.length_append, AN.out, RN.out, List.map_append, flat_append]
        exact o3
    · obtain rfl : j = n := by omega
      go_wp2
      go_ret
      refine ⟨_, rfl, ?_, HB.out⟩
      have := HU.out
      rw [List.take_of_length_le (by rw [BL.out]; exact Nat.le_refl _), List.length_flatMap] at this
      exact this

theorem mem_tNames {l : List TRec} {s : ByteArray} : s ∈ tNames l ↔ ∃ x ∈ l, x.n = s := by
  unfold tNames
  rw [(nOrder_props _).2 s, List.mem_map]

theorem filter_names (l : List TRec) (q : ByteArray → Bool) : (l.filter fun x => ((tNames l).filter q).any fun s => decide (x.n = s)) = l.filter fun x => q x.n := by
  refine List.filter_congr fun x hx => ?_
  rw [Bool.eq_iff_iff, List.any_eq_true]
  constructor
  · rintro ⟨s, hs, e⟩
    rw [of_decide_eq_true e]
    exact (List.mem_filter.1 hs).2
  · intro c
    exact ⟨x.n, List.mem_filter.2 ⟨mem_tNames.2 ⟨x, hx, rfl⟩, c⟩, decide_eq_true rfl⟩

theorem tNames_len (l : List TRec) : (tNames l).length ≤ l.length := by
  have h := nodup_le (xs := tNames l) (ys := l.map (·.n)) ((nOrder_props (l.map (·.n))).1.imp fun {a b} h c => by rw [c] at h; exact nLt_irrefl _ h) (fun x hx => by
    obtain ⟨y, hy, rfl⟩ := mem_tNames.1 hx
    exact List.mem_map.2 ⟨y, hy, rfl⟩)
  rwa [List.length_map] at h

set_option maxHeartbeats 1600000 in
theorem allRecs_any {w : World} {p : Nat} {e : Int} {l : List TRec} {F : TFoot} (h : TRep w p e l F) (hl : l.length ≤ 1000) :
    Calls Tryz.prog 149 #[tptr p] w fun x w' => ∃ u, x = .returned u ∧ w'.ownsRow w.heap.size 102 7 u l.length (flat renc (l.map rl)) ∧ Below w.heap.size w w' := by
  have hnm := names_any h hl
  obtain ⟨b, m, h, -⟩ := h
  have H := Hid.of h
  have HL := Hid.of hl
  clear h hl
  go_enter Tryz.func149, Tryz.ntmps149
  go_wp2_with fail
  refine hnm.mono ?_
  rintro x w1 ⟨u, rfl, o1, b1⟩
  have hT := H.out.below b1
  have hrc := recs_any u (tNames l) hT HL.out (own_cells_row o1 (by rw [List.length_map, Nat.mul_one])) (nOrder_props _).1 (fun s hs => by
    obtain ⟨x, hx, rfl⟩ := mem_tNames.1 hs
    exact (H.out.fit x hx).1) (Nat.le_trans (tNames_len l) HL.out)
  have ef := filter_names l (fun _ => true)
  rw [List.filter_eq_self.2 (fun _ _ => rfl), List.filter_eq_self.2 (fun _ _ => rfl)] at ef
  rw [ef] at hrc
  have B1 := Hid.of b1
  clear b1 o1 hT ef hnm
  go_wp2_with fail
  refine hrc.mono ?_
  rintro x w2 ⟨u2, rfl, o2, b2⟩
  have B2 := Hid.of (B1.out.trans (b2.mono B1.out.size))
  have O2 := Hid.of (own_base o2 (D' := w.heap.size) (fun g hg => Nat.le_trans B1.out.size (own_ge o2 hg)))
  clear b2 o2 hrc
  go_wp2
  go_ret
  exact ⟨_, rfl, O2.out, B2.out⟩

set_option maxHeartbeats 3200000 in
set_option maxRecDepth 20000 in
theorem namesOf_any {w : World} {p : Nat} {e : Int} {l : List TRec} {F : TFoot} (k n : Int) (h : TRep w p e l F) (hl : l.length ≤ 1000) :
    Calls Tryz.prog 309 #[tptr p, .int .i64 k, .int .i64 n] w fun x w' => ∃ u, x = .returned u ∧ w'.ownsRow w.heap.size 9 1 u ((tNames l).filter fun s => decide (nShard s n = k)).length (((tNames l).filter fun s => decide (nShard s n = k)).map Value.string) ∧ Below w.heap.size w w' := by
  have hnm := names_any h hl
  have HSZ : Hid (∀ s ∈ tNames l, s.size ≤ maxLen) := Hid.of (by
    obtain ⟨b, m, h, -⟩ := h
    intro s hs
    obtain ⟨x, hx, rfl⟩ := mem_tNames.1 hs
    exact (h.fit x hx).1)
  have hNL := Nat.le_trans (tNames_len l) hl
  obtain ⟨ns, hns⟩ : ∃ ns, tNames l = ns := ⟨_, rfl⟩
  rw [hns] at hnm HSZ hNL ⊢
  obtain ⟨i0, hi0, hz0, hz1, hz2⟩ := info_parts (show (Tryz.prog.info? 9).map (fun i => (i.zero, i.size, i.bytes)) = some (some (.string ⟨#[]⟩), 1, 16) by kernel_rfl)
  have HI := Hid.of hi0
  have HZ0 := Hid.of hz0
  have HZ1 := Hid.of hz1
  have HZ2 := Hid.of hz2
  obtain ⟨N, hN⟩ : ∃ N, ns.length = N := ⟨_, rfl⟩
  rw [hN] at hnm hNL
  have BL := Hid.of hN
  clear hi0 hz0 hz1 hz2 h hl hns hN
  go_enter Tryz.func309, Tryz.ntmps309
  go_wp2_with fail
  refine hnm.mono ?_
  rintro x w1 ⟨v, rfl, o1, b1⟩
  have HV := Hid.of (own_cells_row o1 (by rw [List.length_map, BL.out, Nat.mul_one]))
  obtain ⟨va, vc, rfl, -⟩ := HV.out
  have B1 := Hid.of b1
  clear o1 b1 hnm
  go_wp2
  go_loopg [7, 13] N (fun kx av iv wr => ∃ (j : Nat) (u : Value), u = av ∧ iv = .int .i64 j ∧ j ≤ N ∧ N - j ≤ kx ∧ Hid (wr.ownsRow w1.heap.size 9 1 u ((ns.take j).filter fun s => decide (nShard s n = k)).length (((ns.take j).filter fun s => decide (nShard s n = k)).map Value.string)) ∧ Hid (Below w.heap.size w wr) ∧ Hid (Below w1.heap.size w1 wr))
  case atStart => exact ⟨0, _, rfl, rfl, Nat.zero_le _, Nat.le_refl _, Hid.of (World.ownsRow_nil _ _ _ _), B1, Hid.of (Below.refl _ _)⟩
  case round =>
    obtain ⟨j, u, rfl, rfl, hjn, hkx, HU, HB, HB1⟩ := hrel
    by_cases hlt : (j : Int) < (N : Int)
    · obtain ⟨s, hss⟩ : ∃ s, ns[j]? = some s := ⟨_, List.getElem?_eq_getElem (by have := BL.out; omega)⟩
      obtain ⟨b1, o1, rfl, hl1, hc1⟩ := (HV.out.kept HB1.out).at j (.string s) (by rw [List.getElem?_map, hss]; rfl)
      have d1 : wr.cell? ⟨b1, o1 + j, none⟩ = some (.string s) := hc1
      have hsz := HSZ.out s (List.mem_of_getElem? hss)
      have HT : Hid ((ns.take (j + 1)).filter (fun s => decide (nShard s n = k)) = (ns.take j).filter (fun s => decide (nShard s n = k)) ++ if nShard s n = k then [s] else []) := Hid.of (by
        rw [List.take_succ_eq_append_getElem (by have := BL.out; omega), (List.getElem?_eq_some_iff.1 hss).2, List.filter_append]
        congr 1
        rw [List.filter_cons]
        by_cases c : nShard s n = k
        · rw [if_pos (decide_eq_true c), if_pos c]; rfl
        · rw [if_neg (by simpa using c), if_neg c]; rfl)
      obtain ⟨acc, hacc⟩ : ∃ acc, (ns.take j).filter (fun s => decide (nShard s n = k)) = acc := ⟨_, rfl⟩
      have hal : acc.length ≤ j := by rw [← hacc]; exact Nat.le_trans (List.length_filter_le ..) (by rw [List.length_take]; omega)
      rw [hacc] at HU HT
      obtain ⟨an, han⟩ : ∃ an, acc.length = an := ⟨_, rfl⟩
      rw [han] at hal HU
      have AN := Hid.of han
      have hj0 : (0 : Int) ≤ (j : Int) := by omega
      have HJN : Hid (j < N) := Hid.of (by omega)
      have hsh := (shard_any s hsz n wr).mono (R' := fun e w' => e = .returned (.int .i64 (nShard s n)) ∧ Below wr.heap.size wr w') (by rintro e w' ⟨rfl, q, rfl⟩; exact ⟨rfl, below_drewN (Below.refl _ _) q⟩)
      obtain ⟨kk, hkk⟩ : ∃ kk, nShard s n = kk := ⟨_, rfl⟩
      rw [hkk] at hsh HT
      clear hss hc1 hl1 hacc han hsz hkk
      by_cases hk : kk = k
      · subst hk
        rw [if_pos rfl] at HT
        go_wp2_with fail
        refine hsh.mono ?_
        rintro e w2 ⟨rfl, b2⟩
        have HU2 := Hid.of (own_at HU.out (w' := w2) (fun g hg => b2.block g (own_lt HU.out hg)))
        have HB2 := Hid.of (HB.out.trans (b2.mono HB.out.size))
        have HB12 := Hid.of (HB1.out.trans (b2.mono HB1.out.size))
        clear b2 hsh
        go_wp2_with (at_builtin; refine append_row_law rfl _ _ 241 rfl w1.heap.size 9 i0 (.string ⟨#[]⟩) 1 16 Tryz.underlying241 HI.out HZ0.out HZ1.out HZ2.out rfl (by decide) u an _ rfl (HU2.out.alloc _) (.slice (some ⟨w2.heap.size, 0, none⟩) 1 1) 1 [.string s] (by go_num) ⟨_, _, rfl, .inr ⟨_, 0, rfl, by simp, new_cells w2 _ _⟩⟩ rfl (by simp [Value.oneCell']) (by unfold maxLen; omega) (by omega) (by simp; have := HB12.out.size; omega) ?_; intro v1 w3 o3 g3)
        go_roundg (N - (j + 1))
        case measure => have := HJN.out; omega
        case rel =>
          refine ⟨j + 1, v1, rfl, by go_num, HJN.out, Nat.le_refl _, Hid.of ?_, Hid.of ((HB2.out.alloc HB2.out.size _).grown g3 (by have := HB2.out.size; simp; omega) (fun q hq => Nat.le_trans B1.out.size (own_ge HU2.out hq))), Hid.of ((HB12.out.alloc HB12.out.size _).grown g3 (by have := HB12.out.size; simp; omega) (fun q hq => own_ge HU2.out hq))⟩
          rw [HT.out, List.length_append, AN.out, List.map_append]
          exact o3
      · rw [if_neg hk] at HT
        go_wp2_with fail
        refine hsh.mono ?_
        rintro e w2 ⟨rfl, b2⟩
        have HU2 := Hid.of (own_at HU.out (w' := w2) (fun g hg => b2.block g (own_lt HU.out hg)))
        have HB2 := Hid.of (HB.out.trans (b2.mono HB.out.size))
        have HB12 := Hid.of (HB1.out.trans (b2.mono HB1.out.size))
        clear b2 hsh
        go_wp2
        go_roundg (N - (j + 1))
        case measure => have := HJN.out; omega
        case rel =>
          refine ⟨j + 1, u, rfl, by go_num, HJN.out, Nat.le_refl _, Hid.of ?_, HB2, HB12⟩
          rw [HT.out, List.append_nil, AN.out]
          exact HU2.out
    · obtain rfl : j = N := by omega
      go_wp2
      go_ret
      refine ⟨_, rfl, ?_, HB.out⟩
      have := own_base HU.out (D' := w.heap.size) (fun g hg => Nat.le_trans B1.out.size (own_ge HU.out hg))
      rw [List.take_of_length_le (by rw [BL.out]; exact Nat.le_refl _)] at this
      exact this

end Go.Proofs.YtbhcafginmkaaaaGreat

namespace Go.Proofs.YtbhcafginmkaaaaGreat
open Go.RowKit Go.Lib

/-- The names of a shard. -/
def shNames (l : List TRec) (k n : Int) : List ByteArray := (tNames l).filter fun s => decide (nShard s n = k)

theorem shNames_rise (l : List TRec) (k n : Int) : Rising (shNames l k n) := List.Pairwise.filter _ (nOrder_props _).1
theorem shNames_mem {l : List TRec} {k n : Int} {s : ByteArray} : s ∈ shNames l k n ↔ (∃ x ∈ l, x.n = s) ∧ nShard s n = k := by
  unfold shNames
  rw [List.mem_filter, mem_tNames, decide_eq_true_eq]
theorem shNames_len (l : List TRec) (k n : Int) : (shNames l k n).length ≤ l.length := Nat.le_trans (List.length_filter_le ..) (tNames_len l)

set_option maxHeartbeats 1600000 in
theorem tshard_any {w : World} {p : Nat} {e : Int} {l : List TRec} {F : TFoot} (k n : Int) (h : TRep w p e l F) (hl : l.length ≤ 1000) :
    Calls Tryz.prog 285 #[tptr p, .int .i64 k, .int .i64 n] w fun x w' => ∃ u, x = .returned u ∧ w'.ownsRow w.heap.size 102 7 u (tShard l k n).length (flat renc ((tShard l k n).map rl)) ∧ Below w.heap.size w w' := by
  have hnm := namesOf_any k n h hl
  obtain ⟨b, m, h, -⟩ := h
  have H := Hid.of h
  have HL := Hid.of hl
  clear h hl
  go_enter Tryz.func285, Tryz.ntmps285
  go_wp2_with fail
  refine hnm.mono ?_
  rintro x w1 ⟨u, rfl, o1, b1⟩
  have hT := H.out.below b1
  have hrc := recs_any u (shNames l k n) hT HL.out (own_cells_row o1 (by rw [List.length_map, Nat.mul_one])) (shNames_rise l k n) (fun s hs => by
    obtain ⟨⟨x, hx, rfl⟩, _⟩ := shNames_mem.1 hs
    exact (H.out.fit x hx).1) (Nat.le_trans (shNames_len l k n) HL.out)
  rw [show (l.filter fun x => (shNames l k n).any fun s => decide (x.n = s)) = tShard l k n from filter_names l _] at hrc
  obtain ⟨rs, hrs⟩ : ∃ rs, tShard l k n = rs := ⟨_, rfl⟩
  rw [hrs] at hrc
  have RS := Hid.of hrs
  have B1 := Hid.of b1
  clear b1 o1 hT hnm hrs
  go_wp2_with fail
  refine hrc.mono ?_
  rintro x w2 ⟨u2, rfl, o2, b2⟩
  have B2 := Hid.of (B1.out.trans (b2.mono B1.out.size))
  have O2 := Hid.of (own_base o2 (D' := w.heap.size) (fun g hg => Nat.le_trans B1.out.size (own_ge o2 hg)))
  clear b2 o2 hrc
  go_wp2
  go_ret
  exact ⟨_, rfl, by rw [RS.out]; exact O2.out, B2.out⟩

end Go.Proofs.YtbhcafginmkaaaaGreat

namespace Go.Proofs.YtbhcafginmkaaaaGreat
open Go.RowKit Go.Lib

section
variable {w w' : World} {p b n : Nat} {e : Int} {l l' : List TRec} {m m' : ByteArray → Option Value}

/-- A table from its parts; the map's bound is whatever is at hand. -/
theorem TIs.make (cell : w.heap[p]? = some (.cells #[.int .i64 e, .map (some b)] 263)) (map : TMap w b n m) (none_ : ∀ s, s.size ≤ maxLen → ser l s = [] → m s = none)
    (some_ : ∀ s, s.size ≤ maxLen → ser l s ≠ [] → ∃ v, m s = some v ∧ BkOwn w 0 v (ser l s) ∧ v.ownBlock ≠ some b ∧ v.ownBlock ≠ some p)
    (apart : ∀ s t v u g, s.size ≤ maxLen → t.size ≤ maxLen → m s = some v → m t = some u → v.ownBlock = some g → u.ownBlock = some g → s = t)
    (pb : p ≠ b) (sorted : TSorted l) (ok : ∀ x ∈ l, tOk e x = true) (fit : ∀ x ∈ l, TFit x) (e1 : 1 ≤ e) (e64 : TIn64 e) : TIs w p e l b m where
  cell := cell
  map := by
    have := MapIs.tight kT map (l.map (·.n)) (fun s hs c => by
      by_cases h : ser l s = []
      · exact absurd (none_ s hs h) c
      · obtain ⟨y, hy⟩ := List.exists_mem_of_ne_nil _ h
        exact List.mem_map.2 ⟨_, mem_ser.1 hy, rfl⟩)
    rwa [List.length_map] at this
  none_ := none_
  some_ := some_
  apart := apart
  pb := pb
  sorted := sorted
  ok := ok
  fit := fit
  e1 := e1
  e64 := e64

/-- One series is gone. -/
theorem TIs.del (h : TIs w p e l b m) (s : ByteArray) (hm : TMap w' b n (mDel m s)) (hg : w.grownBy w' (some b)) : TIs w' p e (l.filter fun x => !decide (x.n = s)) b (mDel m s) := by
  have hser : ∀ t, ser (l.filter fun x => !decide (x.n = s)) t = if t = s then [] else ser l t := fun t => by
    rw [ser_filter_name (fun x => !decide (x = s))]
    by_cases c : t = s
    · rw [if_pos c, if_neg (by simp [c])]
    · rw [if_neg c, if_pos (by simp [c])]
  refine TIs.make ?_ hm (fun t ht c => ?_) (fun t ht c => ?_) (fun t u v x g ht hu hv hx g1 g2 => ?_) h.pb (List.Pairwise.filter _ h.sorted) (fun x hx => h.ok x (List.mem_filter.1 hx).1) (fun x hx => h.fit x (List.mem_filter.1 hx).1) h.e1 h.e64
  · rw [hg.block p h.lt_p (fun c => h.pb (Option.some.inj c))]
    exact h.cell
  · rw [hser] at c
    unfold mDel
    split
    · rfl
    · rw [if_neg ‹_›] at c
      exact h.none_ t ht c
  · rw [hser] at c ⊢
    by_cases ts : t = s
    · rw [if_pos ts] at c
      exact absurd rfl c
    · rw [if_neg ts] at c ⊢
      obtain ⟨v, h1, h2, h3, h4⟩ := h.some_ t ht c
      exact ⟨v, by unfold mDel; rw [if_neg ts, h1], own_at h2 (fun g hgb => hg.block g (own_lt h2 hgb) (fun c => h3 (by rw [hgb, c]))), h3, h4⟩
  · unfold mDel at hv hx
    split at hv
    · cases hv
    · split at hx
      · cases hx
      · exact h.apart t u v x g ht hu hv hx g1 g2

/-- One series is another one, or is new. -/
theorem TIs.put (h : TIs w p e l b m) (s : ByteArray) (hs : s.size ≤ maxLen) (v : Value) (hm : TMap w' b n (mPut m s v)) (hv : BkOwn w' 0 v (ser l' s)) (hne : ser l' s ≠ []) (hvb : v.ownBlock ≠ some b) (hvp : v.ownBlock ≠ some p)
    (hoff : ∀ t u g, t.size ≤ maxLen → t ≠ s → m t = some u → u.ownBlock = some g → v.ownBlock ≠ some g ∧ w'.heap[g]? = w.heap[g]?) (hp : w'.heap[p]? = w.heap[p]?)
    (hser : ∀ t, t ≠ s → ser l' t = ser l t) (hsorted : TSorted l') (hok : ∀ x ∈ l', tOk e x = true) (hfit : ∀ x ∈ l', TFit x) : TIs w' p e l' b (mPut m s v) := by
  refine TIs.make (hp.trans h.cell) hm (fun t ht c => ?_) (fun t ht c => ?_) (fun t u x y g ht hu hx hy g1 g2 => ?_) h.pb hsorted hok hfit h.e1 h.e64
  · unfold mPut
    by_cases ts : t = s
    · rw [ts] at c
      exact absurd c hne
    · rw [if_neg ts]
      rw [hser t ts] at c
      exact h.none_ t ht c
  · unfold mPut
    by_cases ts : t = s
    · subst ts
      rw [if_pos rfl]
      exact ⟨v, rfl, hv, hvb, hvp⟩
    · rw [if_neg ts]
      rw [hser t ts] at c ⊢
      obtain ⟨u, h1, h2, h3, h4⟩ := h.some_ t ht c
      exact ⟨u, h1, own_at h2 (fun g hgb => (hoff t u g ht ts h1 hgb).2), h3, h4⟩
  · unfold mPut at hx hy
    by_cases ts : t = s
    · rw [if_pos ts] at hx
      by_cases us : u = s
      · rw [ts, us]
      · rw [if_neg us] at hy
        rw [← Option.some.inj hx] at g1
        exact absurd g1 (hoff u y g hu us hy g2).1
    · rw [if_neg ts] at hx
      by_cases us : u = s
      · rw [if_pos us] at hy
        rw [← Option.some.inj hy] at g2
        exact absurd g2 (hoff t x g ht ts hx g1).1
      · rw [if_neg us] at hy
        exact h.apart t u x y g ht hu hx hy g1 g2

end

/-- A turned map: nothing else has turned, and nothing is new. -/
theorem turned_touch {w w' : World} {b : Nat} {F : Nat → Prop} (h : w.mapTurned w' b) (hF : F b) : Touch F w w' := Touch.grown h.grown (fun i _ c => by cases c; exact hF)

/-- What is left when these names are gone. -/
def lRest (l : List TRec) (ss : List ByteArray) : List TRec := l.filter fun x => !ss.any fun s => decide (x.n = s)

theorem lRest_nil (l : List TRec) : lRest l [] = l := List.filter_eq_self.2 (fun _ _ => rfl)
theorem lRest_snoc (l : List TRec) (ss : List ByteArray) (s : ByteArray) : lRest l (ss ++ [s]) = (lRest l ss).filter fun x => !decide (x.n = s) := by
  unfold lRest
  rw [List.filter_filter]
  refine List.filter_congr fun x _ => ?_
  rw [List.any_append]
  simp [Bool.and_comm]
theorem lRest_ser {l : List TRec} {ss : List ByteArray} {s : ByteArray} (h : s ∉ ss) : ser (lRest l ss) s = ser l s := by
  unfold lRest
  rw [ser_filter_name (fun x => !ss.any fun s => decide (x = s)), if_pos]
  simp only [Bool.not_eq_true', List.any_eq_false, decide_eq_true_eq]
  rintro x hx rfl
  exact h hx
theorem lRest_len {l : List TRec} {ss : List ByteArray} {s : ByteArray} (h : s ∉ ss) : (lRest l (ss ++ [s])).length + (ser l s).length = (lRest l ss).length := by
  have h1 := cntN_more (l := l) (p := fun x => ss.any fun s => decide (x = s)) (q := fun x => (ss ++ [s]).any fun s => decide (x = s)) (s := s) (by simp only [List.any_eq_false, decide_eq_true_eq]; rintro x hx rfl; exact h hx) (fun x => by rw [List.any_append]; simp)
  have h2 : ∀ q : ByteArray → Bool, cntN l q + (l.filter fun x => !q x.n).length = l.length := fun q => by
    unfold cntN
    rw [← List.length_append]
    exact (List.filter_append_perm (fun x : TRec => q x.n) l).length_eq
  have h3 := h2 (fun x => ss.any fun s => decide (x = s))
  have h4 := h2 (fun x => (ss ++ [s]).any fun s => decide (x = s))
  unfold lRest
  omega

end Go.Proofs.YtbhcafginmkaaaaGreat

namespace Go.Proofs.YtbhcafginmkaaaaGreat
open Go.RowKit Go.Lib

section
variable {P : Program} (w : World) {ops : Array Oper} {rest : List Oper} {o : Oper} {a : Act} {Q : Exit → Act → World → Prop}

theorem wpList_delete_text (hg : o.guard = none) (x y : Operand) (t k : TypeId) (hop : o.op = Op.call { callee := Callee.builtin Builtin.delete, args := #[x, y], argTypes := #[t, k] }) (e : TypeId) (hk : P.underlying k = some .string) (ht : P.underlying t = some (.map k e)) (b n : Nat) (m : ByteArray → Option Value)
    (hm : a.eval x = .map (some b)) (h : MapIs P k w b n m) (s : ByteArray) (hx : a.eval y = .string s) (hs : s.size ≤ maxLen)
    (hK : ∀ w', MapIs P k w' b n (mDel m s) → w.mapTurned w' b → wpList P ops Q rest (a.put o.dst (.tuple #[])) w') :
    wpList P ops Q (o :: rest) a w := by
  refine wpList_plain hg fun K' hK' => ?_
  obtain ⟨w', hrun, r1, r2⟩ := h.drop hk ht hs o.type
  unfold Oper.wp
  simp [execOp, hop, resolve, invoke, builtin, hm, hx, hrun, Result.andThen]
  exact hK' _ _ (hK w' r1 r2)

theorem wpList_store_text (hg : o.guard = none) (x y z : Operand) (t : TypeId) (hop : o.op = Op.mapUpdate t x y z) (k e : TypeId) (hk : P.underlying k = some .string) (ht : P.underlying t = some (.map k e)) (b n : Nat) (m : ByteArray → Option Value)
    (hm : a.eval x = .map (some b)) (h : MapIs P k w b n m) (hn : n < maxLen) (s : ByteArray) (hx : a.eval y = .string s) (hs : s.size ≤ maxLen) (v : Value) (hv : a.eval z = v)
    (hK : ∀ w', MapIs P k w' b (n + 1) (mPut m s v) → w.mapTurned w' b → wpList P ops Q rest (a.put o.dst undef) w') :
    wpList P ops Q (o :: rest) a w := by
  refine wpList_plain hg fun K' hK' => ?_
  obtain ⟨w', hrun, r1, r2⟩ := h.store hk ht hn hs v
  unfold Oper.wp
  simp [execOp, hop, hm, hx, hv, hrun, Result.andThen]
  exact hK' _ _ (hK w' r1 r2)
end

/-- A call that has touched the map's block and what it holds. -/
theorem tstep_of {w w' : World} {p b b' : Nat} {m m' : ByteArray → Option Value} (h : Touch (foot b m) w w') (hf : ∀ k, foot b' m' k → foot b m k ∨ w.heap.size ≤ k) :
    TStep ⟨foot b m, fun k => k = p ∨ foot b m k⟩ ⟨foot b' m', fun k => k = p ∨ foot b' m' k⟩ w w' :=
  ⟨⟨h.os, h.tape, h.output, h.size, h.block, hf⟩, fun k hk => by
    rcases hk with c | c
    · exact .inl (.inl c)
    · rcases hf k c with d | d
      · exact .inl (.inr d)
      · exact .inr d⟩

theorem lRest_shard (l : List TRec) (k n : Int) : lRest l (shNames l k n) = tRest l k n := by
  unfold lRest tRest
  refine List.filter_congr fun x hx => ?_
  congr 1
  rw [Bool.eq_iff_iff, List.any_eq_true, decide_eq_true_eq]
  constructor
  · rintro ⟨s, hs, e⟩
    rw [of_decide_eq_true e]
    exact (shNames_mem.1 hs).2
  · intro c
    exact ⟨x.n, shNames_mem.2 ⟨⟨x, hx, rfl⟩, c⟩, decide_eq_true rfl⟩

theorem tRest_len (l : List TRec) (k n : Int) : (tShard l k n).length + (tRest l k n).length = l.length := by
  unfold tShard tRest
  rw [← List.length_append]
  exact (List.filter_append_perm (fun x : TRec => decide (nShard x.n n = k)) l).length_eq

set_option maxHeartbeats 3200000 in
set_option maxRecDepth 20000 in
theorem clear_any {w : World} {p : Nat} {e : Int} {l : List TRec} {F : TFoot} (k n : Int) (h : TRep w p e l F) (hl : l.length ≤ 1000) :
    Calls Tryz.prog 284 #[tptr p, .int .i64 k, .int .i64 n] w fun x w' => x = .returned (.int .i64 ((tShard l k n).length : Nat)) ∧ ∃ F', TRep w' p e (tRest l k n) F' ∧ TStep F F' w w' := by
  have hnm := namesOf_any k n h hl
  obtain ⟨b, m, h, rfl⟩ := h
  rw [show ((tNames l).filter fun s => decide (nShard s n = k)) = shNames l k n from rfl] at hnm
  have hrest := lRest_shard l k n
  have hcount := tRest_len l k n
  rw [← hrest] at hcount ⊢
  have HSZ : Hid (∀ s ∈ shNames l k n, s.size ≤ maxLen) := Hid.of (by
    intro s hs
    obtain ⟨⟨x, hx, rfl⟩, _⟩ := shNames_mem.1 hs
    exact (h.fit x hx).1)
  have HND := Hid.of (shNames_rise l k n)
  have hNL := Nat.le_trans (shNames_len l k n) hl
  obtain ⟨ns, hns⟩ : ∃ ns, shNames l k n = ns := ⟨_, rfl⟩
  rw [hns] at hnm HSZ hNL hcount HND ⊢
  obtain ⟨C, hC⟩ : ∃ C, (tShard l k n).length = C := ⟨_, rfl⟩
  rw [hC] at hcount ⊢
  have HC := Hid.of hcount
  obtain ⟨N, hN⟩ : ∃ N, ns.length = N := ⟨_, rfl⟩
  rw [hN] at hnm hNL
  have BL := Hid.of hN
  have H := Hid.of h
  have HL := Hid.of hl
  clear hl hns hN hrest hcount hC h
  go_enter Tryz.func284, Tryz.ntmps284
  go_wp2_with fail
  refine hnm.mono ?_
  rintro x w1 ⟨v, rfl, o1, b1⟩
  have HV := Hid.of (own_cells_row o1 (by rw [List.length_map, BL.out, Nat.mul_one]))
  have HOFF : Hid (∀ g, v.ownBlock = some g → ¬ g = b) := Hid.of (fun g hg c => by
    have h1 := own_ge o1 hg
    have h2 := H.out.map.lt
    omega)
  obtain ⟨va, vc, rfl, -⟩ := HV.out
  have B1 := Hid.of b1
  have H1 := Hid.of (H.out.below b1)
  clear o1 b1 hnm
  go_wp2
  go_loopg [7, 15] N (fun kx nv iv wr => ∃ (j c : Nat) (mj : ByteArray → Option Value), nv = .int .i64 c ∧ iv = .int .i64 j ∧ j ≤ N ∧ N - j ≤ kx ∧ c ≤ 1000 ∧ Hid (c + (lRest l (ns.take j)).length = l.length) ∧ Hid (TIs wr p e (lRest l (ns.take j)) b mj) ∧ Hid (∀ s v, mj s = some v → m s = some v) ∧ Hid (Touch (fun i => i = b) w1 wr))
  case atStart => exact ⟨0, 0, m, rfl, rfl, Nat.zero_le _, Nat.le_refl _, Nat.zero_le _, Hid.of (by rw [List.take_zero, lRest_nil, Nat.zero_add]), Hid.of (by rw [List.take_zero, lRest_nil]; exact H1.out), Hid.of (fun _ _ h => h), Hid.of (Touch.refl _ _)⟩
  case round =>
    obtain ⟨j, c, mj, rfl, rfl, hjn, hkx, hc, HCC, HT, HM, HTo⟩ := hrel
    by_cases hlt : (j : Int) < (N : Int)
    · obtain ⟨s, hss⟩ : ∃ s, ns[j]? = some s := ⟨_, List.getElem?_eq_getElem (by have := BL.out; omega)⟩
      obtain ⟨b1, o1, rfl, hl1, hc1⟩ := (HTo.out.row HV.out HOFF.out).at j (.string s) (by rw [List.getElem?_map, hss]; rfl)
      have d1 : wr.cell? ⟨b1, o1 + j, none⟩ = some (.string s) := hc1
      have hsz := HSZ.out s (List.mem_of_getElem? hss)
      have hT1 : ns.take (j + 1) = ns.take j ++ [s] := by
        rw [List.take_succ_eq_append_getElem (by have := BL.out; omega), (List.getElem?_eq_some_iff.1 hss).2]
      have hnin : s ∉ ns.take j := fun c => by
        obtain ⟨i, hi, he⟩ := List.mem_iff_getElem.1 c
        rw [List.length_take] at hi
        rw [List.getElem_take] at he
        have hlt := List.pairwise_iff_getElem.1 HND.out i j (by omega) (by have := BL.out; omega) (by omega)
        rw [he, (List.getElem?_eq_some_iff.1 hss).2] at hlt
        exact nLt_irrefl _ hlt
      have hlen := lRest_len (l := l) hnin
      rw [← hT1] at hlen
      have HR1 : Hid (lRest l (ns.take (j + 1)) = (lRest l (ns.take j)).filter fun x => !decide (x.n = s)) := Hid.of (by rw [hT1, lRest_snoc])
      have c1 := HT.out.c1
      obtain ⟨u, hu, hue, hlk⟩ := HT.out.look hsz
      rw [lRest_ser hnin] at hu
      obtain ⟨ua, uc, rfl, -, -⟩ := own_shape hu
      obtain ⟨sn, hsn⟩ : ∃ sn, (ser l s).length = sn := ⟨_, rfl⟩
      rw [hsn] at hlk hlen
      have hm := HT.out.map
      have hc2 : c + sn ≤ 1000 := by have := HCC.out; have := HL.out; omega
      have HLE := Hid.of hlen
      have hj0 : (0 : Int) ≤ (j : Int) := by omega
      have HJN : Hid (j < N) := Hid.of (by omega)
      clear hss hc1 hl1 hT1 hnin hlen hu hue hsn
      go_wp2_with (first
        | (refine wpList_delete_text _ rfl _ _ 261 9 rfl 266 kT mT b _ mj rfl hm s rfl hsz ?_; intro w2 hm2 ht2)
        | go_in)
      go_roundg (N - (j + 1))
      case measure => have := HJN.out; omega
      case rel =>
        refine ⟨j + 1, c + sn, mDel mj s, by go_num, by go_num, HJN.out, Nat.le_refl _, hc2, Hid.of (by have := HLE.out; have := HCC.out; omega), Hid.of ?_, Hid.of (fun t v ht => ?_), Hid.of (HTo.out.trans (turned_touch ht2 rfl))⟩
        · rw [HR1.out]
          exact HT.out.del s hm2 ht2.grown
        · unfold mDel at ht
          split at ht
          · cases ht
          · exact HM.out t v ht
    · obtain rfl : j = N := by omega
      have hTT := HT.out
      have hCC := HCC.out
      rw [List.take_of_length_le (by rw [BL.out]; exact Nat.le_refl _)] at hTT hCC
      obtain rfl : c = C := by have := HC.out; omega
      have HTT := Hid.of hTT
      clear hTT hCC
      go_wp2
      go_ret
      refine ⟨rfl, _, ⟨b, mj, HTT.out, rfl⟩, tstep_of (((Touch.below B1.out).trans (HTo.out.mono (fun i _ c => c ▸ .inl rfl) |> fun t => t)) ) (fun k hk => ?_)⟩
      rcases hk with c | ⟨s, v, h1, h2, h3⟩
      · exact .inl (.inl c)
      · exact .inl (.inr ⟨s, v, h1, HM.out s v h2, h3⟩)

end Go.Proofs.YtbhcafginmkaaaaGreat

namespace Go.Proofs.YtbhcafginmkaaaaGreat
open Go.RowKit Go.Lib

set_option maxRecDepth 20000 in
set_option maxHeartbeats 800000 in
theorem bkClone_any (v : Value) (l : List Bk) (w : World) (hv : BkRow w v l) (hn : l.length ≤ 1000000) :
    Calls Tryz.prog 229 #[v] w fun e w' => ∃ u, e = .returned u ∧ BkOwn w' w.heap.size u l ∧ Below w.heap.size w w' := by
  have HC : Hid (CellRow w v l.length (flat benc l)) := Hid.of hv
  obtain ⟨sa, sc, rfl, hx⟩ := hv
  have HX := Hid.of hx
  obtain ⟨i0, hi, hz0, hz1, hz2⟩ := info_parts bk_info
  have HI := Hid.of hi
  have HZ0 := Hid.of hz0
  have HZ1 := Hid.of hz1
  have HZ2 := Hid.of hz2
  have qT : ∀ (w : World) (a : Option Addr) (n c : Nat), (binOp .eql 266 (.slice a n c) (.slice none 0 0)).run Tryz.prog w = .ok (.bool a.isNone) w := fun w a n c => Lib.run_eql_slice_nil w _ _ a n c 0 0 Tryz.underlying266
  clear hi hz0 hz1 hz2 hx
  cases sa with
  | none =>
    have hl : l = [] := by
      rcases HX.out with h | ⟨b, o, h, _⟩
      · have := congrArg List.length h
        rw [flat_length benc_len, List.length_nil] at this
        exact List.length_eq_zero_iff.1 (by omega)
      · cases h
    subst hl
    go_enter Tryz.func229, Tryz.ntmps229
    go_wp2
    go_ret
    exact ⟨_, rfl, World.ownsRow_nil _ _ _ 6, Below.refl _ _⟩
  | some ad =>
    go_enter Tryz.func229, Tryz.ntmps229
    go_wp2_with (at_builtin; refine append_row_law rfl _ _ 266 rfl w.heap.size 269 i0 (.agg #[.int .i64 0, .int .i64 0, .int .i64 0, .int .u64 0, .int .i64 0, .int .i64 0]) 6 48 Tryz.underlying266 HI.out HZ0.out HZ1.out HZ2.out rfl (by decide) (.slice (some ⟨w.heap.size, 0, none⟩) 0 0) 0 [] rfl (World.ownsRow_made w #[] 0 (Nat.le_refl _) (Nat.zero_le _) rfl) _ l.length _ rfl (HC.out.kept ((Below.refl _ _).alloc (Nat.le_refl _) _)) (flat_length benc_len l) (flat_ones benc_one l) (by unfold maxLen; omega) (by omega) (by simp) ?_; intro v1 w1 o1 g1; have O1 : Hid (w1.ownsRow w.heap.size 269 6 v1 l.length (flat benc l)) := Hid.of (by simpa using o1); have b1 : Below w.heap.size w w1 := ((Below.refl _ w).alloc (Nat.le_refl _) _).grown g1 (by simp) (by intro k hk; simp [Value.ownBlock] at hk; omega); clear o1 g1)
    go_ret
    exact ⟨_, rfl, O1.out, b1⟩

section
variable {P : Program}

/-- A store, as one step of a region that draws its order. -/
theorem step_store_text {o : Oper} {ops : Array Oper} {a : Act} {w : World} {K : Act → World → Prop} {Q : Exit → Act → World → Prop} {E : Prop} (hgd : o.guard = none) (x y z : Operand) (t : TypeId) (hop : o.op = Op.mapUpdate t x y z) (k e : TypeId) (hk : P.underlying k = some .string) (ht : P.underlying t = some (.map k e)) (b n : Nat) (m : ByteArray → Option Value)
    (hm : a.eval x = .map (some b)) (h : MapIs P k w b n m) (hn : n < maxLen) (s : ByteArray) (hx : a.eval y = .string s) (hs : s.size ≤ maxLen) (v : Value) (hv : a.eval z = v)
    (hK : ∀ w', MapIs P k w' b (n + 1) (mPut m s v) → w.mapTurned w' b → K (a.put o.dst undef) w') :
    if Region.wanted o (yielded ops a.tmps) = true then Oper.wp P o a w K Q else E := by
  have hw : Region.wanted o (yielded ops a.tmps) = true := by simp [Region.wanted, hgd]
  rw [if_pos hw]
  obtain ⟨w', hrun, r1, r2⟩ := h.store hk ht hn hs v
  unfold Oper.wp
  simp [execOp, hop, hm, hx, hv, hrun, Result.andThen]
  exact hK w' r1 r2

end

end Go.Proofs.YtbhcafginmkaaaaGreat

namespace Go.Proofs.YtbhcafginmkaaaaGreat
open Go.RowKit Go.Lib

/-- A record by value. -/
abbrev rcv (x : TRec) : Value := .agg #[.string x.n, .int .i64 x.s, .int .i64 x.a.c, .int .i64 x.a.hi, .int .u64 x.a.lo, .int .i64 x.a.mn, .int .i64 x.a.mx]

/-- Block q is a variable that holds record x; block p begins with a table's ticks. -/
structure TK (w0 : World) (q p : Nat) (e : Int) (x : TRec) (w : World) : Prop where
  blk : w.heap[q]? = some (.cells #[.string x.n, .int .i64 x.s, .int .i64 x.a.c, .int .i64 x.a.hi, .int .u64 x.a.lo, .int .i64 x.a.mn, .int .i64 x.a.mx] 102)
  c : w.cell? ⟨p, 0, none⟩ = some (.int .i64 e)
  lt : p < w.heap.size
  fr : Below w0.heap.size w0 w

theorem TK.next {w0 w w' : World} {q p : Nat} {e : Int} {x : TRec} (h : TK w0 q p e x w) (b : Below w.heap.size w w') : TK w0 q p e x w' :=
  ⟨(b.block q (Array.getElem?_eq_some_iff.1 h.blk).1).trans h.blk, by rw [b.cell h.lt]; exact h.c, Nat.lt_of_lt_of_le h.lt b.size, h.fr.trans (b.mono h.fr.size)⟩

theorem TK.at {w0 w : World} {q p : Nat} {e : Int} {x : TRec} (h : TK w0 q p e x w) : w.cell? ⟨q, 0, none⟩ = some (.string x.n) ∧ w.cell? ⟨q, 1, none⟩ = some (.int .i64 x.s) ∧ w.cell? ⟨q, 2, none⟩ = some (.int .i64 x.a.c) ∧ w.cell? ⟨q, 3, none⟩ = some (.int .i64 x.a.hi) ∧ w.cell? ⟨q, 4, none⟩ = some (.int .u64 x.a.lo) ∧ w.cell? ⟨q, 5, none⟩ = some (.int .i64 x.a.mn) ∧ w.cell? ⟨q, 6, none⟩ = some (.int .i64 x.a.mx) ∧ w.cell? ⟨p, 0, none⟩ = some (.int .i64 e) := by
  have hb := h.blk
  refine ⟨?_, ?_, ?_, ?_, ?_, ?_, ?_, h.c⟩ <;> simp [World.cell?, hb]

theorem one_name (w : World) (s : ByteArray) (t : TypeId) : CellRow (w.alloc (.cells #[.string s] t)) (.slice (some ⟨w.heap.size, 0, none⟩) 1 1) 1 ([s].map Value.string) := by
  refine ⟨_, 1, rfl, .inr ⟨_, 0, rfl, by simp, ?_⟩⟩
  intro j u hj
  have : j = 0 := by
    have := (List.getElem?_eq_some_iff.1 hj).1
    simp at this
    exact this
  subst this
  rw [cell_of_row _ _ _ _ _ _ (Go.heap_alloc_new _ _)]
  simpa using hj

set_option maxRecDepth 20000 in
set_option maxHeartbeats 3200000 in
theorem takes_at {w : World} {p : Nat} {e : Int} (hc0 : w.cell? ⟨p, 0, none⟩ = some (.int .i64 e)) (hlt : p < w.heap.size) (x : TRec) (hx : TFit x) :
    Calls Tryz.prog 249 #[tptr p, rcv x] w fun r w' => r = .returned (.bool (tOk e x)) ∧ Below w.heap.size w w' := by
  obtain ⟨q, hq⟩ : ∃ q, w.heap.size = q := ⟨_, rfl⟩
  obtain ⟨w1, hw1⟩ : ∃ w1, w.alloc (.cells #[.string x.n, .int .i64 x.s, .int .i64 x.a.c, .int .i64 x.a.hi, .int .u64 x.a.lo, .int .i64 x.a.mn, .int .i64 x.a.mx] 102) = w1 := ⟨_, rfl⟩
  have K1 : Hid (TK w q p e x w1) := Hid.of (by
    have hb : Below w.heap.size w w1 := by rw [← hw1]; exact (Below.refl _ _).alloc (Nat.le_refl _) _
    exact ⟨by rw [← hw1, ← hq]; exact (MapKept.heap_alloc w _).1, by rw [hb.cell hlt]; exact hc0, Nat.lt_of_lt_of_le hlt hb.size, hb⟩)
  obtain ⟨f1, f2, f3⟩ := hx
  have F1 := Hid.of f1
  have F2 := Hid.of f2
  obtain ⟨v1, h1⟩ : ∃ v1, nOk x.n = v1 := ⟨_, rfl⟩
  obtain ⟨v3, h3⟩ : ∃ v3, gOn x.s e = v3 := ⟨_, rfl⟩
  obtain ⟨v4, h4⟩ : ∃ v4, agOk x.a = v4 := ⟨_, rfl⟩
  have res : tOk e x = (v1 && decide (0 ≤ x.s) && v3 && v4) := by unfold tOk; rw [h1, h3, h4]
  rw [res]
  have V1 := Hid.of h1
  have V3 := Hid.of h3
  have V4 := Hid.of h4
  have HW := Hid.of hw1
  have HQ := Hid.of hq
  clear res h1 h3 h4 hw1 hc0 hlt f1 f2 f3 hq
  obtain ⟨c0, c1, c2, c3, c4, c5, c6, c7⟩ := K1.out.at
  cases v1
  · go_enter Tryz.func249, Tryz.ntmps249
    go_upto_region 1 with fail
    rw [HW.out]
    rw [HQ.out]
    clear HW
    refine wp_region_noPanic ?_
    refine wp_region_held_drew (S := fun w' => w'.cell? ⟨q, 0, none⟩ = some (.string x.n) ∧ w'.cell? ⟨q, 1, none⟩ = some (.int .i64 x.s) ∧ w'.cell? ⟨q, 2, none⟩ = some (.int .i64 x.a.c) ∧ w'.cell? ⟨q, 3, none⟩ = some (.int .i64 x.a.hi) ∧ w'.cell? ⟨q, 4, none⟩ = some (.int .u64 x.a.lo) ∧ w'.cell? ⟨q, 5, none⟩ = some (.int .i64 x.a.mn) ∧ w'.cell? ⟨q, 6, none⟩ = some (.int .i64 x.a.mx) ∧ w'.cell? ⟨p, 0, none⟩ = some (.int .i64 e)) (by kernel_rfl) ?_ (fun hHeld => ?_)
    · exact ⟨c0, c1, c2, c3, c4, c5, c6, c7⟩
    refine takeOp 0 (o := ⟨_, _, _, _, _, _⟩) (v := ?_) rfl (by kernel_rfl) (by rfl) hHeld ?_ ?_; rotate_left; (next => intro w' hSw; (try dsimp only at hSw); go_simp; all_goals with_reducible rfl); simp only [Act.put, pA9, pB9, pC9]
    refine takeOp 1 (o := ⟨_, _, _, _, _, _⟩) (v := ?_) rfl (by kernel_rfl) (by rfl) hHeld ?_ ?_; rotate_left; (next => intro w' hSw; (try dsimp only at hSw); go_simp; all_goals with_reducible rfl); simp only [Act.put, pA9, pB9, pC9]
    refine takeOp 2 (o := ⟨_, _, _, _, _, _⟩) (v := ?_) rfl (by kernel_rfl) (by rfl) hHeld ?_ ?_; rotate_left; (next => intro w' hSw; (try dsimp only at hSw); go_simp; all_goals with_reducible rfl); simp only [Act.put, pA9, pB9, pC9]
    refine takeOp 3 (o := ⟨_, _, _, _, _, _⟩) (v := ?_) rfl (by kernel_rfl) (by rfl) hHeld ?_ ?_; rotate_left; (next => intro w' hSw; (try dsimp only at hSw); go_simp; all_goals with_reducible rfl); simp only [Act.put, pA9, pB9, pC9]
    refine takeOp 4 (o := ⟨_, _, _, _, _, _⟩) (v := ?_) rfl (by kernel_rfl) (by rfl) hHeld ?_ ?_; rotate_left; (next => intro w' hSw; (try dsimp only at hSw); go_simp; all_goals with_reducible rfl); simp only [Act.put, pA9, pB9, pC9]
    refine wpAnyH_ready (rs := [5]) (by kernel_rfl) (by simp) ?_
    refine AllReadyH.cons (o := ⟨_, _, _, _, _, _⟩) rfl (fun K hK => ?_) AllReadyH.nil
    go_simp
    obtain ⟨w2, hw2⟩ : ∃ w2, (w1.alloc (.cells #[.string x.n] 9)).drew = w2 := ⟨_, rfl⟩
    have b2 : Below w1.heap.size w1 w2 := by rw [← hw2]; exact ((Below.refl _ _).alloc (Nat.le_refl _) _).drew
    have N2 : Hid (CellRow w2 (.slice (some ⟨w1.heap.size, 0, none⟩) 1 1) 1 ([x.n].map Value.string)) := Hid.of (by rw [← hw2]; exact one_name w1 x.n _)
    rw [hw2]
    clear hw2
    have K2 := Hid.of (K1.out.next b2)
    clear b2 hHeld c0 c1 c2 c3 c4 c5 c6 c7 K1
    obtain ⟨c0, c1, c2, c3, c4, c5, c6, c7⟩ := K2.out.at
    refine hK.out _ _ ⟨c0, c1, c2, c3, c4, c5, c6, c7⟩ (fun hHeld => ?_)
    clear hK K
    try simp only [Act.put, pA9, pB9, pC9]
    refine wpAnyH_ready (rs := [6]) (by kernel_rfl) (by simp) ?_
    refine AllReadyH.cons (o := ⟨_, _, _, _, _, _⟩) rfl (fun K hK => ?_) AllReadyH.nil
    go_simp
    refine (valid_any _ [x.n] _ N2.out (by simp) (fun s hs => by rw [List.mem_singleton.1 hs]; exact F1.out)).mono ?_
    rintro r w3 ⟨rfl, k3, hw3⟩
    have b3 : Below w2.heap.size w2 w3 := by rw [hw3]; exact below_drewN (Below.refl _ _) k3
    clear hw3
    rw [show ([x.n].all nOk) = false from by rw [List.all_cons, V1.out]; rfl]
    have K3 := Hid.of (K2.out.next b3)
    clear b3 hHeld c0 c1 c2 c3 c4 c5 c6 c7 K2
    obtain ⟨c0, c1, c2, c3, c4, c5, c6, c7⟩ := K3.out.at
    refine hK.out _ _ ⟨c0, c1, c2, c3, c4, c5, c6, c7⟩ (fun hHeld => ?_)
    clear hK K
    try simp only [Act.put, pA9, pB9, pC9]
    refine takeOp 7 (o := ⟨_, _, _, _, _, _⟩) (v := ?_) rfl (by kernel_rfl) (by rfl) hHeld ?_ ?_; rotate_left; (next => intro w' hSw; (try dsimp only at hSw); go_simp; all_goals with_reducible rfl); simp only [Act.put, pA9, pB9, pC9]
    refine takeOp 8 (o := ⟨_, _, _, _, _, _⟩) (v := ?_) rfl (by kernel_rfl) (by rfl) hHeld ?_ ?_; rotate_left; (next => intro w' hSw; (try dsimp only at hSw); go_simp; all_goals with_reducible rfl); simp only [Act.put, pA9, pB9, pC9]
    refine skipOp 9 (o := ⟨_, _, _, _, _, _⟩) rfl (by kernel_rfl) (by rfl) hHeld ?_
    simp only [Act.put, pA9, pB9, pC9]
    refine skipOp 10 (o := ⟨_, _, _, _, _, _⟩) rfl (by kernel_rfl) (by rfl) hHeld ?_
    simp only [Act.put, pA9, pB9, pC9]
    refine skipOp 11 (o := ⟨_, _, _, _, _, _⟩) rfl (by kernel_rfl) (by rfl) hHeld ?_
    simp only [Act.put, pA9, pB9, pC9]
    refine takeOp 12 (o := ⟨_, _, _, _, _, _⟩) (v := ?_) rfl (by kernel_rfl) (by rfl) hHeld ?_ ?_; rotate_left; (next => intro w' hSw; (try dsimp only at hSw); go_simp; all_goals with_reducible rfl); simp only [Act.put, pA9, pB9, pC9]
    refine takeOp 13 (o := ⟨_, _, _, _, _, _⟩) (v := ?_) rfl (by kernel_rfl) (by rfl) hHeld ?_ ?_; rotate_left; (next => intro w' hSw; (try dsimp only at hSw); go_simp; all_goals with_reducible rfl); simp only [Act.put, pA9, pB9, pC9]
    refine skipOp 14 (o := ⟨_, _, _, _, _, _⟩) rfl (by kernel_rfl) (by rfl) hHeld ?_
    simp only [Act.put, pA9, pB9, pC9]
    refine skipOp 15 (o := ⟨_, _, _, _, _, _⟩) rfl (by kernel_rfl) (by rfl) hHeld ?_
    simp only [Act.put, pA9, pB9, pC9]
    refine skipOp 16 (o := ⟨_, _, _, _, _, _⟩) rfl (by kernel_rfl) (by rfl) hHeld ?_
    simp only [Act.put, pA9, pB9, pC9]
    refine skipOp 17 (o := ⟨_, _, _, _, _, _⟩) rfl (by kernel_rfl) (by rfl) hHeld ?_
    simp only [Act.put, pA9, pB9, pC9]
    refine skipOp 18 (o := ⟨_, _, _, _, _, _⟩) rfl (by kernel_rfl) (by rfl) hHeld ?_
    simp only [Act.put, pA9, pB9, pC9]
    refine skipOp 19 (o := ⟨_, _, _, _, _, _⟩) rfl (by kernel_rfl) (by rfl) hHeld ?_
    simp only [Act.put, pA9, pB9, pC9]
    refine skipOp 20 (o := ⟨_, _, _, _, _, _⟩) rfl (by kernel_rfl) (by rfl) hHeld ?_
    simp only [Act.put, pA9, pB9, pC9]
    refine takeOp 21 (o := ⟨_, _, _, _, _, _⟩) (v := ?_) rfl (by kernel_rfl) (by rfl) hHeld ?_ ?_; rotate_left; (next => intro w' hSw; (try dsimp only at hSw); go_simp; all_goals with_reducible rfl); simp only [Act.put, pA9, pB9, pC9]
    refine takeOp 22 (o := ⟨_, _, _, _, _, _⟩) (v := ?_) rfl (by kernel_rfl) (by rfl) hHeld ?_ ?_; rotate_left; (next => intro w' hSw; (try dsimp only at hSw); go_simp; all_goals with_reducible rfl); simp only [Act.put, pA9, pB9, pC9]
    refine skipOp 23 (o := ⟨_, _, _, _, _, _⟩) rfl (by kernel_rfl) (by rfl) hHeld ?_
    simp only [Act.put, pA9, pB9, pC9]
    refine skipOp 24 (o := ⟨_, _, _, _, _, _⟩) rfl (by kernel_rfl) (by rfl) hHeld ?_
    simp only [Act.put, pA9, pB9, pC9]
    refine skipOp 25 (o := ⟨_, _, _, _, _, _⟩) rfl (by kernel_rfl) (by rfl) hHeld ?_
    simp only [Act.put, pA9, pB9, pC9]
    refine takeOp 26 (o := ⟨_, _, _, _, _, _⟩) (v := ?_) rfl (by kernel_rfl) (by rfl) hHeld ?_ ?_; rotate_left; (next => intro w' hSw; (try dsimp only at hSw); go_simp; all_goals with_reducible rfl); simp only [Act.put, pA9, pB9, pC9]
    refine takeOp 27 (o := ⟨_, _, _, _, _, _⟩) (v := ?_) rfl (by kernel_rfl) (by rfl) hHeld ?_ ?_; rotate_left; (next => intro w' hSw; (try dsimp only at hSw); go_simp; all_goals with_reducible rfl); simp only [Act.put, pA9, pB9, pC9]
    refine wpAnyH_done (by kernel_rfl) ?_ _
    refine NoPanic.normal ?_
    go_wp2
    go_ret
    exact ⟨rfl, K3.out.fr⟩
  · by_cases hs : 0 ≤ x.s
    · cases v3
      · go_enter Tryz.func249, Tryz.ntmps249
        go_upto_region 1 with fail
        rw [HW.out]
        rw [HQ.out]
        clear HW
        refine wp_region_noPanic ?_
        refine wp_region_held_drew (S := fun w' => w'.cell? ⟨q, 0, none⟩ = some (.string x.n) ∧ w'.cell? ⟨q, 1, none⟩ = some (.int .i64 x.s) ∧ w'.cell? ⟨q, 2, none⟩ = some (.int .i64 x.a.c) ∧ w'.cell? ⟨q, 3, none⟩ = some (.int .i64 x.a.hi) ∧ w'.cell? ⟨q, 4, none⟩ = some (.int .u64 x.a.lo) ∧ w'.cell? ⟨q, 5, none⟩ = some (.int .i64 x.a.mn) ∧ w'.cell? ⟨q, 6, none⟩ = some (.int .i64 x.a.mx) ∧ w'.cell? ⟨p, 0, none⟩ = some (.int .i64 e)) (by kernel_rfl) ?_ (fun hHeld => ?_)
        · exact ⟨c0, c1, c2, c3, c4, c5, c6, c7⟩
        refine takeOp 0 (o := ⟨_, _, _, _, _, _⟩) (v := ?_) rfl (by kernel_rfl) (by rfl) hHeld ?_ ?_; rotate_left; (next => intro w' hSw; (try dsimp only at hSw); go_simp; all_goals with_reducible rfl); simp only [Act.put, pA9, pB9, pC9]
        refine takeOp 1 (o := ⟨_, _, _, _, _, _⟩) (v := ?_) rfl (by kernel_rfl) (by rfl) hHeld ?_ ?_; rotate_left; (next => intro w' hSw; (try dsimp only at hSw); go_simp; all_goals with_reducible rfl); simp only [Act.put, pA9, pB9, pC9]
        refine takeOp 2 (o := ⟨_, _, _, _, _, _⟩) (v := ?_) rfl (by kernel_rfl) (by rfl) hHeld ?_ ?_; rotate_left; (next => intro w' hSw; (try dsimp only at hSw); go_simp; all_goals with_reducible rfl); simp only [Act.put, pA9, pB9, pC9]
        refine takeOp 3 (o := ⟨_, _, _, _, _, _⟩) (v := ?_) rfl (by kernel_rfl) (by rfl) hHeld ?_ ?_; rotate_left; (next => intro w' hSw; (try dsimp only at hSw); go_simp; all_goals with_reducible rfl); simp only [Act.put, pA9, pB9, pC9]
        refine takeOp 4 (o := ⟨_, _, _, _, _, _⟩) (v := ?_) rfl (by kernel_rfl) (by rfl) hHeld ?_ ?_; rotate_left; (next => intro w' hSw; (try dsimp only at hSw); go_simp; all_goals with_reducible rfl); simp only [Act.put, pA9, pB9, pC9]
        refine wpAnyH_ready (rs := [5]) (by kernel_rfl) (by simp) ?_
        refine AllReadyH.cons (o := ⟨_, _, _, _, _, _⟩) rfl (fun K hK => ?_) AllReadyH.nil
        go_simp
        obtain ⟨w2, hw2⟩ : ∃ w2, (w1.alloc (.cells #[.string x.n] 9)).drew = w2 := ⟨_, rfl⟩
        have b2 : Below w1.heap.size w1 w2 := by rw [← hw2]; exact ((Below.refl _ _).alloc (Nat.le_refl _) _).drew
        have N2 : Hid (CellRow w2 (.slice (some ⟨w1.heap.size, 0, none⟩) 1 1) 1 ([x.n].map Value.string)) := Hid.of (by rw [← hw2]; exact one_name w1 x.n _)
        rw [hw2]
        clear hw2
        have K2 := Hid.of (K1.out.next b2)
        clear b2 hHeld c0 c1 c2 c3 c4 c5 c6 c7 K1
        obtain ⟨c0, c1, c2, c3, c4, c5, c6, c7⟩ := K2.out.at
        refine hK.out _ _ ⟨c0, c1, c2, c3, c4, c5, c6, c7⟩ (fun hHeld => ?_)
        clear hK K
        try simp only [Act.put, pA9, pB9, pC9]
        refine wpAnyH_ready (rs := [6]) (by kernel_rfl) (by simp) ?_
        refine AllReadyH.cons (o := ⟨_, _, _, _, _, _⟩) rfl (fun K hK => ?_) AllReadyH.nil
        go_simp
        refine (valid_any _ [x.n] _ N2.out (by simp) (fun s hs => by rw [List.mem_singleton.1 hs]; exact F1.out)).mono ?_
        rintro r w3 ⟨rfl, k3, hw3⟩
        have b3 : Below w2.heap.size w2 w3 := by rw [hw3]; exact below_drewN (Below.refl _ _) k3
        clear hw3
        rw [show ([x.n].all nOk) = true from by rw [List.all_cons, V1.out]; rfl]
        have K3 := Hid.of (K2.out.next b3)
        clear b3 hHeld c0 c1 c2 c3 c4 c5 c6 c7 K2
        obtain ⟨c0, c1, c2, c3, c4, c5, c6, c7⟩ := K3.out.at
        refine hK.out _ _ ⟨c0, c1, c2, c3, c4, c5, c6, c7⟩ (fun hHeld => ?_)
        clear hK K
        try simp only [Act.put, pA9, pB9, pC9]
        refine takeOp 7 (o := ⟨_, _, _, _, _, _⟩) (v := ?_) rfl (by kernel_rfl) (by rfl) hHeld ?_ ?_; rotate_left; (next => intro w' hSw; (try dsimp only at hSw); go_simp; all_goals with_reducible rfl); simp only [Act.put, pA9, pB9, pC9]
        refine takeOp 8 (o := ⟨_, _, _, _, _, _⟩) (v := ?_) rfl (by kernel_rfl) (by rfl) hHeld ?_ ?_; rotate_left; (next => intro w' hSw; (try dsimp only at hSw); go_simp; all_goals with_reducible rfl); simp only [Act.put, pA9, pB9, pC9]
        refine takeOp 9 (o := ⟨_, _, _, _, _, _⟩) (v := ?_) rfl (by kernel_rfl) (by rfl) hHeld ?_ ?_; rotate_left; (next => intro w' hSw; (try dsimp only at hSw); go_simp; all_goals with_reducible rfl); simp only [Act.put, pA9, pB9, pC9]
        refine takeOp 10 (o := ⟨_, _, _, _, _, _⟩) (v := ?_) rfl (by kernel_rfl) (by rfl) hHeld ?_ ?_; rotate_left; (next => intro w' hSw; (try dsimp only at hSw); go_simp; all_goals with_reducible rfl); simp only [Act.put, pA9, pB9, pC9]
        refine takeOp 11 (o := ⟨_, _, _, _, _, _⟩) (v := ?_) rfl (by kernel_rfl) (by rfl) hHeld ?_ ?_; rotate_left; (next => intro w' hSw; (try dsimp only at hSw); go_simp; all_goals with_reducible rfl); simp only [Act.put, pA9, pB9, pC9]
        refine takeOp 12 (o := ⟨_, _, _, _, _, _⟩) (v := ?_) rfl (by kernel_rfl) (by rfl) hHeld ?_ ?_; rotate_left; (next => intro w' hSw; (try dsimp only at hSw); go_simp; all_goals with_reducible rfl); simp only [Act.put, pA9, pB9, pC9]
        refine takeOp 13 (o := ⟨_, _, _, _, _, _⟩) (v := ?_) rfl (by kernel_rfl) (by rfl) hHeld ?_ ?_; rotate_left; (next => intro w' hSw; (try dsimp only at hSw); go_simp; all_goals with_reducible rfl); simp only [Act.put, pA9, pB9, pC9]
        refine takeOp 14 (o := ⟨_, _, _, _, _, _⟩) (v := ?_) rfl (by kernel_rfl) (by rfl) hHeld ?_ ?_; rotate_left; (next => intro w' hSw; (try dsimp only at hSw); go_simp; all_goals with_reducible rfl); simp only [Act.put, pA9, pB9, pC9]
        refine takeOp 15 (o := ⟨_, _, _, _, _, _⟩) (v := ?_) rfl (by kernel_rfl) (by rfl) hHeld ?_ ?_; rotate_left; (next => intro w' hSw; (try dsimp only at hSw); go_simp; all_goals with_reducible rfl); simp only [Act.put, pA9, pB9, pC9]
        refine takeOp 16 (o := ⟨_, _, _, _, _, _⟩) (v := ?_) rfl (by kernel_rfl) (by rfl) hHeld ?_ ?_; rotate_left; (next => intro w' hSw; (try dsimp only at hSw); go_simp; all_goals with_reducible rfl); simp only [Act.put, pA9, pB9, pC9]
        refine takeOp 17 (o := ⟨_, _, _, _, _, _⟩) (v := ?_) rfl (by kernel_rfl) (by rfl) hHeld ?_ ?_; rotate_left; (next => intro w' hSw; (try dsimp only at hSw); go_simp; all_goals with_reducible rfl); simp only [Act.put, pA9, pB9, pC9]
        refine takeOp 18 (o := ⟨_, _, _, _, _, _⟩) (v := ?_) rfl (by kernel_rfl) (by rfl) hHeld ?_ ?_; rotate_left; (next => intro w' hSw; (try dsimp only at hSw); go_simp; all_goals with_reducible rfl); simp only [Act.put, pA9, pB9, pC9]
        refine takeOp 19 (o := ⟨_, _, _, _, _, _⟩) (v := ?_) rfl (by kernel_rfl) (by rfl) hHeld ?_ ?_; rotate_left; (next => intro w' hSw; (try dsimp only at hSw); go_simp; all_goals with_reducible rfl); simp only [Act.put, pA9, pB9, pC9]
        refine wpAnyH_ready (rs := [20]) (by kernel_rfl) (by simp) ?_
        refine AllReadyH.cons (o := ⟨_, _, _, _, _, _⟩) rfl (fun K hK => ?_) AllReadyH.nil
        go_simp
        refine (On_any x.s e _).mono ?_
        rintro r w4 ⟨rfl, k4, hw4⟩
        have b4 : Below w3.heap.size w3 w4 := by rw [hw4]; exact below_drewN (Below.refl _ _) k4
        clear hw4
        rw [V3.out]
        have K4 := Hid.of (K3.out.next b4)
        clear b4 hHeld c0 c1 c2 c3 c4 c5 c6 c7 K3
        obtain ⟨c0, c1, c2, c3, c4, c5, c6, c7⟩ := K4.out.at
        refine hK.out _ _ ⟨c0, c1, c2, c3, c4, c5, c6, c7⟩ (fun hHeld => ?_)
        clear hK K
        try simp only [Act.put, pA9, pB9, pC9]
        refine takeOp 21 (o := ⟨_, _, _, _, _, _⟩) (v := ?_) rfl (by kernel_rfl) (by rfl) hHeld ?_ ?_; rotate_left; (next => intro w' hSw; (try dsimp only at hSw); go_simp; all_goals with_reducible rfl); simp only [Act.put, pA9, pB9, pC9]
        refine takeOp 22 (o := ⟨_, _, _, _, _, _⟩) (v := ?_) rfl (by kernel_rfl) (by rfl) hHeld ?_ ?_; rotate_left; (next => intro w' hSw; (try dsimp only at hSw); go_simp; all_goals with_reducible rfl); simp only [Act.put, pA9, pB9, pC9]
        refine skipOp 23 (o := ⟨_, _, _, _, _, _⟩) rfl (by kernel_rfl) (by rfl) hHeld ?_
        simp only [Act.put, pA9, pB9, pC9]
        refine skipOp 24 (o := ⟨_, _, _, _, _, _⟩) rfl (by kernel_rfl) (by rfl) hHeld ?_
        simp only [Act.put, pA9, pB9, pC9]
        refine skipOp 25 (o := ⟨_, _, _, _, _, _⟩) rfl (by kernel_rfl) (by rfl) hHeld ?_
        simp only [Act.put, pA9, pB9, pC9]
        refine takeOp 26 (o := ⟨_, _, _, _, _, _⟩) (v := ?_) rfl (by kernel_rfl) (by rfl) hHeld ?_ ?_; rotate_left; (next => intro w' hSw; (try dsimp only at hSw); go_simp; all_goals with_reducible rfl); simp only [Act.put, pA9, pB9, pC9]
        refine takeOp 27 (o := ⟨_, _, _, _, _, _⟩) (v := ?_) rfl (by kernel_rfl) (by rfl) hHeld ?_ ?_; rotate_left; (next => intro w' hSw; (try dsimp only at hSw); go_simp; all_goals with_reducible rfl); simp only [Act.put, pA9, pB9, pC9]
        refine wpAnyH_done (by kernel_rfl) ?_ _
        refine NoPanic.normal ?_
        go_wp2
        go_ret
        exact ⟨by simp, K4.out.fr⟩
      · go_enter Tryz.func249, Tryz.ntmps249
        go_upto_region 1 with fail
        rw [HW.out]
        rw [HQ.out]
        clear HW
        refine wp_region_noPanic ?_
        refine wp_region_held_drew (S := fun w' => w'.cell? ⟨q, 0, none⟩ = some (.string x.n) ∧ w'.cell? ⟨q, 1, none⟩ = some (.int .i64 x.s) ∧ w'.cell? ⟨q, 2, none⟩ = some (.int .i64 x.a.c) ∧ w'.cell? ⟨q, 3, none⟩ = some (.int .i64 x.a.hi) ∧ w'.cell? ⟨q, 4, none⟩ = some (.int .u64 x.a.lo) ∧ w'.cell? ⟨q, 5, none⟩ = some (.int .i64 x.a.mn) ∧ w'.cell? ⟨q, 6, none⟩ = some (.int .i64 x.a.mx) ∧ w'.cell? ⟨p, 0, none⟩ = some (.int .i64 e)) (by kernel_rfl) ?_ (fun hHeld => ?_)
        · exact ⟨c0, c1, c2, c3, c4, c5, c6, c7⟩
        refine takeOp 0 (o := ⟨_, _, _, _, _, _⟩) (v := ?_) rfl (by kernel_rfl) (by rfl) hHeld ?_ ?_; rotate_left; (next => intro w' hSw; (try dsimp only at hSw); go_simp; all_goals with_reducible rfl); simp only [Act.put, pA9, pB9, pC9]
        refine takeOp 1 (o := ⟨_, _, _, _, _, _⟩) (v := ?_) rfl (by kernel_rfl) (by rfl) hHeld ?_ ?_; rotate_left; (next => intro w' hSw; (try dsimp only at hSw); go_simp; all_goals with_reducible rfl); simp only [Act.put, pA9, pB9, pC9]
        refine takeOp 2 (o := ⟨_, _, _, _, _, _⟩) (v := ?_) rfl (by kernel_rfl) (by rfl) hHeld ?_ ?_; rotate_left; (next => intro w' hSw; (try dsimp only at hSw); go_simp; all_goals with_reducible rfl); simp only [Act.put, pA9, pB9, pC9]
        refine takeOp 3 (o := ⟨_, _, _, _, _, _⟩) (v := ?_) rfl (by kernel_rfl) (by rfl) hHeld ?_ ?_; rotate_left; (next => intro w' hSw; (try dsimp only at hSw); go_simp; all_goals with_reducible rfl); simp only [Act.put, pA9, pB9, pC9]
        refine takeOp 4 (o := ⟨_, _, _, _, _, _⟩) (v := ?_) rfl (by kernel_rfl) (by rfl) hHeld ?_ ?_; rotate_left; (next => intro w' hSw; (try dsimp only at hSw); go_simp; all_goals with_reducible rfl); simp only [Act.put, pA9, pB9, pC9]
        refine wpAnyH_ready (rs := [5]) (by kernel_rfl) (by simp) ?_
        refine AllReadyH.cons (o := ⟨_, _, _, _, _, _⟩) rfl (fun K hK => ?_) AllReadyH.nil
        go_simp
        obtain ⟨w2, hw2⟩ : ∃ w2, (w1.alloc (.cells #[.string x.n] 9)).drew = w2 := ⟨_, rfl⟩
        have b2 : Below w1.heap.size w1 w2 := by rw [← hw2]; exact ((Below.refl _ _).alloc (Nat.le_refl _) _).drew
        have N2 : Hid (CellRow w2 (.slice (some ⟨w1.heap.size, 0, none⟩) 1 1) 1 ([x.n].map Value.string)) := Hid.of (by rw [← hw2]; exact one_name w1 x.n _)
        rw [hw2]
        clear hw2
        have K2 := Hid.of (K1.out.next b2)
        clear b2 hHeld c0 c1 c2 c3 c4 c5 c6 c7 K1
        obtain ⟨c0, c1, c2, c3, c4, c5, c6, c7⟩ := K2.out.at
        refine hK.out _ _ ⟨c0, c1, c2, c3, c4, c5, c6, c7⟩ (fun hHeld => ?_)
        clear hK K
        try simp only [Act.put, pA9, pB9, pC9]
        refine wpAnyH_ready (rs := [6]) (by kernel_rfl) (by simp) ?_
        refine AllReadyH.cons (o := ⟨_, _, _, _, _, _⟩) rfl (fun K hK => ?_) AllReadyH.nil
        go_simp
        refine (valid_any _ [x.n] _ N2.out (by simp) (fun s hs => by rw [List.mem_singleton.1 hs]; exact F1.out)).mono ?_
        rintro r w3 ⟨rfl, k3, hw3⟩
        have b3 : Below w2.heap.size w2 w3 := by rw [hw3]; exact below_drewN (Below.refl _ _) k3
        clear hw3
        rw [show ([x.n].all nOk) = true from by rw [List.all_cons, V1.out]; rfl]
        have K3 := Hid.of (K2.out.next b3)
        clear b3 hHeld c0 c1 c2 c3 c4 c5 c6 c7 K2
        obtain ⟨c0, c1, c2, c3, c4, c5, c6, c7⟩ := K3.out.at
        refine hK.out _ _ ⟨c0, c1, c2, c3, c4, c5, c6, c7⟩ (fun hHeld => ?_)
        clear hK K
        try simp only [Act.put, pA9, pB9, pC9]
        refine takeOp 7 (o := ⟨_, _, _, _, _, _⟩) (v := ?_) rfl (by kernel_rfl) (by rfl) hHeld ?_ ?_; rotate_left; (next => intro w' hSw; (try dsimp only at hSw); go_simp; all_goals with_reducible rfl); simp only [Act.put, pA9, pB9, pC9]
        refine takeOp 8 (o := ⟨_, _, _, _, _, _⟩) (v := ?_) rfl (by kernel_rfl) (by rfl) hHeld ?_ ?_; rotate_left; (next => intro w' hSw; (try dsimp only at hSw); go_simp; all_goals with_reducible rfl); simp only [Act.put, pA9, pB9, pC9]
        refine takeOp 9 (o := ⟨_, _, _, _, _, _⟩) (v := ?_) rfl (by kernel_rfl) (by rfl) hHeld ?_ ?_; rotate_left; (next => intro w' hSw; (try dsimp only at hSw); go_simp; all_goals with_reducible rfl); simp only [Act.put, pA9, pB9, pC9]
        refine takeOp 10 (o := ⟨_, _, _, _, _, _⟩) (v := ?_) rfl (by kernel_rfl) (by rfl) hHeld ?_ ?_; rotate_left; (next => intro w' hSw; (try dsimp only at hSw); go_simp; all_goals with_reducible rfl); simp only [Act.put, pA9, pB9, pC9]
        refine takeOp 11 (o := ⟨_, _, _, _, _, _⟩) (v := ?_) rfl (by kernel_rfl) (by rfl) hHeld ?_ ?_; rotate_left; (next => intro w' hSw; (try dsimp only at hSw); go_simp; all_goals with_reducible rfl); simp only [Act.put, pA9, pB9, pC9]
        refine takeOp 12 (o := ⟨_, _, _, _, _, _⟩) (v := ?_) rfl (by kernel_rfl) (by rfl) hHeld ?_ ?_; rotate_left; (next => intro w' hSw; (try dsimp only at hSw); go_simp; all_goals with_reducible rfl); simp only [Act.put, pA9, pB9, pC9]
        refine takeOp 13 (o := ⟨_, _, _, _, _, _⟩) (v := ?_) rfl (by kernel_rfl) (by rfl) hHeld ?_ ?_; rotate_left; (next => intro w' hSw; (try dsimp only at hSw); go_simp; all_goals with_reducible rfl); simp only [Act.put, pA9, pB9, pC9]
        refine takeOp 14 (o := ⟨_, _, _, _, _, _⟩) (v := ?_) rfl (by kernel_rfl) (by rfl) hHeld ?_ ?_; rotate_left; (next => intro w' hSw; (try dsimp only at hSw); go_simp; all_goals with_reducible rfl); simp only [Act.put, pA9, pB9, pC9]
        refine takeOp 15 (o := ⟨_, _, _, _, _, _⟩) (v := ?_) rfl (by kernel_rfl) (by rfl) hHeld ?_ ?_; rotate_left; (next => intro w' hSw; (try dsimp only at hSw); go_simp; all_goals with_reducible rfl); simp only [Act.put, pA9, pB9, pC9]
        refine takeOp 16 (o := ⟨_, _, _, _, _, _⟩) (v := ?_) rfl (by kernel_rfl) (by rfl) hHeld ?_ ?_; rotate_left; (next => intro w' hSw; (try dsimp only at hSw); go_simp; all_goals with_reducible rfl); simp only [Act.put, pA9, pB9, pC9]
        refine takeOp 17 (o := ⟨_, _, _, _, _, _⟩) (v := ?_) rfl (by kernel_rfl) (by rfl) hHeld ?_ ?_; rotate_left; (next => intro w' hSw; (try dsimp only at hSw); go_simp; all_goals with_reducible rfl); simp only [Act.put, pA9, pB9, pC9]
        refine takeOp 18 (o := ⟨_, _, _, _, _, _⟩) (v := ?_) rfl (by kernel_rfl) (by rfl) hHeld ?_ ?_; rotate_left; (next => intro w' hSw; (try dsimp only at hSw); go_simp; all_goals with_reducible rfl); simp only [Act.put, pA9, pB9, pC9]
        refine takeOp 19 (o := ⟨_, _, _, _, _, _⟩) (v := ?_) rfl (by kernel_rfl) (by rfl) hHeld ?_ ?_; rotate_left; (next => intro w' hSw; (try dsimp only at hSw); go_simp; all_goals with_reducible rfl); simp only [Act.put, pA9, pB9, pC9]
        refine wpAnyH_ready (rs := [20]) (by kernel_rfl) (by simp) ?_
        refine AllReadyH.cons (o := ⟨_, _, _, _, _, _⟩) rfl (fun K hK => ?_) AllReadyH.nil
        go_simp
        refine (On_any x.s e _).mono ?_
        rintro r w4 ⟨rfl, k4, hw4⟩
        have b4 : Below w3.heap.size w3 w4 := by rw [hw4]; exact below_drewN (Below.refl _ _) k4
        clear hw4
        rw [V3.out]
        have K4 := Hid.of (K3.out.next b4)
        clear b4 hHeld c0 c1 c2 c3 c4 c5 c6 c7 K3
        obtain ⟨c0, c1, c2, c3, c4, c5, c6, c7⟩ := K4.out.at
        refine hK.out _ _ ⟨c0, c1, c2, c3, c4, c5, c6, c7⟩ (fun hHeld => ?_)
        clear hK K
        try simp only [Act.put, pA9, pB9, pC9]
        refine takeOp 21 (o := ⟨_, _, _, _, _, _⟩) (v := ?_) rfl (by kernel_rfl) (by rfl) hHeld ?_ ?_; rotate_left; (next => intro w' hSw; (try dsimp only at hSw); go_simp; all_goals with_reducible rfl); simp only [Act.put, pA9, pB9, pC9]
        refine takeOp 22 (o := ⟨_, _, _, _, _, _⟩) (v := ?_) rfl (by kernel_rfl) (by rfl) hHeld ?_ ?_; rotate_left; (next => intro w' hSw; (try dsimp only at hSw); go_simp; all_goals with_reducible rfl); simp only [Act.put, pA9, pB9, pC9]
        refine takeOp 23 (o := ⟨_, _, _, _, _, _⟩) (v := ?_) rfl (by kernel_rfl) (by rfl) hHeld ?_ ?_; rotate_left; (next => intro w' hSw; (try dsimp only at hSw); go_simp; all_goals with_reducible rfl); simp only [Act.put, pA9, pB9, pC9]
        refine takeOp 24 (o := ⟨_, _, _, _, _, _⟩) (v := ?_) rfl (by kernel_rfl) (by rfl) hHeld ?_ ?_; rotate_left; (next => intro w' hSw; (try dsimp only at hSw); go_simp; all_goals with_reducible rfl); simp only [Act.put, pA9, pB9, pC9]
        refine wpAnyH_ready (rs := [25]) (by kernel_rfl) (by simp) ?_
        refine AllReadyH.cons (o := ⟨_, _, _, _, _, _⟩) rfl (fun K hK => ?_) AllReadyH.nil
        go_simp
        refine (aggValid_any x.a _).mono ?_
        rintro r w5 ⟨rfl, b5⟩
        rw [V4.out]
        have K5 := Hid.of (K4.out.next b5)
        clear b5 hHeld c0 c1 c2 c3 c4 c5 c6 c7 K4
        obtain ⟨c0, c1, c2, c3, c4, c5, c6, c7⟩ := K5.out.at
        refine hK.out _ _ ⟨c0, c1, c2, c3, c4, c5, c6, c7⟩ (fun hHeld => ?_)
        clear hK K
        try simp only [Act.put, pA9, pB9, pC9]
        refine takeOp 26 (o := ⟨_, _, _, _, _, _⟩) (v := ?_) rfl (by kernel_rfl) (by rfl) hHeld ?_ ?_; rotate_left; (next => intro w' hSw; (try dsimp only at hSw); go_simp; all_goals with_reducible rfl); simp only [Act.put, pA9, pB9, pC9]
        refine takeOp 27 (o := ⟨_, _, _, _, _, _⟩) (v := ?_) rfl (by kernel_rfl) (by rfl) hHeld ?_ ?_; rotate_left; (next => intro w' hSw; (try dsimp only at hSw); go_simp; all_goals with_reducible rfl); simp only [Act.put, pA9, pB9, pC9]
        refine wpAnyH_done (by kernel_rfl) ?_ _
        refine NoPanic.normal ?_
        go_wp2
        go_ret
        exact ⟨by simp [hs], K5.out.fr⟩
    · go_enter Tryz.func249, Tryz.ntmps249
      go_upto_region 1 with fail
      rw [HW.out]
      rw [HQ.out]
      clear HW
      refine wp_region_noPanic ?_
      refine wp_region_held_drew (S := fun w' => w'.cell? ⟨q, 0, none⟩ = some (.string x.n) ∧ w'.cell? ⟨q, 1, none⟩ = some (.int .i64 x.s) ∧ w'.cell? ⟨q, 2, none⟩ = some (.int .i64 x.a.c) ∧ w'.cell? ⟨q, 3, none⟩ = some (.int .i64 x.a.hi) ∧ w'.cell? ⟨q, 4, none⟩ = some (.int .u64 x.a.lo) ∧ w'.cell? ⟨q, 5, none⟩ = some (.int .i64 x.a.mn) ∧ w'.cell? ⟨q, 6, none⟩ = some (.int .i64 x.a.mx) ∧ w'.cell? ⟨p, 0, none⟩ = some (.int .i64 e)) (by kernel_rfl) ?_ (fun hHeld => ?_)
      · exact ⟨c0, c1, c2, c3, c4, c5, c6, c7⟩
      refine takeOp 0 (o := ⟨_, _, _, _, _, _⟩) (v := ?_) rfl (by kernel_rfl) (by rfl) hHeld ?_ ?_; rotate_left; (next => intro w' hSw; (try dsimp only at hSw); go_simp; all_goals with_reducible rfl); simp only [Act.put, pA9, pB9, pC9]
      refine takeOp 1 (o := ⟨_, _, _, _, _, _⟩) (v := ?_) rfl (by kernel_rfl) (by rfl) hHeld ?_ ?_; rotate_left; (next => intro w' hSw; (try dsimp only at hSw); go_simp; all_goals with_reducible rfl); simp only [Act.put, pA9, pB9, pC9]
      refine takeOp 2 (o := ⟨_, _, _, _, _, _⟩) (v := ?_) rfl (by kernel_rfl) (by rfl) hHeld ?_ ?_; rotate_left; (next => intro w' hSw; (try dsimp only at hSw); go_simp; all_goals with_reducible rfl); simp only [Act.put, pA9, pB9, pC9]
      refine takeOp 3 (o := ⟨_, _, _, _, _, _⟩) (v := ?_) rfl (by kernel_rfl) (by rfl) hHeld ?_ ?_; rotate_left; (next => intro w' hSw; (try dsimp only at hSw); go_simp; all_goals with_reducible rfl); simp only [Act.put, pA9, pB9, pC9]
      refine takeOp 4 (o := ⟨_, _, _, _, _, _⟩) (v := ?_) rfl (by kernel_rfl) (by rfl) hHeld ?_ ?_; rotate_left; (next => intro w' hSw; (try dsimp only at hSw); go_simp; all_goals with_reducible rfl); simp only [Act.put, pA9, pB9, pC9]
      refine wpAnyH_ready (rs := [5]) (by kernel_rfl) (by simp) ?_
      refine AllReadyH.cons (o := ⟨_, _, _, _, _, _⟩) rfl (fun K hK => ?_) AllReadyH.nil
      go_simp
      obtain ⟨w2, hw2⟩ : ∃ w2, (w1.alloc (.cells #[.string x.n] 9)).drew = w2 := ⟨_, rfl⟩
      have b2 : Below w1.heap.size w1 w2 := by rw [← hw2]; exact ((Below.refl _ _).alloc (Nat.le_refl _) _).drew
      have N2 : Hid (CellRow w2 (.slice (some ⟨w1.heap.size, 0, none⟩) 1 1) 1 ([x.n].map Value.string)) := Hid.of (by rw [← hw2]; exact one_name w1 x.n _)
      rw [hw2]
      clear hw2
      have K2 := Hid.of (K1.out.next b2)
      clear b2 hHeld c0 c1 c2 c3 c4 c5 c6 c7 K1
      obtain ⟨c0, c1, c2, c3, c4, c5, c6, c7⟩ := K2.out.at
      refine hK.out _ _ ⟨c0, c1, c2, c3, c4, c5, c6, c7⟩ (fun hHeld => ?_)
      clear hK K
      try simp only [Act.put, pA9, pB9, pC9]
      refine wpAnyH_ready (rs := [6]) (by kernel_rfl) (by simp) ?_
      refine AllReadyH.cons (o := ⟨_, _, _, _, _, _⟩) rfl (fun K hK => ?_) AllReadyH.nil
      go_simp
      refine (valid_any _ [x.n] _ N2.out (by simp) (fun s hs => by rw [List.mem_singleton.1 hs]; exact F1.out)).mono ?_
      rintro r w3 ⟨rfl, k3, hw3⟩
      have b3 : Below w2.heap.size w2 w3 := by rw [hw3]; exact below_drewN (Below.refl _ _) k3
      clear hw3
      rw [show ([x.n].all nOk) = true from by rw [List.all_cons, V1.out]; rfl]
      have K3 := Hid.of (K2.out.next b3)
      clear b3 hHeld c0 c1 c2 c3 c4 c5 c6 c7 K2
      obtain ⟨c0, c1, c2, c3, c4, c5, c6, c7⟩ := K3.out.at
      refine hK.out _ _ ⟨c0, c1, c2, c3, c4, c5, c6, c7⟩ (fun hHeld => ?_)
      clear hK K
      try simp only [Act.put, pA9, pB9, pC9]
      refine takeOp 7 (o := ⟨_, _, _, _, _, _⟩) (v := ?_) rfl (by kernel_rfl) (by rfl) hHeld ?_ ?_; rotate_left; (next => intro w' hSw; (try dsimp only at hSw); go_simp; all_goals with_reducible rfl); simp only [Act.put, pA9, pB9, pC9]
      refine takeOp 8 (o := ⟨_, _, _, _, _, _⟩) (v := ?_) rfl (by kernel_rfl) (by rfl) hHeld ?_ ?_; rotate_left; (next => intro w' hSw; (try dsimp only at hSw); go_simp; all_goals with_reducible rfl); simp only [Act.put, pA9, pB9, pC9]
      refine takeOp 9 (o := ⟨_, _, _, _, _, _⟩) (v := ?_) rfl (by kernel_rfl) (by rfl) hHeld ?_ ?_; rotate_left; (next => intro w' hSw; (try dsimp only at hSw); go_simp; all_goals with_reducible rfl); simp only [Act.put, pA9, pB9, pC9]
      refine takeOp 10 (o := ⟨_, _, _, _, _, _⟩) (v := ?_) rfl (by kernel_rfl) (by rfl) hHeld ?_ ?_; rotate_left; (next => intro w' hSw; (try dsimp only at hSw); go_simp; all_goals with_reducible rfl); simp only [Act.put, pA9, pB9, pC9]
      refine takeOp 11 (o := ⟨_, _, _, _, _, _⟩) (v := ?_) rfl (by kernel_rfl) (by rfl) hHeld ?_ ?_; rotate_left; (next => intro w' hSw; (try dsimp only at hSw); go_simp; all_goals with_reducible rfl); simp only [Act.put, pA9, pB9, pC9]
      refine takeOp 12 (o := ⟨_, _, _, _, _, _⟩) (v := ?_) rfl (by kernel_rfl) (by rfl) hHeld ?_ ?_; rotate_left; (next => intro w' hSw; (try dsimp only at hSw); go_simp; all_goals with_reducible rfl); simp only [Act.put, pA9, pB9, pC9]
      refine takeOp 13 (o := ⟨_, _, _, _, _, _⟩) (v := ?_) rfl (by kernel_rfl) (by rfl) hHeld ?_ ?_; rotate_left; (next => intro w' hSw; (try dsimp only at hSw); go_simp; all_goals with_reducible rfl); simp only [Act.put, pA9, pB9, pC9]
      refine skipOp 14 (o := ⟨_, _, _, _, _, _⟩) rfl (by kernel_rfl) (by rfl) hHeld ?_
      simp only [Act.put, pA9, pB9, pC9]
      refine skipOp 15 (o := ⟨_, _, _, _, _, _⟩) rfl (by kernel_rfl) (by rfl) hHeld ?_
      simp only [Act.put, pA9, pB9, pC9]
      refine skipOp 16 (o := ⟨_, _, _, _, _, _⟩) rfl (by kernel_rfl) (by rfl) hHeld ?_
      simp only [Act.put, pA9, pB9, pC9]
      refine skipOp 17 (o := ⟨_, _, _, _, _, _⟩) rfl (by kernel_rfl) (by rfl) hHeld ?_
      simp only [Act.put, pA9, pB9, pC9]
      refine skipOp 18 (o := ⟨_, _, _, _, _, _⟩) rfl (by kernel_rfl) (by rfl) hHeld ?_
      simp only [Act.put, pA9, pB9, pC9]
      refine skipOp 19 (o := ⟨_, _, _, _, _, _⟩) rfl (by kernel_rfl) (by rfl) hHeld ?_
      simp only [Act.put, pA9, pB9, pC9]
      refine skipOp 20 (o := ⟨_, _, _, _, _, _⟩) rfl (by kernel_rfl) (by rfl) hHeld ?_
      simp only [Act.put, pA9, pB9, pC9]
      refine takeOp 21 (o := ⟨_, _, _, _, _, _⟩) (v := ?_) rfl (by kernel_rfl) (by rfl) hHeld ?_ ?_; rotate_left; (next => intro w' hSw; (try dsimp only at hSw); go_simp; all_goals with_reducible rfl); simp only [Act.put, pA9, pB9, pC9]
      refine takeOp 22 (o := ⟨_, _, _, _, _, _⟩) (v := ?_) rfl (by kernel_rfl) (by rfl) hHeld ?_ ?_; rotate_left; (next => intro w' hSw; (try dsimp only at hSw); go_simp; all_goals with_reducible rfl); simp only [Act.put, pA9, pB9, pC9]
      refine skipOp 23 (o := ⟨_, _, _, _, _, _⟩) rfl (by kernel_rfl) (by rfl) hHeld ?_
      simp only [Act.put, pA9, pB9, pC9]
      refine skipOp 24 (o := ⟨_, _, _, _, _, _⟩) rfl (by kernel_rfl) (by rfl) hHeld ?_
      simp only [Act.put, pA9, pB9, pC9]
      refine skipOp 25 (o := ⟨_, _, _, _, _, _⟩) rfl (by kernel_rfl) (by rfl) hHeld ?_
      simp only [Act.put, pA9, pB9, pC9]
      refine takeOp 26 (o := ⟨_, _, _, _, _, _⟩) (v := ?_) rfl (by kernel_rfl) (by rfl) hHeld ?_ ?_; rotate_left; (next => intro w' hSw; (try dsimp only at hSw); go_simp; all_goals with_reducible rfl); simp only [Act.put, pA9, pB9, pC9]
      refine takeOp 27 (o := ⟨_, _, _, _, _, _⟩) (v := ?_) rfl (by kernel_rfl) (by rfl) hHeld ?_ ?_; rotate_left; (next => intro w' hSw; (try dsimp only at hSw); go_simp; all_goals with_reducible rfl); simp only [Act.put, pA9, pB9, pC9]
      refine wpAnyH_done (by kernel_rfl) ?_ _
      refine NoPanic.normal ?_
      go_wp2
      go_ret
      exact ⟨by rw [decide_eq_false (show ¬ 0 ≤ x.s by omega)]; rfl, K3.out.fr⟩

theorem ttakes_any {w : World} {p b : Nat} {e : Int} {l : List TRec} {m : ByteArray → Option Value} (h : TIs w p e l b m) (x : TRec) (hx : TFit x) :
    Calls Tryz.prog 249 #[tptr p, rcv x] w fun r w' => r = .returned (.bool (tOk e x)) ∧ Below w.heap.size w w' := takes_at h.c0 h.lt_p x hx

end Go.Proofs.YtbhcafginmkaaaaGreat

namespace Go.Proofs.YtbhcafginmkaaaaGreat
open Go.RowKit Go.Lib

/-- How many blocks so many records take. -/
def blk (c : Nat) : Nat := (c + 2) / 3

theorem ceil_blk (c : Nat) (hc : c ≤ 1000000) : gCeil (c : Int) 3 = ((blk c * 3 : Nat) : Int) := by
  unfold gCeil
  rw [if_neg (by decide)]
  obtain ⟨g1, g2⟩ := gPast_bounds (c : Int) (e := 3) (by decide)
  have g3 : gPast (c : Int) 3 = (c : Int) % 3 := rfl
  unfold blk
  split
  · omega
  · rw [if_neg (by omega)]
    omega

set_option maxHeartbeats 800000 in
theorem blocks_any (c : Nat) (hc : c ≤ 1000000) (w : World) :
    Calls Tryz.prog 258 #[.int .i64 c] w fun x w' => x = .returned (.int .i64 (blk c : Nat)) ∧ ∃ q, w' = w.drewN q := by
  have hce := Ceil_any (c : Int) 3 ⟨by omega, by omega⟩ ⟨by decide, by decide⟩ w
  rw [ceil_blk c hc] at hce
  obtain ⟨k, hk⟩ : ∃ k, blk c = k := ⟨_, rfl⟩
  rw [hk] at hce ⊢
  have hkc : k ≤ 1000000 := by rw [← hk]; unfold blk; omega
  obtain ⟨z, hz⟩ : ∃ z : Int, ((k * 3 : Nat) : Int) = z := ⟨_, rfl⟩
  rw [hz] at hce
  have hzq : z / 3 = (k : Int) := by rw [← hz]; omega
  have HZ := Hid.of hzq
  have hz0 : 0 ≤ z ∧ z ≤ 3000000 := by omega
  have hz1 := hz0.1
  have hz2 := hz0.2
  clear hz hk hzq hz0
  go_enter Tryz.func258, Tryz.ntmps258
  go_wp2_with fail
  refine hce.mono ?_
  rintro x w1 ⟨rfl, q, rfl⟩
  go_wp2
  rw [HZ.out]
  go_ret
  exact ⟨rfl, q, rfl⟩

/-- How many records of a shard are counted. -/
def cSh (l : List TRec) (left : ByteArray → Bool) (n k : Int) : Nat := cntN l fun x => !left x && decide (nShard x n = k)

abbrev lessN (left : ByteArray → Bool) (s : ByteArray) : ByteArray → Bool := fun x => left x && !decide (x = s)
theorem cSh_next {l : List TRec} {left : ByteArray → Bool} {s : ByteArray} (h : left s = true) (n k : Int) : cSh l (lessN left s) n k = cSh l left n k + if k = nShard s n then (ser l s).length else 0 := by
  unfold cSh
  by_cases hk : k = nShard s n
  · rw [if_pos hk]
    refine cntN_more (by simp [h]) (fun x => ?_)
    by_cases hx : x = s
    · subst hx; simp [lessN, hk]
    · simp [lessN, hx]
  · rw [if_neg hk, Nat.add_zero]
    congr 1
    funext x
    by_cases hx : x = s
    · subst hx
      have : decide (nShard x n = k) = false := decide_eq_false (fun c => hk c.symm)
      rw [this, Bool.and_false, Bool.and_false]
    · simp [lessN, hx]
theorem cSh_start {l : List TRec} {left : ByteArray → Bool} (h : ∀ x ∈ l, left x.n = true) (n k : Int) : cSh l left n k = 0 := cntN_none fun x hx => by rw [h x hx]; rfl
theorem cSh_end {l : List TRec} {left : ByteArray → Bool} (h : ∀ x ∈ l, left x.n = false) (n k : Int) : cSh l left n k = (tShard l k n).length := by
  unfold cSh cntN tShard
  exact congrArg List.length (List.filter_congr (fun x hx => by simp only [h x hx, Bool.not_false, Bool.true_and]))
theorem cSh_le (l : List TRec) (left : ByteArray → Bool) (n k : Int) : cSh l left n k ≤ l.length := cntN_le l _

/-- The sum over the shards that are left. -/
def sumL (N : Nat) (left : Int → Bool) (f : Int → Nat) : Nat := ((List.range N).map fun k : Nat => if left (k : Int) = true then f k else 0).sum

theorem sumL_succ (N : Nat) (left : Int → Bool) (f : Int → Nat) : sumL (N + 1) left f = sumL N left f + if left (N : Int) = true then f N else 0 := by
  unfold sumL
  rw [List.range_succ, List.map_append, List.sum_append]
  simp

theorem sumL_take {N : Nat} {left : Int → Bool} {f : Int → Nat} {s : Int} (hs : left s = true) (h0 : 0 ≤ s) (hN : s < (N : Int)) : sumL N (fun x => left x && !decide (x = s)) f + f s = sumL N left f := by
  induction N with
  | zero => omega
  | succ N ih =>
    rw [sumL_succ, sumL_succ]
    by_cases h : s = (N : Int)
    · have e : ∀ M : Nat, M ≤ N → sumL M (fun x => left x && !decide (x = s)) f = sumL M left f := fun M hM => by
        induction M with
        | zero => rfl
        | succ M ihM =>
          rw [sumL_succ, sumL_succ, ihM (by omega)]
          have : ((M : Int) = s) = False := by simp; omega
          simp [this]
      rw [e N (Nat.le_refl _), ← h, hs]
      simp
    · have := ih (by omega)
      have e : ((N : Int) = s) = False := by simp; omega
      simp only [e, decide_false, Bool.not_false, Bool.and_true]
      omega

theorem sumL_none {N : Nat} {left : Int → Bool} {f : Int → Nat} (h : ∀ s, left s = false) : sumL N left f = 0 := by
  induction N with
  | zero => rfl
  | succ N ih => rw [sumL_succ, ih, h]; rfl

/-- Shards that have no records take no blocks. -/
theorem sumL_need {l : List TRec} {n : Int} {left : Int → Bool} {f : Int → Nat} (hf : ∀ k, f k = blk (tShard l k n).length) (h : ∀ k, left k = false → (tShard l k n).length = 0) : sumL (max n 1).toNat left f = tNeed l n := by
  unfold tNeed sumL
  congr 1
  refine List.map_congr_left fun k _ => ?_
  by_cases hk : left (k : Int) = true
  · rw [if_pos hk, hf]
    rfl
  · rw [if_neg hk, h _ (by simpa using hk)]

abbrev iT : Tryz.prog.underlying 3 = some (.int .i64) := Tryz.underlying3
abbrev imT : Tryz.prog.underlying 284 = some (.map 3 3) := Tryz.underlying284
theorem int_zero (w : World) : (zeroValue 3).run Tryz.prog w = .ok (.int .i64 0) w := by
  obtain ⟨i0, hi, hz0, hz1, hz2⟩ := info_parts (show (Tryz.prog.info? 3).map (fun i => (i.zero, i.size, i.bytes)) = some (some (.int .i64 0), 1, 8) by kernel_rfl)
  simp [zeroValue, typeInfo, hi, hz0]

theorem nShard_low (s : ByteArray) (n : Int) (h : TIn64 n) : 0 ≤ nShard s n ∧ nShard s n < max n 1 ∧ (-9223372036854775808 ≤ nShard s n ∧ nShard s n ≤ 9223372036854775807) := by
  by_cases c : n < 1
  · have : nShard s n = 0 := by unfold nShard; rw [if_pos c]
    rw [this]
    omega
  · have := nShard_in s n (by omega)
    unfold TIn64 at h
    omega

theorem tNeed_le (l : List TRec) (n : Int) : tNeed l n ≤ l.length := by
  by_cases c : 1 ≤ n
  · exact (tNeed_bounds l n c).2
  · have e0 : ∀ k : Int, tShard l k n = tShard l k 1 := fun k => by
      unfold tShard
      refine List.filter_congr fun x _ => ?_
      have h0 : nShard x.n n = 0 := by unfold nShard; rw [if_pos (by omega)]
      have h1 : nShard x.n 1 = 0 := by have := nShard_in x.n 1 (by decide); omega
      rw [h0, h1]
    have e1 : tNeed l n = tNeed l 1 := by
      unfold tNeed
      rw [show max n 1 = max 1 1 by omega]
      simp only [e0]
    rw [e1]
    exact (tNeed_bounds l 1 (by decide)).2

set_option maxHeartbeats 3200000 in
set_option maxRecDepth 20000 in
theorem need_any {w : World} {p : Nat} {e : Int} {l : List TRec} {F : TFoot} (n : Int) (h : TRep w p e l F) (hl : l.length ≤ 1000) (hn64 : TIn64 n) :
    Calls Tryz.prog 200 #[tptr p, .int .i64 n] w fun x w' => x = .returned (.int .i64 (tNeed l n : Nat)) ∧ Below w.heap.size w w' := by
  have hTM := tNeed_le l n
  obtain ⟨T, hT⟩ : ∃ T, tNeed l n = T := ⟨_, rfl⟩
  rw [hT] at hTM ⊢
  have TT := Hid.of hT
  clear hT
  obtain ⟨b, m, h, -⟩ := h
  have H := Hid.of h
  obtain ⟨M, hM⟩ : ∃ M, l.length = M := ⟨_, rfl⟩
  have LN := Hid.of hM
  have N64 := Hid.of hn64
  have hmk := run_makeMap (P := Tryz.prog) 284 w
  rw [hM] at hl
  clear h hM hn64
  go_enter Tryz.func200, Tryz.ntmps200
  go_upto_region 2 with fail
  obtain ⟨cb, hcb⟩ : ∃ cb, w.heap.size = cb := ⟨_, rfl⟩
  obtain ⟨w1, hw1⟩ : ∃ w1, w.alloc (.map #[] 0) = w1 := ⟨_, rfl⟩
  have B1 : Hid (Below w.heap.size w w1) := Hid.of (by rw [← hw1]; exact (Below.refl _ _).alloc (Nat.le_refl _) _)
  have MI1 : Hid (MapI Tryz.prog 3 w1 cb 0 (fun _ => none)) := Hid.of (by rw [← hw1, ← hcb]; exact MapI.made w)
  have HCB : Hid (w.heap.size = cb) := Hid.of hcb
  have H1 := Hid.of (H.out.below B1.out)
  have hall := tall_any H1.out
  have hm : TMap w1 b M m := by have := H1.out.map; rw [LN.out] at this; exact this
  rw [hw1, hcb]
  clear hmk hw1 hcb
  go_wp2_with fail
  refine hall.mono ?_
  rintro x w2 ⟨rfl, rfl⟩
  go_wp2_with (first
    | (at_range; refine wpList_range_text _ rfl _ 261 rfl 9 266 kT mT b M m rfl hm ?_; intro w3 c0 hrg0 hc0 hg0 hs0)
    | go_in)
  go_frame
  obtain ⟨r0, hr0⟩ : ∃ r0, w2.heap.size = r0 := ⟨_, rfl⟩
  rw [hr0] at hrg0 ⊢
  have R0 : Hid (cb < r0 ∧ w.heap.size ≤ r0 ∧ b < w.heap.size) := Hid.of ⟨by rw [← hr0]; exact MI1.out.lt, by rw [← hr0]; exact B1.out.size, H.out.map.lt⟩
  have B3 := Hid.of (B1.out.grown hg0 B1.out.size (fun j hj => by cases hj))
  have M3 : Hid (MapI Tryz.prog 3 w3 cb 0 (fun _ => none)) := Hid.of (MI1.out.at (hg0.block cb MI1.out.lt (by simp)))
  have RG0 := Hid.of hrg0
  have HC0 := Hid.of hc0
  clear hg0 hs0 hm hall hrg0 hr0 hc0
  go_loopg [] M (fun kx wr => ∃ (left : ByteArray → Bool) (cnt nb : Nat) (mi : Int → Option Value), cnt ≤ kx ∧ nb + cnt ≤ M ∧ Hid (RangeIs Tryz.prog 9 wr b r0 M m left cnt) ∧ Hid (MapI Tryz.prog 3 wr cb nb mi) ∧ Hid (∀ k, (mi k).getD (.int .i64 0) = .int .i64 (cSh l left n k : Nat)) ∧ Hid (∀ k, mi k ≠ none → 0 ≤ k ∧ k < max n 1) ∧ Hid (∀ s, left s = true → (m s).isSome = true) ∧ Hid (Below w.heap.size w wr))
  case atStart =>
    refine ⟨_, c0, 0, _, HC0.out, by have := HC0.out; omega, RG0, M3, Hid.of (fun k => ?_), Hid.of (fun k c => absurd rfl c), Hid.of (fun s hs => hs), B3⟩
    rw [cSh_start (fun x hx => (H.out.some_of hx).2)]
    rfl
  case round =>
    obtain ⟨left, cnt, nb, mi, hck, hnb, RG, MI, HG, HK, HL, HB⟩ := hrel
    have hrg := RG.out
    go_wp2_with (first
      | (at_next; refine wpList_next_text _ rfl _ rfl 9 kT b r0 M m left cnt rfl hrg ?_ ?_)
      | go_in)
    · intro h0 hdone
      have HG2 : Hid (∀ k, (mi k).getD (.int .i64 0) = .int .i64 ((tShard l k n).length : Nat)) := Hid.of (fun k => by rw [HG.out k, cSh_end (fun x hx => hdone _ (H.out.some_of hx).1)])
      have hmi := MI.out
      clear hdone h0 hrg RG HG HL
      go_wp2_with (first
        | (at_range; refine wpList_range_i _ rfl _ 284 rfl 3 3 iT imT cb nb mi rfl hmi ?_; intro w5 c5 hrg5 hc5 hg5 hs5)
        | go_in)
      go_frame
      generalize hwq : wr = wq at *
      obtain ⟨r1, hr1⟩ : ∃ r1, wq.heap.size = r1 := ⟨_, rfl⟩
      rw [hr1] at hrg5 ⊢
      have B5 := Hid.of (HB.out.grown hg5 HB.out.size (fun j hj => by cases hj))
      have R1 : Hid (w.heap.size ≤ r1) := Hid.of (by rw [← hr1]; exact HB.out.size)
      have RG5 := Hid.of hrg5
      clear hg5 hs5 hmi hrg5 hr1
      have T0 : Hid (sumL (max n 1).toNat (fun s => (mi s).isSome) (fun k => blk (tShard l k n).length) = T) := Hid.of (by
        rw [← TT.out]
        refine sumL_need (fun k => rfl) (fun k hk => ?_)
        have := HG2.out k
        cases hmk : mi k with
        | none => rw [hmk] at this; simp only [Option.getD_none, Value.int.injEq] at this; omega
        | some v => rw [hmk] at hk; cases hk)
      go_loopg [8] nb (fun kx av wz => ∃ (lf : Int → Bool) (cn a : Nat), av = .int .i64 a ∧ cn ≤ kx ∧ Hid (RangeI Tryz.prog 3 wz cb r1 nb mi lf cn) ∧ Hid (a + sumL (max n 1).toNat lf (fun k => blk (tShard l k n).length) = T) ∧ Hid (Below w.heap.size w wz))
      case atStart => exact ⟨_, c5, 0, rfl, hc5, RG5, Hid.of (by rw [Nat.zero_add]; exact T0.out), B5⟩
      case round =>
        obtain ⟨lf, cn, a, rfl, hcn, RGI, HS, HBZ⟩ := hrel
        have hrg := RGI.out
        go_wp2_with (first
          | (at_next; refine wpList_next_i _ rfl _ rfl 3 iT cb r1 nb mi lf cn rfl hrg ?_ ?_)
          | go_in)
        · intro h0 hdone
          have ha : a = T := by have := HS.out; rw [sumL_none hdone] at this; omega
          subst ha
          clear hdone h0 hrg
          go_wp2
          go_ret
          exact ⟨rfl, HBZ.out⟩
        · intro s v w6 cn' hls hms hrg6 hlt hg6 hs6 hen
          obtain ⟨k0, k1⟩ := HK.out s (by rw [hms]; exact fun c => by cases c)
          have hv : v = .int .i64 ((tShard l s n).length : Nat) := by have := HG2.out s; rw [hms] at this; exact this
          subst hv
          have hsum := sumL_take (f := fun k => blk (tShard l k n).length) hls k0 (N := (max n 1).toNat) (by omega)
          have hcl : (tShard l s n).length ≤ M := by rw [← LN.out]; exact List.length_filter_le ..
          obtain ⟨C, hC⟩ : ∃ C, (tShard l s n).length = C := ⟨_, rfl⟩
          rw [hC] at hen hcl
          have hbl := blocks_any C (by omega) w6
          obtain ⟨B, hB⟩ : ∃ B, blk C = B := ⟨_, rfl⟩
          have hsum2 : a + B + sumL (max n 1).toNat (fun x => lf x && !decide (x = s)) (fun k => blk (tShard l k n).length) = T := by
            have := HS.out
            simp only [hC, hB] at hsum
            omega
          have SM := Hid.of hsum2
          have hab : a + B ≤ 1000 := by have := LN.out; omega
          rw [hB] at hbl
          have RG6 := Hid.of hrg6
          have B6 := Hid.of (below_next HBZ.out hg6 R1.out HBZ.out.size)
          clear hsum hsum2 hms hls hrg hrg6 hg6 hs6 hC hB
          go_wp2_with fail
          refine hbl.mono ?_
          rintro x w7 ⟨rfl, z, rfl⟩
          go_wp2
          go_roundg cn'
          case measure => omega
          case rel =>
            exact ⟨_, cn', a + B, by go_num, Nat.le_refl _, Hid.of (RG6.out.at rfl rfl), SM, below_drewN B6.out z |> Hid.of⟩
    · intro s v w4 cnt' hs hls hms hrg1 hlt hg1 hs1 hen
      have hv := (H.out.known hs hms).2.1
      obtain ⟨va, vc, rfl, -, -⟩ := own_shape hv
      obtain ⟨k, hk⟩ : ∃ k, (ser l s).length = k := ⟨_, rfl⟩
      have hnx := fun j => cSh_next (l := l) hls n j
      have hle := cSh_le l (lessN left s) n (nShard s n)
      rw [hnx, if_pos rfl, LN.out] at hle
      rw [hk] at hen hle
      have KE := Hid.of hk
      have NX := Hid.of hnx
      have RG4 := Hid.of hrg1
      have B4 := Hid.of (below_next HB.out hg1 R0.out.2.1 HB.out.size)
      have M4 := Hid.of (MI.out.at (hg1.block cb MI.out.lt (fun c => by have := R0.out; have := Option.some.inj c; omega)))
      have LE : Hid (∀ x, lessN left s x = true → (m x).isSome = true) := Hid.of fun x hx => HL.out x (by simp [lessN] at hx; exact hx.1)
      obtain ⟨k0, k1, k2⟩ := nShard_low s n N64.out
      have hsh := shard_any s hs n w4
      have hc := HG.out (nShard s n)
      obtain ⟨sh, hsh2⟩ : ∃ sh, nShard s n = sh := ⟨_, rfl⟩
      rw [hsh2] at hsh hc hle k0 k1 k2
      obtain ⟨c, hcc⟩ : ∃ c, cSh l left n sh = c := ⟨_, rfl⟩
      rw [hcc] at hle hc
      have HC := Hid.of hc
      have CC := Hid.of hcc
      have SE := Hid.of hsh2
      have K2 := Hid.of k2
      clear hv hk hnx hrg hrg1 hg1 hs1 hms hls hsh2 hcc hc k2
      go_wp2_with fail
      refine hsh.mono ?_
      rintro x w5 ⟨rfl, z, hz⟩
      have b5 : Below w4.heap.size w4 w5 := by rw [hz]; exact below_drewN (Below.refl _ _) z
      have RG5 := Hid.of (RG4.out.at (b5.block b RG4.out.is.lt) (b5.block _ RG4.out.lt))
      have hm5 := M4.out.at (b5.block cb M4.out.lt)
      have B5 := Hid.of (B4.out.trans (b5.mono B4.out.size))
      have hnb1 : nb < maxLen := by unfold maxLen; omega
      clear b5 hz hsh
      go_wp2_with (first
        | (at_lookup; refine wpList_look_i _ rfl _ _ 284 rfl 3 3 iT imT cb nb mi (int_zero _) rfl hm5 sh rfl K2.out (.int .i64 c) HC.out ?_)
        | (at_mapUpdate; refine wpList_store_i _ rfl _ _ _ 284 rfl 3 3 iT imT cb nb mi rfl hm5 hnb1 sh rfl K2.out (.int .i64 (c + k : Nat)) (by go_num) ?_; intro w6 hm6 ht6)
        | go_in)
      go_roundg cnt'
      case measure => omega
      case rel =>
        refine ⟨lessN left s, cnt', nb + 1, _, Nat.le_refl _, by omega, Hid.of ?_, Hid.of hm6, Hid.of (fun j => ?_), Hid.of (fun j hj => ?_), LE, Hid.of (B5.out.grown ht6.grown B5.out.size (fun j hj => by cases hj; exact Nat.le_of_eq HCB.out))⟩
        · have hr := RG5.out.lt
          have hb := RG5.out.is.lt
          have := R0.out
          have := HCB.out
          exact RG5.out.at (ht6.grown.block b hb (fun c => by have := Option.some.inj c; omega)) (ht6.grown.block r0 hr (fun c => by have := Option.some.inj c; omega))
        · unfold imPut
          rw [NX.out j, SE.out]
          by_cases e : j = sh
          · rw [if_pos e, if_pos e, e, CC.out, KE.out]
            rfl
          · rw [if_neg e, if_neg e]
            exact HG.out j
        · unfold imPut at hj
          by_cases e : j = sh
          · rw [e]
            exact ⟨k0, k1⟩
          · rw [if_neg e] at hj
            exact HK.out j hj

end Go.Proofs.YtbhcafginmkaaaaGreat
