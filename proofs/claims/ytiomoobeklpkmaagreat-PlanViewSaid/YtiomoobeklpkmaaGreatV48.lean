/-
 A bundle of texts: TMF TMG TMI TMJ TMK TML TMS.
-/
import Derived.Shelf.SlIter.Collect
import Derived.Deep.RegionHeld3
import Derived.Test.YtiomoobeklpkmaaGreatV44
import Derived.Test.YtiomoobeklpkmaaGreatV37
import Derived.Test.YtiomoobeklpkmaaGreatV09
import Derived.Test.YtiomoobeklpkmaaGreatV16
import Derived.Test.YtiomoobeklpkmaaGreatV05
namespace Go.Proofs.YtiomoobeklpkmaaGreat
open Go.RowKit Go.Lib Go.Sort Go.Maps Go.Shelf Go.Proofs

def laysKeys_ren : Go.Shelf.Ren := ⟨fun | 7 => 230 | 10 => 252 | n => n, fun | 23 => 222 | 26 => 9 | 3 => 227 | 28 => 256 | 0 => 0 | 27 => 255 | 33 => 176 | 4 => 4 | n => n, fun | n => n⟩
theorem laysKeys : Go.Proofs.SlLaysZ.n7 Tryz.prog laysKeys_ren := {
 mixed := by kernel_rfl
 f7 := ⟨Tryz.f230.name, by decide, Tryz.func230.trans (congrArg some (by kernel_rfl))⟩
 f10 := ⟨Tryz.f252.name, by decide, Tryz.func252.trans (congrArg some (by kernel_rfl))⟩
 t0 := Tryz.underlying0
 a0 := Tryz.isAgg0
 z0 := Tryz.sizeOf0
 v0 := Tryz.zeroValue0
 t4 := Tryz.underlying4
 a4 := Tryz.isAgg4
 z4 := Tryz.sizeOf4
 v4 := Tryz.zeroValue4
 t23 := Tryz.underlying222
 a23 := Tryz.isAgg222
 z23 := Tryz.sizeOf222
 v23 := Tryz.zeroValue222
 t26 := Tryz.underlying9
 a26 := Tryz.isAgg9
 z26 := Tryz.sizeOf9
 v26 := Tryz.zeroValue9
 t27 := Tryz.underlying255
 a27 := Tryz.isAgg255
 z27 := Tryz.sizeOf255
 v27 := Tryz.zeroValue255
 t28 := Tryz.underlying256
 a28 := Tryz.isAgg256
 z28 := Tryz.sizeOf256
 v28 := Tryz.zeroValue256
 t33 := Tryz.underlying176
 a33 := Tryz.isAgg176
 z33 := Tryz.sizeOf176
 v33 := Tryz.zeroValue176 }
def laysCollect_ren : Go.Shelf.Ren := ⟨fun | 8 => 229 | 11 => 251 | n => n, fun | 26 => 9 | 28 => 256 | 24 => 202 | 0 => 0 | 33 => 176 | 4 => 4 | n => n, fun | n => n⟩
theorem laysCollect : Go.Proofs.SlLaysZ.n8 Tryz.prog laysCollect_ren := {
 mixed := by kernel_rfl
 f8 := ⟨Tryz.f229.name, by decide, Tryz.func229.trans (congrArg some (by kernel_rfl))⟩
 f11 := ⟨Tryz.f251.name, by decide, Tryz.func251.trans (congrArg some (by kernel_rfl))⟩
 t0 := Tryz.underlying0
 a0 := Tryz.isAgg0
 z0 := Tryz.sizeOf0
 v0 := Tryz.zeroValue0
 t24 := Tryz.underlying202
 a24 := Tryz.isAgg202
 z24 := Tryz.sizeOf202
 v24 := Tryz.zeroValue202
 t26 := Tryz.underlying9
 a26 := Tryz.isAgg9
 z26 := Tryz.sizeOf9
 v26 := Tryz.zeroValue9
 t28 := Tryz.underlying256
 a28 := Tryz.isAgg256
 z28 := Tryz.sizeOf256
 v28 := Tryz.zeroValue256
 i26 := by kernel_rfl }

theorem mem_strKeys {P : Program} {k : TypeId} {R : Value → Option (DataW Value × List MemPlace)} {w : World} {b n : Nat} {D : DataW Value} (h : w.ownsMap P k R b n D) (hk : P.underlying k = some .string) (x : List UInt8) : x ∈ strKeys D ↔ Maps.has D (.string x) = true := by
 obtain ⟨es, clock, hb, F, hs, rfl⟩ := h
 have key : ∀ p ∈ (es.toList.map (WideElems.rg P k R)).foldr DataW.insert [], ∃ s : ByteArray, p.1 = sk s := fun p hp => by
  obtain ⟨y, hy, rfl⟩ := List.mem_map.1 (mem_sorted.1 hp)
  obtain ⟨z, hz⟩ := F.reads y hy
  obtain ⟨s, _, e2, _⟩ := WideMaps.string_of_keyOf hk (WideElems.rd_key hz)
  exact ⟨s, by rw [WideElems.rg_of hz]; exact e2⟩
 show x ∈ List.map (fun p : Lit × DataW Value => strOf p.1) _ ↔ _
 rw [List.mem_map, Maps.has_eq, List.any_eq_true]
 constructor
 ·rintro ⟨p, hp, rfl⟩
  obtain ⟨s, e⟩ := key p hp
  exact ⟨p, hp, by rw [e]; exact WideAt.sameKey_self (sk_key s)⟩
 ·rintro ⟨p, hp, e⟩
  exact ⟨p, hp, by rw [WideAt.sameKey_eq e]; rfl⟩

theorem own_cells_row {w : World} {D : Nat} {e : TypeId} {sz : Nat} {v : Value} {n : Nat} {xs : List Value} (h : w.ownsRow D e sz v n xs) (hl : xs.length = n * sz) : CellRow w v n xs := by
 rcases h.2 with ⟨rfl, h0⟩ | ⟨g, cap, cur, rfl, _, hr, _⟩
 ·subst h0
  exact ⟨none, 0, rfl, .inl (List.length_eq_zero_iff.1 (by rw [hl]; omega))⟩
 ·have hlt := (Array.getElem?_eq_some_iff.1 hr).1
  refine ⟨_, _, rfl, .inr ⟨g, 0, rfl, hlt, fun j u hj => ?_⟩⟩
  have hl2 := (List.getElem?_eq_some_iff.1 hj).1
  rw [Nat.zero_add, World.ownsRow.cellAt h j (by omega)]
  exact hj

theorem tnOk_le {s : ByteArray} (h : nOk s = true) : s.size ≤ 15 := by
 unfold nOk at h
 simp only [Bool.and_eq_true, decide_eq_true_eq] at h
 exact h.1.2

theorem TIs.name_le {w : World} {p b : Nat} {e : Int} {l : List TRec} {m : ByteArray → Option Value} (h : TIs w p e l b m) {x : TRec} (hx : x ∈ l) : x.n.size ≤ 15 := by
 have h1 := h.ok x hx
 unfold tOk at h1
 simp only [Bool.and_eq_true] at h1
 exact tnOk_le h1.1.1.1

theorem TIs.in_names {w : World} {p b : Nat} {e : Int} {l : List TRec} {m : ByteArray → Option Value} (h : TIs w p e l b m) {s : ByteArray} (hs : s.size ≤ maxLen) : (m s).isSome = true ↔ s ∈ l.map (·.n) := by
 rw [List.mem_map]
 constructor
 ·intro c
  obtain ⟨v, hv⟩ := Option.isSome_iff_exists.1 c
  have hne := (h.known hs hv).1
  obtain ⟨y, hy⟩ := List.exists_mem_of_ne_nil _ hne
  exact ⟨_, mem_ser.1 hy, rfl⟩
 ·rintro ⟨x, hx, rfl⟩
  exact (h.some_of hx).2

set_option maxHeartbeats 1600000 in
/-- slices.Collect(maps.Keys(m)). -/
theorem keys_any {w : World} {p b : Nat} {e : Int} {l : List TRec} {m : ByteArray → Option Value} (h : TIs w p e l b m) (hl : l.length ≤ 1000) :
  Calls Tryz.prog 230 #[.map (some b)] w (fun x w' => x = .returned (.func (.func 252) #[] #[.pointer (some ⟨w.heap.size, 0, none⟩)]) ∧ w' = w.alloc (.cells #[.map (some b)] 222)) ∧
  Calls Tryz.prog 229 #[.func (.func 252) #[] #[.pointer (some ⟨w.heap.size, 0, none⟩)]] (w.alloc (.cells #[.map (some b)] 222)) fun x w' =>
   ∃ (v : Value) (ts : List ByteArray), x = .returned v ∧ CellRow w' v ts.length (ts.map Value.string) ∧ ts.length ≤ 1000 ∧ (∀ s, s ∈ ts ↔ s ∈ l.map (·.n)) ∧ Below w.heap.size w w' := by
 refine ⟨callsIn_wide.1 (AnyZ.keys_in (ρ := laysKeys_ren) laysKeys Fence.wide 5 trivial rfl (some b) w), ?_⟩
 obtain ⟨D0, hown, hkn⟩ := h.map
 have hbl := hown.lt
 have hsz := hown.size_le
 have hseq : SeqGives Fence.wide 2 Tryz.prog 252 #[.pointer (some ⟨w.heap.size, 0, none⟩)] encStr (fun ss => ss.Perm (strKeys D0)) (Maps.size D0) (w.alloc (.cells #[.map (some b)] 222)) :=
  AnyZ.keys_gives (ρ := laysKeys_ren) { laysKeys with } Fence.wide _ trivial rfl (by omega) w.heap.size b l.length D0 _ (by simp) (by simp) (by
   obtain ⟨es, clock, hb, Ft, hs, hD⟩ := hown
   exact ⟨es, clock, (Below.heap_alloc _ _ b hbl).trans hb, Ft, hs, hD⟩)
 have hc := callsIn_wide.1 (AnyZ.collect_in (ρ := laysCollect_ren) laysCollect Fence.wide 4 trivial trivial rfl (by omega) 252 #[.pointer (some ⟨w.heap.size, 0, none⟩)] trivial (enters_of Tryz.func252 (by kernel_rfl) rfl) _ _ (by unfold maxLen; omega) (by omega) _ hseq)
 refine hc.mono ?_
 rintro x w' ⟨v, ss, rfl, hp, hrow, -, hb⟩
 have hlen : ss.length = Maps.size D0 := by
  rw [hp.length_eq]
  obtain ⟨es, clock, _, _, _, rfl⟩ := hown
  exact List.length_map ..
 refine ⟨v, ss.map fun x => ⟨x.toArray⟩, rfl, ?_, by rw [List.length_map]; omega, fun s => ?_, ((Below.refl _ w).alloc (Nat.le_refl _) _).trans (hb.mono (by simp))⟩
 ·rw [List.length_map, List.map_map]
  exact own_cells_row hrow (by rw [List.length_map, Nat.mul_one])
 ·have h1 : s ∈ ss.map (fun x => (⟨x.toArray⟩ : ByteArray)) ↔ s.data.toList ∈ strKeys D0 := by
   rw [← hp.mem_iff, List.mem_map]
   constructor
   ·rintro ⟨y, hy, rfl⟩
    simpa using hy
   ·intro c
    exact ⟨_, c, by simp⟩
  rw [h1]
  constructor
  ·intro c
   have hs : s.size ≤ maxLen := by simpa using strKeys_le hown kT _ c
   have hh := (mem_strKeys hown kT _).1 c
   have h2 := hkn.has hs
   exact (h.in_names hs).1 (by rw [← h2]; exact hh)
  ·intro c
   obtain ⟨y, hy, rfl⟩ := List.mem_map.1 c
   obtain ⟨hs, hsome⟩ := h.some_of hy
   exact (mem_strKeys hown kT _).2 (by rw [← hsome]; exact hkn.has hs)

set_option maxHeartbeats 1600000 in
theorem names_any {w : World} {p : Nat} {e : Int} {l : List TRec} {F : TFoot} (h : TRep w p e l F) (hl : l.length ≤ 1000) :
  Calls Tryz.prog 193 #[tptr p] w fun x w' => ∃ u, x = .returned u ∧ w'.ownsRow w.heap.size 9 1 u (tNames l).length ((tNames l).map Value.string) ∧ Below w.heap.size w w' := by
 obtain ⟨b, m, h, -⟩ := h
 have hall := tall_any h
 obtain ⟨hk1, hk2⟩ := keys_any h hl
 have HNL : Hid (∀ x ∈ l, x.n.size ≤ 15) := Hid.of fun x hx => h.name_le hx
 clear h hl
 go_enter Tryz.func193, Tryz.ntmps193
 go_wp2_with fail
 refine hall.mono ?_
 rintro x w1 ⟨rfl, rfl⟩
 go_wp2_with fail
 refine hk1.mono ?_
 rintro x w2 ⟨rfl, rfl⟩
 go_wp2_with fail
 refine hk2.mono ?_
 rintro x w3 ⟨v, ts, rfl, hrow, hlen, hmem, b3⟩
 have hor := order_any v ts w3 hrow hlen (fun s hs => by
  obtain ⟨x, hx, rfl⟩ := List.mem_map.1 ((hmem s).1 hs)
  have := HNL.out x hx
  omega)
 have e1 : nOrder ts = tNames l := nOrder_of (nOrder_props ts).1 (fun s => by rw [(nOrder_props ts).2 s]; exact hmem s)
 rw [e1] at hor
 have B3 := Hid.of b3
 obtain ⟨ns, hns⟩ : ∃ ns, tNames l = ns := ⟨_, rfl⟩
 rw [hns] at hor
 have NS := Hid.of hns
 clear b3 hmem hlen hrow e1 hns hk1 hk2 hall
 go_wp2_with fail
 refine hor.mono ?_
 rintro x w4 ⟨u, rfl, o4, b4⟩
 have B4 := Hid.of (B3.out.trans (b4.mono B3.out.size))
 have O4 := Hid.of (own_base o4 (D' := w1.heap.size) (fun g hg => Nat.le_trans B3.out.size (own_ge o4 hg)))
 clear b4 o4 hor
 go_wp2
 go_ret
 exact ⟨_, rfl, by rw [NS.out]; exact O4.out, B4.out⟩

end Go.Proofs.YtiomoobeklpkmaaGreat

namespace Go.Proofs.YtiomoobeklpkmaaGreat
open Go.RowKit Go.Lib

theorem recs_len {l : List TRec} (h : TSorted l) (ss : List ByteArray) (hr : Rising ss) : (ss.flatMap fun s => sRecs s (ser l s)).length ≤ l.length := by
 rw [recs_of h ss hr]
 exact List.length_filter_le ..

theorem renc_ones (l : List RecL) : ∀ u ∈ flat renc l, u.oneCell' = true := fun u hu => by
 unfold flat at hu
 obtain ⟨x, _, hx⟩ := List.mem_flatMap.1 hu
 exact renc_one x u hx

set_option maxHeartbeats 3200000 in
set_option maxRecDepth 20000 in
theorem recs_any {w : World} {p b : Nat} {e : Int} {l : List TRec} {m : ByteArray → Option Value} (v : Value) (ss : List ByteArray) (h : TIs w p e l b m) (hl : l.length ≤ 1000) (hv : CellRow w v ss.length (ss.map Value.string)) (hr : Rising ss) (hs : ∀ s ∈ ss, s.size ≤ maxLen) (hn : ss.length ≤ 1000) :
  Calls Tryz.prog 192 #[tptr p, v] w fun x w' => ∃ u, x = .returned u ∧ w'.ownsRow w.heap.size 101 7 u (l.filter fun x => ss.any fun s => decide (x.n = s)).length (flat renc ((l.filter fun x => ss.any fun s => decide (x.n = s)).map rl)) ∧ Below w.heap.size w w' := by
 rw [← recs_of h.sorted ss hr]
 obtain ⟨i0, hi0, hz0, hz1, hz2⟩ := info_parts rec_info
 have HI := Hid.of hi0
 have HZ0 := Hid.of hz0
 have HZ1 := Hid.of hz1
 have HZ2 := Hid.of hz2
 clear hi0 hz0 hz1 hz2
 have H := Hid.of h
 have HS := Hid.of hs
 have HL := Hid.of hl
 have HLEN : Hid (∀ j, ((ss.take j).flatMap fun s => sRecs s (ser l s)).length ≤ 1000) := Hid.of fun j => Nat.le_trans (recs_len h.sorted (ss.take j) (List.Pairwise.sublist (List.take_sublist ..) hr)) hl
 have HV : Hid (CellRow w v ss.length (ss.map Value.string)) := Hid.of hv
 obtain ⟨va, vc, rfl, -⟩ := hv
 obtain ⟨n, hbl⟩ : ∃ n, ss.length = n := ⟨_, rfl⟩
 rw [hbl] at HV hn ⊢
 have BL := Hid.of hbl
 clear hbl hr hs h hl
 go_enter Tryz.func192, Tryz.ntmps192
 go_wp2
 go_loopg [5, 10] n (fun kx av iv wr => ∃ (j : Nat) (u : Value), u = av ∧ iv = .int .i64 j ∧ j ≤ n ∧ n - j ≤ kx ∧ Hid (wr.ownsRow w.heap.size 101 7 u ((ss.take j).flatMap fun s => sRecs s (ser l s)).length (flat renc (((ss.take j).flatMap fun s => sRecs s (ser l s)).map rl))) ∧ Hid (Below w.heap.size w wr))
 case atStart => exact ⟨0, _, rfl, rfl, Nat.zero_le _, Nat.le_refl _, Hid.of (World.ownsRow_nil _ _ _ _), Hid.of (Below.refl _ _)⟩
 case round =>
  obtain ⟨j, u, rfl, rfl, hjn, hkx, HU, HB⟩ := hrel
  by_cases hlt : (j : Int) < (n : Int)
  ·obtain ⟨s, hss⟩ : ∃ s, ss[j]? = some s := ⟨_, List.getElem?_eq_getElem (by have := BL.out; omega)⟩
   have HSJ := Hid.of hss
   obtain ⟨b1, o1, rfl, hl1, hc1⟩ := (HV.out.kept HB.out).at j (.string s) (by rw [List.getElem?_map, hss]; rfl)
   have d1 : wr.cell? ⟨b1, o1 + j, none⟩ = some (.string s) := hc1
   have hT := H.out.below HB.out
   have c1 := hT.c1
   have hsz := HS.out s (List.mem_of_getElem? hss)
   obtain ⟨x, hx, -, hlk⟩ := hT.look hsz
   have hrc := records_any x (ser l s) s wr hx.row (by have h2 := recs_len H.out.sorted [s] (List.pairwise_singleton _ _); have h3 := ser_le l s; have h4 := HL.out; omega)
   have hsl := sRecs_len s (ser l s)
   have HT : Hid (((ss.take (j + 1)).flatMap fun s => sRecs s (ser l s)) = ((ss.take j).flatMap fun s => sRecs s (ser l s)) ++ sRecs s (ser l s)) := Hid.of (by
    rw [List.take_succ_eq_append_getElem (by have := BL.out; omega), (List.getElem?_eq_some_iff.1 hss).2, List.flatMap_append]
    simp)
   obtain ⟨rs, hrs⟩ : ∃ rs, sRecs s (ser l s) = rs := ⟨_, rfl⟩
   have hlen2 := HLEN.out (j + 1)
   rw [HT.out, List.length_append, hrs] at hlen2
   rw [hrs] at hrc hsl HT
   rw [← hsl] at hrc
   obtain ⟨acc, hacc⟩ : ∃ acc, ((ss.take j).flatMap fun s => sRecs s (ser l s)) = acc := ⟨_, rfl⟩
   rw [hacc] at hlen2 HU HT
   obtain ⟨an, han⟩ : ∃ an, acc.length = an := ⟨_, rfl⟩
   obtain ⟨rn, hrn⟩ : ∃ rn, rs.length = rn := ⟨_, rfl⟩
   rw [han] at hlen2 HU
   rw [hrn] at hlen2 hrc
   have RN := Hid.of hrn
   have AN := Hid.of han
   have hj0 : (0 : Int) ≤ (j : Int) := by omega
   have HJN : Hid (j < n) := Hid.of (by omega)
   clear hss hc1 hl1 hsl hrs hx hT hacc han hrn hsz
   go_wp2_with fail
   refine hrc.mono ?_
   rintro e2 w2 ⟨u2, rfl, o2, b2⟩
   have O2 := Hid.of (own_cells_row o2 (by rw [flat_length renc_len, List.length_map, RN.out]))
   have HU2 := Hid.of (own_at HU.out (w' := w2) (fun g hg => b2.block g (own_lt HU.out hg)))
   have HB2 := Hid.of (HB.out.trans (b2.mono HB.out.size))
   clear b2 o2 hrc
   go_wp2_with (at_builtin; refine append_row_law rfl _ _ 88 rfl w.heap.size 101 i0 (.agg #[.string ⟨#[]⟩, .int .i64 0, .int .i64 0, .int .i64 0, .int .u64 0, .int .i64 0, .int .i64 0]) 7 64 Tryz.underlying88 HI.out HZ0.out HZ1.out HZ2.out rfl (by decide) u an _ rfl HU2.out u2 rn _ rfl O2.out (by rw [flat_length renc_len, List.length_map, RN.out]) (renc_ones _) (by unfold maxLen; omega) (by omega) HB2.out.size ?_; intro v1 w3 o3 g3)
   go_roundg (n - (j + 1))
   case measure => have := HJN.out; omega
   case rel =>
    refine ⟨j + 1, v1, rfl, by go_num, HJN.out, Nat.le_refl _, Hid.of ?_, Hid.of (HB2.out.grown g3 HB2.out.size (fun k hk => own_ge HU2.out hk))⟩
    rw [HT.out, List.length_append, AN.out, RN.out, List.map_append, flat_append]
    exact o3
  ·obtain rfl : j = n := by omega
   go_wp2
   go_ret
   refine ⟨_, rfl, ?_, HB.out⟩
   have := HU.out
   rw [List.take_of_length_le (by rw [BL.out]; exact Nat.le_refl _), List.length_flatMap] at this
   exact this

theorem mem_tNames {l : List TRec} {s : ByteArray} : s ∈ tNames l ↔ ∃ x ∈ l, x.n = s := by
 unfold tNames
 rw [(nOrder_props _).2 s, List.mem_map]

theorem filter_names (l : List TRec) (q : ByteArray → Bool) : (l.filter fun x => ((tNames l).filter q).any fun s => decide (x.n = s)) = l.filter fun x => q x.n := by
 refine List.filter_congr fun x hx => ?_
 rw [Bool.eq_iff_iff, List.any_eq_true]
 constructor
 ·rintro ⟨s, hs, e⟩
  rw [of_decide_eq_true e]
  exact (List.mem_filter.1 hs).2
 ·intro c
  exact ⟨x.n, List.mem_filter.2 ⟨mem_tNames.2 ⟨x, hx, rfl⟩, c⟩, decide_eq_true rfl⟩

theorem tNames_len (l : List TRec) : (tNames l).length ≤ l.length := by
 have h := nodup_le (xs := tNames l) (ys := l.map (·.n)) ((nOrder_props (l.map (·.n))).1.imp fun {a b} h c => by rw [c] at h; exact nLt_irrefl _ h) (fun x hx => by
  obtain ⟨y, hy, rfl⟩ := mem_tNames.1 hx
  exact List.mem_map.2 ⟨y, hy, rfl⟩)
 rwa [List.length_map] at h

set_option maxHeartbeats 1600000 in
theorem allRecs_any {w : World} {p : Nat} {e : Int} {l : List TRec} {F : TFoot} (h : TRep w p e l F) (hl : l.length ≤ 1000) :
  Calls Tryz.prog 123 #[tptr p] w fun x w' => ∃ u, x = .returned u ∧ w'.ownsRow w.heap.size 101 7 u l.length (flat renc (l.map rl)) ∧ Below w.heap.size w w' := by
 have hnm := names_any h hl
 obtain ⟨b, m, h, -⟩ := h
 have H := Hid.of h
 have HL := Hid.of hl
 clear h hl
 go_enter Tryz.func123, Tryz.ntmps123
 go_wp2_with fail
 refine hnm.mono ?_
 rintro x w1 ⟨u, rfl, o1, b1⟩
 have hT := H.out.below b1
 have hrc := recs_any u (tNames l) hT HL.out (own_cells_row o1 (by rw [List.length_map, Nat.mul_one])) (nOrder_props _).1 (fun s hs => by
  obtain ⟨x, hx, rfl⟩ := mem_tNames.1 hs
  exact (H.out.fit x hx).1) (Nat.le_trans (tNames_len l) HL.out)
 have ef := filter_names l (fun _ => true)
 rw [List.filter_eq_self.2 (fun _ _ => rfl), List.filter_eq_self.2 (fun _ _ => rfl)] at ef
 rw [ef] at hrc
 have B1 := Hid.of b1
 clear b1 o1 hT ef hnm
 go_wp2_with fail
 refine hrc.mono ?_
 rintro x w2 ⟨u2, rfl, o2, b2⟩
 have B2 := Hid.of (B1.out.trans (b2.mono B1.out.size))
 have O2 := Hid.of (own_base o2 (D' := w.heap.size) (fun g hg => Nat.le_trans B1.out.size (own_ge o2 hg)))
 clear b2 o2 hrc
 go_wp2
 go_ret
 exact ⟨_, rfl, O2.out, B2.out⟩

end Go.Proofs.YtiomoobeklpkmaaGreat

namespace Go.Proofs.YtiomoobeklpkmaaGreat
open Go.RowKit Go.Lib

section
variable {w w' : World} {p b n : Nat} {e : Int} {l l' : List TRec} {m m' : ByteArray → Option Value}

/-- A table from its parts; the map's bound is whatever is at hand. -/
theorem TIs.make (cell : w.heap[p]? = some (.cells #[.int .i64 e, .map (some b)] 224)) (map : TMap w b n m) (none_ : ∀ s, s.size ≤ maxLen → ser l s = [] → m s = none)
  (some_ : ∀ s, s.size ≤ maxLen → ser l s ≠ [] → ∃ v, m s = some v ∧ BkOwn w 0 v (ser l s) ∧ v.ownBlock ≠ some b ∧ v.ownBlock ≠ some p)
  (apart : ∀ s t v u g, s.size ≤ maxLen → t.size ≤ maxLen → m s = some v → m t = some u → v.ownBlock = some g → u.ownBlock = some g → s = t)
  (pb : p ≠ b) (sorted : TSorted l) (ok : ∀ x ∈ l, tOk e x = true) (fit : ∀ x ∈ l, TFit x) (e1 : 1 ≤ e) (e64 : TIn64 e) : TIs w p e l b m where
 cell := cell
 map := by
  have := MapIs.tight kT map (l.map (·.n)) (fun s hs c => by
   by_cases h : ser l s = []
   ·exact absurd (none_ s hs h) c
   ·obtain ⟨y, hy⟩ := List.exists_mem_of_ne_nil _ h
    exact List.mem_map.2 ⟨_, mem_ser.1 hy, rfl⟩)
  rwa [List.length_map] at this
 none_ := none_
 some_ := some_
 apart := apart
 pb := pb
 sorted := sorted
 ok := ok
 fit := fit
 e1 := e1
 e64 := e64

/-- One series is gone. -/
theorem TIs.del (h : TIs w p e l b m) (s : ByteArray) (hm : TMap w' b n (mDel m s)) (hg : w.grownBy w' (some b)) : TIs w' p e (l.filter fun x => !decide (x.n = s)) b (mDel m s) := by
 have hser : ∀ t, ser (l.filter fun x => !decide (x.n = s)) t = if t = s then [] else ser l t := fun t => by
  rw [ser_filter_name (fun x => !decide (x = s))]
  by_cases c : t = s
  ·rw [if_pos c, if_neg (by simp [c])]
  ·rw [if_neg c, if_pos (by simp [c])]
 refine TIs.make ?_ hm (fun t ht c => ?_) (fun t ht c => ?_) (fun t u v x g ht hu hv hx g1 g2 => ?_) h.pb (List.Pairwise.filter _ h.sorted) (fun x hx => h.ok x (List.mem_filter.1 hx).1) (fun x hx => h.fit x (List.mem_filter.1 hx).1) h.e1 h.e64
 ·rw [hg.block p h.lt_p (fun c => h.pb (Option.some.inj c))]
  exact h.cell
 ·rw [hser] at c
  unfold mDel
  split
  ·rfl
  ·rw [if_neg ‹_›] at c
   exact h.none_ t ht c
 ·rw [hser] at c ⊢
  by_cases ts : t = s
  ·rw [if_pos ts] at c
   exact absurd rfl c
  ·rw [if_neg ts] at c ⊢
   obtain ⟨v, h1, h2, h3, h4⟩ := h.some_ t ht c
   exact ⟨v, by unfold mDel; rw [if_neg ts, h1], own_at h2 (fun g hgb => hg.block g (own_lt h2 hgb) (fun c => h3 (by rw [hgb, c]))), h3, h4⟩
 ·unfold mDel at hv hx
  split at hv
  ·cases hv
  ·split at hx
   ·cases hx
   ·exact h.apart t u v x g ht hu hv hx g1 g2

/-- One series is another one, or is new. -/
theorem TIs.put (h : TIs w p e l b m) (s : ByteArray) (hs : s.size ≤ maxLen) (v : Value) (hm : TMap w' b n (mPut m s v)) (hv : BkOwn w' 0 v (ser l' s)) (hne : ser l' s ≠ []) (hvb : v.ownBlock ≠ some b) (hvp : v.ownBlock ≠ some p)
  (hoff : ∀ t u g, t.size ≤ maxLen → t ≠ s → m t = some u → u.ownBlock = some g → v.ownBlock ≠ some g ∧ w'.heap[g]? = w.heap[g]?) (hp : w'.heap[p]? = w.heap[p]?)
  (hser : ∀ t, t ≠ s → ser l' t = ser l t) (hsorted : TSorted l') (hok : ∀ x ∈ l', tOk e x = true) (hfit : ∀ x ∈ l', TFit x) : TIs w' p e l' b (mPut m s v) := by
 refine TIs.make (hp.trans h.cell) hm (fun t ht c => ?_) (fun t ht c => ?_) (fun t u x y g ht hu hx hy g1 g2 => ?_) h.pb hsorted hok hfit h.e1 h.e64
 ·unfold mPut
  by_cases ts : t = s
  ·rw [ts] at c
   exact absurd c hne
  ·rw [if_neg ts]
   rw [hser t ts] at c
   exact h.none_ t ht c
 ·unfold mPut
  by_cases ts : t = s
  ·subst ts
   rw [if_pos rfl]
   exact ⟨v, rfl, hv, hvb, hvp⟩
  ·rw [if_neg ts]
   rw [hser t ts] at c ⊢
   obtain ⟨u, h1, h2, h3, h4⟩ := h.some_ t ht c
   exact ⟨u, h1, own_at h2 (fun g hgb => (hoff t u g ht ts h1 hgb).2), h3, h4⟩
 ·unfold mPut at hx hy
  by_cases ts : t = s
  ·rw [if_pos ts] at hx
   by_cases us : u = s
   ·rw [ts, us]
   ·rw [if_neg us] at hy
    rw [← Option.some.inj hx] at g1
    exact absurd g1 (hoff u y g hu us hy g2).1
  ·rw [if_neg ts] at hx
   by_cases us : u = s
   ·rw [if_pos us] at hy
    rw [← Option.some.inj hy] at g2
    exact absurd g2 (hoff t x g ht ts hx g1).1
   ·rw [if_neg us] at hy
    exact h.apart t u x y g ht hu hx hy g1 g2

end

/-- A turned map: nothing else has turned, and nothing is new. -/
theorem turned_touch {w w' : World} {b : Nat} {F : Nat → Prop} (h : w.mapTurned w' b) (hF : F b) : Touch F w w' := Touch.grown h.grown (fun i _ c => by cases c; exact hF)

end Go.Proofs.YtiomoobeklpkmaaGreat

namespace Go.Proofs.YtiomoobeklpkmaaGreat
open Go.RowKit Go.Lib

section
variable {P : Program} (w : World) {ops : Array Oper} {rest : List Oper} {o : Oper} {a : Act} {Q : Exit → Act → World → Prop}

theorem wpList_store_text (hg : o.guard = none) (x y z : Operand) (t : TypeId) (hop : o.op = Op.mapUpdate t x y z) (k e : TypeId) (hk : P.underlying k = some .string) (ht : P.underlying t = some (.map k e)) (b n : Nat) (m : ByteArray → Option Value)
  (hm : a.eval x = .map (some b)) (h : MapIs P k w b n m) (hn : n < maxLen) (s : ByteArray) (hx : a.eval y = .string s) (hs : s.size ≤ maxLen) (v : Value) (hv : a.eval z = v)
  (hK : ∀ w', MapIs P k w' b (n + 1) (mPut m s v) → w.mapTurned w' b → wpList P ops Q rest (a.put o.dst undef) w') :
  wpList P ops Q (o :: rest) a w := by
 refine wpList_plain hg fun K' hK' => ?_
 obtain ⟨w', hrun, r1, r2⟩ := h.store hk ht hn hs v
 unfold Oper.wp
 simp [execOp, hop, hm, hx, hv, hrun, Result.andThen]
 exact hK' _ _ (hK w' r1 r2)
end

/-- A call that has touched the map's block and what it holds. -/
theorem tstep_of {w w' : World} {p b b' : Nat} {m m' : ByteArray → Option Value} (h : Touch (foot b m) w w') (hf : ∀ k, foot b' m' k → foot b m k ∨ w.heap.size ≤ k) :
  TStep ⟨foot b m, fun k => k = p ∨ foot b m k⟩ ⟨foot b' m', fun k => k = p ∨ foot b' m' k⟩ w w' :=
 ⟨⟨h.os, h.tape, h.output, h.size, h.block, hf⟩, fun k hk => by
  rcases hk with c | c
  ·exact .inl (.inl c)
  ·rcases hf k c with d | d
   ·exact .inl (.inr d)
   ·exact .inr d⟩

end Go.Proofs.YtiomoobeklpkmaaGreat

namespace Go.Proofs.YtiomoobeklpkmaaGreat
open Go.RowKit Go.Lib

set_option maxRecDepth 20000 in
set_option maxHeartbeats 800000 in
theorem bkClone_any (v : Value) (l : List Bk) (w : World) (hv : BkRow w v l) (hn : l.length ≤ 1000000) :
  Calls Tryz.prog 189 #[v] w fun e w' => ∃ u, e = .returned u ∧ BkOwn w' w.heap.size u l ∧ Below w.heap.size w w' := by
 have HC : Hid (CellRow w v l.length (flat benc l)) := Hid.of hv
 obtain ⟨sa, sc, rfl, hx⟩ := hv
 have HX := Hid.of hx
 obtain ⟨i0, hi, hz0, hz1, hz2⟩ := info_parts bk_info
 have HI := Hid.of hi
 have HZ0 := Hid.of hz0
 have HZ1 := Hid.of hz1
 have HZ2 := Hid.of hz2
 have qT : ∀ (w : World) (a : Option Addr) (n c : Nat), (binOp .eql 227 (.slice a n c) (.slice none 0 0)).run Tryz.prog w = .ok (.bool a.isNone) w := fun w a n c => Lib.run_eql_slice_nil w _ _ a n c 0 0 Tryz.underlying227
 clear hi hz0 hz1 hz2 hx
 cases sa with
 | none =>
  have hl : l = [] := by
   rcases HX.out with h | ⟨b, o, h, _⟩
   ·have := congrArg List.length h
    rw [flat_length benc_len, List.length_nil] at this
    exact List.length_eq_zero_iff.1 (by omega)
   ·cases h
  subst hl
  go_enter Tryz.func189, Tryz.ntmps189
  go_wp2
  go_ret
  exact ⟨_, rfl, World.ownsRow_nil _ _ _ 6, Below.refl _ _⟩
 | some ad =>
  go_enter Tryz.func189, Tryz.ntmps189
  go_wp2_with (at_builtin; refine append_row_law rfl _ _ 227 rfl w.heap.size 230 i0 (.agg #[.int .i64 0, .int .i64 0, .int .i64 0, .int .u64 0, .int .i64 0, .int .i64 0]) 6 48 Tryz.underlying227 HI.out HZ0.out HZ1.out HZ2.out rfl (by decide) (.slice (some ⟨w.heap.size, 0, none⟩) 0 0) 0 [] rfl (World.ownsRow_made w #[] 0 (Nat.le_refl _) (Nat.zero_le _) rfl) _ l.length _ rfl (HC.out.kept ((Below.refl _ _).alloc (Nat.le_refl _) _)) (flat_length benc_len l) (flat_ones benc_one l) (by unfold maxLen; omega) (by omega) (by simp) ?_; intro v1 w1 o1 g1; have O1 : Hid (w1.ownsRow w.heap.size 230 6 v1 l.length (flat benc l)) := Hid.of (by simpa using o1); have b1 : Below w.heap.size w w1 := ((Below.refl _ w).alloc (Nat.le_refl _) _).grown g1 (by simp) (by intro k hk; simp [Value.ownBlock] at hk; omega); clear o1 g1)
  go_ret
  exact ⟨_, rfl, O1.out, b1⟩

section
variable {P : Program}

theorem wpList_delete_round (w : World) {ops : Array Oper} {rest : List Oper} {o : Oper} {a : Act} {Q : Exit → Act → World → Prop} (hg : o.guard = none) (x y : Operand) (t k : TypeId) (hop : o.op = Op.call { callee := Callee.builtin Builtin.delete, args := #[x, y], argTypes := #[t, k] }) (e : TypeId) (hk : P.underlying k = some .string) (ht : P.underlying t = some (.map k e)) (b r n : Nat) (m : ByteArray → Option Value) (left : ByteArray → Bool) (cnt : Nat)
  (hm : a.eval x = .map (some b)) (h : RangeIs P k w b r n m left cnt) (s : ByteArray) (hx : a.eval y = .string s) (hs : s.size ≤ maxLen)
  (hK : ∀ w' cnt', RangeIs P k w' b r n (mDel m s) (fun x => left x && !decide (x = s)) cnt' → cnt' ≤ cnt → w.mapTurned w' b → wpList P ops Q rest (a.put o.dst (.tuple #[])) w') :
  wpList P ops Q (o :: rest) a w := by
 refine wpList_plain hg fun K' hK' => ?_
 obtain ⟨w', cnt', hrun, r1, r2, r3⟩ := h.drop hk ht hs o.type
 unfold Oper.wp
 simp [execOp, hop, resolve, invoke, builtin, hm, hx, hrun, Result.andThen]
 exact hK' _ _ (hK w' cnt' r1 r2 r3)

/-- A store, as one step of a region that draws its order. -/
theorem step_store_text {o : Oper} {ops : Array Oper} {a : Act} {w : World} {K : Act → World → Prop} {Q : Exit → Act → World → Prop} {E : Prop} (hgd : o.guard = none) (x y z : Operand) (t : TypeId) (hop : o.op = Op.mapUpdate t x y z) (k e : TypeId) (hk : P.underlying k = some .string) (ht : P.underlying t = some (.map k e)) (b n : Nat) (m : ByteArray → Option Value)
  (hm : a.eval x = .map (some b)) (h : MapIs P k w b n m) (hn : n < maxLen) (s : ByteArray) (hx : a.eval y = .string s) (hs : s.size ≤ maxLen) (v : Value) (hv : a.eval z = v)
  (hK : ∀ w', MapIs P k w' b (n + 1) (mPut m s v) → w.mapTurned w' b → K (a.put o.dst undef) w') :
  if Region.wanted o (yielded ops a.tmps) = true then Oper.wp P o a w K Q else E := by
 have hw : Region.wanted o (yielded ops a.tmps) = true := by simp [Region.wanted, hgd]
 rw [if_pos hw]
 obtain ⟨w', hrun, r1, r2⟩ := h.store hk ht hn hs v
 unfold Oper.wp
 simp [execOp, hop, hm, hx, hv, hrun, Result.andThen]
 exact hK w' r1 r2

end

/-- What is left of a table when of the names that are done all below a time is gone. -/
def lDrop (l : List TRec) (left : ByteArray → Bool) (below : Int) : List TRec := l.filter fun x => left x.n || decide (below ≤ x.s)

theorem lDrop_start {l : List TRec} {left : ByteArray → Bool} (h : ∀ x ∈ l, left x.n = true) (below : Int) : lDrop l left below = l := List.filter_eq_self.2 (fun x hx => by rw [h x hx]; rfl)
theorem lDrop_end {l : List TRec} {left : ByteArray → Bool} (h : ∀ x ∈ l, left x.n = false) (below : Int) : lDrop l left below = tKeep l below := List.filter_congr fun x hx => by rw [h x hx]; rfl

theorem lDrop_ser (l : List TRec) (left : ByteArray → Bool) (below : Int) (s : ByteArray) : ser (lDrop l left below) s = if left s = true then ser l s else (ser l s).filter fun b => decide (below ≤ b.1) := by
 unfold lDrop
 induction l with
 | nil => split <;> rfl
 | cons x l ih =>
  rw [List.filter_cons]
  by_cases hx : x.n = s
  ·by_cases hl : left s = true
   ·rw [if_pos hl] at ih ⊢
    rw [if_pos (by rw [hx, hl]; rfl), ser_cons_same hx, ser_cons_same hx, ih]
   ·rw [if_neg hl] at ih ⊢
    rw [ser_cons_same hx, List.filter_cons]
    have hl' : left s = false := by simpa using hl
    by_cases hb : below ≤ x.s
    ·rw [if_pos (by rw [hx, hl']; simpa using hb), if_pos (by simpa using hb), ser_cons_same hx, ih]
    ·rw [if_neg (by rw [hx, hl']; simpa using hb), if_neg (by simpa using hb)]
     exact ih
  ·by_cases hp : (left x.n || decide (below ≤ x.s)) = true
   ·rw [if_pos hp, ser_cons_other hx, ser_cons_other hx]; exact ih
   ·rw [if_neg hp, ser_cons_other hx]; exact ih

/-- One name more is done: so many are gone. -/
theorem lDrop_len {l : List TRec} {left : ByteArray → Bool} {s : ByteArray} (h : TSorted l) (hs : left s = true) (below : Int) : (lDrop l (fun x => left x && !decide (x = s)) below).length + sAt (ser l s) below = (lDrop l left below).length := by
 have key : (lDrop l (fun x => left x && !decide (x = s)) below).length + ((ser l s).filter fun b => decide (b.1 < below)).length = (lDrop l left below).length := by
  unfold lDrop
  clear h
  induction l with
  | nil => rfl
  | cons x l ih =>
   rw [List.filter_cons, List.filter_cons]
   by_cases hx : x.n = s
   ·rw [ser_cons_same hx, List.filter_cons, if_pos (c := (left x.n || decide (below ≤ x.s)) = true) (by rw [hx, hs]; rfl), List.length_cons]
    by_cases hb : below ≤ x.s
    ·rw [if_pos (by simp [hb]), if_neg (by simp; omega), List.length_cons]
     omega
    ·rw [if_neg (by simp [hx, hb]), if_pos (by simp; omega), List.length_cons]
     omega
   ·rw [ser_cons_other hx]
    have e : ((left x.n && !decide (x.n = s)) || decide (below ≤ x.s)) = (left x.n || decide (below ≤ x.s)) := by simp [hx]
    by_cases hp : (left x.n || decide (below ≤ x.s)) = true
    ·rw [if_pos (e.trans hp), if_pos hp, List.length_cons, List.length_cons]
     omega
    ·rw [if_neg (by rw [e]; exact hp), if_neg hp]
     exact ih
 rw [sAt_take (ser_rise h s) below, List.length_take] at key
 have := sAt_le (ser l s) below
 omega

end Go.Proofs.YtiomoobeklpkmaaGreat

namespace Go.Proofs.YtiomoobeklpkmaaGreat
open Go.RowKit Go.Lib

abbrev lessN (left : ByteArray → Bool) (s : ByteArray) : ByteArray → Bool := fun x => left x && !decide (x = s)

section
variable {w w' w2 : World} {p b r n n' cnt : Nat} {e below : Int} {l : List TRec} {m : ByteArray → Option Value} {left : ByteArray → Bool}

/-- The loop's step has turned the iterator alone. -/
theorem TIs.stepped (h : TIs w p e l b m) {m' : ByteArray → Option Value} (hr : RangeIs Tryz.prog 9 w b r n m' left cnt) (hg : w.grownBy w' (some r)) (hp : p ≠ r) : TIs w' p e l b m := by
 refine h.at fun i hi => ?_
 refine hg.block i (hi.elim (fun c => by rw [c]; exact h.lt_p) h.lt) fun c => ?_
 cases c
 rcases hi with c | c | ⟨s, v, hs, hv, hg⟩
 ·exact hp c.symm
 ·exact hr.ne c
 ·obtain ⟨_, h2, _⟩ := h.known hs hv
  obtain ⟨D, lf, ⟨es, clock, since, seen, c0, _, _, _, _, hrr, _⟩, _⟩ := hr
  rcases h2.2 with ⟨rfl, _⟩ | ⟨g', cap, cur, rfl, _, hrow, _⟩
  ·cases hg
  ·cases hg
   rw [hrr] at hrow
   cases hrow

theorem lDrop_sorted (h : TSorted l) (left : ByteArray → Bool) (below : Int) : TSorted (lDrop l left below) := List.Pairwise.filter _ h

theorem lDrop_next {s : ByteArray} (hls : left s = true) (t : ByteArray) : ser (lDrop l (lessN left s) below) t = if t = s then (ser l s).filter (fun b => decide (below ≤ b.1)) else ser (lDrop l left below) t := by
 rw [lDrop_ser, lDrop_ser]
 by_cases ts : t = s
 ·subst ts
  rw [if_neg (by simp), if_pos rfl]
 ·rw [if_neg (c := t = s) ts]
  have : lessN left s t = left t := by simp [lessN, ts]
  rw [this]

theorem drop_del (hsl : TSorted l) {s : ByteArray} (hls : left s = true) (hK : sAt (ser l s) below = (ser l s).length) (h : TIs w p e ((lDrop l left below).filter fun x => !decide (x.n = s)) b m) : TIs w p e (lDrop l (lessN left s) below) b m := by
 have : (lDrop l left below).filter (fun x => !decide (x.n = s)) = lDrop l (lessN left s) below := by
  refine by_series (List.Pairwise.filter _ (lDrop_sorted hsl _ _)) (lDrop_sorted hsl _ _) fun t => ?_
  rw [ser_filter_name (fun x => !decide (x = s)), lDrop_next hls]
  by_cases ts : t = s
  ·rw [if_neg (by simp [ts]), if_pos ts, sAt_drop (ser_rise hsl s), hK, List.drop_length]
  ·rw [if_pos (by simp [ts]), if_neg ts]
 rw [← this]
 exact h

theorem drop_same (hsl : TSorted l) {s : ByteArray} (hls : left s = true) (hK : sAt (ser l s) below = 0) : lDrop l left below = lDrop l (lessN left s) below := by
 refine by_series (lDrop_sorted hsl _ _) (lDrop_sorted hsl _ _) fun t => ?_
 rw [lDrop_next hls]
 by_cases ts : t = s
 ·rw [if_pos ts, sAt_drop (ser_rise hsl s), hK, List.drop_zero, lDrop_ser, ts, if_pos hls]
 ·rw [if_neg ts]

/-- A series is cut: a new row lies in its place. -/
theorem drop_put (hsl : TSorted l) (hfit : ∀ x ∈ l, TFit x) (hok : ∀ x ∈ l, tOk e x = true) {s : ByteArray} (hs : s.size ≤ maxLen) (hls : left s = true) (hK : sAt (ser l s) below < (ser l s).length) (h : TIs w p e (lDrop l left below) b m) (bl : Below w.heap.size w w') {u : Value}
  (hu : BkOwn w' w.heap.size u ((ser l s).drop (sAt (ser l s) below))) (hm : TMap w2 b n (mPut m s u)) (ht : w'.mapTurned w2 b) : TIs w2 p e (lDrop l (lessN left s) below) b (mPut m s u) := by
 have hss : ser (lDrop l (lessN left s) below) s = (ser l s).drop (sAt (ser l s) below) := by rw [lDrop_next hls, if_pos rfl, sAt_drop (ser_rise hsl s)]
 have hge : ∀ g, u.ownBlock = some g → w.heap.size ≤ g := fun g hg => own_ge hu hg
 have hb := h.map.lt
 have hp := h.lt_p
 have hold : ∀ i, i < w.heap.size → i ≠ b → w2.heap[i]? = w.heap[i]? := fun i hi hib => (ht.grown.block i (Nat.lt_of_lt_of_le hi bl.size) (fun c => hib (Option.some.inj c))).trans (bl.block i hi)
 refine h.put s hs u hm ?_ ?_ (fun c => ?_) (fun c => ?_) (fun t x g hts ne hx hg => ⟨fun c => ?_, ?_⟩) (hold p hp h.pb) (fun t ne => by rw [lDrop_next hls, if_neg ne]) (lDrop_sorted hsl _ _) (fun x hx => hok x (List.mem_filter.1 hx).1) (fun x hx => hfit x (List.mem_filter.1 hx).1)
 ·rw [hss]
  refine own_at (own_base hu (D' := 0) (fun _ _ => Nat.zero_le _)) (fun g hg => ht.grown.block g (own_lt hu hg) (fun c => ?_))
  have := hge g hg
  have := Option.some.inj c
  omega
 ·rw [hss]
  intro c
  have := congrArg List.length c
  rw [List.length_drop, List.length_nil] at this
  omega
 ·have := hge b c
  omega
 ·have := hge p c
  omega
 ·have := hge g c
  have := own_lt (h.known hts hx).2.1 hg
  omega
 ·exact hold g (own_lt (h.known hts hx).2.1 hg) (fun c => (h.known hts hx).2.2.1 (by rw [hg, c]))
end

set_option maxHeartbeats 3200000 in
set_option maxRecDepth 20000 in
theorem drop_any {w : World} {p : Nat} {e : Int} {l : List TRec} {F : TFoot} (below : Int) (h : TRep w p e l F) (hl : l.length ≤ 1000) :
  Calls Tryz.prog 140 #[tptr p, .int .i64 below] w fun x w' => x = .returned (.int .i64 ((l.length - (tKeep l below).length : Nat) : Int)) ∧ ∃ F', TRep w' p e (tKeep l below) F' ∧ TStep F F' w w' := by
 obtain ⟨b, m, h, rfl⟩ := h
 have H := Hid.of h
 have hall := tall_any h
 have hm := h.map
 obtain ⟨n, hn⟩ : ∃ n, l.length = n := ⟨_, rfl⟩
 have LN := Hid.of hn
 rw [hn] at hm hl ⊢
 obtain ⟨T, hT⟩ : ∃ T, n - (tKeep l below).length = T := ⟨_, rfl⟩
 have HTT := Hid.of hT
 rw [hT]
 have hnm : n < maxLen := by unfold maxLen; omega
 clear h hn hT
 go_enter Tryz.func140, Tryz.ntmps140
 go_wp2_with fail
 refine hall.mono ?_
 rintro x w1 ⟨rfl, rfl⟩
 go_wp2_with (first
  | (at_range; refine wpList_range_text _ rfl _ 222 rfl 9 227 kT mT b n m rfl hm ?_; intro w2 c0 hrg0 hc0 hg0 hs0)
  | go_in)
 go_frame
 have B0 := Hid.of ((Below.refl w1.heap.size w1).grown hg0 (Nat.le_refl _) (fun j hj => by cases hj))
 clear hg0 hs0 hm hall
 go_loopg [5] n (fun kx nv wr => ∃ (left : ByteArray → Bool) (cnt c : Nat) (mj : ByteArray → Option Value), nv = .int .i64 c ∧ c ≤ n ∧ cnt ≤ kx ∧ Hid (c + (lDrop l left below).length = n) ∧ Hid (RangeIs Tryz.prog 9 wr b w1.heap.size n mj left cnt) ∧ Hid (TIs wr p e (lDrop l left below) b mj) ∧ Hid (∀ s v, mj s = some v → m s = some v ∨ ∀ g, v.ownBlock = some g → w1.heap.size ≤ g) ∧ Hid (Touch (fun i => i = b ∨ w1.heap.size ≤ i) w1 wr))
 case atStart =>
  have e1 : lDrop l (fun s => (m s).isSome) below = l := lDrop_start (fun x hx => (H.out.some_of hx).2) below
  exact ⟨_, c0, 0, m, rfl, Nat.zero_le _, hc0, Hid.of (by rw [e1, Nat.zero_add]; exact LN.out), Hid.of hrg0, Hid.of (by rw [e1]; exact H.out.below B0.out), Hid.of (fun s v h => .inl h), Hid.of (Touch.below B0.out)⟩
 case round =>
  obtain ⟨left, cnt, c, mj, rfl, hcn, hck, HC, RG, HTI, HM, HTo⟩ := hrel
  have hrg := RG.out
  go_wp2_with (first
   | (at_next; refine wpList_next_text _ rfl _ rfl 9 kT b w1.heap.size n mj left cnt rfl hrg ?_ ?_)
   | go_in)
  ·intro h0 hdone
   have e1 : lDrop l left below = tKeep l below := lDrop_end (fun x hx => hdone _ (H.out.some_of hx).1) below
   have hTI := HTI.out
   have hC := HC.out
   rw [e1] at hTI hC
   obtain rfl : c = T := by have := HTT.out; omega
   have HTI2 := Hid.of hTI
   clear hdone h0 hrg e1 hTI hC
   go_wp2
   go_ret
   refine ⟨rfl, _, ⟨b, mj, HTI2.out, rfl⟩, tstep_of (HTo.out.mono (fun i hi c => c.elim (fun c => c ▸ .inl rfl) (fun c => absurd hi (Nat.not_lt.2 c)))) (fun k hk => ?_)⟩
   rcases hk with c | ⟨s, v, h1, h2, h3⟩
   ·exact .inl (.inl c)
   ·rcases HM.out s v h2 with d | d
    ·exact .inl (.inr ⟨s, v, h1, d, h3⟩)
    ·exact .inr (d k h3)
  ·intro s v w3 cnt' hs hls hms hrg1 hlt hg1 hs1 hen
   have hT3 := HTI.out.stepped hrg hg1 (by have := H.out.lt_p; omega)
   have hv := (hT3.known hs hms).2.1
   rw [lDrop_ser, if_pos hls] at hv
   have hlen : (lDrop l (lessN left s) below).length + sAt (ser l s) below = (lDrop l left below).length := lDrop_len (l := l) H.out.sorted hls below
   have hpl := place_any v (ser l s) below w3 hv.row (H.out.rise s) (by have := ser_le l s; have := LN.out; omega)
   have HTo3 := Hid.of (HTo.out.trans (Touch.grown (F := fun i => i = b ∨ w1.heap.size ≤ i) hg1 (fun i _ c => by cases c; exact .inr (Nat.le_refl _))))
   obtain ⟨va, vc, rfl, hvc, hvm⟩ := own_shape hv
   obtain ⟨K, hK⟩ : ∃ K, sAt (ser l s) below = K := ⟨_, rfl⟩
   have hKle : K ≤ (ser l s).length := by rw [← hK]; exact sAt_le _ _
   rw [hK] at hpl hlen
   obtain ⟨G0, hG0⟩ : ∃ A, sHas (ser l s) below = A := ⟨_, rfl⟩
   rw [hG0] at hpl
   have KE := Hid.of hK
   obtain ⟨N, hN⟩ : ∃ N, (ser l s).length = N := ⟨_, rfl⟩
   have NE := Hid.of hN
   rw [hN] at hpl hKle hen hvc
   have hNn : N ≤ n := by rw [← hN, ← LN.out]; exact ser_le l s
   have HV := Hid.of hv
   have MS : Hid (mj s = some (.slice va N vc)) := Hid.of (by rw [← hN]; exact hms)
   have RG1 := Hid.of hrg1
   have HT3 := Hid.of hT3
   have LL := Hid.of hlen
   have LS := Hid.of hls
   have hcK : c + K ≤ n := by have := HC.out; omega
   clear hv hK hG0 hN hlen hrg hrg1 hg1 hs1 hT3 hms hls
   go_wp2_with fail
   refine hpl.mono ?_
   rintro x w4 ⟨rfl, b4⟩
   have RG4 := Hid.of (RG1.out.at (b4.block b RG1.out.is.lt) (b4.block _ RG1.out.lt))
   have HT4 := Hid.of (HT3.out.below b4)
   have HTo4 := Hid.of (HTo3.out.trans (Touch.below (F := fun i => i = b ∨ w1.heap.size ≤ i) b4))
   have HV4 := Hid.of (own_at HV.out (w' := w4) (fun g hg => b4.block g (own_lt HV.out hg)))
   have c1 := HT4.out.c1
   have hrg4 := RG4.out
   clear b4 hpl
   by_cases hKN : K = N
   ·subst hKN
    go_wp2_with (first
     | (refine wpList_delete_round _ rfl _ _ 222 9 rfl 227 kT mT b w1.heap.size n mj (fun x => left x && !decide (x = s)) cnt' rfl hrg4 s rfl hs ?_; intro w5 cnt5 hrg5 hc5 ht5)
     | go_in)
    go_roundg cnt5
    case measure => omega
    case rel =>
     refine ⟨lessN left s, cnt5, c + K, mDel mj s, by go_num, hcK, Nat.le_refl _, Hid.of (by have := LL.out; have := HC.out; omega), Hid.of (hrg5.congr (fun _ _ => rfl) (fun x _ => by show (left x && !decide (x = s)) = ((left x && !decide (x = s)) && !decide (x = s)); cases left x <;> cases decide (x = s) <;> rfl)), Hid.of (drop_del H.out.sorted LS.out (by rw [KE.out, NE.out]) (HT4.out.del s hrg5.is ht5.grown)), Hid.of (fun t u hu => ?_), Hid.of (HTo4.out.trans (turned_touch ht5 (.inl rfl)))⟩
     unfold mDel at hu
     split at hu
     ·cases hu
     ·exact HM.out t u hu
   ·by_cases hK0 : K = 0
    ·subst hK0
     have hx0 : ¬ ((0 : Int) = (N : Int)) := by omega
     go_wp2
     go_roundg cnt'
     case measure => omega
     case rel =>
      exact ⟨lessN left s, cnt', c, mj, by go_num, hcn, Nat.le_refl _, Hid.of (by have := LL.out; have := HC.out; omega), RG4, Hid.of (by rw [← drop_same H.out.sorted LS.out KE.out]; exact HT4.out), HM, HTo4⟩
    ·have hx0 : ¬ ((K : Int) = (N : Int)) := by omega
     have hx1 : (0 : Int) < (K : Int) := by omega
     have hKv : (K : Int) ≤ (vc : Int) := by omega
     have hKN2 : (K : Int) ≤ (N : Int) := by omega
     have hlenK : ((ser l s).drop K).length = N - K := by rw [List.length_drop, NE.out]
     have hrow : BkRow w4.drew (.slice (Option.map (fun x => x.add (K * 6)) va) (N - K) (vc - K)) ((ser l s).drop K) := by
      have h0 := cut_row (E := N) (A := K) (by have := HV4.out; unfold BkOwn at this ⊢; rw [NE.out] at this ⊢; exact this) NE.out hKle (Nat.le_refl _)
      rw [List.take_of_length_le (by rw [NE.out]; exact Nat.le_refl _)] at h0
      unfold BkRow
      rw [hlenK]
      exact h0
     have hcl := (bkClone_any _ _ w4.drew hrow (by omega)).mono (R' := fun e w' => ∃ u, e = .returned u ∧ BkOwn w' w4.heap.size u ((ser l s).drop K) ∧ Below w4.heap.size w4 w') (by rintro e w' ⟨u, rfl, o, b⟩; exact ⟨u, rfl, o, ⟨b.os, b.tape, b.output, b.size, b.block⟩⟩)
     have hKv2 : (K : Int) < (vc : Int) := by omega
     have hKv3 : ¬ vc = K := by omega
     have hNv : (N : Int) ≤ (vc : Int) := by omega
     have KLT : Hid (sAt (ser l s) below < (ser l s).length) := Hid.of (by rw [KE.out, NE.out]; omega)
     clear hrow hlenK
     go_wp2_with fail
     refine wp_region_noPanic ?_
     go_region_with (first
      | (go_at_call 189; go_loud (refine hcl.mono ?_; rintro e w5 ⟨u5, rfl, o5, b5⟩; have O5 := Hid.of o5; have c5 := (HT4.out.below b5).c1; have hrg5 : RangeIs Tryz.prog 9 w5 b w1.heap.size n mj (fun x => left x && !decide (x = s)) cnt' := RG4.out.at (b5.block b RG4.out.is.lt) (b5.block _ RG4.out.lt); have B5 := Hid.of b5; clear o5 b5; obtain ⟨w6, hrun6, hrg6, ht6⟩ := hrg5.store kT mT hnm hs MS.out u5; have RG6 := Hid.of hrg6; have HT6 := Hid.of ht6; clear hrg6 ht6 hrg5)))
     all_goals
      refine NoPanic.normal ?_
      clear hrun6 c5
      go_wp2
      go_roundg cnt'
      case measure => omega
      case rel =>
       refine ⟨lessN left s, cnt', c + K, mPut mj s u5, by go_num, hcK, Nat.le_refl _, Hid.of (by have := LL.out; have := HC.out; omega), RG6, Hid.of (drop_put H.out.sorted H.out.fit H.out.ok hs LS.out KLT.out HT4.out B5.out (by rw [KE.out]; exact O5.out) RG6.out.is HT6.out), Hid.of (fun t x hx => ?_), Hid.of ((HTo4.out.trans (Touch.below B5.out)).trans (turned_touch HT6.out (.inl rfl)))⟩
       unfold mPut at hx
       split at hx
       ·rw [← Option.some.inj hx]
        exact .inr (fun g hg => Nat.le_trans HTo4.out.size (own_ge O5.out hg))
       ·exact HM.out t x hx

end Go.Proofs.YtiomoobeklpkmaaGreat

namespace Go.Proofs.YtiomoobeklpkmaaGreat
open Go.RowKit Go.Lib

/-- A record by value. -/
abbrev rcv (x : TRec) : Value := .agg #[.string x.n, .int .i64 x.s, .int .i64 x.a.c, .int .i64 x.a.hi, .int .u64 x.a.lo, .int .i64 x.a.mn, .int .i64 x.a.mx]

/-- Block q is a variable that holds record x; block p begins with a table's ticks. -/
structure TK (w0 : World) (q p : Nat) (e : Int) (x : TRec) (w : World) : Prop where
 blk : w.heap[q]? = some (.cells #[.string x.n, .int .i64 x.s, .int .i64 x.a.c, .int .i64 x.a.hi, .int .u64 x.a.lo, .int .i64 x.a.mn, .int .i64 x.a.mx] 101)
 c : w.cell? ⟨p, 0, none⟩ = some (.int .i64 e)
 lt : p < w.heap.size
 fr : Below w0.heap.size w0 w

theorem TK.next {w0 w w' : World} {q p : Nat} {e : Int} {x : TRec} (h : TK w0 q p e x w) (b : Below w.heap.size w w') : TK w0 q p e x w' :=
 ⟨(b.block q (Array.getElem?_eq_some_iff.1 h.blk).1).trans h.blk, by rw [b.cell h.lt]; exact h.c, Nat.lt_of_lt_of_le h.lt b.size, h.fr.trans (b.mono h.fr.size)⟩

theorem TK.at {w0 w : World} {q p : Nat} {e : Int} {x : TRec} (h : TK w0 q p e x w) : w.cell? ⟨q, 0, none⟩ = some (.string x.n) ∧ w.cell? ⟨q, 1, none⟩ = some (.int .i64 x.s) ∧ w.cell? ⟨q, 2, none⟩ = some (.int .i64 x.a.c) ∧ w.cell? ⟨q, 3, none⟩ = some (.int .i64 x.a.hi) ∧ w.cell? ⟨q, 4, none⟩ = some (.int .u64 x.a.lo) ∧ w.cell? ⟨q, 5, none⟩ = some (.int .i64 x.a.mn) ∧ w.cell? ⟨q, 6, none⟩ = some (.int .i64 x.a.mx) ∧ w.cell? ⟨p, 0, none⟩ = some (.int .i64 e) := by
 have hb := h.blk
 refine ⟨?_, ?_, ?_, ?_, ?_, ?_, ?_, h.c⟩ <;> simp [World.cell?, hb]

theorem one_name (w : World) (s : ByteArray) (t : TypeId) : CellRow (w.alloc (.cells #[.string s] t)) (.slice (some ⟨w.heap.size, 0, none⟩) 1 1) 1 ([s].map Value.string) := by
 refine ⟨_, 1, rfl, .inr ⟨_, 0, rfl, by simp, ?_⟩⟩
 intro j u hj
 have : j = 0 := by
  have := (List.getElem?_eq_some_iff.1 hj).1
  simp at this
  exact this
 subst this
 rw [cell_of_row _ _ _ _ _ _ (Go.heap_alloc_new _ _)]
 simpa using hj

set_option maxRecDepth 20000 in
set_option maxHeartbeats 3200000 in
theorem takes_at {w : World} {p : Nat} {e : Int} (hc0 : w.cell? ⟨p, 0, none⟩ = some (.int .i64 e)) (hlt : p < w.heap.size) (x : TRec) (hx : TFit x) :
  Calls Tryz.prog 204 #[tptr p, rcv x] w fun r w' => r = .returned (.bool (tOk e x)) ∧ Below w.heap.size w w' := by
 obtain ⟨q, hq⟩ : ∃ q, w.heap.size = q := ⟨_, rfl⟩
 obtain ⟨w1, hw1⟩ : ∃ w1, w.alloc (.cells #[.string x.n, .int .i64 x.s, .int .i64 x.a.c, .int .i64 x.a.hi, .int .u64 x.a.lo, .int .i64 x.a.mn, .int .i64 x.a.mx] 101) = w1 := ⟨_, rfl⟩
 have K1 : Hid (TK w q p e x w1) := Hid.of (by
  have hb : Below w.heap.size w w1 := by rw [← hw1]; exact (Below.refl _ _).alloc (Nat.le_refl _) _
  exact ⟨by rw [← hw1, ← hq]; exact (MapKept.heap_alloc w _).1, by rw [hb.cell hlt]; exact hc0, Nat.lt_of_lt_of_le hlt hb.size, hb⟩)
 obtain ⟨f1, f2, f3⟩ := hx
 have F1 := Hid.of f1
 have F2 := Hid.of f2
 obtain ⟨v1, h1⟩ : ∃ v1, nOk x.n = v1 := ⟨_, rfl⟩
 obtain ⟨v3, h3⟩ : ∃ v3, gOn x.s e = v3 := ⟨_, rfl⟩
 obtain ⟨v4, h4⟩ : ∃ v4, agOk x.a = v4 := ⟨_, rfl⟩
 have res : tOk e x = (v1 && decide (0 ≤ x.s) && v3 && v4) := by unfold tOk; rw [h1, h3, h4]
 rw [res]
 have V1 := Hid.of h1
 have V3 := Hid.of h3
 have V4 := Hid.of h4
 have HW := Hid.of hw1
 have HQ := Hid.of hq
 clear res h1 h3 h4 hw1 hc0 hlt f1 f2 f3 hq
 obtain ⟨c0, c1, c2, c3, c4, c5, c6, c7⟩ := K1.out.at
 cases v1
 ·go_enter Tryz.func204, Tryz.ntmps204
  go_upto_region 1 with fail
  rw [HW.out]
  rw [HQ.out]
  clear HW
  refine wp_region_noPanic ?_
  refine wp_region_held_drew (S := fun w' => w'.cell? ⟨q, 0, none⟩ = some (.string x.n) ∧ w'.cell? ⟨q, 1, none⟩ = some (.int .i64 x.s) ∧ w'.cell? ⟨q, 2, none⟩ = some (.int .i64 x.a.c) ∧ w'.cell? ⟨q, 3, none⟩ = some (.int .i64 x.a.hi) ∧ w'.cell? ⟨q, 4, none⟩ = some (.int .u64 x.a.lo) ∧ w'.cell? ⟨q, 5, none⟩ = some (.int .i64 x.a.mn) ∧ w'.cell? ⟨q, 6, none⟩ = some (.int .i64 x.a.mx) ∧ w'.cell? ⟨p, 0, none⟩ = some (.int .i64 e)) (by kernel_rfl) ?_ (fun hHeld => ?_)
  ·exact ⟨c0, c1, c2, c3, c4, c5, c6, c7⟩
  refine takeOp 0 (o := ⟨_, _, _, _, _, _⟩) (v := ?_) rfl (by kernel_rfl) (by rfl) hHeld ?_ ?_; rotate_left; (next => intro w' hSw; (try dsimp only at hSw); go_simp; all_goals with_reducible rfl); simp only [Act.put, pA9, pB9, pC9]
  refine takeOp 1 (o := ⟨_, _, _, _, _, _⟩) (v := ?_) rfl (by kernel_rfl) (by rfl) hHeld ?_ ?_; rotate_left; (next => intro w' hSw; (try dsimp only at hSw); go_simp; all_goals with_reducible rfl); simp only [Act.put, pA9, pB9, pC9]
  refine takeOp 2 (o := ⟨_, _, _, _, _, _⟩) (v := ?_) rfl (by kernel_rfl) (by rfl) hHeld ?_ ?_; rotate_left; (next => intro w' hSw; (try dsimp only at hSw); go_simp; all_goals with_reducible rfl); simp only [Act.put, pA9, pB9, pC9]
  refine takeOp 3 (o := ⟨_, _, _, _, _, _⟩) (v := ?_) rfl (by kernel_rfl) (by rfl) hHeld ?_ ?_; rotate_left; (next => intro w' hSw; (try dsimp only at hSw); go_simp; all_goals with_reducible rfl); simp only [Act.put, pA9, pB9, pC9]
  refine takeOp 4 (o := ⟨_, _, _, _, _, _⟩) (v := ?_) rfl (by kernel_rfl) (by rfl) hHeld ?_ ?_; rotate_left; (next => intro w' hSw; (try dsimp only at hSw); go_simp; all_goals with_reducible rfl); simp only [Act.put, pA9, pB9, pC9]
  refine wpAnyH_ready (rs := [5]) (by kernel_rfl) (by simp) ?_
  refine AllReadyH.cons (o := ⟨_, _, _, _, _, _⟩) rfl (fun K hK => ?_) AllReadyH.nil
  go_simp
  obtain ⟨w2, hw2⟩ : ∃ w2, (w1.alloc (.cells #[.string x.n] 9)).drew = w2 := ⟨_, rfl⟩
  have b2 : Below w1.heap.size w1 w2 := by rw [← hw2]; exact ((Below.refl _ _).alloc (Nat.le_refl _) _).drew
  have N2 : Hid (CellRow w2 (.slice (some ⟨w1.heap.size, 0, none⟩) 1 1) 1 ([x.n].map Value.string)) := Hid.of (by rw [← hw2]; exact one_name w1 x.n _)
  rw [hw2]
  clear hw2
  have K2 := Hid.of (K1.out.next b2)
  clear b2 hHeld c0 c1 c2 c3 c4 c5 c6 c7 K1
  obtain ⟨c0, c1, c2, c3, c4, c5, c6, c7⟩ := K2.out.at
  refine hK.out _ _ ⟨c0, c1, c2, c3, c4, c5, c6, c7⟩ (fun hHeld => ?_)
  clear hK K
  try simp only [Act.put, pA9, pB9, pC9]
  refine wpAnyH_ready (rs := [6]) (by kernel_rfl) (by simp) ?_
  refine AllReadyH.cons (o := ⟨_, _, _, _, _, _⟩) rfl (fun K hK => ?_) AllReadyH.nil
  go_simp
  refine (valid_any _ [x.n] _ N2.out (by simp) (fun s hs => by rw [List.mem_singleton.1 hs]; exact F1.out)).mono ?_
  rintro r w3 ⟨rfl, k3, hw3⟩
  have b3 : Below w2.heap.size w2 w3 := by rw [hw3]; exact below_drewN (Below.refl _ _) k3
  clear hw3
  rw [show ([x.n].all nOk) = false from by rw [List.all_cons, V1.out]; rfl]
  have K3 := Hid.of (K2.out.next b3)
  clear b3 hHeld c0 c1 c2 c3 c4 c5 c6 c7 K2
  obtain ⟨c0, c1, c2, c3, c4, c5, c6, c7⟩ := K3.out.at
  refine hK.out _ _ ⟨c0, c1, c2, c3, c4, c5, c6, c7⟩ (fun hHeld => ?_)
  clear hK K
  try simp only [Act.put, pA9, pB9, pC9]
  refine takeOp 7 (o := ⟨_, _, _, _, _, _⟩) (v := ?_) rfl (by kernel_rfl) (by rfl) hHeld ?_ ?_; rotate_left; (next => intro w' hSw; (try dsimp only at hSw); go_simp; all_goals with_reducible rfl); simp only [Act.put, pA9, pB9, pC9]
  refine takeOp 8 (o := ⟨_, _, _, _, _, _⟩) (v := ?_) rfl (by kernel_rfl) (by rfl) hHeld ?_ ?_; rotate_left; (next => intro w' hSw; (try dsimp only at hSw); go_simp; all_goals with_reducible rfl); simp only [Act.put, pA9, pB9, pC9]
  refine skipOp 9 (o := ⟨_, _, _, _, _, _⟩) rfl (by kernel_rfl) (by rfl) hHeld ?_
  simp only [Act.put, pA9, pB9, pC9]
  refine skipOp 10 (o := ⟨_, _, _, _, _, _⟩) rfl (by kernel_rfl) (by rfl) hHeld ?_
  simp only [Act.put, pA9, pB9, pC9]
  refine skipOp 11 (o := ⟨_, _, _, _, _, _⟩) rfl (by kernel_rfl) (by rfl) hHeld ?_
  simp only [Act.put, pA9, pB9, pC9]
  refine takeOp 12 (o := ⟨_, _, _, _, _, _⟩) (v := ?_) rfl (by kernel_rfl) (by rfl) hHeld ?_ ?_; rotate_left; (next => intro w' hSw; (try dsimp only at hSw); go_simp; all_goals with_reducible rfl); simp only [Act.put, pA9, pB9, pC9]
  refine takeOp 13 (o := ⟨_, _, _, _, _, _⟩) (v := ?_) rfl (by kernel_rfl) (by rfl) hHeld ?_ ?_; rotate_left; (next => intro w' hSw; (try dsimp only at hSw); go_simp; all_goals with_reducible rfl); simp only [Act.put, pA9, pB9, pC9]
  refine skipOp 14 (o := ⟨_, _, _, _, _, _⟩) rfl (by kernel_rfl) (by rfl) hHeld ?_
  simp only [Act.put, pA9, pB9, pC9]
  refine skipOp 15 (o := ⟨_, _, _, _, _, _⟩) rfl (by kernel_rfl) (by rfl) hHeld ?_
  simp only [Act.put, pA9, pB9, pC9]
  refine skipOp 16 (o := ⟨_, _, _, _, _, _⟩) rfl (by kernel_rfl) (by rfl) hHeld ?_
  simp only [Act.put, pA9, pB9, pC9]
  refine skipOp 17 (o := ⟨_, _, _, _, _, _⟩) rfl (by kernel_rfl) (by rfl) hHeld ?_
  simp only [Act.put, pA9, pB9, pC9]
  refine skipOp 18 (o := ⟨_, _, _, _, _, _⟩) rfl (by kernel_rfl) (by rfl) hHeld ?_
  simp only [Act.put, pA9, pB9, pC9]
  refine skipOp 19 (o := ⟨_, _, _, _, _, _⟩) rfl (by kernel_rfl) (by rfl) hHeld ?_
  simp only [Act.put, pA9, pB9, pC9]
  refine skipOp 20 (o := ⟨_, _, _, _, _, _⟩) rfl (by kernel_rfl) (by rfl) hHeld ?_
  simp only [Act.put, pA9, pB9, pC9]
  refine takeOp 21 (o := ⟨_, _, _, _, _, _⟩) (v := ?_) rfl (by kernel_rfl) (by rfl) hHeld ?_ ?_; rotate_left; (next => intro w' hSw; (try dsimp only at hSw); go_simp; all_goals with_reducible rfl); simp only [Act.put, pA9, pB9, pC9]
  refine takeOp 22 (o := ⟨_, _, _, _, _, _⟩) (v := ?_) rfl (by kernel_rfl) (by rfl) hHeld ?_ ?_; rotate_left; (next => intro w' hSw; (try dsimp only at hSw); go_simp; all_goals with_reducible rfl); simp only [Act.put, pA9, pB9, pC9]
  refine skipOp 23 (o := ⟨_, _, _, _, _, _⟩) rfl (by kernel_rfl) (by rfl) hHeld ?_
  simp only [Act.put, pA9, pB9, pC9]
  refine skipOp 24 (o := ⟨_, _, _, _, _, _⟩) rfl (by kernel_rfl) (by rfl) hHeld ?_
  simp only [Act.put, pA9, pB9, pC9]
  refine skipOp 25 (o := ⟨_, _, _, _, _, _⟩) rfl (by kernel_rfl) (by rfl) hHeld ?_
  simp only [Act.put, pA9, pB9, pC9]
  refine takeOp 26 (o := ⟨_, _, _, _, _, _⟩) (v := ?_) rfl (by kernel_rfl) (by rfl) hHeld ?_ ?_; rotate_left; (next => intro w' hSw; (try dsimp only at hSw); go_simp; all_goals with_reducible rfl); simp only [Act.put, pA9, pB9, pC9]
  refine takeOp 27 (o := ⟨_, _, _, _, _, _⟩) (v := ?_) rfl (by kernel_rfl) (by rfl) hHeld ?_ ?_; rotate_left; (next => intro w' hSw; (try dsimp only at hSw); go_simp; all_goals with_reducible rfl); simp only [Act.put, pA9, pB9, pC9]
  refine wpAnyH_done (by kernel_rfl) ?_ _
  refine NoPanic.normal ?_
  go_wp2
  go_ret
  exact ⟨rfl, K3.out.fr⟩
 ·by_cases hs : 0 ≤ x.s
  ·cases v3
   ·go_enter Tryz.func204, Tryz.ntmps204
    go_upto_region 1 with fail
    rw [HW.out]
    rw [HQ.out]
    clear HW
    refine wp_region_noPanic ?_
    refine wp_region_held_drew (S := fun w' => w'.cell? ⟨q, 0, none⟩ = some (.string x.n) ∧ w'.cell? ⟨q, 1, none⟩ = some (.int .i64 x.s) ∧ w'.cell? ⟨q, 2, none⟩ = some (.int .i64 x.a.c) ∧ w'.cell? ⟨q, 3, none⟩ = some (.int .i64 x.a.hi) ∧ w'.cell? ⟨q, 4, none⟩ = some (.int .u64 x.a.lo) ∧ w'.cell? ⟨q, 5, none⟩ = some (.int .i64 x.a.mn) ∧ w'.cell? ⟨q, 6, none⟩ = some (.int .i64 x.a.mx) ∧ w'.cell? ⟨p, 0, none⟩ = some (.int .i64 e)) (by kernel_rfl) ?_ (fun hHeld => ?_)
    ·exact ⟨c0, c1, c2, c3, c4, c5, c6, c7⟩
    refine takeOp 0 (o := ⟨_, _, _, _, _, _⟩) (v := ?_) rfl (by kernel_rfl) (by rfl) hHeld ?_ ?_; rotate_left; (next => intro w' hSw; (try dsimp only at hSw); go_simp; all_goals with_reducible rfl); simp only [Act.put, pA9, pB9, pC9]
    refine takeOp 1 (o := ⟨_, _, _, _, _, _⟩) (v := ?_) rfl (by kernel_rfl) (by rfl) hHeld ?_ ?_; rotate_left; (next => intro w' hSw; (try dsimp only at hSw); go_simp; all_goals with_reducible rfl); simp only [Act.put, pA9, pB9, pC9]
    refine takeOp 2 (o := ⟨_, _, _, _, _, _⟩) (v := ?_) rfl (by kernel_rfl) (by rfl) hHeld ?_ ?_; rotate_left; (next => intro w' hSw; (try dsimp only at hSw); go_simp; all_goals with_reducible rfl); simp only [Act.put, pA9, pB9, pC9]
    refine takeOp 3 (o := ⟨_, _, _, _, _, _⟩) (v := ?_) rfl (by kernel_rfl) (by rfl) hHeld ?_ ?_; rotate_left; (next => intro w' hSw; (try dsimp only at hSw); go_simp; all_goals with_reducible rfl); simp only [Act.put, pA9, pB9, pC9]
    refine takeOp 4 (o := ⟨_, _, _, _, _, _⟩) (v := ?_) rfl (by kernel_rfl) (by rfl) hHeld ?_ ?_; rotate_left; (next => intro w' hSw; (try dsimp only at hSw); go_simp; all_goals with_reducible rfl); simp only [Act.put, pA9, pB9, pC9]
    refine wpAnyH_ready (rs := [5]) (by kernel_rfl) (by simp) ?_
    refine AllReadyH.cons (o := ⟨_, _, _, _, _, _⟩) rfl (fun K hK => ?_) AllReadyH.nil
    go_simp
    obtain ⟨w2, hw2⟩ : ∃ w2, (w1.alloc (.cells #[.string x.n] 9)).drew = w2 := ⟨_, rfl⟩
    have b2 : Below w1.heap.size w1 w2 := by rw [← hw2]; exact ((Below.refl _ _).alloc (Nat.le_refl _) _).drew
    have N2 : Hid (CellRow w2 (.slice (some ⟨w1.heap.size, 0, none⟩) 1 1) 1 ([x.n].map Value.string)) := Hid.of (by rw [← hw2]; exact one_name w1 x.n _)
    rw [hw2]
    clear hw2
    have K2 := Hid.of (K1.out.next b2)
    clear b2 hHeld c0 c1 c2 c3 c4 c5 c6 c7 K1
    obtain ⟨c0, c1, c2, c3, c4, c5, c6, c7⟩ := K2.out.at
    refine hK.out _ _ ⟨c0, c1, c2, c3, c4, c5, c6, c7⟩ (fun hHeld => ?_)
    clear hK K
    try simp only [Act.put, pA9, pB9, pC9]
    refine wpAnyH_ready (rs := [6]) (by kernel_rfl) (by simp) ?_
    refine AllReadyH.cons (o := ⟨_, _, _, _, _, _⟩) rfl (fun K hK => ?_) AllReadyH.nil
    go_simp
    refine (valid_any _ [x.n] _ N2.out (by simp) (fun s hs => by rw [List.mem_singleton.1 hs]; exact F1.out)).mono ?_
    rintro r w3 ⟨rfl, k3, hw3⟩
    have b3 : Below w2.heap.size w2 w3 := by rw [hw3]; exact below_drewN (Below.refl _ _) k3
    clear hw3
    rw [show ([x.n].all nOk) = true from by rw [List.all_cons, V1.out]; rfl]
    have K3 := Hid.of (K2.out.next b3)
    clear b3 hHeld c0 c1 c2 c3 c4 c5 c6 c7 K2
    obtain ⟨c0, c1, c2, c3, c4, c5, c6, c7⟩ := K3.out.at
    refine hK.out _ _ ⟨c0, c1, c2, c3, c4, c5, c6, c7⟩ (fun hHeld => ?_)
    clear hK K
    try simp only [Act.put, pA9, pB9, pC9]
    refine takeOp 7 (o := ⟨_, _, _, _, _, _⟩) (v := ?_) rfl (by kernel_rfl) (by rfl) hHeld ?_ ?_; rotate_left; (next => intro w' hSw; (try dsimp only at hSw); go_simp; all_goals with_reducible rfl); simp only [Act.put, pA9, pB9, pC9]
    refine takeOp 8 (o := ⟨_, _, _, _, _, _⟩) (v := ?_) rfl (by kernel_rfl) (by rfl) hHeld ?_ ?_; rotate_left; (next => intro w' hSw; (try dsimp only at hSw); go_simp; all_goals with_reducible rfl); simp only [Act.put, pA9, pB9, pC9]
    refine takeOp 9 (o := ⟨_, _, _, _, _, _⟩) (v := ?_) rfl (by kernel_rfl) (by rfl) hHeld ?_ ?_; rotate_left; (next => intro w' hSw; (try dsimp only at hSw); go_simp; all_goals with_reducible rfl); simp only [Act.put, pA9, pB9, pC9]
    refine takeOp 10 (o := ⟨_, _, _, _, _, _⟩) (v := ?_) rfl (by kernel_rfl) (by rfl) hHeld ?_ ?_; rotate_left; (next => intro w' hSw; (try dsimp only at hSw); go_simp; all_goals with_reducible rfl); simp only [Act.put, pA9, pB9, pC9]
    refine takeOp 11 (o := ⟨_, _, _, _, _, _⟩) (v := ?_) rfl (by kernel_rfl) (by rfl) hHeld ?_ ?_; rotate_left; (next => intro w' hSw; (try dsimp only at hSw); go_simp; all_goals with_reducible rfl); simp only [Act.put, pA9, pB9, pC9]
    refine takeOp 12 (o := ⟨_, _, _, _, _, _⟩) (v := ?_) rfl (by kernel_rfl) (by rfl) hHeld ?_ ?_; rotate_left; (next => intro w' hSw; (try dsimp only at hSw); go_simp; all_goals with_reducible rfl); simp only [Act.put, pA9, pB9, pC9]
    refine takeOp 13 (o := ⟨_, _, _, _, _, _⟩) (v := ?_) rfl (by kernel_rfl) (by rfl) hHeld ?_ ?_; rotate_left; (next => intro w' hSw; (try dsimp only at hSw); go_simp; all_goals with_reducible rfl); simp only [Act.put, pA9, pB9, pC9]
    refine takeOp 14 (o := ⟨_, _, _, _, _, _⟩) (v := ?_) rfl (by kernel_rfl) (by rfl) hHeld ?_ ?_; rotate_left; (next => intro w' hSw; (try dsimp only at hSw); go_simp; all_goals with_reducible rfl); simp only [Act.put, pA9, pB9, pC9]
    refine takeOp 15 (o := ⟨_, _, _, _, _, _⟩) (v := ?_) rfl (by kernel_rfl) (by rfl) hHeld ?_ ?_; rotate_left; (next => intro w' hSw; (try dsimp only at hSw); go_simp; all_goals with_reducible rfl); simp only [Act.put, pA9, pB9, pC9]
    refine takeOp 16 (o := ⟨_, _, _, _, _, _⟩) (v := ?_) rfl (by kernel_rfl) (by rfl) hHeld ?_ ?_; rotate_left; (next => intro w' hSw; (try dsimp only at hSw); go_simp; all_goals with_reducible rfl); simp only [Act.put, pA9, pB9, pC9]
    refine takeOp 17 (o := ⟨_, _, _, _, _, _⟩) (v := ?_) rfl (by kernel_rfl) (by rfl) hHeld ?_ ?_; rotate_left; (next => intro w' hSw; (try dsimp only at hSw); go_simp; all_goals with_reducible rfl); simp only [Act.put, pA9, pB9, pC9]
    refine takeOp 18 (o := ⟨_, _, _, _, _, _⟩) (v := ?_) rfl (by kernel_rfl) (by rfl) hHeld ?_ ?_; rotate_left; (next => intro w' hSw; (try dsimp only at hSw); go_simp; all_goals with_reducible rfl); simp only [Act.put, pA9, pB9, pC9]
    refine takeOp 19 (o := ⟨_, _, _, _, _, _⟩) (v := ?_) rfl (by kernel_rfl) (by rfl) hHeld ?_ ?_; rotate_left; (next => intro w' hSw; (try dsimp only at hSw); go_simp; all_goals with_reducible rfl); simp only [Act.put, pA9, pB9, pC9]
    refine wpAnyH_ready (rs := [20]) (by kernel_rfl) (by simp) ?_
    refine AllReadyH.cons (o := ⟨_, _, _, _, _, _⟩) rfl (fun K hK => ?_) AllReadyH.nil
    go_simp
    refine (On_any x.s e _).mono ?_
    rintro r w4 ⟨rfl, k4, hw4⟩
    have b4 : Below w3.heap.size w3 w4 := by rw [hw4]; exact below_drewN (Below.refl _ _) k4
    clear hw4
    rw [V3.out]
    have K4 := Hid.of (K3.out.next b4)
    clear b4 hHeld c0 c1 c2 c3 c4 c5 c6 c7 K3
    obtain ⟨c0, c1, c2, c3, c4, c5, c6, c7⟩ := K4.out.at
    refine hK.out _ _ ⟨c0, c1, c2, c3, c4, c5, c6, c7⟩ (fun hHeld => ?_)
    clear hK K
    try simp only [Act.put, pA9, pB9, pC9]
    refine takeOp 21 (o := ⟨_, _, _, _, _, _⟩) (v := ?_) rfl (by kernel_rfl) (by rfl) hHeld ?_ ?_; rotate_left; (next => intro w' hSw; (try dsimp only at hSw); go_simp; all_goals with_reducible rfl); simp only [Act.put, pA9, pB9, pC9]
    refine takeOp 22 (o := ⟨_, _, _, _, _, _⟩) (v := ?_) rfl (by kernel_rfl) (by rfl) hHeld ?_ ?_; rotate_left; (next => intro w' hSw; (try dsimp only at hSw); go_simp; all_goals with_reducible rfl); simp only [Act.put, pA9, pB9, pC9]
    refine skipOp 23 (o := ⟨_, _, _, _, _, _⟩) rfl (by kernel_rfl) (by rfl) hHeld ?_
    simp only [Act.put, pA9, pB9, pC9]
    refine skipOp 24 (o := ⟨_, _, _, _, _, _⟩) rfl (by kernel_rfl) (by rfl) hHeld ?_
    simp only [Act.put, pA9, pB9, pC9]
    refine skipOp 25 (o := ⟨_, _, _, _, _, _⟩) rfl (by kernel_rfl) (by rfl) hHeld ?_
    simp only [Act.put, pA9, pB9, pC9]
    refine takeOp 26 (o := ⟨_, _, _, _, _, _⟩) (v := ?_) rfl (by kernel_rfl) (by rfl) hHeld ?_ ?_; rotate_left; (next => intro w' hSw; (try dsimp only at hSw); go_simp; all_goals with_reducible rfl); simp only [Act.put, pA9, pB9, pC9]
    refine takeOp 27 (o := ⟨_, _, _, _, _, _⟩) (v := ?_) rfl (by kernel_rfl) (by rfl) hHeld ?_ ?_; rotate_left; (next => intro w' hSw; (try dsimp only at hSw); go_simp; all_goals with_reducible rfl); simp only [Act.put, pA9, pB9, pC9]
    refine wpAnyH_done (by kernel_rfl) ?_ _
    refine NoPanic.normal ?_
    go_wp2
    go_ret
    exact ⟨by simp, K4.out.fr⟩
   ·go_enter Tryz.func204, Tryz.ntmps204
    go_upto_region 1 with fail
    rw [HW.out]
    rw [HQ.out]
    clear HW
    refine wp_region_noPanic ?_
    refine wp_region_held_drew (S := fun w' => w'.cell? ⟨q, 0, none⟩ = some (.string x.n) ∧ w'.cell? ⟨q, 1, none⟩ = some (.int .i64 x.s) ∧ w'.cell? ⟨q, 2, none⟩ = some (.int .i64 x.a.c) ∧ w'.cell? ⟨q, 3, none⟩ = some (.int .i64 x.a.hi) ∧ w'.cell? ⟨q, 4, none⟩ = some (.int .u64 x.a.lo) ∧ w'.cell? ⟨q, 5, none⟩ = some (.int .i64 x.a.mn) ∧ w'.cell? ⟨q, 6, none⟩ = some (.int .i64 x.a.mx) ∧ w'.cell? ⟨p, 0, none⟩ = some (.int .i64 e)) (by kernel_rfl) ?_ (fun hHeld => ?_)
    ·exact ⟨c0, c1, c2, c3, c4, c5, c6, c7⟩
    refine takeOp 0 (o := ⟨_, _, _, _, _, _⟩) (v := ?_) rfl (by kernel_rfl) (by rfl) hHeld ?_ ?_; rotate_left; (next => intro w' hSw; (try dsimp only at hSw); go_simp; all_goals with_reducible rfl); simp only [Act.put, pA9, pB9, pC9]
    refine takeOp 1 (o := ⟨_, _, _, _, _, _⟩) (v := ?_) rfl (by kernel_rfl) (by rfl) hHeld ?_ ?_; rotate_left; (next => intro w' hSw; (try dsimp only at hSw); go_simp; all_goals with_reducible rfl); simp only [Act.put, pA9, pB9, pC9]
    refine takeOp 2 (o := ⟨_, _, _, _, _, _⟩) (v := ?_) rfl (by kernel_rfl) (by rfl) hHeld ?_ ?_; rotate_left; (next => intro w' hSw; (try dsimp only at hSw); go_simp; all_goals with_reducible rfl); simp only [Act.put, pA9, pB9, pC9]
    refine takeOp 3 (o := ⟨_, _, _, _, _, _⟩) (v := ?_) rfl (by kernel_rfl) (by rfl) hHeld ?_ ?_; rotate_left; (next => intro w' hSw; (try dsimp only at hSw); go_simp; all_goals with_reducible rfl); simp only [Act.put, pA9, pB9, pC9]
    refine takeOp 4 (o := ⟨_, _, _, _, _, _⟩) (v := ?_) rfl (by kernel_rfl) (by rfl) hHeld ?_ ?_; rotate_left; (next => intro w' hSw; (try dsimp only at hSw); go_simp; all_goals with_reducible rfl); simp only [Act.put, pA9, pB9, pC9]
    refine wpAnyH_ready (rs := [5]) (by kernel_rfl) (by simp) ?_
    refine AllReadyH.cons (o := ⟨_, _, _, _, _, _⟩) rfl (fun K hK => ?_) AllReadyH.nil
    go_simp
    obtain ⟨w2, hw2⟩ : ∃ w2, (w1.alloc (.cells #[.string x.n] 9)).drew = w2 := ⟨_, rfl⟩
    have b2 : Below w1.heap.size w1 w2 := by rw [← hw2]; exact ((Below.refl _ _).alloc (Nat.le_refl _) _).drew
    have N2 : Hid (CellRow w2 (.slice (some ⟨w1.heap.size, 0, none⟩) 1 1) 1 ([x.n].map Value.string)) := Hid.of (by rw [← hw2]; exact one_name w1 x.n _)
    rw [hw2]
    clear hw2
    have K2 := Hid.of (K1.out.next b2)
    clear b2 hHeld c0 c1 c2 c3 c4 c5 c6 c7 K1
    obtain ⟨c0, c1, c2, c3, c4, c5, c6, c7⟩ := K2.out.at
    refine hK.out _ _ ⟨c0, c1, c2, c3, c4, c5, c6, c7⟩ (fun hHeld => ?_)
    clear hK K
    try simp only [Act.put, pA9, pB9, pC9]
    refine wpAnyH_ready (rs := [6]) (by kernel_rfl) (by simp) ?_
    refine AllReadyH.cons (o := ⟨_, _, _, _, _, _⟩) rfl (fun K hK => ?_) AllReadyH.nil
    go_simp
    refine (valid_any _ [x.n] _ N2.out (by simp) (fun s hs => by rw [List.mem_singleton.1 hs]; exact F1.out)).mono ?_
    rintro r w3 ⟨rfl, k3, hw3⟩
    have b3 : Below w2.heap.size w2 w3 := by rw [hw3]; exact below_drewN (Below.refl _ _) k3
    clear hw3
    rw [show ([x.n].all nOk) = true from by rw [List.all_cons, V1.out]; rfl]
    have K3 := Hid.of (K2.out.next b3)
    clear b3 hHeld c0 c1 c2 c3 c4 c5 c6 c7 K2
    obtain ⟨c0, c1, c2, c3, c4, c5, c6, c7⟩ := K3.out.at
    refine hK.out _ _ ⟨c0, c1, c2, c3, c4, c5, c6, c7⟩ (fun hHeld => ?_)
    clear hK K
    try simp only [Act.put, pA9, pB9, pC9]
    refine takeOp 7 (o := ⟨_, _, _, _, _, _⟩) (v := ?_) rfl (by kernel_rfl) (by rfl) hHeld ?_ ?_; rotate_left; (next => intro w' hSw; (try dsimp only at hSw); go_simp; all_goals with_reducible rfl); simp only [Act.put, pA9, pB9, pC9]
    refine takeOp 8 (o := ⟨_, _, _, _, _, _⟩) (v := ?_) rfl (by kernel_rfl) (by rfl) hHeld ?_ ?_; rotate_left; (next => intro w' hSw; (try dsimp only at hSw); go_simp; all_goals with_reducible rfl); simp only [Act.put, pA9, pB9, pC9]
    refine takeOp 9 (o := ⟨_, _, _, _, _, _⟩) (v := ?_) rfl (by kernel_rfl) (by rfl) hHeld ?_ ?_; rotate_left; (next => intro w' hSw; (try dsimp only at hSw); go_simp; all_goals with_reducible rfl); simp only [Act.put, pA9, pB9, pC9]
    refine takeOp 10 (o := ⟨_, _, _, _, _, _⟩) (v := ?_) rfl (by kernel_rfl) (by rfl) hHeld ?_ ?_; rotate_left; (next => intro w' hSw; (try dsimp only at hSw); go_simp; all_goals with_reducible rfl); simp only [Act.put, pA9, pB9, pC9]
    refine takeOp 11 (o := ⟨_, _, _, _, _, _⟩) (v := ?_) rfl (by kernel_rfl) (by rfl) hHeld ?_ ?_; rotate_left; (next => intro w' hSw; (try dsimp only at hSw); go_simp; all_goals with_reducible rfl); simp only [Act.put, pA9, pB9, pC9]
    refine takeOp 12 (o := ⟨_, _, _, _, _, _⟩) (v := ?_) rfl (by kernel_rfl) (by rfl) hHeld ?_ ?_; rotate_left; (next => intro w' hSw; (try dsimp only at hSw); go_simp; all_goals with_reducible rfl); simp only [Act.put, pA9, pB9, pC9]
    refine takeOp 13 (o := ⟨_, _, _, _, _, _⟩) (v := ?_) rfl (by kernel_rfl) (by rfl) hHeld ?_ ?_; rotate_left; (next => intro w' hSw; (try dsimp only at hSw); go_simp; all_goals with_reducible rfl); simp only [Act.put, pA9, pB9, pC9]
    refine takeOp 14 (o := ⟨_, _, _, _, _, _⟩) (v := ?_) rfl (by kernel_rfl) (by rfl) hHeld ?_ ?_; rotate_left; (next => intro w' hSw; (try dsimp only at hSw); go_simp; all_goals with_reducible rfl); simp only [Act.put, pA9, pB9, pC9]
    refine takeOp 15 (o := ⟨_, _, _, _, _, _⟩) (v := ?_) rfl (by kernel_rfl) (by rfl) hHeld ?_ ?_; rotate_left; (next => intro w' hSw; (try dsimp only at hSw); go_simp; all_goals with_reducible rfl); simp only [Act.put, pA9, pB9, pC9]
    refine takeOp 16 (o := ⟨_, _, _, _, _, _⟩) (v := ?_) rfl (by kernel_rfl) (by rfl) hHeld ?_ ?_; rotate_left; (next => intro w' hSw; (try dsimp only at hSw); go_simp; all_goals with_reducible rfl); simp only [Act.put, pA9, pB9, pC9]
    refine takeOp 17 (o := ⟨_, _, _, _, _, _⟩) (v := ?_) rfl (by kernel_rfl) (by rfl) hHeld ?_ ?_; rotate_left; (next => intro w' hSw; (try dsimp only at hSw); go_simp; all_goals with_reducible rfl); simp only [Act.put, pA9, pB9, pC9]
    refine takeOp 18 (o := ⟨_, _, _, _, _, _⟩) (v := ?_) rfl (by kernel_rfl) (by rfl) hHeld ?_ ?_; rotate_left; (next => intro w' hSw; (try dsimp only at hSw); go_simp; all_goals with_reducible rfl); simp only [Act.put, pA9, pB9, pC9]
    refine takeOp 19 (o := ⟨_, _, _, _, _, _⟩) (v := ?_) rfl (by kernel_rfl) (by rfl) hHeld ?_ ?_; rotate_left; (next => intro w' hSw; (try dsimp only at hSw); go_simp; all_goals with_reducible rfl); simp only [Act.put, pA9, pB9, pC9]
    refine wpAnyH_ready (rs := [20]) (by kernel_rfl) (by simp) ?_
    refine AllReadyH.cons (o := ⟨_, _, _, _, _, _⟩) rfl (fun K hK => ?_) AllReadyH.nil
    go_simp
    refine (On_any x.s e _).mono ?_
    rintro r w4 ⟨rfl, k4, hw4⟩
    have b4 : Below w3.heap.size w3 w4 := by rw [hw4]; exact below_drewN (Below.refl _ _) k4
    clear hw4
    rw [V3.out]
    have K4 := Hid.of (K3.out.next b4)
    clear b4 hHeld c0 c1 c2 c3 c4 c5 c6 c7 K3
    obtain ⟨c0, c1, c2, c3, c4, c5, c6, c7⟩ := K4.out.at
    refine hK.out _ _ ⟨c0, c1, c2, c3, c4, c5, c6, c7⟩ (fun hHeld => ?_)
    clear hK K
    try simp only [Act.put, pA9, pB9, pC9]
    refine takeOp 21 (o := ⟨_, _, _, _, _, _⟩) (v := ?_) rfl (by kernel_rfl) (by rfl) hHeld ?_ ?_; rotate_left; (next => intro w' hSw; (try dsimp only at hSw); go_simp; all_goals with_reducible rfl); simp only [Act.put, pA9, pB9, pC9]
    refine takeOp 22 (o := ⟨_, _, _, _, _, _⟩) (v := ?_) rfl (by kernel_rfl) (by rfl) hHeld ?_ ?_; rotate_left; (next => intro w' hSw; (try dsimp only at hSw); go_simp; all_goals with_reducible rfl); simp only [Act.put, pA9, pB9, pC9]
    refine takeOp 23 (o := ⟨_, _, _, _, _, _⟩) (v := ?_) rfl (by kernel_rfl) (by rfl) hHeld ?_ ?_; rotate_left; (next => intro w' hSw; (try dsimp only at hSw); go_simp; all_goals with_reducible rfl); simp only [Act.put, pA9, pB9, pC9]
    refine takeOp 24 (o := ⟨_, _, _, _, _, _⟩) (v := ?_) rfl (by kernel_rfl) (by rfl) hHeld ?_ ?_; rotate_left; (next => intro w' hSw; (try dsimp only at hSw); go_simp; all_goals with_reducible rfl); simp only [Act.put, pA9, pB9, pC9]
    refine wpAnyH_ready (rs := [25]) (by kernel_rfl) (by simp) ?_
    refine AllReadyH.cons (o := ⟨_, _, _, _, _, _⟩) rfl (fun K hK => ?_) AllReadyH.nil
    go_simp
    refine (aggValid_any x.a _).mono ?_
    rintro r w5 ⟨rfl, b5⟩
    rw [V4.out]
    have K5 := Hid.of (K4.out.next b5)
    clear b5 hHeld c0 c1 c2 c3 c4 c5 c6 c7 K4
    obtain ⟨c0, c1, c2, c3, c4, c5, c6, c7⟩ := K5.out.at
    refine hK.out _ _ ⟨c0, c1, c2, c3, c4, c5, c6, c7⟩ (fun hHeld => ?_)
    clear hK K
    try simp only [Act.put, pA9, pB9, pC9]
    refine takeOp 26 (o := ⟨_, _, _, _, _, _⟩) (v := ?_) rfl (by kernel_rfl) (by rfl) hHeld ?_ ?_; rotate_left; (next => intro w' hSw; (try dsimp only at hSw); go_simp; all_goals with_reducible rfl); simp only [Act.put, pA9, pB9, pC9]
    refine takeOp 27 (o := ⟨_, _, _, _, _, _⟩) (v := ?_) rfl (by kernel_rfl) (by rfl) hHeld ?_ ?_; rotate_left; (next => intro w' hSw; (try dsimp only at hSw); go_simp; all_goals with_reducible rfl); simp only [Act.put, pA9, pB9, pC9]
    refine wpAnyH_done (by kernel_rfl) ?_ _
    refine NoPanic.normal ?_
    go_wp2
    go_ret
    exact ⟨by simp [hs], K5.out.fr⟩
  ·go_enter Tryz.func204, Tryz.ntmps204
   go_upto_region 1 with fail
   rw [HW.out]
   rw [HQ.out]
   clear HW
   refine wp_region_noPanic ?_
   refine wp_region_held_drew (S := fun w' => w'.cell? ⟨q, 0, none⟩ = some (.string x.n) ∧ w'.cell? ⟨q, 1, none⟩ = some (.int .i64 x.s) ∧ w'.cell? ⟨q, 2, none⟩ = some (.int .i64 x.a.c) ∧ w'.cell? ⟨q, 3, none⟩ = some (.int .i64 x.a.hi) ∧ w'.cell? ⟨q, 4, none⟩ = some (.int .u64 x.a.lo) ∧ w'.cell? ⟨q, 5, none⟩ = some (.int .i64 x.a.mn) ∧ w'.cell? ⟨q, 6, none⟩ = some (.int .i64 x.a.mx) ∧ w'.cell? ⟨p, 0, none⟩ = some (.int .i64 e)) (by kernel_rfl) ?_ (fun hHeld => ?_)
   ·exact ⟨c0, c1, c2, c3, c4, c5, c6, c7⟩
   refine takeOp 0 (o := ⟨_, _, _, _, _, _⟩) (v := ?_) rfl (by kernel_rfl) (by rfl) hHeld ?_ ?_; rotate_left; (next => intro w' hSw; (try dsimp only at hSw); go_simp; all_goals with_reducible rfl); simp only [Act.put, pA9, pB9, pC9]
   refine takeOp 1 (o := ⟨_, _, _, _, _, _⟩) (v := ?_) rfl (by kernel_rfl) (by rfl) hHeld ?_ ?_; rotate_left; (next => intro w' hSw; (try dsimp only at hSw); go_simp; all_goals with_reducible rfl); simp only [Act.put, pA9, pB9, pC9]
   refine takeOp 2 (o := ⟨_, _, _, _, _, _⟩) (v := ?_) rfl (by kernel_rfl) (by rfl) hHeld ?_ ?_; rotate_left; (next => intro w' hSw; (try dsimp only at hSw); go_simp; all_goals with_reducible rfl); simp only [Act.put, pA9, pB9, pC9]
   refine takeOp 3 (o := ⟨_, _, _, _, _, _⟩) (v := ?_) rfl (by kernel_rfl) (by rfl) hHeld ?_ ?_; rotate_left; (next => intro w' hSw; (try dsimp only at hSw); go_simp; all_goals with_reducible rfl); simp only [Act.put, pA9, pB9, pC9]
   refine takeOp 4 (o := ⟨_, _, _, _, _, _⟩) (v := ?_) rfl (by kernel_rfl) (by rfl) hHeld ?_ ?_; rotate_left; (next => intro w' hSw; (try dsimp only at hSw); go_simp; all_goals with_reducible rfl); simp only [Act.put, pA9, pB9, pC9]
   refine wpAnyH_ready (rs := [5]) (by kernel_rfl) (by simp) ?_
   refine AllReadyH.cons (o := ⟨_, _, _, _, _, _⟩) rfl (fun K hK => ?_) AllReadyH.nil
   go_simp
   obtain ⟨w2, hw2⟩ : ∃ w2, (w1.alloc (.cells #[.string x.n] 9)).drew = w2 := ⟨_, rfl⟩
   have b2 : Below w1.heap.size w1 w2 := by rw [← hw2]; exact ((Below.refl _ _).alloc (Nat.le_refl _) _).drew
   have N2 : Hid (CellRow w2 (.slice (some ⟨w1.heap.size, 0, none⟩) 1 1) 1 ([x.n].map Value.string)) := Hid.of (by rw [← hw2]; exact one_name w1 x.n _)
   rw [hw2]
   clear hw2
   have K2 := Hid.of (K1.out.next b2)
   clear b2 hHeld c0 c1 c2 c3 c4 c5 c6 c7 K1
   obtain ⟨c0, c1, c2, c3, c4, c5, c6, c7⟩ := K2.out.at
   refine hK.out _ _ ⟨c0, c1, c2, c3, c4, c5, c6, c7⟩ (fun hHeld => ?_)
   clear hK K
   try simp only [Act.put, pA9, pB9, pC9]
   refine wpAnyH_ready (rs := [6]) (by kernel_rfl) (by simp) ?_
   refine AllReadyH.cons (o := ⟨_, _, _, _, _, _⟩) rfl (fun K hK => ?_) AllReadyH.nil
   go_simp
   refine (valid_any _ [x.n] _ N2.out (by simp) (fun s hs => by rw [List.mem_singleton.1 hs]; exact F1.out)).mono ?_
   rintro r w3 ⟨rfl, k3, hw3⟩
   have b3 : Below w2.heap.size w2 w3 := by rw [hw3]; exact below_drewN (Below.refl _ _) k3
   clear hw3
   rw [show ([x.n].all nOk) = true from by rw [List.all_cons, V1.out]; rfl]
   have K3 := Hid.of (K2.out.next b3)
   clear b3 hHeld c0 c1 c2 c3 c4 c5 c6 c7 K2
   obtain ⟨c0, c1, c2, c3, c4, c5, c6, c7⟩ := K3.out.at
   refine hK.out _ _ ⟨c0, c1, c2, c3, c4, c5, c6, c7⟩ (fun hHeld => ?_)
   clear hK K
   try simp only [Act.put, pA9, pB9, pC9]
   refine takeOp 7 (o := ⟨_, _, _, _, _, _⟩) (v := ?_) rfl (by kernel_rfl) (by rfl) hHeld ?_ ?_; rotate_left; (next => intro w' hSw; (try dsimp only at hSw); go_simp; all_goals with_reducible rfl); simp only [Act.put, pA9, pB9, pC9]
   refine takeOp 8 (o := ⟨_, _, _, _, _, _⟩) (v := ?_) rfl (by kernel_rfl) (by rfl) hHeld ?_ ?_; rotate_left; (next => intro w' hSw; (try dsimp only at hSw); go_simp; all_goals with_reducible rfl); simp only [Act.put, pA9, pB9, pC9]
   refine takeOp 9 (o := ⟨_, _, _, _, _, _⟩) (v := ?_) rfl (by kernel_rfl) (by rfl) hHeld ?_ ?_; rotate_left; (next => intro w' hSw; (try dsimp only at hSw); go_simp; all_goals with_reducible rfl); simp only [Act.put, pA9, pB9, pC9]
   refine takeOp 10 (o := ⟨_, _, _, _, _, _⟩) (v := ?_) rfl (by kernel_rfl) (by rfl) hHeld ?_ ?_; rotate_left; (next => intro w' hSw; (try dsimp only at hSw); go_simp; all_goals with_reducible rfl); simp only [Act.put, pA9, pB9, pC9]
   refine takeOp 11 (o := ⟨_, _, _, _, _, _⟩) (v := ?_) rfl (by kernel_rfl) (by rfl) hHeld ?_ ?_; rotate_left; (next => intro w' hSw; (try dsimp only at hSw); go_simp; all_goals with_reducible rfl); simp only [Act.put, pA9, pB9, pC9]
   refine takeOp 12 (o := ⟨_, _, _, _, _, _⟩) (v := ?_) rfl (by kernel_rfl) (by rfl) hHeld ?_ ?_; rotate_left; (next => intro w' hSw; (try dsimp only at hSw); go_simp; all_goals with_reducible rfl); simp only [Act.put, pA9, pB9, pC9]
   refine takeOp 13 (o := ⟨_, _, _, _, _, _⟩) (v := ?_) rfl (by kernel_rfl) (by rfl) hHeld ?_ ?_; rotate_left; (next => intro w' hSw; (try dsimp only at hSw); go_simp; all_goals with_reducible rfl); simp only [Act.put, pA9, pB9, pC9]
   refine skipOp 14 (o := ⟨_, _, _, _, _, _⟩) rfl (by kernel_rfl) (by rfl) hHeld ?_
   simp only [Act.put, pA9, pB9, pC9]
   refine skipOp 15 (o := ⟨_, _, _, _, _, _⟩) rfl (by kernel_rfl) (by rfl) hHeld ?_
   simp only [Act.put, pA9, pB9, pC9]
   refine skipOp 16 (o := ⟨_, _, _, _, _, _⟩) rfl (by kernel_rfl) (by rfl) hHeld ?_
   simp only [Act.put, pA9, pB9, pC9]
   refine skipOp 17 (o := ⟨_, _, _, _, _, _⟩) rfl (by kernel_rfl) (by rfl) hHeld ?_
   simp only [Act.put, pA9, pB9, pC9]
   refine skipOp 18 (o := ⟨_, _, _, _, _, _⟩) rfl (by kernel_rfl) (by rfl) hHeld ?_
   simp only [Act.put, pA9, pB9, pC9]
   refine skipOp 19 (o := ⟨_, _, _, _, _, _⟩) rfl (by kernel_rfl) (by rfl) hHeld ?_
   simp only [Act.put, pA9, pB9, pC9]
   refine skipOp 20 (o := ⟨_, _, _, _, _, _⟩) rfl (by kernel_rfl) (by rfl) hHeld ?_
   simp only [Act.put, pA9, pB9, pC9]
   refine takeOp 21 (o := ⟨_, _, _, _, _, _⟩) (v := ?_) rfl (by kernel_rfl) (by rfl) hHeld ?_ ?_; rotate_left; (next => intro w' hSw; (try dsimp only at hSw); go_simp; all_goals with_reducible rfl); simp only [Act.put, pA9, pB9, pC9]
   refine takeOp 22 (o := ⟨_, _, _, _, _, _⟩) (v := ?_) rfl (by kernel_rfl) (by rfl) hHeld ?_ ?_; rotate_left; (next => intro w' hSw; (try dsimp only at hSw); go_simp; all_goals with_reducible rfl); simp only [Act.put, pA9, pB9, pC9]
   refine skipOp 23 (o := ⟨_, _, _, _, _, _⟩) rfl (by kernel_rfl) (by rfl) hHeld ?_
   simp only [Act.put, pA9, pB9, pC9]
   refine skipOp 24 (o := ⟨_, _, _, _, _, _⟩) rfl (by kernel_rfl) (by rfl) hHeld ?_
   simp only [Act.put, pA9, pB9, pC9]
   refine skipOp 25 (o := ⟨_, _, _, _, _, _⟩) rfl (by kernel_rfl) (by rfl) hHeld ?_
   simp only [Act.put, pA9, pB9, pC9]
   refine takeOp 26 (o := ⟨_, _, _, _, _, _⟩) (v := ?_) rfl (by kernel_rfl) (by rfl) hHeld ?_ ?_; rotate_left; (next => intro w' hSw; (try dsimp only at hSw); go_simp; all_goals with_reducible rfl); simp only [Act.put, pA9, pB9, pC9]
   refine takeOp 27 (o := ⟨_, _, _, _, _, _⟩) (v := ?_) rfl (by kernel_rfl) (by rfl) hHeld ?_ ?_; rotate_left; (next => intro w' hSw; (try dsimp only at hSw); go_simp; all_goals with_reducible rfl); simp only [Act.put, pA9, pB9, pC9]
   refine wpAnyH_done (by kernel_rfl) ?_ _
   refine NoPanic.normal ?_
   go_wp2
   go_ret
   exact ⟨by rw [decide_eq_false (show ¬ 0 ≤ x.s by omega)]; rfl, K3.out.fr⟩

theorem ttakes_any {w : World} {p b : Nat} {e : Int} {l : List TRec} {m : ByteArray → Option Value} (h : TIs w p e l b m) (x : TRec) (hx : TFit x) :
  Calls Tryz.prog 204 #[tptr p, rcv x] w fun r w' => r = .returned (.bool (tOk e x)) ∧ Below w.heap.size w w' := takes_at h.c0 h.lt_p x hx

end Go.Proofs.YtiomoobeklpkmaaGreat
