/-
  A bundle of texts: VTA VTV.
-/
import Derived.Deep.RegionHeld3
import Derived.Test.YtdchjcidfaencaaGreatQ31
import Derived.Test.YtdchjcidfaencaaGreatQ15
import Derived.Test.YtdchjcidfaencaaGreatQ37
import Derived.Test.YtdchjcidfaencaaGreatQ38
import Derived.Test.YtdchjcidfaencaaGreatQ32
import Derived.Test.YtdchjcidfaencaaGreatQ36
namespace Go.Proofs.YtdchjcidfaencaaGreat
open Go.RowKit Go.Lib

/-- The mark behind lent samples. -/
def aMark : SamL := (⟨#[]⟩, -77, 0)

set_option maxHeartbeats 400000 in
theorem LentSamples_own (v : Value) (l : List SamL) (w : World) (hv : CellRow w v l.length (flat aenc l)) (hn : l.length ≤ 1000000) :
    Calls Tryz.prog 8 #[v] w fun e w' => ∃ g cap, e = .returned (.slice (some ⟨g, 0, none⟩) l.length cap) ∧ w'.ownsRow w.heap.size 76 3 (.slice (some ⟨g, 0, none⟩) (l.length + 1) cap) (l.length + 1) (flat aenc (l ++ [aMark])) ∧ Below w.heap.size w w' := by
  have HC := Hid.of hv
  obtain ⟨sa, c, rfl, _⟩ := hv
  obtain ⟨i0, hi, hz0, hz1, hz2⟩ := info_parts (show (Tryz.prog.info? 76).map (fun i => (i.zero, i.size, i.bytes)) = some (some (.agg #[.string ⟨#[]⟩, .int .i64 0, .int .i64 0]), 3, 32) by kernel_rfl)
  have HI := Hid.of hi
  have HZ0 := Hid.of hz0
  have HZ1 := Hid.of hz1
  have HZ2 := Hid.of hz2
  clear hi hz0 hz1 hz2
  go_enter Tryz.func8, Tryz.ntmps8
  go_wp2_with (first | (at_builtin; refine append_row_law rfl _ (.tmp 3) 26 rfl w.heap.size 76 i0 (.agg #[.string ⟨#[]⟩, .int .i64 0, .int .i64 0]) 3 32 Tryz.underlying26 HI.out HZ0.out HZ1.out HZ2.out rfl (by decide) (.slice none 0 0) 0 [] rfl ⟨rfl, .inl ⟨rfl, rfl⟩⟩ _ l.length _ rfl HC.out (flat_length aenc_len l) (flat_ones aenc_one l) (by unfold maxLen; omega) (by omega) (Nat.le_refl _) ?_; intro v1 w1 o1 g1; have O1 : Hid (w1.ownsRow w.heap.size 76 3 v1 l.length (flat aenc l)) := Hid.of (by simpa using o1); have b1 : Below w.heap.size w w1 := below_of_none g1; clear o1 g1) | (at_builtin; refine append_row_law rfl (.tmp 4) (.tmp 6) 26 rfl w.heap.size 76 i0 (.agg #[.string ⟨#[]⟩, .int .i64 0, .int .i64 0]) 3 32 Tryz.underlying26 HI.out HZ0.out HZ1.out HZ2.out rfl (by decide) v1 l.length _ rfl (O1.out.alloc _) (.slice (some ⟨w1.heap.size, 0, none⟩) 1 1) 1 (aenc aMark) rfl ⟨_, _, rfl, .inr ⟨_, 0, rfl, by simp, new_cells w1 _ _⟩⟩ rfl (aenc_one aMark) (by unfold maxLen; omega) (by omega) (by simp; have := b1.size; omega) ?_; intro v2 w2 o2 g2; have o3 := o2; obtain ⟨hl2, h2⟩ := o2; obtain ⟨g, cap, cur, rfl, hB, hrow, hcap, hmax, hcs, htk⟩ := h2.resolve_left (by simp)))
  go_ret
  have ef : flat aenc (l ++ [aMark]) = flat aenc l ++ aenc aMark := by rw [flat_append, flat_one]
  exact ⟨g, cap, rfl, by rw [ef]; exact o3, (b1.alloc b1.size _).grown g2 (by have := b1.size; simp; omega) (fun k hk => own_ge O1.out hk)⟩

/-- Lent samples, out of the row of one's own that they lie in. -/
theorem lent_sams_of {w : World} {D g cap : Nat} {l : List SamL} (h : w.ownsRow D 76 3 (.slice (some ⟨g, 0, none⟩) (l.length + 1) cap) (l.length + 1) (flat aenc (l ++ [aMark]))) : LentRow w D (.slice (some ⟨g, 0, none⟩) l.length cap) l.length (flat aenc l) (aenc aMark) := by
  have ef : flat aenc (l ++ [aMark]) = flat aenc l ++ aenc aMark := by rw [flat_append, flat_one]
  rw [ef] at h
  rcases h.2 with ⟨h1, _⟩ | ⟨g', cap', cur, hv, hB, hrow, hcap, hmax, hcs, htk⟩
  · cases h1
  · cases hv
    refine ⟨g, cap, rfl, hB, (Array.getElem?_eq_some_iff.1 hrow).1, hcap, hmax, fun j u hj => ?_⟩
    rw [Nat.zero_add, cell_of_row w g j _ _ _ hrow]
    rw [← htk] at hj
    rw [List.getElem?_take] at hj
    split at hj
    · simpa using hj
    · cases hj

set_option maxHeartbeats 400000 in
theorem StaysSamples_any (B : Nat) (u v : Value) (l : List SamL) (w : World) (hu : LentRow w B u l.length (flat aenc l) (aenc aMark)) (hv : CellRow w v l.length (flat aenc l)) (hn : l.length ≤ 1000000) :
    Calls Tryz.prog 18 #[u, v] w fun e w' => e = .returned (.bool true) ∧ Below w.heap.size w w' := by
  have HU := Hid.of hu.row
  have HV := Hid.of hv
  obtain ⟨g, cap, rfl, hB, hg, hc, hm, hcs⟩ := hu
  have hmark := hcs (l.length * 3 + 1) (.int .i64 (-77)) (by rw [List.getElem?_append_right (by rw [flat_length aenc_len]; omega), flat_length aenc_len]; simp [aenc, aMark])
  rw [Nat.zero_add] at hmark
  have HM := Hid.of hmark
  have c0 : (l.length : Int) + 1 ≤ (cap : Int) := by omega
  clear hcs hm hB hmark
  go_enter Tryz.func18, Tryz.ntmps18
  go_wp2_with fail
  refine (SameSamples_quiet _ _ l _ HU.out HV.out hn).mono ?_
  rintro e w1 ⟨rfl, q, rfl⟩
  have hmark := HM.out
  go_wp2
  go_ret
  exact ⟨rfl, below_drewN (Below.refl _ _) _⟩

/-- Rows: lent samples, lists of records, an answer. -/
abbrev sRow (g cap : Nat) (l : List SamL) : Row1 := ⟨76, 3, .slice (some ⟨g, 0, none⟩) (l.length + 1) cap, l.length + 1, flat aenc (l ++ [aMark])⟩
abbrev lRow (v : Value) (T : List TRec) : Row1 := ⟨61, 7, v, (T.map rl).length, flat renc (T.map rl)⟩
abbrev ansRow (b : Nat) (c : Int) (u : Value) : Row1 := ⟨63, 2, .slice (some ⟨b, 0, none⟩) 1 1, 1, [.int .i64 c, u]⟩

theorem lRow_own {w : World} {D : Nat} {v : Value} {T : List TRec} (h : TROwn w D v T) : w.ownsRow D 61 7 v (T.map rl).length (flat renc (T.map rl)) := by
  rw [← tflat, List.length_map]
  exact h

theorem vRow_eq (v : Value) (T : List TRec) : vRow v T = lRow v T := by
  show (⟨61, 7, v, T.length, flat tenc T⟩ : Row1) = ⟨61, 7, v, (T.map rl).length, flat renc (T.map rl)⟩
  rw [← tflat, List.length_map]

/-- The lists of all tiers. -/
def lRows (r : RchL) (ss : List SamL) (us : List Value) : List Row1 := us.mapIdx fun i u => lRow u (vT r (i : Int) ss)

theorem vRows_lRows (r : RchL) (ss : List SamL) (us : List Value) : vRows r ss us = lRows r ss us := by
  unfold vRows lRows
  congr 1
  funext i u
  exact vRow_eq u _

theorem lRows_drop {r : RchL} {ss : List SamL} {us : List Value} {i : Nat} {u : Value} (h : us[i]? = some u) : (lRows r ss us).drop i = lRow u (vT r (i : Int) ss) :: (lRows r ss us).drop (i + 1) := by
  have e : (lRows r ss us)[i]? = some (lRow u (vT r (i : Int) ss)) := by
    unfold lRows
    rw [List.getElem?_mapIdx, h]
    rfl
  obtain ⟨hl, he⟩ := List.getElem?_eq_some_iff.1 e
  rw [List.drop_eq_getElem_cons hl, he]

theorem lRows_end {r : RchL} {ss : List SamL} {us : List Value} {i : Nat} (h : us.length = i) : (lRows r ss us).drop i = [] :=
  List.drop_eq_nil_of_le (by unfold lRows; rw [List.length_mapIdx]; omega)

theorem perm_r4 (a b c d : Row1) (A B : List Row1) : (a :: b :: c :: d :: (A ++ B)).Perm (A ++ (B ++ [b, c, d, a])) := by
  classical
  rw [List.perm_iff_count]
  intro x
  simp only [List.count_append, List.count_cons, List.count_nil]
  omega

theorem perm_in (i o a : Row1) (L A B R : List Row1) : (i :: ((o :: L) ++ (a :: (A ++ (B ++ R))))).Perm (a :: (A ++ (B ++ (i :: (L ++ (o :: R)))))) := by
  classical
  rw [List.perm_iff_count]
  intro x
  simp only [List.count_append, List.count_cons]
  omega

theorem perm_want (w u o : Row1) (A B L R : List Row1) : (w :: (A ++ (B ++ ((u :: L) ++ (o :: R))))).Perm (u :: (A ++ (B ++ (w :: (L ++ (o :: R)))))) := by
  classical
  rw [List.perm_iff_count]
  intro x
  simp only [List.count_append, List.count_cons]
  omega

theorem perm_out (w : Row1) (A B X : List Row1) : (A ++ (B ++ (w :: X))).Perm (w :: (A ++ (B ++ X))) := by
  rw [← List.append_assoc, ← List.append_assoc]
  exact List.perm_middle

theorem perm_mid3 (A B X : List Row1) (r : Row1) : (A ++ (B ++ (r :: X))).Perm (r :: (A ++ (B ++ X))) := by
  rw [← List.append_assoc, ← List.append_assoc]
  exact List.perm_middle

theorem perm_mid3' (A B X : List Row1) (r : Row1) : (A ++ (B ++ (r :: X))).Perm (r :: (B ++ (A ++ X))) := by
  refine (perm_mid3 A B X r).trans (List.Perm.cons _ ?_)
  rw [← List.append_assoc, ← List.append_assoc]
  exact List.Perm.append_right _ List.perm_append_comm

theorem perm_swap3 (A B X : List Row1) : (A ++ (B ++ X)).Perm (B ++ (A ++ X)) := by
  rw [← List.append_assoc, ← List.append_assoc]
  exact List.Perm.append_right _ List.perm_append_comm

/-- A list that the Book keeps, as it is. -/
theorem rblk_has {p D : Nat} {cs : Array Value} {T : TypeId} {w0 w : World} {V W : Value} {ls : List (Value × Value × List RecL)} {rows qs : List Row1} (h : Here p D cs T w0 w rows qs) (hs : ∀ r ∈ rblk V W ls, r ∈ rows) (y : Value × Value × List RecL) (hy : y ∈ ls) : CellRow w y.1 y.2.2.length (flat renc y.2.2) := by
  have m1 : rtodo (rkept y) ∈ rows := by
    refine hs _ (List.mem_cons_of_mem _ (List.mem_append_left _ ?_))
    rw [rrows_zero, List.map_map]
    exact List.mem_map.2 ⟨y, hy, rfl⟩
  have o1 := own_row (h.bag.own _ m1)
  simp only [rtodo, rkept] at o1
  exact o1

section
variable {S : ReachSpec} {B bx : Nat} {n : ByteArray} {sl gv lv : Value} {now : Int} {p : PolL} {fl : List Int} {ss : List SamL} {u u' w0 : World}

/-- What came in: in variables, or beside them; the document's own Reach. -/
structure VPt (S : ReachSpec) (B bx : Nat) (n : ByteArray) (sl gv lv : Value) (now : Int) (p : PolL) (fl : List Int) (ss : List SamL) (u : World) : Prop where
  k2 : PBlk u B n sl
  kx : XBlk u bx now n sl gv
  r2 : PolRow u (polVal n sl) p
  hf : CellRow u gv fl.length (fl.map (Value.int .i64))
  hl : CellRow u lv ss.length (flat aenc ss)
  ok : S.Ok u

theorem VPt.to (h : VPt S B bx n sl gv lv now p fl ss u) (b : Below u.heap.size u u') : VPt S B bx n sl gv lv now p fl ss u' :=
  ⟨h.k2.kept b, by show _ = _; rw [b.block _ (Array.getElem?_eq_some_iff.1 h.kx).1]; exact h.kx, h.r2.kept b, h.hf.kept b, h.hl.kept b, S.kept h.ok b⟩

theorem VPt.hs (h : VPt S B bx n sl gv lv now p fl ss u) : CellRow u sl p.2.length (flat penc p.2) := by
  obtain ⟨s, hs, hr, -⟩ := h.r2
  unfold polVal at hs
  simp only [Value.agg.injEq] at hs
  cases hs
  exact hr

theorem VPt.at (h : VPt S B bx n sl gv lv now p fl ss u) : (u.cell? ⟨B, 0, none⟩ = some (.string n) ∧ u.cell? ⟨B, 1, none⟩ = some sl) ∧ (u.cell? ⟨bx, 0, none⟩ = some (.int .i64 now) ∧ u.cell? ⟨bx, 1, none⟩ = some (.string n) ∧ u.cell? ⟨bx, 2, none⟩ = some sl ∧ u.cell? ⟨bx, 3, none⟩ = some gv) :=
  ⟨h.k2.at, h.kx.at⟩
end

/-- What a round makes of variables. -/
def r4 (br : Nat) (now : Int) (n : ByteArray) (s f : Value) (p : PolL) (fl : List Int) (g cap : Nat) (ss : List SamL) : List Row1 := [rRow br now n s f, pRow s p.2, iRow f fl, sRow g cap ss]

section
variable {q D br g cap : Nat} {cs : Array Value} {T : TypeId} {w0 u : World} {rows : List Row1} {now : Int} {n : ByteArray} {s f : Value} {p : PolL} {fl : List Int} {ss : List SamL}

theorem r4_at (h : Here q D cs T w0 u rows []) (hr : ∀ r ∈ r4 br now n s f p fl g cap ss, r ∈ rows) : u.cell? ⟨br, 0, none⟩ = some (.int .i64 now) ∧ u.cell? ⟨br, 1, none⟩ = some (.string n) ∧ u.cell? ⟨br, 2, none⟩ = some s ∧ u.cell? ⟨br, 3, none⟩ = some f :=
  RBlk.at' (cells_blk (cs := #[.int .i64 now, .string n, s, f]) (h.bag.own _ (hr _ (List.mem_cons_self ..))))

theorem r4_rch (h : Here q D cs T w0 u rows []) (hr : ∀ r ∈ r4 br now n s f p fl g cap ss, r ∈ rows) (hn : p.1 = n) (hc : CapOk s ∧ CapOk f) : RchRow u (.agg #[.int .i64 now, .string n, s, f]) (now, p, fl) :=
  rch_of h hn (hr _ (List.mem_cons_of_mem _ (List.mem_cons_self ..))) (hr _ (List.mem_cons_of_mem _ (List.mem_cons_of_mem _ (List.mem_cons_self ..)))) hc

theorem r4_lent (h : Here q D cs T w0 u rows []) (hr : ∀ r ∈ r4 br now n s f p fl g cap ss, r ∈ rows) : LentRow u D (.slice (some ⟨g, 0, none⟩) ss.length cap) ss.length (flat aenc ss) (aenc aMark) :=
  lent_sams_of (h.bag.own _ (hr _ (List.mem_cons_of_mem _ (List.mem_cons_of_mem _ (List.mem_cons_of_mem _ (List.mem_cons_self ..))))))

theorem r4_sams (h : Here q D cs T w0 u rows []) (hr : ∀ r ∈ r4 br now n s f p fl g cap ss, r ∈ rows) : CellRow u (.slice (some ⟨g, 0, none⟩) ss.length cap) ss.length (flat aenc ss) := (r4_lent h hr).row
end

/-- All's rows beside those that were there. -/
theorem Here.join {p D : Nat} {cs : Array Value} {T : TypeId} {w0 w w' : World} {rs ks : List Row1} (h : Here p D cs T w0 w rs []) (b : Below w.heap.size w w') (k : Bag w.heap.size w' ks []) : Here p D cs T w0 w' (ks ++ rs) [] := by
  have h' := h.next b
  refine ⟨h'.hp, h'.hD, h'.blk, h'.fr, ⟨fun r hr => ?_, List.pairwise_append.2 ⟨k.apart, h'.bag.apart, fun x hx y hy g hg hg' => ?_⟩, fun _ hq => absurd hq List.not_mem_nil, fun _ hq => absurd hq List.not_mem_nil⟩⟩
  · rcases List.mem_append.1 hr with hr | hr
    · exact own_mono (k.own r hr) h.hD
    · exact h'.bag.own r hr
  · have h1 := own_ge (k.own x hx) hg
    have h2 := ((h.bag.own y hy).lt g hg').2
    omega

/-- A list of All's. -/
theorem oRow_cell {p D : Nat} {cs : Array Value} {T : TypeId} {w0 u : World} {rows : List Row1} {g o N c i : Nat} {us : List Value} {x : Value} (h : Here p D cs T w0 u rows []) (hm : oRow (.slice (some ⟨g, o, none⟩) N c) us ∈ rows) (hx : us[i]? = some x) : u.cell? ⟨g, o + i, none⟩ = some x := by
  have ox := own_row (h.bag.own _ hm)
  simp only at ox
  have hn : us.length = N := by
    obtain ⟨a', c', hv, -⟩ := ox
    cases hv
    rfl
  subst hn
  obtain ⟨g', o', e, -, hc⟩ := ox.at i x hx
  cases e
  exact hc

theorem oRow_at {p D : Nat} {cs : Array Value} {T : TypeId} {w0 u : World} {rows : List Row1} {a : Option Addr} {N c i : Nat} {us : List Value} {x : Value} (h : Here p D cs T w0 u rows []) (hm : oRow (.slice a N c) us ∈ rows) (hx : us[i]? = some x) : ∃ g o, a = some ⟨g, o, none⟩ := by
  have ox := own_row (h.bag.own _ hm)
  simp only at ox
  have hn : us.length = N := by
    obtain ⟨a', c', hv, -⟩ := ox
    cases hv
    rfl
  subst hn
  obtain ⟨g', o', e, -, -⟩ := ox.at i x hx
  exact ⟨g', o', e⟩

theorem ans_at {p D : Nat} {cs : Array Value} {T : TypeId} {w0 u : World} {rows : List Row1} {b : Nat} {c : Int} {v : Value} (h : Here p D cs T w0 u rows []) (hm : ansRow b c v ∈ rows) : u.cell? ⟨b, 0, none⟩ = some (.int .i64 c) ∧ u.cell? ⟨b, 1, none⟩ = some v := by
  have k := cells_blk (cs := #[.int .i64 c, v]) (h.bag.own _ hm)
  refine ⟨?_, ?_⟩ <;> (rw [cell_of_row u b _ _ _ _ k]; rfl)

theorem perm_ans (a l : Row1) (A B X : List Row1) : (a :: l :: (A ++ (B ++ X))).Perm (l :: (A ++ (B ++ (a :: X)))) :=
  (List.Perm.swap _ _ _).trans (List.Perm.cons _ (perm_out a A B X).symm)

/-- A table of the document's own, put together of a list. -/
theorem RT.made {w : World} {D : Nat} {e : Int} {u : Value} {L : List TRec} (o : w.ownsRow D 61 7 u (L.map rl).length (flat renc (L.map rl))) : RT (w.alloc (.cells #[.int .i64 e, u] 72)) w.heap.size e L := by
  rw [List.length_map] at o
  have b : Below w.heap.size w (w.alloc (.cells #[.int .i64 e, u] 72)) := (Below.refl _ _).alloc (Nat.le_refl _) _
  refine ⟨u, Go.heap_alloc_new _ _, (own_row o).kept b, ?_⟩
  rcases o.2 with ⟨rfl, _⟩ | ⟨g, cap, cur, rfl, _, _, h1, h2, _⟩
  · exact ⟨Nat.le_refl _, by unfold maxLen; decide⟩
  · exact ⟨h1, h2⟩

theorem vFind_lt {r : RchL} {f : Int} : ∀ (j k i : Nat), rFind r f k j = some i → i < k + j := by
  intro j
  induction j with
  | zero => intro k i h; cases h
  | succ j ih =>
    intro k i h
    unfold rFind at h
    by_cases c : rFromN r k ≤ f
    · rw [if_pos c] at h
      have := Option.some.inj h
      omega
    · rw [if_neg c] at h
      have := ih _ _ h
      omega

theorem rCover_in {r : RchL} (fit : RFit r) (x : Int) : In64 (rCover r x) := by
  have hl := fit.2.1.1
  unfold rCover
  cases h : rFind r x 0 r.2.1.2.length with
  | none => unfold In64; simp only; omega
  | some k => have := vFind_lt _ _ _ h; unfold In64; simp only; omega

theorem tCnt_take {T : List TRec} {j : Nat} {x : TRec} (h : T[j]? = some x) : tCnt (T.take (j + 1)) = tCnt (T.take j) + x.a.c := by
  induction T generalizing j with
  | nil => cases h
  | cons y T ih =>
    cases j with
    | zero =>
      rw [List.getElem?_cons_zero] at h
      cases h
      show x.a.c + tCnt [] = tCnt [] + x.a.c
      omega
    | succ j =>
      rw [List.getElem?_cons_succ] at h
      have e := ih h
      show y.a.c + tCnt (T.take (j + 1)) = (y.a.c + tCnt (T.take j)) + x.a.c
      omega

theorem tCnt_part {T : List TRec} (h0 : ∀ x ∈ T, 0 ≤ x.a.c) (j : Nat) : 0 ≤ tCnt (T.take j) ∧ tCnt (T.take j) ≤ tCnt T := by
  refine ⟨tCnt_nonneg fun x hx => h0 x (List.mem_of_mem_take hx), ?_⟩
  induction T generalizing j with
  | nil => rw [List.take_nil]; exact Int.le_refl _
  | cons y T ih =>
    have h2 := tCnt_nonneg (fun x hx => h0 x (List.mem_cons_of_mem _ hx))
    have h1 := h0 y (List.mem_cons_self ..)
    cases j with
    | zero =>
      show (0 : Int) ≤ y.a.c + tCnt T
      omega
    | succ j =>
      have e := ih (fun x hx => h0 x (List.mem_cons_of_mem _ hx)) j
      show y.a.c + tCnt (T.take j) ≤ y.a.c + tCnt T
      omega

/-- The document's own view, as package view's records. -/
theorem refView_vT (now : Int) (n : ByteArray) (s f : Value) (p : PolL) (fl : List Int) (tier : Int) (v : Value) (ss : List SamL) (w : World) (hs : CellRow w s p.2.length (flat penc p.2)) (hf : CellRow w f fl.length (fl.map (Value.int .i64))) (fit : RFit (now, p, fl)) (hc : VOk (now, p, fl)) (ht : In64 tier)
    (hv : CellRow w v ss.length (flat aenc ss)) (hl : ss.length ≤ 1000) (fs : ∀ s ∈ ss, SFit s) :
    Calls Tryz.prog 15 #[.agg #[.int .i64 now, .string n, s, f], .int .i64 tier, v] w fun e w' => ∃ u, e = .returned u ∧ w'.ownsRow w.heap.size 61 7 u ((vT (now, p, fl) tier ss).map rl).length (flat renc ((vT (now, p, fl) tier ss).map rl)) ∧ Below w.heap.size w w' := by
  refine (refView_own now n s f p fl tier v ss w hs hf fit hc ht hv hl fs).mono ?_
  rintro e w' ⟨u, rfl, hu, b⟩
  refine ⟨u, rfl, ?_, b⟩
  rw [List.length_map]
  exact hu

end Go.Proofs.YtdchjcidfaencaaGreat

namespace Go.Proofs.YtdchjcidfaencaaGreat
open Go.RowKit Go.Lib

theorem bookir_built : Tryz.prog.built 44 [] = some (bookIR (.slice none 0 0) (.slice none 0 0) (.slice none 0 0) (.slice none 0 0)) := by kernel_rfl

set_option maxRecDepth 20000 in
set_option maxHeartbeats 12800000 in
theorem viewTells_main (S : ReachSpec) (v gv lv : Value) (p : PolL) (now tier : Int) (fl : List Int) (ss : List SamL) (nm : ByteArray) (qa qb : Int) (w : World) (hS : S.Ok w) (hv : PolRow w v p) (hp : ∀ x ∈ p.2, TIn x) (hnow : In64 now) (hg : NumRow .i64 w gv fl) (hgk : CapOk gv) (hfl : ∀ x ∈ fl, In64 x) (hs : CellRow w lv ss.length (flat aenc ss)) (fs : ∀ s ∈ ss, SFit s) (htier : In64 tier) (ha : In64 qa) :
    Calls Tryz.prog 3 #[v, .int .i64 now, gv, lv, .int .i64 tier, .string nm, .int .i64 qa, .int .i64 qb] w fun e w' => e = .returned (.bool true) ∧ Below w.heap.size w w' := by
  obtain ⟨sl, rfl, hsl, hsk⟩ := hv
  have HSL := Hid.of hsl
  obtain ⟨sa, sc, rfl, -⟩ := hsl
  have HG := Hid.of (NumRow.cells' hg)
  obtain ⟨ga, gc, rfl, -⟩ := hg
  have HV := Hid.of hs
  obtain ⟨va, vc, rfl, -⟩ := hs
  obtain ⟨n, hn⟩ : ∃ n, p.1 = n := ⟨_, rfl⟩
  obtain ⟨N, hN⟩ : ∃ N, p.2.length = N := ⟨_, rfl⟩
  obtain ⟨M, hM⟩ : ∃ M, fl.length = M := ⟨_, rfl⟩
  obtain ⟨Z, hZ⟩ : ∃ Z, ss.length = Z := ⟨_, rfl⟩
  rw [hn, hN, hM, hZ]
  rw [hN] at HSL
  rw [hM] at HG hgk
  rw [hZ] at HV
  have HSK : Hid (CapOk (.slice sa N sc)) := Hid.of (by rw [← hN]; exact hsk)
  have HGK := Hid.of hgk
  clear hsk hgk
  obtain ⟨B, hB⟩ : ∃ B, w.heap.size = B := ⟨_, rfl⟩
  obtain ⟨w1, hw1⟩ : ∃ w1, w.alloc (.cells #[.string n, .slice sa N sc] 24) = w1 := ⟨_, rfl⟩
  have b1 : Below w.heap.size w w1 := by rw [← hw1]; exact (Below.refl _ _).alloc (Nat.le_refl _) _
  have I1 : Hid (PV S B n (.slice sa N sc) p w w1) := Hid.of
    ⟨by rw [← hw1, ← hB]; exact PBlk.made w _ _, ⟨_, by rw [hn], by rw [hN]; exact HSL.out, HSK.out⟩, hS, b1, hB⟩
  have HNW := Hid.of hnow
  have HW := Hid.of hw1
  have HBB := Hid.of hB
  have HN := Hid.of hN
  have HM := Hid.of hM
  have HZ := Hid.of hZ
  have Hn := Hid.of hn
  have HP := Hid.of hp
  have FS := Hid.of fs
  have HFL := Hid.of hfl
  have HTI := Hid.of htier
  have HQA := Hid.of ha
  clear hw1 b1 hN hn hM hZ hS hp fs hB hnow hfl htier ha
  obtain ⟨c0, c1⟩ := I1.out.k.at
  go_enter Tryz.func3, Tryz.ntmps3
  go_upto_region 1 with fail
  rw [HW.out, HBB.out]
  clear HW
  go_wp2_with fail
  refine (Small_any _ p _ I1.out.row).mono ?_
  rintro e w2 ⟨r, rfl, hr, b2⟩
  have I2 := Hid.of (I1.out.next b2)
  clear b2 I1 c0 c1
  have BAD : Hid (∀ w9, PV S B n (.slice sa N sc) p w w9 → Calls Tryz.prog 6 #[] w9 fun e w' => e = .returned (.bool true) ∧ Below w.heap.size w w') := Hid.of (fun w9 h => by
    refine (viewAlive_any S w9 h.ok).mono ?_
    rintro e w' ⟨he, b⟩
    exact ⟨he, h.fr.trans (b.mono h.fr.size)⟩)
  cases r with
  | false =>
    go_wp2_with fail
    refine (BAD.out _ I2.out).mono ?_
    rintro e w3 ⟨rfl, b3⟩
    go_wp2
    go_ret
    exact ⟨rfl, b3⟩
  | true =>
    have SM : Hid (PSmall p) := Hid.of (hr.out rfl)
    have SP := Hid.of (fit_of HP.out (hr.out rfl))
    have N10 : Hid (N ≤ 10) := Hid.of (by rw [← HN.out]; exact SM.out.1)
    clear hr
    by_cases m12 : (12 : Int) < (M : Int)
    · go_wp2_with fail
      refine (BAD.out _ I2.out).mono ?_
      rintro e w3 ⟨rfl, b3⟩
      go_wp2
      go_ret
      exact ⟨rfl, b3⟩
    have M12 : Hid (M ≤ 12) := Hid.of (by omega)
    have hsome := Some_any 40 (.slice va ss.length vc) ss w2 (by rw [HZ.out]; exact HV.out.kept I2.out.fr) (by decide)
    rw [HZ.out] at hsome
    go_wp2_with fail
    refine hsome.mono ?_
    rintro e w3 ⟨r, rfl, hr, b3⟩
    have I3 := Hid.of (I2.out.next b3)
    clear b3 I2 hsome
    cases r with
    | false =>
      go_wp2_with fail
      refine (BAD.out _ I3.out).mono ?_
      rintro e w4 ⟨rfl, b4⟩
      go_wp2
      go_ret
      exact ⟨rfl, b4⟩
    | true =>
      have Z40 : Hid (Z ≤ 40) := Hid.of (by have h := (hr.out rfl).1; rw [HZ.out] at h; exact h)
      clear hr
      by_cases s60 : (60 : Int) < (nm.size : Int)
      · go_wp2_with fail
        refine (BAD.out _ I3.out).mono ?_
        rintro e w4 ⟨rfl, b4⟩
        go_wp2
        go_ret
        exact ⟨rfl, b4⟩
      have HNM : Hid (nm.size ≤ maxLen) := Hid.of (by unfold maxLen; omega)
      go_upto_region 4 with fail
      clear m12 s60
      have FT : Hid (RFit (now, p, fl)) := Hid.of ⟨HNW.out, SP.out, by show fl.length ≤ _; rw [HM.out]; have := M12.out; omega, HFL.out⟩
      go_loopg [17] N (fun kx iv wr => ∃ i : Nat, iv = .int .i64 i ∧ i ≤ N ∧ N - i ≤ kx ∧ Hid (∀ t ∈ p.2.take i, 1 ≤ t.2.1) ∧ Hid (PV S B n (.slice sa N sc) p w wr))
      case atStart => exact ⟨0, rfl, Nat.zero_le _, Nat.le_refl _, Hid.of (fun t h => by rw [List.take_zero] at h; cases h), I3⟩
      case round =>
        clear I3
        obtain ⟨i, rfl, hiN, hkx, HE, I4⟩ := hrel
        have i0 : (0 : Int) ≤ (i : Int) := Int.natCast_nonneg _
        obtain ⟨c0, c1⟩ := I4.out.k.at
        by_cases hlt : (i : Int) < (N : Int)
        · obtain ⟨y, hy⟩ : ∃ y, p.2[i]? = some y := ⟨_, List.getElem?_eq_getElem (by rw [HN.out]; omega)⟩
          have hrow : CellRow wr (.slice sa N sc) N (flat penc p.2) := HSL.out.kept I4.out.fr
          obtain ⟨tb, tof, hsa, tl, q0, q1, q2, q3⟩ := p_at hrow i y hy
          have HY := Hid.of hy
          have HIN : Hid (i < N) := Hid.of (by omega)
          have i10 : (i : Int) ≤ 10 := by have := N10.out; omega
          subst hsa
          clear hrow hy
          by_cases hev : y.2.1 < 1
          · go_wp2_with fail
            refine (BAD.out _ I4.out).mono ?_
            rintro e w5 ⟨rfl, b5⟩
            go_wp2
            go_ret
            exact ⟨rfl, b5⟩
          · go_wp2_with fail
            go_roundg (N - (i + 1))
            case measure => have := HIN.out; omega
            case rel =>
              refine ⟨i + 1, by go_num, HIN.out, Nat.le_refl _, Hid.of (fun t ht => ?_), I4⟩
              rw [List.take_add_one, HY.out, List.mem_append] at ht
              rcases ht with ht | ht
              · exact HE.out t ht
              · have e : t = y := by simpa using ht
                rw [e]
                omega
        · obtain rfl : N = i := by omega
          have HEV : Hid (VOk (now, p, fl)) := Hid.of (fun t ht => HE.out t (by rw [List.take_of_length_le (Nat.le_of_eq HN.out)]; exact ht))
          go_upto_region 9 with fail
          obtain ⟨w5, hw5⟩ : ∃ w5, wr.alloc (.cells #[.int .i64 now, .string n, .slice sa N sc, .slice ga M gc] 33) = w5 := ⟨_, rfl⟩
          have b5 : Below wr.heap.size wr w5 := by rw [← hw5]; exact (Below.refl _ _).alloc (Nat.le_refl _) _
          have P5 : Hid (VPt S B wr.heap.size n (.slice sa N sc) (.slice ga M gc) (.slice va Z vc) now p fl ss w5) := Hid.of
            ⟨I4.out.k.kept b5, by rw [← hw5]; exact Go.heap_alloc_new _ _, (I4.out.next b5).row, by rw [HM.out]; exact HG.out.kept (I4.out.next b5).fr, by rw [HZ.out]; exact HV.out.kept (I4.out.next b5).fr, (I4.out.next b5).ok⟩
          have B5 := Hid.of (I4.out.next b5).fr
          rw [hw5]
          clear hw5 b5 I4 c0 c1 HE i0 hlt hkx hiN BAD
          generalize wr.heap.size = bx at *
          go_wp2_with (first
            | (refine wpList_builtP rfl 44 [] rfl (bookIR (.slice none 0 0) (.slice none 0 0) (.slice none 0 0) (.slice none 0 0)) bookir_built ?_)
            | (refine wpList_boxedP rfl 44 _ rfl (bookIR (.slice none 0 0) (.slice none 0 0) (.slice none 0 0) (.slice none 0 0)) rfl ?_
               obtain ⟨w6, hw6⟩ : ∃ w6, w5.alloc (.cells (bookIR (.slice none 0 0) (.slice none 0 0) (.slice none 0 0) (.slice none 0 0)) 44) = w6 := ⟨_, rfl⟩
               rw [hw6]
               have J6 : Hid (Here w5.heap.size (w5.heap.size + 1) (bookIR (.slice none 0 0) (.slice none 0 0) (.slice none 0 0) (.slice none 0 0)) 44 w5 w6 (rblk (.slice none 0 0) (.slice none 0 0) [] ++ iblk (.slice none 0 0) (.slice none 0 0) []) []) := Hid.of (by
                 rw [← hw6]
                 have h := bookIR_nil w5.heap.size 44 w5 _ (Go.heap_alloc_new _ _) ((Below.refl _ _).alloc (Nat.le_refl _) _)
                 refine h.perm ?_
                 rw [List.append_nil]
                 exact List.perm_append_comm)
               clear hw6))
          obtain ⟨q, hq⟩ : ∃ q, w5.heap.size = q := ⟨_, rfl⟩
          rw [hq] at J6 ⊢
          have HQ := Hid.of hq
          clear hq
          go_loopg [20, 21, 22, 23, 24, 25, 26, 27, 28, 29, 30, 31, 32, 33, 34] 2 (fun kx kv x21 x22 x23 x24 x25 x26 x27 x28 x29 x30 x31 x32 x33 x34 ws => ∃ (k : Nat) (Vi Wi Vr Wr : Value) (li : List (Value × Value × List Int)) (lr : List (Value × Value × List RecL)), kv = .int .i64 k ∧ k ≤ 2 ∧ 2 - k ≤ kx ∧ Hid (Here q (q + 1) (bookIR Vi Wi Vr Wr) 44 w5 ws (rblk Vr Wr lr ++ iblk Vi Wi li) []) ∧ Hid (lr.length ≤ 12 * k ∧ ∀ y ∈ lr, y.2.2.length ≤ 900000) ∧ Hid (li.length ≤ k ∧ ∀ y ∈ li, y.2.2.length ≤ 900000))
          case atStart => exact ⟨0, _, _, _, _, [], [], rfl, Nat.zero_le _, Nat.le_refl _, J6, Hid.of ⟨Nat.zero_le _, fun _ h => absurd h List.not_mem_nil⟩, Hid.of ⟨Nat.zero_le _, fun _ h => absurd h List.not_mem_nil⟩⟩
          case round =>
            clear J6
            obtain ⟨k, Vi, Wi, Vr, Wr, li, lr, rfl, hk, hkx, J, LR, LI⟩ := hrel
            have P := Hid.of (P5.out.to (J.out.fr.mono (Nat.le_of_eq HQ.out)))
            have k0 : (0 : Int) ≤ (k : Int) := Int.natCast_nonneg _
            by_cases hlt : (k : Int) < 2
            · obtain ⟨⟨c0, c1⟩, -⟩ := P.out.at
              go_wp2_with fail
              refine (S.of _ _ p now fl _ P.out.ok FT.out P.out.r2 P.out.hf HGK.out).mono ?_
              rintro e w9 ⟨ru, rfl, ou, b9⟩
              have RR9 := Hid.of (OwnRch.row ou)
              obtain ⟨s1, f1, rfl, o9, o9', ap9⟩ := ou
              obtain ⟨s1a, s1c, rfl, -⟩ := own_one o9
              obtain ⟨f1a, f1c, rfl, -⟩ := own_one o9'
              simp only at o9 o9' ap9 RR9
              have ev9 : rVal (now, p, fl) (.slice s1a p.2.length s1c) (.slice f1a fl.length f1c) = .agg #[.int .i64 now, .string n, .slice s1a N s1c, .slice f1a M f1c] := by rw [← Hn.out, ← HN.out, ← HM.out]; rfl
              simp only
              rw [ev9] at RR9 ⊢
              have J9 : Hid (Here q (q + 1) (bookIR Vi Wi Vr Wr) 44 w5 w9 (pRow (.slice s1a p.2.length s1c) p.2 :: iRow (.slice f1a fl.length f1c) fl :: (rblk Vr Wr lr ++ iblk Vi Wi li)) []) := Hid.of (J.out.more2 b9 o9 o9' ap9)
              rw [HN.out, HM.out] at J9
              obtain ⟨w10, hw10⟩ : ∃ w10, w9.alloc (.cells #[.int .i64 now, .string n, .slice s1a N s1c, .slice f1a M f1c] 46) = w10 := ⟨_, rfl⟩
              have b10 : Below w9.heap.size w9 w10 := by rw [← hw10]; exact (Below.refl _ _).alloc (Nat.le_refl _) _
              have J10 : Hid (Here q (q + 1) (bookIR Vi Wi Vr Wr) 44 w5 w10 (rRow w9.heap.size now n (.slice s1a N s1c) (.slice f1a M f1c) :: pRow (.slice s1a N s1c) p.2 :: iRow (.slice f1a M f1c) fl :: (rblk Vr Wr lr ++ iblk Vi Wi li)) []) := Hid.of (J9.out.more b10 (by rw [← hw10]; exact cells_own w9 #[.int .i64 now, .string n, .slice s1a N s1c, .slice f1a M f1c] _ 4 rfl))
              have C10 : Hid (CapOk (.slice s1a N s1c) ∧ CapOk (.slice f1a M f1c)) := Hid.of (by
                obtain ⟨s, f, hsf, -, -, h3⟩ := RR9.out
                unfold rVal at hsf
                simp only [Value.agg.injEq] at hsf
                cases hsf
                exact h3)
              have HW10 := Hid.of hw10
              clear hw10 b10 b9 o9 o9' ap9 ev9 J9 RR9 c0 c1 J P
              go_wp2_with fail
              rw [HW10.out]
              clear HW10
              generalize w9.heap.size = br at *
              refine (LentSamples_own _ ss _ (P5.out.to (J10.out.fr.mono (Nat.le_of_eq HQ.out))).hl (by rw [HZ.out]; have := Z40.out; omega)).mono ?_
              rintro e w11 ⟨g, cap, rfl, o11, b11⟩
              have J12 : Hid (Here q (q + 1) (bookIR Vi Wi Vr Wr) 44 w5 w11 (rblk Vr Wr lr ++ (iblk Vi Wi li ++ (r4 br now n (.slice s1a N s1c) (.slice f1a M f1c) p fl g cap ss))) []) := Hid.of ((J10.out.more b11 o11).perm (perm_r4 _ _ _ _ _ _))
              clear J10 o11 b11
              obtain ⟨y0, y1, y2, y3⟩ := r4_at J12.out (fun r h => (List.mem_append_right _ (List.mem_append_right _ h)))
              go_wp2_with fail
              refine (viewTier_any S _ _ (now, p, fl) tier ss _ (P5.out.to (J12.out.fr.mono (Nat.le_of_eq HQ.out))).ok FT.out HEV.out (r4_rch J12.out (fun r h => (List.mem_append_right _ (List.mem_append_right _ h))) Hn.out C10.out) HTI.out (r4_sams J12.out (fun r h => (List.mem_append_right _ (List.mem_append_right _ h)))) (by rw [HZ.out]; have := Z40.out; omega) FS.out).mono ?_
              rintro e w12 ⟨ua, rfl, o12, b12⟩
              obtain ⟨TA, hTA⟩ : ∃ T, vT (now, p, fl) tier ss = T := ⟨_, rfl⟩
              rw [hTA] at o12
              have LTA : Hid (TA.length ≤ 40) := Hid.of (by
                have h := (vT_good (i := tier) (ss := ss) HEV.out FS.out).len
                rw [hTA, HZ.out] at h
                have := Z40.out
                omega)
              have HTA := Hid.of hTA
              obtain ⟨aa, ac, rfl, -⟩ := own_one o12
              have J13 : Hid (Here q (q + 1) (bookIR Vi Wi Vr Wr) 44 w5 w12 (lRow (.slice aa TA.length ac) TA :: (rblk Vr Wr lr ++ (iblk Vi Wi li ++ (r4 br now n (.slice s1a N s1c) (.slice f1a M f1c) p fl g cap ss)))) []) := Hid.of (J12.out.more b12 (lRow_own o12))
              clear o12 b12 J12 hTA y0 y1 y2 y3
              obtain ⟨y0, y1, y2, y3⟩ := r4_at J13.out (fun r h => (List.mem_cons_of_mem _ (List.mem_append_right _ (List.mem_append_right _ h))))
              go_wp2_with fail
              refine (viewAll_any S _ _ (now, p, fl) ss _ (P5.out.to (J13.out.fr.mono (Nat.le_of_eq HQ.out))).ok FT.out HEV.out (r4_rch J13.out (fun r h => (List.mem_cons_of_mem _ (List.mem_append_right _ (List.mem_append_right _ h)))) Hn.out C10.out) (by show p.2.length ≤ _; rw [HN.out]; have := N10.out; omega) (r4_sams J13.out (fun r h => (List.mem_cons_of_mem _ (List.mem_append_right _ (List.mem_append_right _ h))))) (by rw [HZ.out]; have := Z40.out; omega) FS.out).mono ?_
              rintro e w13 ⟨uo, us, rfl, hus, bag, b13⟩
              have hus2 : us.length = N := hus.trans HN.out
              have HUS := Hid.of hus2
              obtain ⟨oa, oc, hoe, -⟩ := own_one (bag.own _ (List.mem_cons_self ..))
              simp only at hoe
              subst hoe
              have J14 := J13.out.join b13 bag
              rw [vRows_lRows] at J14
              simp only [hus2] at J14 ⊢
              have J14 : Hid (Here q (q + 1) (bookIR Vi Wi Vr Wr) 44 w5 w13 ((oRow (.slice oa N oc) us :: lRows (now, p, fl) ss us) ++ (lRow (.slice aa TA.length ac) TA :: (rblk Vr Wr lr ++ (iblk Vi Wi li ++ (r4 br now n (.slice s1a N s1c) (.slice f1a M f1c) p fl g cap ss))))) []) := Hid.of J14
              clear hus hus2 bag b13 J13 y0 y1 y2 y3
              obtain ⟨y0, y1, y2, y3⟩ := r4_at J14.out (fun r h => List.mem_append_right _ (List.mem_cons_of_mem _ (List.mem_append_right _ (List.mem_append_right _ h))))
              go_wp2_with fail
              refine (viewCount_any S _ _ (now, p, fl) ss _ (P5.out.to (J14.out.fr.mono (Nat.le_of_eq HQ.out))).ok FT.out (r4_rch J14.out (fun r h => List.mem_append_right _ (List.mem_cons_of_mem _ (List.mem_append_right _ (List.mem_append_right _ h)))) Hn.out C10.out) (by show p.2.length ≤ _; rw [HN.out]; have := N10.out; omega) (r4_sams J14.out (fun r h => List.mem_append_right _ (List.mem_cons_of_mem _ (List.mem_append_right _ (List.mem_append_right _ h))))) (by rw [HZ.out]; have := Z40.out; omega) FS.out).mono ?_
              rintro e w15 ⟨un, rfl, o15, b15⟩
              have o16 : w15.ownsRow w13.heap.size 3 1 un (vNs (now, p, fl) ss N).length ((vNs (now, p, fl) ss N).map (Value.int .i64)) := by
                have h := o15
                simp only [HN.out] at h
                rw [vNs_len]
                exact h
              obtain ⟨na, nc, rfl, -⟩ := own_one o16
              simp only [vNs_len]
              have J16 : Hid (Here q (q + 1) (bookIR Vi Wi Vr Wr) 44 w5 w15 (lRow (.slice aa TA.length ac) TA :: (rblk Vr Wr lr ++ (iblk Vi Wi li ++ (iRow (.slice na N nc) (vNs (now, p, fl) ss N) :: (lRows (now, p, fl) ss us ++ (oRow (.slice oa N oc) us :: (r4 br now n (.slice s1a N s1c) (.slice f1a M f1c) p fl g cap ss))))))) []) := Hid.of (by
                have h := (J14.out.more b15 o16).perm (perm_in _ _ _ _ _ _ _)
                rw [show (Value.slice na N nc) = .slice na (vNs (now, p, fl) ss N).length nc by rw [vNs_len]]
                exact h)
              clear o15 o16 b15 J14 y0 y1 y2 y3
              go_wp2_with fail
              refine (rblk_add q (q + 1) (bookIR Vi Wi Vr Wr) Vr Wr (.slice aa TA.length ac) lr (TA.map rl) (iblk Vi Wi li ++ (iRow (.slice na N nc) (vNs (now, p, fl) ss N) :: (lRows (now, p, fl) ss us ++ (oRow (.slice oa N oc) us :: (r4 br now n (.slice s1a N s1c) (.slice f1a M f1c) p fl g cap ss))))) 44 w5 _ rfl rfl (by have := LR.out.1; omega) (by rw [List.length_map]; have := LTA.out; omega) J16.out).mono ?_
              rintro e w16 ⟨rfl, V2, W2, u2, k16⟩
              have J17 : Hid (Here q (q + 1) (bookIR Vi Wi V2 W2) 44 w5 w16 (rblk V2 W2 (lr ++ [((.slice aa TA.length ac), u2, TA.map rl)]) ++ (iblk Vi Wi li ++ (iRow (.slice na N nc) (vNs (now, p, fl) ss N) :: (lRows (now, p, fl) ss us ++ (oRow (.slice oa N oc) us :: (r4 br now n (.slice s1a N s1c) (.slice f1a M f1c) p fl g cap ss)))))) []) := Hid.of k16
              clear k16 J16
              go_wp2_with fail
              refine (iblk_add q (q + 1) (bookIR Vi Wi V2 W2) Vi Wi (.slice na N nc) li (vNs (now, p, fl) ss N) (rblk V2 W2 (lr ++ [((.slice aa TA.length ac), u2, TA.map rl)]) ++ (lRows (now, p, fl) ss us ++ (oRow (.slice oa N oc) us :: (r4 br now n (.slice s1a N s1c) (.slice f1a M f1c) p fl g cap ss)))) 44 w5 _ rfl rfl (by have := LI.out.1; omega) (by rw [vNs_len]; have := N10.out; omega) (J17.out.perm (perm_mid3' _ _ _ _))).mono ?_
              rintro e w17 ⟨rfl, V3, W3, u3, k17⟩
              have j18 : Here q (q + 1) (bookIR V3 W3 V2 W2) 44 w5 w17 (rblk V2 W2 (lr ++ [((.slice aa TA.length ac), u2, TA.map rl)]) ++ (iblk V3 W3 (li ++ [((.slice na N nc), u3, (vNs (now, p, fl) ss N))]) ++ (lRows (now, p, fl) ss us ++ (oRow (.slice oa N oc) us :: (r4 br now n (.slice s1a N s1c) (.slice f1a M f1c) p fl g cap ss))))) [] := k17.perm (perm_swap3 _ _ _)
              clear k17 J17
              obtain ⟨lr2, hlr2⟩ : ∃ l, lr ++ [((.slice aa TA.length ac), u2, TA.map rl)] = l := ⟨_, rfl⟩
              obtain ⟨li2, hli2⟩ : ∃ l, li ++ [((.slice na N nc), u3, (vNs (now, p, fl) ss N))] = l := ⟨_, rfl⟩
              rw [hlr2, hli2] at j18
              have J18 := Hid.of j18
              have AIN : Hid (((.slice aa TA.length ac), u2, TA.map rl) ∈ lr2) := Hid.of (by rw [← hlr2]; simp)
              have NIN : Hid (((.slice na N nc), u3, (vNs (now, p, fl) ss N)) ∈ li2) := Hid.of (by rw [← hli2]; simp)
              have LR2 : Hid (lr2.length ≤ 12 * k + 1 + 0 ∧ ∀ y ∈ lr2, y.2.2.length ≤ 900000) := Hid.of ⟨by rw [← hlr2, List.length_append, List.length_singleton]; have := LR.out.1; omega, fun y hy => by
                rw [← hlr2, List.mem_append] at hy
                rcases hy with hy | hy
                · exact LR.out.2 y hy
                · rw [List.mem_singleton.1 hy]
                  show (TA.map rl).length ≤ _
                  rw [List.length_map]
                  have := LTA.out
                  omega⟩
              have LI2 : Hid (li2.length ≤ k + 1 ∧ ∀ y ∈ li2, y.2.2.length ≤ 900000) := Hid.of ⟨by rw [← hli2, List.length_append, List.length_singleton]; have := LI.out.1; omega, fun y hy => by
                rw [← hli2, List.mem_append] at hy
                rcases hy with hy | hy
                · exact LI.out.2 y hy
                · rw [List.mem_singleton.1 hy]
                  show (vNs (now, p, fl) ss N).length ≤ _
                  rw [vNs_len]
                  have := N10.out
                  omega⟩
              clear j18 hlr2 hli2 LR LI
              have P18 := Hid.of (P5.out.to (J18.out.fr.mono (Nat.le_of_eq HQ.out)))
              obtain ⟨⟨c0, c1⟩, x0, x1, x2, x3⟩ := P18.out.at
              go_wp2_with fail
              refine (refView_vT now n _ _ p fl tier _ ss _ P18.out.hs P18.out.hf FT.out HEV.out HTI.out P18.out.hl (by rw [HZ.out]; have := Z40.out; omega) FS.out).mono ?_
              rintro e w18 ⟨uv, rfl, ov, b18⟩
              rw [HTA.out] at ov
              have J19 := Hid.of (J18.out.next b18)
              have OV := Hid.of (own_row ov)
              clear b18 ov J18 P18 c0 c1 x0 x1 x2 x3
              go_wp2_with fail
              refine (SameRecords_quiet _ uv (TA.map rl) _ (rblk_has J19.out (fun r h => List.mem_append_left _ h) _ AIN.out) OV.out (by rw [List.length_map]; have := LTA.out; omega)).mono ?_
              rintro e w19 ⟨rfl, q9, rfl⟩
              have J20 := Hid.of (J19.out.drewN q9)
              have P20 := Hid.of (P5.out.to (J20.out.fr.mono (Nat.le_of_eq HQ.out)))
              obtain ⟨⟨c0, c1⟩, -⟩ := P20.out.at
              clear J19 OV AIN HTA
              go_upto_region 23 with fail
              clear c0 c1 P20
              generalize hw20 : w18.drewN q9 = w20 at *
              clear hw20
              go_loopg [26, 27, 28, 29] N (fun kx iv wv cv jv wi => ∃ (i : Nat) (V W : Value) (L : List (Value × Value × List RecL)), iv = .int .i64 i ∧ i ≤ N ∧ N - i ≤ kx ∧ Hid (Here q (q + 1) (bookIR V3 W3 V W) 44 w5 wi (rblk V W L ++ (iblk V3 W3 li2 ++ ((lRows (now, p, fl) ss us).drop i ++ (oRow (.slice oa N oc) us :: (r4 br now n (.slice s1a N s1c) (.slice f1a M f1c) p fl g cap ss))))) []) ∧ Hid (L.length ≤ 12 * k + 1 + i ∧ ∀ y ∈ L, y.2.2.length ≤ 900000))
              case atStart => exact ⟨0, V2, W2, lr2, rfl, Nat.zero_le _, Nat.le_refl _, J20, LR2⟩
              case round =>
                clear J20 LR2
                obtain ⟨i, V, W, L, rfl, hiN, hix, J, LL⟩ := hrel
                have i0 : (0 : Int) ≤ (i : Int) := Int.natCast_nonneg _
                by_cases hlt2 : (i : Int) < (N : Int)
                · have IRX := trivial
                  have hNi : i < N := by omega
                  have HNI := Hid.of hNi
                  have i10 : (i : Int) ≤ 10 := by have := N10.out; omega
                  obtain ⟨xv, hxv⟩ : ∃ x, us[i]? = some x := ⟨_, List.getElem?_eq_getElem (by rw [HUS.out]; exact hNi)⟩
                  have HXV := Hid.of hxv
                  obtain ⟨og, oo, hoa⟩ := oRow_at J.out (List.mem_append_right _ (List.mem_append_right _ (List.mem_append_right _ (List.mem_cons_self ..)))) hxv
                  subst hoa
                  obtain ⟨T, hT⟩ : ∃ T, vT (now, p, fl) (i : Int) ss = T := ⟨_, rfl⟩
                  have HT := Hid.of hT
                  have j1 := J.out
                  rw [lRows_drop hxv, hT] at j1
                  have LT : Hid (T.length ≤ 40) := Hid.of (by
                    have h := (vT_good (i := (i : Int)) (ss := ss) HEV.out FS.out).len
                    rw [hT, HZ.out] at h
                    have := Z40.out
                    omega)
                  have CT : Hid (tCnt T = ((vN (now, p, fl) (i : Int) ss : Nat) : Int)) := Hid.of (by
                    have h := vT_cnt (i := (i : Int)) (ss := ss) HEV.out FS.out (by rw [HZ.out]; have := Z40.out; omega)
                    rw [hT] at h
                    exact h)
                  have VN : Hid (vN (now, p, fl) (i : Int) ss ≤ 40) := Hid.of (by have h := vN_le (now, p, fl) (i : Int) ss; rw [HZ.out] at h; have := Z40.out; omega)
                  have C0 : Hid (∀ x ∈ T, 0 ≤ x.a.c) := Hid.of (fun x hx => by
                    have h := (vT_good (i := (i : Int)) (ss := ss) HEV.out FS.out).fit x (by rw [hT]; exact hx)
                    have h2 := ((agOk_iff _).1 h.2.2.2)
                    omega)
                  have J1 := Hid.of j1
                  have P1 := Hid.of (P5.out.to (J1.out.fr.mono (Nat.le_of_eq HQ.out)))
                  obtain ⟨-, x0, x1, x2, x3⟩ := P1.out.at
                  clear hxv hT j1 J hNi
                  go_wp2_with fail
                  refine (refView_vT now n _ _ p fl (i : Int) _ ss _ P1.out.hs P1.out.hf FT.out HEV.out (by unfold In64; have := N10.out; have := HNI.out; omega) P1.out.hl (by rw [HZ.out]; have := Z40.out; omega) FS.out).mono ?_
                  rintro e w21 ⟨uw, rfl, ow, b21⟩
                  rw [HT.out] at ow
                  obtain ⟨K, hK⟩ : ∃ K, T.length = K := ⟨_, rfl⟩
                  have HK := Hid.of hK
                  have J2 : Hid (Here q (q + 1) (bookIR V3 W3 V W) 44 w5 w21 (lRow uw T :: (rblk V W L ++ (iblk V3 W3 li2 ++ ((lRow xv T :: (lRows (now, p, fl) ss us).drop (i + 1)) ++ (oRow (.slice (some ⟨og, oo, none⟩) N oc) us :: (r4 br now n (.slice s1a N s1c) (.slice f1a M f1c) p fl g cap ss)))))) []) := Hid.of (J1.out.more b21 ow)
                  have OW := own_row ow
                  obtain ⟨wa, wc, rfl, -⟩ := own_one ow
                  rw [List.length_map, hK] at OW ⊢
                  rw [List.length_map, hK] at J2
                  clear b21 ow J1 P1 x0 x1 x2 x3 hK
                  have HOW := Hid.of OW
                  clear OW
                  go_wp2_with fail
                  go_loopg [28, 29] K (fun kx cv jv wj => ∃ (j : Nat) (c : Int), jv = .int .i64 j ∧ cv = .int .i64 c ∧ Hid (tCnt (T.take j) = c) ∧ j ≤ K ∧ K - j ≤ kx ∧ Hid (Below w21.heap.size w21 wj))
                  case atStart => exact ⟨0, 0, rfl, rfl, Hid.of rfl, Nat.zero_le _, Nat.le_refl _, Hid.of (Below.refl _ _)⟩
                  case round =>
                    obtain ⟨j, c, rfl, rfl, HC, hjK, hjx, HB⟩ := hrel
                    have j0 : (0 : Int) ≤ (j : Int) := Int.natCast_nonneg _
                    have hc := tCnt_part C0.out j
                    rw [HC.out, CT.out] at hc
                    have c9 : c ≤ 40 := by have := VN.out; omega
                    have c0 : 0 ≤ c := hc.1
                    clear hc
                    by_cases hlt3 : (j : Int) < (K : Int)
                    · have j9 : (j : Int) ≤ 40 := by have := LT.out; have := HK.out; omega
                      obtain ⟨x, hx⟩ : ∃ x, T[j]? = some x := ⟨_, List.getElem?_eq_getElem (by rw [HK.out]; omega)⟩
                      obtain ⟨wb, wo, hwa, wl, -, -, d2, -⟩ := r_at (HOW.out.kept HB.out) j (rl x) (by rw [List.getElem?_map, hx]; rfl)
                      have d3 : wr.cell? ⟨wb, wo + j * 7 + 2, none⟩ = some (.int .i64 x.a.c) := d2
                      have hn := tCnt_take hx
                      rw [HC.out] at hn
                      have hp2 := tCnt_part C0.out (j + 1)
                      rw [CT.out, hn] at hp2
                      have hx0 := C0.out x (List.mem_of_getElem? hx)
                      have hx9 : x.a.c ≤ 40 := by have := VN.out; omega
                      obtain ⟨xc, hxc⟩ : ∃ y, x.a.c = y := ⟨_, rfl⟩
                      rw [hxc] at d3 hn hx0 hx9
                      have HNX := Hid.of hn
                      subst hwa
                      clear hn hp2 hx hxc d2
                      go_wp2_with fail
                      go_roundg (K - (j + 1))
                      case measure => omega
                      case rel => exact ⟨j + 1, c + xc, by go_num, by go_num, HNX, by omega, Nat.le_refl _, HB⟩
                    · obtain rfl : K = j := by omega
                      have hcn : c = ((vN (now, p, fl) (i : Int) ss : Nat) : Int) := by
                        have h := HC.out
                        rw [List.take_of_length_le (Nat.le_of_eq HK.out), CT.out] at h
                        exact h.symm
                      subst hcn
                      have J3 := Hid.of (J2.out.next HB.out)
                      clear HC HB J2 HOW c9 c0 hlt3 hjK hjx j0
                      have z0 := oRow_cell J3.out (List.mem_cons_of_mem _ (List.mem_append_right _ (List.mem_append_right _ (List.mem_append_right _ (List.mem_cons_self ..))))) HXV.out
                      obtain ⟨oi, hoi⟩ : ∃ x, oo + i = x := ⟨_, rfl⟩
                      rw [hoi] at z0
                      go_wp2_with fail
                      refine (rblk_add q (q + 1) (bookIR V3 W3 V W) V W xv L (T.map rl) (iblk V3 W3 li2 ++ (lRow (.slice wa K wc) T :: ((lRows (now, p, fl) ss us).drop (i + 1) ++ (oRow (.slice (some ⟨og, oo, none⟩) N oc) us :: (r4 br now n (.slice s1a N s1c) (.slice f1a M f1c) p fl g cap ss))))) 44 w5 _ rfl rfl (by have := LL.out.1; have := HNI.out; have := N10.out; omega) (by rw [List.length_map]; have := LT.out; omega) (J3.out.perm (perm_want _ _ _ _ _ _ _))).mono ?_
                      rintro e w22 ⟨rfl, V4, W4, u4, k22⟩
                      have J4 : Hid (Here q (q + 1) (bookIR V3 W3 V4 W4) 44 w5 w22 (rblk V4 W4 (L ++ [(xv, u4, T.map rl)]) ++ (iblk V3 W3 li2 ++ (lRow (.slice wa K wc) T :: ((lRows (now, p, fl) ss us).drop (i + 1) ++ (oRow (.slice (some ⟨og, oo, none⟩) N oc) us :: (r4 br now n (.slice s1a N s1c) (.slice f1a M f1c) p fl g cap ss)))))) []) := Hid.of k22
                      clear k22 J3 z0
                      have z0 := oRow_cell J4.out (List.mem_append_right _ (List.mem_append_right _ (List.mem_cons_of_mem _ (List.mem_append_right _ (List.mem_cons_self ..))))) HXV.out
                      rw [hoi] at z0
                      have OW4 := own_row (J4.out.bag.own (lRow (.slice wa K wc) T) (List.mem_append_right _ (List.mem_append_right _ (List.mem_cons_self ..))))
                      simp only at OW4
                      go_wp2_with fail
                      refine (SameRecords_quiet _ _ (T.map rl) _ (rblk_has J4.out (fun r h => List.mem_append_left _ h) (xv, u4, T.map rl) (by simp)) OW4 (by rw [List.length_map]; have := LT.out; omega)).mono ?_
                      rintro e w23 ⟨rfl, q8, rfl⟩
                      have J5 := Hid.of (J4.out.drewN q8)
                      clear J4 OW4 z0
                      have z1 := iblk_has J5.out (fun r h => List.mem_append_right _ (List.mem_append_left _ h)) _ NIN.out
                      simp only at z1
                      rw [vNs_len] at z1
                      obtain ⟨nb, no, hna, nl, gn⟩ := z1.at i (.int .i64 ((vN (now, p, fl) (i : Int) ss : Nat) : Int)) (by
                        unfold vNs
                        rw [List.getElem?_map, List.getElem?_map, List.getElem?_range HNI.out]
                        rfl)
                      subst hna
                      obtain ⟨ni, hni⟩ : ∃ x, no + i = x := ⟨_, rfl⟩
                      rw [hni] at gn
                      obtain ⟨nx, hnx⟩ : ∃ x, vN (now, p, fl) (i : Int) ss = x := ⟨_, rfl⟩
                      rw [hnx] at gn ⊢
                      have z2 := oRow_cell J5.out (List.mem_append_right _ (List.mem_append_right _ (List.mem_cons_of_mem _ (List.mem_append_right _ (List.mem_cons_self ..))))) HXV.out
                      rw [hoi] at z2
                      have nx9 : (nx : Int) ≤ 40 := by have h := VN.out; rw [hnx] at h; omega
                      have nx0 : (0 : Int) ≤ (nx : Int) := Int.natCast_nonneg _
                      clear z1 hnx
                      go_wp2_with fail
                      go_roundg (N - (i + 1))
                      case measure => have := HNI.out; omega
                      case rel =>
                        refine ⟨i + 1, V4, W4, L ++ [(xv, u4, T.map rl)], by go_num, HNI.out, Nat.le_refl _, Hid.of (J5.out.sublist (List.Sublist.append_left (List.Sublist.append_left (List.sublist_cons_self _ _) _) _)), Hid.of ⟨by rw [List.length_append, List.length_singleton]; have := LL.out.1; omega, fun y hy => ?_⟩⟩
                        rw [List.mem_append] at hy
                        rcases hy with hy | hy
                        · exact LL.out.2 y hy
                        · rw [List.mem_singleton.1 hy]
                          show (T.map rl).length ≤ _
                          rw [List.length_map]
                          have := LT.out
                          omega
                · obtain rfl : N = i := by omega
                  have j1 := J.out
                  rw [lRows_end HUS.out, List.nil_append] at j1
                  have J1 : Hid (Here q (q + 1) (bookIR V3 W3 V W) 44 w5 wr (rblk V W L ++ (iblk V3 W3 li2 ++ (oRow (.slice oa N oc) us :: (r4 br now n (.slice s1a N s1c) (.slice f1a M f1c) p fl g cap ss)))) []) := Hid.of j1
                  have HCI := Hid.of (rCover_in FT.out qa)
                  clear j1 J hlt2 hiN hix i0
                  obtain ⟨y0, y1, y2, y3⟩ := r4_at J1.out (fun r h => (List.mem_append_right _ (List.mem_append_right _ (List.mem_cons_of_mem _ h))))
                  go_wp2_with fail
                  refine (viewAsk_any S _ _ (now, p, fl) nm qa qb ss _ (P5.out.to (J1.out.fr.mono (Nat.le_of_eq HQ.out))).ok FT.out HEV.out (r4_rch J1.out (fun r h => (List.mem_append_right _ (List.mem_append_right _ (List.mem_cons_of_mem _ h)))) Hn.out C10.out) HNM.out HQA.out HCI.out (r4_sams J1.out (fun r h => (List.mem_append_right _ (List.mem_append_right _ (List.mem_cons_of_mem _ h))))) (by rw [HZ.out]; have := Z40.out; omega) FS.out).mono ?_
                  rintro e w31 ⟨ub, h1, h2, b31⟩
                  clear y0 y1 y2 y3
                  obtain ⟨cv, hcv⟩ : ∃ c, rCover (now, p, fl) qa = c := ⟨_, rfl⟩
                  rw [hcv] at h1 HCI
                  have HCV := Hid.of hcv
                  obtain ⟨TC, hTC⟩ : ∃ T, vT (now, p, fl) cv ss = T := ⟨_, rfl⟩
                  rw [hTC] at h1
                  have HTC := Hid.of hTC
                  have LTC : Hid (TC.length ≤ 40) := Hid.of (by
                    have h := (vT_good (i := cv) (ss := ss) HEV.out FS.out).len
                    rw [hTC, HZ.out] at h
                    have := Z40.out
                    omega)
                  clear hcv hTC
                  obtain ⟨er, her⟩ : ∃ er, iAskE nm qa qb = er := ⟨_, rfl⟩
                  rw [her] at h1 h2
                  have HER := Hid.of her
                  clear her
                  by_cases he : er = 0
                  · obtain ⟨rfl, o31⟩ := h1 he
                    clear h1 h2
                    obtain ⟨TB, hTB⟩ : ∃ T, tRange TC nm qa qb = T := ⟨_, rfl⟩
                    rw [hTB] at o31
                    have LTB : Hid (TB.length ≤ 40) := Hid.of (by
                      have h : (tRange TC nm qa qb).length ≤ TC.length := List.length_filter_le _ _
                      rw [hTB] at h
                      have := LTC.out
                      omega)
                    have HTB := Hid.of hTB
                    clear hTB
                    subst he
                    obtain ⟨ba, bc, hub, -⟩ := own_one o31
                    have hub2 : ub = (.slice ba TB.length bc) := hub
                    subst hub2
                    clear hub
                    obtain ⟨w32, hw32⟩ : ∃ w32, w31.alloc (.cells #[.int .i64 cv, (.slice ba TB.length bc)] 63) = w32 := ⟨_, rfl⟩
                    have b32 : Below w31.heap.size w31 w32 := by rw [← hw32]; exact (Below.refl _ _).alloc (Nat.le_refl _) _
                    have J2 : Hid (Here q (q + 1) (bookIR V3 W3 V W) 44 w5 w32 (ansRow w31.heap.size cv (.slice ba TB.length bc) :: lRow (.slice ba TB.length bc) TB :: (rblk V W L ++ (iblk V3 W3 li2 ++ (oRow (.slice oa N oc) us :: (r4 br now n (.slice s1a N s1c) (.slice f1a M f1c) p fl g cap ss))))) []) := Hid.of ((J1.out.more b31 (lRow_own o31)).more b32 (by rw [← hw32]; exact cells_own w31 #[.int .i64 cv, (.slice ba TB.length bc)] _ 2 rfl))
                    have HW32 := Hid.of hw32
                    clear hw32 b32 b31 o31 J1
                    go_wp2_with fail
                    rw [HW32.out]
                    clear HW32
                    generalize w31.heap.size = bb at *
                    refine (refAsks_any nm qa qb _ HNM.out).mono ?_
                    rintro e w33 ⟨rfl, b33⟩
                    rw [HER.out]
                    have J3 := Hid.of (J2.out.next b33)
                    clear b33 J2
                    obtain ⟨d0, d1⟩ := ans_at J3.out (List.mem_cons_self ..)
                    go_wp2_with fail
                    refine (rblk_add q (q + 1) (bookIR V3 W3 V W) V W (.slice ba TB.length bc) L (TB.map rl) (iblk V3 W3 li2 ++ (ansRow bb cv (.slice ba TB.length bc) :: (oRow (.slice oa N oc) us :: (r4 br now n (.slice s1a N s1c) (.slice f1a M f1c) p fl g cap ss)))) 44 w5 _ rfl rfl (by have := LL.out.1; have := N10.out; omega) (by rw [List.length_map]; have := LTB.out; omega) (J3.out.perm (perm_ans _ _ _ _ _))).mono ?_
                    rintro e w34 ⟨rfl, V5, W5, u5, k34⟩
                    have J4 : Hid (Here q (q + 1) (bookIR V3 W3 V5 W5) 44 w5 w34 (rblk V5 W5 (L ++ [((.slice ba TB.length bc), u5, TB.map rl)]) ++ (iblk V3 W3 li2 ++ (ansRow bb cv (.slice ba TB.length bc) :: (oRow (.slice oa N oc) us :: (r4 br now n (.slice s1a N s1c) (.slice f1a M f1c) p fl g cap ss))))) []) := Hid.of k34
                    clear k34 J3 d0 d1
                    go_wp2_with fail
                    refine (StaysSamples_any (q + 1) _ _ ss _ (r4_lent J4.out (fun r h => (List.mem_append_right _ (List.mem_append_right _ (List.mem_cons_of_mem _ (List.mem_cons_of_mem _ h)))))) (P5.out.to (J4.out.fr.mono (Nat.le_of_eq HQ.out))).hl (by rw [HZ.out]; have := Z40.out; omega)).mono ?_
                    rintro e w35 ⟨rfl, b35⟩
                    have J5 := Hid.of (J4.out.next b35)
                    clear b35 J4
                    have P5' := Hid.of (P5.out.to (J5.out.fr.mono (Nat.le_of_eq HQ.out)))
                    obtain ⟨-, x0, x1, x2, x3⟩ := P5'.out.at
                    go_wp2_with fail
                    refine (refCover_any now n _ _ p fl qa _ P5'.out.hs P5'.out.hf FT.out).mono ?_
                    rintro e w36 ⟨rfl, b36⟩
                    rw [HCV.out]
                    have J6 := Hid.of (J5.out.next b36)
                    clear b36 J5 P5' x0 x1 x2 x3
                    have P6 := Hid.of (P5.out.to (J6.out.fr.mono (Nat.le_of_eq HQ.out)))
                    obtain ⟨-, x0, x1, x2, x3⟩ := P6.out.at
                    go_wp2_with fail
                    refine (refView_vT now n _ _ p fl cv _ ss _ P6.out.hs P6.out.hf FT.out HEV.out HCI.out P6.out.hl (by rw [HZ.out]; have := Z40.out; omega) FS.out).mono ?_
                    rintro e w37 ⟨uz, rfl, oz, b37⟩
                    rw [HTC.out] at oz
                    obtain ⟨za, zc, hza, -⟩ := own_one oz
                    have hza2 : uz = .slice za (TC.map rl).length zc := hza
                    rw [List.length_map] at hza2
                    subst hza2
                    clear hza
                    have RT8 := Hid.of (RT.made (e := 0) oz)
                    have J7 := Hid.of ((J6.out.next b37).next ((Below.refl _ _).alloc (Nat.le_refl _) (.cells #[.int .i64 0, .slice za TC.length zc] 72)))
                    clear b37 oz J6 P6 x0 x1 x2 x3
                    go_upto_region 42 with fail
                    generalize w37.heap.size = tb at *
                    generalize hw38 : w37.alloc (.cells #[.int .i64 0, .slice za TC.length zc] 72) = w38 at *
                    clear hw38
                    obtain ⟨d0, d1⟩ := ans_at J7.out (List.mem_append_right _ (List.mem_append_right _ (List.mem_cons_self ..)))
                    refine wp_region_noPanic ?_
                    refine wp_region_held_drew (S := fun w' => w'.cell? ⟨bb, 0, none⟩ = some (.int .i64 cv) ∧ w'.cell? ⟨bb, 1, none⟩ = some (.slice ba TB.length bc)) (by kernel_rfl) ?_ (fun hHeld => ?_)
                    · exact ⟨d0, d1⟩
                    refine wpAnyH_take (i := 0) (oi := ⟨_, _, _, _, _, _⟩) (v := ?_) rfl (by kernel_rfl) (by kernel_rfl) (by kernel_rfl) (fun _ _ _ h => h) (Or.inl ⟨by rfl, ?_⟩) hHeld ?_
                    rotate_left
                    · intro w' hSw
                      try dsimp only at hSw
                      go_simp
                      all_goals with_reducible rfl
                    simp only [Act.put, List.setIfInBounds_toArray, List.set_cons_zero, List.set_cons_succ]
                    refine wpAnyH_take (i := 1) (oi := ⟨_, _, _, _, _, _⟩) (v := ?_) rfl (by kernel_rfl) (by kernel_rfl) (by kernel_rfl) (fun _ _ _ h => h) (Or.inl ⟨by rfl, ?_⟩) hHeld ?_
                    rotate_left
                    · intro w' hSw
                      try dsimp only at hSw
                      go_simp
                      all_goals with_reducible rfl
                    simp only [Act.put, List.setIfInBounds_toArray, List.set_cons_zero, List.set_cons_succ]
                    refine wpAnyH_take (i := 2) (oi := ⟨_, _, _, _, _, _⟩) (v := ?_) rfl (by kernel_rfl) (by kernel_rfl) (by kernel_rfl) (fun _ _ _ h => h) (Or.inl ⟨by rfl, ?_⟩) hHeld ?_
                    rotate_left
                    · intro w' hSw
                      try dsimp only at hSw
                      go_simp
                      all_goals with_reducible rfl
                    simp only [Act.put, List.setIfInBounds_toArray, List.set_cons_zero, List.set_cons_succ]
                    refine wpAnyH_take (i := 3) (oi := ⟨_, _, _, _, _, _⟩) (v := ?_) rfl (by kernel_rfl) (by kernel_rfl) (by kernel_rfl) (fun _ _ _ h => h) (Or.inl ⟨by rfl, ?_⟩) hHeld ?_
                    rotate_left
                    · intro w' hSw
                      try dsimp only at hSw
                      go_simp
                      all_goals with_reducible rfl
                    simp only [Act.put, List.setIfInBounds_toArray, List.set_cons_zero, List.set_cons_succ]
                    refine wpAnyH_take (i := 4) (oi := ⟨_, _, _, _, _, _⟩) (v := ?_) rfl (by kernel_rfl) (by kernel_rfl) (by kernel_rfl) (fun _ _ _ h => h) (Or.inl ⟨by rfl, ?_⟩) hHeld ?_
                    rotate_left
                    · intro w' hSw
                      try dsimp only at hSw
                      go_simp
                      all_goals with_reducible rfl
                    simp only [Act.put, List.setIfInBounds_toArray, List.set_cons_zero, List.set_cons_succ]
                    refine wpAnyH_take (i := 5) (oi := ⟨_, _, _, _, _, _⟩) (v := ?_) rfl (by kernel_rfl) (by kernel_rfl) (by kernel_rfl) (fun _ _ _ h => h) (Or.inl ⟨by rfl, ?_⟩) hHeld ?_
                    rotate_left
                    · intro w' hSw
                      try dsimp only at hSw
                      go_simp
                      all_goals with_reducible rfl
                    simp only [Act.put, List.setIfInBounds_toArray, List.set_cons_zero, List.set_cons_succ]
                    refine wpAnyH_take (i := 6) (oi := ⟨_, _, _, _, _, _⟩) (v := ?_) rfl (by kernel_rfl) (by kernel_rfl) (by kernel_rfl) (fun _ _ _ h => h) (Or.inl ⟨by rfl, ?_⟩) hHeld ?_
                    rotate_left
                    · intro w' hSw
                      try dsimp only at hSw
                      go_simp
                      all_goals with_reducible rfl
                    simp only [Act.put, List.setIfInBounds_toArray, List.set_cons_zero, List.set_cons_succ]
                    refine wpAnyH_take (i := 7) (oi := ⟨_, _, _, _, _, _⟩) (v := ?_) rfl (by kernel_rfl) (by kernel_rfl) (by kernel_rfl) (fun _ _ _ h => h) (Or.inl ⟨by rfl, ?_⟩) hHeld ?_
                    rotate_left
                    · intro w' hSw
                      try dsimp only at hSw
                      go_simp
                      all_goals with_reducible rfl
                    simp only [Act.put, List.setIfInBounds_toArray, List.set_cons_zero, List.set_cons_succ]
                    refine wpAnyH_take (i := 8) (oi := ⟨_, _, _, _, _, _⟩) (v := ?_) rfl (by kernel_rfl) (by kernel_rfl) (by kernel_rfl) (fun _ _ _ h => h) (Or.inl ⟨by rfl, ?_⟩) hHeld ?_
                    rotate_left
                    · intro w' hSw
                      try dsimp only at hSw
                      go_simp
                      all_goals with_reducible rfl
                    simp only [Act.put, List.setIfInBounds_toArray, List.set_cons_zero, List.set_cons_succ]
                    refine wpAnyH_take (i := 9) (oi := ⟨_, _, _, _, _, _⟩) (v := ?_) rfl (by kernel_rfl) (by kernel_rfl) (by kernel_rfl) (fun _ _ _ h => h) (Or.inl ⟨by rfl, ?_⟩) hHeld ?_
                    rotate_left
                    · intro w' hSw
                      try dsimp only at hSw
                      go_simp
                      all_goals with_reducible rfl
                    simp only [Act.put, List.setIfInBounds_toArray, List.set_cons_zero, List.set_cons_succ]
                    refine wpAnyH_take (i := 10) (oi := ⟨_, _, _, _, _, _⟩) (v := ?_) rfl (by kernel_rfl) (by kernel_rfl) (by kernel_rfl) (fun _ _ _ h => h) (Or.inl ⟨by rfl, ?_⟩) hHeld ?_
                    rotate_left
                    · intro w' hSw
                      try dsimp only at hSw
                      go_simp
                      all_goals with_reducible rfl
                    simp only [Act.put, List.setIfInBounds_toArray, List.set_cons_zero, List.set_cons_succ]
                    refine wpAnyH_ready (rs := [11]) (by kernel_rfl) (by simp) ?_
                    refine AllReadyH.cons (o := ⟨_, _, _, _, _, _⟩) rfl (fun K hK => ?_) AllReadyH.nil
                    go_simp
                    refine (refRange_any nm qa qb (RT8.out.next (Below.refl _ _).drew) (by have := LTC.out; omega)).mono ?_
                    rintro x w39 ⟨ur, rfl, hr, b39⟩
                    rw [HTB.out] at hr
                    have HRR := Hid.of hr
                    have J8 := Hid.of (J7.out.next ((Below.refl _ _).drew.trans b39))
                    clear b39 hr J7 RT8 hHeld d0 d1
                    obtain ⟨d0, d1⟩ := ans_at J8.out (List.mem_append_right _ (List.mem_append_right _ (List.mem_cons_self ..)))
                    refine hK.out _ _ ⟨d0, d1⟩ (fun hHeld => ?_)
                    clear hK K
                    try simp only [Act.put, List.setIfInBounds_toArray, List.set_cons_zero, List.set_cons_succ]
                    refine wpAnyH_ready (rs := [12]) (by kernel_rfl) (by simp) ?_
                    refine AllReadyH.cons (o := ⟨_, _, _, _, _, _⟩) rfl (fun K hK => ?_) AllReadyH.nil
                    go_simp
                    refine (SameRecords_quiet _ ur (TB.map rl) _ (rblk_has J8.out (fun r h => List.mem_append_left _ h) ((.slice ba TB.length bc), u5, TB.map rl) (by simp)) (by rw [List.length_map]; exact HRR.out) (by rw [List.length_map]; have := LTB.out; omega)).mono ?_
                    rintro e w40 ⟨rfl, q7, rfl⟩
                    have J9 := Hid.of (J8.out.drewN q7)
                    clear J8 HRR hHeld d0 d1
                    obtain ⟨d0, d1⟩ := ans_at J9.out (List.mem_append_right _ (List.mem_append_right _ (List.mem_cons_self ..)))
                    refine hK.out _ _ ⟨d0, d1⟩ (fun hHeld => ?_)
                    clear hK K
                    try simp only [Act.put, List.setIfInBounds_toArray, List.set_cons_zero, List.set_cons_succ]
                    refine wpAnyH_take (i := 13) (oi := ⟨_, _, _, _, _, _⟩) (v := ?_) rfl (by kernel_rfl) (by kernel_rfl) (by kernel_rfl) (fun _ _ _ h => h) (Or.inl ⟨by rfl, ?_⟩) hHeld ?_
                    rotate_left
                    · intro w' hSw
                      try dsimp only at hSw
                      go_simp
                      all_goals with_reducible rfl
                    simp only [Act.put, List.setIfInBounds_toArray, List.set_cons_zero, List.set_cons_succ]
                    refine wpAnyH_take (i := 14) (oi := ⟨_, _, _, _, _, _⟩) (v := ?_) rfl (by kernel_rfl) (by kernel_rfl) (by kernel_rfl) (fun _ _ _ h => h) (Or.inl ⟨by rfl, ?_⟩) hHeld ?_
                    rotate_left
                    · intro w' hSw
                      try dsimp only at hSw
                      go_simp
                      all_goals with_reducible rfl
                    simp only [Act.put, List.setIfInBounds_toArray, List.set_cons_zero, List.set_cons_succ]
                    refine wpAnyH_done (by kernel_rfl) ?_ _
                    refine NoPanic.normal ?_
                    clear hHeld d0 d1
                    have JE := J9
                    go_wp2_with fail
                    go_roundg (2 - (k + 1))
                    case measure => omega
                    case rel =>
                      refine ⟨k + 1, V3, W3, V5, W5, li2, L ++ [((.slice ba TB.length bc), u5, TB.map rl)], by go_num, by omega, Nat.le_refl _, Hid.of (JE.out.sublist (List.Sublist.append_left (List.sublist_append_left _ _) _)), Hid.of ⟨by rw [List.length_append, List.length_singleton]; have := LL.out.1; have := N10.out; omega, fun y hy => ?_⟩, LI2⟩
                      rw [List.mem_append] at hy
                      rcases hy with hy | hy
                      · exact LL.out.2 y hy
                      · rw [List.mem_singleton.1 hy]
                        show (TB.map rl).length ≤ _
                        rw [List.length_map]
                        have := LTB.out
                        omega
                  · obtain ⟨rfl, o31⟩ := h2 he
                    clear h1 h2
                    have LTB : Hid (([] : List TRec).length ≤ 40) := Hid.of (by decide)
                    obtain ⟨ba, bc, hub, -⟩ := own_one o31
                    have hub2 : ub = (.slice ba 0 bc) := hub
                    subst hub2
                    clear hub
                    obtain ⟨w32, hw32⟩ : ∃ w32, w31.alloc (.cells #[.int .i64 0, (.slice ba 0 bc)] 63) = w32 := ⟨_, rfl⟩
                    have b32 : Below w31.heap.size w31 w32 := by rw [← hw32]; exact (Below.refl _ _).alloc (Nat.le_refl _) _
                    have J2 : Hid (Here q (q + 1) (bookIR V3 W3 V W) 44 w5 w32 (ansRow w31.heap.size 0 (.slice ba 0 bc) :: lRow (.slice ba 0 bc) ([] : List TRec) :: (rblk V W L ++ (iblk V3 W3 li2 ++ (oRow (.slice oa N oc) us :: (r4 br now n (.slice s1a N s1c) (.slice f1a M f1c) p fl g cap ss))))) []) := Hid.of ((J1.out.more b31 (lRow_own o31)).more b32 (by rw [← hw32]; exact cells_own w31 #[.int .i64 0, (.slice ba 0 bc)] _ 2 rfl))
                    have HW32 := Hid.of hw32
                    clear hw32 b32 b31 o31 J1
                    go_wp2_with fail
                    rw [HW32.out]
                    clear HW32
                    generalize w31.heap.size = bb at *
                    refine (refAsks_any nm qa qb _ HNM.out).mono ?_
                    rintro e w33 ⟨rfl, b33⟩
                    rw [HER.out]
                    have J3 := Hid.of (J2.out.next b33)
                    clear b33 J2
                    obtain ⟨d0, d1⟩ := ans_at J3.out (List.mem_cons_self ..)
                    go_wp2_with fail
                    refine (rblk_add q (q + 1) (bookIR V3 W3 V W) V W (.slice ba 0 bc) L (([] : List TRec).map rl) (iblk V3 W3 li2 ++ (ansRow bb 0 (.slice ba 0 bc) :: (oRow (.slice oa N oc) us :: (r4 br now n (.slice s1a N s1c) (.slice f1a M f1c) p fl g cap ss)))) 44 w5 _ rfl rfl (by have := LL.out.1; have := N10.out; omega) (by rw [List.length_map]; have := LTB.out; omega) (J3.out.perm (perm_ans _ _ _ _ _))).mono ?_
                    rintro e w34 ⟨rfl, V5, W5, u5, k34⟩
                    have J4 : Hid (Here q (q + 1) (bookIR V3 W3 V5 W5) 44 w5 w34 (rblk V5 W5 (L ++ [((.slice ba 0 bc), u5, ([] : List TRec).map rl)]) ++ (iblk V3 W3 li2 ++ (ansRow bb 0 (.slice ba 0 bc) :: (oRow (.slice oa N oc) us :: (r4 br now n (.slice s1a N s1c) (.slice f1a M f1c) p fl g cap ss))))) []) := Hid.of k34
                    clear k34 J3 d0 d1
                    go_wp2_with fail
                    refine (StaysSamples_any (q + 1) _ _ ss _ (r4_lent J4.out (fun r h => (List.mem_append_right _ (List.mem_append_right _ (List.mem_cons_of_mem _ (List.mem_cons_of_mem _ h)))))) (P5.out.to (J4.out.fr.mono (Nat.le_of_eq HQ.out))).hl (by rw [HZ.out]; have := Z40.out; omega)).mono ?_
                    rintro e w35 ⟨rfl, b35⟩
                    have J5 := Hid.of (J4.out.next b35)
                    clear b35 J4
                    obtain ⟨d0, d1⟩ := ans_at J5.out (List.mem_append_right _ (List.mem_append_right _ (List.mem_cons_self ..)))
                    have JE := J5
                    go_wp2_with fail
                    go_roundg (2 - (k + 1))
                    case measure => omega
                    case rel =>
                      refine ⟨k + 1, V3, W3, V5, W5, li2, L ++ [((.slice ba 0 bc), u5, ([] : List TRec).map rl)], by go_num, by omega, Nat.le_refl _, Hid.of (JE.out.sublist (List.Sublist.append_left (List.sublist_append_left _ _) _)), Hid.of ⟨by rw [List.length_append, List.length_singleton]; have := LL.out.1; have := N10.out; omega, fun y hy => ?_⟩, LI2⟩
                      rw [List.mem_append] at hy
                      rcases hy with hy | hy
                      · exact LL.out.2 y hy
                      · rw [List.mem_singleton.1 hy]
                        show (([] : List TRec).map rl).length ≤ _
                        rw [List.length_map]
                        have := LTB.out
                        omega
            · go_wp2_with fail
              refine (viewAlive_any S _ P.out.ok).mono ?_
              rintro e w7 ⟨rfl, b7⟩
              have J7 := Hid.of (J.out.next b7)
              clear b7 J P
              go_wp2_with fail
              refine (Apart_IR q (q + 1) Vi Wi li Vr Wr lr [] 44 w5 _ (by have := LI.out.1; omega) LI.out.2 (by have := LR.out.1; omega) LR.out.2 (J7.out.perm (by rw [List.append_nil]; exact List.perm_append_comm))).mono ?_
              rintro e w8 ⟨rfl, b8⟩
              go_wp2
              go_ret
              exact ⟨rfl, B5.out.trans (b8.mono (by have h := HQ.out; have := B5.out.size; omega))⟩

end Go.Proofs.YtdchjcidfaencaaGreat
