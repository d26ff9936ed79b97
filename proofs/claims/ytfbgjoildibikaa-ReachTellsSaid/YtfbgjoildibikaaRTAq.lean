/-
  What ReachTells walks with: a Book of ints and tiers, floors that are lent, variables as rows of one's own.
-/
import Derived.Test.YtfbgjoildibikaaPCJq
import Derived.Test.YtfbgjoildibikaaKXIPq
import Derived.Test.YtfbgjoildibikaaRRTq
namespace Go.Proofs.Ytfbgjoildibikaa
open Go.RowKit Go.Lib

set_option maxHeartbeats 400000 in
theorem LentInts_own (v : Value) (ss : List Int) (w : World) (hc : CellRow w v ss.length (ss.map (Value.int .i64))) (hn : ss.length ≤ 1000000) :
    Calls Try.prog 11 #[v] w fun e w' => ∃ g cap, e = .returned (.slice (some ⟨g, 0, none⟩) ss.length cap) ∧ w'.ownsRow w.heap.size 3 1 (.slice (some ⟨g, 0, none⟩) (ss.length + 1) cap) (ss.length + 1) (ss.map (Value.int .i64) ++ [.int .i64 (-77)]) ∧ Below w.heap.size w w' := by
  have HC := Hid.of hc
  obtain ⟨sa, c, rfl, _⟩ := hc
  obtain ⟨i0, hi, hz0, hz1, hz2⟩ := info_parts (show (Try.prog.info? 3).map (fun i => (i.zero, i.size, i.bytes)) = some (some (.int .i64 0), 1, 8) by kernel_rfl)
  have HI := Hid.of hi
  have HZ0 := Hid.of hz0
  have HZ1 := Hid.of hz1
  have HZ2 := Hid.of hz2
  clear hi hz0 hz1 hz2
  go_enter Try.func11, Try.ntmps11
  go_wp2_with (first | (at_builtin; refine append_row_law rfl _ (.tmp 3) 25 rfl w.heap.size 3 i0 (.int .i64 0) 1 8 Try.underlying25 HI.out HZ0.out HZ1.out HZ2.out rfl (by decide) (.slice none 0 0) 0 [] rfl ⟨rfl, .inl ⟨rfl, rfl⟩⟩ _ ss.length _ rfl HC.out (by simp) (ints_one ss) (by unfold maxLen; omega) (by omega) (Nat.le_refl _) ?_; intro v1 w1 o1 g1; have O1 : Hid (w1.ownsRow w.heap.size 3 1 v1 ss.length (ss.map (Value.int .i64))) := Hid.of (by simpa using o1); have b1 : Below w.heap.size w w1 := below_of_none g1; clear o1 g1) | (at_builtin; refine append_row_law rfl (.tmp 4) (.tmp 5) 25 rfl w.heap.size 3 i0 (.int .i64 0) 1 8 Try.underlying25 HI.out HZ0.out HZ1.out HZ2.out rfl (by decide) v1 ss.length _ rfl (O1.out.alloc _) (.slice (some ⟨w1.heap.size, 0, none⟩) 1 1) 1 [.int .i64 (-77)] rfl ⟨_, _, rfl, .inr ⟨_, 0, rfl, by simp, mark_ints w1⟩⟩ rfl (by simp [Value.oneCell']) (by unfold maxLen; omega) (by omega) (by simp; have := b1.size; omega) ?_; intro v2 w2 o2 g2; have o3 := o2; obtain ⟨hl2, h2⟩ := o2; obtain ⟨g, cap, cur, rfl, hB, hrow, hcap, hmax, hcs, htk⟩ := h2.resolve_left (by simp)))
  go_ret
  exact ⟨g, cap, rfl, o3, (b1.alloc b1.size _).grown g2 (by have := b1.size; simp; omega) (fun k hk => own_ge O1.out hk)⟩

/-- A variable of a struct type, as a row of one's own. -/
theorem cells_own (w : World) (cs : Array Value) (T : TypeId) (k : Nat) (hk : cs.size = k) : (w.alloc (.cells cs T)).ownsRow w.heap.size T k (.slice (some ⟨w.heap.size, 0, none⟩) 1 1) 1 cs.toList :=
  ⟨by rw [Array.length_toList, hk, Nat.one_mul], .inr ⟨w.heap.size, 1, cs, rfl, Nat.le_refl _, Go.heap_alloc_new _ _, Nat.le_refl _, by unfold maxLen; omega, by rw [hk, Nat.one_mul], by rw [List.take_of_length_le (by rw [Array.length_toList, hk, Nat.one_mul]; exact Nat.le_refl _)]⟩⟩

theorem cells_blk {w : World} {D b k : Nat} {cs : Array Value} {T : TypeId} (h : w.ownsRow D T k (.slice (some ⟨b, 0, none⟩) 1 1) 1 cs.toList) : w.heap[b]? = some (.cells cs T (0, 0)) := by
  rcases h.2 with ⟨h1, _⟩ | ⟨g, cap, cur, hv, hb, hg, hnc, hcm, hcs, htk⟩
  · cases h1
  · cases hv
    have e : cur.toList = cs.toList := by
      rw [← htk, List.take_of_length_le (by rw [Array.length_toList, hcs]; exact Nat.le_refl _)]
    have e2 : cur = cs := Array.ext' e
    rw [e2] at hg
    exact hg

/-- Lent ints, out of the row of one's own that they lie in. -/
theorem lent_ints_of {w : World} {D g cap M : Nat} {xs : List Value} (h : w.ownsRow D 3 1 (.slice (some ⟨g, 0, none⟩) (M + 1) cap) (M + 1) (xs ++ [.int .i64 (-77)])) : LentRow w D (.slice (some ⟨g, 0, none⟩) M cap) M xs [.int .i64 (-77)] := by
  rcases h.2 with ⟨h1, _⟩ | ⟨g', cap', cur, hv, hB, hrow, hcap, hmax, hcs, htk⟩
  · cases h1
  · cases hv
    refine ⟨g, cap, rfl, hB, (Array.getElem?_eq_some_iff.1 hrow).1, hcap, hmax, fun j u hj => ?_⟩
    rw [Nat.zero_add, cell_of_row w g j _ _ _ hrow]
    rw [← htk] at hj
    rw [List.getElem?_take] at hj
    split at hj
    · simpa using hj
    · cases hj

section
variable {p D : Nat} {cs : Array Value} {T : TypeId} {w0 w w' : World} {rs : List Row1}

/-- Two rows of one's own more, that lie apart. -/
theorem Here.more2 {e e2 : TypeId} {s s2 : Nat} {v v2 : Value} {n n2 : Nat} {xs xs2 : List Value} (h : Here p D cs T w0 w rs []) (b : Below w.heap.size w w') (o : w'.ownsRow w.heap.size e s v n xs) (o2 : w'.ownsRow w.heap.size e2 s2 v2 n2 xs2) (ap : Apart v v2) :
    Here p D cs T w0 w' (⟨e, s, v, n, xs⟩ :: ⟨e2, s2, v2, n2, xs2⟩ :: rs) [] := by
  have h2 := h.more b o2
  refine ⟨h2.hp, h2.hD, h2.blk, h2.fr, ?_⟩
  refine ⟨fun r hr => ?_, List.pairwise_cons.2 ⟨fun r hr => ?_, h2.bag.apart⟩, h2.bag.seen, fun q hq => absurd hq List.not_mem_nil⟩
  · rcases List.mem_cons.1 hr with rfl | hr
    · exact own_mono o h.hD
    · exact h2.bag.own r hr
  · rcases List.mem_cons.1 hr with rfl | hr
    · exact ap
    · intro g hg hg'
      have h3 := (o.lt g hg).1
      have h4 := ((h.bag.own r hr).lt g hg').2
      omega

/-- A row that is nil yet. -/
theorem Here.nil (e : TypeId) (h : Here p D cs T w0 w rs []) : Here p D cs T w0 w (⟨e, 1, .slice none 0 0, 0, []⟩ :: rs) [] :=
  ⟨h.hp, h.hD, h.blk, h.fr, ⟨fun r hr => by
    rcases List.mem_cons.1 hr with rfl | hr
    · exact World.ownsRow_nil w _ _ 1
    · exact h.bag.own r hr, List.pairwise_cons.2 ⟨fun x _ g hg => (by cases hg), h.bag.apart⟩, h.bag.seen, fun q hq => absurd hq List.not_mem_nil⟩⟩

/-- The first row has grown. -/
theorem Here.grow {r : Row1} {v' : Value} {n' : Nat} {xs' : List Value} (h : Here p D cs T w0 w (r :: rs) []) (hg : w.grownBy w' r.v.ownBlock) (ho : w'.ownsRow D r.e r.s v' n' xs') (hw : v'.ownBlock = r.v.ownBlock ∨ ∃ g, v'.ownBlock = some g ∧ w.heap.size ≤ g) :
    Here p D cs T w0 w' (⟨r.e, r.s, v', n', xs'⟩ :: rs) [] := by
  have own := h.bag.own r (List.mem_cons_self ..)
  have hp := h.hp
  have hD := h.hD
  refine ⟨hp, Nat.le_trans hD hg.size, ?_, h.fr.grown hg (by omega) (fun x hx => by have := (own.lt x hx).1; omega), h.bag.grow hg ho hw⟩
  rw [hg.block p (by omega) (fun e => by have := (own.lt p e.symm).1; omega)]
  exact h.blk
end

/-- Rows: variables, lent lists, lists. -/
abbrev xRow (b : Nat) (now : Int) (n : ByteArray) (s f : Value) : Row1 := ⟨42, 4, .slice (some ⟨b, 0, none⟩) 1 1, 1, [.int .i64 now, .string n, s, f]⟩
abbrev rRow (b : Nat) (now : Int) (n : ByteArray) (s f : Value) : Row1 := ⟨46, 4, .slice (some ⟨b, 0, none⟩) 1 1, 1, [.int .i64 now, .string n, s, f]⟩
abbrev qRow (b : Nat) (n : ByteArray) (s : Value) : Row1 := ⟨24, 2, .slice (some ⟨b, 0, none⟩) 1 1, 1, [.string n, s]⟩
abbrev mRow (g cap : Nat) (xs : List Int) : Row1 := ⟨3, 1, .slice (some ⟨g, 0, none⟩) (xs.length + 1) cap, xs.length + 1, xs.map (Value.int .i64) ++ [.int .i64 (-77)]⟩
abbrev tRow (g cap : Nat) (l : List TierL) : Row1 := ⟨63, 4, .slice (some ⟨g, 0, none⟩) (l.length + 1) cap, l.length + 1, flat penc (l ++ [tMark])⟩
abbrev iRow (v : Value) (xs : List Int) : Row1 := ⟨3, 1, v, xs.length, xs.map (Value.int .i64)⟩
abbrev pRow (v : Value) (l : List TierL) : Row1 := ⟨63, 4, v, l.length, flat penc l⟩

/-- A list that the Book keeps, as it is. -/
theorem iblk_has {p D : Nat} {cs : Array Value} {T : TypeId} {w0 w : World} {V W : Value} {ls : List (Value × Value × List Int)} {rows qs : List Row1} (h : Here p D cs T w0 w rows qs) (hs : ∀ r ∈ iblk V W ls, r ∈ rows) (y : Value × Value × List Int) (hy : y ∈ ls) : CellRow w y.1 y.2.2.length (y.2.2.map (Value.int .i64)) := by
  have m1 : itodo (ikept y) ∈ rows := by
    refine hs _ (List.mem_cons_of_mem _ (List.mem_append_left _ ?_))
    rw [irows_zero, List.map_map]
    exact List.mem_map.2 ⟨y, hy, rfl⟩
  have o1 := own_row (h.bag.own _ m1)
  simp only [itodo, ikept, List.length_map] at o1
  exact o1

theorem pblk_has {p D : Nat} {cs : Array Value} {T : TypeId} {w0 w : World} {V W : Value} {ls : List (Value × Value × List TierL)} {rows qs : List Row1} (h : Here p D cs T w0 w rows qs) (hs : ∀ r ∈ pblk V W ls, r ∈ rows) (y : Value × Value × List TierL) (hy : y ∈ ls) : CellRow w y.1 y.2.2.length (flat penc y.2.2) := by
  have m1 : ptodo (pkept y) ∈ rows := by
    refine hs _ (List.mem_cons_of_mem _ (List.mem_append_left _ ?_))
    rw [prows_zero, List.map_map]
    exact List.mem_map.2 ⟨y, hy, rfl⟩
  have o1 := own_row (h.bag.own _ m1)
  simp only [ptodo, pkept] at o1
  exact o1

/-- An answered Reach, out of its rows. -/
theorem rch_of {q D : Nat} {cs : Array Value} {T : TypeId} {w0 u : World} {rows qs : List Row1} {now : Int} {n : ByteArray} {s f : Value} {p : PolL} {fl : List Int} (h : Here q D cs T w0 u rows qs) (hn : p.1 = n) (h1 : pRow s p.2 ∈ rows) (h2 : iRow f fl ∈ rows) (hc : CapOk s ∧ CapOk f) : RchRow u (.agg #[.int .i64 now, .string n, s, f]) (now, p, fl) :=
  ⟨s, f, by rw [← hn]; rfl, own_row (h.bag.own _ h1), own_row (h.bag.own _ h2), hc⟩

/-- How far back the first i tiers reach. -/
def rUp (r : RchL) (i : Nat) : List Int := (List.range i).map (rFromN r)

theorem rUp_succ (r : RchL) (i : Nat) : rUp r (i + 1) = rUp r i ++ [rFromN r i] := by
  unfold rUp
  rw [List.range_succ, List.map_append]
  rfl

theorem rUp_len (r : RchL) (i : Nat) : (rUp r i).length = i := by
  unfold rUp
  rw [List.length_map, List.length_range]

theorem rUp_all {now : Int} {p : PolL} {fl : List Int} {N : Nat} (h : p.2.length = N) : rAll (now, p, fl) = rUp (now, p, fl) N := by
  unfold rAll rUp
  rw [show ((now, p, fl) : RchL).2.1.2.length = N from h]

/-- What came in, in variables at B and behind it. -/
structure PT (S : ReachSpec) (B : Nat) (n sn : ByteArray) (st sx : Int) (sl gv : Value) (p : PolL) (fl : List Int) (u : World) : Prop where
  k2 : PBlk u B n sl
  ks : u.heap[B + 1]? = some (.cells #[.string sn, .int .i64 st, .int .i64 sx] 27 (0, 0))
  r2 : PolRow u (polVal n sl) p
  hf : CellRow u gv fl.length (fl.map (Value.int .i64))
  ok : S.Ok u

section
variable {S : ReachSpec} {B bx bq br by_ bl D bp N : Nat} {n sn : ByteArray} {st sx now m : Int} {sl gv lq s1 f1 s2 f2 mv lv av : Value} {p : PolL} {fl : List Int} {u u' w0 : World} {cs : Array Value} {rows : List Row1}

theorem PT.to (h : PT S B n sn st sx sl gv p fl u) (b : Below u.heap.size u u') : PT S B n sn st sx sl gv p fl u' :=
  ⟨h.k2.kept b, by rw [b.block _ (Array.getElem?_eq_some_iff.1 h.ks).1]; exact h.ks, h.r2.kept b, h.hf.kept b, S.kept h.ok b⟩

theorem PT.hs (h : PT S B n sn st sx sl gv p fl u) : CellRow u sl p.2.length (flat penc p.2) := by
  obtain ⟨s, hs, hr, -⟩ := h.r2
  unfold polVal at hs
  simp only [Value.agg.injEq] at hs
  cases hs
  exact hr

theorem PT.sat (h : PT S B n sn st sx sl gv p fl u) : u.cell? ⟨B + 1, 0, none⟩ = some (.string sn) ∧ u.cell? ⟨B + 1, 1, none⟩ = some (.int .i64 st) ∧ u.cell? ⟨B + 1, 2, none⟩ = some (.int .i64 sx) := by
  refine ⟨?_, ?_, ?_⟩ <;> (rw [cell_of_row u (B + 1) _ _ _ _ h.ks]; rfl)

/-- The document's own Reach, in a variable. -/
abbrev XBlk (u : World) (b : Nat) (now : Int) (n : ByteArray) (s f : Value) : Prop := u.heap[b]? = some (.cells #[.int .i64 now, .string n, s, f] 42 (0, 0))

theorem XBlk.at {u : World} {b : Nat} {now : Int} {n : ByteArray} {s f : Value} (h : XBlk u b now n s f) : u.cell? ⟨b, 0, none⟩ = some (.int .i64 now) ∧ u.cell? ⟨b, 1, none⟩ = some (.string n) ∧ u.cell? ⟨b, 2, none⟩ = some s ∧ u.cell? ⟨b, 3, none⟩ = some f := by
  refine ⟨?_, ?_, ?_, ?_⟩ <;> (rw [cell_of_row u b _ _ _ _ h]; rfl)

theorem RBlk.at' {u : World} {b : Nat} {now : Int} {n : ByteArray} {s f : Value} (h : u.heap[b]? = some (.cells #[.int .i64 now, .string n, s, f] 46 (0, 0))) : u.cell? ⟨b, 0, none⟩ = some (.int .i64 now) ∧ u.cell? ⟨b, 1, none⟩ = some (.string n) ∧ u.cell? ⟨b, 2, none⟩ = some s ∧ u.cell? ⟨b, 3, none⟩ = some f := by
  refine ⟨?_, ?_, ?_, ?_⟩ <;> (rw [cell_of_row u b _ _ _ _ h]; rfl)

/-- Behind the Book: all that a round has made. -/
structure TZ (S : ReachSpec) (B bx bq br D bp : Nat) (n sn : ByteArray) (st sx now : Int) (sl gv lq s1 f1 mv lv av : Value) (p : PolL) (fl : List Int) (cs : Array Value) (rows : List Row1) (w0 u : World) : Prop where
  pt : PT S B n sn st sx sl gv p fl u
  kx : XBlk u bx now n sl gv
  kq : PBlk u bq n lq
  rq : LentRow u D lq p.2.length (flat penc p.2) (penc tMark)
  rm : LentRow u D mv fl.length (fl.map (Value.int .i64)) [.int .i64 (-77)]
  kr : u.heap[br]? = some (.cells #[.int .i64 now, .string n, s1, f1] 46 (0, 0))
  rr : RchRow u (.agg #[.int .i64 now, .string n, s1, f1]) (now, p, fl)
  ha : CellRow u av p.2.length ((rAll (now, p, fl)).map (Value.int .i64))
  hl : CellRow u lv p.2.length ((rAll (now, p, fl)).map (Value.int .i64))
  bk : Here bp D cs 40 w0 u rows []

theorem TZ.next (h : TZ S B bx bq br D bp n sn st sx now sl gv lq s1 f1 mv lv av p fl cs rows w0 u) (b : Below u.heap.size u u') : TZ S B bx bq br D bp n sn st sx now sl gv lq s1 f1 mv lv av p fl cs rows w0 u' :=
  ⟨h.pt.to b, by show _ = _; rw [b.block _ (Array.getElem?_eq_some_iff.1 h.kx).1]; exact h.kx, h.kq.kept b, h.rq.kept b, h.rm.kept b, by rw [b.block _ (Array.getElem?_eq_some_iff.1 h.kr).1]; exact h.kr, h.rr.kept b, h.ha.kept b, h.hl.kept b, h.bk.next b⟩

/-- And the later ones. -/
structure TY (S : ReachSpec) (B bx bq br by_ bl D bp : Nat) (n sn : ByteArray) (st sx now m : Int) (sl gv lq s1 f1 s2 f2 mv lv av : Value) (p : PolL) (fl : List Int) (cs : Array Value) (rows : List Row1) (w0 u : World) : Prop where
  z : TZ S B bx bq br D bp n sn st sx now sl gv lq s1 f1 mv lv av p fl cs rows w0 u
  ky : XBlk u by_ m n sl gv
  kl : u.heap[bl]? = some (.cells #[.int .i64 m, .string n, s2, f2] 46 (0, 0))
  rl : RchRow u (.agg #[.int .i64 m, .string n, s2, f2]) (m, p, fl)

theorem TY.next (h : TY S B bx bq br by_ bl D bp n sn st sx now m sl gv lq s1 f1 s2 f2 mv lv av p fl cs rows w0 u) (b : Below u.heap.size u u') : TY S B bx bq br by_ bl D bp n sn st sx now m sl gv lq s1 f1 s2 f2 mv lv av p fl cs rows w0 u' :=
  ⟨h.z.next b, by show _ = _; rw [b.block _ (Array.getElem?_eq_some_iff.1 h.ky).1]; exact h.ky, by rw [b.block _ (Array.getElem?_eq_some_iff.1 h.kl).1]; exact h.kl, h.rl.kept b⟩

/-- What the last region loads: x, r, the sample, y, l. -/
theorem TY.at (h : TY S B bx bq br by_ bl D bp n sn st sx now m sl gv lq s1 f1 s2 f2 mv lv av p fl cs rows w0 u) :
    (u.cell? ⟨bx, 0, none⟩ = some (.int .i64 now) ∧ u.cell? ⟨bx, 1, none⟩ = some (.string n) ∧ u.cell? ⟨bx, 2, none⟩ = some sl ∧ u.cell? ⟨bx, 3, none⟩ = some gv) ∧
    (u.cell? ⟨br, 0, none⟩ = some (.int .i64 now) ∧ u.cell? ⟨br, 1, none⟩ = some (.string n) ∧ u.cell? ⟨br, 2, none⟩ = some s1 ∧ u.cell? ⟨br, 3, none⟩ = some f1) ∧
    (u.cell? ⟨B + 1, 0, none⟩ = some (.string sn) ∧ u.cell? ⟨B + 1, 1, none⟩ = some (.int .i64 st) ∧ u.cell? ⟨B + 1, 2, none⟩ = some (.int .i64 sx)) ∧
    (u.cell? ⟨by_, 0, none⟩ = some (.int .i64 m) ∧ u.cell? ⟨by_, 1, none⟩ = some (.string n) ∧ u.cell? ⟨by_, 2, none⟩ = some sl ∧ u.cell? ⟨by_, 3, none⟩ = some gv) ∧
    (u.cell? ⟨bl, 0, none⟩ = some (.int .i64 m) ∧ u.cell? ⟨bl, 1, none⟩ = some (.string n) ∧ u.cell? ⟨bl, 2, none⟩ = some s2 ∧ u.cell? ⟨bl, 3, none⟩ = some f2) :=
  ⟨h.z.kx.at, RBlk.at' h.z.kr, h.z.pt.sat, h.ky.at, RBlk.at' h.kl⟩
end

end Go.Proofs.Ytfbgjoildibikaa
