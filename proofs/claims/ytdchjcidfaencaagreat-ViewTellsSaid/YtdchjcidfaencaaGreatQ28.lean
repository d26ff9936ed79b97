/-
  A bundle of texts: VLA VLB.
-/
import Derived.Shelf.SlSortCmp.KitK
import Derived.Test.YtdchjcidfaencaaGreatQ17
import Derived.Test.YtdchjcidfaencaaGreatQ25
import Derived.Test.YtdchjcidfaencaaGreatQ21
import Derived.Test.YtdchjcidfaencaaGreatQ07
import Derived.Test.YtdchjcidfaencaaGreatQ14
namespace Go.Proofs.YtdchjcidfaencaaGreat
open Go.RowKit Go.Lib Go.Sort

theorem i64_bounds {n : Int} (h : (Lit.int .i64 n).wf = true) : -9223372036854775808 ≤ n ∧ n ≤ 9223372036854775807 := by
  have h1 : IntKind.i64.min ≤ n ∧ n ≤ IntKind.i64.max := by simpa [Lit.wf] using h
  exact h1

theorem keyLits_pair {P : Program} {k f0 f1 : TypeId} {fs : Array Field} (hk : P.underlying k = some (.struct fs)) (hn : fs.all (fun f => f.name != "_") = true) (hf : fs.toList.map (fun f => (f.type, f.offset)) = [(f0, 0), (f1, 1)]) (hc : P.cellsOf k = 2) (c0 : P.cellsOf f0 = 1) (c1 : P.cellsOf f1 = 1)
    (h0 : P.underlying f0 = some .string) (h1 : P.underlying f1 = some (.int .i64)) (d : Nat) (cs : List Value) :
    (∀ L, P.keyLits (d + 2) k cs = some L → ∃ x : TKey, cs = [.string x.1, .int .i64 x.2] ∧ PkOk x) ∧ ∀ x : TKey, PkOk x → (P.keyLits (d + 2) k [.string x.1, .int .i64 x.2]).isSome = true := by
  obtain ⟨fl⟩ := fs
  rcases fl with _ | ⟨a, _ | ⟨b, _ | ⟨c, fl⟩⟩⟩
  · cases hf
  · simp at hf
  rotate_left
  · simp at hf
  · simp only [List.map_cons, List.map_nil, List.cons.injEq, Prod.mk.injEq, and_true] at hf
    obtain ⟨⟨a1, a2⟩, b1, b2⟩ := hf
    constructor
    · intro L h
      rw [Program.keyLits.eq_def] at h
      simp only [hk] at h
      split at h
      · rename_i hl
        rw [hc] at hl
        match cs, hl.1 with
        | [u, v], _ =>
          simp only [Option.map_eq_some_iff] at h
          obtain ⟨al, ha, _⟩ := h
          simp only [List.mapM_cons, List.mapM_nil, a1, a2, b1, b2, c0, c1, List.drop_zero, List.drop_succ_cons, List.take_succ_cons, List.take_zero] at ha
          cases hu : P.keyLits (d + 1) f0 [u] with
          | none => rw [hu] at ha; cases ha
          | some A =>
            cases hv : P.keyLits (d + 1) f1 [v] with
            | none => rw [hu, hv] at ha; cases ha
            | some B =>
              rw [Program.keyLits.eq_def] at hu hv
              simp only [h0] at hu
              simp only [h1] at hv
              cases u <;> simp only at hu <;> try (cases hu; done)
              cases v <;> simp only at hv <;> try (cases hv; done)
              split at hu
              · rename_i e1
                split at hv
                · rename_i e2
                  obtain ⟨rfl, e2⟩ := e2
                  exact ⟨(_, _), rfl, e1, i64_bounds e2⟩
                · cases hv
              · cases hu
      · cases h
    · rintro ⟨s, n⟩ ⟨hs, hn'⟩
      have hw : (Lit.int .i64 n).wf = true := WalkArith.wf_i64 hn'
      have hs' : s.size ≤ maxLen := hs
      rw [Program.keyLits.eq_def]
      simp only [hk]
      rw [if_pos ⟨by rw [hc]; rfl, hn⟩]
      simp only [List.mapM_cons, List.mapM_nil, a1, a2, b1, b2, c0, c1, List.drop_zero, List.drop_succ_cons, List.take_succ_cons, List.take_zero]
      rw [Program.keyLits.eq_def, Program.keyLits.eq_def]
      simp only [h0, h1]
      rw [if_pos hs', if_pos ⟨trivial, hw⟩]
      rfl

theorem view_laidOut : laidOutB Tryz.prog = true := by kernel_rfl
theorem bucket_row : (82 : TypeId) < Tryz.prog.types.size := of_decide_eq_true (by kernel_rfl)
theorem bucket_deep : Tryz.prog.keyTypeAt 2 82 = true := by kernel_rfl
theorem bucket_wide : (match Tryz.prog.underlying 82 with | some (.array _ _) | some (.struct _) => true | _ => false) = true := by kernel_rfl
theorem bucket_type : Tryz.prog.keyType 82 = true := by kernel_rfl
theorem bucket_cells : Tryz.prog.cellsOf 82 = 2 := by kernel_rfl

set_option maxRecDepth 20000 in
theorem bucket_fields : ∃ fs, Tryz.prog.underlying 82 = some (.struct fs) ∧ fs.all (fun f => f.name != "_") = true ∧ fs.toList.map (fun f => (f.type, f.offset)) = [(9, 0), (3, 1)] := ⟨_, Tryz.underlying82, by kernel_rfl, by kernel_rfl⟩

set_option maxRecDepth 100000 in
theorem bucketKey : PairKey Tryz.prog 82 := by
  obtain ⟨fs, hu, hn, hf⟩ := bucket_fields
  obtain ⟨d, hd⟩ : ∃ d, Tryz.prog.types.size + 1 = d + 2 := ⟨Tryz.prog.types.size - 1, by have : 1 ≤ Tryz.prog.types.size := of_decide_eq_true (by kernel_rfl); omega⟩
  have kt := bucket_type
  have c2 := bucket_cells
  have hp := keyLits_pair hu hn hf c2 (by kernel_rfl) (by kernel_rfl) Tryz.underlying9 Tryz.underlying3 d
  refine ⟨Maps.Keyed.of_law (deep_law_laid view_laidOut (m := 2) (by omega) bucket_row bucket_deep bucket_wide), fun {x} hx => ?_, fun {v l} h => ?_⟩
  · have h := (hp []).2 x hx
    unfold keyOf
    simp only [hu]
    have hf' : (pkv x).formed Tryz.prog 82 = true := by
      simp only [Value.formed, hu, c2]
      rfl
    rw [kt, hf', hd]
    obtain ⟨L, hL⟩ := Option.isSome_iff_exists.1 h
    have hL' : Tryz.prog.keyLits (d + 2) 82 (pkv x).cells.toList = some L := hL
    rw [hL']
    exact ⟨_, rfl⟩
  · obtain ⟨xs, L, rfl, hL, -⟩ := keyOf_top bucket_wide h
    rw [hd] at hL
    obtain ⟨x, hx, ok⟩ := (hp xs.toList).1 L hL
    exact ⟨x, by rw [show xs = #[.string x.1, .int .i64 x.2] from Array.ext' hx], ok⟩

/-- A record's cells. -/
def tenc (x : TRec) : List Value := renc (rl x)
theorem tenc_len (x : TRec) : (tenc x).length = 7 := rfl
theorem tenc_one (x : TRec) : ∀ u ∈ tenc x, u.oneCell' = true := renc_one (rl x)
instance : Inhabited TRec := ⟨⟨⟨#[]⟩, 0, agZero⟩⟩

abbrev olt (x y : TRec) : Bool := ltOf ocf x y
theorem olt_iff (x y : TRec) : olt x y = true ↔ kLt x.k y.k := by
  unfold olt ltOf
  rw [decide_eq_true_eq, ocf_neg]
theorem olt_no (x y : TRec) : olt x y = false ↔ ¬ kLt x.k y.k := by
  rw [← Bool.not_eq_true, olt_iff]
theorem olt_swo : SWO olt := ⟨fun x => (olt_no x x).2 (kLt_irrefl _), fun x y z h k => (olt_iff x z).2 (kLt_trans ((olt_iff x y).1 h) ((olt_iff y z).1 k)), fun x y z h k => (olt_no x z).2 (fun c => by
  have h1 := (olt_no x y).1 h
  have h2 := (olt_no y z).1 k
  by_cases e : x.k = y.k
  · rw [e] at c; exact h2 c
  · rcases kLt_total e with d | d
    · exact h1 d
    · exact h2 (kLt_trans d c))⟩

/-- A record by value. -/
abbrev tnv (x : TRec) : Value := nrv ⟨x.n, x.s, x.a.c, x.a.hi, x.a.lo, x.a.mn, x.a.mx⟩
theorem nLess_k (x y : TRec) : nLess ⟨x.n, x.s, x.a.c, x.a.hi, x.a.lo, x.a.mn, x.a.mx⟩ ⟨y.n, y.s, y.a.c, y.a.hi, y.a.lo, y.a.mn, y.a.mx⟩ = kLtB x.k y.k := rfl

set_option maxRecDepth 20000 in
set_option maxHeartbeats 800000 in
theorem lessG_any (a b : NRec) (w : World) :
    Calls Tryz.prog 108 #[nrv a, nrv b] w fun e w' => e = .returned (.bool (nLess a b)) ∧ ∃ q os, w' = grow (w.drewN q) os := by
  obtain ⟨x, h1⟩ : ∃ x, Op.bytesLess a.n.toList b.n.toList = x := ⟨_, rfl⟩
  obtain ⟨y, h2⟩ : ∃ y, (a.n.toList == b.n.toList) = y := ⟨_, rfl⟩
  obtain ⟨z, h3⟩ : ∃ z, decide (a.t < b.t) = z := ⟨_, rfl⟩
  have h4 : x = true → y = false := by
    rintro rfl
    cases y with
    | false => rfl
    | true =>
      rw [beq_iff_eq] at h2
      rw [h2, less_irrefl] at h1
      cases h1
  rw [nLess_parts h1 h2 h3]
  obtain ⟨an, at_, ac, ahi, alo, amn, amx⟩ := a
  obtain ⟨bn, bt, bc, bhi, blo, bmn, bmx⟩ := b
  simp only at h1 h2 h3
  cases x <;> cases y <;> cases z
  all_goals first
    | (cases (h4 rfl); done)
    | (clear h4
       go_enter Tryz.func108, Tryz.ntmps108
       go_wp2
       go_ret
       exact ⟨rfl, 0, _, by rw [alloc_eq_grow, alloc_eq_grow, grow_grow]; rfl⟩)

end Go.Proofs.YtdchjcidfaencaaGreat

namespace Go.Proofs.YtdchjcidfaencaaGreat
open Go.RowKit Go.Lib

/-- The variables of place: the reach, the sample, the answer's bucket. -/
structure VP (w : World) (z : Nat) (now : Int) (n : ByteArray) (s f : Value) (sn : ByteArray) (st sx : Int) : Prop where
  k1 : w.heap[z]? = some (.cells #[.int .i64 now, .string n, s, f] 46 (0, 0))
  k2 : w.heap[z + 1]? = some (.cells #[.string sn, .int .i64 st, .int .i64 sx] 76 (0, 0))
  k3 : w.heap[z + 2]? = some (.cells #[.string ⟨#[]⟩, .int .i64 0] 82 (0, 0))

section
variable {w w' : World} {z : Nat} {now : Int} {n : ByteArray} {s f : Value} {sn : ByteArray} {st sx : Int}
theorem VP.next (h : VP w z now n s f sn st sx) (b : Below w.heap.size w w') : VP w' z now n s f sn st sx :=
  ⟨(b.block _ (Array.getElem?_eq_some_iff.1 h.k1).1).trans h.k1, (b.block _ (Array.getElem?_eq_some_iff.1 h.k2).1).trans h.k2, (b.block _ (Array.getElem?_eq_some_iff.1 h.k3).1).trans h.k3⟩
theorem VP.at1 (h : VP w z now n s f sn st sx) : w.cell? ⟨z, 0, none⟩ = some (.int .i64 now) ∧ w.cell? ⟨z, 1, none⟩ = some (.string n) ∧ w.cell? ⟨z, 2, none⟩ = some s ∧ w.cell? ⟨z, 3, none⟩ = some f := by
  refine ⟨?_, ?_, ?_, ?_⟩ <;> (rw [cell_of_row w z _ _ _ _ h.k1]; rfl)
theorem VP.at2 (h : VP w z now n s f sn st sx) : w.cell? ⟨z + 1, 0, none⟩ = some (.string sn) ∧ w.cell? ⟨z + 1, 1, none⟩ = some (.int .i64 st) ∧ w.cell? ⟨z + 1, 2, none⟩ = some (.int .i64 sx) := by
  refine ⟨?_, ?_, ?_⟩ <;> (rw [cell_of_row w (z + 1) _ _ _ _ h.k2]; rfl)
theorem VP.at3 (h : VP w z now n s f sn st sx) : w.cell? ⟨z + 2, 0, none⟩ = some (.string ⟨#[]⟩) ∧ w.cell? ⟨z + 2, 1, none⟩ = some (.int .i64 0) ∧ w.frozen? ⟨z + 2, 0, none⟩ = false ∧ w.frozen? ⟨z + 2, 1, none⟩ = false := by
  refine ⟨?_, ?_, row_frozen h.k3, row_frozen h.k3⟩ <;> (rw [cell_of_row w (z + 2) _ _ _ _ h.k3]; rfl)
/-- The answer is stored. -/
theorem VP.set (h : VP w z now n s f sn st sx) (a : ByteArray) (b : Int) : ((w.setCell ⟨z + 2, 0, none⟩ (.string a)).setCell ⟨z + 2, 1, none⟩ (.int .i64 b)).cell? ⟨z + 2, 0, none⟩ = some (.string a) ∧ ((w.setCell ⟨z + 2, 0, none⟩ (.string a)).setCell ⟨z + 2, 1, none⟩ (.int .i64 b)).cell? ⟨z + 2, 1, none⟩ = some (.int .i64 b) := by
  have z7 := row_set (i := 1) (row_set (i := 0) h.k3 (.string a)) (.int .i64 b)
  refine ⟨?_, ?_⟩ <;> (rw [cell_of_row _ _ _ _ _ _ z7]; simp)
theorem set2_below {B p : Nat} {w0 w : World} (h : Below B w0 w) (hp : B ≤ p) (u v : Value) : Below B w0 ((w.setCell ⟨p, 0, none⟩ u).setCell ⟨p, 1, none⟩ v) :=
  (h.setCell (p := ⟨p, 0, none⟩) hp u).setCell (p := ⟨p, 1, none⟩) hp v
end

set_option maxRecDepth 20000 in
set_option maxHeartbeats 3200000 in
theorem vplace_any (S : ReachSpec) (rv : Value) (r : RchL) (i : Int) (sn : ByteArray) (st sx : Int) (w : World) (hS : S.Ok w) (fit : RFit r) (hr : RchRow w rv r) (hi : In64 i) (hn : sn.size ≤ maxLen) (ht : In64 st) :
    Calls Tryz.prog 25 #[rv, .int .i64 i, .agg #[.string sn, .int .i64 st, .int .i64 sx]] w fun e w' => ∃ k : TKey, e = .returned (.tuple #[pkv k, .bool (vHas r i (sn, st, sx))]) ∧ (vHas r i (sn, st, sx) = true → k = (sn, (rStart r i st).1)) ∧ Below w.heap.size w w' := by
  have hr0 := hr
  obtain ⟨s, f, rfl, -⟩ := hr
  unfold rVal at hr0 ⊢
  obtain ⟨now, hnow⟩ : ∃ x, r.1 = x := ⟨_, rfl⟩
  obtain ⟨n, hnn⟩ : ∃ x, r.2.1.1 = x := ⟨_, rfl⟩
  rw [hnow, hnn] at hr0 ⊢
  obtain ⟨z, hz⟩ : ∃ z, w.heap.size = z := ⟨_, rfl⟩
  obtain ⟨w1, hw1⟩ : ∃ w1, ((w.alloc (.cells #[.int .i64 now, .string n, s, f] 46)).alloc (.cells #[.string sn, .int .i64 st, .int .i64 sx] 76)).alloc (.cells #[.string ⟨#[]⟩, .int .i64 0] 82) = w1 := ⟨_, rfl⟩
  have b1 : Below w.heap.size w w1 := by rw [← hw1]; exact (((Below.refl _ _).alloc (Nat.le_refl _) _).alloc (by simp) _).alloc (by simp; omega) _
  have p1 : VP w1 z now n s f sn st sx := by
    rw [← hw1, ← hz]
    refine ⟨Go.heap_alloc_old _ _ (by simp; omega) |>.trans ((Go.heap_alloc_old _ _ (by simp)).trans (Go.heap_alloc_new _ _)), ?_, ?_⟩
    · have h := Go.heap_alloc_new (w.alloc (.cells #[.int .i64 now, .string n, s, f] 46)) (.cells #[.string sn, .int .i64 st, .int .i64 sx] 76 (0, 0))
      rw [show (w.alloc (.cells #[.int .i64 now, .string n, s, f] 46)).heap.size = w.heap.size + 1 by simp] at h
      exact (Go.heap_alloc_old _ _ (by simp)).trans h
    · have h := Go.heap_alloc_new ((w.alloc (.cells #[.int .i64 now, .string n, s, f] 46)).alloc (.cells #[.string sn, .int .i64 st, .int .i64 sx] 76)) (.cells #[.string ⟨#[]⟩, .int .i64 0] 82 (0, 0))
      rw [show ((w.alloc (.cells #[.int .i64 now, .string n, s, f] 46)).alloc (.cells #[.string sn, .int .i64 st, .int .i64 sx] 76)).heap.size = w.heap.size + 2 by simp] at h
      exact h
  have hst := S.start _ r i st w1 (S.kept hS b1) fit hi ht (hr0.kept b1)
  obtain ⟨a, ha⟩ : ∃ a, (rStart r i st).1 = a := ⟨_, rfl⟩
  obtain ⟨b, hb⟩ : ∃ b, (rStart r i st).2 = b := ⟨_, rfl⟩
  obtain ⟨m, hm⟩ : ∃ m, nOk sn = m := ⟨_, rfl⟩
  have hv : vHas r i (sn, st, sx) = (b && m) := by unfold vHas; rw [hb, hm]
  rw [ha, hb] at hst
  rw [hv, ha]
  have HW := Hid.of hw1
  have HZ := Hid.of hz
  have P1 := Hid.of p1
  have B1 := Hid.of b1
  have HN := Hid.of hn
  have HM := Hid.of hm
  clear hw1 hz p1 b1 hn hS fit hr0 hi ht ha hb hm hv hnow hnn
  obtain ⟨c0, c1, c2, c3⟩ := P1.out.at1
  obtain ⟨d0, d1, d2⟩ := P1.out.at2
  go_enter Tryz.func25, Tryz.ntmps25
  go_upto_region 1 with fail
  rw [HW.out, HZ.out]
  clear HW
  go_wp2_with fail
  refine hst.mono ?_
  rintro e w2 ⟨rfl, b2⟩
  have P2 := Hid.of (P1.out.next b2)
  have B2 := Hid.of (B1.out.trans (b2.mono B1.out.size))
  clear b2 hst P1 B1 c0 c1 c2 c3 d0 d1 d2
  have hzz : w.heap.size ≤ z + 2 := by have := HZ.out; omega
  cases b
  · obtain ⟨e0, e1, f0, f1⟩ := P2.out.at3
    obtain ⟨q0, q1⟩ := P2.out.set ⟨#[]⟩ 0
    go_wp2
    refine bodyPost_ret (v := .tuple #[pkv (⟨#[]⟩, 0), .bool false]) ?_ rfl ⟨_, rfl, (fun h => by cases h), set2_below B2.out hzz _ _⟩
    simp [results, Tryz.results25, go_sem, q0, q1]
  · obtain ⟨d0, d1, d2⟩ := P2.out.at2
    obtain ⟨w3, hw3⟩ : ∃ w3, w2.alloc (.cells #[.string sn] 9) = w3 := ⟨_, rfl⟩
    have b3 : Below w2.heap.size w2 w3 := by rw [← hw3]; exact (Below.refl _ _).alloc (Nat.le_refl _) _
    obtain ⟨g, hg⟩ : ∃ g, w2.heap.size = g := ⟨_, rfl⟩
    have hrow : CellRow w3 (.slice (some ⟨g, 0, none⟩) 1 1) [sn].length ([sn].map Value.string) := by
      rw [← hw3, ← hg]
      exact ⟨_, _, rfl, .inr ⟨_, 0, rfl, by simp, one_cell w2 _ _⟩⟩
    have hval := valid_any _ [sn] w3 hrow (by simp) (fun s hs => by rw [List.mem_singleton.1 hs]; exact HN.out)
    rw [show ([sn].all nOk) = m by simp [HM.out]] at hval
    have HW3 := Hid.of hw3
    have HG := Hid.of hg
    have P3 := Hid.of (P2.out.next b3)
    have B3 := Hid.of (B2.out.trans (b3.mono B2.out.size))
    clear hw3 b3 hg hrow P2 B2
    go_wp2_with fail
    rw [HW3.out, HG.out]
    clear HW3
    refine hval.mono ?_
    rintro e w4 ⟨rfl, q, rfl⟩
    have P4 := Hid.of (P3.out.next (below_drewN (Below.refl _ _) q))
    have B4 := Hid.of (below_drewN B3.out q)
    clear P3 B3 d0 d1 d2 hval
    generalize w3.drewN q = w4 at *
    obtain ⟨d0, d1, d2⟩ := P4.out.at2
    obtain ⟨e0, e1, f0, f1⟩ := P4.out.at3
    cases m
    · obtain ⟨q0, q1⟩ := P4.out.set ⟨#[]⟩ 0
      go_wp2
      refine bodyPost_ret (v := .tuple #[pkv (⟨#[]⟩, 0), .bool false]) ?_ rfl ⟨_, rfl, (fun h => by cases h), set2_below B4.out hzz _ _⟩
      simp [results, Tryz.results25, go_sem, q0, q1]
    · obtain ⟨q0, q1⟩ := P4.out.set sn a
      go_wp2
      refine bodyPost_ret (v := .tuple #[pkv (sn, a), .bool true]) ?_ rfl ⟨_, rfl, fun _ => rfl, set2_below B4.out hzz _ _⟩
      simp [results, Tryz.results25, go_sem, q0, q1]

end Go.Proofs.YtdchjcidfaencaaGreat
