/-
  A bundle of texts: IEK HEC HED HEF HEG HEH.
-/
import Derived.Test.YtbhcafginmkaaaaGreatN41
import Derived.Test.YtbhcafginmkaaaaGreatN35
import Derived.Test.YtbhcafginmkaaaaGreatN46
import Derived.Test.YtbhcafginmkaaaaGreatN42
import Derived.Test.YtbhcafginmkaaaaGreatN47
import Derived.Test.YtbhcafginmkaaaaGreatN05
import Derived.Test.YtbhcafginmkaaaaGreatN40
import Derived.Test.YtbhcafginmkaaaaGreatN38
import Derived.Test.YtbhcafginmkaaaaGreatN43
namespace Go.Proofs.YtbhcafginmkaaaaGreat
open Go.RowKit Go.Lib

theorem tnil : TNil where
  all := fun _ => allRecs_no (.inl rfl)
  copy := fun w => copy_nil w

def tiers : TiersSpec tables where
  Ok := fun _ => True
  okKept := fun _ _ => trivial
  Rep := IRep tables
  lt := IRep.lt
  sub := IRep.sub
  kept := IRep.kept
  good := IRep.good
  fit := IRep.fit
  cells := IRep.cells
  new := fun v f p now fl w _ hv h60 h10 ht hn hf hfc hfl hx => inew_any v f p now fl w hv h60 h10 ht hn hf hfc hfl hx
  put := fun v ss _ h hl hu _ hlen hoff hs => iput_any v ss h hl hu hlen hoff hs
  load := fun i v rs _ h hl hv _ _ hf _ => iload_any i v rs h hl hv hf
  table := fun i _ h hl _ => itable_any tnil i h hl
  need := fun _ h hl => ineed_any h hl

end Go.Proofs.YtbhcafginmkaaaaGreat

namespace Go.Proofs.YtbhcafginmkaaaaGreat
open Go.RowKit Go.Lib

/-- A plan that may be. -/
structure HPl (pl : PlanL) : Prop where
  ck : (pCheck pl.1).1 = 0
  fit : MFit pl
  n60 : pl.1.1.size ≤ 60
  t60 : ∀ x ∈ pl.1.2, x.1.size ≤ 60

theorem HPl.five {pl : PlanL} (h : HPl pl) : 0 < pl.1.2.length ∧ pl.1.2.length ≤ 5 := ⟨(pCheck_ok h.ck).2.2.1, (pCheck_ok h.ck).2.2.2.1⟩
theorem HPl.ten {pl : PlanL} (h : HPl pl) : pl.1.2.length ≤ 10 := by have := h.five; omega

/-- Does a plan fit tiers, and may what it makes be? -/
def HFits (pl : PlanL) (r : RchL) (n : Nat) : Prop := MFits pl r n ∧ iNewE pl.1 r.1 (mBases pl r) = 0

def BuiltSays {TS : TableSpec} (S : TiersSpec TS) (pl : PlanL) (r : RchL) (TT : List (List TRec)) (w : World) (x : Ending) (w' : World) : Prop :=
  (HFits pl r TT.length → ∃ q F', x = .returned (tptr q) ∧ S.Rep w' q (mTo pl r) (mBuilt pl r TT) F' ∧ (∀ k, F'.all k → w.heap.size ≤ k)) ∧ (¬ HFits pl r TT.length → x = .returned (.pointer none)) ∧ Below w.heap.size w w'

theorem hBuilt_nil (w : World) (t : Value) : Calls Tryz.prog 192 #[.pointer none, t] w fun x w' => x = .returned (.pointer none) ∧ w' = w := by
  go_enter Tryz.func192, Tryz.ntmps192
  go_wp2
  go_ret
  exact ⟨rfl, rfl⟩

set_option maxRecDepth 20000 in
set_option maxHeartbeats 1600000 in
theorem hBuilt_any {TS : TableSpec} (S : TiersSpec TS) {w : World} {p : Nat} {pl : PlanL} {bd dn : Int} {T : List (List TRec)} {s f v : Value} {qs : List Nat} {Fs : List TFoot} (h : HIs TS w p pl bd dn T s f v qs Fs) (hp : HPl pl) {pt : Nat} {r : RchL} {TT : List (List TRec)} {F : TFoot} (hS : S.Ok w) (ht : S.Rep w pt r TT F) (hl : ∀ l ∈ TT, l.length ≤ 1000) (hT : ∀ l ∈ TT, ∀ z ∈ l, TFit z) :
    Calls Tryz.prog 192 #[tptr p, tptr pt] w fun x w' => BuiltSays S pl r TT w x w' := by
  have hb := build_any S _ pl hS h.plan hp.fit hp.n60 hp.ten hp.t60 ht hl hT
  obtain ⟨c0, c1, c2, -, -, -⟩ := h.c
  obtain ⟨sa, sc, rfl, -⟩ := own_one h.hs
  obtain ⟨fa, fc, rfl, -⟩ := own_one h.hf
  obtain ⟨N, hN⟩ : ∃ N, pl.1.2.length = N := ⟨_, rfl⟩
  obtain ⟨M, hM⟩ : ∃ M, pl.2.length = M := ⟨_, rfl⟩
  obtain ⟨n, hn⟩ : ∃ n, pl.1.1 = n := ⟨_, rfl⟩
  rw [hN] at c1
  rw [hM] at c2
  rw [hn] at c0
  rw [hN, hM, hn] at hb
  clear h hN hM hn
  go_enter Tryz.func192, Tryz.ntmps192
  go_wp2_with fail
  refine hb.mono ?_
  rintro x w' ⟨h1, h2, h3⟩
  by_cases hf : MFits pl r TT.length
  · obtain ⟨h4, h5⟩ := h1 hf
    by_cases he : iNewE pl.1 r.1 (mBases pl r) = 0
    · obtain ⟨q, F', rfl, hr, hk⟩ := h4 he
      have X : Hid (BuiltSays S pl r TT w (.returned (tptr q)) w') := Hid.of ⟨fun _ => ⟨q, F', rfl, hr, hk⟩, fun c => absurd ⟨hf, he⟩ c, h3⟩
      clear h1 h2 h3 h4 h5 hr hk hb
      go_wp2
      go_ret
      exact X.out
    · have e := h5 he
      subst e
      have X : Hid (BuiltSays S pl r TT w (.returned (.pointer none)) w') := Hid.of ⟨fun c => absurd c.2 he, fun _ => rfl, h3⟩
      clear h1 h2 h3 h4 h5 hb
      go_wp2
      go_ret
      exact X.out
  · have e := h2 hf
    subst e
    have X : Hid (BuiltSays S pl r TT w (.returned (.pointer none)) w') := Hid.of ⟨fun c => absurd c.1 hf, fun _ => rfl, h3⟩
    clear h1 h2 h3 hb
    go_wp2
    go_ret
    exact X.out

theorem hRecords_no (w : World) {tv : Value} {i : Int} (h : Calls Tryz.prog 195 #[tv, .int .i64 i] w fun e w' => e = .returned (.pointer none) ∧ w' = w) :
    Calls Tryz.prog 93 #[tv, .int .i64 i] w fun x w' => x = .returned (.slice none 0 0) ∧ Below w.heap.size w w' := by
  have hn := allRecs_no (w := w) (tv := .pointer none) (.inl rfl)
  go_enter Tryz.func93, Tryz.ntmps93
  go_wp2_with fail
  refine h.mono ?_
  rintro e w1 ⟨rfl, rfl⟩
  go_wp2_with fail
  refine hn.mono ?_
  rintro e w2 ⟨rfl, b⟩
  go_wp2
  go_ret
  exact ⟨rfl, b⟩

theorem hRecords_nil (w : World) (i : Int) : Calls Tryz.prog 93 #[.pointer none, .int .i64 i] w fun x w' => x = .returned (.slice none 0 0) ∧ Below w.heap.size w w' := hRecords_no w (hAt_nil w i)

theorem iTab_some {T : List (List TRec)} {i : Nat} {l : List TRec} (h : T[i]? = some l) : iTab T (i : Int) = l := by
  unfold iTab
  rw [if_neg (by omega), show ((i : Int).toNat) = i by omega, List.getD_eq_getElem?_getD, h]
  rfl
theorem iTab_none {T : List (List TRec)} {i : Int} (h : ¬ (0 ≤ i ∧ i.toNat < T.length)) : iTab T i = [] := by
  unfold iTab
  split
  · rfl
  · rw [List.getD_eq_getElem?_getD, List.getElem?_eq_none (by omega)]
    rfl

theorem hRecords_any {TS : TableSpec} {w : World} {p : Nat} {pl : PlanL} {bd dn : Int} {T : List (List TRec)} {s f v : Value} {qs : List Nat} {Fs : List TFoot} (h : HIs TS w p pl bd dn T s f v qs Fs) (hl : ∀ l ∈ T, l.length ≤ 1000) (i : Int) :
    Calls Tryz.prog 93 #[tptr p, .int .i64 i] w fun x w' => ∃ u, x = .returned u ∧ w'.ownsRow w.heap.size 102 7 u (iTab T i).length (flat renc ((iTab T i).map rl)) ∧ Below w.heap.size w w' := by
  by_cases hi : 0 ≤ i ∧ i.toNat < T.length
  · obtain ⟨j, rfl⟩ : ∃ j : Nat, i = (j : Int) := ⟨i.toNat, by omega⟩
    obtain ⟨l, hT⟩ : ∃ l, T[j]? = some l := ⟨_, List.getElem?_eq_getElem (by omega)⟩
    obtain ⟨q, F, hq, hF, hr⟩ := h.at_i hT
    have hat := hAt_any h hq
    have hall := TS.all hr (hl l (List.mem_of_getElem? hT))
    rw [iTab_some hT]
    clear h hl hi hT hq hF hr
    go_enter Tryz.func93, Tryz.ntmps93
    go_wp2_with fail
    refine hat.mono ?_
    rintro e w1 ⟨rfl, rfl⟩
    go_wp2_with fail
    refine hall.mono ?_
    rintro e w2 ⟨u, rfl, o, b⟩
    go_wp2
    go_ret
    exact ⟨u, rfl, o, b⟩
  · refine (hRecords_no w (hAt_no h hi)).mono ?_
    rintro e w' ⟨rfl, b⟩
    rw [iTab_none hi]
    exact ⟨_, rfl, World.ownsRow_nil _ _ _ _, b⟩

theorem getD_le {T : List (List TRec)} {i m : Nat} (hl : ∀ l ∈ T, l.length ≤ m) : (T.getD i []).length ≤ m := by
  rw [List.getD_eq_getElem?_getD]
  cases c : T[i]? with
  | none => simp
  | some x => exact hl x (List.mem_of_getElem? c)
end Go.Proofs.YtbhcafginmkaaaaGreat

namespace Go.Proofs.YtbhcafginmkaaaaGreat
open Go.RowKit Go.Lib

/-- A shadow under way, beside tiers that were built, and cells that neither writes. -/
structure HSt {TS : TableSpec} (S : TiersSpec TS) (F0 : TFoot) (w0 : World) (p : Nat) (pl : PlanL) (bd dn : Int) (T : List (List TRec)) (s f v : Value) (qs : List Nat) (Fs : List TFoot) (q : Nat) (r : RchL) (B : List (List TRec)) (F : TFoot) (L : List (Addr × Value)) (w : World) : Prop where
  h : HIs TS w p pl bd dn T s f v qs Fs
  st : TStep F0 (hFoot p s f v Fs) w0 w
  b : S.Rep w q r B F
  ab : ∀ k, F.all k → ¬ (hFoot p s f v Fs).own k
  cs : Cs w L
  ll : ∀ x ∈ L, ¬ (hFoot p s f v Fs).own x.1.block

section
variable {TS : TableSpec} {S : TiersSpec TS} {F0 : TFoot} {w0 w w' : World} {p : Nat} {pl : PlanL} {bd dn : Int} {T T' : List (List TRec)} {s f v v' : Value} {qs qs' : List Nat} {Fs Fs' : List TFoot} {q : Nat} {r : RchL} {B : List (List TRec)} {F : TFoot} {L : List (Addr × Value)}

theorem HSt.next (h : HSt S F0 w0 p pl bd dn T s f v qs Fs q r B F L w) (b : Below w.heap.size w w') : HSt S F0 w0 p pl bd dn T s f v qs Fs q r B F L w' :=
  ⟨h.h.below b, h.st.trans (TStep.of_below b), S.kept h.b b.size (fun k hk => b.block k (S.lt h.b k hk)), h.ab, h.cs.next b, h.ll⟩

theorem HSt.turn {dn' : Int} (h : HSt S F0 w0 p pl bd dn T s f v qs Fs q r B F L w) (h' : HIs TS w' p pl bd dn' T' s f v' qs' Fs') (st : TStep (hFoot p s f v Fs) (hFoot p s f v' Fs') w w') : HSt S F0 w0 p pl bd dn' T' s f v' qs' Fs' q r B F L w' := by
  refine ⟨h', h.st.trans st, S.kept h.b st.own.size (fun k hk => st.own.block k (S.lt h.b k hk) (h.ab k hk)), fun k hk c => ?_, fun x hx => ?_, fun x hx c => ?_⟩
  · rcases st.own.foot k c with e | e
    · exact h.ab k hk e
    · have := S.lt h.b k hk
      omega
  · have h1 := h.cs x hx
    exact ⟨Nat.lt_of_lt_of_le h1.1 st.own.size, (World.cell?_of_block (a := x.1) (st.own.block _ h1.1 (h.ll x hx))).trans h1.2⟩
  · rcases st.own.foot _ c with e | e
    · exact h.ll x hx e
    · have := (h.cs x hx).1
      omega
end

theorem hSh_at {pl : PlanL} {j : Nat} {t : TierL} (h : pl.1.2[j]? = some t) : hSh pl j = t.2.2.2 := by unfold hSh; rw [h]

theorem set_set_at {α : Type} (T : List α) (j : Nat) (a b : α) : (T.set j a).set j b = T.set j b := by rw [List.set_set]

theorem modify_at {α : Type} {T : List α} {j : Nat} {l : α} (g : α → α) (h : T[j]? = some l) : T.modify j g = T.set j (g l) := by
  refine List.ext_getElem? fun i => ?_
  have hj := (List.getElem?_eq_some_iff.1 h).1
  rw [List.getElem?_modify]
  by_cases c : j = i
  · subst c
    rw [h, List.getElem?_set_self hj]
    simp
  · rw [List.getElem?_set_ne c]
    simp [c]

set_option maxRecDepth 20000 in
set_option maxHeartbeats 6400000 in
theorem hFill_any {TS : TableSpec} (S : TiersSpec TS) (hOk : ∀ w, S.Ok w) {w : World} {p : Nat} {pl : PlanL} {bd dn : Int} {T : List (List TRec)} {s f v : Value} {qs : List Nat} {Fs : List TFoot} (h : HIs TS w p pl bd dn T s f v qs Fs) (hp : HPl pl) {q : Nat} {r : RchL} {B : List (List TRec)} {F : TFoot} (hb : S.Rep w q (mTo pl r) B F) (hab : ∀ k, F.all k → ¬ (hFoot p s f v Fs).own k) {j : Nat} {t : TierL} (ht : pl.1.2[j]? = some t) (kd sh : Int) (hsh : In64 sh) (hlt : ∀ l ∈ T, l.length ≤ 1000) (hlb : ∀ l ∈ B, l.length ≤ 1000) (hlen : (T.getD j []).length + (B.getD j []).length ≤ 1000) :
    Calls Tryz.prog 256 #[tptr p, .agg #[.int .i64 kd, .int .i64 j, .int .i64 sh], tptr q] w fun x w' => x = .returned (.tuple #[]) ∧ ∃ v' qs' Fs', HIs TS w' p pl bd dn (hFill pl T B j sh) s f v' qs' Fs' ∧ TStep (hFoot p s f v Fs) (hFoot p s f v' Fs') w w' := by
  have HOK := Hid.of hOk
  have HP := Hid.of hp
  have HT := Hid.of ht
  have HSH := Hid.of hsh
  have HLT := Hid.of hlt
  have HLB := Hid.of hlb
  have HLN := Hid.of hlen
  have hBL : j < B.length := by rw [(S.good hb).len]; exact (List.getElem?_eq_some_iff.1 ht).1
  have HBL := Hid.of hBL
  have HGB := Hid.of (S.good hb)
  obtain ⟨y, hy⟩ : ∃ y, w.heap.size = y := ⟨_, rfl⟩
  obtain ⟨w1, hw1⟩ : ∃ w1, w.alloc (.cells #[.int .i64 kd, .int .i64 j, .int .i64 sh] 59) = w1 := ⟨_, rfl⟩
  have b1 : Below w.heap.size w w1 := by rw [← hw1]; exact (Below.refl _ _).alloc (Nat.le_refl _) _
  have k1 : w1.heap[y]? = some (.cells #[.int .i64 kd, .int .i64 j, .int .i64 sh] 59 (0, 0)) := by rw [← hw1, ← hy]; exact (MapKept.heap_alloc w _).1
  have ly : y < w1.heap.size := (Array.getElem?_eq_some_iff.1 k1).1
  have X1 : Hid (HSt S (hFoot p s f v Fs) w p pl bd dn T s f v qs Fs q (mTo pl r) B F [(⟨y, 1, none⟩, .int .i64 j), (⟨y, 2, none⟩, .int .i64 sh)] w1) := Hid.of
    ⟨h.below b1, TStep.of_below b1, S.kept hb b1.size (fun k hk => b1.block k (S.lt hb k hk)), hab, .cons ly (by rw [cell_of_row _ _ _ _ _ _ k1]; rfl) (.cons ly (by rw [cell_of_row _ _ _ _ _ _ k1]; rfl) (.nil _)), fun x hx c => by
      have h1 : x.1.block = y := by
        simp only [List.mem_cons, List.not_mem_nil, or_false] at hx
        rcases hx with rfl | rfl <;> rfl
      rw [h1] at c
      have := h.lt (h.sub c)
      omega⟩
  obtain ⟨t0, ev, t2, sd⟩ := t
  have HSD : Hid (hSh pl j = sd) := Hid.of (by rw [hSh_at ht])
  have HSB : Hid (TIn64 sd) := Hid.of (by have := (hp.fit.1.2.2 _ (List.mem_of_getElem? ht)).2.2.2; unfold In64 at this; exact this)
  have hrow := own_row h.hs
  obtain ⟨sa, sc, rfl, -⟩ := own_one h.hs
  obtain ⟨N, hN⟩ : ∃ N, pl.1.2.length = N := ⟨_, rfl⟩
  obtain ⟨sb, so, rfl, gb, d0, d1, d2, d3⟩ := p_at hrow j _ ht
  simp only at d3
  have HN := Hid.of hN
  rw [hN] at X1
  have CS1 : Hid (Cs w1 [(⟨p, 1, none⟩, .slice (some ⟨sb, so, none⟩) N sc), (⟨y, 1, none⟩, .int .i64 j), (⟨sb, so + j * 4 + 3, none⟩, .int .i64 sd)]) := Hid.of
    (.cons X1.out.h.lt_p X1.out.h.c.2.1 (.cons ly X1.out.cs.head (.cons (Nat.lt_of_lt_of_le gb b1.size) ((World.cell?_of_block (a := ⟨sb, so + j * 4 + 3, none⟩) (b1.block _ gb)).trans d3) (.nil _))))
  have hj : j < N := by rw [← hN]; exact (List.getElem?_eq_some_iff.1 ht).1
  have j0 : (0 : Int) ≤ (j : Int) := Int.natCast_nonneg _
  have j3 : (j : Int) < (N : Int) := by omega
  have hn10 : N ≤ 10 := by rw [← hN]; exact hp.ten
  have j10 : (j : Int) ≤ 10 := by omega
  have HJ := Hid.of hj
  have HW := Hid.of hw1
  have HY := Hid.of hy
  clear h hp hb hab ht hsh hlt hlb hlen hBL hw1 hy b1 k1 ly d0 d1 d2 d3 gb hrow hN hj hn10
  rw [HN.out]
  go_enter Tryz.func256, Tryz.ntmps256
  go_upto_region 1 with fail
  rw [HW.out, HY.out]
  clear HW HY
  have d0 := (CS1.out).head
  have d1 := ((CS1.out).tail).head
  have d2 := (((CS1.out).tail).tail).head
  refine wp_region_noPanic ?_
  refine wp_region_held_drew (S := fun w' => w'.cell? ⟨p, 1, none⟩ = some (.slice (some ⟨sb, so, none⟩) N sc) ∧ w'.cell? ⟨y, 1, none⟩ = some (.int .i64 j) ∧ w'.cell? ⟨sb, so + j * 4 + 3, none⟩ = some (.int .i64 sd)) (by kernel_rfl) ?_ (fun hHeld => ?_)
  · exact ⟨d0, d1, d2⟩
  refine takeOp 0 (o := ⟨_, _, _, _, _, _⟩) (v := ?_) rfl (by kernel_rfl) (by rfl) hHeld ?_ ?_; rotate_left; (next => intro w' hSw; (try dsimp only at hSw); go_simp; all_goals with_reducible rfl); simp only [Act.put, pA9, pB9, pC9]
  refine takeOp 1 (o := ⟨_, _, _, _, _, _⟩) (v := ?_) rfl (by kernel_rfl) (by rfl) hHeld ?_ ?_; rotate_left; (next => intro w' hSw; (try dsimp only at hSw); go_simp; all_goals with_reducible rfl); simp only [Act.put, pA9, pB9, pC9]
  refine takeOp 2 (o := ⟨_, _, _, _, _, _⟩) (v := ?_) rfl (by kernel_rfl) (by rfl) hHeld ?_ ?_; rotate_left; (next => intro w' hSw; (try dsimp only at hSw); go_simp; all_goals with_reducible rfl); simp only [Act.put, pA9, pB9, pC9]
  refine takeOp 3 (o := ⟨_, _, _, _, _, _⟩) (v := ?_) rfl (by kernel_rfl) (by rfl) hHeld ?_ ?_; rotate_left; (next => intro w' hSw; (try dsimp only at hSw); go_simp; all_goals with_reducible rfl); simp only [Act.put, pA9, pB9, pC9]
  refine takeOp 4 (o := ⟨_, _, _, _, _, _⟩) (v := ?_) rfl (by kernel_rfl) (by rfl) hHeld ?_ ?_; rotate_left; (next => intro w' hSw; (try dsimp only at hSw); go_simp; all_goals with_reducible rfl); simp only [Act.put, pA9, pB9, pC9]
  refine takeOp 5 (o := ⟨_, _, _, _, _, _⟩) (v := ?_) rfl (by kernel_rfl) (by rfl) hHeld ?_ ?_; rotate_left; (next => intro w' hSw; (try dsimp only at hSw); go_simp; all_goals with_reducible rfl); simp only [Act.put, pA9, pB9, pC9]
  refine takeOp 6 (o := ⟨_, _, _, _, _, _⟩) (v := ?_) rfl (by kernel_rfl) (by rfl) hHeld ?_ ?_; rotate_left; (next => intro w' hSw; (try dsimp only at hSw); go_simp; all_goals with_reducible rfl); simp only [Act.put, pA9, pB9, pC9]
  refine takeOp 7 (o := ⟨_, _, _, _, _, _⟩) (v := ?_) rfl (by kernel_rfl) (by rfl) hHeld ?_ ?_; rotate_left; (next => intro w' hSw; (try dsimp only at hSw); go_simp; all_goals with_reducible rfl); simp only [Act.put, pA9, pB9, pC9]
  refine takeOp 8 (o := ⟨_, _, _, _, _, _⟩) (v := ?_) rfl (by kernel_rfl) (by rfl) hHeld ?_ ?_; rotate_left; (next => intro w' hSw; (try dsimp only at hSw); go_simp; all_goals with_reducible rfl); simp only [Act.put, pA9, pB9, pC9]
  refine takeOp 9 (o := ⟨_, _, _, _, _, _⟩) (v := ?_) rfl (by kernel_rfl) (by rfl) hHeld ?_ ?_; rotate_left; (next => intro w' hSw; (try dsimp only at hSw); go_simp; all_goals with_reducible rfl); simp only [Act.put, pA9, pB9, pC9]
  refine takeOp 10 (o := ⟨_, _, _, _, _, _⟩) (v := ?_) rfl (by kernel_rfl) (by rfl) hHeld ?_ ?_; rotate_left; (next => intro w' hSw; (try dsimp only at hSw); go_simp; all_goals with_reducible rfl); simp only [Act.put, pA9, pB9, pC9]
  refine takeOp 11 (o := ⟨_, _, _, _, _, _⟩) (v := ?_) rfl (by kernel_rfl) (by rfl) hHeld ?_ ?_; rotate_left; (next => intro w' hSw; (try dsimp only at hSw); go_simp; all_goals with_reducible rfl); simp only [Act.put, pA9, pB9, pC9]
  refine wpAnyH_done (by kernel_rfl) ?_ _
  refine NoPanic.normal ?_
  clear hHeld d0 d1 d2 CS1
  have X2 := Hid.of (X1.out.next (Below.refl _ _).drew)
  clear X1
  obtain ⟨c0, c1⟩ : w1.drew.cell? ⟨y, 1, none⟩ = some (.int .i64 j) ∧ w1.drew.cell? ⟨y, 2, none⟩ = some (.int .i64 sh) := ⟨X2.out.cs.head, X2.out.cs.tail.head⟩
  go_wp2_with fail
  refine (hOpen_any X2.out.h HP.out.ck HP.out.ten (by rw [HN.out]; exact HJ.out)).mono ?_
  rintro e w3 ⟨v3, qs3, Fs3, q3, rfl, hq3, h3, st3⟩
  have X3 := Hid.of (X2.out.turn h3 st3)
  have HQ3 := Hid.of hq3
  clear X2 c0 c1 hq3 h3 st3
  obtain ⟨l, hl⟩ : ∃ l, (hOpen T (j + 1))[j]? = some l := ⟨_, List.getElem?_eq_getElem (by rw [hOpen_len]; omega)⟩
  have HLL : Hid (T.getD j [] = l) := Hid.of (by rw [← hOpen_get T (j + 1) j, List.getD_eq_getElem?_getD, hl]; rfl)
  obtain ⟨q4, G, hq4, hG, hrep⟩ := X3.out.h.at_i hl
  obtain rfl : q3 = q4 := Option.some.inj (HQ3.out.symm.trans hq4)
  have HL := Hid.of hl
  have HG := Hid.of hG
  have hl1 : l.length ≤ 1000 := by rw [← HLL.out]; exact getD_le HLT.out
  have hclr := TS.clear_ sh sd hrep hl1 (by have := HSH.out; unfold In64 at this; exact this) HSB.out
  clear hl hq4 hG hl1 hrep
  obtain ⟨c0, c1⟩ : w3.cell? ⟨y, 1, none⟩ = some (.int .i64 j) ∧ w3.cell? ⟨y, 2, none⟩ = some (.int .i64 sh) := ⟨X3.out.cs.head, X3.out.cs.tail.head⟩
  go_wp2_with fail
  refine hclr.mono ?_
  rintro e w4 ⟨rfl, G4, rep4, st4⟩
  obtain ⟨h4, s4⟩ := X3.out.h.step HQ3.out HL.out HG.out rep4 st4
  have X4 := Hid.of (X3.out.turn h4 s4)
  have HT4 : Hid (((hOpen T (j + 1)).set j (tRest l sh sd))[j]? = some (tRest l sh sd)) := Hid.of (List.getElem?_set_self (List.getElem?_eq_some_iff.1 HL.out).1)
  have HG4 : Hid ((Fs3.set j G4)[j]? = some G4) := Hid.of (List.getElem?_set_self (List.getElem?_eq_some_iff.1 HG.out).1)
  have CS4 := Hid.of X4.out.cs
  clear hclr rep4 st4 h4 s4 X3 c0 c1
  go_upto_region 4 with fail
  have b5 : Below w4.heap.size w4 w4.drew := (Below.refl _ _).drew
  have X5 := Hid.of (X4.out.next b5)
  have CS5 := Hid.of X5.out.cs
  clear b5
  have d0 := (CS4.out).head
  have d1 := ((CS4.out).tail).head
  refine wp_region_noPanic ?_
  refine wp_region_held_drew (S := fun w' => w'.cell? ⟨y, 1, none⟩ = some (.int .i64 j) ∧ w'.cell? ⟨y, 2, none⟩ = some (.int .i64 sh)) (by kernel_rfl) ?_ (fun hHeld => ?_)
  · exact ⟨d0, d1⟩
  refine takeOp 0 (o := ⟨_, _, _, _, _, _⟩) (v := ?_) rfl (by kernel_rfl) (by rfl) hHeld ?_ ?_; rotate_left; (next => intro w' hSw; (try dsimp only at hSw); go_simp; all_goals with_reducible rfl); simp only [Act.put, pA9, pB9, pC9]
  refine takeOp 1 (o := ⟨_, _, _, _, _, _⟩) (v := ?_) rfl (by kernel_rfl) (by rfl) hHeld ?_ ?_; rotate_left; (next => intro w' hSw; (try dsimp only at hSw); go_simp; all_goals with_reducible rfl); simp only [Act.put, pA9, pB9, pC9]
  refine takeOp 2 (o := ⟨_, _, _, _, _, _⟩) (v := ?_) rfl (by kernel_rfl) (by rfl) hHeld ?_ ?_; rotate_left; (next => intro w' hSw; (try dsimp only at hSw); go_simp; all_goals with_reducible rfl); simp only [Act.put, pA9, pB9, pC9]
  refine takeOp 3 (o := ⟨_, _, _, _, _, _⟩) (v := ?_) rfl (by kernel_rfl) (by rfl) hHeld ?_ ?_; rotate_left; (next => intro w' hSw; (try dsimp only at hSw); go_simp; all_goals with_reducible rfl); simp only [Act.put, pA9, pB9, pC9]
  refine takeOp 5 (o := ⟨_, _, _, _, _, _⟩) (v := ?_) rfl (by kernel_rfl) (by rfl) hHeld ?_ ?_; rotate_left; (next => intro w' hSw; (try dsimp only at hSw); go_simp; all_goals with_reducible rfl); simp only [Act.put, pA9, pB9, pC9]
  refine takeOp 6 (o := ⟨_, _, _, _, _, _⟩) (v := ?_) rfl (by kernel_rfl) (by rfl) hHeld ?_ ?_; rotate_left; (next => intro w' hSw; (try dsimp only at hSw); go_simp; all_goals with_reducible rfl); simp only [Act.put, pA9, pB9, pC9]
  refine takeOp 7 (o := ⟨_, _, _, _, _, _⟩) (v := ?_) rfl (by kernel_rfl) (by rfl) hHeld ?_ ?_; rotate_left; (next => intro w' hSw; (try dsimp only at hSw); go_simp; all_goals with_reducible rfl); simp only [Act.put, pA9, pB9, pC9]
  refine wpAnyH_ready (rs := [4]) (by kernel_rfl) (by simp) ?_
  refine AllReadyH.cons (o := ⟨_, _, _, _, _, _⟩) rfl (fun K hK => ?_) AllReadyH.nil
  clear X4 CS4
  go_simp
  refine (S.table (j : Int) (HOK.out _) X5.out.b HLB.out (by unfold In64; omega)).mono ?_
  rintro e w6 ⟨x1, -, b6⟩
  obtain ⟨q6, G6, rfl, r6, f6⟩ := x1 ⟨j0, by rw [show ((j : Int).toNat) = j by omega]; exact HBL.out⟩
  rw [show ((j : Int).toNat) = j by omega] at r6
  have X6 := Hid.of (X5.out.next b6)
  have R6 := Hid.of r6
  have CS6 := Hid.of X6.out.cs
  clear X5 CS5 x1 b6 r6 f6
  clear hHeld d0 d1
  have d0 := (CS6.out).head
  have d1 := ((CS6.out).tail).head
  refine hK.out _ _ ⟨d0, d1⟩ (fun hHeld => ?_)
  clear hK K
  try simp only [Act.put, pA9, pB9, pC9]
  refine wpAnyH_ready (rs := [8]) (by kernel_rfl) (by simp) ?_
  refine AllReadyH.cons (o := ⟨_, _, _, _, _, _⟩) rfl (fun K hK => ?_) AllReadyH.nil
  go_simp
  refine (TS.shard sh sd R6.out (getD_le HLB.out) (by have := HSH.out; unfold In64 at this; exact this) HSB.out).mono ?_
  rintro e w7 ⟨u7, rfl, o7, b7⟩
  have X7 := Hid.of (X6.out.next b7)
  have O7 := Hid.of o7
  have HX6 : Hid (∀ k, (hFoot p (.slice (some ⟨sb, so, none⟩) N sc) f v3 (Fs3.set j G4)).all k → k < w6.heap.size) := Hid.of (fun k hk => X6.out.h.lt hk)
  have CS7 := Hid.of X7.out.cs
  clear X6 CS6 b7 o7 R6
  clear hHeld d0 d1
  have d0 := (CS7.out).head
  have d1 := ((CS7.out).tail).head
  refine hK.out _ _ ⟨d0, d1⟩ (fun hHeld => ?_)
  clear hK K
  try simp only [Act.put, pA9, pB9, pC9]
  refine wpAnyH_ready (rs := [9]) (by kernel_rfl) (by simp) ?_
  refine AllReadyH.cons (o := ⟨_, _, _, _, _, _⟩) rfl (fun K hK => ?_) AllReadyH.nil
  go_simp
  have hrep := X7.out.h.rep j q3 _ G4 HQ3.out HT4.out HG4.out
  refine (TS.add u7 (tShard (B.getD j []) sh sd) hrep (by
    have h1 : (tRest l sh sd).length ≤ l.length := List.length_filter_le ..
    have h2 : (tShard (B.getD j []) sh sd).length ≤ (B.getD j []).length := List.length_filter_le ..
    have h3 := HLN.out
    rw [HLL.out] at h3
    omega) (own_row O7.out) (fun _ g hg c => by
    have h1 := own_ge O7.out hg
    have h2 := HX6.out g (X7.out.h.sub (.inr (.inr ⟨G4, List.mem_of_getElem? HG4.out, c⟩)))
    omega) (fun x hx => by
    obtain ⟨h1, -⟩ := List.mem_filter.1 hx
    obtain ⟨z, hz⟩ : ∃ z, B[j]? = some z := ⟨_, List.getElem?_eq_getElem HBL.out⟩
    rw [List.getD_eq_getElem?_getD, hz] at h1
    exact HGB.out.fit j z hz x h1)).mono ?_
  rintro e w8 ⟨rfl, G8, rep8, st8⟩
  obtain ⟨h8, s8⟩ := X7.out.h.step HQ3.out HT4.out HG4.out rep8 st8
  have X8 := Hid.of (X7.out.turn h8 s8)
  have CS8 := Hid.of X8.out.cs
  clear hrep rep8 st8 h8 s8 X7 CS7 O7
  clear hHeld d0 d1
  have d0 := (CS8.out).head
  have d1 := ((CS8.out).tail).head
  refine hK.out _ _ ⟨d0, d1⟩ (fun hHeld => ?_)
  clear hK K
  try simp only [Act.put, pA9, pB9, pC9]
  refine wpAnyH_done (by kernel_rfl) ?_ _
  refine NoPanic.normal ?_
  clear hHeld d0 d1 CS8
  have XT : Hid (((hOpen T (j + 1)).set j (tRest l sh sd)).set j (tAdds (tEv (sR pl) j) (tRest l sh sd) (tShard (B.getD j []) sh sd)) = hFill pl T B j sh) := Hid.of (by rw [set_set_at]; unfold hFill; rw [modify_at _ HL.out, HSD.out])
  have X9 := X8.out
  rw [XT.out] at X9
  have X9 := Hid.of X9
  clear X8
  go_wp2
  go_end0
  exact ⟨rfl, _, _, _, X9.out.h, X9.out.st⟩

end Go.Proofs.YtbhcafginmkaaaaGreat

namespace Go.Proofs.YtbhcafginmkaaaaGreat
open Go.RowKit Go.Lib

abbrev stVal (kd tr sh : Int) : Value := .agg #[.int .i64 kd, .int .i64 tr, .int .i64 sh]

/-- A step's variable beside a shadow and tiers. -/
theorem st_boxed {w : World} (kd tr sh : Int) : ∃ y w1, w.heap.size = y ∧ w.alloc (.cells #[.int .i64 kd, .int .i64 tr, .int .i64 sh] 59) = w1 ∧ Below w.heap.size w w1 ∧ SBlk w1 y kd tr sh := by
  refine ⟨_, _, rfl, rfl, (Below.refl _ _).alloc (Nat.le_refl _) _, ?_⟩
  exact (MapKept.heap_alloc w _).1

section
variable {TS : TableSpec} (S : TiersSpec TS) {w : World} {p : Nat} {pl : PlanL} {bd dn : Int} {T : List (List TRec)} {s f v : Value} {qs : List Nat} {Fs : List TFoot} {q : Nat} {r : RchL} {B : List (List TRec)} {F : TFoot}

set_option maxRecDepth 20000 in
set_option maxHeartbeats 1600000 in
theorem hDo_fill (hOk : ∀ w, S.Ok w) (h : HIs TS w p pl bd dn T s f v qs Fs) (hp : HPl pl) (hb : S.Rep w q (mTo pl r) B F) (hab : ∀ k, F.all k → ¬ (hFoot p s f v Fs).own k) {j : Nat} {t : TierL} (ht : pl.1.2[j]? = some t) (sh : Int) (hsh : In64 sh) (hlt : ∀ l ∈ T, l.length ≤ 1000) (hlb : ∀ l ∈ B, l.length ≤ 1000) (hlen : (T.getD j []).length + (B.getD j []).length ≤ 1000) :
    Calls Tryz.prog 188 #[tptr p, stVal 1 j sh, tptr q] w fun x w' => x = .returned (.tuple #[.pointer none, .int .i64 0]) ∧ ∃ v' qs' Fs', HIs TS w' p pl bd dn (hFill pl T B j sh) s f v' qs' Fs' ∧ TStep (hFoot p s f v Fs) (hFoot p s f v' Fs') w w' := by
  obtain ⟨y, w1, hy, hw1, b1, k1⟩ := st_boxed (w := w) 1 j sh
  have hfl := hFill_any S hOk (h.below b1) hp (S.kept hb b1.size (fun k hk => b1.block k (S.lt hb k hk))) hab ht 1 sh hsh hlt hlb hlen
  have ST := Hid.of (TStep.of_below (F := hFoot p s f v Fs) b1)
  obtain ⟨c0, c1, c2⟩ := sblk_at k1
  have HW := Hid.of hw1
  have HY := Hid.of hy
  clear h hp hb hab ht hsh hlt hlb hlen b1 k1 hw1 hy
  go_enter Tryz.func188, Tryz.ntmps188
  go_upto_region 1 with fail
  rw [HW.out, HY.out]
  clear HW HY
  go_wp2_with fail
  refine hfl.mono ?_
  rintro e w2 ⟨rfl, v2, qs2, Fs2, h2, s2⟩
  have H2 := Hid.of h2
  have S2 := Hid.of (ST.out.trans s2)
  clear hfl h2 s2 c0 c1 c2
  go_wp2
  go_ret2
  exact ⟨rfl, _, _, _, H2.out, S2.out⟩

end

end Go.Proofs.YtbhcafginmkaaaaGreat

namespace Go.Proofs.YtbhcafginmkaaaaGreat
open Go.RowKit Go.Lib

theorem TStep.aside {F F' : TFoot} {w w' w'' : World} {y : Nat} (h : TStep F F' w w') (g : w'.grownBy w'' (some y)) (hy : w.heap.size ≤ y) : TStep F F' w w'' :=
  ⟨⟨g.os.trans h.own.os, g.tape.trans h.own.tape, g.output.trans h.own.output, Nat.le_trans h.own.size g.size, fun k hk hn => (g.block k (Nat.lt_of_lt_of_le hk h.own.size) (fun c => by have := Option.some.inj c; omega)).trans (h.own.block k hk hn), h.own.foot⟩, h.more⟩

theorem HIs.aside {TS : TableSpec} {w w' : World} {p : Nat} {pl : PlanL} {bd dn : Int} {T : List (List TRec)} {s f v : Value} {qs : List Nat} {Fs : List TFoot} {y : Nat} (h : HIs TS w p pl bd dn T s f v qs Fs) (g : w.grownBy w' (some y)) (hy : ∀ k, (hFoot p s f v Fs).all k → k ≠ y) : HIs TS w' p pl bd dn T s f v qs Fs :=
  h.at g.size (fun i hi => g.block i (h.lt hi) (fun c => hy i hi (Option.some.inj c)))

theorem sblk_at' {w w' : World} {F F' : TFoot} {b : Nat} {k t s : Int} (h : SBlk w b k t s) (st : TStep F F' w w') (hb : ¬ F.own b) : SBlk w' b k t s := by
  show _ = _
  rw [st.own.block b (Array.getElem?_eq_some_iff.1 h).1 hb]
  exact h

set_option maxRecDepth 20000 in
set_option maxHeartbeats 6400000 in
theorem hStep_fill {TS : TableSpec} (S : TiersSpec TS) (hOk : ∀ w, S.Ok w) {w : World} {p : Nat} {pl : PlanL} {bd dn : Int} {T : List (List TRec)} {s f v : Value} {qs : List Nat} {Fs : List TFoot} (h : HIs TS w p pl bd dn T s f v qs Fs) (hp : HPl pl) {pt : Nat} {r : RchL} {TT : List (List TRec)} {FT : TFoot} (ht : S.Rep w pt r TT FT) (hl : ∀ l ∈ TT, l.length ≤ 1000) (hT : ∀ l ∈ TT, ∀ z ∈ l, TFit z) (hf : HFits pl r TT.length) {j : Nat} {t : TierL} (hj : pl.1.2[j]? = some t) {k : Int} (hat : mAt pl dn = ((1, (j : Int), k), true)) (hk : In64 k) (hd0 : 0 ≤ dn) (hd1 : dn ≤ 1000) (hlt : ∀ l ∈ T, l.length ≤ 1000) (hlb : ∀ l ∈ mBuilt pl r TT, l.length ≤ 1000) (hlen : (T.getD j []).length + ((mBuilt pl r TT).getD j []).length ≤ 1000) :
    Calls Tryz.prog 76 #[tptr p, tptr pt] w fun x w' => x = .returned (.tuple #[stVal 1 j k, .pointer none, .int .i64 0]) ∧ ∃ v' qs' Fs', HIs TS w' p pl bd (dn + 1) (hFill pl T (mBuilt pl r TT) j k) s f v' qs' Fs' ∧ TStep (hFoot p s f v Fs) (hFoot p s f v' Fs') w w' := by
  obtain ⟨y0, w1, hy, hw1, b1, k1⟩ := st_boxed (w := w) 0 0 0
  have H1 := h.below b1
  have hb := build_any S _ pl (hOk w1) H1.plan hp.fit hp.n60 hp.ten hp.t60 (S.kept ht b1.size (fun k hk => b1.block k (S.lt ht k hk))) hl hT
  have HLTW : Hid (∀ i, (hFoot p s f v Fs).all i → i < y0) := Hid.of (fun i hi => by rw [← hy]; exact h.lt hi)
  have HP := Hid.of hp
  have HF := Hid.of hf
  have HH1 := Hid.of H1
  have Z1 := Hid.of k1
  have B1 := Hid.of b1
  have HAT := Hid.of hat
  have HOK := Hid.of hOk
  have HJ := Hid.of hj
  have HK := Hid.of hk
  have HLT := Hid.of hlt
  have HLB := Hid.of hlb
  have HLN := Hid.of hlen
  have HY := Hid.of hy
  have HW := Hid.of hw1
  obtain ⟨c0, c1, c2, -, -, -⟩ := H1.c
  obtain ⟨sa, sc, rfl, -⟩ := own_one h.hs
  obtain ⟨fa, fc, rfl, -⟩ := own_one h.hf
  obtain ⟨N, hN⟩ : ∃ N, pl.1.2.length = N := ⟨_, rfl⟩
  obtain ⟨M, hM⟩ : ∃ M, pl.2.length = M := ⟨_, rfl⟩
  obtain ⟨pn, hpn⟩ : ∃ n, pl.1.1 = n := ⟨_, rfl⟩
  rw [hN] at c1
  rw [hM] at c2
  rw [hpn] at c0
  rw [hN, hM, hpn] at hb
  have HN := Hid.of hN
  have HM := Hid.of hM
  clear h H1 hp ht hl hT hf hj hat hk hlt hlb hlen hy hw1 b1 k1 hN hM hpn hOk
  go_enter Tryz.func76, Tryz.ntmps76
  go_upto_region 1 with fail
  rw [HW.out, HY.out]
  clear HW
  go_wp2_with fail
  refine hb.mono ?_
  rintro e w2 ⟨h1, -, b2⟩
  obtain ⟨q, F, rfl, hr, hfr⟩ := (h1 HF.out.1).1 HF.out.2
  have B2 := Hid.of (B1.out.trans (b2.mono B1.out.size))
  have HH2 := Hid.of (HH1.out.below b2)
  have Z2 := Hid.of (sblk_next Z1.out b2)
  have R2 := Hid.of hr
  have HFR : Hid (∀ i, F.all i → y0 < i) := Hid.of (fun i hi => by
    have h2 := hfr i hi
    have h3 := (Array.getElem?_eq_some_iff.1 Z1.out).1
    omega)
  clear hb h1 hr hfr b2 HH1 Z1 B1 c0 c1 c2
  go_wp2_with fail
  refine (hNext_any HH2.out HP.out.fit (by unfold I64; omega)).mono ?_
  rintro e w3 ⟨rfl, b3⟩
  rw [HAT.out]
  unfold atVal
  simp only
  have B3 := Hid.of (B2.out.trans (b3.mono B2.out.size))
  have HH3 := Hid.of (HH2.out.below b3)
  have Z3 := Hid.of (sblk_next Z2.out b3)
  have R3 := Hid.of (S.kept R2.out b3.size (fun k hk => b3.block k (S.lt R2.out k hk)))
  clear b3 HH2 Z2 B2 R2
  obtain ⟨y1, w4, hy1, hw4, b4, k4⟩ := st_boxed (w := w3) 1 j k
  have B4 := Hid.of (B3.out.trans (b4.mono B3.out.size))
  have HH4 := Hid.of (HH3.out.below b4)
  have Z4 := Hid.of (sblk_next Z3.out b4)
  have Y4 := Hid.of k4
  have R4 := Hid.of (S.kept R3.out b4.size (fun k hk => b4.block k (S.lt R3.out k hk)))
  have HYY : Hid (y0 < y1) := Hid.of (by rw [← hy1]; exact (Array.getElem?_eq_some_iff.1 Z3.out).1)
  have HW := Hid.of hw4
  have HY1 := Hid.of hy1
  clear b4 k4 hy1 hw4 HH3 Z3 B3 R3
  go_upto_region 7 with fail
  rw [HW.out, HY1.out]
  clear HW HY1
  have hdo := hDo_fill S HOK.out HH4.out HP.out R4.out (fun i hi c => by
    have h2 := HFR.out i hi
    have h3 := HLTW.out i (by have := HH4.out.sub c; exact this)
    omega) HJ.out k HK.out HLT.out HLB.out HLN.out
  obtain ⟨t0, t1, t2⟩ := sblk_at Y4.out
  go_wp2_with fail
  refine hdo.mono ?_
  rintro e w5 ⟨rfl, v5, qs5, Fs5, h5, s5⟩
  have HH5 := Hid.of h5
  have HNO : Hid (∀ i, (hFoot p (.slice sa N sc) (.slice fa M fc) v5 Fs5).all i → i ≠ y0) := Hid.of (fun i hi => by
    rw [← HN.out, ← HM.out] at hi
    rcases s5.more i hi with c | c
    · have := HLTW.out i c; omega
    · have h2 := (Array.getElem?_eq_some_iff.1 Z4.out).1
      omega)
  have hno : ∀ b, y0 ≤ b → ¬ (hFoot p (.slice sa pl.1.2.length sc) (.slice fa pl.2.length fc) v Fs).own b := fun b hb c => by
    have := HLTW.out b (HH4.out.sub c)
    omega
  have Z5 := Hid.of (sblk_at' Z4.out s5 (hno y0 (Nat.le_refl _)))
  have Y5 := Hid.of (sblk_at' Y4.out s5 (hno y1 (Nat.le_of_lt HYY.out)))
  have S5 : Hid (TStep (hFoot p (.slice sa N sc) (.slice fa M fc) v Fs) (hFoot p (.slice sa N sc) (.slice fa M fc) v5 Fs5) w w5) := Hid.of (by
    rw [← HN.out, ← HM.out]
    exact (TStep.of_below B4.out).trans s5)
  rw [HN.out, HM.out] at HH5
  clear hdo h5 s5 hno HH4 Z4 Y4 R4 B4 t0 t1 t2
  obtain ⟨-, -, -, -, c4, -⟩ := HH5.out.c
  have f4 := row_frozen (i := 4) HH5.out.cell
  obtain ⟨h6, s6⟩ := HH5.out.done (dn + 1)
  obtain ⟨w6, hw6⟩ : ∃ w6, w5.setCell ⟨p, 4, none⟩ (.int .i64 (dn + 1)) = w6 := ⟨_, rfl⟩
  rw [hw6] at h6 s6
  have HH6 := Hid.of h6
  have S6 := Hid.of (S5.out.trans s6)
  have g6 := grownBy_setCell w5 p 4 (.int .i64 (dn + 1))
  rw [hw6] at g6
  have hpy : ∀ b, SBlk w5 b = SBlk w5 b := fun _ => rfl
  have Z6 : Hid (SBlk w6 y0 0 0 0) := Hid.of (by
    show _ = _
    rw [g6.block y0 (Array.getElem?_eq_some_iff.1 Z5.out).1 (fun c => by have h2 := Option.some.inj c; have h3 := HLTW.out p (.inl rfl); omega)]
    exact Z5.out)
  have Y6 : Hid (SBlk w6 y1 1 j k) := Hid.of (by
    show _ = _
    rw [g6.block y1 (Array.getElem?_eq_some_iff.1 Y5.out).1 (fun c => by have h2 := Option.some.inj c; have h3 := HLTW.out p (.inl rfl); have := HYY.out; omega)]
    exact Y5.out)
  have HW := Hid.of hw6
  clear h6 s6 g6 hw6 hpy S5 Z5 Y5 HH5
  go_upto_region 13 with fail
  rw [HW.out]
  clear HW c4 f4
  have f0 := row_frozen (i := 0) Z6.out
  have f1 := row_frozen (i := 1) Z6.out
  have f2 := row_frozen (i := 2) Z6.out
  obtain ⟨t0, t1, t2⟩ := sblk_at Z6.out
  obtain ⟨u0, u1, u2⟩ := sblk_at Y6.out
  have gz := setS_grown w6 y0 1 j k
  have HZ := Hid.of (HH6.out.aside gz HNO.out)
  have SZ := Hid.of (S6.out.aside gz (by rw [← HY.out]; exact Nat.le_refl _))
  obtain ⟨q0, q1, q2⟩ := sblk_at (sblk_set (k' := 1) (t' := (j : Int)) (s' := k) Z6.out)
  unfold setS at q0 q1 q2 HZ SZ
  clear gz HH6 S6 Z6 Y6 HNO
  go_wp2
  refine bodyPost_ret (v := .tuple #[.agg #[.int .i64 1, .int .i64 j, .int .i64 k], .pointer none, .int .i64 0]) ?_ rfl ⟨rfl, v5, qs5, Fs5, by rw [HN.out, HM.out]; exact HZ.out, by rw [HN.out, HM.out]; exact SZ.out⟩
  simp [results, Tryz.results76, go_sem, q0, q1, q2]

end Go.Proofs.YtbhcafginmkaaaaGreat

namespace Go.Proofs.YtbhcafginmkaaaaGreat
open Go.RowKit Go.Lib

theorem own_off {w w' : World} {y D n sz : Nat} {e : TypeId} {v : Value} {xs : List Value} (k : ZBlk w y) (g : w.grownBy w' (some y)) (he : e ≠ 49) (h : w.ownsRow D e sz v n xs) : w'.ownsRow D e sz v n xs :=
  iown_at h (fun i hi => by
    refine g.block i (iown_lt h hi) (fun c => ?_)
    obtain rfl : i = y := Option.some.inj c
    rcases h.2 with ⟨rfl, _⟩ | ⟨g', cap, cur, rfl, hB, hrow, rest⟩
    · cases hi
    · cases hi
      rw [k] at hrow
      simp only [Option.some.injEq, Obj.cells.injEq] at hrow
      exact he hrow.2.1.symm)

theorem hBegin_nil (w : World) (v : Value) (p : PolL) (h : PolRow w v p) : Calls Tryz.prog 72 #[.pointer none, v] w fun x w' => x = .returned (.tuple #[.pointer none, .int .i64 1]) ∧ Below w.heap.size w w' := by
  obtain ⟨s, rfl, -, -⟩ := h
  unfold polVal
  obtain ⟨n, hn⟩ : ∃ n, p.1 = n := ⟨_, rfl⟩
  rw [hn]
  clear hn
  go_enter Tryz.func72, Tryz.ntmps72
  go_wp2
  go_ret2
  exact ⟨rfl, (Below.refl _ _).alloc (Nat.le_refl _) _⟩

theorem sum_idx_le : ∀ (T : List (List TRec)) (g : Nat → List TRec → Nat), (∀ i l, g i l ≤ l.length) → (T.mapIdx g).sum ≤ (T.map List.length).sum
  | [], _, _ => Nat.le_refl _
  | a :: T, g, h => by
    rw [List.mapIdx_cons, List.map_cons, List.sum_cons, List.sum_cons]
    have h1 := h 0 a
    have h2 := sum_idx_le T (fun i => g (i + 1)) (fun i l => h (i + 1) l)
    omega
theorem sum_len_le : ∀ (T : List (List TRec)) (m : Nat), (∀ l ∈ T, l.length ≤ m) → (T.map List.length).sum ≤ m * T.length
  | [], _, _ => Nat.le_refl _
  | a :: T, m, h => by
    rw [List.map_cons, List.sum_cons, List.length_cons, Nat.mul_succ]
    have h1 := h a (List.mem_cons_self ..)
    have h2 := sum_len_le T m (fun l hl => h l (List.mem_cons_of_mem _ hl))
    omega
theorem iNeed_small {r : RchL} {T : List (List TRec)} (h5 : T.length ≤ 5) (hl : ∀ l ∈ T, l.length ≤ 1000) : iNeed r T ≤ 5000 := by
  have h1 : iNeed r T ≤ (T.map List.length).sum := sum_idx_le T _ (fun i l => tNeed_le _ _)
  have h2 := sum_len_le T 1000 hl
  omega

def Opq (z : Bool) (P : Prop) : Prop := z = true ↔ P
/-- An answer that is true just where P holds. -/
def SaidB (P : Prop) (w : World) (x : Ending) (w' : World) : Prop := ∃ z : Bool, x = .returned (.bool z) ∧ Hid (Opq z P) ∧ Below w.heap.size w w'

/-- A new plan's lists, of one's own. -/
structure PlO (D : Nat) (pl : PlanL) (pn : ByteArray) (s f : Value) (w : World) : Prop where
  n : pl.1.1 = pn
  hs : w.ownsRow D 89 4 s pl.1.2.length (flat penc pl.1.2)
  hf : w.ownsRow D 3 1 f pl.2.length (pl.2.map (Value.int .i64))
theorem PlO.kept {D : Nat} {pl : PlanL} {pn : ByteArray} {s f : Value} {w w' : World} (h : PlO D pl pn s f w) (b : Below w.heap.size w w') : PlO D pl pn s f w' := ⟨h.n, iown_kept h.hs b, iown_kept h.hf b⟩
theorem PlO.off {D : Nat} {pl : PlanL} {pn : ByteArray} {s f : Value} {w w' : World} {y : Nat} (h : PlO D pl pn s f w) (k : ZBlk w y) (g : w.grownBy w' (some y)) : PlO D pl pn s f w' := ⟨h.n, own_off k g (by decide) h.hs, own_off k g (by decide) h.hf⟩
theorem PlO.row {D : Nat} {pl : PlanL} {pn : ByteArray} {s f : Value} {w : World} (h : PlO D pl pn s f w) : PlanRow w (.agg #[.string pn, s, f]) pl := ⟨s, f, by unfold plVal; rw [h.n], own_row h.hs, own_row h.hf, own_cap h.hs, own_cap h.hf⟩

/-- Behind Make: the plan, in a variable. -/
structure BSt (w0 : World) (y : Nat) (pl : PlanL) (pn : ByteArray) (s f : Value) (w : World) : Prop where
  k : LBlk w y pn s f
  o : PlO w0.heap.size pl pn s f w
  fr : Below w0.heap.size w0 w
theorem BSt.next {w0 w w' : World} {y : Nat} {pl : PlanL} {pn : ByteArray} {s f : Value} (h : BSt w0 y pl pn s f w) (b : Below w.heap.size w w') : BSt w0 y pl pn s f w' := ⟨lblk_next h.k b, h.o.kept b, h.fr.trans (b.mono h.fr.size)⟩

/-- A shadow that was just begun. -/
theorem HIs.new {TS : TableSpec} {w : World} {pl : PlanL} {bd : Int} {s f : Value} (hs : w.ownsRow 0 89 4 s pl.1.2.length (flat penc pl.1.2)) (hf : w.ownsRow 0 3 1 f pl.2.length (pl.2.map (Value.int .i64))) :
    HIs TS (w.alloc (.cells #[.string pl.1.1, s, f, .int .i64 bd, .int .i64 0, .slice none 0 0] 138)) w.heap.size pl bd 0 [] s f (.slice none 0 0) [] [] := by
  have b : Below w.heap.size w (w.alloc (.cells #[.string pl.1.1, s, f, .int .i64 bd, .int .i64 0, .slice none 0 0] 138)) := (Below.refl _ _).alloc (Nat.le_refl _) _
  exact {
    cell := (MapKept.heap_alloc w _).1
    hs := iown_kept hs b
    hf := iown_kept hf b
    hv := World.ownsRow_nil _ _ _ _
    ql := rfl
    fl := rfl
    rep := fun i q l F hq => by simp at hq
    apart := fun i j k F G hF => by simp at hF
    off := fun F hF => absurd hF List.not_mem_nil
    out := fun F hF => absurd hF List.not_mem_nil
    pp := fun c => by
      rcases c with c | c | c
      · have := iown_lt hs c; omega
      · have := iown_lt hf c; omega
      · cases c
    va := fun F hF => absurd hF List.not_mem_nil
    sv := fun k hk => by cases hk }

set_option maxRecDepth 20000 in
set_option maxHeartbeats 6400000 in
theorem hBegin_any {TS : TableSpec} (S : TiersSpec TS) (hOk : ∀ w, S.Ok w) {w : World} {pt : Nat} {r : RchL} {TT : List (List TRec)} {FT : TFoot} (ht : S.Rep w pt r TT FT) (hl : ∀ l ∈ TT, l.length ≤ 1000) (hT : ∀ l ∈ TT, ∀ z ∈ l, TFit z) {tv : Value} {tq : PolL} (hto : PolRow w tv tq) (fq : PFit tq) (h60 : tq.1.size ≤ 60) (t60 : ∀ x ∈ tq.2, x.1.size ≤ 60) (he : mErr r.2.1 tq = 0) (hfi : HFits (mMake r.2.1 r tq) r TT.length) (hlb : ∀ l ∈ mBuilt (mMake r.2.1 r tq) r TT, l.length ≤ 1000) :
    Calls Tryz.prog 72 #[tptr pt, tv] w fun x w' => ∃ p s f, x = .returned (.tuple #[tptr p, .int .i64 0]) ∧ HIs TS w' p (mMake r.2.1 r tq) (mBound (mMake r.2.1 r tq) (iNeed (mTo (mMake r.2.1 r tq) r) (mBuilt (mMake r.2.1 r tq) r TT) : Nat)) 0 [] s f (.slice none 0 0) [] [] ∧ (∀ k, (hFoot p s f (.slice none 0 0) []).all k → w.heap.size ≤ k) ∧ Below w.heap.size w w' := by
  obtain ⟨pl, hpl⟩ : ∃ pl, mMake r.2.1 r tq = pl := ⟨_, rfl⟩
  rw [hpl] at hfi hlb ⊢
  have HOK := Hid.of hOk
  have HT := Hid.of ht
  have HL := Hid.of hl
  have HTF := Hid.of hT
  have HFI := Hid.of hfi
  have HLB := Hid.of hlb
  have FQ := Hid.of fq
  have FR := Hid.of (S.fit ht)
  have MK : Hid (mErr r.2.1 tq = 0 ∧ mMake r.2.1 r tq = pl) := Hid.of ⟨he, hpl⟩
  have PQ : Hid (pl.1 = tq) := Hid.of (by rw [← hpl, mMake_ok he])
  have P60 : Hid (pl.1.1.size ≤ 60) := Hid.of (by rw [PQ.out]; exact h60)
  have PT60 : Hid (∀ x ∈ pl.1.2, x.1.size ≤ 60) := Hid.of (by rw [PQ.out]; exact t60)
  have FM : Hid (MFit pl) := Hid.of (by
    have h1 := mMake_ok (p := r.2.1) (r := r) (q := tq) he
    rw [hpl] at h1
    rw [h1]
    refine ⟨fq, by show (List.map _ _).length ≤ _; rw [List.length_map]; exact fq.1, fun x hx => ?_⟩
    obtain ⟨z, -, rfl⟩ := List.mem_map.1 hx
    exact fur_in _ _ _ (S.fit ht).2.1.1)
  have HPC : Hid ((pCheck pl.1).1 = 0) := Hid.of (by rw [PQ.out]; exact (mErr_zero he).2)
  have H5 : Hid (0 < pl.1.2.length ∧ pl.1.2.length ≤ 5) := Hid.of ⟨(pCheck_ok HPC.out).2.2.1, (pCheck_ok HPC.out).2.2.2.1⟩
  have HTO := Hid.of hto
  obtain ⟨rs, rf, p0, p1, p2, p3, hrr⟩ := S.cells ht
  have hlq : pt < w.heap.size := cell_lt p0
  obtain ⟨rs', rf', he2, k1, k2, k3, k4⟩ := hrr
  unfold rVal at he2
  simp only [Value.agg.injEq, Array.mk.injEq, List.cons.injEq, and_true, true_and] at he2
  obtain ⟨rfl, rfl⟩ := he2
  have RR : Hid (RchRow w (.agg #[.int .i64 r.1, .string r.2.1.1, rs, rf]) r) := Hid.of ⟨rs, rf, rfl, k1, k2, k3, k4⟩
  have RP : Hid (PolRow w (.agg #[.string r.2.1.1, rs]) r.2.1) := Hid.of ⟨rs, rfl, k1, k3⟩
  obtain ⟨ts, rfl, hts, -⟩ := hto
  obtain ⟨rsa, rsc, rfl, -⟩ := k1
  obtain ⟨rfa, rfc, rfl, -⟩ := k2
  obtain ⟨ta, tc, rfl, -⟩ := hts
  unfold polVal at HTO ⊢
  obtain ⟨nw, hnw⟩ : ∃ n, r.1 = n := ⟨_, rfl⟩
  obtain ⟨rn, hrn⟩ : ∃ n, r.2.1.1 = n := ⟨_, rfl⟩
  obtain ⟨RN, hRN⟩ : ∃ N, r.2.1.2.length = N := ⟨_, rfl⟩
  obtain ⟨RM, hRM⟩ : ∃ N, r.2.2.length = N := ⟨_, rfl⟩
  obtain ⟨tn, htn⟩ : ∃ n, tq.1 = n := ⟨_, rfl⟩
  obtain ⟨TN, hTN⟩ : ∃ N, tq.2.length = N := ⟨_, rfl⟩
  rw [hnw, hrn, hRN, hRM] at RR
  rw [hrn, hRN] at RP
  rw [htn, hTN] at HTO ⊢
  rw [hnw] at p0
  rw [hrn] at p1
  rw [hRN] at p2
  rw [hRM] at p3
  obtain ⟨LN, hLN⟩ : ∃ n, pl.1.2.length = n := ⟨_, rfl⟩
  obtain ⟨LM, hLM⟩ : ∃ n, pl.2.length = n := ⟨_, rfl⟩
  have LL : Hid (pl.1.2.length = LN ∧ pl.2.length = LM) := Hid.of ⟨hLN, hLM⟩
  obtain ⟨zb, hzb⟩ : ∃ z, w.heap.size = z := ⟨_, rfl⟩
  obtain ⟨w1, hw1⟩ : ∃ w1, w.alloc (.cells #[.string tn, .slice ta TN tc] 24) = w1 := ⟨_, rfl⟩
  have b1 : Below w.heap.size w w1 := by rw [← hw1]; exact (Below.refl _ _).alloc (Nat.le_refl _) _
  have z1 : w1.heap[zb]? = some (.cells #[.string tn, .slice ta TN tc] 24 (0, 0)) := by rw [← hw1, ← hzb]; exact (MapKept.heap_alloc w _).1
  have CS0 : Hid (Dc w1 [(⟨pt, 0, none⟩, .int .i64 nw), (⟨pt, 1, none⟩, .string rn), (⟨pt, 2, none⟩, .slice rsa RN rsc), (⟨pt, 3, none⟩, .slice rfa RM rfc), (⟨zb, 0, none⟩, .string tn), (⟨zb, 1, none⟩, .slice ta TN tc)]) := Hid.of
    (Dc.app ((Dc.cons hlq p0 (.cons hlq p1 (.cons hlq p2 (.cons hlq p3 (Dc.nil _))))).next b1) (Dc.app (Dc.one z1 (i := 0) rfl) (Dc.one z1 (i := 1) rfl)))
  have B0 := Hid.of b1
  have X0 := Hid.of (RR.out.kept b1)
  have P0 := Hid.of (RP.out.kept b1)
  have T0 := Hid.of (HTO.out.kept b1)
  have HW := Hid.of hw1
  have HZB := Hid.of hzb
  clear ht hl hT hfi hlb fq h60 t60 he hpl p0 p1 p2 p3 hlq k3 k4 hnw hrn hRN hRM htn hTN hLN hLM hzb hw1 b1 z1 RR RP HTO hOk
  go_enter Tryz.func72, Tryz.ntmps72
  go_upto_region 3 with fail
  rw [HW.out, HZB.out]
  clear HW
  go_cut [6, 7] from 11 to 24 (fun pv ev wx => ∃ (y : Nat) (pn : ByteArray) (psa pfa : Option Addr) (psc pfc : Nat), pv = .pointer (some ⟨y, 0, none⟩) ∧ ev = .int .i64 0 ∧ Hid (BSt w y pl pn (.slice psa LN psc) (.slice pfa LM pfc) wx))
  case first =>
    have bD := (Below.refl w1.heap.size w1).drew
    have BD := Hid.of (B0.out.trans (bD.mono B0.out.size))
    have CSD := Hid.of (CS0.out.next bD)
    have XD := Hid.of (X0.out.kept bD)
    have PD := Hid.of (P0.out.kept bD)
    have TD := Hid.of (T0.out.kept bD)
    clear bD
    have d0 := (CS0.out).head
    have d1 := ((CS0.out).tail).head
    have d2 := (((CS0.out).tail).tail).head
    have d3 := ((((CS0.out).tail).tail).tail).head
    have d4 := (((((CS0.out).tail).tail).tail).tail).head
    have d5 := ((((((CS0.out).tail).tail).tail).tail).tail).head
    refine wp_region_noPanic ?_
    refine wp_region_held_drew (S := fun w' => w'.cell? ⟨pt, 0, none⟩ = some (.int .i64 nw) ∧ w'.cell? ⟨pt, 1, none⟩ = some (.string rn) ∧ w'.cell? ⟨pt, 2, none⟩ = some (.slice rsa RN rsc) ∧ w'.cell? ⟨pt, 3, none⟩ = some (.slice rfa RM rfc) ∧ w'.cell? ⟨zb, 0, none⟩ = some (.string tn) ∧ w'.cell? ⟨zb, 1, none⟩ = some (.slice ta TN tc)) (by kernel_rfl) ?_ (fun hHeld => ?_)
    · exact ⟨d0, d1, d2, d3, d4, d5⟩
    clear B0 CS0 X0 P0 T0
    refine takeOp 0 (o := ⟨_, _, _, _, _, _⟩) (v := ?_) rfl (by kernel_rfl) (by rfl) hHeld ?_ ?_; rotate_left; (next => intro w' hSw; (try dsimp only at hSw); go_simp; all_goals with_reducible rfl); simp only [Act.put, pA9, pB9, pC9]
    refine takeOp 1 (o := ⟨_, _, _, _, _, _⟩) (v := ?_) rfl (by kernel_rfl) (by rfl) hHeld ?_ ?_; rotate_left; (next => intro w' hSw; (try dsimp only at hSw); go_simp; all_goals with_reducible rfl); simp only [Act.put, pA9, pB9, pC9]
    refine takeOp 2 (o := ⟨_, _, _, _, _, _⟩) (v := ?_) rfl (by kernel_rfl) (by rfl) hHeld ?_ ?_; rotate_left; (next => intro w' hSw; (try dsimp only at hSw); go_simp; all_goals with_reducible rfl); simp only [Act.put, pA9, pB9, pC9]
    refine takeOp 3 (o := ⟨_, _, _, _, _, _⟩) (v := ?_) rfl (by kernel_rfl) (by rfl) hHeld ?_ ?_; rotate_left; (next => intro w' hSw; (try dsimp only at hSw); go_simp; all_goals with_reducible rfl); simp only [Act.put, pA9, pB9, pC9]
    refine takeOp 4 (o := ⟨_, _, _, _, _, _⟩) (v := ?_) rfl (by kernel_rfl) (by rfl) hHeld ?_ ?_; rotate_left; (next => intro w' hSw; (try dsimp only at hSw); go_simp; all_goals with_reducible rfl); simp only [Act.put, pA9, pB9, pC9]
    refine takeOp 5 (o := ⟨_, _, _, _, _, _⟩) (v := ?_) rfl (by kernel_rfl) (by rfl) hHeld ?_ ?_; rotate_left; (next => intro w' hSw; (try dsimp only at hSw); go_simp; all_goals with_reducible rfl); simp only [Act.put, pA9, pB9, pC9]
    refine takeOp 6 (o := ⟨_, _, _, _, _, _⟩) (v := ?_) rfl (by kernel_rfl) (by rfl) hHeld ?_ ?_; rotate_left; (next => intro w' hSw; (try dsimp only at hSw); go_simp; all_goals with_reducible rfl); simp only [Act.put, pA9, pB9, pC9]
    refine takeOp 7 (o := ⟨_, _, _, _, _, _⟩) (v := ?_) rfl (by kernel_rfl) (by rfl) hHeld ?_ ?_; rotate_left; (next => intro w' hSw; (try dsimp only at hSw); go_simp; all_goals with_reducible rfl); simp only [Act.put, pA9, pB9, pC9]
    refine takeOp 8 (o := ⟨_, _, _, _, _, _⟩) (v := ?_) rfl (by kernel_rfl) (by rfl) hHeld ?_ ?_; rotate_left; (next => intro w' hSw; (try dsimp only at hSw); go_simp; all_goals with_reducible rfl); simp only [Act.put, pA9, pB9, pC9]
    refine takeOp 9 (o := ⟨_, _, _, _, _, _⟩) (v := ?_) rfl (by kernel_rfl) (by rfl) hHeld ?_ ?_; rotate_left; (next => intro w' hSw; (try dsimp only at hSw); go_simp; all_goals with_reducible rfl); simp only [Act.put, pA9, pB9, pC9]
    refine wpAnyH_ready (rs := [10, 14]) (by kernel_rfl) (by simp) ?_
    refine AllReadyH.cons (o := ⟨_, _, _, _, _, _⟩) rfl (fun K hK => ?_) (AllReadyH.cons (o := ⟨_, _, _, _, _, _⟩) rfl (fun K hK => ?_) AllReadyH.nil)
    · go_simp
      refine (make_any _ _ _ r.2.1 tq r _ FR.out.2.1 FQ.out FR.out PD.out XD.out TD.out).mono ?_
      rintro e w91 ⟨u6, rfl, ou, b91⟩
      rw [MK.out.1]
      rw [MK.out.2] at ou
      obtain ⟨ps, pf, rfl, o1, o2, -⟩ := ou
      have o1 := own_mono o1 (show w.heap.size ≤ _ from BD.out.size)
      have o2 := own_mono o2 (show w.heap.size ≤ _ from BD.out.size)
      obtain ⟨psa, psc, rfl, -⟩ := own_one o1
      obtain ⟨pfa, pfc, rfl, -⟩ := own_one o2
      unfold plVal
      obtain ⟨pn, hpn⟩ : ∃ n, pl.1.1 = n := ⟨_, rfl⟩
      have O91 : Hid (PlO w.heap.size pl pn (.slice psa LN psc) (.slice pfa LM pfc) w91) := Hid.of ⟨hpn, by rw [LL.out.1] at o1; rw [LL.out.1]; exact o1, by rw [LL.out.2] at o2; rw [LL.out.2]; exact o2⟩
      rw [hpn, LL.out.1, LL.out.2]
      clear o1 o2 hpn
      have B91 := Hid.of (BD.out.trans (b91.mono BD.out.size))
      have CS91 := Hid.of (CSD.out.next b91)
      clear b91 BD CSD
      clear PD XD TD
      clear hHeld d0 d1 d2 d3 d4 d5
      have d0 := (CS91.out).head
      have d1 := ((CS91.out).tail).head
      have d2 := (((CS91.out).tail).tail).head
      have d3 := ((((CS91.out).tail).tail).tail).head
      have d4 := (((((CS91.out).tail).tail).tail).tail).head
      have d5 := ((((((CS91.out).tail).tail).tail).tail).tail).head
      refine hK.out _ _ ⟨d0, d1, d2, d3, d4, d5⟩ (fun hHeld => ?_)
      clear hK K
      try simp only [Act.put, pA9, pB9, pC9]
      refine takeOp 11 (o := ⟨_, _, _, _, _, _⟩) (v := ?_) rfl (by kernel_rfl) (by rfl) hHeld ?_ ?_; rotate_left; (next => intro w' hSw; (try dsimp only at hSw); go_simp; all_goals with_reducible rfl); simp only [Act.put, pA9, pB9, pC9]
      refine takeOp 12 (o := ⟨_, _, _, _, _, _⟩) (v := ?_) rfl (by kernel_rfl) (by rfl) hHeld ?_ ?_; rotate_left; (next => intro w' hSw; (try dsimp only at hSw); go_simp; all_goals with_reducible rfl); simp only [Act.put, pA9, pB9, pC9]
      refine takeOp 13 (o := ⟨_, _, _, _, _, _⟩) (v := ?_) rfl (by kernel_rfl) (by rfl) hHeld ?_ ?_; rotate_left; (next => intro w' hSw; (try dsimp only at hSw); go_simp; all_goals with_reducible rfl); simp only [Act.put, pA9, pB9, pC9]
      refine wpAnyH_ready (rs := [14]) (by kernel_rfl) (by simp) ?_
      refine AllReadyH.cons (o := ⟨_, _, _, _, _, _⟩) rfl (fun K hK => ?_) AllReadyH.nil
      go_simp
      obtain ⟨y, hy⟩ : ∃ y, (w91).heap.size = y := ⟨_, rfl⟩
      obtain ⟨w92, hw92⟩ : ∃ w92, (w91).alloc (.cells #[.string ⟨#[]⟩, .slice none 0 0, .slice none 0 0] 49) = w92 := ⟨_, rfl⟩
      have hx92 : (w91).alloc (.cells #[.string ⟨#[]⟩, .slice none 0 0, .slice none 0 0] 49) = w92 := hw92
      have b92 : Below (w91).heap.size (w91) w92 := by rw [← hx92]; exact (Below.refl _ _).alloc (Nat.le_refl _) _
      have K92 : Hid (w92.heap[y]? = some (.cells #[.string ⟨#[]⟩, .slice none 0 0, .slice none 0 0] 49 (0, 0))) := Hid.of (by rw [← hx92, ← hy]; exact (MapKept.heap_alloc (w91) _).1)
      have HLY : Hid (w.heap.size ≤ y) := Hid.of (by rw [← hy]; exact B91.out.size)
      have HLZ : Hid (∀ x ∈ ([(⟨pt, 0, none⟩, .int .i64 nw), (⟨pt, 1, none⟩, .string rn), (⟨pt, 2, none⟩, .slice rsa RN rsc), (⟨pt, 3, none⟩, .slice rfa RM rfc), (⟨zb, 0, none⟩, .string tn), (⟨zb, 1, none⟩, .slice ta TN tc)] : List (Addr × Value)), x.1.block < y) := Hid.of (fun x hx => by rw [← hy]; exact (CS91.out x hx).1)
      rw [hw92, hy]
      clear hw92 hx92 hy
      have B92 := Hid.of (B91.out.trans (b92.mono B91.out.size))
      have CS92 := Hid.of (CS91.out.next b92)
      have O92 := Hid.of (O91.out.kept b92)
      clear b92 B91 CS91 O91
      clear hHeld d0 d1 d2 d3 d4 d5
      have d0 := (CS92.out).head
      have d1 := ((CS92.out).tail).head
      have d2 := (((CS92.out).tail).tail).head
      have d3 := ((((CS92.out).tail).tail).tail).head
      have d4 := (((((CS92.out).tail).tail).tail).tail).head
      have d5 := ((((((CS92.out).tail).tail).tail).tail).tail).head
      refine hK.out _ _ ⟨d0, d1, d2, d3, d4, d5⟩ (fun hHeld => ?_)
      clear hK K
      try simp only [Act.put, pA9, pB9, pC9]
      refine wpAnyH_ready (rs := [15]) (by kernel_rfl) (by simp) ?_
      refine AllReadyH.cons (o := ⟨_, _, _, _, _, _⟩) rfl (fun K hK => ?_) AllReadyH.nil
      have k0 := K92.out
      have f0 := row_frozen (i := 0) k0
      have f1 := row_frozen (i := 1) k0
      have f2 := row_frozen (i := 2) k0
      obtain ⟨t0, t1, t2⟩ := lblk_at k0
      go_simp
      clear f0 f1 f2 t0 t1 t2
      have KZ := Hid.of (lblk_set (n' := pn) (s' := .slice psa LN psc) (f' := .slice pfa LM pfc) k0)
      have gz := setL_grown w92 y pn (.slice psa LN psc) (.slice pfa LM pfc)
      have CSZ := Hid.of (CS92.out.grown gz (fun x hx c => by have h1 := Option.some.inj c; have h2 := HLZ.out x hx; omega))
      have BZ : Hid (Below w.heap.size w (setL w92 y pn (.slice psa LN psc) (.slice pfa LM pfc))) := Hid.of (B92.out.grown gz B92.out.size (fun k hk => by cases hk; exact HLY.out))
      have OZ := Hid.of (O92.out.off k0 gz)
      clear gz k0
      unfold setL at KZ CSZ BZ OZ
      clear hHeld d0 d1 d2 d3 d4 d5
      have d0 := (CSZ.out).head
      have d1 := ((CSZ.out).tail).head
      have d2 := (((CSZ.out).tail).tail).head
      have d3 := ((((CSZ.out).tail).tail).tail).head
      have d4 := (((((CSZ.out).tail).tail).tail).tail).head
      have d5 := ((((((CSZ.out).tail).tail).tail).tail).tail).head
      refine hK.out _ _ ⟨d0, d1, d2, d3, d4, d5⟩ (fun hHeld => ?_)
      clear hK K
      try simp only [Act.put, pA9, pB9, pC9]
      refine takeOp 16 (o := ⟨_, _, _, _, _, _⟩) (v := ?_) rfl (by kernel_rfl) (by rfl) hHeld ?_ ?_; rotate_left; (next => intro w' hSw; (try dsimp only at hSw); go_simp; all_goals with_reducible rfl); simp only [Act.put, pA9, pB9, pC9]
      refine wpAnyH_done (by kernel_rfl) ?_ _
      refine NoPanic.normal ?_
      clear hHeld d0 d1 d2 d3 d4 d5
      go_wp2_with fail
      go_meet
      exact ⟨y, pn, psa, pfa, psc, pfc, rfl, rfl, Hid.of ⟨KZ.out, OZ.out, BZ.out⟩⟩
    · go_simp
      obtain ⟨y, hy⟩ : ∃ y, (w1).heap.size = y := ⟨_, rfl⟩
      obtain ⟨w93, hw93⟩ : ∃ w93, (w1.alloc (.cells #[.string ⟨#[]⟩, .slice none 0 0, .slice none 0 0] 49)).drew = w93 := ⟨_, rfl⟩
      have hx93 : (w1.drew).alloc (.cells #[.string ⟨#[]⟩, .slice none 0 0, .slice none 0 0] 49) = w93 := hw93
      have b93 : Below (w1.drew).heap.size (w1.drew) w93 := by rw [← hx93]; exact (Below.refl _ _).alloc (Nat.le_refl _) _
      have K93 : Hid (w93.heap[y]? = some (.cells #[.string ⟨#[]⟩, .slice none 0 0, .slice none 0 0] 49 (0, 0))) := Hid.of (by rw [← hx93, ← hy]; exact (MapKept.heap_alloc (w1.drew) _).1)
      have HLY : Hid (w.heap.size ≤ y) := Hid.of (by rw [← hy]; exact BD.out.size)
      have HLZ : Hid (∀ x ∈ ([(⟨pt, 0, none⟩, .int .i64 nw), (⟨pt, 1, none⟩, .string rn), (⟨pt, 2, none⟩, .slice rsa RN rsc), (⟨pt, 3, none⟩, .slice rfa RM rfc), (⟨zb, 0, none⟩, .string tn), (⟨zb, 1, none⟩, .slice ta TN tc)] : List (Addr × Value)), x.1.block < y) := Hid.of (fun x hx => by rw [← hy]; exact (CSD.out x hx).1)
      rw [hw93, hy]
      clear hw93 hx93 hy
      have B93 := Hid.of (BD.out.trans (b93.mono BD.out.size))
      have CS93 := Hid.of (CSD.out.next b93)
      have X93 := Hid.of (XD.out.kept b93)
      have P93 := Hid.of (PD.out.kept b93)
      have T93 := Hid.of (TD.out.kept b93)
      clear b93 BD CSD XD PD TD
      clear hHeld d0 d1 d2 d3 d4 d5
      have d0 := (CS93.out).head
      have d1 := ((CS93.out).tail).head
      have d2 := (((CS93.out).tail).tail).head
      have d3 := ((((CS93.out).tail).tail).tail).head
      have d4 := (((((CS93.out).tail).tail).tail).tail).head
      have d5 := ((((((CS93.out).tail).tail).tail).tail).tail).head
      refine hK.out _ _ ⟨d0, d1, d2, d3, d4, d5⟩ (fun hHeld => ?_)
      clear hK K
      try simp only [Act.put, pA9, pB9, pC9]
      refine wpAnyH_ready (rs := [10]) (by kernel_rfl) (by simp) ?_
      refine AllReadyH.cons (o := ⟨_, _, _, _, _, _⟩) rfl (fun K hK => ?_) AllReadyH.nil
      go_simp
      refine (make_any _ _ _ r.2.1 tq r _ FR.out.2.1 FQ.out FR.out P93.out X93.out T93.out).mono ?_
      rintro e w94 ⟨u6, rfl, ou, b94⟩
      rw [MK.out.1]
      rw [MK.out.2] at ou
      obtain ⟨ps, pf, rfl, o1, o2, -⟩ := ou
      have o1 := own_mono o1 (show w.heap.size ≤ _ from B93.out.size)
      have o2 := own_mono o2 (show w.heap.size ≤ _ from B93.out.size)
      obtain ⟨psa, psc, rfl, -⟩ := own_one o1
      obtain ⟨pfa, pfc, rfl, -⟩ := own_one o2
      unfold plVal
      obtain ⟨pn, hpn⟩ : ∃ n, pl.1.1 = n := ⟨_, rfl⟩
      have O94 : Hid (PlO w.heap.size pl pn (.slice psa LN psc) (.slice pfa LM pfc) w94) := Hid.of ⟨hpn, by rw [LL.out.1] at o1; rw [LL.out.1]; exact o1, by rw [LL.out.2] at o2; rw [LL.out.2]; exact o2⟩
      rw [hpn, LL.out.1, LL.out.2]
      clear o1 o2 hpn
      have B94 := Hid.of (B93.out.trans (b94.mono B93.out.size))
      have CS94 := Hid.of (CS93.out.next b94)
      have K94 := Hid.of (lblk_next K93.out b94)
      clear b94 B93 CS93 K93
      clear P93 X93 T93
      clear hHeld d0 d1 d2 d3 d4 d5
      have d0 := (CS94.out).head
      have d1 := ((CS94.out).tail).head
      have d2 := (((CS94.out).tail).tail).head
      have d3 := ((((CS94.out).tail).tail).tail).head
      have d4 := (((((CS94.out).tail).tail).tail).tail).head
      have d5 := ((((((CS94.out).tail).tail).tail).tail).tail).head
      refine hK.out _ _ ⟨d0, d1, d2, d3, d4, d5⟩ (fun hHeld => ?_)
      clear hK K
      try simp only [Act.put, pA9, pB9, pC9]
      refine takeOp 11 (o := ⟨_, _, _, _, _, _⟩) (v := ?_) rfl (by kernel_rfl) (by rfl) hHeld ?_ ?_; rotate_left; (next => intro w' hSw; (try dsimp only at hSw); go_simp; all_goals with_reducible rfl); simp only [Act.put, pA9, pB9, pC9]
      refine takeOp 12 (o := ⟨_, _, _, _, _, _⟩) (v := ?_) rfl (by kernel_rfl) (by rfl) hHeld ?_ ?_; rotate_left; (next => intro w' hSw; (try dsimp only at hSw); go_simp; all_goals with_reducible rfl); simp only [Act.put, pA9, pB9, pC9]
      refine takeOp 13 (o := ⟨_, _, _, _, _, _⟩) (v := ?_) rfl (by kernel_rfl) (by rfl) hHeld ?_ ?_; rotate_left; (next => intro w' hSw; (try dsimp only at hSw); go_simp; all_goals with_reducible rfl); simp only [Act.put, pA9, pB9, pC9]
      refine wpAnyH_ready (rs := [15]) (by kernel_rfl) (by simp) ?_
      refine AllReadyH.cons (o := ⟨_, _, _, _, _, _⟩) rfl (fun K hK => ?_) AllReadyH.nil
      have k0 := K94.out
      have f0 := row_frozen (i := 0) k0
      have f1 := row_frozen (i := 1) k0
      have f2 := row_frozen (i := 2) k0
      obtain ⟨t0, t1, t2⟩ := lblk_at k0
      go_simp
      clear f0 f1 f2 t0 t1 t2
      have KZ := Hid.of (lblk_set (n' := pn) (s' := .slice psa LN psc) (f' := .slice pfa LM pfc) k0)
      have gz := setL_grown w94 y pn (.slice psa LN psc) (.slice pfa LM pfc)
      have CSZ := Hid.of (CS94.out.grown gz (fun x hx c => by have h1 := Option.some.inj c; have h2 := HLZ.out x hx; omega))
      have BZ : Hid (Below w.heap.size w (setL w94 y pn (.slice psa LN psc) (.slice pfa LM pfc))) := Hid.of (B94.out.grown gz B94.out.size (fun k hk => by cases hk; exact HLY.out))
      have OZ := Hid.of (O94.out.off k0 gz)
      clear gz k0
      unfold setL at KZ CSZ BZ OZ
      clear hHeld d0 d1 d2 d3 d4 d5
      have d0 := (CSZ.out).head
      have d1 := ((CSZ.out).tail).head
      have d2 := (((CSZ.out).tail).tail).head
      have d3 := ((((CSZ.out).tail).tail).tail).head
      have d4 := (((((CSZ.out).tail).tail).tail).tail).head
      have d5 := ((((((CSZ.out).tail).tail).tail).tail).tail).head
      refine hK.out _ _ ⟨d0, d1, d2, d3, d4, d5⟩ (fun hHeld => ?_)
      clear hK K
      try simp only [Act.put, pA9, pB9, pC9]
      refine takeOp 16 (o := ⟨_, _, _, _, _, _⟩) (v := ?_) rfl (by kernel_rfl) (by rfl) hHeld ?_ ?_; rotate_left; (next => intro w' hSw; (try dsimp only at hSw); go_simp; all_goals with_reducible rfl); simp only [Act.put, pA9, pB9, pC9]
      refine wpAnyH_done (by kernel_rfl) ?_ _
      refine NoPanic.normal ?_
      clear hHeld d0 d1 d2 d3 d4 d5
      go_wp2_with fail
      go_meet
      exact ⟨y, pn, psa, pfa, psc, pfc, rfl, rfl, Hid.of ⟨KZ.out, OZ.out, BZ.out⟩⟩
  case rest =>
    obtain ⟨y, pn, psa, pfa, psc, pfc, rfl, rfl, H⟩ := hcut
    clear CS0 B0 X0 P0 T0
    have hbd := build_any S _ pl (HOK.out _) H.out.o.row FM.out P60.out (by have := H5.out; omega) PT60.out (S.kept HT.out H.out.fr.size (fun k hk => H.out.fr.block k (S.lt HT.out k hk))) HL.out HTF.out
    obtain ⟨c0, c1, c2⟩ := lblk_at H.out.k
    go_wp2_with fail
    refine hbd.mono ?_
    rintro e w5 ⟨h1, -, b5⟩
    obtain ⟨q, F, rfl, hr, hfr⟩ := (h1 HFI.out.1).1 HFI.out.2
    have H5b := Hid.of (H.out.next b5)
    have R5 := Hid.of hr
    clear hbd h1 hr hfr b5 H c0 c1 c2
    obtain ⟨nd, hnd⟩ : ∃ nd, iNeed (mTo pl r) (mBuilt pl r TT) = nd := ⟨_, rfl⟩
    have HND : Hid (nd ≤ 5000) := Hid.of (by
      rw [← hnd]
      refine iNeed_small ?_ HLB.out
      rw [(S.good R5.out).len]
      exact H5.out.2)
    have CS5 : Hid (Dc w5 [(⟨y, 0, none⟩, .string pn), (⟨y, 1, none⟩, .slice psa LN psc), (⟨y, 2, none⟩, .slice pfa LM pfc)]) := Hid.of (Dc.app (Dc.one H5b.out.k (i := 0) rfl) (Dc.app (Dc.one H5b.out.k (i := 1) rfl) (Dc.one H5b.out.k (i := 2) rfl)))
    have NDE := Hid.of hnd
    clear hnd
    go_upto_region 9 with fail
    have b6 : Below w5.heap.size w5 w5.drew := (Below.refl _ _).drew
    have H6 := Hid.of (H5b.out.next b6)
    have R6 := Hid.of (S.kept R5.out b6.size (fun k hk => b6.block k (S.lt R5.out k hk)))
    have CS6 := Hid.of (CS5.out.next b6)
    clear b6 R5 H5b
    have d0 := (CS5.out).head
    have d1 := ((CS5.out).tail).head
    have d2 := (((CS5.out).tail).tail).head
    refine wp_region_noPanic ?_
    refine wp_region_held_drew (S := fun w' => w'.cell? ⟨y, 0, none⟩ = some (.string pn) ∧ w'.cell? ⟨y, 1, none⟩ = some (.slice psa LN psc) ∧ w'.cell? ⟨y, 2, none⟩ = some (.slice pfa LM pfc)) (by kernel_rfl) ?_ (fun hHeld => ?_)
    · exact ⟨d0, d1, d2⟩
    refine takeOp 0 (o := ⟨_, _, _, _, _, _⟩) (v := ?_) rfl (by kernel_rfl) (by rfl) hHeld ?_ ?_; rotate_left; (next => intro w' hSw; (try dsimp only at hSw); go_simp; all_goals with_reducible rfl); simp only [Act.put, pA9, pB9, pC9]
    refine takeOp 1 (o := ⟨_, _, _, _, _, _⟩) (v := ?_) rfl (by kernel_rfl) (by rfl) hHeld ?_ ?_; rotate_left; (next => intro w' hSw; (try dsimp only at hSw); go_simp; all_goals with_reducible rfl); simp only [Act.put, pA9, pB9, pC9]
    refine takeOp 2 (o := ⟨_, _, _, _, _, _⟩) (v := ?_) rfl (by kernel_rfl) (by rfl) hHeld ?_ ?_; rotate_left; (next => intro w' hSw; (try dsimp only at hSw); go_simp; all_goals with_reducible rfl); simp only [Act.put, pA9, pB9, pC9]
    refine wpAnyH_ready (rs := [3]) (by kernel_rfl) (by simp) ?_
    refine AllReadyH.cons (o := ⟨_, _, _, _, _, _⟩) rfl (fun K hK => ?_) AllReadyH.nil
    clear CS5
    go_simp
    refine (S.need (HOK.out _) R6.out HLB.out).mono ?_
    rintro e w7 ⟨rfl, b7⟩
    rw [NDE.out]
    have H7 := Hid.of (H6.out.next b7)
    have CS7 := Hid.of (CS6.out.next b7)
    clear b7 H6 CS6 R6
    clear hHeld d0 d1 d2
    have d0 := (CS7.out).head
    have d1 := ((CS7.out).tail).head
    have d2 := (((CS7.out).tail).tail).head
    refine hK.out _ _ ⟨d0, d1, d2⟩ (fun hHeld => ?_)
    clear hK K
    try simp only [Act.put, pA9, pB9, pC9]
    refine wpAnyH_ready (rs := [4]) (by kernel_rfl) (by simp) ?_
    refine AllReadyH.cons (o := ⟨_, _, _, _, _, _⟩) rfl (fun K hK => ?_) AllReadyH.nil
    go_simp
    refine (bound_any _ pl (nd : Int) _ H7.out.o.row FM.out (by have := HND.out; unfold I64; omega)).mono ?_
    rintro e w8 ⟨rfl, b8⟩
    have H8 := Hid.of (H7.out.next b8)
    have CS8 := Hid.of (CS7.out.next b8)
    clear b8 H7 CS7
    clear hHeld d0 d1 d2
    have d0 := (CS8.out).head
    have d1 := ((CS8.out).tail).head
    have d2 := (((CS8.out).tail).tail).head
    refine hK.out _ _ ⟨d0, d1, d2⟩ (fun hHeld => ?_)
    clear hK K
    try simp only [Act.put, pA9, pB9, pC9]
    refine takeOp 5 (o := ⟨_, _, _, _, _, _⟩) (v := ?_) rfl (by kernel_rfl) (by rfl) hHeld ?_ ?_; rotate_left; (next => intro w' hSw; (try dsimp only at hSw); go_simp; all_goals with_reducible rfl); simp only [Act.put, pA9, pB9, pC9]
    refine wpAnyH_ready (rs := [6]) (by kernel_rfl) (by simp) ?_
    refine AllReadyH.cons (o := ⟨_, _, _, _, _, _⟩) rfl (fun K hK => ?_) AllReadyH.nil
    go_simp
    obtain ⟨p, hp⟩ : ∃ p, w8.heap.size = p := ⟨_, rfl⟩
    obtain ⟨w9, hw9⟩ : ∃ w9, w8.alloc (.cells #[.string pn, .slice psa LN psc, .slice pfa LM pfc, .int .i64 (mBound pl nd), .int .i64 0, .slice none 0 0] 138) = w9 := ⟨_, rfl⟩
    have b9 : Below w8.heap.size w8 w9 := by rw [← hw9]; exact (Below.refl _ _).alloc (Nat.le_refl _) _
    have HZ : Hid (HIs TS w9 p pl (mBound pl nd) 0 [] (.slice psa LN psc) (.slice pfa LM pfc) (.slice none 0 0) [] []) := Hid.of (by
      rw [← hw9, ← hp, ← H8.out.o.n]
      exact HIs.new (own_mono H8.out.o.hs (Nat.zero_le _)) (own_mono H8.out.o.hf (Nat.zero_le _)))
    have BZ := Hid.of (H8.out.fr.trans (b9.mono H8.out.fr.size))
    have HFA : Hid (∀ k, (hFoot p (.slice psa LN psc) (.slice pfa LM pfc) (.slice none 0 0) []).all k → w.heap.size ≤ k) := Hid.of (fun k hk => by
      rcases hk with rfl | (c | c | c) | ⟨F', hF', -⟩
      · rw [← hp]; exact H8.out.fr.size
      · exact own_ge H8.out.o.hs c
      · exact own_ge H8.out.o.hf c
      · cases c
      · exact absurd hF' List.not_mem_nil)
    have CS9 := Hid.of (CS8.out.next b9)
    rw [hw9, hp]
    clear b9 hw9 hp H8 CS8
    clear hHeld d0 d1 d2
    have d0 := (CS9.out).head
    have d1 := ((CS9.out).tail).head
    have d2 := (((CS9.out).tail).tail).head
    refine hK.out _ _ ⟨d0, d1, d2⟩ (fun hHeld => ?_)
    clear hK K
    try simp only [Act.put, pA9, pB9, pC9]
    refine takeOp 7 (o := ⟨_, _, _, _, _, _⟩) (v := ?_) rfl (by kernel_rfl) (by rfl) hHeld ?_ ?_; rotate_left; (next => intro w' hSw; (try dsimp only at hSw); go_simp; all_goals with_reducible rfl); simp only [Act.put, pA9, pB9, pC9]
    refine takeOp 8 (o := ⟨_, _, _, _, _, _⟩) (v := ?_) rfl (by kernel_rfl) (by rfl) hHeld ?_ ?_; rotate_left; (next => intro w' hSw; (try dsimp only at hSw); go_simp; all_goals with_reducible rfl); simp only [Act.put, pA9, pB9, pC9]
    refine wpAnyH_done (by kernel_rfl) ?_ _
    refine NoPanic.normal ?_
    clear hHeld d0 d1 d2 CS9
    go_wp2
    go_ret2
    exact ⟨p, _, _, rfl, by rw [NDE.out]; exact HZ.out, HFA.out, BZ.out⟩

set_option maxRecDepth 20000 in
set_option maxHeartbeats 3200000 in
theorem hFits_any {TS : TableSpec} (S : TiersSpec TS) (hOk : ∀ w, S.Ok w) {w : World} {p : Nat} {pl : PlanL} {bd dn : Int} {T : List (List TRec)} {s f v : Value} {qs : List Nat} {Fs : List TFoot} (h : HIs TS w p pl bd dn T s f v qs Fs) (hp : HPl pl) {pt : Nat} {r : RchL} {TT : List (List TRec)} {F : TFoot} (ht : S.Rep w pt r TT F) (hl : ∀ l ∈ TT, l.length ≤ 1000) (hT : ∀ l ∈ TT, ∀ z ∈ l, TFit z) (hlb : ∀ l ∈ mBuilt pl r TT, l.length ≤ 1000) :
    Calls Tryz.prog 85 #[tptr p, tptr pt] w fun x w' => SaidB (HFits pl r TT.length ∧ ((iNeed (mTo pl r) (mBuilt pl r TT) : Nat) : Int) ≤ bd) w x w' := by
  have hb := hBuilt_any S h hp (hOk w) ht hl hT
  have H := Hid.of h
  have HOK := Hid.of hOk
  have HLB := Hid.of hlb
  clear h hp ht hl hT hlb hOk
  go_enter Tryz.func85, Tryz.ntmps85
  go_wp2_with fail
  refine hb.mono ?_
  rintro e w2 ⟨h1, h2, b2⟩
  by_cases hf : HFits pl r TT.length
  · obtain ⟨q, F', rfl, hr, -⟩ := h1 hf
    have HF := Hid.of hf
    have H2 := Hid.of (H.out.below b2)
    have B2 := Hid.of b2
    have R2 := Hid.of hr
    have CS2 : Hid (Cs w2 [(⟨p, 3, none⟩, .int .i64 bd)]) := Hid.of (.cons H2.out.lt_p H2.out.c.2.2.2.1 (.nil _))
    clear hb h1 h2 hf hr b2 H
    obtain ⟨nd, hnd⟩ : ∃ nd, iNeed (mTo pl r) (mBuilt pl r TT) = nd := ⟨_, rfl⟩
    have NDE := Hid.of hnd
    clear hnd
    go_upto_region 2 with fail
    have b3 : Below w2.heap.size w2 w2.drew := (Below.refl _ _).drew
    have B2d := Hid.of (B2.out.trans (b3.mono B2.out.size))
    have R3 := Hid.of (S.kept R2.out b3.size (fun k hk => b3.block k (S.lt R2.out k hk)))
    have CS2d := Hid.of (CS2.out.next b3)
    clear b3 B2 R2
    have d0 := CS2.out.head
    refine wp_region_noPanic ?_
    refine wp_region_held_drew (S := fun w' => w'.cell? ⟨p, 3, none⟩ = some (.int .i64 bd)) (by kernel_rfl) ?_ (fun hHeld => ?_)
    · exact d0
    refine takeOp 0 (o := ⟨_, _, _, _, _, _⟩) (v := ?_) rfl (by kernel_rfl) (by rfl) hHeld ?_ ?_; rotate_left; (next => intro w' hSw; (try dsimp only at hSw); go_simp; all_goals with_reducible rfl); simp only [Act.put, pA9, pB9, pC9]
    refine takeOp 1 (o := ⟨_, _, _, _, _, _⟩) (v := ?_) rfl (by kernel_rfl) (by rfl) hHeld ?_ ?_; rotate_left; (next => intro w' hSw; (try dsimp only at hSw); go_simp; all_goals with_reducible rfl); simp only [Act.put, pA9, pB9, pC9]
    refine takeOp 2 (o := ⟨_, _, _, _, _, _⟩) (v := ?_) rfl (by kernel_rfl) (by rfl) hHeld ?_ ?_; rotate_left; (next => intro w' hSw; (try dsimp only at hSw); go_simp; all_goals with_reducible rfl); simp only [Act.put, pA9, pB9, pC9]
    refine takeOp 3 (o := ⟨_, _, _, _, _, _⟩) (v := ?_) rfl (by kernel_rfl) (by rfl) hHeld ?_ ?_; rotate_left; (next => intro w' hSw; (try dsimp only at hSw); go_simp; all_goals with_reducible rfl); simp only [Act.put, pA9, pB9, pC9]
    refine takeOp 5 (o := ⟨_, _, _, _, _, _⟩) (v := ?_) rfl (by kernel_rfl) (by rfl) hHeld ?_ ?_; rotate_left; (next => intro w' hSw; (try dsimp only at hSw); go_simp; all_goals with_reducible rfl); simp only [Act.put, pA9, pB9, pC9]
    refine takeOp 6 (o := ⟨_, _, _, _, _, _⟩) (v := ?_) rfl (by kernel_rfl) (by rfl) hHeld ?_ ?_; rotate_left; (next => intro w' hSw; (try dsimp only at hSw); go_simp; all_goals with_reducible rfl); simp only [Act.put, pA9, pB9, pC9]
    refine takeOp 7 (o := ⟨_, _, _, _, _, _⟩) (v := ?_) rfl (by kernel_rfl) (by rfl) hHeld ?_ ?_; rotate_left; (next => intro w' hSw; (try dsimp only at hSw); go_simp; all_goals with_reducible rfl); simp only [Act.put, pA9, pB9, pC9]
    refine takeOp 8 (o := ⟨_, _, _, _, _, _⟩) (v := ?_) rfl (by kernel_rfl) (by rfl) hHeld ?_ ?_; rotate_left; (next => intro w' hSw; (try dsimp only at hSw); go_simp; all_goals with_reducible rfl); simp only [Act.put, pA9, pB9, pC9]
    refine wpAnyH_ready (rs := [4]) (by kernel_rfl) (by simp) ?_
    refine AllReadyH.cons (o := ⟨_, _, _, _, _, _⟩) rfl (fun K hK => ?_) AllReadyH.nil
    clear CS2
    go_simp
    refine (S.need (HOK.out _) R3.out HLB.out).mono ?_
    rintro e w3 ⟨rfl, b3⟩
    rw [NDE.out]
    have B3 := Hid.of (B2d.out.trans (b3.mono B2d.out.size))
    have CS3 := Hid.of (CS2d.out.next b3)
    clear b3 B2d CS2d R3
    clear hHeld d0
    have d0 := CS3.out.head
    refine hK.out _ _ d0 (fun hHeld => ?_)
    clear hK K
    try simp only [Act.put, pA9, pB9, pC9]
    refine takeOp 9 (o := ⟨_, _, _, _, _, _⟩) (v := ?_) rfl (by kernel_rfl) (by rfl) hHeld ?_ ?_; rotate_left; (next => intro w' hSw; (try dsimp only at hSw); go_simp; all_goals with_reducible rfl); simp only [Act.put, pA9, pB9, pC9]
    refine takeOp 10 (o := ⟨_, _, _, _, _, _⟩) (v := ?_) rfl (by kernel_rfl) (by rfl) hHeld ?_ ?_; rotate_left; (next => intro w' hSw; (try dsimp only at hSw); go_simp; all_goals with_reducible rfl); simp only [Act.put, pA9, pB9, pC9]
    refine takeOp 11 (o := ⟨_, _, _, _, _, _⟩) (v := ?_) rfl (by kernel_rfl) (by rfl) hHeld ?_ ?_; rotate_left; (next => intro w' hSw; (try dsimp only at hSw); go_simp; all_goals with_reducible rfl); simp only [Act.put, pA9, pB9, pC9]
    refine wpAnyH_done (by kernel_rfl) ?_ _
    refine NoPanic.normal ?_
    clear hHeld d0 CS3
    have X : Hid (Opq (decide (((nd : Nat) : Int) ≤ bd)) (HFits pl r TT.length ∧ ((iNeed (mTo pl r) (mBuilt pl r TT) : Nat) : Int) ≤ bd)) := Hid.of (by
      rw [NDE.out]
      unfold Opq
      rw [decide_eq_true_eq]
      exact ⟨fun c => ⟨HF.out, c⟩, fun c => c.2⟩)
    obtain ⟨z, hz⟩ : ∃ z, decide (((nd : Nat) : Int) ≤ bd) = z := ⟨_, rfl⟩
    rw [hz] at X ⊢
    clear hz
    go_wp2
    go_ret
    exact ⟨z, rfl, Hid.of X.out, B3.out⟩
  · have e := h2 hf
    subst e
    have X : Hid (Opq false (HFits pl r TT.length ∧ ((iNeed (mTo pl r) (mBuilt pl r TT) : Nat) : Int) ≤ bd)) := Hid.of ⟨fun c => (by cases c), fun c => absurd c.1 hf⟩
    have B2 := Hid.of b2
    clear hb h1 h2 hf b2
    go_upto_region 2 with fail
    refine wp_region_noPanic ?_
    refine wp_region_held_drew (S := fun _ => True) (by kernel_rfl) trivial (fun hHeld => ?_)
    refine takeOp 0 (o := ⟨_, _, _, _, _, _⟩) (v := ?_) rfl (by kernel_rfl) (by rfl) hHeld ?_ ?_; rotate_left; (next => intro w' hSw; (try dsimp only at hSw); go_simp; all_goals with_reducible rfl); simp only [Act.put, pA9, pB9, pC9]
    refine takeOp 1 (o := ⟨_, _, _, _, _, _⟩) (v := ?_) rfl (by kernel_rfl) (by rfl) hHeld ?_ ?_; rotate_left; (next => intro w' hSw; (try dsimp only at hSw); go_simp; all_goals with_reducible rfl); simp only [Act.put, pA9, pB9, pC9]
    refine takeOp 2 (o := ⟨_, _, _, _, _, _⟩) (v := ?_) rfl (by kernel_rfl) (by rfl) hHeld ?_ ?_; rotate_left; (next => intro w' hSw; (try dsimp only at hSw); go_simp; all_goals with_reducible rfl); simp only [Act.put, pA9, pB9, pC9]
    refine skipOp 3 (o := ⟨_, _, _, _, _, _⟩) rfl (by kernel_rfl) (by rfl) hHeld ?_
    simp only [Act.put, pA9, pB9, pC9]
    refine skipOp 4 (o := ⟨_, _, _, _, _, _⟩) rfl (by kernel_rfl) (by rfl) hHeld ?_
    simp only [Act.put, pA9, pB9, pC9]
    refine skipOp 5 (o := ⟨_, _, _, _, _, _⟩) rfl (by kernel_rfl) (by rfl) hHeld ?_
    simp only [Act.put, pA9, pB9, pC9]
    refine skipOp 6 (o := ⟨_, _, _, _, _, _⟩) rfl (by kernel_rfl) (by rfl) hHeld ?_
    simp only [Act.put, pA9, pB9, pC9]
    refine skipOp 7 (o := ⟨_, _, _, _, _, _⟩) rfl (by kernel_rfl) (by rfl) hHeld ?_
    simp only [Act.put, pA9, pB9, pC9]
    refine skipOp 8 (o := ⟨_, _, _, _, _, _⟩) rfl (by kernel_rfl) (by rfl) hHeld ?_
    simp only [Act.put, pA9, pB9, pC9]
    refine skipOp 9 (o := ⟨_, _, _, _, _, _⟩) rfl (by kernel_rfl) (by rfl) hHeld ?_
    simp only [Act.put, pA9, pB9, pC9]
    refine takeOp 10 (o := ⟨_, _, _, _, _, _⟩) (v := ?_) rfl (by kernel_rfl) (by rfl) hHeld ?_ ?_; rotate_left; (next => intro w' hSw; (try dsimp only at hSw); go_simp; all_goals with_reducible rfl); simp only [Act.put, pA9, pB9, pC9]
    refine takeOp 11 (o := ⟨_, _, _, _, _, _⟩) (v := ?_) rfl (by kernel_rfl) (by rfl) hHeld ?_ ?_; rotate_left; (next => intro w' hSw; (try dsimp only at hSw); go_simp; all_goals with_reducible rfl); simp only [Act.put, pA9, pB9, pC9]
    refine wpAnyH_done (by kernel_rfl) ?_ _
    refine NoPanic.normal ?_
    clear hHeld
    have B3 := Hid.of (B2.out.trans (((Below.refl w2.heap.size w2).drew).mono B2.out.size))
    go_wp2
    go_ret
    exact ⟨false, rfl, Hid.of X.out, B3.out⟩

theorem hFits_nil (w : World) (t : Value) : Calls Tryz.prog 85 #[.pointer none, t] w fun x w' => x = .returned (.bool false) ∧ Below w.heap.size w w' := by
  go_enter Tryz.func85, Tryz.ntmps85
  go_wp2_with fail
  refine (hBuilt_nil w t).mono ?_
  rintro e w2 ⟨rfl, rfl⟩
  go_upto_region 2 with fail
  refine wp_region_noPanic ?_
  refine wp_region_held_drew (S := fun _ => True) (by kernel_rfl) trivial (fun hHeld => ?_)
  refine takeOp 0 (o := ⟨_, _, _, _, _, _⟩) (v := ?_) rfl (by kernel_rfl) (by rfl) hHeld ?_ ?_; rotate_left; (next => intro w' hSw; (try dsimp only at hSw); go_simp; all_goals with_reducible rfl); simp only [Act.put, pA9, pB9, pC9]
  refine takeOp 1 (o := ⟨_, _, _, _, _, _⟩) (v := ?_) rfl (by kernel_rfl) (by rfl) hHeld ?_ ?_; rotate_left; (next => intro w' hSw; (try dsimp only at hSw); go_simp; all_goals with_reducible rfl); simp only [Act.put, pA9, pB9, pC9]
  refine takeOp 2 (o := ⟨_, _, _, _, _, _⟩) (v := ?_) rfl (by kernel_rfl) (by rfl) hHeld ?_ ?_; rotate_left; (next => intro w' hSw; (try dsimp only at hSw); go_simp; all_goals with_reducible rfl); simp only [Act.put, pA9, pB9, pC9]
  refine skipOp 3 (o := ⟨_, _, _, _, _, _⟩) rfl (by kernel_rfl) (by rfl) hHeld ?_
  simp only [Act.put, pA9, pB9, pC9]
  refine skipOp 4 (o := ⟨_, _, _, _, _, _⟩) rfl (by kernel_rfl) (by rfl) hHeld ?_
  simp only [Act.put, pA9, pB9, pC9]
  refine skipOp 5 (o := ⟨_, _, _, _, _, _⟩) rfl (by kernel_rfl) (by rfl) hHeld ?_
  simp only [Act.put, pA9, pB9, pC9]
  refine skipOp 6 (o := ⟨_, _, _, _, _, _⟩) rfl (by kernel_rfl) (by rfl) hHeld ?_
  simp only [Act.put, pA9, pB9, pC9]
  refine skipOp 7 (o := ⟨_, _, _, _, _, _⟩) rfl (by kernel_rfl) (by rfl) hHeld ?_
  simp only [Act.put, pA9, pB9, pC9]
  refine skipOp 8 (o := ⟨_, _, _, _, _, _⟩) rfl (by kernel_rfl) (by rfl) hHeld ?_
  simp only [Act.put, pA9, pB9, pC9]
  refine skipOp 9 (o := ⟨_, _, _, _, _, _⟩) rfl (by kernel_rfl) (by rfl) hHeld ?_
  simp only [Act.put, pA9, pB9, pC9]
  refine takeOp 10 (o := ⟨_, _, _, _, _, _⟩) (v := ?_) rfl (by kernel_rfl) (by rfl) hHeld ?_ ?_; rotate_left; (next => intro w' hSw; (try dsimp only at hSw); go_simp; all_goals with_reducible rfl); simp only [Act.put, pA9, pB9, pC9]
  refine takeOp 11 (o := ⟨_, _, _, _, _, _⟩) (v := ?_) rfl (by kernel_rfl) (by rfl) hHeld ?_ ?_; rotate_left; (next => intro w' hSw; (try dsimp only at hSw); go_simp; all_goals with_reducible rfl); simp only [Act.put, pA9, pB9, pC9]
  refine wpAnyH_done (by kernel_rfl) ?_ _
  refine NoPanic.normal ?_
  clear hHeld
  have B3 := Hid.of ((Below.refl w2.heap.size w2).drew)
  go_wp2
  go_ret
  exact ⟨rfl, B3.out⟩

end Go.Proofs.YtbhcafginmkaaaaGreat
