/-
  A bundle of texts: IEA IEB.
-/
import Derived.Deep.MidRow
import Derived.Deep.QuietTactic
import Derived.BigQuiet
import Derived.Deep.RegionHeld3
import Derived.Test.YtbhcafginmkaaaaGreatN26
import Derived.Test.YtbhcafginmkaaaaGreatN16
import Derived.Test.YtbhcafginmkaaaaGreatN06
namespace Go.Proofs.YtbhcafginmkaaaaGreat
open Go.RowKit Go.Lib

theorem iown_at {w w' : World} {D : Nat} {e : TypeId} {sz n : Nat} {v : Value} {xs : List Value} (h : w.ownsRow D e sz v n xs) (k : ∀ g, v.ownBlock = some g → w'.heap[g]? = w.heap[g]?) : w'.ownsRow D e sz v n xs := by
  refine ⟨h.1, ?_⟩
  rcases h.2 with h0 | ⟨g, cap, cur, rfl, hB, hrow, rest⟩
  · exact .inl h0
  · exact .inr ⟨g, cap, cur, rfl, hB, (k g rfl).trans hrow, rest⟩
theorem iown_lt {w : World} {D : Nat} {e : TypeId} {sz n : Nat} {v : Value} {xs : List Value} (h : w.ownsRow D e sz v n xs) {g : Nat} (hg : v.ownBlock = some g) : g < w.heap.size := by
  rcases h.2 with ⟨rfl, _⟩ | ⟨g', cap, cur, rfl, hB, hrow, rest⟩
  · cases hg
  · cases hg
    exact (Array.getElem?_eq_some_iff.1 hrow).1

theorem iown_kept {w w' : World} {D : Nat} {e : TypeId} {sz n : Nat} {v : Value} {xs : List Value} (h : w.ownsRow D e sz v n xs) (b : Below w.heap.size w w') : w'.ownsRow D e sz v n xs := iown_at h (fun g hg => b.block g (iown_lt h hg))

/-- The blocks of the reach's lists, and of the tables' list. -/
def IRows (s f v : Value) (k : Nat) : Prop := s.ownBlock = some k ∨ f.ownBlock = some k ∨ v.ownBlock = some k

def iFoot (p : Nat) (s f v : Value) (Fs : List TFoot) : TFoot :=
  ⟨fun k => k = p ∨ ∃ F ∈ Fs, F.own k, fun k => k = p ∨ IRows s f v k ∨ ∃ F ∈ Fs, F.all k⟩

structure ITs (TS : TableSpec) (w : World) (p : Nat) (r : RchL) (T : List (List TRec)) (s f v : Value) (qs : List Nat) (Fs : List TFoot) : Prop where
  cell : w.heap[p]? = some (.cells #[.int .i64 r.1, .string r.2.1.1, s, f, v] 76 (0, 0))
  hs : w.ownsRow 0 89 4 s r.2.1.2.length (flat penc r.2.1.2)
  hf : w.ownsRow 0 3 1 f r.2.2.length (r.2.2.map (Value.int .i64))
  hv : w.ownsRow 0 192 1 v qs.length (qs.map tptr)
  ql : qs.length = T.length
  fl : Fs.length = T.length
  rep : ∀ (i q : Nat) l F, qs[i]? = some q → T[i]? = some l → Fs[i]? = some F → TS.Rep w q (tEv r i) l F
  apart : ∀ (i j k : Nat) F G, Fs[i]? = some F → Fs[j]? = some G → i ≠ j → F.all k → ¬ G.own k
  off : ∀ F ∈ Fs, ∀ k, F.own k → ¬ IRows s f v k
  out : ∀ F ∈ Fs, ¬ F.all p
  pp : ¬ IRows s f v p
  fit : RFit r

section
variable {TS : TableSpec} {w w' : World} {p : Nat} {r : RchL} {T : List (List TRec)} {s f v : Value} {qs : List Nat} {Fs : List TFoot}

theorem ITs.at_i (h : ITs TS w p r T s f v qs Fs) {i : Nat} {l : List TRec} (hl : T[i]? = some l) : ∃ q F, qs[i]? = some q ∧ Fs[i]? = some F ∧ TS.Rep w q (tEv r i) l F := by
  have hi := (List.getElem?_eq_some_iff.1 hl).1
  obtain ⟨q, hq⟩ : ∃ q, qs[i]? = some q := ⟨_, List.getElem?_eq_getElem (by rw [h.ql]; exact hi)⟩
  obtain ⟨F, hF⟩ : ∃ F, Fs[i]? = some F := ⟨_, List.getElem?_eq_getElem (by rw [h.fl]; exact hi)⟩
  exact ⟨q, F, hq, hF, h.rep i q l F hq hl hF⟩

theorem ITs.of_foot (h : ITs TS w p r T s f v qs Fs) {F : TFoot} (hF : F ∈ Fs) : ∃ i q l, Fs[i]? = some F ∧ TS.Rep w q (tEv r i) l F := by
  obtain ⟨i, hi⟩ := List.getElem?_of_mem hF
  have hl := (List.getElem?_eq_some_iff.1 hi).1
  obtain ⟨l, hT⟩ : ∃ l, T[i]? = some l := ⟨_, List.getElem?_eq_getElem (by rw [← h.fl]; exact hl)⟩
  obtain ⟨q, hq⟩ : ∃ q, qs[i]? = some q := ⟨_, List.getElem?_eq_getElem (by rw [h.ql, ← h.fl]; exact hl)⟩
  exact ⟨i, q, l, hi, h.rep i q l F hq hT hi⟩

theorem ITs.lt_p (h : ITs TS w p r T s f v qs Fs) : p < w.heap.size := (Array.getElem?_eq_some_iff.1 h.cell).1
theorem ITs.lt_rows (h : ITs TS w p r T s f v qs Fs) {k : Nat} (hk : IRows s f v k) : k < w.heap.size := by
  rcases hk with c | c | c
  · exact iown_lt h.hs c
  · exact iown_lt h.hf c
  · exact iown_lt h.hv c
theorem ITs.lt (h : ITs TS w p r T s f v qs Fs) {k : Nat} (hk : (iFoot p s f v Fs).all k) : k < w.heap.size := by
  rcases hk with rfl | c | ⟨F, hF, c⟩
  · exact h.lt_p
  · exact h.lt_rows c
  · obtain ⟨i, q, l, _, hr⟩ := h.of_foot hF
    exact TS.lt hr k c
theorem ITs.sub (h : ITs TS w p r T s f v qs Fs) {k : Nat} (hk : (iFoot p s f v Fs).own k) : (iFoot p s f v Fs).all k := by
  rcases hk with rfl | ⟨F, hF, c⟩
  · exact .inl rfl
  · obtain ⟨i, q, l, _, hr⟩ := h.of_foot hF
    exact .inr (.inr ⟨F, hF, TS.sub hr k c⟩)

/-- They lie as they did where their blocks are as they were. -/
theorem ITs.at (h : ITs TS w p r T s f v qs Fs) (hs : w.heap.size ≤ w'.heap.size) (k : ∀ i, (iFoot p s f v Fs).all i → w'.heap[i]? = w.heap[i]?) : ITs TS w' p r T s f v qs Fs where
  cell := (k p (.inl rfl)).trans h.cell
  hs := iown_at h.hs (fun g hg => k g (.inr (.inl (.inl hg))))
  hf := iown_at h.hf (fun g hg => k g (.inr (.inl (.inr (.inl hg)))))
  hv := iown_at h.hv (fun g hg => k g (.inr (.inl (.inr (.inr hg)))))
  ql := h.ql
  fl := h.fl
  rep i q l F hq hl hF := TS.kept (h.rep i q l F hq hl hF) hs (fun j hj => k j (.inr (.inr ⟨F, List.mem_of_getElem? hF, hj⟩)))
  apart := h.apart
  off := h.off
  out := h.out
  pp := h.pp
  fit := h.fit
theorem ITs.below (h : ITs TS w p r T s f v qs Fs) (b : Below w.heap.size w w') : ITs TS w' p r T s f v qs Fs := h.at b.size (fun i hi => b.block i (h.lt hi))

theorem ITs.c (h : ITs TS w p r T s f v qs Fs) : w.cell? ⟨p, 0, none⟩ = some (.int .i64 r.1) ∧ w.cell? ⟨p, 1, none⟩ = some (.string r.2.1.1) ∧ w.cell? ⟨p, 2, none⟩ = some s ∧ w.cell? ⟨p, 3, none⟩ = some f ∧ w.cell? ⟨p, 4, none⟩ = some v := by
  refine ⟨?_, ?_, ?_, ?_, ?_⟩ <;> (rw [cell_of_row w p _ _ _ _ h.cell]; rfl)
theorem ITs.reach (h : ITs TS w p r T s f v qs Fs) : RchRow w (rVal r s f) r := ⟨s, f, rfl, own_row h.hs, own_row h.hf, own_cap h.hs, own_cap h.hf⟩
theorem ITs.tabs (h : ITs TS w p r T s f v qs Fs) : CellRow w v T.length (qs.map tptr) := by rw [← h.ql]; exact own_row h.hv

/-- One table has been turned by a call of its own. -/
theorem ITs.step (h : ITs TS w p r T s f v qs Fs) {j q : Nat} {l l' : List TRec} {F F' : TFoot} (hq : qs[j]? = some q) (hl : T[j]? = some l) (hF : Fs[j]? = some F) (rep' : TS.Rep w' q (tEv r j) l' F') (st : TStep F F' w w') :
    ITs TS w' p r (T.set j l') s f v qs (Fs.set j F') ∧ TStep (iFoot p s f v Fs) (iFoot p s f v (Fs.set j F')) w w' := by
  have hjT : j < T.length := (List.getElem?_eq_some_iff.1 hl).1
  have hjF : j < Fs.length := (List.getElem?_eq_some_iff.1 hF).1
  have hmF := List.mem_of_getElem? hF
  have hrep := h.rep j q l F hq hl hF
  have hp : ¬ F.own p := fun c => h.out F hmF (TS.sub hrep p c)
  have hrow : ∀ {e : TypeId} {sz n : Nat} {u : Value} {xs : List Value}, w.ownsRow 0 e sz u n xs → (∀ g, u.ownBlock = some g → IRows s f v g) → w'.ownsRow 0 e sz u n xs := fun hr ho =>
    iown_at hr (fun g hg => st.own.block g (iown_lt hr hg) (fun c => h.off F hmF g c (ho g hg)))
  have hset : ∀ (i : Nat) G, (Fs.set j F')[i]? = some G → i = j ∧ G = F' ∨ i ≠ j ∧ Fs[i]? = some G := fun i G hG => by
    by_cases c : i = j
    · subst c
      rw [List.getElem?_set_self hjF] at hG
      exact .inl ⟨rfl, (Option.some.inj hG).symm⟩
    · rw [List.getElem?_set_ne (fun e => c e.symm)] at hG
      exact .inr ⟨c, hG⟩
  have hlt : ∀ G ∈ Fs, ∀ k, G.all k → k < w.heap.size := fun G hG k c => h.lt (.inr (.inr ⟨G, hG, c⟩))
  refine ⟨{
    cell := (st.own.block p h.lt_p hp).trans h.cell
    hs := hrow h.hs (fun g hg => .inl hg)
    hf := hrow h.hf (fun g hg => .inr (.inl hg))
    hv := hrow h.hv (fun g hg => .inr (.inr hg))
    ql := by rw [List.length_set]; exact h.ql
    fl := by rw [List.length_set, List.length_set]; exact h.fl
    rep := fun i q2 l2 G hq2 hl2 hG => ?_
    apart := fun i i2 k G G2 hG hG2 hne c => ?_
    off := fun G hG k c => ?_
    out := fun G hG c => ?_
    pp := h.pp
    fit := h.fit }, ?_, ?_⟩
  · rcases hset i G hG with ⟨rfl, rfl⟩ | ⟨hne, hG⟩
    · rw [List.getElem?_set_self hjT] at hl2
      cases hl2
      rw [hq] at hq2
      cases hq2
      exact rep'
    · rw [List.getElem?_set_ne (fun e => hne e.symm)] at hl2
      refine TS.kept (h.rep i q2 l2 G hq2 hl2 hG) st.own.size (fun k hk => st.own.block k (hlt G (List.mem_of_getElem? hG) k hk) (fun c => ?_))
      exact h.apart i j k G F hG hF hne hk c
  · rcases hset i G hG with ⟨e1, e2⟩ | ⟨h1, k1⟩ <;> rcases hset i2 G2 hG2 with ⟨e3, e4⟩ | ⟨h2, k2⟩
    · exact absurd (e1.trans e3.symm) hne
    · subst e1 e2
      intro d
      rcases st.more k c with e | e
      · exact h.apart i i2 k F G2 hF k2 hne e d
      · obtain ⟨i', q', l', _, hr'⟩ := h.of_foot (List.mem_of_getElem? k2)
        have := TS.lt hr' k (TS.sub hr' k d)
        omega
    · subst e3 e4
      intro d
      rcases st.own.foot k d with e | e
      · exact h.apart i i2 k G F k1 hF hne c e
      · have := hlt G (List.mem_of_getElem? k1) k c
        omega
    · exact h.apart i i2 k G G2 k1 k2 hne c
  · obtain ⟨i, hi⟩ := List.getElem?_of_mem hG
    rcases hset i G hi with ⟨_, rfl⟩ | ⟨_, hG'⟩
    · intro d
      rcases st.own.foot k c with e | e
      · exact h.off F hmF k e d
      · have := h.lt_rows d
        omega
    · exact h.off G (List.mem_of_getElem? hG') k c
  · obtain ⟨i, hi⟩ := List.getElem?_of_mem hG
    rcases hset i G hi with ⟨_, rfl⟩ | ⟨_, hG'⟩
    · rcases st.more p c with e | e
      · exact h.out F hmF e
      · have := h.lt_p
        omega
    · exact h.out G (List.mem_of_getElem? hG') c
  · refine ⟨st.own.os, st.own.tape, st.own.output, st.own.size, fun k hk hn => st.own.block k hk (fun c => hn (.inr ⟨F, hmF, c⟩)), fun k hk => ?_⟩
    rcases hk with c | ⟨G, hG, c⟩
    · exact .inl (.inl c)
    · obtain ⟨i, hi⟩ := List.getElem?_of_mem hG
      rcases hset i G hi with ⟨_, rfl⟩ | ⟨_, hG'⟩
      · rcases st.own.foot k c with e | e
        · exact .inl (.inr ⟨F, hmF, e⟩)
        · exact .inr e
      · exact .inl (.inr ⟨G, List.mem_of_getElem? hG', c⟩)
  · intro k hk
    rcases hk with c | c | ⟨G, hG, c⟩
    · exact .inl (.inl c)
    · exact .inl (.inr (.inl c))
    · obtain ⟨i, hi⟩ := List.getElem?_of_mem hG
      rcases hset i G hi with ⟨_, rfl⟩ | ⟨_, hG'⟩
      · rcases st.more k c with e | e
        · exact .inl (.inr (.inr ⟨F, hmF, e⟩))
        · exact .inr e
      · exact .inl (.inr (.inr ⟨G, List.mem_of_getElem? hG', c⟩))

/-- Time has gone on: the first cell is written. -/
theorem ITs.now (h : ITs TS w p r T s f v qs Fs) (n : Int) (hn : RFit (iNow r n)) : ITs TS (w.setCell ⟨p, 0, none⟩ (.int .i64 (r.1 + n))) p (iNow r n) T s f v qs Fs ∧ TStep (iFoot p s f v Fs) (iFoot p s f v Fs) w (w.setCell ⟨p, 0, none⟩ (.int .i64 (r.1 + n))) := by
  have g := grownBy_setCell w p 0 (.int .i64 (r.1 + n))
  have hne : ∀ k, k < w.heap.size → k ≠ p → (w.setCell ⟨p, 0, none⟩ (.int .i64 (r.1 + n))).heap[k]? = w.heap[k]? := fun k hk hn => g.block k hk (fun c => hn (Option.some.inj c))
  have hpr : ∀ k, IRows s f v k → k ≠ p := fun k hk c => h.pp (c ▸ hk)
  refine ⟨{
    cell := by
      have := row_set (i := 0) h.cell (.int .i64 (r.1 + n))
      rw [this]
      simp [iNow]
    hs := iown_at h.hs (fun k hk => hne k (iown_lt h.hs hk) (hpr k (.inl hk)))
    hf := iown_at h.hf (fun k hk => hne k (iown_lt h.hf hk) (hpr k (.inr (.inl hk))))
    hv := iown_at h.hv (fun k hk => hne k (iown_lt h.hv hk) (hpr k (.inr (.inr hk))))
    ql := h.ql
    fl := h.fl
    rep := fun i q l F hq hl hF => TS.kept (h.rep i q l F hq hl hF) g.size (fun k hk => hne k (TS.lt (h.rep i q l F hq hl hF) k hk) (fun c => h.out F (List.mem_of_getElem? hF) (c ▸ hk)))
    apart := h.apart
    off := h.off
    out := h.out
    pp := h.pp
    fit := hn }, ⟨g.os, g.tape, g.output, g.size, fun k hk hn => hne k hk (fun c => hn (.inl c)), fun k hk => .inl hk⟩, fun k hk => .inl hk⟩
end

/-- The tiers at block p. -/
def IRep (TS : TableSpec) (w : World) (p : Nat) (r : RchL) (T : List (List TRec)) (F : TFoot) : Prop := ∃ s f v qs Fs, ITs TS w p r T s f v qs Fs ∧ IGood r T ∧ F = iFoot p s f v Fs

section
variable {TS : TableSpec} {w w' : World} {p : Nat} {r : RchL} {T : List (List TRec)} {F : TFoot}
theorem IRep.lt (h : IRep TS w p r T F) : ∀ k, F.all k → k < w.heap.size := by
  obtain ⟨s, f, v, qs, Fs, h, _, rfl⟩ := h
  exact fun k hk => h.lt hk
theorem IRep.sub (h : IRep TS w p r T F) : ∀ k, F.own k → F.all k := by
  obtain ⟨s, f, v, qs, Fs, h, _, rfl⟩ := h
  exact fun k hk => h.sub hk
theorem IRep.kept (h : IRep TS w p r T F) (hs : w.heap.size ≤ w'.heap.size) (k : ∀ i, F.all i → w'.heap[i]? = w.heap[i]?) : IRep TS w' p r T F := by
  obtain ⟨s, f, v, qs, Fs, h, g, rfl⟩ := h
  exact ⟨s, f, v, qs, Fs, h.at hs k, g, rfl⟩
theorem IRep.good (h : IRep TS w p r T F) : IGood r T := by
  obtain ⟨s, f, v, qs, Fs, _, g, _⟩ := h
  exact g
theorem IRep.fit (h : IRep TS w p r T F) : RFit r := by
  obtain ⟨s, f, v, qs, Fs, h, _, _⟩ := h
  exact h.fit
theorem IRep.cells (h : IRep TS w p r T F) : ∃ s f, w.cell? ⟨p, 0, none⟩ = some (.int .i64 r.1) ∧ w.cell? ⟨p, 1, none⟩ = some (.string r.2.1.1) ∧ w.cell? ⟨p, 2, none⟩ = some s ∧ w.cell? ⟨p, 3, none⟩ = some f ∧ RchRow w (rVal r s f) r := by
  obtain ⟨s, f, v, qs, Fs, h, _, _⟩ := h
  obtain ⟨c0, c1, c2, c3, _⟩ := h.c
  exact ⟨s, f, c0, c1, c2, c3, h.reach⟩
end

/-- The first j are done. -/
def doneTo (g : Nat → List TRec → List TRec) (T : List (List TRec)) (j : Nat) : List (List TRec) := T.mapIdx fun i l => if i < j then g i l else l

theorem doneTo_zero (g : Nat → List TRec → List TRec) (T : List (List TRec)) : doneTo g T 0 = T := by
  refine List.ext_getElem? fun i => ?_
  unfold doneTo
  rw [List.getElem?_mapIdx]
  cases T[i]? <;> rfl
theorem doneTo_len (g : Nat → List TRec → List TRec) (T : List (List TRec)) (j : Nat) : (doneTo g T j).length = T.length := by unfold doneTo; rw [List.length_mapIdx]
theorem doneTo_all (g : Nat → List TRec → List TRec) (T : List (List TRec)) : doneTo g T T.length = T.mapIdx g := by
  refine List.ext_getElem? fun i => ?_
  unfold doneTo
  rw [List.getElem?_mapIdx, List.getElem?_mapIdx]
  cases h : T[i]? with
  | none => rfl
  | some l =>
    have := (List.getElem?_eq_some_iff.1 h).1
    simp only [Option.map_some]
    rw [if_pos this]
theorem doneTo_at (g : Nat → List TRec → List TRec) {T : List (List TRec)} {j : Nat} {l : List TRec} (h : T[j]? = some l) : (doneTo g T j)[j]? = some l := by
  unfold doneTo
  rw [List.getElem?_mapIdx, h]
  simp
theorem doneTo_succ (g : Nat → List TRec → List TRec) {T : List (List TRec)} {j : Nat} {l : List TRec} (h : T[j]? = some l) : doneTo g T (j + 1) = (doneTo g T j).set j (g j l) := by
  refine List.ext_getElem? fun i => ?_
  have hj := (List.getElem?_eq_some_iff.1 h).1
  by_cases c : i = j
  · subst c
    rw [List.getElem?_set_self (by rw [doneTo_len]; exact hj)]
    unfold doneTo
    rw [List.getElem?_mapIdx, h]
    simp
  · rw [List.getElem?_set_ne (fun e => c e.symm)]
    unfold doneTo
    rw [List.getElem?_mapIdx, List.getElem?_mapIdx]
    cases T[i]? with
    | none => rfl
    | some x =>
      simp only [Option.map_some]
      by_cases d : i < j
      · rw [if_pos d, if_pos (by omega)]
      · rw [if_neg d, if_neg (by omega)]

end Go.Proofs.YtbhcafginmkaaaaGreat

namespace Go.Proofs.YtbhcafginmkaaaaGreat
open Go.RowKit Go.Lib

theorem IGood.pos {r : RchL} {T : List (List TRec)} (h : IGood r T) : 0 < T.length ∧ T.length ≤ 5 := by
  have h1 := (pCheck_ok h.chk).2.2
  rw [h.len]
  exact ⟨h1.1, h1.2.1⟩

set_option maxRecDepth 20000 in
theorem iNone_any {TS : TableSpec} {w : World} {p : Nat} {r : RchL} {T : List (List TRec)} {s f v : Value} {qs : List Nat} {Fs : List TFoot} (h : ITs TS w p r T s f v qs Fs) (hT : 0 < T.length) :
    Calls Tryz.prog 180 #[tptr p] w fun e w' => e = .returned (.bool false) ∧ w' = w := by
  obtain ⟨-, -, -, -, c4⟩ := h.c
  obtain ⟨va, vc, rfl, -⟩ := h.tabs
  obtain ⟨N, hN⟩ : ∃ N, T.length = N := ⟨_, rfl⟩
  rw [hN] at c4 hT
  have h1 : ((N : Int) == 0) = false := beq_eq_false_iff_ne.2 (by omega)
  clear h hN
  go_enter Tryz.func180, Tryz.ntmps180
  go_wp2
  go_ret
  exact ⟨rfl, rfl⟩

set_option maxRecDepth 20000 in
theorem iAt_any {TS : TableSpec} {w : World} {p : Nat} {r : RchL} {T : List (List TRec)} {s f v : Value} {qs : List Nat} {Fs : List TFoot} (h : ITs TS w p r T s f v qs Fs) {j q : Nat} (hq : qs[j]? = some q) :
    Calls Tryz.prog 183 #[tptr p, .int .i64 j] w fun e w' => e = .returned (tptr q) ∧ w' = w := by
  obtain ⟨-, -, -, -, c4⟩ := h.c
  have hr := h.tabs
  obtain ⟨va, vc, rfl, -⟩ := h.tabs
  have hj : j < T.length := by rw [← h.ql]; exact (List.getElem?_eq_some_iff.1 hq).1
  obtain ⟨b, o, rfl, hb, c⟩ := hr.at j (tptr q) (by rw [List.getElem?_map, hq]; rfl)
  obtain ⟨N, hN⟩ : ∃ N, T.length = N := ⟨_, rfl⟩
  rw [hN] at c4 hj
  have h1 : ¬ (j : Int) < 0 := by omega
  have h2 : ¬ (j : Int) ≥ (N : Int) := by omega
  have h3 : (j : Int) < (N : Int) := by omega
  have h4 : (0 : Int) ≤ (j : Int) := by omega
  clear h hN hr hq hb hj
  go_enter Tryz.func183, Tryz.ntmps183
  go_wp2
  go_ret
  exact ⟨rfl, rfl⟩

set_option maxRecDepth 20000 in
theorem iAt_no {TS : TableSpec} {w : World} {p : Nat} {r : RchL} {T : List (List TRec)} {s f v : Value} {qs : List Nat} {Fs : List TFoot} (h : ITs TS w p r T s f v qs Fs) {i : Int} (hi : ¬ (0 ≤ i ∧ i.toNat < T.length)) :
    Calls Tryz.prog 183 #[tptr p, .int .i64 i] w fun e w' => e = .returned (.pointer none) ∧ w' = w := by
  obtain ⟨-, -, -, -, c4⟩ := h.c
  obtain ⟨va, vc, rfl, -⟩ := h.tabs
  obtain ⟨N, hN⟩ : ∃ N, T.length = N := ⟨_, rfl⟩
  rw [hN] at c4 hi
  have hc : i < 0 ∨ ¬ i < 0 ∧ i ≥ (N : Int) := by omega
  clear h hN hi
  rcases hc with h1 | ⟨h1, h2⟩
  all_goals
    go_enter Tryz.func183, Tryz.ntmps183
    go_wp2
    go_ret
    exact ⟨rfl, rfl⟩

/-- May these be the floors of the first tiers? -/
def flFit (fl : List Int) (l : List TierL) : Bool := decide (fl.length ≤ l.length) && !flBad fl l

theorem flBad_at {fl : List Int} {l : List TierL} {j : Nat} {x : Int} {t : TierL} (h1 : fl[j]? = some x) (h2 : l[j]? = some t) (h : (decide (x < 0) || !gOn x t.2.1) = true) : flBad fl l = true :=
  List.any_eq_true.2 ⟨(x, t), List.mem_of_getElem? (List.getElem?_zip_eq_some.2 ⟨h1, h2⟩), h⟩
theorem flBad_take {fl : List Int} {l : List TierL} {j : Nat} {x : Int} {t : TierL} (h1 : fl[j]? = some x) (h2 : l[j]? = some t) (h : (decide (x < 0) || !gOn x t.2.1) = false) (hb : flBad (fl.take j) l = false) : flBad (fl.take (j + 1)) l = false := by
  unfold flBad at hb ⊢
  rw [List.any_eq_false] at hb ⊢
  intro y hy
  obtain ⟨i, hi⟩ := List.getElem?_of_mem hy
  obtain ⟨k1, k2⟩ := List.getElem?_zip_eq_some.1 hi
  rw [List.getElem?_take] at k1
  split at k1
  · by_cases c : i = j
    · subst c
      rw [h1] at k1
      rw [h2] at k2
      obtain ⟨y1, y2⟩ := y
      cases k1
      cases k2
      simpa using h
    · refine hb y (List.mem_of_getElem? (i := i) (List.getElem?_zip_eq_some.2 ⟨?_, k2⟩))
      rw [List.getElem?_take, if_pos (by omega)]
      exact k1
  · cases k1

set_option maxRecDepth 20000 in
set_option maxHeartbeats 1600000 in
theorem iFit_any (u v : Value) (l : List TierL) (fl : List Int) (w : World) (hu : CellRow w u l.length (flat penc l)) (hv : CellRow w v fl.length (fl.map (Value.int .i64))) (hl : l.length ≤ 1000000) (hf : fl.length ≤ 1000000) :
    Calls Tryz.prog 172 #[u, v] w fun e w' => e = .returned (.bool (flFit fl l)) ∧ ∃ q, w' = w.drewN q := by
  have HS := Hid.of hu
  have HT := Hid.of hv
  obtain ⟨sa, sc, rfl, -⟩ := hu
  obtain ⟨ta, tc, rfl, -⟩ := hv
  obtain ⟨N, hN⟩ : ∃ N, l.length = N := ⟨_, rfl⟩
  obtain ⟨M, hM⟩ : ∃ M, fl.length = M := ⟨_, rfl⟩
  have HN := Hid.of hN
  have HM := Hid.of hM
  rw [hN, hM]
  rw [hN] at HS hl
  rw [hM] at HT hf
  by_cases hlen : M ≤ N
  · have h1 : ¬ (M : Int) > (N : Int) := by omega
    have HR : Hid (flFit fl l = !flBad fl l) := Hid.of (by unfold flFit; rw [hN, hM, decide_eq_true hlen]; rfl)
    have HL := Hid.of hlen
    clear hlen hN hM
    go_enter Tryz.func172, Tryz.ntmps172
    go_wp2
    go_loopg [5, 6, 14] M (fun kx _ _ iv wr => ∃ j : Nat, iv = .int .i64 j ∧ j ≤ M ∧ M - j ≤ kx ∧ Hid (flBad (fl.take j) l = false) ∧ ∃ q, wr = w.drewN q)
    case atStart => exact ⟨0, rfl, Nat.zero_le _, Nat.le_refl _, Hid.of rfl, 0, rfl⟩
    case round =>
      obtain ⟨j, rfl, hj, hk, HB, q, rfl⟩ := hrel
      have j0 : (0 : Int) ≤ (j : Int) := Int.natCast_nonneg _
      by_cases hlt : (j : Int) < (M : Int)
      · obtain ⟨x, hx⟩ : ∃ x, fl[j]? = some x := ⟨_, List.getElem?_eq_getElem (by have := HM.out; omega)⟩
        obtain ⟨t, ht⟩ : ∃ t, l[j]? = some t := ⟨_, List.getElem?_eq_getElem (by have := HN.out; have := HL.out; omega)⟩
        obtain ⟨b1, o1, rfl, g1, d1⟩ := HT.out.at j (.int .i64 x) (by rw [List.getElem?_map, hx]; rfl)
        obtain ⟨b2, o2, rfl, g2, hc2⟩ := p_at HS.out j t ht
        obtain ⟨t0, t1, t2, t3⟩ := t
        obtain ⟨f0, f1, f2, f3⟩ := hc2
        simp only at f0 f1 f2 f3
        have i2 : (j : Int) < (N : Int) := by have := HL.out; omega
        have HX := Hid.of hx
        have HY := Hid.of ht
        have HJ : Hid (j < M) := Hid.of (by omega)
        clear hx ht g1 g2 f0 f2 f3
        by_cases hx0 : x < 0
        · have HZ : Hid (flBad fl l = true) := Hid.of (flBad_at HX.out HY.out (by rw [decide_eq_true hx0]; rfl))
          go_wp2
          go_ret
          rw [HR.out, HZ.out]
          exact ⟨rfl, _, rfl⟩
        · obtain ⟨g, hg⟩ : ∃ g, gOn x t1 = g := ⟨_, rfl⟩
          have hon := On_any x t1 (w.drewN q)
          rw [hg] at hon
          have HG := Hid.of hg
          have HX0 := Hid.of hx0
          clear hg
          go_wp2_with fail
          refine hon.mono ?_
          rintro e w2 ⟨rfl, q2, rfl⟩
          cases g
          · have HZ : Hid (flBad fl l = true) := Hid.of (flBad_at HX.out HY.out (by show (_ || !gOn x t1) = true; rw [HG.out]; simp))
            go_wp2
            go_ret
            rw [HR.out, HZ.out]
            exact ⟨rfl, _, rfl⟩
          · have HZ : Hid (flBad (fl.take (j + 1)) l = false) := Hid.of (flBad_take HX.out HY.out (by show (_ || !gOn x t1) = false; rw [HG.out, decide_eq_false (Int.not_lt.2 HX0.out)]; rfl) HB.out)
            go_wp2
            go_roundg (M - (j + 1))
            case measure => have := HJ.out; omega
            case rel => exact ⟨j + 1, by go_num, HJ.out, Nat.le_refl _, HZ, _, rfl⟩
      · obtain rfl : j = M := by omega
        have HZ : Hid (flBad fl l = false) := Hid.of (by have := HB.out; rwa [← HM.out, List.take_length] at this)
        go_wp2
        go_ret
        rw [HR.out, HZ.out]
        exact ⟨rfl, _, rfl⟩
  · have h1 : (M : Int) > (N : Int) := by omega
    have HR : Hid (flFit fl l = false) := Hid.of (by unfold flFit; rw [hN, hM, decide_eq_false hlen]; rfl)
    clear hlen hN hM
    go_enter Tryz.func172, Tryz.ntmps172
    go_wp2
    go_ret
    rw [HR.out]
    exact ⟨rfl, 0, rfl⟩

end Go.Proofs.YtbhcafginmkaaaaGreat
