/-
  A bundle of texts: POM RM POP TBP POF POG POS RP RKB.
-/
import Derived.Lib.ItoaNum
import Derived.Test.YtbhcafginmkaaaaGreatN11
import Derived.Test.YtbhcafginmkaaaaGreatN18
import Derived.Test.YtbhcafginmkaaaaGreatN09
import Derived.Test.YtbhcafginmkaaaaGreatN03
import Derived.Test.YtbhcafginmkaaaaGreatN07
import Derived.Test.YtbhcafginmkaaaaGreatN15
namespace Go.Proofs.YtbhcafginmkaaaaGreat
open Go.RowKit Go.Lib

/-- A policy: its name and its tiers (name, every, keep, shards). -/
abbrev PolL := ByteArray × List TierL

def PolL.none : PolL := (⟨#[]⟩, [])

/-- May t stand behind the tiers d? -/
def tierOk (d : List TierL) (t : TierL) : Bool :=
  nOk t.1 && decide (1 ≤ t.2.2.1) && decide (t.2.2.1 ≤ 1000000) && decide (1 ≤ t.2.2.2) && decide (t.2.2.2 ≤ 8) && decide (1 ≤ t.2.1) && decide (t.2.1 ≤ 1000000) && d.all (fun o => !(o.1.toList == t.1.toList)) &&
  match d.getLast? with
  | none => decide (t.2.1 = 1)
  | some o => decide (o.2.1 < t.2.1) && decide (t.2.1 % o.2.1 = 0) && decide (o.2.2.1 ≤ t.2.2.1)

/-- The number of the first tier that may not be. -/
def pBad : List TierL → List TierL → Option Nat
  | _, [] => none
  | d, t :: r => if tierOk d t then pBad (d ++ [t]) r else some (d.length + 1)

def pCheck (p : PolL) : Int × Int :=
  if nOk p.1 = false ∨ p.2.length < 1 ∨ 5 < p.2.length then (23, 0) else match pBad [] p.2 with
    | some i => (23, i)
    | none => (0, 0)

def texts (l : List WdL) : List (List UInt8) := l.map fun x => x.1.data.toList

end Go.Proofs.YtbhcafginmkaaaaGreat

namespace Go.Proofs.YtbhcafginmkaaaaGreat
open Go.RowKit Go.Lib

/-- Now, a policy, floors. -/
abbrev RchL := Int × PolL × List Int

/-- The Every of the tier behind one (its own of the last one). -/
def rEvery (l : List TierL) (i : Nat) : Int :=
  match l[i + 1]? with
  | some t => t.2.1
  | none => match l[i]? with
    | some t => t.2.1
    | none => 0

/-- How far back a tier reaches. -/
def rFromN (r : RchL) (i : Nat) : Int :=
  match r.2.1.2[i]? with
  | none => 0
  | some t => match r.2.2[i]? with
    | none => gBack r.1 t.2.2.1 (rEvery r.2.1.2 i)
    | some f => max (gBack r.1 t.2.2.1 (rEvery r.2.1.2 i)) f

def rFrom (r : RchL) (i : Int) : Int := if i < 0 then 0 else rFromN r i.toNat

def rTakes (r : RchL) (n : ByteArray) (t : Int) : Int :=
  if nOk n = false ∨ t < 0 then 1 else if r.1 < t then 25 else if r.2.1.2 = [] ∨ t < rFromN r 0 then 24 else 0

def rStart (r : RchL) (i t : Int) : Int × Bool :=
  if i < 0 ∨ t < 0 then (0, false) else match r.2.1.2[i.toNat]? with
  | none => (0, false)
  | some x => (gFloor t x.2.1, decide (rFromN r i.toNat ≤ gFloor t x.2.1))

theorem gBack_nonneg (now keep e : Int) : 0 ≤ gBack now keep e := by
  unfold gBack
  split <;> omega

end Go.Proofs.YtbhcafginmkaaaaGreat

namespace Go.Proofs.YtbhcafginmkaaaaGreat
open Go.RowKit Go.Lib

/-- A policy, as a value: its name and the slice of its tiers. -/
abbrev polVal (n : ByteArray) (s : Value) : Value := .agg #[.string n, s]

/-- A slice is not longer than its room. -/
def CapOk : Value → Prop
  | .slice _ n c => n ≤ c
  | _ => True

theorem own_cap {w : World} {B : Nat} {e : TypeId} {s : Nat} {v : Value} {n : Nat} {xs : List Value} (h : w.ownsRow B e s v n xs) : CapOk v := by
  obtain ⟨hl, h⟩ := h
  rcases h with ⟨rfl, rfl⟩ | ⟨g, cap, cur, rfl, hB, hrow, hcap, hmax, hcs, htk⟩
  · exact Nat.le_refl _
  · exact hcap

/-- The value v is the policy p. -/
def PolRow (w : World) (v : Value) (p : PolL) : Prop := ∃ s, v = polVal p.1 s ∧ CellRow w s p.2.length (flat penc p.2) ∧ CapOk s

/-- One of one's own above B. -/
def OwnPol (B : Nat) (w : World) (v : Value) (p : PolL) : Prop := ∃ s, v = polVal p.1 s ∧ w.ownsRow B 89 4 s p.2.length (flat penc p.2)

theorem PolRow.kept {w w' : World} {v : Value} {p : PolL} (h : PolRow w v p) (b : Below w.heap.size w w') : PolRow w' v p := by
  obtain ⟨s, hv, hs, hk⟩ := h
  exact ⟨s, hv, hs.kept b, hk⟩

/-- A variable that holds a policy. -/
def PBlk (w : World) (b : Nat) (n : ByteArray) (s : Value) : Prop := w.heap[b]? = some (.cells #[.string n, s] 24 (0, 0))

theorem PBlk.made (w : World) (n : ByteArray) (s : Value) : PBlk (w.alloc (.cells #[.string n, s] 24)) w.heap.size n s := Go.heap_alloc_new _ _

theorem PBlk.kept {w w' : World} {b : Nat} {n : ByteArray} {s : Value} (h : PBlk w b n s) (c : Below w.heap.size w w') : PBlk w' b n s := by
  unfold PBlk at h ⊢
  rw [c.block b (Array.getElem?_eq_some_iff.1 h).1]
  exact h

theorem PBlk.at {w : World} {b : Nat} {n : ByteArray} {s : Value} (h : PBlk w b n s) : w.cell? ⟨b, 0, none⟩ = some (.string n) ∧ w.cell? ⟨b, 1, none⟩ = some s := by
  refine ⟨?_, ?_⟩ <;> (rw [cell_of_row w b _ _ _ _ h]; rfl)

end Go.Proofs.YtbhcafginmkaaaaGreat

namespace Go.Proofs.YtbhcafginmkaaaaGreat
open Go.RowKit Go.Lib

/-- A pointer to block p. -/
abbrev tptr (p : Nat) : Value := .pointer (some ⟨p, 0, none⟩)

/-- A record's cells. -/
def rl (x : TRec) : RecL := (x.n, x.s, x.a.c, x.a.hi, x.a.lo, x.a.mn, x.a.mx)

/-- An int of 64 bits. -/
def TIn64 (v : Int) : Prop := -9223372036854775808 ≤ v ∧ v ≤ 9223372036854775807

/-- Such as memory can hold. -/
def TFit (r : TRec) : Prop := r.n.size ≤ maxLen ∧ TIn64 r.s ∧ AgIn r.a

/-- The blocks that a table lives in: all of them, and those of them that its calls write into. -/
structure TFoot where
  own : Nat → Prop
  all : Nat → Prop

/-- A call has written into the blocks that it may, and made new ones; the footprint is F' behind it. -/
structure TStep (F F' : TFoot) (w w' : World) : Prop where
  own : Step F.own F'.own w w'
  more : ∀ k, F'.all k → F.all k ∨ w.heap.size ≤ k

theorem TStep.of_below {F : TFoot} {w w' : World} (b : Below w.heap.size w w') : TStep F F w w' := ⟨Step.of_below b, fun _ h => .inl h⟩
theorem TStep.trans {F F' F'' : TFoot} {w w' w'' : World} (h : TStep F F' w w') (k : TStep F' F'' w' w'') : TStep F F'' w w'' :=
  ⟨h.own.trans k.own, fun i hi => by
    rcases k.more i hi with c | c
    · exact h.more i c
    · exact .inr (Nat.le_trans h.own.size c)⟩
theorem TStep.ge {B : Nat} {F F' : TFoot} {w w' : World} (h : TStep F F' w w') (hB : B ≤ w.heap.size) (hF : ∀ k, F.all k → B ≤ k) : ∀ k, F'.all k → B ≤ k := by
  intro k hk
  rcases h.more k hk with c | c
  · exact hF k c
  · omega

def tShard (l : List TRec) (k n : Int) : List TRec := l.filter fun x => decide (nShard x.n n = k)
def tRest (l : List TRec) (k n : Int) : List TRec := l.filter fun x => !decide (nShard x.n n = k)
def tNeed (l : List TRec) (n : Int) : Nat := ((List.range (max n 1).toNat).map fun k : Nat => ((tShard l (k : Int) n).length + 2) / 3).sum
def tNames (l : List TRec) : List ByteArray := nOrder (l.map (·.n))
def tHas (l : List TRec) (k : TKey) : Bool := l.any fun x => decide (x.k = k)
def tRoll (e : Int) (l : List TRec) (e' f : Int) : List TRec := if (max e' 1).tmod e = 0 then tAdds (max e' 1) [] ((l.map (tFl (max e' 1))).filter fun x => decide (f ≤ x.s)) else []

/-- The document's words on each call. -/
structure TableSpec where
  Rep : World → Nat → Int → List TRec → TFoot → Prop
  lt : ∀ {w p e l F}, Rep w p e l F → ∀ k, F.all k → k < w.heap.size
  sub : ∀ {w p e l F}, Rep w p e l F → ∀ k, F.own k → F.all k
  kept : ∀ {w w' p e l F}, Rep w p e l F → w.heap.size ≤ w'.heap.size → (∀ k, F.all k → w'.heap[k]? = w.heap[k]?) → Rep w' p e l F
  new : ∀ (e : Int) (w : World), TIn64 e → Calls Tryz.prog 173 #[.int .i64 e] w fun x w' => ∃ p F, x = .returned (tptr p) ∧ Rep w' p (max e 1) [] F ∧ (∀ k, F.all k → w.heap.size ≤ k) ∧ Below w.heap.size w w'
  every : ∀ {w p e l F}, Rep w p e l F → Calls Tryz.prog 230 #[tptr p] w fun x w' => x = .returned (.int .i64 e) ∧ Below w.heap.size w w'
  add : ∀ {w p e l F} (v : Value) (rs : List TRec), Rep w p e l F → l.length + rs.length ≤ 1000 → CellRow w v rs.length (flat renc (rs.map rl)) → (rs ≠ [] → Off F.own v) → (∀ r ∈ rs, TFit r) →
    Calls Tryz.prog 176 #[tptr p, v] w fun x w' => x = .returned (.int .i64 (tCount e rs : Nat)) ∧ ∃ F', Rep w' p e (tAdds e l rs) F' ∧ TStep F F' w w'
  all : ∀ {w p e l F}, Rep w p e l F → l.length ≤ 1000 → Calls Tryz.prog 149 #[tptr p] w fun x w' => ∃ u, x = .returned u ∧ w'.ownsRow w.heap.size 102 7 u l.length (flat renc (l.map rl)) ∧ Below w.heap.size w w'
  names : ∀ {w p e l F}, Rep w p e l F → l.length ≤ 1000 → Calls Tryz.prog 233 #[tptr p] w fun x w' => ∃ u, x = .returned u ∧ w'.ownsRow w.heap.size 9 1 u (tNames l).length ((tNames l).map Value.string) ∧ Below w.heap.size w w'
  shard : ∀ {w p e l F} (k n : Int), Rep w p e l F → l.length ≤ 1000 → TIn64 k → TIn64 n → Calls Tryz.prog 285 #[tptr p, .int .i64 k, .int .i64 n] w fun x w' => ∃ u, x = .returned u ∧ w'.ownsRow w.heap.size 102 7 u (tShard l k n).length (flat renc ((tShard l k n).map rl)) ∧ Below w.heap.size w w'
  clear_ : ∀ {w p e l F} (k n : Int), Rep w p e l F → l.length ≤ 1000 → TIn64 k → TIn64 n → Calls Tryz.prog 284 #[tptr p, .int .i64 k, .int .i64 n] w fun x w' => x = .returned (.int .i64 ((tShard l k n).length : Nat)) ∧ ∃ F', Rep w' p e (tRest l k n) F' ∧ TStep F F' w w'
  roll : ∀ {w p e l F} (e' f : Int), Rep w p e l F → l.length ≤ 1000 → TIn64 e' → TIn64 f → Calls Tryz.prog 148 #[tptr p, .int .i64 e', .int .i64 f] w fun x w' => ∃ q G, x = .returned (tptr q) ∧ Rep w' q (max e' 1) (tRoll e l e' f) G ∧ (∀ k, G.own k → w.heap.size ≤ k) ∧ (∀ k, G.all k → F.all k ∨ w.heap.size ≤ k) ∧ Below w.heap.size w w'
  need : ∀ {w p e l F} (n : Int), Rep w p e l F → l.length ≤ 1000 → TIn64 n → Calls Tryz.prog 200 #[tptr p, .int .i64 n] w fun x w' => x = .returned (.int .i64 (tNeed l n : Nat)) ∧ Below w.heap.size w w'
  copy : ∀ {w p e l F}, Rep w p e l F → l.length ≤ 1000 → Calls Tryz.prog 146 #[tptr p] w fun x w' => ∃ q G, x = .returned (tptr q) ∧ Rep w' q e l G ∧ (∀ k, G.own k → w.heap.size ≤ k) ∧ (∀ k, G.all k → w.heap.size ≤ k) ∧ Below w.heap.size w w'

section
variable {S : TableSpec} {B p : Nat} {w0 w w' : World} {e : Int} {l l' : List TRec} {F F' : TFoot}

end

end Go.Proofs.YtbhcafginmkaaaaGreat

namespace Go.Proofs.YtbhcafginmkaaaaGreat
open Go.RowKit Go.Lib

/-- The word that ends ahead of a gap. -/
def WSt.behind (out : List WdL) (line col : Nat) (w : List UInt8) : List WdL := out ++ [(⟨w.toArray⟩, (line : Int), (col : Int) - (w.length : Int))]

/-- Blanks between two words of a line. -/
def BlankGap (g : List UInt8) : Prop := ∀ out line col w, ∃ col', wRun ⟨out, line, col, some w, false⟩ g = .inl ⟨WSt.behind out line col w, line, col', none, false⟩
/-- What ends a line (remarks and empty lines with it); d line ends in all. -/
def EndGap (d : Nat) (g : List UInt8) : Prop := ∀ out line col w, wRun ⟨out, line, col, some w, false⟩ g = .inl ⟨WSt.behind out line col w, line + d, 1, none, false⟩

/-- Words laid as a line, with its end; d line ends. -/
inductive Lays : Nat → List (List UInt8) → List UInt8 → Prop
  | last (d : Nat) (w e : List UInt8) : goodWord w → EndGap d e → 1 ≤ d → Lays d [w] (w ++ e)
  | more (d : Nat) (w g : List UInt8) (ws : List (List UInt8)) (t : List UInt8) : goodWord w → BlankGap g → Lays d ws t → Lays d (w :: ws) (w ++ (g ++ t))

theorem Lays.run {d : Nat} {ws : List (List UInt8)} {t : List UInt8} (h : Lays d ws t) : ∀ st : WSt, st.cur = none → st.remark = false →
    ∃ xs, wRun st t = .inl ⟨st.out ++ xs, st.line + d, 1, none, false⟩ ∧ texts xs = ws ∧ xs ≠ [] ∧ (∀ x ∈ xs, x.2.1 = (st.line : Int)) ∧ 1 ≤ d := by
  induction h with
  | last w e hw he hd =>
    intro st hc hr
    refine ⟨[(⟨w.toArray⟩, (st.line : Int), ((st.col + w.length : Nat) : Int) - (w.length : Int))], ?_, by simp [texts], by simp, ?_, hd⟩
    · rw [wRun_append, run_word hw st hc hr]
      exact he _ _ _ _
    · intro x hx
      simp only [List.mem_singleton] at hx
      rw [hx]
  | more w g ws t hw hg _ ih =>
    intro st hc hr
    obtain ⟨col', hcol⟩ := hg st.out st.line (st.col + w.length) w
    obtain ⟨xs, h1, h2, h3, h4, h5⟩ := ih ⟨WSt.behind st.out st.line (st.col + w.length) w, st.line, col', none, false⟩ rfl rfl
    refine ⟨(⟨w.toArray⟩, (st.line : Int), ((st.col + w.length : Nat) : Int) - (w.length : Int)) :: xs, ?_, by rw [← h2]; simp [texts], by simp, ?_, h5⟩
    · rw [wRun_append, run_word hw st hc hr]
      show wRun _ (g ++ t) = _
      rw [wRun_append, hcol]
      show wRun _ t = _
      rw [h1]
      unfold WSt.behind
      rw [List.append_assoc]
      rfl
    · intro x hx
      rcases List.mem_cons.1 hx with hx | hx
      · rw [hx]
      · exact h4 x hx

end Go.Proofs.YtbhcafginmkaaaaGreat

namespace Go.Proofs.YtbhcafginmkaaaaGreat
open Go.RowKit Go.Lib

theorem goodWord.all {w : List UInt8} (h : goodWord w) : ∀ b ∈ w, goodByte b := by
  obtain ⟨_, _, _, _, ha⟩ := h
  exact ha

end Go.Proofs.YtbhcafginmkaaaaGreat

namespace Go.Proofs.YtbhcafginmkaaaaGreat
open Go.RowKit Go.Lib

def In64 (v : Int) : Prop := -9223372036854775808 ≤ v ∧ v ≤ 9223372036854775807

/-- Of a size that a call can take. -/
def PFit (p : PolL) : Prop := p.2.length ≤ 1000000 ∧ p.1.size ≤ 1000000 ∧ ∀ x ∈ p.2, x.1.size ≤ 1000000 ∧ In64 x.2.1 ∧ In64 x.2.2.1 ∧ In64 x.2.2.2

/-- The policy of the first example. -/
def webPol : PolL := (⟨#[119, 101, 98]⟩, [(⟨#[114, 97, 119]⟩, 1, 100, 2), (⟨#[116, 101, 110, 115]⟩, 10, 1000, 1)])

theorem OwnPol.row {B : Nat} {w : World} {v : Value} {p : PolL} (h : OwnPol B w v p) : PolRow w v p := by
  obtain ⟨s, hv, o⟩ := h
  exact ⟨s, hv, own_row o, own_cap o⟩

theorem web_fit : PFit webPol := by
  refine ⟨by decide, by decide, fun x hx => ?_⟩
  simp only [webPol, List.mem_cons, List.not_mem_nil, or_false] at hx
  rcases hx with rfl | rfl <;> exact ⟨by decide, by unfold In64; decide, by unfold In64; decide, by unfold In64; decide⟩

end Go.Proofs.YtbhcafginmkaaaaGreat

namespace Go.Proofs.YtbhcafginmkaaaaGreat
open Go.RowKit Go.Lib

def rVal (r : RchL) (s f : Value) : Value := .agg #[.int .i64 r.1, .string r.2.1.1, s, f]

/-- A Reach that came in or was answered. -/
def RchRow (w : World) (v : Value) (r : RchL) : Prop := ∃ s f, v = rVal r s f ∧ CellRow w s r.2.1.2.length (flat penc r.2.1.2) ∧ CellRow w f r.2.2.length (r.2.2.map (Value.int .i64)) ∧ CapOk s ∧ CapOk f

/-- A Reach of one's own. -/
def OwnRch (B : Nat) (w : World) (v : Value) (r : RchL) : Prop := ∃ s f, v = rVal r s f ∧ w.ownsRow B 89 4 s r.2.1.2.length (flat penc r.2.1.2) ∧ w.ownsRow B 3 1 f r.2.2.length (r.2.2.map (Value.int .i64)) ∧ Apart s f

theorem OwnRch.row {B : Nat} {w : World} {v : Value} {r : RchL} (h : OwnRch B w v r) : RchRow w v r := by
  obtain ⟨s, f, hv, h1, h2, _⟩ := h
  exact ⟨s, f, hv, own_row h1, own_row h2, own_cap h1, own_cap h2⟩

theorem RchRow.kept {w w' : World} {v : Value} {r : RchL} (h : RchRow w v r) (b : Below w.heap.size w w') : RchRow w' v r := by
  obtain ⟨s, f, hv, h1, h2, h3⟩ := h
  exact ⟨s, f, hv, h1.kept b, h2.kept b, h3⟩

/-- Of a size that a call can take. -/
def RFit (r : RchL) : Prop := In64 r.1 ∧ PFit r.2.1 ∧ r.2.2.length ≤ 1000000 ∧ ∀ x ∈ r.2.2, In64 x

/-- The document's words on each call; Ok: what was there when the program began. -/
structure ReachSpec where
  Ok : World → Prop
  kept : ∀ {w w'}, Ok w → Below w.heap.size w w' → Ok w'
  of : ∀ (v f : Value) (p : PolL) (now : Int) (fl : List Int) (w : World), Ok w → RFit (now, p, fl) → PolRow w v p → CellRow w f fl.length (fl.map (Value.int .i64)) → CapOk f → Calls Tryz.prog 15 #[v, .int .i64 now, f] w fun e w' => ∃ u, e = .returned u ∧ OwnRch w.heap.size w' u (now, p, fl) ∧ Below w.heap.size w w'
  from_ : ∀ (v : Value) (r : RchL) (i : Int) (w : World), Ok w → RFit r → In64 i → RchRow w v r → Calls Tryz.prog 95 #[v, .int .i64 i] w fun e w' => e = .returned (.int .i64 (rFrom r i)) ∧ Below w.heap.size w w'
  takes : ∀ (v : Value) (r : RchL) (n : ByteArray) (t x : Int) (w : World), Ok w → RFit r → n.size ≤ maxLen → In64 t → RchRow w v r → Calls Tryz.prog 248 #[v, .agg #[.string n, .int .i64 t, .int .i64 x]] w fun e w' => e = .returned (.int .i64 (rTakes r n t)) ∧ Below w.heap.size w w'
  start : ∀ (v : Value) (r : RchL) (i t : Int) (w : World), Ok w → RFit r → In64 i → In64 t → RchRow w v r → Calls Tryz.prog 241 #[v, .int .i64 i, .int .i64 t] w fun e w' => e = .returned (.tuple #[.int .i64 (rStart r i t).1, .bool (rStart r i t).2]) ∧ Below w.heap.size w w'

set_option maxRecDepth 20000 in
set_option maxHeartbeats 800000 in
theorem Web_any (w : World) : Calls Tryz.prog 88 #[] w fun e w' => ∃ v, e = .returned v ∧ PolRow w' v webPol ∧ Below w.heap.size w w' := by
  go_enter Tryz.func88, Tryz.ntmps88
  go_wp2_with fail
  refine bodyPost_ret (results_cell_row (P := Tryz.prog) rfl _ _ w.heap.size 24 #[.string ⟨#[119, 101, 98]⟩, .slice (some ⟨w.heap.size + 1, 0, none⟩) 2 2] (0, 0) _ rfl ((Go.heap_alloc_old _ _ (by simp)).trans (Go.heap_alloc_new _ _)) Tryz.underlying24 rfl (by kernel_rfl)) rfl ?_
  have hs : (w.alloc (.cells #[.string ⟨#[119, 101, 98]⟩, .slice (some ⟨w.heap.size + 1, 0, none⟩) 2 2] 24)).heap.size = w.heap.size + 1 := by simp
  have hc := new_cells (w.alloc (.cells #[.string ⟨#[119, 101, 98]⟩, .slice (some ⟨w.heap.size + 1, 0, none⟩) 2 2] 24)) #[.string ⟨#[114, 97, 119]⟩, .int .i64 1, .int .i64 100, .int .i64 2, .string ⟨#[116, 101, 110, 115]⟩, .int .i64 10, .int .i64 1000, .int .i64 1] 89
  rw [hs] at hc
  exact ⟨_, rfl, ⟨_, rfl, ⟨_, _, rfl, .inr ⟨w.heap.size + 1, 0, rfl, by simp, hc⟩⟩, Nat.le_refl _⟩, ((Below.refl _ _).alloc (Nat.le_refl _) _).alloc (by simp) _⟩

end Go.Proofs.YtbhcafginmkaaaaGreat

namespace Go.Proofs.YtbhcafginmkaaaaGreat
open Go.RowKit Go.Lib

/-- A Reach is put into a variable. -/
def setR (v : World) (b : Nat) (now : Int) (n : ByteArray) (s f : Value) : World := (((v.setCell ⟨b, 0, none⟩ (.int .i64 now)).setCell ⟨b, 1, none⟩ (.string n)).setCell ⟨b, 2, none⟩ s).setCell ⟨b, 3, none⟩ f

abbrev KBlk (w : World) (b : Nat) (now : Int) (n : ByteArray) (s f : Value) : Prop := w.heap[b]? = some (.cells #[.int .i64 now, .string n, s, f] 47 (0, 0))

theorem kblk_set {w : World} {b : Nat} {now now' : Int} {n n' : ByteArray} {s f s' f' : Value} (h : KBlk w b now n s f) : KBlk (setR w b now' n' s' f') b now' n' s' f' := by
  have := row_set (i := 3) (row_set (i := 2) (row_set (i := 1) (row_set (i := 0) h (.int .i64 now')) (.string n')) s') f'
  unfold setR
  show _ = _
  rw [this]
  simp

theorem setR_grown (w : World) (b : Nat) (now : Int) (n : ByteArray) (s f : Value) : w.grownBy (setR w b now n s f) (some b) :=
  grownBy_trans (grownBy_trans (grownBy_trans (grownBy_setCell _ _ _ _) (grownBy_setCell _ _ _ _)) (grownBy_setCell _ _ _ _)) (grownBy_setCell _ _ _ _)

theorem kblk_next {w w' : World} {b : Nat} {now : Int} {n : ByteArray} {s f : Value} (h : KBlk w b now n s f) (c : Below w.heap.size w w') : KBlk w' b now n s f := by
  show _ = _
  rw [c.block b (Array.getElem?_eq_some_iff.1 h).1]
  exact h

theorem kblk_at {w : World} {b : Nat} {now : Int} {n : ByteArray} {s f : Value} (h : KBlk w b now n s f) : w.cell? ⟨b, 0, none⟩ = some (.int .i64 now) ∧ w.cell? ⟨b, 1, none⟩ = some (.string n) ∧ w.cell? ⟨b, 2, none⟩ = some s ∧ w.cell? ⟨b, 3, none⟩ = some f := by
  refine ⟨?_, ?_, ?_, ?_⟩ <;> (rw [cell_of_row w b _ _ _ _ h]; rfl)

end Go.Proofs.YtbhcafginmkaaaaGreat
