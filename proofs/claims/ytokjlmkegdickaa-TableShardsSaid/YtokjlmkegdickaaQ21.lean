/-
  A bundle of texts: TBP TFW.
-/
import Derived.Deep.QuietTactic
import Derived.BigQuiet
import Derived.Test.YtokjlmkegdickaaQ08
import Derived.Test.YtokjlmkegdickaaQ18
import Derived.Test.YtokjlmkegdickaaQ06
import Derived.Test.YtokjlmkegdickaaQ10
/-
  What chapter 10 says of package table's functions, over whatever way a table lies in memory: its blocks are a footprint, and each call touches that alone.
-/
namespace Go.Proofs.Ytokjlmkegdickaa
open Go.RowKit Go.Lib

/-- A pointer to block p. -/
abbrev tptr (p : Nat) : Value := .pointer (some ⟨p, 0, none⟩)

/-- A record's cells. -/
def rl (x : TRec) : RecL := (x.n, x.s, x.a.c, x.a.hi, x.a.lo, x.a.mn, x.a.mx)

/-- An int of 64 bits. -/
def TIn64 (v : Int) : Prop := -9223372036854775808 ≤ v ∧ v ≤ 9223372036854775807

/-- Such as memory can hold. -/
def TFit (r : TRec) : Prop := r.n.size ≤ maxLen ∧ TIn64 r.s ∧ AgIn r.a

/-- The blocks that a table lives in: all of them, and those of them that its calls write into. -/
structure TFoot where
  own : Nat → Prop
  all : Nat → Prop

/-- A call has written into the blocks that it may, and made new ones; the footprint is F' behind it. -/
structure TStep (F F' : TFoot) (w w' : World) : Prop where
  own : Step F.own F'.own w w'
  more : ∀ k, F'.all k → F.all k ∨ w.heap.size ≤ k

theorem TStep.of_below {F : TFoot} {w w' : World} (b : Below w.heap.size w w') : TStep F F w w' := ⟨Step.of_below b, fun _ h => .inl h⟩
theorem TStep.trans {F F' F'' : TFoot} {w w' w'' : World} (h : TStep F F' w w') (k : TStep F' F'' w' w'') : TStep F F'' w w'' :=
  ⟨h.own.trans k.own, fun i hi => by
    rcases k.more i hi with c | c
    · exact h.more i c
    · exact .inr (Nat.le_trans h.own.size c)⟩
theorem TStep.ge {B : Nat} {F F' : TFoot} {w w' : World} (h : TStep F F' w w') (hB : B ≤ w.heap.size) (hF : ∀ k, F.all k → B ≤ k) : ∀ k, F'.all k → B ≤ k := by
  intro k hk
  rcases h.more k hk with c | c
  · exact hF k c
  · omega

/-- The records of a series between two times. -/
def tRange (l : List TRec) (n : ByteArray) (f t : Int) : List TRec := l.filter fun x => decide (x.n = n) && decide (f ≤ x.s) && decide (x.s < t)
def tKeep (l : List TRec) (below : Int) : List TRec := l.filter fun x => decide (below ≤ x.s)
def tShard (l : List TRec) (k n : Int) : List TRec := l.filter fun x => decide (nShard x.n n = k)
def tRest (l : List TRec) (k n : Int) : List TRec := l.filter fun x => !decide (nShard x.n n = k)
def tNeed (l : List TRec) (n : Int) : Nat := ((List.range (max n 1).toNat).map fun k : Nat => ((tShard l (k : Int) n).length + 2) / 3).sum
def tNames (l : List TRec) : List ByteArray := nOrder (l.map (·.n))
def tHas (l : List TRec) (k : TKey) : Bool := l.any fun x => decide (x.k = k)
def tAt (l : List TRec) (k : TKey) : Ag := tW (fun y => decide (y = k)) l
def tRoll (e : Int) (l : List TRec) (e' f : Int) : List TRec := if (max e' 1).tmod e = 0 then tAdds (max e' 1) [] ((l.map (tFl (max e' 1))).filter fun x => decide (f ≤ x.s)) else []

/-- The document's words on each call. -/
structure TableSpec where
  Rep : World → Nat → Int → List TRec → TFoot → Prop
  lt : ∀ {w p e l F}, Rep w p e l F → ∀ k, F.all k → k < w.heap.size
  sub : ∀ {w p e l F}, Rep w p e l F → ∀ k, F.own k → F.all k
  kept : ∀ {w w' p e l F}, Rep w p e l F → w.heap.size ≤ w'.heap.size → (∀ k, F.all k → w'.heap[k]? = w.heap[k]?) → Rep w' p e l F
  new : ∀ (e : Int) (w : World), TIn64 e → Calls Try.prog 23 #[.int .i64 e] w fun x w' => ∃ p F, x = .returned (tptr p) ∧ Rep w' p (max e 1) [] F ∧ (∀ k, F.all k → w.heap.size ≤ k) ∧ Below w.heap.size w w'
  every : ∀ {w p e l F}, Rep w p e l F → Calls Try.prog 29 #[tptr p] w fun x w' => x = .returned (.int .i64 e) ∧ Below w.heap.size w w'
  add : ∀ {w p e l F} (v : Value) (rs : List TRec), Rep w p e l F → l.length + rs.length ≤ 1000 → CellRow w v rs.length (flat renc (rs.map rl)) → (rs ≠ [] → Off F.own v) → (∀ r ∈ rs, TFit r) →
    Calls Try.prog 11 #[tptr p, v] w fun x w' => x = .returned (.int .i64 (tCount e rs : Nat)) ∧ ∃ F', Rep w' p e (tAdds e l rs) F' ∧ TStep F F' w w'
  find : ∀ {w p e l F} (n : ByteArray) (s : Int), Rep w p e l F → l.length ≤ 1000 → n.size ≤ 281474976710656 → TIn64 s → Calls Try.prog 10 #[tptr p, .string n, .int .i64 s] w fun x w' => x = .returned (.tuple #[agv (tAt l (n, s)), .bool (tHas l (n, s))]) ∧ Below w.heap.size w w'
  range : ∀ {w p e l F} (n : ByteArray) (f t : Int), Rep w p e l F → l.length ≤ 1000 → n.size ≤ 281474976710656 → TIn64 f → TIn64 t → Calls Try.prog 16 #[tptr p, .string n, .int .i64 f, .int .i64 t] w fun x w' => ∃ u, x = .returned u ∧ w'.ownsRow w.heap.size 26 7 u (tRange l n f t).length (flat renc ((tRange l n f t).map rl)) ∧ Below w.heap.size w w'
  drop : ∀ {w p e l F} (b : Int), Rep w p e l F → l.length ≤ 1000 → TIn64 b → Calls Try.prog 12 #[tptr p, .int .i64 b] w fun x w' => x = .returned (.int .i64 ((l.length - (tKeep l b).length : Nat) : Int)) ∧ ∃ F', Rep w' p e (tKeep l b) F' ∧ TStep F F' w w'
  all : ∀ {w p e l F}, Rep w p e l F → l.length ≤ 1000 → Calls Try.prog 17 #[tptr p] w fun x w' => ∃ u, x = .returned u ∧ w'.ownsRow w.heap.size 26 7 u l.length (flat renc (l.map rl)) ∧ Below w.heap.size w w'
  names : ∀ {w p e l F}, Rep w p e l F → l.length ≤ 1000 → Calls Try.prog 18 #[tptr p] w fun x w' => ∃ u, x = .returned u ∧ w'.ownsRow w.heap.size 9 1 u (tNames l).length ((tNames l).map Value.string) ∧ Below w.heap.size w w'
  shard : ∀ {w p e l F} (k n : Int), Rep w p e l F → l.length ≤ 1000 → TIn64 k → TIn64 n → Calls Try.prog 19 #[tptr p, .int .i64 k, .int .i64 n] w fun x w' => ∃ u, x = .returned u ∧ w'.ownsRow w.heap.size 26 7 u (tShard l k n).length (flat renc ((tShard l k n).map rl)) ∧ Below w.heap.size w w'
  clear_ : ∀ {w p e l F} (k n : Int), Rep w p e l F → l.length ≤ 1000 → TIn64 k → TIn64 n → Calls Try.prog 13 #[tptr p, .int .i64 k, .int .i64 n] w fun x w' => x = .returned (.int .i64 ((tShard l k n).length : Nat)) ∧ ∃ F', Rep w' p e (tRest l k n) F' ∧ TStep F F' w w'
  roll : ∀ {w p e l F} (e' f : Int), Rep w p e l F → l.length ≤ 1000 → TIn64 e' → TIn64 f → Calls Try.prog 20 #[tptr p, .int .i64 e', .int .i64 f] w fun x w' => ∃ q G, x = .returned (tptr q) ∧ Rep w' q (max e' 1) (tRoll e l e' f) G ∧ (∀ k, G.own k → w.heap.size ≤ k) ∧ (∀ k, G.all k → F.all k ∨ w.heap.size ≤ k) ∧ Below w.heap.size w w'
  need : ∀ {w p e l F} (n : Int), Rep w p e l F → l.length ≤ 1000 → TIn64 n → Calls Try.prog 14 #[tptr p, .int .i64 n] w fun x w' => x = .returned (.int .i64 (tNeed l n : Nat)) ∧ Below w.heap.size w w'
  len : ∀ {w p e l F}, Rep w p e l F → l.length ≤ 1000 → Calls Try.prog 15 #[tptr p] w fun x w' => x = .returned (.int .i64 (l.length : Nat)) ∧ Below w.heap.size w w'
  copy : ∀ {w p e l F}, Rep w p e l F → l.length ≤ 1000 → Calls Try.prog 21 #[tptr p] w fun x w' => ∃ q G, x = .returned (tptr q) ∧ Rep w' q e l G ∧ (∀ k, G.own k → w.heap.size ≤ k) ∧ (∀ k, G.all k → F.all k ∨ w.heap.size ≤ k) ∧ Below w.heap.size w w'

/-- A table of one's own, above B; below B all is as it was. -/
structure THere (S : TableSpec) (B : Nat) (w0 w : World) (p : Nat) (e : Int) (l : List TRec) (F : TFoot) : Prop where
  rep : S.Rep w p e l F
  ge : ∀ k, F.all k → B ≤ k
  hB : B ≤ w.heap.size
  fr : Below B w0 w

section
variable {S : TableSpec} {B p : Nat} {w0 w w' : World} {e : Int} {l l' : List TRec} {F F' : TFoot}

theorem THere.next (h : THere S B w0 w p e l F) (b : Below w.heap.size w w') : THere S B w0 w' p e l F :=
  ⟨S.kept h.rep b.size (fun k hk => b.block k (S.lt h.rep k hk)), h.ge, Nat.le_trans h.hB b.size, h.fr.trans (b.mono h.hB)⟩

theorem THere.step (h : THere S B w0 w p e l F) (r : S.Rep w' p e l' F') (st : TStep F F' w w') : THere S B w0 w' p e l' F' :=
  ⟨r, st.ge h.hB h.ge, Nat.le_trans h.hB st.own.size, st.own.below h.fr h.hB (fun k hk => h.ge k (S.sub h.rep k hk))⟩

theorem THere.off (h : THere S B w0 w p e l F) {v : Value} (hv : ∀ g, v.ownBlock = some g → g < B) : Off F.own v := fun g hg hF => by
  have := h.ge g (S.sub h.rep g hF)
  have := hv g hg
  omega
end

end Go.Proofs.Ytokjlmkegdickaa

/-
  Few records with short names (package sedimentbook).
-/
namespace Go.Proofs.Ytokjlmkegdickaa
open Go.RowKit Go.Lib

/-- Few records, short names. -/
def RFew (k : Nat) (l : List RecL) : Prop := l.length ≤ k ∧ ∀ x ∈ l, x.1.size ≤ 60

set_option maxHeartbeats 800000 in
theorem Few_any (k : Nat) (v : Value) (l : List RecL) (w : World) (hv : CellRow w v l.length (flat renc l)) (hk : k ≤ 1000) :
    Calls Try.prog 22 #[.int .i64 k, v] w fun e w' => ∃ r : Bool, e = .returned (.bool r) ∧ Hid (r = true → RFew k l) ∧ Below w.heap.size w w' := by
  have HV := Hid.of hv
  obtain ⟨sa, sc, rfl, -⟩ := hv
  go_enter Try.func22, Try.ntmps22
  go_wp2
  go_loopw [5] (fun i wr => ∃ j : Nat, j ≤ l.length ∧ j ≤ k ∧ i = .int .i64 j ∧ Hid (∀ x ∈ l.take j, x.1.size ≤ 60) ∧ Below w.heap.size w wr) (fun i _ => k - (RowKit.intOf i).toNat)
  case atStart => exact ⟨0, Nat.zero_le _, Nat.zero_le _, rfl, Hid.of (by simp), Below.refl _ _⟩
  case round =>
    obtain ⟨j, hj, hjk, rfl, A, hb⟩ := hrel
    have i0 : (0 : Int) ≤ (j : Int) := Int.natCast_nonneg _
    by_cases hlt : j < l.length
    · have i1 : (j : Int) < (l.length : Int) := by omega
      by_cases h12 : j < k
      · have i2 : (j : Int) < (k : Int) := by omega
        obtain ⟨b1, o1, rfl, hl1, hc1⟩ := r_at HV.out j l[j] (by simp [hlt])
        obtain ⟨x, hx⟩ : ∃ x, l[j] = x := ⟨_, rfl⟩
        rw [hx] at hc1
        obtain ⟨d0, -⟩ := hc1
        rw [← hb.cell hl1] at d0
        have HX := Hid.of hx
        have j9 : (j : Int) ≤ 1000 := by omega
        by_cases h60 : x.1.size ≤ 60
        · have i3 : ¬ (60 : Int) < (x.1.size : Int) := by omega
          clear hx
          go_wp2
          go_roundw
          case rel =>
            refine ⟨j + 1, by omega, by omega, by go_num, Hid.of ?_, hb⟩
            intro y hy
            rw [List.take_succ_eq_append_getElem hlt, List.mem_append, List.mem_singleton, HX.out] at hy
            rcases hy with hy | rfl
            · exact A.out y hy
            · exact h60
          case measure => simp [RowKit.intOf]; omega
        · have i3 : (60 : Int) < (x.1.size : Int) := by omega
          clear hx
          go_wp2
          go_ret
          exact ⟨false, rfl, Hid.of (fun h => by cases h), hb⟩
      · have i2 : ¬ (j : Int) < (k : Int) := by omega
        have i3 : ¬ (l.length : Int) ≤ (k : Int) := by omega
        go_wp2
        go_ret
        exact .inl ⟨rfl, Hid.of trivial, hb⟩
    · have i1 : ¬ (j : Int) < (l.length : Int) := by omega
      have hjl : j = l.length := by omega
      have i3 : (l.length : Int) ≤ (k : Int) := by omega
      go_wp2
      go_ret
      refine .inr ⟨rfl, Hid.of ⟨by omega, fun x hx => ?_⟩, hb⟩
      have := A.out x
      rw [hjl, List.take_length] at this
      exact this hx

end Go.Proofs.Ytokjlmkegdickaa
