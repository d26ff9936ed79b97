/-
  A bundle of texts: TCE.
-/
import Derived.Test.YtbhcafginmkaaaaGreatN20
import Derived.Test.YtbhcafginmkaaaaGreatN13
import Derived.Test.YtbhcafginmkaaaaGreatN15
namespace Go.Proofs.YtbhcafginmkaaaaGreat
open Go.RowKit Go.Lib Go.Sort

/-- v is a row of one's own that holds the buckets bs. -/
abbrev BkOwn (w : World) (D : Nat) (v : Value) (bs : List Bk) : Prop := w.ownsRow D 269 6 v bs.length (flat benc bs)

theorem flat_get {bs : List Bk} {t : Nat} (h : t < bs.length * 6) : (flat benc bs)[t]? = some ((benc (bs.toArray[t / 6]!))[t % 6]!) := by
  have h1 : t / 6 < bs.length := by omega
  have e : t = t / 6 * 6 + t % 6 := by omega
  have h2 := flat_at benc_len bs (t / 6) (bs[t / 6]) (List.getElem?_eq_getElem h1) (t % 6) (by omega)
  rw [← e] at h2
  rw [h2, getElem!_pos bs.toArray (t / 6) (by simpa using h1)]
  have h3 : t % 6 < (benc bs[t / 6]).length := by rw [benc_len]; omega
  rw [List.getElem?_eq_getElem h3, List.getElem_toArray, getElem!_pos (benc bs[t / 6]) (t % 6) h3]

theorem own_holds {w : World} {D g cap : Nat} {bs : List Bk} (h : BkOwn w D (.slice (some ⟨g, 0, none⟩) bs.length cap) bs) : HoldsK benc 6 w g 0 bs.toArray ∧ g < w.heap.size := by
  constructor
  · intro j hj
    rw [size_flatK, List.size_toArray] at hj
    have h1 := h.cellAt j (by omega)
    have h2 := h.frozenAt j
    rw [Nat.zero_add, get_flatK _ _ _ _ (by rw [List.size_toArray]; exact hj)]
    refine ⟨?_, h2⟩
    rw [h1, flat_get hj]
    rfl
  · rcases h.2 with ⟨h0, _⟩ | ⟨g', cap', cur, h0, _, hr, _⟩
    · cases h0
    · simp only [Value.slice.injEq, Option.some.injEq, Addr.mk.injEq] at h0
      rw [h0.1.1]
      exact (Array.getElem?_eq_some_iff.1 hr).1

theorem rowK_of {w : World} {D g cap : Nat} {bs : List Bk} (h : BkOwn w D (.slice (some ⟨g, 0, none⟩) bs.length cap) bs) : RowK benc 6 w g 0 bs.toArray :=
  ⟨benc_len, benc_one, (own_holds h).1, (own_holds h).2⟩

/-- Behind the sort: the row holds the others, and nothing else has turned. -/
theorem own_of_swk {w w' : World} {D g cap : Nat} {bs : List Bk} {d' : Array Bk} (h : BkOwn w D (.slice (some ⟨g, 0, none⟩) bs.length cap) bs) (S : SWK benc 6 w g 0 d' w') (hd : d'.size = bs.length) :
    BkOwn w' D (.slice (some ⟨g, 0, none⟩) d'.toList.length cap) d'.toList ∧ w.grownBy w' (some g) := by
  have hH := S.holds (own_holds h).2 (own_holds h).1 (by rw [hd, List.size_toArray])
  obtain ⟨hl, ho⟩ := h
  obtain ⟨g', cap', cur, h0, hD, hr, hcap, hmax, hcs, _⟩ := ho.resolve_left (fun c => by cases c.1)
  simp only [Value.slice.injEq, Option.some.injEq, Addr.mk.injEq, true_and, and_true] at h0
  obtain ⟨rfl, rfl⟩ := h0
  have hlt := (Array.getElem?_eq_some_iff.1 hr).1
  obtain ⟨n, os, rfl⟩ := S
  have hk : (sortWorldK benc 6 w g 0 n d' os).heap[g]? = some (.cells (putCells id 0 (flatK benc 6 d') cur) 269 (0, 0)) := by
    unfold sortWorldK
    rw [heap_grow_old _ _ (by rw [size_putRowK]; exact hlt)]
    show ((Sort.ahead w n).heap.modify g (onCells _))[g]? = _
    rw [Array.getElem?_modify, if_pos rfl]
    show (w.heap[g]?).map _ = _
    rw [hr]
    rfl
  have hps : (putCells id 0 (flatK benc 6 d') cur).size = cur.size := by simp [putCells]
  refine ⟨⟨by rw [flat_length benc_len], .inr ⟨g, cap, _, ?_, hD, hk, ?_, hmax, hps.trans hcs, ?_⟩⟩, ⟨rfl, rfl, rfl, ?_, ?_⟩⟩
  · rfl
  · rw [Array.length_toList, hd]; exact hcap
  · refine List.ext_getElem? fun t => ?_
    rw [List.getElem?_take]
    split
    · rename_i ht
      rw [Array.length_toList] at ht
      have h1 := (hH t (by rw [size_flatK]; exact ht)).1
      rw [Nat.zero_add, cell_of_row _ g t _ _ _ hk] at h1
      rw [Array.getElem?_toList, h1, flat_get (by rw [Array.length_toList]; exact ht), get_flatK _ _ _ _ ht]
      rfl
    · rename_i ht
      rw [List.getElem?_eq_none (by rw [flat_length benc_len]; omega)]
  · exact size_sortWorldK_c benc 6 w g 0 n d' os
  · intro i hi hne
    unfold sortWorldK
    rw [heap_grow_old _ _ (by rw [size_putRowK]; exact hi)]
    show ((Sort.ahead w n).heap.modify g (onCells _))[i]? = _
    rw [Array.getElem?_modify, if_neg (fun c => hne (by rw [c]))]
    rfl

/-- .. in words of lists: the same ones, none beginning ahead of the one before it. -/
theorem sorted_list {bs : List Bk} {d' : Array Bk} (hp : PermIn 0 bs.length bs.toArray d') (hs : SortedIn blt 0 bs.length d') : d'.toList.Perm bs ∧ d'.toList.Pairwise (fun x y => x.1 ≤ y.1) := by
  have hz : d'.size = bs.length := by rw [hp.1, List.size_toArray]
  constructor
  · have h := hp.2.2
    rw [← hz, Array.extract_size, hz] at h
    have e : (bs.toArray.extract 0 bs.length) = bs.toArray := by
      have := Array.extract_size (xs := bs.toArray)
      rwa [List.size_toArray] at this
    rwa [e] at h
  · rw [List.pairwise_iff_getElem]
    intro i j hi hj hij
    rw [Array.length_toList] at hi hj
    have := hs i j (Nat.zero_le _) hij (by omega)
    rw [blt_no, getElem!_pos d' i hi, getElem!_pos d' j hj] at this
    simpa using this

theorem sortOwn_any {D : Nat} {v : Value} (bs : List Bk) (w : World) (h : BkOwn w D v bs) (hne : bs ≠ []) (hn : bs.length ≤ 10000) :
    Calls Tryz.prog 278 #[v, byStartV] w fun e w' => e = .returned (.tuple #[]) ∧ ∃ cs, cs.Perm bs ∧ cs.Pairwise (fun x y => x.1 ≤ y.1) ∧ BkOwn w' D v cs ∧ w.grownBy w' v.ownBlock := by
  rcases h.2 with ⟨_, h0⟩ | ⟨g, cap, cur, rfl, _⟩
  · exact absurd (List.length_eq_zero_iff.1 h0) hne
  · have hc := sortStable_any g 0 cap bs.toArray w (rowK_of h) (by rw [List.size_toArray]; exact hn)
    rw [List.size_toArray] at hc
    refine hc.mono ?_
    rintro e w' ⟨rfl, d', hp, hs, S⟩
    obtain ⟨h1, h2⟩ := sorted_list hp hs
    obtain ⟨h3, h4⟩ := own_of_swk h S (by rw [hp.1, List.size_toArray])
    refine ⟨rfl, d'.toList, h1, h2, ?_, h4⟩
    rw [h1.length_eq] at h3
    exact h3

end Go.Proofs.YtbhcafginmkaaaaGreat
