/-
  What put and get answer.
-/
import Derived.Test.YtpgiknejgolllaaEC
import Derived.Test.YtpgiknejgolllaaBC
namespace Go.Proofs.Ytpgiknejgolllaa
open Go.RowKit Go.Lib

/-- The shelves of the disk at block p. -/
abbrev sptr (p : Nat) : Value := .pointer (some ⟨p, 6, none⟩)

theorem shelf_size : (Try.prog.info? 73).map (·.size) = some 64 := by kernel_rfl

theorem shelf_zero : ∃ cs : Array Value, (∀ w, (zeroValue 73).run Try.prog w = .ok (.agg cs) w) ∧ cs = (List.replicate 64 (Value.string ⟨#[]⟩)).toArray := by
  obtain ⟨i0, hi, hz0, hz1, hz2⟩ := info_parts (show (Try.prog.info? 73).map (fun i => (i.zero, i.size, i.bytes)) = some (some (.agg (List.replicate 64 (Value.string ⟨#[]⟩)).toArray), 64, 1024) by kernel_rfl)
  refine ⟨(List.replicate 64 (Value.string ⟨#[]⟩)).toArray, fun w => ?_, rfl⟩
  generalize (List.replicate 64 (Value.string ⟨#[]⟩)).toArray = cs at hz0
  simp [zeroValue, typeInfo, hi, hz0]

theorem shelfCells_none (f : Nat → ByteArray) (j : Nat) (h : ∀ r, r < 64 → f (64 * j + r) = ⟨#[]⟩) : shelfCells f j = List.replicate 64 (Value.string ⟨#[]⟩) := by
  refine List.ext_getElem? fun k => ?_
  by_cases hk : k < 64
  · rw [shelfCells_at f j k hk, h k hk, List.getElem?_replicate, if_pos hk]
  · rw [List.getElem?_replicate, if_neg hk]
    simp [shelfCells]
    omega

theorem shelfCells_length (f : Nat → ByteArray) (j : Nat) : (shelfCells f j).length = 64 := by simp [shelfCells]

theorem shelfRow_size (f : Nat → ByteArray) (j : Nat) : (shelfCells f j).toArray.size = 64 := by rw [List.size_toArray, shelfCells_length]

theorem shelfCells_one (f : Nat → ByteArray) (j : Nat) : ∀ v ∈ shelfCells f j, v.oneCell' = true := by
  intro v hv
  simp only [shelfCells, List.mem_map] at hv
  obtain ⟨r, _, rfl⟩ := hv
  rfl

/-- The world ahead of a put's two last stores: a new block N holds the old shelf. -/
structure Copied (w w' : World) (N : Nat) (cs : List Value) : Prop where
  row : w'.heap[N]? = some (.cells cs.toArray 73 (0, 0))
  below : Below w.heap.size w w'
  new : N = w.heap.size
  lt : N < w'.heap.size

/-- A shelf is given another text, and stands on the disk. -/
theorem Copied.put {w w' : World} {N p : Nat} {d : DV} {f : Nat → ByteArray} {j r i : Nat} {t : ByteArray} (c : Copied w w' N (shelfCells f j)) (h : DBlk w p d) (hj : j < 64) (hr : r < 64) (hi : i = 64 * j + r) :
    DBlk ((w'.setCell ⟨N, r, none⟩ (.string t)).setCell ⟨p, 6 + j, none⟩ (.pointer (some ⟨N, 0, none⟩))) p { d with now := d.now.set (i / 64) (.pointer (some ⟨w.heap.size, 0, none⟩)) } ∧
    ((w'.setCell ⟨N, r, none⟩ (.string t)).setCell ⟨p, 6 + j, none⟩ (.pointer (some ⟨N, 0, none⟩))).heap[w.heap.size]? = some (.cells (shelfCells (fset f i t) (i / 64)).toArray 73 (0, 0)) ∧
    w.grownBy ((w'.setCell ⟨N, r, none⟩ (.string t)).setCell ⟨p, 6 + j, none⟩ (.pointer (some ⟨N, 0, none⟩))) (some p) ∧ w.heap.size < ((w'.setCell ⟨N, r, none⟩ (.string t)).setCell ⟨p, 6 + j, none⟩ (.pointer (some ⟨N, 0, none⟩))).heap.size := by
  obtain ⟨hrow, hb, hN, hlt⟩ := c
  have hp := h.lt
  have ej : i / 64 = j := by omega
  have hpN : p ≠ N := by omega
  have g1 : w'.grownBy (w'.setCell ⟨N, r, none⟩ (.string t)) (some N) := grownBy_setCell _ _ _ _
  have k1 : DBlk (w'.setCell ⟨N, r, none⟩ (.string t)) p d := (h.below hb).kept (g1.block p (by have := hb.size; omega) (by simp; exact hpN))
  rw [ej, ← hN]
  refine ⟨k1.now_ j hj _, ?_, ?_, ?_⟩
  · rw [Below.heap_setCell _ _ _ _ (fun e => hpN e.symm), row_set hrow]
    congr 2
    rw [List.setIfInBounds_toArray, shelfCells_set f j r hr t, hi]
  · have g2 := grownBy_setCell (w'.setCell ⟨N, r, none⟩ (.string t)) p (6 + j) (.pointer (some ⟨N, 0, none⟩))
    refine ⟨g2.os.trans (g1.os.trans hb.os), g2.tape.trans (g1.tape.trans hb.tape), g2.output.trans (g1.output.trans hb.output), Nat.le_trans hb.size (Nat.le_trans g1.size g2.size), fun k hk hne => ?_⟩
    rw [g2.block k (by have := hb.size; have := g1.size; omega) hne, g1.block k (by have := hb.size; omega) (by simp; omega), hb.block k hk]
  · have := hb.size
    have g2 := grownBy_setCell (w'.setCell ⟨N, r, none⟩ (.string t)) p (6 + j) (.pointer (some ⟨N, 0, none⟩))
    have := g1.size
    have := g2.size
    omega

set_option maxRecDepth 4000 in
theorem put_any (w : World) (p : Nat) (d : DV) (A : Nat → Prop) (f : Nat → ByteArray) (i : Nat) (t : ByteArray) (h : DBlk w p d) (hs : Shelves w A p d.now f) (hi : i < 4096) :
    Calls Try.prog 32 #[sptr p, .int .i64 i, .string t] w fun e w' => e = .returned (.tuple #[]) ∧ DBlk w' p { d with now := d.now.set (i / 64) (.pointer (some ⟨w.heap.size, 0, none⟩)) } ∧ w'.heap[w.heap.size]? = some (.cells (shelfCells (fset f i t) (i / 64)).toArray 73 (0, 0)) ∧ w.grownBy w' (some p) ∧ w.heap.size < w'.heap.size := by
  obtain ⟨j, hj⟩ : ∃ j, i / 64 = j := ⟨_, rfl⟩
  obtain ⟨r, hr⟩ : ∃ r, i % 64 = r := ⟨_, rfl⟩
  have j9 : j < 64 := by omega
  have r9 : r < 64 := by omega
  have IR : Hid (i = 64 * j + r) := Hid.of (by omega)
  have H := Hid.of h
  have hl : j < d.now.length := by rw [h.now]; exact j9
  obtain ⟨v, hv⟩ : ∃ v, d.now[j]? = some v := ⟨_, List.getElem?_eq_getElem hl⟩
  have hsh := hs j v hv
  have HC := Hid.of (h.cnow j v hv)
  have HP := Hid.of h.lt
  obtain ⟨z, hz, hzz⟩ := shelf_zero
  have HZ := Hid.of hz
  have HZZ := Hid.of hzz
  have q1 : (i : Int) / 64 = (j : Int) := by omega
  have q2 : (i : Int) % 64 = (r : Int) := by omega
  have q3 : (0 : Int) ≤ i := by omega
  have q4 : (0 : Int) ≤ j := by omega
  have q5 : (j : Int) < 64 := by omega
  have q6 : (0 : Int) ≤ r := by omega
  have q7 : (r : Int) < 64 := by omega
  clear h hs hz hzz hj hr hl hv hi
  obtain ⟨N, hN⟩ : ∃ N, w.heap.size = N := ⟨_, rfl⟩
  have HN := Hid.of hN
  have hap : ∀ (u : World) (x : Value), (u.setCell ⟨N, r, none⟩ x).cell? ⟨p, 6 + j, none⟩ = u.cell? ⟨p, 6 + j, none⟩ := fun u x => World.cell?_setCell_other _ _ _ _ (by intro e; injection e with e1; have := HP.out; have := HN.out; omega)
  have haf : ∀ (u : World) (x : Value), (u.setCell ⟨N, r, none⟩ x).frozen? ⟨p, 6 + j, none⟩ = u.frozen? ⟨p, 6 + j, none⟩ := fun u x => by rw [World.frozen?_setCell]
  rcases hsh with ⟨rfl, hn⟩ | ⟨g, rfl, hA, hgp, hg⟩
  · have KN := Hid.of hn
    clear hn
    go_enter Try.func32, Try.ntmps32
    go_wp2_with (refine wpList_zeroed rfl 73 rfl (.agg z) HZ.out z rfl ?_
                 rw [HN.out]
                 obtain ⟨w1, hw1⟩ : ∃ w1, w.alloc (.cells z 73) = w1 := ⟨_, rfl⟩
                 have CP : Hid (Copied w w1 N (shelfCells f j)) := Hid.of ⟨by rw [← hw1, ← HN.out, Go.heap_alloc_new, HZZ.out, shelfCells_none f j KN.out], by rw [← hw1]; exact (Below.refl _ _).alloc (Nat.le_refl _) _, HN.out.symm, by rw [← hw1, ← HN.out]; simp⟩
                 have c1 : w1.cell? ⟨p, 6 + j, none⟩ = some (.pointer none) := by rw [CP.out.below.cell HP.out]; exact HC.out
                 have c2 : w1.cell? ⟨N, r, none⟩ = some (.string (f (64 * j + r))) := by rw [cell_of_row _ _ _ _ _ _ CP.out.row]; simpa using shelfCells_at f j r r9
                 have f1 : w1.frozen? ⟨p, 6 + j, none⟩ = false := by rw [CP.out.below.frozen HP.out]; exact H.out.free _
                 have f2 : w1.frozen? ⟨N, r, none⟩ = false := row_frozen CP.out.row
                 rw [hw1]
                 clear hw1)
    go_end0
    obtain ⟨a1, a2, a3, a4⟩ := CP.out.put (i := i) (t := t) H.out j9 r9 IR.out
    exact ⟨rfl, a1, a2, a3, a4⟩
  · have HG : Hid (w.heap[g]? = some (.cells (shelfCells f j).toArray 73 (0, 0))) := Hid.of hg
    have ZL : Hid (z.size = 64) := Hid.of (by rw [HZZ.out, List.size_toArray, List.length_replicate])
    have GN : Hid (g < w.heap.size) := Hid.of (Array.getElem?_eq_some_iff.1 hg).1
    clear hg
    go_enter Try.func32, Try.ntmps32
    go_wp2_with (first
      | (refine wpList_zeroed rfl 73 rfl (.agg z) HZ.out z rfl ?_
         rw [HN.out]
         obtain ⟨w1, hw1⟩ : ∃ w1, w.alloc (.cells z 73) = w1 := ⟨_, rfl⟩
         have B1 : Hid (Below w.heap.size w w1) := Hid.of (by rw [← hw1]; exact (Below.refl _ _).alloc (Nat.le_refl _) _)
         have c1 : w1.cell? ⟨p, 6 + j, none⟩ = some (.pointer (some ⟨g, 0, none⟩)) := by rw [B1.out.cell HP.out]; exact HC.out
         have R1 : Hid (w1.heap[N]? = some (.cells z 73 (0, 0))) := Hid.of (by rw [← hw1, ← HN.out, Go.heap_alloc_new])
         have G1 : Hid (w1.heap[g]? = some (.cells (shelfCells f j).toArray 73 (0, 0))) := Hid.of (by rw [B1.out.block g GN.out]; exact HG.out)
         have S1 : Hid (N < w1.heap.size) := Hid.of (by rw [← hw1, ← HN.out]; simp)
         rw [hw1]
         clear hw1)
      | (refine wpList_load_row rfl 73 _ rfl g rfl 73 (shelfCells f j).toArray (0, 0) _ G1.out Try.underlying73 rfl (by rw [List.size_toArray, shelfCells_length]; exact shelf_size) ?_)
      | (refine wpList_store_row rfl 73 _ _ rfl N (shelfCells f j).toArray rfl rfl 73 z R1.out (by rw [shelfRow_size]; exact shelf_size) (ZL.out.trans (shelfRow_size f j).symm) (all_oneCell_toArray (shelfCells_one f j)) ?_
         obtain ⟨w2, hw2⟩ : ∃ w2, w1.setRow N (shelfCells f j).toArray = w2 := ⟨_, rfl⟩
         have CP : Hid (Copied w w2 N (shelfCells f j)) := Hid.of ⟨by rw [← hw2]; exact setRow_heap _ _ _ _ _ _ R1.out, by
           rw [← hw2]
           exact B1.out.trans ⟨rfl, rfl, rfl, by simp, fun k hk => setRow_other _ _ _ _ (by have := HN.out; omega)⟩, HN.out.symm, by rw [← hw2]; simpa using S1.out⟩
         have c1 : w2.cell? ⟨p, 6 + j, none⟩ = some (.pointer (some ⟨g, 0, none⟩)) := by rw [CP.out.below.cell HP.out]; exact HC.out
         have c2 : w2.cell? ⟨N, r, none⟩ = some (.string (f (64 * j + r))) := by rw [cell_of_row _ _ _ _ _ _ CP.out.row]; simpa using shelfCells_at f j r r9
         have f1 : w2.frozen? ⟨p, 6 + j, none⟩ = false := by rw [CP.out.below.frozen HP.out]; exact H.out.free _
         have f2 : w2.frozen? ⟨N, r, none⟩ = false := row_frozen CP.out.row
         rw [hw2]
         clear hw2))
    go_end0
    obtain ⟨a1, a2, a3, a4⟩ := CP.out.put (i := i) (t := t) H.out j9 r9 IR.out
    exact ⟨rfl, a1, a2, a3, a4⟩

theorem repeat_zero (n : Nat) : Lib.repeatL [0] n = List.replicate n (0 : UInt8) := by
  induction n with
  | zero => rfl
  | succ n ih => simp [Lib.repeatL, ih, List.replicate_succ]

theorem Repeat_any (w : World) : Calls Try.prog 37 #[.string ⟨#[0]⟩, .int .i64 256] w fun e w' => e = .returned (.string (fillText 0)) ∧ Below w.heap.size w w' := by
  refine (Try.strings_Repeat ⟨#[0]⟩ 256 w (by omega) (by decide)).mono ?_
  rintro e w' ⟨rfl, b⟩
  refine ⟨?_, b⟩
  rw [show (⟨#[0]⟩ : ByteArray).data.toList = [0] from rfl, repeat_zero]
  rfl

theorem get_any (w : World) (p : Nat) (d : DV) (A : Nat → Prop) (f : Nat → ByteArray) (i : Nat) (h : DBlk w p d) (hs : Shelves w A p d.now f) (hi : i < 4096) (hz : (f i).size = 0 ∨ (f i).size = 256) :
    Calls Try.prog 29 #[sptr p, .int .i64 i] w fun e w' => e = .returned (.string (textAt f i)) ∧ Below w.heap.size w w' := by
  obtain ⟨j, hj⟩ : ∃ j, i / 64 = j := ⟨_, rfl⟩
  obtain ⟨r, hr⟩ : ∃ r, i % 64 = r := ⟨_, rfl⟩
  have j9 : j < 64 := by omega
  have r9 : r < 64 := by omega
  have hir : i = 64 * j + r := by omega
  have hl : j < d.now.length := by rw [h.now]; exact j9
  obtain ⟨v, hv⟩ : ∃ v, d.now[j]? = some v := ⟨_, List.getElem?_eq_getElem hl⟩
  have hsh := hs j v hv
  have c1 := h.cnow j v hv
  have q1 : (i : Int) / 64 = (j : Int) := by omega
  have q2 : (i : Int) % 64 = (r : Int) := by omega
  have q3 : (0 : Int) ≤ i := by omega
  have q4 : (0 : Int) ≤ j := by omega
  have q5 : (j : Int) < 64 := by omega
  have q6 : (0 : Int) ≤ r := by omega
  have q7 : (r : Int) < 64 := by omega
  obtain ⟨s, hs⟩ : ∃ s, f i = s := ⟨_, rfl⟩
  rw [hs] at hz
  have HS := Hid.of hs
  rcases hsh with ⟨rfl, hn⟩ | ⟨g, rfl, hA, hgp, hg⟩
  · have h0 : s = ⟨#[]⟩ := by rw [← hs, hir]; exact hn r r9
    have H0 := Hid.of h0
    clear h hj hr hl hv hi hn hz hs h0 hir
    go_enter Try.func29, Try.ntmps29
    go_wp2_with (go_at_call 37; refine (Repeat_any _).mono ?_; rintro e w1 ⟨rfl, b1⟩)
    go_ret
    refine ⟨?_, b1⟩
    rw [show textAt f i = fillText 0 by unfold textAt; rw [HS.out, H0.out]; rfl]
    rfl
  · have c2 : w.cell? ⟨g, r, none⟩ = some (.string s) := by rw [cell_of_row _ _ _ _ _ _ hg, ← hs, hir]; simpa using shelfCells_at f j r r9
    rcases hz with hz | hz
    · have H0 : Hid (s = ⟨#[]⟩) := Hid.of (by
        cases s with
        | mk a => exact congrArg ByteArray.mk (Array.eq_empty_of_size_eq_zero hz))
      rw [H0.out] at c2
      clear h hj hr hl hv hi hz hs hir hg hA hgp
      go_enter Try.func29, Try.ntmps29
      go_wp2_with (go_at_call 37; refine (Repeat_any _).mono ?_; rintro e w1 ⟨rfl, b1⟩)
      go_ret
      refine ⟨?_, b1⟩
      rw [show textAt f i = fillText 0 by unfold textAt; rw [HS.out, H0.out]; rfl]
      rfl
    · have hne : s.toList.isEmpty = false := by
        rw [List.isEmpty_eq_false_iff]
        intro e
        have e1 := congrArg List.length e
        rw [ByteArray.toList_eq, byte_len] at e1
        have e2 : ([] : List UInt8).length = 0 := rfl
        omega
      have HZ : Hid (s.size = 256) := Hid.of hz
      clear h hj hr hl hv hi hz hs hir hg hA hgp
      go_enter Try.func29, Try.ntmps29
      go_wp2_with (go_at_call 31; refine (Clone_any _ _ (by have := HZ.out; omega)).mono ?_; rintro e w1 ⟨rfl, b1⟩)
      go_ret
      refine ⟨?_, b1⟩
      rw [show textAt f i = s by unfold textAt; rw [HS.out, if_neg (by have := HZ.out; omega)]]
      rfl

end Go.Proofs.Ytpgiknejgolllaa
