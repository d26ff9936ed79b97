/-
  What statement DiskLasts answers: true, for every input.
-/
import Derived.Test.YtpgiknejgolllaaDB
import Derived.Laws.OwnMore
import Derived.Deep.RegionHeld3
import Derived.Deep.QuietTactic
import Derived.BigQuiet
namespace Go.Proofs.Ytpgiknejgolllaa
open Go.RowKit Go.Lib

/-- The first i writes: places out of xs, texts told by f. -/
def writesOf (xs : List Int) (f : Nat → ByteArray) (i : Nat) : List (Nat × ByteArray) := (List.range i).map fun j => ((xs.getD j 0 % 8).toNat, f j)

theorem writesOf_snoc (xs : List Int) (f : Nat → ByteArray) (i : Nat) (x : Int) (hx : xs[i]? = some x) : writesOf xs f i ++ [((x % 8).toNat, f i)] = writesOf xs f (i + 1) := by
  unfold writesOf
  rw [List.range_succ, List.map_append]
  simp [hx]

theorem writesOf_length (xs : List Int) (f : Nat → ByteArray) (i : Nat) : (writesOf xs f i).length = i := by simp [writesOf]

def textA (j : Nat) : ByteArray := fillText (UInt8.ofNat (j + 1))
def textB (j : Nat) : ByteArray := fillText (UInt8.ofNat (100 + j))

theorem textA_size (j : Nat) : (textA j).size = 256 := fillText_size _
theorem textB_size (j : Nat) : (textB j).size = 256 := fillText_size _

theorem byte_of (k : Nat) (h : k < 256) : ((UInt8.ofNat k).toNat : Int) = (k : Int) := by
  have : (UInt8.ofNat k).toNat = k := by simp [Nat.mod_eq_of_lt h]
  rw [this]

/-- Texts that are laid one by one. -/
def layRow (z : ByteArray) (k : Nat) : List ByteArray := List.replicate k z ++ List.replicate (8 - k) ⟨#[]⟩

theorem layRow_set (z : ByteArray) (k : Nat) (h : k < 8) : (layRow z k).set k z = layRow z (k + 1) := by
  unfold layRow
  obtain ⟨m, hm⟩ : ∃ m, 8 - k = m + 1 := ⟨7 - k, by omega⟩
  have h2 : 8 - (k + 1) = m := by omega
  rw [hm, h2, List.replicate_succ, List.set_append, if_neg (by simp), List.length_replicate, Nat.sub_self, List.set_cons_zero, List.replicate_succ', List.append_assoc]
  rfl

theorem layRow_end (z : ByteArray) : layRow z 8 = List.replicate 8 z := by
  unfold layRow
  rw [Nat.sub_self, List.replicate_zero, List.append_nil]

/-- The row of texts of one's own at block g. -/
def WantRow (w : World) (B g : Nat) (l : List ByteArray) : Prop := w.ownsRow B 9 1 (.slice (some ⟨g, 0, none⟩) 8 8) 8 (l.map Value.string)

theorem WantRow.len {w : World} {B g : Nat} {l : List ByteArray} (h : WantRow w B g l) : l.length = 8 := by
  have := h.1
  simpa using this

theorem WantRow.free {w : World} {B g : Nat} {l : List ByteArray} (h : WantRow w B g l) (j : Nat) : w.frozen? ⟨g, j, none⟩ = false := World.ownsRow.frozenAt h j

theorem WantRow.cell {w : World} {B g : Nat} {l : List ByteArray} (h : WantRow w B g l) (j : Nat) (t : ByteArray) (hj : l[j]? = some t) : w.cell? ⟨g, j, none⟩ = some (.string t) := by
  have hl := (List.getElem?_eq_some_iff.1 hj).1
  rw [World.ownsRow.cellAt h j (by rw [h.len] at hl; omega), List.getElem?_map, hj]
  rfl

theorem WantRow.stored {w : World} {B g : Nat} {l : List ByteArray} (h : WantRow w B g l) (j : Nat) (t : ByteArray) : WantRow (w.setCell ⟨g, j, none⟩ (.string t)) B g (l.set j t) ∧ w.grownBy (w.setCell ⟨g, j, none⟩ (.string t)) (some g) := by
  have hs := World.ownsRow.stored h j (.string t)
  rw [← List.map_set] at hs
  exact hs

theorem WantRow.step {F F' : Nat → Prop} {w w' : World} {B g : Nat} {l : List ByteArray} (h : WantRow w B g l) (st : Step F F' w w') (hg : ¬ F g) : WantRow w' B g l :=
  st.own h (fun k hk => by simp [Value.ownBlock] at hk; rw [← hk]; exact hg)

theorem WantRow.kept {w w' : World} {B g : Nat} {l : List ByteArray} (h : WantRow w B g l) (b : Below w.heap.size w w') : WantRow w' B g l :=
  World.ownsRow.kept h (grown_of_below b) (by simp [Value.ownBlock])

theorem WantRow.lt {w : World} {B g : Nat} {l : List ByteArray} (h : WantRow w B g l) : B ≤ g ∧ g < w.heap.size := World.ownsRow.lt h g rfl

/-- The disk and the row beside it. -/
structure Both (S : DiskSpec) (w0 w : World) (p g : Nat) (s : DSt) (l : List ByteArray) (F : Foot) : Prop where
  disk : DHere S w0.heap.size w0 w p s F
  row : WantRow w w0.heap.size g l
  off : ¬ F.all g

theorem Both.next {S : DiskSpec} {w0 w w' : World} {p g : Nat} {s : DSt} {l : List ByteArray} {F : Foot} (h : Both S w0 w p g s l F) (b : Below w.heap.size w w') : Both S w0 w' p g s l F :=
  ⟨h.disk.next b, h.row.kept b, h.off⟩

theorem Both.step {S : DiskSpec} {w0 w w' : World} {p g : Nat} {s s' : DSt} {l : List ByteArray} {F F' : Foot} (h : Both S w0 w p g s l F) (d : DHere S w0.heap.size w0 w' p s' F') (st : FStep F F' w w') : Both S w0 w' p g s' l F' :=
  ⟨d, h.row.step st.own (fun c => h.off (S.sub h.disk.rep g c)), fun c => by
    rcases st.more g c with k | k
    · exact h.off k
    · have := h.row.lt.2
      omega⟩

theorem Both.stored {S : DiskSpec} {w0 w : World} {p g : Nat} {s : DSt} {l : List ByteArray} {F : Foot} (h : Both S w0 w p g s l F) (j : Nat) (t : ByteArray) : Both S w0 (w.setCell ⟨g, j, none⟩ (.string t)) p g s (l.set j t) F := by
  have hs := h.row.stored j t
  exact ⟨h.disk.grown hs.2 (fun k hk => by simp at hk; subst hk; exact ⟨h.off, h.row.lt.1⟩), hs.1, h.off⟩

theorem make_texts (w : World) : ∃ w', (Instr.makeSlice 46 (.int .i64 8) (.int .i64 8)).run Try.prog w = .ok (.slice (some ⟨w.heap.size, 0, none⟩) 8 8) w' ∧ WantRow w' w.heap.size w.heap.size (layRow ⟨#[]⟩ 0) ∧ Below w.heap.size w w' := by
  obtain ⟨i0, hi, hz0, hz1, hz2⟩ := info_parts (show (Try.prog.info? 9).map (fun i => (i.zero, i.size, i.bytes)) = some (some (.string ⟨#[]⟩), 1, 16) by kernel_rfl)
  obtain ⟨w1, hmk, o1, g1⟩ := run_makeSlice_full (P := Try.prog) w w.heap.size 46 9 i0 (.string ⟨#[]⟩) 1 Try.underlying46 hi hz0 hz1 .i64 .i64 8 (by omega) (by rw [hz2]; omega) (by decide) (Nat.le_refl _)
  refine ⟨w1, hmk, ?_, below_of_none g1⟩
  have e : (madeCells (Value.string ⟨#[]⟩).cells (8 * 1)).toList = (layRow ⟨#[]⟩ 0).map Value.string := by
    rw [show (Value.string ⟨#[]⟩).cells = #[Value.string ⟨#[]⟩] from rfl, toList_madeCells_one]
    rfl
  rw [e] at o1
  exact o1

theorem layRow_zero (z : ByteArray) : layRow z 0 = layRow ⟨#[]⟩ 0 := rfl

theorem Fill_text {c : UInt8} {t : ByteArray} {k : Int} (ht : fillText c = t) (hk : (c.toNat : Int) = k) (w : World) : Calls Try.prog 12 #[.int .u8 k] w fun e w' => e = .returned (.string t) ∧ Below w.heap.size w w' := by
  rw [← ht]
  exact Fill_named hk w

theorem byte_wrap (m : Nat) (i : Int) (hi : i = (m : Int)) (h : m < 256) : ((UInt8.ofNat m).toNat : Int) = IntKind.u8.wrap (IntKind.i64.wrap i) := by
  rw [byte_of m h, hi, IntKind.wrap_u8', IntKind.wrap_i64]
  omega

theorem cell_apart {g b : Nat} (h : b < g) (k o : Nat) (u : World) (v : Value) : (u.setCell ⟨g, k, none⟩ v).cell? ⟨b, o, none⟩ = u.cell? ⟨b, o, none⟩ :=
  World.cell?_of_block (heap_setCell_other u ⟨g, k, none⟩ b v (by simp; omega))

theorem place_of (x : Int) : ∃ k : Nat, x % 8 = (k : Int) ∧ (x % 8).toNat = k ∧ k < 8 := ⟨(x % 8).toNat, by omega, rfl, by omega⟩

set_option maxRecDepth 20000 in
set_option maxHeartbeats 6400000 in
theorem diskLasts_main (S : DiskSpec) (v1 v2 v3 : Value) (xs ys ks : List Int) (w : World) (hv1 : NumRow .i64 w v1 xs) (hv2 : NumRow .i64 w v2 ys) (hv3 : NumRow .i64 w v3 ks) :
    Calls Try.prog 5 #[v1, v2, v3] w fun e w' => e = .returned (.bool true) ∧ Below w.heap.size w w' := by
  have HC1 : Hid (CellRow w v1 xs.length (xs.map (Value.int .i64))) := Hid.of (NumRow.cells' hv1)
  have HC2 : Hid (CellRow w v2 ys.length (ys.map (Value.int .i64))) := Hid.of (NumRow.cells' hv2)
  have HC3 : Hid (CellRow w v3 ks.length (ks.map (Value.int .i64))) := Hid.of (NumRow.cells' hv3)
  obtain ⟨a1, c1, rfl, _⟩ := hv1
  obtain ⟨a2, c2, rfl, _⟩ := hv2
  obtain ⟨a3, c3, rfl, _⟩ := hv3
  by_cases hz : 10 < xs.length ∨ 20 < ys.length ∨ 30 < ks.length
  · have hz' : 10 < xs.length ∨ (¬ 10 < xs.length ∧ 20 < ys.length) ∨ (¬ 10 < xs.length ∧ ¬ 20 < ys.length ∧ 30 < ks.length) := by omega
    clear hz
    rcases hz' with h1 | ⟨h1, h2⟩ | ⟨h1, h2, h3⟩
    all_goals
      go_enter Try.func5, Try.ntmps5
      go_wp2_with fail
      refine (diskAlive_any S _).mono ?_
      rintro e w1 ⟨rfl, b1⟩
      go_wp2
      go_ret
      exact ⟨rfl, b1⟩
  · have h1 : ¬ 10 < xs.length := by omega
    have h2 : ¬ 20 < ys.length := by omega
    have h3 : ¬ 30 < ks.length := by omega
    have X9 : Hid (xs.length ≤ 10) := Hid.of (by omega)
    have Y9 : Hid (ys.length ≤ 20) := Hid.of (by omega)
    have K9 : Hid (ks.length ≤ 30) := Hid.of (by omega)
    clear hz
    obtain ⟨z, hz⟩ : ∃ z, fillText 0 = z := ⟨_, rfl⟩
    have HZ := Hid.of hz
    have FR : Hid (DSt.fresh 8 = ⟨List.replicate 8 z, [], true, 0, none⟩) := Hid.of (by rw [← hz]; rfl)
    clear hz
    go_enter Try.func5, Try.ntmps5
    go_wp2_with fail
    refine (new_disk S 8 _ (by omega) (by omega)).mono ?_
    rintro e w1 ⟨p, F1, rfl, h1'⟩
    rw [FR.out] at h1'
    have H1 := Hid.of h1'
    clear h1' FR
    obtain ⟨w2, hmk, o2, b2⟩ := make_texts w1
    have L1 : ¬ F1.all w1.heap.size := fun c => Nat.lt_irrefl _ (H1.out.lt _ c)
    have H2 : Hid (Both S w w2 p w1.heap.size ⟨List.replicate 8 z, [], true, 0, none⟩ (layRow z 0) F1) := Hid.of ⟨H1.out.next b2, by
      refine ⟨o2.1, ?_⟩
      rcases o2.2 with ⟨h, _⟩ | ⟨g', cap, cur, h, hB, rest⟩
      · cases h
      · exact .inr ⟨g', cap, cur, h, Nat.le_trans H1.out.hB hB, rest⟩, L1⟩
    obtain ⟨g, hg⟩ : ∃ g, w1.heap.size = g := ⟨_, rfl⟩
    rw [hg] at H2 hmk
    clear o2 b2 L1 H1
    clear hg h1 h2 h3
    go_wp2
    go_loopw [9, 35] (fun _ iv wr => ∃ k : Nat, k ≤ 8 ∧ iv = .int .i64 k ∧ Hid (Both S w wr p g ⟨List.replicate 8 z, [], true, 0, none⟩ (layRow z k) F1)) (fun _ iv _ => 8 - (RowKit.intOf iv).toNat)
    case atStart => exact ⟨0, by omega, rfl, H2⟩
    case round =>
      obtain ⟨k, hk, rfl, H⟩ := hrel
      by_cases hlt : k < 8
      · have i1 : (k : Int) < 8 := by omega
        have i0 : (0 : Int) ≤ (k : Int) := Int.natCast_nonneg _
        go_wp2_with fail
        refine (Fill_named (c := 0) (by rfl) _).mono ?_
        rintro e q1 ⟨rfl, r1⟩
        rw [HZ.out]
        have G1 := Hid.of (H.out.next r1)
        have fz : q1.frozen? ⟨g, k, none⟩ = false := G1.out.row.free k
        obtain ⟨t0, ht0⟩ : ∃ t0, (layRow z k)[k]? = some t0 := ⟨_, List.getElem?_eq_getElem (by rw [G1.out.row.len]; exact hlt)⟩
        have cz : q1.cell? ⟨g, k, none⟩ = some (.string t0) := G1.out.row.cell k t0 ht0
        clear r1 ht0
        go_wp2
        go_roundw
        case rel =>
          have hs := G1.out.stored k z
          rw [layRow_set z k hlt] at hs
          exact ⟨k + 1, by omega, by go_num, Hid.of hs⟩
        case measure => simp [RowKit.intOf]; omega
      · have hk8 : k = 8 := by omega
        have hk9 : (k : Int) = 8 := by omega
        have hH := H.out
        rw [hk8, layRow_end] at hH
        rw [hk9]
        clear hk9
        have H3 : Hid (Both S w wr p g ⟨List.replicate 8 z, writesOf xs textA 0, true, 0, none⟩ (dApply (List.replicate 8 z) (writesOf xs textA 0)) F1) := Hid.of hH
        clear hH H hk hlt H2 hk8
        go_wp2
        go_loopw [10] (fun iv wr => ∃ (j : Nat) (F : Foot), j ≤ xs.length ∧ iv = .int .i64 j ∧ Hid (Both S w wr p g ⟨List.replicate 8 z, writesOf xs textA j, true, j, none⟩ (dApply (List.replicate 8 z) (writesOf xs textA j)) F)) (fun iv _ => xs.length - (RowKit.intOf iv).toNat)
        case atStart => exact ⟨0, F1, Nat.zero_le _, rfl, H3⟩
        case round =>
          obtain ⟨j, F, hj, rfl, H⟩ := hrel
          by_cases hlt : j < xs.length
          · have i1 : (j : Int) < (xs.length : Int) := by omega
            have i0 : (0 : Int) ≤ (j : Int) := Int.natCast_nonneg _
            have hx : xs[j]? = some xs[j] := List.getElem?_eq_getElem hlt
            generalize xs[j] = x at hx
            obtain ⟨k, hk1, hk2, hk8⟩ := place_of x
            have hx7 : bits .and .i64 x 7 = (k : Int) := by rw [and_7]; exact hk1
            obtain ⟨tt, htt⟩ : ∃ tt, textA j = tt := ⟨_, rfl⟩
            have TA : Hid (fillText (UInt8.ofNat (j + 1)) = tt) := Hid.of htt
            have TS : Hid (tt.size = 256) := Hid.of (by rw [← htt]; exact textA_size j)
            have TM : Hid (tt.size ≤ maxLen) := Hid.of (by rw [TS.out]; unfold maxLen; omega)
            have hsn := writesOf_snoc xs textA j x hx
            rw [htt, hk2] at hsn
            have HSN := Hid.of hsn
            have j9 : j ≤ 10 := by have := X9.out; omega
            have J9 := Hid.of j9
            have BYT : Hid (((UInt8.ofNat (j + 1)).toNat : Int) = IntKind.u8.wrap (IntKind.i64.wrap ((j : Int) + 1))) := Hid.of (byte_wrap (j + 1) _ (by push_cast; rfl) (by omega))
            have SM : Hid (DSt.Small ⟨List.replicate 8 z, writesOf xs textA j, true, j, none⟩ 1000) := Hid.of ⟨by simp only; omega, by simp only [writesOf_length]; omega, by simp only [List.length_replicate]; omega⟩
            have WR : Hid (DSt.write ⟨List.replicate 8 z, writesOf xs textA j, true, j, none⟩ (k : Int) tt = (0, ⟨List.replicate 8 z, writesOf xs textA (j + 1), true, j + 1, none⟩)) := Hid.of (by rw [DSt.write_free _ _ _ k tt TS.out (by rw [List.length_replicate]; exact hk8), hsn])
            have WN : Hid ((dApply (List.replicate 8 z) (writesOf xs textA j)).set k tt = dApply (List.replicate 8 z) (writesOf xs textA (j + 1))) := Hid.of (by rw [← hsn, dApply_snoc])
            obtain ⟨bb, oo, rfl, hlb, hcell⟩ := int_at0 HC1.out j x hx
            have HCE := Hid.of hcell
            have HLT := Hid.of hlb
            have cx : wr.cell? ⟨bb, oo + j, none⟩ = some (.int .i64 x) := by rw [H.out.disk.fr.cell hlb]; exact hcell
            have hap : ∀ (u : World) (v : Value), (u.setCell ⟨g, k, none⟩ v).cell? ⟨bb, oo + j, none⟩ = u.cell? ⟨bb, oo + j, none⟩ := fun u v => cell_apart (Nat.lt_of_lt_of_le hlb H.out.row.lt.1) k (oo + j) u v
            have k0 : (0 : Int) ≤ (k : Int) := Int.natCast_nonneg _
            have k8 : (k : Int) < 8 := by omega
            clear hx hk1 hk2 htt hsn j9 hcell hlb
            go_wp2
            go_region_held3 (fun w' => w'.cell? ⟨bb, oo + j, none⟩ = some (.int .i64 x)) (go_keep) (first | (go_at_call 12; refine (Fill_text TA.out BYT.out _).mono ?_; rintro e q1 ⟨rfl, r1⟩; have G1 := Hid.of (H.out.next ((Below.refl _ wr).drew.trans r1)); clear r1 cx; have cx : q1.cell? ⟨bb, oo + j, none⟩ = some (.int .i64 x) := (by rw [G1.out.disk.fr.cell HLT.out]; exact HCE.out)) | (go_at_call 11; refine (G1.out.disk.write WR.out SM.out TM.out).mono ?_; rintro e q2 ⟨rfl, F2, r2, st⟩; have G2 := Hid.of (G1.out.step r2 st); clear r2 st cx; have cx : q2.cell? ⟨bb, oo + j, none⟩ = some (.int .i64 x) := (by rw [G2.out.disk.fr.cell HLT.out]; exact HCE.out)))

            go_wp2
            go_region_held3 (fun w' => w'.cell? ⟨bb, oo + j, none⟩ = some (.int .i64 x)) (go_keep) (first | (go_at_call 12; refine (Fill_text TA.out BYT.out _).mono ?_; rintro e q3 ⟨rfl, r3⟩; have G3 := Hid.of (G2.out.next ((Below.refl _ q2).drew.trans r3)); obtain ⟨t0, ht0⟩ : ∃ t0, (dApply (List.replicate 8 z) (writesOf xs textA j))[k]? = some t0 := ⟨_, List.getElem?_eq_getElem (by rw [G3.out.row.len]; exact hk8)⟩; have cz : q3.cell? ⟨g, k, none⟩ = some (.string t0) := G3.out.row.cell k t0 ht0; have fz : q3.frozen? ⟨g, k, none⟩ = false := G3.out.row.free k; clear r3 cx ht0; have cx : q3.cell? ⟨bb, oo + j, none⟩ = some (.int .i64 x) := (by rw [G3.out.disk.fr.cell HLT.out]; exact HCE.out)))
            go_wp2
            go_roundw
            case rel =>
              have hs := G3.out.stored k tt
              rw [WN.out] at hs
              exact ⟨j + 1, F2, by omega, by go_num, Hid.of hs⟩
            case measure => simp [RowKit.intOf]; omega
          · have hjl : j = xs.length := by omega
            subst hjl
            have S3 : Hid (DSt.Small ⟨List.replicate 8 z, writesOf xs textA xs.length, true, xs.length, none⟩ 1000) := Hid.of ⟨by have := X9.out; simp only; omega, by have := X9.out; simp only [writesOf_length]; omega, by simp only [List.length_replicate]; omega⟩
            clear hlt hj H3
            go_wp2_with fail
            refine (H.out.disk.flush (DSt.flush_free _ _ _) S3.out).mono ?_
            rintro e y1 ⟨rfl, F4, h4, st⟩
            have hH := H.out.step h4 st
            obtain ⟨LA, hLA⟩ : ∃ LA, dApply (List.replicate 8 z) (writesOf xs textA xs.length) = LA := ⟨_, rfl⟩
            rw [hLA] at hH
            have LL : Hid (LA.length = 8) := Hid.of (by rw [← hLA, dApply_length, List.length_replicate])
            obtain ⟨n1, hn1⟩ : ∃ n1, xs.length + 1 = n1 := ⟨_, rfl⟩
            rw [hn1] at hH
            have N9 : Hid (n1 ≤ 11) := Hid.of (by have := X9.out; omega)
            have H4 : Hid (Both S w y1 p g ⟨LA, writesOf ys textB 0, true, n1 + 0, none⟩ (dApply LA (dStay (writesOf ys textB 0) ks)) F4) := Hid.of hH
            clear h4 st hH hLA hn1 S3 H
            go_wp2
            go_loopw [11] (fun iv wr => ∃ (j : Nat) (F : Foot), j ≤ ys.length ∧ iv = .int .i64 j ∧ Hid (Both S w wr p g ⟨LA, writesOf ys textB j, true, n1 + j, none⟩ (dApply LA (dStay (writesOf ys textB j) ks)) F)) (fun iv _ => ys.length - (RowKit.intOf iv).toNat)
            case atStart => exact ⟨0, F4, Nat.zero_le _, rfl, H4⟩
            case round =>
              obtain ⟨j, F, hj, rfl, H⟩ := hrel
              by_cases hlt : j < ys.length
              · have i1 : (j : Int) < (ys.length : Int) := by omega
                have i0 : (0 : Int) ≤ (j : Int) := Int.natCast_nonneg _
                have hx : ys[j]? = some ys[j] := List.getElem?_eq_getElem hlt
                generalize ys[j] = x at hx
                obtain ⟨k, hk1, hk2, hk8⟩ := place_of x
                have hx7 : bits .and .i64 x 7 = (k : Int) := by rw [and_7]; exact hk1
                obtain ⟨tt, htt⟩ : ∃ tt, textB j = tt := ⟨_, rfl⟩
                have TA : Hid (fillText (UInt8.ofNat (100 + j)) = tt) := Hid.of htt
                have TS : Hid (tt.size = 256) := Hid.of (by rw [← htt]; exact textB_size j)
                have TM : Hid (tt.size ≤ maxLen) := Hid.of (by rw [TS.out]; unfold maxLen; omega)
                have hsn := writesOf_snoc ys textB j x hx
                rw [htt, hk2] at hsn
                have j9 : j ≤ 20 := by have := Y9.out; omega
                have J9 := Hid.of j9
                have BYT : Hid (((UInt8.ofNat (100 + j)).toNat : Int) = IntKind.u8.wrap (IntKind.i64.wrap (100 + (j : Int)))) := Hid.of (byte_wrap (100 + j) _ (by push_cast; rfl) (by omega))
                have SM : Hid (DSt.Small ⟨LA, writesOf ys textB j, true, n1 + j, none⟩ 1000) := Hid.of ⟨by have := N9.out; simp only; omega, by simp only [writesOf_length]; omega, by simp only [LL.out]; omega⟩
                have WR : Hid (DSt.write ⟨LA, writesOf ys textB j, true, n1 + j, none⟩ (k : Int) tt = (0, ⟨LA, writesOf ys textB (j + 1), true, n1 + (j + 1), none⟩)) := Hid.of (by rw [DSt.write_free _ _ _ k tt TS.out (by rw [LL.out]; exact hk8), hsn]; rfl)
                have WN : Hid (dApply LA (dStay (writesOf ys textB (j + 1)) ks) = if dBit ks j then (dApply LA (dStay (writesOf ys textB j) ks)).set k tt else dApply LA (dStay (writesOf ys textB j) ks)) := Hid.of (by rw [← hsn, dCut_snoc, writesOf_length])
                obtain ⟨bb, oo, rfl, hlb, hcell⟩ := int_at0 HC2.out j x hx
                have HCE := Hid.of hcell
                have HLT := Hid.of hlb
                have cx : wr.cell? ⟨bb, oo + j, none⟩ = some (.int .i64 x) := by rw [H.out.disk.fr.cell hlb]; exact hcell
                have hap : ∀ (u : World) (v : Value), (u.setCell ⟨g, k, none⟩ v).cell? ⟨bb, oo + j, none⟩ = u.cell? ⟨bb, oo + j, none⟩ := fun u v => cell_apart (Nat.lt_of_lt_of_le hlb H.out.row.lt.1) k (oo + j) u v
                have k0 : (0 : Int) ≤ (k : Int) := Int.natCast_nonneg _
                have k8 : (k : Int) < 8 := by omega
                clear hx hk1 hk2 htt hsn j9 hcell hlb
                go_wp2
                go_region_held3 (fun w' => w'.cell? ⟨bb, oo + j, none⟩ = some (.int .i64 x)) (go_keep) (first | (go_at_call 12; refine (Fill_text TA.out BYT.out _).mono ?_; rintro e q1 ⟨rfl, r1⟩; have G1 := Hid.of (H.out.next ((Below.refl _ wr).drew.trans r1)); clear r1 cx; have cx : q1.cell? ⟨bb, oo + j, none⟩ = some (.int .i64 x) := (by rw [G1.out.disk.fr.cell HLT.out]; exact HCE.out)) | (go_at_call 11; refine (G1.out.disk.write WR.out SM.out TM.out).mono ?_; rintro e q2 ⟨rfl, F2, r2, st⟩; have G2 := Hid.of (G1.out.step r2 st); clear r2 st cx; have cx : q2.cell? ⟨bb, oo + j, none⟩ = some (.int .i64 x) := (by rw [G2.out.disk.fr.cell HLT.out]; exact HCE.out)))
                have key : (¬ j < ks.length ∧ dBit ks j = false) ∨ (j < ks.length ∧ ∃ y, ks[j]? = some y ∧ y % 2 = 1 ∧ dBit ks j = true) ∨ (j < ks.length ∧ ∃ y, ks[j]? = some y ∧ ¬ y % 2 = 1 ∧ dBit ks j = false) := by
                  by_cases c2 : j < ks.length
                  · have hk : ks[j]? = some ks[j] := List.getElem?_eq_getElem c2
                    by_cases c3 : ks[j] % 2 = 1
                    · exact .inr (.inl ⟨c2, _, hk, c3, by simp [dBit, hk, c3]⟩)
                    · exact .inr (.inr ⟨c2, _, hk, c3, by simp [dBit, hk, c3]⟩)
                  · exact .inl ⟨c2, by simp [dBit, List.getElem?_eq_none (Nat.le_of_not_lt c2)]⟩
                rcases key with ⟨d2, hb⟩ | ⟨d2, y, hy, hm, hb⟩ | ⟨d2, y, hy, hm, hb⟩
                · have d3 : ¬ (j : Int) < (ks.length : Int) := by omega
                  have WN2 := WN.out
                  rw [if_neg (by simp [hb])] at WN2
                  have WN3 := Hid.of WN2
                  clear WN2 hb WN
                  go_wp2
                  go_roundw
                  case rel => exact ⟨j + 1, F2, by omega, by go_num, Hid.of (by rw [WN3.out]; exact G2.out)⟩
                  case measure => simp [RowKit.intOf]; omega
                · have d3 : (j : Int) < (ks.length : Int) := by omega
                  have WN2 := WN.out
                  rw [if_pos hb] at WN2
                  have WN3 := Hid.of WN2
                  have hb1 : bits .and .i64 y 1 = 1 := by rw [and_1]; exact hm
                  obtain ⟨b3, o3, rfl, hl3, hc3⟩ := int_at0 HC3.out j y hy
                  have cy : q2.cell? ⟨b3, o3 + j, none⟩ = some (.int .i64 y) := by rw [G2.out.disk.fr.cell hl3]; exact hc3
                  clear WN2 hb WN hy hm hl3 hc3
                  go_wp2
                  go_region_held3 (fun w' => w'.cell? ⟨bb, oo + j, none⟩ = some (.int .i64 x)) (go_keep) (first | (go_at_call 12; refine (Fill_text TA.out BYT.out _).mono ?_; rintro e q3 ⟨rfl, r3⟩; have G3 := Hid.of (G2.out.next ((Below.refl _ q2).drew.trans r3)); obtain ⟨t0, ht0⟩ : ∃ t0, (dApply LA (dStay (writesOf ys textB j) ks))[k]? = some t0 := ⟨_, List.getElem?_eq_getElem (by rw [G3.out.row.len]; exact hk8)⟩; have cz : q3.cell? ⟨g, k, none⟩ = some (.string t0) := G3.out.row.cell k t0 ht0; have fz : q3.frozen? ⟨g, k, none⟩ = false := G3.out.row.free k; clear r3 cx ht0 cy; have cx : q3.cell? ⟨bb, oo + j, none⟩ = some (.int .i64 x) := (by rw [G3.out.disk.fr.cell HLT.out]; exact HCE.out)))
                  go_wp2
                  go_roundw
                  case rel =>
                    have hs := G3.out.stored k tt
                    rw [← WN3.out] at hs
                    exact ⟨j + 1, F2, by omega, by go_num, Hid.of hs⟩
                  case measure => simp [RowKit.intOf]; omega
                · have d3 : (j : Int) < (ks.length : Int) := by omega
                  have WN2 := WN.out
                  rw [if_neg (by simp [hb])] at WN2
                  have WN3 := Hid.of WN2
                  have hb1 : bits .and .i64 y 1 = 0 := by rw [and_1]; omega
                  obtain ⟨b3, o3, rfl, hl3, hc3⟩ := int_at0 HC3.out j y hy
                  have cy : q2.cell? ⟨b3, o3 + j, none⟩ = some (.int .i64 y) := by rw [G2.out.disk.fr.cell hl3]; exact hc3
                  clear WN2 hb WN hy hm hl3 hc3
                  go_wp2
                  go_roundw
                  case rel => exact ⟨j + 1, F2, by omega, by go_num, Hid.of (by rw [WN3.out]; exact G2.out)⟩
                  case measure => simp [RowKit.intOf]; omega
              · have hjl : j = ys.length := by omega
                subst hjl
                have S5 : Hid (DSt.Small ⟨LA, writesOf ys textB ys.length, true, n1 + ys.length, none⟩ 1000) := Hid.of ⟨by have := N9.out; have := Y9.out; simp only; omega, by have := Y9.out; simp only [writesOf_length]; omega, by simp only [LL.out]; omega⟩
                obtain ⟨R, hR⟩ : ∃ R, dApply LA (dStay (writesOf ys textB ys.length) ks) = R := ⟨_, rfl⟩
                have hH := H.out
                rw [hR] at hH
                have H5 := Hid.of hH
                have RL : Hid (R.length = 8) := Hid.of hH.row.len
                have CU : Hid (DSt.cut ⟨LA, writesOf ys textB ys.length, true, n1 + ys.length, none⟩ ks = ⟨R, [], false, n1 + ys.length, none⟩) := Hid.of (by rw [DSt.cut_on, hR])
                have S6 : Hid (∀ on, DSt.Small ⟨R, [], on, n1 + ys.length, none⟩ 1000) := Hid.of (fun on => ⟨by have := N9.out; have := Y9.out; simp only; omega, by simp, by simp only [RL.out]; omega⟩)
                clear hlt hj H4 hR hH H
                go_wp2_with fail
                refine (H5.out.disk.waiting S5.out).mono ?_
                rintro e y2 ⟨rfl, k2, r2⟩
                rw [writesOf_length]
                have H6 := Hid.of (H5.out.next r2)
                clear k2 r2 H5
                go_wp2_with fail
                refine (H6.out.disk.cut CU.out (n := ys.length) (writesOf_length ys textB ys.length) S5.out (HC3.out.kept H6.out.disk.fr) (H6.out.disk.off_arg HC3.out (Nat.le_refl _)) (by have := K9.out; omega)).mono ?_
                rintro e y3 ⟨rfl, F6, k3, st⟩
                have H7 := Hid.of (H6.out.step k3 st)
                clear k3 st H6
                go_wp2_with fail
                refine H7.out.disk.isOn.mono ?_
                rintro e y4 ⟨rfl, k4, r4⟩
                have H8 := Hid.of (H7.out.next r4)
                clear k4 r4 H7
                go_wp2_with fail
                refine (H8.out.disk.restore (S6.out false)).mono ?_
                rintro e y5 ⟨rfl, F7, k5, st⟩
                have H9 : Hid (Both S w y5 p g ⟨R, [], true, n1 + ys.length, none⟩ R F7) := Hid.of (H8.out.step k5 st)
                clear k5 st H8
                go_wp2
                go_loopw [12, 13, 14] (fun iv _ _ wr => ∃ (j : Nat), j ≤ 8 ∧ iv = .int .i64 j ∧ Hid (Both S w wr p g ⟨R, [], true, n1 + ys.length, none⟩ R F7)) (fun iv _ _ _ => 8 - (RowKit.intOf iv).toNat)
                case atStart => exact ⟨0, by omega, rfl, H9⟩
                case round =>
                  obtain ⟨j, hj, rfl, H⟩ := hrel
                  by_cases hlt : j < 8
                  · have i1 : (j : Int) < 8 := by omega
                    have i0 : (0 : Int) ≤ (j : Int) := Int.natCast_nonneg _
                    obtain ⟨t, ht⟩ : ∃ t, R[j]? = some t := ⟨_, List.getElem?_eq_getElem (by rw [RL.out]; exact hlt)⟩
                    have HT := Hid.of ht
                    have he := same_text t
                    clear ht
                    go_wp2_with fail
                    refine (H.out.disk.reads (i := j) (t := t) rfl HT.out (S6.out true)).mono ?_
                    rintro e q1 ⟨rfl, r1, b1⟩
                    have G1 := Hid.of (H.out.next b1)
                    have cz : q1.cell? ⟨g, j, none⟩ = some (.string t) := G1.out.row.cell j t HT.out
                    clear r1 b1
                    go_wp2
                    go_roundw
                    case rel => exact ⟨j + 1, by omega, by go_num, G1⟩
                    case measure => simp [RowKit.intOf]; omega
                  · have hj8 : (j : Int) = 8 := by omega
                    rw [hj8]
                    clear hj8 hlt hj H9
                    go_wp2_with fail
                    refine (diskAlive_any S _).mono ?_
                    rintro e q2 ⟨rfl, r2⟩
                    have G2 := Hid.of (H.out.next r2)
                    clear r2 H
                    go_wp2_with fail
                    refine (G2.out.disk.waiting (S6.out true)).mono ?_
                    rintro e q3 ⟨rfl, k3, -⟩
                    go_wp2
                    go_ret
                    exact ⟨rfl, k3.fr⟩

end Go.Proofs.Ytpgiknejgolllaa
