/-
  What methods Names and Fill of a Packer do.
-/
import Derived.Test.YtdlljjbooajgiaaDoorF
import Derived.Test.YtdlljjbooajgiaaDoorZ
namespace Go.Proofs.YtdlljjbooajgiaaDoor
open Go.RowKit Go.Lib

/-- The slice v holds the texts ss. -/
def StrRow (w : World) (v : Value) (ss : List ByteArray) : Prop :=
  ∃ a c, v = .slice a ss.length c ∧ ((ss = []) ∨ ∃ b o, a = some ⟨b, o, none⟩ ∧ b < w.heap.size ∧ ∀ j, j < ss.length → w.cell? ⟨b, o + j, none⟩ = some (.string (ss.getD j ByteArray.empty)))

/-- The sixteen bytes of a name. -/
def nameBytes (s : ByteArray) : List UInt8 := [UInt8.ofNat s.size] ++ s.data.toList ++ List.replicate (15 - s.size) 0

def namesBytes (ss : List ByteArray) : List UInt8 := (ss.map nameBytes).flatten

theorem nameBytes_length (s : ByteArray) (h : s.size ≤ 15) : (nameBytes s).length = 16 := by
  simp only [nameBytes, List.length_append, bytes_len, List.length_replicate, List.length_cons, List.length_nil]
  omega

theorem namesBytes_take (ss : List ByteArray) (j : Nat) (h : j < ss.length) : namesBytes (ss.take (j + 1)) = namesBytes (ss.take j) ++ nameBytes (ss.getD j ByteArray.empty) := by
  unfold namesBytes
  have e : ss.getD j ByteArray.empty = ss[j] := by simp [List.getD, h]
  rw [List.take_succ_eq_append_getElem h, List.map_append, List.flatten_append, e]
  simp

theorem namesBytes_length (ss : List ByteArray) (h : ∀ s ∈ ss, s.size ≤ 15) : (namesBytes ss).length = ss.length * 16 := by
  unfold namesBytes
  induction ss with
  | nil => rfl
  | cons s ss ih =>
    rw [List.map_cons, List.flatten_cons, List.length_append, nameBytes_length s (h s (by simp)), ih (fun t ht => h t (by simp [ht]))]
    simp; omega

theorem small_mem {ss : List ByteArray} {m : Nat} (hm : m ≤ ss.length) (h : ∀ j, j < m → (ss.getD j ByteArray.empty).size ≤ 15) : ∀ s ∈ ss.take m, s.size ≤ 15 := by
  intro s hs
  obtain ⟨j, hj, rfl⟩ := List.mem_iff_getElem.1 hs
  have hj2 : j < m := by have := hj; simp at this; omega
  have := h j hj2
  have e : ss.getD j ByteArray.empty = ss[j] := by simp [List.getD]; rw [List.getElem?_eq_getElem (by omega)]; rfl
  rw [e] at this
  simpa using this

set_option maxHeartbeats 400000 in
theorem Names_good (pv : Option Addr) (v : Value) (ss : List ByteArray) (w : World) (R : Int → List UInt8 → World → World → Prop) (hput : Hid (PutSpec (.pointer pv) w R))
    (hv : StrRow w v ss) (hok : Hid (∀ j, j < ss.length → (ss.getD j ByteArray.empty).size ≤ 15)) (h2 : ss.length ≤ 1000000000) :
    Calls Tryd.prog 19 #[.pointer pv, v] w fun e w' => e = .returned (.tuple #[]) ∧ Did w R 0 (namesBytes ss) w' := by
  obtain ⟨a, c, rfl, hv⟩ := hv
  have HV := Hid.of hv
  clear hv
  go_enter Tryd.func19, Tryd.ntmps19
  go_wp2
  go_loopw [4, 9] (fun b i wr => ∃ j : Nat, j ≤ ss.length ∧ i = .int .i64 j ∧ OwnBuf w.heap.size 5 b (j * 16) (Lib.byteCells (namesBytes (ss.take j))) w wr) (fun _ i _ => ss.length - (intOf i).toNat)
  case atStart => exact ⟨0, Nat.zero_le _, rfl, by simpa [namesBytes, Lib.byteCells] using ⟨World.ownsRowF_nil w _ _ _, Below.refl _ _, Nat.le_refl _⟩⟩
  case round =>
    obtain ⟨j, hj, rfl, hbr⟩ := hrel
    by_cases hlt : j < ss.length
    · have hne : ss ≠ [] := by intro e; subst e; simp at hlt
      obtain ⟨vb, vo, rfl, hvb, hcs⟩ := (HV.out).resolve_left hne
      have hsz := hok.out j hlt
      obtain ⟨s, hs⟩ : ∃ s, s = ss.getD j ByteArray.empty := ⟨_, rfl⟩
      have hcell : wr.cell? ⟨vb, vo + j, none⟩ = some (.string s) := by rw [hbr.2.1.cell hvb, hcs j hlt, hs]
      rw [← hs] at hsz
      have HS := Hid.of hs
      clear hs hcs hne
      go_wp2_with (first | (at_builtin; refine append_byte rfl _ _ rfl w.heap.size u4 (j * 16) _ rfl w _ s.size hbr rfl (by omega) ?_; intro b1 w1 hb1) | (at_builtin; refine append_text rfl _ _ rfl w.heap.size b1 (j * 16 + 1) _ rfl w hb1 s rfl (by omega) ?_; intro b2 w2 hb2) | (at_builtin; refine append_zeros rfl _ _ rfl w.heap.size b2 (j * 16 + 1 + s.size) (by omega) _ rfl w hb2 _ (15 - s.size) (by omega) (by omega) rfl (by omega) ?_; intro b3 w3 hb3))
      go_roundw
      case rel =>
        refine ⟨j + 1, by omega, by go_num, ?_⟩
        rw [namesBytes_take ss j hlt, ← HS.out, byteCells_append, nameBytes, byteCells_append, byteCells_append, Nat.succ_mul]
        have e1 : j * 16 + 1 + s.size + (15 - s.size) = j * 16 + 16 := by omega
        have e2 : Lib.byteCells [UInt8.ofNat s.size] = [Value.int .u8 s.size] := by
          have h := byteCells_snoc [] s.size
          simp only [List.nil_append] at h
          rw [h]
          have : ((s.size : Nat) : Int) % 256 = s.size := by omega
          rw [this]; rfl
        rw [e1] at hb3
        rw [e2, ← strCells_eq]
        simpa only [List.append_assoc] using hb3
      case measure => simp [intOf]; omega
    · have hjl : j = ss.length := by omega
      subst hjl
      obtain ⟨hbr1, hbr2, hbr3⟩ := hbr
      rw [List.take_length] at hbr1
      have hnl : (namesBytes ss).length = ss.length * 16 := namesBytes_length ss (by have := small_mem (Nat.le_refl ss.length) hok.out; rwa [List.take_length] at this)
      have HN := Hid.of hnl
      clear hnl
      go_wp2_with (go_at_call 37; refine (hput.out _ (namesBytes ss) 0 _ hbr2 (by rw [HN.out]; exact hbr1) (by rw [HN.out]; omega)).mono ?_; rintro e w1 ⟨rfl, h4⟩)
      go_end0
      exact ⟨rfl, _, hbr2, h4⟩

set_option maxHeartbeats 400000 in
theorem Names_bad (pv : Option Addr) (v : Value) (ss : List ByteArray) (m : Nat) (hm : m < ss.length) (w : World) (R : Int → List UInt8 → World → World → Prop) (hput : Hid (PutSpec (.pointer pv) w R))
    (hv : StrRow w v ss) (hok : Hid (∀ j, j < m → (ss.getD j ByteArray.empty).size ≤ 15)) (hbad : 15 < (ss.getD m ByteArray.empty).size) (h2 : ss.length ≤ 1000000000) :
    Calls Tryd.prog 19 #[.pointer pv, v] w fun e w' => e = .returned (.tuple #[]) ∧ Did w R 2 (namesBytes (ss.take m)) w' := by
  obtain ⟨a, c, rfl, hv⟩ := hv
  have HV := Hid.of hv
  have HB := Hid.of hbad
  clear hv hbad
  go_enter Tryd.func19, Tryd.ntmps19
  go_wp2
  go_loopw [4, 9] (fun b i wr => ∃ j : Nat, j ≤ m ∧ i = .int .i64 j ∧ OwnBuf w.heap.size 5 b (j * 16) (Lib.byteCells (namesBytes (ss.take j))) w wr) (fun _ i _ => m - (intOf i).toNat)
  case atStart => exact ⟨0, Nat.zero_le _, rfl, by simpa [namesBytes, Lib.byteCells] using ⟨World.ownsRowF_nil w _ _ _, Below.refl _ _, Nat.le_refl _⟩⟩
  case round =>
    obtain ⟨j, hj, rfl, hbr⟩ := hrel
    have hlt : j < ss.length := by omega
    have hne : ss ≠ [] := by intro e; subst e; simp at hlt
    obtain ⟨vb, vo, rfl, hvb, hcs⟩ := (HV.out).resolve_left hne
    by_cases hjm : j < m
    · have hsz := hok.out j hjm
      obtain ⟨s, hs⟩ : ∃ s, s = ss.getD j ByteArray.empty := ⟨_, rfl⟩
      have hcell : wr.cell? ⟨vb, vo + j, none⟩ = some (.string s) := by rw [hbr.2.1.cell hvb, hcs j hlt, hs]
      rw [← hs] at hsz
      have HS := Hid.of hs
      clear hs hcs hne
      go_wp2_with (first | (at_builtin; refine append_byte rfl _ _ rfl w.heap.size u4 (j * 16) _ rfl w _ s.size hbr rfl (by omega) ?_; intro b1 w1 hb1) | (at_builtin; refine append_text rfl _ _ rfl w.heap.size b1 (j * 16 + 1) _ rfl w hb1 s rfl (by omega) ?_; intro b2 w2 hb2) | (at_builtin; refine append_zeros rfl _ _ rfl w.heap.size b2 (j * 16 + 1 + s.size) (by omega) _ rfl w hb2 _ (15 - s.size) (by omega) (by omega) rfl (by omega) ?_; intro b3 w3 hb3))
      go_roundw
      case rel =>
        refine ⟨j + 1, by omega, by go_num, ?_⟩
        rw [namesBytes_take ss j hlt, ← HS.out, byteCells_append, nameBytes, byteCells_append, byteCells_append, Nat.succ_mul]
        have e1 : j * 16 + 1 + s.size + (15 - s.size) = j * 16 + 16 := by omega
        have e2 : Lib.byteCells [UInt8.ofNat s.size] = [Value.int .u8 s.size] := by
          have h := byteCells_snoc [] s.size
          simp only [List.nil_append] at h
          rw [h]
          have : ((s.size : Nat) : Int) % 256 = s.size := by omega
          rw [this]; rfl
        rw [e1] at hb3
        rw [e2, ← strCells_eq]
        simpa only [List.append_assoc] using hb3
      case measure => simp [intOf]; omega
    · have hjl : j = m := by omega
      subst hjl
      obtain ⟨hbr1, hbr2, hbr3⟩ := hbr
      obtain ⟨s, hs⟩ : ∃ s, s = ss.getD j ByteArray.empty := ⟨_, rfl⟩
      have hcell : wr.cell? ⟨vb, vo + j, none⟩ = some (.string s) := by rw [hbr2.cell hvb, hcs j hlt, hs]
      have hsz := HB.out
      rw [← hs] at hsz
      have htl : (ss.take j).length = j := by simp; omega
      have hnl : (namesBytes (ss.take j)).length = j * 16 := by rw [namesBytes_length _ (small_mem (Nat.le_of_lt hlt) hok.out), htl]
      have HN := Hid.of hnl
      clear hnl htl hs hcs hne HB
      go_wp2_with (go_at_call 37; refine (hput.out _ (namesBytes (ss.take j)) 2 _ hbr2 (by rw [HN.out]; exact hbr1) (by rw [HN.out]; omega)).mono ?_; rintro e w1 ⟨rfl, h4⟩)
      exact bodyPost_ret (results_none rfl _ _ _) rfl ⟨rfl, _, hbr2, h4⟩

theorem madeCells_bytes (n : Nat) : (madeCells (Value.int .u8 0).cells (n * 1)).toList = Lib.byteCells (List.replicate n 0) := by
  have h1 : (Value.int IntKind.u8 0).cells = #[Value.int .u8 0] := rfl
  rw [h1]
  apply List.ext_getElem
  · simp [madeCells, Lib.byteCells]
  · intro i h1 h2
    simp [madeCells, Lib.byteCells, Nat.mod_one]

theorem make_bytes {ops : Array Oper} {rest : List Oper} {o : Oper} {a : Act} {Q : Exit → Act → World → Prop} (w : World) (hgd : o.guard = none) (l c : Operand) (hop : o.op = Op.makeSlice 57 l c)
    (B : Nat) (L C : Int) (n : Nat) (hl : a.eval l = .int .i64 L) (hc : a.eval c = .int .i64 C) (hL : L = (n : Int)) (hC : C = (n : Int)) (hn : n ≤ 140737488355328) (hB : B ≤ w.heap.size)
    (h : ∀ w', w'.ownsRow B 5 1 (.slice (some ⟨w.heap.size, 0, none⟩) n n) n (Lib.byteCells (List.replicate n 0)) → w.grownBy w' none → wpList Tryd.prog ops Q rest (a.put o.dst (.slice (some ⟨w.heap.size, 0, none⟩) n n)) w') :
    wpList Tryd.prog ops Q (o :: rest) a w := by
  obtain ⟨i0, hi, hz0, hz1, hz2⟩ := info_parts (show (Tryd.prog.info? 5).map (fun i => (i.zero, i.size, i.bytes)) = some (some (.int .u8 0), 1, 1) by kernel_rfl)
  refine wpList_make_full w hgd l c 57 hop B 5 i0 (.int .u8 0) 1 Tryd.underlying57 hi hz0 hz1 .i64 .i64 L C n hl hc hL hC (by rw [hz2]; omega) (by unfold maxLen; omega) hB ?_
  intro w' h1 h2
  rw [madeCells_bytes] at h1
  exact h w' h1 h2

theorem below_of_none {w w' : World} (h : w.grownBy w' none) : Below w.heap.size w w' := ⟨h.os, h.tape, h.output, h.size, fun k hk => h.block k hk (by simp)⟩

set_option maxHeartbeats 400000 in
theorem Fill_wrong (pv : Option Addr) (n : Int) (hn : ¬ (0 ≤ n ∧ n ≤ 60000)) (w : World) (R : Int → List UInt8 → World → World → Prop) (hput : Hid (PutSpec (.pointer pv) w R)) :
    Calls Tryd.prog 21 #[.pointer pv, .int .i64 n] w fun e w' => e = .returned (.tuple #[]) ∧ Did w R 1 [] w' := by
  by_cases h0 : 0 ≤ n
  · have h1 : ¬ n ≤ 60000 := fun hc => hn ⟨h0, hc⟩
    clear hn
    go_enter Tryd.func21, Tryd.ntmps21
    go_wp2_with (go_at_call 37; refine (hput.out (.slice none 0 0) [] 1 _ (Below.refl _ _) (World.ownsRowF_nil _ _ _ _) (by simp)).mono ?_; rintro e w' ⟨rfl, h2⟩)
    go_end0
    exact ⟨rfl, _, Below.refl _ _, h2⟩
  · clear hn
    go_enter Tryd.func21, Tryd.ntmps21
    go_wp2_with (go_at_call 37; refine (hput.out (.slice none 0 0) [] 1 _ (Below.refl _ _) (World.ownsRowF_nil _ _ _ _) (by simp)).mono ?_; rintro e w' ⟨rfl, h2⟩)
    go_end0
    exact ⟨rfl, _, Below.refl _ _, h2⟩

set_option maxHeartbeats 400000 in
theorem Fill_long (pv : Option Addr) (n L : Nat) (hn : n ≤ 60000) (hL : n < L) (w : World) (R : Int → List UInt8 → World → World → Prop) (hput : Hid (PutSpec (.pointer pv) w R))
    (hlen : Hid (∀ wr, Below w.heap.size w wr → Calls Tryd.prog 23 #[.pointer pv] wr fun e w' => e = .returned (.int .i64 L) ∧ wr = w')) :
    Calls Tryd.prog 21 #[.pointer pv, .int .i64 n] w fun e w' => e = .returned (.tuple #[]) ∧ Did w R 2 [] w' := by
  go_enter Tryd.func21, Tryd.ntmps21
  go_wp2_with (first | (go_at_call 23; refine (hlen.out _ (Below.refl _ _)).mono ?_; rintro e w' ⟨rfl, rfl⟩) | (go_at_call 37; refine (hput.out (.slice none 0 0) [] 2 _ (Below.refl _ _) (World.ownsRowF_nil _ _ _ _) (by simp)).mono ?_; rintro e w' ⟨rfl, h2⟩))
  go_end0
  exact ⟨rfl, _, Below.refl _ _, h2⟩

set_option maxHeartbeats 400000 in
theorem Fill_good (pv : Option Addr) (n L : Nat) (hn : n ≤ 60000) (hL : L ≤ n) (w : World) (R : Int → List UInt8 → World → World → Prop) (hput : Hid (PutSpec (.pointer pv) w R))
    (hlen : Hid (∀ wr, Below w.heap.size w wr → Calls Tryd.prog 23 #[.pointer pv] wr fun e w' => e = .returned (.int .i64 L) ∧ wr = w')) :
    Calls Tryd.prog 21 #[.pointer pv, .int .i64 n] w fun e w' => e = .returned (.tuple #[]) ∧ Did w R 0 (List.replicate (n - L) 0) w' := by
  go_enter Tryd.func21, Tryd.ntmps21
  go_wp2_with (first | (go_at_call 23; refine (hlen.out _ (Below.refl _ _)).mono ?_; rintro e w' ⟨rfl, rfl⟩) | (at_make; refine make_bytes _ rfl _ _ rfl w.heap.size _ _ (n - L) rfl rfl (by omega) (by omega) (by omega) (Nat.le_refl _) ?_; intro w1 ho1 hg1) | (go_at_call 37; refine (hput.out _ (List.replicate (n - L) 0) 0 _ (below_of_none hg1) (by rw [List.length_replicate]; exact World.ownsRowF_of ho1) (by rw [List.length_replicate]; omega)).mono ?_; rintro e w' ⟨rfl, h2⟩))
  go_end0
  exact ⟨rfl, _, below_of_none hg1, h2⟩

end Go.Proofs.YtdlljjbooajgiaaDoor
