/-
  What methods Names and Fill of a Packer do.
-/
import Derived.Test.YtfoffoiimlgoeaaF
import Derived.Test.YtfoffoiimlgoeaaZ
namespace Go.Proofs.Ytfoffoiimlgoeaa
open Go.RowKit Go.Lib

/-- The sixteen bytes of a name. -/
def nameBytes (s : ByteArray) : List UInt8 := [UInt8.ofNat s.size] ++ s.data.toList ++ List.replicate (15 - s.size) 0

def namesBytes (ss : List ByteArray) : List UInt8 := (ss.map nameBytes).flatten

theorem nameBytes_length (s : ByteArray) (h : s.size ≤ 15) : (nameBytes s).length = 16 := by
  simp only [nameBytes, List.length_append, bytes_len, List.length_replicate, List.length_cons, List.length_nil]
  omega

theorem namesBytes_take (ss : List ByteArray) (j : Nat) (h : j < ss.length) : namesBytes (ss.take (j + 1)) = namesBytes (ss.take j) ++ nameBytes (ss.getD j ByteArray.empty) := by
  unfold namesBytes
  have e : ss.getD j ByteArray.empty = ss[j] := by simp [List.getD, h]
  rw [List.take_succ_eq_append_getElem h, List.map_append, List.flatten_append, e]
  simp

theorem namesBytes_length (ss : List ByteArray) (h : ∀ s ∈ ss, s.size ≤ 15) : (namesBytes ss).length = ss.length * 16 := by
  unfold namesBytes
  induction ss with
  | nil => rfl
  | cons s ss ih =>
    rw [List.map_cons, List.flatten_cons, List.length_append, nameBytes_length s (h s (by simp)), ih (fun t ht => h t (by simp [ht]))]
    simp; omega

theorem small_mem {ss : List ByteArray} {m : Nat} (hm : m ≤ ss.length) (h : ∀ j, j < m → (ss.getD j ByteArray.empty).size ≤ 15) : ∀ s ∈ ss.take m, s.size ≤ 15 := by
  intro s hs
  obtain ⟨j, hj, rfl⟩ := List.mem_iff_getElem.1 hs
  have hj2 : j < m := by have := hj; simp at this; omega
  have := h j hj2
  have e : ss.getD j ByteArray.empty = ss[j] := by simp [List.getD]; rw [List.getElem?_eq_getElem (by omega)]; rfl
  rw [e] at this
  simpa using this

theorem madeCells_bytes (n : Nat) : (madeCells (Value.int .u8 0).cells (n * 1)).toList = Lib.byteCells (List.replicate n 0) := by
  have h1 : (Value.int IntKind.u8 0).cells = #[Value.int .u8 0] := rfl
  rw [h1]
  apply List.ext_getElem
  · simp [madeCells, Lib.byteCells]
  · intro i h1 h2
    simp [madeCells, Lib.byteCells, Nat.mod_one]

theorem make_bytes {ops : Array Oper} {rest : List Oper} {o : Oper} {a : Act} {Q : Exit → Act → World → Prop} (w : World) (hgd : o.guard = none) (l c : Operand) (hop : o.op = Op.makeSlice 60 l c)
    (B : Nat) (L C : Int) (n : Nat) (hl : a.eval l = .int .i64 L) (hc : a.eval c = .int .i64 C) (hL : L = (n : Int)) (hC : C = (n : Int)) (hn : n ≤ 140737488355328) (hB : B ≤ w.heap.size)
    (h : ∀ w', w'.ownsRow B 5 1 (.slice (some ⟨w.heap.size, 0, none⟩) n n) n (Lib.byteCells (List.replicate n 0)) → w.grownBy w' none → wpList Try.prog ops Q rest (a.put o.dst (.slice (some ⟨w.heap.size, 0, none⟩) n n)) w') :
    wpList Try.prog ops Q (o :: rest) a w := by
  obtain ⟨i0, hi, hz0, hz1, hz2⟩ := info_parts (show (Try.prog.info? 5).map (fun i => (i.zero, i.size, i.bytes)) = some (some (.int .u8 0), 1, 1) by kernel_rfl)
  refine wpList_make_full w hgd l c 60 hop B 5 i0 (.int .u8 0) 1 Try.underlying60 hi hz0 hz1 .i64 .i64 L C n hl hc hL hC (by rw [hz2]; omega) (by unfold maxLen; omega) hB ?_
  intro w' h1 h2
  rw [madeCells_bytes] at h1
  exact h w' h1 h2

end Go.Proofs.Ytfoffoiimlgoeaa
