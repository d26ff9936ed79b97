/-
  The methods of a Packer, said of the bytes that it holds; and what function Digits answers.
-/
import Derived.Test.YtdlljjbooajgiaaDoorH
import Derived.Test.YtdlljjbooajgiaaDoorK
namespace Go.Proofs.YtdlljjbooajgiaaDoor
open Go.RowKit Go.Lib

/-- What a method of a Packer without an error leaves. -/
def Wrote (B p : Nat) (l : List UInt8) (bad : Int) (w w' : World) : Prop := Pk B p l bad w' ∧ w.grownBy w' (some p)

theorem Small_pk {B p : Nat} {l : List UInt8} {w : World} (h : Pk B p l 0 w) (h1 : l.length ≤ 140737488355328) (k : Nat) (hk : 1 ≤ k) (hk7 : k ≤ 7) (v : Value) (xs : List Int)
    (hv : NumRow .i64 w v xs) (hok : ∀ j, j < xs.length → 0 ≤ xs.getD j 0 ∧ xs.getD j 0 < 256 ^ k) (h2 : xs.length ≤ 1000000000) :
    Calls Tryd.prog 17 #[.pointer (some ⟨p, 0, none⟩), .int .i64 k, v] w fun e w' => e = .returned (.tuple #[]) ∧ Wrote B p (l ++ smallBytes k xs) 0 w w' :=
  (Small_good _ k hk hk7 v xs w _ (Hid.of (putSpec_Pk B p l w h h1)) hv (Hid.of hok) h2).mono fun _ _ ⟨he, hd⟩ => ⟨he, hd.pk⟩

theorem Small_pk_bad {B p : Nat} {l : List UInt8} {w : World} (h : Pk B p l 0 w) (h1 : l.length ≤ 140737488355328) (k : Nat) (hk : 1 ≤ k) (hk7 : k ≤ 7) (v : Value) (xs : List Int) (m : Nat) (hm : m < xs.length)
    (hv : NumRow .i64 w v xs) (hok : ∀ j, j < m → 0 ≤ xs.getD j 0 ∧ xs.getD j 0 < 256 ^ k) (hbad : ¬ (0 ≤ xs.getD m 0 ∧ xs.getD m 0 < 256 ^ k)) (h2 : xs.length ≤ 1000000000) :
    Calls Tryd.prog 17 #[.pointer (some ⟨p, 0, none⟩), .int .i64 k, v] w fun e w' => e = .returned (.tuple #[]) ∧ Wrote B p (l ++ smallBytes k (xs.take m)) 1 w w' :=
  (Small_bad _ k hk hk7 v xs m hm w _ (Hid.of (putSpec_Pk B p l w h h1)) hv (Hid.of hok) (Hid.of hbad) h2).mono fun _ _ ⟨he, hd⟩ => ⟨he, hd.pk⟩

theorem Small_pk_wrong {B p : Nat} {l : List UInt8} {w : World} (h : Pk B p l 0 w) (h1 : l.length ≤ 140737488355328) (n : Int) (hn : ¬ (1 ≤ n ∧ n ≤ 7)) (v : Value) :
    Calls Tryd.prog 17 #[.pointer (some ⟨p, 0, none⟩), .int .i64 n, v] w fun e w' => e = .returned (.tuple #[]) ∧ Wrote B p (l ++ []) 1 w w' :=
  (Small_wrong _ n hn v w _ (Hid.of (putSpec_Pk B p l w h h1))).mono fun _ _ ⟨he, hd⟩ => ⟨he, hd.pk⟩

theorem Ints_pk {B p : Nat} {l : List UInt8} {w : World} (h : Pk B p l 0 w) (h1 : l.length ≤ 140737488355328) (v : Value) (xs : List Int) (hv : NumRow .i64 w v xs) (h2 : xs.length ≤ 1000000000) :
    Calls Tryd.prog 16 #[.pointer (some ⟨p, 0, none⟩), v] w fun e w' => e = .returned (.tuple #[]) ∧ Wrote B p (l ++ smallBytes 8 (xs.map unsigned)) 0 w w' :=
  (Ints_any _ v xs w _ (Hid.of (putSpec_Pk B p l w h h1)) hv h2).mono fun _ _ ⟨he, hd⟩ => ⟨he, hd.pk⟩

theorem Words_pk {B p : Nat} {l : List UInt8} {w : World} (h : Pk B p l 0 w) (h1 : l.length ≤ 140737488355328) (v : Value) (xs : List Int) (hv : NumRow .u64 w v xs) (hnn : ∀ j, j < xs.length → 0 ≤ xs.getD j 0) (h2 : xs.length ≤ 1000000000) :
    Calls Tryd.prog 18 #[.pointer (some ⟨p, 0, none⟩), v] w fun e w' => e = .returned (.tuple #[]) ∧ Wrote B p (l ++ smallBytes 8 xs) 0 w w' :=
  (Words_any _ v xs w _ (Hid.of (putSpec_Pk B p l w h h1)) hv (Hid.of hnn) h2).mono fun _ _ ⟨he, hd⟩ => ⟨he, hd.pk⟩

theorem Names_pk {B p : Nat} {l : List UInt8} {w : World} (h : Pk B p l 0 w) (h1 : l.length ≤ 140737488355328) (v : Value) (ss : List ByteArray) (hv : StrRow w v ss) (hok : ∀ j, j < ss.length → (ss.getD j ByteArray.empty).size ≤ 15) (h2 : ss.length ≤ 1000000000) :
    Calls Tryd.prog 19 #[.pointer (some ⟨p, 0, none⟩), v] w fun e w' => e = .returned (.tuple #[]) ∧ Wrote B p (l ++ namesBytes ss) 0 w w' :=
  (Names_good _ v ss w _ (Hid.of (putSpec_Pk B p l w h h1)) hv (Hid.of hok) h2).mono fun _ _ ⟨he, hd⟩ => ⟨he, hd.pk⟩

theorem Names_pk_bad {B p : Nat} {l : List UInt8} {w : World} (h : Pk B p l 0 w) (h1 : l.length ≤ 140737488355328) (v : Value) (ss : List ByteArray) (m : Nat) (hm : m < ss.length) (hv : StrRow w v ss) (hok : ∀ j, j < m → (ss.getD j ByteArray.empty).size ≤ 15)
    (hbad : 15 < (ss.getD m ByteArray.empty).size) (h2 : ss.length ≤ 1000000000) :
    Calls Tryd.prog 19 #[.pointer (some ⟨p, 0, none⟩), v] w fun e w' => e = .returned (.tuple #[]) ∧ Wrote B p (l ++ namesBytes (ss.take m)) 2 w w' :=
  (Names_bad _ v ss m hm w _ (Hid.of (putSpec_Pk B p l w h h1)) hv (Hid.of hok) hbad h2).mono fun _ _ ⟨he, hd⟩ => ⟨he, hd.pk⟩

theorem Text_pk {B p : Nat} {l : List UInt8} {w : World} (h : Pk B p l 0 w) (h1 : l.length ≤ 140737488355328) (s : ByteArray) (hl : s.size ≤ 60000) :
    Calls Tryd.prog 20 #[.pointer (some ⟨p, 0, none⟩), .string s] w fun e w' => e = .returned (.tuple #[]) ∧ Wrote B p (l ++ (le 2 s.size ++ s.data.toList)) 0 w w' :=
  (Text_any _ s hl w _ (Hid.of (putSpec_Pk B p l w h h1))).mono fun _ _ ⟨he, hd⟩ => ⟨he, hd.pk⟩

theorem lenSpec {B p : Nat} {l : List UInt8} {bad : Int} {w : World} (h : Pk B p l bad w) : Hid (∀ wr, Below w.heap.size w wr → Calls Tryd.prog 23 #[.pointer (some ⟨p, 0, none⟩)] wr fun e w' => e = .returned (.int .i64 l.length) ∧ wr = w') :=
  fun wr hb => Len_Pk B p l bad wr (h.kept (grown_of_below hb))

theorem Fill_pk {B p : Nat} {l : List UInt8} {w : World} (h : Pk B p l 0 w) (h1 : l.length ≤ 140737488355328) (n : Nat) (hn : n ≤ 60000) (hL : l.length ≤ n) :
    Calls Tryd.prog 21 #[.pointer (some ⟨p, 0, none⟩), .int .i64 n] w fun e w' => e = .returned (.tuple #[]) ∧ Wrote B p (l ++ List.replicate (n - l.length) 0) 0 w w' :=
  (Fill_good _ n l.length hn hL w _ (Hid.of (putSpec_Pk B p l w h h1)) (lenSpec h)).mono fun _ _ ⟨he, hd⟩ => ⟨he, hd.pk⟩

theorem Fill_pk_long {B p : Nat} {l : List UInt8} {w : World} (h : Pk B p l 0 w) (h1 : l.length ≤ 140737488355328) (n : Nat) (hn : n ≤ 60000) (hL : n < l.length) :
    Calls Tryd.prog 21 #[.pointer (some ⟨p, 0, none⟩), .int .i64 n] w fun e w' => e = .returned (.tuple #[]) ∧ Wrote B p (l ++ []) 2 w w' :=
  (Fill_long _ n l.length hn hL w _ (Hid.of (putSpec_Pk B p l w h h1)) (lenSpec h)).mono fun _ _ ⟨he, hd⟩ => ⟨he, hd.pk⟩

/-- A new Packer. -/
theorem Pk.new (w : World) : Pk w.heap.size w.heap.size [] 0 (w.alloc (.cells #[.int .i64 0, .int .i64 0, .pointer none] 49)) :=
  ⟨[], none, Go.heap_alloc_new _ _, rfl, rfl, Nat.le_refl _⟩

theorem grown_of_grow (w : World) (k : Nat) (os : Array Obj) : w.grownBy (Go.Sort.grow (w.drewN k) os) none := by
  refine ⟨rfl, rfl, rfl, ?_, fun i hi _ => ?_⟩
  · show w.heap.size ≤ (w.heap ++ os).size
    simp
  · show (w.heap ++ os)[i]? = w.heap[i]?
    rw [Array.getElem?_append_left hi]

set_option maxHeartbeats 400000 in
theorem Digits_any (n : Int) (h0 : -9223372036854775808 ≤ n) (h1 : n ≤ 9223372036854775807) (w : World) (htab : Hid (Lib.TabIs Tryd.prog w "internal/strconv.uint64pow10" .u64 Lib.pow10Tab)) :
    Calls Tryd.prog 14 #[.int .i64 n] w fun e w' => e = .returned (.string ⟨(Lib.itoa n).toArray⟩) ∧ w.grownBy w' none := by
  have H0 := Hid.of h0
  have H1 := Hid.of h1
  clear h0 h1
  go_enter Tryd.func14, Tryd.ntmps14
  go_wp2_with (go_at_call 35; refine (Tryd.strconv_Itoa n H0.out H1.out _ htab.out).mono ?_; rintro e w2 ⟨rfl, k, os, h2⟩)
  go_ret
  subst h2
  exact ⟨rfl, grown_of_grow _ _ _⟩

end Go.Proofs.YtdlljjbooajgiaaDoor
