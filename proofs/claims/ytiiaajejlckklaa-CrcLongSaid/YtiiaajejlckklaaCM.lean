/-
  Plain facts on the check sum of chapter 2: a sum of parts, and that one changed byte changes it.
-/
import Derived.WalkKit
namespace Go.Proofs.Ytiiaajejlckklaa

theorem xor_left {a b c : Nat} (h : a ^^^ b = a ^^^ c) : b = c := by
  have := congrArg (a ^^^ ·) h
  simpa [← Nat.xor_assoc] using this

theorem xor_right {a b c : Nat} (h : a ^^^ c = b ^^^ c) : a = b := by
  rw [Nat.xor_comm a, Nat.xor_comm b] at h
  exact xor_left h

def crcPoly : Nat := 3945912366

/-- One bit. -/
def crcBit (x : Nat) : Nat := if x % 2 = 1 then x / 2 ^^^ crcPoly else x / 2

def crcBits : Nat → Nat → Nat
  | 0, x => x
  | k + 1, x => crcBits k (crcBit x)

/-- One byte. -/
def crcByte (x : Nat) (b : UInt8) : Nat := crcBits 8 (x ^^^ b.toNat)

/-- The register behind bytes. -/
def crcRun (x : Nat) (l : List UInt8) : Nat := l.foldl crcByte x

def crcOf (l : List UInt8) : Nat := crcRun 4294967295 l ^^^ 4294967295

theorem crcRun_nil (x : Nat) : crcRun x [] = x := rfl
theorem crcRun_cons (x : Nat) (b : UInt8) (l : List UInt8) : crcRun x (b :: l) = crcRun (crcByte x b) l := rfl
theorem crcRun_append (x : Nat) (l r : List UInt8) : crcRun x (l ++ r) = crcRun (crcRun x l) r := List.foldl_append

theorem crcPoly_lt : crcPoly < 2 ^ 32 := by decide
theorem crcPoly_top : crcPoly.testBit 31 = true := by decide

theorem crcBit_lt {x : Nat} (h : x < 2 ^ 32) : crcBit x < 2 ^ 32 := by
  unfold crcBit
  split
  · exact Nat.xor_lt_two_pow (by omega) crcPoly_lt
  · omega

theorem half_top {x : Nat} (h : x < 2 ^ 32) : (x / 2).testBit 31 = false :=
  Nat.testBit_lt_two_pow (by omega)

/-- A step can be told back. -/
theorem crcBit_inj {x y : Nat} (hx : x < 2 ^ 32) (hy : y < 2 ^ 32) (h : crcBit x = crcBit y) : x = y := by
  have top : ∀ z, z < 2 ^ 32 → (crcBit z).testBit 31 = decide (z % 2 = 1) := by
    intro z hz
    unfold crcBit
    split
    · rename_i h1
      rw [Nat.testBit_xor, half_top hz, crcPoly_top]
      simp [h1]
    · rename_i h1
      rw [half_top hz]
      simp [h1]
  have e := congrArg (fun z => z.testBit 31) h
  simp only [top x hx, top y hy] at e
  unfold crcBit at h
  by_cases h1 : x % 2 = 1
  · have h2 : y % 2 = 1 := by simpa [h1] using e
    rw [if_pos h1, if_pos h2] at h
    have := xor_right h
    omega
  · have h2 : ¬ y % 2 = 1 := by simpa [h1] using e
    rw [if_neg h1, if_neg h2] at h
    omega

theorem crcBits_lt (k : Nat) : ∀ {x : Nat}, x < 2 ^ 32 → crcBits k x < 2 ^ 32 := by
  induction k with
  | zero => intro x h; exact h
  | succ k ih => intro x h; exact ih (crcBit_lt h)

theorem crcBits_inj (k : Nat) : ∀ {x y : Nat}, x < 2 ^ 32 → y < 2 ^ 32 → crcBits k x = crcBits k y → x = y := by
  induction k with
  | zero => intro x y _ _ h; exact h
  | succ k ih => intro x y hx hy h; exact crcBit_inj hx hy (ih (crcBit_lt hx) (crcBit_lt hy) h)

theorem byte_lt (b : UInt8) : b.toNat < 2 ^ 32 := Nat.lt_trans b.toNat_lt (by decide)

theorem crcByte_lt {x : Nat} (h : x < 2 ^ 32) (b : UInt8) : crcByte x b < 2 ^ 32 :=
  crcBits_lt 8 (Nat.xor_lt_two_pow h (byte_lt b))

theorem crcRun_lt {x : Nat} (h : x < 2 ^ 32) (l : List UInt8) : crcRun x l < 2 ^ 32 := by
  induction l generalizing x with
  | nil => exact h
  | cons b l ih => exact ih (crcByte_lt h b)

theorem crcByte_inj {x y : Nat} (hx : x < 2 ^ 32) (hy : y < 2 ^ 32) (b : UInt8) (h : crcByte x b = crcByte y b) : x = y := by
  have := crcBits_inj 8 (Nat.xor_lt_two_pow hx (byte_lt b)) (Nat.xor_lt_two_pow hy (byte_lt b)) h
  exact xor_right this

theorem crcByte_byte {x : Nat} (hx : x < 2 ^ 32) {b c : UInt8} (h : crcByte x b = crcByte x c) : b = c := by
  have := crcBits_inj 8 (Nat.xor_lt_two_pow hx (byte_lt b)) (Nat.xor_lt_two_pow hx (byte_lt c)) h
  exact UInt8.toNat_inj.1 (xor_left this)

theorem crcRun_inj {x y : Nat} (hx : x < 2 ^ 32) (hy : y < 2 ^ 32) (l : List UInt8) (h : crcRun x l = crcRun y l) : x = y := by
  induction l generalizing x y with
  | nil => exact h
  | cons b l ih => exact crcByte_inj hx hy b (ih (crcByte_lt hx b) (crcByte_lt hy b) h)

/-- One changed byte changes the sum. -/
theorem crcOf_changed (l r : List UInt8) (b c : UInt8) (h : crcOf (l ++ b :: r) = crcOf (l ++ c :: r)) : b = c := by
  unfold crcOf at h
  have h1 := xor_right h
  rw [crcRun_append, crcRun_append, crcRun_cons, crcRun_cons] at h1
  have hl := crcRun_lt (x := 4294967295) (by decide) l
  exact crcByte_byte hl (crcRun_inj (crcByte_lt hl b) (crcByte_lt hl c) r h1)

theorem crcOf_lt (l : List UInt8) : crcOf l < 2 ^ 32 :=
  Nat.xor_lt_two_pow (crcRun_lt (by decide) l) (by decide)

/-- The four bytes of a sum, the lowest first. -/
def four (x : Nat) : List UInt8 := [UInt8.ofNat x, UInt8.ofNat (x / 256), UInt8.ofNat (x / 65536), UInt8.ofNat (x / 16777216)]

theorem four_inj {x y : Nat} (hx : x < 4294967296) (hy : y < 4294967296) (h : four x = four y) : x = y := by
  unfold four at h
  simp only [List.cons.injEq, and_true] at h
  obtain ⟨h0, h1, h2, h3⟩ := h
  have key : ∀ a b : Nat, UInt8.ofNat a = UInt8.ofNat b → a % 256 = b % 256 := fun a b e => by
    have := congrArg UInt8.toNat e
    simpa using this
  have k0 := key _ _ h0
  have k1 := key _ _ h1
  have k2 := key _ _ h2
  have k3 := key _ _ h3
  omega

end Go.Proofs.Ytiiaajejlckklaa
