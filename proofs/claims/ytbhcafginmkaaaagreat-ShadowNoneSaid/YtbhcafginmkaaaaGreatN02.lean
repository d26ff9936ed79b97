/-
  A bundle of texts: TCP.
-/
import Derived.Sort.LotA
namespace Go.Proofs.YtbhcafginmkaaaaGreat
open Go.Sort

theorem not_back {α : Type} {lt : α → α → Bool} (hO : SWO lt) {x y : α} (h : lt x y = true) : lt y x = false := by
  cases hh : lt y x
  · rfl
  · have := hO.trans x y x h hh
    rw [hO.irrefl] at this
    cases this

/-- y is no less than x, z no less than y. -/
theorem le_le {α : Type} {lt : α → α → Bool} (hO : SWO lt) {x y z : α} (h1 : lt y x = false) (h2 : lt z y = false) : lt z x = false := hO.ntrans z y x h2 h1

section
variable {α : Type} [Inhabited α]

/-- d' is d with the n places from a on and those from b on swapped. -/
def SwR (a b n : Nat) (d d' : Array α) : Prop := d'.size = d.size ∧ ∀ t, d'[t]! = if a ≤ t ∧ t < a + n then d[t - a + b]! else if b ≤ t ∧ t < b + n then d[t - b + a]! else d[t]!

/-- d' is d with what lies from m to b laid ahead of what lies from a to m. -/
def RotR (a m b : Nat) (d d' : Array α) : Prop := d'.size = d.size ∧ ∀ t, d'[t]! = if a ≤ t ∧ t < a + (b - m) then d[t + (m - a)]! else if a + (b - m) ≤ t ∧ t < b then d[t - (b - m)]! else d[t]!

theorem at_eq (d : Array α) {x y : Nat} (h : x = y) : d[x]! = d[y]! := by rw [h]

theorem SwR.zero (a b : Nat) (d : Array α) : SwR a b 0 d d := ⟨rfl, fun t => by rw [if_neg (by omega), if_neg (by omega)]⟩

theorem SwR.step {a b i : Nat} {d dk : Array α} (h : SwR a b i d dk) (hab : a + i < b) (hb : b + i < d.size) : SwR a b (i + 1) d (swp dk (a + i) (b + i)) := by
  have hs := h.1
  refine ⟨by rw [size_swp]; exact hs, fun t => ?_⟩
  rw [swp_get dk (by omega) (by omega) t, h.2 (a + i), h.2 (b + i), h.2 t]
  repeat' split
  all_goals first | omega | exact at_eq _ (by omega)

theorem RotR.refl_left (m b : Nat) (d : Array α) : RotR m m b d d := ⟨rfl, fun t => by
  split
  · exact at_eq _ (by omega)
  · split
    · omega
    · rfl⟩

theorem RotR.refl_right (a m : Nat) (d : Array α) : RotR a m m d d := ⟨rfl, fun t => by
  split
  · omega
  · split
    · exact at_eq _ (by omega)
    · rfl⟩

/-- The greater part stands left: the right one has come to its place. -/
theorem RotR.left {p i r : Nat} {d d1 d2 : Array α} (h1 : SwR p (p + (r + i)) i d d1) (h2 : RotR (p + i) (p + (r + i)) (p + (r + i) + i) d1 d2) : RotR p (p + (r + i)) (p + (r + i) + i) d d2 := by
  refine ⟨h2.1.trans h1.1, fun t => ?_⟩
  rw [h2.2 t, h1.2 t, h1.2 (t + (p + (r + i) - (p + i))), h1.2 (t - (p + (r + i) + i - (p + (r + i))))]
  repeat' split
  all_goals first | omega | exact at_eq _ (by omega)

/-- The greater part stands right. -/
theorem RotR.right {p i r : Nat} {d d1 d2 : Array α} (h1 : SwR p (p + i + r) i d d1) (h2 : RotR p (p + i) (p + i + r) d1 d2) : RotR p (p + i) (p + i + (r + i)) d d2 := by
  refine ⟨h2.1.trans h1.1, fun t => ?_⟩
  rw [h2.2 t, h1.2 t, h1.2 (t + (p + i - p)), h1.2 (t - (p + i + r - (p + i)))]
  repeat' split
  all_goals first | omega | exact at_eq _ (by omega)

theorem RotR.even {p i : Nat} {d d1 : Array α} (h1 : SwR p (p + i) i d d1) : RotR p (p + i) (p + i + i) d d1 := by
  refine ⟨h1.1, fun t => ?_⟩
  rw [h1.2 t]
  repeat' split
  all_goals first | omega | exact at_eq _ (by omega)

/-- One element goes right by one. -/
theorem RotR.up {a k : Nat} {d dk : Array α} (h : RotR a (a + 1) (k + 1) d dk) (hk : a ≤ k) (hb : k + 1 < d.size) : RotR a (a + 1) (k + 2) d (swp dk k (k + 1)) := by
  have hs := h.1
  refine ⟨by rw [size_swp]; exact hs, fun t => ?_⟩
  rw [swp_get dk (by omega) (by omega) t, h.2 k, h.2 (k + 1), h.2 t]
  repeat' split
  all_goals first | omega | exact at_eq _ (by omega)

/-- One element goes left by one. -/
theorem RotR.down {k m : Nat} {d dk : Array α} (h : RotR (k + 1) m (m + 1) d dk) (hk : k < m) (hb : m < d.size) : RotR k m (m + 1) d (swp dk (k + 1) k) := by
  have hs := h.1
  refine ⟨by rw [size_swp]; exact hs, fun t => ?_⟩
  rw [swp_get dk (by omega) (by omega) t, h.2 k, h.2 (k + 1), h.2 t]
  repeat' split
  all_goals first | omega | exact at_eq _ (by omega)

section
variable {lt : α → α → Bool}

theorem in_le (hO : SWO lt) {a b : Nat} {d : Array α} (hs : SortedIn lt a b d) {i j : Nat} (h1 : a ≤ i) (h2 : i ≤ j) (h3 : j < b) : lt d[j]! d[i]! = false := by
  rcases Nat.lt_or_eq_of_le h2 with h | rfl
  · exact hs i j h1 h h3
  · exact hO.irrefl _

theorem in_sub {a b a' b' : Nat} {d : Array α} (h : SortedIn lt a b d) (h1 : a ≤ a') (h2 : b' ≤ b) : SortedIn lt a' b' d := fun i j hi hj hb => h i j (by omega) hj (by omega)

theorem in_same {a b : Nat} {d d' : Array α} (h : SortedIn lt a b d) (he : ∀ t, a ≤ t → t < b → d'[t]! = d[t]!) : SortedIn lt a b d' := fun i j hi hj hb => by
  rw [he i hi (by omega), he j (by omega) hb]
  exact h i j hi hj hb

/-- Two sorted parts, all of the right one no less than all of the left one. -/
theorem in_join {a m b : Nat} {d : Array α} (h1 : SortedIn lt a m d) (h2 : SortedIn lt m b d) (h : ∀ i j, a ≤ i → i < m → m ≤ j → j < b → lt d[j]! d[i]! = false) : SortedIn lt a b d := fun i j hi hj hb => by
  by_cases c1 : j < m
  · exact h1 i j hi hj c1
  · by_cases c2 : m ≤ i
    · exact h2 i j c2 hj hb
    · exact h i j hi (by omega) (by omega) hb

/-- One element stands left of a sorted part, and has gone to its place. -/
theorem one_up (hO : SWO lt) {a i b : Nat} {d d' : Array α} (h2 : SortedIn lt (a + 1) b d) (hi1 : a + 1 ≤ i) (hi2 : i ≤ b) (e1 : i = a + 1 ∨ lt d[i - 1]! d[a]! = true) (e2 : i = b ∨ lt d[i]! d[a]! = false) (h : RotR a (a + 1) i d d') : SortedIn lt a b d' := by
  intro x y hx hxy hy
  rw [h.2 x, h.2 y]
  have s1 : ∀ u v, a + 1 ≤ u → u < v → v < b → lt d[v]! d[u]! = false := h2
  repeat' split
  all_goals first
    | omega
    | exact s1 _ _ (by omega) (by omega) (by omega)
    | (-- a greater index of the part against the element
       rcases e1 with e1 | e1
       · omega
       · rw [at_eq d (show y - (i - (a + 1)) = a by omega)]
         exact le_le hO (in_le hO h2 (show a + 1 ≤ x + (a + 1 - a) by omega) (show x + (a + 1 - a) ≤ i - 1 by omega) (by omega)) (not_back hO e1))
    | (rcases e2 with e2 | e2
       · omega
       · rw [at_eq d (show x - (i - (a + 1)) = a by omega)]
         exact le_le hO e2 (in_le hO h2 hi1 (show i ≤ y by omega) hy))

/-- One element stands right of a sorted part, and has gone to its place. -/
theorem one_down (hO : SWO lt) {a i m : Nat} {d d' : Array α} (h1 : SortedIn lt a m d) (hi1 : a ≤ i) (hi2 : i ≤ m) (e1 : i = a ∨ lt d[m]! d[i - 1]! = false) (e2 : i = m ∨ lt d[m]! d[i]! = true) (h : RotR i m (m + 1) d d') : SortedIn lt a (m + 1) d' := by
  intro x y hx hxy hy
  rw [h.2 x, h.2 y]
  have s1 : ∀ u v, a ≤ u → u < v → v < m → lt d[v]! d[u]! = false := h1
  repeat' split
  all_goals first
    | omega
    | exact s1 _ _ (by omega) (by omega) (by omega)
    | (rcases e2 with e2 | e2
       · omega
       · rw [at_eq d (show x + (m - i) = m by omega)]
         exact le_le hO (not_back hO e2) (in_le hO h1 hi1 (show i ≤ y - (m + 1 - m) by omega) (by omega)))
    | (rcases e1 with e1 | e1
       · omega
       · rw [at_eq d (show y + (m - i) = m by omega)]
         exact le_le hO (in_le hO h1 hx (show x ≤ i - 1 by omega) (by omega)) e1)

/-- Where the cut of two sorted parts stands. -/
structure CutAt (lt : α → α → Bool) (a m b mid s e : Nat) (d : Array α) : Prop where
  sum : s + e = mid + m
  as : a ≤ s
  sm : s ≤ m
  smid : s ≤ mid
  me : m ≤ e
  mide : mid ≤ e
  eb : e ≤ b
  e1 : s = a ∨ e = b ∨ lt d[e]! d[s - 1]! = false
  e2 : s = m ∨ s = mid ∨ lt d[e - 1]! d[s]! = true

theorem CutAt.parts (hO : SWO lt) {a m b mid s e : Nat} {d d1 : Array α} (c : CutAt lt a m b mid s e d) (h1 : SortedIn lt a m d) (h2 : SortedIn lt m b d) (h : RotR s m e d d1) :
    SortedIn lt a s d1 ∧ SortedIn lt s mid d1 ∧ SortedIn lt mid e d1 ∧ SortedIn lt e b d1 ∧ ∀ i j, a ≤ i → i < mid → mid ≤ j → j < b → lt d1[j]! d1[i]! = false := by
  have c1 := c.sum
  have c2 := c.as
  have c3 := c.sm
  have c4 := c.smid
  have c5 := c.me
  have c6 := c.mide
  have c7 := c.eb
  have s1 : ∀ u v, a ≤ u → u < v → v < m → lt d[v]! d[u]! = false := h1
  have s2 : ∀ u v, m ≤ u → u < v → v < b → lt d[v]! d[u]! = false := h2
  refine ⟨fun x y hx hxy hy => ?_, fun x y hx hxy hy => ?_, fun x y hx hxy hy => ?_, fun x y hx hxy hy => ?_, fun x y hx hxy hy hyb => ?_⟩
  · rw [h.2 x, h.2 y, if_neg (by omega), if_neg (by omega), if_neg (by omega), if_neg (by omega)]
    exact s1 x y hx hxy (by omega)
  · rw [h.2 x, h.2 y, if_pos (by omega), if_pos (by omega)]
    exact s2 _ _ (by omega) (by omega) (by omega)
  · rw [h.2 x, h.2 y, if_neg (by omega), if_pos (by omega), if_neg (by omega), if_pos (by omega)]
    exact s1 _ _ (by omega) (by omega) (by omega)
  · rw [h.2 x, h.2 y, if_neg (by omega), if_neg (by omega), if_neg (by omega), if_neg (by omega)]
    exact s2 x y (by omega) hxy hy
  · rw [h.2 x, h.2 y]
    by_cases k1 : x < s <;> by_cases k2 : y < e
    · rw [if_neg (by omega), if_pos (by omega), if_neg (by omega), if_neg (by omega)]
      exact s1 _ _ (by omega) (by omega) (by omega)
    · rw [if_neg (by omega), if_neg (by omega), if_neg (by omega), if_neg (by omega)]
      rcases c.e1 with k | k | k
      · omega
      · omega
      · exact le_le hO (le_le hO (in_le hO h1 hx (show x ≤ s - 1 by omega) (by omega)) k) (in_le hO h2 c5 (show e ≤ y by omega) hyb)
    · rw [if_neg (by omega), if_pos (by omega), if_pos (by omega)]
      rcases c.e2 with k | k | k
      · omega
      · omega
      · exact le_le hO (le_le hO (in_le hO h2 (show m ≤ x + (m - s) by omega) (show x + (m - s) ≤ e - 1 by omega) (by omega)) (not_back hO k)) (in_le hO h1 c2 (show s ≤ y - (e - m) by omega) (by omega))
    · rw [if_neg (by omega), if_neg (by omega), if_pos (by omega)]
      exact s2 _ _ (by omega) (by omega) (by omega)

theorem in_empty {a b : Nat} (d : Array α) (h : b ≤ a) : SortedIn lt a b d := fun i j hi hj hb => by omega

/-- Each half sorted in its turn. -/
theorem halves {a mid b : Nat} {d1 d2 d3 : Array α} (hb : b ≤ d1.size) (ham : a ≤ mid) (hmb : mid ≤ b) (hp2 : PermIn a mid d1 d2) (hp3 : PermIn mid b d2 d3) (h2 : SortedIn lt a mid d2) (h3 : SortedIn lt mid b d3)
    (h : ∀ i j, a ≤ i → i < mid → mid ≤ j → j < b → lt d1[j]! d1[i]! = false) : SortedIn lt a b d3 ∧ PermIn a b d1 d3 := by
  have z2 := hp2.1
  constructor
  · refine in_join (in_same h2 (fun t _ ht => hp3.2.1 t (.inl ht))) h3 (fun i j hi him hmj hjb => ?_)
    rw [hp3.2.1 i (.inl him)]
    -- what stands left came of the left half, what stands right of the right one
    have k1 : ∀ j, mid ≤ j → j < b → ∀ i, a ≤ i → i < mid → lt d1[j]! d2[i]! = false := fun j hj hjb => permIn_all d1 d2 a mid (fun x => lt d1[j]! x = false) (by omega) hp2 (fun i hi hm => h i j hi hm hj hjb)
    have k2 : ∀ j, mid ≤ j → j < b → lt d2[j]! d2[i]! = false := fun j hj hjb => by
      rw [hp2.2.1 j (.inr hj)]
      exact k1 j hj hjb i hi him
    exact permIn_all d2 d3 mid b (fun x => lt x d2[i]! = false) (by omega) hp3 k2 j hmj hjb
  · exact permIn_trans _ _ _ _ _ (permIn_mono _ _ _ _ _ _ (Nat.le_refl _) hmb hb hp2) (permIn_mono _ _ _ _ _ _ ham (Nat.le_refl _) (by omega) hp3)

/-- Parts of so many, one behind the other, each sorted. -/
def Runs (lt : α → α → Bool) (bs n : Nat) (d : Array α) : Prop := ∀ q, SortedIn lt (q * bs) (min (q * bs + bs) n) d

theorem Runs.all {bs n : Nat} {d : Array α} (h : Runs lt bs n d) (hb : n ≤ bs) : SortedIn lt 0 n d := in_sub (h 0) (by omega) (by omega)

/-- The first A pairs of parts are merged, the others are as they were. -/
structure Half (lt : α → α → Bool) (bs n A : Nat) (d : Array α) : Prop where
  done : ∀ q, q < A → SortedIn lt (q * (2 * bs)) (q * (2 * bs) + 2 * bs) d
  left : ∀ q, 2 * A ≤ q → SortedIn lt (q * bs) (min (q * bs + bs) n) d

theorem Runs.half {bs n : Nat} {d : Array α} (h : Runs lt bs n d) : Half lt bs n 0 d := ⟨fun q hq => by omega, fun q _ => h q⟩

theorem two_mul_mul (A bs : Nat) : 2 * A * bs = A * (2 * bs) := by rw [Nat.mul_comm 2 A, Nat.mul_assoc]
theorem next_mul (A bs : Nat) : (2 * A + 1) * bs = A * (2 * bs) + bs := by rw [Nat.add_mul, Nat.one_mul, two_mul_mul]

theorem Half.first {bs n A : Nat} {d : Array α} (h : Half lt bs n A d) (hn : A * (2 * bs) + bs ≤ n) : SortedIn lt (A * (2 * bs)) (A * (2 * bs) + bs) d := by
  have := h.left (2 * A) (Nat.le_refl _)
  rw [two_mul_mul] at this
  exact in_sub this (Nat.le_refl _) (by omega)
theorem Half.second {bs n A : Nat} {d : Array α} (h : Half lt bs n A d) : SortedIn lt (A * (2 * bs) + bs) (min (A * (2 * bs) + bs + bs) n) d := by
  have := h.left (2 * A + 1) (by omega)
  rw [next_mul] at this
  exact this

/-- One pair more. -/
theorem Half.next {bs n A : Nat} {d d' : Array α} (h : Half lt bs n A d) (hp : PermIn (A * (2 * bs)) (A * (2 * bs) + 2 * bs) d d') (hs : SortedIn lt (A * (2 * bs)) (A * (2 * bs) + 2 * bs) d') : Half lt bs n (A + 1) d' := by
  refine ⟨fun q hq => ?_, fun q hq => ?_⟩
  · rcases Nat.lt_or_eq_of_le (Nat.le_of_lt_succ hq) with c | rfl
    · have hk : q * (2 * bs) + 2 * bs ≤ A * (2 * bs) := by
        have := Nat.mul_le_mul_right (2 * bs) (show q + 1 ≤ A from c)
        rw [Nat.add_mul, Nat.one_mul] at this
        exact this
      exact in_same (h.done q c) (fun t _ ht => hp.2.1 t (.inl (by omega)))
    · exact hs
  · have hk : A * (2 * bs) + 2 * bs ≤ q * bs := by
      have := Nat.mul_le_mul_right bs hq
      rw [two_mul_mul, Nat.add_mul, Nat.one_mul] at this
      exact this
    exact in_same (h.left q (by omega)) (fun t ht _ => hp.2.1 t (.inr (by omega)))

/-- All pairs are merged, and what was left over. -/
theorem Half.runs {bs n A : Nat} {d d' : Array α} (h : Half lt bs n A d) (hn : n < A * (2 * bs) + 2 * bs) (hA : A * (2 * bs) ≤ n) (hp : PermIn (A * (2 * bs)) n d d') (hs : SortedIn lt (A * (2 * bs)) n d') : Runs lt (2 * bs) n d' := by
  intro q
  rcases Nat.lt_trichotomy q A with c | rfl | c
  · have hk : q * (2 * bs) + 2 * bs ≤ A * (2 * bs) := by
      have := Nat.mul_le_mul_right (2 * bs) (show q + 1 ≤ A from c)
      rw [Nat.add_mul, Nat.one_mul] at this
      exact this
    exact in_sub (in_same (h.done q c) (fun t _ ht => hp.2.1 t (.inl (by omega)))) (Nat.le_refl _) (by omega)
  · exact in_sub hs (Nat.le_refl _) (by omega)
  · have hk : A * (2 * bs) + 2 * bs ≤ q * (2 * bs) := by
      have := Nat.mul_le_mul_right (2 * bs) (show A + 1 ≤ q from c)
      rw [Nat.add_mul, Nat.one_mul] at this
      exact this
    exact in_empty _ (by omega)
end
end

end Go.Proofs.YtbhcafginmkaaaaGreat
