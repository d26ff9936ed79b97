/-
  What statement AggMerges answers: true, for every input.
-/
import Derived.Test.YtfoffoiimlgoeaaAGE
import Derived.Deep.DeepCutAuto
import Derived.Outline
import Derived.WideShapes
import Derived.Test.YtfoffoiimlgoeaaBO
import Derived.Test.YtfoffoiimlgoeaaAGD
namespace Go.Proofs.Ytfoffoiimlgoeaa
open Go.RowKit Go.Lib

theorem zero_c : agZero.c = 0 := rfl
theorem zero_hi : agZero.hi = 0 := rfl
theorem zero_lo : agZero.lo = 0 := rfl
theorem zero_mn : agZero.mn = 0 := rfl
theorem zero_mx : agZero.mx = 0 := rfl

theorem merges_light (a b c : Ag) (v : Value) (xs : List Int) (cut : Int) (h : 60 < xs.length ∨ cut < 0 ∨ (xs.length : Int) < cut) (w : World) (hv : NumRow .i64 w v xs) :
    Calls Try.prog 4 #[agv a, agv b, agv c, v, .int .i64 cut] w fun e w' => e = .returned (.bool true) ∧ Below w.heap.size w w' := by
  obtain ⟨sa, cp, rfl, _⟩ := hv
  have key : ∀ hs : 60 < xs.length ∨ (¬ 60 < xs.length ∧ cut < 0) ∨ (¬ 60 < xs.length ∧ ¬ cut < 0 ∧ (xs.length : Int) < cut), Calls Try.prog 4 #[agv a, agv b, agv c, .slice sa xs.length cp, .int .i64 cut] w fun e w' => e = .returned (.bool true) ∧ Below w.heap.size w w' := by
    clear h
    have B0 := Hid.of ((((Below.refl w.heap.size w).alloc (Nat.le_refl _) (.cells (agCells a) 27)).alloc (by simp) (.cells (agCells b) 27)).alloc (by simp; omega) (.cells (agCells c) 27))
    intro hs
    rcases hs with h1 | ⟨h1, h2⟩ | ⟨h1, h2, h3⟩
    all_goals
      go_enter Try.func4, Try.ntmps4
      go_wp2_with fail
      refine (aggAlive_any _).mono ?_
      rintro e w1 ⟨rfl, b1⟩
      have B1 := Hid.of (B0.out.trans (b1.mono B0.out.size))
      clear b1
      go_wp2
      go_ret
      exact ⟨rfl, B1.out⟩
  exact key (by omega)

/-- A slice of aggregates, of ints. -/
def Fact.row (l : List Ag) : Fact := ⟨fun w v => AgRow w v l, fun hb h => h.kept hb⟩
def Fact.num (l : List Int) : Fact := ⟨fun w v => NumRow .i64 w v l, fun hb h => h.kept hb⟩

theorem NumRow.slice {k : IntKind} {w : World} {v : Value} {xs : List Int} (h : NumRow k w v xs) : ∃ a n c, v = .slice a n c := by
  obtain ⟨a, c, h, _⟩ := h
  exact ⟨_, _, _, h⟩

/-- 'v[:cut]' -/
theorem num_take {k : IntKind} {w : World} {sa : Option Addr} {n cp cut : Nat} {xs : List Int} (h : NumRow k w (.slice sa n cp) xs) (hc : cut ≤ xs.length) : NumRow k w (.slice sa cut cp) (xs.take cut) := by
  obtain ⟨a, c, hv, h⟩ := h
  simp only [Value.slice.injEq] at hv
  obtain ⟨rfl, _, rfl⟩ := hv
  have hl : (xs.take cut).length = cut := by rw [List.length_take]; omega
  refine ⟨_, _, by rw [hl], ?_⟩
  rcases h with h | ⟨b, o, ha, hb, hcs⟩
  · exact .inl (by rw [h]; simp)
  · refine .inr ⟨b, o, ha, hb, fun j hj => ?_⟩
    rw [hl] at hj
    rw [hcs j (by omega)]
    simp [List.getD, hj]

/-- 'v[cut:]' -/
theorem num_drop {k : IntKind} {w : World} {sa : Option Addr} {cp cut : Nat} {xs : List Int} (h : NumRow k w (.slice sa xs.length cp) xs) (hc : cut ≤ xs.length) (hl : xs.length ≤ cp) :
    NumRow k w (.slice (if cp = cut then sa else sa.map (fun x => x.add cut)) (xs.length - cut) (cp - cut)) (xs.drop cut) := by
  obtain ⟨a, c, hv, h⟩ := h
  simp only [Value.slice.injEq] at hv
  obtain ⟨rfl, _, rfl⟩ := hv
  refine ⟨_, _, by rw [List.length_drop], ?_⟩
  by_cases he : cut = xs.length
  · exact .inl (by rw [he, List.drop_length])
  · rw [if_neg (by omega)]
    rcases h with h | ⟨b, o, ha, hb, hcs⟩
    · exact .inl (by rw [h]; simp)
    · refine .inr ⟨b, o + cut, by rw [ha]; simp [Go.WideShapes.add_plain], hb, fun j hj => ?_⟩
      rw [List.length_drop] at hj
      have := hcs (cut + j) (by omega)
      rw [← Nat.add_assoc] at this
      rw [this]
      simp [List.getD, List.getElem?_drop]

/-- All that the last row of the law needs. -/
def MergesFacts (a b c : Ag) (xs : List Int) (cut : Nat) (y1 y2 y3 z1 z2 z3 : Ag) : Prop :=
  Hid (agAll agZero [a, b] = y1) ∧ Hid (agAll agZero [b, a] = y1) ∧ Hid (∀ x ∈ [a, b], AgIn x) ∧ Hid (∀ x ∈ [b, a], AgIn x) ∧ Hid (agAll agZero [y1, c] = y2) ∧ Hid (∀ x ∈ [y1, c], AgIn x) ∧ Hid (∀ x ∈ [b, c], AgIn x) ∧
  Hid (agAll agZero [a, y3] = y2) ∧ Hid (∀ x ∈ [a, y3], AgIn x) ∧ Hid (agAll agZero [a, b, c] = y2) ∧ Hid (∀ x ∈ [a, b, c], AgIn x) ∧ Hid (agAll agZero [c, a, b] = y2) ∧ Hid (∀ x ∈ [c, a, b], AgIn x) ∧
  Hid (agAll agZero [a, agZero] = a) ∧ Hid (∀ x ∈ [a, agZero], AgIn x) ∧ Hid (agOf (xs.take cut) = z1) ∧ Hid (Ints (xs.take cut)) ∧ Hid ((xs.take cut).length ≤ 1000000) ∧ Hid (agOf (xs.drop cut) = z2) ∧ Hid (Ints (xs.drop cut)) ∧ Hid ((xs.drop cut).length ≤ 1000000) ∧
  Hid (agAll agZero [z1, z2] = z3) ∧ Hid (∀ x ∈ [z1, z2], AgIn x) ∧ Hid (agOf xs = z3) ∧ Hid (agAll agZero [b, c] = y3)

theorem merges_facts {a b c : Ag} {xs : List Int} {cut : Nat} {y1 y2 y3 z1 z2 z3 : Ag} (ha : AgGood a) (hb : AgGood b) (hc : AgGood c) (hl : Ints xs) (hy1 : agAll agZero [a, b] = y1) (hy2 : agAll agZero [y1, c] = y2) (hy3 : agAll agZero [b, c] = y3)
    (hz1 : agOf (xs.take cut) = z1) (hz2 : agOf (xs.drop cut) = z2) (hz3 : agOf xs = z3) (hn : xs.length ≤ 60) : MergesFacts a b c xs cut y1 y2 y3 z1 z2 z3 := by
  have lt := ints_take hl cut
  have ld : Ints (xs.drop cut) := fun x hx => hl x (List.mem_of_mem_drop hx)
  have two : ∀ p q : Ag, AgGood p → agAll agZero [p, q] = agJoin p q := fun p q hp => by
    show agJoin (agJoin agZero p) q = agJoin p q
    rw [agJoin_zero_left p hp]
  have g1 : AgGood y1 := by rw [← hy1, two a b ha]; exact agJoin_good ha hb.1
  have g3 : AgGood y3 := by rw [← hy3, two b c hb]; exact agJoin_good hb hc.1
  have e1 : y1 = agJoin a b := by rw [← hy1, two a b ha]
  have e3 : y3 = agJoin b c := by rw [← hy3, two b c hb]
  have e2 : y2 = agJoin (agJoin a b) c := by rw [← hy2, two y1 c g1, e1]
  have k1 := agOf_good lt
  have k2 := agOf_good ld
  refine ⟨Hid.of hy1, Hid.of ?_, Hid.of ?_, Hid.of ?_, Hid.of hy2, Hid.of ?_, Hid.of ?_, Hid.of ?_, Hid.of ?_, Hid.of ?_, Hid.of ?_, Hid.of ?_, Hid.of ?_, Hid.of ?_, Hid.of ?_, Hid.of hz1, Hid.of lt, Hid.of ?_, Hid.of hz2, Hid.of ld, Hid.of ?_, Hid.of ?_, Hid.of ?_, Hid.of hz3, Hid.of hy3⟩
  · rw [two b a hb, agJoin_comm hb ha, e1]
  · simpa using ⟨ha.1, hb.1⟩
  · simpa using ⟨hb.1, ha.1⟩
  · simpa using ⟨g1.1, hc.1⟩
  · simpa using ⟨hb.1, hc.1⟩
  · rw [two a y3 ha, e3, ← agJoin_assoc ha hb hc, e2]
  · simpa using ⟨ha.1, g3.1⟩
  · show agJoin (agJoin (agJoin agZero a) b) c = y2
    rw [agJoin_zero_left a ha, e2]
  · simpa using ⟨ha.1, hb.1, hc.1⟩
  · show agJoin (agJoin (agJoin agZero c) a) b = y2
    rw [agJoin_zero_left c hc, agJoin_assoc hc ha hb, agJoin_comm hc (agJoin_good ha hb.1), e2]
  · simpa using ⟨hc.1, ha.1, hb.1⟩
  · rw [two a agZero ha, agJoin_zero_right]
  · simpa using ⟨ha.1, agZero_in⟩
  · rw [List.length_take]; omega
  · rw [List.length_drop]; omega
  · rw [← hz1, two _ z2 k1, ← hz2, ← agOf_append lt ld, List.take_append_drop, hz3]
  · simpa [← hz1, ← hz2] using ⟨k1.1, k2.1⟩

set_option maxRecDepth 100000 in
set_option maxHeartbeats 25600000 in
theorem merges_main (a b c : Ag) (ha : AgGood a) (hb : AgGood b) (hc : AgGood c) (v : Value) (xs : List Int) (cut : Nat) (h1 : xs.length ≤ 60) (h2 : cut ≤ xs.length) (w : World) (hv : NumRow .i64 w v xs) (hcap : ∀ a n c, v = .slice a n c → n ≤ c) (hl : Ints xs) :
    Calls Try.prog 4 #[agv a, agv b, agv c, v, .int .i64 cut] w fun e w' => e = .returned (.bool true) ∧ Below w.heap.size w w' := by
  have NV := Hid.of hv
  obtain ⟨sa, cp, rfl, hv⟩ := hv
  have HV := Hid.of hv
  have HL := Hid.of hl
  have HA := Hid.of ha
  have HB := Hid.of hb
  have HC := Hid.of hc
  have B0 := Hid.of ((((Below.refl w.heap.size w).alloc (Nat.le_refl _) (.cells (agCells a) 27)).alloc (by simp) (.cells (agCells b) 27)).alloc (by simp; omega) (.cells (agCells c) 27))
  have g0 := Hid.of (((AgBlk.new w a).alloc (.cells (agCells b) 27)).alloc (.cells (agCells c) 27))
  have g1 : Hid (AgBlk (((w.alloc (.cells (agCells a) 27)).alloc (.cells (agCells b) 27)).alloc (.cells (agCells c) 27)) (w.heap.size + 1) b) := Hid.of ((AgBlk.made (w.alloc (.cells (agCells a) 27)) b _ _ (by simp) (by rfl)).alloc _)
  have g2 : Hid (AgBlk (((w.alloc (.cells (agCells a) 27)).alloc (.cells (agCells b) 27)).alloc (.cells (agCells c) 27)) (w.heap.size + 1 + 1) c) := Hid.of (AgBlk.made ((w.alloc (.cells (agCells a) 27)).alloc (.cells (agCells b) 27)) c _ _ (by simp) (by rfl))
  have i0 : (0 : Int) ≤ (cut : Int) := Int.natCast_nonneg _
  have i1 : (cut : Int) ≤ (xs.length : Int) := by omega
  have hcp := hcap _ _ _ rfl
  have LEN := Hid.of hcp
  have CAP : Hid (cut ≤ cp) := Hid.of (by omega)
  have CUT := Hid.of h2
  clear hv hl ha hb hc h2 hcap hcp
  go_enter Try.func4, Try.ntmps4
  go_upto_region 3 with (fail)
  go_cut [52] (fun s wx => s = .bool false ∧ Below w.heap.size w wx ∧ Hid (AgBlk wx w.heap.size a) ∧ Hid (AgBlk wx (w.heap.size + 1) b) ∧ Hid (AgBlk wx (w.heap.size + 1 + 1) c))
  case first =>
    rcases HA.out.2 with oa | rfl <;> rcases HB.out.2 with ob | rfl <;> rcases HC.out.2 with oc | rfl
    all_goals
      have z0 := zero_c
      have z1 := zero_hi
      have z2 := zero_lo
      have z3 := zero_mn
      have z4 := zero_mx
      go_wp2_with fail
      first | (refine (Valid_named a true oa _).mono ?_) | (refine (Valid_named agZero false agOk_zero _).mono ?_)
      rintro e w1 ⟨rfl, b1⟩
      have K0 := Hid.of (g0.out.kept b1)
      have K1 := Hid.of (g1.out.kept b1)
      have K2 := Hid.of (g2.out.kept b1)
      have BB := Hid.of (B0.out.trans (b1.mono B0.out.size))
      clear b1
      obtain ⟨q0, q1, q2, q3, q4⟩ := K0.out.at
      obtain ⟨p0, p1, p2, p3, p4⟩ := K1.out.at
      go_wp2_with fail
      first | (refine (Valid_named b true ob _).mono ?_) | (refine (Valid_named agZero false agOk_zero _).mono ?_)
      rintro e w2 ⟨rfl, b2⟩
      have M0 := Hid.of (K0.out.kept b2)
      have M1 := Hid.of (K1.out.kept b2)
      have M2 := Hid.of (K2.out.kept b2)
      have BC := Hid.of (BB.out.trans (b2.mono BB.out.size))
      clear b2 q0 q1 q2 q3 q4 p0 p1 p2 p3 p4
      obtain ⟨q0, q1, q2, q3, q4⟩ := M1.out.at
      obtain ⟨p0, p1, p2, p3, p4⟩ := M2.out.at
      go_wp2_with fail
      first | (refine (Valid_named c true oc _).mono ?_) | (refine (Valid_named agZero false agOk_zero _).mono ?_)
      rintro e w3 ⟨rfl, b3⟩
      have N0 := Hid.of (M0.out.kept b3)
      have N1 := Hid.of (M1.out.kept b3)
      have N2 := Hid.of (M2.out.kept b3)
      have BD := Hid.of (BC.out.trans (b3.mono BC.out.size))
      clear b3 q0 q1 q2 q3 q4 p0 p1 p2 p3 p4
      obtain ⟨q0, q1, q2, q3, q4⟩ := N2.out.at
      go_wp2_with fail
      go_meet
      exact ⟨rfl, BD.out, N0, N1, N2⟩
  case rest =>
    obtain ⟨rfl, b0r, k0, k1, k2⟩ := hcut
    have b0 := Hid.of b0r
    clear b0r
    obtain ⟨y1, hy1⟩ : ∃ y, agAll agZero [a, b] = y := ⟨_, rfl⟩
    obtain ⟨y2, hy2⟩ : ∃ y, agAll agZero [y1, c] = y := ⟨_, rfl⟩
    obtain ⟨y3, hy3⟩ : ∃ y, agAll agZero [b, c] = y := ⟨_, rfl⟩
    obtain ⟨z1, hz1⟩ : ∃ z, agOf (xs.take cut) = z := ⟨_, rfl⟩
    obtain ⟨z2, hz2⟩ : ∃ z, agOf (xs.drop cut) = z := ⟨_, rfl⟩
    obtain ⟨z3, hz3⟩ : ∃ z, agOf xs = z := ⟨_, rfl⟩
    have FACTS : MergesFacts a b c xs cut y1 y2 y3 z1 z2 z3 := merges_facts HA.out HB.out HC.out HL.out hy1 hy2 hy3 hz1 hz2 hz3 h1
    obtain ⟨Y1, Y1', IAB, IBA, Y2, IYC, IBC, Y2', IAY, Y4, IABC, Y4', ICAB, Y5, IAZ, Z1, L1, N1, Z2, L2, N2, Z4, IZZ, Z3, Y3⟩ := FACTS
    clear hy1 hy2 hy3 hz1 hz2 hz3
    go_wp2
    try simp only [List.append]
    refine wp_region_freely (by kernel_rfl) (fun i => List.getD [(Fact.is (.bool true)), (Fact.is (.bool true)), (Fact.is (agv a)), (Fact.is (agv b)), (Fact.row [a, b]), (Fact.is (agv y1)), (Fact.is (agv b)), (Fact.is (agv a)), (Fact.row [b, a]), (Fact.is (agv y1)), (Fact.is (.bool true)), (Fact.is (.bool true)), (Fact.is (.bool true)), (Fact.is (agv a)), (Fact.is (agv b)), (Fact.row [a, b]), (Fact.is (agv y1)), (Fact.is (agv c)), (Fact.row [y1, c]), (Fact.is (agv y2)), (Fact.is (agv a)), (Fact.is (agv b)), (Fact.is (agv c)), (Fact.row [b, c]), (Fact.is (agv y3)), (Fact.row [a, y3]), (Fact.is (agv y2)), (Fact.is (.bool true)), (Fact.is (.bool true)), (Fact.is (.bool true)), (Fact.is (agv a)), (Fact.is (agv b)), (Fact.is (agv c)), (Fact.row [a, b, c]), (Fact.is (agv y2)), (Fact.is (agv c)), (Fact.is (agv a)), (Fact.is (agv b)), (Fact.row [c, a, b]), (Fact.is (agv y2)), (Fact.is (.bool true)), (Fact.is (.bool true)), (Fact.is (.bool true)), (Fact.is (agv a)), (Fact.is (agv agZero)), (Fact.row [a, agZero]), (Fact.is (agv a)), (Fact.is (agv a)), (Fact.is (.bool true)), (Fact.is (.bool true)), (Fact.is (.bool true)), (Fact.is (.slice sa xs.length cp)), (Fact.is (.int .i64 cut)), (Fact.num (xs.take cut)), (Fact.is (agv z1)), (Fact.is (.slice sa xs.length cp)), (Fact.is (.int .i64 cut)), (Fact.num (xs.drop cut)), (Fact.is (agv z2)), (Fact.row [z1, z2]), (Fact.is (agv z3)), (Fact.is (.slice sa xs.length cp)), (Fact.is (agv z3)), (Fact.is (.bool true)), (Fact.is (.bool true)), (Fact.is (.bool true))] i Fact.any) (by kernel_rfl) (steps_of ?_) ?_
    refine ⟨?_, ?_, ?_, ?_, ?_, ?_, ?_, ?_, ?_, ?_, ?_, ?_, ?_, ?_, ?_, ?_, ?_, ?_, ?_, ?_, ?_, ?_, ?_, ?_, ?_, ?_, ?_, ?_, ?_, ?_, ?_, ?_, ?_, ?_, ?_, ?_, ?_, ?_, ?_, ?_, ?_, ?_, ?_, ?_, ?_, ?_, ?_, ?_, ?_, ?_, ?_, ?_, ?_, ?_, ?_, ?_, ?_, ?_, ?_, ?_, ?_, ?_, ?_, ?_, ?_, ?_, trivial⟩
    · -- 0: Op.call { value (Operand.func 10), args := #[], argTypes := #[] }
      intro a1 w1 hb hag hdep
      have H0 := Hid.of ((Below.refl _ _).drew.trans hb)
      refine ⟨wanted_plain rfl, ?_⟩
      clear hag hdep hb
      unfold Oper.wp
      go_simp
      refine (aggAlive_any _).mono ?_
      rintro e w2 ⟨rfl, b2⟩
      exact ⟨_, rfl, b2, rfl⟩
    · -- 1: Op.move t54
      intro a1 w1 hb hag hdep
      have H0 := Hid.of ((Below.refl _ _).drew.trans hb)
      obtain ⟨x54, e54, f54⟩ := hdep 0 54 (by kernel_rfl) (by kernel_rfl)
      obtain rfl : x54 = (.bool true) := f54
      refine ⟨wanted_plain rfl, ?_⟩
      clear hag hdep hb
      unfold Oper.wp
      go_simp
      exact ⟨_, rfl, Below.refl _ _, rfl⟩
    · -- 2: Op.load 27 t5
      intro a1 w1 hb hag hdep
      have H0 := Hid.of ((Below.refl _ _).drew.trans hb)
      have e5 : a1.tmps[5]? = some (.pointer (some ⟨w.heap.size, 0, none⟩)) := (hag 5 (not_dst (by kernel_rfl))).trans (by rfl)
      obtain ⟨x55, e55, f55⟩ := hdep 1 55 (by kernel_rfl) (by kernel_rfl)
      obtain rfl : x55 = (.bool true) := f55
      refine ⟨wanted_guard (j := 1) (t := 55) rfl (by kernel_rfl) e55, ?_⟩
      obtain ⟨q0, q1, q2, q3, q4⟩ := (k0.out.kept H0.out).at
      clear hag hdep hb
      unfold Oper.wp
      go_simp
      exact ⟨_, rfl, Below.refl _ _, rfl⟩
    · -- 3: Op.load 27 t6
      intro a1 w1 hb hag hdep
      have H0 := Hid.of ((Below.refl _ _).drew.trans hb)
      have e6 : a1.tmps[6]? = some (.pointer (some ⟨w.heap.size + 1, 0, none⟩)) := (hag 6 (not_dst (by kernel_rfl))).trans (by rfl)
      obtain ⟨x55, e55, f55⟩ := hdep 1 55 (by kernel_rfl) (by kernel_rfl)
      obtain rfl : x55 = (.bool true) := f55
      refine ⟨wanted_guard (j := 1) (t := 55) rfl (by kernel_rfl) e55, ?_⟩
      obtain ⟨q0, q1, q2, q3, q4⟩ := (k1.out.kept H0.out).at
      clear hag hdep hb
      unfold Oper.wp
      go_simp
      exact ⟨_, rfl, Below.refl _ _, rfl⟩
    · -- 4: Op.buildSlice 23 2 #[(0, t56), (1, t57)]
      intro a1 w1 hb hag hdep
      have H0 := Hid.of ((Below.refl _ _).drew.trans hb)
      obtain ⟨x56, e56, f56⟩ := hdep 2 56 (by kernel_rfl) (by kernel_rfl)
      obtain rfl : x56 = (agv a) := f56
      obtain ⟨x57, e57, f57⟩ := hdep 3 57 (by kernel_rfl) (by kernel_rfl)
      obtain rfl : x57 = (agv b) := f57
      obtain ⟨x55, e55, f55⟩ := hdep 1 55 (by kernel_rfl) (by kernel_rfl)
      obtain rfl : x55 = (.bool true) := f55
      refine ⟨wanted_guard (j := 1) (t := 55) rfl (by kernel_rfl) e55, ?_⟩
      clear hag hdep hb
      unfold Oper.wp
      go_simp
      exact ⟨_, rfl, (Below.refl _ _).alloc (Nat.le_refl _) _, AgRow.made _ _ [a, b] _ (by rfl) _ _ _ rfl rfl⟩
    · -- 5: Op.call { value (Operand.func 16), args := #[t58], argTypes := #[23] }
      intro a1 w1 hb hag hdep
      have H0 := Hid.of ((Below.refl _ _).drew.trans hb)
      obtain ⟨x58, e58, f58⟩ := hdep 4 58 (by kernel_rfl) (by kernel_rfl)
      obtain ⟨x55, e55, f55⟩ := hdep 1 55 (by kernel_rfl) (by kernel_rfl)
      obtain rfl : x55 = (.bool true) := f55
      refine ⟨wanted_guard (j := 1) (t := 55) rfl (by kernel_rfl) e55, ?_⟩
      have F58 : AgRow w1 x58 [a, b] := f58
      have G58 := Hid.of F58
      obtain ⟨ra, rc, rfl, _⟩ := F58
      clear f58
      clear hag hdep hb
      unfold Oper.wp
      go_simp
      refine (Merge_row _ [a, b] y1 Y1.out _ G58.out (IAB.out) (by simp)).mono ?_
      rintro e w2 ⟨rfl, b2⟩
      exact ⟨_, rfl, b2, rfl⟩
    · -- 6: Op.load 27 t6
      intro a1 w1 hb hag hdep
      have H0 := Hid.of ((Below.refl _ _).drew.trans hb)
      have e6 : a1.tmps[6]? = some (.pointer (some ⟨w.heap.size + 1, 0, none⟩)) := (hag 6 (not_dst (by kernel_rfl))).trans (by rfl)
      obtain ⟨x55, e55, f55⟩ := hdep 1 55 (by kernel_rfl) (by kernel_rfl)
      obtain rfl : x55 = (.bool true) := f55
      refine ⟨wanted_guard (j := 1) (t := 55) rfl (by kernel_rfl) e55, ?_⟩
      obtain ⟨q0, q1, q2, q3, q4⟩ := (k1.out.kept H0.out).at
      clear hag hdep hb
      unfold Oper.wp
      go_simp
      exact ⟨_, rfl, Below.refl _ _, rfl⟩
    · -- 7: Op.load 27 t5
      intro a1 w1 hb hag hdep
      have H0 := Hid.of ((Below.refl _ _).drew.trans hb)
      have e5 : a1.tmps[5]? = some (.pointer (some ⟨w.heap.size, 0, none⟩)) := (hag 5 (not_dst (by kernel_rfl))).trans (by rfl)
      obtain ⟨x55, e55, f55⟩ := hdep 1 55 (by kernel_rfl) (by kernel_rfl)
      obtain rfl : x55 = (.bool true) := f55
      refine ⟨wanted_guard (j := 1) (t := 55) rfl (by kernel_rfl) e55, ?_⟩
      obtain ⟨q0, q1, q2, q3, q4⟩ := (k0.out.kept H0.out).at
      clear hag hdep hb
      unfold Oper.wp
      go_simp
      exact ⟨_, rfl, Below.refl _ _, rfl⟩
    · -- 8: Op.buildSlice 23 2 #[(0, t60), (1, t61)]
      intro a1 w1 hb hag hdep
      have H0 := Hid.of ((Below.refl _ _).drew.trans hb)
      obtain ⟨x60, e60, f60⟩ := hdep 6 60 (by kernel_rfl) (by kernel_rfl)
      obtain rfl : x60 = (agv b) := f60
      obtain ⟨x61, e61, f61⟩ := hdep 7 61 (by kernel_rfl) (by kernel_rfl)
      obtain rfl : x61 = (agv a) := f61
      obtain ⟨x55, e55, f55⟩ := hdep 1 55 (by kernel_rfl) (by kernel_rfl)
      obtain rfl : x55 = (.bool true) := f55
      refine ⟨wanted_guard (j := 1) (t := 55) rfl (by kernel_rfl) e55, ?_⟩
      clear hag hdep hb
      unfold Oper.wp
      go_simp
      exact ⟨_, rfl, (Below.refl _ _).alloc (Nat.le_refl _) _, AgRow.made _ _ [b, a] _ (by rfl) _ _ _ rfl rfl⟩
    · -- 9: Op.call { value (Operand.func 16), args := #[t62], argTypes := #[23] }
      intro a1 w1 hb hag hdep
      have H0 := Hid.of ((Below.refl _ _).drew.trans hb)
      obtain ⟨x62, e62, f62⟩ := hdep 8 62 (by kernel_rfl) (by kernel_rfl)
      obtain ⟨x55, e55, f55⟩ := hdep 1 55 (by kernel_rfl) (by kernel_rfl)
      obtain rfl : x55 = (.bool true) := f55
      refine ⟨wanted_guard (j := 1) (t := 55) rfl (by kernel_rfl) e55, ?_⟩
      have F62 : AgRow w1 x62 [b, a] := f62
      have G62 := Hid.of F62
      obtain ⟨ra, rc, rfl, _⟩ := F62
      clear f62
      clear hag hdep hb
      unfold Oper.wp
      go_simp
      refine (Merge_row _ [b, a] y1 Y1'.out _ G62.out (IBA.out) (by simp)).mono ?_
      rintro e w2 ⟨rfl, b2⟩
      exact ⟨_, rfl, b2, rfl⟩
    · -- 10: Op.binOp BinOp.eql 27 t59 t63 27
      intro a1 w1 hb hag hdep
      have H0 := Hid.of ((Below.refl _ _).drew.trans hb)
      obtain ⟨x59, e59, f59⟩ := hdep 5 59 (by kernel_rfl) (by kernel_rfl)
      obtain rfl : x59 = (agv y1) := f59
      obtain ⟨x63, e63, f63⟩ := hdep 9 63 (by kernel_rfl) (by kernel_rfl)
      obtain rfl : x63 = (agv y1) := f63
      obtain ⟨x55, e55, f55⟩ := hdep 1 55 (by kernel_rfl) (by kernel_rfl)
      obtain rfl : x55 = (.bool true) := f55
      refine ⟨wanted_guard (j := 1) (t := 55) rfl (by kernel_rfl) e55, ?_⟩
      clear hag hdep hb
      unfold Oper.wp
      go_simp
      exact ⟨_, rfl, Below.refl _ _, rfl⟩
    · -- 11: Op.pick t55 t64 (const (Value.bool false))
      intro a1 w1 hb hag hdep
      have H0 := Hid.of ((Below.refl _ _).drew.trans hb)
      obtain ⟨x55, e55, f55⟩ := hdep 1 55 (by kernel_rfl) (by kernel_rfl)
      obtain rfl : x55 = (.bool true) := f55
      obtain ⟨x64, e64, f64⟩ := hdep 10 64 (by kernel_rfl) (by kernel_rfl)
      obtain rfl : x64 = (.bool true) := f64
      refine ⟨wanted_plain rfl, ?_⟩
      clear hag hdep hb
      unfold Oper.wp
      go_simp
      exact ⟨_, rfl, Below.refl _ _, rfl⟩
    · -- 12: Op.move t65
      intro a1 w1 hb hag hdep
      have H0 := Hid.of ((Below.refl _ _).drew.trans hb)
      obtain ⟨x65, e65, f65⟩ := hdep 11 65 (by kernel_rfl) (by kernel_rfl)
      obtain rfl : x65 = (.bool true) := f65
      refine ⟨wanted_plain rfl, ?_⟩
      clear hag hdep hb
      unfold Oper.wp
      go_simp
      exact ⟨_, rfl, Below.refl _ _, rfl⟩
    · -- 13: Op.load 27 t5
      intro a1 w1 hb hag hdep
      have H0 := Hid.of ((Below.refl _ _).drew.trans hb)
      have e5 : a1.tmps[5]? = some (.pointer (some ⟨w.heap.size, 0, none⟩)) := (hag 5 (not_dst (by kernel_rfl))).trans (by rfl)
      obtain ⟨x66, e66, f66⟩ := hdep 12 66 (by kernel_rfl) (by kernel_rfl)
      obtain rfl : x66 = (.bool true) := f66
      refine ⟨wanted_guard (j := 12) (t := 66) rfl (by kernel_rfl) e66, ?_⟩
      obtain ⟨q0, q1, q2, q3, q4⟩ := (k0.out.kept H0.out).at
      clear hag hdep hb
      unfold Oper.wp
      go_simp
      exact ⟨_, rfl, Below.refl _ _, rfl⟩
    · -- 14: Op.load 27 t6
      intro a1 w1 hb hag hdep
      have H0 := Hid.of ((Below.refl _ _).drew.trans hb)
      have e6 : a1.tmps[6]? = some (.pointer (some ⟨w.heap.size + 1, 0, none⟩)) := (hag 6 (not_dst (by kernel_rfl))).trans (by rfl)
      obtain ⟨x66, e66, f66⟩ := hdep 12 66 (by kernel_rfl) (by kernel_rfl)
      obtain rfl : x66 = (.bool true) := f66
      refine ⟨wanted_guard (j := 12) (t := 66) rfl (by kernel_rfl) e66, ?_⟩
      obtain ⟨q0, q1, q2, q3, q4⟩ := (k1.out.kept H0.out).at
      clear hag hdep hb
      unfold Oper.wp
      go_simp
      exact ⟨_, rfl, Below.refl _ _, rfl⟩
    · -- 15: Op.buildSlice 23 2 #[(0, t67), (1, t68)]
      intro a1 w1 hb hag hdep
      have H0 := Hid.of ((Below.refl _ _).drew.trans hb)
      obtain ⟨x67, e67, f67⟩ := hdep 13 67 (by kernel_rfl) (by kernel_rfl)
      obtain rfl : x67 = (agv a) := f67
      obtain ⟨x68, e68, f68⟩ := hdep 14 68 (by kernel_rfl) (by kernel_rfl)
      obtain rfl : x68 = (agv b) := f68
      obtain ⟨x66, e66, f66⟩ := hdep 12 66 (by kernel_rfl) (by kernel_rfl)
      obtain rfl : x66 = (.bool true) := f66
      refine ⟨wanted_guard (j := 12) (t := 66) rfl (by kernel_rfl) e66, ?_⟩
      clear hag hdep hb
      unfold Oper.wp
      go_simp
      exact ⟨_, rfl, (Below.refl _ _).alloc (Nat.le_refl _) _, AgRow.made _ _ [a, b] _ (by rfl) _ _ _ rfl rfl⟩
    · -- 16: Op.call { value (Operand.func 16), args := #[t69], argTypes := #[23] }
      intro a1 w1 hb hag hdep
      have H0 := Hid.of ((Below.refl _ _).drew.trans hb)
      obtain ⟨x69, e69, f69⟩ := hdep 15 69 (by kernel_rfl) (by kernel_rfl)
      obtain ⟨x66, e66, f66⟩ := hdep 12 66 (by kernel_rfl) (by kernel_rfl)
      obtain rfl : x66 = (.bool true) := f66
      refine ⟨wanted_guard (j := 12) (t := 66) rfl (by kernel_rfl) e66, ?_⟩
      have F69 : AgRow w1 x69 [a, b] := f69
      have G69 := Hid.of F69
      obtain ⟨ra, rc, rfl, _⟩ := F69
      clear f69
      clear hag hdep hb
      unfold Oper.wp
      go_simp
      refine (Merge_row _ [a, b] y1 Y1.out _ G69.out (IAB.out) (by simp)).mono ?_
      rintro e w2 ⟨rfl, b2⟩
      exact ⟨_, rfl, b2, rfl⟩
    · -- 17: Op.load 27 t7
      intro a1 w1 hb hag hdep
      have H0 := Hid.of ((Below.refl _ _).drew.trans hb)
      have e7 : a1.tmps[7]? = some (.pointer (some ⟨w.heap.size + 1 + 1, 0, none⟩)) := (hag 7 (not_dst (by kernel_rfl))).trans (by rfl)
      obtain ⟨x66, e66, f66⟩ := hdep 12 66 (by kernel_rfl) (by kernel_rfl)
      obtain rfl : x66 = (.bool true) := f66
      refine ⟨wanted_guard (j := 12) (t := 66) rfl (by kernel_rfl) e66, ?_⟩
      obtain ⟨q0, q1, q2, q3, q4⟩ := (k2.out.kept H0.out).at
      clear hag hdep hb
      unfold Oper.wp
      go_simp
      exact ⟨_, rfl, Below.refl _ _, rfl⟩
    · -- 18: Op.buildSlice 23 2 #[(0, t70), (1, t71)]
      intro a1 w1 hb hag hdep
      have H0 := Hid.of ((Below.refl _ _).drew.trans hb)
      obtain ⟨x70, e70, f70⟩ := hdep 16 70 (by kernel_rfl) (by kernel_rfl)
      obtain rfl : x70 = (agv y1) := f70
      obtain ⟨x71, e71, f71⟩ := hdep 17 71 (by kernel_rfl) (by kernel_rfl)
      obtain rfl : x71 = (agv c) := f71
      obtain ⟨x66, e66, f66⟩ := hdep 12 66 (by kernel_rfl) (by kernel_rfl)
      obtain rfl : x66 = (.bool true) := f66
      refine ⟨wanted_guard (j := 12) (t := 66) rfl (by kernel_rfl) e66, ?_⟩
      clear hag hdep hb
      unfold Oper.wp
      go_simp
      exact ⟨_, rfl, (Below.refl _ _).alloc (Nat.le_refl _) _, AgRow.made _ _ [y1, c] _ (by rfl) _ _ _ rfl rfl⟩
    · -- 19: Op.call { value (Operand.func 16), args := #[t72], argTypes := #[23] }
      intro a1 w1 hb hag hdep
      have H0 := Hid.of ((Below.refl _ _).drew.trans hb)
      obtain ⟨x72, e72, f72⟩ := hdep 18 72 (by kernel_rfl) (by kernel_rfl)
      obtain ⟨x66, e66, f66⟩ := hdep 12 66 (by kernel_rfl) (by kernel_rfl)
      obtain rfl : x66 = (.bool true) := f66
      refine ⟨wanted_guard (j := 12) (t := 66) rfl (by kernel_rfl) e66, ?_⟩
      have F72 : AgRow w1 x72 [y1, c] := f72
      have G72 := Hid.of F72
      obtain ⟨ra, rc, rfl, _⟩ := F72
      clear f72
      clear hag hdep hb
      unfold Oper.wp
      go_simp
      refine (Merge_row _ [y1, c] y2 Y2.out _ G72.out (IYC.out) (by simp)).mono ?_
      rintro e w2 ⟨rfl, b2⟩
      exact ⟨_, rfl, b2, rfl⟩
    · -- 20: Op.load 27 t5
      intro a1 w1 hb hag hdep
      have H0 := Hid.of ((Below.refl _ _).drew.trans hb)
      have e5 : a1.tmps[5]? = some (.pointer (some ⟨w.heap.size, 0, none⟩)) := (hag 5 (not_dst (by kernel_rfl))).trans (by rfl)
      obtain ⟨x66, e66, f66⟩ := hdep 12 66 (by kernel_rfl) (by kernel_rfl)
      obtain rfl : x66 = (.bool true) := f66
      refine ⟨wanted_guard (j := 12) (t := 66) rfl (by kernel_rfl) e66, ?_⟩
      obtain ⟨q0, q1, q2, q3, q4⟩ := (k0.out.kept H0.out).at
      clear hag hdep hb
      unfold Oper.wp
      go_simp
      exact ⟨_, rfl, Below.refl _ _, rfl⟩
    · -- 21: Op.load 27 t6
      intro a1 w1 hb hag hdep
      have H0 := Hid.of ((Below.refl _ _).drew.trans hb)
      have e6 : a1.tmps[6]? = some (.pointer (some ⟨w.heap.size + 1, 0, none⟩)) := (hag 6 (not_dst (by kernel_rfl))).trans (by rfl)
      obtain ⟨x66, e66, f66⟩ := hdep 12 66 (by kernel_rfl) (by kernel_rfl)
      obtain rfl : x66 = (.bool true) := f66
      refine ⟨wanted_guard (j := 12) (t := 66) rfl (by kernel_rfl) e66, ?_⟩
      obtain ⟨q0, q1, q2, q3, q4⟩ := (k1.out.kept H0.out).at
      clear hag hdep hb
      unfold Oper.wp
      go_simp
      exact ⟨_, rfl, Below.refl _ _, rfl⟩
    · -- 22: Op.load 27 t7
      intro a1 w1 hb hag hdep
      have H0 := Hid.of ((Below.refl _ _).drew.trans hb)
      have e7 : a1.tmps[7]? = some (.pointer (some ⟨w.heap.size + 1 + 1, 0, none⟩)) := (hag 7 (not_dst (by kernel_rfl))).trans (by rfl)
      obtain ⟨x66, e66, f66⟩ := hdep 12 66 (by kernel_rfl) (by kernel_rfl)
      obtain rfl : x66 = (.bool true) := f66
      refine ⟨wanted_guard (j := 12) (t := 66) rfl (by kernel_rfl) e66, ?_⟩
      obtain ⟨q0, q1, q2, q3, q4⟩ := (k2.out.kept H0.out).at
      clear hag hdep hb
      unfold Oper.wp
      go_simp
      exact ⟨_, rfl, Below.refl _ _, rfl⟩
    · -- 23: Op.buildSlice 23 2 #[(0, t75), (1, t76)]
      intro a1 w1 hb hag hdep
      have H0 := Hid.of ((Below.refl _ _).drew.trans hb)
      obtain ⟨x75, e75, f75⟩ := hdep 21 75 (by kernel_rfl) (by kernel_rfl)
      obtain rfl : x75 = (agv b) := f75
      obtain ⟨x76, e76, f76⟩ := hdep 22 76 (by kernel_rfl) (by kernel_rfl)
      obtain rfl : x76 = (agv c) := f76
      obtain ⟨x66, e66, f66⟩ := hdep 12 66 (by kernel_rfl) (by kernel_rfl)
      obtain rfl : x66 = (.bool true) := f66
      refine ⟨wanted_guard (j := 12) (t := 66) rfl (by kernel_rfl) e66, ?_⟩
      clear hag hdep hb
      unfold Oper.wp
      go_simp
      exact ⟨_, rfl, (Below.refl _ _).alloc (Nat.le_refl _) _, AgRow.made _ _ [b, c] _ (by rfl) _ _ _ rfl rfl⟩
    · -- 24: Op.call { value (Operand.func 16), args := #[t77], argTypes := #[23] }
      intro a1 w1 hb hag hdep
      have H0 := Hid.of ((Below.refl _ _).drew.trans hb)
      obtain ⟨x77, e77, f77⟩ := hdep 23 77 (by kernel_rfl) (by kernel_rfl)
      obtain ⟨x66, e66, f66⟩ := hdep 12 66 (by kernel_rfl) (by kernel_rfl)
      obtain rfl : x66 = (.bool true) := f66
      refine ⟨wanted_guard (j := 12) (t := 66) rfl (by kernel_rfl) e66, ?_⟩
      have F77 : AgRow w1 x77 [b, c] := f77
      have G77 := Hid.of F77
      obtain ⟨ra, rc, rfl, _⟩ := F77
      clear f77
      clear hag hdep hb
      unfold Oper.wp
      go_simp
      refine (Merge_row _ [b, c] y3 Y3.out _ G77.out (IBC.out) (by simp)).mono ?_
      rintro e w2 ⟨rfl, b2⟩
      exact ⟨_, rfl, b2, rfl⟩
    · -- 25: Op.buildSlice 23 2 #[(0, t74), (1, t78)]
      intro a1 w1 hb hag hdep
      have H0 := Hid.of ((Below.refl _ _).drew.trans hb)
      obtain ⟨x74, e74, f74⟩ := hdep 20 74 (by kernel_rfl) (by kernel_rfl)
      obtain rfl : x74 = (agv a) := f74
      obtain ⟨x78, e78, f78⟩ := hdep 24 78 (by kernel_rfl) (by kernel_rfl)
      obtain rfl : x78 = (agv y3) := f78
      obtain ⟨x66, e66, f66⟩ := hdep 12 66 (by kernel_rfl) (by kernel_rfl)
      obtain rfl : x66 = (.bool true) := f66
      refine ⟨wanted_guard (j := 12) (t := 66) rfl (by kernel_rfl) e66, ?_⟩
      clear hag hdep hb
      unfold Oper.wp
      go_simp
      exact ⟨_, rfl, (Below.refl _ _).alloc (Nat.le_refl _) _, AgRow.made _ _ [a, y3] _ (by rfl) _ _ _ rfl rfl⟩
    · -- 26: Op.call { value (Operand.func 16), args := #[t79], argTypes := #[23] }
      intro a1 w1 hb hag hdep
      have H0 := Hid.of ((Below.refl _ _).drew.trans hb)
      obtain ⟨x79, e79, f79⟩ := hdep 25 79 (by kernel_rfl) (by kernel_rfl)
      obtain ⟨x66, e66, f66⟩ := hdep 12 66 (by kernel_rfl) (by kernel_rfl)
      obtain rfl : x66 = (.bool true) := f66
      refine ⟨wanted_guard (j := 12) (t := 66) rfl (by kernel_rfl) e66, ?_⟩
      have F79 : AgRow w1 x79 [a, y3] := f79
      have G79 := Hid.of F79
      obtain ⟨ra, rc, rfl, _⟩ := F79
      clear f79
      clear hag hdep hb
      unfold Oper.wp
      go_simp
      refine (Merge_row _ [a, y3] y2 Y2'.out _ G79.out (IAY.out) (by simp)).mono ?_
      rintro e w2 ⟨rfl, b2⟩
      exact ⟨_, rfl, b2, rfl⟩
    · -- 27: Op.binOp BinOp.eql 27 t73 t80 27
      intro a1 w1 hb hag hdep
      have H0 := Hid.of ((Below.refl _ _).drew.trans hb)
      obtain ⟨x73, e73, f73⟩ := hdep 19 73 (by kernel_rfl) (by kernel_rfl)
      obtain rfl : x73 = (agv y2) := f73
      obtain ⟨x80, e80, f80⟩ := hdep 26 80 (by kernel_rfl) (by kernel_rfl)
      obtain rfl : x80 = (agv y2) := f80
      obtain ⟨x66, e66, f66⟩ := hdep 12 66 (by kernel_rfl) (by kernel_rfl)
      obtain rfl : x66 = (.bool true) := f66
      refine ⟨wanted_guard (j := 12) (t := 66) rfl (by kernel_rfl) e66, ?_⟩
      clear hag hdep hb
      unfold Oper.wp
      go_simp
      exact ⟨_, rfl, Below.refl _ _, rfl⟩
    · -- 28: Op.pick t66 t81 (const (Value.bool false))
      intro a1 w1 hb hag hdep
      have H0 := Hid.of ((Below.refl _ _).drew.trans hb)
      obtain ⟨x66, e66, f66⟩ := hdep 12 66 (by kernel_rfl) (by kernel_rfl)
      obtain rfl : x66 = (.bool true) := f66
      obtain ⟨x81, e81, f81⟩ := hdep 27 81 (by kernel_rfl) (by kernel_rfl)
      obtain rfl : x81 = (.bool true) := f81
      refine ⟨wanted_plain rfl, ?_⟩
      clear hag hdep hb
      unfold Oper.wp
      go_simp
      exact ⟨_, rfl, Below.refl _ _, rfl⟩
    · -- 29: Op.move t82
      intro a1 w1 hb hag hdep
      have H0 := Hid.of ((Below.refl _ _).drew.trans hb)
      obtain ⟨x82, e82, f82⟩ := hdep 28 82 (by kernel_rfl) (by kernel_rfl)
      obtain rfl : x82 = (.bool true) := f82
      refine ⟨wanted_plain rfl, ?_⟩
      clear hag hdep hb
      unfold Oper.wp
      go_simp
      exact ⟨_, rfl, Below.refl _ _, rfl⟩
    · -- 30: Op.load 27 t5
      intro a1 w1 hb hag hdep
      have H0 := Hid.of ((Below.refl _ _).drew.trans hb)
      have e5 : a1.tmps[5]? = some (.pointer (some ⟨w.heap.size, 0, none⟩)) := (hag 5 (not_dst (by kernel_rfl))).trans (by rfl)
      obtain ⟨x83, e83, f83⟩ := hdep 29 83 (by kernel_rfl) (by kernel_rfl)
      obtain rfl : x83 = (.bool true) := f83
      refine ⟨wanted_guard (j := 29) (t := 83) rfl (by kernel_rfl) e83, ?_⟩
      obtain ⟨q0, q1, q2, q3, q4⟩ := (k0.out.kept H0.out).at
      clear hag hdep hb
      unfold Oper.wp
      go_simp
      exact ⟨_, rfl, Below.refl _ _, rfl⟩
    · -- 31: Op.load 27 t6
      intro a1 w1 hb hag hdep
      have H0 := Hid.of ((Below.refl _ _).drew.trans hb)
      have e6 : a1.tmps[6]? = some (.pointer (some ⟨w.heap.size + 1, 0, none⟩)) := (hag 6 (not_dst (by kernel_rfl))).trans (by rfl)
      obtain ⟨x83, e83, f83⟩ := hdep 29 83 (by kernel_rfl) (by kernel_rfl)
      obtain rfl : x83 = (.bool true) := f83
      refine ⟨wanted_guard (j := 29) (t := 83) rfl (by kernel_rfl) e83, ?_⟩
      obtain ⟨q0, q1, q2, q3, q4⟩ := (k1.out.kept H0.out).at
      clear hag hdep hb
      unfold Oper.wp
      go_simp
      exact ⟨_, rfl, Below.refl _ _, rfl⟩
    · -- 32: Op.load 27 t7
      intro a1 w1 hb hag hdep
      have H0 := Hid.of ((Below.refl _ _).drew.trans hb)
      have e7 : a1.tmps[7]? = some (.pointer (some ⟨w.heap.size + 1 + 1, 0, none⟩)) := (hag 7 (not_dst (by kernel_rfl))).trans (by rfl)
      obtain ⟨x83, e83, f83⟩ := hdep 29 83 (by kernel_rfl) (by kernel_rfl)
      obtain rfl : x83 = (.bool true) := f83
      refine ⟨wanted_guard (j := 29) (t := 83) rfl (by kernel_rfl) e83, ?_⟩
      obtain ⟨q0, q1, q2, q3, q4⟩ := (k2.out.kept H0.out).at
      clear hag hdep hb
      unfold Oper.wp
      go_simp
      exact ⟨_, rfl, Below.refl _ _, rfl⟩
    · -- 33: Op.buildSlice 23 3 #[(0, t84), (1, t85), (2, t86)]
      intro a1 w1 hb hag hdep
      have H0 := Hid.of ((Below.refl _ _).drew.trans hb)
      obtain ⟨x84, e84, f84⟩ := hdep 30 84 (by kernel_rfl) (by kernel_rfl)
      obtain rfl : x84 = (agv a) := f84
      obtain ⟨x85, e85, f85⟩ := hdep 31 85 (by kernel_rfl) (by kernel_rfl)
      obtain rfl : x85 = (agv b) := f85
      obtain ⟨x86, e86, f86⟩ := hdep 32 86 (by kernel_rfl) (by kernel_rfl)
      obtain rfl : x86 = (agv c) := f86
      obtain ⟨x83, e83, f83⟩ := hdep 29 83 (by kernel_rfl) (by kernel_rfl)
      obtain rfl : x83 = (.bool true) := f83
      refine ⟨wanted_guard (j := 29) (t := 83) rfl (by kernel_rfl) e83, ?_⟩
      clear hag hdep hb
      unfold Oper.wp
      go_simp
      exact ⟨_, rfl, (Below.refl _ _).alloc (Nat.le_refl _) _, AgRow.made _ _ [a, b, c] _ (by rfl) _ _ _ rfl rfl⟩
    · -- 34: Op.call { value (Operand.func 16), args := #[t87], argTypes := #[23] }
      intro a1 w1 hb hag hdep
      have H0 := Hid.of ((Below.refl _ _).drew.trans hb)
      obtain ⟨x87, e87, f87⟩ := hdep 33 87 (by kernel_rfl) (by kernel_rfl)
      obtain ⟨x83, e83, f83⟩ := hdep 29 83 (by kernel_rfl) (by kernel_rfl)
      obtain rfl : x83 = (.bool true) := f83
      refine ⟨wanted_guard (j := 29) (t := 83) rfl (by kernel_rfl) e83, ?_⟩
      have F87 : AgRow w1 x87 [a, b, c] := f87
      have G87 := Hid.of F87
      obtain ⟨ra, rc, rfl, _⟩ := F87
      clear f87
      clear hag hdep hb
      unfold Oper.wp
      go_simp
      refine (Merge_row _ [a, b, c] y2 Y4.out _ G87.out (IABC.out) (by simp)).mono ?_
      rintro e w2 ⟨rfl, b2⟩
      exact ⟨_, rfl, b2, rfl⟩
    · -- 35: Op.load 27 t7
      intro a1 w1 hb hag hdep
      have H0 := Hid.of ((Below.refl _ _).drew.trans hb)
      have e7 : a1.tmps[7]? = some (.pointer (some ⟨w.heap.size + 1 + 1, 0, none⟩)) := (hag 7 (not_dst (by kernel_rfl))).trans (by rfl)
      obtain ⟨x83, e83, f83⟩ := hdep 29 83 (by kernel_rfl) (by kernel_rfl)
      obtain rfl : x83 = (.bool true) := f83
      refine ⟨wanted_guard (j := 29) (t := 83) rfl (by kernel_rfl) e83, ?_⟩
      obtain ⟨q0, q1, q2, q3, q4⟩ := (k2.out.kept H0.out).at
      clear hag hdep hb
      unfold Oper.wp
      go_simp
      exact ⟨_, rfl, Below.refl _ _, rfl⟩
    · -- 36: Op.load 27 t5
      intro a1 w1 hb hag hdep
      have H0 := Hid.of ((Below.refl _ _).drew.trans hb)
      have e5 : a1.tmps[5]? = some (.pointer (some ⟨w.heap.size, 0, none⟩)) := (hag 5 (not_dst (by kernel_rfl))).trans (by rfl)
      obtain ⟨x83, e83, f83⟩ := hdep 29 83 (by kernel_rfl) (by kernel_rfl)
      obtain rfl : x83 = (.bool true) := f83
      refine ⟨wanted_guard (j := 29) (t := 83) rfl (by kernel_rfl) e83, ?_⟩
      obtain ⟨q0, q1, q2, q3, q4⟩ := (k0.out.kept H0.out).at
      clear hag hdep hb
      unfold Oper.wp
      go_simp
      exact ⟨_, rfl, Below.refl _ _, rfl⟩
    · -- 37: Op.load 27 t6
      intro a1 w1 hb hag hdep
      have H0 := Hid.of ((Below.refl _ _).drew.trans hb)
      have e6 : a1.tmps[6]? = some (.pointer (some ⟨w.heap.size + 1, 0, none⟩)) := (hag 6 (not_dst (by kernel_rfl))).trans (by rfl)
      obtain ⟨x83, e83, f83⟩ := hdep 29 83 (by kernel_rfl) (by kernel_rfl)
      obtain rfl : x83 = (.bool true) := f83
      refine ⟨wanted_guard (j := 29) (t := 83) rfl (by kernel_rfl) e83, ?_⟩
      obtain ⟨q0, q1, q2, q3, q4⟩ := (k1.out.kept H0.out).at
      clear hag hdep hb
      unfold Oper.wp
      go_simp
      exact ⟨_, rfl, Below.refl _ _, rfl⟩
    · -- 38: Op.buildSlice 23 3 #[(0, t89), (1, t90), (2, t91)]
      intro a1 w1 hb hag hdep
      have H0 := Hid.of ((Below.refl _ _).drew.trans hb)
      obtain ⟨x89, e89, f89⟩ := hdep 35 89 (by kernel_rfl) (by kernel_rfl)
      obtain rfl : x89 = (agv c) := f89
      obtain ⟨x90, e90, f90⟩ := hdep 36 90 (by kernel_rfl) (by kernel_rfl)
      obtain rfl : x90 = (agv a) := f90
      obtain ⟨x91, e91, f91⟩ := hdep 37 91 (by kernel_rfl) (by kernel_rfl)
      obtain rfl : x91 = (agv b) := f91
      obtain ⟨x83, e83, f83⟩ := hdep 29 83 (by kernel_rfl) (by kernel_rfl)
      obtain rfl : x83 = (.bool true) := f83
      refine ⟨wanted_guard (j := 29) (t := 83) rfl (by kernel_rfl) e83, ?_⟩
      clear hag hdep hb
      unfold Oper.wp
      go_simp
      exact ⟨_, rfl, (Below.refl _ _).alloc (Nat.le_refl _) _, AgRow.made _ _ [c, a, b] _ (by rfl) _ _ _ rfl rfl⟩
    · -- 39: Op.call { value (Operand.func 16), args := #[t92], argTypes := #[23] }
      intro a1 w1 hb hag hdep
      have H0 := Hid.of ((Below.refl _ _).drew.trans hb)
      obtain ⟨x92, e92, f92⟩ := hdep 38 92 (by kernel_rfl) (by kernel_rfl)
      obtain ⟨x83, e83, f83⟩ := hdep 29 83 (by kernel_rfl) (by kernel_rfl)
      obtain rfl : x83 = (.bool true) := f83
      refine ⟨wanted_guard (j := 29) (t := 83) rfl (by kernel_rfl) e83, ?_⟩
      have F92 : AgRow w1 x92 [c, a, b] := f92
      have G92 := Hid.of F92
      obtain ⟨ra, rc, rfl, _⟩ := F92
      clear f92
      clear hag hdep hb
      unfold Oper.wp
      go_simp
      refine (Merge_row _ [c, a, b] y2 Y4'.out _ G92.out (ICAB.out) (by simp)).mono ?_
      rintro e w2 ⟨rfl, b2⟩
      exact ⟨_, rfl, b2, rfl⟩
    · -- 40: Op.binOp BinOp.eql 27 t88 t93 27
      intro a1 w1 hb hag hdep
      have H0 := Hid.of ((Below.refl _ _).drew.trans hb)
      obtain ⟨x88, e88, f88⟩ := hdep 34 88 (by kernel_rfl) (by kernel_rfl)
      obtain rfl : x88 = (agv y2) := f88
      obtain ⟨x93, e93, f93⟩ := hdep 39 93 (by kernel_rfl) (by kernel_rfl)
      obtain rfl : x93 = (agv y2) := f93
      obtain ⟨x83, e83, f83⟩ := hdep 29 83 (by kernel_rfl) (by kernel_rfl)
      obtain rfl : x83 = (.bool true) := f83
      refine ⟨wanted_guard (j := 29) (t := 83) rfl (by kernel_rfl) e83, ?_⟩
      clear hag hdep hb
      unfold Oper.wp
      go_simp
      exact ⟨_, rfl, Below.refl _ _, rfl⟩
    · -- 41: Op.pick t83 t94 (const (Value.bool false))
      intro a1 w1 hb hag hdep
      have H0 := Hid.of ((Below.refl _ _).drew.trans hb)
      obtain ⟨x83, e83, f83⟩ := hdep 29 83 (by kernel_rfl) (by kernel_rfl)
      obtain rfl : x83 = (.bool true) := f83
      obtain ⟨x94, e94, f94⟩ := hdep 40 94 (by kernel_rfl) (by kernel_rfl)
      obtain rfl : x94 = (.bool true) := f94
      refine ⟨wanted_plain rfl, ?_⟩
      clear hag hdep hb
      unfold Oper.wp
      go_simp
      exact ⟨_, rfl, Below.refl _ _, rfl⟩
    · -- 42: Op.move t95
      intro a1 w1 hb hag hdep
      have H0 := Hid.of ((Below.refl _ _).drew.trans hb)
      obtain ⟨x95, e95, f95⟩ := hdep 41 95 (by kernel_rfl) (by kernel_rfl)
      obtain rfl : x95 = (.bool true) := f95
      refine ⟨wanted_plain rfl, ?_⟩
      clear hag hdep hb
      unfold Oper.wp
      go_simp
      exact ⟨_, rfl, Below.refl _ _, rfl⟩
    · -- 43: Op.load 27 t5
      intro a1 w1 hb hag hdep
      have H0 := Hid.of ((Below.refl _ _).drew.trans hb)
      have e5 : a1.tmps[5]? = some (.pointer (some ⟨w.heap.size, 0, none⟩)) := (hag 5 (not_dst (by kernel_rfl))).trans (by rfl)
      obtain ⟨x96, e96, f96⟩ := hdep 42 96 (by kernel_rfl) (by kernel_rfl)
      obtain rfl : x96 = (.bool true) := f96
      refine ⟨wanted_guard (j := 42) (t := 96) rfl (by kernel_rfl) e96, ?_⟩
      obtain ⟨q0, q1, q2, q3, q4⟩ := (k0.out.kept H0.out).at
      clear hag hdep hb
      unfold Oper.wp
      go_simp
      exact ⟨_, rfl, Below.refl _ _, rfl⟩
    · -- 44: Op.build 27 #[]
      intro a1 w1 hb hag hdep
      have H0 := Hid.of ((Below.refl _ _).drew.trans hb)
      obtain ⟨x96, e96, f96⟩ := hdep 42 96 (by kernel_rfl) (by kernel_rfl)
      obtain rfl : x96 = (.bool true) := f96
      refine ⟨wanted_guard (j := 42) (t := 96) rfl (by kernel_rfl) e96, ?_⟩
      clear hag hdep hb
      unfold Oper.wp
      go_simp
      exact ⟨_, rfl, Below.refl _ _, rfl⟩
    · -- 45: Op.buildSlice 23 2 #[(0, t97), (1, t98)]
      intro a1 w1 hb hag hdep
      have H0 := Hid.of ((Below.refl _ _).drew.trans hb)
      obtain ⟨x97, e97, f97⟩ := hdep 43 97 (by kernel_rfl) (by kernel_rfl)
      obtain rfl : x97 = (agv a) := f97
      obtain ⟨x98, e98, f98⟩ := hdep 44 98 (by kernel_rfl) (by kernel_rfl)
      obtain rfl : x98 = (agv agZero) := f98
      obtain ⟨x96, e96, f96⟩ := hdep 42 96 (by kernel_rfl) (by kernel_rfl)
      obtain rfl : x96 = (.bool true) := f96
      refine ⟨wanted_guard (j := 42) (t := 96) rfl (by kernel_rfl) e96, ?_⟩
      clear hag hdep hb
      unfold Oper.wp
      go_simp
      exact ⟨_, rfl, (Below.refl _ _).alloc (Nat.le_refl _) _, AgRow.made _ _ [a, agZero] _ (by rfl) _ _ _ rfl rfl⟩
    · -- 46: Op.call { value (Operand.func 16), args := #[t99], argTypes := #[23] }
      intro a1 w1 hb hag hdep
      have H0 := Hid.of ((Below.refl _ _).drew.trans hb)
      obtain ⟨x99, e99, f99⟩ := hdep 45 99 (by kernel_rfl) (by kernel_rfl)
      obtain ⟨x96, e96, f96⟩ := hdep 42 96 (by kernel_rfl) (by kernel_rfl)
      obtain rfl : x96 = (.bool true) := f96
      refine ⟨wanted_guard (j := 42) (t := 96) rfl (by kernel_rfl) e96, ?_⟩
      have F99 : AgRow w1 x99 [a, agZero] := f99
      have G99 := Hid.of F99
      obtain ⟨ra, rc, rfl, _⟩ := F99
      clear f99
      clear hag hdep hb
      unfold Oper.wp
      go_simp
      refine (Merge_row _ [a, agZero] a Y5.out _ G99.out (IAZ.out) (by simp)).mono ?_
      rintro e w2 ⟨rfl, b2⟩
      exact ⟨_, rfl, b2, rfl⟩
    · -- 47: Op.load 27 t5
      intro a1 w1 hb hag hdep
      have H0 := Hid.of ((Below.refl _ _).drew.trans hb)
      have e5 : a1.tmps[5]? = some (.pointer (some ⟨w.heap.size, 0, none⟩)) := (hag 5 (not_dst (by kernel_rfl))).trans (by rfl)
      obtain ⟨x96, e96, f96⟩ := hdep 42 96 (by kernel_rfl) (by kernel_rfl)
      obtain rfl : x96 = (.bool true) := f96
      refine ⟨wanted_guard (j := 42) (t := 96) rfl (by kernel_rfl) e96, ?_⟩
      obtain ⟨q0, q1, q2, q3, q4⟩ := (k0.out.kept H0.out).at
      clear hag hdep hb
      unfold Oper.wp
      go_simp
      exact ⟨_, rfl, Below.refl _ _, rfl⟩
    · -- 48: Op.binOp BinOp.eql 27 t100 t101 27
      intro a1 w1 hb hag hdep
      have H0 := Hid.of ((Below.refl _ _).drew.trans hb)
      obtain ⟨x100, e100, f100⟩ := hdep 46 100 (by kernel_rfl) (by kernel_rfl)
      obtain rfl : x100 = (agv a) := f100
      obtain ⟨x101, e101, f101⟩ := hdep 47 101 (by kernel_rfl) (by kernel_rfl)
      obtain rfl : x101 = (agv a) := f101
      obtain ⟨x96, e96, f96⟩ := hdep 42 96 (by kernel_rfl) (by kernel_rfl)
      obtain rfl : x96 = (.bool true) := f96
      refine ⟨wanted_guard (j := 42) (t := 96) rfl (by kernel_rfl) e96, ?_⟩
      clear hag hdep hb
      unfold Oper.wp
      go_simp
      exact ⟨_, rfl, Below.refl _ _, rfl⟩
    · -- 49: Op.pick t96 t102 (const (Value.bool false))
      intro a1 w1 hb hag hdep
      have H0 := Hid.of ((Below.refl _ _).drew.trans hb)
      obtain ⟨x96, e96, f96⟩ := hdep 42 96 (by kernel_rfl) (by kernel_rfl)
      obtain rfl : x96 = (.bool true) := f96
      obtain ⟨x102, e102, f102⟩ := hdep 48 102 (by kernel_rfl) (by kernel_rfl)
      obtain rfl : x102 = (.bool true) := f102
      refine ⟨wanted_plain rfl, ?_⟩
      clear hag hdep hb
      unfold Oper.wp
      go_simp
      exact ⟨_, rfl, Below.refl _ _, rfl⟩
    · -- 50: Op.move t103
      intro a1 w1 hb hag hdep
      have H0 := Hid.of ((Below.refl _ _).drew.trans hb)
      obtain ⟨x103, e103, f103⟩ := hdep 49 103 (by kernel_rfl) (by kernel_rfl)
      obtain rfl : x103 = (.bool true) := f103
      refine ⟨wanted_plain rfl, ?_⟩
      clear hag hdep hb
      unfold Oper.wp
      go_simp
      exact ⟨_, rfl, Below.refl _ _, rfl⟩
    · -- 51: Op.move t3
      intro a1 w1 hb hag hdep
      have H0 := Hid.of ((Below.refl _ _).drew.trans hb)
      have e3 : a1.tmps[3]? = some (.slice sa xs.length cp) := (hag 3 (not_dst (by kernel_rfl))).trans (by rfl)
      obtain ⟨x104, e104, f104⟩ := hdep 50 104 (by kernel_rfl) (by kernel_rfl)
      obtain rfl : x104 = (.bool true) := f104
      refine ⟨wanted_guard (j := 50) (t := 104) rfl (by kernel_rfl) e104, ?_⟩
      clear hag hdep hb
      unfold Oper.wp
      go_simp
      exact ⟨_, rfl, Below.refl _ _, rfl⟩
    · -- 52: Op.move t4
      intro a1 w1 hb hag hdep
      have H0 := Hid.of ((Below.refl _ _).drew.trans hb)
      have e4 : a1.tmps[4]? = some (.int .i64 cut) := (hag 4 (not_dst (by kernel_rfl))).trans (by rfl)
      obtain ⟨x104, e104, f104⟩ := hdep 50 104 (by kernel_rfl) (by kernel_rfl)
      obtain rfl : x104 = (.bool true) := f104
      refine ⟨wanted_guard (j := 50) (t := 104) rfl (by kernel_rfl) e104, ?_⟩
      clear hag hdep hb
      unfold Oper.wp
      go_simp
      exact ⟨_, rfl, Below.refl _ _, rfl⟩
    · -- 53: Op.slice 22 t105 none (some t106) none
      intro a1 w1 hb hag hdep
      have H0 := Hid.of ((Below.refl _ _).drew.trans hb)
      obtain ⟨x105, e105, f105⟩ := hdep 51 105 (by kernel_rfl) (by kernel_rfl)
      obtain rfl : x105 = (.slice sa xs.length cp) := f105
      obtain ⟨x106, e106, f106⟩ := hdep 52 106 (by kernel_rfl) (by kernel_rfl)
      obtain rfl : x106 = (.int .i64 cut) := f106
      obtain ⟨x104, e104, f104⟩ := hdep 50 104 (by kernel_rfl) (by kernel_rfl)
      obtain rfl : x104 = (.bool true) := f104
      refine ⟨wanted_guard (j := 50) (t := 104) rfl (by kernel_rfl) e104, ?_⟩
      have cc := CAP.out
      have NW := Hid.of (NV.out.kept (b0.out.trans (H0.out.mono b0.out.size)))
      clear hag hdep hb
      unfold Oper.wp
      go_simp
      exact ⟨_, rfl, Below.refl _ _, num_take NW.out CUT.out⟩
    · -- 54: Op.call { value (Operand.func 15), args := #[t107], argTypes := #[22] }
      intro a1 w1 hb hag hdep
      have H0 := Hid.of ((Below.refl _ _).drew.trans hb)
      obtain ⟨x107, e107, f107⟩ := hdep 53 107 (by kernel_rfl) (by kernel_rfl)
      obtain ⟨x104, e104, f104⟩ := hdep 50 104 (by kernel_rfl) (by kernel_rfl)
      obtain rfl : x104 = (.bool true) := f104
      refine ⟨wanted_guard (j := 50) (t := 104) rfl (by kernel_rfl) e104, ?_⟩
      have G107 : Hid (NumRow .i64 w1 x107 (xs.take cut)) := Hid.of f107
      obtain ⟨ra, rn, rc, rfl⟩ := G107.out.slice
      clear f107
      clear hag hdep hb
      unfold Oper.wp
      go_simp
      refine (Of_row _ (xs.take cut) z1 Z1.out _ G107.out L1.out N1.out).mono ?_
      rintro e w2 ⟨rfl, b2⟩
      exact ⟨_, rfl, b2, rfl⟩
    · -- 55: Op.move t3
      intro a1 w1 hb hag hdep
      have H0 := Hid.of ((Below.refl _ _).drew.trans hb)
      have e3 : a1.tmps[3]? = some (.slice sa xs.length cp) := (hag 3 (not_dst (by kernel_rfl))).trans (by rfl)
      obtain ⟨x104, e104, f104⟩ := hdep 50 104 (by kernel_rfl) (by kernel_rfl)
      obtain rfl : x104 = (.bool true) := f104
      refine ⟨wanted_guard (j := 50) (t := 104) rfl (by kernel_rfl) e104, ?_⟩
      clear hag hdep hb
      unfold Oper.wp
      go_simp
      exact ⟨_, rfl, Below.refl _ _, rfl⟩
    · -- 56: Op.move t4
      intro a1 w1 hb hag hdep
      have H0 := Hid.of ((Below.refl _ _).drew.trans hb)
      have e4 : a1.tmps[4]? = some (.int .i64 cut) := (hag 4 (not_dst (by kernel_rfl))).trans (by rfl)
      obtain ⟨x104, e104, f104⟩ := hdep 50 104 (by kernel_rfl) (by kernel_rfl)
      obtain rfl : x104 = (.bool true) := f104
      refine ⟨wanted_guard (j := 50) (t := 104) rfl (by kernel_rfl) e104, ?_⟩
      clear hag hdep hb
      unfold Oper.wp
      go_simp
      exact ⟨_, rfl, Below.refl _ _, rfl⟩
    · -- 57: Op.slice 22 t109 (some t110) none none
      intro a1 w1 hb hag hdep
      have H0 := Hid.of ((Below.refl _ _).drew.trans hb)
      obtain ⟨x109, e109, f109⟩ := hdep 55 109 (by kernel_rfl) (by kernel_rfl)
      obtain rfl : x109 = (.slice sa xs.length cp) := f109
      obtain ⟨x110, e110, f110⟩ := hdep 56 110 (by kernel_rfl) (by kernel_rfl)
      obtain rfl : x110 = (.int .i64 cut) := f110
      obtain ⟨x104, e104, f104⟩ := hdep 50 104 (by kernel_rfl) (by kernel_rfl)
      obtain rfl : x104 = (.bool true) := f104
      refine ⟨wanted_guard (j := 50) (t := 104) rfl (by kernel_rfl) e104, ?_⟩
      have NW := Hid.of (NV.out.kept (b0.out.trans (H0.out.mono b0.out.size)))
      clear hag hdep hb
      unfold Oper.wp
      go_simp
      exact ⟨_, rfl, Below.refl _ _, num_drop NW.out CUT.out LEN.out⟩
    · -- 58: Op.call { value (Operand.func 15), args := #[t111], argTypes := #[22] }
      intro a1 w1 hb hag hdep
      have H0 := Hid.of ((Below.refl _ _).drew.trans hb)
      obtain ⟨x111, e111, f111⟩ := hdep 57 111 (by kernel_rfl) (by kernel_rfl)
      obtain ⟨x104, e104, f104⟩ := hdep 50 104 (by kernel_rfl) (by kernel_rfl)
      obtain rfl : x104 = (.bool true) := f104
      refine ⟨wanted_guard (j := 50) (t := 104) rfl (by kernel_rfl) e104, ?_⟩
      have G111 : Hid (NumRow .i64 w1 x111 (xs.drop cut)) := Hid.of f111
      obtain ⟨ra, rn, rc, rfl⟩ := G111.out.slice
      clear f111
      clear hag hdep hb
      unfold Oper.wp
      go_simp
      refine (Of_row _ (xs.drop cut) z2 Z2.out _ G111.out L2.out N2.out).mono ?_
      rintro e w2 ⟨rfl, b2⟩
      exact ⟨_, rfl, b2, rfl⟩
    · -- 59: Op.buildSlice 23 2 #[(0, t108), (1, t112)]
      intro a1 w1 hb hag hdep
      have H0 := Hid.of ((Below.refl _ _).drew.trans hb)
      obtain ⟨x108, e108, f108⟩ := hdep 54 108 (by kernel_rfl) (by kernel_rfl)
      obtain rfl : x108 = (agv z1) := f108
      obtain ⟨x112, e112, f112⟩ := hdep 58 112 (by kernel_rfl) (by kernel_rfl)
      obtain rfl : x112 = (agv z2) := f112
      obtain ⟨x104, e104, f104⟩ := hdep 50 104 (by kernel_rfl) (by kernel_rfl)
      obtain rfl : x104 = (.bool true) := f104
      refine ⟨wanted_guard (j := 50) (t := 104) rfl (by kernel_rfl) e104, ?_⟩
      clear hag hdep hb
      unfold Oper.wp
      go_simp
      exact ⟨_, rfl, (Below.refl _ _).alloc (Nat.le_refl _) _, AgRow.made _ _ [z1, z2] _ (by rfl) _ _ _ rfl rfl⟩
    · -- 60: Op.call { value (Operand.func 16), args := #[t113], argTypes := #[23] }
      intro a1 w1 hb hag hdep
      have H0 := Hid.of ((Below.refl _ _).drew.trans hb)
      obtain ⟨x113, e113, f113⟩ := hdep 59 113 (by kernel_rfl) (by kernel_rfl)
      obtain ⟨x104, e104, f104⟩ := hdep 50 104 (by kernel_rfl) (by kernel_rfl)
      obtain rfl : x104 = (.bool true) := f104
      refine ⟨wanted_guard (j := 50) (t := 104) rfl (by kernel_rfl) e104, ?_⟩
      have F113 : AgRow w1 x113 [z1, z2] := f113
      have G113 := Hid.of F113
      obtain ⟨ra, rc, rfl, _⟩ := F113
      clear f113
      clear hag hdep hb
      unfold Oper.wp
      go_simp
      refine (Merge_row _ [z1, z2] z3 Z4.out _ G113.out (IZZ.out) (by simp)).mono ?_
      rintro e w2 ⟨rfl, b2⟩
      exact ⟨_, rfl, b2, rfl⟩
    · -- 61: Op.move t3
      intro a1 w1 hb hag hdep
      have H0 := Hid.of ((Below.refl _ _).drew.trans hb)
      have e3 : a1.tmps[3]? = some (.slice sa xs.length cp) := (hag 3 (not_dst (by kernel_rfl))).trans (by rfl)
      obtain ⟨x104, e104, f104⟩ := hdep 50 104 (by kernel_rfl) (by kernel_rfl)
      obtain rfl : x104 = (.bool true) := f104
      refine ⟨wanted_guard (j := 50) (t := 104) rfl (by kernel_rfl) e104, ?_⟩
      clear hag hdep hb
      unfold Oper.wp
      go_simp
      exact ⟨_, rfl, Below.refl _ _, rfl⟩
    · -- 62: Op.call { value (Operand.func 15), args := #[t115], argTypes := #[22] }
      intro a1 w1 hb hag hdep
      have H0 := Hid.of ((Below.refl _ _).drew.trans hb)
      obtain ⟨x115, e115, f115⟩ := hdep 61 115 (by kernel_rfl) (by kernel_rfl)
      obtain rfl : x115 = (.slice sa xs.length cp) := f115
      obtain ⟨x104, e104, f104⟩ := hdep 50 104 (by kernel_rfl) (by kernel_rfl)
      obtain rfl : x104 = (.bool true) := f104
      refine ⟨wanted_guard (j := 50) (t := 104) rfl (by kernel_rfl) e104, ?_⟩
      clear hag hdep hb
      unfold Oper.wp
      go_simp
      refine (Of_row _ xs z3 Z3.out _ (NV.out.kept (b0.out.trans (H0.out.mono b0.out.size))) HL.out (by omega)).mono ?_
      rintro e w2 ⟨rfl, b2⟩
      exact ⟨_, rfl, b2, rfl⟩
    · -- 63: Op.binOp BinOp.eql 27 t114 t116 27
      intro a1 w1 hb hag hdep
      have H0 := Hid.of ((Below.refl _ _).drew.trans hb)
      obtain ⟨x114, e114, f114⟩ := hdep 60 114 (by kernel_rfl) (by kernel_rfl)
      obtain rfl : x114 = (agv z3) := f114
      obtain ⟨x116, e116, f116⟩ := hdep 62 116 (by kernel_rfl) (by kernel_rfl)
      obtain rfl : x116 = (agv z3) := f116
      obtain ⟨x104, e104, f104⟩ := hdep 50 104 (by kernel_rfl) (by kernel_rfl)
      obtain rfl : x104 = (.bool true) := f104
      refine ⟨wanted_guard (j := 50) (t := 104) rfl (by kernel_rfl) e104, ?_⟩
      clear hag hdep hb
      unfold Oper.wp
      go_simp
      exact ⟨_, rfl, Below.refl _ _, rfl⟩
    · -- 64: Op.pick t104 t117 (const (Value.bool false))
      intro a1 w1 hb hag hdep
      have H0 := Hid.of ((Below.refl _ _).drew.trans hb)
      obtain ⟨x104, e104, f104⟩ := hdep 50 104 (by kernel_rfl) (by kernel_rfl)
      obtain rfl : x104 = (.bool true) := f104
      obtain ⟨x117, e117, f117⟩ := hdep 63 117 (by kernel_rfl) (by kernel_rfl)
      obtain rfl : x117 = (.bool true) := f117
      refine ⟨wanted_plain rfl, ?_⟩
      clear hag hdep hb
      unfold Oper.wp
      go_simp
      exact ⟨_, rfl, Below.refl _ _, rfl⟩
    · -- 65: Op.assign t118
      intro a1 w1 hb hag hdep
      have H0 := Hid.of ((Below.refl _ _).drew.trans hb)
      obtain ⟨x118, e118, f118⟩ := hdep 64 118 (by kernel_rfl) (by kernel_rfl)
      obtain rfl : x118 = (.bool true) := f118
      refine ⟨wanted_plain rfl, ?_⟩
      clear hag hdep hb
      unfold Oper.wp
      go_simp
      exact ⟨_, rfl, Below.refl _ _, rfl⟩
    rintro a' w' ⟨f1, f2, f3, f4, f5⟩
    obtain ⟨x10, e10, f10⟩ := f5 65 10 (by kernel_rfl) (by kernel_rfl)
    obtain rfl : x10 = (.bool true) := f10
    have FB := Hid.of (b0.out.trans (((Below.refl _ _).drew.trans f1).mono b0.out.size))
    have f2' : a'.defers = [] := f2.trans rfl
    clear f1 f3 f4 f5
    go_wp2
    refine bodyPost_ret (v := .bool true) ?_ f2' ⟨rfl, FB.out⟩
    simp [results, Try.results4, go_sem, e10]

end Go.Proofs.Ytfoffoiimlgoeaa
