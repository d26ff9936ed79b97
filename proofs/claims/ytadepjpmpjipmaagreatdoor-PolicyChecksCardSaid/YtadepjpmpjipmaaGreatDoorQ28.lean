/-
  A bundle of texts: PEU PEV PEW PEY PEZ.
-/
import Derived.Deep.DeepCutAuto
import Derived.Test.YtadepjpmpjipmaaGreatDoorQ27
import Derived.Test.YtadepjpmpjipmaaGreatDoorQ23
import Derived.Test.YtadepjpmpjipmaaGreatDoorQ24
/-
  The landed package policy: readTiers.
-/
namespace Go.Proofs.YtadepjpmpjipmaaGreatDoor
open Go.RowKit Go.Lib

theorem pTiers_nil (m : Nat) (d : List TierL) : pTiers m [] d = .inl d := by cases m <;> rfl

theorem pTiers_cons (m : Nat) (x : WdL) (r : List WdL) (d : List TierL) : pTiers (m + 1) (x :: r) d = match tierRes (lineOf (x :: r)) with
    | none => .inr x.2.1
    | some t => if 5 ≤ d.length then .inr x.2.1 else pTiers m ((x :: r).drop (wLine (x :: r))) (d ++ [t]) := by
  rw [pTiers, texts_line, tierRes_of]
  cases tierRes (lineOf (x :: r)) <;> rfl

theorem wline_pos (x : WdL) (r : List WdL) : 1 ≤ wLine (x :: r) := wLine_one x r

theorem RL.grow {S : WordSpec} {w0 w w' : World} {p : Nat} {l : List WdL} {F F' : Nat → Prop} {row : Option Nat} (h : RL S w0 p l F F' w) (g : w.grownBy w' row) (hb : ∀ k, row = some k → w0.heap.size ≤ k) : RL S w0 p l F F' w' := by
  cases row with
  | none => exact h.next (below_of_none g)
  | some b => exact h.put g (hb b rfl)

/-- Behind some lines: those words ws are left, the tiers d have been read, the next word lies at b. -/
structure TInv (S : WordSpec) (w0 : World) (p : Nat) (l : List WdL) (F F' : Nat → Prop) (ws : List WdL) (d : List TierL) (m b : Nat) (lv : Value) (w : World) : Prop where
  rl : RL S w0 p ws F F' w
  blk : Blk w b 118 (wdRow (wHead ws).1)
  own : w.ownsRow w0.heap.size 49 4 lv d.length (flat penc d)
  few : d.length ≤ 5
  len : ws.length ≤ m
  eq : pTiers l.length l [] = pTiers m ws d
  sub : ∀ x ∈ ws, x ∈ l
  hb : w0.heap.size ≤ b
  off : ∀ g, lv.ownBlock = some g → g ≠ b
  small : ws.length ≤ 4000

section
variable {S : WordSpec} {w0 w w' : World} {p m b : Nat} {l ws : List WdL} {F F' : Nat → Prop} {d : List TierL} {lv : Value}

theorem TInv.next (h : TInv S w0 p l F F' ws d m b lv w) (k : Below w.heap.size w w') : TInv S w0 p l F F' ws d m b lv w' :=
  ⟨h.rl.next k, h.blk.kept (k.block _ h.blk.lt), (Step.of_below (F := fun _ => False) k).own h.own (fun _ _ c => c), h.few, h.len, h.eq, h.sub, h.hb, h.off, h.small⟩
end

/-- What readTiers answers. -/
def TiersEnd (l : List WdL) (w : World) (e : Ending) (w' : World) : Prop := match pTiers l.length l [] with
  | .inl d => ∃ u, e = .returned (.tuple #[u, .int .i64 0]) ∧ w'.ownsRow w.heap.size 49 4 u d.length (flat penc d)
  | .inr k => e = .returned (.tuple #[.slice none 0 0, .int .i64 k])

theorem tier_cells (w : World) (x : TierL) : Cells (w.alloc (.cells #[.string x.1, .int .i64 x.2.1, .int .i64 x.2.2.1, .int .i64 x.2.2.2] 49)) w.heap.size 0 (penc x) := by
  intro j u hj
  rw [Nat.zero_add, World.cell?_alloc_new]
  simpa [penc] using hj

set_option maxRecDepth 20000 in
set_option maxHeartbeats 3200000 in
theorem readTiers_any (S : WordSpec) {w : World} {p : Nat} {l : List WdL} {F : Nat → Prop} (hR : S.Rep w p l F) (hl : l.length ≤ 4000) (hz : ∀ x ∈ l, x.1.size ≤ 4000) (hN : ∀ F' w', Step F F' w w' → Nums w') (hu : ∀ w p l F l' F', S.Rep w p l F → S.Rep w p l' F' → l = l') :
    Calls Tryz.prog 94 #[wptr p] w fun e w' => (∃ F', Step F F' w w') ∧ TiersEnd l w e w' := by
  obtain ⟨μ, hμ⟩ : ∃ μ : World → Nat, ∀ w l F, S.Rep w p l F → μ w = l.length := by
    classical
    refine ⟨fun w => if h : ∃ l F, S.Rep w p l F then h.choose.length else 0, fun w l F h => ?_⟩
    have hex : ∃ l F, S.Rep w p l F := ⟨l, F, h⟩
    show (if h : ∃ l F, S.Rep w p l F then h.choose.length else 0) = l.length
    rw [dif_pos hex]
    obtain ⟨F', h'⟩ := hex.choose_spec
    rw [hu _ _ _ _ _ _ h' h]
  have MU := Hid.of hμ
  have HR := Hid.of (RL.start hR)
  have HL := Hid.of hl
  have HZ := Hid.of hz
  have HN := Hid.of hN
  obtain ⟨i0, hi, hz0, hz1, hz2⟩ := info_parts (show (Tryz.prog.info? 49).map (fun i => (i.zero, i.size, i.bytes)) = some (some (.agg #[.string ⟨#[]⟩, .int .i64 0, .int .i64 0, .int .i64 0]), 4, 40) by kernel_rfl)
  have HI := Hid.of hi
  have HZ0 := Hid.of hz0
  have HZ1 := Hid.of hz1
  have HZ2 := Hid.of hz2
  obtain ⟨s0, ln0, col0, b0, hx⟩ : ∃ s ln col b, wHead l = ((s, ln, col), b) := ⟨_, _, _, _, rfl⟩
  have HX := Hid.of hx
  clear hR hl hz hN hu hμ hi hz0 hz1 hz2 hx
  go_enter Tryz.func94, Tryz.ntmps94
  go_wp2_with fail
  refine (S.peek HR.out.rep HL.out).mono ?_
  rintro e w2 ⟨he, b2⟩
  rw [HX.out] at he
  simp only [wdVal] at he
  subst he
  have B2 := Hid.of b2
  clear b2
  have I0 : Hid (TInv S w p l F F l [] l.length w2.heap.size (.slice none 0 0) (w2.alloc (.cells #[.string s0, .int .i64 ln0, .int .i64 col0] 118))) := Hid.of (by
    have b3 : Below w.heap.size w (w2.alloc (.cells #[.string s0, .int .i64 ln0, .int .i64 col0] 118)) := B2.out.alloc B2.out.size _
    exact ⟨HR.out.next b3, by rw [HX.out]; exact BlkW.made w2 s0 ln0 col0, World.ownsRow_nil _ _ _ 4, Nat.zero_le _, Nat.le_refl _, rfl, fun _ h => h, B2.out.size, (fun g hg => by simp [Value.ownBlock] at hg), HL.out⟩)
  have HX2 : Hid (b0 = (wHead l).2) := Hid.of (by rw [HX.out])
  clear B2
  go_wp2_with fail
  go_loopw [4, 5, 6] (fun lv pv bv wr => ∃ (ws : List WdL) (d : List TierL) (m b : Nat) (F' : Nat → Prop), pv = .pointer (some ⟨b, 0, none⟩) ∧ bv = .bool (wHead ws).2 ∧ Hid (TInv S w p l F F' ws d m b lv wr)) (fun _ _ _ wr => μ wr)
  case atStart => exact ⟨l, [], _, _, F, rfl, by rw [HX2.out], I0⟩
  case round =>
    clear I0 HX HX2
    obtain ⟨ws, d, m, b, F', rfl, hb, I⟩ := hrel
    cases ws with
    | nil =>
      simp only [wHead] at hb
      subst hb
      have HE : Hid (pTiers l.length l [] = .inl d) := Hid.of (by rw [I.out.eq, pTiers_nil])
      go_wp2
      go_ret2
      refine ⟨⟨_, I.out.rl.st⟩, ?_⟩
      unfold TiersEnd
      rw [HE.out]
      exact ⟨_, rfl, I.out.own⟩
    | cons x r =>
      obtain ⟨xs, xl, xc⟩ := x
      simp only [wHead] at hb
      subst hb
      obtain ⟨m, rfl⟩ : ∃ k, m = k + 1 := ⟨m - 1, by have := I.out.len; simp at this; omega⟩
      have EQ := Hid.of (I.out.eq.trans (pTiers_cons m (xs, xl, xc) r d))
      have SM := Hid.of I.out.small
      have SZ : Hid (∀ x ∈ (xs, xl, xc) :: r, x.1.size ≤ 4000) := Hid.of (fun y hy => HZ.out y (I.out.sub y hy))
      have D5 := Hid.of I.out.few
      go_wp2_with fail
      refine (readTier_any S I.out.rl.rep SM.out SZ.out (fun F'' w'' st => HN.out _ _ (I.out.rl.st.trans st))).mono ?_
      rintro e w3 ⟨⟨F3, rl3⟩, he⟩
      have SW := Hid.of I.out.rl.st.size
      have R3 := Hid.of (I.out.rl.line rl3.rep rl3.st rl3.sub)
      have NB := Hid.of (I.out.rl.off I.out.hb)
      have Q3 := Hid.of (show Blk w3 b 118 (wdRow (xs, xl, xc)) from I.out.blk.kept (rl3.st.block _ I.out.blk.lt NB.out))
      have O3 := Hid.of (rl3.st.own I.out.own (fun g hg => I.out.rl.off (own_ge I.out.own hg)))
      have OFF := Hid.of I.out.off
      have HB := Hid.of I.out.hb
      have MU0 : Hid (μ wr = r.length + 1) := Hid.of (MU.out _ _ _ I.out.rl.rep)
      have HSUB := Hid.of I.out.sub
      have HLE := Hid.of I.out.len
      clear rl3 I
      cases ht : tierRes (lineOf ((xs, xl, xc) :: r)) with
      | none =>
        rw [ht] at he
        simp only [Option.getD_none, Option.isSome_none, tierVal, tierZero] at he
        subst he
        have HE : Hid (pTiers l.length l [] = .inr xl) := Hid.of (by rw [EQ.out, ht])
        obtain ⟨wa, hwa⟩ : ∃ wa, w3.alloc (.cells #[.string ⟨#[]⟩, .int .i64 0, .int .i64 0, .int .i64 0] 49) = wa := ⟨_, rfl⟩
        have RA : Hid (RL S w p _ F F3 wa) := Hid.of (by rw [← hwa]; exact R3.out.next ((Below.refl _ _).alloc (Nat.le_refl _) _))
        have c1 : wa.cell? ⟨b, 1, none⟩ = some (.int .i64 xl) := by
          rw [← hwa]
          exact Lib.cell?_alloc_some _ (Q3.out.cell 1 _ rfl)
        have HWA := Hid.of hwa
        clear ht hwa
        go_upto_region 6 with fail
        rw [HWA.out]
        clear HWA
        go_wp2_with fail
        go_quiet (fail)
        go_wp2
        go_ret2
        refine ⟨⟨_, (RA.out.next (below_drewN (Below.refl _ _) _)).st⟩, ?_⟩
        unfold TiersEnd
        rw [HE.out]
        rfl
      | some t =>
        rw [ht] at he
        simp only [Option.getD_some, Option.isSome_some, tierVal] at he
        subst he
        obtain ⟨wa, hwa⟩ : ∃ wa, w3.alloc (.cells #[.string t.1, .int .i64 t.2.1, .int .i64 t.2.2.1, .int .i64 t.2.2.2] 49) = wa := ⟨_, rfl⟩
        have RA : Hid (RL S w p _ F F3 wa) := Hid.of (by rw [← hwa]; exact R3.out.next ((Below.refl _ _).alloc (Nat.le_refl _) _))
        have QA : Hid (Blk wa b 118 (wdRow (xs, xl, xc))) := Hid.of (by rw [← hwa]; exact row_alloc Q3.out)
        have OA : Hid (wa.ownsRow w.heap.size 49 4 u4 d.length (flat penc d)) := Hid.of (by rw [← hwa]; exact O3.out.alloc _)
        have TA : Hid (TBlk wa w3.heap.size t) := Hid.of (by rw [← hwa]; exact TBlk.made w3 t)
        have HWA := Hid.of hwa
        by_cases h5 : d.length = 5
        · have i5 : ((d.length : Int) == 5) = true := by simp [h5]
          have HE : Hid (pTiers l.length l [] = .inr xl) := Hid.of (by rw [EQ.out, ht]; exact if_pos (by omega))
          have c1 : wa.cell? ⟨b, 1, none⟩ = some (.int .i64 xl) := QA.out.cell 1 _ rfl
          obtain ⟨ua, uc, rfl, -⟩ := own_one OA.out
          clear ht hwa h5
          go_upto_region 6 with fail
          rw [HWA.out]
          clear HWA
          go_wp2_with fail
          go_quiet (fail)
          go_wp2
          go_ret2
          refine ⟨⟨_, (RA.out.next (below_drewN (Below.refl _ _) _)).st⟩, ?_⟩
          unfold TiersEnd
          rw [HE.out]
          rfl
        · have i5 : ((d.length : Int) == 5) = false := by simp; omega
          have HE : Hid (pTiers l.length l [] = pTiers m (((xs, xl, xc) :: r).drop (wLine ((xs, xl, xc) :: r))) (d ++ [t])) := Hid.of (by rw [EQ.out, ht]; exact if_neg (by have := D5.out; omega))
          obtain ⟨c0, c1, c2, c3⟩ := TA.out.at
          obtain ⟨ua, uc, rfl, -⟩ := own_one OA.out
          have D6 : Hid (d.length < 5) := Hid.of (by have := D5.out; omega)
          have d9 : (d.length : Int) ≤ 5 := by have := D5.out; omega
          clear ht hwa h5
          go_upto_region 6 with fail
          rw [HWA.out]
          clear HWA
          generalize w3.heap.size = tb at *
          go_wp2_with (at_builtin; refine append_row_law rfl _ _ 22 rfl w.heap.size 49 i0 (.agg #[.string ⟨#[]⟩, .int .i64 0, .int .i64 0, .int .i64 0]) 4 40 Tryz.underlying22 HI.out HZ0.out HZ1.out HZ2.out rfl (by decide) _ d.length _ rfl (OA.out.alloc _) (.slice (some ⟨wa.heap.size, 0, none⟩) 1 1) 1 (penc t) rfl ⟨_, _, rfl, .inr ⟨_, 0, rfl, by simp, tier_cells wa t⟩⟩ rfl (penc_one t) (by have := D5.out; unfold maxLen; omega) (by have := D5.out; omega) (by simp; have := RA.out.st.size; omega) ?_; intro v5 w5 o5 g5; have O5 : Hid (w5.ownsRow w.heap.size 49 4 v5 (d ++ [t]).length (flat penc (d ++ [t]))) := Hid.of (by rw [flat_append, flat_one, List.length_append]; exact o5); have R5 := Hid.of (RA.out.grow (grown_alloc g5) (fun k hk => own_ge OA.out hk)); have Q5 := Hid.of (QA.out.kept ((grown_alloc g5).block _ QA.out.lt (fun e => OFF.out b e.symm rfl))); have d0 := Q5.out.cell 0 _ rfl; have d1 := Q5.out.cell 1 _ rfl; have d2 := Q5.out.cell 2 _ rfl; simp only at d0 d1 d2; clear o5 g5 c0 c1 c2 c3)
          obtain ⟨ws2, hws⟩ : ∃ ws2, ((xs, xl, xc) :: r).drop (wLine ((xs, xl, xc) :: r)) = ws2 := ⟨_, rfl⟩
          have W2 : Hid (ws2.length ≤ r.length ∧ ∀ x ∈ ws2, x ∈ l) := Hid.of (by
            rw [← hws]
            refine ⟨?_, fun y hy => HSUB.out y (List.mem_of_mem_drop hy)⟩
            rw [List.length_drop, List.length_cons]
            have := wline_pos (xs, xl, xc) r
            omega)
          rw [hws] at R5 HE
          have SM2 : Hid (ws2.length ≤ 4000) := Hid.of (by have := SM.out; rw [List.length_cons] at this; have := W2.out.1; omega)
          have Q6 := Hid.of (BlkW.made w5 xs xl xc)
          have R6 := Hid.of (R5.out.next ((Below.refl _ _).alloc (Nat.le_refl _) (.cells #[.string xs, .int .i64 xl, .int .i64 xc] 118)))
          have O6 := Hid.of (O5.out.alloc (.cells #[.string xs, .int .i64 xl, .int .i64 xc] 118))
          obtain ⟨s7, ln7, col7, b7, hx7⟩ : ∃ s9 l9 c9 b9, wHead ws2 = ((s9, l9, c9), b9) := ⟨_, _, _, _, rfl⟩
          have HX7 := Hid.of hx7
          clear hws hx7 d0 d1 d2 i5 d9
          refine (S.peek R6.out.rep SM2.out).mono ?_
          rintro e w7 ⟨he, b8⟩
          rw [HX7.out] at he
          simp only [wdVal] at he
          subst he
          have R7 := Hid.of (R6.out.next b8)
          have Q7 := Q6.out.kept (b8.block _ Q6.out.lt)
          have O7 := Hid.of ((Step.of_below (F := fun _ => False) b8).own O6.out (fun _ _ c => c))
          have f0 : w7.frozen? ⟨w5.heap.size, 0, none⟩ = false := row_frozen Q7
          have f1 : w7.frozen? ⟨w5.heap.size, 1, none⟩ = false := row_frozen Q7
          have f2 : w7.frozen? ⟨w5.heap.size, 2, none⟩ = false := row_frozen Q7
          have z0 := Q7.cell 0 _ rfl
          have z1 := Q7.cell 1 _ rfl
          have z2 := Q7.cell 2 _ rfl
          have Z := Hid.of (blk_set3 Q7 (.string s7) (.int .i64 ln7) (.int .i64 col7))
          have G8 := Hid.of (set3_grown w7 w5.heap.size (.string s7) (.int .i64 ln7) (.int .i64 col7))
          have WB := Hid.of R5.out.st.size
          clear Q7 b8
          go_wp2_with fail
          have O8 := (Step.of_grown G8.out).own O7.out (fun g hg c => by have := (O5.out.lt g hg).2; simp only at c; omega)
          have R8 := R7.out.put G8.out WB.out
          refine ⟨⟨ws2, d ++ [t], m, w5.heap.size, F3, rfl, by rw [HX7.out], Hid.of ⟨R8, by rw [HX7.out]; exact Z.out, O8, by rw [List.length_append]; have := D6.out; simp; omega, by have := HLE.out; rw [List.length_cons] at this; have := W2.out.1; omega, HE.out, W2.out.2, WB.out, (fun g hg => by have := (O5.out.lt g hg).2; omega), SM2.out⟩⟩, ?_⟩
          show μ (set3 w7 w5.heap.size (.string s7) (.int .i64 ln7) (.int .i64 col7)) < μ wr
          rw [MU.out _ _ _ R8.rep, MU0.out]
          have := W2.out.1
          omega

end Go.Proofs.YtadepjpmpjipmaaGreatDoor

/-
  Plain facts for the landed Parse and Read: what is read fits.
-/
namespace Go.Proofs.YtadepjpmpjipmaaGreatDoor
open Go.RowKit Go.Lib

theorem pTiers_fuel : ∀ (m k : Nat) (ws : List WdL) (d : List TierL), ws.length ≤ m → ws.length ≤ k → pTiers m ws d = pTiers k ws d
  | m, k, [], d, _, _ => by rw [pTiers_nil, pTiers_nil]
  | 0, _, x :: r, _, h, _ => by simp at h
  | _, 0, x :: r, _, _, h => by simp at h
  | m + 1, k + 1, x :: r, d, hm, hk => by
    rw [pTiers_cons, pTiers_cons]
    cases tierRes (lineOf (x :: r)) with
    | none => rfl
    | some t =>
      simp only
      have hl : ((x :: r).drop (wLine (x :: r))).length ≤ r.length := by
        rw [List.length_drop, List.length_cons]
        have := wline_pos x r
        omega
      rw [List.length_cons] at hm hk
      rw [pTiers_fuel m k _ _ (by omega) (by omega)]

theorem pTiers_pos : ∀ (m : Nat) (ws : List WdL) (d : List TierL) (k : Int), (∀ x ∈ ws, 1 ≤ x.2.1) → pTiers m ws d = .inr k → 1 ≤ k
  | m, [], d, k, _, h => by rw [pTiers_nil] at h; cases h
  | 0, x :: r, d, k, _, h => by cases h
  | m + 1, x :: r, d, k, hp, h => by
    rw [pTiers_cons] at h
    have hx := hp x (List.mem_cons_self ..)
    cases ht : tierRes (lineOf (x :: r)) with
    | none =>
      rw [ht] at h
      simp only [Sum.inr.injEq] at h
      omega
    | some t =>
      rw [ht] at h
      simp only at h
      split at h
      · simp only [Sum.inr.injEq] at h
        omega
      · exact pTiers_pos m _ _ k (fun y hy => hp y (List.mem_of_mem_drop hy)) h

/-- A tier that has been read. -/
def TFit (t : TierL) : Prop := t.1.size ≤ 1000000 ∧ In64 t.2.1 ∧ In64 t.2.2.1 ∧ In64 t.2.2.2

theorem pNum_fit {l : List UInt8} {v : Int} (h : pNum l = some v) : In64 v := by
  have h1 := number_pNum l
  rw [h, number_ref] at h1
  have h2 := (ref_ok h1).1
  unfold Small18 at h2
  unfold In64
  omega

theorem nums_fit : ∀ {ss : List ByteArray} {x : List Int}, nums ss = some x → ∀ v ∈ x, In64 v
  | [], x, h => by
    simp only [nums, Option.some.injEq] at h
    rw [← h]
    intro v hv
    cases hv
  | s :: r, x, h => by
    rw [nums] at h
    cases hp : pNum s.data.toList with
    | none => rw [hp] at h; cases h
    | some v =>
      rw [hp] at h
      cases hr : nums r with
      | none => rw [hr] at h; cases h
      | some y =>
        rw [hr] at h
        simp at h
        rw [← h]
        intro u hu
        rw [List.mem_cons] at hu
        rcases hu with rfl | hu
        · exact pNum_fit hp
        · exact nums_fit hr u hu

theorem open_mem {l u : List ByteArray} (h : tierOpen l = some u) : ∀ s ∈ u, s ∈ l := by
  unfold tierOpen at h
  split at h
  · split at h
    · simp only [Option.some.injEq] at h
      rw [← h]
      intro s hs
      simp at hs ⊢
      rcases hs with rfl | rfl | rfl | rfl <;> simp
    · cases h
  · cases h

theorem tierRes_fit {l : List ByteArray} {t : TierL} (hl : ∀ s ∈ l, s.size ≤ 4000) (h : tierRes l = some t) : TFit t := by
  unfold tierRes at h
  cases ho : tierOpen l with
  | none => rw [ho] at h; cases h
  | some u =>
    obtain ⟨n, x, y, z, rfl⟩ := open_four ho
    rw [ho] at h
    simp only at h
    cases hn : nums [x, y, z] with
    | none => rw [hn] at h; cases h
    | some ns =>
      obtain ⟨e, k, s, rfl⟩ := nums_three hn
      rw [hn] at h
      simp only [Option.some.injEq] at h
      rw [← h]
      have hf := nums_fit hn
      have hs := hl n (open_mem ho n (by simp))
      exact ⟨by simp only; omega, hf e (by simp), hf k (by simp), hf s (by simp)⟩

theorem pTiers_fit : ∀ (m : Nat) (ws : List WdL) (d d' : List TierL), (∀ x ∈ ws, x.1.size ≤ 4000) → d.length ≤ 5 → (∀ t ∈ d, TFit t) → pTiers m ws d = .inl d' → d'.length ≤ 5 ∧ ∀ t ∈ d', TFit t
  | m, [], d, d', _, h5, hd, h => by
    rw [pTiers_nil] at h
    simp only [Sum.inl.injEq] at h
    rw [← h]
    exact ⟨h5, hd⟩
  | 0, x :: r, d, d', _, h5, hd, h => by
    simp only [pTiers, Sum.inl.injEq] at h
    rw [← h]
    exact ⟨h5, hd⟩
  | m + 1, x :: r, d, d', hw, h5, hd, h => by
    rw [pTiers_cons] at h
    cases ht : tierRes (lineOf (x :: r)) with
    | none => rw [ht] at h; cases h
    | some t =>
      rw [ht] at h
      simp only at h
      split at h
      · cases h
      · rename_i h9
        refine pTiers_fit m _ _ d' (fun y hy => hw y (List.mem_of_mem_drop hy)) (by rw [List.length_append]; simp; omega) (fun u hu => ?_) h
        rw [List.mem_append, List.mem_singleton] at hu
        rcases hu with hu | rfl
        · exact hd u hu
        · refine tierRes_fit (fun s hs => ?_) ht
          unfold lineOf at hs
          obtain ⟨y, hy, rfl⟩ := List.mem_map.1 hs
          exact hw y (List.mem_of_mem_take hy)

/-- The policy that words are. -/
def pAll (l : List WdL) : PolL × Int × Int := match l with
  | [] => (PolL.none, 22, 1)
  | x :: r => match headRes (lineOf (x :: r)) with
    | none => (PolL.none, 22, x.2.1)
    | some n => match pTiers ((x :: r).drop (wLine (x :: r))).length ((x :: r).drop (wLine (x :: r))) [] with
      | .inl d => ((n, d), 0, 0)
      | .inr k => (PolL.none, 22, k)

theorem pOf_all (l : List WdL) : pOf l = pAll l := by
  cases l with
  | nil => rfl
  | cons x r =>
    have hf := pTiers_fuel (x :: r).length ((x :: r).drop (wLine (x :: r))).length ((x :: r).drop (wLine (x :: r))) [] (by rw [List.length_drop]; omega) (Nat.le_refl _)
    unfold pOf pAll
    simp only
    rw [texts_line, hf]
    generalize pTiers ((x :: r).drop (wLine (x :: r))).length ((x :: r).drop (wLine (x :: r))) [] = q
    unfold headRes
    by_cases h2 : (lineOf (x :: r)).length = 2
    · obtain ⟨a, n, hl⟩ : ∃ a n, lineOf (x :: r) = [a, n] := by
        match hl : lineOf (x :: r), h2 with
        | [a, n], _ => exact ⟨a, n, rfl⟩
      rw [hl]
      have i1 := same_iff tPolicy a sPolicy rfl
      simp only [List.map_cons, List.map_nil, i1]
      by_cases h : a.data.toList = sPolicy
      · rw [if_pos h, if_pos h]
        simp only
        rw [back_bytes]
        cases q <;> rfl
      · rw [if_neg h, if_neg h]
    · split
      · rename_i heq
        have := congrArg List.length heq
        simp at this
        omega
      · split
        · rename_i heq
          split at heq
          · rename_i h3
            rw [h3] at h2
          · rfl
        · rename_i heq
          split at heq
          · rename_i h3
            rw [h3] at h2
            simp at h2
          · cases heq

theorem pAll_fit {l : List WdL} {q : PolL} (hz : ∀ x ∈ l, x.1.size ≤ 4000) (h : pAll l = (q, 0, 0)) : PFit q := by
  unfold pAll at h
  cases l with
  | nil => simp at h
  | cons x r =>
    simp only at h
    cases hh : headRes (lineOf (x :: r)) with
    | none =>
      rw [hh] at h
      simp at h
    | some n =>
      rw [hh] at h
      simp only at h
      cases hp : pTiers ((x :: r).drop (wLine (x :: r))).length ((x :: r).drop (wLine (x :: r))) [] with
      | inr k =>
        rw [hp] at h
        simp at h
      | inl d =>
        rw [hp] at h
        simp only [Prod.mk.injEq, and_true] at h
        rw [← h]
        have hf := pTiers_fit _ _ _ d (fun y hy => hz y (List.mem_of_mem_drop hy)) (by simp) (by simp) hp
        have hn : n.size ≤ 4000 := by
          unfold headRes at hh
          split at hh
          · rename_i a m heq
            split at hh
            · simp only [Option.some.injEq] at hh
              have hm : n ∈ lineOf (x :: r) := by rw [heq, hh]; simp
              unfold lineOf at hm
              obtain ⟨y, hy, rfl⟩ := List.mem_map.1 hm
              exact hz y (List.mem_of_mem_take hy)
            · cases hh
          · cases hh
        exact ⟨by have := hf.1; simp only; omega, by simp only; omega, hf.2⟩

theorem pAll_bad {l : List WdL} {q : PolL} {e k : Int} (hp : ∀ x ∈ l, 1 ≤ x.2.1) (h : pAll l = (q, e, k)) : (e = 0 ∧ k = 0) ∨ (e = 22 ∧ q = PolL.none ∧ 1 ≤ k) := by
  unfold pAll at h
  cases l with
  | nil =>
    simp only [Prod.mk.injEq] at h
    obtain ⟨rfl, rfl, rfl⟩ := h
    exact .inr ⟨rfl, rfl, by decide⟩
  | cons x r =>
    simp only at h
    cases hh : headRes (lineOf (x :: r)) with
    | none =>
      rw [hh] at h
      simp only [Prod.mk.injEq] at h
      obtain ⟨rfl, rfl, rfl⟩ := h
      exact .inr ⟨rfl, rfl, hp x (List.mem_cons_self ..)⟩
    | some n =>
      rw [hh] at h
      simp only at h
      cases ht : pTiers ((x :: r).drop (wLine (x :: r))).length ((x :: r).drop (wLine (x :: r))) [] with
      | inr j =>
        rw [ht] at h
        simp only [Prod.mk.injEq] at h
        obtain ⟨rfl, rfl, rfl⟩ := h
        exact .inr ⟨rfl, rfl, pTiers_pos _ _ _ _ (fun y hy => hp y (List.mem_of_mem_drop hy)) ht⟩
      | inl d =>
        rw [ht] at h
        simp only [Prod.mk.injEq] at h
        exact .inl ⟨h.2.1.symm, h.2.2.symm⟩

end Go.Proofs.YtadepjpmpjipmaaGreatDoor

/-
  The landed package policy: readAll.
-/
namespace Go.Proofs.YtadepjpmpjipmaaGreatDoor
open Go.RowKit Go.Lib

theorem PBlk.stepped {F F' : Nat → Prop} {w w' : World} {b : Nat} {n : ByteArray} {s : Value} (h : PBlk w b n s) (st : Step F F' w w') (hb : ¬ F b) : PBlk w' b n s := by
  unfold PBlk at h ⊢
  rw [st.block b (Array.getElem?_eq_some_iff.1 h).1 hb]
  exact h

theorem pblk_drew {w : World} {b : Nat} {n : ByteArray} {s : Value} (h : PBlk w b n s) : PBlk w.drew b n s := h

abbrev polZero : Value := polVal ⟨#[]⟩ (.slice none 0 0)

theorem zero_own (B : Nat) (w : World) : OwnPol B w polZero PolL.none := ⟨.slice none 0 0, rfl, World.ownsRow_nil _ _ _ 4⟩

/-- What readAll answers. -/
def AllEnd (l : List WdL) (w : World) (e : Ending) (w' : World) : Prop := ∃ v k, e = .returned (.tuple #[v, .int .i64 k]) ∧ ((k = 0 ∧ (pAll l).2 = (0, 0)) ∨ (0 < k ∧ pAll l = (PolL.none, 22, k))) ∧ OwnPol w.heap.size w' v (pAll l).1

theorem all_no {l : List WdL} {w w' : World} {k : Int} (hk : 1 ≤ k) (h : pAll l = (PolL.none, 22, k)) : AllEnd l w (.returned (.tuple #[polZero, .int .i64 k])) w' :=
  ⟨_, k, rfl, .inr ⟨by omega, h⟩, by rw [h]; exact zero_own _ _⟩

theorem all_bad {x : WdL} {r : List WdL} (h : headRes (lineOf (x :: r)) = none) : pAll (x :: r) = (PolL.none, 22, x.2.1) := by
  unfold pAll
  simp only
  rw [h]

theorem all_tiers {x : WdL} {r : List WdL} {n : ByteArray} {k : Int} (h : headRes (lineOf (x :: r)) = some n) (ht : pTiers ((x :: r).drop (wLine (x :: r))).length ((x :: r).drop (wLine (x :: r))) [] = .inr k) : pAll (x :: r) = (PolL.none, 22, k) := by
  unfold pAll
  simp only
  rw [h]
  simp only
  rw [ht]

theorem all_ok {x : WdL} {r : List WdL} {n : ByteArray} {d : List TierL} (h : headRes (lineOf (x :: r)) = some n) (ht : pTiers ((x :: r).drop (wLine (x :: r))).length ((x :: r).drop (wLine (x :: r))) [] = .inl d) : pAll (x :: r) = ((n, d), 0, 0) := by
  unfold pAll
  simp only
  rw [h]
  simp only
  rw [ht]

/-- The line that is told of a text that has no first line. -/
theorem all_head {l : List WdL} {s : ByteArray} {ln col : Int} {b : Bool} (hx : wHead l = ((s, ln, col), b)) (hp : ∀ x ∈ l, 1 ≤ x.2.1) (h : headRes (lineOf l) = none) : 1 ≤ max ln 1 ∧ pAll l = (PolL.none, 22, max ln 1) := by
  cases l with
  | nil =>
    simp only [wHead, Prod.mk.injEq] at hx
    obtain ⟨⟨-, rfl, -⟩, -⟩ := hx
    exact ⟨by decide, rfl⟩
  | cons x r =>
    simp only [wHead, Prod.mk.injEq] at hx
    obtain ⟨hx, -⟩ := hx
    have h1 := hp x (List.mem_cons_self ..)
    have h2 := all_bad h
    rw [hx] at h1 h2
    simp only at h1 h2
    have e : max ln 1 = ln := by omega
    rw [hx, e]
    exact ⟨h1, h2⟩

theorem head_none : headRes (lineOf []) = none := rfl

set_option maxRecDepth 20000 in
set_option maxHeartbeats 3200000 in
theorem readAll_any (S : WordSpec) {w : World} {p : Nat} {l : List WdL} {F : Nat → Prop} (hR : S.Rep w p l F) (hl : l.length ≤ 4000) (hz : ∀ x ∈ l, 1 ≤ x.2.1 ∧ x.1.size ≤ 4000) (hN : ∀ F' w', Step F F' w w' → Nums w') (hu : ∀ w p l F l' F', S.Rep w p l F → S.Rep w p l' F' → l = l') :
    Calls Tryz.prog 66 #[wptr p] w fun e w' => (∃ F', Step F F' w w') ∧ AllEnd l w e w' := by
  have HR := Hid.of (RL.start hR)
  have HL := Hid.of hl
  have HZ := Hid.of hz
  have HN := Hid.of hN
  have HU := Hid.of hu
  obtain ⟨s0, ln0, col0, b0, hx⟩ : ∃ s ln col b, wHead l = ((s, ln, col), b) := ⟨_, _, _, _, rfl⟩
  have HX := Hid.of hx
  obtain ⟨w1, hw1⟩ : ∃ w1, w.alloc (.cells #[.string ⟨#[]⟩, .slice none 0 0] 24) = w1 := ⟨_, rfl⟩
  have b1 : Below w.heap.size w w1 := by rw [← hw1]; exact (Below.refl _ _).alloc (Nat.le_refl _) _
  have K1 : Hid (PBlk w1 w.heap.size ⟨#[]⟩ (.slice none 0 0)) := Hid.of (by rw [← hw1]; exact PBlk.made w _ _)
  have R1 := Hid.of (HR.out.next b1)
  have HW := Hid.of hw1
  clear hR hl hz hN hu hx hw1 b1 HR
  go_enter Tryz.func66, Tryz.ntmps66
  go_wp2_with fail
  rw [HW.out]
  clear HW
  refine (S.peek R1.out.rep HL.out).mono ?_
  rintro e w2 ⟨he, b2⟩
  rw [HX.out] at he
  simp only [wdVal] at he
  subst he
  obtain ⟨w3, hw3⟩ : ∃ w3, w2.alloc (.cells #[.string s0, .int .i64 ln0, .int .i64 col0] 118) = w3 := ⟨_, rfl⟩
  have b3 : Below w2.heap.size w2 w3 := by rw [← hw3]; exact (Below.refl _ _).alloc (Nat.le_refl _) _
  have R3 := Hid.of ((R1.out.next b2).next b3)
  have K3 := Hid.of ((K1.out.kept b2).kept b3)
  have X3 : Hid (Blk w3 w2.heap.size 118 [.string s0, .int .i64 ln0, .int .i64 col0]) := Hid.of (by rw [← hw3]; exact BlkW.made w2 s0 ln0 col0)
  have XB : Hid (w.heap.size < w2.heap.size) := Hid.of (K1.out.kept b2).lt
  have HW3 := Hid.of hw3
  clear b2 hw3 b3 R1 K1
  go_wp2_with fail
  rw [HW3.out]
  clear HW3
  generalize w2.heap.size = xb at *
  refine (readHead_any S R3.out.rep HL.out).mono ?_
  rintro e w4 ⟨⟨F4, rl4⟩, he⟩
  have R4 := Hid.of (R3.out.line rl4.rep rl4.st rl4.sub)
  have K4 := Hid.of (K3.out.stepped rl4.st (R3.out.off (Nat.le_refl _)))
  have X4 := Hid.of (X3.out.kept (rl4.st.block _ X3.out.lt (R3.out.off (by have := XB.out; omega))))
  clear rl4 R3 K3 X3
  cases hh : headRes (lineOf l) with
  | none =>
    rw [hh] at he
    simp only [Option.getD_none, Option.isSome_none] at he
    subst he
    have AH := Hid.of (all_head HX.out (fun x hx => (HZ.out x hx).1) hh)
    have d1 := X4.out.cell 1 _ rfl
    obtain ⟨c0, c1⟩ := K4.out.at
    have z0 := row_frozen (i := 0) K4.out
    have z1 := row_frozen (i := 1) K4.out
    have K5' := Hid.of (pblk_drew (pblk_set2 K4.out ⟨#[]⟩ (.slice none 0 0)))
    have R5' := Hid.of ((R4.out.put (set2_grown w4 w.heap.size (.string ⟨#[]⟩) (.slice none 0 0)) (Nat.le_refl _)).next (Below.refl _ _).drew)
    have D5' := Hid.of (grown_cell (grown_drew (set2_grown w4 w.heap.size (.string ⟨#[]⟩) (.slice none 0 0))) X4.out.lt XB.out d1)
    obtain ⟨w5, hw5⟩ : ∃ w5, (set2 w4 w.heap.size (.string ⟨#[]⟩) (.slice none 0 0)).drew = w5 := ⟨_, rfl⟩
    rw [hw5] at K5' R5' D5'
    unfold set2 at hw5
    have HW5 := Hid.of hw5
    clear hh hw5
    go_upto_region 4 with fail
    refine wp_region_noPanic ?_
    refine wp_region_held_drew (S := fun w' => w'.cell? ⟨xb, 1, none⟩ = some (.int .i64 ln0)) (by kernel_rfl) ?_ (fun hHeld => ?_)
    · exact d1
    refine wpAnyH_take (i := 0) (oi := ⟨_, _, _, _, _, _⟩) (v := ?_) rfl (by kernel_rfl) (by kernel_rfl) (by kernel_rfl) (fun _ _ _ h => h) (Or.inl ⟨by rfl, ?_⟩) hHeld ?_
    rotate_left
    · intro w' hSw
      try dsimp only at hSw
      go_simp
      all_goals with_reducible rfl
    simp only [Act.put, List.setIfInBounds_toArray, List.set_cons_zero, List.set_cons_succ]
    refine wpAnyH_take (i := 1) (oi := ⟨_, _, _, _, _, _⟩) (v := ?_) rfl (by kernel_rfl) (by kernel_rfl) (by kernel_rfl) (fun _ _ _ h => h) (Or.inl ⟨by rfl, ?_⟩) hHeld ?_
    rotate_left
    · intro w' hSw
      try dsimp only at hSw
      go_simp
      all_goals with_reducible rfl
    simp only [Act.put, List.setIfInBounds_toArray, List.set_cons_zero, List.set_cons_succ]
    refine wpAnyH_take (i := 2) (oi := ⟨_, _, _, _, _, _⟩) (v := ?_) rfl (by kernel_rfl) (by kernel_rfl) (by kernel_rfl) (fun _ _ _ h => h) (Or.inl ⟨by rfl, ?_⟩) hHeld ?_
    rotate_left
    · intro w' hSw
      try dsimp only at hSw
      go_simp
      all_goals with_reducible rfl
    simp only [Act.put, List.setIfInBounds_toArray, List.set_cons_zero, List.set_cons_succ]
    refine wpAnyH_take (i := 3) (oi := ⟨_, _, _, _, _, _⟩) (v := ?_) rfl (by kernel_rfl) (by kernel_rfl) (by kernel_rfl) (fun _ _ _ h => h) (Or.inl ⟨by rfl, ?_⟩) hHeld ?_
    rotate_left
    · intro w' hSw
      try dsimp only at hSw
      go_simp
      all_goals with_reducible rfl
    simp only [Act.put, List.setIfInBounds_toArray, List.set_cons_zero, List.set_cons_succ]
    refine wpAnyH_ready (rs := [4]) (by kernel_rfl) (by simp) ?_
    refine AllReadyH.cons (o := ⟨_, _, _, _, _, _⟩) rfl (fun K hK => ?_) AllReadyH.nil
    go_simp
    rw [HW5.out]
    clear d1 c0 c1 z0 z1 hHeld
    have D1 := D5'.out
    refine hK.out _ _ D1 (fun hHeld => ?_)
    clear hK K
    try simp only [Act.put, List.setIfInBounds_toArray, List.set_cons_zero, List.set_cons_succ]
    refine wpAnyH_take (i := 5) (oi := ⟨_, _, _, _, _, _⟩) (v := ?_) rfl (by kernel_rfl) (by kernel_rfl) (by kernel_rfl) (fun _ _ _ h => h) (Or.inl ⟨by rfl, ?_⟩) hHeld ?_
    rotate_left
    · intro w' hSw
      try dsimp only at hSw
      go_simp
      all_goals with_reducible rfl
    simp only [Act.put, List.setIfInBounds_toArray, List.set_cons_zero, List.set_cons_succ]
    refine wpAnyH_done (by kernel_rfl) ?_ _
    refine NoPanic.normal ?_
    clear D1
    obtain ⟨q0, q1⟩ := K5'.out.at
    go_wp2
    refine bodyPost_ret (v := .tuple #[polZero, .int .i64 (max ln0 1)]) ?_ rfl ⟨⟨_, R5'.out.st⟩, all_no AH.out.1 AH.out.2⟩
    simp [results, Tryz.results66, go_sem, q0, q1]
  | some n =>
    rw [hh] at he
    simp only [Option.getD_some, Option.isSome_some] at he
    subst he
    obtain ⟨x, r, rfl⟩ : ∃ x r, l = x :: r := by
      cases l with
      | nil => rw [head_none] at hh; cases hh
      | cons x r => exact ⟨x, r, rfl⟩
    have HH := Hid.of hh
    clear hh
    go_wp2_with fail
    refine (readTiers_any S R4.out.rep (by rw [List.length_drop]; have := HL.out; omega) (fun y hy => (HZ.out y (List.mem_of_mem_drop hy)).2) (fun F' w' st => HN.out _ _ (R4.out.st.trans st)) HU.out).mono ?_
    rintro e w5 ⟨⟨F5, st5⟩, te⟩
    have ST5 := Hid.of (R4.out.st.trans st5)
    have K5 := Hid.of (K4.out.stepped st5 (R4.out.off (Nat.le_refl _)))
    have KL := Hid.of (Nat.lt_of_lt_of_le K4.out.lt (Nat.le_refl _))
    obtain ⟨c0, c1⟩ := K5.out.at
    have z0 := row_frozen (i := 0) K5.out
    have z1 := row_frozen (i := 1) K5.out
    unfold TiersEnd at te
    cases ht : pTiers (List.drop (wLine (x :: r)) (x :: r)).length (List.drop (wLine (x :: r)) (x :: r)) [] with
    | inr k =>
      rw [ht] at te
      simp only at te
      subst te
      have hk := pTiers_pos _ _ _ _ (fun y hy => (HZ.out y (List.mem_of_mem_drop hy)).1) ht
      have PA := Hid.of (all_tiers HH.out ht)
      have HK := Hid.of hk
      have k0 : k > 0 := by omega
      have K6' := Hid.of (pblk_set2 K5.out ⟨#[]⟩ (.slice none 0 0))
      have S6' := Hid.of (ST5.out.grown (set2_grown w5 w.heap.size (.string ⟨#[]⟩) (.slice none 0 0)) (fun j hj => by cases hj; exact Nat.le_refl _))
      obtain ⟨q0, q1⟩ := K6'.out.at
      unfold set2 at q0 q1
      clear ht hk
      go_wp2
      refine bodyPost_ret (v := .tuple #[polZero, .int .i64 k]) ?_ rfl ⟨⟨_, S6'.out⟩, all_no HK.out PA.out⟩
      simp [results, Tryz.results66, go_sem, q0, q1]
    | inl d =>
      rw [ht] at te
      simp only at te
      obtain ⟨u, rfl, ou⟩ := te
      obtain ⟨ua, uc, rfl, -⟩ := own_one ou
      have PA := Hid.of (all_ok HH.out ht)
      have k0 : ¬ (0 : Int) > 0 := by decide
      have G6 := Hid.of (set2_grown w5 w.heap.size (.string n) (.slice ua d.length uc))
      have K6' := Hid.of (pblk_set2 K5.out n (.slice ua d.length uc))
      have S6' := Hid.of (ST5.out.grown G6.out (fun j hj => by cases hj; exact Nat.le_refl _))
      have O6' : Hid ((set2 w5 w.heap.size (.string n) (.slice ua d.length uc)).ownsRow w.heap.size 49 4 (.slice ua d.length uc) d.length (flat penc d)) := Hid.of (own_mono ((Step.of_grown G6.out).own ou (fun g hg c => by have := (ou.lt g hg).1; have := KL.out; simp only at c; omega)) (Nat.le_of_lt KL.out))
      obtain ⟨q0, q1⟩ := K6'.out.at
      unfold set2 at q0 q1
      clear ht ou
      go_wp2
      refine bodyPost_ret (v := .tuple #[polVal n (.slice ua d.length uc), .int .i64 0]) ?_ rfl ⟨⟨_, S6'.out⟩, _, 0, rfl, .inl ⟨rfl, by rw [PA.out]⟩, by rw [PA.out]; exact ⟨_, rfl, O6'.out⟩⟩
      simp [results, Tryz.results66, go_sem, q0, q1]

end Go.Proofs.YtadepjpmpjipmaaGreatDoor

/-
  The landed package policy: Parse, Read; 'policies'.
-/
namespace Go.Proofs.YtadepjpmpjipmaaGreatDoor
open Go.RowKit Go.Lib

/-- Words lie in one block: what is left is known by it. -/
theorem words_one {w : World} {p : Nat} {l l' : List WdL} {F F' : Nat → Prop} (h : WdRep w p l F) (h' : WdRep w p l' F') : l = l' := by
  obtain ⟨-, x, t, k, -⟩ := h
  obtain ⟨-, x', t', k', -⟩ := h'
  have h1 := k.row
  have h2 := k'.row
  unfold WRow Blk at h1 h2
  rw [h1] at h2
  simp at h2
  obtain ⟨e1, e2, rfl⟩ := h2
  have ex : x = x' := Prod.ext (by omega) (by omega)
  rw [← k.words, ← k'.words, ex]

/-- What Parse answers. -/
theorem parse_of (t : List UInt8) : (∃ l e n, wCut t = (some l, e, n) ∧ pParse t = pAll l) ∨ ∃ e n, wCut t = (none, e, n) ∧ ¬ e = 0 ∧ pParse t = (PolL.none, e, n) := by
  rcases wCut_kinds t with ⟨l, h⟩ | ⟨e, n, h, he⟩
  · refine .inl ⟨l, 0, 0, h, ?_⟩
    unfold pParse
    rw [h]
    exact pOf_all l
  · refine .inr ⟨e, n, h, he, ?_⟩
    unfold pParse
    rw [h]

set_option maxRecDepth 20000 in
set_option maxHeartbeats 3200000 in
theorem parse_any (t : ByteArray) (w : World) (hN : Nums w) (ht : t.size ≤ maxLen) :
    Calls Tryz.prog 18 #[.string t] w fun e w' => ∃ v, e = .returned (.tuple #[v, .int .i64 (pParse t.data.toList).2.1, .int .i64 (pParse t.data.toList).2.2]) ∧ OwnPol w.heap.size w' v (pParse t.data.toList).1 ∧ Below w.heap.size w w' := by
  have HN := Hid.of hN
  have HT := Hid.of ht
  obtain ⟨w1, hw1⟩ : ∃ w1, w.alloc (.cells #[.string ⟨#[]⟩, .slice none 0 0] 24) = w1 := ⟨_, rfl⟩
  have B1 : Hid (Below w.heap.size w w1) := Hid.of (by rw [← hw1]; exact (Below.refl _ _).alloc (Nat.le_refl _) _)
  have K1 : Hid (PBlk w1 w.heap.size ⟨#[]⟩ (.slice none 0 0)) := Hid.of (by rw [← hw1]; exact PBlk.made w _ _)
  have HW := Hid.of hw1
  clear hN ht hw1
  go_enter Tryz.func18, Tryz.ntmps18
  go_wp2_with fail
  rw [HW.out]
  clear HW
  refine (words.cut t _ HT.out).mono ?_
  rintro e w2 ⟨b2, he⟩
  have B2 := Hid.of (B1.out.trans (b2.mono B1.out.size))
  have K2 := Hid.of (K1.out.kept b2)
  rcases parse_of t.data.toList with ⟨l, e0, n0, hc, hp⟩ | ⟨e0, n0, hc, hne, hp⟩
  · rw [hc] at he
    simp only at he
    obtain ⟨p, F, rfl, hR, hF⟩ := he
    obtain ⟨rfl, rfl, hl, hz⟩ := wCut_fine hc
    have HR := Hid.of hR
    have HL := Hid.of hl
    have HZ := Hid.of hz
    have HP := Hid.of hp
    have HF : Hid (∀ k, F k → w.heap.size + 1 ≤ k) := Hid.of (fun k hk => by have := hF k hk; have := K1.out.lt; omega)
    clear hR hl hz hp hF hc b2 B1 K1
    go_wp2_with fail
    refine (readAll_any words HR.out HL.out HZ.out (fun F' w' st => HN.out.kept (st.below B2.out B2.out.size (fun k hk => by have := HF.out k hk; omega))) (fun w p l F l' F' h h' => words_one h h')).mono ?_
    rintro e w3 ⟨⟨F3, st3⟩, v, k, rfl, hk, ov⟩
    have B3 := Hid.of (st3.below B2.out B2.out.size (fun k hk => by have := HF.out k hk; omega))
    have K3 := Hid.of (K2.out.stepped st3 (fun c => by have := HF.out _ c; omega))
    have KL := Hid.of (show w.heap.size < w2.heap.size from K2.out.lt)
    obtain ⟨s, rfl, os⟩ := ov
    obtain ⟨ua, uc, rfl, -⟩ := own_one os
    obtain ⟨qn, hqn⟩ : ∃ qn, (pAll l).1.1 = qn := ⟨_, rfl⟩
    obtain ⟨N, hN⟩ : ∃ N, (pAll l).1.2.length = N := ⟨_, rfl⟩
    have OS := Hid.of os
    have HQ := Hid.of hqn
    have HNN := Hid.of hN
    rw [hqn, hN]
    have B4 := Hid.of (B3.out.alloc B3.out.size (.cells #[.string qn, .slice ua N uc] 24))
    have K4 := Hid.of (K3.out.kept ((Below.refl _ _).alloc (Nat.le_refl _) (.cells #[.string qn, .slice ua N uc] 24)))
    obtain ⟨w4, hw4⟩ : ∃ w4, w3.alloc (.cells #[.string qn, .slice ua N uc] 24) = w4 := ⟨_, rfl⟩
    rw [hw4] at B4 K4
    have O4 : Hid (w4.ownsRow w2.heap.size 49 4 (.slice ua N uc) N (flat penc (pAll l).1.2)) := Hid.of (by have h := OS.out.alloc (.cells #[.string qn, .slice ua N uc] 24); rw [hN, hw4] at h; exact h)
    have V4 : Hid (PBlk w4 w3.heap.size qn (.slice ua N uc)) := Hid.of (by rw [← hw4]; exact PBlk.made w3 _ _)
    have HW4 := Hid.of hw4
    obtain ⟨c0, c1⟩ := K4.out.at
    have z0 := row_frozen (i := 0) K4.out
    have z1 := row_frozen (i := 1) K4.out
    obtain ⟨d0, d1⟩ := V4.out.at
    clear os hqn hN hw4 st3 K2 K3 B3
    rcases hk with ⟨rfl, hp0⟩ | ⟨hk, hp0⟩
    · have PE : Hid ((pParse t.data.toList).2 = (0, 0)) := Hid.of (by rw [HP.out]; exact hp0)
      have k0 : ¬ (0 : Int) > 0 := by decide
      have G5 := Hid.of (set2_grown w4 w.heap.size (.string qn) (.slice ua N uc))
      have K5' := Hid.of (pblk_set2 K4.out qn (.slice ua N uc))
      have B5' := Hid.of (B4.out.grown G5.out (by have := B4.out.size; omega) (fun k hk => by cases hk; exact Nat.le_refl _))
      have O5' := Hid.of (own_mono ((Step.of_grown G5.out).own O4.out (fun g hg c => by have := (O4.out.lt g hg).1; have := KL.out; simp only at c; omega)) (Nat.le_of_lt KL.out))
      obtain ⟨q0, q1⟩ := K5'.out.at
      unfold set2 at q0 q1
      clear hp0
      go_upto_region 5 with fail
      rw [HW4.out]
      clear HW4
      generalize w3.heap.size = vb at *
      go_wp2
      refine bodyPost_ret (v := .tuple #[polVal qn (.slice ua N uc), .int .i64 0, .int .i64 0]) ?_ rfl ⟨_, by rw [PE.out], ⟨.slice ua N uc, by rw [HP.out, HQ.out], by rw [HP.out, HNN.out]; exact O5'.out⟩, B5'.out⟩
      simp [results, Tryz.results18, go_sem, q0, q1]
    · have PE : Hid (pParse t.data.toList = (PolL.none, 22, k)) := Hid.of (by rw [HP.out]; exact hp0)
      have k0 : k > 0 := hk
      have G5 := Hid.of (set2_grown w4 w.heap.size (.string ⟨#[]⟩) (.slice none 0 0))
      have K5' := Hid.of (pblk_set2 K4.out ⟨#[]⟩ (.slice none 0 0))
      have B5' := Hid.of (B4.out.grown G5.out (by have := B4.out.size; omega) (fun k hk => by cases hk; exact Nat.le_refl _))
      obtain ⟨q0, q1⟩ := K5'.out.at
      unfold set2 at q0 q1
      clear hp0
      go_upto_region 5 with fail
      rw [HW4.out]
      clear HW4
      generalize w3.heap.size = vb at *
      go_wp2
      refine bodyPost_ret (v := .tuple #[polZero, .int .i64 22, .int .i64 k]) ?_ rfl ⟨_, by rw [PE.out], by rw [PE.out]; exact zero_own _ _, B5'.out⟩
      simp [results, Tryz.results18, go_sem, q0, q1]
  · rw [hc] at he
    simp only at he
    subst he
    have HP := Hid.of hp
    have i0 : (e0 != 0) = true := by simpa using hne
    obtain ⟨c0, c1⟩ := K2.out.at
    have z0 := row_frozen (i := 0) K2.out
    have z1 := row_frozen (i := 1) K2.out
    have G5 := Hid.of (set2_grown w2 w.heap.size (.string ⟨#[]⟩) (.slice none 0 0))
    have K5' := Hid.of (pblk_set2 K2.out ⟨#[]⟩ (.slice none 0 0))
    have B5' := Hid.of (B2.out.grown G5.out (by have := B2.out.size; omega) (fun k hk => by cases hk; exact Nat.le_refl _))
    obtain ⟨q0, q1⟩ := K5'.out.at
    unfold set2 at q0 q1
    clear hp hc hne b2
    go_wp2
    refine bodyPost_ret (v := .tuple #[polZero, .int .i64 e0, .int .i64 n0]) ?_ rfl ⟨_, by rw [HP.out], by rw [HP.out]; exact zero_own _ _, B5'.out⟩
    simp [results, Tryz.results18, go_sem, q0, q1]

end Go.Proofs.YtadepjpmpjipmaaGreatDoor

/-
  The landed package policy: Read; 'policies'.
-/
namespace Go.Proofs.YtadepjpmpjipmaaGreatDoor
open Go.RowKit Go.Lib

theorem pParse_fit {t : List UInt8} (h : (pParse t).2.1 = 0) : PFit (pParse t).1 := by
  rcases parse_of t with ⟨l, e0, n0, hc, hp⟩ | ⟨e0, n0, hc, hne, hp⟩
  · obtain ⟨rfl, rfl, hl, hz⟩ := wCut_fine hc
    rw [hp] at h ⊢
    have h2 := pAll_bad (l := l) (q := (pAll l).1) (e := (pAll l).2.1) (k := (pAll l).2.2) (fun x hx => (hz x hx).1) rfl
    rcases h2 with ⟨h3, h4⟩ | ⟨h3, _⟩
    · exact pAll_fit (fun x hx => (hz x hx).2) (Prod.ext rfl (Prod.ext h3 h4))
    · rw [h3] at h
      cases h
  · rw [hp] at h
    exact absurd h hne

set_option maxRecDepth 20000 in
set_option maxHeartbeats 3200000 in
theorem read_any (t : ByteArray) (w : World) (hN : Nums w) (ht : t.size ≤ maxLen) :
    Calls Tryz.prog 17 #[.string t] w fun e w' => ∃ v, e = .returned (.tuple #[v, .int .i64 (pRead t.data.toList).2.1, .int .i64 (pRead t.data.toList).2.2]) ∧ OwnPol w.heap.size w' v (pRead t.data.toList).1 ∧ Below w.heap.size w w' := by
  have HN := Hid.of hN
  have HT := Hid.of ht
  obtain ⟨q, e0, n0, hp⟩ : ∃ q e n, pParse t.data.toList = (q, e, n) := ⟨_, _, _, rfl⟩
  have HP := Hid.of hp
  have HF : Hid (e0 = 0 → PFit q) := Hid.of (fun h => by have := pParse_fit (t := t.data.toList) (by rw [hp]; exact h); rw [hp] at this; exact this)
  have RD : Hid (pRead t.data.toList = if e0 ≠ 0 then (PolL.none, e0, n0) else if (pCheck q).1 ≠ 0 then (PolL.none, pCheck q) else (q, 0, 0)) := Hid.of (by unfold pRead; rw [hp])
  obtain ⟨w1, hw1⟩ : ∃ w1, w.alloc (.cells #[.string ⟨#[]⟩, .slice none 0 0] 24) = w1 := ⟨_, rfl⟩
  have B1 : Hid (Below w.heap.size w w1) := Hid.of (by rw [← hw1]; exact (Below.refl _ _).alloc (Nat.le_refl _) _)
  have K1 : Hid (PBlk w1 w.heap.size ⟨#[]⟩ (.slice none 0 0)) := Hid.of (by rw [← hw1]; exact PBlk.made w _ _)
  have HW := Hid.of hw1
  clear hN ht hw1 hp
  go_enter Tryz.func17, Tryz.ntmps17
  go_wp2_with fail
  rw [HW.out]
  clear HW
  refine (parse_any t _ (HN.out.kept B1.out) HT.out).mono ?_
  rintro e w2 ⟨v, he, ov, b2⟩
  rw [HP.out] at he ov
  subst he
  have B2 := Hid.of (B1.out.trans (b2.mono B1.out.size))
  have K2 := Hid.of (K1.out.kept b2)
  have BL := Hid.of (show w.heap.size < w1.heap.size from K1.out.lt)
  obtain ⟨s, rfl, os⟩ := ov
  simp only at os
  obtain ⟨ua, uc, rfl, -⟩ := own_one os
  obtain ⟨qn, hqn⟩ : ∃ qn, q.1 = qn := ⟨_, rfl⟩
  obtain ⟨N, hN⟩ : ∃ N, q.2.length = N := ⟨_, rfl⟩
  have CP := Hid.of (own_cap os)
  rw [hN] at os CP
  have HQ := Hid.of hqn
  have HNN := Hid.of hN
  simp only
  rw [hqn, hN]
  obtain ⟨w3, hw3⟩ : ∃ w3, w2.alloc (.cells #[.string qn, .slice ua N uc] 24) = w3 := ⟨_, rfl⟩
  have b3 : Below w2.heap.size w2 w3 := by rw [← hw3]; exact (Below.refl _ _).alloc (Nat.le_refl _) _
  have B3 := Hid.of (B2.out.trans (b3.mono B2.out.size))
  have K3 := Hid.of (K2.out.kept b3)
  have O3 := Hid.of ((Step.of_below (F := fun _ => False) b3).own os (fun _ _ c => c))
  have V3 : Hid (PBlk w3 w2.heap.size qn (.slice ua N uc)) := Hid.of (by rw [← hw3]; exact PBlk.made w2 _ _)
  have VL := Hid.of (show w.heap.size < w2.heap.size from K2.out.lt)
  have HW3 := Hid.of hw3
  clear os hqn hN hw3 b2 b3 B1 B2 K1 K2
  by_cases he0 : e0 = 0
  · subst he0
    have FQ := Hid.of (HF.out rfl)
    have PR : Hid (PolRow w3 (polVal qn (.slice ua N uc)) q) := Hid.of ⟨_, by rw [HQ.out], by rw [HNN.out]; exact own_row O3.out, CP.out⟩
    obtain ⟨d0, d1⟩ := V3.out.at
    rw [← HW3.out] at d0 d1
    go_wp2_with fail
    rw [HW3.out]
    clear d0 d1 HW3
    refine (check_any _ q _ FQ.out PR.out).mono ?_
    rintro e w4 ⟨rfl, b4⟩
    have B4 := Hid.of (B3.out.trans (b4.mono B3.out.size))
    have K4 := Hid.of (K3.out.kept b4)
    have V4 := Hid.of (V3.out.kept b4)
    have O4 := Hid.of ((Step.of_below (F := fun _ => False) b4).own O3.out (fun _ _ c => c))
    obtain ⟨ce, cn, hc⟩ : ∃ ce cn, pCheck q = (ce, cn) := ⟨_, _, rfl⟩
    rw [hc] at RD ⊢
    simp only
    generalize w2.heap.size = vb at *
    clear b4 hc K3 V3 O3 B3 PR
    obtain ⟨c0, c1⟩ := K4.out.at
    obtain ⟨d0, d1⟩ := V4.out.at
    have z0 := row_frozen (i := 0) K4.out
    have z1 := row_frozen (i := 1) K4.out
    by_cases hce : ce = 0
    · subst hce
      have RR : Hid (pRead t.data.toList = (q, 0, 0)) := Hid.of (by rw [RD.out]; rfl)
      have G5 := Hid.of (set2_grown w4 w.heap.size (.string qn) (.slice ua N uc))
      have K5' := Hid.of (pblk_set2 K4.out qn (.slice ua N uc))
      have B5' := Hid.of (B4.out.grown G5.out (by have := B4.out.size; omega) (fun k hk => by cases hk; exact Nat.le_refl _))
      have O5' := Hid.of (own_mono ((Step.of_grown G5.out).own O4.out (fun g hg c => by have := (O4.out.lt g hg).1; have := BL.out; simp only at c; omega)) (Nat.le_of_lt BL.out))
      obtain ⟨q0, q1⟩ := K5'.out.at
      unfold set2 at q0 q1
      go_wp2
      refine bodyPost_ret (v := .tuple #[polVal qn (.slice ua N uc), .int .i64 0, .int .i64 0]) ?_ rfl ⟨_, by rw [RR.out], ⟨.slice ua N uc, by rw [RR.out, HQ.out], by rw [RR.out, HNN.out]; exact O5'.out⟩, B5'.out⟩
      simp [results, Tryz.results17, go_sem, q0, q1]
    · have RR : Hid (pRead t.data.toList = (PolL.none, ce, cn)) := Hid.of (by rw [RD.out]; rw [if_neg (by simp), if_pos hce])
      have i0 : (ce != 0) = true := by simpa using hce
      have G5 := Hid.of (set2_grown w4 w.heap.size (.string ⟨#[]⟩) (.slice none 0 0))
      have K5' := Hid.of (pblk_set2 K4.out ⟨#[]⟩ (.slice none 0 0))
      have B5' := Hid.of (B4.out.grown G5.out (by have := B4.out.size; omega) (fun k hk => by cases hk; exact Nat.le_refl _))
      obtain ⟨q0, q1⟩ := K5'.out.at
      unfold set2 at q0 q1
      clear hce
      go_wp2
      refine bodyPost_ret (v := .tuple #[polZero, .int .i64 ce, .int .i64 cn]) ?_ rfl ⟨_, by rw [RR.out], by rw [RR.out]; exact zero_own _ _, B5'.out⟩
      simp [results, Tryz.results17, go_sem, q0, q1]
  · have RR : Hid (pRead t.data.toList = (PolL.none, e0, n0)) := Hid.of (by rw [RD.out, if_pos he0])
    have i0 : (e0 == 0) = false := by simpa using he0
    have i1 : (e0 != 0) = true := by simpa using he0
    obtain ⟨c0, c1⟩ := K3.out.at
    have z0 := row_frozen (i := 0) K3.out
    have z1 := row_frozen (i := 1) K3.out
    have G5 := Hid.of (set2_grown w3 w.heap.size (.string ⟨#[]⟩) (.slice none 0 0))
    have K5' := Hid.of (pblk_set2 K3.out ⟨#[]⟩ (.slice none 0 0))
    have B5' := Hid.of (B3.out.grown G5.out (by have := B3.out.size; omega) (fun k hk => by cases hk; exact Nat.le_refl _))
    obtain ⟨q0, q1⟩ := K5'.out.at
    unfold set2 at q0 q1
    clear he0
    go_upto_region 2 with fail
    rw [HW3.out]
    clear HW3
    generalize w2.heap.size = vb at *
    go_wp2
    refine bodyPost_ret (v := .tuple #[polZero, .int .i64 e0, .int .i64 n0]) ?_ rfl ⟨_, by rw [RR.out], by rw [RR.out]; exact zero_own _ _, B5'.out⟩
    simp [results, Tryz.results17, go_sem, q0, q1]

/-- The landed package keeps what chapter 8 says. -/
def policies : PolicySpec where
  Ok := Nums
  kept h b := h.kept b
  parse t w h ht := parse_any t w h ht
  read t w h ht := read_any t w h ht
  check v p w _ hf hv := check_any v p w hf hv
  print v p w h hf hv := print_any v p w h hf hv
  same u v p q w _ hp _ hu hv := polSame_any u v p q w hp hu hv
  copy v p w _ hf hv := copy_any v p w hf hv

end Go.Proofs.YtadepjpmpjipmaaGreatDoor
