/-
  PolicyRules: what is told of a policy that may be holds; with one number spoilt it may not be, or says so still.
-/
import Derived.Deep.RegionWith
import Derived.Deep.RegionHeld3
import Derived.Deep.QuietTactic
import Derived.BigQuiet
import Derived.Deep.CutBlock
import Derived.Test.YtadepjpmpjipmaaDoorPSAq
import Derived.Test.YtadepjpmpjipmaaDoorPRLq
namespace Go.Proofs.YtadepjpmpjipmaaDoor
open Go.RowKit Go.Lib

theorem Step.of_grown' {w w' : World} {p : Nat} (g : w.grownBy w' (some p)) : Step (fun j => j = p) (fun j => j = p) w w' :=
  ⟨g.os, g.tape, g.output, g.size, fun k hk hn => g.block k hk (fun e => hn (Option.some.inj e)), fun _ h => .inl h⟩

theorem own_some {w : World} {B : Nat} {e : TypeId} {sz : Nat} {v : Value} {n : Nat} {xs : List Value} (h : w.ownsRow B e sz v n xs) (hn : 1 ≤ n) : ∃ g c, v = .slice (some ⟨g, 0, none⟩) n c := by
  rcases h.2 with ⟨_, h0⟩ | ⟨g, cap, cur, h0, _⟩
  · omega
  · exact ⟨g, cap, h0⟩

set_option maxRecDepth 20000 in
set_option maxHeartbeats 6400000 in
theorem policyRules_main (S : PolicySpec) (u : Value) (p : PolL) (k ev kp sh : Int) (w : World) (hS : S.Ok w) (hu : PolRow w u p) (hp : ∀ x ∈ p.2, TIn x) (he : In64 ev) (hk : In64 kp) (hsh : In64 sh) :
    Calls Tryd.prog 4 #[u, .int .i64 k, .int .i64 ev, .int .i64 kp, .int .i64 sh] w fun e w' => e = .returned (.bool true) ∧ Below w.heap.size w w' := by
  obtain ⟨sl, rfl, hsl, hsk⟩ := hu
  have HSL := Hid.of hsl
  obtain ⟨sa, sc, rfl, -⟩ := hsl
  obtain ⟨n, hn⟩ : ∃ n, p.1 = n := ⟨_, rfl⟩
  obtain ⟨N, hN⟩ : ∃ N, p.2.length = N := ⟨_, rfl⟩
  rw [hn, hN]
  rw [hN] at HSL
  have HSK : Hid (CapOk (.slice sa N sc)) := Hid.of (by rw [← hN]; exact hsk)
  clear hsk
  obtain ⟨w1, hw1⟩ : ∃ w1, w.alloc (.cells #[.string n, .slice sa N sc] 24) = w1 := ⟨_, rfl⟩
  have b1 : Below w.heap.size w w1 := by rw [← hw1]; exact (Below.refl _ _).alloc (Nat.le_refl _) _
  have K1 : Hid (PBlk w1 w.heap.size n (.slice sa N sc)) := Hid.of (by rw [← hw1]; exact PBlk.made w _ _)
  have QR : Hid (PolRow w (polVal n (.slice sa N sc)) p) := Hid.of ⟨_, by rw [hn], by rw [hN]; exact HSL.out, HSK.out⟩
  have HW := Hid.of hw1
  have B1 := Hid.of b1
  have HN := Hid.of hN
  have Hn := Hid.of hn
  have HS := Hid.of hS
  have HP := Hid.of hp
  have IN : Hid (In64 ev ∧ In64 kp ∧ In64 sh) := Hid.of ⟨he, hk, hsh⟩
  clear hw1 b1 hN hn hS hp he hk hsh
  go_enter Tryd.func4, Tryd.ntmps4
  go_wp2_with fail
  rw [HW.out]
  clear HW
  refine (Small_any _ p _ (QR.out.kept B1.out)).mono ?_
  rintro e w2 ⟨r, rfl, hr, b2⟩
  have K2 := Hid.of (K1.out.kept b2)
  have B2 := Hid.of (B1.out.trans (b2.mono B1.out.size))
  clear b2 K1 B1
  cases r with
  | false =>
    go_wp2_with fail
    refine (polAlive_any S _ (S.kept HS.out B2.out)).mono ?_
    rintro e w3 ⟨rfl, b3⟩
    go_wp2
    go_ret
    exact ⟨rfl, B2.out.trans (b3.mono B2.out.size)⟩
  | true =>
    have SP := Hid.of (fit_of HP.out (hr.out rfl))
    clear hr
    obtain ⟨d0, d1⟩ := K2.out.at
    go_wp2_with fail
    clear d0 d1
    refine (S.check _ p _ (S.kept HS.out B2.out) SP.out (QR.out.kept B2.out)).mono ?_
    rintro e w3 ⟨rfl, b3⟩
    have K3 := Hid.of (K2.out.kept b3)
    have B3 := Hid.of (B2.out.trans (b3.mono B2.out.size))
    clear b3 K2 B2
    rcases pCheck_cases p with hc | ⟨i, hi, hc⟩
    · have HC := Hid.of hc
      rw [hc]
      clear hc
      go_wp2_with fail
      go_loopw [13] (fun i wr => ∃ j : Nat, j ≤ N ∧ i = .int .i64 j ∧ Hid (PBlk wr w.heap.size n (.slice sa N sc)) ∧ Hid (Below w.heap.size w wr)) (fun i _ => N - (RowKit.intOf i).toNat)
      case atStart => exact ⟨0, Nat.zero_le _, rfl, K3, B3⟩
      case round =>
        clear K3 B3
        obtain ⟨j, hj, rfl, K, B⟩ := hrel
        obtain ⟨c0, c1⟩ := K.out.at
        have j0 : (0 : Int) ≤ (j : Int) := Int.natCast_nonneg _
        by_cases hlt : j < N
        · have j1 : (j : Int) < (N : Int) := by omega
          have hr := QR.out.kept B.out
          obtain ⟨s', hs', hrow, -⟩ := hr
          obtain rfl : s' = .slice sa N sc := by
            have := (Value.agg.inj hs')
            simp at this
            exact this.2.symm
          have hjl : j < p.2.length := by rw [HN.out]; exact hlt
          obtain ⟨xt, hxt⟩ : ∃ xt, p.2[j]? = some xt := ⟨_, List.getElem?_eq_getElem hjl⟩
          have HT := Hid.of (tier_known (by rw [HC.out]) hxt)
          rw [HN.out] at hrow
          obtain ⟨b1, o1, rfl, g1, hc1⟩ := p_at hrow j xt hxt
          obtain ⟨tn, te, tk, ts⟩ := xt
          obtain ⟨f0, f1, f2, f3⟩ := hc1
          simp only at f0 f1 f2 f3
          obtain ⟨wa, hwa⟩ : ∃ wa, wr.alloc (.cells #[.string tn, .int .i64 te, .int .i64 tk, .int .i64 ts] 37) = wa := ⟨_, rfl⟩
          have A : Below wr.heap.size wr wa := by rw [← hwa]; exact (Below.refl _ _).alloc (Nat.le_refl _) _
          have TB : TBlk wa wr.heap.size (tn, te, tk, ts) := by rw [← hwa]; exact TBlk.made wr (tn, te, tk, ts)
          obtain ⟨e0, e1, e2, e3⟩ := TB.at
          obtain ⟨c2, c3⟩ := (K.out.kept A).at
          simp only at e0 e1 e2 e3
          obtain ⟨h1, -, h2, -, h3, h4, -, h5, h6⟩ := HT.out
          simp only at h1 h2 h3 h4 h5 h6
          have n1 : decide (te < 1) = false := decide_eq_false (by omega)
          have n2 : decide (tk < 1) = false := decide_eq_false (by omega)
          have n3 : decide (ts < 1) = false := decide_eq_false (by omega)
          have n4 : decide (8 < ts) = false := decide_eq_false (by omega)
          rcases Nat.eq_zero_or_pos j with hj0 | hj0
          · have hte := h5 hj0
            subst hte
            have HWA := Hid.of hwa
            have q0 : ((j : Int) == 0) = true := by simp [hj0]
            have q1 : decide ((0 : Int) < (j : Int)) = false := decide_eq_false (by omega)
            have q2 : decide (0 < j) = false := decide_eq_false (by omega)
            have q3 : ¬ 0 < j := by omega
            have B5 := Hid.of (B.out.trans (A.mono B.out.size))
            have K5 := Hid.of (K.out.kept A)
            clear h5 h6 HT A hrow hs' hj0 n1 hwa TB
            go_wp2_with fail
            rw [HWA.out]
            clear HWA
            generalize wr.heap.size = tb at *
            refine wp_region_quiet_lit (by kernel_rfl) (by kernel_rfl) ?_
            simp only [List.append]
            repeat (go_big_quiet_step (fail))
            refine wpQuiet_nil ?_
            intro _ hw'
            obtain ⟨nq, hw''⟩ := hw'
            subst hw''
            go_wp2_with fail
            go_roundw
            case rel => exact ⟨j + 1, by omega, by go_num, Hid.of K5.out, Hid.of (below_drewN B5.out _)⟩
            case measure => simp [RowKit.intOf]; omega
          · obtain ⟨m, rfl⟩ : ∃ m, j = m + 1 := ⟨j - 1, by omega⟩
            obtain ⟨xo, hxo⟩ : ∃ xo, p.2[m]? = some xo := ⟨_, List.getElem?_eq_getElem (by omega)⟩
            obtain ⟨q1, q2, q3⟩ := h6 xo (by omega) (by simpa using hxo)
            have ho1 := (tier_known (by rw [HC.out]) hxo).1
            obtain ⟨b2, o2, hb2, -, hc2⟩ := p_at hrow m xo hxo
            obtain ⟨rfl, rfl⟩ : b1 = b2 ∧ o1 = o2 := by cases hb2; exact ⟨rfl, rfl⟩
            obtain ⟨on, oe, ok, os⟩ := xo
            obtain ⟨p0, p1, p2, p3⟩ := hc2
            simp only at p0 p1 p2 p3 q1 q2 q3 ho1
            have hAb : wa.heap[b1]? = wr.heap[b1]? := A.block b1 g1
            have HWA := Hid.of hwa
            rw [← World.cell?_of_block hAb] at p1 p2
            have r0 : (((m + 1 : Nat) : Int) == 0) = false := by rw [beq_eq_false_iff_ne]; omega
            have r1 : decide ((0 : Int) < ((m + 1 : Nat) : Int)) = true := decide_eq_true (by omega)
            have r2 : IntKind.i64.wrap (((m + 1 : Nat) : Int) - 1) = (m : Int) := by rw [show (((m + 1 : Nat) : Int) - 1) = (m : Int) by omega]; exact wrap_at m (by have := SP.out.1; omega)
            have r3 : (te % oe != 0) = false := by rw [q2]; rfl
            have r4 : (te == oe) = false := by rw [beq_eq_false_iff_ne]; omega
            have r5 : decide (tk < ok) = false := decide_eq_false (by omega)
            have r9 : decide ((0 : Int) < (m : Int) + 1) = true := decide_eq_true (by omega)
            have r10 : ((m : Int) + 1 == 0) = false := by rw [beq_eq_false_iff_ne]; omega
            have r11 : IntKind.i64.wrap ((m : Int) + 1 - 1) = (m : Int) := by rw [show ((m : Int) + 1 - 1) = (m : Int) by omega]; exact wrap_at m (by have := SP.out.1; omega)
            have r6 : (m : Int) < (N : Int) := by omega
            have r7 : (0 : Int) ≤ (m : Int) := Int.natCast_nonneg _
            have r8 : ¬ oe = 0 := by omega
            have r13 : (m : Int) ≤ 1000000 := by have := SP.out.1; omega
            have B5 := Hid.of (B.out.trans (A.mono B.out.size))
            have K5 := Hid.of (K.out.kept A)
            clear h5 h6 HT A hrow hs' hj0 hAb hb2 hxo p0 p3 hwa TB
            go_wp2_with fail
            rw [HWA.out]
            clear HWA
            generalize wr.heap.size = tb at *
            refine wp_region_quiet_lit (by kernel_rfl) (by kernel_rfl) ?_
            simp only [List.append]
            repeat (go_big_quiet_step (fail))
            refine wpQuiet_nil ?_
            intro _ hw'
            obtain ⟨nq, hw''⟩ := hw'
            subst hw''
            go_wp2_with fail
            go_roundw
            case rel => exact ⟨m + 1 + 1, by omega, by go_num, Hid.of K5.out, Hid.of (below_drewN B5.out _)⟩
            case measure => simp [RowKit.intOf]; omega
        · have j1 : ¬ (j : Int) < (N : Int) := by omega
          have BR := Hid.of B.out
          clear j0 hj hlt B
          by_cases k0 : k < 0
          · go_wp2_with fail
            refine (polAlive_any S _ (S.kept HS.out BR.out)).mono ?_
            rintro e wz ⟨rfl, bz⟩
            go_wp2
            go_ret
            exact ⟨rfl, BR.out.trans (bz.mono BR.out.size)⟩
          · by_cases k1 : (N : Int) ≤ k
            · go_wp2_with fail
              refine (polAlive_any S _ (S.kept HS.out BR.out)).mono ?_
              rintro e wz ⟨rfl, bz⟩
              go_wp2
              go_ret
              exact ⟨rfl, BR.out.trans (bz.mono BR.out.size)⟩
            · obtain ⟨i, rfl⟩ : ∃ i : Nat, k = i := ⟨k.toNat, by omega⟩
              have i0 : (0 : Int) ≤ (i : Int) := Int.natCast_nonneg _
              have i2 : (i : Int) < (N : Int) := by omega
              have i1 : i < p.2.length := by rw [HN.out]; omega
              have i9 : (i : Int) ≤ 1000000 := by have := SP.out.1; omega
              obtain ⟨xt, hxt⟩ : ∃ xt, p.2[i]? = some xt := ⟨_, List.getElem?_eq_getElem i1⟩
              obtain ⟨tn, te, tk, ts⟩ := xt
              have HX := Hid.of hxt
              obtain ⟨z0, hi, hz0, hz1, hz2⟩ := info_parts (show (Tryd.prog.info? 37).map (fun i => (i.zero, i.size, i.bytes)) = some (some (.agg #[.string ⟨#[]⟩, .int .i64 0, .int .i64 0, .int .i64 0]), 4, 40) by kernel_rfl)
              have HI := Hid.of hi
              have HZ0 := Hid.of hz0
              have HZ1 := Hid.of hz1
              have HZ2 := Hid.of hz2
              obtain ⟨wq, hwq⟩ : ∃ wq, wr.alloc (.cells #[.string n, .slice sa N sc] 24) = wq := ⟨_, rfl⟩
              have bq : Below wr.heap.size wr wq := by rw [← hwq]; exact (Below.refl _ _).alloc (Nat.le_refl _) _
              have KQ : Hid (PBlk wq wr.heap.size n (.slice sa N sc)) := Hid.of (by rw [← hwq]; exact PBlk.made wr _ _)
              have KP := Hid.of (K.out.kept bq)
              have BQ := Hid.of (BR.out.trans (bq.mono BR.out.size))
              have SZ : Hid (wq.heap.size = wr.heap.size + 1) := Hid.of (by rw [← hwq]; simp)
              have SW := Hid.of BR.out.size
              have HWQ := Hid.of hwq
              have hrow := (QR.out.kept BQ.out)
              obtain ⟨s', hs', hrow, -⟩ := hrow
              obtain rfl : s' = .slice sa N sc := by
                have := (Value.agg.inj hs')
                simp at this
                exact this.2.symm
              have HR := Hid.of hrow
              obtain ⟨c2, c3⟩ := KP.out.at
              obtain ⟨c4, c5⟩ := KQ.out.at
              rw [← hwq] at c2 c3 c4 c5
              have hN5 : N ≤ 5 := by have := (pCheck_ok (p := p) (by rw [HC.out])).2.2.2.1; have := HN.out; omega
              have hN5' := Hid.of hN5
              have hN1 : Hid (1 ≤ N) := Hid.of (by omega)
              clear hi hz0 hz1 hz2 hxt bq hwq hrow hs' hN5
              go_upto_region 16 with (at_builtin; go_loud (refine append_row_law rfl _ (.tmp 141) 22 rfl wq.heap.size 37 z0 (.agg #[.string ⟨#[]⟩, .int .i64 0, .int .i64 0, .int .i64 0]) 4 40 Tryd.underlying22 HI.out HZ0.out HZ1.out HZ2.out rfl (by decide) (.slice none 0 0) 0 [] rfl ⟨rfl, .inl ⟨rfl, rfl⟩⟩ _ N _ rfl (by rw [HWQ.out]; have h := HR.out; rw [HN.out] at h; exact h) (by rw [flat_length penc_len, HN.out]) (flat_ones penc_one p.2) (by have := hN5'.out; unfold maxLen; omega) (by have := hN5'.out; omega) (by rw [HWQ.out]; exact Nat.le_refl _) ?_); intro v6 w6 o6 g6; rw [Nat.zero_add, List.nil_append] at o6; obtain ⟨g, cc, rfl⟩ := own_some o6 hN1.out; have O6 := Hid.of o6; have B6 : Hid (Below wq.heap.size wq w6) := Hid.of (below_of_none (by rw [← HWQ.out]; exact g6)); have K6 := Hid.of (KQ.out.kept B6.out); have KP6 := Hid.of (KP.out.kept B6.out); have f6 : w6.frozen? ⟨wr.heap.size, 1, none⟩ = false := row_frozen K6.out; have d6 := K6.out.at.2; clear o6 g6)
              have K7 := row_set (i := 1) K6.out (.slice (some ⟨g, 0, none⟩) N cc)
              have G7 := grownBy_setCell w6 wr.heap.size 1 (.slice (some ⟨g, 0, none⟩) N cc)
              obtain ⟨w7, hw7⟩ : ∃ w7, w6.setCell ⟨wr.heap.size, 1, none⟩ (.slice (some ⟨g, 0, none⟩) N cc) = w7 := ⟨_, rfl⟩
              have H7 : Hid (SH S w wq.heap.size w.heap.size w.heap.size wr.heap.size n n (.slice sa N sc) (.slice sa N sc) (.slice (some ⟨g, 0, none⟩) N cc) p p p w7) := Hid.of (by
                have hsw := SW.out
                have hsz := SZ.out
                have kk : PBlk w7 w.heap.size n (.slice sa N sc) := by
                  have := KP6.out
                  unfold PBlk at this ⊢
                  rw [← hw7, G7.block _ (Array.getElem?_eq_some_iff.1 this).1 (fun e => by have := Option.some.inj e; have := (Array.getElem?_eq_some_iff.1 K.out).1; omega)]
                  exact this
                refine ⟨kk, kk, ?_, QR.out, QR.out, ?_, Hn.out, HS.out, ?_, Nat.le_refl _, by omega, by omega, by omega, fun g' hg' => by have := (O6.out.lt g' hg').1; omega⟩
                · rw [← hw7]
                  exact K7
                · rw [← hw7]
                  have := (Step.of_grown' G7).own O6.out (fun g' hg' c => by have := (O6.out.lt g' hg').1; simp only at c; omega)
                  rw [HN.out]
                  exact this
                · rw [← hw7]
                  have b6 := BQ.out.trans (B6.out.mono BQ.out.size)
                  exact b6.grown G7 b6.size (fun k hk => by cases hk; exact SW.out))
              rw [hw7]
              clear K7 G7 hw7 K6 KP6 d6 f6 O6 KQ KP c2 c3 c4 c5 HWQ BQ B6 K c0 c1 HR
              generalize wr.heap.size = a7 at *
              generalize wq.heap.size = B7 at *
              have FC : ∀ a b c : Int, In64 a → In64 b → In64 c → PFit (p.1, p.2.set i (tn, a, b, c)) := fun a b c ha hb hc => by
                have TI := SP.out.2.2 (tn, te, tk, ts) (List.mem_of_getElem? HX.out)
                refine ⟨by simpa using SP.out.1, SP.out.2.1, fun x hx => ?_⟩
                rcases List.mem_or_eq_of_mem_set hx with hx | rfl
                · exact SP.out.2.2 x hx
                · exact ⟨TI.1, ha, hb, hc⟩
              have TI := SP.out.2.2 (tn, te, tk, ts) (List.mem_of_getElem? HX.out)
              have F8 := Hid.of (FC te tk sh TI.2.1 TI.2.2.1 IN.out.2.2)
              have F9 := Hid.of (FC ev kp 1 IN.out.1 IN.out.2.1 (by unfold In64; decide))
              have C8 := Hid.of (pCheck_shards (by rw [HC.out]) HX.out sh)
              clear FC TI
              obtain ⟨c0, c1, -, -, c4, c5⟩ := H7.out.at
              obtain ⟨z3, y3⟩ := H7.out.zat HN.out.symm HX.out 3 (by decide) _ rfl
              have H8 := Hid.of (H7.out.put (c' := (p.1, p.2.set i (tn, te, tk, sh))) rfl (by simp) (tier_set HX.out (v := .int .i64 sh) (i := 3) (by decide) rfl) HN.out.symm)
              go_wp2_with fail
              clear c0 c1 c4 c5 z3 y3 H7
              generalize w7.setCell ⟨g, i * 4 + 3, none⟩ (.int .i64 sh) = w8 at *
              refine (S.check _ _ _ H8.out.ok F8.out H8.out.r7).mono ?_
              rintro e w9 ⟨rfl, b9⟩
              rw [C8.out]
              have H9 := Hid.of (H8.out.next b9)
              clear b9 H8 C8 w8
              have key : (1 ≤ sh ∧ sh ≤ 8) ∨ (¬ (1 ≤ sh ∧ sh ≤ 8) ∧ sh < 1) ∨ (¬ (1 ≤ sh ∧ sh ≤ 8) ∧ 1 ≤ sh ∧ 8 < sh) := by omega
              obtain ⟨c0, c1, -, -, c4, c5⟩ := H9.out.at
              obtain ⟨s', hs', hrow, -⟩ := H9.out.r3
              obtain rfl : s' = .slice sa N sc := by
                have := (Value.agg.inj hs')
                simp at this
                exact this.2.symm
              rw [HN.out] at hrow
              obtain ⟨b1, o1, rfl, -, hc1⟩ := p_at hrow i _ HX.out
              obtain ⟨p0, -, -, -⟩ := hc1
              simp only at p0
              have hq : (p.1, p.2.set i (tn, te, tk, sh)).2[i]? = some (tn, te, tk, sh) := List.getElem?_set_self i1
              have hqn : N = (p.1, p.2.set i (tn, te, tk, sh)).2.length := by simp [HN.out]
              obtain ⟨z0, y0⟩ := H9.out.zat hqn hq 0 (by decide) _ rfl
              obtain ⟨z1, y1⟩ := H9.out.zat hqn hq 1 (by decide) _ rfl
              obtain ⟨z2, y2⟩ := H9.out.zat hqn hq 2 (by decide) _ rfl
              obtain ⟨z3, y3⟩ := H9.out.zat hqn hq 3 (by decide) _ rfl
              rw [Nat.add_zero] at z0 y0
              clear hs' hrow hq hqn
              rcases key with hs | ⟨hs, hs2⟩ | ⟨hs, hs2, hs3⟩
              case' inl =>
                rw [if_pos hs]
                have e1 : (1 : Int) ≤ sh := hs.1
                have e2 : sh ≤ 8 := hs.2
                clear hs
                go_wp2_with fail
              case' inr.inl =>
                rw [if_neg hs]
                have e1 : ¬ (1 : Int) ≤ sh := by omega
                clear hs hs2
                go_wp2_with fail
              case' inr.inr =>
                rw [if_neg hs]
                have e2 : ¬ sh ≤ 8 := by omega
                clear hs
                go_wp2_with fail
              all_goals
                go_cut [] (fun wx => Hid (SH S w B7 w.heap.size w.heap.size a7 n n (.slice (some ⟨b1, o1, none⟩) N sc) (.slice (some ⟨b1, o1, none⟩) N sc) (.slice (some ⟨g, 0, none⟩) N cc) p p (p.1, p.2.set i (tn, ev, kp, 1)) wx))
                case first =>
                  have P := Hid.of (H9.out.put4 HN.out i1 (tn, ev, kp, 1))
                  refine wp_region_noPanic ?_
                  go_region_with (fail)
                  all_goals
                    refine NoPanic.normal ?_
                    go_wp2_with fail
                    go_meet
                    exact Hid.of P.out.drew_
                case rest =>
                  clear H9 c0 c1 c4 c5 p0 z0 y0 z1 y1 z2 y2 z3 y3
                  have H := hcut
                  obtain ⟨c0, c1, -, -, c4, c5⟩ := H.out.at
                  go_wp2_with fail
                  refine (S.check _ _ _ H.out.ok F9.out H.out.r7).mono ?_
                  rintro e wa ⟨rfl, ba⟩
                  have H2 := Hid.of (H.out.next ba)
                  clear ba c0 c1 c4 c5 H hcut
                  obtain ⟨c0, c1, -, -, c4, c5⟩ := H2.out.at
                  go_wp2_with fail
                  refine (refCheck_any _ _ _ H2.out.r7 F9.out.1 (by have := F9.out.2.1; unfold maxLen; omega) (fun x hx => by have := (F9.out.2.2 x hx).1; unfold maxLen; omega)).mono ?_
                  rintro e wb ⟨rfl, bb⟩
                  have H3 := Hid.of (H2.out.next bb)
                  clear bb c0 c1 c4 c5 H2
                  obtain ⟨q1, hq1⟩ : ∃ q, (pCheck (p.1, p.2.set i (tn, ev, kp, 1))).1 = q := ⟨_, rfl⟩
                  rw [hq1]
                  go_wp2_with fail
                  refine (polAlive_any S _ H3.out.ok).mono ?_
                  rintro e wd ⟨rfl, bd⟩
                  go_wp2
                  go_ret
                  exact ⟨rfl, H3.out.fr.trans (bd.mono H3.out.fr.size)⟩
    · rw [hc]
      have i0 : (0 : Int) ≤ (i : Int) := Int.natCast_nonneg _
      have i1 : (i : Int) ≤ (N : Int) := by have := HN.out; omega
      clear hc hi
      go_wp2_with fail
      refine (polAlive_any S _ (S.kept HS.out B3.out)).mono ?_
      rintro e w4 ⟨rfl, b4⟩
      obtain ⟨d0, d1⟩ := (K3.out.kept b4).at
      go_wp2
      go_ret
      exact ⟨rfl, B3.out.trans (b4.mono B3.out.size)⟩

end Go.Proofs.YtadepjpmpjipmaaDoor
