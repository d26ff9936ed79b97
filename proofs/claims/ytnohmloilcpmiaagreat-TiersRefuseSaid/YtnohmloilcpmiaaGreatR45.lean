/-
  A bundle of texts: TMR.
-/
import Derived.Test.YtnohmloilcpmiaaGreatR37
import Derived.Test.YtnohmloilcpmiaaGreatR44
import Derived.Test.YtnohmloilcpmiaaGreatR22
namespace Go.Proofs.YtnohmloilcpmiaaGreat
open Go.RowKit Go.Lib

/-- How many blocks so many records take. -/
def blk (c : Nat) : Nat := (c + 2) / 3

theorem ceil_blk (c : Nat) (hc : c ≤ 1000000) : gCeil (c : Int) 3 = ((blk c * 3 : Nat) : Int) := by
  unfold gCeil
  rw [if_neg (by decide)]
  obtain ⟨g1, g2⟩ := gPast_bounds (c : Int) (e := 3) (by decide)
  have g3 : gPast (c : Int) 3 = (c : Int) % 3 := rfl
  unfold blk
  split
  · omega
  · rw [if_neg (by omega)]
    omega

set_option maxHeartbeats 800000 in
theorem blocks_any (c : Nat) (hc : c ≤ 1000000) (w : World) :
    Calls Tryz.prog 137 #[.int .i64 c] w fun x w' => x = .returned (.int .i64 (blk c : Nat)) ∧ ∃ q, w' = w.drewN q := by
  have hce := Ceil_any (c : Int) 3 ⟨by omega, by omega⟩ ⟨by decide, by decide⟩ w
  rw [ceil_blk c hc] at hce
  obtain ⟨k, hk⟩ : ∃ k, blk c = k := ⟨_, rfl⟩
  rw [hk] at hce ⊢
  have hkc : k ≤ 1000000 := by rw [← hk]; unfold blk; omega
  obtain ⟨z, hz⟩ : ∃ z : Int, ((k * 3 : Nat) : Int) = z := ⟨_, rfl⟩
  rw [hz] at hce
  have hzq : z / 3 = (k : Int) := by rw [← hz]; omega
  have HZ := Hid.of hzq
  have hz0 : 0 ≤ z ∧ z ≤ 3000000 := by omega
  have hz1 := hz0.1
  have hz2 := hz0.2
  clear hz hk hzq hz0
  go_enter Tryz.func137, Tryz.ntmps137
  go_wp2_with fail
  refine hce.mono ?_
  rintro x w1 ⟨rfl, q, rfl⟩
  go_wp2
  rw [HZ.out]
  go_ret
  exact ⟨rfl, q, rfl⟩

/-- How many records of a shard are counted. -/
def cSh (l : List TRec) (left : ByteArray → Bool) (n k : Int) : Nat := cntN l fun x => !left x && decide (nShard x n = k)

theorem cSh_next {l : List TRec} {left : ByteArray → Bool} {s : ByteArray} (h : left s = true) (n k : Int) : cSh l (lessN left s) n k = cSh l left n k + if k = nShard s n then (ser l s).length else 0 := by
  unfold cSh
  by_cases hk : k = nShard s n
  · rw [if_pos hk]
    refine cntN_more (by simp [h]) (fun x => ?_)
    by_cases hx : x = s
    · subst hx; simp [lessN, hk]
    · simp [lessN, hx]
  · rw [if_neg hk, Nat.add_zero]
    congr 1
    funext x
    by_cases hx : x = s
    · subst hx
      have : decide (nShard x n = k) = false := decide_eq_false (fun c => hk c.symm)
      rw [this, Bool.and_false, Bool.and_false]
    · simp [lessN, hx]
theorem cSh_start {l : List TRec} {left : ByteArray → Bool} (h : ∀ x ∈ l, left x.n = true) (n k : Int) : cSh l left n k = 0 := cntN_none fun x hx => by rw [h x hx]; rfl
theorem cSh_end {l : List TRec} {left : ByteArray → Bool} (h : ∀ x ∈ l, left x.n = false) (n k : Int) : cSh l left n k = (tShard l k n).length := by
  unfold cSh cntN tShard
  exact congrArg List.length (List.filter_congr (fun x hx => by simp only [h x hx, Bool.not_false, Bool.true_and]))
theorem cSh_le (l : List TRec) (left : ByteArray → Bool) (n k : Int) : cSh l left n k ≤ l.length := cntN_le l _

/-- The sum over the shards that are left. -/
def sumL (N : Nat) (left : Int → Bool) (f : Int → Nat) : Nat := ((List.range N).map fun k : Nat => if left (k : Int) = true then f k else 0).sum

theorem sumL_succ (N : Nat) (left : Int → Bool) (f : Int → Nat) : sumL (N + 1) left f = sumL N left f + if left (N : Int) = true then f N else 0 := by
  unfold sumL
  rw [List.range_succ, List.map_append, List.sum_append]
  simp

theorem sumL_take {N : Nat} {left : Int → Bool} {f : Int → Nat} {s : Int} (hs : left s = true) (h0 : 0 ≤ s) (hN : s < (N : Int)) : sumL N (fun x => left x && !decide (x = s)) f + f s = sumL N left f := by
  induction N with
  | zero => omega
  | succ N ih =>
    rw [sumL_succ, sumL_succ]
    by_cases h : s = (N : Int)
    · have e : ∀ M : Nat, M ≤ N → sumL M (fun x => left x && !decide (x = s)) f = sumL M left f := fun M hM => by
        induction M with
        | zero => rfl
        | succ M ihM =>
          rw [sumL_succ, sumL_succ, ihM (by omega)]
          have : ((M : Int) = s) = False := by simp; omega
          simp [this]
      rw [e N (Nat.le_refl _), ← h, hs]
      simp
    · have := ih (by omega)
      have e : ((N : Int) = s) = False := by simp; omega
      simp only [e, decide_false, Bool.not_false, Bool.and_true]
      omega

theorem sumL_none {N : Nat} {left : Int → Bool} {f : Int → Nat} (h : ∀ s, left s = false) : sumL N left f = 0 := by
  induction N with
  | zero => rfl
  | succ N ih => rw [sumL_succ, ih, h]; rfl

/-- Shards that have no records take no blocks. -/
theorem sumL_need {l : List TRec} {n : Int} {left : Int → Bool} {f : Int → Nat} (hf : ∀ k, f k = blk (tShard l k n).length) (h : ∀ k, left k = false → (tShard l k n).length = 0) : sumL (max n 1).toNat left f = tNeed l n := by
  unfold tNeed sumL
  congr 1
  refine List.map_congr_left fun k _ => ?_
  by_cases hk : left (k : Int) = true
  · rw [if_pos hk, hf]
    rfl
  · rw [if_neg hk, h _ (by simpa using hk)]

abbrev iT : Tryz.prog.underlying 3 = some (.int .i64) := Tryz.underlying3
abbrev imT : Tryz.prog.underlying 171 = some (.map 3 3) := Tryz.underlying171
theorem int_zero (w : World) : (zeroValue 3).run Tryz.prog w = .ok (.int .i64 0) w := by
  obtain ⟨i0, hi, hz0, hz1, hz2⟩ := info_parts (show (Tryz.prog.info? 3).map (fun i => (i.zero, i.size, i.bytes)) = some (some (.int .i64 0), 1, 8) by kernel_rfl)
  simp [zeroValue, typeInfo, hi, hz0]

theorem nShard_low (s : ByteArray) (n : Int) (h : TIn64 n) : 0 ≤ nShard s n ∧ nShard s n < max n 1 ∧ (-9223372036854775808 ≤ nShard s n ∧ nShard s n ≤ 9223372036854775807) := by
  by_cases c : n < 1
  · have : nShard s n = 0 := by unfold nShard; rw [if_pos c]
    rw [this]
    omega
  · have := nShard_in s n (by omega)
    unfold TIn64 at h
    omega

theorem tNeed_le (l : List TRec) (n : Int) : tNeed l n ≤ l.length := by
  by_cases c : 1 ≤ n
  · exact (tNeed_bounds l n c).2
  · have e0 : ∀ k : Int, tShard l k n = tShard l k 1 := fun k => by
      unfold tShard
      refine List.filter_congr fun x _ => ?_
      have h0 : nShard x.n n = 0 := by unfold nShard; rw [if_pos (by omega)]
      have h1 : nShard x.n 1 = 0 := by have := nShard_in x.n 1 (by decide); omega
      rw [h0, h1]
    have e1 : tNeed l n = tNeed l 1 := by
      unfold tNeed
      rw [show max n 1 = max 1 1 by omega]
      simp only [e0]
    rw [e1]
    exact (tNeed_bounds l 1 (by decide)).2

set_option maxHeartbeats 3200000 in
set_option maxRecDepth 20000 in
theorem need_any {w : World} {p : Nat} {e : Int} {l : List TRec} {F : TFoot} (n : Int) (h : TRep w p e l F) (hl : l.length ≤ 1000) (hn64 : TIn64 n) :
    Calls Tryz.prog 58 #[tptr p, .int .i64 n] w fun x w' => x = .returned (.int .i64 (tNeed l n : Nat)) ∧ Below w.heap.size w w' := by
  have hTM := tNeed_le l n
  obtain ⟨T, hT⟩ : ∃ T, tNeed l n = T := ⟨_, rfl⟩
  rw [hT] at hTM ⊢
  have TT := Hid.of hT
  clear hT
  obtain ⟨b, m, h, -⟩ := h
  have H := Hid.of h
  obtain ⟨M, hM⟩ : ∃ M, l.length = M := ⟨_, rfl⟩
  have LN := Hid.of hM
  have N64 := Hid.of hn64
  have hmk := run_makeMap (P := Tryz.prog) 171 w
  rw [hM] at hl
  clear h hM hn64
  go_enter Tryz.func58, Tryz.ntmps58
  go_upto_region 2 with fail
  obtain ⟨cb, hcb⟩ : ∃ cb, w.heap.size = cb := ⟨_, rfl⟩
  obtain ⟨w1, hw1⟩ : ∃ w1, w.alloc (.map #[] 0) = w1 := ⟨_, rfl⟩
  have B1 : Hid (Below w.heap.size w w1) := Hid.of (by rw [← hw1]; exact (Below.refl _ _).alloc (Nat.le_refl _) _)
  have MI1 : Hid (MapI Tryz.prog 3 w1 cb 0 (fun _ => none)) := Hid.of (by rw [← hw1, ← hcb]; exact MapI.made w)
  have HCB : Hid (w.heap.size = cb) := Hid.of hcb
  have H1 := Hid.of (H.out.below B1.out)
  have hall := tall_any H1.out
  have hm : TMap w1 b M m := by have := H1.out.map; rw [LN.out] at this; exact this
  rw [hw1, hcb]
  clear hmk hw1 hcb
  go_wp2_with fail
  refine hall.mono ?_
  rintro x w2 ⟨rfl, rfl⟩
  go_wp2_with (first
    | (at_range; refine wpList_range_text _ rfl _ 153 rfl 9 152 kT mT b M m rfl hm ?_; intro w3 c0 hrg0 hc0 hg0 hs0)
    | go_in)
  go_frame
  obtain ⟨r0, hr0⟩ : ∃ r0, w2.heap.size = r0 := ⟨_, rfl⟩
  rw [hr0] at hrg0 ⊢
  have R0 : Hid (cb < r0 ∧ w.heap.size ≤ r0 ∧ b < w.heap.size) := Hid.of ⟨by rw [← hr0]; exact MI1.out.lt, by rw [← hr0]; exact B1.out.size, H.out.map.lt⟩
  have B3 := Hid.of (B1.out.grown hg0 B1.out.size (fun j hj => by cases hj))
  have M3 : Hid (MapI Tryz.prog 3 w3 cb 0 (fun _ => none)) := Hid.of (MI1.out.at (hg0.block cb MI1.out.lt (by simp)))
  have RG0 := Hid.of hrg0
  have HC0 := Hid.of hc0
  clear hg0 hs0 hm hall hrg0 hr0 hc0
  go_loopg [] M (fun kx wr => ∃ (left : ByteArray → Bool) (cnt nb : Nat) (mi : Int → Option Value), cnt ≤ kx ∧ nb + cnt ≤ M ∧ Hid (RangeIs Tryz.prog 9 wr b r0 M m left cnt) ∧ Hid (MapI Tryz.prog 3 wr cb nb mi) ∧ Hid (∀ k, (mi k).getD (.int .i64 0) = .int .i64 (cSh l left n k : Nat)) ∧ Hid (∀ k, mi k ≠ none → 0 ≤ k ∧ k < max n 1) ∧ Hid (∀ s, left s = true → (m s).isSome = true) ∧ Hid (Below w.heap.size w wr))
  case atStart =>
    refine ⟨_, c0, 0, _, HC0.out, by have := HC0.out; omega, RG0, M3, Hid.of (fun k => ?_), Hid.of (fun k c => absurd rfl c), Hid.of (fun s hs => hs), B3⟩
    rw [cSh_start (fun x hx => (H.out.some_of hx).2)]
    rfl
  case round =>
    obtain ⟨left, cnt, nb, mi, hck, hnb, RG, MI, HG, HK, HL, HB⟩ := hrel
    have hrg := RG.out
    go_wp2_with (first
      | (at_next; refine wpList_next_text _ rfl _ rfl 9 kT b r0 M m left cnt rfl hrg ?_ ?_)
      | go_in)
    · intro h0 hdone
      have HG2 : Hid (∀ k, (mi k).getD (.int .i64 0) = .int .i64 ((tShard l k n).length : Nat)) := Hid.of (fun k => by rw [HG.out k, cSh_end (fun x hx => hdone _ (H.out.some_of hx).1)])
      have hmi := MI.out
      clear hdone h0 hrg RG HG HL
      go_wp2_with (first
        | (at_range; refine wpList_range_i _ rfl _ 171 rfl 3 3 iT imT cb nb mi rfl hmi ?_; intro w5 c5 hrg5 hc5 hg5 hs5)
        | go_in)
      go_frame
      generalize hwq : wr = wq at *
      obtain ⟨r1, hr1⟩ : ∃ r1, wq.heap.size = r1 := ⟨_, rfl⟩
      rw [hr1] at hrg5 ⊢
      have B5 := Hid.of (HB.out.grown hg5 HB.out.size (fun j hj => by cases hj))
      have R1 : Hid (w.heap.size ≤ r1) := Hid.of (by rw [← hr1]; exact HB.out.size)
      have RG5 := Hid.of hrg5
      clear hg5 hs5 hmi hrg5 hr1
      have T0 : Hid (sumL (max n 1).toNat (fun s => (mi s).isSome) (fun k => blk (tShard l k n).length) = T) := Hid.of (by
        rw [← TT.out]
        refine sumL_need (fun k => rfl) (fun k hk => ?_)
        have := HG2.out k
        cases hmk : mi k with
        | none => rw [hmk] at this; simp only [Option.getD_none, Value.int.injEq] at this; omega
        | some v => rw [hmk] at hk; cases hk)
      go_loopg [8] nb (fun kx av wz => ∃ (lf : Int → Bool) (cn a : Nat), av = .int .i64 a ∧ cn ≤ kx ∧ Hid (RangeI Tryz.prog 3 wz cb r1 nb mi lf cn) ∧ Hid (a + sumL (max n 1).toNat lf (fun k => blk (tShard l k n).length) = T) ∧ Hid (Below w.heap.size w wz))
      case atStart => exact ⟨_, c5, 0, rfl, hc5, RG5, Hid.of (by rw [Nat.zero_add]; exact T0.out), B5⟩
      case round =>
        obtain ⟨lf, cn, a, rfl, hcn, RGI, HS, HBZ⟩ := hrel
        have hrg := RGI.out
        go_wp2_with (first
          | (at_next; refine wpList_next_i _ rfl _ rfl 3 iT cb r1 nb mi lf cn rfl hrg ?_ ?_)
          | go_in)
        · intro h0 hdone
          have ha : a = T := by have := HS.out; rw [sumL_none hdone] at this; omega
          subst ha
          clear hdone h0 hrg
          go_wp2
          go_ret
          exact ⟨rfl, HBZ.out⟩
        · intro s v w6 cn' hls hms hrg6 hlt hg6 hs6 hen
          obtain ⟨k0, k1⟩ := HK.out s (by rw [hms]; exact fun c => by cases c)
          have hv : v = .int .i64 ((tShard l s n).length : Nat) := by have := HG2.out s; rw [hms] at this; exact this
          subst hv
          have hsum := sumL_take (f := fun k => blk (tShard l k n).length) hls k0 (N := (max n 1).toNat) (by omega)
          have hcl : (tShard l s n).length ≤ M := by rw [← LN.out]; exact List.length_filter_le ..
          obtain ⟨C, hC⟩ : ∃ C, (tShard l s n).length = C := ⟨_, rfl⟩
          rw [hC] at hen hcl
          have hbl := blocks_any C (by omega) w6
          obtain ⟨B, hB⟩ : ∃ B, blk C = B := ⟨_, rfl⟩
          have hsum2 : a + B + sumL (max n 1).toNat (fun x => lf x && !decide (x = s)) (fun k => blk (tShard l k n).length) = T := by
            have := HS.out
            simp only [hC, hB] at hsum
            omega
          have SM := Hid.of hsum2
          have hab : a + B ≤ 1000 := by have := LN.out; omega
          rw [hB] at hbl
          have RG6 := Hid.of hrg6
          have B6 := Hid.of (below_next HBZ.out hg6 R1.out HBZ.out.size)
          clear hsum hsum2 hms hls hrg hrg6 hg6 hs6 hC hB
          go_wp2_with fail
          refine hbl.mono ?_
          rintro x w7 ⟨rfl, z, rfl⟩
          go_wp2
          go_roundg cn'
          case measure => omega
          case rel =>
            exact ⟨_, cn', a + B, by go_num, Nat.le_refl _, Hid.of (RG6.out.at rfl rfl), SM, below_drewN B6.out z |> Hid.of⟩
    · intro s v w4 cnt' hs hls hms hrg1 hlt hg1 hs1 hen
      have hv := (H.out.known hs hms).2.1
      obtain ⟨va, vc, rfl, -, -⟩ := own_shape hv
      obtain ⟨k, hk⟩ : ∃ k, (ser l s).length = k := ⟨_, rfl⟩
      have hnx := fun j => cSh_next (l := l) hls n j
      have hle := cSh_le l (lessN left s) n (nShard s n)
      rw [hnx, if_pos rfl, LN.out] at hle
      rw [hk] at hen hle
      have KE := Hid.of hk
      have NX := Hid.of hnx
      have RG4 := Hid.of hrg1
      have B4 := Hid.of (below_next HB.out hg1 R0.out.2.1 HB.out.size)
      have M4 := Hid.of (MI.out.at (hg1.block cb MI.out.lt (fun c => by have := R0.out; have := Option.some.inj c; omega)))
      have LE : Hid (∀ x, lessN left s x = true → (m x).isSome = true) := Hid.of fun x hx => HL.out x (by simp [lessN] at hx; exact hx.1)
      obtain ⟨k0, k1, k2⟩ := nShard_low s n N64.out
      have hsh := shard_any s hs n w4
      have hc := HG.out (nShard s n)
      obtain ⟨sh, hsh2⟩ : ∃ sh, nShard s n = sh := ⟨_, rfl⟩
      rw [hsh2] at hsh hc hle k0 k1 k2
      obtain ⟨c, hcc⟩ : ∃ c, cSh l left n sh = c := ⟨_, rfl⟩
      rw [hcc] at hle hc
      have HC := Hid.of hc
      have CC := Hid.of hcc
      have SE := Hid.of hsh2
      have K2 := Hid.of k2
      clear hv hk hnx hrg hrg1 hg1 hs1 hms hls hsh2 hcc hc k2
      go_wp2_with fail
      refine hsh.mono ?_
      rintro x w5 ⟨rfl, z, hz⟩
      have b5 : Below w4.heap.size w4 w5 := by rw [hz]; exact below_drewN (Below.refl _ _) z
      have RG5 := Hid.of (RG4.out.at (b5.block b RG4.out.is.lt) (b5.block _ RG4.out.lt))
      have hm5 := M4.out.at (b5.block cb M4.out.lt)
      have B5 := Hid.of (B4.out.trans (b5.mono B4.out.size))
      have hnb1 : nb < maxLen := by unfold maxLen; omega
      clear b5 hz hsh
      go_wp2_with (first
        | (at_lookup; refine wpList_look_i _ rfl _ _ 171 rfl 3 3 iT imT cb nb mi (int_zero _) rfl hm5 sh rfl K2.out (.int .i64 c) HC.out ?_)
        | (at_mapUpdate; refine wpList_store_i _ rfl _ _ _ 171 rfl 3 3 iT imT cb nb mi rfl hm5 hnb1 sh rfl K2.out (.int .i64 (c + k : Nat)) (by go_num) ?_; intro w6 hm6 ht6)
        | go_in)
      go_roundg cnt'
      case measure => omega
      case rel =>
        refine ⟨lessN left s, cnt', nb + 1, _, Nat.le_refl _, by omega, Hid.of ?_, Hid.of hm6, Hid.of (fun j => ?_), Hid.of (fun j hj => ?_), LE, Hid.of (B5.out.grown ht6.grown B5.out.size (fun j hj => by cases hj; exact Nat.le_of_eq HCB.out))⟩
        · have hr := RG5.out.lt
          have hb := RG5.out.is.lt
          have := R0.out
          have := HCB.out
          exact RG5.out.at (ht6.grown.block b hb (fun c => by have := Option.some.inj c; omega)) (ht6.grown.block r0 hr (fun c => by have := Option.some.inj c; omega))
        · unfold imPut
          rw [NX.out j, SE.out]
          by_cases e : j = sh
          · rw [if_pos e, if_pos e, e, CC.out, KE.out]
            rfl
          · rw [if_neg e, if_neg e]
            exact HG.out j
        · unfold imPut at hj
          by_cases e : j = sh
          · rw [e]
            exact ⟨k0, k1⟩
          · rw [if_neg e] at hj
            exact HK.out j hj

end Go.Proofs.YtnohmloilcpmiaaGreat
