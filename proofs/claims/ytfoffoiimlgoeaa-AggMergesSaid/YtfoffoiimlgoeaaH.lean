/-
  What method Done of a Packer answers: the bytes that were put, or the first error.
-/
import Derived.Test.YtfoffoiimlgoeaaG
import Derived.Lib.LazyBuf
namespace Go.Proofs.Ytfoffoiimlgoeaa
open Go.RowKit Go.Lib

set_option maxHeartbeats 400000 in
theorem Done_nil (w : World) :
    Calls Try.prog 34 #[.pointer none] w fun e w' => e = .returned (.tuple #[.string ⟨#[]⟩, .int .i64 1]) ∧ w = w' := by
  go_enter Try.func34, Try.ntmps34
  go_wp2
  go_ret2
  exact ⟨rfl, rfl⟩

set_option maxHeartbeats 400000 in
theorem Done_bad (B p : Nat) (l : List UInt8) (bad : Int) (hb : (bad != 0) = true) (w : World) (h : Pk B p l bad w) :
    Calls Try.prog 34 #[.pointer (some ⟨p, 0, none⟩)] w fun e w' => e = .returned (.tuple #[.string ⟨#[]⟩, .int .i64 bad]) ∧ Below w.heap.size w w' := by
  have c1 := h.bad
  clear h
  go_enter Try.func34, Try.ntmps34
  go_wp2_with (go_at_call 47; refine (stopped_yes p bad hb _ c1).mono ?_; rintro e w' ⟨rfl, rfl⟩)
  go_region
  all_goals (go_wp2; go_ret2; exact ⟨rfl, (Below.refl _ _).drew⟩)

theorem step_copy {ops : Array Oper} {o : Oper} {a : Act} {w : World} {K : Act → World → Prop} {Q : Exit → Act → World → Prop} {E : Prop}
    (hg : o.guard = none) (d x : Operand) (hop : o.op = Op.call { callee := Callee.builtin Builtin.copy, args := #[d, x], argTypes := #[60, 9] })
    (b off dLen dCap : Nat) (hd : a.eval d = .slice (some ⟨b, off, none⟩) dLen dCap) (t : ByteArray) (hx : a.eval x = .string t) (hle : t.size ≤ dLen)
    (n : Nat) (f : Nat → Value) (hr : w.rowIs b 5 n f) (ho : off + t.size ≤ n)
    (hK : K (a.put o.dst (goInt t.size)) (w.setCells b off (strCells t))) :
    if Region.wanted o (yielded ops a.tmps) = true then Oper.wp Try.prog o a w K Q else E := by
  obtain ⟨cs, hb, hs, hc⟩ := hr
  refine step_copy_string hg d x 60 9 hop 5 Try.underlying60 (fun _ => by kernel_rfl) b off dLen dCap hd t hx hle ?_ ?_ hK
  · intro j hj
    have := hc (off + j) (by omega)
    simp [World.cell?, hb, this]
  · intro j _
    simp [World.frozen?, hb]

theorem row_of_made {w : World} {B A n : Nat} (h : w.ownsRow B 5 1 (.slice (some ⟨A, 0, none⟩) n n) n (Lib.byteCells (List.replicate n 0))) : w.rowIs A 5 n (fun _ => .int .u8 0) := by
  obtain ⟨_, h | ⟨g, cap, cur, hv, _, hg, _, _, hcs, htk⟩⟩ := h
  · exact absurd h.1 (by simp)
  · simp only [Value.slice.injEq, Option.some.injEq, Addr.mk.injEq, true_and, and_true] at hv
    obtain ⟨rfl, rfl⟩ := hv
    refine ⟨cur, hg, by simpa using hcs, fun i hi => ?_⟩
    have h1 : cur.toList.take (n * 1) = cur.toList := List.take_of_length_le (by simp [hcs])
    rw [h1] at htk
    have h2 : cur[i]? = cur.toList[i]? := by simp
    rw [h2, htk]
    simp [Lib.byteCells, hi]

theorem cells_of_rowIs {w : World} {A : Nat} {l : List UInt8} {f : Nat → Value} (h : w.rowIs A 5 l.length f) (hf : ∀ i, 0 ≤ i → i < l.length → f i = .int .u8 ((l.getD i 0).toNat : Int)) :
    ∀ j (hj : j < l.length), w.cell? ((⟨A, 0, none⟩ : Addr).add j) = some (.int .u8 (l[j].toNat : Int)) := by
  intro j hj
  have hadd : (⟨A, 0, none⟩ : Addr).add j = ⟨A, j, none⟩ := by unfold Addr.add; split <;> simp_all
  rw [hadd, h.cell hj, hf j (Nat.zero_le _) hj]
  simp [List.getD, hj]

theorem round_row {l s : List UInt8} {r' : List (List UInt8)} {q : ByteArray} {e : Nat} {f : Nat → Value} (hpre : whole (s :: r') <+: l) (hqd : q.data.toList = s) (hqs : q.size = s.length) (hwl : e = (whole r').length + s.length)
    (hf : ∀ i, e ≤ i → i < l.length → f i = .int .u8 ((l.getD i 0).toNat : Int)) :
    Hid (∀ i, e - q.size ≤ i → i < l.length → (fun j => if e - q.size ≤ j ∧ j < e - q.size + (strCells q).length then (strCells q)[j - (e - q.size)]?.getD default else f j) i = .int .u8 ((l.getD i 0).toNat : Int)) := by
  intro i h1 h2
  obtain ⟨rest, rfl⟩ := hpre
  rw [whole_cons] at h2 ⊢
  have hsl : (strCells q).length = s.length := by rw [strCells_length, hqs]
  have ho : e - q.size = (whole r').length := by omega
  rw [ho] at h1
  simp only [ho, hsl]
  by_cases hc : i < (whole r').length + s.length
  · rw [if_pos ⟨h1, hc⟩]
    have hlt : i - (whole r').length < s.length := by omega
    have e1 : (strCells q)[i - (whole r').length]? = some (.int .u8 ((s[i - (whole r').length]'hlt).toNat : Int)) := by
      rw [strCells_eq, hqd]
      simp [Lib.byteCells, hlt]
    rw [e1]
    have e2 : (whole r' ++ s ++ rest).getD i 0 = s[i - (whole r').length]'hlt := by
      rw [List.append_assoc, List.getD, List.getElem?_append_right h1, List.getElem?_append_left hlt, List.getElem?_eq_getElem hlt]
      rfl
    rw [e2]
    rfl
  · rw [if_neg (by omega)]
    rw [hf i (by omega) (by rw [whole_cons]; exact h2), whole_cons]

set_option maxHeartbeats 400000 in
theorem Done_good (B p : Nat) (l : List UInt8) (w : World) (h : Pk B p l 0 w) (hl : l.length ≤ 140737488355328) :
    Calls Try.prog 34 #[.pointer (some ⟨p, 0, none⟩)] w fun e w' => e = .returned (.tuple #[.string ⟨l.toArray⟩, .int .i64 0]) ∧ Below w.heap.size w w' := by
  have c1 := h.bad
  have c0 := h.at
  obtain ⟨r0, last, hrow, hch, hwh, hB⟩ := h
  have c2 : w.cell? ⟨p, 2, none⟩ = some (.pointer last) := by rw [cell_of_row w p 2 _ _ _ hrow]; rfl
  have hp : p < w.heap.size := (Array.getElem?_eq_some_iff.1 hrow).1
  have HC := Hid.of hch
  have HW := Hid.of hwh
  clear hrow hch hwh
  go_enter Try.func34, Try.ntmps34
  go_wp2_with (first | (go_at_call 47; refine (stopped_no p _ c1).mono ?_; rintro e w' ⟨rfl, rfl⟩) | (at_make; refine make_bytes _ rfl _ _ rfl w.heap.size _ _ l.length rfl rfl rfl rfl hl (Nat.le_refl _) ?_; intro w1 ho1 hg1; have d0 : w1.cell? ⟨p, 0, none⟩ = some (.int .i64 l.length) := hg1.cell c0 (by simp); have d2 : w1.cell? ⟨p, 2, none⟩ = some (.pointer last) := hg1.cell c2 (by simp); clear c0 c1 c2))
  have hrow1 := row_of_made ho1
  have HM1 : Hid (∀ i, l.length ≤ i → i < l.length → (fun _ => Value.int .u8 0 : Nat → Value) i = .int .u8 ((l.getD i 0).toNat : Int)) := fun i h1 h2 => absurd h2 (by omega)
  go_loopw [5, 6] (fun ev x wr => ∃ (r : List (List UInt8)) (e : Nat) (lp : Option Addr) (f : Nat → Value), ev = .int .i64 e ∧ x = .pointer lp ∧ e ≤ l.length ∧ Hid (Chain w B p r lp) ∧ Hid (e = (whole r).length) ∧ Hid (whole r <+: l) ∧ Below w.heap.size w wr ∧ Hid (wr.rowIs w.heap.size 5 l.length f) ∧ Hid (∀ i, e ≤ i → i < l.length → f i = .int .u8 ((l.getD i 0).toNat : Int))) (fun ev _ _ => (intOf ev).toNat)
  case atStart => exact ⟨r0, l.length, last, _, rfl, rfl, Nat.le_refl _, HC, by rw [HW.out]; exact Hid.of rfl, by rw [HW.out]; exact Hid.of (List.prefix_refl l), below_of_none hg1, Hid.of hrow1, HM1⟩
  case round =>
    obtain ⟨r, e, lp, f, rfl, rfl, hel, hch, hen, hpre, hbe, hri, hf⟩ := hrel
    clear d0 d2 hrow1 HM1 ho1 hg1
    cases lp with
    | none =>
      have hr0 : r = [] := by
        cases r with
        | nil => rfl
        | cons s r' => obtain ⟨_, _, hv, _⟩ := hch.out; cases hv
      subst hr0
      have he0 : e = 0 := by rw [hen.out]; rfl
      subst he0
      have hcv := run_convert_bytes_back (P := Try.prog) wr 60 9 5 ⟨w.heap.size, 0, none⟩ l.length l Try.underlying60 Try.underlying5 Try.underlying9 (cells_of_rowIs hri.out hf.out)
      go_wp2
      go_ret2
      exact ⟨rfl, hbe⟩
    | some ad =>
      match r, hch.out with
      | s :: r', hh =>
        obtain ⟨g, prev, hv, hs, hBg, hgp, hcell, hrest⟩ := hh
        obtain rfl := Option.some.inj hv
        obtain ⟨q, hq⟩ : ∃ q : ByteArray, q = ⟨s.toArray⟩ := ⟨_, rfl⟩
        have hgl : g < w.heap.size := (Array.getElem?_eq_some_iff.1 hcell).1
        have k0 : wr.cell? ⟨g, 0, none⟩ = some (.pointer prev) := by rw [hbe.cell hgl, cell_of_row w g 0 _ _ _ hcell]; rfl
        have k1 : wr.cell? ⟨g, 1, none⟩ = some (.string q) := by rw [hbe.cell hgl, cell_of_row w g 1 _ _ _ hcell, hq]; rfl
        have hqs : q.size = s.length := by rw [hq]; rfl
        have hqd : q.data.toList = s := by rw [hq]
        have hwl : e = (whole r').length + s.length := by rw [hen.out, whole_cons, List.length_append]
        have hql : q.size ≤ e := by omega
        have hq0 : 0 < q.size := by rw [hqs]; exact List.length_pos_iff.2 hs
        have H := Hid.of (And.intro hqs (And.intro hqd (And.intro hwl (And.intro hq hrest))))
        clear hqs hqd hwl hcell hs hv hq hrest
        have hx1 : ((e : Int) - (q.size : Int)) ≤ (l.length : Int) := by omega
        have hx2 : ¬ l.length = e - q.size := by omega
        go_wp2_with fail
        have hbe2 : Below w.heap.size w (wr.drew.setCells w.heap.size (e - q.size) (strCells q)) := below_setCells (Nat.le_refl _) _ _ _ hbe.drew
        have k2 : (wr.drew.setCells w.heap.size (e - q.size) (strCells q)).cell? ⟨g, 0, none⟩ = some (.pointer prev) := by rw [hbe2.cell hgl, ← hbe.cell hgl]; exact k0
        go_region_law (refine step_copy rfl (.tmp 48) (.tmp 52) rfl w.heap.size (e - q.size) (l.length - (e - q.size)) (l.length - (e - q.size)) (by simp [Act.eval]) q (by simp [Act.eval]) (by omega) l.length f hri.out (by omega) ?_)
        go_wp2
        go_roundw
        case rel =>
          obtain ⟨hqs, hqd, hwl, hq, hrest⟩ := H.out
          exact ⟨r', e - q.size, prev, _, by rw [Int.natCast_sub hql], rfl, by omega, hrest, Hid.of (by omega), Hid.of (by have h := hpre.out; rw [whole_cons] at h; exact (List.prefix_append _ _).trans h), hbe2,
            Hid.of (rowIs_setCells (strCells q) (e - q.size) wr.drew f hri.out), round_row hpre.out hqd hqs hwl hf.out⟩
        case measure => simp [intOf]; omega

end Go.Proofs.Ytfoffoiimlgoeaa
