/-
  The landed package dev keeps the document's words on each call.
-/
import Derived.Test.YtpgiknejgolllaaEH
namespace Go.Proofs.Ytpgiknejgolllaa
open Go.RowKit Go.Lib

theorem fstep_of {w w' : World} {p : Nat} {F : Foot} {A' : Nat → Prop} (ho : ∀ k, F.own k ↔ k = p) (g : w.grownBy w' (some p)) (hA : ∀ k, A' k → F.all k ∨ w.heap.size ≤ k) : FStep F ⟨(· = p), A'⟩ w w' :=
  ⟨⟨g.os, g.tape, g.output, g.size, fun k hk hn => g.block k hk (by intro e; exact hn ((ho k).2 (by simpa using e))), fun k hk => .inl ((ho k).2 hk)⟩, hA⟩

theorem Done.rep {w w' : World} {p : Nat} {F : Foot} {s' : DSt} (ho : ∀ k, F.own k ↔ k = p) (h : Done w w' p F.all s') : ∃ F', DRep w' p s' F' ∧ FStep F F' w w' := by
  obtain ⟨⟨d', A', f', g', a, b⟩, fr⟩ := h
  exact ⟨⟨(· = p), A'⟩, ⟨fun k => Iff.rfl, d', f', g', a⟩, fstep_of ho fr b⟩

theorem cells_one {w : World} {p : Nat} {d : DV} {A : Nat → Prop} {s : DSt} {f g : Nat → ByteArray} (h : DIn w p d A s f g) : ∀ v ∈ d.cells, v.oneCell' = true := by
  intro v hv
  unfold DV.cells DV.head at hv
  simp only [List.mem_append, List.mem_cons, List.not_mem_nil, or_false] at hv
  rcases hv with hv | hv | hv | hv
  · rcases hv with rfl | rfl | rfl | rfl | rfl | rfl
    · rfl
    · rfl
    · rfl
    · rfl
    · have := h.arms
      cases ha : s.armed with
      | none =>
        rw [ha] at this
        obtain ⟨_, a, n, c, e⟩ := this
        rw [e]
        rfl
      | some x =>
        obtain ⟨n, ks⟩ := x
        rw [ha] at this
        obtain ⟨_, _, _, _, ⟨a, c, e, _⟩, _⟩ := this
        rw [e]
        rfl
    · rfl
  · exact h.now.one v hv
  · exact h.lasts.one v hv
  · rcases hv with rfl | rfl
    · exact h.chain.one.1
    · rfl

theorem fresh_in {w : World} {p n : Nat} (h : DBlk w p (dvFresh n)) (h1 : 1 ≤ n) (h2 : n ≤ 4096) : DIn w p (dvFresh n) (· = p) (DSt.fresh n) (fun _ => ⟨#[]⟩) (fun _ => ⟨#[]⟩) := by
  have hh : Holds (fun _ => ⟨#[]⟩) (List.replicate n (fillText 0)) := by
    refine ⟨fun i t ht => ?_, fun _ => .inl rfl⟩
    rw [List.getElem?_replicate] at ht
    split at ht
    · simp only [Option.some.injEq] at ht
      rw [← ht]
      rfl
    · cases ht
  have hs : Shelves w (· = p) p (List.replicate 64 (.pointer none)) (fun _ => ⟨#[]⟩) := fun j v hv => by
    rw [List.getElem?_replicate] at hv
    split at hv
    · simp only [Option.some.injEq] at hv
      exact .inl ⟨hv.symm, fun _ _ => rfl⟩
    · cases hv
  refine ⟨h, rfl, rfl, ?_, rfl, hs, hh, hs, hh, rfl, ⟨rfl, _, _, _, rfl⟩, rfl, fun k hk => ?_, ?_, fun x hx => absurd hx (by simp [DSt.fresh])⟩
  · simp [DSt.fresh, dvFresh]
  · have := h.lt
    omega
  · simp [DSt.fresh]
    omega

theorem arm_any (w : World) (p : Nat) (d : DV) (A : Nat → Prop) (s : DSt) (f g : Nat → ByteArray) (h : DIn w p d A s f g) (n : Int) (v : Value) (ks : List Int) (hv : CellRow w v ks.length (ks.map (Value.int .i64))) (ho : ks ≠ [] → Off (· = p) v) (hk : ks.length ≤ 100000) (hn : n ≤ 1000000) :
    Calls Try.prog 20 #[dptr p, .int .i64 n, v] w fun e w' => e = .returned (.tuple #[]) ∧ Done w w' p A (s.arm n ks) := by
  by_cases h0 : n < 0
  · refine (arm_off w p d n v h.blk h0).mono ?_
    rintro e w' ⟨rfl, b, fr⟩
    refine ⟨rfl, ⟨⟨_, A, f, g, h.spent (s' := s.arm n ks) b fr h.on h.done rfl rfl rfl rfl rfl rfl rfl ?_, fun k hk => .inl hk⟩, fr⟩⟩
    unfold DSt.arm
    rw [if_pos h0]
    exact ⟨rfl, _, _, _, rfl⟩
  · refine (arm_on w p d n v ks h.blk (by omega) hv hk ho).mono ?_
    rintro e w' ⟨rfl, u, b, c, o, fr⟩
    have hb : ∀ k, A k → k ≠ p → w'.heap[k]? = w.heap[k]? := fun k hk hp => fr.block k (h.lt k hk) (by simpa using hp)
    have hA : ∀ k, A k → (A k ∨ (w.heap.size ≤ k ∧ k < w'.heap.size)) := fun _ k => .inl k
    refine ⟨rfl, ⟨⟨{ d with armed := true, left := n, keep := u }, fun k => A k ∨ (w.heap.size ≤ k ∧ k < w'.heap.size), f, g, ?_, fun k hk => ?_⟩, fr⟩⟩
    · refine ⟨b, h.on, h.done, h.blocks, h.waiting, h.now.kept hA hb, h.cur, h.lasts.kept hA hb, h.last, h.chain.kept hA hb, ?_, .inl h.own, fun k hk => ?_, h.room, h.good⟩
      · unfold DSt.arm
        rw [if_neg h0]
        refine ⟨rfl, ?_, by omega, hk, c, fun hx k hk => ⟨.inr (o hx k hk), fun e => ?_⟩⟩
        · show n = (n.toNat : Int)
          omega
        · have := (o hx k hk).1
          have := h.blk.lt
          omega
      · rcases hk with hk | hk
        · exact Nat.lt_of_lt_of_le (h.lt k hk) fr.size
        · exact hk.2
    · rcases hk with hk | hk
      · exact .inl hk
      · exact .inr hk.1

theorem off_own {F : Foot} {p : Nat} {v : Value} {ks : List Int} (ho : ∀ k, F.own k ↔ k = p) (h : ks ≠ [] → Off F.own v) : ks ≠ [] → Off (· = p) v :=
  fun hx g hg hp => h hx g hg ((ho g).2 hp)

theorem ret_bool {P : Program} {k : FuncId} {args : Array Value} {w : World} {v v' : Value} (e : v = v') (h : Calls P k args w fun e w' => e = .returned v ∧ w' = w) : Calls P k args w fun e w' => e = .returned v' ∧ Below w.heap.size w w' := by
  subst e
  refine h.mono ?_
  rintro e w' ⟨rfl, rfl⟩
  exact ⟨rfl, Below.refl _ _⟩

def disk : DiskSpec where
  Rep := DRep
  lt := fun {w p s F} h => by
    obtain ⟨_, d, f, g, i⟩ := h
    exact i.lt
  sub := fun {w p s F} h k hk => by
    obtain ⟨ho, d, f, g, i⟩ := h
    rw [(ho k).1 hk]
    exact i.own
  kept := fun {w w' p s F} h hs hb => by
    obtain ⟨ho, d, f, g, i⟩ := h
    exact ⟨ho, d, f, g, i.kept hs hb⟩
  new := fun n w h1 h2 => by
    refine (New_any n w h1 h2).mono ?_
    rintro e w' ⟨p, rfl, b, hp, hb⟩
    exact ⟨p, ⟨(· = p), (· = p)⟩, rfl, ⟨fun k => Iff.rfl, _, _, _, fresh_in b h1 h2⟩, fun k hk => by
      have hk : k = p := hk
      omega, hb⟩
  isOn := fun {w p s F} h => by
    obtain ⟨_, d, f, g, i⟩ := h
    exact ret_bool (by rw [i.on]) (isOn_any w p d i.blk)
  writes := fun {w p s F} h _ => by
    obtain ⟨_, d, f, g, i⟩ := h
    exact ret_bool (by rw [i.done]) (writes_any w p d i.blk)
  blocks := fun {w p s F} h _ => by
    obtain ⟨_, d, f, g, i⟩ := h
    exact ret_bool (by rw [i.blocks]) (blocks_any w p d i.blk)
  waiting := fun {w p s F} h _ => by
    obtain ⟨_, d, f, g, i⟩ := h
    exact ret_bool (by rw [i.waiting]) (waiting_any w p d i.blk)
  read := fun {w p s F} i h _ => by
    obtain ⟨_, d, f, g, k⟩ := h
    exact read_any w p d _ s f g k i
  write := fun {w p s F} i t h hs _ => by
    obtain ⟨ho, d, f, g, k⟩ := h
    refine (write_any w p d _ s f g k hs i t).mono ?_
    rintro e w' ⟨rfl, c⟩
    exact ⟨rfl, c.rep ho⟩
  flush := fun {w p s F} h hs => by
    obtain ⟨ho, d, f, g, k⟩ := h
    refine (flush_any w p d _ s f g k hs).mono ?_
    rintro e w' ⟨rfl, c⟩
    exact ⟨rfl, c.rep ho⟩
  cut := fun {w p s F} v ks h hs hv hoff hk => by
    obtain ⟨ho, d, f, g, k⟩ := h
    refine (cut_any w p d _ s f g k hs v ks hv (off_own ho hoff) hk).mono ?_
    rintro e w' ⟨rfl, c⟩
    exact ⟨rfl, c.rep ho⟩
  restore := fun {w p s F} h _ => by
    obtain ⟨ho, d, f, g, k⟩ := h
    refine (restore_any w p d _ s f g k).mono ?_
    rintro e w' ⟨rfl, c⟩
    exact ⟨rfl, c.rep ho⟩
  arm := fun {w p s F} n v ks h _ hv hoff hk hn => by
    obtain ⟨ho, d, f, g, k⟩ := h
    refine (arm_any w p d _ s f g k n v ks hv (off_own ho hoff) hk hn).mono ?_
    rintro e w' ⟨rfl, c⟩
    exact ⟨rfl, c.rep ho⟩
  twin := fun {w p s F} h _ => by
    obtain ⟨ho, d, f, g, k⟩ := h
    refine (Twin_any w p d k.blk (cells_one k)).mono ?_
    rintro e w' ⟨q, rfl, b, hq, hb⟩
    have hlt := k.lt
    have hA : ∀ x, F.all x → x ≠ p → ((F.all x ∧ x ≠ p) ∨ x = q) ∧ x ≠ q := fun x hx hp => ⟨.inl ⟨hx, hp⟩, fun e => by
      have := hlt x hx
      omega⟩
    have hk : ∀ x, F.all x → x ≠ p → w'.heap[x]? = w.heap[x]? := fun x hx _ => hb.block x (hlt x hx)
    refine ⟨q, ⟨(· = q), fun x => (F.all x ∧ x ≠ p) ∨ x = q⟩, rfl, ⟨fun x => Iff.rfl, d, f, g, ?_⟩, fun x hx => ?_, fun x hx => ?_, hb⟩
    · refine ⟨b, k.on, k.done, k.blocks, k.waiting, k.now.moved hA hk, k.cur, k.lasts.moved hA hk, k.last, k.chain.moved hA hk, k.arms.moved hA hb.size hk rfl rfl rfl, .inr rfl, fun x hx => ?_, k.room, k.good⟩
      rcases hx with hx | hx
      · exact Nat.lt_of_lt_of_le (hlt x hx.1) hb.size
      · rw [hx]
        exact b.lt
    · have hx : x = q := hx
      omega
    · rcases hx with hx | hx
      · exact .inl hx.1
      · exact .inr (by omega)

end Go.Proofs.Ytpgiknejgolllaa
