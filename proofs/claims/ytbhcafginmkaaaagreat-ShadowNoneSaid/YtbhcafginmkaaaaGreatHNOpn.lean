/-
  Proved: statement ShadowNone: for every input the call returns true, and each argument reads behind it as it did before. Conditions: none beyond the row's own (no cell of it narrows the input).
-/
import Derived.Deep.QuietTactic
import Derived.BigQuiet
import Derived.Test.YtbhcafginmkaaaaGreatHNOn
import Derived.Test.YtbhcafginmkaaaaGreatN48
import Derived.Test.YtbhcafginmkaaaaGreatN19
import Derived.Test.YtbhcafginmkaaaaGreatN34
import Derived.Test.YtbhcafginmkaaaaGreatRSSn
import Derived.Test.YtbhcafginmkaaaaGreatN26
import Derived.Test.YtbhcafginmkaaaaGreatN21
import Derived.Test.YtbhcafginmkaaaaGreatN27
import Derived.Test.YtbhcafginmkaaaaGreatN11
import Derived.Test.YtbhcafginmkaaaaGreatN04
namespace Go.Proofs.YtbhcafginmkaaaaGreat.shadowNone
open Go.ChangeShapes Go.WideShapes Go.ChangeAt Go.RowKit Go.Proofs.YtbhcafginmkaaaaGreat
open Go.ChangeMaps (open_string shut_string)

theorem readable : Readable [159, 3] := by
  intro t ht
  have h : ([159, 3].all fun t => Tryz.prog.readableRec t && decide (t < Tryz.prog.types.size)) = true := by kernel_rfl
  simpa using List.all_eq_true.1 h t ht

set_option maxRecDepth 100000 in
theorem lifted (os : Os) (started : os.Started) (H : Type) (enc : TypeId × Value → H) :
    ReturnsInHanded {} Tryz.checked os 8 .any (Rows.shadowNoneSpec.pre6 enc Tryz.prog Tryz.f8 Rows.shadowNoneRow.domain false) (Rows.shadowNoneSpec.post enc Tryz.prog Tryz.f8 false true false false) := by
  refine returnsInHanded_of_change (C := Tryz.checked) own started (by kernel_rfl) Tryz.func8
    (ChangeSpec.witness6 (enc := enc) (C := Tryz.checked) false ⟨#[], #[.agg #[.string ⟨#[]⟩, .int .i64 0, .int .i64 0], .int .i64 0], []⟩ 8 (by kernel_rfl) (by kernel_rfl) (by kernel_rfl) (by kernel_rfl)) ?_
  intro W base args ds gs before hval0 hW hcnd _
  have hval : ∀ (j : Nat) t v, Tryz.f8.params[j]? = some t → args[j]? = some v → Value.okWide Tryz.prog W .any base t v := hval0
  have hW' := hW
  obtain ⟨p, q, hA0, hV, rfl, hfz, hnd⟩ := hW
  have hA : DataW.TrodAll enc Tryz.prog W 0 (fun _ => true) true Tryz.f8.params.toList args.toList ds p := hA0
  rw [Tryz.params8] at hA hval
  obtain ⟨rfl, rfl⟩ := trodVars_none hV
  clear hA0 hval0
  simp only [List.append_nil] at hW'
  have hlt : ∀ x ∈ p, x.block < W.heap.size := fun x hx => by simpa using hW'.lt x hx
  obtain ⟨v0, vs0, d0, ds0, p0, q0, hargs, rfl, rfl, h0, r0⟩ := trodAll_cons hA
  obtain ⟨v1, vs1, d1, ds1, p1, q1, rfl, rfl, rfl, h1, r1⟩ := trodAll_cons r0
  obtain ⟨rfl, rfl, rfl⟩ := trodAll_nil r1
  obtain rfl : args = #[v0, v1] := by cases args; simp_all
  obtain ⟨a0, rfl, g0⟩ := smp_of_trod (hval 0 159 v0 rfl rfl) h0
  obtain ⟨a1, rfl, rfl, e1, w1⟩ := open_int Tryz.underlying3 (hval 1 3 v1 rfl rfl) h1
  refine (shadowNone_main tiers (fun _ => trivial) a0.1 a0.2.1 a0.2.2 a1 W).mono fun e W' ⟨he, hnx⟩ => ?_
  subst he
  exact ⟨_, rfl, _, _, _, [], _, [], hW', trodAll_mk1 (shut_bool Tryz.underlying4 _), trodAll_below hnx _ readable hA hlt, rfl, hnx.frame _, fun h => by cases h⟩

set_option maxHeartbeats 8000000 in
theorem proved : Rows.ShadowNoneSaid :=
  OpenClaim.holds_of_wide 8 Tryz.f8 rfl rfl rfl rfl rfl rfl rfl ⟨rfl, rfl, rfl, rfl, rfl⟩ rfl rfl rfl rfl rfl (by as_aux_lemma => kernel_rfl) Tryz.func8 (by as_aux_lemma => kernel_rfl)
    (of_decide_eq_true (by as_aux_lemma => kernel_rfl)) (by as_aux_lemma => unfold Func.isWrapper; first | (rw [if_pos (by decide +kernel)]; kernel_rfl) | (rw [if_neg (by decide +kernel)]; exact ⟨rfl, rfl⟩))
    (fun os started H enc _ => lifted os started H enc)

end Go.Proofs.YtbhcafginmkaaaaGreat.shadowNone
