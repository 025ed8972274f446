/- SpansTwo is TRUE of every two lists of spans: the places that one has, that both have, that the first alone has, are the document's. Conditions: the row's own (none: it lists no package-level variable). -/
import Derived.Test.YtlofeaodpblagaaShut
import Derived.Test.YtlofeaodpblagaaOpenSpans
import Derived.Test.YtlofeaodpblagaaLawSpansTwo
import Derived.Test.YtlofeaodpblagaaSpansSC
import Derived.ProofKit
import Derived.OpenShut
namespace Go.Proofs.Ytlofeaodpblagaa
open Go.ChangeShapes Go.WideShapes Go.ChangeAt Go.RowKit
open Go.ChangeMaps (open_string)

set_option maxRecDepth 100000 in
theorem spansTwo_lifted (os : Os) (started : os.Started) (H : Type) (enc : TypeId × Value → H) :
    ReturnsInHanded {} Try.checked os 6 .any (Rows.spansTwoSpec.pre6 enc Try.prog Try.f6 Rows.spansTwoRow.domain false)
      (Rows.spansTwoSpec.post enc Try.prog Try.f6 false true false false) := by
  refine returnsInHanded_of_change (C := Try.checked) own started (by kernel_rfl) Try.func6
    (ChangeSpec.witness6 (enc := enc) (C := Try.checked) false ⟨#[], #[.slice none 0 0, .slice none 0 0], []⟩ 8 (by kernel_rfl) (by kernel_rfl) (by kernel_rfl) (by kernel_rfl)) ?_
  intro W base args ds gs before hval0 hW _ _
  have hval : ∀ (j : Nat) t v, Try.f6.params[j]? = some t → args[j]? = some v → Value.okWide Try.prog W .any base t v := hval0
  have hW' := hW
  obtain ⟨p, q, hA0, hV, rfl, _, _⟩ := hW
  have hA : DataW.TrodAll enc Try.prog W 0 (fun _ => true) true Try.f6.params.toList args.toList ds p := hA0
  have hA1 := hA
  rw [Try.params6] at hA hval
  obtain ⟨v0, v1, d0, d1, p0, p1, rfl, rfl, rfl, h0, h1⟩ := trodAll_two hA
  obtain ⟨rfl, rfl⟩ := trodVars_none hV
  obtain ⟨x0, r0, w0, ws0⟩ := open_spans (hval 0 22 v0 rfl rfl) h0
  obtain ⟨x1, r1, w1, ws1⟩ := open_spans (hval 1 22 v1 rfl rfl) h1
  simp only [List.append_nil] at hW'
  refine (lawSpansTwo_any sc v0 v1 x0 x1 W r0 r1 ws0 ws1).mono fun e W' ⟨he, hb⟩ => ?_
  subst he
  exact ⟨_, rfl, _, _, _, [], _, [], hW', trodAll_mk1 (shut_bool Try.underlying4 _), trodAll_below laidOut hb _ (by kernel_rfl) _ _ _ (fun x hx => by first | (exfalso; simp at hx; done) | exact hW'.lt x (by simpa using hx)) hA1, rfl, hb.frame _, fun h => by cases h⟩

theorem spansTwo_holds : Rows.SpansTwoSaid :=
  OpenClaim.holds_of_wide 6 Try.f6 rfl rfl rfl rfl rfl rfl rfl ⟨rfl, rfl, rfl, rfl, rfl⟩ rfl rfl rfl rfl rfl (by kernel_rfl) Try.func6 (by kernel_rfl)
    (of_decide_eq_true (by kernel_rfl)) (by unfold Func.isWrapper; first | (rw [if_pos (by decide +kernel)]; kernel_rfl) | (rw [if_neg (by decide +kernel)]; exact ⟨rfl, rfl⟩))
    (fun os started H enc _ => spansTwo_lifted os started H enc)
#print axioms spansTwo_holds
end Go.Proofs.Ytlofeaodpblagaa
