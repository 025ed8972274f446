/- SpansParts is TRUE of every two lists of spans and every three small numbers: what one has alone, what the other one has alone, and what both have, is all of it, and no place twice; two openings of one point are one by both. Conditions: the row's own (none: it lists no package-level variable). -/
import Derived.Test.YtlofeaodpblagaaShut
import Derived.Test.YtlofeaodpblagaaOpenSpans
import Derived.Test.YtlofeaodpblagaaLawSpansParts
import Derived.Test.YtlofeaodpblagaaSpansSC
import Derived.ProofKit
import Derived.OpenShut
namespace Go.Proofs.Ytlofeaodpblagaa
open Go.ChangeShapes Go.WideShapes Go.ChangeAt Go.RowKit
open Go.ChangeMaps (open_string)

set_option maxRecDepth 100000 in
theorem spansParts_lifted (os : Os) (started : os.Started) (H : Type) (enc : TypeId × Value → H) :
    ReturnsInHanded {} Try.checked os 7 .any (Rows.spansPartsSpec.pre6 enc Try.prog Try.f7 Rows.spansPartsRow.domain false)
      (Rows.spansPartsSpec.post enc Try.prog Try.f7 false true false false) := by
  refine returnsInHanded_of_change (C := Try.checked) own started (by kernel_rfl) Try.func7
    (ChangeSpec.witness6 (enc := enc) (C := Try.checked) false ⟨#[], #[.slice none 0 0, .slice none 0 0, .agg #[.int .u8 0, .int .u8 0, .int .u8 0]], []⟩ 8 (by kernel_rfl) (by kernel_rfl) (by kernel_rfl) (by kernel_rfl)) ?_
  intro W base args ds gs before hval0 hW _ _
  have hval : ∀ (j : Nat) t v, Try.f7.params[j]? = some t → args[j]? = some v → Value.okWide Try.prog W .any base t v := hval0
  have hW' := hW
  obtain ⟨p, q, hA0, hV, rfl, _, _⟩ := hW
  have hA : DataW.TrodAll enc Try.prog W 0 (fun _ => true) true Try.f7.params.toList args.toList ds p := hA0
  have hA1 := hA
  rw [Try.params7] at hA hval
  obtain ⟨v0, v1, v2, d0, d1, d2, p0, p1, p2, rfl, rfl, rfl, h0, h1, h2⟩ := trodAll_three hA
  obtain ⟨rfl, rfl⟩ := trodVars_none hV
  obtain ⟨x0, r0, w0, ws0⟩ := open_spans (hval 0 22 v0 rfl rfl) h0
  obtain ⟨x1, r1, w1, ws1⟩ := open_spans (hval 1 22 v1 rfl rfl) h1
  obtain ⟨a2, b2, c2, rfl, wa2, wb2, wc2⟩ := open_u8x3 (hval 2 39 v2 rfl rfl) h2
  simp only [List.append_nil] at hW'
  refine (lawSpansParts_any sc v0 v1 x0 x1 a2 b2 c2 W r0 r1 wa2 wb2 wc2).mono fun e W' ⟨he, hb⟩ => ?_
  subst he
  exact ⟨_, rfl, _, _, _, [], _, [], hW', trodAll_mk1 (shut_bool Try.underlying4 _), trodAll_below laidOut hb _ (by kernel_rfl) _ _ _ (fun x hx => by first | (exfalso; simp at hx; done) | exact hW'.lt x (by simpa using hx)) hA1, rfl, hb.frame _, fun h => by cases h⟩

theorem spansParts_holds : Rows.SpansPartsSaid :=
  OpenClaim.holds_of_wide 7 Try.f7 rfl rfl rfl rfl rfl rfl rfl ⟨rfl, rfl, rfl, rfl, rfl⟩ rfl rfl rfl rfl rfl (by kernel_rfl) Try.func7 (by kernel_rfl)
    (of_decide_eq_true (by kernel_rfl)) (by unfold Func.isWrapper; first | (rw [if_pos (by decide +kernel)]; kernel_rfl) | (rw [if_neg (by decide +kernel)]; exact ⟨rfl, rfl⟩))
    (fun os started H enc _ => spansParts_lifted os started H enc)
#print axioms spansParts_holds
end Go.Proofs.Ytlofeaodpblagaa
