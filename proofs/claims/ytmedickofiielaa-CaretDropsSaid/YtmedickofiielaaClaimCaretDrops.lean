/- Where any mark is when any cells are dropped is the document's. -/
import Derived.Test.YtmedickofiielaaGNumsPlain
import Derived.Test.YtmedickofiielaaGNameEq
import Derived.Test.YtmedickofiielaaGCaretAlive
import Derived.Test.YtmedickofiielaaGCellsMayP
import Derived.ProofKit
import Derived.OpenShut
namespace Go.Proofs.Ytmedickofiielaa
open Go.ChangeShapes Go.WideShapes Go.ChangeAt Go.RowKit
open Go.ChangeMaps (open_string)

set_option maxRecDepth 100000 in
theorem caretDrops_lifted (os : Os) (started : os.Started) (H : Type) (enc : TypeId × Value → H) :
  ReturnsInHanded {} Try.checked os 3 .any (Rows.caretDropsSpec.pre6 enc Try.prog Try.f3 Rows.caretDropsRow.domain false)
   (Rows.caretDropsSpec.post enc Try.prog Try.f3 false true false false) := by
 refine returnsInHanded_of_change (C := Try.checked) own started (by kernel_rfl) Try.func3
  (ChangeSpec.witness6 (enc := enc) (C := Try.checked) false ⟨#[], #[.agg #[.int .i64 0, .int .i64 0, .int .i64 0], .slice none 0 0], []⟩ 8 (by kernel_rfl) (by kernel_rfl) (by kernel_rfl) (by kernel_rfl)) ?_
 intro W base args ds gs before hval0 hW _ _
 have hval : ∀ (j : Nat) t v, Try.f3.params[j]? = some t → args[j]? = some v → Value.okWide Try.prog W .any base t v := hval0
 have hW' := hW
 obtain ⟨p, q, hA0, hV, rfl, _, _⟩ := hW
 have hA : DataW.TrodAll enc Try.prog W 0 (fun _ => true) true Try.f3.params.toList args.toList ds p := hA0
 have hA1 := hA
 rw [Try.params3] at hA hval
 obtain ⟨v0, v1, d0, d1, p0, p1, rfl, rfl, rfl, h0, h1⟩ := trodAll_two hA
 obtain ⟨rfl, rfl⟩ := trodVars_none hV
 obtain ⟨ms0, ma0, mt0, rfl, ws0, wa0, wt0⟩ := open_mark (hval 0 23 v0 rfl rfl) h0
 obtain ⟨x1, r1, w1, ws1⟩ := open_spans (hval 1 24 v1 rfl rfl) h1
 simp only [List.append_nil] at hW'
 refine (lawCaretDrops_any ka kdrop ms0 ma0 mt0 v1 x1 W r1 ws1 ws0 wa0 wt0).mono fun e W' ⟨he, hb⟩ => ?_
 subst he
 exact ⟨_, rfl, _, _, _, [], _, [], hW', trodAll_mk1 (shut_bool Try.underlying4 _), trodAll_below laidOut hb _ (by kernel_rfl) _ _ _ (fun x hx => by first | (exfalso; simp at hx; done) | exact hW'.lt x (by simpa using hx)) hA1, rfl, hb.frame _, fun h => by cases h⟩

theorem caretDrops_holds : Rows.CaretDropsSaid :=
 OpenClaim.holds_of_wide 3 Try.f3 rfl rfl rfl rfl rfl rfl rfl ⟨rfl, rfl, rfl, rfl, rfl⟩ rfl rfl rfl rfl rfl (by kernel_rfl) Try.func3 (by kernel_rfl)
  (of_decide_eq_true (by kernel_rfl)) (by unfold Func.isWrapper; first | (rw [if_pos (by decide +kernel)]; kernel_rfl) | (rw [if_neg (by decide +kernel)]; exact ⟨rfl, rfl⟩))
  (fun os started H enc _ => caretDrops_lifted os started H enc)
#print axioms caretDrops_holds
end Go.Proofs.Ytmedickofiielaa
