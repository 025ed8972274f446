/- VectAsks is TRUE of every two lists of numbers and every name: whether a list is a vector, its counts, what it has and covers, and the order of two, are the document's. Conditions: the row's own (what its list of package-level variables holds, as the program's text lays them). -/
import Derived.Test.YthbophioohcphaaDoorCards
import Derived.Test.YthbophioohcphaaDoorTie
import Derived.Test.YthbophioohcphaaDoorOpen64
import Derived.Test.YthbophioohcphaaDoorShut
import Derived.Test.YthbophioohcphaaDoorVectVC
import Derived.Test.YthbophioohcphaaDoorLawVectAsks2
import Derived.Test.YthbophioohcphaaDoorLawVectAsks3
import Derived.ProofKit
import Derived.OpenShut
import Derived.LaidMore
import Derived.Lay
import Derived.SevenTiedAt
import Derived.Stop.Joined
namespace Go.Proofs.YthbophioohcphaaDoor
open Go.ChangeShapes Go.WideShapes Go.ChangeAt Go.RowKit
open Go.ChangeMaps (open_string)

set_option maxRecDepth 100000 in
theorem vectAsks_lifted (os : Os) (started : os.Started) (H : Type) (enc : TypeId × Value → H) :
    ReturnsInHanded {} Tryd.checked os 5 .any (fun w args => (Rows.vectAsksSpec.pre enc Tryd.prog Tryd.f5 [] false w args ∧ laidMetH Tryd.prog Rows.vectAsksRow.laid w) ∧ sizedMet enc Tryd.prog Tryd.f5 (OpenSpec.ofChange Rows.vectAsksSpec) false w args)
      (Rows.vectAsksSpec.post enc Tryd.prog Tryd.f5 false true false false) := by
  refine returnsInHanded_of_change_and (C := Tryd.checked) (X := fun w _ => laidMetH Tryd.prog Rows.vectAsksRow.laid w) (fun _ _ _ hh h => h.of_heap hh) own started (by kernel_rfl) Tryd.func5
    (ChangeSpec.witness_shaped (enc := enc) (C := Tryd.checked) (os := os) (X := fun w _ => laidMetH Tryd.prog Rows.vectAsksRow.laid w) false (World.laidAll Tryd.prog os Rows.vectAsksRow.laid) #[.slice none 0 0, .slice none 0 0, .agg #[.int .i64 0, .int .i64 0]] 8 (World.laidAll_os _ _ _)
      (World.shaped_of_ZipB (by kernel_rfl) (by kernel_rfl)) (by kernel_rfl) (by kernel_rfl) (by kernel_rfl)
      (by rw [MakeChecks.laidMetH_plain _ _ _ (by kernel_rfl)]; exact laidMet_laidAll _ (by kernel_rfl) (by kernel_rfl))) ?_
  intro W base args ds gs before hval0 hW _ _ _ _
  have hval : ∀ (j : Nat) t v, Tryd.f5.params[j]? = some t → args[j]? = some v → Value.okWide Tryd.prog W .any base t v := hval0
  have hW' := hW
  obtain ⟨p, q, hA0, hV, rfl, _, _⟩ := hW
  have hA : DataW.TrodAll enc Tryd.prog W 0 (fun _ => true) true Tryd.f5.params.toList args.toList ds p := hA0
  have hA1 := hA
  rw [Tryd.params5] at hA hval
  obtain ⟨v0, v1, v2, d0, d1, d2, p0, p1, p2, rfl, rfl, rfl, h0, h1, h2⟩ := trodAll_three hA
  obtain ⟨rfl, rfl⟩ := trodVars_none hV
  obtain ⟨x0, r0, w0, _⟩ := open_ints64 (hval 0 34 v0 rfl rfl) h0
  obtain ⟨x1, r1, w1, _⟩ := open_ints64 (hval 1 34 v1 rfl rfl) h1
  obtain ⟨s2, q2, rfl, ws2, wq2⟩ := open_name (hval 2 23 v2 rfl rfl) h2
  simp only [List.append_nil] at hW'
  refine (lawVectAsks_any' vc v0 v1 x0 x1 s2 q2 W r0 r1 ws2 wq2 fun m1 m2 mn => lawVectAsks_yes vc v0 v1 x0 x1 s2 q2 W m1 m2 mn r0 r1 ws2 wq2).mono fun e W' ⟨he, hb⟩ => ?_
  subst he
  exact ⟨_, rfl, _, _, _, [], _, [], hW', trodAll_mk1 (shut_bool Tryd.underlying4 _), trodAll_below laidOut hb _ (by kernel_rfl) _ _ _ (fun x hx => by simpa using hW'.lt x (by simpa using hx)) hA1, rfl, hb.frame _, fun h => by cases h⟩

theorem vectAsks_holds : Rows.VectAsksSaid :=
  OpenClaim.holds_of_wide 5 Tryd.f5 rfl rfl rfl rfl rfl rfl rfl ⟨rfl, rfl, rfl, rfl, rfl⟩ rfl rfl rfl rfl rfl (by kernel_rfl) Tryd.func5 (by kernel_rfl)
    (of_decide_eq_true (by kernel_rfl)) (by unfold Func.isWrapper; first | (rw [if_pos (by decide +kernel)]; kernel_rfl) | (rw [if_neg (by decide +kernel)]; exact ⟨rfl, rfl⟩))
    (fun os started H enc _ => vectAsks_lifted os started H enc)

theorem vectAsks_card : Rows.VectAsksCardSaid :=
  Claim7.holds_tied_plain_at .later [] Rows.vectAsksCard.laidKinds true Rows.vectAsksCard.stood.harness Rows.vectAsksCard.stood.looks vectAsks_holds (fun _ h => by cases h) (by kernel_rfl) (fun _ h => by cases h) vectAsks_row_tie rfl ⟨rfl, rfl⟩ (by kernel_rfl) rfl
    (fun f fn hf hfn => by
      obtain rfl : f = 5 := Option.some.inj ((show Tryd.prog.funcNamed Tryd.f5.name = some 5 by kernel_rfl).symm.trans hf) |>.symm
      obtain rfl : fn = Tryd.f5 := (Option.some.inj (Tryd.func5.symm.trans hfn)).symm
      exact ⟨by kernel_rfl, fun j t ht => by
        rw [Tryd.params5] at ht
        have hm : t ∈ [34, 34, 23] := by simpa using Array.mem_of_getElem? ht
        have hall : ([34, 34, 23].all fun u => !Tryd.prog.wantsStandIn u) = true := by kernel_rfl
        exact (show Tryd.prog.wantsStandIn t = false by simpa using List.all_eq_true.1 hall t hm)⟩)
    (by kernel_rfl)
#print axioms vectAsks_card
end Go.Proofs.YthbophioohcphaaDoor
