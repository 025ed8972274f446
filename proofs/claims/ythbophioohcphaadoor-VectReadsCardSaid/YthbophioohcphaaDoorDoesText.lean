/- The program's own names: NameText, ReadName. -/
import Derived.Test.YthbophioohcphaaDoorGoodW
import Derived.Test.YthbophioohcphaaDoorDoesHas
import Derived.Test.YthbophioohcphaaDoorDoesCut
import Derived.Test.YthbophioohcphaaDoorVectAsked
namespace Go.Proofs.YthbophioohcphaaDoor
open Go.RowKit

set_option maxRecDepth 100000 in
set_option maxHeartbeats 4000000 in
theorem pText_yes (s q : Nat) (hn : nMay s q = true) (w : World) (h1 : ∀ W, Below w.heap.size w W → ItoaAt s W) (h2 : ∀ W, Below w.heap.size w W → ItoaAt q W) :
    Calls Tryd.prog 10 #[nmV s q] w fun e w' => e = .returned (.string ⟨(nText s q).toArray⟩) ∧ Below w.heap.size w w' := by
  have hs := of_decide_eq_true hn
  have hM := fun W => pMayName_any s q W
  rw [hn] at hM
  have d1 := fun W (hW : Below w.heap.size w W) => h1 W hW
  have d2 := fun W (hW : Below w.heap.size w W) => h2 W hW
  unfold ItoaAt at d1 d2
  clear h1 h2
  have hT : (⟨(Lib.decDigits s).toArray⟩ : ByteArray) ++ ⟨#[46]⟩ ++ ⟨(Lib.decDigits q).toArray⟩ = ⟨(nText s q).toArray⟩ := by
    rw [show (⟨#[46]⟩ : ByteArray) = ⟨[46].toArray⟩ from rfl, cat_lists, cat_lists]
    unfold nText
    rw [if_pos hn]
    simp
  have l1 := dec_length (show s < 10000000000000000 by omega)
  have l2 := dec_length (show q < 10000000000000000 by omega)
  rw [← size_list] at l1 l2
  generalize (⟨(Lib.decDigits s).toArray⟩ : ByteArray) = A at *
  generalize (⟨(Lib.decDigits q).toArray⟩ : ByteArray) = B at *
  have HT := Lib.hid hT
  have hN := NBox.new s q w 23
  unfold nmV at hM ⊢
  have z1 : (⟨#[46]⟩ : ByteArray).size = 1 := rfl
  have b1 : ¬ 9223372036854775807 < A.size + 1 := by omega
  have b2 : ¬ 9223372036854775807 < A.size + 1 + B.size := by omega
  obtain ⟨c0, c1, _⟩ := id hN
  clear hT hn hs
  go_enter Tryd.func10, Tryd.ntmps10
  go_wp2_with fail
  refine (hM _).mono ?_
  clear hM c0 c1
  rintro e w2 ⟨rfl, hb2⟩
  have hN2 := (hN.keep hb2).draws 1
  clear hN hb2
  go_wp2_with fail
  go_region_held (fun W => W.cell? ⟨w.heap.size, 0, none⟩ = some (.int .i64 s) ∧ W.cell? ⟨w.heap.size, 1, none⟩ = some (.int .i64 q) ∧ Below w.heap.size w W)
    (first | exact hN2 | assumption | exact NBox.keep (by assumption) hb)
    (first | (go_at_call 34; (first | (with_reducible refine (d1 _ ?hB).mono ?_) | (with_reducible refine (d2 _ ?hB).mono ?_)); (case hB => first | exact hN2.2.2 | exact And.right (And.right (by assumption))); rintro e w3 ⟨rfl, hb⟩))
  all_goals
    rename_i hHeld
    have hz := hHeld.2.2
    clear hHeld hN2
    go_wp2
    go_ret
    exact ⟨congrArg (fun x => Ending.returned (.string x)) HT.out, hz⟩
set_option maxRecDepth 100000 in
set_option maxHeartbeats 2000000 in
theorem pText_of (s q : Int) (w : World) (h : nMay s q = true → ∀ W, Below w.heap.size w W → ItoaAt s.toNat W ∧ ItoaAt q.toNat W) :
    Calls Tryd.prog 10 #[nmV s q] w fun e w' => e = .returned (.string ⟨(nText s q).toArray⟩) ∧ Below w.heap.size w w' := by
  by_cases hn : nMay s q = true
  · have hs := of_decide_eq_true hn
    have h' := h hn
    obtain ⟨a, rfl⟩ := Int.eq_ofNat_of_zero_le (show 0 ≤ s by omega)
    obtain ⟨b, rfl⟩ := Int.eq_ofNat_of_zero_le (show 0 ≤ q by omega)
    exact pText_yes a b hn w (fun W hW => (h' W hW).1) (fun W hW => (h' W hW).2)
  · have hM := fun W => pMayName_any s q W
    rw [show nMay s q = false by simpa using hn] at hM
    have HT := Lib.hid (show nText s q = [] by unfold nText; rw [if_neg hn])
    have hN := NBox.new s q w 23
    unfold nmV at hM ⊢
    obtain ⟨c0, c1, _⟩ := id hN
    clear hn h
    go_enter Tryd.func10, Tryd.ntmps10
    go_wp2_with fail
    refine (hM _).mono ?_
    clear hM
    rintro e w2 ⟨rfl, hb2⟩
    have hz := (hN.keep hb2).2.2
    go_wp2
    go_ret
    exact ⟨congrArg (fun x : List UInt8 => Ending.returned (.string ⟨x.toArray⟩)) HT.out.symm, hz⟩
theorem pText_good (s q : Int) (w : World) (hG : GoodW w) :
    Calls Tryd.prog 10 #[nmV s q] w fun e w' => e = .returned (.string ⟨(nText s q).toArray⟩) ∧ Below w.heap.size w w' :=
  pText_of s q w fun hn W hW => by
    have hs := of_decide_eq_true hn
    exact ⟨itoa_good _ (by omega) W (hG.below hW), itoa_good _ (by omega) W (hG.below hW)⟩
theorem pText_small (s q : Int) (w : World) (h : q ≤ 99) :
    Calls Tryd.prog 10 #[nmV s q] w fun e w' => e = .returned (.string ⟨(nText s q).toArray⟩) ∧ Below w.heap.size w w' :=
  pText_of s q w fun hn W _ => by
    have hs := of_decide_eq_true hn
    exact ⟨itoa_small _ (by omega) W, itoa_small _ (by omega) W⟩
end Go.Proofs.YthbophioohcphaaDoor
