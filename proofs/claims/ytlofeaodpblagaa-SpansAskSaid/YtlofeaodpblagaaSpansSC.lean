/- The program's own functions, each as the document has it. -/
import Derived.Test.YtlofeaodpblagaaSpNorm
import Derived.Test.YtlofeaodpblagaaSpShut
namespace Go.Proofs.Ytlofeaodpblagaa
open Go.RowKit

theorem two_err {b : Bool} {l : List Sp} {w w' : World} {e : Ending} (h : OwnErrPost b l w e w') : SpErrPost b l w e w' := by
  obtain ⟨v, he, ho, hb⟩ := h
  exact ⟨v, he, SpAt.of_own ho, hb⟩
theorem sc : SC where
  may := fun v xs w h hx hw => spMay_any v xs w h (by omega) hw
  norm := fun v xs w h hx hw => spNorm_any v xs w h hx hw
  total := fun v xs w h hx hw => spTotal_any v xs w h (by omega) hw
  has := fun v xs p w h hx hw _ => spHas_any v xs p w h (by omega) hw
  ahead := fun v xs p w h hx hw _ => spAhead_any v xs p w h (by omega) hw
  opened := fun v xs p n w h hx hw _ hn => spOpen_any v xs p n w h hx hw hn
  shut := fun v xs p n w h hx hw _ hn => spShut_any v xs p n w h hx hw hn
  any := fun u v xs ys w h h' hx hy wx wy => (spAny_own u v xs ys w h h' hx hy wx wy).mono fun _ _ q => two_err q
  both := fun u v xs ys w h h' hx hy wx wy => (spBoth_own u v xs ys w h h' hx hy wx wy).mono fun _ _ q => two_err q
  less := fun u v xs ys w h h' hx hy wx wy => (spLess_own u v xs ys w h h' hx hy wx wy).mono fun _ _ q => two_err q
end Go.Proofs.Ytlofeaodpblagaa
