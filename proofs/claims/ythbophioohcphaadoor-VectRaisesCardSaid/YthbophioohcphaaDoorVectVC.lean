/- The program's own functions do what the laws lean on. -/
import Derived.Test.YthbophioohcphaaDoorDoesText
import Derived.Test.YthbophioohcphaaDoorDoesLeast
import Derived.Test.YthbophioohcphaaDoorDoesRaise
import Derived.Test.YthbophioohcphaaDoorShut
namespace Go.Proofs.YthbophioohcphaaDoor
open Go.RowKit

theorem vc : VC where
  mayName := pMayName_any
  less := pLess_any
  text := fun s q w h => pText_small s q w h
  may := fun v xs w h hx => (pMay_any v xs w h (by omega)).mono fun _ _ ⟨h1, h2⟩ => ⟨h1, by rw [h2]; exact Below.refl _ _⟩
  count := fun v xs s w h hx hs => (pCount_any v xs s w h (by omega) (wf_i64 hs).2).mono fun _ _ ⟨h1, h2⟩ => ⟨h1, by rw [h2]; exact Below.refl _ _⟩
  has := fun v xs s q w h hx _ _ => pHas_any v xs s q w h (by omega)
  covers := fun u v xs ys w h1 h2 hx hy => pCovers_any u v xs ys w h1 h2 hx hy
  order := fun u v xs ys w h1 h2 hx hy => pOrder_any u v xs ys w h1 h2 hx hy
  raise := fun v xs s q w h hx _ _ => pRaise_any v xs s q w h (by omega)
  merge := fun u v xs ys w h1 h2 hx hy => pMerge_any u v xs ys w h1 h2 hx hy
  least := fun v vs xss w h hn _ => pLeast_any v vs xss w h hn
end Go.Proofs.YthbophioohcphaaDoor
