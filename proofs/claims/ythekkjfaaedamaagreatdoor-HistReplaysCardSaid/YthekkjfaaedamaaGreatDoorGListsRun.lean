/- Texts of this proof, joined. -/
import Derived.Test.YthekkjfaaedamaaGreatDoorListsUnlike
import Derived.Test.YthekkjfaaedamaaGreatDoorGRefOps
import Derived.Test.YthekkjfaaedamaaGreatDoorGOpsMayQ
import Derived.Test.YthekkjfaaedamaaGreatDoorGRefLRun
import Derived.Test.YthekkjfaaedamaaGreatDoorGReads64
import Derived.Test.YthekkjfaaedamaaGreatDoorGRefSplit
import Derived.Deep.RegionHeld
import Derived.Test.YthekkjfaaedamaaGreatDoorGBridge
import Derived.Test.YthekkjfaaedamaaGreatDoorGSpansPlain
import Derived.Test.YthekkjfaaedamaaGreatDoorGHistAt
namespace Go.Proofs.YthekkjfaaedamaaGreatDoor
open Go.RowKit

structure ROp.Fit (w : World) (x : ROp) : Prop where
 nm : oNWf x
 sp : sWf x.xs
 len : x.xs.length ≤ 1000000
 txt : x.text.size ≤ 1000
 at_ : LenAt x.text w
theorem ROp.Fit.below {w w' : World} {x : ROp} (h : x.Fit w) (hb : Below w.heap.size w w') : x.Fit w' := ⟨h.nm, h.sp, h.len, h.txt, h.at_.below hb⟩
set_option maxRecDepth 100000 in
set_option maxHeartbeats 4000000 in
theorem carryOut_any (x : ROp) (m : Int) (w : World) (hF : x.Fit w) (h : SpAt w x.sp x.xs) (hm : 0 ≤ m ∧ m ≤ 20000) :
  Calls Tryz.prog 86 #[.int .i64 m, x.val] w fun e w' => e = .returned (if oMay x.op m then .tuple #[.int .i64 (m + oAdds x.op), .int .i64 0] else .tuple #[.int .i64 0, .int .i64 1]) ∧ Below w.heap.size w w' := by
 obtain ⟨s, q, n, k, a, t, sp, xs⟩ := x
 replace h : SpAt w sp xs := h
 obtain ⟨-, hsp, hlen, ht, hat⟩ := hF
 dsimp only at hsp hlen ht hat
 have hM := fun W (z : Below w.heap.size w W) => pMayOp_any s q n k a m t sp xs W (hat.below z) (h.below z) (Nat.le_trans hlen (by decide)) hsp
 have hA := fun W (z : Below w.heap.size w W) => pAdds_any s q n k a t sp xs W (hat.below z) (h.below z)
 obtain ⟨sao, scp, rfl, -⟩ := id h
 have hr := oAdds_le s q n k a t xs
 have hge := oAdds_ge ⟨s, q, n, k, a, t.data.toList, xs⟩
 show Calls _ _ #[_, opV s q n k a t _] w fun e w' => e = .returned (if oMay ⟨s, q, n, k, a, t.data.toList, xs⟩ m = true then .tuple #[.int .i64 (m + oAdds ⟨s, q, n, k, a, t.data.toList, xs⟩), .int .i64 0] else .tuple #[.int .i64 0, .int .i64 1]) ∧ Below w.heap.size w w'
 obtain ⟨y, hy⟩ : ∃ y, oAdds ⟨s, q, n, k, a, t.data.toList, xs⟩ = y := ⟨_, rfl⟩
 simp only [hy] at hA hr hge ⊢
 obtain ⟨r, hrr⟩ : ∃ r, oMay ⟨s, q, n, k, a, t.data.toList, xs⟩ m = r := ⟨_, rfl⟩
 simp only [hrr] at hM ⊢
 clear hy hrr hsp hlen hat h
 have hw : IntKind.i64.wrap (m + y) = m + y := by simp only [IntKind.wrap_i64]; omega
 have HB := Lib.hid ((Below.refl w.heap.size w).alloc (Nat.le_refl _) (.cells #[.int .i64 s, .int .i64 q, .int .i64 n, .int .i64 k, .int .i64 a, .string t, .slice sao xs.length scp] 45))
 have hrow := heap_alloc_new w (.cells #[.int .i64 s, .int .i64 q, .int .i64 n, .int .i64 k, .int .i64 a, .string t, .slice sao xs.length scp] 45)
 have RO := Lib.hid hrow
 have HM := Lib.hid hM
 have HA := Lib.hid hA
 clear hrow hM hA hr ht
 unfold opV at HM HA ⊢
 go_enter Tryz.func86, Tryz.ntmps86
 obtain ⟨⟨c0, c1, c2, c3, c4, c5, c6⟩, -⟩ := row7 RO.out
 go_wp2_with fail
 refine (HM.out _ HB.out).mono ?_
 rintro e w1 ⟨rfl, hb⟩
 clear c0 c1 c2 c3 c4 c5 c6
 have RO1 := Lib.hid (row_keep hb RO.out)
 have HB1 := Lib.hid (HB.out.trans (hb.mono HB.out.size))
 clear hb
 obtain ⟨⟨c0, c1, c2, c3, c4, c5, c6⟩, -⟩ := row7 RO1.out
 cases r with
 | false =>
  go_wp2
  go_ret2
  exact ⟨rfl, HB1.out⟩
 | true =>
  go_wp2_with fail
  refine (HA.out _ HB1.out).mono ?_
  rintro e w2 ⟨rfl, hb⟩
  have HB2 := Lib.hid (HB1.out.trans (hb.mono HB1.out.size))
  clear hb
  go_wp2
  go_ret2
  exact ⟨rfl, HB2.out⟩
def RunEPost (r : Option Int) (w : World) (e : Ending) (w' : World) : Prop := e = .returned (match r with | some m => .tuple #[.int .i64 m, .int .i64 0] | none => .tuple #[.int .i64 0, .int .i64 1]) ∧ Below w.heap.size w w'
theorem RunEPost.yes {r : Option Int} {m : Int} {w w' : World} (h : r = some m) (hb : Below w.heap.size w w') : RunEPost r w (.returned (.tuple #[.int .i64 m, .int .i64 0])) w' := by subst h; exact ⟨rfl, hb⟩
theorem RunEPost.no {r : Option Int} {w w' : World} (h : r = none) (hb : Below w.heap.size w w') : RunEPost r w (.returned (.tuple #[.int .i64 0, .int .i64 1])) w' := by subst h; exact ⟨rfl, hb⟩
set_option maxRecDepth 100000 in
set_option maxHeartbeats 8000000 in
theorem foldRun_any (v : Value) (l : List ROp) (size : Int) (w : World) (h : OpsR w v l) (hF : ∀ x ∈ l, x.Fit w) (hn : l.length ≤ 1000000) (hsz : 0 ≤ size ∧ size ≤ 20000) :
  Calls Tryz.prog 85 #[v, .int .i64 size, .func (.func 86) #[] #[]] w (RunEPost (runO (l.map ROp.op) size) w) := by
 have HA := Lib.hid h
 have HF := Lib.hid hF
 obtain ⟨ao, cap, rfl⟩ := h.shape
 obtain ⟨N, hN⟩ : ∃ N, l.length = N := ⟨_, rfl⟩
 have HN := Lib.hid hN
 rw [hN] at hn ⊢
 have HSZ := Lib.hid hsz
 clear h hF hN hsz
 go_enter Tryz.func85, Tryz.ntmps85
 go_wp2
 go_loopw [1, 8, 12] (fun t c i wr => ∃ (k : Nat) (m : Int), i = .int .i64 k ∧ k ≤ N ∧ t = .int .i64 m ∧ c = .int .i64 0 ∧ RowKit.Hid (runO ((l.map ROp.op).take k) size = some m) ∧ RowKit.Hid (0 ≤ m ∧ m ≤ 20000) ∧ RowKit.Hid (Below w.heap.size w wr)) (fun _ _ i _ => N - (intOf i).toNat)
 case atStart => exact ⟨0, size, rfl, Nat.zero_le _, rfl, rfl, Lib.hid rfl, HSZ, Lib.hid (Below.refl _ _)⟩
 case round =>
  obtain ⟨k, m, rfl, hk, rfl, rfl, hr, hm, hb⟩ := hrel
  rcases Nat.lt_or_ge k N with hlt | hge
  ·obtain ⟨x, hx⟩ := getO_some (l := l) (k := k) (by rw [HN.out]; exact hlt)
   have hA := HA.out.below hb.out
   obtain ⟨b, off, cp, hv, c0, c1, c2, c3, c4, c5, c6⟩ := hA.at hx
   rw [HN.out] at hv
   cases hv
   have hi0 : (0 : Int) ≤ (k : Int) ∧ (k : Int) < (N : Int) := ⟨by omega, by omega⟩
   have hC := carryOut_any x m wr ((HF.out x (List.mem_of_getElem? hx)).below hb.out) (hA.mem hx) hm.out
   have hnx := runO_take (l := l.map ROp.op) (k := k) (o := x.op) (by rw [List.getElem?_map, hx]; rfl) size
   rw [hr.out, Option.bind_some] at hnx
   obtain ⟨sa, sc, hsp, -⟩ := hA.mem hx
   have hge0 := oAdds_ge x.op
   have hroom : oMay x.op m = true → m + oAdds x.op ≤ 20000 := fun g => ((oMay_iff _ _).1 g).room.1
   unfold ROp.val opV at hC
   obtain ⟨y, hy⟩ : ∃ y, oAdds x.op = y := ⟨_, rfl⟩
   obtain ⟨r, hrr⟩ : ∃ r, oMay x.op m = r := ⟨_, rfl⟩
   simp only [hy, hrr] at hC hnx hge0 hroom
   rw [hsp] at hC c6
   have HC := Lib.hid hC
   have HX := Lib.hid hnx
   have HR := Lib.hid hroom
   have HM := Lib.hid (show 0 ≤ m from hm.out.1)
   clear hA hC hnx hroom hsp hy hrr hx hm
   go_wp2_with fail
   refine HC.out.mono ?_
   rintro e w2 ⟨rfl, hb2⟩
   have HB2 := Lib.hid (hb.out.trans (hb2.mono hb.out.size))
   clear hb2 hb
   cases r with
   | true =>
    have HM2 := Lib.hid (show 0 ≤ m + y ∧ m + y ≤ 20000 from ⟨by have := HM.out; omega, HR.out rfl⟩)
    clear hge0
    simp only [if_true]
    go_wp2
    go_roundw
    case rel => exact ⟨k + 1, m + y, by go_num, by omega, rfl, rfl, Lib.hid (by rw [HX.out]; rfl), HM2, HB2⟩
    case measure => simp [intOf]; omega
   | false =>
    simp only [Bool.false_eq_true, if_false]
    go_wp2
    go_ret2
    exact RunEPost.no (runO_none (by rw [HX.out]; rfl)) HB2.out
  ·obtain rfl : N = k := by omega
   go_wp2
   go_ret2
   have := hr.out
   rw [List.take_of_length_le (by rw [List.length_map, HN.out]; exact Nat.le_refl _)] at this
   exact RunEPost.yes this hb.out
theorem slsAt_one {w : World} {v : Value} {l : List ROp} (h : OpsR w v l) (ty : TypeId) : SlsAt (w.alloc (.cells #[v] ty)) (.slice (some ⟨w.heap.size, 0, none⟩) 1 1) [l] := by
 refine ⟨w.heap.size, 0, 1, rfl, fun i m hi => ?_⟩
 have hl := (List.getElem?_eq_some_iff.1 hi).1
 obtain rfl : i = 0 := by simp at hl; omega
 obtain rfl : l = m := by simpa using hi
 exact ⟨v, cell_of_row _ _ 0 _ _ _ (heap_alloc_new w (.cells #[v] ty)), h.below ((Below.refl _ _).alloc (Nat.le_refl _) _)⟩
set_option maxRecDepth 100000 in
set_option maxHeartbeats 8000000 in
theorem pRun_any (v : Value) (l : List ROp) (size : Int) (w : World) (h : OpsR w v l) (hF : ∀ x ∈ l, x.Fit w) (hn : l.length ≤ 1000000) :
  Calls Tryz.prog 63 #[v, .int .i64 size] w (RunPost (lRun (l.map ROp.op) size) w) := by
 obtain ⟨ao, cap, rfl⟩ := h.shape
 by_cases h0 : size < 0
 ·have HP := Lib.hid (show lRun (l.map ROp.op) size = none by unfold lRun; rw [if_neg (by omega)])
  go_enter Tryz.func63, Tryz.ntmps63
  go_wp2
  go_ret2
  exact RunPost.no HP.out (Below.refl _ _)
 by_cases h1 : 20000 < size
 ·have HP := Lib.hid (show lRun (l.map ROp.op) size = none by unfold lRun; rw [if_neg (by omega)])
  go_enter Tryz.func63, Tryz.ntmps63
  go_wp2
  go_ret2
  exact RunPost.no HP.out (Below.refl _ _)
 have hsz : 0 ≤ size ∧ size ≤ 20000 := by omega
 have HU := Lib.hid (unlike_any (.slice (some ⟨w.heap.size, 0, none⟩) 1 1) [l] (w.alloc (.cells #[.slice ao l.length cap] 61)) (slsAt_one h _) (by simpa using hn) (by simp) (fun o ho => (hF o (by simpa using ho)).nm))
 have hB0 := (Below.refl w.heap.size w).alloc (Nat.le_refl _) (.cells #[.slice ao l.length cap] 61)
 have HFD := Lib.hid (fun W (z : Below w.heap.size w W) => foldRun_any _ l size W (h.below z) (fun x hx => (hF x hx).below z) hn hsz)
 have HB := Lib.hid hB0
 rw [show [l].flatten = l by simp] at HU
 cases hu : unlk (l.map ROp.op) with
 | false =>
  have HP := Lib.hid (show lRun (l.map ROp.op) size = none by unfold lRun; rw [hu, if_neg (by simp)])
  rw [hu] at HU
  clear hB0 hF h hu hn
  go_enter Tryz.func63, Tryz.ntmps63
  go_wp2_with fail
  refine HU.out.mono ?_
  rintro e w1 ⟨rfl, hb⟩
  have HB1 := Lib.hid (HB.out.trans (hb.mono HB.out.size))
  clear hb
  go_wp2
  go_ret2
  exact RunPost.no HP.out HB1.out
 | true =>
  have HP := Lib.hid (show lRun (l.map ROp.op) size = runO (l.map ROp.op) size by unfold lRun; rw [hu, if_pos ⟨hsz, rfl⟩])
  rw [hu] at HU
  rw [HP.out]
  clear hB0 hF h hu hn HP
  go_enter Tryz.func63, Tryz.ntmps63
  go_wp2_with fail
  refine HU.out.mono ?_
  rintro e w1 ⟨rfl, hb⟩
  have HB1 := Lib.hid (HB.out.trans (hb.mono HB.out.size))
  clear hb
  go_wp2_with fail
  refine (HFD.out _ HB1.out).mono ?_
  rintro e w2 ⟨rfl, hb⟩
  have HB2 := Lib.hid (HB1.out.trans (hb.mono HB1.out.size))
  clear hb
  cases hr : runO (l.map ROp.op) size with
  | none =>
   dsimp only
   go_wp2
   go_ret2
   exact RunPost.no hr HB2.out
  | some m =>
   dsimp only
   go_wp2
   go_ret2
   exact RunPost.yes hr HB2.out
end Go.Proofs.YthekkjfaaedamaaGreatDoor

namespace Go.Proofs.YthekkjfaaedamaaGreatDoor
open Go.RowKit

structure HFit (w : World) (u : Value) (h : RHist) : Prop where
 base : h.base.length ≤ 20000
 vec : h.vec.length ≤ 1000000
 list : h.list.length ≤ 1000000
 cap : CapOk u
 cell : CWf h.base
 op : ∀ x ∈ h.list, x.op.Fit w
 et : ∀ x ∈ h.list, LenAt x.et w
theorem HFit.below {w w' : World} {u : Value} {h : RHist} (x : HFit w u h) (hb : Below w.heap.size w w') : HFit w' u h := ⟨x.base, x.vec, x.list, x.cap, x.cell, fun y hy => (x.op y hy).below hb, fun y hy => (x.et y hy).below hb⟩
set_option maxRecDepth 100000 in
set_option maxHeartbeats 8000000 in
theorem c1_any (b v u : Value) (fr num : Int) (h : RHist) (w : World) (hR : HistR w b v u h) (hF : HFit w u h) (hfr : fr = h.fr) (hnum : num = h.num) :
  Calls Tryz.prog 33 #[hiV b v fr num u] w (MayPost (c1H h.hist) w) := by
 obtain ⟨bo, bc, hb0, -, -⟩ := hR.base.shape
 obtain ⟨vo, vc, hv0, -⟩ := id hR.vec
 obtain ⟨ao, cap, hu0⟩ := hR.list.shape
 obtain ⟨base, vec, fr', num', l⟩ := h
 dsimp only at hfr hnum
 subst hfr hnum
 obtain ⟨hRb, hRv, hRl⟩ := hR
 have HFIT := Lib.hid hF
 dsimp only at hRb hRv hRl hb0 hv0 hu0
 subst hb0 hv0 hu0
 obtain ⟨N, hN⟩ : ∃ N, l.length = N := ⟨_, rfl⟩
 obtain ⟨M, hM⟩ : ∃ M, base.length = M := ⟨_, rfl⟩
 obtain ⟨V, hV⟩ : ∃ V, vec.length = V := ⟨_, rfl⟩
 rw [hM] at hRb
 rw [hV] at hRv
 rw [hN] at hRl
 rw [hN, hM, hV]
 have HN := Lib.hid hN
 have HM := Lib.hid hM
 have HV := Lib.hid hV
 have HRB := Lib.hid hRb
 have HRV := Lib.hid hRv
 have HRL := Lib.hid hRl
 have HX := Lib.hid (heap_alloc_new w (.cells #[.slice bo M bc, .slice vo V vc, .int .i64 fr, .int .i64 num, .slice ao N cap] 33))
 have HB := Lib.hid ((Below.refl w.heap.size w).alloc (Nat.le_refl _) (.cells #[.slice bo M bc, .slice vo V vc, .int .i64 fr, .int .i64 num, .slice ao N cap] 33))
 have bM := hF.base
 have bV := hF.vec
 have bN := hF.list
 have hcap := hF.cap
 dsimp only at bM bV bN
 rw [hM] at bM
 rw [hV] at bV
 rw [hN] at bN
 rw [hN] at hcap
 have HCAP := Lib.hid hcap
 clear hN hM hV hRb hRv hRl hF hcap
 unfold hiV
 obtain ⟨⟨d0, d1, d2, d3, d4⟩, -⟩ := row5 HX.out
 show Calls _ _ _ w (MayPost (decide (0 ≤ fr ∧ fr ≤ num ∧ num ≤ 1099511627776)) w)
 by_cases g1 : 0 ≤ fr
 ·by_cases g2 : fr ≤ num
  ·by_cases g3 : num ≤ 1099511627776
   ·rw [decide_eq_true (⟨g1, g2, g3⟩ : 0 ≤ fr ∧ fr ≤ num ∧ num ≤ 1099511627776)]
    go_enter Tryz.func33, Tryz.ntmps33
    go_wp2
    go_ret
    exact ⟨rfl, HB.out⟩
   ·rw [decide_eq_false (fun g : 0 ≤ fr ∧ fr ≤ num ∧ num ≤ 1099511627776 => g3 g.2.2)]
    go_enter Tryz.func33, Tryz.ntmps33
    go_wp2
    go_ret
    exact ⟨rfl, HB.out⟩
  ·rw [decide_eq_false (fun g : 0 ≤ fr ∧ fr ≤ num ∧ num ≤ 1099511627776 => g2 g.2.1)]
   go_enter Tryz.func33, Tryz.ntmps33
   go_wp2
   go_ret
   exact ⟨rfl, HB.out⟩
 ·rw [decide_eq_false (fun g : 0 ≤ fr ∧ fr ≤ num ∧ num ≤ 1099511627776 => g1 g.1)]
  go_enter Tryz.func33, Tryz.ntmps33
  go_wp2
  go_ret
  exact ⟨rfl, HB.out⟩
set_option maxRecDepth 100000 in
set_option maxHeartbeats 8000000 in
theorem c2_any (b v u : Value) (fr num : Int) (h : RHist) (w : World) (hR : HistR w b v u h) (hF : HFit w u h) (hfr : fr = h.fr) (hnum : num = h.num) :
  Calls Tryz.prog 34 #[hiV b v fr num u] w (MayPost (c2H h.hist) w) := by
 obtain ⟨bo, bc, hb0, -, -⟩ := hR.base.shape
 obtain ⟨vo, vc, hv0, -⟩ := id hR.vec
 obtain ⟨ao, cap, hu0⟩ := hR.list.shape
 obtain ⟨base, vec, fr', num', l⟩ := h
 dsimp only at hfr hnum
 subst hfr hnum
 obtain ⟨hRb, hRv, hRl⟩ := hR
 have HFIT := Lib.hid hF
 dsimp only at hRb hRv hRl hb0 hv0 hu0
 subst hb0 hv0 hu0
 obtain ⟨N, hN⟩ : ∃ N, l.length = N := ⟨_, rfl⟩
 obtain ⟨M, hM⟩ : ∃ M, base.length = M := ⟨_, rfl⟩
 obtain ⟨V, hV⟩ : ∃ V, vec.length = V := ⟨_, rfl⟩
 rw [hM] at hRb
 rw [hV] at hRv
 rw [hN] at hRl
 rw [hN, hM, hV]
 have HN := Lib.hid hN
 have HM := Lib.hid hM
 have HV := Lib.hid hV
 have HRB := Lib.hid hRb
 have HRV := Lib.hid hRv
 have HRL := Lib.hid hRl
 have HX := Lib.hid (heap_alloc_new w (.cells #[.slice bo M bc, .slice vo V vc, .int .i64 fr, .int .i64 num, .slice ao N cap] 33))
 have HB := Lib.hid ((Below.refl w.heap.size w).alloc (Nat.le_refl _) (.cells #[.slice bo M bc, .slice vo V vc, .int .i64 fr, .int .i64 num, .slice ao N cap] 33))
 have bM := hF.base
 have bV := hF.vec
 have bN := hF.list
 have hcap := hF.cap
 dsimp only at bM bV bN
 rw [hM] at bM
 rw [hV] at bV
 rw [hN] at bN
 rw [hN] at hcap
 have HCAP := Lib.hid hcap
 clear hN hM hV hRb hRv hRl hF hcap
 unfold hiV
 obtain ⟨⟨d0, d1, d2, d3, d4⟩, -⟩ := row5 HX.out
 have hlv : vec.length ≤ 1000000000 := by have := HFIT.out.vec; dsimp only at this; omega
 have HMV := Lib.hid (fun W (z : Below w.heap.size w W) => pMay_any _ vec W (HRV.out.below z) hlv)
 have HHV := Lib.hid (fun s q W (z : Below w.heap.size w W) => pHas_any _ vec s q W (HRV.out.below z) hlv)
 unfold nmV at HHV
 show Calls _ _ _ w (MayPost (vMay vec && base.all (inVec vec)) w)
 obtain ⟨x, hx⟩ : ∃ x, vMay vec = x := ⟨_, rfl⟩
 rw [hx]
 have hMV := HMV.out
 rw [hx] at hMV
 replace HMV := Lib.hid hMV
 clear hMV hlv
 cases x with
 | false =>
  go_enter Tryz.func34, Tryz.ntmps34
  go_wp2_with fail
  refine (HMV.out _ HB.out).mono ?_
  rintro e w1 ⟨rfl, rfl⟩
  go_wp2
  go_ret
  exact ⟨by simp, HB.out⟩
 | true =>
  have HVX := Lib.hid hx
  clear hx
  obtain ⟨r, hr⟩ : ∃ r, (true && base.all (inVec vec)) = r := ⟨_, rfl⟩
  rw [hr]
  have HRR := Lib.hid (show base.all (inVec vec) = r by rw [← hr]; simp)
  clear hr
  go_enter Tryz.func34, Tryz.ntmps34
  go_wp2_with fail
  refine (HMV.out _ HB.out).mono ?_
  rintro e w1 ⟨rfl, rfl⟩
  go_wp2
  clear d0 d1 d2 d3 d4
  go_loopw [12] (fun i wr => ∃ k : Nat, i = .int .i64 k ∧ k ≤ M ∧ RowKit.Hid ((base.take k).all (inVec vec) = true) ∧ RowKit.Hid (wr.heap[w.heap.size]? = some (.cells #[.slice bo M bc, .slice vo V vc, .int .i64 fr, .int .i64 num, .slice ao N cap] 33 (0, 0))) ∧ RowKit.Hid (Below w.heap.size w wr)) (fun i _ => M - (intOf i).toNat)
  case atStart => exact ⟨0, rfl, Nat.zero_le _, Lib.hid (by simp), HX, HB⟩
  case round =>
   rename World => wr
   obtain ⟨k, rfl, hk, hall, hx, hb⟩ := hrel
   obtain ⟨⟨d0, d1, d2, d3, d4⟩, -⟩ := row5 hx.out
   rcases Nat.lt_or_ge k M with hlt | hge
   ·obtain ⟨c, hc⟩ : ∃ c, base[k]? = some c := ⟨_, List.getElem?_eq_getElem (by rw [HM.out]; exact hlt)⟩
    obtain ⟨bb, off', cp, hv, c0, c1, c2, c3, c4⟩ := (HRB.out.below hb.out).at hc
    rw [HM.out] at hv
    cases hv
    have hi0 : (0 : Int) ≤ (k : Int) ∧ (k : Int) < (M : Int) := ⟨by omega, by omega⟩
    have HC := Lib.hid hc
    obtain ⟨z, hz⟩ : ∃ z, inVec vec c = z := ⟨_, rfl⟩
    have HZ := Lib.hid hz
    obtain ⟨s, q, f, r0, g⟩ := c
    dsimp only at c0 c1 c2 c3 c4
    have hHS := HHV.out s q
    rw [show (vMay vec && nMay s q && decide (q ≤ vCount vec s)) = z from hz] at hHS
    have HHS := Lib.hid hHS
    clear hc hz hHS d0 d1 d2 d3 d4
    obtain ⟨⟨d0, d1, d2, d3, d4⟩, -⟩ := row5 (hrow_al hx.out (.cells #[.int .i64 s, .int .i64 q, .int .i64 f, .int .i32 r0, .bool g] 64))
    obtain ⟨⟨n0, n1, n2, n3, n4⟩, -⟩ := row5 (heap_alloc_new wr (.cells #[.int .i64 s, .int .i64 q, .int .i64 f, .int .i32 r0, .bool g] 64))
    go_wp2_with fail
    refine (HHS.out _ (hb.out.alloc hb.out.size _)).mono ?_
    rintro e w2 ⟨rfl, hb2⟩
    have HB2 := Lib.hid ((hb.out.alloc hb.out.size (.cells #[.int .i64 s, .int .i64 q, .int .i64 f, .int .i32 r0, .bool g] 64)).trans (hb2.mono (by have := hb.out.size; simp; omega)))
    have HX2 := Lib.hid (row_keep hb2 (hrow_al hx.out (.cells #[.int .i64 s, .int .i64 q, .int .i64 f, .int .i32 r0, .bool g] 64)))
    clear hb2 d0 d1 d2 d3 d4 c0 c1 c2 c3 c4 n0 n1 n2 n3 n4
    cases z with
    | false =>
     have HP := Lib.hid (show r = false by
      rw [← HRR.out]
      exact List.all_eq_false.2 ⟨_, List.mem_of_getElem? HC.out, by rw [HZ.out]; simp⟩)
     go_wp2
     go_ret
     exact ⟨by rw [HP.out]; rfl, HB2.out⟩
    | true =>
     go_wp2
     go_roundw
     case rel =>
      refine ⟨k + 1, by go_num, by omega, Lib.hid ?_, HX2, HB2⟩
      rw [List.take_add_one, HC.out, List.all_append, hall.out]
      simp [HZ.out]
     case measure => simp [intOf]; omega
   ·obtain rfl : M = k := by omega
    have HP := Lib.hid (show r = true by
     rw [← HRR.out]
     have := hall.out
     rwa [List.take_of_length_le (by rw [HM.out]; exact Nat.le_refl _)] at this)
    go_wp2
    go_ret
    exact ⟨by rw [HP.out]; rfl, hb.out⟩
end Go.Proofs.YthekkjfaaedamaaGreatDoor

namespace Go.Proofs.YthekkjfaaedamaaGreatDoor
open Go.RowKit

theorem hasNum_ent : hasNum ∘ REnt.ent = numR := by
 funext e
 show decide (e.op.num ≠ 0) = (e.op.num != 0)
 by_cases h : e.op.num = 0
 ·rw [decide_eq_false (by simp [h])]; simp [h]
 ·rw [decide_eq_true h]; simp [h]
theorem take_num (l : List REnt) : (l.map REnt.ent).takeWhile hasNum = (l.take (pendK l)).map REnt.ent := by rw [List.takeWhile_map, hasNum_ent, pend_take]
theorem drop_num (l : List REnt) : (l.map REnt.ent).dropWhile hasNum = (l.drop (pendK l)).map REnt.ent := by rw [List.dropWhile_map, hasNum_ent, pend_drop]
set_option maxRecDepth 100000 in
set_option maxHeartbeats 8000000 in
theorem c4_any (b v u : Value) (fr num : Int) (h : RHist) (w : World) (hR : HistR w b v u h) (hF : HFit w u h) (hfr : fr = h.fr) (hnum : num = h.num) :
  Calls Tryz.prog 36 #[hiV b v fr num u] w (MayPost (c4H h.hist) w) := by
 obtain ⟨bo, bc, hb0, -, -⟩ := hR.base.shape
 obtain ⟨vo, vc, hv0, -⟩ := id hR.vec
 obtain ⟨ao, cap, hu0⟩ := hR.list.shape
 obtain ⟨base, vec, fr', num', l⟩ := h
 dsimp only at hfr hnum
 subst hfr hnum
 obtain ⟨hRb, hRv, hRl⟩ := hR
 have HFIT := Lib.hid hF
 dsimp only at hRb hRv hRl hb0 hv0 hu0
 subst hb0 hv0 hu0
 obtain ⟨N, hN⟩ : ∃ N, l.length = N := ⟨_, rfl⟩
 obtain ⟨M, hM⟩ : ∃ M, base.length = M := ⟨_, rfl⟩
 obtain ⟨V, hV⟩ : ∃ V, vec.length = V := ⟨_, rfl⟩
 rw [hM] at hRb
 rw [hV] at hRv
 rw [hN] at hRl
 rw [hN, hM, hV]
 have HN := Lib.hid hN
 have HM := Lib.hid hM
 have HV := Lib.hid hV
 have HRB := Lib.hid hRb
 have HRV := Lib.hid hRv
 have HRL := Lib.hid hRl
 have HX := Lib.hid (heap_alloc_new w (.cells #[.slice bo M bc, .slice vo V vc, .int .i64 fr, .int .i64 num, .slice ao N cap] 33))
 have HB := Lib.hid ((Below.refl w.heap.size w).alloc (Nat.le_refl _) (.cells #[.slice bo M bc, .slice vo V vc, .int .i64 fr, .int .i64 num, .slice ao N cap] 33))
 have bM := hF.base
 have bV := hF.vec
 have bN := hF.list
 have hcap := hF.cap
 dsimp only at bM bV bN
 rw [hM] at bM
 rw [hV] at bV
 rw [hN] at bN
 rw [hN] at hcap
 have HCAP := Lib.hid hcap
 clear hN hM hV hRb hRv hRl hF hcap
 unfold hiV
 obtain ⟨⟨d0, d1, d2, d3, d4⟩, -⟩ := row5 HX.out
 have HPT := Lib.hid (fun W (z : Below w.heap.size w W) => parts_any (.slice bo M bc) (.slice vo V vc) (.slice ao N cap) fr num ⟨base, vec, fr, num, l⟩ W ⟨HRB.out.below z, HRV.out.below z, HRL.out.below z⟩ HFIT.out.list HCAP.out)
 unfold hiV at HPT
 show Calls _ _ _ w (MayPost (risesH num fr ((l.map REnt.ent).takeWhile hasNum)) w)
 rw [take_num]
 obtain ⟨L, hL⟩ : ∃ L, l.take (pendK l) = L := ⟨_, rfl⟩
 obtain ⟨K, hK⟩ : ∃ K, L.length = K := ⟨_, rfl⟩
 have bK : K ≤ 1000000 := by rw [← hK, ← hL, List.length_take]; have := HN.out; omega
 rw [hL]
 have HL := Lib.hid hL
 have HK := Lib.hid hK
 obtain ⟨r, hr⟩ : ∃ r, risesH num fr (L.map REnt.ent) = r := ⟨_, rfl⟩
 rw [hr]
 have HRR := Lib.hid hr
 clear hr hL hK
 go_enter Tryz.func36, Tryz.ntmps36
 go_wp2_with fail
 refine (HPT.out _ HB.out).mono ?_
 rintro e w1 ⟨p1, p2, rfl, hp1, hp2, hbp⟩
 obtain ⟨o1, e1, rfl⟩ := hp1.shape
 obtain ⟨o2, e2, rfl⟩ := hp2.shape
 have HP1 := Lib.hid hp1
 have HP2 := Lib.hid hp2
 have HX1 := Lib.hid (row_keep hbp HX.out)
 have HB1 := Lib.hid (HB.out.trans (hbp.mono HB.out.size))
 clear hp1 hp2 hbp d0 d1 d2 d3 d4 HPT
 dsimp only
 replace HP1 := Lib.hid (show EntsR w1 (.slice o1 K e1) L by have := HP1.out; rw [HL.out, HK.out] at this; exact this)
 rw [HL.out, HK.out]
 clear HP2
 obtain ⟨⟨d0, d1, d2, d3, d4⟩, -⟩ := row5 HX1.out
 go_wp2
 clear d0 d1 d2 d3 d4
 go_loopw [5, 17] (fun z i wr => ∃ (k : Nat) (last : Int), i = .int .i64 k ∧ k ≤ K ∧ z = .int .i64 last ∧ RowKit.Hid (risesH num last ((L.drop k).map REnt.ent) = r) ∧ RowKit.Hid (wr.heap[w.heap.size]? = some (.cells #[.slice bo M bc, .slice vo V vc, .int .i64 fr, .int .i64 num, .slice ao N cap] 33 (0, 0))) ∧ RowKit.Hid (Below w1.heap.size w1 wr)) (fun _ i _ => K - (intOf i).toNat)
 case atStart => exact ⟨0, fr, rfl, Nat.zero_le _, rfl, by rw [List.drop_zero]; exact HRR, HX1, Lib.hid (Below.refl _ _)⟩
 case round =>
  rename World => wr
  obtain ⟨k, last, rfl, hk, rfl, hall, hxr, hb⟩ := hrel
  have HBW := Lib.hid (HB1.out.trans (hb.out.mono HB1.out.size))
  obtain ⟨⟨d0, d1, d2, d3, d4⟩, -⟩ := row5 hxr.out
  rcases Nat.lt_or_ge k K with hlt | hge
  ·obtain ⟨x, hx⟩ := getN_some (l := L) (k := k) (by rw [HK.out]; exact hlt)
   have hA := HP1.out.below hb.out
   obtain ⟨bb, off', cp, hv, ⟨c0, c1, c2, c3, c4, c5, c6⟩, c7, c8, c9, c10, c11, c12, c13⟩ := hA.at hx
   rw [HK.out] at hv
   cases hv
   have hi0 : (0 : Int) ≤ (k : Int) ∧ (k : Int) < (K : Int) := ⟨by omega, by omega⟩
   have HC := Lib.hid hx
   obtain ⟨sa, sc, hsp, -⟩ := hA.mem hx
   have HSP := Lib.hid (hA.mem hx)
   obtain ⟨⟨s, q, n, kd, pl, tx, sp, xs⟩, es, eq, ec, ek, ea, el, et⟩ := x
   dsimp only at c0 c1 c2 c3 c4 c5 c6 c7 c8 c9 c10 c11 c12 c13 hsp
   subst hsp
   clear hx hA d0 d1 d2 d3 d4
   obtain ⟨⟨d0, d1, d2, d3, d4⟩, -⟩ := row5 (hrow_al hxr.out (.cells #[.int .i64 s, .int .i64 q, .int .i64 n, .int .i64 kd, .int .i64 pl, .string tx, .slice sa xs.length sc, .int .i64 es, .int .i64 eq, .int .i64 ec, .int .i64 ek, .int .i64 ea, .int .i64 el, .string et] 49))
   obtain ⟨⟨n0, n1, n2, n3, n4, n5, n6⟩, n7, n8, n9, n10, n11, n12, n13⟩ := row14 (heap_alloc_new wr (.cells #[.int .i64 s, .int .i64 q, .int .i64 n, .int .i64 kd, .int .i64 pl, .string tx, .slice sa xs.length sc, .int .i64 es, .int .i64 eq, .int .i64 ec, .int .i64 ek, .int .i64 ea, .int .i64 el, .string et] 49))
   have HZ := Lib.hid (show (!(decide (n ≤ last) || decide (num < n)) && risesH num n ((L.drop (k + 1)).map REnt.ent)) = r by
    have := hall.out
    rw [List.drop_eq_getElem_cons (by rw [HK.out]; exact hlt), show L[k]'(by rw [HK.out]; exact hlt) = _ from (List.getElem?_eq_some_iff.1 HC.out).2] at this
    exact this)
   have HXA := Lib.hid (hrow_al hxr.out (.cells #[.int .i64 s, .int .i64 q, .int .i64 n, .int .i64 kd, .int .i64 pl, .string tx, .slice sa xs.length sc, .int .i64 es, .int .i64 eq, .int .i64 ec, .int .i64 ek, .int .i64 ea, .int .i64 el, .string et] 49))
   have HBA := Lib.hid (hb.out.alloc hb.out.size (.cells #[.int .i64 s, .int .i64 q, .int .i64 n, .int .i64 kd, .int .i64 pl, .string tx, .slice sa xs.length sc, .int .i64 es, .int .i64 eq, .int .i64 ec, .int .i64 ek, .int .i64 ea, .int .i64 el, .string et] 49))
   have HBB := Lib.hid (HBW.out.alloc HBW.out.size (.cells #[.int .i64 s, .int .i64 q, .int .i64 n, .int .i64 kd, .int .i64 pl, .string tx, .slice sa xs.length sc, .int .i64 es, .int .i64 eq, .int .i64 ec, .int .i64 ek, .int .i64 ea, .int .i64 el, .string et] 49))
   by_cases g1 : n ≤ last
   ·have HP := Lib.hid (show r = false by rw [← HZ.out, decide_eq_true g1]; rfl)
    go_wp2
    go_ret
    exact ⟨by rw [HP.out]; rfl, HBB.out⟩
   by_cases g2 : num < n
   ·have HP := Lib.hid (show r = false by rw [← HZ.out, decide_eq_true g2, Bool.or_true]; rfl)
    go_wp2
    go_ret
    exact ⟨by rw [HP.out]; rfl, HBB.out⟩
   have HP := Lib.hid (show risesH num n ((L.drop (k + 1)).map REnt.ent) = r by rw [← HZ.out, decide_eq_false g1, decide_eq_false g2]; rfl)
   go_wp2
   go_roundw
   case rel => exact ⟨k + 1, n, by go_num, by omega, rfl, HP, HXA, HBA⟩
   case measure => simp [intOf]; omega
  ·obtain rfl : K = k := by omega
   have HP := Lib.hid (show r = true by
    rw [← hall.out, List.drop_eq_nil_iff.2 (by rw [HK.out]; exact Nat.le_refl _)]
    rfl)
   go_wp2
   go_ret
   exact ⟨by rw [HP.out]; rfl, HBW.out⟩
end Go.Proofs.YthekkjfaaedamaaGreatDoor

namespace Go.Proofs.YthekkjfaaedamaaGreatDoor
open Go.RowKit

theorem Reads64.row {W : World} {v : Value} {xs : List Int} (h : Reads64 W v xs) : RowR 1 W v xs.length (xs.map (Value.int .i64)) := by
 obtain ⟨ao, cap, rfl, h2⟩ := h
 refine ⟨by simp, ao, cap, rfl, fun h0 => ?_⟩
 obtain ⟨b, off, rfl, hc⟩ := h2 (fun e => by rw [e] at h0; exact absurd h0 (Nat.lt_irrefl 0))
 refine ⟨b, off, rfl, fun j u hj => ?_⟩
 rw [List.getElem?_map] at hj
 obtain ⟨x, hx, rfl⟩ := Option.map_eq_some_iff.1 hj
 obtain ⟨hl, he⟩ := List.getElem?_eq_some_iff.1 hx
 have := hc j hl
 rwa [show xs.getD j 0 = x by simp [List.getD, hl, he]] at this
def ReachEPost (o : Option (List Int)) (w : World) (e : Ending) (w' : World) : Prop := ∃ v c, e = .returned (.tuple #[v, .int .i64 c]) ∧ (match o with | some r => c = 0 ∧ Reads64 w' v r | none => c ≠ 0 ∧ Reads64 w' v []) ∧ Below w.heap.size w w'
theorem ReachEPost.yes {o : Option (List Int)} {r : List Int} {w w' : World} {v : Value} (h : o = some r) (hv : Reads64 w' v r) (hb : Below w.heap.size w w') : ReachEPost o w (.returned (.tuple #[v, .int .i64 0])) w' := by subst h; exact ⟨_, _, rfl, ⟨rfl, hv⟩, hb⟩
theorem ReachEPost.no {o : Option (List Int)} {c : Int} {w w' : World} (h : o = none) (hc : c ≠ 0) (hb : Below w.heap.size w w') : ReachEPost o w (.returned (.tuple #[.slice none 0 0, .int .i64 c])) w' := by subst h; exact ⟨_, _, rfl, ⟨hc, Reads64.nil _⟩, hb⟩
theorem raisesH_snoc : ∀ (l : List PEnt) (v : List Int) (e : PEnt), raisesH v (l ++ [e]) = (raisesH v l).bind fun x => if raiseC x e.op.site e.op.seq = 0 then some (vRaise x e.op.site e.op.seq) else none
 | [], v, e => rfl
 | d :: r, v, e => by
  show (if raiseC v d.op.site d.op.seq = 0 then raisesH (vRaise v d.op.site d.op.seq) (r ++ [e]) else none) = ((if raiseC v d.op.site d.op.seq = 0 then raisesH (vRaise v d.op.site d.op.seq) r else none) : Option (List Int)).bind _
  split
  ·exact raisesH_snoc r _ e
  ·rfl
theorem raisesH_stop : ∀ (l m : List PEnt) (v : List Int), raisesH v l = none → raisesH v (l ++ m) = none
 | [], m, v, h => by cases h
 | d :: r, m, v, h => by
  have h' : (if raiseC v d.op.site d.op.seq = 0 then raisesH (vRaise v d.op.site d.op.seq) r else none) = none := h
  show (if raiseC v d.op.site d.op.seq = 0 then raisesH (vRaise v d.op.site d.op.seq) (r ++ m) else none) = none
  split
  ·rename_i g; rw [if_pos g] at h'; exact raisesH_stop r m _ h'
  ·rfl
theorem raisesH_next {l : List REnt} {k : Nat} {x : REnt} (h : l[k]? = some x) (v : List Int) : raisesH v ((l.take (k + 1)).map REnt.ent) = (raisesH v ((l.take k).map REnt.ent)).bind fun y => if raiseC y x.op.site x.op.seq = 0 then some (vRaise y x.op.site x.op.seq) else none := by
 rw [List.take_add_one, h, List.map_append]
 exact raisesH_snoc _ _ _
theorem raisesH_out {l : List REnt} {k : Nat} {v : List Int} (h : raisesH v ((l.take k).map REnt.ent) = none) : raisesH v (l.map REnt.ent) = none := by
 rw [← List.take_append_drop k l, List.map_append]
 exact raisesH_stop _ _ _ h
set_option maxRecDepth 100000 in
set_option maxHeartbeats 8000000 in
theorem reach_any (b v u : Value) (fr num : Int) (h : RHist) (w : World) (hR : HistR w b v u h) (hF : HFit w u h) (hfr : fr = h.fr) (hnum : num = h.num) :
  Calls Tryz.prog 62 #[hiV b v fr num u] w (ReachEPost (raisesH h.vec (h.list.map REnt.ent)) w) := by
 obtain ⟨i0, hi, hz0, hz1, hz2⟩ := info_parts infoI64
 obtain ⟨bo, bc, hb0, -, -⟩ := hR.base.shape
 obtain ⟨vo, vc, hv0, -⟩ := id hR.vec
 obtain ⟨ao, cap, hu0⟩ := hR.list.shape
 obtain ⟨base, vec, fr', num', l⟩ := h
 dsimp only at hfr hnum
 subst hfr hnum
 obtain ⟨hRb, hRv, hRl⟩ := hR
 have HFIT := Lib.hid hF
 dsimp only at hRb hRv hRl hb0 hv0 hu0
 subst hb0 hv0 hu0
 obtain ⟨N, hN⟩ : ∃ N, l.length = N := ⟨_, rfl⟩
 obtain ⟨M, hM⟩ : ∃ M, base.length = M := ⟨_, rfl⟩
 obtain ⟨V, hV⟩ : ∃ V, vec.length = V := ⟨_, rfl⟩
 rw [hM] at hRb
 rw [hV] at hRv
 rw [hN] at hRl
 rw [hN, hM, hV]
 have HN := Lib.hid hN
 have HM := Lib.hid hM
 have HV := Lib.hid hV
 have HRB := Lib.hid hRb
 have HRV := Lib.hid hRv
 have HRL := Lib.hid hRl
 have HX := Lib.hid (heap_alloc_new w (.cells #[.slice bo M bc, .slice vo V vc, .int .i64 fr, .int .i64 num, .slice ao N cap] 33))
 have HB := Lib.hid ((Below.refl w.heap.size w).alloc (Nat.le_refl _) (.cells #[.slice bo M bc, .slice vo V vc, .int .i64 fr, .int .i64 num, .slice ao N cap] 33))
 have bM := hF.base
 have bV := hF.vec
 have bN := hF.list
 have hcap := hF.cap
 dsimp only at bM bV bN
 rw [hM] at bM
 rw [hV] at bV
 rw [hN] at bN
 rw [hN] at hcap
 have HCAP := Lib.hid hcap
 clear hN hM hV hRb hRv hRl hF hcap
 unfold hiV
 obtain ⟨⟨d0, d1, d2, d3, d4⟩, -⟩ := row5 HX.out
 show Calls _ _ _ w (ReachEPost (raisesH vec (l.map REnt.ent)) w)
 obtain ⟨r, hr⟩ : ∃ r, raisesH vec (l.map REnt.ent) = r := ⟨_, rfl⟩
 rw [hr]
 have HRR := Lib.hid hr
 have z1 : 0 + V ≤ maxLen := by unfold maxLen; omega
 have z2 : (0 + V) * 8 ≤ 140737488355328 := by omega
 have z3 : w.heap.size ≤ (w.alloc (.cells #[.slice bo M bc, .slice vo V vc, .int .i64 fr, .int .i64 num, .slice ao N cap] 33)).heap.size := by simp
 have hrow := (HRV.out.below HB.out).row
 rw [HV.out] at hrow
 have HO := Lib.hid (ints_one vec)
 clear hr
 go_enter Tryz.func62, Tryz.ntmps62
 go_upto_region 2 with (at_builtin; go_must (refine wpList_app_any rfl _ _ 23 rfl w.heap.size 3 i0 (.int .i64 0) 1 8 Tryz.underlying23 hi hz0 hz1 hz2 rfl (by decide) _ 0 [] rfl (World.ownsRow_nil _ _ _ _) _ V (vec.map (Value.int .i64)) rfl hrow HO.out z1 z2 z3 ?_; intro v1 w1 ho1 hg1; have hb1 := (Below.refl (w.alloc (.cells #[.slice bo M bc, .slice vo V vc, .int .i64 fr, .int .i64 num, .slice ao N cap] 33)).heap.size _).grown hg1 (Nat.le_refl _) (fun g hg => by cases hg); rw [List.nil_append, Nat.zero_add, ← HV.out] at ho1; have hv1 := Reads64.of_own ho1; obtain ⟨vo1, vc1, rfl, -⟩ := id hv1))
 have HX1 := Lib.hid (row_keep hb1 HX.out)
 have HB1 := Lib.hid (HB.out.trans (hb1.mono HB.out.size))
 have HV1 := Lib.hid hv1
 clear hb1 hv1 ho1 hg1 d0 d1 d2 d3 d4 z1 z2 z3 hrow
 obtain ⟨⟨d0, d1, d2, d3, d4⟩, -⟩ := row5 HX1.out
 go_wp2
 clear d0 d1 d2 d3 d4
 go_loopw [4, 15] (fun v i wr => ∃ (k : Nat) (xs : List Int), i = .int .i64 k ∧ k ≤ N ∧ RowKit.Hid (raisesH vec ((l.take k).map REnt.ent) = some xs) ∧ RowKit.Hid (xs.length ≤ 1000000) ∧ RowKit.Hid (Reads64 wr v xs) ∧ RowKit.Hid (Below w.heap.size w wr)) (fun _ i _ => N - (intOf i).toNat)
 case atStart => exact ⟨0, vec, rfl, Nat.zero_le _, Lib.hid rfl, Lib.hid (by rw [HV.out]; exact bV), HV1, HB1⟩
 case round =>
  rename World => wr
  obtain ⟨k, xs0, rfl, hk, hall, hxl, hvx, hb⟩ := hrel
  rcases Nat.lt_or_ge k N with hlt | hge
  ·obtain ⟨x, hx⟩ := getN_some (l := l) (k := k) (by rw [HN.out]; exact hlt)
   have hA := HRL.out.below hb.out
   obtain ⟨bb, off', cp, hv, ⟨c0, c1, c2, c3, c4, c5, c6⟩, c7, c8, c9, c10, c11, c12, c13⟩ := hA.at hx
   rw [HN.out] at hv
   cases hv
   have hi0 : (0 : Int) ≤ (k : Int) ∧ (k : Int) < (N : Int) := ⟨by omega, by omega⟩
   have HC := Lib.hid hx
   obtain ⟨sa, sc, hsp, -⟩ := hA.mem hx
   have HSP := Lib.hid (hA.mem hx)
   obtain ⟨⟨s, q, n, kd, pl, tx, sp, xs⟩, es, eq, ec, ek, ea, el, et⟩ := x
   dsimp only at c0 c1 c2 c3 c4 c5 c6 c7 c8 c9 c10 c11 c12 c13 hsp
   subst hsp
   clear hx hA
   obtain ⟨⟨n0, n1, n2, n3, n4, n5, n6⟩, n7, n8, n9, n10, n11, n12, n13⟩ := row14 (heap_alloc_new wr (.cells #[.int .i64 s, .int .i64 q, .int .i64 n, .int .i64 kd, .int .i64 pl, .string tx, .slice sa xs.length sc, .int .i64 es, .int .i64 eq, .int .i64 ec, .int .i64 ek, .int .i64 ea, .int .i64 el, .string et] 49))
   obtain ⟨oa, ob, hov, -⟩ := id hvx.out
   subst hov
   have HRS := Lib.hid (fun W (z : Below wr.heap.size wr W) => pRaise_any _ xs0 s q W (hvx.out.below z) (by have := hxl.out; omega))
   unfold nmV at HRS
   have HNX := Lib.hid (raisesH_next HC.out vec)
   obtain ⟨c, hc⟩ : ∃ c, raiseC xs0 s q = c := ⟨_, rfl⟩
   unfold RaisePost at HRS
   have hrs := HRS.out
   simp only [hc] at hrs
   obtain ⟨Y, hY⟩ : ∃ Y, (if c = 0 then vRaise xs0 s q else []) = Y := ⟨_, rfl⟩
   simp only [hY] at hrs
   replace HRS := Lib.hid hrs
   have HY := Lib.hid hY
   clear hY
   have HCC := Lib.hid hc
   clear hrs hc
   go_wp2_with fail
   refine (HRS.out _ ((Below.refl _ wr).alloc (Nat.le_refl _) _)).mono ?_
   rintro e w2 ⟨v2, rfl, hv2, hb2⟩
   obtain ⟨o3, oc3, hv3, -⟩ := id hv2
   subst hv3
   have HV2 := Lib.hid hv2
   have HB2 := Lib.hid ((hb.out.alloc hb.out.size (.cells #[.int .i64 s, .int .i64 q, .int .i64 n, .int .i64 kd, .int .i64 pl, .string tx, .slice sa xs.length sc, .int .i64 es, .int .i64 eq, .int .i64 ec, .int .i64 ek, .int .i64 ea, .int .i64 el, .string et] 49)).trans (hb2.mono (by have := hb.out.size; simp; omega)))
   clear hv2 hb2 c0 c1 c2 c3 c4 c5 c6 c7 c8 c9 c10 c11 c12 c13 n0 n1 n2 n3 n4 n5 n6 n7 n8 n9 n10 n11 n12 n13
   by_cases g0 : c = 0
   ·subst g0
    have HN1 := Lib.hid (show raisesH vec ((l.take (k + 1)).map REnt.ent) = some (vRaise xs0 s q) by
     rw [HNX.out, hall.out, Option.bind_some]
     show (if raiseC xs0 s q = 0 then _ else _) = _
     rw [if_pos HCC.out])
    have HL1 := Lib.hid (show (vRaise xs0 s q).length ≤ 1000000 from Nat.le_trans (vMade_length_le _) (by decide))
    replace HV2 := Lib.hid (show Reads64 w2 (.slice o3 Y.length oc3) (vRaise xs0 s q) by have := HV2.out; have hy := HY.out; rw [if_pos rfl] at hy; rw [hy]; exact this)
    go_wp2
    go_roundw
    case rel => exact ⟨k + 1, _, by go_num, by omega, HN1, HL1, HV2, HB2⟩
    case measure => simp [intOf]; omega
   ·have HP := Lib.hid (show r = none by
     rw [← HRR.out]
     refine raisesH_out (k := k + 1) ?_
     rw [HNX.out, hall.out, Option.bind_some]
     show (if raiseC xs0 s q = 0 then _ else _) = _
     rw [if_neg (by rw [HCC.out]; exact g0)])
    have e3 : (c == 0) = false := beq_eq_false_iff_ne.2 g0
    have e4 : (c != 0) = true := by rw [bne, e3]; rfl
    have G0 := Lib.hid g0
    clear g0
    go_wp2
    go_ret2
    exact ReachEPost.no HP.out G0.out HB2.out
  ·obtain rfl : N = k := by omega
   have HP := Lib.hid (show r = some xs0 by
    rw [← HRR.out]
    have := hall.out
    rwa [List.take_of_length_le (by rw [HN.out]; exact Nat.le_refl _)] at this)
   have HQ := Lib.hid (ReachEPost.yes HP.out hvx.out hb.out)
   clear hvx hb hall
   go_wp2
   go_ret2
   exact HQ.out
set_option maxRecDepth 100000 in
set_option maxHeartbeats 8000000 in
theorem c6_any (b v u : Value) (fr num : Int) (h : RHist) (w : World) (hR : HistR w b v u h) (hF : HFit w u h) (hfr : fr = h.fr) (hnum : num = h.num) :
  Calls Tryz.prog 38 #[hiV b v fr num u] w (MayPost (c6H h.hist) w) := by
 obtain ⟨bo, bc, hb0, -, -⟩ := hR.base.shape
 obtain ⟨vo, vc, hv0, -⟩ := id hR.vec
 obtain ⟨ao, cap, hu0⟩ := hR.list.shape
 obtain ⟨base, vec, fr', num', l⟩ := h
 dsimp only at hfr hnum
 subst hfr hnum
 obtain ⟨hRb, hRv, hRl⟩ := hR
 have HFIT := Lib.hid hF
 dsimp only at hRb hRv hRl hb0 hv0 hu0
 subst hb0 hv0 hu0
 obtain ⟨N, hN⟩ : ∃ N, l.length = N := ⟨_, rfl⟩
 obtain ⟨M, hM⟩ : ∃ M, base.length = M := ⟨_, rfl⟩
 obtain ⟨V, hV⟩ : ∃ V, vec.length = V := ⟨_, rfl⟩
 rw [hM] at hRb
 rw [hV] at hRv
 rw [hN] at hRl
 rw [hN, hM, hV]
 have HN := Lib.hid hN
 have HM := Lib.hid hM
 have HV := Lib.hid hV
 have HRB := Lib.hid hRb
 have HRV := Lib.hid hRv
 have HRL := Lib.hid hRl
 have HX := Lib.hid (heap_alloc_new w (.cells #[.slice bo M bc, .slice vo V vc, .int .i64 fr, .int .i64 num, .slice ao N cap] 33))
 have HB := Lib.hid ((Below.refl w.heap.size w).alloc (Nat.le_refl _) (.cells #[.slice bo M bc, .slice vo V vc, .int .i64 fr, .int .i64 num, .slice ao N cap] 33))
 have bM := hF.base
 have bV := hF.vec
 have bN := hF.list
 have hcap := hF.cap
 dsimp only at bM bV bN
 rw [hM] at bM
 rw [hV] at bV
 rw [hN] at bN
 rw [hN] at hcap
 have HCAP := Lib.hid hcap
 clear hN hM hV hRb hRv hRl hF hcap
 unfold hiV
 obtain ⟨⟨d0, d1, d2, d3, d4⟩, -⟩ := row5 HX.out
 have HRC := Lib.hid (fun W (z : Below w.heap.size w W) => reach_any (.slice bo M bc) (.slice vo V vc) (.slice ao N cap) fr num ⟨base, vec, fr, num, l⟩ W ⟨HRB.out.below z, HRV.out.below z, HRL.out.below z⟩ (by have := HFIT.out.below z; rw [HN.out] at this; exact this) rfl rfl)
 unfold hiV at HRC
 show Calls _ _ _ w (MayPost (raisesH vec (l.map REnt.ent)).isSome w)
 dsimp only at HRC
 obtain ⟨r, hr⟩ : ∃ r, raisesH vec (l.map REnt.ent) = r := ⟨_, rfl⟩
 rw [hr] at HRC ⊢
 clear hr
 go_enter Tryz.func38, Tryz.ntmps38
 go_wp2_with fail
 refine (HRC.out _ HB.out).mono ?_
 rintro e w2 ⟨v2, c, rfl, hv2, hb2⟩
 have HB2 := Lib.hid (HB.out.trans (hb2.mono HB.out.size))
 clear hb2 d0 d1 d2 d3 d4
 cases r with
 | none =>
  dsimp only at hv2
  obtain ⟨hc, o3, c3, hv3, -⟩ := hv2
  subst hv3
  have e3 : (c == 0) = false := beq_eq_false_iff_ne.2 hc
  clear hc
  go_wp2
  go_ret
  exact ⟨rfl, HB2.out⟩
 | some r =>
  dsimp only at hv2
  obtain ⟨hc, o3, c3, hv3, -⟩ := hv2
  subst hv3
  subst hc
  go_wp2
  go_ret
  exact ⟨rfl, HB2.out⟩
end Go.Proofs.YthekkjfaaedamaaGreatDoor

namespace Go.Proofs.YthekkjfaaedamaaGreatDoor
open Go.RowKit

theorem make_opsN (n : Nat) (hn : n ≤ 1000000) : ∃ cur : Array Value, cur.size = n * 7 ∧ ∀ W : World, (Instr.makeSlice 61 (.int .i64 (n : Int)) (.int .i64 (n : Int))).run Tryz.prog W = .ok (.slice (some ⟨W.heap.size, 0, none⟩) n n) (W.alloc (.cells cur 45)) := by
 obtain ⟨i0, hi, hz0, hz1, hz2⟩ := info_parts infoOpC
 refine ⟨madeCells (Value.agg #[.int .i64 0, .int .i64 0, .int .i64 0, .int .i64 0, .int .i64 0, .string ⟨#[]⟩, .slice none 0 0]).cells (n * 7), ?_, fun W => ?_⟩
 ·simp [madeCells]
 ·have h := run_make (P := Tryz.prog) (w := W) 61 45 i0 _ Tryz.underlying61 hi hz0 .i64 .i64 n n (by omega) (by omega) (by rw [hz2]; omega) (by omega)
  rw [Int.toNat_natCast, hz1] at h
  exact h
theorem set_seven (A t : List Value) (a : Nat) (x0 x1 x2 x3 x4 x5 x6 : Value) (ha : A.length = a) (ht : 7 ≤ t.length) : (((((((A ++ t).set a x0).set (a + 1) x1).set (a + 2) x2).set (a + 3) x3).set (a + 4) x4).set (a + 5) x5).set (a + 6) x6 = A ++ [x0, x1, x2, x3, x4, x5, x6] ++ t.drop 7 := by
 match t, ht with
 | t0 :: t1 :: t2 :: t3 :: t4 :: t5 :: t6 :: r, _ =>
  subst ha
  rw [List.set_append_right _ _ (Nat.le_refl _), List.set_append_right _ _ (by omega), List.set_append_right _ _ (by omega), List.set_append_right _ _ (by omega), List.set_append_right _ _ (by omega), List.set_append_right _ _ (by omega), List.set_append_right _ _ (by omega)]
  rw [Nat.sub_self, show A.length + 1 - A.length = 1 by omega, show A.length + 2 - A.length = 2 by omega, show A.length + 3 - A.length = 3 by omega, show A.length + 4 - A.length = 4 by omega, show A.length + 5 - A.length = 5 by omega, show A.length + 6 - A.length = 6 by omega]
  simp
theorem opsTake_next {l : List REnt} {k : Nat} {x : REnt} (h : l[k]? = some x) : oCells ((l.take (k + 1)).map REnt.op) = oCells ((l.take k).map REnt.op) ++ x.op.vals := by
 rw [List.take_add_one, h, List.map_append, oCells_append]
 simp [oCells]
set_option maxRecDepth 100000 in
set_option maxHeartbeats 8000000 in
theorem ops_any (b v u : Value) (fr num : Int) (h : RHist) (w : World) (hR : HistR w b v u h) (hF : HFit w u h) (hfr : fr = h.fr) (hnum : num = h.num) :
  Calls Tryz.prog 64 #[hiV b v fr num u] w (OpsPost (h.list.map REnt.op) w) := by
 obtain ⟨bo, bc, hb0, -, -⟩ := hR.base.shape
 obtain ⟨vo, vc, hv0, -⟩ := id hR.vec
 obtain ⟨ao, cap, hu0⟩ := hR.list.shape
 obtain ⟨base, vec, fr', num', l⟩ := h
 dsimp only at hfr hnum
 subst hfr hnum
 obtain ⟨hRb, hRv, hRl⟩ := hR
 have HFIT := Lib.hid hF
 dsimp only at hRb hRv hRl hb0 hv0 hu0
 subst hb0 hv0 hu0
 obtain ⟨N, hN⟩ : ∃ N, l.length = N := ⟨_, rfl⟩
 obtain ⟨M, hM⟩ : ∃ M, base.length = M := ⟨_, rfl⟩
 obtain ⟨V, hV⟩ : ∃ V, vec.length = V := ⟨_, rfl⟩
 rw [hM] at hRb
 rw [hV] at hRv
 rw [hN] at hRl
 rw [hN, hM, hV]
 have HN := Lib.hid hN
 have HM := Lib.hid hM
 have HV := Lib.hid hV
 have HRB := Lib.hid hRb
 have HRV := Lib.hid hRv
 have HRL := Lib.hid hRl
 have HX := Lib.hid (heap_alloc_new w (.cells #[.slice bo M bc, .slice vo V vc, .int .i64 fr, .int .i64 num, .slice ao N cap] 33))
 have HB := Lib.hid ((Below.refl w.heap.size w).alloc (Nat.le_refl _) (.cells #[.slice bo M bc, .slice vo V vc, .int .i64 fr, .int .i64 num, .slice ao N cap] 33))
 have bM := hF.base
 have bV := hF.vec
 have bN := hF.list
 have hcap := hF.cap
 dsimp only at bM bV bN
 rw [hM] at bM
 rw [hV] at bV
 rw [hN] at bN
 rw [hN] at hcap
 have HCAP := Lib.hid hcap
 clear hN hM hV hRb hRv hRl hF hcap
 unfold hiV
 obtain ⟨⟨d0, d1, d2, d3, d4⟩, -⟩ := row5 HX.out
 show Calls _ _ _ w (OpsPost (l.map REnt.op) w)
 unfold OpsPost
 rw [List.length_map, HN.out]
 obtain ⟨cur, hcur, hmk⟩ := make_opsN N bN
 have hcl : (0 : Int) ≤ (N : Int) := by omega
 have hA1 : (w.alloc (.cells #[.slice bo M bc, .slice vo V vc, .int .i64 fr, .int .i64 num, .slice ao N cap] 33)).heap.size = w.heap.size + 1 := by simp
 have ho : ((w.alloc (.cells #[.slice bo M bc, .slice vo V vc, .int .i64 fr, .int .i64 num, .slice ao N cap] 33)).alloc (.cells cur 45)).ownsRow w.heap.size 45 7 (.slice (some ⟨w.heap.size + 1, 0, none⟩) N N) N (oCells ((l.take 0).map REnt.op) ++ cur.toList) := by
  refine ⟨by rw [List.take_zero]; show ([] ++ cur.toList).length = _; simp [hcur], .inr ⟨w.heap.size + 1, N, cur, rfl, by omega, ?_, Nat.le_refl _, by unfold maxLen; omega, hcur, ?_⟩⟩
  ·rw [← hA1]; exact heap_alloc_new _ _
  ·rw [List.take_zero, List.take_of_length_le (by rw [Array.length_toList, hcur]; exact Nat.le_refl _)]
   rfl
 have hB2 : Below w.heap.size w ((w.alloc (.cells #[.slice bo M bc, .slice vo V vc, .int .i64 fr, .int .i64 num, .slice ao N cap] 33)).alloc (.cells cur 45)) := HB.out.alloc HB.out.size _
 have HI := Lib.hid (show (∃ tl : List Value, tl.length = (N - 0) * 7 ∧ ((w.alloc (.cells #[.slice bo M bc, .slice vo V vc, .int .i64 fr, .int .i64 num, .slice ao N cap] 33)).alloc (.cells cur 45)).ownsRow w.heap.size 45 7 (.slice (some ⟨w.heap.size + 1, 0, none⟩) N N) N (oCells ((l.take 0).map REnt.op) ++ tl)) ∧ Below w.heap.size w ((w.alloc (.cells #[.slice bo M bc, .slice vo V vc, .int .i64 fr, .int .i64 num, .slice ao N cap] 33)).alloc (.cells cur 45)) from ⟨⟨cur.toList, by simp [hcur], ho⟩, hB2⟩)
 obtain ⟨⟨d0, d1, d2, d3, d4⟩, -⟩ := row5 (hrow_al HX.out (.cells cur 45))
 obtain ⟨⟨-, -, -, -, d4'⟩, -⟩ := row5 HX.out
 clear ho hB2 hA1 hcur
 go_enter Tryz.func64, Tryz.ntmps64
 go_wp2
 clear d0 d1 d2 d3 d4 d4'
 generalize (w.alloc (.cells #[.slice bo M bc, .slice vo V vc, .int .i64 fr, .int .i64 num, .slice ao N cap] 33)).alloc (.cells cur 45) = w2 at HI ⊢
 clear hmk HB HX
 go_loopw [13] (fun i wr => ∃ k : Nat, i = .int .i64 k ∧ k ≤ N ∧ RowKit.Hid ((∃ tl : List Value, tl.length = (N - k) * 7 ∧ wr.ownsRow w.heap.size 45 7 (.slice (some ⟨w.heap.size + 1, 0, none⟩) N N) N (oCells ((l.take k).map REnt.op) ++ tl)) ∧ Below w.heap.size w wr)) (fun i _ => N - (intOf i).toNat)
 case atStart => exact ⟨0, rfl, Nat.zero_le _, HI⟩
 case round =>
  rename World => wr
  obtain ⟨k, rfl, hk, hI⟩ := hrel
  rcases Nat.lt_or_ge k N with hlt | hge
  ·obtain ⟨x, hx⟩ := getN_some (l := l) (k := k) (by rw [HN.out]; exact hlt)
   have hA := HRL.out.below hI.out.2
   obtain ⟨bb, off', cp, hv, ⟨c0, c1, c2, c3, c4, c5, c6⟩, c7, c8, c9, c10, c11, c12, c13⟩ := hA.at hx
   rw [HN.out] at hv
   cases hv
   have hi0 : (0 : Int) ≤ (k : Int) ∧ (k : Int) < (N : Int) := ⟨by omega, by omega⟩
   have HC := Lib.hid hx
   obtain ⟨sa, sc, hsp, -⟩ := hA.mem hx
   have HSP := Lib.hid (hA.mem hx)
   obtain ⟨⟨s, q, n, kd, pl, tx, sp, xs⟩, es, eq, ec, ek, ea, el, et⟩ := x
   dsimp only at c0 c1 c2 c3 c4 c5 c6 c7 c8 c9 c10 c11 c12 c13 hsp
   subst hsp
   clear hx hA
   obtain ⟨⟨n0, n1, n2, n3, n4, n5, n6⟩, n7, n8, n9, n10, n11, n12, n13⟩ := row14 (heap_alloc_new wr (.cells #[.int .i64 s, .int .i64 q, .int .i64 n, .int .i64 kd, .int .i64 pl, .string tx, .slice sa xs.length sc, .int .i64 es, .int .i64 eq, .int .i64 ec, .int .i64 ek, .int .i64 ea, .int .i64 el, .string et] 49))
   obtain ⟨⟨tl, htl, ho1⟩, hB⟩ := hI.out
   have ho := own_up ho1 ((Below.refl _ wr).alloc (Nat.le_refl _) (.cells #[.int .i64 s, .int .i64 q, .int .i64 n, .int .i64 kd, .int .i64 pl, .string tx, .slice sa xs.length sc, .int .i64 es, .int .i64 eq, .int .i64 ec, .int .i64 ek, .int .i64 ea, .int .i64 el, .string et] 49))
   have hBA := hB.alloc hB.size (.cells #[.int .i64 s, .int .i64 q, .int .i64 n, .int .i64 kd, .int .i64 pl, .string tx, .slice sa xs.length sc, .int .i64 es, .int .i64 eq, .int .i64 ec, .int .i64 ek, .int .i64 ea, .int .i64 el, .string et] 49)
   obtain ⟨A, hA⟩ : ∃ A, w.heap.size + 1 = A := ⟨_, rfl⟩
   obtain ⟨W0, hW0⟩ : ∃ W0, w.heap.size = W0 := ⟨_, rfl⟩
   have hlA : A < wr.heap.size := by
    rcases ho1.2 with ⟨e, _⟩ | ⟨g, cap', cur', e, _, h, _⟩
    ·cases e
    ·cases e
     rw [← hA]
     exact (Array.getElem?_eq_some_iff.1 h).1
   rw [hA] at ho ⊢
   have hAw : w.heap.size ≤ A := by omega
   have hne : ¬ A = wr.heap.size := by omega
   have hne' : ¬ wr.heap.size = A := by omega
   have hct : (oCells ((l.take k).map REnt.op)).length = k * 7 := by rw [oCells_length, List.length_map, List.length_take, HN.out]; congr 1; omega
   obtain ⟨t0, t1, t2, t3, t4, t5, t6, tr, rfl⟩ : ∃ t0 t1 t2 t3 t4 t5 t6 tr, tl = t0 :: t1 :: t2 :: t3 :: t4 :: t5 :: t6 :: tr := by
    match tl, (show 7 ≤ tl.length by omega) with
    | t0 :: t1 :: t2 :: t3 :: t4 :: t5 :: t6 :: r, _ => exact ⟨_, _, _, _, _, _, _, _, rfl⟩
   have hcc := ho.cells rfl
   have ex : ∀ j (v : Value), (t0 :: t1 :: t2 :: t3 :: t4 :: t5 :: t6 :: tr)[j]? = some v → (wr.alloc (.cells #[.int .i64 s, .int .i64 q, .int .i64 n, .int .i64 kd, .int .i64 pl, .string tx, .slice sa xs.length sc, .int .i64 es, .int .i64 eq, .int .i64 ec, .int .i64 ek, .int .i64 ea, .int .i64 el, .string et] 49)).cell? ⟨A, k * 7 + j, none⟩ = some v := fun j v hj => by
    have := hcc (k * 7 + j) v (by rw [List.getElem?_append_right (by omega), hct, show k * 7 + j - k * 7 = j by omega]; exact hj)
    rw [Addr.add_lit, Nat.zero_add] at this
    exact this
   have y0 := ex 0 _ rfl
   have y1 := ex 1 _ rfl
   have y2 := ex 2 _ rfl
   have y3 := ex 3 _ rfl
   have y4 := ex 4 _ rfl
   have y5 := ex 5 _ rfl
   have y6 := ex 6 _ rfl
   rw [Nat.add_zero] at y0
   have f0 := ho.frozenAt (k * 7)
   have f1 := ho.frozenAt (k * 7 + 1)
   have f2 := ho.frozenAt (k * 7 + 2)
   have f3 := ho.frozenAt (k * 7 + 3)
   have f4 := ho.frozenAt (k * 7 + 4)
   have f5 := ho.frozenAt (k * 7 + 5)
   have f6 := ho.frozenAt (k * 7 + 6)
   have hst := (((((((ho.stored (k * 7) (.int .i64 s)).1.stored (k * 7 + 1) (.int .i64 q)).1.stored (k * 7 + 2) (.int .i64 n)).1.stored (k * 7 + 3) (.int .i64 kd)).1.stored (k * 7 + 4) (.int .i64 pl)).1.stored (k * 7 + 5) (.string tx)).1.stored (k * 7 + 6) (.slice sa xs.length sc)).1
   rw [set_seven _ _ (k * 7) _ _ _ _ _ _ _ hct (by simp)] at hst
   have hbs := ((((((hBA.setCell (p := ⟨A, k * 7, none⟩) hAw (.int .i64 s)).setCell (p := ⟨A, k * 7 + 1, none⟩) hAw (.int .i64 q)).setCell (p := ⟨A, k * 7 + 2, none⟩) hAw (.int .i64 n)).setCell (p := ⟨A, k * 7 + 3, none⟩) hAw (.int .i64 kd)).setCell (p := ⟨A, k * 7 + 4, none⟩) hAw (.int .i64 pl)).setCell (p := ⟨A, k * 7 + 5, none⟩) hAw (.string tx)).setCell (p := ⟨A, k * 7 + 6, none⟩) hAw (.slice sa xs.length sc)
   have HF := Lib.hid (And.intro hst (And.intro hbs htl))
   have HNX := Lib.hid (opsTake_next HC.out)
   clear ho hcc ex hst hbs htl hct hB hBA ho1 hI hlA hAw
   go_wp2
   go_roundw
   case rel =>
    obtain ⟨hst, hbs, htl⟩ := HF.out
    refine ⟨k + 1, by go_num, by omega, Lib.hid ⟨⟨tr, ?_, ?_⟩, ?_⟩⟩
    ·simp only [List.length_cons] at htl
     omega
    ·rw [HNX.out]
     exact hst
    ·exact hbs
   case measure => simp [intOf]; omega
  ·obtain rfl : N = k := by omega
   obtain ⟨⟨tl, htl, ho⟩, hB⟩ := hI.out
   obtain rfl : tl = [] := List.eq_nil_of_length_eq_zero (by omega)
   rw [List.append_nil, List.take_of_length_le (by rw [HN.out]; exact Nat.le_refl _)] at ho
   have HF := Lib.hid (And.intro ho hB)
   clear ho hB hI htl
   go_wp2
   go_ret
   exact ⟨_, rfl, HF.out.1, HF.out.2⟩
end Go.Proofs.YthekkjfaaedamaaGreatDoor

namespace Go.Proofs.YthekkjfaaedamaaGreatDoor
open Go.RowKit

def ofSite (s : Int) (x : REnt) : Bool := (x.op.num == 0) && decide (x.op.site = s)
theorem c5L_at {L : List REnt} {x : REnt} (h : L[0]? = some x) : c5L (L.map REnt.ent) = L.all (ofSite x.op.site) := by
 cases L with
 | nil => cases h
 | cons e r =>
  obtain rfl : e = x := by simpa using h
  show oneSite e.op.site ((e :: r).map REnt.ent) = _
  unfold oneSite
  rw [List.all_map]
  refine congrArg (fun p => List.all (e :: r) p) (funext fun y => ?_)
  show (decide (y.op.num = 0) && decide (y.op.site = e.op.site)) = ofSite e.op.site y
  unfold ofSite
  by_cases g : y.op.num = 0 <;> simp [g]
set_option maxRecDepth 100000 in
set_option maxHeartbeats 8000000 in
theorem c5_any (b v u : Value) (fr num : Int) (h : RHist) (w : World) (hR : HistR w b v u h) (hF : HFit w u h) (hfr : fr = h.fr) (hnum : num = h.num) :
  Calls Tryz.prog 37 #[hiV b v fr num u] w (MayPost (c5H h.hist) w) := by
 obtain ⟨bo, bc, hb0, -, -⟩ := hR.base.shape
 obtain ⟨vo, vc, hv0, -⟩ := id hR.vec
 obtain ⟨ao, cap, hu0⟩ := hR.list.shape
 obtain ⟨base, vec, fr', num', l⟩ := h
 dsimp only at hfr hnum
 subst hfr hnum
 obtain ⟨hRb, hRv, hRl⟩ := hR
 have HFIT := Lib.hid hF
 dsimp only at hRb hRv hRl hb0 hv0 hu0
 subst hb0 hv0 hu0
 obtain ⟨N, hN⟩ : ∃ N, l.length = N := ⟨_, rfl⟩
 obtain ⟨M, hM⟩ : ∃ M, base.length = M := ⟨_, rfl⟩
 obtain ⟨V, hV⟩ : ∃ V, vec.length = V := ⟨_, rfl⟩
 rw [hM] at hRb
 rw [hV] at hRv
 rw [hN] at hRl
 rw [hN, hM, hV]
 have HN := Lib.hid hN
 have HM := Lib.hid hM
 have HV := Lib.hid hV
 have HRB := Lib.hid hRb
 have HRV := Lib.hid hRv
 have HRL := Lib.hid hRl
 have HX := Lib.hid (heap_alloc_new w (.cells #[.slice bo M bc, .slice vo V vc, .int .i64 fr, .int .i64 num, .slice ao N cap] 33))
 have HB := Lib.hid ((Below.refl w.heap.size w).alloc (Nat.le_refl _) (.cells #[.slice bo M bc, .slice vo V vc, .int .i64 fr, .int .i64 num, .slice ao N cap] 33))
 have bM := hF.base
 have bV := hF.vec
 have bN := hF.list
 have hcap := hF.cap
 dsimp only at bM bV bN
 rw [hM] at bM
 rw [hV] at bV
 rw [hN] at bN
 rw [hN] at hcap
 have HCAP := Lib.hid hcap
 clear hN hM hV hRb hRv hRl hF hcap
 unfold hiV
 obtain ⟨⟨d0, d1, d2, d3, d4⟩, -⟩ := row5 HX.out
 have HPT := Lib.hid (fun W (z : Below w.heap.size w W) => parts_any (.slice bo M bc) (.slice vo V vc) (.slice ao N cap) fr num ⟨base, vec, fr, num, l⟩ W ⟨HRB.out.below z, HRV.out.below z, HRL.out.below z⟩ HFIT.out.list HCAP.out)
 unfold hiV at HPT
 show Calls _ _ _ w (MayPost (c5L ((l.map REnt.ent).dropWhile hasNum)) w)
 rw [drop_num]
 obtain ⟨L, hL⟩ : ∃ L, l.drop (pendK l) = L := ⟨_, rfl⟩
 obtain ⟨K, hK⟩ : ∃ K, L.length = K := ⟨_, rfl⟩
 have bK : K ≤ 1000000 := by rw [← hK, ← hL, List.length_drop]; have := HN.out; omega
 rw [hL]
 have HL := Lib.hid hL
 have HK := Lib.hid hK
 obtain ⟨r, hr⟩ : ∃ r, c5L (L.map REnt.ent) = r := ⟨_, rfl⟩
 rw [hr]
 have HRR := Lib.hid hr
 clear hr hL hK
 go_enter Tryz.func37, Tryz.ntmps37
 go_wp2_with fail
 refine (HPT.out _ HB.out).mono ?_
 rintro e w1 ⟨p1, p2, rfl, hp1, hp2, hbp⟩
 obtain ⟨o1, e1, rfl⟩ := hp1.shape
 obtain ⟨o2, e2, rfl⟩ := hp2.shape
 have HP1 := Lib.hid hp1
 have HP2 := Lib.hid hp2
 have HX1 := Lib.hid (row_keep hbp HX.out)
 have HB1 := Lib.hid (HB.out.trans (hbp.mono HB.out.size))
 clear hp1 hp2 hbp d0 d1 d2 d3 d4 HPT
 dsimp only
 replace HP2 := Lib.hid (show EntsR w1 (.slice o2 K e2) L by have := HP2.out; rw [HL.out, HK.out] at this; exact this)
 rw [HL.out, HK.out]
 obtain ⟨n1, hn1⟩ : ∃ n1, (List.take (pendK l) l).length = n1 := ⟨_, rfl⟩
 rw [hn1]
 clear HP1 HX1 hn1
 go_wp2
 go_loopw [14] (fun i wr => ∃ k : Nat, i = .int .i64 k ∧ k ≤ K ∧ RowKit.Hid (∀ x0, L[0]? = some x0 → (L.take k).all (ofSite x0.op.site) = true) ∧ RowKit.Hid (Below w1.heap.size w1 wr)) (fun i _ => K - (intOf i).toNat)
 case atStart => exact ⟨0, rfl, Nat.zero_le _, Lib.hid (fun _ _ => by simp), Lib.hid (Below.refl _ _)⟩
 case round =>
  rename World => wr
  obtain ⟨k, rfl, hk, hall, hb⟩ := hrel
  have HBW := Lib.hid (HB1.out.trans (hb.out.mono HB1.out.size))
  rcases Nat.lt_or_ge k K with hlt | hge
  ·obtain ⟨x, hx⟩ := getN_some (l := L) (k := k) (by rw [HK.out]; exact hlt)
   have hA := HP2.out.below hb.out
   obtain ⟨bb, off', cp, hv, ⟨c0, c1, c2, c3, c4, c5, c6⟩, c7, c8, c9, c10, c11, c12, c13⟩ := hA.at hx
   rw [HK.out] at hv
   cases hv
   have hi0 : (0 : Int) ≤ (k : Int) ∧ (k : Int) < (K : Int) := ⟨by omega, by omega⟩
   have HC := Lib.hid hx
   obtain ⟨sa, sc, hsp, -⟩ := hA.mem hx
   have HSP := Lib.hid (hA.mem hx)
   obtain ⟨x0, hx0⟩ := getN_some (l := L) (k := 0) (by rw [HK.out]; omega)
   obtain ⟨b00, o00, cp0, hv0, ⟨f0, -⟩, -⟩ := hA.at hx0
   rw [HK.out] at hv0
   cases hv0
   have HD := Lib.hid f0
   rw [Nat.zero_mul, Nat.add_zero] at HD
   have H0 := Lib.hid hx0
   obtain ⟨s0, hs0⟩ : ∃ s0, x0.op.site = s0 := ⟨_, rfl⟩
   rw [hs0] at HD
   clear hx0 f0
   obtain ⟨⟨s, q, n, kd, pl, tx, sp, xs⟩, es, eq, ec, ek, ea, el, et⟩ := x
   dsimp only at c0 c1 c2 c3 c4 c5 c6 c7 c8 c9 c10 c11 c12 c13 hsp
   subst hsp
   clear hx hA
   obtain ⟨⟨n0, n1, n2, n3, n4, n5, n6⟩, n7, n8, n9, n10, n11, n12, n13⟩ := row14 (heap_alloc_new wr (.cells #[.int .i64 s, .int .i64 q, .int .i64 n, .int .i64 kd, .int .i64 pl, .string tx, .slice sa xs.length sc, .int .i64 es, .int .i64 eq, .int .i64 ec, .int .i64 ek, .int .i64 ea, .int .i64 el, .string et] 49))
   have hk0 : 0 < K := by omega
   have HBR := Lib.hid hb.out
   have HXA := Lib.hid (heap_alloc_new wr (.cells #[.int .i64 s, .int .i64 q, .int .i64 n, .int .i64 kd, .int .i64 pl, .string tx, .slice sa xs.length sc, .int .i64 es, .int .i64 eq, .int .i64 ec, .int .i64 ek, .int .i64 ea, .int .i64 el, .string et] 49))
   have HPN := Lib.hid (fun W (z : Below wr.heap.size wr W) => isPending_any ⟨⟨s, q, n, kd, pl, tx, .slice sa xs.length sc, xs⟩, es, eq, ec, ek, ea, el, et⟩ W (HSP.out.below z))
   obtain ⟨z, hz⟩ : ∃ z, (n == 0) = z := ⟨_, rfl⟩
   have hpn := HPN.out
   simp only [hz] at hpn
   unfold REnt.val at hpn
   replace HPN := Lib.hid hpn
   clear hpn
   have HBX := Lib.hid ((Below.refl wr.heap.size wr).alloc (Nat.le_refl _) (.cells #[.int .i64 s, .int .i64 q, .int .i64 n, .int .i64 kd, .int .i64 pl, .string tx, .slice sa xs.length sc, .int .i64 es, .int .i64 eq, .int .i64 ec, .int .i64 ek, .int .i64 ea, .int .i64 el, .string et] 49))
   have HV := Lib.hid (c5L_at H0.out)
   have HA0 := Lib.hid (hall.out _ H0.out)
   cases z with
   | false =>
    have HP := Lib.hid (show r = false by
     rw [← HRR.out, HV.out]
     exact List.all_eq_false.2 ⟨_, List.mem_of_getElem? HC.out, by unfold ofSite; rw [hz]; simp⟩)
    clear hz
    go_wp2_with fail
    refine wp_region_held_drew (S := fun X => X.heap[wr.heap.size]? = some (.cells #[.int .i64 s, .int .i64 q, .int .i64 n, .int .i64 kd, .int .i64 pl, .string tx, .slice sa xs.length sc, .int .i64 es, .int .i64 eq, .int .i64 ec, .int .i64 ek, .int .i64 ea, .int .i64 el, .string et] 49 (0, 0)) ∧ Below wr.heap.size wr X) (by kernel_rfl) ?h0 (fun hHeld => ?_)
    case h0 => exact ⟨HXA.out, HBX.out.drew⟩
    have HH0 := Lib.hid hHeld
    clear n0 n1 n2 n3 n4 n5 n6 n7 n8 n9 n10 n11 n12 n13
    refine tk (i := 0) (v := ?_) rfl (Or.inl ⟨rfl, ?hy1⟩) ?_
    case hy1 =>
     intro W hS
     obtain ⟨z1, z2⟩ := hS
     obtain ⟨⟨n0, n1, n2, n3, n4, n5, n6⟩, n7, n8, n9, n10, n11, n12, n13⟩ := row14 z1
     have h00 := cell_stays z2 HD.out
     go_simp
     try with_reducible rfl
    try simp only [Act.put, List.getElem_toArray, List.getElem_cons_zero, List.setIfInBounds_toArray, List.set_cons_zero, List.set_cons_succ]
    refine wpAnyH_ready (rs := [1]) (by kernel_rfl) (by simp) (AllReadyH.cons rfl (fun K hK => ?_) AllReadyH.nil)
    go_simp
    go_wp2_with (go_at_call 28; refine (HPN.out _ hHeld.2).mono ?_; rintro e wq ⟨rfl, hb⟩)
    refine hK.out _ _ (⟨row_keep hb hHeld.1, hHeld.2.trans (hb.mono hHeld.2.size)⟩) (fun hX => ?_)
    clear hK K hHeld
    have hHeld := hX
    clear hX
    refine tk (i := 2) (v := ?_) rfl (Or.inl ⟨rfl, ?hy2⟩) ?_
    case hy2 =>
     intro W hS
     go_simp
     try with_reducible rfl
    try simp only [Act.put, List.getElem_toArray, List.getElem_cons_succ, List.getElem_cons_zero, List.setIfInBounds_toArray, List.set_cons_zero, List.set_cons_succ]
    refine tk (i := 3) (v := ?_) rfl (Or.inl ⟨rfl, ?hy3⟩) ?_
    case hy3 =>
     intro W hS
     go_simp
     try with_reducible rfl
    try simp only [Act.put, List.getElem_toArray, List.getElem_cons_succ, List.getElem_cons_zero, List.setIfInBounds_toArray, List.set_cons_zero, List.set_cons_succ]
    refine tk (i := 4) (v := undef) rfl (Or.inr ⟨rfl, rfl⟩) ?_
    try simp only [Act.put, List.getElem_toArray, List.getElem_cons_succ, List.getElem_cons_zero, List.setIfInBounds_toArray, List.set_cons_zero, List.set_cons_succ]
    refine tk (i := 5) (v := undef) rfl (Or.inr ⟨rfl, rfl⟩) ?_
    try simp only [Act.put, List.getElem_toArray, List.getElem_cons_succ, List.getElem_cons_zero, List.setIfInBounds_toArray, List.set_cons_zero, List.set_cons_succ]
    refine tk (i := 6) (v := undef) rfl (Or.inr ⟨rfl, rfl⟩) ?_
    try simp only [Act.put, List.getElem_toArray, List.getElem_cons_succ, List.getElem_cons_zero, List.setIfInBounds_toArray, List.set_cons_zero, List.set_cons_succ]
    refine tk (i := 7) (v := undef) rfl (Or.inr ⟨rfl, rfl⟩) ?_
    try simp only [Act.put, List.getElem_toArray, List.getElem_cons_succ, List.getElem_cons_zero, List.setIfInBounds_toArray, List.set_cons_zero, List.set_cons_succ]
    refine tk (i := 8) (v := undef) rfl (Or.inr ⟨rfl, rfl⟩) ?_
    try simp only [Act.put, List.getElem_toArray, List.getElem_cons_succ, List.getElem_cons_zero, List.setIfInBounds_toArray, List.set_cons_zero, List.set_cons_succ]
    refine tk (i := 9) (v := undef) rfl (Or.inr ⟨rfl, rfl⟩) ?_
    try simp only [Act.put, List.getElem_toArray, List.getElem_cons_succ, List.getElem_cons_zero, List.setIfInBounds_toArray, List.set_cons_zero, List.set_cons_succ]
    refine tk (i := 10) (v := undef) rfl (Or.inr ⟨rfl, rfl⟩) ?_
    try simp only [Act.put, List.getElem_toArray, List.getElem_cons_succ, List.getElem_cons_zero, List.setIfInBounds_toArray, List.set_cons_zero, List.set_cons_succ]
    refine tk (i := 11) (v := undef) rfl (Or.inr ⟨rfl, rfl⟩) ?_
    try simp only [Act.put, List.getElem_toArray, List.getElem_cons_succ, List.getElem_cons_zero, List.setIfInBounds_toArray, List.set_cons_zero, List.set_cons_succ]
    refine tk (i := 12) (v := undef) rfl (Or.inr ⟨rfl, rfl⟩) ?_
    try simp only [Act.put, List.getElem_toArray, List.getElem_cons_succ, List.getElem_cons_zero, List.setIfInBounds_toArray, List.set_cons_zero, List.set_cons_succ]
    refine tk (i := 13) (v := undef) rfl (Or.inr ⟨rfl, rfl⟩) ?_
    try simp only [Act.put, List.getElem_toArray, List.getElem_cons_succ, List.getElem_cons_zero, List.setIfInBounds_toArray, List.set_cons_zero, List.set_cons_succ]
    refine tk (i := 14) (v := undef) rfl (Or.inr ⟨rfl, rfl⟩) ?_
    try simp only [Act.put, List.getElem_toArray, List.getElem_cons_succ, List.getElem_cons_zero, List.setIfInBounds_toArray, List.set_cons_zero, List.set_cons_succ]
    refine tk (i := 15) (v := ?_) rfl (Or.inl ⟨rfl, ?hy4⟩) ?_
    case hy4 =>
     intro W hS
     go_simp
     try with_reducible rfl
    try simp only [Act.put, List.getElem_toArray, List.getElem_cons_succ, List.getElem_cons_zero, List.setIfInBounds_toArray, List.set_cons_zero, List.set_cons_succ]
    refine wpAnyH_done (by kernel_rfl) ?_ _
    have HBE := Lib.hid (HBW.out.trans (hHeld.2.mono HBW.out.size))
    go_wp2
    go_ret
    exact ⟨by rw [HP.out]; rfl, HBE.out⟩
   | true =>
    by_cases gs : s = s0
    ·have e3 : (s == s0) = true := beq_iff_eq.2 gs
     have e4 : (s != s0) = false := by rw [bne, e3]; rfl
     have HO := Lib.hid (show ofSite x0.op.site ⟨⟨s, q, n, kd, pl, tx, .slice sa xs.length sc, xs⟩, es, eq, ec, ek, ea, el, et⟩ = true by unfold ofSite; rw [hs0]; simp [hz, gs])
     have HS0 := Lib.hid hs0
     clear hz gs hs0
     go_wp2_with fail
     refine wp_region_held_drew (S := fun X => X.heap[wr.heap.size]? = some (.cells #[.int .i64 s, .int .i64 q, .int .i64 n, .int .i64 kd, .int .i64 pl, .string tx, .slice sa xs.length sc, .int .i64 es, .int .i64 eq, .int .i64 ec, .int .i64 ek, .int .i64 ea, .int .i64 el, .string et] 49 (0, 0)) ∧ Below wr.heap.size wr X) (by kernel_rfl) ?h0 (fun hHeld => ?_)
     case h0 => exact ⟨HXA.out, HBX.out.drew⟩
     clear n0 n1 n2 n3 n4 n5 n6 n7 n8 n9 n10 n11 n12 n13
     refine tk (i := 0) (v := ?_) rfl (Or.inl ⟨rfl, ?hy5⟩) ?_
     case hy5 =>
      intro W hS
      obtain ⟨z1, z2⟩ := hS
      obtain ⟨⟨n0, n1, n2, n3, n4, n5, n6⟩, n7, n8, n9, n10, n11, n12, n13⟩ := row14 z1
      have h00 := cell_stays z2 HD.out
      go_simp
      try with_reducible rfl
     try simp only [Act.put, List.getElem_toArray, List.getElem_cons_zero, List.setIfInBounds_toArray, List.set_cons_zero, List.set_cons_succ]
     refine wpAnyH_ready (rs := [1]) (by kernel_rfl) (by simp) (AllReadyH.cons rfl (fun K hK => ?_) AllReadyH.nil)
     go_simp
     go_wp2_with (go_at_call 28; refine (HPN.out _ hHeld.2).mono ?_; rintro e wq ⟨rfl, hb⟩)
     refine hK.out _ _ (⟨row_keep hb hHeld.1, hHeld.2.trans (hb.mono hHeld.2.size)⟩) (fun hX => ?_)
     clear hK K hHeld
     have hHeld := hX
     clear hX
     refine tk (i := 2) (v := ?_) rfl (Or.inl ⟨rfl, ?hy6⟩) ?_
     case hy6 =>
      intro W hS
      go_simp
      try with_reducible rfl
     try simp only [Act.put, List.getElem_toArray, List.getElem_cons_succ, List.getElem_cons_zero, List.setIfInBounds_toArray, List.set_cons_zero, List.set_cons_succ]
     refine tk (i := 3) (v := ?_) rfl (Or.inl ⟨rfl, ?hy7⟩) ?_
     case hy7 =>
      intro W hS
      go_simp
      try with_reducible rfl
     try simp only [Act.put, List.getElem_toArray, List.getElem_cons_succ, List.getElem_cons_zero, List.setIfInBounds_toArray, List.set_cons_zero, List.set_cons_succ]
     refine tk (i := 4) (v := ?_) rfl (Or.inl ⟨rfl, ?hy8⟩) ?_
     case hy8 =>
      intro W hS
      go_simp
      try with_reducible rfl
     try simp only [Act.put, List.getElem_toArray, List.getElem_cons_succ, List.getElem_cons_zero, List.setIfInBounds_toArray, List.set_cons_zero, List.set_cons_succ]
     refine tk (i := 5) (v := ?_) rfl (Or.inl ⟨rfl, ?hy9⟩) ?_
     case hy9 =>
      intro W hS
      go_simp
      try with_reducible rfl
     try simp only [Act.put, List.getElem_toArray, List.getElem_cons_succ, List.getElem_cons_zero, List.setIfInBounds_toArray, List.set_cons_zero, List.set_cons_succ]
     refine tk (i := 6) (v := ?_) rfl (Or.inl ⟨rfl, ?hy10⟩) ?_
     case hy10 =>
      intro W hS
      go_simp
      try with_reducible rfl
     try simp only [Act.put, List.getElem_toArray, List.getElem_cons_succ, List.getElem_cons_zero, List.setIfInBounds_toArray, List.set_cons_zero, List.set_cons_succ]
     refine tk (i := 7) (v := ?_) rfl (Or.inl ⟨rfl, ?hy11⟩) ?_
     case hy11 =>
      intro W hS
      obtain ⟨z1, z2⟩ := hS
      obtain ⟨⟨n0, n1, n2, n3, n4, n5, n6⟩, n7, n8, n9, n10, n11, n12, n13⟩ := row14 z1
      have h00 := cell_stays z2 HD.out
      go_simp
      try with_reducible rfl
     try simp only [Act.put, List.getElem_toArray, List.getElem_cons_succ, List.getElem_cons_zero, List.setIfInBounds_toArray, List.set_cons_zero, List.set_cons_succ]
     refine tk (i := 8) (v := ?_) rfl (Or.inl ⟨rfl, ?hy12⟩) ?_
     case hy12 =>
      intro W hS
      go_simp
      try with_reducible rfl
     try simp only [Act.put, List.getElem_toArray, List.getElem_cons_succ, List.getElem_cons_zero, List.setIfInBounds_toArray, List.set_cons_zero, List.set_cons_succ]
     refine tk (i := 9) (v := ?_) rfl (Or.inl ⟨rfl, ?hy13⟩) ?_
     case hy13 =>
      intro W hS
      go_simp
      try with_reducible rfl
     try simp only [Act.put, List.getElem_toArray, List.getElem_cons_succ, List.getElem_cons_zero, List.setIfInBounds_toArray, List.set_cons_zero, List.set_cons_succ]
     refine tk (i := 10) (v := ?_) rfl (Or.inl ⟨rfl, ?hy14⟩) ?_
     case hy14 =>
      intro W hS
      go_simp
      try with_reducible rfl
     try simp only [Act.put, List.getElem_toArray, List.getElem_cons_succ, List.getElem_cons_zero, List.setIfInBounds_toArray, List.set_cons_zero, List.set_cons_succ]
     refine tk (i := 11) (v := ?_) rfl (Or.inl ⟨rfl, ?hy15⟩) ?_
     case hy15 =>
      intro W hS
      go_simp
      try with_reducible rfl
     try simp only [Act.put, List.getElem_toArray, List.getElem_cons_succ, List.getElem_cons_zero, List.setIfInBounds_toArray, List.set_cons_zero, List.set_cons_succ]
     refine tk (i := 12) (v := ?_) rfl (Or.inl ⟨rfl, ?hy16⟩) ?_
     case hy16 =>
      intro W hS
      go_simp
      try with_reducible rfl
     try simp only [Act.put, List.getElem_toArray, List.getElem_cons_succ, List.getElem_cons_zero, List.setIfInBounds_toArray, List.set_cons_zero, List.set_cons_succ]
     refine tk (i := 13) (v := ?_) rfl (Or.inl ⟨rfl, ?hy17⟩) ?_
     case hy17 =>
      intro W hS
      obtain ⟨z1, z2⟩ := hS
      obtain ⟨⟨n0, n1, n2, n3, n4, n5, n6⟩, n7, n8, n9, n10, n11, n12, n13⟩ := row14 z1
      have h00 := cell_stays z2 HD.out
      go_simp
      try with_reducible rfl
     try simp only [Act.put, List.getElem_toArray, List.getElem_cons_succ, List.getElem_cons_zero, List.setIfInBounds_toArray, List.set_cons_zero, List.set_cons_succ]
     refine tk (i := 14) (v := ?_) rfl (Or.inl ⟨rfl, ?hy18⟩) ?_
     case hy18 =>
      intro W hS
      go_simp
      try with_reducible rfl
     try simp only [Act.put, List.getElem_toArray, List.getElem_cons_succ, List.getElem_cons_zero, List.setIfInBounds_toArray, List.set_cons_zero, List.set_cons_succ]
     refine tk (i := 15) (v := ?_) rfl (Or.inl ⟨rfl, ?hy19⟩) ?_
     case hy19 =>
      intro W hS
      go_simp
      try with_reducible rfl
     try simp only [Act.put, List.getElem_toArray, List.getElem_cons_succ, List.getElem_cons_zero, List.setIfInBounds_toArray, List.set_cons_zero, List.set_cons_succ]
     refine wpAnyH_done (by kernel_rfl) ?_ _
     have HBE := Lib.hid (HBR.out.trans (hHeld.2.mono HBR.out.size))
     go_wp2
     go_roundw
     case rel =>
      refine ⟨k + 1, by go_num, by omega, Lib.hid (fun y hy => ?_), HBE⟩
      obtain rfl : x0 = y := Option.some.inj (H0.out.symm.trans hy)
      rw [List.take_add_one, HC.out, List.all_append, HA0.out]
      simp only [Option.toList_some, List.all_cons, List.all_nil, HO.out, Bool.and_self]
     case measure => simp [intOf]; omega
    ·have e3 : (s == s0) = false := beq_eq_false_iff_ne.2 gs
     have e4 : (s != s0) = true := by rw [bne, e3]; rfl
     have HP := Lib.hid (show r = false by
      rw [← HRR.out, HV.out]
      exact List.all_eq_false.2 ⟨_, List.mem_of_getElem? HC.out, by unfold ofSite; rw [hs0]; simp [gs]⟩)
     clear hz gs
     go_wp2_with fail
     refine wp_region_held_drew (S := fun X => X.heap[wr.heap.size]? = some (.cells #[.int .i64 s, .int .i64 q, .int .i64 n, .int .i64 kd, .int .i64 pl, .string tx, .slice sa xs.length sc, .int .i64 es, .int .i64 eq, .int .i64 ec, .int .i64 ek, .int .i64 ea, .int .i64 el, .string et] 49 (0, 0)) ∧ Below wr.heap.size wr X) (by kernel_rfl) ?h0 (fun hHeld => ?_)
     case h0 => exact ⟨HXA.out, HBX.out.drew⟩
     clear n0 n1 n2 n3 n4 n5 n6 n7 n8 n9 n10 n11 n12 n13
     refine tk (i := 0) (v := ?_) rfl (Or.inl ⟨rfl, ?hy20⟩) ?_
     case hy20 =>
      intro W hS
      obtain ⟨z1, z2⟩ := hS
      obtain ⟨⟨n0, n1, n2, n3, n4, n5, n6⟩, n7, n8, n9, n10, n11, n12, n13⟩ := row14 z1
      have h00 := cell_stays z2 HD.out
      go_simp
      try with_reducible rfl
     try simp only [Act.put, List.getElem_toArray, List.getElem_cons_zero, List.setIfInBounds_toArray, List.set_cons_zero, List.set_cons_succ]
     refine wpAnyH_ready (rs := [1]) (by kernel_rfl) (by simp) (AllReadyH.cons rfl (fun K hK => ?_) AllReadyH.nil)
     go_simp
     go_wp2_with (go_at_call 28; refine (HPN.out _ hHeld.2).mono ?_; rintro e wq ⟨rfl, hb⟩)
     refine hK.out _ _ (⟨row_keep hb hHeld.1, hHeld.2.trans (hb.mono hHeld.2.size)⟩) (fun hX => ?_)
     clear hK K hHeld
     have hHeld := hX
     clear hX
     refine tk (i := 2) (v := ?_) rfl (Or.inl ⟨rfl, ?hy21⟩) ?_
     case hy21 =>
      intro W hS
      go_simp
      try with_reducible rfl
     try simp only [Act.put, List.getElem_toArray, List.getElem_cons_succ, List.getElem_cons_zero, List.setIfInBounds_toArray, List.set_cons_zero, List.set_cons_succ]
     refine tk (i := 3) (v := ?_) rfl (Or.inl ⟨rfl, ?hy22⟩) ?_
     case hy22 =>
      intro W hS
      go_simp
      try with_reducible rfl
     try simp only [Act.put, List.getElem_toArray, List.getElem_cons_succ, List.getElem_cons_zero, List.setIfInBounds_toArray, List.set_cons_zero, List.set_cons_succ]
     refine tk (i := 4) (v := ?_) rfl (Or.inl ⟨rfl, ?hy23⟩) ?_
     case hy23 =>
      intro W hS
      go_simp
      try with_reducible rfl
     try simp only [Act.put, List.getElem_toArray, List.getElem_cons_succ, List.getElem_cons_zero, List.setIfInBounds_toArray, List.set_cons_zero, List.set_cons_succ]
     refine tk (i := 5) (v := ?_) rfl (Or.inl ⟨rfl, ?hy24⟩) ?_
     case hy24 =>
      intro W hS
      go_simp
      try with_reducible rfl
     try simp only [Act.put, List.getElem_toArray, List.getElem_cons_succ, List.getElem_cons_zero, List.setIfInBounds_toArray, List.set_cons_zero, List.set_cons_succ]
     refine tk (i := 6) (v := ?_) rfl (Or.inl ⟨rfl, ?hy25⟩) ?_
     case hy25 =>
      intro W hS
      go_simp
      try with_reducible rfl
     try simp only [Act.put, List.getElem_toArray, List.getElem_cons_succ, List.getElem_cons_zero, List.setIfInBounds_toArray, List.set_cons_zero, List.set_cons_succ]
     refine tk (i := 7) (v := ?_) rfl (Or.inl ⟨rfl, ?hy26⟩) ?_
     case hy26 =>
      intro W hS
      obtain ⟨z1, z2⟩ := hS
      obtain ⟨⟨n0, n1, n2, n3, n4, n5, n6⟩, n7, n8, n9, n10, n11, n12, n13⟩ := row14 z1
      have h00 := cell_stays z2 HD.out
      go_simp
      try with_reducible rfl
     try simp only [Act.put, List.getElem_toArray, List.getElem_cons_succ, List.getElem_cons_zero, List.setIfInBounds_toArray, List.set_cons_zero, List.set_cons_succ]
     refine tk (i := 8) (v := ?_) rfl (Or.inl ⟨rfl, ?hy27⟩) ?_
     case hy27 =>
      intro W hS
      go_simp
      try with_reducible rfl
     try simp only [Act.put, List.getElem_toArray, List.getElem_cons_succ, List.getElem_cons_zero, List.setIfInBounds_toArray, List.set_cons_zero, List.set_cons_succ]
     refine tk (i := 9) (v := ?_) rfl (Or.inl ⟨rfl, ?hy28⟩) ?_
     case hy28 =>
      intro W hS
      go_simp
      try with_reducible rfl
     try simp only [Act.put, List.getElem_toArray, List.getElem_cons_succ, List.getElem_cons_zero, List.setIfInBounds_toArray, List.set_cons_zero, List.set_cons_succ]
     refine tk (i := 10) (v := ?_) rfl (Or.inl ⟨rfl, ?hy29⟩) ?_
     case hy29 =>
      intro W hS
      go_simp
      try with_reducible rfl
     try simp only [Act.put, List.getElem_toArray, List.getElem_cons_succ, List.getElem_cons_zero, List.setIfInBounds_toArray, List.set_cons_zero, List.set_cons_succ]
     refine tk (i := 11) (v := ?_) rfl (Or.inl ⟨rfl, ?hy30⟩) ?_
     case hy30 =>
      intro W hS
      go_simp
      try with_reducible rfl
     try simp only [Act.put, List.getElem_toArray, List.getElem_cons_succ, List.getElem_cons_zero, List.setIfInBounds_toArray, List.set_cons_zero, List.set_cons_succ]
     refine tk (i := 12) (v := ?_) rfl (Or.inl ⟨rfl, ?hy31⟩) ?_
     case hy31 =>
      intro W hS
      go_simp
      try with_reducible rfl
     try simp only [Act.put, List.getElem_toArray, List.getElem_cons_succ, List.getElem_cons_zero, List.setIfInBounds_toArray, List.set_cons_zero, List.set_cons_succ]
     refine tk (i := 13) (v := ?_) rfl (Or.inl ⟨rfl, ?hy32⟩) ?_
     case hy32 =>
      intro W hS
      obtain ⟨z1, z2⟩ := hS
      obtain ⟨⟨n0, n1, n2, n3, n4, n5, n6⟩, n7, n8, n9, n10, n11, n12, n13⟩ := row14 z1
      have h00 := cell_stays z2 HD.out
      go_simp
      try with_reducible rfl
     try simp only [Act.put, List.getElem_toArray, List.getElem_cons_succ, List.getElem_cons_zero, List.setIfInBounds_toArray, List.set_cons_zero, List.set_cons_succ]
     refine tk (i := 14) (v := ?_) rfl (Or.inl ⟨rfl, ?hy33⟩) ?_
     case hy33 =>
      intro W hS
      go_simp
      try with_reducible rfl
     try simp only [Act.put, List.getElem_toArray, List.getElem_cons_succ, List.getElem_cons_zero, List.setIfInBounds_toArray, List.set_cons_zero, List.set_cons_succ]
     refine tk (i := 15) (v := ?_) rfl (Or.inl ⟨rfl, ?hy34⟩) ?_
     case hy34 =>
      intro W hS
      go_simp
      try with_reducible rfl
     try simp only [Act.put, List.getElem_toArray, List.getElem_cons_succ, List.getElem_cons_zero, List.setIfInBounds_toArray, List.set_cons_zero, List.set_cons_succ]
     refine wpAnyH_done (by kernel_rfl) ?_ _
     have HBE := Lib.hid (HBW.out.trans (hHeld.2.mono HBW.out.size))
     go_wp2
     go_ret
     exact ⟨by rw [HP.out]; rfl, HBE.out⟩
  ·obtain rfl : K = k := by omega
   have HP := Lib.hid (show r = true by
    rw [← HRR.out]
    cases hL : L with
    | nil => rfl
    | cons x0 R =>
     rw [← hL]
     have h0 : L[0]? = some x0 := by rw [hL]; rfl
     have := hall.out _ h0
     rw [List.take_of_length_le (by rw [HK.out]; exact Nat.le_refl _)] at this
     rw [c5L_at h0]
     exact this)
   go_wp2
   go_ret
   exact ⟨by rw [HP.out]; rfl, HBW.out⟩
end Go.Proofs.YthekkjfaaedamaaGreatDoor
