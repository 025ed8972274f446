/- Texts of this proof, joined. -/
import Derived.Test.YthekkjfaaedamaaGreatDoorGRefOps
import Derived.Test.YthekkjfaaedamaaGreatDoorGRefSplit
import Derived.Test.YthekkjfaaedamaaGreatDoorGSpansPlain
import Derived.Test.YthekkjfaaedamaaGreatDoorGHistAt
import Derived.Deep.RegionHeld
import Derived.Test.YthekkjfaaedamaaGreatDoorGReads64
import Derived.Test.YthekkjfaaedamaaGreatDoorShGrow
import Derived.Laws.AppendOwnNone
import Derived.OwnWalk
import Derived.WalkKit
import Derived.Test.YthekkjfaaedamaaGreatDoorGNumsPlain
namespace Go.Proofs.YthekkjfaaedamaaGreatDoor
open Go.RowKit

def CapOk (v : Value) : Prop := ∀ ao n c, v = .slice ao n c → n ≤ c
theorem CapOk.of_own {W : World} {N sz n : Nat} {e : TypeId} {v : Value} {xs : List Value} (h : W.ownsRow N e sz v n xs) : CapOk v := by
 intro ao m c hv
 rcases h.2 with ⟨q, _⟩ | ⟨g, cap, cur, q, _, _, q2, _⟩
 ·rw [q] at hv; cases hv; exact Nat.le_refl _
 ·rw [q] at hv; cases hv; exact q2
theorem namedO_op (l : List ROp) (x : ROp) : ((l.map ROp.op).any fun y => y.site == x.op.site && y.seq == x.op.seq) = namedO l x.site x.seq := by
 unfold namedO
 rw [List.any_map]
 rfl
theorem unlk_next {l : List ROp} {k : Nat} {x : ROp} (h : l[k]? = some x) : unlk ((l.map ROp.op).take (k + 1)) = (unlk ((l.map ROp.op).take k) && !namedO (l.take k) x.site x.seq) := by
 rw [← List.map_take, ← List.map_take, List.take_add_one, h, List.map_append]
 show unlk ((l.take k).map ROp.op ++ [x.op]) = _
 rw [unlk_snoc, namedO_op]
theorem row_take {W : World} {ao : Option Addr} {n cap : Nat} {l : List ROp} (h : RowR 7 W (.slice ao n cap) l.length (oCells l)) {k : Nat} (hk : k ≤ l.length) : RowR 7 W (.slice ao k cap) (l.take k).length (oCells (l.take k)) := by
 obtain ⟨_, ao', cap', e, h2⟩ := h
 cases e
 have hl : (l.take k).length = k := by rw [List.length_take]; omega
 refine ⟨by rw [oCells_length], ao, cap, by rw [hl], fun h0 => ?_⟩
 obtain ⟨b, off, e, hc⟩ := h2 (by omega)
 refine ⟨b, off, e, fun j u hj => hc j u ?_⟩
 have : oCells l = oCells (l.take k) ++ oCells (l.drop k) := by rw [← oCells_append, List.take_append_drop]
 rw [this, List.getElem?_append_left (List.getElem?_eq_some_iff.1 hj).1]
 exact hj
set_option maxRecDepth 100000 in
set_option maxHeartbeats 8000000 in
theorem rLRun_any (v : Value) (l : List ROp) (size : Int) (w : World) (h : OpsR w v l) (hF : ∀ x ∈ l, x.RFit) (hn : l.length ≤ 1000000) (hcap : CapOk v) :
  Calls Tryz.prog 20 #[v, .int .i64 size] w (RunPost (lRun (l.map ROp.op) size) w) := by
 have HA := Lib.hid h
 have HF := Lib.hid hF
 obtain ⟨ao, cap, rfl⟩ := h.shape
 have hcp := hcap _ _ _ rfl
 by_cases h0 : size < 0
 ·have HP := Lib.hid (show lRun (l.map ROp.op) size = none by unfold lRun; rw [if_neg (by omega)])
  go_enter Tryz.func20, Tryz.ntmps20
  go_wp2
  go_ret2
  exact RunPost.no HP.out (Below.refl _ _)
 by_cases h1 : 20000 < size
 ·have HP := Lib.hid (show lRun (l.map ROp.op) size = none by unfold lRun; rw [if_neg (by omega)])
  go_enter Tryz.func20, Tryz.ntmps20
  go_wp2
  go_ret2
  exact RunPost.no HP.out (Below.refl _ _)
 have hsz : 0 ≤ size ∧ size ≤ 20000 := by omega
 have HNO := Lib.hid (fun (g : unlk (l.map ROp.op) = false ∨ runO (l.map ROp.op) size = none) => (show lRun (l.map ROp.op) size = none by
  unfold lRun
  rcases g with g | g
  ·rw [if_neg (by rw [g]; simp)]
  ·split
   ·exact g
   ·rfl))
 have HYES := Lib.hid (fun (g : unlk (l.map ROp.op) = true) => (show lRun (l.map ROp.op) size = runO (l.map ROp.op) size by unfold lRun; rw [if_pos ⟨hsz, g⟩]))
 obtain ⟨N, hN⟩ : ∃ N, l.length = N := ⟨_, rfl⟩
 have HN := Lib.hid hN
 rw [hN] at hn hcp ⊢
 have HSZ := Lib.hid hsz
 clear h hF hN hsz hcap
 go_enter Tryz.func20, Tryz.ntmps20
 go_wp2_with fail
 go_loopw [1, 6] (fun t i wr => ∃ (k : Nat) (m : Int), i = .int .i64 k ∧ k ≤ N ∧ t = .int .i64 m ∧ RowKit.Hid (unlk ((l.map ROp.op).take k) = true) ∧ RowKit.Hid (runO ((l.map ROp.op).take k) size = some m) ∧ RowKit.Hid (0 ≤ m ∧ m ≤ 20000) ∧ RowKit.Hid (Below w.heap.size w wr)) (fun _ i _ => N - (intOf i).toNat)
 case atStart => exact ⟨0, size, rfl, Nat.zero_le _, rfl, Lib.hid rfl, Lib.hid rfl, HSZ, Lib.hid (Below.refl _ _)⟩
 case round =>
  obtain ⟨k, m, rfl, hk, rfl, hu, hr, hm, hb⟩ := hrel
  rcases Nat.lt_or_ge k N with hlt | hge
  ·obtain ⟨x, hx⟩ := getO_some (l := l) (k := k) (by rw [HN.out]; exact hlt)
   have hA := HA.out.below hb.out
   obtain ⟨b, off, cp, hv, c0, c1, c2, c3, c4, c5, c6⟩ := hA.at hx
   rw [HN.out] at hv
   cases hv
   have hi0 : (0 : Int) ≤ (k : Int) ∧ (k : Int) < (N : Int) := ⟨by omega, by omega⟩
   have hi1 : (0 : Int) ≤ (k : Int) ∧ (k : Int) ≤ (cap : Int) := ⟨by omega, by omega⟩
   have hfit := HF.out x (List.mem_of_getElem? hx)
   have hnx := runO_take (l := l.map ROp.op) (k := k) (o := x.op) (by rw [List.getElem?_map, hx]; rfl) size
   rw [hr.out, Option.bind_some] at hnx
   have hux := unlk_next hx
   rw [hu.out, Bool.true_and] at hux
   obtain ⟨nm, hnm⟩ : ∃ nm, namedO (l.take k) x.site x.seq = nm := ⟨_, rfl⟩
   have hNd := fun W (z : Below wr.heap.size wr W) => rNamed_any (.slice (some ⟨b, off, none⟩) k cap) (l.take k) x.site x.seq W (row_take (hA.1.below z) (by rw [HN.out]; exact hk)) (by rw [List.length_take]; omega)
   have hge0 := oAdds_ge x.op
   have hroom : oMay x.op m = true → m + oAdds x.op ≤ 20000 := fun g => ((oMay_iff _ _).1 g).room.1
   have hMy := fun W (z : Below wr.heap.size wr W) => rOMay_any x.site x.seq x.num x.kind x.pl m x.text x.sp x.xs hfit.txt W ((hA.mem hx).below z) (Nat.le_trans hfit.len (by decide)) hfit.pl
   have hAd := fun W => rOAdds_any x.site x.seq x.num x.kind x.pl x.text x.sp x.xs hfit.txt W
   obtain ⟨sa, sc, hsp, -⟩ := hA.mem hx
   obtain ⟨y, hy⟩ : ∃ y, oAdds x.op = y := ⟨_, rfl⟩
   obtain ⟨r, hrr⟩ : ∃ r, oMay x.op m = r := ⟨_, rfl⟩
   have hy' : oAdds ⟨x.site, x.seq, x.num, x.kind, x.pl, x.text.data.toList, x.xs⟩ = y := hy
   have hrr' : oMay ⟨x.site, x.seq, x.num, x.kind, x.pl, x.text.data.toList, x.xs⟩ m = r := hrr
   simp only [hy', hrr', hnm] at hNd hMy hAd
   simp only [hy, hrr, hnm] at hnx hge0 hroom hux
   rw [hsp] at hMy hAd c6
   unfold nmV at hNd
   unfold opV at hMy hAd
   have HND := Lib.hid hNd
   have HMY := Lib.hid hMy
   have HAD := Lib.hid hAd
   have HX := Lib.hid hnx
   have HU := Lib.hid hux
   have HRM := Lib.hid hroom
   have HM := Lib.hid hm.out
   have HG := Lib.hid hge0
   clear hA hNd hMy hAd hnx hux hroom hsp hy hy' hrr hrr' hnm hm hu hr hfit hx hge0
   go_wp2_with fail
   cases nm with
   | true =>
    refine wp_region_held_drew (S := fun X => Below wr.heap.size wr X) (by kernel_rfl) (Below.refl _ wr).drew (fun hHeld => ?_)
    refine tk (i := 0) (v := ?_) rfl (Or.inl ⟨rfl, ?hy1⟩) ?_
    case hy1 =>
     intro W hS
     go_simp
     try with_reducible rfl
    try simp only [Act.put, List.getElem_toArray, List.getElem_cons_zero, List.setIfInBounds_toArray, List.set_cons_zero, List.set_cons_succ]
    refine tk (i := 1) (v := ?_) rfl (Or.inl ⟨rfl, ?hy2⟩) ?_
    case hy2 =>
     intro W hS
     go_simp
     try with_reducible rfl
    try simp only [Act.put, List.getElem_toArray, List.getElem_cons_succ, List.getElem_cons_zero, List.setIfInBounds_toArray, List.set_cons_zero, List.set_cons_succ]
    refine tk (i := 2) (v := ?_) rfl (Or.inl ⟨rfl, ?hy3⟩) ?_
    case hy3 =>
     intro W hS
     go_simp
     try with_reducible rfl
    try simp only [Act.put, List.getElem_toArray, List.getElem_cons_succ, List.getElem_cons_zero, List.setIfInBounds_toArray, List.set_cons_zero, List.set_cons_succ]
    refine tk (i := 3) (v := ?_) rfl (Or.inl ⟨rfl, ?hy4⟩) ?_
    case hy4 =>
     intro W hS
     go_simp
     try with_reducible rfl
    try simp only [Act.put, List.getElem_toArray, List.getElem_cons_succ, List.getElem_cons_zero, List.setIfInBounds_toArray, List.set_cons_zero, List.set_cons_succ]
    refine tk (i := 4) (v := ?_) rfl (Or.inl ⟨rfl, ?hy5⟩) ?_
    case hy5 =>
     intro W hS
     go_simp
     try with_reducible rfl
    try simp only [Act.put, List.getElem_toArray, List.getElem_cons_succ, List.getElem_cons_zero, List.setIfInBounds_toArray, List.set_cons_zero, List.set_cons_succ]
    refine tk (i := 5) (v := ?_) rfl (Or.inl ⟨rfl, ?hy6⟩) ?_
    case hy6 =>
     intro W hS
     go_simp
     try with_reducible rfl
    try simp only [Act.put, List.getElem_toArray, List.getElem_cons_succ, List.getElem_cons_zero, List.setIfInBounds_toArray, List.set_cons_zero, List.set_cons_succ]
    refine tk (i := 6) (v := ?_) rfl (Or.inl ⟨rfl, ?hy7⟩) ?_
    case hy7 =>
     intro W hS
     go_simp
     try with_reducible rfl
    try simp only [Act.put, List.getElem_toArray, List.getElem_cons_succ, List.getElem_cons_zero, List.setIfInBounds_toArray, List.set_cons_zero, List.set_cons_succ]
    refine tk (i := 7) (v := ?_) rfl (Or.inl ⟨rfl, ?hy8⟩) ?_
    case hy8 =>
     intro W hS
     have e0 := cell_stays hS c0
     have e1 := cell_stays hS c1
     go_simp
     try with_reducible rfl
    try simp only [Act.put, List.getElem_toArray, List.getElem_cons_succ, List.getElem_cons_zero, List.setIfInBounds_toArray, List.set_cons_zero, List.set_cons_succ]
    refine wpAnyH_ready (rs := [8]) (by kernel_rfl) (by simp) (AllReadyH.cons rfl (fun K hK => ?_) AllReadyH.nil)
    go_simp
    go_wp2_with (go_at_call 46; refine (HND.out _ hHeld).mono ?_; rintro e wq ⟨rfl, hb1⟩)
    refine hK.out _ _ (hHeld.trans (hb1.mono hHeld.size)) (fun hX => ?_)
    clear hK K hHeld
    have hHeld := hX
    clear hX
    refine tk (i := 9) (v := ?_) rfl (Or.inl ⟨rfl, ?hy9⟩) ?_
    case hy9 =>
     intro W hS
     go_simp
     try with_reducible rfl
    try simp only [Act.put, List.getElem_toArray, List.getElem_cons_succ, List.getElem_cons_zero, List.setIfInBounds_toArray, List.set_cons_zero, List.set_cons_succ]
    refine tk (i := 10) (v := undef) rfl (Or.inr ⟨rfl, rfl⟩) ?_
    try simp only [Act.put, List.getElem_toArray, List.getElem_cons_succ, List.getElem_cons_zero, List.setIfInBounds_toArray, List.set_cons_zero, List.set_cons_succ]
    refine tk (i := 11) (v := undef) rfl (Or.inr ⟨rfl, rfl⟩) ?_
    try simp only [Act.put, List.getElem_toArray, List.getElem_cons_succ, List.getElem_cons_zero, List.setIfInBounds_toArray, List.set_cons_zero, List.set_cons_succ]
    refine tk (i := 12) (v := undef) rfl (Or.inr ⟨rfl, rfl⟩) ?_
    try simp only [Act.put, List.getElem_toArray, List.getElem_cons_succ, List.getElem_cons_zero, List.setIfInBounds_toArray, List.set_cons_zero, List.set_cons_succ]
    refine tk (i := 13) (v := undef) rfl (Or.inr ⟨rfl, rfl⟩) ?_
    try simp only [Act.put, List.getElem_toArray, List.getElem_cons_succ, List.getElem_cons_zero, List.setIfInBounds_toArray, List.set_cons_zero, List.set_cons_succ]
    refine tk (i := 14) (v := undef) rfl (Or.inr ⟨rfl, rfl⟩) ?_
    try simp only [Act.put, List.getElem_toArray, List.getElem_cons_succ, List.getElem_cons_zero, List.setIfInBounds_toArray, List.set_cons_zero, List.set_cons_succ]
    refine tk (i := 15) (v := undef) rfl (Or.inr ⟨rfl, rfl⟩) ?_
    try simp only [Act.put, List.getElem_toArray, List.getElem_cons_succ, List.getElem_cons_zero, List.setIfInBounds_toArray, List.set_cons_zero, List.set_cons_succ]
    refine tk (i := 16) (v := undef) rfl (Or.inr ⟨rfl, rfl⟩) ?_
    try simp only [Act.put, List.getElem_toArray, List.getElem_cons_succ, List.getElem_cons_zero, List.setIfInBounds_toArray, List.set_cons_zero, List.set_cons_succ]
    refine tk (i := 17) (v := ?_) rfl (Or.inl ⟨rfl, ?hy10⟩) ?_
    case hy10 =>
     intro W hS
     go_simp
     try with_reducible rfl
    try simp only [Act.put, List.getElem_toArray, List.getElem_cons_succ, List.getElem_cons_zero, List.setIfInBounds_toArray, List.set_cons_zero, List.set_cons_succ]
    refine wpAnyH_done (by kernel_rfl) ?_ _
    have HBE := Lib.hid (hb.out.trans (hHeld.mono hb.out.size))
    clear hHeld
    go_wp2
    go_ret2
    exact RunPost.no (HNO.out (.inl (unlk_not (by rw [HU.out]; rfl)))) HBE.out
   | false =>
    refine wp_region_held_drew (S := fun X => Below wr.heap.size wr X) (by kernel_rfl) (Below.refl _ wr).drew (fun hHeld => ?_)
    refine tk (i := 0) (v := ?_) rfl (Or.inl ⟨rfl, ?hy11⟩) ?_
    case hy11 =>
     intro W hS
     go_simp
     try with_reducible rfl
    try simp only [Act.put, List.getElem_toArray, List.getElem_cons_zero, List.setIfInBounds_toArray, List.set_cons_zero, List.set_cons_succ]
    refine tk (i := 1) (v := ?_) rfl (Or.inl ⟨rfl, ?hy12⟩) ?_
    case hy12 =>
     intro W hS
     go_simp
     try with_reducible rfl
    try simp only [Act.put, List.getElem_toArray, List.getElem_cons_succ, List.getElem_cons_zero, List.setIfInBounds_toArray, List.set_cons_zero, List.set_cons_succ]
    refine tk (i := 2) (v := ?_) rfl (Or.inl ⟨rfl, ?hy13⟩) ?_
    case hy13 =>
     intro W hS
     go_simp
     try with_reducible rfl
    try simp only [Act.put, List.getElem_toArray, List.getElem_cons_succ, List.getElem_cons_zero, List.setIfInBounds_toArray, List.set_cons_zero, List.set_cons_succ]
    refine tk (i := 3) (v := ?_) rfl (Or.inl ⟨rfl, ?hy14⟩) ?_
    case hy14 =>
     intro W hS
     go_simp
     try with_reducible rfl
    try simp only [Act.put, List.getElem_toArray, List.getElem_cons_succ, List.getElem_cons_zero, List.setIfInBounds_toArray, List.set_cons_zero, List.set_cons_succ]
    refine tk (i := 4) (v := ?_) rfl (Or.inl ⟨rfl, ?hy15⟩) ?_
    case hy15 =>
     intro W hS
     go_simp
     try with_reducible rfl
    try simp only [Act.put, List.getElem_toArray, List.getElem_cons_succ, List.getElem_cons_zero, List.setIfInBounds_toArray, List.set_cons_zero, List.set_cons_succ]
    refine tk (i := 5) (v := ?_) rfl (Or.inl ⟨rfl, ?hy16⟩) ?_
    case hy16 =>
     intro W hS
     go_simp
     try with_reducible rfl
    try simp only [Act.put, List.getElem_toArray, List.getElem_cons_succ, List.getElem_cons_zero, List.setIfInBounds_toArray, List.set_cons_zero, List.set_cons_succ]
    refine tk (i := 6) (v := ?_) rfl (Or.inl ⟨rfl, ?hy17⟩) ?_
    case hy17 =>
     intro W hS
     go_simp
     try with_reducible rfl
    try simp only [Act.put, List.getElem_toArray, List.getElem_cons_succ, List.getElem_cons_zero, List.setIfInBounds_toArray, List.set_cons_zero, List.set_cons_succ]
    refine tk (i := 7) (v := ?_) rfl (Or.inl ⟨rfl, ?hy18⟩) ?_
    case hy18 =>
     intro W hS
     have e0 := cell_stays hS c0
     have e1 := cell_stays hS c1
     go_simp
     try with_reducible rfl
    try simp only [Act.put, List.getElem_toArray, List.getElem_cons_succ, List.getElem_cons_zero, List.setIfInBounds_toArray, List.set_cons_zero, List.set_cons_succ]
    refine wpAnyH_ready (rs := [8]) (by kernel_rfl) (by simp) (AllReadyH.cons rfl (fun K hK => ?_) AllReadyH.nil)
    go_simp
    go_wp2_with (go_at_call 46; refine (HND.out _ hHeld).mono ?_; rintro e wq ⟨rfl, hb1⟩)
    refine hK.out _ _ (hHeld.trans (hb1.mono hHeld.size)) (fun hX => ?_)
    clear hK K hHeld
    have hHeld := hX
    clear hX
    refine tk (i := 9) (v := ?_) rfl (Or.inl ⟨rfl, ?hy19⟩) ?_
    case hy19 =>
     intro W hS
     go_simp
     try with_reducible rfl
    try simp only [Act.put, List.getElem_toArray, List.getElem_cons_succ, List.getElem_cons_zero, List.setIfInBounds_toArray, List.set_cons_zero, List.set_cons_succ]
    refine tk (i := 10) (v := ?_) rfl (Or.inl ⟨rfl, ?hy20⟩) ?_
    case hy20 =>
     intro W hS
     go_simp
     try with_reducible rfl
    try simp only [Act.put, List.getElem_toArray, List.getElem_cons_succ, List.getElem_cons_zero, List.setIfInBounds_toArray, List.set_cons_zero, List.set_cons_succ]
    refine tk (i := 11) (v := ?_) rfl (Or.inl ⟨rfl, ?hy21⟩) ?_
    case hy21 =>
     intro W hS
     go_simp
     try with_reducible rfl
    try simp only [Act.put, List.getElem_toArray, List.getElem_cons_succ, List.getElem_cons_zero, List.setIfInBounds_toArray, List.set_cons_zero, List.set_cons_succ]
    refine tk (i := 12) (v := ?_) rfl (Or.inl ⟨rfl, ?hy22⟩) ?_
    case hy22 =>
     intro W hS
     go_simp
     try with_reducible rfl
    try simp only [Act.put, List.getElem_toArray, List.getElem_cons_succ, List.getElem_cons_zero, List.setIfInBounds_toArray, List.set_cons_zero, List.set_cons_succ]
    refine tk (i := 13) (v := ?_) rfl (Or.inl ⟨rfl, ?hy23⟩) ?_
    case hy23 =>
     intro W hS
     have e0 := cell_stays hS c0
     have e1 := cell_stays hS c1
     have e2 := cell_stays hS c2
     have e3 := cell_stays hS c3
     have e4 := cell_stays hS c4
     have e5 := cell_stays hS c5
     have e6 := cell_stays hS c6
     go_simp
     try with_reducible rfl
    try simp only [Act.put, List.getElem_toArray, List.getElem_cons_succ, List.getElem_cons_zero, List.setIfInBounds_toArray, List.set_cons_zero, List.set_cons_succ]
    refine tk (i := 14) (v := ?_) rfl (Or.inl ⟨rfl, ?hy24⟩) ?_
    case hy24 =>
     intro W hS
     go_simp
     try with_reducible rfl
    try simp only [Act.put, List.getElem_toArray, List.getElem_cons_succ, List.getElem_cons_zero, List.setIfInBounds_toArray, List.set_cons_zero, List.set_cons_succ]
    refine wpAnyH_ready (rs := [15]) (by kernel_rfl) (by simp) (AllReadyH.cons rfl (fun K hK => ?_) AllReadyH.nil)
    go_simp
    go_wp2_with (go_at_call 47; refine (HMY.out _ hHeld).mono ?_; rintro e wp ⟨rfl, hb2⟩)
    refine hK.out _ _ (hHeld.trans (hb2.mono hHeld.size)) (fun hX => ?_)
    clear hK K hHeld
    have hHeld := hX
    clear hX
    refine tk (i := 16) (v := ?_) rfl (Or.inl ⟨rfl, ?hy25⟩) ?_
    case hy25 =>
     intro W hS
     go_simp
     try with_reducible rfl
    try simp only [Act.put, List.getElem_toArray, List.getElem_cons_succ, List.getElem_cons_zero, List.setIfInBounds_toArray, List.set_cons_zero, List.set_cons_succ]
    refine tk (i := 17) (v := ?_) rfl (Or.inl ⟨rfl, ?hy26⟩) ?_
    case hy26 =>
     intro W hS
     go_simp
     try with_reducible rfl
    try simp only [Act.put, List.getElem_toArray, List.getElem_cons_succ, List.getElem_cons_zero, List.setIfInBounds_toArray, List.set_cons_zero, List.set_cons_succ]
    refine wpAnyH_done (by kernel_rfl) ?_ _
    have HBE := Lib.hid (hb.out.trans (hHeld.mono hb.out.size))
    have HCW := Lib.hid hHeld
    clear hHeld
    cases r with
    | false =>
     go_wp2
     go_ret2
     exact RunPost.no (HNO.out (.inr (runO_none (by rw [HX.out]; rfl)))) HBE.out
    | true =>
     have e0 := cell_stays HCW.out c0
     have e1 := cell_stays HCW.out c1
     have e2 := cell_stays HCW.out c2
     have e3 := cell_stays HCW.out c3
     have e4 := cell_stays HCW.out c4
     have e5 := cell_stays HCW.out c5
     have e6 := cell_stays HCW.out c6
     have hw : IntKind.i64.wrap (m + y) = m + y := by
      have z1 := HM.out
      have z2 := HRM.out (by trivial)
      have z3 := HG.out
      simp only [IntKind.wrap_i64]; omega
     have HM2 := Lib.hid (show 0 ≤ m + y ∧ m + y ≤ 20000 from ⟨by have z1 := HM.out; have z3 := HG.out; omega, HRM.out (by trivial)⟩)
     go_wp2_with fail
     refine (HAD.out _).mono ?_
     rintro e w2 ⟨rfl, hb2⟩
     have HB2 := Lib.hid (HBE.out.trans (hb2.mono HBE.out.size))
     clear hb2 e0 e1 e2 e3 e4 e5 e6
     go_wp2
     go_roundw
     case rel => exact ⟨k + 1, m + y, by go_num, by omega, rfl, by rw [HU.out]; exact Lib.hid rfl, by rw [HX.out]; exact Lib.hid rfl, HM2, HB2⟩
     case measure => simp [intOf]; omega
  ·obtain rfl : N = k := by omega
   have hu' := hu.out
   have hr' := hr.out
   rw [List.take_of_length_le (by rw [List.length_map, HN.out]; exact Nat.le_refl _)] at hu' hr'
   have HP := Lib.hid ((HYES.out hu').trans hr')
   clear hu' hr'
   go_wp2
   go_ret2
   exact RunPost.yes HP.out hb.out
end Go.Proofs.YthekkjfaaedamaaGreatDoor

namespace Go.Proofs.YthekkjfaaedamaaGreatDoor
open Go.RowKit

def REnt.ent (x : REnt) : PEnt := ⟨x.op.op, x.edit⟩
def RHist.hist (h : RHist) : PHist := ⟨h.base, h.vec, h.fr, h.num, h.list.map REnt.ent⟩
structure RHist.Fit (h : RHist) : Prop where
 base : h.base.length ≤ 1000000
 vec : h.vec.length ≤ 1000000
 list : h.list.length ≤ 1000000
 cell : ∀ c ∈ h.base, (Lit.int .i64 c.site).wf = true
 nm : ∀ x ∈ h.list, oNWf x.op
 op : ∀ x ∈ h.list, x.op.RFit
 et : ∀ x ∈ h.list, x.et.size ≤ 1000000
end Go.Proofs.YthekkjfaaedamaaGreatDoor

namespace Go.Proofs.YthekkjfaaedamaaGreatDoor
open Go.RowKit

def REnt.val (x : REnt) : Value := .agg #[.int .i64 x.op.site, .int .i64 x.op.seq, .int .i64 x.op.num, .int .i64 x.op.kind, .int .i64 x.op.pl, .string x.op.text, x.op.sp, .int .i64 x.es, .int .i64 x.eq, .int .i64 x.ec, .int .i64 x.ek, .int .i64 x.ea, .int .i64 x.el, .string x.et]
def numR (x : REnt) : Bool := x.op.num != 0
set_option maxRecDepth 100000 in
set_option maxHeartbeats 2000000 in
theorem isPending_any (x : REnt) (w : World) (hs : SpAt w x.op.sp x.op.xs) :
  Calls Tryz.prog 28 #[x.val] w fun e w' => e = .returned (.bool (x.op.num == 0)) ∧ Below w.heap.size w w' := by
 obtain ⟨⟨s, q, n, k, pl, t, sp, xs⟩, es, eq, ec, ek, ea, el, et⟩ := x
 dsimp only at hs ⊢
 obtain ⟨sa, sc, rfl, -⟩ := hs
 have hrow := heap_alloc_new w (.cells #[.int .i64 s, .int .i64 q, .int .i64 n, .int .i64 k, .int .i64 pl, .string t, .slice sa xs.length sc, .int .i64 es, .int .i64 eq, .int .i64 ec, .int .i64 ek, .int .i64 ea, .int .i64 el, .string et] 49)
 have HB := Lib.hid ((Below.refl w.heap.size w).alloc (Nat.le_refl _) (.cells #[.int .i64 s, .int .i64 q, .int .i64 n, .int .i64 k, .int .i64 pl, .string t, .slice sa xs.length sc, .int .i64 es, .int .i64 eq, .int .i64 ec, .int .i64 ek, .int .i64 ea, .int .i64 el, .string et] 49))
 obtain ⟨⟨c0, c1, c2, c3, c4, c5, c6⟩, -⟩ := row14 hrow
 clear hrow
 unfold REnt.val
 go_enter Tryz.func28, Tryz.ntmps28
 go_wp2
 go_ret
 exact ⟨rfl, HB.out⟩
def ixP (l : List REnt) : Int := match l.findIdx? fun x => x.op.num == 0 with
 | some i => i
 | none => -1
theorem ixP_at {l : List REnt} {k : Nat} {x : REnt} (h : l[k]? = some x) (hb : (l.take k).all (fun d => !(d.op.num == 0)) = true) (hx : (x.op.num == 0) = true) : ixP l = k := by
 unfold ixP
 rw [show (l.findIdx? fun x => x.op.num == 0) = some k from by
  obtain ⟨hl, he⟩ := List.getElem?_eq_some_iff.1 h
  rw [List.findIdx?_eq_some_iff_getElem]
  refine ⟨hl, by rw [he]; exact hx, fun j hj => ?_⟩
  have := List.all_eq_true.1 hb (l[j]'(by omega)) (by
   rw [List.mem_take_iff_getElem]
   exact ⟨j, by omega, rfl⟩)
  simpa using this]
theorem ixP_no {l : List REnt} (hb : l.all (fun d => !(d.op.num == 0)) = true) : ixP l = -1 := by
 unfold ixP
 rw [show (l.findIdx? fun x => x.op.num == 0) = none from by
  rw [List.findIdx?_eq_none_iff]
  intro x hx
  have := List.all_eq_true.1 hb x hx
  simpa using this]
set_option maxRecDepth 100000 in
set_option maxHeartbeats 4000000 in
theorem ixfuncE_any (v : Value) (l : List REnt) (w : World) (h : EntsR w v l) (hl : l.length ≤ 1000000) :
  Calls Tryz.prog 55 #[v, .func (.func 28) #[] #[]] w fun e w' => e = .returned (.int .i64 (ixP l)) ∧ Below w.heap.size w w' := by
 have HR := Lib.hid h
 obtain ⟨ao, cap, rfl⟩ := h.shape
 obtain ⟨M, hM⟩ : ∃ M, l.length = M := ⟨_, rfl⟩
 have HM := Lib.hid hM
 rw [hM] at hl
 clear hM h
 rw [HM.out]
 go_enter Tryz.func55, Tryz.ntmps55
 go_wp2
 go_loopw [8, 5, 10, 11, 12, 13, 14, 15, 16, 9] (fun i _ _ _ _ _ _ _ _ _ wr => ∃ k : Nat, k ≤ M ∧ i = .int .i64 k ∧ RowKit.Hid ((l.take k).all (fun d => !(d.op.num == 0)) = true) ∧ RowKit.Hid (Below w.heap.size w wr)) (fun i _ _ _ _ _ _ _ _ _ _ => M - (intOf i).toNat)
 case atStart => exact ⟨0, Nat.zero_le _, rfl, Lib.hid (by simp), Lib.hid (Below.refl _ _)⟩
 case round =>
  rename World => wr
  obtain ⟨k, hk, rfl, hall, hB⟩ := hrel
  rcases Nat.lt_or_ge k M with hlt | hge
  ·obtain ⟨c, hc⟩ : ∃ c, l[k]? = some c := ⟨_, List.getElem?_eq_getElem (by rw [HM.out]; exact hlt)⟩
   have hA := HR.out.below hB.out
   obtain ⟨b, off', cp, hv, ⟨c0, c1, c2, c3, c4, c5, c6⟩, d0, d1, d2, d3, d4, d5, d6⟩ := hA.at hc
   rw [HM.out] at hv
   cases hv
   have hi0 : (0 : Int) ≤ (k : Int) ∧ (k : Int) < (M : Int) := ⟨by omega, by omega⟩
   have HC := Lib.hid hc
   obtain ⟨z, hz⟩ : ∃ z, (c.op.num == 0) = z := ⟨_, rfl⟩
   have hf := isPending_any c wr (hA.mem hc)
   rw [hz] at hf
   obtain ⟨sa, sc, hsp, -⟩ := hA.mem hc
   have HZ := Lib.hid hz
   unfold REnt.val at hf
   obtain ⟨⟨s, q, n, kd, pl, tx, sp, xs⟩, es, eq, ec, ek, ea, el, et⟩ := c
   dsimp only at c0 c1 c2 c3 c4 c5 c6 d0 d1 d2 d3 d4 d5 d6 hf hsp
   subst hsp
   have Hf := Lib.hid hf
   clear hc hf hz hA
   cases z with
   | true =>
    go_wp2_with (go_at_call 28; refine Hf.out.mono ?_; rintro e w2 ⟨rfl, hb2⟩)
    go_ret
    exact ⟨by rw [ixP_at HC.out hall.out HZ.out]; rfl, hB.out.trans (hb2.mono hB.out.size)⟩
   | false =>
    go_wp2_with (go_at_call 28; refine Hf.out.mono ?_; rintro e w2 ⟨rfl, hb2⟩)
    go_roundw
    case rel =>
     refine ⟨k + 1, by omega, by go_num, Lib.hid ?_, Lib.hid (hB.out.trans (hb2.mono hB.out.size))⟩
     rw [List.take_add_one, HC.out, List.all_append, hall.out]
     simp [HZ.out]
    case measure => simp [intOf]; omega
  ·obtain rfl : M = k := by omega
   go_wp2
   go_ret
   exact ⟨by rw [ixP_no (by have := hall.out; rwa [List.take_of_length_le (by rw [HM.out]; exact Nat.le_refl _)] at this)]; rfl, hB.out⟩
def pendK (l : List REnt) : Nat := (l.takeWhile numR).length
theorem pendK_le (l : List REnt) : pendK l ≤ l.length := (List.takeWhile_prefix _).length_le
theorem pend_take (l : List REnt) : l.takeWhile numR = l.take (pendK l) := by
 induction l with
 | nil => rfl
 | cons e r ih =>
  unfold pendK
  by_cases h : numR e = true
  ·rw [List.takeWhile_cons_of_pos h, List.length_cons, List.take_succ_cons]
   exact congrArg _ ih
  ·rw [List.takeWhile_cons_of_neg h]; rfl
theorem pend_drop (l : List REnt) : l.dropWhile numR = l.drop (pendK l) := by
 induction l with
 | nil => rfl
 | cons e r ih =>
  unfold pendK
  by_cases h : numR e = true
  ·rw [List.takeWhile_cons_of_pos h, List.dropWhile_cons_of_pos h, List.length_cons, List.drop_succ_cons]
   exact ih
  ·rw [List.takeWhile_cons_of_neg h, List.dropWhile_cons_of_neg h]; rfl
theorem ixP_eq (l : List REnt) : ixP l = if pendK l < l.length then (pendK l : Int) else -1 := by
 induction l with
 | nil => rfl
 | cons e r ih =>
  unfold ixP pendK at *
  by_cases h : numR e = true
  ·have h' : (e.op.num == 0) = false := by unfold numR at h; simpa using h
   rw [List.findIdx?_cons, h', List.takeWhile_cons_of_pos h]
   simp only [Bool.false_eq_true, if_false, List.length_cons, Nat.add_lt_add_iff_right]
   cases hf : r.findIdx? fun x => x.op.num == 0 with
   | none =>
    rw [hf] at ih
    dsimp only [Option.map_none] at ih ⊢
    split at ih
    ·omega
    ·rename_i g; rw [if_neg g]
   | some i =>
    rw [hf] at ih
    dsimp only [Option.map_some] at ih ⊢
    split at ih
    ·rename_i g; rw [if_pos g]; omega
    ·omega
  ·have h' : (e.op.num == 0) = true := by unfold numR at h; simpa using h
   rw [List.findIdx?_cons, h', List.takeWhile_cons_of_neg h]
   simp
theorem nCells_append : ∀ a b, nCells (a ++ b) = nCells a ++ nCells b
 | [], _ => rfl
 | c :: r, b => by
  show c.vals ++ nCells (r ++ b) = c.vals ++ nCells r ++ nCells b
  rw [nCells_append r b, List.append_assoc]
theorem EntsR.take {W : World} {ao : Option Addr} {n cap : Nat} {l : List REnt} (h : EntsR W (.slice ao n cap) l) (k : Nat) (hk : k ≤ l.length) (cap' : Nat) : EntsR W (.slice ao k cap') (l.take k) := by
 obtain ⟨⟨h0, ao', c', e, h2⟩, h3⟩ := h
 cases e
 have hl : (l.take k).length = k := List.length_take_of_le hk
 refine ⟨⟨by rw [hl]; exact nCells_length _ |>.trans (by rw [hl]), ao, cap', by rw [hl], fun hp => ?_⟩, fun x hx => h3 x (List.mem_of_mem_take hx)⟩
 rw [hl] at hp
 obtain ⟨b, off, rfl, hc⟩ := h2 (by omega)
 refine ⟨b, off, rfl, fun j v hj => hc j v ?_⟩
 have hs : nCells l = nCells (l.take k) ++ nCells (l.drop k) := by rw [← nCells_append, List.take_append_drop]
 rw [hs, List.getElem?_append_left (List.getElem?_eq_some_iff.1 hj).1]
 exact hj
theorem EntsR.drop {W : World} {b off n cap : Nat} {l : List REnt} (h : EntsR W (.slice (some ⟨b, off, none⟩) n cap) l) (k : Nat) (hk : k ≤ l.length) (cap' : Nat) : EntsR W (.slice (some ⟨b, off + k * 14, none⟩) (n - k) cap') (l.drop k) := by
 obtain ⟨⟨h0, ao', c', e, h2⟩, h3⟩ := h
 cases e
 refine ⟨⟨nCells_length _, _, cap', by rw [List.length_drop], fun hp => ?_⟩, fun x hx => h3 x (List.mem_of_mem_drop hx)⟩
 rw [List.length_drop] at hp
 obtain ⟨b', off', e, hc⟩ := h2 (by omega)
 cases e
 refine ⟨b, off + k * 14, rfl, fun j v hj => ?_⟩
 have hs : nCells l = nCells (l.take k) ++ nCells (l.drop k) := by rw [← nCells_append, List.take_append_drop]
 have := hc (k * 14 + j) v (by
  rw [hs, List.getElem?_append_right (by rw [nCells_length, List.length_take_of_le hk]; omega), nCells_length, List.length_take_of_le hk, Nat.add_sub_cancel_left]
  exact hj)
 rwa [Nat.add_assoc]
end Go.Proofs.YthekkjfaaedamaaGreatDoor

namespace Go.Proofs.YthekkjfaaedamaaGreatDoor
open Go.RowKit

theorem EntsR.nilAny (W : World) (ao : Option Addr) (c : Nat) : EntsR W (.slice ao 0 c) [] := ⟨⟨rfl, ao, c, rfl, fun h => absurd h (by simp)⟩, fun x hx => by cases hx⟩
def HPartsPost (l : List REnt) (w : World) (e : Ending) (w' : World) : Prop := ∃ v1 v2, e = .returned (.tuple #[v1, v2]) ∧ EntsR w' v1 (l.take (pendK l)) ∧ EntsR w' v2 (l.drop (pendK l)) ∧ Below w.heap.size w w'
set_option maxRecDepth 100000 in
set_option maxHeartbeats 4000000 in
theorem parts_any (b v u : Value) (fr num : Int) (h : RHist) (w : World) (hR : HistR w b v u h) (hn : h.list.length ≤ 1000000) (hc : CapOk u) :
  Calls Tryz.prog 29 #[hiV b v fr num u] w (HPartsPost h.list w) := by
 obtain ⟨bo, bc, hb0, -, -⟩ := hR.base.shape
 obtain ⟨vo, vc, hv0, -⟩ := id hR.vec
 obtain ⟨ao, cap, hu0⟩ := hR.list.shape
 have HA := Lib.hid hR.list
 have hcap := hc _ _ _ hu0
 subst hb0 hv0 hu0
 obtain ⟨l, hl⟩ : ∃ l, h.list = l := ⟨_, rfl⟩
 rw [hl] at HA hn hcap ⊢
 have hK := pendK_le l
 have hX := ixP_eq l
 have HIX := Lib.hid (fun W (z : Below w.heap.size w W) => ixfuncE_any _ l W (HA.out.below z) hn)
 obtain ⟨K, hKK⟩ : ∃ K, pendK l = K := ⟨_, rfl⟩
 unfold HPartsPost
 rw [hKK] at hK hX ⊢
 obtain ⟨N, hN⟩ : ∃ N, l.length = N := ⟨_, rfl⟩
 have HN := Lib.hid hN
 rw [hN] at hn hcap hK hX
 obtain ⟨M, hM⟩ : ∃ M, h.base.length = M := ⟨_, rfl⟩
 obtain ⟨V, hV⟩ : ∃ V, h.vec.length = V := ⟨_, rfl⟩
 rw [hM, hV]
 rw [hN] at HA HIX ⊢
 obtain ⟨I, hI⟩ : ∃ I, ixP l = I := ⟨_, rfl⟩
 rw [hI] at hX HIX
 have HX := Lib.hid (heap_alloc_new w (.cells #[.slice bo M bc, .slice vo V vc, .int .i64 fr, .int .i64 num, .slice ao N cap] 33))
 have HB := Lib.hid ((Below.refl w.heap.size w).alloc (Nat.le_refl _) (.cells #[.slice bo M bc, .slice vo V vc, .int .i64 fr, .int .i64 num, .slice ao N cap] 33))
 clear hR hl hM hV hN hI hKK hc
 unfold hiV
 obtain ⟨⟨d0, d1, d2, d3, d4⟩, -⟩ := row5 HX.out
 by_cases hlt : K < N
 ·rw [if_pos hlt] at hX
  have h0 : ¬ I < 0 := by omega
  subst hX
  have k1 : (0 : Int) ≤ (K : Int) ∧ (K : Int) ≤ (cap : Int) := ⟨by omega, by omega⟩
  have k2 : (0 : Int) ≤ (K : Int) ∧ (K : Int) ≤ (N : Int) := ⟨by omega, by omega⟩
  obtain ⟨x, hx⟩ := getN_some (l := l) (k := K) (by rw [HN.out]; exact hlt)
  obtain ⟨ab, aoff, ac, hav, -⟩ := HA.out.at hx
  rw [HN.out] at hav
  cases hav
  have hne : ¬ cap = K := by omega
  go_enter Tryz.func29, Tryz.ntmps29
  go_wp2_with fail
  refine (HIX.out _ HB.out).mono ?_
  rintro e w2 ⟨rfl, hb2⟩
  have HX2 := Lib.hid (row_keep hb2 HX.out)
  have HB2 := Lib.hid (HB.out.trans (hb2.mono HB.out.size))
  clear hb2 d0 d1 d2 d3 d4 HIX
  obtain ⟨⟨d0, d1, d2, d3, d4⟩, -⟩ := row5 HX2.out
  go_wp2
  go_quiet (fail)
  go_wp2
  go_ret2
  refine ⟨_, _, rfl, ?_, ?_, ?_⟩
  ·exact (HA.out.below (below_draws HB2.out _)).take K (by rw [HN.out]; exact hK) _
  ·exact (HA.out.below (below_draws HB2.out _)).drop K (by rw [HN.out]; exact hK) _
  ·exact below_draws HB2.out _
 ·rw [if_neg hlt] at hX
  obtain rfl : K = N := by omega
  have h0 : I < 0 := by omega
  subst hX
  have k1 : (0 : Int) ≤ (K : Int) ∧ (K : Int) ≤ (cap : Int) := ⟨by omega, by omega⟩
  have k2 : (0 : Int) ≤ (K : Int) ∧ (K : Int) ≤ (K : Int) := ⟨by omega, by omega⟩
  have HE := Lib.hid (show l.drop K = [] from List.drop_eq_nil_iff.2 (by rw [HN.out]; exact Nat.le_refl _))
  have HT := Lib.hid (show l.take K = l from List.take_of_length_le (by rw [HN.out]; exact Nat.le_refl _))
  rw [HE.out, HT.out]
  by_cases hne : cap = K
  ·subst hne
   go_enter Tryz.func29, Tryz.ntmps29
   go_wp2_with fail
   refine (HIX.out _ HB.out).mono ?_
   rintro e w2 ⟨rfl, hb2⟩
   have HX2 := Lib.hid (row_keep hb2 HX.out)
   have HB2 := Lib.hid (HB.out.trans (hb2.mono HB.out.size))
   clear hb2 d0 d1 d2 d3 d4 HIX
   obtain ⟨⟨d0, d1, d2, d3, d4⟩, -⟩ := row5 HX2.out
   go_wp2
   go_quiet (fail)
   go_wp2
   go_ret2
   exact ⟨_, _, rfl, HA.out.below (below_draws HB2.out _), EntsR.nilAny _ _ _, below_draws HB2.out _⟩
  ·go_enter Tryz.func29, Tryz.ntmps29
   go_wp2_with fail
   refine (HIX.out _ HB.out).mono ?_
   rintro e w2 ⟨rfl, hb2⟩
   have HX2 := Lib.hid (row_keep hb2 HX.out)
   have HB2 := Lib.hid (HB.out.trans (hb2.mono HB.out.size))
   clear hb2 d0 d1 d2 d3 d4 HIX
   obtain ⟨⟨d0, d1, d2, d3, d4⟩, -⟩ := row5 HX2.out
   go_wp2
   go_quiet (fail)
   go_wp2
   go_ret2
   exact ⟨_, _, rfl, HA.out.below (below_draws HB2.out _), EntsR.nilAny _ _ _, below_draws HB2.out _⟩
end Go.Proofs.YthekkjfaaedamaaGreatDoor

namespace Go.Proofs.YthekkjfaaedamaaGreatDoor

def namesIn (v : List Int) (l : List PCell) : Prop := ∀ c ∈ l, (1 ≤ c.site ∧ c.site ≤ 16) ∧ c.seq ≤ vCount v c.site
theorem names_new {v : List Int} {l : List PCell} {s q : Int} (h : namesIn v l) (hr : raiseC v s q = 0) : hasN l s q = false := by
 obtain ⟨-, -, -, hq⟩ := raise_facts hr
 unfold hasN
 rw [List.any_eq_false]
 intro c hc
 simp only [decide_eq_true_eq]
 rintro ⟨e1, e2⟩
 have := (h c hc).2
 rw [e1] at this
 omega
theorem count_more {v : List Int} {s q t : Int} (ht : 1 ≤ t ∧ t ≤ 16) : vCount (vRaise v s q) t = if t = s then q else vCount v t := by
 obtain ⟨k, rfl⟩ : ∃ k : Nat, t = (k : Int) + 1 := ⟨(t - 1).toNat, by omega⟩
 exact vRaise_count v s q k (by omega)
theorem newC_mem {o : POp} {c : PCell} (h : c ∈ newC o) : c.site = o.site ∧ c.seq = o.seq := by
 unfold newC at h
 obtain ⟨i, hi, rfl⟩ := List.mem_mapIdx.1 h
 exact ⟨rfl, rfl⟩
theorem goneC_mem {l : List PCell} {f : Nat → Bool} {c : PCell} (h : c ∈ goneC l f) : ∃ d ∈ l, c.site = d.site ∧ c.seq = d.seq := by
 unfold goneC at h
 obtain ⟨i, hi, rfl⟩ := List.mem_mapIdx.1 h
 exact ⟨l[i], List.getElem_mem hi, rfl, rfl⟩
theorem names_run {v : List Int} {l : List PCell} {o : POp} (h : namesIn v l) (hr : raiseC v o.site o.seq = 0) : namesIn (vRaise v o.site o.seq) (runC l o) := by
 obtain ⟨-, hn, -, hq⟩ := raise_facts hr
 have hn' := of_decide_eq_true hn
 have old : ∀ c : PCell, (∃ d ∈ l, c.site = d.site ∧ c.seq = d.seq) → (1 ≤ c.site ∧ c.site ≤ 16) ∧ c.seq ≤ vCount (vRaise v o.site o.seq) c.site := by
  rintro c ⟨d, hd, e1, e2⟩
  obtain ⟨h1, h2⟩ := h d hd
  rw [e1, e2]
  refine ⟨h1, ?_⟩
  rw [count_more h1]
  split
  ·rename_i g; rw [g] at h2; omega
  ·exact h2
 intro c hc
 unfold runC at hc
 split at hc
 ·rcases List.mem_append.1 hc with hc | hc
  ·rcases List.mem_append.1 hc with hc | hc
   ·exact old c ⟨c, List.mem_of_mem_take hc, rfl, rfl⟩
   ·obtain ⟨e1, e2⟩ := newC_mem hc
    rw [e1, e2]
    refine ⟨by omega, ?_⟩
    rw [count_more (by omega), if_pos rfl]
    exact Int.le_refl _
  ·exact old c ⟨c, List.mem_of_mem_drop hc, rfl, rfl⟩
 ·exact old c (goneC_mem hc)
theorem raisesH_at : ∀ (l : List PEnt) (k : Nat) (e : PEnt) (v r : List Int), l[k]? = some e → raisesH v l = some r → ∃ y, raisesH v (l.take k) = some y ∧ raiseC y e.op.site e.op.seq = 0
 | [], k, e, v, r, h, _ => by simp at h
 | d :: l, 0, e, v, r, h, h2 => by
  obtain rfl : d = e := by simpa using h
  have h' : (if raiseC v d.op.site d.op.seq = 0 then raisesH (vRaise v d.op.site d.op.seq) l else none) = some r := h2
  split at h'
  ·rename_i g; exact ⟨v, rfl, g⟩
  ·cases h'
 | d :: l, k + 1, e, v, r, h, h2 => by
  have h' : (if raiseC v d.op.site d.op.seq = 0 then raisesH (vRaise v d.op.site d.op.seq) l else none) = some r := h2
  split at h'
  ·rename_i g
   obtain ⟨y, h3, h4⟩ := raisesH_at l k e _ r (by simpa using h) h'
   exact ⟨y, by rw [List.take_succ_cons]; show (if _ then _ else _) = _; rw [if_pos g]; exact h3, h4⟩
  ·cases h'
theorem names_replay {v : List Int} {base : List PCell} (h : namesIn v base) : ∀ (l : List PEnt) (v' : List Int), raisesH v l = some v' → namesIn v' (replayC base (l.map PEnt.op))
 | l, v', hr => by
  induction l generalizing v base with
  | nil => obtain rfl : v = v' := Option.some.inj hr; exact h
  | cons e r ih =>
   have h' : (if raiseC v e.op.site e.op.seq = 0 then raisesH (vRaise v e.op.site e.op.seq) r else none) = some v' := hr
   split at h'
   ·rename_i g
    exact ih (names_run h g) h'
   ·cases h'
theorem may_parts8 {h : PHist} (hm : mayH h = true) : c1H h = true ∧ c2H h = true ∧ c3H h = true ∧ c4H h = true ∧ c5H h = true ∧ c6H h = true ∧ c7H h = true ∧ c8H h = true := by
 rw [mayH_told] at hm
 simpa only [Bool.and_eq_true] using hm
theorem replay_do {h : PHist} (hm : mayH h = true) {k : Nat} {o : POp} (ho : h.ops[k]? = some o) :
  cDo (replayC h.base (h.ops.take k)) o = (replayC h.base (h.ops.take (k + 1)), 0) := by
 obtain ⟨-, h2, -, -, -, h6, h7, h8⟩ := may_parts8 hm
 unfold c7H at h7
 obtain ⟨m, hrun⟩ := Option.isSome_iff_exists.1 h7
 unfold lRun at hrun
 split at hrun
 case isFalse => cases hrun
 obtain ⟨p, hp, hom⟩ := runO_step hrun ho
 have hlen := replayC_length _ h.base p hp
 have hbase : namesIn h.vec h.base := by
  unfold c2H at h2
  rw [Bool.and_eq_true] at h2
  intro c hc
  have := List.all_eq_true.1 h2.2 c hc
  unfold inVec at this
  simp only [Bool.and_eq_true, decide_eq_true_eq] at this
  have hn := of_decide_eq_true this.1.2
  exact ⟨by omega, this.2⟩
 unfold PHist.ops at ho
 rw [List.getElem?_map] at ho
 obtain ⟨e, he, rfl⟩ := Option.map_eq_some_iff.1 ho
 unfold c6H at h6
 obtain ⟨r, hr⟩ := Option.isSome_iff_exists.1 h6
 obtain ⟨y, hy, hz⟩ := raisesH_at _ k e _ r he hr
 have hns := names_replay hbase _ _ hy
 rw [List.map_take] at hns
 have hnn := names_new hns hz
 rw [replayC_next (o := e.op) (by unfold PHist.ops; rw [List.getElem?_map, he]; rfl)]
 unfold cDo
 rw [hlen, (oMay_iff _ _).2 hom, if_pos rfl]
 rw [if_neg]
 rintro ⟨-, g⟩
 unfold PHist.ops at g
 rw [hnn] at g
 cases g
end Go.Proofs.YthekkjfaaedamaaGreatDoor

namespace Go.Proofs.YthekkjfaaedamaaGreatDoor
open Go.RowKit

theorem infoEnC : (Tryz.prog.info? 49).map (fun i => (i.zero, i.size, i.bytes)) = some (some (.agg #[.int .i64 0, .int .i64 0, .int .i64 0, .int .i64 0, .int .i64 0, .string ⟨#[]⟩, .slice none 0 0, .int .i64 0, .int .i64 0, .int .i64 0, .int .i64 0, .int .i64 0, .int .i64 0, .string ⟨#[]⟩]), 14, 144) := by kernel_rfl
theorem nCells_1c : ∀ (l : List REnt), (∀ x ∈ l, x.op.sp.oneCell' = true) → ∀ u ∈ nCells l, u.oneCell' = true
 | [], _, _, h => by cases h
 | c :: r, hs, u, h => by
  rcases List.mem_append.1 (show u ∈ c.vals ++ nCells r from h) with g | g
  ·have hc := hs c (List.mem_cons_self ..)
   unfold REnt.vals ROp.vals at g
   simp only [List.mem_append, List.mem_cons, List.not_mem_nil, or_false] at g
   rcases g with (rfl | rfl | rfl | rfl | rfl | rfl | rfl) | rfl | rfl | rfl | rfl | rfl | rfl | rfl
   all_goals first | rfl | exact hc
  ·exact nCells_1c r (fun x hx => hs x (List.mem_cons_of_mem _ hx)) u g
theorem EntsR.one {W : World} {v : Value} {l : List REnt} (h : EntsR W v l) : ∀ u ∈ nCells l, u.oneCell' = true := nCells_1c l fun x hx => by
 obtain ⟨ao, c, hv, _⟩ := h.2 x hx
 rw [hv]
 rfl
theorem growEn_any (n : Nat) (w : World) (hn : n ≤ 1000000) : Calls Tryz.prog 56 #[.slice none 0 0, .int .i64 n] w fun e w' => ∃ v, e = .returned v ∧ w'.ownsRow w.heap.size 49 14 v 0 [] ∧ Below w.heap.size w w' := by
 obtain ⟨i0, hi, hz0, hz1, hz2⟩ := info_parts infoEnC
 rcases Nat.eq_zero_or_pos n with rfl | hp
 ·exact (Any8.slices_Grow_room Tryz.growEn none 0 0 0 w (Nat.le_refl _) (by omega) (by omega) (Nat.le_refl _)).mono fun e w' h => by
   obtain ⟨rfl, rfl⟩ := h
   exact ⟨_, rfl, World.ownsRow_nil _ _ _ _, Below.refl _ _⟩
 ·refine (Any8.slices_Grow_grow Tryz.growEn i0 _ hi hz0 (by rw [hz1]; decide) none 0 0 n [] w (Nat.le_refl _) (by omega) (by rw [hz2]; omega) (by omega) (by simp) (fun _ => rfl) (fun a h => by cases h)).mono fun e w' h => ?_
  obtain ⟨rfl, rfl⟩ := h
  obtain ⟨G, hG⟩ : ∃ G, grownCap w (0 + n) 0 49 = G := ⟨_, rfl⟩
  have hG1 : 0 + n ≤ G := by rw [← hG]; exact grownCap_ge w _ _ _
  have hG2 : G ≤ maxLen := by rw [← hG]; exact grownCap_le_maxLen w _ _ _ (by unfold maxLen; omega)
  refine ⟨_, rfl, ⟨by simp, .inr ⟨w.heap.size, G, _, ?_, Nat.le_refl _, heap_alloc_new w.drew _, Nat.zero_le _, hG2, ?_, by simp⟩⟩, (Below.refl w.heap.size w).drew.alloc (Nat.le_refl _) _⟩
  ·show Value.slice _ _ (grownCap w (0 + n) 0 49) = _
   rw [hG]
  ·show (_ ++ Builtin.zeroCells _ _ ++ Builtin.zeroCells _ (grownCap w (0 + n) 0 49 - (0 + n))).size = _
   rw [hG, Array.size_append, Array.size_append, size_zeroCells, size_zeroCells]
   show 0 + (0 + n - 0) * 14 + (G - (0 + n)) * 14 = G * 14
   omega
def SlsE (W : World) (v : Value) (ls : List (List REnt)) : Prop := ∃ g off cap, v = .slice (some ⟨g, off, none⟩) ls.length cap ∧ ∀ (i : Nat) (l : List REnt), ls[i]? = some l → ∃ u, W.cell? ⟨g, off + i, none⟩ = some u ∧ EntsR W u l
theorem SlsE.below {W W' : World} {v : Value} {ls : List (List REnt)} (h : SlsE W v ls) (hb : Below W.heap.size W W') : SlsE W' v ls := by
 obtain ⟨g, off, cap, rfl, h1⟩ := h
 refine ⟨g, off, cap, rfl, fun i l hi => ?_⟩
 obtain ⟨u, h2, h3⟩ := h1 i l hi
 exact ⟨u, cell_stays hb h2, h3.below hb⟩
theorem flatE_next {ls : List (List REnt)} {k : Nat} {l : List REnt} (h : ls[k]? = some l) : (ls.take (k + 1)).flatten = (ls.take k).flatten ++ l := by
 rw [List.take_add_one, h, List.flatten_append]
 simp
theorem flatE_le {ls : List (List REnt)} (k : Nat) : (ls.take k).flatten.length ≤ ls.flatten.length := by
 conv => rhs; rw [← List.take_append_drop k ls]
 rw [List.flatten_append, List.length_append]
 omega
def CatEPost (l : List REnt) (w : World) (e : Ending) (w' : World) : Prop := ∃ v, e = .returned v ∧ w'.ownsRow w.heap.size 49 14 v l.length (nCells l) ∧ Below w.heap.size w w'
set_option maxRecDepth 100000 in
set_option maxHeartbeats 4000000 in
theorem concatE_any (v : Value) (ls : List (List REnt)) (w : World) (h : SlsE w v ls) (hn : ls.flatten.length ≤ 1000000) (hm : ls.length ≤ 1000000) :
  Calls Tryz.prog 30 #[v] w (CatEPost ls.flatten w) := by
 obtain ⟨i0, hi, hz0, hz1, hz2⟩ := info_parts infoEnC
 have HA := Lib.hid h
 obtain ⟨g, off, cap, rfl, -⟩ := id h
 clear h
 obtain ⟨N, hN⟩ : ∃ N, ls.length = N := ⟨_, rfl⟩
 have HN := Lib.hid hN
 have HT := Lib.hid hn
 rw [hN] at hm ⊢
 clear hN hn
 go_enter Tryz.func30, Tryz.ntmps30
 go_wp2
 go_loopw [3, 11] (fun s i wr => ∃ k z : Nat, i = .int .i64 k ∧ k ≤ N ∧ s = .int .i64 z ∧ RowKit.Hid (z = (ls.take k).flatten.length) ∧ RowKit.Hid (wr = w)) (fun _ i _ => N - (intOf i).toNat)
 case atStart => exact ⟨0, 0, rfl, Nat.zero_le _, rfl, Lib.hid rfl, Lib.hid rfl⟩
 case round =>
  obtain ⟨k, z, rfl, hk, rfl, hz, hw⟩ := hrel
  rcases Nat.lt_or_ge k N with hlt | hge
  ·obtain ⟨l, hl⟩ : ∃ l, ls[k]? = some l := ⟨_, List.getElem?_eq_getElem (by rw [HN.out]; exact hlt)⟩
   obtain ⟨g', off', cap', hv, hc⟩ := HA.out
   cases hv
   obtain ⟨u, hu, hr⟩ := hc k l hl
   rw [← hw.out] at hu
   obtain ⟨ao, ac, rfl⟩ := hr.shape
   have hz1' : z + l.length ≤ 1000000 := by
    have h1 := flatE_next hl
    have h2 := flatE_le (ls := ls) (k + 1)
    have h3 := HT.out
    rw [h1, List.length_append, ← hz.out] at h2
    omega
   have HZ := Lib.hid (show z + l.length = (ls.take (k + 1)).flatten.length by rw [flatE_next hl, List.length_append, ← hz.out])
   clear hc hr hl
   have hi0 : (0 : Int) ≤ (k : Int) ∧ (k : Int) < (N : Int) := ⟨by omega, by omega⟩
   go_wp2
   go_roundw
   case rel => exact ⟨k + 1, z + l.length, by go_num, by omega, by go_num, HZ, hw⟩
   case measure => simp [intOf]; omega
  ·obtain rfl : N = k := by omega
   obtain rfl : w = wr := hw.out.symm
   clear hw hk hge
   have hz1' : z ≤ 1000000 := by
    have h2 := flatE_le (ls := ls) N
    have h3 := HT.out
    rw [← hz.out] at h2
    omega
   go_wp2_with fail
   refine (growEn_any z _ hz1').mono ?_
   rintro e w1 ⟨v1, rfl, ho, hb⟩
   have HO := Lib.hid ho
   have HB := Lib.hid hb
   clear ho hb hz hz1'
   go_wp2
   go_loopw [6, 27] (fun s i wr => ∃ (k : Nat) (v : Value), i = .int .i64 k ∧ k ≤ N ∧ s = v ∧ RowKit.Hid (wr.ownsRow w.heap.size 49 14 v (ls.take k).flatten.length (nCells (ls.take k).flatten)) ∧ RowKit.Hid (Below w.heap.size w wr)) (fun _ i _ => N - (intOf i).toNat)
   case atStart => exact ⟨0, v1, rfl, Nat.zero_le _, rfl, HO, HB⟩
   case round =>
    obtain ⟨k, v, rfl, hk, rfl, ho, hb⟩ := hrel
    rcases Nat.lt_or_ge k N with hlt | hge
    ·obtain ⟨l, hl⟩ : ∃ l, ls[k]? = some l := ⟨_, List.getElem?_eq_getElem (by rw [HN.out]; exact hlt)⟩
     obtain ⟨g', off', cap', hv, hc⟩ := HA.out.below hb.out
     cases hv
     obtain ⟨u, hu, hr⟩ := hc k l hl
     obtain ⟨ao, ac, rfl⟩ := hr.shape
     have hlen : (ls.take (k + 1)).flatten.length = (ls.take k).flatten.length + l.length := by rw [flatE_next hl, List.length_append]
     have hle : (ls.take k).flatten.length + l.length ≤ 1000000 := by
      have h2 := flatE_le (ls := ls) (k + 1)
      have h3 := HT.out
      omega
     have HFN := Lib.hid (show (ls.take (k + 1)).flatten = (ls.take k).flatten ++ l from flatE_next hl)
     have HR := Lib.hid hr
     obtain ⟨m, hm'⟩ : ∃ m, (ls.take k).flatten.length = m := ⟨_, rfl⟩
     have HM := Lib.hid hm'
     have ho' := ho.out
     rw [hm'] at hle ho'
     have HO' := Lib.hid ho'
     have h1' : m + l.length ≤ maxLen := by unfold maxLen; omega
     have h2' : (m + l.length) * 144 ≤ 140737488355328 := by omega
     have h3' := hb.out.size
     clear hc hr hl hlen hm' ho' ho
     have hi0 : (0 : Int) ≤ (k : Int) ∧ (k : Int) < (N : Int) := ⟨by omega, by omega⟩
     go_wp2_with (at_builtin; go_must (refine wpList_app_any rfl _ _ 24 rfl w.heap.size 49 i0 _ 14 144 Tryz.underlying24 hi hz0 hz1 hz2 rfl (by decide) _ m (nCells (ls.take k).flatten) rfl HO'.out _ l.length (nCells l) rfl HR.out.1 HR.out.one h1' h2' h3' ?_; intro v2 w2 ho2 hg2; have HO2 := Lib.hid ho2; have HB2 := Lib.hid (hb.out.grown hg2 h3' (own_ge HO'.out)); clear ho2 hg2))
     go_roundw
     case rel => exact ⟨k + 1, v2, by go_num, by omega, rfl, by rw [HFN.out, List.length_append, nCells_append, HM.out]; exact HO2, HB2⟩
     case measure => simp [intOf]; omega
    ·obtain rfl : N = k := by omega
     go_wp2
     go_ret
     refine ⟨_, rfl, ?_, hb.out⟩
     have := ho.out
     rwa [List.take_of_length_le (by rw [HN.out]; exact Nat.le_refl _)] at this
end Go.Proofs.YthekkjfaaedamaaGreatDoor

namespace Go.Proofs.YthekkjfaaedamaaGreatDoor
open Go.RowKit

set_option maxRecDepth 100000 in
set_option maxHeartbeats 16000000 in
theorem rHMay_any (b v u : Value) (fr num : Int) (h : RHist) (w : World) (hR : HistR w b v u h) (hF : h.Fit) (hfr : fr = h.fr) (hnum : num = h.num) :
  Calls Tryz.prog 8 #[hiV b v fr num u] w (MayPost (mayH h.hist) w) := by
 obtain ⟨bo, bc, hb0, -, -⟩ := hR.base.shape
 obtain ⟨vo, vc, hv0, -⟩ := id hR.vec
 obtain ⟨ao, cap, hu0⟩ := hR.list.shape
 obtain ⟨base, vec, fr', num', l⟩ := h
 dsimp only at hfr hnum
 subst hfr hnum
 obtain ⟨hRb, hRv, hRl⟩ := hR
 obtain ⟨f1, f2, f3, f4, f5, f6, f7⟩ := hF
 dsimp only at hRb hRv hRl hb0 hv0 hu0 f1 f2 f3 f4 f5 f6 f7
 subst hb0 hv0 hu0
 show Calls _ _ _ w (MayPost (mayH ⟨base, vec, fr, num, l.map REnt.ent⟩) w)
 have HNO := Lib.hid (show (headH ⟨base, vec, fr, num, l.map REnt.ent⟩ = false ∨ lRun ((l.map REnt.op).map ROp.op) base.length = none ∨ baseH ⟨base, vec, fr, num, l.map REnt.ent⟩ = false ∨ hFold num (l.map REnt.ent) (fr, 0, vec) = none) → mayH ⟨base, vec, fr, num, l.map REnt.ent⟩ = false from by
  have e : PHist.ops ⟨base, vec, fr, num, l.map REnt.ent⟩ = (l.map REnt.op).map ROp.op := by unfold PHist.ops; rw [List.map_map, List.map_map]; rfl
  unfold mayH
  rw [e]
  rintro (g | g | g | g)
  ·rw [g]; rfl
  ·dsimp only; rw [g]; simp
  ·rw [g]; simp
  ·dsimp only; rw [g]; simp)
 have HYES := Lib.hid (show headH ⟨base, vec, fr, num, l.map REnt.ent⟩ = true → (∃ m, lRun ((l.map REnt.op).map ROp.op) base.length = some m) → baseH ⟨base, vec, fr, num, l.map REnt.ent⟩ = true → (∃ st, hFold num (l.map REnt.ent) (fr, 0, vec) = some st) → mayH ⟨base, vec, fr, num, l.map REnt.ent⟩ = true from by
  have e : PHist.ops ⟨base, vec, fr, num, l.map REnt.ent⟩ = (l.map REnt.op).map ROp.op := by unfold PHist.ops; rw [List.map_map, List.map_map]; rfl
  rintro g1 ⟨m, g2⟩ g3 ⟨st, g4⟩
  unfold mayH
  rw [e]
  dsimp only
  rw [g1, g2, g3, g4]
  rfl)
 obtain ⟨R, hRR⟩ : ∃ R, mayH ⟨base, vec, fr, num, l.map REnt.ent⟩ = R := ⟨_, rfl⟩
 rw [hRR] at HNO HYES ⊢
 have hCM := fun W (z : Below w.heap.size w W) => rMayC_any _ base W (hRb.below z) (by omega)
 have hVM := fun W (z : Below w.heap.size w W) => rMayV_any _ vec W (hRv.below z) (by omega)
 have HHD := Lib.hid (show (cMay base ≠ 0 ∨ vMay vec = false ∨ ¬ (0 ≤ fr ∧ fr ≤ num ∧ num ≤ 1099511627776) ∨ 400 < l.length) → headH ⟨base, vec, fr, num, l.map REnt.ent⟩ = false from by
  unfold headH
  dsimp only
  rintro (g | g | g | g)
  ·rw [decide_eq_false g]; rfl
  ·rw [g]; simp
  ·rw [decide_eq_false g]; simp
  ·rw [show decide ((l.map REnt.ent).length ≤ 400) = false from decide_eq_false (by rw [List.length_map]; omega)]; simp)
 have HHT := Lib.hid (show cMay base = 0 → vMay vec = true → (0 ≤ fr ∧ fr ≤ num ∧ num ≤ 1099511627776) → ¬ 400 < l.length → headH ⟨base, vec, fr, num, l.map REnt.ent⟩ = true from by
  intro g1 g2 g3 g4
  unfold headH
  dsimp only
  rw [decide_eq_true g1, g2, decide_eq_true g3, show decide ((l.map REnt.ent).length ≤ 400) = true from decide_eq_true (by rw [List.length_map]; omega)]
  rfl)
 obtain ⟨C, hC⟩ : ∃ C, cMay base = C := ⟨_, rfl⟩
 obtain ⟨VM, hVMM⟩ : ∃ VM, vMay vec = VM := ⟨_, rfl⟩
 simp only [hC] at hCM HHD HHT
 simp only [hVMM] at hVM HHD HHT
 obtain ⟨N, hN⟩ : ∃ N, l.length = N := ⟨_, rfl⟩
 obtain ⟨M, hM⟩ : ∃ M, base.length = M := ⟨_, rfl⟩
 obtain ⟨V, hV⟩ : ∃ V, vec.length = V := ⟨_, rfl⟩
 rw [hN] at HHD HHT f3
 rw [hN, hM, hV]
 rw [hM] at hCM f1 HNO HYES
 rw [hV] at hVM f2
 have HCM := Lib.hid hCM
 have HVM := Lib.hid hVM
 have HN := Lib.hid hN
 have HM := Lib.hid hM
 have HV := Lib.hid hV
 rw [hM] at hRb
 rw [hV] at hRv
 rw [hN] at hRl
 have HRB := Lib.hid hRb
 have HRV := Lib.hid hRv
 have HRL := Lib.hid hRl
 have HF4 := Lib.hid f4
 have HF5 := Lib.hid f5
 have HF6 := Lib.hid f6
 have HF7 := Lib.hid f7
 have HX := Lib.hid (heap_alloc_new w (.cells #[.slice bo M bc, .slice vo V vc, .int .i64 fr, .int .i64 num, .slice ao N cap] 26))
 have HB := Lib.hid ((Below.refl w.heap.size w).alloc (Nat.le_refl _) (.cells #[.slice bo M bc, .slice vo V vc, .int .i64 fr, .int .i64 num, .slice ao N cap] 26))
 clear hRR hCM hVM hC hVMM hN hM hV hRb hRv hRl f4 f5 f6 f7
 unfold hiV
 obtain ⟨⟨d0, d1, d2, d3, d4⟩, -⟩ := row5 HX.out
 by_cases g1 : C = 0
 case neg =>
  have e1 : (C == 0) = false := beq_eq_false_iff_ne.2 g1
  have e2 : (C != 0) = true := by rw [bne, e1]; rfl
  have HP := Lib.hid (HNO.out (.inl (HHD.out (.inl g1))))
  clear g1
  go_enter Tryz.func8, Tryz.ntmps8
  go_wp2_with fail
  refine (HCM.out _ HB.out).mono ?_
  rintro e w1 ⟨rfl, hb⟩
  clear d0 d1 d2 d3 d4
  have HX1 := Lib.hid (row_keep hb HX.out)
  have HB1 := Lib.hid (HB.out.trans (hb.mono HB.out.size))
  clear hb
  obtain ⟨⟨d0, d1, d2, d3, d4⟩, -⟩ := row5 HX1.out
  go_wp2
  go_ret
  exact ⟨by rw [HP.out]; rfl, HB1.out⟩
 subst g1
 cases VM with
 | false =>
  have HP := Lib.hid (HNO.out (.inl (HHD.out (.inr (.inl rfl)))))
  go_enter Tryz.func8, Tryz.ntmps8
  go_wp2_with fail
  refine (HCM.out _ HB.out).mono ?_
  rintro e w1 ⟨rfl, hb⟩
  clear d0 d1 d2 d3 d4
  have HX1 := Lib.hid (row_keep hb HX.out)
  have HB1 := Lib.hid (HB.out.trans (hb.mono HB.out.size))
  clear hb
  obtain ⟨⟨d0, d1, d2, d3, d4⟩, -⟩ := row5 HX1.out
  go_wp2_with fail
  refine (HVM.out _ HB1.out).mono ?_
  rintro e w1' ⟨rfl, rfl⟩
  go_wp2
  go_ret
  exact ⟨by rw [HP.out]; rfl, HB1.out⟩
 | true =>
 by_cases g2 : fr < 0
 ·have HP := Lib.hid (HNO.out (.inl (HHD.out (.inr (.inr (.inl (by omega)))))))
  go_enter Tryz.func8, Tryz.ntmps8
  go_wp2_with fail
  refine (HCM.out _ HB.out).mono ?_
  rintro e w1 ⟨rfl, hb⟩
  clear d0 d1 d2 d3 d4
  have HX1 := Lib.hid (row_keep hb HX.out)
  have HB1 := Lib.hid (HB.out.trans (hb.mono HB.out.size))
  clear hb
  obtain ⟨⟨d0, d1, d2, d3, d4⟩, -⟩ := row5 HX1.out
  go_wp2_with fail
  refine (HVM.out _ HB1.out).mono ?_
  rintro e w1' ⟨rfl, rfl⟩
  go_wp2
  go_ret
  exact ⟨by rw [HP.out]; rfl, HB1.out⟩
 by_cases g3 : num < fr
 ·have HP := Lib.hid (HNO.out (.inl (HHD.out (.inr (.inr (.inl (by omega)))))))
  go_enter Tryz.func8, Tryz.ntmps8
  go_wp2_with fail
  refine (HCM.out _ HB.out).mono ?_
  rintro e w1 ⟨rfl, hb⟩
  clear d0 d1 d2 d3 d4
  have HX1 := Lib.hid (row_keep hb HX.out)
  have HB1 := Lib.hid (HB.out.trans (hb.mono HB.out.size))
  clear hb
  obtain ⟨⟨d0, d1, d2, d3, d4⟩, -⟩ := row5 HX1.out
  go_wp2_with fail
  refine (HVM.out _ HB1.out).mono ?_
  rintro e w1' ⟨rfl, rfl⟩
  go_wp2
  go_ret
  exact ⟨by rw [HP.out]; rfl, HB1.out⟩
 by_cases g4 : 1099511627776 < num
 ·have HP := Lib.hid (HNO.out (.inl (HHD.out (.inr (.inr (.inl (by omega)))))))
  go_enter Tryz.func8, Tryz.ntmps8
  go_wp2_with fail
  refine (HCM.out _ HB.out).mono ?_
  rintro e w1 ⟨rfl, hb⟩
  clear d0 d1 d2 d3 d4
  have HX1 := Lib.hid (row_keep hb HX.out)
  have HB1 := Lib.hid (HB.out.trans (hb.mono HB.out.size))
  clear hb
  obtain ⟨⟨d0, d1, d2, d3, d4⟩, -⟩ := row5 HX1.out
  go_wp2_with fail
  refine (HVM.out _ HB1.out).mono ?_
  rintro e w1' ⟨rfl, rfl⟩
  go_wp2
  go_ret
  exact ⟨by rw [HP.out]; rfl, HB1.out⟩
 by_cases g5 : 400 < N
 ·have HP := Lib.hid (HNO.out (.inl (HHD.out (.inr (.inr (.inr g5))))))
  have g5' : (400 : Int) < (N : Int) := by omega
  go_enter Tryz.func8, Tryz.ntmps8
  go_wp2_with fail
  refine (HCM.out _ HB.out).mono ?_
  rintro e w1 ⟨rfl, hb⟩
  clear d0 d1 d2 d3 d4
  have HX1 := Lib.hid (row_keep hb HX.out)
  have HB1 := Lib.hid (HB.out.trans (hb.mono HB.out.size))
  clear hb
  obtain ⟨⟨d0, d1, d2, d3, d4⟩, -⟩ := row5 HX1.out
  go_wp2_with fail
  refine (HVM.out _ HB1.out).mono ?_
  rintro e w1' ⟨rfl, rfl⟩
  go_wp2
  go_ret
  exact ⟨by rw [HP.out]; rfl, HB1.out⟩
 have g5' : ¬ (400 : Int) < (N : Int) := by omega
 have HHH := Lib.hid (HHT.out rfl rfl (by omega) g5)
 clear HHD HHT
 obtain ⟨r, hr⟩ : ∃ r, lRun ((l.map REnt.op).map ROp.op) M = r := ⟨_, rfl⟩
 obtain ⟨L, hL⟩ : ∃ L, l.map REnt.op = L := ⟨_, rfl⟩
 have hLN : L.length = N := by rw [← hL, List.length_map, HN.out]
 have hOp := fun W (z : Below w.heap.size w W) => (rHOps_any (.slice bo M bc) (.slice vo V vc) (.slice ao N cap) fr num ⟨base, vec, fr, num, l⟩ W ⟨HRB.out.below z, HRV.out.below z, HRL.out.below z⟩ (by dsimp only; rw [HN.out]; exact f3)).mono (fun e W' h => (show ∃ zo zc, e = .returned (.slice zo N zc) ∧ W'.ownsRow W.heap.size 45 7 (.slice zo N zc) N (oCells L) ∧ Below W.heap.size W W' from by
  obtain ⟨v, h1, h2, h3⟩ := h
  dsimp only at h2
  rw [hL, hLN] at h2
  obtain ⟨zo, zc, hz, _⟩ := (RowR.of_own h2).2
  subst hz
  exact ⟨zo, zc, h1, h2, h3⟩))
 unfold hiV at hOp
 have hRn := fun W v' (z : Below w.heap.size w W) (ho : ∃ K, W.ownsRow K 45 7 v' N (oCells L)) => rLRun_any v' L M W ⟨RowR.of_own (by rw [hLN]; exact ho.choose_spec), fun x hx => by
  rw [← hL] at hx
  obtain ⟨y, hy, rfl⟩ := List.mem_map.1 hx
  exact (HRL.out.2 y hy).below z⟩ (fun x hx => by
  rw [← hL] at hx
  obtain ⟨y, hy, rfl⟩ := List.mem_map.1 hx
  exact HF6.out y hy) (by rw [hLN]; exact f3) (CapOk.of_own ho.choose_spec)
 rw [hL] at hr
 rw [hr] at hRn
 have HOPC := Lib.hid hOp
 have HRUN := Lib.hid hRn
 have HRR := Lib.hid (show lRun ((l.map REnt.op).map ROp.op) M = r by rw [hL]; exact hr)
 clear hOp hRn hr hL hLN
 go_enter Tryz.func8, Tryz.ntmps8
 go_wp2_with fail
 refine (HCM.out _ HB.out).mono ?_
 rintro e w1 ⟨rfl, hb⟩
 clear d0 d1 d2 d3 d4
 have HX1 := Lib.hid (row_keep hb HX.out)
 have HB1 := Lib.hid (HB.out.trans (hb.mono HB.out.size))
 clear hb
 obtain ⟨⟨d0, d1, d2, d3, d4⟩, -⟩ := row5 HX1.out
 go_wp2_with fail
 refine (HVM.out _ HB1.out).mono ?_
 rintro e w1' ⟨rfl, rfl⟩
 go_wp2_with fail
 cases r with
 | none =>
  have HP := Lib.hid (HNO.out (.inr (.inl HRR.out)))
  refine wp_region_held_drew (S := fun X => X.heap[w.heap.size]? = some (.cells #[.slice bo M bc, .slice vo V vc, .int .i64 fr, .int .i64 num, .slice ao N cap] 26 (0, 0))) (by kernel_rfl) HX1.out (fun hHeld => ?_)
  have HB1d := Lib.hid HB1.out.drew
  clear d0 d1 d2 d3 d4
  refine tk (i := 0) (v := ?_) rfl (Or.inl ⟨rfl, ?hy1⟩) ?_
  case hy1 =>
   intro W hS
   obtain ⟨⟨e0, e1, e2, e3, e4⟩, -⟩ := row5 hS
   go_simp
   try with_reducible rfl
  try simp only [Act.put, List.getElem_toArray, List.getElem_cons_zero, List.setIfInBounds_toArray, List.set_cons_zero, List.set_cons_succ]
  refine tk (i := 2) (v := ?_) rfl (Or.inl ⟨rfl, ?hy2⟩) ?_
  case hy2 =>
   intro W hS
   go_simp
   try with_reducible rfl
  try simp only [Act.put, List.getElem_toArray, List.getElem_cons_succ, List.getElem_cons_zero, List.setIfInBounds_toArray, List.set_cons_zero, List.set_cons_succ]
  refine tk (i := 3) (v := ?_) rfl (Or.inl ⟨rfl, ?hy3⟩) ?_
  case hy3 =>
   intro W hS
   obtain ⟨⟨e0, e1, e2, e3, e4⟩, -⟩ := row5 hS
   go_simp
   try with_reducible rfl
  try simp only [Act.put, List.getElem_toArray, List.getElem_cons_succ, List.getElem_cons_zero, List.setIfInBounds_toArray, List.set_cons_zero, List.set_cons_succ]
  refine tk (i := 4) (v := ?_) rfl (Or.inl ⟨rfl, ?hy4⟩) ?_
  case hy4 =>
   intro W hS
   go_simp
   try with_reducible rfl
  try simp only [Act.put, List.getElem_toArray, List.getElem_cons_succ, List.getElem_cons_zero, List.setIfInBounds_toArray, List.set_cons_zero, List.set_cons_succ]
  refine wpAnyH_ready (rs := [1]) (by kernel_rfl) (by simp) (AllReadyH.cons rfl (fun K hK => ?_) AllReadyH.nil)
  go_simp
  go_wp2_with (go_at_call 21; refine (HOPC.out _ HB1d.out).mono ?_; rintro e wq ⟨zo, zc, rfl, ho, hb1⟩)
  have HO := Lib.hid ho
  have HB2 := Lib.hid (HB1d.out.trans (hb1.mono HB1d.out.size))
  refine hK.out _ _ (row_keep hb1 hHeld) (fun hX => ?_)
  clear hK K hHeld
  have hHeld := hX
  clear hX
  refine wpAnyH_ready (rs := [5]) (by kernel_rfl) (by simp) (AllReadyH.cons rfl (fun K hK => ?_) AllReadyH.nil)
  go_simp
  go_wp2_with (go_at_call 20; refine (HRUN.out _ _ HB2.out ⟨_, HO.out⟩).mono ?_; rintro e wp ⟨rfl, hb2⟩; dsimp only)
  have HB3 := Lib.hid (HB2.out.trans (hb2.mono HB2.out.size))
  refine hK.out _ _ (row_keep hb2 hHeld) (fun hX => ?_)
  clear hK K hHeld
  have hHeld := hX
  clear hX
  refine tk (i := 6) (v := ?_) rfl (Or.inl ⟨rfl, ?hy5⟩) ?_
  case hy5 =>
   intro W hS
   go_simp
   try with_reducible rfl
  try simp only [Act.put, List.getElem_toArray, List.getElem_cons_succ, List.getElem_cons_zero, List.setIfInBounds_toArray, List.set_cons_zero, List.set_cons_succ]
  refine tk (i := 7) (v := ?_) rfl (Or.inl ⟨rfl, ?hy6⟩) ?_
  case hy6 =>
   intro W hS
   go_simp
   try with_reducible rfl
  try simp only [Act.put, List.getElem_toArray, List.getElem_cons_succ, List.getElem_cons_zero, List.setIfInBounds_toArray, List.set_cons_zero, List.set_cons_succ]
  refine tk (i := 8) (v := ?_) rfl (Or.inl ⟨rfl, ?hy7⟩) ?_
  case hy7 =>
   intro W hS
   go_simp
   try with_reducible rfl
  try simp only [Act.put, List.getElem_toArray, List.getElem_cons_succ, List.getElem_cons_zero, List.setIfInBounds_toArray, List.set_cons_zero, List.set_cons_succ]
  refine tk (i := 9) (v := ?_) rfl (Or.inl ⟨rfl, ?hy8⟩) ?_
  case hy8 =>
   intro W hS
   go_simp
   try with_reducible rfl
  try simp only [Act.put, List.getElem_toArray, List.getElem_cons_succ, List.getElem_cons_zero, List.setIfInBounds_toArray, List.set_cons_zero, List.set_cons_succ]
  refine tk (i := 10) (v := ?_) rfl (Or.inl ⟨rfl, ?hy9⟩) ?_
  case hy9 =>
   intro W hS
   go_simp
   try with_reducible rfl
  try simp only [Act.put, List.getElem_toArray, List.getElem_cons_succ, List.getElem_cons_zero, List.setIfInBounds_toArray, List.set_cons_zero, List.set_cons_succ]
  refine wpAnyH_done (by kernel_rfl) ?_ _
  have HX3 := Lib.hid hHeld
  clear hHeld hb1 hb2 ho HO HB2 HB1d HX1 HB1
  obtain ⟨⟨d0, d1, d2, d3, d4⟩, -⟩ := row5 HX3.out
  go_wp2
  go_ret
  exact ⟨by rw [HP.out]; rfl, HB3.out⟩
 | some m =>
  have HSOME := Lib.hid HRR.out
  refine wp_region_held_drew (S := fun X => X.heap[w.heap.size]? = some (.cells #[.slice bo M bc, .slice vo V vc, .int .i64 fr, .int .i64 num, .slice ao N cap] 26 (0, 0))) (by kernel_rfl) HX1.out (fun hHeld => ?_)
  have HB1d := Lib.hid HB1.out.drew
  clear d0 d1 d2 d3 d4
  refine tk (i := 0) (v := ?_) rfl (Or.inl ⟨rfl, ?hy10⟩) ?_
  case hy10 =>
   intro W hS
   obtain ⟨⟨e0, e1, e2, e3, e4⟩, -⟩ := row5 hS
   go_simp
   try with_reducible rfl
  try simp only [Act.put, List.getElem_toArray, List.getElem_cons_zero, List.setIfInBounds_toArray, List.set_cons_zero, List.set_cons_succ]
  refine tk (i := 2) (v := ?_) rfl (Or.inl ⟨rfl, ?hy11⟩) ?_
  case hy11 =>
   intro W hS
   go_simp
   try with_reducible rfl
  try simp only [Act.put, List.getElem_toArray, List.getElem_cons_succ, List.getElem_cons_zero, List.setIfInBounds_toArray, List.set_cons_zero, List.set_cons_succ]
  refine tk (i := 3) (v := ?_) rfl (Or.inl ⟨rfl, ?hy12⟩) ?_
  case hy12 =>
   intro W hS
   obtain ⟨⟨e0, e1, e2, e3, e4⟩, -⟩ := row5 hS
   go_simp
   try with_reducible rfl
  try simp only [Act.put, List.getElem_toArray, List.getElem_cons_succ, List.getElem_cons_zero, List.setIfInBounds_toArray, List.set_cons_zero, List.set_cons_succ]
  refine tk (i := 4) (v := ?_) rfl (Or.inl ⟨rfl, ?hy13⟩) ?_
  case hy13 =>
   intro W hS
   go_simp
   try with_reducible rfl
  try simp only [Act.put, List.getElem_toArray, List.getElem_cons_succ, List.getElem_cons_zero, List.setIfInBounds_toArray, List.set_cons_zero, List.set_cons_succ]
  refine wpAnyH_ready (rs := [1]) (by kernel_rfl) (by simp) (AllReadyH.cons rfl (fun K hK => ?_) AllReadyH.nil)
  go_simp
  go_wp2_with (go_at_call 21; refine (HOPC.out _ HB1d.out).mono ?_; rintro e wq ⟨zo, zc, rfl, ho, hb1⟩)
  have HO := Lib.hid ho
  have HB2 := Lib.hid (HB1d.out.trans (hb1.mono HB1d.out.size))
  refine hK.out _ _ (row_keep hb1 hHeld) (fun hX => ?_)
  clear hK K hHeld
  have hHeld := hX
  clear hX
  refine wpAnyH_ready (rs := [5]) (by kernel_rfl) (by simp) (AllReadyH.cons rfl (fun K hK => ?_) AllReadyH.nil)
  go_simp
  go_wp2_with (go_at_call 20; refine (HRUN.out _ _ HB2.out ⟨_, HO.out⟩).mono ?_; rintro e wp ⟨rfl, hb2⟩; dsimp only)
  have HB3 := Lib.hid (HB2.out.trans (hb2.mono HB2.out.size))
  refine hK.out _ _ (row_keep hb2 hHeld) (fun hX => ?_)
  clear hK K hHeld
  have hHeld := hX
  clear hX
  refine tk (i := 6) (v := ?_) rfl (Or.inl ⟨rfl, ?hy14⟩) ?_
  case hy14 =>
   intro W hS
   go_simp
   try with_reducible rfl
  try simp only [Act.put, List.getElem_toArray, List.getElem_cons_succ, List.getElem_cons_zero, List.setIfInBounds_toArray, List.set_cons_zero, List.set_cons_succ]
  refine tk (i := 7) (v := ?_) rfl (Or.inl ⟨rfl, ?hy15⟩) ?_
  case hy15 =>
   intro W hS
   go_simp
   try with_reducible rfl
  try simp only [Act.put, List.getElem_toArray, List.getElem_cons_succ, List.getElem_cons_zero, List.setIfInBounds_toArray, List.set_cons_zero, List.set_cons_succ]
  refine tk (i := 8) (v := ?_) rfl (Or.inl ⟨rfl, ?hy16⟩) ?_
  case hy16 =>
   intro W hS
   go_simp
   try with_reducible rfl
  try simp only [Act.put, List.getElem_toArray, List.getElem_cons_succ, List.getElem_cons_zero, List.setIfInBounds_toArray, List.set_cons_zero, List.set_cons_succ]
  refine tk (i := 9) (v := ?_) rfl (Or.inl ⟨rfl, ?hy17⟩) ?_
  case hy17 =>
   intro W hS
   go_simp
   try with_reducible rfl
  try simp only [Act.put, List.getElem_toArray, List.getElem_cons_succ, List.getElem_cons_zero, List.setIfInBounds_toArray, List.set_cons_zero, List.set_cons_succ]
  refine tk (i := 10) (v := ?_) rfl (Or.inl ⟨rfl, ?hy18⟩) ?_
  case hy18 =>
   intro W hS
   go_simp
   try with_reducible rfl
  try simp only [Act.put, List.getElem_toArray, List.getElem_cons_succ, List.getElem_cons_zero, List.setIfInBounds_toArray, List.set_cons_zero, List.set_cons_succ]
  refine wpAnyH_done (by kernel_rfl) ?_ _
  have HX3 := Lib.hid hHeld
  clear hHeld hb1 hb2 ho HO HB2 HB1d HX1 HB1
  obtain ⟨⟨d0, d1, d2, d3, d4⟩, -⟩ := row5 HX3.out
  go_wp2_with fail
  go_loopw [5] (fun i wr => ∃ k : Nat, i = .int .i64 k ∧ k ≤ M ∧ RowKit.Hid ((base.take k).all (fun c => decide (c.seq ≤ vCount vec c.site)) = true) ∧ RowKit.Hid (wr.heap[w.heap.size]? = some (.cells #[.slice bo M bc, .slice vo V vc, .int .i64 fr, .int .i64 num, .slice ao N cap] 26 (0, 0))) ∧ RowKit.Hid (Below w.heap.size w wr)) (fun i _ => M - (intOf i).toNat)
  case atStart => exact ⟨0, rfl, Nat.zero_le _, Lib.hid rfl, HX3, HB3⟩
  clear d0 d1 d2 d3 d4 HX3 HB3
  case round =>
   obtain ⟨k, rfl, hk, hall, hx, hb⟩ := hrel
   obtain ⟨⟨d0, d1, d2, d3, d4⟩, -⟩ := row5 hx.out
   rcases Nat.lt_or_ge k M with hlt | hge
   ·obtain ⟨c, hc⟩ : ∃ c, base[k]? = some c := ⟨_, List.getElem?_eq_getElem (by rw [HM.out]; exact hlt)⟩
    obtain ⟨b, off, cp, hv, c0, c1, -⟩ := (HRB.out.below hb.out).at hc
    rw [HM.out] at hv
    cases hv
    have hi0 : (0 : Int) ≤ (k : Int) ∧ (k : Int) < (M : Int) := ⟨by omega, by omega⟩
    have hcw := wf_i64 (HF4.out c (List.mem_of_getElem? hc))
    have hCt := fun W (z : Below w.heap.size w W) => (rCount_any (.slice vo V vc) vec c.site W (HRV.out.below z) hcw.1 (by rw [HV.out]; omega)).mono (fun _ W' h => (show _ = Ending.returned (.int .i64 (vCount vec c.site)) ∧ W' = W from ⟨h.1, h.2.symm⟩))
    have HNX := Lib.hid (show (base.take (k + 1)).all (fun c => decide (c.seq ≤ vCount vec c.site)) = ((base.take k).all (fun c => decide (c.seq ≤ vCount vec c.site)) && decide (c.seq ≤ vCount vec c.site)) by rw [List.take_add_one, hc, List.all_append]; simp)
    have HBD := Lib.hid (fun (g : ¬ c.seq ≤ vCount vec c.site) => (show R = false from HNO.out (.inr (.inr (.inl (by
     unfold baseH
     rw [List.all_eq_false]
     exact ⟨c, List.mem_of_getElem? hc, by rw [decide_eq_false g]; simp⟩))))))
    obtain ⟨cs, cq, co, cr, cg⟩ := c
    dsimp only at c0 c1 hCt HNX HBD hcw
    obtain ⟨cnt, hcnt⟩ : ∃ cnt, vCount vec cs = cnt := ⟨_, rfl⟩
    simp only [hcnt] at hCt HNX HBD
    have HCT := Lib.hid hCt
    clear hCt hcnt hc hcw
    by_cases hle : cq ≤ cnt
    ·have hgt : ¬ cnt < cq := by omega
     have HLE := Lib.hid (decide_eq_true hle)
     clear hle
     go_wp2_with fail
     go_quiet ((go_at_call 22; exact Calls.quiet_of_same (HCT.out _ (below_draws hb.out _))))
     have HX2 := Lib.hid (fun nq => (show (wr.drewN nq).heap[w.heap.size]? = _ from hx.out))
     have HB2 := Lib.hid (fun nq => below_draws hb.out nq)
     clear d0 d1 d2 d3 d4 hx hb
     go_wp2
     go_roundw
     case rel => exact ⟨k + 1, by go_num, by omega, by rw [HNX.out, hall.out, HLE.out]; exact Lib.hid rfl, Lib.hid (HX2.out _), Lib.hid (HB2.out _)⟩
     case measure => simp [intOf]; omega
    ·have HP := Lib.hid (HBD.out hle)
     have hgt : cnt < cq := by omega
     clear hle
     go_wp2_with fail
     go_quiet ((go_at_call 22; exact Calls.quiet_of_same (HCT.out _ (below_draws hb.out _))))
     have HB2 := Lib.hid (fun nq => below_draws hb.out nq)
     go_wp2
     go_ret
     exact ⟨by rw [HP.out]; rfl, HB2.out _⟩
   ·obtain rfl : M = k := by omega
    have HBS := Lib.hid (show baseH ⟨base, vec, fr, num, l.map REnt.ent⟩ = true from by
     have := hall.out
     rw [List.take_of_length_le (by rw [HM.out]; exact Nat.le_refl _)] at this
     exact this)
    clear hall hk hge
    clear HCM HVM HRB HRUN HOPC HM HF4 HRR
    have HVL := Lib.hid (show vec.length ≤ 1000000 by rw [HV.out]; exact f2)
    have HV0 := Lib.hid (show ∃ o c, Value.slice vo V vc = .slice o vec.length c from ⟨vo, vc, by rw [HV.out]⟩)
    have HVR := Lib.hid (HRV.out.below hb.out)
    go_wp2_with fail
    go_loopw [6, 7, 8, 9] (fun a p vv i wr => ∃ (k : Nat) (last pend : Int) (vec' : List Int), i = .int .i64 k ∧ k ≤ N ∧ a = .int .i64 last ∧ p = .int .i64 pend ∧ RowKit.Hid (hFold num ((l.map REnt.ent).take k) (fr, 0, vec) = some (last, pend, vec')) ∧ RowKit.Hid (Reads64 wr vv vec') ∧ RowKit.Hid (vec'.length ≤ 1000000) ∧ RowKit.Hid (wr.heap[w.heap.size]? = some (.cells #[.slice bo M bc, .slice vo V vc, .int .i64 fr, .int .i64 num, .slice ao N cap] 26 (0, 0))) ∧ RowKit.Hid (Below w.heap.size w wr)) (fun _ _ _ i _ => N - (intOf i).toNat)
    case atStart => exact ⟨0, fr, 0, vec, rfl, Nat.zero_le _, rfl, rfl, Lib.hid rfl, HVR, HVL, hx, hb⟩
    clear d0 d1 d2 d3 d4 hx hb HVR HV0
    case round =>
     obtain ⟨k, last, pend, vec', rfl, hk, rfl, rfl, hf, hvr, hvl, hx, hb⟩ := hrel
     obtain ⟨⟨d0, d1, d2, d3, d4⟩, -⟩ := row5 hx.out
     rcases Nat.lt_or_ge k N with hlt | hge
     ·skip
      obtain ⟨x, hx0⟩ := getN_some (l := l) (k := k) (by rw [HN.out]; exact hlt)
      obtain ⟨b, off, cp, hv, ⟨c0, c1, c2, c3, c4, c5, c6⟩, c7, c8, c9, c10, c11, c12, c13⟩ := (HRL.out.below hb.out).at hx0
      rw [HN.out] at hv
      cases hv
      have hi0 : (0 : Int) ≤ (k : Int) ∧ (k : Int) < (N : Int) := ⟨by omega, by omega⟩
      have hnm := HF5.out x (List.mem_of_getElem? hx0)
      have het := HF7.out x (List.mem_of_getElem? hx0)
      obtain ⟨sa, sc, hsp, -⟩ := HRL.out.2 x (List.mem_of_getElem? hx0)
      have hstep := hFold_next (N := num) (l := l.map REnt.ent) (k := k) (e := x.ent) (by rw [List.getElem?_map, hx0]; rfl) (fr, 0, vec)
      rw [hf.out, Option.bind_some] at hstep
      have HFAIL := Lib.hid (fun (g : hStep num (last, pend, vec') x.ent = none) => (show R = false from HNO.out (.inr (.inr (.inr (hFold_stop (k := k + 1) (by rw [hstep]; exact g)))))))
      have HSTP := Lib.hid hstep
      have hME := fun W => rEMay_any x.es x.eq x.ec x.ek x.ea x.el x.et het W
      have hRS := fun W (z : Below wr.heap.size wr W) => rRaise_any u8 vec' x.op.site x.op.seq W (hvr.out.below z) (by have := hvl.out; omega) (wf_i64 hnm.2).1 (wf_i64 hnm.2).2
      obtain ⟨⟨s, q, n, kd, pl, tx, sp, xs⟩, es, eq, ec, ek, ea, el, et⟩ := x
      dsimp only at c0 c1 c2 c3 c4 c5 c6 c7 c8 c9 c10 c11 c12 c13 hsp hME hRS
      subst hsp
      obtain ⟨o8, c8', hv8, -⟩ := id hvr.out
      subst hv8
      obtain ⟨me, hme⟩ : ∃ me, eMay ⟨es, eq, ec, ek, ea, el, et.data.toList⟩ = me := ⟨_, rfl⟩
      obtain ⟨rc, hrc⟩ : ∃ rc, raiseC vec' s q = rc := ⟨_, rfl⟩
      have HENT := Lib.hid (show entOk (REnt.ent ⟨⟨s, q, n, kd, pl, tx, .slice sa xs.length sc, xs⟩, es, eq, ec, ek, ea, el, et⟩) = (me && (decide (es = s ∧ eq = q) && decide (ek = kd))) from by rw [← hme]; rfl)
      have HRC := Lib.hid hrc
      unfold RaisePost at hRS
      simp only [hrc] at hRS
      simp only [hme] at hME
      unfold edV at hME
      unfold nmV at hRS
      have HME := Lib.hid hME
      have HRS := Lib.hid hRS
      obtain ⟨L8, hL8⟩ : ∃ L8, vec'.length = L8 := ⟨_, rfl⟩
      rw [hL8] at HRS ⊢
      have RE1 := Lib.hid (heap_alloc_new wr (.cells #[.int .i64 s, .int .i64 q, .int .i64 n, .int .i64 kd, .int .i64 pl, .string tx, .slice sa xs.length sc, .int .i64 es, .int .i64 eq, .int .i64 ec, .int .i64 ek, .int .i64 ea, .int .i64 el, .string et] 49))
      have HX1 := Lib.hid (row_keep ((Below.refl wr.heap.size wr).alloc (Nat.le_refl _) (.cells #[.int .i64 s, .int .i64 q, .int .i64 n, .int .i64 kd, .int .i64 pl, .string tx, .slice sa xs.length sc, .int .i64 es, .int .i64 eq, .int .i64 ec, .int .i64 ek, .int .i64 ea, .int .i64 el, .string et] 49)) hx.out)
      have HB1 := Lib.hid (hb.out.alloc hb.out.size (.cells #[.int .i64 s, .int .i64 q, .int .i64 n, .int .i64 kd, .int .i64 pl, .string tx, .slice sa xs.length sc, .int .i64 es, .int .i64 eq, .int .i64 ec, .int .i64 ek, .int .i64 ea, .int .i64 el, .string et] 49))
      have HW1 := Lib.hid ((Below.refl wr.heap.size wr).alloc (Nat.le_refl _) (.cells #[.int .i64 s, .int .i64 q, .int .i64 n, .int .i64 kd, .int .i64 pl, .string tx, .slice sa xs.length sc, .int .i64 es, .int .i64 eq, .int .i64 ec, .int .i64 ek, .int .i64 ea, .int .i64 el, .string et] 49))
      obtain ⟨⟨a0, a1, a2, a3, a4, a5, a6⟩, a7, a8, a9, a10, a11, a12, a13⟩ := row14 RE1.out
      clear hnm het hstep hx0 hf hme hrc hvr hvl hME hRS hL8 hx hb
      go_wp2_with fail
      refine (HME.out _).mono ?_
      rintro e w1 ⟨rfl, hb1⟩
      clear c0 c1 c2 c3 c4 c5 c6 c7 c8 c9 c10 c11 c12 c13 a0 a1 a2 a3 a4 a5 a6 a7 a8 a9 a10 a11 a12 a13 d0 d1 d2 d3 d4
      have RE2 := Lib.hid (row_keep hb1 RE1.out)
      have HX2 := Lib.hid (row_keep hb1 HX1.out)
      have HB2 := Lib.hid (HB1.out.trans (hb1.mono HB1.out.size))
      have HW2 := Lib.hid (HW1.out.trans (hb1.mono HW1.out.size))
      clear hb1 RE1 HX1 HB1 HW1 HME
      obtain ⟨⟨d0, d1, d2, d3, d4⟩, -⟩ := row5 HX2.out
      obtain ⟨⟨a0, a1, a2, a3, a4, a5, a6⟩, a7, a8, a9, a10, a11, a12, a13⟩ := row14 RE2.out
      cases me with
      | false =>
       have HP := Lib.hid (HFAIL.out (hStep_bad (by rw [HENT.out]; rfl)))
       go_wp2
       go_ret
       exact ⟨by rw [HP.out]; rfl, HB2.out⟩
      | true =>
      obtain ⟨y, hy⟩ : ∃ y, (es == s && eq == q) = y := ⟨_, rfl⟩
      have hEq := fun W => nmEq_neq W es eq s q y hy
      have HY := Lib.hid (show decide (es = s ∧ eq = q) = y by rw [← hy, Bool.eq_iff_iff]; simp)
      clear hy
      cases y with
      | false =>
       have HP := Lib.hid (HFAIL.out (hStep_bad (by rw [HENT.out, HY.out]; rfl)))
       go_wp2
       go_ret
       exact ⟨by rw [HP.out]; rfl, HB2.out⟩
      | true =>
      by_cases hkd : ek = kd
      case neg =>
       have e1 : (ek == kd) = false := beq_eq_false_iff_ne.2 hkd
       have e2 : (ek != kd) = true := by rw [bne, e1]; rfl
       have HP := Lib.hid (HFAIL.out (hStep_bad (by rw [HENT.out, HY.out, decide_eq_false hkd]; rfl)))
       clear hkd
       go_wp2
       go_ret
       exact ⟨by rw [HP.out]; rfl, HB2.out⟩
      have e1 : (ek == kd) = true := beq_iff_eq.2 hkd
      have e2 : (ek != kd) = false := by rw [bne, e1]; rfl
      have HEN := Lib.hid (show entOk (REnt.ent ⟨⟨s, q, n, kd, pl, tx, .slice sa xs.length sc, xs⟩, es, eq, ec, ek, ea, el, et⟩) = true by rw [HENT.out, HY.out, decide_eq_true hkd]; rfl)
      clear hkd
      by_cases h0 : rc = 0
      case neg =>
       have r1 : (rc == 0) = false := beq_eq_false_iff_ne.2 h0
       have r2 : (rc != 0) = true := by rw [bne, r1]; rfl
       have HP := Lib.hid (HFAIL.out (hStep_raise (show raiseC vec' s q ≠ 0 by rw [HRC.out]; exact h0)))
       simp only [if_neg h0] at HRS
       clear h0
       go_wp2_with fail
       refine (HRS.out _ HW2.out).mono ?_
       rintro e w2 ⟨vn, rfl, hvn, hb2⟩
       obtain ⟨on, cn, hvn', -⟩ := id hvn
       subst hvn'
       clear a0 a1 a2 a3 a4 a5 a6 a7 a8 a9 a10 a11 a12 a13 d0 d1 d2 d3 d4
       have RE3 := Lib.hid (row_keep hb2 RE2.out)
       have HX3 := Lib.hid (row_keep hb2 HX2.out)
       have HB3 := Lib.hid (HB2.out.trans (hb2.mono HB2.out.size))
       clear hb2 RE2 HX2 HB2 HW2 HRS hEq e1 e2
       obtain ⟨⟨d0, d1, d2, d3, d4⟩, -⟩ := row5 HX3.out
       obtain ⟨⟨a0, a1, a2, a3, a4, a5, a6⟩, a7, a8, a9, a10, a11, a12, a13⟩ := row14 RE3.out
       clear hvn
       go_wp2
       go_ret
       exact ⟨by rw [HP.out]; rfl, HB3.out⟩
      subst h0
      simp only [if_true] at HRS
      go_wp2_with fail
      refine (HRS.out _ HW2.out).mono ?_
      rintro e w2 ⟨vn, rfl, hvn, hb2⟩
      obtain ⟨on, cn, hvn', -⟩ := id hvn
      subst hvn'
      clear a0 a1 a2 a3 a4 a5 a6 a7 a8 a9 a10 a11 a12 a13 d0 d1 d2 d3 d4
      have RE3 := Lib.hid (row_keep hb2 RE2.out)
      have HX3 := Lib.hid (row_keep hb2 HX2.out)
      have HB3 := Lib.hid (HB2.out.trans (hb2.mono HB2.out.size))
      clear hb2 RE2 HX2 HB2 HW2 HRS hEq e1 e2
      obtain ⟨⟨d0, d1, d2, d3, d4⟩, -⟩ := row5 HX3.out
      obtain ⟨⟨a0, a1, a2, a3, a4, a5, a6⟩, a7, a8, a9, a10, a11, a12, a13⟩ := row14 RE3.out
      have HVN := Lib.hid hvn
      have HLN := Lib.hid (show (vRaise vec' s q).length ≤ 1000000 from Nat.le_trans (vMade_length_le _) (by decide))
      clear hvn
      by_cases hn0 : n = 0
      ·have HSP := Lib.hid (hStep_pend (N := num) (st := (last, pend, vec')) (e := REnt.ent ⟨⟨s, q, n, kd, pl, tx, .slice sa xs.length sc, xs⟩, es, eq, ec, ek, ea, el, et⟩) HEN.out (show raiseC vec' s q = 0 from HRC.out) hn0)
       have HST2 := Lib.hid (HSTP.out.trans HSP.out)
       have HFA2 := Lib.hid (fun (g : pend ≠ 0 ∧ pend ≠ s) => HFAIL.out (HSP.out.trans (if_pos g)))
       have HOK := Lib.hid (fun (g : ¬ (pend ≠ 0 ∧ pend ≠ s)) => HST2.out.trans (if_neg g))
       have e3 : (n == 0) = true := beq_iff_eq.2 hn0
       clear hn0 HFAIL HSTP HSP HST2
       by_cases hp0 : pend = 0
       ·have HF2 := Lib.hid (HOK.out (fun g => g.1 hp0))
        have e4 : (pend == 0) = true := beq_iff_eq.2 hp0
        have e5 : (pend != 0) = false := by rw [bne, e4]; rfl
        clear hp0 HFA2 HOK
        go_wp2
        go_roundw
        case rel => exact ⟨k + 1, _, _, _, by go_num, by omega, rfl, rfl, HF2, HVN, HLN, HX3, HB3⟩
        case measure => simp [intOf]; omega
       ·have e4 : (pend == 0) = false := beq_eq_false_iff_ne.2 hp0
        have e5 : (pend != 0) = true := by rw [bne, e4]; rfl
        by_cases hps : pend = s
        ·have HF2 := Lib.hid (HOK.out (fun g => g.2 hps))
         have e6 : (pend == s) = true := beq_iff_eq.2 hps
         have e7 : (pend != s) = false := by rw [bne, e6]; rfl
         clear hp0 hps HFA2 HOK
         go_wp2
         go_roundw
         case rel => exact ⟨k + 1, _, _, _, by go_num, by omega, rfl, rfl, HF2, HVN, HLN, HX3, HB3⟩
         case measure => simp [intOf]; omega
        ·have HP := Lib.hid (HFA2.out ⟨hp0, hps⟩)
         have e6 : (pend == s) = false := beq_eq_false_iff_ne.2 hps
         have e7 : (pend != s) = true := by rw [bne, e6]; rfl
         clear hp0 hps HFA2 HOK HVN
         go_wp2
         go_ret
         exact ⟨by rw [HP.out]; rfl, HB3.out⟩
      ·have HSP := Lib.hid (hStep_num (N := num) (st := (last, pend, vec')) (e := REnt.ent ⟨⟨s, q, n, kd, pl, tx, .slice sa xs.length sc, xs⟩, es, eq, ec, ek, ea, el, et⟩) HEN.out (show raiseC vec' s q = 0 from HRC.out) hn0)
       have HST2 := Lib.hid (HSTP.out.trans HSP.out)
       have HFA2 := Lib.hid (fun (g : pend ≠ 0 ∨ n ≤ last ∨ num < n) => HFAIL.out (HSP.out.trans (if_pos g)))
       have HOK := Lib.hid (fun (g : ¬ (pend ≠ 0 ∨ n ≤ last ∨ num < n)) => HST2.out.trans (if_neg g))
       have e3 : (n == 0) = false := beq_eq_false_iff_ne.2 hn0
       clear hn0 HFAIL HSTP HSP HST2
       by_cases hp0 : pend = 0
       ·have e4 : (pend == 0) = true := beq_iff_eq.2 hp0
        have e5 : (pend != 0) = false := by rw [bne, e4]; rfl
        by_cases hl : n ≤ last
        ·have HP := Lib.hid (HFA2.out (.inr (.inl hl)))
         clear hp0 HFA2 HOK HVN
         go_wp2
         go_ret
         exact ⟨by rw [HP.out]; rfl, HB3.out⟩
        ·by_cases hm : num < n
         ·have HP := Lib.hid (HFA2.out (.inr (.inr hm)))
          clear hp0 HFA2 HOK HVN
          go_wp2
          go_ret
          exact ⟨by rw [HP.out]; rfl, HB3.out⟩
         ·have HF2 := Lib.hid (HOK.out (fun g => by omega))
          clear hp0 HFA2 HOK
          go_wp2
          go_roundw
          case rel => exact ⟨k + 1, _, _, _, by go_num, by omega, rfl, rfl, HF2, HVN, HLN, HX3, HB3⟩
          case measure => simp [intOf]; omega
       ·have HP := Lib.hid (HFA2.out (.inl hp0))
        have e4 : (pend == 0) = false := beq_eq_false_iff_ne.2 hp0
        have e5 : (pend != 0) = true := by rw [bne, e4]; rfl
        clear hp0 HFA2 HOK HVN
        go_wp2
        go_ret
        exact ⟨by rw [HP.out]; rfl, HB3.out⟩
     ·obtain rfl : N = k := by omega
      have HP := Lib.hid (show R = true from HYES.out HHH.out ⟨_, HSOME.out⟩ HBS.out (by
       have := hf.out
       rw [List.take_of_length_le (by rw [List.length_map, HN.out]; exact Nat.le_refl _)] at this
       exact ⟨_, this⟩))
      clear hf hvr
      go_wp2
      go_ret
      exact ⟨by rw [HP.out]; rfl, hb.out⟩
end Go.Proofs.YthekkjfaaedamaaGreatDoor
