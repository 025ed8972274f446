/- The program's histories: its edits; its numbers; what is pending. -/
import Derived.Test.YthekkjfaaedamaaGreatDoorGListsRun
import Derived.Test.YthekkjfaaedamaaGreatDoorGOpsPutQ
import Derived.Test.YthekkjfaaedamaaGreatDoorGNameEq
namespace Go.Proofs.YthekkjfaaedamaaGreatDoor
open Go.RowKit

set_option maxRecDepth 100000 in
set_option maxHeartbeats 8000000 in
theorem c3_any (b v u : Value) (fr num : Int) (h : RHist) (w : World) (hR : HistR w b v u h) (hF : HFit w u h) (hfr : fr = h.fr) (hnum : num = h.num) :
  Calls Tryz.prog 35 #[hiV b v fr num u] w (MayPost (c3H h.hist) w) := by
 obtain ⟨bo, bc, hb0, -, -⟩ := hR.base.shape
 obtain ⟨vo, vc, hv0, -⟩ := id hR.vec
 obtain ⟨ao, cap, hu0⟩ := hR.list.shape
 obtain ⟨base, vec, fr', num', l⟩ := h
 dsimp only at hfr hnum
 subst hfr hnum
 obtain ⟨hRb, hRv, hRl⟩ := hR
 have HFIT := Lib.hid hF
 dsimp only at hRb hRv hRl hb0 hv0 hu0
 subst hb0 hv0 hu0
 obtain ⟨N, hN⟩ : ∃ N, l.length = N := ⟨_, rfl⟩
 obtain ⟨M, hM⟩ : ∃ M, base.length = M := ⟨_, rfl⟩
 obtain ⟨V, hV⟩ : ∃ V, vec.length = V := ⟨_, rfl⟩
 rw [hM] at hRb
 rw [hV] at hRv
 rw [hN] at hRl
 rw [hN, hM, hV]
 have HN := Lib.hid hN
 have HM := Lib.hid hM
 have HV := Lib.hid hV
 have HRB := Lib.hid hRb
 have HRV := Lib.hid hRv
 have HRL := Lib.hid hRl
 have HX := Lib.hid (heap_alloc_new w (.cells #[.slice bo M bc, .slice vo V vc, .int .i64 fr, .int .i64 num, .slice ao N cap] 33))
 have HB := Lib.hid ((Below.refl w.heap.size w).alloc (Nat.le_refl _) (.cells #[.slice bo M bc, .slice vo V vc, .int .i64 fr, .int .i64 num, .slice ao N cap] 33))
 have bM := hF.base
 have bV := hF.vec
 have bN := hF.list
 have hcap := hF.cap
 dsimp only at bM bV bN
 rw [hM] at bM
 rw [hV] at bV
 rw [hN] at bN
 rw [hN] at hcap
 have HCAP := Lib.hid hcap
 clear hN hM hV hRb hRv hRl hF hcap
 unfold hiV
 obtain ⟨⟨d0, d1, d2, d3, d4⟩, -⟩ := row5 HX.out
 show Calls _ _ _ w (MayPost (decide ((l.map REnt.ent).length ≤ 400) && (l.map REnt.ent).all entOk) w)
 rw [List.length_map, HN.out, List.all_map]
 by_cases g0 : N ≤ 400
 case neg =>
  rw [decide_eq_false g0]
  have g1 : (400 : Int) < (N : Int) := by omega
  go_enter Tryz.func35, Tryz.ntmps35
  go_wp2
  go_ret
  exact ⟨rfl, HB.out⟩
 rw [decide_eq_true g0, Bool.true_and]
 have g1 : ¬ (400 : Int) < (N : Int) := by omega
 obtain ⟨r, hr⟩ : ∃ r, l.all (entOk ∘ REnt.ent) = r := ⟨_, rfl⟩
 rw [hr]
 have HRR := Lib.hid hr
 clear hr
 go_enter Tryz.func35, Tryz.ntmps35
 go_wp2
 clear d0 d1 d2 d3 d4
 go_loopw [12] (fun i wr => ∃ k : Nat, i = .int .i64 k ∧ k ≤ N ∧ RowKit.Hid ((l.take k).all (entOk ∘ REnt.ent) = true) ∧ RowKit.Hid (wr.heap[w.heap.size]? = some (.cells #[.slice bo M bc, .slice vo V vc, .int .i64 fr, .int .i64 num, .slice ao N cap] 33 (0, 0))) ∧ RowKit.Hid (Below w.heap.size w wr)) (fun i _ => N - (intOf i).toNat)
 case atStart => exact ⟨0, rfl, Nat.zero_le _, Lib.hid (by simp), HX, HB⟩
 case round =>
  rename World => wr
  obtain ⟨k, rfl, hk, hall, hxr, hb⟩ := hrel
  obtain ⟨⟨d0, d1, d2, d3, d4⟩, -⟩ := row5 hxr.out
  rcases Nat.lt_or_ge k N with hlt | hge
  ·obtain ⟨x, hx⟩ := getN_some (l := l) (k := k) (by rw [HN.out]; exact hlt)
   have hA := HRL.out.below hb.out
   obtain ⟨bb, off', cp, hv, ⟨c0, c1, c2, c3, c4, c5, c6⟩, c7, c8, c9, c10, c11, c12, c13⟩ := hA.at hx
   rw [HN.out] at hv
   cases hv
   have hi0 : (0 : Int) ≤ (k : Int) ∧ (k : Int) < (N : Int) := ⟨by omega, by omega⟩
   have HC := Lib.hid hx
   obtain ⟨sa, sc, hsp, -⟩ := hA.mem hx
   have HSP := Lib.hid (hA.mem hx)
   have HL := Lib.hid (HFIT.out.et x (List.mem_of_getElem? hx))
   obtain ⟨⟨s, q, n, kd, pl, tx, sp, xs⟩, es, eq, ec, ek, ea, el, et⟩ := x
   dsimp only at c0 c1 c2 c3 c4 c5 c6 c7 c8 c9 c10 c11 c12 c13 hsp
   subst hsp
   clear hx hA d0 d1 d2 d3 d4
   obtain ⟨⟨d0, d1, d2, d3, d4⟩, -⟩ := row5 (hrow_al hxr.out (.cells #[.int .i64 s, .int .i64 q, .int .i64 n, .int .i64 kd, .int .i64 pl, .string tx, .slice sa xs.length sc, .int .i64 es, .int .i64 eq, .int .i64 ec, .int .i64 ek, .int .i64 ea, .int .i64 el, .string et] 49))
   obtain ⟨⟨n0, n1, n2, n3, n4, n5, n6⟩, n7, n8, n9, n10, n11, n12, n13⟩ := row14 (heap_alloc_new wr (.cells #[.int .i64 s, .int .i64 q, .int .i64 n, .int .i64 kd, .int .i64 pl, .string tx, .slice sa xs.length sc, .int .i64 es, .int .i64 eq, .int .i64 ec, .int .i64 ek, .int .i64 ea, .int .i64 el, .string et] 49))
   have HME := Lib.hid (fun W (z : Below w.heap.size w W) => pMayEdit_any es eq ec ek ea el et W (HL.out.below z))
   unfold edV at HME
   obtain ⟨z1, hz1⟩ : ∃ z1, eMay ⟨es, eq, ec, ek, ea, el, et.data.toList⟩ = z1 := ⟨_, rfl⟩
   have hme := HME.out
   rw [hz1] at hme
   replace HME := Lib.hid hme
   clear hme
   have HP := Lib.hid (fun (g : entOk (REnt.ent ⟨⟨s, q, n, kd, pl, tx, .slice sa xs.length sc, xs⟩, es, eq, ec, ek, ea, el, et⟩) = false) => (show r = false by
     rw [← HRR.out]
     exact List.all_eq_false.2 ⟨_, List.mem_of_getElem? HC.out, by show ¬ entOk _ = true; rw [g]; simp⟩))
   have HZ := Lib.hid (show entOk (REnt.ent ⟨⟨s, q, n, kd, pl, tx, .slice sa xs.length sc, xs⟩, es, eq, ec, ek, ea, el, et⟩) = (z1 && (decide (es = s ∧ eq = q) && decide (ek = kd))) from by rw [← hz1]; rfl)
   clear hz1
   cases z1 with
   | false =>
    go_wp2_with fail
    refine (HME.out _ (hb.out.alloc hb.out.size _)).mono ?_
    rintro e w2 ⟨rfl, hb2⟩
    have HB2 := Lib.hid ((hb.out.alloc hb.out.size (.cells #[.int .i64 s, .int .i64 q, .int .i64 n, .int .i64 kd, .int .i64 pl, .string tx, .slice sa xs.length sc, .int .i64 es, .int .i64 eq, .int .i64 ec, .int .i64 ek, .int .i64 ea, .int .i64 el, .string et] 49)).trans (hb2.mono (by have := hb.out.size; simp; omega)))
    have HX2 := Lib.hid (row_keep hb2 (hrow_al hxr.out (.cells #[.int .i64 s, .int .i64 q, .int .i64 n, .int .i64 kd, .int .i64 pl, .string tx, .slice sa xs.length sc, .int .i64 es, .int .i64 eq, .int .i64 ec, .int .i64 ek, .int .i64 ea, .int .i64 el, .string et] 49)))
    have HE2 := Lib.hid (row_keep hb2 (heap_alloc_new wr (.cells #[.int .i64 s, .int .i64 q, .int .i64 n, .int .i64 kd, .int .i64 pl, .string tx, .slice sa xs.length sc, .int .i64 es, .int .i64 eq, .int .i64 ec, .int .i64 ek, .int .i64 ea, .int .i64 el, .string et] 49)))
    clear hb2
    clear d0 d1 d2 d3 d4 c0 c1 c2 c3 c4 c5 c6 c7 c8 c9 c10 c11 c12 c13 n0 n1 n2 n3 n4 n5 n6 n7 n8 n9 n10 n11 n12 n13
    go_wp2
    go_ret
    exact ⟨by rw [HP.out (by rw [HZ.out]; rfl)]; rfl, HB2.out⟩
   | true =>
    by_cases g2 : es = s ∧ eq = q
    case neg =>
     have hE := fun W => nmEq_neq W es eq s q false (by cases h : (es == s && eq == q) with | false => rfl | true => simp at h; exact absurd h g2)
     have HPP := Lib.hid (HP.out (by rw [HZ.out, decide_eq_false g2]; rfl))
     clear g2
     go_wp2_with fail
     refine (HME.out _ (hb.out.alloc hb.out.size _)).mono ?_
     rintro e w2 ⟨rfl, hb2⟩
     have HB2 := Lib.hid ((hb.out.alloc hb.out.size (.cells #[.int .i64 s, .int .i64 q, .int .i64 n, .int .i64 kd, .int .i64 pl, .string tx, .slice sa xs.length sc, .int .i64 es, .int .i64 eq, .int .i64 ec, .int .i64 ek, .int .i64 ea, .int .i64 el, .string et] 49)).trans (hb2.mono (by have := hb.out.size; simp; omega)))
     have HX2 := Lib.hid (row_keep hb2 (hrow_al hxr.out (.cells #[.int .i64 s, .int .i64 q, .int .i64 n, .int .i64 kd, .int .i64 pl, .string tx, .slice sa xs.length sc, .int .i64 es, .int .i64 eq, .int .i64 ec, .int .i64 ek, .int .i64 ea, .int .i64 el, .string et] 49)))
     have HE2 := Lib.hid (row_keep hb2 (heap_alloc_new wr (.cells #[.int .i64 s, .int .i64 q, .int .i64 n, .int .i64 kd, .int .i64 pl, .string tx, .slice sa xs.length sc, .int .i64 es, .int .i64 eq, .int .i64 ec, .int .i64 ek, .int .i64 ea, .int .i64 el, .string et] 49)))
     clear hb2
     clear d0 d1 d2 d3 d4 c0 c1 c2 c3 c4 c5 c6 c7 c8 c9 c10 c11 c12 c13 n0 n1 n2 n3 n4 n5 n6 n7 n8 n9 n10 n11 n12 n13
     obtain ⟨⟨n0, n1, n2, n3, n4, n5, n6⟩, n7, n8, n9, n10, n11, n12, n13⟩ := row14 HE2.out
     go_wp2
     go_ret
     exact ⟨by rw [HPP.out]; rfl, HB2.out⟩
    have hE := fun W => nmEq_neq W es eq s q true (by rw [g2.1, g2.2]; simp)
    by_cases g3 : ek = kd
    case neg =>
     have HPP := Lib.hid (HP.out (by rw [HZ.out, decide_eq_false g3, Bool.and_false]; rfl))
     clear g2
     go_wp2_with fail
     refine (HME.out _ (hb.out.alloc hb.out.size _)).mono ?_
     rintro e w2 ⟨rfl, hb2⟩
     have HB2 := Lib.hid ((hb.out.alloc hb.out.size (.cells #[.int .i64 s, .int .i64 q, .int .i64 n, .int .i64 kd, .int .i64 pl, .string tx, .slice sa xs.length sc, .int .i64 es, .int .i64 eq, .int .i64 ec, .int .i64 ek, .int .i64 ea, .int .i64 el, .string et] 49)).trans (hb2.mono (by have := hb.out.size; simp; omega)))
     have HX2 := Lib.hid (row_keep hb2 (hrow_al hxr.out (.cells #[.int .i64 s, .int .i64 q, .int .i64 n, .int .i64 kd, .int .i64 pl, .string tx, .slice sa xs.length sc, .int .i64 es, .int .i64 eq, .int .i64 ec, .int .i64 ek, .int .i64 ea, .int .i64 el, .string et] 49)))
     have HE2 := Lib.hid (row_keep hb2 (heap_alloc_new wr (.cells #[.int .i64 s, .int .i64 q, .int .i64 n, .int .i64 kd, .int .i64 pl, .string tx, .slice sa xs.length sc, .int .i64 es, .int .i64 eq, .int .i64 ec, .int .i64 ek, .int .i64 ea, .int .i64 el, .string et] 49)))
     clear hb2
     clear d0 d1 d2 d3 d4 c0 c1 c2 c3 c4 c5 c6 c7 c8 c9 c10 c11 c12 c13 n0 n1 n2 n3 n4 n5 n6 n7 n8 n9 n10 n11 n12 n13
     obtain ⟨⟨n0, n1, n2, n3, n4, n5, n6⟩, n7, n8, n9, n10, n11, n12, n13⟩ := row14 HE2.out
     go_wp2
     go_ret
     exact ⟨by rw [HPP.out]; rfl, HB2.out⟩
    have HPP := Lib.hid (show entOk (REnt.ent ⟨⟨s, q, n, kd, pl, tx, .slice sa xs.length sc, xs⟩, es, eq, ec, ek, ea, el, et⟩) = true by rw [HZ.out, decide_eq_true g2, decide_eq_true g3]; rfl)
    have e3 : (ek == kd) = true := beq_iff_eq.2 g3
    have e4 : (ek != kd) = false := by rw [bne, e3]; rfl
    clear g2 g3
    go_wp2_with fail
    refine (HME.out _ (hb.out.alloc hb.out.size _)).mono ?_
    rintro e w2 ⟨rfl, hb2⟩
    have HB2 := Lib.hid ((hb.out.alloc hb.out.size (.cells #[.int .i64 s, .int .i64 q, .int .i64 n, .int .i64 kd, .int .i64 pl, .string tx, .slice sa xs.length sc, .int .i64 es, .int .i64 eq, .int .i64 ec, .int .i64 ek, .int .i64 ea, .int .i64 el, .string et] 49)).trans (hb2.mono (by have := hb.out.size; simp; omega)))
    have HX2 := Lib.hid (row_keep hb2 (hrow_al hxr.out (.cells #[.int .i64 s, .int .i64 q, .int .i64 n, .int .i64 kd, .int .i64 pl, .string tx, .slice sa xs.length sc, .int .i64 es, .int .i64 eq, .int .i64 ec, .int .i64 ek, .int .i64 ea, .int .i64 el, .string et] 49)))
    have HE2 := Lib.hid (row_keep hb2 (heap_alloc_new wr (.cells #[.int .i64 s, .int .i64 q, .int .i64 n, .int .i64 kd, .int .i64 pl, .string tx, .slice sa xs.length sc, .int .i64 es, .int .i64 eq, .int .i64 ec, .int .i64 ek, .int .i64 ea, .int .i64 el, .string et] 49)))
    clear hb2
    clear d0 d1 d2 d3 d4 c0 c1 c2 c3 c4 c5 c6 c7 c8 c9 c10 c11 c12 c13 n0 n1 n2 n3 n4 n5 n6 n7 n8 n9 n10 n11 n12 n13
    obtain ⟨⟨n0, n1, n2, n3, n4, n5, n6⟩, n7, n8, n9, n10, n11, n12, n13⟩ := row14 HE2.out
    go_wp2
    go_roundw
    case rel =>
     refine ⟨k + 1, by go_num, by omega, Lib.hid ?_, HX2, HB2⟩
     rw [List.take_add_one, HC.out, List.all_append, hall.out]
     simp [HPP.out]
    case measure => simp [intOf]; omega
  ·obtain rfl : N = k := by omega
   have HP := Lib.hid (show r = true by
    rw [← HRR.out]
    have := hall.out
    rwa [List.take_of_length_le (by rw [HN.out]; exact Nat.le_refl _)] at this)
   go_wp2
   go_ret
   exact ⟨by rw [HP.out]; rfl, hb.out⟩
end Go.Proofs.YthekkjfaaedamaaGreatDoor
