/- The program's histories: one in memory of its own. -/
import Derived.Test.YthekkjfaaedamaaGreatDoorGHistOwn
import Derived.Test.YthekkjfaaedamaaGreatDoorGListsRun
import Derived.Test.YthekkjfaaedamaaGreatDoorGCellsBlk
namespace Go.Proofs.YthekkjfaaedamaaGreatDoor
open Go.RowKit

theorem infoHist : (Tryz.prog.info? 33).map (·.size) = some 5 := by kernel_rfl
theorem hist_result1 {fn : Func} {p : Tmp} (hfn : fn.results = #[.cell p 33]) (tmps : Array Value) (W : World) (g : Nat) (cs : Array Value) (hp : tmps.getD p undef = .pointer (some ⟨g, 0, none⟩))
  (hg : W.heap[g]? = some (.cells cs 33 (0, 0))) (h5 : cs.size = 5) : (results fn tmps).run Tryz.prog W = .ok (.agg cs) W :=
 results_cell_row hfn tmps W g 33 cs (0, 0) _ hp hg Tryz.underlying33 rfl (by rw [h5]; exact infoHist)
def OwnHistPost (h : RHist) (fr num : Int) (w : World) (e : Ending) (w' : World) : Prop := ∃ (b v l : Value) (rs : List REnt), e = .returned (hiV b v fr num l) ∧ HistR w' b v l ⟨h.base, h.vec, fr, num, rs⟩ ∧ rs.map REnt.ent = h.list.map REnt.ent ∧ Below w.heap.size w w'
set_option maxRecDepth 100000 in
set_option maxHeartbeats 8000000 in
theorem ownHist_any (b v u : Value) (fr num : Int) (h : RHist) (w : World) (hR : HistR w b v u h) (hF : ∀ x ∈ h.list, x.op.text.size ≤ 1000000 ∧ x.op.xs.length ≤ 1000000 ∧ x.et.size ≤ 1000000) (hn : h.list.length ≤ 1000000) (hb : h.base.length ≤ 1000000) (hv : h.vec.length ≤ 1000000) :
  Calls Tryz.prog 31 #[hiV b v fr num u] w (OwnHistPost h fr num w) := by
 obtain ⟨i0, hi, hz0, hz1, hz2⟩ := info_parts infoCellX
 obtain ⟨j0, ji, jz0, jz1, jz2⟩ := info_parts infoI64
 obtain ⟨bo, bc, hb0, -, -⟩ := hR.base.shape
 obtain ⟨vo, vc, hv0, -⟩ := id hR.vec
 obtain ⟨ao, cap, hu0⟩ := hR.list.shape
 obtain ⟨base, vec, fr', num', l⟩ := h
 obtain ⟨hRb, hRv, hRl⟩ := hR
 dsimp only at hRb hRv hRl hb0 hv0 hu0 hF hn hb hv ⊢
 subst hb0 hv0 hu0
 have HOA := Lib.hid (fun W (z : Below w.heap.size w W) => ownAllE_any _ l W (hRl.below z) hF hn)
 have HRB := Lib.hid (fun W (z : Below w.heap.size w W) => (hRb.below z).reads)
 have HRV := Lib.hid (fun W (z : Below w.heap.size w W) => (hRv.below z).row)
 obtain ⟨N, hN⟩ : ∃ N, l.length = N := ⟨_, rfl⟩
 obtain ⟨M, hM⟩ : ∃ M, base.length = M := ⟨_, rfl⟩
 obtain ⟨V, hV⟩ : ∃ V, vec.length = V := ⟨_, rfl⟩
 have HN := Lib.hid hN
 have HM := Lib.hid hM
 have HV := Lib.hid hV
 rw [hN] at hn HOA ⊢
 rw [hM] at hb HRB ⊢
 rw [hV] at hv HRV ⊢
 have HO1 := Lib.hid (cCells_ones base)
 have HO2 := Lib.hid (ints_one vec)
 have HA0 := Lib.hid (hrow_al (heap_alloc_new w (.cells #[.slice bo M bc, .slice vo V vc, .int .i64 fr, .int .i64 num, .slice ao N cap] 33)) (.cells #[.slice none 0 0, .slice none 0 0, .int .i64 0, .int .i64 0, .slice none 0 0] 33))
 have HZ0 := Lib.hid (show ((w.alloc (.cells #[.slice bo M bc, .slice vo V vc, .int .i64 fr, .int .i64 num, .slice ao N cap] 33)).alloc (.cells #[.slice none 0 0, .slice none 0 0, .int .i64 0, .int .i64 0, .slice none 0 0] 33)).heap[w.heap.size + 1]? = some (.cells #[.slice none 0 0, .slice none 0 0, .int .i64 0, .int .i64 0, .slice none 0 0] 33 (0, 0)) by
  have h := heap_alloc_new (w.alloc (.cells #[.slice bo M bc, .slice vo V vc, .int .i64 fr, .int .i64 num, .slice ao N cap] 33)) (.cells #[.slice none 0 0, .slice none 0 0, .int .i64 0, .int .i64 0, .slice none 0 0] 33)
  rwa [show (w.alloc (.cells #[.slice bo M bc, .slice vo V vc, .int .i64 fr, .int .i64 num, .slice ao N cap] 33)).heap.size = w.heap.size + 1 by simp] at h)
 have HB0 := Lib.hid (show Below w.heap.size w ((w.alloc (.cells #[.slice bo M bc, .slice vo V vc, .int .i64 fr, .int .i64 num, .slice ao N cap] 33)).alloc (.cells #[.slice none 0 0, .slice none 0 0, .int .i64 0, .int .i64 0, .slice none 0 0] 33)) from ((Below.refl _ w).alloc (Nat.le_refl _) _).alloc (by simp) _)
 have HS0 := Lib.hid (show ((w.alloc (.cells #[.slice bo M bc, .slice vo V vc, .int .i64 fr, .int .i64 num, .slice ao N cap] 33)).alloc (.cells #[.slice none 0 0, .slice none 0 0, .int .i64 0, .int .i64 0, .slice none 0 0] 33)).heap.size = w.heap.size + 2 by simp)
 obtain ⟨⟨d0, d1, d2, d3, d4⟩, -⟩ := row5 HA0.out
 have ef0 := box_frozen HA0.out 0; have ef1 := box_frozen HA0.out 1; have ef2 := box_frozen HA0.out 2; have ef3 := box_frozen HA0.out 3; have ef4 := box_frozen HA0.out 4
 clear hRb hRv hRl hF hN hM hV
 have z1 : 0 + M ≤ maxLen := by unfold maxLen; omega
 have z2 : (0 + M) * 32 ≤ 140737488355328 := by omega
 have z3 : w.heap.size + 2 ≤ ((w.alloc (.cells #[.slice bo M bc, .slice vo V vc, .int .i64 fr, .int .i64 num, .slice ao N cap] 33)).alloc (.cells #[.slice none 0 0, .slice none 0 0, .int .i64 0, .int .i64 0, .slice none 0 0] 33)).heap.size := by simp
 unfold hiV
 go_enter Tryz.func31, Tryz.ntmps31
 go_upto_region 2 with (at_builtin; go_must (refine wpList_app_any rfl _ _ 22 rfl (w.heap.size + 2) 64 i0 _ 5 32 Tryz.underlying22 hi hz0 hz1 hz2 rfl (by decide) _ 0 [] rfl (World.ownsRow_nil _ _ _ _) _ M (cCells base) rfl (HRB.out _ HB0.out) HO1.out z1 z2 z3 ?_; intro v1 w1 ho1 hg1; have hb1 := (Below.refl ((w.alloc (.cells #[.slice bo M bc, .slice vo V vc, .int .i64 fr, .int .i64 num, .slice ao N cap] 33)).alloc (.cells #[.slice none 0 0, .slice none 0 0, .int .i64 0, .int .i64 0, .slice none 0 0] 33)).heap.size _).grown hg1 (Nat.le_refl _) (fun g hg => by cases hg); rw [List.nil_append, Nat.zero_add] at ho1; obtain ⟨b1, c1, hvb, -⟩ := (RowR.of_own ho1).2; subst hvb; have HA1 := Lib.hid (row_keep hb1 HA0.out); have HZ1 := Lib.hid (row_keep hb1 HZ0.out); have HB1 := Lib.hid (HB0.out.trans (hb1.mono HB0.out.size)); have HR10 := Lib.hid ho1; clear hb1 ho1 hg1 d0 d1 d2 d3 d4 ef0 ef1 ef2 ef3 ef4; obtain ⟨⟨d0, d1, d2, d3, d4⟩, -⟩ := row5 HA1.out; have ef0 := box_frozen HA1.out 0; have ef1 := box_frozen HA1.out 1; have ef2 := box_frozen HA1.out 2; have ef3 := box_frozen HA1.out 3; have ef4 := box_frozen HA1.out 4))
 have h2a : ((w1).setCell ⟨w.heap.size, 0, none⟩ (.slice b1 M c1)).heap[w.heap.size]? = some (.cells #[.slice b1 M c1, .slice vo V vc, .int .i64 fr, .int .i64 num, .slice ao N cap] 33 (0, 0)) := box_set HA1.out 0 (.slice b1 M c1)
 have h2z : ((w1).setCell ⟨w.heap.size, 0, none⟩ (.slice b1 M c1)).heap[w.heap.size + 1]? = some (.cells #[.slice none 0 0, .slice none 0 0, .int .i64 0, .int .i64 0, .slice none 0 0] 33 (0, 0)) := (box_other (by omega) 0 (.slice b1 M c1)).trans HZ1.out
 have h2b : Below w.heap.size w ((w1).setCell ⟨w.heap.size, 0, none⟩ (.slice b1 M c1)) := HB1.out.setCell (p := ⟨w.heap.size, 0, none⟩) (Nat.le_refl _) (.slice b1 M c1)
 have h2r0 := own_set HR10.out w.heap.size 0 (.slice b1 M c1) (by omega)
 generalize (w1).setCell ⟨w.heap.size, 0, none⟩ (.slice b1 M c1) = W2 at h2a h2z h2b h2r0 ⊢
 have HA2 := Lib.hid h2a
 have HZ2 := Lib.hid h2z
 have HB2 := Lib.hid h2b
 have HR20 := Lib.hid h2r0
 clear h2a h2z h2b h2r0
 clear d0 d1 d2 d3 d4 ef0 ef1 ef2 ef3 ef4 z1 z2 z3
 obtain ⟨⟨d0, d1, d2, d3, d4⟩, -⟩ := row5 HA2.out
 have ef0 := box_frozen HA2.out 0; have ef1 := box_frozen HA2.out 1; have ef2 := box_frozen HA2.out 2; have ef3 := box_frozen HA2.out 3; have ef4 := box_frozen HA2.out 4
 have hlt := (Array.getElem?_eq_some_iff.1 HZ2.out).1
 have z1 : 0 + V ≤ maxLen := by unfold maxLen; omega
 have z2 : (0 + V) * 8 ≤ 140737488355328 := by omega
 have z3 : w.heap.size + 2 ≤ W2.heap.size := by omega
 clear hlt
 go_upto_region 3 with (at_builtin; go_must (refine wpList_app_any rfl _ _ 23 rfl (w.heap.size + 2) 3 j0 _ 1 8 Tryz.underlying23 ji jz0 jz1 jz2 rfl (by decide) _ 0 [] rfl (World.ownsRow_nil _ _ _ _) _ V (vec.map (Value.int .i64)) rfl (HRV.out _ HB2.out) HO2.out z1 z2 z3 ?_; intro v3 w3 ho1 hg1; have hb1 := (Below.refl W2.heap.size _).grown hg1 (Nat.le_refl _) (fun g hg => by cases hg); rw [List.nil_append, Nat.zero_add] at ho1; obtain ⟨v2, c2, hvb, -⟩ := (RowR.of_own ho1).2; subst hvb; have HA3 := Lib.hid (row_keep hb1 HA2.out); have HZ3 := Lib.hid (row_keep hb1 HZ2.out); have HB3 := Lib.hid (HB2.out.trans (hb1.mono HB2.out.size)); have HR30 := Lib.hid (own_up HR20.out hb1); have HR31 := Lib.hid ho1; clear hb1 ho1 hg1 d0 d1 d2 d3 d4 ef0 ef1 ef2 ef3 ef4; obtain ⟨⟨d0, d1, d2, d3, d4⟩, -⟩ := row5 HA3.out; have ef0 := box_frozen HA3.out 0; have ef1 := box_frozen HA3.out 1; have ef2 := box_frozen HA3.out 2; have ef3 := box_frozen HA3.out 3; have ef4 := box_frozen HA3.out 4))
 have h4a : ((w3).setCell ⟨w.heap.size, 1, none⟩ (.slice v2 V c2)).heap[w.heap.size]? = some (.cells #[.slice b1 M c1, .slice v2 V c2, .int .i64 fr, .int .i64 num, .slice ao N cap] 33 (0, 0)) := box_set HA3.out 1 (.slice v2 V c2)
 have h4z : ((w3).setCell ⟨w.heap.size, 1, none⟩ (.slice v2 V c2)).heap[w.heap.size + 1]? = some (.cells #[.slice none 0 0, .slice none 0 0, .int .i64 0, .int .i64 0, .slice none 0 0] 33 (0, 0)) := (box_other (by omega) 1 (.slice v2 V c2)).trans HZ3.out
 have h4b : Below w.heap.size w ((w3).setCell ⟨w.heap.size, 1, none⟩ (.slice v2 V c2)) := HB3.out.setCell (p := ⟨w.heap.size, 1, none⟩) (Nat.le_refl _) (.slice v2 V c2)
 have h4r0 := own_set HR30.out w.heap.size 1 (.slice v2 V c2) (by omega)
 have h4r1 := own_set HR31.out w.heap.size 1 (.slice v2 V c2) (by omega)
 generalize (w3).setCell ⟨w.heap.size, 1, none⟩ (.slice v2 V c2) = W4 at h4a h4z h4b h4r0 h4r1 ⊢
 have HA4 := Lib.hid h4a
 have HZ4 := Lib.hid h4z
 have HB4 := Lib.hid h4b
 have HR40 := Lib.hid h4r0
 have HR41 := Lib.hid h4r1
 clear h4a h4z h4b h4r0 h4r1
 clear d0 d1 d2 d3 d4 ef0 ef1 ef2 ef3 ef4 z1 z2 z3
 obtain ⟨⟨d0, d1, d2, d3, d4⟩, -⟩ := row5 HA4.out
 have ef0 := box_frozen HA4.out 0; have ef1 := box_frozen HA4.out 1; have ef2 := box_frozen HA4.out 2; have ef3 := box_frozen HA4.out 3; have ef4 := box_frozen HA4.out 4
 go_upto_region 4 with (go_at_call 57; refine (HOA.out _ HB4.out).mono ?_; rintro e w5 ⟨l3, rs, rfl, hrs, hown, hb1⟩; have hlen := congrArg List.length hrs; rw [List.length_map, List.length_map, HN.out] at hlen; obtain ⟨a3, c3, hl3⟩ := hown.ents.shape; subst hl3; rw [hlen]; have HA5 := Lib.hid (row_keep hb1 HA4.out); have HZ5 := Lib.hid (row_keep hb1 HZ4.out); have HB5 := Lib.hid (HB4.out.trans (hb1.mono HB4.out.size)); have HR50 := Lib.hid (own_up HR40.out hb1); have HR51 := Lib.hid (own_up HR41.out hb1); have HW5 := Lib.hid (show EntsOwn W4.heap.size w5 (.slice a3 N c3) rs by rw [← hlen]; exact hown); have HRS := Lib.hid hrs; have HLE := Lib.hid hlen; clear hb1 hown hrs hlen d0 d1 d2 d3 d4 ef0 ef1 ef2 ef3 ef4; obtain ⟨⟨d0, d1, d2, d3, d4⟩, -⟩ := row5 HA5.out; have ef0 := box_frozen HA5.out 0; have ef1 := box_frozen HA5.out 1; have ef2 := box_frozen HA5.out 2; have ef3 := box_frozen HA5.out 3; have ef4 := box_frozen HA5.out 4)
 have h6a : ((w5).setCell ⟨w.heap.size, 4, none⟩ (.slice a3 N c3)).heap[w.heap.size]? = some (.cells #[.slice b1 M c1, .slice v2 V c2, .int .i64 fr, .int .i64 num, .slice a3 N c3] 33 (0, 0)) := box_set HA5.out 4 (.slice a3 N c3)
 have h6z : ((w5).setCell ⟨w.heap.size, 4, none⟩ (.slice a3 N c3)).heap[w.heap.size + 1]? = some (.cells #[.slice none 0 0, .slice none 0 0, .int .i64 0, .int .i64 0, .slice none 0 0] 33 (0, 0)) := (box_other (by omega) 4 (.slice a3 N c3)).trans HZ5.out
 have h6b : Below w.heap.size w ((w5).setCell ⟨w.heap.size, 4, none⟩ (.slice a3 N c3)) := HB5.out.setCell (p := ⟨w.heap.size, 4, none⟩) (Nat.le_refl _) (.slice a3 N c3)
 have h6r0 := own_set HR50.out w.heap.size 4 (.slice a3 N c3) (by omega)
 have h6r1 := own_set HR51.out w.heap.size 4 (.slice a3 N c3) (by omega)
 have hlow : w.heap.size + 2 ≤ W4.heap.size := by have := (Array.getElem?_eq_some_iff.1 HZ4.out).1; omega
 have hxtr : EntsOwn (w.heap.size + 2) ((w5).setCell ⟨w.heap.size, 4, none⟩ (.slice a3 N c3)) (.slice a3 N c3) rs := ⟨own_set (own_lower HW5.out.1 hlow) w.heap.size 4 (.slice a3 N c3) (by omega), fun x hx => own_set (own_lower (HW5.out.2 x hx) hlow) w.heap.size 4 (.slice a3 N c3) (by omega)⟩
 generalize (w5).setCell ⟨w.heap.size, 4, none⟩ (.slice a3 N c3) = W6 at h6a h6z h6b h6r0 h6r1 hxtr ⊢
 have HA6 := Lib.hid h6a
 have HZ6 := Lib.hid h6z
 have HB6 := Lib.hid h6b
 have HR60 := Lib.hid h6r0
 have HR61 := Lib.hid h6r1
 clear h6a h6z h6b h6r0 h6r1
 have HW6 := Lib.hid hxtr
 clear d0 d1 d2 d3 d4 ef0 ef1 ef2 ef3 ef4 hlow hxtr
 obtain ⟨cs, hcs⟩ : ∃ cs : Array Value, (#[.slice b1 M c1, .slice v2 V c2, .int .i64 fr, .int .i64 num, .slice a3 N c3] : Array Value) = cs := ⟨_, rfl⟩
 obtain ⟨zs, hzs⟩ : ∃ zs : Array Value, (#[.slice none 0 0, .slice none 0 0, .int .i64 0, .int .i64 0, .slice none 0 0] : Array Value) = zs := ⟨_, rfl⟩
 have hsz : cs.size = 5 := by rw [← hcs]; rfl
 have hzz : zs.size = cs.size := by rw [hsz, ← hzs]; rfl
 have h1c : cs.all (·.oneCell') = true := by rw [← hcs]; simp [Value.oneCell']
 have hi5 : (Tryz.prog.info? 33).map (·.size) = some cs.size := by rw [hsz]; exact infoHist
 rw [hcs] at HA6
 rw [hzs] at HZ6
 have kL : ∀ (op : Oper) (ops : Array Oper) (rest : List Oper) (Q : Exit → Act → World → Prop) (a : Act), op.guard = none → op.op = .load 33 (.tmp 1) → a.eval (.tmp 1) = .pointer (some ⟨w.heap.size, 0, none⟩) → wpList Tryz.prog ops Q rest (a.put op.dst (.agg cs)) W6 → wpList Tryz.prog ops Q (op :: rest) a W6 :=
  fun op ops rest Q a h1 h2 h3 h5 => wpList_load_row h1 33 _ h2 w.heap.size h3 33 cs (0, 0) _ HA6.out Tryz.underlying33 rfl hi5 h5
 have kS : ∀ (op : Oper) (ops : Array Oper) (rest : List Oper) (Q : Exit → Act → World → Prop) (a : Act), op.guard = none → op.op = .store 33 (.tmp 2) (.tmp 15) → a.eval (.tmp 2) = .pointer (some ⟨w.heap.size + 1, 0, none⟩) → a.eval (.tmp 15) = .agg cs → wpList Tryz.prog ops Q rest (a.put op.dst undef) (W6.setRow (w.heap.size + 1) cs) → wpList Tryz.prog ops Q (op :: rest) a W6 :=
  fun op ops rest Q a h1 h2 h3 h4 h5 => wpList_store_row h1 33 _ _ h2 (w.heap.size + 1) cs h3 h4 33 zs HZ6.out hi5 hzz h1c h5
 have hZ7 := setRow_heap W6 (w.heap.size + 1) zs cs 33 (0, 0) HZ6.out
 have hB7 := below_setRow HB6.out (show w.heap.size ≤ w.heap.size + 1 by omega) cs
 have hb7 := own_setRow HR60.out (w.heap.size + 1) cs (by omega)
 have hv7 := own_setRow HR61.out (w.heap.size + 1) cs (by omega)
 have hw7 : EntsOwn (w.heap.size + 2) (W6.setRow (w.heap.size + 1) cs) (.slice a3 N c3) rs := ⟨own_setRow HW6.out.1 _ cs (by omega), fun x hx => own_setRow (HW6.out.2 x hx) _ cs (by omega)⟩
 have HF := Lib.hid (And.intro hZ7 (And.intro hB7 (And.intro hb7 (And.intro hv7 (And.intro hw7 hsz)))))
 have HCS := Lib.hid hcs
 clear hZ7 hB7 hb7 hv7 hw7 hsz hzz h1c hi5 hcs hzs
 go_wp2_with (first | (refine kL _ _ _ _ _ rfl rfl rfl ?_) | (refine kS _ _ _ _ _ rfl rfl rfl rfl ?_))
 obtain ⟨hZ7, hB7, hb7, hv7, hw7, hsz⟩ := HF.out
 refine bodyPost_ret (hist_result1 (fn := Tryz.f31) (p := 2) rfl _ _ (w.heap.size + 1) _ rfl hZ7 hsz) rfl ⟨.slice b1 M c1, .slice v2 V c2, .slice a3 N c3, rs, ?_, ⟨CAt.of_own hb7 HM.out.symm, ?_, hw7.ents⟩, HRS.out, hB7⟩
 ·rw [← HCS.out]
  rfl
 ·dsimp only
  rw [← HV.out] at hv7 ⊢
  exact Reads64.of_own hv7
end Go.Proofs.YthekkjfaaedamaaGreatDoor
