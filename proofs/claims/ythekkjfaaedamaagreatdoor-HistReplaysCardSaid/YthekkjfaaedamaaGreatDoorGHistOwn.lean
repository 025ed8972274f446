/- Texts of this proof, joined. -/
import Derived.Test.YthekkjfaaedamaaGreatDoorGOpsMayQ
import Derived.Test.YthekkjfaaedamaaGreatDoorGRefLRun
import Derived.Test.YthekkjfaaedamaaGreatDoorGHistAt
import Derived.Test.YthekkjfaaedamaaGreatDoorGReads64
import Derived.Laws.Rows
import Derived.Laws.Tables
import Derived.Laws.CopyOwn
namespace Go.Proofs.YthekkjfaaedamaaGreatDoor
open Go.RowKit

theorem infoEnA : (Tryz.prog.info? 49).map (·.size) = some 14 := by kernel_rfl
theorem entry_result1 {fn : Func} {p : Tmp} (hfn : fn.results = #[.cell p 49]) (tmps : Array Value) (W : World) (g : Nat) (cs : Array Value) (hp : tmps.getD p undef = .pointer (some ⟨g, 0, none⟩))
  (hg : W.heap[g]? = some (.cells cs 49 (0, 0))) (h14 : cs.size = 14) : (results fn tmps).run Tryz.prog W = .ok (.agg cs) W :=
 results_cell_row hfn tmps W g 49 cs (0, 0) _ hp hg Tryz.underlying49 rfl (by rw [h14]; exact infoEnA)
theorem own_setRow {W : World} {M : Nat} {t : TypeId} {size : Nat} {v : Value} {k : Nat} {xs : List Value} (h : W.ownsRow M t size v k xs) (g : Nat) (cs : Array Value) (hg : g < M) : (W.setRow g cs).ownsRow M t size v k xs := by
 refine ⟨h.1, ?_⟩
 rcases h.2 with q | ⟨r, cap, cur, q1, q2, q3, q4⟩
 ·exact .inl q
 ·exact .inr ⟨r, cap, cur, q1, q2, (setRow_other W g r cs (by omega)).trans q3, q4⟩
def OwnEPost (x : REnt) (w : World) (e : Ending) (w' : World) : Prop := ∃ so sd, e = .returned (REnt.val { x with op := { x.op with sp := .slice so x.op.xs.length sd } }) ∧ w'.ownsRow w.heap.size 105 2 (.slice so x.op.xs.length sd) x.op.xs.length (spCells x.op.xs) ∧ Below w.heap.size w w'
set_option maxRecDepth 100000 in
set_option maxHeartbeats 8000000 in
theorem ownEntry_any (x : REnt) (w : World) (h1 : SpAt w x.op.sp x.op.xs) (ht : x.op.text.size ≤ 1000000) (hx : x.op.xs.length ≤ 1000000) (het : x.et.size ≤ 1000000) :
  Calls Tryz.prog 58 #[x.val] w (OwnEPost x w) := by
 obtain ⟨⟨s, q, n, kd, pl, tx, sp, xs⟩, es, eq, ec, ek, ea, el, et⟩ := x
 dsimp only at h1 ht hx het
 obtain ⟨sa, sc, rfl, -⟩ := id h1
 have HOW := Lib.hid (fun W (z : Below w.heap.size w W) => ownH_any s q n kd pl tx (.slice sa xs.length sc) xs W (h1.below z) ht hx)
 have HCL := Lib.hid (fun W => clone_any et W (by omega))
 have hE := hrow_al (heap_alloc_new w (.cells #[.int .i64 s, .int .i64 q, .int .i64 n, .int .i64 kd, .int .i64 pl, .string tx, .slice sa xs.length sc, .int .i64 es, .int .i64 eq, .int .i64 ec, .int .i64 ek, .int .i64 ea, .int .i64 el, .string et] 49)) (.cells #[.int .i64 0, .int .i64 0, .int .i64 0, .int .i64 0, .int .i64 0, .string ⟨#[]⟩, .slice none 0 0, .int .i64 0, .int .i64 0, .int .i64 0, .int .i64 0, .int .i64 0, .int .i64 0, .string ⟨#[]⟩] 49)
 have hZ : ((w.alloc (.cells #[.int .i64 s, .int .i64 q, .int .i64 n, .int .i64 kd, .int .i64 pl, .string tx, .slice sa xs.length sc, .int .i64 es, .int .i64 eq, .int .i64 ec, .int .i64 ek, .int .i64 ea, .int .i64 el, .string et] 49)).alloc (.cells #[.int .i64 0, .int .i64 0, .int .i64 0, .int .i64 0, .int .i64 0, .string ⟨#[]⟩, .slice none 0 0, .int .i64 0, .int .i64 0, .int .i64 0, .int .i64 0, .int .i64 0, .int .i64 0, .string ⟨#[]⟩] 49)).heap[w.heap.size + 1]? = some (.cells #[.int .i64 0, .int .i64 0, .int .i64 0, .int .i64 0, .int .i64 0, .string ⟨#[]⟩, .slice none 0 0, .int .i64 0, .int .i64 0, .int .i64 0, .int .i64 0, .int .i64 0, .int .i64 0, .string ⟨#[]⟩] 49) := by
  have h := heap_alloc_new (w.alloc (.cells #[.int .i64 s, .int .i64 q, .int .i64 n, .int .i64 kd, .int .i64 pl, .string tx, .slice sa xs.length sc, .int .i64 es, .int .i64 eq, .int .i64 ec, .int .i64 ek, .int .i64 ea, .int .i64 el, .string et] 49)) (.cells #[.int .i64 0, .int .i64 0, .int .i64 0, .int .i64 0, .int .i64 0, .string ⟨#[]⟩, .slice none 0 0, .int .i64 0, .int .i64 0, .int .i64 0, .int .i64 0, .int .i64 0, .int .i64 0, .string ⟨#[]⟩] 49)
  rwa [show (w.alloc (.cells #[.int .i64 s, .int .i64 q, .int .i64 n, .int .i64 kd, .int .i64 pl, .string tx, .slice sa xs.length sc, .int .i64 es, .int .i64 eq, .int .i64 ec, .int .i64 ek, .int .i64 ea, .int .i64 el, .string et] 49)).heap.size = w.heap.size + 1 by simp] at h
 have hB : Below w.heap.size w ((w.alloc (.cells #[.int .i64 s, .int .i64 q, .int .i64 n, .int .i64 kd, .int .i64 pl, .string tx, .slice sa xs.length sc, .int .i64 es, .int .i64 eq, .int .i64 ec, .int .i64 ek, .int .i64 ea, .int .i64 el, .string et] 49)).alloc (.cells #[.int .i64 0, .int .i64 0, .int .i64 0, .int .i64 0, .int .i64 0, .string ⟨#[]⟩, .slice none 0 0, .int .i64 0, .int .i64 0, .int .i64 0, .int .i64 0, .int .i64 0, .int .i64 0, .string ⟨#[]⟩] 49)) := ((Below.refl _ w).alloc (Nat.le_refl _) _).alloc (by simp) _
 have HEZ := Lib.hid (And.intro hE (And.intro hZ hB))
 obtain ⟨⟨n0, n1, n2, n3, n4, n5, n6⟩, n7, n8, n9, n10, n11, n12, n13⟩ := row14 hE
 clear h1 hE hZ hB
 unfold opV at HOW
 unfold REnt.val
 dsimp only
 go_enter Tryz.func58, Tryz.ntmps58
 go_wp2_with fail
 refine (HOW.out _ HEZ.out.2.2).mono ?_
 rintro e w1 ⟨so, sd, rfl, ho, hb⟩
 have HE1 := Lib.hid (row_keep hb HEZ.out.1)
 have HZ1 := Lib.hid (row_keep hb HEZ.out.2.1)
 have HB1 := Lib.hid (HEZ.out.2.2.trans (hb.mono HEZ.out.2.2.size))
 have HO1 := Lib.hid (own_lower ho HEZ.out.2.2.size)
 have hlt := (Array.getElem?_eq_some_iff.1 HZ1.out).1
 have HL := Lib.hid (show w.heap.size + 2 ≤ ((w.alloc (.cells #[.int .i64 s, .int .i64 q, .int .i64 n, .int .i64 kd, .int .i64 pl, .string tx, .slice sa xs.length sc, .int .i64 es, .int .i64 eq, .int .i64 ec, .int .i64 ek, .int .i64 ea, .int .i64 el, .string et] 49)).alloc (.cells #[.int .i64 0, .int .i64 0, .int .i64 0, .int .i64 0, .int .i64 0, .string ⟨#[]⟩, .slice none 0 0, .int .i64 0, .int .i64 0, .int .i64 0, .int .i64 0, .int .i64 0, .int .i64 0, .string ⟨#[]⟩] 49)).heap.size by simp)
 have HO2 := Lib.hid (own_lower ho HL.out)
 clear ho hb n0 n1 n2 n3 n4 n5 n6 n7 n8 n9 n10 n11 n12 n13 hlt
 obtain ⟨⟨n0, n1, n2, n3, n4, n5, n6⟩, n7, n8, n9, n10, n11, n12, n13⟩ := row14 HE1.out
 have ef0 := box_frozen HE1.out 0; have ef1 := box_frozen HE1.out 1; have ef2 := box_frozen HE1.out 2; have ef3 := box_frozen HE1.out 3; have ef4 := box_frozen HE1.out 4; have ef5 := box_frozen HE1.out 5; have ef6 := box_frozen HE1.out 6; have ef7 := box_frozen HE1.out 7; have ef8 := box_frozen HE1.out 8; have ef9 := box_frozen HE1.out 9; have ef10 := box_frozen HE1.out 10; have ef11 := box_frozen HE1.out 11; have ef12 := box_frozen HE1.out 12; have ef13 := box_frozen HE1.out 13
 unfold opV
 go_upto_region 2 with (fail)
 have hE2 : ((((((((w1).setCell ⟨w.heap.size, 0, none⟩ (.int .i64 s)).setCell ⟨w.heap.size, 1, none⟩ (.int .i64 q)).setCell ⟨w.heap.size, 2, none⟩ (.int .i64 n)).setCell ⟨w.heap.size, 3, none⟩ (.int .i64 kd)).setCell ⟨w.heap.size, 4, none⟩ (.int .i64 pl)).setCell ⟨w.heap.size, 5, none⟩ (.string tx)).setCell ⟨w.heap.size, 6, none⟩ (.slice so xs.length sd)).heap[w.heap.size]? = some (.cells #[.int .i64 s, .int .i64 q, .int .i64 n, .int .i64 kd, .int .i64 pl, .string tx, .slice so xs.length sd, .int .i64 es, .int .i64 eq, .int .i64 ec, .int .i64 ek, .int .i64 ea, .int .i64 el, .string et] 49 (0, 0)) := box_set (box_set (box_set (box_set (box_set (box_set (box_set (HE1.out) 0 (.int .i64 s)) 1 (.int .i64 q)) 2 (.int .i64 n)) 3 (.int .i64 kd)) 4 (.int .i64 pl)) 5 (.string tx)) 6 (.slice so xs.length sd)
 have hZ2 : ((((((((w1).setCell ⟨w.heap.size, 0, none⟩ (.int .i64 s)).setCell ⟨w.heap.size, 1, none⟩ (.int .i64 q)).setCell ⟨w.heap.size, 2, none⟩ (.int .i64 n)).setCell ⟨w.heap.size, 3, none⟩ (.int .i64 kd)).setCell ⟨w.heap.size, 4, none⟩ (.int .i64 pl)).setCell ⟨w.heap.size, 5, none⟩ (.string tx)).setCell ⟨w.heap.size, 6, none⟩ (.slice so xs.length sd)).heap[w.heap.size + 1]? = some (.cells #[.int .i64 0, .int .i64 0, .int .i64 0, .int .i64 0, .int .i64 0, .string ⟨#[]⟩, .slice none 0 0, .int .i64 0, .int .i64 0, .int .i64 0, .int .i64 0, .int .i64 0, .int .i64 0, .string ⟨#[]⟩] 49 (0, 0)) := (box_other (by omega) 6 (.slice so xs.length sd)).trans ((box_other (by omega) 5 (.string tx)).trans ((box_other (by omega) 4 (.int .i64 pl)).trans ((box_other (by omega) 3 (.int .i64 kd)).trans ((box_other (by omega) 2 (.int .i64 n)).trans ((box_other (by omega) 1 (.int .i64 q)).trans ((box_other (by omega) 0 (.int .i64 s)).trans (HZ1.out)))))))
 have hB2 : Below w.heap.size w ((((((((w1).setCell ⟨w.heap.size, 0, none⟩ (.int .i64 s)).setCell ⟨w.heap.size, 1, none⟩ (.int .i64 q)).setCell ⟨w.heap.size, 2, none⟩ (.int .i64 n)).setCell ⟨w.heap.size, 3, none⟩ (.int .i64 kd)).setCell ⟨w.heap.size, 4, none⟩ (.int .i64 pl)).setCell ⟨w.heap.size, 5, none⟩ (.string tx)).setCell ⟨w.heap.size, 6, none⟩ (.slice so xs.length sd)) := (((((((HB1.out).setCell (p := ⟨w.heap.size, 0, none⟩) (Nat.le_refl _) (.int .i64 s)).setCell (p := ⟨w.heap.size, 1, none⟩) (Nat.le_refl _) (.int .i64 q)).setCell (p := ⟨w.heap.size, 2, none⟩) (Nat.le_refl _) (.int .i64 n)).setCell (p := ⟨w.heap.size, 3, none⟩) (Nat.le_refl _) (.int .i64 kd)).setCell (p := ⟨w.heap.size, 4, none⟩) (Nat.le_refl _) (.int .i64 pl)).setCell (p := ⟨w.heap.size, 5, none⟩) (Nat.le_refl _) (.string tx)).setCell (p := ⟨w.heap.size, 6, none⟩) (Nat.le_refl _) (.slice so xs.length sd)
 have hO2 : ((((((((w1).setCell ⟨w.heap.size, 0, none⟩ (.int .i64 s)).setCell ⟨w.heap.size, 1, none⟩ (.int .i64 q)).setCell ⟨w.heap.size, 2, none⟩ (.int .i64 n)).setCell ⟨w.heap.size, 3, none⟩ (.int .i64 kd)).setCell ⟨w.heap.size, 4, none⟩ (.int .i64 pl)).setCell ⟨w.heap.size, 5, none⟩ (.string tx)).setCell ⟨w.heap.size, 6, none⟩ (.slice so xs.length sd)).ownsRow (w.heap.size + 2) 105 2 (.slice so xs.length sd) xs.length (spCells xs) := own_set (own_set (own_set (own_set (own_set (own_set (own_set (HO2.out) (w.heap.size) 0 (.int .i64 s) (by omega)) (w.heap.size) 1 (.int .i64 q) (by omega)) (w.heap.size) 2 (.int .i64 n) (by omega)) (w.heap.size) 3 (.int .i64 kd) (by omega)) (w.heap.size) 4 (.int .i64 pl) (by omega)) (w.heap.size) 5 (.string tx) (by omega)) (w.heap.size) 6 (.slice so xs.length sd) (by omega)
 generalize (((((((w1).setCell ⟨w.heap.size, 0, none⟩ (.int .i64 s)).setCell ⟨w.heap.size, 1, none⟩ (.int .i64 q)).setCell ⟨w.heap.size, 2, none⟩ (.int .i64 n)).setCell ⟨w.heap.size, 3, none⟩ (.int .i64 kd)).setCell ⟨w.heap.size, 4, none⟩ (.int .i64 pl)).setCell ⟨w.heap.size, 5, none⟩ (.string tx)).setCell ⟨w.heap.size, 6, none⟩ (.slice so xs.length sd) = W2 at hE2 hZ2 hB2 hO2 ⊢
 have HE2 := Lib.hid hE2
 have HZ2 := Lib.hid hZ2
 have HB2 := Lib.hid hB2
 have HO3 := Lib.hid hO2
 clear hE2 hZ2 hB2 hO2 n0 n1 n2 n3 n4 n5 n6 n7 n8 n9 n10 n11 n12 n13 ef0 ef1 ef2 ef3 ef4 ef5 ef6 ef7 ef8 ef9 ef10 ef11 ef12 ef13
 obtain ⟨⟨n0, n1, n2, n3, n4, n5, n6⟩, n7, n8, n9, n10, n11, n12, n13⟩ := row14 HE2.out
 go_wp2_with fail
 refine (HCL.out _).mono ?_
 rintro e w3 ⟨rfl, hb⟩
 have HE3 := Lib.hid (row_keep hb HE2.out)
 have HZ3 := Lib.hid (row_keep hb HZ2.out)
 have HB3 := Lib.hid (HB2.out.trans (hb.mono HB2.out.size))
 have HO4 := Lib.hid (own_up HO3.out hb)
 clear hb n0 n1 n2 n3 n4 n5 n6 n7 n8 n9 n10 n11 n12 n13
 obtain ⟨⟨n0, n1, n2, n3, n4, n5, n6⟩, n7, n8, n9, n10, n11, n12, n13⟩ := row14 HE3.out
 have ef0 := box_frozen HE3.out 0; have ef1 := box_frozen HE3.out 1; have ef2 := box_frozen HE3.out 2; have ef3 := box_frozen HE3.out 3; have ef4 := box_frozen HE3.out 4; have ef5 := box_frozen HE3.out 5; have ef6 := box_frozen HE3.out 6; have ef7 := box_frozen HE3.out 7; have ef8 := box_frozen HE3.out 8; have ef9 := box_frozen HE3.out 9; have ef10 := box_frozen HE3.out 10; have ef11 := box_frozen HE3.out 11; have ef12 := box_frozen HE3.out 12; have ef13 := box_frozen HE3.out 13
 go_upto_region 3 with (fail)
 have hE4 : ((w3).setCell ⟨w.heap.size, 13, none⟩ (.string et)).heap[w.heap.size]? = some (.cells #[.int .i64 s, .int .i64 q, .int .i64 n, .int .i64 kd, .int .i64 pl, .string tx, .slice so xs.length sd, .int .i64 es, .int .i64 eq, .int .i64 ec, .int .i64 ek, .int .i64 ea, .int .i64 el, .string et] 49 (0, 0)) := box_set (HE3.out) 13 (.string et)
 have hZ4 : ((w3).setCell ⟨w.heap.size, 13, none⟩ (.string et)).heap[w.heap.size + 1]? = some (.cells #[.int .i64 0, .int .i64 0, .int .i64 0, .int .i64 0, .int .i64 0, .string ⟨#[]⟩, .slice none 0 0, .int .i64 0, .int .i64 0, .int .i64 0, .int .i64 0, .int .i64 0, .int .i64 0, .string ⟨#[]⟩] 49 (0, 0)) := (box_other (by omega) 13 (.string et)).trans (HZ3.out)
 have hB4 : Below w.heap.size w ((w3).setCell ⟨w.heap.size, 13, none⟩ (.string et)) := (HB3.out).setCell (p := ⟨w.heap.size, 13, none⟩) (Nat.le_refl _) (.string et)
 have hO4 : ((w3).setCell ⟨w.heap.size, 13, none⟩ (.string et)).ownsRow (w.heap.size + 2) 105 2 (.slice so xs.length sd) xs.length (spCells xs) := own_set (HO4.out) (w.heap.size) 13 (.string et) (by omega)
 generalize (w3).setCell ⟨w.heap.size, 13, none⟩ (.string et) = W4 at hE4 hZ4 hB4 hO4 ⊢
 have HE4 := Lib.hid hE4
 have HZ4 := Lib.hid hZ4
 have HB4 := Lib.hid hB4
 have HO5 := Lib.hid hO4
 clear hE4 hZ4 hB4 hO4 n0 n1 n2 n3 n4 n5 n6 n7 n8 n9 n10 n11 n12 n13 ef0 ef1 ef2 ef3 ef4 ef5 ef6 ef7 ef8 ef9 ef10 ef11 ef12 ef13
 obtain ⟨cs, hcs⟩ : ∃ cs : Array Value, (#[.int .i64 s, .int .i64 q, .int .i64 n, .int .i64 kd, .int .i64 pl, .string tx, .slice so xs.length sd, .int .i64 es, .int .i64 eq, .int .i64 ec, .int .i64 ek, .int .i64 ea, .int .i64 el, .string et] : Array Value) = cs := ⟨_, rfl⟩
 obtain ⟨zs, hzs⟩ : ∃ zs : Array Value, (#[.int .i64 0, .int .i64 0, .int .i64 0, .int .i64 0, .int .i64 0, .string ⟨#[]⟩, .slice none 0 0, .int .i64 0, .int .i64 0, .int .i64 0, .int .i64 0, .int .i64 0, .int .i64 0, .string ⟨#[]⟩] : Array Value) = zs := ⟨_, rfl⟩
 have hsz : cs.size = 14 := by rw [← hcs]; rfl
 have hzz : zs.size = cs.size := by rw [hsz, ← hzs]; rfl
 have h1c : cs.all (·.oneCell') = true := by rw [← hcs]; simp [Value.oneCell']
 have hi14 : (Tryz.prog.info? 49).map (·.size) = some cs.size := by rw [hsz]; exact infoEnA
 rw [hcs] at HE4
 rw [hzs] at HZ4
 have kL : ∀ (op : Oper) (ops : Array Oper) (rest : List Oper) (Q : Exit → Act → World → Prop) (a : Act), op.guard = none → op.op = .load 49 (.tmp 1) → a.eval (.tmp 1) = .pointer (some ⟨w.heap.size, 0, none⟩) → wpList Tryz.prog ops Q rest (a.put op.dst (.agg cs)) W4 → wpList Tryz.prog ops Q (op :: rest) a W4 :=
  fun op ops rest Q a h1 h2 h3 h5 => wpList_load_row h1 49 _ h2 w.heap.size h3 49 cs (0, 0) _ HE4.out Tryz.underlying49 rfl hi14 h5
 have kS : ∀ (op : Oper) (ops : Array Oper) (rest : List Oper) (Q : Exit → Act → World → Prop) (a : Act), op.guard = none → op.op = .store 49 (.tmp 2) (.tmp 13) → a.eval (.tmp 2) = .pointer (some ⟨w.heap.size + 1, 0, none⟩) → a.eval (.tmp 13) = .agg cs → wpList Tryz.prog ops Q rest (a.put op.dst undef) (W4.setRow (w.heap.size + 1) cs) → wpList Tryz.prog ops Q (op :: rest) a W4 :=
  fun op ops rest Q a h1 h2 h3 h4 h5 => wpList_store_row h1 49 _ _ h2 (w.heap.size + 1) cs h3 h4 49 zs HZ4.out hi14 hzz h1c h5
 have hZ5 := setRow_heap W4 (w.heap.size + 1) zs cs 49 (0, 0) HZ4.out
 have hB5 := below_setRow HB4.out (show w.heap.size ≤ w.heap.size + 1 by omega) cs
 have hO6 := own_lower (own_setRow HO5.out (w.heap.size + 1) cs (by omega)) (show w.heap.size ≤ w.heap.size + 2 by omega)
 have HF := Lib.hid (And.intro hZ5 (And.intro hB5 (And.intro hO6 hsz)))
 have HCS := Lib.hid hcs
 clear hZ5 hB5 hO6 hsz hzz h1c hi14 hcs hzs
 go_wp2_with (first | (refine kL _ _ _ _ _ rfl rfl rfl ?_) | (refine kS _ _ _ _ _ rfl rfl rfl rfl ?_))
 refine bodyPost_ret (entry_result1 (fn := Tryz.f58) (p := 2) rfl _ _ (w.heap.size + 1) _ rfl HF.out.1 HF.out.2.2.2) rfl ⟨so, sd, ?_, HF.out.2.2.1, HF.out.2.1⟩
 rw [← HCS.out]
 rfl
end Go.Proofs.YthekkjfaaedamaaGreatDoor

namespace Go.Proofs.YthekkjfaaedamaaGreatDoor
open Go.RowKit

def EntsOwn (N : Nat) (W : World) (v : Value) (rs : List REnt) : Prop := W.ownsRow N 49 14 v rs.length (nCells rs) ∧ ∀ x ∈ rs, W.ownsRow N 105 2 x.op.sp x.op.xs.length (spCells x.op.xs)
theorem EntsOwn.up {N : Nat} {W W' : World} {v : Value} {rs : List REnt} (h : EntsOwn N W v rs) (hb : Below W.heap.size W W') : EntsOwn N W' v rs := ⟨own_up h.1 hb, fun x hx => own_up (h.2 x hx) hb⟩
theorem EntsOwn.nil (N : Nat) (W : World) : EntsOwn N W (.slice none 0 0) [] := ⟨World.ownsRow_nil _ _ _ _, fun _ h => by cases h⟩
theorem EntsOwn.ents {N : Nat} {W : World} {v : Value} {rs : List REnt} (h : EntsOwn N W v rs) : EntsR W v rs := ⟨RowR.of_own h.1, fun x hx => SpAt.of_own (h.2 x hx)⟩
def OwnLPost (l : List REnt) (w : World) (e : Ending) (w' : World) : Prop := ∃ v rs, e = .returned v ∧ rs.map REnt.ent = l.map REnt.ent ∧ EntsOwn w.heap.size w' v rs ∧ Below w.heap.size w w'
def OwnERel (l : List REnt) (k : Nat) (w : World) (v : Value) (wr : World) : Prop := ∃ rs : List REnt, rs.map REnt.ent = (l.take k).map REnt.ent ∧ EntsOwn w.heap.size wr v rs ∧ rs.length = k
theorem one_entry (W : World) (x : REnt) (ty : TypeId) : RowR 14 (W.alloc (.cells x.vals.toArray ty)) (.slice (some ⟨W.heap.size, 0, none⟩) 1 1) 1 (nCells [x]) := by
 refine ⟨rfl, _, 1, rfl, fun _ => ⟨W.heap.size, 0, rfl, fun j u hj => ?_⟩⟩
 have h := heap_alloc_new W (.cells x.vals.toArray ty)
 rw [Nat.zero_add, cell_of_row _ _ j _ _ _ h]
 simpa [nCells] using hj
set_option maxRecDepth 100000 in
set_option maxHeartbeats 8000000 in
theorem ownAllE_any (v : Value) (l : List REnt) (w : World) (h : EntsR w v l) (hF : ∀ x ∈ l, x.op.text.size ≤ 1000000 ∧ x.op.xs.length ≤ 1000000 ∧ x.et.size ≤ 1000000) (hn : l.length ≤ 1000000) :
  Calls Tryz.prog 57 #[v, .func (.func 58) #[] #[]] w (OwnLPost l w) := by
 obtain ⟨i0, hi, hz0, hz1, hz2⟩ := info_parts infoEnC
 have HA := Lib.hid h
 have HF := Lib.hid hF
 obtain ⟨ao, cap, rfl⟩ := h.shape
 obtain ⟨N, hN⟩ : ∃ N, l.length = N := ⟨_, rfl⟩
 have HN := Lib.hid hN
 rw [hN] at hn ⊢
 clear h hF hN
 go_enter Tryz.func57, Tryz.ntmps57
 go_wp2
 go_loopw [5, 10] (fun s i wr => ∃ k : Nat, i = .int .i64 k ∧ k ≤ N ∧ RowKit.Hid (OwnERel l k w s wr) ∧ RowKit.Hid (Below w.heap.size w wr)) (fun _ i _ => N - (intOf i).toNat)
 case atStart => exact ⟨0, rfl, Nat.zero_le _, Lib.hid ⟨[], rfl, EntsOwn.nil _ _, rfl⟩, Lib.hid (Below.refl _ _)⟩
 case round =>
  rename World => wr
  obtain ⟨k, rfl, hk, hr, hb⟩ := hrel
  rcases Nat.lt_or_ge k N with hlt | hge
  ·obtain ⟨x, hx⟩ := getN_some (l := l) (k := k) (by rw [HN.out]; exact hlt)
   have hA := HA.out.below hb.out
   obtain ⟨b, off, cp, hv, ⟨c0, c1, c2, c3, c4, c5, c6⟩, c7, c8, c9, c10, c11, c12, c13⟩ := hA.at hx
   rw [HN.out] at hv
   cases hv
   have hi0 : (0 : Int) ≤ (k : Int) ∧ (k : Int) < (N : Int) := ⟨by omega, by omega⟩
   have hfit := HF.out x (List.mem_of_getElem? hx)
   have HTK := Lib.hid (show l.take (k + 1) = l.take k ++ [x] by rw [List.take_add_one, hx]; rfl)
   have hO := fun W (z : Below wr.heap.size wr W) => ownEntry_any x W ((hA.mem hx).below z) hfit.1 hfit.2.1 hfit.2.2
   obtain ⟨sa, sc, hsp, -⟩ := hA.mem hx
   obtain ⟨⟨s, q, n, kd, pl, tx, sp, xs⟩, es, eq, ec, ek, ea, el, et⟩ := x
   dsimp only at c0 c1 c2 c3 c4 c5 c6 c7 c8 c9 c10 c11 c12 c13 hsp HTK
   subst hsp
   unfold REnt.val at hO
   have HO := Lib.hid (hO (wr.alloc (.cells #[.int .i64 s, .int .i64 q, .int .i64 n, .int .i64 kd, .int .i64 pl, .string tx, .slice sa xs.length sc, .int .i64 es, .int .i64 eq, .int .i64 ec, .int .i64 ek, .int .i64 ea, .int .i64 el, .string et] 49)) ((Below.refl _ _).alloc (Nat.le_refl _) _))
   have HB := Lib.hid (hb.out.alloc hb.out.size (.cells #[.int .i64 s, .int .i64 q, .int .i64 n, .int .i64 kd, .int .i64 pl, .string tx, .slice sa xs.length sc, .int .i64 es, .int .i64 eq, .int .i64 ec, .int .i64 ek, .int .i64 ea, .int .i64 el, .string et] 49))
   obtain ⟨rs, hrs, hown, hlen⟩ := hr.out
   have HOW := Lib.hid (hown.up ((Below.refl wr.heap.size wr).alloc (Nat.le_refl _) (.cells #[.int .i64 s, .int .i64 q, .int .i64 n, .int .i64 kd, .int .i64 pl, .string tx, .slice sa xs.length sc, .int .i64 es, .int .i64 eq, .int .i64 ec, .int .i64 ek, .int .i64 ea, .int .i64 el, .string et] 49)))
   have HRS := Lib.hid hrs
   have HLE := Lib.hid hlen
   obtain ⟨z1, z2, hz, -⟩ := id (RowR.of_own hown.1).2
   subst hz
   clear hA hO hfit hx hrs hown hr hb hlen
   obtain ⟨⟨n0, n1, n2, n3, n4, n5, n6⟩, n7, n8, n9, n10, n11, n12, n13⟩ := row14 (heap_alloc_new wr (.cells #[.int .i64 s, .int .i64 q, .int .i64 n, .int .i64 kd, .int .i64 pl, .string tx, .slice sa xs.length sc, .int .i64 es, .int .i64 eq, .int .i64 ec, .int .i64 ek, .int .i64 ea, .int .i64 el, .string et] 49))
   go_wp2_with (first | (go_at_call 58; refine HO.out.mono ?_; rintro e w2 ⟨ao2, ac2, rfl, ho2, hb2⟩; dsimp only at ho2 ⊢; unfold REnt.val; dsimp only; have HS2 := Lib.hid (own_lower ho2 HB.out.size); have HB2 := Lib.hid (HB.out.trans (hb2.mono HB.out.size)); have HOW2 := Lib.hid (HOW.out.up hb2); clear ho2 hb2 n0 n1 n2 n3 n4 n5 n6 n7 n8 n9 n10 n11 n12 n13 c0 c1 c2 c3 c4 c5 c6 c7 c8 c9 c10 c11 c12 c13; have HONE := Lib.hid (show RowR 14 (w2.alloc (.cells #[.int .i64 s, .int .i64 q, .int .i64 n, .int .i64 kd, .int .i64 pl, .string tx, .slice ao2 xs.length ac2, .int .i64 es, .int .i64 eq, .int .i64 ec, .int .i64 ek, .int .i64 ea, .int .i64 el, .string et] 49)) (.slice (some ⟨w2.heap.size, 0, none⟩) 1 1) 1 (nCells [⟨⟨s, q, n, kd, pl, tx, .slice ao2 xs.length ac2, xs⟩, es, eq, ec, ek, ea, el, et⟩]) from one_entry w2 ⟨⟨s, q, n, kd, pl, tx, .slice ao2 xs.length ac2, xs⟩, es, eq, ec, ek, ea, el, et⟩ 49); have h1' : rs.length + 1 ≤ maxLen := (by unfold maxLen; have := HLE.out; omega); have h2' : (rs.length + 1) * 144 ≤ 140737488355328 := (by have := HLE.out; omega); have h3' : w.heap.size ≤ (w2.alloc (.cells #[.int .i64 s, .int .i64 q, .int .i64 n, .int .i64 kd, .int .i64 pl, .string tx, .slice ao2 xs.length ac2, .int .i64 es, .int .i64 eq, .int .i64 ec, .int .i64 ek, .int .i64 ea, .int .i64 el, .string et] 49)).heap.size := (by have := HB2.out.size; simp; omega); have HB3 := Lib.hid (HB2.out.alloc HB2.out.size (.cells #[.int .i64 s, .int .i64 q, .int .i64 n, .int .i64 kd, .int .i64 pl, .string tx, .slice ao2 xs.length ac2, .int .i64 es, .int .i64 eq, .int .i64 ec, .int .i64 ek, .int .i64 ea, .int .i64 el, .string et] 49)); have HOW3 := Lib.hid (HOW2.out.up ((Below.refl w2.heap.size w2).alloc (Nat.le_refl _) (.cells #[.int .i64 s, .int .i64 q, .int .i64 n, .int .i64 kd, .int .i64 pl, .string tx, .slice ao2 xs.length ac2, .int .i64 es, .int .i64 eq, .int .i64 ec, .int .i64 ek, .int .i64 ea, .int .i64 el, .string et] 49))); have HS3 := Lib.hid (own_up HS2.out ((Below.refl w2.heap.size w2).alloc (Nat.le_refl _) (.cells #[.int .i64 s, .int .i64 q, .int .i64 n, .int .i64 kd, .int .i64 pl, .string tx, .slice ao2 xs.length ac2, .int .i64 es, .int .i64 eq, .int .i64 ec, .int .i64 ek, .int .i64 ea, .int .i64 el, .string et] 49)))) | (at_builtin; go_must (refine wpList_app_any rfl _ _ 24 rfl w.heap.size 49 i0 _ 14 144 Tryz.underlying24 hi hz0 hz1 hz2 rfl (by decide) _ rs.length (nCells rs) rfl HOW3.out.1 _ 1 _ rfl HONE.out (nCells_1c _ (fun y hy => by rw [List.mem_singleton.1 hy]; rfl)) h1' h2' h3' ?_; intro v2 w3 ho3 hg3; have HO3 := Lib.hid ho3; have HG := Lib.hid hg3; clear ho3 hg3)))
   have HREL : RowKit.Hid (OwnERel l (k + 1) w v2 w3) := Lib.hid ⟨rs ++ [⟨⟨s, q, n, kd, pl, tx, .slice ao2 xs.length ac2, xs⟩, es, eq, ec, ek, ea, el, et⟩], by rw [HTK.out, List.map_append, List.map_append, HRS.out]; rfl, ⟨by rw [List.length_append, nCells_append]; exact HO3.out, fun y hy => by
    rcases List.mem_append.1 hy with g | g
    ·exact grown_own (HOW3.out.2 y g) HOW3.out.1 HG.out (by decide)
    ·rw [List.mem_singleton.1 g]
     exact grown_own HS3.out HOW3.out.1 HG.out (by decide)⟩, by rw [List.length_append, HLE.out]; rfl⟩
   have HBE := Lib.hid (HB3.out.grown HG.out h3' (own_ge HOW3.out.1))
   clear HO3 HG HOW3 HS3 HB3 h1' h2' h3' HONE
   go_roundw
   case rel => exact ⟨k + 1, by go_num, by omega, HREL, HBE⟩
   case measure => simp [intOf]; omega
  ·obtain rfl : N = k := by omega
   obtain ⟨rs, hrs, hown, -⟩ := hr.out
   have HP := Lib.hid (show OwnLPost l w (.returned u5) wr from ⟨_, rs, rfl, by rw [hrs, List.take_of_length_le (by rw [HN.out]; exact Nat.le_refl _)], hown, hb.out⟩)
   clear hr hrs hown
   go_wp2
   go_ret
   exact HP.out
end Go.Proofs.YthekkjfaaedamaaGreatDoor
