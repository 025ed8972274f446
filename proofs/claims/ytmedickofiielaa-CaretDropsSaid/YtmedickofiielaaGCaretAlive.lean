/- Texts of this proof, joined. -/
import Derived.Test.YtmedickofiielaaGRefSplit
import Derived.Test.YtmedickofiielaaGIter
import Derived.Deep.CutRange
import Derived.Deep.DeepCutAuto
import Derived.Deep.Cut
import Derived.Test.YtmedickofiielaaGRefMark
import Derived.Test.YtmedickofiielaaGRefOps
namespace Go.Proofs.Ytmedickofiielaa
open Go.RowKit

structure KA where
 D : World → Value → List PCell → (Nat → Prop) → Prop
 new_yes : ∀ (v : Value) (l : List PCell) (w : World), CAt w v l → CWf l → l.length ≤ 20000 → cMay l = 0 →
  Calls Try.prog 11 #[v] w fun e w' => ∃ p S, e = .returned (.tuple #[p, .int .i64 0]) ∧ D w' p l S ∧ (∀ b, S b → w.heap.size ≤ b) ∧ Below w.heap.size w w'
 kput : ∀ (s i j : Int) (p : Value) (l : List PCell) (S : Nat → Prop) (w : World), D w p l S → (Lit.int .i64 s).wf = true → (Lit.int .i64 i).wf = true → (Lit.int .i64 j).wf = true →
  Calls Try.prog 12 #[p, .int .i64 s, .int .i64 i, .int .i64 j] w (DVal D p l S (mkV (kPut l s i j)) w)
 kmove : ∀ (m1 m2 m3 s q n k a size : Int) (t : ByteArray) (sp : Value) (xs : List Sp) (w : World), LenAt t w → SpAt w sp xs → NWf s q n k a → (Lit.int .i64 m1).wf = true → (Lit.int .i64 m2).wf = true → (Lit.int .i64 m3).wf = true → (Lit.int .i64 size).wf = true → t.size ≤ 1000 → xs.length ≤ 20000 → sWf xs →
  Calls Try.prog 13 #[mkA m1 m2 m3, opV s q n k a t sp, .int .i64 size] w (Nothing (mkV (kMove m1 m2 m3 ⟨s, q, n, k, a, t.data.toList, xs⟩ size)) w)
def exK (k : Nat) : List PCell := (List.range 3).map fun i => ⟨if i < k then 9 else 99, 1, (i : Int), 46, false⟩
theorem exK_set {k : Nat} (h : k < 3) : (cCells (exK k)).set (k * 5) (.int .i64 9) = cCells (exK (k + 1)) := by
 match k, h with
 | 0, _ => rfl
 | 1, _ => rfl
 | 2, _ => rfl
theorem exK_cell {k : Nat} (h : k < 3) : (cCells (exK k))[k * 5]? = some (.int .i64 99) := by
 match k, h with
 | 0, _ => rfl
 | 1, _ => rfl
 | 2, _ => rfl
theorem exK_may : cMay (exK 3) = 0 := by decide
theorem exK_wf : CWf (exK 3) := by
 intro c hc
 have : c ∈ [(⟨9, 1, 0, 46, false⟩ : PCell), ⟨9, 1, 1, 46, false⟩, ⟨9, 1, 2, 46, false⟩] := hc
 simp at this
 rcases this with rfl | rfl | rfl <;> exact ⟨by decide, by decide, by decide, by decide⟩
theorem exK_put : kPut (exK 3) 1 1 1 = (1, 1, 1, 0) := by decide
def exKA : POp := ⟨2, 1, 0, 1, 1, [120, 121], []⟩
def exKB : POp := ⟨1, 1, 0, 1, 1, [120, 121], []⟩
theorem exK_moveA : kMove 1 1 1 exKA 3 = (1, 1, 1, 0) := by decide
theorem exK_moveB : kMove 1 1 1 exKB 3 = (1, 3, 3, 0) := by decide
set_option maxRecDepth 100000 in
set_option maxHeartbeats 4000000 in
theorem kalive_any (A : KA) (w : World) : Calls Try.prog 4 #[] w fun e w' => e = .returned (.bool true) ∧ Below w.heap.size w w' := by
 have hB := rBlank_any 3 (by decide) w
 go_enter Try.func4, Try.ntmps4
 go_wp2_with fail
 refine hB.mono ?_
 clear hB
 rintro e w1 ⟨v, rfl, ho, hb⟩
 have HB1 := Lib.hid hb
 have HO1 := Lib.hid (show w1.ownsRow w.heap.size 41 5 v 3 (cCells (exK 0)) from ho)
 clear ho hb
 go_wp2_with fail
 go_loopw [2] (fun i wr => ∃ k : Nat, i = .int .i64 k ∧ k ≤ 3 ∧ RowKit.Hid (wr.ownsRow w.heap.size 41 5 v 3 (cCells (exK k))) ∧ RowKit.Hid (Below w.heap.size w wr)) (fun i _ => 3 - (intOf i).toNat)
 case atStart => exact ⟨0, rfl, Nat.zero_le _, HO1, HB1⟩
 case round =>
  rename_i wr
  obtain ⟨k, rfl, hk, ho, hb⟩ := hrel
  rcases Nat.lt_or_ge k 3 with hlt | hge
  ·have hi0 : (0 : Int) ≤ (k : Int) ∧ (k : Int) < (3 : Int) := ⟨by omega, by omega⟩
   obtain ⟨g, cap2, hv2, hgb, hgl⟩ := World.ownsRow.form ho.out (by omega)
   subst hv2
   have hown := ho.out
   have hfro := hown.frozenAt (k * 5)
   have hcell := hown.cellAt (k * 5) (by omega)
   rw [exK_cell hlt] at hcell
   have hst := (hown.stored (k * 5) (.int .i64 9)).1
   rw [exK_set hlt] at hst
   have HST := Lib.hid hst
   have HBX := Lib.hid (hb.out.setCell (p := ⟨g, k * 5, none⟩) hgb (.int .i64 9))
   clear hst hown
   go_wp2
   exact ⟨⟨k + 1, by go_num, by omega, HST, HBX⟩, by simp [intOf]; omega⟩
  ·obtain rfl : k = 3 := by omega
   have hN := A.new_yes v (exK 3) wr (CAt.of_own ho.out rfl) exK_wf (by decide) exK_may
   clear HO1 HB1
   go_wp2_with fail
   refine hN.mono ?_
   clear hN
   rintro e w2 ⟨p, S, rfl, hD, hS, hb2⟩
   have c1 := A.kput 1 1 1 p (exK 3) S w2 hD (by decide) (by decide) (by decide)
   rw [exK_put] at c1
   have HB2 := Lib.hid (hb.out.trans (hb2.mono hb.out.size))
   have HS := Lib.hid (fun b h => Nat.le_trans hb.out.size (hS b h))
   clear hS hb2 hD hb ho
   go_wp2_with fail
   refine c1.mono ?_
   clear c1
   rintro e w3 ⟨S2, hk2, rfl⟩
   have HB3 := Lib.hid (HB2.out.trans (hk2.2.2.below HB2.out.size HS.out))
   clear hk2 HS
   unfold mkV
   dsimp only
   have hM := fun W s q => A.kmove 1 1 1 s q 0 1 1 3 ⟨#[120, 121]⟩ (.slice none 0 0) [] W (lenAt_xy W) (SpAt.nil _)
   have h2 := fun W => hM W 2 1 ⟨by decide, by decide, by decide, by decide, by decide⟩ (by decide) (by decide) (by decide) (by decide) (by decide) (by decide) (sWf_may (by decide))
   have h1 := fun W => hM W 1 1 ⟨by decide, by decide, by decide, by decide, by decide⟩ (by decide) (by decide) (by decide) (by decide) (by decide) (by decide) (sWf_may (by decide))
   rw [show (⟨2, 1, 0, 1, 1, (⟨#[120, 121]⟩ : ByteArray).data.toList, []⟩ : POp) = exKA from rfl, exK_moveA] at h2
   rw [show (⟨1, 1, 0, 1, 1, (⟨#[120, 121]⟩ : ByteArray).data.toList, []⟩ : POp) = exKB from rfl, exK_moveB] at h1
   unfold mkA mkV opV at h1 h2
   dsimp only at h1 h2
   clear hM
   go_wp2_with fail
   have hM0 := (Below.heap_alloc (w3.alloc (.cells #[.int .i64 1, .int .i64 1, .int .i64 1] 27)) (.cells #[.int .i64 2, .int .i64 1, .int .i64 0, .int .i64 1, .int .i64 1, .string ⟨#[120, 121]⟩, .slice none 0 0] 47) w3.heap.size (by simp)).trans (heap_alloc_new w3 (.cells #[.int .i64 1, .int .i64 1, .int .i64 1] 27))
   have hO0 := heap_alloc_new (w3.alloc (.cells #[.int .i64 1, .int .i64 1, .int .i64 1] 27)) (.cells #[.int .i64 2, .int .i64 1, .int .i64 0, .int .i64 1, .int .i64 1, .string ⟨#[120, 121]⟩, .slice none 0 0] 47)
   rw [show (w3.alloc (.cells #[.int .i64 1, .int .i64 1, .int .i64 1] 27)).heap.size = w3.heap.size + 1 by simp] at hO0
   have hK0 := (HB3.out.alloc HB3.out.size (.cells #[.int .i64 1, .int .i64 1, .int .i64 1] 27))
   have hK1 := (hK0.alloc hK0.size (.cells #[.int .i64 2, .int .i64 1, .int .i64 0, .int .i64 1, .int .i64 1, .string ⟨#[120, 121]⟩, .slice none 0 0] 47))
   have hsz := HB3.out.size
   generalize hW0 : (w3.alloc (.cells #[.int .i64 1, .int .i64 1, .int .i64 1] 27)).alloc (.cells #[.int .i64 2, .int .i64 1, .int .i64 0, .int .i64 1, .int .i64 1, .string ⟨#[120, 121]⟩, .slice none 0 0] 47) = W0 at hM0 hO0 hK1 ⊢
   clear hW0 hK0
   obtain ⟨B, hBB⟩ : ∃ B, w3.heap.size = B := ⟨_, rfl⟩
   rw [hBB] at hM0 hO0 hsz ⊢
   have HM0 := Lib.hid hM0
   have HO0 := Lib.hid hO0
   have HK1 := Lib.hid hK1
   have HSZ := Lib.hid hsz
   clear hM0 hO0 hK1 hsz hBB HB2 HB3
   refine (h2 _).mono ?_
   clear h2
   rintro e w4 ⟨rfl, hb4⟩
   have hM4 := (hb4.block B (Array.getElem?_eq_some_iff.1 HM0.out).1).trans HM0.out
   have hO4 := (hb4.block (B + 1) (Array.getElem?_eq_some_iff.1 HO0.out).1).trans HO0.out
   have hA4 := heap_alloc_new w4 (.cells #[.int .i64 1, .int .i64 1, .int .i64 1] 27)
   have hM5 := (Below.heap_alloc w4 (.cells #[.int .i64 1, .int .i64 1, .int .i64 1] 27) B (Array.getElem?_eq_some_iff.1 hM4).1).trans hM4
   have hO5 := (Below.heap_alloc w4 (.cells #[.int .i64 1, .int .i64 1, .int .i64 1] 27) (B + 1) (Array.getElem?_eq_some_iff.1 hO4).1).trans hO4
   have hK4 := HK1.out.trans (hb4.mono HK1.out.size)
   have hK5 := hK4.alloc hK4.size (.cells #[.int .i64 1, .int .i64 1, .int .i64 1] 27)
   have hlt4 : B + 1 < w4.heap.size := (Array.getElem?_eq_some_iff.1 hO4).1
   clear hb4 hM4 hO4 hK4 HM0 HO0 HK1
   go_upto_region 10 with fail
   obtain ⟨A, hAA⟩ : ∃ A, w4.heap.size = A := ⟨_, rfl⟩
   rw [hAA] at hA4 hlt4 ⊢
   generalize w4.alloc (.cells #[.int .i64 1, .int .i64 1, .int .i64 1] 27) = w5 at hM5 hO5 hA4 hK5 ⊢
   clear hAA
   have o0 := box_cell hO5 0
   have f0 := box_frozen hO5 0
   have HM6 := Lib.hid ((box_other (w := w5) (B := B + 1) (k := B) (by omega) 0 (.int .i64 1)).trans hM5)
   have HA6 := Lib.hid ((box_other (w := w5) (B := B + 1) (k := A) (by omega) 0 (.int .i64 1)).trans hA4)
   have HO6 := Lib.hid (box_set hO5 0 (.int .i64 1))
   have HK6 := Lib.hid (hK5.setCell (p := ⟨B + 1, 0, none⟩) (by have := HSZ.out; show w.heap.size ≤ B + 1; omega) (.int .i64 1))
   clear hM5 hO5 hA4 hK5
   go_upto_region 11 with fail
   generalize w5.setCell ⟨B + 1, 0, none⟩ (.int .i64 1) = w6 at HM6 HA6 HO6 HK6 ⊢
   clear o0 f0
   have m0 := box_cell HM6.out 0
   have m1 := box_cell HM6.out 1
   have m2 := box_cell HM6.out 2
   have o0 := box_cell HO6.out 0
   have o1 := box_cell HO6.out 1
   have o2 := box_cell HO6.out 2
   have o3 := box_cell HO6.out 3
   have o4 := box_cell HO6.out 4
   have o5 := box_cell HO6.out 5
   have o6 := box_cell HO6.out 6
   go_wp2_with fail
   refine (h1 _).mono ?_
   clear h1
   rintro e w7 ⟨rfl, hb7⟩
   have hA7 := (hb7.block A (Array.getElem?_eq_some_iff.1 HA6.out).1).trans HA6.out
   have hA8 := (Below.heap_alloc w7 (.cells #[.int .i64 1, .int .i64 3, .int .i64 3] 27) A (Array.getElem?_eq_some_iff.1 hA7).1).trans hA7
   have a1 := box_cell hA8 1
   have hK7 := HK6.out.trans (hb7.mono HK6.out.size)
   have hK8 := Lib.hid (hK7.alloc hK7.size (.cells #[.int .i64 1, .int .i64 3, .int .i64 3] 27))
   clear m0 m1 m2 o0 o1 o2 o3 o4 o5 o6 hb7 hA7 hK7 hA8
   go_wp2
   go_ret
   exact ⟨rfl, hK8.out⟩
end Go.Proofs.Ytmedickofiielaa

namespace Go.Proofs.Ytmedickofiielaa
open Go.RowKit

def KDrop : Prop := ∀ (s a t : Int) (sp : Value) (xs : List Sp) (w : World), SpAt w sp xs → (Lit.int .i64 s).wf = true → (Lit.int .i64 a).wf = true → (Lit.int .i64 t).wf = true → xs.length ≤ 20000 → sWf xs →
  Calls Try.prog 6 #[mkA s a t, sp] w (Nothing (mkV (kDrop s a t xs)) w)
theorem infoMarkP : (Try.prog.info? 27).map (·.size) = some 3 := by kernel_rfl
set_option maxHeartbeats 2000000 in
theorem kof_any (s a t : Int) (w : World) : Calls Try.prog 7 #[.agg #[.int .i64 s, .int .i64 a, .int .i64 t]] w (Nothing (.agg #[.int .i64 s, .int .i64 a, .int .i64 t]) w) := by
 have hB := (Below.refl w.heap.size w).alloc (Nat.le_refl _) (.cells #[.int .i64 s, .int .i64 a, .int .i64 t] 23)
 have R := heap_alloc_new (w.alloc (.cells #[.int .i64 s, .int .i64 a, .int .i64 t] 23)) (.cells #[.int .i64 s, .int .i64 a, .int .i64 t] 27)
 rw [show (w.alloc (.cells #[.int .i64 s, .int .i64 a, .int .i64 t] 23)).heap.size = w.heap.size + 1 by simp] at R
 have HB := Lib.hid (hB.alloc hB.size (.cells #[.int .i64 s, .int .i64 a, .int .i64 t] 27))
 have HR := Lib.hid R
 clear hB R
 go_enter Try.func7, Try.ntmps7
 go_wp2
 refine bodyPost_ret (results_cell_row (fn := Try.f7) (p := 2) rfl _ _ (w.heap.size + 1) 27 _ (0, 0) _ rfl HR.out Try.underlying27 rfl infoMarkP) rfl ?_
 exact ⟨rfl, HB.out⟩
set_option maxHeartbeats 2000000 in
theorem kplain_any (s a t : Int) (w : World) : Calls Try.prog 9 #[.agg #[.int .i64 s, .int .i64 a, .int .i64 t]] w (Nothing (.agg #[.int .i64 s, .int .i64 a, .int .i64 t]) w) := by
 have hB := (Below.refl w.heap.size w).alloc (Nat.le_refl _) (.cells #[.int .i64 s, .int .i64 a, .int .i64 t] 27)
 have R := heap_alloc_new (w.alloc (.cells #[.int .i64 s, .int .i64 a, .int .i64 t] 27)) (.cells #[.int .i64 s, .int .i64 a, .int .i64 t] 23)
 rw [show (w.alloc (.cells #[.int .i64 s, .int .i64 a, .int .i64 t] 27)).heap.size = w.heap.size + 1 by simp] at R
 have HB := Lib.hid (hB.alloc hB.size (.cells #[.int .i64 s, .int .i64 a, .int .i64 t] 23))
 have HR := Lib.hid R
 clear hB R
 go_enter Try.func9, Try.ntmps9
 go_wp2
 refine bodyPost_ret (results_cell_row (fn := Try.f9) (p := 2) rfl _ _ (w.heap.size + 1) 23 _ (0, 0) _ rfl HR.out Try.underlying23 rfl infoMark) rfl ?_
 exact ⟨rfl, HB.out⟩
theorem two_marks {P Q : Nat} {r1 r2 r3 : Int} {w W W' : World} (h : (W.cell? ⟨Q, 0, none⟩ = some (.int .i64 r1) ∧ W.cell? ⟨Q, 1, none⟩ = some (.int .i64 r2) ∧ W.cell? ⟨Q, 2, none⟩ = some (.int .i64 r3)) ∧ (W.cell? ⟨P, 0, none⟩ = some (.int .i64 r1) ∧ W.cell? ⟨P, 1, none⟩ = some (.int .i64 r2) ∧ W.cell? ⟨P, 2, none⟩ = some (.int .i64 r3)) ∧ Below w.heap.size w W) (hb : Below W.heap.size W W') : (W'.cell? ⟨Q, 0, none⟩ = some (.int .i64 r1) ∧ W'.cell? ⟨Q, 1, none⟩ = some (.int .i64 r2) ∧ W'.cell? ⟨Q, 2, none⟩ = some (.int .i64 r3)) ∧ (W'.cell? ⟨P, 0, none⟩ = some (.int .i64 r1) ∧ W'.cell? ⟨P, 1, none⟩ = some (.int .i64 r2) ∧ W'.cell? ⟨P, 2, none⟩ = some (.int .i64 r3)) ∧ Below w.heap.size w W' :=
 ⟨⟨cell_stays hb h.1.1, cell_stays hb h.1.2.1, cell_stays hb h.1.2.2⟩, ⟨cell_stays hb h.2.1.1, cell_stays hb h.2.1.2.1, cell_stays hb h.2.1.2.2⟩, h.2.2.trans (hb.mono h.2.2.size)⟩
set_option maxRecDepth 100000 in
set_option maxHeartbeats 4000000 in
theorem lawCaretDrops_any (A : KA) (hD : KDrop) (s a t : Int) (sp : Value) (xs : List Sp) (w : World) (h : SpAt w sp xs) (hx : sWf xs) (w1 : (Lit.int .i64 s).wf = true) (w2 : (Lit.int .i64 a).wf = true) (w3 : (Lit.int .i64 t).wf = true) :
  Calls Try.prog 3 #[mkA s a t, sp] w fun e w' => e = .returned (.bool true) ∧ Below w.heap.size w w' := by
 have hA := fun W => kalive_any A W
 have hb0 := (Below.refl w.heap.size w).alloc (Nat.le_refl _) (.cells #[.int .i64 s, .int .i64 a, .int .i64 t] 23)
 have hR0 := heap_alloc_new w (.cells #[.int .i64 s, .int .i64 a, .int .i64 t] 23)
 obtain ⟨ao, cap, rfl, _⟩ := id h
 obtain ⟨n, hn⟩ : ∃ n, xs.length = n := ⟨_, rfl⟩
 have hG := fun W => cgreat7_any n ao cap W
 have hOf := fun W => kof_any s a t W
 have hPd := fun W (hb : Below w.heap.size w W) (hl : n ≤ 60) => hD s a t _ xs W (h.below hb) w1 w2 w3 (by omega) hx
 have hRd := fun W (hb : Below w.heap.size w W) (hl : n ≤ 60) => rKDrop_any s a t _ xs W (h.below hb) (by omega)
 obtain ⟨⟨r1, r2, r3, r4⟩, hr⟩ : ∃ r, kDrop s a t xs = r := ⟨_, rfl⟩
 simp only [hn, hr] at hPd hRd ⊢
 unfold mkA mkV at *
 dsimp only at hPd hRd
 have HR0 := Lib.hid hR0
 have HB0 := Lib.hid hb0
 have HPD := Lib.hid hPd
 have HRD := Lib.hid hRd
 clear hR0 hb0 hPd hRd hr hn h hx hD w1 w2 w3
 go_enter Try.func3, Try.ntmps3
 go_wp2_with fail
 refine (hA _).mono ?_
 clear hA
 rintro e wa ⟨rfl, hb⟩
 have HR1 := Lib.hid ((hb.block w.heap.size (Array.getElem?_eq_some_iff.1 HR0.out).1).trans HR0.out)
 have HB1 := Lib.hid (HB0.out.trans (hb.mono HB0.out.size))
 clear hb HR0 HB0
 go_wp2_with fail
 refine (hG _).mono ?_
 clear hG
 rintro e _ ⟨rfl, rfl⟩
 rcases Nat.lt_or_ge 60 n with hgt | hle
 ·have e60 : decide ((60 : Int) < (n : Int)) = true := decide_eq_true (by omega)
  rw [e60]
  have hz := HB1.out
  go_wp2
  go_ret
  exact ⟨rfl, hz⟩
 have e60 : decide ((60 : Int) < (n : Int)) = false := decide_eq_false (by omega)
 rw [e60]
 have m0 := box_cell HR1.out 0
 have m1 := box_cell HR1.out 1
 have m2 := box_cell HR1.out 2
 go_wp2_with fail
 refine (hOf _).mono ?_
 clear hOf
 rintro e wb ⟨rfl, hb⟩
 have HR2 := Lib.hid ((hb.block w.heap.size (Array.getElem?_eq_some_iff.1 HR1.out).1).trans HR1.out)
 have HB2 := Lib.hid (HB1.out.trans (hb.mono HB1.out.size))
 clear hb m0 m1 m2 HR1 HB1
 have c1 := HPD.out wb HB2.out hle
 go_wp2_with fail
 refine c1.mono ?_
 clear c1
 rintro e wc ⟨rfl, hb⟩
 have hR3 := (hb.block w.heap.size (Array.getElem?_eq_some_iff.1 HR2.out).1).trans HR2.out
 have hR4 := (Below.heap_alloc wc (.cells #[.int .i64 r1, .int .i64 r2, .int .i64 r3] 27) w.heap.size (Array.getElem?_eq_some_iff.1 hR3).1).trans hR3
 have hP4 := heap_alloc_new wc (.cells #[.int .i64 r1, .int .i64 r2, .int .i64 r3] 27)
 have hB3 := HB2.out.trans (hb.mono HB2.out.size)
 have hB4 := hB3.alloc hB3.size (.cells #[.int .i64 r1, .int .i64 r2, .int .i64 r3] 27)
 clear hb hR3 hB3 HR2 HB2
 have HR4 := Lib.hid hR4
 have HP4 := Lib.hid hP4
 have HB4 := Lib.hid hB4
 clear hR4 hP4 hB4
 go_upto_region 6 with fail
 obtain ⟨P, hP⟩ : ∃ P, wc.heap.size = P := ⟨_, rfl⟩
 rw [hP] at HP4 ⊢
 generalize wc.alloc (.cells #[.int .i64 r1, .int .i64 r2, .int .i64 r3] 27) = wd at HR4 HP4 HB4 ⊢
 clear hP
 have m0 := box_cell HR4.out 0
 have m1 := box_cell HR4.out 1
 have m2 := box_cell HR4.out 2
 have c2 := HRD.out wd HB4.out hle
 go_wp2_with fail
 refine c2.mono ?_
 clear c2
 rintro e we ⟨rfl, hb⟩
 have hP5 := (hb.block P (Array.getElem?_eq_some_iff.1 HP4.out).1).trans HP4.out
 have HP6 := Lib.hid ((Below.heap_alloc we (.cells #[.int .i64 r1, .int .i64 r2, .int .i64 r3] 23) P (Array.getElem?_eq_some_iff.1 hP5).1).trans hP5)
 have HQ6 := Lib.hid (heap_alloc_new we (.cells #[.int .i64 r1, .int .i64 r2, .int .i64 r3] 23))
 have hB5 := HB4.out.trans (hb.mono HB4.out.size)
 have HB6 := Lib.hid (hB5.alloc hB5.size (.cells #[.int .i64 r1, .int .i64 r2, .int .i64 r3] 23))
 clear hb m0 m1 m2 hP5 hB5 HP4 HB4
 go_upto_region 7 with fail
 obtain ⟨Q, hQ⟩ : ∃ Q, we.heap.size = Q := ⟨_, rfl⟩
 rw [hQ] at HQ6 ⊢
 generalize we.alloc (.cells #[.int .i64 r1, .int .i64 r2, .int .i64 r3] 23) = wf at HP6 HQ6 HB6 ⊢
 clear hQ
 have p0 := box_cell HP6.out 0
 have p1 := box_cell HP6.out 1
 have p2 := box_cell HP6.out 2
 have q0 := box_cell HQ6.out 0
 have q1 := box_cell HQ6.out 1
 have q2 := box_cell HQ6.out 2
 have hPl := fun W => kplain_any r1 r2 r3 W
 have heq := fun W => mkEqR_eql W r1 r2 r3 r1 r2 r3 true (mkSame_self r1 r2 r3)
 have HPL := Lib.hid hPl
 clear hPl
 go_region_held (fun W => (W.cell? ⟨Q, 0, none⟩ = some (.int .i64 r1) ∧ W.cell? ⟨Q, 1, none⟩ = some (.int .i64 r2) ∧ W.cell? ⟨Q, 2, none⟩ = some (.int .i64 r3)) ∧ (W.cell? ⟨P, 0, none⟩ = some (.int .i64 r1) ∧ W.cell? ⟨P, 1, none⟩ = some (.int .i64 r2) ∧ W.cell? ⟨P, 2, none⟩ = some (.int .i64 r3)) ∧ Below w.heap.size w W)
  (first | exact ⟨⟨q0, q1, q2⟩, ⟨p0, p1, p2⟩, HB6.out.drew⟩ | exact two_marks (by assumption) hbp)
  (first | (go_at_call 9; refine (HPL.out _).mono ?_; rintro e wg ⟨rfl, hbp⟩))
 rename_i hHeld
 have hz := hHeld.2.2
 clear hHeld
 go_wp2
 go_ret
 exact ⟨rfl, hz⟩
end Go.Proofs.Ytmedickofiielaa
