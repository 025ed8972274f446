/- Texts of this proof, joined. -/
import Derived.Test.YtmedickofiielaaGreatDoorGRefSplit
import Derived.Test.YtmedickofiielaaGreatDoorGIter
import Derived.Deep.CutRange
import Derived.Deep.DeepCutAuto
import Derived.Deep.Cut
import Derived.Test.YtmedickofiielaaGreatDoorGReads64
import Derived.Test.YtmedickofiielaaGreatDoorGRefOps
import Derived.Deep.RegionHeld
import Derived.StillTailTactics
import Derived.Test.YtmedickofiielaaGreatDoorGSpansPlain
namespace Go.Proofs.YtmedickofiielaaGreatDoor
open Go.RowKit

structure KA where
 D : World → Value → List PCell → (Nat → Prop) → Prop
 new_yes : ∀ (v : Value) (l : List PCell) (w : World), CAt w v l → CWf l → l.length ≤ 20000 → cMay l = 0 →
  Calls Tryz.prog 16 #[v] w fun e w' => ∃ p S, e = .returned (.tuple #[p, .int .i64 0]) ∧ D w' p l S ∧ (∀ b, S b → w.heap.size ≤ b) ∧ Below w.heap.size w w'
 kput : ∀ (s i j : Int) (p : Value) (l : List PCell) (S : Nat → Prop) (w : World), D w p l S → (Lit.int .i64 s).wf = true → (Lit.int .i64 i).wf = true → (Lit.int .i64 j).wf = true →
  Calls Tryz.prog 9 #[p, .int .i64 s, .int .i64 i, .int .i64 j] w (DVal D p l S (mkV (kPut l s i j)) w)
 kmove : ∀ (m1 m2 m3 s q n k a size : Int) (t : ByteArray) (sp : Value) (xs : List Sp) (w : World), LenAt t w → SpAt w sp xs → NWf s q n k a → (Lit.int .i64 m1).wf = true → (Lit.int .i64 m2).wf = true → (Lit.int .i64 m3).wf = true → (Lit.int .i64 size).wf = true → t.size ≤ 1000 → xs.length ≤ 20000 → sWf xs →
  Calls Tryz.prog 19 #[mkA m1 m2 m3, opV s q n k a t sp, .int .i64 size] w (Nothing (mkV (kMove m1 m2 m3 ⟨s, q, n, k, a, t.data.toList, xs⟩ size)) w)
def exK (k : Nat) : List PCell := (List.range 3).map fun i => ⟨if i < k then 9 else 99, 1, (i : Int), 46, false⟩
theorem exK_set {k : Nat} (h : k < 3) : (cCells (exK k)).set (k * 5) (.int .i64 9) = cCells (exK (k + 1)) := by
 match k, h with
 | 0, _ => rfl
 | 1, _ => rfl
 | 2, _ => rfl
theorem exK_cell {k : Nat} (h : k < 3) : (cCells (exK k))[k * 5]? = some (.int .i64 99) := by
 match k, h with
 | 0, _ => rfl
 | 1, _ => rfl
 | 2, _ => rfl
theorem exK_may : cMay (exK 3) = 0 := by decide
theorem exK_wf : CWf (exK 3) := by
 intro c hc
 have : c ∈ [(⟨9, 1, 0, 46, false⟩ : PCell), ⟨9, 1, 1, 46, false⟩, ⟨9, 1, 2, 46, false⟩] := hc
 simp at this
 rcases this with rfl | rfl | rfl <;> exact ⟨by decide, by decide, by decide, by decide⟩
theorem exK_put : kPut (exK 3) 1 1 1 = (1, 1, 1, 0) := by decide
def exKA : POp := ⟨2, 1, 0, 1, 1, [120, 121], []⟩
def exKB : POp := ⟨1, 1, 0, 1, 1, [120, 121], []⟩
theorem exK_moveA : kMove 1 1 1 exKA 3 = (1, 1, 1, 0) := by decide
theorem exK_moveB : kMove 1 1 1 exKB 3 = (1, 3, 3, 0) := by decide
set_option maxRecDepth 100000 in
set_option maxHeartbeats 4000000 in
theorem kalive_any (A : KA) (w : World) : Calls Tryz.prog 6 #[] w fun e w' => e = .returned (.bool true) ∧ Below w.heap.size w w' := by
 have hB := rBlank_any 3 (by decide) w
 go_enter Tryz.func6, Tryz.ntmps6
 go_wp2_with fail
 refine hB.mono ?_
 clear hB
 rintro e w1 ⟨v, rfl, ho, hb⟩
 have HB1 := Lib.hid hb
 have HO1 := Lib.hid (show w1.ownsRow w.heap.size 48 5 v 3 (cCells (exK 0)) from ho)
 clear ho hb
 go_wp2_with fail
 go_loopw [2] (fun i wr => ∃ k : Nat, i = .int .i64 k ∧ k ≤ 3 ∧ RowKit.Hid (wr.ownsRow w.heap.size 48 5 v 3 (cCells (exK k))) ∧ RowKit.Hid (Below w.heap.size w wr)) (fun i _ => 3 - (intOf i).toNat)
 case atStart => exact ⟨0, rfl, Nat.zero_le _, HO1, HB1⟩
 case round =>
  rename_i wr
  obtain ⟨k, rfl, hk, ho, hb⟩ := hrel
  rcases Nat.lt_or_ge k 3 with hlt | hge
  ·have hi0 : (0 : Int) ≤ (k : Int) ∧ (k : Int) < (3 : Int) := ⟨by omega, by omega⟩
   obtain ⟨g, cap2, hv2, hgb, hgl⟩ := World.ownsRow.form ho.out (by omega)
   subst hv2
   have hown := ho.out
   have hfro := hown.frozenAt (k * 5)
   have hcell := hown.cellAt (k * 5) (by omega)
   rw [exK_cell hlt] at hcell
   have hst := (hown.stored (k * 5) (.int .i64 9)).1
   rw [exK_set hlt] at hst
   have HST := Lib.hid hst
   have HBX := Lib.hid (hb.out.setCell (p := ⟨g, k * 5, none⟩) hgb (.int .i64 9))
   clear hst hown
   go_wp2
   exact ⟨⟨k + 1, by go_num, by omega, HST, HBX⟩, by simp [intOf]; omega⟩
  ·obtain rfl : k = 3 := by omega
   have hN := A.new_yes v (exK 3) wr (CAt.of_own ho.out rfl) exK_wf (by decide) exK_may
   clear HO1 HB1
   go_wp2_with fail
   refine hN.mono ?_
   clear hN
   rintro e w2 ⟨p, S, rfl, hD, hS, hb2⟩
   have c1 := A.kput 1 1 1 p (exK 3) S w2 hD (by decide) (by decide) (by decide)
   rw [exK_put] at c1
   have HB2 := Lib.hid (hb.out.trans (hb2.mono hb.out.size))
   have HS := Lib.hid (fun b h => Nat.le_trans hb.out.size (hS b h))
   clear hS hb2 hD hb ho
   go_wp2_with fail
   refine c1.mono ?_
   clear c1
   rintro e w3 ⟨S2, hk2, rfl⟩
   have HB3 := Lib.hid (HB2.out.trans (hk2.2.2.below HB2.out.size HS.out))
   clear hk2 HS
   unfold mkV
   dsimp only
   have hM := fun W s q => A.kmove 1 1 1 s q 0 1 1 3 ⟨#[120, 121]⟩ (.slice none 0 0) [] W (lenAt_xy W) (SpAt.nil _)
   have h2 := fun W => hM W 2 1 ⟨by decide, by decide, by decide, by decide, by decide⟩ (by decide) (by decide) (by decide) (by decide) (by decide) (by decide) (sWf_may (by decide))
   have h1 := fun W => hM W 1 1 ⟨by decide, by decide, by decide, by decide, by decide⟩ (by decide) (by decide) (by decide) (by decide) (by decide) (by decide) (sWf_may (by decide))
   rw [show (⟨2, 1, 0, 1, 1, (⟨#[120, 121]⟩ : ByteArray).data.toList, []⟩ : POp) = exKA from rfl, exK_moveA] at h2
   rw [show (⟨1, 1, 0, 1, 1, (⟨#[120, 121]⟩ : ByteArray).data.toList, []⟩ : POp) = exKB from rfl, exK_moveB] at h1
   unfold mkA mkV opV at h1 h2
   dsimp only at h1 h2
   clear hM
   go_wp2_with fail
   have hM0 := (Below.heap_alloc (w3.alloc (.cells #[.int .i64 1, .int .i64 1, .int .i64 1] 30)) (.cells #[.int .i64 2, .int .i64 1, .int .i64 0, .int .i64 1, .int .i64 1, .string ⟨#[120, 121]⟩, .slice none 0 0] 50) w3.heap.size (by simp)).trans (heap_alloc_new w3 (.cells #[.int .i64 1, .int .i64 1, .int .i64 1] 30))
   have hO0 := heap_alloc_new (w3.alloc (.cells #[.int .i64 1, .int .i64 1, .int .i64 1] 30)) (.cells #[.int .i64 2, .int .i64 1, .int .i64 0, .int .i64 1, .int .i64 1, .string ⟨#[120, 121]⟩, .slice none 0 0] 50)
   rw [show (w3.alloc (.cells #[.int .i64 1, .int .i64 1, .int .i64 1] 30)).heap.size = w3.heap.size + 1 by simp] at hO0
   have hK0 := (HB3.out.alloc HB3.out.size (.cells #[.int .i64 1, .int .i64 1, .int .i64 1] 30))
   have hK1 := (hK0.alloc hK0.size (.cells #[.int .i64 2, .int .i64 1, .int .i64 0, .int .i64 1, .int .i64 1, .string ⟨#[120, 121]⟩, .slice none 0 0] 50))
   have hsz := HB3.out.size
   generalize hW0 : (w3.alloc (.cells #[.int .i64 1, .int .i64 1, .int .i64 1] 30)).alloc (.cells #[.int .i64 2, .int .i64 1, .int .i64 0, .int .i64 1, .int .i64 1, .string ⟨#[120, 121]⟩, .slice none 0 0] 50) = W0 at hM0 hO0 hK1 ⊢
   clear hW0 hK0
   obtain ⟨B, hBB⟩ : ∃ B, w3.heap.size = B := ⟨_, rfl⟩
   rw [hBB] at hM0 hO0 hsz ⊢
   have HM0 := Lib.hid hM0
   have HO0 := Lib.hid hO0
   have HK1 := Lib.hid hK1
   have HSZ := Lib.hid hsz
   clear hM0 hO0 hK1 hsz hBB HB2 HB3
   refine (h2 _).mono ?_
   clear h2
   rintro e w4 ⟨rfl, hb4⟩
   have hM4 := (hb4.block B (Array.getElem?_eq_some_iff.1 HM0.out).1).trans HM0.out
   have hO4 := (hb4.block (B + 1) (Array.getElem?_eq_some_iff.1 HO0.out).1).trans HO0.out
   have hA4 := heap_alloc_new w4 (.cells #[.int .i64 1, .int .i64 1, .int .i64 1] 30)
   have hM5 := (Below.heap_alloc w4 (.cells #[.int .i64 1, .int .i64 1, .int .i64 1] 30) B (Array.getElem?_eq_some_iff.1 hM4).1).trans hM4
   have hO5 := (Below.heap_alloc w4 (.cells #[.int .i64 1, .int .i64 1, .int .i64 1] 30) (B + 1) (Array.getElem?_eq_some_iff.1 hO4).1).trans hO4
   have hK4 := HK1.out.trans (hb4.mono HK1.out.size)
   have hK5 := hK4.alloc hK4.size (.cells #[.int .i64 1, .int .i64 1, .int .i64 1] 30)
   have hlt4 : B + 1 < w4.heap.size := (Array.getElem?_eq_some_iff.1 hO4).1
   clear hb4 hM4 hO4 hK4 HM0 HO0 HK1
   go_upto_region 10 with fail
   obtain ⟨A, hAA⟩ : ∃ A, w4.heap.size = A := ⟨_, rfl⟩
   rw [hAA] at hA4 hlt4 ⊢
   generalize w4.alloc (.cells #[.int .i64 1, .int .i64 1, .int .i64 1] 30) = w5 at hM5 hO5 hA4 hK5 ⊢
   clear hAA
   have o0 := box_cell hO5 0
   have f0 := box_frozen hO5 0
   have HM6 := Lib.hid ((box_other (w := w5) (B := B + 1) (k := B) (by omega) 0 (.int .i64 1)).trans hM5)
   have HA6 := Lib.hid ((box_other (w := w5) (B := B + 1) (k := A) (by omega) 0 (.int .i64 1)).trans hA4)
   have HO6 := Lib.hid (box_set hO5 0 (.int .i64 1))
   have HK6 := Lib.hid (hK5.setCell (p := ⟨B + 1, 0, none⟩) (by have := HSZ.out; show w.heap.size ≤ B + 1; omega) (.int .i64 1))
   clear hM5 hO5 hA4 hK5
   go_upto_region 11 with fail
   generalize w5.setCell ⟨B + 1, 0, none⟩ (.int .i64 1) = w6 at HM6 HA6 HO6 HK6 ⊢
   clear o0 f0
   have m0 := box_cell HM6.out 0
   have m1 := box_cell HM6.out 1
   have m2 := box_cell HM6.out 2
   have o0 := box_cell HO6.out 0
   have o1 := box_cell HO6.out 1
   have o2 := box_cell HO6.out 2
   have o3 := box_cell HO6.out 3
   have o4 := box_cell HO6.out 4
   have o5 := box_cell HO6.out 5
   have o6 := box_cell HO6.out 6
   go_wp2_with fail
   refine (h1 _).mono ?_
   clear h1
   rintro e w7 ⟨rfl, hb7⟩
   have hA7 := (hb7.block A (Array.getElem?_eq_some_iff.1 HA6.out).1).trans HA6.out
   have hA8 := (Below.heap_alloc w7 (.cells #[.int .i64 1, .int .i64 3, .int .i64 3] 30) A (Array.getElem?_eq_some_iff.1 hA7).1).trans hA7
   have a1 := box_cell hA8 1
   have hK7 := HK6.out.trans (hb7.mono HK6.out.size)
   have hK8 := Lib.hid (hK7.alloc hK7.size (.cells #[.int .i64 1, .int .i64 3, .int .i64 3] 30))
   clear m0 m1 m2 o0 o1 o2 o3 o4 o5 o6 hb7 hA7 hK7 hA8
   go_wp2
   go_ret
   exact ⟨rfl, hK8.out⟩
end Go.Proofs.YtmedickofiielaaGreatDoor

namespace Go.Proofs.YtmedickofiielaaGreatDoor
open Go.RowKit

structure KC extends CC where
 find : ∀ (s q off : Int) (p : Value) (l : List PCell) (S : Nat → Prop) (w : World), D w p l S → (Lit.int .i64 s).wf = true → (Lit.int .i64 q).wf = true → (Lit.int .i64 off).wf = true →
  Calls Tryz.prog 20 #[p, nmV s q, .int .i64 off] w (DVal D p l S (.tuple #[.int .i64 (cFind l s q off).1, .bool (cFind l s q off).2]) w)
 kput : ∀ (s i j : Int) (p : Value) (l : List PCell) (S : Nat → Prop) (w : World), D w p l S → (Lit.int .i64 s).wf = true → (Lit.int .i64 i).wf = true → (Lit.int .i64 j).wf = true →
  Calls Tryz.prog 9 #[p, .int .i64 s, .int .i64 i, .int .i64 j] w (DVal D p l S (mkV (kPut l s i j)) w)
 kput0 : ∀ (s i j : Int) (w : World), (Lit.int .i64 s).wf = true → (Lit.int .i64 i).wf = true → (Lit.int .i64 j).wf = true →
  Calls Tryz.prog 9 #[.pointer none, .int .i64 s, .int .i64 i, .int .i64 j] w (Nothing (mkV (0, 0, 0, 1)) w)
 kshown : ∀ (s a t : Int) (p : Value) (l : List PCell) (S : Nat → Prop) (w : World), D w p l S → (Lit.int .i64 s).wf = true → (Lit.int .i64 a).wf = true → (Lit.int .i64 t).wf = true →
  Calls Tryz.prog 11 #[p, mkA s a t] w (DVal D p l S (shV (kShown l s a t)) w)
 kshown0 : ∀ (s a t : Int) (w : World), (Lit.int .i64 s).wf = true → (Lit.int .i64 a).wf = true → (Lit.int .i64 t).wf = true →
  Calls Tryz.prog 11 #[.pointer none, mkA s a t] w (Nothing (shV (0, 0, 1)) w)
 kmove : ∀ (m1 m2 m3 s q n k a size : Int) (t : ByteArray) (sp : Value) (xs : List Sp) (w : World), LenAt t w → SpAt w sp xs → NWf s q n k a → (Lit.int .i64 m1).wf = true → (Lit.int .i64 m2).wf = true → (Lit.int .i64 m3).wf = true → (Lit.int .i64 size).wf = true → t.size ≤ 1000 → xs.length ≤ 20000 → sWf xs →
  Calls Tryz.prog 19 #[mkA m1 m2 m3, opV s q n k a t sp, .int .i64 size] w (Nothing (mkV (kMove m1 m2 m3 ⟨s, q, n, k, a, t.data.toList, xs⟩ size)) w)
 kbehind : ∀ (s q n k a size : Int) (t : ByteArray) (sp : Value) (xs : List Sp) (w : World), LenAt t w → SpAt w sp xs → NWf s q n k a → (Lit.int .i64 size).wf = true → t.size ≤ 1000 → xs.length ≤ 20000 → sWf xs →
  Calls Tryz.prog 22 #[opV s q n k a t sp, .int .i64 size] w (Nothing (mkV (kBehind ⟨s, q, n, k, a, t.data.toList, xs⟩ size)) w)
 kdrop : ∀ (s a t : Int) (sp : Value) (xs : List Sp) (w : World), SpAt w sp xs → (Lit.int .i64 s).wf = true → (Lit.int .i64 a).wf = true → (Lit.int .i64 t).wf = true → xs.length ≤ 20000 → sWf xs →
  Calls Tryz.prog 13 #[mkA s a t, sp] w (Nothing (mkV (kDrop s a t xs)) w)
def KC.ka (C : KC) (h : ∀ (v : Value) (l : List PCell) (w : World), CAt w v l → CWf l → l.length ≤ 20000 → cMay l = 0 →
  Calls Tryz.prog 16 #[v] w fun e w' => ∃ p S, e = .returned (.tuple #[p, .int .i64 0]) ∧ C.D w' p l S ∧ (∀ b, S b → w.heap.size ≤ b) ∧ Below w.heap.size w w') : KA where
 D := C.D
 new_yes := h
 kput := C.kput
 kmove := C.kmove
end Go.Proofs.YtmedickofiielaaGreatDoor

namespace Go.Proofs.YtmedickofiielaaGreatDoor
open Go.RowKit

structure DBox (C : CC) (N : Nat) (w : World) (p : Value) (l : List PCell) (S : Nat → Prop) (bx : Nat → Option Obj) (W : World) : Prop where
  doc : C.D W p l S
  own : ∀ b, S b → N ≤ b
  up : Below N w W
  size : N ≤ W.heap.size
  box : ∀ b o, bx b = some o → W.heap[b]? = some o ∧ ¬ S b ∧ N ≤ b
theorem DBox.lt {C : CC} {N : Nat} {w : World} {p : Value} {l : List PCell} {S : Nat → Prop} {bx : Nat → Option Obj} {W : World} (h : DBox C N w p l S bx W) {b : Nat} {o : Obj} (hb : bx b = some o) : b < W.heap.size := (Array.getElem?_eq_some_iff.1 (h.box b o hb).1).1
theorem DBox.below {C : CC} {N : Nat} {w : World} {p : Value} {l : List PCell} {S : Nat → Prop} {bx : Nat → Option Obj} {W W' : World} (h : DBox C N w p l S bx W) (hb : Below W.heap.size W W') : DBox C N w p l S bx W' :=
  ⟨C.below h.doc hb, h.own, h.up.trans (hb.mono h.size), Nat.le_trans h.size hb.size, fun b o ho => ⟨(hb.block b (h.lt ho)).trans (h.box b o ho).1, (h.box b o ho).2⟩⟩
theorem DBox.next {C : CC} {N : Nat} {w : World} {p : Value} {l l2 : List PCell} {S S2 : Nat → Prop} {bx : Nat → Option Obj} {W W' : World} (h : DBox C N w p l S bx W) (hk : DKept C.D p l2 S W W' S2) : DBox C N w p l2 S2 bx W' := by
  obtain ⟨q1, q2⟩ := hk.up h.own h.size
  refine ⟨hk.1, q1, h.up.trans q2, Nat.le_trans h.size q2.size, fun b o ho => ⟨(hk.2.2.block b (h.lt ho) (h.box b o ho).2.1).trans (h.box b o ho).1, fun hS => ?_, (h.box b o ho).2.2⟩⟩
  rcases hk.2.1 b hS with q | q
  · exact (h.box b o ho).2.1 q
  · exact Nat.lt_irrefl _ (Nat.lt_of_lt_of_le (h.lt ho) q)
theorem DBox.call {C : CC} {N f : Nat} {args : Array Value} {w : World} {p x : Value} {l l2 : List PCell} {S : Nat → Prop} {bx : Nat → Option Obj} {W : World} (h : DBox C N w p l S bx W) (hc : Calls Tryz.prog f args W (DVal C.D p l2 S x W)) :
    Calls Tryz.prog f args W fun e W' => e = .returned x ∧ ∃ S2, DBox C N w p l2 S2 bx W' := by
  refine hc.mono ?_
  rintro e W' ⟨S2, hk, he⟩
  exact ⟨he, S2, h.next hk⟩
theorem DBox.new {C : CC} {N : Nat} {w : World} {p : Value} {l : List PCell} {S : Nat → Prop} {bx : Nat → Option Obj} {W : World} (h : DBox C N w p l S bx W) (cs : Array Value) (t : TypeId) : DBox C N w p l S (boxAt W.heap.size (.cells cs t (0, 0)) bx) (W.alloc (.cells cs t)) := by
  have h1 := h.below ((Below.refl _ W).alloc (Nat.le_refl _) (.cells cs t))
  refine ⟨h1.doc, h1.own, h1.up, h1.size, fun b o ho => ?_⟩
  unfold boxAt at ho
  by_cases e : b = W.heap.size
  · rw [if_pos e] at ho
    cases ho
    subst e
    exact ⟨heap_alloc_new W _, fun hS => Nat.lt_irrefl _ (C.low h.doc _ hS), h.size⟩
  · rw [if_neg e] at ho
    exact h1.box b o ho
theorem DBox.set {C : CC} {N : Nat} {w : World} {p : Value} {l : List PCell} {S : Nat → Prop} {bx : Nat → Option Obj} {W : World} (h : DBox C N w p l S bx W) {B : Nat} {cs : Array Value} {t : TypeId} (hB : bx B = some (.cells cs t (0, 0))) (i : Nat) (v : Value) :
    DBox C N w p l S (boxAt B (.cells (cs.setIfInBounds i v) t (0, 0)) bx) (W.setCell ⟨B, i, none⟩ v) := by
  obtain ⟨g1, g2, g3⟩ := h.box B _ hB
  have hs : (W.setCell ⟨B, i, none⟩ v).heap.size = W.heap.size := by simp [World.setCell]
  refine ⟨C.keep h.doc (fun b hb => box_other (fun e => g2 (by rw [← e]; exact hb)) i v) (Nat.le_of_eq hs.symm), h.own, h.up.setCell (p := ⟨B, i, none⟩) g3 v, by rw [hs]; exact h.size, fun b o ho => ?_⟩
  unfold boxAt at ho
  by_cases e : b = B
  · rw [if_pos e] at ho
    cases ho
    subst e
    exact ⟨box_set g1 i v, g2, g3⟩
  · rw [if_neg e] at ho
    exact ⟨(box_other e i v).trans (h.box b o ho).1, (h.box b o ho).2⟩
theorem DBox.less {C : CC} {N : Nat} {w : World} {p : Value} {l : List PCell} {S : Nat → Prop} {bx by' : Nat → Option Obj} {W : World} (h : DBox C N w p l S bx W) (hb : ∀ b o, by' b = some o → bx b = some o) : DBox C N w p l S by' W := ⟨h.doc, h.own, h.up, h.size, fun b o ho => h.box b o (hb b o ho)⟩
theorem DOwn.box {C : CC} {N : Nat} {w : World} {p : Value} {l : List PCell} {W : World} (h : DOwn C N w p l W) : ∃ S, DBox C N w p l S noBox W := by
  obtain ⟨S, h1, h2, h3, h4⟩ := h
  exact ⟨S, h1, h2, h3, h4, fun b o ho => by cases ho⟩
set_option maxRecDepth 100000 in
set_option maxHeartbeats 8000000 in
theorem kdoc_any (C : CC) (v : Value) (l : List PCell) (u : Value) (xa : List PAct) (w : World) (hT : TabW w) (h : CAt w v l) (hl : CWf l) (hA : ActsAt w u xa) (hle : l.length ≤ 20000) (hle2 : xa.length ≤ 25) (hg : xa.any aGreat = false) :
    Calls Tryz.prog 8 #[v, u] w fun e w' => (cMay l ≠ 0 ∧ e = .returned (.pointer none) ∧ Below w.heap.size w w') ∨ (cMay l = 0 ∧ ∃ p m, e = .returned p ∧ DOwn C w.heap.size w p m w') := by
  have hNy := fun (q : cMay l = 0) => C.new_yes v l w hT h hl hle q
  have hNn := fun (q : cMay l ≠ 0) => C.new_no v l w hT h hl hle q
  have HA := Lib.hid hA
  have HT := Lib.hid hT
  have HG3 := Lib.hid hg
  obtain ⟨bo, cap, rfl, _, _⟩ := h.shape
  obtain ⟨ao, ac, rfl⟩ := hA.shape
  obtain ⟨M, hM'⟩ : ∃ M, xa.length = M := ⟨_, rfl⟩
  have HM := Lib.hid hM'
  rw [hM'] at hle2 ⊢
  clear hM' hA hT hg h hl hle
  by_cases hm0 : cMay l = 0
  case neg =>
   as_aux_lemma =>
    have hN := hNn hm0
    clear hNy hNn
    have Hm0 := Lib.hid hm0
    obtain ⟨E, hE⟩ : ∃ E, cMay l = E := ⟨_, rfl⟩
    rw [hE] at hN hm0
    have hnb : (E != 0) = true := by simpa using hm0
    clear hE hm0
    go_enter Tryz.func8, Tryz.ntmps8
    go_wp2_with fail
    refine hN.mono ?_
    clear hN
    rintro e w3 ⟨rfl, hb3⟩
    go_wp2
    go_ret
    exact .inl ⟨Hm0.out, rfl, hb3⟩
  case pos =>
    have hN := hNy hm0
    clear hNy hNn
    have Hm0 := Lib.hid hm0
    clear hm0
    go_enter Tryz.func8, Tryz.ntmps8
    go_wp2_with fail
    refine hN.mono ?_
    clear hN
    rintro e w3 ⟨p, S, rfl, hD, hS, hb3⟩
    obtain ⟨B, rfl⟩ := C.ptr hD
    have hP : DOwn C w.heap.size w (.pointer (some ⟨B, 0, none⟩)) l w3 := ⟨S, hD, hS, hb3, hb3.size⟩
    have HP := Lib.hid hP
    clear hb3 hP hD hS
    go_wp2_with fail
    go_loopw [7] (fun i wr => ∃ (k : Nat) (m : List PCell), i = .int .i64 k ∧ k ≤ M ∧ RowKit.Hid (DOwn C w.heap.size w (.pointer (some ⟨B, 0, none⟩)) m wr)) (fun i _ => M - (intOf i).toNat)
    case atStart => exact ⟨0, l, rfl, Nat.zero_le _, HP⟩
    case round =>
      obtain ⟨k, m, rfl, hk, hp⟩ := hrel
      clear HP
      rcases Nat.lt_or_ge k M with hlt | hge
      · as_aux_lemma =>
        obtain ⟨x, hx⟩ := getA_some (l := xa) (k := k) (by rw [HM.out]; omega)
        have hgx : aGreat x = false := by
          cases hq : aGreat x with
          | false => rfl
          | true => have := HG3.out; rw [List.any_eq_true.2 ⟨x, List.mem_of_getElem? hx, hq⟩] at this; cases this
        obtain ⟨hx1, hx2⟩ := aGreat_no hgx
        have hw := (HA.out.mem hx).2
        have hsp := (HA.out.mem hx).1
        have hup := hp.out.up
        obtain ⟨b, off, cp, hv, c0, c1, c2, c3, c4, c5, c6, c7⟩ := (HA.out.below hup).at hx
        rw [HM.out] at hv
        cases hv
        have hi0 : (0 : Int) ≤ (k : Int) ∧ (k : Int) < (M : Int) := ⟨by omega, by omega⟩
        have hdo := hp.out.call fun S h => C.doOp x.site x.seq x.num x.kind x.pl x.text x.sp x.xs _ m S _ h (HT.out.below hup) (hsp.below hup) ⟨hw.s, hw.q, hw.n, hw.k, hw.a⟩ hx2 (by omega) hw.w
        obtain ⟨sa, sc, hsv, _⟩ := id hsp
        unfold opV at hdo
        rw [hsv] at hdo c7
        obtain ⟨⟨m2, e2⟩, hX⟩ : ∃ X, cDo m ⟨x.site, x.seq, x.num, x.kind, x.pl, x.text.data.toList, x.xs⟩ = X := ⟨_, rfl⟩
        rw [hX] at hdo
        have HDO := Lib.hid hdo
        clear hdo hsv hx hgx hw hsp hup hp hX hx1 hx2 c0
        go_wp2_with fail
        refine HDO.out.mono ?_
        rintro e w5 ⟨rfl, h5⟩
        have HN := Lib.hid h5
        clear h5 HDO c1 c2 c3 c4 c5 c6 c7
        go_wp2
        exact ⟨⟨k + 1, _, by go_num, by omega, HN⟩, by simp [intOf]; omega⟩
      · as_aux_lemma =>
        have hk2 : k = M := by omega
        subst hk2
        have hz := hp.out
        clear hp
        go_wp2
        go_ret
        exact .inr ⟨Hm0.out, _, m, rfl, hz⟩
end Go.Proofs.YtmedickofiielaaGreatDoor

namespace Go.Proofs.YtmedickofiielaaGreatDoor
open Go.RowKit

theorem zero_mark (W : World) : (binOp .eql 30 (.agg #[.int .i64 0, .int .i64 0, .int .i64 0]) (.agg #[.int .i64 0, .int .i64 0, .int .i64 0])).run Tryz.prog W = .ok (.bool true) W := mkEqP_eql W 0 0 0 0 0 0 true rfl
theorem kput_no {l : List PCell} {s i j : Int} (h : ¬ (1 ≤ s ∧ s ≤ 16)) : kPut l s i j = (0, 0, 0, 1) := if_neg h
theorem wf_nat {n : Nat} (h : n ≤ 20001) : (Lit.int .i64 (n : Int)).wf = true := by
 rw [Lit.wf_int_iff, show IntKind.i64.min = -9223372036854775808 from by decide, show IntKind.i64.max = 9223372036854775807 from by decide]
 omega
set_option maxRecDepth 100000 in
set_option maxHeartbeats 8000000 in
theorem lawCaretShown_any (A : KA) (C : KC) (v : Value) (l : List PCell) (u : Value) (xa : List PAct) (h0 h1 h2 : Int) (w : World) (hT : TabW w) (h : CAt w v l) (hl : CWf l) (hA : ActsAt w u xa) (wf0 : (Lit.int .i64 h0).wf = true) (wf1 : (Lit.int .i64 h1).wf = true) (wf2 : (Lit.int .i64 h2).wf = true) :
  Calls Tryz.prog 3 #[v, u, .agg #[.int .i64 h0, .int .i64 h1, .int .i64 h2]] w fun e w' => e = .returned (.bool true) ∧ Below w.heap.size w w' := by
 have hAl := fun W => kalive_any A W
 have hG := fun W (hb : Below w.heap.size w W) => cgreat_any v l u xa W (h.below hb) (hA.below hb)
 have hDc := fun W (hb : Below w.heap.size w W) q1 q2 q3 => kdoc_any C.toCC v l u xa W (hT.below hb) (h.below hb) hl (hA.below hb) q1 q2 q3
 obtain ⟨bo, cap, rfl, _, _⟩ := h.shape
 obtain ⟨ao, ac, rfl⟩ := hA.shape
 obtain ⟨L, hL⟩ : ∃ L, l.length = L := ⟨_, rfl⟩
 obtain ⟨M, hM'⟩ : ∃ M, xa.length = M := ⟨_, rfl⟩
 rw [hL] at hG hDc ⊢
 rw [hM'] at hG hDc ⊢
 have HL := Lib.hid hL
 have HM := Lib.hid hM'
 have HG := Lib.hid hG
 have HDc := Lib.hid hDc
 have Hb0 : RowKit.Hid (Below w.heap.size w (w.alloc (.cells #[.int .i64 h0, .int .i64 h1, .int .i64 h2] 24))) := Lib.hid ((Below.refl _ w).alloc (Nat.le_refl _) _)
 have HR0 := Lib.hid (heap_alloc_new w (.cells #[.int .i64 h0, .int .i64 h1, .int .i64 h2] 24))
 have W0 := Lib.hid wf0
 have W1 := Lib.hid wf1
 have W2 := Lib.hid wf2
 clear hL hM' hG hDc h hA hT hl wf0 wf1 wf2
 go_enter Tryz.func3, Tryz.ntmps3
 go_wp2_with fail
 refine (hAl _).mono ?_
 clear hAl
 rintro e w1 ⟨rfl, hb1⟩
 have Hb1 := Lib.hid (Hb0.out.trans (hb1.mono Hb0.out.size))
 have HR1 := Lib.hid ((hb1.block w.heap.size (Array.getElem?_eq_some_iff.1 HR0.out).1).trans HR0.out)
 have hG := HG.out w1 Hb1.out
 clear HG hb1 Hb0 HR0
 go_wp2_with fail
 refine hG.mono ?_
 clear hG
 rintro e w2 ⟨rfl, hb2⟩
 have Hb2 := Lib.hid (Hb1.out.trans (hb2.mono Hb1.out.size))
 have HR2 := Lib.hid ((hb2.block w.heap.size (Array.getElem?_eq_some_iff.1 HR1.out).1).trans HR1.out)
 clear hb2 Hb1 HR1
 cases hgr : cGreat l xa with
 | true =>
  have hb2 := Hb2.out
  clear hgr
  go_wp2
  go_ret
  exact ⟨rfl, hb2⟩
 | false =>
  unfold cGreat at hgr
  rw [Bool.or_eq_false_iff, Bool.or_eq_false_iff, decide_eq_false_iff_not, decide_eq_false_iff_not, HL.out, HM.out] at hgr
  obtain ⟨g1, g2, g3⟩ := hgr
  have hd := HDc.out w2 Hb2.out (by omega) (by omega) g3
  clear HDc g1 g2 g3
  go_wp2_with fail
  refine hd.mono ?_
  clear hd
  rintro e w3 (⟨hm0, rfl, hb3⟩ | ⟨hm0, p, m, rfl, hP⟩)
  ·as_aux_lemma =>
   have hR3 := (hb3.block w.heap.size (Array.getElem?_eq_some_iff.1 HR2.out).1).trans HR2.out
   have b0 := box_cell hR3 0
   have b1 := box_cell hR3 1
   have b2 := box_cell hR3 2
   have Hb3 := Lib.hid (Hb2.out.trans (hb3.mono Hb2.out.size))
   clear hb3 hR3 HR2 Hb2 hm0
   go_wp2_with fail
   go_quiet (fail)
   clear b0 b1 b2
   have c1 := C.kput0 h0 h1 h2 (w3.drewN nq) W0.out W1.out W2.out
   have hb4 := below_draws Hb3.out nq
   have Hb4 := Lib.hid hb4
   clear hb4 Hb3
   unfold mkV at c1
   dsimp only at c1
   go_wp2_with fail
   refine c1.mono ?_
   clear c1
   rintro e w5 ⟨rfl, hb5⟩
   have hz := Hb4.out.trans (hb5.mono Hb4.out.size)
   have Hz := Lib.hid (hz.alloc hz.size (.cells #[.int .i64 0, .int .i64 0, .int .i64 0] 30))
   have hq := fun W => zero_mark W
   clear hz hb5
   go_wp2
   go_ret
   exact ⟨rfl, Hz.out⟩
  ·obtain ⟨B, rfl⟩ := hP.ptr
   have hR3 := (hP.up.block w.heap.size (by exact (Array.getElem?_eq_some_iff.1 HR2.out).1)).trans HR2.out
   have b0 := box_cell hR3 0
   have b1 := box_cell hR3 1
   have b2 := box_cell hR3 2
   have HP := Lib.hid hP
   clear hR3 HR2 hm0 hP
   go_wp2_with fail
   go_quiet (fail)
   clear b0 b1 b2
   obtain ⟨S, hd⟩ := (HP.out.below (below_draws (Below.refl _ _) nq)).box
   have hle := cMay_le (C.may hd.doc)
   have c1 := hd.call (C.kput h0 h1 h2 _ m S _ hd.doc W0.out W1.out W2.out)
   have Hle := Lib.hid hle
   clear hd HP hle
   generalize w3.drewN nq = w4 at c1 ⊢
   by_cases hs : 1 ≤ h0 ∧ h0 ≤ 16
   case neg => as_aux_lemma =>
    rw [kput_no hs] at c1
    unfold mkV at c1
    dsimp only at c1
    have hq := fun W => zero_mark W
    have hs1 : ¬ h0 < 1 → 16 < h0 := by omega
    clear Hle
    go_wp2_with fail
    refine c1.mono ?_
    clear c1
    rintro e w5 ⟨rfl, S5, hd5⟩
    have hz := (hd5.new #[.int .i64 0, .int .i64 0, .int .i64 0] 30).up
    have Hz := Lib.hid (Hb2.out.trans (hz.mono Hb2.out.size))
    clear hd5 hz hs
    by_cases hs2 : h0 < 1
    ·clear hs1
     go_wp2
     go_ret
     exact ⟨rfl, Hz.out⟩
    ·have hs3 : 16 < h0 := hs1 (by omega)
     clear hs1
     go_wp2
     go_ret
     exact ⟨rfl, Hz.out⟩
   case pos =>
    rcases put_cases m h0 h1 h2 hs with ⟨hno, hput⟩ | ⟨p, q, hok, hp, hq', hsp, hsq, hput⟩
    ·as_aux_lemma =>
     rw [hput] at c1
     unfold mkV at c1
     dsimp only at c1
     have hq := fun W => zero_mark W
     obtain ⟨hs1, hs2⟩ := hs
     have hs1' : ¬ h0 < 1 := by omega
     have hs2' : ¬ 16 < h0 := by omega
     obtain ⟨n, hn⟩ : ∃ n, cLive m = n := ⟨_, rfl⟩
     rw [hn] at hno
     have Hn := Lib.hid hn
     clear hn hs1 hs2 Hle hput
     go_wp2_with fail
     refine c1.mono ?_
     clear c1
     rintro e w5 ⟨rfl, S5, hd5⟩
     have HD6 := Lib.hid (hd5.new #[.int .i64 0, .int .i64 0, .int .i64 0] 30)
     clear hd5
     go_upto_region 10 with fail
     obtain ⟨B2, hB2⟩ : ∃ B2, w5.heap.size = B2 := ⟨_, rfl⟩
     rw [hB2] at HD6 ⊢
     generalize w5.alloc (.cells #[.int .i64 0, .int .i64 0, .int .i64 0] 30) = w6 at HD6 ⊢
     clear hB2
     have c2 := HD6.out.call (C.live _ m S5 w6 HD6.out.doc)
     rw [Hn.out] at c2
     clear HD6
     go_wp2_with fail
     refine c2.mono ?_
     clear c2
     rintro e w7 ⟨rfl, S7, hd7⟩
     have hm := (hd7.box B2 _ (boxAt_same _ _ _)).1
     have c0 := box_cell hm 0
     have c1 := box_cell hm 1
     have c2 := box_cell hm 2
     have Hz := Lib.hid (Hb2.out.trans (hd7.up.mono Hb2.out.size))
     clear hm hd7
     by_cases k1 : h1 < 0
     ·clear hno
      go_wp2
      go_ret
      exact ⟨rfl, Hz.out⟩
     ·by_cases k2 : (n : Int) < h1
      ·clear hno
       go_wp2
       go_ret
       exact ⟨rfl, Hz.out⟩
      ·by_cases k3 : h2 < 0
       ·clear hno
        go_wp2
        go_ret
        exact ⟨rfl, Hz.out⟩
       ·have k4 : (n : Int) < h2 := by omega
        clear hno
        go_wp2
        go_ret
        exact ⟨rfl, Hz.out⟩
    ·rw [hput] at c1
     unfold mkV at c1
     dsimp only at c1
     obtain ⟨hs1, hs2⟩ := id hs
     have Hs := Lib.hid hs
     have hs1' : ¬ h0 < 1 := by omega
     have hs2' : ¬ 16 < h0 := by omega
     obtain ⟨n, hn⟩ : ∃ n, cLive m = n := ⟨_, rfl⟩
     rw [hn] at hok
     have k1 : ¬ h1 < 0 := by omega
     have k2 : ¬ (n : Int) < h1 := by omega
     have k3 : ¬ h2 < 0 := by omega
     have k4 : ¬ (n : Int) < h2 := by omega
     obtain ⟨e1, e2, e3⟩ := drop_shown (l := m) Hle.out Hs.out hp hq'
     have e0 : kShown m h0 p q = (h1, h2, 0) := by
      unfold kShown
      rw [(kMay_iff _ _ _ _).2 (by have := Hle.out; omega), if_pos rfl, Int.toNat_natCast, Int.toNat_natCast, hsp, hsq]
     rw [hsp, hsq] at e1 e2
     have E0 := Lib.hid e0
     have E1 := Lib.hid e1
     have E2 := Lib.hid e2
     have E3 := Lib.hid e3
     have wfp := wf_nat (n := p) (by have := Hle.out; omega)
     have wfq := wf_nat (n := q) (by have := Hle.out; omega)
     have WP := Lib.hid wfp
     have WQ := Lib.hid wfq
     have Hn := Lib.hid hn
     clear hn hs1 hs2 hs hput hok e0 e1 e2 e3 hsp hsq wfp wfq hp hq'
     go_wp2_with fail
     refine c1.mono ?_
     clear c1
     rintro e w5 ⟨rfl, S5, hd5⟩
     have HD6 := Lib.hid (hd5.new #[.int .i64 h0, .int .i64 p, .int .i64 q] 30)
     clear hd5
     go_upto_region 10 with fail
     obtain ⟨B2, hB2⟩ : ∃ B2, w5.heap.size = B2 := ⟨_, rfl⟩
     rw [hB2] at HD6 ⊢
     generalize w5.alloc (.cells #[.int .i64 h0, .int .i64 p, .int .i64 q] 30) = w6 at HD6 ⊢
     clear hB2
     have c2 := HD6.out.call (C.live _ m S5 w6 HD6.out.doc)
     rw [Hn.out] at c2
     clear HD6
     go_wp2_with fail
     refine c2.mono ?_
     clear c2
     rintro e w7 ⟨rfl, S7, hd7⟩
     have hm := (hd7.box B2 _ (boxAt_same _ _ _)).1
     have c0 := box_cell hm 0
     have c1 := box_cell hm 1
     have c2 := box_cell hm 2
     have c3 := hd7.call (C.kshown h0 p q _ m S7 w7 hd7.doc W0.out WP.out WQ.out)
     rw [E0.out] at c3
     unfold mkA shV at c3
     dsimp only at c3
     clear hd7 hm
     go_wp2_with fail
     refine c3.mono ?_
     clear c0 c1 c2 c3
     rintro e w8 ⟨rfl, S8, hd8⟩
     have hm := (hd8.box B2 _ (boxAt_same _ _ _)).1
     have c0 := box_cell hm 0
     have HD8 := Lib.hid hd8
     have c4 := C.gone _ m S8 w8 hd8.doc
     clear hd8 hm
     go_wp2_with fail
     refine c4.mono ?_
     clear c4 c0
     rintro e w9 ⟨gv, S9, rfl, hk9, hg9⟩
     have hd9 := HD8.out.next hk9
     have hm := (hd9.box B2 _ (boxAt_same _ _ _)).1
     have c0 := box_cell hm 0
     have c1 := box_cell hm 1
     have c2 := box_cell hm 2
     have c5 := C.kdrop h0 p q gv (cGone m) w9 hg9 W0.out WP.out WQ.out (cGone_length m) (cGone_wf m)
     rw [E1.out] at c5
     unfold mkA mkV at c5
     dsimp only at c5
     have HD9 := Lib.hid hd9
     have HG9 := Lib.hid hg9
     obtain ⟨ga, gc, rfl, _⟩ := id hg9
     clear hd9 hg9 hk9 HD8 hm
     go_wp2_with fail
     refine c5.mono ?_
     clear c5 c0 c1 c2
     rintro e wa ⟨rfl, hba⟩
     have HDa := Lib.hid ((HD9.out.below hba).new #[.int .i64 h0, .int .i64 h1, .int .i64 h2] 30)
     have HGa := Lib.hid ((HG9.out.below hba).below ((Below.refl _ wa).alloc (Nat.le_refl _) (.cells #[.int .i64 h0, .int .i64 h1, .int .i64 h2] 30)))
     have HLT := Lib.hid (show B2 < wa.heap.size from (HD9.out.below hba).lt (boxAt_same B2 _ _))
     clear hba HD9 HG9
     go_upto_region 18 with fail
     obtain ⟨B3, hB3⟩ : ∃ B3, wa.heap.size = B3 := ⟨_, rfl⟩
     have HNE := Lib.hid (show B2 ≠ B3 from fun e => by have := HLT.out; rw [hB3] at this; omega)
     rw [hB3] at HDa ⊢
     generalize wa.alloc (.cells #[.int .i64 h0, .int .i64 h1, .int .i64 h2] 30) = wb at HDa HGa ⊢
     clear hB3 HLT
     have c6 := HDa.out.call (C.drop _ (cGone m) _ m S9 wb HDa.out.doc HGa.out (cGone_wf m) (cGone_length m))
     rw [E3.out] at c6
     obtain ⟨m2, hm2⟩ : ∃ m2, (cDrop m (cGone m)).1 = m2 := ⟨_, rfl⟩
     rw [hm2] at c6
     have E2' := E2.out
     rw [hm2] at E2'
     have E4 := Lib.hid E2'
     clear HGa HDa E2' E2 E3 hm2
     go_wp2_with fail
     refine c6.mono ?_
     clear c6
     rintro e wc ⟨rfl, Sc, hdc⟩
     have hmx := (hdc.box B3 _ (boxAt_same _ _ _)).1
     have c0 := box_cell hmx 0
     have c1 := box_cell hmx 1
     have c2 := box_cell hmx 2
     have hle2 := cMay_le (C.may hdc.doc)
     have Hle2 := Lib.hid hle2
     have c7 := hdc.call (C.kshown h0 h1 h2 _ m2 Sc wc hdc.doc W0.out W1.out W2.out)
     rw [E4.out] at c7
     unfold mkA shV at c7
     dsimp only at c7
     clear hdc hmx hle2
     go_wp2_with fail
     refine c7.mono ?_
     clear c7 c0 c1 c2
     rintro e wd ⟨rfl, Sd, hdd⟩
     have hmx := (hdd.box B2 _ ((boxAt_other HNE.out _ _).trans (boxAt_same _ _ _))).1
     have c0 := box_cell hmx 0
     have c1 := box_cell hmx 1
     have c2 := box_cell hmx 2
     have c8 := C.kshown0 h0 p q wd W0.out WP.out WQ.out
     unfold mkA shV at c8
     dsimp only at c8
     have HDd := Lib.hid hdd
     clear hdd hmx
     go_wp2_with fail
     refine c8.mono ?_
     clear c8 c0 c1 c2
     rintro e we ⟨rfl, hbe⟩
     have hde := HDd.out.below hbe
     have c9 := hde.call (C.size _ m2 Sd we hde.doc)
     clear hde hbe HDd
     go_wp2_with fail
     refine c9.mono ?_
     clear c9
     rintro e wf ⟨rfl, Sf, hdf⟩
     obtain ⟨n2, hn2⟩ : ∃ n2, m2.length = n2 := ⟨_, rfl⟩
     have hn2' : n2 ≤ 20000 := by rw [← hn2]; exact Hle2.out
     have hw : IntKind.i64.wrap ((n2 : Int) + 1) = (n2 : Int) + 1 := by simp only [IntKind.wrap_i64]; omega
     have ca := hdf.call (C.kshown h0 ((n2 : Int) + 1) 0 _ m2 Sf wf hdf.doc W0.out (by have := wf_nat (n := n2 + 1) (by omega); rwa [Int.natCast_add] at this) (by decide))
     have hks : kShown m2 h0 ((n2 : Int) + 1) 0 = (0, 0, 1) := by
      unfold kShown
      rw [if_neg]
      intro h
      have := (kMay_iff _ _ _ _).1 h
      rw [hn2] at this
      omega
     rw [hks] at ca
     rw [hn2]
     unfold mkA shV at ca
     dsimp only at ca
     clear hdf hks hn2
     go_wp2_with fail
     refine ca.mono ?_
     clear ca
     rintro e wg ⟨rfl, Sg, hdg⟩
     have Hz := Lib.hid (Hb2.out.trans (hdg.up.mono Hb2.out.size))
     clear hdg hw
     go_wp2
     go_ret
     exact ⟨rfl, Hz.out⟩
end Go.Proofs.YtmedickofiielaaGreatDoor

namespace Go.Proofs.YtmedickofiielaaGreatDoor
open Go.RowKit

theorem wf_small {n : Int} (h : -30000 ≤ n ∧ n ≤ 30000) : (Lit.int .i64 n).wf = true := by
 rw [Lit.wf_int_iff, show IntKind.i64.min = -9223372036854775808 from by decide, show IntKind.i64.max = 9223372036854775807 from by decide]
 omega
theorem cell_nums {l : List PCell} (h : cMay l = 0) {k : Nat} {c : PCell} (hc : l[k]? = some c) : (Lit.int .i64 c.site).wf = true ∧ (Lit.int .i64 c.seq).wf = true ∧ (Lit.int .i64 c.off).wf = true := by
 have := (List.all_eq_true.1 (cMay_ok h).1) c (List.mem_of_getElem? hc)
 unfold cellOk nMay at this
 simp only [Bool.and_eq_true, decide_eq_true_eq] at this
 simp only [Lit.wf, Bool.and_eq_true, decide_eq_true_eq, show IntKind.i64.min = -9223372036854775808 from rfl, show IntKind.i64.max = 9223372036854775807 from rfl]
 omega
theorem boxes_turn {M NB : Nat} (h : M ≠ NB) (a b : Obj) : ∀ k o, boxAt M a (boxAt NB b noBox) k = some o → boxAt NB b (boxAt M a noBox) k = some o := by
 intro k o hk
 unfold boxAt at *
 by_cases h1 : k = M
 ·rw [if_pos h1] at hk
  rw [if_neg (fun e => h (h1.symm.trans e)), if_pos h1]
  exact hk
 ·rw [if_neg h1] at hk
  by_cases h2 : k = NB
  ·rw [if_pos h2] at hk ⊢
   exact hk
  ·rw [if_neg h2] at hk
   rw [if_neg h2, if_neg h1]
   exact hk
theorem two_boxes {M NB : Nat} (h : M ≠ NB) (a b : Obj) : boxAt M a (boxAt NB b noBox) M = some a ∧ boxAt M a (boxAt NB b noBox) NB = some b := ⟨boxAt_same _ _ _, (boxAt_other (fun e => h e.symm) _ _).trans (boxAt_same _ _ _)⟩
theorem name_set {C : CC} {N : Nat} {w : World} {p : Value} {l : List PCell} {S : Nat → Prop} {W : World} {M NB : Nat} {P : Nat} {s q : Int} (hne : M ≠ NB) (h : DBox C N w p l S (boxAt M (.cells #[.int .i64 9, .int .i64 P, .int .i64 P] 30 (0, 0)) (boxAt NB (.cells #[.int .i64 s, .int .i64 q] 46 (0, 0)) noBox)) W) (s' q' : Int) :
  DBox C N w p l S (boxAt M (.cells #[.int .i64 9, .int .i64 P, .int .i64 P] 30 (0, 0)) (boxAt NB (.cells #[.int .i64 s', .int .i64 q'] 46 (0, 0)) noBox)) ((W.setCell ⟨NB, 0, none⟩ (.int .i64 s')).setCell ⟨NB, 1, none⟩ (.int .i64 q')) := by
 have h1 := (h.set (two_boxes hne _ _).2 0 (.int .i64 s')).set (boxAt_same _ _ _) 1 (.int .i64 q')
 refine h1.less fun k o hk => ?_
 have e : (((#[.int .i64 s, .int .i64 q] : Array Value).setIfInBounds 0 (.int .i64 s')).setIfInBounds 1 (.int .i64 q')) = #[.int .i64 s', .int .i64 q'] := rfl
 rw [e]
 unfold boxAt at *
 by_cases h1 : k = M
 ·rw [if_pos h1] at hk
  rw [if_neg (fun e => hne (h1.symm.trans e)), if_neg (fun e => hne (h1.symm.trans e)), if_pos h1]
  exact hk
 ·rw [if_neg h1] at hk
  by_cases h2 : k = NB
  ·rw [if_pos h2] at hk ⊢
   exact hk
  ·rw [if_neg h2] at hk
   cases hk
theorem mark_set {C : CC} {N : Nat} {w : World} {p : Value} {l : List PCell} {S : Nat → Prop} {bx : Nat → Option Obj} {W : World} {M : Nat} {x y z : Value} (h : DBox C N w p l S bx W) (hM : bx M = some (.cells #[x, y, z] 30 (0, 0))) (a b c : Int) :
  DBox C N w p l S (boxAt M (.cells #[.int .i64 a, .int .i64 b, .int .i64 c] 30 (0, 0)) bx) (((W.setCell ⟨M, 0, none⟩ (.int .i64 a)).setCell ⟨M, 1, none⟩ (.int .i64 b)).setCell ⟨M, 2, none⟩ (.int .i64 c)) := by
 have h1 := ((h.set hM 0 (.int .i64 a)).set (boxAt_same _ _ _) 1 (.int .i64 b)).set (boxAt_same _ _ _) 2 (.int .i64 c)
 refine h1.less fun k o hk => ?_
 have e : ((((#[x, y, z] : Array Value).setIfInBounds 0 (.int .i64 a)).setIfInBounds 1 (.int .i64 b)).setIfInBounds 2 (.int .i64 c)) = #[.int .i64 a, .int .i64 b, .int .i64 c] := rfl
 rw [e]
 unfold boxAt at *
 by_cases h2 : k = M
 ·rw [if_pos h2] at hk ⊢
  exact hk
 ·rw [if_neg h2] at hk
  rw [if_neg h2, if_neg h2, if_neg h2]
  exact hk
set_option maxRecDepth 100000 in
set_option maxHeartbeats 8000000 in
theorem lawCaretStays_any (A : KA) (C : KC) (v : Value) (l : List PCell) (u : Value) (xa : List PAct) (h0 : Int) (w : World) (hT : TabW w) (h : CAt w v l) (hl : CWf l) (hA : ActsAt w u xa) (wf0 : (Lit.int .i64 h0).wf = true) :
  Calls Tryz.prog 4 #[v, u, .int .i64 h0] w fun e w' => e = .returned (.bool true) ∧ Below w.heap.size w w' := by
 have hAl := fun W => kalive_any A W
 have hG := fun W (hb : Below w.heap.size w W) => cgreat_any v l u xa W (h.below hb) (hA.below hb)
 have hNy := fun W (hb : Below w.heap.size w W) q1 q2 => C.new_yes v l W (hT.below hb) (h.below hb) hl q1 q2
 have hNn := fun W (hb : Below w.heap.size w W) q1 q2 => C.new_no v l W (hT.below hb) (h.below hb) hl q1 q2
 have hLv := fun W (hb : Below w.heap.size w W) q => rLive_any v l W (h.below hb) q
 have H := Lib.hid h
 have HA := Lib.hid hA
 have HT := Lib.hid hT
 obtain ⟨bo, cap, rfl, _, _⟩ := h.shape
 obtain ⟨ao, ac, rfl⟩ := hA.shape
 obtain ⟨L, hL⟩ : ∃ L, l.length = L := ⟨_, rfl⟩
 have HL := Lib.hid hL
 obtain ⟨Mx, hM'⟩ : ∃ Mx, xa.length = Mx := ⟨_, rfl⟩
 have HM := Lib.hid hM'
 rw [hL] at hG hNy hNn hLv ⊢
 rw [hM'] at hG ⊢
 have HG := Lib.hid hG
 have HNy := Lib.hid hNy
 have HNn := Lib.hid hNn
 have HLv := Lib.hid hLv
 have W0 := Lib.hid wf0
 clear hL hM' hG hNy hNn h hA hT hl hLv wf0
 go_enter Tryz.func4, Tryz.ntmps4
 go_wp2_with fail
 refine (hAl _).mono ?_
 clear hAl
 rintro e w1 ⟨rfl, hb1⟩
 have Hb1 := Lib.hid hb1
 have hG := HG.out w1 Hb1.out
 clear HG hb1
 go_wp2_with fail
 refine hG.mono ?_
 clear hG
 rintro e w2 ⟨rfl, hb2⟩
 have hb2 := Hb1.out.trans (hb2.mono Hb1.out.size)
 have Hb2 := Lib.hid hb2
 cases hgr : cGreat l xa with
 | true =>
  clear hgr
  go_wp2
  go_ret
  exact ⟨rfl, hb2⟩
 | false =>
  unfold cGreat at hgr
  rw [Bool.or_eq_false_iff, Bool.or_eq_false_iff, decide_eq_false_iff_not, decide_eq_false_iff_not, HL.out, HM.out] at hgr
  obtain ⟨g1, g2, g3⟩ := hgr
  have HG3 := Lib.hid g3
  by_cases hm0 : cMay l = 0
  case neg => as_aux_lemma =>
   have hN := HNn.out w2 hb2 (by omega) hm0
   clear HNy HNn g3 hb2
   obtain ⟨E, hE⟩ : ∃ E, cMay l = E := ⟨_, rfl⟩
   rw [hE] at hN hm0
   have hnb : (E != 0) = true := by simpa using hm0
   clear hE
   go_wp2_with fail
   refine hN.mono ?_
   clear hN
   rintro e w3 ⟨rfl, hb3⟩
   have hb3 := Hb2.out.trans (hb3.mono Hb2.out.size)
   go_wp2
   go_ret
   exact ⟨rfl, hb3⟩
  case pos =>
   have hN := HNy.out w2 hb2 (by omega) hm0
   have Hm0 := Lib.hid hm0
   clear HNy HNn g3 hb2
   go_wp2_with fail
   refine hN.mono ?_
   clear hN
   rintro e w3 ⟨p, S, rfl, hD, hS, hb3⟩
   obtain ⟨B, rfl⟩ := C.ptr hD
   have hP : DBox C.toCC w2.heap.size w2 (.pointer (some ⟨B, 0, none⟩)) l S noBox w3 := ⟨hD, hS, hb3, hb3.size, fun b o ho => by cases ho⟩
   have c1 := hP.call (C.kput 9 h0 h0 _ l S w3 hD (by decide) W0.out W0.out)
   clear hb3 hP hD hS hm0
   rcases put_one l 9 h0 (by decide) with ⟨hno, hput⟩ | ⟨P, hok, hp, hsp, hput⟩
   ·as_aux_lemma =>
    rw [hput] at c1
    unfold mkV at c1
    dsimp only at c1
    obtain ⟨n, hn⟩ : ∃ n, cLive l = n := ⟨_, rfl⟩
    have hlv := fun W hb => HLv.out W hb (by omega)
    rw [hn] at hno hlv
    clear hput HLv hn
    go_wp2_with fail
    refine c1.mono ?_
    clear c1
    rintro e w4 ⟨rfl, S4, hd4⟩
    have Hz := Lib.hid (Hb2.out.trans ((hd4.new #[.int .i64 0, .int .i64 0, .int .i64 0] 30).up.mono Hb2.out.size))
    clear hd4
    by_cases k1 : h0 < 0
    ·clear hno hlv
     go_wp2
     go_ret
     exact ⟨rfl, Hz.out⟩
    ·have k2 : (n : Int) < h0 := by omega
     clear hno
     go_wp2_with fail
     refine (hlv _ Hz.out).mono ?_
     clear hlv
     rintro e _ ⟨rfl, rfl⟩
     go_wp2
     go_ret
     exact ⟨rfl, Hz.out⟩
   ·rw [hput] at c1
    unfold mkV at c1
    dsimp only at c1
    have Hp := Lib.hid hp
    clear hput HLv hok hsp hp
    go_wp2_with fail
    refine c1.mono ?_
    clear c1
    rintro e w4 ⟨rfl, S4, hd4⟩
    have hD5 := (hd4.new #[.int .i64 9, .int .i64 P, .int .i64 P] 30).new #[.int .i64 0, .int .i64 0] 46
    rw [show (w4.alloc (.cells #[.int .i64 9, .int .i64 P, .int .i64 P] 30)).heap.size = w4.heap.size + 1 by simp] at hD5
    have HD5 := Lib.hid hD5
    clear hd4 hD5
    go_upto_region 13 with fail
    obtain ⟨M, hMM⟩ : ∃ M, w4.heap.size = M := ⟨_, rfl⟩
    rw [hMM] at HD5 ⊢
    generalize (w4.alloc (.cells #[.int .i64 9, .int .i64 P, .int .i64 P] 30)).alloc (.cells #[.int .i64 0, .int .i64 0] 46) = w5 at HD5 ⊢
    clear hMM
    obtain ⟨NB, hNB⟩ : ∃ NB, M + 1 = NB := ⟨_, rfl⟩
    have HNE := Lib.hid (show M ≠ NB by omega)
    rw [hNB] at HD5 ⊢
    clear hNB
    have HDX : RowKit.Hid (DBox C.toCC w2.heap.size w2 (.pointer (some ⟨B, 0, none⟩)) l S4 (boxAt M (.cells #[.int .i64 9, .int .i64 P, .int .i64 P] 30 (0, 0)) (boxAt NB (.cells #[.int .i64 0, .int .i64 0] 46 (0, 0)) noBox)) w5) := Lib.hid (HD5.out.less (boxes_turn HNE.out _ _))
    clear HD5
    have hm := (HDX.out.box M _ (two_boxes HNE.out _ _).1).1
    have c1 := box_cell hm 1
    clear hm
    by_cases hP0 : P = 0
    focus
     have c2 : ¬ (0 : Int) < (P : Int) := by omega
     go_upto_region 15 with fail
     obtain ⟨off, hoff⟩ : ∃ off : Int, (-1 : Int) = off := ⟨_, rfl⟩
     rw [hoff]
     obtain ⟨s, q, HST, HD⟩ : ∃ s q : Int, RowKit.Hid (Stands l s q off P ∧ (Lit.int .i64 s).wf = true ∧ (Lit.int .i64 q).wf = true ∧ (Lit.int .i64 off).wf = true) ∧ RowKit.Hid (∃ S, DBox C.toCC w2.heap.size w2 (.pointer (some ⟨B, 0, none⟩)) l S (boxAt M (.cells #[.int .i64 9, .int .i64 P, .int .i64 P] 30 (0, 0)) (boxAt NB (.cells #[.int .i64 s, .int .i64 q] 46 (0, 0)) noBox)) w5) :=
      ⟨0, 0, Lib.hid ⟨.inl ⟨by omega, hP0⟩, by decide, by decide, by rw [← hoff]; decide⟩, Lib.hid ⟨_, HDX.out⟩⟩
     clear hoff HDX c1 c2 hP0
     revert HD
     generalize w5 = w6
     intro HD
    rotate_left
    focus
     have c2 : (0 : Int) < (P : Int) := by omega
     obtain ⟨c, hc, hst⟩ := Stands.put Hm0.out hP0 Hp.out
     have hcn := cell_nums Hm0.out hc
     obtain ⟨b, off', cp, hv, d0, d1, d2, d3, d4⟩ := H.out.at hc
     rw [HL.out] at hv
     cases hv
     have hw : IntKind.i64.wrap ((P : Int) - 1) = ((P - 1 : Nat) : Int) := by rw [show (P : Int) - 1 = ((P - 1 : Nat) : Int) by omega]; exact IntWalk.i64_in _ (by have := Hp.out; rw [HL.out] at this; omega)
     have hi0 : (0 : Int) ≤ ((P - 1 : Nat) : Int) ∧ ((P - 1 : Nat) : Int) < (L : Int) := ⟨by omega, by have := Hp.out; rw [HL.out] at this; omega⟩
     have HST0 := Lib.hid (And.intro hst hcn)
     have HC := Lib.hid (show ∀ X, Below w.heap.size w X → X.cell? ⟨b, off' + (P - 1) * 5, none⟩ = some (.int .i64 c.site) ∧ X.cell? ⟨b, off' + (P - 1) * 5 + 1, none⟩ = some (.int .i64 c.seq) ∧ X.cell? ⟨b, off' + (P - 1) * 5 + 2, none⟩ = some (.int .i64 c.off) from fun X hX => ⟨cell_stays hX d0, cell_stays hX d1, cell_stays hX d2⟩)
     clear hst hcn hc d0 d1 d2 d3 d4
     obtain ⟨P1, hP1⟩ : ∃ P1, P - 1 = P1 := ⟨_, rfl⟩
     rw [hP1] at hw hi0 HC
     clear hP1
     go_upto_region 14 with fail
     refine wp_region_held_drew (S := fun X => ∃ sx qx : Int, DBox C.toCC w2.heap.size w2 (.pointer (some ⟨B, 0, none⟩)) l S4 (boxAt M (.cells #[.int .i64 9, .int .i64 P, .int .i64 P] 30 (0, 0)) (boxAt NB (.cells #[.int .i64 sx, .int .i64 qx] 46 (0, 0)) noBox)) X) (by kernel_rfl) ⟨_, _, HDX.out.below (Below.refl _ _).drew⟩ (fun hHeld => ?_)
     refine tk0 (i := 0) rfl ?_
     try simp only [td]
     refine tk0 (i := 1) rfl ?_
     try simp only [td]
     refine tk (i := 2) (v := ?_) rfl (Or.inl ⟨rfl, ?hy3⟩) ?_
     case hy3 =>
      intro W hS
      obtain ⟨sx, qx, hDx⟩ := hS
      have m1 := box_cell (hDx.box M _ (two_boxes HNE.out _ _).1).1 1
      obtain ⟨y0, y1, y2⟩ := HC.out W (Hb2.out.trans (hDx.up.mono Hb2.out.size))
      clear hDx
      go_simp
      try with_reducible rfl
     try simp only [td]
     refine tk0 (i := 3) rfl ?_
     try simp only [td]
     refine tk0 (i := 4) rfl ?_
     try simp only [td]
     refine tk0 (i := 5) rfl ?_
     try simp only [td]
     refine tk (i := 6) (v := ?_) rfl (Or.inl ⟨rfl, ?hy7⟩) ?_
     case hy7 =>
      intro W hS
      obtain ⟨sx, qx, hDx⟩ := hS
      have m1 := box_cell (hDx.box M _ (two_boxes HNE.out _ _).1).1 1
      obtain ⟨y0, y1, y2⟩ := HC.out W (Hb2.out.trans (hDx.up.mono Hb2.out.size))
      clear hDx
      go_simp
      try with_reducible rfl
     try simp only [td]
     refine tk0 (i := 7) rfl ?_
     try simp only [td]
     refine tk0 (i := 8) rfl ?_
     try simp only [td]
     refine tk (i := 9) (v := ?_) rfl (Or.inl ⟨rfl, ?hy10⟩) ?_
     case hy10 =>
      intro W hS
      obtain ⟨sx, qx, hDx⟩ := hS
      have m1 := box_cell (hDx.box M _ (two_boxes HNE.out _ _).1).1 1
      obtain ⟨y0, y1, y2⟩ := HC.out W (Hb2.out.trans (hDx.up.mono Hb2.out.size))
      clear hDx
      go_simp
      try with_reducible rfl
     try simp only [td]
     refine tk0 (i := 10) rfl ?_
     try simp only [td]
     refine tk0 (i := 11) rfl ?_
     try simp only [td]
     refine tk0 (i := 12) rfl ?_
     try simp only [td]
     refine tk (i := 13) (v := ?_) rfl (Or.inl ⟨rfl, ?hy14⟩) ?_
     case hy14 =>
      intro W hS
      obtain ⟨sx, qx, hDx⟩ := hS
      have m1 := box_cell (hDx.box M _ (two_boxes HNE.out _ _).1).1 1
      obtain ⟨y0, y1, y2⟩ := HC.out W (Hb2.out.trans (hDx.up.mono Hb2.out.size))
      clear hDx
      go_simp
      try with_reducible rfl
     try simp only [td]
     refine rd 14 rfl fun K hK => ?_
     obtain ⟨sx, qx, hDx⟩ := id hHeld
     have hn := (hDx.box NB _ (two_boxes HNE.out _ _).2).1
     have f0 := box_frozen hn 0
     have f1 := box_frozen hn 1
     have n0 := box_cell hn 0
     have n1 := box_cell hn 1
     have n2 : w5.cell? ⟨NB, 1, none⟩ = some (.int .i64 qx) := n1
     have f2 : w5.frozen? ⟨NB, 1, none⟩ = false := f1
     clear hn
     go_simp
     have hD14 := name_set HNE.out hDx c.site c.seq
     refine hK.out _ _ (⟨_, _, hD14⟩) (fun hX => ?_)
     clear hK K hHeld
     have hHeld := hX
     clear hX
     refine tk0 (i := 15) rfl ?_
     try simp only [td]
     refine wpAnyH_done (by kernel_rfl) ?_ _
     have hD15 : DBox C.toCC w2.heap.size w2 (.pointer (some ⟨B, 0, none⟩)) l S4 (boxAt M (.cells #[.int .i64 9, .int .i64 P, .int .i64 P] 30 (0, 0)) (boxAt NB (.cells #[.int .i64 c.site, .int .i64 c.seq] 46 (0, 0)) noBox)) ((w5.setCell ⟨NB, 0, none⟩ (.int .i64 c.site)).setCell ⟨NB, 1, none⟩ (.int .i64 c.seq)).drew := hD14
     clear hD14 hHeld HDX c1 c2 hP0 hw hi0 HC f0 f1 f2 n0 n1 n2 hDx
     generalize ((w5.setCell ⟨NB, 0, none⟩ (.int .i64 c.site)).setCell ⟨NB, 1, none⟩ (.int .i64 c.seq)).drew = w6 at hD15 ⊢
     have HD : RowKit.Hid (∃ S, DBox C.toCC w2.heap.size w2 (.pointer (some ⟨B, 0, none⟩)) l S (boxAt M (.cells #[.int .i64 9, .int .i64 P, .int .i64 P] 30 (0, 0)) (boxAt NB (.cells #[.int .i64 c.site, .int .i64 c.seq] 46 (0, 0)) noBox)) w6) := Lib.hid ⟨_, hD15⟩
     clear hD15
     have HST : RowKit.Hid (Stands l c.site c.seq c.off P ∧ (Lit.int .i64 c.site).wf = true ∧ (Lit.int .i64 c.seq).wf = true ∧ (Lit.int .i64 c.off).wf = true) := HST0
     clear HST0
     obtain ⟨off, hoff⟩ : ∃ x, c.off = x := ⟨_, rfl⟩
     obtain ⟨s, hs⟩ : ∃ x, c.site = x := ⟨_, rfl⟩
     obtain ⟨q, hq⟩ : ∃ x, c.seq = x := ⟨_, rfl⟩
     rw [hoff, hs, hq] at HST
     rw [hs, hq] at HD
     rw [hoff, hs, hq]
     clear hoff hs hq
     go_upto_region 15 with fail
    all_goals
     go_wp2_with fail
     go_loopw [12] (fun i wr => ∃ (k : Nat) (m : List PCell) (Q : Nat), i = .int .i64 k ∧ k ≤ Mx ∧ RowKit.Hid (Stands m s q off Q) ∧ RowKit.Hid (∃ S, DBox C.toCC w2.heap.size w2 (.pointer (some ⟨B, 0, none⟩)) m S (boxAt M (.cells #[.int .i64 9, .int .i64 Q, .int .i64 Q] 30 (0, 0)) (boxAt NB (.cells #[.int .i64 s, .int .i64 q] 46 (0, 0)) noBox)) wr)) (fun i _ => Mx - (intOf i).toNat)
     case atStart => exact ⟨0, l, P, rfl, Nat.zero_le _, Lib.hid HST.out.1, HD⟩
     case round =>
      rename_i wr
      obtain ⟨k, m, Q, rfl, hk, hst, hd⟩ := hrel
      have HN := Lib.hid HST.out.2
      clear HD HST
      rcases Nat.lt_or_ge k Mx with hlt | hge
      ·as_aux_lemma =>
       obtain ⟨x, hx⟩ := getA_some (l := xa) (k := k) (by rw [HM.out]; omega)
       have hgx : aGreat x = false := by
        cases hq : aGreat x with
        | false => rfl
        | true => have := HG3.out; rw [List.any_eq_true.2 ⟨x, List.mem_of_getElem? hx, hq⟩] at this; cases this
       obtain ⟨hx1, hx2⟩ := aGreat_no hgx
       obtain ⟨S, hD⟩ := hd.out
       have hup := Hb2.out.trans (hD.up.mono Hb2.out.size)
       obtain ⟨b, off', cp, hv, c0, c1, c2, c3, c4, c5, c6, c7⟩ := (HA.out.below hup).at hx
       rw [HM.out] at hv
       cases hv
       have HXW := Lib.hid (HA.out.mem hx).2
       have HSP := Lib.hid (HA.out.mem hx).1
       obtain ⟨sa, sc, hsv, _⟩ := id (HA.out.mem hx).1
       have Hsv := Lib.hid hsv
       rw [hsv] at c7
       have hi0 : (0 : Int) ≤ (k : Int) ∧ (k : Int) < (Mx : Int) := ⟨by omega, by omega⟩
       have hle := cMay_le (C.may hD.doc)
       have hQ := hst.out.le
       have HD0 := Lib.hid (hD.below ((Below.refl _ wr).alloc (Nat.le_refl _) (.cells #[.int .i64 x.site, .int .i64 x.seq, .int .i64 x.num, .int .i64 x.kind, .int .i64 x.pl, .string x.text, .slice sa x.xs.length sc] 50)))
       have HD1 := Lib.hid (hD.new #[.int .i64 x.site, .int .i64 x.seq, .int .i64 x.num, .int .i64 x.kind, .int .i64 x.pl, .string x.text, .slice sa x.xs.length sc] 50)
       have HLS := Lib.hid (show ∀ k o, (boxAt M (.cells #[.int .i64 9, .int .i64 Q, .int .i64 Q] 30 (0, 0)) (boxAt NB (.cells #[.int .i64 s, .int .i64 q] 46 (0, 0)) noBox)) k = some o → k ≠ wr.heap.size from fun k o hk e => Nat.lt_irrefl _ (e ▸ hD.lt hk))
       have HX := Lib.hid (And.intro hx1 hx2)
       have HLE := Lib.hid (And.intro hle hQ)
       clear hx hgx hD hup hsv hd c0 hx1 hx2 hle hQ
       go_upto_region 19 with fail
       obtain ⟨OB, hOB⟩ : ∃ OB, wr.heap.size = OB := ⟨_, rfl⟩
       rw [hOB] at HD1 HLS ⊢
       generalize wr.alloc (.cells #[.int .i64 x.site, .int .i64 x.seq, .int .i64 x.num, .int .i64 x.kind, .int .i64 x.pl, .string x.text, .slice sa x.xs.length sc] 50) = w7 at HD0 HD1 ⊢
       clear hOB c1 c2 c3 c4 c5 c6 c7
       have hob := (HD1.out.box OB _ (boxAt_same _ _ _)).1
       have o0 := box_cell hob 0
       clear hob
       by_cases hs9 : x.site = 9
       ·have e9 : (x.site == 9) = true := by rw [hs9]; rfl
        have HDN := Lib.hid (show ∃ S, DBox C.toCC w2.heap.size w2 (.pointer (some ⟨B, 0, none⟩)) m S (boxAt M (.cells #[.int .i64 9, .int .i64 Q, .int .i64 Q] 30 (0, 0)) (boxAt NB (.cells #[.int .i64 s, .int .i64 q] 46 (0, 0)) noBox)) w7 from ⟨_, HD0.out⟩)
        clear HD0 HD1 hs9
        go_wp2
        exact ⟨⟨k + 1, m, Q, by go_num, by omega, hst, HDN⟩, by simp [intOf]; omega⟩
       ·have e9 : (x.site == 9) = false := beq_eq_false_iff_ne.2 hs9
        have k1 := HD1.out.call (C.size _ m _ w7 HD1.out.doc)
        obtain ⟨ml, hml⟩ : ∃ ml, m.length = ml := ⟨_, rfl⟩
        have Hml := Lib.hid hml
        rw [hml] at k1
        clear HD0 HD1 hs9 hml
        go_wp2_with fail
        refine k1.mono ?_
        clear k1 o0
        rintro e w8 ⟨rfl, S8, hd8⟩
        have hob := (hd8.box OB _ (boxAt_same _ _ _)).1
        have o0 := box_cell hob 0
        have o1 := box_cell hob 1
        have o2 := box_cell hob 2
        have o3 := box_cell hob 3
        have o4 := box_cell hob 4
        have o5 := box_cell hob 5
        have o6 := box_cell hob 6
        have hup8 := Hb2.out.trans (hd8.up.mono Hb2.out.size)
        have k2 := hd8.call (C.doOp x.site x.seq x.num x.kind x.pl x.text x.sp x.xs _ m S8 w8 hd8.doc (HT.out.below hup8) (HSP.out.below hup8) ⟨HXW.out.s, HXW.out.q, HXW.out.n, HXW.out.k, HXW.out.a⟩ HX.out.2 (by have := HX.out.1; omega) HXW.out.w)
        rw [Hsv.out] at k2
        unfold opV at k2
        obtain ⟨⟨m2, e2⟩, hX⟩ : ∃ X, cDo m ⟨x.site, x.seq, x.num, x.kind, x.pl, x.text.data.toList, x.xs⟩ = X := ⟨_, rfl⟩
        rw [hX] at k2
        have HXX := Lib.hid hX
        clear hob hup8 hd8 hX
        by_cases he2 : e2 = 0
        case neg =>
         have hm2 : m2 = m := by have := do_no (l := m) (o := ⟨x.site, x.seq, x.num, x.kind, x.pl, x.text.data.toList, x.xs⟩) (by rw [HXX.out]; exact he2); rwa [HXX.out] at this
         subst hm2
         have hnb : (e2 != 0) = true := by simpa using he2
         clear he2
         go_wp2_with fail
         refine k2.mono ?_
         clear k2 o0 o1 o2 o3 o4 o5 o6
         rintro e w9 ⟨rfl, S9, hd9⟩
         have HDN := Lib.hid (show ∃ S, DBox C.toCC w2.heap.size w2 (.pointer (some ⟨B, 0, none⟩)) m2 S (boxAt M (.cells #[.int .i64 9, .int .i64 Q, .int .i64 Q] 30 (0, 0)) (boxAt NB (.cells #[.int .i64 s, .int .i64 q] 46 (0, 0)) noBox)) w9 from ⟨_, hd9.less fun k o hk => (boxAt_other (HLS.out k o hk) _ _).trans hk⟩)
         clear hd9
         go_wp2
         exact ⟨⟨k + 1, m2, Q, by go_num, by omega, hst, HDN⟩, by simp [intOf]; omega⟩
        case pos =>
         subst he2
         obtain ⟨hom, hrun⟩ := do_ok (l := m) (o := ⟨x.site, x.seq, x.num, x.kind, x.pl, x.text.data.toList, x.xs⟩) (by rw [HXX.out])
         rw [HXX.out] at hrun
         dsimp only at hrun
         obtain ⟨Q2, hQ2, hst2⟩ := hst.out.next hom
         rw [← hrun] at hst2
         have hkm : kMove 9 Q Q ⟨x.site, x.seq, x.num, x.kind, x.pl, x.text.data.toList, x.xs⟩ ml = (9, (Q2 : Int), (Q2 : Int), 0) := by
          unfold kMove
          have h1 : kMay 9 Q Q ml = true := (kMay_iff _ _ _ _).2 (by have := HLE.out; rw [Hml.out] at this; omega)
          rw [h1, (oMay_iff _ _).2 (Hml.out ▸ hom)]
          dsimp only
          rw [e9, hQ2]
          rfl
         have HKM := Lib.hid hkm
         have HST2 := Lib.hid hst2
         clear hkm hst2 hQ2 hom hrun
         go_wp2_with fail
         refine k2.mono ?_
         clear k2 o0 o1 o2 o3 o4 o5 o6
         rintro e w9 ⟨rfl, S9, hd9⟩
         have hob := (hd9.box OB _ (boxAt_same _ _ _)).1
         have hmb := (hd9.box M _ ((boxAt_other (HLS.out M _ (two_boxes HNE.out _ _).1) _ _).trans (two_boxes HNE.out _ _).1)).1
         have o0 := box_cell hob 0
         have o1 := box_cell hob 1
         have o2 := box_cell hob 2
         have o3 := box_cell hob 3
         have o4 := box_cell hob 4
         have o5 := box_cell hob 5
         have o6 := box_cell hob 6
         have m0 := box_cell hmb 0
         have m1 := box_cell hmb 1
         have m2' := box_cell hmb 2
         have hup9 := Hb2.out.trans (hd9.up.mono Hb2.out.size)
         have wQ : (Lit.int .i64 (Q : Int)).wf = true := wf_small (by have := HLE.out; omega)
         have wL : (Lit.int .i64 (ml : Int)).wf = true := wf_small (by have := HLE.out; rw [Hml.out] at this; omega)
         have k3 := C.kmove 9 Q Q x.site x.seq x.num x.kind x.pl ml x.text x.sp x.xs w9 (LenAt.tabs (HT.out.below hup9) (by have := HX.out.2; unfold maxLen; omega)) (HSP.out.below hup9) ⟨HXW.out.s, HXW.out.q, HXW.out.n, HXW.out.k, HXW.out.a⟩ (by decide) wQ wQ wL HX.out.2 (by have := HX.out.1; omega) HXW.out.w
         rw [HKM.out, Hsv.out] at k3
         unfold mkA opV mkV at k3
         dsimp only at k3
         have HD9 := Lib.hid hd9
         clear hob hmb hup9 hd9 wQ wL HKM
         go_wp2_with fail
         refine k3.mono ?_
         clear k3 o0 o1 o2 o3 o4 o5 o6 m0 m1 m2'
         rintro e wa ⟨rfl, hba⟩
         have hdA := ((HD9.out.less fun k o hk => (boxAt_other (HLS.out k o hk) _ _).trans hk).below hba)
         have HDB := Lib.hid (hdA.new #[.int .i64 9, .int .i64 Q2, .int .i64 Q2] 30)
         have HLB := Lib.hid (show ∀ k o, (boxAt M (.cells #[.int .i64 9, .int .i64 Q, .int .i64 Q] 30 (0, 0)) (boxAt NB (.cells #[.int .i64 s, .int .i64 q] 46 (0, 0)) noBox)) k = some o → k ≠ wa.heap.size from fun k o hk e => Nat.lt_irrefl _ (e ▸ hdA.lt hk))
         clear hba hdA HD9 HLS
         go_upto_region 23 with fail
         obtain ⟨XB, hXB⟩ : ∃ XB, wa.heap.size = XB := ⟨_, rfl⟩
         rw [hXB] at HDB HLB ⊢
         generalize wa.alloc (.cells #[.int .i64 9, .int .i64 Q2, .int .i64 Q2] 30) = wb at HDB ⊢
         clear hXB
         have hxb := (HDB.out.box XB _ (boxAt_same _ _ _)).1
         have hmM : boxAt XB (.cells #[.int .i64 9, .int .i64 Q2, .int .i64 Q2] 30 (0, 0)) (boxAt M (.cells #[.int .i64 9, .int .i64 Q, .int .i64 Q] 30 (0, 0)) (boxAt NB (.cells #[.int .i64 s, .int .i64 q] 46 (0, 0)) noBox)) M = some (.cells #[.int .i64 9, .int .i64 Q, .int .i64 Q] 30 (0, 0)) := (boxAt_other (HLB.out M _ (two_boxes HNE.out _ _).1) _ _).trans (two_boxes HNE.out _ _).1
         have hmb := (HDB.out.box M _ hmM).1
         have x0 := box_cell hxb 0
         have x1 := box_cell hxb 1
         have x2 := box_cell hxb 2
         have m0 := box_cell hmb 0
         have m1 := box_cell hmb 1
         have m2' := box_cell hmb 2
         have f0 := box_frozen hmb 0
         have f1 := box_frozen hmb 1
         have f2 := box_frozen hmb 2
         have HDC := Lib.hid (mark_set HDB.out hmM 9 Q2 Q2)
         clear hxb hmM hmb HDB
         go_upto_region 26 with fail
         generalize ((wb.setCell ⟨M, 0, none⟩ (.int .i64 9)).setCell ⟨M, 1, none⟩ (.int .i64 Q2)).setCell ⟨M, 2, none⟩ (.int .i64 Q2) = wc at HDC ⊢
         clear x0 x1 x2 m0 m1 m2' f0 f1 f2
         have HDD : RowKit.Hid (DBox C.toCC w2.heap.size w2 (.pointer (some ⟨B, 0, none⟩)) m2 S9 (boxAt M (.cells #[.int .i64 9, .int .i64 Q2, .int .i64 Q2] 30 (0, 0)) (boxAt NB (.cells #[.int .i64 s, .int .i64 q] 46 (0, 0)) noBox)) wc) := Lib.hid (HDC.out.less fun k o hk => by
          unfold boxAt at hk ⊢
          by_cases h1 : k = M
          ·rw [if_pos h1] at hk ⊢
           exact hk
          ·rw [if_neg h1] at hk ⊢
           have h2 : k ≠ XB := HLB.out k o (by unfold boxAt; rw [if_neg h1]; exact hk)
           rw [if_neg h2, if_neg h1]
           exact hk)
         clear HDC HLB
         have hmb := (HDD.out.box M _ (two_boxes HNE.out _ _).1).1
         have m1 := box_cell hmb 1
         by_cases ho : 0 ≤ off
         ·have hnb := (HDD.out.box NB _ (two_boxes HNE.out _ _).2).1
          have n0 := box_cell hnb 0
          have n1 := box_cell hnb 1
          have k4 := HDD.out.call (C.find s q off _ m2 S9 wc HDD.out.doc HN.out.1 HN.out.2.1 HN.out.2.2)
          rw [HST2.out.find (C.may HDD.out.doc) ho] at k4
          unfold nmV at k4
          dsimp only at k4
          clear hmb hnb HDD
          go_wp2_with fail
          refine k4.mono ?_
          clear k4 n0 n1 m1
          rintro e wd ⟨rfl, Sd, hdd⟩
          have hmb := (hdd.box M _ (two_boxes HNE.out _ _).1).1
          have m1 := box_cell hmb 1
          have hw : IntKind.i64.wrap (Q2 : Int) = (Q2 : Int) := by have := HST2.out.le; have := cMay_le (C.may hdd.doc); simp only [IntKind.wrap_i64]; omega
          have HDN := Lib.hid (show ∃ S, DBox C.toCC w2.heap.size w2 (.pointer (some ⟨B, 0, none⟩)) m2 S (boxAt M (.cells #[.int .i64 9, .int .i64 Q2, .int .i64 Q2] 30 (0, 0)) (boxAt NB (.cells #[.int .i64 s, .int .i64 q] 46 (0, 0)) noBox)) wd from ⟨_, hdd⟩)
          clear hmb hdd
          go_wp2
          exact ⟨⟨k + 1, m2, Q2, by go_num, by omega, HST2, HDN⟩, by simp [intOf]; omega⟩
         ·have hz : Q2 = 0 := by rcases HST2.out with ⟨_, h⟩ | ⟨h, _⟩ <;> omega
          subst hz
          have HDN := Lib.hid (show ∃ S, DBox C.toCC w2.heap.size w2 (.pointer (some ⟨B, 0, none⟩)) m2 S (boxAt M (.cells #[.int .i64 9, .int .i64 (0 : Nat), .int .i64 (0 : Nat)] 30 (0, 0)) (boxAt NB (.cells #[.int .i64 s, .int .i64 q] 46 (0, 0)) noBox)) wc from ⟨_, HDD.out⟩)
          clear hmb HDD
          go_wp2
          exact ⟨⟨k + 1, m2, 0, by go_num, by omega, HST2, HDN⟩, by simp [intOf]; omega⟩
      ·as_aux_lemma =>
       have hk2 : k = Mx := by omega
       obtain ⟨S, hD⟩ := hd.out
       have hz := Hb2.out.trans (hD.up.mono Hb2.out.size)
       clear hd hD
       go_wp2
       go_ret
       exact ⟨rfl, hz⟩
end Go.Proofs.YtmedickofiielaaGreatDoor

namespace Go.Proofs.YtmedickofiielaaGreatDoor
open Go.RowKit

theorem RowC.same {sz : Nat} {W W' : World} {g cap n : Nat} {cs : List Value} (h : RowC sz W (.slice (some ⟨g, 0, none⟩) n cap) n cs) (hW : W'.heap[g]? = W.heap[g]?) : RowC sz W' (.slice (some ⟨g, 0, none⟩) n cap) n cs := by
 obtain ⟨hl, ao, cap', e, h1, h2, h3, h4⟩ := h
 cases e
 refine ⟨hl, _, _, rfl, h1, h2, h3, fun ad ha => ?_⟩
 cases ha
 obtain ⟨b, off, e, hlt, hc⟩ := h4 _ rfl
 cases e
 refine ⟨g, 0, rfl, ?_, fun j u hj => ?_⟩
 ·have := Array.getElem?_eq_getElem hlt
  rw [← hW] at this
  exact (Array.getElem?_eq_some_iff.1 this).1
 ·rw [← hc j u hj]
  simp only [World.cell?, hW]
theorem bytes_join {t : ByteArray} {rs : List Int} (h : t.data.toList = joinL rs) : t = ⟨(joinL rs).toArray⟩ := by
 rw [← h]
theorem bytes_cat (a b : List Int) : (⟨(joinL (a ++ b)).toArray⟩ : ByteArray) = ⟨(joinL a).toArray⟩ ++ ⟨(joinL b).toArray⟩ := by
 rw [joinL_append]
 apply ByteArray.ext
 apply Array.ext'
 simp
set_option maxRecDepth 100000 in
set_option maxHeartbeats 8000000 in
theorem lawCaretTypes_any (A : KA) (C : KC) (v : Value) (l : List PCell) (h0 : Int) (u : Value) (ts : List ByteArray) (w : World) (hT : TabW w) (h : CAt w v l) (hl : CWf l) (hA : TextsAt w u ts) (wf0 : (Lit.int .i64 h0).wf = true) :
  Calls Tryz.prog 5 #[v, .int .i64 h0, u] w fun e w' => e = .returned (.bool true) ∧ Below w.heap.size w w' := by
 have hAl := fun W => kalive_any A W
 have hNy := fun W (hb : Below w.heap.size w W) q1 q2 => C.new_yes v l W (hT.below hb) (h.below hb) hl q1 q2
 have hNn := fun W (hb : Below w.heap.size w W) q1 q2 => C.new_no v l W (hT.below hb) (h.below hb) hl q1 q2
 have hLv := fun W (hb : Below w.heap.size w W) q => rLive_any v l W (h.below hb) q
 have HA := Lib.hid hA
 have HT := Lib.hid hT
 obtain ⟨bo, cap, rfl, _, _⟩ := h.shape
 obtain ⟨_, ao, ac, rfl, _⟩ := hA
 obtain ⟨L, hL⟩ : ∃ L, l.length = L := ⟨_, rfl⟩
 have HL := Lib.hid hL
 obtain ⟨Mx, hM'⟩ : ∃ Mx, ts.length = Mx := ⟨_, rfl⟩
 have HM := Lib.hid hM'
 rw [hL] at hNy hNn hLv ⊢
 rw [hM'] at ⊢
 have HNy := Lib.hid hNy
 have HNn := Lib.hid hNn
 have HLv := Lib.hid hLv
 have W0 := Lib.hid wf0
 clear hL hM' hNy hNn h hT hl hLv wf0
 go_enter Tryz.func5, Tryz.ntmps5
 go_wp2_with fail
 refine (hAl _).mono ?_
 clear hAl
 rintro e w2 ⟨rfl, hb2⟩
 have Hb2 := Lib.hid hb2
 by_cases g1 : 100 < L
 ·have g1' : (100 : Int) < (L : Int) := by omega
  go_wp2
  go_ret
  exact ⟨rfl, hb2⟩
 have g1' : ¬ (100 : Int) < (L : Int) := by omega
 by_cases g2 : 8 < Mx
 ·have g2' : (8 : Int) < (Mx : Int) := by omega
  go_wp2
  go_ret
  exact ⟨rfl, hb2⟩
 have g2' : ¬ (8 : Int) < (Mx : Int) := by omega
 by_cases hm0 : cMay l = 0
 case neg => as_aux_lemma =>
  have hN := HNn.out w2 hb2 (by omega) hm0
  clear HNy HNn hb2
  obtain ⟨E, hE⟩ : ∃ E, cMay l = E := ⟨_, rfl⟩
  rw [hE] at hN hm0
  have hnb : (E != 0) = true := by simpa using hm0
  clear hE
  go_wp2_with fail
  refine hN.mono ?_
  clear hN
  rintro e w3 ⟨rfl, hb3⟩
  have hb3 := Hb2.out.trans (hb3.mono Hb2.out.size)
  go_wp2
  go_ret
  exact ⟨rfl, hb3⟩
 case pos =>
  have hN := HNy.out w2 hb2 (by omega) hm0
  have Hm0 := Lib.hid hm0
  clear HNy HNn hb2
  go_wp2_with fail
  refine hN.mono ?_
  clear hN
  rintro e w3 ⟨p, S, rfl, hD, hS, hb3⟩
  obtain ⟨B, rfl⟩ := C.ptr hD
  have hP : DBox C.toCC w2.heap.size w2 (.pointer (some ⟨B, 0, none⟩)) l S noBox w3 := ⟨hD, hS, hb3, hb3.size, fun b o ho => by cases ho⟩
  have c1 := hP.call (C.kput 3 h0 h0 _ l S w3 hD (by decide) W0.out W0.out)
  clear hb3 hP hD hS hm0
  rcases put_one l 3 h0 (by decide) with ⟨hno, hput⟩ | ⟨P, hok, hp, hsp, hput⟩
  ·as_aux_lemma =>
   rw [hput] at c1
   unfold mkV at c1
   dsimp only at c1
   obtain ⟨n, hn⟩ : ∃ n, cLive l = n := ⟨_, rfl⟩
   have hlv := fun W hb => HLv.out W hb (by omega)
   rw [hn] at hno hlv
   clear hput HLv hn
   go_wp2_with fail
   refine c1.mono ?_
   clear c1
   rintro e w4 ⟨rfl, S4, hd4⟩
   have Hz := Lib.hid (Hb2.out.trans ((hd4.new #[.int .i64 0, .int .i64 0, .int .i64 0] 30).up.mono Hb2.out.size))
   clear hd4
   by_cases k1 : h0 < 0
   ·clear hno hlv
    go_wp2
    go_ret
    exact ⟨rfl, Hz.out⟩
   ·have k2 : (n : Int) < h0 := by omega
    clear hno
    go_wp2_with fail
    refine (hlv _ Hz.out).mono ?_
    clear hlv
    rintro e _ ⟨rfl, rfl⟩
    go_wp2
    go_ret
    exact ⟨rfl, Hz.out⟩
  ·rw [hput] at c1
   unfold mkV at c1
   dsimp only at c1
   obtain ⟨i, rfl⟩ : ∃ i : Nat, h0 = i := ⟨h0.toNat, by omega⟩
   obtain ⟨R, hR⟩ : ∃ R, textR l = R := ⟨_, rfl⟩
   have hRl : R.length = cLive l := by rw [← hR]; have := textR_length l l.length; rwa [List.take_of_length_le (Nat.le_refl _)] at this
   have hRL : R.length ≤ 100 := by have := cSeen_le l l.length; have e : cSeen l l.length = cLive l := rfl; have := HL.out; omega
   have HI := Lib.hid (And.intro (show i ≤ R.length by omega) hRL)
   have HTY := Lib.hid (show Typed l l i P [] from Typed.nil hp (by omega))
   have HR := Lib.hid hR
   have Hv := Lib.hid (show allValid R = true from hR ▸ text_valid Hm0.out)
   clear hput HLv hok hsp hp hR hRl hRL
   go_wp2_with fail
   refine c1.mono ?_
   clear c1
   rintro e w4 ⟨rfl, S4, hd4⟩
   have HD5 := Lib.hid (hd4.new #[.int .i64 3, .int .i64 P, .int .i64 P] 30)
   clear hd4
   go_upto_region 11 with fail
   obtain ⟨M, hMM⟩ : ∃ M, w4.heap.size = M := ⟨_, rfl⟩
   rw [hMM] at HD5 ⊢
   generalize w4.alloc (.cells #[.int .i64 3, .int .i64 P, .int .i64 P] 30) = w5 at HD5 ⊢
   clear hMM
   have k5 := HD5.out.call (C.text _ l _ w5 HD5.out.doc)
   rw [text_join Hm0.out, HR.out] at k5
   clear HD5
   go_wp2_with fail
   refine k5.mono ?_
   clear k5
   rintro e w6 ⟨rfl, S6, hd6⟩
   obtain ⟨g, gc, w7, hcv, hrow, hg, hb7⟩ := conv_runes Hv.out (by have := HI.out; omega) w6
   have hd7 := hd6.below hb7
   have hgl : g < w7.heap.size := by obtain ⟨_, _, _, e, _, _, _, h4⟩ := hrow; cases e; obtain ⟨_, _, e, hlt, _⟩ := h4 _ rfl; cases e; exact hlt
   obtain ⟨og, hog⟩ : ∃ og, w7.heap[g]? = some og := ⟨_, Array.getElem?_eq_getElem hgl⟩
   have hMg : M ≠ g := fun e => by have := hd6.lt (boxAt_same M _ _); omega
   obtain ⟨ml, hml⟩ : ∃ ml, R.length = ml := ⟨_, rfl⟩
   have Hml := Lib.hid hml
   rw [hml] at hcv hrow
   have HD7 : RowKit.Hid (DBox C.toCC w2.heap.size w2 (.pointer (some ⟨B, 0, none⟩)) l S6 (boxAt M (.cells #[.int .i64 3, .int .i64 P, .int .i64 P] 30 (0, 0)) (boxAt g og noBox)) w7) := Lib.hid ⟨hd7.doc, hd7.own, hd7.up, hd7.size, fun b o ho => by
    unfold boxAt at ho
    by_cases h1 : b = M
    ·rw [if_pos h1] at ho
     exact hd7.box b o (by unfold boxAt; rw [if_pos h1]; exact ho)
    ·rw [if_neg h1] at ho
     by_cases h2 : b = g
     ·rw [if_pos h2] at ho
      cases ho
      subst h2
      exact ⟨hog, fun hS => by have := C.low hd6.doc _ hS; omega, by have := hd6.size; omega⟩
     ·rw [if_neg h2] at ho
      cases ho⟩
   have HROW := Lib.hid (show ∀ W, W.heap[g]? = some og → RowC 1 W (.slice (some ⟨g, 0, none⟩) ml gc) ml (R.map (Value.int .i32)) from fun W hW => hrow.same (hW.trans hog.symm))
   clear hrow hog hgl hd7 hb7 hd6 hml hg
   have HMG := Lib.hid hMg
   clear hMg
   obtain ⟨G, hG⟩ : ∃ G, g = G := ⟨_, rfl⟩
   subst hG
   obtain ⟨T, hT⟩ : ∃ T : ByteArray, (⟨(joinL R).toArray⟩ : ByteArray) = T := ⟨_, rfl⟩
   rw [hT] at hcv ⊢
   clear hT
   go_upto_region 12 with fail
   clear hcv
   go_wp2_with fail
   go_loopw [11, 12] (fun a j wr => ∃ (k : Nat) (m : List PCell) (Q : Nat) (rs : List Int), a = .string ⟨(joinL rs).toArray⟩ ∧ j = .int .i64 k ∧ k ≤ Mx ∧ RowKit.Hid (Typed l m i Q rs ∧ rs.length ≤ 200 * k) ∧ RowKit.Hid (∃ S, DBox C.toCC w2.heap.size w2 (.pointer (some ⟨B, 0, none⟩)) m S (boxAt M (.cells #[.int .i64 3, .int .i64 Q, .int .i64 Q] 30 (0, 0)) (boxAt g og noBox)) wr)) (fun _ j _ => Mx - (intOf j).toNat)
   case atStart => exact ⟨0, l, P, [], rfl, rfl, Nat.zero_le _, Lib.hid ⟨HTY.out, Nat.zero_le _⟩, Lib.hid ⟨_, HD7.out⟩⟩
   case round =>
    rename_i wr
    obtain ⟨k, m, Q, rs, rfl, rfl, hk, hty, hd⟩ := hrel
    clear HD7 HTY
    rcases Nat.lt_or_ge k Mx with hlt | hge
    ·obtain ⟨t, ht⟩ : ∃ t, ts[k]? = some t := ⟨ts[k]'(by rw [HM.out]; exact hlt), List.getElem?_eq_getElem _⟩
     obtain ⟨tb, tof, tc, hv, ht0⟩ := HA.out.at ht
     rw [HM.out] at hv
     cases hv
     have HTX := Lib.hid (show ∀ X, Below w.heap.size w X → X.cell? ⟨tb, tof + k, none⟩ = some (.string t) from fun X hX => cell_stays hX ht0)
     have hi0 : (0 : Int) ≤ (k : Int) ∧ (k : Int) < (Mx : Int) := ⟨by omega, by omega⟩
     have hwk : IntKind.i64.wrap (549755813888 + (k : Int)) = 549755813888 + (k : Int) := by simp only [IntKind.wrap_i64]; omega
     obtain ⟨S, hD⟩ := hd.out
     have k1 := hD.call (C.size _ m _ wr hD.doc)
     obtain ⟨n, hn⟩ : ∃ n, m.length = n := ⟨_, rfl⟩
     rw [hn] at k1
     have Hn := Lib.hid hn
     clear ht ht0 hd hD hn
     go_wp2_with fail
     refine k1.mono ?_
     clear k1
     rintro e w8 ⟨rfl, S8, hd8⟩
     have HD8 := Lib.hid hd8
     clear hd8
     go_upto_region 17 with fail
     refine wp_region_held_drew (S := fun X => DBox C.toCC w2.heap.size w2 (.pointer (some ⟨B, 0, none⟩)) m S8 (boxAt M (.cells #[.int .i64 3, .int .i64 Q, .int .i64 Q] 30 (0, 0)) (boxAt g og noBox)) X) (by kernel_rfl) (HD8.out.below (Below.refl _ _).drew) (fun hHeld => ?_)
     refine tk0 (i := 0) rfl ?_
     try simp only [td]
     refine tk0 (i := 1) rfl ?_
     try simp only [td]
     refine tk0 (i := 2) rfl ?_
     try simp only [td]
     refine tk0 (i := 3) rfl ?_
     try simp only [td]
     refine tk (i := 4) (v := ?_) rfl (Or.inl ⟨rfl, ?hy5⟩) ?_
     case hy5 =>
      intro W hS
      have m1 := box_cell (hS.box M _ (two_boxes HMG.out _ _).1).1 1
      have y0 := HTX.out W (Hb2.out.trans (hS.up.mono Hb2.out.size))
      go_simp
      try with_reducible rfl
     try simp only [td]
     refine tk0 (i := 5) rfl ?_
     try simp only [td]
     refine tk0 (i := 6) rfl ?_
     try simp only [td]
     refine tk0 (i := 7) rfl ?_
     try simp only [td]
     refine tk (i := 8) (v := ?_) rfl (Or.inl ⟨rfl, ?hy9⟩) ?_
     case hy9 =>
      intro W hS
      have m1 := box_cell (hS.box M _ (two_boxes HMG.out _ _).1).1 1
      have y0 := HTX.out W (Hb2.out.trans (hS.up.mono Hb2.out.size))
      go_simp
      try with_reducible rfl
     try simp only [td]
     refine tk0 (i := 9) rfl ?_
     try simp only [td]
     refine rd 10 rfl fun K hK => ?_
     go_simp
     refine hK.out _ _ (hHeld.below ((Below.refl _ _).alloc (Nat.le_refl _) _)) (fun hX => ?_)
     clear hK K hHeld
     have hHeld := hX
     clear hX
     refine rd 11 rfl fun K hK => ?_
     go_simp
     refine hK.out _ _ (HD8.out.below ((Below.refl _ _).alloc (Nat.le_refl _) _).drew) (fun hX => ?_)
     clear hK K hHeld
     have hHeld := hX
     clear hX
     refine wpAnyH_done (by kernel_rfl) ?_ _
     clear hHeld hwk
     have hD9 := (HD8.out.new #[.int .i64 3, .int .i64 (549755813888 + (k : Int)), .int .i64 0, .int .i64 1, .int .i64 Q, .string t, .slice none 0 0] 50).below (Below.refl _ _).drew
     have HLS := Lib.hid (show ∀ k o, (boxAt M (.cells #[.int .i64 3, .int .i64 Q, .int .i64 Q] 30 (0, 0)) (boxAt g og noBox)) k = some o → k ≠ w8.heap.size from fun k o hk e => Nat.lt_irrefl _ (e ▸ HD8.out.lt hk))
     obtain ⟨OB, hOB⟩ : ∃ OB, w8.heap.size = OB := ⟨_, rfl⟩
     rw [hOB] at hD9 HLS ⊢
     generalize (w8.alloc (.cells #[.int .i64 3, .int .i64 (549755813888 + (k : Int)), .int .i64 0, .int .i64 1, .int .i64 Q, .string t, .slice none 0 0] 50)).drew = w9 at hD9 ⊢
     have HD9 := Lib.hid hD9
     clear hOB hD9 HD8
     have y0 := HTX.out w9 (Hb2.out.trans (HD9.out.up.mono Hb2.out.size))
     by_cases hsz : 900 < t.size
     ·as_aux_lemma =>
      have hsz' : (900 : Int) < (t.size : Int) := by omega
      have hz := Hb2.out.trans (HD9.out.up.mono Hb2.out.size)
      clear HD9
      go_wp2
      go_ret
      exact ⟨rfl, hz⟩
     ·have hsz' : ¬ (900 : Int) < (t.size : Int) := by omega
      have HSZ := Lib.hid hsz
      go_upto_region 20 with fail
      clear hsz hsz' y0
      have hob := (HD9.out.box OB _ (boxAt_same _ _ _)).1
      have o0 := box_cell hob 0
      have o1 := box_cell hob 1
      have o2 := box_cell hob 2
      have o3 := box_cell hob 3
      have o4 := box_cell hob 4
      have o5 := box_cell hob 5
      have o6 := box_cell hob 6
      have hle := cMay_le (C.may HD9.out.doc)
      have hnw : NWf 3 (549755813888 + (k : Int)) 0 1 (Q : Int) := ⟨by decide, by rw [Lit.wf_int_iff, show IntKind.i64.min = -9223372036854775808 from by decide, show IntKind.i64.max = 9223372036854775807 from by decide]; omega, by decide, by decide, wf_small (by have := hty.out.1.1; omega)⟩
      have HNW := Lib.hid hnw
      have HLE := Lib.hid (And.intro hle hty.out.1.1)
      have k2 := HD9.out.call (C.doOp 3 (549755813888 + (k : Int)) 0 1 Q t (.slice none 0 0) [] _ m _ w9 HD9.out.doc (HT.out.below (Hb2.out.trans (HD9.out.up.mono Hb2.out.size))) (SpAt.nil _) hnw (by have := HSZ.out; omega) (by decide) (sWf_may (by decide)))
      unfold opV at k2
      obtain ⟨⟨m2, e2⟩, hX⟩ : ∃ X, cDo m ⟨3, 549755813888 + (k : Int), 0, 1, (Q : Int), t.data.toList, []⟩ = X := ⟨_, rfl⟩
      rw [hX] at k2
      have HXX := Lib.hid hX
      clear hob HD9 hX hnw hle
      by_cases he2 : e2 = 0
      case neg => as_aux_lemma =>
       have hm2 : m2 = m := by have := do_no (l := m) (o := ⟨3, 549755813888 + (k : Int), 0, 1, (Q : Int), t.data.toList, []⟩) (by rw [HXX.out]; exact he2); rwa [HXX.out] at this
       subst hm2
       have hnb : (e2 != 0) = true := by simpa using he2
       clear he2
       go_wp2_with fail
       refine k2.mono ?_
       clear k2 o0 o1 o2 o3 o4 o5 o6
       rintro e wa ⟨rfl, Sa, hda⟩
       have HDN := Lib.hid (show ∃ S, DBox C.toCC w2.heap.size w2 (.pointer (some ⟨B, 0, none⟩)) m2 S (boxAt M (.cells #[.int .i64 3, .int .i64 Q, .int .i64 Q] 30 (0, 0)) (boxAt g og noBox)) wa from ⟨_, hda.less fun k o hk => (boxAt_other (HLS.out k o hk) _ _).trans hk⟩)
       have HTN := Lib.hid (And.intro hty.out.1 (show rs.length ≤ 200 * (k + 1) by have := hty.out.2; omega))
       clear hda
       go_wp2
       exact ⟨⟨k + 1, m2, Q, rs, rfl, by go_num, by omega, HTN, HDN⟩, by simp [intOf]; omega⟩
      case pos => as_aux_lemma =>
       subst he2
       obtain ⟨hom, hrun⟩ := do_ok (l := m) (o := ⟨3, 549755813888 + (k : Int), 0, 1, (Q : Int), t.data.toList, []⟩) (by rw [HXX.out])
       rw [HXX.out] at hrun
       dsimp only at hrun
       obtain ⟨rs', htj, hty2, hkp, hke, hr2⟩ := hty.out.1.next (by rw [HR.out]; exact HI.out.1) hom
       rw [← hrun] at hty2
       obtain ⟨Q2, hQ2⟩ : ∃ Q2, Q + rs'.length = Q2 := ⟨_, rfl⟩
       rw [hQ2] at hty2 hkp hke
       have hom' := (oMay_iff _ _).2 (Hn.out ▸ hom)
       have hkm : kMove 3 Q Q ⟨3, 549755813888 + (k : Int), 0, 1, (Q : Int), t.data.toList, []⟩ n = (3, (Q2 : Int), (Q2 : Int), 0) := by
        unfold kMove
        have h1 : kMay 3 Q Q n = true := (kMay_iff _ _ _ _).2 (by have := HLE.out; rw [Hn.out] at this; omega)
        rw [h1, hom']
        dsimp only
        rw [show ((3 : Int) == 3) = true from rfl, hkp]
        rfl
       have hkb : kBehind ⟨3, 549755813888 + (k : Int), 0, 1, (Q : Int), t.data.toList, []⟩ n = (3, (Q2 : Int), (Q2 : Int), 0) := by
        unfold kBehind
        rw [hom', if_pos rfl, hke]
       have HKM := Lib.hid (And.intro hkm hkb)
       have HT2 := Lib.hid (And.intro hty2 (show (rs ++ rs').length ≤ 200 * (k + 1) by have := hty.out.2; rw [List.length_append]; omega))
       have HTJ := Lib.hid (bytes_join htj)
       clear hkm hkb hty2 hkp hke hom hom' hrun hr2 htj hQ2
       go_wp2_with fail
       refine k2.mono ?_
       clear k2 o0 o1 o2 o3 o4 o5 o6
       rintro e wa ⟨rfl, Sa, hda⟩
       have hob := (hda.box OB _ (boxAt_same _ _ _)).1
       have hmb := (hda.box M _ ((boxAt_other (HLS.out M _ (two_boxes HMG.out _ _).1) _ _).trans (two_boxes HMG.out _ _).1)).1
       have o0 := box_cell hob 0
       have o1 := box_cell hob 1
       have o2 := box_cell hob 2
       have o3 := box_cell hob 3
       have o4 := box_cell hob 4
       have o5 := box_cell hob 5
       have o6 := box_cell hob 6
       have m0 := box_cell hmb 0
       have m1 := box_cell hmb 1
       have m2' := box_cell hmb 2
       have hupa := Hb2.out.trans (hda.up.mono Hb2.out.size)
       have wQ : (Lit.int .i64 (Q : Int)).wf = true := wf_small (by have := HLE.out; omega)
       have wL : (Lit.int .i64 (n : Int)).wf = true := wf_small (by have := HLE.out; rw [Hn.out] at this; omega)
       have k3 := C.kmove 3 Q Q 3 (549755813888 + (k : Int)) 0 1 Q n t (.slice none 0 0) [] wa (LenAt.tabs (HT.out.below hupa) (by have := HSZ.out; unfold maxLen; omega)) (SpAt.nil _) HNW.out (by decide) wQ wQ wL (by have := HSZ.out; omega) (by decide) (sWf_may (by decide))
       rw [HKM.out.1] at k3
       unfold mkA opV mkV at k3
       dsimp only at k3
       have HDA := Lib.hid hda
       have WL := Lib.hid wL
       clear hob hmb hupa hda wQ wL
       go_wp2_with fail
       refine k3.mono ?_
       clear k3 o0 o1 o2 o3 o4 o5 o6 m0 m1 m2'
       rintro e wb ⟨rfl, hbb⟩
       have hdb := HDA.out.below hbb
       have HLO := Lib.hid (show ∀ z o, (boxAt OB (.cells #[.int .i64 3, .int .i64 (549755813888 + (k : Int)), .int .i64 0, .int .i64 1, .int .i64 Q, .string t, .slice none 0 0] 50 (0, 0)) (boxAt M (.cells #[.int .i64 3, .int .i64 Q, .int .i64 Q] 30 (0, 0)) (boxAt g og noBox))) z = some o → z ≠ wb.heap.size from fun _ _ hk e => Nat.lt_irrefl _ (e ▸ hdb.lt hk))
       have HDB := Lib.hid (hdb.new #[.int .i64 3, .int .i64 Q2, .int .i64 Q2] 30)
       clear hdb hbb HDA
       go_upto_region 22 with fail
       obtain ⟨XB, hXB⟩ : ∃ XB, wb.heap.size = XB := ⟨_, rfl⟩
       rw [hXB] at HDB HLO ⊢
       generalize wb.alloc (.cells #[.int .i64 3, .int .i64 Q2, .int .i64 Q2] 30) = wc at HDB ⊢
       clear hXB
       have hob := (HDB.out.box OB _ ((boxAt_other (HLO.out OB _ (boxAt_same _ _ _)) _ _).trans (boxAt_same _ _ _))).1
       have o0 := box_cell hob 0
       have o1 := box_cell hob 1
       have o2 := box_cell hob 2
       have o3 := box_cell hob 3
       have o4 := box_cell hob 4
       have o5 := box_cell hob 5
       have o6 := box_cell hob 6
       have hupc := Hb2.out.trans (HDB.out.up.mono Hb2.out.size)
       have k4 := C.kbehind 3 (549755813888 + (k : Int)) 0 1 Q n t (.slice none 0 0) [] wc (LenAt.tabs (HT.out.below hupc) (by have := HSZ.out; unfold maxLen; omega)) (SpAt.nil _) HNW.out WL.out (by have := HSZ.out; omega) (by decide) (sWf_may (by decide))
       rw [HKM.out.2] at k4
       unfold opV mkV at k4
       dsimp only at k4
       clear hob hupc
       go_wp2_with fail
       refine k4.mono ?_
       clear k4 o0 o1 o2 o3 o4 o5 o6
       rintro e wd ⟨rfl, hbd⟩
       have hdd := HDB.out.below hbd
       have HLY := Lib.hid (show ∀ z o, (boxAt XB (.cells #[.int .i64 3, .int .i64 Q2, .int .i64 Q2] 30 (0, 0)) (boxAt OB (.cells #[.int .i64 3, .int .i64 (549755813888 + (k : Int)), .int .i64 0, .int .i64 1, .int .i64 Q, .string t, .slice none 0 0] 50 (0, 0)) (boxAt M (.cells #[.int .i64 3, .int .i64 Q, .int .i64 Q] 30 (0, 0)) (boxAt g og noBox)))) z = some o → z ≠ wd.heap.size from fun _ _ hk e => Nat.lt_irrefl _ (e ▸ hdd.lt hk))
       have HDD := Lib.hid (hdd.new #[.int .i64 3, .int .i64 Q2, .int .i64 Q2] 30)
       clear hdd hbd HDB
       go_upto_region 23 with fail
       obtain ⟨YB, hYB⟩ : ∃ YB, wd.heap.size = YB := ⟨_, rfl⟩
       rw [hYB] at HDD HLY ⊢
       generalize wd.alloc (.cells #[.int .i64 3, .int .i64 Q2, .int .i64 Q2] 30) = we at HDD ⊢
       clear hYB
       have hyb := (HDD.out.box YB _ (boxAt_same _ _ _)).1
       have hxb := (HDD.out.box XB _ ((boxAt_other (HLY.out XB _ (boxAt_same _ _ _)) _ _).trans (boxAt_same _ _ _))).1
       have hMo : (boxAt OB (.cells #[.int .i64 3, .int .i64 (549755813888 + (k : Int)), .int .i64 0, .int .i64 1, .int .i64 Q, .string t, .slice none 0 0] 50 (0, 0)) (boxAt M (.cells #[.int .i64 3, .int .i64 Q, .int .i64 Q] 30 (0, 0)) (boxAt g og noBox))) M = some (.cells #[.int .i64 3, .int .i64 Q, .int .i64 Q] 30 (0, 0)) := (boxAt_other (HLS.out M _ (two_boxes HMG.out _ _).1) _ _).trans (two_boxes HMG.out _ _).1
       have hMx : (boxAt XB (.cells #[.int .i64 3, .int .i64 Q2, .int .i64 Q2] 30 (0, 0)) (boxAt OB (.cells #[.int .i64 3, .int .i64 (549755813888 + (k : Int)), .int .i64 0, .int .i64 1, .int .i64 Q, .string t, .slice none 0 0] 50 (0, 0)) (boxAt M (.cells #[.int .i64 3, .int .i64 Q, .int .i64 Q] 30 (0, 0)) (boxAt g og noBox)))) M = some (.cells #[.int .i64 3, .int .i64 Q, .int .i64 Q] 30 (0, 0)) := (boxAt_other (HLO.out M _ hMo) _ _).trans hMo
       have hMy : (boxAt YB (.cells #[.int .i64 3, .int .i64 Q2, .int .i64 Q2] 30 (0, 0)) (boxAt XB (.cells #[.int .i64 3, .int .i64 Q2, .int .i64 Q2] 30 (0, 0)) (boxAt OB (.cells #[.int .i64 3, .int .i64 (549755813888 + (k : Int)), .int .i64 0, .int .i64 1, .int .i64 Q, .string t, .slice none 0 0] 50 (0, 0)) (boxAt M (.cells #[.int .i64 3, .int .i64 Q, .int .i64 Q] 30 (0, 0)) (boxAt g og noBox))))) M = some (.cells #[.int .i64 3, .int .i64 Q, .int .i64 Q] 30 (0, 0)) := (boxAt_other (HLY.out M _ hMx) _ _).trans hMx
       have hmb := (HDD.out.box M _ hMy).1
       have x0 := box_cell hxb 0
       have x1 := box_cell hxb 1
       have x2 := box_cell hxb 2
       have y0 := box_cell hyb 0
       have y1 := box_cell hyb 1
       have y2 := box_cell hyb 2
       have heq := fun W => mkEqP_neq W 3 Q2 Q2 3 Q2 Q2 false (by rw [mkSame_self]; rfl)
       have HDE := Lib.hid (mark_set HDD.out hMy 3 Q2 Q2)
       have HMB := Lib.hid hmb
       clear hyb hxb hMo hMx hMy hmb HDD
       go_upto_region 25 with fail
       clear y0 y1 y2 heq
       have hmb := HMB.out
       have m0 := box_cell hmb 0
       have m1 := box_cell hmb 1
       have m2' := box_cell hmb 2
       have f0 := box_frozen hmb 0
       have f1 := box_frozen hmb 1
       have f2 := box_frozen hmb 2
       clear hmb HMB
       go_upto_region 26 with fail
       generalize ((we.setCell ⟨M, 0, none⟩ (.int .i64 3)).setCell ⟨M, 1, none⟩ (.int .i64 Q2)).setCell ⟨M, 2, none⟩ (.int .i64 Q2) = wf at HDE ⊢
       clear x0 x1 x2 m0 m1 m2' f0 f1 f2
       have HDF : RowKit.Hid (DBox C.toCC w2.heap.size w2 (.pointer (some ⟨B, 0, none⟩)) m2 Sa (boxAt M (.cells #[.int .i64 3, .int .i64 Q2, .int .i64 Q2] 30 (0, 0)) (boxAt g og noBox)) wf) := Lib.hid (HDE.out.less fun z o hk => by
        unfold boxAt at hk ⊢
        by_cases h1 : z = M
        ·rw [if_pos h1] at hk ⊢
         exact hk
        ·rw [if_neg h1] at hk ⊢
         have h3 : (boxAt M (.cells #[.int .i64 3, .int .i64 Q, .int .i64 Q] 30 (0, 0)) (boxAt g og noBox)) z = some o := by unfold boxAt; rw [if_neg h1]; exact hk
         have h4 := (boxAt_other (HLS.out z o h3) (.cells #[.int .i64 3, .int .i64 (549755813888 + (k : Int)), .int .i64 0, .int .i64 1, .int .i64 Q, .string t, .slice none 0 0] 50 (0, 0)) _).trans h3
         have h5 := (boxAt_other (HLO.out z o h4) (.cells #[.int .i64 3, .int .i64 Q2, .int .i64 Q2] 30 (0, 0)) _).trans h4
         have h6 := (boxAt_other (HLY.out z o h5) (.cells #[.int .i64 3, .int .i64 Q2, .int .i64 Q2] 30 (0, 0)) _).trans h5
         unfold boxAt at h6
         exact h6)
       have y0 := HTX.out wf (Hb2.out.trans (HDF.out.up.mono Hb2.out.size))
       have hcs : (⟨(joinL rs).toArray⟩ : ByteArray).size + t.size ≤ 9223372036854775807 := by have := size_joinR rs (by have := hty.out.2; omega); have := HSZ.out; omega
       have HDN := Lib.hid (show ∃ S, DBox C.toCC w2.heap.size w2 (.pointer (some ⟨B, 0, none⟩)) m2 S (boxAt M (.cells #[.int .i64 3, .int .i64 Q2, .int .i64 Q2] 30 (0, 0)) (boxAt g og noBox)) wf from ⟨_, HDF.out⟩)
       have HCT := Lib.hid (show Value.string ((⟨(joinL rs).toArray⟩ : ByteArray) ++ t) = Value.string ⟨(joinL (rs ++ rs')).toArray⟩ by rw [bytes_cat, ← HTJ.out])
       clear HDE HDF HLS HLO HLY HTJ
       go_wp2
       exact ⟨⟨k + 1, m2, Q2, rs ++ rs', HCT.out, by go_num, by omega, HT2, HDN⟩, by simp [intOf]; omega⟩
    ·as_aux_lemma =>
     have hk2 : k = Mx := by omega
     obtain ⟨S, hD⟩ := hd.out
     have hle := cMay_le (C.may hD.doc)
     obtain ⟨⟨t1, t2, t3, t4⟩, t5⟩ := hty.out
     have hmb := (hD.box M _ (two_boxes HMG.out _ _).1).1
     have m0 := box_cell hmb 0
     have m1 := box_cell hmb 1
     have m2' := box_cell hmb 2
     have wQ : (Lit.int .i64 (Q : Int)).wf = true := wf_small (by omega)
     have hks : kShown m 3 Q Q = ((i : Int) + (rs.length : Int), (i : Int) + (rs.length : Int), 0) := by
      unfold kShown
      rw [(kMay_iff _ _ _ _).2 (by omega), if_pos rfl, Int.toNat_natCast, t2, Int.natCast_add]
     have k1 := hD.call (C.kshown 3 Q Q _ m S wr hD.doc (by decide) wQ wQ)
     rw [hks] at k1
     unfold mkA shV at k1
     dsimp only at k1
     obtain ⟨rl, hrl⟩ : ∃ rl, rs.length = rl := ⟨_, rfl⟩
     rw [hrl] at k1 t5
     have hvr : allValid rs = true := allValid_iff.2 t4
     have hil := HI.out.1
     rw [Hml.out] at hil
     have hml2 := HI.out.2
     rw [Hml.out] at hml2
     obtain ⟨P1, hP1⟩ : ∃ P : ByteArray, (⟨(joinL (R.take i)).toArray⟩ : ByteArray) = P := ⟨_, rfl⟩
     obtain ⟨P2, hP2⟩ : ∃ P : ByteArray, (⟨(joinL (R.drop i)).toArray⟩ : ByteArray) = P := ⟨_, rfl⟩
     obtain ⟨AL, hAL⟩ : ∃ P : ByteArray, (⟨(joinL rs).toArray⟩ : ByteArray) = P := ⟨_, rfl⟩
     have kT := fun W (h : ∃ S, DBox C.toCC w2.heap.size w2 (.pointer (some ⟨B, 0, none⟩)) m S (boxAt M (.cells #[.int .i64 3, .int .i64 Q, .int .i64 Q] 30 (0, 0)) (boxAt g og noBox)) W) => (show Calls Tryz.prog 21 #[.pointer (some ⟨B, 0, none⟩)] W (fun e W' => e = .returned (.string (P1 ++ AL ++ P2)) ∧ ∃ S, DBox C.toCC w2.heap.size w2 (.pointer (some ⟨B, 0, none⟩)) m S (boxAt M (.cells #[.int .i64 3, .int .i64 Q, .int .i64 Q] 30 (0, 0)) (boxAt g og noBox)) W') by
      obtain ⟨S, h⟩ := h
      have := h.call (C.text _ m S W h.doc)
      rw [text_join (C.may h.doc), t3, HR.out, ← List.append_assoc, bytes_cat, bytes_cat, hP1, hP2, hAL] at this
      exact this)
     have hc1 := fun W (hq : RowC 1 W (.slice (some ⟨g, 0, none⟩) ml gc) R.length (R.map (Value.int .i32))) => conv_pre hq Hml.out hil Hv.out
     have hc2 := fun W (hq : RowC 1 W (.slice (some ⟨g, 0, none⟩) ml gc) R.length (R.map (Value.int .i32))) => conv_suf (k := i) (c' := gc - i) hq Hml.out hil Hv.out
     rw [hP1] at hc1
     rw [hP2] at hc2
     obtain ⟨ad, had⟩ : ∃ ad : Addr, (if gc = i then some (⟨g, 0, none⟩ : Addr) else some ⟨g, i, none⟩) = some ad := by split <;> exact ⟨_, rfl⟩
     rw [had] at hc2
     have hrow0 := HROW.out wr (hD.box g _ (two_boxes HMG.out _ _).2).1
     have hgc : ml ≤ gc := by obtain ⟨_, _, _, e, h1, _⟩ := hrow0; cases e; exact h1
     have hs0 : AL.size ≤ 1000000 := by rw [← hAL]; exact size_joinR _ (by omega)
     have hs1 : P1.size ≤ 1000000 := by rw [← hP1]; exact size_joinR _ (by rw [List.length_take]; omega)
     have hs2 : P2.size ≤ 1000000 := by rw [← hP2]; exact size_joinR _ (by rw [List.length_drop]; have := HI.out.2; omega)
     have hcv := fun W => conv_runes (R := rs) hvr (by omega) W
     rw [hAL, hrl] at hcv
     have HCV := Lib.hid hcv
     have Had := Lib.hid had
     have HC1 := Lib.hid hc1
     have HC2 := Lib.hid hc2
     have HKT := Lib.hid kT
     have hw : IntKind.i64.wrap ((i : Int) + (rl : Int)) = (i : Int) + (rl : Int) := by simp only [IntKind.wrap_i64]; omega
     have hb1 : (0 : Int) ≤ (i : Int) ∧ (i : Int) ≤ (gc : Int) := ⟨by omega, by omega⟩
     have hb2' : (0 : Int) ≤ (i : Int) ∧ (i : Int) ≤ (ml : Int) := ⟨by omega, by omega⟩
     have hb5 : ¬ 9223372036854775807 < P1.size + AL.size := by omega
     have hb6 : ¬ 9223372036854775807 < (P1 ++ AL).size + P2.size := by rw [ByteArray.size_append]; omega
     have hb7 : ¬ 9223372036854775807 < P1.size + AL.size + P2.size := by omega
     rw [hAL]
     clear hc1 hc2 hP1 hP2 hAL had kT hcv hks hmb wQ hrow0 hD hd t1 t2 t3 t4 hvr hle hrl
     go_wp2_with fail
     refine k1.mono ?_
     clear k1 m0 m1 m2'
     rintro e wa ⟨rfl, Sa, hda⟩
     have HDA := Lib.hid (show ∃ S, DBox C.toCC w2.heap.size w2 (.pointer (some ⟨B, 0, none⟩)) m S (boxAt M (.cells #[.int .i64 3, .int .i64 Q, .int .i64 Q] 30 (0, 0)) (boxAt g og noBox)) wa.drew from ⟨_, hda.below (Below.refl _ _).drew⟩)
     clear hda
     go_upto_region 28 with fail
     refine wp_region_held_drew (S := fun X => ∃ S, DBox C.toCC w2.heap.size w2 (.pointer (some ⟨B, 0, none⟩)) m S (boxAt M (.cells #[.int .i64 3, .int .i64 Q, .int .i64 Q] 30 (0, 0)) (boxAt g og noBox)) X) (by kernel_rfl) HDA.out (fun hHeld => ?_)
     refine tk0 (i := 0) rfl ?_
     try simp only [td]
     refine tk0 (i := 1) rfl ?_
     try simp only [td]
     refine tk0 (i := 2) rfl ?_
     try simp only [td]
     refine tk0 (i := 3) rfl ?_
     try simp only [td]
     refine tk0 (i := 4) rfl ?_
     try simp only [td]
     refine tk0 (i := 5) rfl ?_
     try simp only [td]
     refine rd 6 rfl fun K hK => ?_
     obtain ⟨g2, gc2, wcv, hcv, _, _, hbc⟩ := HCV.out wa.drew
     go_simp
     clear hcv
     refine hK.out _ _ ((by obtain ⟨Sx, hDx⟩ := hHeld; exact ⟨Sx, hDx.below hbc⟩)) (fun hX => ?_)
     clear hK K hHeld
     have hHeld := hX
     clear hX
     refine tk0 (i := 7) rfl ?_
     try simp only [td]
     refine tk0 (i := 8) rfl ?_
     try simp only [td]
     refine tk0 (i := 9) rfl ?_
     try simp only [td]
     refine tk0 (i := 10) rfl ?_
     try simp only [td]
     refine tk0 (i := 11) rfl ?_
     try simp only [td]
     refine tk0 (i := 12) rfl ?_
     try simp only [td]
     refine tk0 (i := 14) rfl ?_
     try simp only [td]
     refine tk0 (i := 15) rfl ?_
     try simp only [td]
     refine tk0 (i := 16) rfl ?_
     try simp only [td]
     refine tk (i := 17) (v := ?_) rfl (Or.inl ⟨rfl, ?hy26⟩) ?_
     case hy26 =>
      intro W hS
      obtain ⟨Sx, hDx⟩ := hS
      have hg1 := HROW.out W (hDx.box g _ (two_boxes HMG.out _ _).2).1
      have z1 := HC1.out W (by rw [Hml.out]; exact hg1)
      have z2 := HC2.out W (by rw [Hml.out]; exact hg1)
      clear hDx hg1
      go_simp
      try with_reducible rfl
     try simp only [td]
     refine tk0 (i := 18) rfl ?_
     try simp only [td]
     refine tk0 (i := 19) rfl ?_
     try simp only [td]
     refine tk0 (i := 20) rfl ?_
     try simp only [td]
     refine tk0 (i := 21) rfl ?_
     try simp only [td]
     refine tk (i := 22) (v := .slice (some ad) (ml - i) (gc - i)) rfl (Or.inl ⟨rfl, ?hy31⟩) ?_
     case hy31 =>
      intro W hS
      go_simp
      exact Had.out
     try simp only [td]
     refine tk (i := 23) (v := ?_) rfl (Or.inl ⟨rfl, ?hy32⟩) ?_
     case hy32 =>
      intro W hS
      obtain ⟨Sx, hDx⟩ := hS
      have hg1 := HROW.out W (hDx.box g _ (two_boxes HMG.out _ _).2).1
      have z1 := HC1.out W (by rw [Hml.out]; exact hg1)
      have z2 := HC2.out W (by rw [Hml.out]; exact hg1)
      clear hDx hg1
      go_simp
      try with_reducible rfl
     try simp only [td]
     refine tk0 (i := 24) rfl ?_
     try simp only [td]
     refine rd 13 rfl fun K hK => ?_
     go_simp
     go_wp2_with (go_at_call 21; refine (HKT.out _ hHeld).mono ?_; rintro e wq ⟨rfl, hq⟩)
     refine hK.out _ _ (hq) (fun hX => ?_)
     clear hK K hHeld
     have hHeld := hX
     clear hX
     refine tk0 (i := 25) rfl ?_
     try simp only [td]
     refine tk0 (i := 26) rfl ?_
     try simp only [td]
     refine tk0 (i := 27) rfl ?_
     try simp only [td]
     refine wpAnyH_done (by kernel_rfl) ?_ _
     obtain ⟨Sz, hdz⟩ := hHeld
     have hz := Hb2.out.trans (hdz.up.mono Hb2.out.size)
     clear hdz
     go_wp2
     go_ret
     exact ⟨rfl, hz⟩
end Go.Proofs.YtmedickofiielaaGreatDoor
