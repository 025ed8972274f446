/- Texts of this proof, joined. -/
import Derived.Test.YtmedickofiielaaGreatDoorCellsCount
import Derived.RangeFuncNested
import Derived.RangeFuncBound
import Derived.RangeFuncCalls
import Derived.RangeFuncLeaves
import Derived.RangeFuncBox
import Derived.Shelf.Abstract
import Derived.Shelf.RegionOpen
import Derived.OwnWalkIn
import Derived.TacticsInMore
import Derived.LoopNIn
import Derived.LoopIn
import Derived.Lib.PathFns
import Derived.Outline
import Derived.Test.YtmedickofiielaaGreatDoorGSpansPlain
import Derived.Test.YtmedickofiielaaGreatDoorBridge
import Derived.Test.YtmedickofiielaaGreatDoorGReads64
import Derived.Test.YtmedickofiielaaGreatDoorGRefOps
namespace Go.Proofs.YtmedickofiielaaGreatDoor
open Go.RowKit Go.Shelf
attribute [local go_sem] Oper.semAt_some

structure PB where
 cs : List PCell
 v : Value
def kV (x : PB) : List Value := [.int .i64 (liveN x.cs : Nat), .int .i64 (goneN x.cs : Nat), x.v]
def kCells : List PB → List Value
 | [] => []
 | x :: r => kV x ++ kCells r
theorem kCells_append : ∀ a b, kCells (a ++ b) = kCells a ++ kCells b
 | [], _ => rfl
 | c :: r, b => by show kV c ++ kCells (r ++ b) = _; rw [kCells_append r b, ← List.append_assoc]; rfl
theorem kCells_length : ∀ l, (kCells l).length = l.length * 3
 | [] => rfl
 | c :: r => by
  show (kV c ++ kCells r).length = (r.length + 1) * 3
  rw [List.length_append, kCells_length r, show (kV c).length = 3 from rfl]
  omega
theorem kCells_at : ∀ (l : List PB) (i j : Nat) (c : PB), l[i]? = some c → j < 3 → (kCells l)[i * 3 + j]? = (kV c)[j]?
 | [], i, _, _, h, _ => by simp at h
 | d :: r, 0, j, c, h, hj => by
  obtain rfl : d = c := by simpa using h
  show (kV d ++ kCells r)[0 * 3 + j]? = _
  rw [List.getElem?_append_left (by show 0 * 3 + j < 3; omega), show 0 * 3 + j = j by omega]
 | d :: r, i + 1, j, c, h, hj => by
  show (kV d ++ kCells r)[(i + 1) * 3 + j]? = _
  rw [List.getElem?_append_right (by show 3 ≤ (i + 1) * 3 + j; omega), show (i + 1) * 3 + j - (kV d).length = i * 3 + j by show (i + 1) * 3 + j - 3 = _; omega]
  exact kCells_at r i j c (by simpa using h) hj
def catB (bs : List PB) : List PCell := bs.flatMap (·.cs)
theorem catB_append (a b : List PB) : catB (a ++ b) = catB a ++ catB b := by simp [catB]
theorem catB_take {bs : List PB} {k : Nat} {x : PB} (h : bs[k]? = some x) : catB (bs.take (k + 1)) = catB (bs.take k) ++ x.cs := by
 rw [List.take_add_one, h, catB_append]
 simp [catB]
theorem catB_split {bs : List PB} {k : Nat} {x : PB} (h : bs[k]? = some x) : catB bs = catB (bs.take k) ++ x.cs ++ catB (bs.drop (k + 1)) := by
 conv => lhs; rw [← List.take_append_drop (k + 1) bs]
 rw [catB_append, catB_take h]
def begL (bs : List PB) : List (Fin bs.length) := List.finRange bs.length
def begK (bs : List PB) (k : Nat) : List (Fin bs.length) := (List.finRange bs.length).take k
theorem begK_next (bs : List PB) (k : Nat) (h : k < bs.length) : begK bs (k + 1) = begK bs k ++ [⟨k, h⟩] := by
 unfold begK
 rw [List.take_add_one]
 congr 1
 simp [h]
theorem begK_length (bs : List PB) (k : Nat) (h : k ≤ bs.length) : (begK bs k).length = k := by simp [begK, h]
theorem begK_pre (bs : List PB) (k : Nat) : begK bs k <+: begL bs := List.take_prefix _ _
theorem begK_all (bs : List PB) : begK bs bs.length = begL bs := by unfold begK begL; rw [List.take_of_length_le (by simp)]
abbrev encB (bs : List PB) (x : Fin bs.length) : Array Value := #[.int .i64 (x.val : Int), .int .i64 ((catB (bs.take x.val)).length : Nat)]
def catX (bs : List PB) (pre : List (Fin bs.length)) : List PCell := pre.flatMap fun i => bs[i].cs
theorem catX_snoc (bs : List PB) (pre : List (Fin bs.length)) (x : Fin bs.length) : catX bs (pre ++ [x]) = catX bs pre ++ bs[x].cs := by simp [catX]
theorem catX_all (bs : List PB) : catX bs (begL bs) = catB bs := by
 unfold catX begL catB
 have h : bs = (List.finRange bs.length).map fun i => bs[i] := by
  apply List.ext_getElem
  ·simp
  ·intro i h1 h2; simp
 conv => rhs; rw [h]
 rw [List.flatMap_map]
theorem catX_le {bs : List PB} {M : Nat} (hM : ∀ x ∈ bs, x.cs.length ≤ M) (pre : List (Fin bs.length)) : (catX bs pre).length ≤ pre.length * M := by
 unfold catX
 induction pre with
 | nil => simp
 | cons a r ih =>
  rw [List.flatMap_cons, List.length_append, List.length_cons, Nat.add_mul]
  have := hM bs[a] (List.getElem_mem _)
  omega

def RowT (t : TypeId) : Prop := t = 120 ∨ t = 21 ∨ t = 48 ∨ t = 109
def KF (n₀ m₁ : Nat) (W W' : World) : Prop := Below n₀ W W' ∧ ∀ (i : Nat) (c : Array Value) (t : TypeId) (fr : Nat × Nat), m₁ ≤ i → ¬ RowT t → W.heap[i]? = some (.cells c t fr) → W'.heap[i]? = some (.cells c t fr)
theorem kf_t {n₀ m₁ : Nat} {X Y Z : World} (h : KF n₀ m₁ X Y) (k : KF n₀ m₁ Y Z) : KF n₀ m₁ X Z := ⟨h.1.trans k.1, fun i c t fr hi ht q => k.2 i c t fr hi ht (h.2 i c t fr hi ht q)⟩
theorem kf_b {n₀ m₁ : Nat} {w : World} (hn : n₀ ≤ w.heap.size) (W : World) (l : Nat) (o o' : Obj) (hl : w.heap.size ≤ l) (h : W.heap[l]? = some o) (hc : o.isCells = false) (hw : o.isWalk = false) : KF n₀ m₁ W (W.putObj l o') := by
 refine ⟨belowK_b hn W l o o' hl h hc hw, fun i c t fr _ _ q => ?_⟩
 by_cases e : i = l
 ·subst e
  rw [q] at h
  cases h
  cases hc
 ·rw [World.putObj_heap_other (by omega)]
  exact q
theorem KF.refl (n₀ m₁ : Nat) (W : World) : KF n₀ m₁ W W := ⟨Below.refl _ _, fun _ _ _ _ _ _ q => q⟩
theorem KF.below {n₀ m₁ : Nat} {W W' : World} (hn : n₀ ≤ W.heap.size) (h : Below W.heap.size W W') : KF n₀ m₁ W W' := ⟨h.mono hn, fun i _ _ _ _ _ q => (h.block i (Array.getElem?_eq_some_iff.1 q).1).trans q⟩
theorem KF.drew {n₀ m₁ : Nat} {W W' : World} (h : KF n₀ m₁ W W') : KF n₀ m₁ W W'.drew := ⟨h.1.drew, h.2⟩
theorem KF.up {n₀ n₁ m₁ m₂ : Nat} {W W' : World} (h : KF n₀ m₁ W W') (hn : n₁ ≤ n₀) (hm : m₁ ≤ m₂) : KF n₁ m₂ W W' := ⟨h.1.mono hn, fun i c t fr hi ht q => h.2 i c t fr (Nat.le_trans hm hi) ht q⟩
theorem KF.set {n₀ m₁ B o : Nat} {W : World} {u : Value} (hn : n₀ ≤ B) (hm : B < m₁) : KF n₀ m₁ W (W.setCell ⟨B, o, none⟩ u) :=
 ⟨(Below.refl n₀ W).setCell (p := ⟨B, o, none⟩) hn u, fun i _ _ _ hi _ q => (Below.heap_setCell _ _ _ _ (show i ≠ B by omega)).trans q⟩
theorem KF.alloc {n₀ m₁ : Nat} {W : World} (hn : n₀ ≤ W.heap.size) (o : Obj) : KF n₀ m₁ W (W.alloc o) := KF.below hn ((Below.refl _ W).alloc (Nat.le_refl _) o)
theorem KF.grown {n₀ m₁ : Nat} {W W' : World} {r : Option Nat} (hg : W.grownBy W' r) (hn : n₀ ≤ W.heap.size) (hr : ∀ g, r = some g → n₀ ≤ g ∧ (g < m₁ ∨ ∃ c t fr, W.heap[g]? = some (.cells c t fr) ∧ RowT t)) : KF n₀ m₁ W W' := by
 refine ⟨(Below.refl n₀ W).grown hg hn (fun g e => (hr g e).1), fun i c t fr hi ht q => ?_⟩
 by_cases e : some i = r
 ·obtain ⟨_, h⟩ := hr i e.symm
  rcases h with h | ⟨c', t', fr', h1, h2⟩
  ·omega
  ·rw [q] at h1
   cases h1
   exact absurd h2 ht
 ·exact (hg.block i (Array.getElem?_eq_some_iff.1 q).1 e).trans q

theorem row_turn {W W' : World} {row : Option Nat} {i : Nat} {c : Array Value} {t : TypeId} {fr : Nat × Nat} (h : W.heap[i]? = some (.cells c t fr)) (hg : W.grownBy W' row) (hr : ∀ r, row = some r → ∃ o : Obj, W.heap[r]? = some o ∧ o.isCells = false) : W'.heap[i]? = some (.cells c t fr) := by
 refine (hg.block i (box_lt h) fun e => ?_).trans h
 obtain ⟨o, ho, hc⟩ := hr i e.symm
 rw [h] at ho
 cases ho
 cases hc
theorem row_up {W W' : World} {i : Nat} {o : Obj} (h : W.heap[i]? = some o) (hb : Below W.heap.size W W') : W'.heap[i]? = some o := (hb.block i (box_lt h)).trans h
theorem row_al {W : World} {i : Nat} {o : Obj} (h : W.heap[i]? = some o) (x : Obj) : (W.alloc x).heap[i]? = some o := (Below.heap_alloc _ _ _ (box_lt h)).trans h
theorem heap_new1 (w : World) (x o : Obj) : ((w.alloc x).alloc o).heap[w.heap.size + 1]? = some o := by
 have := heap_new (w.alloc x) o
 rwa [World.size_alloc] at this
theorem heap_new2 (w : World) (x y o : Obj) : (((w.alloc x).alloc y).alloc o).heap[w.heap.size + 1 + 1]? = some o := by
 have := heap_new1 (w.alloc x) y o
 rwa [World.size_alloc] at this
theorem heap_new3 (w : World) (x y z o : Obj) : ((((w.alloc x).alloc y).alloc z).alloc o).heap[w.heap.size + 1 + 1 + 1]? = some o := by
 have := heap_new2 (w.alloc x) y z o
 rwa [World.size_alloc] at this
theorem Keep.others {S : Nat → Prop} {W W' : World} (h : Keep S W.heap.size W W') (hs : ∀ k, S k → ∀ o, W.heap[k]? = some o → o.isCells = true) : KeepsOthers W W' :=
 ⟨h.size, fun k o hk ho => (h.block k (box_lt hk) fun q => by rw [hs k q o hk] at ho; cases ho).trans hk⟩
theorem KF.of_keep {n₀ m₁ : Nat} {S : Nat → Prop} {W W' : World} (h : Keep S W.heap.size W W') (hn : n₀ ≤ W.heap.size) (hS : ∀ k, S k → n₀ ≤ k ∧ k < m₁) : KF n₀ m₁ W W' :=
 ⟨h.below hn fun k q => (hS k q).1, fun i _ _ _ hi _ q => (h.block i (box_lt q) fun s => by have := hS i s; omega).trans q⟩
theorem Keep.row {S : Nat → Prop} {W W' : World} {i : Nat} {o : Obj} (h : Keep S W.heap.size W W') (hi : W.heap[i]? = some o) (hS : ¬ S i) : W'.heap[i]? = some o := (h.block i (box_lt hi) hS).trans hi
theorem others_below {W W' : World} (h : Below W.heap.size W W') : KeepsOthers W W' := ⟨h.size, fun k _ hk _ => (h.block k (box_lt hk)).trans hk⟩
structure DocR (w : World) (B : Nat) (bv nm : Value) (bs : List PB) : Prop where
 box : w.heap[B]? = some (.cells #[bv, nm] 90 (0, 0))
 row : RowR 3 w bv bs.length (kCells bs)
 cells : ∀ x ∈ bs, CAt w x.v x.cs
 room : (catB bs).length ≤ 100000
 few : bs.length ≤ 1000000
theorem DocR.below {w w' : World} {B : Nat} {bv nm : Value} {bs : List PB} (h : DocR w B bv nm bs) (hb : Below w.heap.size w w') : DocR w' B bv nm bs :=
 ⟨(hb.block B (box_lt h.box)).trans h.box, h.row.below hb, fun x hx => (h.cells x hx).below hb, h.room, h.few⟩
theorem DocR.at {w : World} {B : Nat} {bv nm : Value} {bs : List PB} (h : DocR w B bv nm bs) {k : Nat} {x : PB} (hk : bs[k]? = some x) : ∃ g off cap, bv = .slice (some ⟨g, off, none⟩) bs.length cap ∧
  w.cell? ⟨g, off + k * 3, none⟩ = some (.int .i64 (liveN x.cs : Nat)) ∧ w.cell? ⟨g, off + k * 3 + 1, none⟩ = some (.int .i64 (goneN x.cs : Nat)) ∧ w.cell? ⟨g, off + k * 3 + 2, none⟩ = some x.v := by
 obtain ⟨_, ao, cap, rfl, h2⟩ := h.row
 have hl := (List.getElem?_eq_some_iff.1 hk).1
 obtain ⟨b, off, rfl, hc⟩ := h2 (by omega)
 have e : ∀ j, j < 3 → w.cell? ⟨b, off + k * 3 + j, none⟩ = (kV x)[j]? := fun j hj => by
  have q := kCells_at bs k j x hk hj
  have hlt : j < (kV x).length := hj
  rw [List.getElem?_eq_getElem hlt] at q ⊢
  rw [Nat.add_assoc]
  exact hc _ _ q
 exact ⟨b, off, cap, rfl, e 0 (by decide), e 1 (by decide), e 2 (by decide)⟩
theorem catB_le {bs : List PB} {k : Nat} {x : PB} (h : bs[k]? = some x) : (catB (bs.take k)).length + x.cs.length ≤ (catB bs).length := by
 rw [catB_split h]
 simp only [List.length_append]
 omega

set_option maxRecDepth 100000 in
set_option maxHeartbeats 4000000 in
theorem begins1_in (n : Nat) (hn : 1 ≤ n) (l Bd n₀ m₁ B : Nat) (bv nm : Value) (bs : List PB) (w₀ : World) (h₀ : n₀ = w₀.heap.size) (hR : DocR w₀ B bv nm bs) (J Jx : List (Fin bs.length) → World → Prop)
  (hY : ∀ pre x W, J pre W → pre.length < bs.length → YieldAt Fence.wide (n - 1) Tryz.prog l (encB bs x) W fun e W' =>
   (e = .returned (.bool true) ∧ J (pre ++ [x]) W' ∧ KF n₀ m₁ W W') ∨ (e = .returned (.bool false) ∧ Jx (pre ++ [x]) W'))
  (W : World) (hb0 : Below n₀ w₀ W) (hJ : AbidesFrom W.heap.size J) (hBd : W.heap[Bd]? = some (.cells #[.pointer (some ⟨B, 0, none⟩)] 27 (0, 0))) (hm : m₁ ≤ Bd) (h0 : J [] W) :
  CallsIn Fence.wide n Tryz.prog 81 #[.func (.yield l) #[] #[], .pointer (some ⟨Bd, 0, none⟩)] W fun e W' => (∃ v, e = .returned v) ∧
   ((∃ ys, ys = begL bs ∧ J ys W') ∨ (∃ pre, pre <+: begL bs ∧ Jx pre W')) := by
 have hRw := fun W' (h : Below n₀ w₀ W') => hR.below (h₀ ▸ h)
 have hS := fun a b W (h1 : -1000000000000000 ≤ a ∧ a ≤ 1000000000000000) (h2 : -1000000000000000 ≤ b ∧ b ≤ 1000000000000000) => csize_any a b W h1 h2
 obtain ⟨ao, cap, hbv, _⟩ := hR.row.2
 subst hbv
 obtain ⟨N, hN⟩ : ∃ N, bs.length = N := ⟨_, rfl⟩
 have hfew := hR.few
 have hroom := hR.room
 rw [hN] at hfew
 have HN := Lib.hid hN
 have b0 := (hRw W hb0).box
 have d0 := box_cell hBd 0
 rw [hN] at b0
 have q0 := box_cell b0 0
 clear b0
 refine callsIn_of_wp Tryz.func81 rfl trivial ?_ rfl
 simp only [Tryz.ntmps81, List.size_toArray, List.length_cons, List.length_nil, Nat.reduceAdd, Nat.reduceSub, Array.replicate_succ, Array.replicate_zero, List.push_toArray, List.append_toArray, List.nil_append, List.cons_append]
 gi_wp2
 clear d0 q0
 have hbd0 : (catB (bs.take 0)).length = 0 := rfl
 gi_loopw [3, 12] (fun fr p wr => ∃ k : Nat, p = .int .i64 k ∧ fr = .int .i64 ((catB (bs.take k)).length : Nat) ∧ k ≤ N ∧ J (begK bs k) wr ∧ Below n₀ w₀ wr ∧ wr.heap[Bd]? = some (.cells #[.pointer (some ⟨B, 0, none⟩)] 27 (0, 0)))
  (fun _ p _ => N - (intOf p).toNat)
 case atStart => exact ⟨0, rfl, rfl, Nat.zero_le _, h0, hb0, hBd⟩
 case round =>
  obtain ⟨k, rfl, rfl, hk, hJs, hbw, hbd⟩ := hrel
  by_cases hlt : k < N
  ·obtain ⟨x, hx⟩ : ∃ x, bs[k]? = some x := ⟨_, List.getElem?_eq_getElem (by rw [HN.out]; exact hlt)⟩
   have hkb : k < bs.length := by rw [HN.out]; exact hlt
   have hnx := begK_next bs k hkb
   have hct : (catB (bs.take (k + 1))).length = (catB (bs.take k)).length + x.cs.length := by rw [catB_take hx, List.length_append]
   have hle := catB_le hx
   have hll := liveN_gone x.cs
   have hgrow : ∀ w1, Below wr.heap.size wr w1 → wr.grownBy w1 none := fun w1 hb => ⟨hb.os, hb.tape, hb.output, hb.size, fun i hi _ => hb.block i hi⟩
   obtain ⟨F, hF⟩ : ∃ F, (catB (bs.take k)).length = F := ⟨_, rfl⟩
   rw [hF] at hct hle
   rw [hF]
   obtain ⟨L, hL⟩ : ∃ L, liveN x.cs = L := ⟨_, rfl⟩
   obtain ⟨G, hG⟩ : ∃ G, goneN x.cs = G := ⟨_, rfl⟩
   rw [hL, hG] at hll
   rw [← hll] at hct hle
   have HX := Lib.hid (And.intro hx (And.intro hL hG))
   have Hnx := Lib.hid hnx
   have Hct := Lib.hid hct
   have HJs := Lib.hid hJs
   have HbW := Lib.hid hbw
   have HRw := Lib.hid hRw
   have HR := Lib.hid hR
   have HS := Lib.hid hS
   have Hle := Lib.hid (And.intro hle hroom)
   obtain ⟨fn, tmps, assign, body, hy, hRnd⟩ := hY (begK bs k) ⟨k, hkb⟩ _ hJs (by rw [begK_length _ _ (Nat.le_of_lt hkb)]; exact hkb)
   dsimp only [encB] at hy
   rw [hF] at hy
   clear hnx hct hle hll hgrow hF hL hG hx hRw hR hJs hbw hN hS hroom
   gi_wp2
   try (rw [hy]; gi_wp2)
   refine hRnd.mono ?_
   clear hy hRnd
   rintro e W3 (⟨rfl, hJ3, hk3⟩ | ⟨rfl, hJx3⟩)
   ·have hw3 : Below n₀ w₀ W3 := HbW.out.trans hk3.1
    have hbd3 := hk3.2 _ _ _ _ hm (by unfold RowT; decide) hbd
    have hd3 := HRw.out W3 hw3
    obtain ⟨g, off, cp, hv, c0, c1, _⟩ := hd3.at HX.out.1
    rw [HX.out.2.1] at c0
    rw [HX.out.2.2] at c1
    rw [HN.out] at hv
    cases hv
    have e0 := box_cell hbd3 0
    have bx := hd3.box
    rw [HN.out] at bx
    have e1 := box_cell bx 0
    have hi0 : (0 : Int) ≤ (k : Int) ∧ (k : Int) < (N : Int) := ⟨by omega, by omega⟩
    have HW3 := Lib.hid hw3
    have HB3 := Lib.hid hbd3
    have HJ3 := Lib.hid hJ3
    clear hw3 hbd3 hd3 bx hJ3 hk3 hbd
    have hLG := Hle.out
    have hs1 : IntKind.i64.wrap ((F : Int) + ((L : Int) + (G : Int))) = (F : Int) + ((L : Int) + (G : Int)) := IntWalk.i64_in _ (by omega)
    have hS' := HS.out (L : Int) (G : Int) W3 (by omega) (by omega)
    clear hLG
    gi_wp2_with (refine ⟨trivial, ?_⟩; gi_at_call 40; refine (callsIn_wide.2 hS').mono ?_; clear hS'; rintro e W4 ⟨rfl, hb4⟩)
    go_roundw
    case rel =>
     refine ⟨k + 1, by go_num, ?_, by omega, ?_, HW3.out.trans (hb4.mono (by have := HW3.out.size; omega)), ?_⟩
     ·rw [Hct.out]
      exact congrArg (Value.int .i64) (by push_cast; rfl)
     ·rw [Hnx.out]
      exact hJ _ W3 _ none HJ3.out ⟨hb4.os, hb4.tape, hb4.output, hb4.size, fun i hi _ => hb4.block i hi⟩ (fun r e => by cases e)
     ·exact (hb4.block _ (box_lt HB3.out)).trans HB3.out
    case measure => simp [intOf]; omega
   ·gi_wp2
    refine bodyPost_ret (results_none rfl _ _ _) rfl ?_
    refine ⟨⟨_, rfl⟩, .inr ⟨_, ?_, hJx3⟩⟩
    rw [← Hnx.out]
    exact begK_pre bs (k + 1)
  ·obtain rfl : k = N := by omega
   have hall : begK bs k = begL bs := by rw [← HN.out]; exact begK_all bs
   rw [hall] at hJs
   gi_wp2
   go_end0
   exact ⟨⟨_, rfl⟩, .inl ⟨_, rfl, hJs⟩⟩

theorem begins_stops (n : Nat) (hn : 1 ≤ n) (Bd m₁ B : Nat) (bv nm : Value) (bs : List PB) (w₀ : World) (hR : DocR w₀ B bv nm bs) (w : World) (hb0 : Below w₀.heap.size w₀ w) (hBd : w.heap[Bd]? = some (.cells #[.pointer (some ⟨B, 0, none⟩)] 27 (0, 0))) (hm : m₁ ≤ Bd) :
  SeqStopsK Fence.wide n Tryz.prog 81 #[.pointer (some ⟨Bd, 0, none⟩)] (encB bs) (KF w₀.heap.size m₁) (fun ys => ys = begL bs) (fun pre => pre <+: begL bs) bs.length w := fun l J Jx W hW hJ _ hY h0 =>
 begins1_in n hn l Bd w₀.heap.size m₁ B bv nm bs w₀ rfl hR J Jx hY W (hb0.trans (hW.mono hb0.size)) hJ ((hW.block _ (box_lt hBd)).trans hBd) hm h0
set_option maxHeartbeats 1000000 in
theorem begins_any (p : Option Addr) (w : World) :
  Calls Tryz.prog 52 #[.pointer p] w fun e w' => e = .returned (.func (.func 81) #[] #[.pointer (some ⟨w.heap.size, 0, none⟩)]) ∧ w' = w.alloc (.cells #[.pointer p] 27) := by
 go_enter Tryz.func52, Tryz.ntmps52
 go_wp2
 go_ret
 exact ⟨rfl, rfl⟩
end Go.Proofs.YtmedickofiielaaGreatDoor

namespace Go.Proofs.YtmedickofiielaaGreatDoor
open Go.RowKit Go.Shelf
attribute [local go_sem] Oper.semAt_some

set_option maxRecDepth 100000 in
set_option maxHeartbeats 4000000 in
theorem whole_any (B : Nat) (bv nm : Value) (bs : List PB) (w : World) (hR : DocR w B bv nm bs) :
  Calls Tryz.prog 28 #[.pointer (some ⟨B, 0, none⟩)] w fun e W' => e = .returned (cntV (liveN (catB bs)) (goneN (catB bs))) ∧ Below w.heap.size w W' := by
 have hbeg := fun W => begins_any (some ⟨B, 0, none⟩) W
 have hst := fun Bd m₁ W h1 h2 h3 => begins_stops 3 (by decide) Bd m₁ B bv nm bs w hR W h1 h2 h3
 have hall := liveN_gone (catB bs)
 have hroom := hR.room
 have HR := Lib.hid hR
 clear hR
 refine (callsIn_wide (n := 4)).1 ?_
 refine callsIn_of_wp_marks Tryz.func28 rfl trivial ?_ rfl
 simp only [Tryz.ntmps28, List.size_toArray, List.length_cons, List.length_nil, Nat.reduceAdd, Nat.reduceSub, Array.replicate_succ, Array.replicate_zero, List.push_toArray, List.append_toArray, List.nil_append, List.cons_append]
 gi_wp2_with (refine ⟨trivial, ?_⟩; gi_at_call 52; refine (callsIn_wide.2 (hbeg _)).mono ?_; rintro e _ ⟨rfl, rfl⟩)
 have A0 := row_al (row_al (row_al (heap_new w (.cells #[.pointer (some ⟨B, 0, none⟩)] 27)) (.cells #[.int .i64 0, .int .i64 0] 70)) (.cells #[.int .i64 0, .int .i64 0] 70)) (.cells #[.pointer (some ⟨B, 0, none⟩)] 27)
 have A1 := row_al (row_al (heap_new1 w (.cells #[.pointer (some ⟨B, 0, none⟩)] 27) (.cells #[.int .i64 0, .int .i64 0] 70)) (.cells #[.int .i64 0, .int .i64 0] 70)) (.cells #[.pointer (some ⟨B, 0, none⟩)] 27)
 have A2 := row_al (heap_new2 w (.cells #[.pointer (some ⟨B, 0, none⟩)] 27) (.cells #[.int .i64 0, .int .i64 0] 70) (.cells #[.int .i64 0, .int .i64 0] 70)) (.cells #[.pointer (some ⟨B, 0, none⟩)] 27)
 have A3 := heap_new3 w (.cells #[.pointer (some ⟨B, 0, none⟩)] 27) (.cells #[.int .i64 0, .int .i64 0] 70) (.cells #[.int .i64 0, .int .i64 0] 70) (.cells #[.pointer (some ⟨B, 0, none⟩)] 27)
 have AB : Below w.heap.size w ((((w.alloc (.cells #[.pointer (some ⟨B, 0, none⟩)] 27)).alloc (.cells #[.int .i64 0, .int .i64 0] 70)).alloc (.cells #[.int .i64 0, .int .i64 0] 70)).alloc (.cells #[.pointer (some ⟨B, 0, none⟩)] 27)) := ((((Below.refl _ w).alloc (Nat.le_refl _) _).alloc (by simp) _).alloc (by simp; omega) _).alloc (by simp; omega) _
 have AS : ((((w.alloc (.cells #[.pointer (some ⟨B, 0, none⟩)] 27)).alloc (.cells #[.int .i64 0, .int .i64 0] 70)).alloc (.cells #[.int .i64 0, .int .i64 0] 70)).alloc (.cells #[.pointer (some ⟨B, 0, none⟩)] 27)).heap.size = w.heap.size + 1 + 1 + 1 + 1 := by simp
 generalize (((w.alloc (.cells #[.pointer (some ⟨B, 0, none⟩)] 27)).alloc (.cells #[.int .i64 0, .int .i64 0] 70)).alloc (.cells #[.int .i64 0, .int .i64 0] 70)).alloc (.cells #[.pointer (some ⟨B, 0, none⟩)] 27) = w3 at A0 A1 A2 A3 AB AS ⊢
 have hst := hst (w.heap.size + 1 + 1 + 1) (w.heap.size + 1 + 1 + 1) w3 AB A3 (Nat.le_refl _)
 have hcs : ∀ x ∈ bs, x.cs.length ≤ 100000 := fun x hx => by
  obtain ⟨k, hk, rfl⟩ := List.mem_iff_getElem.1 hx
  have := catB_le (List.getElem?_eq_getElem hk)
  omega
 have hfew := HR.out.few
 refine wpIn_rangeFunc_ownF rfl (by decide) (gf := 81) (lb := #[.pointer (some ⟨w.heap.size + 1 + 1 + 1, 0, none⟩)]) rfl trivial (enters_of Tryz.func81 (by kernel_rfl) rfl)
  hst (fun h k => kf_t h k) (kf_b (by omega)) (Below.refl _ _) (fun _ => rfl)
  (fun pre W => (W.heap[w.heap.size]? = some (.cells #[.pointer (some ⟨B, 0, none⟩)] 27 (0, 0)) ∧ W.heap[w.heap.size + 1]? = some (.cells #[.int .i64 0, .int .i64 0] 70 (0, 0)) ∧
   W.heap[w.heap.size + 1 + 1]? = some (.cells #[.int .i64 (liveN (catX bs pre) : Nat), .int .i64 (goneN (catX bs pre) : Nat)] 70 (0, 0))) ∧ Below w.heap.size w W)
  (fun c pre W => (False) ∧ Below w.heap.size w W)
  (OwnFrom.and (Own.from (fun s A B row hs hg hr => ⟨row_turn hs.1 hg hr, row_turn hs.2.1 hg hr, row_turn hs.2.2 hg hr⟩) _) (ownFrom_below (Nat.le_refl _) (by omega)))
  (fun c => OwnFrom.and (Own.from (fun s A B row hs hg hr => hs.elim) _) (ownFrom_below (Nat.le_refl _) (by omega)))
  ⟨⟨A0, A1, A2⟩, AB⟩
  (fun x => { tmps := #[.pointer (some ⟨B, 0, none⟩), .pointer (some ⟨w.heap.size, 0, none⟩), .pointer (some ⟨w.heap.size + 1, 0, none⟩), .pointer (some ⟨w.heap.size + 1 + 1, 0, none⟩), .int .i64 (x.val : Int), .pointer (some ⟨B, 0, none⟩), .func (.func 81) #[] #[.pointer (some ⟨w.heap.size + 1 + 1 + 1, 0, none⟩)], .int .i64 (x.val : Int), .int .i64 ((catB (bs.take x.val)).length : Nat), undef, undef, undef, undef, undef, undef, undef, undef, undef, undef], defers := [] }) ?assign ?body ?done ?stop
 case assign =>
  intro l x W K hK
  gi_wp2
  exact hK
 case body =>
  rintro l pre x W ⟨⟨c0, c1, c2⟩, hB⟩ hlen
  have hd := HR.out.below hB
  have hk : bs[x.val]? = some bs[x] := List.getElem?_eq_getElem x.isLt
  obtain ⟨g, off, cp, hv, d0, d1, _⟩ := hd.at hk
  have hcx := hcs bs[x] (List.getElem_mem _)
  have hpx := catX_le hcs pre
  have hl1 := liveN_gone bs[x].cs
  have hl2 := liveN_gone (catX bs pre)
  have hbx : pre.length * 100000 ≤ 100000000000 := by omega
  have HL := Lib.hid (liveN_append (catX bs pre) bs[x].cs)
  have HG := Lib.hid (goneN_append (catX bs pre) bs[x].cs)
  have HX := Lib.hid (catX_snoc bs pre x)
  obtain ⟨L, hL⟩ : ∃ L, liveN (catX bs pre) = L := ⟨_, rfl⟩
  obtain ⟨G, hG⟩ : ∃ G, goneN (catX bs pre) = G := ⟨_, rfl⟩
  obtain ⟨l1, hl1'⟩ : ∃ L, liveN bs[x].cs = L := ⟨_, rfl⟩
  obtain ⟨g1, hg1'⟩ : ∃ L, goneN bs[x].cs = L := ⟨_, rfl⟩
  rw [hl1'] at d0 hl1
  rw [hg1'] at d1 hl1
  rw [hL] at c2 hl2
  rw [hG] at c2 hl2
  have HV := Lib.hid (And.intro (And.intro hL hG) (And.intro hl1' hg1'))
  have bx := hd.box
  rw [hv] at bx
  have e0 := box_cell c0 0
  have e1 := box_cell bx 0
  have hi0 : (0 : Int) ≤ (x.val : Int) ∧ (x.val : Int) < (bs.length : Int) := ⟨by omega, by have := x.isLt; omega⟩
  have hadd := cadd_any (w.heap.size + 1 + 1) 0 _ _ (L : Int) (G : Int) (l1 : Int) (g1 : Int) W c2 rfl rfl (by omega) (by omega) (by omega) (by omega)
  have HC := Lib.hid (And.intro c0 (And.intro c1 hB))
  have HA := Lib.hid hadd
  have HC2 := Lib.hid c2
  clear hL hG hl1' hg1' hl1 hl2 hbx hpx hcx hd bx hadd c0 c1 c2 hB hv hk
  gi_wp2_with (refine ⟨trivial, ?_⟩; gi_at_call 56; refine (callsIn_wide.2 HA.out).mono ?_; clear HA; rintro e W4 ⟨⟨v, rfl⟩, r4, k4⟩)
  obtain ⟨q0, q1, q2⟩ := HC.out
  refine ⟨Keep.others k4 (fun k e o ho => by subst e; rw [HC2.out] at ho; cases ho; rfl), KF.of_keep k4 (by have := q2.size; omega) (fun k e => by omega), ⟨⟨Keep.row k4 q0 (by omega), Keep.row k4 q1 (by omega), ?_⟩, q2.trans (k4.below q2.size (fun k e => by omega))⟩⟩
  rw [HX.out, HL.out, HG.out, HV.out.1.1, HV.out.1.2, HV.out.2.1, HV.out.2.2]
  simpa using r4
 case done =>
  rintro D ys W hD rfl ⟨⟨c0, c1, c2⟩, hB⟩ hK
  rw [catX_all] at c2
  have e0 := box_cell c2 0
  have e1 := box_cell c2 1
  have g0 := box_cell c1 0
  have g1 := box_cell c1 1
  have f0 := box_frozen c1 0
  have f1 := box_frozen c1 1
  have HC := Lib.hid (And.intro c1 hB)
  clear c0 c1 c2 hB
  gi_wp2
  have hK1 := (KeepsOthers.setCell W ⟨w.heap.size + 1, 0, none⟩ (.int .i64 (liveN (catB bs) : Nat))).same D _ hK rfl
  have hK2 := (KeepsOthers.setCell (W.setCell ⟨w.heap.size + 1, 0, none⟩ (.int .i64 (liveN (catB bs) : Nat))) ⟨w.heap.size + 1, 1, none⟩ (.int .i64 (goneN (catB bs) : Nat))).same D _ hK1 rfl
  refine ⟨by simp, .inl ⟨_, _, rfl, run_takeDeferred hK2, ?_⟩⟩
  obtain ⟨q1, q2⟩ := HC.out
  have R3 := box_set (box_set q1 0 (.int .i64 (liveN (catB bs) : Nat))) 1 (.int .i64 (goneN (catB bs) : Nat))
  have hB3 := (q2.setCell (p := ⟨w.heap.size + 1, 0, none⟩) (by show w.heap.size ≤ w.heap.size + 1; omega) (.int .i64 (liveN (catB bs) : Nat))).setCell (p := ⟨w.heap.size + 1, 1, none⟩) (by show w.heap.size ≤ w.heap.size + 1; omega) (.int .i64 (goneN (catB bs) : Nat))
  generalize (W.setCell ⟨w.heap.size + 1, 0, none⟩ (.int .i64 (liveN (catB bs) : Nat))).setCell ⟨w.heap.size + 1, 1, none⟩ (.int .i64 (goneN (catB bs) : Nat)) = W3 at R3 hB3 hK2 ⊢
  have R4 : (W3.putObj D (.deferred none)).heap[w.heap.size + 1]? = _ := (World.putObj_heap_other (by omega)).trans R3
  exact ⟨_, results_cell_row (fn := Tryz.f28) (p := 2) rfl _ _ (w.heap.size + 1) 70 _ (0, 0) _ rfl R4 Tryz.underlying70 rfl infoCnt, rfl, hB3.trans (belowK_b (w := w) (Nat.le_refl _) W3 D _ _ (by omega) hK2 rfl rfl)⟩
 case stop =>
  rintro D c pre W hD hpre ⟨hno, _⟩ hK
  exact hno.elim
-- END whole
theorem cnt_field (a b : Int) (w : World) : (Instr.field 70 (.agg #[.int .i64 a, .int .i64 b]) 0).run Tryz.prog w = .ok (.int .i64 a) w := by kernel_rfl
set_option maxRecDepth 100000 in
set_option maxHeartbeats 1000000 in
theorem dsize_any (p : Option Addr) (L G : Nat) (w : World) (hL : L ≤ 100000 ∧ G ≤ 100000) (h : Calls Tryz.prog 28 #[.pointer p] w fun e W' => e = .returned (cntV L G) ∧ Below w.heap.size w W') :
  Calls Tryz.prog 15 #[.pointer p] w fun e W' => e = .returned (.int .i64 ((L + G : Nat) : Int)) ∧ Below w.heap.size w W' := by
 have hS := fun W => csize_any (L : Int) (G : Int) W (by omega) (by omega)
 have H := Lib.hid h
 clear h hL
 go_enter Tryz.func15, Tryz.ntmps15
 go_wp2_with fail
 refine H.out.mono ?_
 rintro e w1 ⟨rfl, hb⟩
 go_wp2_with fail
 refine (hS _).mono ?_
 rintro e w2 ⟨rfl, hb2⟩
 have HB := Lib.hid (hb.trans (hb2.mono hb.size))
 go_wp2
 go_ret
 exact ⟨congrArg (fun z => Ending.returned (.int .i64 z)) (by push_cast; rfl), HB.out⟩
set_option maxRecDepth 100000 in
set_option maxHeartbeats 1000000 in
theorem dlive_any (p : Option Addr) (L G : Nat) (w : World) (h : Calls Tryz.prog 28 #[.pointer p] w fun e W' => e = .returned (cntV L G) ∧ Below w.heap.size w W') :
  Calls Tryz.prog 10 #[.pointer p] w fun e W' => e = .returned (.int .i64 (L : Int)) ∧ Below w.heap.size w W' := by
 have H := Lib.hid h
 clear h
 go_enter Tryz.func10, Tryz.ntmps10
 go_wp2_with fail
 refine H.out.mono ?_
 rintro e w1 ⟨rfl, hb⟩
 have HB := Lib.hid hb
 have hfd := cnt_field
 go_wp2
 go_ret
 exact ⟨rfl, HB.out⟩
end Go.Proofs.YtmedickofiielaaGreatDoor

namespace Go.Proofs.YtmedickofiielaaGreatDoor
open Go.RowKit Go.Shelf
attribute [local go_sem] Oper.semAt_some

set_option maxRecDepth 100000 in
set_option maxHeartbeats 4000000 in
theorem begins1_inL (n : Nat) (hn : 1 ≤ n) (l Bd n₀ m₁ B : Nat) (bv nm : Value) (bs : List PB) (w₀ : World) (h₀ : n₀ = w₀.heap.size) (hR : DocR w₀ B bv nm bs) (J Jx : List (Fin bs.length) → World → Prop)
  (hY : ∀ pre x W, J pre W → pre.length < bs.length → pre = begK bs x.val → YieldAt Fence.wide (n - 1) Tryz.prog l (encB bs x) W fun e W' =>
   (e = .returned (.bool true) ∧ J (pre ++ [x]) W' ∧ KF n₀ m₁ W W') ∨ (e = .returned (.bool false) ∧ Jx (pre ++ [x]) W'))
  (W : World) (hb0 : Below n₀ w₀ W) (hJ : AbidesFrom W.heap.size J) (hBd : W.heap[Bd]? = some (.cells #[.pointer (some ⟨B, 0, none⟩)] 27 (0, 0))) (hm : m₁ ≤ Bd) (h0 : J [] W) :
  CallsIn Fence.wide n Tryz.prog 81 #[.func (.yield l) #[] #[], .pointer (some ⟨Bd, 0, none⟩)] W fun e W' => (∃ v, e = .returned v) ∧
   ((∃ ys, ys = begL bs ∧ J ys W') ∨ (∃ pre, pre <+: begL bs ∧ Jx pre W')) := by
 have hRw := fun W' (h : Below n₀ w₀ W') => hR.below (h₀ ▸ h)
 have hS := fun a b W (h1 : -1000000000000000 ≤ a ∧ a ≤ 1000000000000000) (h2 : -1000000000000000 ≤ b ∧ b ≤ 1000000000000000) => csize_any a b W h1 h2
 obtain ⟨ao, cap, hbv, _⟩ := hR.row.2
 subst hbv
 obtain ⟨N, hN⟩ : ∃ N, bs.length = N := ⟨_, rfl⟩
 have hfew := hR.few
 have hroom := hR.room
 rw [hN] at hfew
 have HN := Lib.hid hN
 have b0 := (hRw W hb0).box
 have d0 := box_cell hBd 0
 rw [hN] at b0
 have q0 := box_cell b0 0
 clear b0
 refine callsIn_of_wp Tryz.func81 rfl trivial ?_ rfl
 simp only [Tryz.ntmps81, List.size_toArray, List.length_cons, List.length_nil, Nat.reduceAdd, Nat.reduceSub, Array.replicate_succ, Array.replicate_zero, List.push_toArray, List.append_toArray, List.nil_append, List.cons_append]
 gi_wp2
 clear d0 q0
 have hbd0 : (catB (bs.take 0)).length = 0 := rfl
 gi_loopw [3, 12] (fun fr p wr => ∃ k : Nat, p = .int .i64 k ∧ fr = .int .i64 ((catB (bs.take k)).length : Nat) ∧ k ≤ N ∧ J (begK bs k) wr ∧ Below n₀ w₀ wr ∧ wr.heap[Bd]? = some (.cells #[.pointer (some ⟨B, 0, none⟩)] 27 (0, 0)))
  (fun _ p _ => N - (intOf p).toNat)
 case atStart => exact ⟨0, rfl, rfl, Nat.zero_le _, h0, hb0, hBd⟩
 case round =>
  obtain ⟨k, rfl, rfl, hk, hJs, hbw, hbd⟩ := hrel
  by_cases hlt : k < N
  ·obtain ⟨x, hx⟩ : ∃ x, bs[k]? = some x := ⟨_, List.getElem?_eq_getElem (by rw [HN.out]; exact hlt)⟩
   have hkb : k < bs.length := by rw [HN.out]; exact hlt
   have hnx := begK_next bs k hkb
   have hct : (catB (bs.take (k + 1))).length = (catB (bs.take k)).length + x.cs.length := by rw [catB_take hx, List.length_append]
   have hle := catB_le hx
   have hll := liveN_gone x.cs
   have hgrow : ∀ w1, Below wr.heap.size wr w1 → wr.grownBy w1 none := fun w1 hb => ⟨hb.os, hb.tape, hb.output, hb.size, fun i hi _ => hb.block i hi⟩
   obtain ⟨F, hF⟩ : ∃ F, (catB (bs.take k)).length = F := ⟨_, rfl⟩
   rw [hF] at hct hle
   rw [hF]
   obtain ⟨L, hL⟩ : ∃ L, liveN x.cs = L := ⟨_, rfl⟩
   obtain ⟨G, hG⟩ : ∃ G, goneN x.cs = G := ⟨_, rfl⟩
   rw [hL, hG] at hll
   rw [← hll] at hct hle
   have HX := Lib.hid (And.intro hx (And.intro hL hG))
   have Hnx := Lib.hid hnx
   have Hct := Lib.hid hct
   have HJs := Lib.hid hJs
   have HbW := Lib.hid hbw
   have HRw := Lib.hid hRw
   have HR := Lib.hid hR
   have HS := Lib.hid hS
   have Hle := Lib.hid (And.intro hle hroom)
   obtain ⟨fn, tmps, assign, body, hy, hRnd⟩ := hY (begK bs k) ⟨k, hkb⟩ _ hJs (by rw [begK_length _ _ (Nat.le_of_lt hkb)]; exact hkb) rfl
   dsimp only [encB] at hy
   rw [hF] at hy
   clear hnx hct hle hll hgrow hF hL hG hx hRw hR hJs hbw hN hS hroom
   gi_wp2
   try (rw [hy]; gi_wp2)
   refine hRnd.mono ?_
   clear hy hRnd
   rintro e W3 (⟨rfl, hJ3, hk3⟩ | ⟨rfl, hJx3⟩)
   ·have hw3 : Below n₀ w₀ W3 := HbW.out.trans hk3.1
    have hbd3 := hk3.2 _ _ _ _ hm (by unfold RowT; decide) hbd
    have hd3 := HRw.out W3 hw3
    obtain ⟨g, off, cp, hv, c0, c1, _⟩ := hd3.at HX.out.1
    rw [HX.out.2.1] at c0
    rw [HX.out.2.2] at c1
    rw [HN.out] at hv
    cases hv
    have e0 := box_cell hbd3 0
    have bx := hd3.box
    rw [HN.out] at bx
    have e1 := box_cell bx 0
    have hi0 : (0 : Int) ≤ (k : Int) ∧ (k : Int) < (N : Int) := ⟨by omega, by omega⟩
    have HW3 := Lib.hid hw3
    have HB3 := Lib.hid hbd3
    have HJ3 := Lib.hid hJ3
    clear hw3 hbd3 hd3 bx hJ3 hk3 hbd
    have hLG := Hle.out
    have hs1 : IntKind.i64.wrap ((F : Int) + ((L : Int) + (G : Int))) = (F : Int) + ((L : Int) + (G : Int)) := IntWalk.i64_in _ (by omega)
    have hS' := HS.out (L : Int) (G : Int) W3 (by omega) (by omega)
    clear hLG
    gi_wp2_with (refine ⟨trivial, ?_⟩; gi_at_call 40; refine (callsIn_wide.2 hS').mono ?_; clear hS'; rintro e W4 ⟨rfl, hb4⟩)
    go_roundw
    case rel =>
     refine ⟨k + 1, by go_num, ?_, by omega, ?_, HW3.out.trans (hb4.mono (by have := HW3.out.size; omega)), ?_⟩
     ·rw [Hct.out]
      exact congrArg (Value.int .i64) (by push_cast; rfl)
     ·rw [Hnx.out]
      exact hJ _ W3 _ none HJ3.out ⟨hb4.os, hb4.tape, hb4.output, hb4.size, fun i hi _ => hb4.block i hi⟩ (fun r e => by cases e)
     ·exact (hb4.block _ (box_lt HB3.out)).trans HB3.out
    case measure => simp [intOf]; omega
   ·gi_wp2
    refine bodyPost_ret (results_none rfl _ _ _) rfl ?_
    refine ⟨⟨_, rfl⟩, .inr ⟨_, ?_, hJx3⟩⟩
    rw [← Hnx.out]
    exact begK_pre bs (k + 1)
  ·obtain rfl : k = N := by omega
   have hall : begK bs k = begL bs := by rw [← HN.out]; exact begK_all bs
   rw [hall] at hJs
   gi_wp2
   go_end0
   exact ⟨⟨_, rfl⟩, .inl ⟨_, rfl, hJs⟩⟩

theorem begins_stopsL (n : Nat) (hn : 1 ≤ n) (Bd m₁ B : Nat) (bv nm : Value) (bs : List PB) (w₀ : World) (hR : DocR w₀ B bv nm bs) (w : World) (hb0 : Below w₀.heap.size w₀ w) (hBd : w.heap[Bd]? = some (.cells #[.pointer (some ⟨B, 0, none⟩)] 27 (0, 0))) (hm : m₁ ≤ Bd) :
  SeqStopsL RowT Fence.wide n Tryz.prog 81 #[.pointer (some ⟨Bd, 0, none⟩)] (encB bs) (KF w₀.heap.size m₁) (fun ys => ys = begL bs) (fun pre => pre <+: begL bs) bs.length (fun pre x => pre = begK bs x.val) w := fun l J Jx W hW hW2 hJ _ hY h0 =>
 begins1_inL n hn l Bd w₀.heap.size m₁ B bv nm bs w₀ rfl hR J Jx (fun pre x W1 h1 h2 h3 => by
  obtain ⟨fn, tmps, assign, body, hy, hr⟩ := hY pre x W1 h1 h2 h3
  exact ⟨fn, tmps, assign, body, hy, hr.mono fun e W' h => h.elim (fun q => .inl ⟨q.1, q.2.1, q.2.2.1⟩) (fun q => .inr ⟨q.1, q.2.1⟩)⟩) W (hb0.trans (hW.mono hb0.size)) (fun s A C row hs hg hr => hJ s A C row hs hg (fun r e => by obtain ⟨q1, o, q2, q3⟩ := hr r e; exact ⟨q1, o, q2, .inl (Obj.not_cells_of_walk q3)⟩)) ((hW.block _ (box_lt hBd)).trans hBd) hm h0
end Go.Proofs.YtmedickofiielaaGreatDoor

namespace Go.Proofs.YtmedickofiielaaGreatDoor
open Go.RowKit Go.Shelf
attribute [local go_sem] Oper.semAt_some

def posOf (g : Bool) : List PCell → Nat → List Nat
 | [], _ => []
 | c :: r, b => (if c.gone = g then [b] else []) ++ posOf g r (b + 1)
theorem posOf_append (g : Bool) : ∀ (a b : List PCell) (k : Nat), posOf g (a ++ b) k = posOf g a k ++ posOf g b (k + a.length)
 | [], b, k => by simp [posOf]
 | c :: r, b, k => by
  show (if c.gone = g then [k] else []) ++ posOf g (r ++ b) (k + 1) = _
  rw [posOf_append g r b (k + 1), ← List.append_assoc, List.length_cons, show k + 1 + r.length = k + (r.length + 1) by omega]
  rfl
theorem posOf_length (g : Bool) : ∀ (l : List PCell) (k : Nat), (posOf g l k).length = if g then goneN l else liveN l
 | [], k => by cases g <;> rfl
 | c :: r, k => by
  show ((if c.gone = g then [k] else []) ++ posOf g r (k + 1)).length = _
  rw [List.length_append, posOf_length g r (k + 1)]
  unfold goneN liveN
  rw [List.countP_cons, List.countP_cons]
  cases g <;> cases c.gone <;> simp <;> omega
theorem posOf_lt (g : Bool) : ∀ (l : List PCell) (k : Nat), ∀ p ∈ posOf g l k, k ≤ p ∧ p < k + l.length
 | [], k, p, h => by cases h
 | c :: r, k, p, h => by
  rcases List.mem_append.1 h with h | h
  ·split at h
   ·rw [List.mem_singleton.1 h, List.length_cons]; omega
   ·cases h
  ·have := posOf_lt g r (k + 1) p h
   rw [List.length_cons]
   omega
theorem posOf_snoc (g : Bool) {l : List PCell} {j : Nat} {c : PCell} (h : l[j]? = some c) (k : Nat) : posOf g (l.take (j + 1)) k = posOf g (l.take j) k ++ (if c.gone = g then [k + j] else []) := by
 rw [List.take_add_one, h, posOf_append, List.length_take, Nat.min_eq_left (Nat.le_of_lt (List.getElem?_eq_some_iff.1 h).1)]
 simp [posOf]
theorem posOf_take (g : Bool) (l : List PCell) (j k : Nat) : posOf g (l.take j) k <+: posOf g l k := by
 conv => rhs; rw [← List.take_append_drop j l]
 rw [posOf_append]
 exact ⟨_, rfl⟩
def posX (bs : List PB) (g : Bool) (pre : List (Fin bs.length)) : List Nat := pre.flatMap fun x => posOf g bs[x].cs (catB (bs.take x.val)).length
theorem posX_snoc (bs : List PB) (g : Bool) (pre : List (Fin bs.length)) (x : Fin bs.length) : posX bs g (pre ++ [x]) = posX bs g pre ++ posOf g bs[x].cs (catB (bs.take x.val)).length := by simp [posX]
theorem posX_begK (bs : List PB) (g : Bool) : ∀ k, k ≤ bs.length → posX bs g (begK bs k) = posOf g (catB (bs.take k)) 0
 | 0, _ => by simp [posX, begK, catB, posOf]
 | k + 1, h => by
  have hk : k < bs.length := by omega
  rw [begK_next bs k hk, posX_snoc, posX_begK bs g k (by omega), catB_take (List.getElem?_eq_getElem hk), posOf_append, Nat.zero_add]
  rfl
theorem posX_all (bs : List PB) (g : Bool) : posX bs g (begL bs) = posOf g (catB bs) 0 := by
 have := posX_begK bs g bs.length (Nat.le_refl _)
 rw [begK_all, List.take_length] at this
 exact this
theorem posX_pre {bs : List PB} {g : Bool} {pre : List (Fin bs.length)} (h : pre <+: begL bs) : posX bs g pre <+: posOf g (catB bs) 0 := by
 obtain ⟨t, ht⟩ := h
 rw [← posX_all, ← ht]
 exact ⟨posX bs g t, by simp [posX]⟩
theorem posX_le {bs : List PB} {g : Bool} {M : Nat} (hM : ∀ x ∈ bs, x.cs.length ≤ M) (pre : List (Fin bs.length)) : (posX bs g pre).length ≤ pre.length * M := by
 unfold posX
 induction pre with
 | nil => simp
 | cons a r ih =>
  rw [List.flatMap_cons, List.length_append, List.length_cons, Nat.add_mul, posOf_length]
  have h1 := hM bs[a] (List.getElem_mem _)
  have h2 := liveN_gone bs[a].cs
  split <;> omega
def toP (p : Nat) : Fin 1000000 := Fin.ofNat 1000000 p
theorem toP_val {p : Nat} (h : p < 1000000) : (toP p).val = p := Nat.mod_eq_of_lt h
abbrev encPl (x : Fin 1000000) : Array Value := #[.int .i64 (x.val : Int)]
def yl (few : Nat) (q : List Nat) : List (Fin 1000000) := (q.drop few).map toP
theorem yl_few {few : Nat} {q : List Nat} (h : q.length ≤ few) : yl few q = [] := by unfold yl; rw [List.drop_of_length_le h]; rfl
theorem yl_snoc {few : Nat} {q : List Nat} {p : Nat} (h : few ≤ q.length) : yl few (q ++ [p]) = yl few q ++ [toP p] := by
 unfold yl
 rw [List.drop_append_of_le_length h, List.map_append]
 rfl
theorem yl_skip {few : Nat} {q r : List Nat} (h : r.length ≤ few - q.length) : yl few (q ++ r) = yl few q := by
 rcases Nat.lt_or_ge few (q.length + r.length) with g | g
 rotate_left
 ·rw [yl_few (by rw [List.length_append]; exact g), yl_few (by omega)]
 ·obtain rfl : r = [] := List.eq_nil_of_length_eq_zero (by omega)
  rw [List.append_nil]
theorem yl_pre {few : Nat} {p q : List Nat} (h : p <+: q) : yl few p <+: yl few q := by
 obtain ⟨t, rfl⟩ := h
 unfold yl
 rcases Nat.le_total few p.length with g | g
 ·rw [List.drop_append_of_le_length g, List.map_append]
  exact ⟨_, rfl⟩
 ·rw [List.drop_of_length_le g]
  exact ⟨_, rfl⟩
theorem yl_length (few : Nat) (q : List Nat) : (yl few q).length ≤ q.length := by unfold yl; rw [List.length_map, List.length_drop]; omega
theorem roundIn_depth {n n' : Nat} {P : Program} {l : Nat} {f : FuncId} {tmps : Array Value} {assign body : Code} {w : World} {R : Ending → World → Prop} (h : RoundIn Fence.wide n P l f tmps assign body w R) : RoundIn Fence.wide n' P l f tmps assign body w R :=
 ⟨h.1, fun c cs _ => h.2 c cs (room_wide _)⟩
theorem ne_box {W : World} {i k : Nat} {c c' : Array Value} {t t' : TypeId} {fr fr' : Nat × Nat} (h : W.heap[i]? = some (.cells c t fr)) (q : W.heap[k]? = some (.cells c' t' fr')) (ht : t ≠ t') : i ≠ k := by
 intro e
 subst e
 rw [h] at q
 cases q
 exact ht rfl
theorem set_al {w : World} {B : Nat} {u : Value} {o : Obj} (h : B < w.heap.size) : (w.setCell ⟨B, 0, none⟩ u).alloc o = (w.alloc o).setCell ⟨B, 0, none⟩ u := (World.setCell_alloc_past (w := w) o B 0 u h).symm
theorem kf_row {n₀ m₁ : Nat} {W W' : World} {i : Nat} {c : Array Value} {t : TypeId} {fr : Nat × Nat} (h : KF n₀ m₁ W W') (hi : i < n₀ ∨ m₁ ≤ i) (ht : ¬ RowT t) (q : W.heap[i]? = some (.cells c t fr)) : W'.heap[i]? = some (.cells c t fr) := by
 rcases hi with g | g
 ·exact (h.1.block i g).trans q
 ·exact h.2 i c t fr g ht q

set_option maxRecDepth 100000 in
set_option maxHeartbeats 8000000 in
theorem places_stops (Bf Bd Bg n₀ m₁ B : Nat) (bv nm : Value) (bs : List PB) (g : Bool) (few : Nat) (hfew : few ≤ 1000000) (w₀ : World) (h₀ : n₀ = w₀.heap.size) (hR : DocR w₀ B bv nm bs) (w : World) (hb0 : Below n₀ w₀ w) (hm : m₁ ≤ w.heap.size)
  (hBf : w.heap[Bf]? = some (.cells #[.int .i64 (few : Int)] 3 (0, 0))) (hBd : w.heap[Bd]? = some (.cells #[.pointer (some ⟨B, 0, none⟩)] 27 (0, 0))) (hBg : w.heap[Bg]? = some (.cells #[.bool g] 4 (0, 0)))
  (sf : Bf < n₀ ∨ m₁ ≤ Bf) (sd : Bd < n₀ ∨ m₁ ≤ Bd) (sg : Bg < n₀ ∨ m₁ ≤ Bg) :
  SeqStopsO RowT Fence.wide 4 Tryz.prog 59 #[.pointer (some ⟨Bf, 0, none⟩), .pointer (some ⟨Bd, 0, none⟩), .pointer (some ⟨Bg, 0, none⟩)] encPl (KF n₀ m₁) (fun ys => ys = yl few (posOf g (catB bs) 0)) (fun pre => pre <+: yl few (posOf g (catB bs) 0)) 1000000000000 w := by
 subst h₀
 intro l J Jx W hW hWs hJ hJx hY h0
 have hbeg := fun W => begins_any (some ⟨B, 0, none⟩) W
 have hcs : ∀ x ∈ bs, x.cs.length ≤ 100000 := fun x hx => by
  obtain ⟨k, hk, rfl⟩ := List.mem_iff_getElem.1 hx
  have := catB_le (List.getElem?_eq_getElem hk)
  have := hR.room
  omega
 have hst := fun Bd m₁ W h1 h2 h3 => begins_stops 3 (by decide) Bd m₁ B bv nm bs w₀ hR W h1 h2 h3
 have q1 := row_up hBf hW
 have q2 := row_up hBd hW
 have q3 := row_up hBg hW
 have hbW : Below w₀.heap.size w₀ W := hb0.trans (hW.mono (by have := hb0.size; omega))
 have c1 := box_cell (row_al q1 (.cells #[.func (.yield l) #[] #[]] 65)) 0
 have c2 := row_al (row_al q2 (.cells #[.func (.yield l) #[] #[]] 65)) (.cells #[.int .i64 (few : Int)] 3)
 have c3 := box_cell c2 0
 refine callsIn_of_wp_marks Tryz.func59 rfl trivial ?_ rfl
 simp only [Tryz.ntmps59, List.size_toArray, List.length_cons, List.length_nil, Nat.reduceAdd, Nat.reduceSub, Array.replicate_succ, Array.replicate_zero, List.push_toArray, List.append_toArray, List.nil_append, List.cons_append]
 gi_wp2_with (refine ⟨trivial, ?_⟩; gi_at_call 52; refine (callsIn_wide.2 (hbeg _)).mono ?_; rintro e _ ⟨rfl, rfl⟩)
 have A0 := row_al (row_al (heap_new W (.cells #[.func (.yield l) #[] #[]] 65)) (.cells #[.int .i64 (few : Int)] 3)) (.cells #[.pointer (some ⟨B, 0, none⟩)] 27)
 have A1 := row_al (heap_new1 W (.cells #[.func (.yield l) #[] #[]] 65) (.cells #[.int .i64 (few : Int)] 3)) (.cells #[.pointer (some ⟨B, 0, none⟩)] 27)
 have A2 := heap_new2 W (.cells #[.func (.yield l) #[] #[]] 65) (.cells #[.int .i64 (few : Int)] 3) (.cells #[.pointer (some ⟨B, 0, none⟩)] 27)
 have Ad := row_al c2 (.cells #[.pointer (some ⟨B, 0, none⟩)] 27)
 have Ag := row_al (row_al (row_al q3 (.cells #[.func (.yield l) #[] #[]] 65)) (.cells #[.int .i64 (few : Int)] 3)) (.cells #[.pointer (some ⟨B, 0, none⟩)] 27)
 have AK : KF w₀.heap.size m₁ W (((W.alloc (.cells #[.func (.yield l) #[] #[]] 65)).alloc (.cells #[.int .i64 (few : Int)] 3)).alloc (.cells #[.pointer (some ⟨B, 0, none⟩)] 27)) := KF.below (by have := hbW.size; omega) ((((Below.refl _ W).alloc (Nat.le_refl _) _).alloc (by simp) _).alloc (by simp; omega) _)
 have AS : (((W.alloc (.cells #[.func (.yield l) #[] #[]] 65)).alloc (.cells #[.int .i64 (few : Int)] 3)).alloc (.cells #[.pointer (some ⟨B, 0, none⟩)] 27)).heap.size = W.heap.size + 1 + 1 + 1 := by simp
 have AJ : J (yl few []) (((W.alloc (.cells #[.func (.yield l) #[] #[]] 65)).alloc (.cells #[.int .i64 (few : Int)] 3)).alloc (.cells #[.pointer (some ⟨B, 0, none⟩)] 27)) := by
  rw [yl_few (Nat.zero_le _)]
  exact OwnFrom.alloc hJ.from _ (OwnFrom.alloc hJ.from _ (OwnFrom.alloc hJ.from _ h0))
 have AB : Below w₀.heap.size w₀ (((W.alloc (.cells #[.func (.yield l) #[] #[]] 65)).alloc (.cells #[.int .i64 (few : Int)] 3)).alloc (.cells #[.pointer (some ⟨B, 0, none⟩)] 27)) := hbW.trans AK.1
 generalize ((W.alloc (.cells #[.func (.yield l) #[] #[]] 65)).alloc (.cells #[.int .i64 (few : Int)] 3)).alloc (.cells #[.pointer (some ⟨B, 0, none⟩)] 27) = w3 at A0 A1 A2 Ad Ag AK AS AJ AB ⊢
 clear c1 c2 c3 q1 q2 q3
 have hWm : m₁ ≤ W.heap.size := by omega
 have hnW : w₀.heap.size ≤ W.heap.size := by have := hbW.size; omega
 have hst := hst (W.heap.size + 1 + 1) (W.heap.size + 1 + 1) w3 AB A2 (Nat.le_refl _)
 have hroom := hR.room
 have HR := Lib.hid hR
 have HY := Lib.hid hY
 have HJ := Lib.hid (And.intro hJ hJx)
 clear hR hbeg hY hJ hJx
 refine wpIn_rangeFunc_ownG rfl (by decide) (gf := 81) (lb := #[.pointer (some ⟨W.heap.size + 1 + 1, 0, none⟩)]) rfl trivial (enters_of Tryz.func81 (by kernel_rfl) rfl)
  hst (fun h k => kf_t h k) (kf_b (by omega)) (Below.refl _ _) (fun _ => rfl)
  (fun pre X => (X.heap[W.heap.size]? = some (.cells #[.func (.yield l) #[] #[]] 65 (0, 0)) ∧ X.heap[W.heap.size + 1]? = some (.cells #[.int .i64 ((few - (posX bs g pre).length : Nat) : Int)] 3 (0, 0)) ∧
   X.heap[Bd]? = some (.cells #[.pointer (some ⟨B, 0, none⟩)] 27 (0, 0)) ∧ X.heap[Bg]? = some (.cells #[.bool g] 4 (0, 0))) ∧ J (yl few (posX bs g pre)) X ∧ Below w₀.heap.size w₀ X)
  (fun c pre X => (c = .ret ∧ ∃ q, q <+: posX bs g pre ∧ Jx (yl few q) X))
  (OwnFrom.and (Own.from (fun s A B row hs hg hr => ⟨row_turn hs.1 hg hr, row_turn hs.2.1 hg hr, row_turn hs.2.2.1 hg hr, row_turn hs.2.2.2 hg hr⟩) _) (OwnFrom.and (fun s A B row hs hg hr => (OwnFrom.up HJ.out.1.from (by omega)) _ A B row hs hg hr) (ownFrom_below (by omega) (by omega))))
  (fun c s A B row hs hg hr => ⟨hs.1, by obtain ⟨q, h1, h2⟩ := hs.2; exact ⟨q, h1, (OwnFrom.up HJ.out.2.from (by omega)) _ A B row h2 hg hr⟩⟩)
  ⟨⟨A0, by simpa [posX] using A1, Ad, Ag⟩, by simpa [posX] using AJ, AB⟩
  (fun x => { tmps := #[.func (.yield l) #[] #[], .pointer (some ⟨Bf, 0, none⟩), .pointer (some ⟨Bd, 0, none⟩), .pointer (some ⟨Bg, 0, none⟩), .pointer (some ⟨W.heap.size, 0, none⟩), .pointer (some ⟨W.heap.size + 1, 0, none⟩), .int .i64 (x.val : Int), .int .i64 ((catB (bs.take x.val)).length : Nat), undef, undef, undef, undef, .int .i64 (few : Int), .pointer (some ⟨B, 0, none⟩), .func (.func 81) #[] #[.pointer (some ⟨W.heap.size + 1 + 1, 0, none⟩)], .int .i64 (x.val : Int), .int .i64 ((catB (bs.take x.val)).length : Nat), undef, undef, undef, undef, undef, undef, undef, undef, undef, undef, undef, undef, undef, undef, undef, undef, undef, undef, undef, undef, undef, undef, undef, undef, undef, undef, undef, undef, undef, undef, undef, undef, undef, undef, undef, undef, undef, undef, undef, undef, undef, undef, undef, undef, undef, undef], defers := [] }) ?assign ?body ?done ?stop
 case assign =>
  intro l x W K hK
  gi_wp2
  exact hK
 case body =>
  rintro l' pre x X ⟨⟨a0, a1, a2, a3⟩, hj, hB⟩ hlen
  have hk : bs[x.val]? = some bs[x] := List.getElem?_eq_getElem x.isLt
  have hd := HR.out.below hB
  obtain ⟨gk, off, cp, hbv, d0, d1, d2⟩ := hd.at hk
  have bx := hd.box
  rw [hbv] at bx
  have e2 := box_cell a2 0
  have e4 := box_cell bx 0
  have hi0 : (0 : Int) ≤ (x.val : Int) ∧ (x.val : Int) < (bs.length : Int) := ⟨by omega, by have := x.isLt; omega⟩
  have hcx := hcs bs[x] (List.getElem_mem _)
  have hlg := liveN_gone bs[x].cs
  have hpl := posOf_length g bs[x].cs (catB (bs.take x.val)).length
  have HPS := Lib.hid (posX_snoc bs g pre x)
  have hpx := posX_le (g := g) hcs pre
  have hfw := HR.out.few
  have hle := catB_le hk
  obtain ⟨L, hL⟩ : ∃ L, liveN bs[x].cs = L := ⟨_, rfl⟩
  obtain ⟨G, hG⟩ : ∃ G, goneN bs[x].cs = G := ⟨_, rfl⟩
  obtain ⟨F, hF⟩ : ∃ F, (catB (bs.take x.val)).length = F := ⟨_, rfl⟩
  obtain ⟨Q, hQ⟩ : ∃ Q, posX bs g pre = Q := ⟨_, rfl⟩
  rw [hL] at d0 hlg hpl
  rw [hG] at d1 hlg hpl
  rw [hF] at hpl hle
  rw [hQ] at a1 hj hpx
  rw [hF]
  obtain ⟨M, hM⟩ : ∃ M, (if g then G else L) = M := ⟨_, rfl⟩
  rw [hM] at hpl
  have hMi : (if g then (G : Int) else (L : Int)) = (M : Int) := by rw [← hM]; cases g <;> rfl
  have hof := fun X => cof_any (L : Int) (G : Int) g X
  rw [hMi] at hof
  have HOF := Lib.hid hof
  have HE := Lib.hid (And.intro hL (And.intro hG (And.intro hF (And.intro hQ (And.intro hM hpl)))))
  have HA := Lib.hid (And.intro a0 (And.intro a1 (And.intro a2 (And.intro a3 (And.intro hj hB)))))
  have HD := Lib.hid (And.intro d0 d1)
  have hbz : Q.length ≤ 100000000000 ∧ M ≤ 100000 ∧ F + bs[x].cs.length ≤ 100000 := by
   have h1 : pre.length * 100000 ≤ 100000000000 := by omega
   refine ⟨by omega, ?_, by omega⟩
   rw [← hM]; split <;> omega
  have HZ := Lib.hid hbz
  clear hL hG hF hQ hM hMi hpl hof hlg hcx hpx hfw hle a0 a1 hj hB d0 d1 hbz hd bx hlen
  gi_wp2
  refine region_bridge (ro := some l') (S := fun X => Below w₀.heap.size w₀ X ∧ X.heap[Bg]? = some (.cells #[.bool g] 4 (0, 0))) (by kernel_rfl) (by kernel_rfl) (by rintro ⟨_, _, h⟩; exact h) ⟨HA.out.2.2.2.2.2.drew, a3⟩ (fun hHeld => ?_)
  refine tk0 (i := 0) rfl ?_
  try simp only [td]
  refine tk0 (i := 1) rfl ?_
  try simp only [td]
  refine tk0 (i := 2) rfl ?_
  try simp only [td]
  refine tk (i := 3) (v := ?_) rfl (Or.inl ⟨rfl, ?hy4⟩) ?_
  case hy4 =>
   intro W hS
   have s1 := hS.1
   have s2 := box_cell hS.2 0
   obtain ⟨gk', off', cp', hv', d0', d1', -⟩ := (HR.out.below s1).at hk
   cases hbv.symm.trans hv'
   rw [HE.out.1] at d0'
   rw [HE.out.2.1] at d1'
   go_simp
   try with_reducible rfl
  try simp only [td]
  refine tk (i := 4) (v := ?_) rfl (Or.inl ⟨rfl, ?hy5⟩) ?_
  case hy5 =>
   intro W hS
   have s1 := hS.1
   have s2 := box_cell hS.2 0
   obtain ⟨gk', off', cp', hv', d0', d1', -⟩ := (HR.out.below s1).at hk
   cases hbv.symm.trans hv'
   rw [HE.out.1] at d0'
   rw [HE.out.2.1] at d1'
   go_simp
   try with_reducible rfl
  try simp only [td]
  refine rd 5 rfl fun K hK => ?_
  go_simp
  go_wp2_with (go_at_call 60; refine (HOF.out _).mono ?_; rintro e wq ⟨rfl, hb⟩)
  refine hK.out _ _ (⟨hHeld.1.trans (hb.mono hHeld.1.size), row_up hHeld.2 hb⟩) (fun hX => ?_)
  clear hK K hHeld
  have hHeld := hX
  clear hX
  refine tk0 (i := 6) rfl ?_
  try simp only [td]
  refine wpAnyH_done (by kernel_rfl) ?_ _
  have hgr : X.grownBy wq none := ⟨hb.os, hb.tape, hb.output, hb.size, fun i hi _ => hb.block i hi⟩
  have hX0 := HA.out
  obtain ⟨a0, a1, a2', a3', hj, hB⟩ := hX0
  have b0 := row_up (W := X.drew) a0 hb
  have b1 := row_up (W := X.drew) a1 hb
  have b2 := row_up (W := X.drew) a2 hb
  have b3 := row_up (W := X.drew) a3 hb
  have bj : J (yl few Q) wq := HJ.out.1 _ X wq none hj hgr (fun r e => by cases e)
  have hS3 : w3.heap.size = W.heap.size + 1 + 1 + 1 := AS
  have hYlt := box_lt a1
  have bk : KeepsFrom w3.heap.size X wq := ((KeepsOthers.drew X).trans (others_below hb)).from _
  have bf : KF w₀.heap.size (W.heap.size + 1 + 1) X wq := kf_t (KF.refl _ _ X).drew (KF.below hB.size hb)
  have bB := hHeld.1
  have z1 := box_cell b1 0
  have zf := box_frozen b1 0
  have HB := Lib.hid (And.intro b0 (And.intro b1 (And.intro b2 (And.intro b3 (And.intro bj (And.intro bk (And.intro bf bB)))))))
  clear a0 a1 a2' a3' hj hB hgr hb hHeld b0 b1 b2 b3 bj bk bf bB a2 a3 e2 e4
  obtain ⟨k0, hk0⟩ : ∃ k0, few - Q.length = k0 := ⟨_, rfl⟩
  have HK := Lib.hid hk0
  rw [hk0] at z1
  have hk0b : k0 ≤ 1000000 := by omega
  clear hk0
  have hskip : ∀ (v : Int) (Y : World) (s : List (Fin 1000000)), J s Y → (∃ c, Y.heap[W.heap.size + 1]? = some (.cells c 3 (0, 0))) → J s (Y.setCell ⟨W.heap.size + 1, 0, none⟩ (.int .i64 v)) := fun v Y s h1 ⟨c, h2⟩ => HJ.out.1 s Y _ _ h1 (grownBy_setCell' Y (W.heap.size + 1) (.int .i64 v)) (fun r e => by cases e; exact ⟨by omega, _, h2, .inr ⟨_, _, _, rfl, by unfold RowT; decide⟩⟩)
  have HSK := Lib.hid hskip
  clear hskip
  by_cases hsk : M ≤ k0
  ·have hsk' : (M : Int) ≤ (k0 : Int) := by omega
   have hwr : IntKind.i64.wrap ((k0 : Int) - (M : Int)) = (k0 : Int) - (M : Int) := IntWalk.i64_in _ (by omega)
   gi_wp2
   obtain ⟨b0, b1, b2, b3, bj, bk, bf, bB⟩ := HB.out
   have hQx : posX bs g (pre ++ [x]) = Q ++ posOf g bs[x].cs F := by rw [HPS.out, HE.out.2.2.2.1, HE.out.2.2.1]
   have hlQ : (posOf g bs[x].cs F).length = M := HE.out.2.2.2.2.2
   have hkk := HK.out
   refine ⟨bk.trans ((KeepsOthers.setCell _ _ _).from _), kf_t bf (KF.set (by omega) (by omega)), ⟨(box_other (by omega) 0 _).trans b0, ?_, (box_other (ne_box b2 b1 (by decide)) 0 _).trans b2, (box_other (ne_box b3 b1 (by decide)) 0 _).trans b3⟩, ?_, bB.setCell (p := ⟨W.heap.size + 1, 0, none⟩) (by show w₀.heap.size ≤ W.heap.size + 1; omega) _⟩
   ·rw [hQx, List.length_append, hlQ]
    have := box_set b1 0 (.int .i64 ((k0 : Int) - (M : Int)))
    rw [show ((few - (Q.length + M) : Nat) : Int) = (k0 : Int) - (M : Int) by omega]
    simpa using this
   ·rw [hQx, yl_skip (by rw [hlQ]; omega)]
    exact HSK.out _ _ _ bj ⟨_, b1⟩
  ·have hsk' : ¬ (M : Int) ≤ (k0 : Int) := by omega
   obtain ⟨cao, ccap, hcv, _⟩ := id (HR.out.cells bs[x] (List.getElem_mem _)).shape
   obtain ⟨N, hN⟩ : ∃ N, bs[x].cs.length = N := ⟨_, rfl⟩
   have hdq := HR.out.below HB.out.2.2.2.2.2.2.2
   obtain ⟨gk', off', cp', hv', d0', d1', d2'⟩ := hdq.at hk
   cases hbv.symm.trans hv'
   rw [hcv, hN] at d2'
   have HN := Lib.hid (And.intro hN hcv)
   have hNb := HZ.out.2.2
   rw [hN] at hNb
   have HU := Lib.hid (HR.out.cells bs[x] (List.getElem_mem _))
   clear hdq hv' d0' d1' hN hcv
   gi_wp2
   gi_loopw [40] (fun i wr => ∃ j : Nat, i = .int .i64 j ∧ j ≤ N ∧ RowKit.Hid (wr.heap[W.heap.size]? = some (.cells #[.func (.yield l) #[] #[]] 65 (0, 0)) ∧ wr.heap[W.heap.size + 1]? = some (.cells #[.int .i64 ((few - (Q ++ posOf g (bs[x].cs.take j) F).length : Nat) : Int)] 3 (0, 0)) ∧
    wr.heap[Bd]? = some (.cells #[.pointer (some ⟨B, 0, none⟩)] 27 (0, 0)) ∧ wr.heap[Bg]? = some (.cells #[.bool g] 4 (0, 0)) ∧ J (yl few (Q ++ posOf g (bs[x].cs.take j) F)) wr ∧ KeepsFrom w3.heap.size X wr ∧ KF w₀.heap.size (W.heap.size + 1 + 1) X wr ∧ Below w₀.heap.size w₀ wr)) (fun i _ => N - (intOf i).toNat)
   case atStart => exact ⟨0, rfl, Nat.zero_le _, by simpa [posOf] using HB⟩
   case round =>
    rename World => wr
    obtain ⟨j, rfl, hj, hI⟩ := hrel
    obtain ⟨b0, b1, b2, b3, bj, bk, bf, bB⟩ := hI.out
    rcases Nat.lt_or_ge j N with hlt | hge2
    ·obtain ⟨c, hc⟩ : ∃ c, bs[x].cs[j]? = some c := ⟨_, List.getElem?_eq_getElem (by rw [HN.out.1]; exact hlt)⟩
     obtain ⟨bb, boff, bcap, hv, e0, e1, e2, e3, e4⟩ := (HU.out.below bB).at hc
     have hv2 := HN.out.2.symm.trans hv
     rw [HN.out.1] at hv2
     injection hv2 with hv2 _ hv3
     subst hv2
     have hi1 : (0 : Int) ≤ (j : Int) ∧ (j : Int) < (N : Int) := ⟨by omega, by omega⟩
     have hsn := posOf_snoc g hc F
     obtain ⟨R, hRR⟩ : ∃ R, Q ++ posOf g (bs[x].cs.take j) F = R := ⟨_, rfl⟩
     have hR2 : Q ++ posOf g (bs[x].cs.take (j + 1)) F = R ++ (if c.gone = g then [F + j] else []) := by rw [hsn, ← List.append_assoc, hRR]
     have hRl : R.length ≤ 100000100000 := by
      rw [← hRR, List.length_append, posOf_length]
      have h1 := liveN_gone (bs[x].cs.take j)
      rw [List.length_take] at h1
      have := HZ.out.1
      split <;> omega
     have HR2 := Lib.hid hR2
     rw [hRR] at b1 bj
     obtain ⟨k1, hk1⟩ : ∃ k1, few - R.length = k1 := ⟨_, rfl⟩
     rw [hk1] at b1
     have HK1 := Lib.hid (And.intro hk1 hRl)
     have hk1b : k1 ≤ 1000000 := by omega
     obtain ⟨s, q, f, r, gn⟩ := c
     dsimp only at e0 e1 e2 e3 e4
     have al : ∀ {i : Nat} {o : Obj}, wr.heap[i]? = some o → (wr.alloc (.cells #[.int .i64 s, .int .i64 q, .int .i64 f, .int .i32 r, .bool gn] 48)).heap[i]? = some o := fun h => row_al h _
     have g0 := al b0
     have g1 := al b1
     have g2 := al b2
     have g3 := al b3
     have gj : J (yl few R) (wr.alloc (.cells #[.int .i64 s, .int .i64 q, .int .i64 f, .int .i32 r, .bool gn] 48)) := OwnFrom.alloc HJ.out.1.from _ bj
     have gB := bB.alloc bB.size (.cells #[.int .i64 s, .int .i64 q, .int .i64 f, .int .i32 r, .bool gn] 48)
     have gk2 := bk.trans ((KeepsOthers.alloc wr (.cells #[.int .i64 s, .int .i64 q, .int .i64 f, .int .i32 r, .bool gn] 48)).from w3.heap.size)
     have gf := kf_t bf (KF.alloc bB.size (.cells #[.int .i64 s, .int .i64 q, .int .i64 f, .int .i32 r, .bool gn] 48))
     have hlw := box_lt b1
     have y0 := box_cell g0 0
     have y1 := box_cell g1 0
     have f1 := box_frozen g1 0
     have y3 := box_cell g3 0
     have HG := Lib.hid (And.intro g0 (And.intro g1 (And.intro g2 (And.intro g3 (And.intro gj (And.intro gk2 (And.intro gf gB)))))))
     clear hc hv hv3 hsn hRR hR2 hRl hk1 hI b0 b1 b2 b3 bj bk bf bB al g0 g1 g2 g3 gj gk2 gf gB
     by_cases hg : gn = g
     ·subst hg
      by_cases hz : 0 < k1
      ·have hz' : (0 : Int) < (k1 : Int) := by omega
       have hwr : IntKind.i64.wrap ((k1 : Int) - 1) = (k1 : Int) - 1 := IntWalk.i64_in _ (by omega)
       gi_wp2
       go_roundw
       case rel =>
        obtain ⟨b0, b1, b2, b3, bj, bk, bf, bB⟩ := HG.out
        have hkk := HK1.out.1
        rw [set_al (by omega)]
        refine ⟨j + 1, by go_num, by omega, Lib.hid ⟨(box_other (by omega) 0 _).trans b0, ?_, (box_other (ne_box b2 b1 (by decide)) 0 _).trans b2, (box_other (ne_box b3 b1 (by decide)) 0 _).trans b3, ?_, bk.trans ((KeepsOthers.setCell _ _ _).from _), kf_t bf (KF.set (by omega) (by omega)), bB.setCell (p := ⟨W.heap.size + 1, 0, none⟩) (by show w₀.heap.size ≤ W.heap.size + 1; omega) _⟩⟩
        ·rw [HR2.out, if_pos rfl, List.length_append, List.length_singleton]
         have := box_set b1 0 (.int .i64 ((k1 : Int) - 1))
         rw [show ((few - (R.length + 1) : Nat) : Int) = (k1 : Int) - 1 by omega]
         simpa using this
        ·rw [HR2.out, if_pos rfl, yl_skip (by rw [List.length_singleton]; omega)]
         exact HSK.out _ _ _ bj ⟨_, b1⟩
       case measure => simp [intOf]; omega
      ·obtain rfl : k1 = 0 := by omega
       have hwr : IntKind.i64.wrap ((F : Int) + (j : Int)) = ((F + j : Nat) : Int) := (IntWalk.i64_in _ (by omega)).trans (by push_cast; rfl)
       obtain ⟨fn, tmps, assign, body, hy, hRnd⟩ := HY.out (yl few R) (toP (F + j)) _ HG.out.2.2.2.2.1 (by have := yl_length few R; have := HK1.out.2; omega)
       dsimp only [encPl] at hy
       rw [toP_val (by omega), Int.natCast_add] at hy
       gi_wp2
       try (rw [hy]; gi_wp2)
       refine (roundIn_depth hRnd).mono ?_
       clear hy hRnd
       obtain ⟨b0, b1, b2, b3, -, bk, bf, bB⟩ := HG.out
       rintro e W9 (⟨rfl, j9, k9, o9⟩ | ⟨rfl, j9, o9⟩)
       ·have hm1 : m₁ ≤ W.heap.size := hWm
        have r0 := kf_row k9 (.inr hm1) (by unfold RowT; decide) b0
        have r1 := kf_row k9 (.inr (by omega)) (by unfold RowT; decide) b1
        have r2 := kf_row k9 sd (by unfold RowT; decide) b2
        have r3 := kf_row k9 sg (by unfold RowT; decide) b3
        have HG9 := Lib.hid (And.intro r0 (And.intro r1 (And.intro r2 (And.intro r3 (And.intro (bk.trans ⟨o9.size, fun q o hq => o9.same q o (by omega)⟩) (And.intro (kf_t bf (k9.up (Nat.le_refl _) (by omega))) (bB.trans k9.1)))))))
        clear b0 b1 b2 b3 bk bf bB r0 r1 r2 r3 k9 o9 HG
        gi_wp2
        go_roundw
        case rel =>
         obtain ⟨r0, r1, r2, r3, rk, rf, rB⟩ := HG9.out
         have hyl := yl_snoc (few := few) (q := R) (p := F + j) (by have := HK1.out.1; omega)
         refine ⟨j + 1, by go_num, by omega, Lib.hid ⟨r0, ?_, r2, r3, ?_, rk, rf, rB⟩⟩
         ·rw [HR2.out, if_pos trivial, List.length_append, List.length_singleton, show few - (R.length + 1) = 0 by have := HK1.out.1; omega]
          exact r1
         ·rw [HR2.out, if_pos trivial, hyl]
          exact j9
        case measure => simp [intOf]; omega
       ·have kk := bk.trans (⟨o9.size, fun q o hq => o9.same q o (by omega)⟩ : KeepsFrom w3.heap.size _ W9)
        have HKK := Lib.hid kk
        have hyl := yl_snoc (few := few) (q := R) (p := F + j) (by have := HK1.out.1; omega)
        rw [← hyl] at j9
        have HJ9 := Lib.hid j9
        clear b0 b1 b2 b3 bk bf bB o9 j9 kk hyl
        gi_wp2
        refine ⟨HKK.out, rfl, R ++ [F + j], ?_, HJ9.out⟩
        have e1 : Q ++ posOf gn (bs[x].cs.take (j + 1)) F = R ++ [F + j] := by rw [HR2.out, if_pos trivial]
        rw [HPS.out, HE.out.2.2.2.1, HE.out.2.2.1, ← e1]
        exact (List.prefix_append_right_inj _).2 (posOf_take gn _ _ _)
     ·have hR3 : Q ++ posOf g (bs[x].cs.take (j + 1)) F = R := by rw [HR2.out, if_neg hg, List.append_nil]
      have HR3 := Lib.hid hR3
      have hgn : gn = !g := by revert hg; cases gn <;> cases g <;> simp
      subst hgn
      clear hg hR3 HR2
      have hb1 : (!g == g) = false := by cases g <;> rfl
      have hb2 : (!g != g) = true := by cases g <;> rfl
      gi_wp2
      go_roundw
      case rel =>
       refine ⟨j + 1, by go_num, by omega, ?_⟩
       rw [HR3.out, HK1.out.1]
       exact HG
      case measure => simp [intOf]; omega
    ·obtain rfl : N = j := by omega
     rw [List.take_of_length_le (by rw [HN.out.1]; exact Nat.le_refl _)] at b1 bj
     have hQx : posX bs g (pre ++ [x]) = Q ++ posOf g bs[x].cs F := by rw [HPS.out, HE.out.2.2.2.1, HE.out.2.2.1]
     rw [← hQx] at b1 bj
     have HG := Lib.hid (And.intro b0 (And.intro b1 (And.intro b2 (And.intro b3 (And.intro bj (And.intro bk (And.intro bf bB)))))))
     clear b0 b1 b2 b3 bj bk bf bB hI
     gi_wp2
     obtain ⟨b0, b1, b2, b3, bj, bk, bf, bB⟩ := HG.out
     exact ⟨bk, bf, ⟨b0, b1, b2, b3⟩, bj, bB⟩
 case done =>
  rintro D ys Z hD rfl ⟨-, hj, -⟩ hK
  rw [posX_all] at hj
  have HJZ := Lib.hid (OwnFrom.putObj (HJ.out.1.from) (.deferred none) hj (by omega : W.heap.size ≤ D) hK rfl)
  clear hj
  gi_wp2
  refine ⟨by simp, .inl ⟨_, _, rfl, run_takeDeferred hK, ?_⟩⟩
  exact ⟨_, results_none rfl _ _ _, ⟨_, rfl⟩, .inl ⟨_, rfl, HJZ.out⟩⟩
 case stop =>
  rintro D c pre Z hD hpre ⟨rfl, q, hq, hx⟩ hK
  have HJZ := Lib.hid (OwnFrom.putObj (HJ.out.2.from) (.deferred none) hx (by omega : W.heap.size ≤ D) hK rfl)
  have HQ := Lib.hid (yl_pre (few := few) (hq.trans (posX_pre (g := g) hpre)))
  clear hx hq hpre
  gi_wp2
  refine ⟨by simp, .inl ⟨_, _, rfl, run_takeDeferred hK, ?_⟩⟩
  exact ⟨_, results_none rfl _ _ _, ⟨_, rfl⟩, .inr ⟨_, HQ.out, HJZ.out⟩⟩
end Go.Proofs.YtmedickofiielaaGreatDoor

namespace Go.Proofs.YtmedickofiielaaGreatDoor
open Go.RowKit Go.Shelf
attribute [local go_sem] Oper.semAt_some

theorem run_app_any {P : Program} {w : World} (base : Nat) (t ty e : TypeId) (i : TypeInfo) (z : Value) (sz bytes : Nat) (ht : P.underlying t = some (.slice e)) (hi : P.info? e = some i) (hz : i.zero = some z)
  (hsize : i.size = sz) (hby : i.bytes = bytes) (hzs : z.cells.size = sz) (hsz : 0 < sz) (v : Value) (n : Nat) (xs : List Value) (hown : w.ownsRow base e sz v n xs)
  (u : Value) (m : Nat) (news : List Value) (hr : RowR sz w u m news) (h1 : ∀ u ∈ news, u.oneCell' = true) (h63 : n + m ≤ maxLen) (hbytes : (n + m) * bytes ≤ 140737488355328) (hbase : base ≤ w.heap.size) :
  ∃ v' w', (Builtin.append_ #[t, t] ty #[v, u]).run P w = .ok v' w' ∧ w'.ownsRow base e sz v' (n + m) (xs ++ news) ∧ w.grownBy w' v.ownBlock := by
 obtain ⟨hl, ao, c, rfl, hsrc⟩ := hr
 rcases Nat.eq_zero_or_pos m with h0 | hp
 ·subst h0
  obtain rfl : news = [] := List.eq_nil_of_length_eq_zero (by omega)
  cases ao with
  | none => exact ⟨v, w, run_app_none (P := P) (w := w) base t ty e i sz ht hi v n xs hown c, by simpa using hown, ⟨rfl, rfl, rfl, Nat.le_refl _, fun _ _ _ => rfl⟩⟩
  | some ad =>
   obtain ⟨v', w', a, b, d, _⟩ := run_append_own w base t ty e i z sz bytes ht hi hz hsize hby hzs hsz v n xs hown ad 0 c [] (by simp) (by simp) h1 h63 hbytes hbase
   exact ⟨v', w', a, b, d⟩
 ·obtain ⟨b, off, rfl, hc⟩ := hsrc hp
  obtain ⟨v', w', q1, q2, q3, _⟩ := run_append_own w base t ty e i z sz bytes ht hi hz hsize hby hzs hsz v n xs hown ⟨b, off, none⟩ m c news (by omega) (fun j u hj => by
   have := hc j u hj
   unfold Addr.add
   by_cases h0 : j = 0
   ·subst h0; simpa using this
   ·simpa [h0] using this) h1 h63 hbytes hbase
  exact ⟨v', w', q1, q2, q3⟩
theorem wp_run_append {P : Program} {o : Oper} {a : Act} {w wa : World} {K : Act → World → Prop} {Q : Exit → Act → World → Prop} {s x : Operand} {t : TypeId} {v1 v2 v' : Value} (ho : o.op = .call { callee := .builtin .append, args := #[s, x], argTypes := #[t, t] })
  (hs : a.eval s = v1) (hx : a.eval x = v2) (hr : (Builtin.append_ #[t, t] o.type #[v1, v2]).run P w = .ok v' wa) (h : K (a.put o.dst v') wa) : o.wp P a w K Q := by
 unfold Oper.wp execOp
 simp only [ho, resolve, invoke, builtin, Sem.run_bind, Sem.run_pure, Result.andThen_ok, List.map_toArray, List.map_cons, List.map_nil, hs, hx, hr]
 exact h
theorem infoCellX : (Tryz.prog.info? 48).map (fun i => (i.zero, i.size, i.bytes)) = some (some (.agg #[.int .i64 0, .int .i64 0, .int .i64 0, .int .i32 0, .bool false]), 5, 32) := by kernel_rfl
theorem infoCellI : ∃ i, Tryz.prog.info? 48 = some i ∧ i.zero = some (.agg #[.int .i64 0, .int .i64 0, .int .i64 0, .int .i32 0, .bool false]) ∧ i.size = 5 ∧ i.bytes = 32 := by
 have h := infoCellX
 cases hi : Tryz.prog.info? 48 with
 | none => rw [hi] at h; cases h
 | some i =>
  rw [hi] at h
  simp at h
  exact ⟨i, rfl, h.1, h.2.1, h.2.2⟩
theorem append_cells (base : Nat) (v : Value) (l : List PCell) (u : Value) (m : List PCell) (w : World) (hown : w.ownsRow base 48 5 v l.length (cCells l)) (hr : CAt w u m) (hl : l.length ≤ 1000000000000 ∧ m.length ≤ 1000000) (hb : base ≤ w.heap.size) (ty : TypeId) :
  ∃ v' w', (Builtin.append_ #[22, 22] ty #[v, u]).run Tryz.prog w = .ok v' w' ∧ w'.ownsRow base 48 5 v' (l ++ m).length (cCells (l ++ m)) ∧ w.grownBy w' v.ownBlock := by
 obtain ⟨i, hi, hz, hs, hy⟩ := infoCellI
 rw [List.length_append, cCells_append]
 exact run_app_any base _ ty _ i _ 5 32 Tryz.underlying22 hi hz hs hy rfl (by decide) v _ _ hown u _ _ hr.reads (cCells_ones m) (by unfold maxLen; omega) (by omega) hb

theorem own_turn {W W' : World} {row : Option Nat} {N : Nat} {e : TypeId} {sz : Nat} {v : Value} {n : Nat} {xs : List Value} (h : W.ownsRow N e sz v n xs) (hg : W.grownBy W' row) (hr : ∀ r, row = some r → ∃ o : Obj, W.heap[r]? = some o ∧ o.isCells = false) : W'.ownsRow N e sz v n xs := by
 refine ⟨h.1, ?_⟩
 rcases h.2 with q | ⟨g, cap, cur, q1, q2, q3, q4⟩
 ·exact .inl q
 ·exact .inr ⟨g, cap, cur, q1, q2, row_turn q3 hg hr, q4⟩
theorem own_turnT {W W' : World} {row : Option Nat} {N : Nat} {e : TypeId} {sz : Nat} {v : Value} {n : Nat} {xs : List Value} {T : TypeId → Prop} (h : W.ownsRow N e sz v n xs) (hg : W.grownBy W' row) (hr : ∀ r, row = some r → ∃ o : Obj, W.heap[r]? = some o ∧ (o.isCells = false ∨ ∃ c t fr, o = .cells c t fr ∧ ¬ T t)) (he : T e) : W'.ownsRow N e sz v n xs := by
 refine ⟨h.1, ?_⟩
 rcases h.2 with q | ⟨g, cap, cur, q1, q2, q3, q4⟩
 ·exact .inl q
 ·refine .inr ⟨g, cap, cur, q1, q2, (hg.block g (box_lt q3) fun z => ?_).trans q3, q4⟩
  obtain ⟨o, ho, hc⟩ := hr g z.symm
  rw [q3] at ho
  cases ho
  rcases hc with hc | ⟨c, t, fr, hc, ht⟩
  ·cases hc
  ·cases hc
   exact ht he
theorem own_typed {W : World} {N : Nat} {e : TypeId} {sz : Nat} {v : Value} {n : Nat} {xs : List Value} (h : W.ownsRow N e sz v n xs) (g : Nat) (hg : v.ownBlock = some g) : N ≤ g ∧ ∃ cur, W.heap[g]? = some (.cells cur e (0, 0)) := by
 rcases h.2 with ⟨q, _⟩ | ⟨g', cap, cur, q1, q2, q3, _⟩
 ·rw [q] at hg; cases hg
 ·rw [q1] at hg; cases hg; exact ⟨q2, cur, q3⟩
theorem row_grown {W W' : World} {N : Nat} {e : TypeId} {sz : Nat} {v : Value} {n : Nat} {xs : List Value} {i : Nat} {c : Array Value} {t : TypeId} {fr : Nat × Nat} (h : W.heap[i]? = some (.cells c t fr)) (hg : W.grownBy W' v.ownBlock) (ho : W.ownsRow N e sz v n xs) (ht : t ≠ e) : W'.heap[i]? = some (.cells c t fr) := by
 refine (hg.block i (box_lt h) fun q => ?_).trans h
 obtain ⟨_, cur, hc⟩ := own_typed ho i q.symm
 rw [h] at hc
 cases hc
 exact ht rfl
theorem below_grown {W W' : World} {N : Nat} {e : TypeId} {sz : Nat} {v : Value} {n : Nat} {xs : List Value} {w : World} (hb : Below N w W) (hg : W.grownBy W' v.ownBlock) (ho : W.ownsRow N e sz v n xs) (hn : N ≤ w.heap.size) : Below N w W' :=
 hb.grown hg (Nat.le_trans hn hb.size) fun g q => (own_typed ho g q).1
theorem own_far {W : World} {N : Nat} {e : TypeId} {sz : Nat} {v : Value} {n : Nat} {xs : List Value} {B : Nat} {c : Array Value} {t : TypeId} {fr : Nat × Nat} (h : W.ownsRow N e sz v n xs) (hB : W.heap[B]? = some (.cells c t fr)) (ht : t ≠ e) (o : Nat) (u : Value) : (W.setCell ⟨B, o, none⟩ u).ownsRow N e sz v n xs := by
 refine ⟨h.1, ?_⟩
 rcases h.2 with q | ⟨g, cap, cur, q1, q2, q3, q4⟩
 ·exact .inl q
 ·refine .inr ⟨g, cap, cur, q1, q2, ?_, q4⟩
  refine (box_other (fun e => ?_) o u).trans q3
  subst e
  rw [hB] at q3
  cases q3
  exact ht rfl
theorem make_cells (n : Nat) (hn : n ≤ 1000000) : ∃ cur : Array Value, cur.size = n * 5 ∧ ∀ W : World, (Instr.makeSlice 22 (.int .i64 0) (.int .i64 (n : Int))).run Tryz.prog W = .ok (.slice (some ⟨W.heap.size, 0, none⟩) 0 n) (W.alloc (.cells cur 48)) := by
 obtain ⟨i0, hi, hz0, hz1, hz2⟩ := infoCellI
 refine ⟨madeCells (Value.agg #[.int .i64 0, .int .i64 0, .int .i64 0, .int .i32 0, .bool false]).cells (n * 5), ?_, fun W => ?_⟩
 ·simp [madeCells]
 ·have h := run_make (P := Tryz.prog) (w := W) 22 48 i0 (.agg #[.int .i64 0, .int .i64 0, .int .i64 0, .int .i32 0, .bool false]) Tryz.underlying22 hi hz0 .i64 .i64 0 n (Int.le_refl _) (by omega) (by rw [hz2]; omega) (by omega)
  rw [Int.toNat_natCast, hz1] at h
  exact h

set_option maxRecDepth 100000 in
set_option maxHeartbeats 8000000 in
theorem dcells_any (B : Nat) (bv nm : Value) (bs : List PB) (w : World) (hR : DocR w B bv nm bs) :
  Calls Tryz.prog 64 #[.pointer (some ⟨B, 0, none⟩)] w fun e W' => ∃ v, e = .returned v ∧ W'.ownsRow w.heap.size 48 5 v (catB bs).length (cCells (catB bs)) ∧ Below w.heap.size w W' := by
 have hbeg := fun W => begins_any (some ⟨B, 0, none⟩) W
 have hst := fun Bd m₁ W h1 h2 h3 => begins_stops 3 (by decide) Bd m₁ B bv nm bs w hR W h1 h2 h3
 have hall := liveN_gone (catB bs)
 have hroom := hR.room
 have hsz := fun W (hb : Below w.heap.size w W) => dsize_any (some ⟨B, 0, none⟩) (liveN (catB bs)) (goneN (catB bs)) W (by omega) (whole_any B bv nm bs W (hR.below hb))
 rw [hall] at hsz
 have HSZ := Lib.hid hsz
 have HR := Lib.hid hR
 have hcl : (0 : Int) ≤ ((catB bs).length : Int) ∧ ((catB bs).length : Int) ≤ 100000 := by omega
 clear hR hsz hall
 have B0 := heap_new w (.cells #[.pointer (some ⟨B, 0, none⟩)] 27)
 have hB0 : Below w.heap.size w (w.alloc (.cells #[.pointer (some ⟨B, 0, none⟩)] 27)) := (Below.refl _ w).alloc (Nat.le_refl _) _
 have HB0 := Lib.hid hB0
 have d0 := box_cell B0 0
 obtain ⟨cur, hcur, hmk⟩ := make_cells (catB bs).length (by omega)
 refine (callsIn_wide (n := 4)).1 ?_
 refine callsIn_of_wp_marks Tryz.func64 rfl trivial ?_ rfl
 simp only [Tryz.ntmps64, List.size_toArray, List.length_cons, List.length_nil, Nat.reduceAdd, Nat.reduceSub, Array.replicate_succ, Array.replicate_zero, List.push_toArray, List.append_toArray, List.nil_append, List.cons_append]
 gi_wp2_with (refine ⟨trivial, ?_⟩; first
  | (gi_at_call 15; refine (callsIn_wide.2 (HSZ.out _ HB0.out)).mono ?_; rintro e w1 ⟨rfl, hb1⟩; have B1 := row_up B0 hb1; have e0 := box_cell B1 0; have B2 := row_al (row_al B1 (.cells cur 48)) (.cells #[.slice (some ⟨w1.heap.size, 0, none⟩) 0 (catB bs).length] 22); have e2 := box_cell B2 0)
  | (gi_at_call 52; refine (callsIn_wide.2 (hbeg _)).mono ?_; rintro e _ ⟨rfl, rfl⟩))
 rename World => w1
 have A0 := row_al B2 (.cells #[.pointer (some ⟨B, 0, none⟩)] 27)
 have A1 := row_al (heap_new1 w1 (.cells cur 48) (.cells #[.slice (some ⟨w1.heap.size, 0, none⟩) 0 (catB bs).length] 22)) (.cells #[.pointer (some ⟨B, 0, none⟩)] 27)
 have A3 := heap_new2 w1 (.cells cur 48) (.cells #[.slice (some ⟨w1.heap.size, 0, none⟩) 0 (catB bs).length] 22) (.cells #[.pointer (some ⟨B, 0, none⟩)] 27)
 have AB : Below w.heap.size w (((w1.alloc (.cells cur 48)).alloc (.cells #[.slice (some ⟨w1.heap.size, 0, none⟩) 0 (catB bs).length] 22)).alloc (.cells #[.pointer (some ⟨B, 0, none⟩)] 27)) := (((HB0.out.trans (hb1.mono HB0.out.size)).alloc (by have := hb1.size; have := HB0.out.size; omega) _).alloc (by have := hb1.size; have := HB0.out.size; simp; omega) _).alloc (by have := hb1.size; have := HB0.out.size; simp; omega) _
 have AS : (((w1.alloc (.cells cur 48)).alloc (.cells #[.slice (some ⟨w1.heap.size, 0, none⟩) 0 (catB bs).length] 22)).alloc (.cells #[.pointer (some ⟨B, 0, none⟩)] 27)).heap.size = w1.heap.size + 1 + 1 + 1 := by simp
 have AO : (((w1.alloc (.cells cur 48)).alloc (.cells #[.slice (some ⟨w1.heap.size, 0, none⟩) 0 (catB bs).length] 22)).alloc (.cells #[.pointer (some ⟨B, 0, none⟩)] 27)).ownsRow w.heap.size 48 5 (.slice (some ⟨w1.heap.size, 0, none⟩) 0 (catB bs).length) 0 [] := ((World.ownsRow_made w1 cur (catB bs).length (by have := hb1.size; have := HB0.out.size; omega) (by unfold maxLen; omega) hcur).alloc _).alloc _
 have hge : w.heap.size < w1.heap.size := by have := hb1.size; simp at this; omega
 generalize ((w1.alloc (.cells cur 48)).alloc (.cells #[.slice (some ⟨w1.heap.size, 0, none⟩) 0 (catB bs).length] 22)).alloc (.cells #[.pointer (some ⟨B, 0, none⟩)] 27) = w3 at A0 A1 A3 AB AS AO ⊢
 clear B1 e0 B2 e2 hb1 hmk d0 B0 hB0 HB0
 have hst := hst (w1.heap.size + 1 + 1) (w1.heap.size + 1 + 1) w3 AB A3 (Nat.le_refl _)
 have hcs : ∀ x ∈ bs, x.cs.length ≤ 100000 := fun x hx => by
  obtain ⟨k, hk, rfl⟩ := List.mem_iff_getElem.1 hx
  have := catB_le (List.getElem?_eq_getElem hk)
  omega
 have hfew := HR.out.few
 refine wpIn_rangeFunc_ownF rfl (by decide) (gf := 81) (lb := #[.pointer (some ⟨w1.heap.size + 1 + 1, 0, none⟩)]) rfl trivial (enters_of Tryz.func81 (by kernel_rfl) rfl)
  hst (fun h k => kf_t h k) (kf_b (by omega)) (Below.refl _ _) (fun _ => rfl)
  (fun pre W => (W.heap[w.heap.size]? = some (.cells #[.pointer (some ⟨B, 0, none⟩)] 27 (0, 0)) ∧
   ∃ v, W.heap[w1.heap.size + 1]? = some (.cells #[v] 22 (0, 0)) ∧ W.ownsRow w.heap.size 48 5 v (catX bs pre).length (cCells (catX bs pre))) ∧ Below w.heap.size w W)
  (fun c pre W => (False) ∧ Below w.heap.size w W)
  (OwnFrom.and (Own.from (fun s A B row hs hg hr => ⟨row_turn hs.1 hg hr, by obtain ⟨v, h1, h2⟩ := hs.2; exact ⟨v, row_turn h1 hg hr, own_turn h2 hg hr⟩⟩) _) (ownFrom_below (Nat.le_refl _) (by omega)))
  (fun c => OwnFrom.and (Own.from (fun s A B row hs hg hr => hs.elim) _) (ownFrom_below (Nat.le_refl _) (by omega)))
  ⟨⟨A0, _, A1, AO⟩, AB⟩
  (fun x => { tmps := #[.pointer (some ⟨B, 0, none⟩), .pointer (some ⟨w.heap.size, 0, none⟩), .slice none 0 0, .pointer (some ⟨w1.heap.size + 1, 0, none⟩), .int .i64 (x.val : Int), .pointer (some ⟨B, 0, none⟩), .int .i64 ((catB bs).length : Nat), .slice (some ⟨w1.heap.size, 0, none⟩) 0 (catB bs).length, .pointer (some ⟨B, 0, none⟩), .func (.func 81) #[] #[.pointer (some ⟨w1.heap.size + 1 + 1, 0, none⟩)], .int .i64 (x.val : Int), .int .i64 ((catB (bs.take x.val)).length : Nat), undef, undef, undef, undef, undef, undef, undef, undef, undef, undef, undef], defers := [] }) ?assign ?body ?done ?stop
 case assign =>
  intro l x W K hK
  gi_wp2
  exact hK
 case body =>
  rintro l pre x W ⟨⟨c0, v, c1, ho⟩, hB⟩ hlen
  have hk : bs[x.val]? = some bs[x] := List.getElem?_eq_getElem x.isLt
  have hv0 : ∃ ao n cap, v = .slice ao n cap := by
   rcases ho.2 with ⟨q, _⟩ | ⟨g, cap, cur, q, _⟩
   ·exact ⟨_, _, _, q⟩
   ·exact ⟨_, _, _, q⟩
  obtain ⟨ao', n', cap', rfl⟩ := hv0
  obtain ⟨g, off, cp, hbv, _⟩ := (HR.out.at hk)
  subst hbv
  have hpx := catX_le hcs pre
  have hcx := hcs bs[x] (List.getElem_mem _)
  have hu := (HR.out.below hB).cells bs[x] (List.getElem_mem _)
  obtain ⟨cao, ccap, hcv, _⟩ := id hu.shape
  obtain ⟨va, Wa, hra, hoa, hga⟩ := append_cells w.heap.size _ (catX bs pre) _ bs[x].cs W.drew ho.drew (hu.below (Below.refl _ W).drew) (by omega) hB.size 22
  rw [hcv] at hra
  have hv2 : ∃ ao n cap, va = .slice ao n cap := by
   rcases hoa.2 with ⟨q, _⟩ | ⟨g, cap, cur, q, _⟩
   ·exact ⟨_, _, _, q⟩
   ·exact ⟨_, _, _, q⟩
  obtain ⟨va1, va2, va3, rfl⟩ := hv2
  have HX := Lib.hid (catX_snoc bs pre x)
  have hi0 : (0 : Int) ≤ (x.val : Int) ∧ (x.val : Int) < (bs.length : Int) := ⟨by omega, by have := x.isLt; omega⟩
  have HC := Lib.hid (And.intro hra (And.intro hoa hga))
  have HO := Lib.hid ho
  have HHk := Lib.hid (And.intro hk hcv)
  have hdB : Below w.heap.size w W.drew := hB.drew
  clear hcx hpx hu hra hoa hga ho hk hlen
  gi_wp2
  refine region_bridge (ro := some l) (S := fun X => (∃ z, X.heap[w1.heap.size + 1]? = some (.cells #[z] 22 (0, 0))) ∧ X.heap[w.heap.size]? = some (.cells #[.pointer (some ⟨B, 0, none⟩)] 27 (0, 0)) ∧ Below w.heap.size w X) (by kernel_rfl) (by kernel_rfl) (by rintro ⟨_, _, h⟩; exact h) ⟨⟨_, c1⟩, c0, hdB⟩ (fun hHeld => ?_)
  refine tk (i := 1) (v := ?_) rfl (Or.inl ⟨rfl, ?hy1⟩) ?_
  case hy1 =>
   intro W hS
   obtain ⟨-, s1, s2⟩ := hS
   have hd := HR.out.below s2
   have bx := hd.box
   have q0 := box_cell s1 0
   have q1 := box_cell bx 0
   obtain ⟨g', off', cp', hv', d0, d1, d2⟩ := hd.at HHk.out.1
   rw [HHk.out.2] at d2
   cases hv'
   go_simp
   try with_reducible rfl
  try simp only [td]
  refine tk0 (i := 2) rfl ?_
  try simp only [td]
  refine tk0 (i := 3) rfl ?_
  try simp only [td]
  refine tk (i := 4) (v := ?_) rfl (Or.inl ⟨rfl, ?hy4⟩) ?_
  case hy4 =>
   intro W hS
   obtain ⟨-, s1, s2⟩ := hS
   have hd := HR.out.below s2
   have bx := hd.box
   have q0 := box_cell s1 0
   have q1 := box_cell bx 0
   obtain ⟨g', off', cp', hv', d0, d1, d2⟩ := hd.at HHk.out.1
   rw [HHk.out.2] at d2
   cases hv'
   go_simp
   try with_reducible rfl
  try simp only [td]
  refine tk0 (i := 5) rfl ?_
  try simp only [td]
  refine tk0 (i := 6) rfl ?_
  try simp only [td]
  refine tk0 (i := 7) rfl ?_
  try simp only [td]
  refine tk (i := 8) (v := ?_) rfl (Or.inl ⟨rfl, ?hy8⟩) ?_
  case hy8 =>
   intro W hS
   obtain ⟨-, s1, s2⟩ := hS
   have hd := HR.out.below s2
   have bx := hd.box
   have q0 := box_cell s1 0
   have q1 := box_cell bx 0
   obtain ⟨g', off', cp', hv', d0, d1, d2⟩ := hd.at HHk.out.1
   rw [HHk.out.2] at d2
   cases hv'
   go_simp
   try with_reducible rfl
  try simp only [td]
  refine rd 0 rfl fun K hK => ?_
  have z0 := box_cell (w := W.drew) c1 0
  go_simp
  refine hK.out _ _ (hHeld) (fun hX => ?_)
  clear hK K hHeld
  have hHeld := hX
  clear hX
  refine rd 9 rfl fun K hK => ?_
  rw [if_pos (by rfl)]
  refine wp_run_append rfl rfl rfl HC.out.1 ?_
  refine hK.out _ _ (⟨⟨_, row_grown (W := W.drew) c1 HC.out.2.2 HO.out.drew (by decide)⟩, row_grown (W := W.drew) c0 HC.out.2.2 HO.out.drew (by decide), below_grown hdB HC.out.2.2 HO.out.drew (Nat.le_refl _)⟩) (fun hX => ?_)
  clear hK K hHeld
  have hHeld := hX
  clear hX
  refine rd 10 rfl fun K hK => ?_
  have c1a := row_grown (W := W.drew) c1 HC.out.2.2 HO.out.drew (by decide)
  have z0 := box_cell c1a 0
  have zf := box_frozen c1a 0
  go_simp
  refine hK.out _ _ (⟨⟨_, box_set c1a 0 _⟩, (box_other (by omega) 0 _).trans (row_grown (W := W.drew) c0 HC.out.2.2 HO.out.drew (by decide)), (below_grown hdB HC.out.2.2 HO.out.drew (Nat.le_refl _)).setCell (p := ⟨w1.heap.size + 1, 0, none⟩) (by show w.heap.size ≤ w1.heap.size + 1; omega) _⟩) (fun hX => ?_)
  clear hK K hHeld
  have hHeld := hX
  clear hX
  refine wpAnyH_done (by kernel_rfl) ?_ _
  gi_wp2
  have hgw := (Below.refl W.heap.size W.drew)
  refine ⟨?ko, ?kf, ⟨⟨(box_other (by omega) 0 _).trans (row_grown (W := W.drew) c0 HC.out.2.2 HO.out.drew (by decide)), _, box_set c1a 0 _, ?ow⟩, hHeld.2.2⟩⟩
  case ow =>
   rw [HX.out]
   exact own_far HC.out.2.1 c1a (by decide) 0 _
  case ko =>
   exact (KeepsOthers.drew W).trans ((KeepsOthers.of_grownBy HC.out.2.2 (fun j o hj ho => by obtain ⟨_, cur', hc⟩ := own_typed HO.out.drew j hj; rw [hc] at ho; cases ho; rfl)).trans (KeepsOthers.setCell _ _ _))
  case kf =>
   exact kf_t (kf_t ((KF.refl _ _ W).drew) (KF.grown HC.out.2.2 (by have := hB.size; exact this) (fun g e => by obtain ⟨q1, cur', hc⟩ := own_typed HO.out.drew g e; exact ⟨q1, .inr ⟨_, _, _, hc, .inr (.inr (.inl rfl))⟩⟩))) (KF.set (by omega) (by omega))
 case done =>
  rintro D ys W hD rfl ⟨⟨c0, v, c1, ho⟩, hB⟩ hK
  rw [catX_all] at ho
  have e0 := box_cell c1 0
  have HO := Lib.hid ho
  have HB := Lib.hid hB
  have hv0 : ∃ ao n cap, v = .slice ao n cap := by
   rcases ho.2 with ⟨q, _⟩ | ⟨g, cap, cur, q, _⟩
   ·exact ⟨_, _, _, q⟩
   ·exact ⟨_, _, _, q⟩
  obtain ⟨ao', n', cap', rfl⟩ := hv0
  clear ho hB c0 c1
  gi_wp2
  refine ⟨by simp, .inl ⟨_, _, rfl, run_takeDeferred hK, ?_⟩⟩
  have hBD := belowK_b (w := w) (Nat.le_refl _) W D _ (.deferred none) (by omega) hK rfl rfl
  exact ⟨_, results_tmp rfl _ _ _, _, rfl, own_turn HO.out (grownBy_putObj' W D (.deferred none)) (fun r e => by cases e; exact ⟨_, hK, rfl⟩), HB.out.trans hBD⟩
 case stop =>
  rintro D c pre W hD hpre ⟨hno, _⟩ hK
  exact hno.elim
end Go.Proofs.YtmedickofiielaaGreatDoor

namespace Go.Proofs.YtmedickofiielaaGreatDoor
open Go.RowKit Go.Shelf
attribute [local go_sem] Oper.semAt_some

theorem CAt.take {W : World} {ao : Option Addr} {n cap : Nat} {l : List PCell} (h : CAt W (.slice ao n cap) l) (k : Nat) (hk : k ≤ l.length) : CAt W (.slice ao k cap) (l.take k) := by
 obtain ⟨hl, ao', cap', e, h1, h2, h3, h4⟩ := h
 cases e
 refine ⟨cCells_length _, ao, cap, ?_, ?_, h2, h3, fun ad ha => ?_⟩
 ·rw [List.length_take, Nat.min_eq_left hk]
 ·rw [List.length_take, Nat.min_eq_left hk]; omega
 obtain ⟨b, off, e, hlt, hc⟩ := h4 ad ha
 refine ⟨b, off, e, hlt, fun j u hj => hc j u ?_⟩
 rw [← cCells_take l k hk, List.getElem?_take] at hj
 split at hj
 ·exact hj
 ·cases hj
set_option maxRecDepth 100000 in
set_option maxHeartbeats 4000000 in
theorem bseen_any (g o : Nat) (v : Value) (cs : List PCell) (w : World) (hv : CAt w v cs) (hl : cs.length ≤ 100000) (c0 : w.cell? ⟨g, o, none⟩ = some (.int .i64 (liveN cs : Nat))) (c1 : w.cell? ⟨g, o + 1, none⟩ = some (.int .i64 (goneN cs : Nat))) (c2 : w.cell? ⟨g, o + 2, none⟩ = some v) (n : Nat) :
  Calls Tryz.prog 58 #[.pointer (some ⟨g, o, none⟩), .int .i64 (n : Int)] w fun e W' => e = .returned (.int .i64 (liveN (cs.take n) : Nat)) ∧ Below w.heap.size w W' := by
 have hlg := liveN_gone cs
 have hS := csize_any (liveN cs : Nat) (goneN cs : Nat) w (by omega) (by omega)
 obtain ⟨ao, cap, hvs, hcap, hcm⟩ := hv.shape
 have HV := Lib.hid hv
 have hfd := cnt_field
 rw [hvs] at c2
 obtain ⟨N, hN⟩ : ∃ N, cs.length = N := ⟨_, rfl⟩
 obtain ⟨L, hL⟩ : ∃ L, liveN cs = L := ⟨_, rfl⟩
 obtain ⟨G, hG⟩ : ∃ G, goneN cs = G := ⟨_, rfl⟩
 rw [hN] at hl hlg c2 hcap
 rw [hL] at c0 hS hlg
 rw [hG] at c1 hS hlg
 have HS := Lib.hid hS
 have HN := Lib.hid (And.intro hN (And.intro hL (And.intro hG hvs)))
 clear hv hS hL hG hN hvs
 rcases Nat.lt_or_ge n N with hlt | hge
 ·have hd : ¬ ((L : Int) + (G : Int) ≤ (n : Int)) := by omega
  have hC := counted_any (.slice ao n cap) (cs.take n)
  have HC := Lib.hid (fun W h => hC W h (by rw [List.length_take]; omega))
  clear hC
  have hn1 : (0 : Int) ≤ (n : Int) ∧ (n : Int) ≤ (cap : Int) := ⟨by omega, by omega⟩
  go_enter Tryz.func58, Tryz.ntmps58
  go_wp2_with fail
  refine HS.out.mono ?_
  rintro e w1 ⟨rfl, hb1⟩
  have d2 := cell_stays hb1 c2
  have HB1 := Lib.hid hb1
  clear hb1
  go_wp2_with fail
  have q := HV.out
  rw [HN.out.2.2.2, HN.out.1] at q
  refine (HC.out w1 ((q.take n (by rw [HN.out.1]; omega)).below HB1.out)).mono ?_
  rintro e w2 ⟨rfl, hb2⟩
  have HB2 := Lib.hid (HB1.out.trans (hb2.mono HB1.out.size))
  go_wp2
  go_ret
  exact ⟨rfl, HB2.out⟩
 ·have hd : (L : Int) + (G : Int) ≤ (n : Int) := by omega
  go_enter Tryz.func58, Tryz.ntmps58
  go_wp2_with fail
  refine HS.out.mono ?_
  rintro e w1 ⟨rfl, hb1⟩
  have d0 := cell_stays hb1 c0
  have HB1 := Lib.hid hb1
  clear hb1
  go_wp2
  go_ret
  exact ⟨by rw [List.take_of_length_le (by rw [HN.out.1]; exact hge), HN.out.2.1]; rfl, HB1.out⟩
end Go.Proofs.YtmedickofiielaaGreatDoor

namespace Go.Proofs.YtmedickofiielaaGreatDoor
open Go.RowKit Go.Shelf
attribute [local go_sem] Oper.semAt_some

abbrev frB (bs : List PB) (x : Fin bs.length) : Nat := (catB (bs.take x.val)).length
def seenX (bs : List PB) (p : Nat) (pre : List (Fin bs.length)) : Nat := (pre.map fun i => liveN (bs[i].cs.take (p - frB bs i))).sum
theorem seenX_snoc (bs : List PB) (p : Nat) (pre : List (Fin bs.length)) (x : Fin bs.length) : seenX bs p (pre ++ [x]) = seenX bs p pre + liveN (bs[x].cs.take (p - frB bs x)) := by simp [seenX]
theorem liveN_take_le (l : List PCell) (k : Nat) : liveN (l.take k) ≤ l.length := Nat.le_trans List.countP_le_length (by rw [List.length_take]; omega)
theorem seenX_le {bs : List PB} {M : Nat} (hM : ∀ x ∈ bs, x.cs.length ≤ M) (p : Nat) (pre : List (Fin bs.length)) : seenX bs p pre ≤ pre.length * M := by
 unfold seenX
 induction pre with
 | nil => simp
 | cons a r ih =>
  rw [List.map_cons, List.sum_cons, List.length_cons, Nat.add_mul]
  have h1 := hM bs[a] (List.getElem_mem _)
  have h2 := liveN_take_le bs[a].cs (p - frB bs a)
  omega
theorem seenX_begK (bs : List PB) (p : Nat) : ∀ k, k ≤ bs.length → seenX bs p (begK bs k) = liveN ((catB (bs.take k)).take p)
 | 0, _ => by simp [begK, seenX, catB, liveN]
 | k + 1, h => by
  have hx : bs[k]? = some bs[k] := List.getElem?_eq_getElem (by omega)
  rw [begK_next bs k (by omega), seenX_snoc, seenX_begK bs p k (by omega), catB_take hx, List.take_append, liveN_append]
  rfl
theorem begK_of_pre {bs : List PB} {pre : List (Fin bs.length)} {x : Fin bs.length} (h : pre ++ [x] <+: begL bs) : pre = begK bs x.val := by
 obtain ⟨t, ht⟩ := h
 have hlp : pre.length < bs.length := by
  have := congrArg List.length ht
  simp [begL] at this
  omega
 have hv : x.val = pre.length := by
  have h3 : (begL bs)[pre.length]? = some x := by rw [← ht]; simp
  unfold begL at h3
  rw [List.getElem?_eq_getElem (by simpa using hlp), List.getElem_finRange] at h3
  cases h3
  rfl
 have h2 := congrArg (List.take pre.length) ht
 rw [List.append_assoc, List.take_append_of_le_length (Nat.le_refl _), List.take_of_length_le (Nat.le_refl _)] at h2
 rw [hv]
 exact h2
theorem seenX_all (bs : List PB) (p : Nat) : seenX bs p (begL bs) = cSeen (catB bs) p := by
 rw [← begK_all, seenX_begK bs p bs.length (Nat.le_refl _), List.take_length]
 rfl
theorem seenX_stop {bs : List PB} {p : Nat} {pre : List (Fin bs.length)} {x : Fin bs.length} (h : pre ++ [x] <+: begL bs) (hp : p ≤ frB bs x) : seenX bs p pre = cSeen (catB bs) p := by
 have hx : bs[x.val]? = some bs[x] := List.getElem?_eq_getElem x.isLt
 rw [begK_of_pre h, seenX_begK bs p x.val (Nat.le_of_lt x.isLt)]
 unfold cSeen liveN
 rw [catB_split hx, List.append_assoc, List.take_append_of_le_length hp]
theorem seen_results (W : World) (tm : Array Value) (a b : Int) (h4 : tm.getD 4 undef = .int .i64 a) (h5 : tm.getD 5 undef = .int .i64 b) :
  (results Tryz.f30 tm).run Tryz.prog W = .ok (.tuple #[.int .i64 a, .int .i64 b]) W := by
 have h4' : tm[4]?.getD undef = .int .i64 a := by simpa using h4
 have h5' : tm[5]?.getD undef = .int .i64 b := by simpa using h5
 simp [results, Tryz.f30, go_sem, h4', h5']
set_option maxRecDepth 100000 in
set_option maxHeartbeats 4000000 in
theorem dseen_neg (B : Nat) (P : Int) (w : World) (hP : P < 0) :
  Calls Tryz.prog 30 #[.pointer (some ⟨B, 0, none⟩), .int .i64 P] w fun e W' => e = .returned (.tuple #[.int .i64 0, .int .i64 3]) ∧ Below w.heap.size w W' := by
 have hb : Below w.heap.size w ((w.alloc (.cells #[.pointer (some ⟨B, 0, none⟩)] 27)).alloc (.cells #[.int .i64 P] 3)) := ((Below.refl _ w).alloc (Nat.le_refl _) _).alloc (by simp) _
 have HB := Lib.hid hb
 clear hb
 go_enter Tryz.func30, Tryz.ntmps30
 go_wp2
 go_region
 go_wp2
 refine bodyPost_ret (seen_results _ _ 0 3 rfl rfl) rfl ?_
 exact ⟨rfl, HB.out.drew⟩
set_option maxRecDepth 100000 in
set_option maxHeartbeats 8000000 in
theorem dseen_far (B : Nat) (bv nm : Value) (bs : List PB) (p : Nat) (w : World) (hR : DocR w B bv nm bs) (hp : (catB bs).length < p) :
  Calls Tryz.prog 30 #[.pointer (some ⟨B, 0, none⟩), .int .i64 (p : Int)] w fun e W' => e = .returned (.tuple #[.int .i64 0, .int .i64 3]) ∧ Below w.heap.size w W' := by
 obtain ⟨P, hP⟩ : ∃ P : Int, (p : Int) = P := ⟨_, rfl⟩
 have hall := liveN_gone (catB bs)
 have hroom := hR.room
 have HR := Lib.hid hR
 have A0 := row_al (heap_new w (.cells #[.pointer (some ⟨B, 0, none⟩)] 27)) (.cells #[.int .i64 P] 3)
 have A1 := heap_new1 w (.cells #[.pointer (some ⟨B, 0, none⟩)] 27) (.cells #[.int .i64 P] 3)
 have AB : Below w.heap.size w ((w.alloc (.cells #[.pointer (some ⟨B, 0, none⟩)] 27)).alloc (.cells #[.int .i64 P] 3)) := ((Below.refl _ w).alloc (Nat.le_refl _) _).alloc (by simp) _
 have AS : ((w.alloc (.cells #[.pointer (some ⟨B, 0, none⟩)] 27)).alloc (.cells #[.int .i64 P] 3)).heap.size = w.heap.size + 1 + 1 := by simp
 have hZ := fun W (hb : Below w.heap.size w W) => dsize_any (some ⟨B, 0, none⟩) (liveN (catB bs)) (goneN (catB bs)) W (by omega) (whole_any B bv nm bs W (hR.below hb))
 rw [hall] at hZ
 have HZ := Lib.hid hZ
 have hbeg := fun W => begins_any (some ⟨B, 0, none⟩) W
 obtain ⟨N, hN⟩ : ∃ N, (catB bs).length = N := ⟨_, rfl⟩
 rw [hN] at HZ hroom
 have HP0 := Lib.hid (show ¬ P < 0 by omega)
 have HPN := Lib.hid (show (N : Int) < P by omega)
 have HP := Lib.hid (And.intro hP hN)
 have y0 := box_cell A0 0
 rw [hP]
 clear hP hN hR hZ hall
 have HA := Lib.hid (And.intro A0 (And.intro A1 (And.intro AB AS)))
 clear A0 A1 AB AS
 refine (callsIn_wide (n := 4)).1 ?_
 refine callsIn_of_wp_marks Tryz.func30 rfl trivial ?_ rfl
 simp only [Tryz.ntmps30, List.size_toArray, List.length_cons, List.length_nil, Nat.reduceAdd, Nat.reduceSub, Array.replicate_succ, Array.replicate_zero, List.push_toArray, List.append_toArray, List.nil_append, List.cons_append]
 gi_wp2_with fail
 generalize (w.alloc (.cells #[.pointer (some ⟨B, 0, none⟩)] 27)).alloc (.cells #[.int .i64 P] 3) = w2 at HA y0 ⊢
 have hn0 := HP0.out
 have hnN := HPN.out
 have hsv : decide (P < 0) = false := decide_eq_false (by omega)
 have hsw : decide ((N : Int) < P) = true := decide_eq_true (by omega)
 refine region_bridgeN (ro := none) (S := fun X => X.heap[w.heap.size]? = some (.cells #[.pointer (some ⟨B, 0, none⟩)] 27 (0, 0)) ∧ X.heap[w.heap.size + 1]? = some (.cells #[.int .i64 P] 3 (0, 0)) ∧ Below w.heap.size w X) (by kernel_rfl) (by kernel_rfl) ⟨HA.out.1, HA.out.2.1, HA.out.2.2.1.drew⟩ (fun hHeld => ?_)
 refine tk (i := 0) (v := ?_) rfl (Or.inl ⟨rfl, ?hy1⟩) ?_
 case hy1 =>
  intro W hS
  obtain ⟨s0, s1, -⟩ := hS
  have u0 := box_cell s0 0
  have u1 := box_cell s1 0
  go_simp
  try with_reducible rfl
 try simp only [td]
 refine tk0 (i := 1) rfl ?_
 try simp only [td]
 refine tk0 (i := 2) rfl ?_
 try simp only [td]
 refine tk (i := 3) (v := ?_) rfl (Or.inl ⟨rfl, ?hy4⟩) ?_
 case hy4 =>
  intro W hS
  obtain ⟨s0, s1, -⟩ := hS
  have u0 := box_cell s0 0
  have u1 := box_cell s1 0
  go_simp
  try with_reducible rfl
 try simp only [td]
 refine tk (i := 4) (v := ?_) rfl (Or.inl ⟨rfl, ?hy5⟩) ?_
 case hy5 =>
  intro W hS
  obtain ⟨s0, s1, -⟩ := hS
  have u0 := box_cell s0 0
  have u1 := box_cell s1 0
  go_simp
  try with_reducible rfl
 try simp only [td]
 refine rd 5 rfl fun K hK => ?_
 go_simp
 go_wp2_with (go_at_call 15; refine ((HZ.out _ hHeld.2.2)).mono ?_; rintro e wq ⟨rfl, hb⟩)
 refine hK.out _ _ (⟨row_up hHeld.1 hb, row_up hHeld.2.1 hb, hHeld.2.2.trans (hb.mono hHeld.2.2.size)⟩) (fun hX => ?_)
 clear hK K hHeld
 have hHeld := hX
 clear hX
 refine tk0 (i := 6) rfl ?_
 try simp only [td]
 refine tk0 (i := 7) rfl ?_
 try simp only [td]
 refine wpAnyH_done (by kernel_rfl) ?_ _
 have HQ := Lib.hid hHeld
 clear hHeld
 simp only [onlyN]
 gi_wp2
 exact ⟨_, seen_results _ _ 0 3 rfl rfl, rfl, HQ.out.2.2⟩
set_option maxRecDepth 100000 in
set_option maxHeartbeats 8000000 in
theorem dseen_yes (B : Nat) (bv nm : Value) (bs : List PB) (p : Nat) (w : World) (hR : DocR w B bv nm bs) (hp : p ≤ (catB bs).length) :
  Calls Tryz.prog 30 #[.pointer (some ⟨B, 0, none⟩), .int .i64 (p : Int)] w fun e W' => e = .returned (.tuple #[.int .i64 (cSeen (catB bs) p : Nat), .int .i64 0]) ∧ Below w.heap.size w W' := by
 obtain ⟨P, hP⟩ : ∃ P : Int, (p : Int) = P := ⟨_, rfl⟩
 have hall := liveN_gone (catB bs)
 have hroom := hR.room
 have HR := Lib.hid hR
 have A0 := row_al (heap_new w (.cells #[.pointer (some ⟨B, 0, none⟩)] 27)) (.cells #[.int .i64 P] 3)
 have A1 := heap_new1 w (.cells #[.pointer (some ⟨B, 0, none⟩)] 27) (.cells #[.int .i64 P] 3)
 have AB : Below w.heap.size w ((w.alloc (.cells #[.pointer (some ⟨B, 0, none⟩)] 27)).alloc (.cells #[.int .i64 P] 3)) := ((Below.refl _ w).alloc (Nat.le_refl _) _).alloc (by simp) _
 have AS : ((w.alloc (.cells #[.pointer (some ⟨B, 0, none⟩)] 27)).alloc (.cells #[.int .i64 P] 3)).heap.size = w.heap.size + 1 + 1 := by simp
 have hZ := fun W (hb : Below w.heap.size w W) => dsize_any (some ⟨B, 0, none⟩) (liveN (catB bs)) (goneN (catB bs)) W (by omega) (whole_any B bv nm bs W (hR.below hb))
 rw [hall] at hZ
 have HZ := Lib.hid hZ
 have hbeg := fun W => begins_any (some ⟨B, 0, none⟩) W
 obtain ⟨N, hN⟩ : ∃ N, (catB bs).length = N := ⟨_, rfl⟩
 rw [hN] at HZ hroom
 have HP0 := Lib.hid (show ¬ P < 0 by omega)
 have HPN := Lib.hid (show ¬ (N : Int) < P by omega)
 have HP := Lib.hid (And.intro hP hN)
 have y0 := box_cell A0 0
 rw [hP]
 clear hP hN hR hZ hall
 have HA := Lib.hid (And.intro A0 (And.intro A1 (And.intro AB AS)))
 clear A0 A1 AB AS
 refine (callsIn_wide (n := 4)).1 ?_
 refine callsIn_of_wp_marks Tryz.func30 rfl trivial ?_ rfl
 simp only [Tryz.ntmps30, List.size_toArray, List.length_cons, List.length_nil, Nat.reduceAdd, Nat.reduceSub, Array.replicate_succ, Array.replicate_zero, List.push_toArray, List.append_toArray, List.nil_append, List.cons_append]
 gi_wp2_with fail
 generalize (w.alloc (.cells #[.pointer (some ⟨B, 0, none⟩)] 27)).alloc (.cells #[.int .i64 P] 3) = w2 at HA y0 ⊢
 have hn0 := HP0.out
 have hnN := HPN.out
 have hsv : decide (P < 0) = false := decide_eq_false (by omega)
 have hsw : decide ((N : Int) < P) = false := decide_eq_false (by omega)
 refine region_bridgeN (ro := none) (S := fun X => X.heap[w.heap.size]? = some (.cells #[.pointer (some ⟨B, 0, none⟩)] 27 (0, 0)) ∧ X.heap[w.heap.size + 1]? = some (.cells #[.int .i64 P] 3 (0, 0)) ∧ Below w.heap.size w X) (by kernel_rfl) (by kernel_rfl) ⟨HA.out.1, HA.out.2.1, HA.out.2.2.1.drew⟩ (fun hHeld => ?_)
 refine tk (i := 0) (v := ?_) rfl (Or.inl ⟨rfl, ?hy1⟩) ?_
 case hy1 =>
  intro W hS
  obtain ⟨s0, s1, -⟩ := hS
  have u0 := box_cell s0 0
  have u1 := box_cell s1 0
  go_simp
  try with_reducible rfl
 try simp only [td]
 refine tk0 (i := 1) rfl ?_
 try simp only [td]
 refine tk0 (i := 2) rfl ?_
 try simp only [td]
 refine tk (i := 3) (v := ?_) rfl (Or.inl ⟨rfl, ?hy4⟩) ?_
 case hy4 =>
  intro W hS
  obtain ⟨s0, s1, -⟩ := hS
  have u0 := box_cell s0 0
  have u1 := box_cell s1 0
  go_simp
  try with_reducible rfl
 try simp only [td]
 refine tk (i := 4) (v := ?_) rfl (Or.inl ⟨rfl, ?hy5⟩) ?_
 case hy5 =>
  intro W hS
  obtain ⟨s0, s1, -⟩ := hS
  have u0 := box_cell s0 0
  have u1 := box_cell s1 0
  go_simp
  try with_reducible rfl
 try simp only [td]
 refine rd 5 rfl fun K hK => ?_
 go_simp
 go_wp2_with (go_at_call 15; refine ((HZ.out _ hHeld.2.2)).mono ?_; rintro e wq ⟨rfl, hb⟩)
 refine hK.out _ _ (⟨row_up hHeld.1 hb, row_up hHeld.2.1 hb, hHeld.2.2.trans (hb.mono hHeld.2.2.size)⟩) (fun hX => ?_)
 clear hK K hHeld
 have hHeld := hX
 clear hX
 refine tk0 (i := 6) rfl ?_
 try simp only [td]
 refine tk0 (i := 7) rfl ?_
 try simp only [td]
 refine wpAnyH_done (by kernel_rfl) ?_ _
 obtain ⟨q0, q1, qB⟩ := hHeld
 have z0 := box_cell q0 0
 have HQ := Lib.hid (And.intro q0 (And.intro q1 qB))
 have e0 := row_al q0 (.cells #[.int .i64 0] 3)
 have ez := box_cell e0 0
 clear q0 q1 qB
 simp only [onlyN]
 gi_wp2_with (refine ⟨trivial, ?_⟩; gi_at_call 52; refine (callsIn_wide.2 (hbeg _)).mono ?_; rintro e _ ⟨rfl, rfl⟩)
 obtain ⟨q0, q1, qB⟩ := HQ.out
 have A0 := row_al (row_al q0 (.cells #[.int .i64 0] 3)) (.cells #[.pointer (some ⟨B, 0, none⟩)] 27)
 have A1 := row_al (row_al q1 (.cells #[.int .i64 0] 3)) (.cells #[.pointer (some ⟨B, 0, none⟩)] 27)
 have An := row_al (heap_new wq (.cells #[.int .i64 0] 3)) (.cells #[.pointer (some ⟨B, 0, none⟩)] 27)
 have Ad := heap_new1 wq (.cells #[.int .i64 0] 3) (.cells #[.pointer (some ⟨B, 0, none⟩)] 27)
 have AB : Below w.heap.size w ((wq.alloc (.cells #[.int .i64 0] 3)).alloc (.cells #[.pointer (some ⟨B, 0, none⟩)] 27)) := (qB.alloc qB.size _).alloc (by have := qB.size; simp; omega) _
 have AS : ((wq.alloc (.cells #[.int .i64 0] 3)).alloc (.cells #[.pointer (some ⟨B, 0, none⟩)] 27)).heap.size = wq.heap.size + 1 + 1 := by simp
 have hql := box_lt q1
 generalize (wq.alloc (.cells #[.int .i64 0] 3)).alloc (.cells #[.pointer (some ⟨B, 0, none⟩)] 27) = w3 at A0 A1 An Ad AB AS ⊢
 clear q0 q1 qB HQ ez e0 z0
 have hst := begins_stops 3 (by decide) (wq.heap.size + 1) (wq.heap.size + 1) B bv nm bs w HR.out w3 AB Ad (Nat.le_refl _)
 have hcs : ∀ x ∈ bs, x.cs.length ≤ 100000 := fun x hx => by
  obtain ⟨k, hk, rfl⟩ := List.mem_iff_getElem.1 hx
  have := catB_le (List.getElem?_eq_getElem hk)
  have := HR.out.room
  omega
 have hfew := HR.out.few
 refine wpIn_rangeFunc_ownF rfl (by decide) (gf := 81) (lb := #[.pointer (some ⟨wq.heap.size + 1, 0, none⟩)]) rfl trivial (enters_of Tryz.func81 (by kernel_rfl) rfl)
  hst (fun h k => kf_t h k) (kf_b (by omega)) (Below.refl _ _) (fun _ => rfl)
  (fun pre W => (W.heap[w.heap.size]? = some (.cells #[.pointer (some ⟨B, 0, none⟩)] 27 (0, 0)) ∧ W.heap[w.heap.size + 1]? = some (.cells #[.int .i64 P] 3 (0, 0)) ∧ W.heap[wq.heap.size]? = some (.cells #[.int .i64 (seenX bs p pre : Nat)] 3 (0, 0))) ∧ Below w.heap.size w W)
  (fun c pre W => (c = .exit 0 ∧ (∃ pre' x, pre = pre' ++ [x] ∧ p ≤ frB bs x ∧ W.heap[wq.heap.size]? = some (.cells #[.int .i64 (seenX bs p pre' : Nat)] 3 (0, 0)))) ∧ Below w.heap.size w W)
  (OwnFrom.and (Own.from (fun s A B row hs hg hr => ⟨row_turn hs.1 hg hr, row_turn hs.2.1 hg hr, row_turn hs.2.2 hg hr⟩) _) (ownFrom_below (Nat.le_refl _) (by omega)))
  (fun c => OwnFrom.and (Own.from (fun s A B row hs hg hr => ⟨hs.1, by obtain ⟨p', x, h0, h1, h2⟩ := hs.2; exact ⟨p', x, h0, h1, row_turn h2 hg hr⟩⟩) _) (ownFrom_below (Nat.le_refl _) (by omega)))
  ⟨⟨A0, A1, An⟩, AB⟩
  (fun x => { tmps := #[.pointer (some ⟨B, 0, none⟩), .int .i64 P, .pointer (some ⟨w.heap.size, 0, none⟩), .pointer (some ⟨w.heap.size + 1, 0, none⟩), .int .i64 0, .int .i64 0, .pointer (some ⟨wq.heap.size, 0, none⟩), .int .i64 (x.val : Int), .int .i64 ((catB (bs.take x.val)).length : Nat), .pointer (some ⟨B, 0, none⟩), .bool false, .int .i64 P, .bool false, .bool false, .int .i64 P, .pointer (some ⟨B, 0, none⟩), .int .i64 (N : Nat), .bool false, .bool false, .pointer (some ⟨B, 0, none⟩), .func (.func 81) #[] #[.pointer (some ⟨wq.heap.size + 1, 0, none⟩)], .int .i64 (x.val : Int), .int .i64 ((catB (bs.take x.val)).length : Nat), undef, undef, undef, undef, undef, undef, undef, undef, undef, undef, undef, undef, undef, undef, undef, undef], defers := [] }) ?assign ?body ?done ?stop
 case assign =>
  intro l x W K hK
  gi_wp2
  exact hK
 case body =>
  rintro l pre x W ⟨⟨c0, c1, c2⟩, hB⟩ hlen
  have hk : bs[x.val]? = some bs[x] := List.getElem?_eq_getElem x.isLt
  have hle := catB_le hk
  have hpx := seenX_le hcs p pre
  have hcx := hcs bs[x] (List.getElem_mem _)
  have htk := liveN_take_le bs[x].cs (p - frB bs x)
  have hfrl : frB bs x + bs[x].cs.length ≤ 100000 := Nat.le_trans hle HR.out.room
  have hpp := HP.out.1
  obtain ⟨Fr, hFr⟩ : ∃ z, frB bs x = z := ⟨_, rfl⟩
  have hFr' : (catB (bs.take x.val)).length = Fr := hFr
  have y1 := box_cell c1 0
  have HX := Lib.hid (seenX_snoc bs p pre x)
  rw [hFr] at HX htk hfrl
  rcases Nat.lt_or_ge Fr p with hlt | hge
  ·have hd : ¬ P ≤ (Fr : Int) := by omega
   obtain ⟨g, off, cp, hbv, d0, d1, d2⟩ := HR.out.at hk
   have hw1 : IntKind.i64.wrap (P - (Fr : Int)) = ((p - Fr : Nat) : Int) := by rw [IntWalk.i64_in _ (by omega)]; omega
   have hi0 : (0 : Int) ≤ (x.val : Int) ∧ (x.val : Int) < (bs.length : Int) := ⟨by omega, by have := x.isLt; omega⟩
   obtain ⟨V, hV⟩ : ∃ z, seenX bs p pre = z := ⟨_, rfl⟩
   obtain ⟨T, hT⟩ : ∃ z, liveN (bs[x].cs.take (p - Fr)) = z := ⟨_, rfl⟩
   have hpr : pre.length * 100000 ≤ 100000000000 := by omega
   have hSE := fun X (h : Below w.heap.size w X) => bseen_any g (off + x.val * 3) bs[x].v bs[x].cs X ((HR.out.cells bs[x] (List.getElem_mem _)).below h) hcx (cell_stays h d0) (cell_stays h d1) (cell_stays h d2) (p - Fr)
   rw [hV] at c2 hpx HX
   rw [hT] at HX htk
   rw [hT] at hSE
   have hw2 : IntKind.i64.wrap ((V : Int) + (T : Int)) = ((V + T : Nat) : Int) := by rw [IntWalk.i64_in _ (by omega)]; omega
   have HSE := Lib.hid hSE
   have HC := Lib.hid (And.intro c0 (And.intro c1 (And.intro c2 hB)))
   clear c0 c1 c2 hB hSE hV hT hpx hcx htk hle hlen hpr d0 d1 d2 hpp hk
   dsimp only
   rw [hFr']
   gi_wp2
   refine region_bridge (ro := some l) (S := fun X => (∃ z, X.heap[wq.heap.size]? = some (.cells #[z] 3 (0, 0))) ∧ X.heap[w.heap.size]? = some (.cells #[.pointer (some ⟨B, 0, none⟩)] 27 (0, 0)) ∧ X.heap[w.heap.size + 1]? = some (.cells #[.int .i64 P] 3 (0, 0)) ∧ Below w.heap.size w X) (by kernel_rfl) (by kernel_rfl) (by rintro ⟨_, _, h⟩; exact h) ⟨⟨_, HC.out.2.2.1⟩, HC.out.1, HC.out.2.1, HC.out.2.2.2.drew⟩ (fun hHeld => ?_)
   refine tk (i := 1) (v := ?_) rfl (Or.inl ⟨rfl, ?hy8⟩) ?_
   case hy8 =>
    intro W hS
    obtain ⟨-, s0, s1, s3⟩ := hS
    have u0 := box_cell s0 0
    have u1 := box_cell s1 0
    have s4 := HR.out.below s3
    obtain ⟨g1, off1, cp1, hbv1, -⟩ := s4.at (List.getElem?_eq_getElem x.isLt : bs[x.val]? = some bs[x])
    have s5 := s4.box
    rw [hbv] at s5
    have u5 := box_cell s5 0
    go_simp
    try with_reducible rfl
   try simp only [td]
   refine tk0 (i := 2) rfl ?_
   try simp only [td]
   refine tk0 (i := 3) rfl ?_
   try simp only [td]
   refine tk (i := 4) (v := ?_) rfl (Or.inl ⟨rfl, ?hy11⟩) ?_
   case hy11 =>
    intro W hS
    obtain ⟨-, s0, s1, s3⟩ := hS
    have u0 := box_cell s0 0
    have u1 := box_cell s1 0
    have s4 := HR.out.below s3
    obtain ⟨g1, off1, cp1, hbv1, -⟩ := s4.at (List.getElem?_eq_getElem x.isLt : bs[x.val]? = some bs[x])
    have s5 := s4.box
    rw [hbv] at s5
    have u5 := box_cell s5 0
    go_simp
    try with_reducible rfl
   try simp only [td]
   refine tk0 (i := 5) rfl ?_
   try simp only [td]
   refine tk0 (i := 6) rfl ?_
   try simp only [td]
   refine tk (i := 7) (v := ?_) rfl (Or.inl ⟨rfl, ?hy14⟩) ?_
   case hy14 =>
    intro W hS
    obtain ⟨-, s0, s1, s3⟩ := hS
    have u0 := box_cell s0 0
    have u1 := box_cell s1 0
    have s4 := HR.out.below s3
    obtain ⟨g1, off1, cp1, hbv1, -⟩ := s4.at (List.getElem?_eq_getElem x.isLt : bs[x.val]? = some bs[x])
    have s5 := s4.box
    rw [hbv] at s5
    have u5 := box_cell s5 0
    go_simp
    try with_reducible rfl
   try simp only [td]
   refine tk0 (i := 8) rfl ?_
   try simp only [td]
   refine tk0 (i := 9) rfl ?_
   try simp only [td]
   refine wpAnyH_ready (rs := [0, 10]) (by kernel_rfl) (by simp) (AllReadyH.cons rfl (fun K hK => ?_) (AllReadyH.cons rfl (fun K hK => ?_) AllReadyH.nil))
   ·have zn := box_cell (w := W.drew) HC.out.2.2.1 0
    go_simp
    refine hK.out _ _ (hHeld) (fun hX => ?_)
    clear hK K hHeld
    have hHeld := hX
    clear hX
    refine rd 10 rfl fun K hK => ?_
    go_simp
    go_wp2_with (go_at_call 58; refine (HSE.out _ hHeld.2.2.2).mono ?_; rintro e wb ⟨rfl, hb⟩)
    have c2b := row_up (W := W.drew) HC.out.2.2.1 hb
    refine hK.out _ _ (⟨⟨_, c2b⟩, row_up hHeld.2.1 hb, row_up hHeld.2.2.1 hb, hHeld.2.2.2.trans (hb.mono hHeld.2.2.2.size)⟩) (fun hX => ?_)
    clear hK K hHeld
    have hHeld := hX
    clear hX
    refine tk0 (i := 11) rfl ?_
    try simp only [td]
    refine rd 12 rfl fun K hK => ?_
    have zn := box_cell c2b 0
    have zf := box_frozen c2b 0
    have hB4 := hHeld.2.2.2
    have c0b := hHeld.2.1
    have c1b := hHeld.2.2.1
    go_simp
    refine hK.out _ _ (⟨⟨_, box_set c2b 0 _⟩, (box_other (by omega) 0 _).trans c0b, (box_other (by omega) 0 _).trans c1b, hB4.setCell (p := ⟨wq.heap.size, 0, none⟩) (by show w.heap.size ≤ wq.heap.size; omega) _⟩) (fun hX => ?_)
    clear hK K hHeld
    have hHeld := hX
    clear hX
    refine wpAnyH_done (by kernel_rfl) ?_ _
    gi_wp2
    have hgw := Below.refl W.heap.size W.drew
    refine ⟨(KeepsOthers.drew W).trans ((others_below hb).trans (KeepsOthers.setCell _ _ _)), kf_t ((KF.refl _ _ W).drew) (kf_t (KF.below HC.out.2.2.2.size hb) (KF.set (by omega) (by omega))), ⟨⟨(box_other (by omega) 0 _).trans c0b, (box_other (by omega) 0 _).trans c1b, by rw [HX.out]; exact box_set c2b 0 _⟩, hB4.setCell (p := ⟨wq.heap.size, 0, none⟩) (by show w.heap.size ≤ wq.heap.size; omega) _⟩⟩
   ·go_simp
    go_wp2_with (go_at_call 58; refine (HSE.out _ hHeld.2.2.2).mono ?_; rintro e wb ⟨rfl, hb⟩)
    have c2b := row_up (W := W.drew) HC.out.2.2.1 hb
    refine hK.out _ _ (⟨⟨_, c2b⟩, row_up hHeld.2.1 hb, row_up hHeld.2.2.1 hb, hHeld.2.2.2.trans (hb.mono hHeld.2.2.2.size)⟩) (fun hX => ?_)
    clear hK K hHeld
    have hHeld := hX
    clear hX
    refine rd 0 rfl fun K hK => ?_
    have zn := box_cell c2b 0
    go_simp
    refine hK.out _ _ (hHeld) (fun hX => ?_)
    clear hK K hHeld
    have hHeld := hX
    clear hX
    refine tk0 (i := 11) rfl ?_
    try simp only [td]
    refine rd 12 rfl fun K hK => ?_
    have zn := box_cell c2b 0
    have zf := box_frozen c2b 0
    have hB4 := hHeld.2.2.2
    have c0b := hHeld.2.1
    have c1b := hHeld.2.2.1
    go_simp
    refine hK.out _ _ (⟨⟨_, box_set c2b 0 _⟩, (box_other (by omega) 0 _).trans c0b, (box_other (by omega) 0 _).trans c1b, hB4.setCell (p := ⟨wq.heap.size, 0, none⟩) (by show w.heap.size ≤ wq.heap.size; omega) _⟩) (fun hX => ?_)
    clear hK K hHeld
    have hHeld := hX
    clear hX
    refine wpAnyH_done (by kernel_rfl) ?_ _
    gi_wp2
    have hgw := Below.refl W.heap.size W.drew
    refine ⟨(KeepsOthers.drew W).trans ((others_below hb).trans (KeepsOthers.setCell _ _ _)), kf_t ((KF.refl _ _ W).drew) (kf_t (KF.below HC.out.2.2.2.size hb) (KF.set (by omega) (by omega))), ⟨⟨(box_other (by omega) 0 _).trans c0b, (box_other (by omega) 0 _).trans c1b, by rw [HX.out]; exact box_set c2b 0 _⟩, hB4.setCell (p := ⟨wq.heap.size, 0, none⟩) (by show w.heap.size ≤ wq.heap.size; omega) _⟩⟩
  ·have hd : P ≤ (Fr : Int) := by omega
   have HC := Lib.hid (And.intro c2 hB)
   clear c0 c1 c2 hB hle hlen hpx hcx htk hpp hk
   dsimp only
   rw [hFr']
   gi_wp2
   refine ⟨KeepsOthers.refl _, ⟨rfl, pre, x, rfl, by rw [hFr]; exact hge, HC.out.1⟩, HC.out.2⟩
 case done =>
  rintro D xs Z hD rfl ⟨⟨c0, c1, c2⟩, hB⟩ hK
  rw [seenX_all] at c2
  have z2 := box_cell c2 0
  have HB := Lib.hid hB
  clear c0 c1 c2 hB
  gi_wp2
  refine ⟨by simp, .inl ⟨_, _, rfl, run_takeDeferred hK, ?_⟩⟩
  have hBD := belowK_b (w := w) (Nat.le_refl _) Z D _ (.deferred none) (by omega) hK rfl rfl
  exact ⟨_, seen_results _ _ _ 0 rfl rfl, rfl, HB.out.trans hBD⟩
 case stop =>
  rintro D c pre Z hD hpre ⟨⟨rfl, pre', x, rfl, hpf, c2⟩, hB⟩ hK
  rw [seenX_stop hpre hpf] at c2
  have z2 := box_cell c2 0
  have HB := Lib.hid hB
  clear c2 hB hpre hpf
  gi_wp2
  refine ⟨by simp, .inl ⟨_, _, rfl, run_takeDeferred hK, ?_⟩⟩
  have hBD := belowK_b (w := w) (Nat.le_refl _) Z D _ (.deferred none) (by omega) hK rfl rfl
  exact ⟨_, seen_results _ _ _ 0 rfl rfl, rfl, HB.out.trans hBD⟩
end Go.Proofs.YtmedickofiielaaGreatDoor

namespace Go.Proofs.YtmedickofiielaaGreatDoor
open Go.RowKit Go.Shelf
attribute [local go_sem] Oper.semAt_some

def isC (s q off : Int) (c : PCell) : Bool := decide (c.site = s ∧ c.seq = q ∧ c.off = off)
def ixI (s q off : Int) (l : List PCell) : Int := match l.findIdx? (isC s q off) with
 | some k => (k : Int)
 | none => -1
set_option maxRecDepth 100000 in
set_option maxHeartbeats 4000000 in
theorem find1_any (N O : Nat) (s q off : Int) (c : PCell) (w : World) (hN : w.heap[N]? = some (.cells #[.int .i64 s, .int .i64 q] 46 (0, 0))) (hO : w.heap[O]? = some (.cells #[.int .i64 off] 3 (0, 0))) :
  Calls Tryz.prog 83 #[cA c, .pointer (some ⟨N, 0, none⟩), .pointer (some ⟨O, 0, none⟩)] w fun e w' => e = .returned (.bool (isC s q off c)) ∧ Below w.heap.size w w' := by
 obtain ⟨s', q', f', r', g'⟩ := c
 unfold cA
 have hb : Below w.heap.size w (w.alloc (.cells #[.int .i64 s', .int .i64 q', .int .i64 f', .int .i32 r', .bool g'] 48)) := (Below.refl _ w).alloc (Nat.le_refl _) _
 have HB := Lib.hid hb
 have n0 := row_al hN (.cells #[.int .i64 s', .int .i64 q', .int .i64 f', .int .i32 r', .bool g'] 48)
 have o0 := row_al hO (.cells #[.int .i64 s', .int .i64 q', .int .i64 f', .int .i32 r', .bool g'] 48)
 have c0 := heap_new w (.cells #[.int .i64 s', .int .i64 q', .int .i64 f', .int .i32 r', .bool g'] 48)
 have z0 := box_cell n0 0
 have z1 := box_cell n0 1
 have z2 := box_cell o0 0
 have y0 := box_cell c0 0
 have y1 := box_cell c0 1
 have y2 := box_cell c0 2
 have hnn := row_up hN (Below.refl _ w)
 clear hb n0 o0 c0 hN hO hnn
 by_cases h1 : (s' == s && q' == q) = true
 ·have hne := fun W => nmEq_eql W s' q' s q true h1
  have h1' := Lib.hid (show s' = s ∧ q' = q by simpa using h1)
  clear h1
  go_enter Tryz.func83, Tryz.ntmps83
  go_wp2
  go_ret
  exact ⟨by unfold isC; rw [h1'.out.1, h1'.out.2]; simp; rfl, HB.out⟩
 ·have h1 : (s' == s && q' == q) = false := by simpa using h1
  have hne := fun W => nmEq_eql W s' q' s q false h1
  have h1' : ¬ (s' = s ∧ q' = q ∧ f' = off) := by
   intro h
   rw [h.1, h.2.1] at h1
   simp at h1
  clear h1
  have H1 := Lib.hid h1'
  clear h1'
  go_enter Tryz.func83, Tryz.ntmps83
  go_wp2
  go_ret
  exact ⟨by unfold isC; rw [decide_eq_false H1.out]; rfl, HB.out⟩
theorem ixI_at {s q off : Int} {l : List PCell} {k : Nat} {c : PCell} (hc : l[k]? = some c) (hb : (l.take k).all (fun d => !isC s q off d) = true) (h : isC s q off c = true) : ixI s q off l = (k : Int) := by
 obtain ⟨hk, e⟩ := List.getElem?_eq_some_iff.1 hc
 have : l.findIdx? (isC s q off) = some k := by
  rw [List.findIdx?_eq_some_iff_getElem]
  refine ⟨hk, by rw [e]; exact h, fun j hj => ?_⟩
  have h2 := List.all_eq_true.1 hb l[j] (by
   have : (l.take k)[j]? = some l[j] := by rw [List.getElem?_take, if_pos hj]; exact List.getElem?_eq_getElem _
   exact List.mem_of_getElem? this)
  simpa using h2
 unfold ixI
 rw [this]
theorem ixI_no {s q off : Int} {l : List PCell} (hb : l.all (fun d => !isC s q off d) = true) : ixI s q off l = -1 := by
 have : l.findIdx? (isC s q off) = none := by
  rw [List.findIdx?_eq_none_iff]
  intro x hx
  have := List.all_eq_true.1 hb x hx
  simpa using this
 unfold ixI
 rw [this]
set_option maxRecDepth 100000 in
set_option maxHeartbeats 4000000 in
theorem ixfunc_any (N O : Nat) (s q off : Int) (v : Value) (l : List PCell) (w : World) (h : CAt w v l) (hl : l.length ≤ 1000000) (hN : w.heap[N]? = some (.cells #[.int .i64 s, .int .i64 q] 46 (0, 0))) (hO : w.heap[O]? = some (.cells #[.int .i64 off] 3 (0, 0))) :
  Calls Tryz.prog 82 #[v, .func (.func 83) #[] #[.pointer (some ⟨N, 0, none⟩), .pointer (some ⟨O, 0, none⟩)]] w fun e w' => e = .returned (.int .i64 (ixI s q off l)) ∧ Below w.heap.size w w' := by
 have hF := fun c W (hb : Below w.heap.size w W) => find1_any N O s q off c W (row_up hN hb) (row_up hO hb)
 have HF := Lib.hid hF
 have HR := Lib.hid h
 obtain ⟨ao, cap, rfl, -⟩ := h.shape
 obtain ⟨M, hM⟩ : ∃ M, l.length = M := ⟨_, rfl⟩
 have HM := Lib.hid hM
 rw [hM] at hl
 clear hF hM h hN hO
 rw [HM.out]
 go_enter Tryz.func82, Tryz.ntmps82
 go_wp2
 go_loopw [8, 5, 10, 11, 12, 13, 14, 15, 16, 9] (fun i _ _ _ _ _ _ _ _ _ wr => ∃ k : Nat, k ≤ M ∧ i = .int .i64 k ∧ RowKit.Hid ((l.take k).all (fun d => !isC s q off d) = true) ∧ RowKit.Hid (Below w.heap.size w wr)) (fun i _ _ _ _ _ _ _ _ _ _ => M - (intOf i).toNat)
 case atStart => exact ⟨0, Nat.zero_le _, rfl, Lib.hid (by simp), Lib.hid (Below.refl _ _)⟩
 case round =>
  rename World => wr
  obtain ⟨k, hk, rfl, hall, hB⟩ := hrel
  rcases Nat.lt_or_ge k M with hlt | hge
  ·obtain ⟨c, hc⟩ : ∃ c, l[k]? = some c := ⟨_, List.getElem?_eq_getElem (by rw [HM.out]; exact hlt)⟩
   obtain ⟨b, off', cp, hv, c0, c1, c2, c3, c4⟩ := (HR.out.below hB.out).at hc
   rw [HM.out] at hv
   cases hv
   have hi0 : (0 : Int) ≤ (k : Int) ∧ (k : Int) < (M : Int) := ⟨by omega, by omega⟩
   have HC := Lib.hid hc
   obtain ⟨z, hz⟩ : ∃ z, isC s q off c = z := ⟨_, rfl⟩
   have hf := HF.out c wr hB.out
   rw [hz] at hf
   have Hf := Lib.hid hf
   have HZ := Lib.hid hz
   obtain ⟨s', q', f', r', g'⟩ := c
   dsimp only at c0 c1 c2 c3 c4
   clear hc hf hz
   cases z with
   | true =>
    go_wp2_with (go_at_call 83; refine Hf.out.mono ?_; rintro e w2 ⟨rfl, hb2⟩)
    go_ret
    exact ⟨by rw [ixI_at HC.out hall.out HZ.out]; rfl, hB.out.trans (hb2.mono hB.out.size)⟩
   | false =>
    go_wp2_with (go_at_call 83; refine Hf.out.mono ?_; rintro e w2 ⟨rfl, hb2⟩)
    go_roundw
    case rel =>
     refine ⟨k + 1, by omega, by go_num, Lib.hid ?_, Lib.hid (hB.out.trans (hb2.mono hB.out.size))⟩
     rw [List.take_add_one, HC.out, List.all_append, hall.out]
     simp [HZ.out]
    case measure => simp [intOf]; omega
  ·obtain rfl : M = k := by omega
   go_wp2
   go_ret
   exact ⟨by rw [ixI_no (by have := hall.out; rwa [List.take_of_length_le (by rw [HM.out]; exact Nat.le_refl _)] at this)]; rfl, hB.out⟩
set_option maxRecDepth 100000 in
set_option maxHeartbeats 4000000 in
theorem bfind_any (g o : Nat) (v : Value) (cs : List PCell) (s q off : Int) (w : World) (hv : CAt w v cs) (hl : cs.length ≤ 100000) (c2 : w.cell? ⟨g, o + 1 + 1, none⟩ = some v) :
  Calls Tryz.prog 53 #[.pointer (some ⟨g, o, none⟩), nmV s q, .int .i64 off] w fun e W' => e = .returned (.int .i64 (ixI s q off cs)) ∧ Below w.heap.size w W' := by
 have A0 := row_al (heap_new w (.cells #[.int .i64 s, .int .i64 q] 46)) (.cells #[.int .i64 off] 3)
 have A1 := heap_new1 w (.cells #[.int .i64 s, .int .i64 q] 46) (.cells #[.int .i64 off] 3)
 have AB : Below w.heap.size w ((w.alloc (.cells #[.int .i64 s, .int .i64 q] 46)).alloc (.cells #[.int .i64 off] 3)) := ((Below.refl _ w).alloc (Nat.le_refl _) _).alloc (by simp) _
 have H := ixfunc_any w.heap.size (w.heap.size + 1) s q off v cs _ (hv.below AB) (by omega) A0 A1
 have d2 := cell_stays AB c2
 have HH := Lib.hid H
 have HB := Lib.hid AB
 obtain ⟨ao, cap, rfl, -⟩ := hv.shape
 clear A0 A1 AB H hv
 unfold nmV
 go_enter Tryz.func53, Tryz.ntmps53
 go_wp2_with fail
 refine HH.out.mono ?_
 rintro e w2 ⟨rfl, hb2⟩
 have HB2 := Lib.hid (HB.out.trans (hb2.mono HB.out.size))
 go_wp2
 go_ret
 exact ⟨rfl, HB2.out⟩
end Go.Proofs.YtmedickofiielaaGreatDoor
