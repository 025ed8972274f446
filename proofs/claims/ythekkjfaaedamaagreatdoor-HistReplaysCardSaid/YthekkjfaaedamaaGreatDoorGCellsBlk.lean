/- Texts of this proof, joined. -/
import Derived.Test.YthekkjfaaedamaaGreatDoorCellsCount
import Derived.RangeFuncNested
import Derived.RangeFuncBound
import Derived.RangeFuncCalls
import Derived.RangeFuncLeaves
import Derived.RangeFuncBox
import Derived.Shelf.Abstract
import Derived.Shelf.RegionOpen
import Derived.OwnWalkIn
import Derived.TacticsInMore
import Derived.LoopNIn
import Derived.LoopIn
import Derived.Lib.PathFns
import Derived.Outline
import Derived.Test.YthekkjfaaedamaaGreatDoorGSpansPlain
import Derived.Test.YthekkjfaaedamaaGreatDoorGBridge
import Derived.Test.YthekkjfaaedamaaGreatDoorGReads64
import Derived.Test.YthekkjfaaedamaaGreatDoorGRefOps
namespace Go.Proofs.YthekkjfaaedamaaGreatDoor
open Go.RowKit Go.Shelf
attribute [local go_sem] Oper.semAt_some

structure PB where
 cs : List PCell
 v : Value
def kV (x : PB) : List Value := [.int .i64 (liveN x.cs : Nat), .int .i64 (goneN x.cs : Nat), x.v]
def kCells : List PB → List Value
 | [] => []
 | x :: r => kV x ++ kCells r
theorem kCells_append : ∀ a b, kCells (a ++ b) = kCells a ++ kCells b
 | [], _ => rfl
 | c :: r, b => by show kV c ++ kCells (r ++ b) = _; rw [kCells_append r b, ← List.append_assoc]; rfl
theorem kCells_length : ∀ l, (kCells l).length = l.length * 3
 | [] => rfl
 | c :: r => by
  show (kV c ++ kCells r).length = (r.length + 1) * 3
  rw [List.length_append, kCells_length r, show (kV c).length = 3 from rfl]
  omega
theorem kCells_at : ∀ (l : List PB) (i j : Nat) (c : PB), l[i]? = some c → j < 3 → (kCells l)[i * 3 + j]? = (kV c)[j]?
 | [], i, _, _, h, _ => by simp at h
 | d :: r, 0, j, c, h, hj => by
  obtain rfl : d = c := by simpa using h
  show (kV d ++ kCells r)[0 * 3 + j]? = _
  rw [List.getElem?_append_left (by show 0 * 3 + j < 3; omega), show 0 * 3 + j = j by omega]
 | d :: r, i + 1, j, c, h, hj => by
  show (kV d ++ kCells r)[(i + 1) * 3 + j]? = _
  rw [List.getElem?_append_right (by show 3 ≤ (i + 1) * 3 + j; omega), show (i + 1) * 3 + j - (kV d).length = i * 3 + j by show (i + 1) * 3 + j - 3 = _; omega]
  exact kCells_at r i j c (by simpa using h) hj
def catB (bs : List PB) : List PCell := bs.flatMap (·.cs)
theorem catB_append (a b : List PB) : catB (a ++ b) = catB a ++ catB b := by simp [catB]
theorem catB_take {bs : List PB} {k : Nat} {x : PB} (h : bs[k]? = some x) : catB (bs.take (k + 1)) = catB (bs.take k) ++ x.cs := by
 rw [List.take_add_one, h, catB_append]
 simp [catB]
theorem catB_split {bs : List PB} {k : Nat} {x : PB} (h : bs[k]? = some x) : catB bs = catB (bs.take k) ++ x.cs ++ catB (bs.drop (k + 1)) := by
 conv => lhs; rw [← List.take_append_drop (k + 1) bs]
 rw [catB_append, catB_take h]
def begL (bs : List PB) : List (Fin bs.length) := List.finRange bs.length
def begK (bs : List PB) (k : Nat) : List (Fin bs.length) := (List.finRange bs.length).take k
theorem begK_next (bs : List PB) (k : Nat) (h : k < bs.length) : begK bs (k + 1) = begK bs k ++ [⟨k, h⟩] := by
 unfold begK
 rw [List.take_add_one]
 congr 1
 simp [h]
theorem begK_length (bs : List PB) (k : Nat) (h : k ≤ bs.length) : (begK bs k).length = k := by simp [begK, h]
theorem begK_pre (bs : List PB) (k : Nat) : begK bs k <+: begL bs := List.take_prefix _ _
theorem begK_all (bs : List PB) : begK bs bs.length = begL bs := by unfold begK begL; rw [List.take_of_length_le (by simp)]
abbrev encB (bs : List PB) (x : Fin bs.length) : Array Value := #[.int .i64 (x.val : Int), .int .i64 ((catB (bs.take x.val)).length : Nat)]
def catX (bs : List PB) (pre : List (Fin bs.length)) : List PCell := pre.flatMap fun i => bs[i].cs
theorem catX_snoc (bs : List PB) (pre : List (Fin bs.length)) (x : Fin bs.length) : catX bs (pre ++ [x]) = catX bs pre ++ bs[x].cs := by simp [catX]
theorem catX_all (bs : List PB) : catX bs (begL bs) = catB bs := by
 unfold catX begL catB
 have h : bs = (List.finRange bs.length).map fun i => bs[i] := by
  apply List.ext_getElem
  ·simp
  ·intro i h1 h2; simp
 conv => rhs; rw [h]
 rw [List.flatMap_map]
theorem catX_le {bs : List PB} {M : Nat} (hM : ∀ x ∈ bs, x.cs.length ≤ M) (pre : List (Fin bs.length)) : (catX bs pre).length ≤ pre.length * M := by
 unfold catX
 induction pre with
 | nil => simp
 | cons a r ih =>
  rw [List.flatMap_cons, List.length_append, List.length_cons, Nat.add_mul]
  have := hM bs[a] (List.getElem_mem _)
  omega

def RowT (t : TypeId) : Prop := t = 105 ∨ t = 21 ∨ t = 64 ∨ t = 76
def KF (n₀ m₁ : Nat) (W W' : World) : Prop := Below n₀ W W' ∧ ∀ (i : Nat) (c : Array Value) (t : TypeId) (fr : Nat × Nat), m₁ ≤ i → ¬ RowT t → W.heap[i]? = some (.cells c t fr) → W'.heap[i]? = some (.cells c t fr)
theorem kf_t {n₀ m₁ : Nat} {X Y Z : World} (h : KF n₀ m₁ X Y) (k : KF n₀ m₁ Y Z) : KF n₀ m₁ X Z := ⟨h.1.trans k.1, fun i c t fr hi ht q => k.2 i c t fr hi ht (h.2 i c t fr hi ht q)⟩
theorem kf_b {n₀ m₁ : Nat} {w : World} (hn : n₀ ≤ w.heap.size) (W : World) (l : Nat) (o o' : Obj) (hl : w.heap.size ≤ l) (h : W.heap[l]? = some o) (hc : o.isCells = false) (hw : o.isWalk = false) : KF n₀ m₁ W (W.putObj l o') := by
 refine ⟨belowK_b hn W l o o' hl h hc hw, fun i c t fr _ _ q => ?_⟩
 by_cases e : i = l
 ·subst e
  rw [q] at h
  cases h
  cases hc
 ·rw [World.putObj_heap_other (by omega)]
  exact q
theorem KF.refl (n₀ m₁ : Nat) (W : World) : KF n₀ m₁ W W := ⟨Below.refl _ _, fun _ _ _ _ _ _ q => q⟩
theorem KF.below {n₀ m₁ : Nat} {W W' : World} (hn : n₀ ≤ W.heap.size) (h : Below W.heap.size W W') : KF n₀ m₁ W W' := ⟨h.mono hn, fun i _ _ _ _ _ q => (h.block i (Array.getElem?_eq_some_iff.1 q).1).trans q⟩
theorem KF.drew {n₀ m₁ : Nat} {W W' : World} (h : KF n₀ m₁ W W') : KF n₀ m₁ W W'.drew := ⟨h.1.drew, h.2⟩
theorem KF.up {n₀ n₁ m₁ m₂ : Nat} {W W' : World} (h : KF n₀ m₁ W W') (hn : n₁ ≤ n₀) (hm : m₁ ≤ m₂) : KF n₁ m₂ W W' := ⟨h.1.mono hn, fun i c t fr hi ht q => h.2 i c t fr (Nat.le_trans hm hi) ht q⟩
theorem KF.set {n₀ m₁ B o : Nat} {W : World} {u : Value} (hn : n₀ ≤ B) (hm : B < m₁) : KF n₀ m₁ W (W.setCell ⟨B, o, none⟩ u) :=
 ⟨(Below.refl n₀ W).setCell (p := ⟨B, o, none⟩) hn u, fun i _ _ _ hi _ q => (Below.heap_setCell _ _ _ _ (show i ≠ B by omega)).trans q⟩
theorem KF.alloc {n₀ m₁ : Nat} {W : World} (hn : n₀ ≤ W.heap.size) (o : Obj) : KF n₀ m₁ W (W.alloc o) := KF.below hn ((Below.refl _ W).alloc (Nat.le_refl _) o)
theorem KF.grown {n₀ m₁ : Nat} {W W' : World} {r : Option Nat} (hg : W.grownBy W' r) (hn : n₀ ≤ W.heap.size) (hr : ∀ g, r = some g → n₀ ≤ g ∧ (g < m₁ ∨ ∃ c t fr, W.heap[g]? = some (.cells c t fr) ∧ RowT t)) : KF n₀ m₁ W W' := by
 refine ⟨(Below.refl n₀ W).grown hg hn (fun g e => (hr g e).1), fun i c t fr hi ht q => ?_⟩
 by_cases e : some i = r
 ·obtain ⟨_, h⟩ := hr i e.symm
  rcases h with h | ⟨c', t', fr', h1, h2⟩
  ·omega
  ·rw [q] at h1
   cases h1
   exact absurd h2 ht
 ·exact (hg.block i (Array.getElem?_eq_some_iff.1 q).1 e).trans q

theorem row_turn {W W' : World} {row : Option Nat} {i : Nat} {c : Array Value} {t : TypeId} {fr : Nat × Nat} (h : W.heap[i]? = some (.cells c t fr)) (hg : W.grownBy W' row) (hr : ∀ r, row = some r → ∃ o : Obj, W.heap[r]? = some o ∧ o.isCells = false) : W'.heap[i]? = some (.cells c t fr) := by
 refine (hg.block i (box_lt h) fun e => ?_).trans h
 obtain ⟨o, ho, hc⟩ := hr i e.symm
 rw [h] at ho
 cases ho
 cases hc
theorem row_up {W W' : World} {i : Nat} {o : Obj} (h : W.heap[i]? = some o) (hb : Below W.heap.size W W') : W'.heap[i]? = some o := (hb.block i (box_lt h)).trans h
theorem row_al {W : World} {i : Nat} {o : Obj} (h : W.heap[i]? = some o) (x : Obj) : (W.alloc x).heap[i]? = some o := (Below.heap_alloc _ _ _ (box_lt h)).trans h
theorem heap_new1 (w : World) (x o : Obj) : ((w.alloc x).alloc o).heap[w.heap.size + 1]? = some o := by
 have := heap_new (w.alloc x) o
 rwa [World.size_alloc] at this
theorem heap_new2 (w : World) (x y o : Obj) : (((w.alloc x).alloc y).alloc o).heap[w.heap.size + 1 + 1]? = some o := by
 have := heap_new1 (w.alloc x) y o
 rwa [World.size_alloc] at this
theorem heap_new3 (w : World) (x y z o : Obj) : ((((w.alloc x).alloc y).alloc z).alloc o).heap[w.heap.size + 1 + 1 + 1]? = some o := by
 have := heap_new2 (w.alloc x) y z o
 rwa [World.size_alloc] at this
theorem Keep.others {S : Nat → Prop} {W W' : World} (h : Keep S W.heap.size W W') (hs : ∀ k, S k → ∀ o, W.heap[k]? = some o → o.isCells = true) : KeepsOthers W W' :=
 ⟨h.size, fun k o hk ho => (h.block k (box_lt hk) fun q => by rw [hs k q o hk] at ho; cases ho).trans hk⟩
theorem KF.of_keep {n₀ m₁ : Nat} {S : Nat → Prop} {W W' : World} (h : Keep S W.heap.size W W') (hn : n₀ ≤ W.heap.size) (hS : ∀ k, S k → n₀ ≤ k ∧ k < m₁) : KF n₀ m₁ W W' :=
 ⟨h.below hn fun k q => (hS k q).1, fun i _ _ _ hi _ q => (h.block i (box_lt q) fun s => by have := hS i s; omega).trans q⟩
theorem Keep.row {S : Nat → Prop} {W W' : World} {i : Nat} {o : Obj} (h : Keep S W.heap.size W W') (hi : W.heap[i]? = some o) (hS : ¬ S i) : W'.heap[i]? = some o := (h.block i (box_lt hi) hS).trans hi
theorem others_below {W W' : World} (h : Below W.heap.size W W') : KeepsOthers W W' := ⟨h.size, fun k _ hk _ => (h.block k (box_lt hk)).trans hk⟩
structure DocR (w : World) (B : Nat) (bv nm : Value) (bs : List PB) : Prop where
 box : w.heap[B]? = some (.cells #[bv, nm] 80 (0, 0))
 row : RowR 3 w bv bs.length (kCells bs)
 cells : ∀ x ∈ bs, CAt w x.v x.cs
 room : (catB bs).length ≤ 100000
 few : bs.length ≤ 1000000
theorem DocR.below {w w' : World} {B : Nat} {bv nm : Value} {bs : List PB} (h : DocR w B bv nm bs) (hb : Below w.heap.size w w') : DocR w' B bv nm bs :=
 ⟨(hb.block B (box_lt h.box)).trans h.box, h.row.below hb, fun x hx => (h.cells x hx).below hb, h.room, h.few⟩
theorem DocR.at {w : World} {B : Nat} {bv nm : Value} {bs : List PB} (h : DocR w B bv nm bs) {k : Nat} {x : PB} (hk : bs[k]? = some x) : ∃ g off cap, bv = .slice (some ⟨g, off, none⟩) bs.length cap ∧
  w.cell? ⟨g, off + k * 3, none⟩ = some (.int .i64 (liveN x.cs : Nat)) ∧ w.cell? ⟨g, off + k * 3 + 1, none⟩ = some (.int .i64 (goneN x.cs : Nat)) ∧ w.cell? ⟨g, off + k * 3 + 2, none⟩ = some x.v := by
 obtain ⟨_, ao, cap, rfl, h2⟩ := h.row
 have hl := (List.getElem?_eq_some_iff.1 hk).1
 obtain ⟨b, off, rfl, hc⟩ := h2 (by omega)
 have e : ∀ j, j < 3 → w.cell? ⟨b, off + k * 3 + j, none⟩ = (kV x)[j]? := fun j hj => by
  have q := kCells_at bs k j x hk hj
  have hlt : j < (kV x).length := hj
  rw [List.getElem?_eq_getElem hlt] at q ⊢
  rw [Nat.add_assoc]
  exact hc _ _ q
 exact ⟨b, off, cap, rfl, e 0 (by decide), e 1 (by decide), e 2 (by decide)⟩
theorem catB_le {bs : List PB} {k : Nat} {x : PB} (h : bs[k]? = some x) : (catB (bs.take k)).length + x.cs.length ≤ (catB bs).length := by
 rw [catB_split h]
 simp only [List.length_append]
 omega

set_option maxRecDepth 100000 in
set_option maxHeartbeats 4000000 in
theorem begins1_in (n : Nat) (hn : 1 ≤ n) (l Bd n₀ m₁ B : Nat) (bv nm : Value) (bs : List PB) (w₀ : World) (h₀ : n₀ = w₀.heap.size) (hR : DocR w₀ B bv nm bs) (J Jx : List (Fin bs.length) → World → Prop)
  (hY : ∀ pre x W, J pre W → pre.length < bs.length → YieldAt Fence.wide (n - 1) Tryz.prog l (encB bs x) W fun e W' =>
   (e = .returned (.bool true) ∧ J (pre ++ [x]) W' ∧ KF n₀ m₁ W W') ∨ (e = .returned (.bool false) ∧ Jx (pre ++ [x]) W'))
  (W : World) (hb0 : Below n₀ w₀ W) (hJ : AbidesFrom W.heap.size J) (hBd : W.heap[Bd]? = some (.cells #[.pointer (some ⟨B, 0, none⟩)] 29 (0, 0))) (hm : m₁ ≤ Bd) (h0 : J [] W) :
  CallsIn Fence.wide n Tryz.prog 53 #[.func (.yield l) #[] #[], .pointer (some ⟨Bd, 0, none⟩)] W fun e W' => (∃ v, e = .returned v) ∧
   ((∃ ys, ys = begL bs ∧ J ys W') ∨ (∃ pre, pre <+: begL bs ∧ Jx pre W')) := by
 have hRw := fun W' (h : Below n₀ w₀ W') => hR.below (h₀ ▸ h)
 have hS := fun a b W (h1 : -1000000000000000 ≤ a ∧ a ≤ 1000000000000000) (h2 : -1000000000000000 ≤ b ∧ b ≤ 1000000000000000) => csize_any a b W h1 h2
 obtain ⟨ao, cap, hbv, _⟩ := hR.row.2
 subst hbv
 obtain ⟨N, hN⟩ : ∃ N, bs.length = N := ⟨_, rfl⟩
 have hfew := hR.few
 have hroom := hR.room
 rw [hN] at hfew
 have HN := Lib.hid hN
 have b0 := (hRw W hb0).box
 have d0 := box_cell hBd 0
 rw [hN] at b0
 have q0 := box_cell b0 0
 clear b0
 refine callsIn_of_wp Tryz.func53 rfl trivial ?_ rfl
 simp only [Tryz.ntmps53, List.size_toArray, List.length_cons, List.length_nil, Nat.reduceAdd, Nat.reduceSub, Array.replicate_succ, Array.replicate_zero, List.push_toArray, List.append_toArray, List.nil_append, List.cons_append]
 gi_wp2
 clear d0 q0
 have hbd0 : (catB (bs.take 0)).length = 0 := rfl
 gi_loopw [3, 12] (fun fr p wr => ∃ k : Nat, p = .int .i64 k ∧ fr = .int .i64 ((catB (bs.take k)).length : Nat) ∧ k ≤ N ∧ J (begK bs k) wr ∧ Below n₀ w₀ wr ∧ wr.heap[Bd]? = some (.cells #[.pointer (some ⟨B, 0, none⟩)] 29 (0, 0)))
  (fun _ p _ => N - (intOf p).toNat)
 case atStart => exact ⟨0, rfl, rfl, Nat.zero_le _, h0, hb0, hBd⟩
 case round =>
  obtain ⟨k, rfl, rfl, hk, hJs, hbw, hbd⟩ := hrel
  by_cases hlt : k < N
  ·obtain ⟨x, hx⟩ : ∃ x, bs[k]? = some x := ⟨_, List.getElem?_eq_getElem (by rw [HN.out]; exact hlt)⟩
   have hkb : k < bs.length := by rw [HN.out]; exact hlt
   have hnx := begK_next bs k hkb
   have hct : (catB (bs.take (k + 1))).length = (catB (bs.take k)).length + x.cs.length := by rw [catB_take hx, List.length_append]
   have hle := catB_le hx
   have hll := liveN_gone x.cs
   have hgrow : ∀ w1, Below wr.heap.size wr w1 → wr.grownBy w1 none := fun w1 hb => ⟨hb.os, hb.tape, hb.output, hb.size, fun i hi _ => hb.block i hi⟩
   obtain ⟨F, hF⟩ : ∃ F, (catB (bs.take k)).length = F := ⟨_, rfl⟩
   rw [hF] at hct hle
   rw [hF]
   obtain ⟨L, hL⟩ : ∃ L, liveN x.cs = L := ⟨_, rfl⟩
   obtain ⟨G, hG⟩ : ∃ G, goneN x.cs = G := ⟨_, rfl⟩
   rw [hL, hG] at hll
   rw [← hll] at hct hle
   have HX := Lib.hid (And.intro hx (And.intro hL hG))
   have Hnx := Lib.hid hnx
   have Hct := Lib.hid hct
   have HJs := Lib.hid hJs
   have HbW := Lib.hid hbw
   have HRw := Lib.hid hRw
   have HR := Lib.hid hR
   have HS := Lib.hid hS
   have Hle := Lib.hid (And.intro hle hroom)
   obtain ⟨fn, tmps, assign, body, hy, hRnd⟩ := hY (begK bs k) ⟨k, hkb⟩ _ hJs (by rw [begK_length _ _ (Nat.le_of_lt hkb)]; exact hkb)
   dsimp only [encB] at hy
   rw [hF] at hy
   clear hnx hct hle hll hgrow hF hL hG hx hRw hR hJs hbw hN hS hroom
   gi_wp2
   try (rw [hy]; gi_wp2)
   refine hRnd.mono ?_
   clear hy hRnd
   rintro e W3 (⟨rfl, hJ3, hk3⟩ | ⟨rfl, hJx3⟩)
   ·have hw3 : Below n₀ w₀ W3 := HbW.out.trans hk3.1
    have hbd3 := hk3.2 _ _ _ _ hm (by unfold RowT; decide) hbd
    have hd3 := HRw.out W3 hw3
    obtain ⟨g, off, cp, hv, c0, c1, _⟩ := hd3.at HX.out.1
    rw [HX.out.2.1] at c0
    rw [HX.out.2.2] at c1
    rw [HN.out] at hv
    cases hv
    have e0 := box_cell hbd3 0
    have bx := hd3.box
    rw [HN.out] at bx
    have e1 := box_cell bx 0
    have hi0 : (0 : Int) ≤ (k : Int) ∧ (k : Int) < (N : Int) := ⟨by omega, by omega⟩
    have HW3 := Lib.hid hw3
    have HB3 := Lib.hid hbd3
    have HJ3 := Lib.hid hJ3
    clear hw3 hbd3 hd3 bx hJ3 hk3 hbd
    have hLG := Hle.out
    have hs1 : IntKind.i64.wrap ((F : Int) + ((L : Int) + (G : Int))) = (F : Int) + ((L : Int) + (G : Int)) := IntWalk.i64_in _ (by omega)
    have hS' := HS.out (L : Int) (G : Int) W3 (by omega) (by omega)
    clear hLG
    gi_wp2_with (refine ⟨trivial, ?_⟩; gi_at_call 52; refine (callsIn_wide.2 hS').mono ?_; clear hS'; rintro e W4 ⟨rfl, hb4⟩)
    go_roundw
    case rel =>
     refine ⟨k + 1, by go_num, ?_, by omega, ?_, HW3.out.trans (hb4.mono (by have := HW3.out.size; omega)), ?_⟩
     ·rw [Hct.out]
      exact congrArg (Value.int .i64) (by push_cast; rfl)
     ·rw [Hnx.out]
      exact hJ _ W3 _ none HJ3.out ⟨hb4.os, hb4.tape, hb4.output, hb4.size, fun i hi _ => hb4.block i hi⟩ (fun r e => by cases e)
     ·exact (hb4.block _ (box_lt HB3.out)).trans HB3.out
    case measure => simp [intOf]; omega
   ·gi_wp2
    refine bodyPost_ret (results_none rfl _ _ _) rfl ?_
    refine ⟨⟨_, rfl⟩, .inr ⟨_, ?_, hJx3⟩⟩
    rw [← Hnx.out]
    exact begK_pre bs (k + 1)
  ·obtain rfl : k = N := by omega
   have hall : begK bs k = begL bs := by rw [← HN.out]; exact begK_all bs
   rw [hall] at hJs
   gi_wp2
   go_end0
   exact ⟨⟨_, rfl⟩, .inl ⟨_, rfl, hJs⟩⟩

theorem begins_stops (n : Nat) (hn : 1 ≤ n) (Bd m₁ B : Nat) (bv nm : Value) (bs : List PB) (w₀ : World) (hR : DocR w₀ B bv nm bs) (w : World) (hb0 : Below w₀.heap.size w₀ w) (hBd : w.heap[Bd]? = some (.cells #[.pointer (some ⟨B, 0, none⟩)] 29 (0, 0))) (hm : m₁ ≤ Bd) :
  SeqStopsK Fence.wide n Tryz.prog 53 #[.pointer (some ⟨Bd, 0, none⟩)] (encB bs) (KF w₀.heap.size m₁) (fun ys => ys = begL bs) (fun pre => pre <+: begL bs) bs.length w := fun l J Jx W hW hJ _ hY h0 =>
 begins1_in n hn l Bd w₀.heap.size m₁ B bv nm bs w₀ rfl hR J Jx hY W (hb0.trans (hW.mono hb0.size)) hJ ((hW.block _ (box_lt hBd)).trans hBd) hm h0
set_option maxHeartbeats 1000000 in
theorem begins_any (p : Option Addr) (w : World) :
  Calls Tryz.prog 26 #[.pointer p] w fun e w' => e = .returned (.func (.func 53) #[] #[.pointer (some ⟨w.heap.size, 0, none⟩)]) ∧ w' = w.alloc (.cells #[.pointer p] 29) := by
 go_enter Tryz.func26, Tryz.ntmps26
 go_wp2
 go_ret
 exact ⟨rfl, rfl⟩
end Go.Proofs.YthekkjfaaedamaaGreatDoor

namespace Go.Proofs.YthekkjfaaedamaaGreatDoor
open Go.RowKit Go.Shelf
attribute [local go_sem] Oper.semAt_some

set_option maxRecDepth 100000 in
set_option maxHeartbeats 4000000 in
theorem whole_any (B : Nat) (bv nm : Value) (bs : List PB) (w : World) (hR : DocR w B bv nm bs) :
  Calls Tryz.prog 51 #[.pointer (some ⟨B, 0, none⟩)] w fun e W' => e = .returned (cntV (liveN (catB bs)) (goneN (catB bs))) ∧ Below w.heap.size w W' := by
 have hbeg := fun W => begins_any (some ⟨B, 0, none⟩) W
 have hst := fun Bd m₁ W h1 h2 h3 => begins_stops 3 (by decide) Bd m₁ B bv nm bs w hR W h1 h2 h3
 have hall := liveN_gone (catB bs)
 have hroom := hR.room
 have HR := Lib.hid hR
 clear hR
 refine (callsIn_wide (n := 4)).1 ?_
 refine callsIn_of_wp_marks Tryz.func51 rfl trivial ?_ rfl
 simp only [Tryz.ntmps51, List.size_toArray, List.length_cons, List.length_nil, Nat.reduceAdd, Nat.reduceSub, Array.replicate_succ, Array.replicate_zero, List.push_toArray, List.append_toArray, List.nil_append, List.cons_append]
 gi_wp2_with (refine ⟨trivial, ?_⟩; gi_at_call 26; refine (callsIn_wide.2 (hbeg _)).mono ?_; rintro e _ ⟨rfl, rfl⟩)
 have A0 := row_al (row_al (row_al (heap_new w (.cells #[.pointer (some ⟨B, 0, none⟩)] 29)) (.cells #[.int .i64 0, .int .i64 0] 74)) (.cells #[.int .i64 0, .int .i64 0] 74)) (.cells #[.pointer (some ⟨B, 0, none⟩)] 29)
 have A1 := row_al (row_al (heap_new1 w (.cells #[.pointer (some ⟨B, 0, none⟩)] 29) (.cells #[.int .i64 0, .int .i64 0] 74)) (.cells #[.int .i64 0, .int .i64 0] 74)) (.cells #[.pointer (some ⟨B, 0, none⟩)] 29)
 have A2 := row_al (heap_new2 w (.cells #[.pointer (some ⟨B, 0, none⟩)] 29) (.cells #[.int .i64 0, .int .i64 0] 74) (.cells #[.int .i64 0, .int .i64 0] 74)) (.cells #[.pointer (some ⟨B, 0, none⟩)] 29)
 have A3 := heap_new3 w (.cells #[.pointer (some ⟨B, 0, none⟩)] 29) (.cells #[.int .i64 0, .int .i64 0] 74) (.cells #[.int .i64 0, .int .i64 0] 74) (.cells #[.pointer (some ⟨B, 0, none⟩)] 29)
 have AB : Below w.heap.size w ((((w.alloc (.cells #[.pointer (some ⟨B, 0, none⟩)] 29)).alloc (.cells #[.int .i64 0, .int .i64 0] 74)).alloc (.cells #[.int .i64 0, .int .i64 0] 74)).alloc (.cells #[.pointer (some ⟨B, 0, none⟩)] 29)) := ((((Below.refl _ w).alloc (Nat.le_refl _) _).alloc (by simp) _).alloc (by simp; omega) _).alloc (by simp; omega) _
 have AS : ((((w.alloc (.cells #[.pointer (some ⟨B, 0, none⟩)] 29)).alloc (.cells #[.int .i64 0, .int .i64 0] 74)).alloc (.cells #[.int .i64 0, .int .i64 0] 74)).alloc (.cells #[.pointer (some ⟨B, 0, none⟩)] 29)).heap.size = w.heap.size + 1 + 1 + 1 + 1 := by simp
 generalize (((w.alloc (.cells #[.pointer (some ⟨B, 0, none⟩)] 29)).alloc (.cells #[.int .i64 0, .int .i64 0] 74)).alloc (.cells #[.int .i64 0, .int .i64 0] 74)).alloc (.cells #[.pointer (some ⟨B, 0, none⟩)] 29) = w3 at A0 A1 A2 A3 AB AS ⊢
 have hst := hst (w.heap.size + 1 + 1 + 1) (w.heap.size + 1 + 1 + 1) w3 AB A3 (Nat.le_refl _)
 have hcs : ∀ x ∈ bs, x.cs.length ≤ 100000 := fun x hx => by
  obtain ⟨k, hk, rfl⟩ := List.mem_iff_getElem.1 hx
  have := catB_le (List.getElem?_eq_getElem hk)
  omega
 have hfew := HR.out.few
 refine wpIn_rangeFunc_ownF rfl (by decide) (gf := 53) (lb := #[.pointer (some ⟨w.heap.size + 1 + 1 + 1, 0, none⟩)]) rfl trivial (enters_of Tryz.func53 (by kernel_rfl) rfl)
  hst (fun h k => kf_t h k) (kf_b (by omega)) (Below.refl _ _) (fun _ => rfl)
  (fun pre W => (W.heap[w.heap.size]? = some (.cells #[.pointer (some ⟨B, 0, none⟩)] 29 (0, 0)) ∧ W.heap[w.heap.size + 1]? = some (.cells #[.int .i64 0, .int .i64 0] 74 (0, 0)) ∧
   W.heap[w.heap.size + 1 + 1]? = some (.cells #[.int .i64 (liveN (catX bs pre) : Nat), .int .i64 (goneN (catX bs pre) : Nat)] 74 (0, 0))) ∧ Below w.heap.size w W)
  (fun c pre W => (False) ∧ Below w.heap.size w W)
  (OwnFrom.and (Own.from (fun s A B row hs hg hr => ⟨row_turn hs.1 hg hr, row_turn hs.2.1 hg hr, row_turn hs.2.2 hg hr⟩) _) (ownFrom_below (Nat.le_refl _) (by omega)))
  (fun c => OwnFrom.and (Own.from (fun s A B row hs hg hr => hs.elim) _) (ownFrom_below (Nat.le_refl _) (by omega)))
  ⟨⟨A0, A1, A2⟩, AB⟩
  (fun x => { tmps := #[.pointer (some ⟨B, 0, none⟩), .pointer (some ⟨w.heap.size, 0, none⟩), .pointer (some ⟨w.heap.size + 1, 0, none⟩), .pointer (some ⟨w.heap.size + 1 + 1, 0, none⟩), .int .i64 (x.val : Int), .pointer (some ⟨B, 0, none⟩), .func (.func 53) #[] #[.pointer (some ⟨w.heap.size + 1 + 1 + 1, 0, none⟩)], .int .i64 (x.val : Int), .int .i64 ((catB (bs.take x.val)).length : Nat), undef, undef, undef, undef, undef, undef, undef, undef, undef, undef], defers := [] }) ?assign ?body ?done ?stop
 case assign =>
  intro l x W K hK
  gi_wp2
  exact hK
 case body =>
  rintro l pre x W ⟨⟨c0, c1, c2⟩, hB⟩ hlen
  have hd := HR.out.below hB
  have hk : bs[x.val]? = some bs[x] := List.getElem?_eq_getElem x.isLt
  obtain ⟨g, off, cp, hv, d0, d1, _⟩ := hd.at hk
  have hcx := hcs bs[x] (List.getElem_mem _)
  have hpx := catX_le hcs pre
  have hl1 := liveN_gone bs[x].cs
  have hl2 := liveN_gone (catX bs pre)
  have hbx : pre.length * 100000 ≤ 100000000000 := by omega
  have HL := Lib.hid (liveN_append (catX bs pre) bs[x].cs)
  have HG := Lib.hid (goneN_append (catX bs pre) bs[x].cs)
  have HX := Lib.hid (catX_snoc bs pre x)
  obtain ⟨L, hL⟩ : ∃ L, liveN (catX bs pre) = L := ⟨_, rfl⟩
  obtain ⟨G, hG⟩ : ∃ G, goneN (catX bs pre) = G := ⟨_, rfl⟩
  obtain ⟨l1, hl1'⟩ : ∃ L, liveN bs[x].cs = L := ⟨_, rfl⟩
  obtain ⟨g1, hg1'⟩ : ∃ L, goneN bs[x].cs = L := ⟨_, rfl⟩
  rw [hl1'] at d0 hl1
  rw [hg1'] at d1 hl1
  rw [hL] at c2 hl2
  rw [hG] at c2 hl2
  have HV := Lib.hid (And.intro (And.intro hL hG) (And.intro hl1' hg1'))
  have bx := hd.box
  rw [hv] at bx
  have e0 := box_cell c0 0
  have e1 := box_cell bx 0
  have hi0 : (0 : Int) ≤ (x.val : Int) ∧ (x.val : Int) < (bs.length : Int) := ⟨by omega, by have := x.isLt; omega⟩
  have hadd := cadd_any (w.heap.size + 1 + 1) 0 _ _ (L : Int) (G : Int) (l1 : Int) (g1 : Int) W c2 rfl rfl (by omega) (by omega) (by omega) (by omega)
  have HC := Lib.hid (And.intro c0 (And.intro c1 hB))
  have HA := Lib.hid hadd
  have HC2 := Lib.hid c2
  clear hL hG hl1' hg1' hl1 hl2 hbx hpx hcx hd bx hadd c0 c1 c2 hB hv hk
  gi_wp2_with (refine ⟨trivial, ?_⟩; gi_at_call 74; refine (callsIn_wide.2 HA.out).mono ?_; clear HA; rintro e W4 ⟨⟨v, rfl⟩, r4, k4⟩)
  obtain ⟨q0, q1, q2⟩ := HC.out
  refine ⟨Keep.others k4 (fun k e o ho => by subst e; rw [HC2.out] at ho; cases ho; rfl), KF.of_keep k4 (by have := q2.size; omega) (fun k e => by omega), ⟨⟨Keep.row k4 q0 (by omega), Keep.row k4 q1 (by omega), ?_⟩, q2.trans (k4.below q2.size (fun k e => by omega))⟩⟩
  rw [HX.out, HL.out, HG.out, HV.out.1.1, HV.out.1.2, HV.out.2.1, HV.out.2.2]
  simpa using r4
 case done =>
  rintro D ys W hD rfl ⟨⟨c0, c1, c2⟩, hB⟩ hK
  rw [catX_all] at c2
  have e0 := box_cell c2 0
  have e1 := box_cell c2 1
  have g0 := box_cell c1 0
  have g1 := box_cell c1 1
  have f0 := box_frozen c1 0
  have f1 := box_frozen c1 1
  have HC := Lib.hid (And.intro c1 hB)
  clear c0 c1 c2 hB
  gi_wp2
  have hK1 := (KeepsOthers.setCell W ⟨w.heap.size + 1, 0, none⟩ (.int .i64 (liveN (catB bs) : Nat))).same D _ hK rfl
  have hK2 := (KeepsOthers.setCell (W.setCell ⟨w.heap.size + 1, 0, none⟩ (.int .i64 (liveN (catB bs) : Nat))) ⟨w.heap.size + 1, 1, none⟩ (.int .i64 (goneN (catB bs) : Nat))).same D _ hK1 rfl
  refine ⟨by simp, .inl ⟨_, _, rfl, run_takeDeferred hK2, ?_⟩⟩
  obtain ⟨q1, q2⟩ := HC.out
  have R3 := box_set (box_set q1 0 (.int .i64 (liveN (catB bs) : Nat))) 1 (.int .i64 (goneN (catB bs) : Nat))
  have hB3 := (q2.setCell (p := ⟨w.heap.size + 1, 0, none⟩) (by show w.heap.size ≤ w.heap.size + 1; omega) (.int .i64 (liveN (catB bs) : Nat))).setCell (p := ⟨w.heap.size + 1, 1, none⟩) (by show w.heap.size ≤ w.heap.size + 1; omega) (.int .i64 (goneN (catB bs) : Nat))
  generalize (W.setCell ⟨w.heap.size + 1, 0, none⟩ (.int .i64 (liveN (catB bs) : Nat))).setCell ⟨w.heap.size + 1, 1, none⟩ (.int .i64 (goneN (catB bs) : Nat)) = W3 at R3 hB3 hK2 ⊢
  have R4 : (W3.putObj D (.deferred none)).heap[w.heap.size + 1]? = _ := (World.putObj_heap_other (by omega)).trans R3
  exact ⟨_, results_cell_row (fn := Tryz.f51) (p := 2) rfl _ _ (w.heap.size + 1) 74 _ (0, 0) _ rfl R4 Tryz.underlying74 rfl infoCnt, rfl, hB3.trans (belowK_b (w := w) (Nat.le_refl _) W3 D _ _ (by omega) hK2 rfl rfl)⟩
 case stop =>
  rintro D c pre W hD hpre ⟨hno, _⟩ hK
  exact hno.elim
-- END whole
set_option maxRecDepth 100000 in
set_option maxHeartbeats 1000000 in
theorem dsize_any (p : Option Addr) (L G : Nat) (w : World) (hL : L ≤ 100000 ∧ G ≤ 100000) (h : Calls Tryz.prog 51 #[.pointer p] w fun e W' => e = .returned (cntV L G) ∧ Below w.heap.size w W') :
  Calls Tryz.prog 25 #[.pointer p] w fun e W' => e = .returned (.int .i64 ((L + G : Nat) : Int)) ∧ Below w.heap.size w W' := by
 have hS := fun W => csize_any (L : Int) (G : Int) W (by omega) (by omega)
 have H := Lib.hid h
 clear h hL
 go_enter Tryz.func25, Tryz.ntmps25
 go_wp2_with fail
 refine H.out.mono ?_
 rintro e w1 ⟨rfl, hb⟩
 go_wp2_with fail
 refine (hS _).mono ?_
 rintro e w2 ⟨rfl, hb2⟩
 have HB := Lib.hid (hb.trans (hb2.mono hb.size))
 go_wp2
 go_ret
 exact ⟨congrArg (fun z => Ending.returned (.int .i64 z)) (by push_cast; rfl), HB.out⟩
end Go.Proofs.YthekkjfaaedamaaGreatDoor

namespace Go.Proofs.YthekkjfaaedamaaGreatDoor
open Go.RowKit Go.Shelf
attribute [local go_sem] Oper.semAt_some

set_option maxRecDepth 100000 in
set_option maxHeartbeats 4000000 in
theorem begins1_inL (n : Nat) (hn : 1 ≤ n) (l Bd n₀ m₁ B : Nat) (bv nm : Value) (bs : List PB) (w₀ : World) (h₀ : n₀ = w₀.heap.size) (hR : DocR w₀ B bv nm bs) (J Jx : List (Fin bs.length) → World → Prop)
  (hY : ∀ pre x W, J pre W → pre.length < bs.length → pre = begK bs x.val → YieldAt Fence.wide (n - 1) Tryz.prog l (encB bs x) W fun e W' =>
   (e = .returned (.bool true) ∧ J (pre ++ [x]) W' ∧ KF n₀ m₁ W W') ∨ (e = .returned (.bool false) ∧ Jx (pre ++ [x]) W'))
  (W : World) (hb0 : Below n₀ w₀ W) (hJ : AbidesFrom W.heap.size J) (hBd : W.heap[Bd]? = some (.cells #[.pointer (some ⟨B, 0, none⟩)] 29 (0, 0))) (hm : m₁ ≤ Bd) (h0 : J [] W) :
  CallsIn Fence.wide n Tryz.prog 53 #[.func (.yield l) #[] #[], .pointer (some ⟨Bd, 0, none⟩)] W fun e W' => (∃ v, e = .returned v) ∧
   ((∃ ys, ys = begL bs ∧ J ys W') ∨ (∃ pre, pre <+: begL bs ∧ Jx pre W')) := by
 have hRw := fun W' (h : Below n₀ w₀ W') => hR.below (h₀ ▸ h)
 have hS := fun a b W (h1 : -1000000000000000 ≤ a ∧ a ≤ 1000000000000000) (h2 : -1000000000000000 ≤ b ∧ b ≤ 1000000000000000) => csize_any a b W h1 h2
 obtain ⟨ao, cap, hbv, _⟩ := hR.row.2
 subst hbv
 obtain ⟨N, hN⟩ : ∃ N, bs.length = N := ⟨_, rfl⟩
 have hfew := hR.few
 have hroom := hR.room
 rw [hN] at hfew
 have HN := Lib.hid hN
 have b0 := (hRw W hb0).box
 have d0 := box_cell hBd 0
 rw [hN] at b0
 have q0 := box_cell b0 0
 clear b0
 refine callsIn_of_wp Tryz.func53 rfl trivial ?_ rfl
 simp only [Tryz.ntmps53, List.size_toArray, List.length_cons, List.length_nil, Nat.reduceAdd, Nat.reduceSub, Array.replicate_succ, Array.replicate_zero, List.push_toArray, List.append_toArray, List.nil_append, List.cons_append]
 gi_wp2
 clear d0 q0
 have hbd0 : (catB (bs.take 0)).length = 0 := rfl
 gi_loopw [3, 12] (fun fr p wr => ∃ k : Nat, p = .int .i64 k ∧ fr = .int .i64 ((catB (bs.take k)).length : Nat) ∧ k ≤ N ∧ J (begK bs k) wr ∧ Below n₀ w₀ wr ∧ wr.heap[Bd]? = some (.cells #[.pointer (some ⟨B, 0, none⟩)] 29 (0, 0)))
  (fun _ p _ => N - (intOf p).toNat)
 case atStart => exact ⟨0, rfl, rfl, Nat.zero_le _, h0, hb0, hBd⟩
 case round =>
  obtain ⟨k, rfl, rfl, hk, hJs, hbw, hbd⟩ := hrel
  by_cases hlt : k < N
  ·obtain ⟨x, hx⟩ : ∃ x, bs[k]? = some x := ⟨_, List.getElem?_eq_getElem (by rw [HN.out]; exact hlt)⟩
   have hkb : k < bs.length := by rw [HN.out]; exact hlt
   have hnx := begK_next bs k hkb
   have hct : (catB (bs.take (k + 1))).length = (catB (bs.take k)).length + x.cs.length := by rw [catB_take hx, List.length_append]
   have hle := catB_le hx
   have hll := liveN_gone x.cs
   have hgrow : ∀ w1, Below wr.heap.size wr w1 → wr.grownBy w1 none := fun w1 hb => ⟨hb.os, hb.tape, hb.output, hb.size, fun i hi _ => hb.block i hi⟩
   obtain ⟨F, hF⟩ : ∃ F, (catB (bs.take k)).length = F := ⟨_, rfl⟩
   rw [hF] at hct hle
   rw [hF]
   obtain ⟨L, hL⟩ : ∃ L, liveN x.cs = L := ⟨_, rfl⟩
   obtain ⟨G, hG⟩ : ∃ G, goneN x.cs = G := ⟨_, rfl⟩
   rw [hL, hG] at hll
   rw [← hll] at hct hle
   have HX := Lib.hid (And.intro hx (And.intro hL hG))
   have Hnx := Lib.hid hnx
   have Hct := Lib.hid hct
   have HJs := Lib.hid hJs
   have HbW := Lib.hid hbw
   have HRw := Lib.hid hRw
   have HR := Lib.hid hR
   have HS := Lib.hid hS
   have Hle := Lib.hid (And.intro hle hroom)
   obtain ⟨fn, tmps, assign, body, hy, hRnd⟩ := hY (begK bs k) ⟨k, hkb⟩ _ hJs (by rw [begK_length _ _ (Nat.le_of_lt hkb)]; exact hkb) rfl
   dsimp only [encB] at hy
   rw [hF] at hy
   clear hnx hct hle hll hgrow hF hL hG hx hRw hR hJs hbw hN hS hroom
   gi_wp2
   try (rw [hy]; gi_wp2)
   refine hRnd.mono ?_
   clear hy hRnd
   rintro e W3 (⟨rfl, hJ3, hk3⟩ | ⟨rfl, hJx3⟩)
   ·have hw3 : Below n₀ w₀ W3 := HbW.out.trans hk3.1
    have hbd3 := hk3.2 _ _ _ _ hm (by unfold RowT; decide) hbd
    have hd3 := HRw.out W3 hw3
    obtain ⟨g, off, cp, hv, c0, c1, _⟩ := hd3.at HX.out.1
    rw [HX.out.2.1] at c0
    rw [HX.out.2.2] at c1
    rw [HN.out] at hv
    cases hv
    have e0 := box_cell hbd3 0
    have bx := hd3.box
    rw [HN.out] at bx
    have e1 := box_cell bx 0
    have hi0 : (0 : Int) ≤ (k : Int) ∧ (k : Int) < (N : Int) := ⟨by omega, by omega⟩
    have HW3 := Lib.hid hw3
    have HB3 := Lib.hid hbd3
    have HJ3 := Lib.hid hJ3
    clear hw3 hbd3 hd3 bx hJ3 hk3 hbd
    have hLG := Hle.out
    have hs1 : IntKind.i64.wrap ((F : Int) + ((L : Int) + (G : Int))) = (F : Int) + ((L : Int) + (G : Int)) := IntWalk.i64_in _ (by omega)
    have hS' := HS.out (L : Int) (G : Int) W3 (by omega) (by omega)
    clear hLG
    gi_wp2_with (refine ⟨trivial, ?_⟩; gi_at_call 52; refine (callsIn_wide.2 hS').mono ?_; clear hS'; rintro e W4 ⟨rfl, hb4⟩)
    go_roundw
    case rel =>
     refine ⟨k + 1, by go_num, ?_, by omega, ?_, HW3.out.trans (hb4.mono (by have := HW3.out.size; omega)), ?_⟩
     ·rw [Hct.out]
      exact congrArg (Value.int .i64) (by push_cast; rfl)
     ·rw [Hnx.out]
      exact hJ _ W3 _ none HJ3.out ⟨hb4.os, hb4.tape, hb4.output, hb4.size, fun i hi _ => hb4.block i hi⟩ (fun r e => by cases e)
     ·exact (hb4.block _ (box_lt HB3.out)).trans HB3.out
    case measure => simp [intOf]; omega
   ·gi_wp2
    refine bodyPost_ret (results_none rfl _ _ _) rfl ?_
    refine ⟨⟨_, rfl⟩, .inr ⟨_, ?_, hJx3⟩⟩
    rw [← Hnx.out]
    exact begK_pre bs (k + 1)
  ·obtain rfl : k = N := by omega
   have hall : begK bs k = begL bs := by rw [← HN.out]; exact begK_all bs
   rw [hall] at hJs
   gi_wp2
   go_end0
   exact ⟨⟨_, rfl⟩, .inl ⟨_, rfl, hJs⟩⟩

theorem begins_stopsL (n : Nat) (hn : 1 ≤ n) (Bd m₁ B : Nat) (bv nm : Value) (bs : List PB) (w₀ : World) (hR : DocR w₀ B bv nm bs) (w : World) (hb0 : Below w₀.heap.size w₀ w) (hBd : w.heap[Bd]? = some (.cells #[.pointer (some ⟨B, 0, none⟩)] 29 (0, 0))) (hm : m₁ ≤ Bd) :
  SeqStopsL RowT Fence.wide n Tryz.prog 53 #[.pointer (some ⟨Bd, 0, none⟩)] (encB bs) (KF w₀.heap.size m₁) (fun ys => ys = begL bs) (fun pre => pre <+: begL bs) bs.length (fun pre x => pre = begK bs x.val) w := fun l J Jx W hW hW2 hJ _ hY h0 =>
 begins1_inL n hn l Bd w₀.heap.size m₁ B bv nm bs w₀ rfl hR J Jx (fun pre x W1 h1 h2 h3 => by
  obtain ⟨fn, tmps, assign, body, hy, hr⟩ := hY pre x W1 h1 h2 h3
  exact ⟨fn, tmps, assign, body, hy, hr.mono fun e W' h => h.elim (fun q => .inl ⟨q.1, q.2.1, q.2.2.1⟩) (fun q => .inr ⟨q.1, q.2.1⟩)⟩) W (hb0.trans (hW.mono hb0.size)) (fun s A C row hs hg hr => hJ s A C row hs hg (fun r e => by obtain ⟨q1, o, q2, q3⟩ := hr r e; exact ⟨q1, o, q2, .inl (Obj.not_cells_of_walk q3)⟩)) ((hW.block _ (box_lt hBd)).trans hBd) hm h0
end Go.Proofs.YthekkjfaaedamaaGreatDoor

namespace Go.Proofs.YthekkjfaaedamaaGreatDoor
open Go.RowKit Go.Shelf
attribute [local go_sem] Oper.semAt_some

end Go.Proofs.YthekkjfaaedamaaGreatDoor

namespace Go.Proofs.YthekkjfaaedamaaGreatDoor
open Go.RowKit Go.Shelf
attribute [local go_sem] Oper.semAt_some

theorem run_app_any {P : Program} {w : World} (base : Nat) (t ty e : TypeId) (i : TypeInfo) (z : Value) (sz bytes : Nat) (ht : P.underlying t = some (.slice e)) (hi : P.info? e = some i) (hz : i.zero = some z)
  (hsize : i.size = sz) (hby : i.bytes = bytes) (hzs : z.cells.size = sz) (hsz : 0 < sz) (v : Value) (n : Nat) (xs : List Value) (hown : w.ownsRow base e sz v n xs)
  (u : Value) (m : Nat) (news : List Value) (hr : RowR sz w u m news) (h1 : ∀ u ∈ news, u.oneCell' = true) (h63 : n + m ≤ maxLen) (hbytes : (n + m) * bytes ≤ 140737488355328) (hbase : base ≤ w.heap.size) :
  ∃ v' w', (Builtin.append_ #[t, t] ty #[v, u]).run P w = .ok v' w' ∧ w'.ownsRow base e sz v' (n + m) (xs ++ news) ∧ w.grownBy w' v.ownBlock := by
 obtain ⟨hl, ao, c, rfl, hsrc⟩ := hr
 rcases Nat.eq_zero_or_pos m with h0 | hp
 ·subst h0
  obtain rfl : news = [] := List.eq_nil_of_length_eq_zero (by omega)
  cases ao with
  | none => exact ⟨v, w, run_app_none (P := P) (w := w) base t ty e i sz ht hi v n xs hown c, by simpa using hown, ⟨rfl, rfl, rfl, Nat.le_refl _, fun _ _ _ => rfl⟩⟩
  | some ad =>
   obtain ⟨v', w', a, b, d, _⟩ := run_append_own w base t ty e i z sz bytes ht hi hz hsize hby hzs hsz v n xs hown ad 0 c [] (by simp) (by simp) h1 h63 hbytes hbase
   exact ⟨v', w', a, b, d⟩
 ·obtain ⟨b, off, rfl, hc⟩ := hsrc hp
  obtain ⟨v', w', q1, q2, q3, _⟩ := run_append_own w base t ty e i z sz bytes ht hi hz hsize hby hzs hsz v n xs hown ⟨b, off, none⟩ m c news (by omega) (fun j u hj => by
   have := hc j u hj
   unfold Addr.add
   by_cases h0 : j = 0
   ·subst h0; simpa using this
   ·simpa [h0] using this) h1 h63 hbytes hbase
  exact ⟨v', w', q1, q2, q3⟩
theorem wp_run_append {P : Program} {o : Oper} {a : Act} {w wa : World} {K : Act → World → Prop} {Q : Exit → Act → World → Prop} {s x : Operand} {t : TypeId} {v1 v2 v' : Value} (ho : o.op = .call { callee := .builtin .append, args := #[s, x], argTypes := #[t, t] })
  (hs : a.eval s = v1) (hx : a.eval x = v2) (hr : (Builtin.append_ #[t, t] o.type #[v1, v2]).run P w = .ok v' wa) (h : K (a.put o.dst v') wa) : o.wp P a w K Q := by
 unfold Oper.wp execOp
 simp only [ho, resolve, invoke, builtin, Sem.run_bind, Sem.run_pure, Result.andThen_ok, List.map_toArray, List.map_cons, List.map_nil, hs, hx, hr]
 exact h
theorem infoCellX : (Tryz.prog.info? 64).map (fun i => (i.zero, i.size, i.bytes)) = some (some (.agg #[.int .i64 0, .int .i64 0, .int .i64 0, .int .i32 0, .bool false]), 5, 32) := by kernel_rfl
theorem infoCellI : ∃ i, Tryz.prog.info? 64 = some i ∧ i.zero = some (.agg #[.int .i64 0, .int .i64 0, .int .i64 0, .int .i32 0, .bool false]) ∧ i.size = 5 ∧ i.bytes = 32 := by
 have h := infoCellX
 cases hi : Tryz.prog.info? 64 with
 | none => rw [hi] at h; cases h
 | some i =>
  rw [hi] at h
  simp at h
  exact ⟨i, rfl, h.1, h.2.1, h.2.2⟩
theorem append_cells (base : Nat) (v : Value) (l : List PCell) (u : Value) (m : List PCell) (w : World) (hown : w.ownsRow base 64 5 v l.length (cCells l)) (hr : CAt w u m) (hl : l.length ≤ 1000000000000 ∧ m.length ≤ 1000000) (hb : base ≤ w.heap.size) (ty : TypeId) :
  ∃ v' w', (Builtin.append_ #[22, 22] ty #[v, u]).run Tryz.prog w = .ok v' w' ∧ w'.ownsRow base 64 5 v' (l ++ m).length (cCells (l ++ m)) ∧ w.grownBy w' v.ownBlock := by
 obtain ⟨i, hi, hz, hs, hy⟩ := infoCellI
 rw [List.length_append, cCells_append]
 exact run_app_any base _ ty _ i _ 5 32 Tryz.underlying22 hi hz hs hy rfl (by decide) v _ _ hown u _ _ hr.reads (cCells_ones m) (by unfold maxLen; omega) (by omega) hb

theorem own_turn {W W' : World} {row : Option Nat} {N : Nat} {e : TypeId} {sz : Nat} {v : Value} {n : Nat} {xs : List Value} (h : W.ownsRow N e sz v n xs) (hg : W.grownBy W' row) (hr : ∀ r, row = some r → ∃ o : Obj, W.heap[r]? = some o ∧ o.isCells = false) : W'.ownsRow N e sz v n xs := by
 refine ⟨h.1, ?_⟩
 rcases h.2 with q | ⟨g, cap, cur, q1, q2, q3, q4⟩
 ·exact .inl q
 ·exact .inr ⟨g, cap, cur, q1, q2, row_turn q3 hg hr, q4⟩
theorem own_turnT {W W' : World} {row : Option Nat} {N : Nat} {e : TypeId} {sz : Nat} {v : Value} {n : Nat} {xs : List Value} {T : TypeId → Prop} (h : W.ownsRow N e sz v n xs) (hg : W.grownBy W' row) (hr : ∀ r, row = some r → ∃ o : Obj, W.heap[r]? = some o ∧ (o.isCells = false ∨ ∃ c t fr, o = .cells c t fr ∧ ¬ T t)) (he : T e) : W'.ownsRow N e sz v n xs := by
 refine ⟨h.1, ?_⟩
 rcases h.2 with q | ⟨g, cap, cur, q1, q2, q3, q4⟩
 ·exact .inl q
 ·refine .inr ⟨g, cap, cur, q1, q2, (hg.block g (box_lt q3) fun z => ?_).trans q3, q4⟩
  obtain ⟨o, ho, hc⟩ := hr g z.symm
  rw [q3] at ho
  cases ho
  rcases hc with hc | ⟨c, t, fr, hc, ht⟩
  ·cases hc
  ·cases hc
   exact ht he
theorem own_typed {W : World} {N : Nat} {e : TypeId} {sz : Nat} {v : Value} {n : Nat} {xs : List Value} (h : W.ownsRow N e sz v n xs) (g : Nat) (hg : v.ownBlock = some g) : N ≤ g ∧ ∃ cur, W.heap[g]? = some (.cells cur e (0, 0)) := by
 rcases h.2 with ⟨q, _⟩ | ⟨g', cap, cur, q1, q2, q3, _⟩
 ·rw [q] at hg; cases hg
 ·rw [q1] at hg; cases hg; exact ⟨q2, cur, q3⟩
theorem row_grown {W W' : World} {N : Nat} {e : TypeId} {sz : Nat} {v : Value} {n : Nat} {xs : List Value} {i : Nat} {c : Array Value} {t : TypeId} {fr : Nat × Nat} (h : W.heap[i]? = some (.cells c t fr)) (hg : W.grownBy W' v.ownBlock) (ho : W.ownsRow N e sz v n xs) (ht : t ≠ e) : W'.heap[i]? = some (.cells c t fr) := by
 refine (hg.block i (box_lt h) fun q => ?_).trans h
 obtain ⟨_, cur, hc⟩ := own_typed ho i q.symm
 rw [h] at hc
 cases hc
 exact ht rfl
theorem below_grown {W W' : World} {N : Nat} {e : TypeId} {sz : Nat} {v : Value} {n : Nat} {xs : List Value} {w : World} (hb : Below N w W) (hg : W.grownBy W' v.ownBlock) (ho : W.ownsRow N e sz v n xs) (hn : N ≤ w.heap.size) : Below N w W' :=
 hb.grown hg (Nat.le_trans hn hb.size) fun g q => (own_typed ho g q).1
theorem own_far {W : World} {N : Nat} {e : TypeId} {sz : Nat} {v : Value} {n : Nat} {xs : List Value} {B : Nat} {c : Array Value} {t : TypeId} {fr : Nat × Nat} (h : W.ownsRow N e sz v n xs) (hB : W.heap[B]? = some (.cells c t fr)) (ht : t ≠ e) (o : Nat) (u : Value) : (W.setCell ⟨B, o, none⟩ u).ownsRow N e sz v n xs := by
 refine ⟨h.1, ?_⟩
 rcases h.2 with q | ⟨g, cap, cur, q1, q2, q3, q4⟩
 ·exact .inl q
 ·refine .inr ⟨g, cap, cur, q1, q2, ?_, q4⟩
  refine (box_other (fun e => ?_) o u).trans q3
  subst e
  rw [hB] at q3
  cases q3
  exact ht rfl
theorem make_cells (n : Nat) (hn : n ≤ 1000000) : ∃ cur : Array Value, cur.size = n * 5 ∧ ∀ W : World, (Instr.makeSlice 22 (.int .i64 0) (.int .i64 (n : Int))).run Tryz.prog W = .ok (.slice (some ⟨W.heap.size, 0, none⟩) 0 n) (W.alloc (.cells cur 64)) := by
 obtain ⟨i0, hi, hz0, hz1, hz2⟩ := infoCellI
 refine ⟨madeCells (Value.agg #[.int .i64 0, .int .i64 0, .int .i64 0, .int .i32 0, .bool false]).cells (n * 5), ?_, fun W => ?_⟩
 ·simp [madeCells]
 ·have h := run_make (P := Tryz.prog) (w := W) 22 64 i0 (.agg #[.int .i64 0, .int .i64 0, .int .i64 0, .int .i32 0, .bool false]) Tryz.underlying22 hi hz0 .i64 .i64 0 n (Int.le_refl _) (by omega) (by rw [hz2]; omega) (by omega)
  rw [Int.toNat_natCast, hz1] at h
  exact h

set_option maxRecDepth 100000 in
set_option maxHeartbeats 8000000 in
theorem dcells_any (B : Nat) (bv nm : Value) (bs : List PB) (w : World) (hR : DocR w B bv nm bs) :
  Calls Tryz.prog 10 #[.pointer (some ⟨B, 0, none⟩)] w fun e W' => ∃ v, e = .returned v ∧ W'.ownsRow w.heap.size 64 5 v (catB bs).length (cCells (catB bs)) ∧ Below w.heap.size w W' := by
 have hbeg := fun W => begins_any (some ⟨B, 0, none⟩) W
 have hst := fun Bd m₁ W h1 h2 h3 => begins_stops 3 (by decide) Bd m₁ B bv nm bs w hR W h1 h2 h3
 have hall := liveN_gone (catB bs)
 have hroom := hR.room
 have hsz := fun W (hb : Below w.heap.size w W) => dsize_any (some ⟨B, 0, none⟩) (liveN (catB bs)) (goneN (catB bs)) W (by omega) (whole_any B bv nm bs W (hR.below hb))
 rw [hall] at hsz
 have HSZ := Lib.hid hsz
 have HR := Lib.hid hR
 have hcl : (0 : Int) ≤ ((catB bs).length : Int) ∧ ((catB bs).length : Int) ≤ 100000 := by omega
 clear hR hsz hall
 have B0 := heap_new w (.cells #[.pointer (some ⟨B, 0, none⟩)] 29)
 have hB0 : Below w.heap.size w (w.alloc (.cells #[.pointer (some ⟨B, 0, none⟩)] 29)) := (Below.refl _ w).alloc (Nat.le_refl _) _
 have HB0 := Lib.hid hB0
 have d0 := box_cell B0 0
 obtain ⟨cur, hcur, hmk⟩ := make_cells (catB bs).length (by omega)
 refine (callsIn_wide (n := 4)).1 ?_
 refine callsIn_of_wp_marks Tryz.func10 rfl trivial ?_ rfl
 simp only [Tryz.ntmps10, List.size_toArray, List.length_cons, List.length_nil, Nat.reduceAdd, Nat.reduceSub, Array.replicate_succ, Array.replicate_zero, List.push_toArray, List.append_toArray, List.nil_append, List.cons_append]
 gi_wp2_with (refine ⟨trivial, ?_⟩; first
  | (gi_at_call 25; refine (callsIn_wide.2 (HSZ.out _ HB0.out)).mono ?_; rintro e w1 ⟨rfl, hb1⟩; have B1 := row_up B0 hb1; have e0 := box_cell B1 0; have B2 := row_al (row_al B1 (.cells cur 64)) (.cells #[.slice (some ⟨w1.heap.size, 0, none⟩) 0 (catB bs).length] 22); have e2 := box_cell B2 0)
  | (gi_at_call 26; refine (callsIn_wide.2 (hbeg _)).mono ?_; rintro e _ ⟨rfl, rfl⟩))
 rename World => w1
 have A0 := row_al B2 (.cells #[.pointer (some ⟨B, 0, none⟩)] 29)
 have A1 := row_al (heap_new1 w1 (.cells cur 64) (.cells #[.slice (some ⟨w1.heap.size, 0, none⟩) 0 (catB bs).length] 22)) (.cells #[.pointer (some ⟨B, 0, none⟩)] 29)
 have A3 := heap_new2 w1 (.cells cur 64) (.cells #[.slice (some ⟨w1.heap.size, 0, none⟩) 0 (catB bs).length] 22) (.cells #[.pointer (some ⟨B, 0, none⟩)] 29)
 have AB : Below w.heap.size w (((w1.alloc (.cells cur 64)).alloc (.cells #[.slice (some ⟨w1.heap.size, 0, none⟩) 0 (catB bs).length] 22)).alloc (.cells #[.pointer (some ⟨B, 0, none⟩)] 29)) := (((HB0.out.trans (hb1.mono HB0.out.size)).alloc (by have := hb1.size; have := HB0.out.size; omega) _).alloc (by have := hb1.size; have := HB0.out.size; simp; omega) _).alloc (by have := hb1.size; have := HB0.out.size; simp; omega) _
 have AS : (((w1.alloc (.cells cur 64)).alloc (.cells #[.slice (some ⟨w1.heap.size, 0, none⟩) 0 (catB bs).length] 22)).alloc (.cells #[.pointer (some ⟨B, 0, none⟩)] 29)).heap.size = w1.heap.size + 1 + 1 + 1 := by simp
 have AO : (((w1.alloc (.cells cur 64)).alloc (.cells #[.slice (some ⟨w1.heap.size, 0, none⟩) 0 (catB bs).length] 22)).alloc (.cells #[.pointer (some ⟨B, 0, none⟩)] 29)).ownsRow w.heap.size 64 5 (.slice (some ⟨w1.heap.size, 0, none⟩) 0 (catB bs).length) 0 [] := ((World.ownsRow_made w1 cur (catB bs).length (by have := hb1.size; have := HB0.out.size; omega) (by unfold maxLen; omega) hcur).alloc _).alloc _
 have hge : w.heap.size < w1.heap.size := by have := hb1.size; simp at this; omega
 generalize ((w1.alloc (.cells cur 64)).alloc (.cells #[.slice (some ⟨w1.heap.size, 0, none⟩) 0 (catB bs).length] 22)).alloc (.cells #[.pointer (some ⟨B, 0, none⟩)] 29) = w3 at A0 A1 A3 AB AS AO ⊢
 clear B1 e0 B2 e2 hb1 hmk d0 B0 hB0 HB0
 have hst := hst (w1.heap.size + 1 + 1) (w1.heap.size + 1 + 1) w3 AB A3 (Nat.le_refl _)
 have hcs : ∀ x ∈ bs, x.cs.length ≤ 100000 := fun x hx => by
  obtain ⟨k, hk, rfl⟩ := List.mem_iff_getElem.1 hx
  have := catB_le (List.getElem?_eq_getElem hk)
  omega
 have hfew := HR.out.few
 refine wpIn_rangeFunc_ownF rfl (by decide) (gf := 53) (lb := #[.pointer (some ⟨w1.heap.size + 1 + 1, 0, none⟩)]) rfl trivial (enters_of Tryz.func53 (by kernel_rfl) rfl)
  hst (fun h k => kf_t h k) (kf_b (by omega)) (Below.refl _ _) (fun _ => rfl)
  (fun pre W => (W.heap[w.heap.size]? = some (.cells #[.pointer (some ⟨B, 0, none⟩)] 29 (0, 0)) ∧
   ∃ v, W.heap[w1.heap.size + 1]? = some (.cells #[v] 22 (0, 0)) ∧ W.ownsRow w.heap.size 64 5 v (catX bs pre).length (cCells (catX bs pre))) ∧ Below w.heap.size w W)
  (fun c pre W => (False) ∧ Below w.heap.size w W)
  (OwnFrom.and (Own.from (fun s A B row hs hg hr => ⟨row_turn hs.1 hg hr, by obtain ⟨v, h1, h2⟩ := hs.2; exact ⟨v, row_turn h1 hg hr, own_turn h2 hg hr⟩⟩) _) (ownFrom_below (Nat.le_refl _) (by omega)))
  (fun c => OwnFrom.and (Own.from (fun s A B row hs hg hr => hs.elim) _) (ownFrom_below (Nat.le_refl _) (by omega)))
  ⟨⟨A0, _, A1, AO⟩, AB⟩
  (fun x => { tmps := #[.pointer (some ⟨B, 0, none⟩), .pointer (some ⟨w.heap.size, 0, none⟩), .slice none 0 0, .pointer (some ⟨w1.heap.size + 1, 0, none⟩), .int .i64 (x.val : Int), .pointer (some ⟨B, 0, none⟩), .int .i64 ((catB bs).length : Nat), .slice (some ⟨w1.heap.size, 0, none⟩) 0 (catB bs).length, .pointer (some ⟨B, 0, none⟩), .func (.func 53) #[] #[.pointer (some ⟨w1.heap.size + 1 + 1, 0, none⟩)], .int .i64 (x.val : Int), .int .i64 ((catB (bs.take x.val)).length : Nat), undef, undef, undef, undef, undef, undef, undef, undef, undef, undef, undef], defers := [] }) ?assign ?body ?done ?stop
 case assign =>
  intro l x W K hK
  gi_wp2
  exact hK
 case body =>
  rintro l pre x W ⟨⟨c0, v, c1, ho⟩, hB⟩ hlen
  have hk : bs[x.val]? = some bs[x] := List.getElem?_eq_getElem x.isLt
  have hv0 : ∃ ao n cap, v = .slice ao n cap := by
   rcases ho.2 with ⟨q, _⟩ | ⟨g, cap, cur, q, _⟩
   ·exact ⟨_, _, _, q⟩
   ·exact ⟨_, _, _, q⟩
  obtain ⟨ao', n', cap', rfl⟩ := hv0
  obtain ⟨g, off, cp, hbv, _⟩ := (HR.out.at hk)
  subst hbv
  have hpx := catX_le hcs pre
  have hcx := hcs bs[x] (List.getElem_mem _)
  have hu := (HR.out.below hB).cells bs[x] (List.getElem_mem _)
  obtain ⟨cao, ccap, hcv, _⟩ := id hu.shape
  obtain ⟨va, Wa, hra, hoa, hga⟩ := append_cells w.heap.size _ (catX bs pre) _ bs[x].cs W.drew ho.drew (hu.below (Below.refl _ W).drew) (by omega) hB.size 22
  rw [hcv] at hra
  have hv2 : ∃ ao n cap, va = .slice ao n cap := by
   rcases hoa.2 with ⟨q, _⟩ | ⟨g, cap, cur, q, _⟩
   ·exact ⟨_, _, _, q⟩
   ·exact ⟨_, _, _, q⟩
  obtain ⟨va1, va2, va3, rfl⟩ := hv2
  have HX := Lib.hid (catX_snoc bs pre x)
  have hi0 : (0 : Int) ≤ (x.val : Int) ∧ (x.val : Int) < (bs.length : Int) := ⟨by omega, by have := x.isLt; omega⟩
  have HC := Lib.hid (And.intro hra (And.intro hoa hga))
  have HO := Lib.hid ho
  have HHk := Lib.hid (And.intro hk hcv)
  have hdB : Below w.heap.size w W.drew := hB.drew
  clear hcx hpx hu hra hoa hga ho hk hlen
  gi_wp2
  refine region_bridge (ro := some l) (S := fun X => (∃ z, X.heap[w1.heap.size + 1]? = some (.cells #[z] 22 (0, 0))) ∧ X.heap[w.heap.size]? = some (.cells #[.pointer (some ⟨B, 0, none⟩)] 29 (0, 0)) ∧ Below w.heap.size w X) (by kernel_rfl) (by kernel_rfl) (by rintro ⟨_, _, h⟩; exact h) ⟨⟨_, c1⟩, c0, hdB⟩ (fun hHeld => ?_)
  refine tk (i := 1) (v := ?_) rfl (Or.inl ⟨rfl, ?hy1⟩) ?_
  case hy1 =>
   intro W hS
   obtain ⟨-, s1, s2⟩ := hS
   have hd := HR.out.below s2
   have bx := hd.box
   have q0 := box_cell s1 0
   have q1 := box_cell bx 0
   obtain ⟨g', off', cp', hv', d0, d1, d2⟩ := hd.at HHk.out.1
   rw [HHk.out.2] at d2
   cases hv'
   go_simp
   try with_reducible rfl
  try simp only [Act.put, List.getElem_toArray, List.getElem_cons_succ, List.getElem_cons_zero, List.setIfInBounds_toArray, List.set_cons_zero, List.set_cons_succ]
  refine tk (i := 2) (v := ?_) rfl (Or.inl ⟨rfl, ?hy2⟩) ?_
  case hy2 =>
   intro W hS
   go_simp
   try with_reducible rfl
  try simp only [Act.put, List.getElem_toArray, List.getElem_cons_succ, List.getElem_cons_zero, List.setIfInBounds_toArray, List.set_cons_zero, List.set_cons_succ]
  refine tk (i := 3) (v := ?_) rfl (Or.inl ⟨rfl, ?hy3⟩) ?_
  case hy3 =>
   intro W hS
   go_simp
   try with_reducible rfl
  try simp only [Act.put, List.getElem_toArray, List.getElem_cons_succ, List.getElem_cons_zero, List.setIfInBounds_toArray, List.set_cons_zero, List.set_cons_succ]
  refine tk (i := 4) (v := ?_) rfl (Or.inl ⟨rfl, ?hy4⟩) ?_
  case hy4 =>
   intro W hS
   obtain ⟨-, s1, s2⟩ := hS
   have hd := HR.out.below s2
   have bx := hd.box
   have q0 := box_cell s1 0
   have q1 := box_cell bx 0
   obtain ⟨g', off', cp', hv', d0, d1, d2⟩ := hd.at HHk.out.1
   rw [HHk.out.2] at d2
   cases hv'
   go_simp
   try with_reducible rfl
  try simp only [Act.put, List.getElem_toArray, List.getElem_cons_succ, List.getElem_cons_zero, List.setIfInBounds_toArray, List.set_cons_zero, List.set_cons_succ]
  refine tk (i := 5) (v := ?_) rfl (Or.inl ⟨rfl, ?hy5⟩) ?_
  case hy5 =>
   intro W hS
   go_simp
   try with_reducible rfl
  try simp only [Act.put, List.getElem_toArray, List.getElem_cons_succ, List.getElem_cons_zero, List.setIfInBounds_toArray, List.set_cons_zero, List.set_cons_succ]
  refine tk (i := 6) (v := ?_) rfl (Or.inl ⟨rfl, ?hy6⟩) ?_
  case hy6 =>
   intro W hS
   go_simp
   try with_reducible rfl
  try simp only [Act.put, List.getElem_toArray, List.getElem_cons_succ, List.getElem_cons_zero, List.setIfInBounds_toArray, List.set_cons_zero, List.set_cons_succ]
  refine tk (i := 7) (v := ?_) rfl (Or.inl ⟨rfl, ?hy7⟩) ?_
  case hy7 =>
   intro W hS
   go_simp
   try with_reducible rfl
  try simp only [Act.put, List.getElem_toArray, List.getElem_cons_succ, List.getElem_cons_zero, List.setIfInBounds_toArray, List.set_cons_zero, List.set_cons_succ]
  refine tk (i := 8) (v := ?_) rfl (Or.inl ⟨rfl, ?hy8⟩) ?_
  case hy8 =>
   intro W hS
   obtain ⟨-, s1, s2⟩ := hS
   have hd := HR.out.below s2
   have bx := hd.box
   have q0 := box_cell s1 0
   have q1 := box_cell bx 0
   obtain ⟨g', off', cp', hv', d0, d1, d2⟩ := hd.at HHk.out.1
   rw [HHk.out.2] at d2
   cases hv'
   go_simp
   try with_reducible rfl
  try simp only [Act.put, List.getElem_toArray, List.getElem_cons_succ, List.getElem_cons_zero, List.setIfInBounds_toArray, List.set_cons_zero, List.set_cons_succ]
  refine wpAnyH_ready (rs := [0]) (by kernel_rfl) (by simp) (AllReadyH.cons rfl (fun K hK => ?_) AllReadyH.nil)
  have z0 := box_cell (w := W.drew) c1 0
  go_simp
  refine hK.out _ _ (hHeld) (fun hX => ?_)
  clear hK K hHeld
  have hHeld := hX
  clear hX
  refine wpAnyH_ready (rs := [9]) (by kernel_rfl) (by simp) (AllReadyH.cons rfl (fun K hK => ?_) AllReadyH.nil)
  rw [if_pos (by rfl)]
  refine wp_run_append rfl rfl rfl HC.out.1 ?_
  refine hK.out _ _ (⟨⟨_, row_grown (W := W.drew) c1 HC.out.2.2 HO.out.drew (by decide)⟩, row_grown (W := W.drew) c0 HC.out.2.2 HO.out.drew (by decide), below_grown hdB HC.out.2.2 HO.out.drew (Nat.le_refl _)⟩) (fun hX => ?_)
  clear hK K hHeld
  have hHeld := hX
  clear hX
  refine wpAnyH_ready (rs := [10]) (by kernel_rfl) (by simp) (AllReadyH.cons rfl (fun K hK => ?_) AllReadyH.nil)
  have c1a := row_grown (W := W.drew) c1 HC.out.2.2 HO.out.drew (by decide)
  have z0 := box_cell c1a 0
  have zf := box_frozen c1a 0
  go_simp
  refine hK.out _ _ (⟨⟨_, box_set c1a 0 _⟩, (box_other (by omega) 0 _).trans (row_grown (W := W.drew) c0 HC.out.2.2 HO.out.drew (by decide)), (below_grown hdB HC.out.2.2 HO.out.drew (Nat.le_refl _)).setCell (p := ⟨w1.heap.size + 1, 0, none⟩) (by show w.heap.size ≤ w1.heap.size + 1; omega) _⟩) (fun hX => ?_)
  clear hK K hHeld
  have hHeld := hX
  clear hX
  refine wpAnyH_done (by kernel_rfl) ?_ _
  gi_wp2
  have hgw := (Below.refl W.heap.size W.drew)
  refine ⟨?ko, ?kf, ⟨⟨(box_other (by omega) 0 _).trans (row_grown (W := W.drew) c0 HC.out.2.2 HO.out.drew (by decide)), _, box_set c1a 0 _, ?ow⟩, hHeld.2.2⟩⟩
  case ow =>
   rw [HX.out]
   exact own_far HC.out.2.1 c1a (by decide) 0 _
  case ko =>
   exact (KeepsOthers.drew W).trans ((KeepsOthers.of_grownBy HC.out.2.2 (fun j o hj ho => by obtain ⟨_, cur', hc⟩ := own_typed HO.out.drew j hj; rw [hc] at ho; cases ho; rfl)).trans (KeepsOthers.setCell _ _ _))
  case kf =>
   exact kf_t (kf_t ((KF.refl _ _ W).drew) (KF.grown HC.out.2.2 (by have := hB.size; exact this) (fun g e => by obtain ⟨q1, cur', hc⟩ := own_typed HO.out.drew g e; exact ⟨q1, .inr ⟨_, _, _, hc, .inr (.inr (.inl rfl))⟩⟩))) (KF.set (by omega) (by omega))
 case done =>
  rintro D ys W hD rfl ⟨⟨c0, v, c1, ho⟩, hB⟩ hK
  rw [catX_all] at ho
  have e0 := box_cell c1 0
  have HO := Lib.hid ho
  have HB := Lib.hid hB
  have hv0 : ∃ ao n cap, v = .slice ao n cap := by
   rcases ho.2 with ⟨q, _⟩ | ⟨g, cap, cur, q, _⟩
   ·exact ⟨_, _, _, q⟩
   ·exact ⟨_, _, _, q⟩
  obtain ⟨ao', n', cap', rfl⟩ := hv0
  clear ho hB c0 c1
  gi_wp2
  refine ⟨by simp, .inl ⟨_, _, rfl, run_takeDeferred hK, ?_⟩⟩
  have hBD := belowK_b (w := w) (Nat.le_refl _) W D _ (.deferred none) (by omega) hK rfl rfl
  exact ⟨_, results_tmp rfl _ _ _, _, rfl, own_turn HO.out (grownBy_putObj' W D (.deferred none)) (fun r e => by cases e; exact ⟨_, hK, rfl⟩), HB.out.trans hBD⟩
 case stop =>
  rintro D c pre W hD hpre ⟨hno, _⟩ hK
  exact hno.elim
end Go.Proofs.YthekkjfaaedamaaGreatDoor

namespace Go.Proofs.YthekkjfaaedamaaGreatDoor
open Go.RowKit Go.Shelf
attribute [local go_sem] Oper.semAt_some

theorem CAt.take {W : World} {ao : Option Addr} {n cap : Nat} {l : List PCell} (h : CAt W (.slice ao n cap) l) (k : Nat) (hk : k ≤ l.length) : CAt W (.slice ao k cap) (l.take k) := by
 obtain ⟨hl, ao', cap', e, h1, h2, h3, h4⟩ := h
 cases e
 refine ⟨cCells_length _, ao, cap, ?_, ?_, h2, h3, fun ad ha => ?_⟩
 ·rw [List.length_take, Nat.min_eq_left hk]
 ·rw [List.length_take, Nat.min_eq_left hk]; omega
 obtain ⟨b, off, e, hlt, hc⟩ := h4 ad ha
 refine ⟨b, off, e, hlt, fun j u hj => hc j u ?_⟩
 rw [← cCells_take l k hk, List.getElem?_take] at hj
 split at hj
 ·exact hj
 ·cases hj
end Go.Proofs.YthekkjfaaedamaaGreatDoor

namespace Go.Proofs.YthekkjfaaedamaaGreatDoor
open Go.RowKit Go.Shelf
attribute [local go_sem] Oper.semAt_some

abbrev frB (bs : List PB) (x : Fin bs.length) : Nat := (catB (bs.take x.val)).length
end Go.Proofs.YthekkjfaaedamaaGreatDoor

namespace Go.Proofs.YthekkjfaaedamaaGreatDoor
open Go.RowKit Go.Shelf
attribute [local go_sem] Oper.semAt_some

end Go.Proofs.YthekkjfaaedamaaGreatDoor
