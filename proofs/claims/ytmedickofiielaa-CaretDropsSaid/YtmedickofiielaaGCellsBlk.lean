/- Texts of this proof, joined. -/
import Derived.Test.YtmedickofiielaaCellsCount
import Derived.RangeFuncNested
import Derived.RangeFuncBound
import Derived.RangeFuncCalls
import Derived.RangeFuncLeaves
import Derived.RangeFuncBox
import Derived.Shelf.Abstract
import Derived.Shelf.RegionOpen
import Derived.OwnWalkIn
import Derived.TacticsInMore
import Derived.LoopNIn
import Derived.LoopIn
import Derived.Lib.PathFns
import Derived.Outline
import Derived.Test.YtmedickofiielaaBridge
import Derived.Test.YtmedickofiielaaGReads64
import Derived.Test.YtmedickofiielaaGRefOps
import Derived.Test.YtmedickofiielaaGSpansPlain
namespace Go.Proofs.Ytmedickofiielaa
open Go.RowKit Go.Shelf
attribute [local go_sem] Oper.semAt_some

structure PB where
 cs : List PCell
 v : Value
def kV (x : PB) : List Value := [.int .i64 (liveN x.cs : Nat), .int .i64 (goneN x.cs : Nat), x.v]
def kCells : List PB → List Value
 | [] => []
 | x :: r => kV x ++ kCells r
theorem kCells_append : ∀ a b, kCells (a ++ b) = kCells a ++ kCells b
 | [], _ => rfl
 | c :: r, b => by show kV c ++ kCells (r ++ b) = _; rw [kCells_append r b, ← List.append_assoc]; rfl
theorem kCells_length : ∀ l, (kCells l).length = l.length * 3
 | [] => rfl
 | c :: r => by
  show (kV c ++ kCells r).length = (r.length + 1) * 3
  rw [List.length_append, kCells_length r, show (kV c).length = 3 from rfl]
  omega
theorem kCells_at : ∀ (l : List PB) (i j : Nat) (c : PB), l[i]? = some c → j < 3 → (kCells l)[i * 3 + j]? = (kV c)[j]?
 | [], i, _, _, h, _ => by simp at h
 | d :: r, 0, j, c, h, hj => by
  obtain rfl : d = c := by simpa using h
  show (kV d ++ kCells r)[0 * 3 + j]? = _
  rw [List.getElem?_append_left (by show 0 * 3 + j < 3; omega), show 0 * 3 + j = j by omega]
 | d :: r, i + 1, j, c, h, hj => by
  show (kV d ++ kCells r)[(i + 1) * 3 + j]? = _
  rw [List.getElem?_append_right (by show 3 ≤ (i + 1) * 3 + j; omega), show (i + 1) * 3 + j - (kV d).length = i * 3 + j by show (i + 1) * 3 + j - 3 = _; omega]
  exact kCells_at r i j c (by simpa using h) hj
def catB (bs : List PB) : List PCell := bs.flatMap (·.cs)
theorem catB_append (a b : List PB) : catB (a ++ b) = catB a ++ catB b := by simp [catB]
theorem catB_take {bs : List PB} {k : Nat} {x : PB} (h : bs[k]? = some x) : catB (bs.take (k + 1)) = catB (bs.take k) ++ x.cs := by
 rw [List.take_add_one, h, catB_append]
 simp [catB]
theorem catB_split {bs : List PB} {k : Nat} {x : PB} (h : bs[k]? = some x) : catB bs = catB (bs.take k) ++ x.cs ++ catB (bs.drop (k + 1)) := by
 conv => lhs; rw [← List.take_append_drop (k + 1) bs]
 rw [catB_append, catB_take h]
def begL (bs : List PB) : List (Fin bs.length) := List.finRange bs.length
def begK (bs : List PB) (k : Nat) : List (Fin bs.length) := (List.finRange bs.length).take k
theorem begK_next (bs : List PB) (k : Nat) (h : k < bs.length) : begK bs (k + 1) = begK bs k ++ [⟨k, h⟩] := by
 unfold begK
 rw [List.take_add_one]
 congr 1
 simp [h]
theorem begK_length (bs : List PB) (k : Nat) (h : k ≤ bs.length) : (begK bs k).length = k := by simp [begK, h]
theorem begK_pre (bs : List PB) (k : Nat) : begK bs k <+: begL bs := List.take_prefix _ _
theorem begK_all (bs : List PB) : begK bs bs.length = begL bs := by unfold begK begL; rw [List.take_of_length_le (by simp)]
abbrev encB (bs : List PB) (x : Fin bs.length) : Array Value := #[.int .i64 (x.val : Int), .int .i64 ((catB (bs.take x.val)).length : Nat)]
def catX (bs : List PB) (pre : List (Fin bs.length)) : List PCell := pre.flatMap fun i => bs[i].cs
theorem catX_snoc (bs : List PB) (pre : List (Fin bs.length)) (x : Fin bs.length) : catX bs (pre ++ [x]) = catX bs pre ++ bs[x].cs := by simp [catX]
theorem catX_all (bs : List PB) : catX bs (begL bs) = catB bs := by
 unfold catX begL catB
 have h : bs = (List.finRange bs.length).map fun i => bs[i] := by
  apply List.ext_getElem
  ·simp
  ·intro i h1 h2; simp
 conv => rhs; rw [h]
 rw [List.flatMap_map]
theorem catX_le {bs : List PB} {M : Nat} (hM : ∀ x ∈ bs, x.cs.length ≤ M) (pre : List (Fin bs.length)) : (catX bs pre).length ≤ pre.length * M := by
 unfold catX
 induction pre with
 | nil => simp
 | cons a r ih =>
  rw [List.flatMap_cons, List.length_append, List.length_cons, Nat.add_mul]
  have := hM bs[a] (List.getElem_mem _)
  omega

def RowT (t : TypeId) : Prop := t = 76 ∨ t = 21 ∨ t = 41 ∨ t = 97
def KF (n₀ m₁ : Nat) (W W' : World) : Prop := Below n₀ W W' ∧ ∀ (i : Nat) (c : Array Value) (t : TypeId) (fr : Nat × Nat), m₁ ≤ i → ¬ RowT t → W.heap[i]? = some (.cells c t fr) → W'.heap[i]? = some (.cells c t fr)
theorem kf_t {n₀ m₁ : Nat} {X Y Z : World} (h : KF n₀ m₁ X Y) (k : KF n₀ m₁ Y Z) : KF n₀ m₁ X Z := ⟨h.1.trans k.1, fun i c t fr hi ht q => k.2 i c t fr hi ht (h.2 i c t fr hi ht q)⟩
theorem kf_b {n₀ m₁ : Nat} {w : World} (hn : n₀ ≤ w.heap.size) (W : World) (l : Nat) (o o' : Obj) (hl : w.heap.size ≤ l) (h : W.heap[l]? = some o) (hc : o.isCells = false) (hw : o.isWalk = false) : KF n₀ m₁ W (W.putObj l o') := by
 refine ⟨belowK_b hn W l o o' hl h hc hw, fun i c t fr _ _ q => ?_⟩
 by_cases e : i = l
 ·subst e
  rw [q] at h
  cases h
  cases hc
 ·rw [World.putObj_heap_other (by omega)]
  exact q
theorem KF.refl (n₀ m₁ : Nat) (W : World) : KF n₀ m₁ W W := ⟨Below.refl _ _, fun _ _ _ _ _ _ q => q⟩
theorem KF.below {n₀ m₁ : Nat} {W W' : World} (hn : n₀ ≤ W.heap.size) (h : Below W.heap.size W W') : KF n₀ m₁ W W' := ⟨h.mono hn, fun i _ _ _ _ _ q => (h.block i (Array.getElem?_eq_some_iff.1 q).1).trans q⟩
theorem KF.drew {n₀ m₁ : Nat} {W W' : World} (h : KF n₀ m₁ W W') : KF n₀ m₁ W W'.drew := ⟨h.1.drew, h.2⟩
theorem KF.up {n₀ n₁ m₁ m₂ : Nat} {W W' : World} (h : KF n₀ m₁ W W') (hn : n₁ ≤ n₀) (hm : m₁ ≤ m₂) : KF n₁ m₂ W W' := ⟨h.1.mono hn, fun i c t fr hi ht q => h.2 i c t fr (Nat.le_trans hm hi) ht q⟩
theorem KF.set {n₀ m₁ B o : Nat} {W : World} {u : Value} (hn : n₀ ≤ B) (hm : B < m₁) : KF n₀ m₁ W (W.setCell ⟨B, o, none⟩ u) :=
 ⟨(Below.refl n₀ W).setCell (p := ⟨B, o, none⟩) hn u, fun i _ _ _ hi _ q => (Below.heap_setCell _ _ _ _ (show i ≠ B by omega)).trans q⟩
theorem KF.alloc {n₀ m₁ : Nat} {W : World} (hn : n₀ ≤ W.heap.size) (o : Obj) : KF n₀ m₁ W (W.alloc o) := KF.below hn ((Below.refl _ W).alloc (Nat.le_refl _) o)
theorem KF.grown {n₀ m₁ : Nat} {W W' : World} {r : Option Nat} (hg : W.grownBy W' r) (hn : n₀ ≤ W.heap.size) (hr : ∀ g, r = some g → n₀ ≤ g ∧ (g < m₁ ∨ ∃ c t fr, W.heap[g]? = some (.cells c t fr) ∧ RowT t)) : KF n₀ m₁ W W' := by
 refine ⟨(Below.refl n₀ W).grown hg hn (fun g e => (hr g e).1), fun i c t fr hi ht q => ?_⟩
 by_cases e : some i = r
 ·obtain ⟨_, h⟩ := hr i e.symm
  rcases h with h | ⟨c', t', fr', h1, h2⟩
  ·omega
  ·rw [q] at h1
   cases h1
   exact absurd h2 ht
 ·exact (hg.block i (Array.getElem?_eq_some_iff.1 q).1 e).trans q

theorem row_turn {W W' : World} {row : Option Nat} {i : Nat} {c : Array Value} {t : TypeId} {fr : Nat × Nat} (h : W.heap[i]? = some (.cells c t fr)) (hg : W.grownBy W' row) (hr : ∀ r, row = some r → ∃ o : Obj, W.heap[r]? = some o ∧ o.isCells = false) : W'.heap[i]? = some (.cells c t fr) := by
 refine (hg.block i (box_lt h) fun e => ?_).trans h
 obtain ⟨o, ho, hc⟩ := hr i e.symm
 rw [h] at ho
 cases ho
 cases hc
theorem row_up {W W' : World} {i : Nat} {o : Obj} (h : W.heap[i]? = some o) (hb : Below W.heap.size W W') : W'.heap[i]? = some o := (hb.block i (box_lt h)).trans h
theorem row_al {W : World} {i : Nat} {o : Obj} (h : W.heap[i]? = some o) (x : Obj) : (W.alloc x).heap[i]? = some o := (Below.heap_alloc _ _ _ (box_lt h)).trans h
theorem heap_new1 (w : World) (x o : Obj) : ((w.alloc x).alloc o).heap[w.heap.size + 1]? = some o := by
 have := heap_new (w.alloc x) o
 rwa [World.size_alloc] at this
theorem heap_new2 (w : World) (x y o : Obj) : (((w.alloc x).alloc y).alloc o).heap[w.heap.size + 1 + 1]? = some o := by
 have := heap_new1 (w.alloc x) y o
 rwa [World.size_alloc] at this
theorem heap_new3 (w : World) (x y z o : Obj) : ((((w.alloc x).alloc y).alloc z).alloc o).heap[w.heap.size + 1 + 1 + 1]? = some o := by
 have := heap_new2 (w.alloc x) y z o
 rwa [World.size_alloc] at this
theorem Keep.others {S : Nat → Prop} {W W' : World} (h : Keep S W.heap.size W W') (hs : ∀ k, S k → ∀ o, W.heap[k]? = some o → o.isCells = true) : KeepsOthers W W' :=
 ⟨h.size, fun k o hk ho => (h.block k (box_lt hk) fun q => by rw [hs k q o hk] at ho; cases ho).trans hk⟩
theorem KF.of_keep {n₀ m₁ : Nat} {S : Nat → Prop} {W W' : World} (h : Keep S W.heap.size W W') (hn : n₀ ≤ W.heap.size) (hS : ∀ k, S k → n₀ ≤ k ∧ k < m₁) : KF n₀ m₁ W W' :=
 ⟨h.below hn fun k q => (hS k q).1, fun i _ _ _ hi _ q => (h.block i (box_lt q) fun s => by have := hS i s; omega).trans q⟩
theorem Keep.row {S : Nat → Prop} {W W' : World} {i : Nat} {o : Obj} (h : Keep S W.heap.size W W') (hi : W.heap[i]? = some o) (hS : ¬ S i) : W'.heap[i]? = some o := (h.block i (box_lt hi) hS).trans hi
theorem others_below {W W' : World} (h : Below W.heap.size W W') : KeepsOthers W W' := ⟨h.size, fun k _ hk _ => (h.block k (box_lt hk)).trans hk⟩
structure DocR (w : World) (B : Nat) (bv nm : Value) (bs : List PB) : Prop where
 box : w.heap[B]? = some (.cells #[bv, nm] 60 (0, 0))
 row : RowR 3 w bv bs.length (kCells bs)
 cells : ∀ x ∈ bs, CAt w x.v x.cs
 room : (catB bs).length ≤ 100000
 few : bs.length ≤ 1000000
theorem DocR.below {w w' : World} {B : Nat} {bv nm : Value} {bs : List PB} (h : DocR w B bv nm bs) (hb : Below w.heap.size w w') : DocR w' B bv nm bs :=
 ⟨(hb.block B (box_lt h.box)).trans h.box, h.row.below hb, fun x hx => (h.cells x hx).below hb, h.room, h.few⟩
theorem DocR.at {w : World} {B : Nat} {bv nm : Value} {bs : List PB} (h : DocR w B bv nm bs) {k : Nat} {x : PB} (hk : bs[k]? = some x) : ∃ g off cap, bv = .slice (some ⟨g, off, none⟩) bs.length cap ∧
  w.cell? ⟨g, off + k * 3, none⟩ = some (.int .i64 (liveN x.cs : Nat)) ∧ w.cell? ⟨g, off + k * 3 + 1, none⟩ = some (.int .i64 (goneN x.cs : Nat)) ∧ w.cell? ⟨g, off + k * 3 + 2, none⟩ = some x.v := by
 obtain ⟨_, ao, cap, rfl, h2⟩ := h.row
 have hl := (List.getElem?_eq_some_iff.1 hk).1
 obtain ⟨b, off, rfl, hc⟩ := h2 (by omega)
 have e : ∀ j, j < 3 → w.cell? ⟨b, off + k * 3 + j, none⟩ = (kV x)[j]? := fun j hj => by
  have q := kCells_at bs k j x hk hj
  have hlt : j < (kV x).length := hj
  rw [List.getElem?_eq_getElem hlt] at q ⊢
  rw [Nat.add_assoc]
  exact hc _ _ q
 exact ⟨b, off, cap, rfl, e 0 (by decide), e 1 (by decide), e 2 (by decide)⟩
theorem catB_le {bs : List PB} {k : Nat} {x : PB} (h : bs[k]? = some x) : (catB (bs.take k)).length + x.cs.length ≤ (catB bs).length := by
 rw [catB_split h]
 simp only [List.length_append]
 omega

set_option maxRecDepth 100000 in
set_option maxHeartbeats 4000000 in
theorem begins1_in (n : Nat) (hn : 1 ≤ n) (l Bd n₀ m₁ B : Nat) (bv nm : Value) (bs : List PB) (w₀ : World) (h₀ : n₀ = w₀.heap.size) (hR : DocR w₀ B bv nm bs) (J Jx : List (Fin bs.length) → World → Prop)
  (hY : ∀ pre x W, J pre W → pre.length < bs.length → YieldAt Fence.wide (n - 1) Try.prog l (encB bs x) W fun e W' =>
   (e = .returned (.bool true) ∧ J (pre ++ [x]) W' ∧ KF n₀ m₁ W W') ∨ (e = .returned (.bool false) ∧ Jx (pre ++ [x]) W'))
  (W : World) (hb0 : Below n₀ w₀ W) (hJ : AbidesFrom W.heap.size J) (hBd : W.heap[Bd]? = some (.cells #[.pointer (some ⟨B, 0, none⟩)] 42 (0, 0))) (hm : m₁ ≤ Bd) (h0 : J [] W) :
  CallsIn Fence.wide n Try.prog 61 #[.func (.yield l) #[] #[], .pointer (some ⟨Bd, 0, none⟩)] W fun e W' => (∃ v, e = .returned v) ∧
   ((∃ ys, ys = begL bs ∧ J ys W') ∨ (∃ pre, pre <+: begL bs ∧ Jx pre W')) := by
 have hRw := fun W' (h : Below n₀ w₀ W') => hR.below (h₀ ▸ h)
 have hS := fun a b W (h1 : -1000000000000000 ≤ a ∧ a ≤ 1000000000000000) (h2 : -1000000000000000 ≤ b ∧ b ≤ 1000000000000000) => csize_any a b W h1 h2
 obtain ⟨ao, cap, hbv, _⟩ := hR.row.2
 subst hbv
 obtain ⟨N, hN⟩ : ∃ N, bs.length = N := ⟨_, rfl⟩
 have hfew := hR.few
 have hroom := hR.room
 rw [hN] at hfew
 have HN := Lib.hid hN
 have b0 := (hRw W hb0).box
 have d0 := box_cell hBd 0
 rw [hN] at b0
 have q0 := box_cell b0 0
 clear b0
 refine callsIn_of_wp Try.func61 rfl trivial ?_ rfl
 simp only [Try.ntmps61, List.size_toArray, List.length_cons, List.length_nil, Nat.reduceAdd, Nat.reduceSub, Array.replicate_succ, Array.replicate_zero, List.push_toArray, List.append_toArray, List.nil_append, List.cons_append]
 gi_wp2
 clear d0 q0
 have hbd0 : (catB (bs.take 0)).length = 0 := rfl
 gi_loopw [3, 12] (fun fr p wr => ∃ k : Nat, p = .int .i64 k ∧ fr = .int .i64 ((catB (bs.take k)).length : Nat) ∧ k ≤ N ∧ J (begK bs k) wr ∧ Below n₀ w₀ wr ∧ wr.heap[Bd]? = some (.cells #[.pointer (some ⟨B, 0, none⟩)] 42 (0, 0)))
  (fun _ p _ => N - (intOf p).toNat)
 case atStart => exact ⟨0, rfl, rfl, Nat.zero_le _, h0, hb0, hBd⟩
 case round =>
  obtain ⟨k, rfl, rfl, hk, hJs, hbw, hbd⟩ := hrel
  by_cases hlt : k < N
  ·obtain ⟨x, hx⟩ : ∃ x, bs[k]? = some x := ⟨_, List.getElem?_eq_getElem (by rw [HN.out]; exact hlt)⟩
   have hkb : k < bs.length := by rw [HN.out]; exact hlt
   have hnx := begK_next bs k hkb
   have hct : (catB (bs.take (k + 1))).length = (catB (bs.take k)).length + x.cs.length := by rw [catB_take hx, List.length_append]
   have hle := catB_le hx
   have hll := liveN_gone x.cs
   have hgrow : ∀ w1, Below wr.heap.size wr w1 → wr.grownBy w1 none := fun w1 hb => ⟨hb.os, hb.tape, hb.output, hb.size, fun i hi _ => hb.block i hi⟩
   obtain ⟨F, hF⟩ : ∃ F, (catB (bs.take k)).length = F := ⟨_, rfl⟩
   rw [hF] at hct hle
   rw [hF]
   obtain ⟨L, hL⟩ : ∃ L, liveN x.cs = L := ⟨_, rfl⟩
   obtain ⟨G, hG⟩ : ∃ G, goneN x.cs = G := ⟨_, rfl⟩
   rw [hL, hG] at hll
   rw [← hll] at hct hle
   have HX := Lib.hid (And.intro hx (And.intro hL hG))
   have Hnx := Lib.hid hnx
   have Hct := Lib.hid hct
   have HJs := Lib.hid hJs
   have HbW := Lib.hid hbw
   have HRw := Lib.hid hRw
   have HR := Lib.hid hR
   have HS := Lib.hid hS
   have Hle := Lib.hid (And.intro hle hroom)
   obtain ⟨fn, tmps, assign, body, hy, hRnd⟩ := hY (begK bs k) ⟨k, hkb⟩ _ hJs (by rw [begK_length _ _ (Nat.le_of_lt hkb)]; exact hkb)
   dsimp only [encB] at hy
   rw [hF] at hy
   clear hnx hct hle hll hgrow hF hL hG hx hRw hR hJs hbw hN hS hroom
   gi_wp2
   try (rw [hy]; gi_wp2)
   refine hRnd.mono ?_
   clear hy hRnd
   rintro e W3 (⟨rfl, hJ3, hk3⟩ | ⟨rfl, hJx3⟩)
   ·have hw3 : Below n₀ w₀ W3 := HbW.out.trans hk3.1
    have hbd3 := hk3.2 _ _ _ _ hm (by unfold RowT; decide) hbd
    have hd3 := HRw.out W3 hw3
    obtain ⟨g, off, cp, hv, c0, c1, _⟩ := hd3.at HX.out.1
    rw [HX.out.2.1] at c0
    rw [HX.out.2.2] at c1
    rw [HN.out] at hv
    cases hv
    have e0 := box_cell hbd3 0
    have bx := hd3.box
    rw [HN.out] at bx
    have e1 := box_cell bx 0
    have hi0 : (0 : Int) ≤ (k : Int) ∧ (k : Int) < (N : Int) := ⟨by omega, by omega⟩
    have HW3 := Lib.hid hw3
    have HB3 := Lib.hid hbd3
    have HJ3 := Lib.hid hJ3
    clear hw3 hbd3 hd3 bx hJ3 hk3 hbd
    have hLG := Hle.out
    have hs1 : IntKind.i64.wrap ((F : Int) + ((L : Int) + (G : Int))) = (F : Int) + ((L : Int) + (G : Int)) := IntWalk.i64_in _ (by omega)
    have hS' := HS.out (L : Int) (G : Int) W3 (by omega) (by omega)
    clear hLG
    gi_wp2_with (refine ⟨trivial, ?_⟩; gi_at_call 55; refine (callsIn_wide.2 hS').mono ?_; clear hS'; rintro e W4 ⟨rfl, hb4⟩)
    go_roundw
    case rel =>
     refine ⟨k + 1, by go_num, ?_, by omega, ?_, HW3.out.trans (hb4.mono (by have := HW3.out.size; omega)), ?_⟩
     ·rw [Hct.out]
      exact congrArg (Value.int .i64) (by push_cast; rfl)
     ·rw [Hnx.out]
      exact hJ _ W3 _ none HJ3.out ⟨hb4.os, hb4.tape, hb4.output, hb4.size, fun i hi _ => hb4.block i hi⟩ (fun r e => by cases e)
     ·exact (hb4.block _ (box_lt HB3.out)).trans HB3.out
    case measure => simp [intOf]; omega
   ·gi_wp2
    refine bodyPost_ret (results_none rfl _ _ _) rfl ?_
    refine ⟨⟨_, rfl⟩, .inr ⟨_, ?_, hJx3⟩⟩
    rw [← Hnx.out]
    exact begK_pre bs (k + 1)
  ·obtain rfl : k = N := by omega
   have hall : begK bs k = begL bs := by rw [← HN.out]; exact begK_all bs
   rw [hall] at hJs
   gi_wp2
   go_end0
   exact ⟨⟨_, rfl⟩, .inl ⟨_, rfl, hJs⟩⟩

theorem begins_stops (n : Nat) (hn : 1 ≤ n) (Bd m₁ B : Nat) (bv nm : Value) (bs : List PB) (w₀ : World) (hR : DocR w₀ B bv nm bs) (w : World) (hb0 : Below w₀.heap.size w₀ w) (hBd : w.heap[Bd]? = some (.cells #[.pointer (some ⟨B, 0, none⟩)] 42 (0, 0))) (hm : m₁ ≤ Bd) :
  SeqStopsK Fence.wide n Try.prog 61 #[.pointer (some ⟨Bd, 0, none⟩)] (encB bs) (KF w₀.heap.size m₁) (fun ys => ys = begL bs) (fun pre => pre <+: begL bs) bs.length w := fun l J Jx W hW hJ _ hY h0 =>
 begins1_in n hn l Bd w₀.heap.size m₁ B bv nm bs w₀ rfl hR J Jx hY W (hb0.trans (hW.mono hb0.size)) hJ ((hW.block _ (box_lt hBd)).trans hBd) hm h0
set_option maxHeartbeats 1000000 in
theorem begins_any (p : Option Addr) (w : World) :
  Calls Try.prog 53 #[.pointer p] w fun e w' => e = .returned (.func (.func 61) #[] #[.pointer (some ⟨w.heap.size, 0, none⟩)]) ∧ w' = w.alloc (.cells #[.pointer p] 42) := by
 go_enter Try.func53, Try.ntmps53
 go_wp2
 go_ret
 exact ⟨rfl, rfl⟩
end Go.Proofs.Ytmedickofiielaa

namespace Go.Proofs.Ytmedickofiielaa
open Go.RowKit Go.Shelf
attribute [local go_sem] Oper.semAt_some

set_option maxRecDepth 100000 in
set_option maxHeartbeats 4000000 in
theorem whole_any (B : Nat) (bv nm : Value) (bs : List PB) (w : World) (hR : DocR w B bv nm bs) :
  Calls Try.prog 51 #[.pointer (some ⟨B, 0, none⟩)] w fun e W' => e = .returned (cntV (liveN (catB bs)) (goneN (catB bs))) ∧ Below w.heap.size w W' := by
 have hbeg := fun W => begins_any (some ⟨B, 0, none⟩) W
 have hst := fun Bd m₁ W h1 h2 h3 => begins_stops 3 (by decide) Bd m₁ B bv nm bs w hR W h1 h2 h3
 have hall := liveN_gone (catB bs)
 have hroom := hR.room
 have HR := Lib.hid hR
 clear hR
 refine (callsIn_wide (n := 4)).1 ?_
 refine callsIn_of_wp_marks Try.func51 rfl trivial ?_ rfl
 simp only [Try.ntmps51, List.size_toArray, List.length_cons, List.length_nil, Nat.reduceAdd, Nat.reduceSub, Array.replicate_succ, Array.replicate_zero, List.push_toArray, List.append_toArray, List.nil_append, List.cons_append]
 gi_wp2_with (refine ⟨trivial, ?_⟩; gi_at_call 53; refine (callsIn_wide.2 (hbeg _)).mono ?_; rintro e _ ⟨rfl, rfl⟩)
 have A0 := row_al (row_al (row_al (heap_new w (.cells #[.pointer (some ⟨B, 0, none⟩)] 42)) (.cells #[.int .i64 0, .int .i64 0] 93)) (.cells #[.int .i64 0, .int .i64 0] 93)) (.cells #[.pointer (some ⟨B, 0, none⟩)] 42)
 have A1 := row_al (row_al (heap_new1 w (.cells #[.pointer (some ⟨B, 0, none⟩)] 42) (.cells #[.int .i64 0, .int .i64 0] 93)) (.cells #[.int .i64 0, .int .i64 0] 93)) (.cells #[.pointer (some ⟨B, 0, none⟩)] 42)
 have A2 := row_al (heap_new2 w (.cells #[.pointer (some ⟨B, 0, none⟩)] 42) (.cells #[.int .i64 0, .int .i64 0] 93) (.cells #[.int .i64 0, .int .i64 0] 93)) (.cells #[.pointer (some ⟨B, 0, none⟩)] 42)
 have A3 := heap_new3 w (.cells #[.pointer (some ⟨B, 0, none⟩)] 42) (.cells #[.int .i64 0, .int .i64 0] 93) (.cells #[.int .i64 0, .int .i64 0] 93) (.cells #[.pointer (some ⟨B, 0, none⟩)] 42)
 have AB : Below w.heap.size w ((((w.alloc (.cells #[.pointer (some ⟨B, 0, none⟩)] 42)).alloc (.cells #[.int .i64 0, .int .i64 0] 93)).alloc (.cells #[.int .i64 0, .int .i64 0] 93)).alloc (.cells #[.pointer (some ⟨B, 0, none⟩)] 42)) := ((((Below.refl _ w).alloc (Nat.le_refl _) _).alloc (by simp) _).alloc (by simp; omega) _).alloc (by simp; omega) _
 have AS : ((((w.alloc (.cells #[.pointer (some ⟨B, 0, none⟩)] 42)).alloc (.cells #[.int .i64 0, .int .i64 0] 93)).alloc (.cells #[.int .i64 0, .int .i64 0] 93)).alloc (.cells #[.pointer (some ⟨B, 0, none⟩)] 42)).heap.size = w.heap.size + 1 + 1 + 1 + 1 := by simp
 generalize (((w.alloc (.cells #[.pointer (some ⟨B, 0, none⟩)] 42)).alloc (.cells #[.int .i64 0, .int .i64 0] 93)).alloc (.cells #[.int .i64 0, .int .i64 0] 93)).alloc (.cells #[.pointer (some ⟨B, 0, none⟩)] 42) = w3 at A0 A1 A2 A3 AB AS ⊢
 have hst := hst (w.heap.size + 1 + 1 + 1) (w.heap.size + 1 + 1 + 1) w3 AB A3 (Nat.le_refl _)
 have hcs : ∀ x ∈ bs, x.cs.length ≤ 100000 := fun x hx => by
  obtain ⟨k, hk, rfl⟩ := List.mem_iff_getElem.1 hx
  have := catB_le (List.getElem?_eq_getElem hk)
  omega
 have hfew := HR.out.few
 refine wpIn_rangeFunc_ownF rfl (by decide) (gf := 61) (lb := #[.pointer (some ⟨w.heap.size + 1 + 1 + 1, 0, none⟩)]) rfl trivial (enters_of Try.func61 (by kernel_rfl) rfl)
  hst (fun h k => kf_t h k) (kf_b (by omega)) (Below.refl _ _) (fun _ => rfl)
  (fun pre W => (W.heap[w.heap.size]? = some (.cells #[.pointer (some ⟨B, 0, none⟩)] 42 (0, 0)) ∧ W.heap[w.heap.size + 1]? = some (.cells #[.int .i64 0, .int .i64 0] 93 (0, 0)) ∧
   W.heap[w.heap.size + 1 + 1]? = some (.cells #[.int .i64 (liveN (catX bs pre) : Nat), .int .i64 (goneN (catX bs pre) : Nat)] 93 (0, 0))) ∧ Below w.heap.size w W)
  (fun c pre W => (False) ∧ Below w.heap.size w W)
  (OwnFrom.and (Own.from (fun s A B row hs hg hr => ⟨row_turn hs.1 hg hr, row_turn hs.2.1 hg hr, row_turn hs.2.2 hg hr⟩) _) (ownFrom_below (Nat.le_refl _) (by omega)))
  (fun c => OwnFrom.and (Own.from (fun s A B row hs hg hr => hs.elim) _) (ownFrom_below (Nat.le_refl _) (by omega)))
  ⟨⟨A0, A1, A2⟩, AB⟩
  (fun x => { tmps := #[.pointer (some ⟨B, 0, none⟩), .pointer (some ⟨w.heap.size, 0, none⟩), .pointer (some ⟨w.heap.size + 1, 0, none⟩), .pointer (some ⟨w.heap.size + 1 + 1, 0, none⟩), .int .i64 (x.val : Int), .pointer (some ⟨B, 0, none⟩), .func (.func 61) #[] #[.pointer (some ⟨w.heap.size + 1 + 1 + 1, 0, none⟩)], .int .i64 (x.val : Int), .int .i64 ((catB (bs.take x.val)).length : Nat), undef, undef, undef, undef, undef, undef, undef, undef, undef, undef], defers := [] }) ?assign ?body ?done ?stop
 case assign =>
  intro l x W K hK
  gi_wp2
  exact hK
 case body =>
  rintro l pre x W ⟨⟨c0, c1, c2⟩, hB⟩ hlen
  have hd := HR.out.below hB
  have hk : bs[x.val]? = some bs[x] := List.getElem?_eq_getElem x.isLt
  obtain ⟨g, off, cp, hv, d0, d1, _⟩ := hd.at hk
  have hcx := hcs bs[x] (List.getElem_mem _)
  have hpx := catX_le hcs pre
  have hl1 := liveN_gone bs[x].cs
  have hl2 := liveN_gone (catX bs pre)
  have hbx : pre.length * 100000 ≤ 100000000000 := by omega
  have HL := Lib.hid (liveN_append (catX bs pre) bs[x].cs)
  have HG := Lib.hid (goneN_append (catX bs pre) bs[x].cs)
  have HX := Lib.hid (catX_snoc bs pre x)
  obtain ⟨L, hL⟩ : ∃ L, liveN (catX bs pre) = L := ⟨_, rfl⟩
  obtain ⟨G, hG⟩ : ∃ G, goneN (catX bs pre) = G := ⟨_, rfl⟩
  obtain ⟨l1, hl1'⟩ : ∃ L, liveN bs[x].cs = L := ⟨_, rfl⟩
  obtain ⟨g1, hg1'⟩ : ∃ L, goneN bs[x].cs = L := ⟨_, rfl⟩
  rw [hl1'] at d0 hl1
  rw [hg1'] at d1 hl1
  rw [hL] at c2 hl2
  rw [hG] at c2 hl2
  have HV := Lib.hid (And.intro (And.intro hL hG) (And.intro hl1' hg1'))
  have bx := hd.box
  rw [hv] at bx
  have e0 := box_cell c0 0
  have e1 := box_cell bx 0
  have hi0 : (0 : Int) ≤ (x.val : Int) ∧ (x.val : Int) < (bs.length : Int) := ⟨by omega, by have := x.isLt; omega⟩
  have hadd := cadd_any (w.heap.size + 1 + 1) 0 _ _ (L : Int) (G : Int) (l1 : Int) (g1 : Int) W c2 rfl rfl (by omega) (by omega) (by omega) (by omega)
  have HC := Lib.hid (And.intro c0 (And.intro c1 hB))
  have HA := Lib.hid hadd
  have HC2 := Lib.hid c2
  clear hL hG hl1' hg1' hl1 hl2 hbx hpx hcx hd bx hadd c0 c1 c2 hB hv hk
  gi_wp2_with (refine ⟨trivial, ?_⟩; gi_at_call 60; refine (callsIn_wide.2 HA.out).mono ?_; clear HA; rintro e W4 ⟨⟨v, rfl⟩, r4, k4⟩)
  obtain ⟨q0, q1, q2⟩ := HC.out
  refine ⟨Keep.others k4 (fun k e o ho => by subst e; rw [HC2.out] at ho; cases ho; rfl), KF.of_keep k4 (by have := q2.size; omega) (fun k e => by omega), ⟨⟨Keep.row k4 q0 (by omega), Keep.row k4 q1 (by omega), ?_⟩, q2.trans (k4.below q2.size (fun k e => by omega))⟩⟩
  rw [HX.out, HL.out, HG.out, HV.out.1.1, HV.out.1.2, HV.out.2.1, HV.out.2.2]
  simpa using r4
 case done =>
  rintro D ys W hD rfl ⟨⟨c0, c1, c2⟩, hB⟩ hK
  rw [catX_all] at c2
  have e0 := box_cell c2 0
  have e1 := box_cell c2 1
  have g0 := box_cell c1 0
  have g1 := box_cell c1 1
  have f0 := box_frozen c1 0
  have f1 := box_frozen c1 1
  have HC := Lib.hid (And.intro c1 hB)
  clear c0 c1 c2 hB
  gi_wp2
  have hK1 := (KeepsOthers.setCell W ⟨w.heap.size + 1, 0, none⟩ (.int .i64 (liveN (catB bs) : Nat))).same D _ hK rfl
  have hK2 := (KeepsOthers.setCell (W.setCell ⟨w.heap.size + 1, 0, none⟩ (.int .i64 (liveN (catB bs) : Nat))) ⟨w.heap.size + 1, 1, none⟩ (.int .i64 (goneN (catB bs) : Nat))).same D _ hK1 rfl
  refine ⟨by simp, .inl ⟨_, _, rfl, run_takeDeferred hK2, ?_⟩⟩
  obtain ⟨q1, q2⟩ := HC.out
  have R3 := box_set (box_set q1 0 (.int .i64 (liveN (catB bs) : Nat))) 1 (.int .i64 (goneN (catB bs) : Nat))
  have hB3 := (q2.setCell (p := ⟨w.heap.size + 1, 0, none⟩) (by show w.heap.size ≤ w.heap.size + 1; omega) (.int .i64 (liveN (catB bs) : Nat))).setCell (p := ⟨w.heap.size + 1, 1, none⟩) (by show w.heap.size ≤ w.heap.size + 1; omega) (.int .i64 (goneN (catB bs) : Nat))
  generalize (W.setCell ⟨w.heap.size + 1, 0, none⟩ (.int .i64 (liveN (catB bs) : Nat))).setCell ⟨w.heap.size + 1, 1, none⟩ (.int .i64 (goneN (catB bs) : Nat)) = W3 at R3 hB3 hK2 ⊢
  have R4 : (W3.putObj D (.deferred none)).heap[w.heap.size + 1]? = _ := (World.putObj_heap_other (by omega)).trans R3
  exact ⟨_, results_cell_row (fn := Try.f51) (p := 2) rfl _ _ (w.heap.size + 1) 93 _ (0, 0) _ rfl R4 Try.underlying93 rfl infoCnt, rfl, hB3.trans (belowK_b (w := w) (Nat.le_refl _) W3 D _ _ (by omega) hK2 rfl rfl)⟩
 case stop =>
  rintro D c pre W hD hpre ⟨hno, _⟩ hK
  exact hno.elim
-- END whole
theorem cnt_field (a b : Int) (w : World) : (Instr.field 93 (.agg #[.int .i64 a, .int .i64 b]) 0).run Try.prog w = .ok (.int .i64 a) w := by kernel_rfl
set_option maxRecDepth 100000 in
set_option maxHeartbeats 1000000 in
theorem dsize_any (p : Option Addr) (L G : Nat) (w : World) (hL : L ≤ 100000 ∧ G ≤ 100000) (h : Calls Try.prog 51 #[.pointer p] w fun e W' => e = .returned (cntV L G) ∧ Below w.heap.size w W') :
  Calls Try.prog 43 #[.pointer p] w fun e W' => e = .returned (.int .i64 ((L + G : Nat) : Int)) ∧ Below w.heap.size w W' := by
 have hS := fun W => csize_any (L : Int) (G : Int) W (by omega) (by omega)
 have H := Lib.hid h
 clear h hL
 go_enter Try.func43, Try.ntmps43
 go_wp2_with fail
 refine H.out.mono ?_
 rintro e w1 ⟨rfl, hb⟩
 go_wp2_with fail
 refine (hS _).mono ?_
 rintro e w2 ⟨rfl, hb2⟩
 have HB := Lib.hid (hb.trans (hb2.mono hb.size))
 go_wp2
 go_ret
 exact ⟨congrArg (fun z => Ending.returned (.int .i64 z)) (by push_cast; rfl), HB.out⟩
set_option maxRecDepth 100000 in
set_option maxHeartbeats 1000000 in
theorem dlive_any (p : Option Addr) (L G : Nat) (w : World) (h : Calls Try.prog 51 #[.pointer p] w fun e W' => e = .returned (cntV L G) ∧ Below w.heap.size w W') :
  Calls Try.prog 41 #[.pointer p] w fun e W' => e = .returned (.int .i64 (L : Int)) ∧ Below w.heap.size w W' := by
 have H := Lib.hid h
 clear h
 go_enter Try.func41, Try.ntmps41
 go_wp2_with fail
 refine H.out.mono ?_
 rintro e w1 ⟨rfl, hb⟩
 have HB := Lib.hid hb
 have hfd := cnt_field
 go_wp2
 go_ret
 exact ⟨rfl, HB.out⟩
end Go.Proofs.Ytmedickofiielaa

namespace Go.Proofs.Ytmedickofiielaa
open Go.RowKit Go.Shelf
attribute [local go_sem] Oper.semAt_some

theorem run_app_any {P : Program} {w : World} (base : Nat) (t ty e : TypeId) (i : TypeInfo) (z : Value) (sz bytes : Nat) (ht : P.underlying t = some (.slice e)) (hi : P.info? e = some i) (hz : i.zero = some z)
  (hsize : i.size = sz) (hby : i.bytes = bytes) (hzs : z.cells.size = sz) (hsz : 0 < sz) (v : Value) (n : Nat) (xs : List Value) (hown : w.ownsRow base e sz v n xs)
  (u : Value) (m : Nat) (news : List Value) (hr : RowR sz w u m news) (h1 : ∀ u ∈ news, u.oneCell' = true) (h63 : n + m ≤ maxLen) (hbytes : (n + m) * bytes ≤ 140737488355328) (hbase : base ≤ w.heap.size) :
  ∃ v' w', (Builtin.append_ #[t, t] ty #[v, u]).run P w = .ok v' w' ∧ w'.ownsRow base e sz v' (n + m) (xs ++ news) ∧ w.grownBy w' v.ownBlock := by
 obtain ⟨hl, ao, c, rfl, hsrc⟩ := hr
 rcases Nat.eq_zero_or_pos m with h0 | hp
 ·subst h0
  obtain rfl : news = [] := List.eq_nil_of_length_eq_zero (by omega)
  cases ao with
  | none => exact ⟨v, w, run_app_none (P := P) (w := w) base t ty e i sz ht hi v n xs hown c, by simpa using hown, ⟨rfl, rfl, rfl, Nat.le_refl _, fun _ _ _ => rfl⟩⟩
  | some ad =>
   obtain ⟨v', w', a, b, d, _⟩ := run_append_own w base t ty e i z sz bytes ht hi hz hsize hby hzs hsz v n xs hown ad 0 c [] (by simp) (by simp) h1 h63 hbytes hbase
   exact ⟨v', w', a, b, d⟩
 ·obtain ⟨b, off, rfl, hc⟩ := hsrc hp
  obtain ⟨v', w', q1, q2, q3, _⟩ := run_append_own w base t ty e i z sz bytes ht hi hz hsize hby hzs hsz v n xs hown ⟨b, off, none⟩ m c news (by omega) (fun j u hj => by
   have := hc j u hj
   unfold Addr.add
   by_cases h0 : j = 0
   ·subst h0; simpa using this
   ·simpa [h0] using this) h1 h63 hbytes hbase
  exact ⟨v', w', q1, q2, q3⟩
theorem wp_run_append {P : Program} {o : Oper} {a : Act} {w wa : World} {K : Act → World → Prop} {Q : Exit → Act → World → Prop} {s x : Operand} {t : TypeId} {v1 v2 v' : Value} (ho : o.op = .call { callee := .builtin .append, args := #[s, x], argTypes := #[t, t] })
  (hs : a.eval s = v1) (hx : a.eval x = v2) (hr : (Builtin.append_ #[t, t] o.type #[v1, v2]).run P w = .ok v' wa) (h : K (a.put o.dst v') wa) : o.wp P a w K Q := by
 unfold Oper.wp execOp
 simp only [ho, resolve, invoke, builtin, Sem.run_bind, Sem.run_pure, Result.andThen_ok, List.map_toArray, List.map_cons, List.map_nil, hs, hx, hr]
 exact h
theorem infoCellX : (Try.prog.info? 41).map (fun i => (i.zero, i.size, i.bytes)) = some (some (.agg #[.int .i64 0, .int .i64 0, .int .i64 0, .int .i32 0, .bool false]), 5, 32) := by kernel_rfl
theorem infoCellI : ∃ i, Try.prog.info? 41 = some i ∧ i.zero = some (.agg #[.int .i64 0, .int .i64 0, .int .i64 0, .int .i32 0, .bool false]) ∧ i.size = 5 ∧ i.bytes = 32 := by
 have h := infoCellX
 cases hi : Try.prog.info? 41 with
 | none => rw [hi] at h; cases h
 | some i =>
  rw [hi] at h
  simp at h
  exact ⟨i, rfl, h.1, h.2.1, h.2.2⟩
theorem own_turn {W W' : World} {row : Option Nat} {N : Nat} {e : TypeId} {sz : Nat} {v : Value} {n : Nat} {xs : List Value} (h : W.ownsRow N e sz v n xs) (hg : W.grownBy W' row) (hr : ∀ r, row = some r → ∃ o : Obj, W.heap[r]? = some o ∧ o.isCells = false) : W'.ownsRow N e sz v n xs := by
 refine ⟨h.1, ?_⟩
 rcases h.2 with q | ⟨g, cap, cur, q1, q2, q3, q4⟩
 ·exact .inl q
 ·exact .inr ⟨g, cap, cur, q1, q2, row_turn q3 hg hr, q4⟩
theorem own_turnT {W W' : World} {row : Option Nat} {N : Nat} {e : TypeId} {sz : Nat} {v : Value} {n : Nat} {xs : List Value} {T : TypeId → Prop} (h : W.ownsRow N e sz v n xs) (hg : W.grownBy W' row) (hr : ∀ r, row = some r → ∃ o : Obj, W.heap[r]? = some o ∧ (o.isCells = false ∨ ∃ c t fr, o = .cells c t fr ∧ ¬ T t)) (he : T e) : W'.ownsRow N e sz v n xs := by
 refine ⟨h.1, ?_⟩
 rcases h.2 with q | ⟨g, cap, cur, q1, q2, q3, q4⟩
 ·exact .inl q
 ·refine .inr ⟨g, cap, cur, q1, q2, (hg.block g (box_lt q3) fun z => ?_).trans q3, q4⟩
  obtain ⟨o, ho, hc⟩ := hr g z.symm
  rw [q3] at ho
  cases ho
  rcases hc with hc | ⟨c, t, fr, hc, ht⟩
  ·cases hc
  ·cases hc
   exact ht he
theorem own_typed {W : World} {N : Nat} {e : TypeId} {sz : Nat} {v : Value} {n : Nat} {xs : List Value} (h : W.ownsRow N e sz v n xs) (g : Nat) (hg : v.ownBlock = some g) : N ≤ g ∧ ∃ cur, W.heap[g]? = some (.cells cur e (0, 0)) := by
 rcases h.2 with ⟨q, _⟩ | ⟨g', cap, cur, q1, q2, q3, _⟩
 ·rw [q] at hg; cases hg
 ·rw [q1] at hg; cases hg; exact ⟨q2, cur, q3⟩
theorem row_grown {W W' : World} {N : Nat} {e : TypeId} {sz : Nat} {v : Value} {n : Nat} {xs : List Value} {i : Nat} {c : Array Value} {t : TypeId} {fr : Nat × Nat} (h : W.heap[i]? = some (.cells c t fr)) (hg : W.grownBy W' v.ownBlock) (ho : W.ownsRow N e sz v n xs) (ht : t ≠ e) : W'.heap[i]? = some (.cells c t fr) := by
 refine (hg.block i (box_lt h) fun q => ?_).trans h
 obtain ⟨_, cur, hc⟩ := own_typed ho i q.symm
 rw [h] at hc
 cases hc
 exact ht rfl
theorem below_grown {W W' : World} {N : Nat} {e : TypeId} {sz : Nat} {v : Value} {n : Nat} {xs : List Value} {w : World} (hb : Below N w W) (hg : W.grownBy W' v.ownBlock) (ho : W.ownsRow N e sz v n xs) (hn : N ≤ w.heap.size) : Below N w W' :=
 hb.grown hg (Nat.le_trans hn hb.size) fun g q => (own_typed ho g q).1
theorem own_far {W : World} {N : Nat} {e : TypeId} {sz : Nat} {v : Value} {n : Nat} {xs : List Value} {B : Nat} {c : Array Value} {t : TypeId} {fr : Nat × Nat} (h : W.ownsRow N e sz v n xs) (hB : W.heap[B]? = some (.cells c t fr)) (ht : t ≠ e) (o : Nat) (u : Value) : (W.setCell ⟨B, o, none⟩ u).ownsRow N e sz v n xs := by
 refine ⟨h.1, ?_⟩
 rcases h.2 with q | ⟨g, cap, cur, q1, q2, q3, q4⟩
 ·exact .inl q
 ·refine .inr ⟨g, cap, cur, q1, q2, ?_, q4⟩
  refine (box_other (fun e => ?_) o u).trans q3
  subst e
  rw [hB] at q3
  cases q3
  exact ht rfl
end Go.Proofs.Ytmedickofiielaa

namespace Go.Proofs.Ytmedickofiielaa
open Go.RowKit Go.Shelf
attribute [local go_sem] Oper.semAt_some

theorem CAt.take {W : World} {ao : Option Addr} {n cap : Nat} {l : List PCell} (h : CAt W (.slice ao n cap) l) (k : Nat) (hk : k ≤ l.length) : CAt W (.slice ao k cap) (l.take k) := by
 obtain ⟨hl, ao', cap', e, h1, h2, h3, h4⟩ := h
 cases e
 refine ⟨cCells_length _, ao, cap, ?_, ?_, h2, h3, fun ad ha => ?_⟩
 ·rw [List.length_take, Nat.min_eq_left hk]
 ·rw [List.length_take, Nat.min_eq_left hk]; omega
 obtain ⟨b, off, e, hlt, hc⟩ := h4 ad ha
 refine ⟨b, off, e, hlt, fun j u hj => hc j u ?_⟩
 rw [← cCells_take l k hk, List.getElem?_take] at hj
 split at hj
 ·exact hj
 ·cases hj
end Go.Proofs.Ytmedickofiielaa

namespace Go.Proofs.Ytmedickofiielaa
open Go.RowKit Go.Shelf
attribute [local go_sem] Oper.semAt_some

end Go.Proofs.Ytmedickofiielaa

namespace Go.Proofs.Ytmedickofiielaa
open Go.RowKit Go.Shelf
attribute [local go_sem] Oper.semAt_some

end Go.Proofs.Ytmedickofiielaa

namespace Go.Proofs.Ytmedickofiielaa
open Go.RowKit Go.Shelf
attribute [local go_sem] Oper.semAt_some

def posOf (g : Bool) : List PCell → Nat → List Nat
 | [], _ => []
 | c :: r, b => (if c.gone = g then [b] else []) ++ posOf g r (b + 1)
theorem posOf_append (g : Bool) : ∀ (a b : List PCell) (k : Nat), posOf g (a ++ b) k = posOf g a k ++ posOf g b (k + a.length)
 | [], b, k => by simp [posOf]
 | c :: r, b, k => by
  show (if c.gone = g then [k] else []) ++ posOf g (r ++ b) (k + 1) = _
  rw [posOf_append g r b (k + 1), ← List.append_assoc, List.length_cons, show k + 1 + r.length = k + (r.length + 1) by omega]
  rfl
theorem posOf_length (g : Bool) : ∀ (l : List PCell) (k : Nat), (posOf g l k).length = if g then goneN l else liveN l
 | [], k => by cases g <;> rfl
 | c :: r, k => by
  show ((if c.gone = g then [k] else []) ++ posOf g r (k + 1)).length = _
  rw [List.length_append, posOf_length g r (k + 1)]
  unfold goneN liveN
  rw [List.countP_cons, List.countP_cons]
  cases g <;> cases c.gone <;> simp <;> omega
theorem posOf_lt (g : Bool) : ∀ (l : List PCell) (k : Nat), ∀ p ∈ posOf g l k, k ≤ p ∧ p < k + l.length
 | [], k, p, h => by cases h
 | c :: r, k, p, h => by
  rcases List.mem_append.1 h with h | h
  ·split at h
   ·rw [List.mem_singleton.1 h, List.length_cons]; omega
   ·cases h
  ·have := posOf_lt g r (k + 1) p h
   rw [List.length_cons]
   omega
theorem posOf_snoc (g : Bool) {l : List PCell} {j : Nat} {c : PCell} (h : l[j]? = some c) (k : Nat) : posOf g (l.take (j + 1)) k = posOf g (l.take j) k ++ (if c.gone = g then [k + j] else []) := by
 rw [List.take_add_one, h, posOf_append, List.length_take, Nat.min_eq_left (Nat.le_of_lt (List.getElem?_eq_some_iff.1 h).1)]
 simp [posOf]
theorem posOf_take (g : Bool) (l : List PCell) (j k : Nat) : posOf g (l.take j) k <+: posOf g l k := by
 conv => rhs; rw [← List.take_append_drop j l]
 rw [posOf_append]
 exact ⟨_, rfl⟩
def posX (bs : List PB) (g : Bool) (pre : List (Fin bs.length)) : List Nat := pre.flatMap fun x => posOf g bs[x].cs (catB (bs.take x.val)).length
theorem posX_snoc (bs : List PB) (g : Bool) (pre : List (Fin bs.length)) (x : Fin bs.length) : posX bs g (pre ++ [x]) = posX bs g pre ++ posOf g bs[x].cs (catB (bs.take x.val)).length := by simp [posX]
theorem posX_begK (bs : List PB) (g : Bool) : ∀ k, k ≤ bs.length → posX bs g (begK bs k) = posOf g (catB (bs.take k)) 0
 | 0, _ => by simp [posX, begK, catB, posOf]
 | k + 1, h => by
  have hk : k < bs.length := by omega
  rw [begK_next bs k hk, posX_snoc, posX_begK bs g k (by omega), catB_take (List.getElem?_eq_getElem hk), posOf_append, Nat.zero_add]
  rfl
theorem posX_all (bs : List PB) (g : Bool) : posX bs g (begL bs) = posOf g (catB bs) 0 := by
 have := posX_begK bs g bs.length (Nat.le_refl _)
 rw [begK_all, List.take_length] at this
 exact this
theorem posX_pre {bs : List PB} {g : Bool} {pre : List (Fin bs.length)} (h : pre <+: begL bs) : posX bs g pre <+: posOf g (catB bs) 0 := by
 obtain ⟨t, ht⟩ := h
 rw [← posX_all, ← ht]
 exact ⟨posX bs g t, by simp [posX]⟩
theorem posX_le {bs : List PB} {g : Bool} {M : Nat} (hM : ∀ x ∈ bs, x.cs.length ≤ M) (pre : List (Fin bs.length)) : (posX bs g pre).length ≤ pre.length * M := by
 unfold posX
 induction pre with
 | nil => simp
 | cons a r ih =>
  rw [List.flatMap_cons, List.length_append, List.length_cons, Nat.add_mul, posOf_length]
  have h1 := hM bs[a] (List.getElem_mem _)
  have h2 := liveN_gone bs[a].cs
  split <;> omega
def toP (p : Nat) : Fin 1000000 := Fin.ofNat 1000000 p
theorem toP_val {p : Nat} (h : p < 1000000) : (toP p).val = p := Nat.mod_eq_of_lt h
abbrev encPl (x : Fin 1000000) : Array Value := #[.int .i64 (x.val : Int)]
def yl (few : Nat) (q : List Nat) : List (Fin 1000000) := (q.drop few).map toP
theorem yl_few {few : Nat} {q : List Nat} (h : q.length ≤ few) : yl few q = [] := by unfold yl; rw [List.drop_of_length_le h]; rfl
theorem yl_snoc {few : Nat} {q : List Nat} {p : Nat} (h : few ≤ q.length) : yl few (q ++ [p]) = yl few q ++ [toP p] := by
 unfold yl
 rw [List.drop_append_of_le_length h, List.map_append]
 rfl
theorem yl_skip {few : Nat} {q r : List Nat} (h : r.length ≤ few - q.length) : yl few (q ++ r) = yl few q := by
 rcases Nat.lt_or_ge few (q.length + r.length) with g | g
 rotate_left
 ·rw [yl_few (by rw [List.length_append]; exact g), yl_few (by omega)]
 ·obtain rfl : r = [] := List.eq_nil_of_length_eq_zero (by omega)
  rw [List.append_nil]
theorem yl_pre {few : Nat} {p q : List Nat} (h : p <+: q) : yl few p <+: yl few q := by
 obtain ⟨t, rfl⟩ := h
 unfold yl
 rcases Nat.le_total few p.length with g | g
 ·rw [List.drop_append_of_le_length g, List.map_append]
  exact ⟨_, rfl⟩
 ·rw [List.drop_of_length_le g]
  exact ⟨_, rfl⟩
theorem yl_length (few : Nat) (q : List Nat) : (yl few q).length ≤ q.length := by unfold yl; rw [List.length_map, List.length_drop]; omega
theorem roundIn_depth {n n' : Nat} {P : Program} {l : Nat} {f : FuncId} {tmps : Array Value} {assign body : Code} {w : World} {R : Ending → World → Prop} (h : RoundIn Fence.wide n P l f tmps assign body w R) : RoundIn Fence.wide n' P l f tmps assign body w R :=
 ⟨h.1, fun c cs _ => h.2 c cs (room_wide _)⟩
theorem ne_box {W : World} {i k : Nat} {c c' : Array Value} {t t' : TypeId} {fr fr' : Nat × Nat} (h : W.heap[i]? = some (.cells c t fr)) (q : W.heap[k]? = some (.cells c' t' fr')) (ht : t ≠ t') : i ≠ k := by
 intro e
 subst e
 rw [h] at q
 cases q
 exact ht rfl
theorem set_al {w : World} {B : Nat} {u : Value} {o : Obj} (h : B < w.heap.size) : (w.setCell ⟨B, 0, none⟩ u).alloc o = (w.alloc o).setCell ⟨B, 0, none⟩ u := (World.setCell_alloc_past (w := w) o B 0 u h).symm
theorem kf_row {n₀ m₁ : Nat} {W W' : World} {i : Nat} {c : Array Value} {t : TypeId} {fr : Nat × Nat} (h : KF n₀ m₁ W W') (hi : i < n₀ ∨ m₁ ≤ i) (ht : ¬ RowT t) (q : W.heap[i]? = some (.cells c t fr)) : W'.heap[i]? = some (.cells c t fr) := by
 rcases hi with g | g
 ·exact (h.1.block i g).trans q
 ·exact h.2 i c t fr g ht q

set_option maxRecDepth 100000 in
set_option maxHeartbeats 8000000 in
theorem places_stops (Bf Bd Bg n₀ m₁ B : Nat) (bv nm : Value) (bs : List PB) (g : Bool) (few : Nat) (hfew : few ≤ 1000000) (w₀ : World) (h₀ : n₀ = w₀.heap.size) (hR : DocR w₀ B bv nm bs) (w : World) (hb0 : Below n₀ w₀ w) (hm : m₁ ≤ w.heap.size)
  (hBf : w.heap[Bf]? = some (.cells #[.int .i64 (few : Int)] 3 (0, 0))) (hBd : w.heap[Bd]? = some (.cells #[.pointer (some ⟨B, 0, none⟩)] 42 (0, 0))) (hBg : w.heap[Bg]? = some (.cells #[.bool g] 4 (0, 0)))
  (sf : Bf < n₀ ∨ m₁ ≤ Bf) (sd : Bd < n₀ ∨ m₁ ≤ Bd) (sg : Bg < n₀ ∨ m₁ ≤ Bg) :
  SeqStopsO RowT Fence.wide 4 Try.prog 52 #[.pointer (some ⟨Bf, 0, none⟩), .pointer (some ⟨Bd, 0, none⟩), .pointer (some ⟨Bg, 0, none⟩)] encPl (KF n₀ m₁) (fun ys => ys = yl few (posOf g (catB bs) 0)) (fun pre => pre <+: yl few (posOf g (catB bs) 0)) 1000000000000 w := by
 subst h₀
 intro l J Jx W hW hWs hJ hJx hY h0
 have hbeg := fun W => begins_any (some ⟨B, 0, none⟩) W
 have hcs : ∀ x ∈ bs, x.cs.length ≤ 100000 := fun x hx => by
  obtain ⟨k, hk, rfl⟩ := List.mem_iff_getElem.1 hx
  have := catB_le (List.getElem?_eq_getElem hk)
  have := hR.room
  omega
 have hst := fun Bd m₁ W h1 h2 h3 => begins_stops 3 (by decide) Bd m₁ B bv nm bs w₀ hR W h1 h2 h3
 have q1 := row_up hBf hW
 have q2 := row_up hBd hW
 have q3 := row_up hBg hW
 have hbW : Below w₀.heap.size w₀ W := hb0.trans (hW.mono (by have := hb0.size; omega))
 have c1 := box_cell (row_al q1 (.cells #[.func (.yield l) #[] #[]] 62)) 0
 have c2 := row_al (row_al q2 (.cells #[.func (.yield l) #[] #[]] 62)) (.cells #[.int .i64 (few : Int)] 3)
 have c3 := box_cell c2 0
 refine callsIn_of_wp_marks Try.func52 rfl trivial ?_ rfl
 simp only [Try.ntmps52, List.size_toArray, List.length_cons, List.length_nil, Nat.reduceAdd, Nat.reduceSub, Array.replicate_succ, Array.replicate_zero, List.push_toArray, List.append_toArray, List.nil_append, List.cons_append]
 gi_wp2_with (refine ⟨trivial, ?_⟩; gi_at_call 53; refine (callsIn_wide.2 (hbeg _)).mono ?_; rintro e _ ⟨rfl, rfl⟩)
 have A0 := row_al (row_al (heap_new W (.cells #[.func (.yield l) #[] #[]] 62)) (.cells #[.int .i64 (few : Int)] 3)) (.cells #[.pointer (some ⟨B, 0, none⟩)] 42)
 have A1 := row_al (heap_new1 W (.cells #[.func (.yield l) #[] #[]] 62) (.cells #[.int .i64 (few : Int)] 3)) (.cells #[.pointer (some ⟨B, 0, none⟩)] 42)
 have A2 := heap_new2 W (.cells #[.func (.yield l) #[] #[]] 62) (.cells #[.int .i64 (few : Int)] 3) (.cells #[.pointer (some ⟨B, 0, none⟩)] 42)
 have Ad := row_al c2 (.cells #[.pointer (some ⟨B, 0, none⟩)] 42)
 have Ag := row_al (row_al (row_al q3 (.cells #[.func (.yield l) #[] #[]] 62)) (.cells #[.int .i64 (few : Int)] 3)) (.cells #[.pointer (some ⟨B, 0, none⟩)] 42)
 have AK : KF w₀.heap.size m₁ W (((W.alloc (.cells #[.func (.yield l) #[] #[]] 62)).alloc (.cells #[.int .i64 (few : Int)] 3)).alloc (.cells #[.pointer (some ⟨B, 0, none⟩)] 42)) := KF.below (by have := hbW.size; omega) ((((Below.refl _ W).alloc (Nat.le_refl _) _).alloc (by simp) _).alloc (by simp; omega) _)
 have AS : (((W.alloc (.cells #[.func (.yield l) #[] #[]] 62)).alloc (.cells #[.int .i64 (few : Int)] 3)).alloc (.cells #[.pointer (some ⟨B, 0, none⟩)] 42)).heap.size = W.heap.size + 1 + 1 + 1 := by simp
 have AJ : J (yl few []) (((W.alloc (.cells #[.func (.yield l) #[] #[]] 62)).alloc (.cells #[.int .i64 (few : Int)] 3)).alloc (.cells #[.pointer (some ⟨B, 0, none⟩)] 42)) := by
  rw [yl_few (Nat.zero_le _)]
  exact OwnFrom.alloc hJ.from _ (OwnFrom.alloc hJ.from _ (OwnFrom.alloc hJ.from _ h0))
 have AB : Below w₀.heap.size w₀ (((W.alloc (.cells #[.func (.yield l) #[] #[]] 62)).alloc (.cells #[.int .i64 (few : Int)] 3)).alloc (.cells #[.pointer (some ⟨B, 0, none⟩)] 42)) := hbW.trans AK.1
 generalize ((W.alloc (.cells #[.func (.yield l) #[] #[]] 62)).alloc (.cells #[.int .i64 (few : Int)] 3)).alloc (.cells #[.pointer (some ⟨B, 0, none⟩)] 42) = w3 at A0 A1 A2 Ad Ag AK AS AJ AB ⊢
 clear c1 c2 c3 q1 q2 q3
 have hWm : m₁ ≤ W.heap.size := by omega
 have hnW : w₀.heap.size ≤ W.heap.size := by have := hbW.size; omega
 have hst := hst (W.heap.size + 1 + 1) (W.heap.size + 1 + 1) w3 AB A2 (Nat.le_refl _)
 have hroom := hR.room
 have HR := Lib.hid hR
 have HY := Lib.hid hY
 have HJ := Lib.hid (And.intro hJ hJx)
 clear hR hbeg hY hJ hJx
 refine wpIn_rangeFunc_ownG rfl (by decide) (gf := 61) (lb := #[.pointer (some ⟨W.heap.size + 1 + 1, 0, none⟩)]) rfl trivial (enters_of Try.func61 (by kernel_rfl) rfl)
  hst (fun h k => kf_t h k) (kf_b (by omega)) (Below.refl _ _) (fun _ => rfl)
  (fun pre X => (X.heap[W.heap.size]? = some (.cells #[.func (.yield l) #[] #[]] 62 (0, 0)) ∧ X.heap[W.heap.size + 1]? = some (.cells #[.int .i64 ((few - (posX bs g pre).length : Nat) : Int)] 3 (0, 0)) ∧
   X.heap[Bd]? = some (.cells #[.pointer (some ⟨B, 0, none⟩)] 42 (0, 0)) ∧ X.heap[Bg]? = some (.cells #[.bool g] 4 (0, 0))) ∧ J (yl few (posX bs g pre)) X ∧ Below w₀.heap.size w₀ X)
  (fun c pre X => (c = .ret ∧ ∃ q, q <+: posX bs g pre ∧ Jx (yl few q) X))
  (OwnFrom.and (Own.from (fun s A B row hs hg hr => ⟨row_turn hs.1 hg hr, row_turn hs.2.1 hg hr, row_turn hs.2.2.1 hg hr, row_turn hs.2.2.2 hg hr⟩) _) (OwnFrom.and (fun s A B row hs hg hr => (OwnFrom.up HJ.out.1.from (by omega)) _ A B row hs hg hr) (ownFrom_below (by omega) (by omega))))
  (fun c s A B row hs hg hr => ⟨hs.1, by obtain ⟨q, h1, h2⟩ := hs.2; exact ⟨q, h1, (OwnFrom.up HJ.out.2.from (by omega)) _ A B row h2 hg hr⟩⟩)
  ⟨⟨A0, by simpa [posX] using A1, Ad, Ag⟩, by simpa [posX] using AJ, AB⟩
  (fun x => { tmps := #[.func (.yield l) #[] #[], .pointer (some ⟨Bf, 0, none⟩), .pointer (some ⟨Bd, 0, none⟩), .pointer (some ⟨Bg, 0, none⟩), .pointer (some ⟨W.heap.size, 0, none⟩), .pointer (some ⟨W.heap.size + 1, 0, none⟩), .int .i64 (x.val : Int), .int .i64 ((catB (bs.take x.val)).length : Nat), undef, undef, undef, undef, .int .i64 (few : Int), .pointer (some ⟨B, 0, none⟩), .func (.func 61) #[] #[.pointer (some ⟨W.heap.size + 1 + 1, 0, none⟩)], .int .i64 (x.val : Int), .int .i64 ((catB (bs.take x.val)).length : Nat), undef, undef, undef, undef, undef, undef, undef, undef, undef, undef, undef, undef, undef, undef, undef, undef, undef, undef, undef, undef, undef, undef, undef, undef, undef, undef, undef, undef, undef, undef, undef, undef, undef, undef, undef, undef, undef, undef, undef, undef, undef, undef, undef, undef, undef, undef], defers := [] }) ?assign ?body ?done ?stop
 case assign =>
  intro l x W K hK
  gi_wp2
  exact hK
 case body =>
  rintro l' pre x X ⟨⟨a0, a1, a2, a3⟩, hj, hB⟩ hlen
  have hk : bs[x.val]? = some bs[x] := List.getElem?_eq_getElem x.isLt
  have hd := HR.out.below hB
  obtain ⟨gk, off, cp, hbv, d0, d1, d2⟩ := hd.at hk
  have bx := hd.box
  rw [hbv] at bx
  have e2 := box_cell a2 0
  have e4 := box_cell bx 0
  have hi0 : (0 : Int) ≤ (x.val : Int) ∧ (x.val : Int) < (bs.length : Int) := ⟨by omega, by have := x.isLt; omega⟩
  have hcx := hcs bs[x] (List.getElem_mem _)
  have hlg := liveN_gone bs[x].cs
  have hpl := posOf_length g bs[x].cs (catB (bs.take x.val)).length
  have HPS := Lib.hid (posX_snoc bs g pre x)
  have hpx := posX_le (g := g) hcs pre
  have hfw := HR.out.few
  have hle := catB_le hk
  obtain ⟨L, hL⟩ : ∃ L, liveN bs[x].cs = L := ⟨_, rfl⟩
  obtain ⟨G, hG⟩ : ∃ G, goneN bs[x].cs = G := ⟨_, rfl⟩
  obtain ⟨F, hF⟩ : ∃ F, (catB (bs.take x.val)).length = F := ⟨_, rfl⟩
  obtain ⟨Q, hQ⟩ : ∃ Q, posX bs g pre = Q := ⟨_, rfl⟩
  rw [hL] at d0 hlg hpl
  rw [hG] at d1 hlg hpl
  rw [hF] at hpl hle
  rw [hQ] at a1 hj hpx
  rw [hF]
  obtain ⟨M, hM⟩ : ∃ M, (if g then G else L) = M := ⟨_, rfl⟩
  rw [hM] at hpl
  have hMi : (if g then (G : Int) else (L : Int)) = (M : Int) := by rw [← hM]; cases g <;> rfl
  have hof := fun X => cof_any (L : Int) (G : Int) g X
  rw [hMi] at hof
  have HOF := Lib.hid hof
  have HE := Lib.hid (And.intro hL (And.intro hG (And.intro hF (And.intro hQ (And.intro hM hpl)))))
  have HA := Lib.hid (And.intro a0 (And.intro a1 (And.intro a2 (And.intro a3 (And.intro hj hB)))))
  have HD := Lib.hid (And.intro d0 d1)
  have hbz : Q.length ≤ 100000000000 ∧ M ≤ 100000 ∧ F + bs[x].cs.length ≤ 100000 := by
   have h1 : pre.length * 100000 ≤ 100000000000 := by omega
   refine ⟨by omega, ?_, by omega⟩
   rw [← hM]; split <;> omega
  have HZ := Lib.hid hbz
  clear hL hG hF hQ hM hMi hpl hof hlg hcx hpx hfw hle a0 a1 hj hB d0 d1 hbz hd bx hlen
  gi_wp2
  refine region_bridge (ro := some l') (S := fun X => Below w₀.heap.size w₀ X ∧ X.heap[Bg]? = some (.cells #[.bool g] 4 (0, 0))) (by kernel_rfl) (by kernel_rfl) (by rintro ⟨_, _, h⟩; exact h) ⟨HA.out.2.2.2.2.2.drew, a3⟩ (fun hHeld => ?_)
  refine tk0 (i := 0) rfl ?_
  try simp only [td]
  refine tk0 (i := 1) rfl ?_
  try simp only [td]
  refine tk0 (i := 2) rfl ?_
  try simp only [td]
  refine tk (i := 3) (v := ?_) rfl (Or.inl ⟨rfl, ?hy4⟩) ?_
  case hy4 =>
   intro W hS
   have s1 := hS.1
   have s2 := box_cell hS.2 0
   obtain ⟨gk', off', cp', hv', d0', d1', -⟩ := (HR.out.below s1).at hk
   cases hbv.symm.trans hv'
   rw [HE.out.1] at d0'
   rw [HE.out.2.1] at d1'
   go_simp
   try with_reducible rfl
  try simp only [td]
  refine tk (i := 4) (v := ?_) rfl (Or.inl ⟨rfl, ?hy5⟩) ?_
  case hy5 =>
   intro W hS
   have s1 := hS.1
   have s2 := box_cell hS.2 0
   obtain ⟨gk', off', cp', hv', d0', d1', -⟩ := (HR.out.below s1).at hk
   cases hbv.symm.trans hv'
   rw [HE.out.1] at d0'
   rw [HE.out.2.1] at d1'
   go_simp
   try with_reducible rfl
  try simp only [td]
  refine rd 5 rfl fun K hK => ?_
  go_simp
  go_wp2_with (go_at_call 54; refine (HOF.out _).mono ?_; rintro e wq ⟨rfl, hb⟩)
  refine hK.out _ _ (⟨hHeld.1.trans (hb.mono hHeld.1.size), row_up hHeld.2 hb⟩) (fun hX => ?_)
  clear hK K hHeld
  have hHeld := hX
  clear hX
  refine tk0 (i := 6) rfl ?_
  try simp only [td]
  refine wpAnyH_done (by kernel_rfl) ?_ _
  have hgr : X.grownBy wq none := ⟨hb.os, hb.tape, hb.output, hb.size, fun i hi _ => hb.block i hi⟩
  have hX0 := HA.out
  obtain ⟨a0, a1, a2', a3', hj, hB⟩ := hX0
  have b0 := row_up (W := X.drew) a0 hb
  have b1 := row_up (W := X.drew) a1 hb
  have b2 := row_up (W := X.drew) a2 hb
  have b3 := row_up (W := X.drew) a3 hb
  have bj : J (yl few Q) wq := HJ.out.1 _ X wq none hj hgr (fun r e => by cases e)
  have hS3 : w3.heap.size = W.heap.size + 1 + 1 + 1 := AS
  have hYlt := box_lt a1
  have bk : KeepsFrom w3.heap.size X wq := ((KeepsOthers.drew X).trans (others_below hb)).from _
  have bf : KF w₀.heap.size (W.heap.size + 1 + 1) X wq := kf_t (KF.refl _ _ X).drew (KF.below hB.size hb)
  have bB := hHeld.1
  have z1 := box_cell b1 0
  have zf := box_frozen b1 0
  have HB := Lib.hid (And.intro b0 (And.intro b1 (And.intro b2 (And.intro b3 (And.intro bj (And.intro bk (And.intro bf bB)))))))
  clear a0 a1 a2' a3' hj hB hgr hb hHeld b0 b1 b2 b3 bj bk bf bB a2 a3 e2 e4
  obtain ⟨k0, hk0⟩ : ∃ k0, few - Q.length = k0 := ⟨_, rfl⟩
  have HK := Lib.hid hk0
  rw [hk0] at z1
  have hk0b : k0 ≤ 1000000 := by omega
  clear hk0
  have hskip : ∀ (v : Int) (Y : World) (s : List (Fin 1000000)), J s Y → (∃ c, Y.heap[W.heap.size + 1]? = some (.cells c 3 (0, 0))) → J s (Y.setCell ⟨W.heap.size + 1, 0, none⟩ (.int .i64 v)) := fun v Y s h1 ⟨c, h2⟩ => HJ.out.1 s Y _ _ h1 (grownBy_setCell' Y (W.heap.size + 1) (.int .i64 v)) (fun r e => by cases e; exact ⟨by omega, _, h2, .inr ⟨_, _, _, rfl, by unfold RowT; decide⟩⟩)
  have HSK := Lib.hid hskip
  clear hskip
  by_cases hsk : M ≤ k0
  ·have hsk' : (M : Int) ≤ (k0 : Int) := by omega
   have hwr : IntKind.i64.wrap ((k0 : Int) - (M : Int)) = (k0 : Int) - (M : Int) := IntWalk.i64_in _ (by omega)
   gi_wp2
   obtain ⟨b0, b1, b2, b3, bj, bk, bf, bB⟩ := HB.out
   have hQx : posX bs g (pre ++ [x]) = Q ++ posOf g bs[x].cs F := by rw [HPS.out, HE.out.2.2.2.1, HE.out.2.2.1]
   have hlQ : (posOf g bs[x].cs F).length = M := HE.out.2.2.2.2.2
   have hkk := HK.out
   refine ⟨bk.trans ((KeepsOthers.setCell _ _ _).from _), kf_t bf (KF.set (by omega) (by omega)), ⟨(box_other (by omega) 0 _).trans b0, ?_, (box_other (ne_box b2 b1 (by decide)) 0 _).trans b2, (box_other (ne_box b3 b1 (by decide)) 0 _).trans b3⟩, ?_, bB.setCell (p := ⟨W.heap.size + 1, 0, none⟩) (by show w₀.heap.size ≤ W.heap.size + 1; omega) _⟩
   ·rw [hQx, List.length_append, hlQ]
    have := box_set b1 0 (.int .i64 ((k0 : Int) - (M : Int)))
    rw [show ((few - (Q.length + M) : Nat) : Int) = (k0 : Int) - (M : Int) by omega]
    simpa using this
   ·rw [hQx, yl_skip (by rw [hlQ]; omega)]
    exact HSK.out _ _ _ bj ⟨_, b1⟩
  ·have hsk' : ¬ (M : Int) ≤ (k0 : Int) := by omega
   obtain ⟨cao, ccap, hcv, _⟩ := id (HR.out.cells bs[x] (List.getElem_mem _)).shape
   obtain ⟨N, hN⟩ : ∃ N, bs[x].cs.length = N := ⟨_, rfl⟩
   have hdq := HR.out.below HB.out.2.2.2.2.2.2.2
   obtain ⟨gk', off', cp', hv', d0', d1', d2'⟩ := hdq.at hk
   cases hbv.symm.trans hv'
   rw [hcv, hN] at d2'
   have HN := Lib.hid (And.intro hN hcv)
   have hNb := HZ.out.2.2
   rw [hN] at hNb
   have HU := Lib.hid (HR.out.cells bs[x] (List.getElem_mem _))
   clear hdq hv' d0' d1' hN hcv
   gi_wp2
   gi_loopw [40] (fun i wr => ∃ j : Nat, i = .int .i64 j ∧ j ≤ N ∧ RowKit.Hid (wr.heap[W.heap.size]? = some (.cells #[.func (.yield l) #[] #[]] 62 (0, 0)) ∧ wr.heap[W.heap.size + 1]? = some (.cells #[.int .i64 ((few - (Q ++ posOf g (bs[x].cs.take j) F).length : Nat) : Int)] 3 (0, 0)) ∧
    wr.heap[Bd]? = some (.cells #[.pointer (some ⟨B, 0, none⟩)] 42 (0, 0)) ∧ wr.heap[Bg]? = some (.cells #[.bool g] 4 (0, 0)) ∧ J (yl few (Q ++ posOf g (bs[x].cs.take j) F)) wr ∧ KeepsFrom w3.heap.size X wr ∧ KF w₀.heap.size (W.heap.size + 1 + 1) X wr ∧ Below w₀.heap.size w₀ wr)) (fun i _ => N - (intOf i).toNat)
   case atStart => exact ⟨0, rfl, Nat.zero_le _, by simpa [posOf] using HB⟩
   case round =>
    rename World => wr
    obtain ⟨j, rfl, hj, hI⟩ := hrel
    obtain ⟨b0, b1, b2, b3, bj, bk, bf, bB⟩ := hI.out
    rcases Nat.lt_or_ge j N with hlt | hge2
    ·obtain ⟨c, hc⟩ : ∃ c, bs[x].cs[j]? = some c := ⟨_, List.getElem?_eq_getElem (by rw [HN.out.1]; exact hlt)⟩
     obtain ⟨bb, boff, bcap, hv, e0, e1, e2, e3, e4⟩ := (HU.out.below bB).at hc
     have hv2 := HN.out.2.symm.trans hv
     rw [HN.out.1] at hv2
     injection hv2 with hv2 _ hv3
     subst hv2
     have hi1 : (0 : Int) ≤ (j : Int) ∧ (j : Int) < (N : Int) := ⟨by omega, by omega⟩
     have hsn := posOf_snoc g hc F
     obtain ⟨R, hRR⟩ : ∃ R, Q ++ posOf g (bs[x].cs.take j) F = R := ⟨_, rfl⟩
     have hR2 : Q ++ posOf g (bs[x].cs.take (j + 1)) F = R ++ (if c.gone = g then [F + j] else []) := by rw [hsn, ← List.append_assoc, hRR]
     have hRl : R.length ≤ 100000100000 := by
      rw [← hRR, List.length_append, posOf_length]
      have h1 := liveN_gone (bs[x].cs.take j)
      rw [List.length_take] at h1
      have := HZ.out.1
      split <;> omega
     have HR2 := Lib.hid hR2
     rw [hRR] at b1 bj
     obtain ⟨k1, hk1⟩ : ∃ k1, few - R.length = k1 := ⟨_, rfl⟩
     rw [hk1] at b1
     have HK1 := Lib.hid (And.intro hk1 hRl)
     have hk1b : k1 ≤ 1000000 := by omega
     obtain ⟨s, q, f, r, gn⟩ := c
     dsimp only at e0 e1 e2 e3 e4
     have al : ∀ {i : Nat} {o : Obj}, wr.heap[i]? = some o → (wr.alloc (.cells #[.int .i64 s, .int .i64 q, .int .i64 f, .int .i32 r, .bool gn] 41)).heap[i]? = some o := fun h => row_al h _
     have g0 := al b0
     have g1 := al b1
     have g2 := al b2
     have g3 := al b3
     have gj : J (yl few R) (wr.alloc (.cells #[.int .i64 s, .int .i64 q, .int .i64 f, .int .i32 r, .bool gn] 41)) := OwnFrom.alloc HJ.out.1.from _ bj
     have gB := bB.alloc bB.size (.cells #[.int .i64 s, .int .i64 q, .int .i64 f, .int .i32 r, .bool gn] 41)
     have gk2 := bk.trans ((KeepsOthers.alloc wr (.cells #[.int .i64 s, .int .i64 q, .int .i64 f, .int .i32 r, .bool gn] 41)).from w3.heap.size)
     have gf := kf_t bf (KF.alloc bB.size (.cells #[.int .i64 s, .int .i64 q, .int .i64 f, .int .i32 r, .bool gn] 41))
     have hlw := box_lt b1
     have y0 := box_cell g0 0
     have y1 := box_cell g1 0
     have f1 := box_frozen g1 0
     have y3 := box_cell g3 0
     have HG := Lib.hid (And.intro g0 (And.intro g1 (And.intro g2 (And.intro g3 (And.intro gj (And.intro gk2 (And.intro gf gB)))))))
     clear hc hv hv3 hsn hRR hR2 hRl hk1 hI b0 b1 b2 b3 bj bk bf bB al g0 g1 g2 g3 gj gk2 gf gB
     by_cases hg : gn = g
     ·subst hg
      by_cases hz : 0 < k1
      ·have hz' : (0 : Int) < (k1 : Int) := by omega
       have hwr : IntKind.i64.wrap ((k1 : Int) - 1) = (k1 : Int) - 1 := IntWalk.i64_in _ (by omega)
       gi_wp2
       go_roundw
       case rel =>
        obtain ⟨b0, b1, b2, b3, bj, bk, bf, bB⟩ := HG.out
        have hkk := HK1.out.1
        rw [set_al (by omega)]
        refine ⟨j + 1, by go_num, by omega, Lib.hid ⟨(box_other (by omega) 0 _).trans b0, ?_, (box_other (ne_box b2 b1 (by decide)) 0 _).trans b2, (box_other (ne_box b3 b1 (by decide)) 0 _).trans b3, ?_, bk.trans ((KeepsOthers.setCell _ _ _).from _), kf_t bf (KF.set (by omega) (by omega)), bB.setCell (p := ⟨W.heap.size + 1, 0, none⟩) (by show w₀.heap.size ≤ W.heap.size + 1; omega) _⟩⟩
        ·rw [HR2.out, if_pos rfl, List.length_append, List.length_singleton]
         have := box_set b1 0 (.int .i64 ((k1 : Int) - 1))
         rw [show ((few - (R.length + 1) : Nat) : Int) = (k1 : Int) - 1 by omega]
         simpa using this
        ·rw [HR2.out, if_pos rfl, yl_skip (by rw [List.length_singleton]; omega)]
         exact HSK.out _ _ _ bj ⟨_, b1⟩
       case measure => simp [intOf]; omega
      ·obtain rfl : k1 = 0 := by omega
       have hwr : IntKind.i64.wrap ((F : Int) + (j : Int)) = ((F + j : Nat) : Int) := (IntWalk.i64_in _ (by omega)).trans (by push_cast; rfl)
       obtain ⟨fn, tmps, assign, body, hy, hRnd⟩ := HY.out (yl few R) (toP (F + j)) _ HG.out.2.2.2.2.1 (by have := yl_length few R; have := HK1.out.2; omega)
       dsimp only [encPl] at hy
       rw [toP_val (by omega), Int.natCast_add] at hy
       gi_wp2
       try (rw [hy]; gi_wp2)
       refine (roundIn_depth hRnd).mono ?_
       clear hy hRnd
       obtain ⟨b0, b1, b2, b3, -, bk, bf, bB⟩ := HG.out
       rintro e W9 (⟨rfl, j9, k9, o9⟩ | ⟨rfl, j9, o9⟩)
       ·have hm1 : m₁ ≤ W.heap.size := hWm
        have r0 := kf_row k9 (.inr hm1) (by unfold RowT; decide) b0
        have r1 := kf_row k9 (.inr (by omega)) (by unfold RowT; decide) b1
        have r2 := kf_row k9 sd (by unfold RowT; decide) b2
        have r3 := kf_row k9 sg (by unfold RowT; decide) b3
        have HG9 := Lib.hid (And.intro r0 (And.intro r1 (And.intro r2 (And.intro r3 (And.intro (bk.trans ⟨o9.size, fun q o hq => o9.same q o (by omega)⟩) (And.intro (kf_t bf (k9.up (Nat.le_refl _) (by omega))) (bB.trans k9.1)))))))
        clear b0 b1 b2 b3 bk bf bB r0 r1 r2 r3 k9 o9 HG
        gi_wp2
        go_roundw
        case rel =>
         obtain ⟨r0, r1, r2, r3, rk, rf, rB⟩ := HG9.out
         have hyl := yl_snoc (few := few) (q := R) (p := F + j) (by have := HK1.out.1; omega)
         refine ⟨j + 1, by go_num, by omega, Lib.hid ⟨r0, ?_, r2, r3, ?_, rk, rf, rB⟩⟩
         ·rw [HR2.out, if_pos trivial, List.length_append, List.length_singleton, show few - (R.length + 1) = 0 by have := HK1.out.1; omega]
          exact r1
         ·rw [HR2.out, if_pos trivial, hyl]
          exact j9
        case measure => simp [intOf]; omega
       ·have kk := bk.trans (⟨o9.size, fun q o hq => o9.same q o (by omega)⟩ : KeepsFrom w3.heap.size _ W9)
        have HKK := Lib.hid kk
        have hyl := yl_snoc (few := few) (q := R) (p := F + j) (by have := HK1.out.1; omega)
        rw [← hyl] at j9
        have HJ9 := Lib.hid j9
        clear b0 b1 b2 b3 bk bf bB o9 j9 kk hyl
        gi_wp2
        refine ⟨HKK.out, rfl, R ++ [F + j], ?_, HJ9.out⟩
        have e1 : Q ++ posOf gn (bs[x].cs.take (j + 1)) F = R ++ [F + j] := by rw [HR2.out, if_pos trivial]
        rw [HPS.out, HE.out.2.2.2.1, HE.out.2.2.1, ← e1]
        exact (List.prefix_append_right_inj _).2 (posOf_take gn _ _ _)
     ·have hR3 : Q ++ posOf g (bs[x].cs.take (j + 1)) F = R := by rw [HR2.out, if_neg hg, List.append_nil]
      have HR3 := Lib.hid hR3
      have hgn : gn = !g := by revert hg; cases gn <;> cases g <;> simp
      subst hgn
      clear hg hR3 HR2
      have hb1 : (!g == g) = false := by cases g <;> rfl
      have hb2 : (!g != g) = true := by cases g <;> rfl
      gi_wp2
      go_roundw
      case rel =>
       refine ⟨j + 1, by go_num, by omega, ?_⟩
       rw [HR3.out, HK1.out.1]
       exact HG
      case measure => simp [intOf]; omega
    ·obtain rfl : N = j := by omega
     rw [List.take_of_length_le (by rw [HN.out.1]; exact Nat.le_refl _)] at b1 bj
     have hQx : posX bs g (pre ++ [x]) = Q ++ posOf g bs[x].cs F := by rw [HPS.out, HE.out.2.2.2.1, HE.out.2.2.1]
     rw [← hQx] at b1 bj
     have HG := Lib.hid (And.intro b0 (And.intro b1 (And.intro b2 (And.intro b3 (And.intro bj (And.intro bk (And.intro bf bB)))))))
     clear b0 b1 b2 b3 bj bk bf bB hI
     gi_wp2
     obtain ⟨b0, b1, b2, b3, bj, bk, bf, bB⟩ := HG.out
     exact ⟨bk, bf, ⟨b0, b1, b2, b3⟩, bj, bB⟩
 case done =>
  rintro D ys Z hD rfl ⟨-, hj, -⟩ hK
  rw [posX_all] at hj
  have HJZ := Lib.hid (OwnFrom.putObj (HJ.out.1.from) (.deferred none) hj (by omega : W.heap.size ≤ D) hK rfl)
  clear hj
  gi_wp2
  refine ⟨by simp, .inl ⟨_, _, rfl, run_takeDeferred hK, ?_⟩⟩
  exact ⟨_, results_none rfl _ _ _, ⟨_, rfl⟩, .inl ⟨_, rfl, HJZ.out⟩⟩
 case stop =>
  rintro D c pre Z hD hpre ⟨rfl, q, hq, hx⟩ hK
  have HJZ := Lib.hid (OwnFrom.putObj (HJ.out.2.from) (.deferred none) hx (by omega : W.heap.size ≤ D) hK rfl)
  have HQ := Lib.hid (yl_pre (few := few) (hq.trans (posX_pre (g := g) hpre)))
  clear hx hq hpre
  gi_wp2
  refine ⟨by simp, .inl ⟨_, _, rfl, run_takeDeferred hK, ?_⟩⟩
  exact ⟨_, results_none rfl _ _ _, ⟨_, rfl⟩, .inr ⟨_, HQ.out, HJZ.out⟩⟩
end Go.Proofs.Ytmedickofiielaa

namespace Go.Proofs.Ytmedickofiielaa
open Go.RowKit Go.Shelf
attribute [local go_sem] Oper.semAt_some

end Go.Proofs.Ytmedickofiielaa
