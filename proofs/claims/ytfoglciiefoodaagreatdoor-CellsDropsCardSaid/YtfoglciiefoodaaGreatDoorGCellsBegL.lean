/- Texts of this proof, joined. -/
import Derived.Test.YtfoglciiefoodaaGreatDoorGSpansPlain
import Derived.Test.YtfoglciiefoodaaGreatDoorGCellsBlk
import Derived.Test.YtfoglciiefoodaaGreatDoorBridge
import Derived.Test.YtfoglciiefoodaaGreatDoorGReads64
import Derived.Shelf.Spec.SlicesInsertGrow
namespace Go.Proofs.YtfoglciiefoodaaGreatDoor
open Go.RowKit Go.Shelf
attribute [local go_sem] Oper.semAt_some

set_option maxRecDepth 100000 in
set_option maxHeartbeats 4000000 in
theorem begins1_inL (n : Nat) (hn : 1 ≤ n) (l Bd n₀ m₁ B : Nat) (bv nm : Value) (bs : List PB) (w₀ : World) (h₀ : n₀ = w₀.heap.size) (hR : DocR w₀ B bv nm bs) (J Jx : List (Fin bs.length) → World → Prop)
    (hY : ∀ pre x W, J pre W → pre.length < bs.length → pre = begK bs x.val → YieldAt Fence.wide (n - 1) Tryz.prog l (encB bs x) W fun e W' =>
      (e = .returned (.bool true) ∧ J (pre ++ [x]) W' ∧ KF n₀ m₁ W W') ∨ (e = .returned (.bool false) ∧ Jx (pre ++ [x]) W'))
    (W : World) (hb0 : Below n₀ w₀ W) (hJ : AbidesFrom W.heap.size J) (hBd : W.heap[Bd]? = some (.cells #[.pointer (some ⟨B, 0, none⟩)] 26 (0, 0))) (hm : m₁ ≤ Bd) (h0 : J [] W) :
    CallsIn Fence.wide n Tryz.prog 76 #[.func (.yield l) #[] #[], .pointer (some ⟨Bd, 0, none⟩)] W fun e W' => (∃ v, e = .returned v) ∧
      ((∃ ys, ys = begL bs ∧ J ys W') ∨ (∃ pre, pre <+: begL bs ∧ Jx pre W')) := by
  have hRw := fun W' (h : Below n₀ w₀ W') => hR.below (h₀ ▸ h)
  have hS := fun a b W (h1 : -1000000000000000 ≤ a ∧ a ≤ 1000000000000000) (h2 : -1000000000000000 ≤ b ∧ b ≤ 1000000000000000) => csize_any a b W h1 h2
  obtain ⟨ao, cap, hbv, _⟩ := hR.row.2
  subst hbv
  obtain ⟨N, hN⟩ : ∃ N, bs.length = N := ⟨_, rfl⟩
  have hfew := hR.few
  have hroom := hR.room
  rw [hN] at hfew
  have HN := Lib.hid hN
  have b0 := (hRw W hb0).box
  have d0 := box_cell hBd 0
  rw [hN] at b0
  have q0 := box_cell b0 0
  clear b0
  refine callsIn_of_wp Tryz.func76 rfl trivial ?_ rfl
  simp only [Tryz.ntmps76, List.size_toArray, List.length_cons, List.length_nil, Nat.reduceAdd, Nat.reduceSub, Array.replicate_succ, Array.replicate_zero, List.push_toArray, List.append_toArray, List.nil_append, List.cons_append]
  gi_wp2
  clear d0 q0
  have hbd0 : (catB (bs.take 0)).length = 0 := rfl
  gi_loopw [3, 12] (fun fr p wr => ∃ k : Nat, p = .int .i64 k ∧ fr = .int .i64 ((catB (bs.take k)).length : Nat) ∧ k ≤ N ∧ J (begK bs k) wr ∧ Below n₀ w₀ wr ∧ wr.heap[Bd]? = some (.cells #[.pointer (some ⟨B, 0, none⟩)] 26 (0, 0)))
    (fun _ p _ => N - (intOf p).toNat)
  case atStart => exact ⟨0, rfl, rfl, Nat.zero_le _, h0, hb0, hBd⟩
  case round =>
    obtain ⟨k, rfl, rfl, hk, hJs, hbw, hbd⟩ := hrel
    by_cases hlt : k < N
    · obtain ⟨x, hx⟩ : ∃ x, bs[k]? = some x := ⟨_, List.getElem?_eq_getElem (by rw [HN.out]; exact hlt)⟩
      have hkb : k < bs.length := by rw [HN.out]; exact hlt
      have hnx := begK_next bs k hkb
      have hct : (catB (bs.take (k + 1))).length = (catB (bs.take k)).length + x.cs.length := by rw [catB_take hx, List.length_append]
      have hle := catB_le hx
      have hll := liveN_gone x.cs
      have hgrow : ∀ w1, Below wr.heap.size wr w1 → wr.grownBy w1 none := fun w1 hb => ⟨hb.os, hb.tape, hb.output, hb.size, fun i hi _ => hb.block i hi⟩
      obtain ⟨F, hF⟩ : ∃ F, (catB (bs.take k)).length = F := ⟨_, rfl⟩
      rw [hF] at hct hle
      rw [hF]
      obtain ⟨L, hL⟩ : ∃ L, liveN x.cs = L := ⟨_, rfl⟩
      obtain ⟨G, hG⟩ : ∃ G, goneN x.cs = G := ⟨_, rfl⟩
      rw [hL, hG] at hll
      rw [← hll] at hct hle
      have HX := Lib.hid (And.intro hx (And.intro hL hG))
      have Hnx := Lib.hid hnx
      have Hct := Lib.hid hct
      have HJs := Lib.hid hJs
      have HbW := Lib.hid hbw
      have HRw := Lib.hid hRw
      have HR := Lib.hid hR
      have HS := Lib.hid hS
      have Hle := Lib.hid (And.intro hle hroom)
      obtain ⟨fn, tmps, assign, body, hy, hRnd⟩ := hY (begK bs k) ⟨k, hkb⟩ _ hJs (by rw [begK_length _ _ (Nat.le_of_lt hkb)]; exact hkb) rfl
      dsimp only [encB] at hy
      rw [hF] at hy
      clear hnx hct hle hll hgrow hF hL hG hx hRw hR hJs hbw hN hS hroom
      gi_wp2
      try (rw [hy]; gi_wp2)
      refine hRnd.mono ?_
      clear hy hRnd
      rintro e W3 (⟨rfl, hJ3, hk3⟩ | ⟨rfl, hJx3⟩)
      · have hw3 : Below n₀ w₀ W3 := HbW.out.trans hk3.1
        have hbd3 := hk3.2 _ _ _ _ hm (by unfold RowT; decide) hbd
        have hd3 := HRw.out W3 hw3
        obtain ⟨g, off, cp, hv, c0, c1, _⟩ := hd3.at HX.out.1
        rw [HX.out.2.1] at c0
        rw [HX.out.2.2] at c1
        rw [HN.out] at hv
        cases hv
        have e0 := box_cell hbd3 0
        have bx := hd3.box
        rw [HN.out] at bx
        have e1 := box_cell bx 0
        have hi0 : (0 : Int) ≤ (k : Int) ∧ (k : Int) < (N : Int) := ⟨by omega, by omega⟩
        have HW3 := Lib.hid hw3
        have HB3 := Lib.hid hbd3
        have HJ3 := Lib.hid hJ3
        clear hw3 hbd3 hd3 bx hJ3 hk3 hbd
        have hLG := Hle.out
        have hs1 : IntKind.i64.wrap ((F : Int) + ((L : Int) + (G : Int))) = (F : Int) + ((L : Int) + (G : Int)) := IntWalk.i64_in _ (by omega)
        have hS' := HS.out (L : Int) (G : Int) W3 (by omega) (by omega)
        clear hLG
        gi_wp2_with (refine ⟨trivial, ?_⟩; gi_at_call 47; refine (callsIn_wide.2 hS').mono ?_; clear hS'; rintro e W4 ⟨rfl, hb4⟩)
        go_roundw
        case rel =>
          refine ⟨k + 1, by go_num, ?_, by omega, ?_, HW3.out.trans (hb4.mono (by have := HW3.out.size; omega)), ?_⟩
          · rw [Hct.out]
            exact congrArg (Value.int .i64) (by push_cast; rfl)
          · rw [Hnx.out]
            exact hJ _ W3 _ none HJ3.out ⟨hb4.os, hb4.tape, hb4.output, hb4.size, fun i hi _ => hb4.block i hi⟩ (fun r e => by cases e)
          · exact (hb4.block _ (box_lt HB3.out)).trans HB3.out
        case measure => simp [intOf]; omega
      · gi_wp2
        refine bodyPost_ret (results_none rfl _ _ _) rfl ?_
        refine ⟨⟨_, rfl⟩, .inr ⟨_, ?_, hJx3⟩⟩
        rw [← Hnx.out]
        exact begK_pre bs (k + 1)
    · obtain rfl : k = N := by omega
      have hall : begK bs k = begL bs := by rw [← HN.out]; exact begK_all bs
      rw [hall] at hJs
      gi_wp2
      go_end0
      exact ⟨⟨_, rfl⟩, .inl ⟨_, rfl, hJs⟩⟩

theorem begins_stopsL (n : Nat) (hn : 1 ≤ n) (Bd m₁ B : Nat) (bv nm : Value) (bs : List PB) (w₀ : World) (hR : DocR w₀ B bv nm bs) (w : World) (hb0 : Below w₀.heap.size w₀ w) (hBd : w.heap[Bd]? = some (.cells #[.pointer (some ⟨B, 0, none⟩)] 26 (0, 0))) (hm : m₁ ≤ Bd) :
    SeqStopsL RowT Fence.wide n Tryz.prog 76 #[.pointer (some ⟨Bd, 0, none⟩)] (encB bs) (KF w₀.heap.size m₁) (fun ys => ys = begL bs) (fun pre => pre <+: begL bs) bs.length (fun pre x => pre = begK bs x.val) w := fun l J Jx W hW hW2 hJ _ hY h0 =>
  begins1_inL n hn l Bd w₀.heap.size m₁ B bv nm bs w₀ rfl hR J Jx (fun pre x W1 h1 h2 h3 => by
    obtain ⟨fn, tmps, assign, body, hy, hr⟩ := hY pre x W1 h1 h2 h3
    exact ⟨fn, tmps, assign, body, hy, hr.mono fun e W' h => h.elim (fun q => .inl ⟨q.1, q.2.1, q.2.2.1⟩) (fun q => .inr ⟨q.1, q.2.1⟩)⟩) W (hb0.trans (hW.mono hb0.size)) (fun s A C row hs hg hr => hJ s A C row hs hg (fun r e => by obtain ⟨q1, o, q2, q3⟩ := hr r e; exact ⟨q1, o, q2, .inl (Obj.not_cells_of_walk q3)⟩)) ((hW.block _ (box_lt hBd)).trans hBd) hm h0
end Go.Proofs.YtfoglciiefoodaaGreatDoor

namespace Go.Proofs.YtfoglciiefoodaaGreatDoor
open Go.RowKit Go.Shelf
attribute [local go_sem] Oper.semAt_some

def posOf (g : Bool) : List PCell → Nat → List Nat
  | [], _ => []
  | c :: r, b => (if c.gone = g then [b] else []) ++ posOf g r (b + 1)
theorem posOf_append (g : Bool) : ∀ (a b : List PCell) (k : Nat), posOf g (a ++ b) k = posOf g a k ++ posOf g b (k + a.length)
  | [], b, k => by simp [posOf]
  | c :: r, b, k => by
    show (if c.gone = g then [k] else []) ++ posOf g (r ++ b) (k + 1) = _
    rw [posOf_append g r b (k + 1), ← List.append_assoc, List.length_cons, show k + 1 + r.length = k + (r.length + 1) by omega]
    rfl
theorem posOf_length (g : Bool) : ∀ (l : List PCell) (k : Nat), (posOf g l k).length = if g then goneN l else liveN l
  | [], k => by cases g <;> rfl
  | c :: r, k => by
    show ((if c.gone = g then [k] else []) ++ posOf g r (k + 1)).length = _
    rw [List.length_append, posOf_length g r (k + 1)]
    unfold goneN liveN
    rw [List.countP_cons, List.countP_cons]
    cases g <;> cases c.gone <;> simp <;> omega
theorem posOf_lt (g : Bool) : ∀ (l : List PCell) (k : Nat), ∀ p ∈ posOf g l k, k ≤ p ∧ p < k + l.length
  | [], k, p, h => by cases h
  | c :: r, k, p, h => by
    rcases List.mem_append.1 h with h | h
    · split at h
      · rw [List.mem_singleton.1 h, List.length_cons]; omega
      · cases h
    · have := posOf_lt g r (k + 1) p h
      rw [List.length_cons]
      omega
theorem posOf_snoc (g : Bool) {l : List PCell} {j : Nat} {c : PCell} (h : l[j]? = some c) (k : Nat) : posOf g (l.take (j + 1)) k = posOf g (l.take j) k ++ (if c.gone = g then [k + j] else []) := by
  rw [List.take_add_one, h, posOf_append, List.length_take, Nat.min_eq_left (Nat.le_of_lt (List.getElem?_eq_some_iff.1 h).1)]
  simp [posOf]
theorem posOf_take (g : Bool) (l : List PCell) (j k : Nat) : posOf g (l.take j) k <+: posOf g l k := by
  conv => rhs; rw [← List.take_append_drop j l]
  rw [posOf_append]
  exact ⟨_, rfl⟩
def posX (bs : List PB) (g : Bool) (pre : List (Fin bs.length)) : List Nat := pre.flatMap fun x => posOf g bs[x].cs (catB (bs.take x.val)).length
theorem posX_snoc (bs : List PB) (g : Bool) (pre : List (Fin bs.length)) (x : Fin bs.length) : posX bs g (pre ++ [x]) = posX bs g pre ++ posOf g bs[x].cs (catB (bs.take x.val)).length := by simp [posX]
theorem posX_begK (bs : List PB) (g : Bool) : ∀ k, k ≤ bs.length → posX bs g (begK bs k) = posOf g (catB (bs.take k)) 0
  | 0, _ => by simp [posX, begK, catB, posOf]
  | k + 1, h => by
    have hk : k < bs.length := by omega
    rw [begK_next bs k hk, posX_snoc, posX_begK bs g k (by omega), catB_take (List.getElem?_eq_getElem hk), posOf_append, Nat.zero_add]
    rfl
theorem posX_all (bs : List PB) (g : Bool) : posX bs g (begL bs) = posOf g (catB bs) 0 := by
  have := posX_begK bs g bs.length (Nat.le_refl _)
  rw [begK_all, List.take_length] at this
  exact this
theorem posX_pre {bs : List PB} {g : Bool} {pre : List (Fin bs.length)} (h : pre <+: begL bs) : posX bs g pre <+: posOf g (catB bs) 0 := by
  obtain ⟨t, ht⟩ := h
  rw [← posX_all, ← ht]
  exact ⟨posX bs g t, by simp [posX]⟩
theorem posX_le {bs : List PB} {g : Bool} {M : Nat} (hM : ∀ x ∈ bs, x.cs.length ≤ M) (pre : List (Fin bs.length)) : (posX bs g pre).length ≤ pre.length * M := by
  unfold posX
  induction pre with
  | nil => simp
  | cons a r ih =>
    rw [List.flatMap_cons, List.length_append, List.length_cons, Nat.add_mul, posOf_length]
    have h1 := hM bs[a] (List.getElem_mem _)
    have h2 := liveN_gone bs[a].cs
    split <;> omega
def toP (p : Nat) : Fin 1000000 := Fin.ofNat 1000000 p
theorem toP_val {p : Nat} (h : p < 1000000) : (toP p).val = p := Nat.mod_eq_of_lt h
abbrev encPl (x : Fin 1000000) : Array Value := #[.int .i64 (x.val : Int)]
def yl (few : Nat) (q : List Nat) : List (Fin 1000000) := (q.drop few).map toP
theorem yl_few {few : Nat} {q : List Nat} (h : q.length ≤ few) : yl few q = [] := by unfold yl; rw [List.drop_of_length_le h]; rfl
theorem yl_snoc {few : Nat} {q : List Nat} {p : Nat} (h : few ≤ q.length) : yl few (q ++ [p]) = yl few q ++ [toP p] := by
  unfold yl
  rw [List.drop_append_of_le_length h, List.map_append]
  rfl
theorem yl_skip {few : Nat} {q r : List Nat} (h : r.length ≤ few - q.length) : yl few (q ++ r) = yl few q := by
  rcases Nat.lt_or_ge few (q.length + r.length) with g | g
  rotate_left
  · rw [yl_few (by rw [List.length_append]; exact g), yl_few (by omega)]
  · obtain rfl : r = [] := List.eq_nil_of_length_eq_zero (by omega)
    rw [List.append_nil]
theorem yl_pre {few : Nat} {p q : List Nat} (h : p <+: q) : yl few p <+: yl few q := by
  obtain ⟨t, rfl⟩ := h
  unfold yl
  rcases Nat.le_total few p.length with g | g
  · rw [List.drop_append_of_le_length g, List.map_append]
    exact ⟨_, rfl⟩
  · rw [List.drop_of_length_le g]
    exact ⟨_, rfl⟩
theorem yl_length (few : Nat) (q : List Nat) : (yl few q).length ≤ q.length := by unfold yl; rw [List.length_map, List.length_drop]; omega
theorem roundIn_depth {n n' : Nat} {P : Program} {l : Nat} {f : FuncId} {tmps : Array Value} {assign body : Code} {w : World} {R : Ending → World → Prop} (h : RoundIn Fence.wide n P l f tmps assign body w R) : RoundIn Fence.wide n' P l f tmps assign body w R :=
  ⟨h.1, fun c cs _ => h.2 c cs (room_wide _)⟩
theorem ne_box {W : World} {i k : Nat} {c c' : Array Value} {t t' : TypeId} {fr fr' : Nat × Nat} (h : W.heap[i]? = some (.cells c t fr)) (q : W.heap[k]? = some (.cells c' t' fr')) (ht : t ≠ t') : i ≠ k := by
  intro e
  subst e
  rw [h] at q
  cases q
  exact ht rfl
theorem set_al {w : World} {B : Nat} {u : Value} {o : Obj} (h : B < w.heap.size) : (w.setCell ⟨B, 0, none⟩ u).alloc o = (w.alloc o).setCell ⟨B, 0, none⟩ u := (World.setCell_alloc_past (w := w) o B 0 u h).symm
theorem kf_row {n₀ m₁ : Nat} {W W' : World} {i : Nat} {c : Array Value} {t : TypeId} {fr : Nat × Nat} (h : KF n₀ m₁ W W') (hi : i < n₀ ∨ m₁ ≤ i) (ht : ¬ RowT t) (q : W.heap[i]? = some (.cells c t fr)) : W'.heap[i]? = some (.cells c t fr) := by
  rcases hi with g | g
  · exact (h.1.block i g).trans q
  · exact h.2 i c t fr g ht q

set_option maxRecDepth 100000 in
set_option maxHeartbeats 8000000 in
theorem places_stops (Bf Bd Bg n₀ m₁ B : Nat) (bv nm : Value) (bs : List PB) (g : Bool) (few : Nat) (hfew : few ≤ 1000000) (w₀ : World) (h₀ : n₀ = w₀.heap.size) (hR : DocR w₀ B bv nm bs) (w : World) (hb0 : Below n₀ w₀ w) (hm : m₁ ≤ w.heap.size)
    (hBf : w.heap[Bf]? = some (.cells #[.int .i64 (few : Int)] 3 (0, 0))) (hBd : w.heap[Bd]? = some (.cells #[.pointer (some ⟨B, 0, none⟩)] 26 (0, 0))) (hBg : w.heap[Bg]? = some (.cells #[.bool g] 4 (0, 0)))
    (sf : Bf < n₀ ∨ m₁ ≤ Bf) (sd : Bd < n₀ ∨ m₁ ≤ Bd) (sg : Bg < n₀ ∨ m₁ ≤ Bg) :
    SeqStopsO RowT Fence.wide 4 Tryz.prog 81 #[.pointer (some ⟨Bf, 0, none⟩), .pointer (some ⟨Bd, 0, none⟩), .pointer (some ⟨Bg, 0, none⟩)] encPl (KF n₀ m₁) (fun ys => ys = yl few (posOf g (catB bs) 0)) (fun pre => pre <+: yl few (posOf g (catB bs) 0)) 1000000000000 w := by
  subst h₀
  intro l J Jx W hW hWs hJ hJx hY h0
  have hbeg := fun W => begins_any (some ⟨B, 0, none⟩) W
  have hcs : ∀ x ∈ bs, x.cs.length ≤ 100000 := fun x hx => by
    obtain ⟨k, hk, rfl⟩ := List.mem_iff_getElem.1 hx
    have := catB_le (List.getElem?_eq_getElem hk)
    have := hR.room
    omega
  have hst := fun Bd m₁ W h1 h2 h3 => begins_stops 3 (by decide) Bd m₁ B bv nm bs w₀ hR W h1 h2 h3
  have q1 := row_up hBf hW
  have q2 := row_up hBd hW
  have q3 := row_up hBg hW
  have hbW : Below w₀.heap.size w₀ W := hb0.trans (hW.mono (by have := hb0.size; omega))
  have c1 := box_cell (row_al q1 (.cells #[.func (.yield l) #[] #[]] 110)) 0
  have c2 := row_al (row_al q2 (.cells #[.func (.yield l) #[] #[]] 110)) (.cells #[.int .i64 (few : Int)] 3)
  have c3 := box_cell c2 0
  refine callsIn_of_wp_marks Tryz.func81 rfl trivial ?_ rfl
  simp only [Tryz.ntmps81, List.size_toArray, List.length_cons, List.length_nil, Nat.reduceAdd, Nat.reduceSub, Array.replicate_succ, Array.replicate_zero, List.push_toArray, List.append_toArray, List.nil_append, List.cons_append]
  gi_wp2_with (refine ⟨trivial, ?_⟩; gi_at_call 48; refine (callsIn_wide.2 (hbeg _)).mono ?_; rintro e _ ⟨rfl, rfl⟩)
  have A0 := row_al (row_al (heap_new W (.cells #[.func (.yield l) #[] #[]] 110)) (.cells #[.int .i64 (few : Int)] 3)) (.cells #[.pointer (some ⟨B, 0, none⟩)] 26)
  have A1 := row_al (heap_new1 W (.cells #[.func (.yield l) #[] #[]] 110) (.cells #[.int .i64 (few : Int)] 3)) (.cells #[.pointer (some ⟨B, 0, none⟩)] 26)
  have A2 := heap_new2 W (.cells #[.func (.yield l) #[] #[]] 110) (.cells #[.int .i64 (few : Int)] 3) (.cells #[.pointer (some ⟨B, 0, none⟩)] 26)
  have Ad := row_al c2 (.cells #[.pointer (some ⟨B, 0, none⟩)] 26)
  have Ag := row_al (row_al (row_al q3 (.cells #[.func (.yield l) #[] #[]] 110)) (.cells #[.int .i64 (few : Int)] 3)) (.cells #[.pointer (some ⟨B, 0, none⟩)] 26)
  have AK : KF w₀.heap.size m₁ W (((W.alloc (.cells #[.func (.yield l) #[] #[]] 110)).alloc (.cells #[.int .i64 (few : Int)] 3)).alloc (.cells #[.pointer (some ⟨B, 0, none⟩)] 26)) := KF.below (by have := hbW.size; omega) ((((Below.refl _ W).alloc (Nat.le_refl _) _).alloc (by simp) _).alloc (by simp; omega) _)
  have AS : (((W.alloc (.cells #[.func (.yield l) #[] #[]] 110)).alloc (.cells #[.int .i64 (few : Int)] 3)).alloc (.cells #[.pointer (some ⟨B, 0, none⟩)] 26)).heap.size = W.heap.size + 1 + 1 + 1 := by simp
  have AJ : J (yl few []) (((W.alloc (.cells #[.func (.yield l) #[] #[]] 110)).alloc (.cells #[.int .i64 (few : Int)] 3)).alloc (.cells #[.pointer (some ⟨B, 0, none⟩)] 26)) := by
    rw [yl_few (Nat.zero_le _)]
    exact OwnFrom.alloc hJ.from _ (OwnFrom.alloc hJ.from _ (OwnFrom.alloc hJ.from _ h0))
  have AB : Below w₀.heap.size w₀ (((W.alloc (.cells #[.func (.yield l) #[] #[]] 110)).alloc (.cells #[.int .i64 (few : Int)] 3)).alloc (.cells #[.pointer (some ⟨B, 0, none⟩)] 26)) := hbW.trans AK.1
  generalize ((W.alloc (.cells #[.func (.yield l) #[] #[]] 110)).alloc (.cells #[.int .i64 (few : Int)] 3)).alloc (.cells #[.pointer (some ⟨B, 0, none⟩)] 26) = w3 at A0 A1 A2 Ad Ag AK AS AJ AB ⊢
  clear c1 c2 c3 q1 q2 q3
  have hWm : m₁ ≤ W.heap.size := by omega
  have hnW : w₀.heap.size ≤ W.heap.size := by have := hbW.size; omega
  have hst := hst (W.heap.size + 1 + 1) (W.heap.size + 1 + 1) w3 AB A2 (Nat.le_refl _)
  have hroom := hR.room
  have HR := Lib.hid hR
  have HY := Lib.hid hY
  have HJ := Lib.hid (And.intro hJ hJx)
  clear hR hbeg hY hJ hJx
  refine wpIn_rangeFunc_ownG rfl (by decide) (gf := 76) (lb := #[.pointer (some ⟨W.heap.size + 1 + 1, 0, none⟩)]) rfl trivial (enters_of Tryz.func76 (by kernel_rfl) rfl)
    hst (fun h k => kf_t h k) (kf_b (by omega)) (Below.refl _ _) (fun _ => rfl)
    (fun pre X => (X.heap[W.heap.size]? = some (.cells #[.func (.yield l) #[] #[]] 110 (0, 0)) ∧ X.heap[W.heap.size + 1]? = some (.cells #[.int .i64 ((few - (posX bs g pre).length : Nat) : Int)] 3 (0, 0)) ∧
      X.heap[Bd]? = some (.cells #[.pointer (some ⟨B, 0, none⟩)] 26 (0, 0)) ∧ X.heap[Bg]? = some (.cells #[.bool g] 4 (0, 0))) ∧ J (yl few (posX bs g pre)) X ∧ Below w₀.heap.size w₀ X)
    (fun c pre X => (c = .ret ∧ ∃ q, q <+: posX bs g pre ∧ Jx (yl few q) X))
    (OwnFrom.and (Own.from (fun s A B row hs hg hr => ⟨row_turn hs.1 hg hr, row_turn hs.2.1 hg hr, row_turn hs.2.2.1 hg hr, row_turn hs.2.2.2 hg hr⟩) _) (OwnFrom.and (fun s A B row hs hg hr => (OwnFrom.up HJ.out.1.from (by omega)) _ A B row hs hg hr) (ownFrom_below (by omega) (by omega))))
    (fun c s A B row hs hg hr => ⟨hs.1, by obtain ⟨q, h1, h2⟩ := hs.2; exact ⟨q, h1, (OwnFrom.up HJ.out.2.from (by omega)) _ A B row h2 hg hr⟩⟩)
    ⟨⟨A0, by simpa [posX] using A1, Ad, Ag⟩, by simpa [posX] using AJ, AB⟩
    (fun x => { tmps := #[.func (.yield l) #[] #[], .pointer (some ⟨Bf, 0, none⟩), .pointer (some ⟨Bd, 0, none⟩), .pointer (some ⟨Bg, 0, none⟩), .pointer (some ⟨W.heap.size, 0, none⟩), .pointer (some ⟨W.heap.size + 1, 0, none⟩), .int .i64 (x.val : Int), .int .i64 ((catB (bs.take x.val)).length : Nat), undef, undef, undef, undef, .int .i64 (few : Int), .pointer (some ⟨B, 0, none⟩), .func (.func 76) #[] #[.pointer (some ⟨W.heap.size + 1 + 1, 0, none⟩)], .int .i64 (x.val : Int), .int .i64 ((catB (bs.take x.val)).length : Nat), undef, undef, undef, undef, undef, undef, undef, undef, undef, undef, undef, undef, undef, undef, undef, undef, undef, undef, undef, undef, undef, undef, undef, undef, undef, undef, undef, undef, undef, undef, undef, undef, undef, undef, undef, undef, undef, undef, undef, undef, undef, undef, undef, undef, undef, undef], defers := [] }) ?assign ?body ?done ?stop
  case assign =>
    intro l x W K hK
    gi_wp2
    exact hK
  case body =>
    rintro l' pre x X ⟨⟨a0, a1, a2, a3⟩, hj, hB⟩ hlen
    have hk : bs[x.val]? = some bs[x] := List.getElem?_eq_getElem x.isLt
    have hd := HR.out.below hB
    obtain ⟨gk, off, cp, hbv, d0, d1, d2⟩ := hd.at hk
    have bx := hd.box
    rw [hbv] at bx
    have e2 := box_cell a2 0
    have e4 := box_cell bx 0
    have hi0 : (0 : Int) ≤ (x.val : Int) ∧ (x.val : Int) < (bs.length : Int) := ⟨by omega, by have := x.isLt; omega⟩
    have hcx := hcs bs[x] (List.getElem_mem _)
    have hlg := liveN_gone bs[x].cs
    have hpl := posOf_length g bs[x].cs (catB (bs.take x.val)).length
    have HPS := Lib.hid (posX_snoc bs g pre x)
    have hpx := posX_le (g := g) hcs pre
    have hfw := HR.out.few
    have hle := catB_le hk
    obtain ⟨L, hL⟩ : ∃ L, liveN bs[x].cs = L := ⟨_, rfl⟩
    obtain ⟨G, hG⟩ : ∃ G, goneN bs[x].cs = G := ⟨_, rfl⟩
    obtain ⟨F, hF⟩ : ∃ F, (catB (bs.take x.val)).length = F := ⟨_, rfl⟩
    obtain ⟨Q, hQ⟩ : ∃ Q, posX bs g pre = Q := ⟨_, rfl⟩
    rw [hL] at d0 hlg hpl
    rw [hG] at d1 hlg hpl
    rw [hF] at hpl hle
    rw [hQ] at a1 hj hpx
    rw [hF]
    obtain ⟨M, hM⟩ : ∃ M, (if g then G else L) = M := ⟨_, rfl⟩
    rw [hM] at hpl
    have hMi : (if g then (G : Int) else (L : Int)) = (M : Int) := by rw [← hM]; cases g <;> rfl
    have hof := fun X => cof_any (L : Int) (G : Int) g X
    rw [hMi] at hof
    have HOF := Lib.hid hof
    have HE := Lib.hid (And.intro hL (And.intro hG (And.intro hF (And.intro hQ (And.intro hM hpl)))))
    have HA := Lib.hid (And.intro a0 (And.intro a1 (And.intro a2 (And.intro a3 (And.intro hj hB)))))
    have HD := Lib.hid (And.intro d0 d1)
    have hbz : Q.length ≤ 100000000000 ∧ M ≤ 100000 ∧ F + bs[x].cs.length ≤ 100000 := by
      have h1 : pre.length * 100000 ≤ 100000000000 := by omega
      refine ⟨by omega, ?_, by omega⟩
      rw [← hM]; split <;> omega
    have HZ := Lib.hid hbz
    clear hL hG hF hQ hM hMi hpl hof hlg hcx hpx hfw hle a0 a1 hj hB d0 d1 hbz hd bx hlen
    gi_wp2
    refine region_bridge (ro := some l') (S := fun X => Below w₀.heap.size w₀ X ∧ X.heap[Bg]? = some (.cells #[.bool g] 4 (0, 0))) (by kernel_rfl) (by kernel_rfl) (by rintro ⟨_, _, h⟩; exact h) ⟨HA.out.2.2.2.2.2.drew, a3⟩ (fun hHeld => ?_)
    refine wpAnyH_take (i := 0) (v := ?_) rfl (by kernel_rfl) (by kernel_rfl) (by kernel_rfl) (fun _ _ _ h => h) (Or.inl ⟨rfl, ?hy1⟩) (by assumption) ?_
    case hy1 =>
      intro W hS
      go_simp
      try with_reducible rfl
    try simp only [Act.put, List.getElem_toArray, List.getElem_cons_zero, List.setIfInBounds_toArray, List.set_cons_zero, List.set_cons_succ]
    refine wpAnyH_take (i := 1) (v := ?_) rfl (by kernel_rfl) (by kernel_rfl) (by kernel_rfl) (fun _ _ _ h => h) (Or.inl ⟨rfl, ?hy2⟩) (by assumption) ?_
    case hy2 =>
      intro W hS
      go_simp
      try with_reducible rfl
    try simp only [Act.put, List.getElem_toArray, List.getElem_cons_succ, List.getElem_cons_zero, List.setIfInBounds_toArray, List.set_cons_zero, List.set_cons_succ]
    refine wpAnyH_take (i := 2) (v := ?_) rfl (by kernel_rfl) (by kernel_rfl) (by kernel_rfl) (fun _ _ _ h => h) (Or.inl ⟨rfl, ?hy3⟩) (by assumption) ?_
    case hy3 =>
      intro W hS
      go_simp
      try with_reducible rfl
    try simp only [Act.put, List.getElem_toArray, List.getElem_cons_succ, List.getElem_cons_zero, List.setIfInBounds_toArray, List.set_cons_zero, List.set_cons_succ]
    refine wpAnyH_take (i := 3) (v := ?_) rfl (by kernel_rfl) (by kernel_rfl) (by kernel_rfl) (fun _ _ _ h => h) (Or.inl ⟨rfl, ?hy4⟩) (by assumption) ?_
    case hy4 =>
      intro W hS
      have s1 := hS.1
      have s2 := box_cell hS.2 0
      obtain ⟨gk', off', cp', hv', d0', d1', -⟩ := (HR.out.below s1).at hk
      cases hbv.symm.trans hv'
      rw [HE.out.1] at d0'
      rw [HE.out.2.1] at d1'
      go_simp
      try with_reducible rfl
    try simp only [Act.put, List.getElem_toArray, List.getElem_cons_succ, List.getElem_cons_zero, List.setIfInBounds_toArray, List.set_cons_zero, List.set_cons_succ]
    refine wpAnyH_take (i := 4) (v := ?_) rfl (by kernel_rfl) (by kernel_rfl) (by kernel_rfl) (fun _ _ _ h => h) (Or.inl ⟨rfl, ?hy5⟩) (by assumption) ?_
    case hy5 =>
      intro W hS
      have s1 := hS.1
      have s2 := box_cell hS.2 0
      obtain ⟨gk', off', cp', hv', d0', d1', -⟩ := (HR.out.below s1).at hk
      cases hbv.symm.trans hv'
      rw [HE.out.1] at d0'
      rw [HE.out.2.1] at d1'
      go_simp
      try with_reducible rfl
    try simp only [Act.put, List.getElem_toArray, List.getElem_cons_succ, List.getElem_cons_zero, List.setIfInBounds_toArray, List.set_cons_zero, List.set_cons_succ]
    refine wpAnyH_ready (rs := [5]) (by kernel_rfl) (by simp) (AllReadyH.cons rfl (fun K hK => ?_) AllReadyH.nil)
    go_simp
    go_wp2_with (go_at_call 82; refine (HOF.out _).mono ?_; rintro e wq ⟨rfl, hb⟩)
    refine hK.out _ _ (⟨hHeld.1.trans (hb.mono hHeld.1.size), row_up hHeld.2 hb⟩) (fun hX => ?_)
    clear hK K hHeld
    have hHeld := hX
    clear hX
    refine wpAnyH_take (i := 6) (v := ?_) rfl (by kernel_rfl) (by kernel_rfl) (by kernel_rfl) (fun _ _ _ h => h) (Or.inl ⟨rfl, ?hy6⟩) (by assumption) ?_
    case hy6 =>
      intro W hS
      go_simp
      try with_reducible rfl
    try simp only [Act.put, List.getElem_toArray, List.getElem_cons_succ, List.getElem_cons_zero, List.setIfInBounds_toArray, List.set_cons_zero, List.set_cons_succ]
    refine wpAnyH_done (by kernel_rfl) ?_ _
    have hgr : X.grownBy wq none := ⟨hb.os, hb.tape, hb.output, hb.size, fun i hi _ => hb.block i hi⟩
    have hX0 := HA.out
    obtain ⟨a0, a1, a2', a3', hj, hB⟩ := hX0
    have b0 := row_up (W := X.drew) a0 hb
    have b1 := row_up (W := X.drew) a1 hb
    have b2 := row_up (W := X.drew) a2 hb
    have b3 := row_up (W := X.drew) a3 hb
    have bj : J (yl few Q) wq := HJ.out.1 _ X wq none hj hgr (fun r e => by cases e)
    have hS3 : w3.heap.size = W.heap.size + 1 + 1 + 1 := AS
    have hYlt := box_lt a1
    have bk : KeepsFrom w3.heap.size X wq := ((KeepsOthers.drew X).trans (others_below hb)).from _
    have bf : KF w₀.heap.size (W.heap.size + 1 + 1) X wq := kf_t (KF.refl _ _ X).drew (KF.below hB.size hb)
    have bB := hHeld.1
    have z1 := box_cell b1 0
    have zf := box_frozen b1 0
    have HB := Lib.hid (And.intro b0 (And.intro b1 (And.intro b2 (And.intro b3 (And.intro bj (And.intro bk (And.intro bf bB)))))))
    clear a0 a1 a2' a3' hj hB hgr hb hHeld b0 b1 b2 b3 bj bk bf bB a2 a3 e2 e4
    obtain ⟨k0, hk0⟩ : ∃ k0, few - Q.length = k0 := ⟨_, rfl⟩
    have HK := Lib.hid hk0
    rw [hk0] at z1
    have hk0b : k0 ≤ 1000000 := by omega
    clear hk0
    have hskip : ∀ (v : Int) (Y : World) (s : List (Fin 1000000)), J s Y → (∃ c, Y.heap[W.heap.size + 1]? = some (.cells c 3 (0, 0))) → J s (Y.setCell ⟨W.heap.size + 1, 0, none⟩ (.int .i64 v)) := fun v Y s h1 ⟨c, h2⟩ => HJ.out.1 s Y _ _ h1 (grownBy_setCell' Y (W.heap.size + 1) (.int .i64 v)) (fun r e => by cases e; exact ⟨by omega, _, h2, .inr ⟨_, _, _, rfl, by unfold RowT; decide⟩⟩)
    have HSK := Lib.hid hskip
    clear hskip
    by_cases hsk : M ≤ k0
    · have hsk' : (M : Int) ≤ (k0 : Int) := by omega
      have hwr : IntKind.i64.wrap ((k0 : Int) - (M : Int)) = (k0 : Int) - (M : Int) := IntWalk.i64_in _ (by omega)
      gi_wp2
      obtain ⟨b0, b1, b2, b3, bj, bk, bf, bB⟩ := HB.out
      have hQx : posX bs g (pre ++ [x]) = Q ++ posOf g bs[x].cs F := by rw [HPS.out, HE.out.2.2.2.1, HE.out.2.2.1]
      have hlQ : (posOf g bs[x].cs F).length = M := HE.out.2.2.2.2.2
      have hkk := HK.out
      refine ⟨bk.trans ((KeepsOthers.setCell _ _ _).from _), kf_t bf (KF.set (by omega) (by omega)), ⟨(box_other (by omega) 0 _).trans b0, ?_, (box_other (ne_box b2 b1 (by decide)) 0 _).trans b2, (box_other (ne_box b3 b1 (by decide)) 0 _).trans b3⟩, ?_, bB.setCell (p := ⟨W.heap.size + 1, 0, none⟩) (by show w₀.heap.size ≤ W.heap.size + 1; omega) _⟩
      · rw [hQx, List.length_append, hlQ]
        have := box_set b1 0 (.int .i64 ((k0 : Int) - (M : Int)))
        rw [show ((few - (Q.length + M) : Nat) : Int) = (k0 : Int) - (M : Int) by omega]
        simpa using this
      · rw [hQx, yl_skip (by rw [hlQ]; omega)]
        exact HSK.out _ _ _ bj ⟨_, b1⟩
    · have hsk' : ¬ (M : Int) ≤ (k0 : Int) := by omega
      obtain ⟨cao, ccap, hcv, _⟩ := id (HR.out.cells bs[x] (List.getElem_mem _)).shape
      obtain ⟨N, hN⟩ : ∃ N, bs[x].cs.length = N := ⟨_, rfl⟩
      have hdq := HR.out.below HB.out.2.2.2.2.2.2.2
      obtain ⟨gk', off', cp', hv', d0', d1', d2'⟩ := hdq.at hk
      cases hbv.symm.trans hv'
      rw [hcv, hN] at d2'
      have HN := Lib.hid (And.intro hN hcv)
      have hNb := HZ.out.2.2
      rw [hN] at hNb
      have HU := Lib.hid (HR.out.cells bs[x] (List.getElem_mem _))
      clear hdq hv' d0' d1' hN hcv
      gi_wp2
      gi_loopw [40] (fun i wr => ∃ j : Nat, i = .int .i64 j ∧ j ≤ N ∧ RowKit.Hid (wr.heap[W.heap.size]? = some (.cells #[.func (.yield l) #[] #[]] 110 (0, 0)) ∧ wr.heap[W.heap.size + 1]? = some (.cells #[.int .i64 ((few - (Q ++ posOf g (bs[x].cs.take j) F).length : Nat) : Int)] 3 (0, 0)) ∧
        wr.heap[Bd]? = some (.cells #[.pointer (some ⟨B, 0, none⟩)] 26 (0, 0)) ∧ wr.heap[Bg]? = some (.cells #[.bool g] 4 (0, 0)) ∧ J (yl few (Q ++ posOf g (bs[x].cs.take j) F)) wr ∧ KeepsFrom w3.heap.size X wr ∧ KF w₀.heap.size (W.heap.size + 1 + 1) X wr ∧ Below w₀.heap.size w₀ wr)) (fun i _ => N - (intOf i).toNat)
      case atStart => exact ⟨0, rfl, Nat.zero_le _, by simpa [posOf] using HB⟩
      case round =>
        rename World => wr
        obtain ⟨j, rfl, hj, hI⟩ := hrel
        obtain ⟨b0, b1, b2, b3, bj, bk, bf, bB⟩ := hI.out
        rcases Nat.lt_or_ge j N with hlt | hge2
        · obtain ⟨c, hc⟩ : ∃ c, bs[x].cs[j]? = some c := ⟨_, List.getElem?_eq_getElem (by rw [HN.out.1]; exact hlt)⟩
          obtain ⟨bb, boff, bcap, hv, e0, e1, e2, e3, e4⟩ := (HU.out.below bB).at hc
          have hv2 := HN.out.2.symm.trans hv
          rw [HN.out.1] at hv2
          injection hv2 with hv2 _ hv3
          subst hv2
          have hi1 : (0 : Int) ≤ (j : Int) ∧ (j : Int) < (N : Int) := ⟨by omega, by omega⟩
          have hsn := posOf_snoc g hc F
          obtain ⟨R, hRR⟩ : ∃ R, Q ++ posOf g (bs[x].cs.take j) F = R := ⟨_, rfl⟩
          have hR2 : Q ++ posOf g (bs[x].cs.take (j + 1)) F = R ++ (if c.gone = g then [F + j] else []) := by rw [hsn, ← List.append_assoc, hRR]
          have hRl : R.length ≤ 100000100000 := by
            rw [← hRR, List.length_append, posOf_length]
            have h1 := liveN_gone (bs[x].cs.take j)
            rw [List.length_take] at h1
            have := HZ.out.1
            split <;> omega
          have HR2 := Lib.hid hR2
          rw [hRR] at b1 bj
          obtain ⟨k1, hk1⟩ : ∃ k1, few - R.length = k1 := ⟨_, rfl⟩
          rw [hk1] at b1
          have HK1 := Lib.hid (And.intro hk1 hRl)
          have hk1b : k1 ≤ 1000000 := by omega
          obtain ⟨s, q, f, r, gn⟩ := c
          dsimp only at e0 e1 e2 e3 e4
          have al : ∀ {i : Nat} {o : Obj}, wr.heap[i]? = some o → (wr.alloc (.cells #[.int .i64 s, .int .i64 q, .int .i64 f, .int .i32 r, .bool gn] 62)).heap[i]? = some o := fun h => row_al h _
          have g0 := al b0
          have g1 := al b1
          have g2 := al b2
          have g3 := al b3
          have gj : J (yl few R) (wr.alloc (.cells #[.int .i64 s, .int .i64 q, .int .i64 f, .int .i32 r, .bool gn] 62)) := OwnFrom.alloc HJ.out.1.from _ bj
          have gB := bB.alloc bB.size (.cells #[.int .i64 s, .int .i64 q, .int .i64 f, .int .i32 r, .bool gn] 62)
          have gk2 := bk.trans ((KeepsOthers.alloc wr (.cells #[.int .i64 s, .int .i64 q, .int .i64 f, .int .i32 r, .bool gn] 62)).from w3.heap.size)
          have gf := kf_t bf (KF.alloc bB.size (.cells #[.int .i64 s, .int .i64 q, .int .i64 f, .int .i32 r, .bool gn] 62))
          have hlw := box_lt b1
          have y0 := box_cell g0 0
          have y1 := box_cell g1 0
          have f1 := box_frozen g1 0
          have y3 := box_cell g3 0
          have HG := Lib.hid (And.intro g0 (And.intro g1 (And.intro g2 (And.intro g3 (And.intro gj (And.intro gk2 (And.intro gf gB)))))))
          clear hc hv hv3 hsn hRR hR2 hRl hk1 hI b0 b1 b2 b3 bj bk bf bB al g0 g1 g2 g3 gj gk2 gf gB
          by_cases hg : gn = g
          · subst hg
            by_cases hz : 0 < k1
            · have hz' : (0 : Int) < (k1 : Int) := by omega
              have hwr : IntKind.i64.wrap ((k1 : Int) - 1) = (k1 : Int) - 1 := IntWalk.i64_in _ (by omega)
              gi_wp2
              go_roundw
              case rel =>
                obtain ⟨b0, b1, b2, b3, bj, bk, bf, bB⟩ := HG.out
                have hkk := HK1.out.1
                rw [set_al (by omega)]
                refine ⟨j + 1, by go_num, by omega, Lib.hid ⟨(box_other (by omega) 0 _).trans b0, ?_, (box_other (ne_box b2 b1 (by decide)) 0 _).trans b2, (box_other (ne_box b3 b1 (by decide)) 0 _).trans b3, ?_, bk.trans ((KeepsOthers.setCell _ _ _).from _), kf_t bf (KF.set (by omega) (by omega)), bB.setCell (p := ⟨W.heap.size + 1, 0, none⟩) (by show w₀.heap.size ≤ W.heap.size + 1; omega) _⟩⟩
                · rw [HR2.out, if_pos rfl, List.length_append, List.length_singleton]
                  have := box_set b1 0 (.int .i64 ((k1 : Int) - 1))
                  rw [show ((few - (R.length + 1) : Nat) : Int) = (k1 : Int) - 1 by omega]
                  simpa using this
                · rw [HR2.out, if_pos rfl, yl_skip (by rw [List.length_singleton]; omega)]
                  exact HSK.out _ _ _ bj ⟨_, b1⟩
              case measure => simp [intOf]; omega
            · obtain rfl : k1 = 0 := by omega
              have hwr : IntKind.i64.wrap ((F : Int) + (j : Int)) = ((F + j : Nat) : Int) := (IntWalk.i64_in _ (by omega)).trans (by push_cast; rfl)
              obtain ⟨fn, tmps, assign, body, hy, hRnd⟩ := HY.out (yl few R) (toP (F + j)) _ HG.out.2.2.2.2.1 (by have := yl_length few R; have := HK1.out.2; omega)
              dsimp only [encPl] at hy
              rw [toP_val (by omega), Int.natCast_add] at hy
              gi_wp2
              try (rw [hy]; gi_wp2)
              refine (roundIn_depth hRnd).mono ?_
              clear hy hRnd
              obtain ⟨b0, b1, b2, b3, -, bk, bf, bB⟩ := HG.out
              rintro e W9 (⟨rfl, j9, k9, o9⟩ | ⟨rfl, j9, o9⟩)
              · have hm1 : m₁ ≤ W.heap.size := hWm
                have r0 := kf_row k9 (.inr hm1) (by unfold RowT; decide) b0
                have r1 := kf_row k9 (.inr (by omega)) (by unfold RowT; decide) b1
                have r2 := kf_row k9 sd (by unfold RowT; decide) b2
                have r3 := kf_row k9 sg (by unfold RowT; decide) b3
                have HG9 := Lib.hid (And.intro r0 (And.intro r1 (And.intro r2 (And.intro r3 (And.intro (bk.trans ⟨o9.size, fun q o hq => o9.same q o (by omega)⟩) (And.intro (kf_t bf (k9.up (Nat.le_refl _) (by omega))) (bB.trans k9.1)))))))
                clear b0 b1 b2 b3 bk bf bB r0 r1 r2 r3 k9 o9 HG
                gi_wp2
                go_roundw
                case rel =>
                  obtain ⟨r0, r1, r2, r3, rk, rf, rB⟩ := HG9.out
                  have hyl := yl_snoc (few := few) (q := R) (p := F + j) (by have := HK1.out.1; omega)
                  refine ⟨j + 1, by go_num, by omega, Lib.hid ⟨r0, ?_, r2, r3, ?_, rk, rf, rB⟩⟩
                  · rw [HR2.out, if_pos trivial, List.length_append, List.length_singleton, show few - (R.length + 1) = 0 by have := HK1.out.1; omega]
                    exact r1
                  · rw [HR2.out, if_pos trivial, hyl]
                    exact j9
                case measure => simp [intOf]; omega
              · have kk := bk.trans (⟨o9.size, fun q o hq => o9.same q o (by omega)⟩ : KeepsFrom w3.heap.size _ W9)
                have HKK := Lib.hid kk
                have hyl := yl_snoc (few := few) (q := R) (p := F + j) (by have := HK1.out.1; omega)
                rw [← hyl] at j9
                have HJ9 := Lib.hid j9
                clear b0 b1 b2 b3 bk bf bB o9 j9 kk hyl
                gi_wp2
                refine ⟨HKK.out, rfl, R ++ [F + j], ?_, HJ9.out⟩
                have e1 : Q ++ posOf gn (bs[x].cs.take (j + 1)) F = R ++ [F + j] := by rw [HR2.out, if_pos trivial]
                rw [HPS.out, HE.out.2.2.2.1, HE.out.2.2.1, ← e1]
                exact (List.prefix_append_right_inj _).2 (posOf_take gn _ _ _)
          · have hR3 : Q ++ posOf g (bs[x].cs.take (j + 1)) F = R := by rw [HR2.out, if_neg hg, List.append_nil]
            have HR3 := Lib.hid hR3
            have hgn : gn = !g := by revert hg; cases gn <;> cases g <;> simp
            subst hgn
            clear hg hR3 HR2
            have hb1 : (!g == g) = false := by cases g <;> rfl
            have hb2 : (!g != g) = true := by cases g <;> rfl
            gi_wp2
            go_roundw
            case rel =>
              refine ⟨j + 1, by go_num, by omega, ?_⟩
              rw [HR3.out, HK1.out.1]
              exact HG
            case measure => simp [intOf]; omega
        · obtain rfl : N = j := by omega
          rw [List.take_of_length_le (by rw [HN.out.1]; exact Nat.le_refl _)] at b1 bj
          have hQx : posX bs g (pre ++ [x]) = Q ++ posOf g bs[x].cs F := by rw [HPS.out, HE.out.2.2.2.1, HE.out.2.2.1]
          rw [← hQx] at b1 bj
          have HG := Lib.hid (And.intro b0 (And.intro b1 (And.intro b2 (And.intro b3 (And.intro bj (And.intro bk (And.intro bf bB)))))))
          clear b0 b1 b2 b3 bj bk bf bB hI
          gi_wp2
          obtain ⟨b0, b1, b2, b3, bj, bk, bf, bB⟩ := HG.out
          exact ⟨bk, bf, ⟨b0, b1, b2, b3⟩, bj, bB⟩
  case done =>
    rintro D ys Z hD rfl ⟨-, hj, -⟩ hK
    rw [posX_all] at hj
    have HJZ := Lib.hid (OwnFrom.putObj (HJ.out.1.from) (.deferred none) hj (by omega : W.heap.size ≤ D) hK rfl)
    clear hj
    gi_wp2
    refine ⟨by simp, .inl ⟨_, _, rfl, run_takeDeferred hK, ?_⟩⟩
    exact ⟨_, results_none rfl _ _ _, ⟨_, rfl⟩, .inl ⟨_, rfl, HJZ.out⟩⟩
  case stop =>
    rintro D c pre Z hD hpre ⟨rfl, q, hq, hx⟩ hK
    have HJZ := Lib.hid (OwnFrom.putObj (HJ.out.2.from) (.deferred none) hx (by omega : W.heap.size ≤ D) hK rfl)
    have HQ := Lib.hid (yl_pre (few := few) (hq.trans (posX_pre (g := g) hpre)))
    clear hx hq hpre
    gi_wp2
    refine ⟨by simp, .inl ⟨_, _, rfl, run_takeDeferred hK, ?_⟩⟩
    exact ⟨_, results_none rfl _ _ _, ⟨_, rfl⟩, .inr ⟨_, HQ.out, HJZ.out⟩⟩
end Go.Proofs.YtfoglciiefoodaaGreatDoor

namespace Go.Proofs.YtfoglciiefoodaaGreatDoor
open Go.RowKit Go.Shelf
attribute [local go_sem] Oper.semAt_some

theorem ins_shift (L X Y : List Value) (a b c : Nat) (hX : L.take (a + c) = X) (hXl : X.length = a + c) (hY : Y.length = b) (hL : a + b + c ≤ L.length) (R1 R2 : List Value) (h1 : R1 = L.take (a + b) ++ X.drop a ++ L.drop (a + b + c)) (h2 : R2 = R1.take a ++ Y ++ R1.drop (a + b)) :
    R2.take (a + b + c) = X.take a ++ Y ++ X.drop a ∧ R2.length = L.length ∧ R1.length = L.length := by
  have hl1 : (L.take (a + b)).length = a + b := by rw [List.length_take]; omega
  have hl2 : (X.drop a).length = c := by rw [List.length_drop]; omega
  have hl3 : (X.take a).length = a := by rw [List.length_take]; omega
  have hr1 : R1.length = L.length := by rw [h1]; simp [List.length_append, hl1, hl2]; omega
  have ht : R1.take a = X.take a := by
    rw [h1, List.append_assoc, List.take_append_of_le_length (by omega), List.take_take, ← hX, List.take_take]
    congr 1
    omega
  have hd : R1.drop (a + b) = X.drop a ++ L.drop (a + b + c) := by
    rw [h1, List.append_assoc, List.drop_append_of_le_length (by omega), List.drop_of_length_le (by omega), List.nil_append]
  refine ⟨?_, by rw [h2, ht, hd]; simp [hl2, hl3]; omega, hr1⟩
  rw [h2, ht, hd, ← List.append_assoc, List.take_append_of_le_length (by simp [hl2, hl3]; omega), List.take_of_length_le (by simp [hl2, hl3]; omega)]
theorem shape_of {W : World} {g : Nat} {cur : Array Value} {t : TypeId} {fr : Nat × Nat} (h : W.heap[g]? = some (.cells cur t fr)) : W.shape? g = some (t, cur.size) := by simp [World.shape?, h]
theorem setRow_keep {W : World} {g N : Nat} (cs : Array Value) : Keep (fun k => k = g) N W (W.setRow g cs) := ⟨rfl, rfl, rfl, by simp [World.setRow], fun k _ hk => setRow_other W g k cs hk⟩
theorem cell_row {W : World} {g : Nat} {cur : Array Value} {t : TypeId} (h : W.heap[g]? = some (.cells cur t (0, 0))) (o : Nat) : W.cell? ⟨g, o, none⟩ = cur[o]? := cell_of_row W g o cur t (0, 0) h
set_option maxRecDepth 100000 in
set_option maxHeartbeats 8000000 in
theorem insert_shift (g cap n i vb m vc : Nat) (cur cv : Array Value) (X Y : List Value) (w : World) (hg : w.heap[g]? = some (.cells cur 62 (0, 0))) (hcur : cur.size = cap * 5) (hX : cur.toList.take (n * 5) = X)
    (hv : w.heap[vb]? = some (.cells cv 62 (0, 0))) (hY : cv.toList.take (m * 5) = Y) (hcv : m * 5 ≤ cv.size) (hne : vb ≠ g) (hx1 : ∀ u ∈ X, u.oneCell' = true) (hy1 : ∀ u ∈ Y, u.oneCell' = true) (hi : i < n) (hm : 0 < m) (hroom : n + m ≤ cap) (_hcap : cap ≤ 9223372036854775807) (hnm : n + m ≤ 1000000) :
    Calls Tryz.prog 105 #[.slice (some ⟨g, 0, none⟩) n cap, .int .i64 (i : Int), .slice (some ⟨vb, 0, none⟩) m vc] w fun e w' =>
      e = .returned (.slice (some ⟨g, 0, none⟩) (n + m) cap) ∧ ∃ cur' : Array Value, w'.heap[g]? = some (.cells cur' 62 (0, 0)) ∧ cur'.size = cap * 5 ∧ cur'.toList.take ((n + m) * 5) = X.take (i * 5) ++ Y ++ X.drop (i * 5) ∧ Keep (fun k => k = g) w.heap.size w w' := by
  have hXl : X.length = n * 5 := by rw [← hX, List.length_take, Array.length_toList]; omega
  have hYl : Y.length = m * 5 := by rw [← hY, List.length_take, Array.length_toList]; omega
  obtain ⟨i0, hi0, _, hs0, _⟩ := infoCellI
  have hsz : (Tryz.prog.info? 62).map (·.size) = some 5 := by rw [hi0]; simp [hs0]
  obtain ⟨R1, hR1⟩ : ∃ R1, R1 = cur.toList.take (i * 5 + m * 5) ++ X.drop (i * 5) ++ cur.toList.drop (i * 5 + m * 5 + (n - i) * 5) := ⟨_, rfl⟩
  obtain ⟨R2, hR2⟩ : ∃ R2, R2 = R1.take (i * 5) ++ Y ++ R1.drop (i * 5 + m * 5) := ⟨_, rfl⟩
  obtain ⟨hf1, hf2, hf3⟩ := ins_shift cur.toList X Y (i * 5) (m * 5) ((n - i) * 5) (by rw [← hX]; congr 1; omega) (by rw [hXl]; omega) hYl (by rw [Array.length_toList]; omega) R1 R2 hR1 hR2
  have hdl : (X.drop (i * 5)).length = (n - i) * 5 := by rw [List.length_drop, hXl]; omega
  have hov : ∀ lb cb, (callFunc 119 #[.slice (some ⟨vb, 0, none⟩) m vc, .slice (some ⟨g, (i + m) * 5, none⟩) lb cb]).run Tryz.prog w = .ok (.value (.bool false)) w := fun lb cb => by
    rw [run_callFunc_extern Tryz.func119 (by kernel_rfl) (by kernel_rfl) (by kernel_rfl) (e := Extern.SlicesOverlaps.overlaps #[22, 22] #[4]) (by kernel_rfl),
      Lib.run_overlaps_apart w 22 4 62 Tryz.underlying22 5 Tryz.sizeOf62 ⟨vb, 0, none⟩ ⟨g, (i + m) * 5, none⟩ m vc lb cb hne _ _ _ _ (shape_of hv) (shape_of hg) (by omega) (frozen_of_row w vb 0 cv _ hv) (frozen_of_row w vb _ cv _ hv)]
    rfl
  have hcp1 : ∀ ty dc sc, (Builtin.copy_ #[22, 22] ty #[.slice (some ⟨g, (i + m) * 5, none⟩) (n + m - (i + m)) dc, .slice (some ⟨g, i * 5, none⟩) (n + m - i) sc]).run Tryz.prog w.drew = .ok (goInt ((n - i : Nat) : Int)) (w.drew.setRow g R1.toArray) := fun ty dc sc => by
    have hmn : Nat.min (n + m - i) (n + m - (i + m)) = n - i := by show min _ _ = _; omega
    have := run_copy_rowN (P := Tryz.prog) w.drew 22 22 ty 62 5 g ((i + m) * 5) (n + m - (i + m)) dc ⟨g, i * 5, none⟩ (n + m - i) sc cur 62 (X.drop (i * 5)) Tryz.underlying22 hsz hg (by rw [hdl, hmn])
      (fun j v hj => by
        rw [Addr.add_lit, cell_row (show w.drew.heap[g]? = _ from hg)]
        rw [List.getElem?_drop, ← hX, List.getElem?_take] at hj
        split at hj
        · rw [← hj]; simp
        · cases hj) (by rw [hdl]; omega) (fun v hv => hx1 v (List.mem_of_mem_drop hv))
    rw [hmn, hdl, show (i + m) * 5 = i * 5 + m * 5 by omega, ← hR1] at this
    rw [show (i + m) * 5 = i * 5 + m * 5 by omega]
    exact this
  have hg1 : (w.drew.setRow g R1.toArray).heap[g]? = some (.cells R1.toArray 62 (0, 0)) := setRow_heap w.drew g cur _ _ _ hg
  have hv1 : (w.drew.setRow g R1.toArray).heap[vb]? = some (.cells cv 62 (0, 0)) := (setRow_other _ _ _ _ hne).trans hv
  have hcp2 : ∀ ty dc, (Builtin.copy_ #[22, 22] ty #[.slice (some ⟨g, i * 5, none⟩) (n + m - i) dc, .slice (some ⟨vb, 0, none⟩) m vc]).run Tryz.prog (w.drew.setRow g R1.toArray) = .ok (goInt m) ((w.drew.setRow g R1.toArray).setRow g R2.toArray) := fun ty dc => by
    have hmn : Nat.min m (n + m - i) = m := by show min _ _ = _; omega
    have := run_copy_rowN (P := Tryz.prog) (w.drew.setRow g R1.toArray) 22 22 ty 62 5 g (i * 5) (n + m - i) dc ⟨vb, 0, none⟩ m vc R1.toArray 62 Y Tryz.underlying22 hsz hg1 (by rw [hYl, hmn])
      (fun j v hj => by
        rw [Addr.add_lit, cell_row hv1, Nat.zero_add]
        rw [← hY, List.getElem?_take] at hj
        split at hj
        · rw [← hj]; simp
        · cases hj) (by rw [hYl, List.size_toArray, hf3, Array.length_toList]; omega) hy1
    rw [hmn, hYl, List.toList_toArray, ← hR2] at this
    exact this
  have hfin : ((w.drew.setRow g R1.toArray).setRow g R2.toArray).heap[g]? = some (.cells R2.toArray 62 (0, 0)) := setRow_heap _ g _ _ _ _ hg1
  have hkk : Keep (fun k => k = g) w.heap.size w ((w.drew.setRow g R1.toArray).setRow g R2.toArray) := ((Keep.refl _ _ w).drewN 1).trans ((setRow_keep _).trans (setRow_keep _))
  have HF := Lib.hid (And.intro hfin (And.intro (show R2.toArray.size = cap * 5 by rw [List.size_toArray, hf2, Array.length_toList, hcur]) (And.intro (show R2.toArray.toList.take ((n + m) * 5) = X.take (i * 5) ++ Y ++ X.drop (i * 5) by rw [List.toList_toArray, ← hf1]; congr 1; omega) hkk)))
  have mixed : Tryz.prog.follows .mixedOrders = true := by kernel_rfl
  have hz1 : ¬ ((m : Int) = 0) := by omega
  have hz2 : ¬ ((i : Int) = (n : Int)) := by omega
  have hz3 : ¬ ((cap : Int) < (n : Int) + (m : Int)) := by omega
  have hw1 : IntKind.i64.wrap ((i : Int) + (m : Int)) = (i : Int) + (m : Int) := by rw [IntKind.wrap_i64]; omega
  have hw2 : IntKind.i64.wrap ((n : Int) + (m : Int)) = (n : Int) + (m : Int) := by rw [IntKind.wrap_i64]; omega
  have hb1 : (0 : Int) ≤ (i : Int) + (m : Int) := by omega
  have hin : i ≤ n := by omega
  have htn : ((i : Int) + (m : Int)).toNat = i + m := by omega
  have htn2 : ((n : Int) + (m : Int)).toNat = n + m := by omega
  have hb2 : ¬ (cap = i + m) := by omega
  have hb3 : (i : Int) ≤ (n : Int) + (m : Int) := by omega
  have hb4 : ¬ (cap = i) := by omega
  have hb5 : (i : Int) ≤ (n : Int) := by omega
  clear hR1 hR2 hf1 hf2 hf3 hX hY hXl hYl hdl hfin hkk hg1 hv1 hsz hg hv hcv hcur
  go_enter Tryz.func105, Tryz.ntmps105
  go_wp2_with (simp only [hov])
  go_region_law_o (refine step_copy_runI rfl _ _ 22 22 rfl _ _ (by simp [Act.eval, Act.put]) (by simp [Act.eval, Act.put]) (hcp1 _ _ _) ?_)
  go_wp2_with (at_builtin; refine wpList_copy_runI _ rfl _ _ 22 22 rfl _ _ rfl rfl (hcp2 _ _) ?_)
  go_ret
  exact ⟨rfl, _, HF.out.1, HF.out.2.1, HF.out.2.2.1, HF.out.2.2.2⟩
theorem ins_grow (L X Y : List Value) (a b c : Nat) (hX : L.take a = X.take a) (hXl : X.length = a + c) (hY : Y.length = b) (hL : a + b + c ≤ L.length) (R1 R2 : List Value) (h1 : R1 = L.take a ++ Y ++ L.drop (a + b)) (h2 : R2 = R1.take (a + b) ++ X.drop a ++ R1.drop (a + b + c)) :
    R2.take (a + b + c) = X.take a ++ Y ++ X.drop a ∧ R2.length = L.length ∧ R1.length = L.length := by
  have hl2 : (X.drop a).length = c := by rw [List.length_drop]; omega
  have hl3 : (X.take a).length = a := by rw [List.length_take]; omega
  have hr1 : R1.length = L.length := by rw [h1, hX]; simp [List.length_append, hl3, hY]; omega
  have ht : R1.take (a + b) = X.take a ++ Y := by
    rw [h1, hX, List.take_append_of_le_length (by simp [hl3, hY]), List.take_of_length_le (by simp [hl3, hY])]
  refine ⟨?_, by rw [h2, ht]; simp [hl2, hl3, hY, hr1]; omega, hr1⟩
  rw [h2, ht, List.take_append_of_le_length (by simp [hl2, hl3, hY]; omega), List.take_of_length_le (by simp [hl2, hl3, hY]; omega)]
set_option maxRecDepth 100000 in
set_option maxHeartbeats 8000000 in
theorem insert_grow (g cap n i vb m vc : Nat) (cur cv : Array Value) (X Y : List Value) (w : World) (hg : w.heap[g]? = some (.cells cur 62 (0, 0))) (hcur : cur.size = cap * 5) (hX : cur.toList.take (n * 5) = X)
    (hv : w.heap[vb]? = some (.cells cv 62 (0, 0))) (hY : cv.toList.take (m * 5) = Y) (hcv : m * 5 ≤ cv.size) (hx1 : ∀ u ∈ X, u.oneCell' = true) (hy1 : ∀ u ∈ Y, u.oneCell' = true) (hi : i < n) (hm : 0 < m) (hnc : n ≤ cap) (hroom : cap < n + m) (hnm : n + m ≤ 1000000) :
    Calls Tryz.prog 105 #[.slice (some ⟨g, 0, none⟩) n cap, .int .i64 (i : Int), .slice (some ⟨vb, 0, none⟩) m vc] w fun e w' =>
      ∃ (G : Nat) (cur' : Array Value), e = .returned (.slice (some ⟨w.heap.size, 0, none⟩) (n + m) G) ∧ n + m ≤ G ∧ G ≤ maxLen ∧ w'.heap[w.heap.size]? = some (.cells cur' 62 (0, 0)) ∧ cur'.size = G * 5 ∧ cur'.toList.take ((n + m) * 5) = X.take (i * 5) ++ Y ++ X.drop (i * 5) ∧ Below w.heap.size w w' := by
  have hXl : X.length = n * 5 := by rw [← hX, List.length_take, Array.length_toList]; omega
  have hYl : Y.length = m * 5 := by rw [← hY, List.length_take, Array.length_toList]; omega
  obtain ⟨i0, hi0, hz0, hzs, hzb⟩ := infoCellI
  have hsz : (Tryz.prog.info? 62).map (·.size) = some 5 := by rw [hi0]; simp [hzs]
  have hgl := box_lt hg
  have hvl := box_lt hv
  have hold : (Builtin.firstCells i0.size i (.slice (some ⟨g, 0, none⟩) i cap)).run Tryz.prog w.drew = .ok (X.take (i * 5)).toArray w.drew := by
    rw [hzs]
    exact run_firstCells_some w.drew 5 i ⟨g, 0, none⟩ i cap (X.take (i * 5)) (by rw [List.length_take, hXl]; omega) (fun j v hj => by
      rw [Addr.add_lit, cell_row (show w.drew.heap[g]? = _ from hg), Nat.zero_add]
      rw [← hX, List.take_take, List.getElem?_take] at hj
      split at hj
      · rw [← hj]; simp
      · cases hj)
  have hik : i + (n + m - i) = n + m := by omega
  have hkk : (n : Int) + (m : Int) - (i : Int) = ((n + m - i : Nat) : Int) := by omega
  have hrz : ∀ ty, (Builtin.append_ #[22, 3] ty #[.slice (some ⟨g, 0, none⟩) i cap, .int .i64 ((n : Int) + (m : Int) - (i : Int))]).run Tryz.prog w =
      .ok (.slice (some ⟨w.heap.size, 0, none⟩) (n + m) (grownCap w (n + m) cap 62)) (w.drew.alloc (.cells ((X.take (i * 5)).toArray ++ Builtin.zeroCells (Value.agg #[.int .i64 0, .int .i64 0, .int .i64 0, .int .i32 0, .bool false]).cells (n + m - i) ++ Builtin.zeroCells (Value.agg #[.int .i64 0, .int .i64 0, .int .i64 0, .int .i32 0, .bool false]).cells (grownCap w (n + m) cap 62 - (n + m))) 62)) := fun ty => by
    have h := Lib.run_append_grow_zeros w 22 3 ty 62 i0 _ .i64 .i64 Tryz.underlying22 Tryz.underlying3 hi0 hz0 (some ⟨g, 0, none⟩) i cap (X.take (i * 5)) hold (n + m - i) (by omega) (by omega) (by omega) (by omega) (by rw [hzb]; omega) (by rw [hzb, hik]; exact growslice_fits hroom (by omega))
    rw [hik] at h
    rw [hkk]
    exact h
  obtain ⟨G, hG⟩ : ∃ G, G = grownCap w (n + m) cap 62 := ⟨_, rfl⟩
  rw [← hG] at hrz
  have hGn : n + m ≤ G := by rw [hG]; exact grownCap_ge w _ _ _
  have hGm : G ≤ maxLen := by rw [hG]; exact grownCap_le_maxLen w (n + m) cap 62 (by unfold maxLen; omega)
  obtain ⟨ROW, hROW⟩ : ∃ ROW : Array Value, ROW = (X.take (i * 5)).toArray ++ Builtin.zeroCells (Value.agg #[.int .i64 0, .int .i64 0, .int .i64 0, .int .i32 0, .bool false]).cells (n + m - i) ++ Builtin.zeroCells (Value.agg #[.int .i64 0, .int .i64 0, .int .i64 0, .int .i32 0, .bool false]).cells (G - (n + m)) := ⟨_, rfl⟩
  rw [← hROW] at hrz
  have hRs : ROW.size = G * 5 := by
    rw [hROW]
    simp [Builtin.zeroCells, Value.cells, hXl]
    omega
  have hRt : ROW.toList.take (i * 5) = X.take (i * 5) := by
    rw [hROW, Array.toList_append, Array.toList_append, List.toList_toArray, List.append_assoc, List.take_append_of_le_length (by rw [List.length_take, hXl]; omega), List.take_take, Nat.min_self]
  obtain ⟨R1, hR1⟩ : ∃ R1, R1 = ROW.toList.take (i * 5) ++ Y ++ ROW.toList.drop (i * 5 + m * 5) := ⟨_, rfl⟩
  obtain ⟨R2, hR2⟩ : ∃ R2, R2 = R1.take (i * 5 + m * 5) ++ X.drop (i * 5) ++ R1.drop (i * 5 + m * 5 + (n - i) * 5) := ⟨_, rfl⟩
  obtain ⟨hf1, hf2, hf3⟩ := ins_grow ROW.toList X Y (i * 5) (m * 5) ((n - i) * 5) hRt (by rw [hXl]; omega) hYl (by rw [Array.length_toList, hRs]; omega) R1 R2 hR1 hR2
  have hdl : (X.drop (i * 5)).length = (n - i) * 5 := by rw [List.length_drop, hXl]; omega
  obtain ⟨W1, hW1⟩ : ∃ W1, W1 = (w.alloc (.cells ROW 62)).drew := ⟨_, rfl⟩
  have hn1 : W1.heap[w.heap.size]? = some (.cells ROW 62 (0, 0)) := by rw [hW1]; exact heap_new w _
  have hg1 : W1.heap[g]? = some (.cells cur 62 (0, 0)) := by rw [hW1]; exact row_al hg _
  have hv1 : W1.heap[vb]? = some (.cells cv 62 (0, 0)) := by rw [hW1]; exact row_al hv _
  have hcpA : ∀ ty dc, (Builtin.copy_ #[22, 22] ty #[.slice (some ⟨w.heap.size, i * 5, none⟩) (n + m - i) dc, .slice (some ⟨vb, 0, none⟩) m vc]).run Tryz.prog W1 = .ok (goInt (m : Int)) (W1.setRow w.heap.size R1.toArray) := fun ty dc => by
    have hmn : Nat.min m (n + m - i) = m := by show min _ _ = _; omega
    have := run_copy_rowN (P := Tryz.prog) W1 22 22 ty 62 5 w.heap.size (i * 5) (n + m - i) dc ⟨vb, 0, none⟩ m vc ROW 62 Y Tryz.underlying22 hsz hn1 (by rw [hYl, hmn])
      (fun j v hj => by
        rw [Addr.add_lit, cell_row hv1, Nat.zero_add]
        rw [← hY, List.getElem?_take] at hj
        split at hj
        · rw [← hj]; simp
        · cases hj) (by rw [hYl, hRs]; omega) hy1
    rw [hmn, hYl, ← hR1] at this
    exact this
  obtain ⟨W2, hW2⟩ : ∃ W2, W2 = (W1.setRow w.heap.size R1.toArray).drew := ⟨_, rfl⟩
  have hn2 : W2.heap[w.heap.size]? = some (.cells R1.toArray 62 (0, 0)) := by rw [hW2]; exact setRow_heap W1 _ _ _ _ _ hn1
  have hg2 : W2.heap[g]? = some (.cells cur 62 (0, 0)) := by rw [hW2]; exact (setRow_other W1 _ _ _ (by omega)).trans hg1
  have hcpB : ∀ ty dc sc, (Builtin.copy_ #[22, 22] ty #[.slice (some ⟨w.heap.size, (i + m) * 5, none⟩) (n + m - (i + m)) dc, .slice (some ⟨g, i * 5, none⟩) (n - i) sc]).run Tryz.prog W2 = .ok (goInt ((n - i : Nat) : Int)) (W2.setRow w.heap.size R2.toArray) := fun ty dc sc => by
    have hmn : Nat.min (n - i) (n + m - (i + m)) = n - i := by show min _ _ = _; omega
    have := run_copy_rowN (P := Tryz.prog) W2 22 22 ty 62 5 w.heap.size ((i + m) * 5) (n + m - (i + m)) dc ⟨g, i * 5, none⟩ (n - i) sc R1.toArray 62 (X.drop (i * 5)) Tryz.underlying22 hsz hn2 (by rw [hdl, hmn])
      (fun j v hj => by
        rw [Addr.add_lit, cell_row hg2]
        rw [List.getElem?_drop, ← hX, List.getElem?_take] at hj
        split at hj
        · rw [← hj]; simp
        · cases hj) (by rw [hdl, List.size_toArray, hf3, Array.length_toList, hRs]; omega) (fun v hv => hx1 v (List.mem_of_mem_drop hv))
    rw [hmn, hdl, List.toList_toArray, show (i + m) * 5 = i * 5 + m * 5 by omega, ← hR2] at this
    rw [show (i + m) * 5 = i * 5 + m * 5 by omega]
    exact this
  have hfin : (W2.setRow w.heap.size R2.toArray).heap[w.heap.size]? = some (.cells R2.toArray 62 (0, 0)) := setRow_heap _ _ _ _ _ _ hn2
  have hbl : Below w.heap.size w (W2.setRow w.heap.size R2.toArray) := by
    have k1 : Below w.heap.size w W1 := by rw [hW1]; exact ((Below.refl _ w).alloc (Nat.le_refl _) _).drew
    have k2 : Below w.heap.size w W2 := by
      rw [hW2]
      exact (k1.trans ((setRow_keep (N := w.heap.size) R1.toArray).below (Nat.le_refl _) (fun k hk => Nat.le_of_eq hk.symm))).drew
    exact k2.trans ((setRow_keep (N := w.heap.size) R2.toArray).below (Nat.le_refl _) (fun k hk => Nat.le_of_eq hk.symm))
  have HF := Lib.hid (And.intro hGn (And.intro hGm (And.intro hfin (And.intro (show R2.toArray.size = G * 5 by rw [List.size_toArray, hf2, Array.length_toList, hRs]) (And.intro (show R2.toArray.toList.take ((n + m) * 5) = X.take (i * 5) ++ Y ++ X.drop (i * 5) by rw [List.toList_toArray, ← hf1]; congr 1; omega) hbl)))))
  have mixed : Tryz.prog.follows .mixedOrders = true := by kernel_rfl
  have hz1 : ¬ ((m : Int) = 0) := by omega
  have hz2 : ¬ ((i : Int) = (n : Int)) := by omega
  have hz3 : (cap : Int) < (n : Int) + (m : Int) := by omega
  have hw1 : IntKind.i64.wrap ((i : Int) + (m : Int)) = (i : Int) + (m : Int) := by rw [IntKind.wrap_i64]; omega
  have hw2 : IntKind.i64.wrap ((n : Int) + (m : Int)) = (n : Int) + (m : Int) := by rw [IntKind.wrap_i64]; omega
  have hw3 : IntKind.i64.wrap ((n : Int) + (m : Int) - (i : Int)) = (n : Int) + (m : Int) - (i : Int) := by rw [IntKind.wrap_i64]; omega
  have hb1 : (0 : Int) ≤ (i : Int) + (m : Int) := by omega
  have hin : i ≤ n := by omega
  have htn : ((i : Int) + (m : Int)).toNat = i + m := by omega
  have hb2 : ¬ (G = i + m) := by omega
  have hb4 : ¬ (G = i) := by omega
  have hb5 : (i : Int) ≤ (n : Int) := by omega
  have hb6 : ¬ (cap = i) := by omega
  have hb7 : (i : Int) ≤ (cap : Int) := by omega
  have hG63 : G ≤ 9223372036854775807 := by unfold maxLen at hGm; omega
  have hb8 : (i : Int) ≤ (n : Int) + (m : Int) := by omega
  have hb9 : (i : Int) + (m : Int) ≤ (n : Int) + (m : Int) := by omega
  clear hR1 hR2 hf1 hf2 hf3 hX hY hXl hYl hdl hfin hbl hg1 hv1 hn1 hn2 hg2 hsz hg hv hcv hcur hold hkk hik hRs hRt hROW hi0 hz0 hzs hzb hG hGm
  subst hW2 hW1
  go_enter Tryz.func105, Tryz.ntmps105
  go_wp2_with (first
    | (at_builtin; refine Lib.wpList_append_run _ rfl _ _ _ _ rfl _ _ rfl rfl _ _ (hrz _) ?_)
    | (at_builtin; refine wpList_copy_runI _ rfl _ _ 22 22 rfl _ _ rfl rfl (hcpA _ _) ?_))
  go_region_law_o (refine step_copy_runI rfl _ _ 22 22 rfl _ _ (by simp [Act.eval, Act.put]) (by simp [Act.eval, Act.put]) (hcpB _ _ _) ?_)
  go_wp2
  go_ret
  exact ⟨G, _, rfl, HF.out.1, HF.out.2.1, HF.out.2.2.1, HF.out.2.2.2.1, HF.out.2.2.2.2.1, HF.out.2.2.2.2.2⟩
end Go.Proofs.YtfoglciiefoodaaGreatDoor
