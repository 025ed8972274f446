/- spans sorted by where they begin: slices.Clone, slices.SortFunc by the library's contracts. -/
import Derived.Test.YtlofeaodpblagaaShSort
import Derived.Test.YtlofeaodpblagaaShelf
import Derived.Test.YtlofeaodpblagaaSpLay
import Derived.Shelf.SlSortCmp.NoneTotal
namespace Go.Proofs.Ytlofeaodpblagaa
open Go.RowKit Go.Shelf

/-- A span's two cells. -/
def encSp (x : Sp) : List Value := [.int .i64 x.1, .int .i64 x.2]
/-- By where they begin. -/
def cmpSp (x y : Sp) : Int := Lib.compareInt x.1 y.1
set_option maxHeartbeats 1000000 in
theorem cmpClosure (x y : Sp) (W : World) : Calls Try.prog 30 #[.agg #[.int .i64 x.1, .int .i64 x.2], .agg #[.int .i64 y.1, .int .i64 y.2]] W fun e w' => e = .returned (.int .i64 (cmpSp x y)) ∧ ∃ q os', w' = Sort.grow (W.drewN q) os' := by
  have hcon := fun W' => Try.cmp_Compare_int x.1 y.1 W'
  unfold cmpSp
  generalize Lib.compareInt x.1 y.1 = r at hcon ⊢
  go_enter Try.func30, Try.ntmps30
  go_wp2_with (go_at_call 31; refine (hcon _).mono ?_; rintro e w' ⟨rfl, rfl⟩)
  go_ret
  exact ⟨rfl, 0, _, by rw [Sort.alloc_eq_grow, Sort.alloc_eq_grow, Sort.grow_grow]; rfl⟩
theorem cmpLays (blk off size : Nat) (w : World) : CmpLays Try.prog 30 #[] encSp 2 cmpSp blk off size w := fun _ _ _ _ x y => cmpClosure x y _
theorem ltSp (x y : Sp) : ltOf cmpSp x y = decide (x.1 < y.1) := by
  unfold ltOf cmpSp Lib.compareInt
  by_cases h1 : x.1 < y.1
  · simp [h1]
  · by_cases h2 : y.1 < x.1 <;> simp [h1, h2]
theorem swoSp : Sort.SWO (ltOf cmpSp) where
  irrefl x := by rw [ltSp]; simp
  trans x y z h1 h2 := by rw [ltSp] at *; simp at *; omega
  ntrans x y z h1 h2 := by rw [ltSp] at *; simp at *; omega
theorem holds_of_own {W : World} {base g cap : Nat} {xs : List Sp} (h : W.ownsRow base 42 2 (.slice (some ⟨g, 0, none⟩) xs.length cap) xs.length (spCells xs)) : Sort.HoldsK encSp 2 W g 0 xs.toArray := by
  intro t ht
  rw [Sort.size_flatK, List.size_toArray] at ht
  have hi : t / 2 < xs.length := by omega
  obtain ⟨q1, q2⟩ := spCells_at xs (t / 2) hi
  have hget : xs.toArray[t / 2]! = xs.getD (t / 2) (0, 0) := by simp [List.getD, hi]
  rw [Sort.get_flatK _ _ _ _ (by rw [List.size_toArray]; exact ht), hget, Nat.zero_add]
  refine ⟨?_, h.frozenAt t⟩
  rcases (show t = t / 2 * 2 ∨ t = t / 2 * 2 + 1 by omega) with e | e
  · rw [show t % 2 = 0 by omega, h.cellAt t (by omega)]
    rw [← e] at q1
    exact q1
  · rw [show t % 2 = 1 by omega, h.cellAt t (by omega)]
    rw [← e] at q2
    exact q2
theorem sort_below {N blk n : Nat} {d : Array Sp} {w : World} {os : Array Obj} (hN : N ≤ blk) (hs : N ≤ w.heap.size) : Below N w (sortWorldK encSp 2 w blk 0 n d os) := by
  refine ⟨rfl, rfl, rfl, ?_, fun i hi => ?_⟩
  · simp [sortWorldK, Sort.grow, Sort.putRowK, Sort.putRow, Sort.mapBlock, Sort.ahead]
  · show ((w.heap.modify blk _) ++ os)[i]? = w.heap[i]?
    rw [Array.getElem?_append_left (by rw [Array.size_modify]; omega), Array.getElem?_modify, if_neg (by omega)]
theorem spAt_of_holds {W : World} {g n cap : Nat} {d : Array Sp} (h : Sort.HoldsK encSp 2 W g 0 d) (hn : d.size = n) : SpAt W (.slice (some ⟨g, 0, none⟩) n cap) d.toList := by
  refine ⟨_, cap, by rw [← hn, Array.length_toList], fun _ => ⟨g, 0, rfl, fun i hi => ?_⟩⟩
  rw [Array.length_toList] at hi
  have e : d[i]! = d.toList.getD i (0, 0) := by simp [List.getD, hi]
  have q0 := (h.cell hi (show 0 < 2 by omega)).1
  have q1 := (h.cell hi (show 1 < 2 by omega)).1
  rw [e] at q0 q1
  exact ⟨q0, q1⟩
/-- What a sorted copy is. -/
structure SortedOf (xs ys : List Sp) : Prop where
  perm : ys.Perm xs
  up : ys.Pairwise fun s t => s.1 ≤ t.1
theorem sortedOf_nil : SortedOf [] [] := ⟨List.Perm.refl _, List.Pairwise.nil⟩
theorem sortedOf_of {xs : List Sp} {d' : Array Sp} (hp : Sort.PermIn 0 xs.toArray.size xs.toArray d') (hs : Sort.SortedIn (ltOf cmpSp) 0 xs.toArray.size d') : SortedOf xs d'.toList := by
  obtain ⟨h1, _, h3⟩ := hp
  have e1 : d'.extract 0 xs.toArray.size = d' := by rw [← h1]; exact Array.extract_size
  have e2 : xs.toArray.extract 0 xs.toArray.size = xs.toArray := Array.extract_size
  rw [e1, e2] at h3
  refine ⟨h3, ?_⟩
  rw [List.pairwise_iff_getElem]
  intro i j hi hj hij
  rw [Array.length_toList] at hi hj
  have := hs i j (Nat.zero_le _) hij (by omega)
  rw [ltSp, decide_eq_false_iff_not] at this
  rw [getElem!_pos d' i hi, getElem!_pos d' j hj] at this
  simp only [Array.getElem_toList]
  omega
theorem norm_list {xs ys : List Sp} (h : SortedOf xs ys) (hok : xs.all spOk = true) : layL [] ys 0 = sMade (sMark xs) 20000 := by
  rw [List.all_eq_true] at hok
  have hb : ∀ s ∈ ys, 0 ≤ s.1 + 0 ∧ 0 ≤ s.1 + 0 ∧ 0 ≤ s.2 ∧ s.1 + s.2 + 0 ≤ 20000 := fun s hs => by
    have := of_decide_eq_true (hok s (h.perm.mem_iff.1 hs))
    omega
  obtain ⟨q1, q2⟩ := layL_ok 0 ys [] 0 (PutOK.nil 0) hb h.up
  rw [← sMade_self q1]
  refine sMade_congr fun i _ => ?_
  rw [q2, Int.sub_zero, hasI_nat]
  show (false || sMark ys i) = sMark xs i
  rw [Bool.false_or]
  unfold sMark
  apply Bool.eq_iff_iff.2
  simp only [List.any_eq_true]
  exact ⟨fun ⟨s, h1, h2⟩ => ⟨s, h.perm.mem_iff.1 h1, h2⟩, fun ⟨s, h1, h2⟩ => ⟨s, h.perm.mem_iff.2 h1, h2⟩⟩
theorem spCells_one : ∀ (xs : List Sp), ∀ u ∈ spCells xs, u.oneCell' = true
  | [], u, h => by cases h
  | s :: r, u, h => by
    rcases List.mem_cons.1 h with rfl | h
    · rfl
    · rcases List.mem_cons.1 h with rfl | h
      · rfl
      · exact spCells_one r u h
set_option maxRecDepth 100000 in
set_option maxHeartbeats 2000000 in
/-- What slices.Clone makes. -/
theorem clone_any (ao : Option Addr) (n cap : Nat) (xs : List Sp) (w : World) (h : SpAt w (.slice ao n cap) xs) (hx : xs.length ≤ 1000000) (hn : xs.length = n) :
    Calls Try.prog 28 #[.slice ao n cap] w fun e w' => ∃ v, e = .returned v ∧ w'.ownsRow w.heap.size 42 2 v xs.length (spCells xs) ∧ Below w.heap.size w w' := by
  obtain ⟨i0, hi, hz0, hz1, hz2⟩ := info_parts infoSpan
  cases ao with
  | none =>
    have hn0 : xs = [] := by
      obtain ⟨ao, cap', hv, h2⟩ := h
      cases hv
      cases xs with
      | nil => rfl
      | cons s r => obtain ⟨_, _, e, _⟩ := h2 (by simp); cases e
    subst hn0
    have hcon := AnyE.slices_Clone_nil Try.cloneSp n cap w
    change Calls Try.prog 28 _ _ _ at hcon
    exact hcon.mono fun e w' ⟨he, hw⟩ => ⟨_, he, by rw [hw]; exact World.ownsRow_nil _ _ _ _, by rw [hw]; exact Below.refl _ _⟩
  | some a =>
    obtain ⟨b, off, sp⟩ := a
    by_cases hnil : xs = []
    · subst hnil
      obtain ⟨_, _, hv, _⟩ := id h
      cases hv
      have q22 : ∀ (w : World) (a : Option Addr) (n c n' c' : Nat), (binOp .eql 22 (.slice a n c) (.slice none n' c')).run Try.prog w = .ok (.bool a.isNone) w := fun w a n c n' c' => Lib.run_eql_slice_nil w _ _ a n c n' c' Try.underlying22
      go_enter Try.func28, Try.ntmps28
      go_wp2
      go_ret
      exact ⟨_, rfl, World.ownsRow_made w #[] 0 (Nat.le_refl _) (Nat.zero_le _) (by simp), (Below.refl _ _).alloc (Nat.le_refl _) _⟩
    · obtain ⟨ao, cap', hv, h2⟩ := h
      cases hv
      obtain ⟨b', off', e, hc⟩ := h2 hnil
      cases e
      have hcon := AnyE.slices_Clone Try.cloneSp i0 (.agg #[.int .i64 0, .int .i64 0]) 2 16 hi hz0 hz1 hz2 rfl (by decide) Try.sizeOf42 b off xs.length cap (spCells xs) w (spCells_length xs) (by unfold maxLen; omega) (by omega) ?_ ?_
      · change Calls Try.prog 28 _ _ _ at hcon
        exact hcon.mono fun e w' ⟨v', he, ho, _, hb⟩ => ⟨v', he, ho, hb⟩
      · intro j u hj
        have hjl := (List.getElem?_eq_some_iff.1 hj).1
        rw [spCells_length] at hjl
        obtain ⟨q1, q2⟩ := spCells_at xs (j / 2) (by omega)
        obtain ⟨c1, c2⟩ := hc (j / 2) (by omega)
        rcases (show j = j / 2 * 2 ∨ j = j / 2 * 2 + 1 by omega) with e | e
        · rw [← e] at q1 c1
          rw [hj] at q1
          cases q1
          exact c1
        · rw [← e] at q2
          rw [Nat.add_assoc, ← e] at c2
          rw [hj] at q2
          cases q2
          exact c2
      · exact spCells_one xs
/-- What slices.SortFunc makes of a row of the call's own. -/
theorem sort_any (v : Value) (xs : List Sp) (N : Nat) (w : World) (h : w.ownsRow N 42 2 v xs.length (spCells xs)) (hx : xs.length ≤ 1000000) :
    Calls Try.prog 29 #[v, .func (.func 30) #[] #[]] w fun e w' => e = .returned (.tuple #[]) ∧ (∃ ys, SortedOf xs ys ∧ SpAt w' v ys ∧ ys.length = xs.length) ∧ (N ≤ w.heap.size → Below N w w') := by
  by_cases hnil : xs = []
  · subst hnil
    obtain ⟨ao, cap, rfl, _⟩ := SpAt.of_own h
    have hcon := AnyF.slices_SortFunc_none { Try.sortSp with } ao cap (.func (.func 30) #[] #[]) w
    change Calls Try.prog 29 _ _ _ at hcon
    exact hcon.mono fun e w' ⟨he, hw⟩ => ⟨he, ⟨[], sortedOf_nil, ⟨ao, cap, rfl, fun h => absurd rfl h⟩, rfl⟩, fun _ => by rw [hw]; exact Below.refl _ _⟩
  · have hl : 0 < xs.length := Nat.pos_of_ne_zero fun e => hnil (List.eq_nil_of_length_eq_zero e)
    obtain ⟨g, cap, rfl, hgb, hgl⟩ := ownsRow_form h hl
    have hH := holds_of_own h
    have eg : ∀ args w, (callFunc 30 args).run Try.prog w = .ok (.enter 30 args) w := enters_of Try.func30 (by kernel_rfl) rfl
    have hcon := AnyQ.slices_SortFunc Try.sortSp 2 Try.isAgg42 Try.sizeOf42 encSp (fun _ => rfl) (fun x v hv => by simp [encSp] at hv; rcases hv with rfl | rfl <;> rfl) cmpSp swoSp 30 #[] g 0 cap xs.toArray w eg (cmpLays g 0 xs.toArray.size w) hH hgl (by rw [List.size_toArray]; omega)
    change Calls Try.prog 29 _ _ _ at hcon
    refine hcon.mono fun e w' ⟨he, d', n, os, hp, hs, hw⟩ => ⟨he, ⟨d'.toList, sortedOf_of hp hs, ?_, ?_⟩, fun hN => by rw [hw]; exact sort_below hgb hN⟩
    · have hH' := holdsK_sortWorldK_c encSp 2 w g 0 xs.toArray d' n os hH hgl hp.1
      rw [hw]
      exact spAt_of_holds hH' (by rw [hp.1, List.size_toArray])
    · rw [Array.length_toList, hp.1, List.size_toArray]
end Go.Proofs.Ytlofeaodpblagaa
