/- Texts of this proof, joined. -/
import Derived.Test.YtfoglciiefoodaaGreatDoorGCellsBegL
import Derived.Test.YtfoglciiefoodaaGreatDoorGCellsBlk
import Derived.Test.YtfoglciiefoodaaGreatDoorGNameEq
import Derived.Test.YtfoglciiefoodaaGreatDoorGCellsText
import Derived.Test.YtfoglciiefoodaaGreatDoorGRefSplit
namespace Go.Proofs.YtfoglciiefoodaaGreatDoor
open Go.RowKit Go.Shelf
attribute [local go_sem] Oper.semAt_some

def gStep (st : List Sp) (p : Nat) : List Sp := match st with
  | [] => [((p : Int), 1)]
  | s :: r => if s.1 + s.2 = (p : Int) then (s.1, s.2 + 1) :: r else ((p : Int), 1) :: s :: r
def gStk (ps : List Nat) : List Sp := ps.foldl gStep []
def gath (ps : List Nat) : List Sp := (gStk ps).reverse
theorem gStk_snoc (ps : List Nat) (p : Nat) : gStk (ps ++ [p]) = gStep (gStk ps) p := by unfold gStk; rw [List.foldl_append]; rfl
theorem gath_zero {ps : List Nat} (h : gath ps = []) (p : Nat) : gath (ps ++ [p]) = [((p : Int), 1)] := by
  have : gStk ps = [] := by unfold gath at h; simpa using h
  unfold gath
  rw [gStk_snoc, this]
  rfl
theorem gath_last {ps : List Nat} {r : List Sp} {s : Sp} (h : gath ps = r ++ [s]) (p : Nat) : gath (ps ++ [p]) = if s.1 + s.2 = (p : Int) then r ++ [(s.1, s.2 + 1)] else r ++ [s] ++ [((p : Int), 1)] := by
  have : gStk ps = s :: r.reverse := by
    unfold gath at h
    have := congrArg List.reverse h
    simpa using this
  unfold gath
  rw [gStk_snoc, this]
  unfold gStep
  dsimp only
  split <;> simp
theorem gath_made (f : Nat → Bool) : ∀ k, sMade f k = gath ((List.range k).filter f) := by
  have h : ∀ k, sRun f k = gStk ((List.range k).filter f) := by
    intro k
    induction k with
    | zero => rfl
    | succ k ih =>
      rw [List.range_succ, List.filter_append]
      unfold sRun
      cases hf : f k with
      | false => simp [hf, ih]
      | true =>
        rw [show List.filter f [k] = [k] by simp [hf], gStk_snoc, ih]
        rfl
  intro k
  unfold sMade gath
  rw [h]
theorem gath_ok (ps : List Nat) (hp : ∀ p ∈ ps, p < 1000000) : (gath ps).length ≤ ps.length ∧ ∀ s ∈ gath ps, 0 ≤ s.1 ∧ s.1 ≤ 1000000 ∧ 1 ≤ s.2 ∧ s.2 ≤ ps.length := by
  obtain ⟨k, hk⟩ : ∃ k, ps.length = k := ⟨_, rfl⟩
  induction k generalizing ps with
  | zero =>
    obtain rfl : ps = [] := List.eq_nil_of_length_eq_zero hk
    exact ⟨Nat.le_refl _, by intro s hs; cases hs⟩
  | succ k ih =>
    rcases List.eq_nil_or_concat ps with e | ⟨ps, p, rfl⟩
    · rw [e] at hk; cases hk
    rw [List.concat_eq_append] at hk hp ⊢
    rw [List.length_append, List.length_singleton] at hk
    obtain ⟨h1, h2⟩ := ih ps (fun q hq => hp q (List.mem_append_left _ hq)) (by omega)
    have hpp := hp p (by simp)
    rw [List.length_append, List.length_singleton]
    rcases List.eq_nil_or_concat (gath ps) with e | ⟨r, s, e⟩
    · rw [gath_zero e]
      refine ⟨by simp, fun t ht => ?_⟩
      rw [List.mem_singleton.1 ht]
      dsimp only
      omega
    · rw [List.concat_eq_append] at e
      rw [gath_last e]
      rw [e] at h1 h2
      rw [List.length_append, List.length_singleton] at h1
      split
      · refine ⟨by simp; omega, fun t ht => ?_⟩
        rcases List.mem_append.1 ht with g | g
        · have := h2 t (List.mem_append_left _ g); omega
        · rw [List.mem_singleton.1 g]
          have := h2 s (by simp)
          dsimp only
          omega
      · refine ⟨by simp; omega, fun t ht => ?_⟩
        rcases List.mem_append.1 ht with g | g
        · have := h2 t g; omega
        · rw [List.mem_singleton.1 g]
          dsimp only
          omega
def gP (pre : List (Fin 1000000)) : List Sp := gath (pre.map (·.val))
theorem KF.set_row {n₀ m₁ g o : Nat} {W : World} {u : Value} {c : Array Value} {t : TypeId} {fr : Nat × Nat} (hn : n₀ ≤ g) (h : W.heap[g]? = some (.cells c t fr)) (ht : RowT t) : KF n₀ m₁ W (W.setCell ⟨g, o, none⟩ u) :=
  ⟨(Below.refl n₀ W).setCell (p := ⟨g, o, none⟩) hn u, fun i c' t' fr' _ ht' q => (Below.heap_setCell _ _ _ _ (fun e => by subst e; rw [h] at q; cases q; exact ht' ht)).trans q⟩
theorem infoSpanI : ∃ i, Tryz.prog.info? 73 = some i ∧ i.zero = some (.agg #[.int .i64 0, .int .i64 0]) ∧ i.size = 2 ∧ i.bytes = 16 := by
  obtain ⟨i, h⟩ := info_parts infoSpan
  exact ⟨i, h.1, h.2.1, h.2.2.1, h.2.2.2⟩

set_option maxRecDepth 100000 in
set_option maxHeartbeats 8000000 in
theorem gathered_any (gf : Nat) (lb : Array Value) (eg : ∀ args w, (callFunc gf args).run Tryz.prog w = .ok (.enter gf args) w) (n : Nat) (hn : n ≤ 1000000) (ys : List (Fin 1000000)) (w : World)
    (hst : ∀ w2, Below w.heap.size w w2 → w2.heap.size = w.heap.size + 1 + 1 → SeqStopsO RowT Fence.wide 4 Tryz.prog gf lb encPl (KF w.heap.size (w.heap.size + 1 + 1)) (fun xs => xs = ys) (fun pre => pre <+: ys) 1000000000000 w2) :
    Calls Tryz.prog 51 #[.func (.func gf) #[] lb, .int .i64 (n : Int)] w fun e W' => ∃ v, e = .returned v ∧ W'.ownsRow w.heap.size 73 2 v (gP (ys.take n)).length (spCells (gP (ys.take n))) ∧ Below w.heap.size w W' := by
  obtain ⟨i0, hi, hz0, hz1, hz2⟩ := infoSpanI
  have HI := Lib.hid (And.intro hi (And.intro hz0 (And.intro hz1 hz2)))
  have A0 := row_al (heap_new w (.cells #[.int .i64 (n : Int)] 3)) (.cells #[.slice none 0 0] 33)
  have A1 := heap_new1 w (.cells #[.int .i64 (n : Int)] 3) (.cells #[.slice none 0 0] 33)
  have AB : Below w.heap.size w ((w.alloc (.cells #[.int .i64 (n : Int)] 3)).alloc (.cells #[.slice none 0 0] 33)) := ((Below.refl _ w).alloc (Nat.le_refl _) _).alloc (by simp) _
  have AS : ((w.alloc (.cells #[.int .i64 (n : Int)] 3)).alloc (.cells #[.slice none 0 0] 33)).heap.size = w.heap.size + 1 + 1 := by simp
  clear hi hz0 hz1 hz2
  refine (callsIn_wide (n := 5)).1 ?_
  refine callsIn_of_wp_marks Tryz.func51 rfl trivial ?_ rfl
  simp only [Tryz.ntmps51, List.size_toArray, List.length_cons, List.length_nil, Nat.reduceAdd, Nat.reduceSub, Array.replicate_succ, Array.replicate_zero, List.push_toArray, List.append_toArray, List.nil_append, List.cons_append]
  gi_wp2
  generalize (w.alloc (.cells #[.int .i64 (n : Int)] 3)).alloc (.cells #[.slice none 0 0] 33) = w3 at A0 A1 AB AS ⊢
  have hst := hst w3 AB AS
  refine wpIn_rangeFunc_ownO RowT rfl (by decide) (gf := gf) (lb := lb) rfl trivial eg
    hst (fun h k => kf_t h k) (fun X l o o' h1 _ h3 h4 h5 => kf_b (w := w3) (by omega) X l o o' h1 h3 h4 h5) (fun _ => rfl)
    (fun pre X => (pre.length ≤ n ∧ X.heap[w.heap.size]? = some (.cells #[.int .i64 ((n - pre.length : Nat) : Int)] 3 (0, 0)) ∧ ∃ v, X.heap[w.heap.size + 1]? = some (.cells #[v] 33 (0, 0)) ∧ X.ownsRow w.heap.size 73 2 v (gP pre).length (spCells (gP pre))) ∧ Below w.heap.size w X)
    (fun c pre X => (c = .exit 0 ∧ pre.length = n + 1 ∧ ∃ v, X.heap[w.heap.size + 1]? = some (.cells #[v] 33 (0, 0)) ∧ X.ownsRow w.heap.size 73 2 v (gP (pre.take n)).length (spCells (gP (pre.take n)))) ∧ Below w.heap.size w X)
    (OwnFrom.and (Own.from (fun s A B row hs hg hr => ⟨hs.1, row_turn hs.2.1 hg hr, by obtain ⟨v, h1, h2⟩ := hs.2.2; exact ⟨v, row_turn h1 hg hr, own_turn h2 hg hr⟩⟩) _) (ownFrom_below (Nat.le_refl _) (by omega)))
    (fun c => OwnFrom.and (Own.from (fun s A B row hs hg hr => ⟨hs.1, hs.2.1, by obtain ⟨v, h1, h2⟩ := hs.2.2; exact ⟨v, row_turn h1 hg hr, own_turn h2 hg hr⟩⟩) _) (ownFrom_below (Nat.le_refl _) (by omega)))
    (fun s A B row hs hg hr => ⟨⟨hs.1.1, far_kept hg hr (by omega) hs.1.2.1, by obtain ⟨v, h1, h2⟩ := hs.1.2.2; exact ⟨v, far_kept hg hr (by omega) h1, own_turnT h2 hg (fun r e => (hr r e).2) (by unfold RowT; decide)⟩⟩, hs.2.grown hg (by have := hs.2.size; omega) (fun r e => by have := (hr r e).1; omega)⟩)
    (fun c s A B row hs hg hr => ⟨⟨hs.1.1, hs.1.2.1, by obtain ⟨v, h1, h2⟩ := hs.1.2.2; exact ⟨v, far_kept hg hr (by omega) h1, own_turnT h2 hg (fun r e => (hr r e).2) (by unfold RowT; decide)⟩⟩, hs.2.grown hg (by have := hs.2.size; omega) (fun r e => by have := (hr r e).1; omega)⟩)
    ⟨⟨Nat.zero_le _, by simpa using A0, _, A1, World.ownsRow_nil _ _ _ _⟩, AB⟩
    (fun x => { tmps := #[.func (.func gf) #[] lb, .int .i64 (n : Int), undef, .pointer (some ⟨w.heap.size, 0, none⟩), .slice none 0 0, .pointer (some ⟨w.heap.size + 1, 0, none⟩), .int .i64 (x.val : Int), undef, .func (.func gf) #[] lb, .int .i64 (x.val : Int), undef, undef, undef, undef, undef, undef, undef, undef, undef, undef, undef, undef, undef, undef, undef, undef, undef, undef, undef, undef, undef, undef, undef, undef, undef, undef, undef, undef, undef, undef, undef, undef, undef, undef, undef, undef, undef, undef], defers := [] }) ?assign ?body ?done ?stop
  case assign =>
    intro l x W K hK
    gi_wp2
    exact hK
  case body =>
    rintro l pre x X ⟨⟨hp, c0, v, c1, ho⟩, hB⟩ hlen
    have y0 := box_cell c0 0
    have y1 := box_cell c1 0
    have f0 := box_frozen c0 0
    have hlt := box_lt c1
    rcases Nat.eq_zero_or_pos (n - pre.length) with hz | hz
    · -- no more are asked
      rw [hz] at y0
      have HB := Lib.hid (And.intro c1 (And.intro ho hB))
      clear c0 c1 ho hB y1
      gi_wp2
      obtain ⟨c1, ho, hB⟩ := HB.out
      exact ⟨KeepsOthers.refl _, ⟨rfl, by simp; omega, v, c1, by rw [List.take_append_of_le_length (by omega), List.take_of_length_le (by omega)]; exact ho⟩, hB⟩
    · have hpz : (0 : Int) < ((n - pre.length : Nat) : Int) := by omega
      have hne : ((n - pre.length : Nat) : Int) ≠ 0 := by omega
      have hm1 : ((n - pre.length : Nat) : Int) - 1 = ((n - (pre.length + 1) : Nat) : Int) := by omega
      obtain ⟨M, hM⟩ : ∃ M : Int, ((n - pre.length : Nat) : Int) = M := ⟨_, rfl⟩
      rw [hM] at hpz hne hm1 y0 c0
      have hMb : M ≤ 1000000 := by omega
      have hwm : IntKind.i64.wrap (M - 1) = M - 1 := IntWalk.i64_in _ (by omega)
      have HM := Lib.hid (And.intro hM hm1)
      clear hM hm1
      have hgk := gath_ok (pre.map (·.val)) (fun p hq => by obtain ⟨z, _, rfl⟩ := List.mem_map.1 hq; exact z.isLt)
      rw [List.length_map] at hgk
      have hsnoc : gP (pre ++ [x]) = gath (pre.map (·.val) ++ [x.val]) := by unfold gP; rw [List.map_append]; rfl
      have hxv := x.isLt
      -- the world behind n--
      have hz0 : w.heap.size ≤ w.heap.size := Nat.le_refl _
      have d0 := box_set c0 0 (.int .i64 (M - 1))
      have d1 : (X.setCell ⟨w.heap.size, 0, none⟩ (.int .i64 (M - 1))).heap[w.heap.size + 1]? = _ := (box_other (by omega) 0 _).trans c1
      have do' := own_far ho c0 (by decide) 0 (.int .i64 (M - 1))
      have dB := hB.setCell (p := ⟨w.heap.size, 0, none⟩) hz0 (.int .i64 (M - 1))
      have dK := KeepsOthers.setCell X ⟨w.heap.size, 0, none⟩ (.int .i64 (M - 1))
      have dF : KF w.heap.size (w.heap.size + 1 + 1) X (X.setCell ⟨w.heap.size, 0, none⟩ (.int .i64 (M - 1))) := KF.set hz0 (by omega)
      rcases List.eq_nil_or_concat (gP pre) with e | ⟨r, s, e⟩
      · have hnew := gath_zero e x.val
        rw [← hsnoc] at hnew
        rw [e] at do'
        obtain ⟨ao, L, cap, rfl⟩ := slice_of ho
        have hL0 : L = 0 := by rcases do'.2 with ⟨q, h0⟩ | ⟨_, _, _, q, _⟩ <;> cases q <;> rfl
        subst hL0
        have HN := Lib.hid hnew
        have HD := Lib.hid (And.intro d0 (And.intro d1 (And.intro do' (And.intro dB (And.intro dK dF)))))
        clear hnew hsnoc hgk c0 c1 ho hB e d0 d1 do' dB dK dF
        gi_wp2
        generalize X.setCell ⟨w.heap.size, 0, none⟩ (.int .i64 (M - 1)) = Xn at HD ⊢
        refine region_bridge (ro := some l) (S := fun _ => True) (by kernel_rfl) (by kernel_rfl) (by rintro ⟨_, _, h⟩; exact h) trivial (fun hHeld => ?_)
        refine wpAnyH_take (i := 0) (v := ?_) rfl (by kernel_rfl) (by kernel_rfl) (by kernel_rfl) (fun _ _ _ h => h) (Or.inl ⟨rfl, ?hy1⟩) (by assumption) ?_
        case hy1 =>
          intro W hS
          go_simp
          try with_reducible rfl
        try simp only [Act.put, List.getElem_toArray, List.getElem_cons_zero, List.setIfInBounds_toArray, List.set_cons_zero, List.set_cons_succ]
        refine wpAnyH_take (i := 1) (v := ?_) rfl (by kernel_rfl) (by kernel_rfl) (by kernel_rfl) (fun _ _ _ h => h) (Or.inl ⟨rfl, ?hy2⟩) (by assumption) ?_
        case hy2 =>
          intro W hS
          go_simp
          try with_reducible rfl
        try simp only [Act.put, List.getElem_toArray, List.getElem_cons_succ, List.getElem_cons_zero, List.setIfInBounds_toArray, List.set_cons_zero, List.set_cons_succ]
        refine wpAnyH_take (i := 2) (v := ?_) rfl (by kernel_rfl) (by kernel_rfl) (by kernel_rfl) (fun _ _ _ h => h) (Or.inl ⟨rfl, ?hy3⟩) (by assumption) ?_
        case hy3 =>
          intro W hS
          go_simp
          try with_reducible rfl
        try simp only [Act.put, List.getElem_toArray, List.getElem_cons_succ, List.getElem_cons_zero, List.setIfInBounds_toArray, List.set_cons_zero, List.set_cons_succ]
        refine wpAnyH_take (i := 3) (v := undef) rfl (by kernel_rfl) (by kernel_rfl) (by kernel_rfl) (fun _ _ _ h => h) (Or.inr ⟨rfl, rfl⟩) (by assumption) ?_
        try simp only [Act.put, List.getElem_toArray, List.getElem_cons_succ, List.getElem_cons_zero, List.setIfInBounds_toArray, List.set_cons_zero, List.set_cons_succ]
        refine wpAnyH_take (i := 4) (v := undef) rfl (by kernel_rfl) (by kernel_rfl) (by kernel_rfl) (fun _ _ _ h => h) (Or.inr ⟨rfl, rfl⟩) (by assumption) ?_
        try simp only [Act.put, List.getElem_toArray, List.getElem_cons_succ, List.getElem_cons_zero, List.setIfInBounds_toArray, List.set_cons_zero, List.set_cons_succ]
        refine wpAnyH_take (i := 5) (v := undef) rfl (by kernel_rfl) (by kernel_rfl) (by kernel_rfl) (fun _ _ _ h => h) (Or.inr ⟨rfl, rfl⟩) (by assumption) ?_
        try simp only [Act.put, List.getElem_toArray, List.getElem_cons_succ, List.getElem_cons_zero, List.setIfInBounds_toArray, List.set_cons_zero, List.set_cons_succ]
        refine wpAnyH_take (i := 6) (v := undef) rfl (by kernel_rfl) (by kernel_rfl) (by kernel_rfl) (fun _ _ _ h => h) (Or.inr ⟨rfl, rfl⟩) (by assumption) ?_
        try simp only [Act.put, List.getElem_toArray, List.getElem_cons_succ, List.getElem_cons_zero, List.setIfInBounds_toArray, List.set_cons_zero, List.set_cons_succ]
        refine wpAnyH_take (i := 7) (v := undef) rfl (by kernel_rfl) (by kernel_rfl) (by kernel_rfl) (fun _ _ _ h => h) (Or.inr ⟨rfl, rfl⟩) (by assumption) ?_
        try simp only [Act.put, List.getElem_toArray, List.getElem_cons_succ, List.getElem_cons_zero, List.setIfInBounds_toArray, List.set_cons_zero, List.set_cons_succ]
        refine wpAnyH_take (i := 8) (v := undef) rfl (by kernel_rfl) (by kernel_rfl) (by kernel_rfl) (fun _ _ _ h => h) (Or.inr ⟨rfl, rfl⟩) (by assumption) ?_
        try simp only [Act.put, List.getElem_toArray, List.getElem_cons_succ, List.getElem_cons_zero, List.setIfInBounds_toArray, List.set_cons_zero, List.set_cons_succ]
        refine wpAnyH_take (i := 9) (v := undef) rfl (by kernel_rfl) (by kernel_rfl) (by kernel_rfl) (fun _ _ _ h => h) (Or.inr ⟨rfl, rfl⟩) (by assumption) ?_
        try simp only [Act.put, List.getElem_toArray, List.getElem_cons_succ, List.getElem_cons_zero, List.setIfInBounds_toArray, List.set_cons_zero, List.set_cons_succ]
        refine wpAnyH_take (i := 10) (v := undef) rfl (by kernel_rfl) (by kernel_rfl) (by kernel_rfl) (fun _ _ _ h => h) (Or.inr ⟨rfl, rfl⟩) (by assumption) ?_
        try simp only [Act.put, List.getElem_toArray, List.getElem_cons_succ, List.getElem_cons_zero, List.setIfInBounds_toArray, List.set_cons_zero, List.set_cons_succ]
        refine wpAnyH_take (i := 11) (v := undef) rfl (by kernel_rfl) (by kernel_rfl) (by kernel_rfl) (fun _ _ _ h => h) (Or.inr ⟨rfl, rfl⟩) (by assumption) ?_
        try simp only [Act.put, List.getElem_toArray, List.getElem_cons_succ, List.getElem_cons_zero, List.setIfInBounds_toArray, List.set_cons_zero, List.set_cons_succ]
        refine wpAnyH_take (i := 12) (v := undef) rfl (by kernel_rfl) (by kernel_rfl) (by kernel_rfl) (fun _ _ _ h => h) (Or.inr ⟨rfl, rfl⟩) (by assumption) ?_
        try simp only [Act.put, List.getElem_toArray, List.getElem_cons_succ, List.getElem_cons_zero, List.setIfInBounds_toArray, List.set_cons_zero, List.set_cons_succ]
        refine wpAnyH_take (i := 13) (v := undef) rfl (by kernel_rfl) (by kernel_rfl) (by kernel_rfl) (fun _ _ _ h => h) (Or.inr ⟨rfl, rfl⟩) (by assumption) ?_
        try simp only [Act.put, List.getElem_toArray, List.getElem_cons_succ, List.getElem_cons_zero, List.setIfInBounds_toArray, List.set_cons_zero, List.set_cons_succ]
        refine wpAnyH_take (i := 14) (v := undef) rfl (by kernel_rfl) (by kernel_rfl) (by kernel_rfl) (fun _ _ _ h => h) (Or.inr ⟨rfl, rfl⟩) (by assumption) ?_
        try simp only [Act.put, List.getElem_toArray, List.getElem_cons_succ, List.getElem_cons_zero, List.setIfInBounds_toArray, List.set_cons_zero, List.set_cons_succ]
        refine wpAnyH_take (i := 15) (v := undef) rfl (by kernel_rfl) (by kernel_rfl) (by kernel_rfl) (fun _ _ _ h => h) (Or.inr ⟨rfl, rfl⟩) (by assumption) ?_
        try simp only [Act.put, List.getElem_toArray, List.getElem_cons_succ, List.getElem_cons_zero, List.setIfInBounds_toArray, List.set_cons_zero, List.set_cons_succ]
        refine wpAnyH_take (i := 16) (v := ?_) rfl (by kernel_rfl) (by kernel_rfl) (by kernel_rfl) (fun _ _ _ h => h) (Or.inl ⟨rfl, ?hy4⟩) (by assumption) ?_
        case hy4 =>
          intro W hS
          go_simp
          try with_reducible rfl
        try simp only [Act.put, List.getElem_toArray, List.getElem_cons_succ, List.getElem_cons_zero, List.setIfInBounds_toArray, List.set_cons_zero, List.set_cons_succ]
        refine wpAnyH_done (by kernel_rfl) ?_ _
        have E0 : Xn.drew.heap[w.heap.size]? = _ := HD.out.1
        have E1 : Xn.drew.heap[w.heap.size + 1]? = _ := HD.out.2.1
        have EO := HD.out.2.2.1.drew
        have EB := HD.out.2.2.2.1.drew
        have EK := HD.out.2.2.2.2.1.trans (KeepsOthers.drew Xn)
        have EF := HD.out.2.2.2.2.2.drew
        generalize Xn.drew = Y at E0 E1 EO EB EK EF ⊢
        have z1 := box_cell E1 0
        have hbY : w.heap.size ≤ Y.heap.size := EB.size
        have a0 := row_al E0 (.cells #[.int .i64 (x.val : Int), .int .i64 1] 73)
        have a1 := row_al E1 (.cells #[.int .i64 (x.val : Int), .int .i64 1] 73)
        have ao' := EO.alloc (.cells #[.int .i64 (x.val : Int), .int .i64 1] 73)
        have aB := EB.alloc EB.size (.cells #[.int .i64 (x.val : Int), .int .i64 1] 73)
        have aK := EK.trans (KeepsOthers.alloc Y (.cells #[.int .i64 (x.val : Int), .int .i64 1] 73))
        have aF := kf_t EF (KF.alloc EB.size (.cells #[.int .i64 (x.val : Int), .int .i64 1] 73))
        have hys := box_lt E1
        have HE := Lib.hid (And.intro a0 (And.intro a1 (And.intro ao' (And.intro aB (And.intro aK aF)))))
        have hnews : ∀ j u, [Value.int .i64 (x.val : Int), .int .i64 1][j]? = some u → (Y.alloc (.cells #[.int .i64 (x.val : Int), .int .i64 1] 73)).cell? ((⟨Y.heap.size, 0, none⟩ : Addr).add j) = some u := fun j u hj => by
          have q := heap_new Y (.cells #[.int .i64 (x.val : Int), .int .i64 1] 73)
          match j, hj with
          | 0, hj => simp at hj; subst hj; exact box_cell q 0
          | 1, hj => simp at hj; subst hj; exact box_cell q 1
        have HNW := Lib.hid hnews
        clear E0 E1 EO EB EK EF a0 a1 ao' aB aK aF hnews
        gi_wp2_with (gi_at_builtin; go_must (refine wpListIn_append_own _ rfl _ _ 33 rfl w.heap.size 73 i0 (.agg #[.int .i64 0, .int .i64 0]) 2 16 Tryz.underlying33 HI.out.1 HI.out.2.1 HI.out.2.2.1 HI.out.2.2.2 rfl (by decide) _ _ _ rfl HE.out.2.2.1 ⟨Y.heap.size, 0, none⟩ 1 1 [.int .i64 (x.val : Int), .int .i64 1] rfl (by simp) HNW.out (by simp [Value.oneCell']) (by simp [maxLen]) (by simp) (by have := hbY; simp; omega) ?_; intro v' w4 hown' hgrow _; obtain ⟨g', cap', rfl⟩ := ownsRow_succ hown'; have i1 := row_grown HE.out.2.1 hgrow HE.out.2.2.1 (by decide); have z2 := box_cell i1 0; have zf := box_frozen i1 0))
        obtain ⟨a0, a1, ao', aB, aK, aF⟩ := HE.out
        have i0' := row_grown a0 hgrow ao' (by decide)
        have iB := below_grown aB hgrow ao' (Nat.le_refl _)
        have iK := aK.trans (KeepsOthers.of_grownBy hgrow (fun j o hj ho => by obtain ⟨_, cur', hc⟩ := own_typed ao' j hj; rw [hc] at ho; cases ho; rfl))
        have iF := kf_t aF (KF.grown (m₁ := w.heap.size + 1 + 1) hgrow aB.size (fun g e => by obtain ⟨q1, cur', hc⟩ := own_typed ao' g e; exact ⟨q1, .inr ⟨_, _, _, hc, .inl rfl⟩⟩))
        refine ⟨iK.trans (KeepsOthers.setCell _ _ _), kf_t iF (KF.set (by omega) (by omega)), ⟨by rw [List.length_append, List.length_singleton]; omega, ?nb, _, box_set i1 0 _, ?ow⟩, iB.setCell (p := ⟨w.heap.size + 1, 0, none⟩) (by show w.heap.size ≤ w.heap.size + 1; omega) _⟩
        case nb =>
          rw [List.length_append, List.length_singleton, ← HM.out.2]
          refine (box_other (by omega) 0 _).trans ?_
          simpa using i0'
        case ow =>
          rw [HN.out]
          exact own_far (by simpa [spCells] using hown') i1 (by decide) 0 _
      · rw [List.concat_eq_append] at e
        have hnew := gath_last e x.val
        rw [← hsnoc] at hnew
        unfold gP at e
        rw [e] at hgk
        have hs4 := hgk.2 s (by simp)
        have hR1 := hgk.1
        rw [List.length_append, List.length_singleton] at hR1
        have e' : gP pre = r ++ [s] := e
        rw [e'] at do'
        obtain ⟨R, hR⟩ : ∃ R, r.length = R := ⟨_, rfl⟩
        have hlr : (r ++ [s]).length = R + 1 := by rw [← hR]; simp
        rw [hlr] at do'
        rw [hR] at hR1
        obtain ⟨g0, cap, hvv, hgb, hgl⟩ := ownsRow_form do' (by omega)
        subst hvv
        have k0 := do'.cellAt (R * 2) (by omega)
        have k1 := do'.cellAt (R * 2 + 1) (by omega)
        have kf1 := do'.frozenAt (R * 2 + 1)
        rw [← hR] at k0 k1
        rw [(spCells_at (r ++ [s]) r.length (by simp)).1, show ((r ++ [s]).getD r.length (0, 0)) = s by simp [List.getD]] at k0
        rw [(spCells_at (r ++ [s]) r.length (by simp)).2, show ((r ++ [s]).getD r.length (0, 0)) = s by simp [List.getD]] at k1
        rw [hR] at k0 k1
        have hbump : (spCells (r ++ [s])).set (R * 2 + 1) (.int .i64 (s.2 + 1)) = spCells (r ++ [(s.1, s.2 + 1)]) := by rw [← hR]; exact spCells_bump r s (s.2 + 1)
        obtain ⟨_, gcur, hgr⟩ := own_typed do' g0 rfl
        obtain ⟨S1, hS1⟩ : ∃ z, s.1 = z := ⟨_, rfl⟩
        obtain ⟨S2, hS2⟩ : ∃ z, s.2 = z := ⟨_, rfl⟩
        rw [hS1, hS2] at hs4 hnew
        rw [hS1] at k0 hbump
        rw [hS2] at k1 hbump
        have hw1 : IntKind.i64.wrap (S1 + S2) = S1 + S2 := IntWalk.i64_in _ (by omega)
        have hw2 : IntKind.i64.wrap (S2 + 1) = S2 + 1 := IntWalk.i64_in _ (by omega)
        have hwx : IntKind.i64.wrap (x.val : Int) = (x.val : Int) := IntWalk.i64_in _ (by omega)
        have hRb : R + 1 ≤ 1000000 := by omega
        have HL0 := Lib.hid (show wrap64 (R : Int) = R by unfold wrap64; omega)
        have hRR : (R : Int) < (R : Int) + 1 := by omega
        have hR0 : (0 : Int) ≤ (R : Int) := by omega
        have hl1 : (((R + 1 : Nat) : Int) - 1).toNat = R := by omega
        have hl2 : (0 : Int) ≤ ((R + 1 : Nat) : Int) - 1 ∧ ((R + 1 : Nat) : Int) - 1 < ((R + 1 : Nat) : Int) := ⟨by omega, by omega⟩
        have hl3 : IntKind.i64.wrap (((R + 1 : Nat) : Int) - 1) = ((R + 1 : Nat) : Int) - 1 := IntWalk.i64_in _ (by omega)
        have hgd : (0 : Int) ≤ ((R + 1 : Nat) : Int) - 1 := hl2.1
        have HN := Lib.hid hnew
        have HD := Lib.hid (And.intro d0 (And.intro d1 (And.intro do' (And.intro dB (And.intro dK (And.intro dF (And.intro hbump (And.intro hgr (And.intro k0 (And.intro k1 hR))))))))))
        have hgb' : w.heap.size ≤ g0 := hgb
        have hkk0 := kf1
        clear hnew hsnoc hgk c0 c1 ho hB e e' hlr do' hbump hgr hR hS1 hS2 hs4 hl3 d0 d1 dB dK dF k0 k1 hR1 hgl hkk0 kf1
        gi_wp2
        try rw [HL0.out]
        by_cases hq : S1 + S2 = (x.val : Int)
        · have hsv : (S1 + S2 == (x.val : Int)) = true := beq_iff_eq.2 hq
          generalize X.setCell ⟨w.heap.size, 0, none⟩ (.int .i64 (M - 1)) = Xn at HD ⊢
          refine region_bridge (ro := some l) (S := fun Z => Z.heap[w.heap.size + 1]? = some (.cells #[.slice (some ⟨g0, 0, none⟩) (R + 1) cap] 33 (0, 0)) ∧ Z.cell? ⟨g0, R * 2, none⟩ = some (.int .i64 S1) ∧ Z.cell? ⟨g0, R * 2 + 1, none⟩ = some (.int .i64 S2)) (by kernel_rfl) (by kernel_rfl) (by rintro ⟨_, _, h⟩; exact h) ⟨HD.out.2.1, HD.out.2.2.2.2.2.2.2.2.1, HD.out.2.2.2.2.2.2.2.2.2.1⟩ (fun hHeld => ?_)
          refine wpAnyH_take (i := 0) (v := ?_) rfl (by kernel_rfl) (by kernel_rfl) (by kernel_rfl) (fun _ _ _ h => h) (Or.inl ⟨rfl, ?hy5⟩) (by assumption) ?_
          case hy5 =>
            intro W hS
            go_simp
            try with_reducible rfl
          try simp only [Act.put, List.getElem_toArray, List.getElem_cons_zero, List.setIfInBounds_toArray, List.set_cons_zero, List.set_cons_succ]
          refine wpAnyH_take (i := 1) (v := ?_) rfl (by kernel_rfl) (by kernel_rfl) (by kernel_rfl) (fun _ _ _ h => h) (Or.inl ⟨rfl, ?hy6⟩) (by assumption) ?_
          case hy6 =>
            intro W hS
            go_simp
            try with_reducible rfl
          try simp only [Act.put, List.getElem_toArray, List.getElem_cons_succ, List.getElem_cons_zero, List.setIfInBounds_toArray, List.set_cons_zero, List.set_cons_succ]
          refine wpAnyH_take (i := 2) (v := ?_) rfl (by kernel_rfl) (by kernel_rfl) (by kernel_rfl) (fun _ _ _ h => h) (Or.inl ⟨rfl, ?hy7⟩) (by assumption) ?_
          case hy7 =>
            intro W hS
            go_simp
            try with_reducible rfl
          try simp only [Act.put, List.getElem_toArray, List.getElem_cons_succ, List.getElem_cons_zero, List.setIfInBounds_toArray, List.set_cons_zero, List.set_cons_succ]
          refine wpAnyH_take (i := 3) (v := ?_) rfl (by kernel_rfl) (by kernel_rfl) (by kernel_rfl) (fun _ _ _ h => h) (Or.inl ⟨rfl, ?hy8⟩) (by assumption) ?_
          case hy8 =>
            intro W hS
            obtain ⟨s1, s2, s3⟩ := hS
            have u0 := box_cell s1 0
            go_simp
            try with_reducible rfl
          try simp only [Act.put, List.getElem_toArray, List.getElem_cons_succ, List.getElem_cons_zero, List.setIfInBounds_toArray, List.set_cons_zero, List.set_cons_succ]
          refine wpAnyH_take (i := 4) (v := ?_) rfl (by kernel_rfl) (by kernel_rfl) (by kernel_rfl) (fun _ _ _ h => h) (Or.inl ⟨rfl, ?hy9⟩) (by assumption) ?_
          case hy9 =>
            intro W hS
            go_simp
            try with_reducible rfl
          try simp only [Act.put, List.getElem_toArray, List.getElem_cons_succ, List.getElem_cons_zero, List.setIfInBounds_toArray, List.set_cons_zero, List.set_cons_succ]
          refine wpAnyH_take (i := 5) (v := ?_) rfl (by kernel_rfl) (by kernel_rfl) (by kernel_rfl) (fun _ _ _ h => h) (Or.inl ⟨rfl, ?hy10⟩) (by assumption) ?_
          case hy10 =>
            intro W hS
            go_simp
            try with_reducible rfl
          try simp only [Act.put, List.getElem_toArray, List.getElem_cons_succ, List.getElem_cons_zero, List.setIfInBounds_toArray, List.set_cons_zero, List.set_cons_succ]
          refine wpAnyH_take (i := 6) (v := ?_) rfl (by kernel_rfl) (by kernel_rfl) (by kernel_rfl) (fun _ _ _ h => h) (Or.inl ⟨rfl, ?hy11⟩) (by assumption) ?_
          case hy11 =>
            intro W hS
            go_simp
            try with_reducible rfl
          try simp only [Act.put, List.getElem_toArray, List.getElem_cons_succ, List.getElem_cons_zero, List.setIfInBounds_toArray, List.set_cons_zero, List.set_cons_succ]
          refine wpAnyH_take (i := 7) (v := ?_) rfl (by kernel_rfl) (by kernel_rfl) (by kernel_rfl) (fun _ _ _ h => h) (Or.inl ⟨rfl, ?hy12⟩) (by assumption) ?_
          case hy12 =>
            intro W hS
            obtain ⟨s1, s2, s3⟩ := hS
            have u0 := box_cell s1 0
            go_simp
            try with_reducible rfl
          try simp only [Act.put, List.getElem_toArray, List.getElem_cons_succ, List.getElem_cons_zero, List.setIfInBounds_toArray, List.set_cons_zero, List.set_cons_succ]
          refine wpAnyH_take (i := 8) (v := ?_) rfl (by kernel_rfl) (by kernel_rfl) (by kernel_rfl) (fun _ _ _ h => h) (Or.inl ⟨rfl, ?hy13⟩) (by assumption) ?_
          case hy13 =>
            intro W hS
            obtain ⟨s1, s2, s3⟩ := hS
            have u0 := box_cell s1 0
            go_simp
            try with_reducible rfl
          try simp only [Act.put, List.getElem_toArray, List.getElem_cons_succ, List.getElem_cons_zero, List.setIfInBounds_toArray, List.set_cons_zero, List.set_cons_succ]
          refine wpAnyH_take (i := 9) (v := ?_) rfl (by kernel_rfl) (by kernel_rfl) (by kernel_rfl) (fun _ _ _ h => h) (Or.inl ⟨rfl, ?hy14⟩) (by assumption) ?_
          case hy14 =>
            intro W hS
            go_simp
            try with_reducible rfl
          try simp only [Act.put, List.getElem_toArray, List.getElem_cons_succ, List.getElem_cons_zero, List.setIfInBounds_toArray, List.set_cons_zero, List.set_cons_succ]
          refine wpAnyH_take (i := 10) (v := ?_) rfl (by kernel_rfl) (by kernel_rfl) (by kernel_rfl) (fun _ _ _ h => h) (Or.inl ⟨rfl, ?hy15⟩) (by assumption) ?_
          case hy15 =>
            intro W hS
            go_simp
            try with_reducible rfl
          try simp only [Act.put, List.getElem_toArray, List.getElem_cons_succ, List.getElem_cons_zero, List.setIfInBounds_toArray, List.set_cons_zero, List.set_cons_succ]
          refine wpAnyH_take (i := 11) (v := ?_) rfl (by kernel_rfl) (by kernel_rfl) (by kernel_rfl) (fun _ _ _ h => h) (Or.inl ⟨rfl, ?hy16⟩) (by assumption) ?_
          case hy16 =>
            intro W hS
            go_simp
            try with_reducible rfl
          try simp only [Act.put, List.getElem_toArray, List.getElem_cons_succ, List.getElem_cons_zero, List.setIfInBounds_toArray, List.set_cons_zero, List.set_cons_succ]
          refine wpAnyH_take (i := 12) (v := ?_) rfl (by kernel_rfl) (by kernel_rfl) (by kernel_rfl) (fun _ _ _ h => h) (Or.inl ⟨rfl, ?hy17⟩) (by assumption) ?_
          case hy17 =>
            intro W hS
            obtain ⟨s1, s2, s3⟩ := hS
            have u0 := box_cell s1 0
            go_simp
            try with_reducible rfl
          try simp only [Act.put, List.getElem_toArray, List.getElem_cons_succ, List.getElem_cons_zero, List.setIfInBounds_toArray, List.set_cons_zero, List.set_cons_succ]
          refine wpAnyH_take (i := 13) (v := ?_) rfl (by kernel_rfl) (by kernel_rfl) (by kernel_rfl) (fun _ _ _ h => h) (Or.inl ⟨rfl, ?hy18⟩) (by assumption) ?_
          case hy18 =>
            intro W hS
            go_simp
            try with_reducible rfl
          try simp only [Act.put, List.getElem_toArray, List.getElem_cons_succ, List.getElem_cons_zero, List.setIfInBounds_toArray, List.set_cons_zero, List.set_cons_succ]
          refine wpAnyH_take (i := 14) (v := ?_) rfl (by kernel_rfl) (by kernel_rfl) (by kernel_rfl) (fun _ _ _ h => h) (Or.inl ⟨rfl, ?hy19⟩) (by assumption) ?_
          case hy19 =>
            intro W hS
            go_simp
            try with_reducible rfl
          try simp only [Act.put, List.getElem_toArray, List.getElem_cons_succ, List.getElem_cons_zero, List.setIfInBounds_toArray, List.set_cons_zero, List.set_cons_succ]
          refine wpAnyH_take (i := 15) (v := ?_) rfl (by kernel_rfl) (by kernel_rfl) (by kernel_rfl) (fun _ _ _ h => h) (Or.inl ⟨rfl, ?hy20⟩) (by assumption) ?_
          case hy20 =>
            intro W hS
            go_simp
            try with_reducible rfl
          try simp only [Act.put, List.getElem_toArray, List.getElem_cons_succ, List.getElem_cons_zero, List.setIfInBounds_toArray, List.set_cons_zero, List.set_cons_succ]
          refine wpAnyH_take (i := 16) (v := ?_) rfl (by kernel_rfl) (by kernel_rfl) (by kernel_rfl) (fun _ _ _ h => h) (Or.inl ⟨rfl, ?hy21⟩) (by assumption) ?_
          case hy21 =>
            intro W hS
            go_simp
            try with_reducible rfl
          try simp only [Act.put, List.getElem_toArray, List.getElem_cons_succ, List.getElem_cons_zero, List.setIfInBounds_toArray, List.set_cons_zero, List.set_cons_succ]
          refine wpAnyH_done (by kernel_rfl) ?_ _
          have E0 : Xn.drew.heap[w.heap.size]? = _ := HD.out.1
          have E1 : Xn.drew.heap[w.heap.size + 1]? = _ := HD.out.2.1
          have EO := HD.out.2.2.1.drew
          have EB := HD.out.2.2.2.1.drew
          have EK := HD.out.2.2.2.2.1.trans (KeepsOthers.drew Xn)
          have EF := HD.out.2.2.2.2.2.1.drew
          have EG : Xn.drew.heap[g0]? = _ := HD.out.2.2.2.2.2.2.2.1
          have EC : Xn.drew.cell? ⟨g0, R * 2 + 1, none⟩ = _ := HD.out.2.2.2.2.2.2.2.2.2.1
          generalize Xn.drew = Y at E0 E1 EO EB EK EF EG EC ⊢
          have z1 := box_cell E1 0
          have zf := EO.frozenAt (R * 2 + 1)
          have HE := Lib.hid (And.intro E0 (And.intro E1 (And.intro EO (And.intro EB (And.intro EK (And.intro EF EG))))))
          have HQ := Lib.hid hq
          clear E0 E1 EO EB EK EF EG hq hHeld
          gi_wp2
          obtain ⟨E0, E1, EO, EB, EK, EF, EG⟩ := HE.out
          have hst := (EO.stored (R * 2 + 1) (.int .i64 (S2 + 1))).1
          rw [HD.out.2.2.2.2.2.2.1] at hst
          refine ⟨EK.trans (KeepsOthers.setCell _ _ _), kf_t EF (KF.set_row hgb' EG (.inl rfl)), ⟨by rw [List.length_append, List.length_singleton]; omega, ?nb, _, (box_other (ne_box E1 EG (by decide)) _ _).trans E1, ?ow⟩, EB.setCell (p := ⟨g0, R * 2 + 1, none⟩) hgb' _⟩
          case nb =>
            rw [List.length_append, List.length_singleton, ← HM.out.2]
            refine (box_other (ne_box E0 EG (by decide)) _ _).trans ?_
            simpa using E0
          case ow =>
            rw [HN.out, if_pos HQ.out, List.length_append, List.length_singleton, HD.out.2.2.2.2.2.2.2.2.2.2]
            exact hst
        · have hsv : (S1 + S2 == (x.val : Int)) = false := beq_eq_false_iff_ne.2 hq
          generalize X.setCell ⟨w.heap.size, 0, none⟩ (.int .i64 (M - 1)) = Xn at HD ⊢
          refine region_bridge (ro := some l) (S := fun Z => Z.heap[w.heap.size + 1]? = some (.cells #[.slice (some ⟨g0, 0, none⟩) (R + 1) cap] 33 (0, 0)) ∧ Z.cell? ⟨g0, R * 2, none⟩ = some (.int .i64 S1) ∧ Z.cell? ⟨g0, R * 2 + 1, none⟩ = some (.int .i64 S2)) (by kernel_rfl) (by kernel_rfl) (by rintro ⟨_, _, h⟩; exact h) ⟨HD.out.2.1, HD.out.2.2.2.2.2.2.2.2.1, HD.out.2.2.2.2.2.2.2.2.2.1⟩ (fun hHeld => ?_)
          refine wpAnyH_take (i := 0) (v := ?_) rfl (by kernel_rfl) (by kernel_rfl) (by kernel_rfl) (fun _ _ _ h => h) (Or.inl ⟨rfl, ?hy22⟩) (by assumption) ?_
          case hy22 =>
            intro W hS
            go_simp
            try with_reducible rfl
          try simp only [Act.put, List.getElem_toArray, List.getElem_cons_zero, List.setIfInBounds_toArray, List.set_cons_zero, List.set_cons_succ]
          refine wpAnyH_take (i := 1) (v := ?_) rfl (by kernel_rfl) (by kernel_rfl) (by kernel_rfl) (fun _ _ _ h => h) (Or.inl ⟨rfl, ?hy23⟩) (by assumption) ?_
          case hy23 =>
            intro W hS
            go_simp
            try with_reducible rfl
          try simp only [Act.put, List.getElem_toArray, List.getElem_cons_succ, List.getElem_cons_zero, List.setIfInBounds_toArray, List.set_cons_zero, List.set_cons_succ]
          refine wpAnyH_take (i := 2) (v := ?_) rfl (by kernel_rfl) (by kernel_rfl) (by kernel_rfl) (fun _ _ _ h => h) (Or.inl ⟨rfl, ?hy24⟩) (by assumption) ?_
          case hy24 =>
            intro W hS
            go_simp
            try with_reducible rfl
          try simp only [Act.put, List.getElem_toArray, List.getElem_cons_succ, List.getElem_cons_zero, List.setIfInBounds_toArray, List.set_cons_zero, List.set_cons_succ]
          refine wpAnyH_take (i := 3) (v := ?_) rfl (by kernel_rfl) (by kernel_rfl) (by kernel_rfl) (fun _ _ _ h => h) (Or.inl ⟨rfl, ?hy25⟩) (by assumption) ?_
          case hy25 =>
            intro W hS
            obtain ⟨s1, s2, s3⟩ := hS
            have u0 := box_cell s1 0
            go_simp
            try with_reducible rfl
          try simp only [Act.put, List.getElem_toArray, List.getElem_cons_succ, List.getElem_cons_zero, List.setIfInBounds_toArray, List.set_cons_zero, List.set_cons_succ]
          refine wpAnyH_take (i := 4) (v := ?_) rfl (by kernel_rfl) (by kernel_rfl) (by kernel_rfl) (fun _ _ _ h => h) (Or.inl ⟨rfl, ?hy26⟩) (by assumption) ?_
          case hy26 =>
            intro W hS
            go_simp
            try with_reducible rfl
          try simp only [Act.put, List.getElem_toArray, List.getElem_cons_succ, List.getElem_cons_zero, List.setIfInBounds_toArray, List.set_cons_zero, List.set_cons_succ]
          refine wpAnyH_take (i := 5) (v := ?_) rfl (by kernel_rfl) (by kernel_rfl) (by kernel_rfl) (fun _ _ _ h => h) (Or.inl ⟨rfl, ?hy27⟩) (by assumption) ?_
          case hy27 =>
            intro W hS
            go_simp
            try with_reducible rfl
          try simp only [Act.put, List.getElem_toArray, List.getElem_cons_succ, List.getElem_cons_zero, List.setIfInBounds_toArray, List.set_cons_zero, List.set_cons_succ]
          refine wpAnyH_take (i := 6) (v := ?_) rfl (by kernel_rfl) (by kernel_rfl) (by kernel_rfl) (fun _ _ _ h => h) (Or.inl ⟨rfl, ?hy28⟩) (by assumption) ?_
          case hy28 =>
            intro W hS
            go_simp
            try with_reducible rfl
          try simp only [Act.put, List.getElem_toArray, List.getElem_cons_succ, List.getElem_cons_zero, List.setIfInBounds_toArray, List.set_cons_zero, List.set_cons_succ]
          refine wpAnyH_take (i := 7) (v := ?_) rfl (by kernel_rfl) (by kernel_rfl) (by kernel_rfl) (fun _ _ _ h => h) (Or.inl ⟨rfl, ?hy29⟩) (by assumption) ?_
          case hy29 =>
            intro W hS
            obtain ⟨s1, s2, s3⟩ := hS
            have u0 := box_cell s1 0
            go_simp
            try with_reducible rfl
          try simp only [Act.put, List.getElem_toArray, List.getElem_cons_succ, List.getElem_cons_zero, List.setIfInBounds_toArray, List.set_cons_zero, List.set_cons_succ]
          refine wpAnyH_take (i := 8) (v := ?_) rfl (by kernel_rfl) (by kernel_rfl) (by kernel_rfl) (fun _ _ _ h => h) (Or.inl ⟨rfl, ?hy30⟩) (by assumption) ?_
          case hy30 =>
            intro W hS
            obtain ⟨s1, s2, s3⟩ := hS
            have u0 := box_cell s1 0
            go_simp
            try with_reducible rfl
          try simp only [Act.put, List.getElem_toArray, List.getElem_cons_succ, List.getElem_cons_zero, List.setIfInBounds_toArray, List.set_cons_zero, List.set_cons_succ]
          refine wpAnyH_take (i := 9) (v := ?_) rfl (by kernel_rfl) (by kernel_rfl) (by kernel_rfl) (fun _ _ _ h => h) (Or.inl ⟨rfl, ?hy31⟩) (by assumption) ?_
          case hy31 =>
            intro W hS
            go_simp
            try with_reducible rfl
          try simp only [Act.put, List.getElem_toArray, List.getElem_cons_succ, List.getElem_cons_zero, List.setIfInBounds_toArray, List.set_cons_zero, List.set_cons_succ]
          refine wpAnyH_take (i := 10) (v := ?_) rfl (by kernel_rfl) (by kernel_rfl) (by kernel_rfl) (fun _ _ _ h => h) (Or.inl ⟨rfl, ?hy32⟩) (by assumption) ?_
          case hy32 =>
            intro W hS
            go_simp
            try with_reducible rfl
          try simp only [Act.put, List.getElem_toArray, List.getElem_cons_succ, List.getElem_cons_zero, List.setIfInBounds_toArray, List.set_cons_zero, List.set_cons_succ]
          refine wpAnyH_take (i := 11) (v := ?_) rfl (by kernel_rfl) (by kernel_rfl) (by kernel_rfl) (fun _ _ _ h => h) (Or.inl ⟨rfl, ?hy33⟩) (by assumption) ?_
          case hy33 =>
            intro W hS
            go_simp
            try with_reducible rfl
          try simp only [Act.put, List.getElem_toArray, List.getElem_cons_succ, List.getElem_cons_zero, List.setIfInBounds_toArray, List.set_cons_zero, List.set_cons_succ]
          refine wpAnyH_take (i := 12) (v := ?_) rfl (by kernel_rfl) (by kernel_rfl) (by kernel_rfl) (fun _ _ _ h => h) (Or.inl ⟨rfl, ?hy34⟩) (by assumption) ?_
          case hy34 =>
            intro W hS
            obtain ⟨s1, s2, s3⟩ := hS
            have u0 := box_cell s1 0
            go_simp
            try with_reducible rfl
          try simp only [Act.put, List.getElem_toArray, List.getElem_cons_succ, List.getElem_cons_zero, List.setIfInBounds_toArray, List.set_cons_zero, List.set_cons_succ]
          refine wpAnyH_take (i := 13) (v := ?_) rfl (by kernel_rfl) (by kernel_rfl) (by kernel_rfl) (fun _ _ _ h => h) (Or.inl ⟨rfl, ?hy35⟩) (by assumption) ?_
          case hy35 =>
            intro W hS
            go_simp
            try with_reducible rfl
          try simp only [Act.put, List.getElem_toArray, List.getElem_cons_succ, List.getElem_cons_zero, List.setIfInBounds_toArray, List.set_cons_zero, List.set_cons_succ]
          refine wpAnyH_take (i := 14) (v := ?_) rfl (by kernel_rfl) (by kernel_rfl) (by kernel_rfl) (fun _ _ _ h => h) (Or.inl ⟨rfl, ?hy36⟩) (by assumption) ?_
          case hy36 =>
            intro W hS
            go_simp
            try with_reducible rfl
          try simp only [Act.put, List.getElem_toArray, List.getElem_cons_succ, List.getElem_cons_zero, List.setIfInBounds_toArray, List.set_cons_zero, List.set_cons_succ]
          refine wpAnyH_take (i := 15) (v := ?_) rfl (by kernel_rfl) (by kernel_rfl) (by kernel_rfl) (fun _ _ _ h => h) (Or.inl ⟨rfl, ?hy37⟩) (by assumption) ?_
          case hy37 =>
            intro W hS
            go_simp
            try with_reducible rfl
          try simp only [Act.put, List.getElem_toArray, List.getElem_cons_succ, List.getElem_cons_zero, List.setIfInBounds_toArray, List.set_cons_zero, List.set_cons_succ]
          refine wpAnyH_take (i := 16) (v := ?_) rfl (by kernel_rfl) (by kernel_rfl) (by kernel_rfl) (fun _ _ _ h => h) (Or.inl ⟨rfl, ?hy38⟩) (by assumption) ?_
          case hy38 =>
            intro W hS
            go_simp
            try with_reducible rfl
          try simp only [Act.put, List.getElem_toArray, List.getElem_cons_succ, List.getElem_cons_zero, List.setIfInBounds_toArray, List.set_cons_zero, List.set_cons_succ]
          refine wpAnyH_done (by kernel_rfl) ?_ _
          have E0 : Xn.drew.heap[w.heap.size]? = _ := HD.out.1
          have E1 : Xn.drew.heap[w.heap.size + 1]? = _ := HD.out.2.1
          have EO := HD.out.2.2.1.drew
          have EB := HD.out.2.2.2.1.drew
          have EK := HD.out.2.2.2.2.1.trans (KeepsOthers.drew Xn)
          have EF := HD.out.2.2.2.2.2.1.drew
          have EG : Xn.drew.heap[g0]? = _ := HD.out.2.2.2.2.2.2.2.1
          have EC : Xn.drew.cell? ⟨g0, R * 2 + 1, none⟩ = _ := HD.out.2.2.2.2.2.2.2.2.2.1
          generalize Xn.drew = Y at E0 E1 EO EB EK EF EG EC ⊢
          clear EG EC
          have z1 := box_cell E1 0
          have hbY : w.heap.size ≤ Y.heap.size := EB.size
          have a0 := row_al E0 (.cells #[.int .i64 (x.val : Int), .int .i64 1] 73)
          have a1 := row_al E1 (.cells #[.int .i64 (x.val : Int), .int .i64 1] 73)
          have ao' := EO.alloc (.cells #[.int .i64 (x.val : Int), .int .i64 1] 73)
          have aB := EB.alloc EB.size (.cells #[.int .i64 (x.val : Int), .int .i64 1] 73)
          have aK := EK.trans (KeepsOthers.alloc Y (.cells #[.int .i64 (x.val : Int), .int .i64 1] 73))
          have aF := kf_t EF (KF.alloc EB.size (.cells #[.int .i64 (x.val : Int), .int .i64 1] 73))
          have hys := box_lt E1
          have HE := Lib.hid (And.intro a0 (And.intro a1 (And.intro ao' (And.intro aB (And.intro aK aF)))))
          have hnews : ∀ j u, [Value.int .i64 (x.val : Int), .int .i64 1][j]? = some u → (Y.alloc (.cells #[.int .i64 (x.val : Int), .int .i64 1] 73)).cell? ((⟨Y.heap.size, 0, none⟩ : Addr).add j) = some u := fun j u hj => by
            have q := heap_new Y (.cells #[.int .i64 (x.val : Int), .int .i64 1] 73)
            match j, hj with
            | 0, hj => simp at hj; subst hj; exact box_cell q 0
            | 1, hj => simp at hj; subst hj; exact box_cell q 1
          have HNW := Lib.hid hnews
          clear E0 E1 EO EB EK EF a0 a1 ao' aB aK aF hnews
          have HQ := Lib.hid hq
          clear hHeld
          gi_wp2_with (gi_at_builtin; go_must (refine wpListIn_append_own _ rfl _ _ 33 rfl w.heap.size 73 i0 (.agg #[.int .i64 0, .int .i64 0]) 2 16 Tryz.underlying33 HI.out.1 HI.out.2.1 HI.out.2.2.1 HI.out.2.2.2 rfl (by decide) _ _ _ rfl HE.out.2.2.1 ⟨Y.heap.size, 0, none⟩ 1 1 [.int .i64 (x.val : Int), .int .i64 1] rfl (by simp) HNW.out (by simp [Value.oneCell']) (by unfold maxLen; omega) (by omega) (by have := hbY; simp; omega) ?_; intro v' w4 hown' hgrow _; obtain ⟨g', cap', rfl⟩ := ownsRow_succ hown'; have i1 := row_grown HE.out.2.1 hgrow HE.out.2.2.1 (by decide); have z2 := box_cell i1 0; have zf := box_frozen i1 0))
          obtain ⟨a0, a1, ao', aB, aK, aF⟩ := HE.out
          have i0' := row_grown a0 hgrow ao' (by decide)
          have iB := below_grown aB hgrow ao' (Nat.le_refl _)
          have iK := aK.trans (KeepsOthers.of_grownBy hgrow (fun j o hj ho => by obtain ⟨_, cur', hc⟩ := own_typed ao' j hj; rw [hc] at ho; cases ho; rfl))
          have iF := kf_t aF (KF.grown (m₁ := w.heap.size + 1 + 1) hgrow aB.size (fun g e => by obtain ⟨q1, cur', hc⟩ := own_typed ao' g e; exact ⟨q1, .inr ⟨_, _, _, hc, .inl rfl⟩⟩))
          refine ⟨iK.trans (KeepsOthers.setCell _ _ _), kf_t iF (KF.set (by omega) (by omega)), ⟨by rw [List.length_append, List.length_singleton]; omega, ?nb, _, box_set i1 0 _, ?ow⟩, iB.setCell (p := ⟨w.heap.size + 1, 0, none⟩) (by show w.heap.size ≤ w.heap.size + 1; omega) _⟩
          case nb =>
            rw [List.length_append, List.length_singleton, ← HM.out.2]
            refine (box_other (by omega) 0 _).trans ?_
            simpa using i0'
          case ow =>
            rw [HN.out]
            exact own_far (by rw [if_neg HQ.out]; rw [List.length_append, List.length_append, List.length_singleton, List.length_singleton, HD.out.2.2.2.2.2.2.2.2.2.2, spCells_append (r ++ [s])]; exact hown') i1 (by decide) 0 _
  case done =>
    rintro D xs Z hD rfl ⟨⟨hp, c0, v, c1, ho⟩, hB⟩ hK
    rw [← List.take_of_length_le hp] at ho
    have z1 := box_cell c1 0
    have HO := Lib.hid (And.intro ho hB)
    obtain ⟨ao', n', cap', rfl⟩ := slice_of ho
    clear ho hB c0 c1 hp
    gi_wp2
    refine ⟨by simp, .inl ⟨_, _, rfl, run_takeDeferred hK, ?_⟩⟩
    have hBD := belowK_b (w := w) (Nat.le_refl _) Z D _ (.deferred none) (by omega) hK rfl rfl
    exact ⟨_, results_tmp rfl _ _ _, _, rfl, own_turn HO.out.1 (grownBy_putObj' Z D (.deferred none)) (fun r e => by cases e; exact ⟨_, hK, rfl⟩), HO.out.2.trans hBD⟩
  case stop =>
    rintro D c pre Z hD hpre ⟨⟨rfl, hl, v, c1, ho⟩, hB⟩ hK
    have htk : pre.take n = ys.take n := by
      obtain ⟨t, rfl⟩ := hpre
      rw [List.take_append_of_le_length (by omega)]
    rw [htk] at ho
    have z1 := box_cell c1 0
    have HO := Lib.hid (And.intro ho hB)
    obtain ⟨ao', n', cap', rfl⟩ := slice_of ho
    clear ho hB c1 hl htk hpre
    gi_wp2
    refine ⟨by simp, .inl ⟨_, _, rfl, run_takeDeferred hK, ?_⟩⟩
    have hBD := belowK_b (w := w) (Nat.le_refl _) Z D _ (.deferred none) (by omega) hK rfl rfl
    exact ⟨_, results_tmp rfl _ _ _, _, rfl, own_turn HO.out.1 (grownBy_putObj' Z D (.deferred none)) (fun r e => by cases e; exact ⟨_, hK, rfl⟩), HO.out.2.trans hBD⟩
end Go.Proofs.YtfoglciiefoodaaGreatDoor

namespace Go.Proofs.YtfoglciiefoodaaGreatDoor

theorem pos_live (l : List PCell) (k : Nat) : (posOf false (l.take k) 0).length = cSeen l k := by rw [posOf_length]; rfl
theorem posOf_some (l : List PCell) (g : Bool) (k : Nat) (hk : k < l.length) : ∃ c, l[k]? = some c ∧ posOf g (l.take (k + 1)) 0 = posOf g (l.take k) 0 ++ (if c.gone = g then [k] else []) := by
  obtain ⟨c, hc⟩ := getC_some (l := l) hk
  refine ⟨c, hc, ?_⟩
  rw [posOf_snoc g hc, Nat.zero_add]
theorem pos_gap (l : List PCell) (i : Nat) : ∀ k, k ≤ l.length → (posOf false (l.take k) 0)[i]? = gapTo l i k
  | 0, _ => by simp [posOf, gapTo]
  | k + 1, hk => by
    obtain ⟨c, hc, e⟩ := posOf_some l false k (by omega)
    have ih := pos_gap l i k (by omega)
    have hl := pos_live l k
    rw [e, gapTo_next, ← ih]
    have hok : gapOk l i k = (!c.gone && decide ((cSeen l k : Int) = i)) := by unfold gapOk; rw [hc]
    rw [hok]
    cases hg : c.gone with
    | true => simp
    | false =>
      rw [if_pos rfl]
      rcases Nat.lt_trichotomy i (cSeen l k) with h | h | h
      · rw [List.getElem?_append_left (by omega), List.getElem?_eq_getElem (by omega)]
        simp
      · rw [List.getElem?_append_right (by omega), hl, h, List.getElem?_eq_none (l := posOf false (l.take k) 0) (by omega)]
        simp
      · rw [List.getElem?_append_right (by omega), hl, List.getElem?_eq_none (l := posOf false (l.take k) 0) (by omega), List.getElem?_eq_none (by simp; omega)]
        have : ¬ ((cSeen l k : Int) = (i : Int)) := by omega
        simp [this]
theorem gap_pos (l : List PCell) (i : Nat) : cGap l i = match (posOf false l 0)[i]? with
  | some p => (p : Int)
  | none => if (cLive l : Int) = i then (l.length : Int) else -1 := by
  have h := pos_gap l i l.length (Nat.le_refl _)
  rw [List.take_length] at h
  unfold cGap
  rw [h]
  rfl
theorem pos_run (l : List PCell) (i n : Nat) : ∀ k, k ≤ l.length → (List.range k).filter (runB l i n) = ((posOf false (l.take k) 0).drop i).take n
  | 0, _ => by simp [posOf]
  | k + 1, hk => by
    obtain ⟨c, hc, e⟩ := posOf_some l false k (by omega)
    have ih := pos_run l i n k (by omega)
    have hl := pos_live l k
    rw [List.range_succ, List.filter_append, ih, e]
    have hok : runB l i n k = (!c.gone && (decide ((i : Int) ≤ (cSeen l k : Int)) && decide ((cSeen l k : Int) - i < n))) := by unfold runB; rw [hc]
    cases hg : c.gone with
    | true =>
      rw [hg] at hok
      simp [hok]
    | false =>
      rw [hg] at hok
      rw [if_pos rfl]
      by_cases h1 : i ≤ cSeen l k
      · rw [List.drop_append_of_le_length (by omega), List.take_append, List.length_drop, hl]
        by_cases h2 : cSeen l k - i < n
        · have : runB l i n k = true := by rw [hok]; simp; omega
          rw [show List.filter (runB l i n) [k] = [k] by simp [this]]
          congr 1
          rw [List.take_of_length_le (by simp; omega)]
        · have : runB l i n k = false := by rw [hok]; simp; omega
          rw [show List.filter (runB l i n) [k] = [] by simp [this], show n - (cSeen l k - i) = 0 by omega, List.take_zero]
      · have : runB l i n k = false := by rw [hok]; simp; omega
        rw [show List.filter (runB l i n) [k] = [] by simp [this], List.append_nil, List.drop_of_length_le (by omega), List.drop_of_length_le (by rw [List.length_append, hl]; simp; omega)]
theorem pos_gone (l : List PCell) : ∀ k, k ≤ l.length → (List.range k).filter (goneB l) = posOf true (l.take k) 0
  | 0, _ => by simp [posOf]
  | k + 1, hk => by
    obtain ⟨c, hc, e⟩ := posOf_some l true k (by omega)
    rw [List.range_succ, List.filter_append, pos_gone l k (by omega), e]
    congr 1
    have := goneB_at hc
    cases hg : c.gone <;> rw [hg] at this <;> simp [this]
theorem range_more {f : Nat → Bool} {n : Nat} (hf : ∀ p, n ≤ p → f p = false) : ∀ m, n ≤ m → (List.range m).filter f = (List.range n).filter f := by
  intro m hm
  obtain ⟨d, rfl⟩ : ∃ d, m = n + d := ⟨m - n, by omega⟩
  induction d with
  | zero => rfl
  | succ d ih =>
    rw [← Nat.add_assoc, List.range_succ, List.filter_append, ih (by omega)]
    simp [hf (n + d) (by omega)]
theorem gone_pos {l : List PCell} (h : l.length ≤ 20000) : cGone l = gath (posOf true l 0) := by
  unfold cGone
  rw [gath_made, range_more (fun p hp => goneB_out hp) 20000 h, pos_gone l l.length (Nat.le_refl _), List.take_length]
theorem run_pos {l : List PCell} (h : l.length ≤ 20000) (i n : Nat) : cRun l i n = gath (((posOf false l 0).drop i).take n) := by
  unfold cRun
  have hr := pos_run l i n l.length (Nat.le_refl _)
  rw [List.take_length] at hr
  rw [gath_made, range_more (fun p hp => by unfold runB; rw [List.getElem?_eq_none hp]) 20000 h, hr]
theorem yl_vals {few : Nat} {q : List Nat} (h : ∀ p ∈ q, p < 1000000) (n : Nat) : gP ((yl few q).take n) = gath ((q.drop few).take n) := by
  unfold gP yl
  rw [← List.map_take, List.map_map]
  congr 1
  have : ∀ p ∈ (q.drop few).take n, ((fun x : Fin 1000000 => x.val) ∘ toP) p = p := fun p hp => toP_val (h p (List.mem_of_mem_drop (List.mem_of_mem_take hp)))
  rw [List.map_congr_left this, List.map_id']
end Go.Proofs.YtfoglciiefoodaaGreatDoor

namespace Go.Proofs.YtfoglciiefoodaaGreatDoor
open Go.RowKit Go.Shelf
attribute [local go_sem] Oper.semAt_some

set_option maxHeartbeats 1000000 in
theorem places_any (p : Option Addr) (g : Bool) (few : Int) (w : World) :
    Calls Tryz.prog 52 #[.pointer p, .bool g, .int .i64 few] w fun e w' => e = .returned (.func (.func 81) #[] #[.pointer (some ⟨w.heap.size + 2, 0, none⟩), .pointer (some ⟨w.heap.size, 0, none⟩), .pointer (some ⟨w.heap.size + 1, 0, none⟩)]) ∧
      w' = ((w.alloc (.cells #[.pointer p] 26)).alloc (.cells #[.bool g] 4)).alloc (.cells #[.int .i64 few] 3) := by
  go_enter Tryz.func52, Tryz.ntmps52
  go_wp2
  go_ret
  exact ⟨rfl, rfl⟩
theorem gap_results (W : World) (tm : Array Value) (P E : Nat) (a b : Int) (h4 : tm.getD 4 undef = .pointer (some ⟨P, 0, none⟩)) (h5 : tm.getD 5 undef = .pointer (some ⟨E, 0, none⟩)) (e0 : W.cell? ⟨P, 0, none⟩ = some (.int .i64 a)) (e1 : W.cell? ⟨E, 0, none⟩ = some (.int .i64 b)) :
    (results Tryz.f24 tm).run Tryz.prog W = .ok (.tuple #[.int .i64 a, .int .i64 b]) W := by
  have h4' : tm[4]?.getD undef = .pointer (some ⟨P, 0, none⟩) := by simpa using h4
  have h5' : tm[5]?.getD undef = .pointer (some ⟨E, 0, none⟩) := by simpa using h5
  simp [results, Tryz.f24, go_sem, h4', h5', e0, e1]
set_option maxRecDepth 100000 in
set_option maxHeartbeats 8000000 in
theorem dgap_no (B : Nat) (bv nm : Value) (bs : List PB) (i : Int) (w : World) (hR : DocR w B bv nm bs) (hi : i < 0 ∨ (liveN (catB bs) : Int) < i) :
    Calls Tryz.prog 24 #[.pointer (some ⟨B, 0, none⟩), .int .i64 i] w fun e W' => e = .returned (.tuple #[.int .i64 0, .int .i64 3]) ∧ Below w.heap.size w W' := by
  have A0 := row_al (heap_new w (.cells #[.int .i64 0] 3)) (.cells #[.int .i64 0] 27)
  have A1 := heap_new1 w (.cells #[.int .i64 0] 3) (.cells #[.int .i64 0] 27)
  have AB : Below w.heap.size w ((w.alloc (.cells #[.int .i64 0] 3)).alloc (.cells #[.int .i64 0] 27)) := ((Below.refl _ w).alloc (Nat.le_refl _) _).alloc (by simp) _
  have hL := fun W (hb : Below w.heap.size w W) => dlive_any (some ⟨B, 0, none⟩) (liveN (catB bs)) (goneN (catB bs)) W (whole_any B bv nm bs W (hR.below hb))
  have HL := Lib.hid hL
  clear hL hR
  have HA := Lib.hid (And.intro A0 (And.intro A1 AB))
  have z0 := box_cell A0 0
  have z1 := box_cell A1 0
  have f0 := box_frozen A0 0
  have f1 := box_frozen A1 0
  clear A0 A1 AB
  by_cases hn : i < 0
  · clear hi
    go_enter Tryz.func24, Tryz.ntmps24
    go_wp2
    have r0 := row_al (heap_new w (.cells #[.int .i64 0] 3)) (.cells #[.int .i64 3] 27)
    have r1 := heap_new1 w (.cells #[.int .i64 0] 3) (.cells #[.int .i64 3] 27)
    exact bodyPost_ret (gap_results _ _ w.heap.size (w.heap.size + 1) 0 3 rfl rfl (box_cell r0 0) (box_cell r1 0)) rfl ⟨rfl, ((Below.refl _ w).alloc (Nat.le_refl _) _).alloc (by simp) _⟩
  · have hg : (liveN (catB bs) : Int) < i := by omega
    clear hi
    go_enter Tryz.func24, Tryz.ntmps24
    go_wp2_with fail
    refine (HL.out _ HA.out.2.2).mono ?_
    rintro e w1 ⟨rfl, hb1⟩
    obtain ⟨q0, q1, qb⟩ := HA.out
    have s0 := row_up q0 hb1
    have s1 := row_up q1 hb1
    have sB := qb.trans (hb1.mono qb.size)
    have y0 := box_cell s0 0
    have y1 := box_cell s1 0
    have g0 := box_frozen s0 0
    have g1 := box_frozen s1 0
    have HS := Lib.hid (And.intro s0 (And.intro s1 sB))
    clear q0 q1 qb s0 s1 sB hb1 z0 z1 f0 f1
    go_wp2
    obtain ⟨q0, q1, qb⟩ := HS.out
    have r0 := (box_other (B := w.heap.size + 1) (by omega) 0 (.int .i64 3)).trans (box_set q0 0 (.int .i64 0))
    have r1 := box_set ((box_other (B := w.heap.size) (by omega) 0 (.int .i64 0)).trans q1) 0 (.int .i64 3)
    exact bodyPost_ret (gap_results _ _ w.heap.size (w.heap.size + 1) 0 3 rfl rfl (box_cell r0 0) (box_cell r1 0)) rfl ⟨rfl, (qb.setCell (p := ⟨w.heap.size, 0, none⟩) (Nat.le_refl _) _).setCell (p := ⟨w.heap.size + 1, 0, none⟩) (by show w.heap.size ≤ w.heap.size + 1; omega) _⟩
set_option maxRecDepth 100000 in
set_option maxHeartbeats 8000000 in
theorem dgap_yes (B : Nat) (bv nm : Value) (bs : List PB) (i : Nat) (w : World) (hR : DocR w B bv nm bs) (hi : i ≤ liveN (catB bs)) :
    Calls Tryz.prog 24 #[.pointer (some ⟨B, 0, none⟩), .int .i64 (i : Int)] w fun e W' => e = .returned (.tuple #[.int .i64 (cGap (catB bs) i), .int .i64 0]) ∧ Below w.heap.size w W' := by
  have hall := liveN_gone (catB bs)
  have hroom := hR.room
  have HR := Lib.hid hR
  have A0 := row_al (heap_new w (.cells #[.int .i64 0] 3)) (.cells #[.int .i64 0] 27)
  have A1 := heap_new1 w (.cells #[.int .i64 0] 3) (.cells #[.int .i64 0] 27)
  have AB : Below w.heap.size w ((w.alloc (.cells #[.int .i64 0] 3)).alloc (.cells #[.int .i64 0] 27)) := ((Below.refl _ w).alloc (Nat.le_refl _) _).alloc (by simp) _
  have AS : ((w.alloc (.cells #[.int .i64 0] 3)).alloc (.cells #[.int .i64 0] 27)).heap.size = w.heap.size + 1 + 1 := by simp
  have hL := fun W (hb : Below w.heap.size w W) => dlive_any (some ⟨B, 0, none⟩) (liveN (catB bs)) (goneN (catB bs)) W (whole_any B bv nm bs W (hR.below hb))
  have hZ := fun W (hb : Below w.heap.size w W) => dsize_any (some ⟨B, 0, none⟩) (liveN (catB bs)) (goneN (catB bs)) W (by omega) (whole_any B bv nm bs W (hR.below hb))
  rw [hall] at hZ
  have HL := Lib.hid hL
  have HZ := Lib.hid hZ
  have hpl := fun W => places_any (some ⟨B, 0, none⟩) false (i : Int) W
  have HA := Lib.hid (And.intro A0 (And.intro A1 (And.intro AB AS)))
  have HG := Lib.hid (gap_pos (catB bs) i)
  have hi' : ¬ (i : Int) < 0 := by omega
  have hi2 : ¬ ((liveN (catB bs) : Nat) : Int) < (i : Int) := by omega
  clear hL hR hZ A0 A1 AB AS
  refine (callsIn_wide (n := 5)).1 ?_
  refine callsIn_of_wp_marks Tryz.func24 rfl trivial ?_ rfl
  simp only [Tryz.ntmps24, List.size_toArray, List.length_cons, List.length_nil, Nat.reduceAdd, Nat.reduceSub, Array.replicate_succ, Array.replicate_zero, List.push_toArray, List.append_toArray, List.nil_append, List.cons_append]
  gi_wp2_with (refine ⟨trivial, ?_⟩; first
    | (gi_at_call 16; refine (callsIn_wide.2 (HL.out _ HA.out.2.2.1)).mono ?_; rintro e w1 ⟨rfl, hb1⟩)
    | (gi_at_call 52; refine (callsIn_wide.2 (hpl _)).mono ?_; rintro e _ ⟨rfl, rfl⟩))
  rename World => w1
  obtain ⟨q0, q1, qb, qs⟩ := HA.out
  have hz1 := hb1.size
  rw [qs] at hz1
  have A0 := row_al (row_al (row_al (row_up q0 hb1) (.cells #[.pointer (some ⟨B, 0, none⟩)] 26)) (.cells #[.bool false] 4)) (.cells #[.int .i64 (i : Int)] 3)
  have A1 := row_al (row_al (row_al (row_up q1 hb1) (.cells #[.pointer (some ⟨B, 0, none⟩)] 26)) (.cells #[.bool false] 4)) (.cells #[.int .i64 (i : Int)] 3)
  have Ad := row_al (row_al (heap_new w1 (.cells #[.pointer (some ⟨B, 0, none⟩)] 26)) (.cells #[.bool false] 4)) (.cells #[.int .i64 (i : Int)] 3)
  have Ag := row_al (heap_new1 w1 (.cells #[.pointer (some ⟨B, 0, none⟩)] 26) (.cells #[.bool false] 4)) (.cells #[.int .i64 (i : Int)] 3)
  have Af := heap_new2 w1 (.cells #[.pointer (some ⟨B, 0, none⟩)] 26) (.cells #[.bool false] 4) (.cells #[.int .i64 (i : Int)] 3)
  have hb2 : Below w1.heap.size w1 (((w1.alloc (.cells #[.pointer (some ⟨B, 0, none⟩)] 26)).alloc (.cells #[.bool false] 4)).alloc (.cells #[.int .i64 (i : Int)] 3)) := (((Below.refl _ w1).alloc (Nat.le_refl _) _).alloc (by simp) _).alloc (by simp; omega) _
  have AB : Below w.heap.size w (((w1.alloc (.cells #[.pointer (some ⟨B, 0, none⟩)] 26)).alloc (.cells #[.bool false] 4)).alloc (.cells #[.int .i64 (i : Int)] 3)) := (qb.trans (hb1.mono qb.size)).trans (hb2.mono (by omega))
  have AS : (((w1.alloc (.cells #[.pointer (some ⟨B, 0, none⟩)] 26)).alloc (.cells #[.bool false] 4)).alloc (.cells #[.int .i64 (i : Int)] 3)).heap.size = w1.heap.size + 1 + 1 + 1 := by simp
  generalize ((w1.alloc (.cells #[.pointer (some ⟨B, 0, none⟩)] 26)).alloc (.cells #[.bool false] 4)).alloc (.cells #[.int .i64 (i : Int)] 3) = w3 at A0 A1 Ad Ag Af AB AS ⊢
  clear q0 q1 qb qs hb1 hb2
  have hst := places_stops (w1.heap.size + 2) w1.heap.size (w1.heap.size + 1) w.heap.size w1.heap.size B bv nm bs false i (by omega) w rfl HR.out w3 AB (by omega) Af Ad Ag (.inr (by omega)) (.inr (Nat.le_refl _)) (.inr (by omega))
  refine wpIn_rangeFunc_ownO RowT rfl (by decide) (gf := 81) (lb := #[.pointer (some ⟨w1.heap.size + 2, 0, none⟩), .pointer (some ⟨w1.heap.size, 0, none⟩), .pointer (some ⟨w1.heap.size + 1, 0, none⟩)]) rfl trivial (enters_of Tryz.func81 (by kernel_rfl) rfl)
    hst (fun h k => kf_t h k) (fun X l o o' h1 _ h3 h4 h5 => kf_b (w := w3) (by omega) X l o o' h1 h3 h4 h5) (fun _ => rfl)
    (fun pre X => (pre = [] ∧ X.heap[w.heap.size]? = some (.cells #[.int .i64 0] 3 (0, 0)) ∧ X.heap[w.heap.size + 1]? = some (.cells #[.int .i64 0] 27 (0, 0))) ∧ Below w.heap.size w X)
    (fun c pre X => (c = .ret ∧ ∃ p, pre = [p] ∧ X.heap[w.heap.size]? = some (.cells #[.int .i64 (p.val : Int)] 3 (0, 0)) ∧ X.heap[w.heap.size + 1]? = some (.cells #[.int .i64 0] 27 (0, 0))) ∧ Below w.heap.size w X)
    (OwnFrom.and (Own.from (fun s A B row hs hg hr => ⟨hs.1, row_turn hs.2.1 hg hr, row_turn hs.2.2 hg hr⟩) _) (ownFrom_below (Nat.le_refl _) (by omega)))
    (fun c => OwnFrom.and (Own.from (fun s A B row hs hg hr => ⟨hs.1, by obtain ⟨p, h0, h1, h2⟩ := hs.2; exact ⟨p, h0, row_turn h1 hg hr, row_turn h2 hg hr⟩⟩) _) (ownFrom_below (Nat.le_refl _) (by omega)))
    (fun s A B row hs hg hr => ⟨⟨hs.1.1, far_kept hg hr (by omega) hs.1.2.1, far_kept hg hr (by omega) hs.1.2.2⟩, hs.2.grown hg (by have := hs.2.size; omega) (fun r e => by have := (hr r e).1; omega)⟩)
    (fun c s A B row hs hg hr => ⟨⟨hs.1.1, by obtain ⟨p, h0, h1, h2⟩ := hs.1.2; exact ⟨p, h0, far_kept hg hr (by omega) h1, far_kept hg hr (by omega) h2⟩⟩, hs.2.grown hg (by have := hs.2.size; omega) (fun r e => by have := (hr r e).1; omega)⟩)
    ⟨⟨rfl, A0, A1⟩, AB⟩
    (fun x => { tmps := #[.pointer (some ⟨B, 0, none⟩), .int .i64 (i : Int), undef, undef, .pointer (some ⟨w.heap.size, 0, none⟩), .pointer (some ⟨w.heap.size + 1, 0, none⟩), .int .i64 (x.val : Int), .pointer (some ⟨B, 0, none⟩), .bool false, .int .i64 (i : Int), .bool false, .bool false, .int .i64 (i : Int), .pointer (some ⟨B, 0, none⟩), .int .i64 (liveN (catB bs) : Nat), .bool false, .bool false, .pointer (some ⟨B, 0, none⟩), .int .i64 (i : Int), .func (.func 81) #[] #[.pointer (some ⟨w1.heap.size + 2, 0, none⟩), .pointer (some ⟨w1.heap.size, 0, none⟩), .pointer (some ⟨w1.heap.size + 1, 0, none⟩)], .int .i64 (x.val : Int), undef, undef, undef], defers := [] }) ?assign ?body ?done ?stop
  case assign =>
    intro l x W K hK
    gi_wp2
    exact hK
  case body =>
    rintro l pre x X ⟨⟨rfl, c0, c1⟩, hB⟩ _
    have z0 := box_cell c0 0
    have z1 := box_cell c1 0
    have f0 := box_frozen c0 0
    have f1 := box_frozen c1 0
    have HC := Lib.hid (And.intro c0 (And.intro c1 hB))
    clear c0 c1 hB
    gi_wp2
    obtain ⟨c0, c1, hB⟩ := HC.out
    have r0 := (box_other (k := w.heap.size) (B := w.heap.size + 1) (by omega) 0 (.int .i64 0)).trans (box_set c0 0 (.int .i64 (x.val : Int)))
    have r1 := box_set ((box_other (k := w.heap.size + 1) (B := w.heap.size) (by omega) 0 (.int .i64 (x.val : Int))).trans c1) 0 (.int .i64 0)
    exact ⟨(KeepsOthers.setCell _ _ _).trans (KeepsOthers.setCell _ _ _), ⟨rfl, x, rfl, r0, r1⟩, (hB.setCell (p := ⟨w.heap.size, 0, none⟩) (Nat.le_refl _) _).setCell (p := ⟨w.heap.size + 1, 0, none⟩) (by show w.heap.size ≤ w.heap.size + 1; omega) _⟩
  case done =>
    rintro D xs Z hD hys ⟨⟨rfl, c0, c1⟩, hB⟩ hK
    have hno : (posOf false (catB bs) 0)[i]? = none := by
      unfold yl at hys
      have h2 := congrArg List.length hys
      rw [List.length_map, List.length_drop] at h2
      simp at h2
      exact List.getElem?_eq_none (by omega)
    have hgp := HG.out
    rw [hno] at hgp
    have hpl2 := pos_live (catB bs) (catB bs).length
    rw [List.take_length] at hpl2
    have hlen : liveN (catB bs) ≤ i := by
      have := List.getElem?_eq_none_iff.1 hno
      rw [posOf_length] at this
      simpa using this
    have hcl : cLive (catB bs) = liveN (catB bs) := by unfold cLive cSeen liveN; rw [List.take_length]
    dsimp only at hgp
    rw [if_pos (by rw [hcl]; omega)] at hgp
    have HGP := Lib.hid hgp
    have hZ2 := HZ.out Z hB
    have HZ2 := Lib.hid hZ2
    have HC := Lib.hid (And.intro c0 (And.intro c1 hB))
    clear hgp hno hys hpl2 hlen hcl hZ2 c0 c1 hB
    gi_wp2_with (refine ⟨trivial, ?_⟩; gi_at_call 15; refine (callsIn_wide.2 HZ2.out).mono ?_; rintro e w5 ⟨rfl, hb5⟩; have s0 := row_up HC.out.1 hb5; have s1 := row_up HC.out.2.1 hb5; have z0 := box_cell s0 0; have z1 := box_cell s1 0; have f0 := box_frozen s0 0; have f1 := box_frozen s1 0)
    obtain ⟨c0, c1, hB⟩ := HC.out
    have s0 := row_up c0 hb5
    have s1 := row_up c1 hb5
    have r0 := (box_other (B := w.heap.size + 1) (by omega) 0 (.int .i64 0)).trans (box_set s0 0 (.int .i64 ((catB bs).length : Nat)))
    have r1 := box_set ((box_other (B := w.heap.size) (by omega) 0 (.int .i64 ((catB bs).length : Nat))).trans s1) 0 (.int .i64 0)
    have rB := ((hB.trans (hb5.mono hB.size)).setCell (p := ⟨w.heap.size, 0, none⟩) (Nat.le_refl _) (.int .i64 ((catB bs).length : Nat))).setCell (p := ⟨w.heap.size + 1, 0, none⟩) (by show w.heap.size ≤ w.heap.size + 1; omega) (.int .i64 0)
    have hK2 := ((KeepsOthers.setCell w5 ⟨w.heap.size, 0, none⟩ (.int .i64 ((catB bs).length : Nat))).trans (KeepsOthers.setCell _ ⟨w.heap.size + 1, 0, none⟩ (.int .i64 0))).same D _ (row_up hK hb5) rfl
    generalize (w5.setCell ⟨w.heap.size, 0, none⟩ (.int .i64 ((catB bs).length : Nat))).setCell ⟨w.heap.size + 1, 0, none⟩ (.int .i64 0) = W7 at r0 r1 rB hK2 ⊢
    refine ⟨by simp, .inl ⟨_, _, rfl, run_takeDeferred hK2, ?_⟩⟩
    have t0 : (W7.putObj D (.deferred none)).heap[w.heap.size]? = _ := (World.putObj_heap_other (by omega)).trans r0
    have t1 : (W7.putObj D (.deferred none)).heap[w.heap.size + 1]? = _ := (World.putObj_heap_other (by omega)).trans r1
    exact ⟨_, gap_results _ _ w.heap.size (w.heap.size + 1) _ 0 rfl rfl (box_cell t0 0) (box_cell t1 0), by rw [HGP.out], rB.trans (belowK_b (w := w) (Nat.le_refl _) W7 D _ _ (by omega) hK2 rfl rfl)⟩
  case stop =>
    rintro D c pre Z hD hpre ⟨⟨rfl, p, rfl, c0, c1⟩, hB⟩ hK
    have hsm : (posOf false (catB bs) 0)[i]? = some p.val := by
      obtain ⟨t, ht⟩ := hpre
      unfold yl at ht
      have h0 := congrArg (fun l => l[0]?) ht
      simp only [List.singleton_append, List.getElem?_cons_zero, List.getElem?_map, List.getElem?_drop, Nat.add_zero] at h0
      cases hq : (posOf false (catB bs) 0)[i]? with
      | none => rw [hq] at h0; cases h0
      | some z =>
        rw [hq] at h0
        have hz := posOf_lt false (catB bs) 0 z (List.mem_of_getElem? hq)
        simp at h0
        rw [h0, toP_val (by omega)]
    have hgp := HG.out
    rw [hsm] at hgp
    dsimp only at hgp
    have HGP := Lib.hid hgp
    have HC := Lib.hid (And.intro c0 (And.intro c1 hB))
    clear hgp hsm hpre c0 c1 hB
    gi_wp2
    obtain ⟨r0, r1, rB⟩ := HC.out
    refine ⟨by simp, .inl ⟨_, _, rfl, run_takeDeferred hK, ?_⟩⟩
    have t0 : (Z.putObj D (.deferred none)).heap[w.heap.size]? = _ := (World.putObj_heap_other (by omega)).trans r0
    have t1 : (Z.putObj D (.deferred none)).heap[w.heap.size + 1]? = _ := (World.putObj_heap_other (by omega)).trans r1
    exact ⟨_, gap_results _ _ w.heap.size (w.heap.size + 1) _ 0 rfl rfl (box_cell t0 0) (box_cell t1 0), by rw [HGP.out], rB.trans (belowK_b (w := w) (Nat.le_refl _) Z D _ _ (by omega) hK rfl rfl)⟩
end Go.Proofs.YtfoglciiefoodaaGreatDoor
