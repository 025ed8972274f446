/- How many cells are left ahead of a place. -/
import Derived.Test.YtfoglciiefoodaaGreatDoorGCellsBlk
import Derived.Test.YtfoglciiefoodaaGreatDoorGCellsBegL
namespace Go.Proofs.YtfoglciiefoodaaGreatDoor
open Go.RowKit Go.Shelf
attribute [local go_sem] Oper.semAt_some

abbrev frB (bs : List PB) (x : Fin bs.length) : Nat := (catB (bs.take x.val)).length
def seenX (bs : List PB) (p : Nat) (pre : List (Fin bs.length)) : Nat := (pre.map fun i => liveN (bs[i].cs.take (p - frB bs i))).sum
theorem seenX_snoc (bs : List PB) (p : Nat) (pre : List (Fin bs.length)) (x : Fin bs.length) : seenX bs p (pre ++ [x]) = seenX bs p pre + liveN (bs[x].cs.take (p - frB bs x)) := by simp [seenX]
theorem liveN_take_le (l : List PCell) (k : Nat) : liveN (l.take k) ≤ l.length := Nat.le_trans List.countP_le_length (by rw [List.length_take]; omega)
theorem seenX_le {bs : List PB} {M : Nat} (hM : ∀ x ∈ bs, x.cs.length ≤ M) (p : Nat) (pre : List (Fin bs.length)) : seenX bs p pre ≤ pre.length * M := by
  unfold seenX
  induction pre with
  | nil => simp
  | cons a r ih =>
    rw [List.map_cons, List.sum_cons, List.length_cons, Nat.add_mul]
    have h1 := hM bs[a] (List.getElem_mem _)
    have h2 := liveN_take_le bs[a].cs (p - frB bs a)
    omega
theorem seenX_begK (bs : List PB) (p : Nat) : ∀ k, k ≤ bs.length → seenX bs p (begK bs k) = liveN ((catB (bs.take k)).take p)
  | 0, _ => by simp [begK, seenX, catB, liveN]
  | k + 1, h => by
    have hx : bs[k]? = some bs[k] := List.getElem?_eq_getElem (by omega)
    rw [begK_next bs k (by omega), seenX_snoc, seenX_begK bs p k (by omega), catB_take hx, List.take_append, liveN_append]
    rfl
theorem begK_of_pre {bs : List PB} {pre : List (Fin bs.length)} {x : Fin bs.length} (h : pre ++ [x] <+: begL bs) : pre = begK bs x.val := by
  obtain ⟨t, ht⟩ := h
  have hlp : pre.length < bs.length := by
    have := congrArg List.length ht
    simp [begL] at this
    omega
  have hv : x.val = pre.length := by
    have h3 : (begL bs)[pre.length]? = some x := by rw [← ht]; simp
    unfold begL at h3
    rw [List.getElem?_eq_getElem (by simpa using hlp), List.getElem_finRange] at h3
    cases h3
    rfl
  have h2 := congrArg (List.take pre.length) ht
  rw [List.append_assoc, List.take_append_of_le_length (Nat.le_refl _), List.take_of_length_le (Nat.le_refl _)] at h2
  rw [hv]
  exact h2
theorem seenX_all (bs : List PB) (p : Nat) : seenX bs p (begL bs) = cSeen (catB bs) p := by
  rw [← begK_all, seenX_begK bs p bs.length (Nat.le_refl _), List.take_length]
  rfl
theorem seenX_stop {bs : List PB} {p : Nat} {pre : List (Fin bs.length)} {x : Fin bs.length} (h : pre ++ [x] <+: begL bs) (hp : p ≤ frB bs x) : seenX bs p pre = cSeen (catB bs) p := by
  have hx : bs[x.val]? = some bs[x] := List.getElem?_eq_getElem x.isLt
  rw [begK_of_pre h, seenX_begK bs p x.val (Nat.le_of_lt x.isLt)]
  unfold cSeen liveN
  rw [catB_split hx, List.append_assoc, List.take_append_of_le_length hp]
theorem seen_results (W : World) (tm : Array Value) (a b : Int) (h4 : tm.getD 4 undef = .int .i64 a) (h5 : tm.getD 5 undef = .int .i64 b) :
    (results Tryz.f26 tm).run Tryz.prog W = .ok (.tuple #[.int .i64 a, .int .i64 b]) W := by
  have h4' : tm[4]?.getD undef = .int .i64 a := by simpa using h4
  have h5' : tm[5]?.getD undef = .int .i64 b := by simpa using h5
  simp [results, Tryz.f26, go_sem, h4', h5']
set_option maxRecDepth 100000 in
set_option maxHeartbeats 4000000 in
theorem dseen_neg (B : Nat) (P : Int) (w : World) (hP : P < 0) :
    Calls Tryz.prog 26 #[.pointer (some ⟨B, 0, none⟩), .int .i64 P] w fun e W' => e = .returned (.tuple #[.int .i64 0, .int .i64 3]) ∧ Below w.heap.size w W' := by
  have hb : Below w.heap.size w ((w.alloc (.cells #[.pointer (some ⟨B, 0, none⟩)] 26)).alloc (.cells #[.int .i64 P] 3)) := ((Below.refl _ w).alloc (Nat.le_refl _) _).alloc (by simp) _
  have HB := Lib.hid hb
  clear hb
  go_enter Tryz.func26, Tryz.ntmps26
  go_wp2
  go_region
  go_wp2
  refine bodyPost_ret (seen_results _ _ 0 3 rfl rfl) rfl ?_
  exact ⟨rfl, HB.out.drew⟩
set_option maxRecDepth 100000 in
set_option maxHeartbeats 8000000 in
theorem dseen_far (B : Nat) (bv nm : Value) (bs : List PB) (p : Nat) (w : World) (hR : DocR w B bv nm bs) (hp : (catB bs).length < p) :
    Calls Tryz.prog 26 #[.pointer (some ⟨B, 0, none⟩), .int .i64 (p : Int)] w fun e W' => e = .returned (.tuple #[.int .i64 0, .int .i64 3]) ∧ Below w.heap.size w W' := by
  obtain ⟨P, hP⟩ : ∃ P : Int, (p : Int) = P := ⟨_, rfl⟩
  have hall := liveN_gone (catB bs)
  have hroom := hR.room
  have HR := Lib.hid hR
  have A0 := row_al (heap_new w (.cells #[.pointer (some ⟨B, 0, none⟩)] 26)) (.cells #[.int .i64 P] 3)
  have A1 := heap_new1 w (.cells #[.pointer (some ⟨B, 0, none⟩)] 26) (.cells #[.int .i64 P] 3)
  have AB : Below w.heap.size w ((w.alloc (.cells #[.pointer (some ⟨B, 0, none⟩)] 26)).alloc (.cells #[.int .i64 P] 3)) := ((Below.refl _ w).alloc (Nat.le_refl _) _).alloc (by simp) _
  have AS : ((w.alloc (.cells #[.pointer (some ⟨B, 0, none⟩)] 26)).alloc (.cells #[.int .i64 P] 3)).heap.size = w.heap.size + 1 + 1 := by simp
  have hZ := fun W (hb : Below w.heap.size w W) => dsize_any (some ⟨B, 0, none⟩) (liveN (catB bs)) (goneN (catB bs)) W (by omega) (whole_any B bv nm bs W (hR.below hb))
  rw [hall] at hZ
  have HZ := Lib.hid hZ
  have hbeg := fun W => begins_any (some ⟨B, 0, none⟩) W
  obtain ⟨N, hN⟩ : ∃ N, (catB bs).length = N := ⟨_, rfl⟩
  rw [hN] at HZ hroom
  have HP0 := Lib.hid (show ¬ P < 0 by omega)
  have HPN := Lib.hid (show (N : Int) < P by omega)
  have HP := Lib.hid (And.intro hP hN)
  have y0 := box_cell A0 0
  rw [hP]
  clear hP hN hR hZ hall
  have HA := Lib.hid (And.intro A0 (And.intro A1 (And.intro AB AS)))
  clear A0 A1 AB AS
  refine (callsIn_wide (n := 4)).1 ?_
  refine callsIn_of_wp_marks Tryz.func26 rfl trivial ?_ rfl
  simp only [Tryz.ntmps26, List.size_toArray, List.length_cons, List.length_nil, Nat.reduceAdd, Nat.reduceSub, Array.replicate_succ, Array.replicate_zero, List.push_toArray, List.append_toArray, List.nil_append, List.cons_append]
  gi_wp2_with fail
  generalize (w.alloc (.cells #[.pointer (some ⟨B, 0, none⟩)] 26)).alloc (.cells #[.int .i64 P] 3) = w2 at HA y0 ⊢
  have hn0 := HP0.out
  have hnN := HPN.out
  have hsv : decide (P < 0) = false := decide_eq_false (by omega)
  have hsw : decide ((N : Int) < P) = true := decide_eq_true (by omega)
  refine region_bridgeN (ro := none) (S := fun X => X.heap[w.heap.size]? = some (.cells #[.pointer (some ⟨B, 0, none⟩)] 26 (0, 0)) ∧ X.heap[w.heap.size + 1]? = some (.cells #[.int .i64 P] 3 (0, 0)) ∧ Below w.heap.size w X) (by kernel_rfl) (by kernel_rfl) ⟨HA.out.1, HA.out.2.1, HA.out.2.2.1.drew⟩ (fun hHeld => ?_)
  refine wpAnyH_take (i := 0) (v := ?_) rfl (by kernel_rfl) (by kernel_rfl) (by kernel_rfl) (fun _ _ _ h => h) (Or.inl ⟨rfl, ?hy1⟩) (by assumption) ?_
  case hy1 =>
    intro W hS
    obtain ⟨s0, s1, -⟩ := hS
    have u0 := box_cell s0 0
    have u1 := box_cell s1 0
    go_simp
    try with_reducible rfl
  try simp only [Act.put, List.getElem_toArray, List.getElem_cons_zero, List.setIfInBounds_toArray, List.set_cons_zero, List.set_cons_succ]
  refine wpAnyH_take (i := 1) (v := ?_) rfl (by kernel_rfl) (by kernel_rfl) (by kernel_rfl) (fun _ _ _ h => h) (Or.inl ⟨rfl, ?hy2⟩) (by assumption) ?_
  case hy2 =>
    intro W hS
    go_simp
    try with_reducible rfl
  try simp only [Act.put, List.getElem_toArray, List.getElem_cons_succ, List.getElem_cons_zero, List.setIfInBounds_toArray, List.set_cons_zero, List.set_cons_succ]
  refine wpAnyH_take (i := 2) (v := ?_) rfl (by kernel_rfl) (by kernel_rfl) (by kernel_rfl) (fun _ _ _ h => h) (Or.inl ⟨rfl, ?hy3⟩) (by assumption) ?_
  case hy3 =>
    intro W hS
    go_simp
    try with_reducible rfl
  try simp only [Act.put, List.getElem_toArray, List.getElem_cons_succ, List.getElem_cons_zero, List.setIfInBounds_toArray, List.set_cons_zero, List.set_cons_succ]
  refine wpAnyH_take (i := 3) (v := ?_) rfl (by kernel_rfl) (by kernel_rfl) (by kernel_rfl) (fun _ _ _ h => h) (Or.inl ⟨rfl, ?hy4⟩) (by assumption) ?_
  case hy4 =>
    intro W hS
    obtain ⟨s0, s1, -⟩ := hS
    have u0 := box_cell s0 0
    have u1 := box_cell s1 0
    go_simp
    try with_reducible rfl
  try simp only [Act.put, List.getElem_toArray, List.getElem_cons_succ, List.getElem_cons_zero, List.setIfInBounds_toArray, List.set_cons_zero, List.set_cons_succ]
  refine wpAnyH_take (i := 4) (v := ?_) rfl (by kernel_rfl) (by kernel_rfl) (by kernel_rfl) (fun _ _ _ h => h) (Or.inl ⟨rfl, ?hy5⟩) (by assumption) ?_
  case hy5 =>
    intro W hS
    obtain ⟨s0, s1, -⟩ := hS
    have u0 := box_cell s0 0
    have u1 := box_cell s1 0
    go_simp
    try with_reducible rfl
  try simp only [Act.put, List.getElem_toArray, List.getElem_cons_succ, List.getElem_cons_zero, List.setIfInBounds_toArray, List.set_cons_zero, List.set_cons_succ]
  refine wpAnyH_ready (rs := [5]) (by kernel_rfl) (by simp) (AllReadyH.cons rfl (fun K hK => ?_) AllReadyH.nil)
  go_simp
  go_wp2_with (go_at_call 15; refine ((HZ.out _ hHeld.2.2)).mono ?_; rintro e wq ⟨rfl, hb⟩)
  refine hK.out _ _ (⟨row_up hHeld.1 hb, row_up hHeld.2.1 hb, hHeld.2.2.trans (hb.mono hHeld.2.2.size)⟩) (fun hX => ?_)
  clear hK K hHeld
  have hHeld := hX
  clear hX
  refine wpAnyH_take (i := 6) (v := ?_) rfl (by kernel_rfl) (by kernel_rfl) (by kernel_rfl) (fun _ _ _ h => h) (Or.inl ⟨rfl, ?hy6⟩) (by assumption) ?_
  case hy6 =>
    intro W hS
    go_simp
    try with_reducible rfl
  try simp only [Act.put, List.getElem_toArray, List.getElem_cons_succ, List.getElem_cons_zero, List.setIfInBounds_toArray, List.set_cons_zero, List.set_cons_succ]
  refine wpAnyH_take (i := 7) (v := ?_) rfl (by kernel_rfl) (by kernel_rfl) (by kernel_rfl) (fun _ _ _ h => h) (Or.inl ⟨rfl, ?hy7⟩) (by assumption) ?_
  case hy7 =>
    intro W hS
    go_simp
    try with_reducible rfl
  try simp only [Act.put, List.getElem_toArray, List.getElem_cons_succ, List.getElem_cons_zero, List.setIfInBounds_toArray, List.set_cons_zero, List.set_cons_succ]
  refine wpAnyH_done (by kernel_rfl) ?_ _
  have HQ := Lib.hid hHeld
  clear hHeld
  simp only [onlyN]
  gi_wp2
  exact ⟨_, seen_results _ _ 0 3 rfl rfl, rfl, HQ.out.2.2⟩
set_option maxRecDepth 100000 in
set_option maxHeartbeats 8000000 in
theorem dseen_yes (B : Nat) (bv nm : Value) (bs : List PB) (p : Nat) (w : World) (hR : DocR w B bv nm bs) (hp : p ≤ (catB bs).length) :
    Calls Tryz.prog 26 #[.pointer (some ⟨B, 0, none⟩), .int .i64 (p : Int)] w fun e W' => e = .returned (.tuple #[.int .i64 (cSeen (catB bs) p : Nat), .int .i64 0]) ∧ Below w.heap.size w W' := by
  obtain ⟨P, hP⟩ : ∃ P : Int, (p : Int) = P := ⟨_, rfl⟩
  have hall := liveN_gone (catB bs)
  have hroom := hR.room
  have HR := Lib.hid hR
  have A0 := row_al (heap_new w (.cells #[.pointer (some ⟨B, 0, none⟩)] 26)) (.cells #[.int .i64 P] 3)
  have A1 := heap_new1 w (.cells #[.pointer (some ⟨B, 0, none⟩)] 26) (.cells #[.int .i64 P] 3)
  have AB : Below w.heap.size w ((w.alloc (.cells #[.pointer (some ⟨B, 0, none⟩)] 26)).alloc (.cells #[.int .i64 P] 3)) := ((Below.refl _ w).alloc (Nat.le_refl _) _).alloc (by simp) _
  have AS : ((w.alloc (.cells #[.pointer (some ⟨B, 0, none⟩)] 26)).alloc (.cells #[.int .i64 P] 3)).heap.size = w.heap.size + 1 + 1 := by simp
  have hZ := fun W (hb : Below w.heap.size w W) => dsize_any (some ⟨B, 0, none⟩) (liveN (catB bs)) (goneN (catB bs)) W (by omega) (whole_any B bv nm bs W (hR.below hb))
  rw [hall] at hZ
  have HZ := Lib.hid hZ
  have hbeg := fun W => begins_any (some ⟨B, 0, none⟩) W
  obtain ⟨N, hN⟩ : ∃ N, (catB bs).length = N := ⟨_, rfl⟩
  rw [hN] at HZ hroom
  have HP0 := Lib.hid (show ¬ P < 0 by omega)
  have HPN := Lib.hid (show ¬ (N : Int) < P by omega)
  have HP := Lib.hid (And.intro hP hN)
  have y0 := box_cell A0 0
  rw [hP]
  clear hP hN hR hZ hall
  have HA := Lib.hid (And.intro A0 (And.intro A1 (And.intro AB AS)))
  clear A0 A1 AB AS
  refine (callsIn_wide (n := 4)).1 ?_
  refine callsIn_of_wp_marks Tryz.func26 rfl trivial ?_ rfl
  simp only [Tryz.ntmps26, List.size_toArray, List.length_cons, List.length_nil, Nat.reduceAdd, Nat.reduceSub, Array.replicate_succ, Array.replicate_zero, List.push_toArray, List.append_toArray, List.nil_append, List.cons_append]
  gi_wp2_with fail
  generalize (w.alloc (.cells #[.pointer (some ⟨B, 0, none⟩)] 26)).alloc (.cells #[.int .i64 P] 3) = w2 at HA y0 ⊢
  have hn0 := HP0.out
  have hnN := HPN.out
  have hsv : decide (P < 0) = false := decide_eq_false (by omega)
  have hsw : decide ((N : Int) < P) = false := decide_eq_false (by omega)
  refine region_bridgeN (ro := none) (S := fun X => X.heap[w.heap.size]? = some (.cells #[.pointer (some ⟨B, 0, none⟩)] 26 (0, 0)) ∧ X.heap[w.heap.size + 1]? = some (.cells #[.int .i64 P] 3 (0, 0)) ∧ Below w.heap.size w X) (by kernel_rfl) (by kernel_rfl) ⟨HA.out.1, HA.out.2.1, HA.out.2.2.1.drew⟩ (fun hHeld => ?_)
  refine wpAnyH_take (i := 0) (v := ?_) rfl (by kernel_rfl) (by kernel_rfl) (by kernel_rfl) (fun _ _ _ h => h) (Or.inl ⟨rfl, ?hy1⟩) (by assumption) ?_
  case hy1 =>
    intro W hS
    obtain ⟨s0, s1, -⟩ := hS
    have u0 := box_cell s0 0
    have u1 := box_cell s1 0
    go_simp
    try with_reducible rfl
  try simp only [Act.put, List.getElem_toArray, List.getElem_cons_zero, List.setIfInBounds_toArray, List.set_cons_zero, List.set_cons_succ]
  refine wpAnyH_take (i := 1) (v := ?_) rfl (by kernel_rfl) (by kernel_rfl) (by kernel_rfl) (fun _ _ _ h => h) (Or.inl ⟨rfl, ?hy2⟩) (by assumption) ?_
  case hy2 =>
    intro W hS
    go_simp
    try with_reducible rfl
  try simp only [Act.put, List.getElem_toArray, List.getElem_cons_succ, List.getElem_cons_zero, List.setIfInBounds_toArray, List.set_cons_zero, List.set_cons_succ]
  refine wpAnyH_take (i := 2) (v := ?_) rfl (by kernel_rfl) (by kernel_rfl) (by kernel_rfl) (fun _ _ _ h => h) (Or.inl ⟨rfl, ?hy3⟩) (by assumption) ?_
  case hy3 =>
    intro W hS
    go_simp
    try with_reducible rfl
  try simp only [Act.put, List.getElem_toArray, List.getElem_cons_succ, List.getElem_cons_zero, List.setIfInBounds_toArray, List.set_cons_zero, List.set_cons_succ]
  refine wpAnyH_take (i := 3) (v := ?_) rfl (by kernel_rfl) (by kernel_rfl) (by kernel_rfl) (fun _ _ _ h => h) (Or.inl ⟨rfl, ?hy4⟩) (by assumption) ?_
  case hy4 =>
    intro W hS
    obtain ⟨s0, s1, -⟩ := hS
    have u0 := box_cell s0 0
    have u1 := box_cell s1 0
    go_simp
    try with_reducible rfl
  try simp only [Act.put, List.getElem_toArray, List.getElem_cons_succ, List.getElem_cons_zero, List.setIfInBounds_toArray, List.set_cons_zero, List.set_cons_succ]
  refine wpAnyH_take (i := 4) (v := ?_) rfl (by kernel_rfl) (by kernel_rfl) (by kernel_rfl) (fun _ _ _ h => h) (Or.inl ⟨rfl, ?hy5⟩) (by assumption) ?_
  case hy5 =>
    intro W hS
    obtain ⟨s0, s1, -⟩ := hS
    have u0 := box_cell s0 0
    have u1 := box_cell s1 0
    go_simp
    try with_reducible rfl
  try simp only [Act.put, List.getElem_toArray, List.getElem_cons_succ, List.getElem_cons_zero, List.setIfInBounds_toArray, List.set_cons_zero, List.set_cons_succ]
  refine wpAnyH_ready (rs := [5]) (by kernel_rfl) (by simp) (AllReadyH.cons rfl (fun K hK => ?_) AllReadyH.nil)
  go_simp
  go_wp2_with (go_at_call 15; refine ((HZ.out _ hHeld.2.2)).mono ?_; rintro e wq ⟨rfl, hb⟩)
  refine hK.out _ _ (⟨row_up hHeld.1 hb, row_up hHeld.2.1 hb, hHeld.2.2.trans (hb.mono hHeld.2.2.size)⟩) (fun hX => ?_)
  clear hK K hHeld
  have hHeld := hX
  clear hX
  refine wpAnyH_take (i := 6) (v := ?_) rfl (by kernel_rfl) (by kernel_rfl) (by kernel_rfl) (fun _ _ _ h => h) (Or.inl ⟨rfl, ?hy6⟩) (by assumption) ?_
  case hy6 =>
    intro W hS
    go_simp
    try with_reducible rfl
  try simp only [Act.put, List.getElem_toArray, List.getElem_cons_succ, List.getElem_cons_zero, List.setIfInBounds_toArray, List.set_cons_zero, List.set_cons_succ]
  refine wpAnyH_take (i := 7) (v := ?_) rfl (by kernel_rfl) (by kernel_rfl) (by kernel_rfl) (fun _ _ _ h => h) (Or.inl ⟨rfl, ?hy7⟩) (by assumption) ?_
  case hy7 =>
    intro W hS
    go_simp
    try with_reducible rfl
  try simp only [Act.put, List.getElem_toArray, List.getElem_cons_succ, List.getElem_cons_zero, List.setIfInBounds_toArray, List.set_cons_zero, List.set_cons_succ]
  refine wpAnyH_done (by kernel_rfl) ?_ _
  obtain ⟨q0, q1, qB⟩ := hHeld
  have z0 := box_cell q0 0
  have HQ := Lib.hid (And.intro q0 (And.intro q1 qB))
  have e0 := row_al q0 (.cells #[.int .i64 0] 3)
  have ez := box_cell e0 0
  clear q0 q1 qB
  simp only [onlyN]
  gi_wp2_with (refine ⟨trivial, ?_⟩; gi_at_call 48; refine (callsIn_wide.2 (hbeg _)).mono ?_; rintro e _ ⟨rfl, rfl⟩)
  obtain ⟨q0, q1, qB⟩ := HQ.out
  have A0 := row_al (row_al q0 (.cells #[.int .i64 0] 3)) (.cells #[.pointer (some ⟨B, 0, none⟩)] 26)
  have A1 := row_al (row_al q1 (.cells #[.int .i64 0] 3)) (.cells #[.pointer (some ⟨B, 0, none⟩)] 26)
  have An := row_al (heap_new wq (.cells #[.int .i64 0] 3)) (.cells #[.pointer (some ⟨B, 0, none⟩)] 26)
  have Ad := heap_new1 wq (.cells #[.int .i64 0] 3) (.cells #[.pointer (some ⟨B, 0, none⟩)] 26)
  have AB : Below w.heap.size w ((wq.alloc (.cells #[.int .i64 0] 3)).alloc (.cells #[.pointer (some ⟨B, 0, none⟩)] 26)) := (qB.alloc qB.size _).alloc (by have := qB.size; simp; omega) _
  have AS : ((wq.alloc (.cells #[.int .i64 0] 3)).alloc (.cells #[.pointer (some ⟨B, 0, none⟩)] 26)).heap.size = wq.heap.size + 1 + 1 := by simp
  have hql := box_lt q1
  generalize (wq.alloc (.cells #[.int .i64 0] 3)).alloc (.cells #[.pointer (some ⟨B, 0, none⟩)] 26) = w3 at A0 A1 An Ad AB AS ⊢
  clear q0 q1 qB HQ ez e0 z0
  have hst := begins_stops 3 (by decide) (wq.heap.size + 1) (wq.heap.size + 1) B bv nm bs w HR.out w3 AB Ad (Nat.le_refl _)
  have hcs : ∀ x ∈ bs, x.cs.length ≤ 100000 := fun x hx => by
    obtain ⟨k, hk, rfl⟩ := List.mem_iff_getElem.1 hx
    have := catB_le (List.getElem?_eq_getElem hk)
    have := HR.out.room
    omega
  have hfew := HR.out.few
  refine wpIn_rangeFunc_ownF rfl (by decide) (gf := 76) (lb := #[.pointer (some ⟨wq.heap.size + 1, 0, none⟩)]) rfl trivial (enters_of Tryz.func76 (by kernel_rfl) rfl)
    hst (fun h k => kf_t h k) (kf_b (by omega)) (Below.refl _ _) (fun _ => rfl)
    (fun pre W => (W.heap[w.heap.size]? = some (.cells #[.pointer (some ⟨B, 0, none⟩)] 26 (0, 0)) ∧ W.heap[w.heap.size + 1]? = some (.cells #[.int .i64 P] 3 (0, 0)) ∧ W.heap[wq.heap.size]? = some (.cells #[.int .i64 (seenX bs p pre : Nat)] 3 (0, 0))) ∧ Below w.heap.size w W)
    (fun c pre W => (c = .exit 0 ∧ (∃ pre' x, pre = pre' ++ [x] ∧ p ≤ frB bs x ∧ W.heap[wq.heap.size]? = some (.cells #[.int .i64 (seenX bs p pre' : Nat)] 3 (0, 0)))) ∧ Below w.heap.size w W)
    (OwnFrom.and (Own.from (fun s A B row hs hg hr => ⟨row_turn hs.1 hg hr, row_turn hs.2.1 hg hr, row_turn hs.2.2 hg hr⟩) _) (ownFrom_below (Nat.le_refl _) (by omega)))
    (fun c => OwnFrom.and (Own.from (fun s A B row hs hg hr => ⟨hs.1, by obtain ⟨p', x, h0, h1, h2⟩ := hs.2; exact ⟨p', x, h0, h1, row_turn h2 hg hr⟩⟩) _) (ownFrom_below (Nat.le_refl _) (by omega)))
    ⟨⟨A0, A1, An⟩, AB⟩
    (fun x => { tmps := #[.pointer (some ⟨B, 0, none⟩), .int .i64 P, .pointer (some ⟨w.heap.size, 0, none⟩), .pointer (some ⟨w.heap.size + 1, 0, none⟩), .int .i64 0, .int .i64 0, .pointer (some ⟨wq.heap.size, 0, none⟩), .int .i64 (x.val : Int), .int .i64 ((catB (bs.take x.val)).length : Nat), .pointer (some ⟨B, 0, none⟩), .bool false, .int .i64 P, .bool false, .bool false, .int .i64 P, .pointer (some ⟨B, 0, none⟩), .int .i64 (N : Nat), .bool false, .bool false, .pointer (some ⟨B, 0, none⟩), .func (.func 76) #[] #[.pointer (some ⟨wq.heap.size + 1, 0, none⟩)], .int .i64 (x.val : Int), .int .i64 ((catB (bs.take x.val)).length : Nat), undef, undef, undef, undef, undef, undef, undef, undef, undef, undef, undef, undef, undef, undef, undef, undef], defers := [] }) ?assign ?body ?done ?stop
  case assign =>
    intro l x W K hK
    gi_wp2
    exact hK
  case body =>
    rintro l pre x W ⟨⟨c0, c1, c2⟩, hB⟩ hlen
    have hk : bs[x.val]? = some bs[x] := List.getElem?_eq_getElem x.isLt
    have hle := catB_le hk
    have hpx := seenX_le hcs p pre
    have hcx := hcs bs[x] (List.getElem_mem _)
    have htk := liveN_take_le bs[x].cs (p - frB bs x)
    have hfrl : frB bs x + bs[x].cs.length ≤ 100000 := Nat.le_trans hle HR.out.room
    have hpp := HP.out.1
    obtain ⟨Fr, hFr⟩ : ∃ z, frB bs x = z := ⟨_, rfl⟩
    have hFr' : (catB (bs.take x.val)).length = Fr := hFr
    have y1 := box_cell c1 0
    have HX := Lib.hid (seenX_snoc bs p pre x)
    rw [hFr] at HX htk hfrl
    rcases Nat.lt_or_ge Fr p with hlt | hge
    · have hd : ¬ P ≤ (Fr : Int) := by omega
      obtain ⟨g, off, cp, hbv, d0, d1, d2⟩ := HR.out.at hk
      have hw1 : IntKind.i64.wrap (P - (Fr : Int)) = ((p - Fr : Nat) : Int) := by rw [IntWalk.i64_in _ (by omega)]; omega
      have hi0 : (0 : Int) ≤ (x.val : Int) ∧ (x.val : Int) < (bs.length : Int) := ⟨by omega, by have := x.isLt; omega⟩
      obtain ⟨V, hV⟩ : ∃ z, seenX bs p pre = z := ⟨_, rfl⟩
      obtain ⟨T, hT⟩ : ∃ z, liveN (bs[x].cs.take (p - Fr)) = z := ⟨_, rfl⟩
      have hpr : pre.length * 100000 ≤ 100000000000 := by omega
      have hSE := fun X (h : Below w.heap.size w X) => bseen_any g (off + x.val * 3) bs[x].v bs[x].cs X ((HR.out.cells bs[x] (List.getElem_mem _)).below h) hcx (cell_stays h d0) (cell_stays h d1) (cell_stays h d2) (p - Fr)
      rw [hV] at c2 hpx HX
      rw [hT] at HX htk
      rw [hT] at hSE
      have hw2 : IntKind.i64.wrap ((V : Int) + (T : Int)) = ((V + T : Nat) : Int) := by rw [IntWalk.i64_in _ (by omega)]; omega
      have HSE := Lib.hid hSE
      have HC := Lib.hid (And.intro c0 (And.intro c1 (And.intro c2 hB)))
      clear c0 c1 c2 hB hSE hV hT hpx hcx htk hle hlen hpr d0 d1 d2 hpp hk
      dsimp only
      rw [hFr']
      gi_wp2
      refine region_bridge (ro := some l) (S := fun X => (∃ z, X.heap[wq.heap.size]? = some (.cells #[z] 3 (0, 0))) ∧ X.heap[w.heap.size]? = some (.cells #[.pointer (some ⟨B, 0, none⟩)] 26 (0, 0)) ∧ X.heap[w.heap.size + 1]? = some (.cells #[.int .i64 P] 3 (0, 0)) ∧ Below w.heap.size w X) (by kernel_rfl) (by kernel_rfl) (by rintro ⟨_, _, h⟩; exact h) ⟨⟨_, HC.out.2.2.1⟩, HC.out.1, HC.out.2.1, HC.out.2.2.2.drew⟩ (fun hHeld => ?_)
      refine wpAnyH_take (i := 1) (v := ?_) rfl (by kernel_rfl) (by kernel_rfl) (by kernel_rfl) (fun _ _ _ h => h) (Or.inl ⟨rfl, ?hy8⟩) (by assumption) ?_
      case hy8 =>
        intro W hS
        obtain ⟨-, s0, s1, s3⟩ := hS
        have u0 := box_cell s0 0
        have u1 := box_cell s1 0
        have s4 := HR.out.below s3
        obtain ⟨g1, off1, cp1, hbv1, -⟩ := s4.at (List.getElem?_eq_getElem x.isLt : bs[x.val]? = some bs[x])
        have s5 := s4.box
        rw [hbv] at s5
        have u5 := box_cell s5 0
        go_simp
        try with_reducible rfl
      try simp only [Act.put, List.getElem_toArray, List.getElem_cons_succ, List.getElem_cons_zero, List.setIfInBounds_toArray, List.set_cons_zero, List.set_cons_succ]
      refine wpAnyH_take (i := 2) (v := ?_) rfl (by kernel_rfl) (by kernel_rfl) (by kernel_rfl) (fun _ _ _ h => h) (Or.inl ⟨rfl, ?hy9⟩) (by assumption) ?_
      case hy9 =>
        intro W hS
        go_simp
        try with_reducible rfl
      try simp only [Act.put, List.getElem_toArray, List.getElem_cons_succ, List.getElem_cons_zero, List.setIfInBounds_toArray, List.set_cons_zero, List.set_cons_succ]
      refine wpAnyH_take (i := 3) (v := ?_) rfl (by kernel_rfl) (by kernel_rfl) (by kernel_rfl) (fun _ _ _ h => h) (Or.inl ⟨rfl, ?hy10⟩) (by assumption) ?_
      case hy10 =>
        intro W hS
        go_simp
        try with_reducible rfl
      try simp only [Act.put, List.getElem_toArray, List.getElem_cons_succ, List.getElem_cons_zero, List.setIfInBounds_toArray, List.set_cons_zero, List.set_cons_succ]
      refine wpAnyH_take (i := 4) (v := ?_) rfl (by kernel_rfl) (by kernel_rfl) (by kernel_rfl) (fun _ _ _ h => h) (Or.inl ⟨rfl, ?hy11⟩) (by assumption) ?_
      case hy11 =>
        intro W hS
        obtain ⟨-, s0, s1, s3⟩ := hS
        have u0 := box_cell s0 0
        have u1 := box_cell s1 0
        have s4 := HR.out.below s3
        obtain ⟨g1, off1, cp1, hbv1, -⟩ := s4.at (List.getElem?_eq_getElem x.isLt : bs[x.val]? = some bs[x])
        have s5 := s4.box
        rw [hbv] at s5
        have u5 := box_cell s5 0
        go_simp
        try with_reducible rfl
      try simp only [Act.put, List.getElem_toArray, List.getElem_cons_succ, List.getElem_cons_zero, List.setIfInBounds_toArray, List.set_cons_zero, List.set_cons_succ]
      refine wpAnyH_take (i := 5) (v := ?_) rfl (by kernel_rfl) (by kernel_rfl) (by kernel_rfl) (fun _ _ _ h => h) (Or.inl ⟨rfl, ?hy12⟩) (by assumption) ?_
      case hy12 =>
        intro W hS
        go_simp
        try with_reducible rfl
      try simp only [Act.put, List.getElem_toArray, List.getElem_cons_succ, List.getElem_cons_zero, List.setIfInBounds_toArray, List.set_cons_zero, List.set_cons_succ]
      refine wpAnyH_take (i := 6) (v := ?_) rfl (by kernel_rfl) (by kernel_rfl) (by kernel_rfl) (fun _ _ _ h => h) (Or.inl ⟨rfl, ?hy13⟩) (by assumption) ?_
      case hy13 =>
        intro W hS
        go_simp
        try with_reducible rfl
      try simp only [Act.put, List.getElem_toArray, List.getElem_cons_succ, List.getElem_cons_zero, List.setIfInBounds_toArray, List.set_cons_zero, List.set_cons_succ]
      refine wpAnyH_take (i := 7) (v := ?_) rfl (by kernel_rfl) (by kernel_rfl) (by kernel_rfl) (fun _ _ _ h => h) (Or.inl ⟨rfl, ?hy14⟩) (by assumption) ?_
      case hy14 =>
        intro W hS
        obtain ⟨-, s0, s1, s3⟩ := hS
        have u0 := box_cell s0 0
        have u1 := box_cell s1 0
        have s4 := HR.out.below s3
        obtain ⟨g1, off1, cp1, hbv1, -⟩ := s4.at (List.getElem?_eq_getElem x.isLt : bs[x.val]? = some bs[x])
        have s5 := s4.box
        rw [hbv] at s5
        have u5 := box_cell s5 0
        go_simp
        try with_reducible rfl
      try simp only [Act.put, List.getElem_toArray, List.getElem_cons_succ, List.getElem_cons_zero, List.setIfInBounds_toArray, List.set_cons_zero, List.set_cons_succ]
      refine wpAnyH_take (i := 8) (v := ?_) rfl (by kernel_rfl) (by kernel_rfl) (by kernel_rfl) (fun _ _ _ h => h) (Or.inl ⟨rfl, ?hy15⟩) (by assumption) ?_
      case hy15 =>
        intro W hS
        go_simp
        try with_reducible rfl
      try simp only [Act.put, List.getElem_toArray, List.getElem_cons_succ, List.getElem_cons_zero, List.setIfInBounds_toArray, List.set_cons_zero, List.set_cons_succ]
      refine wpAnyH_take (i := 9) (v := ?_) rfl (by kernel_rfl) (by kernel_rfl) (by kernel_rfl) (fun _ _ _ h => h) (Or.inl ⟨rfl, ?hy16⟩) (by assumption) ?_
      case hy16 =>
        intro W hS
        go_simp
        try with_reducible rfl
      try simp only [Act.put, List.getElem_toArray, List.getElem_cons_succ, List.getElem_cons_zero, List.setIfInBounds_toArray, List.set_cons_zero, List.set_cons_succ]
      refine wpAnyH_ready (rs := [0, 10]) (by kernel_rfl) (by simp) (AllReadyH.cons rfl (fun K hK => ?_) (AllReadyH.cons rfl (fun K hK => ?_) AllReadyH.nil))
      · have zn := box_cell (w := W.drew) HC.out.2.2.1 0
        go_simp
        refine hK.out _ _ (hHeld) (fun hX => ?_)
        clear hK K hHeld
        have hHeld := hX
        clear hX
        refine wpAnyH_ready (rs := [10]) (by kernel_rfl) (by simp) (AllReadyH.cons rfl (fun K hK => ?_) AllReadyH.nil)
        go_simp
        go_wp2_with (go_at_call 53; refine (HSE.out _ hHeld.2.2.2).mono ?_; rintro e wb ⟨rfl, hb⟩)
        have c2b := row_up (W := W.drew) HC.out.2.2.1 hb
        refine hK.out _ _ (⟨⟨_, c2b⟩, row_up hHeld.2.1 hb, row_up hHeld.2.2.1 hb, hHeld.2.2.2.trans (hb.mono hHeld.2.2.2.size)⟩) (fun hX => ?_)
        clear hK K hHeld
        have hHeld := hX
        clear hX
        refine wpAnyH_take (i := 11) (v := ?_) rfl (by kernel_rfl) (by kernel_rfl) (by kernel_rfl) (fun _ _ _ h => h) (Or.inl ⟨rfl, ?hy17⟩) (by assumption) ?_
        case hy17 =>
          intro W hS
          go_simp
          try with_reducible rfl
        try simp only [Act.put, List.getElem_toArray, List.getElem_cons_succ, List.getElem_cons_zero, List.setIfInBounds_toArray, List.set_cons_zero, List.set_cons_succ]
        refine wpAnyH_ready (rs := [12]) (by kernel_rfl) (by simp) (AllReadyH.cons rfl (fun K hK => ?_) AllReadyH.nil)
        have zn := box_cell c2b 0
        have zf := box_frozen c2b 0
        have hB4 := hHeld.2.2.2
        have c0b := hHeld.2.1
        have c1b := hHeld.2.2.1
        go_simp
        refine hK.out _ _ (⟨⟨_, box_set c2b 0 _⟩, (box_other (by omega) 0 _).trans c0b, (box_other (by omega) 0 _).trans c1b, hB4.setCell (p := ⟨wq.heap.size, 0, none⟩) (by show w.heap.size ≤ wq.heap.size; omega) _⟩) (fun hX => ?_)
        clear hK K hHeld
        have hHeld := hX
        clear hX
        refine wpAnyH_done (by kernel_rfl) ?_ _
        gi_wp2
        have hgw := Below.refl W.heap.size W.drew
        refine ⟨(KeepsOthers.drew W).trans ((others_below hb).trans (KeepsOthers.setCell _ _ _)), kf_t ((KF.refl _ _ W).drew) (kf_t (KF.below HC.out.2.2.2.size hb) (KF.set (by omega) (by omega))), ⟨⟨(box_other (by omega) 0 _).trans c0b, (box_other (by omega) 0 _).trans c1b, by rw [HX.out]; exact box_set c2b 0 _⟩, hB4.setCell (p := ⟨wq.heap.size, 0, none⟩) (by show w.heap.size ≤ wq.heap.size; omega) _⟩⟩
      · go_simp
        go_wp2_with (go_at_call 53; refine (HSE.out _ hHeld.2.2.2).mono ?_; rintro e wb ⟨rfl, hb⟩)
        have c2b := row_up (W := W.drew) HC.out.2.2.1 hb
        refine hK.out _ _ (⟨⟨_, c2b⟩, row_up hHeld.2.1 hb, row_up hHeld.2.2.1 hb, hHeld.2.2.2.trans (hb.mono hHeld.2.2.2.size)⟩) (fun hX => ?_)
        clear hK K hHeld
        have hHeld := hX
        clear hX
        refine wpAnyH_ready (rs := [0]) (by kernel_rfl) (by simp) (AllReadyH.cons rfl (fun K hK => ?_) AllReadyH.nil)
        have zn := box_cell c2b 0
        go_simp
        refine hK.out _ _ (hHeld) (fun hX => ?_)
        clear hK K hHeld
        have hHeld := hX
        clear hX
        refine wpAnyH_take (i := 11) (v := ?_) rfl (by kernel_rfl) (by kernel_rfl) (by kernel_rfl) (fun _ _ _ h => h) (Or.inl ⟨rfl, ?hy18⟩) (by assumption) ?_
        case hy18 =>
          intro W hS
          go_simp
          try with_reducible rfl
        try simp only [Act.put, List.getElem_toArray, List.getElem_cons_succ, List.getElem_cons_zero, List.setIfInBounds_toArray, List.set_cons_zero, List.set_cons_succ]
        refine wpAnyH_ready (rs := [12]) (by kernel_rfl) (by simp) (AllReadyH.cons rfl (fun K hK => ?_) AllReadyH.nil)
        have zn := box_cell c2b 0
        have zf := box_frozen c2b 0
        have hB4 := hHeld.2.2.2
        have c0b := hHeld.2.1
        have c1b := hHeld.2.2.1
        go_simp
        refine hK.out _ _ (⟨⟨_, box_set c2b 0 _⟩, (box_other (by omega) 0 _).trans c0b, (box_other (by omega) 0 _).trans c1b, hB4.setCell (p := ⟨wq.heap.size, 0, none⟩) (by show w.heap.size ≤ wq.heap.size; omega) _⟩) (fun hX => ?_)
        clear hK K hHeld
        have hHeld := hX
        clear hX
        refine wpAnyH_done (by kernel_rfl) ?_ _
        gi_wp2
        have hgw := Below.refl W.heap.size W.drew
        refine ⟨(KeepsOthers.drew W).trans ((others_below hb).trans (KeepsOthers.setCell _ _ _)), kf_t ((KF.refl _ _ W).drew) (kf_t (KF.below HC.out.2.2.2.size hb) (KF.set (by omega) (by omega))), ⟨⟨(box_other (by omega) 0 _).trans c0b, (box_other (by omega) 0 _).trans c1b, by rw [HX.out]; exact box_set c2b 0 _⟩, hB4.setCell (p := ⟨wq.heap.size, 0, none⟩) (by show w.heap.size ≤ wq.heap.size; omega) _⟩⟩
    · have hd : P ≤ (Fr : Int) := by omega
      have HC := Lib.hid (And.intro c2 hB)
      clear c0 c1 c2 hB hle hlen hpx hcx htk hpp hk
      dsimp only
      rw [hFr']
      gi_wp2
      refine ⟨KeepsOthers.refl _, ⟨rfl, pre, x, rfl, by rw [hFr]; exact hge, HC.out.1⟩, HC.out.2⟩
  case done =>
    rintro D xs Z hD rfl ⟨⟨c0, c1, c2⟩, hB⟩ hK
    rw [seenX_all] at c2
    have z2 := box_cell c2 0
    have HB := Lib.hid hB
    clear c0 c1 c2 hB
    gi_wp2
    refine ⟨by simp, .inl ⟨_, _, rfl, run_takeDeferred hK, ?_⟩⟩
    have hBD := belowK_b (w := w) (Nat.le_refl _) Z D _ (.deferred none) (by omega) hK rfl rfl
    exact ⟨_, seen_results _ _ _ 0 rfl rfl, rfl, HB.out.trans hBD⟩
  case stop =>
    rintro D c pre Z hD hpre ⟨⟨rfl, pre', x, rfl, hpf, c2⟩, hB⟩ hK
    rw [seenX_stop hpre hpf] at c2
    have z2 := box_cell c2 0
    have HB := Lib.hid hB
    clear c2 hB hpre hpf
    gi_wp2
    refine ⟨by simp, .inl ⟨_, _, rfl, run_takeDeferred hK, ?_⟩⟩
    have hBD := belowK_b (w := w) (Nat.le_refl _) Z D _ (.deferred none) (by omega) hK rfl rfl
    exact ⟨_, seen_results _ _ _ 0 rfl rfl, rfl, HB.out.trans hBD⟩
end Go.Proofs.YtfoglciiefoodaaGreatDoor
