/- Texts of this proof, joined. -/
import Derived.Test.YtfoglciiefoodaaGreatDoorGCellsMayP
import Derived.Test.YtfoglciiefoodaaGreatDoorGCellsAsked
import Derived.Test.YtfoglciiefoodaaGreatDoorGOpsMayQ
namespace Go.Proofs.YtfoglciiefoodaaGreatDoor
open Go.RowKit Go.Shelf
attribute [local go_sem] Oper.semAt_some

theorem hasNm_hasN (l : List PCell) (s q : Int) : hasNm (l.map idC) (s, q) = hasN l s q := by
  unfold hasNm hasN
  rw [List.any_map]
  congr 1
  funext c
  show decide ((c.site, c.seq) = (s, q)) = decide (c.site = s ∧ c.seq = q)
  congr 1
  rw [Prod.mk.injEq]
theorem foot_map {w : World} {n₀ B M : Nat} {bv : Value} {bs : List PB} {l : List PCell} (h : DocB w n₀ B M bv bs l) : ¬ footB B bv bs M := fun q => by
  rcases q with e | e | ⟨x, hx, e⟩
  · have := h.box
    rw [← e] at this
    exact absurd rfl (ne_map h.names this)
  · obtain ⟨_, c, hc⟩ := own_typed h.blocks.row M e
    exact absurd rfl (ne_map h.names hc)
  · obtain ⟨_, c, hc⟩ := own_typed (h.blocks.own x hx) M e
    exact absurd rfl (ne_map h.names hc)
theorem DocB.removed {w w' : World} {B M : Nat} {bv : Value} {bs : List PB} {l : List PCell} {f : Nat → Bool} (h : DocB w 0 B M bv bs l) (hr : RemI w 0 B bv (.map (some M)) bs l f w') (hm : cMay l = 0) (hw : CWf l) {S : Nat → Prop} (hS : ∀ b, S b ↔ footD B M bv bs b) :
    DKept DocD (.pointer (some ⟨B, 0, none⟩)) (goneC l f) S w w' (fun b => footB B bv bs b ∨ b = M) := by
  obtain ⟨bs', h1, h2, h3, h4, h5⟩ := hr
  have hM : w'.heap[M]? = w.heap[M]? := h5.block M h.names.lt (foot_map h)
  have hD : DocB w' 0 B M bv bs' (goneC l f) := ⟨Nat.zero_le _, Nat.zero_le _, h4, h2, by rw [goneC_ids]; exact h.names.kept hM, h3, by rw [vL_len h1]; exact h.few, fun x hx e => by
    obtain ⟨i, hi, rfl⟩ := List.mem_iff_getElem.1 hx
    obtain ⟨y, hy, _, e2⟩ := vL_at h1.symm (List.getElem?_eq_getElem hi)
    rw [e] at e2
    exact h.full y (List.mem_of_getElem? hy) (List.eq_nil_of_length_eq_zero e2)⟩
  refine ⟨⟨B, M, bv, bs', rfl, hD, may_goneC f hm, wf_goneC f hw, fun b => ?_⟩, fun b hb => .inl ((hS b).2 hb), h5.weak (Nat.le_refl _) fun b _ q => (hS b).2 (.inl q)⟩
  exact ⟨fun q => q.elim (fun q => .inl (footB_vL h1.symm q)) .inr, fun q => q.elim (fun q => .inl (footB_vL h1 q)) .inr⟩
set_option maxRecDepth 100000 in
set_option maxHeartbeats 8000000 in
theorem dDo_bad (s q n k a : Int) (t : ByteArray) (sp : Value) (xs : List Sp) (p : Value) (l : List PCell) (S : Nat → Prop) (w : World) (h : DocD w p l S) (hT : TabW w) (hs : SpAt w sp xs) (hn : NWf s q n k a) (ht : t.size ≤ 1000) (hx : xs.length ≤ 20000) (hwf : sWf xs) (hb : oMay ⟨s, q, n, k, a, t.data.toList, xs⟩ l.length = false) :
    Calls Tryz.prog 32 #[p, opV s q n k a t sp] w (DVal DocD p (cDo l ⟨s, q, n, k, a, t.data.toList, xs⟩).1 S (.int .i64 (cDo l ⟨s, q, n, k, a, t.data.toList, xs⟩).2) w) := by
  obtain ⟨B, M, bv, bs, rfl, hD, hR, hc, hm, hw, hl, hS⟩ := h.parts
  obtain ⟨X, hX⟩ : ∃ X, xs.length = X := ⟨_, rfl⟩
  obtain ⟨sa, sc, hsv⟩ : ∃ sa sc, sp = .slice sa X sc := by obtain ⟨z, c, h, _⟩ := hs; exact ⟨z, c, by rw [← hX]; exact h⟩
  have hSz := fun W (hb : Below w.heap.size w W) => (dsize_any (some ⟨B, 0, none⟩) (liveN (catB bs)) (goneN (catB bs)) W (by have := liveN_gone (catB bs); rw [hc] at this ⊢; omega) (whole_any B bv _ bs W (hR.below hb)))
  rw [liveN_gone, hc] at hSz
  have hMy := fun W (hb : Below w.heap.size w W) => pMayOp_any s q n k a (l.length : Int) t sp xs W (LenAt.tabs (TabW.below hT hb) (by unfold maxLen; omega)) (hs.below hb) (by omega) hwf
  have HK := Lib.hid (fun W (hb : Below w.heap.size w W) => h.kept hb)
  subst hsv
  unfold opV at hMy ⊢
  have HB0 := Lib.hid (And.intro ((Below.refl w.heap.size w).alloc (Nat.le_refl _) (.cells #[.int .i64 s, .int .i64 q, .int .i64 n, .int .i64 k, .int .i64 a, .string t, .slice sa X sc] 35)) (heap_new w (.cells #[.int .i64 s, .int .i64 q, .int .i64 n, .int .i64 k, .int .i64 a, .string t, .slice sa X sc] 35)))
  have HX := Lib.hid (And.intro hX (And.intro hs (And.intro hwf hx)))
  have HD := Lib.hid (And.intro hD (And.intro hR (And.intro hc (And.intro hm (And.intro hw (And.intro hS hl))))))
  have HW := Lib.hid (And.intro hT (And.intro hn ht))
  obtain ⟨L, hL⟩ : ∃ z, l.length = z := ⟨_, rfl⟩
  have HL := Lib.hid hL
  rw [hL] at hSz hMy
  have HSz := Lib.hid hSz
  have hcd : cDo l ⟨s, q, n, k, a, t.data.toList, xs⟩ = (l, 1) := by unfold cDo; rw [hb]; rfl
  rw [hL] at hb
  rw [hb] at hMy
  have HMy := Lib.hid hMy
  rw [hcd]
  clear hSz hMy hcd hb hD hR hc hm hw hS hl hs hwf hx hT hn ht hX h hL
  go_enter Tryz.func32, Tryz.ntmps32
  go_wp2
  generalize w.alloc (.cells #[.int .i64 s, .int .i64 q, .int .i64 n, .int .i64 k, .int .i64 a, .string t, .slice sa X sc] 35) = w0 at HB0 ⊢
  refine wp_region_held_drew (S := fun Z => Below w.heap.size w Z ∧ Z.heap[w.heap.size]? = some (.cells #[.int .i64 s, .int .i64 q, .int .i64 n, .int .i64 k, .int .i64 a, .string t, .slice sa X sc] 35 (0, 0))) (by kernel_rfl) ⟨HB0.out.1.drew, HB0.out.2⟩ (fun hHeld => ?_)
  refine wpAnyH_take (i := 0) (v := ?_) rfl (by kernel_rfl) (by kernel_rfl) (by kernel_rfl) (fun _ _ _ h => h) (Or.inl ⟨rfl, ?hy1⟩) (by assumption) ?_
  case hy1 =>
    intro W hS
    go_simp
    try with_reducible rfl
  try simp only [Act.put, List.getElem_toArray, List.getElem_cons_zero, List.setIfInBounds_toArray, List.set_cons_zero, List.set_cons_succ]
  refine wpAnyH_take (i := 1) (v := ?_) rfl (by kernel_rfl) (by kernel_rfl) (by kernel_rfl) (fun _ _ _ h => h) (Or.inl ⟨rfl, ?hy2⟩) (by assumption) ?_
  case hy2 =>
    intro W hS
    go_simp
    try with_reducible rfl
  try simp only [Act.put, List.getElem_toArray, List.getElem_cons_succ, List.getElem_cons_zero, List.setIfInBounds_toArray, List.set_cons_zero, List.set_cons_succ]
  refine wpAnyH_take (i := 2) (v := ?_) rfl (by kernel_rfl) (by kernel_rfl) (by kernel_rfl) (fun _ _ _ h => h) (Or.inl ⟨rfl, ?hy3⟩) (by assumption) ?_
  case hy3 =>
    intro W hS
    go_simp
    try with_reducible rfl
  try simp only [Act.put, List.getElem_toArray, List.getElem_cons_succ, List.getElem_cons_zero, List.setIfInBounds_toArray, List.set_cons_zero, List.set_cons_succ]
  refine wpAnyH_take (i := 3) (v := ?_) rfl (by kernel_rfl) (by kernel_rfl) (by kernel_rfl) (fun _ _ _ h => h) (Or.inl ⟨rfl, ?hy4⟩) (by assumption) ?_
  case hy4 =>
    intro W hS
    have u0 := box_cell hS.2 0
    have u1 := box_cell hS.2 1
    have u2 := box_cell hS.2 2
    have u3 := box_cell hS.2 3
    have u4 := box_cell hS.2 4
    have u5 := box_cell hS.2 5
    have u6 := box_cell hS.2 6
    go_simp
    try with_reducible rfl
  try simp only [Act.put, List.getElem_toArray, List.getElem_cons_succ, List.getElem_cons_zero, List.setIfInBounds_toArray, List.set_cons_zero, List.set_cons_succ]
  refine wpAnyH_take (i := 4) (v := ?_) rfl (by kernel_rfl) (by kernel_rfl) (by kernel_rfl) (fun _ _ _ h => h) (Or.inl ⟨rfl, ?hy5⟩) (by assumption) ?_
  case hy5 =>
    intro W hS
    go_simp
    try with_reducible rfl
  try simp only [Act.put, List.getElem_toArray, List.getElem_cons_succ, List.getElem_cons_zero, List.setIfInBounds_toArray, List.set_cons_zero, List.set_cons_succ]
  refine wpAnyH_ready (rs := [5]) (by kernel_rfl) (by simp) (AllReadyH.cons rfl (fun K hK => ?_) AllReadyH.nil)
  go_simp
  go_wp2_with (go_at_call 15; refine (HSz.out _ hHeld.1).mono ?_; rintro e wa ⟨rfl, hb⟩)
  refine hK.out _ _ (⟨hHeld.1.trans (hb.mono hHeld.1.size), row_up hHeld.2 hb⟩) (fun hX => ?_)
  clear hK K hHeld
  have hHeld := hX
  clear hX
  refine wpAnyH_ready (rs := [6]) (by kernel_rfl) (by simp) (AllReadyH.cons rfl (fun K hK => ?_) AllReadyH.nil)
  go_simp
  go_wp2_with (go_at_call 57; refine (HMy.out _ hHeld.1).mono ?_; rintro e wb ⟨rfl, hb⟩)
  refine hK.out _ _ (⟨hHeld.1.trans (hb.mono hHeld.1.size), row_up hHeld.2 hb⟩) (fun hX => ?_)
  clear hK K hHeld
  have hHeld := hX
  clear hX
  refine wpAnyH_take (i := 7) (v := ?_) rfl (by kernel_rfl) (by kernel_rfl) (by kernel_rfl) (fun _ _ _ h => h) (Or.inl ⟨rfl, ?hy6⟩) (by assumption) ?_
  case hy6 =>
    intro W hS
    go_simp
    try with_reducible rfl
  try simp only [Act.put, List.getElem_toArray, List.getElem_cons_succ, List.getElem_cons_zero, List.setIfInBounds_toArray, List.set_cons_zero, List.set_cons_succ]
  refine wpAnyH_take (i := 8) (v := ?_) rfl (by kernel_rfl) (by kernel_rfl) (by kernel_rfl) (fun _ _ _ h => h) (Or.inl ⟨rfl, ?hy7⟩) (by assumption) ?_
  case hy7 =>
    intro W hS
    go_simp
    try with_reducible rfl
  try simp only [Act.put, List.getElem_toArray, List.getElem_cons_succ, List.getElem_cons_zero, List.setIfInBounds_toArray, List.set_cons_zero, List.set_cons_succ]
  refine wpAnyH_done (by kernel_rfl) ?_ _
  have HB1 := Lib.hid hHeld
  have y2 := box_cell hHeld.2 2
  have y3 := box_cell hHeld.2 3
  have y4 := box_cell hHeld.2 4
  have y5 := box_cell hHeld.2 5
  have y6 := box_cell hHeld.2 6
  clear hHeld
  go_wp2
  go_ret
  exact ⟨S, HK.out _ HB1.out.1, rfl⟩
set_option maxRecDepth 100000 in
set_option maxHeartbeats 8000000 in
theorem dDo_del (s q n k a : Int) (t : ByteArray) (sp : Value) (xs : List Sp) (p : Value) (l : List PCell) (S : Nat → Prop) (w : World) (h : DocD w p l S) (hT : TabW w) (hs : SpAt w sp xs) (hn : NWf s q n k a) (ht : t.size ≤ 1000) (hx : xs.length ≤ 20000) (hwf : sWf xs) (hb : oMay ⟨s, q, n, k, a, t.data.toList, xs⟩ l.length = true) (hk : k = 2) :
    Calls Tryz.prog 32 #[p, opV s q n k a t sp] w (DVal DocD p (cDo l ⟨s, q, n, k, a, t.data.toList, xs⟩).1 S (.int .i64 (cDo l ⟨s, q, n, k, a, t.data.toList, xs⟩).2) w) := by
  obtain ⟨B, M, bv, bs, rfl, hD, hR, hc, hm, hw, hl, hS⟩ := h.parts
  obtain ⟨X, hX⟩ : ∃ X, xs.length = X := ⟨_, rfl⟩
  obtain ⟨sa, sc, hsv⟩ : ∃ sa sc, sp = .slice sa X sc := by obtain ⟨z, c, h, _⟩ := hs; exact ⟨z, c, by rw [← hX]; exact h⟩
  have hSz := fun W (hb : Below w.heap.size w W) => (dsize_any (some ⟨B, 0, none⟩) (liveN (catB bs)) (goneN (catB bs)) W (by have := liveN_gone (catB bs); rw [hc] at this ⊢; omega) (whole_any B bv _ bs W (hR.below hb)))
  rw [liveN_gone, hc] at hSz
  have hMy := fun W (hb : Below w.heap.size w W) => pMayOp_any s q n k a (l.length : Int) t sp xs W (LenAt.tabs (TabW.below hT hb) (by unfold maxLen; omega)) (hs.below hb) (by omega) hwf
  have HK := Lib.hid (fun W (hb : Below w.heap.size w W) => h.kept hb)
  subst hsv
  unfold opV at hMy ⊢
  have HB0 := Lib.hid (And.intro ((Below.refl w.heap.size w).alloc (Nat.le_refl _) (.cells #[.int .i64 s, .int .i64 q, .int .i64 n, .int .i64 k, .int .i64 a, .string t, .slice sa X sc] 35)) (heap_new w (.cells #[.int .i64 s, .int .i64 q, .int .i64 n, .int .i64 k, .int .i64 a, .string t, .slice sa X sc] 35)))
  have HX := Lib.hid (And.intro hX (And.intro hs (And.intro hwf hx)))
  have HD := Lib.hid (And.intro hD (And.intro hR (And.intro hc (And.intro hm (And.intro hw (And.intro hS hl))))))
  have HW := Lib.hid (And.intro hT (And.intro hn ht))
  obtain ⟨L, hL⟩ : ∃ z, l.length = z := ⟨_, rfl⟩
  have HL := Lib.hid hL
  rw [hL] at hSz hMy
  have HSz := Lib.hid hSz
  have hcd : cDo l ⟨s, q, n, k, a, t.data.toList, xs⟩ = (goneC l (sMark xs), 0) := by unfold cDo runC; rw [hb, if_pos rfl, if_neg (fun e => by have := e.1; simp only at this; omega), if_neg (show ¬ k = 1 by omega)]
  have hom := (oMay_iff _ _).1 hb
  obtain ⟨-, -, -, hkk | ⟨-, -, -, hgd, hin⟩⟩ := hom
  · exact absurd hkk.1 (by show ¬ k = 1; omega)
  rw [hL] at hb
  rw [hb] at hMy
  have HMy := Lib.hid hMy
  have HG := Lib.hid (And.intro hgd hin)
  rw [hcd]
  have HKD := Lib.hid hk
  clear hk hSz hMy hcd hb hD hR hc hm hw hS hl hs hwf hx hT hn ht hX h hgd hin hL
  go_enter Tryz.func32, Tryz.ntmps32
  go_wp2
  generalize w.alloc (.cells #[.int .i64 s, .int .i64 q, .int .i64 n, .int .i64 k, .int .i64 a, .string t, .slice sa X sc] 35) = w0 at HB0 ⊢
  refine wp_region_held_drew (S := fun Z => Below w.heap.size w Z ∧ Z.heap[w.heap.size]? = some (.cells #[.int .i64 s, .int .i64 q, .int .i64 n, .int .i64 k, .int .i64 a, .string t, .slice sa X sc] 35 (0, 0))) (by kernel_rfl) ⟨HB0.out.1.drew, HB0.out.2⟩ (fun hHeld => ?_)
  refine wpAnyH_take (i := 0) (v := ?_) rfl (by kernel_rfl) (by kernel_rfl) (by kernel_rfl) (fun _ _ _ h => h) (Or.inl ⟨rfl, ?hy1⟩) (by assumption) ?_
  case hy1 =>
    intro W hS
    go_simp
    try with_reducible rfl
  try simp only [Act.put, List.getElem_toArray, List.getElem_cons_zero, List.setIfInBounds_toArray, List.set_cons_zero, List.set_cons_succ]
  refine wpAnyH_take (i := 1) (v := ?_) rfl (by kernel_rfl) (by kernel_rfl) (by kernel_rfl) (fun _ _ _ h => h) (Or.inl ⟨rfl, ?hy2⟩) (by assumption) ?_
  case hy2 =>
    intro W hS
    go_simp
    try with_reducible rfl
  try simp only [Act.put, List.getElem_toArray, List.getElem_cons_succ, List.getElem_cons_zero, List.setIfInBounds_toArray, List.set_cons_zero, List.set_cons_succ]
  refine wpAnyH_take (i := 2) (v := ?_) rfl (by kernel_rfl) (by kernel_rfl) (by kernel_rfl) (fun _ _ _ h => h) (Or.inl ⟨rfl, ?hy3⟩) (by assumption) ?_
  case hy3 =>
    intro W hS
    go_simp
    try with_reducible rfl
  try simp only [Act.put, List.getElem_toArray, List.getElem_cons_succ, List.getElem_cons_zero, List.setIfInBounds_toArray, List.set_cons_zero, List.set_cons_succ]
  refine wpAnyH_take (i := 3) (v := ?_) rfl (by kernel_rfl) (by kernel_rfl) (by kernel_rfl) (fun _ _ _ h => h) (Or.inl ⟨rfl, ?hy4⟩) (by assumption) ?_
  case hy4 =>
    intro W hS
    have u0 := box_cell hS.2 0
    have u1 := box_cell hS.2 1
    have u2 := box_cell hS.2 2
    have u3 := box_cell hS.2 3
    have u4 := box_cell hS.2 4
    have u5 := box_cell hS.2 5
    have u6 := box_cell hS.2 6
    go_simp
    try with_reducible rfl
  try simp only [Act.put, List.getElem_toArray, List.getElem_cons_succ, List.getElem_cons_zero, List.setIfInBounds_toArray, List.set_cons_zero, List.set_cons_succ]
  refine wpAnyH_take (i := 4) (v := ?_) rfl (by kernel_rfl) (by kernel_rfl) (by kernel_rfl) (fun _ _ _ h => h) (Or.inl ⟨rfl, ?hy5⟩) (by assumption) ?_
  case hy5 =>
    intro W hS
    go_simp
    try with_reducible rfl
  try simp only [Act.put, List.getElem_toArray, List.getElem_cons_succ, List.getElem_cons_zero, List.setIfInBounds_toArray, List.set_cons_zero, List.set_cons_succ]
  refine wpAnyH_ready (rs := [5]) (by kernel_rfl) (by simp) (AllReadyH.cons rfl (fun K hK => ?_) AllReadyH.nil)
  go_simp
  go_wp2_with (go_at_call 15; refine (HSz.out _ hHeld.1).mono ?_; rintro e wa ⟨rfl, hb⟩)
  refine hK.out _ _ (⟨hHeld.1.trans (hb.mono hHeld.1.size), row_up hHeld.2 hb⟩) (fun hX => ?_)
  clear hK K hHeld
  have hHeld := hX
  clear hX
  refine wpAnyH_ready (rs := [6]) (by kernel_rfl) (by simp) (AllReadyH.cons rfl (fun K hK => ?_) AllReadyH.nil)
  go_simp
  go_wp2_with (go_at_call 57; refine (HMy.out _ hHeld.1).mono ?_; rintro e wb ⟨rfl, hb⟩)
  refine hK.out _ _ (⟨hHeld.1.trans (hb.mono hHeld.1.size), row_up hHeld.2 hb⟩) (fun hX => ?_)
  clear hK K hHeld
  have hHeld := hX
  clear hX
  refine wpAnyH_take (i := 7) (v := ?_) rfl (by kernel_rfl) (by kernel_rfl) (by kernel_rfl) (fun _ _ _ h => h) (Or.inl ⟨rfl, ?hy6⟩) (by assumption) ?_
  case hy6 =>
    intro W hS
    go_simp
    try with_reducible rfl
  try simp only [Act.put, List.getElem_toArray, List.getElem_cons_succ, List.getElem_cons_zero, List.setIfInBounds_toArray, List.set_cons_zero, List.set_cons_succ]
  refine wpAnyH_take (i := 8) (v := ?_) rfl (by kernel_rfl) (by kernel_rfl) (by kernel_rfl) (fun _ _ _ h => h) (Or.inl ⟨rfl, ?hy7⟩) (by assumption) ?_
  case hy7 =>
    intro W hS
    go_simp
    try with_reducible rfl
  try simp only [Act.put, List.getElem_toArray, List.getElem_cons_succ, List.getElem_cons_zero, List.setIfInBounds_toArray, List.set_cons_zero, List.set_cons_succ]
  refine wpAnyH_done (by kernel_rfl) ?_ _
  have HB1 := Lib.hid hHeld
  have y2 := box_cell hHeld.2 2
  have y3 := box_cell hHeld.2 3
  have y4 := box_cell hHeld.2 4
  have y5 := box_cell hHeld.2 5
  have y6 := box_cell hHeld.2 6
  clear hHeld
  have hk := HKD.out
  subst hk
  go_wp2_with fail
  have hDB := HD.out.1.keep fun b z => HB1.out.1.block b (HD.out.1.low z).2
  have hrm := dremove_any 0 B M bv (.slice sa X sc) bs l xs _ hDB (by have := HD.out.2.2.2.2.2.2; omega) (HX.out.2.1.below HB1.out.1) (by have := HX.out.2.2.2; omega) HG.out.1 HG.out.2
  have HRM := Lib.hid hrm
  have HDB := Lib.hid hDB
  clear hrm hDB
  refine HRM.out.mono ?_
  rintro e w7 ⟨⟨_, rfl⟩, hr⟩
  have HE := Lib.hid (DKept.after HB1.out.1 (HDB.out.removed hr HD.out.2.2.2.1 HD.out.2.2.2.2.1 HD.out.2.2.2.2.2.1))
  clear hr
  go_wp2
  go_ret
  exact ⟨_, HE.out, rfl⟩
set_option maxRecDepth 100000 in
set_option maxHeartbeats 8000000 in
theorem dDo_twice (s q n k a : Int) (t : ByteArray) (sp : Value) (xs : List Sp) (p : Value) (l : List PCell) (S : Nat → Prop) (w : World) (h : DocD w p l S) (hT : TabW w) (hs : SpAt w sp xs) (hn : NWf s q n k a) (ht : t.size ≤ 1000) (hx : xs.length ≤ 20000) (hwf : sWf xs) (hb : oMay ⟨s, q, n, k, a, t.data.toList, xs⟩ l.length = true) (hk : k = 1) (hh : hasN l s q = true) :
    Calls Tryz.prog 32 #[p, opV s q n k a t sp] w (DVal DocD p (cDo l ⟨s, q, n, k, a, t.data.toList, xs⟩).1 S (.int .i64 (cDo l ⟨s, q, n, k, a, t.data.toList, xs⟩).2) w) := by
  obtain ⟨B, M, bv, bs, rfl, hD, hR, hc, hm, hw, hl, hS⟩ := h.parts
  obtain ⟨X, hX⟩ : ∃ X, xs.length = X := ⟨_, rfl⟩
  obtain ⟨sa, sc, hsv⟩ : ∃ sa sc, sp = .slice sa X sc := by obtain ⟨z, c, h, _⟩ := hs; exact ⟨z, c, by rw [← hX]; exact h⟩
  have hSz := fun W (hb : Below w.heap.size w W) => (dsize_any (some ⟨B, 0, none⟩) (liveN (catB bs)) (goneN (catB bs)) W (by have := liveN_gone (catB bs); rw [hc] at this ⊢; omega) (whole_any B bv _ bs W (hR.below hb)))
  rw [liveN_gone, hc] at hSz
  have hMy := fun W (hb : Below w.heap.size w W) => pMayOp_any s q n k a (l.length : Int) t sp xs W (LenAt.tabs (TabW.below hT hb) (by unfold maxLen; omega)) (hs.below hb) (by omega) hwf
  have HK := Lib.hid (fun W (hb : Below w.heap.size w W) => h.kept hb)
  subst hsv
  unfold opV at hMy ⊢
  have HB0 := Lib.hid (And.intro ((Below.refl w.heap.size w).alloc (Nat.le_refl _) (.cells #[.int .i64 s, .int .i64 q, .int .i64 n, .int .i64 k, .int .i64 a, .string t, .slice sa X sc] 35)) (heap_new w (.cells #[.int .i64 s, .int .i64 q, .int .i64 n, .int .i64 k, .int .i64 a, .string t, .slice sa X sc] 35)))
  have HX := Lib.hid (And.intro hX (And.intro hs (And.intro hwf hx)))
  have HD := Lib.hid (And.intro hD (And.intro hR (And.intro hc (And.intro hm (And.intro hw (And.intro hS hl))))))
  have HW := Lib.hid (And.intro hT (And.intro hn ht))
  obtain ⟨L, hL⟩ : ∃ z, l.length = z := ⟨_, rfl⟩
  have HL := Lib.hid hL
  rw [hL] at hSz hMy
  have HSz := Lib.hid hSz
  have hcd : cDo l ⟨s, q, n, k, a, t.data.toList, xs⟩ = (l, 15) := by unfold cDo; rw [hb, if_pos rfl, if_pos ⟨hk, hh⟩]
  rw [hL] at hb
  rw [hb] at hMy
  have HMy := Lib.hid hMy
  rw [hcd]
  rw [← hasNm_hasN] at hh
  have HHN := Lib.hid hh
  have HNW := Lib.hid (show nWf (s, q) from ⟨hn.s, hn.q⟩)
  obtain ⟨a0, a1, a2, a3, hoff⟩ : ∃ a0 a1 a2 a3 : Int, offV (offI (l.map idC) (s, q)) = .agg #[.int .u64 a0, .int .u64 a1, .int .u64 a2, .int .u64 a3] := ⟨_, _, _, _, rfl⟩
  have HOFF := Lib.hid hoff
  have HKD := Lib.hid hk
  clear hk hSz hMy hcd hb hD hR hc hm hw hS hl hs hwf hx hT hn ht hX h hL hh hoff
  go_enter Tryz.func32, Tryz.ntmps32
  go_wp2
  generalize w.alloc (.cells #[.int .i64 s, .int .i64 q, .int .i64 n, .int .i64 k, .int .i64 a, .string t, .slice sa X sc] 35) = w0 at HB0 ⊢
  refine wp_region_held_drew (S := fun Z => Below w.heap.size w Z ∧ Z.heap[w.heap.size]? = some (.cells #[.int .i64 s, .int .i64 q, .int .i64 n, .int .i64 k, .int .i64 a, .string t, .slice sa X sc] 35 (0, 0))) (by kernel_rfl) ⟨HB0.out.1.drew, HB0.out.2⟩ (fun hHeld => ?_)
  refine wpAnyH_take (i := 0) (v := ?_) rfl (by kernel_rfl) (by kernel_rfl) (by kernel_rfl) (fun _ _ _ h => h) (Or.inl ⟨rfl, ?hy1⟩) (by assumption) ?_
  case hy1 =>
    intro W hS
    go_simp
    try with_reducible rfl
  try simp only [Act.put, List.getElem_toArray, List.getElem_cons_zero, List.setIfInBounds_toArray, List.set_cons_zero, List.set_cons_succ]
  refine wpAnyH_take (i := 1) (v := ?_) rfl (by kernel_rfl) (by kernel_rfl) (by kernel_rfl) (fun _ _ _ h => h) (Or.inl ⟨rfl, ?hy2⟩) (by assumption) ?_
  case hy2 =>
    intro W hS
    go_simp
    try with_reducible rfl
  try simp only [Act.put, List.getElem_toArray, List.getElem_cons_succ, List.getElem_cons_zero, List.setIfInBounds_toArray, List.set_cons_zero, List.set_cons_succ]
  refine wpAnyH_take (i := 2) (v := ?_) rfl (by kernel_rfl) (by kernel_rfl) (by kernel_rfl) (fun _ _ _ h => h) (Or.inl ⟨rfl, ?hy3⟩) (by assumption) ?_
  case hy3 =>
    intro W hS
    go_simp
    try with_reducible rfl
  try simp only [Act.put, List.getElem_toArray, List.getElem_cons_succ, List.getElem_cons_zero, List.setIfInBounds_toArray, List.set_cons_zero, List.set_cons_succ]
  refine wpAnyH_take (i := 3) (v := ?_) rfl (by kernel_rfl) (by kernel_rfl) (by kernel_rfl) (fun _ _ _ h => h) (Or.inl ⟨rfl, ?hy4⟩) (by assumption) ?_
  case hy4 =>
    intro W hS
    have u0 := box_cell hS.2 0
    have u1 := box_cell hS.2 1
    have u2 := box_cell hS.2 2
    have u3 := box_cell hS.2 3
    have u4 := box_cell hS.2 4
    have u5 := box_cell hS.2 5
    have u6 := box_cell hS.2 6
    go_simp
    try with_reducible rfl
  try simp only [Act.put, List.getElem_toArray, List.getElem_cons_succ, List.getElem_cons_zero, List.setIfInBounds_toArray, List.set_cons_zero, List.set_cons_succ]
  refine wpAnyH_take (i := 4) (v := ?_) rfl (by kernel_rfl) (by kernel_rfl) (by kernel_rfl) (fun _ _ _ h => h) (Or.inl ⟨rfl, ?hy5⟩) (by assumption) ?_
  case hy5 =>
    intro W hS
    go_simp
    try with_reducible rfl
  try simp only [Act.put, List.getElem_toArray, List.getElem_cons_succ, List.getElem_cons_zero, List.setIfInBounds_toArray, List.set_cons_zero, List.set_cons_succ]
  refine wpAnyH_ready (rs := [5]) (by kernel_rfl) (by simp) (AllReadyH.cons rfl (fun K hK => ?_) AllReadyH.nil)
  go_simp
  go_wp2_with (go_at_call 15; refine (HSz.out _ hHeld.1).mono ?_; rintro e wa ⟨rfl, hb⟩)
  refine hK.out _ _ (⟨hHeld.1.trans (hb.mono hHeld.1.size), row_up hHeld.2 hb⟩) (fun hX => ?_)
  clear hK K hHeld
  have hHeld := hX
  clear hX
  refine wpAnyH_ready (rs := [6]) (by kernel_rfl) (by simp) (AllReadyH.cons rfl (fun K hK => ?_) AllReadyH.nil)
  go_simp
  go_wp2_with (go_at_call 57; refine (HMy.out _ hHeld.1).mono ?_; rintro e wb ⟨rfl, hb⟩)
  refine hK.out _ _ (⟨hHeld.1.trans (hb.mono hHeld.1.size), row_up hHeld.2 hb⟩) (fun hX => ?_)
  clear hK K hHeld
  have hHeld := hX
  clear hX
  refine wpAnyH_take (i := 7) (v := ?_) rfl (by kernel_rfl) (by kernel_rfl) (by kernel_rfl) (fun _ _ _ h => h) (Or.inl ⟨rfl, ?hy6⟩) (by assumption) ?_
  case hy6 =>
    intro W hS
    go_simp
    try with_reducible rfl
  try simp only [Act.put, List.getElem_toArray, List.getElem_cons_succ, List.getElem_cons_zero, List.setIfInBounds_toArray, List.set_cons_zero, List.set_cons_succ]
  refine wpAnyH_take (i := 8) (v := ?_) rfl (by kernel_rfl) (by kernel_rfl) (by kernel_rfl) (fun _ _ _ h => h) (Or.inl ⟨rfl, ?hy7⟩) (by assumption) ?_
  case hy7 =>
    intro W hS
    go_simp
    try with_reducible rfl
  try simp only [Act.put, List.getElem_toArray, List.getElem_cons_succ, List.getElem_cons_zero, List.setIfInBounds_toArray, List.set_cons_zero, List.set_cons_succ]
  refine wpAnyH_done (by kernel_rfl) ?_ _
  have HB1 := Lib.hid hHeld
  have y2 := box_cell hHeld.2 2
  have y3 := box_cell hHeld.2 3
  have y4 := box_cell hHeld.2 4
  have y5 := box_cell hHeld.2 5
  have y6 := box_cell hHeld.2 6
  clear hHeld
  have hk2 : ¬ k = 2 := by have := HKD.out; omega
  go_wp2_with fail
  clear hk2 y2 y3 y4 y5 y6
  refine wp_region_held_drew (S := fun Z => Below w.heap.size w Z ∧ Z.heap[w.heap.size]? = some (.cells #[.int .i64 s, .int .i64 q, .int .i64 n, .int .i64 k, .int .i64 a, .string t, .slice sa X sc] 35 (0, 0)) ∧ Z.heap[B]? = some (.cells #[bv, .map (some M)] 79 (0, 0)) ∧ NMap Z M (l.map idC)) (by kernel_rfl) ⟨HB1.out.1.drew, HB1.out.2, row_up HD.out.1.box HB1.out.1.drew, (HD.out.1.names.below HB1.out.1).drew⟩ (fun hHeld => ?_)
  refine wpAnyH_take (i := 0) (v := ?_) rfl (by kernel_rfl) (by kernel_rfl) (by kernel_rfl) (fun _ _ _ h => h) (Or.inl ⟨rfl, ?hy8⟩) (by assumption) ?_
  case hy8 =>
    intro W hS
    go_simp
    try with_reducible rfl
  try simp only [Act.put, List.getElem_toArray, List.getElem_cons_zero, List.setIfInBounds_toArray, List.set_cons_zero, List.set_cons_succ]
  refine wpAnyH_take (i := 1) (v := ?_) rfl (by kernel_rfl) (by kernel_rfl) (by kernel_rfl) (fun _ _ _ h => h) (Or.inl ⟨rfl, ?hy9⟩) (by assumption) ?_
  case hy9 =>
    intro W hS
    go_simp
    try with_reducible rfl
  try simp only [Act.put, List.getElem_toArray, List.getElem_cons_succ, List.getElem_cons_zero, List.setIfInBounds_toArray, List.set_cons_zero, List.set_cons_succ]
  refine wpAnyH_take (i := 2) (v := ?_) rfl (by kernel_rfl) (by kernel_rfl) (by kernel_rfl) (fun _ _ _ h => h) (Or.inl ⟨rfl, ?hy10⟩) (by assumption) ?_
  case hy10 =>
    intro W hS
    go_simp
    try with_reducible rfl
  try simp only [Act.put, List.getElem_toArray, List.getElem_cons_succ, List.getElem_cons_zero, List.setIfInBounds_toArray, List.set_cons_zero, List.set_cons_succ]
  refine wpAnyH_take (i := 3) (v := ?_) rfl (by kernel_rfl) (by kernel_rfl) (by kernel_rfl) (fun _ _ _ h => h) (Or.inl ⟨rfl, ?hy11⟩) (by assumption) ?_
  case hy11 =>
    intro W hS
    obtain ⟨hS1, hS2, hS3, hS4⟩ := hS
    have u0 := box_cell hS2 0
    have u1 := box_cell hS2 1
    have u2 := box_cell hS3 1
    go_simp
    try with_reducible rfl
  try simp only [Act.put, List.getElem_toArray, List.getElem_cons_succ, List.getElem_cons_zero, List.setIfInBounds_toArray, List.set_cons_zero, List.set_cons_succ]
  refine wpAnyH_take (i := 4) (v := ?_) rfl (by kernel_rfl) (by kernel_rfl) (by kernel_rfl) (fun _ _ _ h => h) (Or.inl ⟨rfl, ?hy12⟩) (by assumption) ?_
  case hy12 =>
    intro W hS
    go_simp
    try with_reducible rfl
  try simp only [Act.put, List.getElem_toArray, List.getElem_cons_succ, List.getElem_cons_zero, List.setIfInBounds_toArray, List.set_cons_zero, List.set_cons_succ]
  refine wpAnyH_take (i := 5) (v := ?_) rfl (by kernel_rfl) (by kernel_rfl) (by kernel_rfl) (fun _ _ _ h => h) (Or.inl ⟨rfl, ?hy13⟩) (by assumption) ?_
  case hy13 =>
    intro W hS
    obtain ⟨hS1, hS2, hS3, hS4⟩ := hS
    have u0 := box_cell hS2 0
    have u1 := box_cell hS2 1
    have u2 := box_cell hS3 1
    go_simp
    try with_reducible rfl
  try simp only [Act.put, List.getElem_toArray, List.getElem_cons_succ, List.getElem_cons_zero, List.setIfInBounds_toArray, List.set_cons_zero, List.set_cons_succ]
  refine wpAnyH_take (i := 6) (v := ?_) rfl (by kernel_rfl) (by kernel_rfl) (by kernel_rfl) (fun _ _ _ h => h) (Or.inl ⟨rfl, ?hy14⟩) (by assumption) ?_
  case hy14 =>
    intro W hS
    have hlk := hS.2.2.2.look_ok (p := (s, q)) HNW.out
    rw [HOFF.out, HHN.out] at hlk
    go_simp
    try with_reducible rfl
  try simp only [Act.put, List.getElem_toArray, List.getElem_cons_succ, List.getElem_cons_zero, List.setIfInBounds_toArray, List.set_cons_zero, List.set_cons_succ]
  refine wpAnyH_take (i := 7) (v := ?_) rfl (by kernel_rfl) (by kernel_rfl) (by kernel_rfl) (fun _ _ _ h => h) (Or.inl ⟨rfl, ?hy15⟩) (by assumption) ?_
  case hy15 =>
    intro W hS
    go_simp
    try with_reducible rfl
  try simp only [Act.put, List.getElem_toArray, List.getElem_cons_succ, List.getElem_cons_zero, List.setIfInBounds_toArray, List.set_cons_zero, List.set_cons_succ]
  refine wpAnyH_take (i := 8) (v := ?_) rfl (by kernel_rfl) (by kernel_rfl) (by kernel_rfl) (fun _ _ _ h => h) (Or.inl ⟨rfl, ?hy16⟩) (by assumption) ?_
  case hy16 =>
    intro W hS
    go_simp
    try with_reducible rfl
  try simp only [Act.put, List.getElem_toArray, List.getElem_cons_succ, List.getElem_cons_zero, List.setIfInBounds_toArray, List.set_cons_zero, List.set_cons_succ]
  refine wpAnyH_take (i := 9) (v := ?_) rfl (by kernel_rfl) (by kernel_rfl) (by kernel_rfl) (fun _ _ _ h => h) (Or.inl ⟨rfl, ?hy17⟩) (by assumption) ?_
  case hy17 =>
    intro W hS
    go_simp
    try with_reducible rfl
  try simp only [Act.put, List.getElem_toArray, List.getElem_cons_succ, List.getElem_cons_zero, List.setIfInBounds_toArray, List.set_cons_zero, List.set_cons_succ]
  refine wpAnyH_ready (rs := [10]) (by kernel_rfl) (by simp) (AllReadyH.cons rfl (fun K hK => ?_) AllReadyH.nil)
  go_simp
  refine hK.out _ _ (⟨hHeld.1.alloc hHeld.1.size _, row_al hHeld.2.1 _, row_al hHeld.2.2.1 _, hHeld.2.2.2.alloc _⟩) (fun hX => ?_)
  clear hK K hHeld
  have hHeld := hX
  clear hX
  refine wpAnyH_ready (rs := [11]) (by kernel_rfl) (by simp) (AllReadyH.cons rfl (fun K hK => ?_) AllReadyH.nil)
  have o0 : (wb.alloc (.cells #[.int .u64 0, .int .u64 0, .int .u64 0, .int .u64 0] 109)).drew.heap[wb.heap.size]? = some (.cells #[.int .u64 0, .int .u64 0, .int .u64 0, .int .u64 0] 109 (0, 0)) := heap_new wb _
  obtain ⟨g1, g2, g3, g4⟩ := id hHeld
  have hl1 := box_lt HB1.out.2
  have hl2 := box_lt g3
  have hl3 : M < wb.heap.size := (HD.out.1.names.below HB1.out.1).lt
  have hl4 : B < wb.heap.size := box_lt (row_up HD.out.1.box HB1.out.1)
  have hws := HB1.out.1.size
  generalize (wb.alloc (.cells #[.int .u64 0, .int .u64 0, .int .u64 0, .int .u64 0] 109)).drew = wz at g1 g2 g3 g4 o0 ⊢
  have f0 := box_frozen o0 0
  have f1 := box_frozen o0 1
  have f2 := box_frozen o0 2
  have f3 := box_frozen o0 3
  have e0 := box_cell o0 0
  have e1 := box_cell o0 1
  have e2 := box_cell o0 2
  have e3 := box_cell o0 3
  have HQ := Lib.hid (show Below w.heap.size w ((((wz.setCell ⟨wb.heap.size, 0, none⟩ (.int .u64 a0)).setCell ⟨wb.heap.size, 1, none⟩ (.int .u64 a1)).setCell ⟨wb.heap.size, 2, none⟩ (.int .u64 a2)).setCell ⟨wb.heap.size, 3, none⟩ (.int .u64 a3)) ∧ ((((wz.setCell ⟨wb.heap.size, 0, none⟩ (.int .u64 a0)).setCell ⟨wb.heap.size, 1, none⟩ (.int .u64 a1)).setCell ⟨wb.heap.size, 2, none⟩ (.int .u64 a2)).setCell ⟨wb.heap.size, 3, none⟩ (.int .u64 a3)).heap[w.heap.size]? = some (.cells #[.int .i64 s, .int .i64 q, .int .i64 n, .int .i64 k, .int .i64 a, .string t, .slice sa X sc] 35 (0, 0)) ∧ ((((wz.setCell ⟨wb.heap.size, 0, none⟩ (.int .u64 a0)).setCell ⟨wb.heap.size, 1, none⟩ (.int .u64 a1)).setCell ⟨wb.heap.size, 2, none⟩ (.int .u64 a2)).setCell ⟨wb.heap.size, 3, none⟩ (.int .u64 a3)).heap[B]? = some (.cells #[bv, .map (some M)] 79 (0, 0)) ∧ NMap ((((wz.setCell ⟨wb.heap.size, 0, none⟩ (.int .u64 a0)).setCell ⟨wb.heap.size, 1, none⟩ (.int .u64 a1)).setCell ⟨wb.heap.size, 2, none⟩ (.int .u64 a2)).setCell ⟨wb.heap.size, 3, none⟩ (.int .u64 a3)) M (l.map idC) from ⟨(((g1.setCell (p := ⟨wb.heap.size, 0, none⟩) hws _).setCell (p := ⟨wb.heap.size, 1, none⟩) hws _).setCell (p := ⟨wb.heap.size, 2, none⟩) hws _).setCell (p := ⟨wb.heap.size, 3, none⟩) hws _, (box_other (by omega) 3 _).trans ((box_other (by omega) 2 _).trans ((box_other (by omega) 1 _).trans ((box_other (by omega) 0 _).trans g2))), (box_other (by omega) 3 _).trans ((box_other (by omega) 2 _).trans ((box_other (by omega) 1 _).trans ((box_other (by omega) 0 _).trans g3))), (((g4.set (o := 0) (by omega)).set (o := 1) (by omega)).set (o := 2) (by omega)).set (o := 3) (by omega)⟩)
  go_simp
  refine hK.out _ _ (⟨HQ.out.1, HQ.out.2.1, HQ.out.2.2.1, HQ.out.2.2.2⟩) (fun hX => ?_)
  clear hK K hHeld
  have hHeld := hX
  clear hX
  refine wpAnyH_take (i := 12) (v := ?_) rfl (by kernel_rfl) (by kernel_rfl) (by kernel_rfl) (fun _ _ _ h => h) (Or.inl ⟨rfl, ?hy18⟩) (by assumption) ?_
  case hy18 =>
    intro W hS
    go_simp
    try with_reducible rfl
  try simp only [Act.put, List.getElem_toArray, List.getElem_cons_succ, List.getElem_cons_zero, List.setIfInBounds_toArray, List.set_cons_zero, List.set_cons_succ]
  refine wpAnyH_done (by kernel_rfl) ?_ _
  have HB2 := Lib.hid hHeld
  clear hHeld
  go_wp2
  go_ret
  exact ⟨S, HK.out _ HB2.out.1, rfl⟩
set_option maxRecDepth 100000 in
set_option maxHeartbeats 8000000 in
theorem dDo_ins (s q n k a : Int) (t : ByteArray) (sp : Value) (xs : List Sp) (p : Value) (l : List PCell) (S : Nat → Prop) (w : World) (h : DocD w p l S) (hT : TabW w) (hs : SpAt w sp xs) (hn : NWf s q n k a) (ht : t.size ≤ 1000) (hx : xs.length ≤ 20000) (hwf : sWf xs) (hb : oMay ⟨s, q, n, k, a, t.data.toList, xs⟩ l.length = true) (hk : k = 1) (hh : hasN l s q = false) :
    Calls Tryz.prog 32 #[p, opV s q n k a t sp] w (DVal DocD p (cDo l ⟨s, q, n, k, a, t.data.toList, xs⟩).1 S (.int .i64 (cDo l ⟨s, q, n, k, a, t.data.toList, xs⟩).2) w) := by
  obtain ⟨B, M, bv, bs, rfl, hD, hR, hc, hm, hw, hl, hS⟩ := h.parts
  obtain ⟨X, hX⟩ : ∃ X, xs.length = X := ⟨_, rfl⟩
  obtain ⟨sa, sc, hsv⟩ : ∃ sa sc, sp = .slice sa X sc := by obtain ⟨z, c, h, _⟩ := hs; exact ⟨z, c, by rw [← hX]; exact h⟩
  have hSz := fun W (hb : Below w.heap.size w W) => (dsize_any (some ⟨B, 0, none⟩) (liveN (catB bs)) (goneN (catB bs)) W (by have := liveN_gone (catB bs); rw [hc] at this ⊢; omega) (whole_any B bv _ bs W (hR.below hb)))
  rw [liveN_gone, hc] at hSz
  have hMy := fun W (hb : Below w.heap.size w W) => pMayOp_any s q n k a (l.length : Int) t sp xs W (LenAt.tabs (TabW.below hT hb) (by unfold maxLen; omega)) (hs.below hb) (by omega) hwf
  have HK := Lib.hid (fun W (hb : Below w.heap.size w W) => h.kept hb)
  subst hsv
  unfold opV at hMy ⊢
  have HB0 := Lib.hid (And.intro ((Below.refl w.heap.size w).alloc (Nat.le_refl _) (.cells #[.int .i64 s, .int .i64 q, .int .i64 n, .int .i64 k, .int .i64 a, .string t, .slice sa X sc] 35)) (heap_new w (.cells #[.int .i64 s, .int .i64 q, .int .i64 n, .int .i64 k, .int .i64 a, .string t, .slice sa X sc] 35)))
  have HX := Lib.hid (And.intro hX (And.intro hs (And.intro hwf hx)))
  have HD := Lib.hid (And.intro hD (And.intro hR (And.intro hc (And.intro hm (And.intro hw (And.intro hS hl))))))
  have HW := Lib.hid (And.intro hT (And.intro hn ht))
  obtain ⟨L, hL⟩ : ∃ z, l.length = z := ⟨_, rfl⟩
  have HL := Lib.hid hL
  rw [hL] at hSz hMy
  have HSz := Lib.hid hSz
  have hcd : cDo l ⟨s, q, n, k, a, t.data.toList, xs⟩ = (runC l ⟨s, q, n, k, a, t.data.toList, xs⟩, 0) := by unfold cDo; rw [hb, if_pos rfl, if_neg (fun e => by rw [hh] at e; exact absurd e.2 (by decide))]
  have hom := (oMay_iff _ _).1 hb
  obtain ⟨-, hnm, -, ⟨-, ha0, ha1, hmt, -, hro⟩ | hkk⟩ := hom
  rotate_left
  · exact absurd hkk.1 (by show ¬ k = 2; omega)
  dsimp only at hnm ha0 ha1 hmt hro
  obtain ⟨rs, hrs⟩ : ∃ rs, runesL t.data.toList = some rs := by
    unfold mayT at hmt
    simp only [Bool.and_eq_true, decide_eq_true_eq] at hmt
    have h2 := hmt.2.1
    unfold lenT at h2
    cases hr : runesL t.data.toList with
    | none => rw [hr] at h2; dsimp only at h2; omega
    | some rs => exact ⟨rs, rfl⟩
  have hlt : lenT t.data.toList = rs.length := by unfold lenT; rw [hrs]
  have h200 : rs.length ≤ 200 := by
    unfold mayT at hmt
    simp only [Bool.and_eq_true, decide_eq_true_eq] at hmt
    omega
  have hval := (runesL_join hrs).2
  obtain ⟨pp, hpp⟩ : ∃ pp : Nat, a = pp := ⟨a.toNat, by omega⟩
  have hru : runC l ⟨s, q, n, k, a, t.data.toList, xs⟩ = l.take pp ++ newR s q rs ++ l.drop pp := by
    unfold runC
    rw [if_pos (show k = 1 from hk), newC_newR hrs]
    show l.take a.toNat ++ _ ++ l.drop a.toNat = _
    rw [hpp]
    rfl
  have HPP := Lib.hid hpp
  rw [hlt] at hro
  have hmay2 := may_insC pp hm hh hnm hval h200 (by omega)
  have hwf2 := wf_ins pp hw hn.s hn.q hval h200
  rw [hru] at hcd
  rw [hL] at hb
  rw [hb] at hMy
  have HMy := Lib.hid hMy
  rw [hcd]
  have hcof := fun W (hb : Below w.heap.size w W) => cellsOf_any s q n k a t (.slice sa X sc) rs W (TabW.below hT hb) ht hrs (by omega) ⟨_, _, _, rfl⟩
  unfold opV at hcof
  have HCOF := Lib.hid hcof
  have HR := Lib.hid (And.intro hmay2 (And.intro hwf2 (And.intro (show pp ≤ l.length by omega) (And.intro h200 hro))))
  have hok : ∀ c ∈ newR s q rs, nWf (c.site, c.seq) ∧ 0 ≤ c.off ∧ c.off < 200 := fun c hc => by
    obtain ⟨i, hi, e1, e2, e3⟩ := mem_newR hc
    have hil := (List.getElem?_eq_some_iff.1 hi).1
    rw [e1, e2, e3]
    exact ⟨⟨hn.s, hn.q⟩, by omega, by omega⟩
  have hkn : knowN (l.map idC) (newR s q rs) = (l.map idC ++ (newR s q rs).map idC, true) := by
    refine knowN_yes _ _ fun i d hd => ⟨fun g => ?_, fun g => ?_⟩
    · obtain ⟨c, hc, e⟩ := List.mem_map.1 g
      obtain ⟨j, _, e1, e2, _⟩ := mem_newR (List.mem_of_getElem? hd)
      unfold idC at e
      injection e with z1 e
      injection e with z2 _
      exact hasN_no hh c hc ⟨z1.trans e1, z2.trans e2⟩
    · have hnd := newR_nodup s q rs
      obtain ⟨c, hc, e⟩ := List.mem_map.1 g
      obtain ⟨j, hj, rfl⟩ := List.mem_iff_getElem.1 hc
      rw [List.length_take] at hj
      rw [List.getElem_take] at e
      have hil := (List.getElem?_eq_some_iff.1 hd)
      refine List.pairwise_iff_getElem.1 hnd j i (by rw [List.length_map]; omega) (by rw [List.length_map]; exact hil.1) (by omega) ?_
      rw [List.getElem_map, List.getElem_map, hil.2]
      exact e
  have HOK := Lib.hid (And.intro hok hkn)
  rw [← hasNm_hasN] at hh
  have HHN := Lib.hid hh
  have HNW := Lib.hid (show nWf (s, q) from ⟨hn.s, hn.q⟩)
  obtain ⟨a0, a1, a2, a3, hoff⟩ : ∃ a0 a1 a2 a3 : Int, offV (offI (l.map idC) (s, q)) = .agg #[.int .u64 a0, .int .u64 a1, .int .u64 a2, .int .u64 a3] := ⟨_, _, _, _, rfl⟩
  have HOFF := Lib.hid hoff
  have HKD := Lib.hid hk
  clear hk hSz hMy hcd hb hD hR hc hm hw hS hl hs hwf hx hT hn ht hX h hL hh hoff hcof hmay2 hwf2 hok hkn hru hval h200 hlt hrs hro hmt ha0 ha1 hnm hpp
  go_enter Tryz.func32, Tryz.ntmps32
  go_wp2
  generalize w.alloc (.cells #[.int .i64 s, .int .i64 q, .int .i64 n, .int .i64 k, .int .i64 a, .string t, .slice sa X sc] 35) = w0 at HB0 ⊢
  refine wp_region_held_drew (S := fun Z => Below w.heap.size w Z ∧ Z.heap[w.heap.size]? = some (.cells #[.int .i64 s, .int .i64 q, .int .i64 n, .int .i64 k, .int .i64 a, .string t, .slice sa X sc] 35 (0, 0))) (by kernel_rfl) ⟨HB0.out.1.drew, HB0.out.2⟩ (fun hHeld => ?_)
  refine wpAnyH_take (i := 0) (v := ?_) rfl (by kernel_rfl) (by kernel_rfl) (by kernel_rfl) (fun _ _ _ h => h) (Or.inl ⟨rfl, ?hy1⟩) (by assumption) ?_
  case hy1 =>
    intro W hS
    go_simp
    try with_reducible rfl
  try simp only [Act.put, List.getElem_toArray, List.getElem_cons_zero, List.setIfInBounds_toArray, List.set_cons_zero, List.set_cons_succ]
  refine wpAnyH_take (i := 1) (v := ?_) rfl (by kernel_rfl) (by kernel_rfl) (by kernel_rfl) (fun _ _ _ h => h) (Or.inl ⟨rfl, ?hy2⟩) (by assumption) ?_
  case hy2 =>
    intro W hS
    go_simp
    try with_reducible rfl
  try simp only [Act.put, List.getElem_toArray, List.getElem_cons_succ, List.getElem_cons_zero, List.setIfInBounds_toArray, List.set_cons_zero, List.set_cons_succ]
  refine wpAnyH_take (i := 2) (v := ?_) rfl (by kernel_rfl) (by kernel_rfl) (by kernel_rfl) (fun _ _ _ h => h) (Or.inl ⟨rfl, ?hy3⟩) (by assumption) ?_
  case hy3 =>
    intro W hS
    go_simp
    try with_reducible rfl
  try simp only [Act.put, List.getElem_toArray, List.getElem_cons_succ, List.getElem_cons_zero, List.setIfInBounds_toArray, List.set_cons_zero, List.set_cons_succ]
  refine wpAnyH_take (i := 3) (v := ?_) rfl (by kernel_rfl) (by kernel_rfl) (by kernel_rfl) (fun _ _ _ h => h) (Or.inl ⟨rfl, ?hy4⟩) (by assumption) ?_
  case hy4 =>
    intro W hS
    have u0 := box_cell hS.2 0
    have u1 := box_cell hS.2 1
    have u2 := box_cell hS.2 2
    have u3 := box_cell hS.2 3
    have u4 := box_cell hS.2 4
    have u5 := box_cell hS.2 5
    have u6 := box_cell hS.2 6
    go_simp
    try with_reducible rfl
  try simp only [Act.put, List.getElem_toArray, List.getElem_cons_succ, List.getElem_cons_zero, List.setIfInBounds_toArray, List.set_cons_zero, List.set_cons_succ]
  refine wpAnyH_take (i := 4) (v := ?_) rfl (by kernel_rfl) (by kernel_rfl) (by kernel_rfl) (fun _ _ _ h => h) (Or.inl ⟨rfl, ?hy5⟩) (by assumption) ?_
  case hy5 =>
    intro W hS
    go_simp
    try with_reducible rfl
  try simp only [Act.put, List.getElem_toArray, List.getElem_cons_succ, List.getElem_cons_zero, List.setIfInBounds_toArray, List.set_cons_zero, List.set_cons_succ]
  refine wpAnyH_ready (rs := [5]) (by kernel_rfl) (by simp) (AllReadyH.cons rfl (fun K hK => ?_) AllReadyH.nil)
  go_simp
  go_wp2_with (go_at_call 15; refine (HSz.out _ hHeld.1).mono ?_; rintro e wa ⟨rfl, hb⟩)
  refine hK.out _ _ (⟨hHeld.1.trans (hb.mono hHeld.1.size), row_up hHeld.2 hb⟩) (fun hX => ?_)
  clear hK K hHeld
  have hHeld := hX
  clear hX
  refine wpAnyH_ready (rs := [6]) (by kernel_rfl) (by simp) (AllReadyH.cons rfl (fun K hK => ?_) AllReadyH.nil)
  go_simp
  go_wp2_with (go_at_call 57; refine (HMy.out _ hHeld.1).mono ?_; rintro e wb ⟨rfl, hb⟩)
  refine hK.out _ _ (⟨hHeld.1.trans (hb.mono hHeld.1.size), row_up hHeld.2 hb⟩) (fun hX => ?_)
  clear hK K hHeld
  have hHeld := hX
  clear hX
  refine wpAnyH_take (i := 7) (v := ?_) rfl (by kernel_rfl) (by kernel_rfl) (by kernel_rfl) (fun _ _ _ h => h) (Or.inl ⟨rfl, ?hy6⟩) (by assumption) ?_
  case hy6 =>
    intro W hS
    go_simp
    try with_reducible rfl
  try simp only [Act.put, List.getElem_toArray, List.getElem_cons_succ, List.getElem_cons_zero, List.setIfInBounds_toArray, List.set_cons_zero, List.set_cons_succ]
  refine wpAnyH_take (i := 8) (v := ?_) rfl (by kernel_rfl) (by kernel_rfl) (by kernel_rfl) (fun _ _ _ h => h) (Or.inl ⟨rfl, ?hy7⟩) (by assumption) ?_
  case hy7 =>
    intro W hS
    go_simp
    try with_reducible rfl
  try simp only [Act.put, List.getElem_toArray, List.getElem_cons_succ, List.getElem_cons_zero, List.setIfInBounds_toArray, List.set_cons_zero, List.set_cons_succ]
  refine wpAnyH_done (by kernel_rfl) ?_ _
  have HB1 := Lib.hid hHeld
  have y2 := box_cell hHeld.2 2
  have y3 := box_cell hHeld.2 3
  have y4 := box_cell hHeld.2 4
  have y5 := box_cell hHeld.2 5
  have y6 := box_cell hHeld.2 6
  clear hHeld
  have hk2 : ¬ k = 2 := by have := HKD.out; omega
  go_wp2_with fail
  clear hk2 y2 y3 y4 y5 y6
  refine wp_region_held_drew (S := fun Z => Below w.heap.size w Z ∧ Z.heap[w.heap.size]? = some (.cells #[.int .i64 s, .int .i64 q, .int .i64 n, .int .i64 k, .int .i64 a, .string t, .slice sa X sc] 35 (0, 0)) ∧ Z.heap[B]? = some (.cells #[bv, .map (some M)] 79 (0, 0)) ∧ NMap Z M (l.map idC)) (by kernel_rfl) ⟨HB1.out.1.drew, HB1.out.2, row_up HD.out.1.box HB1.out.1.drew, (HD.out.1.names.below HB1.out.1).drew⟩ (fun hHeld => ?_)
  refine wpAnyH_take (i := 0) (v := ?_) rfl (by kernel_rfl) (by kernel_rfl) (by kernel_rfl) (fun _ _ _ h => h) (Or.inl ⟨rfl, ?hy8⟩) (by assumption) ?_
  case hy8 =>
    intro W hS
    go_simp
    try with_reducible rfl
  try simp only [Act.put, List.getElem_toArray, List.getElem_cons_zero, List.setIfInBounds_toArray, List.set_cons_zero, List.set_cons_succ]
  refine wpAnyH_take (i := 1) (v := ?_) rfl (by kernel_rfl) (by kernel_rfl) (by kernel_rfl) (fun _ _ _ h => h) (Or.inl ⟨rfl, ?hy9⟩) (by assumption) ?_
  case hy9 =>
    intro W hS
    go_simp
    try with_reducible rfl
  try simp only [Act.put, List.getElem_toArray, List.getElem_cons_succ, List.getElem_cons_zero, List.setIfInBounds_toArray, List.set_cons_zero, List.set_cons_succ]
  refine wpAnyH_take (i := 2) (v := ?_) rfl (by kernel_rfl) (by kernel_rfl) (by kernel_rfl) (fun _ _ _ h => h) (Or.inl ⟨rfl, ?hy10⟩) (by assumption) ?_
  case hy10 =>
    intro W hS
    go_simp
    try with_reducible rfl
  try simp only [Act.put, List.getElem_toArray, List.getElem_cons_succ, List.getElem_cons_zero, List.setIfInBounds_toArray, List.set_cons_zero, List.set_cons_succ]
  refine wpAnyH_take (i := 3) (v := ?_) rfl (by kernel_rfl) (by kernel_rfl) (by kernel_rfl) (fun _ _ _ h => h) (Or.inl ⟨rfl, ?hy11⟩) (by assumption) ?_
  case hy11 =>
    intro W hS
    obtain ⟨hS1, hS2, hS3, hS4⟩ := hS
    have u0 := box_cell hS2 0
    have u1 := box_cell hS2 1
    have u2 := box_cell hS3 1
    go_simp
    try with_reducible rfl
  try simp only [Act.put, List.getElem_toArray, List.getElem_cons_succ, List.getElem_cons_zero, List.setIfInBounds_toArray, List.set_cons_zero, List.set_cons_succ]
  refine wpAnyH_take (i := 4) (v := ?_) rfl (by kernel_rfl) (by kernel_rfl) (by kernel_rfl) (fun _ _ _ h => h) (Or.inl ⟨rfl, ?hy12⟩) (by assumption) ?_
  case hy12 =>
    intro W hS
    go_simp
    try with_reducible rfl
  try simp only [Act.put, List.getElem_toArray, List.getElem_cons_succ, List.getElem_cons_zero, List.setIfInBounds_toArray, List.set_cons_zero, List.set_cons_succ]
  refine wpAnyH_take (i := 5) (v := ?_) rfl (by kernel_rfl) (by kernel_rfl) (by kernel_rfl) (fun _ _ _ h => h) (Or.inl ⟨rfl, ?hy13⟩) (by assumption) ?_
  case hy13 =>
    intro W hS
    obtain ⟨hS1, hS2, hS3, hS4⟩ := hS
    have u0 := box_cell hS2 0
    have u1 := box_cell hS2 1
    have u2 := box_cell hS3 1
    go_simp
    try with_reducible rfl
  try simp only [Act.put, List.getElem_toArray, List.getElem_cons_succ, List.getElem_cons_zero, List.setIfInBounds_toArray, List.set_cons_zero, List.set_cons_succ]
  refine wpAnyH_take (i := 6) (v := ?_) rfl (by kernel_rfl) (by kernel_rfl) (by kernel_rfl) (fun _ _ _ h => h) (Or.inl ⟨rfl, ?hy14⟩) (by assumption) ?_
  case hy14 =>
    intro W hS
    have hlk := hS.2.2.2.look_ok (p := (s, q)) HNW.out
    rw [HOFF.out, HHN.out] at hlk
    go_simp
    try with_reducible rfl
  try simp only [Act.put, List.getElem_toArray, List.getElem_cons_succ, List.getElem_cons_zero, List.setIfInBounds_toArray, List.set_cons_zero, List.set_cons_succ]
  refine wpAnyH_take (i := 7) (v := ?_) rfl (by kernel_rfl) (by kernel_rfl) (by kernel_rfl) (fun _ _ _ h => h) (Or.inl ⟨rfl, ?hy15⟩) (by assumption) ?_
  case hy15 =>
    intro W hS
    go_simp
    try with_reducible rfl
  try simp only [Act.put, List.getElem_toArray, List.getElem_cons_succ, List.getElem_cons_zero, List.setIfInBounds_toArray, List.set_cons_zero, List.set_cons_succ]
  refine wpAnyH_take (i := 8) (v := ?_) rfl (by kernel_rfl) (by kernel_rfl) (by kernel_rfl) (fun _ _ _ h => h) (Or.inl ⟨rfl, ?hy16⟩) (by assumption) ?_
  case hy16 =>
    intro W hS
    go_simp
    try with_reducible rfl
  try simp only [Act.put, List.getElem_toArray, List.getElem_cons_succ, List.getElem_cons_zero, List.setIfInBounds_toArray, List.set_cons_zero, List.set_cons_succ]
  refine wpAnyH_take (i := 9) (v := ?_) rfl (by kernel_rfl) (by kernel_rfl) (by kernel_rfl) (fun _ _ _ h => h) (Or.inl ⟨rfl, ?hy17⟩) (by assumption) ?_
  case hy17 =>
    intro W hS
    go_simp
    try with_reducible rfl
  try simp only [Act.put, List.getElem_toArray, List.getElem_cons_succ, List.getElem_cons_zero, List.setIfInBounds_toArray, List.set_cons_zero, List.set_cons_succ]
  refine wpAnyH_ready (rs := [10]) (by kernel_rfl) (by simp) (AllReadyH.cons rfl (fun K hK => ?_) AllReadyH.nil)
  go_simp
  refine hK.out _ _ (⟨hHeld.1.alloc hHeld.1.size _, row_al hHeld.2.1 _, row_al hHeld.2.2.1 _, hHeld.2.2.2.alloc _⟩) (fun hX => ?_)
  clear hK K hHeld
  have hHeld := hX
  clear hX
  refine wpAnyH_ready (rs := [11]) (by kernel_rfl) (by simp) (AllReadyH.cons rfl (fun K hK => ?_) AllReadyH.nil)
  have o0 : (wb.alloc (.cells #[.int .u64 0, .int .u64 0, .int .u64 0, .int .u64 0] 109)).drew.heap[wb.heap.size]? = some (.cells #[.int .u64 0, .int .u64 0, .int .u64 0, .int .u64 0] 109 (0, 0)) := heap_new wb _
  obtain ⟨g1, g2, g3, g4⟩ := id hHeld
  have hl1 := box_lt HB1.out.2
  have hl2 := box_lt g3
  have hl3 : M < wb.heap.size := (HD.out.1.names.below HB1.out.1).lt
  have hl4 : B < wb.heap.size := box_lt (row_up HD.out.1.box HB1.out.1)
  have hws := HB1.out.1.size
  generalize (wb.alloc (.cells #[.int .u64 0, .int .u64 0, .int .u64 0, .int .u64 0] 109)).drew = wz at g1 g2 g3 g4 o0 ⊢
  have f0 := box_frozen o0 0
  have f1 := box_frozen o0 1
  have f2 := box_frozen o0 2
  have f3 := box_frozen o0 3
  have e0 := box_cell o0 0
  have e1 := box_cell o0 1
  have e2 := box_cell o0 2
  have e3 := box_cell o0 3
  have HQ := Lib.hid (show Below w.heap.size w ((((wz.setCell ⟨wb.heap.size, 0, none⟩ (.int .u64 a0)).setCell ⟨wb.heap.size, 1, none⟩ (.int .u64 a1)).setCell ⟨wb.heap.size, 2, none⟩ (.int .u64 a2)).setCell ⟨wb.heap.size, 3, none⟩ (.int .u64 a3)) ∧ ((((wz.setCell ⟨wb.heap.size, 0, none⟩ (.int .u64 a0)).setCell ⟨wb.heap.size, 1, none⟩ (.int .u64 a1)).setCell ⟨wb.heap.size, 2, none⟩ (.int .u64 a2)).setCell ⟨wb.heap.size, 3, none⟩ (.int .u64 a3)).heap[w.heap.size]? = some (.cells #[.int .i64 s, .int .i64 q, .int .i64 n, .int .i64 k, .int .i64 a, .string t, .slice sa X sc] 35 (0, 0)) ∧ ((((wz.setCell ⟨wb.heap.size, 0, none⟩ (.int .u64 a0)).setCell ⟨wb.heap.size, 1, none⟩ (.int .u64 a1)).setCell ⟨wb.heap.size, 2, none⟩ (.int .u64 a2)).setCell ⟨wb.heap.size, 3, none⟩ (.int .u64 a3)).heap[B]? = some (.cells #[bv, .map (some M)] 79 (0, 0)) ∧ NMap ((((wz.setCell ⟨wb.heap.size, 0, none⟩ (.int .u64 a0)).setCell ⟨wb.heap.size, 1, none⟩ (.int .u64 a1)).setCell ⟨wb.heap.size, 2, none⟩ (.int .u64 a2)).setCell ⟨wb.heap.size, 3, none⟩ (.int .u64 a3)) M (l.map idC) from ⟨(((g1.setCell (p := ⟨wb.heap.size, 0, none⟩) hws _).setCell (p := ⟨wb.heap.size, 1, none⟩) hws _).setCell (p := ⟨wb.heap.size, 2, none⟩) hws _).setCell (p := ⟨wb.heap.size, 3, none⟩) hws _, (box_other (by omega) 3 _).trans ((box_other (by omega) 2 _).trans ((box_other (by omega) 1 _).trans ((box_other (by omega) 0 _).trans g2))), (box_other (by omega) 3 _).trans ((box_other (by omega) 2 _).trans ((box_other (by omega) 1 _).trans ((box_other (by omega) 0 _).trans g3))), (((g4.set (o := 0) (by omega)).set (o := 1) (by omega)).set (o := 2) (by omega)).set (o := 3) (by omega)⟩)
  go_simp
  refine hK.out _ _ (⟨HQ.out.1, HQ.out.2.1, HQ.out.2.2.1, HQ.out.2.2.2⟩) (fun hX => ?_)
  clear hK K hHeld
  have hHeld := hX
  clear hX
  refine wpAnyH_take (i := 12) (v := ?_) rfl (by kernel_rfl) (by kernel_rfl) (by kernel_rfl) (fun _ _ _ h => h) (Or.inl ⟨rfl, ?hy18⟩) (by assumption) ?_
  case hy18 =>
    intro W hS
    go_simp
    try with_reducible rfl
  try simp only [Act.put, List.getElem_toArray, List.getElem_cons_succ, List.getElem_cons_zero, List.setIfInBounds_toArray, List.set_cons_zero, List.set_cons_succ]
  refine wpAnyH_done (by kernel_rfl) ?_ _
  have HB2 := Lib.hid hHeld
  have y0 := box_cell hHeld.2.1 0
  have y1 := box_cell hHeld.2.1 1
  have y2 := box_cell hHeld.2.1 2
  have y3 := box_cell hHeld.2.1 3
  have y4 := box_cell hHeld.2.1 4
  have y5 := box_cell hHeld.2.1 5
  have y6 := box_cell hHeld.2.1 6
  clear hHeld
  generalize ((((wz.setCell ⟨wb.heap.size, 0, none⟩ (.int .u64 a0)).setCell ⟨wb.heap.size, 1, none⟩ (.int .u64 a1)).setCell ⟨wb.heap.size, 2, none⟩ (.int .u64 a2)).setCell ⟨wb.heap.size, 3, none⟩ (.int .u64 a3)) = wc at HB2 y0 y1 y2 y3 y4 y5 y6 ⊢
  go_wp2_with fail
  refine (HCOF.out _ HB2.out.1).mono ?_
  rintro e w8 ⟨v8, rfl, ho8, hb8⟩
  have hx8 := row_up HB2.out.2.1 hb8
  have hB8 := row_up HB2.out.2.2.1 hb8
  have hM8 := HB2.out.2.2.2.below hb8
  have hkw := know_any B M bv (l.map idC) v8 (newR s q rs) w8 hB8 hM8 (CAt.of_own ho8 rfl) HOK.out.1 (by rw [List.length_map, newR_length]; have := HR.out.2.2.2; have := HD.out.2.2.2.2.2.2; omega)
  rw [HOK.out.2] at hkw
  have HKW := Lib.hid hkw
  obtain ⟨q8, q9, q10, rfl⟩ := slice_of ho8
  have H8 := Lib.hid (And.intro ho8 (And.intro hb8 (And.intro hx8 hM8)))
  clear ho8 hb8 hx8 hB8 hM8 hkw y0 y1 y2 y3 y4 y5 y6
  go_wp2_with fail
  refine HKW.out.mono ?_
  clear HKW
  rintro e w9 ⟨rfl, hM9, hK9, hB9⟩
  have hx9 := hK9.row H8.out.2.2.1 (fun e => absurd e (ne_map H8.out.2.2.2 H8.out.2.2.1))
  have hb9 : Below w.heap.size w w8 := HB2.out.1.trans (H8.out.2.1.mono HB2.out.1.size)
  have y4 : w9.cell? ⟨w.heap.size, 4, none⟩ = some (.int .i64 (pp : Int)) := by rw [box_cell hx9 4, ← HPP.out]; rfl
  have hKw : Keep (fun k => k = M) w.heap.size w w9 := (Keep.of_below hb9 (Nat.le_refl _)).trans (hK9.weak hb9.size fun _ _ h => h)
  have hfM := foot_map HD.out.1
  have hbl9 : DocN w9 0 B M bv bs l := ⟨hB9, ⟨own_same HD.out.1.blocks.row fun g e => hKw.block g (HD.out.1.low (.inl (.inr (.inl e)))).2 (fun z => hfM (z ▸ .inr (.inl e))), fun x hx => own_same (HD.out.1.blocks.own x hx) fun g e => hKw.block g (HD.out.1.low (.inl (.inr (.inr ⟨x, hx, e⟩)))).2 (fun z => hfM (z ▸ .inr (.inr ⟨x, hx, e⟩))), HD.out.1.blocks.apart⟩, HD.out.1.cat, HD.out.1.few, HD.out.1.full⟩
  have ho9 := own_keepS H8.out.1 hK9 fun g hg e => by
    obtain ⟨_, c, hc⟩ := own_typed H8.out.1 g hg
    exact absurd e (ne_map H8.out.2.2.2 hc)
  have hpt := dput_any 0 wc.heap.size B M pp bv (.slice q8 q9 q10) bs (newR s q rs) l w9 hbl9 (by rw [newR_length]; have := HR.out.2.2.2; have := HD.out.2.2.2.2.2.2; omega) HR.out.2.2.1 ho9 (fun x hx g e1 e2 => by
    have h1 := (HD.out.1.low (.inl (.inr (.inr ⟨x, hx, e1⟩)))).2
    have h2 := (own_typed ho9 g e2).1
    have := HB2.out.1.size
    omega) (Nat.zero_le _)
  have HPT := Lib.hid hpt
  have H9 := Lib.hid (And.intro hM9 (And.intro hKw hfM))
  clear hpt hM9 hK9 hB9 hx9 hb9 hKw hfM hbl9 ho9
  go_wp2_with fail
  refine HPT.out.mono ?_
  clear HPT
  rintro e w10 ⟨⟨_, rfl⟩, bv', bs', hP⟩
  have hM10 : NMap w10 M ((l.take pp ++ newR s q rs ++ l.drop pp).map idC) := (H9.out.1.kept (hP.keep.block M H9.out.1.lt H9.out.2.2)).congr fun x => ids_ins pp x
  have hml := (cMay_parts HR.out.1).2.2
  have hfw := cat_len hP.full
  rw [hP.cat] at hfw
  have hD10 : DocB w10 0 B M bv' bs' (l.take pp ++ newR s q rs ++ l.drop pp) := ⟨Nat.zero_le _, Nat.zero_le _, hP.box, hP.blocks, hM10, hP.cat, by omega, hP.full⟩
  have hfS : ∀ b, footB B bv bs b → S b := fun b q => (HD.out.2.2.2.2.2.1 b).2 (.inl q)
  have HE := Lib.hid (show DKept DocD (.pointer (some ⟨B, 0, none⟩)) (l.take pp ++ newR s q rs ++ l.drop pp) S w w10 (footD B M bv' bs') from ⟨DocD.new hD10 HR.out.1 HR.out.2.1, fun b hb => by
      have hsz := H9.out.2.1.size
      rcases hb with (rfl | e | ⟨x, hx, e⟩) | rfl
      · exact .inl (hfS b (.inl rfl))
      · exact (hP.newv b e).elim (fun q => .inl (hfS b q)) (fun q => .inr (Nat.le_trans hsz q))
      · exact (hP.newx x hx b e).elim (fun q => .inl (hfS b q)) (fun q => .inr (Nat.le_trans hsz q))
      · exact .inl ((HD.out.2.2.2.2.2.1 b).2 (.inr rfl)),
    (H9.out.2.1.weak (Nat.le_refl _) fun b _ e => (HD.out.2.2.2.2.2.1 b).2 (.inr e)).trans (hP.keep.weak H9.out.2.1.size fun b _ q => hfS b q)⟩)
  clear hM10 hml hfw hD10 hfS hP
  go_wp2
  go_ret
  exact ⟨_, HE.out, rfl⟩
theorem dD_do (s q n k a : Int) (t : ByteArray) (sp : Value) (xs : List Sp) (p : Value) (l : List PCell) (S : Nat → Prop) (w : World) (h : DocD w p l S) (hT : TabW w) (hs : SpAt w sp xs) (hn : NWf s q n k a) (ht : t.size ≤ 1000) (hx : xs.length ≤ 20000) (hwf : sWf xs) :
    Calls Tryz.prog 32 #[p, opV s q n k a t sp] w (DVal DocD p (cDo l ⟨s, q, n, k, a, t.data.toList, xs⟩).1 S (.int .i64 (cDo l ⟨s, q, n, k, a, t.data.toList, xs⟩).2) w) := by
  cases hb : oMay ⟨s, q, n, k, a, t.data.toList, xs⟩ l.length with
  | false => exact dDo_bad s q n k a t sp xs p l S w h hT hs hn ht hx hwf hb
  | true =>
    obtain ⟨_, _, _, hkk | hkk⟩ := (oMay_iff _ _).1 hb
    · cases hh : hasN l s q with
      | true => exact dDo_twice s q n k a t sp xs p l S w h hT hs hn ht hx hwf hb hkk.1 hh
      | false => exact dDo_ins s q n k a t sp xs p l S w h hT hs hn ht hx hwf hb hkk.1 hh
    · exact dDo_del s q n k a t sp xs p l S w h hT hs hn ht hx hwf hb hkk.1
end Go.Proofs.YtfoglciiefoodaaGreatDoor

namespace Go.Proofs.YtfoglciiefoodaaGreatDoor
open Go.RowKit Go.Shelf

def cc : CC where
  D := DocD
  keep := fun h hb _ => h.keep hb
  low := fun h => h.low
  ptr := fun h => by obtain ⟨B, M, bv, bs, rfl, _⟩ := h; exact ⟨B, rfl⟩
  may := fun h => by obtain ⟨B, M, bv, bs, _, _, hm, _⟩ := h; exact hm
  new_yes := fun v l w _ h hw hl hm => dD_new_yes v l w h hw hl hm
  new_no := fun v l w _ h hw hl hm => new_no v l w h hw hl hm
  doOp := fun s q n k a t sp xs p l S w h hT hs hn ht hx hwf => dD_do s q n k a t sp xs p l S w h hT hs hn ht hx hwf
  drop := fun sp xs p l S w h hs hwf hx => dD_drop sp xs p l S w h hs hwf hx
  size := dD_size
  live := dD_live
  text := dD_text
  cells := dD_cells
  gone := dD_gone
  gap := fun i p l S w h _ => dD_gap i p l S w h
def cc2 : CC2 where
  toCC := cc
  seen := fun i p l S w h _ => dD_seen i p l S w h
  run := fun i n p l S w h _ _ => dD_run i n p l S w h
  find := fun s q off p l S w h hs hq _ => dD_find s q off p l S w h hs hq
  copy := dD_copy
end Go.Proofs.YtfoglciiefoodaaGreatDoor
