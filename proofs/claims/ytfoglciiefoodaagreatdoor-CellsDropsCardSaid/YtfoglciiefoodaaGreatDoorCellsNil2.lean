/- Methods of no document that go along its blocks. -/
import Derived.Test.YtfoglciiefoodaaGreatDoorCellsNil
import Derived.Test.YtfoglciiefoodaaGreatDoorGCellsText
import Derived.Test.YtfoglciiefoodaaGreatDoorGCellsBlk
import Derived.Test.YtfoglciiefoodaaGreatDoorGCellsGather
namespace Go.Proofs.YtfoglciiefoodaaGreatDoor
open Go.RowKit Go.Shelf
attribute [local go_sem] Oper.semAt_some

set_option maxRecDepth 100000 in
set_option maxHeartbeats 8000000 in
theorem cells0_any (w : World) :
    Calls Tryz.prog 21 #[.pointer none] w fun e W' => ∃ v, e = .returned v ∧ CAt W' v [] ∧ Below w.heap.size w W' := by
  have hbeg := fun W => begins_any none W
  have hsz := fun W => size0_any W
  have HSZ := Lib.hid hsz
  obtain ⟨cur, hcur, hmk0⟩ := make_cells 0 (by omega)
  have hmk : ∀ W : World, (Instr.makeSlice 22 (.int .i64 0) (.int .i64 0)).run Tryz.prog W = .ok (.slice (some ⟨W.heap.size, 0, none⟩) 0 0) (W.alloc (.cells cur 62)) := fun W => hmk0 W
  clear hsz hmk0
  have B0 := heap_new w (.cells #[.pointer none] 26)
  have hB0 : Below w.heap.size w (w.alloc (.cells #[.pointer none] 26)) := (Below.refl _ w).alloc (Nat.le_refl _) _
  have HB0 := Lib.hid hB0
  have d0 := box_cell B0 0
  refine (callsIn_wide (n := 4)).1 ?_
  refine callsIn_of_wp_marks Tryz.func21 rfl trivial ?_ rfl
  simp only [Tryz.ntmps21, List.size_toArray, List.length_cons, List.length_nil, Nat.reduceAdd, Nat.reduceSub, Array.replicate_succ, Array.replicate_zero, List.push_toArray, List.append_toArray, List.nil_append, List.cons_append]
  gi_wp2_with (refine ⟨trivial, ?_⟩; first
    | (gi_at_call 15; refine (callsIn_wide.2 (HSZ.out _)).mono ?_; rintro e w1 ⟨rfl, hb1⟩; have B1 := row_up B0 hb1; have e0 := box_cell B1 0; have B2 := row_al (row_al B1 (.cells cur 62)) (.cells #[.slice (some ⟨w1.heap.size, 0, none⟩) 0 0] 22); have e2 := box_cell B2 0)
    | (gi_at_call 48; refine (callsIn_wide.2 (hbeg _)).mono ?_; rintro e _ ⟨rfl, rfl⟩))
  rename World => w1
  have A0 := row_al B2 (.cells #[.pointer none] 26)
  have A1 := row_al (heap_new1 w1 (.cells cur 62) (.cells #[.slice (some ⟨w1.heap.size, 0, none⟩) 0 0] 22)) (.cells #[.pointer none] 26)
  have A3 := heap_new2 w1 (.cells cur 62) (.cells #[.slice (some ⟨w1.heap.size, 0, none⟩) 0 0] 22) (.cells #[.pointer none] 26)
  have AB : Below w.heap.size w (((w1.alloc (.cells cur 62)).alloc (.cells #[.slice (some ⟨w1.heap.size, 0, none⟩) 0 0] 22)).alloc (.cells #[.pointer none] 26)) := (((HB0.out.trans (hb1.mono HB0.out.size)).alloc (by have := hb1.size; have := HB0.out.size; omega) _).alloc (by have := hb1.size; have := HB0.out.size; simp; omega) _).alloc (by have := hb1.size; have := HB0.out.size; simp; omega) _
  have AS : (((w1.alloc (.cells cur 62)).alloc (.cells #[.slice (some ⟨w1.heap.size, 0, none⟩) 0 0] 22)).alloc (.cells #[.pointer none] 26)).heap.size = w1.heap.size + 1 + 1 + 1 := by simp
  have AO : (((w1.alloc (.cells cur 62)).alloc (.cells #[.slice (some ⟨w1.heap.size, 0, none⟩) 0 0] 22)).alloc (.cells #[.pointer none] 26)).ownsRow w.heap.size 62 5 (.slice (some ⟨w1.heap.size, 0, none⟩) 0 0) 0 [] := ((World.ownsRow_made w1 cur 0 (by have := hb1.size; have := HB0.out.size; omega) (by unfold maxLen; omega) hcur).alloc _).alloc _
  have hge : w.heap.size < w1.heap.size := by have := hb1.size; simp at this; omega
  generalize (((w1.alloc (.cells cur 62)).alloc (.cells #[.slice (some ⟨w1.heap.size, 0, none⟩) 0 0] 22)).alloc (.cells #[.pointer none] 26)) = w3 at A0 A1 A3 AB AS AO ⊢
  clear B1 e0 B2 e2 hb1 hmk d0 B0 hB0 HB0
  have hst := begins0_stops 3 (w1.heap.size + 1 + 1) (w1.heap.size + 1 + 1) w.heap.size w3 A3
  refine wpIn_rangeFunc_ownF rfl (by decide) (gf := 76) (lb := #[.pointer (some ⟨w1.heap.size + 1 + 1, 0, none⟩)]) rfl trivial (enters_of Tryz.func76 (by kernel_rfl) rfl)
    hst (fun h k => kf_t h k) (kf_b (by omega)) (Below.refl _ _) (fun _ => rfl)
    (fun pre W => (W.heap[w.heap.size]? = some (.cells #[.pointer none] 26 (0, 0)) ∧
      ∃ v, W.heap[w1.heap.size + 1]? = some (.cells #[v] 22 (0, 0)) ∧ W.ownsRow w.heap.size 62 5 v 0 []) ∧ Below w.heap.size w W)
    (fun c pre W => (False) ∧ Below w.heap.size w W)
    (OwnFrom.and (Own.from (fun s A B row hs hg hr => ⟨row_turn hs.1 hg hr, by obtain ⟨v, h1, h2⟩ := hs.2; exact ⟨v, row_turn h1 hg hr, own_turn h2 hg hr⟩⟩) _) (ownFrom_below (Nat.le_refl _) (by omega)))
    (fun c => OwnFrom.and (Own.from (fun s A B row hs hg hr => hs.elim) _) (ownFrom_below (Nat.le_refl _) (by omega)))
    ⟨⟨A0, _, A1, AO⟩, AB⟩
    (fun x : Fin ([] : List PB).length => { tmps := #[undef], defers := [] }) ?assign ?body ?done ?stop
  case assign =>
    intro l x
    exact x.elim0
  case body =>
    intro l pre x
    exact x.elim0
  case done =>
    rintro D ys W hD rfl ⟨⟨c0, v, c1, ho⟩, hB⟩ hK
    have e0 := box_cell c1 0
    have HO := Lib.hid ho
    have HB := Lib.hid hB
    obtain ⟨ao', n', cap', rfl⟩ := slice_of ho
    clear ho hB c0 c1
    gi_wp2
    refine ⟨by simp, .inl ⟨_, _, rfl, run_takeDeferred hK, ?_⟩⟩
    have hBD := belowK_b (w := w) (Nat.le_refl _) W D _ (.deferred none) (by omega) hK rfl rfl
    exact ⟨_, results_tmp rfl _ _ _, _, rfl, CAt.of_own (l := []) (own_turn HO.out (grownBy_putObj' W D (.deferred none)) (fun r e => by cases e; exact ⟨_, hK, rfl⟩)) rfl, HB.out.trans hBD⟩
  case stop =>
    rintro D c pre W hD hpre ⟨hno, _⟩ hK
    exact hno.elim
set_option maxRecDepth 100000 in
set_option maxHeartbeats 8000000 in
theorem text0_any (w : World) :
    Calls Tryz.prog 18 #[.pointer none] w fun e W' => e = .returned (.string ⟨#[]⟩) ∧ Below w.heap.size w W' := by
  have hbeg := fun W => begins_any none W
  have hsz := fun W => live0_any W
  have HSZ := Lib.hid hsz
  obtain ⟨cur, hcur, hmk0⟩ := make_runes 0 (by omega)
  have hmk : ∀ W : World, (Instr.makeSlice 65 (.int .i64 0) (.int .i64 0)).run Tryz.prog W = .ok (.slice (some ⟨W.heap.size, 0, none⟩) 0 0) (W.alloc (.cells cur 21)) := fun W => hmk0 W
  clear hsz hmk0
  have B0 := heap_new w (.cells #[.pointer none] 26)
  have hB0 : Below w.heap.size w (w.alloc (.cells #[.pointer none] 26)) := (Below.refl _ w).alloc (Nat.le_refl _) _
  have HB0 := Lib.hid hB0
  have d0 := box_cell B0 0
  refine (callsIn_wide (n := 4)).1 ?_
  refine callsIn_of_wp_marks Tryz.func18 rfl trivial ?_ rfl
  simp only [Tryz.ntmps18, List.size_toArray, List.length_cons, List.length_nil, Nat.reduceAdd, Nat.reduceSub, Array.replicate_succ, Array.replicate_zero, List.push_toArray, List.append_toArray, List.nil_append, List.cons_append]
  gi_wp2_with (refine ⟨trivial, ?_⟩; first
    | (gi_at_call 16; refine (callsIn_wide.2 (HSZ.out _)).mono ?_; rintro e w1 ⟨rfl, hb1⟩; have B1 := row_up B0 hb1; have e0 := box_cell B1 0; have B2 := row_al (row_al B1 (.cells cur 21)) (.cells #[.slice (some ⟨w1.heap.size, 0, none⟩) 0 0] 65); have e2 := box_cell B2 0)
    | (gi_at_call 48; refine (callsIn_wide.2 (hbeg _)).mono ?_; rintro e _ ⟨rfl, rfl⟩))
  rename World => w1
  have A0 := row_al B2 (.cells #[.pointer none] 26)
  have A1 := row_al (heap_new1 w1 (.cells cur 21) (.cells #[.slice (some ⟨w1.heap.size, 0, none⟩) 0 0] 65)) (.cells #[.pointer none] 26)
  have A3 := heap_new2 w1 (.cells cur 21) (.cells #[.slice (some ⟨w1.heap.size, 0, none⟩) 0 0] 65) (.cells #[.pointer none] 26)
  have AB : Below w.heap.size w (((w1.alloc (.cells cur 21)).alloc (.cells #[.slice (some ⟨w1.heap.size, 0, none⟩) 0 0] 65)).alloc (.cells #[.pointer none] 26)) := (((HB0.out.trans (hb1.mono HB0.out.size)).alloc (by have := hb1.size; have := HB0.out.size; omega) _).alloc (by have := hb1.size; have := HB0.out.size; simp; omega) _).alloc (by have := hb1.size; have := HB0.out.size; simp; omega) _
  have AS : (((w1.alloc (.cells cur 21)).alloc (.cells #[.slice (some ⟨w1.heap.size, 0, none⟩) 0 0] 65)).alloc (.cells #[.pointer none] 26)).heap.size = w1.heap.size + 1 + 1 + 1 := by simp
  have AO : (((w1.alloc (.cells cur 21)).alloc (.cells #[.slice (some ⟨w1.heap.size, 0, none⟩) 0 0] 65)).alloc (.cells #[.pointer none] 26)).ownsRow w.heap.size 21 1 (.slice (some ⟨w1.heap.size, 0, none⟩) 0 0) 0 [] := ((World.ownsRow_made w1 cur 0 (by have := hb1.size; have := HB0.out.size; omega) (by unfold maxLen; omega) hcur).alloc _).alloc _
  have hge : w.heap.size < w1.heap.size := by have := hb1.size; simp at this; omega
  generalize (((w1.alloc (.cells cur 21)).alloc (.cells #[.slice (some ⟨w1.heap.size, 0, none⟩) 0 0] 65)).alloc (.cells #[.pointer none] 26)) = w3 at A0 A1 A3 AB AS AO ⊢
  clear B1 e0 B2 e2 hb1 hmk d0 B0 hB0 HB0
  have hst := begins0_stops 3 (w1.heap.size + 1 + 1) (w1.heap.size + 1 + 1) w.heap.size w3 A3
  refine wpIn_rangeFunc_ownF rfl (by decide) (gf := 76) (lb := #[.pointer (some ⟨w1.heap.size + 1 + 1, 0, none⟩)]) rfl trivial (enters_of Tryz.func76 (by kernel_rfl) rfl)
    hst (fun h k => kf_t h k) (kf_b (by omega)) (Below.refl _ _) (fun _ => rfl)
    (fun pre W => (W.heap[w.heap.size]? = some (.cells #[.pointer none] 26 (0, 0)) ∧
      ∃ v, W.heap[w1.heap.size + 1]? = some (.cells #[v] 65 (0, 0)) ∧ W.ownsRow w.heap.size 21 1 v 0 []) ∧ Below w.heap.size w W)
    (fun c pre W => (False) ∧ Below w.heap.size w W)
    (OwnFrom.and (Own.from (fun s A B row hs hg hr => ⟨row_turn hs.1 hg hr, by obtain ⟨v, h1, h2⟩ := hs.2; exact ⟨v, row_turn h1 hg hr, own_turn h2 hg hr⟩⟩) _) (ownFrom_below (Nat.le_refl _) (by omega)))
    (fun c => OwnFrom.and (Own.from (fun s A B row hs hg hr => hs.elim) _) (ownFrom_below (Nat.le_refl _) (by omega)))
    ⟨⟨A0, _, A1, AO⟩, AB⟩
    (fun x : Fin ([] : List PB).length => { tmps := #[undef], defers := [] }) ?assign ?body ?done ?stop
  case assign =>
    intro l x
    exact x.elim0
  case body =>
    intro l pre x
    exact x.elim0
  case done =>
    rintro D ys W hD rfl ⟨⟨c0, v, c1, ho⟩, hB⟩ hK
    have e0 := box_cell c1 0
    have hjo := join_any v [] (by decide) W (Reads32.of_own (xs := []) ho)
    unfold JoinPost at hjo
    rw [if_pos (show allValid [] = true from rfl)] at hjo
    have HJ2 := Lib.hid hjo
    have HB := Lib.hid hB
    obtain ⟨ao', n', cap', rfl⟩ := slice_of ho
    clear ho hB c0 c1 hjo
    gi_wp2_with (refine ⟨trivial, ?_⟩; gi_at_call 49; refine (callsIn_wide.2 HJ2.out).mono ?_; rintro e w5 ⟨rfl, hb5⟩)
    have hK5 := row_up5 hK hb5
    refine ⟨by simp, .inl ⟨_, _, rfl, run_takeDeferred hK5, ?_⟩⟩
    have hBD := belowK_b (w := w) (Nat.le_refl _) w5 D _ (.deferred none) (by omega) hK5 rfl rfl
    exact ⟨_, results_tmp rfl _ _ _, rfl, (HB.out.trans (hb5.mono HB.out.size)).trans hBD⟩
  case stop =>
    rintro D c pre W hD hpre ⟨hno, _⟩ hK
    exact hno.elim
set_option maxRecDepth 100000 in
set_option maxHeartbeats 8000000 in
theorem places0_stops (Bf Bd Bg n₀ m₁ : Nat) (w₀ : World) (h₀ : n₀ = w₀.heap.size) (w : World) (hb0 : Below n₀ w₀ w)
    (hBf : w.heap[Bf]? = some (.cells #[.int .i64 0] 3 (0, 0))) (hBd : w.heap[Bd]? = some (.cells #[.pointer none] 26 (0, 0))) :
    SeqStopsO RowT Fence.wide 4 Tryz.prog 81 #[.pointer (some ⟨Bf, 0, none⟩), .pointer (some ⟨Bd, 0, none⟩), .pointer (some ⟨Bg, 0, none⟩)] encPl (KF n₀ m₁) (fun ys => ys = []) (fun pre => pre <+: []) 1000000000000 w := by
  subst h₀
  intro l J Jx W hW hWs hJ hJx _ h0
  have hbeg := fun W => begins_any none W
  have q1 := row_up hBf hW
  have q2 := row_up hBd hW
  have hbW : Below w₀.heap.size w₀ W := hb0.trans (hW.mono (by have := hb0.size; omega))
  have c1 := box_cell (row_al q1 (.cells #[.func (.yield l) #[] #[]] 110)) 0
  have c2 := row_al (row_al q2 (.cells #[.func (.yield l) #[] #[]] 110)) (.cells #[.int .i64 0] 3)
  have c3 := box_cell c2 0
  refine callsIn_of_wp_marks Tryz.func81 rfl trivial ?_ rfl
  simp only [Tryz.ntmps81, List.size_toArray, List.length_cons, List.length_nil, Nat.reduceAdd, Nat.reduceSub, Array.replicate_succ, Array.replicate_zero, List.push_toArray, List.append_toArray, List.nil_append, List.cons_append]
  gi_wp2_with (refine ⟨trivial, ?_⟩; gi_at_call 48; refine (callsIn_wide.2 (hbeg _)).mono ?_; rintro e _ ⟨rfl, rfl⟩)
  have A2 := heap_new2 W (.cells #[.func (.yield l) #[] #[]] 110) (.cells #[.int .i64 0] 3) (.cells #[.pointer none] 26)
  have AK : KF w₀.heap.size m₁ W (((W.alloc (.cells #[.func (.yield l) #[] #[]] 110)).alloc (.cells #[.int .i64 0] 3)).alloc (.cells #[.pointer none] 26)) := KF.below (by have := hbW.size; omega) ((((Below.refl _ W).alloc (Nat.le_refl _) _).alloc (by simp) _).alloc (by simp; omega) _)
  have AS : (((W.alloc (.cells #[.func (.yield l) #[] #[]] 110)).alloc (.cells #[.int .i64 0] 3)).alloc (.cells #[.pointer none] 26)).heap.size = W.heap.size + 1 + 1 + 1 := by simp
  have AJ : J [] (((W.alloc (.cells #[.func (.yield l) #[] #[]] 110)).alloc (.cells #[.int .i64 0] 3)).alloc (.cells #[.pointer none] 26)) := OwnFrom.alloc hJ.from _ (OwnFrom.alloc hJ.from _ (OwnFrom.alloc hJ.from _ h0))
  generalize ((W.alloc (.cells #[.func (.yield l) #[] #[]] 110)).alloc (.cells #[.int .i64 0] 3)).alloc (.cells #[.pointer none] 26) = w3 at A2 AK AS AJ ⊢
  clear c1 c2 c3 q1 q2
  have hst := begins0_stops 3 (W.heap.size + 1 + 1) (W.heap.size + 1 + 1) w₀.heap.size w3 A2
  have HJ := Lib.hid (And.intro hJ hJx)
  clear hbeg hJ hJx
  refine wpIn_rangeFunc_ownG rfl (by decide) (gf := 76) (lb := #[.pointer (some ⟨W.heap.size + 1 + 1, 0, none⟩)]) rfl trivial (enters_of Tryz.func76 (by kernel_rfl) rfl)
    hst (fun h k => kf_t h k) (kf_b (by have := hbW.size; omega)) (Below.refl _ _) (fun _ => rfl)
    (fun pre X => J [] X)
    (fun c pre X => False)
    (fun s A B row hs hg hr => (OwnFrom.up HJ.out.1.from (by omega)) _ A B row hs hg hr)
    (fun c s A B row hs hg hr => hs)
    AJ
    (fun x : Fin ([] : List PB).length => { tmps := #[undef], defers := [] }) ?assign ?body ?done ?stop
  case assign =>
    intro l x
    exact x.elim0
  case body =>
    intro l pre x
    exact x.elim0
  case done =>
    rintro D ys Z hD rfl hj hK
    have HJZ := Lib.hid (OwnFrom.putObj (HJ.out.1.from) (.deferred none) hj (by omega : W.heap.size ≤ D) hK rfl)
    clear hj
    gi_wp2
    refine ⟨by simp, .inl ⟨_, _, rfl, run_takeDeferred hK, ?_⟩⟩
    exact ⟨_, results_none rfl _ _ _, ⟨_, rfl⟩, .inl HJZ.out⟩
  case stop =>
    rintro D c pre Z hD hpre h hK
    exact h.elim
set_option maxRecDepth 100000 in
set_option maxHeartbeats 8000000 in
theorem gone0_any (w : World) : Calls Tryz.prog 23 #[.pointer none] w fun e w' => ∃ v, e = .returned v ∧ SpAt w' v [] ∧ Below w.heap.size w w' := by
  have hpl := fun W => places_any none true 0 W
  have hwh := fun W => whole0_any W
  have hg := fun W Bf Bd Bg (h1 : W.heap[Bf]? = some (.cells #[.int .i64 0] 3 (0, 0))) (h2 : W.heap[Bd]? = some (.cells #[.pointer none] 26 (0, 0))) =>
    gathered_any 81 #[.pointer (some ⟨Bf, 0, none⟩), .pointer (some ⟨Bd, 0, none⟩), .pointer (some ⟨Bg, 0, none⟩)] (enters_of Tryz.func81 (by kernel_rfl) rfl) 0 (by decide) [] W
      (fun w2 hb _ => places0_stops Bf Bd Bg W.heap.size (W.heap.size + 1 + 1) W rfl w2 hb (row_up h1 hb) (row_up h2 hb))
  have B0 := heap_new w (.cells #[.pointer none] 26)
  have A0 := row_al (row_al B0 (.cells #[.bool true] 4)) (.cells #[.int .i64 0] 3)
  have A1 := row_al (heap_new1 w (.cells #[.pointer none] 26) (.cells #[.bool true] 4)) (.cells #[.int .i64 0] 3)
  have A2 := heap_new2 w (.cells #[.pointer none] 26) (.cells #[.bool true] 4) (.cells #[.int .i64 0] 3)
  have AB : Below w.heap.size w (((w.alloc (.cells #[.pointer none] 26)).alloc (.cells #[.bool true] 4)).alloc (.cells #[.int .i64 0] 3)) := (((Below.refl _ w).alloc (Nat.le_refl _) _).alloc (by simp) _).alloc (by simp; omega) _
  have HG := Lib.hid hg
  have HW := Lib.hid hwh
  have HA := Lib.hid (And.intro A0 (And.intro A1 (And.intro A2 AB)))
  have hfd := cnt_field1
  clear hg hwh A0 A1 A2 AB B0
  go_enter Tryz.func23, Tryz.ntmps23
  go_wp2_with fail
  refine (hpl _).mono ?_
  rintro e _ ⟨rfl, rfl⟩
  go_wp2_with fail
  refine (HW.out _).mono ?_
  rintro e w1 ⟨rfl, hb1⟩
  obtain ⟨a0, a1, a2, aB⟩ := HA.out
  have HC := Lib.hid (aB.trans (hb1.mono aB.size))
  have HGA := Lib.hid (HG.out w1 _ _ (w.heap.size + 1) (row_up a2 hb1) (row_up a0 hb1))
  clear a0 a1 a2 aB hb1 HG HA HW hpl
  go_wp2_with fail
  refine HGA.out.mono ?_
  rintro e w2 ⟨v, rfl, ho, hb2⟩
  have HO := Lib.hid (And.intro (SpAt.of_own ho) (HC.out.trans (hb2.mono HC.out.size)))
  obtain ⟨ao', n', cap', rfl⟩ := slice_of ho
  clear ho hb2 HGA
  go_wp2
  go_ret
  exact ⟨_, rfl, HO.out.1, HO.out.2⟩
set_option maxRecDepth 100000 in
set_option maxHeartbeats 4000000 in
theorem run0_any (w : World) : Calls Tryz.prog 28 #[.pointer none, .int .i64 0, .int .i64 0] w fun e w' => ∃ v, e = .returned (.tuple #[v, .int .i64 1]) ∧ SpAt w' v [] ∧ Below w.heap.size w w' := by
  go_enter Tryz.func28, Tryz.ntmps28
  go_wp2
  try go_region
  try go_wp2
  go_ret2
  first | exact ⟨_, rfl, SpAt.nil _, Below.refl _ _⟩ | exact ⟨_, rfl, SpAt.nil _, (Below.refl _ _).drew⟩
end Go.Proofs.YtfoglciiefoodaaGreatDoor
