/- slices.Insert of cells. -/
import Derived.Test.YtmedickofiielaaGreatDoorGReads64
import Derived.Test.YtmedickofiielaaGreatDoorGCellsBlk
import Derived.Shelf.Spec.SlicesInsertGrow
namespace Go.Proofs.YtmedickofiielaaGreatDoor
open Go.RowKit Go.Shelf
attribute [local go_sem] Oper.semAt_some

theorem ins_shift (L X Y : List Value) (a b c : Nat) (hX : L.take (a + c) = X) (hXl : X.length = a + c) (hY : Y.length = b) (hL : a + b + c ≤ L.length) (R1 R2 : List Value) (h1 : R1 = L.take (a + b) ++ X.drop a ++ L.drop (a + b + c)) (h2 : R2 = R1.take a ++ Y ++ R1.drop (a + b)) :
  R2.take (a + b + c) = X.take a ++ Y ++ X.drop a ∧ R2.length = L.length ∧ R1.length = L.length := by
 have hl1 : (L.take (a + b)).length = a + b := by rw [List.length_take]; omega
 have hl2 : (X.drop a).length = c := by rw [List.length_drop]; omega
 have hl3 : (X.take a).length = a := by rw [List.length_take]; omega
 have hr1 : R1.length = L.length := by rw [h1]; simp [List.length_append, hl1, hl2]; omega
 have ht : R1.take a = X.take a := by
  rw [h1, List.append_assoc, List.take_append_of_le_length (by omega), List.take_take, ← hX, List.take_take]
  congr 1
  omega
 have hd : R1.drop (a + b) = X.drop a ++ L.drop (a + b + c) := by
  rw [h1, List.append_assoc, List.drop_append_of_le_length (by omega), List.drop_of_length_le (by omega), List.nil_append]
 refine ⟨?_, by rw [h2, ht, hd]; simp [hl2, hl3]; omega, hr1⟩
 rw [h2, ht, hd, ← List.append_assoc, List.take_append_of_le_length (by simp [hl2, hl3]; omega), List.take_of_length_le (by simp [hl2, hl3]; omega)]
theorem shape_of {W : World} {g : Nat} {cur : Array Value} {t : TypeId} {fr : Nat × Nat} (h : W.heap[g]? = some (.cells cur t fr)) : W.shape? g = some (t, cur.size) := by simp [World.shape?, h]
theorem setRow_keep {W : World} {g N : Nat} (cs : Array Value) : Keep (fun k => k = g) N W (W.setRow g cs) := ⟨rfl, rfl, rfl, by simp [World.setRow], fun k _ hk => setRow_other W g k cs hk⟩
theorem cell_row {W : World} {g : Nat} {cur : Array Value} {t : TypeId} (h : W.heap[g]? = some (.cells cur t (0, 0))) (o : Nat) : W.cell? ⟨g, o, none⟩ = cur[o]? := cell_of_row W g o cur t (0, 0) h
set_option maxRecDepth 100000 in
set_option maxHeartbeats 8000000 in
theorem insert_shift (g cap n i vb m vc : Nat) (cur cv : Array Value) (X Y : List Value) (w : World) (hg : w.heap[g]? = some (.cells cur 48 (0, 0))) (hcur : cur.size = cap * 5) (hX : cur.toList.take (n * 5) = X)
  (hv : w.heap[vb]? = some (.cells cv 48 (0, 0))) (hY : cv.toList.take (m * 5) = Y) (hcv : m * 5 ≤ cv.size) (hne : vb ≠ g) (hx1 : ∀ u ∈ X, u.oneCell' = true) (hy1 : ∀ u ∈ Y, u.oneCell' = true) (hi : i < n) (hm : 0 < m) (hroom : n + m ≤ cap) (_hcap : cap ≤ 9223372036854775807) (hnm : n + m ≤ 1000000) :
  Calls Tryz.prog 95 #[.slice (some ⟨g, 0, none⟩) n cap, .int .i64 (i : Int), .slice (some ⟨vb, 0, none⟩) m vc] w fun e w' =>
   e = .returned (.slice (some ⟨g, 0, none⟩) (n + m) cap) ∧ ∃ cur' : Array Value, w'.heap[g]? = some (.cells cur' 48 (0, 0)) ∧ cur'.size = cap * 5 ∧ cur'.toList.take ((n + m) * 5) = X.take (i * 5) ++ Y ++ X.drop (i * 5) ∧ Keep (fun k => k = g) w.heap.size w w' := by
 have hXl : X.length = n * 5 := by rw [← hX, List.length_take, Array.length_toList]; omega
 have hYl : Y.length = m * 5 := by rw [← hY, List.length_take, Array.length_toList]; omega
 obtain ⟨i0, hi0, _, hs0, _⟩ := infoCellI
 have hsz : (Tryz.prog.info? 48).map (·.size) = some 5 := by rw [hi0]; simp [hs0]
 obtain ⟨R1, hR1⟩ : ∃ R1, R1 = cur.toList.take (i * 5 + m * 5) ++ X.drop (i * 5) ++ cur.toList.drop (i * 5 + m * 5 + (n - i) * 5) := ⟨_, rfl⟩
 obtain ⟨R2, hR2⟩ : ∃ R2, R2 = R1.take (i * 5) ++ Y ++ R1.drop (i * 5 + m * 5) := ⟨_, rfl⟩
 obtain ⟨hf1, hf2, hf3⟩ := ins_shift cur.toList X Y (i * 5) (m * 5) ((n - i) * 5) (by rw [← hX]; congr 1; omega) (by rw [hXl]; omega) hYl (by rw [Array.length_toList]; omega) R1 R2 hR1 hR2
 have hdl : (X.drop (i * 5)).length = (n - i) * 5 := by rw [List.length_drop, hXl]; omega
 have hov : ∀ lb cb, (callFunc 110 #[.slice (some ⟨vb, 0, none⟩) m vc, .slice (some ⟨g, (i + m) * 5, none⟩) lb cb]).run Tryz.prog w = .ok (.value (.bool false)) w := fun lb cb => by
  rw [run_callFunc_extern Tryz.func110 (by kernel_rfl) (by kernel_rfl) (by kernel_rfl) (e := Extern.SlicesOverlaps.overlaps #[22, 22] #[4]) (by kernel_rfl),
   Lib.run_overlaps_apart w 22 4 48 Tryz.underlying22 5 Tryz.sizeOf48 ⟨vb, 0, none⟩ ⟨g, (i + m) * 5, none⟩ m vc lb cb hne _ _ _ _ (shape_of hv) (shape_of hg) (by omega) (frozen_of_row w vb 0 cv _ hv) (frozen_of_row w vb _ cv _ hv)]
  rfl
 have hcp1 : ∀ ty dc sc, (Builtin.copy_ #[22, 22] ty #[.slice (some ⟨g, (i + m) * 5, none⟩) (n + m - (i + m)) dc, .slice (some ⟨g, i * 5, none⟩) (n + m - i) sc]).run Tryz.prog w.drew = .ok (goInt ((n - i : Nat) : Int)) (w.drew.setRow g R1.toArray) := fun ty dc sc => by
  have hmn : Nat.min (n + m - i) (n + m - (i + m)) = n - i := by show min _ _ = _; omega
  have := run_copy_rowN (P := Tryz.prog) w.drew 22 22 ty 48 5 g ((i + m) * 5) (n + m - (i + m)) dc ⟨g, i * 5, none⟩ (n + m - i) sc cur 48 (X.drop (i * 5)) Tryz.underlying22 hsz hg (by rw [hdl, hmn])
   (fun j v hj => by
    rw [Addr.add_lit, cell_row (show w.drew.heap[g]? = _ from hg)]
    rw [List.getElem?_drop, ← hX, List.getElem?_take] at hj
    split at hj
    ·rw [← hj]; simp
    ·cases hj) (by rw [hdl]; omega) (fun v hv => hx1 v (List.mem_of_mem_drop hv))
  rw [hmn, hdl, show (i + m) * 5 = i * 5 + m * 5 by omega, ← hR1] at this
  rw [show (i + m) * 5 = i * 5 + m * 5 by omega]
  exact this
 have hg1 : (w.drew.setRow g R1.toArray).heap[g]? = some (.cells R1.toArray 48 (0, 0)) := setRow_heap w.drew g cur _ _ _ hg
 have hv1 : (w.drew.setRow g R1.toArray).heap[vb]? = some (.cells cv 48 (0, 0)) := (setRow_other _ _ _ _ hne).trans hv
 have hcp2 : ∀ ty dc, (Builtin.copy_ #[22, 22] ty #[.slice (some ⟨g, i * 5, none⟩) (n + m - i) dc, .slice (some ⟨vb, 0, none⟩) m vc]).run Tryz.prog (w.drew.setRow g R1.toArray) = .ok (goInt m) ((w.drew.setRow g R1.toArray).setRow g R2.toArray) := fun ty dc => by
  have hmn : Nat.min m (n + m - i) = m := by show min _ _ = _; omega
  have := run_copy_rowN (P := Tryz.prog) (w.drew.setRow g R1.toArray) 22 22 ty 48 5 g (i * 5) (n + m - i) dc ⟨vb, 0, none⟩ m vc R1.toArray 48 Y Tryz.underlying22 hsz hg1 (by rw [hYl, hmn])
   (fun j v hj => by
    rw [Addr.add_lit, cell_row hv1, Nat.zero_add]
    rw [← hY, List.getElem?_take] at hj
    split at hj
    ·rw [← hj]; simp
    ·cases hj) (by rw [hYl, List.size_toArray, hf3, Array.length_toList]; omega) hy1
  rw [hmn, hYl, List.toList_toArray, ← hR2] at this
  exact this
 have hfin : ((w.drew.setRow g R1.toArray).setRow g R2.toArray).heap[g]? = some (.cells R2.toArray 48 (0, 0)) := setRow_heap _ g _ _ _ _ hg1
 have hkk : Keep (fun k => k = g) w.heap.size w ((w.drew.setRow g R1.toArray).setRow g R2.toArray) := ((Keep.refl _ _ w).drewN 1).trans ((setRow_keep _).trans (setRow_keep _))
 have HF := Lib.hid (And.intro hfin (And.intro (show R2.toArray.size = cap * 5 by rw [List.size_toArray, hf2, Array.length_toList, hcur]) (And.intro (show R2.toArray.toList.take ((n + m) * 5) = X.take (i * 5) ++ Y ++ X.drop (i * 5) by rw [List.toList_toArray, ← hf1]; congr 1; omega) hkk)))
 have mixed : Tryz.prog.follows .mixedOrders = true := by kernel_rfl
 have hz1 : ¬ ((m : Int) = 0) := by omega
 have hz2 : ¬ ((i : Int) = (n : Int)) := by omega
 have hz3 : ¬ ((cap : Int) < (n : Int) + (m : Int)) := by omega
 have hw1 : IntKind.i64.wrap ((i : Int) + (m : Int)) = (i : Int) + (m : Int) := by rw [IntKind.wrap_i64]; omega
 have hw2 : IntKind.i64.wrap ((n : Int) + (m : Int)) = (n : Int) + (m : Int) := by rw [IntKind.wrap_i64]; omega
 have hb1 : (0 : Int) ≤ (i : Int) + (m : Int) := by omega
 have hin : i ≤ n := by omega
 have htn : ((i : Int) + (m : Int)).toNat = i + m := by omega
 have htn2 : ((n : Int) + (m : Int)).toNat = n + m := by omega
 have hb2 : ¬ (cap = i + m) := by omega
 have hb3 : (i : Int) ≤ (n : Int) + (m : Int) := by omega
 have hb4 : ¬ (cap = i) := by omega
 have hb5 : (i : Int) ≤ (n : Int) := by omega
 clear hR1 hR2 hf1 hf2 hf3 hX hY hXl hYl hdl hfin hkk hg1 hv1 hsz hg hv hcv hcur
 go_enter Tryz.func95, Tryz.ntmps95
 go_wp2_with (simp only [hov])
 go_region_law_o (refine step_copy_runI rfl _ _ 22 22 rfl _ _ (by simp [Act.eval, Act.put]) (by simp [Act.eval, Act.put]) (hcp1 _ _ _) ?_)
 go_wp2_with (at_builtin; refine wpList_copy_runI _ rfl _ _ 22 22 rfl _ _ rfl rfl (hcp2 _ _) ?_)
 go_ret
 exact ⟨rfl, _, HF.out.1, HF.out.2.1, HF.out.2.2.1, HF.out.2.2.2⟩
theorem ins_grow (L X Y : List Value) (a b c : Nat) (hX : L.take a = X.take a) (hXl : X.length = a + c) (hY : Y.length = b) (hL : a + b + c ≤ L.length) (R1 R2 : List Value) (h1 : R1 = L.take a ++ Y ++ L.drop (a + b)) (h2 : R2 = R1.take (a + b) ++ X.drop a ++ R1.drop (a + b + c)) :
  R2.take (a + b + c) = X.take a ++ Y ++ X.drop a ∧ R2.length = L.length ∧ R1.length = L.length := by
 have hl2 : (X.drop a).length = c := by rw [List.length_drop]; omega
 have hl3 : (X.take a).length = a := by rw [List.length_take]; omega
 have hr1 : R1.length = L.length := by rw [h1, hX]; simp [List.length_append, hl3, hY]; omega
 have ht : R1.take (a + b) = X.take a ++ Y := by
  rw [h1, hX, List.take_append_of_le_length (by simp [hl3, hY]), List.take_of_length_le (by simp [hl3, hY])]
 refine ⟨?_, by rw [h2, ht]; simp [hl2, hl3, hY, hr1]; omega, hr1⟩
 rw [h2, ht, List.take_append_of_le_length (by simp [hl2, hl3, hY]; omega), List.take_of_length_le (by simp [hl2, hl3, hY]; omega)]
set_option maxRecDepth 100000 in
set_option maxHeartbeats 8000000 in
theorem insert_grow (g cap n i vb m vc : Nat) (cur cv : Array Value) (X Y : List Value) (w : World) (hg : w.heap[g]? = some (.cells cur 48 (0, 0))) (hcur : cur.size = cap * 5) (hX : cur.toList.take (n * 5) = X)
  (hv : w.heap[vb]? = some (.cells cv 48 (0, 0))) (hY : cv.toList.take (m * 5) = Y) (hcv : m * 5 ≤ cv.size) (hx1 : ∀ u ∈ X, u.oneCell' = true) (hy1 : ∀ u ∈ Y, u.oneCell' = true) (hi : i < n) (hm : 0 < m) (hnc : n ≤ cap) (hroom : cap < n + m) (hnm : n + m ≤ 1000000) :
  Calls Tryz.prog 95 #[.slice (some ⟨g, 0, none⟩) n cap, .int .i64 (i : Int), .slice (some ⟨vb, 0, none⟩) m vc] w fun e w' =>
   ∃ (G : Nat) (cur' : Array Value), e = .returned (.slice (some ⟨w.heap.size, 0, none⟩) (n + m) G) ∧ n + m ≤ G ∧ G ≤ maxLen ∧ w'.heap[w.heap.size]? = some (.cells cur' 48 (0, 0)) ∧ cur'.size = G * 5 ∧ cur'.toList.take ((n + m) * 5) = X.take (i * 5) ++ Y ++ X.drop (i * 5) ∧ Below w.heap.size w w' := by
 have hXl : X.length = n * 5 := by rw [← hX, List.length_take, Array.length_toList]; omega
 have hYl : Y.length = m * 5 := by rw [← hY, List.length_take, Array.length_toList]; omega
 obtain ⟨i0, hi0, hz0, hzs, hzb⟩ := infoCellI
 have hsz : (Tryz.prog.info? 48).map (·.size) = some 5 := by rw [hi0]; simp [hzs]
 have hgl := box_lt hg
 have hvl := box_lt hv
 have hold : (Builtin.firstCells i0.size i (.slice (some ⟨g, 0, none⟩) i cap)).run Tryz.prog w.drew = .ok (X.take (i * 5)).toArray w.drew := by
  rw [hzs]
  exact run_firstCells_some w.drew 5 i ⟨g, 0, none⟩ i cap (X.take (i * 5)) (by rw [List.length_take, hXl]; omega) (fun j v hj => by
   rw [Addr.add_lit, cell_row (show w.drew.heap[g]? = _ from hg), Nat.zero_add]
   rw [← hX, List.take_take, List.getElem?_take] at hj
   split at hj
   ·rw [← hj]; simp
   ·cases hj)
 have hik : i + (n + m - i) = n + m := by omega
 have hkk : (n : Int) + (m : Int) - (i : Int) = ((n + m - i : Nat) : Int) := by omega
 have hrz : ∀ ty, (Builtin.append_ #[22, 3] ty #[.slice (some ⟨g, 0, none⟩) i cap, .int .i64 ((n : Int) + (m : Int) - (i : Int))]).run Tryz.prog w =
   .ok (.slice (some ⟨w.heap.size, 0, none⟩) (n + m) (grownCap w (n + m) cap 48)) (w.drew.alloc (.cells ((X.take (i * 5)).toArray ++ Builtin.zeroCells (Value.agg #[.int .i64 0, .int .i64 0, .int .i64 0, .int .i32 0, .bool false]).cells (n + m - i) ++ Builtin.zeroCells (Value.agg #[.int .i64 0, .int .i64 0, .int .i64 0, .int .i32 0, .bool false]).cells (grownCap w (n + m) cap 48 - (n + m))) 48)) := fun ty => by
  have h := Lib.run_append_grow_zeros w 22 3 ty 48 i0 _ .i64 .i64 Tryz.underlying22 Tryz.underlying3 hi0 hz0 (some ⟨g, 0, none⟩) i cap (X.take (i * 5)) hold (n + m - i) (by omega) (by omega) (by omega) (by omega) (by rw [hzb]; omega) (by rw [hzb, hik]; exact growslice_fits hroom (by omega))
  rw [hik] at h
  rw [hkk]
  exact h
 obtain ⟨G, hG⟩ : ∃ G, G = grownCap w (n + m) cap 48 := ⟨_, rfl⟩
 rw [← hG] at hrz
 have hGn : n + m ≤ G := by rw [hG]; exact grownCap_ge w _ _ _
 have hGm : G ≤ maxLen := by rw [hG]; exact grownCap_le_maxLen w (n + m) cap 48 (by unfold maxLen; omega)
 obtain ⟨ROW, hROW⟩ : ∃ ROW : Array Value, ROW = (X.take (i * 5)).toArray ++ Builtin.zeroCells (Value.agg #[.int .i64 0, .int .i64 0, .int .i64 0, .int .i32 0, .bool false]).cells (n + m - i) ++ Builtin.zeroCells (Value.agg #[.int .i64 0, .int .i64 0, .int .i64 0, .int .i32 0, .bool false]).cells (G - (n + m)) := ⟨_, rfl⟩
 rw [← hROW] at hrz
 have hRs : ROW.size = G * 5 := by
  rw [hROW]
  simp [Builtin.zeroCells, Value.cells, hXl]
  omega
 have hRt : ROW.toList.take (i * 5) = X.take (i * 5) := by
  rw [hROW, Array.toList_append, Array.toList_append, List.toList_toArray, List.append_assoc, List.take_append_of_le_length (by rw [List.length_take, hXl]; omega), List.take_take, Nat.min_self]
 obtain ⟨R1, hR1⟩ : ∃ R1, R1 = ROW.toList.take (i * 5) ++ Y ++ ROW.toList.drop (i * 5 + m * 5) := ⟨_, rfl⟩
 obtain ⟨R2, hR2⟩ : ∃ R2, R2 = R1.take (i * 5 + m * 5) ++ X.drop (i * 5) ++ R1.drop (i * 5 + m * 5 + (n - i) * 5) := ⟨_, rfl⟩
 obtain ⟨hf1, hf2, hf3⟩ := ins_grow ROW.toList X Y (i * 5) (m * 5) ((n - i) * 5) hRt (by rw [hXl]; omega) hYl (by rw [Array.length_toList, hRs]; omega) R1 R2 hR1 hR2
 have hdl : (X.drop (i * 5)).length = (n - i) * 5 := by rw [List.length_drop, hXl]; omega
 obtain ⟨W1, hW1⟩ : ∃ W1, W1 = (w.alloc (.cells ROW 48)).drew := ⟨_, rfl⟩
 have hn1 : W1.heap[w.heap.size]? = some (.cells ROW 48 (0, 0)) := by rw [hW1]; exact heap_new w _
 have hg1 : W1.heap[g]? = some (.cells cur 48 (0, 0)) := by rw [hW1]; exact row_al hg _
 have hv1 : W1.heap[vb]? = some (.cells cv 48 (0, 0)) := by rw [hW1]; exact row_al hv _
 have hcpA : ∀ ty dc, (Builtin.copy_ #[22, 22] ty #[.slice (some ⟨w.heap.size, i * 5, none⟩) (n + m - i) dc, .slice (some ⟨vb, 0, none⟩) m vc]).run Tryz.prog W1 = .ok (goInt (m : Int)) (W1.setRow w.heap.size R1.toArray) := fun ty dc => by
  have hmn : Nat.min m (n + m - i) = m := by show min _ _ = _; omega
  have := run_copy_rowN (P := Tryz.prog) W1 22 22 ty 48 5 w.heap.size (i * 5) (n + m - i) dc ⟨vb, 0, none⟩ m vc ROW 48 Y Tryz.underlying22 hsz hn1 (by rw [hYl, hmn])
   (fun j v hj => by
    rw [Addr.add_lit, cell_row hv1, Nat.zero_add]
    rw [← hY, List.getElem?_take] at hj
    split at hj
    ·rw [← hj]; simp
    ·cases hj) (by rw [hYl, hRs]; omega) hy1
  rw [hmn, hYl, ← hR1] at this
  exact this
 obtain ⟨W2, hW2⟩ : ∃ W2, W2 = (W1.setRow w.heap.size R1.toArray).drew := ⟨_, rfl⟩
 have hn2 : W2.heap[w.heap.size]? = some (.cells R1.toArray 48 (0, 0)) := by rw [hW2]; exact setRow_heap W1 _ _ _ _ _ hn1
 have hg2 : W2.heap[g]? = some (.cells cur 48 (0, 0)) := by rw [hW2]; exact (setRow_other W1 _ _ _ (by omega)).trans hg1
 have hcpB : ∀ ty dc sc, (Builtin.copy_ #[22, 22] ty #[.slice (some ⟨w.heap.size, (i + m) * 5, none⟩) (n + m - (i + m)) dc, .slice (some ⟨g, i * 5, none⟩) (n - i) sc]).run Tryz.prog W2 = .ok (goInt ((n - i : Nat) : Int)) (W2.setRow w.heap.size R2.toArray) := fun ty dc sc => by
  have hmn : Nat.min (n - i) (n + m - (i + m)) = n - i := by show min _ _ = _; omega
  have := run_copy_rowN (P := Tryz.prog) W2 22 22 ty 48 5 w.heap.size ((i + m) * 5) (n + m - (i + m)) dc ⟨g, i * 5, none⟩ (n - i) sc R1.toArray 48 (X.drop (i * 5)) Tryz.underlying22 hsz hn2 (by rw [hdl, hmn])
   (fun j v hj => by
    rw [Addr.add_lit, cell_row hg2]
    rw [List.getElem?_drop, ← hX, List.getElem?_take] at hj
    split at hj
    ·rw [← hj]; simp
    ·cases hj) (by rw [hdl, List.size_toArray, hf3, Array.length_toList, hRs]; omega) (fun v hv => hx1 v (List.mem_of_mem_drop hv))
  rw [hmn, hdl, List.toList_toArray, show (i + m) * 5 = i * 5 + m * 5 by omega, ← hR2] at this
  rw [show (i + m) * 5 = i * 5 + m * 5 by omega]
  exact this
 have hfin : (W2.setRow w.heap.size R2.toArray).heap[w.heap.size]? = some (.cells R2.toArray 48 (0, 0)) := setRow_heap _ _ _ _ _ _ hn2
 have hbl : Below w.heap.size w (W2.setRow w.heap.size R2.toArray) := by
  have k1 : Below w.heap.size w W1 := by rw [hW1]; exact ((Below.refl _ w).alloc (Nat.le_refl _) _).drew
  have k2 : Below w.heap.size w W2 := by
   rw [hW2]
   exact (k1.trans ((setRow_keep (N := w.heap.size) R1.toArray).below (Nat.le_refl _) (fun k hk => Nat.le_of_eq hk.symm))).drew
  exact k2.trans ((setRow_keep (N := w.heap.size) R2.toArray).below (Nat.le_refl _) (fun k hk => Nat.le_of_eq hk.symm))
 have HF := Lib.hid (And.intro hGn (And.intro hGm (And.intro hfin (And.intro (show R2.toArray.size = G * 5 by rw [List.size_toArray, hf2, Array.length_toList, hRs]) (And.intro (show R2.toArray.toList.take ((n + m) * 5) = X.take (i * 5) ++ Y ++ X.drop (i * 5) by rw [List.toList_toArray, ← hf1]; congr 1; omega) hbl)))))
 have mixed : Tryz.prog.follows .mixedOrders = true := by kernel_rfl
 have hz1 : ¬ ((m : Int) = 0) := by omega
 have hz2 : ¬ ((i : Int) = (n : Int)) := by omega
 have hz3 : (cap : Int) < (n : Int) + (m : Int) := by omega
 have hw1 : IntKind.i64.wrap ((i : Int) + (m : Int)) = (i : Int) + (m : Int) := by rw [IntKind.wrap_i64]; omega
 have hw2 : IntKind.i64.wrap ((n : Int) + (m : Int)) = (n : Int) + (m : Int) := by rw [IntKind.wrap_i64]; omega
 have hw3 : IntKind.i64.wrap ((n : Int) + (m : Int) - (i : Int)) = (n : Int) + (m : Int) - (i : Int) := by rw [IntKind.wrap_i64]; omega
 have hb1 : (0 : Int) ≤ (i : Int) + (m : Int) := by omega
 have hin : i ≤ n := by omega
 have htn : ((i : Int) + (m : Int)).toNat = i + m := by omega
 have hb2 : ¬ (G = i + m) := by omega
 have hb4 : ¬ (G = i) := by omega
 have hb5 : (i : Int) ≤ (n : Int) := by omega
 have hb6 : ¬ (cap = i) := by omega
 have hb7 : (i : Int) ≤ (cap : Int) := by omega
 have hG63 : G ≤ 9223372036854775807 := by unfold maxLen at hGm; omega
 have hb8 : (i : Int) ≤ (n : Int) + (m : Int) := by omega
 have hb9 : (i : Int) + (m : Int) ≤ (n : Int) + (m : Int) := by omega
 clear hR1 hR2 hf1 hf2 hf3 hX hY hXl hYl hdl hfin hbl hg1 hv1 hn1 hn2 hg2 hsz hg hv hcv hcur hold hkk hik hRs hRt hROW hi0 hz0 hzs hzb hG hGm
 subst hW2 hW1
 go_enter Tryz.func95, Tryz.ntmps95
 go_wp2_with (first
  | (at_builtin; refine Lib.wpList_append_run _ rfl _ _ _ _ rfl _ _ rfl rfl _ _ (hrz _) ?_)
  | (at_builtin; refine wpList_copy_runI _ rfl _ _ 22 22 rfl _ _ rfl rfl (hcpA _ _) ?_))
 go_region_law_o (refine step_copy_runI rfl _ _ 22 22 rfl _ _ (by simp [Act.eval, Act.put]) (by simp [Act.eval, Act.put]) (hcpB _ _ _) ?_)
 go_wp2
 go_ret
 exact ⟨G, _, rfl, HF.out.1, HF.out.2.1, HF.out.2.2.1, HF.out.2.2.2.1, HF.out.2.2.2.2.1, HF.out.2.2.2.2.2⟩
end Go.Proofs.YtmedickofiielaaGreatDoor
