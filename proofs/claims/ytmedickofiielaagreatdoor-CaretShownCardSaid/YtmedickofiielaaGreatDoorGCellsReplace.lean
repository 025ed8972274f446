/- Texts of this proof, joined. -/
import Derived.Test.YtmedickofiielaaGreatDoorGCellsText
import Derived.Test.YtmedickofiielaaGreatDoorGSpansPlain
import Derived.Test.YtmedickofiielaaGreatDoorGCellsBlk
import Derived.Test.YtmedickofiielaaGreatDoorGIter
import Derived.Test.YtmedickofiielaaGreatDoorGPlain
import Derived.Test.YtmedickofiielaaGreatDoorGRefOps
namespace Go.Proofs.YtmedickofiielaaGreatDoor
open Go.RowKit Go.Shelf
attribute [local go_sem] Oper.semAt_some

theorem rep_shift (L X Y : List Value) (a d b c : Nat) (hX : L.take (a + d + c) = X) (hXl : X.length = a + d + c) (hY : Y.length = b) (hL : a + b + c ≤ L.length) (R1 R2 : List Value) (h1 : R1 = L.take (a + b) ++ X.drop (a + d) ++ L.drop (a + b + c)) (h2 : R2 = R1.take a ++ Y ++ R1.drop (a + b)) :
  R2.take (a + b + c) = X.take a ++ Y ++ X.drop (a + d) ∧ R2.length = L.length ∧ R1.length = L.length := by
 have hl1 : (L.take (a + b)).length = a + b := by rw [List.length_take]; omega
 have hl2 : (X.drop (a + d)).length = c := by rw [List.length_drop]; omega
 have hl3 : (X.take a).length = a := by rw [List.length_take]; omega
 have hr1 : R1.length = L.length := by rw [h1]; simp [List.length_append, hl1, hl2]; omega
 have ht : R1.take a = X.take a := by
  rw [h1, List.append_assoc, List.take_append_of_le_length (by omega), List.take_take, ← hX, List.take_take]
  congr 1
  omega
 have hd : R1.drop (a + b) = X.drop (a + d) ++ L.drop (a + b + c) := by
  rw [h1, List.append_assoc, List.drop_append_of_le_length (by omega), List.drop_of_length_le (by omega), List.nil_append]
 refine ⟨?_, by rw [h2, ht, hd]; simp [hl2, hl3]; omega, hr1⟩
 rw [h2, ht, hd, ← List.append_assoc, List.take_append_of_le_length (by simp [hl2, hl3]; omega), List.take_of_length_le (by simp [hl2, hl3]; omega)]
set_option maxRecDepth 100000 in
set_option maxHeartbeats 8000000 in
theorem replace_shift (g cap n i j vb m vc : Nat) (cur cv : Array Value) (X Y : List Value) (w : World) (hg : w.heap[g]? = some (.cells cur 109 (0, 0))) (hcur : cur.size = cap * 3) (hX : cur.toList.take (n * 3) = X)
  (hv : w.heap[vb]? = some (.cells cv 109 (0, 0))) (hY : cv.toList.take (m * 3) = Y) (hcv : m * 3 ≤ cv.size) (hcv0 : cv.size ≠ 0) (hne : g ≠ vb) (hx1 : ∀ u ∈ X, u.oneCell' = true) (hy1 : ∀ u ∈ Y, u.oneCell' = true) (hj : j = i + 1) (hi : j < n) (hm : 2 ≤ m) (hroom : i + m + (n - j) ≤ cap) (hcap : cap ≤ 9223372036854775807) (hnm : n + m ≤ 1000000) (hnc : n ≤ cap) :
  Calls Tryz.prog 79 #[.slice (some ⟨g, 0, none⟩) n cap, .int .i64 (i : Int), .int .i64 (j : Int), .slice (some ⟨vb, 0, none⟩) m vc] w fun e w' =>
   e = .returned (.slice (some ⟨g, 0, none⟩) (i + m + (n - j)) cap) ∧ ∃ cur' : Array Value, w'.heap[g]? = some (.cells cur' 109 (0, 0)) ∧ cur'.size = cap * 3 ∧ cur'.toList.take ((i + m + (n - j)) * 3) = X.take (i * 3) ++ Y ++ X.drop (j * 3) ∧ Keep (fun k => k = g) w.heap.size w w' := by
 have hXl : X.length = n * 3 := by rw [← hX, List.length_take, Array.length_toList]; omega
 have hYl : Y.length = m * 3 := by rw [← hY, List.length_take, Array.length_toList]; omega
 obtain ⟨i0, hi0, _, hs0, _⟩ := infoBlkI
 have hsz : (Tryz.prog.info? 109).map (·.size) = some 3 := by rw [hi0]; simp [hs0]
 obtain ⟨R1, hR1⟩ : ∃ R1, R1 = cur.toList.take (i * 3 + m * 3) ++ X.drop (i * 3 + 3) ++ cur.toList.drop (i * 3 + m * 3 + (n - j) * 3) := ⟨_, rfl⟩
 obtain ⟨R2, hR2⟩ : ∃ R2, R2 = R1.take (i * 3) ++ Y ++ R1.drop (i * 3 + m * 3) := ⟨_, rfl⟩
 obtain ⟨hf1, hf2, hf3⟩ := rep_shift cur.toList X Y (i * 3) 3 (m * 3) ((n - j) * 3) (by rw [← hX]; congr 1; omega) (by rw [hXl]; omega) hYl (by rw [Array.length_toList]; omega) R1 R2 hR1 hR2
 have hdl : (X.drop (i * 3 + 3)).length = (n - j) * 3 := by rw [List.length_drop, hXl]; omega
 have hov : ∀ lb cb, (callFunc 97 #[.slice (some ⟨g, (i + m) * 3, none⟩) lb cb, .slice (some ⟨vb, 0, none⟩) m vc]).run Tryz.prog w.drew = .ok (.value (.bool false)) w.drew := fun lb cb => by
  rw [run_callFunc_extern Tryz.func97 (by kernel_rfl) (by kernel_rfl) (by kernel_rfl) (e := Extern.SlicesOverlaps.overlaps #[87, 87] #[4]) (by kernel_rfl),
   Lib.run_overlaps_apart w.drew 87 4 109 Tryz.underlying87 3 Tryz.sizeOf109 ⟨g, (i + m) * 3, none⟩ ⟨vb, 0, none⟩ lb cb m vc hne _ _ _ _ (shape_of (W := w.drew) hg) (shape_of (W := w.drew) hv) hcv0 (frozen_of_row w.drew g _ cur _ hg) (frozen_of_row w.drew g _ cur _ hg)]
  rfl
 obtain ⟨W0, hW0⟩ : ∃ W0, W0 = w.drew.drew := ⟨_, rfl⟩
 have hg0 : W0.heap[g]? = some (.cells cur 109 (0, 0)) := by rw [hW0]; exact hg
 have hv0 : W0.heap[vb]? = some (.cells cv 109 (0, 0)) := by rw [hW0]; exact hv
 have hcp1 : ∀ ty dL dc sc, dL = n - j → (Builtin.copy_ #[87, 87] ty #[.slice (some ⟨g, (i + m) * 3, none⟩) dL dc, .slice (some ⟨g, j * 3, none⟩) (n - j) sc]).run Tryz.prog W0 = .ok (goInt ((n - j : Nat) : Int)) (W0.setRow g R1.toArray) := fun ty dL dc sc hdL => by
  subst hdL
  have hmn : Nat.min (n - j) (n - j) = n - j := by show min _ _ = _; omega
  have := run_copy_rowN (P := Tryz.prog) W0 87 87 ty 109 3 g ((i + m) * 3) (n - j) dc ⟨g, j * 3, none⟩ (n - j) sc cur 109 (X.drop (i * 3 + 3)) Tryz.underlying87 hsz hg0 (by rw [hdl, hmn])
   (fun k v hk => by
    rw [Addr.add_lit, cell_row hg0]
    rw [List.getElem?_drop, ← hX, List.getElem?_take] at hk
    split at hk
    ·rw [← hk, show j * 3 = i * 3 + 3 by omega]; simp
    ·cases hk) (by rw [hdl]; omega) (fun v hv => hx1 v (List.mem_of_mem_drop hv))
  rw [hmn, hdl, show (i + m) * 3 = i * 3 + m * 3 by omega, ← hR1] at this
  rw [show (i + m) * 3 = i * 3 + m * 3 by omega]
  exact this
 have hg1 : (W0.setRow g R1.toArray).heap[g]? = some (.cells R1.toArray 109 (0, 0)) := setRow_heap W0 g cur _ _ _ hg0
 have hv1 : (W0.setRow g R1.toArray).heap[vb]? = some (.cells cv 109 (0, 0)) := (setRow_other _ _ _ _ hne.symm).trans hv0
 have hcp2 : ∀ ty dL dc, m ≤ dL → (Builtin.copy_ #[87, 87] ty #[.slice (some ⟨g, i * 3, none⟩) dL dc, .slice (some ⟨vb, 0, none⟩) m vc]).run Tryz.prog (W0.setRow g R1.toArray) = .ok (goInt (m : Int)) ((W0.setRow g R1.toArray).setRow g R2.toArray) := fun ty dL dc hdL => by
  have hmn : Nat.min m dL = m := by show min _ _ = _; omega
  have := run_copy_rowN (P := Tryz.prog) (W0.setRow g R1.toArray) 87 87 ty 109 3 g (i * 3) dL dc ⟨vb, 0, none⟩ m vc R1.toArray 109 Y Tryz.underlying87 hsz hg1 (by rw [hYl, hmn])
   (fun k v hk => by
    rw [Addr.add_lit, cell_row hv1, Nat.zero_add]
    rw [← hY, List.getElem?_take] at hk
    split at hk
    ·rw [← hk]; simp
    ·cases hk) (by rw [hYl, List.size_toArray, hf3, Array.length_toList]; omega) hy1
  rw [hmn, hYl, List.toList_toArray, ← hR2] at this
  exact this
 have hfin : ((W0.setRow g R1.toArray).setRow g R2.toArray).heap[g]? = some (.cells R2.toArray 109 (0, 0)) := setRow_heap _ g _ _ _ _ hg1
 have hkk : Keep (fun k => k = g) w.heap.size w ((W0.setRow g R1.toArray).setRow g R2.toArray) := by
  rw [hW0]
  exact ((Keep.refl _ _ w).drewN 2).trans ((setRow_keep _).trans (setRow_keep _))
 have HF := Lib.hid (And.intro hfin (And.intro (show R2.toArray.size = cap * 3 by rw [List.size_toArray, hf2, Array.length_toList, hcur]) (And.intro (show R2.toArray.toList.take ((i + m + (n - j)) * 3) = X.take (i * 3) ++ Y ++ X.drop (j * 3) by rw [List.toList_toArray, show j * 3 = i * 3 + 3 by omega, ← hf1]; congr 1; omega) hkk)))
 have mixed : Tryz.prog.follows .mixedOrders = true := by kernel_rfl
 have hz1 : ¬ ((i : Int) = (j : Int)) := by omega
 have hz2 : ¬ ((j : Int) = (n : Int)) := by omega
 have hz3 : ¬ ((cap : Int) < (i : Int) + (m : Int) + ((n - j : Nat) : Int)) := by omega
 have hz4 : ¬ ((i : Int) + (m : Int) ≤ (j : Int)) := by omega
 have hw1 : IntKind.i64.wrap ((i : Int) + (m : Int)) = (i : Int) + (m : Int) := by rw [IntKind.wrap_i64]; omega
 have hw2 : IntKind.i64.wrap ((i : Int) + (m : Int) + ((n - j : Nat) : Int)) = (i : Int) + (m : Int) + ((n - j : Nat) : Int) := by rw [IntKind.wrap_i64]; omega
 have hb1 : (0 : Int) ≤ (i : Int) + (m : Int) := by omega
 have hb0 : (0 : Int) ≤ (i : Int) + (m : Int) + ((n - j : Nat) : Int) := by omega
 have htn : ((i : Int) + (m : Int)).toNat = i + m := by omega
 have htn2 : ((i : Int) + (m : Int) + ((n - j : Nat) : Int)).toNat = i + m + (n - j) := by omega
 have hb2 : ¬ (cap = i + m) := by omega
 have hb3 : (i : Int) + (m : Int) ≤ (i : Int) + (m : Int) + ((n - j : Nat) : Int) := by omega
 have hb4 : ¬ (cap = i) := by omega
 have hb5 : (i : Int) ≤ (n : Int) := by omega
 have hb6 : ¬ (cap = j) := by omega
 have hb7 : (i : Int) ≤ (j : Int) := by omega
 have hb8 : (j : Int) ≤ (n : Int) := by omega
 have hb9 : (j : Int) ≤ (cap : Int) := by omega
 have hc1 : (i : Int) + (m : Int) + ((n - j : Nat) : Int) ≤ (cap : Int) := by omega
 have hc2 : (i : Int) ≤ (i : Int) + (m : Int) + ((n - j : Nat) : Int) := by omega
 have hc3 : (i : Int) ≤ (cap : Int) := by omega
 clear hR1 hR2 hf1 hf2 hf3 hX hY hXl hYl hdl hfin hkk hg1 hv1 hsz hg hv hcv hcur hg0 hv0 hcv0 hj hi
 subst hW0
 go_enter Tryz.func79, Tryz.ntmps79
 go_wp2
 go_region
 go_wp2_with (simp only [hov])
 go_region_law_o (refine step_copy_runI rfl _ _ 87 87 rfl _ _ (by simp [Act.eval, Act.put]) (by simp [Act.eval, Act.put]) (hcp1 _ _ _ _ (by omega)) ?_)
 have hc2' := hcp2 3 (i + m + (n - j) - i) (cap - i) (by omega)
 go_wp2_with (at_builtin; refine wpList_copy_runI _ rfl _ _ 87 87 rfl _ _ rfl rfl hc2' ?_)
 go_ret
 exact ⟨rfl, _, HF.out.1, HF.out.2.1, HF.out.2.2.1, HF.out.2.2.2⟩
theorem rep_grow (L X Y : List Value) (a d b c : Nat) (hX : L.take a = X.take a) (hXl : X.length = a + d + c) (hY : Y.length = b) (hL : a + b + c ≤ L.length) (R1 R2 : List Value) (h1 : R1 = L.take a ++ Y ++ L.drop (a + b)) (h2 : R2 = R1.take (a + b) ++ X.drop (a + d) ++ R1.drop (a + b + c)) :
  R2.take (a + b + c) = X.take a ++ Y ++ X.drop (a + d) ∧ R2.length = L.length ∧ R1.length = L.length := by
 have hl2 : (X.drop (a + d)).length = c := by rw [List.length_drop]; omega
 have hl3 : (X.take a).length = a := by rw [List.length_take]; omega
 have hr1 : R1.length = L.length := by rw [h1, hX]; simp [List.length_append, hl3, hY]; omega
 have ht : R1.take (a + b) = X.take a ++ Y := by
  rw [h1, hX, List.take_append_of_le_length (by simp [hl3, hY]), List.take_of_length_le (by simp [hl3, hY])]
 refine ⟨?_, by rw [h2, ht]; simp [hl2, hl3, hY, hr1]; omega, hr1⟩
 rw [h2, ht, List.take_append_of_le_length (by simp [hl2, hl3, hY]; omega), List.take_of_length_le (by simp [hl2, hl3, hY]; omega)]
set_option maxRecDepth 100000 in
set_option maxHeartbeats 8000000 in
theorem replace_grow (g cap n i j vb m vc T : Nat) (cur cv : Array Value) (X Y : List Value) (w : World) (hg : w.heap[g]? = some (.cells cur 109 (0, 0))) (hcur : cur.size = cap * 3) (hX : cur.toList.take (n * 3) = X)
  (hv : w.heap[vb]? = some (.cells cv 109 (0, 0))) (hY : cv.toList.take (m * 3) = Y) (hcv : m * 3 ≤ cv.size) (hx1 : ∀ u ∈ X, u.oneCell' = true) (hy1 : ∀ u ∈ Y, u.oneCell' = true) (hj : j = i + 1) (hi : j < n) (hm : 2 ≤ m) (hT : T = i + m + (n - j)) (hroom : cap < T) (hnm : n + m ≤ 1000000) (hnc : n ≤ cap) (hcap : cap ≤ 9223372036854775807) :
  Calls Tryz.prog 79 #[.slice (some ⟨g, 0, none⟩) n cap, .int .i64 (i : Int), .int .i64 (j : Int), .slice (some ⟨vb, 0, none⟩) m vc] w fun e w' =>
   ∃ (G : Nat) (cur' : Array Value), e = .returned (.slice (some ⟨w.heap.size, 0, none⟩) T G) ∧ T ≤ G ∧ G ≤ maxLen ∧ w'.heap[w.heap.size]? = some (.cells cur' 109 (0, 0)) ∧ cur'.size = G * 3 ∧ cur'.toList.take (T * 3) = X.take (i * 3) ++ Y ++ X.drop (j * 3) ∧ Below w.heap.size w w' := by
 have hXl : X.length = n * 3 := by rw [← hX, List.length_take, Array.length_toList]; omega
 have hYl : Y.length = m * 3 := by rw [← hY, List.length_take, Array.length_toList]; omega
 obtain ⟨i0, hi0, hz0, hzs, hzb⟩ := infoBlkI
 have hsz : (Tryz.prog.info? 109).map (·.size) = some 3 := by rw [hi0]; simp [hzs]
 have hgl := box_lt hg
 have hvl := box_lt hv
 have hold : (Builtin.firstCells i0.size i (.slice (some ⟨g, 0, none⟩) i cap)).run Tryz.prog w.drew.drew = .ok (X.take (i * 3)).toArray w.drew.drew := by
  rw [hzs]
  exact run_firstCells_some w.drew.drew 3 i ⟨g, 0, none⟩ i cap (X.take (i * 3)) (by rw [List.length_take, hXl]; omega) (fun k v hk => by
   rw [Addr.add_lit, cell_row (show w.drew.drew.heap[g]? = _ from hg), Nat.zero_add]
   rw [← hX, List.take_take, List.getElem?_take] at hk
   split at hk
   ·rw [← hk]; simp
   ·cases hk)
 have hik : i + (T - i) = T := by omega
 have hkk : (i : Int) + (m : Int) + ((n - j : Nat) : Int) - (i : Int) = ((T - i : Nat) : Int) := by omega
 have hrz : ∀ ty, (Builtin.append_ #[87, 3] ty #[.slice (some ⟨g, 0, none⟩) i cap, .int .i64 ((i : Int) + (m : Int) + ((n - j : Nat) : Int) - (i : Int))]).run Tryz.prog w.drew =
   .ok (.slice (some ⟨w.heap.size, 0, none⟩) T (grownCap w.drew T cap 109)) (w.drew.drew.alloc (.cells ((X.take (i * 3)).toArray ++ Builtin.zeroCells (Value.agg #[.int .i64 0, .int .i64 0, .slice none 0 0]).cells (T - i) ++ Builtin.zeroCells (Value.agg #[.int .i64 0, .int .i64 0, .slice none 0 0]).cells (grownCap w.drew T cap 109 - T)) 109)) := fun ty => by
  have h := Lib.run_append_grow_zeros w.drew 87 3 ty 109 i0 _ .i64 .i64 Tryz.underlying87 Tryz.underlying3 hi0 hz0 (some ⟨g, 0, none⟩) i cap (X.take (i * 3)) hold (T - i) (by omega) (by omega) (by omega) (by omega) (by rw [hzb]; omega) (by rw [hzb, hik]; exact growslice_fits hroom (by omega))
  rw [hik] at h
  rw [hkk]
  exact h
 obtain ⟨G, hG⟩ : ∃ G, G = grownCap w.drew T cap 109 := ⟨_, rfl⟩
 rw [← hG] at hrz
 have hGn : T ≤ G := by rw [hG]; exact grownCap_ge w.drew _ _ _
 have hGm : G ≤ maxLen := by rw [hG]; exact grownCap_le_maxLen w.drew T cap 109 (by unfold maxLen; omega)
 obtain ⟨ROW, hROW⟩ : ∃ ROW : Array Value, ROW = (X.take (i * 3)).toArray ++ Builtin.zeroCells (Value.agg #[.int .i64 0, .int .i64 0, .slice none 0 0]).cells (T - i) ++ Builtin.zeroCells (Value.agg #[.int .i64 0, .int .i64 0, .slice none 0 0]).cells (G - T) := ⟨_, rfl⟩
 rw [← hROW] at hrz
 have hRs : ROW.size = G * 3 := by
  rw [hROW]
  simp [Builtin.zeroCells, Value.cells, hXl]
  omega
 have hRt : ROW.toList.take (i * 3) = X.take (i * 3) := by
  rw [hROW, Array.toList_append, Array.toList_append, List.toList_toArray, List.append_assoc, List.take_append_of_le_length (by rw [List.length_take, hXl]; omega), List.take_take, Nat.min_self]
 obtain ⟨R1, hR1⟩ : ∃ R1, R1 = ROW.toList.take (i * 3) ++ Y ++ ROW.toList.drop (i * 3 + m * 3) := ⟨_, rfl⟩
 obtain ⟨R2, hR2⟩ : ∃ R2, R2 = R1.take (i * 3 + m * 3) ++ X.drop (i * 3 + 3) ++ R1.drop (i * 3 + m * 3 + (n - j) * 3) := ⟨_, rfl⟩
 obtain ⟨hf1, hf2, hf3⟩ := rep_grow ROW.toList X Y (i * 3) 3 (m * 3) ((n - j) * 3) hRt (by rw [hXl]; omega) hYl (by rw [Array.length_toList, hRs]; omega) R1 R2 hR1 hR2
 have hdl : (X.drop (i * 3 + 3)).length = (n - j) * 3 := by rw [List.length_drop, hXl]; omega
 obtain ⟨W1, hW1⟩ : ∃ W1, W1 = (w.alloc (.cells ROW 109)).drew.drew := ⟨_, rfl⟩
 have hn1 : W1.heap[w.heap.size]? = some (.cells ROW 109 (0, 0)) := by rw [hW1]; exact heap_new w _
 have hg1 : W1.heap[g]? = some (.cells cur 109 (0, 0)) := by rw [hW1]; exact row_al hg _
 have hv1 : W1.heap[vb]? = some (.cells cv 109 (0, 0)) := by rw [hW1]; exact row_al hv _
 have hcpA : ∀ ty dL dc, m ≤ dL → (Builtin.copy_ #[87, 87] ty #[.slice (some ⟨w.heap.size, i * 3, none⟩) dL dc, .slice (some ⟨vb, 0, none⟩) m vc]).run Tryz.prog W1 = .ok (goInt (m : Int)) (W1.setRow w.heap.size R1.toArray) := fun ty dL dc hdL => by
  have hmn : Nat.min m dL = m := by show min _ _ = _; omega
  have := run_copy_rowN (P := Tryz.prog) W1 87 87 ty 109 3 w.heap.size (i * 3) dL dc ⟨vb, 0, none⟩ m vc ROW 109 Y Tryz.underlying87 hsz hn1 (by rw [hYl, hmn])
   (fun k v hk => by
    rw [Addr.add_lit, cell_row hv1, Nat.zero_add]
    rw [← hY, List.getElem?_take] at hk
    split at hk
    ·rw [← hk]; simp
    ·cases hk) (by rw [hYl, hRs]; omega) hy1
  rw [hmn, hYl, ← hR1] at this
  exact this
 obtain ⟨W2, hW2⟩ : ∃ W2, W2 = (W1.setRow w.heap.size R1.toArray).drew := ⟨_, rfl⟩
 have hn2 : W2.heap[w.heap.size]? = some (.cells R1.toArray 109 (0, 0)) := by rw [hW2]; exact setRow_heap W1 _ _ _ _ _ hn1
 have hg2 : W2.heap[g]? = some (.cells cur 109 (0, 0)) := by rw [hW2]; exact (setRow_other W1 _ _ _ (by omega)).trans hg1
 have hcpB : ∀ ty dL dc sc, dL = n - j → (Builtin.copy_ #[87, 87] ty #[.slice (some ⟨w.heap.size, (i + m) * 3, none⟩) dL dc, .slice (some ⟨g, j * 3, none⟩) (n - j) sc]).run Tryz.prog W2 = .ok (goInt ((n - j : Nat) : Int)) (W2.setRow w.heap.size R2.toArray) := fun ty dL dc sc hdL => by
  subst hdL
  have hmn : Nat.min (n - j) (n - j) = n - j := by show min _ _ = _; omega
  have := run_copy_rowN (P := Tryz.prog) W2 87 87 ty 109 3 w.heap.size ((i + m) * 3) (n - j) dc ⟨g, j * 3, none⟩ (n - j) sc R1.toArray 109 (X.drop (i * 3 + 3)) Tryz.underlying87 hsz hn2 (by rw [hdl, hmn])
   (fun k v hk => by
    rw [Addr.add_lit, cell_row hg2]
    rw [List.getElem?_drop, ← hX, List.getElem?_take] at hk
    split at hk
    ·rw [← hk, show j * 3 = i * 3 + 3 by omega]; simp
    ·cases hk) (by rw [hdl, List.size_toArray, hf3, Array.length_toList, hRs]; omega) (fun v hv => hx1 v (List.mem_of_mem_drop hv))
  rw [hmn, hdl, List.toList_toArray, show (i + m) * 3 = i * 3 + m * 3 by omega, ← hR2] at this
  rw [show (i + m) * 3 = i * 3 + m * 3 by omega]
  exact this
 have hfin : (W2.setRow w.heap.size R2.toArray).heap[w.heap.size]? = some (.cells R2.toArray 109 (0, 0)) := setRow_heap _ _ _ _ _ _ hn2
 have hbl : Below w.heap.size w (W2.setRow w.heap.size R2.toArray) := by
  have k1 : Below w.heap.size w W1 := by rw [hW1]; exact ((Below.refl _ w).alloc (Nat.le_refl _) _).drew.drew
  have k2 : Below w.heap.size w W2 := by
   rw [hW2]
   exact (k1.trans ((setRow_keep (N := w.heap.size) R1.toArray).below (Nat.le_refl _) (fun k hk => Nat.le_of_eq hk.symm))).drew
  exact k2.trans ((setRow_keep (N := w.heap.size) R2.toArray).below (Nat.le_refl _) (fun k hk => Nat.le_of_eq hk.symm))
 have HF := Lib.hid (And.intro hGn (And.intro hGm (And.intro hfin (And.intro (show R2.toArray.size = G * 3 by rw [List.size_toArray, hf2, Array.length_toList, hRs]) (And.intro (show R2.toArray.toList.take (T * 3) = X.take (i * 3) ++ Y ++ X.drop (j * 3) by rw [List.toList_toArray, show j * 3 = i * 3 + 3 by omega, ← hf1]; congr 1; omega) hbl)))))
 have mixed : Tryz.prog.follows .mixedOrders = true := by kernel_rfl
 have hz1 : ¬ ((i : Int) = (j : Int)) := by omega
 have hz2 : ¬ ((j : Int) = (n : Int)) := by omega
 have hz3 : (cap : Int) < (i : Int) + (m : Int) + ((n - j : Nat) : Int) := by omega
 have hw1 : IntKind.i64.wrap ((i : Int) + (m : Int)) = (i : Int) + (m : Int) := by rw [IntKind.wrap_i64]; omega
 have hw2 : IntKind.i64.wrap ((i : Int) + (m : Int) + ((n - j : Nat) : Int)) = (i : Int) + (m : Int) + ((n - j : Nat) : Int) := by rw [IntKind.wrap_i64]; omega
 have hw3 : IntKind.i64.wrap ((i : Int) + (m : Int) + ((n - j : Nat) : Int) - (i : Int)) = (i : Int) + (m : Int) + ((n - j : Nat) : Int) - (i : Int) := by rw [IntKind.wrap_i64]; omega
 have hb1 : (0 : Int) ≤ (i : Int) + (m : Int) := by omega
 have htn : ((i : Int) + (m : Int)).toNat = i + m := by omega
 have hb2 : ¬ (G = i + m) := by omega
 have hb4 : ¬ (G = i) := by omega
 have hb5 : (i : Int) ≤ (n : Int) := by omega
 have hb6 : ¬ (cap = j) := by omega
 have hb7 : (i : Int) ≤ (j : Int) := by omega
 have hb8 : (j : Int) ≤ (n : Int) := by omega
 have hb9 : (j : Int) ≤ (cap : Int) := by omega
 have hc3 : (i : Int) ≤ (cap : Int) := by omega
 have hc4 : ¬ (cap = i) := by omega
 have hG63 : G ≤ 9223372036854775807 := by unfold maxLen at hGm; omega
 have hc5 : (i : Int) ≤ (T : Int) := by omega
 have hc6 : (i : Int) + (m : Int) ≤ (T : Int) := by omega
 have hTn : T - (i + m) = n - j := by omega
 have hcA := hcpA 3 (T - i) (G - i) (by omega)
 have hcB : ∀ ty dL dc sc, dL = T - (i + m) → _ := fun ty dL dc sc h => hcpB ty dL dc sc (h.trans hTn)
 clear hR1 hR2 hf1 hf2 hf3 hX hY hXl hYl hdl hfin hbl hg1 hv1 hn1 hn2 hg2 hsz hg hv hcv hcur hold hkk hik hRs hRt hROW hi0 hz0 hzs hzb hG hGm hcpA hcpB hj hi hT
 subst hW2 hW1
 go_enter Tryz.func79, Tryz.ntmps79
 go_wp2
 go_region
 go_wp2_with (first
  | (at_builtin; refine Lib.wpList_append_run _ rfl _ _ _ _ rfl _ _ rfl rfl _ _ (hrz _) ?_)
  | (at_builtin; refine wpList_copy_runI _ rfl _ _ 87 87 rfl _ _ rfl rfl hcA ?_))
 go_region_law_o (refine step_copy_runI rfl _ _ 87 87 rfl _ _ (by simp [Act.eval, Act.put]) (by simp [Act.eval, Act.put]) (hcB _ _ _ _ rfl) ?_)
 go_wp2
 go_ret
 exact ⟨G, _, rfl, HF.out.1, HF.out.2.1, HF.out.2.2.1, HF.out.2.2.2.1, HF.out.2.2.2.2.1, HF.out.2.2.2.2.2⟩
end Go.Proofs.YtmedickofiielaaGreatDoor

namespace Go.Proofs.YtmedickofiielaaGreatDoor
open Go.RowKit Go.Shelf
attribute [local go_sem] Oper.semAt_some

theorem own_keepS {W W' : World} {S : Nat → Prop} {n₀ : Nat} {e : TypeId} {sz : Nat} {v : Value} {n : Nat} {xs : List Value} (h : W.ownsRow n₀ e sz v n xs) (k : Keep S W.heap.size W W') (hs : ∀ g, v.ownBlock = some g → ¬ S g) : W'.ownsRow n₀ e sz v n xs := by
 refine ⟨h.1, ?_⟩
 rcases h.2 with q | ⟨g, cap, cur, q1, q2, q3, q4⟩
 ·exact .inl q
 ·exact .inr ⟨g, cap, cur, q1, q2, (k.block g (box_lt q3) (hs g (by rw [q1]; rfl))).trans q3, q4⟩
theorem own_ne {W : World} {n₀ : Nat} {e : TypeId} {sz : Nat} {v : Value} {n : Nat} {xs : List Value} {B : Nat} {c : Array Value} {t : TypeId} {fr : Nat × Nat} (h : W.ownsRow n₀ e sz v n xs) (hB : W.heap[B]? = some (.cells c t fr)) (ht : t ≠ e) : v.ownBlock ≠ some B := fun q => by
 obtain ⟨_, cur, hc⟩ := own_typed h B q
 rw [hB] at hc
 cases hc
 exact ht rfl
set_option maxRecDepth 100000 in
set_option maxHeartbeats 8000000 in
theorem binsert_any (n₀ n₁ i gb o : Nat) (arr : Array Value) (v u : Value) (cs ms : List PCell) (w : World) (hgb : w.heap[gb]? = some (.cells arr 109 (0, 0))) (ha0 : arr[o]? = some (.int .i64 (liveN cs : Nat))) (ha1 : arr[o + 1]? = some (.int .i64 (goneN cs : Nat))) (ha2 : arr[o + 1 + 1]? = some v)
  (ho : w.ownsRow n₀ 48 5 v cs.length (cCells cs)) (hu : w.ownsRow n₁ 48 5 u ms.length (cCells ms)) (hap : ∀ g, v.ownBlock = some g → u.ownBlock = some g → False) (hi : i ≤ cs.length) (hnm : cs.length + ms.length ≤ 1000000) (hb : n₀ ≤ w.heap.size) :
  Calls Tryz.prog 78 #[.pointer (some ⟨gb, o, none⟩), .int .i64 (i : Int), u] w fun e w' => (∃ r, e = .returned r) ∧ ∃ v', w'.heap[gb]? = some (.cells (((arr.setIfInBounds (o + 1 + 1) v').setIfInBounds o (.int .i64 (liveN (cs.take i ++ ms ++ cs.drop i) : Nat))).setIfInBounds (o + 1) (.int .i64 (goneN (cs.take i ++ ms ++ cs.drop i) : Nat))) 109 (0, 0)) ∧
   w'.ownsRow n₀ 48 5 v' (cs.take i ++ ms ++ cs.drop i).length (cCells (cs.take i ++ ms ++ cs.drop i)) ∧ Keep (fun k => k = gb ∨ v.ownBlock = some k) w.heap.size w w' ∧ (∀ g, v'.ownBlock = some g → v.ownBlock = some g ∨ w.heap.size ≤ g) := by
 have HI := Lib.hid (insert_any n₀ n₁ i v u cs ms w ho hu hap hi hnm hb)
 have hne := own_ne ho hgb (by decide)
 have hnu := own_ne hu hgb (by decide)
 have hl1 := liveN_gone cs
 have hl2 := liveN_gone ms
 have hnl : liveN (cs.take i ++ ms ++ cs.drop i) = liveN cs + liveN ms := by
  have := liveN_append (cs.take i) (cs.drop i)
  rw [List.take_append_drop] at this
  rw [liveN_append, liveN_append]
  omega
 have hng : goneN (cs.take i ++ ms ++ cs.drop i) = goneN cs + goneN ms := by
  have := goneN_append (cs.take i) (cs.drop i)
  rw [List.take_append_drop] at this
  rw [goneN_append, goneN_append]
  omega
 rw [hnl, hng]
 obtain ⟨R, hR⟩ : ∃ R, cs.take i ++ ms ++ cs.drop i = R := ⟨_, rfl⟩
 rw [hR] at HI ⊢
 obtain ⟨L, hL⟩ : ∃ L, liveN cs = L := ⟨_, rfl⟩
 obtain ⟨G, hG⟩ : ∃ G, goneN cs = G := ⟨_, rfl⟩
 rw [hL] at ha0 hl1 ⊢
 rw [hG] at ha1 hl1 ⊢
 have hLG : L ≤ 1000000 ∧ G ≤ 1000000 := by omega
 have hmm : liveN ms ≤ 1000000 ∧ goneN ms ≤ 1000000 := by omega
 have z2 := (box_cell hgb (o + 1 + 1)).trans ha2
 have HW := Lib.hid (And.intro hgb (And.intro ha0 (And.intro ha1 (And.intro ho (And.intro hu (And.intro hap (And.intro hne hnu)))))))
 obtain ⟨ao, n, cap, rfl⟩ := slice_of ho
 obtain ⟨uo, un, uc, rfl⟩ := slice_of hu
 have hoo : o + 1 + 1 < arr.size := (Array.getElem?_eq_some_iff.1 ha2).1
 clear hgb ha0 ha1 ha2 ho hu hap hne hnu hl1 hl2 hnl hng hR hL hG
 go_enter Tryz.func78, Tryz.ntmps78
 go_wp2_with fail
 refine HI.out.mono ?_
 rintro e w2 ⟨v', rfl, ho2, hk2, hv2⟩
 obtain ⟨ao', n', cap', rfl⟩ := slice_of ho2
 obtain ⟨hgb, ha0, ha1, ho, hu, hap, hne, hnu⟩ := HW.out
 have g2 := (hk2.block gb (box_lt hgb) hne).trans hgb
 have u2 := own_keepS hu hk2 (fun g h1 h2 => hap g h2 h1)
 have y2 := box_cell g2 (o + 1 + 1)
 have f2 := box_frozen g2 (o + 1 + 1)
 have g3 := box_set g2 (o + 1 + 1) (.slice ao' n' cap')
 have o3 := own_far ho2 g2 (by decide) (o + 1 + 1) (.slice ao' n' cap')
 have u3 := own_far u2 g2 (by decide) (o + 1 + 1) (.slice ao' n' cap')
 have k3 : Keep (fun k => k = gb ∨ (Value.slice ao n cap).ownBlock = some k) w.heap.size w (w2.setCell ⟨gb, o + 1 + 1, none⟩ (.slice ao' n' cap')) := (hk2.weak (Nat.le_refl _) (fun k _ h => .inr h)).setCell (p := ⟨gb, o + 1 + 1, none⟩) (.inl (.inl rfl)) _
 have H3 := Lib.hid (And.intro g3 (And.intro o3 (And.intro u3 (And.intro k3 hv2))))
 have b0 : (arr.setIfInBounds (o + 1 + 1) (.slice ao' n' cap'))[o]? = some (.int .i64 (L : Int)) := by rw [Array.getElem?_setIfInBounds_ne (by omega)]; exact ha0
 have b1 : (arr.setIfInBounds (o + 1 + 1) (.slice ao' n' cap'))[o + 1]? = some (.int .i64 (G : Int)) := by rw [Array.getElem?_setIfInBounds_ne (by omega)]; exact ha1
 have HB := Lib.hid (And.intro b0 b1)
 have hsome : arr[o + 1 + 1]? = some arr[o + 1 + 1] := Array.getElem?_eq_getElem hoo
 rw [hsome] at y2
 clear hgb ha0 ha1 ho hu hap hne hnu g2 u2 g3 o3 u3 k3 hv2 b0 b1 ho2 hk2 z2 hsome
 go_wp2
 generalize w2.setCell ⟨gb, o + 1 + 1, none⟩ (.slice ao' n' cap') = w3 at H3 ⊢
 clear y2 f2
 have hcn := fun X (h : X.ownsRow n₁ 48 5 (.slice uo un uc) ms.length (cCells ms)) => counted_any (.slice uo un uc) ms X (CAt.of_own h rfl) (by omega)
 have HCN := Lib.hid hcn
 have hca := fun X (h : X.heap[gb]? = some (.cells (arr.setIfInBounds (o + 1 + 1) (.slice ao' n' cap')) 109 (0, 0))) => cadd_any gb o _ _ (L : Int) (G : Int) (liveN ms : Nat) (goneN ms : Nat) X h HB.out.1 HB.out.2 (by omega) (by omega) (by omega) (by omega)
 have HCA := Lib.hid hca
 clear hcn hca
 refine wp_region_held_drew (S := fun X => X.ownsRow n₁ 48 5 (.slice uo un uc) ms.length (cCells ms)) (by kernel_rfl) H3.out.2.2.1.drew (fun hHeld => ?_)
 refine tk0 (i := 0) rfl ?_
 try simp only [td]
 refine tk0 (i := 1) rfl ?_
 try simp only [td]
 refine tk0 (i := 2) rfl ?_
 try simp only [td]
 refine tk0 (i := 3) rfl ?_
 try simp only [td]
 refine rd 4 rfl fun K hK => ?_
 go_simp
 go_wp2_with (go_at_call 70; refine (HCN.out _ hHeld).mono ?_; rintro e wq ⟨rfl, hb1⟩)
 refine hK.out _ _ (own_up hHeld hb1) (fun hX => ?_)
 clear hK K hHeld
 have hHeld := hX
 clear hX
 refine rd 5 rfl fun K hK => ?_
 go_simp
 go_wp2_with (go_at_call 56; refine (HCA.out _ (row_up (W := w3.drew) H3.out.1 hb1)).mono ?_; rintro e w4 ⟨⟨_, rfl⟩, hg4, hk4⟩)
 refine hK.out _ _ (own_keepS hHeld hk4 (fun g h1 e => by subst e; exact own_ne H3.out.2.2.1 H3.out.1 (by decide) h1)) (fun hX => ?_)
 clear hK K hHeld
 have hHeld := hX
 clear hX
 refine wpAnyH_done (by kernel_rfl) ?_ _
 obtain ⟨g3, o3, u3, k3, hv3⟩ := H3.out
 have k4 : Keep (fun k => k = gb ∨ (Value.slice ao n cap).ownBlock = some k) w.heap.size w w4 := ((k3.trans (Keep.of_below (M := w3.heap.size) ((Below.refl _ w3).drew.trans hb1) (by exact k3.size))).trans ((hk4.weak (Nat.le_trans k3.size hb1.size) (fun k _ h => .inl h))))
 have o4 := own_keepS (own_up (W := w3.drew) o3.drew hb1) hk4 (fun g hg e => by subst e; exact own_ne o3 g3 (by decide) hg)
 have h4 := hg4
 rw [show (L : Int) + ((liveN ms : Nat) : Int) = ((L + liveN ms : Nat) : Int) by omega, show (G : Int) + ((goneN ms : Nat) : Int) = ((G + goneN ms : Nat) : Int) by omega] at h4
 have HE := Lib.hid (And.intro h4 (And.intro o4 (And.intro k4 hv3)))
 clear g3 o3 u3 k3 hv3 k4 o4 h4 hg4 hk4 hb1 hHeld
 go_wp2
 go_end0
 exact ⟨⟨_, rfl⟩, _, HE.out.1, HE.out.2.1, HE.out.2.2.1, HE.out.2.2.2⟩
end Go.Proofs.YtmedickofiielaaGreatDoor

namespace Go.Proofs.YtmedickofiielaaGreatDoor
open Go.RowKit Go.Shelf
attribute [local go_sem] Oper.semAt_some

def setG (cs : List PCell) (i : Nat) : List PCell := match cs[i]? with
 | some c => cs.take i ++ { c with gone := true } :: cs.drop (i + 1)
 | none => cs
theorem setG_split {cs : List PCell} {i : Nat} {c : PCell} (h : cs[i]? = some c) : cs = cs.take i ++ c :: cs.drop (i + 1) ∧ setG cs i = cs.take i ++ { c with gone := true } :: cs.drop (i + 1) := by
 obtain ⟨hl, e⟩ := List.getElem?_eq_some_iff.1 h
 refine ⟨?_, by unfold setG; rw [h]⟩
 conv => lhs; rw [← List.take_append_drop i cs, List.drop_eq_getElem_cons hl, e]
theorem setG_length (cs : List PCell) (i : Nat) : (setG cs i).length = cs.length := by
 cases h : cs[i]? with
 | none => unfold setG; rw [h]
 | some c =>
  obtain ⟨h1, h2⟩ := setG_split h
  rw [h2]
  conv => rhs; rw [h1]
  simp
theorem setG_same {cs : List PCell} {i : Nat} {c : PCell} (h : cs[i]? = some c) (hg : c.gone = true) : setG cs i = cs := by
 obtain ⟨h1, h2⟩ := setG_split h
 rw [h2]
 conv => rhs; rw [h1]
 obtain ⟨s, q, o, r, g⟩ := c
 dsimp only at hg
 subst hg
 rfl
theorem cCells_setG {cs : List PCell} {i : Nat} {c : PCell} (h : cs[i]? = some c) : (cCells cs).set (i * 5 + 4) (.bool true) = cCells (setG cs i) := by
 obtain ⟨h1, h2⟩ := setG_split h
 have hl := (List.getElem?_eq_some_iff.1 h).1
 rw [h2]
 conv => lhs; rw [h1]
 rw [cCells_append, cCells_append]
 have ht : (cCells (cs.take i)).length = i * 5 := by rw [cCells_length, List.length_take]; congr 1; omega
 rw [List.set_append_right _ _ (by omega), ht, show i * 5 + 4 - i * 5 = 4 by omega]
 rfl
theorem counts_setG {cs : List PCell} {i : Nat} {c : PCell} (h : cs[i]? = some c) (hg : c.gone = false) : liveN (setG cs i) + 1 = liveN cs ∧ goneN (setG cs i) = goneN cs + 1 := by
 obtain ⟨h1, h2⟩ := setG_split h
 rw [h2]
 constructor
 ·conv => rhs; rw [h1]
  unfold liveN
  rw [List.countP_append, List.countP_append, List.countP_cons, List.countP_cons]
  simp [hg]
  omega
 ·conv => rhs; rw [h1]
  unfold goneN
  rw [List.countP_append, List.countP_append, List.countP_cons, List.countP_cons]
  simp [hg]
  omega
def IntsKept (gb o : Nat) (w w' : World) : Prop := ∀ (b i : Nat) (x : Int), w.cell? ⟨b, i, none⟩ = some (.int .i64 x) → ¬ (b = gb ∧ (i = o ∨ i = o + 1)) → w'.cell? ⟨b, i, none⟩ = some (.int .i64 x)
theorem ints_kept {w w4 : World} {gb o g j : Nat} {arr : Array Value} {t : TypeId} {u0 u1 u : Value} {gn : Bool} (hgb : w.heap[gb]? = some (.cells arr t (0, 0))) (c4 : w.cell? ⟨g, j, none⟩ = some (.bool gn)) (hne : gb ≠ g) (h4 : w4.heap[gb]? = some (.cells ((arr.setIfInBounds o u0).setIfInBounds (o + 1) u1) t (0, 0)))
  (hk : Keep (fun k => k = gb) (w.setCell ⟨g, j, none⟩ u).heap.size (w.setCell ⟨g, j, none⟩ u) w4) : IntsKept gb o w w4 := by
 intro b i x hx hn
 by_cases hb : b = gb
 ·subst hb
  rw [box_cell hgb] at hx
  rw [box_cell h4, Array.getElem?_setIfInBounds_ne (by intro e; exact hn ⟨rfl, .inr e.symm⟩), Array.getElem?_setIfInBounds_ne (by intro e; exact hn ⟨rfl, .inl e.symm⟩)]
  exact hx
 ·have h1 : (w.setCell ⟨g, j, none⟩ u).cell? ⟨b, i, none⟩ = some (.int .i64 x) := by
   by_cases hg : b = g
   ·subst hg
    by_cases hj : i = j
    ·subst hj
     rw [c4] at hx
     cases hx
    ·have e9 : (w.setCell ⟨b, j, none⟩ u).cell? ⟨b, i, none⟩ = w.cell? ⟨b, i, none⟩ := by
      apply World.cell?_setCell_other
      intro e
      injection e with _ e
      exact hj e.symm
     rw [e9]
     exact hx
   ·rw [World.cell?_of_block (box_other hg j u)]
    exact hx
  exact ck hk hb h1
set_option maxRecDepth 100000 in
set_option maxHeartbeats 8000000 in
theorem bremove_any (n₀ i gb o : Nat) (arr : Array Value) (v : Value) (cs : List PCell) (c : PCell) (w : World) (hgb : w.heap[gb]? = some (.cells arr 109 (0, 0))) (ha0 : arr[o]? = some (.int .i64 (liveN cs : Nat))) (ha1 : arr[o + 1]? = some (.int .i64 (goneN cs : Nat))) (ha2 : arr[o + 1 + 1]? = some v)
  (ho : w.ownsRow n₀ 48 5 v cs.length (cCells cs)) (hc : cs[i]? = some c) (hn : cs.length ≤ 1000000) :
  Calls Tryz.prog 76 #[.pointer (some ⟨gb, o, none⟩), .int .i64 (i : Int)] w fun e w' => (∃ r, e = .returned r) ∧ w'.heap[gb]? = some (.cells ((arr.setIfInBounds o (.int .i64 (liveN (setG cs i) : Nat))).setIfInBounds (o + 1) (.int .i64 (goneN (setG cs i) : Nat))) 109 (0, 0)) ∧
   w'.ownsRow n₀ 48 5 v (setG cs i).length (cCells (setG cs i)) ∧ Keep (fun k => k = gb ∨ v.ownBlock = some k) w.heap.size w w' ∧ IntsKept gb o w w' := by
 have hne := own_ne ho hgb (by decide)
 have hl1 := liveN_gone cs
 have hil := (List.getElem?_eq_some_iff.1 hc).1
 rw [setG_length]
 obtain ⟨g, cap, cur, rfl, hg0, hg, hnc, hcm, hcur, hX⟩ : ∃ g cap cur, v = .slice (some ⟨g, 0, none⟩) cs.length cap ∧ n₀ ≤ g ∧ w.heap[g]? = some (.cells cur 48 (0, 0)) ∧ cs.length ≤ cap ∧ cap ≤ maxLen ∧ cur.size = cap * 5 ∧ cur.toList.take (cs.length * 5) = cCells cs := by
  rcases ho.2 with ⟨_, h0⟩ | ⟨g, cap, cur, q⟩
  ·omega
  ·exact ⟨g, cap, cur, q⟩
 have hat := (CAt.of_own ho rfl).at hc
 obtain ⟨b, off, cp, hvv, -, -, -, -, c4⟩ := hat
 cases hvv
 simp only [Nat.zero_add] at c4
 have z2 := (box_cell hgb (o + 1 + 1)).trans ha2
 have hi0 : (0 : Int) ≤ (i : Int) ∧ (i : Int) < (cs.length : Int) := ⟨by omega, by omega⟩
 obtain ⟨N, hN⟩ : ∃ N, cs.length = N := ⟨_, rfl⟩
 have f4 := ho.frozenAt (i * 5 + 4)
 have hst := ho.stored (i * 5 + 4) (.bool true)
 rw [cCells_setG hc] at hst
 have hgne : gb ≠ g := fun e => hne (by rw [e]; rfl)
 have g1 : (w.setCell ⟨g, i * 5 + 4, none⟩ (.bool true)).heap[gb]? = some (.cells arr 109 (0, 0)) := (box_other hgne _ _).trans hgb
 cases hgn : c.gone with
 | true =>
  have hs := setG_same hc hgn
  rw [hs]
  have hsame : (arr.setIfInBounds o (.int .i64 (liveN cs : Nat))).setIfInBounds (o + 1) (.int .i64 (goneN cs : Nat)) = arr := by
   rw [set_self ha0, set_self ha1]
  rw [hsame]
  have HF := Lib.hid (And.intro hgb (And.intro ho (Keep.refl (fun k => k = gb ∨ (Value.slice (some ⟨g, 0, none⟩) cs.length cap).ownBlock = some k) w.heap.size w)))
  rw [hgn] at c4
  rw [hN] at z2 hi0 HF ⊢
  clear hgb ha0 ha1 ha2 ho hc hne hl1 hil hg hnc hcm hcur hX hst g1 hs hsame hN hn hgn
  go_enter Tryz.func76, Tryz.ntmps76
  go_wp2
  go_end0
  exact ⟨⟨_, rfl⟩, HF.out.1, HF.out.2.1, HF.out.2.2, fun _ _ _ h _ => h⟩
 | false =>
  obtain ⟨hcl, hcg⟩ := counts_setG hc hgn
  have hca := cadd_any gb o arr _ (liveN cs : Nat) (goneN cs : Nat) (-1) 1 _ g1 ha0 ha1 (by omega) (by omega) (by omega) (by omega)
  have hk1 : Keep (fun k => k = gb ∨ (Value.slice (some ⟨g, 0, none⟩) cs.length cap).ownBlock = some k) w.heap.size w (w.setCell ⟨g, i * 5 + 4, none⟩ (.bool true)) := (Keep.refl _ _ w).setCell (p := ⟨g, i * 5 + 4, none⟩) (.inl (.inr rfl)) _
  have hne1 := own_ne hst.1 g1 (by decide)
  have HS := Lib.hid (And.intro hst.1 (And.intro hk1 hne1))
  have HCA := Lib.hid hca
  have HCT := Lib.hid (And.intro hcl hcg)
  have HIK := Lib.hid (And.intro hgb (And.intro c4 hgne))
  rw [hgn] at c4
  rw [hN] at z2 hi0 HS ⊢
  clear hgb ha0 ha1 ha2 ho hc hne hl1 hil hg hnc hcm hcur hX hst g1 hN hn hgn hcl hcg hca hk1 hne1
  go_enter Tryz.func76, Tryz.ntmps76
  go_wp2_with fail
  refine HCA.out.mono ?_
  rintro e w4 ⟨⟨_, rfl⟩, hg4, hk4⟩
  obtain ⟨o1, k1, ne1⟩ := HS.out
  rw [show ((liveN cs : Nat) : Int) + -1 = ((liveN (setG cs i) : Nat) : Int) by have := HCT.out.1; omega, show ((goneN cs : Nat) : Int) + 1 = ((goneN (setG cs i) : Nat) : Int) by have := HCT.out.2; omega] at hg4
  have hik := ints_kept HIK.out.1 HIK.out.2.1 HIK.out.2.2 hg4 hk4
  have HE := Lib.hid (And.intro hik (And.intro hg4 (And.intro (own_keepS o1 hk4 (fun q hq e => by subst e; exact ne1 hq)) (k1.trans (hk4.weak k1.size (fun q _ h => .inl h))))))
  clear hik hg4 hk4 o1 k1 ne1
  go_wp2
  go_end0
  exact ⟨⟨_, rfl⟩, HE.out.2.1, HE.out.2.2.1, HE.out.2.2.2, HE.out.1⟩
end Go.Proofs.YtmedickofiielaaGreatDoor

namespace Go.Proofs.YtmedickofiielaaGreatDoor
open Go.RowKit

def finK (n k : Nat) : List (Fin n) := (List.finRange n).take k
theorem finK_next (n k : Nat) (h : k < n) : finK n (k + 1) = finK n k ++ [⟨k, h⟩] := by
 unfold finK
 rw [List.take_add_one]
 congr 1
 simp [h]
theorem finK_length (n k : Nat) (h : k ≤ n) : (finK n k).length = k := by simp [finK, h]
theorem finK_pre (n k : Nat) : finK n k <+: List.finRange n := List.take_prefix _ _
theorem finK_all (n : Nat) : finK n n = List.finRange n := by unfold finK; rw [List.take_of_length_le (by simp)]
def spR (s : Sp) : List Nat := (List.range s.2.toNat).map fun j => s.1.toNat + j
def plc (xs : List Sp) : List Nat := xs.flatMap spR
theorem spR_length (s : Sp) : (spR s).length = s.2.toNat := by simp [spR]
theorem plc_append (a b : List Sp) : plc (a ++ b) = plc a ++ plc b := by simp [plc]
theorem plc_take {xs : List Sp} {i : Nat} {s : Sp} (h : xs[i]? = some s) : plc (xs.take (i + 1)) = plc (xs.take i) ++ spR s := by
 rw [List.take_add_one, h, plc_append]
 simp [plc]
theorem plc_split {xs : List Sp} {i : Nat} {s : Sp} (h : xs[i]? = some s) : plc xs = plc (xs.take i) ++ spR s ++ plc (xs.drop (i + 1)) := by
 conv => lhs; rw [← List.take_append_drop (i + 1) xs]
 rw [plc_append, plc_take h]
theorem plc_le {xs : List Sp} {i : Nat} {s : Sp} (h : xs[i]? = some s) : (plc (xs.take i)).length + s.2.toNat ≤ (plc xs).length := by
 rw [plc_split h]
 simp only [List.length_append, spR_length]
 omega
theorem plc_at {xs : List Sp} {i j : Nat} {s : Sp} (h : xs[i]? = some s) (hj : j < s.2.toNat) : (plc xs)[(plc (xs.take i)).length + j]? = some (s.1.toNat + j) := by
 rw [plc_split h, List.append_assoc, List.getElem?_append_right (by omega), Nat.add_sub_cancel_left, List.getElem?_append_left (by rw [spR_length]; exact hj)]
 unfold spR
 rw [List.getElem?_map, List.getElem?_range hj]
 rfl
theorem plc_mem {xs : List Sp} (h : ∀ s ∈ xs, 0 ≤ s.1) (i : Nat) : i ∈ plc xs ↔ sMark xs i = true := by
 rw [sMark_iff]
 unfold plc spR
 simp only [List.mem_flatMap, List.mem_map, List.mem_range]
 constructor
 ·rintro ⟨s, hs, j, hj, rfl⟩
  have := h s hs
  exact ⟨s, hs, by omega, by omega⟩
 ·rintro ⟨s, hs, h1, h2⟩
  have := h s hs
  exact ⟨s, hs, i - s.1.toNat, by omega, by omega⟩
def locB : List PB → Nat → Nat × Nat
 | [], p => (0, p)
 | b :: r, p => if p < b.cs.length then (0, p) else ((locB r (p - b.cs.length)).1 + 1, (locB r (p - b.cs.length)).2)
theorem locB_at : ∀ {bs : List PB} {k p : Nat} {x : PB}, bs[k]? = some x → (catB (bs.take k)).length ≤ p → p < (catB (bs.take k)).length + x.cs.length → locB bs p = (k, p - (catB (bs.take k)).length)
 | [], k, p, x, h, _, _ => by simp at h
 | b :: r, 0, p, x, h, h1, h2 => by
  obtain rfl : b = x := by simpa using h
  have h0 : (catB ((b :: r).take 0)).length = 0 := rfl
  rw [h0] at h2 ⊢
  unfold locB
  rw [if_pos (by omega)]
  rfl
 | b :: r, k + 1, p, x, h, h1, h2 => by
  have e : (catB ((b :: r).take (k + 1))).length = b.cs.length + (catB (r.take k)).length := by
   rw [List.take_succ_cons]
   show (b.cs ++ catB (r.take k)).length = _
   rw [List.length_append]
  rw [e] at h1 h2 ⊢
  have q := locB_at (bs := r) (k := k) (p := p - b.cs.length) (x := x) (by simpa using h) (by omega) (by omega)
  unfold locB
  rw [if_neg (by omega), q, Nat.sub_sub]
theorem locB_ex : ∀ (bs : List PB) (p : Nat), p < (catB bs).length → ∃ k x, bs[k]? = some x ∧ (catB (bs.take k)).length ≤ p ∧ p < (catB (bs.take k)).length + x.cs.length
 | [], p, h => absurd h (Nat.not_lt_zero p)
 | b :: r, p, h => by
  by_cases hp : p < b.cs.length
  ·exact ⟨0, b, rfl, Nat.zero_le _, by show p < 0 + _; omega⟩
  ·have h' : p < (b.cs ++ catB r).length := h
   rw [List.length_append] at h'
   obtain ⟨k, x, h1, h2, h3⟩ := locB_ex r (p - b.cs.length) (by omega)
   have e : (catB ((b :: r).take (k + 1))).length = b.cs.length + (catB (r.take k)).length := by
    rw [List.take_succ_cons]
    show (b.cs ++ catB (r.take k)).length = _
    rw [List.length_append]
   exact ⟨k + 1, x, by simpa using h1, by rw [e]; omega, by rw [e]; omega⟩
theorem setG_at (cs : List PCell) (i j : Nat) : (setG cs i)[j]? = (cs[j]?).map fun c => if j = i then { c with gone := true } else c := by
 cases h : cs[i]? with
 | none =>
  unfold setG
  rw [h]
  dsimp only
  cases hj : cs[j]? with
  | none => rfl
  | some c => rw [Option.map_some, if_neg (fun e => by subst e; rw [hj] at h; cases h)]
 | some c =>
  obtain ⟨h1, h2⟩ := setG_split h
  have hl := (List.getElem?_eq_some_iff.1 h).1
  rw [h2]
  have ht : (cs.take i).length = i := by rw [List.length_take]; omega
  rcases Nat.lt_trichotomy j i with g | g | g
  ·rw [List.getElem?_append_left (by omega), List.getElem?_take_of_lt g]
   cases hj : cs[j]? with
   | none => rfl
   | some d => rw [Option.map_some, if_neg (by omega)]
  ·subst g
   rw [List.getElem?_append_right (by omega), ht, Nat.sub_self, h]
   simp
  ·rw [List.getElem?_append_right (by omega), ht, show j - i = (j - i - 1) + 1 by omega, List.getElem?_cons_succ, List.getElem?_drop, show i + 1 + (j - i - 1) = j by omega]
   cases hj : cs[j]? with
   | none => rfl
   | some d => rw [Option.map_some, if_neg (by omega)]
theorem setG_goneC (l : List PCell) (f : Nat → Bool) (p : Nat) : setG (goneC l f) p = goneC l fun i => f i || decide (i = p) := by
 refine List.ext_getElem? fun j => ?_
 rw [setG_at, goneC_at, goneC_at, Option.map_map]
 cases l[j]? with
 | none => rfl
 | some c =>
  simp only [Option.map_some, Function.comp]
  by_cases e : j = p
  ·rw [if_pos e, decide_eq_true e, Bool.or_true, Bool.or_true]
  ·rw [if_neg e, decide_eq_false e, Bool.or_false]
theorem goneC_congr {l : List PCell} {f g : Nat → Bool} (h : ∀ i, f i = g i) : goneC l f = goneC l g := by
 rw [show f = g from funext h]
theorem goneC_no0 (l : List PCell) : goneC l (fun _ => false) = l := by
 refine List.ext_getElem? fun j => ?_
 rw [goneC_at]
 cases l[j]? with
 | none => rfl
 | some c => simp
theorem catB_setG {bs : List PB} {k at' : Nat} {x : PB} (v : Value) (h : bs[k]? = some x) (ha : at' < x.cs.length) : catB (bs.set k ⟨setG x.cs at', v⟩) = setG (catB bs) ((catB (bs.take k)).length + at') := by
 obtain ⟨hkl, hke⟩ := List.getElem?_eq_some_iff.1 h
 have h1 : (bs.set k ⟨setG x.cs at', v⟩)[k]? = some ⟨setG x.cs at', v⟩ := by rw [List.getElem?_set]; simp [hkl]
 have e1 : (bs.set k ⟨setG x.cs at', v⟩).take k = bs.take k := by
  rw [List.take_set]
  exact List.set_eq_of_length_le (by rw [List.length_take]; omega)
 have e2 : (bs.set k ⟨setG x.cs at', v⟩).drop (k + 1) = bs.drop (k + 1) := by
  rw [List.drop_set]
  rw [if_pos (by omega)]
 rw [catB_split h1, e1, e2]
 show catB (bs.take k) ++ setG x.cs at' ++ catB (bs.drop (k + 1)) = _
 refine List.ext_getElem? fun j => ?_
 rw [setG_at, catB_split h]
 have hl := setG_length x.cs at'
 by_cases h1 : j < (catB (bs.take k)).length
 ·rw [List.append_assoc, List.append_assoc, List.getElem?_append_left h1, List.getElem?_append_left h1]
  cases (catB (bs.take k))[j]? with
  | none => rfl
  | some c => rw [Option.map_some, if_neg (by omega)]
 ·by_cases h2 : j < (catB (bs.take k)).length + x.cs.length
  ·have q1 : (catB (bs.take k) ++ setG x.cs at' ++ catB (bs.drop (k + 1)))[j]? = (setG x.cs at')[j - (catB (bs.take k)).length]? := by
    rw [List.getElem?_append_left (by rw [List.length_append]; omega), List.getElem?_append_right (by omega)]
   have q2 : (catB (bs.take k) ++ x.cs ++ catB (bs.drop (k + 1)))[j]? = x.cs[j - (catB (bs.take k)).length]? := by
    rw [List.getElem?_append_left (by rw [List.length_append]; omega), List.getElem?_append_right (by omega)]
   rw [q1, q2, setG_at]
   cases x.cs[j - (catB (bs.take k)).length]? with
   | none => rfl
   | some c =>
    simp only [Option.map_some]
    by_cases e : j = (catB (bs.take k)).length + at'
    ·rw [if_pos e, if_pos (by omega)]
    ·rw [if_neg e, if_neg (by omega)]
  ·have q1 : (catB (bs.take k) ++ setG x.cs at' ++ catB (bs.drop (k + 1)))[j]? = (catB (bs.drop (k + 1)))[j - ((catB (bs.take k)).length + x.cs.length)]? := by
    rw [List.getElem?_append_right (by rw [List.length_append]; omega), List.length_append, hl]
   have q2 : (catB (bs.take k) ++ x.cs ++ catB (bs.drop (k + 1)))[j]? = (catB (bs.drop (k + 1)))[j - ((catB (bs.take k)).length + x.cs.length)]? := by
    rw [List.getElem?_append_right (by rw [List.length_append]; omega), List.length_append]
   rw [q1, q2]
   cases (catB (bs.drop (k + 1)))[j - ((catB (bs.take k)).length + x.cs.length)]? with
   | none => rfl
   | some c => rw [Option.map_some, if_neg (by omega)]
def inP (xs : List Sp) (pre : List (Fin (plc xs).length)) (i : Nat) : Bool := pre.any fun x => decide (i = (plc xs)[x])
theorem inP_snoc (xs : List Sp) (pre : List (Fin (plc xs).length)) (x : Fin (plc xs).length) (i : Nat) : inP xs (pre ++ [x]) i = (inP xs pre i || decide (i = (plc xs)[x])) := by simp [inP]
theorem inP_all {xs : List Sp} (h : ∀ s ∈ xs, 0 ≤ s.1) (i : Nat) : inP xs (List.finRange (plc xs).length) i = sMark xs i := by
 rw [Bool.eq_iff_iff, ← plc_mem h]
 unfold inP
 rw [List.any_eq_true]
 constructor
 ·rintro ⟨x, -, hx⟩
  rw [of_decide_eq_true hx]
  exact List.getElem_mem _
 ·intro hi
  obtain ⟨k, hk, e⟩ := List.mem_iff_getElem.1 hi
  exact ⟨⟨k, hk⟩, List.mem_finRange _, decide_eq_true e.symm⟩
end Go.Proofs.YtmedickofiielaaGreatDoor

namespace Go.Proofs.YtmedickofiielaaGreatDoor
open Go.RowKit Go.Shelf
attribute [local go_sem] Oper.semAt_some

theorem kCells_take (l : List PB) (k : Nat) (hk : k ≤ l.length) : (kCells l).take (k * 3) = kCells (l.take k) := by
 have h : kCells l = kCells (l.take k) ++ kCells (l.drop k) := by rw [← kCells_append, List.take_append_drop]
 have hl : (kCells (l.take k)).length = k * 3 := by rw [kCells_length, List.length_take, Nat.min_eq_left hk]
 rw [h, List.take_append_of_le_length (by omega), List.take_of_length_le (by omega)]
theorem kCells_drop (l : List PB) (k : Nat) (hk : k ≤ l.length) : (kCells l).drop (k * 3) = kCells (l.drop k) := by
 have h : kCells l = kCells (l.take k) ++ kCells (l.drop k) := by rw [← kCells_append, List.take_append_drop]
 have hl : (kCells (l.take k)).length = k * 3 := by rw [kCells_length, List.length_take, Nat.min_eq_left hk]
 rw [h, List.drop_append_of_le_length (by omega), List.drop_of_length_le (by omega), List.nil_append]
theorem kCells_ones : ∀ (l : List PB), (∀ x ∈ l, x.v.oneCell' = true) → ∀ u ∈ kCells l, u.oneCell' = true
 | [], _, u, hu => by cases hu
 | x :: r, h, u, hu => by
  rcases List.mem_append.1 (show u ∈ kV x ++ kCells r from hu) with g | g
  ·unfold kV at g
   rcases List.mem_cons.1 g with e | g
   ·rw [e]; rfl
   ·rcases List.mem_cons.1 g with e | g
    ·rw [e]; rfl
    ·rw [List.mem_singleton.1 g]; exact h x (List.mem_cons_self ..)
  ·exact kCells_ones r (fun y hy => h y (List.mem_cons_of_mem _ hy)) u g
set_option maxRecDepth 100000 in
set_option maxHeartbeats 4000000 in
theorem replace_end (g cap n i : Nat) (xs ys : List Value) (n₀ vb m vc : Nat) (w : World) (ho : w.ownsRow n₀ 109 3 (.slice (some ⟨g, 0, none⟩) i cap) i xs) (hys : ys.length = m * 3) (hsrc : ∀ j u, ys[j]? = some u → w.cell? ((⟨vb, 0, none⟩ : Addr).add j) = some u) (hy1 : ∀ u ∈ ys, u.oneCell' = true) (hj : n = i + 1) (hm : 2 ≤ m) (hnm : n + m ≤ 1000000) (hnc : n ≤ cap) (hb : n₀ ≤ w.heap.size) :
  Calls Tryz.prog 79 #[.slice (some ⟨g, 0, none⟩) n cap, .int .i64 (i : Int), .int .i64 (n : Int), .slice (some ⟨vb, 0, none⟩) m vc] w fun e w' => ∃ v', e = .returned v' ∧ w'.ownsRow n₀ 109 3 v' (i + m) (xs ++ ys) ∧ w.grownBy w' (some g) ∧ (v'.ownBlock = some g ∨ v'.ownBlock = some w.heap.size) := by
 obtain ⟨i0, hi, hz, hs, hy⟩ := infoBlkI
 obtain ⟨v', w', hrun, h1, h2, -, h4⟩ := run_append_own_at (P := Tryz.prog) (w := w) n₀ 87 87 109 i0 _ 3 40 Tryz.underlying87 hi hz hs hy rfl (by decide) _ i xs ho ⟨vb, 0, none⟩ m vc ys hys hsrc hy1 (by unfold maxLen; omega) (by omega) hb
 obtain ⟨g', cap', rfl, -, -⟩ := ownsRow_form h1 (by omega)
 have HF := Lib.hid (And.intro h1 (And.intro h2 h4))
 have hz1 : ¬ ((i : Int) = (n : Int)) := by omega
 have hz2 : ¬ ((i + m : Nat) : Int) < (n : Int) := by omega
 have hb1 : (i : Int) ≤ (n : Int) := by omega
 have hb6 : (n : Int) ≤ (cap : Int) := by omega
 have hb7 : (i : Int) ≤ (cap : Int) := by omega
 have hb8 : ¬ (cap = i) := by omega
 clear hi hz hs hy hys hsrc hy1 h1 h2 h4 ho hj
 go_enter Tryz.func79, Tryz.ntmps79
 go_wp2_with (at_builtin; refine Lib.wpList_append_run _ rfl _ _ _ _ rfl _ _ rfl rfl _ _ hrun ?_)
 go_ret
 exact ⟨_, rfl, HF.out.1, HF.out.2.1, HF.out.2.2⟩
theorem replace_any (n₀ n₁ k : Nat) (v u : Value) (bs ms : List PB) (w : World) (ho : w.ownsRow n₀ 109 3 v bs.length (kCells bs)) (hu : w.ownsRow n₁ 109 3 u ms.length (kCells ms)) (hap : ∀ g, v.ownBlock = some g → u.ownBlock = some g → False) (hx : ∀ x ∈ bs, x.v.oneCell' = true) (hy : ∀ x ∈ ms, x.v.oneCell' = true) (hk : k < bs.length) (hm : 2 ≤ ms.length) (hnm : bs.length + ms.length ≤ 1000000) (hb : n₀ ≤ w.heap.size) :
  Calls Tryz.prog 79 #[v, .int .i64 (k : Int), .int .i64 ((k + 1 : Nat) : Int), u] w fun e w' => ∃ v', e = .returned v' ∧ w'.ownsRow n₀ 109 3 v' (bs.take k ++ ms ++ bs.drop (k + 1)).length (kCells (bs.take k ++ ms ++ bs.drop (k + 1))) ∧ Keep (fun j => v.ownBlock = some j) w.heap.size w w' ∧ (∀ g, v'.ownBlock = some g → v.ownBlock = some g ∨ w.heap.size ≤ g) := by
 have hlen : (bs.take k ++ ms ++ bs.drop (k + 1)).length = k + ms.length + (bs.length - (k + 1)) := by simp; omega
 have hcl : kCells (bs.take k ++ ms ++ bs.drop (k + 1)) = (kCells bs).take (k * 3) ++ kCells ms ++ (kCells bs).drop ((k + 1) * 3) := by
  rw [kCells_append, kCells_append, ← kCells_take _ _ (Nat.le_of_lt hk), ← kCells_drop _ _ hk]
 have hsz := kCells_length (bs.take k ++ ms ++ bs.drop (k + 1))
 rw [hlen] at hsz ⊢
 rw [hcl] at hsz ⊢
 rcases ho.2 with ⟨_, h0⟩ | ⟨g, cap, cur, rfl, hg0, hg, hnc, hcm, hcur, hX⟩
 ·omega
 rcases hu.2 with ⟨_, h0⟩ | ⟨vb, vc, cv, rfl, -, hv, hmv, -, hcv, hY⟩
 ·omega
 have hne : g ≠ vb := fun e => hap g rfl (by rw [e]; rfl)
 have hc63 : cap ≤ 9223372036854775807 := by unfold maxLen at hcm; omega
 rcases Nat.lt_or_ge (k + 1) bs.length with hlt | hge
 ·rcases Nat.lt_or_ge cap (k + ms.length + (bs.length - (k + 1))) with hgr | hsh
  ·refine (replace_grow g cap bs.length k (k + 1) vb ms.length vc _ cur cv _ _ w hg hcur hX hv hY (by rw [hcv]; exact Nat.mul_le_mul_right 3 hmv) (kCells_ones bs hx) (kCells_ones ms hy) rfl hlt hm rfl hgr hnm hnc hc63).mono ?_
   rintro e w' ⟨G, cur', rfl, h1, h2, h3, h4, h5, h6⟩
   refine ⟨_, rfl, ⟨hsz, .inr ⟨w.heap.size, G, cur', rfl, hb, h3, h1, h2, h4, h5⟩⟩, Keep.of_below h6 (Nat.le_refl _), fun q hq => .inr ?_⟩
   simp [Value.ownBlock] at hq
   omega
  ·refine (replace_shift g cap bs.length k (k + 1) vb ms.length vc cur cv _ _ w hg hcur hX hv hY (by rw [hcv]; exact Nat.mul_le_mul_right 3 hmv) (by rw [hcv]; omega) hne (kCells_ones bs hx) (kCells_ones ms hy) rfl hlt hm hsh hc63 hnm hnc).mono ?_
   rintro e w' ⟨rfl, cur', h1, h2, h3, h4⟩
   exact ⟨_, rfl, ⟨hsz, .inr ⟨g, cap, cur', rfl, hg0, h1, hsh, hcm, h2, h3⟩⟩, h4.weak (Nat.le_refl _) (fun q _ hq => by rw [hq]; rfl), fun q hq => .inl hq⟩
 ·have hbk : bs.length = k + 1 := by omega
  have hok : w.ownsRow n₀ 109 3 (.slice (some ⟨g, 0, none⟩) k cap) k ((kCells bs).take (k * 3)) := ⟨by rw [List.length_take, kCells_length]; omega, .inr ⟨g, cap, cur, rfl, hg0, hg, by omega, hcm, hcur, by rw [← hX, List.take_take]; congr 1; omega⟩⟩
  have hsrc : ∀ j u, (kCells ms)[j]? = some u → w.cell? ((⟨vb, 0, none⟩ : Addr).add j) = some u := hu.cells rfl
  have hr := replace_end g cap bs.length k _ _ n₀ vb ms.length vc w hok (kCells_length ms) hsrc (kCells_ones ms hy) hbk hm hnm hnc hb
  rw [hbk] at hr ⊢
  refine hr.mono ?_
  rintro e w' ⟨v', rfl, h1, h2, h3⟩
  refine ⟨v', rfl, ?_, (Keep.refl _ _ w).grown h2 (Nat.le_refl _) (fun q hq => .inl (by cases hq; rfl)), fun q hq => ?_⟩
  ·rw [List.drop_of_length_le (by rw [kCells_length, hbk]; exact Nat.le_refl _), List.append_nil, Nat.sub_self, Nat.add_zero]
   exact h1
  ·rcases h3 with h | h
   ·rw [h] at hq
    cases hq
    exact .inl rfl
   ·rw [h] at hq
    cases hq
    exact .inr (Nat.le_refl _)
end Go.Proofs.YtmedickofiielaaGreatDoor

namespace Go.Proofs.YtmedickofiielaaGreatDoor
open Go.RowKit Go.Shelf
attribute [local go_sem] Oper.semAt_some

structure SzOK (W : World) (B g : Nat) (bv nm : Value) (bs : List PB) : Prop where
 box : W.heap[B]? = some (.cells #[bv, nm] 90 (0, 0))
 size : ∀ (k : Nat) (x : PB), bs[k]? = some x → ∃ cap a b : Nat, bv = .slice (some ⟨g, 0, none⟩) bs.length cap ∧ a + b = x.cs.length ∧ W.cell? ⟨g, k * 3, none⟩ = some (.int .i64 (a : Int)) ∧ W.cell? ⟨g, k * 3 + 1, none⟩ = some (.int .i64 (b : Int))
theorem SzOK.below {W W' : World} {B g : Nat} {bv nm : Value} {bs : List PB} (h : SzOK W B g bv nm bs) (hb : Below W.heap.size W W') : SzOK W' B g bv nm bs :=
 ⟨row_up h.box hb, fun k x hx => by obtain ⟨cp, a, b, hv, e, c0, c1⟩ := h.size k x hx; exact ⟨cp, a, b, hv, e, cell_stays hb c0, cell_stays hb c1⟩⟩
def RowZ (t : TypeId) : Prop := t = 48 ∨ t = 109
structure KZ (B g : Nat) (bv nm sp : Value) (bs : List PB) (xs : List Sp) (m₁ : Nat) (W W' : World) : Prop where
 z : SzOK W B g bv nm bs → SzOK W' B g bv nm bs
 s : 2 ≤ xs.length → SpAt W sp xs → SpAt W' sp xs
 b : ∀ (i : Nat) (c : Array Value) (t : TypeId) (fr : Nat × Nat), m₁ ≤ i → ¬ RowZ t → W.heap[i]? = some (.cells c t fr) → W'.heap[i]? = some (.cells c t fr)
structure SpI {n : Nat} (J : List (Fin n) → World → Prop) (Bd B g : Nat) (bv nm sp : Value) (bs : List PB) (xs : List Sp) (c i : Nat) (W : World) : Prop where
 j : J (finK n c) W
 z : SzOK W B g bv nm bs
 s : i = 0 ∨ 2 ≤ xs.length → SpAt W sp xs
 d : W.heap[Bd]? = some (.cells #[.pointer (some ⟨B, 0, none⟩)] 27 (0, 0))
theorem SpI.below {n : Nat} {J : List (Fin n) → World → Prop} {Bd B g : Nat} {bv nm sp : Value} {bs : List PB} {xs : List Sp} {c i Z : Nat} {W W' : World} (h : SpI J Bd B g bv nm sp bs xs c i W) (hJ : AbidesFrom Z J) (hb : Below W.heap.size W W') : SpI J Bd B g bv nm sp bs xs c i W' :=
 ⟨hJ _ W W' none h.j ⟨hb.os, hb.tape, hb.output, hb.size, fun i hi _ => hb.block i hi⟩ (fun r e => by cases e), h.z.below hb, fun q => (h.s q).below hb, row_up h.d hb⟩
def FK (bs : List PB) (k : Nat) : Nat := (catB (bs.take k)).length
theorem FK_next {bs : List PB} {k : Nat} {x : PB} (h : bs[k]? = some x) : FK bs (k + 1) = FK bs k + x.cs.length := by
 unfold FK
 rw [catB_take h, List.length_append]
theorem FK_all {bs : List PB} {k : Nat} (h : bs.length ≤ k) : FK bs k = (catB bs).length := by
 unfold FK
 rw [List.take_of_length_le h]
theorem FK_some {bs : List PB} {k p : Nat} (h : FK bs k ≤ p) (hp : p < (catB bs).length) : ∃ x, bs[k]? = some x := by
 rcases Nat.lt_or_ge k bs.length with g | g
 ·exact ⟨_, List.getElem?_eq_getElem g⟩
 ·rw [FK_all g] at h
  omega
theorem low_next {xs : List Sp} {i F : Nat} {s : Sp} (hp : xs.Pairwise fun a b => a.1 + a.2 < b.1) (hs : xs[i]? = some s) (hF : (F : Int) ≤ s.1 + s.2) : ∀ t ∈ xs.drop (i + 1), (F : Int) ≤ t.1 := fun t ht => by
 obtain ⟨hl, e⟩ := List.getElem?_eq_some_iff.1 hs
 obtain ⟨j, hj, rfl⟩ := List.mem_iff_getElem.1 ht
 rw [List.getElem_drop]
 rw [List.length_drop] at hj
 have := List.pairwise_iff_getElem.1 hp i (i + 1 + j) hl (by omega) (by omega)
 rw [e] at this
 omega
theorem getD_of {xs : List Sp} {i : Nat} {s : Sp} (h : xs[i]? = some s) : xs.getD i (0, 0) = s := by rw [List.getD_eq_getElem?_getD, h]; rfl
def encS (g : Nat) (bs : List PB) (xs : List Sp) (x : Fin (plc xs).length) : Array Value := #[.pointer (some ⟨g, (locB bs (plc xs)[x]).1 * 3, none⟩), .int .i64 ((locB bs (plc xs)[x]).2 : Nat)]
theorem encS_at {g : Nat} {bs : List PB} {xs : List Sp} {i k P : Nat} {s : Sp} {x : PB} (hs : xs[i]? = some s) (h0 : 0 ≤ s.1) (h1 : s.1 ≤ (P : Int)) (h2 : (P : Int) < s.1 + s.2) (hx : bs[k]? = some x) (h3 : FK bs k ≤ P) (h4 : P < FK bs k + x.cs.length) :
  ∃ hc : (plc (xs.take i)).length + (P - s.1.toNat) < (plc xs).length, encS g bs xs ⟨_, hc⟩ = #[.pointer (some ⟨g, k * 3, none⟩), .int .i64 ((P - FK bs k : Nat) : Int)] := by
 have hl := plc_le hs
 have ha := plc_at hs (j := P - s.1.toNat) (by omega)
 refine ⟨by omega, ?_⟩
 unfold encS
 have e : (plc xs)[(plc (xs.take i)).length + (P - s.1.toNat)]'(by omega) = P := by
  have := (List.getElem?_eq_some_iff.1 ha).2
  rw [this]
  omega
 show #[Value.pointer (some ⟨g, (locB bs ((plc xs)[(plc (xs.take i)).length + (P - s.1.toNat)]'(by omega))).1 * 3, none⟩), .int .i64 ((locB bs ((plc xs)[(plc (xs.take i)).length + (P - s.1.toNat)]'(by omega))).2 : Nat)] = _
 rw [e, locB_at hx h3 h4]
 rfl

set_option maxRecDepth 100000 in
set_option maxHeartbeats 8000000 in
theorem spots1_in (n : Nat) (hn : 1 ≤ n) (l Bd Bl m₁ B g : Nat) (bv nm sp : Value) (bs : List PB) (xs : List Sp) (hg : ∀ s ∈ xs, 0 ≤ s.1 ∧ 0 ≤ s.2 ∧ s.1 + s.2 ≤ (catB bs).length) (hp : xs.Pairwise fun a b => a.1 + a.2 < b.1) (hroom : (catB bs).length ≤ 100000) (hxl : xs.length ≤ 1000000) (hNl : bs.length ≤ 1000000)
  (J Jx : List (Fin (plc xs).length) → World → Prop)
  (hY : ∀ pre x W, J pre W → pre.length < (plc xs).length → pre = finK (plc xs).length x.val → YieldAt Fence.wide (n - 1) Tryz.prog l (encS g bs xs x) W fun e W' =>
   (e = .returned (.bool true) ∧ J (pre ++ [x]) W' ∧ KZ B g bv nm sp bs xs m₁ W W') ∨ (e = .returned (.bool false) ∧ Jx (pre ++ [x]) W'))
  (W : World) (hZ : SzOK W B g bv nm bs) (hSp : SpAt W sp xs) (hJ : AbidesFrom W.heap.size J) (hBd : W.heap[Bd]? = some (.cells #[.pointer (some ⟨B, 0, none⟩)] 27 (0, 0))) (hBl : W.heap[Bl]? = some (.cells #[sp] 37 (0, 0))) (hm : m₁ ≤ Bd) (h0 : J [] W) (hmW : m₁ ≤ W.heap.size) :
  CallsIn Fence.wide n Tryz.prog 92 #[.func (.yield l) #[] #[], .pointer (some ⟨Bl, 0, none⟩), .pointer (some ⟨Bd, 0, none⟩)] W fun e W' => (∃ v, e = .returned v) ∧
   ((∃ ys, ys = List.finRange (plc xs).length ∧ J ys W') ∨ (∃ pre, pre <+: List.finRange (plc xs).length ∧ Jx pre W')) := by
 have hS := fun a b W (h1 : -1000000000000000 ≤ a ∧ a ≤ 1000000000000000) (h2 : -1000000000000000 ≤ b ∧ b ≤ 1000000000000000) => csize_any a b W h1 h2
 obtain ⟨M, hM⟩ : ∃ M, xs.length = M := ⟨_, rfl⟩
 obtain ⟨N, hN⟩ : ∃ N, bs.length = N := ⟨_, rfl⟩
 obtain ⟨sa, sc, hsv⟩ : ∃ sa sc, sp = .slice sa M sc := by obtain ⟨a, c, h, _⟩ := hSp; exact ⟨a, c, by rw [← hM]; exact h⟩
 have d0 := box_cell hBl 0
 rw [hsv] at d0
 have HI : RowKit.Hid (SpI J Bd B g bv nm sp bs xs (plc (xs.take 0)).length 0 W) := Lib.hid ⟨h0, hZ, fun _ => hSp, hBd⟩
 have HS := Lib.hid hS
 have HM := Lib.hid hM
 have HN := Lib.hid hN
 have HG := Lib.hid (And.intro hg (And.intro hp hroom))
 have HJ := Lib.hid hJ
 have HY := Lib.hid hY
 have HSV := Lib.hid hsv
 rw [hM] at hxl
 rw [hN] at hNl
 clear hS hM hN hg hp hroom hJ hY hZ hSp hBd hBl h0 hsv
 refine callsIn_of_wp Tryz.func92 rfl trivial ?_ rfl
 simp only [Tryz.ntmps92, List.size_toArray, List.length_cons, List.length_nil, Nat.reduceAdd, Nat.reduceSub, Array.replicate_succ, Array.replicate_zero, List.push_toArray, List.append_toArray, List.nil_append, List.cons_append]
 gi_wp2
 clear d0
 gi_loopw [4, 5, 11] (fun kv fr ix wr => ∃ i kk F : Nat, ix = .int .i64 i ∧ kv = .int .i64 kk ∧ fr = .int .i64 F ∧ i ≤ M ∧ W.heap.size ≤ wr.heap.size ∧ RowKit.Hid (FK bs kk = F ∧ (∀ s ∈ xs.drop i, (F : Int) ≤ s.1) ∧ SpI J Bd B g bv nm sp bs xs (plc (xs.take i)).length i wr)) (fun _ _ ix _ => M - (intOf ix).toNat)
 case atStart => exact ⟨0, 0, 0, rfl, rfl, rfl, Nat.zero_le _, Nat.le_refl _, Lib.hid ⟨rfl, fun s hs => (HG.out.1 s (by simpa using hs)).1, HI.out⟩⟩
 case round =>
  obtain ⟨i, kk, F, rfl, rfl, rfl, hi, hWr, hI⟩ := hrel
  rcases Nat.lt_or_ge i M with hlt | hge
  ·have hxi : i < xs.length := by rw [HM.out]; exact hlt
   obtain ⟨s, hs⟩ : ∃ s, xs[i]? = some s := ⟨_, List.getElem?_eq_getElem hxi⟩
   obtain ⟨hF, hlow, hSI⟩ := hI.out
   obtain ⟨b, off, cap', hv, hc0, hc1⟩ := (hSI.s (by omega)).at hxi
   rw [getD_of hs] at hc0 hc1
   rw [HM.out] at hv
   have hv2 := HSV.out.symm.trans hv
   cases hv2
   obtain ⟨hs0, hs1, hs2⟩ := HG.out.1 s (List.mem_of_getElem? hs)
   have hFs : (F : Int) ≤ s.1 := hlow s (by rw [List.drop_eq_getElem_cons hxi, (List.getElem?_eq_some_iff.1 hs).2]; exact List.mem_cons_self ..)
   obtain ⟨a, ha⟩ : ∃ a : Nat, s.1 = (a : Int) := ⟨s.1.toNat, by omega⟩
   obtain ⟨m, hm'⟩ : ∃ m : Nat, s.2 = (m : Int) := ⟨s.2.toNat, by omega⟩
   have hCl := HG.out.2.2
   have hlen := plc_take hs
   have hlow2 := fun (F2 : Nat) (h : (F2 : Int) ≤ s.1 + s.2) => low_next (F := F2) HG.out.2.1 hs h
   rw [ha, hm'] at hlow2
   rw [ha] at hc0 hFs
   rw [hm'] at hc1
   rw [ha, hm'] at hs2
   obtain ⟨E, hE⟩ : ∃ E, a + m = E := ⟨_, rfl⟩
   have hwE : IntKind.i64.wrap ((a : Int) + (m : Int)) = ((E : Nat) : Int) := by rw [← hE]; exact (IntWalk.i64_in _ (by omega)).trans (by push_cast; rfl)
   have hi0 : (0 : Int) ≤ (i : Int) ∧ (i : Int) < (M : Int) := ⟨by omega, by omega⟩
   have hFa : F ≤ a := by omega
   have hEt : E ≤ (catB bs).length := by omega
   have hEl : E ≤ 100000 := by omega
   have HSB := Lib.hid (hSI.below HJ.out ((Below.refl _ wr).alloc (Nat.le_refl _) (.cells #[.int .i64 (a : Int), .int .i64 (m : Int)] 120)))
   have HBx := Lib.hid (heap_new wr (.cells #[.int .i64 (a : Int), .int .i64 (m : Int)] 120))
   have HX := Lib.hid (And.intro hs (And.intro ha (And.intro hm' (And.intro hlen hlow2))))
   have hBm : m₁ ≤ wr.heap.size := Nat.le_trans hmW hWr
   have HBM := Lib.hid (And.intro hBm (And.intro hWr hF))
   clear hs ha hm' hlen hlow2 hSI hI hlow hF hs0 hs1 hs2 hCl hFs hv hxi hBm
   gi_wp2
   clear hc0 hc1 hi0
   obtain ⟨Bs, hBs⟩ : ∃ z, wr.heap.size = z := ⟨_, rfl⟩
   rw [hBs] at HBx HBM ⊢
   have hwb : Bs + 1 = (wr.alloc (.cells #[.int .i64 (a : Int), .int .i64 (m : Int)] 120)).heap.size := by rw [← hBs]; simp
   generalize wr.alloc (.cells #[.int .i64 (a : Int), .int .i64 (m : Int)] 120) = wb at HSB HBx hwb ⊢
   gi_loopw [4, 5, 8] (fun kv fr pv wp => ∃ kk F P : Nat, kv = .int .i64 kk ∧ fr = .int .i64 F ∧ pv = .int .i64 P ∧ a ≤ P ∧ P ≤ E ∧ F ≤ P ∧ RowKit.Hid (FK bs kk = F ∧ SpI J Bd B g bv nm sp bs xs ((plc (xs.take i)).length + (P - a)) (i + 1) wp ∧ wp.heap[Bs]? = some (.cells #[.int .i64 (a : Int), .int .i64 (m : Int)] 120 (0, 0)))) (fun _ _ pv _ => E - (intOf pv).toNat)
   case atStart => exact ⟨kk, F, a, rfl, rfl, rfl, Nat.le_refl _, by omega, hFa, Lib.hid ⟨HBM.out.2.2, by rw [Nat.sub_self]; exact ⟨HSB.out.j, HSB.out.z, fun h => HSB.out.s (.inr (by omega)), HSB.out.d⟩, HBx.out⟩⟩
   case round =>
    rename World => wp
    clear HSB HBx hFa hwb
    obtain ⟨kk, F, P, rfl, rfl, rfl, haP, hPE, hFP, hI⟩ := hrel
    rcases Nat.lt_or_ge P E with hlt2 | hge2
    ·have hb := hI.out.2.2
     have s0 := box_cell hb 0
     have s1 := box_cell hb 1
     clear hb
     gi_wp2
     clear s0 s1
     gi_loopw [4, 5] (fun kv fr wq => ∃ kk F : Nat, kv = .int .i64 kk ∧ fr = .int .i64 F ∧ F ≤ P ∧ RowKit.Hid (FK bs kk = F ∧ SpI J Bd B g bv nm sp bs xs ((plc (xs.take i)).length + (P - a)) (i + 1) wq ∧ wq.heap[Bs]? = some (.cells #[.int .i64 (a : Int), .int .i64 (m : Int)] 120 (0, 0)))) (fun kv _ _ => N - (intOf kv).toNat)
     case atStart => exact ⟨kk, F, rfl, rfl, hFP, hI⟩
     case round =>
      rename World => wq
      clear hI hFP
      obtain ⟨kk, F, rfl, rfl, hFP, hI⟩ := hrel
      obtain ⟨x, hx⟩ := FK_some (bs := bs) (k := kk) (p := P) (by rw [hI.out.1]; exact hFP) (by omega)
      have hkN : kk < N := by rw [← HN.out]; exact (List.getElem?_eq_some_iff.1 hx).1
      have hF2 := FK_next hx
      rw [hI.out.1] at hF2
      have hF2l : FK bs (kk + 1) ≤ (catB bs).length := by
       have := catB_le hx
       rw [hF2]
       have h1 := hI.out.1
       unfold FK at h1
       omega
      have hCl := HG.out.2.2
      obtain ⟨F2, hF2'⟩ : ∃ z, FK bs (kk + 1) = z := ⟨_, rfl⟩
      rw [hF2'] at hF2 hF2l
      obtain ⟨cap, L, G, hbv, hLG, c0, c1⟩ := hI.out.2.1.z.size kk x hx
      rw [HN.out] at hbv
      have hws : IntKind.i64.wrap ((F : Int) + ((L : Int) + (G : Int))) = ((F2 : Nat) : Int) := by rw [hF2, ← hLG]; exact (IntWalk.i64_in _ (by omega)).trans (by push_cast; rfl)
      have hk0 : (0 : Int) ≤ (kk : Int) ∧ (kk : Int) < (N : Int) := ⟨by omega, by omega⟩
      have hS' := fun W => HS.out (L : Int) (G : Int) W (by omega) (by omega)
      have HS' := Lib.hid hS'
      have HF2 := Lib.hid (And.intro hF2' (And.intro hF2 (And.intro hLG hx)))
      have hB1 := hI.out.2.1.z.box
      have y0 : wq.cell? ⟨B, 0, none⟩ = some (.slice (some ⟨g, 0, none⟩) N cap) := by rw [box_cell hB1 0, hbv]; rfl
      have y1 := box_cell hI.out.2.1.d 0
      clear hbv hB1 hF2 hF2' hF2l hLG hx hCl hS'
      rcases Nat.lt_or_ge P F2 with hlt3 | hge3
      ·as_aux_lemma =>
        have hnle : ¬ F2 ≤ P := by omega
        obtain ⟨hc, henc⟩ := encS_at (g := g) (P := P) HX.out.1 (by rw [HX.out.2.1]; omega) (by rw [HX.out.2.1]; omega) (by rw [HX.out.2.1, HX.out.2.2.1]; omega) HF2.out.2.2.2 (by rw [hI.out.1]; exact hFP) (by rw [hI.out.1]; have := HF2.out.2.1; omega)
        have hat : (P - s.1.toNat) = P - a := by rw [HX.out.2.1]; rfl
        rw [hI.out.1] at henc
        obtain ⟨c, hcc⟩ : ∃ c, (plc (xs.take i)).length + (P - a) = c := ⟨_, rfl⟩
        have hc9 : c < (plc xs).length := by rw [hat, hcc] at hc; exact hc
        have henc9 : encS g bs xs ⟨c, hc9⟩ = #[.pointer (some ⟨g, kk * 3, none⟩), .int .i64 ((P - F : Nat) : Int)] := by rw [← henc]; congr 1; apply Fin.ext; show c = (plc (xs.take i)).length + (P - s.1.toNat); omega
        have hnx := finK_next (plc xs).length c hc9
        have hws2 : IntKind.i64.wrap ((P : Int) - (F : Int)) = ((P - F : Nat) : Int) := by
         have := HG.out.2.2
         exact (IntWalk.i64_in _ (by omega)).trans (by omega)
        rw [hcc] at hI
        have HN9 := Lib.hid (And.intro hnx hcc)
        have HE9 := Lib.hid henc9
        clear hc henc hat hcc henc9 hnx
        gi_wp2_with (refine ⟨trivial, ?_⟩; gi_at_call 40; refine (callsIn_wide.2 (HS'.out _)).mono ?_; rintro e w4 ⟨rfl, hb4⟩; have c0 := cell_stays hb4 c0; have c1 := cell_stays hb4 c1; have y0 := cell_stays hb4 y0; have y1 := cell_stays hb4 y1; have hI := Lib.hid (And.intro hI.out.1 (And.intro (hI.out.2.1.below HJ.out hb4) (row_up hI.out.2.2 hb4))); clear hb4)
        obtain ⟨fn, tmps, assign, body, hy, hRnd⟩ := HY.out (finK (plc xs).length c) ⟨c, hc9⟩ _ hI.out.2.1.j (by rw [finK_length _ _ (Nat.le_of_lt hc9)]; exact hc9) rfl
        rw [HE9.out] at hy
        rw [hy]
        gi_wp2
        refine hRnd.mono ?_
        clear hy hRnd
        have hbS := hI.out.2.2
        have hdS := hI.out.2.1
        rintro e W9 (⟨rfl, hJ9, hk9⟩ | ⟨rfl, hJx9⟩)
        ·have r0 := hk9.b _ _ _ _ HBM.out.1 (by unfold RowZ; decide) hbS
         have r1 := hk9.b _ _ _ _ hm (by unfold RowZ; decide) hdS.d
         have r2 := hk9.z hdS.z
         have r3 : i + 1 = 0 ∨ 2 ≤ xs.length → SpAt W9 sp xs := fun h => by
          rcases h with h | h
          ·omega
          ·exact hk9.s h (hdS.s (.inr h))
         rw [← HN9.out.1] at hJ9
         have HI9 := Lib.hid (And.intro hI.out.1 (And.intro (SpI.mk hJ9 r2 r3 r1) r0))
         clear r0 r1 r2 r3 hJ9 hk9 hbS hdS
         gi_wp2
         go_roundw
         case rel =>
          obtain ⟨h1, h2, h3⟩ := HI9.out
          have e : (plc (xs.take i)).length + (P + 1 - a) = c + 1 := by have := HN9.out.2; omega
          refine ⟨kk, F, P + 1, rfl, rfl, by go_num, by omega, by omega, by omega, Lib.hid ⟨h1, by rw [e]; exact h2, h3⟩⟩
         case measure => simp [intOf]; omega
        ·clear hbS hdS
         gi_wp2
         refine bodyPost_ret (results_none rfl _ _ _) rfl ?_
         refine ⟨⟨_, rfl⟩, .inr ⟨_, ?_, hJx9⟩⟩
         rw [← HN9.out.1]
         exact finK_pre _ _
      ·as_aux_lemma =>
        gi_wp2_with (refine ⟨trivial, ?_⟩; gi_at_call 40; refine (callsIn_wide.2 (HS'.out _)).mono ?_; rintro e w4 ⟨rfl, hb4⟩; have c0 := cell_stays hb4 c0; have c1 := cell_stays hb4 c1; have y0 := cell_stays hb4 y0; have y1 := cell_stays hb4 y1; have hI := Lib.hid (And.intro hI.out.1 (And.intro (hI.out.2.1.below HJ.out hb4) (row_up hI.out.2.2 hb4))); clear hb4)
        exact ⟨⟨kk + 1, F2, by go_num, rfl, hge3, Lib.hid ⟨HF2.out.1, hI.out.2⟩⟩, by simp [intOf]; omega⟩
    ·obtain rfl : P = E := by omega
     have hb := hI.out.2.2
     have s0 := box_cell hb 0
     have s1 := box_cell hb 1
     clear hb
     gi_wp2
     go_roundw
     case rel =>
      obtain ⟨h1, h2, h3⟩ := hI.out
      refine ⟨i + 1, kk, F, by go_num, rfl, rfl, by omega, ?_, Lib.hid ⟨h1, HX.out.2.2.2.2 F (by omega), ?_⟩⟩
      ·have := box_lt h3
       have := HBM.out.2.1
       omega
      ·have e : (plc (xs.take (i + 1))).length = (plc (xs.take i)).length + (P - a) := by rw [HX.out.2.2.2.1, List.length_append, spR_length, HX.out.2.2.1]; omega
       rw [e]
       exact h2
     case measure => simp [intOf]; omega
  ·obtain rfl : M = i := by omega
   have hall : plc (xs.take M) = plc xs := by rw [List.take_of_length_le (by rw [HM.out]; exact Nat.le_refl _)]
   have hJ9 := hI.out.2.2.j
   rw [hall, finK_all] at hJ9
   have HJ9 := Lib.hid hJ9
   clear hJ9 hI hall
   gi_wp2
   go_end0
   exact ⟨⟨_, rfl⟩, .inl ⟨_, rfl, HJ9.out⟩⟩
theorem spots_stops (n : Nat) (hn : 1 ≤ n) (Bd Bl m₁ B g : Nat) (bv nm sp : Value) (bs : List PB) (xs : List Sp) (hg : ∀ s ∈ xs, 0 ≤ s.1 ∧ 0 ≤ s.2 ∧ s.1 + s.2 ≤ (catB bs).length) (hp : xs.Pairwise fun a b => a.1 + a.2 < b.1) (hroom : (catB bs).length ≤ 100000) (hxl : xs.length ≤ 1000000) (hNl : bs.length ≤ 1000000)
  (w : World) (hZ : SzOK w B g bv nm bs) (hSp : SpAt w sp xs) (hBd : w.heap[Bd]? = some (.cells #[.pointer (some ⟨B, 0, none⟩)] 27 (0, 0))) (hBl : w.heap[Bl]? = some (.cells #[sp] 37 (0, 0))) (hm : m₁ ≤ Bd) (hmw : m₁ ≤ w.heap.size) :
  SeqStopsL RowZ Fence.wide n Tryz.prog 92 #[.pointer (some ⟨Bl, 0, none⟩), .pointer (some ⟨Bd, 0, none⟩)] (encS g bs xs) (KZ B g bv nm sp bs xs m₁) (fun ys => ys = List.finRange (plc xs).length) (fun pre => pre <+: List.finRange (plc xs).length) (plc xs).length (fun pre x => pre = finK (plc xs).length x.val) w := fun l J Jx W hW hW2 hJ _ hY h0 =>
 spots1_in n hn l Bd Bl m₁ B g bv nm sp bs xs hg hp hroom hxl hNl J Jx (fun pre x W1 h1 h2 h3 => by
  obtain ⟨fn, tmps, assign, body, hy, hr⟩ := hY pre x W1 h1 h2 h3
  exact ⟨fn, tmps, assign, body, hy, hr.mono fun e W' h => h.elim (fun q => .inl ⟨q.1, q.2.1, q.2.2.1⟩) (fun q => .inr ⟨q.1, q.2.1⟩)⟩) W (hZ.below hW) (hSp.below hW) (fun s A C row hs hg hr => hJ s A C row hs hg (fun r e => by obtain ⟨q1, o, q2, q3⟩ := hr r e; exact ⟨q1, o, q2, .inl (Obj.not_cells_of_walk q3)⟩)) (row_up hBd hW) (row_up hBl hW) hm h0 (by omega)
set_option maxHeartbeats 1000000 in
theorem spots_any (p : Option Addr) (sa : Option Addr) (sn sc : Nat) (w : World) :
  Calls Tryz.prog 75 #[.pointer p, .slice sa sn sc] w fun e w' => e = .returned (.func (.func 92) #[] #[.pointer (some ⟨w.heap.size + 1, 0, none⟩), .pointer (some ⟨w.heap.size, 0, none⟩)]) ∧ w' = (w.alloc (.cells #[.pointer p] 27)).alloc (.cells #[.slice sa sn sc] 37) := by
 go_enter Tryz.func75, Tryz.ntmps75
 go_wp2
 go_ret
 exact ⟨rfl, rfl⟩
end Go.Proofs.YtmedickofiielaaGreatDoor

namespace Go.Proofs.YtmedickofiielaaGreatDoor
open Go.RowKit Go.Shelf
attribute [local go_sem] Oper.semAt_some

theorem set_five (A t : List Value) (a : Nat) (x0 x1 x2 x3 x4 : Value) (ha : A.length = a) (ht : 5 ≤ t.length) : (((((A ++ t).set a x0).set (a + 1) x1).set (a + 2) x2).set (a + 3) x3).set (a + 4) x4 = A ++ [x0, x1, x2, x3, x4] ++ t.drop 5 := by
 match t, ht with
 | t0 :: t1 :: t2 :: t3 :: t4 :: r, _ =>
  subst ha
  rw [List.set_append_right _ _ (Nat.le_refl _), List.set_append_right _ _ (by omega), List.set_append_right _ _ (by omega), List.set_append_right _ _ (by omega), List.set_append_right _ _ (by omega)]
  rw [Nat.sub_self, show A.length + 1 - A.length = 1 by omega, show A.length + 2 - A.length = 2 by omega, show A.length + 3 - A.length = 3 by omega, show A.length + 4 - A.length = 4 by omega]
  simp
theorem make_cellsN (n : Nat) (hn : n ≤ 1000000) : ∃ cur : Array Value, cur.size = n * 5 ∧ ∀ W : World, (Instr.makeSlice 22 (.int .i64 (n : Int)) (.int .i64 (n : Int))).run Tryz.prog W = .ok (.slice (some ⟨W.heap.size, 0, none⟩) n n) (W.alloc (.cells cur 48)) := by
 obtain ⟨i0, hi, hz0, hz1, hz2⟩ := infoCellI
 refine ⟨madeCells (Value.agg #[.int .i64 0, .int .i64 0, .int .i64 0, .int .i32 0, .bool false]).cells (n * 5), ?_, fun W => ?_⟩
 ·simp [madeCells]
 ·have h := run_make (P := Tryz.prog) (w := W) 22 48 i0 _ Tryz.underlying22 hi hz0 .i64 .i64 n n (by omega) (by omega) (by rw [hz2]; omega) (by omega)
  rw [Int.toNat_natCast, hz1] at h
  exact h
def newR (s q : Int) (rs : List Int) : List PCell := rs.mapIdx fun i r => ⟨s, q, i, r, false⟩
theorem newR_length (s q : Int) (rs : List Int) : (newR s q rs).length = rs.length := by simp [newR]
theorem newR_next {s q : Int} {rs : List Int} {k : Nat} {r : Int} (h : rs[k]? = some r) : (newR s q rs).take (k + 1) = (newR s q rs).take k ++ [⟨s, q, (k : Int), r, false⟩] := by
 rw [List.take_add_one]
 congr 1
 unfold newR
 rw [List.getElem?_mapIdx, h]
 rfl
set_option maxRecDepth 100000 in
set_option maxHeartbeats 8000000 in
theorem cellsOf_any (s q n k a : Int) (t : ByteArray) (sp : Value) (rs : List Int) (w : World) (hT : Lib.Utf8Tabs 0 1 w) (hts : t.size ≤ 1000) (hr : runesL t.data.toList = some rs) (hrl : rs.length ≤ 1000) (hsp : ∃ ao c d, sp = .slice ao c d) :
  Calls Tryz.prog 47 #[opV s q n k a t sp] w fun e w' => ∃ v, e = .returned v ∧ w'.ownsRow w.heap.size 48 5 v (newR s q rs).length (cCells (newR s q rs)) ∧ Below w.heap.size w w' := by
 obtain ⟨sa, sn, sc, rfl⟩ := hsp
 unfold opV
 have A0 := heap_new w (.cells #[.int .i64 s, .int .i64 q, .int .i64 n, .int .i64 k, .int .i64 a, .string t, .slice sa sn sc] 50)
 have AB : Below w.heap.size w (w.alloc (.cells #[.int .i64 s, .int .i64 q, .int .i64 n, .int .i64 k, .int .i64 a, .string t, .slice sa sn sc] 50)) := (Below.refl _ w).alloc (Nat.le_refl _) _
 have hS := split_some t (by omega) _ (⟨fun c hc => cell_stays AB (hT.1 c hc), fun i hi => ⟨cell_stays AB (hT.2 i hi).1, cell_stays AB (hT.2 i hi).2⟩⟩ : Lib.Utf8Tabs 0 1 _) rs hr
 have HS := Lib.hid hS
 have HA := Lib.hid (And.intro A0 AB)
 obtain ⟨N, hN⟩ : ∃ N, rs.length = N := ⟨_, rfl⟩
 have HN := Lib.hid hN
 rw [hN] at hrl
 obtain ⟨cur, hcur, hmk⟩ := make_cellsN N (by omega)
 have hcl : (0 : Int) ≤ (N : Int) ∧ (N : Int) ≤ 1000 := by omega
 clear A0 AB hS hT hr hN
 rw [newR_length, HN.out]
 go_enter Tryz.func47, Tryz.ntmps47
 go_wp2_with fail
 refine HS.out.mono ?_
 rintro e w1 ⟨rv, rfl, hro, hb1⟩
 obtain ⟨ra, rn, rc, rfl⟩ := slice_of hro
 obtain rfl : rn = rs.length := by rcases hro.2 with ⟨e, h0⟩ | ⟨_, _, _, e, _⟩ <;> cases e <;> first | rfl | omega
 have hx1 := row_up HA.out.1 hb1
 have hB1 : Below w.heap.size w w1 := HA.out.2.trans (hb1.mono HA.out.2.size)
 have ho : (w1.alloc (.cells cur 48)).ownsRow w.heap.size 48 5 (.slice (some ⟨w1.heap.size, 0, none⟩) N N) N (cCells ((newR s q rs).take 0) ++ cur.toList) := by
  refine ⟨by rw [List.take_zero]; show ([] ++ cur.toList).length = _; simp [hcur], .inr ⟨w1.heap.size, N, cur, rfl, hB1.size, heap_new w1 _, Nat.le_refl _, by unfold maxLen; omega, hcur, ?_⟩⟩
  rw [List.take_zero, List.take_of_length_le (by rw [Array.length_toList, hcur]; exact Nat.le_refl _)]
  rfl
 have hru := own_up hro ((Below.refl _ w1).alloc (Nat.le_refl _) (.cells cur 48))
 have hx2 := row_al hx1 (.cells cur 48)
 have hB2 : Below w.heap.size w (w1.alloc (.cells cur 48)) := hB1.alloc hB1.size _
 have hlt1 := box_lt hx1
 have hgA : ∀ g, (Value.slice ra rs.length rc).ownBlock = some g → ¬ g = w1.heap.size := fun g hg e => by obtain ⟨_, c, h⟩ := own_typed hro g hg; have := box_lt h; omega
 have hAw : w.heap.size ≤ w1.heap.size := hB1.size
 have hs2 : (w1.alloc (.cells cur 48)).heap.size = w1.heap.size + 1 := by simp
 rw [HN.out] at hru hgA ⊢
 obtain ⟨tl, htl⟩ : ∃ tl, cur.toList = tl := ⟨_, rfl⟩
 have htll : tl.length = (N - 0) * 5 := by rw [← htl]; simp [hcur]
 rw [htl] at ho
 have HH := Lib.hid (And.intro hru (And.intro hx2 (And.intro hB2 (And.intro hgA (And.intro htll ho)))))
 clear ho hro hb1 hx1 hB1 HS hru hx2 hB2 hgA htll htl hcur
 go_wp2
 generalize w1.alloc (.cells cur 48) = w2 at HH hs2 ⊢
 obtain ⟨A, hA⟩ : ∃ A, w1.heap.size = A := ⟨_, rfl⟩
 rw [hA] at HH hs2 hlt1 hAw ⊢
 clear hA
 have h0 : w2.heap[w.heap.size]? = some (.cells #[.int .i64 s, .int .i64 q, .int .i64 n, .int .i64 k, .int .i64 a, .string t, .slice sa sn sc] 50 (0, 0)) ∧ (∃ tl : List Value, tl.length = (N - 0) * 5 ∧ w2.ownsRow w.heap.size 48 5 (.slice (some ⟨A, 0, none⟩) N N) N (cCells ((newR s q rs).take 0) ++ tl)) ∧ Below w.heap.size w w2 ∧ Keep (fun j => j = A) w2.heap.size w2 w2 := ⟨HH.out.2.1, ⟨tl, HH.out.2.2.2.2.1, HH.out.2.2.2.2.2⟩, HH.out.2.2.1, Keep.refl _ _ _⟩
 have H0 := Lib.hid h0
 clear h0
 go_loopw [19] (fun i wr => ∃ e : Nat, e ≤ N ∧ i = .int .i64 e ∧ RowKit.Hid (wr.heap[w.heap.size]? = some (.cells #[.int .i64 s, .int .i64 q, .int .i64 n, .int .i64 k, .int .i64 a, .string t, .slice sa sn sc] 50 (0, 0)) ∧ (∃ tl : List Value, tl.length = (N - e) * 5 ∧ wr.ownsRow w.heap.size 48 5 (.slice (some ⟨A, 0, none⟩) N N) N (cCells ((newR s q rs).take e) ++ tl)) ∧ Below w.heap.size w wr ∧ Keep (fun j => j = A) w2.heap.size w2 wr)) (fun i _ => N - (intOf i).toNat)
 case atStart => exact ⟨0, Nat.zero_le _, rfl, H0⟩
 case round =>
  rename World => wr
  obtain ⟨e, he, rfl, hI⟩ := hrel
  rcases Nat.lt_or_ge e N with hlt | hge
  ·obtain ⟨r, hr⟩ : ∃ r, rs[e]? = some r := ⟨_, List.getElem?_eq_getElem (by rw [HN.out]; exact hlt)⟩
   obtain ⟨b0, ⟨tl, htl, ho⟩, hB, hK⟩ := hI.out
   have hru := own_keepS HH.out.1 hK HH.out.2.2.2.1
   obtain ⟨g, cp, hgv, -, -⟩ := ownsRow_form hru (by omega)
   cases hgv
   have hrc := hru.cells rfl e (.int .i32 r) (by rw [List.getElem?_map, hr]; rfl)
   rw [Addr.add_lit, Nat.zero_add] at hrc
   have z0 := box_cell b0 0
   have z1 := box_cell b0 1
   have hct : (cCells ((newR s q rs).take e)).length = e * 5 := by rw [cCells_length, List.length_take, newR_length, HN.out]; congr 1; omega
   obtain ⟨t0, t1, t2, t3, t4, tr, rfl⟩ : ∃ t0 t1 t2 t3 t4 tr, tl = t0 :: t1 :: t2 :: t3 :: t4 :: tr := by
    match tl, (show 5 ≤ tl.length by omega) with
    | t0 :: t1 :: t2 :: t3 :: t4 :: r, _ => exact ⟨_, _, _, _, _, _, rfl⟩
   have hcc := ho.cells rfl
   have ex : ∀ j (v : Value), (t0 :: t1 :: t2 :: t3 :: t4 :: tr)[j]? = some v → wr.cell? ⟨A, e * 5 + j, none⟩ = some v := fun j v hj => by
    have := hcc (e * 5 + j) v (by rw [List.getElem?_append_right (by omega), hct, show e * 5 + j - e * 5 = j by omega]; exact hj)
    rw [Addr.add_lit, Nat.zero_add] at this
    exact this
   have y0 := ex 0 _ rfl
   have y1 := ex 1 _ rfl
   have y2 := ex 2 _ rfl
   have y3 := ex 3 _ rfl
   have y4 := ex 4 _ rfl
   rw [Nat.add_zero] at y0
   have f0 := ho.frozenAt (e * 5)
   have f1 := ho.frozenAt (e * 5 + 1)
   have f2 := ho.frozenAt (e * 5 + 2)
   have f3 := ho.frozenAt (e * 5 + 3)
   have f4 := ho.frozenAt (e * 5 + 4)
   have hst := (((((ho.stored (e * 5) (.int .i64 s)).1.stored (e * 5 + 1) (.int .i64 q)).1.stored (e * 5 + 2) (.int .i64 (e : Int))).1.stored (e * 5 + 3) (.int .i32 r)).1.stored (e * 5 + 4) (.bool false)).1
   rw [set_five _ _ (e * 5) _ _ _ _ _ hct (by simp)] at hst
   have hw : w.heap.size ≠ A := by omega
   have HF := Lib.hid (And.intro hst (And.intro b0 (And.intro hB (And.intro hK htl))))
   have HX := Lib.hid (newR_next (s := s) (q := q) hr)
   have hi0 : (0 : Int) ≤ (e : Int) ∧ (e : Int) < (N : Int) := ⟨by omega, by omega⟩
   clear hr b0 ho hB hK hru hct hcc ex hst hI htl
   go_wp2
   go_roundw
   case rel =>
    obtain ⟨hst, b0, hB, hK, htl⟩ := HF.out
    refine ⟨e + 1, by omega, by go_num, Lib.hid ⟨?_, ⟨tr, ?_, ?_⟩, ?_, ?_⟩⟩
    ·exact (box_other hw _ _).trans ((box_other hw _ _).trans ((box_other hw _ _).trans ((box_other hw _ _).trans ((box_other hw _ _).trans b0))))
    ·simp only [List.length_cons] at htl
     omega
    ·rw [HX.out, cCells_append]
     exact hst
    ·exact ((((hB.setCell (p := ⟨A, e * 5, none⟩) hAw _).setCell (p := ⟨A, e * 5 + 1, none⟩) hAw _).setCell (p := ⟨A, e * 5 + 2, none⟩) hAw _).setCell (p := ⟨A, e * 5 + 3, none⟩) hAw _).setCell (p := ⟨A, e * 5 + 4, none⟩) hAw _
    ·exact ((((hK.setCell (p := ⟨A, e * 5, none⟩) (.inl rfl) _).setCell (p := ⟨A, e * 5 + 1, none⟩) (.inl rfl) _).setCell (p := ⟨A, e * 5 + 2, none⟩) (.inl rfl) _).setCell (p := ⟨A, e * 5 + 3, none⟩) (.inl rfl) _).setCell (p := ⟨A, e * 5 + 4, none⟩) (.inl rfl) _
   case measure => simp [intOf]; omega
  ·obtain rfl : N = e := by omega
   obtain ⟨b0, ⟨tl, htl, ho⟩, hB, hK⟩ := hI.out
   obtain rfl : tl = [] := List.eq_nil_of_length_eq_zero (by omega)
   rw [List.append_nil, List.take_of_length_le (by rw [newR_length, HN.out]; exact Nat.le_refl _)] at ho
   have HF := Lib.hid (And.intro ho hB)
   clear b0 ho hB hK hI htl
   go_wp2
   go_ret
   exact ⟨_, rfl, HF.out.1, HF.out.2⟩
end Go.Proofs.YtmedickofiielaaGreatDoor
