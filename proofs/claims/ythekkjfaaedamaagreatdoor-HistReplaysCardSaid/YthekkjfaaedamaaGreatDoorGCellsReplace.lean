/- Texts of this proof, joined. -/
import Derived.Test.YthekkjfaaedamaaGreatDoorGCellsText
namespace Go.Proofs.YthekkjfaaedamaaGreatDoor
open Go.RowKit Go.Shelf
attribute [local go_sem] Oper.semAt_some

theorem rep_shift (L X Y : List Value) (a d b c : Nat) (hX : L.take (a + d + c) = X) (hXl : X.length = a + d + c) (hY : Y.length = b) (hL : a + b + c ≤ L.length) (R1 R2 : List Value) (h1 : R1 = L.take (a + b) ++ X.drop (a + d) ++ L.drop (a + b + c)) (h2 : R2 = R1.take a ++ Y ++ R1.drop (a + b)) :
  R2.take (a + b + c) = X.take a ++ Y ++ X.drop (a + d) ∧ R2.length = L.length ∧ R1.length = L.length := by
 have hl1 : (L.take (a + b)).length = a + b := by rw [List.length_take]; omega
 have hl2 : (X.drop (a + d)).length = c := by rw [List.length_drop]; omega
 have hl3 : (X.take a).length = a := by rw [List.length_take]; omega
 have hr1 : R1.length = L.length := by rw [h1]; simp [List.length_append, hl1, hl2]; omega
 have ht : R1.take a = X.take a := by
  rw [h1, List.append_assoc, List.take_append_of_le_length (by omega), List.take_take, ← hX, List.take_take]
  congr 1
  omega
 have hd : R1.drop (a + b) = X.drop (a + d) ++ L.drop (a + b + c) := by
  rw [h1, List.append_assoc, List.drop_append_of_le_length (by omega), List.drop_of_length_le (by omega), List.nil_append]
 refine ⟨?_, by rw [h2, ht, hd]; simp [hl2, hl3]; omega, hr1⟩
 rw [h2, ht, hd, ← List.append_assoc, List.take_append_of_le_length (by simp [hl2, hl3]; omega), List.take_of_length_le (by simp [hl2, hl3]; omega)]
set_option maxRecDepth 100000 in
set_option maxHeartbeats 8000000 in
theorem replace_shift (g cap n i j vb m vc : Nat) (cur cv : Array Value) (X Y : List Value) (w : World) (hg : w.heap[g]? = some (.cells cur 76 (0, 0))) (hcur : cur.size = cap * 3) (hX : cur.toList.take (n * 3) = X)
  (hv : w.heap[vb]? = some (.cells cv 76 (0, 0))) (hY : cv.toList.take (m * 3) = Y) (hcv : m * 3 ≤ cv.size) (hcv0 : cv.size ≠ 0) (hne : g ≠ vb) (hx1 : ∀ u ∈ X, u.oneCell' = true) (hy1 : ∀ u ∈ Y, u.oneCell' = true) (hj : j = i + 1) (hi : j < n) (hm : 2 ≤ m) (hroom : i + m + (n - j) ≤ cap) (hcap : cap ≤ 9223372036854775807) (hnm : n + m ≤ 1000000) (hnc : n ≤ cap) :
  Calls Tryz.prog 98 #[.slice (some ⟨g, 0, none⟩) n cap, .int .i64 (i : Int), .int .i64 (j : Int), .slice (some ⟨vb, 0, none⟩) m vc] w fun e w' =>
   e = .returned (.slice (some ⟨g, 0, none⟩) (i + m + (n - j)) cap) ∧ ∃ cur' : Array Value, w'.heap[g]? = some (.cells cur' 76 (0, 0)) ∧ cur'.size = cap * 3 ∧ cur'.toList.take ((i + m + (n - j)) * 3) = X.take (i * 3) ++ Y ++ X.drop (j * 3) ∧ Keep (fun k => k = g) w.heap.size w w' := by
 have hXl : X.length = n * 3 := by rw [← hX, List.length_take, Array.length_toList]; omega
 have hYl : Y.length = m * 3 := by rw [← hY, List.length_take, Array.length_toList]; omega
 obtain ⟨i0, hi0, _, hs0, _⟩ := infoBlkI
 have hsz : (Tryz.prog.info? 76).map (·.size) = some 3 := by rw [hi0]; simp [hs0]
 obtain ⟨R1, hR1⟩ : ∃ R1, R1 = cur.toList.take (i * 3 + m * 3) ++ X.drop (i * 3 + 3) ++ cur.toList.drop (i * 3 + m * 3 + (n - j) * 3) := ⟨_, rfl⟩
 obtain ⟨R2, hR2⟩ : ∃ R2, R2 = R1.take (i * 3) ++ Y ++ R1.drop (i * 3 + m * 3) := ⟨_, rfl⟩
 obtain ⟨hf1, hf2, hf3⟩ := rep_shift cur.toList X Y (i * 3) 3 (m * 3) ((n - j) * 3) (by rw [← hX]; congr 1; omega) (by rw [hXl]; omega) hYl (by rw [Array.length_toList]; omega) R1 R2 hR1 hR2
 have hdl : (X.drop (i * 3 + 3)).length = (n - j) * 3 := by rw [List.length_drop, hXl]; omega
 have hov : ∀ lb cb, (callFunc 113 #[.slice (some ⟨g, (i + m) * 3, none⟩) lb cb, .slice (some ⟨vb, 0, none⟩) m vc]).run Tryz.prog w.drew = .ok (.value (.bool false)) w.drew := fun lb cb => by
  rw [run_callFunc_extern Tryz.func113 (by kernel_rfl) (by kernel_rfl) (by kernel_rfl) (e := Extern.SlicesOverlaps.overlaps #[77, 77] #[4]) (by kernel_rfl),
   Lib.run_overlaps_apart w.drew 77 4 76 Tryz.underlying77 3 Tryz.sizeOf76 ⟨g, (i + m) * 3, none⟩ ⟨vb, 0, none⟩ lb cb m vc hne _ _ _ _ (shape_of (W := w.drew) hg) (shape_of (W := w.drew) hv) hcv0 (frozen_of_row w.drew g _ cur _ hg) (frozen_of_row w.drew g _ cur _ hg)]
  rfl
 obtain ⟨W0, hW0⟩ : ∃ W0, W0 = w.drew.drew := ⟨_, rfl⟩
 have hg0 : W0.heap[g]? = some (.cells cur 76 (0, 0)) := by rw [hW0]; exact hg
 have hv0 : W0.heap[vb]? = some (.cells cv 76 (0, 0)) := by rw [hW0]; exact hv
 have hcp1 : ∀ ty dL dc sc, dL = n - j → (Builtin.copy_ #[77, 77] ty #[.slice (some ⟨g, (i + m) * 3, none⟩) dL dc, .slice (some ⟨g, j * 3, none⟩) (n - j) sc]).run Tryz.prog W0 = .ok (goInt ((n - j : Nat) : Int)) (W0.setRow g R1.toArray) := fun ty dL dc sc hdL => by
  subst hdL
  have hmn : Nat.min (n - j) (n - j) = n - j := by show min _ _ = _; omega
  have := run_copy_rowN (P := Tryz.prog) W0 77 77 ty 76 3 g ((i + m) * 3) (n - j) dc ⟨g, j * 3, none⟩ (n - j) sc cur 76 (X.drop (i * 3 + 3)) Tryz.underlying77 hsz hg0 (by rw [hdl, hmn])
   (fun k v hk => by
    rw [Addr.add_lit, cell_row hg0]
    rw [List.getElem?_drop, ← hX, List.getElem?_take] at hk
    split at hk
    ·rw [← hk, show j * 3 = i * 3 + 3 by omega]; simp
    ·cases hk) (by rw [hdl]; omega) (fun v hv => hx1 v (List.mem_of_mem_drop hv))
  rw [hmn, hdl, show (i + m) * 3 = i * 3 + m * 3 by omega, ← hR1] at this
  rw [show (i + m) * 3 = i * 3 + m * 3 by omega]
  exact this
 have hg1 : (W0.setRow g R1.toArray).heap[g]? = some (.cells R1.toArray 76 (0, 0)) := setRow_heap W0 g cur _ _ _ hg0
 have hv1 : (W0.setRow g R1.toArray).heap[vb]? = some (.cells cv 76 (0, 0)) := (setRow_other _ _ _ _ hne.symm).trans hv0
 have hcp2 : ∀ ty dL dc, m ≤ dL → (Builtin.copy_ #[77, 77] ty #[.slice (some ⟨g, i * 3, none⟩) dL dc, .slice (some ⟨vb, 0, none⟩) m vc]).run Tryz.prog (W0.setRow g R1.toArray) = .ok (goInt (m : Int)) ((W0.setRow g R1.toArray).setRow g R2.toArray) := fun ty dL dc hdL => by
  have hmn : Nat.min m dL = m := by show min _ _ = _; omega
  have := run_copy_rowN (P := Tryz.prog) (W0.setRow g R1.toArray) 77 77 ty 76 3 g (i * 3) dL dc ⟨vb, 0, none⟩ m vc R1.toArray 76 Y Tryz.underlying77 hsz hg1 (by rw [hYl, hmn])
   (fun k v hk => by
    rw [Addr.add_lit, cell_row hv1, Nat.zero_add]
    rw [← hY, List.getElem?_take] at hk
    split at hk
    ·rw [← hk]; simp
    ·cases hk) (by rw [hYl, List.size_toArray, hf3, Array.length_toList]; omega) hy1
  rw [hmn, hYl, List.toList_toArray, ← hR2] at this
  exact this
 have hfin : ((W0.setRow g R1.toArray).setRow g R2.toArray).heap[g]? = some (.cells R2.toArray 76 (0, 0)) := setRow_heap _ g _ _ _ _ hg1
 have hkk : Keep (fun k => k = g) w.heap.size w ((W0.setRow g R1.toArray).setRow g R2.toArray) := by
  rw [hW0]
  exact ((Keep.refl _ _ w).drewN 2).trans ((setRow_keep _).trans (setRow_keep _))
 have HF := Lib.hid (And.intro hfin (And.intro (show R2.toArray.size = cap * 3 by rw [List.size_toArray, hf2, Array.length_toList, hcur]) (And.intro (show R2.toArray.toList.take ((i + m + (n - j)) * 3) = X.take (i * 3) ++ Y ++ X.drop (j * 3) by rw [List.toList_toArray, show j * 3 = i * 3 + 3 by omega, ← hf1]; congr 1; omega) hkk)))
 have mixed : Tryz.prog.follows .mixedOrders = true := by kernel_rfl
 have hz1 : ¬ ((i : Int) = (j : Int)) := by omega
 have hz2 : ¬ ((j : Int) = (n : Int)) := by omega
 have hz3 : ¬ ((cap : Int) < (i : Int) + (m : Int) + ((n - j : Nat) : Int)) := by omega
 have hz4 : ¬ ((i : Int) + (m : Int) ≤ (j : Int)) := by omega
 have hw1 : IntKind.i64.wrap ((i : Int) + (m : Int)) = (i : Int) + (m : Int) := by rw [IntKind.wrap_i64]; omega
 have hw2 : IntKind.i64.wrap ((i : Int) + (m : Int) + ((n - j : Nat) : Int)) = (i : Int) + (m : Int) + ((n - j : Nat) : Int) := by rw [IntKind.wrap_i64]; omega
 have hb1 : (0 : Int) ≤ (i : Int) + (m : Int) := by omega
 have hb0 : (0 : Int) ≤ (i : Int) + (m : Int) + ((n - j : Nat) : Int) := by omega
 have htn : ((i : Int) + (m : Int)).toNat = i + m := by omega
 have htn2 : ((i : Int) + (m : Int) + ((n - j : Nat) : Int)).toNat = i + m + (n - j) := by omega
 have hb2 : ¬ (cap = i + m) := by omega
 have hb3 : (i : Int) + (m : Int) ≤ (i : Int) + (m : Int) + ((n - j : Nat) : Int) := by omega
 have hb4 : ¬ (cap = i) := by omega
 have hb5 : (i : Int) ≤ (n : Int) := by omega
 have hb6 : ¬ (cap = j) := by omega
 have hb7 : (i : Int) ≤ (j : Int) := by omega
 have hb8 : (j : Int) ≤ (n : Int) := by omega
 have hb9 : (j : Int) ≤ (cap : Int) := by omega
 have hc1 : (i : Int) + (m : Int) + ((n - j : Nat) : Int) ≤ (cap : Int) := by omega
 have hc2 : (i : Int) ≤ (i : Int) + (m : Int) + ((n - j : Nat) : Int) := by omega
 have hc3 : (i : Int) ≤ (cap : Int) := by omega
 clear hR1 hR2 hf1 hf2 hf3 hX hY hXl hYl hdl hfin hkk hg1 hv1 hsz hg hv hcv hcur hg0 hv0 hcv0 hj hi
 subst hW0
 go_enter Tryz.func98, Tryz.ntmps98
 go_wp2
 go_region
 go_wp2_with (simp only [hov])
 go_region_law_o (refine step_copy_runI rfl _ _ 77 77 rfl _ _ (by simp [Act.eval, Act.put]) (by simp [Act.eval, Act.put]) (hcp1 _ _ _ _ (by omega)) ?_)
 have hc2' := hcp2 3 (i + m + (n - j) - i) (cap - i) (by omega)
 go_wp2_with (at_builtin; refine wpList_copy_runI _ rfl _ _ 77 77 rfl _ _ rfl rfl hc2' ?_)
 go_ret
 exact ⟨rfl, _, HF.out.1, HF.out.2.1, HF.out.2.2.1, HF.out.2.2.2⟩
theorem rep_grow (L X Y : List Value) (a d b c : Nat) (hX : L.take a = X.take a) (hXl : X.length = a + d + c) (hY : Y.length = b) (hL : a + b + c ≤ L.length) (R1 R2 : List Value) (h1 : R1 = L.take a ++ Y ++ L.drop (a + b)) (h2 : R2 = R1.take (a + b) ++ X.drop (a + d) ++ R1.drop (a + b + c)) :
  R2.take (a + b + c) = X.take a ++ Y ++ X.drop (a + d) ∧ R2.length = L.length ∧ R1.length = L.length := by
 have hl2 : (X.drop (a + d)).length = c := by rw [List.length_drop]; omega
 have hl3 : (X.take a).length = a := by rw [List.length_take]; omega
 have hr1 : R1.length = L.length := by rw [h1, hX]; simp [List.length_append, hl3, hY]; omega
 have ht : R1.take (a + b) = X.take a ++ Y := by
  rw [h1, hX, List.take_append_of_le_length (by simp [hl3, hY]), List.take_of_length_le (by simp [hl3, hY])]
 refine ⟨?_, by rw [h2, ht]; simp [hl2, hl3, hY, hr1]; omega, hr1⟩
 rw [h2, ht, List.take_append_of_le_length (by simp [hl2, hl3, hY]; omega), List.take_of_length_le (by simp [hl2, hl3, hY]; omega)]
set_option maxRecDepth 100000 in
set_option maxHeartbeats 8000000 in
theorem replace_grow (g cap n i j vb m vc T : Nat) (cur cv : Array Value) (X Y : List Value) (w : World) (hg : w.heap[g]? = some (.cells cur 76 (0, 0))) (hcur : cur.size = cap * 3) (hX : cur.toList.take (n * 3) = X)
  (hv : w.heap[vb]? = some (.cells cv 76 (0, 0))) (hY : cv.toList.take (m * 3) = Y) (hcv : m * 3 ≤ cv.size) (hx1 : ∀ u ∈ X, u.oneCell' = true) (hy1 : ∀ u ∈ Y, u.oneCell' = true) (hj : j = i + 1) (hi : j < n) (hm : 2 ≤ m) (hT : T = i + m + (n - j)) (hroom : cap < T) (hnm : n + m ≤ 1000000) (hnc : n ≤ cap) (hcap : cap ≤ 9223372036854775807) :
  Calls Tryz.prog 98 #[.slice (some ⟨g, 0, none⟩) n cap, .int .i64 (i : Int), .int .i64 (j : Int), .slice (some ⟨vb, 0, none⟩) m vc] w fun e w' =>
   ∃ (G : Nat) (cur' : Array Value), e = .returned (.slice (some ⟨w.heap.size, 0, none⟩) T G) ∧ T ≤ G ∧ G ≤ maxLen ∧ w'.heap[w.heap.size]? = some (.cells cur' 76 (0, 0)) ∧ cur'.size = G * 3 ∧ cur'.toList.take (T * 3) = X.take (i * 3) ++ Y ++ X.drop (j * 3) ∧ Below w.heap.size w w' := by
 have hXl : X.length = n * 3 := by rw [← hX, List.length_take, Array.length_toList]; omega
 have hYl : Y.length = m * 3 := by rw [← hY, List.length_take, Array.length_toList]; omega
 obtain ⟨i0, hi0, hz0, hzs, hzb⟩ := infoBlkI
 have hsz : (Tryz.prog.info? 76).map (·.size) = some 3 := by rw [hi0]; simp [hzs]
 have hgl := box_lt hg
 have hvl := box_lt hv
 have hold : (Builtin.firstCells i0.size i (.slice (some ⟨g, 0, none⟩) i cap)).run Tryz.prog w.drew.drew = .ok (X.take (i * 3)).toArray w.drew.drew := by
  rw [hzs]
  exact run_firstCells_some w.drew.drew 3 i ⟨g, 0, none⟩ i cap (X.take (i * 3)) (by rw [List.length_take, hXl]; omega) (fun k v hk => by
   rw [Addr.add_lit, cell_row (show w.drew.drew.heap[g]? = _ from hg), Nat.zero_add]
   rw [← hX, List.take_take, List.getElem?_take] at hk
   split at hk
   ·rw [← hk]; simp
   ·cases hk)
 have hik : i + (T - i) = T := by omega
 have hkk : (i : Int) + (m : Int) + ((n - j : Nat) : Int) - (i : Int) = ((T - i : Nat) : Int) := by omega
 have hrz : ∀ ty, (Builtin.append_ #[77, 3] ty #[.slice (some ⟨g, 0, none⟩) i cap, .int .i64 ((i : Int) + (m : Int) + ((n - j : Nat) : Int) - (i : Int))]).run Tryz.prog w.drew =
   .ok (.slice (some ⟨w.heap.size, 0, none⟩) T (grownCap w.drew T cap 76)) (w.drew.drew.alloc (.cells ((X.take (i * 3)).toArray ++ Builtin.zeroCells (Value.agg #[.int .i64 0, .int .i64 0, .slice none 0 0]).cells (T - i) ++ Builtin.zeroCells (Value.agg #[.int .i64 0, .int .i64 0, .slice none 0 0]).cells (grownCap w.drew T cap 76 - T)) 76)) := fun ty => by
  have h := Lib.run_append_grow_zeros w.drew 77 3 ty 76 i0 _ .i64 .i64 Tryz.underlying77 Tryz.underlying3 hi0 hz0 (some ⟨g, 0, none⟩) i cap (X.take (i * 3)) hold (T - i) (by omega) (by omega) (by omega) (by omega) (by rw [hzb]; omega) (by rw [hzb, hik]; exact growslice_fits hroom (by omega))
  rw [hik] at h
  rw [hkk]
  exact h
 obtain ⟨G, hG⟩ : ∃ G, G = grownCap w.drew T cap 76 := ⟨_, rfl⟩
 rw [← hG] at hrz
 have hGn : T ≤ G := by rw [hG]; exact grownCap_ge w.drew _ _ _
 have hGm : G ≤ maxLen := by rw [hG]; exact grownCap_le_maxLen w.drew T cap 76 (by unfold maxLen; omega)
 obtain ⟨ROW, hROW⟩ : ∃ ROW : Array Value, ROW = (X.take (i * 3)).toArray ++ Builtin.zeroCells (Value.agg #[.int .i64 0, .int .i64 0, .slice none 0 0]).cells (T - i) ++ Builtin.zeroCells (Value.agg #[.int .i64 0, .int .i64 0, .slice none 0 0]).cells (G - T) := ⟨_, rfl⟩
 rw [← hROW] at hrz
 have hRs : ROW.size = G * 3 := by
  rw [hROW]
  simp [Builtin.zeroCells, Value.cells, hXl]
  omega
 have hRt : ROW.toList.take (i * 3) = X.take (i * 3) := by
  rw [hROW, Array.toList_append, Array.toList_append, List.toList_toArray, List.append_assoc, List.take_append_of_le_length (by rw [List.length_take, hXl]; omega), List.take_take, Nat.min_self]
 obtain ⟨R1, hR1⟩ : ∃ R1, R1 = ROW.toList.take (i * 3) ++ Y ++ ROW.toList.drop (i * 3 + m * 3) := ⟨_, rfl⟩
 obtain ⟨R2, hR2⟩ : ∃ R2, R2 = R1.take (i * 3 + m * 3) ++ X.drop (i * 3 + 3) ++ R1.drop (i * 3 + m * 3 + (n - j) * 3) := ⟨_, rfl⟩
 obtain ⟨hf1, hf2, hf3⟩ := rep_grow ROW.toList X Y (i * 3) 3 (m * 3) ((n - j) * 3) hRt (by rw [hXl]; omega) hYl (by rw [Array.length_toList, hRs]; omega) R1 R2 hR1 hR2
 have hdl : (X.drop (i * 3 + 3)).length = (n - j) * 3 := by rw [List.length_drop, hXl]; omega
 obtain ⟨W1, hW1⟩ : ∃ W1, W1 = (w.alloc (.cells ROW 76)).drew.drew := ⟨_, rfl⟩
 have hn1 : W1.heap[w.heap.size]? = some (.cells ROW 76 (0, 0)) := by rw [hW1]; exact heap_new w _
 have hg1 : W1.heap[g]? = some (.cells cur 76 (0, 0)) := by rw [hW1]; exact row_al hg _
 have hv1 : W1.heap[vb]? = some (.cells cv 76 (0, 0)) := by rw [hW1]; exact row_al hv _
 have hcpA : ∀ ty dL dc, m ≤ dL → (Builtin.copy_ #[77, 77] ty #[.slice (some ⟨w.heap.size, i * 3, none⟩) dL dc, .slice (some ⟨vb, 0, none⟩) m vc]).run Tryz.prog W1 = .ok (goInt (m : Int)) (W1.setRow w.heap.size R1.toArray) := fun ty dL dc hdL => by
  have hmn : Nat.min m dL = m := by show min _ _ = _; omega
  have := run_copy_rowN (P := Tryz.prog) W1 77 77 ty 76 3 w.heap.size (i * 3) dL dc ⟨vb, 0, none⟩ m vc ROW 76 Y Tryz.underlying77 hsz hn1 (by rw [hYl, hmn])
   (fun k v hk => by
    rw [Addr.add_lit, cell_row hv1, Nat.zero_add]
    rw [← hY, List.getElem?_take] at hk
    split at hk
    ·rw [← hk]; simp
    ·cases hk) (by rw [hYl, hRs]; omega) hy1
  rw [hmn, hYl, ← hR1] at this
  exact this
 obtain ⟨W2, hW2⟩ : ∃ W2, W2 = (W1.setRow w.heap.size R1.toArray).drew := ⟨_, rfl⟩
 have hn2 : W2.heap[w.heap.size]? = some (.cells R1.toArray 76 (0, 0)) := by rw [hW2]; exact setRow_heap W1 _ _ _ _ _ hn1
 have hg2 : W2.heap[g]? = some (.cells cur 76 (0, 0)) := by rw [hW2]; exact (setRow_other W1 _ _ _ (by omega)).trans hg1
 have hcpB : ∀ ty dL dc sc, dL = n - j → (Builtin.copy_ #[77, 77] ty #[.slice (some ⟨w.heap.size, (i + m) * 3, none⟩) dL dc, .slice (some ⟨g, j * 3, none⟩) (n - j) sc]).run Tryz.prog W2 = .ok (goInt ((n - j : Nat) : Int)) (W2.setRow w.heap.size R2.toArray) := fun ty dL dc sc hdL => by
  subst hdL
  have hmn : Nat.min (n - j) (n - j) = n - j := by show min _ _ = _; omega
  have := run_copy_rowN (P := Tryz.prog) W2 77 77 ty 76 3 w.heap.size ((i + m) * 3) (n - j) dc ⟨g, j * 3, none⟩ (n - j) sc R1.toArray 76 (X.drop (i * 3 + 3)) Tryz.underlying77 hsz hn2 (by rw [hdl, hmn])
   (fun k v hk => by
    rw [Addr.add_lit, cell_row hg2]
    rw [List.getElem?_drop, ← hX, List.getElem?_take] at hk
    split at hk
    ·rw [← hk, show j * 3 = i * 3 + 3 by omega]; simp
    ·cases hk) (by rw [hdl, List.size_toArray, hf3, Array.length_toList, hRs]; omega) (fun v hv => hx1 v (List.mem_of_mem_drop hv))
  rw [hmn, hdl, List.toList_toArray, show (i + m) * 3 = i * 3 + m * 3 by omega, ← hR2] at this
  rw [show (i + m) * 3 = i * 3 + m * 3 by omega]
  exact this
 have hfin : (W2.setRow w.heap.size R2.toArray).heap[w.heap.size]? = some (.cells R2.toArray 76 (0, 0)) := setRow_heap _ _ _ _ _ _ hn2
 have hbl : Below w.heap.size w (W2.setRow w.heap.size R2.toArray) := by
  have k1 : Below w.heap.size w W1 := by rw [hW1]; exact ((Below.refl _ w).alloc (Nat.le_refl _) _).drew.drew
  have k2 : Below w.heap.size w W2 := by
   rw [hW2]
   exact (k1.trans ((setRow_keep (N := w.heap.size) R1.toArray).below (Nat.le_refl _) (fun k hk => Nat.le_of_eq hk.symm))).drew
  exact k2.trans ((setRow_keep (N := w.heap.size) R2.toArray).below (Nat.le_refl _) (fun k hk => Nat.le_of_eq hk.symm))
 have HF := Lib.hid (And.intro hGn (And.intro hGm (And.intro hfin (And.intro (show R2.toArray.size = G * 3 by rw [List.size_toArray, hf2, Array.length_toList, hRs]) (And.intro (show R2.toArray.toList.take (T * 3) = X.take (i * 3) ++ Y ++ X.drop (j * 3) by rw [List.toList_toArray, show j * 3 = i * 3 + 3 by omega, ← hf1]; congr 1; omega) hbl)))))
 have mixed : Tryz.prog.follows .mixedOrders = true := by kernel_rfl
 have hz1 : ¬ ((i : Int) = (j : Int)) := by omega
 have hz2 : ¬ ((j : Int) = (n : Int)) := by omega
 have hz3 : (cap : Int) < (i : Int) + (m : Int) + ((n - j : Nat) : Int) := by omega
 have hw1 : IntKind.i64.wrap ((i : Int) + (m : Int)) = (i : Int) + (m : Int) := by rw [IntKind.wrap_i64]; omega
 have hw2 : IntKind.i64.wrap ((i : Int) + (m : Int) + ((n - j : Nat) : Int)) = (i : Int) + (m : Int) + ((n - j : Nat) : Int) := by rw [IntKind.wrap_i64]; omega
 have hw3 : IntKind.i64.wrap ((i : Int) + (m : Int) + ((n - j : Nat) : Int) - (i : Int)) = (i : Int) + (m : Int) + ((n - j : Nat) : Int) - (i : Int) := by rw [IntKind.wrap_i64]; omega
 have hb1 : (0 : Int) ≤ (i : Int) + (m : Int) := by omega
 have htn : ((i : Int) + (m : Int)).toNat = i + m := by omega
 have hb2 : ¬ (G = i + m) := by omega
 have hb4 : ¬ (G = i) := by omega
 have hb5 : (i : Int) ≤ (n : Int) := by omega
 have hb6 : ¬ (cap = j) := by omega
 have hb7 : (i : Int) ≤ (j : Int) := by omega
 have hb8 : (j : Int) ≤ (n : Int) := by omega
 have hb9 : (j : Int) ≤ (cap : Int) := by omega
 have hc3 : (i : Int) ≤ (cap : Int) := by omega
 have hc4 : ¬ (cap = i) := by omega
 have hG63 : G ≤ 9223372036854775807 := by unfold maxLen at hGm; omega
 have hc5 : (i : Int) ≤ (T : Int) := by omega
 have hc6 : (i : Int) + (m : Int) ≤ (T : Int) := by omega
 have hTn : T - (i + m) = n - j := by omega
 have hcA := hcpA 3 (T - i) (G - i) (by omega)
 have hcB : ∀ ty dL dc sc, dL = T - (i + m) → _ := fun ty dL dc sc h => hcpB ty dL dc sc (h.trans hTn)
 clear hR1 hR2 hf1 hf2 hf3 hX hY hXl hYl hdl hfin hbl hg1 hv1 hn1 hn2 hg2 hsz hg hv hcv hcur hold hkk hik hRs hRt hROW hi0 hz0 hzs hzb hG hGm hcpA hcpB hj hi hT
 subst hW2 hW1
 go_enter Tryz.func98, Tryz.ntmps98
 go_wp2
 go_region
 go_wp2_with (first
  | (at_builtin; refine Lib.wpList_append_run _ rfl _ _ _ _ rfl _ _ rfl rfl _ _ (hrz _) ?_)
  | (at_builtin; refine wpList_copy_runI _ rfl _ _ 77 77 rfl _ _ rfl rfl hcA ?_))
 go_region_law_o (refine step_copy_runI rfl _ _ 77 77 rfl _ _ (by simp [Act.eval, Act.put]) (by simp [Act.eval, Act.put]) (hcB _ _ _ _ rfl) ?_)
 go_wp2
 go_ret
 exact ⟨G, _, rfl, HF.out.1, HF.out.2.1, HF.out.2.2.1, HF.out.2.2.2.1, HF.out.2.2.2.2.1, HF.out.2.2.2.2.2⟩
end Go.Proofs.YthekkjfaaedamaaGreatDoor

namespace Go.Proofs.YthekkjfaaedamaaGreatDoor
open Go.RowKit Go.Shelf
attribute [local go_sem] Oper.semAt_some

theorem kCells_take (l : List PB) (k : Nat) (hk : k ≤ l.length) : (kCells l).take (k * 3) = kCells (l.take k) := by
 have h : kCells l = kCells (l.take k) ++ kCells (l.drop k) := by rw [← kCells_append, List.take_append_drop]
 have hl : (kCells (l.take k)).length = k * 3 := by rw [kCells_length, List.length_take, Nat.min_eq_left hk]
 rw [h, List.take_append_of_le_length (by omega), List.take_of_length_le (by omega)]
theorem kCells_drop (l : List PB) (k : Nat) (hk : k ≤ l.length) : (kCells l).drop (k * 3) = kCells (l.drop k) := by
 have h : kCells l = kCells (l.take k) ++ kCells (l.drop k) := by rw [← kCells_append, List.take_append_drop]
 have hl : (kCells (l.take k)).length = k * 3 := by rw [kCells_length, List.length_take, Nat.min_eq_left hk]
 rw [h, List.drop_append_of_le_length (by omega), List.drop_of_length_le (by omega), List.nil_append]
theorem kCells_ones : ∀ (l : List PB), (∀ x ∈ l, x.v.oneCell' = true) → ∀ u ∈ kCells l, u.oneCell' = true
 | [], _, u, hu => by cases hu
 | x :: r, h, u, hu => by
  rcases List.mem_append.1 (show u ∈ kV x ++ kCells r from hu) with g | g
  ·unfold kV at g
   rcases List.mem_cons.1 g with e | g
   ·rw [e]; rfl
   ·rcases List.mem_cons.1 g with e | g
    ·rw [e]; rfl
    ·rw [List.mem_singleton.1 g]; exact h x (List.mem_cons_self ..)
  ·exact kCells_ones r (fun y hy => h y (List.mem_cons_of_mem _ hy)) u g
set_option maxRecDepth 100000 in
set_option maxHeartbeats 4000000 in
theorem replace_end (g cap n i : Nat) (xs ys : List Value) (n₀ vb m vc : Nat) (w : World) (ho : w.ownsRow n₀ 76 3 (.slice (some ⟨g, 0, none⟩) i cap) i xs) (hys : ys.length = m * 3) (hsrc : ∀ j u, ys[j]? = some u → w.cell? ((⟨vb, 0, none⟩ : Addr).add j) = some u) (hy1 : ∀ u ∈ ys, u.oneCell' = true) (hj : n = i + 1) (hm : 2 ≤ m) (hnm : n + m ≤ 1000000) (hnc : n ≤ cap) (hb : n₀ ≤ w.heap.size) :
  Calls Tryz.prog 98 #[.slice (some ⟨g, 0, none⟩) n cap, .int .i64 (i : Int), .int .i64 (n : Int), .slice (some ⟨vb, 0, none⟩) m vc] w fun e w' => ∃ v', e = .returned v' ∧ w'.ownsRow n₀ 76 3 v' (i + m) (xs ++ ys) ∧ w.grownBy w' (some g) ∧ (v'.ownBlock = some g ∨ v'.ownBlock = some w.heap.size) := by
 obtain ⟨i0, hi, hz, hs, hy⟩ := infoBlkI
 obtain ⟨v', w', hrun, h1, h2, -, h4⟩ := run_append_own_at (P := Tryz.prog) (w := w) n₀ 77 77 76 i0 _ 3 40 Tryz.underlying77 hi hz hs hy rfl (by decide) _ i xs ho ⟨vb, 0, none⟩ m vc ys hys hsrc hy1 (by unfold maxLen; omega) (by omega) hb
 obtain ⟨g', cap', rfl, -, -⟩ := ownsRow_form h1 (by omega)
 have HF := Lib.hid (And.intro h1 (And.intro h2 h4))
 have hz1 : ¬ ((i : Int) = (n : Int)) := by omega
 have hz2 : ¬ ((i + m : Nat) : Int) < (n : Int) := by omega
 have hb1 : (i : Int) ≤ (n : Int) := by omega
 have hb6 : (n : Int) ≤ (cap : Int) := by omega
 have hb7 : (i : Int) ≤ (cap : Int) := by omega
 have hb8 : ¬ (cap = i) := by omega
 clear hi hz hs hy hys hsrc hy1 h1 h2 h4 ho hj
 go_enter Tryz.func98, Tryz.ntmps98
 go_wp2_with (at_builtin; refine Lib.wpList_append_run _ rfl _ _ _ _ rfl _ _ rfl rfl _ _ hrun ?_)
 go_ret
 exact ⟨_, rfl, HF.out.1, HF.out.2.1, HF.out.2.2⟩
theorem replace_any (n₀ n₁ k : Nat) (v u : Value) (bs ms : List PB) (w : World) (ho : w.ownsRow n₀ 76 3 v bs.length (kCells bs)) (hu : w.ownsRow n₁ 76 3 u ms.length (kCells ms)) (hap : ∀ g, v.ownBlock = some g → u.ownBlock = some g → False) (hx : ∀ x ∈ bs, x.v.oneCell' = true) (hy : ∀ x ∈ ms, x.v.oneCell' = true) (hk : k < bs.length) (hm : 2 ≤ ms.length) (hnm : bs.length + ms.length ≤ 1000000) (hb : n₀ ≤ w.heap.size) :
  Calls Tryz.prog 98 #[v, .int .i64 (k : Int), .int .i64 ((k + 1 : Nat) : Int), u] w fun e w' => ∃ v', e = .returned v' ∧ w'.ownsRow n₀ 76 3 v' (bs.take k ++ ms ++ bs.drop (k + 1)).length (kCells (bs.take k ++ ms ++ bs.drop (k + 1))) ∧ Keep (fun j => v.ownBlock = some j) w.heap.size w w' ∧ (∀ g, v'.ownBlock = some g → v.ownBlock = some g ∨ w.heap.size ≤ g) := by
 have hlen : (bs.take k ++ ms ++ bs.drop (k + 1)).length = k + ms.length + (bs.length - (k + 1)) := by simp; omega
 have hcl : kCells (bs.take k ++ ms ++ bs.drop (k + 1)) = (kCells bs).take (k * 3) ++ kCells ms ++ (kCells bs).drop ((k + 1) * 3) := by
  rw [kCells_append, kCells_append, ← kCells_take _ _ (Nat.le_of_lt hk), ← kCells_drop _ _ hk]
 have hsz := kCells_length (bs.take k ++ ms ++ bs.drop (k + 1))
 rw [hlen] at hsz ⊢
 rw [hcl] at hsz ⊢
 rcases ho.2 with ⟨_, h0⟩ | ⟨g, cap, cur, rfl, hg0, hg, hnc, hcm, hcur, hX⟩
 ·omega
 rcases hu.2 with ⟨_, h0⟩ | ⟨vb, vc, cv, rfl, -, hv, hmv, -, hcv, hY⟩
 ·omega
 have hne : g ≠ vb := fun e => hap g rfl (by rw [e]; rfl)
 have hc63 : cap ≤ 9223372036854775807 := by unfold maxLen at hcm; omega
 rcases Nat.lt_or_ge (k + 1) bs.length with hlt | hge
 ·rcases Nat.lt_or_ge cap (k + ms.length + (bs.length - (k + 1))) with hgr | hsh
  ·refine (replace_grow g cap bs.length k (k + 1) vb ms.length vc _ cur cv _ _ w hg hcur hX hv hY (by rw [hcv]; exact Nat.mul_le_mul_right 3 hmv) (kCells_ones bs hx) (kCells_ones ms hy) rfl hlt hm rfl hgr hnm hnc hc63).mono ?_
   rintro e w' ⟨G, cur', rfl, h1, h2, h3, h4, h5, h6⟩
   refine ⟨_, rfl, ⟨hsz, .inr ⟨w.heap.size, G, cur', rfl, hb, h3, h1, h2, h4, h5⟩⟩, Keep.of_below h6 (Nat.le_refl _), fun q hq => .inr ?_⟩
   simp [Value.ownBlock] at hq
   omega
  ·refine (replace_shift g cap bs.length k (k + 1) vb ms.length vc cur cv _ _ w hg hcur hX hv hY (by rw [hcv]; exact Nat.mul_le_mul_right 3 hmv) (by rw [hcv]; omega) hne (kCells_ones bs hx) (kCells_ones ms hy) rfl hlt hm hsh hc63 hnm hnc).mono ?_
   rintro e w' ⟨rfl, cur', h1, h2, h3, h4⟩
   exact ⟨_, rfl, ⟨hsz, .inr ⟨g, cap, cur', rfl, hg0, h1, hsh, hcm, h2, h3⟩⟩, h4.weak (Nat.le_refl _) (fun q _ hq => by rw [hq]; rfl), fun q hq => .inl hq⟩
 ·have hbk : bs.length = k + 1 := by omega
  have hok : w.ownsRow n₀ 76 3 (.slice (some ⟨g, 0, none⟩) k cap) k ((kCells bs).take (k * 3)) := ⟨by rw [List.length_take, kCells_length]; omega, .inr ⟨g, cap, cur, rfl, hg0, hg, by omega, hcm, hcur, by rw [← hX, List.take_take]; congr 1; omega⟩⟩
  have hsrc : ∀ j u, (kCells ms)[j]? = some u → w.cell? ((⟨vb, 0, none⟩ : Addr).add j) = some u := hu.cells rfl
  have hr := replace_end g cap bs.length k _ _ n₀ vb ms.length vc w hok (kCells_length ms) hsrc (kCells_ones ms hy) hbk hm hnm hnc hb
  rw [hbk] at hr ⊢
  refine hr.mono ?_
  rintro e w' ⟨v', rfl, h1, h2, h3⟩
  refine ⟨v', rfl, ?_, (Keep.refl _ _ w).grown h2 (Nat.le_refl _) (fun q hq => .inl (by cases hq; rfl)), fun q hq => ?_⟩
  ·rw [List.drop_of_length_le (by rw [kCells_length, hbk]; exact Nat.le_refl _), List.append_nil, Nat.sub_self, Nat.add_zero]
   exact h1
  ·rcases h3 with h | h
   ·rw [h] at hq
    cases hq
    exact .inl rfl
   ·rw [h] at hq
    cases hq
    exact .inr (Nat.le_refl _)
end Go.Proofs.YthekkjfaaedamaaGreatDoor
