/- A document takes the names of cells out. -/
import Derived.Test.YtfoglciiefoodaaGreatDoorCellsKnow
import Derived.Test.YtfoglciiefoodaaGreatDoorGCellsNames
namespace Go.Proofs.YtfoglciiefoodaaGreatDoor
open Go.RowKit Go.Shelf Go.Maps
attribute [local go_sem] Oper.semAt_some

def forgN (I : List Id3) (l : List PCell) : List Id3 := I.filter fun x => decide (¬ x ∈ l.map idC)
theorem forgN_mem {I : List Id3} {l : List PCell} {x : Id3} : x ∈ forgN I l ↔ x ∈ I ∧ ¬ x ∈ l.map idC := by unfold forgN; rw [List.mem_filter, decide_eq_true_iff]
theorem forgN_nil (I : List Id3) : forgN I [] = I := by unfold forgN; simp
theorem forgN_len (I : List Id3) (l : List PCell) : (forgN I l).length ≤ I.length := List.length_filter_le _ _
theorem forgN_next {I : List Id3} {l : List PCell} {c : PCell} (x : Id3) : x ∈ forgN I (l ++ [c]) ↔ x ∈ forgN I l ∧ x ≠ idC c := by
  rw [forgN_mem, forgN_mem, List.map_append, List.mem_append]
  simp only [List.map_cons, List.map_nil, List.mem_singleton]
  exact ⟨fun ⟨a, b⟩ => ⟨⟨a, fun h => b (.inl h)⟩, fun h => b (.inr h)⟩, fun ⟨⟨a, b⟩, e⟩ => ⟨a, fun h => h.elim b e⟩⟩
set_option maxRecDepth 100000 in
set_option maxHeartbeats 16000000 in
theorem forget_any (B M : Nat) (bv : Value) (I : List Id3) (v : Value) (l : List PCell) (w0 : World) (hB : w0.heap[B]? = some (.cells #[bv, .map (some M)] 79 (0, 0))) (hM : NMap w0 M I) (hv : CAt w0 v l) (hok : ∀ c ∈ l, nWf (c.site, c.seq) ∧ 0 ≤ c.off ∧ c.off < 200) (hI : ∀ x ∈ I, 0 ≤ x.2.2 ∧ x.2.2 < 200) (hlen : I.length ≤ 1000000) (hl : l.length ≤ 1000000) :
    Calls Tryz.prog 97 #[.pointer (some ⟨B, 0, none⟩), v] w0 fun e w' => (∃ r, e = .returned r) ∧ NMap w' M (forgN I l) ∧ Keep (fun k => k = M) w0.heap.size w0 w' ∧ w'.heap[B]? = some (.cells #[bv, .map (some M)] 79 (0, 0)) := by
  have HV := Lib.hid (fun W (K : Keep (fun k => k = M) w0.heap.size w0 W) => hv.km hM K)
  have HOK := Lib.hid hok
  have HI0 := Lib.hid hI
  have hsh := hv.shape
  obtain ⟨ao, cap, rfl, -⟩ := hsh
  obtain ⟨N, hN⟩ : ∃ N, l.length = N := ⟨_, rfl⟩
  have HN := Lib.hid hN
  rw [hN] at hl
  have hmn : M ≠ B := (ne_map hM hB).symm
  have HB := Lib.hid hB
  have hBlt := box_lt hB
  have h0 : NMap w0 M (forgN I (l.take 0)) ∧ Keep (fun k => k = M) w0.heap.size w0 w0 ∧ w0.heap[B]? = some (.cells #[bv, .map (some M)] 79 (0, 0)) := ⟨by rw [List.take_zero, forgN_nil]; exact hM, Keep.refl _ _ _, HB.out⟩
  have H0 := Lib.hid h0
  clear hN hv hok hB hI h0 hM
  rw [HN.out]
  go_enter Tryz.func97, Tryz.ntmps97
  go_wp2
  go_loopw [9] (fun i wr => ∃ k : Nat, k ≤ N ∧ i = .int .i64 k ∧ RowKit.Hid (NMap wr M (forgN I (l.take k)) ∧ Keep (fun k => k = M) w0.heap.size w0 wr ∧ wr.heap[B]? = some (.cells #[bv, .map (some M)] 79 (0, 0)))) (fun i _ => N - (intOf i).toNat)
  case atStart => exact ⟨0, Nat.zero_le _, rfl, H0⟩
  case round =>
    rename World => wr
    obtain ⟨k, hk, rfl, hI⟩ := hrel
    rcases Nat.lt_or_ge k N with hlt | hge
    · obtain ⟨c, hc⟩ : ∃ c, l[k]? = some c := ⟨_, List.getElem?_eq_getElem (by rw [HN.out]; exact hlt)⟩
      obtain ⟨b, off', cp, hvv, c0, c1, c2, c3, c4⟩ := (HV.out _ hI.out.2.1).at hc
      rw [HN.out] at hvv
      cases hvv
      have hi0 : (0 : Int) ≤ (k : Int) ∧ (k : Int) < (N : Int) := ⟨by omega, by omega⟩
      obtain ⟨hwf, ho0, ho1⟩ := HOK.out c (List.mem_of_getElem? hc)
      obtain ⟨Ik, hIk⟩ : ∃ z, forgN I (l.take k) = z := ⟨_, rfl⟩
      obtain ⟨In, hIn⟩ : ∃ z, forgN I (l.take (k + 1)) = z := ⟨_, rfl⟩
      have hmem : ∀ x, x ∈ In ↔ x ∈ Ik ∧ x ≠ idC c := fun x => by rw [← hIn, ← hIk, List.take_add_one, hc]; exact forgN_next x
      have hIo : ∀ x ∈ Ik, 0 ≤ x.2.2 ∧ x.2.2 < 200 := fun x hx => HI0.out x (by rw [← hIk] at hx; exact (forgN_mem.1 hx).1)
      rw [hIk] at hI
      have hlk : Ik.length ≤ 1000000 := by rw [← hIk]; exact Nat.le_trans (forgN_len _ _) hlen
      have HNX := Lib.hid hIn
      obtain ⟨s, q, f, r, g⟩ := c
      dsimp only at c0 c1 c2 c3 c4 hwf ho0 ho1
      have hmem : ∀ x, x ∈ In ↔ x ∈ Ik ∧ x ≠ ((s, q).1, (s, q).2, ((f.toNat : Nat) : Int)) := fun x => by
        rw [hmem x, show ((f.toNat : Nat) : Int) = f by omega]
        rfl
      obtain ⟨n0, k0, b0⟩ := hI.out
      have n1 := n0.alloc (.cells #[.int .i64 s, .int .i64 q, .int .i64 f, .int .i32 r, .bool g] 62)
      have k1 := k0.alloc k0.size (.cells #[.int .i64 s, .int .i64 q, .int .i64 f, .int .i32 r, .bool g] 62)
      have b1 := row_al b0 (.cells #[.int .i64 s, .int .i64 q, .int .i64 f, .int .i32 r, .bool g] 62)
      have e1 := heap_new wr (.cells #[.int .i64 s, .int .i64 q, .int .i64 f, .int .i32 r, .bool g] 62)
      have hsz : (wr.alloc (.cells #[.int .i64 s, .int .i64 q, .int .i64 f, .int .i32 r, .bool g] 62)).heap.size = wr.heap.size + 1 := by simp
      have HW := Lib.hid hwf
      have hBw := box_lt b0
      have hMw := n0.lt
      obtain ⟨a0, a1, a2, a3, hoff⟩ : ∃ a0 a1 a2 a3 : Int, offV (offI Ik (s, q)) = .agg #[.int .u64 a0, .int .u64 a1, .int .u64 a2, .int .u64 a3] := ⟨_, _, _, _, rfl⟩
      obtain ⟨d0, d1, d2, d3, hdel⟩ : ∃ a0 a1 a2 a3 : Int, offV (delF (offI Ik (s, q)) f.toNat) = .agg #[.int .u64 a0, .int .u64 a1, .int .u64 a2, .int .u64 a3] := ⟨_, _, _, _, rfl⟩
      have hwo := fun W => without_any (offI Ik (s, q)) f W ho0 ho1
      rw [hoff, hdel] at hwo
      have HWO := Lib.hid hwo
      have HOFF := Lib.hid hoff
      have HDEL := Lib.hid hdel
      have hleft := left_has hIo hmem hdel
      obtain ⟨z, hz⟩ : ∃ z, (d0 == 0 && d1 == 0 && d2 == 0 && d3 == 0) = z := ⟨_, rfl⟩
      rw [hz] at hleft
      have HLE := Lib.hid hleft
      have HMEM := Lib.hid hmem
      have heq := fun W => offs_eql d0 d1 d2 d3 z hz W
      have HEQ := Lib.hid heq
      have HA := Lib.hid (And.intro n1 (And.intro k1 (And.intro b1 (And.intro e1 hsz))))
      clear hc hIk hIn n0 k0 b0 n1 k1 b1 e1 hsz hI hwf hoff hdel hwo hleft hmem hz hIo ho0 ho1 heq
      go_wp2
      generalize wr.alloc (.cells #[.int .i64 s, .int .i64 q, .int .i64 f, .int .i32 r, .bool g] 62) = wa at HA ⊢
      refine wp_region_held_drew (S := fun X => X.heap[wr.heap.size]? = some (.cells #[.int .i64 s, .int .i64 q, .int .i64 f, .int .i32 r, .bool g] 62 (0, 0)) ∧ X.heap[B]? = some (.cells #[bv, .map (some M)] 79 (0, 0)) ∧ NMap X M Ik ∧ Keep (fun k => k = M) w0.heap.size w0 X ∧ wr.heap.size + 1 ≤ X.heap.size) (by kernel_rfl) ⟨HA.out.2.2.2.1, HA.out.2.2.1, HA.out.1.drew, HA.out.2.1.drew, by have := HA.out.2.2.2.2; exact Nat.le_of_eq this.symm⟩ (fun hHeld => ?_)
      refine wpAnyH_take (i := 0) (v := ?_) rfl (by kernel_rfl) (by kernel_rfl) (by kernel_rfl) (fun _ _ _ h => h) (Or.inl ⟨rfl, ?hy14⟩) (by assumption) ?_
      case hy14 =>
        intro W hS
        go_simp
        try with_reducible rfl
      try simp only [Act.put, List.getElem_toArray, List.getElem_cons_zero, List.setIfInBounds_toArray, List.set_cons_zero, List.set_cons_succ]
      refine wpAnyH_take (i := 1) (v := ?_) rfl (by kernel_rfl) (by kernel_rfl) (by kernel_rfl) (fun _ _ _ h => h) (Or.inl ⟨rfl, ?hy15⟩) (by assumption) ?_
      case hy15 =>
        intro W hS
        go_simp
        try with_reducible rfl
      try simp only [Act.put, List.getElem_toArray, List.getElem_cons_succ, List.getElem_cons_zero, List.setIfInBounds_toArray, List.set_cons_zero, List.set_cons_succ]
      refine wpAnyH_take (i := 2) (v := ?_) rfl (by kernel_rfl) (by kernel_rfl) (by kernel_rfl) (fun _ _ _ h => h) (Or.inl ⟨rfl, ?hy16⟩) (by assumption) ?_
      case hy16 =>
        intro W hS
        go_simp
        try with_reducible rfl
      try simp only [Act.put, List.getElem_toArray, List.getElem_cons_succ, List.getElem_cons_zero, List.setIfInBounds_toArray, List.set_cons_zero, List.set_cons_succ]
      refine wpAnyH_take (i := 3) (v := ?_) rfl (by kernel_rfl) (by kernel_rfl) (by kernel_rfl) (fun _ _ _ h => h) (Or.inl ⟨rfl, ?hy17⟩) (by assumption) ?_
      case hy17 =>
        intro W hS
        obtain ⟨s0, s1, s2, -, -⟩ := hS
        have u0 := box_cell s0 0
        have u1 := box_cell s0 1
        have u2 := box_cell s0 2
        have u3 := box_cell s1 1
        go_simp
        try with_reducible rfl
      try simp only [Act.put, List.getElem_toArray, List.getElem_cons_succ, List.getElem_cons_zero, List.setIfInBounds_toArray, List.set_cons_zero, List.set_cons_succ]
      refine wpAnyH_take (i := 4) (v := ?_) rfl (by kernel_rfl) (by kernel_rfl) (by kernel_rfl) (fun _ _ _ h => h) (Or.inl ⟨rfl, ?hy18⟩) (by assumption) ?_
      case hy18 =>
        intro W hS
        go_simp
        try with_reducible rfl
      try simp only [Act.put, List.getElem_toArray, List.getElem_cons_succ, List.getElem_cons_zero, List.setIfInBounds_toArray, List.set_cons_zero, List.set_cons_succ]
      refine wpAnyH_take (i := 5) (v := ?_) rfl (by kernel_rfl) (by kernel_rfl) (by kernel_rfl) (fun _ _ _ h => h) (Or.inl ⟨rfl, ?hy19⟩) (by assumption) ?_
      case hy19 =>
        intro W hS
        obtain ⟨s0, s1, s2, -, -⟩ := hS
        have u0 := box_cell s0 0
        have u1 := box_cell s0 1
        have u2 := box_cell s0 2
        have u3 := box_cell s1 1
        go_simp
        try with_reducible rfl
      try simp only [Act.put, List.getElem_toArray, List.getElem_cons_succ, List.getElem_cons_zero, List.setIfInBounds_toArray, List.set_cons_zero, List.set_cons_succ]
      refine wpAnyH_take (i := 6) (v := ?_) rfl (by kernel_rfl) (by kernel_rfl) (by kernel_rfl) (fun _ _ _ h => h) (Or.inl ⟨rfl, ?hy20⟩) (by assumption) ?_
      case hy20 =>
        intro W hS
        obtain ⟨-, -, s2, -, -⟩ := hS
        have hlk := s2.look (p := (s, q)) HW.out
        rw [HOFF.out] at hlk
        go_simp
        try with_reducible rfl
      try simp only [Act.put, List.getElem_toArray, List.getElem_cons_succ, List.getElem_cons_zero, List.setIfInBounds_toArray, List.set_cons_zero, List.set_cons_succ]
      refine wpAnyH_take (i := 7) (v := ?_) rfl (by kernel_rfl) (by kernel_rfl) (by kernel_rfl) (fun _ _ _ h => h) (Or.inl ⟨rfl, ?hy21⟩) (by assumption) ?_
      case hy21 =>
        intro W hS
        go_simp
        try with_reducible rfl
      try simp only [Act.put, List.getElem_toArray, List.getElem_cons_succ, List.getElem_cons_zero, List.setIfInBounds_toArray, List.set_cons_zero, List.set_cons_succ]
      refine wpAnyH_take (i := 8) (v := ?_) rfl (by kernel_rfl) (by kernel_rfl) (by kernel_rfl) (fun _ _ _ h => h) (Or.inl ⟨rfl, ?hy22⟩) (by assumption) ?_
      case hy22 =>
        intro W hS
        obtain ⟨s0, s1, s2, -, -⟩ := hS
        have u0 := box_cell s0 0
        have u1 := box_cell s0 1
        have u2 := box_cell s0 2
        have u3 := box_cell s1 1
        go_simp
        try with_reducible rfl
      try simp only [Act.put, List.getElem_toArray, List.getElem_cons_succ, List.getElem_cons_zero, List.setIfInBounds_toArray, List.set_cons_zero, List.set_cons_succ]
      refine wpAnyH_ready (rs := [9, 10]) (by kernel_rfl) (by simp) (AllReadyH.cons rfl (fun K hK => ?_) (AllReadyH.cons rfl (fun K hK => ?_) AllReadyH.nil))
      · go_simp
        go_wp2_with (go_at_call 113; refine (HWO.out _).mono ?_; rintro e wq ⟨rfl, hb⟩)
        refine hK.out _ _ (⟨row_up hHeld.1 hb, row_up hHeld.2.1 hb, hHeld.2.2.1.below hb, hHeld.2.2.2.1.trans (Keep.of_below hb hHeld.2.2.2.1.size), Nat.le_trans hHeld.2.2.2.2 hb.size⟩) (fun hX => ?_)
        clear hK K hHeld
        have hHeld := hX
        clear hX
        refine wpAnyH_ready (rs := [10]) (by kernel_rfl) (by simp) (AllReadyH.cons rfl (fun K hK => ?_) AllReadyH.nil)
        go_simp
        have o0 : (wq.alloc (.cells #[.int .u64 0, .int .u64 0, .int .u64 0, .int .u64 0] 109)).heap[wq.heap.size]? = some (.cells #[.int .u64 0, .int .u64 0, .int .u64 0, .int .u64 0] 109 (0, 0)) := heap_new wq (.cells #[.int .u64 0, .int .u64 0, .int .u64 0, .int .u64 0] 109)
        refine hK.out _ _ (⟨row_al hHeld.1 _, row_al hHeld.2.1 _, hHeld.2.2.1.alloc _, hHeld.2.2.2.1.alloc hHeld.2.2.2.1.size _, Nat.le_trans hHeld.2.2.2.2 (by simp)⟩) (fun hX => ?_)
        clear hK K hHeld
        have hHeld := hX
        clear hX
        refine wpAnyH_ready (rs := [11]) (by kernel_rfl) (by simp) (AllReadyH.cons rfl (fun K hK => ?_) AllReadyH.nil)
        have hsA := HA.out.2.2.2.2
        have hkW := HA.out.2.1.size
        have hqs : wa.heap.size ≤ wq.heap.size := hb.size
        obtain ⟨A0, hA0⟩ : ∃ A0, wq.heap.size = A0 := ⟨_, rfl⟩
        have hneC : wr.heap.size ≠ A0 := by omega
        have hneB : B ≠ A0 := by omega
        have hneM : M ≠ A0 := by omega
        have hwA : w0.heap.size ≤ A0 := by omega
        rw [hA0] at o0
        generalize (wq.alloc (.cells #[.int .u64 0, .int .u64 0, .int .u64 0, .int .u64 0] 109)) = Y at hHeld o0 ⊢
        try rw [hA0]
        have f0 := box_frozen o0 0
        have f1 := box_frozen o0 1
        have f2 := box_frozen o0 2
        have f3 := box_frozen o0 3
        have e0 := box_cell o0 0
        have e1 := box_cell o0 1
        have e2 := box_cell o0 2
        have e3 := box_cell o0 3
        go_simp
        refine hK.out _ _ (⟨((box_other hneC 3 _).trans ((box_other hneC 2 _).trans ((box_other hneC 1 _).trans ((box_other hneC 0 _).trans hHeld.1)))), ((box_other hneB 3 _).trans ((box_other hneB 2 _).trans ((box_other hneB 1 _).trans ((box_other hneB 0 _).trans hHeld.2.1)))), (NMap.set (NMap.set (NMap.set (NMap.set hHeld.2.2.1 (o := 0) hneM) (o := 1) hneM) (o := 2) hneM) (o := 3) hneM), (Keep.setCell (Keep.setCell (Keep.setCell (Keep.setCell hHeld.2.2.2.1 (p := ⟨A0, 0, none⟩) (Or.inr (by show w0.heap.size ≤ A0; omega)) _) (p := ⟨A0, 1, none⟩) (Or.inr (by show w0.heap.size ≤ A0; omega)) _) (p := ⟨A0, 2, none⟩) (Or.inr (by show w0.heap.size ≤ A0; omega)) _) (p := ⟨A0, 3, none⟩) (Or.inr (by show w0.heap.size ≤ A0; omega)) _), by simp [World.setCell]; exact hHeld.2.2.2.2⟩) (fun hX => ?_)
        clear hK K hHeld
        have hHeld := hX
        clear hX
        refine wpAnyH_done (by kernel_rfl) ?_ _
        obtain ⟨x0, x1, x2, x3, x4⟩ := hHeld
        have p1 : ((((Y.setCell ⟨A0, 0, none⟩ (.int .u64 d0)).setCell ⟨A0, 1, none⟩ (.int .u64 d1)).setCell ⟨A0, 2, none⟩ (.int .u64 d2)).setCell ⟨A0, 3, none⟩ (.int .u64 d3)).heap[A0]? = some (.cells #[.int .u64 d0, .int .u64 d1, .int .u64 d2, .int .u64 d3] 109 (0, 0)) := box_set (box_set (box_set (box_set o0 0 (.int .u64 d0)) 1 (.int .u64 d1)) 2 (.int .u64 d2)) 3 (.int .u64 d3)
        generalize ((((Y.setCell ⟨A0, 0, none⟩ (.int .u64 d0)).setCell ⟨A0, 1, none⟩ (.int .u64 d1)).setCell ⟨A0, 2, none⟩ (.int .u64 d2)).setCell ⟨A0, 3, none⟩ (.int .u64 d3)) = Z at x0 x1 x2 x3 x4 p1 ⊢
        have z0 := box_cell p1 0
        have z1 := box_cell p1 1
        have z2 := box_cell p1 2
        have z3 := box_cell p1 3
        have HX := Lib.hid (And.intro x0 (And.intro x1 (And.intro x2 (And.intro x3 (And.intro x4 p1)))))
        clear o0 f0 f1 f2 f3 e0 e1 e2 e3 x0 x1 x2 x3 x4 p1
        have hq := fun W => HEQ.out W
        cases z with
        | true =>
          go_wp2
          refine wp_region_held_drew (S := fun X => X.heap[wr.heap.size]? = some (.cells #[.int .i64 s, .int .i64 q, .int .i64 f, .int .i32 r, .bool g] 62 (0, 0)) ∧ X.heap[B]? = some (.cells #[bv, .map (some M)] 79 (0, 0)) ∧ X.heap[A0]? = some (.cells #[.int .u64 d0, .int .u64 d1, .int .u64 d2, .int .u64 d3] 109 (0, 0)) ∧ Keep (fun k => k = M) w0.heap.size w0 X) (by kernel_rfl) ⟨HX.out.1, HX.out.2.1, HX.out.2.2.2.2.2, HX.out.2.2.2.1.drew⟩ (fun hHeld => ?_)
          refine wpAnyH_take (i := 0) (v := ?_) rfl (by kernel_rfl) (by kernel_rfl) (by kernel_rfl) (fun _ _ _ h => h) (Or.inl ⟨rfl, ?hy1⟩) (by assumption) ?_
          case hy1 =>
            intro W hS
            go_simp
            try with_reducible rfl
          try simp only [Act.put, List.getElem_toArray, List.getElem_cons_zero, List.setIfInBounds_toArray, List.set_cons_zero, List.set_cons_succ]
          refine wpAnyH_take (i := 1) (v := ?_) rfl (by kernel_rfl) (by kernel_rfl) (by kernel_rfl) (fun _ _ _ h => h) (Or.inl ⟨rfl, ?hy2⟩) (by assumption) ?_
          case hy2 =>
            intro W hS
            go_simp
            try with_reducible rfl
          try simp only [Act.put, List.getElem_toArray, List.getElem_cons_succ, List.getElem_cons_zero, List.setIfInBounds_toArray, List.set_cons_zero, List.set_cons_succ]
          refine wpAnyH_take (i := 2) (v := ?_) rfl (by kernel_rfl) (by kernel_rfl) (by kernel_rfl) (fun _ _ _ h => h) (Or.inl ⟨rfl, ?hy3⟩) (by assumption) ?_
          case hy3 =>
            intro W hS
            go_simp
            try with_reducible rfl
          try simp only [Act.put, List.getElem_toArray, List.getElem_cons_succ, List.getElem_cons_zero, List.setIfInBounds_toArray, List.set_cons_zero, List.set_cons_succ]
          refine wpAnyH_take (i := 3) (v := ?_) rfl (by kernel_rfl) (by kernel_rfl) (by kernel_rfl) (fun _ _ _ h => h) (Or.inl ⟨rfl, ?hy4⟩) (by assumption) ?_
          case hy4 =>
            intro W hS
            obtain ⟨s0, s1, s2, -⟩ := hS
            have u0 := box_cell s0 0
            have u1 := box_cell s0 1
            have u3 := box_cell s1 1
            have v0 := box_cell s2 0
            have v1 := box_cell s2 1
            have v2 := box_cell s2 2
            have v3 := box_cell s2 3
            go_simp
            try with_reducible rfl
          try simp only [Act.put, List.getElem_toArray, List.getElem_cons_succ, List.getElem_cons_zero, List.setIfInBounds_toArray, List.set_cons_zero, List.set_cons_succ]
          refine wpAnyH_take (i := 4) (v := ?_) rfl (by kernel_rfl) (by kernel_rfl) (by kernel_rfl) (fun _ _ _ h => h) (Or.inl ⟨rfl, ?hy5⟩) (by assumption) ?_
          case hy5 =>
            intro W hS
            go_simp
            try with_reducible rfl
          try simp only [Act.put, List.getElem_toArray, List.getElem_cons_succ, List.getElem_cons_zero, List.setIfInBounds_toArray, List.set_cons_zero, List.set_cons_succ]
          refine wpAnyH_take (i := 5) (v := ?_) rfl (by kernel_rfl) (by kernel_rfl) (by kernel_rfl) (fun _ _ _ h => h) (Or.inl ⟨rfl, ?hy6⟩) (by assumption) ?_
          case hy6 =>
            intro W hS
            obtain ⟨s0, s1, s2, -⟩ := hS
            have u0 := box_cell s0 0
            have u1 := box_cell s0 1
            have u3 := box_cell s1 1
            have v0 := box_cell s2 0
            have v1 := box_cell s2 1
            have v2 := box_cell s2 2
            have v3 := box_cell s2 3
            go_simp
            try with_reducible rfl
          try simp only [Act.put, List.getElem_toArray, List.getElem_cons_succ, List.getElem_cons_zero, List.setIfInBounds_toArray, List.set_cons_zero, List.set_cons_succ]
          refine wpAnyH_ready (rs := [6]) (by kernel_rfl) (by simp) (AllReadyH.cons rfl (fun K hK => ?_) AllReadyH.nil)
          have hnm := HX.out.2.2.1.drew
          obtain ⟨W2, hup, hn2, hmt⟩ := hnm.del (p := (s, q)) HW.out f.toNat HMEM.out HLE.out 0
          go_simp
          refine hK.out _ _ (⟨turned_row hmt hnm hHeld.1, turned_row hmt hnm hHeld.2.1, turned_row hmt hnm hHeld.2.2.1, hHeld.2.2.2.trans (turned_keep hmt)⟩) (fun hX => ?_)
          clear hK K hHeld
          have hHeld := hX
          clear hX
          refine wpAnyH_done (by kernel_rfl) ?_ _
          have HE := Lib.hid (And.intro hn2 hHeld)
          clear hn2 hHeld hup hnm hmt
          go_wp2
          go_roundw
          case rel =>
            obtain ⟨hn2, y0, y1, y2, y3⟩ := HE.out
            exact ⟨k + 1, by omega, by go_num, Lib.hid ⟨by rw [HNX.out]; exact hn2, y3, y1⟩⟩
          case measure => simp [intOf]; omega
        | false =>
          go_wp2
          refine wp_region_held_drew (S := fun X => X.heap[wr.heap.size]? = some (.cells #[.int .i64 s, .int .i64 q, .int .i64 f, .int .i32 r, .bool g] 62 (0, 0)) ∧ X.heap[B]? = some (.cells #[bv, .map (some M)] 79 (0, 0)) ∧ X.heap[A0]? = some (.cells #[.int .u64 d0, .int .u64 d1, .int .u64 d2, .int .u64 d3] 109 (0, 0)) ∧ Keep (fun k => k = M) w0.heap.size w0 X) (by kernel_rfl) ⟨HX.out.1, HX.out.2.1, HX.out.2.2.2.2.2, HX.out.2.2.2.1.drew⟩ (fun hHeld => ?_)
          refine wpAnyH_take (i := 0) (v := ?_) rfl (by kernel_rfl) (by kernel_rfl) (by kernel_rfl) (fun _ _ _ h => h) (Or.inl ⟨rfl, ?hy7⟩) (by assumption) ?_
          case hy7 =>
            intro W hS
            go_simp
            try with_reducible rfl
          try simp only [Act.put, List.getElem_toArray, List.getElem_cons_zero, List.setIfInBounds_toArray, List.set_cons_zero, List.set_cons_succ]
          refine wpAnyH_take (i := 1) (v := ?_) rfl (by kernel_rfl) (by kernel_rfl) (by kernel_rfl) (fun _ _ _ h => h) (Or.inl ⟨rfl, ?hy8⟩) (by assumption) ?_
          case hy8 =>
            intro W hS
            go_simp
            try with_reducible rfl
          try simp only [Act.put, List.getElem_toArray, List.getElem_cons_succ, List.getElem_cons_zero, List.setIfInBounds_toArray, List.set_cons_zero, List.set_cons_succ]
          refine wpAnyH_take (i := 2) (v := ?_) rfl (by kernel_rfl) (by kernel_rfl) (by kernel_rfl) (fun _ _ _ h => h) (Or.inl ⟨rfl, ?hy9⟩) (by assumption) ?_
          case hy9 =>
            intro W hS
            go_simp
            try with_reducible rfl
          try simp only [Act.put, List.getElem_toArray, List.getElem_cons_succ, List.getElem_cons_zero, List.setIfInBounds_toArray, List.set_cons_zero, List.set_cons_succ]
          refine wpAnyH_take (i := 3) (v := ?_) rfl (by kernel_rfl) (by kernel_rfl) (by kernel_rfl) (fun _ _ _ h => h) (Or.inl ⟨rfl, ?hy10⟩) (by assumption) ?_
          case hy10 =>
            intro W hS
            obtain ⟨s0, s1, s2, -⟩ := hS
            have u0 := box_cell s0 0
            have u1 := box_cell s0 1
            have u3 := box_cell s1 1
            have v0 := box_cell s2 0
            have v1 := box_cell s2 1
            have v2 := box_cell s2 2
            have v3 := box_cell s2 3
            go_simp
            try with_reducible rfl
          try simp only [Act.put, List.getElem_toArray, List.getElem_cons_succ, List.getElem_cons_zero, List.setIfInBounds_toArray, List.set_cons_zero, List.set_cons_succ]
          refine wpAnyH_take (i := 4) (v := ?_) rfl (by kernel_rfl) (by kernel_rfl) (by kernel_rfl) (fun _ _ _ h => h) (Or.inl ⟨rfl, ?hy11⟩) (by assumption) ?_
          case hy11 =>
            intro W hS
            go_simp
            try with_reducible rfl
          try simp only [Act.put, List.getElem_toArray, List.getElem_cons_succ, List.getElem_cons_zero, List.setIfInBounds_toArray, List.set_cons_zero, List.set_cons_succ]
          refine wpAnyH_take (i := 5) (v := ?_) rfl (by kernel_rfl) (by kernel_rfl) (by kernel_rfl) (fun _ _ _ h => h) (Or.inl ⟨rfl, ?hy12⟩) (by assumption) ?_
          case hy12 =>
            intro W hS
            obtain ⟨s0, s1, s2, -⟩ := hS
            have u0 := box_cell s0 0
            have u1 := box_cell s0 1
            have u3 := box_cell s1 1
            have v0 := box_cell s2 0
            have v1 := box_cell s2 1
            have v2 := box_cell s2 2
            have v3 := box_cell s2 3
            go_simp
            try with_reducible rfl
          try simp only [Act.put, List.getElem_toArray, List.getElem_cons_succ, List.getElem_cons_zero, List.setIfInBounds_toArray, List.set_cons_zero, List.set_cons_succ]
          refine wpAnyH_take (i := 6) (v := ?_) rfl (by kernel_rfl) (by kernel_rfl) (by kernel_rfl) (fun _ _ _ h => h) (Or.inl ⟨rfl, ?hy13⟩) (by assumption) ?_
          case hy13 =>
            intro W hS
            obtain ⟨s0, s1, s2, -⟩ := hS
            have u0 := box_cell s0 0
            have u1 := box_cell s0 1
            have u3 := box_cell s1 1
            have v0 := box_cell s2 0
            have v1 := box_cell s2 1
            have v2 := box_cell s2 2
            have v3 := box_cell s2 3
            go_simp
            try with_reducible rfl
          try simp only [Act.put, List.getElem_toArray, List.getElem_cons_succ, List.getElem_cons_zero, List.setIfInBounds_toArray, List.set_cons_zero, List.set_cons_succ]
          refine wpAnyH_ready (rs := [7]) (by kernel_rfl) (by simp) (AllReadyH.cons rfl (fun K hK => ?_) AllReadyH.nil)
          have hnm := HX.out.2.2.1.drew
          obtain ⟨W2, hup, hn2, hmt⟩ := hnm.cut (by unfold maxLen; omega) (p := (s, q)) HW.out f.toNat HMEM.out HLE.out
          rw [HDEL.out] at hup
          go_simp
          refine hK.out _ _ (⟨turned_row hmt hnm hHeld.1, turned_row hmt hnm hHeld.2.1, turned_row hmt hnm hHeld.2.2.1, hHeld.2.2.2.trans (turned_keep hmt)⟩) (fun hX => ?_)
          clear hK K hHeld
          have hHeld := hX
          clear hX
          refine wpAnyH_done (by kernel_rfl) ?_ _
          have HE := Lib.hid (And.intro hn2 hHeld)
          clear hn2 hHeld hup hnm hmt
          go_wp2
          go_roundw
          case rel =>
            obtain ⟨hn2, y0, y1, y2, y3⟩ := HE.out
            exact ⟨k + 1, by omega, by go_num, Lib.hid ⟨by rw [HNX.out]; exact hn2, y3, y1⟩⟩
          case measure => simp [intOf]; omega
      · go_simp
        have o00 : (wa.alloc (.cells #[.int .u64 0, .int .u64 0, .int .u64 0, .int .u64 0] 109)).drew.heap[wr.heap.size + 1]? = some (.cells #[.int .u64 0, .int .u64 0, .int .u64 0, .int .u64 0] 109 (0, 0)) := by have := heap_new wa (.cells #[.int .u64 0, .int .u64 0, .int .u64 0, .int .u64 0] 109); rw [HA.out.2.2.2.2] at this; exact this
        refine hK.out _ _ (⟨row_al hHeld.1 _, row_al hHeld.2.1 _, hHeld.2.2.1.alloc _, hHeld.2.2.2.1.alloc hHeld.2.2.2.1.size _, Nat.le_trans hHeld.2.2.2.2 (by simp)⟩) (fun hX => ?_)
        clear hK K hHeld
        have hHeld := hX
        clear hX
        refine wpAnyH_ready (rs := [9]) (by kernel_rfl) (by simp) (AllReadyH.cons rfl (fun K hK => ?_) AllReadyH.nil)
        go_simp
        go_wp2_with (go_at_call 113; refine (HWO.out _).mono ?_; rintro e wq ⟨rfl, hb⟩)
        have o0 := row_up o00 hb
        refine hK.out _ _ (⟨row_up hHeld.1 hb, row_up hHeld.2.1 hb, hHeld.2.2.1.below hb, hHeld.2.2.2.1.trans (Keep.of_below hb hHeld.2.2.2.1.size), Nat.le_trans hHeld.2.2.2.2 hb.size⟩) (fun hX => ?_)
        clear hK K hHeld
        have hHeld := hX
        clear hX
        refine wpAnyH_ready (rs := [11]) (by kernel_rfl) (by simp) (AllReadyH.cons rfl (fun K hK => ?_) AllReadyH.nil)
        have hsA := HA.out.2.2.2.2
        have hkW := HA.out.2.1.size
        have hqs : wa.heap.size ≤ wq.heap.size := Nat.le_trans (by simp) hb.size
        obtain ⟨A0, hA0⟩ : ∃ A0, wr.heap.size + 1 = A0 := ⟨_, rfl⟩
        have hneC : wr.heap.size ≠ A0 := by omega
        have hneB : B ≠ A0 := by omega
        have hneM : M ≠ A0 := by omega
        have hwA : w0.heap.size ≤ A0 := by omega
        rw [hA0] at o0
        generalize wq = Y at hHeld o0 ⊢
        try rw [hA0]
        have f0 := box_frozen o0 0
        have f1 := box_frozen o0 1
        have f2 := box_frozen o0 2
        have f3 := box_frozen o0 3
        have e0 := box_cell o0 0
        have e1 := box_cell o0 1
        have e2 := box_cell o0 2
        have e3 := box_cell o0 3
        go_simp
        refine hK.out _ _ (⟨((box_other hneC 3 _).trans ((box_other hneC 2 _).trans ((box_other hneC 1 _).trans ((box_other hneC 0 _).trans hHeld.1)))), ((box_other hneB 3 _).trans ((box_other hneB 2 _).trans ((box_other hneB 1 _).trans ((box_other hneB 0 _).trans hHeld.2.1)))), (NMap.set (NMap.set (NMap.set (NMap.set hHeld.2.2.1 (o := 0) hneM) (o := 1) hneM) (o := 2) hneM) (o := 3) hneM), (Keep.setCell (Keep.setCell (Keep.setCell (Keep.setCell hHeld.2.2.2.1 (p := ⟨A0, 0, none⟩) (Or.inr (by show w0.heap.size ≤ A0; omega)) _) (p := ⟨A0, 1, none⟩) (Or.inr (by show w0.heap.size ≤ A0; omega)) _) (p := ⟨A0, 2, none⟩) (Or.inr (by show w0.heap.size ≤ A0; omega)) _) (p := ⟨A0, 3, none⟩) (Or.inr (by show w0.heap.size ≤ A0; omega)) _), by simp [World.setCell]; exact hHeld.2.2.2.2⟩) (fun hX => ?_)
        clear hK K hHeld
        have hHeld := hX
        clear hX
        refine wpAnyH_done (by kernel_rfl) ?_ _
        obtain ⟨x0, x1, x2, x3, x4⟩ := hHeld
        have p1 : ((((Y.setCell ⟨A0, 0, none⟩ (.int .u64 d0)).setCell ⟨A0, 1, none⟩ (.int .u64 d1)).setCell ⟨A0, 2, none⟩ (.int .u64 d2)).setCell ⟨A0, 3, none⟩ (.int .u64 d3)).heap[A0]? = some (.cells #[.int .u64 d0, .int .u64 d1, .int .u64 d2, .int .u64 d3] 109 (0, 0)) := box_set (box_set (box_set (box_set o0 0 (.int .u64 d0)) 1 (.int .u64 d1)) 2 (.int .u64 d2)) 3 (.int .u64 d3)
        generalize ((((Y.setCell ⟨A0, 0, none⟩ (.int .u64 d0)).setCell ⟨A0, 1, none⟩ (.int .u64 d1)).setCell ⟨A0, 2, none⟩ (.int .u64 d2)).setCell ⟨A0, 3, none⟩ (.int .u64 d3)) = Z at x0 x1 x2 x3 x4 p1 ⊢
        have z0 := box_cell p1 0
        have z1 := box_cell p1 1
        have z2 := box_cell p1 2
        have z3 := box_cell p1 3
        have HX := Lib.hid (And.intro x0 (And.intro x1 (And.intro x2 (And.intro x3 (And.intro x4 p1)))))
        clear o0 f0 f1 f2 f3 e0 e1 e2 e3 x0 x1 x2 x3 x4 p1
        have hq := fun W => HEQ.out W
        cases z with
        | true =>
          go_wp2
          refine wp_region_held_drew (S := fun X => X.heap[wr.heap.size]? = some (.cells #[.int .i64 s, .int .i64 q, .int .i64 f, .int .i32 r, .bool g] 62 (0, 0)) ∧ X.heap[B]? = some (.cells #[bv, .map (some M)] 79 (0, 0)) ∧ X.heap[A0]? = some (.cells #[.int .u64 d0, .int .u64 d1, .int .u64 d2, .int .u64 d3] 109 (0, 0)) ∧ Keep (fun k => k = M) w0.heap.size w0 X) (by kernel_rfl) ⟨HX.out.1, HX.out.2.1, HX.out.2.2.2.2.2, HX.out.2.2.2.1.drew⟩ (fun hHeld => ?_)
          refine wpAnyH_take (i := 0) (v := ?_) rfl (by kernel_rfl) (by kernel_rfl) (by kernel_rfl) (fun _ _ _ h => h) (Or.inl ⟨rfl, ?hy1⟩) (by assumption) ?_
          case hy1 =>
            intro W hS
            go_simp
            try with_reducible rfl
          try simp only [Act.put, List.getElem_toArray, List.getElem_cons_zero, List.setIfInBounds_toArray, List.set_cons_zero, List.set_cons_succ]
          refine wpAnyH_take (i := 1) (v := ?_) rfl (by kernel_rfl) (by kernel_rfl) (by kernel_rfl) (fun _ _ _ h => h) (Or.inl ⟨rfl, ?hy2⟩) (by assumption) ?_
          case hy2 =>
            intro W hS
            go_simp
            try with_reducible rfl
          try simp only [Act.put, List.getElem_toArray, List.getElem_cons_succ, List.getElem_cons_zero, List.setIfInBounds_toArray, List.set_cons_zero, List.set_cons_succ]
          refine wpAnyH_take (i := 2) (v := ?_) rfl (by kernel_rfl) (by kernel_rfl) (by kernel_rfl) (fun _ _ _ h => h) (Or.inl ⟨rfl, ?hy3⟩) (by assumption) ?_
          case hy3 =>
            intro W hS
            go_simp
            try with_reducible rfl
          try simp only [Act.put, List.getElem_toArray, List.getElem_cons_succ, List.getElem_cons_zero, List.setIfInBounds_toArray, List.set_cons_zero, List.set_cons_succ]
          refine wpAnyH_take (i := 3) (v := ?_) rfl (by kernel_rfl) (by kernel_rfl) (by kernel_rfl) (fun _ _ _ h => h) (Or.inl ⟨rfl, ?hy4⟩) (by assumption) ?_
          case hy4 =>
            intro W hS
            obtain ⟨s0, s1, s2, -⟩ := hS
            have u0 := box_cell s0 0
            have u1 := box_cell s0 1
            have u3 := box_cell s1 1
            have v0 := box_cell s2 0
            have v1 := box_cell s2 1
            have v2 := box_cell s2 2
            have v3 := box_cell s2 3
            go_simp
            try with_reducible rfl
          try simp only [Act.put, List.getElem_toArray, List.getElem_cons_succ, List.getElem_cons_zero, List.setIfInBounds_toArray, List.set_cons_zero, List.set_cons_succ]
          refine wpAnyH_take (i := 4) (v := ?_) rfl (by kernel_rfl) (by kernel_rfl) (by kernel_rfl) (fun _ _ _ h => h) (Or.inl ⟨rfl, ?hy5⟩) (by assumption) ?_
          case hy5 =>
            intro W hS
            go_simp
            try with_reducible rfl
          try simp only [Act.put, List.getElem_toArray, List.getElem_cons_succ, List.getElem_cons_zero, List.setIfInBounds_toArray, List.set_cons_zero, List.set_cons_succ]
          refine wpAnyH_take (i := 5) (v := ?_) rfl (by kernel_rfl) (by kernel_rfl) (by kernel_rfl) (fun _ _ _ h => h) (Or.inl ⟨rfl, ?hy6⟩) (by assumption) ?_
          case hy6 =>
            intro W hS
            obtain ⟨s0, s1, s2, -⟩ := hS
            have u0 := box_cell s0 0
            have u1 := box_cell s0 1
            have u3 := box_cell s1 1
            have v0 := box_cell s2 0
            have v1 := box_cell s2 1
            have v2 := box_cell s2 2
            have v3 := box_cell s2 3
            go_simp
            try with_reducible rfl
          try simp only [Act.put, List.getElem_toArray, List.getElem_cons_succ, List.getElem_cons_zero, List.setIfInBounds_toArray, List.set_cons_zero, List.set_cons_succ]
          refine wpAnyH_ready (rs := [6]) (by kernel_rfl) (by simp) (AllReadyH.cons rfl (fun K hK => ?_) AllReadyH.nil)
          have hnm := HX.out.2.2.1.drew
          obtain ⟨W2, hup, hn2, hmt⟩ := hnm.del (p := (s, q)) HW.out f.toNat HMEM.out HLE.out 0
          go_simp
          refine hK.out _ _ (⟨turned_row hmt hnm hHeld.1, turned_row hmt hnm hHeld.2.1, turned_row hmt hnm hHeld.2.2.1, hHeld.2.2.2.trans (turned_keep hmt)⟩) (fun hX => ?_)
          clear hK K hHeld
          have hHeld := hX
          clear hX
          refine wpAnyH_done (by kernel_rfl) ?_ _
          have HE := Lib.hid (And.intro hn2 hHeld)
          clear hn2 hHeld hup hnm hmt
          go_wp2
          go_roundw
          case rel =>
            obtain ⟨hn2, y0, y1, y2, y3⟩ := HE.out
            exact ⟨k + 1, by omega, by go_num, Lib.hid ⟨by rw [HNX.out]; exact hn2, y3, y1⟩⟩
          case measure => simp [intOf]; omega
        | false =>
          go_wp2
          refine wp_region_held_drew (S := fun X => X.heap[wr.heap.size]? = some (.cells #[.int .i64 s, .int .i64 q, .int .i64 f, .int .i32 r, .bool g] 62 (0, 0)) ∧ X.heap[B]? = some (.cells #[bv, .map (some M)] 79 (0, 0)) ∧ X.heap[A0]? = some (.cells #[.int .u64 d0, .int .u64 d1, .int .u64 d2, .int .u64 d3] 109 (0, 0)) ∧ Keep (fun k => k = M) w0.heap.size w0 X) (by kernel_rfl) ⟨HX.out.1, HX.out.2.1, HX.out.2.2.2.2.2, HX.out.2.2.2.1.drew⟩ (fun hHeld => ?_)
          refine wpAnyH_take (i := 0) (v := ?_) rfl (by kernel_rfl) (by kernel_rfl) (by kernel_rfl) (fun _ _ _ h => h) (Or.inl ⟨rfl, ?hy7⟩) (by assumption) ?_
          case hy7 =>
            intro W hS
            go_simp
            try with_reducible rfl
          try simp only [Act.put, List.getElem_toArray, List.getElem_cons_zero, List.setIfInBounds_toArray, List.set_cons_zero, List.set_cons_succ]
          refine wpAnyH_take (i := 1) (v := ?_) rfl (by kernel_rfl) (by kernel_rfl) (by kernel_rfl) (fun _ _ _ h => h) (Or.inl ⟨rfl, ?hy8⟩) (by assumption) ?_
          case hy8 =>
            intro W hS
            go_simp
            try with_reducible rfl
          try simp only [Act.put, List.getElem_toArray, List.getElem_cons_succ, List.getElem_cons_zero, List.setIfInBounds_toArray, List.set_cons_zero, List.set_cons_succ]
          refine wpAnyH_take (i := 2) (v := ?_) rfl (by kernel_rfl) (by kernel_rfl) (by kernel_rfl) (fun _ _ _ h => h) (Or.inl ⟨rfl, ?hy9⟩) (by assumption) ?_
          case hy9 =>
            intro W hS
            go_simp
            try with_reducible rfl
          try simp only [Act.put, List.getElem_toArray, List.getElem_cons_succ, List.getElem_cons_zero, List.setIfInBounds_toArray, List.set_cons_zero, List.set_cons_succ]
          refine wpAnyH_take (i := 3) (v := ?_) rfl (by kernel_rfl) (by kernel_rfl) (by kernel_rfl) (fun _ _ _ h => h) (Or.inl ⟨rfl, ?hy10⟩) (by assumption) ?_
          case hy10 =>
            intro W hS
            obtain ⟨s0, s1, s2, -⟩ := hS
            have u0 := box_cell s0 0
            have u1 := box_cell s0 1
            have u3 := box_cell s1 1
            have v0 := box_cell s2 0
            have v1 := box_cell s2 1
            have v2 := box_cell s2 2
            have v3 := box_cell s2 3
            go_simp
            try with_reducible rfl
          try simp only [Act.put, List.getElem_toArray, List.getElem_cons_succ, List.getElem_cons_zero, List.setIfInBounds_toArray, List.set_cons_zero, List.set_cons_succ]
          refine wpAnyH_take (i := 4) (v := ?_) rfl (by kernel_rfl) (by kernel_rfl) (by kernel_rfl) (fun _ _ _ h => h) (Or.inl ⟨rfl, ?hy11⟩) (by assumption) ?_
          case hy11 =>
            intro W hS
            go_simp
            try with_reducible rfl
          try simp only [Act.put, List.getElem_toArray, List.getElem_cons_succ, List.getElem_cons_zero, List.setIfInBounds_toArray, List.set_cons_zero, List.set_cons_succ]
          refine wpAnyH_take (i := 5) (v := ?_) rfl (by kernel_rfl) (by kernel_rfl) (by kernel_rfl) (fun _ _ _ h => h) (Or.inl ⟨rfl, ?hy12⟩) (by assumption) ?_
          case hy12 =>
            intro W hS
            obtain ⟨s0, s1, s2, -⟩ := hS
            have u0 := box_cell s0 0
            have u1 := box_cell s0 1
            have u3 := box_cell s1 1
            have v0 := box_cell s2 0
            have v1 := box_cell s2 1
            have v2 := box_cell s2 2
            have v3 := box_cell s2 3
            go_simp
            try with_reducible rfl
          try simp only [Act.put, List.getElem_toArray, List.getElem_cons_succ, List.getElem_cons_zero, List.setIfInBounds_toArray, List.set_cons_zero, List.set_cons_succ]
          refine wpAnyH_take (i := 6) (v := ?_) rfl (by kernel_rfl) (by kernel_rfl) (by kernel_rfl) (fun _ _ _ h => h) (Or.inl ⟨rfl, ?hy13⟩) (by assumption) ?_
          case hy13 =>
            intro W hS
            obtain ⟨s0, s1, s2, -⟩ := hS
            have u0 := box_cell s0 0
            have u1 := box_cell s0 1
            have u3 := box_cell s1 1
            have v0 := box_cell s2 0
            have v1 := box_cell s2 1
            have v2 := box_cell s2 2
            have v3 := box_cell s2 3
            go_simp
            try with_reducible rfl
          try simp only [Act.put, List.getElem_toArray, List.getElem_cons_succ, List.getElem_cons_zero, List.setIfInBounds_toArray, List.set_cons_zero, List.set_cons_succ]
          refine wpAnyH_ready (rs := [7]) (by kernel_rfl) (by simp) (AllReadyH.cons rfl (fun K hK => ?_) AllReadyH.nil)
          have hnm := HX.out.2.2.1.drew
          obtain ⟨W2, hup, hn2, hmt⟩ := hnm.cut (by unfold maxLen; omega) (p := (s, q)) HW.out f.toNat HMEM.out HLE.out
          rw [HDEL.out] at hup
          go_simp
          refine hK.out _ _ (⟨turned_row hmt hnm hHeld.1, turned_row hmt hnm hHeld.2.1, turned_row hmt hnm hHeld.2.2.1, hHeld.2.2.2.trans (turned_keep hmt)⟩) (fun hX => ?_)
          clear hK K hHeld
          have hHeld := hX
          clear hX
          refine wpAnyH_done (by kernel_rfl) ?_ _
          have HE := Lib.hid (And.intro hn2 hHeld)
          clear hn2 hHeld hup hnm hmt
          go_wp2
          go_roundw
          case rel =>
            obtain ⟨hn2, y0, y1, y2, y3⟩ := HE.out
            exact ⟨k + 1, by omega, by go_num, Lib.hid ⟨by rw [HNX.out]; exact hn2, y3, y1⟩⟩
          case measure => simp [intOf]; omega
    · obtain rfl : N = k := by omega
      have hln := HN.out
      rw [List.take_of_length_le (by omega)] at hI
      clear hln
      go_wp2
      go_end0
      exact ⟨⟨_, rfl⟩, hI.out.1, hI.out.2.1, hI.out.2.2⟩
end Go.Proofs.YtfoglciiefoodaaGreatDoor
