/- Texts of this proof, joined. -/
import Derived.Test.YtmedickofiielaaGreatDoorGCellsNames
import Derived.Test.YtmedickofiielaaGreatDoorGCellsBlk
import Derived.WalkSpells
import Derived.Test.YtmedickofiielaaGreatDoorGSpansPlain
namespace Go.Proofs.YtmedickofiielaaGreatDoor
open Go.RowKit Go.Shelf Go.Maps
attribute [local go_sem] Oper.semAt_some

def knowN (I : List Id3) : List PCell → List Id3 × Bool
 | [] => (I, true)
 | c :: r => if idC c ∈ I then (I, false) else knowN (I ++ [idC c]) r
theorem knowN_dup {I : List Id3} {c : PCell} {r : List PCell} (h : idC c ∈ I) : knowN I (c :: r) = (I, false) := by unfold knowN; rw [if_pos h]
theorem knowN_new {I : List Id3} {c : PCell} {r : List PCell} (h : ¬ idC c ∈ I) : knowN I (c :: r) = knowN (I ++ [idC c]) r := by rw [knowN.eq_2, if_neg h]
theorem drop_at {α : Type} {l : List α} {k : Nat} {c : α} (h : l[k]? = some c) : l.drop k = c :: l.drop (k + 1) := by
 obtain ⟨hl, e⟩ := List.getElem?_eq_some_iff.1 h
 rw [List.drop_eq_getElem_cons hl, e]
theorem cell_km {W W' : World} {M : Nat} {es : Array MapEntry} {ck : Nat} (hM : W.heap[M]? = some (.map es ck)) (K : Keep (fun k => k = M) W.heap.size W W') {p : Addr} {u : Value} (h : W.cell? p = some u) : W'.cell? p = some u := by
 have h1 := cell_lt h
 by_cases e : p.block = M
 ·unfold World.cell? at h
  rw [e, hM] at h
  simp at h
 ·rw [K.cell h1 e]; exact h
theorem CAt.km {W W' : World} {M : Nat} {I : List Id3} {v : Value} {l : List PCell} (h : CAt W v l) (hM : NMap W M I) (K : Keep (fun k => k = M) W.heap.size W W') : CAt W' v l := by
 obtain ⟨D, ⟨es, ck, hm, -⟩, -⟩ := hM
 obtain ⟨hl, ao, cap, rfl, h1, h2, h3, h4⟩ := h
 refine ⟨hl, ao, cap, rfl, h1, h2, h3, fun ad ha => ?_⟩
 obtain ⟨b, off, e, hlt, hc⟩ := h4 ad ha
 exact ⟨b, off, e, Nat.lt_of_lt_of_le hlt K.size, fun j u hj => cell_km hm K (hc j u hj)⟩
theorem ne_map {W : World} {M B : Nat} {I : List Id3} {cs : Array Value} {t : TypeId} {fr : Nat × Nat} (hM : NMap W M I) (h : W.heap[B]? = some (.cells cs t fr)) : B ≠ M := by
 intro e
 subst e
 obtain ⟨D, ⟨es, ck, hm, -⟩, -⟩ := hM
 rw [hm] at h
 cases h
theorem turned_block {W W' : World} {M k : Nat} (h : W.mapTurned W' M) (hk : k ≠ M) : W'.heap[k]? = W.heap[k]? := by
 obtain ⟨es, c, es', c', hb, rfl⟩ := h
 exact Go.ChangeMaps.heap_setBlock_other hb _ hk
theorem turned_keep {W W' : World} {M N : Nat} (h : W.mapTurned W' M) : Keep (fun k => k = M) N W W' :=
 ⟨h.grown.os, h.grown.tape, h.grown.output, h.grown.size, fun _ _ hk => turned_block h hk⟩
theorem turned_row {W W' : World} {M k : Nat} {I : List Id3} {cs : Array Value} {t : TypeId} {fr : Nat × Nat} (h : W.mapTurned W' M) (hM : NMap W M I) (hk : W.heap[k]? = some (.cells cs t fr)) : W'.heap[k]? = some (.cells cs t fr) := (turned_block h (ne_map hM hk)).trans hk
theorem NMap.alloc {W : World} {b : Nat} {I : List Id3} (h : NMap W b I) (o : Obj) : NMap (W.alloc o) b I := h.below ((Below.refl _ W).alloc (Nat.le_refl _) o)
theorem NMap.drew {W : World} {b : Nat} {I : List Id3} (h : NMap W b I) : NMap W.drew b I := h.kept rfl
theorem Keep.drew {S : Nat → Prop} {N : Nat} {a b : World} (h : Keep S N a b) : Keep S N a b.drew := ⟨h.os, h.tape, h.output, h.size, h.block⟩
theorem NMap.set {W : World} {b B o : Nat} {I : List Id3} (h : NMap W b I) {u : Value} (hn : b ≠ B) : NMap (W.setCell ⟨B, o, none⟩ u) b I := h.kept (box_other hn o u)

set_option maxRecDepth 100000 in
set_option maxHeartbeats 8000000 in
theorem know_any (B M : Nat) (bv : Value) (I : List Id3) (v : Value) (l : List PCell) (w0 : World) (hB : w0.heap[B]? = some (.cells #[bv, .map (some M)] 90 (0, 0))) (hM : NMap w0 M I) (hv : CAt w0 v l) (hok : ∀ c ∈ l, nWf (c.site, c.seq) ∧ 0 ≤ c.off ∧ c.off < 200) (hlen : I.length + l.length ≤ 1000000) :
  Calls Tryz.prog 42 #[.pointer (some ⟨B, 0, none⟩), v] w0 fun e w' => e = .returned (.bool (knowN I l).2) ∧ NMap w' M (knowN I l).1 ∧ Keep (fun k => k = M) w0.heap.size w0 w' ∧ w'.heap[B]? = some (.cells #[bv, .map (some M)] 90 (0, 0)) := by
 have HV := Lib.hid (fun W (K : Keep (fun k => k = M) w0.heap.size w0 W) => hv.km hM K)
 have HOK := Lib.hid hok
 have hsh := hv.shape
 obtain ⟨ao, cap, rfl, -⟩ := hsh
 obtain ⟨N, hN⟩ : ∃ N, l.length = N := ⟨_, rfl⟩
 have HN := Lib.hid hN
 rw [hN] at hlen
 have hmn : M ≠ B := (ne_map hM hB).symm
 have y0 := box_cell hB 1
 have HB := Lib.hid hB
 have hBlt := box_lt hB
 clear hN hv hok hB
 rw [HN.out]
 have h0 : NMap w0 M (I ++ (l.take 0).map idC) ∧ Keep (fun k => k = M) w0.heap.size w0 w0 ∧ w0.heap[B]? = some (.cells #[bv, .map (some M)] 90 (0, 0)) := ⟨by simpa using hM, Keep.refl _ _ _, HB.out⟩
 have H0 := Lib.hid h0
 have qT : ∀ (w : World) (r : Option Nat), (binOp .eql 88 (.map r) (.map none)).run Tryz.prog w = .ok (.bool r.isNone) w := fun w r => run_eql_map_nil w _ _ _ r Tryz.underlying88
 clear h0 hM
 go_enter Tryz.func42, Tryz.ntmps42
 go_wp2
 clear y0
 go_loopw [19] (fun i wr => ∃ k : Nat, k ≤ N ∧ i = .int .i64 k ∧ RowKit.Hid (NMap wr M (I ++ (l.take k).map idC) ∧ Keep (fun k => k = M) w0.heap.size w0 wr ∧ wr.heap[B]? = some (.cells #[bv, .map (some M)] 90 (0, 0))) ∧ RowKit.Hid (knowN I l = knowN (I ++ (l.take k).map idC) (l.drop k))) (fun i _ => N - (intOf i).toNat)
 case atStart => exact ⟨0, Nat.zero_le _, rfl, H0, Lib.hid (by simp)⟩
 case round =>
  rename World => wr
  obtain ⟨k, hk, rfl, hI, hfold⟩ := hrel
  rcases Nat.lt_or_ge k N with hlt | hge
  ·obtain ⟨c, hc⟩ : ∃ c, l[k]? = some c := ⟨_, List.getElem?_eq_getElem (by rw [HN.out]; exact hlt)⟩
   obtain ⟨b, off', cp, hvv, c0, c1, c2, c3, c4⟩ := (HV.out _ hI.out.2.1).at hc
   rw [HN.out] at hvv
   cases hvv
   have hi0 : (0 : Int) ≤ (k : Int) ∧ (k : Int) < (N : Int) := ⟨by omega, by omega⟩
   have hokc := HOK.out c (List.mem_of_getElem? hc)
   obtain ⟨hwf, ho0, ho1⟩ := hokc
   obtain ⟨Ik, hIk⟩ : ∃ z, I ++ (l.take k).map idC = z := ⟨_, rfl⟩
   rw [hIk] at hI hfold
   have hlk : Ik.length ≤ 1000000 := by rw [← hIk, List.length_append, List.length_map, List.length_take]; omega
   have hnx : I ++ (l.take (k + 1)).map idC = Ik ++ [idC c] := by rw [List.take_add_one, hc, List.map_append, ← List.append_assoc, hIk]; rfl
   have hfo := hfold.out
   rw [drop_at hc] at hfo
   have HF := Lib.hid hfo
   have HNX := Lib.hid hnx
   obtain ⟨s, q, f, r, g⟩ := c
   dsimp only at c0 c1 c2 c3 c4 hwf ho0 ho1
   obtain ⟨n0, k0, b0⟩ := hI.out
   have n1 := n0.alloc (.cells #[.int .i64 s, .int .i64 q, .int .i64 f, .int .i32 r, .bool g] 48)
   have k1 := k0.alloc k0.size (.cells #[.int .i64 s, .int .i64 q, .int .i64 f, .int .i32 r, .bool g] 48)
   have b1 := row_al b0 (.cells #[.int .i64 s, .int .i64 q, .int .i64 f, .int .i32 r, .bool g] 48)
   have e1 := heap_new wr (.cells #[.int .i64 s, .int .i64 q, .int .i64 f, .int .i32 r, .bool g] 48)
   have hsz : (wr.alloc (.cells #[.int .i64 s, .int .i64 q, .int .i64 f, .int .i32 r, .bool g] 48)).heap.size = wr.heap.size + 1 := by simp
   have HW := Lib.hid hwf
   have hBw := box_lt b0
   have hMw := n0.lt
   obtain ⟨z, hz⟩ : ∃ z, (decide (0 ≤ f ∧ f < 200) && offI Ik (s, q) f.toNat) = z := ⟨_, rfl⟩
   have hha := fun W => has_any (offI Ik (s, q)) f W
   obtain ⟨a0, a1, a2, a3, hoff⟩ : ∃ a0 a1 a2 a3 : Int, offV (offI Ik (s, q)) = .agg #[.int .u64 a0, .int .u64 a1, .int .u64 a2, .int .u64 a3] := ⟨_, _, _, _, rfl⟩
   rw [hz, hoff] at hha
   have HHA := Lib.hid hha
   have hwi := fun W => with_any (offI Ik (s, q)) f W ho0 ho1
   rw [hoff] at hwi
   have HWI := Lib.hid hwi
   have HOFF := Lib.hid hoff
   clear hoff hwi
   have HZ := Lib.hid (And.intro hz (And.intro ho0 ho1))
   clear hha hz ho0 ho1
   have HA := Lib.hid (And.intro n1 (And.intro k1 (And.intro b1 (And.intro e1 hsz))))
   clear hc hIk hfo hfold hnx n0 k0 b0 n1 k1 b1 e1 hsz hI hwf
   go_wp2
   generalize wr.alloc (.cells #[.int .i64 s, .int .i64 q, .int .i64 f, .int .i32 r, .bool g] 48) = wa at HA ⊢
   refine wp_region_held_drew (S := fun X => X.heap[wr.heap.size]? = some (.cells #[.int .i64 s, .int .i64 q, .int .i64 f, .int .i32 r, .bool g] 48 (0, 0)) ∧ X.heap[B]? = some (.cells #[bv, .map (some M)] 90 (0, 0)) ∧ NMap X M Ik ∧ Keep (fun k => k = M) w0.heap.size w0 X ∧ wr.heap.size + 1 ≤ X.heap.size) (by kernel_rfl) ⟨HA.out.2.2.2.1, HA.out.2.2.1, HA.out.1.drew, HA.out.2.1.drew, by have := HA.out.2.2.2.2; exact Nat.le_of_eq this.symm⟩ (fun hHeld => ?_)
   refine tk0 (i := 0) rfl ?_
   try simp only [td]
   refine tk0 (i := 1) rfl ?_
   try simp only [td]
   refine tk0 (i := 2) rfl ?_
   try simp only [td]
   refine tk (i := 3) (v := ?_) rfl (Or.inl ⟨rfl, ?hy4⟩) ?_
   case hy4 =>
    intro W hS
    obtain ⟨s0, s1, s2, -, -⟩ := hS
    have u0 := box_cell s0 0
    have u1 := box_cell s0 1
    have u2 := box_cell s0 2
    have u3 := box_cell s1 1
    go_simp
    try with_reducible rfl
   try simp only [td]
   refine tk0 (i := 4) rfl ?_
   try simp only [td]
   refine tk (i := 5) (v := ?_) rfl (Or.inl ⟨rfl, ?hy6⟩) ?_
   case hy6 =>
    intro W hS
    obtain ⟨s0, s1, s2, -, -⟩ := hS
    have u0 := box_cell s0 0
    have u1 := box_cell s0 1
    have u2 := box_cell s0 2
    have u3 := box_cell s1 1
    go_simp
    try with_reducible rfl
   try simp only [td]
   refine tk (i := 6) (v := ?_) rfl (Or.inl ⟨rfl, ?hy7⟩) ?_
   case hy7 =>
    intro W hS
    obtain ⟨-, -, s2, -, -⟩ := hS
    have hlk := s2.look (p := (s, q)) HW.out
    rw [HOFF.out] at hlk
    go_simp
    try with_reducible rfl
   try simp only [td]
   refine rd 7 rfl fun K hK => ?_
   go_simp
   refine hK.out _ _ (⟨row_al hHeld.1 _, row_al hHeld.2.1 _, hHeld.2.2.1.alloc _, hHeld.2.2.2.1.alloc hHeld.2.2.2.1.size _, Nat.le_trans hHeld.2.2.2.2 (by simp)⟩) (fun hX => ?_)
   clear hK K hHeld
   have hHeld := hX
   clear hX
   refine rd 8 rfl fun K hK => ?_
   have o0 : (wa.alloc (.cells #[.int .u64 0, .int .u64 0, .int .u64 0, .int .u64 0] 97)).drew.heap[wr.heap.size + 1]? = some (.cells #[.int .u64 0, .int .u64 0, .int .u64 0, .int .u64 0] 97 (0, 0)) := by have := heap_new wa (.cells #[.int .u64 0, .int .u64 0, .int .u64 0, .int .u64 0] 97); rw [HA.out.2.2.2.2] at this; exact this
   have hsA := HA.out.2.2.2.2
   have hkW := HA.out.2.1.size
   have hneC : wr.heap.size ≠ wr.heap.size + 1 := by omega
   have hneB : B ≠ wr.heap.size + 1 := by omega
   have hneM : M ≠ wr.heap.size + 1 := by omega
   generalize (wa.alloc (.cells #[.int .u64 0, .int .u64 0, .int .u64 0, .int .u64 0] 97)).drew = Y at hHeld o0 ⊢
   have f0 := box_frozen o0 0
   have f1 := box_frozen o0 1
   have f2 := box_frozen o0 2
   have f3 := box_frozen o0 3
   have e0 := box_cell o0 0
   have e1 := box_cell o0 1
   have e2 := box_cell o0 2
   have e3 := box_cell o0 3
   go_simp
   refine hK.out _ _ (⟨((box_other hneC 3 _).trans ((box_other hneC 2 _).trans ((box_other hneC 1 _).trans ((box_other hneC 0 _).trans hHeld.1)))), ((box_other hneB 3 _).trans ((box_other hneB 2 _).trans ((box_other hneB 1 _).trans ((box_other hneB 0 _).trans hHeld.2.1)))), (NMap.set (NMap.set (NMap.set (NMap.set hHeld.2.2.1 (o := 0) hneM) (o := 1) hneM) (o := 2) hneM) (o := 3) hneM), (Keep.setCell (Keep.setCell (Keep.setCell (Keep.setCell hHeld.2.2.2.1 (p := ⟨wr.heap.size + 1, 0, none⟩) (Or.inr (by show w0.heap.size ≤ wr.heap.size + 1; have := hkW; omega)) _) (p := ⟨wr.heap.size + 1, 1, none⟩) (Or.inr (by show w0.heap.size ≤ wr.heap.size + 1; have := hkW; omega)) _) (p := ⟨wr.heap.size + 1, 2, none⟩) (Or.inr (by show w0.heap.size ≤ wr.heap.size + 1; have := hkW; omega)) _) (p := ⟨wr.heap.size + 1, 3, none⟩) (Or.inr (by show w0.heap.size ≤ wr.heap.size + 1; have := hkW; omega)) _), by simp [World.setCell]; exact hHeld.2.2.2.2⟩) (fun hX => ?_)
   clear hK K hHeld
   have hHeld := hX
   clear hX
   refine wpAnyH_done (by kernel_rfl) ?_ _
   obtain ⟨x0, x1, x2, x3, x4⟩ := hHeld
   have p1 : ((((Y.setCell ⟨wr.heap.size + 1, 0, none⟩ (.int .u64 a0)).setCell ⟨wr.heap.size + 1, 1, none⟩ (.int .u64 a1)).setCell ⟨wr.heap.size + 1, 2, none⟩ (.int .u64 a2)).setCell ⟨wr.heap.size + 1, 3, none⟩ (.int .u64 a3)).heap[wr.heap.size + 1]? = some (.cells #[.int .u64 a0, .int .u64 a1, .int .u64 a2, .int .u64 a3] 97 (0, 0)) := box_set (box_set (box_set (box_set o0 0 (.int .u64 a0)) 1 (.int .u64 a1)) 2 (.int .u64 a2)) 3 (.int .u64 a3)
   generalize ((((Y.setCell ⟨wr.heap.size + 1, 0, none⟩ (.int .u64 a0)).setCell ⟨wr.heap.size + 1, 1, none⟩ (.int .u64 a1)).setCell ⟨wr.heap.size + 1, 2, none⟩ (.int .u64 a2)).setCell ⟨wr.heap.size + 1, 3, none⟩ (.int .u64 a3)) = Z at x0 x1 x2 x3 x4 p1 ⊢
   have z0 := box_cell p1 0
   have z1 := box_cell p1 1
   have z2 := box_cell p1 2
   have z3 := box_cell p1 3
   have z4 := box_cell x0 2
   have HX := Lib.hid (And.intro x0 (And.intro x1 (And.intro x2 (And.intro x3 (And.intro x4 p1)))))
   clear o0 f0 f1 f2 f3 e0 e1 e2 e3 x0 x1 x2 x3 x4 p1
   cases z with
   | true =>
    go_wp2_with (go_at_call 51; refine (HHA.out _).mono ?_; rintro e wh ⟨rfl, hbh⟩)
    go_ret
    have hmem : idC (⟨s, q, f, r, g⟩ : PCell) ∈ Ik := by
     obtain ⟨h1, h2, h3⟩ := HZ.out
     rw [decide_eq_true (show 0 ≤ f ∧ f < 200 from ⟨h2, h3⟩), Bool.true_and] at h1
     unfold offI at h1
     have h4 := of_decide_eq_true h1
     rw [show ((f.toNat : Nat) : Int) = f by omega] at h4
     exact h4
    have hres := HF.out
    rw [knowN_dup hmem] at hres
    exact ⟨by rw [hres]; rfl, by rw [hres]; exact HX.out.2.2.1.below hbh, HX.out.2.2.2.1.trans (Keep.of_below hbh HX.out.2.2.2.1.size), row_up HX.out.2.1 hbh⟩
   | false =>
    have hmem : ¬ idC (⟨s, q, f, r, g⟩ : PCell) ∈ Ik := by
     obtain ⟨h1, h2, h3⟩ := HZ.out
     rw [decide_eq_true (show 0 ≤ f ∧ f < 200 from ⟨h2, h3⟩), Bool.true_and] at h1
     unfold offI at h1
     have h4 := of_decide_eq_false h1
     rw [show ((f.toNat : Nat) : Int) = f by omega] at h4
     exact h4
    have hres := HF.out
    rw [knowN_new hmem] at hres
    have HRES := Lib.hid hres
    clear hmem hres
    go_wp2_with (go_at_call 51; refine (HHA.out _).mono ?_; rintro e wh ⟨rfl, hbh⟩; clear z0 z1 z2 z3 z4; have HBH := Lib.hid hbh; clear hbh)
    refine wp_region_held_drew (S := fun X => X.heap[wr.heap.size]? = some (.cells #[.int .i64 s, .int .i64 q, .int .i64 f, .int .i32 r, .bool g] 48 (0, 0)) ∧ X.heap[B]? = some (.cells #[bv, .map (some M)] 90 (0, 0)) ∧ X.heap[wr.heap.size + 1]? = some (.cells #[.int .u64 a0, .int .u64 a1, .int .u64 a2, .int .u64 a3] 97 (0, 0)) ∧ Keep (fun k => k = M) w0.heap.size w0 X) (by kernel_rfl) ⟨row_up HX.out.1 HBH.out.drew, row_up HX.out.2.1 HBH.out.drew, row_up HX.out.2.2.2.2.2 HBH.out.drew, (HX.out.2.2.2.1.trans (Keep.of_below HBH.out HX.out.2.2.2.1.size)).drew⟩ (fun hHeld => ?_)
    refine tk0 (i := 0) rfl ?_
    try simp only [td]
    refine tk0 (i := 1) rfl ?_
    try simp only [td]
    refine tk0 (i := 2) rfl ?_
    try simp only [td]
    refine tk (i := 3) (v := ?_) rfl (Or.inl ⟨rfl, ?hy11⟩) ?_
    case hy11 =>
     intro W hS
     obtain ⟨s0, s1, s2, -⟩ := hS
     have u0 := box_cell s0 0
     have u1 := box_cell s0 1
     have u2 := box_cell s0 2
     have u3 := box_cell s1 1
     have v0 := box_cell s2 0
     have v1 := box_cell s2 1
     have v2 := box_cell s2 2
     have v3 := box_cell s2 3
     go_simp
     try with_reducible rfl
    try simp only [td]
    refine tk0 (i := 4) rfl ?_
    try simp only [td]
    refine tk (i := 5) (v := ?_) rfl (Or.inl ⟨rfl, ?hy13⟩) ?_
    case hy13 =>
     intro W hS
     obtain ⟨s0, s1, s2, -⟩ := hS
     have u0 := box_cell s0 0
     have u1 := box_cell s0 1
     have u2 := box_cell s0 2
     have u3 := box_cell s1 1
     have v0 := box_cell s2 0
     have v1 := box_cell s2 1
     have v2 := box_cell s2 2
     have v3 := box_cell s2 3
     go_simp
     try with_reducible rfl
    try simp only [td]
    refine tk (i := 6) (v := ?_) rfl (Or.inl ⟨rfl, ?hy14⟩) ?_
    case hy14 =>
     intro W hS
     obtain ⟨s0, s1, s2, -⟩ := hS
     have u0 := box_cell s0 0
     have u1 := box_cell s0 1
     have u2 := box_cell s0 2
     have u3 := box_cell s1 1
     have v0 := box_cell s2 0
     have v1 := box_cell s2 1
     have v2 := box_cell s2 2
     have v3 := box_cell s2 3
     go_simp
     try with_reducible rfl
    try simp only [td]
    refine tk0 (i := 7) rfl ?_
    try simp only [td]
    refine tk (i := 8) (v := ?_) rfl (Or.inl ⟨rfl, ?hy16⟩) ?_
    case hy16 =>
     intro W hS
     obtain ⟨s0, s1, s2, -⟩ := hS
     have u0 := box_cell s0 0
     have u1 := box_cell s0 1
     have u2 := box_cell s0 2
     have u3 := box_cell s1 1
     have v0 := box_cell s2 0
     have v1 := box_cell s2 1
     have v2 := box_cell s2 2
     have v3 := box_cell s2 3
     go_simp
     try with_reducible rfl
    try simp only [td]
    refine rd 9 rfl fun K hK => ?_
    go_simp
    go_wp2_with (go_at_call 68; refine (HWI.out _).mono ?_; rintro e wq ⟨rfl, hb⟩)
    refine hK.out _ _ (⟨row_up hHeld.1 hb, row_up hHeld.2.1 hb, row_up hHeld.2.2.1 hb, hHeld.2.2.2.trans (Keep.of_below hb hHeld.2.2.2.size)⟩) (fun hX => ?_)
    clear hK K hHeld
    have hHeld := hX
    clear hX
    refine rd 10 rfl fun K hK => ?_
    have hnm := ((HX.out.2.2.1.below HBH.out).drew).below hb
    obtain ⟨W2, hup, hn2, hmt⟩ := hnm.add (by unfold maxLen; omega) (p := (s, q)) HW.out f.toNat
    go_simp
    refine hK.out _ _ (⟨turned_row hmt hnm hHeld.1, turned_row hmt hnm hHeld.2.1, turned_row hmt hnm hHeld.2.2.1, hHeld.2.2.2.trans (turned_keep hmt)⟩) (fun hX => ?_)
    clear hK K hHeld
    have hHeld := hX
    clear hX
    refine wpAnyH_done (by kernel_rfl) ?_ _
    have HE := Lib.hid (And.intro hn2 hHeld)
    clear hn2 hHeld hup hnm hmt hb
    go_wp2
    go_roundw
    case rel =>
     obtain ⟨hn2, y0, y1, y2, y3⟩ := HE.out
     have hid : ((s, q).1, (s, q).2, ((f.toNat : Nat) : Int)) = idC (⟨s, q, f, r, g⟩ : PCell) := by
      obtain ⟨-, h2, h3⟩ := HZ.out
      unfold idC
      rw [show ((f.toNat : Nat) : Int) = f by omega]
     rw [hid] at hn2
     exact ⟨k + 1, by omega, by go_num, Lib.hid ⟨by rw [HNX.out]; exact hn2, y3, y1⟩, by rw [HNX.out]; exact HRES⟩
    case measure => simp [intOf]; omega
  ·obtain rfl : N = k := by omega
   have hfin := hfold.out
   have hln := HN.out
   rw [List.take_of_length_le (by omega)] at hI hfin
   rw [List.drop_of_length_le (by omega)] at hfin
   have HF := Lib.hid hfin
   clear hfin hln hfold
   go_wp2
   go_ret
   rw [show knowN I l = (I ++ l.map idC, true) from HF.out]
   exact ⟨rfl, hI.out.1, hI.out.2.1, hI.out.2.2⟩
set_option maxRecDepth 100000 in
set_option maxHeartbeats 8000000 in
theorem know0_any (B : Nat) (bv : Value) (v : Value) (l : List PCell) (w0 w : World) (hw : Below w0.heap.size w0 w) (hB0 : w0.heap.size ≤ B) (hB : w.heap[B]? = some (.cells #[bv, .map none] 90 (0, 0))) (hv : CAt w0 v l) (hok : ∀ c ∈ l, nWf (c.site, c.seq) ∧ 0 ≤ c.off ∧ c.off < 200) (hlen : l.length ≤ 1000000) :
  Calls Tryz.prog 42 #[.pointer (some ⟨B, 0, none⟩), v] w fun e w' => ∃ M, e = .returned (.bool (knowN [] l).2) ∧ w.heap.size ≤ M ∧ NMap w' M (knowN [] l).1 ∧ Keep (fun k => k = M) w0.heap.size w0 w' ∧ w'.heap[B]? = some (.cells #[bv, .map (some M)] 90 (0, 0)) := by
 obtain ⟨M, hMM⟩ : ∃ M, w.heap.size = M := ⟨_, rfl⟩
 have hM0 : w0.heap.size ≤ M := hMM ▸ hw.size
 have HV := Lib.hid (fun W (K : Keep (fun k => k = M) w0.heap.size w0 W) => hv.below (K.below (Nat.le_refl _) (fun k hk => by rw [hk]; exact hM0)))
 have HOK := Lib.hid hok
 have hsh := hv.shape
 obtain ⟨ao, cap, rfl, -⟩ := hsh
 obtain ⟨N, hN⟩ : ∃ N, l.length = N := ⟨_, rfl⟩
 have HN := Lib.hid hN
 rw [hN] at hlen
 have hBlt := box_lt hB
 have hmn : M ≠ B := by omega
 have y0 := box_cell hB 1
 have a1 := row_al hB (.map #[] 0)
 have y1 := box_cell a1 1
 have fz := box_frozen a1 1
 have hnm := (NMap.made w).set (B := B) (o := 1) (u := .map (some M)) (by omega)
 have hbx := box_set a1 1 (.map (some M))
 have hkk : Keep (fun k => k = M) w0.heap.size w0 ((w.alloc (.map #[] 0)).setCell ⟨B, 1, none⟩ (.map (some M))) := (Keep.of_below (hw.alloc hw.size _) (Nat.le_refl _)).setCell (p := ⟨B, 1, none⟩) (.inr hB0) _
 rw [hMM] at hnm
 have HMM := Lib.hid hMM
 have HB := Lib.hid (And.intro hnm (And.intro hkk hbx))
 obtain ⟨I, hI0⟩ : ∃ I : List Id3, [] = I := ⟨_, rfl⟩
 rw [hI0] at HB
 have hlen : I.length + N ≤ 1000000 := by rw [← hI0]; simpa using hlen
 have hgs : w.heap.size ≤ M := Nat.le_of_eq hMM
 have hmk := @run_makeMap Tryz.prog
 clear hN hv hok hB a1 hnm hbx hkk
 rw [HN.out, hI0]
 have qT : ∀ (w : World) (r : Option Nat), (binOp .eql 88 (.map r) (.map none)).run Tryz.prog w = .ok (.bool r.isNone) w := fun w r => run_eql_map_nil w _ _ _ r Tryz.underlying88
 clear hI0
 go_enter Tryz.func42, Tryz.ntmps42
 go_wp2
 try rw [HMM.out]
 generalize (w.alloc (.map #[] 0)).setCell ⟨B, 1, none⟩ (.map (some M)) = w1 at HB ⊢
 have hBlt := box_lt HB.out.2.2
 have h0 : NMap w1 M (I ++ (l.take 0).map idC) ∧ Keep (fun k => k = M) w0.heap.size w0 w1 ∧ w1.heap[B]? = some (.cells #[bv, .map (some M)] 90 (0, 0)) := ⟨by simpa using HB.out.1, HB.out.2.1, HB.out.2.2⟩
 have H0 := Lib.hid h0
 clear h0 y0 y1 fz
 go_loopw [19] (fun i wr => ∃ k : Nat, k ≤ N ∧ i = .int .i64 k ∧ RowKit.Hid (NMap wr M (I ++ (l.take k).map idC) ∧ Keep (fun k => k = M) w0.heap.size w0 wr ∧ wr.heap[B]? = some (.cells #[bv, .map (some M)] 90 (0, 0))) ∧ RowKit.Hid (knowN I l = knowN (I ++ (l.take k).map idC) (l.drop k))) (fun i _ => N - (intOf i).toNat)
 case atStart => exact ⟨0, Nat.zero_le _, rfl, H0, Lib.hid (by simp)⟩
 case round =>
  rename World => wr
  obtain ⟨k, hk, rfl, hI, hfold⟩ := hrel
  rcases Nat.lt_or_ge k N with hlt | hge
  ·obtain ⟨c, hc⟩ : ∃ c, l[k]? = some c := ⟨_, List.getElem?_eq_getElem (by rw [HN.out]; exact hlt)⟩
   obtain ⟨b, off', cp, hvv, c0, c1, c2, c3, c4⟩ := (HV.out _ hI.out.2.1).at hc
   rw [HN.out] at hvv
   cases hvv
   have hi0 : (0 : Int) ≤ (k : Int) ∧ (k : Int) < (N : Int) := ⟨by omega, by omega⟩
   have hokc := HOK.out c (List.mem_of_getElem? hc)
   obtain ⟨hwf, ho0, ho1⟩ := hokc
   obtain ⟨Ik, hIk⟩ : ∃ z, I ++ (l.take k).map idC = z := ⟨_, rfl⟩
   rw [hIk] at hI hfold
   have hlk : Ik.length ≤ 1000000 := by rw [← hIk, List.length_append, List.length_map, List.length_take]; omega
   have hnx : I ++ (l.take (k + 1)).map idC = Ik ++ [idC c] := by rw [List.take_add_one, hc, List.map_append, ← List.append_assoc, hIk]; rfl
   have hfo := hfold.out
   rw [drop_at hc] at hfo
   have HF := Lib.hid hfo
   have HNX := Lib.hid hnx
   obtain ⟨s, q, f, r, g⟩ := c
   dsimp only at c0 c1 c2 c3 c4 hwf ho0 ho1
   obtain ⟨n0, k0, b0⟩ := hI.out
   have n1 := n0.alloc (.cells #[.int .i64 s, .int .i64 q, .int .i64 f, .int .i32 r, .bool g] 48)
   have k1 := k0.alloc k0.size (.cells #[.int .i64 s, .int .i64 q, .int .i64 f, .int .i32 r, .bool g] 48)
   have b1 := row_al b0 (.cells #[.int .i64 s, .int .i64 q, .int .i64 f, .int .i32 r, .bool g] 48)
   have e1 := heap_new wr (.cells #[.int .i64 s, .int .i64 q, .int .i64 f, .int .i32 r, .bool g] 48)
   have hsz : (wr.alloc (.cells #[.int .i64 s, .int .i64 q, .int .i64 f, .int .i32 r, .bool g] 48)).heap.size = wr.heap.size + 1 := by simp
   have HW := Lib.hid hwf
   have hBw := box_lt b0
   have hMw := n0.lt
   obtain ⟨z, hz⟩ : ∃ z, (decide (0 ≤ f ∧ f < 200) && offI Ik (s, q) f.toNat) = z := ⟨_, rfl⟩
   have hha := fun W => has_any (offI Ik (s, q)) f W
   obtain ⟨a0, a1, a2, a3, hoff⟩ : ∃ a0 a1 a2 a3 : Int, offV (offI Ik (s, q)) = .agg #[.int .u64 a0, .int .u64 a1, .int .u64 a2, .int .u64 a3] := ⟨_, _, _, _, rfl⟩
   rw [hz, hoff] at hha
   have HHA := Lib.hid hha
   have hwi := fun W => with_any (offI Ik (s, q)) f W ho0 ho1
   rw [hoff] at hwi
   have HWI := Lib.hid hwi
   have HOFF := Lib.hid hoff
   clear hoff hwi
   have HZ := Lib.hid (And.intro hz (And.intro ho0 ho1))
   clear hha hz ho0 ho1
   have HA := Lib.hid (And.intro n1 (And.intro k1 (And.intro b1 (And.intro e1 hsz))))
   clear hc hIk hfo hfold hnx n0 k0 b0 n1 k1 b1 e1 hsz hI hwf
   go_wp2
   generalize wr.alloc (.cells #[.int .i64 s, .int .i64 q, .int .i64 f, .int .i32 r, .bool g] 48) = wa at HA ⊢
   refine wp_region_held_drew (S := fun X => X.heap[wr.heap.size]? = some (.cells #[.int .i64 s, .int .i64 q, .int .i64 f, .int .i32 r, .bool g] 48 (0, 0)) ∧ X.heap[B]? = some (.cells #[bv, .map (some M)] 90 (0, 0)) ∧ NMap X M Ik ∧ Keep (fun k => k = M) w0.heap.size w0 X ∧ wr.heap.size + 1 ≤ X.heap.size) (by kernel_rfl) ⟨HA.out.2.2.2.1, HA.out.2.2.1, HA.out.1.drew, HA.out.2.1.drew, by have := HA.out.2.2.2.2; exact Nat.le_of_eq this.symm⟩ (fun hHeld => ?_)
   refine tk0 (i := 0) rfl ?_
   try simp only [td]
   refine tk0 (i := 1) rfl ?_
   try simp only [td]
   refine tk0 (i := 2) rfl ?_
   try simp only [td]
   refine tk (i := 3) (v := ?_) rfl (Or.inl ⟨rfl, ?hy4⟩) ?_
   case hy4 =>
    intro W hS
    obtain ⟨s0, s1, s2, -, -⟩ := hS
    have u0 := box_cell s0 0
    have u1 := box_cell s0 1
    have u2 := box_cell s0 2
    have u3 := box_cell s1 1
    go_simp
    try with_reducible rfl
   try simp only [td]
   refine tk0 (i := 4) rfl ?_
   try simp only [td]
   refine tk (i := 5) (v := ?_) rfl (Or.inl ⟨rfl, ?hy6⟩) ?_
   case hy6 =>
    intro W hS
    obtain ⟨s0, s1, s2, -, -⟩ := hS
    have u0 := box_cell s0 0
    have u1 := box_cell s0 1
    have u2 := box_cell s0 2
    have u3 := box_cell s1 1
    go_simp
    try with_reducible rfl
   try simp only [td]
   refine tk (i := 6) (v := ?_) rfl (Or.inl ⟨rfl, ?hy7⟩) ?_
   case hy7 =>
    intro W hS
    obtain ⟨-, -, s2, -, -⟩ := hS
    have hlk := s2.look (p := (s, q)) HW.out
    rw [HOFF.out] at hlk
    go_simp
    try with_reducible rfl
   try simp only [td]
   refine rd 7 rfl fun K hK => ?_
   go_simp
   refine hK.out _ _ (⟨row_al hHeld.1 _, row_al hHeld.2.1 _, hHeld.2.2.1.alloc _, hHeld.2.2.2.1.alloc hHeld.2.2.2.1.size _, Nat.le_trans hHeld.2.2.2.2 (by simp)⟩) (fun hX => ?_)
   clear hK K hHeld
   have hHeld := hX
   clear hX
   refine rd 8 rfl fun K hK => ?_
   have o0 : (wa.alloc (.cells #[.int .u64 0, .int .u64 0, .int .u64 0, .int .u64 0] 97)).drew.heap[wr.heap.size + 1]? = some (.cells #[.int .u64 0, .int .u64 0, .int .u64 0, .int .u64 0] 97 (0, 0)) := by have := heap_new wa (.cells #[.int .u64 0, .int .u64 0, .int .u64 0, .int .u64 0] 97); rw [HA.out.2.2.2.2] at this; exact this
   have hsA := HA.out.2.2.2.2
   have hkW := HA.out.2.1.size
   have hneC : wr.heap.size ≠ wr.heap.size + 1 := by omega
   have hneB : B ≠ wr.heap.size + 1 := by omega
   have hneM : M ≠ wr.heap.size + 1 := by omega
   generalize (wa.alloc (.cells #[.int .u64 0, .int .u64 0, .int .u64 0, .int .u64 0] 97)).drew = Y at hHeld o0 ⊢
   have f0 := box_frozen o0 0
   have f1 := box_frozen o0 1
   have f2 := box_frozen o0 2
   have f3 := box_frozen o0 3
   have e0 := box_cell o0 0
   have e1 := box_cell o0 1
   have e2 := box_cell o0 2
   have e3 := box_cell o0 3
   go_simp
   refine hK.out _ _ (⟨((box_other hneC 3 _).trans ((box_other hneC 2 _).trans ((box_other hneC 1 _).trans ((box_other hneC 0 _).trans hHeld.1)))), ((box_other hneB 3 _).trans ((box_other hneB 2 _).trans ((box_other hneB 1 _).trans ((box_other hneB 0 _).trans hHeld.2.1)))), (NMap.set (NMap.set (NMap.set (NMap.set hHeld.2.2.1 (o := 0) hneM) (o := 1) hneM) (o := 2) hneM) (o := 3) hneM), (Keep.setCell (Keep.setCell (Keep.setCell (Keep.setCell hHeld.2.2.2.1 (p := ⟨wr.heap.size + 1, 0, none⟩) (Or.inr (by show w0.heap.size ≤ wr.heap.size + 1; have := hkW; omega)) _) (p := ⟨wr.heap.size + 1, 1, none⟩) (Or.inr (by show w0.heap.size ≤ wr.heap.size + 1; have := hkW; omega)) _) (p := ⟨wr.heap.size + 1, 2, none⟩) (Or.inr (by show w0.heap.size ≤ wr.heap.size + 1; have := hkW; omega)) _) (p := ⟨wr.heap.size + 1, 3, none⟩) (Or.inr (by show w0.heap.size ≤ wr.heap.size + 1; have := hkW; omega)) _), by simp [World.setCell]; exact hHeld.2.2.2.2⟩) (fun hX => ?_)
   clear hK K hHeld
   have hHeld := hX
   clear hX
   refine wpAnyH_done (by kernel_rfl) ?_ _
   obtain ⟨x0, x1, x2, x3, x4⟩ := hHeld
   have p1 : ((((Y.setCell ⟨wr.heap.size + 1, 0, none⟩ (.int .u64 a0)).setCell ⟨wr.heap.size + 1, 1, none⟩ (.int .u64 a1)).setCell ⟨wr.heap.size + 1, 2, none⟩ (.int .u64 a2)).setCell ⟨wr.heap.size + 1, 3, none⟩ (.int .u64 a3)).heap[wr.heap.size + 1]? = some (.cells #[.int .u64 a0, .int .u64 a1, .int .u64 a2, .int .u64 a3] 97 (0, 0)) := box_set (box_set (box_set (box_set o0 0 (.int .u64 a0)) 1 (.int .u64 a1)) 2 (.int .u64 a2)) 3 (.int .u64 a3)
   generalize ((((Y.setCell ⟨wr.heap.size + 1, 0, none⟩ (.int .u64 a0)).setCell ⟨wr.heap.size + 1, 1, none⟩ (.int .u64 a1)).setCell ⟨wr.heap.size + 1, 2, none⟩ (.int .u64 a2)).setCell ⟨wr.heap.size + 1, 3, none⟩ (.int .u64 a3)) = Z at x0 x1 x2 x3 x4 p1 ⊢
   have z0 := box_cell p1 0
   have z1 := box_cell p1 1
   have z2 := box_cell p1 2
   have z3 := box_cell p1 3
   have z4 := box_cell x0 2
   have HX := Lib.hid (And.intro x0 (And.intro x1 (And.intro x2 (And.intro x3 (And.intro x4 p1)))))
   clear o0 f0 f1 f2 f3 e0 e1 e2 e3 x0 x1 x2 x3 x4 p1
   cases z with
   | true =>
    go_wp2_with (go_at_call 51; refine (HHA.out _).mono ?_; rintro e wh ⟨rfl, hbh⟩)
    go_ret
    have hmem : idC (⟨s, q, f, r, g⟩ : PCell) ∈ Ik := by
     obtain ⟨h1, h2, h3⟩ := HZ.out
     rw [decide_eq_true (show 0 ≤ f ∧ f < 200 from ⟨h2, h3⟩), Bool.true_and] at h1
     unfold offI at h1
     have h4 := of_decide_eq_true h1
     rw [show ((f.toNat : Nat) : Int) = f by omega] at h4
     exact h4
    have hres := HF.out
    rw [knowN_dup hmem] at hres
    exact ⟨M, ⟨by rw [hres]; rfl, hgs, by rw [hres]; exact HX.out.2.2.1.below hbh, HX.out.2.2.2.1.trans (Keep.of_below hbh HX.out.2.2.2.1.size), row_up HX.out.2.1 hbh⟩⟩
   | false =>
    have hmem : ¬ idC (⟨s, q, f, r, g⟩ : PCell) ∈ Ik := by
     obtain ⟨h1, h2, h3⟩ := HZ.out
     rw [decide_eq_true (show 0 ≤ f ∧ f < 200 from ⟨h2, h3⟩), Bool.true_and] at h1
     unfold offI at h1
     have h4 := of_decide_eq_false h1
     rw [show ((f.toNat : Nat) : Int) = f by omega] at h4
     exact h4
    have hres := HF.out
    rw [knowN_new hmem] at hres
    have HRES := Lib.hid hres
    clear hmem hres
    go_wp2_with (go_at_call 51; refine (HHA.out _).mono ?_; rintro e wh ⟨rfl, hbh⟩; clear z0 z1 z2 z3 z4; have HBH := Lib.hid hbh; clear hbh)
    refine wp_region_held_drew (S := fun X => X.heap[wr.heap.size]? = some (.cells #[.int .i64 s, .int .i64 q, .int .i64 f, .int .i32 r, .bool g] 48 (0, 0)) ∧ X.heap[B]? = some (.cells #[bv, .map (some M)] 90 (0, 0)) ∧ X.heap[wr.heap.size + 1]? = some (.cells #[.int .u64 a0, .int .u64 a1, .int .u64 a2, .int .u64 a3] 97 (0, 0)) ∧ Keep (fun k => k = M) w0.heap.size w0 X) (by kernel_rfl) ⟨row_up HX.out.1 HBH.out.drew, row_up HX.out.2.1 HBH.out.drew, row_up HX.out.2.2.2.2.2 HBH.out.drew, (HX.out.2.2.2.1.trans (Keep.of_below HBH.out HX.out.2.2.2.1.size)).drew⟩ (fun hHeld => ?_)
    refine tk0 (i := 0) rfl ?_
    try simp only [td]
    refine tk0 (i := 1) rfl ?_
    try simp only [td]
    refine tk0 (i := 2) rfl ?_
    try simp only [td]
    refine tk (i := 3) (v := ?_) rfl (Or.inl ⟨rfl, ?hy11⟩) ?_
    case hy11 =>
     intro W hS
     obtain ⟨s0, s1, s2, -⟩ := hS
     have u0 := box_cell s0 0
     have u1 := box_cell s0 1
     have u2 := box_cell s0 2
     have u3 := box_cell s1 1
     have v0 := box_cell s2 0
     have v1 := box_cell s2 1
     have v2 := box_cell s2 2
     have v3 := box_cell s2 3
     go_simp
     try with_reducible rfl
    try simp only [td]
    refine tk0 (i := 4) rfl ?_
    try simp only [td]
    refine tk (i := 5) (v := ?_) rfl (Or.inl ⟨rfl, ?hy13⟩) ?_
    case hy13 =>
     intro W hS
     obtain ⟨s0, s1, s2, -⟩ := hS
     have u0 := box_cell s0 0
     have u1 := box_cell s0 1
     have u2 := box_cell s0 2
     have u3 := box_cell s1 1
     have v0 := box_cell s2 0
     have v1 := box_cell s2 1
     have v2 := box_cell s2 2
     have v3 := box_cell s2 3
     go_simp
     try with_reducible rfl
    try simp only [td]
    refine tk (i := 6) (v := ?_) rfl (Or.inl ⟨rfl, ?hy14⟩) ?_
    case hy14 =>
     intro W hS
     obtain ⟨s0, s1, s2, -⟩ := hS
     have u0 := box_cell s0 0
     have u1 := box_cell s0 1
     have u2 := box_cell s0 2
     have u3 := box_cell s1 1
     have v0 := box_cell s2 0
     have v1 := box_cell s2 1
     have v2 := box_cell s2 2
     have v3 := box_cell s2 3
     go_simp
     try with_reducible rfl
    try simp only [td]
    refine tk0 (i := 7) rfl ?_
    try simp only [td]
    refine tk (i := 8) (v := ?_) rfl (Or.inl ⟨rfl, ?hy16⟩) ?_
    case hy16 =>
     intro W hS
     obtain ⟨s0, s1, s2, -⟩ := hS
     have u0 := box_cell s0 0
     have u1 := box_cell s0 1
     have u2 := box_cell s0 2
     have u3 := box_cell s1 1
     have v0 := box_cell s2 0
     have v1 := box_cell s2 1
     have v2 := box_cell s2 2
     have v3 := box_cell s2 3
     go_simp
     try with_reducible rfl
    try simp only [td]
    refine rd 9 rfl fun K hK => ?_
    go_simp
    go_wp2_with (go_at_call 68; refine (HWI.out _).mono ?_; rintro e wq ⟨rfl, hb⟩)
    refine hK.out _ _ (⟨row_up hHeld.1 hb, row_up hHeld.2.1 hb, row_up hHeld.2.2.1 hb, hHeld.2.2.2.trans (Keep.of_below hb hHeld.2.2.2.size)⟩) (fun hX => ?_)
    clear hK K hHeld
    have hHeld := hX
    clear hX
    refine rd 10 rfl fun K hK => ?_
    have hnm := ((HX.out.2.2.1.below HBH.out).drew).below hb
    obtain ⟨W2, hup, hn2, hmt⟩ := hnm.add (by unfold maxLen; omega) (p := (s, q)) HW.out f.toNat
    go_simp
    refine hK.out _ _ (⟨turned_row hmt hnm hHeld.1, turned_row hmt hnm hHeld.2.1, turned_row hmt hnm hHeld.2.2.1, hHeld.2.2.2.trans (turned_keep hmt)⟩) (fun hX => ?_)
    clear hK K hHeld
    have hHeld := hX
    clear hX
    refine wpAnyH_done (by kernel_rfl) ?_ _
    have HE := Lib.hid (And.intro hn2 hHeld)
    clear hn2 hHeld hup hnm hmt hb
    go_wp2
    go_roundw
    case rel =>
     obtain ⟨hn2, y0, y1, y2, y3⟩ := HE.out
     have hid : ((s, q).1, (s, q).2, ((f.toNat : Nat) : Int)) = idC (⟨s, q, f, r, g⟩ : PCell) := by
      obtain ⟨-, h2, h3⟩ := HZ.out
      unfold idC
      rw [show ((f.toNat : Nat) : Int) = f by omega]
     rw [hid] at hn2
     exact ⟨k + 1, by omega, by go_num, Lib.hid ⟨by rw [HNX.out]; exact hn2, y3, y1⟩, by rw [HNX.out]; exact HRES⟩
    case measure => simp [intOf]; omega
  ·obtain rfl : N = k := by omega
   have hfin := hfold.out
   have hln := HN.out
   rw [List.take_of_length_le (by omega)] at hI hfin
   rw [List.drop_of_length_le (by omega)] at hfin
   have HF := Lib.hid hfin
   clear hfin hln hfold
   go_wp2
   go_ret
   rw [show knowN I l = (I ++ l.map idC, true) from HF.out]
   exact ⟨M, ⟨rfl, hgs, hI.out.1, hI.out.2.1, hI.out.2.2⟩⟩
end Go.Proofs.YtmedickofiielaaGreatDoor

namespace Go.Proofs.YtmedickofiielaaGreatDoor
open Go.RowKit Go.Shelf Go.Maps
attribute [local go_sem] Oper.semAt_some

def forgN (I : List Id3) (l : List PCell) : List Id3 := I.filter fun x => decide (¬ x ∈ l.map idC)
theorem forgN_mem {I : List Id3} {l : List PCell} {x : Id3} : x ∈ forgN I l ↔ x ∈ I ∧ ¬ x ∈ l.map idC := by unfold forgN; rw [List.mem_filter, decide_eq_true_iff]
theorem forgN_nil (I : List Id3) : forgN I [] = I := by unfold forgN; simp
theorem forgN_len (I : List Id3) (l : List PCell) : (forgN I l).length ≤ I.length := List.length_filter_le _ _
theorem forgN_next {I : List Id3} {l : List PCell} {c : PCell} (x : Id3) : x ∈ forgN I (l ++ [c]) ↔ x ∈ forgN I l ∧ x ≠ idC c := by
 rw [forgN_mem, forgN_mem, List.map_append, List.mem_append]
 simp only [List.map_cons, List.map_nil, List.mem_singleton]
 exact ⟨fun ⟨a, b⟩ => ⟨⟨a, fun h => b (.inl h)⟩, fun h => b (.inr h)⟩, fun ⟨⟨a, b⟩, e⟩ => ⟨a, fun h => h.elim b e⟩⟩
set_option maxRecDepth 100000 in
set_option maxHeartbeats 16000000 in
theorem forget_any (B M : Nat) (bv : Value) (I : List Id3) (v : Value) (l : List PCell) (w0 : World) (hB : w0.heap[B]? = some (.cells #[bv, .map (some M)] 90 (0, 0))) (hM : NMap w0 M I) (hv : CAt w0 v l) (hok : ∀ c ∈ l, nWf (c.site, c.seq) ∧ 0 ≤ c.off ∧ c.off < 200) (hI : ∀ x ∈ I, 0 ≤ x.2.2 ∧ x.2.2 < 200) (hlen : I.length ≤ 1000000) (hl : l.length ≤ 1000000) :
  Calls Tryz.prog 65 #[.pointer (some ⟨B, 0, none⟩), v] w0 fun e w' => (∃ r, e = .returned r) ∧ NMap w' M (forgN I l) ∧ Keep (fun k => k = M) w0.heap.size w0 w' ∧ w'.heap[B]? = some (.cells #[bv, .map (some M)] 90 (0, 0)) := by
 have HV := Lib.hid (fun W (K : Keep (fun k => k = M) w0.heap.size w0 W) => hv.km hM K)
 have HOK := Lib.hid hok
 have HI0 := Lib.hid hI
 have hsh := hv.shape
 obtain ⟨ao, cap, rfl, -⟩ := hsh
 obtain ⟨N, hN⟩ : ∃ N, l.length = N := ⟨_, rfl⟩
 have HN := Lib.hid hN
 rw [hN] at hl
 have hmn : M ≠ B := (ne_map hM hB).symm
 have HB := Lib.hid hB
 have hBlt := box_lt hB
 have h0 : NMap w0 M (forgN I (l.take 0)) ∧ Keep (fun k => k = M) w0.heap.size w0 w0 ∧ w0.heap[B]? = some (.cells #[bv, .map (some M)] 90 (0, 0)) := ⟨by rw [List.take_zero, forgN_nil]; exact hM, Keep.refl _ _ _, HB.out⟩
 have H0 := Lib.hid h0
 clear hN hv hok hB hI h0 hM
 rw [HN.out]
 go_enter Tryz.func65, Tryz.ntmps65
 go_wp2
 go_loopw [9] (fun i wr => ∃ k : Nat, k ≤ N ∧ i = .int .i64 k ∧ RowKit.Hid (NMap wr M (forgN I (l.take k)) ∧ Keep (fun k => k = M) w0.heap.size w0 wr ∧ wr.heap[B]? = some (.cells #[bv, .map (some M)] 90 (0, 0)))) (fun i _ => N - (intOf i).toNat)
 case atStart => exact ⟨0, Nat.zero_le _, rfl, H0⟩
 case round =>
  rename World => wr
  obtain ⟨k, hk, rfl, hI⟩ := hrel
  rcases Nat.lt_or_ge k N with hlt | hge
  ·obtain ⟨c, hc⟩ : ∃ c, l[k]? = some c := ⟨_, List.getElem?_eq_getElem (by rw [HN.out]; exact hlt)⟩
   obtain ⟨b, off', cp, hvv, c0, c1, c2, c3, c4⟩ := (HV.out _ hI.out.2.1).at hc
   rw [HN.out] at hvv
   cases hvv
   have hi0 : (0 : Int) ≤ (k : Int) ∧ (k : Int) < (N : Int) := ⟨by omega, by omega⟩
   obtain ⟨hwf, ho0, ho1⟩ := HOK.out c (List.mem_of_getElem? hc)
   obtain ⟨Ik, hIk⟩ : ∃ z, forgN I (l.take k) = z := ⟨_, rfl⟩
   obtain ⟨In, hIn⟩ : ∃ z, forgN I (l.take (k + 1)) = z := ⟨_, rfl⟩
   have hmem : ∀ x, x ∈ In ↔ x ∈ Ik ∧ x ≠ idC c := fun x => by rw [← hIn, ← hIk, List.take_add_one, hc]; exact forgN_next x
   have hIo : ∀ x ∈ Ik, 0 ≤ x.2.2 ∧ x.2.2 < 200 := fun x hx => HI0.out x (by rw [← hIk] at hx; exact (forgN_mem.1 hx).1)
   rw [hIk] at hI
   have hlk : Ik.length ≤ 1000000 := by rw [← hIk]; exact Nat.le_trans (forgN_len _ _) hlen
   have HNX := Lib.hid hIn
   obtain ⟨s, q, f, r, g⟩ := c
   dsimp only at c0 c1 c2 c3 c4 hwf ho0 ho1
   have hmem : ∀ x, x ∈ In ↔ x ∈ Ik ∧ x ≠ ((s, q).1, (s, q).2, ((f.toNat : Nat) : Int)) := fun x => by
    rw [hmem x, show ((f.toNat : Nat) : Int) = f by omega]
    rfl
   obtain ⟨n0, k0, b0⟩ := hI.out
   have n1 := n0.alloc (.cells #[.int .i64 s, .int .i64 q, .int .i64 f, .int .i32 r, .bool g] 48)
   have k1 := k0.alloc k0.size (.cells #[.int .i64 s, .int .i64 q, .int .i64 f, .int .i32 r, .bool g] 48)
   have b1 := row_al b0 (.cells #[.int .i64 s, .int .i64 q, .int .i64 f, .int .i32 r, .bool g] 48)
   have e1 := heap_new wr (.cells #[.int .i64 s, .int .i64 q, .int .i64 f, .int .i32 r, .bool g] 48)
   have hsz : (wr.alloc (.cells #[.int .i64 s, .int .i64 q, .int .i64 f, .int .i32 r, .bool g] 48)).heap.size = wr.heap.size + 1 := by simp
   have HW := Lib.hid hwf
   have hBw := box_lt b0
   have hMw := n0.lt
   obtain ⟨a0, a1, a2, a3, hoff⟩ : ∃ a0 a1 a2 a3 : Int, offV (offI Ik (s, q)) = .agg #[.int .u64 a0, .int .u64 a1, .int .u64 a2, .int .u64 a3] := ⟨_, _, _, _, rfl⟩
   obtain ⟨d0, d1, d2, d3, hdel⟩ : ∃ a0 a1 a2 a3 : Int, offV (delF (offI Ik (s, q)) f.toNat) = .agg #[.int .u64 a0, .int .u64 a1, .int .u64 a2, .int .u64 a3] := ⟨_, _, _, _, rfl⟩
   have hwo := fun W => without_any (offI Ik (s, q)) f W ho0 ho1
   rw [hoff, hdel] at hwo
   have HWO := Lib.hid hwo
   have HOFF := Lib.hid hoff
   have HDEL := Lib.hid hdel
   have hleft := left_has hIo hmem hdel
   obtain ⟨z, hz⟩ : ∃ z, (d0 == 0 && d1 == 0 && d2 == 0 && d3 == 0) = z := ⟨_, rfl⟩
   rw [hz] at hleft
   have HLE := Lib.hid hleft
   have HMEM := Lib.hid hmem
   have heq := fun W => offs_eql d0 d1 d2 d3 z hz W
   have HEQ := Lib.hid heq
   have HA := Lib.hid (And.intro n1 (And.intro k1 (And.intro b1 (And.intro e1 hsz))))
   clear hc hIk hIn n0 k0 b0 n1 k1 b1 e1 hsz hI hwf hoff hdel hwo hleft hmem hz hIo ho0 ho1 heq
   go_wp2
   generalize wr.alloc (.cells #[.int .i64 s, .int .i64 q, .int .i64 f, .int .i32 r, .bool g] 48) = wa at HA ⊢
   refine wp_region_held_drew (S := fun X => X.heap[wr.heap.size]? = some (.cells #[.int .i64 s, .int .i64 q, .int .i64 f, .int .i32 r, .bool g] 48 (0, 0)) ∧ X.heap[B]? = some (.cells #[bv, .map (some M)] 90 (0, 0)) ∧ NMap X M Ik ∧ Keep (fun k => k = M) w0.heap.size w0 X ∧ wr.heap.size + 1 ≤ X.heap.size) (by kernel_rfl) ⟨HA.out.2.2.2.1, HA.out.2.2.1, HA.out.1.drew, HA.out.2.1.drew, by have := HA.out.2.2.2.2; exact Nat.le_of_eq this.symm⟩ (fun hHeld => ?_)
   refine tk0 (i := 0) rfl ?_
   try simp only [td]
   refine tk0 (i := 1) rfl ?_
   try simp only [td]
   refine tk0 (i := 2) rfl ?_
   try simp only [td]
   refine tk (i := 3) (v := ?_) rfl (Or.inl ⟨rfl, ?hy17⟩) ?_
   case hy17 =>
    intro W hS
    obtain ⟨s0, s1, s2, -, -⟩ := hS
    have u0 := box_cell s0 0
    have u1 := box_cell s0 1
    have u2 := box_cell s0 2
    have u3 := box_cell s1 1
    go_simp
    try with_reducible rfl
   try simp only [td]
   refine tk0 (i := 4) rfl ?_
   try simp only [td]
   refine tk (i := 5) (v := ?_) rfl (Or.inl ⟨rfl, ?hy19⟩) ?_
   case hy19 =>
    intro W hS
    obtain ⟨s0, s1, s2, -, -⟩ := hS
    have u0 := box_cell s0 0
    have u1 := box_cell s0 1
    have u2 := box_cell s0 2
    have u3 := box_cell s1 1
    go_simp
    try with_reducible rfl
   try simp only [td]
   refine tk (i := 6) (v := ?_) rfl (Or.inl ⟨rfl, ?hy20⟩) ?_
   case hy20 =>
    intro W hS
    obtain ⟨-, -, s2, -, -⟩ := hS
    have hlk := s2.look (p := (s, q)) HW.out
    rw [HOFF.out] at hlk
    go_simp
    try with_reducible rfl
   try simp only [td]
   refine tk0 (i := 7) rfl ?_
   try simp only [td]
   refine tk (i := 8) (v := ?_) rfl (Or.inl ⟨rfl, ?hy22⟩) ?_
   case hy22 =>
    intro W hS
    obtain ⟨s0, s1, s2, -, -⟩ := hS
    have u0 := box_cell s0 0
    have u1 := box_cell s0 1
    have u2 := box_cell s0 2
    have u3 := box_cell s1 1
    go_simp
    try with_reducible rfl
   try simp only [td]
   refine wpAnyH_ready (rs := [9, 10]) (by kernel_rfl) (by simp) (AllReadyH.cons rfl (fun K hK => ?_) (AllReadyH.cons rfl (fun K hK => ?_) AllReadyH.nil))
   ·go_simp
    go_wp2_with (go_at_call 90; refine (HWO.out _).mono ?_; rintro e wq ⟨rfl, hb⟩)
    refine hK.out _ _ (⟨row_up hHeld.1 hb, row_up hHeld.2.1 hb, hHeld.2.2.1.below hb, hHeld.2.2.2.1.trans (Keep.of_below hb hHeld.2.2.2.1.size), Nat.le_trans hHeld.2.2.2.2 hb.size⟩) (fun hX => ?_)
    clear hK K hHeld
    have hHeld := hX
    clear hX
    refine rd 10 rfl fun K hK => ?_
    go_simp
    have o0 : (wq.alloc (.cells #[.int .u64 0, .int .u64 0, .int .u64 0, .int .u64 0] 97)).heap[wq.heap.size]? = some (.cells #[.int .u64 0, .int .u64 0, .int .u64 0, .int .u64 0] 97 (0, 0)) := heap_new wq (.cells #[.int .u64 0, .int .u64 0, .int .u64 0, .int .u64 0] 97)
    refine hK.out _ _ (⟨row_al hHeld.1 _, row_al hHeld.2.1 _, hHeld.2.2.1.alloc _, hHeld.2.2.2.1.alloc hHeld.2.2.2.1.size _, Nat.le_trans hHeld.2.2.2.2 (by simp)⟩) (fun hX => ?_)
    clear hK K hHeld
    have hHeld := hX
    clear hX
    refine rd 11 rfl fun K hK => ?_
    have hsA := HA.out.2.2.2.2
    have hkW := HA.out.2.1.size
    have hqs : wa.heap.size ≤ wq.heap.size := hb.size
    obtain ⟨A0, hA0⟩ : ∃ A0, wq.heap.size = A0 := ⟨_, rfl⟩
    have hneC : wr.heap.size ≠ A0 := by omega
    have hneB : B ≠ A0 := by omega
    have hneM : M ≠ A0 := by omega
    have hwA : w0.heap.size ≤ A0 := by omega
    rw [hA0] at o0
    generalize (wq.alloc (.cells #[.int .u64 0, .int .u64 0, .int .u64 0, .int .u64 0] 97)) = Y at hHeld o0 ⊢
    try rw [hA0]
    have f0 := box_frozen o0 0
    have f1 := box_frozen o0 1
    have f2 := box_frozen o0 2
    have f3 := box_frozen o0 3
    have e0 := box_cell o0 0
    have e1 := box_cell o0 1
    have e2 := box_cell o0 2
    have e3 := box_cell o0 3
    go_simp
    refine hK.out _ _ (⟨((box_other hneC 3 _).trans ((box_other hneC 2 _).trans ((box_other hneC 1 _).trans ((box_other hneC 0 _).trans hHeld.1)))), ((box_other hneB 3 _).trans ((box_other hneB 2 _).trans ((box_other hneB 1 _).trans ((box_other hneB 0 _).trans hHeld.2.1)))), (NMap.set (NMap.set (NMap.set (NMap.set hHeld.2.2.1 (o := 0) hneM) (o := 1) hneM) (o := 2) hneM) (o := 3) hneM), (Keep.setCell (Keep.setCell (Keep.setCell (Keep.setCell hHeld.2.2.2.1 (p := ⟨A0, 0, none⟩) (Or.inr (by show w0.heap.size ≤ A0; omega)) _) (p := ⟨A0, 1, none⟩) (Or.inr (by show w0.heap.size ≤ A0; omega)) _) (p := ⟨A0, 2, none⟩) (Or.inr (by show w0.heap.size ≤ A0; omega)) _) (p := ⟨A0, 3, none⟩) (Or.inr (by show w0.heap.size ≤ A0; omega)) _), by simp [World.setCell]; exact hHeld.2.2.2.2⟩) (fun hX => ?_)
    clear hK K hHeld
    have hHeld := hX
    clear hX
    refine wpAnyH_done (by kernel_rfl) ?_ _
    obtain ⟨x0, x1, x2, x3, x4⟩ := hHeld
    have p1 : ((((Y.setCell ⟨A0, 0, none⟩ (.int .u64 d0)).setCell ⟨A0, 1, none⟩ (.int .u64 d1)).setCell ⟨A0, 2, none⟩ (.int .u64 d2)).setCell ⟨A0, 3, none⟩ (.int .u64 d3)).heap[A0]? = some (.cells #[.int .u64 d0, .int .u64 d1, .int .u64 d2, .int .u64 d3] 97 (0, 0)) := box_set (box_set (box_set (box_set o0 0 (.int .u64 d0)) 1 (.int .u64 d1)) 2 (.int .u64 d2)) 3 (.int .u64 d3)
    generalize ((((Y.setCell ⟨A0, 0, none⟩ (.int .u64 d0)).setCell ⟨A0, 1, none⟩ (.int .u64 d1)).setCell ⟨A0, 2, none⟩ (.int .u64 d2)).setCell ⟨A0, 3, none⟩ (.int .u64 d3)) = Z at x0 x1 x2 x3 x4 p1 ⊢
    have z0 := box_cell p1 0
    have z1 := box_cell p1 1
    have z2 := box_cell p1 2
    have z3 := box_cell p1 3
    have HX := Lib.hid (And.intro x0 (And.intro x1 (And.intro x2 (And.intro x3 (And.intro x4 p1)))))
    clear o0 f0 f1 f2 f3 e0 e1 e2 e3 x0 x1 x2 x3 x4 p1
    have hq := fun W => HEQ.out W
    cases z with
    | true =>
     go_wp2
     refine wp_region_held_drew (S := fun X => X.heap[wr.heap.size]? = some (.cells #[.int .i64 s, .int .i64 q, .int .i64 f, .int .i32 r, .bool g] 48 (0, 0)) ∧ X.heap[B]? = some (.cells #[bv, .map (some M)] 90 (0, 0)) ∧ X.heap[A0]? = some (.cells #[.int .u64 d0, .int .u64 d1, .int .u64 d2, .int .u64 d3] 97 (0, 0)) ∧ Keep (fun k => k = M) w0.heap.size w0 X) (by kernel_rfl) ⟨HX.out.1, HX.out.2.1, HX.out.2.2.2.2.2, HX.out.2.2.2.1.drew⟩ (fun hHeld => ?_)
     refine tk0 (i := 0) rfl ?_
     try simp only [td]
     refine tk0 (i := 1) rfl ?_
     try simp only [td]
     refine tk0 (i := 2) rfl ?_
     try simp only [td]
     refine tk (i := 3) (v := ?_) rfl (Or.inl ⟨rfl, ?hy4⟩) ?_
     case hy4 =>
      intro W hS
      obtain ⟨s0, s1, s2, -⟩ := hS
      have u0 := box_cell s0 0
      have u1 := box_cell s0 1
      have u3 := box_cell s1 1
      have v0 := box_cell s2 0
      have v1 := box_cell s2 1
      have v2 := box_cell s2 2
      have v3 := box_cell s2 3
      go_simp
      try with_reducible rfl
     try simp only [td]
     refine tk0 (i := 4) rfl ?_
     try simp only [td]
     refine tk (i := 5) (v := ?_) rfl (Or.inl ⟨rfl, ?hy6⟩) ?_
     case hy6 =>
      intro W hS
      obtain ⟨s0, s1, s2, -⟩ := hS
      have u0 := box_cell s0 0
      have u1 := box_cell s0 1
      have u3 := box_cell s1 1
      have v0 := box_cell s2 0
      have v1 := box_cell s2 1
      have v2 := box_cell s2 2
      have v3 := box_cell s2 3
      go_simp
      try with_reducible rfl
     try simp only [td]
     refine rd 6 rfl fun K hK => ?_
     have hnm := HX.out.2.2.1.drew
     obtain ⟨W2, hup, hn2, hmt⟩ := hnm.del (p := (s, q)) HW.out f.toNat HMEM.out HLE.out 0
     go_simp
     refine hK.out _ _ (⟨turned_row hmt hnm hHeld.1, turned_row hmt hnm hHeld.2.1, turned_row hmt hnm hHeld.2.2.1, hHeld.2.2.2.trans (turned_keep hmt)⟩) (fun hX => ?_)
     clear hK K hHeld
     have hHeld := hX
     clear hX
     refine wpAnyH_done (by kernel_rfl) ?_ _
     have HE := Lib.hid (And.intro hn2 hHeld)
     clear hn2 hHeld hup hnm hmt
     go_wp2
     go_roundw
     case rel =>
      obtain ⟨hn2, y0, y1, y2, y3⟩ := HE.out
      exact ⟨k + 1, by omega, by go_num, Lib.hid ⟨by rw [HNX.out]; exact hn2, y3, y1⟩⟩
     case measure => simp [intOf]; omega
    | false =>
     go_wp2
     refine wp_region_held_drew (S := fun X => X.heap[wr.heap.size]? = some (.cells #[.int .i64 s, .int .i64 q, .int .i64 f, .int .i32 r, .bool g] 48 (0, 0)) ∧ X.heap[B]? = some (.cells #[bv, .map (some M)] 90 (0, 0)) ∧ X.heap[A0]? = some (.cells #[.int .u64 d0, .int .u64 d1, .int .u64 d2, .int .u64 d3] 97 (0, 0)) ∧ Keep (fun k => k = M) w0.heap.size w0 X) (by kernel_rfl) ⟨HX.out.1, HX.out.2.1, HX.out.2.2.2.2.2, HX.out.2.2.2.1.drew⟩ (fun hHeld => ?_)
     refine tk0 (i := 0) rfl ?_
     try simp only [td]
     refine tk0 (i := 1) rfl ?_
     try simp only [td]
     refine tk0 (i := 2) rfl ?_
     try simp only [td]
     refine tk (i := 3) (v := ?_) rfl (Or.inl ⟨rfl, ?hy10⟩) ?_
     case hy10 =>
      intro W hS
      obtain ⟨s0, s1, s2, -⟩ := hS
      have u0 := box_cell s0 0
      have u1 := box_cell s0 1
      have u3 := box_cell s1 1
      have v0 := box_cell s2 0
      have v1 := box_cell s2 1
      have v2 := box_cell s2 2
      have v3 := box_cell s2 3
      go_simp
      try with_reducible rfl
     try simp only [td]
     refine tk0 (i := 4) rfl ?_
     try simp only [td]
     refine tk (i := 5) (v := ?_) rfl (Or.inl ⟨rfl, ?hy12⟩) ?_
     case hy12 =>
      intro W hS
      obtain ⟨s0, s1, s2, -⟩ := hS
      have u0 := box_cell s0 0
      have u1 := box_cell s0 1
      have u3 := box_cell s1 1
      have v0 := box_cell s2 0
      have v1 := box_cell s2 1
      have v2 := box_cell s2 2
      have v3 := box_cell s2 3
      go_simp
      try with_reducible rfl
     try simp only [td]
     refine tk (i := 6) (v := ?_) rfl (Or.inl ⟨rfl, ?hy13⟩) ?_
     case hy13 =>
      intro W hS
      obtain ⟨s0, s1, s2, -⟩ := hS
      have u0 := box_cell s0 0
      have u1 := box_cell s0 1
      have u3 := box_cell s1 1
      have v0 := box_cell s2 0
      have v1 := box_cell s2 1
      have v2 := box_cell s2 2
      have v3 := box_cell s2 3
      go_simp
      try with_reducible rfl
     try simp only [td]
     refine rd 7 rfl fun K hK => ?_
     have hnm := HX.out.2.2.1.drew
     obtain ⟨W2, hup, hn2, hmt⟩ := hnm.cut (by unfold maxLen; omega) (p := (s, q)) HW.out f.toNat HMEM.out HLE.out
     rw [HDEL.out] at hup
     go_simp
     refine hK.out _ _ (⟨turned_row hmt hnm hHeld.1, turned_row hmt hnm hHeld.2.1, turned_row hmt hnm hHeld.2.2.1, hHeld.2.2.2.trans (turned_keep hmt)⟩) (fun hX => ?_)
     clear hK K hHeld
     have hHeld := hX
     clear hX
     refine wpAnyH_done (by kernel_rfl) ?_ _
     have HE := Lib.hid (And.intro hn2 hHeld)
     clear hn2 hHeld hup hnm hmt
     go_wp2
     go_roundw
     case rel =>
      obtain ⟨hn2, y0, y1, y2, y3⟩ := HE.out
      exact ⟨k + 1, by omega, by go_num, Lib.hid ⟨by rw [HNX.out]; exact hn2, y3, y1⟩⟩
     case measure => simp [intOf]; omega
   ·go_simp
    have o00 : (wa.alloc (.cells #[.int .u64 0, .int .u64 0, .int .u64 0, .int .u64 0] 97)).drew.heap[wr.heap.size + 1]? = some (.cells #[.int .u64 0, .int .u64 0, .int .u64 0, .int .u64 0] 97 (0, 0)) := by have := heap_new wa (.cells #[.int .u64 0, .int .u64 0, .int .u64 0, .int .u64 0] 97); rw [HA.out.2.2.2.2] at this; exact this
    refine hK.out _ _ (⟨row_al hHeld.1 _, row_al hHeld.2.1 _, hHeld.2.2.1.alloc _, hHeld.2.2.2.1.alloc hHeld.2.2.2.1.size _, Nat.le_trans hHeld.2.2.2.2 (by simp)⟩) (fun hX => ?_)
    clear hK K hHeld
    have hHeld := hX
    clear hX
    refine rd 9 rfl fun K hK => ?_
    go_simp
    go_wp2_with (go_at_call 90; refine (HWO.out _).mono ?_; rintro e wq ⟨rfl, hb⟩)
    have o0 := row_up o00 hb
    refine hK.out _ _ (⟨row_up hHeld.1 hb, row_up hHeld.2.1 hb, hHeld.2.2.1.below hb, hHeld.2.2.2.1.trans (Keep.of_below hb hHeld.2.2.2.1.size), Nat.le_trans hHeld.2.2.2.2 hb.size⟩) (fun hX => ?_)
    clear hK K hHeld
    have hHeld := hX
    clear hX
    refine rd 11 rfl fun K hK => ?_
    have hsA := HA.out.2.2.2.2
    have hkW := HA.out.2.1.size
    have hqs : wa.heap.size ≤ wq.heap.size := Nat.le_trans (by simp) hb.size
    obtain ⟨A0, hA0⟩ : ∃ A0, wr.heap.size + 1 = A0 := ⟨_, rfl⟩
    have hneC : wr.heap.size ≠ A0 := by omega
    have hneB : B ≠ A0 := by omega
    have hneM : M ≠ A0 := by omega
    have hwA : w0.heap.size ≤ A0 := by omega
    rw [hA0] at o0
    generalize wq = Y at hHeld o0 ⊢
    try rw [hA0]
    have f0 := box_frozen o0 0
    have f1 := box_frozen o0 1
    have f2 := box_frozen o0 2
    have f3 := box_frozen o0 3
    have e0 := box_cell o0 0
    have e1 := box_cell o0 1
    have e2 := box_cell o0 2
    have e3 := box_cell o0 3
    go_simp
    refine hK.out _ _ (⟨((box_other hneC 3 _).trans ((box_other hneC 2 _).trans ((box_other hneC 1 _).trans ((box_other hneC 0 _).trans hHeld.1)))), ((box_other hneB 3 _).trans ((box_other hneB 2 _).trans ((box_other hneB 1 _).trans ((box_other hneB 0 _).trans hHeld.2.1)))), (NMap.set (NMap.set (NMap.set (NMap.set hHeld.2.2.1 (o := 0) hneM) (o := 1) hneM) (o := 2) hneM) (o := 3) hneM), (Keep.setCell (Keep.setCell (Keep.setCell (Keep.setCell hHeld.2.2.2.1 (p := ⟨A0, 0, none⟩) (Or.inr (by show w0.heap.size ≤ A0; omega)) _) (p := ⟨A0, 1, none⟩) (Or.inr (by show w0.heap.size ≤ A0; omega)) _) (p := ⟨A0, 2, none⟩) (Or.inr (by show w0.heap.size ≤ A0; omega)) _) (p := ⟨A0, 3, none⟩) (Or.inr (by show w0.heap.size ≤ A0; omega)) _), by simp [World.setCell]; exact hHeld.2.2.2.2⟩) (fun hX => ?_)
    clear hK K hHeld
    have hHeld := hX
    clear hX
    refine wpAnyH_done (by kernel_rfl) ?_ _
    obtain ⟨x0, x1, x2, x3, x4⟩ := hHeld
    have p1 : ((((Y.setCell ⟨A0, 0, none⟩ (.int .u64 d0)).setCell ⟨A0, 1, none⟩ (.int .u64 d1)).setCell ⟨A0, 2, none⟩ (.int .u64 d2)).setCell ⟨A0, 3, none⟩ (.int .u64 d3)).heap[A0]? = some (.cells #[.int .u64 d0, .int .u64 d1, .int .u64 d2, .int .u64 d3] 97 (0, 0)) := box_set (box_set (box_set (box_set o0 0 (.int .u64 d0)) 1 (.int .u64 d1)) 2 (.int .u64 d2)) 3 (.int .u64 d3)
    generalize ((((Y.setCell ⟨A0, 0, none⟩ (.int .u64 d0)).setCell ⟨A0, 1, none⟩ (.int .u64 d1)).setCell ⟨A0, 2, none⟩ (.int .u64 d2)).setCell ⟨A0, 3, none⟩ (.int .u64 d3)) = Z at x0 x1 x2 x3 x4 p1 ⊢
    have z0 := box_cell p1 0
    have z1 := box_cell p1 1
    have z2 := box_cell p1 2
    have z3 := box_cell p1 3
    have HX := Lib.hid (And.intro x0 (And.intro x1 (And.intro x2 (And.intro x3 (And.intro x4 p1)))))
    clear o0 f0 f1 f2 f3 e0 e1 e2 e3 x0 x1 x2 x3 x4 p1
    have hq := fun W => HEQ.out W
    cases z with
    | true =>
     go_wp2
     refine wp_region_held_drew (S := fun X => X.heap[wr.heap.size]? = some (.cells #[.int .i64 s, .int .i64 q, .int .i64 f, .int .i32 r, .bool g] 48 (0, 0)) ∧ X.heap[B]? = some (.cells #[bv, .map (some M)] 90 (0, 0)) ∧ X.heap[A0]? = some (.cells #[.int .u64 d0, .int .u64 d1, .int .u64 d2, .int .u64 d3] 97 (0, 0)) ∧ Keep (fun k => k = M) w0.heap.size w0 X) (by kernel_rfl) ⟨HX.out.1, HX.out.2.1, HX.out.2.2.2.2.2, HX.out.2.2.2.1.drew⟩ (fun hHeld => ?_)
     refine tk0 (i := 0) rfl ?_
     try simp only [td]
     refine tk0 (i := 1) rfl ?_
     try simp only [td]
     refine tk0 (i := 2) rfl ?_
     try simp only [td]
     refine tk (i := 3) (v := ?_) rfl (Or.inl ⟨rfl, ?hy4⟩) ?_
     case hy4 =>
      intro W hS
      obtain ⟨s0, s1, s2, -⟩ := hS
      have u0 := box_cell s0 0
      have u1 := box_cell s0 1
      have u3 := box_cell s1 1
      have v0 := box_cell s2 0
      have v1 := box_cell s2 1
      have v2 := box_cell s2 2
      have v3 := box_cell s2 3
      go_simp
      try with_reducible rfl
     try simp only [td]
     refine tk0 (i := 4) rfl ?_
     try simp only [td]
     refine tk (i := 5) (v := ?_) rfl (Or.inl ⟨rfl, ?hy6⟩) ?_
     case hy6 =>
      intro W hS
      obtain ⟨s0, s1, s2, -⟩ := hS
      have u0 := box_cell s0 0
      have u1 := box_cell s0 1
      have u3 := box_cell s1 1
      have v0 := box_cell s2 0
      have v1 := box_cell s2 1
      have v2 := box_cell s2 2
      have v3 := box_cell s2 3
      go_simp
      try with_reducible rfl
     try simp only [td]
     refine rd 6 rfl fun K hK => ?_
     have hnm := HX.out.2.2.1.drew
     obtain ⟨W2, hup, hn2, hmt⟩ := hnm.del (p := (s, q)) HW.out f.toNat HMEM.out HLE.out 0
     go_simp
     refine hK.out _ _ (⟨turned_row hmt hnm hHeld.1, turned_row hmt hnm hHeld.2.1, turned_row hmt hnm hHeld.2.2.1, hHeld.2.2.2.trans (turned_keep hmt)⟩) (fun hX => ?_)
     clear hK K hHeld
     have hHeld := hX
     clear hX
     refine wpAnyH_done (by kernel_rfl) ?_ _
     have HE := Lib.hid (And.intro hn2 hHeld)
     clear hn2 hHeld hup hnm hmt
     go_wp2
     go_roundw
     case rel =>
      obtain ⟨hn2, y0, y1, y2, y3⟩ := HE.out
      exact ⟨k + 1, by omega, by go_num, Lib.hid ⟨by rw [HNX.out]; exact hn2, y3, y1⟩⟩
     case measure => simp [intOf]; omega
    | false =>
     go_wp2
     refine wp_region_held_drew (S := fun X => X.heap[wr.heap.size]? = some (.cells #[.int .i64 s, .int .i64 q, .int .i64 f, .int .i32 r, .bool g] 48 (0, 0)) ∧ X.heap[B]? = some (.cells #[bv, .map (some M)] 90 (0, 0)) ∧ X.heap[A0]? = some (.cells #[.int .u64 d0, .int .u64 d1, .int .u64 d2, .int .u64 d3] 97 (0, 0)) ∧ Keep (fun k => k = M) w0.heap.size w0 X) (by kernel_rfl) ⟨HX.out.1, HX.out.2.1, HX.out.2.2.2.2.2, HX.out.2.2.2.1.drew⟩ (fun hHeld => ?_)
     refine tk0 (i := 0) rfl ?_
     try simp only [td]
     refine tk0 (i := 1) rfl ?_
     try simp only [td]
     refine tk0 (i := 2) rfl ?_
     try simp only [td]
     refine tk (i := 3) (v := ?_) rfl (Or.inl ⟨rfl, ?hy10⟩) ?_
     case hy10 =>
      intro W hS
      obtain ⟨s0, s1, s2, -⟩ := hS
      have u0 := box_cell s0 0
      have u1 := box_cell s0 1
      have u3 := box_cell s1 1
      have v0 := box_cell s2 0
      have v1 := box_cell s2 1
      have v2 := box_cell s2 2
      have v3 := box_cell s2 3
      go_simp
      try with_reducible rfl
     try simp only [td]
     refine tk0 (i := 4) rfl ?_
     try simp only [td]
     refine tk (i := 5) (v := ?_) rfl (Or.inl ⟨rfl, ?hy12⟩) ?_
     case hy12 =>
      intro W hS
      obtain ⟨s0, s1, s2, -⟩ := hS
      have u0 := box_cell s0 0
      have u1 := box_cell s0 1
      have u3 := box_cell s1 1
      have v0 := box_cell s2 0
      have v1 := box_cell s2 1
      have v2 := box_cell s2 2
      have v3 := box_cell s2 3
      go_simp
      try with_reducible rfl
     try simp only [td]
     refine tk (i := 6) (v := ?_) rfl (Or.inl ⟨rfl, ?hy13⟩) ?_
     case hy13 =>
      intro W hS
      obtain ⟨s0, s1, s2, -⟩ := hS
      have u0 := box_cell s0 0
      have u1 := box_cell s0 1
      have u3 := box_cell s1 1
      have v0 := box_cell s2 0
      have v1 := box_cell s2 1
      have v2 := box_cell s2 2
      have v3 := box_cell s2 3
      go_simp
      try with_reducible rfl
     try simp only [td]
     refine rd 7 rfl fun K hK => ?_
     have hnm := HX.out.2.2.1.drew
     obtain ⟨W2, hup, hn2, hmt⟩ := hnm.cut (by unfold maxLen; omega) (p := (s, q)) HW.out f.toNat HMEM.out HLE.out
     rw [HDEL.out] at hup
     go_simp
     refine hK.out _ _ (⟨turned_row hmt hnm hHeld.1, turned_row hmt hnm hHeld.2.1, turned_row hmt hnm hHeld.2.2.1, hHeld.2.2.2.trans (turned_keep hmt)⟩) (fun hX => ?_)
     clear hK K hHeld
     have hHeld := hX
     clear hX
     refine wpAnyH_done (by kernel_rfl) ?_ _
     have HE := Lib.hid (And.intro hn2 hHeld)
     clear hn2 hHeld hup hnm hmt
     go_wp2
     go_roundw
     case rel =>
      obtain ⟨hn2, y0, y1, y2, y3⟩ := HE.out
      exact ⟨k + 1, by omega, by go_num, Lib.hid ⟨by rw [HNX.out]; exact hn2, y3, y1⟩⟩
     case measure => simp [intOf]; omega
  ·obtain rfl : N = k := by omega
   have hln := HN.out
   rw [List.take_of_length_le (by omega)] at hI
   clear hln
   go_wp2
   go_end0
   exact ⟨⟨_, rfl⟩, hI.out.1, hI.out.2.1, hI.out.2.2⟩
end Go.Proofs.YtmedickofiielaaGreatDoor
