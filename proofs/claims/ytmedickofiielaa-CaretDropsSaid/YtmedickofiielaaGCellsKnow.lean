/- Texts of this proof, joined. -/
import Derived.Test.YtmedickofiielaaGCellsNames
import Derived.Test.YtmedickofiielaaGCellsBlk
import Derived.WalkSpells
import Derived.Test.YtmedickofiielaaGSpansPlain
namespace Go.Proofs.Ytmedickofiielaa
open Go.RowKit Go.Shelf Go.Maps
attribute [local go_sem] Oper.semAt_some

def knowN (I : List Id3) : List PCell → List Id3 × Bool
 | [] => (I, true)
 | c :: r => if idC c ∈ I then (I, false) else knowN (I ++ [idC c]) r
theorem knowN_dup {I : List Id3} {c : PCell} {r : List PCell} (h : idC c ∈ I) : knowN I (c :: r) = (I, false) := by unfold knowN; rw [if_pos h]
theorem knowN_new {I : List Id3} {c : PCell} {r : List PCell} (h : ¬ idC c ∈ I) : knowN I (c :: r) = knowN (I ++ [idC c]) r := by rw [knowN.eq_2, if_neg h]
theorem drop_at {α : Type} {l : List α} {k : Nat} {c : α} (h : l[k]? = some c) : l.drop k = c :: l.drop (k + 1) := by
 obtain ⟨hl, e⟩ := List.getElem?_eq_some_iff.1 h
 rw [List.drop_eq_getElem_cons hl, e]
theorem ne_map {W : World} {M B : Nat} {I : List Id3} {cs : Array Value} {t : TypeId} {fr : Nat × Nat} (hM : NMap W M I) (h : W.heap[B]? = some (.cells cs t fr)) : B ≠ M := by
 intro e
 subst e
 obtain ⟨D, ⟨es, ck, hm, -⟩, -⟩ := hM
 rw [hm] at h
 cases h
theorem turned_block {W W' : World} {M k : Nat} (h : W.mapTurned W' M) (hk : k ≠ M) : W'.heap[k]? = W.heap[k]? := by
 obtain ⟨es, c, es', c', hb, rfl⟩ := h
 exact Go.ChangeMaps.heap_setBlock_other hb _ hk
theorem turned_keep {W W' : World} {M N : Nat} (h : W.mapTurned W' M) : Keep (fun k => k = M) N W W' :=
 ⟨h.grown.os, h.grown.tape, h.grown.output, h.grown.size, fun _ _ hk => turned_block h hk⟩
theorem turned_row {W W' : World} {M k : Nat} {I : List Id3} {cs : Array Value} {t : TypeId} {fr : Nat × Nat} (h : W.mapTurned W' M) (hM : NMap W M I) (hk : W.heap[k]? = some (.cells cs t fr)) : W'.heap[k]? = some (.cells cs t fr) := (turned_block h (ne_map hM hk)).trans hk
theorem NMap.alloc {W : World} {b : Nat} {I : List Id3} (h : NMap W b I) (o : Obj) : NMap (W.alloc o) b I := h.below ((Below.refl _ W).alloc (Nat.le_refl _) o)
theorem NMap.drew {W : World} {b : Nat} {I : List Id3} (h : NMap W b I) : NMap W.drew b I := h.kept rfl
theorem Keep.drew {S : Nat → Prop} {N : Nat} {a b : World} (h : Keep S N a b) : Keep S N a b.drew := ⟨h.os, h.tape, h.output, h.size, h.block⟩
theorem NMap.set {W : World} {b B o : Nat} {I : List Id3} (h : NMap W b I) {u : Value} (hn : b ≠ B) : NMap (W.setCell ⟨B, o, none⟩ u) b I := h.kept (box_other hn o u)

set_option maxRecDepth 100000 in
set_option maxHeartbeats 8000000 in
theorem know0_any (B : Nat) (bv : Value) (v : Value) (l : List PCell) (w0 w : World) (hw : Below w0.heap.size w0 w) (hB0 : w0.heap.size ≤ B) (hB : w.heap[B]? = some (.cells #[bv, .map none] 60 (0, 0))) (hv : CAt w0 v l) (hok : ∀ c ∈ l, nWf (c.site, c.seq) ∧ 0 ≤ c.off ∧ c.off < 200) (hlen : l.length ≤ 1000000) :
  Calls Try.prog 22 #[.pointer (some ⟨B, 0, none⟩), v] w fun e w' => ∃ M, e = .returned (.bool (knowN [] l).2) ∧ w.heap.size ≤ M ∧ NMap w' M (knowN [] l).1 ∧ Keep (fun k => k = M) w0.heap.size w0 w' ∧ w'.heap[B]? = some (.cells #[bv, .map (some M)] 60 (0, 0)) := by
 obtain ⟨M, hMM⟩ : ∃ M, w.heap.size = M := ⟨_, rfl⟩
 have hM0 : w0.heap.size ≤ M := hMM ▸ hw.size
 have HV := Lib.hid (fun W (K : Keep (fun k => k = M) w0.heap.size w0 W) => hv.below (K.below (Nat.le_refl _) (fun k hk => by rw [hk]; exact hM0)))
 have HOK := Lib.hid hok
 have hsh := hv.shape
 obtain ⟨ao, cap, rfl, -⟩ := hsh
 obtain ⟨N, hN⟩ : ∃ N, l.length = N := ⟨_, rfl⟩
 have HN := Lib.hid hN
 rw [hN] at hlen
 have hBlt := box_lt hB
 have hmn : M ≠ B := by omega
 have y0 := box_cell hB 1
 have a1 := row_al hB (.map #[] 0)
 have y1 := box_cell a1 1
 have fz := box_frozen a1 1
 have hnm := (NMap.made w).set (B := B) (o := 1) (u := .map (some M)) (by omega)
 have hbx := box_set a1 1 (.map (some M))
 have hkk : Keep (fun k => k = M) w0.heap.size w0 ((w.alloc (.map #[] 0)).setCell ⟨B, 1, none⟩ (.map (some M))) := (Keep.of_below (hw.alloc hw.size _) (Nat.le_refl _)).setCell (p := ⟨B, 1, none⟩) (.inr hB0) _
 rw [hMM] at hnm
 have HMM := Lib.hid hMM
 have HB := Lib.hid (And.intro hnm (And.intro hkk hbx))
 obtain ⟨I, hI0⟩ : ∃ I : List Id3, [] = I := ⟨_, rfl⟩
 rw [hI0] at HB
 have hlen : I.length + N ≤ 1000000 := by rw [← hI0]; simpa using hlen
 have hgs : w.heap.size ≤ M := Nat.le_of_eq hMM
 have hmk := @run_makeMap Try.prog
 clear hN hv hok hB a1 hnm hbx hkk
 rw [HN.out, hI0]
 have qT : ∀ (w : World) (r : Option Nat), (binOp .eql 58 (.map r) (.map none)).run Try.prog w = .ok (.bool r.isNone) w := fun w r => run_eql_map_nil w _ _ _ r Try.underlying58
 clear hI0
 go_enter Try.func22, Try.ntmps22
 go_wp2
 try rw [HMM.out]
 generalize (w.alloc (.map #[] 0)).setCell ⟨B, 1, none⟩ (.map (some M)) = w1 at HB ⊢
 have hBlt := box_lt HB.out.2.2
 have h0 : NMap w1 M (I ++ (l.take 0).map idC) ∧ Keep (fun k => k = M) w0.heap.size w0 w1 ∧ w1.heap[B]? = some (.cells #[bv, .map (some M)] 60 (0, 0)) := ⟨by simpa using HB.out.1, HB.out.2.1, HB.out.2.2⟩
 have H0 := Lib.hid h0
 clear h0 y0 y1 fz
 go_loopw [19] (fun i wr => ∃ k : Nat, k ≤ N ∧ i = .int .i64 k ∧ RowKit.Hid (NMap wr M (I ++ (l.take k).map idC) ∧ Keep (fun k => k = M) w0.heap.size w0 wr ∧ wr.heap[B]? = some (.cells #[bv, .map (some M)] 60 (0, 0))) ∧ RowKit.Hid (knowN I l = knowN (I ++ (l.take k).map idC) (l.drop k))) (fun i _ => N - (intOf i).toNat)
 case atStart => exact ⟨0, Nat.zero_le _, rfl, H0, Lib.hid (by simp)⟩
 case round =>
  rename World => wr
  obtain ⟨k, hk, rfl, hI, hfold⟩ := hrel
  rcases Nat.lt_or_ge k N with hlt | hge
  ·obtain ⟨c, hc⟩ : ∃ c, l[k]? = some c := ⟨_, List.getElem?_eq_getElem (by rw [HN.out]; exact hlt)⟩
   obtain ⟨b, off', cp, hvv, c0, c1, c2, c3, c4⟩ := (HV.out _ hI.out.2.1).at hc
   rw [HN.out] at hvv
   cases hvv
   have hi0 : (0 : Int) ≤ (k : Int) ∧ (k : Int) < (N : Int) := ⟨by omega, by omega⟩
   have hokc := HOK.out c (List.mem_of_getElem? hc)
   obtain ⟨hwf, ho0, ho1⟩ := hokc
   obtain ⟨Ik, hIk⟩ : ∃ z, I ++ (l.take k).map idC = z := ⟨_, rfl⟩
   rw [hIk] at hI hfold
   have hlk : Ik.length ≤ 1000000 := by rw [← hIk, List.length_append, List.length_map, List.length_take]; omega
   have hnx : I ++ (l.take (k + 1)).map idC = Ik ++ [idC c] := by rw [List.take_add_one, hc, List.map_append, ← List.append_assoc, hIk]; rfl
   have hfo := hfold.out
   rw [drop_at hc] at hfo
   have HF := Lib.hid hfo
   have HNX := Lib.hid hnx
   obtain ⟨s, q, f, r, g⟩ := c
   dsimp only at c0 c1 c2 c3 c4 hwf ho0 ho1
   obtain ⟨n0, k0, b0⟩ := hI.out
   have n1 := n0.alloc (.cells #[.int .i64 s, .int .i64 q, .int .i64 f, .int .i32 r, .bool g] 41)
   have k1 := k0.alloc k0.size (.cells #[.int .i64 s, .int .i64 q, .int .i64 f, .int .i32 r, .bool g] 41)
   have b1 := row_al b0 (.cells #[.int .i64 s, .int .i64 q, .int .i64 f, .int .i32 r, .bool g] 41)
   have e1 := heap_new wr (.cells #[.int .i64 s, .int .i64 q, .int .i64 f, .int .i32 r, .bool g] 41)
   have hsz : (wr.alloc (.cells #[.int .i64 s, .int .i64 q, .int .i64 f, .int .i32 r, .bool g] 41)).heap.size = wr.heap.size + 1 := by simp
   have HW := Lib.hid hwf
   have hBw := box_lt b0
   have hMw := n0.lt
   obtain ⟨z, hz⟩ : ∃ z, (decide (0 ≤ f ∧ f < 200) && offI Ik (s, q) f.toNat) = z := ⟨_, rfl⟩
   have hha := fun W => has_any (offI Ik (s, q)) f W
   obtain ⟨a0, a1, a2, a3, hoff⟩ : ∃ a0 a1 a2 a3 : Int, offV (offI Ik (s, q)) = .agg #[.int .u64 a0, .int .u64 a1, .int .u64 a2, .int .u64 a3] := ⟨_, _, _, _, rfl⟩
   rw [hz, hoff] at hha
   have HHA := Lib.hid hha
   have hwi := fun W => with_any (offI Ik (s, q)) f W ho0 ho1
   rw [hoff] at hwi
   have HWI := Lib.hid hwi
   have HOFF := Lib.hid hoff
   clear hoff hwi
   have HZ := Lib.hid (And.intro hz (And.intro ho0 ho1))
   clear hha hz ho0 ho1
   have HA := Lib.hid (And.intro n1 (And.intro k1 (And.intro b1 (And.intro e1 hsz))))
   clear hc hIk hfo hfold hnx n0 k0 b0 n1 k1 b1 e1 hsz hI hwf
   go_wp2
   generalize wr.alloc (.cells #[.int .i64 s, .int .i64 q, .int .i64 f, .int .i32 r, .bool g] 41) = wa at HA ⊢
   refine wp_region_held_drew (S := fun X => X.heap[wr.heap.size]? = some (.cells #[.int .i64 s, .int .i64 q, .int .i64 f, .int .i32 r, .bool g] 41 (0, 0)) ∧ X.heap[B]? = some (.cells #[bv, .map (some M)] 60 (0, 0)) ∧ NMap X M Ik ∧ Keep (fun k => k = M) w0.heap.size w0 X ∧ wr.heap.size + 1 ≤ X.heap.size) (by kernel_rfl) ⟨HA.out.2.2.2.1, HA.out.2.2.1, HA.out.1.drew, HA.out.2.1.drew, by have := HA.out.2.2.2.2; exact Nat.le_of_eq this.symm⟩ (fun hHeld => ?_)
   refine tk0 (i := 0) rfl ?_
   try simp only [td]
   refine tk0 (i := 1) rfl ?_
   try simp only [td]
   refine tk0 (i := 2) rfl ?_
   try simp only [td]
   refine tk (i := 3) (v := ?_) rfl (Or.inl ⟨rfl, ?hy4⟩) ?_
   case hy4 =>
    intro W hS
    obtain ⟨s0, s1, s2, -, -⟩ := hS
    have u0 := box_cell s0 0
    have u1 := box_cell s0 1
    have u2 := box_cell s0 2
    have u3 := box_cell s1 1
    go_simp
    try with_reducible rfl
   try simp only [td]
   refine tk0 (i := 4) rfl ?_
   try simp only [td]
   refine tk (i := 5) (v := ?_) rfl (Or.inl ⟨rfl, ?hy6⟩) ?_
   case hy6 =>
    intro W hS
    obtain ⟨s0, s1, s2, -, -⟩ := hS
    have u0 := box_cell s0 0
    have u1 := box_cell s0 1
    have u2 := box_cell s0 2
    have u3 := box_cell s1 1
    go_simp
    try with_reducible rfl
   try simp only [td]
   refine tk (i := 6) (v := ?_) rfl (Or.inl ⟨rfl, ?hy7⟩) ?_
   case hy7 =>
    intro W hS
    obtain ⟨-, -, s2, -, -⟩ := hS
    have hlk := s2.look (p := (s, q)) HW.out
    rw [HOFF.out] at hlk
    go_simp
    try with_reducible rfl
   try simp only [td]
   refine rd 7 rfl fun K hK => ?_
   go_simp
   refine hK.out _ _ (⟨row_al hHeld.1 _, row_al hHeld.2.1 _, hHeld.2.2.1.alloc _, hHeld.2.2.2.1.alloc hHeld.2.2.2.1.size _, Nat.le_trans hHeld.2.2.2.2 (by simp)⟩) (fun hX => ?_)
   clear hK K hHeld
   have hHeld := hX
   clear hX
   refine rd 8 rfl fun K hK => ?_
   have o0 : (wa.alloc (.cells #[.int .u64 0, .int .u64 0, .int .u64 0, .int .u64 0] 87)).drew.heap[wr.heap.size + 1]? = some (.cells #[.int .u64 0, .int .u64 0, .int .u64 0, .int .u64 0] 87 (0, 0)) := by have := heap_new wa (.cells #[.int .u64 0, .int .u64 0, .int .u64 0, .int .u64 0] 87); rw [HA.out.2.2.2.2] at this; exact this
   have hsA := HA.out.2.2.2.2
   have hkW := HA.out.2.1.size
   have hneC : wr.heap.size ≠ wr.heap.size + 1 := by omega
   have hneB : B ≠ wr.heap.size + 1 := by omega
   have hneM : M ≠ wr.heap.size + 1 := by omega
   generalize (wa.alloc (.cells #[.int .u64 0, .int .u64 0, .int .u64 0, .int .u64 0] 87)).drew = Y at hHeld o0 ⊢
   have f0 := box_frozen o0 0
   have f1 := box_frozen o0 1
   have f2 := box_frozen o0 2
   have f3 := box_frozen o0 3
   have e0 := box_cell o0 0
   have e1 := box_cell o0 1
   have e2 := box_cell o0 2
   have e3 := box_cell o0 3
   go_simp
   refine hK.out _ _ (⟨((box_other hneC 3 _).trans ((box_other hneC 2 _).trans ((box_other hneC 1 _).trans ((box_other hneC 0 _).trans hHeld.1)))), ((box_other hneB 3 _).trans ((box_other hneB 2 _).trans ((box_other hneB 1 _).trans ((box_other hneB 0 _).trans hHeld.2.1)))), (NMap.set (NMap.set (NMap.set (NMap.set hHeld.2.2.1 (o := 0) hneM) (o := 1) hneM) (o := 2) hneM) (o := 3) hneM), (Keep.setCell (Keep.setCell (Keep.setCell (Keep.setCell hHeld.2.2.2.1 (p := ⟨wr.heap.size + 1, 0, none⟩) (Or.inr (by show w0.heap.size ≤ wr.heap.size + 1; have := hkW; omega)) _) (p := ⟨wr.heap.size + 1, 1, none⟩) (Or.inr (by show w0.heap.size ≤ wr.heap.size + 1; have := hkW; omega)) _) (p := ⟨wr.heap.size + 1, 2, none⟩) (Or.inr (by show w0.heap.size ≤ wr.heap.size + 1; have := hkW; omega)) _) (p := ⟨wr.heap.size + 1, 3, none⟩) (Or.inr (by show w0.heap.size ≤ wr.heap.size + 1; have := hkW; omega)) _), by simp [World.setCell]; exact hHeld.2.2.2.2⟩) (fun hX => ?_)
   clear hK K hHeld
   have hHeld := hX
   clear hX
   refine wpAnyH_done (by kernel_rfl) ?_ _
   obtain ⟨x0, x1, x2, x3, x4⟩ := hHeld
   have p1 : ((((Y.setCell ⟨wr.heap.size + 1, 0, none⟩ (.int .u64 a0)).setCell ⟨wr.heap.size + 1, 1, none⟩ (.int .u64 a1)).setCell ⟨wr.heap.size + 1, 2, none⟩ (.int .u64 a2)).setCell ⟨wr.heap.size + 1, 3, none⟩ (.int .u64 a3)).heap[wr.heap.size + 1]? = some (.cells #[.int .u64 a0, .int .u64 a1, .int .u64 a2, .int .u64 a3] 87 (0, 0)) := box_set (box_set (box_set (box_set o0 0 (.int .u64 a0)) 1 (.int .u64 a1)) 2 (.int .u64 a2)) 3 (.int .u64 a3)
   generalize ((((Y.setCell ⟨wr.heap.size + 1, 0, none⟩ (.int .u64 a0)).setCell ⟨wr.heap.size + 1, 1, none⟩ (.int .u64 a1)).setCell ⟨wr.heap.size + 1, 2, none⟩ (.int .u64 a2)).setCell ⟨wr.heap.size + 1, 3, none⟩ (.int .u64 a3)) = Z at x0 x1 x2 x3 x4 p1 ⊢
   have z0 := box_cell p1 0
   have z1 := box_cell p1 1
   have z2 := box_cell p1 2
   have z3 := box_cell p1 3
   have z4 := box_cell x0 2
   have HX := Lib.hid (And.intro x0 (And.intro x1 (And.intro x2 (And.intro x3 (And.intro x4 p1)))))
   clear o0 f0 f1 f2 f3 e0 e1 e2 e3 x0 x1 x2 x3 x4 p1
   cases z with
   | true =>
    go_wp2_with (go_at_call 36; refine (HHA.out _).mono ?_; rintro e wh ⟨rfl, hbh⟩)
    go_ret
    have hmem : idC (⟨s, q, f, r, g⟩ : PCell) ∈ Ik := by
     obtain ⟨h1, h2, h3⟩ := HZ.out
     rw [decide_eq_true (show 0 ≤ f ∧ f < 200 from ⟨h2, h3⟩), Bool.true_and] at h1
     unfold offI at h1
     have h4 := of_decide_eq_true h1
     rw [show ((f.toNat : Nat) : Int) = f by omega] at h4
     exact h4
    have hres := HF.out
    rw [knowN_dup hmem] at hres
    exact ⟨M, ⟨by rw [hres]; rfl, hgs, by rw [hres]; exact HX.out.2.2.1.below hbh, HX.out.2.2.2.1.trans (Keep.of_below hbh HX.out.2.2.2.1.size), row_up HX.out.2.1 hbh⟩⟩
   | false =>
    have hmem : ¬ idC (⟨s, q, f, r, g⟩ : PCell) ∈ Ik := by
     obtain ⟨h1, h2, h3⟩ := HZ.out
     rw [decide_eq_true (show 0 ≤ f ∧ f < 200 from ⟨h2, h3⟩), Bool.true_and] at h1
     unfold offI at h1
     have h4 := of_decide_eq_false h1
     rw [show ((f.toNat : Nat) : Int) = f by omega] at h4
     exact h4
    have hres := HF.out
    rw [knowN_new hmem] at hres
    have HRES := Lib.hid hres
    clear hmem hres
    go_wp2_with (go_at_call 36; refine (HHA.out _).mono ?_; rintro e wh ⟨rfl, hbh⟩; clear z0 z1 z2 z3 z4; have HBH := Lib.hid hbh; clear hbh)
    refine wp_region_held_drew (S := fun X => X.heap[wr.heap.size]? = some (.cells #[.int .i64 s, .int .i64 q, .int .i64 f, .int .i32 r, .bool g] 41 (0, 0)) ∧ X.heap[B]? = some (.cells #[bv, .map (some M)] 60 (0, 0)) ∧ X.heap[wr.heap.size + 1]? = some (.cells #[.int .u64 a0, .int .u64 a1, .int .u64 a2, .int .u64 a3] 87 (0, 0)) ∧ Keep (fun k => k = M) w0.heap.size w0 X) (by kernel_rfl) ⟨row_up HX.out.1 HBH.out.drew, row_up HX.out.2.1 HBH.out.drew, row_up HX.out.2.2.2.2.2 HBH.out.drew, (HX.out.2.2.2.1.trans (Keep.of_below HBH.out HX.out.2.2.2.1.size)).drew⟩ (fun hHeld => ?_)
    refine tk0 (i := 0) rfl ?_
    try simp only [td]
    refine tk0 (i := 1) rfl ?_
    try simp only [td]
    refine tk0 (i := 2) rfl ?_
    try simp only [td]
    refine tk (i := 3) (v := ?_) rfl (Or.inl ⟨rfl, ?hy11⟩) ?_
    case hy11 =>
     intro W hS
     obtain ⟨s0, s1, s2, -⟩ := hS
     have u0 := box_cell s0 0
     have u1 := box_cell s0 1
     have u2 := box_cell s0 2
     have u3 := box_cell s1 1
     have v0 := box_cell s2 0
     have v1 := box_cell s2 1
     have v2 := box_cell s2 2
     have v3 := box_cell s2 3
     go_simp
     try with_reducible rfl
    try simp only [td]
    refine tk0 (i := 4) rfl ?_
    try simp only [td]
    refine tk (i := 5) (v := ?_) rfl (Or.inl ⟨rfl, ?hy13⟩) ?_
    case hy13 =>
     intro W hS
     obtain ⟨s0, s1, s2, -⟩ := hS
     have u0 := box_cell s0 0
     have u1 := box_cell s0 1
     have u2 := box_cell s0 2
     have u3 := box_cell s1 1
     have v0 := box_cell s2 0
     have v1 := box_cell s2 1
     have v2 := box_cell s2 2
     have v3 := box_cell s2 3
     go_simp
     try with_reducible rfl
    try simp only [td]
    refine tk (i := 6) (v := ?_) rfl (Or.inl ⟨rfl, ?hy14⟩) ?_
    case hy14 =>
     intro W hS
     obtain ⟨s0, s1, s2, -⟩ := hS
     have u0 := box_cell s0 0
     have u1 := box_cell s0 1
     have u2 := box_cell s0 2
     have u3 := box_cell s1 1
     have v0 := box_cell s2 0
     have v1 := box_cell s2 1
     have v2 := box_cell s2 2
     have v3 := box_cell s2 3
     go_simp
     try with_reducible rfl
    try simp only [td]
    refine tk0 (i := 7) rfl ?_
    try simp only [td]
    refine tk (i := 8) (v := ?_) rfl (Or.inl ⟨rfl, ?hy16⟩) ?_
    case hy16 =>
     intro W hS
     obtain ⟨s0, s1, s2, -⟩ := hS
     have u0 := box_cell s0 0
     have u1 := box_cell s0 1
     have u2 := box_cell s0 2
     have u3 := box_cell s1 1
     have v0 := box_cell s2 0
     have v1 := box_cell s2 1
     have v2 := box_cell s2 2
     have v3 := box_cell s2 3
     go_simp
     try with_reducible rfl
    try simp only [td]
    refine rd 9 rfl fun K hK => ?_
    go_simp
    go_wp2_with (go_at_call 37; refine (HWI.out _).mono ?_; rintro e wq ⟨rfl, hb⟩)
    refine hK.out _ _ (⟨row_up hHeld.1 hb, row_up hHeld.2.1 hb, row_up hHeld.2.2.1 hb, hHeld.2.2.2.trans (Keep.of_below hb hHeld.2.2.2.size)⟩) (fun hX => ?_)
    clear hK K hHeld
    have hHeld := hX
    clear hX
    refine rd 10 rfl fun K hK => ?_
    have hnm := ((HX.out.2.2.1.below HBH.out).drew).below hb
    obtain ⟨W2, hup, hn2, hmt⟩ := hnm.add (by unfold maxLen; omega) (p := (s, q)) HW.out f.toNat
    go_simp
    refine hK.out _ _ (⟨turned_row hmt hnm hHeld.1, turned_row hmt hnm hHeld.2.1, turned_row hmt hnm hHeld.2.2.1, hHeld.2.2.2.trans (turned_keep hmt)⟩) (fun hX => ?_)
    clear hK K hHeld
    have hHeld := hX
    clear hX
    refine wpAnyH_done (by kernel_rfl) ?_ _
    have HE := Lib.hid (And.intro hn2 hHeld)
    clear hn2 hHeld hup hnm hmt hb
    go_wp2
    go_roundw
    case rel =>
     obtain ⟨hn2, y0, y1, y2, y3⟩ := HE.out
     have hid : ((s, q).1, (s, q).2, ((f.toNat : Nat) : Int)) = idC (⟨s, q, f, r, g⟩ : PCell) := by
      obtain ⟨-, h2, h3⟩ := HZ.out
      unfold idC
      rw [show ((f.toNat : Nat) : Int) = f by omega]
     rw [hid] at hn2
     exact ⟨k + 1, by omega, by go_num, Lib.hid ⟨by rw [HNX.out]; exact hn2, y3, y1⟩, by rw [HNX.out]; exact HRES⟩
    case measure => simp [intOf]; omega
  ·obtain rfl : N = k := by omega
   have hfin := hfold.out
   have hln := HN.out
   rw [List.take_of_length_le (by omega)] at hI hfin
   rw [List.drop_of_length_le (by omega)] at hfin
   have HF := Lib.hid hfin
   clear hfin hln hfold
   go_wp2
   go_ret
   rw [show knowN I l = (I ++ l.map idC, true) from HF.out]
   exact ⟨M, ⟨rfl, hgs, hI.out.1, hI.out.2.1, hI.out.2.2⟩⟩
end Go.Proofs.Ytmedickofiielaa

namespace Go.Proofs.Ytmedickofiielaa
open Go.RowKit Go.Shelf Go.Maps
attribute [local go_sem] Oper.semAt_some

end Go.Proofs.Ytmedickofiielaa
