/- The program's frames: the row of its fields. -/
import Derived.Test.YtckknopjhmpnhaaFrameOrd
import Derived.Deep.RegionHeld
import Derived.Lib.Hide
import Derived.Deep.CutRange
import Derived.Deep.DeepCutAuto
namespace Go.Proofs.Ytckknopjhmpnhaa
open Go.RowKit Go.Shelf

theorem wpAny_at {P : Program} {ops : Array Oper} {Q : Exit → Act → World → Prop} {md : Region.Mode} {fuel fuel' : Nat} {l l' : Array Bool} {a a' : Act} {w : World} (hf : fuel = fuel') (hl : l = l') (ha : a = a') (h : wpAny P md ops Q fuel' l' a' w) : wpAny P md ops Q fuel l a w := by
  subst hf hl ha; exact h
/-- The fields' row, by the kind. -/
def Flds (one : Bool) (N F : Nat) (v : Value) (w : World) : Prop := match one with
  | true => ∃ G p1 m1 p2 m2 p3 m3 p4, v = .slice (some ⟨G, 0, none⟩) 4 4 ∧ N ≤ G ∧ w.heap[G]? = some (.cells #[numPutV p1, numReadV m1 p1, numPutV p2, numReadV m2 p2, numPutV p3, numReadV m3 p3, rowPutV p4, rowReadV p4] 50 (0, 0)) ∧
      NumAt N p1 m1 F 1 16 w ∧ NumAt N p2 m2 F 2 1099511627776 w ∧ NumAt N p3 m3 F 3 1099511627776 w ∧ RowAt N p4 F 4 w
  | false => ∃ G p1 m1 p3 m3, v = .slice (some ⟨G, 0, none⟩) 2 2 ∧ N ≤ G ∧ w.heap[G]? = some (.cells #[numPutV p1, numReadV m1 p1, numPutV p3, numReadV m3 p3] 50 (0, 0)) ∧
      NumAt N p1 m1 F 1 16 w ∧ NumAt N p3 m3 F 3 1099511627776 w
def FieldsPost (one : Bool) (F : Nat) (w : World) (e : Ending) (w' : World) : Prop := ∃ v, e = .returned v ∧ Flds one w.heap.size F v w' ∧ Below w.heap.size w w'
set_option maxRecDepth 100000 in
set_option maxHeartbeats 4000000 in
theorem fields_any (F : Nat) (k s q a : Int) (b : ByteArray) (w : World) (h : Fm F k s q a b w) :
    Calls Try.prog 17 #[.pointer (some ⟨F, 0, none⟩)] w (FieldsPost (decide (k = 1)) F w) := by
  have hnum := number_any
  go_enter Try.func17, Try.ntmps17
  go_wp2
  go_cut [3, 4, 5] from 6 to 17 (fun x y z W => Three w.heap.size F w x y z W)
  case first =>
    refine wp_region_any (by kernel_rfl) ?_
    change wpAny _ _ _ _ _ _ _ (World.drew _)
    refine wpAny_take (i := 0) (v := .pointer (some ⟨F, 0, none⟩)) rfl (by kernel_rfl) (by kernel_rfl) (by kernel_rfl) (fun _ _ _ h => h) (Or.inl ⟨by rfl, ?_⟩) ?_
    · intro wq; go_simp
    refine wpAny_take (i := 1) (v := .pointer (some ⟨F, 0, none⟩)) rfl (by kernel_rfl) (by kernel_rfl) (by kernel_rfl) (fun _ _ _ h => h) (Or.inl ⟨by rfl, ?_⟩) ?_
    · intro wq; go_simp
    refine wpAny_take (i := 2) (v := .pointer (some ⟨F, 1, none⟩)) rfl (by kernel_rfl) (by kernel_rfl) (by kernel_rfl) (fun _ _ _ h => h) (Or.inl ⟨by rfl, ?_⟩) ?_
    · intro wq; go_simp
    refine wpAny_take (i := 4) (v := .pointer (some ⟨F, 0, none⟩)) rfl (by kernel_rfl) (by kernel_rfl) (by kernel_rfl) (fun _ _ _ h => h) (Or.inl ⟨by rfl, ?_⟩) ?_
    · intro wq; go_simp
    refine wpAny_take (i := 5) (v := .pointer (some ⟨F, 0, none⟩)) rfl (by kernel_rfl) (by kernel_rfl) (by kernel_rfl) (fun _ _ _ h => h) (Or.inl ⟨by rfl, ?_⟩) ?_
    · intro wq; go_simp
    refine wpAny_take (i := 6) (v := .pointer (some ⟨F, 2, none⟩)) rfl (by kernel_rfl) (by kernel_rfl) (by kernel_rfl) (fun _ _ _ h => h) (Or.inl ⟨by rfl, ?_⟩) ?_
    · intro wq; go_simp
    refine wpAny_take (i := 8) (v := .pointer (some ⟨F, 0, none⟩)) rfl (by kernel_rfl) (by kernel_rfl) (by kernel_rfl) (fun _ _ _ h => h) (Or.inl ⟨by rfl, ?_⟩) ?_
    · intro wq; go_simp
    refine wpAny_take (i := 9) (v := .pointer (some ⟨F, 0, none⟩)) rfl (by kernel_rfl) (by kernel_rfl) (by kernel_rfl) (fun _ _ _ h => h) (Or.inl ⟨by rfl, ?_⟩) ?_
    · intro wq; go_simp
    refine wpAny_take (i := 10) (v := .pointer (some ⟨F, 3, none⟩)) rfl (by kernel_rfl) (by kernel_rfl) (by kernel_rfl) (fun _ _ _ h => h) (Or.inl ⟨by rfl, ?_⟩) ?_
    · intro wq; go_simp
    refine wpAny_at (fuel' := 6 + 3) (l' := lstF 0 false false false) (a' := frF F undef undef undef undef undef undef) rfl (by kernel_rfl) (by rfl) ?_
    refine any_orderF (N := w.heap.size) (w0 := w) (F := F) ?s3 ?s7 ?s11 ?s12 ?s13 ?s14 ?rd ?fin 6 0 false false false _ _ _ _ _ _ _ (by decide) (by decide) ?start
    case s3 =>
      intro K u3 u4 u5 u9 u13 u17 w1 hK
      refine wpOp_step rfl (fun K' hK' => ?_)
      unfold frF
      go_simp
      refine (hnum F 1 16 w1).mono ?_
      rintro e w' ⟨p, m, rfl, hn, hb⟩
      exact hK' _ _ (hK p m w' hn hb)
    case s7 =>
      intro K u3 u4 u5 u9 u13 u17 w1 hK
      refine wpOp_step rfl (fun K' hK' => ?_)
      unfold frF
      go_simp
      refine (hnum F 2 1099511627776 w1).mono ?_
      rintro e w' ⟨p, m, rfl, hn, hb⟩
      exact hK' _ _ (hK p m w' hn hb)
    case s11 =>
      intro K u3 u4 u5 u9 u13 u17 w1 hK
      refine wpOp_step rfl (fun K' hK' => ?_)
      unfold frF
      go_simp
      refine (hnum F 3 1099511627776 w1).mono ?_
      rintro e w' ⟨p, m, rfl, hn, hb⟩
      exact hK' _ _ (hK p m w' hn hb)
    case s12 =>
      intro K u3 u4 u5 u9 u13 u17 w1 hK
      refine wpOp_step rfl (fun K' hK' => ?_)
      unfold frF
      go_simp
      exact hK' _ _ hK
    case s13 =>
      intro K u3 u4 u5 u9 u13 u17 w1 hK
      refine wpOp_step rfl (fun K' hK' => ?_)
      unfold frF
      go_simp
      exact hK' _ _ hK
    case s14 =>
      intro K u3 u4 u5 u9 u13 u17 w1 hK
      refine wpOp_step rfl (fun K' hK' => ?_)
      unfold frF
      go_simp
      exact hK' _ _ hK
    case rd =>
      intro c b1 b2 b3 hc hne
      have h4 : c = 0 ∨ c = 1 ∨ c = 2 ∨ c = 3 := by omega
      rcases h4 with rfl | rfl | rfl | rfl
      all_goals
        cases b1 <;> cases b2 <;> cases b3
      all_goals first | exact absurd rfl hne | (change Region.ready _ _ _ = _; kernel_rfl)
    case start =>
      exact ⟨(Below.refl w.heap.size w).drew, Nat.le_refl _, (fun q => by omega), (fun q => by omega), (fun q => by omega), (fun q => by cases q), (fun q => by cases q), (fun q => by cases q), (fun q => by cases q), (fun q => by cases q), (fun q => by cases q)⟩
    case fin =>
      intro u3 u4 u5 u9 u13 u17 w1 hI
      obtain ⟨p1, m1, rfl, hn1⟩ := hI.k1 (by decide)
      obtain ⟨p2, m2, rfl, hn2⟩ := hI.k2 (by decide)
      obtain ⟨p3, m3, rfl, hn3⟩ := hI.k3 (by decide)
      obtain ⟨x, rfl, hx⟩ := hI.x1 rfl
      obtain ⟨y, rfl, hy⟩ := hI.x2 rfl
      obtain ⟨z, rfl, hz⟩ := hI.x3 rfl
      have hfin := three_fin hI hn1 hn2 hn3 hx hy hz
      have c0 : _ = some Value.nilFunc := cell_of_row _ _ 0 _ _ _ hx.2
      have c1 : _ = some Value.nilFunc := cell_of_row _ _ 1 _ _ _ hx.2
      have f0 := frozen_of_row _ _ 0 _ _ hx.2
      have f1 := frozen_of_row _ _ 1 _ _ hx.2
      have nxy : x ≠ y := fun e => hI.d12 rfl rfl (by rw [e])
      have nxz : x ≠ z := fun e => hI.d13 rfl rfl (by rw [e])
      have nyz : y ≠ z := fun e => hI.d23 rfl rfl (by rw [e])
      refine wpAny_ready (rs := [15]) (by kernel_rfl) (by simp) ?_
      refine AllReady.cons rfl (fun K hK => ?_) AllReady.nil
      unfold frF fieldV numPutV numReadV
      go_simp
      refine hK _ _ ?_
      clear hK K c0 c1 f0 f1
      have hy2 : ((w1.setCell ⟨x, 0, none⟩ (numPutV p1)).setCell ⟨x, 1, none⟩ (numReadV m1 p1)).heap[y]? = _ := (box_other (Ne.symm nxy) 1 _).trans ((box_other (Ne.symm nxy) 0 _).trans hy.2)
      have c0 : _ = some Value.nilFunc := cell_of_row _ _ 0 _ _ _ hy2
      have c1 : _ = some Value.nilFunc := cell_of_row _ _ 1 _ _ _ hy2
      have f0 := frozen_of_row _ _ 0 _ _ hy2
      have f1 := frozen_of_row _ _ 1 _ _ hy2
      unfold numPutV numReadV at c0 c1 f0 f1
      refine wpAny_ready (rs := [16]) (by kernel_rfl) (by simp) ?_
      refine AllReady.cons rfl (fun K hK => ?_) AllReady.nil
      go_simp
      refine hK _ _ ?_
      clear hK K c0 c1 f0 f1
      have hz2 : ((((w1.setCell ⟨x, 0, none⟩ (numPutV p1)).setCell ⟨x, 1, none⟩ (numReadV m1 p1)).setCell ⟨y, 0, none⟩ (numPutV p2)).setCell ⟨y, 1, none⟩ (numReadV m2 p2)).heap[z]? = _ := (box_other (Ne.symm nyz) 1 _).trans ((box_other (Ne.symm nyz) 0 _).trans ((box_other (Ne.symm nxz) 1 _).trans ((box_other (Ne.symm nxz) 0 _).trans hz.2)))
      have c0 : _ = some Value.nilFunc := cell_of_row _ _ 0 _ _ _ hz2
      have c1 : _ = some Value.nilFunc := cell_of_row _ _ 1 _ _ _ hz2
      have f0 := frozen_of_row _ _ 0 _ _ hz2
      have f1 := frozen_of_row _ _ 1 _ _ hz2
      unfold numPutV numReadV at c0 c1 f0 f1
      refine wpAny_ready (rs := [17]) (by kernel_rfl) (by simp) ?_
      refine AllReady.cons rfl (fun K hK => ?_) AllReady.nil
      go_simp
      refine hK _ _ ?_
      clear hK K c0 c1 f0 f1
      refine wpAny_done (by kernel_rfl) ?_ _
      go_wp2_with fail
      go_meet
      exact hfin
  case rest =>
    obtain ⟨x, y, z, p1, m1, p2, m2, p3, m3, rfl, rfl, rfl, hx, hy, hz, h1, h2, h3, hb⟩ := hcut
    have hF : _ = some (Value.int .i64 k) := cell_of_row _ _ 0 _ _ _ (h.below hb h.lt)
    have x0 : _ = some (numPutV p1) := cell_of_row _ _ 0 _ _ _ hx
    have x1 : _ = some (numReadV m1 p1) := cell_of_row _ _ 1 _ _ _ hx
    have y0 : _ = some (numPutV p2) := cell_of_row _ _ 0 _ _ _ hy
    have y1 : _ = some (numReadV m2 p2) := cell_of_row _ _ 1 _ _ _ hy
    have z0 : _ = some (numPutV p3) := cell_of_row _ _ 0 _ _ _ hz
    have z1 : _ = some (numReadV m3 p3) := cell_of_row _ _ 1 _ _ _ hz
    have hNb : w.heap.size ≤ wc.heap.size := hb.size
    clear hx hy hz
    by_cases hk : k = 1
    · subst hk
      have hrow := row_any F 4
      go_wp2
      go_region_held (fun W => (W.cell? ⟨x, 0, none⟩ = some (numPutV p1) ∧ W.cell? ⟨x, 1, none⟩ = some (numReadV m1 p1)) ∧ (W.cell? ⟨y, 0, none⟩ = some (numPutV p2) ∧ W.cell? ⟨y, 1, none⟩ = some (numReadV m2 p2)) ∧ (W.cell? ⟨z, 0, none⟩ = some (numPutV p3) ∧ W.cell? ⟨z, 1, none⟩ = some (numReadV m3 p3)))
        (first | exact ⟨⟨x0, x1⟩, ⟨y0, y1⟩, ⟨z0, z1⟩⟩ | exact ⟨⟨cb hb4 x0, cb hb4 x1⟩, ⟨cb hb4 y0, cb hb4 y1⟩, ⟨cb hb4 z0, cb hb4 z1⟩⟩ | exact ⟨⟨cell_alloc_old (cb hb4 x0) _, cell_alloc_old (cb hb4 x1) _⟩, ⟨cell_alloc_old (cb hb4 y0) _, cell_alloc_old (cb hb4 y1) _⟩, ⟨cell_alloc_old (cb hb4 z0) _, cell_alloc_old (cb hb4 z1) _⟩⟩)
        (first | (go_at_call 30; refine (hrow _).mono ?_; rintro e w4 ⟨p4, rfl, h4, hb4⟩))
      have hbA : Below wc.heap.size wc (w4.alloc (.cells #[numPutV p1, numReadV m1 p1, numPutV p2, numReadV m2 p2, numPutV p3, numReadV m3 p3, rowPutV p4, rowReadV p4] 50)) :=
        ((Below.refl wc.heap.size wc).drew.trans hb4).alloc hb4.size _
      have hb5 := (Below.refl w4.heap.size w4).alloc (Nat.le_refl _) (.cells #[numPutV p1, numReadV m1 p1, numPutV p2, numReadV m2 p2, numPutV p3, numReadV m3 p3, rowPutV p4, rowReadV p4] 50)
      have hs4 : w.heap.size ≤ w4.heap.size := Nat.le_trans hNb hb4.size
      go_wp2
      go_ret
      exact ⟨_, rfl, ⟨w4.heap.size, p1, m1, p2, m2, p3, m3, p4, rfl, hs4, heap_alloc_new _ _, h1.below hbA, h2.below hbA, h3.below hbA, ⟨Nat.le_trans hNb h4.hp, cb hb5 h4.cp⟩⟩, hb.trans (hbA.mono hNb)⟩
    · have hkb : (k == 1) = false := beq_eq_false_iff_ne.2 hk
      have hbA : Below wc.heap.size wc (wc.alloc (.cells #[numPutV p1, numReadV m1 p1, numPutV p3, numReadV m3 p3] 50)) := (Below.refl wc.heap.size wc).alloc (Nat.le_refl _) _
      have HK := Lib.hid (decide_eq_false hk)
      go_wp2
      go_ret
      refine ⟨_, rfl, ?_, hb.trans (hbA.mono hNb)⟩
      rw [HK.out]
      exact ⟨wc.heap.size, p1, m1, p3, m3, rfl, hNb, heap_alloc_new _ _, h1.below hbA, h3.below hbA⟩
end Go.Proofs.Ytckknopjhmpnhaa
