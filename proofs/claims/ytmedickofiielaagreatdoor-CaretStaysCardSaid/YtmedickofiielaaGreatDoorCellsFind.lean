/- Where a document holds a cell. -/
import Derived.Test.YtmedickofiielaaGreatDoorGCellsBlk
import Derived.Test.YtmedickofiielaaGreatDoorGCellsNames
import Derived.Test.YtmedickofiielaaGreatDoorGRefSplit
import Derived.Test.YtmedickofiielaaGreatDoorGSpansPlain
namespace Go.Proofs.YtmedickofiielaaGreatDoor
open Go.RowKit Go.Shelf
attribute [local go_sem] Oper.semAt_some

theorem heap_new4 (w : World) (x y z u o : Obj) : (((((w.alloc x).alloc y).alloc z).alloc u).alloc o).heap[w.heap.size + 1 + 1 + 1 + 1]? = some o := by
 have := heap_new3 (w.alloc x) y z u o
 rwa [World.size_alloc] at this
theorem cF_no {s q off : Int} {l : List PCell} (h : ∀ c ∈ l, isC s q off c = false) : cFind l s q off = (0, false) := by
 have : l.findIdx? (isC s q off) = none := by
  rw [List.findIdx?_eq_none_iff]
  exact h
 unfold isC at this
 unfold cFind
 rw [this]
theorem ixI_some {s q off : Int} {l : List PCell} {k : Nat} (h : ixI s q off l = (k : Int)) : l.findIdx? (isC s q off) = some k := by
 unfold ixI at h
 cases e : l.findIdx? (isC s q off) with
 | none => rw [e] at h; simp only at h; omega
 | some j => rw [e] at h; simp only at h; congr 1; omega
theorem ixI_neg {s q off : Int} {l : List PCell} (h : ixI s q off l < 0) : ∀ c ∈ l, isC s q off c = false := by
 unfold ixI at h
 cases e : l.findIdx? (isC s q off) with
 | none => exact List.findIdx?_eq_none_iff.1 e
 | some j => rw [e] at h; simp only at h; omega
theorem ixI_le (s q off : Int) (l : List PCell) : ixI s q off l ≤ l.length := by
 unfold ixI
 cases e : l.findIdx? (isC s q off) with
 | none => simp only; omega
 | some j =>
  obtain ⟨h, _⟩ := List.findIdx?_eq_some_iff_getElem.1 e
  simp only
  omega
theorem cF_at {s q off : Int} {A cs R : List PCell} {k : Nat} (h : ∀ c ∈ A, isC s q off c = false) (hk : ixI s q off cs = (k : Int)) : cFind (A ++ cs ++ R) s q off = (((A.length + k : Nat) : Int), true) := by
 have h1 : A.findIdx? (isC s q off) = none := List.findIdx?_eq_none_iff.2 h
 have h2 := ixI_some hk
 have : (A ++ cs ++ R).findIdx? (isC s q off) = some (A.length + k) := by
  rw [List.append_assoc, List.findIdx?_append, h1, List.findIdx?_append, h2]
  simp
  omega
 unfold isC at this
 unfold cFind
 rw [this]
theorem catX_begK (bs : List PB) : ∀ k, k ≤ bs.length → catX bs (begK bs k) = catB (bs.take k)
 | 0, _ => by simp [begK, catX, catB]
 | k + 1, h => by
  have hx : bs[k]? = some bs[k] := List.getElem?_eq_getElem (by omega)
  rw [begK_next bs k (by omega), catX_snoc, catX_begK bs k (by omega), catB_take hx]
  rfl
theorem cF_stop {s q off : Int} {bs : List PB} {pre : List (Fin bs.length)} {x : Fin bs.length} {k : Nat} (h : pre ++ [x] <+: begL bs) (hno : ∀ c ∈ catX bs pre, isC s q off c = false) (hk : ixI s q off bs[x].cs = (k : Int)) : cFind (catB bs) s q off = (((frB bs x + k : Nat) : Int), true) := by
 have hx : bs[x.val]? = some bs[x] := List.getElem?_eq_getElem x.isLt
 rw [begK_of_pre h, catX_begK bs x.val (Nat.le_of_lt x.isLt)] at hno
 rw [catB_split hx]
 exact cF_at hno hk
theorem find_results (W : World) (tm : Array Value) (P E : Nat) (a : Int) (b : Bool) (h4 : tm.getD 6 undef = .pointer (some ⟨P, 0, none⟩)) (h5 : tm.getD 7 undef = .pointer (some ⟨E, 0, none⟩)) (e0 : W.cell? ⟨P, 0, none⟩ = some (.int .i64 a)) (e1 : W.cell? ⟨E, 0, none⟩ = some (.bool b)) :
  (results Tryz.f20 tm).run Tryz.prog W = .ok (.tuple #[.int .i64 a, .bool b]) W := by
 have h4' : tm[6]?.getD undef = .pointer (some ⟨P, 0, none⟩) := by simpa using h4
 have h5' : tm[7]?.getD undef = .pointer (some ⟨E, 0, none⟩) := by simpa using h5
 simp [results, Tryz.f20, go_sem, h4', h5', e0, e1]
set_option maxRecDepth 100000 in
set_option maxHeartbeats 8000000 in
theorem dfind_any (B M : Nat) (bv : Value) (bs : List PB) (I : List Id3) (s q off : Int) (w : World) (hR : DocR w B bv (.map (some M)) bs) (hM : NMap w M I) (hI : ∀ c ∈ catB bs, idC c ∈ I ∧ 0 ≤ c.off ∧ c.off < 200) (hs : (Lit.int .i64 s).wf = true) (hq : (Lit.int .i64 q).wf = true) :
  Calls Tryz.prog 20 #[.pointer (some ⟨B, 0, none⟩), nmV s q, .int .i64 off] w fun e W' => e = .returned (.tuple #[.int .i64 (cFind (catB bs) s q off).1, .bool (cFind (catB bs) s q off).2]) ∧ Below w.heap.size w W' := by
 have HR := Lib.hid hR
 have HM := Lib.hid hM
 have HI := Lib.hid hI
 have HWF := Lib.hid (And.intro hs hq)
 have hw0 : ((((((w.alloc (.cells #[.pointer (some ⟨B, 0, none⟩)] 27)).alloc (.cells #[.int .i64 s, .int .i64 q] 46)).alloc (.cells #[.int .i64 off] 3)).alloc (.cells #[.int .i64 0] 3)).alloc (.cells #[.bool false] 4))).heap[w.heap.size]? = some (.cells #[.pointer (some ⟨B, 0, none⟩)] 27 (0, 0)) ∧ ((((((w.alloc (.cells #[.pointer (some ⟨B, 0, none⟩)] 27)).alloc (.cells #[.int .i64 s, .int .i64 q] 46)).alloc (.cells #[.int .i64 off] 3)).alloc (.cells #[.int .i64 0] 3)).alloc (.cells #[.bool false] 4))).heap[w.heap.size + 1]? = some (.cells #[.int .i64 s, .int .i64 q] 46 (0, 0)) ∧ ((((((w.alloc (.cells #[.pointer (some ⟨B, 0, none⟩)] 27)).alloc (.cells #[.int .i64 s, .int .i64 q] 46)).alloc (.cells #[.int .i64 off] 3)).alloc (.cells #[.int .i64 0] 3)).alloc (.cells #[.bool false] 4))).heap[w.heap.size + 1 + 1]? = some (.cells #[.int .i64 off] 3 (0, 0)) ∧ ((((((w.alloc (.cells #[.pointer (some ⟨B, 0, none⟩)] 27)).alloc (.cells #[.int .i64 s, .int .i64 q] 46)).alloc (.cells #[.int .i64 off] 3)).alloc (.cells #[.int .i64 0] 3)).alloc (.cells #[.bool false] 4))).heap[w.heap.size + 1 + 1 + 1]? = some (.cells #[.int .i64 0] 3 (0, 0)) ∧ ((((((w.alloc (.cells #[.pointer (some ⟨B, 0, none⟩)] 27)).alloc (.cells #[.int .i64 s, .int .i64 q] 46)).alloc (.cells #[.int .i64 off] 3)).alloc (.cells #[.int .i64 0] 3)).alloc (.cells #[.bool false] 4))).heap[w.heap.size + 1 + 1 + 1 + 1]? = some (.cells #[.bool false] 4 (0, 0)) ∧ Below w.heap.size w ((((((w.alloc (.cells #[.pointer (some ⟨B, 0, none⟩)] 27)).alloc (.cells #[.int .i64 s, .int .i64 q] 46)).alloc (.cells #[.int .i64 off] 3)).alloc (.cells #[.int .i64 0] 3)).alloc (.cells #[.bool false] 4))) := ⟨(row_al (row_al (row_al (row_al (heap_new w (.cells #[.pointer (some ⟨B, 0, none⟩)] 27)) (.cells #[.int .i64 s, .int .i64 q] 46)) (.cells #[.int .i64 off] 3)) (.cells #[.int .i64 0] 3)) (.cells #[.bool false] 4)), (row_al (row_al (row_al (heap_new1 w (.cells #[.pointer (some ⟨B, 0, none⟩)] 27) (.cells #[.int .i64 s, .int .i64 q] 46)) (.cells #[.int .i64 off] 3)) (.cells #[.int .i64 0] 3)) (.cells #[.bool false] 4)), (row_al (row_al (heap_new2 w (.cells #[.pointer (some ⟨B, 0, none⟩)] 27) (.cells #[.int .i64 s, .int .i64 q] 46) (.cells #[.int .i64 off] 3)) (.cells #[.int .i64 0] 3)) (.cells #[.bool false] 4)), (row_al (heap_new3 w (.cells #[.pointer (some ⟨B, 0, none⟩)] 27) (.cells #[.int .i64 s, .int .i64 q] 46) (.cells #[.int .i64 off] 3) (.cells #[.int .i64 0] 3)) (.cells #[.bool false] 4)), (heap_new4 w (.cells #[.pointer (some ⟨B, 0, none⟩)] 27) (.cells #[.int .i64 s, .int .i64 q] 46) (.cells #[.int .i64 off] 3) (.cells #[.int .i64 0] 3) (.cells #[.bool false] 4)), (((((Below.refl _ w).alloc (Nat.le_refl _) _).alloc (by simp) _).alloc (by simp; omega) _).alloc (by simp; omega) _).alloc (by simp; omega) _⟩
 have AS : ((((((w.alloc (.cells #[.pointer (some ⟨B, 0, none⟩)] 27)).alloc (.cells #[.int .i64 s, .int .i64 q] 46)).alloc (.cells #[.int .i64 off] 3)).alloc (.cells #[.int .i64 0] 3)).alloc (.cells #[.bool false] 4))).heap.size = w.heap.size + 1 + 1 + 1 + 1 + 1 := by simp
 have HA := Lib.hid (And.intro hw0 AS)
 have hbeg := fun W => begins_any (some ⟨B, 0, none⟩) W
 have hH := fun (f : Nat → Bool) W => has_any f off W
 have HH := Lib.hid hH
 obtain ⟨z, hz⟩ : ∃ z, (decide (0 ≤ off ∧ off < 200) && offI I (s, q) off.toNat) = z := ⟨_, rfl⟩
 have HZ := Lib.hid hz
 clear hR hM hI hs hq hw0 AS hH hz
 unfold nmV
 refine (callsIn_wide (n := 4)).1 ?_
 refine callsIn_of_wp_marks Tryz.func20 rfl trivial ?_ rfl
 simp only [Tryz.ntmps20, List.size_toArray, List.length_cons, List.length_nil, Nat.reduceAdd, Nat.reduceSub, Array.replicate_succ, Array.replicate_zero, List.push_toArray, List.append_toArray, List.nil_append, List.cons_append]
 gi_wp2_with fail
 generalize (((((w.alloc (.cells #[.pointer (some ⟨B, 0, none⟩)] 27)).alloc (.cells #[.int .i64 s, .int .i64 q] 46)).alloc (.cells #[.int .i64 off] 3)).alloc (.cells #[.int .i64 0] 3)).alloc (.cells #[.bool false] 4)) = w5 at HA ⊢
 cases z with
 | false =>
  have HZC := Lib.hid (fun W => by have := HH.out (offI I (s, q)) W; rw [HZ.out] at this; exact this)
  have hfin := Lib.hid (cF_no (s := s) (q := q) (off := off) (l := catB bs) (fun c hc => by
   obtain ⟨h1, h2, h3⟩ := HI.out c hc
   have hz := HZ.out
   unfold isC
   refine decide_eq_false fun g => ?_
   obtain ⟨g1, g2, g3⟩ := g
   rw [decide_eq_true (show 0 ≤ off ∧ off < 200 by omega), Bool.true_and] at hz
   unfold offI at hz
   rw [decide_eq_false_iff_not] at hz
   apply hz
   have : ((off.toNat : Nat) : Int) = off := by omega
   rw [this]
   unfold idC at h1
   rw [← g1, ← g2, ← g3]
   exact h1))
  refine region_bridgeN (ro := none) (S := fun X => X.heap[w.heap.size]? = some (.cells #[.pointer (some ⟨B, 0, none⟩)] 27 (0, 0)) ∧ X.heap[w.heap.size + 1]? = some (.cells #[.int .i64 s, .int .i64 q] 46 (0, 0)) ∧ X.heap[w.heap.size + 1 + 1]? = some (.cells #[.int .i64 off] 3 (0, 0)) ∧ X.heap[w.heap.size + 1 + 1 + 1]? = some (.cells #[.int .i64 0] 3 (0, 0)) ∧ X.heap[w.heap.size + 1 + 1 + 1 + 1]? = some (.cells #[.bool false] 4 (0, 0)) ∧ Below w.heap.size w X) (by kernel_rfl) (by kernel_rfl) ⟨HA.out.1.1, HA.out.1.2.1, HA.out.1.2.2.1, HA.out.1.2.2.2.1, HA.out.1.2.2.2.2.1, HA.out.1.2.2.2.2.2.drew⟩ (fun hHeld => ?_)
  refine tk (i := 0) (v := ?_) rfl (Or.inl ⟨rfl, ?hy1⟩) ?_
  case hy1 =>
   intro W hS
   obtain ⟨s0, s1, s2, -, -, sB⟩ := hS
   have u0 := box_cell s0 0
   have u1 := box_cell s1 0
   have u2 := box_cell s1 1
   have u3 := box_cell s2 0
   have u4 := box_cell (HR.out.below sB).box 1
   go_simp
   try with_reducible rfl
  try simp only [td]
  refine tk0 (i := 1) rfl ?_
  try simp only [td]
  refine tk0 (i := 2) rfl ?_
  try simp only [td]
  refine tk (i := 3) (v := ?_) rfl (Or.inl ⟨rfl, ?hy4⟩) ?_
  case hy4 =>
   intro W hS
   obtain ⟨s0, s1, s2, -, -, sB⟩ := hS
   have u0 := box_cell s0 0
   have u1 := box_cell s1 0
   have u2 := box_cell s1 1
   have u3 := box_cell s2 0
   have u4 := box_cell (HR.out.below sB).box 1
   go_simp
   try with_reducible rfl
  try simp only [td]
  refine tk0 (i := 4) rfl ?_
  try simp only [td]
  refine tk0 (i := 5) rfl ?_
  try simp only [td]
  refine tk (i := 6) (v := ?_) rfl (Or.inl ⟨rfl, ?hy7⟩) ?_
  case hy7 =>
   intro W hS
   obtain ⟨s0, s1, s2, -, -, sB⟩ := hS
   have u0 := box_cell s0 0
   have u1 := box_cell s1 0
   have u2 := box_cell s1 1
   have u3 := box_cell s2 0
   have u4 := box_cell (HR.out.below sB).box 1
   go_simp
   try with_reducible rfl
  try simp only [td]
  refine tk (i := 7) (v := ?_) rfl (Or.inl ⟨rfl, ?hy8⟩) ?_
  case hy8 =>
   intro W hS
   obtain ⟨s0, s1, s2, -, -, sB⟩ := hS
   have u0 := box_cell s0 0
   have u1 := box_cell s1 0
   have u2 := box_cell s1 1
   have u3 := box_cell s2 0
   have u4 := box_cell (HR.out.below sB).box 1
   go_simp
   try with_reducible rfl
  try simp only [td]
  refine tk (i := 8) (v := ?_) rfl (Or.inl ⟨rfl, ?hy9⟩) ?_
  case hy9 =>
   intro W hS
   obtain ⟨-, -, -, -, -, sB⟩ := hS
   have hlk := (HM.out.below sB).look (p := (s, q)) HWF.out
   go_simp
   try with_reducible rfl
  try simp only [td]
  refine tk (i := 9) (v := ?_) rfl (Or.inl ⟨rfl, ?hy10⟩) ?_
  case hy10 =>
   intro W hS
   obtain ⟨s0, s1, s2, -, -, sB⟩ := hS
   have u0 := box_cell s0 0
   have u1 := box_cell s1 0
   have u2 := box_cell s1 1
   have u3 := box_cell s2 0
   have u4 := box_cell (HR.out.below sB).box 1
   go_simp
   try with_reducible rfl
  try simp only [td]
  refine rd 10 rfl fun K hK => ?_
  go_simp
  go_wp2_with (go_at_call 51; refine (HZC.out _).mono ?_; rintro e wq ⟨rfl, hb⟩)
  refine hK.out _ _ (⟨row_up hHeld.1 hb, row_up hHeld.2.1 hb, row_up hHeld.2.2.1 hb, row_up hHeld.2.2.2.1 hb, row_up hHeld.2.2.2.2.1 hb, hHeld.2.2.2.2.2.trans (hb.mono hHeld.2.2.2.2.2.size)⟩) (fun hX => ?_)
  clear hK K hHeld
  have hHeld := hX
  clear hX
  refine tk0 (i := 11) rfl ?_
  try simp only [td]
  refine tk0 (i := 12) rfl ?_
  try simp only [td]
  refine wpAnyH_done (by kernel_rfl) ?_ _
  obtain ⟨q0, q1, q2, q3, q4, qB⟩ := hHeld
  have z3 := box_cell q3 0
  have z4 := box_cell q4 0
  have f3 := box_frozen q3 0
  have f4 := box_frozen q4 0
  have HQ := Lib.hid (And.intro q3 (And.intro q4 qB))
  clear q0 q1 q2 q3 q4 qB
  simp only [onlyN]
  gi_wp2
  obtain ⟨q3, q4, qB⟩ := HQ.out
  have r3 := (box_other (k := w.heap.size + 1 + 1 + 1) (B := w.heap.size + 1 + 1 + 1 + 1) (by omega) 0 (.bool false)).trans (box_set q3 0 (.int .i64 0))
  have r4 := box_set ((box_other (k := w.heap.size + 1 + 1 + 1 + 1) (B := w.heap.size + 1 + 1 + 1) (by omega) 0 (.int .i64 0)).trans q4) 0 (.bool false)
  exact ⟨_, find_results _ _ (w.heap.size + 1 + 1 + 1) (w.heap.size + 1 + 1 + 1 + 1) 0 false rfl rfl (box_cell r3 0) (box_cell r4 0), by rw [hfin.out], (qB.setCell (p := ⟨w.heap.size + 1 + 1 + 1, 0, none⟩) (by show w.heap.size ≤ w.heap.size + 1 + 1 + 1; omega) _).setCell (p := ⟨w.heap.size + 1 + 1 + 1 + 1, 0, none⟩) (by show w.heap.size ≤ w.heap.size + 1 + 1 + 1 + 1; omega) _⟩
 | true =>
  have HZC := Lib.hid (fun W => by have := HH.out (offI I (s, q)) W; rw [HZ.out] at this; exact this)
  refine region_bridgeN (ro := none) (S := fun X => X.heap[w.heap.size]? = some (.cells #[.pointer (some ⟨B, 0, none⟩)] 27 (0, 0)) ∧ X.heap[w.heap.size + 1]? = some (.cells #[.int .i64 s, .int .i64 q] 46 (0, 0)) ∧ X.heap[w.heap.size + 1 + 1]? = some (.cells #[.int .i64 off] 3 (0, 0)) ∧ X.heap[w.heap.size + 1 + 1 + 1]? = some (.cells #[.int .i64 0] 3 (0, 0)) ∧ X.heap[w.heap.size + 1 + 1 + 1 + 1]? = some (.cells #[.bool false] 4 (0, 0)) ∧ Below w.heap.size w X) (by kernel_rfl) (by kernel_rfl) ⟨HA.out.1.1, HA.out.1.2.1, HA.out.1.2.2.1, HA.out.1.2.2.2.1, HA.out.1.2.2.2.2.1, HA.out.1.2.2.2.2.2.drew⟩ (fun hHeld => ?_)
  refine tk (i := 0) (v := ?_) rfl (Or.inl ⟨rfl, ?hy13⟩) ?_
  case hy13 =>
   intro W hS
   obtain ⟨s0, s1, s2, -, -, sB⟩ := hS
   have u0 := box_cell s0 0
   have u1 := box_cell s1 0
   have u2 := box_cell s1 1
   have u3 := box_cell s2 0
   have u4 := box_cell (HR.out.below sB).box 1
   go_simp
   try with_reducible rfl
  try simp only [td]
  refine tk0 (i := 1) rfl ?_
  try simp only [td]
  refine tk0 (i := 2) rfl ?_
  try simp only [td]
  refine tk (i := 3) (v := ?_) rfl (Or.inl ⟨rfl, ?hy16⟩) ?_
  case hy16 =>
   intro W hS
   obtain ⟨s0, s1, s2, -, -, sB⟩ := hS
   have u0 := box_cell s0 0
   have u1 := box_cell s1 0
   have u2 := box_cell s1 1
   have u3 := box_cell s2 0
   have u4 := box_cell (HR.out.below sB).box 1
   go_simp
   try with_reducible rfl
  try simp only [td]
  refine tk0 (i := 4) rfl ?_
  try simp only [td]
  refine tk0 (i := 5) rfl ?_
  try simp only [td]
  refine tk (i := 6) (v := ?_) rfl (Or.inl ⟨rfl, ?hy19⟩) ?_
  case hy19 =>
   intro W hS
   obtain ⟨s0, s1, s2, -, -, sB⟩ := hS
   have u0 := box_cell s0 0
   have u1 := box_cell s1 0
   have u2 := box_cell s1 1
   have u3 := box_cell s2 0
   have u4 := box_cell (HR.out.below sB).box 1
   go_simp
   try with_reducible rfl
  try simp only [td]
  refine tk (i := 7) (v := ?_) rfl (Or.inl ⟨rfl, ?hy20⟩) ?_
  case hy20 =>
   intro W hS
   obtain ⟨s0, s1, s2, -, -, sB⟩ := hS
   have u0 := box_cell s0 0
   have u1 := box_cell s1 0
   have u2 := box_cell s1 1
   have u3 := box_cell s2 0
   have u4 := box_cell (HR.out.below sB).box 1
   go_simp
   try with_reducible rfl
  try simp only [td]
  refine tk (i := 8) (v := ?_) rfl (Or.inl ⟨rfl, ?hy21⟩) ?_
  case hy21 =>
   intro W hS
   obtain ⟨-, -, -, -, -, sB⟩ := hS
   have hlk := (HM.out.below sB).look (p := (s, q)) HWF.out
   go_simp
   try with_reducible rfl
  try simp only [td]
  refine tk (i := 9) (v := ?_) rfl (Or.inl ⟨rfl, ?hy22⟩) ?_
  case hy22 =>
   intro W hS
   obtain ⟨s0, s1, s2, -, -, sB⟩ := hS
   have u0 := box_cell s0 0
   have u1 := box_cell s1 0
   have u2 := box_cell s1 1
   have u3 := box_cell s2 0
   have u4 := box_cell (HR.out.below sB).box 1
   go_simp
   try with_reducible rfl
  try simp only [td]
  refine rd 10 rfl fun K hK => ?_
  go_simp
  go_wp2_with (go_at_call 51; refine (HZC.out _).mono ?_; rintro e wq ⟨rfl, hb⟩)
  refine hK.out _ _ (⟨row_up hHeld.1 hb, row_up hHeld.2.1 hb, row_up hHeld.2.2.1 hb, row_up hHeld.2.2.2.1 hb, row_up hHeld.2.2.2.2.1 hb, hHeld.2.2.2.2.2.trans (hb.mono hHeld.2.2.2.2.2.size)⟩) (fun hX => ?_)
  clear hK K hHeld
  have hHeld := hX
  clear hX
  refine tk0 (i := 11) rfl ?_
  try simp only [td]
  refine tk0 (i := 12) rfl ?_
  try simp only [td]
  refine wpAnyH_done (by kernel_rfl) ?_ _
  have hs5 := HA.out.2
  obtain ⟨q0, q1, q2, q3, q4, qB⟩ := hHeld
  have z0 := box_cell q0 0
  have HQ := Lib.hid (And.intro q0 (And.intro q1 (And.intro q2 (And.intro q3 (And.intro q4 qB)))))
  clear q0 q1 q2 q3 q4 qB
  simp only [onlyN]
  gi_wp2_with (refine ⟨trivial, ?_⟩; gi_at_call 52; refine (callsIn_wide.2 (hbeg _)).mono ?_; rintro e _ ⟨rfl, rfl⟩)
  obtain ⟨q0, q1, q2, q3, q4, qB⟩ := HQ.out
  have A0 := row_al q0 (.cells #[.pointer (some ⟨B, 0, none⟩)] 27)
  have A1 := row_al q1 (.cells #[.pointer (some ⟨B, 0, none⟩)] 27)
  have A2 := row_al q2 (.cells #[.pointer (some ⟨B, 0, none⟩)] 27)
  have A3 := row_al q3 (.cells #[.pointer (some ⟨B, 0, none⟩)] 27)
  have A4 := row_al q4 (.cells #[.pointer (some ⟨B, 0, none⟩)] 27)
  have Ad := heap_new wq (.cells #[.pointer (some ⟨B, 0, none⟩)] 27)
  have AB : Below w.heap.size w (wq.alloc (.cells #[.pointer (some ⟨B, 0, none⟩)] 27)) := qB.alloc qB.size _
  have hql := box_lt q4
  generalize wq.alloc (.cells #[.pointer (some ⟨B, 0, none⟩)] 27) = w6 at A0 A1 A2 A3 A4 Ad AB ⊢
  have hst := begins_stops 3 (by decide) wq.heap.size wq.heap.size B bv (.map (some M)) bs w HR.out w6 AB Ad (Nat.le_refl _)
  have hAS := box_lt Ad
  clear q0 q1 q2 q3 q4 qB HQ z0
  generalize wq.heap.size = Qz at hql hAS Ad hst ⊢
  have hcs : ∀ x ∈ bs, x.cs.length ≤ 100000 := fun x hx => by
   obtain ⟨k, hk, rfl⟩ := List.mem_iff_getElem.1 hx
   have := catB_le (List.getElem?_eq_getElem hk)
   have := HR.out.room
   omega
  refine wpIn_rangeFunc_ownF rfl (by decide) (gf := 81) (lb := #[.pointer (some ⟨Qz, 0, none⟩)]) rfl trivial (enters_of Tryz.func81 (by kernel_rfl) rfl)
   hst (fun h k => kf_t h k) (kf_b (by omega)) (Below.refl _ _) (fun _ => rfl)
   (fun pre W => ((∀ c ∈ catX bs pre, isC s q off c = false) ∧ W.heap[w.heap.size]? = some (.cells #[.pointer (some ⟨B, 0, none⟩)] 27 (0, 0)) ∧ W.heap[w.heap.size + 1]? = some (.cells #[.int .i64 s, .int .i64 q] 46 (0, 0)) ∧ W.heap[w.heap.size + 1 + 1]? = some (.cells #[.int .i64 off] 3 (0, 0)) ∧ W.heap[w.heap.size + 1 + 1 + 1]? = some (.cells #[.int .i64 0] 3 (0, 0)) ∧ W.heap[w.heap.size + 1 + 1 + 1 + 1]? = some (.cells #[.bool false] 4 (0, 0))) ∧ Below w.heap.size w W)
   (fun c pre W => (c = .ret ∧ ∃ pre' x k, pre = pre' ++ [x] ∧ (∀ c ∈ catX bs pre', isC s q off c = false) ∧ ixI s q off bs[x].cs = ((k : Nat) : Int) ∧ W.heap[w.heap.size + 1 + 1 + 1]? = some (.cells #[.int .i64 ((frB bs x + k : Nat) : Int)] 3 (0, 0)) ∧ W.heap[w.heap.size + 1 + 1 + 1 + 1]? = some (.cells #[.bool true] 4 (0, 0))) ∧ Below w.heap.size w W)
   (OwnFrom.and (Own.from (fun s A B row hs hg hr => ⟨hs.1, row_turn hs.2.1 hg hr, row_turn hs.2.2.1 hg hr, row_turn hs.2.2.2.1 hg hr, row_turn hs.2.2.2.2.1 hg hr, row_turn hs.2.2.2.2.2 hg hr⟩) _) (ownFrom_below (Nat.le_refl _) (by omega)))
   (fun c => OwnFrom.and (Own.from (fun s A B row hs hg hr => ⟨hs.1, by obtain ⟨p', x, k, h0, h1, h2, h3, h4⟩ := hs.2; exact ⟨p', x, k, h0, h1, h2, row_turn h3 hg hr, row_turn h4 hg hr⟩⟩) _) (ownFrom_below (Nat.le_refl _) (by omega)))
   ⟨⟨fun c hc => by simp [catX] at hc, A0, A1, A2, A3, A4⟩, AB⟩
   (fun x => { tmps := #[.pointer (some ⟨B, 0, none⟩), .agg #[.int .i64 s, .int .i64 q], .int .i64 off, .pointer (some ⟨w.heap.size, 0, none⟩), .pointer (some ⟨w.heap.size + 1, 0, none⟩), .pointer (some ⟨w.heap.size + 1 + 1, 0, none⟩), .pointer (some ⟨w.heap.size + 1 + 1 + 1, 0, none⟩), .pointer (some ⟨w.heap.size + 1 + 1 + 1 + 1, 0, none⟩), .int .i64 (x.val : Int), .int .i64 ((catB (bs.take x.val)).length : Nat), undef, .pointer (some ⟨B, 0, none⟩), .bool false, .bool false, .pointer (some ⟨B, 0, none⟩), .pointer (some ⟨B, 0, none⟩), .pointer (some ⟨B, 1, none⟩), .map (some M), .agg #[.int .i64 s, .int .i64 q], offV (offI I (s, q)), .int .i64 off, .bool true, .bool false, .bool false, .pointer (some ⟨B, 0, none⟩), .func (.func 81) #[] #[.pointer (some ⟨Qz, 0, none⟩)], .int .i64 (x.val : Int), .int .i64 ((catB (bs.take x.val)).length : Nat), undef, undef, undef, undef, undef, undef, undef, undef, undef, undef, undef, undef, undef, undef], defers := [] }) ?assign ?body ?done ?stop
  case assign =>
   intro l x W K hK
   gi_wp2
   exact hK
  case body =>
   rintro l pre x W ⟨⟨hno, c0, c1, c2, c3, c4⟩, hB⟩ hlen
   have hk : bs[x.val]? = some bs[x] := List.getElem?_eq_getElem x.isLt
   have hle := catB_le hk
   have hfrl : frB bs x + bs[x].cs.length ≤ 100000 := Nat.le_trans hle HR.out.room
   have hcx := hcs bs[x] (List.getElem_mem _)
   have hix := ixI_le s q off bs[x].cs
   obtain ⟨g, off', cp, hbv, d0, d1, d2⟩ := HR.out.at hk
   obtain ⟨Fr, hFr⟩ : ∃ z, frB bs x = z := ⟨_, rfl⟩
   have hFr' : (catB (bs.take x.val)).length = Fr := hFr
   have hi0 : (0 : Int) ≤ (x.val : Int) ∧ (x.val : Int) < (bs.length : Int) := ⟨by omega, by have := x.isLt; omega⟩
   obtain ⟨Z, hZ⟩ : ∃ z, ixI s q off bs[x].cs = z := ⟨_, rfl⟩
   have hSE := fun X (h : Below w.heap.size w X) => bfind_any g (off' + x.val * 3) bs[x].v bs[x].cs s q off X ((HR.out.cells bs[x] (List.getElem_mem _)).below h) hcx (cell_stays h d2)
   rw [hZ] at hSE hix
   unfold nmV at hSE
   have hZl : Z ≤ 100000 := by omega
   rw [hFr] at hfrl
   have hFl : Fr ≤ 100000 := by omega
   have HSE := Lib.hid hSE
   have HN := Lib.hid (And.intro hno (And.intro hZ hFr))
   have HC := Lib.hid (And.intro c0 (And.intro c1 (And.intro c2 (And.intro c3 (And.intro c4 hB)))))
   clear c0 c1 c2 c3 c4 hB hSE hno hZ hFr hk hle hfrl hcx hix d0 d1 d2 hlen
   dsimp only
   rw [hFr']
   gi_wp2
   refine region_bridgeN (ro := some l) (S := fun X => X.heap[w.heap.size]? = some (.cells #[.pointer (some ⟨B, 0, none⟩)] 27 (0, 0)) ∧ X.heap[w.heap.size + 1]? = some (.cells #[.int .i64 s, .int .i64 q] 46 (0, 0)) ∧ X.heap[w.heap.size + 1 + 1]? = some (.cells #[.int .i64 off] 3 (0, 0)) ∧ X.heap[w.heap.size + 1 + 1 + 1]? = some (.cells #[.int .i64 0] 3 (0, 0)) ∧ X.heap[w.heap.size + 1 + 1 + 1 + 1]? = some (.cells #[.bool false] 4 (0, 0)) ∧ Below w.heap.size w X) (by kernel_rfl) (by kernel_rfl) ⟨HC.out.1, HC.out.2.1, HC.out.2.2.1, HC.out.2.2.2.1, HC.out.2.2.2.2.1, HC.out.2.2.2.2.2.drew⟩ (fun hHeld => ?_)
   refine tk (i := 0) (v := ?_) rfl (Or.inl ⟨rfl, ?hy25⟩) ?_
   case hy25 =>
    intro W hS
    obtain ⟨s0, s1, s2, -, -, sB⟩ := hS
    have u0 := box_cell s0 0
    have u1 := box_cell s1 0
    have u2 := box_cell s1 1
    have u3 := box_cell s2 0
    have s4 := HR.out.below sB
    obtain ⟨g1, off1, cp1, hbv1, -⟩ := s4.at (List.getElem?_eq_getElem x.isLt : bs[x.val]? = some bs[x])
    have s5 := s4.box
    rw [hbv] at s5
    have u5 := box_cell s5 0
    go_simp
    try with_reducible rfl
   try simp only [td]
   refine tk0 (i := 1) rfl ?_
   try simp only [td]
   refine tk0 (i := 2) rfl ?_
   try simp only [td]
   refine tk (i := 3) (v := ?_) rfl (Or.inl ⟨rfl, ?hy28⟩) ?_
   case hy28 =>
    intro W hS
    obtain ⟨s0, s1, s2, -, -, sB⟩ := hS
    have u0 := box_cell s0 0
    have u1 := box_cell s1 0
    have u2 := box_cell s1 1
    have u3 := box_cell s2 0
    have s4 := HR.out.below sB
    obtain ⟨g1, off1, cp1, hbv1, -⟩ := s4.at (List.getElem?_eq_getElem x.isLt : bs[x.val]? = some bs[x])
    have s5 := s4.box
    rw [hbv] at s5
    have u5 := box_cell s5 0
    go_simp
    try with_reducible rfl
   try simp only [td]
   refine tk0 (i := 4) rfl ?_
   try simp only [td]
   refine tk0 (i := 5) rfl ?_
   try simp only [td]
   refine tk (i := 6) (v := ?_) rfl (Or.inl ⟨rfl, ?hy31⟩) ?_
   case hy31 =>
    intro W hS
    obtain ⟨s0, s1, s2, -, -, sB⟩ := hS
    have u0 := box_cell s0 0
    have u1 := box_cell s1 0
    have u2 := box_cell s1 1
    have u3 := box_cell s2 0
    have s4 := HR.out.below sB
    obtain ⟨g1, off1, cp1, hbv1, -⟩ := s4.at (List.getElem?_eq_getElem x.isLt : bs[x.val]? = some bs[x])
    have s5 := s4.box
    rw [hbv] at s5
    have u5 := box_cell s5 0
    go_simp
    try with_reducible rfl
   try simp only [td]
   refine tk (i := 7) (v := ?_) rfl (Or.inl ⟨rfl, ?hy32⟩) ?_
   case hy32 =>
    intro W hS
    obtain ⟨s0, s1, s2, -, -, sB⟩ := hS
    have u0 := box_cell s0 0
    have u1 := box_cell s1 0
    have u2 := box_cell s1 1
    have u3 := box_cell s2 0
    have s4 := HR.out.below sB
    obtain ⟨g1, off1, cp1, hbv1, -⟩ := s4.at (List.getElem?_eq_getElem x.isLt : bs[x.val]? = some bs[x])
    have s5 := s4.box
    rw [hbv] at s5
    have u5 := box_cell s5 0
    go_simp
    try with_reducible rfl
   try simp only [td]
   refine rd 8 rfl fun K hK => ?_
   go_simp
   go_wp2_with (go_at_call 53; refine (HSE.out _ hHeld.2.2.2.2.2).mono ?_; rintro e wq ⟨rfl, hb⟩)
   refine hK.out _ _ (⟨row_up hHeld.1 hb, row_up hHeld.2.1 hb, row_up hHeld.2.2.1 hb, row_up hHeld.2.2.2.1 hb, row_up hHeld.2.2.2.2.1 hb, hHeld.2.2.2.2.2.trans (hb.mono hHeld.2.2.2.2.2.size)⟩) (fun hX => ?_)
   clear hK K hHeld
   have hHeld := hX
   clear hX
   refine tk0 (i := 9) rfl ?_
   try simp only [td]
   refine wpAnyH_done (by kernel_rfl) ?_ _
   obtain ⟨c0, c1, c2, c3, c4, hB⟩ := hHeld
   have z3 := box_cell c3 0
   have z4 := box_cell c4 0
   have f3 := box_frozen c3 0
   have f4 := box_frozen c4 0
   have hOth := others_below hb
   have hKb := KF.below (W := W.drew) (m₁ := Qz) HC.out.2.2.2.2.2.size hb
   have HD := Lib.hid (And.intro c0 (And.intro c1 (And.intro c2 (And.intro c3 (And.intro c4 (And.intro hB (And.intro hOth hKb)))))))
   clear c0 c1 c2 c3 c4 hB hOth hKb hb
   simp only [onlyN]
   rcases Int.lt_or_le Z 0 with hneg | hpos
   ·have hd : ¬ (0 : Int) ≤ Z := by omega
    clear z3 z4 f3 f4
    gi_wp2
    obtain ⟨c0, c1, c2, c3, c4, hB, hOth, hKb⟩ := HD.out
    refine ⟨(KeepsOthers.drew W).trans hOth, kf_t ((KF.refl _ _ W).drew) hKb, ⟨⟨fun c hc => ?_, c0, c1, c2, c3, c4⟩, hB⟩⟩
    rw [catX_snoc] at hc
    rcases List.mem_append.1 hc with h | h
    ·exact HN.out.1 c h
    ·exact ixI_neg (by rw [HN.out.2.1]; exact hneg) c h
   ·obtain ⟨k, rfl⟩ : ∃ k : Nat, Z = (k : Int) := ⟨Z.toNat, by omega⟩
    have hw1 : IntKind.i64.wrap ((Fr : Int) + (k : Int)) = ((Fr + k : Nat) : Int) := by rw [IntWalk.i64_in _ (by omega)]; omega
    gi_wp2
    obtain ⟨c0, c1, c2, c3, c4, hB, hOth, hKb⟩ := HD.out
    have r3 := (box_other (k := w.heap.size + 1 + 1 + 1) (B := w.heap.size + 1 + 1 + 1 + 1) (by omega) 0 (.bool true)).trans (box_set c3 0 (.int .i64 ((Fr + k : Nat) : Int)))
    have r4 := box_set ((box_other (k := w.heap.size + 1 + 1 + 1 + 1) (B := w.heap.size + 1 + 1 + 1) (by omega) 0 (.int .i64 ((Fr + k : Nat) : Int))).trans c4) 0 (.bool true)
    refine ⟨(KeepsOthers.drew W).trans (hOth.trans ((KeepsOthers.setCell _ _ _).trans (KeepsOthers.setCell _ _ _))), ⟨rfl, pre, x, k, rfl, HN.out.1, HN.out.2.1, by rw [HN.out.2.2]; exact r3, r4⟩, (hB.setCell (p := ⟨w.heap.size + 1 + 1 + 1, 0, none⟩) (by show w.heap.size ≤ w.heap.size + 1 + 1 + 1; omega) _).setCell (p := ⟨w.heap.size + 1 + 1 + 1 + 1, 0, none⟩) (by show w.heap.size ≤ w.heap.size + 1 + 1 + 1 + 1; omega) _⟩
  case done =>
   rintro D xs Z hD rfl ⟨⟨hno, c0, c1, c2, c3, c4⟩, hB⟩ hK
   rw [catX_all] at hno
   have hfin := Lib.hid (cF_no hno)
   have z3 := box_cell c3 0
   have z4 := box_cell c4 0
   have f3 := box_frozen c3 0
   have f4 := box_frozen c4 0
   have HQ := Lib.hid (And.intro c3 (And.intro c4 hB))
   clear c0 c1 c2 c3 c4 hB hno
   gi_wp2
   obtain ⟨q3, q4, qB⟩ := HQ.out
   have r3 := (box_other (k := w.heap.size + 1 + 1 + 1) (B := w.heap.size + 1 + 1 + 1 + 1) (by omega) 0 (.bool false)).trans (box_set q3 0 (.int .i64 0))
   have r4 := box_set ((box_other (k := w.heap.size + 1 + 1 + 1 + 1) (B := w.heap.size + 1 + 1 + 1) (by omega) 0 (.int .i64 0)).trans q4) 0 (.bool false)
   have rB := (qB.setCell (p := ⟨w.heap.size + 1 + 1 + 1, 0, none⟩) (by show w.heap.size ≤ w.heap.size + 1 + 1 + 1; omega) (.int .i64 0)).setCell (p := ⟨w.heap.size + 1 + 1 + 1 + 1, 0, none⟩) (by show w.heap.size ≤ w.heap.size + 1 + 1 + 1 + 1; omega) (.bool false)
   have hK2 := ((KeepsOthers.setCell Z ⟨w.heap.size + 1 + 1 + 1, 0, none⟩ (.int .i64 0)).trans (KeepsOthers.setCell _ ⟨w.heap.size + 1 + 1 + 1 + 1, 0, none⟩ (.bool false))).same D _ hK rfl
   generalize (Z.setCell ⟨w.heap.size + 1 + 1 + 1, 0, none⟩ (.int .i64 0)).setCell ⟨w.heap.size + 1 + 1 + 1 + 1, 0, none⟩ (.bool false) = W7 at r3 r4 rB hK2 ⊢
   refine ⟨by simp, .inl ⟨_, _, rfl, run_takeDeferred hK2, ?_⟩⟩
   have t0 : (W7.putObj D (.deferred none)).heap[w.heap.size + 1 + 1 + 1]? = _ := (World.putObj_heap_other (by omega)).trans r3
   have t1 : (W7.putObj D (.deferred none)).heap[w.heap.size + 1 + 1 + 1 + 1]? = _ := (World.putObj_heap_other (by omega)).trans r4
   exact ⟨_, find_results _ _ (w.heap.size + 1 + 1 + 1) (w.heap.size + 1 + 1 + 1 + 1) 0 false rfl rfl (box_cell t0 0) (box_cell t1 0), by rw [hfin.out], rB.trans (belowK_b (w := w) (Nat.le_refl _) W7 D _ _ (by omega) hK2 rfl rfl)⟩
  case stop =>
   rintro D c pre Z hD hpre ⟨⟨rfl, pre', x, k, rfl, hno, hix, c3, c4⟩, hB⟩ hK
   have hfin := Lib.hid (cF_stop hpre hno hix)
   have HQ := Lib.hid (And.intro c3 (And.intro c4 hB))
   clear c3 c4 hB hno hix hpre
   gi_wp2
   obtain ⟨r3, r4, rB⟩ := HQ.out
   refine ⟨by simp, .inl ⟨_, _, rfl, run_takeDeferred hK, ?_⟩⟩
   have t0 : (Z.putObj D (.deferred none)).heap[w.heap.size + 1 + 1 + 1]? = _ := (World.putObj_heap_other (by omega)).trans r3
   have t1 : (Z.putObj D (.deferred none)).heap[w.heap.size + 1 + 1 + 1 + 1]? = _ := (World.putObj_heap_other (by omega)).trans r4
   exact ⟨_, find_results _ _ (w.heap.size + 1 + 1 + 1) (w.heap.size + 1 + 1 + 1 + 1) _ true rfl rfl (box_cell t0 0) (box_cell t1 0), by rw [hfin.out], rB.trans (belowK_b (w := w) (Nat.le_refl _) Z D _ _ (by omega) hK rfl rfl)⟩
end Go.Proofs.YtmedickofiielaaGreatDoor
