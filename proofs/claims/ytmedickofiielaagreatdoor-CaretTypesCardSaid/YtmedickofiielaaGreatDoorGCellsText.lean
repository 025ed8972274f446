/- Texts of this proof, joined. -/
import Derived.Test.YtmedickofiielaaGreatDoorGCellsBlk
import Derived.Test.YtmedickofiielaaGreatDoorGRefSplit
import Derived.Test.YtmedickofiielaaGreatDoorJoin
import Derived.Test.YtmedickofiielaaGreatDoorGReads64
import Derived.Test.YtmedickofiielaaGreatDoorGNameEq
import Derived.Test.YtmedickofiielaaGreatDoorGSpansPlain
import Derived.Test.YtmedickofiielaaGreatDoorCellsChunk
import Derived.Test.YtmedickofiielaaGreatDoorShClone
import Derived.Test.YtmedickofiielaaGreatDoorCellsInsert
import Derived.Maps.AppendAt
namespace Go.Proofs.YtmedickofiielaaGreatDoor
open Go.RowKit Go.Shelf
attribute [local go_sem] Oper.semAt_some

theorem textR_app (a b : List PCell) : textR (a ++ b) = textR a ++ textR b := by simp [textR]
theorem textR_len (l : List PCell) : (textR l).length = liveN l := by simp [textR, liveN, List.countP_eq_length_filter]
theorem make_runes (n : Nat) (hn : n ≤ 1000000) : ∃ cur : Array Value, cur.size = n * 1 ∧ ∀ W : World, (Instr.makeSlice 59 (.int .i64 0) (.int .i64 (n : Int))).run Tryz.prog W = .ok (.slice (some ⟨W.heap.size, 0, none⟩) 0 n) (W.alloc (.cells cur 21)) := by
 obtain ⟨i0, hi, hz0, hz1, hz2⟩ := info_parts infoI32'
 refine ⟨madeCells (Value.int .i32 0).cells (n * 1), ?_, fun W => ?_⟩
 ·simp [madeCells]
 ·have h := run_make (P := Tryz.prog) (w := W) 59 21 i0 (.int .i32 0) Tryz.underlying59 hi hz0 .i64 .i64 0 n (Int.le_refl _) (by omega) (by rw [hz2]; omega) (by omega)
  rw [Int.toNat_natCast, hz1] at h
  exact h
theorem cell_one_new' (w : World) (x : Obj) (v : Value) (t : TypeId) : ∀ j u, [v][j]? = some u → ((w.alloc x).alloc (.cells #[v] t)).cell? ((⟨w.heap.size + 1, 0, none⟩ : Addr).add j) = some u := by
 intro j u hj
 cases j with
 | zero =>
  simp at hj
  subst hj
  have := box_cell (heap_new1 w x (.cells #[v] t)) 0
  exact this
 | succ j => simp at hj
theorem row_up5 {W W' : World} {i : Nat} {o : Obj} (h : W.heap[i]? = some o) (hb : Below W.heap.size W W') : W'.heap[i]? = some o := (hb.block i (box_lt h)).trans h
theorem slice_of {W : World} {N : Nat} {e : TypeId} {sz : Nat} {v : Value} {n : Nat} {xs : List Value} (h : W.ownsRow N e sz v n xs) : ∃ ao n cap, v = .slice ao n cap := by
 rcases h.2 with ⟨q, _⟩ | ⟨g, cap, cur, q, _⟩
 ·exact ⟨_, _, _, q⟩
 ·exact ⟨_, _, _, q⟩

set_option maxRecDepth 100000 in
set_option maxHeartbeats 8000000 in
theorem dtext_any (B : Nat) (bv nm : Value) (bs : List PB) (w : World) (hR : DocR w B bv nm bs) (hv : allValid (textR (catB bs)) = true) :
  Calls Tryz.prog 21 #[.pointer (some ⟨B, 0, none⟩)] w fun e W' => e = .returned (.string (cText (catB bs))) ∧ Below w.heap.size w W' := by
 have hbeg := fun W => begins_any (some ⟨B, 0, none⟩) W
 have hst := fun Bd m₁ W h1 h2 h3 => begins_stops 3 (by decide) Bd m₁ B bv nm bs w hR W h1 h2 h3
 have hall := liveN_gone (catB bs)
 have hroom := hR.room
 have hsz := fun W (hb : Below w.heap.size w W) => dlive_any (some ⟨B, 0, none⟩) (liveN (catB bs)) (goneN (catB bs)) W (whole_any B bv nm bs W (hR.below hb))
 have hjo := fun v W (h : Reads32 W v (textR (catB bs))) => join_any v (textR (catB bs)) (by rw [textR_len]; omega) W h
 unfold JoinPost at hjo
 rw [if_pos hv] at hjo
 have htx : cText (catB bs) = ⟨(joinL (textR (catB bs))).toArray⟩ := if_pos hv
 rw [← htx] at hjo
 have HJ := Lib.hid hjo
 have HSZ := Lib.hid hsz
 have HR := Lib.hid hR
 obtain ⟨i0, hi, hz0, hz1, hz2⟩ := info_parts infoI32'
 have HI := Lib.hid (And.intro hi (And.intro hz0 (And.intro hz1 hz2)))
 have hcl : (0 : Int) ≤ ((liveN (catB bs)) : Int) ∧ ((liveN (catB bs)) : Int) ≤ 100000 := by omega
 obtain ⟨cur, hcur, hmk⟩ := make_runes (liveN (catB bs)) (by omega)
 clear hR hsz hall hjo htx hv hi hz0 hz1 hz2
 have B0 := heap_new w (.cells #[.pointer (some ⟨B, 0, none⟩)] 27)
 have hB0 : Below w.heap.size w (w.alloc (.cells #[.pointer (some ⟨B, 0, none⟩)] 27)) := (Below.refl _ w).alloc (Nat.le_refl _) _
 have HB0 := Lib.hid hB0
 have d0 := box_cell B0 0
 refine (callsIn_wide (n := 4)).1 ?_
 refine callsIn_of_wp_marks Tryz.func21 rfl trivial ?_ rfl
 simp only [Tryz.ntmps21, List.size_toArray, List.length_cons, List.length_nil, Nat.reduceAdd, Nat.reduceSub, Array.replicate_succ, Array.replicate_zero, List.push_toArray, List.append_toArray, List.nil_append, List.cons_append]
 gi_wp2_with (refine ⟨trivial, ?_⟩; first
  | (gi_at_call 10; refine (callsIn_wide.2 (HSZ.out _ HB0.out)).mono ?_; rintro e w1 ⟨rfl, hb1⟩; have B1 := row_up B0 hb1; have e0 := box_cell B1 0; have B2 := row_al (row_al B1 (.cells cur 21)) (.cells #[.slice (some ⟨w1.heap.size, 0, none⟩) 0 (liveN (catB bs))] 59); have e2 := box_cell B2 0)
  | (gi_at_call 52; refine (callsIn_wide.2 (hbeg _)).mono ?_; rintro e _ ⟨rfl, rfl⟩))
 rename World => w1
 have A0 := row_al B2 (.cells #[.pointer (some ⟨B, 0, none⟩)] 27)
 have A1 := row_al (heap_new1 w1 (.cells cur 21) (.cells #[.slice (some ⟨w1.heap.size, 0, none⟩) 0 (liveN (catB bs))] 59)) (.cells #[.pointer (some ⟨B, 0, none⟩)] 27)
 have A3 := heap_new2 w1 (.cells cur 21) (.cells #[.slice (some ⟨w1.heap.size, 0, none⟩) 0 (liveN (catB bs))] 59) (.cells #[.pointer (some ⟨B, 0, none⟩)] 27)
 have AB : Below w.heap.size w (((w1.alloc (.cells cur 21)).alloc (.cells #[.slice (some ⟨w1.heap.size, 0, none⟩) 0 (liveN (catB bs))] 59)).alloc (.cells #[.pointer (some ⟨B, 0, none⟩)] 27)) := (((HB0.out.trans (hb1.mono HB0.out.size)).alloc (by have := hb1.size; have := HB0.out.size; omega) _).alloc (by have := hb1.size; have := HB0.out.size; simp; omega) _).alloc (by have := hb1.size; have := HB0.out.size; simp; omega) _
 have AS : (((w1.alloc (.cells cur 21)).alloc (.cells #[.slice (some ⟨w1.heap.size, 0, none⟩) 0 (liveN (catB bs))] 59)).alloc (.cells #[.pointer (some ⟨B, 0, none⟩)] 27)).heap.size = w1.heap.size + 1 + 1 + 1 := by simp
 have AO : (((w1.alloc (.cells cur 21)).alloc (.cells #[.slice (some ⟨w1.heap.size, 0, none⟩) 0 (liveN (catB bs))] 59)).alloc (.cells #[.pointer (some ⟨B, 0, none⟩)] 27)).ownsRow w.heap.size 21 1 (.slice (some ⟨w1.heap.size, 0, none⟩) 0 (liveN (catB bs))) 0 [] := ((World.ownsRow_made w1 cur (liveN (catB bs)) (by have := hb1.size; have := HB0.out.size; omega) (by unfold maxLen; omega) hcur).alloc _).alloc _
 have hge : w.heap.size < w1.heap.size := by have := hb1.size; simp at this; omega
 generalize ((w1.alloc (.cells cur 21)).alloc (.cells #[.slice (some ⟨w1.heap.size, 0, none⟩) 0 (liveN (catB bs))] 59)).alloc (.cells #[.pointer (some ⟨B, 0, none⟩)] 27) = w3 at A0 A1 A3 AB AS AO ⊢
 clear B1 e0 B2 e2 hb1 hmk d0 B0 hB0 HB0
 have hst := hst (w1.heap.size + 1 + 1) (w1.heap.size + 1 + 1) w3 AB A3 (Nat.le_refl _)
 have hcs : ∀ x ∈ bs, x.cs.length ≤ 100000 := fun x hx => by
  obtain ⟨k, hk, rfl⟩ := List.mem_iff_getElem.1 hx
  have := catB_le (List.getElem?_eq_getElem hk)
  omega
 have hfew := HR.out.few
 refine wpIn_rangeFunc_ownF rfl (by decide) (gf := 81) (lb := #[.pointer (some ⟨w1.heap.size + 1 + 1, 0, none⟩)]) rfl trivial (enters_of Tryz.func81 (by kernel_rfl) rfl)
  hst (fun h k => kf_t h k) (kf_b (by omega)) (Below.refl _ _) (fun _ => rfl)
  (fun pre W => (W.heap[w.heap.size]? = some (.cells #[.pointer (some ⟨B, 0, none⟩)] 27 (0, 0)) ∧
   ∃ v, W.heap[w1.heap.size + 1]? = some (.cells #[v] 59 (0, 0)) ∧ W.ownsRow w.heap.size 21 1 v (textR (catX bs pre)).length ((textR (catX bs pre)).map (Value.int .i32))) ∧ Below w.heap.size w W)
  (fun c pre W => (False) ∧ Below w.heap.size w W)
  (OwnFrom.and (Own.from (fun s A B row hs hg hr => ⟨row_turn hs.1 hg hr, by obtain ⟨v, h1, h2⟩ := hs.2; exact ⟨v, row_turn h1 hg hr, own_turn h2 hg hr⟩⟩) _) (ownFrom_below (Nat.le_refl _) (by omega)))
  (fun c => OwnFrom.and (Own.from (fun s A B row hs hg hr => hs.elim) _) (ownFrom_below (Nat.le_refl _) (by omega)))
  ⟨⟨A0, _, A1, AO⟩, AB⟩
  (fun x => { tmps := #[.pointer (some ⟨B, 0, none⟩), .pointer (some ⟨w.heap.size, 0, none⟩), .string ⟨#[]⟩, .pointer (some ⟨w1.heap.size + 1, 0, none⟩), .int .i64 (x.val : Int), undef, undef, undef, undef, .pointer (some ⟨B, 0, none⟩), .int .i64 (liveN (catB bs) : Nat), .slice (some ⟨w1.heap.size, 0, none⟩) 0 (liveN (catB bs)), .pointer (some ⟨B, 0, none⟩), .func (.func 81) #[] #[.pointer (some ⟨w1.heap.size + 1 + 1, 0, none⟩)], .int .i64 (x.val : Int), .int .i64 ((catB (bs.take x.val)).length : Nat), undef, undef, undef, undef, undef, undef, undef, undef, undef, undef, undef, undef, undef, undef, undef, undef, undef, undef, undef, undef, undef, undef, undef, undef, undef, undef, undef, undef], defers := [] }) ?assign ?body ?done ?stop
 case assign =>
  intro l x W K hK
  gi_wp2
  exact hK
 case body =>
  rintro l pre x W ⟨⟨c0, v, c1, ho⟩, hB⟩ hlen
  have hk : bs[x.val]? = some bs[x] := List.getElem?_eq_getElem x.isLt
  have hd := HR.out.below hB
  obtain ⟨g, off, cp, hbv, d0, d1, d2⟩ := hd.at hk
  have bx := hd.box
  rw [hbv] at bx
  have q0 := box_cell c0 0
  have q1 := box_cell bx 0
  have hpx := catX_le hcs pre
  have hcx := hcs bs[x] (List.getElem_mem _)
  have hu := hd.cells bs[x] (List.getElem_mem _)
  obtain ⟨cao, ccap, hcv, _⟩ := id hu.shape
  rw [hcv] at d2
  have hu0 := (HR.out.cells bs[x] (List.getElem_mem _))
  have HU := Lib.hid hu0
  have HX := Lib.hid (catX_snoc bs pre x)
  have hi0 : (0 : Int) ≤ (x.val : Int) ∧ (x.val : Int) < (bs.length : Int) := ⟨by omega, by have := x.isLt; omega⟩
  have h0 : W.heap[w.heap.size]? = some (.cells #[.pointer (some ⟨B, 0, none⟩)] 27 (0, 0)) ∧ (∃ v, W.heap[w1.heap.size + 1]? = some (.cells #[v] 59 (0, 0)) ∧ W.ownsRow w.heap.size 21 1 v (textR (catX bs pre ++ bs[x].cs.take 0)).length ((textR (catX bs pre ++ bs[x].cs.take 0)).map (Value.int .i32))) ∧ Below w.heap.size w W ∧ KeepsOthers W W ∧ KF w.heap.size (w1.heap.size + 1 + 1) W W := ⟨c0, ⟨v, c1, by rw [List.take_zero, List.append_nil]; exact ho⟩, hB, KeepsOthers.refl W, KF.refl _ _ W⟩
  have H0 := Lib.hid h0
  obtain ⟨N, hN⟩ : ∃ N, bs[x].cs.length = N := ⟨_, rfl⟩
  have HN := Lib.hid (And.intro hN hcv)
  rw [hN] at d2 hcx
  have hbn : (textR (catX bs pre)).length + N ≤ 100000100000 := by
   have : (textR (catX bs pre)).length ≤ (catX bs pre).length := by rw [textR_len]; have := liveN_gone (catX bs pre); omega
   omega
  have HBN := Lib.hid hbn
  clear hu hu0 hd bx c0 c1 ho hB h0 hN hk hpx hbn hbv
  gi_wp2
  gi_loopw [25] (fun i wr => ∃ k : Nat, i = .int .i64 k ∧ k ≤ N ∧ RowKit.Hid (wr.heap[w.heap.size]? = some (.cells #[.pointer (some ⟨B, 0, none⟩)] 27 (0, 0)) ∧ (∃ v, wr.heap[w1.heap.size + 1]? = some (.cells #[v] 59 (0, 0)) ∧ wr.ownsRow w.heap.size 21 1 v (textR (catX bs pre ++ bs[x].cs.take k)).length ((textR (catX bs pre ++ bs[x].cs.take k)).map (Value.int .i32))) ∧ Below w.heap.size w wr ∧ KeepsOthers W wr ∧ KF w.heap.size (w1.heap.size + 1 + 1) W wr)) (fun i _ => N - (intOf i).toNat)
  case atStart => exact ⟨0, rfl, Nat.zero_le _, H0⟩
  case round =>
   rename World => wr
   obtain ⟨k, rfl, hk, hI⟩ := hrel
   rcases Nat.lt_or_ge k N with hlt | hge2
   ·obtain ⟨c, hc⟩ : ∃ c, bs[x].cs[k]? = some c := ⟨_, List.getElem?_eq_getElem (by rw [HN.out.1]; exact hlt)⟩
    obtain ⟨b0, ⟨v, b1, b2⟩, b3, b4, b5⟩ := hI.out
    obtain ⟨bb, boff, bcap, hv, e0, e1, e2, e3, e4⟩ := (HU.out.below b3).at hc
    have hv2 := HN.out.2.symm.trans hv
    rw [HN.out.1] at hv2
    injection hv2 with hv2 _ hv3
    subst hv2
    have hi1 : (0 : Int) ≤ (k : Int) ∧ (k : Int) < (N : Int) := ⟨by omega, by omega⟩
    obtain ⟨vao, vn, vcap, rfl⟩ := slice_of b2
    have hsn : bs[x].cs.take (k + 1) = bs[x].cs.take k ++ [c] := by rw [List.take_add_one, hc]; rfl
    have HS := Lib.hid hsn
    have hle : (textR (catX bs pre ++ bs[x].cs.take k)).length ≤ 100000200000 := by
     have q1 := HBN.out
     rw [textR_app, List.length_append]
     have q2 := textR_le bs[x].cs k
     omega
    have HLE := Lib.hid hle
    obtain ⟨s, q, f, r, gn⟩ := c
    dsimp only at e0 e1 e2 e3 e4
    clear hc hv hv3 hsn hle hI
    cases gn with
    | true =>
     have HB := Lib.hid (And.intro b0 (And.intro b1 (And.intro b2 (And.intro b3 (And.intro b4 b5)))))
     clear b0 b1 b2 b3 b4 b5
     gi_wp2
     go_roundw
     case rel =>
      obtain ⟨b0, b1, b2, b3, b4, b5⟩ := HB.out
      refine ⟨k + 1, by go_num, by omega, Lib.hid ⟨row_al b0 _, ⟨_, row_al b1 _, ?_⟩, b3.alloc b3.size _, b4.trans (KeepsOthers.alloc _ _), kf_t b5 (KF.alloc b3.size _)⟩⟩
      rw [HS.out, ← List.append_assoc, textR_app, show textR [(⟨s, q, f, r, true⟩ : PCell)] = [] from rfl, List.append_nil]
      exact b2.alloc _
     case measure => simp [intOf]; omega
    | false =>
     have g0 := row_al b0 (.cells #[.int .i64 s, .int .i64 q, .int .i64 f, .int .i32 r, .bool false] 48)
     have g1 := row_al b1 (.cells #[.int .i64 s, .int .i64 q, .int .i64 f, .int .i32 r, .bool false] 48)
     have g2 := b2.alloc (.cells #[.int .i64 s, .int .i64 q, .int .i64 f, .int .i32 r, .bool false] 48)
     have g3 := b3.alloc b3.size (.cells #[.int .i64 s, .int .i64 q, .int .i64 f, .int .i32 r, .bool false] 48)
     have g4 := b4.trans (KeepsOthers.alloc wr (.cells #[.int .i64 s, .int .i64 q, .int .i64 f, .int .i32 r, .bool false] 48))
     have g5 := kf_t b5 (KF.alloc b3.size (.cells #[.int .i64 s, .int .i64 q, .int .i64 f, .int .i32 r, .bool false] 48))
     have z0 := box_cell g1 0
     have hbs : w.heap.size ≤ wr.heap.size := b3.size
     have hw1 := box_lt b1
     have HG := Lib.hid (And.intro g0 (And.intro g1 (And.intro g2 (And.intro g3 (And.intro g4 g5)))))
     clear b0 b1 b2 b3 b4 b5 g0 g1 g2 g3 g4 g5
     gi_wp2_with (gi_at_builtin; go_must (refine wpListIn_append_own _ rfl _ _ 59 rfl w.heap.size 21 i0 (.int .i32 0) 1 4 Tryz.underlying59 HI.out.1 HI.out.2.1 HI.out.2.2.1 HI.out.2.2.2 rfl (by decide) _ _ _ rfl (HG.out.2.2.1.alloc (.cells #[.int .i32 r] 21)) ⟨wr.heap.size + 1, 0, none⟩ 1 1 [.int .i32 r] rfl rfl (cell_one_new' wr _ _ _) (by simp [Value.oneCell']) (by have := HLE.out; unfold maxLen; omega) (by have := HLE.out; omega) (by have := hbs; simp; omega) ?_; intro v' w4 hown' hgrow _; obtain ⟨g', cap', rfl⟩ := ownsRow_succ hown'; have i1 := row_grown (row_al HG.out.2.1 (.cells #[.int .i32 r] 21)) hgrow (HG.out.2.2.1.alloc (.cells #[.int .i32 r] 21)) (by decide); have z1 := box_cell i1 0; have zf := box_frozen i1 0))
     go_roundw
     case rel =>
      obtain ⟨b0, b1, b2, b3, b4, b5⟩ := HG.out
      have i0' := row_grown (row_al b0 (.cells #[.int .i32 r] 21)) hgrow (b2.alloc (.cells #[.int .i32 r] 21)) (by decide)
      have i3 := below_grown (b3.alloc b3.size (.cells #[.int .i32 r] 21)) hgrow (b2.alloc (.cells #[.int .i32 r] 21)) (Nat.le_refl _)
      have i4 := b4.trans ((KeepsOthers.alloc _ (.cells #[.int .i32 r] 21)).trans (KeepsOthers.of_grownBy hgrow (fun j o hj ho => by obtain ⟨_, cur', hc⟩ := own_typed (b2.alloc (.cells #[.int .i32 r] 21)) j hj; rw [hc] at ho; cases ho; rfl)))
      have i5 := kf_t b5 (kf_t (KF.alloc b3.size (.cells #[.int .i32 r] 21)) (KF.grown (m₁ := w1.heap.size + 1 + 1) hgrow ((b3.alloc b3.size (.cells #[.int .i32 r] 21)).size) (fun g e => by obtain ⟨q1, cur', hc⟩ := own_typed (b2.alloc (.cells #[.int .i32 r] 21)) g e; exact ⟨q1, .inr ⟨_, _, _, hc, .inr (.inl rfl)⟩⟩)))
      refine ⟨k + 1, by go_num, by omega, Lib.hid ⟨(box_other (by omega) 0 _).trans i0', ⟨_, box_set i1 0 _, ?_⟩, i3.setCell (p := ⟨w1.heap.size + 1, 0, none⟩) (by show w.heap.size ≤ w1.heap.size + 1; omega) _, i4.trans (KeepsOthers.setCell _ _ _), kf_t i5 (KF.set (by omega) (by omega))⟩⟩
      have et : textR (catX bs pre ++ bs[x].cs.take k ++ [(⟨s, q, f, r, false⟩ : PCell)]) = textR (catX bs pre ++ bs[x].cs.take k) ++ [r] := by rw [textR_app (catX bs pre ++ bs[x].cs.take k)]; rfl
      rw [HS.out, ← List.append_assoc, et, List.map_append, List.length_append (bs := [r])]
      exact own_far hown' i1 (by decide) 0 _
     case measure => simp [intOf]; omega
   ·obtain rfl : N = k := by omega
    obtain ⟨b0, b1, b3, b4, b5⟩ := hI.out
    rw [List.take_of_length_le (by rw [HN.out.1]; exact Nat.le_refl _), ← HX.out] at b1
    have HB := Lib.hid (And.intro b0 (And.intro b1 (And.intro b3 (And.intro b4 b5))))
    clear b0 b1 b3 b4 b5 hI
    gi_wp2
    obtain ⟨b0, b1, b3, b4, b5⟩ := HB.out
    exact ⟨b4, b5, ⟨b0, b1⟩, b3⟩
 case done =>
  rintro D ys W hD rfl ⟨⟨c0, v, c1, ho⟩, hB⟩ hK
  rw [catX_all] at ho
  have e0 := box_cell c1 0
  have HJ2 := Lib.hid (HJ.out v W (Reads32.of_own ho))
  have HB := Lib.hid hB
  obtain ⟨ao', n', cap', rfl⟩ := slice_of ho
  clear ho hB c0 c1
  gi_wp2_with (refine ⟨trivial, ?_⟩; gi_at_call 54; refine (callsIn_wide.2 HJ2.out).mono ?_; rintro e w5 ⟨rfl, hb5⟩)
  have hK5 := row_up5 hK hb5
  refine ⟨by simp, .inl ⟨_, _, rfl, run_takeDeferred hK5, ?_⟩⟩
  have hBD := belowK_b (w := w) (Nat.le_refl _) w5 D _ (.deferred none) (by omega) hK5 rfl rfl
  exact ⟨_, results_tmp rfl _ _ _, rfl, (HB.out.trans (hb5.mono HB.out.size)).trans hBD⟩
 case stop =>
  rintro D c pre W hD hpre ⟨hno, _⟩ hK
  exact hno.elim
end Go.Proofs.YtmedickofiielaaGreatDoor

namespace Go.Proofs.YtmedickofiielaaGreatDoor
open Go.RowKit Go.Shelf
attribute [local go_sem] Oper.semAt_some

def preOk (c : PCell) : Bool := nMay c.site c.seq && decide (0 ≤ c.off ∧ c.off < 200)
theorem cellOk_pre (c : PCell) : cellOk c = (preOk c && Lib.validRune c.r) := by
 unfold cellOk preOk
 have : decide (0 ≤ c.off ∧ c.off ≤ 199) = decide (0 ≤ c.off ∧ c.off < 200) := by rw [decide_eq_decide]; omega
 rw [this]
theorem allOk_split (l : List PCell) : l.all cellOk = (l.all preOk && allValid (l.map (·.r))) := by
 unfold allValid
 rw [Bool.eq_iff_iff]
 simp only [List.all_eq_true, Bool.and_eq_true, List.mem_map, forall_exists_index, and_imp, forall_apply_eq_imp_iff₂, cellOk_pre]
 exact ⟨fun h => ⟨fun x hx => (h x hx).1, fun x hx => (h x hx).2⟩, fun ⟨a, b⟩ x hx => ⟨a x hx, b x hx⟩⟩
set_option maxRecDepth 100000 in
set_option maxHeartbeats 8000000 in
theorem cmay_any (v : Value) (l : List PCell) (w : World) (h : CAt w v l) (hl : l.length ≤ 1000000) : Calls Tryz.prog 41 #[v] w fun e w' => e = .returned (.bool (l.all cellOk)) ∧ Below w.heap.size w w' := by
 have HR := Lib.hid h
 obtain ⟨ao, cap, rfl, -⟩ := h.shape
 have HSP := Lib.hid (allOk_split l)
 have hjo := fun v W (h : Reads32 W v (l.map (·.r))) => join_any v (l.map (·.r)) (by rw [List.length_map]; omega) W h
 unfold JoinPost at hjo
 have HJ := Lib.hid hjo
 obtain ⟨N, hN⟩ : ∃ N, l.length = N := ⟨_, rfl⟩
 obtain ⟨cur, hcur, hmk⟩ := make_runes N (by omega)
 have HN := Lib.hid hN
 rw [hN] at hl
 obtain ⟨i0, hi, hz0, hz1, hz2⟩ := info_parts infoI32'
 have HI := Lib.hid (And.intro hi (And.intro hz0 (And.intro hz1 hz2)))
 have hcl : (0 : Int) ≤ (N : Int) ∧ (N : Int) ≤ 1000000 := by omega
 have hown := World.ownsRow_made (e := 21) w cur N (Nat.le_refl _) (by unfold maxLen; omega) hcur
 have HO := Lib.hid hown
 have HB0 := Lib.hid ((Below.refl _ w).alloc (Nat.le_refl _) (.cells cur 21))
 have hmay := fun s q W => pMayName_any s q W
 have hoff := fun o W => mayOff_any o W
 unfold nmV at hmay
 have HM := Lib.hid (And.intro hmay hoff)
 clear hN h hjo hi hz0 hz1 hz2 hown hmay hoff
 rw [HN.out]
 go_enter Tryz.func41, Tryz.ntmps41
 go_wp2
 generalize w.alloc (.cells cur 21) = w1 at HO HB0 ⊢
 go_loopw [13, 3] (fun i a wr => ∃ k : Nat, k ≤ N ∧ i = .int .i64 k ∧ (∃ ao n cap, a = .slice ao n cap ∧ RowKit.Hid (wr.ownsRow w.heap.size 21 1 (.slice ao n cap) k ((l.take k).map fun c => Value.int .i32 c.r))) ∧ RowKit.Hid (Below w.heap.size w wr) ∧ RowKit.Hid ((l.take k).all preOk = true)) (fun i _ _ => N - (intOf i).toNat)
 case atStart => exact ⟨0, Nat.zero_le _, rfl, ⟨_, _, _, rfl, by rw [List.take_zero]; exact HO⟩, HB0, Lib.hid (by simp)⟩
 case round =>
  rename World => wr
  obtain ⟨k, hk, rfl, ⟨ao', n', cap', rfl, hown⟩, hB, hall⟩ := hrel
  rcases Nat.lt_or_ge k N with hlt | hge
  ·obtain ⟨c, hc⟩ : ∃ c, l[k]? = some c := ⟨_, List.getElem?_eq_getElem (by rw [HN.out]; exact hlt)⟩
   obtain ⟨b, off, cp, hv, c0, c1, c2, c3, c4⟩ := (HR.out.below hB.out).at hc
   rw [HN.out] at hv
   cases hv
   have hi0 : (0 : Int) ≤ (k : Int) ∧ (k : Int) < (N : Int) := ⟨by omega, by omega⟩
   have HC := Lib.hid hc
   obtain ⟨x, hx⟩ : ∃ x, nMay c.site c.seq = x := ⟨_, rfl⟩
   obtain ⟨y, hy⟩ : ∃ y, decide (0 ≤ c.off ∧ c.off < 200) = y := ⟨_, rfl⟩
   have h1 := HM.out.1 c.site c.seq
   have h2 := HM.out.2 c.off
   rw [hx] at h1
   rw [hy] at h2
   have HX := Lib.hid (And.intro hx hy)
   have H1 := Lib.hid h1
   have H2 := Lib.hid h2
   obtain ⟨s, q, f, r, g⟩ := c
   dsimp only at c0 c1 c2 c3 c4 H1 H2
   have e1 := heap_new wr (.cells #[.int .i64 s, .int .i64 q, .int .i64 f, .int .i32 r, .bool g] 48)
   have HA := Lib.hid (And.intro e1 (And.intro (hown.out.alloc (.cells #[.int .i64 s, .int .i64 q, .int .i64 f, .int .i32 r, .bool g] 48)) (hB.out.alloc hB.out.size (.cells #[.int .i64 s, .int .i64 q, .int .i64 f, .int .i32 r, .bool g] 48))))
   clear hc hx hy h1 h2 e1 hown
   cases x with
   | false =>
    go_wp2_with (go_at_call 66; refine (H1.out _).mono ?_; rintro e w2 ⟨rfl, hb2⟩)
    go_ret
    refine ⟨?_, HA.out.2.2.trans (hb2.mono HA.out.2.2.size)⟩
    rw [HSP.out, show l.all preOk = false from by rw [List.all_eq_false]; exact ⟨_, List.mem_of_getElem? HC.out, by unfold preOk; rw [HX.out.1]; simp⟩]
    rfl
   | true =>
    cases y with
    | false =>
     go_wp2_with (first | (go_at_call 66; refine (H1.out _).mono ?_; rintro e w2 ⟨rfl, hb2⟩; have q0 := row_up HA.out.1 hb2; have z2 := box_cell q0 2) | (go_at_call 67; refine (H2.out _).mono ?_; rintro e w3 ⟨rfl, rfl⟩))
     go_ret
     refine ⟨?_, HA.out.2.2.trans (hb2.mono HA.out.2.2.size)⟩
     rw [HSP.out, show l.all preOk = false from by rw [List.all_eq_false]; exact ⟨_, List.mem_of_getElem? HC.out, by unfold preOk; rw [HX.out.2]; simp⟩]
     rfl
    | true =>
     have hws : w.heap.size ≤ wr.heap.size := hB.out.size
     go_wp2_with (first | (go_at_call 66; refine (H1.out _).mono ?_; rintro e w2 ⟨rfl, hb2⟩; have q0 := row_up HA.out.1 hb2; have z2 := box_cell q0 2; have z3 := box_cell q0 3; have HO2 := Lib.hid (own_up HA.out.2.1 hb2); have HB2 := Lib.hid (HA.out.2.2.trans (hb2.mono HA.out.2.2.size)); have hs2 := HB2.out.size) | (go_at_call 67; refine (H2.out _).mono ?_; rintro e w3 ⟨rfl, rfl⟩) | (at_builtin; refine wpList_append_own _ rfl _ _ 59 rfl w.heap.size 21 i0 (.int .i32 0) 1 4 Tryz.underlying59 HI.out.1 HI.out.2.1 HI.out.2.2.1 HI.out.2.2.2 rfl (by decide) _ _ _ rfl (HO2.out.alloc _) ⟨w3.heap.size, 0, none⟩ 1 1 [.int .i32 r] rfl rfl (cell_one_new _ _ _) (by simp [Value.oneCell']) (by unfold maxLen; omega) (by omega) (by simp; omega) ?_; intro v' w4 hown' hgrow _; obtain ⟨g', cap', rfl⟩ := ownsRow_succ hown'; have HO4 := Lib.hid hown'; have HB4 := Lib.hid (below_grown (HB2.out.alloc HB2.out.size _) hgrow (HO2.out.alloc _) (Nat.le_refl _)); clear hown' hgrow))
     go_roundw
     case rel =>
      refine ⟨k + 1, by omega, by go_num, ⟨_, _, _, rfl, Lib.hid ?_⟩, HB4, Lib.hid ?_⟩
      ·rw [List.take_add_one, HC.out, List.map_append]
       exact HO4.out
      ·rw [List.take_add_one, HC.out, List.all_append, hall.out]
       have h8 : nMay s q = true := HX.out.1
       have h9 : decide (0 ≤ f ∧ f < 200) = true := HX.out.2
       unfold preOk
       simp only [List.all_cons, List.all_nil, Option.toList, h8, h9, Bool.and_self]
     case measure => simp [intOf]; omega
  ·obtain rfl : N = k := by omega
   have ho := hown.out
   have ha := hall.out
   rw [List.take_of_length_le (by rw [HN.out]; exact Nat.le_refl _)] at ho ha
   rw [show l.map (fun c => Value.int .i32 c.r) = (l.map (·.r)).map (Value.int .i32) from by rw [List.map_map]; rfl] at ho
   have hlm : (l.map (·.r)).length = N := by rw [List.length_map, HN.out]
   rw [← hlm] at ho
   have HJ2 := Lib.hid (HJ.out _ wr (Reads32.of_own ho))
   have HF := Lib.hid (show l.all cellOk = allValid (l.map (·.r)) by rw [HSP.out, ha, Bool.true_and])
   clear ho ha hlm
   obtain ⟨z, hz⟩ : ∃ z, allValid (l.map (·.r)) = z := ⟨_, rfl⟩
   have hj := HJ2.out
   rw [hz] at hj
   have HZ := Lib.hid hz
   clear hz HJ2
   cases z with
   | true =>
    rw [if_pos rfl] at hj
    have HJ3 := Lib.hid hj
    clear hj
    go_wp2_with (go_at_call 54; refine HJ3.out.mono ?_; rintro e w2 ⟨rfl, hb2⟩)
    go_ret
    exact ⟨by rw [HF.out, HZ.out]; rfl, hB.out.trans (hb2.mono hB.out.size)⟩
   | false =>
    rw [if_neg (by decide)] at hj
    have HJ3 := Lib.hid hj
    clear hj
    go_wp2_with (go_at_call 54; refine HJ3.out.mono ?_; rintro e w2 ⟨rfl, hb2⟩)
    go_ret
    exact ⟨by rw [HF.out, HZ.out]; rfl, hB.out.trans (hb2.mono hB.out.size)⟩
end Go.Proofs.YtmedickofiielaaGreatDoor

namespace Go.Proofs.YtmedickofiielaaGreatDoor
open Go.RowKit Go.Shelf
attribute [local go_sem] Oper.semAt_some

def gStep (st : List Sp) (p : Nat) : List Sp := match st with
 | [] => [((p : Int), 1)]
 | s :: r => if s.1 + s.2 = (p : Int) then (s.1, s.2 + 1) :: r else ((p : Int), 1) :: s :: r
def gStk (ps : List Nat) : List Sp := ps.foldl gStep []
def gath (ps : List Nat) : List Sp := (gStk ps).reverse
theorem gStk_snoc (ps : List Nat) (p : Nat) : gStk (ps ++ [p]) = gStep (gStk ps) p := by unfold gStk; rw [List.foldl_append]; rfl
theorem gath_zero {ps : List Nat} (h : gath ps = []) (p : Nat) : gath (ps ++ [p]) = [((p : Int), 1)] := by
 have : gStk ps = [] := by unfold gath at h; simpa using h
 unfold gath
 rw [gStk_snoc, this]
 rfl
theorem gath_last {ps : List Nat} {r : List Sp} {s : Sp} (h : gath ps = r ++ [s]) (p : Nat) : gath (ps ++ [p]) = if s.1 + s.2 = (p : Int) then r ++ [(s.1, s.2 + 1)] else r ++ [s] ++ [((p : Int), 1)] := by
 have : gStk ps = s :: r.reverse := by
  unfold gath at h
  have := congrArg List.reverse h
  simpa using this
 unfold gath
 rw [gStk_snoc, this]
 unfold gStep
 dsimp only
 split <;> simp
theorem gath_made (f : Nat → Bool) : ∀ k, sMade f k = gath ((List.range k).filter f) := by
 have h : ∀ k, sRun f k = gStk ((List.range k).filter f) := by
  intro k
  induction k with
  | zero => rfl
  | succ k ih =>
   rw [List.range_succ, List.filter_append]
   unfold sRun
   cases hf : f k with
   | false => simp [hf, ih]
   | true =>
    rw [show List.filter f [k] = [k] by simp [hf], gStk_snoc, ih]
    rfl
 intro k
 unfold sMade gath
 rw [h]
theorem gath_ok (ps : List Nat) (hp : ∀ p ∈ ps, p < 1000000) : (gath ps).length ≤ ps.length ∧ ∀ s ∈ gath ps, 0 ≤ s.1 ∧ s.1 ≤ 1000000 ∧ 1 ≤ s.2 ∧ s.2 ≤ ps.length := by
 obtain ⟨k, hk⟩ : ∃ k, ps.length = k := ⟨_, rfl⟩
 induction k generalizing ps with
 | zero =>
  obtain rfl : ps = [] := List.eq_nil_of_length_eq_zero hk
  exact ⟨Nat.le_refl _, by intro s hs; cases hs⟩
 | succ k ih =>
  rcases List.eq_nil_or_concat ps with e | ⟨ps, p, rfl⟩
  ·rw [e] at hk; cases hk
  rw [List.concat_eq_append] at hk hp ⊢
  rw [List.length_append, List.length_singleton] at hk
  obtain ⟨h1, h2⟩ := ih ps (fun q hq => hp q (List.mem_append_left _ hq)) (by omega)
  have hpp := hp p (by simp)
  rw [List.length_append, List.length_singleton]
  rcases List.eq_nil_or_concat (gath ps) with e | ⟨r, s, e⟩
  ·rw [gath_zero e]
   refine ⟨by simp, fun t ht => ?_⟩
   rw [List.mem_singleton.1 ht]
   dsimp only
   omega
  ·rw [List.concat_eq_append] at e
   rw [gath_last e]
   rw [e] at h1 h2
   rw [List.length_append, List.length_singleton] at h1
   split
   ·refine ⟨by simp; omega, fun t ht => ?_⟩
    rcases List.mem_append.1 ht with g | g
    ·have := h2 t (List.mem_append_left _ g); omega
    ·rw [List.mem_singleton.1 g]
     have := h2 s (by simp)
     dsimp only
     omega
   ·refine ⟨by simp; omega, fun t ht => ?_⟩
    rcases List.mem_append.1 ht with g | g
    ·have := h2 t g; omega
    ·rw [List.mem_singleton.1 g]
     dsimp only
     omega
def gP (pre : List (Fin 1000000)) : List Sp := gath (pre.map (·.val))
theorem KF.set_row {n₀ m₁ g o : Nat} {W : World} {u : Value} {c : Array Value} {t : TypeId} {fr : Nat × Nat} (hn : n₀ ≤ g) (h : W.heap[g]? = some (.cells c t fr)) (ht : RowT t) : KF n₀ m₁ W (W.setCell ⟨g, o, none⟩ u) :=
 ⟨(Below.refl n₀ W).setCell (p := ⟨g, o, none⟩) hn u, fun i c' t' fr' _ ht' q => (Below.heap_setCell _ _ _ _ (fun e => by subst e; rw [h] at q; cases q; exact ht' ht)).trans q⟩
theorem infoSpanI : ∃ i, Tryz.prog.info? 120 = some i ∧ i.zero = some (.agg #[.int .i64 0, .int .i64 0]) ∧ i.size = 2 ∧ i.bytes = 16 := by
 obtain ⟨i, h⟩ := info_parts infoSpan
 exact ⟨i, h.1, h.2.1, h.2.2.1, h.2.2.2⟩

set_option maxRecDepth 100000 in
set_option maxHeartbeats 8000000 in
theorem gathered_any (gf : Nat) (lb : Array Value) (eg : ∀ args w, (callFunc gf args).run Tryz.prog w = .ok (.enter gf args) w) (n : Nat) (hn : n ≤ 1000000) (ys : List (Fin 1000000)) (w : World)
  (hst : ∀ w2, Below w.heap.size w w2 → w2.heap.size = w.heap.size + 1 + 1 → SeqStopsO RowT Fence.wide 4 Tryz.prog gf lb encPl (KF w.heap.size (w.heap.size + 1 + 1)) (fun xs => xs = ys) (fun pre => pre <+: ys) 1000000000000 w2) :
  Calls Tryz.prog 31 #[.func (.func gf) #[] lb, .int .i64 (n : Int)] w fun e W' => ∃ v, e = .returned v ∧ W'.ownsRow w.heap.size 120 2 v (gP (ys.take n)).length (spCells (gP (ys.take n))) ∧ Below w.heap.size w W' := by
 obtain ⟨i0, hi, hz0, hz1, hz2⟩ := infoSpanI
 have HI := Lib.hid (And.intro hi (And.intro hz0 (And.intro hz1 hz2)))
 have A0 := row_al (heap_new w (.cells #[.int .i64 (n : Int)] 3)) (.cells #[.slice none 0 0] 37)
 have A1 := heap_new1 w (.cells #[.int .i64 (n : Int)] 3) (.cells #[.slice none 0 0] 37)
 have AB : Below w.heap.size w ((w.alloc (.cells #[.int .i64 (n : Int)] 3)).alloc (.cells #[.slice none 0 0] 37)) := ((Below.refl _ w).alloc (Nat.le_refl _) _).alloc (by simp) _
 have AS : ((w.alloc (.cells #[.int .i64 (n : Int)] 3)).alloc (.cells #[.slice none 0 0] 37)).heap.size = w.heap.size + 1 + 1 := by simp
 clear hi hz0 hz1 hz2
 refine (callsIn_wide (n := 5)).1 ?_
 refine callsIn_of_wp_marks Tryz.func31 rfl trivial ?_ rfl
 simp only [Tryz.ntmps31, List.size_toArray, List.length_cons, List.length_nil, Nat.reduceAdd, Nat.reduceSub, Array.replicate_succ, Array.replicate_zero, List.push_toArray, List.append_toArray, List.nil_append, List.cons_append]
 gi_wp2
 generalize (w.alloc (.cells #[.int .i64 (n : Int)] 3)).alloc (.cells #[.slice none 0 0] 37) = w3 at A0 A1 AB AS ⊢
 have hst := hst w3 AB AS
 refine wpIn_rangeFunc_ownO RowT rfl (by decide) (gf := gf) (lb := lb) rfl trivial eg
  hst (fun h k => kf_t h k) (fun X l o o' h1 _ h3 h4 h5 => kf_b (w := w3) (by omega) X l o o' h1 h3 h4 h5) (fun _ => rfl)
  (fun pre X => (pre.length ≤ n ∧ X.heap[w.heap.size]? = some (.cells #[.int .i64 ((n - pre.length : Nat) : Int)] 3 (0, 0)) ∧ ∃ v, X.heap[w.heap.size + 1]? = some (.cells #[v] 37 (0, 0)) ∧ X.ownsRow w.heap.size 120 2 v (gP pre).length (spCells (gP pre))) ∧ Below w.heap.size w X)
  (fun c pre X => (c = .exit 0 ∧ pre.length = n + 1 ∧ ∃ v, X.heap[w.heap.size + 1]? = some (.cells #[v] 37 (0, 0)) ∧ X.ownsRow w.heap.size 120 2 v (gP (pre.take n)).length (spCells (gP (pre.take n)))) ∧ Below w.heap.size w X)
  (OwnFrom.and (Own.from (fun s A B row hs hg hr => ⟨hs.1, row_turn hs.2.1 hg hr, by obtain ⟨v, h1, h2⟩ := hs.2.2; exact ⟨v, row_turn h1 hg hr, own_turn h2 hg hr⟩⟩) _) (ownFrom_below (Nat.le_refl _) (by omega)))
  (fun c => OwnFrom.and (Own.from (fun s A B row hs hg hr => ⟨hs.1, hs.2.1, by obtain ⟨v, h1, h2⟩ := hs.2.2; exact ⟨v, row_turn h1 hg hr, own_turn h2 hg hr⟩⟩) _) (ownFrom_below (Nat.le_refl _) (by omega)))
  (fun s A B row hs hg hr => ⟨⟨hs.1.1, far_kept hg hr (by omega) hs.1.2.1, by obtain ⟨v, h1, h2⟩ := hs.1.2.2; exact ⟨v, far_kept hg hr (by omega) h1, own_turnT h2 hg (fun r e => (hr r e).2) (by unfold RowT; decide)⟩⟩, hs.2.grown hg (by have := hs.2.size; omega) (fun r e => by have := (hr r e).1; omega)⟩)
  (fun c s A B row hs hg hr => ⟨⟨hs.1.1, hs.1.2.1, by obtain ⟨v, h1, h2⟩ := hs.1.2.2; exact ⟨v, far_kept hg hr (by omega) h1, own_turnT h2 hg (fun r e => (hr r e).2) (by unfold RowT; decide)⟩⟩, hs.2.grown hg (by have := hs.2.size; omega) (fun r e => by have := (hr r e).1; omega)⟩)
  ⟨⟨Nat.zero_le _, by simpa using A0, _, A1, World.ownsRow_nil _ _ _ _⟩, AB⟩
  (fun x => { tmps := #[.func (.func gf) #[] lb, .int .i64 (n : Int), undef, .pointer (some ⟨w.heap.size, 0, none⟩), .slice none 0 0, .pointer (some ⟨w.heap.size + 1, 0, none⟩), .int .i64 (x.val : Int), undef, .func (.func gf) #[] lb, .int .i64 (x.val : Int), undef, undef, undef, undef, undef, undef, undef, undef, undef, undef, undef, undef, undef, undef, undef, undef, undef, undef, undef, undef, undef, undef, undef, undef, undef, undef, undef, undef, undef, undef, undef, undef, undef, undef, undef, undef, undef, undef], defers := [] }) ?assign ?body ?done ?stop
 case assign =>
  intro l x W K hK
  gi_wp2
  exact hK
 case body =>
  rintro l pre x X ⟨⟨hp, c0, v, c1, ho⟩, hB⟩ hlen
  have y0 := box_cell c0 0
  have y1 := box_cell c1 0
  have f0 := box_frozen c0 0
  have hlt := box_lt c1
  rcases Nat.eq_zero_or_pos (n - pre.length) with hz | hz
  ·-- no more are asked
   rw [hz] at y0
   have HB := Lib.hid (And.intro c1 (And.intro ho hB))
   clear c0 c1 ho hB y1
   gi_wp2
   obtain ⟨c1, ho, hB⟩ := HB.out
   exact ⟨KeepsOthers.refl _, ⟨rfl, by simp; omega, v, c1, by rw [List.take_append_of_le_length (by omega), List.take_of_length_le (by omega)]; exact ho⟩, hB⟩
  ·have hpz : (0 : Int) < ((n - pre.length : Nat) : Int) := by omega
   have hne : ((n - pre.length : Nat) : Int) ≠ 0 := by omega
   have hm1 : ((n - pre.length : Nat) : Int) - 1 = ((n - (pre.length + 1) : Nat) : Int) := by omega
   obtain ⟨M, hM⟩ : ∃ M : Int, ((n - pre.length : Nat) : Int) = M := ⟨_, rfl⟩
   rw [hM] at hpz hne hm1 y0 c0
   have hMb : M ≤ 1000000 := by omega
   have hwm : IntKind.i64.wrap (M - 1) = M - 1 := IntWalk.i64_in _ (by omega)
   have HM := Lib.hid (And.intro hM hm1)
   clear hM hm1
   have hgk := gath_ok (pre.map (·.val)) (fun p hq => by obtain ⟨z, _, rfl⟩ := List.mem_map.1 hq; exact z.isLt)
   rw [List.length_map] at hgk
   have hsnoc : gP (pre ++ [x]) = gath (pre.map (·.val) ++ [x.val]) := by unfold gP; rw [List.map_append]; rfl
   have hxv := x.isLt
   -- the world behind n--
   have hz0 : w.heap.size ≤ w.heap.size := Nat.le_refl _
   have d0 := box_set c0 0 (.int .i64 (M - 1))
   have d1 : (X.setCell ⟨w.heap.size, 0, none⟩ (.int .i64 (M - 1))).heap[w.heap.size + 1]? = _ := (box_other (by omega) 0 _).trans c1
   have do' := own_far ho c0 (by decide) 0 (.int .i64 (M - 1))
   have dB := hB.setCell (p := ⟨w.heap.size, 0, none⟩) hz0 (.int .i64 (M - 1))
   have dK := KeepsOthers.setCell X ⟨w.heap.size, 0, none⟩ (.int .i64 (M - 1))
   have dF : KF w.heap.size (w.heap.size + 1 + 1) X (X.setCell ⟨w.heap.size, 0, none⟩ (.int .i64 (M - 1))) := KF.set hz0 (by omega)
   rcases List.eq_nil_or_concat (gP pre) with e | ⟨r, s, e⟩
   ·have hnew := gath_zero e x.val
    rw [← hsnoc] at hnew
    rw [e] at do'
    obtain ⟨ao, L, cap, rfl⟩ := slice_of ho
    have hL0 : L = 0 := by rcases do'.2 with ⟨q, h0⟩ | ⟨_, _, _, q, _⟩ <;> cases q <;> rfl
    subst hL0
    have HN := Lib.hid hnew
    have HD := Lib.hid (And.intro d0 (And.intro d1 (And.intro do' (And.intro dB (And.intro dK dF)))))
    clear hnew hsnoc hgk c0 c1 ho hB e d0 d1 do' dB dK dF
    gi_wp2
    generalize X.setCell ⟨w.heap.size, 0, none⟩ (.int .i64 (M - 1)) = Xn at HD ⊢
    refine region_bridge (ro := some l) (S := fun _ => True) (by kernel_rfl) (by kernel_rfl) (by rintro ⟨_, _, h⟩; exact h) trivial (fun hHeld => ?_)
    refine tk0 (i := 0) rfl ?_
    try simp only [td]
    refine tk0 (i := 1) rfl ?_
    try simp only [td]
    refine tk0 (i := 2) rfl ?_
    try simp only [td]
    refine tk (i := 3) (v := undef) rfl (Or.inr ⟨rfl, rfl⟩) ?_
    try simp only [td]
    refine tk (i := 4) (v := undef) rfl (Or.inr ⟨rfl, rfl⟩) ?_
    try simp only [td]
    refine tk (i := 5) (v := undef) rfl (Or.inr ⟨rfl, rfl⟩) ?_
    try simp only [td]
    refine tk (i := 6) (v := undef) rfl (Or.inr ⟨rfl, rfl⟩) ?_
    try simp only [td]
    refine tk (i := 7) (v := undef) rfl (Or.inr ⟨rfl, rfl⟩) ?_
    try simp only [td]
    refine tk (i := 8) (v := undef) rfl (Or.inr ⟨rfl, rfl⟩) ?_
    try simp only [td]
    refine tk (i := 9) (v := undef) rfl (Or.inr ⟨rfl, rfl⟩) ?_
    try simp only [td]
    refine tk (i := 10) (v := undef) rfl (Or.inr ⟨rfl, rfl⟩) ?_
    try simp only [td]
    refine tk (i := 11) (v := undef) rfl (Or.inr ⟨rfl, rfl⟩) ?_
    try simp only [td]
    refine tk (i := 12) (v := undef) rfl (Or.inr ⟨rfl, rfl⟩) ?_
    try simp only [td]
    refine tk (i := 13) (v := undef) rfl (Or.inr ⟨rfl, rfl⟩) ?_
    try simp only [td]
    refine tk (i := 14) (v := undef) rfl (Or.inr ⟨rfl, rfl⟩) ?_
    try simp only [td]
    refine tk (i := 15) (v := undef) rfl (Or.inr ⟨rfl, rfl⟩) ?_
    try simp only [td]
    refine tk0 (i := 16) rfl ?_
    try simp only [td]
    refine wpAnyH_done (by kernel_rfl) ?_ _
    have E0 : Xn.drew.heap[w.heap.size]? = _ := HD.out.1
    have E1 : Xn.drew.heap[w.heap.size + 1]? = _ := HD.out.2.1
    have EO := HD.out.2.2.1.drew
    have EB := HD.out.2.2.2.1.drew
    have EK := HD.out.2.2.2.2.1.trans (KeepsOthers.drew Xn)
    have EF := HD.out.2.2.2.2.2.drew
    generalize Xn.drew = Y at E0 E1 EO EB EK EF ⊢
    have z1 := box_cell E1 0
    have hbY : w.heap.size ≤ Y.heap.size := EB.size
    have a0 := row_al E0 (.cells #[.int .i64 (x.val : Int), .int .i64 1] 120)
    have a1 := row_al E1 (.cells #[.int .i64 (x.val : Int), .int .i64 1] 120)
    have ao' := EO.alloc (.cells #[.int .i64 (x.val : Int), .int .i64 1] 120)
    have aB := EB.alloc EB.size (.cells #[.int .i64 (x.val : Int), .int .i64 1] 120)
    have aK := EK.trans (KeepsOthers.alloc Y (.cells #[.int .i64 (x.val : Int), .int .i64 1] 120))
    have aF := kf_t EF (KF.alloc EB.size (.cells #[.int .i64 (x.val : Int), .int .i64 1] 120))
    have hys := box_lt E1
    have HE := Lib.hid (And.intro a0 (And.intro a1 (And.intro ao' (And.intro aB (And.intro aK aF)))))
    have hnews : ∀ j u, [Value.int .i64 (x.val : Int), .int .i64 1][j]? = some u → (Y.alloc (.cells #[.int .i64 (x.val : Int), .int .i64 1] 120)).cell? ((⟨Y.heap.size, 0, none⟩ : Addr).add j) = some u := fun j u hj => by
     have q := heap_new Y (.cells #[.int .i64 (x.val : Int), .int .i64 1] 120)
     match j, hj with
     | 0, hj => simp at hj; subst hj; exact box_cell q 0
     | 1, hj => simp at hj; subst hj; exact box_cell q 1
    have HNW := Lib.hid hnews
    clear E0 E1 EO EB EK EF a0 a1 ao' aB aK aF hnews
    gi_wp2_with (gi_at_builtin; go_must (refine wpListIn_append_own _ rfl _ _ 37 rfl w.heap.size 120 i0 (.agg #[.int .i64 0, .int .i64 0]) 2 16 Tryz.underlying37 HI.out.1 HI.out.2.1 HI.out.2.2.1 HI.out.2.2.2 rfl (by decide) _ _ _ rfl HE.out.2.2.1 ⟨Y.heap.size, 0, none⟩ 1 1 [.int .i64 (x.val : Int), .int .i64 1] rfl (by simp) HNW.out (by simp [Value.oneCell']) (by simp [maxLen]) (by simp) (by have := hbY; simp; omega) ?_; intro v' w4 hown' hgrow _; obtain ⟨g', cap', rfl⟩ := ownsRow_succ hown'; have i1 := row_grown HE.out.2.1 hgrow HE.out.2.2.1 (by decide); have z2 := box_cell i1 0; have zf := box_frozen i1 0))
    obtain ⟨a0, a1, ao', aB, aK, aF⟩ := HE.out
    have i0' := row_grown a0 hgrow ao' (by decide)
    have iB := below_grown aB hgrow ao' (Nat.le_refl _)
    have iK := aK.trans (KeepsOthers.of_grownBy hgrow (fun j o hj ho => by obtain ⟨_, cur', hc⟩ := own_typed ao' j hj; rw [hc] at ho; cases ho; rfl))
    have iF := kf_t aF (KF.grown (m₁ := w.heap.size + 1 + 1) hgrow aB.size (fun g e => by obtain ⟨q1, cur', hc⟩ := own_typed ao' g e; exact ⟨q1, .inr ⟨_, _, _, hc, .inl rfl⟩⟩))
    refine ⟨iK.trans (KeepsOthers.setCell _ _ _), kf_t iF (KF.set (by omega) (by omega)), ⟨by rw [List.length_append, List.length_singleton]; omega, ?nb, _, box_set i1 0 _, ?ow⟩, iB.setCell (p := ⟨w.heap.size + 1, 0, none⟩) (by show w.heap.size ≤ w.heap.size + 1; omega) _⟩
    case nb =>
     rw [List.length_append, List.length_singleton, ← HM.out.2]
     refine (box_other (by omega) 0 _).trans ?_
     simpa using i0'
    case ow =>
     rw [HN.out]
     exact own_far (by simpa [spCells] using hown') i1 (by decide) 0 _
   ·rw [List.concat_eq_append] at e
    have hnew := gath_last e x.val
    rw [← hsnoc] at hnew
    unfold gP at e
    rw [e] at hgk
    have hs4 := hgk.2 s (by simp)
    have hR1 := hgk.1
    rw [List.length_append, List.length_singleton] at hR1
    have e' : gP pre = r ++ [s] := e
    rw [e'] at do'
    obtain ⟨R, hR⟩ : ∃ R, r.length = R := ⟨_, rfl⟩
    have hlr : (r ++ [s]).length = R + 1 := by rw [← hR]; simp
    rw [hlr] at do'
    rw [hR] at hR1
    obtain ⟨g0, cap, hvv, hgb, hgl⟩ := ownsRow_form do' (by omega)
    subst hvv
    have k0 := do'.cellAt (R * 2) (by omega)
    have k1 := do'.cellAt (R * 2 + 1) (by omega)
    have kf1 := do'.frozenAt (R * 2 + 1)
    rw [← hR] at k0 k1
    rw [(spCells_at (r ++ [s]) r.length (by simp)).1, show ((r ++ [s]).getD r.length (0, 0)) = s by simp [List.getD]] at k0
    rw [(spCells_at (r ++ [s]) r.length (by simp)).2, show ((r ++ [s]).getD r.length (0, 0)) = s by simp [List.getD]] at k1
    rw [hR] at k0 k1
    have hbump : (spCells (r ++ [s])).set (R * 2 + 1) (.int .i64 (s.2 + 1)) = spCells (r ++ [(s.1, s.2 + 1)]) := by rw [← hR]; exact spCells_bump r s (s.2 + 1)
    obtain ⟨_, gcur, hgr⟩ := own_typed do' g0 rfl
    obtain ⟨S1, hS1⟩ : ∃ z, s.1 = z := ⟨_, rfl⟩
    obtain ⟨S2, hS2⟩ : ∃ z, s.2 = z := ⟨_, rfl⟩
    rw [hS1, hS2] at hs4 hnew
    rw [hS1] at k0 hbump
    rw [hS2] at k1 hbump
    have hw1 : IntKind.i64.wrap (S1 + S2) = S1 + S2 := IntWalk.i64_in _ (by omega)
    have hw2 : IntKind.i64.wrap (S2 + 1) = S2 + 1 := IntWalk.i64_in _ (by omega)
    have hwx : IntKind.i64.wrap (x.val : Int) = (x.val : Int) := IntWalk.i64_in _ (by omega)
    have hRb : R + 1 ≤ 1000000 := by omega
    have HL0 := Lib.hid (show wrap64 (R : Int) = R by unfold wrap64; omega)
    have hRR : (R : Int) < (R : Int) + 1 := by omega
    have hR0 : (0 : Int) ≤ (R : Int) := by omega
    have hl1 : (((R + 1 : Nat) : Int) - 1).toNat = R := by omega
    have hl2 : (0 : Int) ≤ ((R + 1 : Nat) : Int) - 1 ∧ ((R + 1 : Nat) : Int) - 1 < ((R + 1 : Nat) : Int) := ⟨by omega, by omega⟩
    have hl3 : IntKind.i64.wrap (((R + 1 : Nat) : Int) - 1) = ((R + 1 : Nat) : Int) - 1 := IntWalk.i64_in _ (by omega)
    have hgd : (0 : Int) ≤ ((R + 1 : Nat) : Int) - 1 := hl2.1
    have HN := Lib.hid hnew
    have HD := Lib.hid (And.intro d0 (And.intro d1 (And.intro do' (And.intro dB (And.intro dK (And.intro dF (And.intro hbump (And.intro hgr (And.intro k0 (And.intro k1 hR))))))))))
    have hgb' : w.heap.size ≤ g0 := hgb
    have hkk0 := kf1
    clear hnew hsnoc hgk c0 c1 ho hB e e' hlr do' hbump hgr hR hS1 hS2 hs4 hl3 d0 d1 dB dK dF k0 k1 hR1 hgl hkk0 kf1
    gi_wp2
    try rw [HL0.out]
    by_cases hq : S1 + S2 = (x.val : Int)
    ·have hsv : (S1 + S2 == (x.val : Int)) = true := beq_iff_eq.2 hq
     generalize X.setCell ⟨w.heap.size, 0, none⟩ (.int .i64 (M - 1)) = Xn at HD ⊢
     refine region_bridge (ro := some l) (S := fun Z => Z.heap[w.heap.size + 1]? = some (.cells #[.slice (some ⟨g0, 0, none⟩) (R + 1) cap] 37 (0, 0)) ∧ Z.cell? ⟨g0, R * 2, none⟩ = some (.int .i64 S1) ∧ Z.cell? ⟨g0, R * 2 + 1, none⟩ = some (.int .i64 S2)) (by kernel_rfl) (by kernel_rfl) (by rintro ⟨_, _, h⟩; exact h) ⟨HD.out.2.1, HD.out.2.2.2.2.2.2.2.2.1, HD.out.2.2.2.2.2.2.2.2.2.1⟩ (fun hHeld => ?_)
     refine tk0 (i := 0) rfl ?_
     try simp only [td]
     refine tk0 (i := 1) rfl ?_
     try simp only [td]
     refine tk0 (i := 2) rfl ?_
     try simp only [td]
     refine tk (i := 3) (v := ?_) rfl (Or.inl ⟨rfl, ?hy8⟩) ?_
     case hy8 =>
      intro W hS
      obtain ⟨s1, s2, s3⟩ := hS
      have u0 := box_cell s1 0
      go_simp
      try with_reducible rfl
     try simp only [td]
     refine tk0 (i := 4) rfl ?_
     try simp only [td]
     refine tk0 (i := 5) rfl ?_
     try simp only [td]
     refine tk0 (i := 6) rfl ?_
     try simp only [td]
     refine tk (i := 7) (v := ?_) rfl (Or.inl ⟨rfl, ?hy12⟩) ?_
     case hy12 =>
      intro W hS
      obtain ⟨s1, s2, s3⟩ := hS
      have u0 := box_cell s1 0
      go_simp
      try with_reducible rfl
     try simp only [td]
     refine tk (i := 8) (v := ?_) rfl (Or.inl ⟨rfl, ?hy13⟩) ?_
     case hy13 =>
      intro W hS
      obtain ⟨s1, s2, s3⟩ := hS
      have u0 := box_cell s1 0
      go_simp
      try with_reducible rfl
     try simp only [td]
     refine tk0 (i := 9) rfl ?_
     try simp only [td]
     refine tk0 (i := 10) rfl ?_
     try simp only [td]
     refine tk0 (i := 11) rfl ?_
     try simp only [td]
     refine tk (i := 12) (v := ?_) rfl (Or.inl ⟨rfl, ?hy17⟩) ?_
     case hy17 =>
      intro W hS
      obtain ⟨s1, s2, s3⟩ := hS
      have u0 := box_cell s1 0
      go_simp
      try with_reducible rfl
     try simp only [td]
     refine tk0 (i := 13) rfl ?_
     try simp only [td]
     refine tk0 (i := 14) rfl ?_
     try simp only [td]
     refine tk0 (i := 15) rfl ?_
     try simp only [td]
     refine tk0 (i := 16) rfl ?_
     try simp only [td]
     refine wpAnyH_done (by kernel_rfl) ?_ _
     have E0 : Xn.drew.heap[w.heap.size]? = _ := HD.out.1
     have E1 : Xn.drew.heap[w.heap.size + 1]? = _ := HD.out.2.1
     have EO := HD.out.2.2.1.drew
     have EB := HD.out.2.2.2.1.drew
     have EK := HD.out.2.2.2.2.1.trans (KeepsOthers.drew Xn)
     have EF := HD.out.2.2.2.2.2.1.drew
     have EG : Xn.drew.heap[g0]? = _ := HD.out.2.2.2.2.2.2.2.1
     have EC : Xn.drew.cell? ⟨g0, R * 2 + 1, none⟩ = _ := HD.out.2.2.2.2.2.2.2.2.2.1
     generalize Xn.drew = Y at E0 E1 EO EB EK EF EG EC ⊢
     have z1 := box_cell E1 0
     have zf := EO.frozenAt (R * 2 + 1)
     have HE := Lib.hid (And.intro E0 (And.intro E1 (And.intro EO (And.intro EB (And.intro EK (And.intro EF EG))))))
     have HQ := Lib.hid hq
     clear E0 E1 EO EB EK EF EG hq hHeld
     gi_wp2
     obtain ⟨E0, E1, EO, EB, EK, EF, EG⟩ := HE.out
     have hst := (EO.stored (R * 2 + 1) (.int .i64 (S2 + 1))).1
     rw [HD.out.2.2.2.2.2.2.1] at hst
     refine ⟨EK.trans (KeepsOthers.setCell _ _ _), kf_t EF (KF.set_row hgb' EG (.inl rfl)), ⟨by rw [List.length_append, List.length_singleton]; omega, ?nb, _, (box_other (ne_box E1 EG (by decide)) _ _).trans E1, ?ow⟩, EB.setCell (p := ⟨g0, R * 2 + 1, none⟩) hgb' _⟩
     case nb =>
      rw [List.length_append, List.length_singleton, ← HM.out.2]
      refine (box_other (ne_box E0 EG (by decide)) _ _).trans ?_
      simpa using E0
     case ow =>
      rw [HN.out, if_pos HQ.out, List.length_append, List.length_singleton, HD.out.2.2.2.2.2.2.2.2.2.2]
      exact hst
    ·have hsv : (S1 + S2 == (x.val : Int)) = false := beq_eq_false_iff_ne.2 hq
     generalize X.setCell ⟨w.heap.size, 0, none⟩ (.int .i64 (M - 1)) = Xn at HD ⊢
     refine region_bridge (ro := some l) (S := fun Z => Z.heap[w.heap.size + 1]? = some (.cells #[.slice (some ⟨g0, 0, none⟩) (R + 1) cap] 37 (0, 0)) ∧ Z.cell? ⟨g0, R * 2, none⟩ = some (.int .i64 S1) ∧ Z.cell? ⟨g0, R * 2 + 1, none⟩ = some (.int .i64 S2)) (by kernel_rfl) (by kernel_rfl) (by rintro ⟨_, _, h⟩; exact h) ⟨HD.out.2.1, HD.out.2.2.2.2.2.2.2.2.1, HD.out.2.2.2.2.2.2.2.2.2.1⟩ (fun hHeld => ?_)
     refine tk0 (i := 0) rfl ?_
     try simp only [td]
     refine tk0 (i := 1) rfl ?_
     try simp only [td]
     refine tk0 (i := 2) rfl ?_
     try simp only [td]
     refine tk (i := 3) (v := ?_) rfl (Or.inl ⟨rfl, ?hy25⟩) ?_
     case hy25 =>
      intro W hS
      obtain ⟨s1, s2, s3⟩ := hS
      have u0 := box_cell s1 0
      go_simp
      try with_reducible rfl
     try simp only [td]
     refine tk0 (i := 4) rfl ?_
     try simp only [td]
     refine tk0 (i := 5) rfl ?_
     try simp only [td]
     refine tk0 (i := 6) rfl ?_
     try simp only [td]
     refine tk (i := 7) (v := ?_) rfl (Or.inl ⟨rfl, ?hy29⟩) ?_
     case hy29 =>
      intro W hS
      obtain ⟨s1, s2, s3⟩ := hS
      have u0 := box_cell s1 0
      go_simp
      try with_reducible rfl
     try simp only [td]
     refine tk (i := 8) (v := ?_) rfl (Or.inl ⟨rfl, ?hy30⟩) ?_
     case hy30 =>
      intro W hS
      obtain ⟨s1, s2, s3⟩ := hS
      have u0 := box_cell s1 0
      go_simp
      try with_reducible rfl
     try simp only [td]
     refine tk0 (i := 9) rfl ?_
     try simp only [td]
     refine tk0 (i := 10) rfl ?_
     try simp only [td]
     refine tk0 (i := 11) rfl ?_
     try simp only [td]
     refine tk (i := 12) (v := ?_) rfl (Or.inl ⟨rfl, ?hy34⟩) ?_
     case hy34 =>
      intro W hS
      obtain ⟨s1, s2, s3⟩ := hS
      have u0 := box_cell s1 0
      go_simp
      try with_reducible rfl
     try simp only [td]
     refine tk0 (i := 13) rfl ?_
     try simp only [td]
     refine tk0 (i := 14) rfl ?_
     try simp only [td]
     refine tk0 (i := 15) rfl ?_
     try simp only [td]
     refine tk0 (i := 16) rfl ?_
     try simp only [td]
     refine wpAnyH_done (by kernel_rfl) ?_ _
     have E0 : Xn.drew.heap[w.heap.size]? = _ := HD.out.1
     have E1 : Xn.drew.heap[w.heap.size + 1]? = _ := HD.out.2.1
     have EO := HD.out.2.2.1.drew
     have EB := HD.out.2.2.2.1.drew
     have EK := HD.out.2.2.2.2.1.trans (KeepsOthers.drew Xn)
     have EF := HD.out.2.2.2.2.2.1.drew
     have EG : Xn.drew.heap[g0]? = _ := HD.out.2.2.2.2.2.2.2.1
     have EC : Xn.drew.cell? ⟨g0, R * 2 + 1, none⟩ = _ := HD.out.2.2.2.2.2.2.2.2.2.1
     generalize Xn.drew = Y at E0 E1 EO EB EK EF EG EC ⊢
     clear EG EC
     have z1 := box_cell E1 0
     have hbY : w.heap.size ≤ Y.heap.size := EB.size
     have a0 := row_al E0 (.cells #[.int .i64 (x.val : Int), .int .i64 1] 120)
     have a1 := row_al E1 (.cells #[.int .i64 (x.val : Int), .int .i64 1] 120)
     have ao' := EO.alloc (.cells #[.int .i64 (x.val : Int), .int .i64 1] 120)
     have aB := EB.alloc EB.size (.cells #[.int .i64 (x.val : Int), .int .i64 1] 120)
     have aK := EK.trans (KeepsOthers.alloc Y (.cells #[.int .i64 (x.val : Int), .int .i64 1] 120))
     have aF := kf_t EF (KF.alloc EB.size (.cells #[.int .i64 (x.val : Int), .int .i64 1] 120))
     have hys := box_lt E1
     have HE := Lib.hid (And.intro a0 (And.intro a1 (And.intro ao' (And.intro aB (And.intro aK aF)))))
     have hnews : ∀ j u, [Value.int .i64 (x.val : Int), .int .i64 1][j]? = some u → (Y.alloc (.cells #[.int .i64 (x.val : Int), .int .i64 1] 120)).cell? ((⟨Y.heap.size, 0, none⟩ : Addr).add j) = some u := fun j u hj => by
      have q := heap_new Y (.cells #[.int .i64 (x.val : Int), .int .i64 1] 120)
      match j, hj with
      | 0, hj => simp at hj; subst hj; exact box_cell q 0
      | 1, hj => simp at hj; subst hj; exact box_cell q 1
     have HNW := Lib.hid hnews
     clear E0 E1 EO EB EK EF a0 a1 ao' aB aK aF hnews
     have HQ := Lib.hid hq
     clear hHeld
     gi_wp2_with (gi_at_builtin; go_must (refine wpListIn_append_own _ rfl _ _ 37 rfl w.heap.size 120 i0 (.agg #[.int .i64 0, .int .i64 0]) 2 16 Tryz.underlying37 HI.out.1 HI.out.2.1 HI.out.2.2.1 HI.out.2.2.2 rfl (by decide) _ _ _ rfl HE.out.2.2.1 ⟨Y.heap.size, 0, none⟩ 1 1 [.int .i64 (x.val : Int), .int .i64 1] rfl (by simp) HNW.out (by simp [Value.oneCell']) (by unfold maxLen; omega) (by omega) (by have := hbY; simp; omega) ?_; intro v' w4 hown' hgrow _; obtain ⟨g', cap', rfl⟩ := ownsRow_succ hown'; have i1 := row_grown HE.out.2.1 hgrow HE.out.2.2.1 (by decide); have z2 := box_cell i1 0; have zf := box_frozen i1 0))
     obtain ⟨a0, a1, ao', aB, aK, aF⟩ := HE.out
     have i0' := row_grown a0 hgrow ao' (by decide)
     have iB := below_grown aB hgrow ao' (Nat.le_refl _)
     have iK := aK.trans (KeepsOthers.of_grownBy hgrow (fun j o hj ho => by obtain ⟨_, cur', hc⟩ := own_typed ao' j hj; rw [hc] at ho; cases ho; rfl))
     have iF := kf_t aF (KF.grown (m₁ := w.heap.size + 1 + 1) hgrow aB.size (fun g e => by obtain ⟨q1, cur', hc⟩ := own_typed ao' g e; exact ⟨q1, .inr ⟨_, _, _, hc, .inl rfl⟩⟩))
     refine ⟨iK.trans (KeepsOthers.setCell _ _ _), kf_t iF (KF.set (by omega) (by omega)), ⟨by rw [List.length_append, List.length_singleton]; omega, ?nb, _, box_set i1 0 _, ?ow⟩, iB.setCell (p := ⟨w.heap.size + 1, 0, none⟩) (by show w.heap.size ≤ w.heap.size + 1; omega) _⟩
     case nb =>
      rw [List.length_append, List.length_singleton, ← HM.out.2]
      refine (box_other (by omega) 0 _).trans ?_
      simpa using i0'
     case ow =>
      rw [HN.out]
      exact own_far (by rw [if_neg HQ.out]; rw [List.length_append, List.length_append, List.length_singleton, List.length_singleton, HD.out.2.2.2.2.2.2.2.2.2.2, spCells_append (r ++ [s])]; exact hown') i1 (by decide) 0 _
 case done =>
  rintro D xs Z hD rfl ⟨⟨hp, c0, v, c1, ho⟩, hB⟩ hK
  rw [← List.take_of_length_le hp] at ho
  have z1 := box_cell c1 0
  have HO := Lib.hid (And.intro ho hB)
  obtain ⟨ao', n', cap', rfl⟩ := slice_of ho
  clear ho hB c0 c1 hp
  gi_wp2
  refine ⟨by simp, .inl ⟨_, _, rfl, run_takeDeferred hK, ?_⟩⟩
  have hBD := belowK_b (w := w) (Nat.le_refl _) Z D _ (.deferred none) (by omega) hK rfl rfl
  exact ⟨_, results_tmp rfl _ _ _, _, rfl, own_turn HO.out.1 (grownBy_putObj' Z D (.deferred none)) (fun r e => by cases e; exact ⟨_, hK, rfl⟩), HO.out.2.trans hBD⟩
 case stop =>
  rintro D c pre Z hD hpre ⟨⟨rfl, hl, v, c1, ho⟩, hB⟩ hK
  have htk : pre.take n = ys.take n := by
   obtain ⟨t, rfl⟩ := hpre
   rw [List.take_append_of_le_length (by omega)]
  rw [htk] at ho
  have z1 := box_cell c1 0
  have HO := Lib.hid (And.intro ho hB)
  obtain ⟨ao', n', cap', rfl⟩ := slice_of ho
  clear ho hB c1 hl htk hpre
  gi_wp2
  refine ⟨by simp, .inl ⟨_, _, rfl, run_takeDeferred hK, ?_⟩⟩
  have hBD := belowK_b (w := w) (Nat.le_refl _) Z D _ (.deferred none) (by omega) hK rfl rfl
  exact ⟨_, results_tmp rfl _ _ _, _, rfl, own_turn HO.out.1 (grownBy_putObj' Z D (.deferred none)) (fun r e => by cases e; exact ⟨_, hK, rfl⟩), HO.out.2.trans hBD⟩
end Go.Proofs.YtmedickofiielaaGreatDoor

namespace Go.Proofs.YtmedickofiielaaGreatDoor

theorem pos_live (l : List PCell) (k : Nat) : (posOf false (l.take k) 0).length = cSeen l k := by rw [posOf_length]; rfl
theorem posOf_some (l : List PCell) (g : Bool) (k : Nat) (hk : k < l.length) : ∃ c, l[k]? = some c ∧ posOf g (l.take (k + 1)) 0 = posOf g (l.take k) 0 ++ (if c.gone = g then [k] else []) := by
 obtain ⟨c, hc⟩ := getC_some (l := l) hk
 refine ⟨c, hc, ?_⟩
 rw [posOf_snoc g hc, Nat.zero_add]
theorem pos_gap (l : List PCell) (i : Nat) : ∀ k, k ≤ l.length → (posOf false (l.take k) 0)[i]? = gapTo l i k
 | 0, _ => by simp [posOf, gapTo]
 | k + 1, hk => by
  obtain ⟨c, hc, e⟩ := posOf_some l false k (by omega)
  have ih := pos_gap l i k (by omega)
  have hl := pos_live l k
  rw [e, gapTo_next, ← ih]
  have hok : gapOk l i k = (!c.gone && decide ((cSeen l k : Int) = i)) := by unfold gapOk; rw [hc]
  rw [hok]
  cases hg : c.gone with
  | true => simp
  | false =>
   rw [if_pos rfl]
   rcases Nat.lt_trichotomy i (cSeen l k) with h | h | h
   ·rw [List.getElem?_append_left (by omega), List.getElem?_eq_getElem (by omega)]
    simp
   ·rw [List.getElem?_append_right (by omega), hl, h, List.getElem?_eq_none (l := posOf false (l.take k) 0) (by omega)]
    simp
   ·rw [List.getElem?_append_right (by omega), hl, List.getElem?_eq_none (l := posOf false (l.take k) 0) (by omega), List.getElem?_eq_none (by simp; omega)]
    have : ¬ ((cSeen l k : Int) = (i : Int)) := by omega
    simp [this]
theorem gap_pos (l : List PCell) (i : Nat) : cGap l i = match (posOf false l 0)[i]? with
 | some p => (p : Int)
 | none => if (cLive l : Int) = i then (l.length : Int) else -1 := by
 have h := pos_gap l i l.length (Nat.le_refl _)
 rw [List.take_length] at h
 unfold cGap
 rw [h]
 rfl
theorem pos_gone (l : List PCell) : ∀ k, k ≤ l.length → (List.range k).filter (goneB l) = posOf true (l.take k) 0
 | 0, _ => by simp [posOf]
 | k + 1, hk => by
  obtain ⟨c, hc, e⟩ := posOf_some l true k (by omega)
  rw [List.range_succ, List.filter_append, pos_gone l k (by omega), e]
  congr 1
  have := goneB_at hc
  cases hg : c.gone <;> rw [hg] at this <;> simp [this]
theorem range_more {f : Nat → Bool} {n : Nat} (hf : ∀ p, n ≤ p → f p = false) : ∀ m, n ≤ m → (List.range m).filter f = (List.range n).filter f := by
 intro m hm
 obtain ⟨d, rfl⟩ : ∃ d, m = n + d := ⟨m - n, by omega⟩
 induction d with
 | zero => rfl
 | succ d ih =>
  rw [← Nat.add_assoc, List.range_succ, List.filter_append, ih (by omega)]
  simp [hf (n + d) (by omega)]
theorem gone_pos {l : List PCell} (h : l.length ≤ 20000) : cGone l = gath (posOf true l 0) := by
 unfold cGone
 rw [gath_made, range_more (fun p hp => goneB_out hp) 20000 h, pos_gone l l.length (Nat.le_refl _), List.take_length]
theorem yl_vals {few : Nat} {q : List Nat} (h : ∀ p ∈ q, p < 1000000) (n : Nat) : gP ((yl few q).take n) = gath ((q.drop few).take n) := by
 unfold gP yl
 rw [← List.map_take, List.map_map]
 congr 1
 have : ∀ p ∈ (q.drop few).take n, ((fun x : Fin 1000000 => x.val) ∘ toP) p = p := fun p hp => toP_val (h p (List.mem_of_mem_drop (List.mem_of_mem_take hp)))
 rw [List.map_congr_left this, List.map_id']
end Go.Proofs.YtmedickofiielaaGreatDoor

namespace Go.Proofs.YtmedickofiielaaGreatDoor
open Go.RowKit Go.Shelf
attribute [local go_sem] Oper.semAt_some

set_option maxHeartbeats 1000000 in
theorem places_any (p : Option Addr) (g : Bool) (few : Int) (w : World) :
  Calls Tryz.prog 32 #[.pointer p, .bool g, .int .i64 few] w fun e w' => e = .returned (.func (.func 59) #[] #[.pointer (some ⟨w.heap.size + 2, 0, none⟩), .pointer (some ⟨w.heap.size, 0, none⟩), .pointer (some ⟨w.heap.size + 1, 0, none⟩)]) ∧
   w' = ((w.alloc (.cells #[.pointer p] 27)).alloc (.cells #[.bool g] 4)).alloc (.cells #[.int .i64 few] 3) := by
 go_enter Tryz.func32, Tryz.ntmps32
 go_wp2
 go_ret
 exact ⟨rfl, rfl⟩
theorem gap_results (W : World) (tm : Array Value) (P E : Nat) (a b : Int) (h4 : tm.getD 4 undef = .pointer (some ⟨P, 0, none⟩)) (h5 : tm.getD 5 undef = .pointer (some ⟨E, 0, none⟩)) (e0 : W.cell? ⟨P, 0, none⟩ = some (.int .i64 a)) (e1 : W.cell? ⟨E, 0, none⟩ = some (.int .i64 b)) :
  (results Tryz.f27 tm).run Tryz.prog W = .ok (.tuple #[.int .i64 a, .int .i64 b]) W := by
 have h4' : tm[4]?.getD undef = .pointer (some ⟨P, 0, none⟩) := by simpa using h4
 have h5' : tm[5]?.getD undef = .pointer (some ⟨E, 0, none⟩) := by simpa using h5
 simp [results, Tryz.f27, go_sem, h4', h5', e0, e1]
set_option maxRecDepth 100000 in
set_option maxHeartbeats 8000000 in
theorem dgap_no (B : Nat) (bv nm : Value) (bs : List PB) (i : Int) (w : World) (hR : DocR w B bv nm bs) (hi : i < 0 ∨ (liveN (catB bs) : Int) < i) :
  Calls Tryz.prog 27 #[.pointer (some ⟨B, 0, none⟩), .int .i64 i] w fun e W' => e = .returned (.tuple #[.int .i64 0, .int .i64 3]) ∧ Below w.heap.size w W' := by
 have A0 := row_al (heap_new w (.cells #[.int .i64 0] 3)) (.cells #[.int .i64 0] 31)
 have A1 := heap_new1 w (.cells #[.int .i64 0] 3) (.cells #[.int .i64 0] 31)
 have AB : Below w.heap.size w ((w.alloc (.cells #[.int .i64 0] 3)).alloc (.cells #[.int .i64 0] 31)) := ((Below.refl _ w).alloc (Nat.le_refl _) _).alloc (by simp) _
 have hL := fun W (hb : Below w.heap.size w W) => dlive_any (some ⟨B, 0, none⟩) (liveN (catB bs)) (goneN (catB bs)) W (whole_any B bv nm bs W (hR.below hb))
 have HL := Lib.hid hL
 clear hL hR
 have HA := Lib.hid (And.intro A0 (And.intro A1 AB))
 have z0 := box_cell A0 0
 have z1 := box_cell A1 0
 have f0 := box_frozen A0 0
 have f1 := box_frozen A1 0
 clear A0 A1 AB
 by_cases hn : i < 0
 ·clear hi
  go_enter Tryz.func27, Tryz.ntmps27
  go_wp2
  have r0 := row_al (heap_new w (.cells #[.int .i64 0] 3)) (.cells #[.int .i64 3] 31)
  have r1 := heap_new1 w (.cells #[.int .i64 0] 3) (.cells #[.int .i64 3] 31)
  exact bodyPost_ret (gap_results _ _ w.heap.size (w.heap.size + 1) 0 3 rfl rfl (box_cell r0 0) (box_cell r1 0)) rfl ⟨rfl, ((Below.refl _ w).alloc (Nat.le_refl _) _).alloc (by simp) _⟩
 ·have hg : (liveN (catB bs) : Int) < i := by omega
  clear hi
  go_enter Tryz.func27, Tryz.ntmps27
  go_wp2_with fail
  refine (HL.out _ HA.out.2.2).mono ?_
  rintro e w1 ⟨rfl, hb1⟩
  obtain ⟨q0, q1, qb⟩ := HA.out
  have s0 := row_up q0 hb1
  have s1 := row_up q1 hb1
  have sB := qb.trans (hb1.mono qb.size)
  have y0 := box_cell s0 0
  have y1 := box_cell s1 0
  have g0 := box_frozen s0 0
  have g1 := box_frozen s1 0
  have HS := Lib.hid (And.intro s0 (And.intro s1 sB))
  clear q0 q1 qb s0 s1 sB hb1 z0 z1 f0 f1
  go_wp2
  obtain ⟨q0, q1, qb⟩ := HS.out
  have r0 := (box_other (B := w.heap.size + 1) (by omega) 0 (.int .i64 3)).trans (box_set q0 0 (.int .i64 0))
  have r1 := box_set ((box_other (B := w.heap.size) (by omega) 0 (.int .i64 0)).trans q1) 0 (.int .i64 3)
  exact bodyPost_ret (gap_results _ _ w.heap.size (w.heap.size + 1) 0 3 rfl rfl (box_cell r0 0) (box_cell r1 0)) rfl ⟨rfl, (qb.setCell (p := ⟨w.heap.size, 0, none⟩) (Nat.le_refl _) _).setCell (p := ⟨w.heap.size + 1, 0, none⟩) (by show w.heap.size ≤ w.heap.size + 1; omega) _⟩
set_option maxRecDepth 100000 in
set_option maxHeartbeats 8000000 in
theorem dgap_yes (B : Nat) (bv nm : Value) (bs : List PB) (i : Nat) (w : World) (hR : DocR w B bv nm bs) (hi : i ≤ liveN (catB bs)) :
  Calls Tryz.prog 27 #[.pointer (some ⟨B, 0, none⟩), .int .i64 (i : Int)] w fun e W' => e = .returned (.tuple #[.int .i64 (cGap (catB bs) i), .int .i64 0]) ∧ Below w.heap.size w W' := by
 have hall := liveN_gone (catB bs)
 have hroom := hR.room
 have HR := Lib.hid hR
 have A0 := row_al (heap_new w (.cells #[.int .i64 0] 3)) (.cells #[.int .i64 0] 31)
 have A1 := heap_new1 w (.cells #[.int .i64 0] 3) (.cells #[.int .i64 0] 31)
 have AB : Below w.heap.size w ((w.alloc (.cells #[.int .i64 0] 3)).alloc (.cells #[.int .i64 0] 31)) := ((Below.refl _ w).alloc (Nat.le_refl _) _).alloc (by simp) _
 have AS : ((w.alloc (.cells #[.int .i64 0] 3)).alloc (.cells #[.int .i64 0] 31)).heap.size = w.heap.size + 1 + 1 := by simp
 have hL := fun W (hb : Below w.heap.size w W) => dlive_any (some ⟨B, 0, none⟩) (liveN (catB bs)) (goneN (catB bs)) W (whole_any B bv nm bs W (hR.below hb))
 have hZ := fun W (hb : Below w.heap.size w W) => dsize_any (some ⟨B, 0, none⟩) (liveN (catB bs)) (goneN (catB bs)) W (by omega) (whole_any B bv nm bs W (hR.below hb))
 rw [hall] at hZ
 have HL := Lib.hid hL
 have HZ := Lib.hid hZ
 have hpl := fun W => places_any (some ⟨B, 0, none⟩) false (i : Int) W
 have HA := Lib.hid (And.intro A0 (And.intro A1 (And.intro AB AS)))
 have HG := Lib.hid (gap_pos (catB bs) i)
 have hi' : ¬ (i : Int) < 0 := by omega
 have hi2 : ¬ ((liveN (catB bs) : Nat) : Int) < (i : Int) := by omega
 clear hL hR hZ A0 A1 AB AS
 refine (callsIn_wide (n := 5)).1 ?_
 refine callsIn_of_wp_marks Tryz.func27 rfl trivial ?_ rfl
 simp only [Tryz.ntmps27, List.size_toArray, List.length_cons, List.length_nil, Nat.reduceAdd, Nat.reduceSub, Array.replicate_succ, Array.replicate_zero, List.push_toArray, List.append_toArray, List.nil_append, List.cons_append]
 gi_wp2_with (refine ⟨trivial, ?_⟩; first
  | (gi_at_call 10; refine (callsIn_wide.2 (HL.out _ HA.out.2.2.1)).mono ?_; rintro e w1 ⟨rfl, hb1⟩)
  | (gi_at_call 32; refine (callsIn_wide.2 (hpl _)).mono ?_; rintro e _ ⟨rfl, rfl⟩))
 rename World => w1
 obtain ⟨q0, q1, qb, qs⟩ := HA.out
 have hz1 := hb1.size
 rw [qs] at hz1
 have A0 := row_al (row_al (row_al (row_up q0 hb1) (.cells #[.pointer (some ⟨B, 0, none⟩)] 27)) (.cells #[.bool false] 4)) (.cells #[.int .i64 (i : Int)] 3)
 have A1 := row_al (row_al (row_al (row_up q1 hb1) (.cells #[.pointer (some ⟨B, 0, none⟩)] 27)) (.cells #[.bool false] 4)) (.cells #[.int .i64 (i : Int)] 3)
 have Ad := row_al (row_al (heap_new w1 (.cells #[.pointer (some ⟨B, 0, none⟩)] 27)) (.cells #[.bool false] 4)) (.cells #[.int .i64 (i : Int)] 3)
 have Ag := row_al (heap_new1 w1 (.cells #[.pointer (some ⟨B, 0, none⟩)] 27) (.cells #[.bool false] 4)) (.cells #[.int .i64 (i : Int)] 3)
 have Af := heap_new2 w1 (.cells #[.pointer (some ⟨B, 0, none⟩)] 27) (.cells #[.bool false] 4) (.cells #[.int .i64 (i : Int)] 3)
 have hb2 : Below w1.heap.size w1 (((w1.alloc (.cells #[.pointer (some ⟨B, 0, none⟩)] 27)).alloc (.cells #[.bool false] 4)).alloc (.cells #[.int .i64 (i : Int)] 3)) := (((Below.refl _ w1).alloc (Nat.le_refl _) _).alloc (by simp) _).alloc (by simp; omega) _
 have AB : Below w.heap.size w (((w1.alloc (.cells #[.pointer (some ⟨B, 0, none⟩)] 27)).alloc (.cells #[.bool false] 4)).alloc (.cells #[.int .i64 (i : Int)] 3)) := (qb.trans (hb1.mono qb.size)).trans (hb2.mono (by omega))
 have AS : (((w1.alloc (.cells #[.pointer (some ⟨B, 0, none⟩)] 27)).alloc (.cells #[.bool false] 4)).alloc (.cells #[.int .i64 (i : Int)] 3)).heap.size = w1.heap.size + 1 + 1 + 1 := by simp
 generalize ((w1.alloc (.cells #[.pointer (some ⟨B, 0, none⟩)] 27)).alloc (.cells #[.bool false] 4)).alloc (.cells #[.int .i64 (i : Int)] 3) = w3 at A0 A1 Ad Ag Af AB AS ⊢
 clear q0 q1 qb qs hb1 hb2
 have hst := places_stops (w1.heap.size + 2) w1.heap.size (w1.heap.size + 1) w.heap.size w1.heap.size B bv nm bs false i (by omega) w rfl HR.out w3 AB (by omega) Af Ad Ag (.inr (by omega)) (.inr (Nat.le_refl _)) (.inr (by omega))
 refine wpIn_rangeFunc_ownO RowT rfl (by decide) (gf := 59) (lb := #[.pointer (some ⟨w1.heap.size + 2, 0, none⟩), .pointer (some ⟨w1.heap.size, 0, none⟩), .pointer (some ⟨w1.heap.size + 1, 0, none⟩)]) rfl trivial (enters_of Tryz.func59 (by kernel_rfl) rfl)
  hst (fun h k => kf_t h k) (fun X l o o' h1 _ h3 h4 h5 => kf_b (w := w3) (by omega) X l o o' h1 h3 h4 h5) (fun _ => rfl)
  (fun pre X => (pre = [] ∧ X.heap[w.heap.size]? = some (.cells #[.int .i64 0] 3 (0, 0)) ∧ X.heap[w.heap.size + 1]? = some (.cells #[.int .i64 0] 31 (0, 0))) ∧ Below w.heap.size w X)
  (fun c pre X => (c = .ret ∧ ∃ p, pre = [p] ∧ X.heap[w.heap.size]? = some (.cells #[.int .i64 (p.val : Int)] 3 (0, 0)) ∧ X.heap[w.heap.size + 1]? = some (.cells #[.int .i64 0] 31 (0, 0))) ∧ Below w.heap.size w X)
  (OwnFrom.and (Own.from (fun s A B row hs hg hr => ⟨hs.1, row_turn hs.2.1 hg hr, row_turn hs.2.2 hg hr⟩) _) (ownFrom_below (Nat.le_refl _) (by omega)))
  (fun c => OwnFrom.and (Own.from (fun s A B row hs hg hr => ⟨hs.1, by obtain ⟨p, h0, h1, h2⟩ := hs.2; exact ⟨p, h0, row_turn h1 hg hr, row_turn h2 hg hr⟩⟩) _) (ownFrom_below (Nat.le_refl _) (by omega)))
  (fun s A B row hs hg hr => ⟨⟨hs.1.1, far_kept hg hr (by omega) hs.1.2.1, far_kept hg hr (by omega) hs.1.2.2⟩, hs.2.grown hg (by have := hs.2.size; omega) (fun r e => by have := (hr r e).1; omega)⟩)
  (fun c s A B row hs hg hr => ⟨⟨hs.1.1, by obtain ⟨p, h0, h1, h2⟩ := hs.1.2; exact ⟨p, h0, far_kept hg hr (by omega) h1, far_kept hg hr (by omega) h2⟩⟩, hs.2.grown hg (by have := hs.2.size; omega) (fun r e => by have := (hr r e).1; omega)⟩)
  ⟨⟨rfl, A0, A1⟩, AB⟩
  (fun x => { tmps := #[.pointer (some ⟨B, 0, none⟩), .int .i64 (i : Int), undef, undef, .pointer (some ⟨w.heap.size, 0, none⟩), .pointer (some ⟨w.heap.size + 1, 0, none⟩), .int .i64 (x.val : Int), .pointer (some ⟨B, 0, none⟩), .bool false, .int .i64 (i : Int), .bool false, .bool false, .int .i64 (i : Int), .pointer (some ⟨B, 0, none⟩), .int .i64 (liveN (catB bs) : Nat), .bool false, .bool false, .pointer (some ⟨B, 0, none⟩), .int .i64 (i : Int), .func (.func 59) #[] #[.pointer (some ⟨w1.heap.size + 2, 0, none⟩), .pointer (some ⟨w1.heap.size, 0, none⟩), .pointer (some ⟨w1.heap.size + 1, 0, none⟩)], .int .i64 (x.val : Int), undef, undef, undef], defers := [] }) ?assign ?body ?done ?stop
 case assign =>
  intro l x W K hK
  gi_wp2
  exact hK
 case body =>
  rintro l pre x X ⟨⟨rfl, c0, c1⟩, hB⟩ _
  have z0 := box_cell c0 0
  have z1 := box_cell c1 0
  have f0 := box_frozen c0 0
  have f1 := box_frozen c1 0
  have HC := Lib.hid (And.intro c0 (And.intro c1 hB))
  clear c0 c1 hB
  gi_wp2
  obtain ⟨c0, c1, hB⟩ := HC.out
  have r0 := (box_other (k := w.heap.size) (B := w.heap.size + 1) (by omega) 0 (.int .i64 0)).trans (box_set c0 0 (.int .i64 (x.val : Int)))
  have r1 := box_set ((box_other (k := w.heap.size + 1) (B := w.heap.size) (by omega) 0 (.int .i64 (x.val : Int))).trans c1) 0 (.int .i64 0)
  exact ⟨(KeepsOthers.setCell _ _ _).trans (KeepsOthers.setCell _ _ _), ⟨rfl, x, rfl, r0, r1⟩, (hB.setCell (p := ⟨w.heap.size, 0, none⟩) (Nat.le_refl _) _).setCell (p := ⟨w.heap.size + 1, 0, none⟩) (by show w.heap.size ≤ w.heap.size + 1; omega) _⟩
 case done =>
  rintro D xs Z hD hys ⟨⟨rfl, c0, c1⟩, hB⟩ hK
  have hno : (posOf false (catB bs) 0)[i]? = none := by
   unfold yl at hys
   have h2 := congrArg List.length hys
   rw [List.length_map, List.length_drop] at h2
   simp at h2
   exact List.getElem?_eq_none (by omega)
  have hgp := HG.out
  rw [hno] at hgp
  have hpl2 := pos_live (catB bs) (catB bs).length
  rw [List.take_length] at hpl2
  have hlen : liveN (catB bs) ≤ i := by
   have := List.getElem?_eq_none_iff.1 hno
   rw [posOf_length] at this
   simpa using this
  have hcl : cLive (catB bs) = liveN (catB bs) := by unfold cLive cSeen liveN; rw [List.take_length]
  dsimp only at hgp
  rw [if_pos (by rw [hcl]; omega)] at hgp
  have HGP := Lib.hid hgp
  have hZ2 := HZ.out Z hB
  have HZ2 := Lib.hid hZ2
  have HC := Lib.hid (And.intro c0 (And.intro c1 hB))
  clear hgp hno hys hpl2 hlen hcl hZ2 c0 c1 hB
  gi_wp2_with (refine ⟨trivial, ?_⟩; gi_at_call 15; refine (callsIn_wide.2 HZ2.out).mono ?_; rintro e w5 ⟨rfl, hb5⟩; have s0 := row_up HC.out.1 hb5; have s1 := row_up HC.out.2.1 hb5; have z0 := box_cell s0 0; have z1 := box_cell s1 0; have f0 := box_frozen s0 0; have f1 := box_frozen s1 0)
  obtain ⟨c0, c1, hB⟩ := HC.out
  have s0 := row_up c0 hb5
  have s1 := row_up c1 hb5
  have r0 := (box_other (B := w.heap.size + 1) (by omega) 0 (.int .i64 0)).trans (box_set s0 0 (.int .i64 ((catB bs).length : Nat)))
  have r1 := box_set ((box_other (B := w.heap.size) (by omega) 0 (.int .i64 ((catB bs).length : Nat))).trans s1) 0 (.int .i64 0)
  have rB := ((hB.trans (hb5.mono hB.size)).setCell (p := ⟨w.heap.size, 0, none⟩) (Nat.le_refl _) (.int .i64 ((catB bs).length : Nat))).setCell (p := ⟨w.heap.size + 1, 0, none⟩) (by show w.heap.size ≤ w.heap.size + 1; omega) (.int .i64 0)
  have hK2 := ((KeepsOthers.setCell w5 ⟨w.heap.size, 0, none⟩ (.int .i64 ((catB bs).length : Nat))).trans (KeepsOthers.setCell _ ⟨w.heap.size + 1, 0, none⟩ (.int .i64 0))).same D _ (row_up hK hb5) rfl
  generalize (w5.setCell ⟨w.heap.size, 0, none⟩ (.int .i64 ((catB bs).length : Nat))).setCell ⟨w.heap.size + 1, 0, none⟩ (.int .i64 0) = W7 at r0 r1 rB hK2 ⊢
  refine ⟨by simp, .inl ⟨_, _, rfl, run_takeDeferred hK2, ?_⟩⟩
  have t0 : (W7.putObj D (.deferred none)).heap[w.heap.size]? = _ := (World.putObj_heap_other (by omega)).trans r0
  have t1 : (W7.putObj D (.deferred none)).heap[w.heap.size + 1]? = _ := (World.putObj_heap_other (by omega)).trans r1
  exact ⟨_, gap_results _ _ w.heap.size (w.heap.size + 1) _ 0 rfl rfl (box_cell t0 0) (box_cell t1 0), by rw [HGP.out], rB.trans (belowK_b (w := w) (Nat.le_refl _) W7 D _ _ (by omega) hK2 rfl rfl)⟩
 case stop =>
  rintro D c pre Z hD hpre ⟨⟨rfl, p, rfl, c0, c1⟩, hB⟩ hK
  have hsm : (posOf false (catB bs) 0)[i]? = some p.val := by
   obtain ⟨t, ht⟩ := hpre
   unfold yl at ht
   have h0 := congrArg (fun l => l[0]?) ht
   simp only [List.singleton_append, List.getElem?_cons_zero, List.getElem?_map, List.getElem?_drop, Nat.add_zero] at h0
   cases hq : (posOf false (catB bs) 0)[i]? with
   | none => rw [hq] at h0; cases h0
   | some z =>
    rw [hq] at h0
    have hz := posOf_lt false (catB bs) 0 z (List.mem_of_getElem? hq)
    simp at h0
    rw [h0, toP_val (by omega)]
  have hgp := HG.out
  rw [hsm] at hgp
  dsimp only at hgp
  have HGP := Lib.hid hgp
  have HC := Lib.hid (And.intro c0 (And.intro c1 hB))
  clear hgp hsm hpre c0 c1 hB
  gi_wp2
  obtain ⟨r0, r1, rB⟩ := HC.out
  refine ⟨by simp, .inl ⟨_, _, rfl, run_takeDeferred hK, ?_⟩⟩
  have t0 : (Z.putObj D (.deferred none)).heap[w.heap.size]? = _ := (World.putObj_heap_other (by omega)).trans r0
  have t1 : (Z.putObj D (.deferred none)).heap[w.heap.size + 1]? = _ := (World.putObj_heap_other (by omega)).trans r1
  exact ⟨_, gap_results _ _ w.heap.size (w.heap.size + 1) _ 0 rfl rfl (box_cell t0 0) (box_cell t1 0), by rw [HGP.out], rB.trans (belowK_b (w := w) (Nat.le_refl _) Z D _ _ (by omega) hK rfl rfl)⟩
end Go.Proofs.YtmedickofiielaaGreatDoor

namespace Go.Proofs.YtmedickofiielaaGreatDoor
open Go.RowKit Go.Shelf

theorem gather_doc (B : Nat) (bv nm : Value) (bs : List PB) (g : Bool) (few n : Nat) (hf : few ≤ 1000000) (hn : n ≤ 1000000) (w : World) (hR : DocR w B bv nm bs) (Bf Bd Bg : Nat)
  (hBf : w.heap[Bf]? = some (.cells #[.int .i64 (few : Int)] 3 (0, 0))) (hBd : w.heap[Bd]? = some (.cells #[.pointer (some ⟨B, 0, none⟩)] 27 (0, 0))) (hBg : w.heap[Bg]? = some (.cells #[.bool g] 4 (0, 0))) :
  Calls Tryz.prog 31 #[.func (.func 59) #[] #[.pointer (some ⟨Bf, 0, none⟩), .pointer (some ⟨Bd, 0, none⟩), .pointer (some ⟨Bg, 0, none⟩)], .int .i64 (n : Int)] w fun e W' =>
   ∃ v, e = .returned v ∧ W'.ownsRow w.heap.size 120 2 v (gath (((posOf g (catB bs) 0).drop few).take n)).length (spCells (gath (((posOf g (catB bs) 0).drop few).take n))) ∧ Below w.heap.size w W' := by
 have h := gathered_any 59 #[.pointer (some ⟨Bf, 0, none⟩), .pointer (some ⟨Bd, 0, none⟩), .pointer (some ⟨Bg, 0, none⟩)] (enters_of Tryz.func59 (by kernel_rfl) rfl) n hn (yl few (posOf g (catB bs) 0)) w
  (fun w2 hb hs => places_stops Bf Bd Bg w.heap.size (w.heap.size + 1 + 1) B bv nm bs g few hf w rfl hR w2 hb (by omega) (row_up hBf hb) (row_up hBd hb) (row_up hBg hb) (.inl (box_lt hBf)) (.inl (box_lt hBd)) (.inl (box_lt hBg)))
 have hroom := hR.room
 rw [yl_vals (fun p hp => by have := posOf_lt g (catB bs) 0 p hp; omega)] at h
 exact h
theorem cnt_field1 (a b : Int) (w : World) : (Instr.field 70 (.agg #[.int .i64 a, .int .i64 b]) 1).run Tryz.prog w = .ok (.int .i64 b) w := by kernel_rfl

set_option maxRecDepth 100000 in
set_option maxHeartbeats 4000000 in
theorem dgone_any (B : Nat) (bv nm : Value) (bs : List PB) (w : World) (hR : DocR w B bv nm bs) (hl : (catB bs).length ≤ 20000) :
  Calls Tryz.prog 12 #[.pointer (some ⟨B, 0, none⟩)] w fun e W' => ∃ v, e = .returned v ∧ W'.ownsRow w.heap.size 120 2 v (cGone (catB bs)).length (spCells (cGone (catB bs))) ∧ Below w.heap.size w W' := by
 have hall := liveN_gone (catB bs)
 have hpl := fun W => places_any (some ⟨B, 0, none⟩) true 0 W
 have hwh := fun W (hb : Below w.heap.size w W) => whole_any B bv nm bs W (hR.below hb)
 have hg := fun W Bf Bd Bg (hb : Below w.heap.size w W) h1 h2 h3 => gather_doc B bv nm bs true 0 (goneN (catB bs)) (by omega) (by omega) W (hR.below hb) Bf Bd Bg h1 h2 h3
 have e : gath (((posOf true (catB bs) 0).drop 0).take (goneN (catB bs))) = cGone (catB bs) := by
  rw [gone_pos hl, List.drop_zero, List.take_of_length_le (by rw [posOf_length]; exact Nat.le_refl _)]
 rw [e] at hg
 have B0 := heap_new w (.cells #[.pointer (some ⟨B, 0, none⟩)] 27)
 have A0 := row_al (row_al B0 (.cells #[.bool true] 4)) (.cells #[.int .i64 0] 3)
 have A1 := row_al (heap_new1 w (.cells #[.pointer (some ⟨B, 0, none⟩)] 27) (.cells #[.bool true] 4)) (.cells #[.int .i64 0] 3)
 have A2 := heap_new2 w (.cells #[.pointer (some ⟨B, 0, none⟩)] 27) (.cells #[.bool true] 4) (.cells #[.int .i64 0] 3)
 have AB : Below w.heap.size w (((w.alloc (.cells #[.pointer (some ⟨B, 0, none⟩)] 27)).alloc (.cells #[.bool true] 4)).alloc (.cells #[.int .i64 0] 3)) := (((Below.refl _ w).alloc (Nat.le_refl _) _).alloc (by simp) _).alloc (by simp; omega) _
 have HG := Lib.hid hg
 have HW := Lib.hid hwh
 have HA := Lib.hid (And.intro A0 (And.intro A1 (And.intro A2 AB)))
 have hfd := cnt_field1
 clear hg hwh hR A0 A1 A2 AB B0 e
 go_enter Tryz.func12, Tryz.ntmps12
 go_wp2_with fail
 refine (hpl _).mono ?_
 rintro e _ ⟨rfl, rfl⟩
 go_wp2_with fail
 refine (HW.out _ HA.out.2.2.2).mono ?_
 rintro e w1 ⟨rfl, hb1⟩
 obtain ⟨a0, a1, a2, aB⟩ := HA.out
 have HC := Lib.hid (aB.trans (hb1.mono aB.size))
 have HGA := Lib.hid (HG.out w1 _ _ _ HC.out (row_up a2 hb1) (row_up a0 hb1) (row_up a1 hb1))
 clear a0 a1 a2 aB hb1 HG HA HW hpl
 go_wp2_with fail
 refine HGA.out.mono ?_
 rintro e w2 ⟨v, rfl, ho, hb2⟩
 have HO := Lib.hid (And.intro (own_lower ho HC.out.size) (HC.out.trans (hb2.mono HC.out.size)))
 obtain ⟨ao', n', cap', rfl⟩ := slice_of ho
 clear ho hb2 HGA
 go_wp2
 go_ret
 exact ⟨_, rfl, HO.out.1, HO.out.2⟩
end Go.Proofs.YtmedickofiielaaGreatDoor

namespace Go.Proofs.YtmedickofiielaaGreatDoor
open Go.RowKit Go.Shelf
attribute [local go_sem] Oper.semAt_some

structure Blocks (W : World) (n₀ : Nat) (v : Value) (bs : List PB) : Prop where
 row : W.ownsRow n₀ 109 3 v bs.length (kCells bs)
 own : ∀ x ∈ bs, W.ownsRow n₀ 48 5 x.v x.cs.length (cCells x.cs)
 apart : bs.Pairwise fun x y => ∀ g, x.v.ownBlock = some g → y.v.ownBlock = some g → False
theorem Blocks.nil (W : World) (n₀ : Nat) : Blocks W n₀ (.slice none 0 0) [] := ⟨World.ownsRow_nil _ _ _ _, (fun _ h => by cases h), List.Pairwise.nil⟩
theorem Blocks.up {W W' : World} {n₀ : Nat} {v : Value} {bs : List PB} (h : Blocks W n₀ v bs) (hb : Below W.heap.size W W') : Blocks W' n₀ v bs := ⟨own_up h.row hb, fun x hx => own_up (h.own x hx) hb, h.apart⟩
theorem Blocks.turn {W W' : World} {row : Option Nat} {n₀ : Nat} {v : Value} {bs : List PB} (h : Blocks W n₀ v bs) (hg : W.grownBy W' row) (hr : ∀ r, row = some r → ∃ o : Obj, W.heap[r]? = some o ∧ o.isCells = false) : Blocks W' n₀ v bs :=
 ⟨own_turn h.row hg hr, fun x hx => own_turn (h.own x hx) hg hr, h.apart⟩
theorem infoBlkI : ∃ i, Tryz.prog.info? 109 = some i ∧ i.zero = some (.agg #[.int .i64 0, .int .i64 0, .slice none 0 0]) ∧ i.size = 3 ∧ i.bytes = 40 := by
 have h : (Tryz.prog.info? 109).map (fun i => (i.zero, i.size, i.bytes)) = some (some (.agg #[.int .i64 0, .int .i64 0, .slice none 0 0]), 3, 40) := by kernel_rfl
 cases hi : Tryz.prog.info? 109 with
 | none => rw [hi] at h; cases h
 | some i =>
  rw [hi] at h
  simp at h
  exact ⟨i, rfl, h.1, h.2.1, h.2.2⟩
theorem append_block (base : Nat) (v : Value) (bs : List PB) (x : PB) (u : Value) (w : World) (N : Nat) (hbn : bs.length = N) (hown : w.ownsRow base 109 3 v bs.length (kCells bs)) (hr : RowR 3 w u 1 (kV x)) (hx : x.v.oneCell' = true) (hl : N ≤ 1000000) (hb : base ≤ w.heap.size) (ty : TypeId) :
  ∃ v' w', (Builtin.append_ #[87, 87] ty #[v, u]).run Tryz.prog w = .ok v' w' ∧ w'.ownsRow base 109 3 v' (bs ++ [x]).length (kCells (bs ++ [x])) ∧ w.grownBy w' v.ownBlock := by
 obtain ⟨i, hi, hz, hs, hy⟩ := infoBlkI
 rw [hbn] at hown
 rw [List.length_append, List.length_singleton, kCells_append, hbn]
 have : kCells [x] = kV x := by show kV x ++ [] = _; rw [List.append_nil]
 rw [this]
 exact run_app_any base _ ty _ i _ 3 40 Tryz.underlying87 hi hz hs hy rfl (by decide) v _ _ hown u _ _ hr (fun u hu => by
  unfold kV at hu
  rcases List.mem_cons.1 hu with h | hu
  ·rw [h]; rfl
  ·rcases List.mem_cons.1 hu with h | hu
   ·rw [h]; rfl
   ·rw [List.mem_singleton.1 hu]; exact hx) (by unfold maxLen; omega) (by omega) hb
theorem clone_cells (b off n c : Nat) (l : List PCell) (w : World) (h : CAt w (.slice (some ⟨b, off, none⟩) n c) l) (hl : l.length ≤ 1000000) :
  Calls Tryz.prog 71 #[.slice (some ⟨b, off, none⟩) n c] w fun e w' => ∃ v', e = .returned v' ∧ w'.ownsRow w.heap.size 48 5 v' l.length (cCells l) ∧ Below w.heap.size w w' := by
 obtain ⟨i, hi, hz, hs, hy⟩ := infoCellI
 obtain ⟨hlen, ao', cap', e, h1, h2, h3, h4⟩ := h
 cases e
 obtain ⟨b', off', e, hlt, hc⟩ := h4 _ rfl
 cases e
 refine (AnyE.slices_Clone Tryz.cloneC i _ 5 32 hi hz hs hy rfl (by decide) Tryz.sizeOf48 b off l.length c (cCells l) w (cCells_length l) (by unfold maxLen; omega) (by omega) hc (cCells_ones l)).mono ?_
 rintro e w' ⟨v', rfl, ho, -, hb⟩
 exact ⟨v', rfl, ho, hb⟩
def chC (l : List PCell) (k : Nat) : List PCell := (l.drop (128 * k)).take 128
theorem chC_length (l : List PCell) (k : Nat) : (chC l k).length = chL l.length k := by unfold chC chL; rw [List.length_take, List.length_drop]
theorem chC_all (l : List PCell) : ((List.finRange (chN l.length)).map fun x => chC l x.val).flatten = l := by
 have h : ∀ k, k ≤ chN l.length → ((frK (chN l.length) k).map fun x => chC l x.val).flatten = l.take (128 * k) := by
  intro k
  induction k with
  | zero => intro _; simp [frK]
  | succ k ih =>
   intro hk
   rw [frK_next _ k (by omega), List.map_append, List.flatten_append, ih (by omega)]
   simp only [List.map_cons, List.map_nil, List.flatten_cons, List.flatten_nil, List.append_nil, chC]
   rw [show 128 * (k + 1) = 128 * k + 128 by omega, List.take_add]
 rw [← frK_all, h _ (Nat.le_refl _), List.take_of_length_le (by unfold chN; omega)]
theorem catB_flat (bs : List PB) : catB bs = (bs.map (·.cs)).flatten := by unfold catB; rw [List.flatMap_def]
theorem CAt.part {W : World} {b off N cap : Nat} {l : List PCell} (h : CAt W (.slice (some ⟨b, off, none⟩) N cap) l) (hN : l.length = N) (k : Nat) (hk : 128 * k < N) :
  CAt W (.slice (some ⟨b, off + 128 * k * 5, none⟩) (chL N k) (chL N k)) (chC l k) := by
 subst hN
 obtain ⟨hl, ao', cap', e, h1, h2, h3, h4⟩ := h
 cases e
 obtain ⟨b', off', e, hlt, hc⟩ := h4 _ rfl
 cases e
 have hsp : l = l.take (128 * k) ++ (chC l k ++ (l.drop (128 * k)).drop 128) := by
  unfold chC
  rw [List.take_append_drop, List.take_append_drop]
 have hcl : chL l.length k ≤ l.length := by unfold chL; omega
 refine ⟨cCells_length _, _, chL l.length k, by rw [chC_length], by rw [chC_length]; exact Nat.le_refl _, by omega, (fun q => by cases q), fun ad ha => ?_⟩
 cases ha
 refine ⟨b, off + 128 * k * 5, rfl, hlt, fun j u hj => ?_⟩
 have hjl := (List.getElem?_eq_some_iff.1 hj).1
 have : (cCells l)[128 * k * 5 + j]? = some u := by
  rw [hsp, cCells_append, cCells_append, List.getElem?_append_right (by rw [cCells_length, List.length_take]; omega), cCells_length, List.length_take, Nat.min_eq_left (by omega), List.getElem?_append_left (by omega), show 128 * k * 5 + j - 128 * k * 5 = j by omega]
  exact hj
 rw [Nat.add_assoc]
 exact hc _ _ this
set_option maxRecDepth 100000 in
set_option maxHeartbeats 8000000 in
theorem laid_any (v : Value) (l : List PCell) (w : World) (h : CAt w v l) (hl : l.length ≤ 1000000) :
  Calls Tryz.prog 43 #[v] w fun e w' => ∃ v' bs, e = .returned v' ∧ Blocks w' w.heap.size v' bs ∧ catB bs = l ∧ bs.length ≤ 1000000 ∧ ((∀ x ∈ bs, x.cs ≠ []) ∧ bs.length = chN l.length) ∧ Below w.heap.size w w' := by
 have HR := Lib.hid h
 have hro := h.2
 obtain ⟨ao, cap, rfl, hcap, hcm, hnone, hsome⟩ := hro
 obtain ⟨N, hN⟩ : ∃ N, l.length = N := ⟨_, rfl⟩
 have HN := Lib.hid hN
 have hao : 0 < N → ∃ b off, ao = some ⟨b, off, none⟩ := fun hp => by
  cases ao with
  | none => have := hnone rfl; omega
  | some ad => obtain ⟨b, off, e, _⟩ := hsome ad rfl; exact ⟨b, off, by rw [e]⟩
 rw [hN] at hl hcap
 have hch := fun W => chunk_any ao N cap W
 have HS := Lib.hid (And.intro hao hcap)
 have A0 := row_al (row_al (heap_new w (.cells #[.slice none 0 0] 87)) (.cells #[.slice ao N cap] 22)) (.cells #[.int .i64 128] 3)
 have A1 := row_al (heap_new1 w (.cells #[.slice none 0 0] 87) (.cells #[.slice ao N cap] 22)) (.cells #[.int .i64 128] 3)
 have A2 := heap_new2 w (.cells #[.slice none 0 0] 87) (.cells #[.slice ao N cap] 22) (.cells #[.int .i64 128] 3)
 have AB : Below w.heap.size w (((w.alloc (.cells #[.slice none 0 0] 87)).alloc (.cells #[.slice ao N cap] 22)).alloc (.cells #[.int .i64 128] 3)) := (((Below.refl _ w).alloc (Nat.le_refl _) _).alloc (by simp) _).alloc (by simp; omega) _
 have AS : (((w.alloc (.cells #[.slice none 0 0] 87)).alloc (.cells #[.slice ao N cap] 22)).alloc (.cells #[.int .i64 128] 3)).heap.size = w.heap.size + 1 + 1 + 1 := by simp
 have HA := Lib.hid (And.intro A0 (And.intro A1 (And.intro A2 (And.intro AB AS))))
 clear h hN hao hcap hcm hnone hsome A0 A1 A2 AB AS
 rw [HN.out]
 refine (callsIn_wide (n := 4)).1 ?_
 refine callsIn_of_wp_marks Tryz.func43 rfl trivial ?_ rfl
 simp only [Tryz.ntmps43, List.size_toArray, List.length_cons, List.length_nil, Nat.reduceAdd, Nat.reduceSub, Array.replicate_succ, Array.replicate_zero, List.push_toArray, List.append_toArray, List.nil_append, List.cons_append]
 gi_wp2_with (refine ⟨trivial, ?_⟩; gi_at_call 69; refine (callsIn_wide.2 (hch _)).mono ?_; rintro e _ ⟨rfl, rfl⟩)
 obtain ⟨A0, A1, A2, AB, AS⟩ := HA.out
 generalize ((w.alloc (.cells #[.slice none 0 0] 87)).alloc (.cells #[.slice ao N cap] 22)).alloc (.cells #[.int .i64 128] 3) = w3 at A0 A1 A2 AB AS ⊢
 clear HA
 have hst := chunk_stops 3 (by decide) (w.heap.size + 1) (w.heap.size + 1 + 1) w.heap.size (w.heap.size + 1) ao N cap HS.out.1 hl HS.out.2 w3 A1 A2 (Nat.le_refl _) (by omega)
 refine wpIn_rangeFunc_ownF rfl (by decide) (gf := 91) (lb := #[.pointer (some ⟨w.heap.size + 1, 0, none⟩), .pointer (some ⟨w.heap.size + 1 + 1, 0, none⟩)]) rfl trivial (enters_of Tryz.func91 (by kernel_rfl) rfl)
  hst (fun h k => kf_t h k) (kf_b (by omega)) (Below.refl _ _) (fun _ => rfl)
  (fun pre X => (∃ v' bs, X.heap[w.heap.size]? = some (.cells #[v'] 87 (0, 0)) ∧ Blocks X w.heap.size v' bs ∧ bs.map (·.cs) = pre.map fun x => chC l x.val) ∧ Below w.heap.size w X)
  (fun c pre X => False ∧ Below w.heap.size w X)
  (OwnFrom.and (Own.from (fun s A B row hs hg hr => by obtain ⟨v', bs, h1, h2, h3⟩ := hs; exact ⟨v', bs, row_turn h1 hg hr, h2.turn hg hr, h3⟩) _) (ownFrom_below (Nat.le_refl _) (by omega)))
  (fun c => OwnFrom.and (Own.from (fun s A B row hs hg hr => hs.elim) _) (ownFrom_below (Nat.le_refl _) (by omega)))
  ⟨⟨_, [], A0, Blocks.nil _ _, rfl⟩, AB⟩
  (fun x => { tmps := #[.slice ao N cap, undef, .slice none 0 0, .pointer (some ⟨w.heap.size, 0, none⟩), .slice (ao.map fun a => a.add (128 * x.val * 5)) (chL N x.val) (chL N x.val), .slice ao N cap, .func (.func 91) #[] #[.pointer (some ⟨w.heap.size + 1, 0, none⟩), .pointer (some ⟨w.heap.size + 1 + 1, 0, none⟩)], .slice (ao.map fun a => a.add (128 * x.val * 5)) (chL N x.val) (chL N x.val), undef, undef, undef, undef, undef, undef, undef, undef, undef], defers := [] }) ?assign ?body ?done ?stop
 case assign =>
  intro l x W K hK
  gi_wp2
  exact hK
 case body =>
  rintro lp pre x W ⟨⟨vall, bs, c0, hBk, hbs⟩, hB⟩ hlen
  have hx := chN_lt.1 x.isLt
  obtain ⟨b, off, rfl⟩ := HS.out.1 (by omega)
  obtain ⟨ao', n', cap', rfl⟩ := slice_of hBk.row
  have hpart := CAt.part (by have := HR.out; rw [HN.out] at this; exact this) HN.out x.val hx
  have hcl : (chC l x.val).length = chL N x.val := by rw [chC_length, HN.out]
  have hE1 : 1 ≤ chL N x.val ∧ chL N x.val ≤ 128 := by unfold chL; omega
  have hbn : bs.length ≤ 1000000 := by
   have := congrArg List.length hbs
   rw [List.length_map, List.length_map] at this
   have h2 : chN N ≤ 7813 := by unfold chN; omega
   omega
  have HBN := Lib.hid hbn
  have HP := Lib.hid hpart
  have HCL := Lib.hid hcl
  have HBS := Lib.hid hbs
  have HC := Lib.hid (And.intro c0 (And.intro hBk hB))
  obtain ⟨E, hE⟩ : ∃ E, chL N x.val = E := ⟨_, rfl⟩
  rw [hE] at HP HCL hE1
  dsimp only [Option.map]
  simp only [Addr.add_lit]
  rw [hE]
  have HCN := Lib.hid (fun X (h : Below w.heap.size w X) => counted_any _ (chC l x.val) X (HP.out.below h) (by rw [HCL.out]; omega))
  have HCO := Lib.hid (fun X (h : Below w.heap.size w X) => clone_cells b (off + 128 * x.val * 5) E E (chC l x.val) X (HP.out.below h) (by rw [HCL.out]; omega))
  clear c0 hBk hbs hB hpart hcl hbn hE hx hlen
  gi_wp2
  refine region_bridge (ro := some lp) (S := fun X => (∃ z, X.heap[w.heap.size]? = some (.cells #[z] 87 (0, 0))) ∧ Below w.heap.size w X) (by kernel_rfl) (by kernel_rfl) (by rintro ⟨_, _, h⟩; exact h) ⟨⟨_, HC.out.1⟩, HC.out.2.2.drew⟩ (fun hHeld => ?_)
  refine tk0 (i := 1) rfl ?_
  try simp only [td]
  refine tk0 (i := 3) rfl ?_
  try simp only [td]
  refine wpAnyH_ready (rs := [0, 2]) (by kernel_rfl) (by simp) (AllReadyH.cons rfl (fun K hK => ?_) (AllReadyH.cons rfl (fun K hK => ?_) AllReadyH.nil))
  ·have zn := box_cell (w := W.drew) HC.out.1 0
   go_simp
   refine hK.out _ _ (hHeld) (fun hX => ?_)
   clear hK K hHeld
   have hHeld := hX
   clear hX
   refine rd 2 rfl fun K hK => ?_
   go_simp
   go_wp2_with (go_at_call 70; refine (HCN.out _ hHeld.2).mono ?_; rintro e wb ⟨rfl, hb⟩)
   have c0b := row_up (W := W.drew) HC.out.1 hb
   refine hK.out _ _ (⟨⟨_, c0b⟩, hHeld.2.trans (hb.mono hHeld.2.size)⟩) (fun hX => ?_)
   clear hK K hHeld
   have hHeld := hX
   clear hX
   refine rd 4 rfl fun K hK => ?_
   go_simp
   go_wp2_with (go_at_call 71; refine (HCO.out _ hHeld.2).mono ?_; rintro e wc ⟨vc, rfl, hoc, hbc⟩)
   have c0c := row_up c0b hbc
   obtain ⟨gv, capv, hvc, hgv, hgl⟩ := ownsRow_form hoc (by rw [HCL.out]; omega)
   subst hvc
   refine hK.out _ _ (⟨⟨_, c0c⟩, hHeld.2.trans (hbc.mono hHeld.2.size)⟩) (fun hX => ?_)
   clear hK K hHeld
   have hHeld := hX
   clear hX
   refine tk0 (i := 5) rfl ?_
   try simp only [td]
   refine rd 6 rfl fun K hK => ?_
   go_simp
   have c0d := row_al c0c (.cells #[.int .i64 (liveN (chC l x.val) : Nat), .int .i64 (goneN (chC l x.val) : Nat), .slice (some ⟨gv, 0, none⟩) (chC l x.val).length capv] 109)
   refine hK.out _ _ (⟨⟨_, c0d⟩, hHeld.2.alloc hHeld.2.size _⟩) (fun hX => ?_)
   clear hK K hHeld
   have hHeld := hX
   clear hX
   refine rd 7 rfl fun K hK => ?_
   have hDc : Below W.heap.size W wc := ((Below.refl W.heap.size W).drew.trans hb).trans (hbc.mono hb.size)
   have hBc := HC.out.2.1.up hDc
   have hnew := heap_new wc (.cells #[.int .i64 (liveN (chC l x.val) : Nat), .int .i64 (goneN (chC l x.val) : Nat), .slice (some ⟨gv, 0, none⟩) (chC l x.val).length capv] 109)
   obtain ⟨va, Wa, hra, hoa, hga⟩ := append_block w.heap.size _ bs ⟨chC l x.val, .slice (some ⟨gv, 0, none⟩) (chC l x.val).length capv⟩ (.slice (some ⟨wc.heap.size, 0, none⟩) 1 1) (wc.alloc (.cells #[.int .i64 (liveN (chC l x.val) : Nat), .int .i64 (goneN (chC l x.val) : Nat), .slice (some ⟨gv, 0, none⟩) (chC l x.val).length capv] 109)) bs.length rfl (hBc.row.alloc (.cells #[.int .i64 (liveN (chC l x.val) : Nat), .int .i64 (goneN (chC l x.val) : Nat), .slice (some ⟨gv, 0, none⟩) (chC l x.val).length capv] 109)) ⟨rfl, _, 1, rfl, fun _ => ⟨wc.heap.size, 0, rfl, fun j u hj => by rw [Nat.zero_add]; exact (box_cell hnew j).trans (by simpa [kV] using hj)⟩⟩ rfl HBN.out hHeld.2.size 87
   obtain ⟨va1, va2, va3, rfl⟩ := slice_of hoa
   have hBd := hBc.row.alloc (.cells #[.int .i64 (liveN (chC l x.val) : Nat), .int .i64 (goneN (chC l x.val) : Nat), .slice (some ⟨gv, 0, none⟩) (chC l x.val).length capv] 109)
   have cA := row_grown c0d hga hBd (by decide)
   rw [if_pos (by rfl)]
   refine wp_run_append rfl rfl rfl hra ?_
   refine hK.out _ _ (⟨⟨_, cA⟩, below_grown hHeld.2 hga hBd (Nat.le_refl _)⟩) (fun hX => ?_)
   clear hK K hHeld
   have hHeld := hX
   clear hX
   refine rd 8 rfl fun K hK => ?_
   have z0 := box_cell cA 0
   have zf := box_frozen cA 0
   go_simp
   refine hK.out _ _ (⟨⟨_, box_set cA 0 _⟩, hHeld.2.setCell (p := ⟨w.heap.size, 0, none⟩) (Nat.le_refl _) _⟩) (fun hX => ?_)
   clear hK K hHeld
   have hHeld := hX
   clear hX
   refine wpAnyH_done (by kernel_rfl) ?_ _
   gi_wp2
   have hTy := own_typed hBd
   refine ⟨?_, ?_, ⟨⟨_, bs ++ [⟨chC l x.val, .slice (some ⟨gv, 0, none⟩) (chC l x.val).length capv⟩], box_set cA 0 _, ⟨own_far hoa cA (by decide) 0 _, fun y hy => ?_, ?_⟩, ?_⟩, hHeld.2⟩⟩
   ·exact (KeepsOthers.drew W).trans ((others_below hb).trans ((others_below hbc).trans ((KeepsOthers.alloc wc _).trans ((KeepsOthers.of_grownBy hga (fun j o hj ho => by obtain ⟨_, cur', hc⟩ := hTy j hj; rw [hc] at ho; cases ho; rfl)).trans (KeepsOthers.setCell _ _ _)))))
   ·exact kf_t (KF.refl _ _ W).drew (kf_t (KF.below HC.out.2.2.drew.size hb) (kf_t (KF.below (Nat.le_trans HC.out.2.2.drew.size hb.size) hbc) (kf_t (KF.alloc (Nat.le_trans (Nat.le_trans HC.out.2.2.drew.size hb.size) hbc.size) _) (kf_t (KF.grown hga (Nat.le_trans (Nat.le_trans (Nat.le_trans HC.out.2.2.drew.size hb.size) hbc.size) (by simp)) (fun g e => by obtain ⟨q1, cur', hc⟩ := hTy g e; exact ⟨q1, .inr ⟨_, _, _, hc, .inr (.inr (.inr rfl))⟩⟩)) (KF.set (Nat.le_refl _) (by omega))))))
   ·refine own_far (own_turnT (T := fun t => t = 48) (W := wc.alloc (.cells #[.int .i64 (liveN (chC l x.val) : Nat), .int .i64 (goneN (chC l x.val) : Nat), .slice (some ⟨gv, 0, none⟩) (chC l x.val).length capv] 109)) ?_ hga (fun r e => by obtain ⟨_, cur', hc⟩ := hTy r e; exact ⟨_, hc, .inr ⟨_, _, _, rfl, by decide⟩⟩) rfl) cA (by decide) 0 _
    rcases List.mem_append.1 hy with h | h
    ·exact (hBc.own y h).alloc _
    ·rw [List.mem_singleton.1 h]
     exact (own_lower hoc (Nat.le_trans HC.out.2.2.drew.size hb.size)).alloc _
   ·rw [List.pairwise_append]
    refine ⟨HC.out.2.1.apart, List.pairwise_singleton _ _, fun y hy z hz g h1 h2 => ?_⟩
    rw [List.mem_singleton.1 hz] at h2
    obtain ⟨_, cur', hc⟩ := own_typed (HC.out.2.1.own y hy) g h1
    have q1 := box_lt hc
    obtain ⟨q2, _⟩ := own_typed hoc g h2
    have q3 : W.heap.size ≤ wb.heap.size := hb.size
    omega
   ·rw [List.map_append, List.map_append, HBS.out]
    rfl
  ·go_simp
   go_wp2_with (go_at_call 70; refine (HCN.out _ hHeld.2).mono ?_; rintro e wb ⟨rfl, hb⟩)
   have c0b := row_up (W := W.drew) HC.out.1 hb
   refine hK.out _ _ (⟨⟨_, c0b⟩, hHeld.2.trans (hb.mono hHeld.2.size)⟩) (fun hX => ?_)
   clear hK K hHeld
   have hHeld := hX
   clear hX
   refine wpAnyH_ready (rs := [0, 4]) (by kernel_rfl) (by simp) (AllReadyH.cons rfl (fun K hK => ?_) (AllReadyH.cons rfl (fun K hK => ?_) AllReadyH.nil))
   ·have zn := box_cell c0b 0
    go_simp
    refine hK.out _ _ (hHeld) (fun hX => ?_)
    clear hK K hHeld
    have hHeld := hX
    clear hX
    refine rd 4 rfl fun K hK => ?_
    go_simp
    go_wp2_with (go_at_call 71; refine (HCO.out _ hHeld.2).mono ?_; rintro e wc ⟨vc, rfl, hoc, hbc⟩)
    have c0c := row_up c0b hbc
    obtain ⟨gv, capv, hvc, hgv, hgl⟩ := ownsRow_form hoc (by rw [HCL.out]; omega)
    subst hvc
    refine hK.out _ _ (⟨⟨_, c0c⟩, hHeld.2.trans (hbc.mono hHeld.2.size)⟩) (fun hX => ?_)
    clear hK K hHeld
    have hHeld := hX
    clear hX
    refine tk0 (i := 5) rfl ?_
    try simp only [td]
    refine rd 6 rfl fun K hK => ?_
    go_simp
    have c0d := row_al c0c (.cells #[.int .i64 (liveN (chC l x.val) : Nat), .int .i64 (goneN (chC l x.val) : Nat), .slice (some ⟨gv, 0, none⟩) (chC l x.val).length capv] 109)
    refine hK.out _ _ (⟨⟨_, c0d⟩, hHeld.2.alloc hHeld.2.size _⟩) (fun hX => ?_)
    clear hK K hHeld
    have hHeld := hX
    clear hX
    refine rd 7 rfl fun K hK => ?_
    have hDc : Below W.heap.size W wc := ((Below.refl W.heap.size W).drew.trans hb).trans (hbc.mono hb.size)
    have hBc := HC.out.2.1.up hDc
    have hnew := heap_new wc (.cells #[.int .i64 (liveN (chC l x.val) : Nat), .int .i64 (goneN (chC l x.val) : Nat), .slice (some ⟨gv, 0, none⟩) (chC l x.val).length capv] 109)
    obtain ⟨va, Wa, hra, hoa, hga⟩ := append_block w.heap.size _ bs ⟨chC l x.val, .slice (some ⟨gv, 0, none⟩) (chC l x.val).length capv⟩ (.slice (some ⟨wc.heap.size, 0, none⟩) 1 1) (wc.alloc (.cells #[.int .i64 (liveN (chC l x.val) : Nat), .int .i64 (goneN (chC l x.val) : Nat), .slice (some ⟨gv, 0, none⟩) (chC l x.val).length capv] 109)) bs.length rfl (hBc.row.alloc (.cells #[.int .i64 (liveN (chC l x.val) : Nat), .int .i64 (goneN (chC l x.val) : Nat), .slice (some ⟨gv, 0, none⟩) (chC l x.val).length capv] 109)) ⟨rfl, _, 1, rfl, fun _ => ⟨wc.heap.size, 0, rfl, fun j u hj => by rw [Nat.zero_add]; exact (box_cell hnew j).trans (by simpa [kV] using hj)⟩⟩ rfl HBN.out hHeld.2.size 87
    obtain ⟨va1, va2, va3, rfl⟩ := slice_of hoa
    have hBd := hBc.row.alloc (.cells #[.int .i64 (liveN (chC l x.val) : Nat), .int .i64 (goneN (chC l x.val) : Nat), .slice (some ⟨gv, 0, none⟩) (chC l x.val).length capv] 109)
    have cA := row_grown c0d hga hBd (by decide)
    rw [if_pos (by rfl)]
    refine wp_run_append rfl rfl rfl hra ?_
    refine hK.out _ _ (⟨⟨_, cA⟩, below_grown hHeld.2 hga hBd (Nat.le_refl _)⟩) (fun hX => ?_)
    clear hK K hHeld
    have hHeld := hX
    clear hX
    refine rd 8 rfl fun K hK => ?_
    have z0 := box_cell cA 0
    have zf := box_frozen cA 0
    go_simp
    refine hK.out _ _ (⟨⟨_, box_set cA 0 _⟩, hHeld.2.setCell (p := ⟨w.heap.size, 0, none⟩) (Nat.le_refl _) _⟩) (fun hX => ?_)
    clear hK K hHeld
    have hHeld := hX
    clear hX
    refine wpAnyH_done (by kernel_rfl) ?_ _
    gi_wp2
    have hTy := own_typed hBd
    refine ⟨?_, ?_, ⟨⟨_, bs ++ [⟨chC l x.val, .slice (some ⟨gv, 0, none⟩) (chC l x.val).length capv⟩], box_set cA 0 _, ⟨own_far hoa cA (by decide) 0 _, fun y hy => ?_, ?_⟩, ?_⟩, hHeld.2⟩⟩
    ·exact (KeepsOthers.drew W).trans ((others_below hb).trans ((others_below hbc).trans ((KeepsOthers.alloc wc _).trans ((KeepsOthers.of_grownBy hga (fun j o hj ho => by obtain ⟨_, cur', hc⟩ := hTy j hj; rw [hc] at ho; cases ho; rfl)).trans (KeepsOthers.setCell _ _ _)))))
    ·exact kf_t (KF.refl _ _ W).drew (kf_t (KF.below HC.out.2.2.drew.size hb) (kf_t (KF.below (Nat.le_trans HC.out.2.2.drew.size hb.size) hbc) (kf_t (KF.alloc (Nat.le_trans (Nat.le_trans HC.out.2.2.drew.size hb.size) hbc.size) _) (kf_t (KF.grown hga (Nat.le_trans (Nat.le_trans (Nat.le_trans HC.out.2.2.drew.size hb.size) hbc.size) (by simp)) (fun g e => by obtain ⟨q1, cur', hc⟩ := hTy g e; exact ⟨q1, .inr ⟨_, _, _, hc, .inr (.inr (.inr rfl))⟩⟩)) (KF.set (Nat.le_refl _) (by omega))))))
    ·refine own_far (own_turnT (T := fun t => t = 48) (W := wc.alloc (.cells #[.int .i64 (liveN (chC l x.val) : Nat), .int .i64 (goneN (chC l x.val) : Nat), .slice (some ⟨gv, 0, none⟩) (chC l x.val).length capv] 109)) ?_ hga (fun r e => by obtain ⟨_, cur', hc⟩ := hTy r e; exact ⟨_, hc, .inr ⟨_, _, _, rfl, by decide⟩⟩) rfl) cA (by decide) 0 _
     rcases List.mem_append.1 hy with h | h
     ·exact (hBc.own y h).alloc _
     ·rw [List.mem_singleton.1 h]
      exact (own_lower hoc (Nat.le_trans HC.out.2.2.drew.size hb.size)).alloc _
    ·rw [List.pairwise_append]
     refine ⟨HC.out.2.1.apart, List.pairwise_singleton _ _, fun y hy z hz g h1 h2 => ?_⟩
     rw [List.mem_singleton.1 hz] at h2
     obtain ⟨_, cur', hc⟩ := own_typed (HC.out.2.1.own y hy) g h1
     have q1 := box_lt hc
     obtain ⟨q2, _⟩ := own_typed hoc g h2
     have q3 : W.heap.size ≤ wb.heap.size := hb.size
     omega
    ·rw [List.map_append, List.map_append, HBS.out]
     rfl
   ·go_simp
    go_wp2_with (go_at_call 71; refine (HCO.out _ hHeld.2).mono ?_; rintro e wc ⟨vc, rfl, hoc, hbc⟩)
    have c0c := row_up c0b hbc
    obtain ⟨gv, capv, hvc, hgv, hgl⟩ := ownsRow_form hoc (by rw [HCL.out]; omega)
    subst hvc
    refine hK.out _ _ (⟨⟨_, c0c⟩, hHeld.2.trans (hbc.mono hHeld.2.size)⟩) (fun hX => ?_)
    clear hK K hHeld
    have hHeld := hX
    clear hX
    refine tk0 (i := 5) rfl ?_
    try simp only [td]
    refine wpAnyH_ready (rs := [0, 6]) (by kernel_rfl) (by simp) (AllReadyH.cons rfl (fun K hK => ?_) (AllReadyH.cons rfl (fun K hK => ?_) AllReadyH.nil))
    ·have zn := box_cell c0c 0
     go_simp
     refine hK.out _ _ (hHeld) (fun hX => ?_)
     clear hK K hHeld
     have hHeld := hX
     clear hX
     refine rd 6 rfl fun K hK => ?_
     go_simp
     have c0d := row_al c0c (.cells #[.int .i64 (liveN (chC l x.val) : Nat), .int .i64 (goneN (chC l x.val) : Nat), .slice (some ⟨gv, 0, none⟩) (chC l x.val).length capv] 109)
     refine hK.out _ _ (⟨⟨_, c0d⟩, hHeld.2.alloc hHeld.2.size _⟩) (fun hX => ?_)
     clear hK K hHeld
     have hHeld := hX
     clear hX
     refine rd 7 rfl fun K hK => ?_
     have hDc : Below W.heap.size W wc := ((Below.refl W.heap.size W).drew.trans hb).trans (hbc.mono hb.size)
     have hBc := HC.out.2.1.up hDc
     have hnew := heap_new wc (.cells #[.int .i64 (liveN (chC l x.val) : Nat), .int .i64 (goneN (chC l x.val) : Nat), .slice (some ⟨gv, 0, none⟩) (chC l x.val).length capv] 109)
     obtain ⟨va, Wa, hra, hoa, hga⟩ := append_block w.heap.size _ bs ⟨chC l x.val, .slice (some ⟨gv, 0, none⟩) (chC l x.val).length capv⟩ (.slice (some ⟨wc.heap.size, 0, none⟩) 1 1) (wc.alloc (.cells #[.int .i64 (liveN (chC l x.val) : Nat), .int .i64 (goneN (chC l x.val) : Nat), .slice (some ⟨gv, 0, none⟩) (chC l x.val).length capv] 109)) bs.length rfl (hBc.row.alloc (.cells #[.int .i64 (liveN (chC l x.val) : Nat), .int .i64 (goneN (chC l x.val) : Nat), .slice (some ⟨gv, 0, none⟩) (chC l x.val).length capv] 109)) ⟨rfl, _, 1, rfl, fun _ => ⟨wc.heap.size, 0, rfl, fun j u hj => by rw [Nat.zero_add]; exact (box_cell hnew j).trans (by simpa [kV] using hj)⟩⟩ rfl HBN.out hHeld.2.size 87
     obtain ⟨va1, va2, va3, rfl⟩ := slice_of hoa
     have hBd := hBc.row.alloc (.cells #[.int .i64 (liveN (chC l x.val) : Nat), .int .i64 (goneN (chC l x.val) : Nat), .slice (some ⟨gv, 0, none⟩) (chC l x.val).length capv] 109)
     have cA := row_grown c0d hga hBd (by decide)
     rw [if_pos (by rfl)]
     refine wp_run_append rfl rfl rfl hra ?_
     refine hK.out _ _ (⟨⟨_, cA⟩, below_grown hHeld.2 hga hBd (Nat.le_refl _)⟩) (fun hX => ?_)
     clear hK K hHeld
     have hHeld := hX
     clear hX
     refine rd 8 rfl fun K hK => ?_
     have z0 := box_cell cA 0
     have zf := box_frozen cA 0
     go_simp
     refine hK.out _ _ (⟨⟨_, box_set cA 0 _⟩, hHeld.2.setCell (p := ⟨w.heap.size, 0, none⟩) (Nat.le_refl _) _⟩) (fun hX => ?_)
     clear hK K hHeld
     have hHeld := hX
     clear hX
     refine wpAnyH_done (by kernel_rfl) ?_ _
     gi_wp2
     have hTy := own_typed hBd
     refine ⟨?_, ?_, ⟨⟨_, bs ++ [⟨chC l x.val, .slice (some ⟨gv, 0, none⟩) (chC l x.val).length capv⟩], box_set cA 0 _, ⟨own_far hoa cA (by decide) 0 _, fun y hy => ?_, ?_⟩, ?_⟩, hHeld.2⟩⟩
     ·exact (KeepsOthers.drew W).trans ((others_below hb).trans ((others_below hbc).trans ((KeepsOthers.alloc wc _).trans ((KeepsOthers.of_grownBy hga (fun j o hj ho => by obtain ⟨_, cur', hc⟩ := hTy j hj; rw [hc] at ho; cases ho; rfl)).trans (KeepsOthers.setCell _ _ _)))))
     ·exact kf_t (KF.refl _ _ W).drew (kf_t (KF.below HC.out.2.2.drew.size hb) (kf_t (KF.below (Nat.le_trans HC.out.2.2.drew.size hb.size) hbc) (kf_t (KF.alloc (Nat.le_trans (Nat.le_trans HC.out.2.2.drew.size hb.size) hbc.size) _) (kf_t (KF.grown hga (Nat.le_trans (Nat.le_trans (Nat.le_trans HC.out.2.2.drew.size hb.size) hbc.size) (by simp)) (fun g e => by obtain ⟨q1, cur', hc⟩ := hTy g e; exact ⟨q1, .inr ⟨_, _, _, hc, .inr (.inr (.inr rfl))⟩⟩)) (KF.set (Nat.le_refl _) (by omega))))))
     ·refine own_far (own_turnT (T := fun t => t = 48) (W := wc.alloc (.cells #[.int .i64 (liveN (chC l x.val) : Nat), .int .i64 (goneN (chC l x.val) : Nat), .slice (some ⟨gv, 0, none⟩) (chC l x.val).length capv] 109)) ?_ hga (fun r e => by obtain ⟨_, cur', hc⟩ := hTy r e; exact ⟨_, hc, .inr ⟨_, _, _, rfl, by decide⟩⟩) rfl) cA (by decide) 0 _
      rcases List.mem_append.1 hy with h | h
      ·exact (hBc.own y h).alloc _
      ·rw [List.mem_singleton.1 h]
       exact (own_lower hoc (Nat.le_trans HC.out.2.2.drew.size hb.size)).alloc _
     ·rw [List.pairwise_append]
      refine ⟨HC.out.2.1.apart, List.pairwise_singleton _ _, fun y hy z hz g h1 h2 => ?_⟩
      rw [List.mem_singleton.1 hz] at h2
      obtain ⟨_, cur', hc⟩ := own_typed (HC.out.2.1.own y hy) g h1
      have q1 := box_lt hc
      obtain ⟨q2, _⟩ := own_typed hoc g h2
      have q3 : W.heap.size ≤ wb.heap.size := hb.size
      omega
     ·rw [List.map_append, List.map_append, HBS.out]
      rfl
    ·go_simp
     have c0d := row_al c0c (.cells #[.int .i64 (liveN (chC l x.val) : Nat), .int .i64 (goneN (chC l x.val) : Nat), .slice (some ⟨gv, 0, none⟩) (chC l x.val).length capv] 109)
     refine hK.out _ _ (⟨⟨_, c0d⟩, hHeld.2.alloc hHeld.2.size _⟩) (fun hX => ?_)
     clear hK K hHeld
     have hHeld := hX
     clear hX
     refine rd 0 rfl fun K hK => ?_
     have zn := box_cell c0d 0
     go_simp
     refine hK.out _ _ (hHeld) (fun hX => ?_)
     clear hK K hHeld
     have hHeld := hX
     clear hX
     refine rd 7 rfl fun K hK => ?_
     have hDc : Below W.heap.size W wc := ((Below.refl W.heap.size W).drew.trans hb).trans (hbc.mono hb.size)
     have hBc := HC.out.2.1.up hDc
     have hnew := heap_new wc (.cells #[.int .i64 (liveN (chC l x.val) : Nat), .int .i64 (goneN (chC l x.val) : Nat), .slice (some ⟨gv, 0, none⟩) (chC l x.val).length capv] 109)
     obtain ⟨va, Wa, hra, hoa, hga⟩ := append_block w.heap.size _ bs ⟨chC l x.val, .slice (some ⟨gv, 0, none⟩) (chC l x.val).length capv⟩ (.slice (some ⟨wc.heap.size, 0, none⟩) 1 1) (wc.alloc (.cells #[.int .i64 (liveN (chC l x.val) : Nat), .int .i64 (goneN (chC l x.val) : Nat), .slice (some ⟨gv, 0, none⟩) (chC l x.val).length capv] 109)) bs.length rfl (hBc.row.alloc (.cells #[.int .i64 (liveN (chC l x.val) : Nat), .int .i64 (goneN (chC l x.val) : Nat), .slice (some ⟨gv, 0, none⟩) (chC l x.val).length capv] 109)) ⟨rfl, _, 1, rfl, fun _ => ⟨wc.heap.size, 0, rfl, fun j u hj => by rw [Nat.zero_add]; exact (box_cell hnew j).trans (by simpa [kV] using hj)⟩⟩ rfl HBN.out hHeld.2.size 87
     obtain ⟨va1, va2, va3, rfl⟩ := slice_of hoa
     have hBd := hBc.row.alloc (.cells #[.int .i64 (liveN (chC l x.val) : Nat), .int .i64 (goneN (chC l x.val) : Nat), .slice (some ⟨gv, 0, none⟩) (chC l x.val).length capv] 109)
     have cA := row_grown c0d hga hBd (by decide)
     rw [if_pos (by rfl)]
     refine wp_run_append rfl rfl rfl hra ?_
     refine hK.out _ _ (⟨⟨_, cA⟩, below_grown hHeld.2 hga hBd (Nat.le_refl _)⟩) (fun hX => ?_)
     clear hK K hHeld
     have hHeld := hX
     clear hX
     refine rd 8 rfl fun K hK => ?_
     have z0 := box_cell cA 0
     have zf := box_frozen cA 0
     go_simp
     refine hK.out _ _ (⟨⟨_, box_set cA 0 _⟩, hHeld.2.setCell (p := ⟨w.heap.size, 0, none⟩) (Nat.le_refl _) _⟩) (fun hX => ?_)
     clear hK K hHeld
     have hHeld := hX
     clear hX
     refine wpAnyH_done (by kernel_rfl) ?_ _
     gi_wp2
     have hTy := own_typed hBd
     refine ⟨?_, ?_, ⟨⟨_, bs ++ [⟨chC l x.val, .slice (some ⟨gv, 0, none⟩) (chC l x.val).length capv⟩], box_set cA 0 _, ⟨own_far hoa cA (by decide) 0 _, fun y hy => ?_, ?_⟩, ?_⟩, hHeld.2⟩⟩
     ·exact (KeepsOthers.drew W).trans ((others_below hb).trans ((others_below hbc).trans ((KeepsOthers.alloc wc _).trans ((KeepsOthers.of_grownBy hga (fun j o hj ho => by obtain ⟨_, cur', hc⟩ := hTy j hj; rw [hc] at ho; cases ho; rfl)).trans (KeepsOthers.setCell _ _ _)))))
     ·exact kf_t (KF.refl _ _ W).drew (kf_t (KF.below HC.out.2.2.drew.size hb) (kf_t (KF.below (Nat.le_trans HC.out.2.2.drew.size hb.size) hbc) (kf_t (KF.alloc (Nat.le_trans (Nat.le_trans HC.out.2.2.drew.size hb.size) hbc.size) _) (kf_t (KF.grown hga (Nat.le_trans (Nat.le_trans (Nat.le_trans HC.out.2.2.drew.size hb.size) hbc.size) (by simp)) (fun g e => by obtain ⟨q1, cur', hc⟩ := hTy g e; exact ⟨q1, .inr ⟨_, _, _, hc, .inr (.inr (.inr rfl))⟩⟩)) (KF.set (Nat.le_refl _) (by omega))))))
     ·refine own_far (own_turnT (T := fun t => t = 48) (W := wc.alloc (.cells #[.int .i64 (liveN (chC l x.val) : Nat), .int .i64 (goneN (chC l x.val) : Nat), .slice (some ⟨gv, 0, none⟩) (chC l x.val).length capv] 109)) ?_ hga (fun r e => by obtain ⟨_, cur', hc⟩ := hTy r e; exact ⟨_, hc, .inr ⟨_, _, _, rfl, by decide⟩⟩) rfl) cA (by decide) 0 _
      rcases List.mem_append.1 hy with h | h
      ·exact (hBc.own y h).alloc _
      ·rw [List.mem_singleton.1 h]
       exact (own_lower hoc (Nat.le_trans HC.out.2.2.drew.size hb.size)).alloc _
     ·rw [List.pairwise_append]
      refine ⟨HC.out.2.1.apart, List.pairwise_singleton _ _, fun y hy z hz g h1 h2 => ?_⟩
      rw [List.mem_singleton.1 hz] at h2
      obtain ⟨_, cur', hc⟩ := own_typed (HC.out.2.1.own y hy) g h1
      have q1 := box_lt hc
      obtain ⟨q2, _⟩ := own_typed hoc g h2
      have q3 : W.heap.size ≤ wb.heap.size := hb.size
      omega
     ·rw [List.map_append, List.map_append, HBS.out]
      rfl
 case done =>
  rintro D ys X hD rfl ⟨⟨v', bs, c0, hBk, hbs⟩, hB⟩ hK
  have e0 := box_cell c0 0
  obtain ⟨ao', n', cap', rfl⟩ := slice_of hBk.row
  have HQ := Lib.hid (And.intro hBk (And.intro hbs hB))
  clear c0 hBk hbs hB
  gi_wp2
  refine ⟨by simp, .inl ⟨_, _, rfl, run_takeDeferred hK, ?_⟩⟩
  have hBD := belowK_b (w := w) (Nat.le_refl _) X D _ (.deferred none) (by omega) hK rfl rfl
  obtain ⟨hBk, hbs, hB⟩ := HQ.out
  refine ⟨.slice ao' n' cap', ?rs, .slice ao' n' cap', bs, rfl, hBk.turn (grownBy_putObj' X D (.deferred none)) (fun r e => by cases e; exact ⟨_, hK, rfl⟩), ?_, ?_, ?_, hB.trans hBD⟩
  case rs => exact results_tmp (fn := Tryz.f43) (t := 2) rfl _ _ _
  ·rw [catB_flat, hbs, ← HN.out]; exact chC_all l
  ·have := congrArg List.length hbs
   rw [List.length_map, List.length_map, List.length_finRange] at this
   have h2 : chN N ≤ 7813 := by unfold chN; omega
   omega
  ·refine ⟨?_, by have := congrArg List.length hbs; rw [List.length_map, List.length_map, List.length_finRange] at this; first | exact this | rw [this, HN.out]⟩
   intro x hx
   have hm : x.cs ∈ bs.map (·.cs) := List.mem_map.2 ⟨x, hx, rfl⟩
   rw [hbs] at hm
   obtain ⟨y, _, e⟩ := List.mem_map.1 hm
   have hy := chN_lt.1 y.isLt
   intro q
   rw [q] at e
   have := congrArg List.length e
   rw [chC_length, HN.out] at this
   unfold chL at this
   simp at this
   omega
 case stop =>
  rintro D c pre X hD hpre ⟨hno, _⟩ hK
  exact hno.elim
end Go.Proofs.YtmedickofiielaaGreatDoor

namespace Go.Proofs.YtmedickofiielaaGreatDoor
open Go.RowKit Go.Shelf
attribute [local go_sem] Oper.semAt_some

theorem own_parts {W : World} {n₀ : Nat} {v : Value} {n : Nat} {xs : List Value} (h : W.ownsRow n₀ 48 5 v n xs) (hn : 0 < n) : ∃ g cap cur, v = .slice (some ⟨g, 0, none⟩) n cap ∧ n₀ ≤ g ∧ W.heap[g]? = some (.cells cur 48 (0, 0)) ∧ n ≤ cap ∧ cap ≤ maxLen ∧ cur.size = cap * 5 ∧ cur.toList.take (n * 5) = xs := by
 rcases h.2 with ⟨_, h0⟩ | ⟨g, cap, cur, q⟩
 ·omega
 ·exact ⟨g, cap, cur, q⟩
set_option maxRecDepth 100000 in
set_option maxHeartbeats 4000000 in
theorem insert_none (v : Value) (n i : Nat) (xs : List Value) (n₀ : Nat) (u : Value) (c : Option Addr) (vc : Nat) (hu : u = .slice c 0 vc) (w : World) (ho : w.ownsRow n₀ 48 5 v n xs) (hi : i ≤ n) (_hn : n ≤ 1000000) :
  Calls Tryz.prog 95 #[v, .int .i64 (i : Int), u] w fun e w' => e = .returned v ∧ Below w.heap.size w w' := by
 subst hu
 have hb3 : (i : Int) ≤ (n : Int) := by omega
 rcases ho.2 with ⟨rfl, h0⟩ | ⟨g, cap, cur, rfl, -, -, h1, -⟩
 ·obtain rfl : i = 0 := by omega
  go_enter Tryz.func95, Tryz.ntmps95
  go_wp2
  all_goals
   go_ret
   exact ⟨rfl, Below.refl _ _⟩
 ·have hb6 : (i : Int) ≤ (cap : Int) := by omega
  clear ho
  go_enter Tryz.func95, Tryz.ntmps95
  go_wp2
  all_goals
   go_ret
   exact ⟨rfl, Below.refl _ _⟩
set_option maxRecDepth 100000 in
set_option maxHeartbeats 4000000 in
theorem insert_end (v : Value) (n : Nat) (xs ys : List Value) (n₀ vb m vc : Nat) (w : World) (ho : w.ownsRow n₀ 48 5 v n xs) (hys : ys.length = m * 5) (hsrc : ∀ j u, ys[j]? = some u → w.cell? ((⟨vb, 0, none⟩ : Addr).add j) = some u) (hy1 : ∀ u ∈ ys, u.oneCell' = true) (hm : 0 < m) (hnm : n + m ≤ 1000000) (hb : n₀ ≤ w.heap.size) :
  Calls Tryz.prog 95 #[v, .int .i64 (n : Int), .slice (some ⟨vb, 0, none⟩) m vc] w fun e w' => ∃ v', e = .returned v' ∧ w'.ownsRow n₀ 48 5 v' (n + m) (xs ++ ys) ∧ w.grownBy w' v.ownBlock ∧ (v'.ownBlock = v.ownBlock ∨ v'.ownBlock = some w.heap.size) := by
 obtain ⟨i, hi, hz, hs, hy⟩ := infoCellI
 obtain ⟨v', w', hrun, h1, h2, -, h4⟩ := run_append_own_at (P := Tryz.prog) (w := w) n₀ 22 22 48 i _ 5 32 Tryz.underlying22 hi hz hs hy rfl (by decide) v n xs ho ⟨vb, 0, none⟩ m vc ys hys hsrc hy1 (by unfold maxLen; omega) (by omega) hb
 obtain ⟨ao', n', cap', rfl⟩ := slice_of h1
 have HF := Lib.hid (And.intro h1 (And.intro h2 h4))
 have hz1 : ¬ ((m : Int) = 0) := by omega
 clear hi hz hs hy hys hsrc hy1 h1 h2 h4
 rcases ho.2 with ⟨rfl, h0⟩ | ⟨g, cap, cur, rfl, -, -, h1, -⟩
 ·subst h0
  clear ho
  go_enter Tryz.func95, Tryz.ntmps95
  go_wp2_with (at_builtin; refine Lib.wpList_append_run _ rfl _ _ _ _ rfl _ _ rfl rfl _ _ hrun ?_)
  all_goals
   go_ret
   exact ⟨_, rfl, HF.out.1, HF.out.2.1, HF.out.2.2⟩
 ·have hb6 : (n : Int) ≤ (cap : Int) := by omega
  clear ho
  go_enter Tryz.func95, Tryz.ntmps95
  go_wp2_with (at_builtin; refine Lib.wpList_append_run _ rfl _ _ _ _ rfl _ _ rfl rfl _ _ hrun ?_)
  all_goals
   go_ret
   exact ⟨_, rfl, HF.out.1, HF.out.2.1, HF.out.2.2⟩
theorem insert_any (n₀ n₁ i : Nat) (v u : Value) (cs ms : List PCell) (w : World) (ho : w.ownsRow n₀ 48 5 v cs.length (cCells cs)) (hu : w.ownsRow n₁ 48 5 u ms.length (cCells ms)) (hap : ∀ g, v.ownBlock = some g → u.ownBlock = some g → False) (hi : i ≤ cs.length) (hnm : cs.length + ms.length ≤ 1000000) (hb : n₀ ≤ w.heap.size) :
  Calls Tryz.prog 95 #[v, .int .i64 (i : Int), u] w fun e w' => ∃ v', e = .returned v' ∧ w'.ownsRow n₀ 48 5 v' (cs.take i ++ ms ++ cs.drop i).length (cCells (cs.take i ++ ms ++ cs.drop i)) ∧ Keep (fun k => v.ownBlock = some k) w.heap.size w w' ∧ (∀ g, v'.ownBlock = some g → v.ownBlock = some g ∨ w.heap.size ≤ g) := by
 have hlen : (cs.take i ++ ms ++ cs.drop i).length = cs.length + ms.length := by simp; omega
 have hcl : cCells (cs.take i ++ ms ++ cs.drop i) = (cCells cs).take (i * 5) ++ cCells ms ++ (cCells cs).drop (i * 5) := by
  rw [cCells_append, cCells_append, ← cCells_take _ _ hi, ← cCells_drop _ _ hi]
 rw [hlen, hcl]
 rcases Nat.eq_zero_or_pos ms.length with hm | hm
 ·obtain rfl : ms = [] := List.eq_nil_of_length_eq_zero hm
  obtain ⟨c, n, vc, rfl⟩ := slice_of hu
  obtain rfl : n = 0 := by rcases hu.2 with ⟨q, _⟩ | ⟨_, _, _, q, _⟩ <;> cases q <;> rfl
  refine (insert_none v cs.length i _ n₀ _ c vc rfl w ho hi (by omega)).mono ?_
  rintro e w' ⟨rfl, hb'⟩
  refine ⟨v, rfl, ?_, Keep.of_below hb' (Nat.le_refl _), fun g h => .inl h⟩
  have : (cCells cs).take (i * 5) ++ cCells [] ++ (cCells cs).drop (i * 5) = cCells cs := by rw [show cCells [] = [] from rfl, List.append_nil, List.take_append_drop]
  rw [this]
  exact own_up ho hb'
 ·obtain ⟨vb, vc, cv, rfl, -, hv, hmv, -, hcv, hY⟩ := own_parts hu hm
  rcases Nat.lt_or_ge i cs.length with hlt | hge
  ·obtain ⟨g, cap, cur, rfl, hg0, hg, hnc, hcm, hcur, hX⟩ := own_parts ho (by omega)
   have hne : vb ≠ g := fun e => hap g rfl (by rw [e]; rfl)
   rcases Nat.lt_or_ge cap (cs.length + ms.length) with hgr | hsh
   ·refine (insert_grow g cap cs.length i vb ms.length vc cur cv _ _ w hg hcur hX hv hY (by rw [hcv]; exact Nat.mul_le_mul_right 5 hmv) (cCells_ones cs) (cCells_ones ms) hlt hm hnc hgr hnm).mono ?_
    rintro e w' ⟨G, cur', rfl, h1, h2, h3, h4, h5, h6⟩
    refine ⟨_, rfl, ⟨by rw [← hcl, cCells_length, hlen], .inr ⟨w.heap.size, G, cur', rfl, hb, h3, h1, h2, h4, h5⟩⟩, Keep.of_below h6 (Nat.le_refl _), fun k hk => .inr ?_⟩
    simp [Value.ownBlock] at hk
    omega
   ·refine (insert_shift g cap cs.length i vb ms.length vc cur cv _ _ w hg hcur hX hv hY (by rw [hcv]; exact Nat.mul_le_mul_right 5 hmv) hne (cCells_ones cs) (cCells_ones ms) hlt hm hsh hcm hnm).mono ?_
    rintro e w' ⟨rfl, cur', h1, h2, h3, h4⟩
    exact ⟨_, rfl, ⟨by rw [← hcl, cCells_length, hlen], .inr ⟨g, cap, cur', rfl, hg0, h1, hsh, hcm, h2, h3⟩⟩, h4.weak (Nat.le_refl _) (fun k _ hk => by rw [hk]; rfl), fun k hk => .inl hk⟩
  ·obtain rfl : i = cs.length := by omega
   have hsrc : ∀ j u, (cCells ms)[j]? = some u → w.cell? ((⟨vb, 0, none⟩ : Addr).add j) = some u := hu.cells rfl
   refine (insert_end v cs.length _ _ n₀ vb ms.length vc w ho (cCells_length ms) hsrc (cCells_ones ms) hm hnm hb).mono ?_
   rintro e w' ⟨v', rfl, h1, h2, h3⟩
   refine ⟨v', rfl, ?_, (Keep.refl _ _ w).grown h2 (Nat.le_refl _) (fun g hg => .inl hg), fun g hg => ?_⟩
   ·rw [List.take_of_length_le (by rw [cCells_length]; exact Nat.le_refl _), List.drop_of_length_le (by rw [cCells_length]; exact Nat.le_refl _), List.append_nil]
    exact h1
   ·rcases h3 with h | h
    ·exact .inl (h ▸ hg)
    ·rw [h] at hg
     cases hg
     exact .inr (Nat.le_refl _)
end Go.Proofs.YtmedickofiielaaGreatDoor
