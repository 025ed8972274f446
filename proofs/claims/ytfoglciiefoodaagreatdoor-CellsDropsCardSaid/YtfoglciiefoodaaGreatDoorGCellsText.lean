/- Texts of this proof, joined. -/
import Derived.Test.YtfoglciiefoodaaGreatDoorGCellsBlk
import Derived.Test.YtfoglciiefoodaaGreatDoorGRefSplit
import Derived.Test.YtfoglciiefoodaaGreatDoorJoin
import Derived.Test.YtfoglciiefoodaaGreatDoorGReads64
import Derived.Test.YtfoglciiefoodaaGreatDoorCellsChunk
import Derived.Test.YtfoglciiefoodaaGreatDoorShClone
namespace Go.Proofs.YtfoglciiefoodaaGreatDoor
open Go.RowKit Go.Shelf
attribute [local go_sem] Oper.semAt_some

theorem textR_app (a b : List PCell) : textR (a ++ b) = textR a ++ textR b := by simp [textR]
theorem textR_len (l : List PCell) : (textR l).length = liveN l := by simp [textR, liveN, List.countP_eq_length_filter]
theorem make_runes (n : Nat) (hn : n ≤ 1000000) : ∃ cur : Array Value, cur.size = n * 1 ∧ ∀ W : World, (Instr.makeSlice 65 (.int .i64 0) (.int .i64 (n : Int))).run Tryz.prog W = .ok (.slice (some ⟨W.heap.size, 0, none⟩) 0 n) (W.alloc (.cells cur 21)) := by
  obtain ⟨i0, hi, hz0, hz1, hz2⟩ := info_parts infoI32'
  refine ⟨madeCells (Value.int .i32 0).cells (n * 1), ?_, fun W => ?_⟩
  · simp [madeCells]
  · have h := run_make (P := Tryz.prog) (w := W) 65 21 i0 (.int .i32 0) Tryz.underlying65 hi hz0 .i64 .i64 0 n (Int.le_refl _) (by omega) (by rw [hz2]; omega) (by omega)
    rw [Int.toNat_natCast, hz1] at h
    exact h
theorem cell_one_new' (w : World) (x : Obj) (v : Value) (t : TypeId) : ∀ j u, [v][j]? = some u → ((w.alloc x).alloc (.cells #[v] t)).cell? ((⟨w.heap.size + 1, 0, none⟩ : Addr).add j) = some u := by
  intro j u hj
  cases j with
  | zero =>
    simp at hj
    subst hj
    have := box_cell (heap_new1 w x (.cells #[v] t)) 0
    exact this
  | succ j => simp at hj
theorem row_up5 {W W' : World} {i : Nat} {o : Obj} (h : W.heap[i]? = some o) (hb : Below W.heap.size W W') : W'.heap[i]? = some o := (hb.block i (box_lt h)).trans h
theorem slice_of {W : World} {N : Nat} {e : TypeId} {sz : Nat} {v : Value} {n : Nat} {xs : List Value} (h : W.ownsRow N e sz v n xs) : ∃ ao n cap, v = .slice ao n cap := by
  rcases h.2 with ⟨q, _⟩ | ⟨g, cap, cur, q, _⟩
  · exact ⟨_, _, _, q⟩
  · exact ⟨_, _, _, q⟩

set_option maxRecDepth 100000 in
set_option maxHeartbeats 8000000 in
theorem dtext_any (B : Nat) (bv nm : Value) (bs : List PB) (w : World) (hR : DocR w B bv nm bs) (hv : allValid (textR (catB bs)) = true) :
    Calls Tryz.prog 18 #[.pointer (some ⟨B, 0, none⟩)] w fun e W' => e = .returned (.string (cText (catB bs))) ∧ Below w.heap.size w W' := by
  have hbeg := fun W => begins_any (some ⟨B, 0, none⟩) W
  have hst := fun Bd m₁ W h1 h2 h3 => begins_stops 3 (by decide) Bd m₁ B bv nm bs w hR W h1 h2 h3
  have hall := liveN_gone (catB bs)
  have hroom := hR.room
  have hsz := fun W (hb : Below w.heap.size w W) => dlive_any (some ⟨B, 0, none⟩) (liveN (catB bs)) (goneN (catB bs)) W (whole_any B bv nm bs W (hR.below hb))
  have hjo := fun v W (h : Reads32 W v (textR (catB bs))) => join_any v (textR (catB bs)) (by rw [textR_len]; omega) W h
  unfold JoinPost at hjo
  rw [if_pos hv] at hjo
  have htx : cText (catB bs) = ⟨(joinL (textR (catB bs))).toArray⟩ := if_pos hv
  rw [← htx] at hjo
  have HJ := Lib.hid hjo
  have HSZ := Lib.hid hsz
  have HR := Lib.hid hR
  obtain ⟨i0, hi, hz0, hz1, hz2⟩ := info_parts infoI32'
  have HI := Lib.hid (And.intro hi (And.intro hz0 (And.intro hz1 hz2)))
  have hcl : (0 : Int) ≤ ((liveN (catB bs)) : Int) ∧ ((liveN (catB bs)) : Int) ≤ 100000 := by omega
  obtain ⟨cur, hcur, hmk⟩ := make_runes (liveN (catB bs)) (by omega)
  clear hR hsz hall hjo htx hv hi hz0 hz1 hz2
  have B0 := heap_new w (.cells #[.pointer (some ⟨B, 0, none⟩)] 26)
  have hB0 : Below w.heap.size w (w.alloc (.cells #[.pointer (some ⟨B, 0, none⟩)] 26)) := (Below.refl _ w).alloc (Nat.le_refl _) _
  have HB0 := Lib.hid hB0
  have d0 := box_cell B0 0
  refine (callsIn_wide (n := 4)).1 ?_
  refine callsIn_of_wp_marks Tryz.func18 rfl trivial ?_ rfl
  simp only [Tryz.ntmps18, List.size_toArray, List.length_cons, List.length_nil, Nat.reduceAdd, Nat.reduceSub, Array.replicate_succ, Array.replicate_zero, List.push_toArray, List.append_toArray, List.nil_append, List.cons_append]
  gi_wp2_with (refine ⟨trivial, ?_⟩; first
    | (gi_at_call 16; refine (callsIn_wide.2 (HSZ.out _ HB0.out)).mono ?_; rintro e w1 ⟨rfl, hb1⟩; have B1 := row_up B0 hb1; have e0 := box_cell B1 0; have B2 := row_al (row_al B1 (.cells cur 21)) (.cells #[.slice (some ⟨w1.heap.size, 0, none⟩) 0 (liveN (catB bs))] 65); have e2 := box_cell B2 0)
    | (gi_at_call 48; refine (callsIn_wide.2 (hbeg _)).mono ?_; rintro e _ ⟨rfl, rfl⟩))
  rename World => w1
  have A0 := row_al B2 (.cells #[.pointer (some ⟨B, 0, none⟩)] 26)
  have A1 := row_al (heap_new1 w1 (.cells cur 21) (.cells #[.slice (some ⟨w1.heap.size, 0, none⟩) 0 (liveN (catB bs))] 65)) (.cells #[.pointer (some ⟨B, 0, none⟩)] 26)
  have A3 := heap_new2 w1 (.cells cur 21) (.cells #[.slice (some ⟨w1.heap.size, 0, none⟩) 0 (liveN (catB bs))] 65) (.cells #[.pointer (some ⟨B, 0, none⟩)] 26)
  have AB : Below w.heap.size w (((w1.alloc (.cells cur 21)).alloc (.cells #[.slice (some ⟨w1.heap.size, 0, none⟩) 0 (liveN (catB bs))] 65)).alloc (.cells #[.pointer (some ⟨B, 0, none⟩)] 26)) := (((HB0.out.trans (hb1.mono HB0.out.size)).alloc (by have := hb1.size; have := HB0.out.size; omega) _).alloc (by have := hb1.size; have := HB0.out.size; simp; omega) _).alloc (by have := hb1.size; have := HB0.out.size; simp; omega) _
  have AS : (((w1.alloc (.cells cur 21)).alloc (.cells #[.slice (some ⟨w1.heap.size, 0, none⟩) 0 (liveN (catB bs))] 65)).alloc (.cells #[.pointer (some ⟨B, 0, none⟩)] 26)).heap.size = w1.heap.size + 1 + 1 + 1 := by simp
  have AO : (((w1.alloc (.cells cur 21)).alloc (.cells #[.slice (some ⟨w1.heap.size, 0, none⟩) 0 (liveN (catB bs))] 65)).alloc (.cells #[.pointer (some ⟨B, 0, none⟩)] 26)).ownsRow w.heap.size 21 1 (.slice (some ⟨w1.heap.size, 0, none⟩) 0 (liveN (catB bs))) 0 [] := ((World.ownsRow_made w1 cur (liveN (catB bs)) (by have := hb1.size; have := HB0.out.size; omega) (by unfold maxLen; omega) hcur).alloc _).alloc _
  have hge : w.heap.size < w1.heap.size := by have := hb1.size; simp at this; omega
  generalize ((w1.alloc (.cells cur 21)).alloc (.cells #[.slice (some ⟨w1.heap.size, 0, none⟩) 0 (liveN (catB bs))] 65)).alloc (.cells #[.pointer (some ⟨B, 0, none⟩)] 26) = w3 at A0 A1 A3 AB AS AO ⊢
  clear B1 e0 B2 e2 hb1 hmk d0 B0 hB0 HB0
  have hst := hst (w1.heap.size + 1 + 1) (w1.heap.size + 1 + 1) w3 AB A3 (Nat.le_refl _)
  have hcs : ∀ x ∈ bs, x.cs.length ≤ 100000 := fun x hx => by
    obtain ⟨k, hk, rfl⟩ := List.mem_iff_getElem.1 hx
    have := catB_le (List.getElem?_eq_getElem hk)
    omega
  have hfew := HR.out.few
  refine wpIn_rangeFunc_ownF rfl (by decide) (gf := 76) (lb := #[.pointer (some ⟨w1.heap.size + 1 + 1, 0, none⟩)]) rfl trivial (enters_of Tryz.func76 (by kernel_rfl) rfl)
    hst (fun h k => kf_t h k) (kf_b (by omega)) (Below.refl _ _) (fun _ => rfl)
    (fun pre W => (W.heap[w.heap.size]? = some (.cells #[.pointer (some ⟨B, 0, none⟩)] 26 (0, 0)) ∧
      ∃ v, W.heap[w1.heap.size + 1]? = some (.cells #[v] 65 (0, 0)) ∧ W.ownsRow w.heap.size 21 1 v (textR (catX bs pre)).length ((textR (catX bs pre)).map (Value.int .i32))) ∧ Below w.heap.size w W)
    (fun c pre W => (False) ∧ Below w.heap.size w W)
    (OwnFrom.and (Own.from (fun s A B row hs hg hr => ⟨row_turn hs.1 hg hr, by obtain ⟨v, h1, h2⟩ := hs.2; exact ⟨v, row_turn h1 hg hr, own_turn h2 hg hr⟩⟩) _) (ownFrom_below (Nat.le_refl _) (by omega)))
    (fun c => OwnFrom.and (Own.from (fun s A B row hs hg hr => hs.elim) _) (ownFrom_below (Nat.le_refl _) (by omega)))
    ⟨⟨A0, _, A1, AO⟩, AB⟩
    (fun x => { tmps := #[.pointer (some ⟨B, 0, none⟩), .pointer (some ⟨w.heap.size, 0, none⟩), .string ⟨#[]⟩, .pointer (some ⟨w1.heap.size + 1, 0, none⟩), .int .i64 (x.val : Int), undef, undef, undef, undef, .pointer (some ⟨B, 0, none⟩), .int .i64 (liveN (catB bs) : Nat), .slice (some ⟨w1.heap.size, 0, none⟩) 0 (liveN (catB bs)), .pointer (some ⟨B, 0, none⟩), .func (.func 76) #[] #[.pointer (some ⟨w1.heap.size + 1 + 1, 0, none⟩)], .int .i64 (x.val : Int), .int .i64 ((catB (bs.take x.val)).length : Nat), undef, undef, undef, undef, undef, undef, undef, undef, undef, undef, undef, undef, undef, undef, undef, undef, undef, undef, undef, undef, undef, undef, undef, undef, undef, undef, undef, undef], defers := [] }) ?assign ?body ?done ?stop
  case assign =>
    intro l x W K hK
    gi_wp2
    exact hK
  case body =>
    rintro l pre x W ⟨⟨c0, v, c1, ho⟩, hB⟩ hlen
    have hk : bs[x.val]? = some bs[x] := List.getElem?_eq_getElem x.isLt
    have hd := HR.out.below hB
    obtain ⟨g, off, cp, hbv, d0, d1, d2⟩ := hd.at hk
    have bx := hd.box
    rw [hbv] at bx
    have q0 := box_cell c0 0
    have q1 := box_cell bx 0
    have hpx := catX_le hcs pre
    have hcx := hcs bs[x] (List.getElem_mem _)
    have hu := hd.cells bs[x] (List.getElem_mem _)
    obtain ⟨cao, ccap, hcv, _⟩ := id hu.shape
    rw [hcv] at d2
    have hu0 := (HR.out.cells bs[x] (List.getElem_mem _))
    have HU := Lib.hid hu0
    have HX := Lib.hid (catX_snoc bs pre x)
    have hi0 : (0 : Int) ≤ (x.val : Int) ∧ (x.val : Int) < (bs.length : Int) := ⟨by omega, by have := x.isLt; omega⟩
    have h0 : W.heap[w.heap.size]? = some (.cells #[.pointer (some ⟨B, 0, none⟩)] 26 (0, 0)) ∧ (∃ v, W.heap[w1.heap.size + 1]? = some (.cells #[v] 65 (0, 0)) ∧ W.ownsRow w.heap.size 21 1 v (textR (catX bs pre ++ bs[x].cs.take 0)).length ((textR (catX bs pre ++ bs[x].cs.take 0)).map (Value.int .i32))) ∧ Below w.heap.size w W ∧ KeepsOthers W W ∧ KF w.heap.size (w1.heap.size + 1 + 1) W W := ⟨c0, ⟨v, c1, by rw [List.take_zero, List.append_nil]; exact ho⟩, hB, KeepsOthers.refl W, KF.refl _ _ W⟩
    have H0 := Lib.hid h0
    obtain ⟨N, hN⟩ : ∃ N, bs[x].cs.length = N := ⟨_, rfl⟩
    have HN := Lib.hid (And.intro hN hcv)
    rw [hN] at d2 hcx
    have hbn : (textR (catX bs pre)).length + N ≤ 100000100000 := by
      have : (textR (catX bs pre)).length ≤ (catX bs pre).length := by rw [textR_len]; have := liveN_gone (catX bs pre); omega
      omega
    have HBN := Lib.hid hbn
    clear hu hu0 hd bx c0 c1 ho hB h0 hN hk hpx hbn hbv
    gi_wp2
    gi_loopw [25] (fun i wr => ∃ k : Nat, i = .int .i64 k ∧ k ≤ N ∧ RowKit.Hid (wr.heap[w.heap.size]? = some (.cells #[.pointer (some ⟨B, 0, none⟩)] 26 (0, 0)) ∧ (∃ v, wr.heap[w1.heap.size + 1]? = some (.cells #[v] 65 (0, 0)) ∧ wr.ownsRow w.heap.size 21 1 v (textR (catX bs pre ++ bs[x].cs.take k)).length ((textR (catX bs pre ++ bs[x].cs.take k)).map (Value.int .i32))) ∧ Below w.heap.size w wr ∧ KeepsOthers W wr ∧ KF w.heap.size (w1.heap.size + 1 + 1) W wr)) (fun i _ => N - (intOf i).toNat)
    case atStart => exact ⟨0, rfl, Nat.zero_le _, H0⟩
    case round =>
      rename World => wr
      obtain ⟨k, rfl, hk, hI⟩ := hrel
      rcases Nat.lt_or_ge k N with hlt | hge2
      · obtain ⟨c, hc⟩ : ∃ c, bs[x].cs[k]? = some c := ⟨_, List.getElem?_eq_getElem (by rw [HN.out.1]; exact hlt)⟩
        obtain ⟨b0, ⟨v, b1, b2⟩, b3, b4, b5⟩ := hI.out
        obtain ⟨bb, boff, bcap, hv, e0, e1, e2, e3, e4⟩ := (HU.out.below b3).at hc
        have hv2 := HN.out.2.symm.trans hv
        rw [HN.out.1] at hv2
        injection hv2 with hv2 _ hv3
        subst hv2
        have hi1 : (0 : Int) ≤ (k : Int) ∧ (k : Int) < (N : Int) := ⟨by omega, by omega⟩
        obtain ⟨vao, vn, vcap, rfl⟩ := slice_of b2
        have hsn : bs[x].cs.take (k + 1) = bs[x].cs.take k ++ [c] := by rw [List.take_add_one, hc]; rfl
        have HS := Lib.hid hsn
        have hle : (textR (catX bs pre ++ bs[x].cs.take k)).length ≤ 100000200000 := by
          have q1 := HBN.out
          rw [textR_app, List.length_append]
          have q2 := textR_le bs[x].cs k
          omega
        have HLE := Lib.hid hle
        obtain ⟨s, q, f, r, gn⟩ := c
        dsimp only at e0 e1 e2 e3 e4
        clear hc hv hv3 hsn hle hI
        cases gn with
        | true =>
          have HB := Lib.hid (And.intro b0 (And.intro b1 (And.intro b2 (And.intro b3 (And.intro b4 b5)))))
          clear b0 b1 b2 b3 b4 b5
          gi_wp2
          go_roundw
          case rel =>
            obtain ⟨b0, b1, b2, b3, b4, b5⟩ := HB.out
            refine ⟨k + 1, by go_num, by omega, Lib.hid ⟨row_al b0 _, ⟨_, row_al b1 _, ?_⟩, b3.alloc b3.size _, b4.trans (KeepsOthers.alloc _ _), kf_t b5 (KF.alloc b3.size _)⟩⟩
            rw [HS.out, ← List.append_assoc, textR_app, show textR [(⟨s, q, f, r, true⟩ : PCell)] = [] from rfl, List.append_nil]
            exact b2.alloc _
          case measure => simp [intOf]; omega
        | false =>
          have g0 := row_al b0 (.cells #[.int .i64 s, .int .i64 q, .int .i64 f, .int .i32 r, .bool false] 62)
          have g1 := row_al b1 (.cells #[.int .i64 s, .int .i64 q, .int .i64 f, .int .i32 r, .bool false] 62)
          have g2 := b2.alloc (.cells #[.int .i64 s, .int .i64 q, .int .i64 f, .int .i32 r, .bool false] 62)
          have g3 := b3.alloc b3.size (.cells #[.int .i64 s, .int .i64 q, .int .i64 f, .int .i32 r, .bool false] 62)
          have g4 := b4.trans (KeepsOthers.alloc wr (.cells #[.int .i64 s, .int .i64 q, .int .i64 f, .int .i32 r, .bool false] 62))
          have g5 := kf_t b5 (KF.alloc b3.size (.cells #[.int .i64 s, .int .i64 q, .int .i64 f, .int .i32 r, .bool false] 62))
          have z0 := box_cell g1 0
          have hbs : w.heap.size ≤ wr.heap.size := b3.size
          have hw1 := box_lt b1
          have HG := Lib.hid (And.intro g0 (And.intro g1 (And.intro g2 (And.intro g3 (And.intro g4 g5)))))
          clear b0 b1 b2 b3 b4 b5 g0 g1 g2 g3 g4 g5
          gi_wp2_with (gi_at_builtin; go_must (refine wpListIn_append_own _ rfl _ _ 65 rfl w.heap.size 21 i0 (.int .i32 0) 1 4 Tryz.underlying65 HI.out.1 HI.out.2.1 HI.out.2.2.1 HI.out.2.2.2 rfl (by decide) _ _ _ rfl (HG.out.2.2.1.alloc (.cells #[.int .i32 r] 21)) ⟨wr.heap.size + 1, 0, none⟩ 1 1 [.int .i32 r] rfl rfl (cell_one_new' wr _ _ _) (by simp [Value.oneCell']) (by have := HLE.out; unfold maxLen; omega) (by have := HLE.out; omega) (by have := hbs; simp; omega) ?_; intro v' w4 hown' hgrow _; obtain ⟨g', cap', rfl⟩ := ownsRow_succ hown'; have i1 := row_grown (row_al HG.out.2.1 (.cells #[.int .i32 r] 21)) hgrow (HG.out.2.2.1.alloc (.cells #[.int .i32 r] 21)) (by decide); have z1 := box_cell i1 0; have zf := box_frozen i1 0))
          go_roundw
          case rel =>
            obtain ⟨b0, b1, b2, b3, b4, b5⟩ := HG.out
            have i0' := row_grown (row_al b0 (.cells #[.int .i32 r] 21)) hgrow (b2.alloc (.cells #[.int .i32 r] 21)) (by decide)
            have i3 := below_grown (b3.alloc b3.size (.cells #[.int .i32 r] 21)) hgrow (b2.alloc (.cells #[.int .i32 r] 21)) (Nat.le_refl _)
            have i4 := b4.trans ((KeepsOthers.alloc _ (.cells #[.int .i32 r] 21)).trans (KeepsOthers.of_grownBy hgrow (fun j o hj ho => by obtain ⟨_, cur', hc⟩ := own_typed (b2.alloc (.cells #[.int .i32 r] 21)) j hj; rw [hc] at ho; cases ho; rfl)))
            have i5 := kf_t b5 (kf_t (KF.alloc b3.size (.cells #[.int .i32 r] 21)) (KF.grown (m₁ := w1.heap.size + 1 + 1) hgrow ((b3.alloc b3.size (.cells #[.int .i32 r] 21)).size) (fun g e => by obtain ⟨q1, cur', hc⟩ := own_typed (b2.alloc (.cells #[.int .i32 r] 21)) g e; exact ⟨q1, .inr ⟨_, _, _, hc, .inr (.inl rfl)⟩⟩)))
            refine ⟨k + 1, by go_num, by omega, Lib.hid ⟨(box_other (by omega) 0 _).trans i0', ⟨_, box_set i1 0 _, ?_⟩, i3.setCell (p := ⟨w1.heap.size + 1, 0, none⟩) (by show w.heap.size ≤ w1.heap.size + 1; omega) _, i4.trans (KeepsOthers.setCell _ _ _), kf_t i5 (KF.set (by omega) (by omega))⟩⟩
            have et : textR (catX bs pre ++ bs[x].cs.take k ++ [(⟨s, q, f, r, false⟩ : PCell)]) = textR (catX bs pre ++ bs[x].cs.take k) ++ [r] := by rw [textR_app (catX bs pre ++ bs[x].cs.take k)]; rfl
            rw [HS.out, ← List.append_assoc, et, List.map_append, List.length_append (bs := [r])]
            exact own_far hown' i1 (by decide) 0 _
          case measure => simp [intOf]; omega
      · obtain rfl : N = k := by omega
        obtain ⟨b0, b1, b3, b4, b5⟩ := hI.out
        rw [List.take_of_length_le (by rw [HN.out.1]; exact Nat.le_refl _), ← HX.out] at b1
        have HB := Lib.hid (And.intro b0 (And.intro b1 (And.intro b3 (And.intro b4 b5))))
        clear b0 b1 b3 b4 b5 hI
        gi_wp2
        obtain ⟨b0, b1, b3, b4, b5⟩ := HB.out
        exact ⟨b4, b5, ⟨b0, b1⟩, b3⟩
  case done =>
    rintro D ys W hD rfl ⟨⟨c0, v, c1, ho⟩, hB⟩ hK
    rw [catX_all] at ho
    have e0 := box_cell c1 0
    have HJ2 := Lib.hid (HJ.out v W (Reads32.of_own ho))
    have HB := Lib.hid hB
    obtain ⟨ao', n', cap', rfl⟩ := slice_of ho
    clear ho hB c0 c1
    gi_wp2_with (refine ⟨trivial, ?_⟩; gi_at_call 49; refine (callsIn_wide.2 HJ2.out).mono ?_; rintro e w5 ⟨rfl, hb5⟩)
    have hK5 := row_up5 hK hb5
    refine ⟨by simp, .inl ⟨_, _, rfl, run_takeDeferred hK5, ?_⟩⟩
    have hBD := belowK_b (w := w) (Nat.le_refl _) w5 D _ (.deferred none) (by omega) hK5 rfl rfl
    exact ⟨_, results_tmp rfl _ _ _, rfl, (HB.out.trans (hb5.mono HB.out.size)).trans hBD⟩
  case stop =>
    rintro D c pre W hD hpre ⟨hno, _⟩ hK
    exact hno.elim
end Go.Proofs.YtfoglciiefoodaaGreatDoor

namespace Go.Proofs.YtfoglciiefoodaaGreatDoor
open Go.RowKit Go.Shelf
attribute [local go_sem] Oper.semAt_some

def preOk (c : PCell) : Bool := nMay c.site c.seq && decide (0 ≤ c.off ∧ c.off < 200)
theorem cellOk_pre (c : PCell) : cellOk c = (preOk c && Lib.validRune c.r) := by
  unfold cellOk preOk
  have : decide (0 ≤ c.off ∧ c.off ≤ 199) = decide (0 ≤ c.off ∧ c.off < 200) := by rw [decide_eq_decide]; omega
  rw [this]
theorem allOk_split (l : List PCell) : l.all cellOk = (l.all preOk && allValid (l.map (·.r))) := by
  unfold allValid
  rw [Bool.eq_iff_iff]
  simp only [List.all_eq_true, Bool.and_eq_true, List.mem_map, forall_exists_index, and_imp, forall_apply_eq_imp_iff₂, cellOk_pre]
  exact ⟨fun h => ⟨fun x hx => (h x hx).1, fun x hx => (h x hx).2⟩, fun ⟨a, b⟩ x hx => ⟨a x hx, b x hx⟩⟩
set_option maxRecDepth 100000 in
set_option maxHeartbeats 8000000 in
theorem cmay_any (v : Value) (l : List PCell) (w : World) (h : CAt w v l) (hl : l.length ≤ 1000000) : Calls Tryz.prog 36 #[v] w fun e w' => e = .returned (.bool (l.all cellOk)) ∧ Below w.heap.size w w' := by
  have HR := Lib.hid h
  obtain ⟨ao, cap, rfl, -⟩ := h.shape
  have HSP := Lib.hid (allOk_split l)
  have hjo := fun v W (h : Reads32 W v (l.map (·.r))) => join_any v (l.map (·.r)) (by rw [List.length_map]; omega) W h
  unfold JoinPost at hjo
  have HJ := Lib.hid hjo
  obtain ⟨N, hN⟩ : ∃ N, l.length = N := ⟨_, rfl⟩
  obtain ⟨cur, hcur, hmk⟩ := make_runes N (by omega)
  have HN := Lib.hid hN
  rw [hN] at hl
  obtain ⟨i0, hi, hz0, hz1, hz2⟩ := info_parts infoI32'
  have HI := Lib.hid (And.intro hi (And.intro hz0 (And.intro hz1 hz2)))
  have hcl : (0 : Int) ≤ (N : Int) ∧ (N : Int) ≤ 1000000 := by omega
  have hown := World.ownsRow_made (e := 21) w cur N (Nat.le_refl _) (by unfold maxLen; omega) hcur
  have HO := Lib.hid hown
  have HB0 := Lib.hid ((Below.refl _ w).alloc (Nat.le_refl _) (.cells cur 21))
  have hmay := fun s q W => pMayName_any s q W
  have hoff := fun o W => mayOff_any o W
  unfold nmV at hmay
  have HM := Lib.hid (And.intro hmay hoff)
  clear hN h hjo hi hz0 hz1 hz2 hown hmay hoff
  rw [HN.out]
  go_enter Tryz.func36, Tryz.ntmps36
  go_wp2
  generalize w.alloc (.cells cur 21) = w1 at HO HB0 ⊢
  go_loopw [13, 3] (fun i a wr => ∃ k : Nat, k ≤ N ∧ i = .int .i64 k ∧ (∃ ao n cap, a = .slice ao n cap ∧ RowKit.Hid (wr.ownsRow w.heap.size 21 1 (.slice ao n cap) k ((l.take k).map fun c => Value.int .i32 c.r))) ∧ RowKit.Hid (Below w.heap.size w wr) ∧ RowKit.Hid ((l.take k).all preOk = true)) (fun i _ _ => N - (intOf i).toNat)
  case atStart => exact ⟨0, Nat.zero_le _, rfl, ⟨_, _, _, rfl, by rw [List.take_zero]; exact HO⟩, HB0, Lib.hid (by simp)⟩
  case round =>
    rename World => wr
    obtain ⟨k, hk, rfl, ⟨ao', n', cap', rfl, hown⟩, hB, hall⟩ := hrel
    rcases Nat.lt_or_ge k N with hlt | hge
    · obtain ⟨c, hc⟩ : ∃ c, l[k]? = some c := ⟨_, List.getElem?_eq_getElem (by rw [HN.out]; exact hlt)⟩
      obtain ⟨b, off, cp, hv, c0, c1, c2, c3, c4⟩ := (HR.out.below hB.out).at hc
      rw [HN.out] at hv
      cases hv
      have hi0 : (0 : Int) ≤ (k : Int) ∧ (k : Int) < (N : Int) := ⟨by omega, by omega⟩
      have HC := Lib.hid hc
      obtain ⟨x, hx⟩ : ∃ x, nMay c.site c.seq = x := ⟨_, rfl⟩
      obtain ⟨y, hy⟩ : ∃ y, decide (0 ≤ c.off ∧ c.off < 200) = y := ⟨_, rfl⟩
      have h1 := HM.out.1 c.site c.seq
      have h2 := HM.out.2 c.off
      rw [hx] at h1
      rw [hy] at h2
      have HX := Lib.hid (And.intro hx hy)
      have H1 := Lib.hid h1
      have H2 := Lib.hid h2
      obtain ⟨s, q, f, r, g⟩ := c
      dsimp only at c0 c1 c2 c3 c4 H1 H2
      have e1 := heap_new wr (.cells #[.int .i64 s, .int .i64 q, .int .i64 f, .int .i32 r, .bool g] 62)
      have HA := Lib.hid (And.intro e1 (And.intro (hown.out.alloc (.cells #[.int .i64 s, .int .i64 q, .int .i64 f, .int .i32 r, .bool g] 62)) (hB.out.alloc hB.out.size (.cells #[.int .i64 s, .int .i64 q, .int .i64 f, .int .i32 r, .bool g] 62))))
      clear hc hx hy h1 h2 e1 hown
      cases x with
      | false =>
        go_wp2_with (go_at_call 66; refine (H1.out _).mono ?_; rintro e w2 ⟨rfl, hb2⟩)
        go_ret
        refine ⟨?_, HA.out.2.2.trans (hb2.mono HA.out.2.2.size)⟩
        rw [HSP.out, show l.all preOk = false from by rw [List.all_eq_false]; exact ⟨_, List.mem_of_getElem? HC.out, by unfold preOk; rw [HX.out.1]; simp⟩]
        rfl
      | true =>
        cases y with
        | false =>
          go_wp2_with (first | (go_at_call 66; refine (H1.out _).mono ?_; rintro e w2 ⟨rfl, hb2⟩; have q0 := row_up HA.out.1 hb2; have z2 := box_cell q0 2) | (go_at_call 67; refine (H2.out _).mono ?_; rintro e w3 ⟨rfl, rfl⟩))
          go_ret
          refine ⟨?_, HA.out.2.2.trans (hb2.mono HA.out.2.2.size)⟩
          rw [HSP.out, show l.all preOk = false from by rw [List.all_eq_false]; exact ⟨_, List.mem_of_getElem? HC.out, by unfold preOk; rw [HX.out.2]; simp⟩]
          rfl
        | true =>
          have hws : w.heap.size ≤ wr.heap.size := hB.out.size
          go_wp2_with (first | (go_at_call 66; refine (H1.out _).mono ?_; rintro e w2 ⟨rfl, hb2⟩; have q0 := row_up HA.out.1 hb2; have z2 := box_cell q0 2; have z3 := box_cell q0 3; have HO2 := Lib.hid (own_up HA.out.2.1 hb2); have HB2 := Lib.hid (HA.out.2.2.trans (hb2.mono HA.out.2.2.size)); have hs2 := HB2.out.size) | (go_at_call 67; refine (H2.out _).mono ?_; rintro e w3 ⟨rfl, rfl⟩) | (at_builtin; refine wpList_append_own _ rfl _ _ 65 rfl w.heap.size 21 i0 (.int .i32 0) 1 4 Tryz.underlying65 HI.out.1 HI.out.2.1 HI.out.2.2.1 HI.out.2.2.2 rfl (by decide) _ _ _ rfl (HO2.out.alloc _) ⟨w3.heap.size, 0, none⟩ 1 1 [.int .i32 r] rfl rfl (cell_one_new _ _ _) (by simp [Value.oneCell']) (by unfold maxLen; omega) (by omega) (by simp; omega) ?_; intro v' w4 hown' hgrow _; obtain ⟨g', cap', rfl⟩ := ownsRow_succ hown'; have HO4 := Lib.hid hown'; have HB4 := Lib.hid (below_grown (HB2.out.alloc HB2.out.size _) hgrow (HO2.out.alloc _) (Nat.le_refl _)); clear hown' hgrow))
          go_roundw
          case rel =>
            refine ⟨k + 1, by omega, by go_num, ⟨_, _, _, rfl, Lib.hid ?_⟩, HB4, Lib.hid ?_⟩
            · rw [List.take_add_one, HC.out, List.map_append]
              exact HO4.out
            · rw [List.take_add_one, HC.out, List.all_append, hall.out]
              have h8 : nMay s q = true := HX.out.1
              have h9 : decide (0 ≤ f ∧ f < 200) = true := HX.out.2
              unfold preOk
              simp only [List.all_cons, List.all_nil, Option.toList, h8, h9, Bool.and_self]
          case measure => simp [intOf]; omega
    · obtain rfl : N = k := by omega
      have ho := hown.out
      have ha := hall.out
      rw [List.take_of_length_le (by rw [HN.out]; exact Nat.le_refl _)] at ho ha
      rw [show l.map (fun c => Value.int .i32 c.r) = (l.map (·.r)).map (Value.int .i32) from by rw [List.map_map]; rfl] at ho
      have hlm : (l.map (·.r)).length = N := by rw [List.length_map, HN.out]
      rw [← hlm] at ho
      have HJ2 := Lib.hid (HJ.out _ wr (Reads32.of_own ho))
      have HF := Lib.hid (show l.all cellOk = allValid (l.map (·.r)) by rw [HSP.out, ha, Bool.true_and])
      clear ho ha hlm
      obtain ⟨z, hz⟩ : ∃ z, allValid (l.map (·.r)) = z := ⟨_, rfl⟩
      have hj := HJ2.out
      rw [hz] at hj
      have HZ := Lib.hid hz
      clear hz HJ2
      cases z with
      | true =>
        rw [if_pos rfl] at hj
        have HJ3 := Lib.hid hj
        clear hj
        go_wp2_with (go_at_call 49; refine HJ3.out.mono ?_; rintro e w2 ⟨rfl, hb2⟩)
        go_ret
        exact ⟨by rw [HF.out, HZ.out]; rfl, hB.out.trans (hb2.mono hB.out.size)⟩
      | false =>
        rw [if_neg (by decide)] at hj
        have HJ3 := Lib.hid hj
        clear hj
        go_wp2_with (go_at_call 49; refine HJ3.out.mono ?_; rintro e w2 ⟨rfl, hb2⟩)
        go_ret
        exact ⟨by rw [HF.out, HZ.out]; rfl, hB.out.trans (hb2.mono hB.out.size)⟩
end Go.Proofs.YtfoglciiefoodaaGreatDoor

namespace Go.Proofs.YtfoglciiefoodaaGreatDoor
open Go.RowKit Go.Shelf
attribute [local go_sem] Oper.semAt_some

structure Blocks (W : World) (n₀ : Nat) (v : Value) (bs : List PB) : Prop where
  row : W.ownsRow n₀ 96 3 v bs.length (kCells bs)
  own : ∀ x ∈ bs, W.ownsRow n₀ 62 5 x.v x.cs.length (cCells x.cs)
  apart : bs.Pairwise fun x y => ∀ g, x.v.ownBlock = some g → y.v.ownBlock = some g → False
theorem Blocks.nil (W : World) (n₀ : Nat) : Blocks W n₀ (.slice none 0 0) [] := ⟨World.ownsRow_nil _ _ _ _, (fun _ h => by cases h), List.Pairwise.nil⟩
theorem Blocks.up {W W' : World} {n₀ : Nat} {v : Value} {bs : List PB} (h : Blocks W n₀ v bs) (hb : Below W.heap.size W W') : Blocks W' n₀ v bs := ⟨own_up h.row hb, fun x hx => own_up (h.own x hx) hb, h.apart⟩
theorem Blocks.turn {W W' : World} {row : Option Nat} {n₀ : Nat} {v : Value} {bs : List PB} (h : Blocks W n₀ v bs) (hg : W.grownBy W' row) (hr : ∀ r, row = some r → ∃ o : Obj, W.heap[r]? = some o ∧ o.isCells = false) : Blocks W' n₀ v bs :=
  ⟨own_turn h.row hg hr, fun x hx => own_turn (h.own x hx) hg hr, h.apart⟩
theorem infoBlkI : ∃ i, Tryz.prog.info? 96 = some i ∧ i.zero = some (.agg #[.int .i64 0, .int .i64 0, .slice none 0 0]) ∧ i.size = 3 ∧ i.bytes = 40 := by
  have h : (Tryz.prog.info? 96).map (fun i => (i.zero, i.size, i.bytes)) = some (some (.agg #[.int .i64 0, .int .i64 0, .slice none 0 0]), 3, 40) := by kernel_rfl
  cases hi : Tryz.prog.info? 96 with
  | none => rw [hi] at h; cases h
  | some i =>
    rw [hi] at h
    simp at h
    exact ⟨i, rfl, h.1, h.2.1, h.2.2⟩
theorem append_block (base : Nat) (v : Value) (bs : List PB) (x : PB) (u : Value) (w : World) (N : Nat) (hbn : bs.length = N) (hown : w.ownsRow base 96 3 v bs.length (kCells bs)) (hr : RowR 3 w u 1 (kV x)) (hx : x.v.oneCell' = true) (hl : N ≤ 1000000) (hb : base ≤ w.heap.size) (ty : TypeId) :
    ∃ v' w', (Builtin.append_ #[76, 76] ty #[v, u]).run Tryz.prog w = .ok v' w' ∧ w'.ownsRow base 96 3 v' (bs ++ [x]).length (kCells (bs ++ [x])) ∧ w.grownBy w' v.ownBlock := by
  obtain ⟨i, hi, hz, hs, hy⟩ := infoBlkI
  rw [hbn] at hown
  rw [List.length_append, List.length_singleton, kCells_append, hbn]
  have : kCells [x] = kV x := by show kV x ++ [] = _; rw [List.append_nil]
  rw [this]
  exact run_app_any base _ ty _ i _ 3 40 Tryz.underlying76 hi hz hs hy rfl (by decide) v _ _ hown u _ _ hr (fun u hu => by
    unfold kV at hu
    rcases List.mem_cons.1 hu with h | hu
    · rw [h]; rfl
    · rcases List.mem_cons.1 hu with h | hu
      · rw [h]; rfl
      · rw [List.mem_singleton.1 hu]; exact hx) (by unfold maxLen; omega) (by omega) hb
theorem clone_cells (b off n c : Nat) (l : List PCell) (w : World) (h : CAt w (.slice (some ⟨b, off, none⟩) n c) l) (hl : l.length ≤ 1000000) :
    Calls Tryz.prog 71 #[.slice (some ⟨b, off, none⟩) n c] w fun e w' => ∃ v', e = .returned v' ∧ w'.ownsRow w.heap.size 62 5 v' l.length (cCells l) ∧ Below w.heap.size w w' := by
  obtain ⟨i, hi, hz, hs, hy⟩ := infoCellI
  obtain ⟨hlen, ao', cap', e, h1, h2, h3, h4⟩ := h
  cases e
  obtain ⟨b', off', e, hlt, hc⟩ := h4 _ rfl
  cases e
  refine (AnyE.slices_Clone Tryz.cloneC i _ 5 32 hi hz hs hy rfl (by decide) Tryz.sizeOf62 b off l.length c (cCells l) w (cCells_length l) (by unfold maxLen; omega) (by omega) hc (cCells_ones l)).mono ?_
  rintro e w' ⟨v', rfl, ho, -, hb⟩
  exact ⟨v', rfl, ho, hb⟩
def chC (l : List PCell) (k : Nat) : List PCell := (l.drop (128 * k)).take 128
theorem chC_length (l : List PCell) (k : Nat) : (chC l k).length = chL l.length k := by unfold chC chL; rw [List.length_take, List.length_drop]
theorem chC_all (l : List PCell) : ((List.finRange (chN l.length)).map fun x => chC l x.val).flatten = l := by
  have h : ∀ k, k ≤ chN l.length → ((frK (chN l.length) k).map fun x => chC l x.val).flatten = l.take (128 * k) := by
    intro k
    induction k with
    | zero => intro _; simp [frK]
    | succ k ih =>
      intro hk
      rw [frK_next _ k (by omega), List.map_append, List.flatten_append, ih (by omega)]
      simp only [List.map_cons, List.map_nil, List.flatten_cons, List.flatten_nil, List.append_nil, chC]
      rw [show 128 * (k + 1) = 128 * k + 128 by omega, List.take_add]
  rw [← frK_all, h _ (Nat.le_refl _), List.take_of_length_le (by unfold chN; omega)]
theorem catB_flat (bs : List PB) : catB bs = (bs.map (·.cs)).flatten := by unfold catB; rw [List.flatMap_def]
theorem CAt.part {W : World} {b off N cap : Nat} {l : List PCell} (h : CAt W (.slice (some ⟨b, off, none⟩) N cap) l) (hN : l.length = N) (k : Nat) (hk : 128 * k < N) :
    CAt W (.slice (some ⟨b, off + 128 * k * 5, none⟩) (chL N k) (chL N k)) (chC l k) := by
  subst hN
  obtain ⟨hl, ao', cap', e, h1, h2, h3, h4⟩ := h
  cases e
  obtain ⟨b', off', e, hlt, hc⟩ := h4 _ rfl
  cases e
  have hsp : l = l.take (128 * k) ++ (chC l k ++ (l.drop (128 * k)).drop 128) := by
    unfold chC
    rw [List.take_append_drop, List.take_append_drop]
  have hcl : chL l.length k ≤ l.length := by unfold chL; omega
  refine ⟨cCells_length _, _, chL l.length k, by rw [chC_length], by rw [chC_length]; exact Nat.le_refl _, by omega, (fun q => by cases q), fun ad ha => ?_⟩
  cases ha
  refine ⟨b, off + 128 * k * 5, rfl, hlt, fun j u hj => ?_⟩
  have hjl := (List.getElem?_eq_some_iff.1 hj).1
  have : (cCells l)[128 * k * 5 + j]? = some u := by
    rw [hsp, cCells_append, cCells_append, List.getElem?_append_right (by rw [cCells_length, List.length_take]; omega), cCells_length, List.length_take, Nat.min_eq_left (by omega), List.getElem?_append_left (by omega), show 128 * k * 5 + j - 128 * k * 5 = j by omega]
    exact hj
  rw [Nat.add_assoc]
  exact hc _ _ this
set_option maxRecDepth 100000 in
set_option maxHeartbeats 8000000 in
theorem laid_any (v : Value) (l : List PCell) (w : World) (h : CAt w v l) (hl : l.length ≤ 1000000) :
    Calls Tryz.prog 38 #[v] w fun e w' => ∃ v' bs, e = .returned v' ∧ Blocks w' w.heap.size v' bs ∧ catB bs = l ∧ bs.length ≤ 1000000 ∧ ((∀ x ∈ bs, x.cs ≠ []) ∧ bs.length = chN l.length) ∧ Below w.heap.size w w' := by
  have HR := Lib.hid h
  have hro := h.2
  obtain ⟨ao, cap, rfl, hcap, hcm, hnone, hsome⟩ := hro
  obtain ⟨N, hN⟩ : ∃ N, l.length = N := ⟨_, rfl⟩
  have HN := Lib.hid hN
  have hao : 0 < N → ∃ b off, ao = some ⟨b, off, none⟩ := fun hp => by
    cases ao with
    | none => have := hnone rfl; omega
    | some ad => obtain ⟨b, off, e, _⟩ := hsome ad rfl; exact ⟨b, off, by rw [e]⟩
  rw [hN] at hl hcap
  have hch := fun W => chunk_any ao N cap W
  have HS := Lib.hid (And.intro hao hcap)
  have A0 := row_al (row_al (heap_new w (.cells #[.slice none 0 0] 76)) (.cells #[.slice ao N cap] 22)) (.cells #[.int .i64 128] 3)
  have A1 := row_al (heap_new1 w (.cells #[.slice none 0 0] 76) (.cells #[.slice ao N cap] 22)) (.cells #[.int .i64 128] 3)
  have A2 := heap_new2 w (.cells #[.slice none 0 0] 76) (.cells #[.slice ao N cap] 22) (.cells #[.int .i64 128] 3)
  have AB : Below w.heap.size w (((w.alloc (.cells #[.slice none 0 0] 76)).alloc (.cells #[.slice ao N cap] 22)).alloc (.cells #[.int .i64 128] 3)) := (((Below.refl _ w).alloc (Nat.le_refl _) _).alloc (by simp) _).alloc (by simp; omega) _
  have AS : (((w.alloc (.cells #[.slice none 0 0] 76)).alloc (.cells #[.slice ao N cap] 22)).alloc (.cells #[.int .i64 128] 3)).heap.size = w.heap.size + 1 + 1 + 1 := by simp
  have HA := Lib.hid (And.intro A0 (And.intro A1 (And.intro A2 (And.intro AB AS))))
  clear h hN hao hcap hcm hnone hsome A0 A1 A2 AB AS
  rw [HN.out]
  refine (callsIn_wide (n := 4)).1 ?_
  refine callsIn_of_wp_marks Tryz.func38 rfl trivial ?_ rfl
  simp only [Tryz.ntmps38, List.size_toArray, List.length_cons, List.length_nil, Nat.reduceAdd, Nat.reduceSub, Array.replicate_succ, Array.replicate_zero, List.push_toArray, List.append_toArray, List.nil_append, List.cons_append]
  gi_wp2_with (refine ⟨trivial, ?_⟩; gi_at_call 69; refine (callsIn_wide.2 (hch _)).mono ?_; rintro e _ ⟨rfl, rfl⟩)
  obtain ⟨A0, A1, A2, AB, AS⟩ := HA.out
  generalize ((w.alloc (.cells #[.slice none 0 0] 76)).alloc (.cells #[.slice ao N cap] 22)).alloc (.cells #[.int .i64 128] 3) = w3 at A0 A1 A2 AB AS ⊢
  clear HA
  have hst := chunk_stops 3 (by decide) (w.heap.size + 1) (w.heap.size + 1 + 1) w.heap.size (w.heap.size + 1) ao N cap HS.out.1 hl HS.out.2 w3 A1 A2 (Nat.le_refl _) (by omega)
  refine wpIn_rangeFunc_ownF rfl (by decide) (gf := 98) (lb := #[.pointer (some ⟨w.heap.size + 1, 0, none⟩), .pointer (some ⟨w.heap.size + 1 + 1, 0, none⟩)]) rfl trivial (enters_of Tryz.func98 (by kernel_rfl) rfl)
    hst (fun h k => kf_t h k) (kf_b (by omega)) (Below.refl _ _) (fun _ => rfl)
    (fun pre X => (∃ v' bs, X.heap[w.heap.size]? = some (.cells #[v'] 76 (0, 0)) ∧ Blocks X w.heap.size v' bs ∧ bs.map (·.cs) = pre.map fun x => chC l x.val) ∧ Below w.heap.size w X)
    (fun c pre X => False ∧ Below w.heap.size w X)
    (OwnFrom.and (Own.from (fun s A B row hs hg hr => by obtain ⟨v', bs, h1, h2, h3⟩ := hs; exact ⟨v', bs, row_turn h1 hg hr, h2.turn hg hr, h3⟩) _) (ownFrom_below (Nat.le_refl _) (by omega)))
    (fun c => OwnFrom.and (Own.from (fun s A B row hs hg hr => hs.elim) _) (ownFrom_below (Nat.le_refl _) (by omega)))
    ⟨⟨_, [], A0, Blocks.nil _ _, rfl⟩, AB⟩
    (fun x => { tmps := #[.slice ao N cap, undef, .slice none 0 0, .pointer (some ⟨w.heap.size, 0, none⟩), .slice (ao.map fun a => a.add (128 * x.val * 5)) (chL N x.val) (chL N x.val), .slice ao N cap, .func (.func 98) #[] #[.pointer (some ⟨w.heap.size + 1, 0, none⟩), .pointer (some ⟨w.heap.size + 1 + 1, 0, none⟩)], .slice (ao.map fun a => a.add (128 * x.val * 5)) (chL N x.val) (chL N x.val), undef, undef, undef, undef, undef, undef, undef, undef, undef], defers := [] }) ?assign ?body ?done ?stop
  case assign =>
    intro l x W K hK
    gi_wp2
    exact hK
  case body =>
    rintro lp pre x W ⟨⟨vall, bs, c0, hBk, hbs⟩, hB⟩ hlen
    have hx := chN_lt.1 x.isLt
    obtain ⟨b, off, rfl⟩ := HS.out.1 (by omega)
    obtain ⟨ao', n', cap', rfl⟩ := slice_of hBk.row
    have hpart := CAt.part (by have := HR.out; rw [HN.out] at this; exact this) HN.out x.val hx
    have hcl : (chC l x.val).length = chL N x.val := by rw [chC_length, HN.out]
    have hE1 : 1 ≤ chL N x.val ∧ chL N x.val ≤ 128 := by unfold chL; omega
    have hbn : bs.length ≤ 1000000 := by
      have := congrArg List.length hbs
      rw [List.length_map, List.length_map] at this
      have h2 : chN N ≤ 7813 := by unfold chN; omega
      omega
    have HBN := Lib.hid hbn
    have HP := Lib.hid hpart
    have HCL := Lib.hid hcl
    have HBS := Lib.hid hbs
    have HC := Lib.hid (And.intro c0 (And.intro hBk hB))
    obtain ⟨E, hE⟩ : ∃ E, chL N x.val = E := ⟨_, rfl⟩
    rw [hE] at HP HCL hE1
    dsimp only [Option.map]
    simp only [Addr.add_lit]
    rw [hE]
    have HCN := Lib.hid (fun X (h : Below w.heap.size w X) => counted_any _ (chC l x.val) X (HP.out.below h) (by rw [HCL.out]; omega))
    have HCO := Lib.hid (fun X (h : Below w.heap.size w X) => clone_cells b (off + 128 * x.val * 5) E E (chC l x.val) X (HP.out.below h) (by rw [HCL.out]; omega))
    clear c0 hBk hbs hB hpart hcl hbn hE hx hlen
    gi_wp2
    refine region_bridge (ro := some lp) (S := fun X => (∃ z, X.heap[w.heap.size]? = some (.cells #[z] 76 (0, 0))) ∧ Below w.heap.size w X) (by kernel_rfl) (by kernel_rfl) (by rintro ⟨_, _, h⟩; exact h) ⟨⟨_, HC.out.1⟩, HC.out.2.2.drew⟩ (fun hHeld => ?_)
    refine wpAnyH_take (i := 1) (v := ?_) rfl (by kernel_rfl) (by kernel_rfl) (by kernel_rfl) (fun _ _ _ h => h) (Or.inl ⟨rfl, ?hy1⟩) (by assumption) ?_
    case hy1 =>
      intro W hS
      go_simp
      try with_reducible rfl
    try simp only [Act.put, List.getElem_toArray, List.getElem_cons_succ, List.getElem_cons_zero, List.setIfInBounds_toArray, List.set_cons_zero, List.set_cons_succ]
    refine wpAnyH_take (i := 3) (v := ?_) rfl (by kernel_rfl) (by kernel_rfl) (by kernel_rfl) (fun _ _ _ h => h) (Or.inl ⟨rfl, ?hy2⟩) (by assumption) ?_
    case hy2 =>
      intro W hS
      go_simp
      try with_reducible rfl
    try simp only [Act.put, List.getElem_toArray, List.getElem_cons_succ, List.getElem_cons_zero, List.setIfInBounds_toArray, List.set_cons_zero, List.set_cons_succ]
    refine wpAnyH_ready (rs := [0, 2]) (by kernel_rfl) (by simp) (AllReadyH.cons rfl (fun K hK => ?_) (AllReadyH.cons rfl (fun K hK => ?_) AllReadyH.nil))
    · have zn := box_cell (w := W.drew) HC.out.1 0
      go_simp
      refine hK.out _ _ (hHeld) (fun hX => ?_)
      clear hK K hHeld
      have hHeld := hX
      clear hX
      refine wpAnyH_ready (rs := [2]) (by kernel_rfl) (by simp) (AllReadyH.cons rfl (fun K hK => ?_) AllReadyH.nil)
      go_simp
      go_wp2_with (go_at_call 70; refine (HCN.out _ hHeld.2).mono ?_; rintro e wb ⟨rfl, hb⟩)
      have c0b := row_up (W := W.drew) HC.out.1 hb
      refine hK.out _ _ (⟨⟨_, c0b⟩, hHeld.2.trans (hb.mono hHeld.2.size)⟩) (fun hX => ?_)
      clear hK K hHeld
      have hHeld := hX
      clear hX
      refine wpAnyH_ready (rs := [4]) (by kernel_rfl) (by simp) (AllReadyH.cons rfl (fun K hK => ?_) AllReadyH.nil)
      go_simp
      go_wp2_with (go_at_call 71; refine (HCO.out _ hHeld.2).mono ?_; rintro e wc ⟨vc, rfl, hoc, hbc⟩)
      have c0c := row_up c0b hbc
      obtain ⟨gv, capv, hvc, hgv, hgl⟩ := ownsRow_form hoc (by rw [HCL.out]; omega)
      subst hvc
      refine hK.out _ _ (⟨⟨_, c0c⟩, hHeld.2.trans (hbc.mono hHeld.2.size)⟩) (fun hX => ?_)
      clear hK K hHeld
      have hHeld := hX
      clear hX
      refine wpAnyH_take (i := 5) (v := ?_) rfl (by kernel_rfl) (by kernel_rfl) (by kernel_rfl) (fun _ _ _ h => h) (Or.inl ⟨rfl, ?hy3⟩) (by assumption) ?_
      case hy3 =>
        intro W hS
        go_simp
        try with_reducible rfl
      try simp only [Act.put, List.getElem_toArray, List.getElem_cons_succ, List.getElem_cons_zero, List.setIfInBounds_toArray, List.set_cons_zero, List.set_cons_succ]
      refine wpAnyH_ready (rs := [6]) (by kernel_rfl) (by simp) (AllReadyH.cons rfl (fun K hK => ?_) AllReadyH.nil)
      go_simp
      have c0d := row_al c0c (.cells #[.int .i64 (liveN (chC l x.val) : Nat), .int .i64 (goneN (chC l x.val) : Nat), .slice (some ⟨gv, 0, none⟩) (chC l x.val).length capv] 96)
      refine hK.out _ _ (⟨⟨_, c0d⟩, hHeld.2.alloc hHeld.2.size _⟩) (fun hX => ?_)
      clear hK K hHeld
      have hHeld := hX
      clear hX
      refine wpAnyH_ready (rs := [7]) (by kernel_rfl) (by simp) (AllReadyH.cons rfl (fun K hK => ?_) AllReadyH.nil)
      have hDc : Below W.heap.size W wc := ((Below.refl W.heap.size W).drew.trans hb).trans (hbc.mono hb.size)
      have hBc := HC.out.2.1.up hDc
      have hnew := heap_new wc (.cells #[.int .i64 (liveN (chC l x.val) : Nat), .int .i64 (goneN (chC l x.val) : Nat), .slice (some ⟨gv, 0, none⟩) (chC l x.val).length capv] 96)
      obtain ⟨va, Wa, hra, hoa, hga⟩ := append_block w.heap.size _ bs ⟨chC l x.val, .slice (some ⟨gv, 0, none⟩) (chC l x.val).length capv⟩ (.slice (some ⟨wc.heap.size, 0, none⟩) 1 1) (wc.alloc (.cells #[.int .i64 (liveN (chC l x.val) : Nat), .int .i64 (goneN (chC l x.val) : Nat), .slice (some ⟨gv, 0, none⟩) (chC l x.val).length capv] 96)) bs.length rfl (hBc.row.alloc (.cells #[.int .i64 (liveN (chC l x.val) : Nat), .int .i64 (goneN (chC l x.val) : Nat), .slice (some ⟨gv, 0, none⟩) (chC l x.val).length capv] 96)) ⟨rfl, _, 1, rfl, fun _ => ⟨wc.heap.size, 0, rfl, fun j u hj => by rw [Nat.zero_add]; exact (box_cell hnew j).trans (by simpa [kV] using hj)⟩⟩ rfl HBN.out hHeld.2.size 76
      obtain ⟨va1, va2, va3, rfl⟩ := slice_of hoa
      have hBd := hBc.row.alloc (.cells #[.int .i64 (liveN (chC l x.val) : Nat), .int .i64 (goneN (chC l x.val) : Nat), .slice (some ⟨gv, 0, none⟩) (chC l x.val).length capv] 96)
      have cA := row_grown c0d hga hBd (by decide)
      rw [if_pos (by rfl)]
      refine wp_run_append rfl rfl rfl hra ?_
      refine hK.out _ _ (⟨⟨_, cA⟩, below_grown hHeld.2 hga hBd (Nat.le_refl _)⟩) (fun hX => ?_)
      clear hK K hHeld
      have hHeld := hX
      clear hX
      refine wpAnyH_ready (rs := [8]) (by kernel_rfl) (by simp) (AllReadyH.cons rfl (fun K hK => ?_) AllReadyH.nil)
      have z0 := box_cell cA 0
      have zf := box_frozen cA 0
      go_simp
      refine hK.out _ _ (⟨⟨_, box_set cA 0 _⟩, hHeld.2.setCell (p := ⟨w.heap.size, 0, none⟩) (Nat.le_refl _) _⟩) (fun hX => ?_)
      clear hK K hHeld
      have hHeld := hX
      clear hX
      refine wpAnyH_done (by kernel_rfl) ?_ _
      gi_wp2
      have hTy := own_typed hBd
      refine ⟨?_, ?_, ⟨⟨_, bs ++ [⟨chC l x.val, .slice (some ⟨gv, 0, none⟩) (chC l x.val).length capv⟩], box_set cA 0 _, ⟨own_far hoa cA (by decide) 0 _, fun y hy => ?_, ?_⟩, ?_⟩, hHeld.2⟩⟩
      · exact (KeepsOthers.drew W).trans ((others_below hb).trans ((others_below hbc).trans ((KeepsOthers.alloc wc _).trans ((KeepsOthers.of_grownBy hga (fun j o hj ho => by obtain ⟨_, cur', hc⟩ := hTy j hj; rw [hc] at ho; cases ho; rfl)).trans (KeepsOthers.setCell _ _ _)))))
      · exact kf_t (KF.refl _ _ W).drew (kf_t (KF.below HC.out.2.2.drew.size hb) (kf_t (KF.below (Nat.le_trans HC.out.2.2.drew.size hb.size) hbc) (kf_t (KF.alloc (Nat.le_trans (Nat.le_trans HC.out.2.2.drew.size hb.size) hbc.size) _) (kf_t (KF.grown hga (Nat.le_trans (Nat.le_trans (Nat.le_trans HC.out.2.2.drew.size hb.size) hbc.size) (by simp)) (fun g e => by obtain ⟨q1, cur', hc⟩ := hTy g e; exact ⟨q1, .inr ⟨_, _, _, hc, .inr (.inr (.inr rfl))⟩⟩)) (KF.set (Nat.le_refl _) (by omega))))))
      · refine own_far (own_turnT (T := fun t => t = 62) (W := wc.alloc (.cells #[.int .i64 (liveN (chC l x.val) : Nat), .int .i64 (goneN (chC l x.val) : Nat), .slice (some ⟨gv, 0, none⟩) (chC l x.val).length capv] 96)) ?_ hga (fun r e => by obtain ⟨_, cur', hc⟩ := hTy r e; exact ⟨_, hc, .inr ⟨_, _, _, rfl, by decide⟩⟩) rfl) cA (by decide) 0 _
        rcases List.mem_append.1 hy with h | h
        · exact (hBc.own y h).alloc _
        · rw [List.mem_singleton.1 h]
          exact (own_lower hoc (Nat.le_trans HC.out.2.2.drew.size hb.size)).alloc _
      · rw [List.pairwise_append]
        refine ⟨HC.out.2.1.apart, List.pairwise_singleton _ _, fun y hy z hz g h1 h2 => ?_⟩
        rw [List.mem_singleton.1 hz] at h2
        obtain ⟨_, cur', hc⟩ := own_typed (HC.out.2.1.own y hy) g h1
        have q1 := box_lt hc
        obtain ⟨q2, _⟩ := own_typed hoc g h2
        have q3 : W.heap.size ≤ wb.heap.size := hb.size
        omega
      · rw [List.map_append, List.map_append, HBS.out]
        rfl
    · go_simp
      go_wp2_with (go_at_call 70; refine (HCN.out _ hHeld.2).mono ?_; rintro e wb ⟨rfl, hb⟩)
      have c0b := row_up (W := W.drew) HC.out.1 hb
      refine hK.out _ _ (⟨⟨_, c0b⟩, hHeld.2.trans (hb.mono hHeld.2.size)⟩) (fun hX => ?_)
      clear hK K hHeld
      have hHeld := hX
      clear hX
      refine wpAnyH_ready (rs := [0, 4]) (by kernel_rfl) (by simp) (AllReadyH.cons rfl (fun K hK => ?_) (AllReadyH.cons rfl (fun K hK => ?_) AllReadyH.nil))
      · have zn := box_cell c0b 0
        go_simp
        refine hK.out _ _ (hHeld) (fun hX => ?_)
        clear hK K hHeld
        have hHeld := hX
        clear hX
        refine wpAnyH_ready (rs := [4]) (by kernel_rfl) (by simp) (AllReadyH.cons rfl (fun K hK => ?_) AllReadyH.nil)
        go_simp
        go_wp2_with (go_at_call 71; refine (HCO.out _ hHeld.2).mono ?_; rintro e wc ⟨vc, rfl, hoc, hbc⟩)
        have c0c := row_up c0b hbc
        obtain ⟨gv, capv, hvc, hgv, hgl⟩ := ownsRow_form hoc (by rw [HCL.out]; omega)
        subst hvc
        refine hK.out _ _ (⟨⟨_, c0c⟩, hHeld.2.trans (hbc.mono hHeld.2.size)⟩) (fun hX => ?_)
        clear hK K hHeld
        have hHeld := hX
        clear hX
        refine wpAnyH_take (i := 5) (v := ?_) rfl (by kernel_rfl) (by kernel_rfl) (by kernel_rfl) (fun _ _ _ h => h) (Or.inl ⟨rfl, ?hy4⟩) (by assumption) ?_
        case hy4 =>
          intro W hS
          go_simp
          try with_reducible rfl
        try simp only [Act.put, List.getElem_toArray, List.getElem_cons_succ, List.getElem_cons_zero, List.setIfInBounds_toArray, List.set_cons_zero, List.set_cons_succ]
        refine wpAnyH_ready (rs := [6]) (by kernel_rfl) (by simp) (AllReadyH.cons rfl (fun K hK => ?_) AllReadyH.nil)
        go_simp
        have c0d := row_al c0c (.cells #[.int .i64 (liveN (chC l x.val) : Nat), .int .i64 (goneN (chC l x.val) : Nat), .slice (some ⟨gv, 0, none⟩) (chC l x.val).length capv] 96)
        refine hK.out _ _ (⟨⟨_, c0d⟩, hHeld.2.alloc hHeld.2.size _⟩) (fun hX => ?_)
        clear hK K hHeld
        have hHeld := hX
        clear hX
        refine wpAnyH_ready (rs := [7]) (by kernel_rfl) (by simp) (AllReadyH.cons rfl (fun K hK => ?_) AllReadyH.nil)
        have hDc : Below W.heap.size W wc := ((Below.refl W.heap.size W).drew.trans hb).trans (hbc.mono hb.size)
        have hBc := HC.out.2.1.up hDc
        have hnew := heap_new wc (.cells #[.int .i64 (liveN (chC l x.val) : Nat), .int .i64 (goneN (chC l x.val) : Nat), .slice (some ⟨gv, 0, none⟩) (chC l x.val).length capv] 96)
        obtain ⟨va, Wa, hra, hoa, hga⟩ := append_block w.heap.size _ bs ⟨chC l x.val, .slice (some ⟨gv, 0, none⟩) (chC l x.val).length capv⟩ (.slice (some ⟨wc.heap.size, 0, none⟩) 1 1) (wc.alloc (.cells #[.int .i64 (liveN (chC l x.val) : Nat), .int .i64 (goneN (chC l x.val) : Nat), .slice (some ⟨gv, 0, none⟩) (chC l x.val).length capv] 96)) bs.length rfl (hBc.row.alloc (.cells #[.int .i64 (liveN (chC l x.val) : Nat), .int .i64 (goneN (chC l x.val) : Nat), .slice (some ⟨gv, 0, none⟩) (chC l x.val).length capv] 96)) ⟨rfl, _, 1, rfl, fun _ => ⟨wc.heap.size, 0, rfl, fun j u hj => by rw [Nat.zero_add]; exact (box_cell hnew j).trans (by simpa [kV] using hj)⟩⟩ rfl HBN.out hHeld.2.size 76
        obtain ⟨va1, va2, va3, rfl⟩ := slice_of hoa
        have hBd := hBc.row.alloc (.cells #[.int .i64 (liveN (chC l x.val) : Nat), .int .i64 (goneN (chC l x.val) : Nat), .slice (some ⟨gv, 0, none⟩) (chC l x.val).length capv] 96)
        have cA := row_grown c0d hga hBd (by decide)
        rw [if_pos (by rfl)]
        refine wp_run_append rfl rfl rfl hra ?_
        refine hK.out _ _ (⟨⟨_, cA⟩, below_grown hHeld.2 hga hBd (Nat.le_refl _)⟩) (fun hX => ?_)
        clear hK K hHeld
        have hHeld := hX
        clear hX
        refine wpAnyH_ready (rs := [8]) (by kernel_rfl) (by simp) (AllReadyH.cons rfl (fun K hK => ?_) AllReadyH.nil)
        have z0 := box_cell cA 0
        have zf := box_frozen cA 0
        go_simp
        refine hK.out _ _ (⟨⟨_, box_set cA 0 _⟩, hHeld.2.setCell (p := ⟨w.heap.size, 0, none⟩) (Nat.le_refl _) _⟩) (fun hX => ?_)
        clear hK K hHeld
        have hHeld := hX
        clear hX
        refine wpAnyH_done (by kernel_rfl) ?_ _
        gi_wp2
        have hTy := own_typed hBd
        refine ⟨?_, ?_, ⟨⟨_, bs ++ [⟨chC l x.val, .slice (some ⟨gv, 0, none⟩) (chC l x.val).length capv⟩], box_set cA 0 _, ⟨own_far hoa cA (by decide) 0 _, fun y hy => ?_, ?_⟩, ?_⟩, hHeld.2⟩⟩
        · exact (KeepsOthers.drew W).trans ((others_below hb).trans ((others_below hbc).trans ((KeepsOthers.alloc wc _).trans ((KeepsOthers.of_grownBy hga (fun j o hj ho => by obtain ⟨_, cur', hc⟩ := hTy j hj; rw [hc] at ho; cases ho; rfl)).trans (KeepsOthers.setCell _ _ _)))))
        · exact kf_t (KF.refl _ _ W).drew (kf_t (KF.below HC.out.2.2.drew.size hb) (kf_t (KF.below (Nat.le_trans HC.out.2.2.drew.size hb.size) hbc) (kf_t (KF.alloc (Nat.le_trans (Nat.le_trans HC.out.2.2.drew.size hb.size) hbc.size) _) (kf_t (KF.grown hga (Nat.le_trans (Nat.le_trans (Nat.le_trans HC.out.2.2.drew.size hb.size) hbc.size) (by simp)) (fun g e => by obtain ⟨q1, cur', hc⟩ := hTy g e; exact ⟨q1, .inr ⟨_, _, _, hc, .inr (.inr (.inr rfl))⟩⟩)) (KF.set (Nat.le_refl _) (by omega))))))
        · refine own_far (own_turnT (T := fun t => t = 62) (W := wc.alloc (.cells #[.int .i64 (liveN (chC l x.val) : Nat), .int .i64 (goneN (chC l x.val) : Nat), .slice (some ⟨gv, 0, none⟩) (chC l x.val).length capv] 96)) ?_ hga (fun r e => by obtain ⟨_, cur', hc⟩ := hTy r e; exact ⟨_, hc, .inr ⟨_, _, _, rfl, by decide⟩⟩) rfl) cA (by decide) 0 _
          rcases List.mem_append.1 hy with h | h
          · exact (hBc.own y h).alloc _
          · rw [List.mem_singleton.1 h]
            exact (own_lower hoc (Nat.le_trans HC.out.2.2.drew.size hb.size)).alloc _
        · rw [List.pairwise_append]
          refine ⟨HC.out.2.1.apart, List.pairwise_singleton _ _, fun y hy z hz g h1 h2 => ?_⟩
          rw [List.mem_singleton.1 hz] at h2
          obtain ⟨_, cur', hc⟩ := own_typed (HC.out.2.1.own y hy) g h1
          have q1 := box_lt hc
          obtain ⟨q2, _⟩ := own_typed hoc g h2
          have q3 : W.heap.size ≤ wb.heap.size := hb.size
          omega
        · rw [List.map_append, List.map_append, HBS.out]
          rfl
      · go_simp
        go_wp2_with (go_at_call 71; refine (HCO.out _ hHeld.2).mono ?_; rintro e wc ⟨vc, rfl, hoc, hbc⟩)
        have c0c := row_up c0b hbc
        obtain ⟨gv, capv, hvc, hgv, hgl⟩ := ownsRow_form hoc (by rw [HCL.out]; omega)
        subst hvc
        refine hK.out _ _ (⟨⟨_, c0c⟩, hHeld.2.trans (hbc.mono hHeld.2.size)⟩) (fun hX => ?_)
        clear hK K hHeld
        have hHeld := hX
        clear hX
        refine wpAnyH_take (i := 5) (v := ?_) rfl (by kernel_rfl) (by kernel_rfl) (by kernel_rfl) (fun _ _ _ h => h) (Or.inl ⟨rfl, ?hy5⟩) (by assumption) ?_
        case hy5 =>
          intro W hS
          go_simp
          try with_reducible rfl
        try simp only [Act.put, List.getElem_toArray, List.getElem_cons_succ, List.getElem_cons_zero, List.setIfInBounds_toArray, List.set_cons_zero, List.set_cons_succ]
        refine wpAnyH_ready (rs := [0, 6]) (by kernel_rfl) (by simp) (AllReadyH.cons rfl (fun K hK => ?_) (AllReadyH.cons rfl (fun K hK => ?_) AllReadyH.nil))
        · have zn := box_cell c0c 0
          go_simp
          refine hK.out _ _ (hHeld) (fun hX => ?_)
          clear hK K hHeld
          have hHeld := hX
          clear hX
          refine wpAnyH_ready (rs := [6]) (by kernel_rfl) (by simp) (AllReadyH.cons rfl (fun K hK => ?_) AllReadyH.nil)
          go_simp
          have c0d := row_al c0c (.cells #[.int .i64 (liveN (chC l x.val) : Nat), .int .i64 (goneN (chC l x.val) : Nat), .slice (some ⟨gv, 0, none⟩) (chC l x.val).length capv] 96)
          refine hK.out _ _ (⟨⟨_, c0d⟩, hHeld.2.alloc hHeld.2.size _⟩) (fun hX => ?_)
          clear hK K hHeld
          have hHeld := hX
          clear hX
          refine wpAnyH_ready (rs := [7]) (by kernel_rfl) (by simp) (AllReadyH.cons rfl (fun K hK => ?_) AllReadyH.nil)
          have hDc : Below W.heap.size W wc := ((Below.refl W.heap.size W).drew.trans hb).trans (hbc.mono hb.size)
          have hBc := HC.out.2.1.up hDc
          have hnew := heap_new wc (.cells #[.int .i64 (liveN (chC l x.val) : Nat), .int .i64 (goneN (chC l x.val) : Nat), .slice (some ⟨gv, 0, none⟩) (chC l x.val).length capv] 96)
          obtain ⟨va, Wa, hra, hoa, hga⟩ := append_block w.heap.size _ bs ⟨chC l x.val, .slice (some ⟨gv, 0, none⟩) (chC l x.val).length capv⟩ (.slice (some ⟨wc.heap.size, 0, none⟩) 1 1) (wc.alloc (.cells #[.int .i64 (liveN (chC l x.val) : Nat), .int .i64 (goneN (chC l x.val) : Nat), .slice (some ⟨gv, 0, none⟩) (chC l x.val).length capv] 96)) bs.length rfl (hBc.row.alloc (.cells #[.int .i64 (liveN (chC l x.val) : Nat), .int .i64 (goneN (chC l x.val) : Nat), .slice (some ⟨gv, 0, none⟩) (chC l x.val).length capv] 96)) ⟨rfl, _, 1, rfl, fun _ => ⟨wc.heap.size, 0, rfl, fun j u hj => by rw [Nat.zero_add]; exact (box_cell hnew j).trans (by simpa [kV] using hj)⟩⟩ rfl HBN.out hHeld.2.size 76
          obtain ⟨va1, va2, va3, rfl⟩ := slice_of hoa
          have hBd := hBc.row.alloc (.cells #[.int .i64 (liveN (chC l x.val) : Nat), .int .i64 (goneN (chC l x.val) : Nat), .slice (some ⟨gv, 0, none⟩) (chC l x.val).length capv] 96)
          have cA := row_grown c0d hga hBd (by decide)
          rw [if_pos (by rfl)]
          refine wp_run_append rfl rfl rfl hra ?_
          refine hK.out _ _ (⟨⟨_, cA⟩, below_grown hHeld.2 hga hBd (Nat.le_refl _)⟩) (fun hX => ?_)
          clear hK K hHeld
          have hHeld := hX
          clear hX
          refine wpAnyH_ready (rs := [8]) (by kernel_rfl) (by simp) (AllReadyH.cons rfl (fun K hK => ?_) AllReadyH.nil)
          have z0 := box_cell cA 0
          have zf := box_frozen cA 0
          go_simp
          refine hK.out _ _ (⟨⟨_, box_set cA 0 _⟩, hHeld.2.setCell (p := ⟨w.heap.size, 0, none⟩) (Nat.le_refl _) _⟩) (fun hX => ?_)
          clear hK K hHeld
          have hHeld := hX
          clear hX
          refine wpAnyH_done (by kernel_rfl) ?_ _
          gi_wp2
          have hTy := own_typed hBd
          refine ⟨?_, ?_, ⟨⟨_, bs ++ [⟨chC l x.val, .slice (some ⟨gv, 0, none⟩) (chC l x.val).length capv⟩], box_set cA 0 _, ⟨own_far hoa cA (by decide) 0 _, fun y hy => ?_, ?_⟩, ?_⟩, hHeld.2⟩⟩
          · exact (KeepsOthers.drew W).trans ((others_below hb).trans ((others_below hbc).trans ((KeepsOthers.alloc wc _).trans ((KeepsOthers.of_grownBy hga (fun j o hj ho => by obtain ⟨_, cur', hc⟩ := hTy j hj; rw [hc] at ho; cases ho; rfl)).trans (KeepsOthers.setCell _ _ _)))))
          · exact kf_t (KF.refl _ _ W).drew (kf_t (KF.below HC.out.2.2.drew.size hb) (kf_t (KF.below (Nat.le_trans HC.out.2.2.drew.size hb.size) hbc) (kf_t (KF.alloc (Nat.le_trans (Nat.le_trans HC.out.2.2.drew.size hb.size) hbc.size) _) (kf_t (KF.grown hga (Nat.le_trans (Nat.le_trans (Nat.le_trans HC.out.2.2.drew.size hb.size) hbc.size) (by simp)) (fun g e => by obtain ⟨q1, cur', hc⟩ := hTy g e; exact ⟨q1, .inr ⟨_, _, _, hc, .inr (.inr (.inr rfl))⟩⟩)) (KF.set (Nat.le_refl _) (by omega))))))
          · refine own_far (own_turnT (T := fun t => t = 62) (W := wc.alloc (.cells #[.int .i64 (liveN (chC l x.val) : Nat), .int .i64 (goneN (chC l x.val) : Nat), .slice (some ⟨gv, 0, none⟩) (chC l x.val).length capv] 96)) ?_ hga (fun r e => by obtain ⟨_, cur', hc⟩ := hTy r e; exact ⟨_, hc, .inr ⟨_, _, _, rfl, by decide⟩⟩) rfl) cA (by decide) 0 _
            rcases List.mem_append.1 hy with h | h
            · exact (hBc.own y h).alloc _
            · rw [List.mem_singleton.1 h]
              exact (own_lower hoc (Nat.le_trans HC.out.2.2.drew.size hb.size)).alloc _
          · rw [List.pairwise_append]
            refine ⟨HC.out.2.1.apart, List.pairwise_singleton _ _, fun y hy z hz g h1 h2 => ?_⟩
            rw [List.mem_singleton.1 hz] at h2
            obtain ⟨_, cur', hc⟩ := own_typed (HC.out.2.1.own y hy) g h1
            have q1 := box_lt hc
            obtain ⟨q2, _⟩ := own_typed hoc g h2
            have q3 : W.heap.size ≤ wb.heap.size := hb.size
            omega
          · rw [List.map_append, List.map_append, HBS.out]
            rfl
        · go_simp
          have c0d := row_al c0c (.cells #[.int .i64 (liveN (chC l x.val) : Nat), .int .i64 (goneN (chC l x.val) : Nat), .slice (some ⟨gv, 0, none⟩) (chC l x.val).length capv] 96)
          refine hK.out _ _ (⟨⟨_, c0d⟩, hHeld.2.alloc hHeld.2.size _⟩) (fun hX => ?_)
          clear hK K hHeld
          have hHeld := hX
          clear hX
          refine wpAnyH_ready (rs := [0]) (by kernel_rfl) (by simp) (AllReadyH.cons rfl (fun K hK => ?_) AllReadyH.nil)
          have zn := box_cell c0d 0
          go_simp
          refine hK.out _ _ (hHeld) (fun hX => ?_)
          clear hK K hHeld
          have hHeld := hX
          clear hX
          refine wpAnyH_ready (rs := [7]) (by kernel_rfl) (by simp) (AllReadyH.cons rfl (fun K hK => ?_) AllReadyH.nil)
          have hDc : Below W.heap.size W wc := ((Below.refl W.heap.size W).drew.trans hb).trans (hbc.mono hb.size)
          have hBc := HC.out.2.1.up hDc
          have hnew := heap_new wc (.cells #[.int .i64 (liveN (chC l x.val) : Nat), .int .i64 (goneN (chC l x.val) : Nat), .slice (some ⟨gv, 0, none⟩) (chC l x.val).length capv] 96)
          obtain ⟨va, Wa, hra, hoa, hga⟩ := append_block w.heap.size _ bs ⟨chC l x.val, .slice (some ⟨gv, 0, none⟩) (chC l x.val).length capv⟩ (.slice (some ⟨wc.heap.size, 0, none⟩) 1 1) (wc.alloc (.cells #[.int .i64 (liveN (chC l x.val) : Nat), .int .i64 (goneN (chC l x.val) : Nat), .slice (some ⟨gv, 0, none⟩) (chC l x.val).length capv] 96)) bs.length rfl (hBc.row.alloc (.cells #[.int .i64 (liveN (chC l x.val) : Nat), .int .i64 (goneN (chC l x.val) : Nat), .slice (some ⟨gv, 0, none⟩) (chC l x.val).length capv] 96)) ⟨rfl, _, 1, rfl, fun _ => ⟨wc.heap.size, 0, rfl, fun j u hj => by rw [Nat.zero_add]; exact (box_cell hnew j).trans (by simpa [kV] using hj)⟩⟩ rfl HBN.out hHeld.2.size 76
          obtain ⟨va1, va2, va3, rfl⟩ := slice_of hoa
          have hBd := hBc.row.alloc (.cells #[.int .i64 (liveN (chC l x.val) : Nat), .int .i64 (goneN (chC l x.val) : Nat), .slice (some ⟨gv, 0, none⟩) (chC l x.val).length capv] 96)
          have cA := row_grown c0d hga hBd (by decide)
          rw [if_pos (by rfl)]
          refine wp_run_append rfl rfl rfl hra ?_
          refine hK.out _ _ (⟨⟨_, cA⟩, below_grown hHeld.2 hga hBd (Nat.le_refl _)⟩) (fun hX => ?_)
          clear hK K hHeld
          have hHeld := hX
          clear hX
          refine wpAnyH_ready (rs := [8]) (by kernel_rfl) (by simp) (AllReadyH.cons rfl (fun K hK => ?_) AllReadyH.nil)
          have z0 := box_cell cA 0
          have zf := box_frozen cA 0
          go_simp
          refine hK.out _ _ (⟨⟨_, box_set cA 0 _⟩, hHeld.2.setCell (p := ⟨w.heap.size, 0, none⟩) (Nat.le_refl _) _⟩) (fun hX => ?_)
          clear hK K hHeld
          have hHeld := hX
          clear hX
          refine wpAnyH_done (by kernel_rfl) ?_ _
          gi_wp2
          have hTy := own_typed hBd
          refine ⟨?_, ?_, ⟨⟨_, bs ++ [⟨chC l x.val, .slice (some ⟨gv, 0, none⟩) (chC l x.val).length capv⟩], box_set cA 0 _, ⟨own_far hoa cA (by decide) 0 _, fun y hy => ?_, ?_⟩, ?_⟩, hHeld.2⟩⟩
          · exact (KeepsOthers.drew W).trans ((others_below hb).trans ((others_below hbc).trans ((KeepsOthers.alloc wc _).trans ((KeepsOthers.of_grownBy hga (fun j o hj ho => by obtain ⟨_, cur', hc⟩ := hTy j hj; rw [hc] at ho; cases ho; rfl)).trans (KeepsOthers.setCell _ _ _)))))
          · exact kf_t (KF.refl _ _ W).drew (kf_t (KF.below HC.out.2.2.drew.size hb) (kf_t (KF.below (Nat.le_trans HC.out.2.2.drew.size hb.size) hbc) (kf_t (KF.alloc (Nat.le_trans (Nat.le_trans HC.out.2.2.drew.size hb.size) hbc.size) _) (kf_t (KF.grown hga (Nat.le_trans (Nat.le_trans (Nat.le_trans HC.out.2.2.drew.size hb.size) hbc.size) (by simp)) (fun g e => by obtain ⟨q1, cur', hc⟩ := hTy g e; exact ⟨q1, .inr ⟨_, _, _, hc, .inr (.inr (.inr rfl))⟩⟩)) (KF.set (Nat.le_refl _) (by omega))))))
          · refine own_far (own_turnT (T := fun t => t = 62) (W := wc.alloc (.cells #[.int .i64 (liveN (chC l x.val) : Nat), .int .i64 (goneN (chC l x.val) : Nat), .slice (some ⟨gv, 0, none⟩) (chC l x.val).length capv] 96)) ?_ hga (fun r e => by obtain ⟨_, cur', hc⟩ := hTy r e; exact ⟨_, hc, .inr ⟨_, _, _, rfl, by decide⟩⟩) rfl) cA (by decide) 0 _
            rcases List.mem_append.1 hy with h | h
            · exact (hBc.own y h).alloc _
            · rw [List.mem_singleton.1 h]
              exact (own_lower hoc (Nat.le_trans HC.out.2.2.drew.size hb.size)).alloc _
          · rw [List.pairwise_append]
            refine ⟨HC.out.2.1.apart, List.pairwise_singleton _ _, fun y hy z hz g h1 h2 => ?_⟩
            rw [List.mem_singleton.1 hz] at h2
            obtain ⟨_, cur', hc⟩ := own_typed (HC.out.2.1.own y hy) g h1
            have q1 := box_lt hc
            obtain ⟨q2, _⟩ := own_typed hoc g h2
            have q3 : W.heap.size ≤ wb.heap.size := hb.size
            omega
          · rw [List.map_append, List.map_append, HBS.out]
            rfl
  case done =>
    rintro D ys X hD rfl ⟨⟨v', bs, c0, hBk, hbs⟩, hB⟩ hK
    have e0 := box_cell c0 0
    obtain ⟨ao', n', cap', rfl⟩ := slice_of hBk.row
    have HQ := Lib.hid (And.intro hBk (And.intro hbs hB))
    clear c0 hBk hbs hB
    gi_wp2
    refine ⟨by simp, .inl ⟨_, _, rfl, run_takeDeferred hK, ?_⟩⟩
    have hBD := belowK_b (w := w) (Nat.le_refl _) X D _ (.deferred none) (by omega) hK rfl rfl
    obtain ⟨hBk, hbs, hB⟩ := HQ.out
    refine ⟨.slice ao' n' cap', ?rs, .slice ao' n' cap', bs, rfl, hBk.turn (grownBy_putObj' X D (.deferred none)) (fun r e => by cases e; exact ⟨_, hK, rfl⟩), ?_, ?_, ?_, hB.trans hBD⟩
    case rs => exact results_tmp (fn := Tryz.f38) (t := 2) rfl _ _ _
    · rw [catB_flat, hbs, ← HN.out]; exact chC_all l
    · have := congrArg List.length hbs
      rw [List.length_map, List.length_map, List.length_finRange] at this
      have h2 : chN N ≤ 7813 := by unfold chN; omega
      omega
    · refine ⟨?_, by have := congrArg List.length hbs; rw [List.length_map, List.length_map, List.length_finRange] at this; first | exact this | rw [this, HN.out]⟩
      intro x hx
      have hm : x.cs ∈ bs.map (·.cs) := List.mem_map.2 ⟨x, hx, rfl⟩
      rw [hbs] at hm
      obtain ⟨y, _, e⟩ := List.mem_map.1 hm
      have hy := chN_lt.1 y.isLt
      intro q
      rw [q] at e
      have := congrArg List.length e
      rw [chC_length, HN.out] at this
      unfold chL at this
      simp at this
      omega
  case stop =>
    rintro D c pre X hD hpre ⟨hno, _⟩ hK
    exact hno.elim
end Go.Proofs.YtfoglciiefoodaaGreatDoor
