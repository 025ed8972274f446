/- spans.begin: a side ahead of all its edges. -/
import Derived.Test.YtlofeaodpblagaaSpSide
import Derived.Maps.AppendAt
namespace Go.Proofs.Ytlofeaodpblagaa
open Go.RowKit Go.Shelf
attribute [local go_sem] Oper.semAt_some

theorem infoEdge : (Try.prog.info? 92).map (fun i => (i.zero, i.size, i.bytes)) = some (some (.agg #[.int .i64 0, .bool false]), 2, 16) := by kernel_rfl
/-- The cells of some edges. -/
def edCells : List Edge → List Value
  | [] => []
  | e :: r => .int .i64 e.1 :: .bool e.2 :: edCells r
theorem edCells_append : ∀ a b, edCells (a ++ b) = edCells a ++ edCells b
  | [], _ => rfl
  | e :: r, b => by show _ :: _ :: edCells (r ++ b) = _; rw [edCells_append r b]; rfl
theorem edCells_at : ∀ (L : List Edge) (i : Nat), i < L.length → (edCells L)[i * 2]? = some (.int .i64 (L.getD i (0, false)).1) ∧ (edCells L)[i * 2 + 1]? = some (.bool (L.getD i (0, false)).2)
  | [], i, h => absurd h (Nat.not_lt_zero i)
  | e :: r, 0, _ => ⟨rfl, rfl⟩
  | e :: r, i + 1, h => by
    have := edCells_at r i (by simpa using h)
    rw [show (i + 1) * 2 = i * 2 + 1 + 1 by omega]
    exact ⟨this.1, this.2⟩
theorem EdAt.of_own {W : World} {base : Nat} {v : Value} {L : List Edge} (h : W.ownsRow base 92 2 v L.length (edCells L)) : EdAt W v L := by
  rcases h.2 with ⟨hv, h0⟩ | ⟨g, cap, cur, hv, _, hrow, hc, _⟩
  · exact ⟨none, 0, by rw [hv, h0], by omega, fun hx => absurd (List.eq_nil_of_length_eq_zero h0) hx⟩
  · subst hv
    refine ⟨_, cap, rfl, hc, fun _ => ⟨g, 0, rfl, ⟨_, _, hrow⟩, fun i hi => ?_⟩⟩
    obtain ⟨h1, h2⟩ := edCells_at L i hi
    rw [Nat.zero_add]
    exact ⟨by rw [h.cellAt _ (by omega)]; exact h1, by rw [h.cellAt _ (by omega)]; exact h2⟩
theorem sdbox_turn {W W' : World} {row : Option Nat} {B : Nat} {v : Value} {i : Bool} (h : SdBox W B v i) (hg : W.grownBy W' row) (hr : ∀ r, row = some r → ∃ o : Obj, W.heap[r]? = some o ∧ o.isCells = false) : SdBox W' B v i :=
  (hg.block B h.lt (fun e => by obtain ⟨o, ho, hc⟩ := hr B e.symm; rw [show W.heap[B]? = _ from h] at ho; cases ho; cases hc)).trans h
theorem typed_appended {W w1 : World} {B base size k i : Nat} {t e T : TypeId} {v : Value} {xs : List Value} {tmp : Obj} {c : Array Value} {fr : Nat × Nat} (hv : Boxed W B t v) (hrow : W.ownsRow base e size v k xs) (h1 : T ≠ t) (h2 : T ≠ e)
    (hgrow : (W.alloc tmp).grownBy w1 v.ownBlock) (u : Value) (q : W.heap[i]? = some (.cells c T fr)) : (w1.setCell ⟨B, 0, none⟩ u).heap[i]? = some (.cells c T fr) := by
  have hi := (Array.getElem?_eq_some_iff.1 q).1
  have hiB : i ≠ B := by
    intro e'
    subst e'
    rw [show W.heap[i]? = _ from hv] at q
    cases q
    exact h1 rfl
  rw [Below.heap_setCell _ _ _ _ hiB, hgrow.block i (by simp; omega) ?_, Below.heap_alloc _ _ _ hi]
  · exact q
  · intro e'
    rcases hrow.2 with ⟨rfl, _⟩ | ⟨g, cap, cur, rfl, _, hgb, _⟩
    · cases e'
    · obtain rfl : i = g := by simpa [Value.ownBlock] using e'
      rw [hgb] at q
      cases q
      exact h2 rfl
/-- What has been gathered when some edges have come. -/
def BegI (s : Nat) (pre : List Edge) (W : World) : Prop := ∃ v, Boxed W (s + 2) 79 v ∧ W.ownsRow s 92 2 v pre.length (edCells pre) ∧ True
theorem begI_own (s : Nat) : Own (BegI s) := holdsRow_own s (s + 2) 79 92 2 (fun pre : List Edge => pre.length) (fun pre => edCells pre) (fun _ _ => True)
theorem make_edges (n : Nat) (hn : n ≤ 4000000) : ∃ cur : Array Value, cur.size = n * 2 ∧ ∀ W : World, (Instr.makeSlice 79 (.int .i64 0) (.int .i64 (n : Int))).run Try.prog W = .ok (.slice (some ⟨W.heap.size, 0, none⟩) 0 n) (W.alloc (.cells cur 92)) := by
  obtain ⟨i0, hi, hz0, hz1, hz2⟩ := info_parts infoEdge
  refine ⟨madeCells (Value.agg #[.int .i64 0, .bool false]).cells (n * 2), ?_, fun W => ?_⟩
  · simp [madeCells]
  · have h := run_make (P := Try.prog) (w := W) 79 92 i0 (.agg #[.int .i64 0, .bool false]) Try.underlying79 hi hz0 .i64 .i64 0 n (Int.le_refl _) (by omega) (by rw [hz2]; omega) (by omega)
    rw [Int.toNat_natCast, hz1] at h
    exact h
set_option maxRecDepth 100000 in
set_option maxHeartbeats 4000000 in
theorem spBegin_any (v : Value) (xs : List Sp) (w : World) (h : SpAt w v xs) (hx : xs.length ≤ 2000000) :
    Calls Try.prog 59 #[v] w fun e W' => ∃ sv, e = .returned (.agg #[sv, .bool false]) ∧ EdAt W' sv (edL xs) ∧ Below w.heap.size w W' := by
  obtain ⟨i0, hi, hz0, hz1, hz2⟩ := info_parts infoEdge
  have H := Lib.hid h
  obtain ⟨ao, cap, rfl, _⟩ := h
  obtain ⟨n, hn⟩ : ∃ n, xs.length = n := ⟨_, rfl⟩
  rw [hn] at H hx ⊢
  have hst := fun m W => edges_stops 4 (by decide) m _ xs (by omega) w H.out W
  rw [hn] at hst
  have hm : IntKind.i64.wrap (2 * (n : Int)) = ((2 * n : Nat) : Int) := by simp only [IntKind.wrap_i64]; omega
  obtain ⟨cur, hcur, hmk⟩ := make_edges (2 * n) (by omega)
  have Hn := Lib.hid hn
  have HX := Lib.hid hx
  have Hcur := Lib.hid hcur
  clear hn hcur
  obtain ⟨m2, hM2⟩ : ∃ m, 2 * n = m := ⟨_, rfl⟩
  rw [hM2] at hmk hm Hcur
  have HM2 := Lib.hid hM2
  clear hM2 hx
  refine (callsIn_wide (n := 5)).1 ?_
  refine callsIn_of_wp_marks Try.func59 rfl trivial ?_ rfl
  simp only [Try.ntmps59, List.size_toArray, List.length_cons, List.length_nil, Nat.reduceAdd, Nat.reduceSub, Array.replicate_succ, Array.replicate_zero, List.push_toArray, List.append_toArray, List.nil_append, List.cons_append]
  gi_wp2_with (refine ⟨trivial, ?_⟩; gi_at_call 35; refine (callsIn_wide.2 (edges_any _ _ _ _)).mono ?_; rintro e w1 ⟨rfl, rfl⟩)
  have s0 : SdBox (w.alloc (.cells #[.slice none 0 0, .bool false] 81)) w.heap.size (.slice none 0 0) false := World.alloc_heap_new w _
  obtain ⟨wa, hwa⟩ : ∃ X, w.alloc (.cells #[.slice none 0 0, .bool false] 81) = X := ⟨_, rfl⟩
  have hBa : Below w.heap.size w wa := hwa ▸ (Below.refl _ w).alloc (Nat.le_refl _) _
  have sza : wa.heap.size = w.heap.size + 1 := by rw [← hwa]; simp
  rw [hwa] at s0 ⊢
  have r0 : (wa.alloc (.cells cur 92)).ownsRow w.heap.size 92 2 (.slice (some ⟨w.heap.size + 1, 0, none⟩) 0 m2) 0 [] := sza ▸ World.ownsRow_made wa cur m2 (by omega) (by have := HX.out; have := HM2.out; unfold maxLen; omega) Hcur.out
  have b1 := Boxed.new (wa.alloc (.cells cur 92)) 79 (.slice (some ⟨w.heap.size + 1, 0, none⟩) 0 m2)
  have b2 := Boxed.new ((wa.alloc (.cells cur 92)).alloc (.cells #[.slice (some ⟨w.heap.size + 1, 0, none⟩) 0 m2] 79)) 22 (.slice ao n cap)
  have r0' := (r0.alloc (.cells #[.slice (some ⟨w.heap.size + 1, 0, none⟩) 0 m2] 79)).alloc (.cells #[.slice ao n cap] 22)
  have b1' := b1.alloc (.cells #[.slice ao n cap] 22)
  have hBz := (((Below.refl wa.heap.size wa).alloc (Nat.le_refl _) (.cells cur 92)).alloc (by simp) (.cells #[.slice (some ⟨w.heap.size + 1, 0, none⟩) 0 m2] 79)).alloc (by simp; omega) (.cells #[.slice ao n cap] 22)
  have s0' : SdBox _ w.heap.size (.slice none 0 0) false := (hBz.block w.heap.size (by omega)).trans s0
  rw [World.size_alloc] at b1' b2
  rw [World.size_alloc] at b2
  obtain ⟨w3, hw3⟩ : ∃ X, (((wa.alloc (.cells cur 92)).alloc (.cells #[.slice (some ⟨w.heap.size + 1, 0, none⟩) 0 m2] 79)).alloc (.cells #[.slice ao n cap] 22)) = X := ⟨_, rfl⟩
  have hsz : w3.heap.size = w.heap.size + 4 := by rw [← hw3]; simp; omega
  rw [hw3] at s0' b1' b2 r0' hBz ⊢
  rw [sza] at b1' b2 hBz
  have hB0 : Below w.heap.size w w3 := hBa.trans (hBz.mono (by omega))
  have hst := hst (w.heap.size + 1 + 1 + 1) w3 hB0 (by omega) b2.cell
  have hI0 : BegI w.heap.size [] w3 := ⟨_, b1', r0', trivial⟩
  clear hw3 b1 b2 hwa hmk s0 r0 r0' b1' hBz
  refine wpIn_rangeFunc_ownF rfl (by decide) (gf := 47) (lb := #[.pointer (some ⟨w.heap.size + 1 + 1 + 1, 0, none⟩)]) rfl trivial (enters_of Try.func47 (by kernel_rfl) rfl)
    hst (fun h k => ks_t h k) (ks_b (by omega)) (Below.refl _ _) (fun _ => rfl)
    (fun pre W => (BegI w.heap.size pre W ∧ SdBox W w.heap.size (.slice none 0 0) false) ∧ Below w.heap.size w W)
    (fun c pre W => False ∧ Below w.heap.size w W)
    (OwnFrom.and (Own.from (fun s A B row hs hg hr => ⟨begI_own w.heap.size s A B row hs.1 hg hr, sdbox_turn hs.2 hg hr⟩) _) (ownFrom_below (Nat.le_refl _) (by omega)))
    (fun c => OwnFrom.and (Own.from (fun s A B row hs hg hr => hs.elim) _) (ownFrom_below (Nat.le_refl _) (by omega)))
    ⟨⟨hI0, s0'⟩, hB0⟩
    (fun x => { tmps := #[.slice ao n cap, undef, .pointer (some ⟨w.heap.size, 0, none⟩), .pointer (some ⟨w.heap.size + 1 + 1, 0, none⟩), .int .i64 x.1, .bool x.2, .slice ao n cap, .int .i64 n, .int .i64 m2, .slice (some ⟨w.heap.size + 1, 0, none⟩) 0 m2, .slice ao n cap, .func (.func 47) #[] #[.pointer (some ⟨w.heap.size + 1 + 1 + 1, 0, none⟩)], .int .i64 x.1, .bool x.2, undef, undef, undef, undef, undef, undef, undef, undef], defers := [] }) ?assign ?body ?done ?stop
  case assign =>
    intro l x W K hK
    gi_wp2
    exact hK
  case body =>
    rintro l pre x W ⟨⟨⟨v, hv, hrow, _⟩, hS⟩, hB⟩ hlt
    obtain ⟨a, bg⟩ := x
    have hpl := hlt
    have d0 := hv.cell
    dsimp only
    have HX2 := Lib.hid hlt
    clear hlt
    gi_wp2_with (gi_at_builtin; refine wpListIn_append_own _ rfl _ _ 79 rfl w.heap.size 92 i0 (.agg #[.int .i64 0, .bool false]) 2 16 Try.underlying79 hi hz0 hz1 hz2 rfl (by decide) _ _ _ rfl (hrow.alloc _) ⟨W.heap.size, 0, none⟩ 1 1 [.int .i64 a, .bool bg] rfl rfl ?c1 ?c2 ?c3 ?c4 ?c5 ?_)
    case c1 =>
      intro j u hj
      match j, hj with
      | 0, hj => simp at hj; subst hj; simp [Addr.add]
      | 1, hj => simp at hj; subst hj; simp [Addr.add]
    case c2 => intro u hu; simp at hu; rcases hu with rfl | rfl <;> rfl
    case c3 => have := HX.out; unfold maxLen; omega
    case c4 => have := HX.out; omega
    case c5 => have := hB.size; simp; omega
    intro v' w1 hown' hgrow _
    obtain ⟨g', cap', rfl⟩ := ownsRow_succ hown'
    have hty : ∀ (i : Nat) (c : Array Value) (fr : Nat × Nat), W.heap[i]? = some (.cells c 42 fr) → (w1.setCell ⟨w.heap.size + 2, 0, none⟩ (.slice (some ⟨g', 0, none⟩) (pre.length + 1) cap')).heap[i]? = some (.cells c 42 fr) := fun i c fr q => typed_appended hv hrow (by decide) (by decide) hgrow _ q
    have hsd : SdBox (w1.setCell ⟨w.heap.size + 2, 0, none⟩ (.slice (some ⟨g', 0, none⟩) (pre.length + 1) cap')) w.heap.size (.slice none 0 0) false := typed_appended hv hrow (by decide) (by decide) hgrow _ hS
    obtain ⟨hv1, hv2, hr2, hk2, hb2⟩ := hv.appended (by decide) hrow hB.size (by omega) hown' hgrow
    have hc1 := hv1.cell
    have hf1 := hv1.frozen
    have hbi : BegI w.heap.size (pre ++ [(a, bg)]) (w1.setCell ⟨w.heap.size + 2, 0, none⟩ (.slice (some ⟨g', 0, none⟩) (pre.length + 1) cap')) := ⟨_, hv2, by rw [List.length_append, edCells_append]; exact hr2, trivial⟩
    have HBI := Lib.hid hbi
    have HSD := Lib.hid hsd
    have HK : KS w.heap.size W (w1.setCell ⟨w.heap.size + 2, 0, none⟩ (.slice (some ⟨g', 0, none⟩) (pre.length + 1) cap')) := ⟨hb2, hty⟩
    have HB := Lib.hid (hB.trans hb2)
    have HK2 := Lib.hid HK
    have Hk2 := Lib.hid hk2
    clear hty hsd hbi HK hk2 hb2 hr2 hv2 hown' hgrow hv hrow hS hB
    gi_wp2
    exact ⟨Hk2.out, HK2.out, ⟨HBI.out, HSD.out⟩, HB.out⟩
  case done =>
    rintro D ys W hD rfl ⟨⟨⟨v, hv, hrow, _⟩, hS⟩, hB⟩ hK
    have d0 := hv.cell
    have c0 := hS.c0
    have c1 := hS.c1
    have f0 := hS.f 0
    have f1 := hS.f 1
    have hE := EdAt.of_own hrow
    obtain ⟨aa, cc, rfl, _⟩ := id hE
    have HE := Lib.hid hE
    have HS := Lib.hid hS
    have HB := Lib.hid hB
    have HKK := Lib.hid hK
    clear hE hB hrow hv hS hK
    gi_wp2
    have hK := HKK.out
    have hK' := (KeepsOthers.setCell _ ⟨w.heap.size, 1, none⟩ (.bool false)).same D _ ((KeepsOthers.setCell W ⟨w.heap.size, 0, none⟩ (.slice aa (edL xs).length cc)).same D _ hK rfl) rfl
    have hs5 : SdBox ((W.setCell ⟨w.heap.size, 0, none⟩ (.slice aa (edL xs).length cc)).setCell ⟨w.heap.size, 1, none⟩ (.bool false)) w.heap.size (.slice aa (edL xs).length cc) false := (HS.out.set0 _).set1 _
    refine ⟨by simp, .inl ⟨_, _, rfl, run_takeDeferred hK', ?_⟩⟩
    have hs6 := sdbox_turn hs5 (grownBy_putObj' _ D (.deferred none)) (fun r e => by cases e; exact ⟨_, hK', rfl⟩)
    have g0 := hs6.c0
    have g1 := hs6.c1
    have hE5 : EdAt ((((W.setCell ⟨w.heap.size, 0, none⟩ (.slice aa (edL xs).length cc)).setCell ⟨w.heap.size, 1, none⟩ (.bool false)).putObj D (.deferred none))) (.slice aa (edL xs).length cc) (edL xs) := HE.out.turn fun b cur fr hrow => by
      have n1 : b ≠ w.heap.size := by
        intro e
        subst e
        rw [show W.heap[w.heap.size]? = _ from HS.out] at hrow
        cases hrow
      have n2 : b ≠ D := by
        intro e
        subst e
        rw [hK] at hrow
        cases hrow
      rw [World.putObj_heap_other n2, Below.heap_setCell _ _ _ _ n1, Below.heap_setCell _ _ _ _ n1]
    have HE5 := Lib.hid hE5
    have HB5 := Lib.hid (((HB.out.setCell (p := ⟨w.heap.size, 0, none⟩) (Nat.le_refl _) _).setCell (p := ⟨w.heap.size, 1, none⟩) (Nat.le_refl _) _).trans (belowK_b (w := w) (Nat.le_refl _) _ D _ (.deferred none) (by omega) hK' rfl rfl))
    clear hE5
    refine ⟨.agg #[.slice aa (edL xs).length cc, .bool false], ?_, ⟨_, rfl, HE5.out, HB5.out⟩⟩
    simp [results, Try.f59, go_sem, g0, g1]
  case stop =>
    rintro D c pre W hD hpre ⟨hno, _⟩ hK
    exact hno.elim
end Go.Proofs.Ytlofeaodpblagaa
