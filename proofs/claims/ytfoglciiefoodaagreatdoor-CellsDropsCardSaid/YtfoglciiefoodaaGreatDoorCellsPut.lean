/- Cells put into a document. -/
import Derived.Test.YtfoglciiefoodaaGreatDoorGCellsNew
import Derived.Test.YtfoglciiefoodaaGreatDoorCellsSeen
import Derived.Test.YtfoglciiefoodaaGreatDoorGCellsBegL
namespace Go.Proofs.YtfoglciiefoodaaGreatDoor
open Go.RowKit Go.Shelf
attribute [local go_sem] Oper.semAt_some

structure DocN (W : World) (n₀ B M : Nat) (bv : Value) (bs : List PB) (l : List PCell) : Prop where
  box : W.heap[B]? = some (.cells #[bv, .map (some M)] 79 (0, 0))
  blocks : Blocks W n₀ bv bs
  cat : catB bs = l
  few : bs.length ≤ 1000000
  full : ∀ x ∈ bs, x.cs ≠ []
theorem DocN.docR {W : World} {n₀ B M : Nat} {bv : Value} {bs : List PB} {l : List PCell} (h : DocN W n₀ B M bv bs l) (hl : l.length ≤ 100000) : DocR W B bv (.map (some M)) bs :=
  ⟨h.box, RowR.of_own h.blocks.row, h.blocks.cells, by rw [h.cat]; exact hl, h.few⟩
def footB (B : Nat) (bv : Value) (bs : List PB) (k : Nat) : Prop := k = B ∨ bv.ownBlock = some k ∨ ∃ x ∈ bs, x.v.ownBlock = some k
structure PutD (w : World) (n₀ B M : Nat) (F : Nat → Prop) (l : List PCell) (X : World) (bv : Value) (bs : List PB) : Prop where
  box : X.heap[B]? = some (.cells #[bv, .map (some M)] 79 (0, 0))
  blocks : Blocks X n₀ bv bs
  cat : catB bs = l
  full : ∀ x ∈ bs, x.cs ≠ []
  newv : ∀ g, bv.ownBlock = some g → F g ∨ w.heap.size ≤ g
  newx : ∀ x ∈ bs, ∀ g, x.v.ownBlock = some g → F g ∨ w.heap.size ≤ g
  keep : Keep F w.heap.size w X
theorem PutD.turn {w X Y : World} {n₀ B M : Nat} {F : Nat → Prop} {l : List PCell} {bv : Value} {bs : List PB} {row : Option Nat} (h : PutD w n₀ B M F l X bv bs) (hg : X.grownBy Y row) (hr : ∀ r, row = some r → w.heap.size ≤ r ∧ ∃ o : Obj, X.heap[r]? = some o ∧ o.isCells = false) : PutD w n₀ B M F l Y bv bs :=
  ⟨row_turn h.box hg (fun r e => (hr r e).2), h.blocks.turn hg (fun r e => (hr r e).2), h.cat, h.full, h.newv, h.newx, h.keep.grown hg h.keep.size (fun r e => .inr (hr r e).1)⟩
theorem PutD.turnT {w X Y : World} {n₀ B M n : Nat} {F : Nat → Prop} {l : List PCell} {bv : Value} {bs : List PB} {row : Option Nat} (h : PutD w n₀ B M F l X bv bs) (hB : B < n) (hn : w.heap.size ≤ n) (hg : X.grownBy Y row) (hr : ∀ r, row = some r → n ≤ r ∧ ∃ o : Obj, X.heap[r]? = some o ∧ (o.isCells = false ∨ ∃ c t fr, o = .cells c t fr ∧ ¬ RowT t)) : PutD w n₀ B M F l Y bv bs :=
  ⟨far_kept hg hr hB h.box, ⟨own_turnT h.blocks.row hg (fun r e => (hr r e).2) (by unfold RowT; decide), fun x hx => own_turnT (h.blocks.own x hx) hg (fun r e => (hr r e).2) (by unfold RowT; decide), h.blocks.apart⟩, h.cat, h.full, h.newv, h.newx, h.keep.grown hg h.keep.size (fun r e => .inr (Nat.le_trans hn (hr r e).1))⟩
theorem own_one {W : World} {n₀ : Nat} {e : TypeId} {sz : Nat} {v : Value} {n : Nat} {xs : List Value} (h : W.ownsRow n₀ e sz v n xs) : v.oneCell' = true := by
  obtain ⟨a, n, c, rfl⟩ := slice_of h
  rfl
theorem cat_len : ∀ {bs : List PB}, (∀ x ∈ bs, x.cs ≠ []) → bs.length ≤ (catB bs).length
  | [], _ => Nat.le_refl _
  | b :: r, h => by
    have h1 := cat_len (bs := r) (fun x hx => h x (List.mem_cons_of_mem _ hx))
    have h2 := List.length_pos_iff.2 (h b (List.mem_cons_self ..))
    show r.length + 1 ≤ (b.cs ++ catB r).length
    rw [List.length_append]
    omega
theorem skip_from {bs : List PB} {p : Nat} : ∀ k, k ≤ bs.length → (∀ i ∈ begK bs k, frB bs i + bs[i].cs.length < p) → (catB (bs.take k)).length ≤ p
  | 0, _, _ => Nat.zero_le _
  | k + 1, hk, h => by
    have hx : bs[k]? = some bs[k] := List.getElem?_eq_getElem (by omega)
    have h1 := h ⟨k, by omega⟩ (by rw [begK_next bs k (by omega)]; simp)
    rw [catB_take hx, List.length_append]
    exact Nat.le_of_lt h1
set_option maxRecDepth 100000 in
set_option maxHeartbeats 16000000 in
theorem dput_any (n₀ n₁ B M p : Nat) (bv u : Value) (bs : List PB) (ms l : List PCell) (w : World) (hD : DocN w n₀ B M bv bs l) (hl : l.length + ms.length ≤ 100000) (hp : p ≤ l.length) (hu : w.ownsRow n₁ 62 5 u ms.length (cCells ms)) (hap : ∀ x ∈ bs, ∀ g, x.v.ownBlock = some g → u.ownBlock = some g → False) (hn : n₀ ≤ w.heap.size) :
    Calls Tryz.prog 60 #[.pointer (some ⟨B, 0, none⟩), .int .i64 (p : Int), u] w fun e w' => (∃ r, e = .returned r) ∧ ∃ bv' bs', PutD w n₀ B M (footB B bv bs) (l.take p ++ ms ++ l.drop p) w' bv' bs' := by
  have HR := Lib.hid (hD.docR (by omega))
  have HD := Lib.hid hD
  have HU := Lib.hid (And.intro hu (And.intro hap (And.intro hp (And.intro hl hn))))
  have hbeg := fun W => begins_any (some ⟨B, 0, none⟩) W
  obtain ⟨ua, un, uc, rfl⟩ := slice_of hu
  have A0 := row_al (row_al (row_al (heap_new w (.cells #[.pointer (some ⟨B, 0, none⟩)] 26)) (.cells #[.int .i64 (p : Int)] 3)) (.cells #[.slice ua un uc] 22)) (.cells #[.pointer (some ⟨B, 0, none⟩)] 26)
  have A1 := row_al (row_al (heap_new1 w (.cells #[.pointer (some ⟨B, 0, none⟩)] 26) (.cells #[.int .i64 (p : Int)] 3)) (.cells #[.slice ua un uc] 22)) (.cells #[.pointer (some ⟨B, 0, none⟩)] 26)
  have A2 := row_al (heap_new2 w (.cells #[.pointer (some ⟨B, 0, none⟩)] 26) (.cells #[.int .i64 (p : Int)] 3) (.cells #[.slice ua un uc] 22)) (.cells #[.pointer (some ⟨B, 0, none⟩)] 26)
  have A3 := heap_new3 w (.cells #[.pointer (some ⟨B, 0, none⟩)] 26) (.cells #[.int .i64 (p : Int)] 3) (.cells #[.slice ua un uc] 22) (.cells #[.pointer (some ⟨B, 0, none⟩)] 26)
  have AB : Below w.heap.size w ((((w.alloc (.cells #[.pointer (some ⟨B, 0, none⟩)] 26)).alloc (.cells #[.int .i64 (p : Int)] 3)).alloc (.cells #[.slice ua un uc] 22)).alloc (.cells #[.pointer (some ⟨B, 0, none⟩)] 26)) := ((((Below.refl _ w).alloc (Nat.le_refl _) _).alloc (by simp) _).alloc (by simp; omega) _).alloc (by simp; omega) _
  have AS : ((((w.alloc (.cells #[.pointer (some ⟨B, 0, none⟩)] 26)).alloc (.cells #[.int .i64 (p : Int)] 3)).alloc (.cells #[.slice ua un uc] 22)).alloc (.cells #[.pointer (some ⟨B, 0, none⟩)] 26)).heap.size = w.heap.size + 1 + 1 + 1 + 1 := by simp
  have HA := Lib.hid (And.intro A0 (And.intro A1 (And.intro A2 (And.intro A3 (And.intro AB AS)))))
  clear hD hl hp hu hap hn A0 A1 A2 A3 AB AS
  refine (callsIn_wide (n := 4)).1 ?_
  refine callsIn_of_wp_marks Tryz.func60 rfl trivial ?_ rfl
  simp only [Tryz.ntmps60, List.size_toArray, List.length_cons, List.length_nil, Nat.reduceAdd, Nat.reduceSub, Array.replicate_succ, Array.replicate_zero, List.push_toArray, List.append_toArray, List.nil_append, List.cons_append]
  gi_wp2_with (refine ⟨trivial, ?_⟩; gi_at_call 48; refine (callsIn_wide.2 (hbeg _)).mono ?_; rintro e _ ⟨rfl, rfl⟩)
  obtain ⟨A0, A1, A2, A3, AB, AS⟩ := HA.out
  generalize ((((w.alloc (.cells #[.pointer (some ⟨B, 0, none⟩)] 26)).alloc (.cells #[.int .i64 (p : Int)] 3)).alloc (.cells #[.slice ua un uc] 22)).alloc (.cells #[.pointer (some ⟨B, 0, none⟩)] 26)) = w3 at A0 A1 A2 A3 AB AS ⊢
  clear HA
  have hB0 : B < w.heap.size := box_lt HD.out.box
  have hst := begins_stopsL 3 (by decide) (w.heap.size + 1 + 1 + 1) (w.heap.size + 1 + 1 + 1) B bv (.map (some M)) bs w HR.out w3 AB A3 (Nat.le_refl _)
  refine wpIn_rangeFunc_ownL RowT rfl (by decide) (gf := 76) (lb := #[.pointer (some ⟨w.heap.size + 1 + 1 + 1, 0, none⟩)]) rfl trivial (enters_of Tryz.func76 (by kernel_rfl) rfl)
    hst (fun h k => kf_t h k) (fun X l o o' h1 _ h3 h4 h5 => kf_b (w := w3) (by omega) X l o o' h1 h3 h4 h5) (fun _ => rfl)
    (fun pre X => ((∀ i ∈ pre, frB bs i + bs[i].cs.length < p) ∧ X.heap[w.heap.size]? = some (.cells #[.pointer (some ⟨B, 0, none⟩)] 26 (0, 0)) ∧ X.heap[w.heap.size + 1]? = some (.cells #[.int .i64 (p : Int)] 3 (0, 0)) ∧ X.heap[w.heap.size + 1 + 1]? = some (.cells #[.slice ua un uc] 22 (0, 0))) ∧ Below w.heap.size w X)
    (fun c pre X => c = .ret ∧ ∃ bv' bs', PutD w n₀ B M (footB B bv bs) (l.take p ++ ms ++ l.drop p) X bv' bs')
    (OwnFrom.and (Own.from (fun s A B row hs hg hr => ⟨hs.1, row_turn hs.2.1 hg hr, row_turn hs.2.2.1 hg hr, row_turn hs.2.2.2 hg hr⟩) _) (ownFrom_below (Nat.le_refl _) (by omega)))
    (fun c s A C row hs hg hr => ⟨hs.1, by obtain ⟨bv', bs', h⟩ := hs.2; exact ⟨bv', bs', h.turn hg (fun r e => ⟨by have := (hr r e).1; omega, (hr r e).2⟩)⟩⟩)
    (fun s A C row hs hg hr => ⟨⟨hs.1.1, far_kept hg hr (by omega) hs.1.2.1, far_kept hg hr (by omega) hs.1.2.2.1, far_kept hg hr (by omega) hs.1.2.2.2⟩, hs.2.grown hg (by have := hs.2.size; omega) (fun r e => by have := (hr r e).1; omega)⟩)
    (fun c s A C row hs hg hr => ⟨hs.1, by obtain ⟨bv', bs', h⟩ := hs.2; exact ⟨bv', bs', h.turnT (by omega) (by omega) hg hr⟩⟩)
    ⟨⟨(fun i hi => by cases hi), A0, A1, A2⟩, AB⟩
    (fun x => { tmps := #[.pointer (some ⟨B, 0, none⟩), .int .i64 (p : Int), .slice ua un uc, .pointer (some ⟨w.heap.size, 0, none⟩), .pointer (some ⟨w.heap.size + 1, 0, none⟩), .pointer (some ⟨w.heap.size + 1 + 1, 0, none⟩), .int .i64 (x.val : Int), .int .i64 ((catB (bs.take x.val)).length : Nat), undef, .pointer (some ⟨B, 0, none⟩), .func (.func 76) #[] #[.pointer (some ⟨w.heap.size + 1 + 1 + 1, 0, none⟩)], .int .i64 (x.val : Int), .int .i64 ((catB (bs.take x.val)).length : Nat), undef, undef, undef, undef, undef, undef, undef, undef, undef, undef, undef, undef, undef, undef, undef, undef, undef, undef, undef, undef, undef, undef, undef, undef, undef, undef, undef, undef, undef, undef, undef, undef, undef, undef, undef, undef, undef, undef, undef, undef, undef, undef, undef, undef, undef, undef, undef, undef], defers := [] }) ?assign ?body ?done ?stop
  case assign =>
    intro l x W K hK
    gi_wp2
    exact hK
  case body =>
    rintro lp pre x X ⟨⟨hsk, c0, c1, c2⟩, hB⟩ hlen hlk
    have hk : bs[x.val]? = some bs[x] := List.getElem?_eq_getElem x.isLt
    have hfr : frB bs x ≤ p := skip_from x.val (Nat.le_of_lt x.isLt) (by rw [← hlk]; exact hsk)
    have hle : frB bs x + bs[x].cs.length ≤ (catB bs).length := catB_le hk
    have hpl : p ≤ 100000 := Nat.le_trans HU.out.2.2.1 (by have := HU.out.2.2.2.1; omega)
    have hcl : (catB bs).length ≤ 100000 := by rw [HD.out.cat]; have := HU.out.2.2.2.1; omega
    have hll := liveN_gone bs[x].cs
    obtain ⟨g, cap, cur, rfl, hg0, hg, ha0, ha1, ha2, hback⟩ := blocks_parts HD.out.blocks.row hk
    obtain ⟨L, hL⟩ : ∃ z, liveN bs[x].cs = z := ⟨_, rfl⟩
    obtain ⟨G, hG⟩ : ∃ z, goneN bs[x].cs = z := ⟨_, rfl⟩
    obtain ⟨Fr, hFr⟩ : ∃ z, frB bs x = z := ⟨_, rfl⟩
    have hFr' : (catB (bs.take x.val)).length = Fr := hFr
    have hgX : X.heap[g]? = some (.cells cur 96 (0, 0)) := row_up hg hB
    have hi0 : (0 : Int) ≤ (x.val : Int) ∧ (x.val : Int) < (bs.length : Int) := ⟨by omega, by have := x.isLt; omega⟩
    have hbx := row_up HD.out.box hB
    have y0 := box_cell c0 0
    have y1 := box_cell hbx 0
    have HC := Lib.hid (And.intro c0 (And.intro c1 (And.intro c2 (And.intro hB (And.intro hgX (And.intro hbx hsk))))))
    have HG := Lib.hid (And.intro ha0 (And.intro ha1 ha2))
    have HLG := Lib.hid (And.intro hL (And.intro hG hFr))
    have HBK := Lib.hid hback
    rw [hL, hG] at hll
    rw [hFr] at hfr hle
    have hS := fun W => csize_any (L : Int) (G : Int) W (by omega) (by omega)
    have HS := Lib.hid hS
    have hw1 : IntKind.i64.wrap ((Fr : Int) + ((L : Int) + (G : Int))) = (Fr : Int) + ((L : Int) + (G : Int)) := IntWalk.i64_in _ (by omega)
    clear c0 c1 c2 hB hgX hbx hsk ha0 ha1 ha2 hL hG hFr hback hS hlen hlk hg
    dsimp only
    rw [hFr']
    rcases Nat.lt_or_ge (Fr + (L + G)) p with hgt | hgt
    · have hsv : decide ((Fr : Int) + ((L : Int) + (G : Int)) < (p : Int)) = true := decide_eq_true (by omega)
      gi_wp2
      refine region_bridgeN (ro := some lp) (S := fun Z => Z.heap[w.heap.size]? = some (.cells #[.pointer (some ⟨B, 0, none⟩)] 26 (0, 0)) ∧ Z.heap[w.heap.size + 1]? = some (.cells #[.int .i64 (p : Int)] 3 (0, 0)) ∧ Z.heap[w.heap.size + 1 + 1]? = some (.cells #[.slice ua un uc] 22 (0, 0)) ∧ Z.heap[g]? = some (.cells cur 96 (0, 0)) ∧ Z.heap[B]? = some (.cells #[.slice (some ⟨g, 0, none⟩) bs.length cap, .map (some M)] 79 (0, 0)) ∧ Below w.heap.size w Z) (by kernel_rfl) (by kernel_rfl) ⟨HC.out.1, HC.out.2.1, HC.out.2.2.1, HC.out.2.2.2.2.1, HC.out.2.2.2.2.2.1, HC.out.2.2.2.1.drew⟩ (fun hHeld => ?_)
      refine wpAnyH_take (i := 0) (v := ?_) rfl (by kernel_rfl) (by kernel_rfl) (by kernel_rfl) (fun _ _ _ h => h) (Or.inl ⟨rfl, ?hy1⟩) (by assumption) ?_
      case hy1 =>
        intro W hS
        obtain ⟨s0, s1, s2, s3, s4, -⟩ := hS
        have u1 := box_cell s1 0
        have u2 := (box_cell s3 (x.val * 3)).trans HG.out.1
        have u3 := (box_cell s3 (x.val * 3 + 1)).trans HG.out.2.1
        rw [HLG.out.1] at u2
        rw [HLG.out.2.1] at u3
        go_simp
        try with_reducible rfl
      try simp only [Act.put, List.getElem_toArray, List.getElem_cons_zero, List.setIfInBounds_toArray, List.set_cons_zero, List.set_cons_succ]
      refine wpAnyH_take (i := 1) (v := ?_) rfl (by kernel_rfl) (by kernel_rfl) (by kernel_rfl) (fun _ _ _ h => h) (Or.inl ⟨rfl, ?hy2⟩) (by assumption) ?_
      case hy2 =>
        intro W hS
        go_simp
        try with_reducible rfl
      try simp only [Act.put, List.getElem_toArray, List.getElem_cons_succ, List.getElem_cons_zero, List.setIfInBounds_toArray, List.set_cons_zero, List.set_cons_succ]
      refine wpAnyH_take (i := 2) (v := ?_) rfl (by kernel_rfl) (by kernel_rfl) (by kernel_rfl) (fun _ _ _ h => h) (Or.inl ⟨rfl, ?hy3⟩) (by assumption) ?_
      case hy3 =>
        intro W hS
        go_simp
        try with_reducible rfl
      try simp only [Act.put, List.getElem_toArray, List.getElem_cons_succ, List.getElem_cons_zero, List.setIfInBounds_toArray, List.set_cons_zero, List.set_cons_succ]
      refine wpAnyH_take (i := 3) (v := ?_) rfl (by kernel_rfl) (by kernel_rfl) (by kernel_rfl) (fun _ _ _ h => h) (Or.inl ⟨rfl, ?hy4⟩) (by assumption) ?_
      case hy4 =>
        intro W hS
        go_simp
        try with_reducible rfl
      try simp only [Act.put, List.getElem_toArray, List.getElem_cons_succ, List.getElem_cons_zero, List.setIfInBounds_toArray, List.set_cons_zero, List.set_cons_succ]
      refine wpAnyH_take (i := 4) (v := ?_) rfl (by kernel_rfl) (by kernel_rfl) (by kernel_rfl) (fun _ _ _ h => h) (Or.inl ⟨rfl, ?hy5⟩) (by assumption) ?_
      case hy5 =>
        intro W hS
        go_simp
        try with_reducible rfl
      try simp only [Act.put, List.getElem_toArray, List.getElem_cons_succ, List.getElem_cons_zero, List.setIfInBounds_toArray, List.set_cons_zero, List.set_cons_succ]
      refine wpAnyH_take (i := 5) (v := ?_) rfl (by kernel_rfl) (by kernel_rfl) (by kernel_rfl) (fun _ _ _ h => h) (Or.inl ⟨rfl, ?hy6⟩) (by assumption) ?_
      case hy6 =>
        intro W hS
        obtain ⟨s0, s1, s2, s3, s4, -⟩ := hS
        have u1 := box_cell s1 0
        have u2 := (box_cell s3 (x.val * 3)).trans HG.out.1
        have u3 := (box_cell s3 (x.val * 3 + 1)).trans HG.out.2.1
        rw [HLG.out.1] at u2
        rw [HLG.out.2.1] at u3
        go_simp
        try with_reducible rfl
      try simp only [Act.put, List.getElem_toArray, List.getElem_cons_succ, List.getElem_cons_zero, List.setIfInBounds_toArray, List.set_cons_zero, List.set_cons_succ]
      refine wpAnyH_ready (rs := [6]) (by kernel_rfl) (by simp) (AllReadyH.cons rfl (fun K hK => ?_) AllReadyH.nil)
      go_simp
      go_wp2_with (go_at_call 47; refine (HS.out _).mono ?_; rintro e wq ⟨rfl, hb⟩)
      refine hK.out _ _ (⟨row_up hHeld.1 hb, row_up hHeld.2.1 hb, row_up hHeld.2.2.1 hb, row_up hHeld.2.2.2.1 hb, row_up hHeld.2.2.2.2.1 hb, hHeld.2.2.2.2.2.trans (hb.mono hHeld.2.2.2.2.2.size)⟩) (fun hX => ?_)
      clear hK K hHeld
      have hHeld := hX
      clear hX
      refine wpAnyH_take (i := 7) (v := ?_) rfl (by kernel_rfl) (by kernel_rfl) (by kernel_rfl) (fun _ _ _ h => h) (Or.inl ⟨rfl, ?hy7⟩) (by assumption) ?_
      case hy7 =>
        intro W hS
        go_simp
        try with_reducible rfl
      try simp only [Act.put, List.getElem_toArray, List.getElem_cons_succ, List.getElem_cons_zero, List.setIfInBounds_toArray, List.set_cons_zero, List.set_cons_succ]
      refine wpAnyH_take (i := 8) (v := ?_) rfl (by kernel_rfl) (by kernel_rfl) (by kernel_rfl) (fun _ _ _ h => h) (Or.inl ⟨rfl, ?hy8⟩) (by assumption) ?_
      case hy8 =>
        intro W hS
        go_simp
        try with_reducible rfl
      try simp only [Act.put, List.getElem_toArray, List.getElem_cons_succ, List.getElem_cons_zero, List.setIfInBounds_toArray, List.set_cons_zero, List.set_cons_succ]
      refine wpAnyH_done (by kernel_rfl) ?_ _
      obtain ⟨q0, q1, q2, q3, q4, qB⟩ := hHeld
      have HQ := Lib.hid (And.intro q0 (And.intro q1 (And.intro q2 (And.intro qB (And.intro (others_below hb) (KF.below (W := X.drew) (m₁ := w.heap.size + 1 + 1 + 1) HC.out.2.2.2.1.size hb))))))
      clear q0 q1 q2 q3 q4 qB hb
      simp only [onlyN]
      gi_wp2
      obtain ⟨q0, q1, q2, qB, hO, hF⟩ := HQ.out
      refine ⟨(KeepsOthers.drew X).trans hO, kf_t ((KF.refl _ _ X).drew) hF, ⟨⟨fun i hi => ?_, q0, q1, q2⟩, qB⟩⟩
      rcases List.mem_append.1 hi with h | h
      · exact HC.out.2.2.2.2.2.2 i h
      · rw [List.mem_singleton.1 h, HLG.out.2.2]
        have := liveN_gone bs[x].cs
        rw [HLG.out.1, HLG.out.2.1] at this
        omega
    · have hsv : decide ((Fr : Int) + ((L : Int) + (G : Int)) < (p : Int)) = false := decide_eq_false (by omega)
      gi_wp2
      refine region_bridgeN (ro := some lp) (S := fun Z => Z.heap[w.heap.size]? = some (.cells #[.pointer (some ⟨B, 0, none⟩)] 26 (0, 0)) ∧ Z.heap[w.heap.size + 1]? = some (.cells #[.int .i64 (p : Int)] 3 (0, 0)) ∧ Z.heap[w.heap.size + 1 + 1]? = some (.cells #[.slice ua un uc] 22 (0, 0)) ∧ Z.heap[g]? = some (.cells cur 96 (0, 0)) ∧ Z.heap[B]? = some (.cells #[.slice (some ⟨g, 0, none⟩) bs.length cap, .map (some M)] 79 (0, 0)) ∧ Below w.heap.size w Z) (by kernel_rfl) (by kernel_rfl) ⟨HC.out.1, HC.out.2.1, HC.out.2.2.1, HC.out.2.2.2.2.1, HC.out.2.2.2.2.2.1, HC.out.2.2.2.1.drew⟩ (fun hHeld => ?_)
      refine wpAnyH_take (i := 0) (v := ?_) rfl (by kernel_rfl) (by kernel_rfl) (by kernel_rfl) (fun _ _ _ h => h) (Or.inl ⟨rfl, ?hy1⟩) (by assumption) ?_
      case hy1 =>
        intro W hS
        obtain ⟨s0, s1, s2, s3, s4, -⟩ := hS
        have u1 := box_cell s1 0
        have u2 := (box_cell s3 (x.val * 3)).trans HG.out.1
        have u3 := (box_cell s3 (x.val * 3 + 1)).trans HG.out.2.1
        rw [HLG.out.1] at u2
        rw [HLG.out.2.1] at u3
        go_simp
        try with_reducible rfl
      try simp only [Act.put, List.getElem_toArray, List.getElem_cons_zero, List.setIfInBounds_toArray, List.set_cons_zero, List.set_cons_succ]
      refine wpAnyH_take (i := 1) (v := ?_) rfl (by kernel_rfl) (by kernel_rfl) (by kernel_rfl) (fun _ _ _ h => h) (Or.inl ⟨rfl, ?hy2⟩) (by assumption) ?_
      case hy2 =>
        intro W hS
        go_simp
        try with_reducible rfl
      try simp only [Act.put, List.getElem_toArray, List.getElem_cons_succ, List.getElem_cons_zero, List.setIfInBounds_toArray, List.set_cons_zero, List.set_cons_succ]
      refine wpAnyH_take (i := 2) (v := ?_) rfl (by kernel_rfl) (by kernel_rfl) (by kernel_rfl) (fun _ _ _ h => h) (Or.inl ⟨rfl, ?hy3⟩) (by assumption) ?_
      case hy3 =>
        intro W hS
        go_simp
        try with_reducible rfl
      try simp only [Act.put, List.getElem_toArray, List.getElem_cons_succ, List.getElem_cons_zero, List.setIfInBounds_toArray, List.set_cons_zero, List.set_cons_succ]
      refine wpAnyH_take (i := 3) (v := ?_) rfl (by kernel_rfl) (by kernel_rfl) (by kernel_rfl) (fun _ _ _ h => h) (Or.inl ⟨rfl, ?hy4⟩) (by assumption) ?_
      case hy4 =>
        intro W hS
        go_simp
        try with_reducible rfl
      try simp only [Act.put, List.getElem_toArray, List.getElem_cons_succ, List.getElem_cons_zero, List.setIfInBounds_toArray, List.set_cons_zero, List.set_cons_succ]
      refine wpAnyH_take (i := 4) (v := ?_) rfl (by kernel_rfl) (by kernel_rfl) (by kernel_rfl) (fun _ _ _ h => h) (Or.inl ⟨rfl, ?hy5⟩) (by assumption) ?_
      case hy5 =>
        intro W hS
        go_simp
        try with_reducible rfl
      try simp only [Act.put, List.getElem_toArray, List.getElem_cons_succ, List.getElem_cons_zero, List.setIfInBounds_toArray, List.set_cons_zero, List.set_cons_succ]
      refine wpAnyH_take (i := 5) (v := ?_) rfl (by kernel_rfl) (by kernel_rfl) (by kernel_rfl) (fun _ _ _ h => h) (Or.inl ⟨rfl, ?hy6⟩) (by assumption) ?_
      case hy6 =>
        intro W hS
        obtain ⟨s0, s1, s2, s3, s4, -⟩ := hS
        have u1 := box_cell s1 0
        have u2 := (box_cell s3 (x.val * 3)).trans HG.out.1
        have u3 := (box_cell s3 (x.val * 3 + 1)).trans HG.out.2.1
        rw [HLG.out.1] at u2
        rw [HLG.out.2.1] at u3
        go_simp
        try with_reducible rfl
      try simp only [Act.put, List.getElem_toArray, List.getElem_cons_succ, List.getElem_cons_zero, List.setIfInBounds_toArray, List.set_cons_zero, List.set_cons_succ]
      refine wpAnyH_ready (rs := [6]) (by kernel_rfl) (by simp) (AllReadyH.cons rfl (fun K hK => ?_) AllReadyH.nil)
      go_simp
      go_wp2_with (go_at_call 47; refine (HS.out _).mono ?_; rintro e wq ⟨rfl, hb⟩)
      refine hK.out _ _ (⟨row_up hHeld.1 hb, row_up hHeld.2.1 hb, row_up hHeld.2.2.1 hb, row_up hHeld.2.2.2.1 hb, row_up hHeld.2.2.2.2.1 hb, hHeld.2.2.2.2.2.trans (hb.mono hHeld.2.2.2.2.2.size)⟩) (fun hX => ?_)
      clear hK K hHeld
      have hHeld := hX
      clear hX
      refine wpAnyH_take (i := 7) (v := ?_) rfl (by kernel_rfl) (by kernel_rfl) (by kernel_rfl) (fun _ _ _ h => h) (Or.inl ⟨rfl, ?hy7⟩) (by assumption) ?_
      case hy7 =>
        intro W hS
        go_simp
        try with_reducible rfl
      try simp only [Act.put, List.getElem_toArray, List.getElem_cons_succ, List.getElem_cons_zero, List.setIfInBounds_toArray, List.set_cons_zero, List.set_cons_succ]
      refine wpAnyH_take (i := 8) (v := ?_) rfl (by kernel_rfl) (by kernel_rfl) (by kernel_rfl) (fun _ _ _ h => h) (Or.inl ⟨rfl, ?hy8⟩) (by assumption) ?_
      case hy8 =>
        intro W hS
        go_simp
        try with_reducible rfl
      try simp only [Act.put, List.getElem_toArray, List.getElem_cons_succ, List.getElem_cons_zero, List.setIfInBounds_toArray, List.set_cons_zero, List.set_cons_succ]
      refine wpAnyH_done (by kernel_rfl) ?_ _
      obtain ⟨q0, q1, q2, q3, q4, qB⟩ := hHeld
      have z1 := box_cell q1 0
      have z2 := box_cell q2 0
      have hw2 : IntKind.i64.wrap ((p : Int) - (Fr : Int)) = ((p - Fr : Nat) : Int) := by rw [IntWalk.i64_in _ (by omega)]; omega
      have hux := fun Z (hZ : Below w.heap.size w Z) (hgZ : Z.heap[g]? = some (.cells cur 96 (0, 0))) => binsert_any n₀ n₁ (p - Fr) g (x.val * 3) cur bs[x].v (.slice ua un uc) bs[x].cs ms Z hgZ HG.out.1 HG.out.2.1 HG.out.2.2 (own_up (HD.out.blocks.own bs[x] (List.getElem_mem _)) hZ) (own_up HU.out.1 hZ) (HU.out.2.1 bs[x] (List.getElem_mem _)) (by have := liveN_gone bs[x].cs; rw [HLG.out.1, HLG.out.2.1] at this; omega) (by have := HU.out.2.2.2.1; have := liveN_gone bs[x].cs; rw [HLG.out.1, HLG.out.2.1] at this; omega) (Nat.le_trans HU.out.2.2.2.2 hZ.size)
      have HUX := Lib.hid (hux wq qB q3)
      have HQ := Lib.hid (And.intro q0 (And.intro q1 (And.intro q2 (And.intro q3 (And.intro q4 (And.intro qB (And.intro (others_below hb) (KF.below (W := X.drew) (m₁ := w.heap.size + 1 + 1 + 1) HC.out.2.2.2.1.size hb))))))))
      clear hux q0 q1 q2 q3 q4 qB hb
      simp only [onlyN]
      obtain ⟨R, hR⟩ : ∃ R, bs[x].cs.take (p - Fr) ++ ms ++ bs[x].cs.drop (p - Fr) = R := ⟨_, rfl⟩
      have hsx : ∀ y : PB, (bs.set x.val y)[x.val]? = some y := fun y => by rw [List.getElem?_set]; simp
      obtain ⟨L2, hL2⟩ : ∃ z, liveN R = z := ⟨_, rfl⟩
      obtain ⟨G2, hG2⟩ : ∃ z, goneN R = z := ⟨_, rfl⟩
      have hlr : L2 + G2 ≤ 100000 := by
        have h1 := liveN_gone R
        rw [hL2, hG2] at h1
        rw [h1, ← hR]
        have h2 := HU.out.2.2.2.1
        have h3 := congrArg List.length HD.out.cat
        have h4 := catB_le (List.getElem?_eq_getElem x.isLt : bs[x.val]? = some bs[x])
        simp only [List.length_append, List.length_take, List.length_drop]
        have h5 : (bs[x].cs).length ≤ l.length := by rw [← h3]; exact Nat.le_trans (Nat.le_add_left _ _) h4
        omega
      have hux := HUX.out
      have hbk := HBK.out
      rw [hR] at hux
      rw [hL2, hG2] at hux
      have hbk2 := fun (W : World) (v5 : Value) => hbk W ⟨R, v5⟩
      dsimp only at hbk2
      rw [hL2, hG2] at hbk2
      have HUY := Lib.hid hux
      have HBY := Lib.hid hbk2
      have HRR := Lib.hid (And.intro hR (And.intro hL2 hG2))
      have hS2 := fun W => csize_any (L2 : Int) (G2 : Int) W (by omega) (by omega)
      have HS2 := Lib.hid hS2
      clear hux hbk hbk2 hR hL2 hG2 hS2
      have hcat : catB (bs.set x.val (PB.mk R (.slice none 0 0))) = l.take p ++ ms ++ l.drop p := by
        have hk := (List.getElem?_eq_getElem x.isLt : bs[x.val]? = some bs[x])
        rw [catB_set hk, ← HD.out.cat, ← HRR.out.1]
        have hF3 := HLG.out.2.2
        rw [← hF3] at hfr hgt ⊢
        refine put_cat hk hfr ?_
        have := liveN_gone bs[x].cs
        rw [HLG.out.1, HLG.out.2.1] at this
        have : (catB (bs.take x.val)).length = frB bs x := rfl
        omega
      have hful6' : ∀ v5, ∀ z ∈ bs.set x.val (PB.mk R v5), z.cs ≠ [] := fun v5 z hz => by
        obtain ⟨j, hj, rfl⟩ := List.mem_iff_getElem.1 hz
        rw [List.length_set] at hj
        rw [List.getElem_set]
        split
        · intro e
          have h1 : R = [] := e
          rw [← HRR.out.1] at h1
          have h2 := HD.out.full bs[x] (List.getElem_mem _)
          simp only [List.append_eq_nil_iff] at h1
          exact h2 (by rw [← List.take_append_drop (p - Fr) bs[x].cs, h1.1.1, h1.2]; rfl)
        · exact HD.out.full _ (List.getElem_mem _)
      rcases Nat.lt_or_ge 256 (L2 + G2) with hbig | hsml
      · have hd2 : (256 : Int) < (L2 : Int) + (G2 : Int) := by omega
        gi_wp2_with (refine ⟨trivial, ?_⟩; first
          | (gi_at_call 92; refine (callsIn_wide.2 HUY.out).mono ?_; rintro e w5 ⟨⟨_, rfl⟩, v5, hg5, ho5, hk5, hf5⟩; have hrow5 := HBY.out w5 v5 hg5; obtain ⟨g5, cap5, cur5, hve, -, hg5', e0, e1, e2, -⟩ := blocks_parts hrow5 (hsx ⟨R, v5⟩); have z3 := (box_cell hg5' (x.val * 3)).trans e0; have z4 := (box_cell hg5' (x.val * 3 + 1)).trans e1; dsimp only at z3 z4; rw [HRR.out.2.1] at z3; rw [HRR.out.2.2] at z4; have hge : g5 = g := (by injection hve with a _ _; injection a with a; injection a with a; exact a.symm); rw [hge] at z3 z4; clear hrow5 hg5' e0 e1 e2 hve hge)
          | (gi_at_call 47; refine (callsIn_wide.2 (HS2.out _)).mono ?_; rintro e w6 ⟨rfl, hb6⟩; have H5 := Lib.hid (And.intro hg5 (And.intro ho5 (And.intro hk5 (And.intro hf5 hb6)))); clear hg5 ho5 hk5 hf5 hb6))
        obtain ⟨q0, q1, q2, q3, q4, qB, hO, hFk⟩ := HQ.out
        obtain ⟨hg5, ho5, hk5, hf5, hb6⟩ := H5.out
        have hBq := HD.out.blocks.up qB
        have hk5' : Keep (fun j => (Value.slice (some ⟨g, 0, none⟩) bs.length cap).ownBlock = some j ∨ bs[x].v.ownBlock = some j) wq.heap.size wq w5 := hk5.weak (Nat.le_refl _) (fun q _ h => h.elim (fun e => .inl (by rw [e]; rfl)) .inr)
        have hB6 := (Blocks.one hBq (List.getElem?_eq_getElem x.isLt : bs[x.val]? = some bs[x]) (HBY.out w5 v5 hg5) ho5 hk5' hf5).up hb6
        have hBg : B ≠ g := fun e => by rw [e] at q4; rw [q3] at q4; cases q4
        have hBx : ¬ bs[x].v.ownBlock = some B := fun e => own_ne (hBq.own bs[x] (List.getElem_mem _)) q4 (by decide) e
        have hDg : w.heap.size ≠ g := fun e => by rw [e] at q0; rw [q3] at q0; cases q0
        have hDx : ¬ bs[x].v.ownBlock = some w.heap.size := fun e => own_ne (hBq.own bs[x] (List.getElem_mem _)) q0 (by decide) e
        have rB := row_up ((hk5.block B (box_lt q4) (fun h => h.elim hBg hBx)).trans q4) hb6
        have r0 := row_up ((hk5.block w.heap.size (box_lt q0) (fun h => h.elim hDg hDx)).trans q0) hb6
        obtain ⟨g6, cap6, cur6, hve6, -, rg, -, -, e6, -⟩ := blocks_parts hB6.row (hsx ⟨R, v5⟩)
        have hge : g6 = g := by injection hve6 with a _ _; injection a with a; injection a with a; exact a.symm
        rw [hge] at rg
        have hkF : Keep (footB B (Value.slice (some ⟨g, 0, none⟩) bs.length cap) bs) w.heap.size w w6 := ((Keep.of_below qB (Nat.le_refl _)).trans (hk5.weak qB.size (fun q _ h => h.elim (fun e => .inr (.inl (by rw [e]; rfl))) (fun e => .inr (.inr ⟨bs[x], List.getElem_mem _, e⟩))))).trans (Keep.of_below hb6 (Nat.le_trans qB.size hk5.size))
        have hoth : KeepsOthers X w6 := (KeepsOthers.drew X).trans (hO.trans ((hk5.others (fun q hq o ho => by
          rcases hq with e | e
          · rw [e, q3] at ho; cases ho; rfl
          · obtain ⟨_, c', hc'⟩ := own_typed (hBq.own bs[x] (List.getElem_mem _)) q e
            rw [hc'] at ho; cases ho; rfl)).trans (others_below hb6)))
        have hnew6 : ∀ z ∈ bs.set x.val (PB.mk R v5), ∀ q, z.v.ownBlock = some q → footB B (Value.slice (some ⟨g, 0, none⟩) bs.length cap) bs q ∨ w.heap.size ≤ q := fun z hz q hq => by
          obtain ⟨j, hj, rfl⟩ := List.mem_iff_getElem.1 hz
          rw [List.length_set] at hj
          rw [List.getElem_set] at hq
          split at hq
          · rcases hf5 q hq with e | e
            · exact .inl (.inr (.inr ⟨bs[x], List.getElem_mem _, e⟩))
            · exact .inr (Nat.le_trans qB.size e)
          · exact .inl (.inr (.inr ⟨_, List.getElem_mem _, hq⟩))
        have hRl : R.length = L2 + G2 := by
          have h1 := liveN_gone R
          rw [HRR.out.2.1, HRR.out.2.2] at h1
          exact h1.symm
        have hla := laid_any v5 R w6.drew (CAt.of_own (own_up ho5 hb6.drew) rfl) (by omega)
        have hwk : IntKind.i64.wrap ((x.val : Int) + 1) = ((x.val + 1 : Nat) : Int) := by rw [IntWalk.i64_in _ (by have := x.isLt; have := HD.out.few; omega)]; omega
        have hs6 : w.heap.size ≤ w6.heap.size := hkF.size
        obtain ⟨a5, m5, c5, rfl⟩ := slice_of ho5
        have hful6 := hful6' (.slice a5 m5 c5)
        have H8 := Lib.hid (And.intro hB6 (And.intro rB (And.intro r0 (And.intro rg (And.intro e6 (And.intro hkF (And.intro hoth (And.intro hnew6 (And.intro hRl (And.intro hBg hDg))))))))))
        have HLA8 := Lib.hid hla
        clear q0 q1 q2 q3 q4 qB hO hFk hg5 ho5 hk5 hf5 hb6 hBq hk5' hB6 hBg hBx hDg hDx rB r0 rg e6 hve6 hge hkF hoth hnew6 hRl hla z3 z4 z1 z2
        refine region_bridgeN (ro := some lp) (S := fun Y => Y.heap[w.heap.size]? = some (.cells #[.pointer (some ⟨B, 0, none⟩)] 26 (0, 0)) ∧ ∃ z, Y.heap[B]? = some (.cells #[z, .map (some M)] 79 (0, 0))) (by kernel_rfl) (by kernel_rfl) ⟨H8.out.2.2.1, _, H8.out.2.1⟩ (fun hHeld => ?_)
        refine wpAnyH_take (i := 0) (v := ?_) rfl (by kernel_rfl) (by kernel_rfl) (by kernel_rfl) (fun _ _ _ h => h) (Or.inl ⟨rfl, ?hy13⟩) (by assumption) ?_
        case hy13 =>
          intro W hS
          have u0 := box_cell hS.1 0
          go_simp
          try with_reducible rfl
        try simp only [Act.put, List.getElem_toArray, List.getElem_cons_zero, List.setIfInBounds_toArray, List.set_cons_zero, List.set_cons_succ]
        refine wpAnyH_take (i := 1) (v := ?_) rfl (by kernel_rfl) (by kernel_rfl) (by kernel_rfl) (fun _ _ _ h => h) (Or.inl ⟨rfl, ?hy14⟩) (by assumption) ?_
        case hy14 =>
          intro W hS
          have u0 := box_cell hS.1 0
          go_simp
          try with_reducible rfl
        try simp only [Act.put, List.getElem_toArray, List.getElem_cons_succ, List.getElem_cons_zero, List.setIfInBounds_toArray, List.set_cons_zero, List.set_cons_succ]
        refine wpAnyH_take (i := 2) (v := ?_) rfl (by kernel_rfl) (by kernel_rfl) (by kernel_rfl) (fun _ _ _ h => h) (Or.inl ⟨rfl, ?hy15⟩) (by assumption) ?_
        case hy15 =>
          intro W hS
          go_simp
          try with_reducible rfl
        try simp only [Act.put, List.getElem_toArray, List.getElem_cons_succ, List.getElem_cons_zero, List.setIfInBounds_toArray, List.set_cons_zero, List.set_cons_succ]
        refine wpAnyH_take (i := 3) (v := ?_) rfl (by kernel_rfl) (by kernel_rfl) (by kernel_rfl) (fun _ _ _ h => h) (Or.inl ⟨rfl, ?hy16⟩) (by assumption) ?_
        case hy16 =>
          intro W hS
          go_simp
          try with_reducible rfl
        try simp only [Act.put, List.getElem_toArray, List.getElem_cons_succ, List.getElem_cons_zero, List.setIfInBounds_toArray, List.set_cons_zero, List.set_cons_succ]
        refine wpAnyH_take (i := 5) (v := ?_) rfl (by kernel_rfl) (by kernel_rfl) (by kernel_rfl) (fun _ _ _ h => h) (Or.inl ⟨rfl, ?hy17⟩) (by assumption) ?_
        case hy17 =>
          intro W hS
          go_simp
          try with_reducible rfl
        try simp only [Act.put, List.getElem_toArray, List.getElem_cons_succ, List.getElem_cons_zero, List.setIfInBounds_toArray, List.set_cons_zero, List.set_cons_succ]
        refine wpAnyH_take (i := 6) (v := ?_) rfl (by kernel_rfl) (by kernel_rfl) (by kernel_rfl) (fun _ _ _ h => h) (Or.inl ⟨rfl, ?hy18⟩) (by assumption) ?_
        case hy18 =>
          intro W hS
          go_simp
          try with_reducible rfl
        try simp only [Act.put, List.getElem_toArray, List.getElem_cons_succ, List.getElem_cons_zero, List.setIfInBounds_toArray, List.set_cons_zero, List.set_cons_succ]
        refine wpAnyH_take (i := 7) (v := ?_) rfl (by kernel_rfl) (by kernel_rfl) (by kernel_rfl) (fun _ _ _ h => h) (Or.inl ⟨rfl, ?hy19⟩) (by assumption) ?_
        case hy19 =>
          intro W hS
          go_simp
          try with_reducible rfl
        try simp only [Act.put, List.getElem_toArray, List.getElem_cons_succ, List.getElem_cons_zero, List.setIfInBounds_toArray, List.set_cons_zero, List.set_cons_succ]
        refine wpAnyH_take (i := 8) (v := ?_) rfl (by kernel_rfl) (by kernel_rfl) (by kernel_rfl) (fun _ _ _ h => h) (Or.inl ⟨rfl, ?hy20⟩) (by assumption) ?_
        case hy20 =>
          intro W hS
          go_simp
          try with_reducible rfl
        try simp only [Act.put, List.getElem_toArray, List.getElem_cons_succ, List.getElem_cons_zero, List.setIfInBounds_toArray, List.set_cons_zero, List.set_cons_succ]
        refine wpAnyH_take (i := 9) (v := ?_) rfl (by kernel_rfl) (by kernel_rfl) (by kernel_rfl) (fun _ _ _ h => h) (Or.inl ⟨rfl, ?hy21⟩) (by assumption) ?_
        case hy21 =>
          intro W hS
          go_simp
          try with_reducible rfl
        try simp only [Act.put, List.getElem_toArray, List.getElem_cons_succ, List.getElem_cons_zero, List.setIfInBounds_toArray, List.set_cons_zero, List.set_cons_succ]
        refine wpAnyH_take (i := 10) (v := ?_) rfl (by kernel_rfl) (by kernel_rfl) (by kernel_rfl) (fun _ _ _ h => h) (Or.inl ⟨rfl, ?hy22⟩) (by assumption) ?_
        case hy22 =>
          intro W hS
          go_simp
          try with_reducible rfl
        try simp only [Act.put, List.getElem_toArray, List.getElem_cons_succ, List.getElem_cons_zero, List.setIfInBounds_toArray, List.set_cons_zero, List.set_cons_succ]
        refine wpAnyH_ready (rs := [4, 11]) (by kernel_rfl) (by simp) (AllReadyH.cons rfl (fun K hK => ?_) (AllReadyH.cons rfl (fun K hK => ?_) AllReadyH.nil))
        · have zB := box_cell (w := w6.drew) H8.out.2.1 0
          go_simp
          refine hK.out _ _ (hHeld) (fun hX => ?_)
          clear hK K hHeld
          have hHeld := hX
          clear hX
          refine wpAnyH_ready (rs := [11]) (by kernel_rfl) (by simp) (AllReadyH.cons rfl (fun K hK => ?_) AllReadyH.nil)
          have zg := (box_cell (w := w6.drew) H8.out.2.2.2.1 (x.val * 3 + 1 + 1)).trans H8.out.2.2.2.2.1
          go_simp
          refine hK.out _ _ (hHeld) (fun hX => ?_)
          clear hK K hHeld
          have hHeld := hX
          clear hX
          refine wpAnyH_ready (rs := [12]) (by kernel_rfl) (by simp) (AllReadyH.cons rfl (fun K hK => ?_) AllReadyH.nil)
          go_simp
          go_wp2_with (go_at_call 38; refine HLA8.out.mono ?_; rintro e w7 ⟨v7, bl, rfl, hbl, hcl, hfl, ⟨hful7, hcn7⟩, hb7⟩)
          obtain ⟨a7, n7, c7, rfl⟩ := slice_of hbl.row
          have rB7 := row_up (W := w6.drew) H8.out.2.1 hb7
          refine hK.out _ _ (⟨row_up hHeld.1 hb7, _, rB7⟩) (fun hX => ?_)
          clear hK K hHeld
          have hHeld := hX
          clear hX
          refine wpAnyH_ready (rs := [13]) (by kernel_rfl) (by simp) (AllReadyH.cons rfl (fun K hK => ?_) AllReadyH.nil)
          have h67 : Below w6.heap.size w6 w7 := (Below.refl w6.heap.size w6).drew.trans hb7
          have hrp := replace_any n₀ w6.heap.size x.val _ (.slice a7 n7 c7) (bs.set x.val (PB.mk R (.slice a5 m5 c5))) bl w7 (own_up H8.out.1.row h67) hbl.row (fun q h1 h2 => by
            obtain ⟨_, c', hc'⟩ := own_typed H8.out.1.row q h1
            obtain ⟨h3, _⟩ := own_typed hbl.row q h2
            have h4 := box_lt hc'
            have h5 : w6.heap.size ≤ q := h3
            omega) (fun z hz => own_one (H8.out.1.own z hz)) (fun z hz => own_one (hbl.own z hz)) (by rw [List.length_set]; exact x.isLt) (by rw [hcn7, H8.out.2.2.2.2.2.2.2.2.1]; unfold chN; omega) (by
            rw [List.length_set, hcn7, H8.out.2.2.2.2.2.2.2.2.1]
            have h1 := cat_len HD.out.full
            rw [HD.out.cat] at h1
            have h2 := HU.out.2.2.2.1
            unfold chN
            omega) (Nat.le_trans HU.out.2.2.2.2 (Nat.le_trans hs6 hb7.size))
          go_simp
          go_wp2_with (go_at_call 93; refine hrp.mono ?_; rintro e w8 ⟨v8, rfl, ho8, hk8, hf8⟩)
          obtain ⟨a8, n8, c8, rfl⟩ := slice_of ho8
          have rB8 := (hk8.block B (box_lt rB7) (fun h => H8.out.2.2.2.2.2.2.2.2.2.1 (by injection h with h; exact h.symm))).trans rB7
          refine hK.out _ _ (⟨(hk8.block _ (box_lt hHeld.1) (fun h => H8.out.2.2.2.2.2.2.2.2.2.2 (by injection h with h; exact h.symm))).trans hHeld.1, _, rB8⟩) (fun hX => ?_)
          clear hK K hHeld
          have hHeld := hX
          clear hX
          refine wpAnyH_take (i := 14) (v := ?_) rfl (by kernel_rfl) (by kernel_rfl) (by kernel_rfl) (fun _ _ _ h => h) (Or.inl ⟨rfl, ?hy23⟩) (by assumption) ?_
          case hy23 =>
            intro W hS
            go_simp
            try with_reducible rfl
          try simp only [Act.put, List.getElem_toArray, List.getElem_cons_succ, List.getElem_cons_zero, List.setIfInBounds_toArray, List.set_cons_zero, List.set_cons_succ]
          refine wpAnyH_take (i := 15) (v := ?_) rfl (by kernel_rfl) (by kernel_rfl) (by kernel_rfl) (fun _ _ _ h => h) (Or.inl ⟨rfl, ?hy24⟩) (by assumption) ?_
          case hy24 =>
            intro W hS
            go_simp
            try with_reducible rfl
          try simp only [Act.put, List.getElem_toArray, List.getElem_cons_succ, List.getElem_cons_zero, List.setIfInBounds_toArray, List.set_cons_zero, List.set_cons_succ]
          refine wpAnyH_ready (rs := [16]) (by kernel_rfl) (by simp) (AllReadyH.cons rfl (fun K hK => ?_) AllReadyH.nil)
          have z8 := box_cell rB8 0
          have f8 := box_frozen rB8 0
          go_simp
          refine hK.out _ _ (⟨(box_other (by omega) 0 _).trans hHeld.1, _, box_set rB8 0 _⟩) (fun hX => ?_)
          clear hK K hHeld
          have hHeld := hX
          clear hX
          refine wpAnyH_done (by kernel_rfl) ?_ _
          simp only [onlyN]
          gi_wp2
          obtain ⟨hB6, rB, r0, rg, e6, hkF, hoth, hnew6, hRl, hBg, hDg⟩ := H8.out
          have hrep := Blocks.rep hB6 hbl h67 (Nat.le_trans HU.out.2.2.2.2 hs6) ho8 hk8
          have hk := (List.getElem?_eq_getElem x.isLt : bs[x.val]? = some bs[x])
          refine ⟨hoth.trans ((KeepsOthers.drew w6).trans ((others_below hb7).trans ((hk8.others (fun q hq o ho => by obtain ⟨_, c', hc'⟩ := own_typed (own_up hB6.row h67) q hq; rw [hc'] at ho; cases ho; rfl)).trans (KeepsOthers.setCell _ _ _)))), rfl, _, _, ⟨box_set rB8 0 _, hrep.set rB8 (by decide) (by decide), ?_, fun z hz => ?_, fun q hq => ?_, fun z hz q hq => ?_, ?_⟩⟩
          · rw [catB_append, catB_append, hcl, List.take_set_of_le (Nat.le_refl _), List.drop_set_of_lt (by omega), ← hcat, catB_set hk]
          · rcases List.mem_append.1 hz with h | h
            · rcases List.mem_append.1 h with h | h
              · exact hful6 z (List.mem_of_mem_take h)
              · exact hful7 z h
            · exact hful6 z (List.mem_of_mem_drop h)
          · rcases hf8 q hq with e | e
            · exact .inl (.inr (.inl e))
            · exact .inr (Nat.le_trans hs6 (Nat.le_trans hb7.size e))
          · rcases List.mem_append.1 hz with h | h
            · rcases List.mem_append.1 h with h | h
              · exact hnew6 z (List.mem_of_mem_take h) q hq
              · exact .inr (Nat.le_trans hs6 (own_typed (hbl.own z h) q hq).1)
            · exact hnew6 z (List.mem_of_mem_drop h) q hq
          · exact ((hkF.trans (Keep.of_below h67 hs6)).trans (hk8.weak (Nat.le_trans hs6 h67.size) (fun q _ h => .inr (.inl h)))).setCell (p := ⟨B, 0, none⟩) (.inl (.inl rfl)) _
        · have zg := (box_cell (w := w6.drew) H8.out.2.2.2.1 (x.val * 3 + 1 + 1)).trans H8.out.2.2.2.2.1
          go_simp
          refine hK.out _ _ (hHeld) (fun hX => ?_)
          clear hK K hHeld
          have hHeld := hX
          clear hX
          refine wpAnyH_ready (rs := [4, 12]) (by kernel_rfl) (by simp) (AllReadyH.cons rfl (fun K hK => ?_) (AllReadyH.cons rfl (fun K hK => ?_) AllReadyH.nil))
          · have zB := box_cell (w := w6.drew) H8.out.2.1 0
            go_simp
            refine hK.out _ _ (hHeld) (fun hX => ?_)
            clear hK K hHeld
            have hHeld := hX
            clear hX
            refine wpAnyH_ready (rs := [12]) (by kernel_rfl) (by simp) (AllReadyH.cons rfl (fun K hK => ?_) AllReadyH.nil)
            go_simp
            go_wp2_with (go_at_call 38; refine HLA8.out.mono ?_; rintro e w7 ⟨v7, bl, rfl, hbl, hcl, hfl, ⟨hful7, hcn7⟩, hb7⟩)
            obtain ⟨a7, n7, c7, rfl⟩ := slice_of hbl.row
            have rB7 := row_up (W := w6.drew) H8.out.2.1 hb7
            refine hK.out _ _ (⟨row_up hHeld.1 hb7, _, rB7⟩) (fun hX => ?_)
            clear hK K hHeld
            have hHeld := hX
            clear hX
            refine wpAnyH_ready (rs := [13]) (by kernel_rfl) (by simp) (AllReadyH.cons rfl (fun K hK => ?_) AllReadyH.nil)
            have h67 : Below w6.heap.size w6 w7 := (Below.refl w6.heap.size w6).drew.trans hb7
            have hrp := replace_any n₀ w6.heap.size x.val _ (.slice a7 n7 c7) (bs.set x.val (PB.mk R (.slice a5 m5 c5))) bl w7 (own_up H8.out.1.row h67) hbl.row (fun q h1 h2 => by
              obtain ⟨_, c', hc'⟩ := own_typed H8.out.1.row q h1
              obtain ⟨h3, _⟩ := own_typed hbl.row q h2
              have h4 := box_lt hc'
              have h5 : w6.heap.size ≤ q := h3
              omega) (fun z hz => own_one (H8.out.1.own z hz)) (fun z hz => own_one (hbl.own z hz)) (by rw [List.length_set]; exact x.isLt) (by rw [hcn7, H8.out.2.2.2.2.2.2.2.2.1]; unfold chN; omega) (by
              rw [List.length_set, hcn7, H8.out.2.2.2.2.2.2.2.2.1]
              have h1 := cat_len HD.out.full
              rw [HD.out.cat] at h1
              have h2 := HU.out.2.2.2.1
              unfold chN
              omega) (Nat.le_trans HU.out.2.2.2.2 (Nat.le_trans hs6 hb7.size))
            go_simp
            go_wp2_with (go_at_call 93; refine hrp.mono ?_; rintro e w8 ⟨v8, rfl, ho8, hk8, hf8⟩)
            obtain ⟨a8, n8, c8, rfl⟩ := slice_of ho8
            have rB8 := (hk8.block B (box_lt rB7) (fun h => H8.out.2.2.2.2.2.2.2.2.2.1 (by injection h with h; exact h.symm))).trans rB7
            refine hK.out _ _ (⟨(hk8.block _ (box_lt hHeld.1) (fun h => H8.out.2.2.2.2.2.2.2.2.2.2 (by injection h with h; exact h.symm))).trans hHeld.1, _, rB8⟩) (fun hX => ?_)
            clear hK K hHeld
            have hHeld := hX
            clear hX
            refine wpAnyH_take (i := 14) (v := ?_) rfl (by kernel_rfl) (by kernel_rfl) (by kernel_rfl) (fun _ _ _ h => h) (Or.inl ⟨rfl, ?hy25⟩) (by assumption) ?_
            case hy25 =>
              intro W hS
              go_simp
              try with_reducible rfl
            try simp only [Act.put, List.getElem_toArray, List.getElem_cons_succ, List.getElem_cons_zero, List.setIfInBounds_toArray, List.set_cons_zero, List.set_cons_succ]
            refine wpAnyH_take (i := 15) (v := ?_) rfl (by kernel_rfl) (by kernel_rfl) (by kernel_rfl) (fun _ _ _ h => h) (Or.inl ⟨rfl, ?hy26⟩) (by assumption) ?_
            case hy26 =>
              intro W hS
              go_simp
              try with_reducible rfl
            try simp only [Act.put, List.getElem_toArray, List.getElem_cons_succ, List.getElem_cons_zero, List.setIfInBounds_toArray, List.set_cons_zero, List.set_cons_succ]
            refine wpAnyH_ready (rs := [16]) (by kernel_rfl) (by simp) (AllReadyH.cons rfl (fun K hK => ?_) AllReadyH.nil)
            have z8 := box_cell rB8 0
            have f8 := box_frozen rB8 0
            go_simp
            refine hK.out _ _ (⟨(box_other (by omega) 0 _).trans hHeld.1, _, box_set rB8 0 _⟩) (fun hX => ?_)
            clear hK K hHeld
            have hHeld := hX
            clear hX
            refine wpAnyH_done (by kernel_rfl) ?_ _
            simp only [onlyN]
            gi_wp2
            obtain ⟨hB6, rB, r0, rg, e6, hkF, hoth, hnew6, hRl, hBg, hDg⟩ := H8.out
            have hrep := Blocks.rep hB6 hbl h67 (Nat.le_trans HU.out.2.2.2.2 hs6) ho8 hk8
            have hk := (List.getElem?_eq_getElem x.isLt : bs[x.val]? = some bs[x])
            refine ⟨hoth.trans ((KeepsOthers.drew w6).trans ((others_below hb7).trans ((hk8.others (fun q hq o ho => by obtain ⟨_, c', hc'⟩ := own_typed (own_up hB6.row h67) q hq; rw [hc'] at ho; cases ho; rfl)).trans (KeepsOthers.setCell _ _ _)))), rfl, _, _, ⟨box_set rB8 0 _, hrep.set rB8 (by decide) (by decide), ?_, fun z hz => ?_, fun q hq => ?_, fun z hz q hq => ?_, ?_⟩⟩
            · rw [catB_append, catB_append, hcl, List.take_set_of_le (Nat.le_refl _), List.drop_set_of_lt (by omega), ← hcat, catB_set hk]
            · rcases List.mem_append.1 hz with h | h
              · rcases List.mem_append.1 h with h | h
                · exact hful6 z (List.mem_of_mem_take h)
                · exact hful7 z h
              · exact hful6 z (List.mem_of_mem_drop h)
            · rcases hf8 q hq with e | e
              · exact .inl (.inr (.inl e))
              · exact .inr (Nat.le_trans hs6 (Nat.le_trans hb7.size e))
            · rcases List.mem_append.1 hz with h | h
              · rcases List.mem_append.1 h with h | h
                · exact hnew6 z (List.mem_of_mem_take h) q hq
                · exact .inr (Nat.le_trans hs6 (own_typed (hbl.own z h) q hq).1)
              · exact hnew6 z (List.mem_of_mem_drop h) q hq
            · exact ((hkF.trans (Keep.of_below h67 hs6)).trans (hk8.weak (Nat.le_trans hs6 h67.size) (fun q _ h => .inr (.inl h)))).setCell (p := ⟨B, 0, none⟩) (.inl (.inl rfl)) _
          · go_simp
            go_wp2_with (go_at_call 38; refine HLA8.out.mono ?_; rintro e w7 ⟨v7, bl, rfl, hbl, hcl, hfl, ⟨hful7, hcn7⟩, hb7⟩)
            obtain ⟨a7, n7, c7, rfl⟩ := slice_of hbl.row
            have rB7 := row_up (W := w6.drew) H8.out.2.1 hb7
            refine hK.out _ _ (⟨row_up hHeld.1 hb7, _, rB7⟩) (fun hX => ?_)
            clear hK K hHeld
            have hHeld := hX
            clear hX
            refine wpAnyH_ready (rs := [4]) (by kernel_rfl) (by simp) (AllReadyH.cons rfl (fun K hK => ?_) AllReadyH.nil)
            have zB := box_cell rB7 0
            go_simp
            refine hK.out _ _ (hHeld) (fun hX => ?_)
            clear hK K hHeld
            have hHeld := hX
            clear hX
            refine wpAnyH_ready (rs := [13]) (by kernel_rfl) (by simp) (AllReadyH.cons rfl (fun K hK => ?_) AllReadyH.nil)
            have h67 : Below w6.heap.size w6 w7 := (Below.refl w6.heap.size w6).drew.trans hb7
            have hrp := replace_any n₀ w6.heap.size x.val _ (.slice a7 n7 c7) (bs.set x.val (PB.mk R (.slice a5 m5 c5))) bl w7 (own_up H8.out.1.row h67) hbl.row (fun q h1 h2 => by
              obtain ⟨_, c', hc'⟩ := own_typed H8.out.1.row q h1
              obtain ⟨h3, _⟩ := own_typed hbl.row q h2
              have h4 := box_lt hc'
              have h5 : w6.heap.size ≤ q := h3
              omega) (fun z hz => own_one (H8.out.1.own z hz)) (fun z hz => own_one (hbl.own z hz)) (by rw [List.length_set]; exact x.isLt) (by rw [hcn7, H8.out.2.2.2.2.2.2.2.2.1]; unfold chN; omega) (by
              rw [List.length_set, hcn7, H8.out.2.2.2.2.2.2.2.2.1]
              have h1 := cat_len HD.out.full
              rw [HD.out.cat] at h1
              have h2 := HU.out.2.2.2.1
              unfold chN
              omega) (Nat.le_trans HU.out.2.2.2.2 (Nat.le_trans hs6 hb7.size))
            go_simp
            go_wp2_with (go_at_call 93; refine hrp.mono ?_; rintro e w8 ⟨v8, rfl, ho8, hk8, hf8⟩)
            obtain ⟨a8, n8, c8, rfl⟩ := slice_of ho8
            have rB8 := (hk8.block B (box_lt rB7) (fun h => H8.out.2.2.2.2.2.2.2.2.2.1 (by injection h with h; exact h.symm))).trans rB7
            refine hK.out _ _ (⟨(hk8.block _ (box_lt hHeld.1) (fun h => H8.out.2.2.2.2.2.2.2.2.2.2 (by injection h with h; exact h.symm))).trans hHeld.1, _, rB8⟩) (fun hX => ?_)
            clear hK K hHeld
            have hHeld := hX
            clear hX
            refine wpAnyH_take (i := 14) (v := ?_) rfl (by kernel_rfl) (by kernel_rfl) (by kernel_rfl) (fun _ _ _ h => h) (Or.inl ⟨rfl, ?hy27⟩) (by assumption) ?_
            case hy27 =>
              intro W hS
              go_simp
              try with_reducible rfl
            try simp only [Act.put, List.getElem_toArray, List.getElem_cons_succ, List.getElem_cons_zero, List.setIfInBounds_toArray, List.set_cons_zero, List.set_cons_succ]
            refine wpAnyH_take (i := 15) (v := ?_) rfl (by kernel_rfl) (by kernel_rfl) (by kernel_rfl) (fun _ _ _ h => h) (Or.inl ⟨rfl, ?hy28⟩) (by assumption) ?_
            case hy28 =>
              intro W hS
              go_simp
              try with_reducible rfl
            try simp only [Act.put, List.getElem_toArray, List.getElem_cons_succ, List.getElem_cons_zero, List.setIfInBounds_toArray, List.set_cons_zero, List.set_cons_succ]
            refine wpAnyH_ready (rs := [16]) (by kernel_rfl) (by simp) (AllReadyH.cons rfl (fun K hK => ?_) AllReadyH.nil)
            have z8 := box_cell rB8 0
            have f8 := box_frozen rB8 0
            go_simp
            refine hK.out _ _ (⟨(box_other (by omega) 0 _).trans hHeld.1, _, box_set rB8 0 _⟩) (fun hX => ?_)
            clear hK K hHeld
            have hHeld := hX
            clear hX
            refine wpAnyH_done (by kernel_rfl) ?_ _
            simp only [onlyN]
            gi_wp2
            obtain ⟨hB6, rB, r0, rg, e6, hkF, hoth, hnew6, hRl, hBg, hDg⟩ := H8.out
            have hrep := Blocks.rep hB6 hbl h67 (Nat.le_trans HU.out.2.2.2.2 hs6) ho8 hk8
            have hk := (List.getElem?_eq_getElem x.isLt : bs[x.val]? = some bs[x])
            refine ⟨hoth.trans ((KeepsOthers.drew w6).trans ((others_below hb7).trans ((hk8.others (fun q hq o ho => by obtain ⟨_, c', hc'⟩ := own_typed (own_up hB6.row h67) q hq; rw [hc'] at ho; cases ho; rfl)).trans (KeepsOthers.setCell _ _ _)))), rfl, _, _, ⟨box_set rB8 0 _, hrep.set rB8 (by decide) (by decide), ?_, fun z hz => ?_, fun q hq => ?_, fun z hz q hq => ?_, ?_⟩⟩
            · rw [catB_append, catB_append, hcl, List.take_set_of_le (Nat.le_refl _), List.drop_set_of_lt (by omega), ← hcat, catB_set hk]
            · rcases List.mem_append.1 hz with h | h
              · rcases List.mem_append.1 h with h | h
                · exact hful6 z (List.mem_of_mem_take h)
                · exact hful7 z h
              · exact hful6 z (List.mem_of_mem_drop h)
            · rcases hf8 q hq with e | e
              · exact .inl (.inr (.inl e))
              · exact .inr (Nat.le_trans hs6 (Nat.le_trans hb7.size e))
            · rcases List.mem_append.1 hz with h | h
              · rcases List.mem_append.1 h with h | h
                · exact hnew6 z (List.mem_of_mem_take h) q hq
                · exact .inr (Nat.le_trans hs6 (own_typed (hbl.own z h) q hq).1)
              · exact hnew6 z (List.mem_of_mem_drop h) q hq
            · exact ((hkF.trans (Keep.of_below h67 hs6)).trans (hk8.weak (Nat.le_trans hs6 h67.size) (fun q _ h => .inr (.inl h)))).setCell (p := ⟨B, 0, none⟩) (.inl (.inl rfl)) _
      · have hd2 : ¬ (256 : Int) < (L2 : Int) + (G2 : Int) := by omega
        gi_wp2_with (refine ⟨trivial, ?_⟩; first
          | (gi_at_call 92; refine (callsIn_wide.2 HUY.out).mono ?_; rintro e w5 ⟨⟨_, rfl⟩, v5, hg5, ho5, hk5, hf5⟩; have hrow5 := HBY.out w5 v5 hg5; obtain ⟨g5, cap5, cur5, hve, -, hg5', e0, e1, e2, -⟩ := blocks_parts hrow5 (hsx ⟨R, v5⟩); have z3 := (box_cell hg5' (x.val * 3)).trans e0; have z4 := (box_cell hg5' (x.val * 3 + 1)).trans e1; dsimp only at z3 z4; rw [HRR.out.2.1] at z3; rw [HRR.out.2.2] at z4; have hge : g5 = g := (by injection hve with a _ _; injection a with a; injection a with a; exact a.symm); rw [hge] at z3 z4; clear hrow5 hg5' e0 e1 e2 hve hge)
          | (gi_at_call 47; refine (callsIn_wide.2 (HS2.out _)).mono ?_; rintro e w6 ⟨rfl, hb6⟩; have H5 := Lib.hid (And.intro hg5 (And.intro ho5 (And.intro hk5 (And.intro hf5 hb6)))); clear hg5 ho5 hk5 hf5 hb6))
        obtain ⟨q0, q1, q2, q3, q4, qB, hO, hFk⟩ := HQ.out
        obtain ⟨hg5, ho5, hk5, hf5, hb6⟩ := H5.out
        have hBq := HD.out.blocks.up qB
        have hk5' : Keep (fun j => (Value.slice (some ⟨g, 0, none⟩) bs.length cap).ownBlock = some j ∨ bs[x].v.ownBlock = some j) wq.heap.size wq w5 := hk5.weak (Nat.le_refl _) (fun q _ h => h.elim (fun e => .inl (by rw [e]; rfl)) .inr)
        have hB5 := Blocks.one hBq (List.getElem?_eq_getElem x.isLt : bs[x.val]? = some bs[x]) (HBY.out w5 v5 hg5) ho5 hk5' hf5
        have hBg : B ≠ g := fun e => by rw [e] at q4; rw [q3] at q4; cases q4
        have hBx : ¬ bs[x].v.ownBlock = some B := fun e => own_ne (hBq.own bs[x] (List.getElem_mem _)) q4 (by decide) e
        have hx5 := (hk5.block B (box_lt q4) (fun h => h.elim hBg hBx)).trans q4
        have hkF : Keep (footB B (Value.slice (some ⟨g, 0, none⟩) bs.length cap) bs) w.heap.size w w6 := ((Keep.of_below qB (Nat.le_refl _)).trans (hk5.weak qB.size (fun q _ h => h.elim (fun e => .inr (.inl (by rw [e]; rfl))) (fun e => .inr (.inr ⟨bs[x], List.getElem_mem _, e⟩))))).trans (Keep.of_below hb6 (Nat.le_trans qB.size hk5.size))
        have hoth : KeepsOthers wq w5 := hk5.others (fun q hq o ho => by
          rcases hq with e | e
          · rw [e, q3] at ho; cases ho; rfl
          · obtain ⟨_, c', hc'⟩ := own_typed (hBq.own bs[x] (List.getElem_mem _)) q e
            rw [hc'] at ho; cases ho; rfl)
        refine ⟨(KeepsOthers.drew X).trans (hO.trans (hoth.trans (others_below hb6))), rfl, _, _, ⟨row_up hx5 hb6, hB5.up hb6, ?_, ?_, fun q hq => .inl (.inr (.inl hq)), ?_, hkF⟩⟩
        · have hk := (List.getElem?_eq_getElem x.isLt : bs[x.val]? = some bs[x])
          rw [← hcat, catB_set hk, catB_set hk]
        · intro z hz
          obtain ⟨j, hj, rfl⟩ := List.mem_iff_getElem.1 hz
          rw [List.length_set] at hj
          rw [List.getElem_set]
          split
          · intro e
            have h1 : R = [] := e
            rw [← HRR.out.1] at h1
            have h2 := HD.out.full bs[x] (List.getElem_mem _)
            simp only [List.append_eq_nil_iff] at h1
            exact h2 (by rw [← List.take_append_drop (p - Fr) bs[x].cs, h1.1.1, h1.2]; rfl)
          · exact HD.out.full _ (List.getElem_mem _)
        · intro z hz q hq
          obtain ⟨j, hj, rfl⟩ := List.mem_iff_getElem.1 hz
          rw [List.length_set] at hj
          rw [List.getElem_set] at hq
          split at hq
          · rcases hf5 q hq with e | e
            · exact .inl (.inr (.inr ⟨bs[x], List.getElem_mem _, e⟩))
            · exact .inr (Nat.le_trans qB.size e)
          · exact .inl (.inr (.inr ⟨_, List.getElem_mem _, hq⟩))
  case done =>
    rintro D xs Z hD rfl ⟨⟨hsk, c0, c1, c2⟩, hB⟩ hK
    have hbs : bs.length = 0 := by
      rcases Nat.eq_zero_or_pos bs.length with h | h
      · exact h
      · exfalso
        have h1 := hsk ⟨bs.length - 1, by omega⟩ (by unfold begL; exact List.mem_finRange _)
        have hx : bs[bs.length - 1]? = some bs[bs.length - 1] := List.getElem?_eq_getElem (by omega)
        have h2 := catB_take hx
        rw [show bs.length - 1 + 1 = bs.length by omega, List.take_length, HD.out.cat] at h2
        have h3 := congrArg List.length h2
        rw [List.length_append] at h3
        have h4 := HU.out.2.2.1
        have h5 : frB bs (⟨bs.length - 1, by omega⟩ : Fin bs.length) = (catB (bs.take (bs.length - 1))).length := rfl
        rw [h5] at h1
        have h6 : (bs[(⟨bs.length - 1, by omega⟩ : Fin bs.length)]).cs.length = (bs[bs.length - 1]).cs.length := rfl
        omega
    have hl0 : l = [] := by
      rw [← HD.out.cat, List.eq_nil_of_length_eq_zero hbs]
      rfl
    have hbZ := row_up HD.out.box hB
    have hla := laid_any (.slice ua un uc) ms Z.drew (CAt.of_own (own_up HU.out.1 hB.drew) rfl) (by have := HU.out.2.2.2.1; omega)
    have HLA := Lib.hid hla
    have HQ := Lib.hid (And.intro c0 (And.intro c2 (And.intro hB (And.intro hbZ (And.intro hl0 hK)))))
    clear c0 c1 c2 hB hbZ hla hsk hl0 hK
    gi_wp2
    refine region_bridgeN (ro := none) (S := fun Y => Y.heap[w.heap.size]? = some (.cells #[.pointer (some ⟨B, 0, none⟩)] 26 (0, 0)) ∧ Y.heap[w.heap.size + 1 + 1]? = some (.cells #[.slice ua un uc] 22 (0, 0))) (by kernel_rfl) (by kernel_rfl) ⟨HQ.out.1, HQ.out.2.1⟩ (fun hHeld => ?_)
    refine wpAnyH_take (i := 0) (v := ?_) rfl (by kernel_rfl) (by kernel_rfl) (by kernel_rfl) (fun _ _ _ h => h) (Or.inl ⟨rfl, ?hy9⟩) (by assumption) ?_
    case hy9 =>
      intro W hS
      have u0 := box_cell hS.1 0
      have u1 := box_cell hS.2 0
      go_simp
      try with_reducible rfl
    try simp only [Act.put, List.getElem_toArray, List.getElem_cons_zero, List.setIfInBounds_toArray, List.set_cons_zero, List.set_cons_succ]
    refine wpAnyH_take (i := 1) (v := ?_) rfl (by kernel_rfl) (by kernel_rfl) (by kernel_rfl) (fun _ _ _ h => h) (Or.inl ⟨rfl, ?hy10⟩) (by assumption) ?_
    case hy10 =>
      intro W hS
      have u0 := box_cell hS.1 0
      have u1 := box_cell hS.2 0
      go_simp
      try with_reducible rfl
    try simp only [Act.put, List.getElem_toArray, List.getElem_cons_succ, List.getElem_cons_zero, List.setIfInBounds_toArray, List.set_cons_zero, List.set_cons_succ]
    refine wpAnyH_ready (rs := [2]) (by kernel_rfl) (by simp) (AllReadyH.cons rfl (fun K hK => ?_) AllReadyH.nil)
    go_simp
    go_wp2_with (go_at_call 38; refine (HLA.out).mono ?_; rintro e w9 ⟨v9, bs9, rfl, hbk9, hcat9, hfew9, ⟨hful9, hcn9⟩, hb9⟩)
    refine hK.out _ _ (⟨row_up hHeld.1 hb9, row_up hHeld.2 hb9⟩) (fun hX => ?_)
    clear hK K hHeld
    have hHeld := hX
    clear hX
    refine wpAnyH_take (i := 3) (v := ?_) rfl (by kernel_rfl) (by kernel_rfl) (by kernel_rfl) (fun _ _ _ h => h) (Or.inl ⟨rfl, ?hy11⟩) (by assumption) ?_
    case hy11 =>
      intro W hS
      go_simp
      try with_reducible rfl
    try simp only [Act.put, List.getElem_toArray, List.getElem_cons_succ, List.getElem_cons_zero, List.setIfInBounds_toArray, List.set_cons_zero, List.set_cons_succ]
    refine wpAnyH_take (i := 4) (v := ?_) rfl (by kernel_rfl) (by kernel_rfl) (by kernel_rfl) (fun _ _ _ h => h) (Or.inl ⟨rfl, ?hy12⟩) (by assumption) ?_
    case hy12 =>
      intro W hS
      go_simp
      try with_reducible rfl
    try simp only [Act.put, List.getElem_toArray, List.getElem_cons_succ, List.getElem_cons_zero, List.setIfInBounds_toArray, List.set_cons_zero, List.set_cons_succ]
    refine wpAnyH_ready (rs := [5]) (by kernel_rfl) (by simp) (AllReadyH.cons rfl (fun K hK => ?_) AllReadyH.nil)
    obtain ⟨a9, n9, c9, rfl⟩ := slice_of hbk9.row
    have x9 := row_up (W := Z.drew) HQ.out.2.2.2.1 hb9
    have z9 := box_cell x9 0
    have f9 := box_frozen x9 0
    go_simp
    refine hK.out _ _ (⟨(box_other (by omega) 0 _).trans hHeld.1, (box_other (by omega) 0 _).trans hHeld.2⟩) (fun hX => ?_)
    clear hK K hHeld
    have hHeld := hX
    clear hX
    refine wpAnyH_done (by kernel_rfl) ?_ _
    have hs9 := hb9.size
    obtain ⟨c0, c2, hB, hbZ, hl0, hK⟩ := HQ.out
    have hB9 : Below w.heap.size w w9 := hB.drew.trans (hb9.mono hB.drew.size)
    have hx9 := row_up (W := Z.drew) hbZ hb9
    have hK9 := row_up (W := Z.drew) hK hb9
    have hP : PutD w n₀ B M (footB B bv bs) (l.take p ++ ms ++ l.drop p) (w9.setCell ⟨B, 0, none⟩ (.slice a9 n9 c9)) (.slice a9 n9 c9) bs9 := by
      refine ⟨box_set hx9 0 _, (hbk9.lower (Nat.le_trans HU.out.2.2.2.2 hB.size)).set hx9 (by decide) (by decide), by rw [hl0, hcat9]; simp, hful9, fun q hq => .inr ?_, fun z hz q hq => .inr ?_, (Keep.of_below hB9 (Nat.le_refl _)).setCell (p := ⟨B, 0, none⟩) (.inl (.inl rfl)) _⟩
      · obtain ⟨h1, _⟩ := own_typed hbk9.row q hq
        exact Nat.le_trans hB.size h1
      · obtain ⟨h1, _⟩ := own_typed (hbk9.own z hz) q hq
        exact Nat.le_trans hB.size h1
    have hK10 : (w9.setCell ⟨B, 0, none⟩ (.slice a9 n9 c9)).heap[D]? = some (.deferred (some [])) := (box_other (by omega) 0 _).trans hK9
    have HP := Lib.hid (And.intro hP hK10)
    clear hP hK10 c0 c2 hB hbZ hl0 hK hB9 hx9 hK9 hHeld hbk9 hcat9 hful9 hb9
    simp only [onlyN]
    gi_wp2
    refine ⟨by simp, .inl ⟨_, _, rfl, run_takeDeferred HP.out.2, ?_⟩⟩
    exact ⟨_, results_none rfl _ _ _, ⟨_, rfl⟩, _, _, HP.out.1.turn (grownBy_putObj' _ D (.deferred none)) (fun r e => by cases e; exact ⟨by omega, _, HP.out.2, rfl⟩)⟩
  case stop =>
    rintro D c pre Z hD hpre ⟨rfl, bv', bs', hP⟩ hK
    have HP := Lib.hid hP
    clear hP
    gi_wp2
    refine ⟨by simp, .inl ⟨_, _, rfl, run_takeDeferred hK, ?_⟩⟩
    exact ⟨_, results_none rfl _ _ _, ⟨_, rfl⟩, bv', bs', HP.out.turn (grownBy_putObj' Z D (.deferred none)) (fun r e => by cases e; exact ⟨by omega, _, hK, rfl⟩)⟩
end Go.Proofs.YtfoglciiefoodaaGreatDoor
