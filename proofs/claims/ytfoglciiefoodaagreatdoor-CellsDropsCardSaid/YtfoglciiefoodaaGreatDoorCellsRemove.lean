/- A document's cells at places are deleted. -/
import Derived.Test.YtfoglciiefoodaaGreatDoorGCellsSpots
import Derived.Test.YtfoglciiefoodaaGreatDoorCellsPut
namespace Go.Proofs.YtfoglciiefoodaaGreatDoor
open Go.RowKit Go.Shelf
attribute [local go_sem] Oper.semAt_some

def vL (x : PB) : Value × Nat := (x.v, x.cs.length)
theorem vL_at {bs bs' : List PB} (h : bs'.map vL = bs.map vL) {k : Nat} {x : PB} (hx : bs[k]? = some x) : ∃ y, bs'[k]? = some y ∧ y.v = x.v ∧ y.cs.length = x.cs.length := by
  have h1 : (bs'.map vL)[k]? = (bs.map vL)[k]? := by rw [h]
  rw [List.getElem?_map, List.getElem?_map, hx] at h1
  cases hy : bs'[k]? with
  | none => rw [hy] at h1; cases h1
  | some y =>
    rw [hy] at h1
    injection h1 with h1
    injection h1 with h1 h2
    exact ⟨y, rfl, h1, h2⟩
theorem vL_len {bs bs' : List PB} (h : bs'.map vL = bs.map vL) : bs'.length = bs.length := by
  have := congrArg List.length h
  simpa using this
theorem catB_sum : ∀ bs : List PB, (catB bs).length = ((bs.map vL).map Prod.snd).sum
  | [] => rfl
  | b :: r => by
    show (b.cs ++ catB r).length = _
    rw [List.length_append, catB_sum r]
    rfl
theorem vL_FK {bs bs' : List PB} (h : bs'.map vL = bs.map vL) (k : Nat) : FK bs' k = FK bs k := by
  unfold FK
  have e : ∀ b : List PB, (b.take k).map vL = (b.map vL).take k := fun b => by simp [List.map_take]
  rw [catB_sum, catB_sum, e, e, h]
theorem vL_set {bs' : List PB} {k : Nat} {y z : PB} (h : bs'[k]? = some y) (e : vL z = vL y) : (bs'.set k z).map vL = bs'.map vL := by
  rw [List.map_set, e]
  refine List.ext_getElem? fun i => ?_
  rw [List.getElem?_set]
  split
  · next q =>
    subst q
    rw [List.getElem?_map, h]
    have := (List.getElem?_eq_some_iff.1 h).1
    simp [this]
  · rfl
theorem goneC_ids (l : List PCell) (f : Nat → Bool) : (goneC l f).map idC = l.map idC := by
  refine List.ext_getElem? fun i => ?_
  rw [List.getElem?_map, List.getElem?_map, goneC_at, Option.map_map]
  rfl
def RemI (w : World) (n₀ B : Nat) (bv nm : Value) (bs : List PB) (l : List PCell) (f : Nat → Bool) (X : World) : Prop :=
  ∃ bs', bs'.map vL = bs.map vL ∧ Blocks X n₀ bv bs' ∧ catB bs' = goneC l f ∧ X.heap[B]? = some (.cells #[bv, nm] 79 (0, 0)) ∧ Keep (footB B bv bs) w.heap.size w X
theorem footB_vL {B : Nat} {bv : Value} {bs bs' : List PB} (h : bs'.map vL = bs.map vL) {i : Nat} (hi : footB B bv bs' i) : footB B bv bs i := by
  rcases hi with e | e | ⟨x, hx, e⟩
  · exact .inl e
  · exact .inr (.inl e)
  · obtain ⟨k, hk, rfl⟩ := List.mem_iff_getElem.1 hx
    obtain ⟨y, hy, h1, _⟩ := vL_at h.symm (List.getElem?_eq_getElem hk)
    exact .inr (.inr ⟨y, List.mem_of_getElem? hy, by rw [h1]; exact e⟩)
theorem RemI.far {w X Y : World} {n₀ B : Nat} {bv nm : Value} {bs : List PB} {l : List PCell} {f : Nat → Bool} {row : Option Nat} (h : RemI w n₀ B bv nm bs l f X) (hlo : ∀ i, footB B bv bs i → i < w.heap.size) (hg : X.grownBy Y row) (hr : ∀ r, row = some r → w.heap.size ≤ r) : RemI w n₀ B bv nm bs l f Y := by
  obtain ⟨bs', h1, h2, h3, h4, h5⟩ := h
  have hK : Keep (fun i => w.heap.size ≤ i) X.heap.size X Y := (Keep.refl _ _ X).grown hg (Nat.le_refl _) (fun r e => .inl (hr r e))
  have hlo' : ∀ i, footB B bv bs' i → ¬ w.heap.size ≤ i := fun i hi => by have := hlo i (footB_vL h1 hi); omega
  refine ⟨bs', h1, ⟨own_keepS h2.row hK fun g e => hlo' g (.inr (.inl e)), fun x hx => own_keepS (h2.own x hx) hK fun g e => hlo' g (.inr (.inr ⟨x, hx, e⟩)), h2.apart⟩, h3, ?_, h5.grown hg h5.size (fun r e => .inr (hr r e))⟩
  exact hK.row h4 (hlo' B (.inl rfl))
theorem RemI.sz {w X : World} {n₀ B : Nat} {bv nm : Value} {bs : List PB} {l : List PCell} {f : Nat → Bool} (h : RemI w n₀ B bv nm bs l f X) {g : Nat} (hg : ∀ ao n c, bv = .slice ao n c → bs ≠ [] → ao = some ⟨g, 0, none⟩) : SzOK X B g bv nm bs := by
  obtain ⟨bs', h1, h2, h3, h4, h5⟩ := h
  refine ⟨h4, fun k x hx => ?_⟩
  obtain ⟨y, hy, e1, e2⟩ := vL_at h1 hx
  obtain ⟨g', cap, cur, rfl, hg0, hgX, ha0, ha1, _⟩ := blocks_parts h2.row hy
  have hne : bs ≠ [] := fun e => by rw [e] at hx; simp at hx
  have := hg _ _ _ rfl hne
  cases this
  exact ⟨cap, _, _, by rw [vL_len h1], by rw [← e2]; exact liveN_gone y.cs, (box_cell hgX _).trans ha0, (box_cell hgX _).trans ha1⟩
theorem SpAt.ints {W W' : World} {sp bv : Value} {xs : List Sp} {n₀ gb k : Nat} {bs : List PB} (h : SpAt W sp xs) (hx : 2 ≤ xs.length) (hI : IntsKept gb (k * 3) W W') (hB : Blocks W n₀ bv bs) (hgb : bv.ownBlock = some gb) (hk : k < bs.length) : SpAt W' sp xs := by
  obtain ⟨ao, cap, rfl, h2⟩ := h
  have hne : xs ≠ [] := fun e => by rw [e] at hx; simp at hx
  obtain ⟨b, off, rfl, hc⟩ := h2 hne
  have hint : ∀ q, off ≤ q → q < off + xs.length * 2 → ∃ z, W.cell? ⟨b, q, none⟩ = some (.int .i64 z) := fun q h1 h2 => by
    rcases Nat.mod_two_eq_zero_or_one (q - off) with e | e
    · have := (hc ((q - off) / 2) (by omega)).1
      rw [show off + (q - off) / 2 * 2 = q by omega] at this
      exact ⟨_, this⟩
    · have := (hc ((q - off) / 2) (by omega)).2
      rw [show off + (q - off) / 2 * 2 + 1 = q by omega] at this
      exact ⟨_, this⟩
  have hsl : ∀ j, j < bs.length → ∀ z, W.cell? ⟨gb, j * 3 + 2, none⟩ ≠ some (.int .i64 z) := fun j hj z e => by
    obtain ⟨g', cp, cur, hv, _, hgX, _, _, ha2, _⟩ := blocks_parts hB.row (List.getElem?_eq_getElem hj)
    rw [hv] at hgb
    cases hgb
    rw [box_cell hgX, show j * 3 + 2 = j * 3 + 1 + 1 by omega, ha2] at e
    obtain ⟨a, n, c, hs⟩ := slice_of (hB.own bs[j] (List.getElem_mem _))
    rw [hs] at e
    cases e
  have hno : ∀ q, off ≤ q → q < off + xs.length * 2 → ¬ (b = gb ∧ (q = k * 3 ∨ q = k * 3 + 1)) := fun q h1 h2 ⟨e1, e2⟩ => by
    subst e1
    by_cases hin : k * 3 + 2 < off + xs.length * 2
    · obtain ⟨z, hz⟩ := hint (k * 3 + 2) (by omega) hin
      exact hsl k hk z hz
    · obtain ⟨z, hz⟩ := hint ((k - 1) * 3 + 2) (by omega) (by omega)
      exact hsl (k - 1) (by omega) z hz
  refine ⟨_, cap, rfl, fun _ => ⟨b, off, rfl, fun i hi => ⟨hI _ _ _ (hc i hi).1 (hno _ (by omega) (by omega)), hI _ _ _ (hc i hi).2 (hno _ (by omega) (by omega))⟩⟩⟩
theorem KZ.trans {B g : Nat} {bv nm sp : Value} {bs : List PB} {xs : List Sp} {m₁ : Nat} {X Y Z : World} (h : KZ B g bv nm sp bs xs m₁ X Y) (k : KZ B g bv nm sp bs xs m₁ Y Z) : KZ B g bv nm sp bs xs m₁ X Z :=
  ⟨fun z => k.z (h.z z), fun a s => k.s a (h.s a s), fun i c t fr hi ht q => k.b i c t fr hi ht (h.b i c t fr hi ht q)⟩
theorem cell_put {W : World} {l : Nat} {o o' : Obj} {p : Addr} {v : Value} (h : W.heap[l]? = some o) (hc : o.isCells = false) (q : W.cell? p = some v) : (W.putObj l o').cell? p = some v := by
  by_cases e : p.block = l
  · subst e
    cases o <;> first | (cases hc; done) | (simp [World.cell?, h] at q)
  · rw [World.cell?_of_block (World.putObj_heap_other e)]
    exact q
theorem KZ.put {B g : Nat} {bv nm sp : Value} {bs : List PB} {xs : List Sp} {m₁ : Nat} {W : World} {l : Nat} {o o' : Obj} (h : W.heap[l]? = some o) (hc : o.isCells = false) : KZ B g bv nm sp bs xs m₁ W (W.putObj l o') := by
  have hb : ∀ (i : Nat) (c : Array Value) (t : TypeId) (fr : Nat × Nat), W.heap[i]? = some (.cells c t fr) → (W.putObj l o').heap[i]? = some (.cells c t fr) := fun i c t fr q => by
    by_cases e : i = l
    · subst e
      rw [q] at h
      cases h
      cases hc
    · rw [World.putObj_heap_other e]
      exact q
  refine ⟨fun z => ⟨hb _ _ _ _ z.box, fun k x hx => by obtain ⟨cp, a, b, hv, e, c0, c1⟩ := z.size k x hx; exact ⟨cp, a, b, hv, e, cell_put h hc c0, cell_put h hc c1⟩⟩, fun _ s => ?_, fun i c t fr _ _ q => hb i c t fr q⟩
  obtain ⟨ao, cap, rfl, h2⟩ := s
  refine ⟨ao, cap, rfl, fun hx => ?_⟩
  obtain ⟨b, off, rfl, hcl⟩ := h2 hx
  exact ⟨b, off, rfl, fun i hi => ⟨cell_put h hc (hcl i hi).1, cell_put h hc (hcl i hi).2⟩⟩
set_option maxRecDepth 100000 in
set_option maxHeartbeats 8000000 in
theorem dremove_any (n₀ B M : Nat) (bv sp : Value) (bs : List PB) (l : List PCell) (xs : List Sp) (w : World) (hD : DocB w n₀ B M bv bs l) (hl : l.length ≤ 100000) (hS : SpAt w sp xs) (hxl : xs.length ≤ 1000000) (hg : sGood xs) (hin : ∀ s ∈ xs, s.1 + s.2 ≤ l.length) :
    Calls Tryz.prog 58 #[.pointer (some ⟨B, 0, none⟩), sp] w fun e w' => (∃ r, e = .returned r) ∧ RemI w n₀ B bv (.map (some M)) bs l (sMark xs) w' := by
  have hlo : ∀ i, footB B bv bs i → i < w.heap.size := fun i hi => by
    rcases hi with rfl | e | ⟨x, hx, e⟩
    · exact box_lt hD.box
    · obtain ⟨_, c, hc⟩ := own_typed hD.blocks.row i e
      exact box_lt hc
    · obtain ⟨_, c, hc⟩ := own_typed (hD.blocks.own x hx) i e
      exact box_lt hc
  obtain ⟨ba, bn, bc, hbv⟩ := slice_of hD.blocks.row
  obtain ⟨g, hgb⟩ : ∃ g, ∀ ao n c, bv = .slice ao n c → bs ≠ [] → ao = some ⟨g, 0, none⟩ := by
    cases hb : bs with
    | nil => exact ⟨0, fun _ _ _ _ h => absurd rfl h⟩
    | cons x r =>
      have hk : bs[0]? = some x := by rw [hb]; rfl
      obtain ⟨g, cap, cur, e, _⟩ := blocks_parts hD.blocks.row hk
      exact ⟨g, fun ao n c h _ => by rw [e] at h; injection h with h; exact h.symm⟩
  obtain ⟨sa, sn, sc, hsv⟩ : ∃ sa sn sc, sp = .slice sa sn sc := by obtain ⟨a, c, h, _⟩ := hS; exact ⟨a, _, c, h⟩
  have hR0 : RemI w n₀ B bv (.map (some M)) bs l (fun _ => false) w := ⟨bs, rfl, hD.blocks, by rw [goneC_no0]; exact hD.cat, hD.box, Keep.refl _ _ _⟩
  have hgs : ∀ s ∈ xs, 0 ≤ s.1 ∧ 0 ≤ s.2 ∧ s.1 + s.2 ≤ (catB bs).length := fun s hs => by
    have := hg.1 s hs
    have := hin s hs
    rw [hD.cat]
    omega
  have hcl : (catB bs).length ≤ 100000 := by rw [hD.cat]; exact hl
  have hspa := fun W => spots_any (some ⟨B, 0, none⟩) sa sn sc W
  have A0 := row_al (heap_new w (.cells #[.pointer (some ⟨B, 0, none⟩)] 26)) (.cells #[.slice sa sn sc] 33)
  have A1 := heap_new1 w (.cells #[.pointer (some ⟨B, 0, none⟩)] 26) (.cells #[.slice sa sn sc] 33)
  have AB : Below w.heap.size w ((w.alloc (.cells #[.pointer (some ⟨B, 0, none⟩)] 26)).alloc (.cells #[.slice sa sn sc] 33)) := ((Below.refl _ w).alloc (Nat.le_refl _) _).alloc (by simp) _
  have AS : ((w.alloc (.cells #[.pointer (some ⟨B, 0, none⟩)] 26)).alloc (.cells #[.slice sa sn sc] 33)).heap.size = w.heap.size + 1 + 1 := by simp
  subst hsv
  have HA := Lib.hid (And.intro A0 (And.intro A1 (And.intro AB AS)))
  have HD := Lib.hid hD
  have HX := Lib.hid (And.intro hgs (And.intro hg.2 (And.intro hcl hxl)))
  have HLO := Lib.hid hlo
  have HGB := Lib.hid hgb
  have HS := Lib.hid hS
  have HG0 := Lib.hid hg
  have HR0 := Lib.hid hR0
  clear hD hgs hcl hxl hlo hgb hS hg hR0 A0 A1 AB AS hin hl hbv
  refine (callsIn_wide (n := 3)).1 ?_
  refine callsIn_of_wp_marks Tryz.func58 rfl trivial ?_ rfl
  simp only [Tryz.ntmps58, List.size_toArray, List.length_cons, List.length_nil, Nat.reduceAdd, Nat.reduceSub, Array.replicate_succ, Array.replicate_zero, List.push_toArray, List.append_toArray, List.nil_append, List.cons_append]
  gi_wp2_with (refine ⟨trivial, ?_⟩; gi_at_call 89; refine (callsIn_wide.2 (hspa _)).mono ?_; rintro e _ ⟨rfl, rfl⟩)
  obtain ⟨A0, A1, AB, AS⟩ := HA.out
  generalize (w.alloc (.cells #[.pointer (some ⟨B, 0, none⟩)] 26)).alloc (.cells #[.slice sa sn sc] 33) = w3 at A0 A1 AB AS ⊢
  clear HA
  have hR3 : RemI w n₀ B bv (.map (some M)) bs l (inP xs []) w3 := by
    have := HR0.out.far HLO.out (row := none) ⟨AB.os, AB.tape, AB.output, AB.size, fun i hi _ => AB.block i hi⟩ (fun r e => by cases e)
    exact this
  have hst := spots_stops 2 (by decide) w.heap.size (w.heap.size + 1) w.heap.size B g bv (.map (some M)) (.slice sa sn sc) bs xs HX.out.1 HX.out.2.1 HX.out.2.2.1 HX.out.2.2.2 HD.out.few w3 (hR3.sz HGB.out) (HS.out.below AB) A0 A1 (Nat.le_refl _) (by omega)
  refine wpIn_rangeFunc_ownL RowZ rfl (by decide) (gf := 102) (lb := #[.pointer (some ⟨w.heap.size + 1, 0, none⟩), .pointer (some ⟨w.heap.size, 0, none⟩)]) rfl trivial (enters_of Tryz.func102 (by kernel_rfl) rfl)
    hst (fun h k => KZ.trans h k) (fun X l o o' h1 h2 h3 h4 h5 => KZ.put h3 h4) (fun _ => rfl)
    (fun pre X => RemI w n₀ B bv (.map (some M)) bs l (inP xs pre) X)
    (fun c pre X => False)
    (fun s A C row hs hg hr => hs.far HLO.out hg (fun r e => by have := (hr r e).1; omega))
    (fun c s A C row hs hg hr => hs)
    (fun s A C row hs hg hr => hs.far HLO.out hg (fun r e => by have := (hr r e).1; omega))
    (fun c s A C row hs hg hr => hs)
    hR3
    (fun x => { tmps := #[.pointer (some ⟨B, 0, none⟩), .slice sa sn sc, undef, undef, .pointer (some ⟨g, (locB bs (plc xs)[x]).1 * 3, none⟩), .int .i64 ((locB bs (plc xs)[x]).2 : Nat), .pointer (some ⟨B, 0, none⟩), .slice sa sn sc, .func (.func 102) #[] #[.pointer (some ⟨w.heap.size + 1, 0, none⟩), .pointer (some ⟨w.heap.size, 0, none⟩)], .pointer (some ⟨g, (locB bs (plc xs)[x]).1 * 3, none⟩), .int .i64 ((locB bs (plc xs)[x]).2 : Nat), undef, undef, undef], defers := [] }) ?assign ?body ?done ?stop
  case assign =>
    intro l x W K hK
    unfold encS
    gi_wp2
    exact hK
  case body =>
    rintro lp pre x X hR hlen hlk
    obtain ⟨bs', e1, hB, hcat, hbox, hK⟩ := id hR
    have hpm := (plc_mem (fun s hs => (HX.out.1 s hs).1) (plc xs)[x]).1 (List.getElem_mem _)
    obtain ⟨s, hs, hs1, hs2⟩ := (sMark_iff _ _).1 hpm
    have hs3 := (HX.out.1 s hs).2.2
    obtain ⟨p, hp⟩ : ∃ p, (plc xs)[x] = p := ⟨_, rfl⟩
    have HP := Lib.hid hp
    rw [hp] at hs1 hs2
    try dsimp only
    rw [hp]
    clear hp hpm
    obtain ⟨k, y0, hy0, hk1, hk2⟩ := locB_ex bs p (by omega)
    rw [locB_at hy0 hk1 hk2]
    obtain ⟨y, hy, ev, el⟩ := vL_at e1 hy0
    obtain ⟨g', cap, cur, hbv, hg0, hgX, ha0, ha1, ha2, hback⟩ := blocks_parts hB.row hy
    have hgg : g' = g := by
      have hne : bs ≠ [] := fun e => by rw [e] at hy0; simp at hy0
      have := HGB.out _ _ _ hbv hne
      cases this
      rfl
    subst hgg
    have hFK := vL_FK e1 k
    have hFK' : (catB (bs.take k)).length = FK bs k := rfl
    rw [hFK'] at hk1 hk2 ⊢
    obtain ⟨at', hat⟩ : ∃ z, p - FK bs k = z := ⟨_, rfl⟩
    rw [hat]
    have hatl : at' < y.cs.length := by omega
    obtain ⟨c, hc⟩ : ∃ c, y.cs[at']? = some c := ⟨_, List.getElem?_eq_getElem hatl⟩
    have hkl : k < bs'.length := (List.getElem?_eq_some_iff.1 hy).1
    have hyl : y.cs.length ≤ 1000000 := by
      have := catB_le hy0
      have := HX.out.2.2.1
      omega
    have hrem := bremove_any n₀ at' g' (k * 3) cur y.v y.cs c X hgX ha0 ha1 ha2 (hB.own y (List.mem_of_getElem? hy)) hc hyl
    have HR := Lib.hid (And.intro e1 (And.intro hB (And.intro hcat (And.intro hbox hK))))
    have HY := Lib.hid (And.intro hy (And.intro hgX (And.intro ha2 (And.intro hback (And.intro hbv hkl)))))
    have HF := Lib.hid (And.intro hFK (And.intro hat (And.intro hk1 hatl)))
    have HRM := Lib.hid hrem
    clear e1 hB hcat hbox hK hy hgX ha0 ha1 ha2 hback hbv hkl hFK hat hk1 hk2 hatl hFK' hrem hR hs hs1 hs2 hs3 hy0 ev el hc hyl hlen hlk
    gi_wp2_with (refine ⟨trivial, ?_⟩; gi_at_call 90; refine (callsIn_wide.2 HRM.out).mono ?_; rintro e X' ⟨⟨_, rfl⟩, q1, q2, q3, q4⟩)
    obtain ⟨e1, hB, hcat, hbox, hK⟩ := HR.out
    obtain ⟨hy, hgX, ha2, hback, hbv, hkl⟩ := HY.out
    obtain ⟨hFK, hat, hk1, hatl⟩ := HF.out
    have hgo : bv.ownBlock = some g' := by rw [hbv]; rfl
    have hvt : ∀ j, y.v.ownBlock = some j → ∃ cc, X.heap[j]? = some (.cells cc 62 (0, 0)) := fun j e => (own_typed (hB.own y (List.mem_of_getElem? hy)) j e).2
    have hnew : RemI w n₀ B bv (.map (some M)) bs l (inP xs (pre ++ [x])) X' := by
      refine ⟨bs'.set k ⟨setG y.cs at', y.v⟩, (vL_set hy (by unfold vL; rw [setG_length])).trans e1, hB.one hy (hback X' ⟨setG y.cs at', y.v⟩ (by rw [set_self ha2]; exact q1)) q2 (q3.weak (Nat.le_refl _) (fun j _ h => h.elim (fun e => .inl (by rw [e]; exact hgo)) .inr)) (fun j e => .inl e), ?_, ?_, hK.trans (q3.weak hK.size (fun j _ h => ?_))⟩
      · rw [catB_setG y.v hy hatl, hcat]
        have : (catB (bs'.take k)).length = FK bs k := hFK
        rw [this, show FK bs k + at' = p by omega, setG_goneC]
        exact goneC_congr fun i => by rw [inP_snoc, HP.out]
      · refine q3.row hbox fun h => ?_
        rcases h with e | e
        · rw [e, hgX] at hbox
          cases hbox
        · obtain ⟨cc, hcc⟩ := hvt B e
          rw [hcc] at hbox
          cases hbox
      · rcases h with e | e
        · exact .inr (.inl (by rw [e]; exact hgo))
        · exact footB_vL e1 (.inr (.inr ⟨y, List.mem_of_getElem? hy, e⟩))
    refine ⟨q3.others (fun j h o ho => ?_), ⟨fun _ => hnew.sz HGB.out, fun h2 hs => hs.ints h2 q4 hB hgo hkl, fun i cc t fr hi ht q => q3.row q fun h => ?_⟩, hnew⟩
    · rcases h with e | e
      · rw [e, hgX] at ho; cases ho; rfl
      · obtain ⟨cc, hcc⟩ := hvt j e
        rw [hcc] at ho; cases ho; rfl
    · apply ht
      unfold RowZ
      rcases h with e | e
      · rw [e, hgX] at q; cases q; exact .inr rfl
      · obtain ⟨c2, hcc⟩ := hvt i e
        rw [hcc] at q; cases q; exact .inl rfl
  case done =>
    rintro D ys Z hD rfl hR hK
    have e : inP xs (List.finRange (plc xs).length) = sMark xs := funext (inP_all fun s hs => (HX.out.1 s hs).1)
    rw [e] at hR
    have HZ := Lib.hid hR
    clear hR e
    gi_wp2
    refine ⟨by simp, .inl ⟨_, _, rfl, run_takeDeferred hK, ?_⟩⟩
    exact ⟨_, results_none rfl _ _ _, ⟨_, rfl⟩, HZ.out.far HLO.out (grownBy_putObj' Z D (.deferred none)) (fun r e => by cases e; omega)⟩
  case stop =>
    rintro D c pre Z hD hpre h
    exact h.elim
end Go.Proofs.YtfoglciiefoodaaGreatDoor
