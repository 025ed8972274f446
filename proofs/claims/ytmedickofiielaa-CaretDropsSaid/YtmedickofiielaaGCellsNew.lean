/- Texts of this proof, joined. -/
import Derived.Test.YtmedickofiielaaGCellsKnow
import Derived.Test.YtmedickofiielaaGCellsText
import Derived.Test.YtmedickofiielaaGRefSplit
import Derived.Test.YtmedickofiielaaGCellsBlk
namespace Go.Proofs.Ytmedickofiielaa
open Go.RowKit Go.Shelf
attribute [local go_sem] Oper.semAt_some

theorem knowN_yes : ∀ (l : List PCell) (I : List Id3), (∀ k d, l[k]? = some d → ¬ idC d ∈ I ∧ ¬ idC d ∈ (l.take k).map idC) → knowN I l = (I ++ l.map idC, true)
 | [], I, _ => by simp [knowN]
 | c :: r, I, h => by
  rw [knowN_new (h 0 c rfl).1, knowN_yes r (I ++ [idC c]) (fun k d hd => by
   obtain ⟨h1, h2⟩ := h (k + 1) d hd
   rw [List.take_succ_cons, List.map_cons, List.mem_cons] at h2
   refine ⟨fun g => ?_, fun g => h2 (.inr g)⟩
   rcases List.mem_append.1 g with g | g
   ·exact h1 g
   ·exact h2 (.inl (List.mem_singleton.1 g)))]
  simp
theorem sameId_iff (c d : PCell) : sameId c d = true ↔ idC c = idC d := by
 unfold sameId idC
 rw [decide_eq_true_iff]
 exact ⟨fun ⟨a, b, e⟩ => by rw [a, b, e], fun h => by injection h with a h; injection h with b e; exact ⟨a, b, e⟩⟩
theorem know_all {l : List PCell} (h : dupC l l.length = false) : knowN [] l = (l.map idC, true) := by
 have := knowN_yes l [] (fun k d hd => ⟨by simp, fun g => by
  obtain ⟨c, hc, e⟩ := List.mem_map.1 g
  unfold dupC at h
  rw [List.any_eq_false] at h
  have h1 := h k (List.mem_range.2 (List.getElem?_eq_some_iff.1 hd).1)
  rw [hd] at h1
  apply h1
  show dupTo l d k = true
  unfold dupTo
  rw [List.any_eq_true]
  exact ⟨c, hc, (sameId_iff _ _).2 e⟩⟩)
 simpa using this
theorem Blocks.set {W : World} {n₀ : Nat} {v : Value} {bs : List PB} {B o : Nat} {c : Array Value} {t : TypeId} {fr : Nat × Nat} {u : Value} (h : Blocks W n₀ v bs) (hB : W.heap[B]? = some (.cells c t fr)) (h1 : t ≠ 97) (h2 : t ≠ 41) : Blocks (W.setCell ⟨B, o, none⟩ u) n₀ v bs :=
 ⟨own_far h.row hB h1 o u, fun x hx => own_far (h.own x hx) hB h2 o u, h.apart⟩
theorem Blocks.lower {W : World} {n₀ n₁ : Nat} {v : Value} {bs : List PB} (h : Blocks W n₀ v bs) (hn : n₁ ≤ n₀) : Blocks W n₁ v bs := ⟨own_lower h.row hn, fun x hx => own_lower (h.own x hx) hn, h.apart⟩
structure DocB (W : World) (n₀ B M : Nat) (bv : Value) (bs : List PB) (l : List PCell) : Prop where
 lowB : n₀ ≤ B
 lowM : n₀ ≤ M
 box : W.heap[B]? = some (.cells #[bv, .map (some M)] 60 (0, 0))
 blocks : Blocks W n₀ bv bs
 names : NMap W M (l.map idC)
 cat : catB bs = l
 few : bs.length ≤ 1000000
 full : ∀ x ∈ bs, x.cs ≠ []
theorem cok_names {l : List PCell} (h : l.all cellOk = true) (hw : CWf l) : ∀ c ∈ l, nWf (c.site, c.seq) ∧ 0 ≤ c.off ∧ c.off < 200 := fun c hc => by
 have h1 := List.all_eq_true.1 h c hc
 unfold cellOk at h1
 simp only [Bool.and_eq_true] at h1
 have h2 := of_decide_eq_true h1.1.2
 have h3 := hw c hc
 exact ⟨⟨h3.1, h3.2.1⟩, h2.1, by omega⟩
theorem new_results (W : World) (tm : Array Value) (a b : Value) (h2 : tm.getD 2 undef = a) (h3 : tm.getD 3 undef = b) :
  (results Try.f11 tm).run Try.prog W = .ok (.tuple #[a, b]) W := by
 have h4' : tm[2]?.getD undef = a := by simpa using h2
 have h5' : tm[3]?.getD undef = b := by simpa using h3
 simp [results, Try.f11, go_sem, h4', h5']
set_option maxRecDepth 100000 in
set_option maxHeartbeats 8000000 in
theorem new_yes (v : Value) (l : List PCell) (w : World) (h : CAt w v l) (hw : CWf l) (hl : l.length ≤ 20000) (hm : cMay l = 0) :
  Calls Try.prog 11 #[v] w fun e w' => ∃ B M bv bs, e = .returned (.tuple #[.pointer (some ⟨B, 0, none⟩), .int .i64 0]) ∧ DocB w' w.heap.size B M bv bs l ∧ Below w.heap.size w w' := by
 have hmay := cmay_any v l w h (by omega)
 have hok : l.all cellOk = true := by
  cases hd : l.all cellOk with
  | true => rfl
  | false => unfold cMay at hm; rw [hd, if_neg (by decide)] at hm; omega
 have hdup : dupC l l.length = false := by
  cases hd : dupC l l.length with
  | false => rfl
  | true => unfold cMay at hm; rw [if_pos hok, hd, if_pos rfl] at hm; omega
 rw [hok] at hmay
 have hkn := fun B w1 hb hB0 hB => know0_any B (.slice none 0 0) v l w w1 hb hB0 hB h (cok_names hok hw) (by omega)
 rw [know_all hdup] at hkn
 have hla := fun W (hb : Below w.heap.size w W) => laid_any v l W (h.below hb) (by omega)
 have HM := Lib.hid hmay
 have HK := Lib.hid hkn
 have HL := Lib.hid hla
 obtain ⟨ao, cap, rfl, -⟩ := h.shape
 obtain ⟨N, hN⟩ : ∃ N, l.length = N := ⟨_, rfl⟩
 have hnn : ¬ (20000 : Int) < (N : Int) := by omega
 rw [hN] at HM HK HL ⊢
 clear hmay hkn hla hm hdup hok h hl hN
 go_enter Try.func11, Try.ntmps11
 go_wp2_with (first | (go_at_call 21; refine HM.out.mono ?_; rintro e w1 ⟨rfl, hb1⟩) | fail)
 have hbb : Below w.heap.size w (w1.alloc (.cells #[.slice none 0 0, .map none] 60)) := hb1.alloc hb1.size _
 refine (HK.out w1.heap.size _ hbb hb1.size (heap_new w1 _)).mono ?_
 rintro e w2 ⟨M, rfl, hM, hn2, hk, hx2⟩
 have hM2 : w.heap.size ≤ M := Nat.le_trans hbb.size hM
 have hB2 : Below w.heap.size w w2 := hk.below (Nat.le_refl _) (fun k hk => by rw [hk]; exact hM2)
 have hMB : M ≠ w1.heap.size := by simp at hM; omega
 have H2 := Lib.hid (And.intro hn2 (And.intro hx2 (And.intro hB2 (And.intro hM2 (And.intro hMB hb1.size)))))
 clear hk hbb hn2 hx2 hB2 hM2 hMB hM hb1
 go_wp2_with fail
 refine (HL.out w2 H2.out.2.2.1).mono ?_
 rintro e w3 ⟨bv, bs, rfl, hbk, hcat, hfew, ⟨hfull, -⟩, hb3⟩
 have hx3 := row_up H2.out.2.1 hb3
 have z0 := box_cell hx3 0
 have f0 := box_frozen hx3 0
 obtain ⟨ao', n', cap', rfl⟩ := slice_of hbk.row
 have H3 := Lib.hid (And.intro hbk (And.intro hcat (And.intro hfew (And.intro hb3 (And.intro hx3 hfull)))))
 clear hbk hcat hfew hb3 hx3 hfull
 go_wp2
 obtain ⟨hn2, hx2, hB2, hM2, hMB, hs1⟩ := H2.out
 obtain ⟨hbk, hcat, hfew, hb3, hx3, hfull⟩ := H3.out
 refine bodyPost_ret (new_results _ _ _ _ rfl rfl) rfl ?_
 refine ⟨w1.heap.size, M, _, bs, rfl, ⟨hs1, hM2, box_set hx3 0 _, (hbk.lower hB2.size).set hx3 (by decide) (by decide), (hn2.below hb3).set hMB, hcat, hfew, hfull⟩, (hB2.trans (hb3.mono hB2.size)).setCell (p := ⟨w1.heap.size, 0, none⟩) hs1 _⟩
end Go.Proofs.Ytmedickofiielaa

namespace Go.Proofs.Ytmedickofiielaa
open Go.RowKit

theorem nodup_ids {l : List PCell} (h : dupC l l.length = false) : (l.map idC).Nodup := by
 refine List.pairwise_iff_getElem.2 fun i j hi hj hij e => ?_
 rw [List.length_map] at hi hj
 rw [List.getElem_map, List.getElem_map] at e
 unfold dupC at h
 rw [List.any_eq_false] at h
 have h1 := h j (List.mem_range.2 hj)
 rw [List.getElem?_eq_getElem hj] at h1
 apply h1
 show dupTo l l[j] j = true
 unfold dupTo
 rw [List.any_eq_true]
 exact ⟨l[i], List.mem_iff_getElem.2 ⟨i, by rw [List.length_take]; omega, by rw [List.getElem_take]⟩, (sameId_iff _ _).2 e⟩
end Go.Proofs.Ytmedickofiielaa

namespace Go.Proofs.Ytmedickofiielaa
open Go.RowKit Go.Shelf
attribute [local go_sem] Oper.semAt_some

theorem Blocks.cells {W : World} {n₀ : Nat} {v : Value} {bs : List PB} (h : Blocks W n₀ v bs) : ∀ x ∈ bs, CAt W x.v x.cs := fun x hx => CAt.of_own (h.own x hx) rfl
theorem DocB.docR {W : World} {n₀ B M : Nat} {bv : Value} {bs : List PB} {l : List PCell} (h : DocB W n₀ B M bv bs l) (hl : l.length ≤ 100000) : DocR W B bv (.map (some M)) bs :=
 ⟨h.box, RowR.of_own h.blocks.row, h.blocks.cells, by rw [h.cat]; exact hl, h.few⟩
end Go.Proofs.Ytmedickofiielaa

namespace Go.Proofs.Ytmedickofiielaa
open Go.RowKit Go.Shelf

theorem kCells_set : ∀ (bs : List PB) (k : Nat) (x y : PB), bs[k]? = some x → (((kCells bs).set (k * 3 + 1 + 1) y.v).set (k * 3) (.int .i64 (liveN y.cs : Nat))).set (k * 3 + 1) (.int .i64 (goneN y.cs : Nat)) = kCells (bs.set k y)
 | [], k, _, _, h => by simp at h
 | b :: r, 0, x, y, _ => by
  show ((((kV b ++ kCells r).set (0 * 3 + 1 + 1) y.v).set (0 * 3) _).set (0 * 3 + 1) _) = kV y ++ kCells r
  unfold kV
  simp
 | b :: r, k + 1, x, y, h => by
  have ih := kCells_set r k x y (by simpa using h)
  show ((((kV b ++ kCells r).set ((k + 1) * 3 + 1 + 1) y.v).set ((k + 1) * 3) _).set ((k + 1) * 3 + 1) _) = kV b ++ kCells (r.set k y)
  have hl : (kV b).length = 3 := rfl
  rw [List.set_append_right _ _ (by omega), List.set_append_right _ _ (by omega), List.set_append_right _ _ (by omega), hl, show (k + 1) * 3 + 1 + 1 - 3 = k * 3 + 1 + 1 by omega, show (k + 1) * 3 - 3 = k * 3 by omega, show (k + 1) * 3 + 1 - 3 = k * 3 + 1 by omega, ih]
theorem blocks_parts {W : World} {n₀ : Nat} {v : Value} {bs : List PB} (h : W.ownsRow n₀ 97 3 v bs.length (kCells bs)) {k : Nat} {x : PB} (hk : bs[k]? = some x) : ∃ g cap cur, v = .slice (some ⟨g, 0, none⟩) bs.length cap ∧ n₀ ≤ g ∧ W.heap[g]? = some (.cells cur 97 (0, 0)) ∧
  cur[k * 3]? = some (.int .i64 (liveN x.cs : Nat)) ∧ cur[k * 3 + 1]? = some (.int .i64 (goneN x.cs : Nat)) ∧ cur[k * 3 + 1 + 1]? = some x.v ∧
  ∀ (W' : World) (y : PB), W'.heap[g]? = some (.cells (((cur.setIfInBounds (k * 3 + 1 + 1) y.v).setIfInBounds (k * 3) (.int .i64 (liveN y.cs : Nat))).setIfInBounds (k * 3 + 1) (.int .i64 (goneN y.cs : Nat))) 97 (0, 0)) → W'.ownsRow n₀ 97 3 v (bs.set k y).length (kCells (bs.set k y)) := by
 have hl := (List.getElem?_eq_some_iff.1 hk).1
 rcases h.2 with ⟨_, h0⟩ | ⟨g, cap, cur, rfl, hg0, hg, hnc, hcm, hcur, hX⟩
 ·omega
 have hat : ∀ j, j < 3 → cur[k * 3 + j]? = (kV x)[j]? := fun j hj => by
  have h1 := kCells_at bs k j x hk hj
  rw [← hX, List.getElem?_take_of_lt (by omega)] at h1
  rw [← h1]
  simp
 refine ⟨g, cap, cur, rfl, hg0, hg, hat 0 (by decide), hat 1 (by decide), hat 2 (by decide), fun W' y hW => ⟨kCells_length _, .inr ⟨g, cap, _, by rw [List.length_set], hg0, hW, by rw [List.length_set]; exact hnc, hcm, by simp [hcur], ?_⟩⟩⟩
 rw [List.length_set, ← kCells_set bs k x y hk, ← hX]
 simp only [Array.toList_setIfInBounds, List.take_set]
end Go.Proofs.Ytmedickofiielaa

namespace Go.Proofs.Ytmedickofiielaa
open Go.RowKit Go.Shelf

def Off (x y : PB) : Prop := ∀ g, x.v.ownBlock = some g → y.v.ownBlock = some g → False
theorem Off.symm {x y : PB} (h : Off x y) : Off y x := fun g a b => h g b a
theorem Blocks.off {W : World} {n₀ : Nat} {v : Value} {bs : List PB} (h : Blocks W n₀ v bs) {i j : Nat} (hi : i < bs.length) (hj : j < bs.length) (hne : i ≠ j) : Off bs[i] bs[j] := by
 rcases Nat.lt_or_gt_of_ne hne with g | g
 ·exact List.pairwise_iff_getElem.1 h.apart i j hi hj g
 ·exact Off.symm (List.pairwise_iff_getElem.1 h.apart j i hj hi g)
theorem Blocks.one {w W : World} {n₀ k : Nat} {v : Value} {bs : List PB} {x y : PB} (h : Blocks w n₀ v bs) (hk : bs[k]? = some x) (hrow : W.ownsRow n₀ 97 3 v (bs.set k y).length (kCells (bs.set k y))) (hy : W.ownsRow n₀ 41 5 y.v y.cs.length (cCells y.cs))
  (hK : Keep (fun j => v.ownBlock = some j ∨ x.v.ownBlock = some j) w.heap.size w W) (hf : ∀ g, y.v.ownBlock = some g → x.v.ownBlock = some g ∨ w.heap.size ≤ g) : Blocks W n₀ v (bs.set k y) := by
 obtain ⟨hkl, hke⟩ := List.getElem?_eq_some_iff.1 hk
 have hfar : ∀ (j : Nat) (hj : j < bs.length), j ≠ k → ∀ g, bs[j].v.ownBlock = some g → g < w.heap.size ∧ ¬ x.v.ownBlock = some g := fun j hj hne g hg => by
  obtain ⟨_, c, hc⟩ := own_typed (h.own bs[j] (List.getElem_mem _)) g hg
  refine ⟨box_lt hc, fun e => ?_⟩
  rw [← hke] at e
  exact h.off hj hkl hne g hg e
 refine ⟨hrow, fun z hz => ?_, ?_⟩
 ·obtain ⟨j, hj, rfl⟩ := List.mem_iff_getElem.1 hz
  rw [List.length_set] at hj
  rw [List.getElem_set]
  split
  ·exact hy
  ·next hne =>
   refine own_keepS (h.own bs[j] (List.getElem_mem _)) hK fun g hg e => ?_
   rcases e with e | e
   ·obtain ⟨_, c, hc⟩ := own_typed h.row g e
    obtain ⟨_, c', hc'⟩ := own_typed (h.own bs[j] (List.getElem_mem _)) g hg
    rw [hc] at hc'
    cases hc'
   ·exact (hfar j hj (fun q => hne q.symm) g hg).2 e
 ·rw [List.pairwise_iff_getElem]
  intro i j hi hj hij
  rw [List.length_set] at hi hj
  rw [List.getElem_set, List.getElem_set]
  have hyo : ∀ (j : Nat) (hj : j < bs.length), j ≠ k → Off y bs[j] := fun j hj hne g a b => by
   have q := hfar j hj hne g b
   rcases hf g a with e | e
   ·exact q.2 e
   ·exact absurd q.1 (by omega)
  split
  ·next e => rw [if_neg (by omega)]; exact hyo j hj (by omega)
  ·split
   ·next e => exact (hyo i hi (by omega)).symm
   ·exact h.off hi hj (by omega)
end Go.Proofs.Ytmedickofiielaa

namespace Go.Proofs.Ytmedickofiielaa
open Go.RowKit Go.Shelf
attribute [local go_sem] Oper.semAt_some

structure DocN (W : World) (n₀ B M : Nat) (bv : Value) (bs : List PB) (l : List PCell) : Prop where
 box : W.heap[B]? = some (.cells #[bv, .map (some M)] 60 (0, 0))
 blocks : Blocks W n₀ bv bs
 cat : catB bs = l
 few : bs.length ≤ 1000000
 full : ∀ x ∈ bs, x.cs ≠ []
theorem DocN.docR {W : World} {n₀ B M : Nat} {bv : Value} {bs : List PB} {l : List PCell} (h : DocN W n₀ B M bv bs l) (hl : l.length ≤ 100000) : DocR W B bv (.map (some M)) bs :=
 ⟨h.box, RowR.of_own h.blocks.row, h.blocks.cells, by rw [h.cat]; exact hl, h.few⟩
def footB (B : Nat) (bv : Value) (bs : List PB) (k : Nat) : Prop := k = B ∨ bv.ownBlock = some k ∨ ∃ x ∈ bs, x.v.ownBlock = some k
structure PutD (w : World) (n₀ B M : Nat) (F : Nat → Prop) (l : List PCell) (X : World) (bv : Value) (bs : List PB) : Prop where
 box : X.heap[B]? = some (.cells #[bv, .map (some M)] 60 (0, 0))
 blocks : Blocks X n₀ bv bs
 cat : catB bs = l
 full : ∀ x ∈ bs, x.cs ≠ []
 newv : ∀ g, bv.ownBlock = some g → F g ∨ w.heap.size ≤ g
 newx : ∀ x ∈ bs, ∀ g, x.v.ownBlock = some g → F g ∨ w.heap.size ≤ g
 keep : Keep F w.heap.size w X
theorem PutD.turn {w X Y : World} {n₀ B M : Nat} {F : Nat → Prop} {l : List PCell} {bv : Value} {bs : List PB} {row : Option Nat} (h : PutD w n₀ B M F l X bv bs) (hg : X.grownBy Y row) (hr : ∀ r, row = some r → w.heap.size ≤ r ∧ ∃ o : Obj, X.heap[r]? = some o ∧ o.isCells = false) : PutD w n₀ B M F l Y bv bs :=
 ⟨row_turn h.box hg (fun r e => (hr r e).2), h.blocks.turn hg (fun r e => (hr r e).2), h.cat, h.full, h.newv, h.newx, h.keep.grown hg h.keep.size (fun r e => .inr (hr r e).1)⟩
end Go.Proofs.Ytmedickofiielaa

namespace Go.Proofs.Ytmedickofiielaa
open Go.RowKit Go.Shelf
attribute [local go_sem] Oper.semAt_some

def vL (x : PB) : Value × Nat := (x.v, x.cs.length)
theorem vL_at {bs bs' : List PB} (h : bs'.map vL = bs.map vL) {k : Nat} {x : PB} (hx : bs[k]? = some x) : ∃ y, bs'[k]? = some y ∧ y.v = x.v ∧ y.cs.length = x.cs.length := by
 have h1 : (bs'.map vL)[k]? = (bs.map vL)[k]? := by rw [h]
 rw [List.getElem?_map, List.getElem?_map, hx] at h1
 cases hy : bs'[k]? with
 | none => rw [hy] at h1; cases h1
 | some y =>
  rw [hy] at h1
  injection h1 with h1
  injection h1 with h1 h2
  exact ⟨y, rfl, h1, h2⟩
theorem vL_len {bs bs' : List PB} (h : bs'.map vL = bs.map vL) : bs'.length = bs.length := by
 have := congrArg List.length h
 simpa using this
def RemI (w : World) (n₀ B : Nat) (bv nm : Value) (bs : List PB) (l : List PCell) (f : Nat → Bool) (X : World) : Prop :=
 ∃ bs', bs'.map vL = bs.map vL ∧ Blocks X n₀ bv bs' ∧ catB bs' = goneC l f ∧ X.heap[B]? = some (.cells #[bv, nm] 60 (0, 0)) ∧ Keep (footB B bv bs) w.heap.size w X
theorem footB_vL {B : Nat} {bv : Value} {bs bs' : List PB} (h : bs'.map vL = bs.map vL) {i : Nat} (hi : footB B bv bs' i) : footB B bv bs i := by
 rcases hi with e | e | ⟨x, hx, e⟩
 ·exact .inl e
 ·exact .inr (.inl e)
 ·obtain ⟨k, hk, rfl⟩ := List.mem_iff_getElem.1 hx
  obtain ⟨y, hy, h1, _⟩ := vL_at h.symm (List.getElem?_eq_getElem hk)
  exact .inr (.inr ⟨y, List.mem_of_getElem? hy, by rw [h1]; exact e⟩)
theorem RemI.far {w X Y : World} {n₀ B : Nat} {bv nm : Value} {bs : List PB} {l : List PCell} {f : Nat → Bool} {row : Option Nat} (h : RemI w n₀ B bv nm bs l f X) (hlo : ∀ i, footB B bv bs i → i < w.heap.size) (hg : X.grownBy Y row) (hr : ∀ r, row = some r → w.heap.size ≤ r) : RemI w n₀ B bv nm bs l f Y := by
 obtain ⟨bs', h1, h2, h3, h4, h5⟩ := h
 have hK : Keep (fun i => w.heap.size ≤ i) X.heap.size X Y := (Keep.refl _ _ X).grown hg (Nat.le_refl _) (fun r e => .inl (hr r e))
 have hlo' : ∀ i, footB B bv bs' i → ¬ w.heap.size ≤ i := fun i hi => by have := hlo i (footB_vL h1 hi); omega
 refine ⟨bs', h1, ⟨own_keepS h2.row hK fun g e => hlo' g (.inr (.inl e)), fun x hx => own_keepS (h2.own x hx) hK fun g e => hlo' g (.inr (.inr ⟨x, hx, e⟩)), h2.apart⟩, h3, ?_, h5.grown hg h5.size (fun r e => .inr (hr r e))⟩
 exact hK.row h4 (hlo' B (.inl rfl))
theorem RemI.sz {w X : World} {n₀ B : Nat} {bv nm : Value} {bs : List PB} {l : List PCell} {f : Nat → Bool} (h : RemI w n₀ B bv nm bs l f X) {g : Nat} (hg : ∀ ao n c, bv = .slice ao n c → bs ≠ [] → ao = some ⟨g, 0, none⟩) : SzOK X B g bv nm bs := by
 obtain ⟨bs', h1, h2, h3, h4, h5⟩ := h
 refine ⟨h4, fun k x hx => ?_⟩
 obtain ⟨y, hy, e1, e2⟩ := vL_at h1 hx
 obtain ⟨g', cap, cur, rfl, hg0, hgX, ha0, ha1, _⟩ := blocks_parts h2.row hy
 have hne : bs ≠ [] := fun e => by rw [e] at hx; simp at hx
 have := hg _ _ _ rfl hne
 cases this
 exact ⟨cap, _, _, by rw [vL_len h1], by rw [← e2]; exact liveN_gone y.cs, (box_cell hgX _).trans ha0, (box_cell hgX _).trans ha1⟩
theorem SpAt.ints {W W' : World} {sp bv : Value} {xs : List Sp} {n₀ gb k : Nat} {bs : List PB} (h : SpAt W sp xs) (hx : 2 ≤ xs.length) (hI : IntsKept gb (k * 3) W W') (hB : Blocks W n₀ bv bs) (hgb : bv.ownBlock = some gb) (hk : k < bs.length) : SpAt W' sp xs := by
 obtain ⟨ao, cap, rfl, h2⟩ := h
 have hne : xs ≠ [] := fun e => by rw [e] at hx; simp at hx
 obtain ⟨b, off, rfl, hc⟩ := h2 hne
 have hint : ∀ q, off ≤ q → q < off + xs.length * 2 → ∃ z, W.cell? ⟨b, q, none⟩ = some (.int .i64 z) := fun q h1 h2 => by
  rcases Nat.mod_two_eq_zero_or_one (q - off) with e | e
  ·have := (hc ((q - off) / 2) (by omega)).1
   rw [show off + (q - off) / 2 * 2 = q by omega] at this
   exact ⟨_, this⟩
  ·have := (hc ((q - off) / 2) (by omega)).2
   rw [show off + (q - off) / 2 * 2 + 1 = q by omega] at this
   exact ⟨_, this⟩
 have hsl : ∀ j, j < bs.length → ∀ z, W.cell? ⟨gb, j * 3 + 2, none⟩ ≠ some (.int .i64 z) := fun j hj z e => by
  obtain ⟨g', cp, cur, hv, _, hgX, _, _, ha2, _⟩ := blocks_parts hB.row (List.getElem?_eq_getElem hj)
  rw [hv] at hgb
  cases hgb
  rw [box_cell hgX, show j * 3 + 2 = j * 3 + 1 + 1 by omega, ha2] at e
  obtain ⟨a, n, c, hs⟩ := slice_of (hB.own bs[j] (List.getElem_mem _))
  rw [hs] at e
  cases e
 have hno : ∀ q, off ≤ q → q < off + xs.length * 2 → ¬ (b = gb ∧ (q = k * 3 ∨ q = k * 3 + 1)) := fun q h1 h2 ⟨e1, e2⟩ => by
  subst e1
  by_cases hin : k * 3 + 2 < off + xs.length * 2
  ·obtain ⟨z, hz⟩ := hint (k * 3 + 2) (by omega) hin
   exact hsl k hk z hz
  ·obtain ⟨z, hz⟩ := hint ((k - 1) * 3 + 2) (by omega) (by omega)
   exact hsl (k - 1) (by omega) z hz
 refine ⟨_, cap, rfl, fun _ => ⟨b, off, rfl, fun i hi => ⟨hI _ _ _ (hc i hi).1 (hno _ (by omega) (by omega)), hI _ _ _ (hc i hi).2 (hno _ (by omega) (by omega))⟩⟩⟩
theorem KZ.trans {B g : Nat} {bv nm sp : Value} {bs : List PB} {xs : List Sp} {m₁ : Nat} {X Y Z : World} (h : KZ B g bv nm sp bs xs m₁ X Y) (k : KZ B g bv nm sp bs xs m₁ Y Z) : KZ B g bv nm sp bs xs m₁ X Z :=
 ⟨fun z => k.z (h.z z), fun a s => k.s a (h.s a s), fun i c t fr hi ht q => k.b i c t fr hi ht (h.b i c t fr hi ht q)⟩
theorem cell_put {W : World} {l : Nat} {o o' : Obj} {p : Addr} {v : Value} (h : W.heap[l]? = some o) (hc : o.isCells = false) (q : W.cell? p = some v) : (W.putObj l o').cell? p = some v := by
 by_cases e : p.block = l
 ·subst e
  cases o <;> first | (cases hc; done) | (simp [World.cell?, h] at q)
 ·rw [World.cell?_of_block (World.putObj_heap_other e)]
  exact q
theorem KZ.put {B g : Nat} {bv nm sp : Value} {bs : List PB} {xs : List Sp} {m₁ : Nat} {W : World} {l : Nat} {o o' : Obj} (h : W.heap[l]? = some o) (hc : o.isCells = false) : KZ B g bv nm sp bs xs m₁ W (W.putObj l o') := by
 have hb : ∀ (i : Nat) (c : Array Value) (t : TypeId) (fr : Nat × Nat), W.heap[i]? = some (.cells c t fr) → (W.putObj l o').heap[i]? = some (.cells c t fr) := fun i c t fr q => by
  by_cases e : i = l
  ·subst e
   rw [q] at h
   cases h
   cases hc
  ·rw [World.putObj_heap_other e]
   exact q
 refine ⟨fun z => ⟨hb _ _ _ _ z.box, fun k x hx => by obtain ⟨cp, a, b, hv, e, c0, c1⟩ := z.size k x hx; exact ⟨cp, a, b, hv, e, cell_put h hc c0, cell_put h hc c1⟩⟩, fun _ s => ?_, fun i c t fr _ _ q => hb i c t fr q⟩
 obtain ⟨ao, cap, rfl, h2⟩ := s
 refine ⟨ao, cap, rfl, fun hx => ?_⟩
 obtain ⟨b, off, rfl, hcl⟩ := h2 hx
 exact ⟨b, off, rfl, fun i hi => ⟨cell_put h hc (hcl i hi).1, cell_put h hc (hcl i hi).2⟩⟩
end Go.Proofs.Ytmedickofiielaa

namespace Go.Proofs.Ytmedickofiielaa
open Go.RowKit Go.Shelf
attribute [local go_sem] Oper.semAt_some

structure DropI (w1 : World) (B M : Nat) (bv : Value) (l : List PCell) (f : Nat → Bool) (F : Nat) (lv : Value) (W : World) : Prop where
 own : W.ownsRow w1.heap.size 41 5 lv (keptC l f F).length (cCells (keptC l f F))
 keep : Keep (fun k => k = M) w1.heap.size w1 W
 box : W.heap[B]? = some (.cells #[bv, .map (some M)] 60 (0, 0))
 names : ∃ I, NMap W M I ∧ I.length ≤ 20000 ∧ (∀ x ∈ I, 0 ≤ x.2.2 ∧ x.2.2 < 200) ∧ ∀ x, x ∈ I ↔ x ∈ (keptC l f F ++ l.drop F).map idC
theorem DropI.alloc {w1 : World} {B M : Nat} {bv : Value} {l : List PCell} {f : Nat → Bool} {F : Nat} {lv : Value} {W : World} (h : DropI w1 B M bv l f F lv W) (o : Obj) : DropI w1 B M bv l f F lv (W.alloc o) :=
 ⟨h.own.alloc _, h.keep.alloc h.keep.size _, row_al h.box _, by obtain ⟨I, a, b⟩ := h.names; exact ⟨I, a.alloc _, b⟩⟩
end Go.Proofs.Ytmedickofiielaa
