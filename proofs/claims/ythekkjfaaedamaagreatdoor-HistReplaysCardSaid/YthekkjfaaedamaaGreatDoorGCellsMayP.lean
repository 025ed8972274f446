/- Texts of this proof, joined. -/
import Derived.Test.YthekkjfaaedamaaGreatDoorGCellsNew
import Derived.Test.YthekkjfaaedamaaGreatDoorGRefSplit
import Derived.Test.YthekkjfaaedamaaGreatDoorGCellsText
import Derived.Test.YthekkjfaaedamaaGreatDoorGOpsMayQ
import Derived.Test.YthekkjfaaedamaaGreatDoorCellsFind
import Derived.Test.YthekkjfaaedamaaGreatDoorGSpEdges
import Derived.Test.YthekkjfaaedamaaGreatDoorGSpansPlain
import Derived.Test.YthekkjfaaedamaaGreatDoorGListsRun
import Derived.Deep.RegionHeld
namespace Go.Proofs.YthekkjfaaedamaaGreatDoor
open Go.RowKit

theorem cMay_of {l : List PCell} (h1 : ∀ c ∈ l, cellOk c = true) (h2 : (l.map idC).Nodup) (h3 : l.length ≤ 20000) : cMay l = 0 := by
 unfold cMay
 rw [if_pos (List.all_eq_true.2 h1)]
 have : dupC l l.length = false := by
  unfold dupC
  rw [List.any_eq_false]
  intro i hi
  have hi := List.mem_range.1 hi
  rw [List.getElem?_eq_getElem hi]
  show ¬ dupTo l l[i] i = true
  unfold dupTo
  rw [List.any_eq_true]
  rintro ⟨c, hc, e⟩
  obtain ⟨j, hj, rfl⟩ := List.mem_iff_getElem.1 hc
  rw [List.length_take] at hj
  rw [List.getElem_take] at e
  have e := (sameId_iff _ _).1 e
  refine List.pairwise_iff_getElem.1 h2 j i (by rw [List.length_map]; omega) (by rw [List.length_map]; omega) (by omega) ?_
  rw [List.getElem_map, List.getElem_map]
  exact e
 rw [this, if_neg (by decide), if_neg (by omega)]
theorem cMay_parts {l : List PCell} (h : cMay l = 0) : (∀ c ∈ l, cellOk c = true) ∧ (l.map idC).Nodup ∧ l.length ≤ 20000 := by
 obtain ⟨h1, h2, h3⟩ := cMay_ok h
 exact ⟨List.all_eq_true.1 h1, nodup_ids h2, h3⟩
theorem mem_goneC {l : List PCell} {f : Nat → Bool} {c : PCell} (h : c ∈ goneC l f) : ∃ d ∈ l, d.site = c.site ∧ d.seq = c.seq ∧ d.off = c.off ∧ d.r = c.r := by
 obtain ⟨i, hi, rfl⟩ := List.mem_iff_getElem.1 h
 have e := List.getElem?_eq_getElem hi
 rw [goneC_at] at e
 cases hd : l[i]? with
 | none => rw [hd] at e; cases e
 | some d =>
  rw [hd] at e
  simp only [Option.map_some, Option.some.injEq] at e
  rw [← e]
  exact ⟨d, List.mem_of_getElem? hd, rfl, rfl, rfl, rfl⟩
theorem may_goneC {l : List PCell} (f : Nat → Bool) (h : cMay l = 0) : cMay (goneC l f) = 0 := by
 obtain ⟨h1, h2, h3⟩ := cMay_parts h
 refine cMay_of (fun c hc => ?_) (by rw [goneC_ids]; exact h2) (by rw [goneC_length]; exact h3)
 obtain ⟨d, hd, e1, e2, e3, e4⟩ := mem_goneC hc
 have := h1 d hd
 unfold cellOk at *
 rw [← e1, ← e2, ← e3, ← e4]
 exact this
theorem wf_goneC {l : List PCell} (f : Nat → Bool) (h : CWf l) : CWf (goneC l f) := fun c hc => by
 obtain ⟨d, hd, e1, e2, e3, e4⟩ := mem_goneC hc
 rw [← e1, ← e2, ← e3, ← e4]
 exact h d hd
theorem newC_newR {o : POp} {rs : List Int} (h : runesL o.text = some rs) : newC o = newR o.site o.seq rs := by
 unfold newC newR
 rw [h]
 rfl
theorem mem_newR {s q : Int} {rs : List Int} {c : PCell} (h : c ∈ newR s q rs) : ∃ i : Nat, rs[i]? = some c.r ∧ c.site = s ∧ c.seq = q ∧ c.off = (i : Int) := by
 unfold newR at h
 obtain ⟨i, hi, e⟩ := List.mem_mapIdx.1 h
 rw [← e]
 exact ⟨i, List.getElem?_eq_getElem hi, rfl, rfl, rfl⟩
theorem newR_nodup (s q : Int) (rs : List Int) : ((newR s q rs).map idC).Nodup := by
 refine List.pairwise_iff_getElem.2 fun i j hi hj hij e => ?_
 rw [List.getElem_map, List.getElem_map] at e
 have h1 : ∀ (k : Nat) (hk : k < (newR s q rs).length), (newR s q rs)[k].off = (k : Int) := fun k hk => by
  have e : (newR s q rs)[k]? = (rs[k]?).map fun r => (⟨s, q, (k : Int), r, false⟩ : PCell) := by unfold newR; rw [List.getElem?_mapIdx]
  rw [List.getElem?_eq_getElem hk, List.getElem?_eq_getElem (by rw [newR_length] at hk; exact hk)] at e
  simp only [Option.map_some, Option.some.injEq] at e
  rw [e]
 unfold idC at e
 injection e with _ e
 injection e with _ e
 rw [List.length_map] at hi hj
 rw [h1 i hi, h1 j hj] at e
 omega
theorem hasN_no {l : List PCell} {s q : Int} (h : hasN l s q = false) : ∀ c ∈ l, ¬ (c.site = s ∧ c.seq = q) := fun c hc e => by
 unfold hasN at h
 rw [List.any_eq_false] at h
 exact h c hc (decide_eq_true e)
theorem may_insC {l : List PCell} {s q : Int} {rs : List Int} (p : Nat) (h : cMay l = 0) (hn : hasN l s q = false) (hs : nMay s q = true) (hr : ∀ r ∈ rs, Lib.validRune r = true) (h200 : rs.length ≤ 200) (hl : l.length + rs.length ≤ 20000) : cMay (l.take p ++ newR s q rs ++ l.drop p) = 0 := by
 obtain ⟨h1, h2, h3⟩ := cMay_parts h
 have hnew : ∀ c ∈ newR s q rs, cellOk c = true := fun c hc => by
  obtain ⟨i, hi, e1, e2, e3⟩ := mem_newR hc
  have hil := (List.getElem?_eq_some_iff.1 hi).1
  unfold cellOk
  rw [e1, e2, e3, hs, hr _ (List.mem_of_getElem? hi), decide_eq_true (by omega)]
  rfl
 refine cMay_of (fun c hc => ?_) ?_ ?_
 ·rcases List.mem_append.1 hc with hc | hc
  ·rcases List.mem_append.1 hc with hc | hc
   ·exact h1 c (List.mem_of_mem_take hc)
   ·exact hnew c hc
  ·exact h1 c (List.mem_of_mem_drop hc)
 ·rw [← List.take_append_drop p l, List.map_append] at h2
  obtain ⟨n1, n2, d⟩ := List.nodup_append.1 h2
  have hx : ∀ c ∈ l, ∀ y ∈ (newR s q rs).map idC, idC c ≠ y := fun c hc y hy e => by
   obtain ⟨d, hd, rfl⟩ := List.mem_map.1 hy
   obtain ⟨i, _, e1, e2, _⟩ := mem_newR hd
   unfold idC at e
   injection e with a e
   injection e with b _
   exact hasN_no hn c hc ⟨a.trans e1, b.trans e2⟩
  rw [List.map_append, List.map_append]
  refine List.nodup_append.2 ⟨List.nodup_append.2 ⟨n1, newR_nodup _ _ _, fun a ha b hb => ?_⟩, n2, fun a ha b hb => ?_⟩
  ·obtain ⟨c, hc, rfl⟩ := List.mem_map.1 ha
   exact hx c (List.mem_of_mem_take hc) b hb
  ·rcases List.mem_append.1 ha with ha | ha
   ·exact d a ha b hb
   ·obtain ⟨c, hc, rfl⟩ := List.mem_map.1 hb
    exact (hx c (List.mem_of_mem_drop hc) a ha).symm
 ·simp only [List.length_append, List.length_take, List.length_drop, newR_length]
  omega
theorem valid_wf {r : Int} (h : Lib.validRune r = true) : (Lit.int .i32 r).wf = true := by
 have : 0 ≤ r ∧ r ≤ 1114111 := by
  unfold Lib.validRune at h
  simp at h
  omega
 simp only [Lit.wf, Bool.and_eq_true, decide_eq_true_eq]
 have u1 : IntKind.i32.min = -2147483648 := rfl
 have u2 : IntKind.i32.max = 2147483647 := rfl
 rw [u1, u2]
 omega
theorem wf_ins {l : List PCell} {s q : Int} {rs : List Int} (p : Nat) (h : CWf l) (hs : (Lit.int .i64 s).wf = true) (hq : (Lit.int .i64 q).wf = true) (hr : ∀ r ∈ rs, Lib.validRune r = true) (h200 : rs.length ≤ 200) : CWf (l.take p ++ newR s q rs ++ l.drop p) := fun c hc => by
 rcases List.mem_append.1 hc with hc | hc
 ·rcases List.mem_append.1 hc with hc | hc
  ·exact h c (List.mem_of_mem_take hc)
  ·obtain ⟨i, hi, e1, e2, e3⟩ := mem_newR hc
   have hil := (List.getElem?_eq_some_iff.1 hi).1
   refine ⟨by rw [e1]; exact hs, by rw [e2]; exact hq, ?_, valid_wf (hr _ (List.mem_of_getElem? hi))⟩
   rw [e3]
   simp only [Lit.wf, Bool.and_eq_true, decide_eq_true_eq]
   have u1 : IntKind.i64.min = -9223372036854775808 := rfl
   have u2 : IntKind.i64.max = 9223372036854775807 := rfl
   rw [u1, u2]
   omega
 ·exact h c (List.mem_of_mem_drop hc)
theorem ids_ins {l : List PCell} {new : List PCell} (p : Nat) (x : Id3) : x ∈ l.map idC ++ new.map idC ↔ x ∈ (l.take p ++ new ++ l.drop p).map idC := by
 rw [List.map_append, List.map_append]
 conv => lhs; rw [← List.take_append_drop p l, List.map_append]
 simp only [List.mem_append]
 exact ⟨fun h => h.elim (fun h => h.elim (fun h => .inl (.inl h)) .inr) (fun h => .inl (.inr h)), fun h => h.elim (fun h => h.elim (fun h => .inl (.inl h)) .inr) (fun h => .inl (.inr h))⟩
end Go.Proofs.YthekkjfaaedamaaGreatDoor

namespace Go.Proofs.YthekkjfaaedamaaGreatDoor
open Go.RowKit Go.Shelf
attribute [local go_sem] Oper.semAt_some

def footD (B M : Nat) (bv : Value) (bs : List PB) (k : Nat) : Prop := footB B bv bs k ∨ k = M
def DocD (w : World) (p : Value) (l : List PCell) (S : Nat → Prop) : Prop := ∃ B M bv bs, p = .pointer (some ⟨B, 0, none⟩) ∧ DocB w 0 B M bv bs l ∧ cMay l = 0 ∧ CWf l ∧ ∀ b, S b ↔ footD B M bv bs b
theorem own_same {W W' : World} {n₀ : Nat} {e : TypeId} {sz : Nat} {v : Value} {n : Nat} {xs : List Value} (h : W.ownsRow n₀ e sz v n xs) (hb : ∀ g, v.ownBlock = some g → W'.heap[g]? = W.heap[g]?) : W'.ownsRow n₀ e sz v n xs := by
 obtain ⟨h1, h2⟩ := h
 refine ⟨h1, ?_⟩
 rcases h2 with h2 | ⟨g, cap, cur, hv, hg, hh, r⟩
 ·exact .inl h2
 ·exact .inr ⟨g, cap, cur, hv, hg, by rw [hb g (by rw [hv]; rfl)]; exact hh, r⟩
theorem DocB.zero {W : World} {n₀ B M : Nat} {bv : Value} {bs : List PB} {l : List PCell} (h : DocB W n₀ B M bv bs l) : DocB W 0 B M bv bs l := ⟨Nat.zero_le _, Nat.zero_le _, h.box, h.blocks.lower (Nat.zero_le _), h.names, h.cat, h.few, h.full⟩
theorem DocB.keep {W W' : World} {n₀ B M : Nat} {bv : Value} {bs : List PB} {l : List PCell} (h : DocB W n₀ B M bv bs l) (hb : ∀ b, footD B M bv bs b → W'.heap[b]? = W.heap[b]?) : DocB W' n₀ B M bv bs l :=
 ⟨h.lowB, h.lowM, (hb B (.inl (.inl rfl))).trans h.box, ⟨own_same h.blocks.row fun g e => hb g (.inl (.inr (.inl e))), fun x hx => own_same (h.blocks.own x hx) fun g e => hb g (.inl (.inr (.inr ⟨x, hx, e⟩))), h.blocks.apart⟩, h.names.kept (hb M (.inr rfl)), h.cat, h.few, h.full⟩
theorem DocB.low {W : World} {n₀ B M : Nat} {bv : Value} {bs : List PB} {l : List PCell} (h : DocB W n₀ B M bv bs l) {b : Nat} (hb : footD B M bv bs b) : n₀ ≤ b ∧ b < W.heap.size := by
 rcases hb with (rfl | e | ⟨x, hx, e⟩) | rfl
 ·exact ⟨h.lowB, box_lt h.box⟩
 ·obtain ⟨q, c, hc⟩ := own_typed h.blocks.row b e
  exact ⟨q, box_lt hc⟩
 ·obtain ⟨q, c, hc⟩ := own_typed (h.blocks.own x hx) b e
  exact ⟨q, box_lt hc⟩
 ·exact ⟨h.lowM, h.names.lt⟩
theorem DocD.keep {w w' : World} {p : Value} {l : List PCell} {S : Nat → Prop} (h : DocD w p l S) (hb : ∀ b, S b → w'.heap[b]? = w.heap[b]?) : DocD w' p l S := by
 obtain ⟨B, M, bv, bs, rfl, hD, hm, hw, hS⟩ := h
 exact ⟨B, M, bv, bs, rfl, hD.keep fun b q => hb b ((hS b).2 q), hm, hw, hS⟩
theorem DocD.low {w : World} {p : Value} {l : List PCell} {S : Nat → Prop} (h : DocD w p l S) : ∀ b, S b → b < w.heap.size := fun b hb => by
 obtain ⟨B, M, bv, bs, rfl, hD, hm, hw, hS⟩ := h
 exact (hD.low ((hS b).1 hb)).2
theorem DocD.len {w : World} {p : Value} {l : List PCell} {S : Nat → Prop} (h : DocD w p l S) : l.length ≤ 20000 := by
 obtain ⟨B, M, bv, bs, rfl, hD, hm, hw, hS⟩ := h
 exact (cMay_parts hm).2.2
theorem DocD.kept {w w' : World} {p : Value} {l : List PCell} {S : Nat → Prop} (h : DocD w p l S) (hb : Below w.heap.size w w') : DKept DocD p l S w w' S :=
 ⟨h.keep fun b q => hb.block b (h.low b q), fun _ q => .inl q, Keep.of_below hb (Nat.le_refl _)⟩
theorem DocD.val {w : World} {p : Value} {l : List PCell} {S : Nat → Prop} {x : Value} {F : Nat} {args : Array Value} (h : DocD w p l S) (hc : Calls Tryz.prog F args w fun e w' => e = .returned x ∧ Below w.heap.size w w') : Calls Tryz.prog F args w (DVal DocD p l S x w) :=
 hc.mono fun _ _ ⟨h1, h2⟩ => ⟨S, h.kept h2, h1⟩
theorem DocD.parts {w : World} {p : Value} {l : List PCell} {S : Nat → Prop} (h : DocD w p l S) : ∃ B M bv bs, p = .pointer (some ⟨B, 0, none⟩) ∧ DocB w 0 B M bv bs l ∧ DocR w B bv (.map (some M)) bs ∧ catB bs = l ∧ cMay l = 0 ∧ CWf l ∧ l.length ≤ 20000 ∧ ∀ b, S b ↔ footD B M bv bs b := by
 have hl := h.len
 obtain ⟨B, M, bv, bs, rfl, hD, hm, hw, hS⟩ := h
 exact ⟨B, M, bv, bs, rfl, hD, hD.docR (by omega), hD.cat, hm, hw, hl, hS⟩
theorem dD_cells (p : Value) (l : List PCell) (S : Nat → Prop) (w : World) (h : DocD w p l S) : Calls Tryz.prog 10 #[p] w fun e w' => ∃ v S', e = .returned v ∧ DKept DocD p l S w w' S' ∧ CAt w' v l ∧ ∀ g, v.ownBlock = some g → w.heap.size ≤ g ∧ ¬ S' g := by
 obtain ⟨B, M, bv, bs, rfl, hD, hR, hc, hm, hw, hl, hS⟩ := h.parts
 have h1 := dcells_any B bv _ bs w hR
 rw [hc] at h1
 refine h1.mono ?_
 rintro e w' ⟨v, rfl, ho, hb⟩
 refine ⟨v, S, rfl, h.kept hb, CAt.of_own ho rfl, fun g hg => ?_⟩
 have := (own_typed ho g hg).1
 exact ⟨this, fun q => by have := h.low g q; omega⟩
theorem DocD.new {w' : World} {n₀ B M : Nat} {bv : Value} {bs : List PB} {l : List PCell} (h : DocB w' n₀ B M bv bs l) (hm : cMay l = 0) (hw : CWf l) : DocD w' (.pointer (some ⟨B, 0, none⟩)) l (footD B M bv bs) := ⟨B, M, bv, bs, rfl, h.zero, hm, hw, fun _ => Iff.rfl⟩
theorem dD_new_yes (v : Value) (l : List PCell) (w : World) (h : CAt w v l) (hw : CWf l) (hl : l.length ≤ 20000) (hm : cMay l = 0) :
  Calls Tryz.prog 42 #[v] w fun e w' => ∃ p S, e = .returned (.tuple #[p, .int .i64 0]) ∧ DocD w' p l S ∧ (∀ b, S b → w.heap.size ≤ b) ∧ Below w.heap.size w w' := by
 refine (new_yes v l w h hw hl hm).mono ?_
 rintro e w' ⟨B, M, bv, bs, rfl, hD, hb⟩
 exact ⟨_, _, rfl, DocD.new hD hm hw, fun b q => (hD.low q).1, hb⟩
end Go.Proofs.YthekkjfaaedamaaGreatDoor

namespace Go.Proofs.YthekkjfaaedamaaGreatDoor
open Go.RowKit Go.Shelf
attribute [local go_sem] Oper.semAt_some

end Go.Proofs.YthekkjfaaedamaaGreatDoor

namespace Go.Proofs.YthekkjfaaedamaaGreatDoor
open Go.RowKit Go.Shelf
attribute [local go_sem] Oper.semAt_some

theorem hasNm_hasN (l : List PCell) (s q : Int) : hasNm (l.map idC) (s, q) = hasN l s q := by
 unfold hasNm hasN
 rw [List.any_map]
 congr 1
 funext c
 show decide ((c.site, c.seq) = (s, q)) = decide (c.site = s ∧ c.seq = q)
 congr 1
 rw [Prod.mk.injEq]
theorem foot_map {w : World} {n₀ B M : Nat} {bv : Value} {bs : List PB} {l : List PCell} (h : DocB w n₀ B M bv bs l) : ¬ footB B bv bs M := fun q => by
 rcases q with e | e | ⟨x, hx, e⟩
 ·have := h.box
  rw [← e] at this
  exact absurd rfl (ne_map h.names this)
 ·obtain ⟨_, c, hc⟩ := own_typed h.blocks.row M e
  exact absurd rfl (ne_map h.names hc)
 ·obtain ⟨_, c, hc⟩ := own_typed (h.blocks.own x hx) M e
  exact absurd rfl (ne_map h.names hc)
theorem DocB.removed {w w' : World} {B M : Nat} {bv : Value} {bs : List PB} {l : List PCell} {f : Nat → Bool} (h : DocB w 0 B M bv bs l) (hr : RemI w 0 B bv (.map (some M)) bs l f w') (hm : cMay l = 0) (hw : CWf l) {S : Nat → Prop} (hS : ∀ b, S b ↔ footD B M bv bs b) :
  DKept DocD (.pointer (some ⟨B, 0, none⟩)) (goneC l f) S w w' (fun b => footB B bv bs b ∨ b = M) := by
 obtain ⟨bs', h1, h2, h3, h4, h5⟩ := hr
 have hM : w'.heap[M]? = w.heap[M]? := h5.block M h.names.lt (foot_map h)
 have hD : DocB w' 0 B M bv bs' (goneC l f) := ⟨Nat.zero_le _, Nat.zero_le _, h4, h2, by rw [goneC_ids]; exact h.names.kept hM, h3, by rw [vL_len h1]; exact h.few, fun x hx e => by
  obtain ⟨i, hi, rfl⟩ := List.mem_iff_getElem.1 hx
  obtain ⟨y, hy, _, e2⟩ := vL_at h1.symm (List.getElem?_eq_getElem hi)
  rw [e] at e2
  exact h.full y (List.mem_of_getElem? hy) (List.eq_nil_of_length_eq_zero e2)⟩
 refine ⟨⟨B, M, bv, bs', rfl, hD, may_goneC f hm, wf_goneC f hw, fun b => ?_⟩, fun b hb => .inl ((hS b).2 hb), h5.weak (Nat.le_refl _) fun b _ q => (hS b).2 (.inl q)⟩
 exact ⟨fun q => q.elim (fun q => .inl (footB_vL h1.symm q)) .inr, fun q => q.elim (fun q => .inl (footB_vL h1 q)) .inr⟩
set_option maxRecDepth 100000 in
set_option maxHeartbeats 8000000 in
theorem dDo_bad (s q n k a : Int) (t : ByteArray) (sp : Value) (xs : List Sp) (p : Value) (l : List PCell) (S : Nat → Prop) (w : World) (h : DocD w p l S) (hT : TabW w) (hs : SpAt w sp xs) (hn : NWf s q n k a) (ht : t.size ≤ 1000) (hx : xs.length ≤ 20000) (hwf : sWf xs) (hb : oMay ⟨s, q, n, k, a, t.data.toList, xs⟩ l.length = false) :
  Calls Tryz.prog 43 #[p, opV s q n k a t sp] w (DVal DocD p (cDo l ⟨s, q, n, k, a, t.data.toList, xs⟩).1 S (.int .i64 (cDo l ⟨s, q, n, k, a, t.data.toList, xs⟩).2) w) := by
 obtain ⟨B, M, bv, bs, rfl, hD, hR, hc, hm, hw, hl, hS⟩ := h.parts
 obtain ⟨X, hX⟩ : ∃ X, xs.length = X := ⟨_, rfl⟩
 obtain ⟨sa, sc, hsv⟩ : ∃ sa sc, sp = .slice sa X sc := by obtain ⟨z, c, h, _⟩ := hs; exact ⟨z, c, by rw [← hX]; exact h⟩
 have hSz := fun W (hb : Below w.heap.size w W) => (dsize_any (some ⟨B, 0, none⟩) (liveN (catB bs)) (goneN (catB bs)) W (by have := liveN_gone (catB bs); rw [hc] at this ⊢; omega) (whole_any B bv _ bs W (hR.below hb)))
 rw [liveN_gone, hc] at hSz
 have hMy := fun W (hb : Below w.heap.size w W) => pMayOp_any s q n k a (l.length : Int) t sp xs W (LenAt.tabs (TabW.below hT hb) (by unfold maxLen; omega)) (hs.below hb) (by omega) hwf
 have HK := Lib.hid (fun W (hb : Below w.heap.size w W) => h.kept hb)
 subst hsv
 unfold opV at hMy ⊢
 have HB0 := Lib.hid (And.intro ((Below.refl w.heap.size w).alloc (Nat.le_refl _) (.cells #[.int .i64 s, .int .i64 q, .int .i64 n, .int .i64 k, .int .i64 a, .string t, .slice sa X sc] 45)) (heap_new w (.cells #[.int .i64 s, .int .i64 q, .int .i64 n, .int .i64 k, .int .i64 a, .string t, .slice sa X sc] 45)))
 have HX := Lib.hid (And.intro hX (And.intro hs (And.intro hwf hx)))
 have HD := Lib.hid (And.intro hD (And.intro hR (And.intro hc (And.intro hm (And.intro hw (And.intro hS hl))))))
 have HW := Lib.hid (And.intro hT (And.intro hn ht))
 obtain ⟨L, hL⟩ : ∃ z, l.length = z := ⟨_, rfl⟩
 have HL := Lib.hid hL
 rw [hL] at hSz hMy
 have HSz := Lib.hid hSz
 have hcd : cDo l ⟨s, q, n, k, a, t.data.toList, xs⟩ = (l, 1) := by unfold cDo; rw [hb]; rfl
 rw [hL] at hb
 rw [hb] at hMy
 have HMy := Lib.hid hMy
 rw [hcd]
 clear hSz hMy hcd hb hD hR hc hm hw hS hl hs hwf hx hT hn ht hX h hL
 go_enter Tryz.func43, Tryz.ntmps43
 go_wp2
 generalize w.alloc (.cells #[.int .i64 s, .int .i64 q, .int .i64 n, .int .i64 k, .int .i64 a, .string t, .slice sa X sc] 45) = w0 at HB0 ⊢
 refine wp_region_held_drew (S := fun Z => Below w.heap.size w Z ∧ Z.heap[w.heap.size]? = some (.cells #[.int .i64 s, .int .i64 q, .int .i64 n, .int .i64 k, .int .i64 a, .string t, .slice sa X sc] 45 (0, 0))) (by kernel_rfl) ⟨HB0.out.1.drew, HB0.out.2⟩ (fun hHeld => ?_)
 refine tk (i := 0) (v := ?_) rfl (Or.inl ⟨rfl, ?hy1⟩) ?_
 case hy1 =>
  intro W hS
  go_simp
  try with_reducible rfl
 try simp only [Act.put, List.getElem_toArray, List.getElem_cons_zero, List.setIfInBounds_toArray, List.set_cons_zero, List.set_cons_succ]
 refine tk (i := 1) (v := ?_) rfl (Or.inl ⟨rfl, ?hy2⟩) ?_
 case hy2 =>
  intro W hS
  go_simp
  try with_reducible rfl
 try simp only [Act.put, List.getElem_toArray, List.getElem_cons_succ, List.getElem_cons_zero, List.setIfInBounds_toArray, List.set_cons_zero, List.set_cons_succ]
 refine tk (i := 2) (v := ?_) rfl (Or.inl ⟨rfl, ?hy3⟩) ?_
 case hy3 =>
  intro W hS
  go_simp
  try with_reducible rfl
 try simp only [Act.put, List.getElem_toArray, List.getElem_cons_succ, List.getElem_cons_zero, List.setIfInBounds_toArray, List.set_cons_zero, List.set_cons_succ]
 refine tk (i := 3) (v := ?_) rfl (Or.inl ⟨rfl, ?hy4⟩) ?_
 case hy4 =>
  intro W hS
  have u0 := box_cell hS.2 0
  have u1 := box_cell hS.2 1
  have u2 := box_cell hS.2 2
  have u3 := box_cell hS.2 3
  have u4 := box_cell hS.2 4
  have u5 := box_cell hS.2 5
  have u6 := box_cell hS.2 6
  go_simp
  try with_reducible rfl
 try simp only [Act.put, List.getElem_toArray, List.getElem_cons_succ, List.getElem_cons_zero, List.setIfInBounds_toArray, List.set_cons_zero, List.set_cons_succ]
 refine tk (i := 4) (v := ?_) rfl (Or.inl ⟨rfl, ?hy5⟩) ?_
 case hy5 =>
  intro W hS
  go_simp
  try with_reducible rfl
 try simp only [Act.put, List.getElem_toArray, List.getElem_cons_succ, List.getElem_cons_zero, List.setIfInBounds_toArray, List.set_cons_zero, List.set_cons_succ]
 refine wpAnyH_ready (rs := [5]) (by kernel_rfl) (by simp) (AllReadyH.cons rfl (fun K hK => ?_) AllReadyH.nil)
 go_simp
 go_wp2_with (go_at_call 25; refine (HSz.out _ hHeld.1).mono ?_; rintro e wa ⟨rfl, hb⟩)
 refine hK.out _ _ (⟨hHeld.1.trans (hb.mono hHeld.1.size), row_up hHeld.2 hb⟩) (fun hX => ?_)
 clear hK K hHeld
 have hHeld := hX
 clear hX
 refine wpAnyH_ready (rs := [6]) (by kernel_rfl) (by simp) (AllReadyH.cons rfl (fun K hK => ?_) AllReadyH.nil)
 go_simp
 go_wp2_with (go_at_call 68; refine (HMy.out _ hHeld.1).mono ?_; rintro e wb ⟨rfl, hb⟩)
 refine hK.out _ _ (⟨hHeld.1.trans (hb.mono hHeld.1.size), row_up hHeld.2 hb⟩) (fun hX => ?_)
 clear hK K hHeld
 have hHeld := hX
 clear hX
 refine tk (i := 7) (v := ?_) rfl (Or.inl ⟨rfl, ?hy6⟩) ?_
 case hy6 =>
  intro W hS
  go_simp
  try with_reducible rfl
 try simp only [Act.put, List.getElem_toArray, List.getElem_cons_succ, List.getElem_cons_zero, List.setIfInBounds_toArray, List.set_cons_zero, List.set_cons_succ]
 refine tk (i := 8) (v := ?_) rfl (Or.inl ⟨rfl, ?hy7⟩) ?_
 case hy7 =>
  intro W hS
  go_simp
  try with_reducible rfl
 try simp only [Act.put, List.getElem_toArray, List.getElem_cons_succ, List.getElem_cons_zero, List.setIfInBounds_toArray, List.set_cons_zero, List.set_cons_succ]
 refine wpAnyH_done (by kernel_rfl) ?_ _
 have HB1 := Lib.hid hHeld
 have y2 := box_cell hHeld.2 2
 have y3 := box_cell hHeld.2 3
 have y4 := box_cell hHeld.2 4
 have y5 := box_cell hHeld.2 5
 have y6 := box_cell hHeld.2 6
 clear hHeld
 go_wp2
 go_ret
 exact ⟨S, HK.out _ HB1.out.1, rfl⟩
set_option maxRecDepth 100000 in
set_option maxHeartbeats 8000000 in
theorem dDo_del (s q n k a : Int) (t : ByteArray) (sp : Value) (xs : List Sp) (p : Value) (l : List PCell) (S : Nat → Prop) (w : World) (h : DocD w p l S) (hT : TabW w) (hs : SpAt w sp xs) (hn : NWf s q n k a) (ht : t.size ≤ 1000) (hx : xs.length ≤ 20000) (hwf : sWf xs) (hb : oMay ⟨s, q, n, k, a, t.data.toList, xs⟩ l.length = true) (hk : k = 2) :
  Calls Tryz.prog 43 #[p, opV s q n k a t sp] w (DVal DocD p (cDo l ⟨s, q, n, k, a, t.data.toList, xs⟩).1 S (.int .i64 (cDo l ⟨s, q, n, k, a, t.data.toList, xs⟩).2) w) := by
 obtain ⟨B, M, bv, bs, rfl, hD, hR, hc, hm, hw, hl, hS⟩ := h.parts
 obtain ⟨X, hX⟩ : ∃ X, xs.length = X := ⟨_, rfl⟩
 obtain ⟨sa, sc, hsv⟩ : ∃ sa sc, sp = .slice sa X sc := by obtain ⟨z, c, h, _⟩ := hs; exact ⟨z, c, by rw [← hX]; exact h⟩
 have hSz := fun W (hb : Below w.heap.size w W) => (dsize_any (some ⟨B, 0, none⟩) (liveN (catB bs)) (goneN (catB bs)) W (by have := liveN_gone (catB bs); rw [hc] at this ⊢; omega) (whole_any B bv _ bs W (hR.below hb)))
 rw [liveN_gone, hc] at hSz
 have hMy := fun W (hb : Below w.heap.size w W) => pMayOp_any s q n k a (l.length : Int) t sp xs W (LenAt.tabs (TabW.below hT hb) (by unfold maxLen; omega)) (hs.below hb) (by omega) hwf
 have HK := Lib.hid (fun W (hb : Below w.heap.size w W) => h.kept hb)
 subst hsv
 unfold opV at hMy ⊢
 have HB0 := Lib.hid (And.intro ((Below.refl w.heap.size w).alloc (Nat.le_refl _) (.cells #[.int .i64 s, .int .i64 q, .int .i64 n, .int .i64 k, .int .i64 a, .string t, .slice sa X sc] 45)) (heap_new w (.cells #[.int .i64 s, .int .i64 q, .int .i64 n, .int .i64 k, .int .i64 a, .string t, .slice sa X sc] 45)))
 have HX := Lib.hid (And.intro hX (And.intro hs (And.intro hwf hx)))
 have HD := Lib.hid (And.intro hD (And.intro hR (And.intro hc (And.intro hm (And.intro hw (And.intro hS hl))))))
 have HW := Lib.hid (And.intro hT (And.intro hn ht))
 obtain ⟨L, hL⟩ : ∃ z, l.length = z := ⟨_, rfl⟩
 have HL := Lib.hid hL
 rw [hL] at hSz hMy
 have HSz := Lib.hid hSz
 have hcd : cDo l ⟨s, q, n, k, a, t.data.toList, xs⟩ = (goneC l (sMark xs), 0) := by unfold cDo runC; rw [hb, if_pos rfl, if_neg (fun e => by have := e.1; simp only at this; omega), if_neg (show ¬ k = 1 by omega)]
 have hom := (oMay_iff _ _).1 hb
 obtain ⟨-, -, -, hkk | ⟨-, -, -, hgd, hin⟩⟩ := hom
 ·exact absurd hkk.1 (by show ¬ k = 1; omega)
 rw [hL] at hb
 rw [hb] at hMy
 have HMy := Lib.hid hMy
 have HG := Lib.hid (And.intro hgd hin)
 rw [hcd]
 have HKD := Lib.hid hk
 clear hk hSz hMy hcd hb hD hR hc hm hw hS hl hs hwf hx hT hn ht hX h hgd hin hL
 go_enter Tryz.func43, Tryz.ntmps43
 go_wp2
 generalize w.alloc (.cells #[.int .i64 s, .int .i64 q, .int .i64 n, .int .i64 k, .int .i64 a, .string t, .slice sa X sc] 45) = w0 at HB0 ⊢
 refine wp_region_held_drew (S := fun Z => Below w.heap.size w Z ∧ Z.heap[w.heap.size]? = some (.cells #[.int .i64 s, .int .i64 q, .int .i64 n, .int .i64 k, .int .i64 a, .string t, .slice sa X sc] 45 (0, 0))) (by kernel_rfl) ⟨HB0.out.1.drew, HB0.out.2⟩ (fun hHeld => ?_)
 refine tk (i := 0) (v := ?_) rfl (Or.inl ⟨rfl, ?hy1⟩) ?_
 case hy1 =>
  intro W hS
  go_simp
  try with_reducible rfl
 try simp only [Act.put, List.getElem_toArray, List.getElem_cons_zero, List.setIfInBounds_toArray, List.set_cons_zero, List.set_cons_succ]
 refine tk (i := 1) (v := ?_) rfl (Or.inl ⟨rfl, ?hy2⟩) ?_
 case hy2 =>
  intro W hS
  go_simp
  try with_reducible rfl
 try simp only [Act.put, List.getElem_toArray, List.getElem_cons_succ, List.getElem_cons_zero, List.setIfInBounds_toArray, List.set_cons_zero, List.set_cons_succ]
 refine tk (i := 2) (v := ?_) rfl (Or.inl ⟨rfl, ?hy3⟩) ?_
 case hy3 =>
  intro W hS
  go_simp
  try with_reducible rfl
 try simp only [Act.put, List.getElem_toArray, List.getElem_cons_succ, List.getElem_cons_zero, List.setIfInBounds_toArray, List.set_cons_zero, List.set_cons_succ]
 refine tk (i := 3) (v := ?_) rfl (Or.inl ⟨rfl, ?hy4⟩) ?_
 case hy4 =>
  intro W hS
  have u0 := box_cell hS.2 0
  have u1 := box_cell hS.2 1
  have u2 := box_cell hS.2 2
  have u3 := box_cell hS.2 3
  have u4 := box_cell hS.2 4
  have u5 := box_cell hS.2 5
  have u6 := box_cell hS.2 6
  go_simp
  try with_reducible rfl
 try simp only [Act.put, List.getElem_toArray, List.getElem_cons_succ, List.getElem_cons_zero, List.setIfInBounds_toArray, List.set_cons_zero, List.set_cons_succ]
 refine tk (i := 4) (v := ?_) rfl (Or.inl ⟨rfl, ?hy5⟩) ?_
 case hy5 =>
  intro W hS
  go_simp
  try with_reducible rfl
 try simp only [Act.put, List.getElem_toArray, List.getElem_cons_succ, List.getElem_cons_zero, List.setIfInBounds_toArray, List.set_cons_zero, List.set_cons_succ]
 refine wpAnyH_ready (rs := [5]) (by kernel_rfl) (by simp) (AllReadyH.cons rfl (fun K hK => ?_) AllReadyH.nil)
 go_simp
 go_wp2_with (go_at_call 25; refine (HSz.out _ hHeld.1).mono ?_; rintro e wa ⟨rfl, hb⟩)
 refine hK.out _ _ (⟨hHeld.1.trans (hb.mono hHeld.1.size), row_up hHeld.2 hb⟩) (fun hX => ?_)
 clear hK K hHeld
 have hHeld := hX
 clear hX
 refine wpAnyH_ready (rs := [6]) (by kernel_rfl) (by simp) (AllReadyH.cons rfl (fun K hK => ?_) AllReadyH.nil)
 go_simp
 go_wp2_with (go_at_call 68; refine (HMy.out _ hHeld.1).mono ?_; rintro e wb ⟨rfl, hb⟩)
 refine hK.out _ _ (⟨hHeld.1.trans (hb.mono hHeld.1.size), row_up hHeld.2 hb⟩) (fun hX => ?_)
 clear hK K hHeld
 have hHeld := hX
 clear hX
 refine tk (i := 7) (v := ?_) rfl (Or.inl ⟨rfl, ?hy6⟩) ?_
 case hy6 =>
  intro W hS
  go_simp
  try with_reducible rfl
 try simp only [Act.put, List.getElem_toArray, List.getElem_cons_succ, List.getElem_cons_zero, List.setIfInBounds_toArray, List.set_cons_zero, List.set_cons_succ]
 refine tk (i := 8) (v := ?_) rfl (Or.inl ⟨rfl, ?hy7⟩) ?_
 case hy7 =>
  intro W hS
  go_simp
  try with_reducible rfl
 try simp only [Act.put, List.getElem_toArray, List.getElem_cons_succ, List.getElem_cons_zero, List.setIfInBounds_toArray, List.set_cons_zero, List.set_cons_succ]
 refine wpAnyH_done (by kernel_rfl) ?_ _
 have HB1 := Lib.hid hHeld
 have y2 := box_cell hHeld.2 2
 have y3 := box_cell hHeld.2 3
 have y4 := box_cell hHeld.2 4
 have y5 := box_cell hHeld.2 5
 have y6 := box_cell hHeld.2 6
 clear hHeld
 have hk := HKD.out
 subst hk
 go_wp2_with fail
 have hDB := HD.out.1.keep fun b z => HB1.out.1.block b (HD.out.1.low z).2
 have hrm := dremove_any 0 B M bv (.slice sa X sc) bs l xs _ hDB (by have := HD.out.2.2.2.2.2.2; omega) (HX.out.2.1.below HB1.out.1) (by have := HX.out.2.2.2; omega) HG.out.1 HG.out.2
 have HRM := Lib.hid hrm
 have HDB := Lib.hid hDB
 clear hrm hDB
 refine HRM.out.mono ?_
 rintro e w7 ⟨⟨_, rfl⟩, hr⟩
 have HE := Lib.hid (DKept.after HB1.out.1 (HDB.out.removed hr HD.out.2.2.2.1 HD.out.2.2.2.2.1 HD.out.2.2.2.2.2.1))
 clear hr
 go_wp2
 go_ret
 exact ⟨_, HE.out, rfl⟩
set_option maxRecDepth 100000 in
set_option maxHeartbeats 8000000 in
theorem dDo_twice (s q n k a : Int) (t : ByteArray) (sp : Value) (xs : List Sp) (p : Value) (l : List PCell) (S : Nat → Prop) (w : World) (h : DocD w p l S) (hT : TabW w) (hs : SpAt w sp xs) (hn : NWf s q n k a) (ht : t.size ≤ 1000) (hx : xs.length ≤ 20000) (hwf : sWf xs) (hb : oMay ⟨s, q, n, k, a, t.data.toList, xs⟩ l.length = true) (hk : k = 1) (hh : hasN l s q = true) :
  Calls Tryz.prog 43 #[p, opV s q n k a t sp] w (DVal DocD p (cDo l ⟨s, q, n, k, a, t.data.toList, xs⟩).1 S (.int .i64 (cDo l ⟨s, q, n, k, a, t.data.toList, xs⟩).2) w) := by
 obtain ⟨B, M, bv, bs, rfl, hD, hR, hc, hm, hw, hl, hS⟩ := h.parts
 obtain ⟨X, hX⟩ : ∃ X, xs.length = X := ⟨_, rfl⟩
 obtain ⟨sa, sc, hsv⟩ : ∃ sa sc, sp = .slice sa X sc := by obtain ⟨z, c, h, _⟩ := hs; exact ⟨z, c, by rw [← hX]; exact h⟩
 have hSz := fun W (hb : Below w.heap.size w W) => (dsize_any (some ⟨B, 0, none⟩) (liveN (catB bs)) (goneN (catB bs)) W (by have := liveN_gone (catB bs); rw [hc] at this ⊢; omega) (whole_any B bv _ bs W (hR.below hb)))
 rw [liveN_gone, hc] at hSz
 have hMy := fun W (hb : Below w.heap.size w W) => pMayOp_any s q n k a (l.length : Int) t sp xs W (LenAt.tabs (TabW.below hT hb) (by unfold maxLen; omega)) (hs.below hb) (by omega) hwf
 have HK := Lib.hid (fun W (hb : Below w.heap.size w W) => h.kept hb)
 subst hsv
 unfold opV at hMy ⊢
 have HB0 := Lib.hid (And.intro ((Below.refl w.heap.size w).alloc (Nat.le_refl _) (.cells #[.int .i64 s, .int .i64 q, .int .i64 n, .int .i64 k, .int .i64 a, .string t, .slice sa X sc] 45)) (heap_new w (.cells #[.int .i64 s, .int .i64 q, .int .i64 n, .int .i64 k, .int .i64 a, .string t, .slice sa X sc] 45)))
 have HX := Lib.hid (And.intro hX (And.intro hs (And.intro hwf hx)))
 have HD := Lib.hid (And.intro hD (And.intro hR (And.intro hc (And.intro hm (And.intro hw (And.intro hS hl))))))
 have HW := Lib.hid (And.intro hT (And.intro hn ht))
 obtain ⟨L, hL⟩ : ∃ z, l.length = z := ⟨_, rfl⟩
 have HL := Lib.hid hL
 rw [hL] at hSz hMy
 have HSz := Lib.hid hSz
 have hcd : cDo l ⟨s, q, n, k, a, t.data.toList, xs⟩ = (l, 15) := by unfold cDo; rw [hb, if_pos rfl, if_pos ⟨hk, hh⟩]
 rw [hL] at hb
 rw [hb] at hMy
 have HMy := Lib.hid hMy
 rw [hcd]
 rw [← hasNm_hasN] at hh
 have HHN := Lib.hid hh
 have HNW := Lib.hid (show nWf (s, q) from ⟨hn.s, hn.q⟩)
 obtain ⟨a0, a1, a2, a3, hoff⟩ : ∃ a0 a1 a2 a3 : Int, offV (offI (l.map idC) (s, q)) = .agg #[.int .u64 a0, .int .u64 a1, .int .u64 a2, .int .u64 a3] := ⟨_, _, _, _, rfl⟩
 have HOFF := Lib.hid hoff
 have HKD := Lib.hid hk
 clear hk hSz hMy hcd hb hD hR hc hm hw hS hl hs hwf hx hT hn ht hX h hL hh hoff
 go_enter Tryz.func43, Tryz.ntmps43
 go_wp2
 generalize w.alloc (.cells #[.int .i64 s, .int .i64 q, .int .i64 n, .int .i64 k, .int .i64 a, .string t, .slice sa X sc] 45) = w0 at HB0 ⊢
 refine wp_region_held_drew (S := fun Z => Below w.heap.size w Z ∧ Z.heap[w.heap.size]? = some (.cells #[.int .i64 s, .int .i64 q, .int .i64 n, .int .i64 k, .int .i64 a, .string t, .slice sa X sc] 45 (0, 0))) (by kernel_rfl) ⟨HB0.out.1.drew, HB0.out.2⟩ (fun hHeld => ?_)
 refine tk (i := 0) (v := ?_) rfl (Or.inl ⟨rfl, ?hy1⟩) ?_
 case hy1 =>
  intro W hS
  go_simp
  try with_reducible rfl
 try simp only [Act.put, List.getElem_toArray, List.getElem_cons_zero, List.setIfInBounds_toArray, List.set_cons_zero, List.set_cons_succ]
 refine tk (i := 1) (v := ?_) rfl (Or.inl ⟨rfl, ?hy2⟩) ?_
 case hy2 =>
  intro W hS
  go_simp
  try with_reducible rfl
 try simp only [Act.put, List.getElem_toArray, List.getElem_cons_succ, List.getElem_cons_zero, List.setIfInBounds_toArray, List.set_cons_zero, List.set_cons_succ]
 refine tk (i := 2) (v := ?_) rfl (Or.inl ⟨rfl, ?hy3⟩) ?_
 case hy3 =>
  intro W hS
  go_simp
  try with_reducible rfl
 try simp only [Act.put, List.getElem_toArray, List.getElem_cons_succ, List.getElem_cons_zero, List.setIfInBounds_toArray, List.set_cons_zero, List.set_cons_succ]
 refine tk (i := 3) (v := ?_) rfl (Or.inl ⟨rfl, ?hy4⟩) ?_
 case hy4 =>
  intro W hS
  have u0 := box_cell hS.2 0
  have u1 := box_cell hS.2 1
  have u2 := box_cell hS.2 2
  have u3 := box_cell hS.2 3
  have u4 := box_cell hS.2 4
  have u5 := box_cell hS.2 5
  have u6 := box_cell hS.2 6
  go_simp
  try with_reducible rfl
 try simp only [Act.put, List.getElem_toArray, List.getElem_cons_succ, List.getElem_cons_zero, List.setIfInBounds_toArray, List.set_cons_zero, List.set_cons_succ]
 refine tk (i := 4) (v := ?_) rfl (Or.inl ⟨rfl, ?hy5⟩) ?_
 case hy5 =>
  intro W hS
  go_simp
  try with_reducible rfl
 try simp only [Act.put, List.getElem_toArray, List.getElem_cons_succ, List.getElem_cons_zero, List.setIfInBounds_toArray, List.set_cons_zero, List.set_cons_succ]
 refine wpAnyH_ready (rs := [5]) (by kernel_rfl) (by simp) (AllReadyH.cons rfl (fun K hK => ?_) AllReadyH.nil)
 go_simp
 go_wp2_with (go_at_call 25; refine (HSz.out _ hHeld.1).mono ?_; rintro e wa ⟨rfl, hb⟩)
 refine hK.out _ _ (⟨hHeld.1.trans (hb.mono hHeld.1.size), row_up hHeld.2 hb⟩) (fun hX => ?_)
 clear hK K hHeld
 have hHeld := hX
 clear hX
 refine wpAnyH_ready (rs := [6]) (by kernel_rfl) (by simp) (AllReadyH.cons rfl (fun K hK => ?_) AllReadyH.nil)
 go_simp
 go_wp2_with (go_at_call 68; refine (HMy.out _ hHeld.1).mono ?_; rintro e wb ⟨rfl, hb⟩)
 refine hK.out _ _ (⟨hHeld.1.trans (hb.mono hHeld.1.size), row_up hHeld.2 hb⟩) (fun hX => ?_)
 clear hK K hHeld
 have hHeld := hX
 clear hX
 refine tk (i := 7) (v := ?_) rfl (Or.inl ⟨rfl, ?hy6⟩) ?_
 case hy6 =>
  intro W hS
  go_simp
  try with_reducible rfl
 try simp only [Act.put, List.getElem_toArray, List.getElem_cons_succ, List.getElem_cons_zero, List.setIfInBounds_toArray, List.set_cons_zero, List.set_cons_succ]
 refine tk (i := 8) (v := ?_) rfl (Or.inl ⟨rfl, ?hy7⟩) ?_
 case hy7 =>
  intro W hS
  go_simp
  try with_reducible rfl
 try simp only [Act.put, List.getElem_toArray, List.getElem_cons_succ, List.getElem_cons_zero, List.setIfInBounds_toArray, List.set_cons_zero, List.set_cons_succ]
 refine wpAnyH_done (by kernel_rfl) ?_ _
 have HB1 := Lib.hid hHeld
 have y2 := box_cell hHeld.2 2
 have y3 := box_cell hHeld.2 3
 have y4 := box_cell hHeld.2 4
 have y5 := box_cell hHeld.2 5
 have y6 := box_cell hHeld.2 6
 clear hHeld
 have hk2 : ¬ k = 2 := by have := HKD.out; omega
 go_wp2_with fail
 clear hk2 y2 y3 y4 y5 y6
 refine wp_region_held_drew (S := fun Z => Below w.heap.size w Z ∧ Z.heap[w.heap.size]? = some (.cells #[.int .i64 s, .int .i64 q, .int .i64 n, .int .i64 k, .int .i64 a, .string t, .slice sa X sc] 45 (0, 0)) ∧ Z.heap[B]? = some (.cells #[bv, .map (some M)] 80 (0, 0)) ∧ NMap Z M (l.map idC)) (by kernel_rfl) ⟨HB1.out.1.drew, HB1.out.2, row_up HD.out.1.box HB1.out.1.drew, (HD.out.1.names.below HB1.out.1).drew⟩ (fun hHeld => ?_)
 refine tk (i := 0) (v := ?_) rfl (Or.inl ⟨rfl, ?hy8⟩) ?_
 case hy8 =>
  intro W hS
  go_simp
  try with_reducible rfl
 try simp only [Act.put, List.getElem_toArray, List.getElem_cons_zero, List.setIfInBounds_toArray, List.set_cons_zero, List.set_cons_succ]
 refine tk (i := 1) (v := ?_) rfl (Or.inl ⟨rfl, ?hy9⟩) ?_
 case hy9 =>
  intro W hS
  go_simp
  try with_reducible rfl
 try simp only [Act.put, List.getElem_toArray, List.getElem_cons_succ, List.getElem_cons_zero, List.setIfInBounds_toArray, List.set_cons_zero, List.set_cons_succ]
 refine tk (i := 2) (v := ?_) rfl (Or.inl ⟨rfl, ?hy10⟩) ?_
 case hy10 =>
  intro W hS
  go_simp
  try with_reducible rfl
 try simp only [Act.put, List.getElem_toArray, List.getElem_cons_succ, List.getElem_cons_zero, List.setIfInBounds_toArray, List.set_cons_zero, List.set_cons_succ]
 refine tk (i := 3) (v := ?_) rfl (Or.inl ⟨rfl, ?hy11⟩) ?_
 case hy11 =>
  intro W hS
  obtain ⟨hS1, hS2, hS3, hS4⟩ := hS
  have u0 := box_cell hS2 0
  have u1 := box_cell hS2 1
  have u2 := box_cell hS3 1
  go_simp
  try with_reducible rfl
 try simp only [Act.put, List.getElem_toArray, List.getElem_cons_succ, List.getElem_cons_zero, List.setIfInBounds_toArray, List.set_cons_zero, List.set_cons_succ]
 refine tk (i := 4) (v := ?_) rfl (Or.inl ⟨rfl, ?hy12⟩) ?_
 case hy12 =>
  intro W hS
  go_simp
  try with_reducible rfl
 try simp only [Act.put, List.getElem_toArray, List.getElem_cons_succ, List.getElem_cons_zero, List.setIfInBounds_toArray, List.set_cons_zero, List.set_cons_succ]
 refine tk (i := 5) (v := ?_) rfl (Or.inl ⟨rfl, ?hy13⟩) ?_
 case hy13 =>
  intro W hS
  obtain ⟨hS1, hS2, hS3, hS4⟩ := hS
  have u0 := box_cell hS2 0
  have u1 := box_cell hS2 1
  have u2 := box_cell hS3 1
  go_simp
  try with_reducible rfl
 try simp only [Act.put, List.getElem_toArray, List.getElem_cons_succ, List.getElem_cons_zero, List.setIfInBounds_toArray, List.set_cons_zero, List.set_cons_succ]
 refine tk (i := 6) (v := ?_) rfl (Or.inl ⟨rfl, ?hy14⟩) ?_
 case hy14 =>
  intro W hS
  have hlk := hS.2.2.2.look_ok (p := (s, q)) HNW.out
  rw [HOFF.out, HHN.out] at hlk
  go_simp
  try with_reducible rfl
 try simp only [Act.put, List.getElem_toArray, List.getElem_cons_succ, List.getElem_cons_zero, List.setIfInBounds_toArray, List.set_cons_zero, List.set_cons_succ]
 refine tk (i := 7) (v := ?_) rfl (Or.inl ⟨rfl, ?hy15⟩) ?_
 case hy15 =>
  intro W hS
  go_simp
  try with_reducible rfl
 try simp only [Act.put, List.getElem_toArray, List.getElem_cons_succ, List.getElem_cons_zero, List.setIfInBounds_toArray, List.set_cons_zero, List.set_cons_succ]
 refine tk (i := 8) (v := ?_) rfl (Or.inl ⟨rfl, ?hy16⟩) ?_
 case hy16 =>
  intro W hS
  go_simp
  try with_reducible rfl
 try simp only [Act.put, List.getElem_toArray, List.getElem_cons_succ, List.getElem_cons_zero, List.setIfInBounds_toArray, List.set_cons_zero, List.set_cons_succ]
 refine tk (i := 9) (v := ?_) rfl (Or.inl ⟨rfl, ?hy17⟩) ?_
 case hy17 =>
  intro W hS
  go_simp
  try with_reducible rfl
 try simp only [Act.put, List.getElem_toArray, List.getElem_cons_succ, List.getElem_cons_zero, List.setIfInBounds_toArray, List.set_cons_zero, List.set_cons_succ]
 refine wpAnyH_ready (rs := [10]) (by kernel_rfl) (by simp) (AllReadyH.cons rfl (fun K hK => ?_) AllReadyH.nil)
 go_simp
 refine hK.out _ _ (⟨hHeld.1.alloc hHeld.1.size _, row_al hHeld.2.1 _, row_al hHeld.2.2.1 _, hHeld.2.2.2.alloc _⟩) (fun hX => ?_)
 clear hK K hHeld
 have hHeld := hX
 clear hX
 refine wpAnyH_ready (rs := [11]) (by kernel_rfl) (by simp) (AllReadyH.cons rfl (fun K hK => ?_) AllReadyH.nil)
 have o0 : (wb.alloc (.cells #[.int .u64 0, .int .u64 0, .int .u64 0, .int .u64 0] 121)).drew.heap[wb.heap.size]? = some (.cells #[.int .u64 0, .int .u64 0, .int .u64 0, .int .u64 0] 121 (0, 0)) := heap_new wb _
 obtain ⟨g1, g2, g3, g4⟩ := id hHeld
 have hl1 := box_lt HB1.out.2
 have hl2 := box_lt g3
 have hl3 : M < wb.heap.size := (HD.out.1.names.below HB1.out.1).lt
 have hl4 : B < wb.heap.size := box_lt (row_up HD.out.1.box HB1.out.1)
 have hws := HB1.out.1.size
 generalize (wb.alloc (.cells #[.int .u64 0, .int .u64 0, .int .u64 0, .int .u64 0] 121)).drew = wz at g1 g2 g3 g4 o0 ⊢
 have f0 := box_frozen o0 0
 have f1 := box_frozen o0 1
 have f2 := box_frozen o0 2
 have f3 := box_frozen o0 3
 have e0 := box_cell o0 0
 have e1 := box_cell o0 1
 have e2 := box_cell o0 2
 have e3 := box_cell o0 3
 have HQ := Lib.hid (show Below w.heap.size w ((((wz.setCell ⟨wb.heap.size, 0, none⟩ (.int .u64 a0)).setCell ⟨wb.heap.size, 1, none⟩ (.int .u64 a1)).setCell ⟨wb.heap.size, 2, none⟩ (.int .u64 a2)).setCell ⟨wb.heap.size, 3, none⟩ (.int .u64 a3)) ∧ ((((wz.setCell ⟨wb.heap.size, 0, none⟩ (.int .u64 a0)).setCell ⟨wb.heap.size, 1, none⟩ (.int .u64 a1)).setCell ⟨wb.heap.size, 2, none⟩ (.int .u64 a2)).setCell ⟨wb.heap.size, 3, none⟩ (.int .u64 a3)).heap[w.heap.size]? = some (.cells #[.int .i64 s, .int .i64 q, .int .i64 n, .int .i64 k, .int .i64 a, .string t, .slice sa X sc] 45 (0, 0)) ∧ ((((wz.setCell ⟨wb.heap.size, 0, none⟩ (.int .u64 a0)).setCell ⟨wb.heap.size, 1, none⟩ (.int .u64 a1)).setCell ⟨wb.heap.size, 2, none⟩ (.int .u64 a2)).setCell ⟨wb.heap.size, 3, none⟩ (.int .u64 a3)).heap[B]? = some (.cells #[bv, .map (some M)] 80 (0, 0)) ∧ NMap ((((wz.setCell ⟨wb.heap.size, 0, none⟩ (.int .u64 a0)).setCell ⟨wb.heap.size, 1, none⟩ (.int .u64 a1)).setCell ⟨wb.heap.size, 2, none⟩ (.int .u64 a2)).setCell ⟨wb.heap.size, 3, none⟩ (.int .u64 a3)) M (l.map idC) from ⟨(((g1.setCell (p := ⟨wb.heap.size, 0, none⟩) hws _).setCell (p := ⟨wb.heap.size, 1, none⟩) hws _).setCell (p := ⟨wb.heap.size, 2, none⟩) hws _).setCell (p := ⟨wb.heap.size, 3, none⟩) hws _, (box_other (by omega) 3 _).trans ((box_other (by omega) 2 _).trans ((box_other (by omega) 1 _).trans ((box_other (by omega) 0 _).trans g2))), (box_other (by omega) 3 _).trans ((box_other (by omega) 2 _).trans ((box_other (by omega) 1 _).trans ((box_other (by omega) 0 _).trans g3))), (((g4.set (o := 0) (by omega)).set (o := 1) (by omega)).set (o := 2) (by omega)).set (o := 3) (by omega)⟩)
 go_simp
 refine hK.out _ _ (⟨HQ.out.1, HQ.out.2.1, HQ.out.2.2.1, HQ.out.2.2.2⟩) (fun hX => ?_)
 clear hK K hHeld
 have hHeld := hX
 clear hX
 refine tk (i := 12) (v := ?_) rfl (Or.inl ⟨rfl, ?hy18⟩) ?_
 case hy18 =>
  intro W hS
  go_simp
  try with_reducible rfl
 try simp only [Act.put, List.getElem_toArray, List.getElem_cons_succ, List.getElem_cons_zero, List.setIfInBounds_toArray, List.set_cons_zero, List.set_cons_succ]
 refine wpAnyH_done (by kernel_rfl) ?_ _
 have HB2 := Lib.hid hHeld
 clear hHeld
 go_wp2
 go_ret
 exact ⟨S, HK.out _ HB2.out.1, rfl⟩
set_option maxRecDepth 100000 in
set_option maxHeartbeats 8000000 in
theorem dDo_ins (s q n k a : Int) (t : ByteArray) (sp : Value) (xs : List Sp) (p : Value) (l : List PCell) (S : Nat → Prop) (w : World) (h : DocD w p l S) (hT : TabW w) (hs : SpAt w sp xs) (hn : NWf s q n k a) (ht : t.size ≤ 1000) (hx : xs.length ≤ 20000) (hwf : sWf xs) (hb : oMay ⟨s, q, n, k, a, t.data.toList, xs⟩ l.length = true) (hk : k = 1) (hh : hasN l s q = false) :
  Calls Tryz.prog 43 #[p, opV s q n k a t sp] w (DVal DocD p (cDo l ⟨s, q, n, k, a, t.data.toList, xs⟩).1 S (.int .i64 (cDo l ⟨s, q, n, k, a, t.data.toList, xs⟩).2) w) := by
 obtain ⟨B, M, bv, bs, rfl, hD, hR, hc, hm, hw, hl, hS⟩ := h.parts
 obtain ⟨X, hX⟩ : ∃ X, xs.length = X := ⟨_, rfl⟩
 obtain ⟨sa, sc, hsv⟩ : ∃ sa sc, sp = .slice sa X sc := by obtain ⟨z, c, h, _⟩ := hs; exact ⟨z, c, by rw [← hX]; exact h⟩
 have hSz := fun W (hb : Below w.heap.size w W) => (dsize_any (some ⟨B, 0, none⟩) (liveN (catB bs)) (goneN (catB bs)) W (by have := liveN_gone (catB bs); rw [hc] at this ⊢; omega) (whole_any B bv _ bs W (hR.below hb)))
 rw [liveN_gone, hc] at hSz
 have hMy := fun W (hb : Below w.heap.size w W) => pMayOp_any s q n k a (l.length : Int) t sp xs W (LenAt.tabs (TabW.below hT hb) (by unfold maxLen; omega)) (hs.below hb) (by omega) hwf
 have HK := Lib.hid (fun W (hb : Below w.heap.size w W) => h.kept hb)
 subst hsv
 unfold opV at hMy ⊢
 have HB0 := Lib.hid (And.intro ((Below.refl w.heap.size w).alloc (Nat.le_refl _) (.cells #[.int .i64 s, .int .i64 q, .int .i64 n, .int .i64 k, .int .i64 a, .string t, .slice sa X sc] 45)) (heap_new w (.cells #[.int .i64 s, .int .i64 q, .int .i64 n, .int .i64 k, .int .i64 a, .string t, .slice sa X sc] 45)))
 have HX := Lib.hid (And.intro hX (And.intro hs (And.intro hwf hx)))
 have HD := Lib.hid (And.intro hD (And.intro hR (And.intro hc (And.intro hm (And.intro hw (And.intro hS hl))))))
 have HW := Lib.hid (And.intro hT (And.intro hn ht))
 obtain ⟨L, hL⟩ : ∃ z, l.length = z := ⟨_, rfl⟩
 have HL := Lib.hid hL
 rw [hL] at hSz hMy
 have HSz := Lib.hid hSz
 have hcd : cDo l ⟨s, q, n, k, a, t.data.toList, xs⟩ = (runC l ⟨s, q, n, k, a, t.data.toList, xs⟩, 0) := by unfold cDo; rw [hb, if_pos rfl, if_neg (fun e => by rw [hh] at e; exact absurd e.2 (by decide))]
 have hom := (oMay_iff _ _).1 hb
 obtain ⟨-, hnm, -, ⟨-, ha0, ha1, hmt, -, hro⟩ | hkk⟩ := hom
 rotate_left
 ·exact absurd hkk.1 (by show ¬ k = 2; omega)
 dsimp only at hnm ha0 ha1 hmt hro
 obtain ⟨rs, hrs⟩ : ∃ rs, runesL t.data.toList = some rs := by
  unfold mayT at hmt
  simp only [Bool.and_eq_true, decide_eq_true_eq] at hmt
  have h2 := hmt.2.1
  unfold lenT at h2
  cases hr : runesL t.data.toList with
  | none => rw [hr] at h2; dsimp only at h2; omega
  | some rs => exact ⟨rs, rfl⟩
 have hlt : lenT t.data.toList = rs.length := by unfold lenT; rw [hrs]
 have h200 : rs.length ≤ 200 := by
  unfold mayT at hmt
  simp only [Bool.and_eq_true, decide_eq_true_eq] at hmt
  omega
 have hval := (runesL_join hrs).2
 obtain ⟨pp, hpp⟩ : ∃ pp : Nat, a = pp := ⟨a.toNat, by omega⟩
 have hru : runC l ⟨s, q, n, k, a, t.data.toList, xs⟩ = l.take pp ++ newR s q rs ++ l.drop pp := by
  unfold runC
  rw [if_pos (show k = 1 from hk), newC_newR hrs]
  show l.take a.toNat ++ _ ++ l.drop a.toNat = _
  rw [hpp]
  rfl
 have HPP := Lib.hid hpp
 rw [hlt] at hro
 have hmay2 := may_insC pp hm hh hnm hval h200 (by omega)
 have hwf2 := wf_ins pp hw hn.s hn.q hval h200
 rw [hru] at hcd
 rw [hL] at hb
 rw [hb] at hMy
 have HMy := Lib.hid hMy
 rw [hcd]
 have hcof := fun W (hb : Below w.heap.size w W) => cellsOf_any s q n k a t (.slice sa X sc) rs W (TabW.below hT hb) ht hrs (by omega) ⟨_, _, _, rfl⟩
 unfold opV at hcof
 have HCOF := Lib.hid hcof
 have HR := Lib.hid (And.intro hmay2 (And.intro hwf2 (And.intro (show pp ≤ l.length by omega) (And.intro h200 hro))))
 have hok : ∀ c ∈ newR s q rs, nWf (c.site, c.seq) ∧ 0 ≤ c.off ∧ c.off < 200 := fun c hc => by
  obtain ⟨i, hi, e1, e2, e3⟩ := mem_newR hc
  have hil := (List.getElem?_eq_some_iff.1 hi).1
  rw [e1, e2, e3]
  exact ⟨⟨hn.s, hn.q⟩, by omega, by omega⟩
 have hkn : knowN (l.map idC) (newR s q rs) = (l.map idC ++ (newR s q rs).map idC, true) := by
  refine knowN_yes _ _ fun i d hd => ⟨fun g => ?_, fun g => ?_⟩
  ·obtain ⟨c, hc, e⟩ := List.mem_map.1 g
   obtain ⟨j, _, e1, e2, _⟩ := mem_newR (List.mem_of_getElem? hd)
   unfold idC at e
   injection e with z1 e
   injection e with z2 _
   exact hasN_no hh c hc ⟨z1.trans e1, z2.trans e2⟩
  ·have hnd := newR_nodup s q rs
   obtain ⟨c, hc, e⟩ := List.mem_map.1 g
   obtain ⟨j, hj, rfl⟩ := List.mem_iff_getElem.1 hc
   rw [List.length_take] at hj
   rw [List.getElem_take] at e
   have hil := (List.getElem?_eq_some_iff.1 hd)
   refine List.pairwise_iff_getElem.1 hnd j i (by rw [List.length_map]; omega) (by rw [List.length_map]; exact hil.1) (by omega) ?_
   rw [List.getElem_map, List.getElem_map, hil.2]
   exact e
 have HOK := Lib.hid (And.intro hok hkn)
 rw [← hasNm_hasN] at hh
 have HHN := Lib.hid hh
 have HNW := Lib.hid (show nWf (s, q) from ⟨hn.s, hn.q⟩)
 obtain ⟨a0, a1, a2, a3, hoff⟩ : ∃ a0 a1 a2 a3 : Int, offV (offI (l.map idC) (s, q)) = .agg #[.int .u64 a0, .int .u64 a1, .int .u64 a2, .int .u64 a3] := ⟨_, _, _, _, rfl⟩
 have HOFF := Lib.hid hoff
 have HKD := Lib.hid hk
 clear hk hSz hMy hcd hb hD hR hc hm hw hS hl hs hwf hx hT hn ht hX h hL hh hoff hcof hmay2 hwf2 hok hkn hru hval h200 hlt hrs hro hmt ha0 ha1 hnm hpp
 go_enter Tryz.func43, Tryz.ntmps43
 go_wp2
 generalize w.alloc (.cells #[.int .i64 s, .int .i64 q, .int .i64 n, .int .i64 k, .int .i64 a, .string t, .slice sa X sc] 45) = w0 at HB0 ⊢
 refine wp_region_held_drew (S := fun Z => Below w.heap.size w Z ∧ Z.heap[w.heap.size]? = some (.cells #[.int .i64 s, .int .i64 q, .int .i64 n, .int .i64 k, .int .i64 a, .string t, .slice sa X sc] 45 (0, 0))) (by kernel_rfl) ⟨HB0.out.1.drew, HB0.out.2⟩ (fun hHeld => ?_)
 refine tk (i := 0) (v := ?_) rfl (Or.inl ⟨rfl, ?hy1⟩) ?_
 case hy1 =>
  intro W hS
  go_simp
  try with_reducible rfl
 try simp only [Act.put, List.getElem_toArray, List.getElem_cons_zero, List.setIfInBounds_toArray, List.set_cons_zero, List.set_cons_succ]
 refine tk (i := 1) (v := ?_) rfl (Or.inl ⟨rfl, ?hy2⟩) ?_
 case hy2 =>
  intro W hS
  go_simp
  try with_reducible rfl
 try simp only [Act.put, List.getElem_toArray, List.getElem_cons_succ, List.getElem_cons_zero, List.setIfInBounds_toArray, List.set_cons_zero, List.set_cons_succ]
 refine tk (i := 2) (v := ?_) rfl (Or.inl ⟨rfl, ?hy3⟩) ?_
 case hy3 =>
  intro W hS
  go_simp
  try with_reducible rfl
 try simp only [Act.put, List.getElem_toArray, List.getElem_cons_succ, List.getElem_cons_zero, List.setIfInBounds_toArray, List.set_cons_zero, List.set_cons_succ]
 refine tk (i := 3) (v := ?_) rfl (Or.inl ⟨rfl, ?hy4⟩) ?_
 case hy4 =>
  intro W hS
  have u0 := box_cell hS.2 0
  have u1 := box_cell hS.2 1
  have u2 := box_cell hS.2 2
  have u3 := box_cell hS.2 3
  have u4 := box_cell hS.2 4
  have u5 := box_cell hS.2 5
  have u6 := box_cell hS.2 6
  go_simp
  try with_reducible rfl
 try simp only [Act.put, List.getElem_toArray, List.getElem_cons_succ, List.getElem_cons_zero, List.setIfInBounds_toArray, List.set_cons_zero, List.set_cons_succ]
 refine tk (i := 4) (v := ?_) rfl (Or.inl ⟨rfl, ?hy5⟩) ?_
 case hy5 =>
  intro W hS
  go_simp
  try with_reducible rfl
 try simp only [Act.put, List.getElem_toArray, List.getElem_cons_succ, List.getElem_cons_zero, List.setIfInBounds_toArray, List.set_cons_zero, List.set_cons_succ]
 refine wpAnyH_ready (rs := [5]) (by kernel_rfl) (by simp) (AllReadyH.cons rfl (fun K hK => ?_) AllReadyH.nil)
 go_simp
 go_wp2_with (go_at_call 25; refine (HSz.out _ hHeld.1).mono ?_; rintro e wa ⟨rfl, hb⟩)
 refine hK.out _ _ (⟨hHeld.1.trans (hb.mono hHeld.1.size), row_up hHeld.2 hb⟩) (fun hX => ?_)
 clear hK K hHeld
 have hHeld := hX
 clear hX
 refine wpAnyH_ready (rs := [6]) (by kernel_rfl) (by simp) (AllReadyH.cons rfl (fun K hK => ?_) AllReadyH.nil)
 go_simp
 go_wp2_with (go_at_call 68; refine (HMy.out _ hHeld.1).mono ?_; rintro e wb ⟨rfl, hb⟩)
 refine hK.out _ _ (⟨hHeld.1.trans (hb.mono hHeld.1.size), row_up hHeld.2 hb⟩) (fun hX => ?_)
 clear hK K hHeld
 have hHeld := hX
 clear hX
 refine tk (i := 7) (v := ?_) rfl (Or.inl ⟨rfl, ?hy6⟩) ?_
 case hy6 =>
  intro W hS
  go_simp
  try with_reducible rfl
 try simp only [Act.put, List.getElem_toArray, List.getElem_cons_succ, List.getElem_cons_zero, List.setIfInBounds_toArray, List.set_cons_zero, List.set_cons_succ]
 refine tk (i := 8) (v := ?_) rfl (Or.inl ⟨rfl, ?hy7⟩) ?_
 case hy7 =>
  intro W hS
  go_simp
  try with_reducible rfl
 try simp only [Act.put, List.getElem_toArray, List.getElem_cons_succ, List.getElem_cons_zero, List.setIfInBounds_toArray, List.set_cons_zero, List.set_cons_succ]
 refine wpAnyH_done (by kernel_rfl) ?_ _
 have HB1 := Lib.hid hHeld
 have y2 := box_cell hHeld.2 2
 have y3 := box_cell hHeld.2 3
 have y4 := box_cell hHeld.2 4
 have y5 := box_cell hHeld.2 5
 have y6 := box_cell hHeld.2 6
 clear hHeld
 have hk2 : ¬ k = 2 := by have := HKD.out; omega
 go_wp2_with fail
 clear hk2 y2 y3 y4 y5 y6
 refine wp_region_held_drew (S := fun Z => Below w.heap.size w Z ∧ Z.heap[w.heap.size]? = some (.cells #[.int .i64 s, .int .i64 q, .int .i64 n, .int .i64 k, .int .i64 a, .string t, .slice sa X sc] 45 (0, 0)) ∧ Z.heap[B]? = some (.cells #[bv, .map (some M)] 80 (0, 0)) ∧ NMap Z M (l.map idC)) (by kernel_rfl) ⟨HB1.out.1.drew, HB1.out.2, row_up HD.out.1.box HB1.out.1.drew, (HD.out.1.names.below HB1.out.1).drew⟩ (fun hHeld => ?_)
 refine tk (i := 0) (v := ?_) rfl (Or.inl ⟨rfl, ?hy8⟩) ?_
 case hy8 =>
  intro W hS
  go_simp
  try with_reducible rfl
 try simp only [Act.put, List.getElem_toArray, List.getElem_cons_zero, List.setIfInBounds_toArray, List.set_cons_zero, List.set_cons_succ]
 refine tk (i := 1) (v := ?_) rfl (Or.inl ⟨rfl, ?hy9⟩) ?_
 case hy9 =>
  intro W hS
  go_simp
  try with_reducible rfl
 try simp only [Act.put, List.getElem_toArray, List.getElem_cons_succ, List.getElem_cons_zero, List.setIfInBounds_toArray, List.set_cons_zero, List.set_cons_succ]
 refine tk (i := 2) (v := ?_) rfl (Or.inl ⟨rfl, ?hy10⟩) ?_
 case hy10 =>
  intro W hS
  go_simp
  try with_reducible rfl
 try simp only [Act.put, List.getElem_toArray, List.getElem_cons_succ, List.getElem_cons_zero, List.setIfInBounds_toArray, List.set_cons_zero, List.set_cons_succ]
 refine tk (i := 3) (v := ?_) rfl (Or.inl ⟨rfl, ?hy11⟩) ?_
 case hy11 =>
  intro W hS
  obtain ⟨hS1, hS2, hS3, hS4⟩ := hS
  have u0 := box_cell hS2 0
  have u1 := box_cell hS2 1
  have u2 := box_cell hS3 1
  go_simp
  try with_reducible rfl
 try simp only [Act.put, List.getElem_toArray, List.getElem_cons_succ, List.getElem_cons_zero, List.setIfInBounds_toArray, List.set_cons_zero, List.set_cons_succ]
 refine tk (i := 4) (v := ?_) rfl (Or.inl ⟨rfl, ?hy12⟩) ?_
 case hy12 =>
  intro W hS
  go_simp
  try with_reducible rfl
 try simp only [Act.put, List.getElem_toArray, List.getElem_cons_succ, List.getElem_cons_zero, List.setIfInBounds_toArray, List.set_cons_zero, List.set_cons_succ]
 refine tk (i := 5) (v := ?_) rfl (Or.inl ⟨rfl, ?hy13⟩) ?_
 case hy13 =>
  intro W hS
  obtain ⟨hS1, hS2, hS3, hS4⟩ := hS
  have u0 := box_cell hS2 0
  have u1 := box_cell hS2 1
  have u2 := box_cell hS3 1
  go_simp
  try with_reducible rfl
 try simp only [Act.put, List.getElem_toArray, List.getElem_cons_succ, List.getElem_cons_zero, List.setIfInBounds_toArray, List.set_cons_zero, List.set_cons_succ]
 refine tk (i := 6) (v := ?_) rfl (Or.inl ⟨rfl, ?hy14⟩) ?_
 case hy14 =>
  intro W hS
  have hlk := hS.2.2.2.look_ok (p := (s, q)) HNW.out
  rw [HOFF.out, HHN.out] at hlk
  go_simp
  try with_reducible rfl
 try simp only [Act.put, List.getElem_toArray, List.getElem_cons_succ, List.getElem_cons_zero, List.setIfInBounds_toArray, List.set_cons_zero, List.set_cons_succ]
 refine tk (i := 7) (v := ?_) rfl (Or.inl ⟨rfl, ?hy15⟩) ?_
 case hy15 =>
  intro W hS
  go_simp
  try with_reducible rfl
 try simp only [Act.put, List.getElem_toArray, List.getElem_cons_succ, List.getElem_cons_zero, List.setIfInBounds_toArray, List.set_cons_zero, List.set_cons_succ]
 refine tk (i := 8) (v := ?_) rfl (Or.inl ⟨rfl, ?hy16⟩) ?_
 case hy16 =>
  intro W hS
  go_simp
  try with_reducible rfl
 try simp only [Act.put, List.getElem_toArray, List.getElem_cons_succ, List.getElem_cons_zero, List.setIfInBounds_toArray, List.set_cons_zero, List.set_cons_succ]
 refine tk (i := 9) (v := ?_) rfl (Or.inl ⟨rfl, ?hy17⟩) ?_
 case hy17 =>
  intro W hS
  go_simp
  try with_reducible rfl
 try simp only [Act.put, List.getElem_toArray, List.getElem_cons_succ, List.getElem_cons_zero, List.setIfInBounds_toArray, List.set_cons_zero, List.set_cons_succ]
 refine wpAnyH_ready (rs := [10]) (by kernel_rfl) (by simp) (AllReadyH.cons rfl (fun K hK => ?_) AllReadyH.nil)
 go_simp
 refine hK.out _ _ (⟨hHeld.1.alloc hHeld.1.size _, row_al hHeld.2.1 _, row_al hHeld.2.2.1 _, hHeld.2.2.2.alloc _⟩) (fun hX => ?_)
 clear hK K hHeld
 have hHeld := hX
 clear hX
 refine wpAnyH_ready (rs := [11]) (by kernel_rfl) (by simp) (AllReadyH.cons rfl (fun K hK => ?_) AllReadyH.nil)
 have o0 : (wb.alloc (.cells #[.int .u64 0, .int .u64 0, .int .u64 0, .int .u64 0] 121)).drew.heap[wb.heap.size]? = some (.cells #[.int .u64 0, .int .u64 0, .int .u64 0, .int .u64 0] 121 (0, 0)) := heap_new wb _
 obtain ⟨g1, g2, g3, g4⟩ := id hHeld
 have hl1 := box_lt HB1.out.2
 have hl2 := box_lt g3
 have hl3 : M < wb.heap.size := (HD.out.1.names.below HB1.out.1).lt
 have hl4 : B < wb.heap.size := box_lt (row_up HD.out.1.box HB1.out.1)
 have hws := HB1.out.1.size
 generalize (wb.alloc (.cells #[.int .u64 0, .int .u64 0, .int .u64 0, .int .u64 0] 121)).drew = wz at g1 g2 g3 g4 o0 ⊢
 have f0 := box_frozen o0 0
 have f1 := box_frozen o0 1
 have f2 := box_frozen o0 2
 have f3 := box_frozen o0 3
 have e0 := box_cell o0 0
 have e1 := box_cell o0 1
 have e2 := box_cell o0 2
 have e3 := box_cell o0 3
 have HQ := Lib.hid (show Below w.heap.size w ((((wz.setCell ⟨wb.heap.size, 0, none⟩ (.int .u64 a0)).setCell ⟨wb.heap.size, 1, none⟩ (.int .u64 a1)).setCell ⟨wb.heap.size, 2, none⟩ (.int .u64 a2)).setCell ⟨wb.heap.size, 3, none⟩ (.int .u64 a3)) ∧ ((((wz.setCell ⟨wb.heap.size, 0, none⟩ (.int .u64 a0)).setCell ⟨wb.heap.size, 1, none⟩ (.int .u64 a1)).setCell ⟨wb.heap.size, 2, none⟩ (.int .u64 a2)).setCell ⟨wb.heap.size, 3, none⟩ (.int .u64 a3)).heap[w.heap.size]? = some (.cells #[.int .i64 s, .int .i64 q, .int .i64 n, .int .i64 k, .int .i64 a, .string t, .slice sa X sc] 45 (0, 0)) ∧ ((((wz.setCell ⟨wb.heap.size, 0, none⟩ (.int .u64 a0)).setCell ⟨wb.heap.size, 1, none⟩ (.int .u64 a1)).setCell ⟨wb.heap.size, 2, none⟩ (.int .u64 a2)).setCell ⟨wb.heap.size, 3, none⟩ (.int .u64 a3)).heap[B]? = some (.cells #[bv, .map (some M)] 80 (0, 0)) ∧ NMap ((((wz.setCell ⟨wb.heap.size, 0, none⟩ (.int .u64 a0)).setCell ⟨wb.heap.size, 1, none⟩ (.int .u64 a1)).setCell ⟨wb.heap.size, 2, none⟩ (.int .u64 a2)).setCell ⟨wb.heap.size, 3, none⟩ (.int .u64 a3)) M (l.map idC) from ⟨(((g1.setCell (p := ⟨wb.heap.size, 0, none⟩) hws _).setCell (p := ⟨wb.heap.size, 1, none⟩) hws _).setCell (p := ⟨wb.heap.size, 2, none⟩) hws _).setCell (p := ⟨wb.heap.size, 3, none⟩) hws _, (box_other (by omega) 3 _).trans ((box_other (by omega) 2 _).trans ((box_other (by omega) 1 _).trans ((box_other (by omega) 0 _).trans g2))), (box_other (by omega) 3 _).trans ((box_other (by omega) 2 _).trans ((box_other (by omega) 1 _).trans ((box_other (by omega) 0 _).trans g3))), (((g4.set (o := 0) (by omega)).set (o := 1) (by omega)).set (o := 2) (by omega)).set (o := 3) (by omega)⟩)
 go_simp
 refine hK.out _ _ (⟨HQ.out.1, HQ.out.2.1, HQ.out.2.2.1, HQ.out.2.2.2⟩) (fun hX => ?_)
 clear hK K hHeld
 have hHeld := hX
 clear hX
 refine tk (i := 12) (v := ?_) rfl (Or.inl ⟨rfl, ?hy18⟩) ?_
 case hy18 =>
  intro W hS
  go_simp
  try with_reducible rfl
 try simp only [Act.put, List.getElem_toArray, List.getElem_cons_succ, List.getElem_cons_zero, List.setIfInBounds_toArray, List.set_cons_zero, List.set_cons_succ]
 refine wpAnyH_done (by kernel_rfl) ?_ _
 have HB2 := Lib.hid hHeld
 have y0 := box_cell hHeld.2.1 0
 have y1 := box_cell hHeld.2.1 1
 have y2 := box_cell hHeld.2.1 2
 have y3 := box_cell hHeld.2.1 3
 have y4 := box_cell hHeld.2.1 4
 have y5 := box_cell hHeld.2.1 5
 have y6 := box_cell hHeld.2.1 6
 clear hHeld
 generalize ((((wz.setCell ⟨wb.heap.size, 0, none⟩ (.int .u64 a0)).setCell ⟨wb.heap.size, 1, none⟩ (.int .u64 a1)).setCell ⟨wb.heap.size, 2, none⟩ (.int .u64 a2)).setCell ⟨wb.heap.size, 3, none⟩ (.int .u64 a3)) = wc at HB2 y0 y1 y2 y3 y4 y5 y6 ⊢
 go_wp2_with fail
 refine (HCOF.out _ HB2.out.1).mono ?_
 rintro e w8 ⟨v8, rfl, ho8, hb8⟩
 have hx8 := row_up HB2.out.2.1 hb8
 have hB8 := row_up HB2.out.2.2.1 hb8
 have hM8 := HB2.out.2.2.2.below hb8
 have hkw := know_any B M bv (l.map idC) v8 (newR s q rs) w8 hB8 hM8 (CAt.of_own ho8 rfl) HOK.out.1 (by rw [List.length_map, newR_length]; have := HR.out.2.2.2; have := HD.out.2.2.2.2.2.2; omega)
 rw [HOK.out.2] at hkw
 have HKW := Lib.hid hkw
 obtain ⟨q8, q9, q10, rfl⟩ := slice_of ho8
 have H8 := Lib.hid (And.intro ho8 (And.intro hb8 (And.intro hx8 hM8)))
 clear ho8 hb8 hx8 hB8 hM8 hkw y0 y1 y2 y3 y4 y5 y6
 go_wp2_with fail
 refine HKW.out.mono ?_
 clear HKW
 rintro e w9 ⟨rfl, hM9, hK9, hB9⟩
 have hx9 := hK9.row H8.out.2.2.1 (fun e => absurd e (ne_map H8.out.2.2.2 H8.out.2.2.1))
 have hb9 : Below w.heap.size w w8 := HB2.out.1.trans (H8.out.2.1.mono HB2.out.1.size)
 have y4 : w9.cell? ⟨w.heap.size, 4, none⟩ = some (.int .i64 (pp : Int)) := by rw [box_cell hx9 4, ← HPP.out]; rfl
 have hKw : Keep (fun k => k = M) w.heap.size w w9 := (Keep.of_below hb9 (Nat.le_refl _)).trans (hK9.weak hb9.size fun _ _ h => h)
 have hfM := foot_map HD.out.1
 have hbl9 : DocN w9 0 B M bv bs l := ⟨hB9, ⟨own_same HD.out.1.blocks.row fun g e => hKw.block g (HD.out.1.low (.inl (.inr (.inl e)))).2 (fun z => hfM (z ▸ .inr (.inl e))), fun x hx => own_same (HD.out.1.blocks.own x hx) fun g e => hKw.block g (HD.out.1.low (.inl (.inr (.inr ⟨x, hx, e⟩)))).2 (fun z => hfM (z ▸ .inr (.inr ⟨x, hx, e⟩))), HD.out.1.blocks.apart⟩, HD.out.1.cat, HD.out.1.few, HD.out.1.full⟩
 have ho9 := own_keepS H8.out.1 hK9 fun g hg e => by
  obtain ⟨_, c, hc⟩ := own_typed H8.out.1 g hg
  exact absurd e (ne_map H8.out.2.2.2 hc)
 have hpt := dput_any 0 wc.heap.size B M pp bv (.slice q8 q9 q10) bs (newR s q rs) l w9 hbl9 (by rw [newR_length]; have := HR.out.2.2.2; have := HD.out.2.2.2.2.2.2; omega) HR.out.2.2.1 ho9 (fun x hx g e1 e2 => by
  have h1 := (HD.out.1.low (.inl (.inr (.inr ⟨x, hx, e1⟩)))).2
  have h2 := (own_typed ho9 g e2).1
  have := HB2.out.1.size
  omega) (Nat.zero_le _)
 have HPT := Lib.hid hpt
 have H9 := Lib.hid (And.intro hM9 (And.intro hKw hfM))
 clear hpt hM9 hK9 hB9 hx9 hb9 hKw hfM hbl9 ho9
 go_wp2_with fail
 refine HPT.out.mono ?_
 clear HPT
 rintro e w10 ⟨⟨_, rfl⟩, bv', bs', hP⟩
 have hM10 : NMap w10 M ((l.take pp ++ newR s q rs ++ l.drop pp).map idC) := (H9.out.1.kept (hP.keep.block M H9.out.1.lt H9.out.2.2)).congr fun x => ids_ins pp x
 have hml := (cMay_parts HR.out.1).2.2
 have hfw := cat_len hP.full
 rw [hP.cat] at hfw
 have hD10 : DocB w10 0 B M bv' bs' (l.take pp ++ newR s q rs ++ l.drop pp) := ⟨Nat.zero_le _, Nat.zero_le _, hP.box, hP.blocks, hM10, hP.cat, by omega, hP.full⟩
 have hfS : ∀ b, footB B bv bs b → S b := fun b q => (HD.out.2.2.2.2.2.1 b).2 (.inl q)
 have HE := Lib.hid (show DKept DocD (.pointer (some ⟨B, 0, none⟩)) (l.take pp ++ newR s q rs ++ l.drop pp) S w w10 (footD B M bv' bs') from ⟨DocD.new hD10 HR.out.1 HR.out.2.1, fun b hb => by
   have hsz := H9.out.2.1.size
   rcases hb with (rfl | e | ⟨x, hx, e⟩) | rfl
   ·exact .inl (hfS b (.inl rfl))
   ·exact (hP.newv b e).elim (fun q => .inl (hfS b q)) (fun q => .inr (Nat.le_trans hsz q))
   ·exact (hP.newx x hx b e).elim (fun q => .inl (hfS b q)) (fun q => .inr (Nat.le_trans hsz q))
   ·exact .inl ((HD.out.2.2.2.2.2.1 b).2 (.inr rfl)),
  (H9.out.2.1.weak (Nat.le_refl _) fun b _ e => (HD.out.2.2.2.2.2.1 b).2 (.inr e)).trans (hP.keep.weak H9.out.2.1.size fun b _ q => hfS b q)⟩)
 clear hM10 hml hfw hD10 hfS hP
 go_wp2
 go_ret
 exact ⟨_, HE.out, rfl⟩
theorem dD_do (s q n k a : Int) (t : ByteArray) (sp : Value) (xs : List Sp) (p : Value) (l : List PCell) (S : Nat → Prop) (w : World) (h : DocD w p l S) (hT : TabW w) (hs : SpAt w sp xs) (hn : NWf s q n k a) (ht : t.size ≤ 1000) (hx : xs.length ≤ 20000) (hwf : sWf xs) :
  Calls Tryz.prog 43 #[p, opV s q n k a t sp] w (DVal DocD p (cDo l ⟨s, q, n, k, a, t.data.toList, xs⟩).1 S (.int .i64 (cDo l ⟨s, q, n, k, a, t.data.toList, xs⟩).2) w) := by
 cases hb : oMay ⟨s, q, n, k, a, t.data.toList, xs⟩ l.length with
 | false => exact dDo_bad s q n k a t sp xs p l S w h hT hs hn ht hx hwf hb
 | true =>
  obtain ⟨_, _, _, hkk | hkk⟩ := (oMay_iff _ _).1 hb
  ·cases hh : hasN l s q with
   | true => exact dDo_twice s q n k a t sp xs p l S w h hT hs hn ht hx hwf hb hkk.1 hh
   | false => exact dDo_ins s q n k a t sp xs p l S w h hT hs hn ht hx hwf hb hkk.1 hh
  ·exact dDo_del s q n k a t sp xs p l S w h hT hs hn ht hx hwf hb hkk.1
end Go.Proofs.YthekkjfaaedamaaGreatDoor

namespace Go.Proofs.YthekkjfaaedamaaGreatDoor
open Go.RowKit

set_option maxRecDepth 100000 in
set_option maxHeartbeats 8000000 in
theorem c7_any (b v u : Value) (fr num : Int) (h : RHist) (w : World) (hR : HistR w b v u h) (hF : HFit w u h) (hfr : fr = h.fr) (hnum : num = h.num) :
  Calls Tryz.prog 39 #[hiV b v fr num u] w (MayPost (c7H h.hist) w) := by
 obtain ⟨bo, bc, hb0, -, -⟩ := hR.base.shape
 obtain ⟨vo, vc, hv0, -⟩ := id hR.vec
 obtain ⟨ao, cap, hu0⟩ := hR.list.shape
 obtain ⟨base, vec, fr', num', l⟩ := h
 dsimp only at hfr hnum
 subst hfr hnum
 obtain ⟨hRb, hRv, hRl⟩ := hR
 have HFIT := Lib.hid hF
 dsimp only at hRb hRv hRl hb0 hv0 hu0
 subst hb0 hv0 hu0
 obtain ⟨N, hN⟩ : ∃ N, l.length = N := ⟨_, rfl⟩
 obtain ⟨M, hM⟩ : ∃ M, base.length = M := ⟨_, rfl⟩
 obtain ⟨V, hV⟩ : ∃ V, vec.length = V := ⟨_, rfl⟩
 rw [hM] at hRb
 rw [hV] at hRv
 rw [hN] at hRl
 rw [hN, hM, hV]
 have HN := Lib.hid hN
 have HM := Lib.hid hM
 have HV := Lib.hid hV
 have HRB := Lib.hid hRb
 have HRV := Lib.hid hRv
 have HRL := Lib.hid hRl
 have HX := Lib.hid (heap_alloc_new w (.cells #[.slice bo M bc, .slice vo V vc, .int .i64 fr, .int .i64 num, .slice ao N cap] 33))
 have HB := Lib.hid ((Below.refl w.heap.size w).alloc (Nat.le_refl _) (.cells #[.slice bo M bc, .slice vo V vc, .int .i64 fr, .int .i64 num, .slice ao N cap] 33))
 have bM := hF.base
 have bV := hF.vec
 have bN := hF.list
 have hcap := hF.cap
 dsimp only at bM bV bN
 rw [hM] at bM
 rw [hV] at bV
 rw [hN] at bN
 rw [hN] at hcap
 have HCAP := Lib.hid hcap
 clear hN hM hV hRb hRv hRl hF hcap
 unfold hiV
 obtain ⟨⟨d0, d1, d2, d3, d4⟩, -⟩ := row5 HX.out
 have HOP := Lib.hid (fun W (z : Below w.heap.size w W) => (ops_any (.slice bo M bc) (.slice vo V vc) (.slice ao N cap) fr num ⟨base, vec, fr, num, l⟩ W ⟨HRB.out.below z, HRV.out.below z, HRL.out.below z⟩ (by have := HFIT.out.below z; rw [HN.out] at this; exact this) rfl rfl).mono (fun e W' h => (show ∃ zo zc, e = .returned (.slice zo N zc) ∧ W'.ownsRow W.heap.size 45 7 (.slice zo N zc) N (oCells (l.map REnt.op)) ∧ Below W.heap.size W W' from by
  obtain ⟨v, h1, h2, h3⟩ := h
  dsimp only at h2
  rw [List.length_map, HN.out] at h2
  obtain ⟨zo, zc, hz, _⟩ := (RowR.of_own h2).2
  subst hz
  exact ⟨zo, zc, h1, h2, h3⟩)))
 have HRN := Lib.hid (fun W v' (z : Below w.heap.size w W) (ho : ∃ K, W.ownsRow K 45 7 v' N (oCells (l.map REnt.op))) => pRun_any v' (l.map REnt.op) M W ⟨RowR.of_own (by rw [List.length_map, HN.out]; exact ho.choose_spec), fun x hx => by
  obtain ⟨y, hy, rfl⟩ := List.mem_map.1 hx
  exact (HRL.out.2 y hy).below z⟩ (fun x hx => by
  obtain ⟨y, hy, rfl⟩ := List.mem_map.1 hx
  exact (HFIT.out.op y hy).below z) (by rw [List.length_map, HN.out]; exact bN))
 unfold hiV at HOP
 have HE := Lib.hid (show c7H (RHist.hist ⟨base, vec, fr, num, l⟩) = (lRun ((l.map REnt.op).map ROp.op) (M : Int)).isSome from by
  unfold c7H PHist.ops RHist.hist
  dsimp only
  rw [HM.out, List.map_map, List.map_map]
  rfl)
 rw [HE.out]
 obtain ⟨r, hr⟩ : ∃ r, lRun ((l.map REnt.op).map ROp.op) (M : Int) = r := ⟨_, rfl⟩
 have hrn := HRN.out
 simp only [hr] at hrn
 replace HRN := Lib.hid hrn
 rw [hr]
 clear hr hrn
 go_enter Tryz.func39, Tryz.ntmps39
 go_wp2_with fail
 cases r with
 | none =>
  refine wp_region_held_drew (S := fun X => X.heap[w.heap.size]? = some (.cells #[.slice bo M bc, .slice vo V vc, .int .i64 fr, .int .i64 num, .slice ao N cap] 33 (0, 0)) ∧ Below w.heap.size w X) (by kernel_rfl) ?h0 (fun hHeld => ?_)
  case h0 => exact ⟨HX.out, HB.out.drew⟩
  clear d0 d1 d2 d3 d4
  refine tk (i := 0) (v := ?_) rfl (Or.inl ⟨rfl, ?hy35⟩) ?_
  case hy35 =>
   intro W hS
   obtain ⟨⟨e0, e1, e2, e3, e4⟩, -⟩ := row5 hS.1
   go_simp
   try with_reducible rfl
  try simp only [Act.put, List.getElem_toArray, List.getElem_cons_zero, List.setIfInBounds_toArray, List.set_cons_zero, List.set_cons_succ]
  refine tk (i := 2) (v := ?_) rfl (Or.inl ⟨rfl, ?hy36⟩) ?_
  case hy36 =>
   intro W hS
   go_simp
   try with_reducible rfl
  try simp only [Act.put, List.getElem_toArray, List.getElem_cons_succ, List.getElem_cons_zero, List.setIfInBounds_toArray, List.set_cons_zero, List.set_cons_succ]
  refine tk (i := 3) (v := ?_) rfl (Or.inl ⟨rfl, ?hy37⟩) ?_
  case hy37 =>
   intro W hS
   obtain ⟨⟨e0, e1, e2, e3, e4⟩, -⟩ := row5 hS.1
   go_simp
   try with_reducible rfl
  try simp only [Act.put, List.getElem_toArray, List.getElem_cons_succ, List.getElem_cons_zero, List.setIfInBounds_toArray, List.set_cons_zero, List.set_cons_succ]
  refine tk (i := 4) (v := ?_) rfl (Or.inl ⟨rfl, ?hy38⟩) ?_
  case hy38 =>
   intro W hS
   go_simp
   try with_reducible rfl
  try simp only [Act.put, List.getElem_toArray, List.getElem_cons_succ, List.getElem_cons_zero, List.setIfInBounds_toArray, List.set_cons_zero, List.set_cons_succ]
  refine wpAnyH_ready (rs := [1]) (by kernel_rfl) (by simp) (AllReadyH.cons rfl (fun K hK => ?_) AllReadyH.nil)
  go_simp
  go_wp2_with (go_at_call 64; refine (HOP.out _ hHeld.2).mono ?_; rintro e wq ⟨zo, zc, rfl, ho, hb⟩)
  refine hK.out _ _ (⟨row_keep hb hHeld.1, hHeld.2.trans (hb.mono hHeld.2.size)⟩) (fun hX => ?_)
  clear hK K hHeld
  have hHeld := hX
  clear hX
  refine wpAnyH_ready (rs := [5]) (by kernel_rfl) (by simp) (AllReadyH.cons rfl (fun K hK => ?_) AllReadyH.nil)
  go_simp
  go_wp2_with (go_at_call 63; refine (HRN.out _ _ hHeld.2 ⟨_, ho⟩).mono ?_; rintro e wq ⟨rfl, hb⟩; dsimp only)
  refine hK.out _ _ (⟨row_keep hb hHeld.1, hHeld.2.trans (hb.mono hHeld.2.size)⟩) (fun hX => ?_)
  clear hK K hHeld
  have hHeld := hX
  clear hX
  refine tk (i := 6) (v := ?_) rfl (Or.inl ⟨rfl, ?hy39⟩) ?_
  case hy39 =>
   intro W hS
   go_simp
   try with_reducible rfl
  try simp only [Act.put, List.getElem_toArray, List.getElem_cons_succ, List.getElem_cons_zero, List.setIfInBounds_toArray, List.set_cons_zero, List.set_cons_succ]
  refine tk (i := 7) (v := ?_) rfl (Or.inl ⟨rfl, ?hy40⟩) ?_
  case hy40 =>
   intro W hS
   go_simp
   try with_reducible rfl
  try simp only [Act.put, List.getElem_toArray, List.getElem_cons_succ, List.getElem_cons_zero, List.setIfInBounds_toArray, List.set_cons_zero, List.set_cons_succ]
  refine tk (i := 8) (v := ?_) rfl (Or.inl ⟨rfl, ?hy41⟩) ?_
  case hy41 =>
   intro W hS
   go_simp
   try with_reducible rfl
  try simp only [Act.put, List.getElem_toArray, List.getElem_cons_succ, List.getElem_cons_zero, List.setIfInBounds_toArray, List.set_cons_zero, List.set_cons_succ]
  refine tk (i := 9) (v := ?_) rfl (Or.inl ⟨rfl, ?hy42⟩) ?_
  case hy42 =>
   intro W hS
   go_simp
   try with_reducible rfl
  try simp only [Act.put, List.getElem_toArray, List.getElem_cons_succ, List.getElem_cons_zero, List.setIfInBounds_toArray, List.set_cons_zero, List.set_cons_succ]
  refine tk (i := 10) (v := ?_) rfl (Or.inl ⟨rfl, ?hy43⟩) ?_
  case hy43 =>
   intro W hS
   go_simp
   try with_reducible rfl
  try simp only [Act.put, List.getElem_toArray, List.getElem_cons_succ, List.getElem_cons_zero, List.setIfInBounds_toArray, List.set_cons_zero, List.set_cons_succ]
  refine wpAnyH_done (by kernel_rfl) ?_ _
  have HBE := Lib.hid hHeld.2
  go_wp2
  go_ret
  exact ⟨rfl, HBE.out⟩
 | some m =>
  refine wp_region_held_drew (S := fun X => X.heap[w.heap.size]? = some (.cells #[.slice bo M bc, .slice vo V vc, .int .i64 fr, .int .i64 num, .slice ao N cap] 33 (0, 0)) ∧ Below w.heap.size w X) (by kernel_rfl) ?h0 (fun hHeld => ?_)
  case h0 => exact ⟨HX.out, HB.out.drew⟩
  clear d0 d1 d2 d3 d4
  refine tk (i := 0) (v := ?_) rfl (Or.inl ⟨rfl, ?hy44⟩) ?_
  case hy44 =>
   intro W hS
   obtain ⟨⟨e0, e1, e2, e3, e4⟩, -⟩ := row5 hS.1
   go_simp
   try with_reducible rfl
  try simp only [Act.put, List.getElem_toArray, List.getElem_cons_zero, List.setIfInBounds_toArray, List.set_cons_zero, List.set_cons_succ]
  refine tk (i := 2) (v := ?_) rfl (Or.inl ⟨rfl, ?hy45⟩) ?_
  case hy45 =>
   intro W hS
   go_simp
   try with_reducible rfl
  try simp only [Act.put, List.getElem_toArray, List.getElem_cons_succ, List.getElem_cons_zero, List.setIfInBounds_toArray, List.set_cons_zero, List.set_cons_succ]
  refine tk (i := 3) (v := ?_) rfl (Or.inl ⟨rfl, ?hy46⟩) ?_
  case hy46 =>
   intro W hS
   obtain ⟨⟨e0, e1, e2, e3, e4⟩, -⟩ := row5 hS.1
   go_simp
   try with_reducible rfl
  try simp only [Act.put, List.getElem_toArray, List.getElem_cons_succ, List.getElem_cons_zero, List.setIfInBounds_toArray, List.set_cons_zero, List.set_cons_succ]
  refine tk (i := 4) (v := ?_) rfl (Or.inl ⟨rfl, ?hy47⟩) ?_
  case hy47 =>
   intro W hS
   go_simp
   try with_reducible rfl
  try simp only [Act.put, List.getElem_toArray, List.getElem_cons_succ, List.getElem_cons_zero, List.setIfInBounds_toArray, List.set_cons_zero, List.set_cons_succ]
  refine wpAnyH_ready (rs := [1]) (by kernel_rfl) (by simp) (AllReadyH.cons rfl (fun K hK => ?_) AllReadyH.nil)
  go_simp
  go_wp2_with (go_at_call 64; refine (HOP.out _ hHeld.2).mono ?_; rintro e wq ⟨zo, zc, rfl, ho, hb⟩)
  refine hK.out _ _ (⟨row_keep hb hHeld.1, hHeld.2.trans (hb.mono hHeld.2.size)⟩) (fun hX => ?_)
  clear hK K hHeld
  have hHeld := hX
  clear hX
  refine wpAnyH_ready (rs := [5]) (by kernel_rfl) (by simp) (AllReadyH.cons rfl (fun K hK => ?_) AllReadyH.nil)
  go_simp
  go_wp2_with (go_at_call 63; refine (HRN.out _ _ hHeld.2 ⟨_, ho⟩).mono ?_; rintro e wq ⟨rfl, hb⟩; dsimp only)
  refine hK.out _ _ (⟨row_keep hb hHeld.1, hHeld.2.trans (hb.mono hHeld.2.size)⟩) (fun hX => ?_)
  clear hK K hHeld
  have hHeld := hX
  clear hX
  refine tk (i := 6) (v := ?_) rfl (Or.inl ⟨rfl, ?hy48⟩) ?_
  case hy48 =>
   intro W hS
   go_simp
   try with_reducible rfl
  try simp only [Act.put, List.getElem_toArray, List.getElem_cons_succ, List.getElem_cons_zero, List.setIfInBounds_toArray, List.set_cons_zero, List.set_cons_succ]
  refine tk (i := 7) (v := ?_) rfl (Or.inl ⟨rfl, ?hy49⟩) ?_
  case hy49 =>
   intro W hS
   go_simp
   try with_reducible rfl
  try simp only [Act.put, List.getElem_toArray, List.getElem_cons_succ, List.getElem_cons_zero, List.setIfInBounds_toArray, List.set_cons_zero, List.set_cons_succ]
  refine tk (i := 8) (v := ?_) rfl (Or.inl ⟨rfl, ?hy50⟩) ?_
  case hy50 =>
   intro W hS
   go_simp
   try with_reducible rfl
  try simp only [Act.put, List.getElem_toArray, List.getElem_cons_succ, List.getElem_cons_zero, List.setIfInBounds_toArray, List.set_cons_zero, List.set_cons_succ]
  refine tk (i := 9) (v := ?_) rfl (Or.inl ⟨rfl, ?hy51⟩) ?_
  case hy51 =>
   intro W hS
   go_simp
   try with_reducible rfl
  try simp only [Act.put, List.getElem_toArray, List.getElem_cons_succ, List.getElem_cons_zero, List.setIfInBounds_toArray, List.set_cons_zero, List.set_cons_succ]
  refine tk (i := 10) (v := ?_) rfl (Or.inl ⟨rfl, ?hy52⟩) ?_
  case hy52 =>
   intro W hS
   go_simp
   try with_reducible rfl
  try simp only [Act.put, List.getElem_toArray, List.getElem_cons_succ, List.getElem_cons_zero, List.setIfInBounds_toArray, List.set_cons_zero, List.set_cons_succ]
  refine wpAnyH_done (by kernel_rfl) ?_ _
  have HBE := Lib.hid hHeld.2
  go_wp2
  go_ret
  exact ⟨rfl, HBE.out⟩
set_option maxRecDepth 100000 in
set_option maxHeartbeats 8000000 in
theorem c8_any (b v u : Value) (fr num : Int) (h : RHist) (w : World) (hR : HistR w b v u h) (hF : HFit w u h) (hfr : fr = h.fr) (hnum : num = h.num) :
  Calls Tryz.prog 40 #[hiV b v fr num u] w (MayPost (c8H h.hist) w) := by
 obtain ⟨bo, bc, hb0, -, -⟩ := hR.base.shape
 obtain ⟨vo, vc, hv0, -⟩ := id hR.vec
 obtain ⟨ao, cap, hu0⟩ := hR.list.shape
 obtain ⟨base, vec, fr', num', l⟩ := h
 dsimp only at hfr hnum
 subst hfr hnum
 obtain ⟨hRb, hRv, hRl⟩ := hR
 have HFIT := Lib.hid hF
 dsimp only at hRb hRv hRl hb0 hv0 hu0
 subst hb0 hv0 hu0
 obtain ⟨N, hN⟩ : ∃ N, l.length = N := ⟨_, rfl⟩
 obtain ⟨M, hM⟩ : ∃ M, base.length = M := ⟨_, rfl⟩
 obtain ⟨V, hV⟩ : ∃ V, vec.length = V := ⟨_, rfl⟩
 rw [hM] at hRb
 rw [hV] at hRv
 rw [hN] at hRl
 rw [hN, hM, hV]
 have HN := Lib.hid hN
 have HM := Lib.hid hM
 have HV := Lib.hid hV
 have HRB := Lib.hid hRb
 have HRV := Lib.hid hRv
 have HRL := Lib.hid hRl
 have HX := Lib.hid (heap_alloc_new w (.cells #[.slice bo M bc, .slice vo V vc, .int .i64 fr, .int .i64 num, .slice ao N cap] 33))
 have HB := Lib.hid ((Below.refl w.heap.size w).alloc (Nat.le_refl _) (.cells #[.slice bo M bc, .slice vo V vc, .int .i64 fr, .int .i64 num, .slice ao N cap] 33))
 have bM := hF.base
 have bV := hF.vec
 have bN := hF.list
 have hcap := hF.cap
 dsimp only at bM bV bN
 rw [hM] at bM
 rw [hV] at bV
 rw [hN] at bN
 rw [hN] at hcap
 have HCAP := Lib.hid hcap
 clear hN hM hV hRb hRv hRl hF hcap
 unfold hiV
 obtain ⟨⟨d0, d1, d2, d3, d4⟩, -⟩ := row5 HX.out
 show Calls _ _ _ w (MayPost (decide (cMay base = 0)) w)
 have hbl := HFIT.out.base
 have hcw := HFIT.out.cell
 dsimp only at hbl hcw
 by_cases h0 : cMay base = 0
 ·rw [decide_eq_true h0]
  have HNW := Lib.hid (fun W (z : Below w.heap.size w W) => dD_new_yes _ base W (HRB.out.below z) hcw hbl h0)
  clear h0 hbl hcw
  go_enter Tryz.func40, Tryz.ntmps40
  go_wp2_with fail
  refine (HNW.out _ HB.out).mono ?_
  rintro e w2 ⟨p, S, rfl, hD, -, hb2⟩
  obtain ⟨_, _, _, _, hp, -⟩ := hD
  subst hp
  have HB2 := Lib.hid (HB.out.trans (hb2.mono HB.out.size))
  clear hb2
  go_wp2
  go_ret
  exact ⟨rfl, HB2.out⟩
 ·rw [decide_eq_false h0]
  have HNW := Lib.hid (fun W (z : Below w.heap.size w W) => new_no _ base W (HRB.out.below z) hcw hbl h0)
  obtain ⟨c, hc⟩ : ∃ c, cMay base = c := ⟨_, rfl⟩
  rw [hc] at HNW h0
  have e3 : (c == 0) = false := beq_eq_false_iff_ne.2 h0
  clear h0 hbl hcw hc
  go_enter Tryz.func40, Tryz.ntmps40
  go_wp2_with fail
  refine (HNW.out _ HB.out).mono ?_
  rintro e w2 ⟨rfl, hb2⟩
  have HB2 := Lib.hid (HB.out.trans (hb2.mono HB.out.size))
  clear hb2
  go_wp2
  go_ret
  exact ⟨rfl, HB2.out⟩
end Go.Proofs.YthekkjfaaedamaaGreatDoor
