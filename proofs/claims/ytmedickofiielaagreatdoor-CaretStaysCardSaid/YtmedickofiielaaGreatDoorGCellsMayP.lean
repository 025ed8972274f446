/- Texts of this proof, joined. -/
import Derived.Test.YtmedickofiielaaGreatDoorGCellsNew
import Derived.Test.YtmedickofiielaaGreatDoorGRefSplit
import Derived.Test.YtmedickofiielaaGreatDoorGCellsReplace
import Derived.Test.YtmedickofiielaaGreatDoorGOpsMayQ
import Derived.Test.YtmedickofiielaaGreatDoorGCellsText
import Derived.Test.YtmedickofiielaaGreatDoorCellsFind
import Derived.Test.YtmedickofiielaaGreatDoorGSpEdges
import Derived.Test.YtmedickofiielaaGreatDoorGSpansPlain
import Derived.Test.YtmedickofiielaaGreatDoorCaretP0
import Derived.Shelf.Abstract
import Derived.Deep.RegionHeld
import Derived.Test.YtmedickofiielaaGreatDoorGCaretAlive
import Derived.Test.YtmedickofiielaaGreatDoorCaretP3
namespace Go.Proofs.YtmedickofiielaaGreatDoor
open Go.RowKit

theorem cMay_of {l : List PCell} (h1 : ∀ c ∈ l, cellOk c = true) (h2 : (l.map idC).Nodup) (h3 : l.length ≤ 20000) : cMay l = 0 := by
 unfold cMay
 rw [if_pos (List.all_eq_true.2 h1)]
 have : dupC l l.length = false := by
  unfold dupC
  rw [List.any_eq_false]
  intro i hi
  have hi := List.mem_range.1 hi
  rw [List.getElem?_eq_getElem hi]
  show ¬ dupTo l l[i] i = true
  unfold dupTo
  rw [List.any_eq_true]
  rintro ⟨c, hc, e⟩
  obtain ⟨j, hj, rfl⟩ := List.mem_iff_getElem.1 hc
  rw [List.length_take] at hj
  rw [List.getElem_take] at e
  have e := (sameId_iff _ _).1 e
  refine List.pairwise_iff_getElem.1 h2 j i (by rw [List.length_map]; omega) (by rw [List.length_map]; omega) (by omega) ?_
  rw [List.getElem_map, List.getElem_map]
  exact e
 rw [this, if_neg (by decide), if_neg (by omega)]
theorem cMay_parts {l : List PCell} (h : cMay l = 0) : (∀ c ∈ l, cellOk c = true) ∧ (l.map idC).Nodup ∧ l.length ≤ 20000 := by
 obtain ⟨h1, h2, h3⟩ := cMay_ok h
 exact ⟨List.all_eq_true.1 h1, nodup_ids h2, h3⟩
theorem mem_goneC {l : List PCell} {f : Nat → Bool} {c : PCell} (h : c ∈ goneC l f) : ∃ d ∈ l, d.site = c.site ∧ d.seq = c.seq ∧ d.off = c.off ∧ d.r = c.r := by
 obtain ⟨i, hi, rfl⟩ := List.mem_iff_getElem.1 h
 have e := List.getElem?_eq_getElem hi
 rw [goneC_at] at e
 cases hd : l[i]? with
 | none => rw [hd] at e; cases e
 | some d =>
  rw [hd] at e
  simp only [Option.map_some, Option.some.injEq] at e
  rw [← e]
  exact ⟨d, List.mem_of_getElem? hd, rfl, rfl, rfl, rfl⟩
theorem may_goneC {l : List PCell} (f : Nat → Bool) (h : cMay l = 0) : cMay (goneC l f) = 0 := by
 obtain ⟨h1, h2, h3⟩ := cMay_parts h
 refine cMay_of (fun c hc => ?_) (by rw [goneC_ids]; exact h2) (by rw [goneC_length]; exact h3)
 obtain ⟨d, hd, e1, e2, e3, e4⟩ := mem_goneC hc
 have := h1 d hd
 unfold cellOk at *
 rw [← e1, ← e2, ← e3, ← e4]
 exact this
theorem wf_goneC {l : List PCell} (f : Nat → Bool) (h : CWf l) : CWf (goneC l f) := fun c hc => by
 obtain ⟨d, hd, e1, e2, e3, e4⟩ := mem_goneC hc
 rw [← e1, ← e2, ← e3, ← e4]
 exact h d hd
theorem kept_sub (l : List PCell) (f : Nat → Bool) (k : Nat) : (keptC l f k).Sublist l := (keptC_sub l f k).trans (List.take_sublist _ _)
theorem may_kept {l : List PCell} (f : Nat → Bool) (k : Nat) (h : cMay l = 0) : cMay (keptC l f k) = 0 := by
 obtain ⟨h1, h2, h3⟩ := cMay_parts h
 have hs := kept_sub l f k
 exact cMay_of (fun c hc => h1 c (hs.subset hc)) (h2.sublist (hs.map idC)) (Nat.le_trans hs.length_le h3)
theorem wf_kept {l : List PCell} (f : Nat → Bool) (k : Nat) (h : CWf l) : CWf (keptC l f k) := fun c hc => h c ((kept_sub l f k).subset hc)
theorem newC_newR {o : POp} {rs : List Int} (h : runesL o.text = some rs) : newC o = newR o.site o.seq rs := by
 unfold newC newR
 rw [h]
 rfl
theorem mem_newR {s q : Int} {rs : List Int} {c : PCell} (h : c ∈ newR s q rs) : ∃ i : Nat, rs[i]? = some c.r ∧ c.site = s ∧ c.seq = q ∧ c.off = (i : Int) := by
 unfold newR at h
 obtain ⟨i, hi, e⟩ := List.mem_mapIdx.1 h
 rw [← e]
 exact ⟨i, List.getElem?_eq_getElem hi, rfl, rfl, rfl⟩
theorem newR_nodup (s q : Int) (rs : List Int) : ((newR s q rs).map idC).Nodup := by
 refine List.pairwise_iff_getElem.2 fun i j hi hj hij e => ?_
 rw [List.getElem_map, List.getElem_map] at e
 have h1 : ∀ (k : Nat) (hk : k < (newR s q rs).length), (newR s q rs)[k].off = (k : Int) := fun k hk => by
  have e : (newR s q rs)[k]? = (rs[k]?).map fun r => (⟨s, q, (k : Int), r, false⟩ : PCell) := by unfold newR; rw [List.getElem?_mapIdx]
  rw [List.getElem?_eq_getElem hk, List.getElem?_eq_getElem (by rw [newR_length] at hk; exact hk)] at e
  simp only [Option.map_some, Option.some.injEq] at e
  rw [e]
 unfold idC at e
 injection e with _ e
 injection e with _ e
 rw [List.length_map] at hi hj
 rw [h1 i hi, h1 j hj] at e
 omega
theorem hasN_no {l : List PCell} {s q : Int} (h : hasN l s q = false) : ∀ c ∈ l, ¬ (c.site = s ∧ c.seq = q) := fun c hc e => by
 unfold hasN at h
 rw [List.any_eq_false] at h
 exact h c hc (decide_eq_true e)
theorem may_insC {l : List PCell} {s q : Int} {rs : List Int} (p : Nat) (h : cMay l = 0) (hn : hasN l s q = false) (hs : nMay s q = true) (hr : ∀ r ∈ rs, Lib.validRune r = true) (h200 : rs.length ≤ 200) (hl : l.length + rs.length ≤ 20000) : cMay (l.take p ++ newR s q rs ++ l.drop p) = 0 := by
 obtain ⟨h1, h2, h3⟩ := cMay_parts h
 have hnew : ∀ c ∈ newR s q rs, cellOk c = true := fun c hc => by
  obtain ⟨i, hi, e1, e2, e3⟩ := mem_newR hc
  have hil := (List.getElem?_eq_some_iff.1 hi).1
  unfold cellOk
  rw [e1, e2, e3, hs, hr _ (List.mem_of_getElem? hi), decide_eq_true (by omega)]
  rfl
 refine cMay_of (fun c hc => ?_) ?_ ?_
 ·rcases List.mem_append.1 hc with hc | hc
  ·rcases List.mem_append.1 hc with hc | hc
   ·exact h1 c (List.mem_of_mem_take hc)
   ·exact hnew c hc
  ·exact h1 c (List.mem_of_mem_drop hc)
 ·rw [← List.take_append_drop p l, List.map_append] at h2
  obtain ⟨n1, n2, d⟩ := List.nodup_append.1 h2
  have hx : ∀ c ∈ l, ∀ y ∈ (newR s q rs).map idC, idC c ≠ y := fun c hc y hy e => by
   obtain ⟨d, hd, rfl⟩ := List.mem_map.1 hy
   obtain ⟨i, _, e1, e2, _⟩ := mem_newR hd
   unfold idC at e
   injection e with a e
   injection e with b _
   exact hasN_no hn c hc ⟨a.trans e1, b.trans e2⟩
  rw [List.map_append, List.map_append]
  refine List.nodup_append.2 ⟨List.nodup_append.2 ⟨n1, newR_nodup _ _ _, fun a ha b hb => ?_⟩, n2, fun a ha b hb => ?_⟩
  ·obtain ⟨c, hc, rfl⟩ := List.mem_map.1 ha
   exact hx c (List.mem_of_mem_take hc) b hb
  ·rcases List.mem_append.1 ha with ha | ha
   ·exact d a ha b hb
   ·obtain ⟨c, hc, rfl⟩ := List.mem_map.1 hb
    exact (hx c (List.mem_of_mem_drop hc) a ha).symm
 ·simp only [List.length_append, List.length_take, List.length_drop, newR_length]
  omega
theorem valid_wf {r : Int} (h : Lib.validRune r = true) : (Lit.int .i32 r).wf = true := by
 have : 0 ≤ r ∧ r ≤ 1114111 := by
  unfold Lib.validRune at h
  simp at h
  omega
 simp only [Lit.wf, Bool.and_eq_true, decide_eq_true_eq]
 have u1 : IntKind.i32.min = -2147483648 := rfl
 have u2 : IntKind.i32.max = 2147483647 := rfl
 rw [u1, u2]
 omega
theorem wf_ins {l : List PCell} {s q : Int} {rs : List Int} (p : Nat) (h : CWf l) (hs : (Lit.int .i64 s).wf = true) (hq : (Lit.int .i64 q).wf = true) (hr : ∀ r ∈ rs, Lib.validRune r = true) (h200 : rs.length ≤ 200) : CWf (l.take p ++ newR s q rs ++ l.drop p) := fun c hc => by
 rcases List.mem_append.1 hc with hc | hc
 ·rcases List.mem_append.1 hc with hc | hc
  ·exact h c (List.mem_of_mem_take hc)
  ·obtain ⟨i, hi, e1, e2, e3⟩ := mem_newR hc
   have hil := (List.getElem?_eq_some_iff.1 hi).1
   refine ⟨by rw [e1]; exact hs, by rw [e2]; exact hq, ?_, valid_wf (hr _ (List.mem_of_getElem? hi))⟩
   rw [e3]
   simp only [Lit.wf, Bool.and_eq_true, decide_eq_true_eq]
   have u1 : IntKind.i64.min = -9223372036854775808 := rfl
   have u2 : IntKind.i64.max = 9223372036854775807 := rfl
   rw [u1, u2]
   omega
 ·exact h c (List.mem_of_mem_drop hc)
theorem ids_ins {l : List PCell} {new : List PCell} (p : Nat) (x : Id3) : x ∈ l.map idC ++ new.map idC ↔ x ∈ (l.take p ++ new ++ l.drop p).map idC := by
 rw [List.map_append, List.map_append]
 conv => lhs; rw [← List.take_append_drop p l, List.map_append]
 simp only [List.mem_append]
 exact ⟨fun h => h.elim (fun h => h.elim (fun h => .inl (.inl h)) .inr) (fun h => .inl (.inr h)), fun h => h.elim (fun h => h.elim (fun h => .inl (.inl h)) .inr) (fun h => .inl (.inr h))⟩
theorem ends_in {xs : List Sp} {n : Nat} (hg : sGood xs) (h : outB (sMark xs) n 20000 = false) : ∀ s ∈ xs, s.1 + s.2 ≤ (n : Int) := fun s hs => by
 have h1 := hg.1 s hs
 unfold outB at h
 rw [List.any_eq_false] at h
 have := h (s.1 + s.2 - 1).toNat (List.mem_range.2 (by omega))
 rw [mark_in hs (s.1 + s.2 - 1).toNat (by omega) (by omega), Bool.and_true, decide_eq_true_iff] at this
 omega
theorem cntTo_step (f : Nat → Bool) (n : Nat) : ∀ d, cntTo f (n + d) = cntTo f n ↔ ∀ i, n ≤ i → i < n + d → f i = false
 | 0 => ⟨fun _ i h1 h2 => by omega, fun _ => rfl⟩
 | d + 1 => by
  have h := cntTo_step f n d
  have hm : cntTo f n ≤ cntTo f (n + d) := by
   clear h
   induction d with
   | zero => exact Nat.le_refl _
   | succ k ih =>
    refine Nat.le_trans ih ?_
    show _ ≤ cntTo f (n + k) + if f (n + k) then 1 else 0
    omega
  have e : cntTo f (n + (d + 1)) = cntTo f (n + d) + if f (n + d) then 1 else 0 := rfl
  rw [e]
  constructor
  ·intro q i h1 h2
   have hf : f (n + d) = false := by
    cases hf : f (n + d) with
    | false => rfl
    | true => rw [hf, if_pos rfl] at q; omega
   rw [hf] at q
   simp only [Bool.false_eq_true, if_false, Nat.add_zero] at q
   by_cases hi : i = n + d
   ·subst hi; exact hf
   ·exact h.1 q i h1 (by omega)
  ·intro q
   rw [q (n + d) (by omega) (by omega), if_neg (by decide)]
   exact h.2 fun i h1 h2 => q i h1 (by omega)
theorem cnt_out {f : Nat → Bool} {n : Nat} (hn : n ≤ 20000) : decide ((cntTo f (min 20000 n) : Int) < (cntTo f 20000 : Nat)) = outB f n 20000 := by
 rw [Nat.min_eq_right hn]
 have h := cntTo_step f n (20000 - n)
 rw [show n + (20000 - n) = 20000 by omega] at h
 have hm : cntTo f n ≤ cntTo f 20000 := by
  have := cntTo_mono f n (20000 - n)
  rwa [show n + (20000 - n) = 20000 by omega] at this
 cases ho : outB f n 20000 with
 | true =>
  refine decide_eq_true ?_
  have : ¬ cntTo f 20000 = cntTo f n := fun e => by
   unfold outB at ho
   rw [List.any_eq_true] at ho
   obtain ⟨i, hi, h2⟩ := ho
   rw [Bool.and_eq_true, decide_eq_true_iff] at h2
   have := h.1 e i h2.1 (List.mem_range.1 hi)
   rw [this] at h2
   exact absurd h2.2 (by decide)
  omega
 | false =>
  refine decide_eq_false ?_
  have : cntTo f 20000 = cntTo f n := h.2 fun i h1 h2 => by
   unfold outB at ho
   rw [List.any_eq_false] at ho
   have := ho i (List.mem_range.2 h2)
   rw [decide_eq_true h1, Bool.true_and, Bool.not_eq_true] at this
   exact this
  omega
end Go.Proofs.YtmedickofiielaaGreatDoor

namespace Go.Proofs.YtmedickofiielaaGreatDoor
open Go.RowKit Go.Shelf
attribute [local go_sem] Oper.semAt_some

def footD (B M : Nat) (bv : Value) (bs : List PB) (k : Nat) : Prop := footB B bv bs k ∨ k = M
def DocD (w : World) (p : Value) (l : List PCell) (S : Nat → Prop) : Prop := ∃ B M bv bs, p = .pointer (some ⟨B, 0, none⟩) ∧ DocB w 0 B M bv bs l ∧ cMay l = 0 ∧ CWf l ∧ ∀ b, S b ↔ footD B M bv bs b
theorem own_same {W W' : World} {n₀ : Nat} {e : TypeId} {sz : Nat} {v : Value} {n : Nat} {xs : List Value} (h : W.ownsRow n₀ e sz v n xs) (hb : ∀ g, v.ownBlock = some g → W'.heap[g]? = W.heap[g]?) : W'.ownsRow n₀ e sz v n xs := by
 obtain ⟨h1, h2⟩ := h
 refine ⟨h1, ?_⟩
 rcases h2 with h2 | ⟨g, cap, cur, hv, hg, hh, r⟩
 ·exact .inl h2
 ·exact .inr ⟨g, cap, cur, hv, hg, by rw [hb g (by rw [hv]; rfl)]; exact hh, r⟩
theorem DocB.zero {W : World} {n₀ B M : Nat} {bv : Value} {bs : List PB} {l : List PCell} (h : DocB W n₀ B M bv bs l) : DocB W 0 B M bv bs l := ⟨Nat.zero_le _, Nat.zero_le _, h.box, h.blocks.lower (Nat.zero_le _), h.names, h.cat, h.few, h.full⟩
theorem DocB.keep {W W' : World} {n₀ B M : Nat} {bv : Value} {bs : List PB} {l : List PCell} (h : DocB W n₀ B M bv bs l) (hb : ∀ b, footD B M bv bs b → W'.heap[b]? = W.heap[b]?) : DocB W' n₀ B M bv bs l :=
 ⟨h.lowB, h.lowM, (hb B (.inl (.inl rfl))).trans h.box, ⟨own_same h.blocks.row fun g e => hb g (.inl (.inr (.inl e))), fun x hx => own_same (h.blocks.own x hx) fun g e => hb g (.inl (.inr (.inr ⟨x, hx, e⟩))), h.blocks.apart⟩, h.names.kept (hb M (.inr rfl)), h.cat, h.few, h.full⟩
theorem DocB.low {W : World} {n₀ B M : Nat} {bv : Value} {bs : List PB} {l : List PCell} (h : DocB W n₀ B M bv bs l) {b : Nat} (hb : footD B M bv bs b) : n₀ ≤ b ∧ b < W.heap.size := by
 rcases hb with (rfl | e | ⟨x, hx, e⟩) | rfl
 ·exact ⟨h.lowB, box_lt h.box⟩
 ·obtain ⟨q, c, hc⟩ := own_typed h.blocks.row b e
  exact ⟨q, box_lt hc⟩
 ·obtain ⟨q, c, hc⟩ := own_typed (h.blocks.own x hx) b e
  exact ⟨q, box_lt hc⟩
 ·exact ⟨h.lowM, h.names.lt⟩
theorem DocD.keep {w w' : World} {p : Value} {l : List PCell} {S : Nat → Prop} (h : DocD w p l S) (hb : ∀ b, S b → w'.heap[b]? = w.heap[b]?) : DocD w' p l S := by
 obtain ⟨B, M, bv, bs, rfl, hD, hm, hw, hS⟩ := h
 exact ⟨B, M, bv, bs, rfl, hD.keep fun b q => hb b ((hS b).2 q), hm, hw, hS⟩
theorem DocD.low {w : World} {p : Value} {l : List PCell} {S : Nat → Prop} (h : DocD w p l S) : ∀ b, S b → b < w.heap.size := fun b hb => by
 obtain ⟨B, M, bv, bs, rfl, hD, hm, hw, hS⟩ := h
 exact (hD.low ((hS b).1 hb)).2
theorem DocD.len {w : World} {p : Value} {l : List PCell} {S : Nat → Prop} (h : DocD w p l S) : l.length ≤ 20000 := by
 obtain ⟨B, M, bv, bs, rfl, hD, hm, hw, hS⟩ := h
 exact (cMay_parts hm).2.2
theorem DocD.kept {w w' : World} {p : Value} {l : List PCell} {S : Nat → Prop} (h : DocD w p l S) (hb : Below w.heap.size w w') : DKept DocD p l S w w' S :=
 ⟨h.keep fun b q => hb.block b (h.low b q), fun _ q => .inl q, Keep.of_below hb (Nat.le_refl _)⟩
theorem DocD.val {w : World} {p : Value} {l : List PCell} {S : Nat → Prop} {x : Value} {F : Nat} {args : Array Value} (h : DocD w p l S) (hc : Calls Tryz.prog F args w fun e w' => e = .returned x ∧ Below w.heap.size w w') : Calls Tryz.prog F args w (DVal DocD p l S x w) :=
 hc.mono fun _ _ ⟨h1, h2⟩ => ⟨S, h.kept h2, h1⟩
theorem DocD.parts {w : World} {p : Value} {l : List PCell} {S : Nat → Prop} (h : DocD w p l S) : ∃ B M bv bs, p = .pointer (some ⟨B, 0, none⟩) ∧ DocB w 0 B M bv bs l ∧ DocR w B bv (.map (some M)) bs ∧ catB bs = l ∧ cMay l = 0 ∧ CWf l ∧ l.length ≤ 20000 ∧ ∀ b, S b ↔ footD B M bv bs b := by
 have hl := h.len
 obtain ⟨B, M, bv, bs, rfl, hD, hm, hw, hS⟩ := h
 exact ⟨B, M, bv, bs, rfl, hD, hD.docR (by omega), hD.cat, hm, hw, hl, hS⟩
theorem liveN_cLive (l : List PCell) : liveN l = cLive l := by
 unfold cLive cSeen liveN
 rw [List.take_of_length_le (Nat.le_refl _)]
theorem dD_size (p : Value) (l : List PCell) (S : Nat → Prop) (w : World) (h : DocD w p l S) : Calls Tryz.prog 15 #[p] w (DVal DocD p l S (.int .i64 l.length) w) := by
 obtain ⟨B, M, bv, bs, rfl, hD, hR, hc, hm, hw, hl, hS⟩ := h.parts
 have h1 := dsize_any (some ⟨B, 0, none⟩) (liveN (catB bs)) (goneN (catB bs)) w (by have := liveN_gone (catB bs); rw [hc] at this ⊢; omega) (whole_any B bv _ bs w hR)
 rw [liveN_gone, hc] at h1
 exact h.val h1
theorem dD_live (p : Value) (l : List PCell) (S : Nat → Prop) (w : World) (h : DocD w p l S) : Calls Tryz.prog 10 #[p] w (DVal DocD p l S (.int .i64 (cLive l)) w) := by
 obtain ⟨B, M, bv, bs, rfl, hD, hR, hc, hm, hw, hl, hS⟩ := h.parts
 have h1 := dlive_any (some ⟨B, 0, none⟩) _ _ w (whole_any B bv _ bs w hR)
 rw [hc, liveN_cLive] at h1
 exact h.val h1
theorem may_text {l : List PCell} (h : cMay l = 0) : allValid (textR l) = true := by
 refine allValid_iff.2 fun r hr => ?_
 unfold textR at hr
 obtain ⟨c, hc, rfl⟩ := List.mem_map.1 hr
 have := (cMay_parts h).1 c (List.mem_filter.1 hc).1
 unfold cellOk at this
 simp only [Bool.and_eq_true] at this
 exact this.2
theorem dD_text (p : Value) (l : List PCell) (S : Nat → Prop) (w : World) (h : DocD w p l S) : Calls Tryz.prog 21 #[p] w (DVal DocD p l S (.string (cText l)) w) := by
 obtain ⟨B, M, bv, bs, rfl, hD, hR, hc, hm, hw, hl, hS⟩ := h.parts
 have h1 := dtext_any B bv _ bs w hR (by rw [hc]; exact may_text hm)
 rw [hc] at h1
 exact h.val h1
theorem dD_cells (p : Value) (l : List PCell) (S : Nat → Prop) (w : World) (h : DocD w p l S) : Calls Tryz.prog 64 #[p] w fun e w' => ∃ v S', e = .returned v ∧ DKept DocD p l S w w' S' ∧ CAt w' v l ∧ ∀ g, v.ownBlock = some g → w.heap.size ≤ g ∧ ¬ S' g := by
 obtain ⟨B, M, bv, bs, rfl, hD, hR, hc, hm, hw, hl, hS⟩ := h.parts
 have h1 := dcells_any B bv _ bs w hR
 rw [hc] at h1
 refine h1.mono ?_
 rintro e w' ⟨v, rfl, ho, hb⟩
 refine ⟨v, S, rfl, h.kept hb, CAt.of_own ho rfl, fun g hg => ?_⟩
 have := (own_typed ho g hg).1
 exact ⟨this, fun q => by have := h.low g q; omega⟩
theorem dD_gone (p : Value) (l : List PCell) (S : Nat → Prop) (w : World) (h : DocD w p l S) : Calls Tryz.prog 12 #[p] w fun e w' => ∃ v S', e = .returned v ∧ DKept DocD p l S w w' S' ∧ SpAt w' v (cGone l) := by
 obtain ⟨B, M, bv, bs, rfl, hD, hR, hc, hm, hw, hl, hS⟩ := h.parts
 have h1 := dgone_any B bv _ bs w hR (by rw [hc]; exact hl)
 rw [hc] at h1
 refine h1.mono ?_
 rintro e w' ⟨v, rfl, ho, hb⟩
 exact ⟨v, S, rfl, h.kept hb, SpAt.of_own ho⟩
theorem dD_gap (i : Int) (p : Value) (l : List PCell) (S : Nat → Prop) (w : World) (h : DocD w p l S) :
  Calls Tryz.prog 27 #[p, .int .i64 i] w (DVal DocD p l S (if cGap l i < 0 then .tuple #[.int .i64 0, .int .i64 3] else .tuple #[.int .i64 (cGap l i), .int .i64 0]) w) := by
 obtain ⟨B, M, bv, bs, rfl, hD, hR, hc, hm, hw, hl, hS⟩ := h.parts
 rcases gap_cases l i with ⟨q, hi, _, hg, _⟩ | ⟨hi, hg⟩
 ·obtain ⟨n, rfl⟩ : ∃ n : Nat, i = n := ⟨i.toNat, by omega⟩
  have h1 := dgap_yes B bv _ bs n w hR (by rw [hc, liveN_cLive]; omega)
  rw [hc] at h1
  rw [if_neg (by omega)]
  exact h.val h1
 ·have h1 := dgap_no B bv _ bs i w hR (by rw [hc, liveN_cLive]; omega)
  rw [if_pos (by omega)]
  exact h.val h1
theorem dD_find (s q off : Int) (p : Value) (l : List PCell) (S : Nat → Prop) (w : World) (h : DocD w p l S) (hs : (Lit.int .i64 s).wf = true) (hq : (Lit.int .i64 q).wf = true) :
  Calls Tryz.prog 20 #[p, nmV s q, .int .i64 off] w (DVal DocD p l S (.tuple #[.int .i64 (cFind l s q off).1, .bool (cFind l s q off).2]) w) := by
 obtain ⟨B, M, bv, bs, rfl, hD, hR, hc, hm, hw, hl, hS⟩ := h.parts
 have h1 := dfind_any B M bv bs (l.map idC) s q off w hR hD.names (fun c hcm => by
  rw [hc] at hcm
  have := (cok_names (List.all_eq_true.2 (cMay_parts hm).1) hw c hcm).2
  exact ⟨List.mem_map.2 ⟨c, hcm, rfl⟩, this.1, this.2⟩) hs hq
 rw [hc] at h1
 exact h.val h1
theorem DocD.new {w' : World} {n₀ B M : Nat} {bv : Value} {bs : List PB} {l : List PCell} (h : DocB w' n₀ B M bv bs l) (hm : cMay l = 0) (hw : CWf l) : DocD w' (.pointer (some ⟨B, 0, none⟩)) l (footD B M bv bs) := ⟨B, M, bv, bs, rfl, h.zero, hm, hw, fun _ => Iff.rfl⟩
theorem dD_new_yes (v : Value) (l : List PCell) (w : World) (h : CAt w v l) (hw : CWf l) (hl : l.length ≤ 20000) (hm : cMay l = 0) :
  Calls Tryz.prog 16 #[v] w fun e w' => ∃ p S, e = .returned (.tuple #[p, .int .i64 0]) ∧ DocD w' p l S ∧ (∀ b, S b → w.heap.size ≤ b) ∧ Below w.heap.size w w' := by
 refine (new_yes v l w h hw hl hm).mono ?_
 rintro e w' ⟨B, M, bv, bs, rfl, hD, hb⟩
 exact ⟨_, _, rfl, DocD.new hD hm hw, fun b q => (hD.low q).1, hb⟩
theorem less_live {l : List PCell} {xs : List Sp} (ho : outB (sMark xs) l.length 20000 = false) (hl : l.length ≤ 20000) : (twoL 2 xs (cGone l) = []) ↔ liveB l (sMark xs) l.length = false := by
 have hg : ∀ j, j < 20000 → sMark (cGone l) j = goneB l j := fun j hj => by unfold cGone; rw [sMade_mark, decide_eq_true hj, Bool.true_and]
 have ht : ∀ j, j < 20000 → sMark (twoL 2 xs (cGone l)) j = (sMark xs j && !goneB l j) := fun j hj => by
  unfold twoL
  rw [sMade_mark, decide_eq_true hj, Bool.true_and, hg j hj]
  rfl
 constructor
 ·intro e
  unfold liveB
  rw [List.any_eq_false]
  intro i hi
  have hi := List.mem_range.1 hi
  have := ht i (by omega)
  rw [e] at this
  rw [← this]
  simp [sMark]
 ·intro e
  cases ht' : twoL 2 xs (cGone l) with
  | nil => rfl
  | cons s r =>
   exfalso
   have hgood : sGood (twoL 2 xs (cGone l)) := sMade_good _ _ (Nat.le_refl _)
   rw [ht'] at hgood ht
   have hs := hgood.1 s (List.mem_cons_self ..)
   have h1 := ht s.1.toNat (by omega)
   rw [mark_in (List.mem_cons_self ..) s.1.toNat (by omega) (by omega)] at h1
   have h2 : sMark xs s.1.toNat = true := by
    cases hq : sMark xs s.1.toNat with
    | true => rfl
    | false => rw [hq] at h1; cases h1
   have h3 : s.1.toNat < l.length := by
    rcases Nat.lt_or_ge s.1.toNat l.length with q | q
    ·exact q
    ·unfold outB at ho
     rw [List.any_eq_false] at ho
     have := ho s.1.toNat (List.mem_range.2 (by omega))
     rw [decide_eq_true q, h2] at this
     exact absurd rfl this
   unfold liveB at e
   rw [List.any_eq_false] at e
   exact e s.1.toNat (List.mem_range.2 h3) h1.symm
end Go.Proofs.YtmedickofiielaaGreatDoor

namespace Go.Proofs.YtmedickofiielaaGreatDoor
open Go.RowKit Go.Shelf
attribute [local go_sem] Oper.semAt_some

set_option maxRecDepth 100000 in
set_option maxHeartbeats 8000000 in
theorem dD_drop (sp : Value) (xs : List Sp) (p : Value) (l : List PCell) (S : Nat → Prop) (w : World) (h : DocD w p l S) (hs : SpAt w sp xs) (hwf : sWf xs) (hx : xs.length ≤ 20000) :
  Calls Tryz.prog 14 #[p, sp] w (DVal DocD p (cDrop l xs).1 S (.int .i64 (cDrop l xs).2) w) := by
 obtain ⟨B, M, bv, bs, rfl, hD, hR, hc, hm, hw, hl, hS⟩ := h.parts
 have hMay := spMay_any sp xs w hs (by omega) hwf
 obtain ⟨X, hX⟩ : ∃ X, xs.length = X := ⟨_, rfl⟩
 obtain ⟨sa, sc, hsv⟩ : ∃ sa sc, sp = .slice sa X sc := by obtain ⟨a, c, h, _⟩ := hs; exact ⟨a, c, by rw [← hX]; exact h⟩
 cases hmy : sMay xs with
 | false =>
  have hcd : cDrop l xs = (l, 1) := by unfold cDrop; rw [hmy]; rfl
  rw [hcd]
  rw [hmy] at hMay
  have HK := Lib.hid (fun W (hb : Below w.heap.size w W) => h.kept hb)
  have HM := Lib.hid hMay
  subst hsv
  clear hMay hmy hcd h hs hwf hx hD hR hc hm hw hl hS hX
  go_enter Tryz.func14, Tryz.ntmps14
  go_wp2_with (go_at_call 33; refine HM.out.mono ?_; rintro e w1 ⟨rfl, hb1⟩)
  go_ret
  exact ⟨S, HK.out _ hb1, rfl⟩
 | true =>
  have hg := (sMay_good xs).1 hmy
  have hSz := fun W (hb : Below w.heap.size w W) => (dsize_any (some ⟨B, 0, none⟩) (liveN (catB bs)) (goneN (catB bs)) W (by have := liveN_gone (catB bs); rw [hc] at this ⊢; omega) (whole_any B bv _ bs W (hR.below hb)))
  rw [liveN_gone, hc] at hSz
  have hAh := fun W (hb : Below w.heap.size w W) => spAhead_any sp xs (l.length : Int) W (hs.below hb) (by omega) hwf
  have hTo := fun W (hb : Below w.heap.size w W) => spTotal_any sp xs W (hs.below hb) (by omega) hwf
  rw [hmy, if_pos rfl, Int.toNat_natCast] at hAh
  rw [hmy, if_pos rfl] at hTo
  rw [hmy] at hMay
  have hco := cnt_out (f := sMark xs) hl
  obtain ⟨A, hA⟩ : ∃ z, cntTo (sMark xs) (min 20000 l.length) = z := ⟨_, rfl⟩
  obtain ⟨T, hT⟩ : ∃ z, cntTo (sMark xs) 20000 = z := ⟨_, rfl⟩
  rw [hA] at hAh hco
  rw [hT] at hTo hco
  obtain ⟨L, hL⟩ : ∃ z, l.length = z := ⟨_, rfl⟩
  have HL := Lib.hid hL
  rw [hL] at hSz hAh hl hco
  have HM := Lib.hid hMay
  have HSz := Lib.hid hSz
  have HAh := Lib.hid hAh
  have HTo := Lib.hid hTo
  have HK := Lib.hid (fun W (hb : Below w.heap.size w W) => h.kept hb)
  have HX := Lib.hid (And.intro hX (And.intro hs (And.intro hwf (And.intro hg (And.intro hmy hx)))))
  have HD := Lib.hid (And.intro hD (And.intro hR (And.intro hc (And.intro hm (And.intro hw (And.intro hS hl))))))
  have HSV := Lib.hid hsv
  clear hMay hSz hAh hTo hA hT hL hX hs hwf hg hmy hD hR hc hm hw hS h hl hx
  rw [hsv] at HM HAh HTo ⊢
  clear hsv
  cases ho : outB (sMark xs) L 20000 with
  | true =>
   have hlt : A < T := by
    rw [ho] at hco
    have := of_decide_eq_true hco
    omega
   have hcd : cDrop l xs = (l, 1) := by unfold cDrop; rw [HX.out.2.2.2.2.1, HL.out, ho]; rfl
   rw [hcd]
   clear hco hcd ho
   go_enter Tryz.func14, Tryz.ntmps14
   go_wp2_with (first
    | (go_at_call 33; refine HM.out.mono ?_; rintro e w1 ⟨rfl, hb1⟩)
    | (go_at_call 15; refine (HSz.out _ hb1).mono ?_; rintro e w2 ⟨rfl, hb2⟩; have hb2 := hb1.trans (hb2.mono hb1.size))
    | (go_at_call 36; refine (HAh.out _ hb2).mono ?_; rintro e w3 ⟨rfl, hb3⟩; have hb3 := hb2.trans (hb3.mono hb2.size))
    | (go_at_call 37; refine (HTo.out _ hb3).mono ?_; rintro e w4 ⟨rfl, hb4⟩; have hb4 := hb3.trans (hb4.mono hb3.size)))
   go_ret
   exact ⟨S, HK.out _ hb4, rfl⟩
  | false =>
   have hlt : ¬ A < T := by
    rw [ho] at hco
    have := of_decide_eq_false hco
    omega
   have hends := ends_in HX.out.2.2.2.1 ho
   have hll := less_live (l := l) (xs := xs) (by rw [HL.out]; exact ho) (by rw [HL.out]; exact HD.out.2.2.2.2.2.2)
   have hcgw : sMay (cGone l) = true := (sMay_good _).2 (sMade_good _ _ (Nat.le_refl _))
   have hLe := fun W v (hb : Below w.heap.size w W) (hv : SpAt W v (cGone l)) => spLess_own sp v xs (cGone l) W (HX.out.2.1.below hb) hv (by have := HX.out.2.2.2.2.2; omega) (by have := cGone_length l; omega) HX.out.2.2.1 (cGone_wf l)
   rw [HX.out.2.2.2.2.1, hcgw] at hLe
   have hGo := fun W (hb : Below w.heap.size w W) => dgone_any B bv _ bs W (HD.out.2.1.below hb) (by rw [HD.out.2.2.1, HL.out]; exact HD.out.2.2.2.2.2.2)
   rw [HD.out.2.2.1] at hGo
   have hDr := fun W (hb : Below w.heap.size w W) => ddrop_any 0 B M bv sp bs l xs W (HD.out.1.keep fun b q => hb.block b (HD.out.1.low q).2) (by rw [HL.out]; exact HD.out.2.2.2.2.2.2) HD.out.2.2.2.2.1 HD.out.2.2.2.1 (HX.out.2.1.below hb) (by have := HX.out.2.2.2.2.2; omega) HX.out.2.2.2.1 (by rw [HL.out]; exact hends)
   rw [HSV.out] at hLe hDr
   have hcd2 : cDrop l xs = if liveB l (sMark xs) l.length then (l, 13) else (keptC l (sMark xs) l.length, 0) := by unfold cDrop; rw [HX.out.2.2.2.2.1, HL.out, ho]; rfl
   have HLe := Lib.hid hLe
   have HGo := Lib.hid hGo
   have HDr := Lib.hid hDr
   have HLL := Lib.hid hll
   have HCD := Lib.hid hcd2
   clear hco ho hends hll hcgw hLe hGo hDr hcd2
   go_enter Tryz.func14, Tryz.ntmps14
   go_wp2_with (first
    | (go_at_call 33; refine HM.out.mono ?_; rintro e w1 ⟨rfl, hb1⟩)
    | (go_at_call 15; refine (HSz.out _ hb1).mono ?_; rintro e w2 ⟨rfl, hb2⟩; have hb2 := hb1.trans (hb2.mono hb1.size))
    | (go_at_call 36; refine (HAh.out _ hb2).mono ?_; rintro e w3 ⟨rfl, hb3⟩; have hb3 := hb2.trans (hb3.mono hb2.size))
    | (go_at_call 37; refine (HTo.out _ hb3).mono ?_; rintro e w4 ⟨rfl, hb4⟩; have hb4 := hb3.trans (hb4.mono hb3.size))
    | (go_at_call 12; refine (HGo.out _ hb4).mono ?_; rintro e w5 ⟨v5, rfl, ho5, hb5⟩; (have hb5 := hb4.trans (hb5.mono hb4.size)); (have hs5 := SpAt.of_own ho5); (obtain ⟨a5, n5, c5, rfl⟩ := slice_of ho5))
    | (go_at_call 38; refine (HLe.out _ _ hb5 hs5).mono ?_; rintro e w6 ⟨v6, rfl, ho6, hb6⟩; (have hb6 := hb5.trans (hb6.mono hb5.size)); (obtain ⟨a6, n6, c6, rfl⟩ := slice_of ho6); (have hs6 := Lib.hid (SpAt.of_own ho6)); clear ho6 ho5 hs5))
   rotate_left
   ·rename_i hz
    have hn : (twoL 2 xs (cGone l)).length = n6 := by
     obtain ⟨ao, cap, e, _⟩ := hs6.out
     injection e with _ e
     exact e.symm
    have hlv : liveB l (sMark xs) l.length = false := HLL.out.1 (List.eq_nil_of_length_eq_zero (by omega))
    have hcd := HCD.out
    rw [hlv] at hcd
    simp only [Bool.false_eq_true, if_false] at hcd
    have HC2 := Lib.hid hcd
    clear hcd hn
    refine (HDr.out _ hb6).mono ?_
    rintro e w7 ⟨⟨_, rfl⟩, bv7, bs7, q1, q2, q3, q4, q5, q6, q7⟩
    have hM0 := HD.out.1.names.lt
    have hB0 := box_lt HD.out.1.box
    have hD7 : DocB w7 0 B M bv7 bs7 (keptC l (sMark xs) l.length) := ⟨Nat.zero_le _, Nat.zero_le _, q1, q2.lower (Nat.zero_le _), q6, q3, q4, q5⟩
    have hK7 : Keep S w.heap.size w w7 := (Keep.of_below hb6 (Nat.le_refl _)).trans (q7.weak hb6.size fun k _ e => by
     rcases e with rfl | rfl
     ·exact (HD.out.2.2.2.2.2.1 k).2 (.inl (.inl rfl))
     ·exact (HD.out.2.2.2.2.2.1 k).2 (.inr rfl))
    have hf7 : ∀ b, footD B M bv7 bs7 b → S b ∨ w.heap.size ≤ b := fun b hb => by
     rcases hb with (rfl | e | ⟨x, hx, e⟩) | rfl
     ·exact .inl ((HD.out.2.2.2.2.2.1 b).2 (.inl (.inl rfl)))
     ·exact .inr (Nat.le_trans hb6.size (own_typed q2.row b e).1)
     ·exact .inr (Nat.le_trans hb6.size (own_typed (q2.own x hx) b e).1)
     ·exact .inl ((HD.out.2.2.2.2.2.1 b).2 (.inr rfl))
    have HE := Lib.hid (show DKept DocD (.pointer (some ⟨B, 0, none⟩)) (keptC l (sMark xs) l.length) S w w7 (footD B M bv7 bs7) from ⟨DocD.new hD7 (may_kept _ _ HD.out.2.2.2.1) (wf_kept _ _ HD.out.2.2.2.2.1), hf7, hK7⟩)
    clear q1 q2 q3 q4 q5 q6 q7 hM0 hB0 hD7 hK7 hf7
    go_wp2
    go_ret
    exact ⟨_, by rw [HC2.out]; exact HE.out, by rw [HC2.out]; rfl⟩
   ·rename_i hz
    have hn : (twoL 2 xs (cGone l)).length = n6 := by
     obtain ⟨ao, cap, e, _⟩ := hs6.out
     injection e with _ e
     exact e.symm
    have hlv : liveB l (sMark xs) l.length = true := by
     cases hq : liveB l (sMark xs) l.length with
     | true => rfl
     | false =>
      rw [HLL.out.2 hq] at hn
      simp at hn
      omega
    have hcd := HCD.out
    rw [hlv, if_pos rfl] at hcd
    rw [hcd]
    clear hcd hn
    go_ret
    exact ⟨S, HK.out _ hb6, rfl⟩
end Go.Proofs.YtmedickofiielaaGreatDoor

namespace Go.Proofs.YtmedickofiielaaGreatDoor
open Go.RowKit Go.Shelf
attribute [local go_sem] Oper.semAt_some

theorem hasNm_hasN (l : List PCell) (s q : Int) : hasNm (l.map idC) (s, q) = hasN l s q := by
 unfold hasNm hasN
 rw [List.any_map]
 congr 1
 funext c
 show decide ((c.site, c.seq) = (s, q)) = decide (c.site = s ∧ c.seq = q)
 congr 1
 rw [Prod.mk.injEq]
theorem foot_map {w : World} {n₀ B M : Nat} {bv : Value} {bs : List PB} {l : List PCell} (h : DocB w n₀ B M bv bs l) : ¬ footB B bv bs M := fun q => by
 rcases q with e | e | ⟨x, hx, e⟩
 ·have := h.box
  rw [← e] at this
  exact absurd rfl (ne_map h.names this)
 ·obtain ⟨_, c, hc⟩ := own_typed h.blocks.row M e
  exact absurd rfl (ne_map h.names hc)
 ·obtain ⟨_, c, hc⟩ := own_typed (h.blocks.own x hx) M e
  exact absurd rfl (ne_map h.names hc)
theorem DocB.removed {w w' : World} {B M : Nat} {bv : Value} {bs : List PB} {l : List PCell} {f : Nat → Bool} (h : DocB w 0 B M bv bs l) (hr : RemI w 0 B bv (.map (some M)) bs l f w') (hm : cMay l = 0) (hw : CWf l) {S : Nat → Prop} (hS : ∀ b, S b ↔ footD B M bv bs b) :
  DKept DocD (.pointer (some ⟨B, 0, none⟩)) (goneC l f) S w w' (fun b => footB B bv bs b ∨ b = M) := by
 obtain ⟨bs', h1, h2, h3, h4, h5⟩ := hr
 have hM : w'.heap[M]? = w.heap[M]? := h5.block M h.names.lt (foot_map h)
 have hD : DocB w' 0 B M bv bs' (goneC l f) := ⟨Nat.zero_le _, Nat.zero_le _, h4, h2, by rw [goneC_ids]; exact h.names.kept hM, h3, by rw [vL_len h1]; exact h.few, fun x hx e => by
  obtain ⟨i, hi, rfl⟩ := List.mem_iff_getElem.1 hx
  obtain ⟨y, hy, _, e2⟩ := vL_at h1.symm (List.getElem?_eq_getElem hi)
  rw [e] at e2
  exact h.full y (List.mem_of_getElem? hy) (List.eq_nil_of_length_eq_zero e2)⟩
 refine ⟨⟨B, M, bv, bs', rfl, hD, may_goneC f hm, wf_goneC f hw, fun b => ?_⟩, fun b hb => .inl ((hS b).2 hb), h5.weak (Nat.le_refl _) fun b _ q => (hS b).2 (.inl q)⟩
 exact ⟨fun q => q.elim (fun q => .inl (footB_vL h1.symm q)) .inr, fun q => q.elim (fun q => .inl (footB_vL h1 q)) .inr⟩
set_option maxRecDepth 100000 in
set_option maxHeartbeats 8000000 in
theorem dDo_bad (s q n k a : Int) (t : ByteArray) (sp : Value) (xs : List Sp) (p : Value) (l : List PCell) (S : Nat → Prop) (w : World) (h : DocD w p l S) (hT : TabW w) (hs : SpAt w sp xs) (hn : NWf s q n k a) (ht : t.size ≤ 1000) (hx : xs.length ≤ 20000) (hwf : sWf xs) (hb : oMay ⟨s, q, n, k, a, t.data.toList, xs⟩ l.length = false) :
  Calls Tryz.prog 18 #[p, opV s q n k a t sp] w (DVal DocD p (cDo l ⟨s, q, n, k, a, t.data.toList, xs⟩).1 S (.int .i64 (cDo l ⟨s, q, n, k, a, t.data.toList, xs⟩).2) w) := by
 obtain ⟨B, M, bv, bs, rfl, hD, hR, hc, hm, hw, hl, hS⟩ := h.parts
 obtain ⟨X, hX⟩ : ∃ X, xs.length = X := ⟨_, rfl⟩
 obtain ⟨sa, sc, hsv⟩ : ∃ sa sc, sp = .slice sa X sc := by obtain ⟨z, c, h, _⟩ := hs; exact ⟨z, c, by rw [← hX]; exact h⟩
 have hSz := fun W (hb : Below w.heap.size w W) => (dsize_any (some ⟨B, 0, none⟩) (liveN (catB bs)) (goneN (catB bs)) W (by have := liveN_gone (catB bs); rw [hc] at this ⊢; omega) (whole_any B bv _ bs W (hR.below hb)))
 rw [liveN_gone, hc] at hSz
 have hMy := fun W (hb : Below w.heap.size w W) => pMayOp_any s q n k a (l.length : Int) t sp xs W (LenAt.tabs (TabW.below hT hb) (by unfold maxLen; omega)) (hs.below hb) (by omega) hwf
 have HK := Lib.hid (fun W (hb : Below w.heap.size w W) => h.kept hb)
 subst hsv
 unfold opV at hMy ⊢
 have HB0 := Lib.hid (And.intro ((Below.refl w.heap.size w).alloc (Nat.le_refl _) (.cells #[.int .i64 s, .int .i64 q, .int .i64 n, .int .i64 k, .int .i64 a, .string t, .slice sa X sc] 50)) (heap_new w (.cells #[.int .i64 s, .int .i64 q, .int .i64 n, .int .i64 k, .int .i64 a, .string t, .slice sa X sc] 50)))
 have HX := Lib.hid (And.intro hX (And.intro hs (And.intro hwf hx)))
 have HD := Lib.hid (And.intro hD (And.intro hR (And.intro hc (And.intro hm (And.intro hw (And.intro hS hl))))))
 have HW := Lib.hid (And.intro hT (And.intro hn ht))
 obtain ⟨L, hL⟩ : ∃ z, l.length = z := ⟨_, rfl⟩
 have HL := Lib.hid hL
 rw [hL] at hSz hMy
 have HSz := Lib.hid hSz
 have hcd : cDo l ⟨s, q, n, k, a, t.data.toList, xs⟩ = (l, 1) := by unfold cDo; rw [hb]; rfl
 rw [hL] at hb
 rw [hb] at hMy
 have HMy := Lib.hid hMy
 rw [hcd]
 clear hSz hMy hcd hb hD hR hc hm hw hS hl hs hwf hx hT hn ht hX h hL
 go_enter Tryz.func18, Tryz.ntmps18
 go_wp2
 generalize w.alloc (.cells #[.int .i64 s, .int .i64 q, .int .i64 n, .int .i64 k, .int .i64 a, .string t, .slice sa X sc] 50) = w0 at HB0 ⊢
 refine wp_region_held_drew (S := fun Z => Below w.heap.size w Z ∧ Z.heap[w.heap.size]? = some (.cells #[.int .i64 s, .int .i64 q, .int .i64 n, .int .i64 k, .int .i64 a, .string t, .slice sa X sc] 50 (0, 0))) (by kernel_rfl) ⟨HB0.out.1.drew, HB0.out.2⟩ (fun hHeld => ?_)
 refine tk0 (i := 0) rfl ?_
 try simp only [td]
 refine tk0 (i := 1) rfl ?_
 try simp only [td]
 refine tk0 (i := 2) rfl ?_
 try simp only [td]
 refine tk (i := 3) (v := ?_) rfl (Or.inl ⟨rfl, ?hy4⟩) ?_
 case hy4 =>
  intro W hS
  have u0 := box_cell hS.2 0
  have u1 := box_cell hS.2 1
  have u2 := box_cell hS.2 2
  have u3 := box_cell hS.2 3
  have u4 := box_cell hS.2 4
  have u5 := box_cell hS.2 5
  have u6 := box_cell hS.2 6
  go_simp
  try with_reducible rfl
 try simp only [td]
 refine tk0 (i := 4) rfl ?_
 try simp only [td]
 refine rd 5 rfl fun K hK => ?_
 go_simp
 go_wp2_with (go_at_call 15; refine (HSz.out _ hHeld.1).mono ?_; rintro e wa ⟨rfl, hb⟩)
 refine hK.out _ _ (⟨hHeld.1.trans (hb.mono hHeld.1.size), row_up hHeld.2 hb⟩) (fun hX => ?_)
 clear hK K hHeld
 have hHeld := hX
 clear hX
 refine rd 6 rfl fun K hK => ?_
 go_simp
 go_wp2_with (go_at_call 45; refine (HMy.out _ hHeld.1).mono ?_; rintro e wb ⟨rfl, hb⟩)
 refine hK.out _ _ (⟨hHeld.1.trans (hb.mono hHeld.1.size), row_up hHeld.2 hb⟩) (fun hX => ?_)
 clear hK K hHeld
 have hHeld := hX
 clear hX
 refine tk0 (i := 7) rfl ?_
 try simp only [td]
 refine tk0 (i := 8) rfl ?_
 try simp only [td]
 refine wpAnyH_done (by kernel_rfl) ?_ _
 have HB1 := Lib.hid hHeld
 have y2 := box_cell hHeld.2 2
 have y3 := box_cell hHeld.2 3
 have y4 := box_cell hHeld.2 4
 have y5 := box_cell hHeld.2 5
 have y6 := box_cell hHeld.2 6
 clear hHeld
 go_wp2
 go_ret
 exact ⟨S, HK.out _ HB1.out.1, rfl⟩
set_option maxRecDepth 100000 in
set_option maxHeartbeats 8000000 in
theorem dDo_del (s q n k a : Int) (t : ByteArray) (sp : Value) (xs : List Sp) (p : Value) (l : List PCell) (S : Nat → Prop) (w : World) (h : DocD w p l S) (hT : TabW w) (hs : SpAt w sp xs) (hn : NWf s q n k a) (ht : t.size ≤ 1000) (hx : xs.length ≤ 20000) (hwf : sWf xs) (hb : oMay ⟨s, q, n, k, a, t.data.toList, xs⟩ l.length = true) (hk : k = 2) :
  Calls Tryz.prog 18 #[p, opV s q n k a t sp] w (DVal DocD p (cDo l ⟨s, q, n, k, a, t.data.toList, xs⟩).1 S (.int .i64 (cDo l ⟨s, q, n, k, a, t.data.toList, xs⟩).2) w) := by
 obtain ⟨B, M, bv, bs, rfl, hD, hR, hc, hm, hw, hl, hS⟩ := h.parts
 obtain ⟨X, hX⟩ : ∃ X, xs.length = X := ⟨_, rfl⟩
 obtain ⟨sa, sc, hsv⟩ : ∃ sa sc, sp = .slice sa X sc := by obtain ⟨z, c, h, _⟩ := hs; exact ⟨z, c, by rw [← hX]; exact h⟩
 have hSz := fun W (hb : Below w.heap.size w W) => (dsize_any (some ⟨B, 0, none⟩) (liveN (catB bs)) (goneN (catB bs)) W (by have := liveN_gone (catB bs); rw [hc] at this ⊢; omega) (whole_any B bv _ bs W (hR.below hb)))
 rw [liveN_gone, hc] at hSz
 have hMy := fun W (hb : Below w.heap.size w W) => pMayOp_any s q n k a (l.length : Int) t sp xs W (LenAt.tabs (TabW.below hT hb) (by unfold maxLen; omega)) (hs.below hb) (by omega) hwf
 have HK := Lib.hid (fun W (hb : Below w.heap.size w W) => h.kept hb)
 subst hsv
 unfold opV at hMy ⊢
 have HB0 := Lib.hid (And.intro ((Below.refl w.heap.size w).alloc (Nat.le_refl _) (.cells #[.int .i64 s, .int .i64 q, .int .i64 n, .int .i64 k, .int .i64 a, .string t, .slice sa X sc] 50)) (heap_new w (.cells #[.int .i64 s, .int .i64 q, .int .i64 n, .int .i64 k, .int .i64 a, .string t, .slice sa X sc] 50)))
 have HX := Lib.hid (And.intro hX (And.intro hs (And.intro hwf hx)))
 have HD := Lib.hid (And.intro hD (And.intro hR (And.intro hc (And.intro hm (And.intro hw (And.intro hS hl))))))
 have HW := Lib.hid (And.intro hT (And.intro hn ht))
 obtain ⟨L, hL⟩ : ∃ z, l.length = z := ⟨_, rfl⟩
 have HL := Lib.hid hL
 rw [hL] at hSz hMy
 have HSz := Lib.hid hSz
 have hcd : cDo l ⟨s, q, n, k, a, t.data.toList, xs⟩ = (goneC l (sMark xs), 0) := by unfold cDo runC; rw [hb, if_pos rfl, if_neg (fun e => by have := e.1; simp only at this; omega), if_neg (show ¬ k = 1 by omega)]
 have hom := (oMay_iff _ _).1 hb
 obtain ⟨-, -, -, hkk | ⟨-, -, -, hgd, hin⟩⟩ := hom
 ·exact absurd hkk.1 (by show ¬ k = 1; omega)
 rw [hL] at hb
 rw [hb] at hMy
 have HMy := Lib.hid hMy
 have HG := Lib.hid (And.intro hgd hin)
 rw [hcd]
 have HKD := Lib.hid hk
 clear hk hSz hMy hcd hb hD hR hc hm hw hS hl hs hwf hx hT hn ht hX h hgd hin hL
 go_enter Tryz.func18, Tryz.ntmps18
 go_wp2
 generalize w.alloc (.cells #[.int .i64 s, .int .i64 q, .int .i64 n, .int .i64 k, .int .i64 a, .string t, .slice sa X sc] 50) = w0 at HB0 ⊢
 refine wp_region_held_drew (S := fun Z => Below w.heap.size w Z ∧ Z.heap[w.heap.size]? = some (.cells #[.int .i64 s, .int .i64 q, .int .i64 n, .int .i64 k, .int .i64 a, .string t, .slice sa X sc] 50 (0, 0))) (by kernel_rfl) ⟨HB0.out.1.drew, HB0.out.2⟩ (fun hHeld => ?_)
 refine tk0 (i := 0) rfl ?_
 try simp only [td]
 refine tk0 (i := 1) rfl ?_
 try simp only [td]
 refine tk0 (i := 2) rfl ?_
 try simp only [td]
 refine tk (i := 3) (v := ?_) rfl (Or.inl ⟨rfl, ?hy4⟩) ?_
 case hy4 =>
  intro W hS
  have u0 := box_cell hS.2 0
  have u1 := box_cell hS.2 1
  have u2 := box_cell hS.2 2
  have u3 := box_cell hS.2 3
  have u4 := box_cell hS.2 4
  have u5 := box_cell hS.2 5
  have u6 := box_cell hS.2 6
  go_simp
  try with_reducible rfl
 try simp only [td]
 refine tk0 (i := 4) rfl ?_
 try simp only [td]
 refine rd 5 rfl fun K hK => ?_
 go_simp
 go_wp2_with (go_at_call 15; refine (HSz.out _ hHeld.1).mono ?_; rintro e wa ⟨rfl, hb⟩)
 refine hK.out _ _ (⟨hHeld.1.trans (hb.mono hHeld.1.size), row_up hHeld.2 hb⟩) (fun hX => ?_)
 clear hK K hHeld
 have hHeld := hX
 clear hX
 refine rd 6 rfl fun K hK => ?_
 go_simp
 go_wp2_with (go_at_call 45; refine (HMy.out _ hHeld.1).mono ?_; rintro e wb ⟨rfl, hb⟩)
 refine hK.out _ _ (⟨hHeld.1.trans (hb.mono hHeld.1.size), row_up hHeld.2 hb⟩) (fun hX => ?_)
 clear hK K hHeld
 have hHeld := hX
 clear hX
 refine tk0 (i := 7) rfl ?_
 try simp only [td]
 refine tk0 (i := 8) rfl ?_
 try simp only [td]
 refine wpAnyH_done (by kernel_rfl) ?_ _
 have HB1 := Lib.hid hHeld
 have y2 := box_cell hHeld.2 2
 have y3 := box_cell hHeld.2 3
 have y4 := box_cell hHeld.2 4
 have y5 := box_cell hHeld.2 5
 have y6 := box_cell hHeld.2 6
 clear hHeld
 have hk := HKD.out
 subst hk
 go_wp2_with fail
 have hDB := HD.out.1.keep fun b z => HB1.out.1.block b (HD.out.1.low z).2
 have hrm := dremove_any 0 B M bv (.slice sa X sc) bs l xs _ hDB (by have := HD.out.2.2.2.2.2.2; omega) (HX.out.2.1.below HB1.out.1) (by have := HX.out.2.2.2; omega) HG.out.1 HG.out.2
 have HRM := Lib.hid hrm
 have HDB := Lib.hid hDB
 clear hrm hDB
 refine HRM.out.mono ?_
 rintro e w7 ⟨⟨_, rfl⟩, hr⟩
 have HE := Lib.hid (DKept.after HB1.out.1 (HDB.out.removed hr HD.out.2.2.2.1 HD.out.2.2.2.2.1 HD.out.2.2.2.2.2.1))
 clear hr
 go_wp2
 go_ret
 exact ⟨_, HE.out, rfl⟩
set_option maxRecDepth 100000 in
set_option maxHeartbeats 8000000 in
theorem dDo_twice (s q n k a : Int) (t : ByteArray) (sp : Value) (xs : List Sp) (p : Value) (l : List PCell) (S : Nat → Prop) (w : World) (h : DocD w p l S) (hT : TabW w) (hs : SpAt w sp xs) (hn : NWf s q n k a) (ht : t.size ≤ 1000) (hx : xs.length ≤ 20000) (hwf : sWf xs) (hb : oMay ⟨s, q, n, k, a, t.data.toList, xs⟩ l.length = true) (hk : k = 1) (hh : hasN l s q = true) :
  Calls Tryz.prog 18 #[p, opV s q n k a t sp] w (DVal DocD p (cDo l ⟨s, q, n, k, a, t.data.toList, xs⟩).1 S (.int .i64 (cDo l ⟨s, q, n, k, a, t.data.toList, xs⟩).2) w) := by
 obtain ⟨B, M, bv, bs, rfl, hD, hR, hc, hm, hw, hl, hS⟩ := h.parts
 obtain ⟨X, hX⟩ : ∃ X, xs.length = X := ⟨_, rfl⟩
 obtain ⟨sa, sc, hsv⟩ : ∃ sa sc, sp = .slice sa X sc := by obtain ⟨z, c, h, _⟩ := hs; exact ⟨z, c, by rw [← hX]; exact h⟩
 have hSz := fun W (hb : Below w.heap.size w W) => (dsize_any (some ⟨B, 0, none⟩) (liveN (catB bs)) (goneN (catB bs)) W (by have := liveN_gone (catB bs); rw [hc] at this ⊢; omega) (whole_any B bv _ bs W (hR.below hb)))
 rw [liveN_gone, hc] at hSz
 have hMy := fun W (hb : Below w.heap.size w W) => pMayOp_any s q n k a (l.length : Int) t sp xs W (LenAt.tabs (TabW.below hT hb) (by unfold maxLen; omega)) (hs.below hb) (by omega) hwf
 have HK := Lib.hid (fun W (hb : Below w.heap.size w W) => h.kept hb)
 subst hsv
 unfold opV at hMy ⊢
 have HB0 := Lib.hid (And.intro ((Below.refl w.heap.size w).alloc (Nat.le_refl _) (.cells #[.int .i64 s, .int .i64 q, .int .i64 n, .int .i64 k, .int .i64 a, .string t, .slice sa X sc] 50)) (heap_new w (.cells #[.int .i64 s, .int .i64 q, .int .i64 n, .int .i64 k, .int .i64 a, .string t, .slice sa X sc] 50)))
 have HX := Lib.hid (And.intro hX (And.intro hs (And.intro hwf hx)))
 have HD := Lib.hid (And.intro hD (And.intro hR (And.intro hc (And.intro hm (And.intro hw (And.intro hS hl))))))
 have HW := Lib.hid (And.intro hT (And.intro hn ht))
 obtain ⟨L, hL⟩ : ∃ z, l.length = z := ⟨_, rfl⟩
 have HL := Lib.hid hL
 rw [hL] at hSz hMy
 have HSz := Lib.hid hSz
 have hcd : cDo l ⟨s, q, n, k, a, t.data.toList, xs⟩ = (l, 15) := by unfold cDo; rw [hb, if_pos rfl, if_pos ⟨hk, hh⟩]
 rw [hL] at hb
 rw [hb] at hMy
 have HMy := Lib.hid hMy
 rw [hcd]
 rw [← hasNm_hasN] at hh
 have HHN := Lib.hid hh
 have HNW := Lib.hid (show nWf (s, q) from ⟨hn.s, hn.q⟩)
 obtain ⟨a0, a1, a2, a3, hoff⟩ : ∃ a0 a1 a2 a3 : Int, offV (offI (l.map idC) (s, q)) = .agg #[.int .u64 a0, .int .u64 a1, .int .u64 a2, .int .u64 a3] := ⟨_, _, _, _, rfl⟩
 have HOFF := Lib.hid hoff
 have HKD := Lib.hid hk
 clear hk hSz hMy hcd hb hD hR hc hm hw hS hl hs hwf hx hT hn ht hX h hL hh hoff
 go_enter Tryz.func18, Tryz.ntmps18
 go_wp2
 generalize w.alloc (.cells #[.int .i64 s, .int .i64 q, .int .i64 n, .int .i64 k, .int .i64 a, .string t, .slice sa X sc] 50) = w0 at HB0 ⊢
 refine wp_region_held_drew (S := fun Z => Below w.heap.size w Z ∧ Z.heap[w.heap.size]? = some (.cells #[.int .i64 s, .int .i64 q, .int .i64 n, .int .i64 k, .int .i64 a, .string t, .slice sa X sc] 50 (0, 0))) (by kernel_rfl) ⟨HB0.out.1.drew, HB0.out.2⟩ (fun hHeld => ?_)
 refine tk0 (i := 0) rfl ?_
 try simp only [td]
 refine tk0 (i := 1) rfl ?_
 try simp only [td]
 refine tk0 (i := 2) rfl ?_
 try simp only [td]
 refine tk (i := 3) (v := ?_) rfl (Or.inl ⟨rfl, ?hy4⟩) ?_
 case hy4 =>
  intro W hS
  have u0 := box_cell hS.2 0
  have u1 := box_cell hS.2 1
  have u2 := box_cell hS.2 2
  have u3 := box_cell hS.2 3
  have u4 := box_cell hS.2 4
  have u5 := box_cell hS.2 5
  have u6 := box_cell hS.2 6
  go_simp
  try with_reducible rfl
 try simp only [td]
 refine tk0 (i := 4) rfl ?_
 try simp only [td]
 refine rd 5 rfl fun K hK => ?_
 go_simp
 go_wp2_with (go_at_call 15; refine (HSz.out _ hHeld.1).mono ?_; rintro e wa ⟨rfl, hb⟩)
 refine hK.out _ _ (⟨hHeld.1.trans (hb.mono hHeld.1.size), row_up hHeld.2 hb⟩) (fun hX => ?_)
 clear hK K hHeld
 have hHeld := hX
 clear hX
 refine rd 6 rfl fun K hK => ?_
 go_simp
 go_wp2_with (go_at_call 45; refine (HMy.out _ hHeld.1).mono ?_; rintro e wb ⟨rfl, hb⟩)
 refine hK.out _ _ (⟨hHeld.1.trans (hb.mono hHeld.1.size), row_up hHeld.2 hb⟩) (fun hX => ?_)
 clear hK K hHeld
 have hHeld := hX
 clear hX
 refine tk0 (i := 7) rfl ?_
 try simp only [td]
 refine tk0 (i := 8) rfl ?_
 try simp only [td]
 refine wpAnyH_done (by kernel_rfl) ?_ _
 have HB1 := Lib.hid hHeld
 have y2 := box_cell hHeld.2 2
 have y3 := box_cell hHeld.2 3
 have y4 := box_cell hHeld.2 4
 have y5 := box_cell hHeld.2 5
 have y6 := box_cell hHeld.2 6
 clear hHeld
 have hk2 : ¬ k = 2 := by have := HKD.out; omega
 go_wp2_with fail
 clear hk2 y2 y3 y4 y5 y6
 refine wp_region_held_drew (S := fun Z => Below w.heap.size w Z ∧ Z.heap[w.heap.size]? = some (.cells #[.int .i64 s, .int .i64 q, .int .i64 n, .int .i64 k, .int .i64 a, .string t, .slice sa X sc] 50 (0, 0)) ∧ Z.heap[B]? = some (.cells #[bv, .map (some M)] 90 (0, 0)) ∧ NMap Z M (l.map idC)) (by kernel_rfl) ⟨HB1.out.1.drew, HB1.out.2, row_up HD.out.1.box HB1.out.1.drew, (HD.out.1.names.below HB1.out.1).drew⟩ (fun hHeld => ?_)
 refine tk0 (i := 0) rfl ?_
 try simp only [td]
 refine tk0 (i := 1) rfl ?_
 try simp only [td]
 refine tk0 (i := 2) rfl ?_
 try simp only [td]
 refine tk (i := 3) (v := ?_) rfl (Or.inl ⟨rfl, ?hy11⟩) ?_
 case hy11 =>
  intro W hS
  obtain ⟨hS1, hS2, hS3, hS4⟩ := hS
  have u0 := box_cell hS2 0
  have u1 := box_cell hS2 1
  have u2 := box_cell hS3 1
  go_simp
  try with_reducible rfl
 try simp only [td]
 refine tk0 (i := 4) rfl ?_
 try simp only [td]
 refine tk (i := 5) (v := ?_) rfl (Or.inl ⟨rfl, ?hy13⟩) ?_
 case hy13 =>
  intro W hS
  obtain ⟨hS1, hS2, hS3, hS4⟩ := hS
  have u0 := box_cell hS2 0
  have u1 := box_cell hS2 1
  have u2 := box_cell hS3 1
  go_simp
  try with_reducible rfl
 try simp only [td]
 refine tk (i := 6) (v := ?_) rfl (Or.inl ⟨rfl, ?hy14⟩) ?_
 case hy14 =>
  intro W hS
  have hlk := hS.2.2.2.look_ok (p := (s, q)) HNW.out
  rw [HOFF.out, HHN.out] at hlk
  go_simp
  try with_reducible rfl
 try simp only [td]
 refine tk0 (i := 7) rfl ?_
 try simp only [td]
 refine tk0 (i := 8) rfl ?_
 try simp only [td]
 refine tk0 (i := 9) rfl ?_
 try simp only [td]
 refine rd 10 rfl fun K hK => ?_
 go_simp
 refine hK.out _ _ (⟨hHeld.1.alloc hHeld.1.size _, row_al hHeld.2.1 _, row_al hHeld.2.2.1 _, hHeld.2.2.2.alloc _⟩) (fun hX => ?_)
 clear hK K hHeld
 have hHeld := hX
 clear hX
 refine rd 11 rfl fun K hK => ?_
 have o0 : (wb.alloc (.cells #[.int .u64 0, .int .u64 0, .int .u64 0, .int .u64 0] 97)).drew.heap[wb.heap.size]? = some (.cells #[.int .u64 0, .int .u64 0, .int .u64 0, .int .u64 0] 97 (0, 0)) := heap_new wb _
 obtain ⟨g1, g2, g3, g4⟩ := id hHeld
 have hl1 := box_lt HB1.out.2
 have hl2 := box_lt g3
 have hl3 : M < wb.heap.size := (HD.out.1.names.below HB1.out.1).lt
 have hl4 : B < wb.heap.size := box_lt (row_up HD.out.1.box HB1.out.1)
 have hws := HB1.out.1.size
 generalize (wb.alloc (.cells #[.int .u64 0, .int .u64 0, .int .u64 0, .int .u64 0] 97)).drew = wz at g1 g2 g3 g4 o0 ⊢
 have f0 := box_frozen o0 0
 have f1 := box_frozen o0 1
 have f2 := box_frozen o0 2
 have f3 := box_frozen o0 3
 have e0 := box_cell o0 0
 have e1 := box_cell o0 1
 have e2 := box_cell o0 2
 have e3 := box_cell o0 3
 have HQ := Lib.hid (show Below w.heap.size w ((((wz.setCell ⟨wb.heap.size, 0, none⟩ (.int .u64 a0)).setCell ⟨wb.heap.size, 1, none⟩ (.int .u64 a1)).setCell ⟨wb.heap.size, 2, none⟩ (.int .u64 a2)).setCell ⟨wb.heap.size, 3, none⟩ (.int .u64 a3)) ∧ ((((wz.setCell ⟨wb.heap.size, 0, none⟩ (.int .u64 a0)).setCell ⟨wb.heap.size, 1, none⟩ (.int .u64 a1)).setCell ⟨wb.heap.size, 2, none⟩ (.int .u64 a2)).setCell ⟨wb.heap.size, 3, none⟩ (.int .u64 a3)).heap[w.heap.size]? = some (.cells #[.int .i64 s, .int .i64 q, .int .i64 n, .int .i64 k, .int .i64 a, .string t, .slice sa X sc] 50 (0, 0)) ∧ ((((wz.setCell ⟨wb.heap.size, 0, none⟩ (.int .u64 a0)).setCell ⟨wb.heap.size, 1, none⟩ (.int .u64 a1)).setCell ⟨wb.heap.size, 2, none⟩ (.int .u64 a2)).setCell ⟨wb.heap.size, 3, none⟩ (.int .u64 a3)).heap[B]? = some (.cells #[bv, .map (some M)] 90 (0, 0)) ∧ NMap ((((wz.setCell ⟨wb.heap.size, 0, none⟩ (.int .u64 a0)).setCell ⟨wb.heap.size, 1, none⟩ (.int .u64 a1)).setCell ⟨wb.heap.size, 2, none⟩ (.int .u64 a2)).setCell ⟨wb.heap.size, 3, none⟩ (.int .u64 a3)) M (l.map idC) from ⟨(((g1.setCell (p := ⟨wb.heap.size, 0, none⟩) hws _).setCell (p := ⟨wb.heap.size, 1, none⟩) hws _).setCell (p := ⟨wb.heap.size, 2, none⟩) hws _).setCell (p := ⟨wb.heap.size, 3, none⟩) hws _, (box_other (by omega) 3 _).trans ((box_other (by omega) 2 _).trans ((box_other (by omega) 1 _).trans ((box_other (by omega) 0 _).trans g2))), (box_other (by omega) 3 _).trans ((box_other (by omega) 2 _).trans ((box_other (by omega) 1 _).trans ((box_other (by omega) 0 _).trans g3))), (((g4.set (o := 0) (by omega)).set (o := 1) (by omega)).set (o := 2) (by omega)).set (o := 3) (by omega)⟩)
 go_simp
 refine hK.out _ _ (⟨HQ.out.1, HQ.out.2.1, HQ.out.2.2.1, HQ.out.2.2.2⟩) (fun hX => ?_)
 clear hK K hHeld
 have hHeld := hX
 clear hX
 refine tk0 (i := 12) rfl ?_
 try simp only [td]
 refine wpAnyH_done (by kernel_rfl) ?_ _
 have HB2 := Lib.hid hHeld
 clear hHeld
 go_wp2
 go_ret
 exact ⟨S, HK.out _ HB2.out.1, rfl⟩
set_option maxRecDepth 100000 in
set_option maxHeartbeats 8000000 in
theorem dDo_ins (s q n k a : Int) (t : ByteArray) (sp : Value) (xs : List Sp) (p : Value) (l : List PCell) (S : Nat → Prop) (w : World) (h : DocD w p l S) (hT : TabW w) (hs : SpAt w sp xs) (hn : NWf s q n k a) (ht : t.size ≤ 1000) (hx : xs.length ≤ 20000) (hwf : sWf xs) (hb : oMay ⟨s, q, n, k, a, t.data.toList, xs⟩ l.length = true) (hk : k = 1) (hh : hasN l s q = false) :
  Calls Tryz.prog 18 #[p, opV s q n k a t sp] w (DVal DocD p (cDo l ⟨s, q, n, k, a, t.data.toList, xs⟩).1 S (.int .i64 (cDo l ⟨s, q, n, k, a, t.data.toList, xs⟩).2) w) := by
 obtain ⟨B, M, bv, bs, rfl, hD, hR, hc, hm, hw, hl, hS⟩ := h.parts
 obtain ⟨X, hX⟩ : ∃ X, xs.length = X := ⟨_, rfl⟩
 obtain ⟨sa, sc, hsv⟩ : ∃ sa sc, sp = .slice sa X sc := by obtain ⟨z, c, h, _⟩ := hs; exact ⟨z, c, by rw [← hX]; exact h⟩
 have hSz := fun W (hb : Below w.heap.size w W) => (dsize_any (some ⟨B, 0, none⟩) (liveN (catB bs)) (goneN (catB bs)) W (by have := liveN_gone (catB bs); rw [hc] at this ⊢; omega) (whole_any B bv _ bs W (hR.below hb)))
 rw [liveN_gone, hc] at hSz
 have hMy := fun W (hb : Below w.heap.size w W) => pMayOp_any s q n k a (l.length : Int) t sp xs W (LenAt.tabs (TabW.below hT hb) (by unfold maxLen; omega)) (hs.below hb) (by omega) hwf
 have HK := Lib.hid (fun W (hb : Below w.heap.size w W) => h.kept hb)
 subst hsv
 unfold opV at hMy ⊢
 have HB0 := Lib.hid (And.intro ((Below.refl w.heap.size w).alloc (Nat.le_refl _) (.cells #[.int .i64 s, .int .i64 q, .int .i64 n, .int .i64 k, .int .i64 a, .string t, .slice sa X sc] 50)) (heap_new w (.cells #[.int .i64 s, .int .i64 q, .int .i64 n, .int .i64 k, .int .i64 a, .string t, .slice sa X sc] 50)))
 have HX := Lib.hid (And.intro hX (And.intro hs (And.intro hwf hx)))
 have HD := Lib.hid (And.intro hD (And.intro hR (And.intro hc (And.intro hm (And.intro hw (And.intro hS hl))))))
 have HW := Lib.hid (And.intro hT (And.intro hn ht))
 obtain ⟨L, hL⟩ : ∃ z, l.length = z := ⟨_, rfl⟩
 have HL := Lib.hid hL
 rw [hL] at hSz hMy
 have HSz := Lib.hid hSz
 have hcd : cDo l ⟨s, q, n, k, a, t.data.toList, xs⟩ = (runC l ⟨s, q, n, k, a, t.data.toList, xs⟩, 0) := by unfold cDo; rw [hb, if_pos rfl, if_neg (fun e => by rw [hh] at e; exact absurd e.2 (by decide))]
 have hom := (oMay_iff _ _).1 hb
 obtain ⟨-, hnm, -, ⟨-, ha0, ha1, hmt, -, hro⟩ | hkk⟩ := hom
 rotate_left
 ·exact absurd hkk.1 (by show ¬ k = 2; omega)
 dsimp only at hnm ha0 ha1 hmt hro
 obtain ⟨rs, hrs⟩ : ∃ rs, runesL t.data.toList = some rs := by
  unfold mayT at hmt
  simp only [Bool.and_eq_true, decide_eq_true_eq] at hmt
  have h2 := hmt.2.1
  unfold lenT at h2
  cases hr : runesL t.data.toList with
  | none => rw [hr] at h2; dsimp only at h2; omega
  | some rs => exact ⟨rs, rfl⟩
 have hlt : lenT t.data.toList = rs.length := by unfold lenT; rw [hrs]
 have h200 : rs.length ≤ 200 := by
  unfold mayT at hmt
  simp only [Bool.and_eq_true, decide_eq_true_eq] at hmt
  omega
 have hval := (runesL_join hrs).2
 obtain ⟨pp, hpp⟩ : ∃ pp : Nat, a = pp := ⟨a.toNat, by omega⟩
 have hru : runC l ⟨s, q, n, k, a, t.data.toList, xs⟩ = l.take pp ++ newR s q rs ++ l.drop pp := by
  unfold runC
  rw [if_pos (show k = 1 from hk), newC_newR hrs]
  show l.take a.toNat ++ _ ++ l.drop a.toNat = _
  rw [hpp]
  rfl
 have HPP := Lib.hid hpp
 rw [hlt] at hro
 have hmay2 := may_insC pp hm hh hnm hval h200 (by omega)
 have hwf2 := wf_ins pp hw hn.s hn.q hval h200
 rw [hru] at hcd
 rw [hL] at hb
 rw [hb] at hMy
 have HMy := Lib.hid hMy
 rw [hcd]
 have hcof := fun W (hb : Below w.heap.size w W) => cellsOf_any s q n k a t (.slice sa X sc) rs W (TabW.below hT hb) ht hrs (by omega) ⟨_, _, _, rfl⟩
 unfold opV at hcof
 have HCOF := Lib.hid hcof
 have HR := Lib.hid (And.intro hmay2 (And.intro hwf2 (And.intro (show pp ≤ l.length by omega) (And.intro h200 hro))))
 have hok : ∀ c ∈ newR s q rs, nWf (c.site, c.seq) ∧ 0 ≤ c.off ∧ c.off < 200 := fun c hc => by
  obtain ⟨i, hi, e1, e2, e3⟩ := mem_newR hc
  have hil := (List.getElem?_eq_some_iff.1 hi).1
  rw [e1, e2, e3]
  exact ⟨⟨hn.s, hn.q⟩, by omega, by omega⟩
 have hkn : knowN (l.map idC) (newR s q rs) = (l.map idC ++ (newR s q rs).map idC, true) := by
  refine knowN_yes _ _ fun i d hd => ⟨fun g => ?_, fun g => ?_⟩
  ·obtain ⟨c, hc, e⟩ := List.mem_map.1 g
   obtain ⟨j, _, e1, e2, _⟩ := mem_newR (List.mem_of_getElem? hd)
   unfold idC at e
   injection e with z1 e
   injection e with z2 _
   exact hasN_no hh c hc ⟨z1.trans e1, z2.trans e2⟩
  ·have hnd := newR_nodup s q rs
   obtain ⟨c, hc, e⟩ := List.mem_map.1 g
   obtain ⟨j, hj, rfl⟩ := List.mem_iff_getElem.1 hc
   rw [List.length_take] at hj
   rw [List.getElem_take] at e
   have hil := (List.getElem?_eq_some_iff.1 hd)
   refine List.pairwise_iff_getElem.1 hnd j i (by rw [List.length_map]; omega) (by rw [List.length_map]; exact hil.1) (by omega) ?_
   rw [List.getElem_map, List.getElem_map, hil.2]
   exact e
 have HOK := Lib.hid (And.intro hok hkn)
 rw [← hasNm_hasN] at hh
 have HHN := Lib.hid hh
 have HNW := Lib.hid (show nWf (s, q) from ⟨hn.s, hn.q⟩)
 obtain ⟨a0, a1, a2, a3, hoff⟩ : ∃ a0 a1 a2 a3 : Int, offV (offI (l.map idC) (s, q)) = .agg #[.int .u64 a0, .int .u64 a1, .int .u64 a2, .int .u64 a3] := ⟨_, _, _, _, rfl⟩
 have HOFF := Lib.hid hoff
 have HKD := Lib.hid hk
 clear hk hSz hMy hcd hb hD hR hc hm hw hS hl hs hwf hx hT hn ht hX h hL hh hoff hcof hmay2 hwf2 hok hkn hru hval h200 hlt hrs hro hmt ha0 ha1 hnm hpp
 go_enter Tryz.func18, Tryz.ntmps18
 go_wp2
 generalize w.alloc (.cells #[.int .i64 s, .int .i64 q, .int .i64 n, .int .i64 k, .int .i64 a, .string t, .slice sa X sc] 50) = w0 at HB0 ⊢
 refine wp_region_held_drew (S := fun Z => Below w.heap.size w Z ∧ Z.heap[w.heap.size]? = some (.cells #[.int .i64 s, .int .i64 q, .int .i64 n, .int .i64 k, .int .i64 a, .string t, .slice sa X sc] 50 (0, 0))) (by kernel_rfl) ⟨HB0.out.1.drew, HB0.out.2⟩ (fun hHeld => ?_)
 refine tk0 (i := 0) rfl ?_
 try simp only [td]
 refine tk0 (i := 1) rfl ?_
 try simp only [td]
 refine tk0 (i := 2) rfl ?_
 try simp only [td]
 refine tk (i := 3) (v := ?_) rfl (Or.inl ⟨rfl, ?hy4⟩) ?_
 case hy4 =>
  intro W hS
  have u0 := box_cell hS.2 0
  have u1 := box_cell hS.2 1
  have u2 := box_cell hS.2 2
  have u3 := box_cell hS.2 3
  have u4 := box_cell hS.2 4
  have u5 := box_cell hS.2 5
  have u6 := box_cell hS.2 6
  go_simp
  try with_reducible rfl
 try simp only [td]
 refine tk0 (i := 4) rfl ?_
 try simp only [td]
 refine rd 5 rfl fun K hK => ?_
 go_simp
 go_wp2_with (go_at_call 15; refine (HSz.out _ hHeld.1).mono ?_; rintro e wa ⟨rfl, hb⟩)
 refine hK.out _ _ (⟨hHeld.1.trans (hb.mono hHeld.1.size), row_up hHeld.2 hb⟩) (fun hX => ?_)
 clear hK K hHeld
 have hHeld := hX
 clear hX
 refine rd 6 rfl fun K hK => ?_
 go_simp
 go_wp2_with (go_at_call 45; refine (HMy.out _ hHeld.1).mono ?_; rintro e wb ⟨rfl, hb⟩)
 refine hK.out _ _ (⟨hHeld.1.trans (hb.mono hHeld.1.size), row_up hHeld.2 hb⟩) (fun hX => ?_)
 clear hK K hHeld
 have hHeld := hX
 clear hX
 refine tk0 (i := 7) rfl ?_
 try simp only [td]
 refine tk0 (i := 8) rfl ?_
 try simp only [td]
 refine wpAnyH_done (by kernel_rfl) ?_ _
 have HB1 := Lib.hid hHeld
 have y2 := box_cell hHeld.2 2
 have y3 := box_cell hHeld.2 3
 have y4 := box_cell hHeld.2 4
 have y5 := box_cell hHeld.2 5
 have y6 := box_cell hHeld.2 6
 clear hHeld
 have hk2 : ¬ k = 2 := by have := HKD.out; omega
 go_wp2_with fail
 clear hk2 y2 y3 y4 y5 y6
 refine wp_region_held_drew (S := fun Z => Below w.heap.size w Z ∧ Z.heap[w.heap.size]? = some (.cells #[.int .i64 s, .int .i64 q, .int .i64 n, .int .i64 k, .int .i64 a, .string t, .slice sa X sc] 50 (0, 0)) ∧ Z.heap[B]? = some (.cells #[bv, .map (some M)] 90 (0, 0)) ∧ NMap Z M (l.map idC)) (by kernel_rfl) ⟨HB1.out.1.drew, HB1.out.2, row_up HD.out.1.box HB1.out.1.drew, (HD.out.1.names.below HB1.out.1).drew⟩ (fun hHeld => ?_)
 refine tk0 (i := 0) rfl ?_
 try simp only [td]
 refine tk0 (i := 1) rfl ?_
 try simp only [td]
 refine tk0 (i := 2) rfl ?_
 try simp only [td]
 refine tk (i := 3) (v := ?_) rfl (Or.inl ⟨rfl, ?hy11⟩) ?_
 case hy11 =>
  intro W hS
  obtain ⟨hS1, hS2, hS3, hS4⟩ := hS
  have u0 := box_cell hS2 0
  have u1 := box_cell hS2 1
  have u2 := box_cell hS3 1
  go_simp
  try with_reducible rfl
 try simp only [td]
 refine tk0 (i := 4) rfl ?_
 try simp only [td]
 refine tk (i := 5) (v := ?_) rfl (Or.inl ⟨rfl, ?hy13⟩) ?_
 case hy13 =>
  intro W hS
  obtain ⟨hS1, hS2, hS3, hS4⟩ := hS
  have u0 := box_cell hS2 0
  have u1 := box_cell hS2 1
  have u2 := box_cell hS3 1
  go_simp
  try with_reducible rfl
 try simp only [td]
 refine tk (i := 6) (v := ?_) rfl (Or.inl ⟨rfl, ?hy14⟩) ?_
 case hy14 =>
  intro W hS
  have hlk := hS.2.2.2.look_ok (p := (s, q)) HNW.out
  rw [HOFF.out, HHN.out] at hlk
  go_simp
  try with_reducible rfl
 try simp only [td]
 refine tk0 (i := 7) rfl ?_
 try simp only [td]
 refine tk0 (i := 8) rfl ?_
 try simp only [td]
 refine tk0 (i := 9) rfl ?_
 try simp only [td]
 refine rd 10 rfl fun K hK => ?_
 go_simp
 refine hK.out _ _ (⟨hHeld.1.alloc hHeld.1.size _, row_al hHeld.2.1 _, row_al hHeld.2.2.1 _, hHeld.2.2.2.alloc _⟩) (fun hX => ?_)
 clear hK K hHeld
 have hHeld := hX
 clear hX
 refine rd 11 rfl fun K hK => ?_
 have o0 : (wb.alloc (.cells #[.int .u64 0, .int .u64 0, .int .u64 0, .int .u64 0] 97)).drew.heap[wb.heap.size]? = some (.cells #[.int .u64 0, .int .u64 0, .int .u64 0, .int .u64 0] 97 (0, 0)) := heap_new wb _
 obtain ⟨g1, g2, g3, g4⟩ := id hHeld
 have hl1 := box_lt HB1.out.2
 have hl2 := box_lt g3
 have hl3 : M < wb.heap.size := (HD.out.1.names.below HB1.out.1).lt
 have hl4 : B < wb.heap.size := box_lt (row_up HD.out.1.box HB1.out.1)
 have hws := HB1.out.1.size
 generalize (wb.alloc (.cells #[.int .u64 0, .int .u64 0, .int .u64 0, .int .u64 0] 97)).drew = wz at g1 g2 g3 g4 o0 ⊢
 have f0 := box_frozen o0 0
 have f1 := box_frozen o0 1
 have f2 := box_frozen o0 2
 have f3 := box_frozen o0 3
 have e0 := box_cell o0 0
 have e1 := box_cell o0 1
 have e2 := box_cell o0 2
 have e3 := box_cell o0 3
 have HQ := Lib.hid (show Below w.heap.size w ((((wz.setCell ⟨wb.heap.size, 0, none⟩ (.int .u64 a0)).setCell ⟨wb.heap.size, 1, none⟩ (.int .u64 a1)).setCell ⟨wb.heap.size, 2, none⟩ (.int .u64 a2)).setCell ⟨wb.heap.size, 3, none⟩ (.int .u64 a3)) ∧ ((((wz.setCell ⟨wb.heap.size, 0, none⟩ (.int .u64 a0)).setCell ⟨wb.heap.size, 1, none⟩ (.int .u64 a1)).setCell ⟨wb.heap.size, 2, none⟩ (.int .u64 a2)).setCell ⟨wb.heap.size, 3, none⟩ (.int .u64 a3)).heap[w.heap.size]? = some (.cells #[.int .i64 s, .int .i64 q, .int .i64 n, .int .i64 k, .int .i64 a, .string t, .slice sa X sc] 50 (0, 0)) ∧ ((((wz.setCell ⟨wb.heap.size, 0, none⟩ (.int .u64 a0)).setCell ⟨wb.heap.size, 1, none⟩ (.int .u64 a1)).setCell ⟨wb.heap.size, 2, none⟩ (.int .u64 a2)).setCell ⟨wb.heap.size, 3, none⟩ (.int .u64 a3)).heap[B]? = some (.cells #[bv, .map (some M)] 90 (0, 0)) ∧ NMap ((((wz.setCell ⟨wb.heap.size, 0, none⟩ (.int .u64 a0)).setCell ⟨wb.heap.size, 1, none⟩ (.int .u64 a1)).setCell ⟨wb.heap.size, 2, none⟩ (.int .u64 a2)).setCell ⟨wb.heap.size, 3, none⟩ (.int .u64 a3)) M (l.map idC) from ⟨(((g1.setCell (p := ⟨wb.heap.size, 0, none⟩) hws _).setCell (p := ⟨wb.heap.size, 1, none⟩) hws _).setCell (p := ⟨wb.heap.size, 2, none⟩) hws _).setCell (p := ⟨wb.heap.size, 3, none⟩) hws _, (box_other (by omega) 3 _).trans ((box_other (by omega) 2 _).trans ((box_other (by omega) 1 _).trans ((box_other (by omega) 0 _).trans g2))), (box_other (by omega) 3 _).trans ((box_other (by omega) 2 _).trans ((box_other (by omega) 1 _).trans ((box_other (by omega) 0 _).trans g3))), (((g4.set (o := 0) (by omega)).set (o := 1) (by omega)).set (o := 2) (by omega)).set (o := 3) (by omega)⟩)
 go_simp
 refine hK.out _ _ (⟨HQ.out.1, HQ.out.2.1, HQ.out.2.2.1, HQ.out.2.2.2⟩) (fun hX => ?_)
 clear hK K hHeld
 have hHeld := hX
 clear hX
 refine tk0 (i := 12) rfl ?_
 try simp only [td]
 refine wpAnyH_done (by kernel_rfl) ?_ _
 have HB2 := Lib.hid hHeld
 have y0 := box_cell hHeld.2.1 0
 have y1 := box_cell hHeld.2.1 1
 have y2 := box_cell hHeld.2.1 2
 have y3 := box_cell hHeld.2.1 3
 have y4 := box_cell hHeld.2.1 4
 have y5 := box_cell hHeld.2.1 5
 have y6 := box_cell hHeld.2.1 6
 clear hHeld
 generalize ((((wz.setCell ⟨wb.heap.size, 0, none⟩ (.int .u64 a0)).setCell ⟨wb.heap.size, 1, none⟩ (.int .u64 a1)).setCell ⟨wb.heap.size, 2, none⟩ (.int .u64 a2)).setCell ⟨wb.heap.size, 3, none⟩ (.int .u64 a3)) = wc at HB2 y0 y1 y2 y3 y4 y5 y6 ⊢
 go_wp2_with fail
 refine (HCOF.out _ HB2.out.1).mono ?_
 rintro e w8 ⟨v8, rfl, ho8, hb8⟩
 have hx8 := row_up HB2.out.2.1 hb8
 have hB8 := row_up HB2.out.2.2.1 hb8
 have hM8 := HB2.out.2.2.2.below hb8
 have hkw := know_any B M bv (l.map idC) v8 (newR s q rs) w8 hB8 hM8 (CAt.of_own ho8 rfl) HOK.out.1 (by rw [List.length_map, newR_length]; have := HR.out.2.2.2; have := HD.out.2.2.2.2.2.2; omega)
 rw [HOK.out.2] at hkw
 have HKW := Lib.hid hkw
 obtain ⟨q8, q9, q10, rfl⟩ := slice_of ho8
 have H8 := Lib.hid (And.intro ho8 (And.intro hb8 (And.intro hx8 hM8)))
 clear ho8 hb8 hx8 hB8 hM8 hkw y0 y1 y2 y3 y4 y5 y6
 go_wp2_with fail
 refine HKW.out.mono ?_
 clear HKW
 rintro e w9 ⟨rfl, hM9, hK9, hB9⟩
 have hx9 := hK9.row H8.out.2.2.1 (fun e => absurd e (ne_map H8.out.2.2.2 H8.out.2.2.1))
 have hb9 : Below w.heap.size w w8 := HB2.out.1.trans (H8.out.2.1.mono HB2.out.1.size)
 have y4 : w9.cell? ⟨w.heap.size, 4, none⟩ = some (.int .i64 (pp : Int)) := by rw [box_cell hx9 4, ← HPP.out]; rfl
 have hKw : Keep (fun k => k = M) w.heap.size w w9 := (Keep.of_below hb9 (Nat.le_refl _)).trans (hK9.weak hb9.size fun _ _ h => h)
 have hfM := foot_map HD.out.1
 have hbl9 : DocN w9 0 B M bv bs l := ⟨hB9, ⟨own_same HD.out.1.blocks.row fun g e => hKw.block g (HD.out.1.low (.inl (.inr (.inl e)))).2 (fun z => hfM (z ▸ .inr (.inl e))), fun x hx => own_same (HD.out.1.blocks.own x hx) fun g e => hKw.block g (HD.out.1.low (.inl (.inr (.inr ⟨x, hx, e⟩)))).2 (fun z => hfM (z ▸ .inr (.inr ⟨x, hx, e⟩))), HD.out.1.blocks.apart⟩, HD.out.1.cat, HD.out.1.few, HD.out.1.full⟩
 have ho9 := own_keepS H8.out.1 hK9 fun g hg e => by
  obtain ⟨_, c, hc⟩ := own_typed H8.out.1 g hg
  exact absurd e (ne_map H8.out.2.2.2 hc)
 have hpt := dput_any 0 wc.heap.size B M pp bv (.slice q8 q9 q10) bs (newR s q rs) l w9 hbl9 (by rw [newR_length]; have := HR.out.2.2.2; have := HD.out.2.2.2.2.2.2; omega) HR.out.2.2.1 ho9 (fun x hx g e1 e2 => by
  have h1 := (HD.out.1.low (.inl (.inr (.inr ⟨x, hx, e1⟩)))).2
  have h2 := (own_typed ho9 g e2).1
  have := HB2.out.1.size
  omega) (Nat.zero_le _)
 have HPT := Lib.hid hpt
 have H9 := Lib.hid (And.intro hM9 (And.intro hKw hfM))
 clear hpt hM9 hK9 hB9 hx9 hb9 hKw hfM hbl9 ho9
 go_wp2_with fail
 refine HPT.out.mono ?_
 clear HPT
 rintro e w10 ⟨⟨_, rfl⟩, bv', bs', hP⟩
 have hM10 : NMap w10 M ((l.take pp ++ newR s q rs ++ l.drop pp).map idC) := (H9.out.1.kept (hP.keep.block M H9.out.1.lt H9.out.2.2)).congr fun x => ids_ins pp x
 have hml := (cMay_parts HR.out.1).2.2
 have hfw := cat_len hP.full
 rw [hP.cat] at hfw
 have hD10 : DocB w10 0 B M bv' bs' (l.take pp ++ newR s q rs ++ l.drop pp) := ⟨Nat.zero_le _, Nat.zero_le _, hP.box, hP.blocks, hM10, hP.cat, by omega, hP.full⟩
 have hfS : ∀ b, footB B bv bs b → S b := fun b q => (HD.out.2.2.2.2.2.1 b).2 (.inl q)
 have HE := Lib.hid (show DKept DocD (.pointer (some ⟨B, 0, none⟩)) (l.take pp ++ newR s q rs ++ l.drop pp) S w w10 (footD B M bv' bs') from ⟨DocD.new hD10 HR.out.1 HR.out.2.1, fun b hb => by
   have hsz := H9.out.2.1.size
   rcases hb with (rfl | e | ⟨x, hx, e⟩) | rfl
   ·exact .inl (hfS b (.inl rfl))
   ·exact (hP.newv b e).elim (fun q => .inl (hfS b q)) (fun q => .inr (Nat.le_trans hsz q))
   ·exact (hP.newx x hx b e).elim (fun q => .inl (hfS b q)) (fun q => .inr (Nat.le_trans hsz q))
   ·exact .inl ((HD.out.2.2.2.2.2.1 b).2 (.inr rfl)),
  (H9.out.2.1.weak (Nat.le_refl _) fun b _ e => (HD.out.2.2.2.2.2.1 b).2 (.inr e)).trans (hP.keep.weak H9.out.2.1.size fun b _ q => hfS b q)⟩)
 clear hM10 hml hfw hD10 hfS hP
 go_wp2
 go_ret
 exact ⟨_, HE.out, rfl⟩
theorem dD_do (s q n k a : Int) (t : ByteArray) (sp : Value) (xs : List Sp) (p : Value) (l : List PCell) (S : Nat → Prop) (w : World) (h : DocD w p l S) (hT : TabW w) (hs : SpAt w sp xs) (hn : NWf s q n k a) (ht : t.size ≤ 1000) (hx : xs.length ≤ 20000) (hwf : sWf xs) :
  Calls Tryz.prog 18 #[p, opV s q n k a t sp] w (DVal DocD p (cDo l ⟨s, q, n, k, a, t.data.toList, xs⟩).1 S (.int .i64 (cDo l ⟨s, q, n, k, a, t.data.toList, xs⟩).2) w) := by
 cases hb : oMay ⟨s, q, n, k, a, t.data.toList, xs⟩ l.length with
 | false => exact dDo_bad s q n k a t sp xs p l S w h hT hs hn ht hx hwf hb
 | true =>
  obtain ⟨_, _, _, hkk | hkk⟩ := (oMay_iff _ _).1 hb
  ·cases hh : hasN l s q with
   | true => exact dDo_twice s q n k a t sp xs p l S w h hT hs hn ht hx hwf hb hkk.1 hh
   | false => exact dDo_ins s q n k a t sp xs p l S w h hT hs hn ht hx hwf hb hkk.1 hh
  ·exact dDo_del s q n k a t sp xs p l S w h hT hs hn ht hx hwf hb hkk.1
end Go.Proofs.YtmedickofiielaaGreatDoor

namespace Go.Proofs.YtmedickofiielaaGreatDoor
open Go.RowKit Go.Shelf

def cc : CC where
 D := DocD
 keep := fun h hb _ => h.keep hb
 low := fun h => h.low
 ptr := fun h => by obtain ⟨B, M, bv, bs, rfl, _⟩ := h; exact ⟨B, rfl⟩
 may := fun h => by obtain ⟨B, M, bv, bs, _, _, hm, _⟩ := h; exact hm
 new_yes := fun v l w _ h hw hl hm => dD_new_yes v l w h hw hl hm
 new_no := fun v l w _ h hw hl hm => new_no v l w h hw hl hm
 doOp := fun s q n k a t sp xs p l S w h hT hs hn ht hx hwf => dD_do s q n k a t sp xs p l S w h hT hs hn ht hx hwf
 drop := fun sp xs p l S w h hs hwf hx => dD_drop sp xs p l S w h hs hwf hx
 size := dD_size
 live := dD_live
 text := dD_text
 cells := dD_cells
 gone := dD_gone
 gap := fun i p l S w h _ => dD_gap i p l S w h
end Go.Proofs.YtmedickofiielaaGreatDoor

namespace Go.Proofs.YtmedickofiielaaGreatDoor
open Go.RowKit

theorem mkV4 (a b c d : Int) : mkV (a, b, c, d) = .tuple #[.agg #[.int .i64 a, .int .i64 b, .int .i64 c], .int .i64 d] := rfl
def gapR (l : List PCell) (p : Int) : Int × Int := if cGap l p < 0 then (0, 3) else (cGap l p, 0)
def seenR (l : List PCell) (p : Int) : Int × Int := if 0 ≤ p ∧ p ≤ l.length then ((cSeen l p.toNat : Nat), 0) else (0, 3)
theorem kPut_both {l : List PCell} {s i j : Int} (h : siB s = true) : kPut l s i j = kBoth (gapR l) s i j := by
 unfold kPut kBoth gapR
 rw [if_pos ((siB_iff s).1 h)]
 by_cases g1 : cGap l i < 0
 ·simp [g1]
 ·by_cases g2 : cGap l j < 0
  ·simp [g1, g2]
  ·simp [g1, g2]
theorem kPut_no {l : List PCell} {s i j : Int} (h : siB s = false) : kPut l s i j = (0, 0, 0, 1) := by
 unfold kPut
 exact if_neg fun e => by rw [(siB_iff s).2 e] at h; cases h
theorem kShown_both {l : List PCell} {s a t : Int} (h : kMay s a t l.length = true) : kBoth (seenR l) s a t = (s, (kShown l s a t).1, (kShown l s a t).2.1, 0) ∧ (kShown l s a t).2.2 = 0 := by
 have := (kMay_iff _ _ _ _).1 h
 have e1 : seenR l a = (((cSeen l a.toNat : Nat) : Int), 0) := by unfold seenR; exact if_pos (by omega)
 have e2 : seenR l t = (((cSeen l t.toNat : Nat) : Int), 0) := by unfold seenR; exact if_pos (by omega)
 unfold kBoth kShown
 rw [e1, e2, h]
 exact ⟨rfl, rfl⟩
theorem nGap (i : Int) (p : Value) (l : List PCell) (S : Nat → Prop) (w : World) (h : DocD w p l S) :
  Calls Tryz.prog 27 #[p, .int .i64 i] w fun e w' => e = .returned (erV (gapR l i)) ∧ Below w.heap.size w w' := by
 obtain ⟨B, M, bv, bs, rfl, hD, hR, hc, hm, hw, hl, hS⟩ := h.parts
 unfold gapR
 rcases gap_cases l i with ⟨q, hi, _, hg, _⟩ | ⟨hi, hg⟩
 ·obtain ⟨n, rfl⟩ : ∃ n : Nat, i = n := ⟨i.toNat, by omega⟩
  have h1 := dgap_yes B bv _ bs n w hR (by rw [hc, liveN_cLive]; omega)
  rw [hc] at h1
  rw [if_neg (by omega)]
  exact h1
 ·have h1 := dgap_no B bv _ bs i w hR (by rw [hc, liveN_cLive]; omega)
  rw [if_pos (by omega)]
  exact h1
set_option maxRecDepth 100000 in
set_option maxHeartbeats 8000000 in
theorem cPut_any (s i j : Int) (p : Value) (l : List PCell) (S : Nat → Prop) (w : World) (h : DocD w p l S) (wi : (Lit.int .i64 i).wf = true) (wj : (Lit.int .i64 j).wf = true) :
  Calls Tryz.prog 9 #[p, .int .i64 s, .int .i64 i, .int .i64 j] w (DVal DocD p l S (mkV (kPut l s i j)) w) := by
 refine h.val ?_
 obtain ⟨B, M, bv, bs, rfl, -⟩ := id h
 have hs := isSite_any s
 have hG := fun bx W (hI : RBox w bx W) => both_doc (fbR w) 27 (fun args W => enters_of Tryz.func27 (by kernel_rfl) rfl args W) (.pointer (some ⟨B, 0, none⟩)) (gapR l) (fun q bx W hI _ => (nGap q _ l S W (h.keep fun b hb => hI.up.block b (h.low b hb))).mono fun e w' he => ⟨he.1, RBox.below hI he.2⟩) s i j wi wj bx W hI
 have h0 : RBox w (boxAt w.heap.size (.cells #[.int .i64 0, .int .i64 0, .int .i64 0] 30 (0, 0)) noBox) (w.alloc (.cells #[.int .i64 0, .int .i64 0, .int .i64 0] 30)) := (RBox.start w).new _ _
 have H0 := Lib.hid h0
 have HG := Lib.hid hG
 clear h hG h0 wi wj
 obtain ⟨R, hR⟩ : ∃ R, w.heap.size = R := ⟨_, rfl⟩
 rw [hR] at H0
 cases hb : siB s with
 | false =>
  rw [hb] at hs
  have HV := Lib.hid (kPut_no (l := l) (i := i) (j := j) hb)
  clear hb HG
  go_enter Tryz.func9, Tryz.ntmps9
  go_upto_region 1 with fail
  generalize w.alloc (.cells #[.int .i64 0, .int .i64 0, .int .i64 0] 30) = w1 at H0 ⊢
  clear hR
  go_upto_region 2 with (go_at_call 25; refine (hs _).mono ?_; rintro e _ ⟨rfl, rfl⟩)
  clear hs
  have z0 := ((fbR w).at H0.out (B := R) (cs := #[.int .i64 0, .int .i64 0, .int .i64 0]) (t := 30) (boxAt_same _ _ _) 0).1
  have y0 := ((fbR w).at H0.out (B := R) (cs := #[.int .i64 0, .int .i64 0, .int .i64 0]) (t := 30) (boxAt_same _ _ _) 0).2
  have z1 := ((fbR w).at H0.out (B := R) (cs := #[.int .i64 0, .int .i64 0, .int .i64 0]) (t := 30) (boxAt_same _ _ _) 1).1
  have y1 := ((fbR w).at H0.out (B := R) (cs := #[.int .i64 0, .int .i64 0, .int .i64 0]) (t := 30) (boxAt_same _ _ _) 1).2
  have z2 := ((fbR w).at H0.out (B := R) (cs := #[.int .i64 0, .int .i64 0, .int .i64 0]) (t := 30) (boxAt_same _ _ _) 2).1
  have y2 := ((fbR w).at H0.out (B := R) (cs := #[.int .i64 0, .int .i64 0, .int .i64 0]) (t := 30) (boxAt_same _ _ _) 2).2
  have HK := Lib.hid ((fbR w).mark H0.out (M := R) (boxAt_same _ _ _) 0 0 0)
  clear H0
  go_wp2
  refine bodyPost_ret (mkb_result (fn := Tryz.f9) (p := 8) (u := 9) rfl _ _ R 0 0 0 (.int .i64 1) rfl rfl ((fbR w).box HK.out _ _ (boxAt_same _ _ _))) rfl ?_
  exact ⟨by rw [HV.out]; rfl, HK.out.up⟩
 | true =>
  rw [hb] at hs
  have hv := kPut_both (l := l) (i := i) (j := j) hb
  rw [hv]
  obtain ⟨x, hx⟩ : ∃ x, kBoth (gapR l) s i j = x := ⟨_, rfl⟩
  obtain ⟨x1, x2, x3, x4⟩ := x
  have hG := HG.out
  rw [hx, mkV4] at hG
  have HV := Lib.hid hx
  clear hv hx hb HG
  have HG := Lib.hid hG
  clear hG
  unfold mkA at HG
  go_enter Tryz.func9, Tryz.ntmps9
  go_upto_region 1 with fail
  generalize w.alloc (.cells #[.int .i64 0, .int .i64 0, .int .i64 0] 30) = w1 at H0 ⊢
  clear hR
  go_wp2_with (go_at_call 25; refine (hs _).mono ?_; rintro e _ ⟨rfl, rfl⟩)
  refine (HG.out _ _ H0.out).mono ?_
  rintro e w3 ⟨rfl, hI⟩
  clear HG H0 hs
  have z0 := ((fbR w).at hI (B := R) (cs := #[.int .i64 0, .int .i64 0, .int .i64 0]) (t := 30) (boxAt_same _ _ _) 0).1
  have y0 := ((fbR w).at hI (B := R) (cs := #[.int .i64 0, .int .i64 0, .int .i64 0]) (t := 30) (boxAt_same _ _ _) 0).2
  have z1 := ((fbR w).at hI (B := R) (cs := #[.int .i64 0, .int .i64 0, .int .i64 0]) (t := 30) (boxAt_same _ _ _) 1).1
  have y1 := ((fbR w).at hI (B := R) (cs := #[.int .i64 0, .int .i64 0, .int .i64 0]) (t := 30) (boxAt_same _ _ _) 1).2
  have z2 := ((fbR w).at hI (B := R) (cs := #[.int .i64 0, .int .i64 0, .int .i64 0]) (t := 30) (boxAt_same _ _ _) 2).1
  have y2 := ((fbR w).at hI (B := R) (cs := #[.int .i64 0, .int .i64 0, .int .i64 0]) (t := 30) (boxAt_same _ _ _) 2).2
  have HK := Lib.hid ((fbR w).mark hI (M := R) (boxAt_same _ _ _) x1 x2 x3)
  clear hI
  go_wp2
  refine bodyPost_ret (mkb_result (fn := Tryz.f9) (p := 8) (u := 9) rfl _ _ R x1 x2 x3 (.int .i64 x4) rfl rfl ((fbR w).box HK.out _ _ (boxAt_same _ _ _))) rfl ?_
  exact ⟨by rw [HV.out]; rfl, HK.out.up⟩
set_option maxRecDepth 100000 in
set_option maxHeartbeats 8000000 in
theorem cPut_none (s i j : Int) (w : World) :
  Calls Tryz.prog 9 #[.pointer none, .int .i64 s, .int .i64 i, .int .i64 j] w fun e w' => e = .returned (mkV (0, 0, 0, 1)) ∧ Below w.heap.size w w' := by
 have h0 : RBox w (boxAt w.heap.size (.cells #[.int .i64 0, .int .i64 0, .int .i64 0] 30 (0, 0)) noBox) (w.alloc (.cells #[.int .i64 0, .int .i64 0, .int .i64 0] 30)) := (RBox.start w).new _ _
 have H0 := Lib.hid h0
 clear h0
 obtain ⟨R, hR⟩ : ∃ R, w.heap.size = R := ⟨_, rfl⟩
 rw [hR] at H0
 have HV := Lib.hid (rfl : (0 : Int) = 0)
 go_enter Tryz.func9, Tryz.ntmps9
 go_upto_region 1 with fail
 generalize w.alloc (.cells #[.int .i64 0, .int .i64 0, .int .i64 0] 30) = w1 at H0 ⊢
 clear hR
 go_upto_region 2 with fail
 have z0 := ((fbR w).at H0.out (B := R) (cs := #[.int .i64 0, .int .i64 0, .int .i64 0]) (t := 30) (boxAt_same _ _ _) 0).1
 have y0 := ((fbR w).at H0.out (B := R) (cs := #[.int .i64 0, .int .i64 0, .int .i64 0]) (t := 30) (boxAt_same _ _ _) 0).2
 have z1 := ((fbR w).at H0.out (B := R) (cs := #[.int .i64 0, .int .i64 0, .int .i64 0]) (t := 30) (boxAt_same _ _ _) 1).1
 have y1 := ((fbR w).at H0.out (B := R) (cs := #[.int .i64 0, .int .i64 0, .int .i64 0]) (t := 30) (boxAt_same _ _ _) 1).2
 have z2 := ((fbR w).at H0.out (B := R) (cs := #[.int .i64 0, .int .i64 0, .int .i64 0]) (t := 30) (boxAt_same _ _ _) 2).1
 have y2 := ((fbR w).at H0.out (B := R) (cs := #[.int .i64 0, .int .i64 0, .int .i64 0]) (t := 30) (boxAt_same _ _ _) 2).2
 have HK := Lib.hid ((fbR w).mark H0.out (M := R) (boxAt_same _ _ _) 0 0 0)
 clear H0
 go_wp2
 refine bodyPost_ret (mkb_result (fn := Tryz.f9) (p := 8) (u := 9) rfl _ _ R 0 0 0 (.int .i64 1) rfl rfl ((fbR w).box HK.out _ _ (boxAt_same _ _ _))) rfl ?_
 exact ⟨rfl, HK.out.up⟩
theorem kShown_no {l : List PCell} {s a t : Int} (h : kMay s a t l.length = false) : kShown l s a t = (0, 0, 1) := by
 unfold kShown
 rw [h]
 rfl
theorem nSize (p : Value) (l : List PCell) (S : Nat → Prop) (w : World) (h : DocD w p l S) : Calls Tryz.prog 15 #[p] w fun e w' => e = .returned (.int .i64 l.length) ∧ Below w.heap.size w w' := by
 obtain ⟨B, M, bv, bs, rfl, hD, hR, hc, hm, hw, hl, hS⟩ := h.parts
 have h1 := dsize_any (some ⟨B, 0, none⟩) (liveN (catB bs)) (goneN (catB bs)) w (by have := liveN_gone (catB bs); rw [hc] at this ⊢; omega) (whole_any B bv _ bs w hR)
 rw [liveN_gone, hc] at h1
 exact h1
theorem nSeen (i : Int) (p : Value) (l : List PCell) (S : Nat → Prop) (w : World) (h : DocD w p l S) :
  Calls Tryz.prog 30 #[p, .int .i64 i] w fun e w' => e = .returned (erV (seenR l i)) ∧ Below w.heap.size w w' := by
 obtain ⟨B, M, bv, bs, rfl, hD, hR, hc, hm, hw, hl, hS⟩ := h.parts
 unfold seenR
 by_cases h0 : i < 0
 ·have h1 := dseen_neg B i w h0
  rw [if_neg (by omega)]
  exact h1
 ·obtain ⟨n, rfl⟩ : ∃ n : Nat, i = n := ⟨i.toNat, by omega⟩
  by_cases hn : n ≤ l.length
  ·have h1 := dseen_yes B bv _ bs n w hR (by rw [hc]; exact hn)
   rw [hc] at h1
   rw [if_pos (by omega)]
   exact h1
  ·have h1 := dseen_far B bv _ bs n w hR (by rw [hc]; omega)
   rw [if_neg (by omega)]
   exact h1
set_option maxRecDepth 100000 in
set_option maxHeartbeats 8000000 in
theorem cShown_any (s a t : Int) (p : Value) (l : List PCell) (S : Nat → Prop) (w : World) (h : DocD w p l S) (va : (Lit.int .i64 a).wf = true) (vt : (Lit.int .i64 t).wf = true) :
  Calls Tryz.prog 11 #[p, mkA s a t] w (DVal DocD p l S (shV (kShown l s a t)) w) := by
 refine h.val ?_
 obtain ⟨B, M, bv, bs, rfl, -⟩ := id h
 have hG := fun bx W (hI : RBox w bx W) => both_doc (fbR w) 30 (fun args W => enters_of Tryz.func30 (by kernel_rfl) rfl args W) (.pointer (some ⟨B, 0, none⟩)) (seenR l) (fun q bx W hI _ => (nSeen q _ l S W (h.keep fun b hb => hI.up.block b (h.low b hb))).mono fun e w' he => ⟨he.1, RBox.below hI he.2⟩) s a t va vt bx W hI
 have hSz := fun W {bx} (hI : RBox w bx W) => nSize _ l S W (h.keep fun b hb => hI.up.block b (h.low b hb))
 have hMk := fun W => cMayK_any s a t l.length W
 have h0 : RBox w (boxAt w.heap.size (.cells #[.int .i64 s, .int .i64 a, .int .i64 t] 30 (0, 0)) noBox) (w.alloc (.cells #[.int .i64 s, .int .i64 a, .int .i64 t] 30)) := (RBox.start w).new _ _
 have H0 := Lib.hid h0
 have HG := Lib.hid hG
 have HSZ := Lib.hid hSz
 clear h hG h0 hSz va vt
 obtain ⟨R, hR⟩ : ∃ R, w.heap.size = R := ⟨_, rfl⟩
 rw [hR] at H0
 obtain ⟨mk, hmk⟩ : ∃ mk, kMay s a t l.length = mk := ⟨_, rfl⟩
 simp only [hmk] at hMk
 unfold mkA at *
 go_enter Tryz.func11, Tryz.ntmps11
 go_upto_region 1 with fail
 generalize w.alloc (.cells #[.int .i64 s, .int .i64 a, .int .i64 t] 30) = w0 at H0 ⊢
 clear hR
 refine wp_region_held_drew (S := fun X => RBox w (boxAt R (.cells #[.int .i64 s, .int .i64 a, .int .i64 t] 30 (0, 0)) noBox) X) (by kernel_rfl) ((fbR w).drew H0.out) (fun hHeld => ?_)
 refine tk0 (i := 0) rfl ?_
 try simp only [td]
 refine tk0 (i := 1) rfl ?_
 try simp only [td]
 refine tk0 (i := 2) rfl ?_
 try simp only [td]
 refine tk (i := 3) (v := ?_) rfl (Or.inl ⟨rfl, ?hy4⟩) ?_
 case hy4 =>
  intro W hS
  have c0 := ((fbR w).at hS (B := R) (cs := #[.int .i64 s, .int .i64 a, .int .i64 t]) (t := 30) (boxAt_same _ _ _) 0).1
  have c1 := ((fbR w).at hS (B := R) (cs := #[.int .i64 s, .int .i64 a, .int .i64 t]) (t := 30) (boxAt_same _ _ _) 1).1
  have c2 := ((fbR w).at hS (B := R) (cs := #[.int .i64 s, .int .i64 a, .int .i64 t]) (t := 30) (boxAt_same _ _ _) 2).1
  go_simp
  try with_reducible rfl
 try simp only [td]
 refine tk0 (i := 4) rfl ?_
 try simp only [td]
 refine rd 5 rfl fun K hK => ?_
 go_simp
 go_wp2_with (go_at_call 15; refine (HSZ.out _ hHeld).mono ?_; rintro e wq ⟨rfl, hb⟩)
 refine hK.out _ _ (RBox.below hHeld hb) (fun hX => ?_)
 clear hK K hHeld
 have hHeld := hX
 clear hX
 refine rd 6 rfl fun K hK => ?_
 go_simp
 go_wp2_with (go_at_call 29; refine (hMk _).mono ?_; rintro e wq ⟨rfl, hb⟩)
 refine hK.out _ _ (RBox.below hHeld hb) (fun hX => ?_)
 clear hK K hHeld
 have hHeld := hX
 clear hX
 refine tk0 (i := 7) rfl ?_
 try simp only [td]
 refine tk0 (i := 8) rfl ?_
 try simp only [td]
 refine wpAnyH_done (by kernel_rfl) ?_ _
 clear hMk HSZ H0
 have HR1 := Lib.hid hHeld
 clear hHeld
 cases mk with
 | false =>
  have HV := Lib.hid (kShown_no hmk)
  clear hmk HG
  go_wp2
  go_ret3
  exact ⟨by rw [HV.out]; rfl, HR1.out.up⟩
 | true =>
  obtain ⟨hv, hv2⟩ := kShown_both hmk
  obtain ⟨x, hx⟩ : ∃ x, kShown l s a t = x := ⟨_, rfl⟩
  obtain ⟨x1, x2, x3⟩ := x
  rw [hx] at hv hv2
  dsimp only at hv hv2
  subst hv2
  have hG := HG.out
  rw [hv, mkV4] at hG
  have HV := Lib.hid hx
  clear hv hx hmk HG
  have HG := Lib.hid hG
  clear hG
  have c0 := ((fbR w).at HR1.out (B := R) (cs := #[.int .i64 s, .int .i64 a, .int .i64 t]) (t := 30) (boxAt_same _ _ _) 0).1
  have c1 := ((fbR w).at HR1.out (B := R) (cs := #[.int .i64 s, .int .i64 a, .int .i64 t]) (t := 30) (boxAt_same _ _ _) 1).1
  have c2 := ((fbR w).at HR1.out (B := R) (cs := #[.int .i64 s, .int .i64 a, .int .i64 t]) (t := 30) (boxAt_same _ _ _) 2).1
  go_wp2_with fail
  refine (HG.out _ _ HR1.out).mono ?_
  rintro e w3 ⟨rfl, hI⟩
  clear HG HR1 c0 c1 c2
  go_upto_region 4 with fail
  have hN : RBox w (boxAt w3.heap.size (.cells #[.int .i64 s, .int .i64 x1, .int .i64 x2] 30 (0, 0)) (boxAt R (.cells #[.int .i64 s, .int .i64 a, .int .i64 t] 30 (0, 0)) noBox)) (w3.alloc (.cells #[.int .i64 s, .int .i64 x1, .int .i64 x2] 30)) := RBox.new hI _ _
  generalize w3.alloc (.cells #[.int .i64 s, .int .i64 x1, .int .i64 x2] 30) = w4 at hN ⊢
  generalize w3.heap.size = Q at hN ⊢
  clear hI
  refine wp_region_held_drew (S := fun X => RBox w (boxAt Q (.cells #[.int .i64 s, .int .i64 x1, .int .i64 x2] 30 (0, 0)) (boxAt R (.cells #[.int .i64 s, .int .i64 a, .int .i64 t] 30 (0, 0)) noBox)) X) (by kernel_rfl) ((fbR w).drew hN) (fun hHeld => ?_)
  refine tk0 (i := 0) rfl ?_
  try simp only [td]
  refine tk (i := 1) (v := ?_) rfl (Or.inl ⟨rfl, ?hy9⟩) ?_
  case hy9 =>
   intro W hS
   have c1 := ((fbR w).at hS (B := Q) (cs := #[.int .i64 s, .int .i64 x1, .int .i64 x2]) (t := 30) (boxAt_same _ _ _) 1).1
   have c2 := ((fbR w).at hS (B := Q) (cs := #[.int .i64 s, .int .i64 x1, .int .i64 x2]) (t := 30) (boxAt_same _ _ _) 2).1
   go_simp
   try with_reducible rfl
  try simp only [td]
  refine tk0 (i := 2) rfl ?_
  try simp only [td]
  refine tk (i := 3) (v := ?_) rfl (Or.inl ⟨rfl, ?hy11⟩) ?_
  case hy11 =>
   intro W hS
   have c1 := ((fbR w).at hS (B := Q) (cs := #[.int .i64 s, .int .i64 x1, .int .i64 x2]) (t := 30) (boxAt_same _ _ _) 1).1
   have c2 := ((fbR w).at hS (B := Q) (cs := #[.int .i64 s, .int .i64 x1, .int .i64 x2]) (t := 30) (boxAt_same _ _ _) 2).1
   go_simp
   try with_reducible rfl
  try simp only [td]
  refine tk0 (i := 4) rfl ?_
  try simp only [td]
  refine tk0 (i := 5) rfl ?_
  try simp only [td]
  refine tk0 (i := 6) rfl ?_
  try simp only [td]
  refine tk0 (i := 7) rfl ?_
  try simp only [td]
  refine wpAnyH_done (by kernel_rfl) ?_ _
  have HK := Lib.hid hHeld
  clear hHeld hN
  go_wp2
  go_ret3
  exact ⟨by rw [HV.out]; rfl, HK.out.up⟩
set_option maxRecDepth 100000 in
set_option maxHeartbeats 8000000 in
theorem cShown_none (s a t : Int) (w : World) :
  Calls Tryz.prog 11 #[.pointer none, mkA s a t] w fun e w' => e = .returned (shV (0, 0, 1)) ∧ Below w.heap.size w w' := by
 have h0 : RBox w (boxAt w.heap.size (.cells #[.int .i64 s, .int .i64 a, .int .i64 t] 30 (0, 0)) noBox) (w.alloc (.cells #[.int .i64 s, .int .i64 a, .int .i64 t] 30)) := (RBox.start w).new _ _
 have H0 := Lib.hid h0
 clear h0
 obtain ⟨R, hR⟩ : ∃ R, w.heap.size = R := ⟨_, rfl⟩
 rw [hR] at H0
 unfold mkA
 go_enter Tryz.func11, Tryz.ntmps11
 go_upto_region 1 with fail
 generalize w.alloc (.cells #[.int .i64 s, .int .i64 a, .int .i64 t] 30) = w0 at H0 ⊢
 clear hR
 refine wp_region_held_drew (S := fun X => RBox w (boxAt R (.cells #[.int .i64 s, .int .i64 a, .int .i64 t] 30 (0, 0)) noBox) X) (by kernel_rfl) ((fbR w).drew H0.out) (fun hHeld => ?_)
 refine tk0 (i := 0) rfl ?_
 try simp only [td]
 refine tk0 (i := 1) rfl ?_
 try simp only [td]
 refine tk0 (i := 2) rfl ?_
 try simp only [td]
 refine tk (i := 3) (v := undef) rfl (Or.inr ⟨rfl, rfl⟩) ?_
 try simp only [td]
 refine tk (i := 4) (v := undef) rfl (Or.inr ⟨rfl, rfl⟩) ?_
 try simp only [td]
 refine tk (i := 5) (v := undef) rfl (Or.inr ⟨rfl, rfl⟩) ?_
 try simp only [td]
 refine tk (i := 6) (v := undef) rfl (Or.inr ⟨rfl, rfl⟩) ?_
 try simp only [td]
 refine tk (i := 7) (v := undef) rfl (Or.inr ⟨rfl, rfl⟩) ?_
 try simp only [td]
 refine tk0 (i := 8) rfl ?_
 try simp only [td]
 refine wpAnyH_done (by kernel_rfl) ?_ _
 have HK := Lib.hid hHeld
 clear hHeld H0
 go_wp2
 go_ret3
 exact ⟨rfl, HK.out.up⟩
end Go.Proofs.YtmedickofiielaaGreatDoor

namespace Go.Proofs.YtmedickofiielaaGreatDoor
open Go.RowKit

def kc : KC where
 toCC := cc
 find := fun s q off p l S w h hs hq _ => dD_find s q off p l S w h hs hq
 kput := fun s i j p l S w h _ hi hj => cPut_any s i j p l S w h hi hj
 kput0 := fun s i j w _ _ _ => cPut_none s i j w
 kshown := fun s a t p l S w h _ ha ht => cShown_any s a t p l S w h ha ht
 kshown0 := fun s a t w _ _ _ => cShown_none s a t w
 kmove := fun m1 m2 m3 s q n k a size t sp xs w hL h _ _ h2 h3 _ ht hx hwf => cMove_any m1 m2 m3 s q n k a size t sp xs w hL h ht hx hwf h2 h3
 kbehind := fun s q n k a size t sp xs w hL h hn _ ht hx hwf => cBehind_any s q n k a size t sp xs w hL h ht hx hwf (by obtain ⟨-, -, -, -, ha⟩ := hn; exact ha)
 kdrop := fun s a t sp xs w h _ ha ht hx hwf => cDrop_any s a t sp xs w h ha ht hx hwf
def ka : KA := kc.ka fun v l w h hw hl hm => dD_new_yes v l w h hw hl hm
end Go.Proofs.YtmedickofiielaaGreatDoor
