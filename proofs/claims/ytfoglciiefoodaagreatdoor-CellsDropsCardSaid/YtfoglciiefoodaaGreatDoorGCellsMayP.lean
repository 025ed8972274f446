/- Texts of this proof, joined. -/
import Derived.Test.YtfoglciiefoodaaGreatDoorGCellsNew
import Derived.Test.YtfoglciiefoodaaGreatDoorGCellsAsked
import Derived.Test.YtfoglciiefoodaaGreatDoorCellsRemove
import Derived.Test.YtfoglciiefoodaaGreatDoorGCellsSpots
import Derived.Test.YtfoglciiefoodaaGreatDoorGOpsMayQ
import Derived.Test.YtfoglciiefoodaaGreatDoorCellsRun
import Derived.Test.YtfoglciiefoodaaGreatDoorGCellsGather
import Derived.Test.YtfoglciiefoodaaGreatDoorCellsFind
import Derived.Test.YtfoglciiefoodaaGreatDoorGSpEdges
namespace Go.Proofs.YtfoglciiefoodaaGreatDoor
open Go.RowKit

theorem cMay_of {l : List PCell} (h1 : ∀ c ∈ l, cellOk c = true) (h2 : (l.map idC).Nodup) (h3 : l.length ≤ 20000) : cMay l = 0 := by
  unfold cMay
  rw [if_pos (List.all_eq_true.2 h1)]
  have : dupC l l.length = false := by
    unfold dupC
    rw [List.any_eq_false]
    intro i hi
    have hi := List.mem_range.1 hi
    rw [List.getElem?_eq_getElem hi]
    show ¬ dupTo l l[i] i = true
    unfold dupTo
    rw [List.any_eq_true]
    rintro ⟨c, hc, e⟩
    obtain ⟨j, hj, rfl⟩ := List.mem_iff_getElem.1 hc
    rw [List.length_take] at hj
    rw [List.getElem_take] at e
    have e := (sameId_iff _ _).1 e
    refine List.pairwise_iff_getElem.1 h2 j i (by rw [List.length_map]; omega) (by rw [List.length_map]; omega) (by omega) ?_
    rw [List.getElem_map, List.getElem_map]
    exact e
  rw [this, if_neg (by decide), if_neg (by omega)]
theorem cMay_parts {l : List PCell} (h : cMay l = 0) : (∀ c ∈ l, cellOk c = true) ∧ (l.map idC).Nodup ∧ l.length ≤ 20000 := by
  obtain ⟨h1, h2, h3⟩ := cMay_ok h
  exact ⟨List.all_eq_true.1 h1, nodup_ids h2, h3⟩
theorem mem_goneC {l : List PCell} {f : Nat → Bool} {c : PCell} (h : c ∈ goneC l f) : ∃ d ∈ l, d.site = c.site ∧ d.seq = c.seq ∧ d.off = c.off ∧ d.r = c.r := by
  obtain ⟨i, hi, rfl⟩ := List.mem_iff_getElem.1 h
  have e := List.getElem?_eq_getElem hi
  rw [goneC_at] at e
  cases hd : l[i]? with
  | none => rw [hd] at e; cases e
  | some d =>
    rw [hd] at e
    simp only [Option.map_some, Option.some.injEq] at e
    rw [← e]
    exact ⟨d, List.mem_of_getElem? hd, rfl, rfl, rfl, rfl⟩
theorem may_goneC {l : List PCell} (f : Nat → Bool) (h : cMay l = 0) : cMay (goneC l f) = 0 := by
  obtain ⟨h1, h2, h3⟩ := cMay_parts h
  refine cMay_of (fun c hc => ?_) (by rw [goneC_ids]; exact h2) (by rw [goneC_length]; exact h3)
  obtain ⟨d, hd, e1, e2, e3, e4⟩ := mem_goneC hc
  have := h1 d hd
  unfold cellOk at *
  rw [← e1, ← e2, ← e3, ← e4]
  exact this
theorem wf_goneC {l : List PCell} (f : Nat → Bool) (h : CWf l) : CWf (goneC l f) := fun c hc => by
  obtain ⟨d, hd, e1, e2, e3, e4⟩ := mem_goneC hc
  rw [← e1, ← e2, ← e3, ← e4]
  exact h d hd
theorem kept_sub (l : List PCell) (f : Nat → Bool) (k : Nat) : (keptC l f k).Sublist l := (keptC_sub l f k).trans (List.take_sublist _ _)
theorem may_kept {l : List PCell} (f : Nat → Bool) (k : Nat) (h : cMay l = 0) : cMay (keptC l f k) = 0 := by
  obtain ⟨h1, h2, h3⟩ := cMay_parts h
  have hs := kept_sub l f k
  exact cMay_of (fun c hc => h1 c (hs.subset hc)) (h2.sublist (hs.map idC)) (Nat.le_trans hs.length_le h3)
theorem wf_kept {l : List PCell} (f : Nat → Bool) (k : Nat) (h : CWf l) : CWf (keptC l f k) := fun c hc => h c ((kept_sub l f k).subset hc)
theorem newC_newR {o : POp} {rs : List Int} (h : runesL o.text = some rs) : newC o = newR o.site o.seq rs := by
  unfold newC newR
  rw [h]
  rfl
theorem mem_newR {s q : Int} {rs : List Int} {c : PCell} (h : c ∈ newR s q rs) : ∃ i : Nat, rs[i]? = some c.r ∧ c.site = s ∧ c.seq = q ∧ c.off = (i : Int) := by
  unfold newR at h
  obtain ⟨i, hi, e⟩ := List.mem_mapIdx.1 h
  rw [← e]
  exact ⟨i, List.getElem?_eq_getElem hi, rfl, rfl, rfl⟩
theorem newR_nodup (s q : Int) (rs : List Int) : ((newR s q rs).map idC).Nodup := by
  refine List.pairwise_iff_getElem.2 fun i j hi hj hij e => ?_
  rw [List.getElem_map, List.getElem_map] at e
  have h1 : ∀ (k : Nat) (hk : k < (newR s q rs).length), (newR s q rs)[k].off = (k : Int) := fun k hk => by
    have e : (newR s q rs)[k]? = (rs[k]?).map fun r => (⟨s, q, (k : Int), r, false⟩ : PCell) := by unfold newR; rw [List.getElem?_mapIdx]
    rw [List.getElem?_eq_getElem hk, List.getElem?_eq_getElem (by rw [newR_length] at hk; exact hk)] at e
    simp only [Option.map_some, Option.some.injEq] at e
    rw [e]
  unfold idC at e
  injection e with _ e
  injection e with _ e
  rw [List.length_map] at hi hj
  rw [h1 i hi, h1 j hj] at e
  omega
theorem hasN_no {l : List PCell} {s q : Int} (h : hasN l s q = false) : ∀ c ∈ l, ¬ (c.site = s ∧ c.seq = q) := fun c hc e => by
  unfold hasN at h
  rw [List.any_eq_false] at h
  exact h c hc (decide_eq_true e)
theorem may_insC {l : List PCell} {s q : Int} {rs : List Int} (p : Nat) (h : cMay l = 0) (hn : hasN l s q = false) (hs : nMay s q = true) (hr : ∀ r ∈ rs, Lib.validRune r = true) (h200 : rs.length ≤ 200) (hl : l.length + rs.length ≤ 20000) : cMay (l.take p ++ newR s q rs ++ l.drop p) = 0 := by
  obtain ⟨h1, h2, h3⟩ := cMay_parts h
  have hnew : ∀ c ∈ newR s q rs, cellOk c = true := fun c hc => by
    obtain ⟨i, hi, e1, e2, e3⟩ := mem_newR hc
    have hil := (List.getElem?_eq_some_iff.1 hi).1
    unfold cellOk
    rw [e1, e2, e3, hs, hr _ (List.mem_of_getElem? hi), decide_eq_true (by omega)]
    rfl
  refine cMay_of (fun c hc => ?_) ?_ ?_
  · rcases List.mem_append.1 hc with hc | hc
    · rcases List.mem_append.1 hc with hc | hc
      · exact h1 c (List.mem_of_mem_take hc)
      · exact hnew c hc
    · exact h1 c (List.mem_of_mem_drop hc)
  · rw [← List.take_append_drop p l, List.map_append] at h2
    obtain ⟨n1, n2, d⟩ := List.nodup_append.1 h2
    have hx : ∀ c ∈ l, ∀ y ∈ (newR s q rs).map idC, idC c ≠ y := fun c hc y hy e => by
      obtain ⟨d, hd, rfl⟩ := List.mem_map.1 hy
      obtain ⟨i, _, e1, e2, _⟩ := mem_newR hd
      unfold idC at e
      injection e with a e
      injection e with b _
      exact hasN_no hn c hc ⟨a.trans e1, b.trans e2⟩
    rw [List.map_append, List.map_append]
    refine List.nodup_append.2 ⟨List.nodup_append.2 ⟨n1, newR_nodup _ _ _, fun a ha b hb => ?_⟩, n2, fun a ha b hb => ?_⟩
    · obtain ⟨c, hc, rfl⟩ := List.mem_map.1 ha
      exact hx c (List.mem_of_mem_take hc) b hb
    · rcases List.mem_append.1 ha with ha | ha
      · exact d a ha b hb
      · obtain ⟨c, hc, rfl⟩ := List.mem_map.1 hb
        exact (hx c (List.mem_of_mem_drop hc) a ha).symm
  · simp only [List.length_append, List.length_take, List.length_drop, newR_length]
    omega
theorem valid_wf {r : Int} (h : Lib.validRune r = true) : (Lit.int .i32 r).wf = true := by
  have : 0 ≤ r ∧ r ≤ 1114111 := by
    unfold Lib.validRune at h
    simp at h
    omega
  simp only [Lit.wf, Bool.and_eq_true, decide_eq_true_eq]
  have u1 : IntKind.i32.min = -2147483648 := rfl
  have u2 : IntKind.i32.max = 2147483647 := rfl
  rw [u1, u2]
  omega
theorem wf_ins {l : List PCell} {s q : Int} {rs : List Int} (p : Nat) (h : CWf l) (hs : (Lit.int .i64 s).wf = true) (hq : (Lit.int .i64 q).wf = true) (hr : ∀ r ∈ rs, Lib.validRune r = true) (h200 : rs.length ≤ 200) : CWf (l.take p ++ newR s q rs ++ l.drop p) := fun c hc => by
  rcases List.mem_append.1 hc with hc | hc
  · rcases List.mem_append.1 hc with hc | hc
    · exact h c (List.mem_of_mem_take hc)
    · obtain ⟨i, hi, e1, e2, e3⟩ := mem_newR hc
      have hil := (List.getElem?_eq_some_iff.1 hi).1
      refine ⟨by rw [e1]; exact hs, by rw [e2]; exact hq, ?_, valid_wf (hr _ (List.mem_of_getElem? hi))⟩
      rw [e3]
      simp only [Lit.wf, Bool.and_eq_true, decide_eq_true_eq]
      have u1 : IntKind.i64.min = -9223372036854775808 := rfl
      have u2 : IntKind.i64.max = 9223372036854775807 := rfl
      rw [u1, u2]
      omega
  · exact h c (List.mem_of_mem_drop hc)
theorem ids_ins {l : List PCell} {new : List PCell} (p : Nat) (x : Id3) : x ∈ l.map idC ++ new.map idC ↔ x ∈ (l.take p ++ new ++ l.drop p).map idC := by
  rw [List.map_append, List.map_append]
  conv => lhs; rw [← List.take_append_drop p l, List.map_append]
  simp only [List.mem_append]
  exact ⟨fun h => h.elim (fun h => h.elim (fun h => .inl (.inl h)) .inr) (fun h => .inl (.inr h)), fun h => h.elim (fun h => h.elim (fun h => .inl (.inl h)) .inr) (fun h => .inl (.inr h))⟩
theorem ends_in {xs : List Sp} {n : Nat} (hg : sGood xs) (h : outB (sMark xs) n 20000 = false) : ∀ s ∈ xs, s.1 + s.2 ≤ (n : Int) := fun s hs => by
  have h1 := hg.1 s hs
  unfold outB at h
  rw [List.any_eq_false] at h
  have := h (s.1 + s.2 - 1).toNat (List.mem_range.2 (by omega))
  rw [mark_in hs (s.1 + s.2 - 1).toNat (by omega) (by omega), Bool.and_true, decide_eq_true_iff] at this
  omega
theorem cntTo_step (f : Nat → Bool) (n : Nat) : ∀ d, cntTo f (n + d) = cntTo f n ↔ ∀ i, n ≤ i → i < n + d → f i = false
  | 0 => ⟨fun _ i h1 h2 => by omega, fun _ => rfl⟩
  | d + 1 => by
    have h := cntTo_step f n d
    have hm : cntTo f n ≤ cntTo f (n + d) := by
      clear h
      induction d with
      | zero => exact Nat.le_refl _
      | succ k ih =>
        refine Nat.le_trans ih ?_
        show _ ≤ cntTo f (n + k) + if f (n + k) then 1 else 0
        omega
    have e : cntTo f (n + (d + 1)) = cntTo f (n + d) + if f (n + d) then 1 else 0 := rfl
    rw [e]
    constructor
    · intro q i h1 h2
      have hf : f (n + d) = false := by
        cases hf : f (n + d) with
        | false => rfl
        | true => rw [hf, if_pos rfl] at q; omega
      rw [hf] at q
      simp only [Bool.false_eq_true, if_false, Nat.add_zero] at q
      by_cases hi : i = n + d
      · subst hi; exact hf
      · exact h.1 q i h1 (by omega)
    · intro q
      rw [q (n + d) (by omega) (by omega), if_neg (by decide)]
      exact h.2 fun i h1 h2 => q i h1 (by omega)
theorem cnt_out {f : Nat → Bool} {n : Nat} (hn : n ≤ 20000) : decide ((cntTo f (min 20000 n) : Int) < (cntTo f 20000 : Nat)) = outB f n 20000 := by
  rw [Nat.min_eq_right hn]
  have h := cntTo_step f n (20000 - n)
  rw [show n + (20000 - n) = 20000 by omega] at h
  have hm : cntTo f n ≤ cntTo f 20000 := by
    have := cntTo_mono f n (20000 - n)
    rwa [show n + (20000 - n) = 20000 by omega] at this
  cases ho : outB f n 20000 with
  | true =>
    refine decide_eq_true ?_
    have : ¬ cntTo f 20000 = cntTo f n := fun e => by
      unfold outB at ho
      rw [List.any_eq_true] at ho
      obtain ⟨i, hi, h2⟩ := ho
      rw [Bool.and_eq_true, decide_eq_true_iff] at h2
      have := h.1 e i h2.1 (List.mem_range.1 hi)
      rw [this] at h2
      exact absurd h2.2 (by decide)
    omega
  | false =>
    refine decide_eq_false ?_
    have : cntTo f 20000 = cntTo f n := h.2 fun i h1 h2 => by
      unfold outB at ho
      rw [List.any_eq_false] at ho
      have := ho i (List.mem_range.2 h2)
      rw [decide_eq_true h1, Bool.true_and, Bool.not_eq_true] at this
      exact this
    omega
end Go.Proofs.YtfoglciiefoodaaGreatDoor

namespace Go.Proofs.YtfoglciiefoodaaGreatDoor
open Go.RowKit Go.Shelf
attribute [local go_sem] Oper.semAt_some

def footD (B M : Nat) (bv : Value) (bs : List PB) (k : Nat) : Prop := footB B bv bs k ∨ k = M
def DocD (w : World) (p : Value) (l : List PCell) (S : Nat → Prop) : Prop := ∃ B M bv bs, p = .pointer (some ⟨B, 0, none⟩) ∧ DocB w 0 B M bv bs l ∧ cMay l = 0 ∧ CWf l ∧ ∀ b, S b ↔ footD B M bv bs b
theorem own_same {W W' : World} {n₀ : Nat} {e : TypeId} {sz : Nat} {v : Value} {n : Nat} {xs : List Value} (h : W.ownsRow n₀ e sz v n xs) (hb : ∀ g, v.ownBlock = some g → W'.heap[g]? = W.heap[g]?) : W'.ownsRow n₀ e sz v n xs := by
  obtain ⟨h1, h2⟩ := h
  refine ⟨h1, ?_⟩
  rcases h2 with h2 | ⟨g, cap, cur, hv, hg, hh, r⟩
  · exact .inl h2
  · exact .inr ⟨g, cap, cur, hv, hg, by rw [hb g (by rw [hv]; rfl)]; exact hh, r⟩
theorem DocB.zero {W : World} {n₀ B M : Nat} {bv : Value} {bs : List PB} {l : List PCell} (h : DocB W n₀ B M bv bs l) : DocB W 0 B M bv bs l := ⟨Nat.zero_le _, Nat.zero_le _, h.box, h.blocks.lower (Nat.zero_le _), h.names, h.cat, h.few, h.full⟩
theorem DocB.keep {W W' : World} {n₀ B M : Nat} {bv : Value} {bs : List PB} {l : List PCell} (h : DocB W n₀ B M bv bs l) (hb : ∀ b, footD B M bv bs b → W'.heap[b]? = W.heap[b]?) : DocB W' n₀ B M bv bs l :=
  ⟨h.lowB, h.lowM, (hb B (.inl (.inl rfl))).trans h.box, ⟨own_same h.blocks.row fun g e => hb g (.inl (.inr (.inl e))), fun x hx => own_same (h.blocks.own x hx) fun g e => hb g (.inl (.inr (.inr ⟨x, hx, e⟩))), h.blocks.apart⟩, h.names.kept (hb M (.inr rfl)), h.cat, h.few, h.full⟩
theorem DocB.low {W : World} {n₀ B M : Nat} {bv : Value} {bs : List PB} {l : List PCell} (h : DocB W n₀ B M bv bs l) {b : Nat} (hb : footD B M bv bs b) : n₀ ≤ b ∧ b < W.heap.size := by
  rcases hb with (rfl | e | ⟨x, hx, e⟩) | rfl
  · exact ⟨h.lowB, box_lt h.box⟩
  · obtain ⟨q, c, hc⟩ := own_typed h.blocks.row b e
    exact ⟨q, box_lt hc⟩
  · obtain ⟨q, c, hc⟩ := own_typed (h.blocks.own x hx) b e
    exact ⟨q, box_lt hc⟩
  · exact ⟨h.lowM, h.names.lt⟩
theorem DocD.keep {w w' : World} {p : Value} {l : List PCell} {S : Nat → Prop} (h : DocD w p l S) (hb : ∀ b, S b → w'.heap[b]? = w.heap[b]?) : DocD w' p l S := by
  obtain ⟨B, M, bv, bs, rfl, hD, hm, hw, hS⟩ := h
  exact ⟨B, M, bv, bs, rfl, hD.keep fun b q => hb b ((hS b).2 q), hm, hw, hS⟩
theorem DocD.low {w : World} {p : Value} {l : List PCell} {S : Nat → Prop} (h : DocD w p l S) : ∀ b, S b → b < w.heap.size := fun b hb => by
  obtain ⟨B, M, bv, bs, rfl, hD, hm, hw, hS⟩ := h
  exact (hD.low ((hS b).1 hb)).2
theorem DocD.len {w : World} {p : Value} {l : List PCell} {S : Nat → Prop} (h : DocD w p l S) : l.length ≤ 20000 := by
  obtain ⟨B, M, bv, bs, rfl, hD, hm, hw, hS⟩ := h
  exact (cMay_parts hm).2.2
theorem DocD.kept {w w' : World} {p : Value} {l : List PCell} {S : Nat → Prop} (h : DocD w p l S) (hb : Below w.heap.size w w') : DKept DocD p l S w w' S :=
  ⟨h.keep fun b q => hb.block b (h.low b q), fun _ q => .inl q, Keep.of_below hb (Nat.le_refl _)⟩
theorem DocD.val {w : World} {p : Value} {l : List PCell} {S : Nat → Prop} {x : Value} {F : Nat} {args : Array Value} (h : DocD w p l S) (hc : Calls Tryz.prog F args w fun e w' => e = .returned x ∧ Below w.heap.size w w') : Calls Tryz.prog F args w (DVal DocD p l S x w) :=
  hc.mono fun _ _ ⟨h1, h2⟩ => ⟨S, h.kept h2, h1⟩
theorem DocD.parts {w : World} {p : Value} {l : List PCell} {S : Nat → Prop} (h : DocD w p l S) : ∃ B M bv bs, p = .pointer (some ⟨B, 0, none⟩) ∧ DocB w 0 B M bv bs l ∧ DocR w B bv (.map (some M)) bs ∧ catB bs = l ∧ cMay l = 0 ∧ CWf l ∧ l.length ≤ 20000 ∧ ∀ b, S b ↔ footD B M bv bs b := by
  have hl := h.len
  obtain ⟨B, M, bv, bs, rfl, hD, hm, hw, hS⟩ := h
  exact ⟨B, M, bv, bs, rfl, hD, hD.docR (by omega), hD.cat, hm, hw, hl, hS⟩
theorem liveN_cLive (l : List PCell) : liveN l = cLive l := by
  unfold cLive cSeen liveN
  rw [List.take_of_length_le (Nat.le_refl _)]
theorem dD_size (p : Value) (l : List PCell) (S : Nat → Prop) (w : World) (h : DocD w p l S) : Calls Tryz.prog 15 #[p] w (DVal DocD p l S (.int .i64 l.length) w) := by
  obtain ⟨B, M, bv, bs, rfl, hD, hR, hc, hm, hw, hl, hS⟩ := h.parts
  have h1 := dsize_any (some ⟨B, 0, none⟩) (liveN (catB bs)) (goneN (catB bs)) w (by have := liveN_gone (catB bs); rw [hc] at this ⊢; omega) (whole_any B bv _ bs w hR)
  rw [liveN_gone, hc] at h1
  exact h.val h1
theorem dD_live (p : Value) (l : List PCell) (S : Nat → Prop) (w : World) (h : DocD w p l S) : Calls Tryz.prog 16 #[p] w (DVal DocD p l S (.int .i64 (cLive l)) w) := by
  obtain ⟨B, M, bv, bs, rfl, hD, hR, hc, hm, hw, hl, hS⟩ := h.parts
  have h1 := dlive_any (some ⟨B, 0, none⟩) _ _ w (whole_any B bv _ bs w hR)
  rw [hc, liveN_cLive] at h1
  exact h.val h1
theorem may_text {l : List PCell} (h : cMay l = 0) : allValid (textR l) = true := by
  refine allValid_iff.2 fun r hr => ?_
  unfold textR at hr
  obtain ⟨c, hc, rfl⟩ := List.mem_map.1 hr
  have := (cMay_parts h).1 c (List.mem_filter.1 hc).1
  unfold cellOk at this
  simp only [Bool.and_eq_true] at this
  exact this.2
theorem dD_text (p : Value) (l : List PCell) (S : Nat → Prop) (w : World) (h : DocD w p l S) : Calls Tryz.prog 18 #[p] w (DVal DocD p l S (.string (cText l)) w) := by
  obtain ⟨B, M, bv, bs, rfl, hD, hR, hc, hm, hw, hl, hS⟩ := h.parts
  have h1 := dtext_any B bv _ bs w hR (by rw [hc]; exact may_text hm)
  rw [hc] at h1
  exact h.val h1
theorem dD_cells (p : Value) (l : List PCell) (S : Nat → Prop) (w : World) (h : DocD w p l S) : Calls Tryz.prog 21 #[p] w fun e w' => ∃ v S', e = .returned v ∧ DKept DocD p l S w w' S' ∧ CAt w' v l ∧ ∀ g, v.ownBlock = some g → w.heap.size ≤ g ∧ ¬ S' g := by
  obtain ⟨B, M, bv, bs, rfl, hD, hR, hc, hm, hw, hl, hS⟩ := h.parts
  have h1 := dcells_any B bv _ bs w hR
  rw [hc] at h1
  refine h1.mono ?_
  rintro e w' ⟨v, rfl, ho, hb⟩
  refine ⟨v, S, rfl, h.kept hb, CAt.of_own ho rfl, fun g hg => ?_⟩
  have := (own_typed ho g hg).1
  exact ⟨this, fun q => by have := h.low g q; omega⟩
theorem dD_gone (p : Value) (l : List PCell) (S : Nat → Prop) (w : World) (h : DocD w p l S) : Calls Tryz.prog 23 #[p] w fun e w' => ∃ v S', e = .returned v ∧ DKept DocD p l S w w' S' ∧ SpAt w' v (cGone l) := by
  obtain ⟨B, M, bv, bs, rfl, hD, hR, hc, hm, hw, hl, hS⟩ := h.parts
  have h1 := dgone_any B bv _ bs w hR (by rw [hc]; exact hl)
  rw [hc] at h1
  refine h1.mono ?_
  rintro e w' ⟨v, rfl, ho, hb⟩
  exact ⟨v, S, rfl, h.kept hb, SpAt.of_own ho⟩
theorem dD_gap (i : Int) (p : Value) (l : List PCell) (S : Nat → Prop) (w : World) (h : DocD w p l S) :
    Calls Tryz.prog 24 #[p, .int .i64 i] w (DVal DocD p l S (if cGap l i < 0 then .tuple #[.int .i64 0, .int .i64 3] else .tuple #[.int .i64 (cGap l i), .int .i64 0]) w) := by
  obtain ⟨B, M, bv, bs, rfl, hD, hR, hc, hm, hw, hl, hS⟩ := h.parts
  rcases gap_cases l i with ⟨q, hi, _, hg, _⟩ | ⟨hi, hg⟩
  · obtain ⟨n, rfl⟩ : ∃ n : Nat, i = n := ⟨i.toNat, by omega⟩
    have h1 := dgap_yes B bv _ bs n w hR (by rw [hc, liveN_cLive]; omega)
    rw [hc] at h1
    rw [if_neg (by omega)]
    exact h.val h1
  · have h1 := dgap_no B bv _ bs i w hR (by rw [hc, liveN_cLive]; omega)
    rw [if_pos (by omega)]
    exact h.val h1
theorem dD_seen (i : Int) (p : Value) (l : List PCell) (S : Nat → Prop) (w : World) (h : DocD w p l S) :
    Calls Tryz.prog 26 #[p, .int .i64 i] w (DVal DocD p l S (if 0 ≤ i ∧ i ≤ l.length then .tuple #[.int .i64 (cSeen l i.toNat), .int .i64 0] else .tuple #[.int .i64 0, .int .i64 3]) w) := by
  obtain ⟨B, M, bv, bs, rfl, hD, hR, hc, hm, hw, hl, hS⟩ := h.parts
  by_cases h0 : i < 0
  · have h1 := dseen_neg B i w h0
    rw [if_neg (by omega)]
    exact h.val h1
  · obtain ⟨n, rfl⟩ : ∃ n : Nat, i = n := ⟨i.toNat, by omega⟩
    by_cases hn : n ≤ l.length
    · have h1 := dseen_yes B bv _ bs n w hR (by rw [hc]; exact hn)
      rw [hc] at h1
      rw [if_pos (by omega)]
      exact h.val h1
    · have h1 := dseen_far B bv _ bs n w hR (by rw [hc]; omega)
      rw [if_neg (by omega)]
      exact h.val h1
theorem dD_run (i n : Int) (p : Value) (l : List PCell) (S : Nat → Prop) (w : World) (h : DocD w p l S) :
    Calls Tryz.prog 28 #[p, .int .i64 i, .int .i64 n] w fun e w' => ∃ v S', e = .returned (.tuple #[v, .int .i64 (if cRunOk l i n then 0 else 3)]) ∧ DKept DocD p l S w w' S' ∧ SpAt w' v (if cRunOk l i n then cRun l i n else []) ∧ ∀ g, v.ownBlock = some g → ¬ S' g := by
  obtain ⟨B, M, bv, bs, rfl, hD, hR, hc, hm, hw, hl, hS⟩ := h.parts
  have hlv := liveN_cLive l
  cases hok : cRunOk l i n with
  | true =>
    have ho := of_decide_eq_true hok
    obtain ⟨a, rfl⟩ : ∃ a : Nat, i = a := ⟨i.toNat, by omega⟩
    obtain ⟨b, rfl⟩ : ∃ b : Nat, n = b := ⟨n.toNat, by omega⟩
    have h1 := drun_yes B bv _ bs a b w hR (by rw [hc]; exact hl) (by rw [hc, hlv]; omega) (by rw [hc, hlv]; omega)
    rw [hc] at h1
    refine h1.mono ?_
    rintro e w' ⟨v, rfl, ho, hb⟩
    refine ⟨v, S, rfl, h.kept hb, SpAt.of_own ho, fun g hg q => ?_⟩
    have := (own_typed ho g hg).1
    have := h.low g q
    omega
  | false =>
    have ho := of_decide_eq_false hok
    have h1 := drun_no B bv _ bs i n w hR (by rw [hc, hlv]; omega)
    refine h1.mono ?_
    rintro e w' ⟨rfl, hb⟩
    exact ⟨_, S, rfl, h.kept hb, SpAt.nil _, fun g hg => by cases hg⟩
theorem dD_find (s q off : Int) (p : Value) (l : List PCell) (S : Nat → Prop) (w : World) (h : DocD w p l S) (hs : (Lit.int .i64 s).wf = true) (hq : (Lit.int .i64 q).wf = true) :
    Calls Tryz.prog 30 #[p, nmV s q, .int .i64 off] w (DVal DocD p l S (.tuple #[.int .i64 (cFind l s q off).1, .bool (cFind l s q off).2]) w) := by
  obtain ⟨B, M, bv, bs, rfl, hD, hR, hc, hm, hw, hl, hS⟩ := h.parts
  have h1 := dfind_any B M bv bs (l.map idC) s q off w hR hD.names (fun c hcm => by
    rw [hc] at hcm
    have := (cok_names (List.all_eq_true.2 (cMay_parts hm).1) hw c hcm).2
    exact ⟨List.mem_map.2 ⟨c, hcm, rfl⟩, this.1, this.2⟩) hs hq
  rw [hc] at h1
  exact h.val h1
theorem DocD.new {w' : World} {n₀ B M : Nat} {bv : Value} {bs : List PB} {l : List PCell} (h : DocB w' n₀ B M bv bs l) (hm : cMay l = 0) (hw : CWf l) : DocD w' (.pointer (some ⟨B, 0, none⟩)) l (footD B M bv bs) := ⟨B, M, bv, bs, rfl, h.zero, hm, hw, fun _ => Iff.rfl⟩
theorem dD_copy (p : Value) (l : List PCell) (S : Nat → Prop) (w : World) (h : DocD w p l S) :
    Calls Tryz.prog 31 #[p] w fun e w' => ∃ p' S1 S', e = .returned p' ∧ DocD w' p' l S1 ∧ (∀ b, S1 b → w.heap.size ≤ b ∧ ¬ S' b) ∧ DKept DocD p l S w w' S' := by
  obtain ⟨B, M, bv, bs, rfl, hD, hR, hc, hm, hw, hl, hS⟩ := h.parts
  refine (dcopy_any 0 B M bv bs l w hD (by omega)).mono ?_
  rintro e w' ⟨B', M', bv', bs', rfl, hD', hb⟩
  refine ⟨_, _, S, rfl, DocD.new hD' hm hw, fun b hb' => ?_, h.kept hb⟩
  have := (hD'.low hb').1
  exact ⟨this, fun q => by have := h.low b q; omega⟩
theorem dD_new_yes (v : Value) (l : List PCell) (w : World) (h : CAt w v l) (hw : CWf l) (hl : l.length ≤ 20000) (hm : cMay l = 0) :
    Calls Tryz.prog 9 #[v] w fun e w' => ∃ p S, e = .returned (.tuple #[p, .int .i64 0]) ∧ DocD w' p l S ∧ (∀ b, S b → w.heap.size ≤ b) ∧ Below w.heap.size w w' := by
  refine (new_yes v l w h hw hl hm).mono ?_
  rintro e w' ⟨B, M, bv, bs, rfl, hD, hb⟩
  exact ⟨_, _, rfl, DocD.new hD hm hw, fun b q => (hD.low q).1, hb⟩
theorem less_live {l : List PCell} {xs : List Sp} (ho : outB (sMark xs) l.length 20000 = false) (hl : l.length ≤ 20000) : (twoL 2 xs (cGone l) = []) ↔ liveB l (sMark xs) l.length = false := by
  have hg : ∀ j, j < 20000 → sMark (cGone l) j = goneB l j := fun j hj => by unfold cGone; rw [sMade_mark, decide_eq_true hj, Bool.true_and]
  have ht : ∀ j, j < 20000 → sMark (twoL 2 xs (cGone l)) j = (sMark xs j && !goneB l j) := fun j hj => by
    unfold twoL
    rw [sMade_mark, decide_eq_true hj, Bool.true_and, hg j hj]
    rfl
  constructor
  · intro e
    unfold liveB
    rw [List.any_eq_false]
    intro i hi
    have hi := List.mem_range.1 hi
    have := ht i (by omega)
    rw [e] at this
    rw [← this]
    simp [sMark]
  · intro e
    cases ht' : twoL 2 xs (cGone l) with
    | nil => rfl
    | cons s r =>
      exfalso
      have hgood : sGood (twoL 2 xs (cGone l)) := sMade_good _ _ (Nat.le_refl _)
      rw [ht'] at hgood ht
      have hs := hgood.1 s (List.mem_cons_self ..)
      have h1 := ht s.1.toNat (by omega)
      rw [mark_in (List.mem_cons_self ..) s.1.toNat (by omega) (by omega)] at h1
      have h2 : sMark xs s.1.toNat = true := by
        cases hq : sMark xs s.1.toNat with
        | true => rfl
        | false => rw [hq] at h1; cases h1
      have h3 : s.1.toNat < l.length := by
        rcases Nat.lt_or_ge s.1.toNat l.length with q | q
        · exact q
        · unfold outB at ho
          rw [List.any_eq_false] at ho
          have := ho s.1.toNat (List.mem_range.2 (by omega))
          rw [decide_eq_true q, h2] at this
          exact absurd rfl this
      unfold liveB at e
      rw [List.any_eq_false] at e
      exact e s.1.toNat (List.mem_range.2 h3) h1.symm
end Go.Proofs.YtfoglciiefoodaaGreatDoor

namespace Go.Proofs.YtfoglciiefoodaaGreatDoor
open Go.RowKit Go.Shelf
attribute [local go_sem] Oper.semAt_some

set_option maxRecDepth 100000 in
set_option maxHeartbeats 8000000 in
theorem dD_drop (sp : Value) (xs : List Sp) (p : Value) (l : List PCell) (S : Nat → Prop) (w : World) (h : DocD w p l S) (hs : SpAt w sp xs) (hwf : sWf xs) (hx : xs.length ≤ 20000) :
    Calls Tryz.prog 34 #[p, sp] w (DVal DocD p (cDrop l xs).1 S (.int .i64 (cDrop l xs).2) w) := by
  obtain ⟨B, M, bv, bs, rfl, hD, hR, hc, hm, hw, hl, hS⟩ := h.parts
  have hMay := spMay_any sp xs w hs (by omega) hwf
  obtain ⟨X, hX⟩ : ∃ X, xs.length = X := ⟨_, rfl⟩
  obtain ⟨sa, sc, hsv⟩ : ∃ sa sc, sp = .slice sa X sc := by obtain ⟨a, c, h, _⟩ := hs; exact ⟨a, c, by rw [← hX]; exact h⟩
  cases hmy : sMay xs with
  | false =>
    have hcd : cDrop l xs = (l, 1) := by unfold cDrop; rw [hmy]; rfl
    rw [hcd]
    rw [hmy] at hMay
    have HK := Lib.hid (fun W (hb : Below w.heap.size w W) => h.kept hb)
    have HM := Lib.hid hMay
    subst hsv
    clear hMay hmy hcd h hs hwf hx hD hR hc hm hw hl hS hX
    go_enter Tryz.func34, Tryz.ntmps34
    go_wp2_with (go_at_call 61; refine HM.out.mono ?_; rintro e w1 ⟨rfl, hb1⟩)
    go_ret
    exact ⟨S, HK.out _ hb1, rfl⟩
  | true =>
    have hg := (sMay_good xs).1 hmy
    have hSz := fun W (hb : Below w.heap.size w W) => (dsize_any (some ⟨B, 0, none⟩) (liveN (catB bs)) (goneN (catB bs)) W (by have := liveN_gone (catB bs); rw [hc] at this ⊢; omega) (whole_any B bv _ bs W (hR.below hb)))
    rw [liveN_gone, hc] at hSz
    have hAh := fun W (hb : Below w.heap.size w W) => spAhead_any sp xs (l.length : Int) W (hs.below hb) (by omega) hwf
    have hTo := fun W (hb : Below w.heap.size w W) => spTotal_any sp xs W (hs.below hb) (by omega) hwf
    rw [hmy, if_pos rfl, Int.toNat_natCast] at hAh
    rw [hmy, if_pos rfl] at hTo
    rw [hmy] at hMay
    have hco := cnt_out (f := sMark xs) hl
    obtain ⟨A, hA⟩ : ∃ z, cntTo (sMark xs) (min 20000 l.length) = z := ⟨_, rfl⟩
    obtain ⟨T, hT⟩ : ∃ z, cntTo (sMark xs) 20000 = z := ⟨_, rfl⟩
    rw [hA] at hAh hco
    rw [hT] at hTo hco
    obtain ⟨L, hL⟩ : ∃ z, l.length = z := ⟨_, rfl⟩
    have HL := Lib.hid hL
    rw [hL] at hSz hAh hl hco
    have HM := Lib.hid hMay
    have HSz := Lib.hid hSz
    have HAh := Lib.hid hAh
    have HTo := Lib.hid hTo
    have HK := Lib.hid (fun W (hb : Below w.heap.size w W) => h.kept hb)
    have HX := Lib.hid (And.intro hX (And.intro hs (And.intro hwf (And.intro hg (And.intro hmy hx)))))
    have HD := Lib.hid (And.intro hD (And.intro hR (And.intro hc (And.intro hm (And.intro hw (And.intro hS hl))))))
    have HSV := Lib.hid hsv
    clear hMay hSz hAh hTo hA hT hL hX hs hwf hg hmy hD hR hc hm hw hS h hl hx
    rw [hsv] at HM HAh HTo ⊢
    clear hsv
    cases ho : outB (sMark xs) L 20000 with
    | true =>
      have hlt : A < T := by
        rw [ho] at hco
        have := of_decide_eq_true hco
        omega
      have hcd : cDrop l xs = (l, 1) := by unfold cDrop; rw [HX.out.2.2.2.2.1, HL.out, ho]; rfl
      rw [hcd]
      clear hco hcd ho
      go_enter Tryz.func34, Tryz.ntmps34
      go_wp2_with (first
        | (go_at_call 61; refine HM.out.mono ?_; rintro e w1 ⟨rfl, hb1⟩)
        | (go_at_call 15; refine (HSz.out _ hb1).mono ?_; rintro e w2 ⟨rfl, hb2⟩; have hb2 := hb1.trans (hb2.mono hb1.size))
        | (go_at_call 62; refine (HAh.out _ hb2).mono ?_; rintro e w3 ⟨rfl, hb3⟩; have hb3 := hb2.trans (hb3.mono hb2.size))
        | (go_at_call 63; refine (HTo.out _ hb3).mono ?_; rintro e w4 ⟨rfl, hb4⟩; have hb4 := hb3.trans (hb4.mono hb3.size)))
      go_ret
      exact ⟨S, HK.out _ hb4, rfl⟩
    | false =>
      have hlt : ¬ A < T := by
        rw [ho] at hco
        have := of_decide_eq_false hco
        omega
      have hends := ends_in HX.out.2.2.2.1 ho
      have hll := less_live (l := l) (xs := xs) (by rw [HL.out]; exact ho) (by rw [HL.out]; exact HD.out.2.2.2.2.2.2)
      have hcgw : sMay (cGone l) = true := (sMay_good _).2 (sMade_good _ _ (Nat.le_refl _))
      have hLe := fun W v (hb : Below w.heap.size w W) (hv : SpAt W v (cGone l)) => spLess_own sp v xs (cGone l) W (HX.out.2.1.below hb) hv (by have := HX.out.2.2.2.2.2; omega) (by have := cGone_length l; omega) HX.out.2.2.1 (cGone_wf l)
      rw [HX.out.2.2.2.2.1, hcgw] at hLe
      have hGo := fun W (hb : Below w.heap.size w W) => dgone_any B bv _ bs W (HD.out.2.1.below hb) (by rw [HD.out.2.2.1, HL.out]; exact HD.out.2.2.2.2.2.2)
      rw [HD.out.2.2.1] at hGo
      have hDr := fun W (hb : Below w.heap.size w W) => ddrop_any 0 B M bv sp bs l xs W (HD.out.1.keep fun b q => hb.block b (HD.out.1.low q).2) (by rw [HL.out]; exact HD.out.2.2.2.2.2.2) HD.out.2.2.2.2.1 HD.out.2.2.2.1 (HX.out.2.1.below hb) (by have := HX.out.2.2.2.2.2; omega) HX.out.2.2.2.1 (by rw [HL.out]; exact hends)
      rw [HSV.out] at hLe hDr
      have hcd2 : cDrop l xs = if liveB l (sMark xs) l.length then (l, 13) else (keptC l (sMark xs) l.length, 0) := by unfold cDrop; rw [HX.out.2.2.2.2.1, HL.out, ho]; rfl
      have HLe := Lib.hid hLe
      have HGo := Lib.hid hGo
      have HDr := Lib.hid hDr
      have HLL := Lib.hid hll
      have HCD := Lib.hid hcd2
      clear hco ho hends hll hcgw hLe hGo hDr hcd2
      go_enter Tryz.func34, Tryz.ntmps34
      go_wp2_with (first
        | (go_at_call 61; refine HM.out.mono ?_; rintro e w1 ⟨rfl, hb1⟩)
        | (go_at_call 15; refine (HSz.out _ hb1).mono ?_; rintro e w2 ⟨rfl, hb2⟩; have hb2 := hb1.trans (hb2.mono hb1.size))
        | (go_at_call 62; refine (HAh.out _ hb2).mono ?_; rintro e w3 ⟨rfl, hb3⟩; have hb3 := hb2.trans (hb3.mono hb2.size))
        | (go_at_call 63; refine (HTo.out _ hb3).mono ?_; rintro e w4 ⟨rfl, hb4⟩; have hb4 := hb3.trans (hb4.mono hb3.size))
        | (go_at_call 23; refine (HGo.out _ hb4).mono ?_; rintro e w5 ⟨v5, rfl, ho5, hb5⟩; (have hb5 := hb4.trans (hb5.mono hb4.size)); (have hs5 := SpAt.of_own ho5); (obtain ⟨a5, n5, c5, rfl⟩ := slice_of ho5))
        | (go_at_call 64; refine (HLe.out _ _ hb5 hs5).mono ?_; rintro e w6 ⟨v6, rfl, ho6, hb6⟩; (have hb6 := hb5.trans (hb6.mono hb5.size)); (obtain ⟨a6, n6, c6, rfl⟩ := slice_of ho6); (have hs6 := Lib.hid (SpAt.of_own ho6)); clear ho6 ho5 hs5))
      rotate_left
      · rename_i hz
        have hn : (twoL 2 xs (cGone l)).length = n6 := by
          obtain ⟨ao, cap, e, _⟩ := hs6.out
          injection e with _ e
          exact e.symm
        have hlv : liveB l (sMark xs) l.length = false := HLL.out.1 (List.eq_nil_of_length_eq_zero (by omega))
        have hcd := HCD.out
        rw [hlv] at hcd
        simp only [Bool.false_eq_true, if_false] at hcd
        have HC2 := Lib.hid hcd
        clear hcd hn
        refine (HDr.out _ hb6).mono ?_
        rintro e w7 ⟨⟨_, rfl⟩, bv7, bs7, q1, q2, q3, q4, q5, q6, q7⟩
        have hM0 := HD.out.1.names.lt
        have hB0 := box_lt HD.out.1.box
        have hD7 : DocB w7 0 B M bv7 bs7 (keptC l (sMark xs) l.length) := ⟨Nat.zero_le _, Nat.zero_le _, q1, q2.lower (Nat.zero_le _), q6, q3, q4, q5⟩
        have hK7 : Keep S w.heap.size w w7 := (Keep.of_below hb6 (Nat.le_refl _)).trans (q7.weak hb6.size fun k _ e => by
          rcases e with rfl | rfl
          · exact (HD.out.2.2.2.2.2.1 k).2 (.inl (.inl rfl))
          · exact (HD.out.2.2.2.2.2.1 k).2 (.inr rfl))
        have hf7 : ∀ b, footD B M bv7 bs7 b → S b ∨ w.heap.size ≤ b := fun b hb => by
          rcases hb with (rfl | e | ⟨x, hx, e⟩) | rfl
          · exact .inl ((HD.out.2.2.2.2.2.1 b).2 (.inl (.inl rfl)))
          · exact .inr (Nat.le_trans hb6.size (own_typed q2.row b e).1)
          · exact .inr (Nat.le_trans hb6.size (own_typed (q2.own x hx) b e).1)
          · exact .inl ((HD.out.2.2.2.2.2.1 b).2 (.inr rfl))
        have HE := Lib.hid (show DKept DocD (.pointer (some ⟨B, 0, none⟩)) (keptC l (sMark xs) l.length) S w w7 (footD B M bv7 bs7) from ⟨DocD.new hD7 (may_kept _ _ HD.out.2.2.2.1) (wf_kept _ _ HD.out.2.2.2.2.1), hf7, hK7⟩)
        clear q1 q2 q3 q4 q5 q6 q7 hM0 hB0 hD7 hK7 hf7
        go_wp2
        go_ret
        exact ⟨_, by rw [HC2.out]; exact HE.out, by rw [HC2.out]; rfl⟩
      · rename_i hz
        have hn : (twoL 2 xs (cGone l)).length = n6 := by
          obtain ⟨ao, cap, e, _⟩ := hs6.out
          injection e with _ e
          exact e.symm
        have hlv : liveB l (sMark xs) l.length = true := by
          cases hq : liveB l (sMark xs) l.length with
          | true => rfl
          | false =>
            rw [HLL.out.2 hq] at hn
            simp at hn
            omega
        have hcd := HCD.out
        rw [hlv, if_pos rfl] at hcd
        rw [hcd]
        clear hcd hn
        go_ret
        exact ⟨S, HK.out _ hb6, rfl⟩
end Go.Proofs.YtfoglciiefoodaaGreatDoor
