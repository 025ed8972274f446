/- Texts of this proof, joined. -/
import Derived.Test.YtmedickofiielaaGCellsNew
import Derived.Test.YtmedickofiielaaGRefSplit
import Derived.Test.YtmedickofiielaaGCellsText
import Derived.Test.YtmedickofiielaaGOpsMayQ
import Derived.Test.YtmedickofiielaaCellsFind
import Derived.Test.YtmedickofiielaaGSpEdges
import Derived.Test.YtmedickofiielaaCaretP0
import Derived.Shelf.Abstract
import Derived.Deep.RegionHeld
import Derived.Test.YtmedickofiielaaGCaretAlive
import Derived.Test.YtmedickofiielaaCaretP3
namespace Go.Proofs.Ytmedickofiielaa
open Go.RowKit

theorem cMay_parts {l : List PCell} (h : cMay l = 0) : (∀ c ∈ l, cellOk c = true) ∧ (l.map idC).Nodup ∧ l.length ≤ 20000 := by
 obtain ⟨h1, h2, h3⟩ := cMay_ok h
 exact ⟨List.all_eq_true.1 h1, nodup_ids h2, h3⟩
end Go.Proofs.Ytmedickofiielaa

namespace Go.Proofs.Ytmedickofiielaa
open Go.RowKit Go.Shelf
attribute [local go_sem] Oper.semAt_some

def footD (B M : Nat) (bv : Value) (bs : List PB) (k : Nat) : Prop := footB B bv bs k ∨ k = M
def DocD (w : World) (p : Value) (l : List PCell) (S : Nat → Prop) : Prop := ∃ B M bv bs, p = .pointer (some ⟨B, 0, none⟩) ∧ DocB w 0 B M bv bs l ∧ cMay l = 0 ∧ CWf l ∧ ∀ b, S b ↔ footD B M bv bs b
theorem own_same {W W' : World} {n₀ : Nat} {e : TypeId} {sz : Nat} {v : Value} {n : Nat} {xs : List Value} (h : W.ownsRow n₀ e sz v n xs) (hb : ∀ g, v.ownBlock = some g → W'.heap[g]? = W.heap[g]?) : W'.ownsRow n₀ e sz v n xs := by
 obtain ⟨h1, h2⟩ := h
 refine ⟨h1, ?_⟩
 rcases h2 with h2 | ⟨g, cap, cur, hv, hg, hh, r⟩
 ·exact .inl h2
 ·exact .inr ⟨g, cap, cur, hv, hg, by rw [hb g (by rw [hv]; rfl)]; exact hh, r⟩
theorem DocB.zero {W : World} {n₀ B M : Nat} {bv : Value} {bs : List PB} {l : List PCell} (h : DocB W n₀ B M bv bs l) : DocB W 0 B M bv bs l := ⟨Nat.zero_le _, Nat.zero_le _, h.box, h.blocks.lower (Nat.zero_le _), h.names, h.cat, h.few, h.full⟩
theorem DocB.keep {W W' : World} {n₀ B M : Nat} {bv : Value} {bs : List PB} {l : List PCell} (h : DocB W n₀ B M bv bs l) (hb : ∀ b, footD B M bv bs b → W'.heap[b]? = W.heap[b]?) : DocB W' n₀ B M bv bs l :=
 ⟨h.lowB, h.lowM, (hb B (.inl (.inl rfl))).trans h.box, ⟨own_same h.blocks.row fun g e => hb g (.inl (.inr (.inl e))), fun x hx => own_same (h.blocks.own x hx) fun g e => hb g (.inl (.inr (.inr ⟨x, hx, e⟩))), h.blocks.apart⟩, h.names.kept (hb M (.inr rfl)), h.cat, h.few, h.full⟩
theorem DocB.low {W : World} {n₀ B M : Nat} {bv : Value} {bs : List PB} {l : List PCell} (h : DocB W n₀ B M bv bs l) {b : Nat} (hb : footD B M bv bs b) : n₀ ≤ b ∧ b < W.heap.size := by
 rcases hb with (rfl | e | ⟨x, hx, e⟩) | rfl
 ·exact ⟨h.lowB, box_lt h.box⟩
 ·obtain ⟨q, c, hc⟩ := own_typed h.blocks.row b e
  exact ⟨q, box_lt hc⟩
 ·obtain ⟨q, c, hc⟩ := own_typed (h.blocks.own x hx) b e
  exact ⟨q, box_lt hc⟩
 ·exact ⟨h.lowM, h.names.lt⟩
theorem DocD.keep {w w' : World} {p : Value} {l : List PCell} {S : Nat → Prop} (h : DocD w p l S) (hb : ∀ b, S b → w'.heap[b]? = w.heap[b]?) : DocD w' p l S := by
 obtain ⟨B, M, bv, bs, rfl, hD, hm, hw, hS⟩ := h
 exact ⟨B, M, bv, bs, rfl, hD.keep fun b q => hb b ((hS b).2 q), hm, hw, hS⟩
theorem DocD.low {w : World} {p : Value} {l : List PCell} {S : Nat → Prop} (h : DocD w p l S) : ∀ b, S b → b < w.heap.size := fun b hb => by
 obtain ⟨B, M, bv, bs, rfl, hD, hm, hw, hS⟩ := h
 exact (hD.low ((hS b).1 hb)).2
theorem DocD.len {w : World} {p : Value} {l : List PCell} {S : Nat → Prop} (h : DocD w p l S) : l.length ≤ 20000 := by
 obtain ⟨B, M, bv, bs, rfl, hD, hm, hw, hS⟩ := h
 exact (cMay_parts hm).2.2
theorem DocD.kept {w w' : World} {p : Value} {l : List PCell} {S : Nat → Prop} (h : DocD w p l S) (hb : Below w.heap.size w w') : DKept DocD p l S w w' S :=
 ⟨h.keep fun b q => hb.block b (h.low b q), fun _ q => .inl q, Keep.of_below hb (Nat.le_refl _)⟩
theorem DocD.val {w : World} {p : Value} {l : List PCell} {S : Nat → Prop} {x : Value} {F : Nat} {args : Array Value} (h : DocD w p l S) (hc : Calls Try.prog F args w fun e w' => e = .returned x ∧ Below w.heap.size w w') : Calls Try.prog F args w (DVal DocD p l S x w) :=
 hc.mono fun _ _ ⟨h1, h2⟩ => ⟨S, h.kept h2, h1⟩
theorem DocD.parts {w : World} {p : Value} {l : List PCell} {S : Nat → Prop} (h : DocD w p l S) : ∃ B M bv bs, p = .pointer (some ⟨B, 0, none⟩) ∧ DocB w 0 B M bv bs l ∧ DocR w B bv (.map (some M)) bs ∧ catB bs = l ∧ cMay l = 0 ∧ CWf l ∧ l.length ≤ 20000 ∧ ∀ b, S b ↔ footD B M bv bs b := by
 have hl := h.len
 obtain ⟨B, M, bv, bs, rfl, hD, hm, hw, hS⟩ := h
 exact ⟨B, M, bv, bs, rfl, hD, hD.docR (by omega), hD.cat, hm, hw, hl, hS⟩
theorem liveN_cLive (l : List PCell) : liveN l = cLive l := by
 unfold cLive cSeen liveN
 rw [List.take_of_length_le (Nat.le_refl _)]
theorem DocD.new {w' : World} {n₀ B M : Nat} {bv : Value} {bs : List PB} {l : List PCell} (h : DocB w' n₀ B M bv bs l) (hm : cMay l = 0) (hw : CWf l) : DocD w' (.pointer (some ⟨B, 0, none⟩)) l (footD B M bv bs) := ⟨B, M, bv, bs, rfl, h.zero, hm, hw, fun _ => Iff.rfl⟩
theorem dD_new_yes (v : Value) (l : List PCell) (w : World) (h : CAt w v l) (hw : CWf l) (hl : l.length ≤ 20000) (hm : cMay l = 0) :
  Calls Try.prog 11 #[v] w fun e w' => ∃ p S, e = .returned (.tuple #[p, .int .i64 0]) ∧ DocD w' p l S ∧ (∀ b, S b → w.heap.size ≤ b) ∧ Below w.heap.size w w' := by
 refine (new_yes v l w h hw hl hm).mono ?_
 rintro e w' ⟨B, M, bv, bs, rfl, hD, hb⟩
 exact ⟨_, _, rfl, DocD.new hD hm hw, fun b q => (hD.low q).1, hb⟩
end Go.Proofs.Ytmedickofiielaa

namespace Go.Proofs.Ytmedickofiielaa
open Go.RowKit

theorem mkV4 (a b c d : Int) : mkV (a, b, c, d) = .tuple #[.agg #[.int .i64 a, .int .i64 b, .int .i64 c], .int .i64 d] := rfl
def gapR (l : List PCell) (p : Int) : Int × Int := if cGap l p < 0 then (0, 3) else (cGap l p, 0)
theorem kPut_both {l : List PCell} {s i j : Int} (h : siB s = true) : kPut l s i j = kBoth (gapR l) s i j := by
 unfold kPut kBoth gapR
 rw [if_pos ((siB_iff s).1 h)]
 by_cases g1 : cGap l i < 0
 ·simp [g1]
 ·by_cases g2 : cGap l j < 0
  ·simp [g1, g2]
  ·simp [g1, g2]
theorem kPut_no {l : List PCell} {s i j : Int} (h : siB s = false) : kPut l s i j = (0, 0, 0, 1) := by
 unfold kPut
 exact if_neg fun e => by rw [(siB_iff s).2 e] at h; cases h
theorem nGap (i : Int) (p : Value) (l : List PCell) (S : Nat → Prop) (w : World) (h : DocD w p l S) :
  Calls Try.prog 26 #[p, .int .i64 i] w fun e w' => e = .returned (erV (gapR l i)) ∧ Below w.heap.size w w' := by
 obtain ⟨B, M, bv, bs, rfl, hD, hR, hc, hm, hw, hl, hS⟩ := h.parts
 unfold gapR
 rcases gap_cases l i with ⟨q, hi, _, hg, _⟩ | ⟨hi, hg⟩
 ·obtain ⟨n, rfl⟩ : ∃ n : Nat, i = n := ⟨i.toNat, by omega⟩
  have h1 := dgap_yes B bv _ bs n w hR (by rw [hc, liveN_cLive]; omega)
  rw [hc] at h1
  rw [if_neg (by omega)]
  exact h1
 ·have h1 := dgap_no B bv _ bs i w hR (by rw [hc, liveN_cLive]; omega)
  rw [if_pos (by omega)]
  exact h1
set_option maxRecDepth 100000 in
set_option maxHeartbeats 8000000 in
theorem cPut_any (s i j : Int) (p : Value) (l : List PCell) (S : Nat → Prop) (w : World) (h : DocD w p l S) (wi : (Lit.int .i64 i).wf = true) (wj : (Lit.int .i64 j).wf = true) :
  Calls Try.prog 12 #[p, .int .i64 s, .int .i64 i, .int .i64 j] w (DVal DocD p l S (mkV (kPut l s i j)) w) := by
 refine h.val ?_
 obtain ⟨B, M, bv, bs, rfl, -⟩ := id h
 have hs := isSite_any s
 have hG := fun bx W (hI : RBox w bx W) => both_doc (fbR w) 26 (fun args W => enters_of Try.func26 (by kernel_rfl) rfl args W) (.pointer (some ⟨B, 0, none⟩)) (gapR l) (fun q bx W hI _ => (nGap q _ l S W (h.keep fun b hb => hI.up.block b (h.low b hb))).mono fun e w' he => ⟨he.1, RBox.below hI he.2⟩) s i j wi wj bx W hI
 have h0 : RBox w (boxAt w.heap.size (.cells #[.int .i64 0, .int .i64 0, .int .i64 0] 27 (0, 0)) noBox) (w.alloc (.cells #[.int .i64 0, .int .i64 0, .int .i64 0] 27)) := (RBox.start w).new _ _
 have H0 := Lib.hid h0
 have HG := Lib.hid hG
 clear h hG h0 wi wj
 obtain ⟨R, hR⟩ : ∃ R, w.heap.size = R := ⟨_, rfl⟩
 rw [hR] at H0
 cases hb : siB s with
 | false =>
  rw [hb] at hs
  have HV := Lib.hid (kPut_no (l := l) (i := i) (j := j) hb)
  clear hb HG
  go_enter Try.func12, Try.ntmps12
  go_upto_region 1 with fail
  generalize w.alloc (.cells #[.int .i64 0, .int .i64 0, .int .i64 0] 27) = w1 at H0 ⊢
  clear hR
  go_upto_region 2 with (go_at_call 24; refine (hs _).mono ?_; rintro e _ ⟨rfl, rfl⟩)
  clear hs
  have z0 := ((fbR w).at H0.out (B := R) (cs := #[.int .i64 0, .int .i64 0, .int .i64 0]) (t := 27) (boxAt_same _ _ _) 0).1
  have y0 := ((fbR w).at H0.out (B := R) (cs := #[.int .i64 0, .int .i64 0, .int .i64 0]) (t := 27) (boxAt_same _ _ _) 0).2
  have z1 := ((fbR w).at H0.out (B := R) (cs := #[.int .i64 0, .int .i64 0, .int .i64 0]) (t := 27) (boxAt_same _ _ _) 1).1
  have y1 := ((fbR w).at H0.out (B := R) (cs := #[.int .i64 0, .int .i64 0, .int .i64 0]) (t := 27) (boxAt_same _ _ _) 1).2
  have z2 := ((fbR w).at H0.out (B := R) (cs := #[.int .i64 0, .int .i64 0, .int .i64 0]) (t := 27) (boxAt_same _ _ _) 2).1
  have y2 := ((fbR w).at H0.out (B := R) (cs := #[.int .i64 0, .int .i64 0, .int .i64 0]) (t := 27) (boxAt_same _ _ _) 2).2
  have HK := Lib.hid ((fbR w).mark H0.out (M := R) (boxAt_same _ _ _) 0 0 0)
  clear H0
  go_wp2
  refine bodyPost_ret (mkb_result (fn := Try.f12) (p := 8) (u := 9) rfl _ _ R 0 0 0 (.int .i64 1) rfl rfl ((fbR w).box HK.out _ _ (boxAt_same _ _ _))) rfl ?_
  exact ⟨by rw [HV.out]; rfl, HK.out.up⟩
 | true =>
  rw [hb] at hs
  have hv := kPut_both (l := l) (i := i) (j := j) hb
  rw [hv]
  obtain ⟨x, hx⟩ : ∃ x, kBoth (gapR l) s i j = x := ⟨_, rfl⟩
  obtain ⟨x1, x2, x3, x4⟩ := x
  have hG := HG.out
  rw [hx, mkV4] at hG
  have HV := Lib.hid hx
  clear hv hx hb HG
  have HG := Lib.hid hG
  clear hG
  unfold mkA at HG
  go_enter Try.func12, Try.ntmps12
  go_upto_region 1 with fail
  generalize w.alloc (.cells #[.int .i64 0, .int .i64 0, .int .i64 0] 27) = w1 at H0 ⊢
  clear hR
  go_wp2_with (go_at_call 24; refine (hs _).mono ?_; rintro e _ ⟨rfl, rfl⟩)
  refine (HG.out _ _ H0.out).mono ?_
  rintro e w3 ⟨rfl, hI⟩
  clear HG H0 hs
  have z0 := ((fbR w).at hI (B := R) (cs := #[.int .i64 0, .int .i64 0, .int .i64 0]) (t := 27) (boxAt_same _ _ _) 0).1
  have y0 := ((fbR w).at hI (B := R) (cs := #[.int .i64 0, .int .i64 0, .int .i64 0]) (t := 27) (boxAt_same _ _ _) 0).2
  have z1 := ((fbR w).at hI (B := R) (cs := #[.int .i64 0, .int .i64 0, .int .i64 0]) (t := 27) (boxAt_same _ _ _) 1).1
  have y1 := ((fbR w).at hI (B := R) (cs := #[.int .i64 0, .int .i64 0, .int .i64 0]) (t := 27) (boxAt_same _ _ _) 1).2
  have z2 := ((fbR w).at hI (B := R) (cs := #[.int .i64 0, .int .i64 0, .int .i64 0]) (t := 27) (boxAt_same _ _ _) 2).1
  have y2 := ((fbR w).at hI (B := R) (cs := #[.int .i64 0, .int .i64 0, .int .i64 0]) (t := 27) (boxAt_same _ _ _) 2).2
  have HK := Lib.hid ((fbR w).mark hI (M := R) (boxAt_same _ _ _) x1 x2 x3)
  clear hI
  go_wp2
  refine bodyPost_ret (mkb_result (fn := Try.f12) (p := 8) (u := 9) rfl _ _ R x1 x2 x3 (.int .i64 x4) rfl rfl ((fbR w).box HK.out _ _ (boxAt_same _ _ _))) rfl ?_
  exact ⟨by rw [HV.out]; rfl, HK.out.up⟩
end Go.Proofs.Ytmedickofiielaa

namespace Go.Proofs.Ytmedickofiielaa
open Go.RowKit

def ka : KA where
 D := DocD
 new_yes := fun v l w h hw hl hm => dD_new_yes v l w h hw hl hm
 kput := fun s i j p l S w h _ hi hj => cPut_any s i j p l S w h hi hj
 kmove := fun m1 m2 m3 s q n k a size t sp xs w hL h _ _ h2 h3 _ ht hx hwf => cMove_any m1 m2 m3 s q n k a size t sp xs w hL h ht hx hwf h2 h3
theorem kdrop : KDrop := fun s a t sp xs w h _ ha ht hx hwf => cDrop_any s a t sp xs w h ha ht hx hwf
end Go.Proofs.Ytmedickofiielaa
