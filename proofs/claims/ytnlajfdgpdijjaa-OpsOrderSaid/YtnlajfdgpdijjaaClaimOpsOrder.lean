/- OpsOrder is TRUE of every three operations: of two of unlike names, or numbers, just one is before the other one; what is before is so through others. Conditions: the row's own (none: it lists no package-level variable). -/
import Derived.Test.YtnlajfdgpdijjaaOpsAsked0
import Derived.Test.YtnlajfdgpdijjaaShut
import Derived.ProofKit
import Derived.OpenShut
import Derived.Carry
import Derived.ChangeSlices
import Derived.Deep.Slices
import Derived.Deep.Fields
import Derived.Test.YtnlajfdgpdijjaaOpsPutR
import Derived.Test.YtnlajfdgpdijjaaOpsSameP
import Derived.Test.YtnlajfdgpdijjaaLawOpsOrder

/- Operations and edits that came in by value. -/
namespace Go.Proofs.Ytnlajfdgpdijjaa
open Go.ChangeShapes Go.WideShapes Go.ChangeAt Go.RowKit Go.Deep

theorem cellsSpanT : Try.prog.cellsOf 69 = 2 := by kernel_rfl
set_option maxRecDepth 100000 in
/-- A slice of spans that came in. -/
theorem open_spansT {H : Type} {enc : TypeId × Value → H} {W : World} {v : Value} {fuel : Nat} {y : DataW H × List MemPlace}
    (hf : DataW.trod enc Try.prog W 0 (fun _ => true) true fuel 24 [v] = some y) : ∃ xs : List Sp, SpAt W v xs ∧ xs.length ≤ maxLen ∧ ∀ s ∈ xs, (Lit.int .i64 s.1).wf = true ∧ (Lit.int .i64 s.2).wf = true := by
  rcases open_slice Try.underlying24 hf with ⟨hcs, _⟩ | ⟨a, len, cap, m, n, D, Pl, hcs, _, hl, hm, hmm, _, hx⟩
  · obtain rfl : v = _ := by simpa using hcs
    exact ⟨[], SpAt.nil W, Nat.zero_le _, by simp⟩
  · obtain rfl : v = _ := by simpa using hcs
    simp only [if_true] at hmm
    obtain ⟨b, off, spot⟩ := a
    have key : ∀ i, i < len → ∃ s : Sp, spot = none ∧ W.cell? ⟨b, off + i * 2, none⟩ = some (.int .i64 s.1) ∧ W.cell? ⟨b, off + i * 2 + 1, none⟩ = some (.int .i64 s.2) ∧ (Lit.int .i64 s.1).wf = true ∧ (Lit.int .i64 s.2).wf = true := by
      intro i hi
      obtain ⟨cs, hc, ht⟩ := hx i (by omega)
      rw [cellsSpanT] at hc
      obtain ⟨xs, k, _, _, _, hxl, hfd⟩ := DataW.trod_struct Try.underlying69 ht
      obtain ⟨_, hlen, hcell⟩ := World.cells?_some hc
      match cs, hlen, xs, hxl with
      | [c0, c1], _, [y0, y1], _ =>
        have g0 : DataW.trod enc Try.prog W 0 (fun _ => true) true k 3 [c0] = some y0 := hfd 0 _ rfl
        have g1 : DataW.trod enc Try.prog W 0 (fun _ => true) true k 3 [c1] = some y1 := hfd 1 _ rfl
        obtain ⟨x0, e0, _, w0⟩ := DataW.trod_int Try.underlying3 g0
        obtain ⟨x1, e1, _, w1⟩ := DataW.trod_int Try.underlying3 g1
        cases e0
        cases e1
        have h0 := hcell 0 (by decide)
        have h1 := hcell 1 (by decide)
        have hs : spot = none := by
          obtain ⟨cs2, hc2, ht2⟩ := hx 0 (by omega)
          rw [cellsSpanT] at hc2
          obtain ⟨_, hlen2, hcell2⟩ := World.cells?_some hc2
          have hz := hcell2 0 (by decide)
          match cs2, hlen2, hz with
          | [e0, e1], _, hz => simpa [Addr.add] using World.cell?_spot (v := e0) hz
        subst hs
        simp only [add_plain, Nat.add_zero] at h0 h1
        exact ⟨(x0, x1), rfl, h0, h1, w0, w1⟩
    haveI : Inhabited Sp := ⟨(0, 0)⟩
    obtain ⟨f, hf'⟩ := choose_lt (α := Sp) key
    have hL : ((List.range len).map f).length = len := by simp
    refine ⟨(List.range len).map f, ⟨some ⟨b, off, spot⟩, cap, by rw [hL], fun hne => ?_⟩, by rw [hL]; omega, fun s hs => ?_⟩
    · have h0 : 0 < len := by
        rcases Nat.eq_zero_or_pos len with h | h
        · subst h; exact absurd rfl hne
        · exact h
      obtain ⟨rfl, _⟩ := hf' 0 h0
      refine ⟨b, off, rfl, fun i hi => ?_⟩
      rw [hL] at hi
      rw [show ((List.range len).map f).getD i (0, 0) = f i by simp [List.getD, hi]]
      exact ⟨(hf' i hi).2.1, (hf' i hi).2.2.1⟩
    · obtain ⟨i, hi, rfl⟩ := List.mem_map.1 hs
      exact (hf' i (List.mem_range.1 hi)).2.2.2
theorem cellsOp : Try.prog.cellsOf 26 = 7 := by kernel_rfl
set_option maxRecDepth 100000 in
/-- An operation that came in by value. -/
theorem open_op {H : Type} {enc : TypeId × Value → H} {W : World} {r : Reach} {b0 : Nat} {v : Value} {d : DataW H} {ps : List MemPlace} (hval : Value.okWide Try.prog W r b0 26 v)
    (hd : DataW.Trod enc Try.prog W 0 (fun _ => true) true 26 v d ps) : ∃ (s q n k a : Int) (t : ByteArray) (sp : Value) (xs : List Sp), v = opV s q n k a t sp ∧ NWf s q n k a ∧ t.size ≤ maxLen ∧ SpAt W sp xs ∧ sWf xs := by
  simp only [Value.okWide, Try.underlying26] at hval
  obtain ⟨cs, rfl, hsz, _⟩ := hval
  rw [cellsOp] at hsz
  obtain ⟨l⟩ := cs
  obtain ⟨fuel, hf⟩ := hd
  obtain ⟨xs, m, _, _, _, hl, hg⟩ := DataW.trod_struct Try.underlying26 hf
  match l, hsz, xs, hl with
  | [c0, c1, c2, c3, c4, c5, c6], _, [y0, y1, y2, y3, y4, y5], _ =>
    have g0 : DataW.trod enc Try.prog W 0 (fun _ => true) true m 23 [c0, c1] = some y0 := hg 0 _ rfl
    have g1 : DataW.trod enc Try.prog W 0 (fun _ => true) true m 3 [c2] = some y1 := hg 1 _ rfl
    have g2 : DataW.trod enc Try.prog W 0 (fun _ => true) true m 3 [c3] = some y2 := hg 2 _ rfl
    have g3 : DataW.trod enc Try.prog W 0 (fun _ => true) true m 3 [c4] = some y3 := hg 3 _ rfl
    have g4 : DataW.trod enc Try.prog W 0 (fun _ => true) true m 9 [c5] = some y4 := hg 4 _ rfl
    have g5 : DataW.trod enc Try.prog W 0 (fun _ => true) true m 24 [c6] = some y5 := hg 5 _ rfl
    obtain ⟨zs, m', _, _, _, hl', hg'⟩ := DataW.trod_struct Try.underlying23 g0
    match zs, hl' with
    | [z0, z1], _ =>
      have f0 : DataW.trod enc Try.prog W 0 (fun _ => true) true m' 3 [c0] = some z0 := hg' 0 _ rfl
      have f1 : DataW.trod enc Try.prog W 0 (fun _ => true) true m' 3 [c1] = some z1 := hg' 1 _ rfl
      obtain ⟨s, e0, _, w0⟩ := DataW.trod_int Try.underlying3 f0
      obtain ⟨q, e1, _, w1⟩ := DataW.trod_int Try.underlying3 f1
      obtain ⟨n, e2, _, w2⟩ := DataW.trod_int Try.underlying3 g1
      obtain ⟨k, e3, _, w3⟩ := DataW.trod_int Try.underlying3 g2
      obtain ⟨a, e4, _, w4⟩ := DataW.trod_int Try.underlying3 g3
      obtain ⟨t, e5, _, w5⟩ := DataW.trod_string Try.underlying9 g4
      obtain ⟨xs, hS, _, hw⟩ := open_spansT g5
      cases e0; cases e1; cases e2; cases e3; cases e4; cases e5
      exact ⟨s, q, n, k, a, t, c6, xs, rfl, ⟨w0, w1, w2, w3, w4⟩, w5, hS, hw⟩
theorem cellsEdit : Try.prog.cellsOf 49 = 7 := by kernel_rfl
set_option maxRecDepth 100000 in
/-- An edit that came in by value. -/
theorem open_edit {H : Type} {enc : TypeId × Value → H} {W : World} {r : Reach} {b0 : Nat} {v : Value} {d : DataW H} {ps : List MemPlace} (hval : Value.okWide Try.prog W r b0 49 v)
    (hd : DataW.Trod enc Try.prog W 0 (fun _ => true) true 49 v d ps) : ∃ (s q n k a l : Int) (t : ByteArray), v = edV s q n k a l t ∧ NWf s q n k a ∧ (Lit.int .i64 l).wf = true ∧ t.size ≤ maxLen := by
  simp only [Value.okWide, Try.underlying49] at hval
  obtain ⟨cs, rfl, hsz, _⟩ := hval
  rw [cellsEdit] at hsz
  obtain ⟨l⟩ := cs
  obtain ⟨fuel, hf⟩ := hd
  obtain ⟨xs, m, _, _, _, hl, hg⟩ := DataW.trod_struct Try.underlying49 hf
  match l, hsz, xs, hl with
  | [c0, c1, c2, c3, c4, c5, c6], _, [y0, y1, y2, y3, y4, y5], _ =>
    have g0 : DataW.trod enc Try.prog W 0 (fun _ => true) true m 23 [c0, c1] = some y0 := hg 0 _ rfl
    have g1 : DataW.trod enc Try.prog W 0 (fun _ => true) true m 3 [c2] = some y1 := hg 1 _ rfl
    have g2 : DataW.trod enc Try.prog W 0 (fun _ => true) true m 3 [c3] = some y2 := hg 2 _ rfl
    have g3 : DataW.trod enc Try.prog W 0 (fun _ => true) true m 3 [c4] = some y3 := hg 3 _ rfl
    have g4 : DataW.trod enc Try.prog W 0 (fun _ => true) true m 3 [c5] = some y4 := hg 4 _ rfl
    have g5 : DataW.trod enc Try.prog W 0 (fun _ => true) true m 9 [c6] = some y5 := hg 5 _ rfl
    obtain ⟨zs, m', _, _, _, hl', hg'⟩ := DataW.trod_struct Try.underlying23 g0
    match zs, hl' with
    | [z0, z1], _ =>
      have f0 : DataW.trod enc Try.prog W 0 (fun _ => true) true m' 3 [c0] = some z0 := hg' 0 _ rfl
      have f1 : DataW.trod enc Try.prog W 0 (fun _ => true) true m' 3 [c1] = some z1 := hg' 1 _ rfl
      obtain ⟨s, e0, _, w0⟩ := DataW.trod_int Try.underlying3 f0
      obtain ⟨q, e1, _, w1⟩ := DataW.trod_int Try.underlying3 f1
      obtain ⟨n, e2, _, w2⟩ := DataW.trod_int Try.underlying3 g1
      obtain ⟨k, e3, _, w3⟩ := DataW.trod_int Try.underlying3 g2
      obtain ⟨a, e4, _, w4⟩ := DataW.trod_int Try.underlying3 g3
      obtain ⟨l, e5, _, w5⟩ := DataW.trod_int Try.underlying3 g4
      obtain ⟨t, e6, _, w6⟩ := DataW.trod_string Try.underlying9 g5
      cases e0; cases e1; cases e2; cases e3; cases e4; cases e5; cases e6
      exact ⟨s, q, n, k, a, l, t, rfl, ⟨w0, w1, w2, w3, w4⟩, w5, w6⟩
end Go.Proofs.Ytnlajfdgpdijjaa

/- The program's own functions do what the laws lean on: all but the two that read. -/
namespace Go.Proofs.Ytnlajfdgpdijjaa
open Go.RowKit

theorem oc0 : OC0 where
  may := fun s q n k a size t sp xs w hL hS g _ => pMayOp_any s q n k a size t sp xs w hL hS (by have := g.x; omega) g.w
  adds := fun s q n k a t sp xs w hL hS _ => pAdds_any s q n k a t sp xs w hL hS
  same := fun s q n k a t sp xs s' q' n' k' a' t' sp' ys w h1 h2 g _ => pSame_any s q n k a t sp s' q' n' k' a' t' sp' xs ys w h1 h2 (by have := g.x; omega)
  before := fun s q n k a t sp s' q' n' k' a' t' sp' w _ _ => pBefore_any s q n k a t sp s' q' n' k' a' t' sp' w
  put := fun s q n k a t sp xs w hL hS g => pPut_any s q n k a t sp xs w hL hS (by have := g.x; omega) g.w
  mayE := fun s q c k a l t w hL _ => pMayEdit_any s q c k a l t w hL
  putE := fun s q c k a l t w hL _ => pPutEdit_any s q c k a l t w hL
end Go.Proofs.Ytnlajfdgpdijjaa

namespace Go.Proofs.Ytnlajfdgpdijjaa
open Go.ChangeShapes Go.WideShapes Go.ChangeAt Go.RowKit
open Go.ChangeMaps (open_string)

set_option maxRecDepth 100000 in
theorem opsOrder_lifted (os : Os) (started : os.Started) (H : Type) (enc : TypeId × Value → H) :
    ReturnsInHanded {} Try.checked os 7 .any (Rows.opsOrderSpec.pre6 enc Try.prog Try.f7 Rows.opsOrderRow.domain false)
      (Rows.opsOrderSpec.post enc Try.prog Try.f7 false true false false) := by
  refine returnsInHanded_of_change (C := Try.checked) own started (by kernel_rfl) Try.func7
    (ChangeSpec.witness6 (enc := enc) (C := Try.checked) false ⟨#[], #[.agg #[.int .i64 0, .int .i64 0, .int .i64 0, .int .i64 0, .int .i64 0, .string ⟨#[]⟩, .slice none 0 0], .agg #[.int .i64 0, .int .i64 0, .int .i64 0, .int .i64 0, .int .i64 0, .string ⟨#[]⟩, .slice none 0 0], .agg #[.int .i64 0, .int .i64 0, .int .i64 0, .int .i64 0, .int .i64 0, .string ⟨#[]⟩, .slice none 0 0]], []⟩ 8 (by kernel_rfl) (by kernel_rfl) (by kernel_rfl) (by kernel_rfl)) ?_
  intro W base args ds gs before hval0 hW _ _
  have hval : ∀ (j : Nat) t v, Try.f7.params[j]? = some t → args[j]? = some v → Value.okWide Try.prog W .any base t v := hval0
  have hW' := hW
  obtain ⟨p, q, hA0, hV, rfl, _, _⟩ := hW
  have hA : DataW.TrodAll enc Try.prog W 0 (fun _ => true) true Try.f7.params.toList args.toList ds p := hA0
  have hA1 := hA
  rw [Try.params7] at hA hval
  obtain ⟨v0, v1, v2, d0, d1, d2, p0, p1, p2, rfl, rfl, rfl, h0, h1, h2⟩ := trodAll_three hA
  obtain ⟨rfl, rfl⟩ := trodVars_none hV
  obtain ⟨os0, oq0, on0, ok0, oa0, ot0, op0, x0, rfl, wn0, wt0, r0, ws0⟩ := open_op (hval 0 26 v0 rfl rfl) h0
  obtain ⟨os1, oq1, on1, ok1, oa1, ot1, op1, x1, rfl, wn1, wt1, r1, ws1⟩ := open_op (hval 1 26 v1 rfl rfl) h1
  obtain ⟨os2, oq2, on2, ok2, oa2, ot2, op2, x2, rfl, wn2, wt2, r2, ws2⟩ := open_op (hval 2 26 v2 rfl rfl) h2
  simp only [List.append_nil] at hW'
  refine (lawOpsOrder_any oc0 os0 oq0 on0 ok0 oa0 ot0 op0 os1 oq1 on1 ok1 oa1 ot1 op1 os2 oq2 on2 ok2 oa2 ot2 op2 W wn0 wn1 wn2).mono fun e W' ⟨he, hb⟩ => ?_
  subst he
  exact ⟨_, rfl, _, _, _, [], _, [], hW', trodAll_mk1 (shut_bool Try.underlying4 _), trodAll_below laidOut hb _ (by kernel_rfl) _ _ _ (fun x hx => by first | (exfalso; simp at hx; done) | exact hW'.lt x (by simpa using hx)) hA1, rfl, hb.frame _, fun h => by cases h⟩

theorem opsOrder_holds : Rows.OpsOrderSaid :=
  OpenClaim.holds_of_wide 7 Try.f7 rfl rfl rfl rfl rfl rfl rfl ⟨rfl, rfl, rfl, rfl, rfl⟩ rfl rfl rfl rfl rfl (by kernel_rfl) Try.func7 (by kernel_rfl)
    (of_decide_eq_true (by kernel_rfl)) (by unfold Func.isWrapper; first | (rw [if_pos (by decide +kernel)]; kernel_rfl) | (rw [if_neg (by decide +kernel)]; exact ⟨rfl, rfl⟩))
    (fun os started H enc _ => opsOrder_lifted os started H enc)
#print axioms opsOrder_holds
end Go.Proofs.Ytnlajfdgpdijjaa
