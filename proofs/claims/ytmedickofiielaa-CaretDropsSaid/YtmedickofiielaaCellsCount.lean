/- Counts of cells: size, of, add; counted. -/
import Derived.Test.YtmedickofiielaaCellsOffs
import Derived.Test.YtmedickofiielaaGReads64
import Derived.Test.YtmedickofiielaaGNumsPlain
import Derived.ProofKit
import Derived.IntWalk
import Derived.Test.YtmedickofiielaaGSpansPlain
namespace Go.Proofs.Ytmedickofiielaa
open Go.RowKit

def liveN (l : List PCell) : Nat := l.countP fun c => !c.gone
def goneN (l : List PCell) : Nat := l.countP fun c => c.gone
theorem liveN_gone (l : List PCell) : liveN l + goneN l = l.length := by
 unfold liveN goneN
 induction l with
 | nil => rfl
 | cons c r ih =>
  rw [List.countP_cons, List.countP_cons, List.length_cons, ← ih]
  cases c.gone <;> simp <;> omega
theorem liveN_append (a b : List PCell) : liveN (a ++ b) = liveN a + liveN b := List.countP_append
theorem goneN_append (a b : List PCell) : goneN (a ++ b) = goneN a + goneN b := List.countP_append
theorem liveN_take {l : List PCell} {k : Nat} {c : PCell} (h : l[k]? = some c) : liveN (l.take (k + 1)) = liveN (l.take k) + (if c.gone then 0 else 1) := by
 rw [List.take_add_one, h, liveN_append]
 cases hg : c.gone <;> simp [liveN, hg]
theorem goneN_take {l : List PCell} {k : Nat} {c : PCell} (h : l[k]? = some c) : goneN (l.take (k + 1)) = goneN (l.take k) + (if c.gone then 1 else 0) := by
 rw [List.take_add_one, h, goneN_append]
 cases hg : c.gone <;> simp [goneN, hg]
theorem set_self {cs : Array Value} {o : Nat} {v : Value} (h : cs[o]? = some v) : cs.setIfInBounds o v = cs := by
 apply Array.ext_getElem?
 intro i
 rw [Array.getElem?_setIfInBounds]
 split
 ·next e => subst e; rw [if_pos (Array.getElem?_eq_some_iff.1 h).1, h]
 ·rfl
abbrev cntV (a b : Int) : Value := .agg #[.int .i64 a, .int .i64 b]
theorem infoCnt : (Try.prog.info? 93).map (·.size) = some 2 := by kernel_rfl

set_option maxRecDepth 100000 in
theorem csize_any (a b : Int) (w : World) (ha : -1000000000000000 ≤ a ∧ a ≤ 1000000000000000) (hb : -1000000000000000 ≤ b ∧ b ≤ 1000000000000000) : Calls Try.prog 55 #[cntV a b] w fun e w' => e = .returned (.int .i64 (a + b)) ∧ Below w.heap.size w w' := by
 have hs : IntKind.i64.wrap (a + b) = a + b := IntWalk.i64_in _ (by omega)
 have HB := Lib.hid ((Below.refl w.heap.size w).alloc (Nat.le_refl _) (.cells #[.int .i64 a, .int .i64 b] 93))
 clear ha hb
 go_enter Try.func55, Try.ntmps55
 go_wp2
 go_ret
 exact ⟨rfl, HB.out⟩
set_option maxRecDepth 100000 in
theorem cof_any (a b : Int) (g : Bool) (w : World) : Calls Try.prog 54 #[cntV a b, .bool g] w fun e w' => e = .returned (.int .i64 (if g then b else a)) ∧ Below w.heap.size w w' := by
 have HB := Lib.hid ((Below.refl w.heap.size w).alloc (Nat.le_refl _) (.cells #[.int .i64 a, .int .i64 b] 93))
 cases g
 all_goals
  go_enter Try.func54, Try.ntmps54
  go_wp2
  go_ret
  exact ⟨rfl, HB.out⟩
set_option maxRecDepth 100000 in
set_option maxHeartbeats 2000000 in
theorem cadd_any (g o : Nat) (cs : Array Value) (t : TypeId) (x y a b : Int) (w : World) (hg : w.heap[g]? = some (.cells cs t (0, 0))) (hx : cs[o]? = some (.int .i64 x)) (hy : cs[o + 1]? = some (.int .i64 y))
  (bx : -1000000000000000 ≤ x ∧ x ≤ 1000000000000000) (by' : -1000000000000000 ≤ y ∧ y ≤ 1000000000000000) (ba : -1000000000000000 ≤ a ∧ a ≤ 1000000000000000) (bb : -1000000000000000 ≤ b ∧ b ≤ 1000000000000000) :
  Calls Try.prog 60 #[.pointer (some ⟨g, o, none⟩), cntV a b] w fun e w' => (∃ v, e = .returned v) ∧
   w'.heap[g]? = some (.cells ((cs.setIfInBounds o (.int .i64 (x + a))).setIfInBounds (o + 1) (.int .i64 (y + b))) t (0, 0)) ∧ Keep (fun k => k = g) w.heap.size w w' := by
 have hs1 : IntKind.i64.wrap (x + a) = x + a := IntWalk.i64_in _ (by omega)
 have hs2 : IntKind.i64.wrap (y + b) = y + b := IntWalk.i64_in _ (by omega)
 have hlt := box_lt hg
 have hO : o < cs.size := (Array.getElem?_eq_some_iff.1 hx).1
 have hO1 : o + 1 < cs.size := (Array.getElem?_eq_some_iff.1 hy).1
 have hy1 : (cs.setIfInBounds o (.int .i64 (x + a)))[o + 1]? = some (.int .i64 y) := by rw [Array.getElem?_setIfInBounds, if_neg (by omega)]; exact hy
 have R1 : (w.alloc (.cells #[.int .i64 a, .int .i64 b] 93)).heap[g]? = some (.cells cs t (0, 0)) := (Below.heap_alloc _ _ _ hlt).trans hg
 have B1 : (w.alloc (.cells #[.int .i64 a, .int .i64 b] 93)).heap[w.heap.size]? = some (.cells #[.int .i64 a, .int .i64 b] 93 (0, 0)) := heap_new w _
 have K1 : Keep (fun k => k = g) w.heap.size w (w.alloc (.cells #[.int .i64 a, .int .i64 b] 93)) := (Keep.refl _ _ _).alloc (Nat.le_refl _) _
 have HX := Lib.hid hx
 have HY := Lib.hid hy1
 have HG := Lib.hid (And.intro hlt (And.intro hO hO1))
 clear bx by' ba bb hg hx hy hy1 hlt hO hO1
 go_enter Try.func60, Try.ntmps60
 go_wp2
 generalize w.alloc (.cells #[.int .i64 a, .int .i64 b] 93) = w2 at R1 B1 K1 ⊢
 obtain ⟨hlt, hO, hO1⟩ := HG.out
 have hne : w.heap.size ≠ g := by omega
 clear hO hO1
 refine wp_region_held_drew (S := fun X => (∃ z, X.heap[g]? = some (.cells ((cs).setIfInBounds (o) z) t (0, 0))) ∧ X.heap[w.heap.size]? = some (.cells #[.int .i64 a, .int .i64 b] 93 (0, 0))) (by kernel_rfl) ⟨⟨_, R1.trans (by rw [set_self HX.out])⟩, B1⟩ (fun hHeld => ?_)
 refine tk0 (i := 0) rfl ?_
 try simp only [td]
 refine tk0 (i := 1) rfl ?_
 try simp only [td]
 refine tk0 (i := 2) rfl ?_
 try simp only [td]
 refine tk0 (i := 4) rfl ?_
 try simp only [td]
 refine tk (i := 5) (v := ?_) rfl (Or.inl ⟨rfl, ?hy5⟩) ?_
 case hy5 =>
  intro W hS
  have c1 := box_cell hS.2 0
  go_simp
  try with_reducible rfl
 try simp only [td]
 refine rd 3 rfl fun K hK => ?_
 have c0 : (w2.drew).cell? ⟨g, o, none⟩ = some (.int .i64 x) := (box_cell (w := w2.drew) R1 (o)).trans HX.out
 go_simp
 refine hK.out _ _ (hHeld) (fun hX => ?_)
 clear hK K hHeld
 have hHeld := hX
 clear hX
 refine tk0 (i := 6) rfl ?_
 try simp only [td]
 refine tk0 (i := 7) rfl ?_
 try simp only [td]
 refine tk0 (i := 8) rfl ?_
 try simp only [td]
 refine rd 9 rfl fun K hK => ?_
 clear c0
 have c0 : (w2.drew).cell? ⟨g, o, none⟩ = some (.int .i64 x) := (box_cell (w := w2.drew) R1 (o)).trans HX.out
 have f0 := box_frozen (w := w2.drew) R1 (o)
 go_simp
 have R2 : (w2.setCell ⟨g, o, none⟩ (.int .i64 (x + a))).drew.heap[g]? = some (.cells ((cs).setIfInBounds (o) (.int .i64 (x + a))) t (0, 0)) := box_set (w := w2) R1 (o) _
 have B2 : (w2.setCell ⟨g, o, none⟩ (.int .i64 (x + a))).drew.heap[w.heap.size]? = _ := (box_other (w := w2) hne (o) _).trans B1
 have K2 := (K1.setCell (p := ⟨g, o, none⟩) (Or.inl rfl) (.int .i64 (x + a))).drewN 1
 refine hK.out _ _ (⟨⟨_, R2⟩, B2⟩) (fun hX => ?_)
 clear hK K hHeld
 have hHeld := hX
 clear hX
 refine wpAnyH_done (by kernel_rfl) ?_ _
 have K3 : Keep (fun k => k = g) w.heap.size w (w2.setCell ⟨g, o, none⟩ (.int .i64 (x + a))).drew := K2
 clear K2 hHeld c0 f0 R1 B1 K1
 generalize (w2.setCell ⟨g, o, none⟩ (.int .i64 (x + a))).drew = w3 at R2 B2 K3 ⊢
 go_wp2_with fail
 refine wp_region_held_drew (S := fun X => (∃ z, X.heap[g]? = some (.cells (((cs.setIfInBounds o (.int .i64 (x + a)))).setIfInBounds (o + 1) z) t (0, 0))) ∧ X.heap[w.heap.size]? = some (.cells #[.int .i64 a, .int .i64 b] 93 (0, 0))) (by kernel_rfl) ⟨⟨_, R2.trans (by rw [set_self HY.out])⟩, B2⟩ (fun hHeld => ?_)
 refine tk0 (i := 0) rfl ?_
 try simp only [td]
 refine tk0 (i := 1) rfl ?_
 try simp only [td]
 refine tk0 (i := 2) rfl ?_
 try simp only [td]
 refine tk0 (i := 4) rfl ?_
 try simp only [td]
 refine tk (i := 5) (v := ?_) rfl (Or.inl ⟨rfl, ?hy13⟩) ?_
 case hy13 =>
  intro W hS
  have c1 := box_cell hS.2 1
  go_simp
  try with_reducible rfl
 try simp only [td]
 refine rd 3 rfl fun K hK => ?_
 have c0 : (w3.drew).cell? ⟨g, o + 1, none⟩ = some (.int .i64 y) := (box_cell (w := w3.drew) R2 (o + 1)).trans HY.out
 go_simp
 refine hK.out _ _ (hHeld) (fun hX => ?_)
 clear hK K hHeld
 have hHeld := hX
 clear hX
 refine tk0 (i := 6) rfl ?_
 try simp only [td]
 refine tk0 (i := 7) rfl ?_
 try simp only [td]
 refine tk0 (i := 8) rfl ?_
 try simp only [td]
 refine rd 9 rfl fun K hK => ?_
 clear c0
 have c0 : (w3.drew).cell? ⟨g, o + 1, none⟩ = some (.int .i64 y) := (box_cell (w := w3.drew) R2 (o + 1)).trans HY.out
 have f0 := box_frozen (w := w3.drew) R2 (o + 1)
 go_simp
 have Q2 : (w3.setCell ⟨g, o + 1, none⟩ (.int .i64 (y + b))).drew.heap[g]? = some (.cells (((cs.setIfInBounds o (.int .i64 (x + a)))).setIfInBounds (o + 1) (.int .i64 (y + b))) t (0, 0)) := box_set (w := w3) R2 (o + 1) _
 have P2 : (w3.setCell ⟨g, o + 1, none⟩ (.int .i64 (y + b))).drew.heap[w.heap.size]? = _ := (box_other (w := w3) hne (o + 1) _).trans B2
 have L2 := (K3.setCell (p := ⟨g, o + 1, none⟩) (Or.inl rfl) (.int .i64 (y + b))).drewN 1
 refine hK.out _ _ (⟨⟨_, Q2⟩, P2⟩) (fun hX => ?_)
 clear hK K hHeld
 have hHeld := hX
 clear hX
 refine wpAnyH_done (by kernel_rfl) ?_ _
 have L3 : Keep (fun k => k = g) w.heap.size w (w3.setCell ⟨g, o + 1, none⟩ (.int .i64 (y + b))).drew := L2
 clear L2 hHeld c0 f0 R2 B2 K3
 generalize (w3.setCell ⟨g, o + 1, none⟩ (.int .i64 (y + b))).drew = w5 at Q2 P2 L3 ⊢
 go_wp2
 go_end0
 exact ⟨⟨_, rfl⟩, Q2, L3⟩
set_option maxRecDepth 100000 in
set_option maxHeartbeats 2000000 in
theorem counted_any (v : Value) (l : List PCell) (w : World) (h : CAt w v l) (hl : l.length ≤ 1000000) : Calls Try.prog 39 #[v] w fun e w' => e = .returned (cntV (liveN l) (goneN l)) ∧ Below w.heap.size w w' := by
 have HR := Lib.hid h
 obtain ⟨ao, cap, rfl, -⟩ := h.shape
 obtain ⟨N, hN⟩ : ∃ N, l.length = N := ⟨_, rfl⟩
 have HN := Lib.hid hN
 rw [hN] at hl
 clear hN h
 rw [HN.out]
 go_enter Try.func39, Try.ntmps39
 go_wp2
 have A0 : ((w.alloc (.cells #[.int .i64 0, .int .i64 0] 93)).alloc (.cells #[.int .i64 0, .int .i64 0] 93)).heap[w.heap.size + 1]? = some (.cells #[.int .i64 (liveN (l.take 0) : Nat), .int .i64 (goneN (l.take 0) : Nat)] 93 (0, 0)) := by
  have := heap_new (w.alloc (.cells #[.int .i64 0, .int .i64 0] 93)) (.cells #[.int .i64 0, .int .i64 0] 93)
  rwa [World.size_alloc] at this
 have A1 : ((w.alloc (.cells #[.int .i64 0, .int .i64 0] 93)).alloc (.cells #[.int .i64 0, .int .i64 0] 93)).heap[w.heap.size]? = some (.cells #[.int .i64 0, .int .i64 0] 93 (0, 0)) := (Below.heap_alloc _ _ _ (by simp)).trans (heap_new w _)
 have A2 : Below w.heap.size w ((w.alloc (.cells #[.int .i64 0, .int .i64 0] 93)).alloc (.cells #[.int .i64 0, .int .i64 0] 93)) := ((Below.refl _ w).alloc (Nat.le_refl _) _).alloc (by simp) _
 have HA := Lib.hid (And.intro A0 (And.intro A1 A2))
 clear A0 A1 A2
 go_loopw [8] (fun i wr => ∃ k : Nat, k ≤ N ∧ i = .int .i64 k ∧ RowKit.Hid (wr.heap[w.heap.size + 1]? = some (.cells #[.int .i64 (liveN (l.take k) : Nat), .int .i64 (goneN (l.take k) : Nat)] 93 (0, 0)) ∧ wr.heap[w.heap.size]? = some (.cells #[.int .i64 0, .int .i64 0] 93 (0, 0)) ∧ Below w.heap.size w wr)) (fun i _ => N - (intOf i).toNat)
 case atStart => exact ⟨0, Nat.zero_le _, rfl, HA⟩
 case round =>
  rename World => wo
  obtain ⟨k, hk, rfl, hI⟩ := hrel
  obtain ⟨b0, b1, b2⟩ := hI.out
  rcases Nat.lt_or_ge k N with hlt | hge
  ·obtain ⟨c, hc⟩ : ∃ c, l[k]? = some c := ⟨_, List.getElem?_eq_getElem (by rw [HN.out]; exact hlt)⟩
   have hrow := HR.out.below b2
   obtain ⟨b, off, cp, hv, c0, c1, c2, c3, c4⟩ := hrow.at hc
   rw [HN.out] at hv
   cases hv
   have hi0 : (0 : Int) ≤ (k : Int) ∧ (k : Int) < (N : Int) := ⟨by omega, by omega⟩
   have HL := Lib.hid (liveN_take hc)
   have HG := Lib.hid (goneN_take hc)
   have ll := liveN_gone (l.take k)
   rw [List.length_take] at ll
   obtain ⟨L0, hL0⟩ : ∃ L0, liveN (l.take k) = L0 := ⟨_, rfl⟩
   obtain ⟨G0, hG0⟩ : ∃ G0, goneN (l.take k) = G0 := ⟨_, rfl⟩
   rw [hL0] at b0 ll
   rw [hG0] at b0 ll
   have HL0 := Lib.hid hL0
   have HG0 := Lib.hid hG0
   have bl : L0 ≤ N ∧ G0 ≤ N := by omega
   clear hc hrow hI ll hL0 hG0
   obtain ⟨s, q, f, r, g⟩ := c
   dsimp only at c0 c1 c2 c3 c4
   have hlb := box_lt b0
   have e0 : (wo.alloc (.cells #[.int .i64 s, .int .i64 q, .int .i64 f, .int .i32 r, .bool g] 41)).heap[w.heap.size + 1]? = some (.cells #[.int .i64 L0, .int .i64 G0] 93 (0, 0)) := (Below.heap_alloc _ _ _ hlb).trans b0
   have e1 : (wo.alloc (.cells #[.int .i64 s, .int .i64 q, .int .i64 f, .int .i32 r, .bool g] 41)).heap[w.heap.size]? = some (.cells #[.int .i64 0, .int .i64 0] 93 (0, 0)) := (Below.heap_alloc _ _ _ (by omega)).trans b1
   have e2 : Below w.heap.size w (wo.alloc (.cells #[.int .i64 s, .int .i64 q, .int .i64 f, .int .i32 r, .bool g] 41)) := b2.alloc b2.size _
   have HE := Lib.hid (And.intro e0 (And.intro e1 e2))
   have d0 := box_cell e0 0
   have d1 := box_cell e0 1
   have f0 := box_frozen e0 0
   have f1 := box_frozen e0 1
   have hs1 : IntKind.i64.wrap ((L0 : Int) + 1) = (L0 : Int) + 1 := IntWalk.i64_in _ (by omega)
   have hs2 : IntKind.i64.wrap ((G0 : Int) + 1) = (G0 : Int) + 1 := IntWalk.i64_in _ (by omega)
   clear b0 b1 b2 e0 e1 e2 bl hlb
   cases g
   all_goals
    go_wp2
    go_roundw
    case rel =>
     refine ⟨k + 1, by omega, by go_num, Lib.hid ?_⟩
     obtain ⟨e0, e1, e2⟩ := HE.out
     rw [HL.out, HG.out, HL0.out, HG0.out]
     first
      | exact ⟨by have := box_set e0 0 (.int .i64 ((L0 : Int) + 1)); simpa using this, (box_other (by omega) 0 _).trans e1, e2.setCell (p := ⟨w.heap.size + 1, 0, none⟩) (by show w.heap.size ≤ w.heap.size + 1; omega) _⟩
      | exact ⟨by have := box_set e0 1 (.int .i64 ((G0 : Int) + 1)); simpa using this, (box_other (by omega) 1 _).trans e1, e2.setCell (p := ⟨w.heap.size + 1, 1, none⟩) (by show w.heap.size ≤ w.heap.size + 1; omega) _⟩
    case measure => simp [intOf]; omega
  ·obtain rfl : N = k := by omega
   rw [List.take_of_length_le (by rw [HN.out]; exact Nat.le_refl _)] at b0
   have d0 := box_cell b0 0
   have d1 := box_cell b0 1
   have f0 := box_frozen b1 0
   have f1 := box_frozen b1 1
   have g0 := box_cell b1 0
   have g1 := box_cell b1 1
   have HE := Lib.hid (And.intro b0 (And.intro b1 b2))
   clear hI b0 b1 b2 hge hk
   go_wp2
   obtain ⟨e0, e1, e2⟩ := HE.out
   have R3 := box_set (box_set e1 0 (.int .i64 (liveN l : Nat))) 1 (.int .i64 (goneN l : Nat))
   exact bodyPost_ret (results_cell_row (fn := Try.f39) (p := 2) rfl _ _ w.heap.size 93 _ (0, 0) _ rfl R3 Try.underlying93 rfl infoCnt) rfl ⟨rfl, (e2.setCell (p := ⟨w.heap.size, 0, none⟩) (Nat.le_refl _) _).setCell (p := ⟨w.heap.size, 1, none⟩) (Nat.le_refl _) _⟩
end Go.Proofs.Ytmedickofiielaa
