/- Texts of this proof, joined. -/
import Derived.Test.YtnlajfdgpdijjaaOpsAsked0
import Derived.Test.YtnlajfdgpdijjaaOpsMayQ

/- The statements' own example, and whether an operation is great. -/
namespace Go.Proofs.Ytnlajfdgpdijjaa
open Go.RowKit

def exO : POp := ⟨1, 2, 7, 1, 3, [97, 98], []⟩
theorem exO_put : oPut exO = [1, 2, 7, 1, 3, 2, 97, 98] := by
  unfold oPut exO rowL
  simp only [Int.toNat, List.length, Lib.uvarint_small (show 1 < 128 by decide), Lib.uvarint_small (show 2 < 128 by decide), Lib.uvarint_small (show 7 < 128 by decide), Lib.uvarint_small (show 3 < 128 by decide)]
  rfl
theorem exO_len : lenT [97, 98] = 2 := by decide
theorem exO_may (size : Int) (b : Bool) (h : (decide (0 ≤ size ∧ size ≤ 20000) && (decide (3 ≤ size) && decide (size + 2 ≤ 20000))) = b) : oMay exO size = b := by
  subst h
  unfold oMay mayT exO
  rw [if_pos rfl, exO_len]
  simp [nMay]
theorem exO_any : oAny exO = true := by
  unfold oAny
  exact (if_pos rfl).trans (exO_may 3 true (by decide))
theorem exO_adds : oAdds exO = 2 := by
  unfold oAdds exO
  rw [if_pos rfl, exO_len]
  decide
theorem exO_wf : OWf 1 2 7 1 3 ⟨#[97, 98]⟩ [] := ⟨⟨by decide, by decide, by decide, by decide, by decide⟩, by decide, by decide, sWf_may (by decide)⟩
/-- Two operations' boxes. -/
def B2 (s q n k a : Int) (t : ByteArray) (v : Value) (s1 q1 n1 k1 a1 : Int) (t1 : ByteArray) (v1 : Value) (w W : World) : Prop :=
  (∃ u, OBox w.heap.size s q n k a t v u W) ∧ (∃ u, OBox (w.heap.size + 1) s1 q1 n1 k1 a1 t1 v1 u W) ∧ Below w.heap.size w W
theorem B2.keep {s q n k a : Int} {t : ByteArray} {v : Value} {s1 q1 n1 k1 a1 : Int} {t1 : ByteArray} {v1 : Value} {w W W' : World} (h : B2 s q n k a t v s1 q1 n1 k1 a1 t1 v1 w W) (hb : Below W.heap.size W W') : B2 s q n k a t v s1 q1 n1 k1 a1 t1 v1 w W' := by
  obtain ⟨⟨u, h0⟩, ⟨u1, h1⟩, h3⟩ := h
  exact ⟨⟨u, h0.keep hb⟩, ⟨u1, h1.keep hb⟩, h3.trans (hb.mono h3.size)⟩
theorem B2.new (s q n k a : Int) (t : ByteArray) (v : Value) (s1 q1 n1 k1 a1 : Int) (t1 : ByteArray) (v1 : Value) (w : World) :
    B2 s q n k a t v s1 q1 n1 k1 a1 t1 v1 w ((w.alloc (.cells #[.int .i64 s, .int .i64 q, .int .i64 n, .int .i64 k, .int .i64 a, .string t, v] 26)).alloc (.cells #[.int .i64 s1, .int .i64 q1, .int .i64 n1, .int .i64 k1, .int .i64 a1, .string t1, v1] 26)) := by
  have h0 := OBox.newAt s q n k a t v w 26 rfl
  have h1 := OBox.newAt s1 q1 n1 k1 a1 t1 v1 (w.alloc (.cells #[.int .i64 s, .int .i64 q, .int .i64 n, .int .i64 k, .int .i64 a, .string t, v] 26)) 26 (N := w.heap.size + 1) (by simp)
  have h0 := h0.keep ((Below.refl _ _).alloc (Nat.le_refl _) (.cells #[.int .i64 s1, .int .i64 q1, .int .i64 n1, .int .i64 k1, .int .i64 a1, .string t1, v1] 26))
  exact ⟨⟨_, h0⟩, ⟨_, h1⟩, h0.2.2.2.2.2.2.2⟩
set_option maxRecDepth 100000 in
set_option maxHeartbeats 2000000 in
theorem ogreat_any (s q n k a : Int) (t : ByteArray) (x : Nat) (ao : Option Addr) (cap : Nat) (w : World) :
    Calls Try.prog 9 #[opV s q n k a t (.slice ao x cap)] w fun e w' => e = .returned (.bool (decide ((40 : Int) < x) || decide ((1000 : Int) < t.size))) ∧ Below w.heap.size w w' := by
  have hbx := OBox.new s q n k a t (.slice ao x cap) w 26
  have hB := hbx.2.2.2.2.2.2.2
  unfold opV
  go_enter Try.func9, Try.ntmps9
  go_wp2
  all_goals
    go_ret
    exact ⟨rfl, hB⟩
set_option maxRecDepth 100000 in
set_option maxHeartbeats 4000000 in
theorem oalive_any (C : OC0) (w : World) : Calls Try.prog 8 #[] w fun e w' => e = .returned (.bool true) ∧ Below w.heap.size w w' := by
  have hP := fun W => C.put 1 2 7 1 3 ⟨#[97, 98]⟩ (.slice none 0 0) [] W (lenAt_ab W) (SpAt.nil _) exO_wf
  have hA := fun W => C.adds 1 2 7 1 3 ⟨#[97, 98]⟩ (.slice none 0 0) [] W (lenAt_ab W) (SpAt.nil _) exO_wf
  have h3 := fun W => C.may 1 2 7 1 3 3 ⟨#[97, 98]⟩ (.slice none 0 0) [] W (lenAt_ab W) (SpAt.nil _) exO_wf (by decide)
  have h2 := fun W => C.may 1 2 7 1 3 2 ⟨#[97, 98]⟩ (.slice none 0 0) [] W (lenAt_ab W) (SpAt.nil _) exO_wf (by decide)
  rw [show (⟨1, 2, 7, 1, 3, (⟨#[97, 98]⟩ : ByteArray).data.toList, []⟩ : POp) = exO from rfl] at hP hA h3 h2
  rw [if_pos exO_any, exO_put] at hP
  rw [exO_adds] at hA
  rw [exO_may 3 true (by decide)] at h3
  rw [exO_may 2 false (by decide)] at h2
  have hbx := OBox.new 1 2 7 1 3 ⟨#[97, 98]⟩ (.slice none 0 0) w 26
  unfold opV at hP hA h3 h2
  go_enter Try.func8, Try.ntmps8
  go_wp2_with fail
  refine (hP _).mono ?_
  clear hP
  rintro e w1 ⟨rfl, hb⟩
  have hbx := hbx.keep hb
  obtain ⟨g0, g1, g2, g3, g4, g5, g6, _⟩ := id hbx
  clear hb
  go_wp2_with fail
  refine (hA _).mono ?_
  clear hA
  rintro e w2 ⟨rfl, hb⟩
  have hbx := hbx.keep hb
  clear hb g0 g1 g2 g3 g4 g5 g6
  obtain ⟨g0, g1, g2, g3, g4, g5, g6, _⟩ := id hbx
  go_wp2_with fail
  refine (h3 _).mono ?_
  clear h3
  rintro e w3 ⟨rfl, hb⟩
  have hbx := hbx.keep hb
  clear hb g0 g1 g2 g3 g4 g5 g6
  obtain ⟨g0, g1, g2, g3, g4, g5, g6, _⟩ := id hbx
  go_wp2_with fail
  refine (h2 _).mono ?_
  clear h2
  rintro e w4 ⟨rfl, hb⟩
  have hB := (hbx.keep hb).2.2.2.2.2.2.2
  go_wp2
  go_ret
  exact ⟨rfl, hB⟩
end Go.Proofs.Ytnlajfdgpdijjaa

/- OpsOrder: the law's walk. -/
namespace Go.Proofs.Ytnlajfdgpdijjaa
open Go.RowKit

/-- Three operations' boxes. -/
def B3 (s q n k a : Int) (t : ByteArray) (v : Value) (s1 q1 n1 k1 a1 : Int) (t1 : ByteArray) (v1 : Value) (s2 q2 n2 k2 a2 : Int) (t2 : ByteArray) (v2 : Value) (w W : World) : Prop :=
  (∃ u, OBox w.heap.size s q n k a t v u W) ∧ (∃ u, OBox (w.heap.size + 1) s1 q1 n1 k1 a1 t1 v1 u W) ∧ (∃ u, OBox (w.heap.size + 1 + 1) s2 q2 n2 k2 a2 t2 v2 u W) ∧ Below w.heap.size w W
theorem B3.keep {s q n k a : Int} {t : ByteArray} {v : Value} {s1 q1 n1 k1 a1 : Int} {t1 : ByteArray} {v1 : Value} {s2 q2 n2 k2 a2 : Int} {t2 : ByteArray} {v2 : Value} {w W W' : World} (h : B3 s q n k a t v s1 q1 n1 k1 a1 t1 v1 s2 q2 n2 k2 a2 t2 v2 w W) (hb : Below W.heap.size W W') : B3 s q n k a t v s1 q1 n1 k1 a1 t1 v1 s2 q2 n2 k2 a2 t2 v2 w W' := by
  obtain ⟨⟨u, h0⟩, ⟨u1, h1⟩, ⟨u2, h2⟩, h3⟩ := h
  exact ⟨⟨u, h0.keep hb⟩, ⟨u1, h1.keep hb⟩, ⟨u2, h2.keep hb⟩, h3.trans (hb.mono h3.size)⟩
theorem B3.new (s q n k a : Int) (t : ByteArray) (v : Value) (s1 q1 n1 k1 a1 : Int) (t1 : ByteArray) (v1 : Value) (s2 q2 n2 k2 a2 : Int) (t2 : ByteArray) (v2 : Value) (w : World) :
    B3 s q n k a t v s1 q1 n1 k1 a1 t1 v1 s2 q2 n2 k2 a2 t2 v2 w (((w.alloc (.cells #[.int .i64 s, .int .i64 q, .int .i64 n, .int .i64 k, .int .i64 a, .string t, v] 26)).alloc (.cells #[.int .i64 s1, .int .i64 q1, .int .i64 n1, .int .i64 k1, .int .i64 a1, .string t1, v1] 26)).alloc (.cells #[.int .i64 s2, .int .i64 q2, .int .i64 n2, .int .i64 k2, .int .i64 a2, .string t2, v2] 26)) := by
  have h0 := OBox.newAt s q n k a t v w 26 rfl
  have h1 := OBox.newAt s1 q1 n1 k1 a1 t1 v1 (w.alloc (.cells #[.int .i64 s, .int .i64 q, .int .i64 n, .int .i64 k, .int .i64 a, .string t, v] 26)) 26 (N := w.heap.size + 1) (by simp)
  have h2 := OBox.newAt s2 q2 n2 k2 a2 t2 v2 ((w.alloc (.cells #[.int .i64 s, .int .i64 q, .int .i64 n, .int .i64 k, .int .i64 a, .string t, v] 26)).alloc (.cells #[.int .i64 s1, .int .i64 q1, .int .i64 n1, .int .i64 k1, .int .i64 a1, .string t1, v1] 26)) 26 (N := w.heap.size + 1 + 1) (by simp)
  have hb2 := (Below.refl _ ((w.alloc (.cells #[.int .i64 s, .int .i64 q, .int .i64 n, .int .i64 k, .int .i64 a, .string t, v] 26)).alloc (.cells #[.int .i64 s1, .int .i64 q1, .int .i64 n1, .int .i64 k1, .int .i64 a1, .string t1, v1] 26))).alloc (Nat.le_refl _) (.cells #[.int .i64 s2, .int .i64 q2, .int .i64 n2, .int .i64 k2, .int .i64 a2, .string t2, v2] 26)
  have h1 := h1.keep hb2
  have h0 := (h0.keep ((Below.refl _ _).alloc (Nat.le_refl _) _)).keep hb2
  exact ⟨⟨_, h0⟩, ⟨_, h1⟩, ⟨_, h2⟩, h0.2.2.2.2.2.2.2⟩

set_option maxRecDepth 100000 in
set_option maxHeartbeats 16000000 in
theorem lawOpsOrder_any (C : OC0) (s q n k a : Int) (t : ByteArray) (v : Value) (s1 q1 n1 k1 a1 : Int) (t1 : ByteArray) (v1 : Value) (s2 q2 n2 k2 a2 : Int) (t2 : ByteArray) (v2 : Value) (w : World) (g0 : NWf s q n k a) (g1 : NWf s1 q1 n1 k1 a1) (g2 : NWf s2 q2 n2 k2 a2) :
    Calls Try.prog 7 #[opV s q n k a t v, opV s1 q1 n1 k1 a1 t1 v1, opV s2 q2 n2 k2 a2 t2 v2] w fun e w' => e = .returned (.bool true) ∧ Below w.heap.size w w' := by
  have hA := fun W => oalive_any C W
  have haa := fun W => C.before s q n k a t v s q n k a t v W g0 g0
  have hab := fun W => C.before s q n k a t v s1 q1 n1 k1 a1 t1 v1 W g0 g1
  have hba := fun W => C.before s1 q1 n1 k1 a1 t1 v1 s q n k a t v W g1 g0
  have hbc := fun W => C.before s1 q1 n1 k1 a1 t1 v1 s2 q2 n2 k2 a2 t2 v2 W g1 g2
  have hac := fun W => C.before s q n k a t v s2 q2 n2 k2 a2 t2 v2 W g0 g2
  rw [bef_self] at haa
  have hB := B3.new s q n k a t v s1 q1 n1 k1 a1 t1 v1 s2 q2 n2 k2 a2 t2 v2 w
  unfold opV at haa hab hba hbc hac ⊢
  clear C g0 g1 g2
  go_enter Try.func7, Try.ntmps7
  go_wp2_with fail
  refine (hA _).mono ?_
  clear hA
  rintro e w1 ⟨rfl, hb⟩
  replace hB := hB.keep hb
  clear hb
  obtain ⟨⟨-, c0, c1, c2, c3, c4, c5, c6, -⟩, ⟨-, d0, d1, d2, d3, d4, d5, d6, -⟩, ⟨-, e0, e1, e2, e3, e4, e5, e6, -⟩, -⟩ := id hB
  go_wp2_with fail
  refine (haa _).mono ?_
  clear haa
  rintro e w2 ⟨rfl, hb⟩
  replace hB := hB.keep hb
  clear hb
  clear c0 c1 c2 c3 c4 c5 c6 d0 d1 d2 d3 d4 d5 d6 e0 e1 e2 e3 e4 e5 e6
  obtain ⟨⟨-, c0, c1, c2, c3, c4, c5, c6, -⟩, ⟨-, d0, d1, d2, d3, d4, d5, d6, -⟩, ⟨-, e0, e1, e2, e3, e4, e5, e6, -⟩, -⟩ := id hB
  have hbab := bef_both (n1 := n) (s1 := s) (q1 := q) (n2 := n1) (s2 := s1) (q2 := q1)
  have hone := bef_one (n1 := n) (s1 := s) (q1 := q) (n2 := n1) (s2 := s1) (q2 := q1)
  have htr := bef_trans (n1 := n) (s1 := s) (q1 := q) (n2 := n1) (s2 := s1) (q2 := q1) (n3 := n2) (s3 := s2) (q3 := q2)
  have HB := Lib.hid hbab
  have H1 := Lib.hid hone
  have HT := Lib.hid htr
  clear hbab hone htr
  have HE0 := Lib.hid (fun w x hx => nmEq_neq w s q s1 q1 x hx)

  cases hz : bef n s q n1 s1 q1 with
  | false =>
    rw [hz] at hab
    go_wp2_with fail
    refine (hab _).mono ?_
    rintro e v1 ⟨rfl, hb⟩
    replace hB := hB.keep hb
    clear hb
    clear c0 c1 c2 c3 c4 c5 c6 d0 d1 d2 d3 d4 d5 d6 e0 e1 e2 e3 e4 e5 e6
    obtain ⟨⟨-, c0, c1, c2, c3, c4, c5, c6, -⟩, ⟨-, d0, d1, d2, d3, d4, d5, d6, -⟩, ⟨-, e0, e1, e2, e3, e4, e5, e6, -⟩, -⟩ := id hB
    cases hx : (s == s1 && q == q1) with
    | false =>
      have hE := fun w => HE0.out w false hx
      clear HE0
      have hr : bef n1 s1 q1 n s q = true := by
        cases hr : bef n1 s1 q1 n s q with
        | true => rfl
        | false =>
          obtain ⟨rfl, rfl, rfl⟩ := H1.out hz hr; simp at hx
      rw [hr] at hba
      clear hx
      go_wp2_with fail
      refine (hab _).mono ?_
      rintro e v2 ⟨rfl, hb⟩
      replace hB := hB.keep hb
      clear hb
      clear c0 c1 c2 c3 c4 c5 c6 d0 d1 d2 d3 d4 d5 d6 e0 e1 e2 e3 e4 e5 e6
      obtain ⟨⟨-, c0, c1, c2, c3, c4, c5, c6, -⟩, ⟨-, d0, d1, d2, d3, d4, d5, d6, -⟩, ⟨-, e0, e1, e2, e3, e4, e5, e6, -⟩, -⟩ := id hB
      go_wp2_with fail
      refine (hba _).mono ?_
      rintro e v3 ⟨rfl, hb⟩
      replace hB := hB.keep hb
      clear hb
      clear c0 c1 c2 c3 c4 c5 c6 d0 d1 d2 d3 d4 d5 d6 e0 e1 e2 e3 e4 e5 e6
      obtain ⟨⟨-, c0, c1, c2, c3, c4, c5, c6, -⟩, ⟨-, d0, d1, d2, d3, d4, d5, d6, -⟩, ⟨-, e0, e1, e2, e3, e4, e5, e6, -⟩, -⟩ := id hB
      by_cases z0 : n < 0
      · have y0 := decide_eq_true z0
        clear z0
        go_wp2
        go_ret
        exact ⟨rfl, hB.2.2.2⟩
      by_cases z1 : n1 < 0
      · have y0 := decide_eq_false z0
        have y1 := decide_eq_true z1
        clear z0 z1
        go_wp2
        go_ret
        exact ⟨rfl, hB.2.2.2⟩
      by_cases z2 : n2 < 0
      · have y0 := decide_eq_false z0
        have y1 := decide_eq_false z1
        have y2 := decide_eq_true z2
        clear z0 z1 z2
        go_wp2
        go_ret
        exact ⟨rfl, hB.2.2.2⟩
      have y0 := decide_eq_false z0
      have y1 := decide_eq_false z1
      have y2 := decide_eq_false z2
      clear z0 z1 z2
      go_wp2_with fail
      refine (hab _).mono ?_
      rintro e v4 ⟨rfl, hb⟩
      replace hB := hB.keep hb
      clear hb
      clear c0 c1 c2 c3 c4 c5 c6 d0 d1 d2 d3 d4 d5 d6 e0 e1 e2 e3 e4 e5 e6
      obtain ⟨⟨-, c0, c1, c2, c3, c4, c5, c6, -⟩, ⟨-, d0, d1, d2, d3, d4, d5, d6, -⟩, ⟨-, e0, e1, e2, e3, e4, e5, e6, -⟩, -⟩ := id hB
      go_wp2
      go_ret
      exact ⟨rfl, hB.2.2.2⟩
    | true =>
      obtain ⟨z1, z2⟩ := Bool.and_eq_true_iff.1 hx
      obtain rfl : s = s1 := by simpa using z1
      obtain rfl : q = q1 := by simpa using z2
      have hE := fun w => HE0.out w true hx
      clear HE0 z1 z2 hx
      by_cases hy : n = n1
      · subst hy
        by_cases z0 : n < 0
        · have y0 := decide_eq_true z0
          clear z0
          go_wp2
          go_ret
          exact ⟨rfl, hB.2.2.2⟩
        have z1 := z0
        by_cases z2 : n2 < 0
        · have y0 := decide_eq_false z0
          have y1 := decide_eq_false z1
          have y2 := decide_eq_true z2
          clear z0 z1 z2
          go_wp2
          go_ret
          exact ⟨rfl, hB.2.2.2⟩
        have y0 := decide_eq_false z0
        have y1 := decide_eq_false z1
        have y2 := decide_eq_false z2
        clear z0 z1 z2
        go_wp2_with fail
        refine (hab _).mono ?_
        rintro e v5 ⟨rfl, hb⟩
        replace hB := hB.keep hb
        clear hb
        clear c0 c1 c2 c3 c4 c5 c6 d0 d1 d2 d3 d4 d5 d6 e0 e1 e2 e3 e4 e5 e6
        obtain ⟨⟨-, c0, c1, c2, c3, c4, c5, c6, -⟩, ⟨-, d0, d1, d2, d3, d4, d5, d6, -⟩, ⟨-, e0, e1, e2, e3, e4, e5, e6, -⟩, -⟩ := id hB
        go_wp2
        go_ret
        exact ⟨rfl, hB.2.2.2⟩
      have g0 : (n == n1) = false := beq_eq_false_iff_ne.2 hy
      have hr : bef n1 s q n s q = true := by
        cases hr : bef n1 s q n s q with
        | true => rfl
        | false =>
          exact absurd (H1.out hz hr).1 hy
      rw [hr] at hba
      skip
      go_wp2_with fail
      refine (hab _).mono ?_
      rintro e v6 ⟨rfl, hb⟩
      replace hB := hB.keep hb
      clear hb
      clear c0 c1 c2 c3 c4 c5 c6 d0 d1 d2 d3 d4 d5 d6 e0 e1 e2 e3 e4 e5 e6
      obtain ⟨⟨-, c0, c1, c2, c3, c4, c5, c6, -⟩, ⟨-, d0, d1, d2, d3, d4, d5, d6, -⟩, ⟨-, e0, e1, e2, e3, e4, e5, e6, -⟩, -⟩ := id hB
      go_wp2_with fail
      refine (hba _).mono ?_
      rintro e v7 ⟨rfl, hb⟩
      replace hB := hB.keep hb
      clear hb
      clear c0 c1 c2 c3 c4 c5 c6 d0 d1 d2 d3 d4 d5 d6 e0 e1 e2 e3 e4 e5 e6
      obtain ⟨⟨-, c0, c1, c2, c3, c4, c5, c6, -⟩, ⟨-, d0, d1, d2, d3, d4, d5, d6, -⟩, ⟨-, e0, e1, e2, e3, e4, e5, e6, -⟩, -⟩ := id hB
      by_cases z0 : n < 0
      · have y0 := decide_eq_true z0
        clear z0
        go_wp2
        go_ret
        exact ⟨rfl, hB.2.2.2⟩
      by_cases z1 : n1 < 0
      · have y0 := decide_eq_false z0
        have y1 := decide_eq_true z1
        clear z0 z1
        go_wp2
        go_ret
        exact ⟨rfl, hB.2.2.2⟩
      by_cases z2 : n2 < 0
      · have y0 := decide_eq_false z0
        have y1 := decide_eq_false z1
        have y2 := decide_eq_true z2
        clear z0 z1 z2
        go_wp2
        go_ret
        exact ⟨rfl, hB.2.2.2⟩
      have y0 := decide_eq_false z0
      have y1 := decide_eq_false z1
      have y2 := decide_eq_false z2
      clear z0 z1 z2
      go_wp2_with fail
      refine (hab _).mono ?_
      rintro e v8 ⟨rfl, hb⟩
      replace hB := hB.keep hb
      clear hb
      clear c0 c1 c2 c3 c4 c5 c6 d0 d1 d2 d3 d4 d5 d6 e0 e1 e2 e3 e4 e5 e6
      obtain ⟨⟨-, c0, c1, c2, c3, c4, c5, c6, -⟩, ⟨-, d0, d1, d2, d3, d4, d5, d6, -⟩, ⟨-, e0, e1, e2, e3, e4, e5, e6, -⟩, -⟩ := id hB
      go_wp2
      go_ret
      exact ⟨rfl, hB.2.2.2⟩
  | true =>
    rw [hz] at hab
    rw [HB.out hz] at hba
    go_wp2_with fail
    refine (hab _).mono ?_
    rintro e v9 ⟨rfl, hb⟩
    replace hB := hB.keep hb
    clear hb
    clear c0 c1 c2 c3 c4 c5 c6 d0 d1 d2 d3 d4 d5 d6 e0 e1 e2 e3 e4 e5 e6
    obtain ⟨⟨-, c0, c1, c2, c3, c4, c5, c6, -⟩, ⟨-, d0, d1, d2, d3, d4, d5, d6, -⟩, ⟨-, e0, e1, e2, e3, e4, e5, e6, -⟩, -⟩ := id hB
    go_wp2_with fail
    refine (hba _).mono ?_
    rintro e v10 ⟨rfl, hb⟩
    replace hB := hB.keep hb
    clear hb
    clear c0 c1 c2 c3 c4 c5 c6 d0 d1 d2 d3 d4 d5 d6 e0 e1 e2 e3 e4 e5 e6
    obtain ⟨⟨-, c0, c1, c2, c3, c4, c5, c6, -⟩, ⟨-, d0, d1, d2, d3, d4, d5, d6, -⟩, ⟨-, e0, e1, e2, e3, e4, e5, e6, -⟩, -⟩ := id hB
    cases hx : (s == s1 && q == q1) with
    | false =>
      have hE := fun w => HE0.out w false hx
      clear HE0
      clear hx
      go_wp2_with fail
      refine (hab _).mono ?_
      rintro e v11 ⟨rfl, hb⟩
      replace hB := hB.keep hb
      clear hb
      clear c0 c1 c2 c3 c4 c5 c6 d0 d1 d2 d3 d4 d5 d6 e0 e1 e2 e3 e4 e5 e6
      obtain ⟨⟨-, c0, c1, c2, c3, c4, c5, c6, -⟩, ⟨-, d0, d1, d2, d3, d4, d5, d6, -⟩, ⟨-, e0, e1, e2, e3, e4, e5, e6, -⟩, -⟩ := id hB
      by_cases z0 : n < 0
      · have y0 := decide_eq_true z0
        clear z0
        go_wp2
        go_ret
        exact ⟨rfl, hB.2.2.2⟩
      by_cases z1 : n1 < 0
      · have y0 := decide_eq_false z0
        have y1 := decide_eq_true z1
        clear z0 z1
        go_wp2
        go_ret
        exact ⟨rfl, hB.2.2.2⟩
      by_cases z2 : n2 < 0
      · have y0 := decide_eq_false z0
        have y1 := decide_eq_false z1
        have y2 := decide_eq_true z2
        clear z0 z1 z2
        go_wp2
        go_ret
        exact ⟨rfl, hB.2.2.2⟩
      have y0 := decide_eq_false z0
      have y1 := decide_eq_false z1
      have y2 := decide_eq_false z2
      cases hu : bef n1 s1 q1 n2 s2 q2 with
      | false =>
        rw [hu] at hbc
        clear z0 z1 z2
        go_wp2_with fail
        refine (hab _).mono ?_
        rintro e v12 ⟨rfl, hb⟩
        replace hB := hB.keep hb
        clear hb
        clear c0 c1 c2 c3 c4 c5 c6 d0 d1 d2 d3 d4 d5 d6 e0 e1 e2 e3 e4 e5 e6
        obtain ⟨⟨-, c0, c1, c2, c3, c4, c5, c6, -⟩, ⟨-, d0, d1, d2, d3, d4, d5, d6, -⟩, ⟨-, e0, e1, e2, e3, e4, e5, e6, -⟩, -⟩ := id hB
        go_wp2_with fail
        refine (hbc _).mono ?_
        rintro e v13 ⟨rfl, hb⟩
        replace hB := hB.keep hb
        clear hb
        clear c0 c1 c2 c3 c4 c5 c6 d0 d1 d2 d3 d4 d5 d6 e0 e1 e2 e3 e4 e5 e6
        obtain ⟨⟨-, c0, c1, c2, c3, c4, c5, c6, -⟩, ⟨-, d0, d1, d2, d3, d4, d5, d6, -⟩, ⟨-, e0, e1, e2, e3, e4, e5, e6, -⟩, -⟩ := id hB
        go_wp2
        go_ret
        exact ⟨rfl, hB.2.2.2⟩
      | true =>
        rw [hu] at hbc
        rw [HT.out (Int.not_lt.1 z1) (Int.not_lt.1 z2) hz hu] at hac
        clear z0 z1 z2
        go_wp2_with fail
        refine (hab _).mono ?_
        rintro e v14 ⟨rfl, hb⟩
        replace hB := hB.keep hb
        clear hb
        clear c0 c1 c2 c3 c4 c5 c6 d0 d1 d2 d3 d4 d5 d6 e0 e1 e2 e3 e4 e5 e6
        obtain ⟨⟨-, c0, c1, c2, c3, c4, c5, c6, -⟩, ⟨-, d0, d1, d2, d3, d4, d5, d6, -⟩, ⟨-, e0, e1, e2, e3, e4, e5, e6, -⟩, -⟩ := id hB
        go_wp2_with fail
        refine (hbc _).mono ?_
        rintro e v15 ⟨rfl, hb⟩
        replace hB := hB.keep hb
        clear hb
        clear c0 c1 c2 c3 c4 c5 c6 d0 d1 d2 d3 d4 d5 d6 e0 e1 e2 e3 e4 e5 e6
        obtain ⟨⟨-, c0, c1, c2, c3, c4, c5, c6, -⟩, ⟨-, d0, d1, d2, d3, d4, d5, d6, -⟩, ⟨-, e0, e1, e2, e3, e4, e5, e6, -⟩, -⟩ := id hB
        go_wp2_with fail
        refine (hac _).mono ?_
        rintro e v16 ⟨rfl, hb⟩
        replace hB := hB.keep hb
        clear hb
        clear c0 c1 c2 c3 c4 c5 c6 d0 d1 d2 d3 d4 d5 d6 e0 e1 e2 e3 e4 e5 e6
        obtain ⟨⟨-, c0, c1, c2, c3, c4, c5, c6, -⟩, ⟨-, d0, d1, d2, d3, d4, d5, d6, -⟩, ⟨-, e0, e1, e2, e3, e4, e5, e6, -⟩, -⟩ := id hB
        go_wp2
        go_ret
        exact ⟨rfl, hB.2.2.2⟩
    | true =>
      obtain ⟨z1, z2⟩ := Bool.and_eq_true_iff.1 hx
      obtain rfl : s = s1 := by simpa using z1
      obtain rfl : q = q1 := by simpa using z2
      have hE := fun w => HE0.out w true hx
      clear HE0 z1 z2 hx
      by_cases hy : n = n1
      · subst hy
        rw [bef_self] at hz
        cases hz
      have g0 : (n == n1) = false := beq_eq_false_iff_ne.2 hy
      skip
      go_wp2_with fail
      refine (hab _).mono ?_
      rintro e v17 ⟨rfl, hb⟩
      replace hB := hB.keep hb
      clear hb
      clear c0 c1 c2 c3 c4 c5 c6 d0 d1 d2 d3 d4 d5 d6 e0 e1 e2 e3 e4 e5 e6
      obtain ⟨⟨-, c0, c1, c2, c3, c4, c5, c6, -⟩, ⟨-, d0, d1, d2, d3, d4, d5, d6, -⟩, ⟨-, e0, e1, e2, e3, e4, e5, e6, -⟩, -⟩ := id hB
      by_cases z0 : n < 0
      · have y0 := decide_eq_true z0
        clear z0
        go_wp2
        go_ret
        exact ⟨rfl, hB.2.2.2⟩
      by_cases z1 : n1 < 0
      · have y0 := decide_eq_false z0
        have y1 := decide_eq_true z1
        clear z0 z1
        go_wp2
        go_ret
        exact ⟨rfl, hB.2.2.2⟩
      by_cases z2 : n2 < 0
      · have y0 := decide_eq_false z0
        have y1 := decide_eq_false z1
        have y2 := decide_eq_true z2
        clear z0 z1 z2
        go_wp2
        go_ret
        exact ⟨rfl, hB.2.2.2⟩
      have y0 := decide_eq_false z0
      have y1 := decide_eq_false z1
      have y2 := decide_eq_false z2
      cases hu : bef n1 s q n2 s2 q2 with
      | false =>
        rw [hu] at hbc
        clear z0 z1 z2
        go_wp2_with fail
        refine (hab _).mono ?_
        rintro e v18 ⟨rfl, hb⟩
        replace hB := hB.keep hb
        clear hb
        clear c0 c1 c2 c3 c4 c5 c6 d0 d1 d2 d3 d4 d5 d6 e0 e1 e2 e3 e4 e5 e6
        obtain ⟨⟨-, c0, c1, c2, c3, c4, c5, c6, -⟩, ⟨-, d0, d1, d2, d3, d4, d5, d6, -⟩, ⟨-, e0, e1, e2, e3, e4, e5, e6, -⟩, -⟩ := id hB
        go_wp2_with fail
        refine (hbc _).mono ?_
        rintro e v19 ⟨rfl, hb⟩
        replace hB := hB.keep hb
        clear hb
        clear c0 c1 c2 c3 c4 c5 c6 d0 d1 d2 d3 d4 d5 d6 e0 e1 e2 e3 e4 e5 e6
        obtain ⟨⟨-, c0, c1, c2, c3, c4, c5, c6, -⟩, ⟨-, d0, d1, d2, d3, d4, d5, d6, -⟩, ⟨-, e0, e1, e2, e3, e4, e5, e6, -⟩, -⟩ := id hB
        go_wp2
        go_ret
        exact ⟨rfl, hB.2.2.2⟩
      | true =>
        rw [hu] at hbc
        rw [HT.out (Int.not_lt.1 z1) (Int.not_lt.1 z2) hz hu] at hac
        clear z0 z1 z2
        go_wp2_with fail
        refine (hab _).mono ?_
        rintro e v20 ⟨rfl, hb⟩
        replace hB := hB.keep hb
        clear hb
        clear c0 c1 c2 c3 c4 c5 c6 d0 d1 d2 d3 d4 d5 d6 e0 e1 e2 e3 e4 e5 e6
        obtain ⟨⟨-, c0, c1, c2, c3, c4, c5, c6, -⟩, ⟨-, d0, d1, d2, d3, d4, d5, d6, -⟩, ⟨-, e0, e1, e2, e3, e4, e5, e6, -⟩, -⟩ := id hB
        go_wp2_with fail
        refine (hbc _).mono ?_
        rintro e v21 ⟨rfl, hb⟩
        replace hB := hB.keep hb
        clear hb
        clear c0 c1 c2 c3 c4 c5 c6 d0 d1 d2 d3 d4 d5 d6 e0 e1 e2 e3 e4 e5 e6
        obtain ⟨⟨-, c0, c1, c2, c3, c4, c5, c6, -⟩, ⟨-, d0, d1, d2, d3, d4, d5, d6, -⟩, ⟨-, e0, e1, e2, e3, e4, e5, e6, -⟩, -⟩ := id hB
        go_wp2_with fail
        refine (hac _).mono ?_
        rintro e v22 ⟨rfl, hb⟩
        replace hB := hB.keep hb
        clear hb
        clear c0 c1 c2 c3 c4 c5 c6 d0 d1 d2 d3 d4 d5 d6 e0 e1 e2 e3 e4 e5 e6
        obtain ⟨⟨-, c0, c1, c2, c3, c4, c5, c6, -⟩, ⟨-, d0, d1, d2, d3, d4, d5, d6, -⟩, ⟨-, e0, e1, e2, e3, e4, e5, e6, -⟩, -⟩ := id hB
        go_wp2
        go_ret
        exact ⟨rfl, hB.2.2.2⟩
end Go.Proofs.Ytnlajfdgpdijjaa
