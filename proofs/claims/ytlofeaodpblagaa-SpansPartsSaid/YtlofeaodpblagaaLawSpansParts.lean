/- SpansParts: the law's walk. -/
import Derived.Test.YtlofeaodpblagaaPartsPlain
import Derived.Test.YtlofeaodpblagaaShut
namespace Go.Proofs.Ytlofeaodpblagaa
open Go.RowKit

/-- A list that is made. -/
def SpMadeT (l : List Sp) (w : World) (e : Ending) (w' : World) : Prop := ∃ v, e = .returned (.tuple #[v, .int .i64 0]) ∧ SpAt w' v l ∧ Below w.heap.size w w'
theorem SpErrPost.ok {l : List Sp} {w w' : World} {e : Ending} (h : SpErrPost true l w e w') : SpMadeT l w e w' := h
def OpenT (D : List Sp) (c : Int) (w : World) (e : Ending) (w' : World) : Prop := ∃ v, e = .returned (.tuple #[v, .int .i64 c]) ∧ SpAt w' v D ∧ Below w.heap.size w w'
theorem OpenPost.t {xs : List Sp} {p n : Int} {w w' : World} {e : Ending} (h : OpenPost xs p n w e w') : OpenT (opD xs p n) (opC xs p n) w e w' := h
/-- The box of three small numbers. -/
def HB3 (N : Nat) (p n m : Int) (W : World) : Prop := W.cell? ⟨N, 0, none⟩ = some (.int .u8 p) ∧ W.cell? ⟨N, 1, none⟩ = some (.int .u8 n) ∧ W.cell? ⟨N, 2, none⟩ = some (.int .u8 m)
theorem HB3.below {N : Nat} {p n m : Int} {W W' : World} (h : HB3 N p n m W) (hb : Below W.heap.size W W') : HB3 N p n m W' := ⟨cell_stays hb h.1, cell_stays hb h.2.1, cell_stays hb h.2.2⟩
theorem HB3.new (W : World) (p n m : Int) (t : TypeId) : HB3 W.heap.size p n m (W.alloc (.cells #[.int .u8 p, .int .u8 n, .int .u8 m] t)) := by
  have h := heap_alloc_new W (.cells #[.int .u8 p, .int .u8 n, .int .u8 m] t)
  exact ⟨cell_of_row _ _ 0 _ _ _ h, cell_of_row _ _ 1 _ _ _ h, cell_of_row _ _ 2 _ _ _ h⟩
theorem wf_u8 {n : Int} (h : (Lit.int .u8 n).wf = true) : 0 ≤ n ∧ n ≤ 255 := by
  have := (Lit.wf_int_iff _ _).1 h
  rw [show IntKind.u8.min = 0 from by decide, show IntKind.u8.max = 255 from by decide] at this
  omega
theorem wf_of_bounds {n : Int} (h1 : -9223372036854775808 ≤ n) (h2 : n ≤ 9223372036854775807) : (Lit.int .i64 n).wf = true := by
  rw [Lit.wf_int_iff, show IntKind.i64.min = -9223372036854775808 from by decide, show IntKind.i64.max = 9223372036854775807 from by decide]
  exact ⟨h1, h2⟩
set_option maxRecDepth 100000 in
set_option maxHeartbeats 8000000 in
theorem lawSpansParts_any (C : SC) (u v : Value) (xs ys : List Sp) (p n m : Int) (w : World) (h1 : SpAt w u xs) (h2 : SpAt w v ys) (hp : (Lit.int .u8 p).wf = true) (hn : (Lit.int .u8 n).wf = true) (hm : (Lit.int .u8 m).wf = true) :
    Calls Try.prog 7 #[u, v, .agg #[.int .u8 p, .int .u8 n, .int .u8 m]] w fun e w' => e = .returned (.bool true) ∧ Below w.heap.size w w' := by
  have hA := fun w => salive_any C w
  have bp := wf_u8 hp
  have bn := wf_u8 hn
  have bm := wf_u8 hm
  obtain ⟨a1, c1, rfl, _⟩ := id h1
  obtain ⟨a2, c2, rfl, _⟩ := id h2
  obtain ⟨n1, hn1⟩ : ∃ n, xs.length = n := ⟨_, rfl⟩
  obtain ⟨n2, hn2⟩ : ∃ n, ys.length = n := ⟨_, rfl⟩
  rw [hn1] at h1 ⊢
  rw [hn2] at h2 ⊢
  have N1 := Lib.hid hn1
  have N2 := Lib.hid hn2
  have H1 := Lib.hid h1
  have H2 := Lib.hid h2
  have hG1 := fun w => sgreat_any (.slice a1 n1 c1) n1 a1 c1 w rfl
  have hG2 := fun w => sgreat_any (.slice a2 n2 c2) n2 a2 c2 w rfl
  have hB0 := (Below.refl w.heap.size w).alloc (Nat.le_refl _) (.cells #[.int .u8 p, .int .u8 n, .int .u8 m] 39)
  have HB0 := Lib.hid hB0
  have HH0 := Lib.hid (HB3.new w p n m 39)
  clear hn1 hn2 h1 h2 hp hn hm hB0
  go_enter Try.func7, Try.ntmps7
  go_wp2_with fail
  refine (hA _).mono ?_
  clear hA
  rintro e w1 ⟨rfl, hb⟩
  have h1 := HH0.out.below hb
  have hw1 := HB0.out.trans (hb.mono HB0.out.size)
  clear hb HH0 HB0
  rcases Nat.lt_or_ge 60 n1 with hgt | hle1
  · rw [show decide ((60 : Int) < (n1 : Int)) = true from decide_eq_true (by omega)] at hG1
    go_wp2_with fail
    refine (hG1 _).mono ?_
    rintro e _ ⟨rfl, rfl⟩
    go_wp2
    go_ret
    exact ⟨rfl, hw1⟩
  rw [show decide ((60 : Int) < (n1 : Int)) = false from decide_eq_false (by omega)] at hG1
  rcases Nat.lt_or_ge 60 n2 with hgt | hle2
  · rw [show decide ((60 : Int) < (n2 : Int)) = true from decide_eq_true (by omega)] at hG2
    go_wp2_with fail
    refine (hG1 _).mono ?_
    rintro e _ ⟨rfl, rfl⟩
    go_wp2_with fail
    refine (hG2 _).mono ?_
    rintro e _ ⟨rfl, rfl⟩
    go_wp2
    go_ret
    exact ⟨rfl, hw1⟩
  rw [show decide ((60 : Int) < (n2 : Int)) = false from decide_eq_false (by omega)] at hG2
  have k1 : xs.length ≤ 1000000 := by rw [N1.out]; omega
  have k2 : ys.length ≤ 1000000 := by rw [N2.out]; omega
  have p1 := H1.out.below hw1
  have q1 := H2.out.below hw1
  have m1 := rSpMay_any _ xs w1 p1 (by omega)
  have m2 := fun W h => rSpMay_any (.slice a2 n2 c2) ys W h (by omega)
  cases hx : sMay xs with
  | false =>
    rw [hx] at m1
    go_wp2_with fail
    refine (hG1 _).mono ?_
    rintro e _ ⟨rfl, rfl⟩
    go_wp2_with fail
    refine (hG2 _).mono ?_
    rintro e _ ⟨rfl, rfl⟩
    go_wp2_with fail
    refine m1.mono ?_
    rintro e w2 ⟨rfl, hb⟩
    have hw2 := hw1.trans (hb.mono hw1.size)
    clear hb
    go_wp2
    go_ret
    exact ⟨rfl, hw2⟩
  | true =>
  rw [hx] at m1
  cases hy : sMay ys with
  | false =>
    rw [hy] at m2
    go_wp2_with fail
    refine (hG1 _).mono ?_
    rintro e _ ⟨rfl, rfl⟩
    go_wp2_with fail
    refine (hG2 _).mono ?_
    rintro e _ ⟨rfl, rfl⟩
    go_wp2_with fail
    refine m1.mono ?_
    rintro e w2 ⟨rfl, hb⟩
    have hw2 := hw1.trans (hb.mono hw1.size)
    have q2 := q1.below hb
    clear hb
    go_wp2_with fail
    refine (m2 _ q2).mono ?_
    rintro e w3 ⟨rfl, hb⟩
    have hw3 := hw2.trans (hb.mono hw2.size)
    clear hb
    go_wp2
    go_ret
    exact ⟨rfl, hw3⟩
  | true =>
  rw [hy] at m2
  obtain ⟨X, hX⟩ : ∃ X, twoL 2 xs ys = X := ⟨_, rfl⟩
  obtain ⟨Y, hY⟩ : ∃ Y, twoL 2 ys xs = Y := ⟨_, rfl⟩
  obtain ⟨Z, hZ⟩ : ∃ Z, twoL 1 xs ys = Z := ⟨_, rfl⟩
  obtain ⟨A, hAll⟩ : ∃ A, twoL 0 xs ys = A := ⟨_, rfl⟩
  obtain ⟨R, hR⟩ : ∃ R, twoL 0 X Y = R := ⟨_, rfl⟩
  have hQ : twoL 0 R Z = A := by rw [← hR, ← hX, ← hY, ← hZ, ← hAll]; exact parts_all xs ys
  have hcnt := parts_cnt xs ys
  rw [hX, hY, hZ, hAll] at hcnt
  have kX : X.length ≤ 1000000 := by rw [← hX]; exact twoL_len 2 xs ys
  have sX : sMay X = true := by rw [← hX]; exact twoL_may _ _ _
  have kY : Y.length ≤ 1000000 := by rw [← hY]; exact twoL_len 2 ys xs
  have sY : sMay Y = true := by rw [← hY]; exact twoL_may _ _ _
  have kZ : Z.length ≤ 1000000 := by rw [← hZ]; exact twoL_len 1 xs ys
  have sZ : sMay Z = true := by rw [← hZ]; exact twoL_may _ _ _
  have kA : A.length ≤ 1000000 := by rw [← hAll]; exact twoL_len 0 xs ys
  have sA : sMay A = true := by rw [← hAll]; exact twoL_may _ _ _
  have kR : R.length ≤ 1000000 := by rw [← hR]; exact twoL_len 0 X Y
  have sR : sMay R = true := by rw [← hR]; exact twoL_may _ _ _
  have e1 : ∀ (au av : Value) W, SpAt W au xs → SpAt W av ys → Calls Try.prog 26 #[au, av] W (SpMadeT X W) := fun au av W h h' => by
    have := C.less au av xs ys W h h' k1 k2 (sWf_may hx) (sWf_may hy)
    rw [hx, hy, hX] at this
    exact this
  have e2 : ∀ (au av : Value) W, SpAt W au ys → SpAt W av xs → Calls Try.prog 26 #[au, av] W (SpMadeT Y W) := fun au av W h h' => by
    have := C.less au av ys xs W h h' k2 k1 (sWf_may hy) (sWf_may hx)
    rw [hy, hx, hY] at this
    exact this
  have e3 : ∀ (au av : Value) W, SpAt W au xs → SpAt W av ys → Calls Try.prog 25 #[au, av] W (SpMadeT Z W) := fun au av W h h' => by
    have := C.both au av xs ys W h h' k1 k2 (sWf_may hx) (sWf_may hy)
    rw [hx, hy, hZ] at this
    exact this
  have e4 : ∀ (au av : Value) W, SpAt W au xs → SpAt W av ys → Calls Try.prog 24 #[au, av] W (SpMadeT A W) := fun au av W h h' => by
    have := C.any au av xs ys W h h' k1 k2 (sWf_may hx) (sWf_may hy)
    rw [hx, hy, hAll] at this
    exact this
  have e5 : ∀ (au av : Value) W, SpAt W au X → SpAt W av Y → Calls Try.prog 24 #[au, av] W (SpMadeT R W) := fun au av W h h' => by
    have := C.any au av X Y W h h' kX kY (sWf_may sX) (sWf_may sY)
    rw [sX, sY, hR] at this
    exact this
  have e6 : ∀ (au av : Value) W, SpAt W au R → SpAt W av Z → Calls Try.prog 24 #[au, av] W (SpMadeT A W) := fun au av W h h' => by
    have := C.any au av R Z W h h' kR kZ (sWf_may sR) (sWf_may sZ)
    rw [sR, sZ, hQ] at this
    exact this
  have tX : ∀ (av : Value) W, SpAt W av X → Calls Try.prog 15 #[av] W fun e w' => e = .returned (.int .i64 (cntTo (sMark X) 20000 : Nat)) ∧ Below W.heap.size W w' := fun av W h => by
    have := C.total av X W h kX (sWf_may sX)
    rwa [sX, if_pos rfl] at this
  have bX := cntTo_le (sMark X) 20000
  have tY : ∀ (av : Value) W, SpAt W av Y → Calls Try.prog 15 #[av] W fun e w' => e = .returned (.int .i64 (cntTo (sMark Y) 20000 : Nat)) ∧ Below W.heap.size W w' := fun av W h => by
    have := C.total av Y W h kY (sWf_may sY)
    rwa [sY, if_pos rfl] at this
  have bY := cntTo_le (sMark Y) 20000
  have tZ : ∀ (av : Value) W, SpAt W av Z → Calls Try.prog 15 #[av] W fun e w' => e = .returned (.int .i64 (cntTo (sMark Z) 20000 : Nat)) ∧ Below W.heap.size W w' := fun av W h => by
    have := C.total av Z W h kZ (sWf_may sZ)
    rwa [sZ, if_pos rfl] at this
  have bZ := cntTo_le (sMark Z) 20000
  have tA : ∀ (av : Value) W, SpAt W av A → Calls Try.prog 15 #[av] W fun e w' => e = .returned (.int .i64 (cntTo (sMark A) 20000 : Nat)) ∧ Below W.heap.size W w' := fun av W h => by
    have := C.total av A W h kA (sWf_may sA)
    rwa [sA, if_pos rfl] at this
  have bA := cntTo_le (sMark A) 20000
  obtain ⟨o1, o2⟩ := open_twice (p := p) (n := n) (m := m) hx bp.1 (by omega) bn.1 bm.1
  have hw64 : ∀ z : Int, 0 ≤ z → z ≤ 1000 → (Lit.int .i64 z).wf = true := fun z q1 q2 => wf_of_bounds (by omega) (by omega)
  have f1 := fun (av : Value) W h => C.opened av xs p n W h k1 (sWf_may hx) (hw64 p (by omega) (by omega)) (hw64 n (by omega) (by omega))
  have f2 := fun (av : Value) W h => C.opened av (opD xs p n) p m W h (opD_length _ _ _) (opD_wf _ _ _) (hw64 p (by omega) (by omega)) (hw64 m (by omega) (by omega))
  have f3 := fun (av : Value) W h => C.opened av xs p (n + m) W h k1 (sWf_may hx) (hw64 p (by omega) (by omega)) (hw64 (n + m) (by omega) (by omega))
  have v1 := opC_vals xs p n
  have v2 := opC_vals (opD xs p n) p m
  have f1 : ∀ (av : Value) W, SpAt W av xs → Calls Try.prog 20 #[av, .int .i64 p, .int .i64 n] W (OpenT (opD xs p n) (opC xs p n) W) := f1
  have f2 : ∀ (av : Value) W, SpAt W av (opD xs p n) → Calls Try.prog 20 #[av, .int .i64 p, .int .i64 m] W (OpenT (opD (opD xs p n) p m) (opC (opD xs p n) p m) W) := f2
  have f3 : ∀ (av : Value) W, SpAt W av xs → Calls Try.prog 20 #[av, .int .i64 p, .int .i64 (n + m)] W (OpenT (opD xs p (n + m)) (opC xs p (n + m)) W) := f3
  have kV := opD_length (opD xs p n) p m
  generalize opC xs p n = oe at *
  generalize opC (opD xs p n) p m = of at *
  generalize opC xs p (n + m) = og at *
  generalize opD (opD xs p n) p m = V at *
  generalize opD xs p (n + m) = G at *
  generalize opD xs p n = U at *
  have O1 := Lib.hid o1
  have O2 := Lib.hid o2
  have V1 := Lib.hid v1
  have V2 := Lib.hid v2
  generalize cntTo (sMark X) 20000 = cX at *
  generalize cntTo (sMark Y) 20000 = cY at *
  generalize cntTo (sMark Z) 20000 = cZ at *
  generalize cntTo (sMark A) 20000 = cA at *
  have hwa : IntKind.i64.wrap ((cX : Int) + (cY : Int)) = (cX : Int) + (cY : Int) := by simp only [IntKind.wrap_i64]; omega
  have hwb : IntKind.i64.wrap ((cX : Int) + (cY : Int) + (cZ : Int)) = (cA : Int) := by simp only [IntKind.wrap_i64]; omega
  have hwn : IntKind.i64.wrap (n + m) = n + m := by simp only [IntKind.wrap_i64]; omega
  have hcp : IntKind.i64.wrap p = p := by simp only [IntKind.wrap_i64]; omega
  have hcn : IntKind.i64.wrap n = n := by simp only [IntKind.wrap_i64]; omega
  have hcm : IntKind.i64.wrap m = m := by simp only [IntKind.wrap_i64]; omega
  clear hcnt o1 o2 v1 v2 hX hY hZ hAll hR hQ hx hy sX sY sZ sA sR kX kY kZ kR bX bY bZ bA hw64
  go_wp2_with fail
  refine (hG1 _).mono ?_
  clear hG1
  rintro e _ ⟨rfl, rfl⟩
  go_wp2_with fail
  refine (hG2 _).mono ?_
  clear hG2
  rintro e _ ⟨rfl, rfl⟩
  go_wp2_with fail
  refine m1.mono ?_
  clear m1
  rintro e w2 ⟨rfl, hb⟩
  have p2 := p1.below hb
  have q2 := q1.below hb
  have h2 := h1.below hb
  have hw2 := hw1.trans (hb.mono hw1.size)
  clear hb p1 q1 hw1 h1
  go_wp2_with fail
  refine (m2 _ q2).mono ?_
  clear m2
  rintro e w3 ⟨rfl, hb⟩
  have p3 := p2.below hb
  have q3 := q2.below hb
  have h3 := h2.below hb
  have hw3 := hw2.trans (hb.mono hw2.size)
  clear hb p2 q2 hw2 h2
  go_wp2_with fail
  refine (e1 _ _ _ p3 q3).mono ?_
  clear e1
  rintro e w4 ⟨vx, rfl, x4, hb⟩
  have p4 := p3.below hb
  have q4 := q3.below hb
  have h4 := h3.below hb
  have hw4 := hw3.trans (hb.mono hw3.size)
  clear hb hw3 p3 q3 h3
  go_wp2_with fail
  refine (e2 _ _ _ q4 p4).mono ?_
  clear e2
  rintro e w5 ⟨vy, rfl, y5, hb⟩
  have p5 := p4.below hb
  have q5 := q4.below hb
  have h5 := h4.below hb
  have x5 := x4.below hb
  have hw5 := hw4.trans (hb.mono hw4.size)
  clear hb hw4 p4 q4 h4 x4
  go_wp2_with fail
  refine (e3 _ _ _ p5 q5).mono ?_
  clear e3
  rintro e w6 ⟨vz, rfl, z6, hb⟩
  have p6 := p5.below hb
  have q6 := q5.below hb
  have h6 := h5.below hb
  have x6 := x5.below hb
  have y6 := y5.below hb
  have hw6 := hw5.trans (hb.mono hw5.size)
  clear hb hw5 p5 q5 h5 x5 y5
  go_wp2_with fail
  refine (e4 _ _ _ p6 q6).mono ?_
  clear e4
  rintro e w7 ⟨va, rfl, a7, hb⟩
  have p7 := p6.below hb
  have q7 := q6.below hb
  have h7 := h6.below hb
  have x7 := x6.below hb
  have y7 := y6.below hb
  have z7 := z6.below hb
  have hw7 := hw6.trans (hb.mono hw6.size)
  clear hb hw6 p6 q6 h6 x6 y6 z6
  go_wp2_with fail
  refine (e5 _ _ _ x7 y7).mono ?_
  clear e5
  rintro e w8 ⟨vr, rfl, r8, hb⟩
  have p8 := p7.below hb
  have q8 := q7.below hb
  have h8 := h7.below hb
  have x8 := x7.below hb
  have y8 := y7.below hb
  have z8 := z7.below hb
  have a8 := a7.below hb
  have hw8 := hw7.trans (hb.mono hw7.size)
  clear hb hw7 p7 q7 h7 x7 y7 z7 a7
  go_wp2_with fail
  refine (e6 _ _ _ r8 z8).mono ?_
  clear e6
  rintro e w9 ⟨vk, rfl, k9, hb⟩
  have p9 := p8.below hb
  have q9 := q8.below hb
  have h9 := h8.below hb
  have x9 := x8.below hb
  have y9 := y8.below hb
  have z9 := z8.below hb
  have a9 := a8.below hb
  have r9 := r8.below hb
  have hw9 := hw8.trans (hb.mono hw8.size)
  clear hb hw8 p8 q8 h8 x8 y8 z8 a8 r8
  have eS := rSpSame_any _ _ _ _ w9 k9 a9 (by omega)
  rw [decide_eq_true rfl] at eS
  go_wp2_with fail
  refine eS.mono ?_
  clear eS
  rintro e w10 ⟨rfl, hb⟩
  have p10 := p9.below hb
  have q10 := q9.below hb
  have h10 := h9.below hb
  have x10 := x9.below hb
  have y10 := y9.below hb
  have z10 := z9.below hb
  have a10 := a9.below hb
  have r10 := r9.below hb
  have k10 := k9.below hb
  have hw10 := hw9.trans (hb.mono hw9.size)
  clear hb hw9 p9 q9 h9 x9 y9 z9 a9 r9 k9
  go_wp2_with fail
  refine (tX _ _ x10).mono ?_
  clear tX
  rintro e w11 ⟨rfl, hb⟩
  have p11 := p10.below hb
  have q11 := q10.below hb
  have h11 := h10.below hb
  have x11 := x10.below hb
  have y11 := y10.below hb
  have z11 := z10.below hb
  have a11 := a10.below hb
  have r11 := r10.below hb
  have k11 := k10.below hb
  have hw11 := hw10.trans (hb.mono hw10.size)
  clear hb hw10 p10 q10 h10 x10 y10 z10 a10 r10 k10
  go_wp2_with fail
  refine (tY _ _ y11).mono ?_
  clear tY
  rintro e w12 ⟨rfl, hb⟩
  have p12 := p11.below hb
  have q12 := q11.below hb
  have h12 := h11.below hb
  have x12 := x11.below hb
  have y12 := y11.below hb
  have z12 := z11.below hb
  have a12 := a11.below hb
  have r12 := r11.below hb
  have k12 := k11.below hb
  have hw12 := hw11.trans (hb.mono hw11.size)
  clear hb hw11 p11 q11 h11 x11 y11 z11 a11 r11 k11
  go_wp2_with fail
  refine (tZ _ _ z12).mono ?_
  clear tZ
  rintro e w13 ⟨rfl, hb⟩
  have p13 := p12.below hb
  have q13 := q12.below hb
  have h13 := h12.below hb
  have x13 := x12.below hb
  have y13 := y12.below hb
  have z13 := z12.below hb
  have a13 := a12.below hb
  have r13 := r12.below hb
  have k13 := k12.below hb
  have hw13 := hw12.trans (hb.mono hw12.size)
  clear hb hw12 p12 q12 h12 x12 y12 z12 a12 r12 k12
  go_wp2_with fail
  refine (tA _ _ a13).mono ?_
  clear tA
  rintro e w14 ⟨rfl, hb⟩
  have p14 := p13.below hb
  have q14 := q13.below hb
  have h14 := h13.below hb
  have x14 := x13.below hb
  have y14 := y13.below hb
  have z14 := z13.below hb
  have a14 := a13.below hb
  have r14 := r13.below hb
  have k14 := k13.below hb
  have hw14 := hw13.trans (hb.mono hw13.size)
  clear hb hw13 p13 q13 h13 x13 y13 z13 a13 r13 k13
  clear q14 x14 y14 z14 a14 r14 k14
  obtain ⟨g0, g1, g2⟩ := id h14
  clear h14
  go_wp2_with fail
  go_quiet (fail)
  have p15 := p14.drew nq
  have hw15 := below_draws hw14 nq
  clear p14 hw14 g0 g1 g2
  generalize w14.drewN nq = w15 at *
  go_wp2_with fail
  refine (f1 _ _ p15).mono ?_
  clear f1
  rintro e w16 ⟨vb, rfl, b16, hb⟩
  have p16 := p15.below hb
  have hw16 := hw15.trans (hb.mono hw15.size)
  clear hb hw15 p15
  go_wp2_with fail
  refine (f2 _ _ b16).mono ?_
  clear f2
  rintro e w17 ⟨vc, rfl, c17, hb⟩
  have p17 := p16.below hb
  have b17 := b16.below hb
  have hw17 := hw16.trans (hb.mono hw16.size)
  clear hb hw16 p16 b16
  go_wp2_with fail
  refine (f3 _ _ p17).mono ?_
  clear f3
  rintro e w18 ⟨vd, rfl, d18, hb⟩
  have p18 := p17.below hb
  have b18 := b17.below hb
  have c18 := c17.below hb
  have hw18 := hw17.trans (hb.mono hw17.size)
  clear hb hw17 p17 b17 c17
  have hcase : (oe = 0 ∧ of = 0 ∧ og = 0 ∧ V = G) ∨ ((oe = 1 ∨ oe = 4 ∨ (oe = 0 ∧ (of = 1 ∨ of = 4))) ∧ og = 4) := by
    rcases V1.out with h | h | h
    · rcases V2.out with g | g | g
      · obtain ⟨z1, z2⟩ := O2.out h g
        exact .inl ⟨h, g, z1, z2⟩
      · exact .inr ⟨.inr (.inr ⟨h, .inl g⟩), O1.out (.inr (by rw [g]; decide))⟩
      · exact .inr ⟨.inr (.inr ⟨h, .inr g⟩), O1.out (.inr (by rw [g]; decide))⟩
    · exact .inr ⟨.inl h, O1.out (.inl (by rw [h]; decide))⟩
    · exact .inr ⟨.inr (.inl h), O1.out (.inl (by rw [h]; decide))⟩
  clear V1 V2 O1 O2
  rcases hcase with ⟨rfl, rfl, rfl, rfl⟩ | ⟨hc, rfl⟩
  · have eS := rSpSame_any _ _ _ _ w18 c18 d18 (by omega)
    rw [decide_eq_true rfl] at eS
    go_wp2_with fail
    refine eS.mono ?_
    clear eS
    rintro e w19 ⟨rfl, hb⟩
    have hz := hw18.trans (hb.mono hw18.size)
    clear hb
    go_wp2
    go_ret
    exact ⟨rfl, hz⟩
  · rcases hc with rfl | rfl | ⟨rfl, rfl | rfl⟩
    all_goals
      go_wp2
      go_ret
      exact ⟨rfl, hw18⟩
end Go.Proofs.Ytlofeaodpblagaa
