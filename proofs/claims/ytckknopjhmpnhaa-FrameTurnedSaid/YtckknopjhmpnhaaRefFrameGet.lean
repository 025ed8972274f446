/- The document's frames: Get. -/
import Derived.Test.YtckknopjhmpnhaaRefFramePut
namespace Go.Proofs.Ytckknopjhmpnhaa
open Go.RowKit Go.Shelf

/-- What Get tells. -/
def getV : Except Int Fr → Value
  | .error c => .tuple #[frV 0 0 0 0 ⟨#[]⟩, .int .i64 c]
  | .ok f => .tuple #[frOf f, .int .i64 0]
/-- The boxes of the document's Get: the answer's, the frame's, the reader's. -/
structure GB (N : Nat) (k : Int) (body : ByteArray) (l : List UInt8) (e : Int) (w W : World) : Prop where
  a : W.heap[N]? = some (.cells #[.int .i64 0, .int .i64 0, .int .i64 0, .int .i64 0, .string ⟨#[]⟩] 23 (0, 0))
  f : W.heap[N + 1]? = some (.cells #[.int .i64 k, .int .i64 0, .int .i64 0, .int .i64 0, .string body] 23 (0, 0))
  r : W.heap[N + 1 + 1]? = some (.cells #[.string ⟨l.toArray⟩, .int .i64 e] 62 (0, 0))
  b : Below N w W
theorem GB.keep {N : Nat} {k : Int} {body : ByteArray} {l : List UInt8} {e : Int} {w W W' : World} (h : GB N k body l e w W) (hb : Below W.heap.size W W') : GB N k body l e w W' := by
  have h2 : N + 1 + 1 < W.heap.size := (Array.getElem?_eq_some_iff.1 h.r).1
  exact ⟨(hb.block N (by omega)).trans h.a, (hb.block (N + 1) (by omega)).trans h.f, (hb.block (N + 1 + 1) (by omega)).trans h.r, h.b.trans (hb.mono (by omega))⟩
theorem GB.store {N : Nat} {k : Int} {body : ByteArray} {l : List UInt8} {e : Int} {w W : World} (h : GB N k body l e w W) (l' : List UInt8) (e' : Int) : GB N k body l' e' w ((W.setCell ⟨N + 1 + 1, 0, none⟩ (.string ⟨l'.toArray⟩)).setCell ⟨N + 1 + 1, 1, none⟩ (.int .i64 e')) := by
  refine ⟨?_, ?_, ?_, (h.b.setCell (by simp; omega) _).setCell (by simp; omega) _⟩
  · rw [heap_setCell_other _ _ _ _ (by simp; omega), heap_setCell_other _ _ _ _ (by simp; omega)]; exact h.a
  · rw [heap_setCell_other _ _ _ _ (by simp), heap_setCell_other _ _ _ _ (by simp)]; exact h.f
  · exact heap_setCell_same _ _ 1 _ _ _ (heap_setCell_same _ _ 0 _ _ _ h.r)
theorem GB.body {N : Nat} {k : Int} {body : ByteArray} {l : List UInt8} {e : Int} {w W : World} (h : GB N k body l e w W) (x : ByteArray) : GB N k x l e w (W.setCell ⟨N + 1, 4, none⟩ (.string x)) := by
  refine ⟨?_, ?_, ?_, h.b.setCell (by simp) _⟩
  · rw [heap_setCell_other _ _ _ _ (by simp)]; exact h.a
  · exact heap_setCell_same _ _ 4 _ _ _ h.f
  · rw [heap_setCell_other _ _ _ _ (by simp)]; exact h.r

theorem GB.facts {N : Nat} {k : Int} {body : ByteArray} {l : List UInt8} {e : Int} {w W : World} (h : GB N k body l e w W) :
    (W.cell? ⟨N + 1 + 1, 0, none⟩ = some (.string ⟨l.toArray⟩) ∧ W.cell? ⟨N + 1 + 1, 1, none⟩ = some (.int .i64 e) ∧ W.frozen? ⟨N + 1 + 1, 0, none⟩ = false ∧ W.frozen? ⟨N + 1 + 1, 1, none⟩ = false) ∧
    (W.cell? ⟨N + 1, 0, none⟩ = some (.int .i64 k) ∧ W.cell? ⟨N + 1, 1, none⟩ = some (.int .i64 0) ∧ W.cell? ⟨N + 1, 2, none⟩ = some (.int .i64 0) ∧ W.cell? ⟨N + 1, 3, none⟩ = some (.int .i64 0) ∧ W.cell? ⟨N + 1, 4, none⟩ = some (.string body)) ∧ (∀ i, W.frozen? ⟨N + 1, i, none⟩ = false) ∧
    (W.cell? ⟨N, 0, none⟩ = some (.int .i64 0) ∧ W.cell? ⟨N, 1, none⟩ = some (.int .i64 0) ∧ W.cell? ⟨N, 2, none⟩ = some (.int .i64 0) ∧ W.cell? ⟨N, 3, none⟩ = some (.int .i64 0) ∧ W.cell? ⟨N, 4, none⟩ = some (.string ⟨#[]⟩)) ∧ (∀ i, W.frozen? ⟨N, i, none⟩ = false) :=
  ⟨⟨cell_of_row _ _ 0 _ _ _ h.r, cell_of_row _ _ 1 _ _ _ h.r, frozen_of_row _ _ 0 _ _ h.r, frozen_of_row _ _ 1 _ _ h.r⟩, ⟨cell_of_row _ _ 0 _ _ _ h.f, cell_of_row _ _ 1 _ _ _ h.f, cell_of_row _ _ 2 _ _ _ h.f, cell_of_row _ _ 3 _ _ _ h.f, cell_of_row _ _ 4 _ _ _ h.f⟩, fun i => frozen_of_row _ _ i _ _ h.f, ⟨cell_of_row _ _ 0 _ _ _ h.a, cell_of_row _ _ 1 _ _ _ h.a, cell_of_row _ _ 2 _ _ _ h.a, cell_of_row _ _ 3 _ _ _ h.a, cell_of_row _ _ 4 _ _ _ h.a⟩, fun i => frozen_of_row _ _ i _ _ h.a⟩
theorem GB.new (k : Int) (l : List UInt8) (w : World) : GB w.heap.size k ⟨#[]⟩ l 0 w (((w.alloc (.cells #[.int .i64 0, .int .i64 0, .int .i64 0, .int .i64 0, .string ⟨#[]⟩] 23)).alloc (.cells #[.int .i64 k, .int .i64 0, .int .i64 0, .int .i64 0, .string ⟨#[]⟩] 23)).alloc (.cells #[.string ⟨l.toArray⟩, .int .i64 0] 62)) := by
  refine ⟨?_, ?_, ?_, (below_two w _ _).alloc (below_two w _ _).size _⟩
  · rw [Below.heap_alloc _ _ _ (by simp; omega)]; exact heap_alloc2_old _ _ _
  · rw [Below.heap_alloc _ _ _ (by simp)]; exact heap_alloc2_new _ _ _
  · have h := heap_alloc_new ((w.alloc (.cells #[.int .i64 0, .int .i64 0, .int .i64 0, .int .i64 0, .string ⟨#[]⟩] 23)).alloc (.cells #[.int .i64 k, .int .i64 0, .int .i64 0, .int .i64 0, .string ⟨#[]⟩] 23)) (.cells #[.string ⟨l.toArray⟩, .int .i64 0] 62)
    simpa using h
theorem rNum_at (l : List UInt8) (e : Int) (most : Nat) (hl : l.length ≤ 1000000) {l' : List UInt8} {e' : Int} {n : Nat} (h : numS (l, e) most = ((l', e'), n)) (w : World) :
    Calls Try.prog 27 #[.agg #[.string ⟨l.toArray⟩, .int .i64 e], .int .u64 most] w fun x w' => x = .returned (.tuple #[.agg #[.string ⟨l'.toArray⟩, .int .i64 e'], .int .u64 n]) ∧ Below w.heap.size w w' := by
  have := rNum_any (l, e) most w (show l.length ≤ 1000000000 by omega)
  rw [h] at this
  exact this
theorem rText_at (l : List UInt8) (e : Int) (most : Nat) (hm : most ≤ 9223372036854775807) (hl : l.length ≤ 1000000) {l' x : List UInt8} {e' : Int} (h : textS (l, e) most = ((l', e'), x)) (w : World) :
    Calls Try.prog 28 #[.agg #[.string ⟨l.toArray⟩, .int .i64 e], .int .i64 most] w fun y w' => y = .returned (.tuple #[.agg #[.string ⟨l'.toArray⟩, .int .i64 e'], .string ⟨x.toArray⟩]) ∧ Below w.heap.size w w' := by
  have := rText_any (l, e) most w (show l.length ≤ 1000000000 by omega) hm
  rw [h] at this
  exact this
theorem numS_at_len {l : List UInt8} {e : Int} {most : Nat} {l' : List UInt8} {e' : Int} {n : Nat} (h : numS (l, e) most = ((l', e'), n)) (hl : l.length ≤ 1000000) : l'.length ≤ 1000000 := by
  have := numS_len (l, e) most
  rw [h] at this
  exact Nat.le_trans this hl
theorem textS_at_len {l : List UInt8} {e : Int} {most : Nat} {l' x : List UInt8} {e' : Int} (h : textS (l, e) most = ((l', e'), x)) (hl : l.length ≤ 1000000) : l'.length ≤ 1000000 := by
  have := textS_len (l, e) most
  rw [h] at this
  exact Nat.le_trans this hl
theorem info23 : (Try.prog.info? 23).map (·.size) = some 5 := by kernel_rfl
/-- Get's answer out of its box. -/
theorem fr_result {fn : Func} {p u : Tmp} (hfn : fn.results = #[.cell p 23, .tmp u]) (tmps : Array Value) (W : World) (g : Nat) (cs : Array Value) (c : Value) (hp : tmps.getD p undef = .pointer (some ⟨g, 0, none⟩)) (hc : tmps.getD u undef = c)
    (hg : W.heap[g]? = some (.cells cs 23 (0, 0))) (h5 : cs.size = 5) : (results fn tmps).run Try.prog W = .ok (.tuple #[.agg cs, c]) W := by
  rw [results_cell_tmp hfn, hp, hc]
  have hl := run_loadVar_row (P := Try.prog) W g 23 23 cs (0, 0) _ hg Try.underlying23 rfl (by rw [h5]; exact info23)
  simp [asAddr, Result.andThen, hl]
/-- The heads of the bytes, as the program's tests have them. -/
theorem head_tests (s : ByteArray) (h : 3 ≤ s.size) : s.data.toList.getD 0 0 = s[0] ∧ s.data.toList.getD 1 0 = s[1] ∧ s.data.toList.getD 2 0 = s[2] :=
  ⟨getD_list s 0 (by omega), getD_list s 1 (by omega), getD_list s 2 (by omega)⟩
theorem u8_ne {x : UInt8} {n : Nat} (h : ¬ x = UInt8.ofNat n) : ((x.toNat : Int) != (n : Int)) = true := by
  have : x.toNat ≠ n := fun e => h (by rw [← e]; simp)
  simp only [bne_iff_ne, ne_eq]
  omega
theorem u8_is {x : UInt8} {n : Nat} (hn : n < 256) (h : x = UInt8.ofNat n) : (x.toNat : Int) = (n : Int) := by
  subst h
  simp [Nat.mod_eq_of_lt hn]

theorem answer_set {W : World} {N : Nat} {a0 a1 a2 a3 a4 : Value} {t : TypeId} (h : W.heap[N]? = some (.cells #[a0, a1, a2, a3, a4] t (0, 0))) (b0 b1 b2 b3 b4 : Value) :
    (((((W.setCell ⟨N, 0, none⟩ b0).setCell ⟨N, 1, none⟩ b1).setCell ⟨N, 2, none⟩ b2).setCell ⟨N, 3, none⟩ b3).setCell ⟨N, 4, none⟩ b4).heap[N]? = some (.cells #[b0, b1, b2, b3, b4] t (0, 0)) :=
  heap_setCell_same _ _ 4 _ _ _ (heap_setCell_same _ _ 3 _ _ _ (heap_setCell_same _ _ 2 _ _ _ (heap_setCell_same _ _ 1 _ _ _ (heap_setCell_same _ _ 0 _ _ _ h))))
theorem answer_below {W w : World} {N : Nat} (h : Below N w W) (b0 b1 b2 b3 b4 : Value) :
    Below N w (((((W.setCell ⟨N, 0, none⟩ b0).setCell ⟨N, 1, none⟩ b1).setCell ⟨N, 2, none⟩ b2).setCell ⟨N, 3, none⟩ b3).setCell ⟨N, 4, none⟩ b4) :=
  ((((h.setCell (Nat.le_refl N) _).setCell (Nat.le_refl N) _).setCell (Nat.le_refl N) _).setCell (Nat.le_refl N) _).setCell (Nat.le_refl N) _

/-- The frame's box with its numbers in it. -/
theorem f_set {W : World} {N : Nat} {a0 a1 a2 a3 a4 : Value} {t : TypeId} (h : W.heap[N]? = some (.cells #[a0, a1, a2, a3, a4] t (0, 0))) (b1 b2 b3 : Value) :
    (((W.setCell ⟨N, 1, none⟩ b1).setCell ⟨N, 2, none⟩ b2).setCell ⟨N, 3, none⟩ b3).heap[N]? = some (.cells #[a0, b1, b2, b3, a4] t (0, 0)) :=
  heap_setCell_same _ _ 3 _ _ _ (heap_setCell_same _ _ 2 _ _ _ (heap_setCell_same _ _ 1 _ _ _ h))

theorem GB.nums {N : Nat} {k : Int} {body : ByteArray} {l : List UInt8} {e : Int} {w W W3 : World} (h : GB N k body l e w W) (b1 b2 b3 : Value)
    (hb : Below (((W.setCell ⟨N + 1, 1, none⟩ b1).setCell ⟨N + 1, 2, none⟩ b2).setCell ⟨N + 1, 3, none⟩ b3).heap.size (((W.setCell ⟨N + 1, 1, none⟩ b1).setCell ⟨N + 1, 2, none⟩ b2).setCell ⟨N + 1, 3, none⟩ b3) W3) :
    W3.heap[N]? = some (.cells #[.int .i64 0, .int .i64 0, .int .i64 0, .int .i64 0, .string ⟨#[]⟩] 23 (0, 0)) ∧ W3.heap[N + 1]? = some (.cells #[.int .i64 k, b1, b2, b3, .string body] 23 (0, 0)) ∧ Below N w W3 := by
  have hz : (((W.setCell ⟨N + 1, 1, none⟩ b1).setCell ⟨N + 1, 2, none⟩ b2).setCell ⟨N + 1, 3, none⟩ b3).heap.size = W.heap.size := by simp [World.setCell]
  have hl : N + 1 < W.heap.size := (Array.getElem?_eq_some_iff.1 h.f).1
  have ha : (((W.setCell ⟨N + 1, 1, none⟩ b1).setCell ⟨N + 1, 2, none⟩ b2).setCell ⟨N + 1, 3, none⟩ b3).heap[N]? = W.heap[N]? := by
    rw [heap_setCell_other _ _ _ _ (by simp), heap_setCell_other _ _ _ _ (by simp), heap_setCell_other _ _ _ _ (by simp)]
  refine ⟨by rw [hb.block N (by omega), ha]; exact h.a, by rw [hb.block (N + 1) (by omega)]; exact f_set h.f _ _ _, ?_⟩
  exact (((h.b.setCell (Nat.le_succ N) _).setCell (Nat.le_succ N) _).setCell (Nat.le_succ N) _).trans (hb.mono (by omega))
theorem numS_le (r : List UInt8 × Int) (most : Nat) : (numS r most).2 ≤ most := by
  unfold numS
  split
  · split
    · exact Nat.zero_le _
    · rename_i n k h; exact (takeL_ok h).1
  · exact Nat.zero_le _
theorem numS_at_le {l : List UInt8} {e : Int} {most : Nat} {l' : List UInt8} {e' : Int} {n : Nat} (h : numS (l, e) most = ((l', e'), n)) : n ≤ most ∧ l'.length ≤ l.length := by
  have h1 := numS_le (l, e) most
  have h2 := numS_len (l, e) most
  rw [h] at h1 h2
  exact ⟨h1, h2⟩
theorem textS_at_le {l : List UInt8} {e : Int} {most : Nat} {l' x : List UInt8} {e' : Int} (h : textS (l, e) most = ((l', e'), x)) : l'.length ≤ l.length := by
  have := textS_len (l, e) most
  rw [h] at this
  exact this
theorem textS_at_body {l : List UInt8} {e : Int} {most : Nat} {l' x : List UInt8} {e' : Int} (h : textS (l, e) most = ((l', e'), x)) : x.length ≤ l.length := by
  have : (textS (l, e) most).2.length ≤ l.length := by
    unfold textS
    split
    · split
      · exact Nat.zero_le _
      · simp only [List.length_take, List.length_drop]; omega
    · exact Nat.zero_le _
  rw [h] at this
  exact this
theorem mayI_fr (k n1 n2 n3 : Nat) (body : List UInt8) : mayI k n1 n2 n3 body.length = decide (frMay ⟨k, n1, n2, n3, body⟩) := by
  unfold mayI frMay
  refine decide_eq_decide.2 ?_
  simp only
  have : body = [] ↔ body.length = 0 := List.length_eq_zero_iff.symm
  rw [this]
  omega
/-- What the drawn row of Get keeps: the reader's bytes, and all that was there. -/
theorem keepGet {N : Nat} {v : Value} {x W W' : World} (h : W.cell? ⟨N, 0, none⟩ = some v ∧ Below x.heap.size x W) (hb : Below W.heap.size W W') : W'.cell? ⟨N, 0, none⟩ = some v ∧ Below x.heap.size x W' := by
  have hl : N < W.heap.size := World.block_lt_of_cell? W _ h.1
  exact ⟨(hb.cell (p := ⟨N, 0, none⟩) hl).trans h.1, h.2.trans (hb.mono h.2.size)⟩
set_option maxRecDepth 100000 in
set_option maxHeartbeats 4000000 in
theorem rFGet_any (s : ByteArray) (w : World) (hs : s.size ≤ 1000000) :
    Calls Try.prog 15 #[.string s] w fun e w' => e = .returned (getV (frGet s.data.toList)) ∧ Below w.heap.size w w' := by
  have HS := Lib.hid (Lib.size_eq s)
  by_cases h3 : s.size < 3
  · have hg : frGet s.data.toList = .error 8 := by unfold frGet; rw [if_pos (by have := HS.out; omega)]
    rw [hg]
    clear hg
    go_enter Try.func15, Try.ntmps15
    go_wp2
    exact bodyPost_ret (fr_result (fn := Try.f15) (p := 2) (u := 3) rfl _ _ w.heap.size _ _ rfl rfl (heap_alloc_new w _) rfl) rfl ⟨rfl, (Below.refl _ w).alloc (Nat.le_refl _) _⟩
  obtain ⟨g0, g1, g2⟩ := head_tests s (Nat.not_lt.1 h3)
  have hB0 := (Below.refl w.heap.size w).alloc (Nat.le_refl _) (.cells #[.int .i64 0, .int .i64 0, .int .i64 0, .int .i64 0, .string ⟨#[]⟩] 23)
  have i0 : (0 : Int) < (s.size : Int) := by omega
  have i1 : (1 : Int) < (s.size : Int) := by omega
  have i2 : (2 : Int) < (s.size : Int) := by omega
  by_cases hh : s.data.toList.getD 0 0 ≠ 70 ∨ s.data.toList.getD 1 0 ≠ 83 ∨ (s.data.toList.getD 2 0 ≠ 1 ∧ s.data.toList.getD 2 0 ≠ 2)
  · have hg : frGet s.data.toList = .error 9 := by unfold frGet; rw [if_neg (by have := HS.out; omega), if_pos hh]
    rw [hg]
    rw [g0, g1, g2] at hh
    clear hg
    clear g0 g1 g2
    by_cases t0 : s[0] = 70
    · have u0 : ((s[0].toNat : Int) != 70) = false := by rw [t0]; rfl
      by_cases t1 : s[1] = 83
      · have u1 : ((s[1].toNat : Int) != 83) = false := by rw [t1]; rfl
        have u2 : ((s[2].toNat : Int) != 1) = true := u8_ne (n := 1) (by rcases hh with q | q | q; exact absurd t0 q; exact absurd t1 q; exact q.1)
        have u3 : ((s[2].toNat : Int) != 2) = true := u8_ne (n := 2) (by rcases hh with q | q | q; exact absurd t0 q; exact absurd t1 q; exact q.2)
        clear t0 t1 hh
        go_enter Try.func15, Try.ntmps15
        go_wp2
        exact bodyPost_ret (fr_result (fn := Try.f15) (p := 2) (u := 3) rfl _ _ w.heap.size _ _ rfl rfl (heap_alloc_new w _) rfl) rfl ⟨rfl, (Below.refl _ w).alloc (Nat.le_refl _) _⟩
      · have u1 : ((s[1].toNat : Int) != 83) = true := u8_ne (n := 83) t1
        clear t0 t1 hh
        go_enter Try.func15, Try.ntmps15
        go_wp2
        exact bodyPost_ret (fr_result (fn := Try.f15) (p := 2) (u := 3) rfl _ _ w.heap.size _ _ rfl rfl (heap_alloc_new w _) rfl) rfl ⟨rfl, (Below.refl _ w).alloc (Nat.le_refl _) _⟩
    · have u0 : ((s[0].toNat : Int) != 70) = true := u8_ne (n := 70) t0
      clear t0 hh
      go_enter Try.func15, Try.ntmps15
      go_wp2
      exact bodyPost_ret (fr_result (fn := Try.f15) (p := 2) (u := 3) rfl _ _ w.heap.size _ _ rfl rfl (heap_alloc_new w _) rfl) rfl ⟨rfl, (Below.refl _ w).alloc (Nat.le_refl _) _⟩
  have t0 : s[0] = 70 := by rw [← g0]; exact Decidable.byContradiction fun q => hh (.inl q)
  have t1 : s[1] = 83 := by rw [← g1]; exact Decidable.byContradiction fun q => hh (.inr (.inl q))
  have u0 : (s[0].toNat : Int) = 70 := by rw [t0]; rfl
  have u1 : (s[1].toNat : Int) = 83 := by rw [t1]; rfl
  have hex := extract_drop s 3 (by omega)
  have h0l : (s.data.toList.drop 3).length ≤ 1000000 := by rw [List.length_drop, ← HS.out]; omega
  by_cases hk : s[2] = 1
  · have u2 : (s[2].toNat : Int) = 1 := by rw [hk]; rfl
    have HH := Lib.hid hh
    have HK := Lib.hid hk
    have G2 := Lib.hid g2
    clear hh hk g0 g1 g2 t0 t1
    obtain ⟨l0, hl0⟩ : ∃ l0, s.data.toList.drop 3 = l0 := ⟨_, rfl⟩
    rw [hl0] at hex h0l
    rcases q1 : numS (l0, 0) 16 with ⟨⟨l1, e1⟩, n1⟩
    rcases q2 : numS (l1, e1) 1099511627776 with ⟨⟨l2, e2⟩, n2⟩
    rcases q3 : numS (l2, e2) 1099511627776 with ⟨⟨l3, e3⟩, n3⟩
    rcases q4 : textS (l3, e3) 1048576 with ⟨⟨l4, e4⟩, body⟩
    have h1l := numS_at_len q1 h0l
    have h2l := numS_at_len q2 h1l
    have h3l := numS_at_len q3 h2l
    have h4l := textS_at_len q4 h3l
    have m1 := (numS_at_le q1).1
    have m2 := (numS_at_le q2).1
    have m3 := (numS_at_le q3).1
    have hlen : l4.length + 3 ≤ s.size := by
      have g1 := (numS_at_le q1).2
      have g2 := (numS_at_le q2).2
      have g3 := (numS_at_le q3).2
      have g4 := textS_at_le q4
      have g5 : l0.length + 3 = s.size := by rw [← hl0, List.length_drop, ← HS.out]; omega
      omega
    have HBL := Lib.hid (show body.length ≤ 1000000 from Nat.le_trans (textS_at_body q4) h3l)
    have M := Lib.hid (And.intro m1 (And.intro m2 m3))
    have HLEN := Lib.hid hlen
    clear m1 m2 m3 hlen
    have c1 := rNum_at l0 0 16 h0l q1
    have c2 := rNum_at l1 e1 1099511627776 h1l q2
    have c3 := rNum_at l2 e2 1099511627776 h2l q3
    have c4 := rText_at l3 e3 1048576 (by decide) h3l q4
    have HR : Hid (frRead true l0 = ((l4, e4), n1, n2, n3, body)) := Lib.hid (by unfold frRead; simp only [if_true, q1, q2, q3, q4])
    have HL0 := Lib.hid hl0
    have ga := GB.new 1 l0 w
    clear q1 q2 q3 q4 hl0 h0l h1l h2l h3l
    go_enter Try.func15, Try.ntmps15
    go_wp2_with fail
    generalize ((w.alloc (.cells #[.int .i64 0, .int .i64 0, .int .i64 0, .int .i64 0, .string ⟨#[]⟩] 23)).alloc (.cells #[.int .i64 1, .int .i64 0, .int .i64 0, .int .i64 0, .string ⟨#[]⟩] 23)).alloc (.cells #[.string ⟨l0.toArray⟩, .int .i64 0] 62) = v0 at *
    refine (c1 _).mono ?_
    rintro e y1 ⟨rfl, hb⟩
    replace ga := ga.keep hb
    have r0 := ga.facts.1.1
    have r1 := ga.facts.1.2.1
    have z0 := ga.facts.1.2.2.1
    have z1 := ga.facts.1.2.2.2
    have k0 := ga.facts.2.1.1
    have k4 := ga.facts.2.1.2.2.2.2
    have kf := ga.facts.2.2.1 4
    have GA := Lib.hid ga
    clear hb ga
    go_wp2_with fail
    have ga := GA.out.store l1 e1
    generalize (y1.setCell ⟨w.heap.size + 1 + 1, 0, none⟩ (.string ⟨l1.toArray⟩)).setCell ⟨w.heap.size + 1 + 1, 1, none⟩ (.int .i64 e1) = x1 at *
    clear r0 r1 z0 z1 k0 k4 kf GA
    refine (c2 _).mono ?_
    rintro e y2 ⟨rfl, hb⟩
    replace ga := ga.keep hb
    have r0 := ga.facts.1.1
    have r1 := ga.facts.1.2.1
    have z0 := ga.facts.1.2.2.1
    have z1 := ga.facts.1.2.2.2
    have k0 := ga.facts.2.1.1
    have k4 := ga.facts.2.1.2.2.2.2
    have kf := ga.facts.2.2.1 4
    have GA := Lib.hid ga
    clear hb ga
    go_wp2_with fail
    have ga := GA.out.store l2 e2
    generalize (y2.setCell ⟨w.heap.size + 1 + 1, 0, none⟩ (.string ⟨l2.toArray⟩)).setCell ⟨w.heap.size + 1 + 1, 1, none⟩ (.int .i64 e2) = x2 at *
    clear r0 r1 z0 z1 k0 k4 kf GA
    refine (c3 _).mono ?_
    rintro e y3 ⟨rfl, hb⟩
    replace ga := ga.keep hb
    have r0 := ga.facts.1.1
    have r1 := ga.facts.1.2.1
    have z0 := ga.facts.1.2.2.1
    have z1 := ga.facts.1.2.2.2
    have k0 := ga.facts.2.1.1
    have k4 := ga.facts.2.1.2.2.2.2
    have kf := ga.facts.2.2.1 4
    have GA := Lib.hid ga
    clear hb ga
    go_wp2_with fail
    have ga := GA.out.store l3 e3
    generalize (y3.setCell ⟨w.heap.size + 1 + 1, 0, none⟩ (.string ⟨l3.toArray⟩)).setCell ⟨w.heap.size + 1 + 1, 1, none⟩ (.int .i64 e3) = x3 at *
    clear r0 r1 z0 z1 k0 k4 kf GA
    refine (c4 _).mono ?_
    rintro e y4 ⟨rfl, hb⟩
    replace ga := ga.keep hb
    have r0 := ga.facts.1.1
    have r1 := ga.facts.1.2.1
    have z0 := ga.facts.1.2.2.1
    have z1 := ga.facts.1.2.2.2
    have k0 := ga.facts.2.1.1
    have k4 := ga.facts.2.1.2.2.2.2
    have kf := ga.facts.2.2.1 4
    have YA := Lib.hid ga.facts.2.2.2
    have ga := (ga.store l4 e4).body ⟨body.toArray⟩
    have gb := ga
    generalize hx4 : ((y4.setCell ⟨w.heap.size + 1 + 1, 0, none⟩ (.string ⟨l4.toArray⟩)).setCell ⟨w.heap.size + 1 + 1, 1, none⟩ (.int .i64 e4)).setCell ⟨w.heap.size + 1, 4, none⟩ (.string ⟨body.toArray⟩) = x4 at ga
    have HX4 := Lib.hid hx4
    have q0 := ga.facts.1.1
    have q1 := ga.facts.1.2.1
    have GA := Lib.hid ga
    clear hb ga gb hx4
    have hgE : frGet s.data.toList = (if e4 ≠ 0 then .error e4 else if l4.length < 4 then .error 8 else if 4 < l4.length then .error 11 else if sumB (s.data.toList.take (s.data.toList.length - 4)) ≠ l4 then .error 10 else if frMay ⟨1, n1, n2, n3, body⟩ then .ok ⟨1, n1, n2, n3, body⟩ else .error 9) := by
      unfold frGet
      rw [if_neg (by have := HS.out; omega), if_neg HH.out, G2.out, HK.out]
      simp only [show ((1 : UInt8) == 1) = true from rfl, HL0.out, HR.out]
      rfl
    have HG := Lib.hid hgE
    clear hgE HR HL0
    by_cases he : e4 = 0
    · subst he
      by_cases hl : l4.length < 4
      · have HV := Lib.hid (show frGet s.data.toList = .error 8 by rw [HG.out, if_neg (by decide), if_pos hl])
        have hlz : (l4.length : Int) < 4 := by omega
        have a0 := YA.out.1.1
        have a1 := YA.out.1.2.1
        have a2 := YA.out.1.2.2.1
        have a3 := YA.out.1.2.2.2.1
        have a4 := YA.out.1.2.2.2.2
        have f0 := YA.out.2 0
        have f1 := YA.out.2 1
        have f2 := YA.out.2 2
        have f3 := YA.out.2 3
        have f4 := YA.out.2 4
        have ga := GA.out
        rw [← HX4.out] at ga
        replace GA := Lib.hid ga
        clear ga q0 q1
        go_wp2
        exact bodyPost_ret (fr_result (fn := Try.f15) (p := 2) (u := 3) rfl _ _ w.heap.size _ _ rfl rfl (answer_set GA.out.a _ _ _ _ _) rfl) rfl ⟨by rw [HV.out]; rfl, answer_below GA.out.b _ _ _ _ _⟩
      by_cases hl2 : 4 < l4.length
      · have HV := Lib.hid (show frGet s.data.toList = .error 11 by rw [HG.out, if_neg (by decide), if_neg hl, if_pos hl2])
        have hlz : ¬ (l4.length : Int) < 4 := by omega
        have hlz2 : (4 : Int) < (l4.length : Int) := by omega
        have a0 := YA.out.1.1
        have a1 := YA.out.1.2.1
        have a2 := YA.out.1.2.2.1
        have a3 := YA.out.1.2.2.2.1
        have a4 := YA.out.1.2.2.2.2
        have f0 := YA.out.2 0
        have f1 := YA.out.2 1
        have f2 := YA.out.2 2
        have f3 := YA.out.2 3
        have f4 := YA.out.2 4
        have ga := GA.out
        rw [← HX4.out] at ga
        replace GA := Lib.hid ga
        clear ga q0 q1
        go_wp2
        exact bodyPost_ret (fr_result (fn := Try.f15) (p := 2) (u := 3) rfl _ _ w.heap.size _ _ rfl rfl (answer_set GA.out.a _ _ _ _ _) rfl) rfl ⟨by rw [HV.out]; rfl, answer_below GA.out.b _ _ _ _ _⟩
      have h44 : l4.length = 4 := by omega
      have hsz : 7 ≤ s.size := by have := HLEN.out; omega
      have s4 : ((s.size : Int) - 4).toNat = s.size - 4 := by omega
      have hx1 := fun w => crsum_any (s.extract 0 (s.size - 4)) (by simp; unfold maxLen; omega) w
      have hx2 := fun w => crput_any (Crc.sum (byteL (s.extract 0 (s.size - 4)))) (sum_lt _) w
      have hsum : sumB (s.data.toList.take (s.data.toList.length - 4)) = putL (Crc.sum (byteL (s.extract 0 (s.size - 4)))) := by
        have h := extract_head (s := s) (a := s.data.toList.take (s.size - 4)) (r := s.data.toList.drop (s.size - 4)) (List.take_append_drop _ _).symm
        rw [List.length_take, ← HS.out, Nat.min_eq_left (by omega)] at h
        rw [h, ← HS.out]
        rfl
      have HSUM := Lib.hid hsum
      have H44 := Lib.hid h44
      have HL := Lib.hid hl
      have HL2 := Lib.hid hl2
      clear hsum h44 hl hl2
      generalize Crc.sum (byteL (s.extract 0 (s.size - 4))) = x at *
      generalize putL x = pl at *
      have hlz : ¬ (l4.length : Int) < 4 := by have := HL.out; omega
      have hlz2 : ¬ (4 : Int) < (l4.length : Int) := by have := HL2.out; omega
      have s5 : (0 : Int) ≤ (s.size : Int) - 4 := by omega
      have s6 : (s.size : Int) - 4 ≤ (s.size : Int) := by omega
      have s7 : IntKind.i64.wrap ((s.size : Int) - 4) = (s.size : Int) - 4 := IntWalk.i64_in _ (by omega)
      have s8 : ¬ s.size < s.size - 4 := by omega
      have s9 : (4 : Int) ≤ (s.size : Int) := by omega
      go_wp2_with fail
      rw [HX4.out]
      clear r0 r1 z0 z1 k0 k4 kf HX4 YA
      go_region_held (fun W => W.cell? ⟨w.heap.size + 1 + 1, 0, none⟩ = some (.string ⟨l4.toArray⟩) ∧ Below x4.heap.size x4 W)
        (first | exact ⟨q0, (Below.refl _ _).drew⟩ | assumption | exact keepGet (by assumption) hb)
        (first | (go_at_call 23; refine (hx1 _).mono ?_; rintro e w2 ⟨rfl, rfl⟩) | (go_at_call 22; refine (hx2 _).mono ?_; rintro e w2 ⟨rfl, hb⟩))
      rename_i hHeld
      have ga := GA.out.keep hHeld.2
      clear hHeld
      by_cases hpl : pl = l4
      · have hpb : (pl == l4) = true := by simpa using hpl
        rw [hpb, Bool.not_true]
        clear hpb
        have HPL := Lib.hid hpl
        clear hpl
        have o1 := M.out.1
        have o2 := M.out.2.1
        have o3 := M.out.2.2
        have k0 := ga.facts.2.1.1
        have k1 := ga.facts.2.1.2.1
        have k2 := ga.facts.2.1.2.2.1
        have k3 := ga.facts.2.1.2.2.2.1
        have k4 := ga.facts.2.1.2.2.2.2
        have g1 := ga.facts.2.2.1 1
        have g2 := ga.facts.2.2.1 2
        have g3 := ga.facts.2.2.1 3
        have Ga := Lib.hid ga
        clear ga GA
        have cM := fun w => rMay_any ((1 : Nat) : Int) n1 n2 n3 ⟨body.toArray⟩ w (by rw [size_bytes]; have := HBL.out; omega)
        rw [size_bytes, mayI_fr] at cM
        unfold frV at cM
        rw [show (((1 : Nat) : Int)) = 1 from rfl] at cM
        by_cases hfm : frMay ⟨1, n1, n2, n3, body⟩
        · skip
          rw [show decide (frMay ⟨1, n1, n2, n3, body⟩) = true from decide_eq_true hfm] at cM
          have HV := Lib.hid (show frGet s.data.toList = .ok ⟨1, n1, n2, n3, body⟩ by rw [HG.out, if_neg (by decide), if_neg HL.out, if_neg HL2.out, if_neg (by rw [HSUM.out, HPL.out]; simp), if_pos hfm])
          go_wp2_with fail
          refine (cM _).mono ?_
          rintro e w3 ⟨rfl, hb⟩
          have g3' := Ga.out.nums _ _ _ hb
          clear hb k0 k1 k2 k3 k4 g1 g2 g3
          have a0 := cell_of_row _ _ 0 _ _ _ g3'.1
          have a1 := cell_of_row _ _ 1 _ _ _ g3'.1
          have a2 := cell_of_row _ _ 2 _ _ _ g3'.1
          have a3 := cell_of_row _ _ 3 _ _ _ g3'.1
          have a4 := cell_of_row _ _ 4 _ _ _ g3'.1
          have f0 := frozen_of_row _ _ 0 _ _ g3'.1
          have f1 := frozen_of_row _ _ 1 _ _ g3'.1
          have f2 := frozen_of_row _ _ 2 _ _ g3'.1
          have f3 := frozen_of_row _ _ 3 _ _ g3'.1
          have f4 := frozen_of_row _ _ 4 _ _ g3'.1
          have b0 := cell_of_row _ _ 0 _ _ _ g3'.2.1
          have b1 := cell_of_row _ _ 1 _ _ _ g3'.2.1
          have b2 := cell_of_row _ _ 2 _ _ _ g3'.2.1
          have b3 := cell_of_row _ _ 3 _ _ _ g3'.2.1
          have b4 := cell_of_row _ _ 4 _ _ _ g3'.2.1
          simp only [List.getElem?_toArray, List.getElem?_cons_zero, List.getElem?_cons_succ] at a0 a1 a2 a3 a4 b0 b1 b2 b3 b4
          have G3 := Lib.hid g3'
          clear g3'
          go_wp2
          exact bodyPost_ret (fr_result (fn := Try.f15) (p := 2) (u := 3) rfl _ _ w.heap.size _ _ rfl rfl (answer_set G3.out.1 _ _ _ _ _) rfl) rfl ⟨by rw [HV.out]; rfl, answer_below G3.out.2.2 _ _ _ _ _⟩
        · skip
          rw [show decide (frMay ⟨1, n1, n2, n3, body⟩) = false from decide_eq_false hfm] at cM
          have HV := Lib.hid (show frGet s.data.toList = .error 9 by rw [HG.out, if_neg (by decide), if_neg HL.out, if_neg HL2.out, if_neg (by rw [HSUM.out, HPL.out]; simp), if_neg hfm])
          go_wp2_with fail
          refine (cM _).mono ?_
          rintro e w3 ⟨rfl, hb⟩
          have g3' := Ga.out.nums _ _ _ hb
          clear hb k0 k1 k2 k3 k4 g1 g2 g3
          have a0 := cell_of_row _ _ 0 _ _ _ g3'.1
          have a1 := cell_of_row _ _ 1 _ _ _ g3'.1
          have a2 := cell_of_row _ _ 2 _ _ _ g3'.1
          have a3 := cell_of_row _ _ 3 _ _ _ g3'.1
          have a4 := cell_of_row _ _ 4 _ _ _ g3'.1
          have f0 := frozen_of_row _ _ 0 _ _ g3'.1
          have f1 := frozen_of_row _ _ 1 _ _ g3'.1
          have f2 := frozen_of_row _ _ 2 _ _ g3'.1
          have f3 := frozen_of_row _ _ 3 _ _ g3'.1
          have f4 := frozen_of_row _ _ 4 _ _ g3'.1
          have b0 := cell_of_row _ _ 0 _ _ _ g3'.2.1
          have b1 := cell_of_row _ _ 1 _ _ _ g3'.2.1
          have b2 := cell_of_row _ _ 2 _ _ _ g3'.2.1
          have b3 := cell_of_row _ _ 3 _ _ _ g3'.2.1
          have b4 := cell_of_row _ _ 4 _ _ _ g3'.2.1
          simp only [List.getElem?_toArray, List.getElem?_cons_zero, List.getElem?_cons_succ] at a0 a1 a2 a3 a4 b0 b1 b2 b3 b4
          have G3 := Lib.hid g3'
          clear g3'
          go_wp2
          exact bodyPost_ret (fr_result (fn := Try.f15) (p := 2) (u := 3) rfl _ _ w.heap.size _ _ rfl rfl (answer_set G3.out.1 _ _ _ _ _) rfl) rfl ⟨by rw [HV.out]; rfl, answer_below G3.out.2.2 _ _ _ _ _⟩
      · have hpb : (pl == l4) = false := by simpa using hpl
        rw [hpb, Bool.not_false]
        have HV := Lib.hid (show frGet s.data.toList = .error 10 by rw [HG.out, if_neg (by decide), if_neg HL.out, if_neg HL2.out, if_pos (by rw [HSUM.out]; exact hpl)])
        have a0 := ga.facts.2.2.2.1.1
        have a1 := ga.facts.2.2.2.1.2.1
        have a2 := ga.facts.2.2.2.1.2.2.1
        have a3 := ga.facts.2.2.2.1.2.2.2.1
        have a4 := ga.facts.2.2.2.1.2.2.2.2
        have f0 := ga.facts.2.2.2.2 0
        have f1 := ga.facts.2.2.2.2 1
        have f2 := ga.facts.2.2.2.2 2
        have f3 := ga.facts.2.2.2.2 3
        have f4 := ga.facts.2.2.2.2 4
        replace GA := Lib.hid ga
        clear ga
        go_wp2
        exact bodyPost_ret (fr_result (fn := Try.f15) (p := 2) (u := 3) rfl _ _ w.heap.size _ _ rfl rfl (answer_set GA.out.a _ _ _ _ _) rfl) rfl ⟨by rw [HV.out]; rfl, answer_below GA.out.b _ _ _ _ _⟩
    · have heb : (e4 != 0) = true := by simpa using he
      have HV := Lib.hid (show frGet s.data.toList = .error e4 by rw [HG.out, if_pos he])
      go_wp2_with fail
      rw [HX4.out]
      have ga := GA.out
      clear r0 r1 z0 z1 k0 k4 kf GA HX4
      have a0 := ga.facts.2.2.2.1.1
      have a1 := ga.facts.2.2.2.1.2.1
      have a2 := ga.facts.2.2.2.1.2.2.1
      have a3 := ga.facts.2.2.2.1.2.2.2.1
      have a4 := ga.facts.2.2.2.1.2.2.2.2
      have y0 := ga.facts.2.2.2.2 0
      have y1' := ga.facts.2.2.2.2 1
      have y2' := ga.facts.2.2.2.2 2
      have y3' := ga.facts.2.2.2.2 3
      have y4' := ga.facts.2.2.2.2 4
      have r0 := ga.facts.1.1
      have r1 := ga.facts.1.2.1
      have GA := Lib.hid ga
      clear ga
      go_region
      all_goals go_wp2
      all_goals exact bodyPost_ret (fr_result (fn := Try.f15) (p := 2) (u := 3) rfl _ _ w.heap.size _ _ rfl rfl (show (World.drew _).heap[w.heap.size]? = _ from answer_set GA.out.a _ _ _ _ _) rfl) rfl ⟨by rw [HV.out]; rfl, (answer_below GA.out.b _ _ _ _ _).drew⟩
  · have hk2 : s[2] = 2 := by
      rw [← g2] at hk ⊢
      exact Decidable.byContradiction fun q => hh (.inr (.inr ⟨hk, q⟩))
    have u2 : (s[2].toNat : Int) = 2 := by rw [hk2]; rfl
    have HH := Lib.hid hh
    have HK := Lib.hid hk2
    have G2 := Lib.hid g2
    clear hh hk hk2 g0 g1 g2 t0 t1
    obtain ⟨l0, hl0⟩ : ∃ l0, s.data.toList.drop 3 = l0 := ⟨_, rfl⟩
    rw [hl0] at hex h0l
    rcases q1 : numS (l0, 0) 16 with ⟨⟨l1, e1⟩, n1⟩
    rcases q3 : numS (l1, e1) 1099511627776 with ⟨⟨l4, e4⟩, n3⟩
    have h1l := numS_at_len q1 h0l
    have h4l := numS_at_len q3 h1l
    have m1 := (numS_at_le q1).1
    have m3 := (numS_at_le q3).1
    have hlen : l4.length + 3 ≤ s.size := by
      have g1 := (numS_at_le q1).2
      have g3 := (numS_at_le q3).2
      have g5 : l0.length + 3 = s.size := by rw [← hl0, List.length_drop, ← HS.out]; omega
      omega
    have M := Lib.hid (And.intro m1 m3)
    have HLEN := Lib.hid hlen
    clear m1 m3 hlen
    have c1 := rNum_at l0 0 16 h0l q1
    have c3 := rNum_at l1 e1 1099511627776 h1l q3
    have HR : Hid (frRead false l0 = ((l4, e4), n1, 0, n3, [])) := Lib.hid (by unfold frRead; simp only [Bool.false_eq_true, if_false, q1, q3])
    have HL0 := Lib.hid hl0
    have ga := GB.new 2 l0 w
    clear q1 q3 hl0 h0l h1l
    go_enter Try.func15, Try.ntmps15
    go_wp2_with fail
    generalize ((w.alloc (.cells #[.int .i64 0, .int .i64 0, .int .i64 0, .int .i64 0, .string ⟨#[]⟩] 23)).alloc (.cells #[.int .i64 2, .int .i64 0, .int .i64 0, .int .i64 0, .string ⟨#[]⟩] 23)).alloc (.cells #[.string ⟨l0.toArray⟩, .int .i64 0] 62) = v0 at *
    refine (c1 _).mono ?_
    rintro e y1 ⟨rfl, hb⟩
    replace ga := ga.keep hb
    have r0 := ga.facts.1.1
    have r1 := ga.facts.1.2.1
    have z0 := ga.facts.1.2.2.1
    have z1 := ga.facts.1.2.2.2
    have k0 := ga.facts.2.1.1
    have k4 := ga.facts.2.1.2.2.2.2
    have kf := ga.facts.2.2.1 4
    have GA := Lib.hid ga
    clear hb ga
    go_wp2_with fail
    have ga := GA.out.store l1 e1
    generalize (y1.setCell ⟨w.heap.size + 1 + 1, 0, none⟩ (.string ⟨l1.toArray⟩)).setCell ⟨w.heap.size + 1 + 1, 1, none⟩ (.int .i64 e1) = x1 at *
    clear r0 r1 z0 z1 k0 k4 kf GA
    refine (c3 _).mono ?_
    rintro e y4 ⟨rfl, hb⟩
    replace ga := ga.keep hb
    have r0 := ga.facts.1.1
    have r1 := ga.facts.1.2.1
    have z0 := ga.facts.1.2.2.1
    have z1 := ga.facts.1.2.2.2
    have k0 := ga.facts.2.1.1
    have k4 := ga.facts.2.1.2.2.2.2
    have kf := ga.facts.2.2.1 4
    have YA := Lib.hid ga.facts.2.2.2
    have ga := ga.store l4 e4
    have gb := ga
    generalize hx4 : (y4.setCell ⟨w.heap.size + 1 + 1, 0, none⟩ (.string ⟨l4.toArray⟩)).setCell ⟨w.heap.size + 1 + 1, 1, none⟩ (.int .i64 e4) = x4 at ga
    have HX4 := Lib.hid hx4
    have q0 := ga.facts.1.1
    have q1 := ga.facts.1.2.1
    have GA := Lib.hid ga
    clear hb ga gb hx4
    have hgE : frGet s.data.toList = (if e4 ≠ 0 then .error e4 else if l4.length < 4 then .error 8 else if 4 < l4.length then .error 11 else if sumB (s.data.toList.take (s.data.toList.length - 4)) ≠ l4 then .error 10 else if frMay ⟨2, n1, 0, n3, []⟩ then .ok ⟨2, n1, 0, n3, []⟩ else .error 9) := by
      unfold frGet
      rw [if_neg (by have := HS.out; omega), if_neg HH.out, G2.out, HK.out]
      simp only [show ((2 : UInt8) == 1) = false from rfl, HL0.out, HR.out]
      rfl
    have HG := Lib.hid hgE
    clear hgE HR HL0
    by_cases he : e4 = 0
    · subst he
      by_cases hl : l4.length < 4
      · have HV := Lib.hid (show frGet s.data.toList = .error 8 by rw [HG.out, if_neg (by decide), if_pos hl])
        have hlz : (l4.length : Int) < 4 := by omega
        have a0 := YA.out.1.1
        have a1 := YA.out.1.2.1
        have a2 := YA.out.1.2.2.1
        have a3 := YA.out.1.2.2.2.1
        have a4 := YA.out.1.2.2.2.2
        have f0 := YA.out.2 0
        have f1 := YA.out.2 1
        have f2 := YA.out.2 2
        have f3 := YA.out.2 3
        have f4 := YA.out.2 4
        have ga := GA.out
        rw [← HX4.out] at ga
        replace GA := Lib.hid ga
        clear ga q0 q1
        go_wp2
        exact bodyPost_ret (fr_result (fn := Try.f15) (p := 2) (u := 3) rfl _ _ w.heap.size _ _ rfl rfl (answer_set GA.out.a _ _ _ _ _) rfl) rfl ⟨by rw [HV.out]; rfl, answer_below GA.out.b _ _ _ _ _⟩
      by_cases hl2 : 4 < l4.length
      · have HV := Lib.hid (show frGet s.data.toList = .error 11 by rw [HG.out, if_neg (by decide), if_neg hl, if_pos hl2])
        have hlz : ¬ (l4.length : Int) < 4 := by omega
        have hlz2 : (4 : Int) < (l4.length : Int) := by omega
        have a0 := YA.out.1.1
        have a1 := YA.out.1.2.1
        have a2 := YA.out.1.2.2.1
        have a3 := YA.out.1.2.2.2.1
        have a4 := YA.out.1.2.2.2.2
        have f0 := YA.out.2 0
        have f1 := YA.out.2 1
        have f2 := YA.out.2 2
        have f3 := YA.out.2 3
        have f4 := YA.out.2 4
        have ga := GA.out
        rw [← HX4.out] at ga
        replace GA := Lib.hid ga
        clear ga q0 q1
        go_wp2
        exact bodyPost_ret (fr_result (fn := Try.f15) (p := 2) (u := 3) rfl _ _ w.heap.size _ _ rfl rfl (answer_set GA.out.a _ _ _ _ _) rfl) rfl ⟨by rw [HV.out]; rfl, answer_below GA.out.b _ _ _ _ _⟩
      have h44 : l4.length = 4 := by omega
      have hsz : 7 ≤ s.size := by have := HLEN.out; omega
      have s4 : ((s.size : Int) - 4).toNat = s.size - 4 := by omega
      have hx1 := fun w => crsum_any (s.extract 0 (s.size - 4)) (by simp; unfold maxLen; omega) w
      have hx2 := fun w => crput_any (Crc.sum (byteL (s.extract 0 (s.size - 4)))) (sum_lt _) w
      have hsum : sumB (s.data.toList.take (s.data.toList.length - 4)) = putL (Crc.sum (byteL (s.extract 0 (s.size - 4)))) := by
        have h := extract_head (s := s) (a := s.data.toList.take (s.size - 4)) (r := s.data.toList.drop (s.size - 4)) (List.take_append_drop _ _).symm
        rw [List.length_take, ← HS.out, Nat.min_eq_left (by omega)] at h
        rw [h, ← HS.out]
        rfl
      have HSUM := Lib.hid hsum
      have H44 := Lib.hid h44
      have HL := Lib.hid hl
      have HL2 := Lib.hid hl2
      clear hsum h44 hl hl2
      generalize Crc.sum (byteL (s.extract 0 (s.size - 4))) = x at *
      generalize putL x = pl at *
      have hlz : ¬ (l4.length : Int) < 4 := by have := HL.out; omega
      have hlz2 : ¬ (4 : Int) < (l4.length : Int) := by have := HL2.out; omega
      have s5 : (0 : Int) ≤ (s.size : Int) - 4 := by omega
      have s6 : (s.size : Int) - 4 ≤ (s.size : Int) := by omega
      have s7 : IntKind.i64.wrap ((s.size : Int) - 4) = (s.size : Int) - 4 := IntWalk.i64_in _ (by omega)
      have s8 : ¬ s.size < s.size - 4 := by omega
      have s9 : (4 : Int) ≤ (s.size : Int) := by omega
      go_wp2_with fail
      rw [HX4.out]
      clear r0 r1 z0 z1 k0 k4 kf HX4 YA
      go_region_held (fun W => W.cell? ⟨w.heap.size + 1 + 1, 0, none⟩ = some (.string ⟨l4.toArray⟩) ∧ Below x4.heap.size x4 W)
        (first | exact ⟨q0, (Below.refl _ _).drew⟩ | assumption | exact keepGet (by assumption) hb)
        (first | (go_at_call 23; refine (hx1 _).mono ?_; rintro e w2 ⟨rfl, rfl⟩) | (go_at_call 22; refine (hx2 _).mono ?_; rintro e w2 ⟨rfl, hb⟩))
      rename_i hHeld
      have ga := GA.out.keep hHeld.2
      clear hHeld
      by_cases hpl : pl = l4
      · have hpb : (pl == l4) = true := by simpa using hpl
        rw [hpb, Bool.not_true]
        clear hpb
        have HPL := Lib.hid hpl
        clear hpl
        have o1 := M.out.1
        have o3 := M.out.2
        have k0 := ga.facts.2.1.1
        have k1 := ga.facts.2.1.2.1
        have k2 := ga.facts.2.1.2.2.1
        have k3 := ga.facts.2.1.2.2.2.1
        have k4 := ga.facts.2.1.2.2.2.2
        have g1 := ga.facts.2.2.1 1
        have g2 := ga.facts.2.2.1 2
        have g3 := ga.facts.2.2.1 3
        have Ga := Lib.hid ga
        clear ga GA
        have cM := fun w => rMay_any ((2 : Nat) : Int) n1 ((0 : Nat) : Int) n3 ⟨([] : List UInt8).toArray⟩ w (by rw [size_bytes]; simp)
        rw [size_bytes, mayI_fr] at cM
        unfold frV at cM
        rw [show (((2 : Nat) : Int)) = 2 from rfl, show (((0 : Nat) : Int)) = 0 from rfl] at cM
        by_cases hfm : frMay ⟨2, n1, 0, n3, []⟩
        · skip
          rw [show decide (frMay ⟨2, n1, 0, n3, []⟩) = true from decide_eq_true hfm] at cM
          have HV := Lib.hid (show frGet s.data.toList = .ok ⟨2, n1, 0, n3, []⟩ by rw [HG.out, if_neg (by decide), if_neg HL.out, if_neg HL2.out, if_neg (by rw [HSUM.out, HPL.out]; simp), if_pos hfm])
          go_wp2_with fail
          refine (cM _).mono ?_
          rintro e w3 ⟨rfl, hb⟩
          have g3' := Ga.out.nums _ _ _ hb
          clear hb k0 k1 k2 k3 k4 g1 g2 g3
          have a0 := cell_of_row _ _ 0 _ _ _ g3'.1
          have a1 := cell_of_row _ _ 1 _ _ _ g3'.1
          have a2 := cell_of_row _ _ 2 _ _ _ g3'.1
          have a3 := cell_of_row _ _ 3 _ _ _ g3'.1
          have a4 := cell_of_row _ _ 4 _ _ _ g3'.1
          have f0 := frozen_of_row _ _ 0 _ _ g3'.1
          have f1 := frozen_of_row _ _ 1 _ _ g3'.1
          have f2 := frozen_of_row _ _ 2 _ _ g3'.1
          have f3 := frozen_of_row _ _ 3 _ _ g3'.1
          have f4 := frozen_of_row _ _ 4 _ _ g3'.1
          have b0 := cell_of_row _ _ 0 _ _ _ g3'.2.1
          have b1 := cell_of_row _ _ 1 _ _ _ g3'.2.1
          have b2 := cell_of_row _ _ 2 _ _ _ g3'.2.1
          have b3 := cell_of_row _ _ 3 _ _ _ g3'.2.1
          have b4 := cell_of_row _ _ 4 _ _ _ g3'.2.1
          simp only [List.getElem?_toArray, List.getElem?_cons_zero, List.getElem?_cons_succ] at a0 a1 a2 a3 a4 b0 b1 b2 b3 b4
          have G3 := Lib.hid g3'
          clear g3'
          go_wp2
          exact bodyPost_ret (fr_result (fn := Try.f15) (p := 2) (u := 3) rfl _ _ w.heap.size _ _ rfl rfl (answer_set G3.out.1 _ _ _ _ _) rfl) rfl ⟨by rw [HV.out]; rfl, answer_below G3.out.2.2 _ _ _ _ _⟩
        · skip
          rw [show decide (frMay ⟨2, n1, 0, n3, []⟩) = false from decide_eq_false hfm] at cM
          have HV := Lib.hid (show frGet s.data.toList = .error 9 by rw [HG.out, if_neg (by decide), if_neg HL.out, if_neg HL2.out, if_neg (by rw [HSUM.out, HPL.out]; simp), if_neg hfm])
          go_wp2_with fail
          refine (cM _).mono ?_
          rintro e w3 ⟨rfl, hb⟩
          have g3' := Ga.out.nums _ _ _ hb
          clear hb k0 k1 k2 k3 k4 g1 g2 g3
          have a0 := cell_of_row _ _ 0 _ _ _ g3'.1
          have a1 := cell_of_row _ _ 1 _ _ _ g3'.1
          have a2 := cell_of_row _ _ 2 _ _ _ g3'.1
          have a3 := cell_of_row _ _ 3 _ _ _ g3'.1
          have a4 := cell_of_row _ _ 4 _ _ _ g3'.1
          have f0 := frozen_of_row _ _ 0 _ _ g3'.1
          have f1 := frozen_of_row _ _ 1 _ _ g3'.1
          have f2 := frozen_of_row _ _ 2 _ _ g3'.1
          have f3 := frozen_of_row _ _ 3 _ _ g3'.1
          have f4 := frozen_of_row _ _ 4 _ _ g3'.1
          have b0 := cell_of_row _ _ 0 _ _ _ g3'.2.1
          have b1 := cell_of_row _ _ 1 _ _ _ g3'.2.1
          have b2 := cell_of_row _ _ 2 _ _ _ g3'.2.1
          have b3 := cell_of_row _ _ 3 _ _ _ g3'.2.1
          have b4 := cell_of_row _ _ 4 _ _ _ g3'.2.1
          simp only [List.getElem?_toArray, List.getElem?_cons_zero, List.getElem?_cons_succ] at a0 a1 a2 a3 a4 b0 b1 b2 b3 b4
          have G3 := Lib.hid g3'
          clear g3'
          go_wp2
          exact bodyPost_ret (fr_result (fn := Try.f15) (p := 2) (u := 3) rfl _ _ w.heap.size _ _ rfl rfl (answer_set G3.out.1 _ _ _ _ _) rfl) rfl ⟨by rw [HV.out]; rfl, answer_below G3.out.2.2 _ _ _ _ _⟩
      · have hpb : (pl == l4) = false := by simpa using hpl
        rw [hpb, Bool.not_false]
        have HV := Lib.hid (show frGet s.data.toList = .error 10 by rw [HG.out, if_neg (by decide), if_neg HL.out, if_neg HL2.out, if_pos (by rw [HSUM.out]; exact hpl)])
        have a0 := ga.facts.2.2.2.1.1
        have a1 := ga.facts.2.2.2.1.2.1
        have a2 := ga.facts.2.2.2.1.2.2.1
        have a3 := ga.facts.2.2.2.1.2.2.2.1
        have a4 := ga.facts.2.2.2.1.2.2.2.2
        have f0 := ga.facts.2.2.2.2 0
        have f1 := ga.facts.2.2.2.2 1
        have f2 := ga.facts.2.2.2.2 2
        have f3 := ga.facts.2.2.2.2 3
        have f4 := ga.facts.2.2.2.2 4
        replace GA := Lib.hid ga
        clear ga
        go_wp2
        exact bodyPost_ret (fr_result (fn := Try.f15) (p := 2) (u := 3) rfl _ _ w.heap.size _ _ rfl rfl (answer_set GA.out.a _ _ _ _ _) rfl) rfl ⟨by rw [HV.out]; rfl, answer_below GA.out.b _ _ _ _ _⟩
    · have heb : (e4 != 0) = true := by simpa using he
      have HV := Lib.hid (show frGet s.data.toList = .error e4 by rw [HG.out, if_pos he])
      go_wp2_with fail
      rw [HX4.out]
      have ga := GA.out
      clear r0 r1 z0 z1 k0 k4 kf GA HX4
      have a0 := ga.facts.2.2.2.1.1
      have a1 := ga.facts.2.2.2.1.2.1
      have a2 := ga.facts.2.2.2.1.2.2.1
      have a3 := ga.facts.2.2.2.1.2.2.2.1
      have a4 := ga.facts.2.2.2.1.2.2.2.2
      have y0 := ga.facts.2.2.2.2 0
      have y1' := ga.facts.2.2.2.2 1
      have y2' := ga.facts.2.2.2.2 2
      have y3' := ga.facts.2.2.2.2 3
      have y4' := ga.facts.2.2.2.2 4
      have r0 := ga.facts.1.1
      have r1 := ga.facts.1.2.1
      have GA := Lib.hid ga
      clear ga
      go_region
      all_goals go_wp2
      all_goals exact bodyPost_ret (fr_result (fn := Try.f15) (p := 2) (u := 3) rfl _ _ w.heap.size _ _ rfl rfl (show (World.drew _).heap[w.heap.size]? = _ from answer_set GA.out.a _ _ _ _ _) rfl) rfl ⟨by rw [HV.out]; rfl, (answer_below GA.out.b _ _ _ _ _).drew⟩
end Go.Proofs.Ytckknopjhmpnhaa
