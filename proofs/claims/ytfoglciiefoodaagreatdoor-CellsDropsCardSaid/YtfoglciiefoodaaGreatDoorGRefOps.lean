/- Texts of this proof, joined. -/
import Derived.Test.YtfoglciiefoodaaGreatDoorGPlain
import Derived.Test.YtfoglciiefoodaaGreatDoorGReads64
import Derived.Test.YtfoglciiefoodaaGreatDoorGNameEq
import Derived.Laws.StructEq
namespace Go.Proofs.YtfoglciiefoodaaGreatDoor
open Go.RowKit

def opV (s q n k a : Int) (t : ByteArray) (sp : Value) : Value := .agg #[.int .i64 s, .int .i64 q, .int .i64 n, .int .i64 k, .int .i64 a, .string t, sp]
def OBox (N : Nat) (s q n k a : Int) (t : ByteArray) (sp : Value) (w W : World) : Prop :=
  W.cell? ⟨N, 0, none⟩ = some (.int .i64 s) ∧ W.cell? ⟨N, 1, none⟩ = some (.int .i64 q) ∧ W.cell? ⟨N, 2, none⟩ = some (.int .i64 n) ∧ W.cell? ⟨N, 3, none⟩ = some (.int .i64 k) ∧
    W.cell? ⟨N, 4, none⟩ = some (.int .i64 a) ∧ W.cell? ⟨N, 5, none⟩ = some (.string t) ∧ W.cell? ⟨N, 6, none⟩ = some sp ∧ Below N w W
theorem OBox.keep {N : Nat} {s q n k a : Int} {t : ByteArray} {sp : Value} {w W W' : World} (h : OBox N s q n k a t sp w W) (hb : Below W.heap.size W W') : OBox N s q n k a t sp w W' := by
  obtain ⟨h0, h1, h2, h3, h4, h5, h6, h7⟩ := h
  have hl : N < W.heap.size := World.block_lt_of_cell? W _ h0
  exact ⟨cell_stays hb h0, cell_stays hb h1, cell_stays hb h2, cell_stays hb h3, cell_stays hb h4, cell_stays hb h5, cell_stays hb h6, h7.trans (hb.mono (Nat.le_of_lt hl))⟩
theorem OBox.new (s q n k a : Int) (t : ByteArray) (sp : Value) (w : World) (ty : TypeId) : OBox w.heap.size s q n k a t sp w (w.alloc (.cells #[.int .i64 s, .int .i64 q, .int .i64 n, .int .i64 k, .int .i64 a, .string t, sp] ty)) := by
  have h := heap_alloc_new w (.cells #[.int .i64 s, .int .i64 q, .int .i64 n, .int .i64 k, .int .i64 a, .string t, sp] ty)
  exact ⟨cell_of_row _ _ 0 _ _ _ h, cell_of_row _ _ 1 _ _ _ h, cell_of_row _ _ 2 _ _ _ h, cell_of_row _ _ 3 _ _ _ h, cell_of_row _ _ 4 _ _ _ h, cell_of_row _ _ 5 _ _ _ h, cell_of_row _ _ 6 _ _ _ h, (Below.refl _ w).alloc (Nat.le_refl _) _⟩
end Go.Proofs.YtfoglciiefoodaaGreatDoor

namespace Go.Proofs.YtfoglciiefoodaaGreatDoor
open Go.RowKit

theorem list_data (x : ByteArray) : x.toList = x.data.toList := by obtain ⟨⟨l⟩⟩ := x; simp
end Go.Proofs.YtfoglciiefoodaaGreatDoor

namespace Go.Proofs.YtfoglciiefoodaaGreatDoor
open Go.RowKit

def RowC (sz : Nat) (W : World) (v : Value) (n : Nat) (cs : List Value) : Prop :=
  cs.length = n * sz ∧ ∃ ao cap, v = .slice ao n cap ∧ n ≤ cap ∧ cap ≤ maxLen ∧ (ao = none → cap = 0) ∧ ∀ ad, ao = some ad → ∃ b off, ad = ⟨b, off, none⟩ ∧ b < W.heap.size ∧ ∀ j u, cs[j]? = some u → W.cell? ⟨b, off + j, none⟩ = some u
theorem RowC.nil (sz : Nat) (W : World) : RowC sz W (.slice none 0 0) 0 [] := ⟨by simp, none, 0, rfl, Nat.le_refl _, Nat.zero_le _, fun _ => rfl, fun _ h => by cases h⟩
theorem RowC.below {sz : Nat} {W W' : World} {v : Value} {n : Nat} {cs : List Value} (h : RowC sz W v n cs) (hb : Below W.heap.size W W') : RowC sz W' v n cs := by
  obtain ⟨hl, ao, cap, rfl, h1, h2, h3, h4⟩ := h
  refine ⟨hl, ao, cap, rfl, h1, h2, h3, fun ad ha => ?_⟩
  obtain ⟨b, off, e, hlt, hc⟩ := h4 ad ha
  exact ⟨b, off, e, Nat.lt_of_lt_of_le hlt hb.size, fun j u hj => cell_stays hb (hc j u hj)⟩
theorem RowC.reads {sz : Nat} {W : World} {v : Value} {n : Nat} {cs : List Value} (h : RowC sz W v n cs) : RowR sz W v n cs := by
  obtain ⟨hl, ao, cap, rfl, h1, h2, h3, h4⟩ := h
  refine ⟨hl, ao, cap, rfl, fun hn => ?_⟩
  cases ao with
  | none => have := h3 rfl; omega
  | some ad =>
    obtain ⟨b, off, rfl, _, hc⟩ := h4 _ rfl
    exact ⟨b, off, rfl, hc⟩
theorem RowC.of_own {sz : Nat} {W : World} {base : Nat} {e : TypeId} {v : Value} {n : Nat} {cs : List Value} (h : W.ownsRow base e sz v n cs) : RowC sz W v n cs := by
  refine ⟨h.1, ?_⟩
  rcases h.2 with ⟨hv, h0⟩ | ⟨g, cap, cur, hv, _, hg, h1, h2, _⟩
  · exact ⟨none, 0, by rw [hv, h0], by omega, Nat.zero_le _, fun _ => rfl, fun _ q => by cases q⟩
  · subst hv
    refine ⟨_, cap, rfl, h1, h2, (fun q => by cases q), fun ad q => ?_⟩
    cases q
    refine ⟨g, 0, rfl, (Array.getElem?_eq_some_iff.1 hg).1, fun j u hj => ?_⟩
    have hjl := (List.getElem?_eq_some_iff.1 hj).1
    rw [Nat.zero_add, h.cellAt j (by rw [← h.1]; exact hjl)]
    exact hj
def cV (c : PCell) : List Value := [.int .i64 c.site, .int .i64 c.seq, .int .i64 c.off, .int .i32 c.r, .bool c.gone]
def cCells : List PCell → List Value
  | [] => []
  | c :: r => cV c ++ cCells r
theorem cCells_append : ∀ a b, cCells (a ++ b) = cCells a ++ cCells b
  | [], _ => rfl
  | c :: r, b => by show cV c ++ cCells (r ++ b) = _; rw [cCells_append r b, ← List.append_assoc]; rfl
theorem cCells_length : ∀ l, (cCells l).length = l.length * 5
  | [] => rfl
  | c :: r => by
    show (cV c ++ cCells r).length = (r.length + 1) * 5
    rw [List.length_append, cCells_length r, show (cV c).length = 5 from rfl]
    omega
theorem cCells_at : ∀ (l : List PCell) (i j : Nat) (c : PCell), l[i]? = some c → j < 5 → (cCells l)[i * 5 + j]? = (cV c)[j]?
  | [], i, _, _, h, _ => by simp at h
  | d :: r, 0, j, c, h, hj => by
    obtain rfl : d = c := by simpa using h
    show (cV d ++ cCells r)[0 * 5 + j]? = _
    rw [List.getElem?_append_left (by show 0 * 5 + j < 5; omega), show 0 * 5 + j = j by omega]
  | d :: r, i + 1, j, c, h, hj => by
    show (cV d ++ cCells r)[(i + 1) * 5 + j]? = _
    rw [List.getElem?_append_right (by show 5 ≤ (i + 1) * 5 + j; omega), show (i + 1) * 5 + j - (cV d).length = i * 5 + j by show (i + 1) * 5 + j - 5 = _; omega]
    exact cCells_at r i j c (by simpa using h) hj
theorem cCells_take (l : List PCell) (k : Nat) (hk : k ≤ l.length) : (cCells l).take (k * 5) = cCells (l.take k) := by
  have e := cCells_append (l.take k) (l.drop k)
  rw [List.take_append_drop] at e
  rw [e, List.take_left' (by rw [cCells_length, List.length_take]; omega)]
theorem cCells_drop (l : List PCell) (k : Nat) (hk : k ≤ l.length) : (cCells l).drop (k * 5) = cCells (l.drop k) := by
  have e := cCells_append (l.take k) (l.drop k)
  rw [List.take_append_drop] at e
  rw [e, List.drop_left' (by rw [cCells_length, List.length_take]; omega)]
theorem cV_one (c : PCell) : ∀ u ∈ cV c, u.oneCell' = true := by
  intro u hu
  simp only [cV, List.mem_cons, List.not_mem_nil, or_false] at hu
  rcases hu with rfl | rfl | rfl | rfl | rfl <;> rfl
theorem cCells_ones : ∀ (l : List PCell), ∀ u ∈ cCells l, u.oneCell' = true
  | [], u, h => by cases h
  | c :: r, u, h => by
    rcases List.mem_append.1 h with h | h
    · exact cV_one c u h
    · exact cCells_ones r u h
def CAt (W : World) (v : Value) (l : List PCell) : Prop := RowC 5 W v l.length (cCells l)
theorem CAt.nil (W : World) : CAt W (.slice none 0 0) [] := RowC.nil 5 W
theorem CAt.below {W W' : World} {v : Value} {l : List PCell} (h : CAt W v l) (hb : Below W.heap.size W W') : CAt W' v l := RowC.below h hb
theorem CAt.of_own {W : World} {base : Nat} {e : TypeId} {v : Value} {n : Nat} {l : List PCell} (h : W.ownsRow base e 5 v n (cCells l)) (hn : n = l.length) : CAt W v l := by
  subst hn
  exact RowC.of_own h
theorem CAt.shape {W : World} {v : Value} {l : List PCell} (h : CAt W v l) : ∃ ao cap, v = .slice ao l.length cap ∧ l.length ≤ cap ∧ cap ≤ maxLen := by
  obtain ⟨_, ao, cap, e, h1, h2, _⟩ := h
  exact ⟨ao, cap, e, h1, h2⟩
theorem CAt.at {W : World} {v : Value} {l : List PCell} (h : CAt W v l) {i : Nat} {c : PCell} (hi : l[i]? = some c) : ∃ b off cap, v = .slice (some ⟨b, off, none⟩) l.length cap ∧
    W.cell? ⟨b, off + i * 5, none⟩ = some (.int .i64 c.site) ∧ W.cell? ⟨b, off + i * 5 + 1, none⟩ = some (.int .i64 c.seq) ∧ W.cell? ⟨b, off + i * 5 + 2, none⟩ = some (.int .i64 c.off) ∧
    W.cell? ⟨b, off + i * 5 + 3, none⟩ = some (.int .i32 c.r) ∧ W.cell? ⟨b, off + i * 5 + 4, none⟩ = some (.bool c.gone) := by
  obtain ⟨_, ao, cap, rfl, h2⟩ := h.reads
  have hl := (List.getElem?_eq_some_iff.1 hi).1
  obtain ⟨b, off, rfl, hc⟩ := h2 (by omega)
  have e : ∀ j, j < 5 → W.cell? ⟨b, off + i * 5 + j, none⟩ = (cV c)[j]? := fun j hj => by
    have q := cCells_at l i j c hi hj
    have hlt : j < (cV c).length := hj
    rw [List.getElem?_eq_getElem hlt] at q ⊢
    rw [Nat.add_assoc]
    exact hc _ _ q
  refine ⟨b, off, cap, rfl, ?_, e 1 (by decide), e 2 (by decide), e 3 (by decide), e 4 (by decide)⟩
  exact e 0 (by decide)
end Go.Proofs.YtfoglciiefoodaaGreatDoor

namespace Go.Proofs.YtfoglciiefoodaaGreatDoor
open Go.RowKit

def cA (c : PCell) : Value := .agg #[.int .i64 c.site, .int .i64 c.seq, .int .i64 c.off, .int .i32 c.r, .bool c.gone]
set_option maxHeartbeats 2000000 in
theorem clEq (w : World) (c d : PCell) : (Op.equalIn 10000 62 (cA c) (cA d)).run Tryz.prog w = .ok (decide (c = d)) w := by
  obtain ⟨s, q, o, r, g⟩ := c
  obtain ⟨s', q', o', r', g'⟩ := d
  have gi := Tryz.underlying3
  have ga := Tryz.isAgg3
  have gz := Tryz.sizeOf3
  have ri := Tryz.underlying21
  have ra := Tryz.isAgg21
  have rz := Tryz.sizeOf21
  have bi := Tryz.underlying4
  have ba := Tryz.isAgg4
  have bz := Tryz.sizeOf4
  have na := Tryz.isAgg32
  have nz := Tryz.sizeOf32
  have nu := Tryz.underlying32
  unfold cA
  rw [show (10000 : Nat) = 9998 + 1 + 1 from rfl, run_equalIn_struct w (9998 + 1) 62 _ _ (by kernel_rfl) (by kernel_rfl)]
  simp only [Program.fieldsOf, Tryz.underlying62]
  simp only [Op.eqFields]
  go_simp
  by_cases h0 : s = s' <;> by_cases h1 : q = q' <;> by_cases h2 : o = o' <;> by_cases h3 : r = r' <;> by_cases h4 : g = g' <;> simp [h0, h1, h2, h3, h4]
theorem clEq_neq (w : World) (c d : PCell) (x : Bool) (hx : (!decide (c = d)) = x) : (binOp .neq 62 (.agg #[.int .i64 c.site, .int .i64 c.seq, .int .i64 c.off, .int .i32 c.r, .bool c.gone]) (.agg #[.int .i64 d.site, .int .i64 d.seq, .int .i64 d.off, .int .i32 d.r, .bool d.gone])).run Tryz.prog w = .ok (.bool x) w := by
  rw [run_neq_struct]
  have h := clEq w c d
  unfold cA at h
  rw [h, ← hx]; rfl
theorem getE_some {l : List PCell} {k : Nat} (h : k < l.length) : ∃ c, l[k]? = some c := ⟨l[k], List.getElem?_eq_getElem h⟩
theorem take_eq_next {l m : List PCell} {k : Nat} {c d : PCell} (h : l.take k = m.take k) (hc : l[k]? = some c) (hd : m[k]? = some d) (e : c = d) : l.take (k + 1) = m.take (k + 1) := by
  rw [List.take_add_one, List.take_add_one, h, hc, hd, e]
set_option maxRecDepth 100000 in
set_option maxHeartbeats 4000000 in
theorem cSame_any (v v' : Value) (l m : List PCell) (w : World) (h1 : CAt w v l) (h2 : CAt w v' m) (hn : l.length ≤ 1000000000) :
    Calls Tryz.prog 20 #[v, v'] w fun e w' => e = .returned (.bool (decide (l = m))) ∧ Below w.heap.size w w' := by
  have H1 := Lib.hid h1
  have H2 := Lib.hid h2
  obtain ⟨ao, cap, rfl, _, _⟩ := h1.shape
  obtain ⟨bo, cap', rfl, _, _⟩ := h2.shape
  by_cases hlm : l.length = m.length
  case neg =>
    rw [decide_eq_false (show ¬ l = m from fun e => hlm (by rw [e]))]
    generalize l.length = L at *
    generalize m.length = M at *
    have hne : ¬ ((L : Int) = (M : Int)) := by omega
    go_enter Tryz.func20, Tryz.ntmps20
    go_wp2
    go_ret
    exact ⟨rfl, Below.refl _ _⟩
  obtain ⟨L, hL⟩ : ∃ L, l.length = L := ⟨_, rfl⟩
  have hM : m.length = L := hlm.symm.trans hL
  rw [hL, hM]
  have HL := Lib.hid hL
  have HM := Lib.hid hM
  have Hlm := Lib.hid hlm
  rw [hL] at hn
  clear hL hM hlm h1 h2
  go_enter Tryz.func20, Tryz.ntmps20
  go_wp2
  go_loopw [5] (fun i wr => ∃ k : Nat, i = .int .i64 k ∧ k ≤ L ∧ RowKit.Hid (l.take k = m.take k) ∧ Below w.heap.size w wr) (fun i _ => L - (intOf i).toNat)
  case atStart => exact ⟨0, rfl, Nat.zero_le _, Lib.hid rfl, Below.refl _ _⟩
  case round =>
    rename_i wr
    obtain ⟨k, rfl, hk, ht, hb⟩ := hrel
    rcases Nat.lt_or_ge k L with hlt | hge
    · obtain ⟨c, hc⟩ := getE_some (l := l) (k := k) (by rw [HL.out]; exact hlt)
      obtain ⟨d, hd⟩ := getE_some (l := m) (k := k) (by rw [HM.out]; exact hlt)
      obtain ⟨b, off, cp, hv, c0, c1, c2, c3, c4⟩ := (H1.out.below hb).at hc
      rw [HL.out] at hv
      cases hv
      obtain ⟨b', off', cp', hv, d0, d1, d2, d3, d4⟩ := (H2.out.below hb).at hd
      rw [HM.out] at hv
      cases hv
      have hi0 : (0 : Int) ≤ (k : Int) ∧ (k : Int) < (L : Int) := ⟨by omega, by omega⟩
      have Hc := Lib.hid hc
      have Hd := Lib.hid hd
      clear hc hd
      by_cases hcd : c = d
      · have HT := Lib.hid (take_eq_next ht.out Hc.out Hd.out hcd)
        have hq := fun W => clEq_neq W c d false (by rw [decide_eq_true hcd]; rfl)
        clear hcd
        go_wp2_with fail
        go_quiet (fail)
        go_wp2
        exact ⟨⟨k + 1, by go_num, by omega, HT, below_draws hb _⟩, by simp [intOf]; omega⟩
      · have hq := fun W => clEq_neq W c d true (by rw [decide_eq_false hcd]; rfl)
        have hno : ¬ l = m := fun e => by
          have q := Hc.out
          rw [e, Hd.out] at q
          exact hcd (by simpa using q.symm)
        have hV := Lib.hid (show decide (l = m) = false from decide_eq_false hno)
        clear hcd hno
        go_wp2_with fail
        go_quiet (fail)
        go_wp2
        go_ret
        exact ⟨ret_bool hV.out.symm, below_draws hb _⟩
    · have he : k = L := by omega
      subst he
      have hyes : l = m := by
        have q := ht.out
        rwa [List.take_of_length_le (by rw [HL.out]; exact Nat.le_refl _), List.take_of_length_le (by rw [HM.out]; exact Nat.le_refl _)] at q
      have hV := Lib.hid (show decide (l = m) = true from decide_eq_true hyes)
      clear hyes
      go_wp2
      go_ret
      exact ⟨ret_bool hV.out.symm, hb⟩
end Go.Proofs.YtfoglciiefoodaaGreatDoor
