/- Texts of this proof, joined. -/
import Derived.Test.YtfoglciiefoodaaGreatDoorGCellsBlk
import Derived.Test.YtfoglciiefoodaaGreatDoorBridge
import Derived.Test.YtfoglciiefoodaaGreatDoorGSpansPlain
namespace Go.Proofs.YtfoglciiefoodaaGreatDoor
open Go.RowKit Go.Shelf
attribute [local go_sem] Oper.semAt_some

def posOf (g : Bool) : List PCell → Nat → List Nat
  | [], _ => []
  | c :: r, b => (if c.gone = g then [b] else []) ++ posOf g r (b + 1)
theorem posOf_append (g : Bool) : ∀ (a b : List PCell) (k : Nat), posOf g (a ++ b) k = posOf g a k ++ posOf g b (k + a.length)
  | [], b, k => by simp [posOf]
  | c :: r, b, k => by
    show (if c.gone = g then [k] else []) ++ posOf g (r ++ b) (k + 1) = _
    rw [posOf_append g r b (k + 1), ← List.append_assoc, List.length_cons, show k + 1 + r.length = k + (r.length + 1) by omega]
    rfl
theorem posOf_length (g : Bool) : ∀ (l : List PCell) (k : Nat), (posOf g l k).length = if g then goneN l else liveN l
  | [], k => by cases g <;> rfl
  | c :: r, k => by
    show ((if c.gone = g then [k] else []) ++ posOf g r (k + 1)).length = _
    rw [List.length_append, posOf_length g r (k + 1)]
    unfold goneN liveN
    rw [List.countP_cons, List.countP_cons]
    cases g <;> cases c.gone <;> simp <;> omega
theorem posOf_lt (g : Bool) : ∀ (l : List PCell) (k : Nat), ∀ p ∈ posOf g l k, k ≤ p ∧ p < k + l.length
  | [], k, p, h => by cases h
  | c :: r, k, p, h => by
    rcases List.mem_append.1 h with h | h
    · split at h
      · rw [List.mem_singleton.1 h, List.length_cons]; omega
      · cases h
    · have := posOf_lt g r (k + 1) p h
      rw [List.length_cons]
      omega
theorem posOf_snoc (g : Bool) {l : List PCell} {j : Nat} {c : PCell} (h : l[j]? = some c) (k : Nat) : posOf g (l.take (j + 1)) k = posOf g (l.take j) k ++ (if c.gone = g then [k + j] else []) := by
  rw [List.take_add_one, h, posOf_append, List.length_take, Nat.min_eq_left (Nat.le_of_lt (List.getElem?_eq_some_iff.1 h).1)]
  simp [posOf]
theorem posOf_take (g : Bool) (l : List PCell) (j k : Nat) : posOf g (l.take j) k <+: posOf g l k := by
  conv => rhs; rw [← List.take_append_drop j l]
  rw [posOf_append]
  exact ⟨_, rfl⟩
def posX (bs : List PB) (g : Bool) (pre : List (Fin bs.length)) : List Nat := pre.flatMap fun x => posOf g bs[x].cs (catB (bs.take x.val)).length
theorem posX_snoc (bs : List PB) (g : Bool) (pre : List (Fin bs.length)) (x : Fin bs.length) : posX bs g (pre ++ [x]) = posX bs g pre ++ posOf g bs[x].cs (catB (bs.take x.val)).length := by simp [posX]
theorem posX_begK (bs : List PB) (g : Bool) : ∀ k, k ≤ bs.length → posX bs g (begK bs k) = posOf g (catB (bs.take k)) 0
  | 0, _ => by simp [posX, begK, catB, posOf]
  | k + 1, h => by
    have hk : k < bs.length := by omega
    rw [begK_next bs k hk, posX_snoc, posX_begK bs g k (by omega), catB_take (List.getElem?_eq_getElem hk), posOf_append, Nat.zero_add]
    rfl
theorem posX_all (bs : List PB) (g : Bool) : posX bs g (begL bs) = posOf g (catB bs) 0 := by
  have := posX_begK bs g bs.length (Nat.le_refl _)
  rw [begK_all, List.take_length] at this
  exact this
theorem posX_pre {bs : List PB} {g : Bool} {pre : List (Fin bs.length)} (h : pre <+: begL bs) : posX bs g pre <+: posOf g (catB bs) 0 := by
  obtain ⟨t, ht⟩ := h
  rw [← posX_all, ← ht]
  exact ⟨posX bs g t, by simp [posX]⟩
theorem posX_le {bs : List PB} {g : Bool} {M : Nat} (hM : ∀ x ∈ bs, x.cs.length ≤ M) (pre : List (Fin bs.length)) : (posX bs g pre).length ≤ pre.length * M := by
  unfold posX
  induction pre with
  | nil => simp
  | cons a r ih =>
    rw [List.flatMap_cons, List.length_append, List.length_cons, Nat.add_mul, posOf_length]
    have h1 := hM bs[a] (List.getElem_mem _)
    have h2 := liveN_gone bs[a].cs
    split <;> omega
def toP (p : Nat) : Fin 1000000 := Fin.ofNat 1000000 p
theorem toP_val {p : Nat} (h : p < 1000000) : (toP p).val = p := Nat.mod_eq_of_lt h
abbrev encPl (x : Fin 1000000) : Array Value := #[.int .i64 (x.val : Int)]
def yl (few : Nat) (q : List Nat) : List (Fin 1000000) := (q.drop few).map toP
theorem yl_few {few : Nat} {q : List Nat} (h : q.length ≤ few) : yl few q = [] := by unfold yl; rw [List.drop_of_length_le h]; rfl
theorem yl_snoc {few : Nat} {q : List Nat} {p : Nat} (h : few ≤ q.length) : yl few (q ++ [p]) = yl few q ++ [toP p] := by
  unfold yl
  rw [List.drop_append_of_le_length h, List.map_append]
  rfl
theorem yl_skip {few : Nat} {q r : List Nat} (h : r.length ≤ few - q.length) : yl few (q ++ r) = yl few q := by
  rcases Nat.lt_or_ge few (q.length + r.length) with g | g
  rotate_left
  · rw [yl_few (by rw [List.length_append]; exact g), yl_few (by omega)]
  · obtain rfl : r = [] := List.eq_nil_of_length_eq_zero (by omega)
    rw [List.append_nil]
theorem yl_pre {few : Nat} {p q : List Nat} (h : p <+: q) : yl few p <+: yl few q := by
  obtain ⟨t, rfl⟩ := h
  unfold yl
  rcases Nat.le_total few p.length with g | g
  · rw [List.drop_append_of_le_length g, List.map_append]
    exact ⟨_, rfl⟩
  · rw [List.drop_of_length_le g]
    exact ⟨_, rfl⟩
theorem yl_length (few : Nat) (q : List Nat) : (yl few q).length ≤ q.length := by unfold yl; rw [List.length_map, List.length_drop]; omega
theorem roundIn_depth {n n' : Nat} {P : Program} {l : Nat} {f : FuncId} {tmps : Array Value} {assign body : Code} {w : World} {R : Ending → World → Prop} (h : RoundIn Fence.wide n P l f tmps assign body w R) : RoundIn Fence.wide n' P l f tmps assign body w R :=
  ⟨h.1, fun c cs _ => h.2 c cs (room_wide _)⟩
theorem ne_box {W : World} {i k : Nat} {c c' : Array Value} {t t' : TypeId} {fr fr' : Nat × Nat} (h : W.heap[i]? = some (.cells c t fr)) (q : W.heap[k]? = some (.cells c' t' fr')) (ht : t ≠ t') : i ≠ k := by
  intro e
  subst e
  rw [h] at q
  cases q
  exact ht rfl
theorem set_al {w : World} {B : Nat} {u : Value} {o : Obj} (h : B < w.heap.size) : (w.setCell ⟨B, 0, none⟩ u).alloc o = (w.alloc o).setCell ⟨B, 0, none⟩ u := (World.setCell_alloc_past (w := w) o B 0 u h).symm
theorem kf_row {n₀ m₁ : Nat} {W W' : World} {i : Nat} {c : Array Value} {t : TypeId} {fr : Nat × Nat} (h : KF n₀ m₁ W W') (hi : i < n₀ ∨ m₁ ≤ i) (ht : ¬ RowT t) (q : W.heap[i]? = some (.cells c t fr)) : W'.heap[i]? = some (.cells c t fr) := by
  rcases hi with g | g
  · exact (h.1.block i g).trans q
  · exact h.2 i c t fr g ht q

set_option maxRecDepth 100000 in
set_option maxHeartbeats 8000000 in
theorem places_stops (Bf Bd Bg n₀ m₁ B : Nat) (bv nm : Value) (bs : List PB) (g : Bool) (few : Nat) (hfew : few ≤ 1000000) (w₀ : World) (h₀ : n₀ = w₀.heap.size) (hR : DocR w₀ B bv nm bs) (w : World) (hb0 : Below n₀ w₀ w) (hm : m₁ ≤ w.heap.size)
    (hBf : w.heap[Bf]? = some (.cells #[.int .i64 (few : Int)] 3 (0, 0))) (hBd : w.heap[Bd]? = some (.cells #[.pointer (some ⟨B, 0, none⟩)] 26 (0, 0))) (hBg : w.heap[Bg]? = some (.cells #[.bool g] 4 (0, 0)))
    (sf : Bf < n₀ ∨ m₁ ≤ Bf) (sd : Bd < n₀ ∨ m₁ ≤ Bd) (sg : Bg < n₀ ∨ m₁ ≤ Bg) :
    SeqStopsO RowT Fence.wide 4 Tryz.prog 81 #[.pointer (some ⟨Bf, 0, none⟩), .pointer (some ⟨Bd, 0, none⟩), .pointer (some ⟨Bg, 0, none⟩)] encPl (KF n₀ m₁) (fun ys => ys = yl few (posOf g (catB bs) 0)) (fun pre => pre <+: yl few (posOf g (catB bs) 0)) 1000000000000 w := by
  subst h₀
  intro l J Jx W hW hWs hJ hJx hY h0
  have hbeg := fun W => begins_any (some ⟨B, 0, none⟩) W
  have hcs : ∀ x ∈ bs, x.cs.length ≤ 100000 := fun x hx => by
    obtain ⟨k, hk, rfl⟩ := List.mem_iff_getElem.1 hx
    have := catB_le (List.getElem?_eq_getElem hk)
    have := hR.room
    omega
  have hst := fun Bd m₁ W h1 h2 h3 => begins_stops 3 (by decide) Bd m₁ B bv nm bs w₀ hR W h1 h2 h3
  have q1 := row_up hBf hW
  have q2 := row_up hBd hW
  have q3 := row_up hBg hW
  have hbW : Below w₀.heap.size w₀ W := hb0.trans (hW.mono (by have := hb0.size; omega))
  have c1 := box_cell (row_al q1 (.cells #[.func (.yield l) #[] #[]] 110)) 0
  have c2 := row_al (row_al q2 (.cells #[.func (.yield l) #[] #[]] 110)) (.cells #[.int .i64 (few : Int)] 3)
  have c3 := box_cell c2 0
  refine callsIn_of_wp_marks Tryz.func81 rfl trivial ?_ rfl
  simp only [Tryz.ntmps81, List.size_toArray, List.length_cons, List.length_nil, Nat.reduceAdd, Nat.reduceSub, Array.replicate_succ, Array.replicate_zero, List.push_toArray, List.append_toArray, List.nil_append, List.cons_append]
  gi_wp2_with (refine ⟨trivial, ?_⟩; gi_at_call 48; refine (callsIn_wide.2 (hbeg _)).mono ?_; rintro e _ ⟨rfl, rfl⟩)
  have A0 := row_al (row_al (heap_new W (.cells #[.func (.yield l) #[] #[]] 110)) (.cells #[.int .i64 (few : Int)] 3)) (.cells #[.pointer (some ⟨B, 0, none⟩)] 26)
  have A1 := row_al (heap_new1 W (.cells #[.func (.yield l) #[] #[]] 110) (.cells #[.int .i64 (few : Int)] 3)) (.cells #[.pointer (some ⟨B, 0, none⟩)] 26)
  have A2 := heap_new2 W (.cells #[.func (.yield l) #[] #[]] 110) (.cells #[.int .i64 (few : Int)] 3) (.cells #[.pointer (some ⟨B, 0, none⟩)] 26)
  have Ad := row_al c2 (.cells #[.pointer (some ⟨B, 0, none⟩)] 26)
  have Ag := row_al (row_al (row_al q3 (.cells #[.func (.yield l) #[] #[]] 110)) (.cells #[.int .i64 (few : Int)] 3)) (.cells #[.pointer (some ⟨B, 0, none⟩)] 26)
  have AK : KF w₀.heap.size m₁ W (((W.alloc (.cells #[.func (.yield l) #[] #[]] 110)).alloc (.cells #[.int .i64 (few : Int)] 3)).alloc (.cells #[.pointer (some ⟨B, 0, none⟩)] 26)) := KF.below (by have := hbW.size; omega) ((((Below.refl _ W).alloc (Nat.le_refl _) _).alloc (by simp) _).alloc (by simp; omega) _)
  have AS : (((W.alloc (.cells #[.func (.yield l) #[] #[]] 110)).alloc (.cells #[.int .i64 (few : Int)] 3)).alloc (.cells #[.pointer (some ⟨B, 0, none⟩)] 26)).heap.size = W.heap.size + 1 + 1 + 1 := by simp
  have AJ : J (yl few []) (((W.alloc (.cells #[.func (.yield l) #[] #[]] 110)).alloc (.cells #[.int .i64 (few : Int)] 3)).alloc (.cells #[.pointer (some ⟨B, 0, none⟩)] 26)) := by
    rw [yl_few (Nat.zero_le _)]
    exact OwnFrom.alloc hJ.from _ (OwnFrom.alloc hJ.from _ (OwnFrom.alloc hJ.from _ h0))
  have AB : Below w₀.heap.size w₀ (((W.alloc (.cells #[.func (.yield l) #[] #[]] 110)).alloc (.cells #[.int .i64 (few : Int)] 3)).alloc (.cells #[.pointer (some ⟨B, 0, none⟩)] 26)) := hbW.trans AK.1
  generalize ((W.alloc (.cells #[.func (.yield l) #[] #[]] 110)).alloc (.cells #[.int .i64 (few : Int)] 3)).alloc (.cells #[.pointer (some ⟨B, 0, none⟩)] 26) = w3 at A0 A1 A2 Ad Ag AK AS AJ AB ⊢
  clear c1 c2 c3 q1 q2 q3
  have hWm : m₁ ≤ W.heap.size := by omega
  have hnW : w₀.heap.size ≤ W.heap.size := by have := hbW.size; omega
  have hst := hst (W.heap.size + 1 + 1) (W.heap.size + 1 + 1) w3 AB A2 (Nat.le_refl _)
  have hroom := hR.room
  have HR := Lib.hid hR
  have HY := Lib.hid hY
  have HJ := Lib.hid (And.intro hJ hJx)
  clear hR hbeg hY hJ hJx
  refine wpIn_rangeFunc_ownG rfl (by decide) (gf := 76) (lb := #[.pointer (some ⟨W.heap.size + 1 + 1, 0, none⟩)]) rfl trivial (enters_of Tryz.func76 (by kernel_rfl) rfl)
    hst (fun h k => kf_t h k) (kf_b (by omega)) (Below.refl _ _) (fun _ => rfl)
    (fun pre X => (X.heap[W.heap.size]? = some (.cells #[.func (.yield l) #[] #[]] 110 (0, 0)) ∧ X.heap[W.heap.size + 1]? = some (.cells #[.int .i64 ((few - (posX bs g pre).length : Nat) : Int)] 3 (0, 0)) ∧
      X.heap[Bd]? = some (.cells #[.pointer (some ⟨B, 0, none⟩)] 26 (0, 0)) ∧ X.heap[Bg]? = some (.cells #[.bool g] 4 (0, 0))) ∧ J (yl few (posX bs g pre)) X ∧ Below w₀.heap.size w₀ X)
    (fun c pre X => (c = .ret ∧ ∃ q, q <+: posX bs g pre ∧ Jx (yl few q) X))
    (OwnFrom.and (Own.from (fun s A B row hs hg hr => ⟨row_turn hs.1 hg hr, row_turn hs.2.1 hg hr, row_turn hs.2.2.1 hg hr, row_turn hs.2.2.2 hg hr⟩) _) (OwnFrom.and (fun s A B row hs hg hr => (OwnFrom.up HJ.out.1.from (by omega)) _ A B row hs hg hr) (ownFrom_below (by omega) (by omega))))
    (fun c s A B row hs hg hr => ⟨hs.1, by obtain ⟨q, h1, h2⟩ := hs.2; exact ⟨q, h1, (OwnFrom.up HJ.out.2.from (by omega)) _ A B row h2 hg hr⟩⟩)
    ⟨⟨A0, by simpa [posX] using A1, Ad, Ag⟩, by simpa [posX] using AJ, AB⟩
    (fun x => { tmps := #[.func (.yield l) #[] #[], .pointer (some ⟨Bf, 0, none⟩), .pointer (some ⟨Bd, 0, none⟩), .pointer (some ⟨Bg, 0, none⟩), .pointer (some ⟨W.heap.size, 0, none⟩), .pointer (some ⟨W.heap.size + 1, 0, none⟩), .int .i64 (x.val : Int), .int .i64 ((catB (bs.take x.val)).length : Nat), undef, undef, undef, undef, .int .i64 (few : Int), .pointer (some ⟨B, 0, none⟩), .func (.func 76) #[] #[.pointer (some ⟨W.heap.size + 1 + 1, 0, none⟩)], .int .i64 (x.val : Int), .int .i64 ((catB (bs.take x.val)).length : Nat), undef, undef, undef, undef, undef, undef, undef, undef, undef, undef, undef, undef, undef, undef, undef, undef, undef, undef, undef, undef, undef, undef, undef, undef, undef, undef, undef, undef, undef, undef, undef, undef, undef, undef, undef, undef, undef, undef, undef, undef, undef, undef, undef, undef, undef, undef], defers := [] }) ?assign ?body ?done ?stop
  case assign =>
    intro l x W K hK
    gi_wp2
    exact hK
  case body =>
    rintro l' pre x X ⟨⟨a0, a1, a2, a3⟩, hj, hB⟩ hlen
    have hk : bs[x.val]? = some bs[x] := List.getElem?_eq_getElem x.isLt
    have hd := HR.out.below hB
    obtain ⟨gk, off, cp, hbv, d0, d1, d2⟩ := hd.at hk
    have bx := hd.box
    rw [hbv] at bx
    have e2 := box_cell a2 0
    have e4 := box_cell bx 0
    have hi0 : (0 : Int) ≤ (x.val : Int) ∧ (x.val : Int) < (bs.length : Int) := ⟨by omega, by have := x.isLt; omega⟩
    have hcx := hcs bs[x] (List.getElem_mem _)
    have hlg := liveN_gone bs[x].cs
    have hpl := posOf_length g bs[x].cs (catB (bs.take x.val)).length
    have HPS := Lib.hid (posX_snoc bs g pre x)
    have hpx := posX_le (g := g) hcs pre
    have hfw := HR.out.few
    have hle := catB_le hk
    obtain ⟨L, hL⟩ : ∃ L, liveN bs[x].cs = L := ⟨_, rfl⟩
    obtain ⟨G, hG⟩ : ∃ G, goneN bs[x].cs = G := ⟨_, rfl⟩
    obtain ⟨F, hF⟩ : ∃ F, (catB (bs.take x.val)).length = F := ⟨_, rfl⟩
    obtain ⟨Q, hQ⟩ : ∃ Q, posX bs g pre = Q := ⟨_, rfl⟩
    rw [hL] at d0 hlg hpl
    rw [hG] at d1 hlg hpl
    rw [hF] at hpl hle
    rw [hQ] at a1 hj hpx
    rw [hF]
    obtain ⟨M, hM⟩ : ∃ M, (if g then G else L) = M := ⟨_, rfl⟩
    rw [hM] at hpl
    have hMi : (if g then (G : Int) else (L : Int)) = (M : Int) := by rw [← hM]; cases g <;> rfl
    have hof := fun X => cof_any (L : Int) (G : Int) g X
    rw [hMi] at hof
    have HOF := Lib.hid hof
    have HE := Lib.hid (And.intro hL (And.intro hG (And.intro hF (And.intro hQ (And.intro hM hpl)))))
    have HA := Lib.hid (And.intro a0 (And.intro a1 (And.intro a2 (And.intro a3 (And.intro hj hB)))))
    have HD := Lib.hid (And.intro d0 d1)
    have hbz : Q.length ≤ 100000000000 ∧ M ≤ 100000 ∧ F + bs[x].cs.length ≤ 100000 := by
      have h1 : pre.length * 100000 ≤ 100000000000 := by omega
      refine ⟨by omega, ?_, by omega⟩
      rw [← hM]; split <;> omega
    have HZ := Lib.hid hbz
    clear hL hG hF hQ hM hMi hpl hof hlg hcx hpx hfw hle a0 a1 hj hB d0 d1 hbz hd bx hlen
    gi_wp2
    refine region_bridge (ro := some l') (S := fun X => Below w₀.heap.size w₀ X ∧ X.heap[Bg]? = some (.cells #[.bool g] 4 (0, 0))) (by kernel_rfl) (by kernel_rfl) (by rintro ⟨_, _, h⟩; exact h) ⟨HA.out.2.2.2.2.2.drew, a3⟩ (fun hHeld => ?_)
    refine wpAnyH_take (i := 0) (v := ?_) rfl (by kernel_rfl) (by kernel_rfl) (by kernel_rfl) (fun _ _ _ h => h) (Or.inl ⟨rfl, ?hy1⟩) (by assumption) ?_
    case hy1 =>
      intro W hS
      go_simp
      try with_reducible rfl
    try simp only [Act.put, List.getElem_toArray, List.getElem_cons_zero, List.setIfInBounds_toArray, List.set_cons_zero, List.set_cons_succ]
    refine wpAnyH_take (i := 1) (v := ?_) rfl (by kernel_rfl) (by kernel_rfl) (by kernel_rfl) (fun _ _ _ h => h) (Or.inl ⟨rfl, ?hy2⟩) (by assumption) ?_
    case hy2 =>
      intro W hS
      go_simp
      try with_reducible rfl
    try simp only [Act.put, List.getElem_toArray, List.getElem_cons_succ, List.getElem_cons_zero, List.setIfInBounds_toArray, List.set_cons_zero, List.set_cons_succ]
    refine wpAnyH_take (i := 2) (v := ?_) rfl (by kernel_rfl) (by kernel_rfl) (by kernel_rfl) (fun _ _ _ h => h) (Or.inl ⟨rfl, ?hy3⟩) (by assumption) ?_
    case hy3 =>
      intro W hS
      go_simp
      try with_reducible rfl
    try simp only [Act.put, List.getElem_toArray, List.getElem_cons_succ, List.getElem_cons_zero, List.setIfInBounds_toArray, List.set_cons_zero, List.set_cons_succ]
    refine wpAnyH_take (i := 3) (v := ?_) rfl (by kernel_rfl) (by kernel_rfl) (by kernel_rfl) (fun _ _ _ h => h) (Or.inl ⟨rfl, ?hy4⟩) (by assumption) ?_
    case hy4 =>
      intro W hS
      have s1 := hS.1
      have s2 := box_cell hS.2 0
      obtain ⟨gk', off', cp', hv', d0', d1', -⟩ := (HR.out.below s1).at hk
      cases hbv.symm.trans hv'
      rw [HE.out.1] at d0'
      rw [HE.out.2.1] at d1'
      go_simp
      try with_reducible rfl
    try simp only [Act.put, List.getElem_toArray, List.getElem_cons_succ, List.getElem_cons_zero, List.setIfInBounds_toArray, List.set_cons_zero, List.set_cons_succ]
    refine wpAnyH_take (i := 4) (v := ?_) rfl (by kernel_rfl) (by kernel_rfl) (by kernel_rfl) (fun _ _ _ h => h) (Or.inl ⟨rfl, ?hy5⟩) (by assumption) ?_
    case hy5 =>
      intro W hS
      have s1 := hS.1
      have s2 := box_cell hS.2 0
      obtain ⟨gk', off', cp', hv', d0', d1', -⟩ := (HR.out.below s1).at hk
      cases hbv.symm.trans hv'
      rw [HE.out.1] at d0'
      rw [HE.out.2.1] at d1'
      go_simp
      try with_reducible rfl
    try simp only [Act.put, List.getElem_toArray, List.getElem_cons_succ, List.getElem_cons_zero, List.setIfInBounds_toArray, List.set_cons_zero, List.set_cons_succ]
    refine wpAnyH_ready (rs := [5]) (by kernel_rfl) (by simp) (AllReadyH.cons rfl (fun K hK => ?_) AllReadyH.nil)
    go_simp
    go_wp2_with (go_at_call 82; refine (HOF.out _).mono ?_; rintro e wq ⟨rfl, hb⟩)
    refine hK.out _ _ (⟨hHeld.1.trans (hb.mono hHeld.1.size), row_up hHeld.2 hb⟩) (fun hX => ?_)
    clear hK K hHeld
    have hHeld := hX
    clear hX
    refine wpAnyH_take (i := 6) (v := ?_) rfl (by kernel_rfl) (by kernel_rfl) (by kernel_rfl) (fun _ _ _ h => h) (Or.inl ⟨rfl, ?hy6⟩) (by assumption) ?_
    case hy6 =>
      intro W hS
      go_simp
      try with_reducible rfl
    try simp only [Act.put, List.getElem_toArray, List.getElem_cons_succ, List.getElem_cons_zero, List.setIfInBounds_toArray, List.set_cons_zero, List.set_cons_succ]
    refine wpAnyH_done (by kernel_rfl) ?_ _
    have hgr : X.grownBy wq none := ⟨hb.os, hb.tape, hb.output, hb.size, fun i hi _ => hb.block i hi⟩
    have hX0 := HA.out
    obtain ⟨a0, a1, a2', a3', hj, hB⟩ := hX0
    have b0 := row_up (W := X.drew) a0 hb
    have b1 := row_up (W := X.drew) a1 hb
    have b2 := row_up (W := X.drew) a2 hb
    have b3 := row_up (W := X.drew) a3 hb
    have bj : J (yl few Q) wq := HJ.out.1 _ X wq none hj hgr (fun r e => by cases e)
    have hS3 : w3.heap.size = W.heap.size + 1 + 1 + 1 := AS
    have hYlt := box_lt a1
    have bk : KeepsFrom w3.heap.size X wq := ((KeepsOthers.drew X).trans (others_below hb)).from _
    have bf : KF w₀.heap.size (W.heap.size + 1 + 1) X wq := kf_t (KF.refl _ _ X).drew (KF.below hB.size hb)
    have bB := hHeld.1
    have z1 := box_cell b1 0
    have zf := box_frozen b1 0
    have HB := Lib.hid (And.intro b0 (And.intro b1 (And.intro b2 (And.intro b3 (And.intro bj (And.intro bk (And.intro bf bB)))))))
    clear a0 a1 a2' a3' hj hB hgr hb hHeld b0 b1 b2 b3 bj bk bf bB a2 a3 e2 e4
    obtain ⟨k0, hk0⟩ : ∃ k0, few - Q.length = k0 := ⟨_, rfl⟩
    have HK := Lib.hid hk0
    rw [hk0] at z1
    have hk0b : k0 ≤ 1000000 := by omega
    clear hk0
    have hskip : ∀ (v : Int) (Y : World) (s : List (Fin 1000000)), J s Y → (∃ c, Y.heap[W.heap.size + 1]? = some (.cells c 3 (0, 0))) → J s (Y.setCell ⟨W.heap.size + 1, 0, none⟩ (.int .i64 v)) := fun v Y s h1 ⟨c, h2⟩ => HJ.out.1 s Y _ _ h1 (grownBy_setCell' Y (W.heap.size + 1) (.int .i64 v)) (fun r e => by cases e; exact ⟨by omega, _, h2, .inr ⟨_, _, _, rfl, by unfold RowT; decide⟩⟩)
    have HSK := Lib.hid hskip
    clear hskip
    by_cases hsk : M ≤ k0
    · have hsk' : (M : Int) ≤ (k0 : Int) := by omega
      have hwr : IntKind.i64.wrap ((k0 : Int) - (M : Int)) = (k0 : Int) - (M : Int) := IntWalk.i64_in _ (by omega)
      gi_wp2
      obtain ⟨b0, b1, b2, b3, bj, bk, bf, bB⟩ := HB.out
      have hQx : posX bs g (pre ++ [x]) = Q ++ posOf g bs[x].cs F := by rw [HPS.out, HE.out.2.2.2.1, HE.out.2.2.1]
      have hlQ : (posOf g bs[x].cs F).length = M := HE.out.2.2.2.2.2
      have hkk := HK.out
      refine ⟨bk.trans ((KeepsOthers.setCell _ _ _).from _), kf_t bf (KF.set (by omega) (by omega)), ⟨(box_other (by omega) 0 _).trans b0, ?_, (box_other (ne_box b2 b1 (by decide)) 0 _).trans b2, (box_other (ne_box b3 b1 (by decide)) 0 _).trans b3⟩, ?_, bB.setCell (p := ⟨W.heap.size + 1, 0, none⟩) (by show w₀.heap.size ≤ W.heap.size + 1; omega) _⟩
      · rw [hQx, List.length_append, hlQ]
        have := box_set b1 0 (.int .i64 ((k0 : Int) - (M : Int)))
        rw [show ((few - (Q.length + M) : Nat) : Int) = (k0 : Int) - (M : Int) by omega]
        simpa using this
      · rw [hQx, yl_skip (by rw [hlQ]; omega)]
        exact HSK.out _ _ _ bj ⟨_, b1⟩
    · have hsk' : ¬ (M : Int) ≤ (k0 : Int) := by omega
      obtain ⟨cao, ccap, hcv, _⟩ := id (HR.out.cells bs[x] (List.getElem_mem _)).shape
      obtain ⟨N, hN⟩ : ∃ N, bs[x].cs.length = N := ⟨_, rfl⟩
      have hdq := HR.out.below HB.out.2.2.2.2.2.2.2
      obtain ⟨gk', off', cp', hv', d0', d1', d2'⟩ := hdq.at hk
      cases hbv.symm.trans hv'
      rw [hcv, hN] at d2'
      have HN := Lib.hid (And.intro hN hcv)
      have hNb := HZ.out.2.2
      rw [hN] at hNb
      have HU := Lib.hid (HR.out.cells bs[x] (List.getElem_mem _))
      clear hdq hv' d0' d1' hN hcv
      gi_wp2
      gi_loopw [40] (fun i wr => ∃ j : Nat, i = .int .i64 j ∧ j ≤ N ∧ RowKit.Hid (wr.heap[W.heap.size]? = some (.cells #[.func (.yield l) #[] #[]] 110 (0, 0)) ∧ wr.heap[W.heap.size + 1]? = some (.cells #[.int .i64 ((few - (Q ++ posOf g (bs[x].cs.take j) F).length : Nat) : Int)] 3 (0, 0)) ∧
        wr.heap[Bd]? = some (.cells #[.pointer (some ⟨B, 0, none⟩)] 26 (0, 0)) ∧ wr.heap[Bg]? = some (.cells #[.bool g] 4 (0, 0)) ∧ J (yl few (Q ++ posOf g (bs[x].cs.take j) F)) wr ∧ KeepsFrom w3.heap.size X wr ∧ KF w₀.heap.size (W.heap.size + 1 + 1) X wr ∧ Below w₀.heap.size w₀ wr)) (fun i _ => N - (intOf i).toNat)
      case atStart => exact ⟨0, rfl, Nat.zero_le _, by simpa [posOf] using HB⟩
      case round =>
        rename World => wr
        obtain ⟨j, rfl, hj, hI⟩ := hrel
        obtain ⟨b0, b1, b2, b3, bj, bk, bf, bB⟩ := hI.out
        rcases Nat.lt_or_ge j N with hlt | hge2
        · obtain ⟨c, hc⟩ : ∃ c, bs[x].cs[j]? = some c := ⟨_, List.getElem?_eq_getElem (by rw [HN.out.1]; exact hlt)⟩
          obtain ⟨bb, boff, bcap, hv, e0, e1, e2, e3, e4⟩ := (HU.out.below bB).at hc
          have hv2 := HN.out.2.symm.trans hv
          rw [HN.out.1] at hv2
          injection hv2 with hv2 _ hv3
          subst hv2
          have hi1 : (0 : Int) ≤ (j : Int) ∧ (j : Int) < (N : Int) := ⟨by omega, by omega⟩
          have hsn := posOf_snoc g hc F
          obtain ⟨R, hRR⟩ : ∃ R, Q ++ posOf g (bs[x].cs.take j) F = R := ⟨_, rfl⟩
          have hR2 : Q ++ posOf g (bs[x].cs.take (j + 1)) F = R ++ (if c.gone = g then [F + j] else []) := by rw [hsn, ← List.append_assoc, hRR]
          have hRl : R.length ≤ 100000100000 := by
            rw [← hRR, List.length_append, posOf_length]
            have h1 := liveN_gone (bs[x].cs.take j)
            rw [List.length_take] at h1
            have := HZ.out.1
            split <;> omega
          have HR2 := Lib.hid hR2
          rw [hRR] at b1 bj
          obtain ⟨k1, hk1⟩ : ∃ k1, few - R.length = k1 := ⟨_, rfl⟩
          rw [hk1] at b1
          have HK1 := Lib.hid (And.intro hk1 hRl)
          have hk1b : k1 ≤ 1000000 := by omega
          obtain ⟨s, q, f, r, gn⟩ := c
          dsimp only at e0 e1 e2 e3 e4
          have al : ∀ {i : Nat} {o : Obj}, wr.heap[i]? = some o → (wr.alloc (.cells #[.int .i64 s, .int .i64 q, .int .i64 f, .int .i32 r, .bool gn] 62)).heap[i]? = some o := fun h => row_al h _
          have g0 := al b0
          have g1 := al b1
          have g2 := al b2
          have g3 := al b3
          have gj : J (yl few R) (wr.alloc (.cells #[.int .i64 s, .int .i64 q, .int .i64 f, .int .i32 r, .bool gn] 62)) := OwnFrom.alloc HJ.out.1.from _ bj
          have gB := bB.alloc bB.size (.cells #[.int .i64 s, .int .i64 q, .int .i64 f, .int .i32 r, .bool gn] 62)
          have gk2 := bk.trans ((KeepsOthers.alloc wr (.cells #[.int .i64 s, .int .i64 q, .int .i64 f, .int .i32 r, .bool gn] 62)).from w3.heap.size)
          have gf := kf_t bf (KF.alloc bB.size (.cells #[.int .i64 s, .int .i64 q, .int .i64 f, .int .i32 r, .bool gn] 62))
          have hlw := box_lt b1
          have y0 := box_cell g0 0
          have y1 := box_cell g1 0
          have f1 := box_frozen g1 0
          have y3 := box_cell g3 0
          have HG := Lib.hid (And.intro g0 (And.intro g1 (And.intro g2 (And.intro g3 (And.intro gj (And.intro gk2 (And.intro gf gB)))))))
          clear hc hv hv3 hsn hRR hR2 hRl hk1 hI b0 b1 b2 b3 bj bk bf bB al g0 g1 g2 g3 gj gk2 gf gB
          by_cases hg : gn = g
          · subst hg
            by_cases hz : 0 < k1
            · have hz' : (0 : Int) < (k1 : Int) := by omega
              have hwr : IntKind.i64.wrap ((k1 : Int) - 1) = (k1 : Int) - 1 := IntWalk.i64_in _ (by omega)
              gi_wp2
              go_roundw
              case rel =>
                obtain ⟨b0, b1, b2, b3, bj, bk, bf, bB⟩ := HG.out
                have hkk := HK1.out.1
                rw [set_al (by omega)]
                refine ⟨j + 1, by go_num, by omega, Lib.hid ⟨(box_other (by omega) 0 _).trans b0, ?_, (box_other (ne_box b2 b1 (by decide)) 0 _).trans b2, (box_other (ne_box b3 b1 (by decide)) 0 _).trans b3, ?_, bk.trans ((KeepsOthers.setCell _ _ _).from _), kf_t bf (KF.set (by omega) (by omega)), bB.setCell (p := ⟨W.heap.size + 1, 0, none⟩) (by show w₀.heap.size ≤ W.heap.size + 1; omega) _⟩⟩
                · rw [HR2.out, if_pos rfl, List.length_append, List.length_singleton]
                  have := box_set b1 0 (.int .i64 ((k1 : Int) - 1))
                  rw [show ((few - (R.length + 1) : Nat) : Int) = (k1 : Int) - 1 by omega]
                  simpa using this
                · rw [HR2.out, if_pos rfl, yl_skip (by rw [List.length_singleton]; omega)]
                  exact HSK.out _ _ _ bj ⟨_, b1⟩
              case measure => simp [intOf]; omega
            · obtain rfl : k1 = 0 := by omega
              have hwr : IntKind.i64.wrap ((F : Int) + (j : Int)) = ((F + j : Nat) : Int) := (IntWalk.i64_in _ (by omega)).trans (by push_cast; rfl)
              obtain ⟨fn, tmps, assign, body, hy, hRnd⟩ := HY.out (yl few R) (toP (F + j)) _ HG.out.2.2.2.2.1 (by have := yl_length few R; have := HK1.out.2; omega)
              dsimp only [encPl] at hy
              rw [toP_val (by omega), Int.natCast_add] at hy
              gi_wp2
              try (rw [hy]; gi_wp2)
              refine (roundIn_depth hRnd).mono ?_
              clear hy hRnd
              obtain ⟨b0, b1, b2, b3, -, bk, bf, bB⟩ := HG.out
              rintro e W9 (⟨rfl, j9, k9, o9⟩ | ⟨rfl, j9, o9⟩)
              · have hm1 : m₁ ≤ W.heap.size := hWm
                have r0 := kf_row k9 (.inr hm1) (by unfold RowT; decide) b0
                have r1 := kf_row k9 (.inr (by omega)) (by unfold RowT; decide) b1
                have r2 := kf_row k9 sd (by unfold RowT; decide) b2
                have r3 := kf_row k9 sg (by unfold RowT; decide) b3
                have HG9 := Lib.hid (And.intro r0 (And.intro r1 (And.intro r2 (And.intro r3 (And.intro (bk.trans ⟨o9.size, fun q o hq => o9.same q o (by omega)⟩) (And.intro (kf_t bf (k9.up (Nat.le_refl _) (by omega))) (bB.trans k9.1)))))))
                clear b0 b1 b2 b3 bk bf bB r0 r1 r2 r3 k9 o9 HG
                gi_wp2
                go_roundw
                case rel =>
                  obtain ⟨r0, r1, r2, r3, rk, rf, rB⟩ := HG9.out
                  have hyl := yl_snoc (few := few) (q := R) (p := F + j) (by have := HK1.out.1; omega)
                  refine ⟨j + 1, by go_num, by omega, Lib.hid ⟨r0, ?_, r2, r3, ?_, rk, rf, rB⟩⟩
                  · rw [HR2.out, if_pos trivial, List.length_append, List.length_singleton, show few - (R.length + 1) = 0 by have := HK1.out.1; omega]
                    exact r1
                  · rw [HR2.out, if_pos trivial, hyl]
                    exact j9
                case measure => simp [intOf]; omega
              · have kk := bk.trans (⟨o9.size, fun q o hq => o9.same q o (by omega)⟩ : KeepsFrom w3.heap.size _ W9)
                have HKK := Lib.hid kk
                have hyl := yl_snoc (few := few) (q := R) (p := F + j) (by have := HK1.out.1; omega)
                rw [← hyl] at j9
                have HJ9 := Lib.hid j9
                clear b0 b1 b2 b3 bk bf bB o9 j9 kk hyl
                gi_wp2
                refine ⟨HKK.out, rfl, R ++ [F + j], ?_, HJ9.out⟩
                have e1 : Q ++ posOf gn (bs[x].cs.take (j + 1)) F = R ++ [F + j] := by rw [HR2.out, if_pos trivial]
                rw [HPS.out, HE.out.2.2.2.1, HE.out.2.2.1, ← e1]
                exact (List.prefix_append_right_inj _).2 (posOf_take gn _ _ _)
          · have hR3 : Q ++ posOf g (bs[x].cs.take (j + 1)) F = R := by rw [HR2.out, if_neg hg, List.append_nil]
            have HR3 := Lib.hid hR3
            have hgn : gn = !g := by revert hg; cases gn <;> cases g <;> simp
            subst hgn
            clear hg hR3 HR2
            have hb1 : (!g == g) = false := by cases g <;> rfl
            have hb2 : (!g != g) = true := by cases g <;> rfl
            gi_wp2
            go_roundw
            case rel =>
              refine ⟨j + 1, by go_num, by omega, ?_⟩
              rw [HR3.out, HK1.out.1]
              exact HG
            case measure => simp [intOf]; omega
        · obtain rfl : N = j := by omega
          rw [List.take_of_length_le (by rw [HN.out.1]; exact Nat.le_refl _)] at b1 bj
          have hQx : posX bs g (pre ++ [x]) = Q ++ posOf g bs[x].cs F := by rw [HPS.out, HE.out.2.2.2.1, HE.out.2.2.1]
          rw [← hQx] at b1 bj
          have HG := Lib.hid (And.intro b0 (And.intro b1 (And.intro b2 (And.intro b3 (And.intro bj (And.intro bk (And.intro bf bB)))))))
          clear b0 b1 b2 b3 bj bk bf bB hI
          gi_wp2
          obtain ⟨b0, b1, b2, b3, bj, bk, bf, bB⟩ := HG.out
          exact ⟨bk, bf, ⟨b0, b1, b2, b3⟩, bj, bB⟩
  case done =>
    rintro D ys Z hD rfl ⟨-, hj, -⟩ hK
    rw [posX_all] at hj
    have HJZ := Lib.hid (OwnFrom.putObj (HJ.out.1.from) (.deferred none) hj (by omega : W.heap.size ≤ D) hK rfl)
    clear hj
    gi_wp2
    refine ⟨by simp, .inl ⟨_, _, rfl, run_takeDeferred hK, ?_⟩⟩
    exact ⟨_, results_none rfl _ _ _, ⟨_, rfl⟩, .inl ⟨_, rfl, HJZ.out⟩⟩
  case stop =>
    rintro D c pre Z hD hpre ⟨rfl, q, hq, hx⟩ hK
    have HJZ := Lib.hid (OwnFrom.putObj (HJ.out.2.from) (.deferred none) hx (by omega : W.heap.size ≤ D) hK rfl)
    have HQ := Lib.hid (yl_pre (few := few) (hq.trans (posX_pre (g := g) hpre)))
    clear hx hq hpre
    gi_wp2
    refine ⟨by simp, .inl ⟨_, _, rfl, run_takeDeferred hK, ?_⟩⟩
    exact ⟨_, results_none rfl _ _ _, ⟨_, rfl⟩, .inr ⟨_, HQ.out, HJZ.out⟩⟩
end Go.Proofs.YtfoglciiefoodaaGreatDoor

namespace Go.Proofs.YtfoglciiefoodaaGreatDoor
open Go.RowKit Go.Shelf
attribute [local go_sem] Oper.semAt_some

abbrev frB (bs : List PB) (x : Fin bs.length) : Nat := (catB (bs.take x.val)).length
def seenX (bs : List PB) (p : Nat) (pre : List (Fin bs.length)) : Nat := (pre.map fun i => liveN (bs[i].cs.take (p - frB bs i))).sum
theorem seenX_snoc (bs : List PB) (p : Nat) (pre : List (Fin bs.length)) (x : Fin bs.length) : seenX bs p (pre ++ [x]) = seenX bs p pre + liveN (bs[x].cs.take (p - frB bs x)) := by simp [seenX]
theorem liveN_take_le (l : List PCell) (k : Nat) : liveN (l.take k) ≤ l.length := Nat.le_trans List.countP_le_length (by rw [List.length_take]; omega)
theorem seenX_le {bs : List PB} {M : Nat} (hM : ∀ x ∈ bs, x.cs.length ≤ M) (p : Nat) (pre : List (Fin bs.length)) : seenX bs p pre ≤ pre.length * M := by
  unfold seenX
  induction pre with
  | nil => simp
  | cons a r ih =>
    rw [List.map_cons, List.sum_cons, List.length_cons, Nat.add_mul]
    have h1 := hM bs[a] (List.getElem_mem _)
    have h2 := liveN_take_le bs[a].cs (p - frB bs a)
    omega
theorem seenX_begK (bs : List PB) (p : Nat) : ∀ k, k ≤ bs.length → seenX bs p (begK bs k) = liveN ((catB (bs.take k)).take p)
  | 0, _ => by simp [begK, seenX, catB, liveN]
  | k + 1, h => by
    have hx : bs[k]? = some bs[k] := List.getElem?_eq_getElem (by omega)
    rw [begK_next bs k (by omega), seenX_snoc, seenX_begK bs p k (by omega), catB_take hx, List.take_append, liveN_append]
    rfl
theorem begK_of_pre {bs : List PB} {pre : List (Fin bs.length)} {x : Fin bs.length} (h : pre ++ [x] <+: begL bs) : pre = begK bs x.val := by
  obtain ⟨t, ht⟩ := h
  have hlp : pre.length < bs.length := by
    have := congrArg List.length ht
    simp [begL] at this
    omega
  have hv : x.val = pre.length := by
    have h3 : (begL bs)[pre.length]? = some x := by rw [← ht]; simp
    unfold begL at h3
    rw [List.getElem?_eq_getElem (by simpa using hlp), List.getElem_finRange] at h3
    cases h3
    rfl
  have h2 := congrArg (List.take pre.length) ht
  rw [List.append_assoc, List.take_append_of_le_length (Nat.le_refl _), List.take_of_length_le (Nat.le_refl _)] at h2
  rw [hv]
  exact h2
theorem seenX_all (bs : List PB) (p : Nat) : seenX bs p (begL bs) = cSeen (catB bs) p := by
  rw [← begK_all, seenX_begK bs p bs.length (Nat.le_refl _), List.take_length]
  rfl
theorem seenX_stop {bs : List PB} {p : Nat} {pre : List (Fin bs.length)} {x : Fin bs.length} (h : pre ++ [x] <+: begL bs) (hp : p ≤ frB bs x) : seenX bs p pre = cSeen (catB bs) p := by
  have hx : bs[x.val]? = some bs[x] := List.getElem?_eq_getElem x.isLt
  rw [begK_of_pre h, seenX_begK bs p x.val (Nat.le_of_lt x.isLt)]
  unfold cSeen liveN
  rw [catB_split hx, List.append_assoc, List.take_append_of_le_length hp]
theorem seen_results (W : World) (tm : Array Value) (a b : Int) (h4 : tm.getD 4 undef = .int .i64 a) (h5 : tm.getD 5 undef = .int .i64 b) :
    (results Tryz.f26 tm).run Tryz.prog W = .ok (.tuple #[.int .i64 a, .int .i64 b]) W := by
  have h4' : tm[4]?.getD undef = .int .i64 a := by simpa using h4
  have h5' : tm[5]?.getD undef = .int .i64 b := by simpa using h5
  simp [results, Tryz.f26, go_sem, h4', h5']
set_option maxRecDepth 100000 in
set_option maxHeartbeats 4000000 in
theorem dseen_neg (B : Nat) (P : Int) (w : World) (hP : P < 0) :
    Calls Tryz.prog 26 #[.pointer (some ⟨B, 0, none⟩), .int .i64 P] w fun e W' => e = .returned (.tuple #[.int .i64 0, .int .i64 3]) ∧ Below w.heap.size w W' := by
  have hb : Below w.heap.size w ((w.alloc (.cells #[.pointer (some ⟨B, 0, none⟩)] 26)).alloc (.cells #[.int .i64 P] 3)) := ((Below.refl _ w).alloc (Nat.le_refl _) _).alloc (by simp) _
  have HB := Lib.hid hb
  clear hb
  go_enter Tryz.func26, Tryz.ntmps26
  go_wp2
  go_region
  go_wp2
  refine bodyPost_ret (seen_results _ _ 0 3 rfl rfl) rfl ?_
  exact ⟨rfl, HB.out.drew⟩
set_option maxRecDepth 100000 in
set_option maxHeartbeats 8000000 in
theorem dseen_far (B : Nat) (bv nm : Value) (bs : List PB) (p : Nat) (w : World) (hR : DocR w B bv nm bs) (hp : (catB bs).length < p) :
    Calls Tryz.prog 26 #[.pointer (some ⟨B, 0, none⟩), .int .i64 (p : Int)] w fun e W' => e = .returned (.tuple #[.int .i64 0, .int .i64 3]) ∧ Below w.heap.size w W' := by
  obtain ⟨P, hP⟩ : ∃ P : Int, (p : Int) = P := ⟨_, rfl⟩
  have hall := liveN_gone (catB bs)
  have hroom := hR.room
  have HR := Lib.hid hR
  have A0 := row_al (heap_new w (.cells #[.pointer (some ⟨B, 0, none⟩)] 26)) (.cells #[.int .i64 P] 3)
  have A1 := heap_new1 w (.cells #[.pointer (some ⟨B, 0, none⟩)] 26) (.cells #[.int .i64 P] 3)
  have AB : Below w.heap.size w ((w.alloc (.cells #[.pointer (some ⟨B, 0, none⟩)] 26)).alloc (.cells #[.int .i64 P] 3)) := ((Below.refl _ w).alloc (Nat.le_refl _) _).alloc (by simp) _
  have AS : ((w.alloc (.cells #[.pointer (some ⟨B, 0, none⟩)] 26)).alloc (.cells #[.int .i64 P] 3)).heap.size = w.heap.size + 1 + 1 := by simp
  have hZ := fun W (hb : Below w.heap.size w W) => dsize_any (some ⟨B, 0, none⟩) (liveN (catB bs)) (goneN (catB bs)) W (by omega) (whole_any B bv nm bs W (hR.below hb))
  rw [hall] at hZ
  have HZ := Lib.hid hZ
  have hbeg := fun W => begins_any (some ⟨B, 0, none⟩) W
  obtain ⟨N, hN⟩ : ∃ N, (catB bs).length = N := ⟨_, rfl⟩
  rw [hN] at HZ hroom
  have HP0 := Lib.hid (show ¬ P < 0 by omega)
  have HPN := Lib.hid (show (N : Int) < P by omega)
  have HP := Lib.hid (And.intro hP hN)
  have y0 := box_cell A0 0
  rw [hP]
  clear hP hN hR hZ hall
  have HA := Lib.hid (And.intro A0 (And.intro A1 (And.intro AB AS)))
  clear A0 A1 AB AS
  refine (callsIn_wide (n := 4)).1 ?_
  refine callsIn_of_wp_marks Tryz.func26 rfl trivial ?_ rfl
  simp only [Tryz.ntmps26, List.size_toArray, List.length_cons, List.length_nil, Nat.reduceAdd, Nat.reduceSub, Array.replicate_succ, Array.replicate_zero, List.push_toArray, List.append_toArray, List.nil_append, List.cons_append]
  gi_wp2_with fail
  generalize (w.alloc (.cells #[.pointer (some ⟨B, 0, none⟩)] 26)).alloc (.cells #[.int .i64 P] 3) = w2 at HA y0 ⊢
  have hn0 := HP0.out
  have hnN := HPN.out
  have hsv : decide (P < 0) = false := decide_eq_false (by omega)
  have hsw : decide ((N : Int) < P) = true := decide_eq_true (by omega)
  refine region_bridgeN (ro := none) (S := fun X => X.heap[w.heap.size]? = some (.cells #[.pointer (some ⟨B, 0, none⟩)] 26 (0, 0)) ∧ X.heap[w.heap.size + 1]? = some (.cells #[.int .i64 P] 3 (0, 0)) ∧ Below w.heap.size w X) (by kernel_rfl) (by kernel_rfl) ⟨HA.out.1, HA.out.2.1, HA.out.2.2.1.drew⟩ (fun hHeld => ?_)
  refine wpAnyH_take (i := 0) (v := ?_) rfl (by kernel_rfl) (by kernel_rfl) (by kernel_rfl) (fun _ _ _ h => h) (Or.inl ⟨rfl, ?hy1⟩) (by assumption) ?_
  case hy1 =>
    intro W hS
    obtain ⟨s0, s1, -⟩ := hS
    have u0 := box_cell s0 0
    have u1 := box_cell s1 0
    go_simp
    try with_reducible rfl
  try simp only [Act.put, List.getElem_toArray, List.getElem_cons_zero, List.setIfInBounds_toArray, List.set_cons_zero, List.set_cons_succ]
  refine wpAnyH_take (i := 1) (v := ?_) rfl (by kernel_rfl) (by kernel_rfl) (by kernel_rfl) (fun _ _ _ h => h) (Or.inl ⟨rfl, ?hy2⟩) (by assumption) ?_
  case hy2 =>
    intro W hS
    go_simp
    try with_reducible rfl
  try simp only [Act.put, List.getElem_toArray, List.getElem_cons_succ, List.getElem_cons_zero, List.setIfInBounds_toArray, List.set_cons_zero, List.set_cons_succ]
  refine wpAnyH_take (i := 2) (v := ?_) rfl (by kernel_rfl) (by kernel_rfl) (by kernel_rfl) (fun _ _ _ h => h) (Or.inl ⟨rfl, ?hy3⟩) (by assumption) ?_
  case hy3 =>
    intro W hS
    go_simp
    try with_reducible rfl
  try simp only [Act.put, List.getElem_toArray, List.getElem_cons_succ, List.getElem_cons_zero, List.setIfInBounds_toArray, List.set_cons_zero, List.set_cons_succ]
  refine wpAnyH_take (i := 3) (v := ?_) rfl (by kernel_rfl) (by kernel_rfl) (by kernel_rfl) (fun _ _ _ h => h) (Or.inl ⟨rfl, ?hy4⟩) (by assumption) ?_
  case hy4 =>
    intro W hS
    obtain ⟨s0, s1, -⟩ := hS
    have u0 := box_cell s0 0
    have u1 := box_cell s1 0
    go_simp
    try with_reducible rfl
  try simp only [Act.put, List.getElem_toArray, List.getElem_cons_succ, List.getElem_cons_zero, List.setIfInBounds_toArray, List.set_cons_zero, List.set_cons_succ]
  refine wpAnyH_take (i := 4) (v := ?_) rfl (by kernel_rfl) (by kernel_rfl) (by kernel_rfl) (fun _ _ _ h => h) (Or.inl ⟨rfl, ?hy5⟩) (by assumption) ?_
  case hy5 =>
    intro W hS
    obtain ⟨s0, s1, -⟩ := hS
    have u0 := box_cell s0 0
    have u1 := box_cell s1 0
    go_simp
    try with_reducible rfl
  try simp only [Act.put, List.getElem_toArray, List.getElem_cons_succ, List.getElem_cons_zero, List.setIfInBounds_toArray, List.set_cons_zero, List.set_cons_succ]
  refine wpAnyH_ready (rs := [5]) (by kernel_rfl) (by simp) (AllReadyH.cons rfl (fun K hK => ?_) AllReadyH.nil)
  go_simp
  go_wp2_with (go_at_call 15; refine ((HZ.out _ hHeld.2.2)).mono ?_; rintro e wq ⟨rfl, hb⟩)
  refine hK.out _ _ (⟨row_up hHeld.1 hb, row_up hHeld.2.1 hb, hHeld.2.2.trans (hb.mono hHeld.2.2.size)⟩) (fun hX => ?_)
  clear hK K hHeld
  have hHeld := hX
  clear hX
  refine wpAnyH_take (i := 6) (v := ?_) rfl (by kernel_rfl) (by kernel_rfl) (by kernel_rfl) (fun _ _ _ h => h) (Or.inl ⟨rfl, ?hy6⟩) (by assumption) ?_
  case hy6 =>
    intro W hS
    go_simp
    try with_reducible rfl
  try simp only [Act.put, List.getElem_toArray, List.getElem_cons_succ, List.getElem_cons_zero, List.setIfInBounds_toArray, List.set_cons_zero, List.set_cons_succ]
  refine wpAnyH_take (i := 7) (v := ?_) rfl (by kernel_rfl) (by kernel_rfl) (by kernel_rfl) (fun _ _ _ h => h) (Or.inl ⟨rfl, ?hy7⟩) (by assumption) ?_
  case hy7 =>
    intro W hS
    go_simp
    try with_reducible rfl
  try simp only [Act.put, List.getElem_toArray, List.getElem_cons_succ, List.getElem_cons_zero, List.setIfInBounds_toArray, List.set_cons_zero, List.set_cons_succ]
  refine wpAnyH_done (by kernel_rfl) ?_ _
  have HQ := Lib.hid hHeld
  clear hHeld
  simp only [onlyN]
  gi_wp2
  exact ⟨_, seen_results _ _ 0 3 rfl rfl, rfl, HQ.out.2.2⟩
set_option maxRecDepth 100000 in
set_option maxHeartbeats 8000000 in
theorem dseen_yes (B : Nat) (bv nm : Value) (bs : List PB) (p : Nat) (w : World) (hR : DocR w B bv nm bs) (hp : p ≤ (catB bs).length) :
    Calls Tryz.prog 26 #[.pointer (some ⟨B, 0, none⟩), .int .i64 (p : Int)] w fun e W' => e = .returned (.tuple #[.int .i64 (cSeen (catB bs) p : Nat), .int .i64 0]) ∧ Below w.heap.size w W' := by
  obtain ⟨P, hP⟩ : ∃ P : Int, (p : Int) = P := ⟨_, rfl⟩
  have hall := liveN_gone (catB bs)
  have hroom := hR.room
  have HR := Lib.hid hR
  have A0 := row_al (heap_new w (.cells #[.pointer (some ⟨B, 0, none⟩)] 26)) (.cells #[.int .i64 P] 3)
  have A1 := heap_new1 w (.cells #[.pointer (some ⟨B, 0, none⟩)] 26) (.cells #[.int .i64 P] 3)
  have AB : Below w.heap.size w ((w.alloc (.cells #[.pointer (some ⟨B, 0, none⟩)] 26)).alloc (.cells #[.int .i64 P] 3)) := ((Below.refl _ w).alloc (Nat.le_refl _) _).alloc (by simp) _
  have AS : ((w.alloc (.cells #[.pointer (some ⟨B, 0, none⟩)] 26)).alloc (.cells #[.int .i64 P] 3)).heap.size = w.heap.size + 1 + 1 := by simp
  have hZ := fun W (hb : Below w.heap.size w W) => dsize_any (some ⟨B, 0, none⟩) (liveN (catB bs)) (goneN (catB bs)) W (by omega) (whole_any B bv nm bs W (hR.below hb))
  rw [hall] at hZ
  have HZ := Lib.hid hZ
  have hbeg := fun W => begins_any (some ⟨B, 0, none⟩) W
  obtain ⟨N, hN⟩ : ∃ N, (catB bs).length = N := ⟨_, rfl⟩
  rw [hN] at HZ hroom
  have HP0 := Lib.hid (show ¬ P < 0 by omega)
  have HPN := Lib.hid (show ¬ (N : Int) < P by omega)
  have HP := Lib.hid (And.intro hP hN)
  have y0 := box_cell A0 0
  rw [hP]
  clear hP hN hR hZ hall
  have HA := Lib.hid (And.intro A0 (And.intro A1 (And.intro AB AS)))
  clear A0 A1 AB AS
  refine (callsIn_wide (n := 4)).1 ?_
  refine callsIn_of_wp_marks Tryz.func26 rfl trivial ?_ rfl
  simp only [Tryz.ntmps26, List.size_toArray, List.length_cons, List.length_nil, Nat.reduceAdd, Nat.reduceSub, Array.replicate_succ, Array.replicate_zero, List.push_toArray, List.append_toArray, List.nil_append, List.cons_append]
  gi_wp2_with fail
  generalize (w.alloc (.cells #[.pointer (some ⟨B, 0, none⟩)] 26)).alloc (.cells #[.int .i64 P] 3) = w2 at HA y0 ⊢
  have hn0 := HP0.out
  have hnN := HPN.out
  have hsv : decide (P < 0) = false := decide_eq_false (by omega)
  have hsw : decide ((N : Int) < P) = false := decide_eq_false (by omega)
  refine region_bridgeN (ro := none) (S := fun X => X.heap[w.heap.size]? = some (.cells #[.pointer (some ⟨B, 0, none⟩)] 26 (0, 0)) ∧ X.heap[w.heap.size + 1]? = some (.cells #[.int .i64 P] 3 (0, 0)) ∧ Below w.heap.size w X) (by kernel_rfl) (by kernel_rfl) ⟨HA.out.1, HA.out.2.1, HA.out.2.2.1.drew⟩ (fun hHeld => ?_)
  refine wpAnyH_take (i := 0) (v := ?_) rfl (by kernel_rfl) (by kernel_rfl) (by kernel_rfl) (fun _ _ _ h => h) (Or.inl ⟨rfl, ?hy1⟩) (by assumption) ?_
  case hy1 =>
    intro W hS
    obtain ⟨s0, s1, -⟩ := hS
    have u0 := box_cell s0 0
    have u1 := box_cell s1 0
    go_simp
    try with_reducible rfl
  try simp only [Act.put, List.getElem_toArray, List.getElem_cons_zero, List.setIfInBounds_toArray, List.set_cons_zero, List.set_cons_succ]
  refine wpAnyH_take (i := 1) (v := ?_) rfl (by kernel_rfl) (by kernel_rfl) (by kernel_rfl) (fun _ _ _ h => h) (Or.inl ⟨rfl, ?hy2⟩) (by assumption) ?_
  case hy2 =>
    intro W hS
    go_simp
    try with_reducible rfl
  try simp only [Act.put, List.getElem_toArray, List.getElem_cons_succ, List.getElem_cons_zero, List.setIfInBounds_toArray, List.set_cons_zero, List.set_cons_succ]
  refine wpAnyH_take (i := 2) (v := ?_) rfl (by kernel_rfl) (by kernel_rfl) (by kernel_rfl) (fun _ _ _ h => h) (Or.inl ⟨rfl, ?hy3⟩) (by assumption) ?_
  case hy3 =>
    intro W hS
    go_simp
    try with_reducible rfl
  try simp only [Act.put, List.getElem_toArray, List.getElem_cons_succ, List.getElem_cons_zero, List.setIfInBounds_toArray, List.set_cons_zero, List.set_cons_succ]
  refine wpAnyH_take (i := 3) (v := ?_) rfl (by kernel_rfl) (by kernel_rfl) (by kernel_rfl) (fun _ _ _ h => h) (Or.inl ⟨rfl, ?hy4⟩) (by assumption) ?_
  case hy4 =>
    intro W hS
    obtain ⟨s0, s1, -⟩ := hS
    have u0 := box_cell s0 0
    have u1 := box_cell s1 0
    go_simp
    try with_reducible rfl
  try simp only [Act.put, List.getElem_toArray, List.getElem_cons_succ, List.getElem_cons_zero, List.setIfInBounds_toArray, List.set_cons_zero, List.set_cons_succ]
  refine wpAnyH_take (i := 4) (v := ?_) rfl (by kernel_rfl) (by kernel_rfl) (by kernel_rfl) (fun _ _ _ h => h) (Or.inl ⟨rfl, ?hy5⟩) (by assumption) ?_
  case hy5 =>
    intro W hS
    obtain ⟨s0, s1, -⟩ := hS
    have u0 := box_cell s0 0
    have u1 := box_cell s1 0
    go_simp
    try with_reducible rfl
  try simp only [Act.put, List.getElem_toArray, List.getElem_cons_succ, List.getElem_cons_zero, List.setIfInBounds_toArray, List.set_cons_zero, List.set_cons_succ]
  refine wpAnyH_ready (rs := [5]) (by kernel_rfl) (by simp) (AllReadyH.cons rfl (fun K hK => ?_) AllReadyH.nil)
  go_simp
  go_wp2_with (go_at_call 15; refine ((HZ.out _ hHeld.2.2)).mono ?_; rintro e wq ⟨rfl, hb⟩)
  refine hK.out _ _ (⟨row_up hHeld.1 hb, row_up hHeld.2.1 hb, hHeld.2.2.trans (hb.mono hHeld.2.2.size)⟩) (fun hX => ?_)
  clear hK K hHeld
  have hHeld := hX
  clear hX
  refine wpAnyH_take (i := 6) (v := ?_) rfl (by kernel_rfl) (by kernel_rfl) (by kernel_rfl) (fun _ _ _ h => h) (Or.inl ⟨rfl, ?hy6⟩) (by assumption) ?_
  case hy6 =>
    intro W hS
    go_simp
    try with_reducible rfl
  try simp only [Act.put, List.getElem_toArray, List.getElem_cons_succ, List.getElem_cons_zero, List.setIfInBounds_toArray, List.set_cons_zero, List.set_cons_succ]
  refine wpAnyH_take (i := 7) (v := ?_) rfl (by kernel_rfl) (by kernel_rfl) (by kernel_rfl) (fun _ _ _ h => h) (Or.inl ⟨rfl, ?hy7⟩) (by assumption) ?_
  case hy7 =>
    intro W hS
    go_simp
    try with_reducible rfl
  try simp only [Act.put, List.getElem_toArray, List.getElem_cons_succ, List.getElem_cons_zero, List.setIfInBounds_toArray, List.set_cons_zero, List.set_cons_succ]
  refine wpAnyH_done (by kernel_rfl) ?_ _
  obtain ⟨q0, q1, qB⟩ := hHeld
  have z0 := box_cell q0 0
  have HQ := Lib.hid (And.intro q0 (And.intro q1 qB))
  have e0 := row_al q0 (.cells #[.int .i64 0] 3)
  have ez := box_cell e0 0
  clear q0 q1 qB
  simp only [onlyN]
  gi_wp2_with (refine ⟨trivial, ?_⟩; gi_at_call 48; refine (callsIn_wide.2 (hbeg _)).mono ?_; rintro e _ ⟨rfl, rfl⟩)
  obtain ⟨q0, q1, qB⟩ := HQ.out
  have A0 := row_al (row_al q0 (.cells #[.int .i64 0] 3)) (.cells #[.pointer (some ⟨B, 0, none⟩)] 26)
  have A1 := row_al (row_al q1 (.cells #[.int .i64 0] 3)) (.cells #[.pointer (some ⟨B, 0, none⟩)] 26)
  have An := row_al (heap_new wq (.cells #[.int .i64 0] 3)) (.cells #[.pointer (some ⟨B, 0, none⟩)] 26)
  have Ad := heap_new1 wq (.cells #[.int .i64 0] 3) (.cells #[.pointer (some ⟨B, 0, none⟩)] 26)
  have AB : Below w.heap.size w ((wq.alloc (.cells #[.int .i64 0] 3)).alloc (.cells #[.pointer (some ⟨B, 0, none⟩)] 26)) := (qB.alloc qB.size _).alloc (by have := qB.size; simp; omega) _
  have AS : ((wq.alloc (.cells #[.int .i64 0] 3)).alloc (.cells #[.pointer (some ⟨B, 0, none⟩)] 26)).heap.size = wq.heap.size + 1 + 1 := by simp
  have hql := box_lt q1
  generalize (wq.alloc (.cells #[.int .i64 0] 3)).alloc (.cells #[.pointer (some ⟨B, 0, none⟩)] 26) = w3 at A0 A1 An Ad AB AS ⊢
  clear q0 q1 qB HQ ez e0 z0
  have hst := begins_stops 3 (by decide) (wq.heap.size + 1) (wq.heap.size + 1) B bv nm bs w HR.out w3 AB Ad (Nat.le_refl _)
  have hcs : ∀ x ∈ bs, x.cs.length ≤ 100000 := fun x hx => by
    obtain ⟨k, hk, rfl⟩ := List.mem_iff_getElem.1 hx
    have := catB_le (List.getElem?_eq_getElem hk)
    have := HR.out.room
    omega
  have hfew := HR.out.few
  refine wpIn_rangeFunc_ownF rfl (by decide) (gf := 76) (lb := #[.pointer (some ⟨wq.heap.size + 1, 0, none⟩)]) rfl trivial (enters_of Tryz.func76 (by kernel_rfl) rfl)
    hst (fun h k => kf_t h k) (kf_b (by omega)) (Below.refl _ _) (fun _ => rfl)
    (fun pre W => (W.heap[w.heap.size]? = some (.cells #[.pointer (some ⟨B, 0, none⟩)] 26 (0, 0)) ∧ W.heap[w.heap.size + 1]? = some (.cells #[.int .i64 P] 3 (0, 0)) ∧ W.heap[wq.heap.size]? = some (.cells #[.int .i64 (seenX bs p pre : Nat)] 3 (0, 0))) ∧ Below w.heap.size w W)
    (fun c pre W => (c = .exit 0 ∧ (∃ pre' x, pre = pre' ++ [x] ∧ p ≤ frB bs x ∧ W.heap[wq.heap.size]? = some (.cells #[.int .i64 (seenX bs p pre' : Nat)] 3 (0, 0)))) ∧ Below w.heap.size w W)
    (OwnFrom.and (Own.from (fun s A B row hs hg hr => ⟨row_turn hs.1 hg hr, row_turn hs.2.1 hg hr, row_turn hs.2.2 hg hr⟩) _) (ownFrom_below (Nat.le_refl _) (by omega)))
    (fun c => OwnFrom.and (Own.from (fun s A B row hs hg hr => ⟨hs.1, by obtain ⟨p', x, h0, h1, h2⟩ := hs.2; exact ⟨p', x, h0, h1, row_turn h2 hg hr⟩⟩) _) (ownFrom_below (Nat.le_refl _) (by omega)))
    ⟨⟨A0, A1, An⟩, AB⟩
    (fun x => { tmps := #[.pointer (some ⟨B, 0, none⟩), .int .i64 P, .pointer (some ⟨w.heap.size, 0, none⟩), .pointer (some ⟨w.heap.size + 1, 0, none⟩), .int .i64 0, .int .i64 0, .pointer (some ⟨wq.heap.size, 0, none⟩), .int .i64 (x.val : Int), .int .i64 ((catB (bs.take x.val)).length : Nat), .pointer (some ⟨B, 0, none⟩), .bool false, .int .i64 P, .bool false, .bool false, .int .i64 P, .pointer (some ⟨B, 0, none⟩), .int .i64 (N : Nat), .bool false, .bool false, .pointer (some ⟨B, 0, none⟩), .func (.func 76) #[] #[.pointer (some ⟨wq.heap.size + 1, 0, none⟩)], .int .i64 (x.val : Int), .int .i64 ((catB (bs.take x.val)).length : Nat), undef, undef, undef, undef, undef, undef, undef, undef, undef, undef, undef, undef, undef, undef, undef, undef], defers := [] }) ?assign ?body ?done ?stop
  case assign =>
    intro l x W K hK
    gi_wp2
    exact hK
  case body =>
    rintro l pre x W ⟨⟨c0, c1, c2⟩, hB⟩ hlen
    have hk : bs[x.val]? = some bs[x] := List.getElem?_eq_getElem x.isLt
    have hle := catB_le hk
    have hpx := seenX_le hcs p pre
    have hcx := hcs bs[x] (List.getElem_mem _)
    have htk := liveN_take_le bs[x].cs (p - frB bs x)
    have hfrl : frB bs x + bs[x].cs.length ≤ 100000 := Nat.le_trans hle HR.out.room
    have hpp := HP.out.1
    obtain ⟨Fr, hFr⟩ : ∃ z, frB bs x = z := ⟨_, rfl⟩
    have hFr' : (catB (bs.take x.val)).length = Fr := hFr
    have y1 := box_cell c1 0
    have HX := Lib.hid (seenX_snoc bs p pre x)
    rw [hFr] at HX htk hfrl
    rcases Nat.lt_or_ge Fr p with hlt | hge
    · have hd : ¬ P ≤ (Fr : Int) := by omega
      obtain ⟨g, off, cp, hbv, d0, d1, d2⟩ := HR.out.at hk
      have hw1 : IntKind.i64.wrap (P - (Fr : Int)) = ((p - Fr : Nat) : Int) := by rw [IntWalk.i64_in _ (by omega)]; omega
      have hi0 : (0 : Int) ≤ (x.val : Int) ∧ (x.val : Int) < (bs.length : Int) := ⟨by omega, by have := x.isLt; omega⟩
      obtain ⟨V, hV⟩ : ∃ z, seenX bs p pre = z := ⟨_, rfl⟩
      obtain ⟨T, hT⟩ : ∃ z, liveN (bs[x].cs.take (p - Fr)) = z := ⟨_, rfl⟩
      have hpr : pre.length * 100000 ≤ 100000000000 := by omega
      have hSE := fun X (h : Below w.heap.size w X) => bseen_any g (off + x.val * 3) bs[x].v bs[x].cs X ((HR.out.cells bs[x] (List.getElem_mem _)).below h) hcx (cell_stays h d0) (cell_stays h d1) (cell_stays h d2) (p - Fr)
      rw [hV] at c2 hpx HX
      rw [hT] at HX htk
      rw [hT] at hSE
      have hw2 : IntKind.i64.wrap ((V : Int) + (T : Int)) = ((V + T : Nat) : Int) := by rw [IntWalk.i64_in _ (by omega)]; omega
      have HSE := Lib.hid hSE
      have HC := Lib.hid (And.intro c0 (And.intro c1 (And.intro c2 hB)))
      clear c0 c1 c2 hB hSE hV hT hpx hcx htk hle hlen hpr d0 d1 d2 hpp hk
      dsimp only
      rw [hFr']
      gi_wp2
      refine region_bridge (ro := some l) (S := fun X => (∃ z, X.heap[wq.heap.size]? = some (.cells #[z] 3 (0, 0))) ∧ X.heap[w.heap.size]? = some (.cells #[.pointer (some ⟨B, 0, none⟩)] 26 (0, 0)) ∧ X.heap[w.heap.size + 1]? = some (.cells #[.int .i64 P] 3 (0, 0)) ∧ Below w.heap.size w X) (by kernel_rfl) (by kernel_rfl) (by rintro ⟨_, _, h⟩; exact h) ⟨⟨_, HC.out.2.2.1⟩, HC.out.1, HC.out.2.1, HC.out.2.2.2.drew⟩ (fun hHeld => ?_)
      refine wpAnyH_take (i := 1) (v := ?_) rfl (by kernel_rfl) (by kernel_rfl) (by kernel_rfl) (fun _ _ _ h => h) (Or.inl ⟨rfl, ?hy8⟩) (by assumption) ?_
      case hy8 =>
        intro W hS
        obtain ⟨-, s0, s1, s3⟩ := hS
        have u0 := box_cell s0 0
        have u1 := box_cell s1 0
        have s4 := HR.out.below s3
        obtain ⟨g1, off1, cp1, hbv1, -⟩ := s4.at (List.getElem?_eq_getElem x.isLt : bs[x.val]? = some bs[x])
        have s5 := s4.box
        rw [hbv] at s5
        have u5 := box_cell s5 0
        go_simp
        try with_reducible rfl
      try simp only [Act.put, List.getElem_toArray, List.getElem_cons_succ, List.getElem_cons_zero, List.setIfInBounds_toArray, List.set_cons_zero, List.set_cons_succ]
      refine wpAnyH_take (i := 2) (v := ?_) rfl (by kernel_rfl) (by kernel_rfl) (by kernel_rfl) (fun _ _ _ h => h) (Or.inl ⟨rfl, ?hy9⟩) (by assumption) ?_
      case hy9 =>
        intro W hS
        go_simp
        try with_reducible rfl
      try simp only [Act.put, List.getElem_toArray, List.getElem_cons_succ, List.getElem_cons_zero, List.setIfInBounds_toArray, List.set_cons_zero, List.set_cons_succ]
      refine wpAnyH_take (i := 3) (v := ?_) rfl (by kernel_rfl) (by kernel_rfl) (by kernel_rfl) (fun _ _ _ h => h) (Or.inl ⟨rfl, ?hy10⟩) (by assumption) ?_
      case hy10 =>
        intro W hS
        go_simp
        try with_reducible rfl
      try simp only [Act.put, List.getElem_toArray, List.getElem_cons_succ, List.getElem_cons_zero, List.setIfInBounds_toArray, List.set_cons_zero, List.set_cons_succ]
      refine wpAnyH_take (i := 4) (v := ?_) rfl (by kernel_rfl) (by kernel_rfl) (by kernel_rfl) (fun _ _ _ h => h) (Or.inl ⟨rfl, ?hy11⟩) (by assumption) ?_
      case hy11 =>
        intro W hS
        obtain ⟨-, s0, s1, s3⟩ := hS
        have u0 := box_cell s0 0
        have u1 := box_cell s1 0
        have s4 := HR.out.below s3
        obtain ⟨g1, off1, cp1, hbv1, -⟩ := s4.at (List.getElem?_eq_getElem x.isLt : bs[x.val]? = some bs[x])
        have s5 := s4.box
        rw [hbv] at s5
        have u5 := box_cell s5 0
        go_simp
        try with_reducible rfl
      try simp only [Act.put, List.getElem_toArray, List.getElem_cons_succ, List.getElem_cons_zero, List.setIfInBounds_toArray, List.set_cons_zero, List.set_cons_succ]
      refine wpAnyH_take (i := 5) (v := ?_) rfl (by kernel_rfl) (by kernel_rfl) (by kernel_rfl) (fun _ _ _ h => h) (Or.inl ⟨rfl, ?hy12⟩) (by assumption) ?_
      case hy12 =>
        intro W hS
        go_simp
        try with_reducible rfl
      try simp only [Act.put, List.getElem_toArray, List.getElem_cons_succ, List.getElem_cons_zero, List.setIfInBounds_toArray, List.set_cons_zero, List.set_cons_succ]
      refine wpAnyH_take (i := 6) (v := ?_) rfl (by kernel_rfl) (by kernel_rfl) (by kernel_rfl) (fun _ _ _ h => h) (Or.inl ⟨rfl, ?hy13⟩) (by assumption) ?_
      case hy13 =>
        intro W hS
        go_simp
        try with_reducible rfl
      try simp only [Act.put, List.getElem_toArray, List.getElem_cons_succ, List.getElem_cons_zero, List.setIfInBounds_toArray, List.set_cons_zero, List.set_cons_succ]
      refine wpAnyH_take (i := 7) (v := ?_) rfl (by kernel_rfl) (by kernel_rfl) (by kernel_rfl) (fun _ _ _ h => h) (Or.inl ⟨rfl, ?hy14⟩) (by assumption) ?_
      case hy14 =>
        intro W hS
        obtain ⟨-, s0, s1, s3⟩ := hS
        have u0 := box_cell s0 0
        have u1 := box_cell s1 0
        have s4 := HR.out.below s3
        obtain ⟨g1, off1, cp1, hbv1, -⟩ := s4.at (List.getElem?_eq_getElem x.isLt : bs[x.val]? = some bs[x])
        have s5 := s4.box
        rw [hbv] at s5
        have u5 := box_cell s5 0
        go_simp
        try with_reducible rfl
      try simp only [Act.put, List.getElem_toArray, List.getElem_cons_succ, List.getElem_cons_zero, List.setIfInBounds_toArray, List.set_cons_zero, List.set_cons_succ]
      refine wpAnyH_take (i := 8) (v := ?_) rfl (by kernel_rfl) (by kernel_rfl) (by kernel_rfl) (fun _ _ _ h => h) (Or.inl ⟨rfl, ?hy15⟩) (by assumption) ?_
      case hy15 =>
        intro W hS
        go_simp
        try with_reducible rfl
      try simp only [Act.put, List.getElem_toArray, List.getElem_cons_succ, List.getElem_cons_zero, List.setIfInBounds_toArray, List.set_cons_zero, List.set_cons_succ]
      refine wpAnyH_take (i := 9) (v := ?_) rfl (by kernel_rfl) (by kernel_rfl) (by kernel_rfl) (fun _ _ _ h => h) (Or.inl ⟨rfl, ?hy16⟩) (by assumption) ?_
      case hy16 =>
        intro W hS
        go_simp
        try with_reducible rfl
      try simp only [Act.put, List.getElem_toArray, List.getElem_cons_succ, List.getElem_cons_zero, List.setIfInBounds_toArray, List.set_cons_zero, List.set_cons_succ]
      refine wpAnyH_ready (rs := [0, 10]) (by kernel_rfl) (by simp) (AllReadyH.cons rfl (fun K hK => ?_) (AllReadyH.cons rfl (fun K hK => ?_) AllReadyH.nil))
      · have zn := box_cell (w := W.drew) HC.out.2.2.1 0
        go_simp
        refine hK.out _ _ (hHeld) (fun hX => ?_)
        clear hK K hHeld
        have hHeld := hX
        clear hX
        refine wpAnyH_ready (rs := [10]) (by kernel_rfl) (by simp) (AllReadyH.cons rfl (fun K hK => ?_) AllReadyH.nil)
        go_simp
        go_wp2_with (go_at_call 53; refine (HSE.out _ hHeld.2.2.2).mono ?_; rintro e wb ⟨rfl, hb⟩)
        have c2b := row_up (W := W.drew) HC.out.2.2.1 hb
        refine hK.out _ _ (⟨⟨_, c2b⟩, row_up hHeld.2.1 hb, row_up hHeld.2.2.1 hb, hHeld.2.2.2.trans (hb.mono hHeld.2.2.2.size)⟩) (fun hX => ?_)
        clear hK K hHeld
        have hHeld := hX
        clear hX
        refine wpAnyH_take (i := 11) (v := ?_) rfl (by kernel_rfl) (by kernel_rfl) (by kernel_rfl) (fun _ _ _ h => h) (Or.inl ⟨rfl, ?hy17⟩) (by assumption) ?_
        case hy17 =>
          intro W hS
          go_simp
          try with_reducible rfl
        try simp only [Act.put, List.getElem_toArray, List.getElem_cons_succ, List.getElem_cons_zero, List.setIfInBounds_toArray, List.set_cons_zero, List.set_cons_succ]
        refine wpAnyH_ready (rs := [12]) (by kernel_rfl) (by simp) (AllReadyH.cons rfl (fun K hK => ?_) AllReadyH.nil)
        have zn := box_cell c2b 0
        have zf := box_frozen c2b 0
        have hB4 := hHeld.2.2.2
        have c0b := hHeld.2.1
        have c1b := hHeld.2.2.1
        go_simp
        refine hK.out _ _ (⟨⟨_, box_set c2b 0 _⟩, (box_other (by omega) 0 _).trans c0b, (box_other (by omega) 0 _).trans c1b, hB4.setCell (p := ⟨wq.heap.size, 0, none⟩) (by show w.heap.size ≤ wq.heap.size; omega) _⟩) (fun hX => ?_)
        clear hK K hHeld
        have hHeld := hX
        clear hX
        refine wpAnyH_done (by kernel_rfl) ?_ _
        gi_wp2
        have hgw := Below.refl W.heap.size W.drew
        refine ⟨(KeepsOthers.drew W).trans ((others_below hb).trans (KeepsOthers.setCell _ _ _)), kf_t ((KF.refl _ _ W).drew) (kf_t (KF.below HC.out.2.2.2.size hb) (KF.set (by omega) (by omega))), ⟨⟨(box_other (by omega) 0 _).trans c0b, (box_other (by omega) 0 _).trans c1b, by rw [HX.out]; exact box_set c2b 0 _⟩, hB4.setCell (p := ⟨wq.heap.size, 0, none⟩) (by show w.heap.size ≤ wq.heap.size; omega) _⟩⟩
      · go_simp
        go_wp2_with (go_at_call 53; refine (HSE.out _ hHeld.2.2.2).mono ?_; rintro e wb ⟨rfl, hb⟩)
        have c2b := row_up (W := W.drew) HC.out.2.2.1 hb
        refine hK.out _ _ (⟨⟨_, c2b⟩, row_up hHeld.2.1 hb, row_up hHeld.2.2.1 hb, hHeld.2.2.2.trans (hb.mono hHeld.2.2.2.size)⟩) (fun hX => ?_)
        clear hK K hHeld
        have hHeld := hX
        clear hX
        refine wpAnyH_ready (rs := [0]) (by kernel_rfl) (by simp) (AllReadyH.cons rfl (fun K hK => ?_) AllReadyH.nil)
        have zn := box_cell c2b 0
        go_simp
        refine hK.out _ _ (hHeld) (fun hX => ?_)
        clear hK K hHeld
        have hHeld := hX
        clear hX
        refine wpAnyH_take (i := 11) (v := ?_) rfl (by kernel_rfl) (by kernel_rfl) (by kernel_rfl) (fun _ _ _ h => h) (Or.inl ⟨rfl, ?hy18⟩) (by assumption) ?_
        case hy18 =>
          intro W hS
          go_simp
          try with_reducible rfl
        try simp only [Act.put, List.getElem_toArray, List.getElem_cons_succ, List.getElem_cons_zero, List.setIfInBounds_toArray, List.set_cons_zero, List.set_cons_succ]
        refine wpAnyH_ready (rs := [12]) (by kernel_rfl) (by simp) (AllReadyH.cons rfl (fun K hK => ?_) AllReadyH.nil)
        have zn := box_cell c2b 0
        have zf := box_frozen c2b 0
        have hB4 := hHeld.2.2.2
        have c0b := hHeld.2.1
        have c1b := hHeld.2.2.1
        go_simp
        refine hK.out _ _ (⟨⟨_, box_set c2b 0 _⟩, (box_other (by omega) 0 _).trans c0b, (box_other (by omega) 0 _).trans c1b, hB4.setCell (p := ⟨wq.heap.size, 0, none⟩) (by show w.heap.size ≤ wq.heap.size; omega) _⟩) (fun hX => ?_)
        clear hK K hHeld
        have hHeld := hX
        clear hX
        refine wpAnyH_done (by kernel_rfl) ?_ _
        gi_wp2
        have hgw := Below.refl W.heap.size W.drew
        refine ⟨(KeepsOthers.drew W).trans ((others_below hb).trans (KeepsOthers.setCell _ _ _)), kf_t ((KF.refl _ _ W).drew) (kf_t (KF.below HC.out.2.2.2.size hb) (KF.set (by omega) (by omega))), ⟨⟨(box_other (by omega) 0 _).trans c0b, (box_other (by omega) 0 _).trans c1b, by rw [HX.out]; exact box_set c2b 0 _⟩, hB4.setCell (p := ⟨wq.heap.size, 0, none⟩) (by show w.heap.size ≤ wq.heap.size; omega) _⟩⟩
    · have hd : P ≤ (Fr : Int) := by omega
      have HC := Lib.hid (And.intro c2 hB)
      clear c0 c1 c2 hB hle hlen hpx hcx htk hpp hk
      dsimp only
      rw [hFr']
      gi_wp2
      refine ⟨KeepsOthers.refl _, ⟨rfl, pre, x, rfl, by rw [hFr]; exact hge, HC.out.1⟩, HC.out.2⟩
  case done =>
    rintro D xs Z hD rfl ⟨⟨c0, c1, c2⟩, hB⟩ hK
    rw [seenX_all] at c2
    have z2 := box_cell c2 0
    have HB := Lib.hid hB
    clear c0 c1 c2 hB
    gi_wp2
    refine ⟨by simp, .inl ⟨_, _, rfl, run_takeDeferred hK, ?_⟩⟩
    have hBD := belowK_b (w := w) (Nat.le_refl _) Z D _ (.deferred none) (by omega) hK rfl rfl
    exact ⟨_, seen_results _ _ _ 0 rfl rfl, rfl, HB.out.trans hBD⟩
  case stop =>
    rintro D c pre Z hD hpre ⟨⟨rfl, pre', x, rfl, hpf, c2⟩, hB⟩ hK
    rw [seenX_stop hpre hpf] at c2
    have z2 := box_cell c2 0
    have HB := Lib.hid hB
    clear c2 hB hpre hpf
    gi_wp2
    refine ⟨by simp, .inl ⟨_, _, rfl, run_takeDeferred hK, ?_⟩⟩
    have hBD := belowK_b (w := w) (Nat.le_refl _) Z D _ (.deferred none) (by omega) hK rfl rfl
    exact ⟨_, seen_results _ _ _ 0 rfl rfl, rfl, HB.out.trans hBD⟩
end Go.Proofs.YtfoglciiefoodaaGreatDoor
