/- Texts of this proof, joined. -/
import Derived.Test.YtnlajfdgpdijjaaRows
import Derived.WalkKit
import Derived.WalkSpells
import Derived.Lib.Hide
import Derived.Deep.QuietTactic
import Derived.BigQuiet
import Derived.WalkSmall
import Derived.Laws.CopyOwn
import Derived.Laws.OwnMore

/- A slice that reads as a list of runes. -/
namespace Go.Proofs.Ytnlajfdgpdijjaa
open Go.RowKit

/-- A slice of runes reads as xs. -/
def Reads32 (W : World) (v : Value) (xs : List Int) : Prop :=
  ∃ ao cap, v = .slice ao xs.length cap ∧ (xs ≠ [] → ∃ b off, ao = some ⟨b, off, none⟩ ∧ ∀ i, i < xs.length → W.cell? ⟨b, off + i, none⟩ = some (.int .i32 (xs.getD i 0)))

theorem Reads32.of_own {W : World} {base : Nat} {v : Value} {xs : List Int} (h : W.ownsRow base 21 1 v xs.length (xs.map (Value.int .i32))) : Reads32 W v xs := by
  rcases h.2 with ⟨hv, h0⟩ | ⟨g, cap, cur, hv, _⟩
  · exact ⟨none, 0, by rw [hv, h0], fun hx => absurd (List.eq_nil_of_length_eq_zero h0) hx⟩
  · subst hv
    refine ⟨_, cap, rfl, fun _ => ⟨g, 0, rfl, fun i hi => ?_⟩⟩
    rw [Nat.zero_add, h.cellAt i (by omega)]
    simp [hi]
theorem Reads32.drew {W : World} {v : Value} {xs : List Int} (h : Reads32 W v xs) (n : Nat) : Reads32 (W.drewN n) v xs := h
theorem Reads32.below {W W' : World} {v : Value} {xs : List Int} (h : Reads32 W v xs) (hb : Below W.heap.size W W') : Reads32 W' v xs := by
  obtain ⟨ao, cap, rfl, h2⟩ := h
  refine ⟨ao, cap, rfl, fun hx => ?_⟩
  obtain ⟨b, off, rfl, hc⟩ := h2 hx
  refine ⟨b, off, rfl, fun i hi => ?_⟩
  have hlt : b < W.heap.size := by
    rcases Nat.lt_or_ge b W.heap.size with h' | h'
    · exact h'
    · have := hc i hi
      simp [World.cell?, Array.getElem?_eq_none h'] at this
  rw [hb.cell (p := ⟨b, off + i, none⟩) hlt]
  exact hc i hi

theorem take_next {xs ys : List Int} {k : Nat} (h : xs.take k = ys.take k) (hx : k < xs.length) (hy : k < ys.length) (e : xs.getD k 0 = ys.getD k 0) : xs.take (k + 1) = ys.take (k + 1) := by
  rw [List.take_succ_eq_append_getElem hx, List.take_succ_eq_append_getElem hy, h]
  simp [List.getD, hx, hy] at e
  rw [e]

end Go.Proofs.Ytnlajfdgpdijjaa

/- Worlds in which some blocks may have turned, and rows that a call owns. Nothing of a program's own text. -/
namespace Go.Proofs.Ytnlajfdgpdijjaa
open Go.RowKit

/-- Of the blocks below N those in S alone may have turned. -/
structure Keep (S : Nat → Prop) (N : Nat) (w w' : World) : Prop where
  os : w'.os = w.os
  tape : w'.tape = w.tape
  output : w'.output = w.output
  size : w.heap.size ≤ w'.heap.size
  block : ∀ k, k < N → ¬ S k → w'.heap[k]? = w.heap[k]?

theorem Keep.refl (S : Nat → Prop) (N : Nat) (w : World) : Keep S N w w := ⟨rfl, rfl, rfl, Nat.le_refl _, fun _ _ _ => rfl⟩
theorem Keep.trans {S : Nat → Prop} {N : Nat} {a b c : World} (h : Keep S N a b) (k : Keep S N b c) : Keep S N a c :=
  ⟨k.os.trans h.os, k.tape.trans h.tape, k.output.trans h.output, Nat.le_trans h.size k.size, fun i hi hs => (k.block i hi hs).trans (h.block i hi hs)⟩
theorem Keep.weak {S S' : Nat → Prop} {N N' : Nat} {a b : World} (h : Keep S N a b) (hN : N' ≤ N) (hS : ∀ k, k < N' → S k → S' k) : Keep S' N' a b :=
  ⟨h.os, h.tape, h.output, h.size, fun i hi hs => h.block i (Nat.lt_of_lt_of_le hi hN) fun hh => hs (hS i hi hh)⟩
theorem Keep.of_below {S : Nat → Prop} {N M : Nat} {a b : World} (h : Below M a b) (hN : N ≤ M) : Keep S N a b := ⟨h.os, h.tape, h.output, h.size, fun k hk _ => h.block k (Nat.lt_of_lt_of_le hk hN)⟩
theorem Keep.below {S : Nat → Prop} {N M : Nat} {a b : World} (h : Keep S N a b) (hN : M ≤ N) (hS : ∀ k, S k → M ≤ k) : Below M a b :=
  ⟨h.os, h.tape, h.output, h.size, fun k hk => h.block k (Nat.lt_of_lt_of_le hk hN) fun hs => by have := hS k hs; omega⟩
theorem Keep.drewN {S : Nat → Prop} {N : Nat} {a b : World} (h : Keep S N a b) (n : Nat) : Keep S N a (b.drewN n) := ⟨h.os, h.tape, h.output, h.size, h.block⟩
theorem Keep.setCell {S : Nat → Prop} {N : Nat} {a b : World} (h : Keep S N a b) {p : Addr} (hp : S p.block ∨ N ≤ p.block) (u : Value) : Keep S N a (b.setCell p u) :=
  h.trans ⟨rfl, rfl, rfl, by simp [World.setCell], fun k hk hs => Below.heap_setCell _ _ _ _ (fun e => by subst e; exact hp.elim (fun q => hs q) (fun q => absurd hk (Nat.not_lt.2 q)))⟩
theorem Keep.alloc {S : Nat → Prop} {N : Nat} {a b : World} (h : Keep S N a b) (hN : N ≤ b.heap.size) (o : Obj) : Keep S N a (b.alloc o) :=
  h.trans ⟨rfl, rfl, rfl, by simp, fun k hk _ => Below.heap_alloc _ _ _ (by omega)⟩
theorem Keep.grown {S : Nat → Prop} {N : Nat} {a b c : World} {r : Option Nat} (h : Keep S N a b) (hg : b.grownBy c r) (hN : N ≤ b.heap.size) (hr : ∀ g, r = some g → S g ∨ N ≤ g) : Keep S N a c :=
  h.trans ⟨hg.os, hg.tape, hg.output, hg.size, fun k hk hs => hg.block k (by omega) fun e => (hr k e.symm).elim (fun q => hs q) (fun q => absurd hk (Nat.not_lt.2 q))⟩

theorem Keep.cell {S : Nat → Prop} {N : Nat} {w w' : World} (h : Keep S N w w') {p : Addr} (h1 : p.block < N) (h2 : ¬ S p.block) : w'.cell? p = w.cell? p := World.cell?_of_block (h.block p.block h1 h2)
theorem cell_alloc_old {w : World} {p : Addr} {v : Value} (h : w.cell? p = some v) (o : Obj) : (w.alloc o).cell? p = some v := by
  rcases Nat.lt_or_ge p.block w.heap.size with g | g
  · rw [(Below.refl w.heap.size w |>.alloc (Nat.le_refl _) o).cell g]
    exact h
  · simp [World.cell?, Array.getElem?_eq_none g] at h
theorem cell_below {w w' : World} {p : Addr} {v : Value} (h : w.cell? p = some v) (hb : Below w.heap.size w w') : w'.cell? p = some v := by
  rcases Nat.lt_or_ge p.block w.heap.size with g | g
  · rw [hb.cell g]
    exact h
  · simp [World.cell?, Array.getElem?_eq_none g] at h
theorem cb {w w' : World} {p : Addr} {v : Value} (hb : Below w.heap.size w w') (h : w.cell? p = some v) : w'.cell? p = some v := cell_below h hb
theorem ck {B : Nat} {w w' : World} {p : Addr} {v : Value} (hk : Keep (fun k => k = B) w.heap.size w w') (hne : p.block ≠ B) (h : w.cell? p = some v) : w'.cell? p = some v := by
  rcases Nat.lt_or_ge p.block w.heap.size with g | g
  · rw [hk.cell g hne]
    exact h
  · simp [World.cell?, Array.getElem?_eq_none g] at h
theorem cell_lt {w : World} {p : Addr} {v : Value} (h : w.cell? p = some v) : p.block < w.heap.size := by
  rcases Nat.lt_or_ge p.block w.heap.size with g | g
  · exact g
  · simp [World.cell?, Array.getElem?_eq_none g] at h

/-- The block that a slice lies in is one of S, or new. -/
def Mine (S : Nat → Prop) (N : Nat) (v : Value) : Prop := ∀ g, v.ownBlock = some g → S g ∨ N ≤ g
theorem Mine.nil (S : Nat → Prop) (N : Nat) : Mine S N (.slice none 0 0) := fun g h => by cases h

/-- A row of numbers of kind k that the call owns. -/
abbrev Ints (w : World) (e : TypeId) (k : IntKind) (v : Value) (xs : List Int) : Prop := w.ownsRow 0 e 1 v xs.length (xs.map (Value.int k))

theorem Ints.of_kept {w w' : World} {e : TypeId} {k : IntKind} {v : Value} {xs : List Int} (h : Ints w e k v xs) (hb : ∀ g, v.ownBlock = some g → w'.heap[g]? = w.heap[g]?) : Ints w' e k v xs := by
  obtain ⟨h1, h2⟩ := h
  refine ⟨h1, ?_⟩
  rcases h2 with h2 | ⟨g, cap, cur, hv, hg, hh, r⟩
  · exact .inl h2
  · exact .inr ⟨g, cap, cur, hv, hg, by rw [hb g (by rw [hv]; rfl)]; exact hh, r⟩
theorem Ints.typed {w : World} {e : TypeId} {k : IntKind} {v : Value} {xs : List Int} (h : Ints w e k v xs) (g : Nat) (hg : v.ownBlock = some g) : ∃ cur, w.heap[g]? = some (.cells cur e (0, 0)) := by
  rcases h.2 with ⟨h2, _⟩ | ⟨g', cap, cur, hv, _, hh, _⟩
  · rw [h2] at hg; cases hg
  · rw [hv] at hg; cases hg; exact ⟨cur, hh⟩
theorem Ints.ne {w : World} {e e' : TypeId} {k : IntKind} {v : Value} {xs : List Int} (h : Ints w e k v xs) {B : Nat} {cs : Array Value} {fr : Nat × Nat} (hB : w.heap[B]? = some (.cells cs e' fr)) (he : e' ≠ e) : v.ownBlock ≠ some B := by
  intro hg
  obtain ⟨cur, hc⟩ := h.typed B hg
  rw [hB] at hc
  cases hc
  exact he rfl
theorem Ints.nil (w : World) (e : TypeId) (k : IntKind) : Ints w e k (.slice none 0 0) [] := World.ownsRow_nil w 0 e 1
theorem Ints.shape {w : World} {e : TypeId} {k : IntKind} {v : Value} {xs : List Int} (h : Ints w e k v xs) : ∃ ao cap, v = .slice ao xs.length cap ∧ xs.length ≤ cap ∧ cap ≤ maxLen ∧ (xs ≠ [] → ∃ g, ao = some ⟨g, 0, none⟩) := by
  rcases h.2 with ⟨h2, h0⟩ | ⟨g, cap, cur, hv, _, _, hc, hm, _⟩
  · exact ⟨none, 0, by rw [h2, h0], by omega, Nat.zero_le _, fun hx => absurd (List.eq_nil_of_length_eq_zero h0) hx⟩
  · exact ⟨_, cap, hv, hc, hm, fun _ => ⟨g, rfl⟩⟩
theorem Ints.cell {w : World} {e : TypeId} {k : IntKind} {g n cap : Nat} {xs : List Int} (h : Ints w e k (.slice (some ⟨g, 0, none⟩) n cap) xs) (j : Nat) (hj : j < xs.length) : w.cell? ⟨g, j, none⟩ = some (.int k (xs.getD j 0)) := by
  obtain ⟨ao, cap', hv, _⟩ := h.shape
  cases hv
  rw [World.ownsRow.cellAt h j (by omega)]
  simp [hj]

/-- The box's cells. -/
theorem box_cell {w : World} {B : Nat} {cs : Array Value} {t : TypeId} (hB : w.heap[B]? = some (.cells cs t (0, 0))) (o : Nat) : w.cell? ⟨B, o, none⟩ = cs[o]? := cell_of_row w B o cs t (0, 0) hB
theorem box_frozen {w : World} {B : Nat} {cs : Array Value} {t : TypeId} (hB : w.heap[B]? = some (.cells cs t (0, 0))) (o : Nat) : w.frozen? ⟨B, o, none⟩ = false := frozen_of_row w B o cs t hB
theorem box_set {w : World} {B : Nat} {cs : Array Value} {t : TypeId} (hB : w.heap[B]? = some (.cells cs t (0, 0))) (o : Nat) (v : Value) : (w.setCell ⟨B, o, none⟩ v).heap[B]? = some (.cells (cs.setIfInBounds o v) t (0, 0)) := heap_setCell_same w B o cs t v hB
theorem box_other {w : World} {B k : Nat} (h : k ≠ B) (o : Nat) (v : Value) : (w.setCell ⟨B, o, none⟩ v).heap[k]? = w.heap[k]? := heap_setCell_other w ⟨B, o, none⟩ k v h
theorem box_lt {w : World} {B : Nat} {o : Obj} (hB : w.heap[B]? = some o) : B < w.heap.size := (Array.getElem?_eq_some_iff.1 hB).1

/-- append onto a row of the call's own: where the row lies behind it. -/
theorem run_append_where {P : Program} (w : World) (t ty e : TypeId) (i : TypeInfo) (z : Value) (ht : P.underlying t = some (.slice e)) (hi : P.info? e = some i) (hz : i.zero = some z)
    (hsize : i.size = 1) (hzs : z.cells.size = 1) (v : Value) (n : Nat) (xs : List Value) (hown : w.ownsRow 0 e 1 v n xs) (a : Addr) (c : Nat) (u : Value)
    (hu : w.cell? a = some u) (h1 : u.oneCell' = true) (h63 : n + 1 ≤ 1000000) (hby : i.bytes ≤ 16) :
    ∃ v' w', (Builtin.append_ #[t, t] ty #[v, .slice (some a) 1 c]).run P w = .ok v' w' ∧ w'.ownsRow 0 e 1 v' (n + 1) (xs ++ [u]) ∧ w.grownBy w' v.ownBlock ∧ (v'.ownBlock = v.ownBlock ∨ v'.ownBlock = some w.heap.size) := by
  have hnews : ∀ j x, [u][j]? = some x → w.cell? (a.add j) = some x := by
    intro j x hj
    cases j with
    | zero => simp at hj; subst hj; simpa [Addr.add] using hu
    | succ j => simp at hj
  have hb : (n + 1) * i.bytes ≤ 140737488355328 := Nat.le_trans (Nat.mul_le_mul h63 hby) (by decide)
  obtain ⟨v', w', hr, h2, h3, _⟩ := run_append_own (P := P) w 0 t ty e i z 1 i.bytes ht hi hz hsize rfl hzs (by decide) v n xs hown a 1 c [u] rfl hnews (by simpa using h1) (by unfold maxLen; omega) hb (Nat.zero_le _)
  refine ⟨v', w', hr, h2, h3, ?_⟩
  rcases hown.2 with ⟨rfl, rfl⟩ | ⟨g, cap, cur, rfl, _, hg, hnc, hcm, hcs, htake⟩
  · have hq := run_append_nil (P := P) w t ty e i z ht hi hz a 1 c [u] (by rw [hsize]; rfl) hnews (by omega) (by omega) (by omega)
    rw [hr] at hq
    cases hq
    exact .inr rfl
  · by_cases hroom : n + 1 ≤ cap
    · obtain ⟨w2, hq, _⟩ := run_append_fits (P := P) w 0 t ty e i 1 ht hi hsize g n cap xs hown a 1 c [u] rfl hnews (by simpa using h1) hroom
      rw [hr] at hq
      cases hq
      exact .inl rfl
    · have hl : xs.length = n * i.size := by rw [hsize]; exact hown.1
      have hq := run_append_grow (P := P) w t ty e i z ht hi hz ⟨g, 0, none⟩ n cap xs hl (hown.cells (g := g) rfl) a 1 c [u] (by rw [hsize]; rfl) hnews (by omega) (by omega) (growslice_fits (by omega) hb)
      rw [hr] at hq
      cases hq
      exact .inr rfl

theorem wpList_append_where {P : Program} {w : World} {ops : Array Oper} {rest : List Oper} {o : Oper} {a : Act} {Q : Exit → Act → World → Prop} (hgd : o.guard = none) (s x : Operand) (t : TypeId)
    (ho : o.op = .call { callee := .builtin .append, args := #[s, x], argTypes := #[t, t] }) (e : TypeId) (i : TypeInfo) (z : Value) (ht : P.underlying t = some (.slice e)) (hi : P.info? e = some i) (hz : i.zero = some z)
    (hsize : i.size = 1) (hzs : z.cells.size = 1) (v : Value) (n : Nat) (xs : List Value) (hs : a.eval s = v) (hown : w.ownsRow 0 e 1 v n xs) (ad : Addr) (c : Nat) (u : Value) (hx : a.eval x = .slice (some ad) 1 c)
    (hu : w.cell? ad = some u) (h1 : u.oneCell' = true) (h63 : n + 1 ≤ 1000000) (hby : i.bytes ≤ 16)
    (h : ∀ v' w', w'.ownsRow 0 e 1 v' (n + 1) (xs ++ [u]) → w.grownBy w' v.ownBlock → (v'.ownBlock = v.ownBlock ∨ v'.ownBlock = some w.heap.size) → wpList P ops Q rest (a.put o.dst v') w') : wpList P ops Q (o :: rest) a w := by
  obtain ⟨v', w', hr, h2, h3, h4⟩ := run_append_where (P := P) w t o.type e i z ht hi hz hsize hzs v n xs hown ad c u hu h1 h63 hby
  refine wpList_plain hgd fun K hK => ?_
  unfold Oper.wp execOp
  simp only [ho, resolve, invoke, builtin, Sem.run_bind, Sem.run_pure, Result.andThen_ok, List.map_toArray, List.map_cons, List.map_nil, hs, hx, hr]
  exact hK _ _ (h v' w' h2 h3 h4)

/-- copy into a row of the call's own: which row it is then, and that no other block has turned. -/
theorem wpList_copy_row {P : Program} {w : World} {ops : Array Oper} {rest : List Oper} {o : Oper} {a : Act} {Q : Exit → Act → World → Prop} (hgd : o.guard = none) (d s : Operand) (dT sT : TypeId)
    (ho : o.op = .call { callee := .builtin .copy, args := #[d, s], argTypes := #[dT, sT] }) (elem : TypeId) (hu : P.underlying dT = some (.slice elem)) (hsz : (P.info? elem).map (·.size) = some 1)
    (dp sp : Option Addr) (dLen dCap sLen sCap : Nat) (hd : a.eval d = .slice dp dLen dCap) (hs : a.eval s = .slice sp sLen sCap)
    (v : Value) (n : Nat) (xs : List Value) (hown : w.ownsRow 0 elem 1 v n xs) (off : Nat) (cs : List Value) (hn : cs.length = Nat.min sLen dLen) (hfit : off + cs.length ≤ n)
    (hpos : 0 < cs.length → (∀ g cap, v = .slice (some ⟨g, 0, none⟩) n cap → dp = some ⟨g, off, none⟩) ∧ ∃ ad, sp = some ad ∧ ∀ j x, cs[j]? = some x → w.cell? (ad.add j) = some x) (h1 : ∀ x ∈ cs, x.oneCell' = true)
    (h : ∀ w', Hid (w'.ownsRow 0 elem 1 v n (splice xs off cs)) → w.grownBy w' v.ownBlock → wpList P ops Q rest (a.put o.dst (goInt cs.length)) w') : wpList P ops Q (o :: rest) a w := by
  have hxl : xs.length = n := by simpa using hown.1
  by_cases h0 : cs.length = 0
  · obtain rfl : cs = [] := List.eq_nil_of_length_eq_zero h0
    refine wpList_copy_nothing hgd d s dT sT ho elem hu hsz dp sp dLen dCap sLen sCap hd hs (by simpa using hn.symm) ?_
    exact h w (by have hh := hown; rw [show xs = splice xs off [] by simp [splice]] at hh; exact hh) ⟨rfl, rfl, rfl, Nat.le_refl _, fun _ _ _ => rfl⟩
  · obtain ⟨hdp, ad, rfl, hsrc⟩ := hpos (by omega)
    rcases hown.2 with ⟨rfl, rfl⟩ | ⟨g, cap, cur, rfl, _, hg, hnc, hcm, hcs, htake⟩
    · omega
    · obtain rfl := hdp g cap rfl
      refine wpList_copy_own hgd d s dT sT ho elem hu hsz g off dLen dCap ad sLen sCap hd hs cur elem hg cs hn hsrc (by omega) h1 ?_
      refine h _ (show _ from ⟨?_, .inr ⟨g, cap, _, rfl, Nat.zero_le _, setRow_heap w g cur _ elem _ hg, hnc, hcm, ?_, ?_⟩⟩) ⟨rfl, rfl, rfl, by simp, fun k _ hk => setRow_other w g k _ (fun e => hk (by simp [Value.ownBlock, e]))⟩
      · rw [length_splice _ _ _ (by omega), Nat.mul_one, hxl]
      · simp only [List.size_toArray, List.length_append, List.length_take, List.length_drop, Array.length_toList]
        omega
      · simp only [Nat.mul_one] at htake ⊢
        subst htake
        unfold splice
        rw [List.take_append, List.take_append, List.take_of_length_le (l := List.take off cur.toList) (by rw [List.length_take]; omega)]
        have e1 : (cur.toList.take off).length = off := by rw [List.length_take, Array.length_toList]; omega
        rw [e1, List.take_take, Nat.min_eq_left (by omega)]
        congr 1
        rw [List.take_of_length_le (l := cs) (by omega), List.drop_take]
        congr 2
        omega
end Go.Proofs.Ytnlajfdgpdijjaa
