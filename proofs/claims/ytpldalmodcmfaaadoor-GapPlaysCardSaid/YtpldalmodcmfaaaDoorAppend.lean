/- append of whatever reads as a row, nil and empty rows too, onto a row of the call's own; a list of runes with its capacity. -/
import Derived.Test.YtpldalmodcmfaaaDoorActFold
import Derived.Laws.AppendOwnNone
namespace Go.Proofs.YtpldalmodcmfaaaDoor
open Go.RowKit

theorem run_append_none {P : Program} {w : World} (base : Nat) (t ty e : TypeId) (i : TypeInfo) (size : Nat) (ht : P.underlying t = some (.slice e)) (hi : P.info? e = some i)
    (v : Value) (n : Nat) (xs : List Value) (hown : w.ownsRow base e size v n xs) (c : Nat) : (Builtin.append_ #[t, t] ty #[v, .slice none 0 c]).run P w = .ok v w := by
  rcases hown.2 with ⟨rfl, rfl⟩ | ⟨g, cap, cur, rfl, _, _, hnc, _⟩
  · simp [Builtin.append_, run_underlying ht, sizeOf, typeInfo, hi, Builtin.lenOf, Builtin.firstCells]
  · simp [Builtin.append_, run_underlying ht, sizeOf, typeInfo, hi, Builtin.lenOf, Builtin.firstCells, hnc, storeCells]

theorem wpList_append_any {P : Program} {w : World} {ops : Array Oper} {rest : List Oper} {o : Oper} {a : Act} {Q : Exit → Act → World → Prop} (hgd : o.guard = none) (s x : Operand) (t : TypeId)
    (ho : o.op = .call { callee := .builtin .append, args := #[s, x], argTypes := #[t, t] })
    (base : Nat) (e : TypeId) (i : TypeInfo) (z : Value) (bytes : Nat) (ht : P.underlying t = some (.slice e)) (hi : P.info? e = some i) (hz : i.zero = some z)
    (hsize : i.size = 1) (hby : i.bytes = bytes) (hzs : z.cells.size = 1)
    (v : Value) (n : Nat) (xs : List Value) (hs : a.eval s = v) (hown : w.ownsRow base e 1 v n xs)
    (ao : Option Addr) (m c : Nat) (news : List Value) (hx : a.eval x = .slice ao m c) (hl : news.length = m) (hsrc : 0 < m → ∃ ad, ao = some ad ∧ ∀ j u, news[j]? = some u → w.cell? (ad.add j) = some u) (h1 : ∀ u ∈ news, u.oneCell' = true)
    (h63 : n + m ≤ maxLen) (hbytes : (n + m) * bytes ≤ 140737488355328) (hbase : base ≤ w.heap.size)
    (h : ∀ v' w', w'.ownsRow base e 1 v' (n + m) (xs ++ news) → w.grownBy w' v.ownBlock → wpList P ops Q rest (a.put o.dst v') w') : wpList P ops Q (o :: rest) a w := by
  rcases Nat.eq_zero_or_pos m with h0 | hp
  · subst h0
    obtain rfl : news = [] := List.eq_nil_of_length_eq_zero hl
    cases ao with
    | none =>
      have hrun := run_append_none (P := P) (w := w) base t o.type e i 1 ht hi v n xs hown c
      refine wpList_plain hgd fun K hK => ?_
      unfold Oper.wp
      simp [execOp, ho, resolve, invoke, builtin, hs, hx, hrun, Result.andThen]
      exact hK _ _ (h v w (by simpa using hown) ⟨rfl, rfl, rfl, Nat.le_refl _, fun _ _ _ => rfl⟩)
    | some ad =>
      exact wpList_append_own w hgd s x t ho base e i z 1 bytes ht hi hz hsize hby hzs (by decide) v n xs hs hown ad 0 c [] hx rfl (by simp) h1 h63 hbytes hbase fun v' w' h2 h3 _ => h v' w' h2 h3
  · obtain ⟨ad, rfl, hc⟩ := hsrc hp
    exact wpList_append_own w hgd s x t ho base e i z 1 bytes ht hi hz hsize hby hzs (by decide) v n xs hs hown ad m c news hx (by omega) hc h1 h63 hbytes hbase fun v' w' h2 h3 _ => h v' w' h2 h3

/-- A slice of runes, with its capacity. -/
def List32 (w : World) (v : Value) (xs : List Int) : Prop :=
  ∃ ao cap, v = .slice ao xs.length cap ∧ xs.length ≤ cap ∧ cap ≤ maxLen ∧ (ao = none → cap = 0) ∧ (∀ ad, ao = some ad → ∃ b off, ad = ⟨b, off, none⟩ ∧ b < w.heap.size ∧ ∀ i, i < xs.length → w.cell? ⟨b, off + i, none⟩ = some (.int .i32 (xs.getD i 0)))
theorem List32.reads {w : World} {v : Value} {xs : List Int} (h : List32 w v xs) : Reads32 w v xs := by
  obtain ⟨ao, cap, rfl, hl, _, hn, hs⟩ := h
  refine ⟨ao, cap, rfl, fun hx => ?_⟩
  cases ao with
  | none =>
    have := hn rfl
    exact absurd (List.eq_nil_of_length_eq_zero (by omega)) hx
  | some ad =>
    obtain ⟨b, off, rfl, _, hc⟩ := hs ad rfl
    exact ⟨b, off, rfl, hc⟩
theorem List32.of_own {w : World} {base : Nat} {v : Value} {xs : List Int} (h : w.ownsRow base 21 1 v xs.length (xs.map (Value.int .i32))) : List32 w v xs := by
  rcases h.2 with ⟨hv, h0⟩ | ⟨g, cap, cur, hv, _, hg, hc, hm, _⟩
  · exact ⟨none, 0, by rw [hv, h0], by omega, Nat.zero_le _, fun _ => rfl, fun ad h => by cases h⟩
  · subst hv
    refine ⟨_, cap, rfl, hc, hm, (fun h => by cases h), fun ad had => ?_⟩
    cases had
    refine ⟨g, 0, rfl, (Array.getElem?_eq_some_iff.1 hg).1, fun i hi => ?_⟩
    rw [Nat.zero_add, h.cellAt i (by omega)]
    simp [hi]
theorem List32.nil (w : World) : List32 w (.slice none 0 0) [] := ⟨none, 0, rfl, Nat.le_refl _, Nat.zero_le _, fun _ => rfl, fun _ h => by cases h⟩
/-- Where no block of it turns, it reads as it read. -/
theorem List32.keep {S : Nat → Prop} {N : Nat} {w w' : World} {v : Value} {xs : List Int} (h : List32 w v xs) (hk : Keep S N w w') (hg : ∀ g, v.ownBlock = some g → ¬ S g ∧ g < N) : List32 w' v xs := by
  obtain ⟨ao, cap, rfl, hl, hm, hn, hs⟩ := h
  refine ⟨ao, cap, rfl, hl, hm, hn, fun ad had => ?_⟩
  subst had
  obtain ⟨b, off, rfl, hb, hc⟩ := hs ad rfl
  obtain ⟨h1, h2⟩ := hg b rfl
  refine ⟨b, off, rfl, Nat.lt_of_lt_of_le hb hk.size, fun i hi => ?_⟩
  rw [World.cell?_of_block (a := ⟨b, off + i, none⟩) (hk.block b h2 h1)]
  exact hc i hi
theorem List32.below {w w' : World} {v : Value} {xs : List Int} (h : List32 w v xs) (hk : Below w.heap.size w w') : List32 w' v xs := by
  have h2 := h
  refine h.keep (S := fun _ => False) (N := w.heap.size) (Keep.of_below hk (Nat.le_refl _)) fun g hg => ⟨id, ?_⟩
  obtain ⟨ao, cap, rfl, _, _, _, hs⟩ := h2
  cases ao with
  | none => cases hg
  | some ad =>
    obtain ⟨b, off, rfl, hb, _⟩ := hs _ rfl
    cases hg
    exact hb
end Go.Proofs.YtpldalmodcmfaaaDoor
