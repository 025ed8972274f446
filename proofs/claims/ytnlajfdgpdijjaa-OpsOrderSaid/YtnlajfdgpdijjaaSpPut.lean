/- Texts of this proof, joined. -/
import Derived.Test.YtnlajfdgpdijjaaWorlds
import Derived.OwnWalk
import Derived.Test.YtnlajfdgpdijjaaEdgesPlain
import Derived.Test.YtnlajfdgpdijjaaRefSpMade
import Derived.Deep.RegionHeld
import Derived.RangeFuncBox
import Derived.Deep.RegionLaw
import Derived.Deep.CutRange
import Derived.Deep.DeepCutAuto

/- append of one element of several cells onto a row of the call's own: where the row lies behind it. Nothing of a program's own text. -/
namespace Go.Proofs.Ytnlajfdgpdijjaa
open Go.RowKit

theorem run_append_where2 {P : Program} (w : World) (base : Nat) (t ty e : TypeId) (i : TypeInfo) (z : Value) (size bytes : Nat) (ht : P.underlying t = some (.slice e)) (hi : P.info? e = some i) (hz : i.zero = some z)
    (hsize : i.size = size) (hby : i.bytes = bytes) (hzs : z.cells.size = size) (hsz : 0 < size) (v : Value) (n : Nat) (xs : List Value) (hown : w.ownsRow base e size v n xs) (a : Addr) (c : Nat) (news : List Value) (hl : news.length = size)
    (hnews : ∀ j u, news[j]? = some u → w.cell? (a.add j) = some u) (h1 : ∀ u ∈ news, u.oneCell' = true) (h63 : n + 1 ≤ 5000000) (hbb : bytes ≤ 16) (hbase : base ≤ w.heap.size) :
    ∃ v' w', (Builtin.append_ #[t, t] ty #[v, .slice (some a) 1 c]).run P w = .ok v' w' ∧ w'.ownsRow base e size v' (n + 1) (xs ++ news) ∧ w.grownBy w' v.ownBlock ∧ (v'.ownBlock = v.ownBlock ∨ v'.ownBlock = some w.heap.size) := by
  have hb : (n + 1) * bytes ≤ 140737488355328 := Nat.le_trans (Nat.mul_le_mul h63 hbb) (by decide)
  obtain ⟨v', w', hr, h2, h3, _⟩ := run_append_own (P := P) w base t ty e i z size bytes ht hi hz hsize hby hzs hsz v n xs hown a 1 c news (by rw [Nat.one_mul]; exact hl) hnews h1 (by unfold maxLen; omega) hb hbase
  refine ⟨v', w', hr, h2, h3, ?_⟩
  rcases hown.2 with ⟨rfl, rfl⟩ | ⟨g, cap, cur, rfl, _, hg, hnc, hcm, hcs, htake⟩
  · have hq := run_append_nil (P := P) w t ty e i z ht hi hz a 1 c news (by rw [hsize, Nat.one_mul]; exact hl) hnews (by omega) (by omega) (by rw [hby]; omega)
    rw [hr] at hq
    cases hq
    exact .inr rfl
  · by_cases hroom : n + 1 ≤ cap
    · obtain ⟨w2, hq, _⟩ := run_append_fits (P := P) w base t ty e i size ht hi hsize g n cap xs hown a 1 c news (by rw [Nat.one_mul]; exact hl) hnews h1 hroom
      rw [hr] at hq
      cases hq
      exact .inl rfl
    · have hlx : xs.length = n * i.size := by rw [hsize]; exact hown.1
      have hq := run_append_grow (P := P) w t ty e i z ht hi hz ⟨g, 0, none⟩ n cap xs hlx (hown.cells (g := g) rfl) a 1 c news (by rw [hsize, Nat.one_mul]; exact hl) hnews (by omega) (by omega) (by rw [hby]; exact growslice_fits (by omega) hb)
      rw [hr] at hq
      cases hq
      exact .inr rfl
theorem wpList_append_where2 {P : Program} {w : World} {ops : Array Oper} {rest : List Oper} {o : Oper} {a : Act} {Q : Exit → Act → World → Prop} (hgd : o.guard = none) (s x : Operand) (t : TypeId)
    (ho : o.op = .call { callee := .builtin .append, args := #[s, x], argTypes := #[t, t] }) (base : Nat) (e : TypeId) (i : TypeInfo) (z : Value) (size bytes : Nat) (ht : P.underlying t = some (.slice e)) (hi : P.info? e = some i) (hz : i.zero = some z)
    (hsize : i.size = size) (hby : i.bytes = bytes) (hzs : z.cells.size = size) (hsz : 0 < size) (v : Value) (n : Nat) (xs : List Value) (hs : a.eval s = v) (hown : w.ownsRow base e size v n xs) (ad : Addr) (c : Nat) (news : List Value) (hx : a.eval x = .slice (some ad) 1 c) (hl : news.length = size)
    (hnews : ∀ j u, news[j]? = some u → w.cell? (ad.add j) = some u) (h1 : ∀ u ∈ news, u.oneCell' = true) (h63 : n + 1 ≤ 5000000) (hbb : bytes ≤ 16) (hbase : base ≤ w.heap.size)
    (h : ∀ v' w', w'.ownsRow base e size v' (n + 1) (xs ++ news) → w.grownBy w' v.ownBlock → (v'.ownBlock = v.ownBlock ∨ v'.ownBlock = some w.heap.size) → wpList P ops Q rest (a.put o.dst v') w') : wpList P ops Q (o :: rest) a w := by
  obtain ⟨v', w', hr, h2, h3, h4⟩ := run_append_where2 (P := P) w base t o.type e i z size bytes ht hi hz hsize hby hzs hsz v n xs hown ad c news hl hnews h1 h63 hbb hbase
  refine wpList_plain hgd fun K hK => ?_
  unfold Oper.wp execOp
  simp only [ho, resolve, invoke, builtin, Sem.run_bind, Sem.run_pure, Result.andThen_ok, List.map_toArray, List.map_cons, List.map_nil, hs, hx, hr]
  exact hK _ _ (h v' w' h2 h3 h4)
end Go.Proofs.Ytnlajfdgpdijjaa

/- spans: end, put. -/
namespace Go.Proofs.Ytnlajfdgpdijjaa
open Go.RowKit

set_option maxRecDepth 100000 in
set_option maxHeartbeats 2000000 in
theorem spEnd_any (s : Sp) (W : World) : Calls Try.prog 106 #[.agg #[.int .i64 s.1, .int .i64 s.2]] W fun e W' => e = .returned (.int .i64 (spEnd s)) ∧ W' = W.alloc (.cells #[.int .i64 s.1, .int .i64 s.2] 69) := by
  obtain ⟨a, b⟩ := s
  show Calls Try.prog 106 #[.agg #[.int .i64 a, .int .i64 b]] W fun e W' => e = .returned (.int .i64 (IntKind.i64.wrap (a + b))) ∧ W' = W.alloc (.cells #[.int .i64 a, .int .i64 b] 69)
  go_enter Try.func106, Try.ntmps106
  go_wp2
  go_ret
  exact ⟨ret_i64 (by unfold wrap64; exact (IntKind.wrap_i64 _).symm), rfl⟩
/-- A row whose last span lies at k. -/
def PutH (N g cap k : Nat) (L : List Sp) (p q : Int) (w0 W : World) : Prop :=
  W.ownsRow N 69 2 (.slice (some ⟨g, 0, none⟩) (k + 1) cap) (k + 1) (spCells L) ∧ W.cell? ⟨g, k * 2, none⟩ = some (.int .i64 p) ∧ W.cell? ⟨g, k * 2 + 1, none⟩ = some (.int .i64 q) ∧ W.frozen? ⟨g, k * 2 + 1, none⟩ = false ∧ g < W.heap.size ∧ Below N w0 W
theorem PutH.drew {N g cap k : Nat} {L : List Sp} {p q : Int} {w0 W : World} (h : PutH N g cap k L p q w0 W) : PutH N g cap k L p q w0 W.drew := ⟨h.1, h.2.1, h.2.2.1, h.2.2.2.1, h.2.2.2.2.1, h.2.2.2.2.2.drew⟩
theorem PutH.alloc {N g cap k : Nat} {L : List Sp} {p q : Int} {w0 W : World} (h : PutH N g cap k L p q w0 W) (hN : N ≤ g) (o : Obj) : PutH N g cap k L p q w0 (W.alloc o) := by
  obtain ⟨h1, h2, h3, h4, h5, h6⟩ := h
  have hb : Below W.heap.size W (W.alloc o) := (Below.refl _ W).alloc (Nat.le_refl _) o
  have fr : (W.alloc o).frozen? ⟨g, k * 2 + 1, none⟩ = W.frozen? ⟨g, k * 2 + 1, none⟩ := (frozen_kept h3 (World.grownBy_alloc W o none) (fun r e => by cases e))
  exact ⟨h1.alloc o, cell_stays hb h2, cell_stays hb h3, fr.trans h4, by simp; omega, h6.alloc (by omega) o⟩
/-- What put makes: the longer list in a row of the call's own; what lay below N is as it was. -/
def PutPost (N : Nat) (u : Value) (l : List Sp) (W : World) (e : Ending) (W' : World) : Prop :=
  ∃ v, e = .returned v ∧ W'.ownsRow N 69 2 v l.length (spCells l) ∧ Below N W W' ∧ Keep (fun q => u.ownBlock = some q) W.heap.size W W' ∧ (v.ownBlock = u.ownBlock ∨ ∀ g, v.ownBlock = some g → W.heap.size ≤ g)
end Go.Proofs.Ytnlajfdgpdijjaa
