/- The powers of 1, 2, 4 and more zero bytes, in an array of arrays. -/
import Derived.Test.YtniffodbpkcdpaaCrcTwice
import Derived.Deep.MidRow
namespace Go.Proofs.Ytniffodbpkcdpaa
open Go.RowKit

/-- Cells written over, from a place on. -/
def putAt (cs : Array Value) (o : Nat) : List Value → Array Value
  | [] => cs
  | v :: r => putAt (cs.setIfInBounds o v) (o + 1) r
theorem putAt_size : ∀ (vs : List Value) (cs : Array Value) (o : Nat), (putAt cs o vs).size = cs.size
  | [], _, _ => rfl
  | v :: r, cs, o => by unfold putAt; rw [putAt_size r, Array.size_setIfInBounds]
theorem putAt_out : ∀ (vs : List Value) (cs : Array Value) (o i : Nat), i < o ∨ o + vs.length ≤ i → (putAt cs o vs)[i]? = cs[i]?
  | [], _, _, _, _ => rfl
  | v :: r, cs, o, i, h => by
    simp only [List.length_cons] at h
    unfold putAt
    rw [putAt_out r _ (o + 1) i (by omega), Array.getElem?_setIfInBounds, if_neg (by omega)]
theorem putAt_in : ∀ (vs : List Value) (cs : Array Value) (o j : Nat) (_ : j < vs.length), o + j < cs.size → (putAt cs o vs)[o + j]? = vs[j]?
  | v :: r, cs, o, 0, _, hs => by
    unfold putAt
    rw [putAt_out r _ (o + 1) (o + 0) (by omega), Array.getElem?_setIfInBounds, if_pos (by omega), if_pos (by omega)]
    rfl
  | v :: r, cs, o, j + 1, hj, hs => by
    unfold putAt
    rw [show o + (j + 1) = o + 1 + j by omega, putAt_in r _ (o + 1) j (by simpa using hj) (by rw [Array.size_setIfInBounds]; omega)]
    rfl
theorem putAt_one : ∀ (vs : List Value) (cs : Array Value) (o : Nat), (∀ v ∈ vs, v.oneCell' = true) → cs.all (·.oneCell') = true → (putAt cs o vs).all (·.oneCell') = true
  | [], _, _, _, h => h
  | v :: r, cs, o, hv, h => by
    unfold putAt
    refine putAt_one r _ (o + 1) (fun x hx => hv x (by simp [hx])) ?_
    rw [Array.all_eq_true_iff_forall_mem] at h ⊢
    intro x hx
    obtain ⟨i, hi, rfl⟩ := Array.mem_iff_getElem.1 hx
    rw [Array.getElem_setIfInBounds (by simpa using hi)]
    split
    · exact hv v (by simp)
    · exact h _ (Array.getElem_mem _)
theorem setCells_putAt (b : Nat) (t : TypeId) : ∀ (vs : List Value) (o : Nat) (w : World) (cs : Array Value), w.heap[b]? = some (.cells cs t (0, 0)) → (w.setCells b o vs).heap[b]? = some (.cells (putAt cs o vs) t (0, 0))
  | [], _, _, _, h => h
  | v :: r, o, w, cs, h => setCells_putAt b t r (o + 1) _ _ (heap_setCell_same w b o cs t v h)
theorem setCells_other (b k : Nat) (h : k ≠ b) : ∀ (vs : List Value) (o : Nat) (w : World), (w.setCells b o vs).heap[k]? = w.heap[k]?
  | [], _, _ => rfl
  | v :: r, o, w => by rw [World.setCells, setCells_other b k h r (o + 1), heap_setCell_other w ⟨b, o, none⟩ k v h]
theorem below_setCells {B : Nat} {a : World} (b : Nat) (hb : B ≤ b) : ∀ (vs : List Value) (o : Nat) (w : World), Below B a w → Below B a (w.setCells b o vs)
  | [], _, _, h => h
  | _ :: r, o, _, h => below_setCells b hb r (o + 1) _ (h.setCell hb _)
theorem fill_putAt (off : Nat) : ∀ (vs : List Value) (s : Nat) (cs : Array Value), (vs.zipIdx s).foldl (fun cs (p : Value × Nat) => cs.setIfInBounds (off + p.2) p.1) cs = putAt cs (off + s) vs
  | [], _, _ => rfl
  | v :: r, s, cs => by
    rw [List.zipIdx_cons, List.foldl_cons, fill_putAt off r (s + 1)]
    rfl

/-- The first k of the powers stand in the array. -/
structure PowGood (cur : Array Value) (k : Nat) : Prop where
  size : cur.size = 2016
  one : cur.all (·.oneCell') = true
  at_ : ∀ j, j < k → ∀ i, i < 32 → cur[32 * j + i]? = some (.int .u32 (powF (8 * 2 ^ j) i : Nat))
theorem good_next {cur : Array Value} {k : Nat} (h : PowGood cur k) (hk : k < 63) : PowGood (putAt cur (32 * k) (fillC .u32 (powF (8 * 2 ^ k)) 32 32).toList) (k + 1) := by
  have hl : (fillC .u32 (powF (8 * 2 ^ k)) 32 32).toList.length = 32 := by rw [Array.length_toList, fillC_size]
  refine ⟨by rw [putAt_size, h.size], putAt_one _ _ _ (fun v hv => Array.all_eq_true_iff_forall_mem.1 (fillC_one .u32 (powF (8 * 2 ^ k)) 32 32) v (by simpa using hv)) h.one, fun j hj i hi => ?_⟩
  by_cases e : j = k
  · subst e
    rw [putAt_in _ _ _ _ (by rw [hl]; exact hi) (by rw [h.size]; omega), Array.getElem?_toList, fillC_at _ _ _ _ i hi, if_pos hi]
  · rw [putAt_out _ _ _ _ (by rw [hl]; omega)]
    exact h.at_ j (by omega) i hi

theorem zero63 : (Try.prog.info? 45).map (fun i => (i.zero, i.size)) = some (some (.agg (Array.replicate 2016 (.int .u32 0))), 2016) := by kernel_rfl
theorem good_start : PowGood (putAt (Array.replicate 2016 (.int .u32 0)) 0 (fillC .u32 (powF 8) 32 32).toList) 1 := by
  have h0 : PowGood (Array.replicate 2016 (.int .u32 0)) 0 := ⟨Array.size_replicate, by rw [Array.all_replicate]; rfl, fun j hj => absurd hj (by omega)⟩
  have h := good_next h0 (show 0 < 63 by decide)
  rw [show 32 * 0 = 0 from rfl, show 8 * 2 ^ 0 = 8 from rfl, show 0 + 1 = 1 from rfl] at h
  exact h
set_option maxRecDepth 100000 in
theorem built_one : Try.prog.built 45 [(0, .agg (fillC .u32 (powF 8) 32 32))] = some (putAt (Array.replicate 2016 (.int .u32 0)) 0 (fillC .u32 (powF 8) 32 32).toList) := by
  have z := zero63
  have z2 := zero32
  cases h : Try.prog.info? 45 with
  | none => rw [h] at z; cases z
  | some it =>
    cases h2 : Try.prog.info? 44 with
    | none => rw [h2] at z2; cases z2
    | some ie =>
      rw [h] at z
      rw [h2] at z2
      simp only [Option.map_some, Option.some.injEq, Prod.mk.injEq] at z z2
      unfold Program.built
      rw [h, Try.underlying45]
      simp only [h2, z.1]
      unfold Instr.fill
      simp only [z2.2, Value.cells, fillC_size, Array.size_replicate]
      rw [if_neg (by decide)]
      unfold Instr.fill
      rw [← Array.foldl_toList, Array.toList_zipIdx, fill_putAt]

theorem wpList_build_at {P : Program} {ops : Array Oper} {rest : List Oper} {o : Oper} {a : Act} {w : World} {Q : Exit → Act → World → Prop} (hg : o.guard = none) (t : TypeId) (parts : Array (Nat × Operand)) (ho : o.op = .build t parts)
    (cells : Array Value) (hb : P.built t (parts.map fun (i, x) => (i, a.eval x)).toList = some cells) (h : wpList P ops Q rest (a.put o.dst (.agg cells)) w) : wpList P ops Q (o :: rest) a w :=
  wpList_build hg t parts ho (by rw [hb]; rfl) (by rw [hb]; exact h)

set_option maxRecDepth 100000 in
set_option maxHeartbeats 2000000 in
theorem powers_any (n : Nat) (hn : n ≤ 63) (w : World) :
    Calls Try.prog 23 #[.int .i64 n] w fun e w' => (∃ c, e = .returned (.agg c) ∧ PowGood c n) ∧ Below w.heap.size w w' := by
  obtain ⟨hz, hi⟩ := zero_of_info zero63
  have hi32 := (zero_of_info zero32).2
  have hu := Try.underlying45
  obtain ⟨Z, hZ⟩ : ∃ Z, Array.replicate 2016 (Value.int .u32 0) = Z := ⟨_, rfl⟩
  have hZs : Z.size = 2016 := by rw [← hZ]; exact Array.size_replicate
  have hbo := built_one
  have hgs := good_start
  rw [hZ] at hz hbo hgs
  clear hZ
  have hO := one_any (w.alloc (.cells Z 45))
  generalize putAt Z 0 (fillC .u32 (powF 8) 32 32).toList = C0 at hbo hgs
  have hi0 : (Try.prog.info? 45).map (·.size) = some C0.size := by rw [hgs.size]; exact hi
  have hold : Z.size = C0.size := by rw [hZs, hgs.size]
  have h10 := hgs.one
  go_enter Try.func23, Try.ntmps23
  go_wp2_with fail
  refine hO.mono ?_
  clear hO
  rintro e w1 ⟨rfl, hb⟩
  have hbw : Below w.heap.size w w1 := ((Below.refl _ w).alloc (Nat.le_refl _) _).trans (hb.mono (by simp))
  have hw1 : w1.heap[w.heap.size]? = some (.cells Z 45 (0, 0)) := by
    rw [hb.block _ (by simp)]
    exact heap_alloc_new w _
  have hlt1 : w.heap.size < w1.heap.size := by have := hb.size; simp at this; omega
  clear hb
  have Hbo := Lib.hid hbo
  clear hbo
  have Hi := Lib.hid hi
  have Hi0 := Lib.hid hi0
  clear hi hi0
  go_wp2_with (first | (refine wpList_build_at rfl 45 #[(0, .tmp 5)] rfl C0 (Eq.trans (congrArg (Try.prog.built 45) (by simp [Act.eval])) Hbo.out) ?_) | (refine wpList_store_row rfl 45 _ _ rfl w1.heap.size _ rfl rfl 45 _ (heap_alloc_new w1 (.cells Z 45)) Hi0.out hold h10 ?_; rw [World.setRow_alloc_new]))
  clear hz hold h10
  go_loopw [4] (fun i wr => ∃ k : Nat, 1 ≤ k ∧ (k = 1 ∨ k ≤ n) ∧ i = .int .i64 k ∧ ∃ cur, wr.heap[w1.heap.size]? = some (.cells cur 45 (0, 0)) ∧ PowGood cur k ∧ wr.heap[w.heap.size]? = some (.cells Z 45 (0, 0)) ∧ Below w.heap.size w wr) (fun i _ => n - (intOf i).toNat)
  case atStart => exact ⟨1, by omega, .inl rfl, rfl, C0, heap_alloc_new w1 _, hgs, by rw [Below.heap_alloc _ _ _ hlt1]; exact hw1, hbw.alloc hbw.size _⟩
  case round =>
    rename_i wr
    obtain ⟨k, hk1, hk2, rfl, cur, hcur, hg, hwr, hbr⟩ := hrel
    obtain ⟨p, rfl⟩ : ∃ p, k = p + 1 := ⟨k - 1, by omega⟩
    by_cases hlt : p + 1 < n
    · have hcells : ∀ i, i < 32 → wr.cell? ⟨w1.heap.size, 32 * p + i, none⟩ = some (.int .u32 (powF (8 * 2 ^ p) i : Nat)) := fun i hi => by
        rw [cell_of_row _ _ _ _ _ _ hcur]; exact hg.at_ p (by omega) i hi
      have hT := twice_any (8 * 2 ^ p) w1.heap.size (32 * p) wr hcells
      rw [show 8 * 2 ^ p + 8 * 2 ^ p = 8 * 2 ^ (p + 1) by rw [Nat.pow_succ]; omega] at hT
      rw [show (⟨w1.heap.size, 32 * p, none⟩ : Addr) = ⟨w1.heap.size, p * 32, none⟩ by rw [Nat.mul_comm]] at hT
      have hlt63 : p + 1 < 63 := by omega
      clear hcells hk1 hk2
      go_wp2_with fail
      refine hT.mono ?_
      clear hT
      rintro e w2 ⟨rfl, hb2⟩
      have hB2 : w1.heap.size < wr.heap.size := (Array.getElem?_eq_some_iff.1 hcur).1
      have hB0 : w.heap.size < wr.heap.size := (Array.getElem?_eq_some_iff.1 hwr).1
      have hcur2 : w2.heap[w1.heap.size]? = some (.cells cur 45 (0, 0)) := by rw [hb2.block _ hB2]; exact hcur
      have hwr2 : w2.heap[w.heap.size]? = some (.cells Z 45 (0, 0)) := by rw [hb2.block _ hB0]; exact hwr
      have hbr2 : Below w.heap.size w w2 := hbr.trans (hb2.mono hbr.size)
      have hsz := fillC_size .u32 (powF (8 * 2 ^ (p + 1))) 32 32
      have hth : w2.there w1.heap.size ((p + 1) * 32) (fillC .u32 (powF (8 * 2 ^ (p + 1))) 32 32).size := fun j hj => by
        rw [hsz] at hj
        refine ⟨?_, frozen_of_row _ _ _ _ _ hcur2⟩
        rw [cell_of_row _ _ _ _ _ _ hcur2, Array.getElem?_eq_getElem (by rw [hg.size]; omega)]
        rfl
      have Hi32 : (Try.prog.info? 44).map (·.size) = some (fillC .u32 (powF (8 * 2 ^ (p + 1))) 32 32).size := by rw [hsz]; exact hi32
      have H1 := fillC_one .u32 (powF (8 * 2 ^ (p + 1))) 32 32
      have hgn := good_next hg hlt63
      rw [Nat.mul_comm 32 (p + 1)] at hgn
      have hset := setCells_putAt w1.heap.size 45 (fillC .u32 (powF (8 * 2 ^ (p + 1))) 32 32).toList ((p + 1) * 32) w2 cur hcur2
      have hoth : (w2.setCells w1.heap.size ((p + 1) * 32) (fillC .u32 (powF (8 * 2 ^ (p + 1))) 32 32).toList).heap[w.heap.size]? = some (.cells Z 45 (0, 0)) := by
        rw [setCells_other _ _ (by omega)]; exact hwr2
      have hbel : Below w.heap.size w (w2.setCells w1.heap.size ((p + 1) * 32) (fillC .u32 (powF (8 * 2 ^ (p + 1))) 32 32).toList) := below_setCells _ (by omega) _ _ _ hbr2
      clear hcur hwr hbr hb2 hi32 hsz
      generalize fillC .u32 (powF (8 * 2 ^ (p + 1))) 32 32 = cs at *
      have Hth := Lib.hid hth
      have HI := Lib.hid Hi32
      have HO := Lib.hid H1
      clear hth Hi32 H1
      have key : ∀ (op : Oper) (ops rest Q a), op.guard = none → op.op = .store 44 (.tmp 17) (.tmp 16) → a.eval (.tmp 17) = .pointer (some ⟨w1.heap.size, (p + 1) * 32, none⟩) → a.eval (.tmp 16) = .agg cs → wpList Try.prog ops Q rest (a.put op.dst undef) (w2.setCells w1.heap.size ((p + 1) * 32) cs.toList) → wpList Try.prog ops Q (op :: rest) a w2 :=
        fun op ops rest Q a h1 h2 h3 h4 h5 => wpList_store_mid h1 44 _ _ h2 w1.heap.size ((p + 1) * 32) cs h3 h4 Hth.out HI.out HO.out h5
      go_wp2_with (refine key _ _ _ _ _ rfl rfl (by simp [Act.eval]) (by simp [Act.eval]) ?_)
      exact ⟨⟨p + 1 + 1, by omega, .inr (by omega), by congr 1, _, hset, hgn, hoth, hbel⟩, by simp [intOf]; omega⟩
    · have hgn : PowGood cur n := ⟨hg.size, hg.one, fun j hj i hi => hg.at_ j (by omega) i hi⟩
      have HI := Lib.hid (show (Try.prog.info? 45).map (·.size) = some cur.size by rw [hg.size]; exact Hi.out)
      have HO := Lib.hid hg.one
      have hold : Z.size = cur.size := by rw [hZs, hg.size]
      clear hgs hg hZs Hi Hi0 Hbo hi32
      have key1 : ∀ (op : Oper) (ops rest Q a), op.guard = none → op.op = .load 45 (.tmp 3) → a.eval (.tmp 3) = .pointer (some ⟨w1.heap.size, 0, none⟩) → wpList Try.prog ops Q rest (a.put op.dst (.agg cur)) wr → wpList Try.prog ops Q (op :: rest) a wr :=
        fun op ops rest Q a h1 h2 h3 h5 => wpList_load_row h1 45 _ h2 w1.heap.size h3 45 cur (0, 0) _ hcur hu rfl HI.out h5
      have key2 : ∀ (op : Oper) (ops rest Q a), op.guard = none → op.op = .store 45 (.tmp 2) (.tmp 18) → a.eval (.tmp 2) = .pointer (some ⟨w.heap.size, 0, none⟩) → a.eval (.tmp 18) = .agg cur → wpList Try.prog ops Q rest (a.put op.dst undef) (wr.setRow w.heap.size cur) → wpList Try.prog ops Q (op :: rest) a wr :=
        fun op ops rest Q a h1 h2 h3 h4 h5 => wpList_store_row h1 45 _ _ h2 w.heap.size cur h3 h4 45 Z hwr HI.out hold HO.out h5
      go_wp2_with (first | (refine key1 _ _ _ _ _ rfl rfl (by simp [Act.eval]) ?_) | (refine key2 _ _ _ _ _ rfl rfl (by simp [Act.eval, Act.put]) (by simp [Act.eval, Act.put]) ?_))
      exact bodyPost_ret (v := .agg cur) (results_cell_row rfl _ _ w.heap.size 45 _ (0, 0) _ rfl (setRow_heap wr w.heap.size _ _ _ _ hwr) hu rfl HI.out) rfl ⟨⟨cur, rfl, hgn⟩, below_setRow hbr (Nat.le_refl _) _⟩
end Go.Proofs.Ytniffodbpkcdpaa
