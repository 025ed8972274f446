/- The program's frames: a field's two functions, and how they are made. -/
import Derived.Test.YtckknopjhmpnhaaFrameMay
import Derived.Test.YtckknopjhmpnhaaRefFramePut
import Derived.Test.YtckknopjhmpnhaaNumsAny
import Derived.Laws.EntriesVeiled
namespace Go.Proofs.Ytckknopjhmpnhaa
open Go.RowKit Go.Shelf

/-- A frame's box. -/
def Fm (F : Nat) (k s q a : Int) (b : ByteArray) (w : World) : Prop := w.heap[F]? = some (.cells #[.int .i64 k, .int .i64 s, .int .i64 q, .int .i64 a, .string b] 28 (0, 0))
theorem Fm.lt {F : Nat} {k s q a : Int} {b : ByteArray} {w : World} (h : Fm F k s q a b w) : F < w.heap.size := box_lt h
theorem Fm.below {F N : Nat} {k s q a : Int} {b : ByteArray} {w w' : World} (h : Fm F k s q a b w) (hb : Below N w w') (hN : F < N) : Fm F k s q a b w' := (hb.block F hN).trans h
theorem Fm.keep {F B : Nat} {k s q a : Int} {b : ByteArray} {w w' : World} (h : Fm F k s q a b w) (hk : Keep (fun k => k = B) w.heap.size w w') (hne : F ≠ B) : Fm F k s q a b w' := (hk.block F h.lt hne).trans h

/-- The functions of a number's field, those of a row's. -/
def numPutV (p : Nat) : Value := .func (.func 36) #[] #[.pointer (some ⟨p, 0, none⟩)]
def numReadV (m p : Nat) : Value := .func (.func 38) #[] #[.pointer (some ⟨m, 0, none⟩), .pointer (some ⟨p, 0, none⟩)]
def rowPutV (p : Nat) : Value := .func (.func 40) #[] #[.pointer (some ⟨p, 0, none⟩)]
def rowReadV (p : Nat) : Value := .func (.func 42) #[] #[.pointer (some ⟨p, 0, none⟩)]
/-- Where a field's functions have what they hold: the pointer's box, the bound's. -/
structure NumAt (N p m F i most : Nat) (w : World) : Prop where
  hp : N ≤ p
  hm : N ≤ m
  cp : w.cell? ⟨p, 0, none⟩ = some (.pointer (some ⟨F, i, none⟩))
  cm : w.cell? ⟨m, 0, none⟩ = some (.int .u64 most)
theorem NumAt.below {N p m F i most : Nat} {w w' : World} (h : NumAt N p m F i most w) (hb : Below w.heap.size w w') : NumAt N p m F i most w' := ⟨h.hp, h.hm, cb hb h.cp, cb hb h.cm⟩
structure RowAt (N p F i : Nat) (w : World) : Prop where
  hp : N ≤ p
  cp : w.cell? ⟨p, 0, none⟩ = some (.pointer (some ⟨F, i, none⟩))
theorem RowAt.below {N p F i : Nat} {w w' : World} (h : RowAt N p F i w) (hb : Below w.heap.size w w') : RowAt N p F i w' := ⟨h.hp, cb hb h.cp⟩

theorem info_field : (Try.prog.info? 50).map (·.size) = some 2 := by kernel_rfl
theorem number_new (F i most : Nat) (w : World) (o : Obj) : NumAt w.heap.size w.heap.size (w.heap.size + 1) F i most (((w.alloc (.cells #[.pointer (some ⟨F, i, none⟩)] 68)).alloc (.cells #[.int .u64 most] 55)).alloc o) ∧
    Below w.heap.size w (((w.alloc (.cells #[.pointer (some ⟨F, i, none⟩)] 68)).alloc (.cells #[.int .u64 most] 55)).alloc o) := by
  have hp : _ = some (Value.pointer (some ⟨F, i, none⟩)) := cell_of_row _ _ 0 _ _ _ (heap_alloc2_old w (.cells #[.pointer (some ⟨F, i, none⟩)] 68) (.cells #[.int .u64 most] 55))
  have hm : _ = some (Value.int .u64 most) := cell_of_row _ _ 0 _ _ _ (heap_alloc2_new w (.cells #[.pointer (some ⟨F, i, none⟩)] 68) (.cells #[.int .u64 most] 55))
  have hb2 := below_two w (.cells #[.pointer (some ⟨F, i, none⟩)] 68) (.cells #[.int .u64 most] 55)
  generalize (w.alloc (.cells #[.pointer (some ⟨F, i, none⟩)] 68)).alloc (.cells #[.int .u64 most] 55) = W at *
  have hb := (Below.refl W.heap.size W).alloc (Nat.le_refl _) o
  exact ⟨⟨Nat.le_refl _, Nat.le_succ _, cb hb hp, cb hb hm⟩, hb2.trans (hb.mono hb2.size)⟩
set_option maxRecDepth 100000 in
set_option maxHeartbeats 2000000 in
theorem number_any (F i most : Nat) (w : World) :
    Calls Try.prog 29 #[.pointer (some ⟨F, i, none⟩), .int .u64 most] w fun e w' => ∃ p m, e = .returned (.agg #[numPutV p, numReadV m p]) ∧ NumAt w.heap.size p m F i most w' ∧ Below w.heap.size w w' := by
  have hmf : ∀ (fn : Fn) (first cap : Array Value) (w : World), (Instr.makeFunc fn first cap).run Try.prog w = .ok (.func fn first cap) w := fun _ _ _ _ => rfl
  go_enter Try.func29, Try.ntmps29
  go_wp2
  have hfin := number_new F i most w (.cells #[numPutV w.heap.size, numReadV (w.heap.size + 1) w.heap.size] 50)
  have hr := heap_alloc_new ((w.alloc (.cells #[.pointer (some ⟨F, i, none⟩)] 68)).alloc (.cells #[.int .u64 most] 55)) (.cells #[numPutV w.heap.size, numReadV (w.heap.size + 1) w.heap.size] 50)
  rw [show ((w.alloc (.cells #[.pointer (some ⟨F, i, none⟩)] 68)).alloc (.cells #[.int .u64 most] 55)).heap.size = w.heap.size + 1 + 1 by simp] at hr
  exact bodyPost_ret (v := .agg #[numPutV w.heap.size, numReadV (w.heap.size + 1) w.heap.size]) (results_cell_row rfl _ _ (w.heap.size + 1 + 1) 50 _ (0, 0) _ rfl hr Try.underlying50 rfl info_field) rfl ⟨_, _, rfl, hfin⟩
theorem row_new (F i : Nat) (w : World) (o : Obj) : RowAt w.heap.size w.heap.size F i ((w.alloc (.cells #[.pointer (some ⟨F, i, none⟩)] 70)).alloc o) ∧
    Below w.heap.size w ((w.alloc (.cells #[.pointer (some ⟨F, i, none⟩)] 70)).alloc o) :=
  ⟨⟨Nat.le_refl _, cell_of_row _ _ 0 _ _ _ (heap_alloc2_old w (.cells #[.pointer (some ⟨F, i, none⟩)] 70) o)⟩, below_two w _ _⟩
set_option maxRecDepth 100000 in
set_option maxHeartbeats 2000000 in
theorem row_any (F i : Nat) (w : World) :
    Calls Try.prog 30 #[.pointer (some ⟨F, i, none⟩)] w fun e w' => ∃ p, e = .returned (.agg #[rowPutV p, rowReadV p]) ∧ RowAt w.heap.size p F i w' ∧ Below w.heap.size w w' := by
  have hmf : ∀ (fn : Fn) (first cap : Array Value) (w : World), (Instr.makeFunc fn first cap).run Try.prog w = .ok (.func fn first cap) w := fun _ _ _ _ => rfl
  go_enter Try.func30, Try.ntmps30
  go_wp2
  have hfin := row_new F i w (.cells #[rowPutV w.heap.size, rowReadV w.heap.size] 50)
  exact bodyPost_ret (v := .agg #[rowPutV w.heap.size, rowReadV w.heap.size]) (results_cell_row rfl _ _ (w.heap.size + 1) 50 _ (0, 0) _ rfl (heap_alloc2_new _ _ _) Try.underlying50 rfl info_field) rfl ⟨_, rfl, hfin⟩
set_option maxRecDepth 100000 in
set_option maxHeartbeats 2000000 in
/-- A number's field put. -/
theorem numPut_any (p F i n : Nat) (hn : n ≤ 1099511627776) (w : World) (hp : w.cell? ⟨p, 0, none⟩ = some (.pointer (some ⟨F, i, none⟩))) (hc : w.cell? ⟨F, i, none⟩ = some (.int .i64 n)) :
    Calls Try.prog 36 #[.pointer (some ⟨p, 0, none⟩)] w fun e w' => e = .returned (.string ⟨(Lib.uvarint n).toArray⟩) ∧ Below w.heap.size w w' := by
  have hP := put_any n (by omega) w
  have hw : IntKind.u64.wrap (n : Int) = (n : Int) := by simp only [IntKind.wrap_u64]; omega
  go_enter Try.func36, Try.ntmps36
  go_wp2_with (go_at_call 37; refine hP.mono ?_; clear hP; rintro e w1 ⟨rfl, hb⟩)
  go_ret
  exact ⟨rfl, hb⟩
set_option maxRecDepth 100000 in
set_option maxHeartbeats 2000000 in
/-- A row's field put. -/
theorem rowPut_any (p F i : Nat) (b : ByteArray) (hb : b.size ≤ 1048576) (w : World) (hp : w.cell? ⟨p, 0, none⟩ = some (.pointer (some ⟨F, i, none⟩))) (hc : w.cell? ⟨F, i, none⟩ = some (.string b)) :
    Calls Try.prog 40 #[.pointer (some ⟨p, 0, none⟩)] w fun e w' => e = .returned (.string ⟨(rowL b.data.toList).toArray⟩) ∧ Below w.heap.size w w' := by
  have hP := putText_any b (by omega) w
  go_enter Try.func40, Try.ntmps40
  go_wp2_with (go_at_call 41; refine hP.mono ?_; clear hP; rintro e w1 ⟨rfl, hb⟩)
  go_ret
  exact ⟨rfl, hb⟩
end Go.Proofs.Ytckknopjhmpnhaa
