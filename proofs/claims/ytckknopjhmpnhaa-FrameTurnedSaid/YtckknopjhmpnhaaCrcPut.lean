/- Put: the program's and the document's. -/
import Derived.Test.YtckknopjhmpnhaaCrcTable
import Derived.Laws.BytesArg
import Derived.Laws.IdiomStrings
import Derived.Lib.UnsafeStr
namespace Go.Proofs.Ytckknopjhmpnhaa
open Go.RowKit

/-- The byte of a number at a place. -/
def byteAt (n i : Nat) : Nat := n / 2 ^ (8 * i) % 256
/-- The four bytes of a sum. -/
def putL (n : Nat) : List UInt8 := [(n % 256).toUInt8, (n / 256 % 256).toUInt8, (n / 65536 % 256).toUInt8, (n / 16777216 % 256).toUInt8]

theorem putL_at (n : Nat) (j : Nat) (hj : j < (putL n).length) : ((putL n)[j].toNat : Int) = (byteAt n j : Nat) := by
  have key : ∀ x : Nat, ((x % 256).toUInt8.toNat : Int) = (x % 256 : Nat) := fun x => by
    have : (x % 256).toUInt8.toNat = x % 256 := by simp [Nat.toUInt8]
    rw [this]
  match j, hj with
  | 0, _ => simp [putL, byteAt]
  | 1, _ => exact key (n / 256)
  | 2, _ => exact key (n / 65536)
  | 3, _ => exact key (n / 16777216)
  | j + 4, hj => exact absurd hj (by simp [putL])
theorem conv_put (W : World) (c : Array Value) (t : TypeId) (n : Nat) (hc : ∀ j, j < 4 → c[j]? = some (.int .u8 (byteAt n j : Nat))) :
    (convert 42 9 (.slice (some ⟨W.heap.size, 0, none⟩) 4 4)).run Try.prog (W.alloc (.cells c t)) = .ok (.string ⟨(putL n).toArray⟩) (W.alloc (.cells c t)) := by
  refine run_convert_bytes_back _ 42 9 5 _ _ (putL n) Try.underlying42 Try.underlying5 Try.underlying9 ?_
  intro j hj
  have e : (⟨W.heap.size, 0, none⟩ : Addr).add j = ⟨W.heap.size, j, none⟩ := by simp [Addr.add]; omega
  rw [e, World.cell?_alloc_at _ _ _ _ rfl, hc j (by simpa [putL] using hj), putL_at n j hj]

set_option maxRecDepth 100000 in
set_option maxHeartbeats 2000000 in
theorem crput_any (n : Nat) (hn : n < 4294967296) (w : World) :
    Calls Try.prog 22 #[.int .u32 n] w fun e w' => e = .returned (.string ⟨(putL n).toArray⟩) ∧ Below w.heap.size w w' := by
  have hv := conv_put w #[.int .u8 ((n : Int) % 256), .int .u8 ((n : Int) / 256 % 256), .int .u8 ((n : Int) / 65536 % 256), .int .u8 ((n : Int) / 16777216)] 5 n (fun j hj => by
    match j, hj with
    | 0, _ => simp [byteAt]
    | 1, _ => simp [byteAt]
    | 2, _ => simp [byteAt]
    | 3, _ => simp [byteAt]; omega)
  go_enter Try.func22, Try.ntmps22
  go_wp2
  go_ret
  exact ⟨rfl, (Below.refl _ w).alloc (Nat.le_refl _) _⟩

theorem zero4 : (Try.prog.info? 41).map (fun i => (i.zero, i.size)) = some (some (.agg (Array.replicate 4 (.int .u8 0))), 4) := by kernel_rfl

set_option maxRecDepth 100000 in
set_option maxHeartbeats 2000000 in
theorem cput_any (n : Nat) (w : World) :
    Calls Try.prog 18 #[.int .u32 n] w fun e w' => e = .returned (.string ⟨(putL n).toArray⟩) ∧ Below w.heap.size w w' := by
  obtain ⟨hz, hi⟩ := zero_of_info zero4
  rw [← fillC_zero .u8 (byteAt n) 4] at hz
  go_enter Try.func18, Try.ntmps18
  go_wp2
  clear hz
  go_loopw [5] (fun i wr => ∃ k : Nat, k ≤ 4 ∧ i = .int .i64 k ∧ wr = w.alloc (.cells (fillC .u8 (byteAt n) 4 k) 41)) (fun i _ => 4 - (intOf i).toNat)
  case atStart => exact ⟨0, by omega, rfl, rfl⟩
  case round =>
    rename_i wr
    obtain ⟨k, hk, rfl, rfl⟩ := hrel
    by_cases hlt : k < 4
    · have hnx := Lib.hid (fillC_next .u8 (byteAt n) 4 k)
      have hat := fillC_at .u8 (byteAt n) 4 k k hlt
      go_wp2
      go_roundw
      case rel => exact ⟨k + 1, by omega, by go_num, by rw [← hnx.out]; simp [byteAt]⟩
      case measure => simp [intOf]; omega
    · obtain rfl : k = 4 := by omega
      have hv := conv_put w (fillC .u8 (byteAt n) 4 4) 41 n (fun j hj => by rw [fillC_at _ _ _ _ j hj, if_pos hj])
      go_wp2
      go_ret
      exact ⟨rfl, (Below.refl _ w).alloc (Nat.le_refl _) _⟩
end Go.Proofs.Ytckknopjhmpnhaa
