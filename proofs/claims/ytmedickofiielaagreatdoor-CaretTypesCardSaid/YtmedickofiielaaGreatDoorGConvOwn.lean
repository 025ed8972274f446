/- Texts of this proof, joined. -/
import Derived.Test.YtmedickofiielaaGreatDoorRows
import Derived.WalkKit
import Derived.WalkSpells
import Derived.WalkLawsBesides
import Derived.Lib.Hide
import Derived.Laws.IdiomStrings
import Derived.Lib.Strings
import Derived.Laws.BytesArg
import Derived.Lib.UnsafeStr
import Derived.Maps.AppendAt
import Derived.Test.YtmedickofiielaaGreatDoorGPlain
import Derived.Test.YtmedickofiielaaGreatDoorGReads64
import Derived.RangeFuncBox
import Derived.Laws.Cover4
import Derived.Lib.RuneBytes
namespace Go.Proofs.YtmedickofiielaaGreatDoor
open Go.RowKit

end Go.Proofs.YtmedickofiielaaGreatDoor

namespace Go.Proofs.YtmedickofiielaaGreatDoor
open Go.RowKit

end Go.Proofs.YtmedickofiielaaGreatDoor

namespace Go.Proofs.YtmedickofiielaaGreatDoor
open Go.RowKit

def allValid (l : List Int) : Bool := l.all Lib.validRune
theorem allValid_iff {l : List Int} : allValid l = true ↔ ∀ r ∈ l, Lib.validRune r = true := by simp [allValid]

theorem joinL_length_le (l : List Int) : (joinL l).length ≤ 4 * l.length := by
 induction l with
 | nil => simp [joinL_nil]
 | cons r l ih =>
  rw [joinL_cons, List.length_append, List.length_cons]
  have := encode_le r
  omega
theorem joinL_take (l : List Int) (k : Nat) (h : k < l.length) : joinL (l.take (k + 1)) = joinL (l.take k) ++ Lib.encodeRune (l.getD k 0) := by
 rw [List.take_succ_eq_append_getElem h, joinL_append]
 simp [joinL, h]

def RJoinPost (w : World) (xs : List Int) (e : Ending) (w' : World) : Prop :=
 e = .returned (if allValid xs then .tuple #[.string ⟨(joinL xs).toArray⟩, .bool true] else .tuple #[.string ⟨#[]⟩, .bool false]) ∧ Below w.heap.size w w'
theorem RJoinPost.yes {w w' : World} {xs : List Int} (h : allValid xs = true) (hb : Below w.heap.size w w') : RJoinPost w xs (.returned (.tuple #[.string ⟨(joinL xs).toArray⟩, .bool true])) w' := ⟨by rw [if_pos h], hb⟩
theorem RJoinPost.no {w w' : World} {xs : List Int} (h : ¬ allValid xs = true) (hb : Below w.heap.size w w') : RJoinPost w xs (.returned (.tuple #[.string ⟨#[]⟩, .bool false])) w' := ⟨by rw [if_neg h], hb⟩

end Go.Proofs.YtmedickofiielaaGreatDoor

namespace Go.Proofs.YtmedickofiielaaGreatDoor
open Go.RowKit

theorem decode_place (s : ByteArray) (pos : Nat) : Utf8.decode s pos = Lib.decodeL (s.data.toList.drop pos) := by
 have g : ∀ i, s.get! i = s.data.toList.getD i 0 := fun i => get!_list s.data.toList i
 rw [Lib.decode_at, decodeL_eq, g, g, g, g, List.length_drop, ← Lib.size_eq]
 simp
theorem runesFrom_list (s : ByteArray) : ∀ (bound pos : Nat) (acc : Array Value) (rest : List Int), runesL (s.data.toList.drop pos) = some rest → s.size - pos ≤ bound → Conv.runesFrom s bound pos acc = acc ++ (rest.map (Value.int .i32)).toArray
 | 0, pos, acc, rest, h, hb => by
  have hd : s.data.toList.drop pos = [] := by
   rw [List.drop_eq_nil_iff, ← Lib.size_eq]
   omega
  rw [hd, runesL_nil] at h
  obtain rfl : [] = rest := by simpa using h
  simp [Conv.runesFrom]
 | bound + 1, pos, acc, rest, h, hb => by
  unfold Conv.runesFrom
  by_cases hp : pos < s.size
  ·rw [if_pos hp]
   have hne : s.data.toList.drop pos ≠ [] := by
    intro e
    have h1 := congrArg List.length e
    have h2 := Lib.size_eq s
    rw [List.length_drop, List.length_nil] at h1
    omega
   have hbad : badL (s.data.toList.drop pos) = false := by
    cases hb' : badL (s.data.toList.drop pos) with
    | false => rfl
    | true => rw [runesL_bad _ hne hb'] at h; cases h
   obtain ⟨_, hK1, _, _⟩ := decodeL_bound _ hne hbad
   rw [runesL_step _ hne hbad, List.drop_drop] at h
   rw [decode_place]
   generalize (Lib.decodeL (s.data.toList.drop pos)) = RK at *
   obtain ⟨R, K⟩ := RK
   dsimp only at h hK1 ⊢
   cases hr2 : runesL (s.data.toList.drop (pos + K)) with
   | none => rw [hr2] at h; cases h
   | some r2 =>
    rw [hr2] at h
    obtain rfl : (R : Int) :: r2 = rest := by simpa using h
    rw [runesFrom_list s bound (pos + K) _ r2 hr2 (by omega)]
    apply Array.ext'
    simp
  ·rw [if_neg hp]
   have hd : s.data.toList.drop pos = [] := by
    rw [List.drop_eq_nil_iff, ← Lib.size_eq]
    omega
   rw [hd, runesL_nil] at h
   obtain rfl : [] = rest := by simpa using h
   simp
theorem runesFrom_join {xs : List Int} (h : allValid xs = true) : Conv.runesFrom ⟨(joinL xs).toArray⟩ (⟨(joinL xs).toArray⟩ : ByteArray).size 0 #[] = (xs.map (Value.int .i32)).toArray := by
 rw [runesFrom_list _ _ 0 #[] xs (by rw [List.drop_zero]; exact runesL_split (allValid_iff.1 h)) (Nat.sub_le _ _)]
 simp
theorem encode_bytes {r : Int} (h : Lib.validRune r = true) : (Utf8.encode r).data.toList = Lib.encodeRune r := by
 unfold Lib.validRune at h
 have h := of_decide_eq_true h
 obtain ⟨c, rfl⟩ : ∃ c : Nat, r = c := ⟨r.toNat, by omega⟩
 have hv : Utf8.valid (c : Int) = true := by
  unfold Utf8.valid
  simp only [Bool.or_eq_true, Bool.and_eq_true, decide_eq_true_eq]
  omega
 unfold Utf8.encode
 simp only [hv, if_true, Int.toNat_natCast]
 unfold Lib.encodeRune
 by_cases c1 : c < 128
 ·rw [if_pos c1, Lib.encodeRuneZ_one (by omega) (by omega)]
  rfl
 ·rw [if_neg c1]
  by_cases c2 : c < 2048
  ·rw [if_pos c2, Lib.encodeRuneZ_two (by omega) (by omega)]
   show [UInt8.ofNat (192 + c / 64), UInt8.ofNat (128 + c % 64)] = [UInt8.ofNat (192 + (c : Int) / 64).toNat, UInt8.ofNat (128 + (c : Int) % 64).toNat]
   rw [show (192 + (c : Int) / 64).toNat = 192 + c / 64 by omega, show (128 + (c : Int) % 64).toNat = 128 + c % 64 by omega]
  ·rw [if_neg c2]
   by_cases c3 : c < 65536
   ·rw [if_pos c3, Lib.encodeRuneZ_three (by omega)]
    show [UInt8.ofNat (224 + c / 4096), UInt8.ofNat (128 + c / 64 % 64), UInt8.ofNat (128 + c % 64)] = [UInt8.ofNat (224 + (c : Int) / 4096).toNat, UInt8.ofNat (128 + (c : Int) / 64 % 64).toNat, UInt8.ofNat (128 + (c : Int) % 64).toNat]
    rw [show (224 + (c : Int) / 4096).toNat = 224 + c / 4096 by omega, show (128 + (c : Int) / 64 % 64).toNat = 128 + c / 64 % 64 by omega, show (128 + (c : Int) % 64).toNat = 128 + c % 64 by omega]
   ·rw [if_neg c3, Lib.encodeRuneZ_four (by omega) (by omega)]
    show [UInt8.ofNat (240 + c / 262144), UInt8.ofNat (128 + c / 4096 % 64), UInt8.ofNat (128 + c / 64 % 64), UInt8.ofNat (128 + c % 64)] = [UInt8.ofNat (240 + (c : Int) / 262144).toNat, UInt8.ofNat (128 + (c : Int) / 4096 % 64).toNat, UInt8.ofNat (128 + (c : Int) / 64 % 64).toNat, UInt8.ofNat (128 + (c : Int) % 64).toNat]
    rw [show (240 + (c : Int) / 262144).toNat = 240 + c / 262144 by omega, show (128 + (c : Int) / 4096 % 64).toNat = 128 + c / 4096 % 64 by omega, show (128 + (c : Int) / 64 % 64).toNat = 128 + c / 64 % 64 by omega, show (128 + (c : Int) % 64).toNat = 128 + c % 64 by omega]
theorem runesBytes_list : ∀ (xs : List Int) (a : ByteArray), (∀ r ∈ xs, Lib.validRune r = true) → (xs.foldl (fun r n => r ++ Utf8.encode n) a).data.toList = a.data.toList ++ joinL xs
 | [], a, _ => by simp [joinL_nil]
 | r :: xs, a, h => by
  rw [List.foldl_cons, runesBytes_list xs _ (fun q hq => h q (List.mem_cons_of_mem _ hq)), joinL_cons, ← encode_bytes (h r (List.mem_cons_self ..)), ← List.append_assoc]
  simp
theorem runesBytes_join {xs : List Int} (h : allValid xs = true) : runesBytes xs = ⟨(joinL xs).toArray⟩ := by
 have e := runesBytes_list xs ByteArray.empty (allValid_iff.1 h)
 unfold runesBytes
 apply ByteArray.ext
 apply Array.ext'
 rw [e]
 simp
end Go.Proofs.YtmedickofiielaaGreatDoor
