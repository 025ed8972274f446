/- Insert and Delete at whatever arguments; New. -/
import Derived.Test.YtpldalmodcmfaaaDoorBufInsert2
import Derived.Test.YtpldalmodcmfaaaDoorBufDelete
namespace Go.Proofs.YtpldalmodcmfaaaDoor
open Go.RowKit Go.WideShapes

theorem binsert_any {S : Nat → Prop} {N B : Nat} {zs ys : List Int} {w : World} (h : Bf S N 0 B zs ys w) (a : Int) (s : ByteArray) (hs : s.size ≤ 1000000) (hT : Lib.Utf8Tabs 0 1 w) :
    Calls Tryd.prog 26 #[.pointer (some ⟨B, 0, none⟩), .int .i64 a, .string s] w (InsPost S N B (insX (zs ++ ys) a (runesL s.data.toList)) w) := by
  have hsm : s.size ≤ maxLen := by unfold maxLen; omega
  have el : (zs ++ ys).length = zs.length + ys.length := List.length_append
  cases hr : runesL s.data.toList with
  | none => exact binsert_text h a s hsm hT hr
  | some l =>
    by_cases ha : 0 ≤ a ∧ a ≤ (zs.length + ys.length : Nat)
    · obtain ⟨k, rfl⟩ : ∃ k : Nat, a = k := ⟨a.toNat, by omega⟩
      by_cases hf : zs.length + ys.length + l.length ≤ 20000
      · rw [show insX (zs ++ ys) k (some l) = ((zs ++ ys).take k ++ (l ++ (zs ++ ys).drop k), 0) by
          unfold insX
          simp only [el]
          rw [if_pos ha, if_pos hf, Int.toNat_natCast]]
        exact binsert_ok h k s hs hT l hr (by omega) hf
      · rw [show insX (zs ++ ys) k (some l) = (zs ++ ys, 4) by
          unfold insX
          simp only [el]
          rw [if_pos ha, if_neg hf]]
        exact binsert_full h k s hsm hT l hr ha (by omega)
    · rw [show insX (zs ++ ys) a (some l) = (zs ++ ys, 3) by
        unfold insX
        simp only [el]
        rw [if_neg ha]]
      exact binsert_range h a s hsm hT l hr ha

/-- What Delete makes of the runes, and its answer. -/
def delX (xs : List Int) (a n : Int) : List Int × Int := if hasB xs.length a n then (xs.take a.toNat ++ xs.drop (a.toNat + n.toNat), 0) else (xs, 3)
theorem bdelete_any {S : Nat → Prop} {N B : Nat} {zs ys : List Int} {w : World} (h : Bf S N 0 B zs ys w) (a n : Int) :
    Calls Tryd.prog 29 #[.pointer (some ⟨B, 0, none⟩), .int .i64 a, .int .i64 n] w (InsPost S N B (delX (zs ++ ys) a n) w) := by
  have el : (zs ++ ys).length = zs.length + ys.length := List.length_append
  unfold delX
  rw [el]
  cases hb : hasB (zs.length + ys.length) a n with
  | false => exact bdelete_no h a n hb
  | true =>
    have hq := of_decide_eq_true hb
    obtain ⟨k, rfl⟩ : ∃ k : Nat, a = k := ⟨a.toNat, by omega⟩
    obtain ⟨m, rfl⟩ : ∃ m : Nat, n = m := ⟨n.toNat, by omega⟩
    rw [if_pos rfl, Int.toNat_natCast, Int.toNat_natCast]
    exact bdelete_ok h k m (by omega)

theorem Keep.zero {N : Nat} {w w' : World} (h : Keep (fun _ => False) N w w') : Below N w w' := ⟨h.os, h.tape, h.output, h.size, fun k hk => h.block k hk id⟩
/-- A fresh buffer's box. -/
theorem fresh_bf (w : World) : Bf (fun _ => False) w.heap.size 0 w.heap.size [] [] (w.alloc (.cells #[.slice none 0 0, .int .i64 0, .int .i64 0, .slice none 0 0, .slice none 0 0] 73)) :=
  ⟨.slice none 0 0, [], ⟨.slice none 0 0, .slice none 0 0, heap_alloc_new w _, Ints.nil _ _ _, Ints.nil _ _ _, Mine.nil _ _, Mine.nil _ _, by simp, .inr (Nat.le_refl _)⟩, Ints.nil _ _ _, Mine.nil _ _, by simp, Nat.le_refl _⟩

/-- What New tells. -/
def NewPost (x : List Int × Int) (w : World) (e : Ending) (w' : World) : Prop :=
  Below w.heap.size w w' ∧ ((x.2 = 0 ∧ e = .returned (.tuple #[.pointer (some ⟨w.heap.size, 0, none⟩), .int .i64 0]) ∧ ∃ zs ys, zs ++ ys = x.1 ∧ Bf (fun _ => False) w.heap.size 0 w.heap.size zs ys w') ∨
    (x.2 ≠ 0 ∧ e = .returned (.tuple #[.pointer none, .int .i64 x.2])))
set_option maxRecDepth 100000 in
set_option maxHeartbeats 2000000 in
theorem new_any (s : ByteArray) (hs : s.size ≤ 1000000) (w : World) (hT : Lib.Utf8Tabs 0 1 w) :
    Calls Tryd.prog 10 #[.string s] w (NewPost (insX [] 0 (runesL s.data.toList)) w) := by
  have hI := binsert_any (fresh_bf w) 0 s hs (Utf8Tabs_below hT ((Below.refl _ w).alloc (Nat.le_refl _) _))
  simp only [List.append_nil] at hI
  obtain ⟨x, hx⟩ : ∃ x, insX [] 0 (runesL s.data.toList) = x := ⟨_, rfl⟩
  rw [hx] at hI ⊢
  obtain ⟨xs, c⟩ := x
  have ha : Below w.heap.size w (w.alloc (.cells #[.slice none 0 0, .int .i64 0, .int .i64 0, .slice none 0 0, .slice none 0 0] 73)) := (Below.refl _ w).alloc (Nat.le_refl _) _
  have Ha := Lib.hid ha
  clear hx hT ha
  by_cases hc : c = 0
  · subst hc
    go_enter Tryd.func10, Tryd.ntmps10
    go_wp2_with (go_at_call 26; refine hI.mono ?_; clear hI; rintro e w1 ⟨rfl, zs', ys', hz, hB, hK⟩; have Hz := Lib.hid hz; have HB := Lib.hid hB; have HK := Lib.hid hK; clear hz hB hK)
    go_ret2
    exact ⟨Ha.out.trans HK.out.zero, .inl ⟨rfl, rfl, zs', ys', Hz.out, HB.out⟩⟩
  · have hq : (c != 0) = true := by rw [bne, beq_eq_false_iff_ne.2 hc]; rfl
    have hq2 : (c == 0) = false := beq_eq_false_iff_ne.2 hc
    have Hc := Lib.hid hc
    clear hc
    go_enter Tryd.func10, Tryd.ntmps10
    go_wp2_with (go_at_call 26; refine hI.mono ?_; clear hI; rintro e w1 ⟨rfl, zs', ys', hz, hB, hK⟩; have HK := Lib.hid hK; clear hz hB hK)
    go_ret2
    exact ⟨Ha.out.trans HK.out.zero, .inr ⟨Hc.out, rfl⟩⟩
end Go.Proofs.YtpldalmodcmfaaaDoor
