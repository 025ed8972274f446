/- Texts of this proof, joined. -/
import Derived.Test.YthekkjfaaedamaaGreatDoorOpsPutP
import Derived.Test.YthekkjfaaedamaaGreatDoorGOpsMayQ
import Derived.Test.YthekkjfaaedamaaGreatDoorGSpansPlain
import Derived.Test.YthekkjfaaedamaaGreatDoorRefOpsPut1
namespace Go.Proofs.YthekkjfaaedamaaGreatDoor
open Go.RowKit

set_option maxRecDepth 100000 in
set_option maxHeartbeats 8000000 in
theorem mayE_noplace (s q c k a l : Int) (t : ByteArray) (w : World) (hs : ¬ (0 ≤ a ∧ a ≤ 20000)) :
  Calls Tryz.prog 61 #[.agg #[.int .i64 s, .int .i64 q, .int .i64 c, .int .i64 k, .int .i64 a, .int .i64 l, .string t]] w fun e w' => e = .returned (.bool false) ∧ Below w.heap.size w w' := by
 have hp : ∀ W, Calls Tryz.prog 80 #[.int .i64 a] W fun e w' => e = .returned (.bool false) ∧ Below W.heap.size W w' := fun W => (isPlace_any a W).mono fun _ _ ⟨h1, h2⟩ => ⟨by rw [h1]; rw [decide_eq_false hs], by rw [h2]; exact Below.refl _ _⟩
 have hB := EBox.new s q c k a l t w 47
 clear hs
 go_enter Tryz.func61, Tryz.ntmps61
 go_wp2_with fail
 refine wp_region_held_drew (S := fun W => EBox w.heap.size s q c k a l t w W) (by kernel_rfl) (hB.keep (Below.refl _ _).drew) (fun hHeld => ?_)
 clear hB
 refine tk (i := 0) (v := .pointer (some ⟨w.heap.size, 4, none⟩)) rfl (Or.inl ⟨rfl, fun W hS => by go_simp⟩) ?_
 refine tk (i := 1) (v := .int .i64 a) rfl (Or.inl ⟨rfl, fun W hS => ?_⟩) ?_
 ·obtain ⟨c0, c1, c2, c3, c4, c5, c6, -⟩ := hS
  go_simp
 simp only [Act.put, List.getElem_toArray, List.getElem_cons_succ, List.getElem_cons_zero, List.setIfInBounds_toArray, List.set_cons_zero, List.set_cons_succ]
 refine wpAnyH_ready (rs := [2]) (by kernel_rfl) (by simp) (AllReadyH.cons rfl (fun K hK => ?_) AllReadyH.nil)
 go_simp
 go_wp2_with (go_at_call 80; refine (hp _).mono ?_; rintro e wq ⟨rfl, hb⟩)
 refine hK.out _ _ (hHeld.keep hb) (fun hX => ?_)
 clear hK K hHeld
 have hHeld := hX
 clear hX
 refine tk (i := 3) (v := .bool false) rfl (Or.inl ⟨rfl, fun W hS => by go_simp⟩) ?_
 simp only [Act.put, List.getElem_toArray, List.getElem_cons_succ, List.getElem_cons_zero, List.setIfInBounds_toArray, List.set_cons_zero, List.set_cons_succ]
 refine tk (i := 4) (v := undef) rfl (Or.inr ⟨rfl, rfl⟩) ?_
 simp only [Act.put, List.getElem_toArray, List.getElem_cons_succ, List.getElem_cons_zero, List.setIfInBounds_toArray, List.set_cons_zero, List.set_cons_succ]
 refine tk (i := 5) (v := undef) rfl (Or.inr ⟨rfl, rfl⟩) ?_
 simp only [Act.put, List.getElem_toArray, List.getElem_cons_succ, List.getElem_cons_zero, List.setIfInBounds_toArray, List.set_cons_zero, List.set_cons_succ]
 refine tk (i := 6) (v := undef) rfl (Or.inr ⟨rfl, rfl⟩) ?_
 simp only [Act.put, List.getElem_toArray, List.getElem_cons_succ, List.getElem_cons_zero, List.setIfInBounds_toArray, List.set_cons_zero, List.set_cons_succ]
 refine tk (i := 7) (v := undef) rfl (Or.inr ⟨rfl, rfl⟩) ?_
 simp only [Act.put, List.getElem_toArray, List.getElem_cons_succ, List.getElem_cons_zero, List.setIfInBounds_toArray, List.set_cons_zero, List.set_cons_succ]
 refine tk (i := 8) (v := undef) rfl (Or.inr ⟨rfl, rfl⟩) ?_
 simp only [Act.put, List.getElem_toArray, List.getElem_cons_succ, List.getElem_cons_zero, List.setIfInBounds_toArray, List.set_cons_zero, List.set_cons_succ]
 refine tk (i := 9) (v := .bool false) rfl (Or.inl ⟨rfl, fun W hS => by go_simp⟩) ?_
 simp only [Act.put, List.getElem_toArray, List.getElem_cons_succ, List.getElem_cons_zero, List.setIfInBounds_toArray, List.set_cons_zero, List.set_cons_succ]
 refine tk (i := 10) (v := .bool false) rfl (Or.inl ⟨rfl, fun W hS => by go_simp⟩) ?_
 simp only [Act.put, List.getElem_toArray, List.getElem_cons_succ, List.getElem_cons_zero, List.setIfInBounds_toArray, List.set_cons_zero, List.set_cons_succ]
 refine tk (i := 11) (v := undef) rfl (Or.inr ⟨rfl, rfl⟩) ?_
 simp only [Act.put, List.getElem_toArray, List.getElem_cons_succ, List.getElem_cons_zero, List.setIfInBounds_toArray, List.set_cons_zero, List.set_cons_succ]
 refine tk (i := 12) (v := undef) rfl (Or.inr ⟨rfl, rfl⟩) ?_
 simp only [Act.put, List.getElem_toArray, List.getElem_cons_succ, List.getElem_cons_zero, List.setIfInBounds_toArray, List.set_cons_zero, List.set_cons_succ]
 refine tk (i := 13) (v := undef) rfl (Or.inr ⟨rfl, rfl⟩) ?_
 simp only [Act.put, List.getElem_toArray, List.getElem_cons_succ, List.getElem_cons_zero, List.setIfInBounds_toArray, List.set_cons_zero, List.set_cons_succ]
 refine tk (i := 14) (v := undef) rfl (Or.inr ⟨rfl, rfl⟩) ?_
 simp only [Act.put, List.getElem_toArray, List.getElem_cons_succ, List.getElem_cons_zero, List.setIfInBounds_toArray, List.set_cons_zero, List.set_cons_succ]
 refine tk (i := 15) (v := undef) rfl (Or.inr ⟨rfl, rfl⟩) ?_
 simp only [Act.put, List.getElem_toArray, List.getElem_cons_succ, List.getElem_cons_zero, List.setIfInBounds_toArray, List.set_cons_zero, List.set_cons_succ]
 refine tk (i := 16) (v := .bool false) rfl (Or.inl ⟨rfl, fun W hS => by go_simp⟩) ?_
 simp only [Act.put, List.getElem_toArray, List.getElem_cons_succ, List.getElem_cons_zero, List.setIfInBounds_toArray, List.set_cons_zero, List.set_cons_succ]
 refine tk (i := 17) (v := .bool false) rfl (Or.inl ⟨rfl, fun W hS => by go_simp⟩) ?_
 simp only [Act.put, List.getElem_toArray, List.getElem_cons_succ, List.getElem_cons_zero, List.setIfInBounds_toArray, List.set_cons_zero, List.set_cons_succ]
 refine wpAnyH_done (by kernel_rfl) ?_ _
 have hz := hHeld.2.2.2.2.2.2.2
 go_wp2
 go_ret
 exact ⟨rfl, hz⟩
set_option maxRecDepth 100000 in
set_option maxHeartbeats 8000000 in
theorem mayE_nohead (s q c k a l : Int) (t : ByteArray) (w : World) (hs : 0 ≤ a ∧ a ≤ 20000) (hhd : (nMay s q && decide (0 ≤ c ∧ c ≤ 1099511627776)) = false) :
  Calls Tryz.prog 61 #[.agg #[.int .i64 s, .int .i64 q, .int .i64 c, .int .i64 k, .int .i64 a, .int .i64 l, .string t]] w fun e w' => e = .returned (.bool false) ∧ Below w.heap.size w w' := by
 have hp : ∀ W, Calls Tryz.prog 80 #[.int .i64 a] W fun e w' => e = .returned (.bool true) ∧ Below W.heap.size W w' := fun W => (isPlace_any a W).mono fun _ _ ⟨h1, h2⟩ => ⟨by rw [h1]; rw [decide_eq_true hs], by rw [h2]; exact Below.refl _ _⟩
 have hh : ∀ W, Calls Tryz.prog 81 #[.agg #[.int .i64 s, .int .i64 q], .int .i64 c] W fun e w' => e = .returned (.bool false) ∧ Below W.heap.size W w' := fun W => (mayHead_any s q c W).mono fun _ _ ⟨h1, h2⟩ => ⟨by rw [h1, hhd], h2⟩
 have hB := EBox.new s q c k a l t w 47
 clear hs hhd
 go_enter Tryz.func61, Tryz.ntmps61
 go_wp2_with fail
 refine wp_region_held_drew (S := fun W => EBox w.heap.size s q c k a l t w W) (by kernel_rfl) (hB.keep (Below.refl _ _).drew) (fun hHeld => ?_)
 clear hB
 refine tk (i := 0) (v := .pointer (some ⟨w.heap.size, 4, none⟩)) rfl (Or.inl ⟨rfl, fun W hS => by go_simp⟩) ?_
 refine tk (i := 1) (v := .int .i64 a) rfl (Or.inl ⟨rfl, fun W hS => ?_⟩) ?_
 ·obtain ⟨c0, c1, c2, c3, c4, c5, c6, -⟩ := hS
  go_simp
 simp only [Act.put, List.getElem_toArray, List.getElem_cons_succ, List.getElem_cons_zero, List.setIfInBounds_toArray, List.set_cons_zero, List.set_cons_succ]
 refine wpAnyH_ready (rs := [2]) (by kernel_rfl) (by simp) (AllReadyH.cons rfl (fun K hK => ?_) AllReadyH.nil)
 go_simp
 go_wp2_with (go_at_call 80; refine (hp _).mono ?_; rintro e wq ⟨rfl, hb⟩)
 refine hK.out _ _ (hHeld.keep hb) (fun hX => ?_)
 clear hK K hHeld
 have hHeld := hX
 clear hX
 refine tk (i := 3) (v := .bool true) rfl (Or.inl ⟨rfl, fun W hS => by go_simp⟩) ?_
 simp only [Act.put, List.getElem_toArray, List.getElem_cons_succ, List.getElem_cons_zero, List.setIfInBounds_toArray, List.set_cons_zero, List.set_cons_succ]
 refine tk (i := 4) (v := .pointer (some ⟨w.heap.size, 0, none⟩)) rfl (Or.inl ⟨rfl, fun W hS => by go_simp⟩) ?_
 simp only [Act.put, List.getElem_toArray, List.getElem_cons_succ, List.getElem_cons_zero, List.setIfInBounds_toArray, List.set_cons_zero, List.set_cons_succ]
 refine tk (i := 5) (v := .agg #[.int .i64 s, .int .i64 q]) rfl (Or.inl ⟨rfl, fun W hS => ?_⟩) ?_
 ·obtain ⟨c0, c1, c2, c3, c4, c5, c6, -⟩ := hS
  go_simp
 simp only [Act.put, List.getElem_toArray, List.getElem_cons_succ, List.getElem_cons_zero, List.setIfInBounds_toArray, List.set_cons_zero, List.set_cons_succ]
 refine tk (i := 6) (v := .pointer (some ⟨w.heap.size, 2, none⟩)) rfl (Or.inl ⟨rfl, fun W hS => by go_simp⟩) ?_
 simp only [Act.put, List.getElem_toArray, List.getElem_cons_succ, List.getElem_cons_zero, List.setIfInBounds_toArray, List.set_cons_zero, List.set_cons_succ]
 refine tk (i := 7) (v := .int .i64 c) rfl (Or.inl ⟨rfl, fun W hS => ?_⟩) ?_
 ·obtain ⟨c0, c1, c2, c3, c4, c5, c6, -⟩ := hS
  go_simp
 simp only [Act.put, List.getElem_toArray, List.getElem_cons_succ, List.getElem_cons_zero, List.setIfInBounds_toArray, List.set_cons_zero, List.set_cons_succ]
 refine wpAnyH_ready (rs := [8]) (by kernel_rfl) (by simp) (AllReadyH.cons rfl (fun K hK => ?_) AllReadyH.nil)
 go_simp
 go_wp2_with (go_at_call 81; refine (hh _).mono ?_; rintro e wq ⟨rfl, hb⟩)
 refine hK.out _ _ (hHeld.keep hb) (fun hX => ?_)
 clear hK K hHeld
 have hHeld := hX
 clear hX
 refine tk (i := 9) (v := .bool false) rfl (Or.inl ⟨rfl, fun W hS => by go_simp⟩) ?_
 simp only [Act.put, List.getElem_toArray, List.getElem_cons_succ, List.getElem_cons_zero, List.setIfInBounds_toArray, List.set_cons_zero, List.set_cons_succ]
 refine tk (i := 10) (v := .bool false) rfl (Or.inl ⟨rfl, fun W hS => by go_simp⟩) ?_
 simp only [Act.put, List.getElem_toArray, List.getElem_cons_succ, List.getElem_cons_zero, List.setIfInBounds_toArray, List.set_cons_zero, List.set_cons_succ]
 refine tk (i := 11) (v := undef) rfl (Or.inr ⟨rfl, rfl⟩) ?_
 simp only [Act.put, List.getElem_toArray, List.getElem_cons_succ, List.getElem_cons_zero, List.setIfInBounds_toArray, List.set_cons_zero, List.set_cons_succ]
 refine tk (i := 12) (v := undef) rfl (Or.inr ⟨rfl, rfl⟩) ?_
 simp only [Act.put, List.getElem_toArray, List.getElem_cons_succ, List.getElem_cons_zero, List.setIfInBounds_toArray, List.set_cons_zero, List.set_cons_succ]
 refine tk (i := 13) (v := undef) rfl (Or.inr ⟨rfl, rfl⟩) ?_
 simp only [Act.put, List.getElem_toArray, List.getElem_cons_succ, List.getElem_cons_zero, List.setIfInBounds_toArray, List.set_cons_zero, List.set_cons_succ]
 refine tk (i := 14) (v := undef) rfl (Or.inr ⟨rfl, rfl⟩) ?_
 simp only [Act.put, List.getElem_toArray, List.getElem_cons_succ, List.getElem_cons_zero, List.setIfInBounds_toArray, List.set_cons_zero, List.set_cons_succ]
 refine tk (i := 15) (v := undef) rfl (Or.inr ⟨rfl, rfl⟩) ?_
 simp only [Act.put, List.getElem_toArray, List.getElem_cons_succ, List.getElem_cons_zero, List.setIfInBounds_toArray, List.set_cons_zero, List.set_cons_succ]
 refine tk (i := 16) (v := .bool false) rfl (Or.inl ⟨rfl, fun W hS => by go_simp⟩) ?_
 simp only [Act.put, List.getElem_toArray, List.getElem_cons_succ, List.getElem_cons_zero, List.setIfInBounds_toArray, List.set_cons_zero, List.set_cons_succ]
 refine tk (i := 17) (v := .bool false) rfl (Or.inl ⟨rfl, fun W hS => by go_simp⟩) ?_
 simp only [Act.put, List.getElem_toArray, List.getElem_cons_succ, List.getElem_cons_zero, List.setIfInBounds_toArray, List.set_cons_zero, List.set_cons_succ]
 refine wpAnyH_done (by kernel_rfl) ?_ _
 have hz := hHeld.2.2.2.2.2.2.2
 go_wp2
 go_ret
 exact ⟨rfl, hz⟩
set_option maxRecDepth 100000 in
set_option maxHeartbeats 8000000 in
theorem mayE_ins (s q c a l : Int) (t : ByteArray) (r : Bool) (w : World) (hs : 0 ≤ a ∧ a ≤ 20000) (hhd : (nMay s q && decide (0 ≤ c ∧ c ≤ 1099511627776)) = true)
  (hC : ∀ W, Below w.heap.size w W → Calls Tryz.prog 151 #[.agg #[], .agg #[.int .i64 s, .int .i64 q, .int .i64 c, .int .i64 1, .int .i64 a, .int .i64 l, .string t]] W fun e w' => e = .returned (.bool r) ∧ Below W.heap.size W w') :
  Calls Tryz.prog 61 #[.agg #[.int .i64 s, .int .i64 q, .int .i64 c, .int .i64 1, .int .i64 a, .int .i64 l, .string t]] w fun e w' => e = .returned (.bool r) ∧ Below w.heap.size w w' := by
 have hp : ∀ W, Calls Tryz.prog 80 #[.int .i64 a] W fun e w' => e = .returned (.bool true) ∧ Below W.heap.size W w' := fun W => (isPlace_any a W).mono fun _ _ ⟨h1, h2⟩ => ⟨by rw [h1]; rw [decide_eq_true hs], by rw [h2]; exact Below.refl _ _⟩
 have hh : ∀ W, Calls Tryz.prog 81 #[.agg #[.int .i64 s, .int .i64 q], .int .i64 c] W fun e w' => e = .returned (.bool true) ∧ Below W.heap.size W w' := fun W => (mayHead_any s q c W).mono fun _ _ ⟨h1, h2⟩ => ⟨by rw [h1, hhd], h2⟩
 have hk : ∀ W, Calls Tryz.prog 82 #[.int .i64 1] W fun e w' => e = .returned (.iface 161 (.agg #[])) ∧ Below W.heap.size W w' := fun W => (kind_ins W).mono fun _ _ ⟨h1, h2⟩ => ⟨h1, by rw [h2]; exact Below.refl _ _⟩
 have hm := meth_ins_mayE
 have hB := EBox.new s q c 1 a l t w 47
 clear hs hhd
 go_enter Tryz.func61, Tryz.ntmps61
 go_wp2_with fail
 refine wp_region_held_drew (S := fun W => EBox w.heap.size s q c 1 a l t w W) (by kernel_rfl) (hB.keep (Below.refl _ _).drew) (fun hHeld => ?_)
 clear hB
 refine tk (i := 0) (v := .pointer (some ⟨w.heap.size, 4, none⟩)) rfl (Or.inl ⟨rfl, fun W hS => by go_simp⟩) ?_
 refine tk (i := 1) (v := .int .i64 a) rfl (Or.inl ⟨rfl, fun W hS => ?_⟩) ?_
 ·obtain ⟨c0, c1, c2, c3, c4, c5, c6, -⟩ := hS
  go_simp
 simp only [Act.put, List.getElem_toArray, List.getElem_cons_succ, List.getElem_cons_zero, List.setIfInBounds_toArray, List.set_cons_zero, List.set_cons_succ]
 refine wpAnyH_ready (rs := [2]) (by kernel_rfl) (by simp) (AllReadyH.cons rfl (fun K hK => ?_) AllReadyH.nil)
 go_simp
 go_wp2_with (go_at_call 80; refine (hp _).mono ?_; rintro e wq ⟨rfl, hb⟩)
 refine hK.out _ _ (hHeld.keep hb) (fun hX => ?_)
 clear hK K hHeld
 have hHeld := hX
 clear hX
 refine tk (i := 3) (v := .bool true) rfl (Or.inl ⟨rfl, fun W hS => by go_simp⟩) ?_
 simp only [Act.put, List.getElem_toArray, List.getElem_cons_succ, List.getElem_cons_zero, List.setIfInBounds_toArray, List.set_cons_zero, List.set_cons_succ]
 refine tk (i := 4) (v := .pointer (some ⟨w.heap.size, 0, none⟩)) rfl (Or.inl ⟨rfl, fun W hS => by go_simp⟩) ?_
 simp only [Act.put, List.getElem_toArray, List.getElem_cons_succ, List.getElem_cons_zero, List.setIfInBounds_toArray, List.set_cons_zero, List.set_cons_succ]
 refine tk (i := 5) (v := .agg #[.int .i64 s, .int .i64 q]) rfl (Or.inl ⟨rfl, fun W hS => ?_⟩) ?_
 ·obtain ⟨c0, c1, c2, c3, c4, c5, c6, -⟩ := hS
  go_simp
 simp only [Act.put, List.getElem_toArray, List.getElem_cons_succ, List.getElem_cons_zero, List.setIfInBounds_toArray, List.set_cons_zero, List.set_cons_succ]
 refine tk (i := 6) (v := .pointer (some ⟨w.heap.size, 2, none⟩)) rfl (Or.inl ⟨rfl, fun W hS => by go_simp⟩) ?_
 simp only [Act.put, List.getElem_toArray, List.getElem_cons_succ, List.getElem_cons_zero, List.setIfInBounds_toArray, List.set_cons_zero, List.set_cons_succ]
 refine tk (i := 7) (v := .int .i64 c) rfl (Or.inl ⟨rfl, fun W hS => ?_⟩) ?_
 ·obtain ⟨c0, c1, c2, c3, c4, c5, c6, -⟩ := hS
  go_simp
 simp only [Act.put, List.getElem_toArray, List.getElem_cons_succ, List.getElem_cons_zero, List.setIfInBounds_toArray, List.set_cons_zero, List.set_cons_succ]
 refine wpAnyH_ready (rs := [8]) (by kernel_rfl) (by simp) (AllReadyH.cons rfl (fun K hK => ?_) AllReadyH.nil)
 go_simp
 go_wp2_with (go_at_call 81; refine (hh _).mono ?_; rintro e wq ⟨rfl, hb⟩)
 refine hK.out _ _ (hHeld.keep hb) (fun hX => ?_)
 clear hK K hHeld
 have hHeld := hX
 clear hX
 refine tk (i := 9) (v := .bool true) rfl (Or.inl ⟨rfl, fun W hS => by go_simp⟩) ?_
 simp only [Act.put, List.getElem_toArray, List.getElem_cons_succ, List.getElem_cons_zero, List.setIfInBounds_toArray, List.set_cons_zero, List.set_cons_succ]
 refine tk (i := 10) (v := .bool true) rfl (Or.inl ⟨rfl, fun W hS => by go_simp⟩) ?_
 simp only [Act.put, List.getElem_toArray, List.getElem_cons_succ, List.getElem_cons_zero, List.setIfInBounds_toArray, List.set_cons_zero, List.set_cons_succ]
 refine tk (i := 11) (v := .pointer (some ⟨w.heap.size, 3, none⟩)) rfl (Or.inl ⟨rfl, fun W hS => by go_simp⟩) ?_
 simp only [Act.put, List.getElem_toArray, List.getElem_cons_succ, List.getElem_cons_zero, List.setIfInBounds_toArray, List.set_cons_zero, List.set_cons_succ]
 refine tk (i := 12) (v := .int .i64 1) rfl (Or.inl ⟨rfl, fun W hS => ?_⟩) ?_
 ·obtain ⟨c0, c1, c2, c3, c4, c5, c6, -⟩ := hS
  go_simp
 simp only [Act.put, List.getElem_toArray, List.getElem_cons_succ, List.getElem_cons_zero, List.setIfInBounds_toArray, List.set_cons_zero, List.set_cons_succ]
 refine tk (i := 14) (v := .agg #[.int .i64 s, .int .i64 q, .int .i64 c, .int .i64 1, .int .i64 a, .int .i64 l, .string t]) rfl (Or.inl ⟨rfl, fun W hS => ?_⟩) ?_
 ·obtain ⟨c0, c1, c2, c3, c4, c5, c6, -⟩ := hS
  go_simp
 simp only [Act.put, List.getElem_toArray, List.getElem_cons_succ, List.getElem_cons_zero, List.setIfInBounds_toArray, List.set_cons_zero, List.set_cons_succ]
 refine wpAnyH_ready (rs := [13]) (by kernel_rfl) (by simp) (AllReadyH.cons rfl (fun K hK => ?_) AllReadyH.nil)
 go_simp
 go_wp2_with (go_at_call 82; refine (hk _).mono ?_; rintro e wq ⟨rfl, hb⟩)
 refine hK.out _ _ (hHeld.keep hb) (fun hX => ?_)
 clear hK K hHeld
 have hHeld := hX
 clear hX
 refine wpAnyH_ready (rs := [15]) (by kernel_rfl) (by simp) (AllReadyH.cons rfl (fun K hK => ?_) AllReadyH.nil)
 go_simp
 go_wp2_with (go_at_call 151; refine (hC _ hHeld.2.2.2.2.2.2.2).mono ?_; rintro e wq ⟨rfl, hb⟩)
 refine hK.out _ _ (hHeld.keep hb) (fun hX => ?_)
 clear hK K hHeld
 have hHeld := hX
 clear hX
 refine tk (i := 16) (v := .bool r) rfl (Or.inl ⟨rfl, fun W hS => by go_simp⟩) ?_
 simp only [Act.put, List.getElem_toArray, List.getElem_cons_succ, List.getElem_cons_zero, List.setIfInBounds_toArray, List.set_cons_zero, List.set_cons_succ]
 refine tk (i := 17) (v := .bool r) rfl (Or.inl ⟨rfl, fun W hS => by go_simp⟩) ?_
 simp only [Act.put, List.getElem_toArray, List.getElem_cons_succ, List.getElem_cons_zero, List.setIfInBounds_toArray, List.set_cons_zero, List.set_cons_succ]
 refine wpAnyH_done (by kernel_rfl) ?_ _
 have hz := hHeld.2.2.2.2.2.2.2
 go_wp2
 go_ret
 exact ⟨rfl, hz⟩
set_option maxRecDepth 100000 in
set_option maxHeartbeats 8000000 in
theorem mayE_del (s q c a l : Int) (t : ByteArray) (r : Bool) (w : World) (hs : 0 ≤ a ∧ a ≤ 20000) (hhd : (nMay s q && decide (0 ≤ c ∧ c ≤ 1099511627776)) = true)
  (hC : ∀ W, Below w.heap.size w W → Calls Tryz.prog 158 #[.agg #[], .agg #[.int .i64 s, .int .i64 q, .int .i64 c, .int .i64 2, .int .i64 a, .int .i64 l, .string t]] W fun e w' => e = .returned (.bool r) ∧ Below W.heap.size W w') :
  Calls Tryz.prog 61 #[.agg #[.int .i64 s, .int .i64 q, .int .i64 c, .int .i64 2, .int .i64 a, .int .i64 l, .string t]] w fun e w' => e = .returned (.bool r) ∧ Below w.heap.size w w' := by
 have hp : ∀ W, Calls Tryz.prog 80 #[.int .i64 a] W fun e w' => e = .returned (.bool true) ∧ Below W.heap.size W w' := fun W => (isPlace_any a W).mono fun _ _ ⟨h1, h2⟩ => ⟨by rw [h1]; rw [decide_eq_true hs], by rw [h2]; exact Below.refl _ _⟩
 have hh : ∀ W, Calls Tryz.prog 81 #[.agg #[.int .i64 s, .int .i64 q], .int .i64 c] W fun e w' => e = .returned (.bool true) ∧ Below W.heap.size W w' := fun W => (mayHead_any s q c W).mono fun _ _ ⟨h1, h2⟩ => ⟨by rw [h1, hhd], h2⟩
 have hk : ∀ W, Calls Tryz.prog 82 #[.int .i64 2] W fun e w' => e = .returned (.iface 162 (.agg #[])) ∧ Below W.heap.size W w' := fun W => (kind_del W).mono fun _ _ ⟨h1, h2⟩ => ⟨h1, by rw [h2]; exact Below.refl _ _⟩
 have hm := meth_del_mayE
 have hB := EBox.new s q c 2 a l t w 47
 clear hs hhd
 go_enter Tryz.func61, Tryz.ntmps61
 go_wp2_with fail
 refine wp_region_held_drew (S := fun W => EBox w.heap.size s q c 2 a l t w W) (by kernel_rfl) (hB.keep (Below.refl _ _).drew) (fun hHeld => ?_)
 clear hB
 refine tk (i := 0) (v := .pointer (some ⟨w.heap.size, 4, none⟩)) rfl (Or.inl ⟨rfl, fun W hS => by go_simp⟩) ?_
 refine tk (i := 1) (v := .int .i64 a) rfl (Or.inl ⟨rfl, fun W hS => ?_⟩) ?_
 ·obtain ⟨c0, c1, c2, c3, c4, c5, c6, -⟩ := hS
  go_simp
 simp only [Act.put, List.getElem_toArray, List.getElem_cons_succ, List.getElem_cons_zero, List.setIfInBounds_toArray, List.set_cons_zero, List.set_cons_succ]
 refine wpAnyH_ready (rs := [2]) (by kernel_rfl) (by simp) (AllReadyH.cons rfl (fun K hK => ?_) AllReadyH.nil)
 go_simp
 go_wp2_with (go_at_call 80; refine (hp _).mono ?_; rintro e wq ⟨rfl, hb⟩)
 refine hK.out _ _ (hHeld.keep hb) (fun hX => ?_)
 clear hK K hHeld
 have hHeld := hX
 clear hX
 refine tk (i := 3) (v := .bool true) rfl (Or.inl ⟨rfl, fun W hS => by go_simp⟩) ?_
 simp only [Act.put, List.getElem_toArray, List.getElem_cons_succ, List.getElem_cons_zero, List.setIfInBounds_toArray, List.set_cons_zero, List.set_cons_succ]
 refine tk (i := 4) (v := .pointer (some ⟨w.heap.size, 0, none⟩)) rfl (Or.inl ⟨rfl, fun W hS => by go_simp⟩) ?_
 simp only [Act.put, List.getElem_toArray, List.getElem_cons_succ, List.getElem_cons_zero, List.setIfInBounds_toArray, List.set_cons_zero, List.set_cons_succ]
 refine tk (i := 5) (v := .agg #[.int .i64 s, .int .i64 q]) rfl (Or.inl ⟨rfl, fun W hS => ?_⟩) ?_
 ·obtain ⟨c0, c1, c2, c3, c4, c5, c6, -⟩ := hS
  go_simp
 simp only [Act.put, List.getElem_toArray, List.getElem_cons_succ, List.getElem_cons_zero, List.setIfInBounds_toArray, List.set_cons_zero, List.set_cons_succ]
 refine tk (i := 6) (v := .pointer (some ⟨w.heap.size, 2, none⟩)) rfl (Or.inl ⟨rfl, fun W hS => by go_simp⟩) ?_
 simp only [Act.put, List.getElem_toArray, List.getElem_cons_succ, List.getElem_cons_zero, List.setIfInBounds_toArray, List.set_cons_zero, List.set_cons_succ]
 refine tk (i := 7) (v := .int .i64 c) rfl (Or.inl ⟨rfl, fun W hS => ?_⟩) ?_
 ·obtain ⟨c0, c1, c2, c3, c4, c5, c6, -⟩ := hS
  go_simp
 simp only [Act.put, List.getElem_toArray, List.getElem_cons_succ, List.getElem_cons_zero, List.setIfInBounds_toArray, List.set_cons_zero, List.set_cons_succ]
 refine wpAnyH_ready (rs := [8]) (by kernel_rfl) (by simp) (AllReadyH.cons rfl (fun K hK => ?_) AllReadyH.nil)
 go_simp
 go_wp2_with (go_at_call 81; refine (hh _).mono ?_; rintro e wq ⟨rfl, hb⟩)
 refine hK.out _ _ (hHeld.keep hb) (fun hX => ?_)
 clear hK K hHeld
 have hHeld := hX
 clear hX
 refine tk (i := 9) (v := .bool true) rfl (Or.inl ⟨rfl, fun W hS => by go_simp⟩) ?_
 simp only [Act.put, List.getElem_toArray, List.getElem_cons_succ, List.getElem_cons_zero, List.setIfInBounds_toArray, List.set_cons_zero, List.set_cons_succ]
 refine tk (i := 10) (v := .bool true) rfl (Or.inl ⟨rfl, fun W hS => by go_simp⟩) ?_
 simp only [Act.put, List.getElem_toArray, List.getElem_cons_succ, List.getElem_cons_zero, List.setIfInBounds_toArray, List.set_cons_zero, List.set_cons_succ]
 refine tk (i := 11) (v := .pointer (some ⟨w.heap.size, 3, none⟩)) rfl (Or.inl ⟨rfl, fun W hS => by go_simp⟩) ?_
 simp only [Act.put, List.getElem_toArray, List.getElem_cons_succ, List.getElem_cons_zero, List.setIfInBounds_toArray, List.set_cons_zero, List.set_cons_succ]
 refine tk (i := 12) (v := .int .i64 2) rfl (Or.inl ⟨rfl, fun W hS => ?_⟩) ?_
 ·obtain ⟨c0, c1, c2, c3, c4, c5, c6, -⟩ := hS
  go_simp
 simp only [Act.put, List.getElem_toArray, List.getElem_cons_succ, List.getElem_cons_zero, List.setIfInBounds_toArray, List.set_cons_zero, List.set_cons_succ]
 refine tk (i := 14) (v := .agg #[.int .i64 s, .int .i64 q, .int .i64 c, .int .i64 2, .int .i64 a, .int .i64 l, .string t]) rfl (Or.inl ⟨rfl, fun W hS => ?_⟩) ?_
 ·obtain ⟨c0, c1, c2, c3, c4, c5, c6, -⟩ := hS
  go_simp
 simp only [Act.put, List.getElem_toArray, List.getElem_cons_succ, List.getElem_cons_zero, List.setIfInBounds_toArray, List.set_cons_zero, List.set_cons_succ]
 refine wpAnyH_ready (rs := [13]) (by kernel_rfl) (by simp) (AllReadyH.cons rfl (fun K hK => ?_) AllReadyH.nil)
 go_simp
 go_wp2_with (go_at_call 82; refine (hk _).mono ?_; rintro e wq ⟨rfl, hb⟩)
 refine hK.out _ _ (hHeld.keep hb) (fun hX => ?_)
 clear hK K hHeld
 have hHeld := hX
 clear hX
 refine wpAnyH_ready (rs := [15]) (by kernel_rfl) (by simp) (AllReadyH.cons rfl (fun K hK => ?_) AllReadyH.nil)
 go_simp
 go_wp2_with (go_at_call 158; refine (hC _ hHeld.2.2.2.2.2.2.2).mono ?_; rintro e wq ⟨rfl, hb⟩)
 refine hK.out _ _ (hHeld.keep hb) (fun hX => ?_)
 clear hK K hHeld
 have hHeld := hX
 clear hX
 refine tk (i := 16) (v := .bool r) rfl (Or.inl ⟨rfl, fun W hS => by go_simp⟩) ?_
 simp only [Act.put, List.getElem_toArray, List.getElem_cons_succ, List.getElem_cons_zero, List.setIfInBounds_toArray, List.set_cons_zero, List.set_cons_succ]
 refine tk (i := 17) (v := .bool r) rfl (Or.inl ⟨rfl, fun W hS => by go_simp⟩) ?_
 simp only [Act.put, List.getElem_toArray, List.getElem_cons_succ, List.getElem_cons_zero, List.setIfInBounds_toArray, List.set_cons_zero, List.set_cons_succ]
 refine wpAnyH_done (by kernel_rfl) ?_ _
 have hz := hHeld.2.2.2.2.2.2.2
 go_wp2
 go_ret
 exact ⟨rfl, hz⟩
set_option maxRecDepth 100000 in
set_option maxHeartbeats 8000000 in
theorem mayE_no (s q c k a l : Int) (t : ByteArray) (r : Bool) (w : World) (hs : 0 ≤ a ∧ a ≤ 20000) (hhd : (nMay s q && decide (0 ≤ c ∧ c ≤ 1099511627776)) = true) (h1 : ¬ k = 1) (h2 : ¬ k = 2)
  (hC : ∀ W, Below w.heap.size w W → Calls Tryz.prog 170 #[.agg #[], .agg #[.int .i64 s, .int .i64 q, .int .i64 c, .int .i64 k, .int .i64 a, .int .i64 l, .string t]] W fun e w' => e = .returned (.bool r) ∧ Below W.heap.size W w') :
  Calls Tryz.prog 61 #[.agg #[.int .i64 s, .int .i64 q, .int .i64 c, .int .i64 k, .int .i64 a, .int .i64 l, .string t]] w fun e w' => e = .returned (.bool r) ∧ Below w.heap.size w w' := by
 have hp : ∀ W, Calls Tryz.prog 80 #[.int .i64 a] W fun e w' => e = .returned (.bool true) ∧ Below W.heap.size W w' := fun W => (isPlace_any a W).mono fun _ _ ⟨h1, h2⟩ => ⟨by rw [h1]; rw [decide_eq_true hs], by rw [h2]; exact Below.refl _ _⟩
 have hh : ∀ W, Calls Tryz.prog 81 #[.agg #[.int .i64 s, .int .i64 q], .int .i64 c] W fun e w' => e = .returned (.bool true) ∧ Below W.heap.size W w' := fun W => (mayHead_any s q c W).mono fun _ _ ⟨h1, h2⟩ => ⟨by rw [h1, hhd], h2⟩
 have hk : ∀ W, Calls Tryz.prog 82 #[.int .i64 k] W fun e w' => e = .returned (.iface 163 (.agg #[])) ∧ Below W.heap.size W w' := fun W => (kind_no k h1 h2 W).mono fun _ _ ⟨h1, h2⟩ => ⟨h1, by rw [h2]; exact Below.refl _ _⟩
 have hm := meth_no_mayE
 have hB := EBox.new s q c k a l t w 47
 clear hs hhd
 go_enter Tryz.func61, Tryz.ntmps61
 go_wp2_with fail
 refine wp_region_held_drew (S := fun W => EBox w.heap.size s q c k a l t w W) (by kernel_rfl) (hB.keep (Below.refl _ _).drew) (fun hHeld => ?_)
 clear hB
 refine tk (i := 0) (v := .pointer (some ⟨w.heap.size, 4, none⟩)) rfl (Or.inl ⟨rfl, fun W hS => by go_simp⟩) ?_
 refine tk (i := 1) (v := .int .i64 a) rfl (Or.inl ⟨rfl, fun W hS => ?_⟩) ?_
 ·obtain ⟨c0, c1, c2, c3, c4, c5, c6, -⟩ := hS
  go_simp
 simp only [Act.put, List.getElem_toArray, List.getElem_cons_succ, List.getElem_cons_zero, List.setIfInBounds_toArray, List.set_cons_zero, List.set_cons_succ]
 refine wpAnyH_ready (rs := [2]) (by kernel_rfl) (by simp) (AllReadyH.cons rfl (fun K hK => ?_) AllReadyH.nil)
 go_simp
 go_wp2_with (go_at_call 80; refine (hp _).mono ?_; rintro e wq ⟨rfl, hb⟩)
 refine hK.out _ _ (hHeld.keep hb) (fun hX => ?_)
 clear hK K hHeld
 have hHeld := hX
 clear hX
 refine tk (i := 3) (v := .bool true) rfl (Or.inl ⟨rfl, fun W hS => by go_simp⟩) ?_
 simp only [Act.put, List.getElem_toArray, List.getElem_cons_succ, List.getElem_cons_zero, List.setIfInBounds_toArray, List.set_cons_zero, List.set_cons_succ]
 refine tk (i := 4) (v := .pointer (some ⟨w.heap.size, 0, none⟩)) rfl (Or.inl ⟨rfl, fun W hS => by go_simp⟩) ?_
 simp only [Act.put, List.getElem_toArray, List.getElem_cons_succ, List.getElem_cons_zero, List.setIfInBounds_toArray, List.set_cons_zero, List.set_cons_succ]
 refine tk (i := 5) (v := .agg #[.int .i64 s, .int .i64 q]) rfl (Or.inl ⟨rfl, fun W hS => ?_⟩) ?_
 ·obtain ⟨c0, c1, c2, c3, c4, c5, c6, -⟩ := hS
  go_simp
 simp only [Act.put, List.getElem_toArray, List.getElem_cons_succ, List.getElem_cons_zero, List.setIfInBounds_toArray, List.set_cons_zero, List.set_cons_succ]
 refine tk (i := 6) (v := .pointer (some ⟨w.heap.size, 2, none⟩)) rfl (Or.inl ⟨rfl, fun W hS => by go_simp⟩) ?_
 simp only [Act.put, List.getElem_toArray, List.getElem_cons_succ, List.getElem_cons_zero, List.setIfInBounds_toArray, List.set_cons_zero, List.set_cons_succ]
 refine tk (i := 7) (v := .int .i64 c) rfl (Or.inl ⟨rfl, fun W hS => ?_⟩) ?_
 ·obtain ⟨c0, c1, c2, c3, c4, c5, c6, -⟩ := hS
  go_simp
 simp only [Act.put, List.getElem_toArray, List.getElem_cons_succ, List.getElem_cons_zero, List.setIfInBounds_toArray, List.set_cons_zero, List.set_cons_succ]
 refine wpAnyH_ready (rs := [8]) (by kernel_rfl) (by simp) (AllReadyH.cons rfl (fun K hK => ?_) AllReadyH.nil)
 go_simp
 go_wp2_with (go_at_call 81; refine (hh _).mono ?_; rintro e wq ⟨rfl, hb⟩)
 refine hK.out _ _ (hHeld.keep hb) (fun hX => ?_)
 clear hK K hHeld
 have hHeld := hX
 clear hX
 refine tk (i := 9) (v := .bool true) rfl (Or.inl ⟨rfl, fun W hS => by go_simp⟩) ?_
 simp only [Act.put, List.getElem_toArray, List.getElem_cons_succ, List.getElem_cons_zero, List.setIfInBounds_toArray, List.set_cons_zero, List.set_cons_succ]
 refine tk (i := 10) (v := .bool true) rfl (Or.inl ⟨rfl, fun W hS => by go_simp⟩) ?_
 simp only [Act.put, List.getElem_toArray, List.getElem_cons_succ, List.getElem_cons_zero, List.setIfInBounds_toArray, List.set_cons_zero, List.set_cons_succ]
 refine tk (i := 11) (v := .pointer (some ⟨w.heap.size, 3, none⟩)) rfl (Or.inl ⟨rfl, fun W hS => by go_simp⟩) ?_
 simp only [Act.put, List.getElem_toArray, List.getElem_cons_succ, List.getElem_cons_zero, List.setIfInBounds_toArray, List.set_cons_zero, List.set_cons_succ]
 refine tk (i := 12) (v := .int .i64 k) rfl (Or.inl ⟨rfl, fun W hS => ?_⟩) ?_
 ·obtain ⟨c0, c1, c2, c3, c4, c5, c6, -⟩ := hS
  go_simp
 simp only [Act.put, List.getElem_toArray, List.getElem_cons_succ, List.getElem_cons_zero, List.setIfInBounds_toArray, List.set_cons_zero, List.set_cons_succ]
 refine tk (i := 14) (v := .agg #[.int .i64 s, .int .i64 q, .int .i64 c, .int .i64 k, .int .i64 a, .int .i64 l, .string t]) rfl (Or.inl ⟨rfl, fun W hS => ?_⟩) ?_
 ·obtain ⟨c0, c1, c2, c3, c4, c5, c6, -⟩ := hS
  go_simp
 simp only [Act.put, List.getElem_toArray, List.getElem_cons_succ, List.getElem_cons_zero, List.setIfInBounds_toArray, List.set_cons_zero, List.set_cons_succ]
 refine wpAnyH_ready (rs := [13]) (by kernel_rfl) (by simp) (AllReadyH.cons rfl (fun K hK => ?_) AllReadyH.nil)
 go_simp
 go_wp2_with (go_at_call 82; refine (hk _).mono ?_; rintro e wq ⟨rfl, hb⟩)
 refine hK.out _ _ (hHeld.keep hb) (fun hX => ?_)
 clear hK K hHeld
 have hHeld := hX
 clear hX
 refine wpAnyH_ready (rs := [15]) (by kernel_rfl) (by simp) (AllReadyH.cons rfl (fun K hK => ?_) AllReadyH.nil)
 go_simp
 go_wp2_with (go_at_call 170; refine (hC _ hHeld.2.2.2.2.2.2.2).mono ?_; rintro e wq ⟨rfl, hb⟩)
 refine hK.out _ _ (hHeld.keep hb) (fun hX => ?_)
 clear hK K hHeld
 have hHeld := hX
 clear hX
 refine tk (i := 16) (v := .bool r) rfl (Or.inl ⟨rfl, fun W hS => by go_simp⟩) ?_
 simp only [Act.put, List.getElem_toArray, List.getElem_cons_succ, List.getElem_cons_zero, List.setIfInBounds_toArray, List.set_cons_zero, List.set_cons_succ]
 refine tk (i := 17) (v := .bool r) rfl (Or.inl ⟨rfl, fun W hS => by go_simp⟩) ?_
 simp only [Act.put, List.getElem_toArray, List.getElem_cons_succ, List.getElem_cons_zero, List.setIfInBounds_toArray, List.set_cons_zero, List.set_cons_succ]
 refine wpAnyH_done (by kernel_rfl) ?_ _
 have hz := hHeld.2.2.2.2.2.2.2
 go_wp2
 go_ret
 exact ⟨rfl, hz⟩
end Go.Proofs.YthekkjfaaedamaaGreatDoor

namespace Go.Proofs.YthekkjfaaedamaaGreatDoor
open Go.RowKit Go.Shelf
open Go.Lib (uvarint uvarint_length64)

set_option maxRecDepth 100000 in
set_option maxHeartbeats 4000000 in
theorem insMayE_any (s q c a l : Int) (t : ByteArray) (w : World) (hL : LenAt t w) :
  Calls Tryz.prog 151 #[.agg #[], .agg #[.int .i64 s, .int .i64 q, .int .i64 c, .int .i64 1, .int .i64 a, .int .i64 l, .string t]] w fun e w' =>
   e = .returned (.bool (decide (l = 0) && decide (1 ≤ lenT t.data.toList ∧ lenT t.data.toList ≤ 200))) ∧ Below w.heap.size w w' := by
 have hB0 := (Below.refl w.heap.size w).alloc (Nat.le_refl _) (.cells #[] 161)
 have hB := hB0.alloc hB0.size (.cells #[.int .i64 s, .int .i64 q, .int .i64 c, .int .i64 1, .int .i64 a, .int .i64 l, .string t] 47)
 have hC := hL _ hB
 rw [lenL_lenT] at hC
 clear hL hB0
 generalize lenT t.data.toList = m at *
 have hI := fun W => mayIns_any m W
 generalize decide (1 ≤ m ∧ m ≤ 200) = r at *
 by_cases p1 : l = 0
 ·subst p1
  rw [decide_eq_true rfl, Bool.true_and]
  go_enter Tryz.func151, Tryz.ntmps151
  go_wp2_with fail
  refine hC.mono ?_
  rintro e w1 ⟨rfl, hb⟩
  have hz := hB.trans (hb.mono hB.size)
  clear hb hC hB
  go_wp2_with fail
  refine (hI _).mono ?_
  rintro e _ ⟨rfl, rfl⟩
  go_wp2
  go_ret
  exact ⟨rfl, hz⟩
 ·rw [decide_eq_false p1, Bool.false_and]
  have p2 : (l == 0) = false := beq_eq_false_iff_ne.2 p1
  clear p1 hI hC
  go_enter Tryz.func151, Tryz.ntmps151
  go_wp2
  go_ret
  exact ⟨rfl, hB⟩
set_option maxRecDepth 100000 in
set_option maxHeartbeats 4000000 in
theorem delMayE_any (s q c a l : Int) (t : ByteArray) (w : World) :
  Calls Tryz.prog 158 #[.agg #[], .agg #[.int .i64 s, .int .i64 q, .int .i64 c, .int .i64 2, .int .i64 a, .int .i64 l, .string t]] w fun e w' =>
   e = .returned (.bool (decide (1 ≤ l ∧ l ≤ 20000) && decide (t.data.toList = []))) ∧ Below w.heap.size w w' := by
 have hB0 := (Below.refl w.heap.size w).alloc (Nat.le_refl _) (.cells #[] 162)
 have hB := hB0.alloc hB0.size (.cells #[.int .i64 s, .int .i64 q, .int .i64 c, .int .i64 2, .int .i64 a, .int .i64 l, .string t] 47)
 clear hB0
 obtain ⟨r, hr⟩ : ∃ r, (decide (1 ≤ l ∧ l ≤ 20000) && decide (t.data.toList = [])) = r := ⟨_, rfl⟩
 rw [hr]
 rcases (show ¬ 1 ≤ l ∨ (1 ≤ l ∧ ¬ l ≤ 20000) ∨ (1 ≤ l ∧ l ≤ 20000) by omega) with p1 | ⟨p1, p2⟩ | ⟨p1, p2⟩
 ·have HR := Lib.hid (show false = r by rw [← hr, decide_eq_false (by omega), Bool.false_and])
  clear hr
  go_enter Tryz.func158, Tryz.ntmps158
  go_wp2
  go_ret
  exact ⟨ret_bool HR.out, hB⟩
 ·have HR := Lib.hid (show false = r by rw [← hr, decide_eq_false (by omega), Bool.false_and])
  clear hr
  go_enter Tryz.func158, Tryz.ntmps158
  go_wp2
  go_ret
  exact ⟨ret_bool HR.out, hB⟩
 ·rw [decide_eq_true (show 1 ≤ l ∧ l ≤ 20000 from ⟨p1, p2⟩), Bool.true_and] at hr
  by_cases t0 : t.data.toList = []
  ·have HR := Lib.hid (show true = r by rw [← hr, decide_eq_true t0])
   have t0' : t.toList = [] := by rw [list_data]; exact t0
   clear hr t0
   go_enter Tryz.func158, Tryz.ntmps158
   go_wp2
   go_ret
   exact ⟨ret_bool HR.out, hB⟩
  ·have HR := Lib.hid (show false = r by rw [← hr, decide_eq_false t0])
   have t0' : ¬ t.toList = [] := by rw [list_data]; exact t0
   clear hr t0
   go_enter Tryz.func158, Tryz.ntmps158
   go_wp2
   go_ret
   exact ⟨ret_bool (show t.toList.isEmpty = r by rw [← HR.out]; exact Bool.eq_false_iff.2 fun h => t0' (List.isEmpty_iff.1 h)), hB⟩
set_option maxRecDepth 100000 in
set_option maxHeartbeats 4000000 in
theorem noMayE_any (s q c k a l : Int) (t : ByteArray) (w : World) :
  Calls Tryz.prog 170 #[.agg #[], .agg #[.int .i64 s, .int .i64 q, .int .i64 c, .int .i64 k, .int .i64 a, .int .i64 l, .string t]] w fun e w' => e = .returned (.bool false) ∧ Below w.heap.size w w' := by
 have hB0 := (Below.refl w.heap.size w).alloc (Nat.le_refl _) (.cells #[] 163)
 have hB := hB0.alloc hB0.size (.cells #[.int .i64 s, .int .i64 q, .int .i64 c, .int .i64 k, .int .i64 a, .int .i64 l, .string t] 47)
 go_enter Tryz.func170, Tryz.ntmps170
 go_wp2
 go_ret
 exact ⟨rfl, hB⟩
theorem pMayEdit_any (s q c k a l : Int) (t : ByteArray) (w : World) (hL : LenAt t w) :
  Calls Tryz.prog 61 #[edV s q c k a l t] w fun e w' => e = .returned (.bool (eMay ⟨s, q, c, k, a, l, t.data.toList⟩)) ∧ Below w.heap.size w w' := by
 unfold eMay edV
 dsimp only
 by_cases g : 0 ≤ a ∧ a ≤ 20000
 case neg =>
  rw [decide_eq_false g, Bool.and_false, Bool.false_and]
  exact mayE_noplace s q c k a l t w g
 rw [decide_eq_true g, Bool.and_true]
 cases hh : (nMay s q && decide (0 ≤ c ∧ c ≤ 1099511627776)) with
 | false =>
  rw [Bool.false_and]
  exact mayE_nohead s q c k a l t w g hh
 | true =>
  rw [Bool.true_and]
  by_cases h1 : k = 1
  ·subst h1
   rw [if_pos rfl, mayT_len]
   exact mayE_ins s q c a l t _ w g hh fun W hW => insMayE_any s q c a l t W (hL.below hW)
  ·rw [if_neg h1]
   by_cases h2 : k = 2
   ·subst h2
    rw [decide_eq_true rfl, Bool.true_and]
    exact mayE_del s q c a l t _ w g hh fun W _ => delMayE_any s q c a l t W
   ·rw [decide_eq_false h2, Bool.false_and, Bool.false_and]
    exact mayE_no s q c k a l t _ w g hh h1 h2 fun W _ => noMayE_any s q c k a l t W
end Go.Proofs.YthekkjfaaedamaaGreatDoor
