/- The program's Put, PutEdit and MayEdit: the walks, each kind's method by its contract. -/
import Derived.Test.YtnlajfdgpdijjaaOpsPutP
import Derived.Test.YtnlajfdgpdijjaaOpsMayR
namespace Go.Proofs.Ytnlajfdgpdijjaa
open Go.RowKit

theorem EBox.newN (s q c k a l : Int) (t : ByteArray) (w : World) (ty : TypeId) {N : Nat} (hN : w.heap.size = N) : EBox N s q c k a l t w (w.alloc (.cells #[.int .i64 s, .int .i64 q, .int .i64 c, .int .i64 k, .int .i64 a, .int .i64 l, .string t] ty)) := by
  subst hN
  exact EBox.new s q c k a l t w ty
set_option maxRecDepth 100000 in
set_option maxHeartbeats 8000000 in
theorem putO_ins (s q n a : Int) (t : ByteArray) (ao : Option Addr) (x cap : Nat) (A1 A2 : ByteArray) (w : World) (hsz : A1.size + A2.size ≤ 100000000)
    (hAny : ∀ W, Below w.heap.size w W → Calls Try.prog 43 #[.agg #[.int .i64 s, .int .i64 q, .int .i64 n, .int .i64 1, .int .i64 a, .string t, .slice ao x cap]] W fun e w' => e = .returned (.bool true) ∧ Below W.heap.size W w')
    (hP1 : ∀ W v, OBox w.heap.size s q n 1 a t (.slice ao x cap) w W → PtAt W v [numP ⟨w.heap.size, 0, none⟩ 16, numP ⟨w.heap.size, 1, none⟩ 1099511627776, numP ⟨w.heap.size, 2, none⟩ 1099511627776, numP ⟨w.heap.size, 3, none⟩ 2] → Calls Try.prog 44 #[v] W fun e w' => e = .returned (.string A1) ∧ Below W.heap.size W w')
    (hP2 : ∀ W v, OBox w.heap.size s q n 1 a t (.slice ao x cap) w W → PtAt W v [numP ⟨w.heap.size, 4, none⟩ 20000, rowP ⟨w.heap.size, 5, none⟩] → Calls Try.prog 44 #[v] W fun e w' => e = .returned (.string A2) ∧ Below W.heap.size W w') :
    Calls Try.prog 18 #[.agg #[.int .i64 s, .int .i64 q, .int .i64 n, .int .i64 1, .int .i64 a, .string t, .slice ao x cap]] w fun e w' => e = .returned (.tuple #[.string (A1 ++ A2), .int .i64 0]) ∧ Below w.heap.size w w' := by
  have hk : ∀ W, Calls Try.prog 34 #[.int .i64 1] W fun e w' => e = .returned (.iface 93 (.agg #[])) ∧ Below W.heap.size W w' := fun W => (kind_ins W).mono fun _ _ ⟨h1, h2⟩ => ⟨h1, by rw [h2]; exact Below.refl _ _⟩
  have hm := meth_ins_parts
  have hB := OBox.new s q n 1 a t (.slice ao x cap) w 26
  go_enter Try.func18, Try.ntmps18
  go_wp2_with fail
  refine (hAny _ hB.2.2.2.2.2.2.2).mono ?_
  rintro e w1 ⟨rfl, hb⟩
  have hB := hB.keep hb
  clear hb
  go_wp2_with fail
  refine wp_region_held_drew (S := fun W => OBox w.heap.size s q n 1 a t (.slice ao x cap) w W) (by kernel_rfl) (hB.keep (Below.refl _ _).drew) (fun hHeld => ?_)
  clear hB
  refine wpAnyH_take (i := 0) (v := .pointer (some ⟨w.heap.size, 0, none⟩)) rfl (by kernel_rfl) (by kernel_rfl) (by kernel_rfl) (fun _ _ _ h => h) (Or.inl ⟨rfl, fun W hS => by go_simp⟩) (by assumption) ?_
  refine wpAnyH_take (i := 1) (v := .pointer (some ⟨w.heap.size, 2, none⟩)) rfl (by kernel_rfl) (by kernel_rfl) (by kernel_rfl) (fun _ _ _ h => h) (Or.inl ⟨rfl, fun W hS => by go_simp⟩) (by assumption) ?_
  simp only [Act.put, List.getElem_toArray, List.getElem_cons_succ, List.getElem_cons_zero, List.setIfInBounds_toArray, List.set_cons_zero, List.set_cons_succ]
  refine wpAnyH_take (i := 2) (v := .pointer (some ⟨w.heap.size, 3, none⟩)) rfl (by kernel_rfl) (by kernel_rfl) (by kernel_rfl) (fun _ _ _ h => h) (Or.inl ⟨rfl, fun W hS => by go_simp⟩) (by assumption) ?_
  simp only [Act.put, List.getElem_toArray, List.getElem_cons_succ, List.getElem_cons_zero, List.setIfInBounds_toArray, List.set_cons_zero, List.set_cons_succ]
  refine wpAnyH_take (i := 5) (v := .pointer (some ⟨w.heap.size, 3, none⟩)) rfl (by kernel_rfl) (by kernel_rfl) (by kernel_rfl) (fun _ _ _ h => h) (Or.inl ⟨rfl, fun W hS => by go_simp⟩) (by assumption) ?_
  simp only [Act.put, List.getElem_toArray, List.getElem_cons_succ, List.getElem_cons_zero, List.setIfInBounds_toArray, List.set_cons_zero, List.set_cons_succ]
  refine wpAnyH_take (i := 6) (v := .int .i64 1) rfl (by kernel_rfl) (by kernel_rfl) (by kernel_rfl) (fun _ _ _ h => h) (Or.inl ⟨rfl, fun W hS => ?_⟩) (by assumption) ?_
  · obtain ⟨c0, c1, c2, c3, c4, c5, c6, -⟩ := hS
    go_simp
  simp only [Act.put, List.getElem_toArray, List.getElem_cons_succ, List.getElem_cons_zero, List.setIfInBounds_toArray, List.set_cons_zero, List.set_cons_succ]
  refine wpAnyH_ready (rs := [3]) (by kernel_rfl) (by simp) (AllReadyH.cons rfl (fun K hK => ?_) AllReadyH.nil)
  go_simp
  go_wp2_with (go_at_call 45; refine (head_any _ _).mono ?_; rintro e wq ⟨v1, rfl, hv1, hb⟩; obtain ⟨ao1, cap1, rfl, -⟩ := id hv1)
  refine hK.out _ _ (hHeld.keep hb) (fun hX => ?_)
  clear hK K hHeld
  have hHeld := hX
  clear hX
  refine wpAnyH_ready (rs := [4]) (by kernel_rfl) (by simp) (AllReadyH.cons rfl (fun K hK => ?_) AllReadyH.nil)
  go_simp
  go_wp2_with (go_at_call 44; refine (hP1 _ _ hHeld hv1).mono ?_; rintro e wq ⟨rfl, hb⟩)
  refine hK.out _ _ (hHeld.keep hb) (fun hX => ?_)
  clear hK K hHeld
  have hHeld := hX
  clear hX
  clear hv1
  refine wpAnyH_ready (rs := [7]) (by kernel_rfl) (by simp) (AllReadyH.cons rfl (fun K hK => ?_) AllReadyH.nil)
  go_simp
  go_wp2_with (go_at_call 34; refine (hk _).mono ?_; rintro e wq ⟨rfl, hb⟩)
  refine hK.out _ _ (hHeld.keep hb) (fun hX => ?_)
  clear hK K hHeld
  have hHeld := hX
  clear hX
  refine wpAnyH_ready (rs := [8]) (by kernel_rfl) (by simp) (AllReadyH.cons rfl (fun K hK => ?_) AllReadyH.nil)
  go_simp
  go_wp2_with (go_at_call 86; refine (insParts_any _ _).mono ?_; rintro e wq ⟨v2, rfl, hv2, hb⟩; obtain ⟨ao2, cap2, rfl, -⟩ := id hv2)
  refine hK.out _ _ (hHeld.keep hb) (fun hX => ?_)
  clear hK K hHeld
  have hHeld := hX
  clear hX
  refine wpAnyH_ready (rs := [9]) (by kernel_rfl) (by simp) (AllReadyH.cons rfl (fun K hK => ?_) AllReadyH.nil)
  go_simp
  go_wp2_with (go_at_call 44; refine (hP2 _ _ hHeld hv2).mono ?_; rintro e wq ⟨rfl, hb⟩)
  refine hK.out _ _ (hHeld.keep hb) (fun hX => ?_)
  clear hK K hHeld
  have hHeld := hX
  clear hX
  clear hv2
  refine wpAnyH_take (i := 10) (v := .string (A1 ++ A2)) rfl (by kernel_rfl) (by kernel_rfl) (by kernel_rfl) (fun _ _ _ h => h) (Or.inl ⟨rfl, fun W hS => by go_simp; omega⟩) (by assumption) ?_
  simp only [Act.put, List.getElem_toArray, List.getElem_cons_succ, List.getElem_cons_zero, List.setIfInBounds_toArray, List.set_cons_zero, List.set_cons_succ]
  refine wpAnyH_take (i := 11) (v := .string (A1 ++ A2)) rfl (by kernel_rfl) (by kernel_rfl) (by kernel_rfl) (fun _ _ _ h => h) (Or.inl ⟨rfl, fun W hS => by go_simp⟩) (by assumption) ?_
  simp only [Act.put, List.getElem_toArray, List.getElem_cons_succ, List.getElem_cons_zero, List.setIfInBounds_toArray, List.set_cons_zero, List.set_cons_succ]
  refine wpAnyH_take (i := 12) (v := .int .i64 0) rfl (by kernel_rfl) (by kernel_rfl) (by kernel_rfl) (fun _ _ _ h => h) (Or.inl ⟨rfl, fun W hS => by go_simp⟩) (by assumption) ?_
  simp only [Act.put, List.getElem_toArray, List.getElem_cons_succ, List.getElem_cons_zero, List.setIfInBounds_toArray, List.set_cons_zero, List.set_cons_succ]
  refine wpAnyH_done (by kernel_rfl) ?_ _
  have hz := hHeld.2.2.2.2.2.2.2
  go_wp2
  go_ret2
  exact ⟨rfl, hz⟩
set_option maxRecDepth 100000 in
set_option maxHeartbeats 8000000 in
theorem putE_ins (s q c a l : Int) (t : ByteArray) (A1 A2 : ByteArray) (w : World) (hsz : A1.size + A2.size ≤ 100000000)
    (hAny : ∀ W, Below w.heap.size w W → Calls Try.prog 29 #[.agg #[.int .i64 s, .int .i64 q, .int .i64 c, .int .i64 1, .int .i64 a, .int .i64 l, .string t]] W fun e w' => e = .returned (.bool true) ∧ Below W.heap.size W w')
    (hP1 : ∀ W v, EBox w.heap.size s q c 1 a l t w W → PtAt W v [numP ⟨w.heap.size, 0, none⟩ 16, numP ⟨w.heap.size, 1, none⟩ 1099511627776, numP ⟨w.heap.size, 2, none⟩ 1099511627776, numP ⟨w.heap.size, 3, none⟩ 2] → Calls Try.prog 44 #[v] W fun e w' => e = .returned (.string A1) ∧ Below W.heap.size W w')
    (hP2 : ∀ W v, EBox w.heap.size s q c 1 a l t w W → PtAt W v [numP ⟨w.heap.size, 4, none⟩ 20000, rowP ⟨w.heap.size, 6, none⟩] → Calls Try.prog 44 #[v] W fun e w' => e = .returned (.string A2) ∧ Below W.heap.size W w') :
    Calls Try.prog 28 #[.agg #[.int .i64 s, .int .i64 q, .int .i64 c, .int .i64 1, .int .i64 a, .int .i64 l, .string t]] w fun e w' => e = .returned (.tuple #[.string (A1 ++ A2), .int .i64 0]) ∧ Below w.heap.size w w' := by
  have hk : ∀ W, Calls Try.prog 34 #[.int .i64 1] W fun e w' => e = .returned (.iface 93 (.agg #[])) ∧ Below W.heap.size W w' := fun W => (kind_ins W).mono fun _ _ ⟨h1, h2⟩ => ⟨h1, by rw [h2]; exact Below.refl _ _⟩
  have hm := meth_ins_partsE
  have hB := EBox.new s q c 1 a l t w 49
  go_enter Try.func28, Try.ntmps28
  go_wp2_with fail
  refine (hAny _ hB.2.2.2.2.2.2.2).mono ?_
  rintro e w1 ⟨rfl, hb⟩
  have hB := hB.keep hb
  clear hb
  go_wp2_with fail
  refine wp_region_held_drew (S := fun W => EBox w.heap.size s q c 1 a l t w W) (by kernel_rfl) (hB.keep (Below.refl _ _).drew) (fun hHeld => ?_)
  clear hB
  refine wpAnyH_take (i := 0) (v := .pointer (some ⟨w.heap.size, 0, none⟩)) rfl (by kernel_rfl) (by kernel_rfl) (by kernel_rfl) (fun _ _ _ h => h) (Or.inl ⟨rfl, fun W hS => by go_simp⟩) (by assumption) ?_
  refine wpAnyH_take (i := 1) (v := .pointer (some ⟨w.heap.size, 2, none⟩)) rfl (by kernel_rfl) (by kernel_rfl) (by kernel_rfl) (fun _ _ _ h => h) (Or.inl ⟨rfl, fun W hS => by go_simp⟩) (by assumption) ?_
  simp only [Act.put, List.getElem_toArray, List.getElem_cons_succ, List.getElem_cons_zero, List.setIfInBounds_toArray, List.set_cons_zero, List.set_cons_succ]
  refine wpAnyH_take (i := 2) (v := .pointer (some ⟨w.heap.size, 3, none⟩)) rfl (by kernel_rfl) (by kernel_rfl) (by kernel_rfl) (fun _ _ _ h => h) (Or.inl ⟨rfl, fun W hS => by go_simp⟩) (by assumption) ?_
  simp only [Act.put, List.getElem_toArray, List.getElem_cons_succ, List.getElem_cons_zero, List.setIfInBounds_toArray, List.set_cons_zero, List.set_cons_succ]
  refine wpAnyH_take (i := 5) (v := .pointer (some ⟨w.heap.size, 3, none⟩)) rfl (by kernel_rfl) (by kernel_rfl) (by kernel_rfl) (fun _ _ _ h => h) (Or.inl ⟨rfl, fun W hS => by go_simp⟩) (by assumption) ?_
  simp only [Act.put, List.getElem_toArray, List.getElem_cons_succ, List.getElem_cons_zero, List.setIfInBounds_toArray, List.set_cons_zero, List.set_cons_succ]
  refine wpAnyH_take (i := 6) (v := .int .i64 1) rfl (by kernel_rfl) (by kernel_rfl) (by kernel_rfl) (fun _ _ _ h => h) (Or.inl ⟨rfl, fun W hS => ?_⟩) (by assumption) ?_
  · obtain ⟨c0, c1, c2, c3, c4, c5, c6, -⟩ := hS
    go_simp
  simp only [Act.put, List.getElem_toArray, List.getElem_cons_succ, List.getElem_cons_zero, List.setIfInBounds_toArray, List.set_cons_zero, List.set_cons_succ]
  refine wpAnyH_ready (rs := [3]) (by kernel_rfl) (by simp) (AllReadyH.cons rfl (fun K hK => ?_) AllReadyH.nil)
  go_simp
  go_wp2_with (go_at_call 45; refine (head_any _ _).mono ?_; rintro e wq ⟨v1, rfl, hv1, hb⟩; obtain ⟨ao1, cap1, rfl, -⟩ := id hv1)
  refine hK.out _ _ (hHeld.keep hb) (fun hX => ?_)
  clear hK K hHeld
  have hHeld := hX
  clear hX
  refine wpAnyH_ready (rs := [4]) (by kernel_rfl) (by simp) (AllReadyH.cons rfl (fun K hK => ?_) AllReadyH.nil)
  go_simp
  go_wp2_with (go_at_call 44; refine (hP1 _ _ hHeld hv1).mono ?_; rintro e wq ⟨rfl, hb⟩)
  refine hK.out _ _ (hHeld.keep hb) (fun hX => ?_)
  clear hK K hHeld
  have hHeld := hX
  clear hX
  clear hv1
  refine wpAnyH_ready (rs := [7]) (by kernel_rfl) (by simp) (AllReadyH.cons rfl (fun K hK => ?_) AllReadyH.nil)
  go_simp
  go_wp2_with (go_at_call 34; refine (hk _).mono ?_; rintro e wq ⟨rfl, hb⟩)
  refine hK.out _ _ (hHeld.keep hb) (fun hX => ?_)
  clear hK K hHeld
  have hHeld := hX
  clear hX
  refine wpAnyH_ready (rs := [8]) (by kernel_rfl) (by simp) (AllReadyH.cons rfl (fun K hK => ?_) AllReadyH.nil)
  go_simp
  go_wp2_with (go_at_call 83; refine (insPartsE_any _ _).mono ?_; rintro e wq ⟨v2, rfl, hv2, hb⟩; obtain ⟨ao2, cap2, rfl, -⟩ := id hv2)
  refine hK.out _ _ (hHeld.keep hb) (fun hX => ?_)
  clear hK K hHeld
  have hHeld := hX
  clear hX
  refine wpAnyH_ready (rs := [9]) (by kernel_rfl) (by simp) (AllReadyH.cons rfl (fun K hK => ?_) AllReadyH.nil)
  go_simp
  go_wp2_with (go_at_call 44; refine (hP2 _ _ hHeld hv2).mono ?_; rintro e wq ⟨rfl, hb⟩)
  refine hK.out _ _ (hHeld.keep hb) (fun hX => ?_)
  clear hK K hHeld
  have hHeld := hX
  clear hX
  clear hv2
  refine wpAnyH_take (i := 10) (v := .string (A1 ++ A2)) rfl (by kernel_rfl) (by kernel_rfl) (by kernel_rfl) (fun _ _ _ h => h) (Or.inl ⟨rfl, fun W hS => by go_simp; omega⟩) (by assumption) ?_
  simp only [Act.put, List.getElem_toArray, List.getElem_cons_succ, List.getElem_cons_zero, List.setIfInBounds_toArray, List.set_cons_zero, List.set_cons_succ]
  refine wpAnyH_take (i := 11) (v := .string (A1 ++ A2)) rfl (by kernel_rfl) (by kernel_rfl) (by kernel_rfl) (fun _ _ _ h => h) (Or.inl ⟨rfl, fun W hS => by go_simp⟩) (by assumption) ?_
  simp only [Act.put, List.getElem_toArray, List.getElem_cons_succ, List.getElem_cons_zero, List.setIfInBounds_toArray, List.set_cons_zero, List.set_cons_succ]
  refine wpAnyH_take (i := 12) (v := .int .i64 0) rfl (by kernel_rfl) (by kernel_rfl) (by kernel_rfl) (fun _ _ _ h => h) (Or.inl ⟨rfl, fun W hS => by go_simp⟩) (by assumption) ?_
  simp only [Act.put, List.getElem_toArray, List.getElem_cons_succ, List.getElem_cons_zero, List.setIfInBounds_toArray, List.set_cons_zero, List.set_cons_succ]
  refine wpAnyH_done (by kernel_rfl) ?_ _
  have hz := hHeld.2.2.2.2.2.2.2
  go_wp2
  go_ret2
  exact ⟨rfl, hz⟩
set_option maxRecDepth 100000 in
set_option maxHeartbeats 8000000 in
theorem putO_del (s q n a : Int) (t : ByteArray) (ao : Option Addr) (x cap : Nat) (A1 A2 : ByteArray) (w : World) (hsz : A1.size + A2.size ≤ 100000000)
    (hAny : ∀ W, Below w.heap.size w W → Calls Try.prog 43 #[.agg #[.int .i64 s, .int .i64 q, .int .i64 n, .int .i64 2, .int .i64 a, .string t, .slice ao x cap]] W fun e w' => e = .returned (.bool true) ∧ Below W.heap.size W w')
    (hP1 : ∀ W v, OBox w.heap.size s q n 2 a t (.slice ao x cap) w W → PtAt W v [numP ⟨w.heap.size, 0, none⟩ 16, numP ⟨w.heap.size, 1, none⟩ 1099511627776, numP ⟨w.heap.size, 2, none⟩ 1099511627776, numP ⟨w.heap.size, 3, none⟩ 2] → Calls Try.prog 44 #[v] W fun e w' => e = .returned (.string A1) ∧ Below W.heap.size W w')
    (hP2 : ∀ W v, OBox w.heap.size s q n 2 a t (.slice ao x cap) w W → PtAt W v [listP ⟨w.heap.size, 6, none⟩] → Calls Try.prog 44 #[v] W fun e w' => e = .returned (.string A2) ∧ Below W.heap.size W w') :
    Calls Try.prog 18 #[.agg #[.int .i64 s, .int .i64 q, .int .i64 n, .int .i64 2, .int .i64 a, .string t, .slice ao x cap]] w fun e w' => e = .returned (.tuple #[.string (A1 ++ A2), .int .i64 0]) ∧ Below w.heap.size w w' := by
  have hk : ∀ W, Calls Try.prog 34 #[.int .i64 2] W fun e w' => e = .returned (.iface 94 (.agg #[])) ∧ Below W.heap.size W w' := fun W => (kind_del W).mono fun _ _ ⟨h1, h2⟩ => ⟨h1, by rw [h2]; exact Below.refl _ _⟩
  have hm := meth_del_parts
  have hB := OBox.new s q n 2 a t (.slice ao x cap) w 26
  go_enter Try.func18, Try.ntmps18
  go_wp2_with fail
  refine (hAny _ hB.2.2.2.2.2.2.2).mono ?_
  rintro e w1 ⟨rfl, hb⟩
  have hB := hB.keep hb
  clear hb
  go_wp2_with fail
  refine wp_region_held_drew (S := fun W => OBox w.heap.size s q n 2 a t (.slice ao x cap) w W) (by kernel_rfl) (hB.keep (Below.refl _ _).drew) (fun hHeld => ?_)
  clear hB
  refine wpAnyH_take (i := 0) (v := .pointer (some ⟨w.heap.size, 0, none⟩)) rfl (by kernel_rfl) (by kernel_rfl) (by kernel_rfl) (fun _ _ _ h => h) (Or.inl ⟨rfl, fun W hS => by go_simp⟩) (by assumption) ?_
  refine wpAnyH_take (i := 1) (v := .pointer (some ⟨w.heap.size, 2, none⟩)) rfl (by kernel_rfl) (by kernel_rfl) (by kernel_rfl) (fun _ _ _ h => h) (Or.inl ⟨rfl, fun W hS => by go_simp⟩) (by assumption) ?_
  simp only [Act.put, List.getElem_toArray, List.getElem_cons_succ, List.getElem_cons_zero, List.setIfInBounds_toArray, List.set_cons_zero, List.set_cons_succ]
  refine wpAnyH_take (i := 2) (v := .pointer (some ⟨w.heap.size, 3, none⟩)) rfl (by kernel_rfl) (by kernel_rfl) (by kernel_rfl) (fun _ _ _ h => h) (Or.inl ⟨rfl, fun W hS => by go_simp⟩) (by assumption) ?_
  simp only [Act.put, List.getElem_toArray, List.getElem_cons_succ, List.getElem_cons_zero, List.setIfInBounds_toArray, List.set_cons_zero, List.set_cons_succ]
  refine wpAnyH_take (i := 5) (v := .pointer (some ⟨w.heap.size, 3, none⟩)) rfl (by kernel_rfl) (by kernel_rfl) (by kernel_rfl) (fun _ _ _ h => h) (Or.inl ⟨rfl, fun W hS => by go_simp⟩) (by assumption) ?_
  simp only [Act.put, List.getElem_toArray, List.getElem_cons_succ, List.getElem_cons_zero, List.setIfInBounds_toArray, List.set_cons_zero, List.set_cons_succ]
  refine wpAnyH_take (i := 6) (v := .int .i64 2) rfl (by kernel_rfl) (by kernel_rfl) (by kernel_rfl) (fun _ _ _ h => h) (Or.inl ⟨rfl, fun W hS => ?_⟩) (by assumption) ?_
  · obtain ⟨c0, c1, c2, c3, c4, c5, c6, -⟩ := hS
    go_simp
  simp only [Act.put, List.getElem_toArray, List.getElem_cons_succ, List.getElem_cons_zero, List.setIfInBounds_toArray, List.set_cons_zero, List.set_cons_succ]
  refine wpAnyH_ready (rs := [3]) (by kernel_rfl) (by simp) (AllReadyH.cons rfl (fun K hK => ?_) AllReadyH.nil)
  go_simp
  go_wp2_with (go_at_call 45; refine (head_any _ _).mono ?_; rintro e wq ⟨v1, rfl, hv1, hb⟩; obtain ⟨ao1, cap1, rfl, -⟩ := id hv1)
  refine hK.out _ _ (hHeld.keep hb) (fun hX => ?_)
  clear hK K hHeld
  have hHeld := hX
  clear hX
  refine wpAnyH_ready (rs := [4]) (by kernel_rfl) (by simp) (AllReadyH.cons rfl (fun K hK => ?_) AllReadyH.nil)
  go_simp
  go_wp2_with (go_at_call 44; refine (hP1 _ _ hHeld hv1).mono ?_; rintro e wq ⟨rfl, hb⟩)
  refine hK.out _ _ (hHeld.keep hb) (fun hX => ?_)
  clear hK K hHeld
  have hHeld := hX
  clear hX
  clear hv1
  refine wpAnyH_ready (rs := [7]) (by kernel_rfl) (by simp) (AllReadyH.cons rfl (fun K hK => ?_) AllReadyH.nil)
  go_simp
  go_wp2_with (go_at_call 34; refine (hk _).mono ?_; rintro e wq ⟨rfl, hb⟩)
  refine hK.out _ _ (hHeld.keep hb) (fun hX => ?_)
  clear hK K hHeld
  have hHeld := hX
  clear hX
  refine wpAnyH_ready (rs := [8]) (by kernel_rfl) (by simp) (AllReadyH.cons rfl (fun K hK => ?_) AllReadyH.nil)
  go_simp
  go_wp2_with (go_at_call 100; refine (delParts_any _ _).mono ?_; rintro e wq ⟨v2, rfl, hv2, hb⟩; obtain ⟨ao2, cap2, rfl, -⟩ := id hv2)
  refine hK.out _ _ (hHeld.keep hb) (fun hX => ?_)
  clear hK K hHeld
  have hHeld := hX
  clear hX
  refine wpAnyH_ready (rs := [9]) (by kernel_rfl) (by simp) (AllReadyH.cons rfl (fun K hK => ?_) AllReadyH.nil)
  go_simp
  go_wp2_with (go_at_call 44; refine (hP2 _ _ hHeld hv2).mono ?_; rintro e wq ⟨rfl, hb⟩)
  refine hK.out _ _ (hHeld.keep hb) (fun hX => ?_)
  clear hK K hHeld
  have hHeld := hX
  clear hX
  clear hv2
  refine wpAnyH_take (i := 10) (v := .string (A1 ++ A2)) rfl (by kernel_rfl) (by kernel_rfl) (by kernel_rfl) (fun _ _ _ h => h) (Or.inl ⟨rfl, fun W hS => by go_simp; omega⟩) (by assumption) ?_
  simp only [Act.put, List.getElem_toArray, List.getElem_cons_succ, List.getElem_cons_zero, List.setIfInBounds_toArray, List.set_cons_zero, List.set_cons_succ]
  refine wpAnyH_take (i := 11) (v := .string (A1 ++ A2)) rfl (by kernel_rfl) (by kernel_rfl) (by kernel_rfl) (fun _ _ _ h => h) (Or.inl ⟨rfl, fun W hS => by go_simp⟩) (by assumption) ?_
  simp only [Act.put, List.getElem_toArray, List.getElem_cons_succ, List.getElem_cons_zero, List.setIfInBounds_toArray, List.set_cons_zero, List.set_cons_succ]
  refine wpAnyH_take (i := 12) (v := .int .i64 0) rfl (by kernel_rfl) (by kernel_rfl) (by kernel_rfl) (fun _ _ _ h => h) (Or.inl ⟨rfl, fun W hS => by go_simp⟩) (by assumption) ?_
  simp only [Act.put, List.getElem_toArray, List.getElem_cons_succ, List.getElem_cons_zero, List.setIfInBounds_toArray, List.set_cons_zero, List.set_cons_succ]
  refine wpAnyH_done (by kernel_rfl) ?_ _
  have hz := hHeld.2.2.2.2.2.2.2
  go_wp2
  go_ret2
  exact ⟨rfl, hz⟩
set_option maxRecDepth 100000 in
set_option maxHeartbeats 8000000 in
theorem putE_del (s q c a l : Int) (t : ByteArray) (A1 A2 : ByteArray) (w : World) (hsz : A1.size + A2.size ≤ 100000000)
    (hAny : ∀ W, Below w.heap.size w W → Calls Try.prog 29 #[.agg #[.int .i64 s, .int .i64 q, .int .i64 c, .int .i64 2, .int .i64 a, .int .i64 l, .string t]] W fun e w' => e = .returned (.bool true) ∧ Below W.heap.size W w')
    (hP1 : ∀ W v, EBox w.heap.size s q c 2 a l t w W → PtAt W v [numP ⟨w.heap.size, 0, none⟩ 16, numP ⟨w.heap.size, 1, none⟩ 1099511627776, numP ⟨w.heap.size, 2, none⟩ 1099511627776, numP ⟨w.heap.size, 3, none⟩ 2] → Calls Try.prog 44 #[v] W fun e w' => e = .returned (.string A1) ∧ Below W.heap.size W w')
    (hP2 : ∀ W v, EBox w.heap.size s q c 2 a l t w W → PtAt W v [numP ⟨w.heap.size, 4, none⟩ 20000, numP ⟨w.heap.size, 5, none⟩ 20000] → Calls Try.prog 44 #[v] W fun e w' => e = .returned (.string A2) ∧ Below W.heap.size W w') :
    Calls Try.prog 28 #[.agg #[.int .i64 s, .int .i64 q, .int .i64 c, .int .i64 2, .int .i64 a, .int .i64 l, .string t]] w fun e w' => e = .returned (.tuple #[.string (A1 ++ A2), .int .i64 0]) ∧ Below w.heap.size w w' := by
  have hk : ∀ W, Calls Try.prog 34 #[.int .i64 2] W fun e w' => e = .returned (.iface 94 (.agg #[])) ∧ Below W.heap.size W w' := fun W => (kind_del W).mono fun _ _ ⟨h1, h2⟩ => ⟨h1, by rw [h2]; exact Below.refl _ _⟩
  have hm := meth_del_partsE
  have hB := EBox.new s q c 2 a l t w 49
  go_enter Try.func28, Try.ntmps28
  go_wp2_with fail
  refine (hAny _ hB.2.2.2.2.2.2.2).mono ?_
  rintro e w1 ⟨rfl, hb⟩
  have hB := hB.keep hb
  clear hb
  go_wp2_with fail
  refine wp_region_held_drew (S := fun W => EBox w.heap.size s q c 2 a l t w W) (by kernel_rfl) (hB.keep (Below.refl _ _).drew) (fun hHeld => ?_)
  clear hB
  refine wpAnyH_take (i := 0) (v := .pointer (some ⟨w.heap.size, 0, none⟩)) rfl (by kernel_rfl) (by kernel_rfl) (by kernel_rfl) (fun _ _ _ h => h) (Or.inl ⟨rfl, fun W hS => by go_simp⟩) (by assumption) ?_
  refine wpAnyH_take (i := 1) (v := .pointer (some ⟨w.heap.size, 2, none⟩)) rfl (by kernel_rfl) (by kernel_rfl) (by kernel_rfl) (fun _ _ _ h => h) (Or.inl ⟨rfl, fun W hS => by go_simp⟩) (by assumption) ?_
  simp only [Act.put, List.getElem_toArray, List.getElem_cons_succ, List.getElem_cons_zero, List.setIfInBounds_toArray, List.set_cons_zero, List.set_cons_succ]
  refine wpAnyH_take (i := 2) (v := .pointer (some ⟨w.heap.size, 3, none⟩)) rfl (by kernel_rfl) (by kernel_rfl) (by kernel_rfl) (fun _ _ _ h => h) (Or.inl ⟨rfl, fun W hS => by go_simp⟩) (by assumption) ?_
  simp only [Act.put, List.getElem_toArray, List.getElem_cons_succ, List.getElem_cons_zero, List.setIfInBounds_toArray, List.set_cons_zero, List.set_cons_succ]
  refine wpAnyH_take (i := 5) (v := .pointer (some ⟨w.heap.size, 3, none⟩)) rfl (by kernel_rfl) (by kernel_rfl) (by kernel_rfl) (fun _ _ _ h => h) (Or.inl ⟨rfl, fun W hS => by go_simp⟩) (by assumption) ?_
  simp only [Act.put, List.getElem_toArray, List.getElem_cons_succ, List.getElem_cons_zero, List.setIfInBounds_toArray, List.set_cons_zero, List.set_cons_succ]
  refine wpAnyH_take (i := 6) (v := .int .i64 2) rfl (by kernel_rfl) (by kernel_rfl) (by kernel_rfl) (fun _ _ _ h => h) (Or.inl ⟨rfl, fun W hS => ?_⟩) (by assumption) ?_
  · obtain ⟨c0, c1, c2, c3, c4, c5, c6, -⟩ := hS
    go_simp
  simp only [Act.put, List.getElem_toArray, List.getElem_cons_succ, List.getElem_cons_zero, List.setIfInBounds_toArray, List.set_cons_zero, List.set_cons_succ]
  refine wpAnyH_ready (rs := [3]) (by kernel_rfl) (by simp) (AllReadyH.cons rfl (fun K hK => ?_) AllReadyH.nil)
  go_simp
  go_wp2_with (go_at_call 45; refine (head_any _ _).mono ?_; rintro e wq ⟨v1, rfl, hv1, hb⟩; obtain ⟨ao1, cap1, rfl, -⟩ := id hv1)
  refine hK.out _ _ (hHeld.keep hb) (fun hX => ?_)
  clear hK K hHeld
  have hHeld := hX
  clear hX
  refine wpAnyH_ready (rs := [4]) (by kernel_rfl) (by simp) (AllReadyH.cons rfl (fun K hK => ?_) AllReadyH.nil)
  go_simp
  go_wp2_with (go_at_call 44; refine (hP1 _ _ hHeld hv1).mono ?_; rintro e wq ⟨rfl, hb⟩)
  refine hK.out _ _ (hHeld.keep hb) (fun hX => ?_)
  clear hK K hHeld
  have hHeld := hX
  clear hX
  clear hv1
  refine wpAnyH_ready (rs := [7]) (by kernel_rfl) (by simp) (AllReadyH.cons rfl (fun K hK => ?_) AllReadyH.nil)
  go_simp
  go_wp2_with (go_at_call 34; refine (hk _).mono ?_; rintro e wq ⟨rfl, hb⟩)
  refine hK.out _ _ (hHeld.keep hb) (fun hX => ?_)
  clear hK K hHeld
  have hHeld := hX
  clear hX
  refine wpAnyH_ready (rs := [8]) (by kernel_rfl) (by simp) (AllReadyH.cons rfl (fun K hK => ?_) AllReadyH.nil)
  go_simp
  go_wp2_with (go_at_call 97; refine (delPartsE_any _ _).mono ?_; rintro e wq ⟨v2, rfl, hv2, hb⟩; obtain ⟨ao2, cap2, rfl, -⟩ := id hv2)
  refine hK.out _ _ (hHeld.keep hb) (fun hX => ?_)
  clear hK K hHeld
  have hHeld := hX
  clear hX
  refine wpAnyH_ready (rs := [9]) (by kernel_rfl) (by simp) (AllReadyH.cons rfl (fun K hK => ?_) AllReadyH.nil)
  go_simp
  go_wp2_with (go_at_call 44; refine (hP2 _ _ hHeld hv2).mono ?_; rintro e wq ⟨rfl, hb⟩)
  refine hK.out _ _ (hHeld.keep hb) (fun hX => ?_)
  clear hK K hHeld
  have hHeld := hX
  clear hX
  clear hv2
  refine wpAnyH_take (i := 10) (v := .string (A1 ++ A2)) rfl (by kernel_rfl) (by kernel_rfl) (by kernel_rfl) (fun _ _ _ h => h) (Or.inl ⟨rfl, fun W hS => by go_simp; omega⟩) (by assumption) ?_
  simp only [Act.put, List.getElem_toArray, List.getElem_cons_succ, List.getElem_cons_zero, List.setIfInBounds_toArray, List.set_cons_zero, List.set_cons_succ]
  refine wpAnyH_take (i := 11) (v := .string (A1 ++ A2)) rfl (by kernel_rfl) (by kernel_rfl) (by kernel_rfl) (fun _ _ _ h => h) (Or.inl ⟨rfl, fun W hS => by go_simp⟩) (by assumption) ?_
  simp only [Act.put, List.getElem_toArray, List.getElem_cons_succ, List.getElem_cons_zero, List.setIfInBounds_toArray, List.set_cons_zero, List.set_cons_succ]
  refine wpAnyH_take (i := 12) (v := .int .i64 0) rfl (by kernel_rfl) (by kernel_rfl) (by kernel_rfl) (fun _ _ _ h => h) (Or.inl ⟨rfl, fun W hS => by go_simp⟩) (by assumption) ?_
  simp only [Act.put, List.getElem_toArray, List.getElem_cons_succ, List.getElem_cons_zero, List.setIfInBounds_toArray, List.set_cons_zero, List.set_cons_succ]
  refine wpAnyH_done (by kernel_rfl) ?_ _
  have hz := hHeld.2.2.2.2.2.2.2
  go_wp2
  go_ret2
  exact ⟨rfl, hz⟩
set_option maxRecDepth 100000 in
set_option maxHeartbeats 8000000 in
theorem putO_no (s q n k a : Int) (t : ByteArray) (ao : Option Addr) (x cap : Nat) (w : World)
    (hAny : ∀ W, Below w.heap.size w W → Calls Try.prog 43 #[.agg #[.int .i64 s, .int .i64 q, .int .i64 n, .int .i64 k, .int .i64 a, .string t, .slice ao x cap]] W fun e w' => e = .returned (.bool false) ∧ Below W.heap.size W w') :
    Calls Try.prog 18 #[.agg #[.int .i64 s, .int .i64 q, .int .i64 n, .int .i64 k, .int .i64 a, .string t, .slice ao x cap]] w fun e w' => e = .returned (.tuple #[.string ⟨#[]⟩, .int .i64 1]) ∧ Below w.heap.size w w' := by
  have hB := OBox.new s q n k a t (.slice ao x cap) w 26
  go_enter Try.func18, Try.ntmps18
  go_wp2_with fail
  refine (hAny _ hB.2.2.2.2.2.2.2).mono ?_
  rintro e w1 ⟨rfl, hb⟩
  have hz := (hB.keep hb).2.2.2.2.2.2.2
  clear hb
  go_wp2
  go_ret2
  exact ⟨rfl, hz⟩
set_option maxRecDepth 100000 in
set_option maxHeartbeats 8000000 in
theorem putE_no (s q c k a l : Int) (t : ByteArray) (w : World)
    (hAny : ∀ W, Below w.heap.size w W → Calls Try.prog 29 #[.agg #[.int .i64 s, .int .i64 q, .int .i64 c, .int .i64 k, .int .i64 a, .int .i64 l, .string t]] W fun e w' => e = .returned (.bool false) ∧ Below W.heap.size W w') :
    Calls Try.prog 28 #[.agg #[.int .i64 s, .int .i64 q, .int .i64 c, .int .i64 k, .int .i64 a, .int .i64 l, .string t]] w fun e w' => e = .returned (.tuple #[.string ⟨#[]⟩, .int .i64 1]) ∧ Below w.heap.size w w' := by
  have hB := EBox.new s q c k a l t w 49
  go_enter Try.func28, Try.ntmps28
  go_wp2_with fail
  refine (hAny _ hB.2.2.2.2.2.2.2).mono ?_
  rintro e w1 ⟨rfl, hb⟩
  have hz := (hB.keep hb).2.2.2.2.2.2.2
  clear hb
  go_wp2
  go_ret2
  exact ⟨rfl, hz⟩
set_option maxRecDepth 100000 in
set_option maxHeartbeats 8000000 in
theorem mayE_noplace (s q c k a l : Int) (t : ByteArray) (w : World) (hs : ¬ (0 ≤ a ∧ a ≤ 20000)) :
    Calls Try.prog 29 #[.agg #[.int .i64 s, .int .i64 q, .int .i64 c, .int .i64 k, .int .i64 a, .int .i64 l, .string t]] w fun e w' => e = .returned (.bool false) ∧ Below w.heap.size w w' := by
  have hp : ∀ W, Calls Try.prog 32 #[.int .i64 a] W fun e w' => e = .returned (.bool false) ∧ Below W.heap.size W w' := fun W => (isPlace_any a W).mono fun _ _ ⟨h1, h2⟩ => ⟨by rw [h1]; rw [decide_eq_false hs], by rw [h2]; exact Below.refl _ _⟩
  have hB := EBox.new s q c k a l t w 49
  clear hs
  go_enter Try.func29, Try.ntmps29
  go_wp2_with fail
  refine wp_region_held_drew (S := fun W => EBox w.heap.size s q c k a l t w W) (by kernel_rfl) (hB.keep (Below.refl _ _).drew) (fun hHeld => ?_)
  clear hB
  refine wpAnyH_take (i := 0) (v := .pointer (some ⟨w.heap.size, 4, none⟩)) rfl (by kernel_rfl) (by kernel_rfl) (by kernel_rfl) (fun _ _ _ h => h) (Or.inl ⟨rfl, fun W hS => by go_simp⟩) (by assumption) ?_
  refine wpAnyH_take (i := 1) (v := .int .i64 a) rfl (by kernel_rfl) (by kernel_rfl) (by kernel_rfl) (fun _ _ _ h => h) (Or.inl ⟨rfl, fun W hS => ?_⟩) (by assumption) ?_
  · obtain ⟨c0, c1, c2, c3, c4, c5, c6, -⟩ := hS
    go_simp
  simp only [Act.put, List.getElem_toArray, List.getElem_cons_succ, List.getElem_cons_zero, List.setIfInBounds_toArray, List.set_cons_zero, List.set_cons_succ]
  refine wpAnyH_ready (rs := [2]) (by kernel_rfl) (by simp) (AllReadyH.cons rfl (fun K hK => ?_) AllReadyH.nil)
  go_simp
  go_wp2_with (go_at_call 32; refine (hp _).mono ?_; rintro e wq ⟨rfl, hb⟩)
  refine hK.out _ _ (hHeld.keep hb) (fun hX => ?_)
  clear hK K hHeld
  have hHeld := hX
  clear hX
  refine wpAnyH_take (i := 3) (v := .bool false) rfl (by kernel_rfl) (by kernel_rfl) (by kernel_rfl) (fun _ _ _ h => h) (Or.inl ⟨rfl, fun W hS => by go_simp⟩) (by assumption) ?_
  simp only [Act.put, List.getElem_toArray, List.getElem_cons_succ, List.getElem_cons_zero, List.setIfInBounds_toArray, List.set_cons_zero, List.set_cons_succ]
  refine wpAnyH_take (i := 4) (v := undef) rfl (by kernel_rfl) (by kernel_rfl) (by kernel_rfl) (fun _ _ _ h => h) (Or.inr ⟨rfl, rfl⟩) (by assumption) ?_
  simp only [Act.put, List.getElem_toArray, List.getElem_cons_succ, List.getElem_cons_zero, List.setIfInBounds_toArray, List.set_cons_zero, List.set_cons_succ]
  refine wpAnyH_take (i := 5) (v := undef) rfl (by kernel_rfl) (by kernel_rfl) (by kernel_rfl) (fun _ _ _ h => h) (Or.inr ⟨rfl, rfl⟩) (by assumption) ?_
  simp only [Act.put, List.getElem_toArray, List.getElem_cons_succ, List.getElem_cons_zero, List.setIfInBounds_toArray, List.set_cons_zero, List.set_cons_succ]
  refine wpAnyH_take (i := 6) (v := undef) rfl (by kernel_rfl) (by kernel_rfl) (by kernel_rfl) (fun _ _ _ h => h) (Or.inr ⟨rfl, rfl⟩) (by assumption) ?_
  simp only [Act.put, List.getElem_toArray, List.getElem_cons_succ, List.getElem_cons_zero, List.setIfInBounds_toArray, List.set_cons_zero, List.set_cons_succ]
  refine wpAnyH_take (i := 7) (v := undef) rfl (by kernel_rfl) (by kernel_rfl) (by kernel_rfl) (fun _ _ _ h => h) (Or.inr ⟨rfl, rfl⟩) (by assumption) ?_
  simp only [Act.put, List.getElem_toArray, List.getElem_cons_succ, List.getElem_cons_zero, List.setIfInBounds_toArray, List.set_cons_zero, List.set_cons_succ]
  refine wpAnyH_take (i := 8) (v := undef) rfl (by kernel_rfl) (by kernel_rfl) (by kernel_rfl) (fun _ _ _ h => h) (Or.inr ⟨rfl, rfl⟩) (by assumption) ?_
  simp only [Act.put, List.getElem_toArray, List.getElem_cons_succ, List.getElem_cons_zero, List.setIfInBounds_toArray, List.set_cons_zero, List.set_cons_succ]
  refine wpAnyH_take (i := 9) (v := .bool false) rfl (by kernel_rfl) (by kernel_rfl) (by kernel_rfl) (fun _ _ _ h => h) (Or.inl ⟨rfl, fun W hS => by go_simp⟩) (by assumption) ?_
  simp only [Act.put, List.getElem_toArray, List.getElem_cons_succ, List.getElem_cons_zero, List.setIfInBounds_toArray, List.set_cons_zero, List.set_cons_succ]
  refine wpAnyH_take (i := 10) (v := .bool false) rfl (by kernel_rfl) (by kernel_rfl) (by kernel_rfl) (fun _ _ _ h => h) (Or.inl ⟨rfl, fun W hS => by go_simp⟩) (by assumption) ?_
  simp only [Act.put, List.getElem_toArray, List.getElem_cons_succ, List.getElem_cons_zero, List.setIfInBounds_toArray, List.set_cons_zero, List.set_cons_succ]
  refine wpAnyH_take (i := 11) (v := undef) rfl (by kernel_rfl) (by kernel_rfl) (by kernel_rfl) (fun _ _ _ h => h) (Or.inr ⟨rfl, rfl⟩) (by assumption) ?_
  simp only [Act.put, List.getElem_toArray, List.getElem_cons_succ, List.getElem_cons_zero, List.setIfInBounds_toArray, List.set_cons_zero, List.set_cons_succ]
  refine wpAnyH_take (i := 12) (v := undef) rfl (by kernel_rfl) (by kernel_rfl) (by kernel_rfl) (fun _ _ _ h => h) (Or.inr ⟨rfl, rfl⟩) (by assumption) ?_
  simp only [Act.put, List.getElem_toArray, List.getElem_cons_succ, List.getElem_cons_zero, List.setIfInBounds_toArray, List.set_cons_zero, List.set_cons_succ]
  refine wpAnyH_take (i := 13) (v := undef) rfl (by kernel_rfl) (by kernel_rfl) (by kernel_rfl) (fun _ _ _ h => h) (Or.inr ⟨rfl, rfl⟩) (by assumption) ?_
  simp only [Act.put, List.getElem_toArray, List.getElem_cons_succ, List.getElem_cons_zero, List.setIfInBounds_toArray, List.set_cons_zero, List.set_cons_succ]
  refine wpAnyH_take (i := 14) (v := undef) rfl (by kernel_rfl) (by kernel_rfl) (by kernel_rfl) (fun _ _ _ h => h) (Or.inr ⟨rfl, rfl⟩) (by assumption) ?_
  simp only [Act.put, List.getElem_toArray, List.getElem_cons_succ, List.getElem_cons_zero, List.setIfInBounds_toArray, List.set_cons_zero, List.set_cons_succ]
  refine wpAnyH_take (i := 15) (v := undef) rfl (by kernel_rfl) (by kernel_rfl) (by kernel_rfl) (fun _ _ _ h => h) (Or.inr ⟨rfl, rfl⟩) (by assumption) ?_
  simp only [Act.put, List.getElem_toArray, List.getElem_cons_succ, List.getElem_cons_zero, List.setIfInBounds_toArray, List.set_cons_zero, List.set_cons_succ]
  refine wpAnyH_take (i := 16) (v := .bool false) rfl (by kernel_rfl) (by kernel_rfl) (by kernel_rfl) (fun _ _ _ h => h) (Or.inl ⟨rfl, fun W hS => by go_simp⟩) (by assumption) ?_
  simp only [Act.put, List.getElem_toArray, List.getElem_cons_succ, List.getElem_cons_zero, List.setIfInBounds_toArray, List.set_cons_zero, List.set_cons_succ]
  refine wpAnyH_take (i := 17) (v := .bool false) rfl (by kernel_rfl) (by kernel_rfl) (by kernel_rfl) (fun _ _ _ h => h) (Or.inl ⟨rfl, fun W hS => by go_simp⟩) (by assumption) ?_
  simp only [Act.put, List.getElem_toArray, List.getElem_cons_succ, List.getElem_cons_zero, List.setIfInBounds_toArray, List.set_cons_zero, List.set_cons_succ]
  refine wpAnyH_done (by kernel_rfl) ?_ _
  have hz := hHeld.2.2.2.2.2.2.2
  go_wp2
  go_ret
  exact ⟨rfl, hz⟩
set_option maxRecDepth 100000 in
set_option maxHeartbeats 8000000 in
theorem mayE_nohead (s q c k a l : Int) (t : ByteArray) (w : World) (hs : 0 ≤ a ∧ a ≤ 20000) (hhd : (nMay s q && decide (0 ≤ c ∧ c ≤ 1099511627776)) = false) :
    Calls Try.prog 29 #[.agg #[.int .i64 s, .int .i64 q, .int .i64 c, .int .i64 k, .int .i64 a, .int .i64 l, .string t]] w fun e w' => e = .returned (.bool false) ∧ Below w.heap.size w w' := by
  have hp : ∀ W, Calls Try.prog 32 #[.int .i64 a] W fun e w' => e = .returned (.bool true) ∧ Below W.heap.size W w' := fun W => (isPlace_any a W).mono fun _ _ ⟨h1, h2⟩ => ⟨by rw [h1]; rw [decide_eq_true hs], by rw [h2]; exact Below.refl _ _⟩
  have hh : ∀ W, Calls Try.prog 33 #[.agg #[.int .i64 s, .int .i64 q], .int .i64 c] W fun e w' => e = .returned (.bool false) ∧ Below W.heap.size W w' := fun W => (mayHead_any s q c W).mono fun _ _ ⟨h1, h2⟩ => ⟨by rw [h1, hhd], h2⟩
  have hB := EBox.new s q c k a l t w 49
  clear hs hhd
  go_enter Try.func29, Try.ntmps29
  go_wp2_with fail
  refine wp_region_held_drew (S := fun W => EBox w.heap.size s q c k a l t w W) (by kernel_rfl) (hB.keep (Below.refl _ _).drew) (fun hHeld => ?_)
  clear hB
  refine wpAnyH_take (i := 0) (v := .pointer (some ⟨w.heap.size, 4, none⟩)) rfl (by kernel_rfl) (by kernel_rfl) (by kernel_rfl) (fun _ _ _ h => h) (Or.inl ⟨rfl, fun W hS => by go_simp⟩) (by assumption) ?_
  refine wpAnyH_take (i := 1) (v := .int .i64 a) rfl (by kernel_rfl) (by kernel_rfl) (by kernel_rfl) (fun _ _ _ h => h) (Or.inl ⟨rfl, fun W hS => ?_⟩) (by assumption) ?_
  · obtain ⟨c0, c1, c2, c3, c4, c5, c6, -⟩ := hS
    go_simp
  simp only [Act.put, List.getElem_toArray, List.getElem_cons_succ, List.getElem_cons_zero, List.setIfInBounds_toArray, List.set_cons_zero, List.set_cons_succ]
  refine wpAnyH_ready (rs := [2]) (by kernel_rfl) (by simp) (AllReadyH.cons rfl (fun K hK => ?_) AllReadyH.nil)
  go_simp
  go_wp2_with (go_at_call 32; refine (hp _).mono ?_; rintro e wq ⟨rfl, hb⟩)
  refine hK.out _ _ (hHeld.keep hb) (fun hX => ?_)
  clear hK K hHeld
  have hHeld := hX
  clear hX
  refine wpAnyH_take (i := 3) (v := .bool true) rfl (by kernel_rfl) (by kernel_rfl) (by kernel_rfl) (fun _ _ _ h => h) (Or.inl ⟨rfl, fun W hS => by go_simp⟩) (by assumption) ?_
  simp only [Act.put, List.getElem_toArray, List.getElem_cons_succ, List.getElem_cons_zero, List.setIfInBounds_toArray, List.set_cons_zero, List.set_cons_succ]
  refine wpAnyH_take (i := 4) (v := .pointer (some ⟨w.heap.size, 0, none⟩)) rfl (by kernel_rfl) (by kernel_rfl) (by kernel_rfl) (fun _ _ _ h => h) (Or.inl ⟨rfl, fun W hS => by go_simp⟩) (by assumption) ?_
  simp only [Act.put, List.getElem_toArray, List.getElem_cons_succ, List.getElem_cons_zero, List.setIfInBounds_toArray, List.set_cons_zero, List.set_cons_succ]
  refine wpAnyH_take (i := 5) (v := .agg #[.int .i64 s, .int .i64 q]) rfl (by kernel_rfl) (by kernel_rfl) (by kernel_rfl) (fun _ _ _ h => h) (Or.inl ⟨rfl, fun W hS => ?_⟩) (by assumption) ?_
  · obtain ⟨c0, c1, c2, c3, c4, c5, c6, -⟩ := hS
    go_simp
  simp only [Act.put, List.getElem_toArray, List.getElem_cons_succ, List.getElem_cons_zero, List.setIfInBounds_toArray, List.set_cons_zero, List.set_cons_succ]
  refine wpAnyH_take (i := 6) (v := .pointer (some ⟨w.heap.size, 2, none⟩)) rfl (by kernel_rfl) (by kernel_rfl) (by kernel_rfl) (fun _ _ _ h => h) (Or.inl ⟨rfl, fun W hS => by go_simp⟩) (by assumption) ?_
  simp only [Act.put, List.getElem_toArray, List.getElem_cons_succ, List.getElem_cons_zero, List.setIfInBounds_toArray, List.set_cons_zero, List.set_cons_succ]
  refine wpAnyH_take (i := 7) (v := .int .i64 c) rfl (by kernel_rfl) (by kernel_rfl) (by kernel_rfl) (fun _ _ _ h => h) (Or.inl ⟨rfl, fun W hS => ?_⟩) (by assumption) ?_
  · obtain ⟨c0, c1, c2, c3, c4, c5, c6, -⟩ := hS
    go_simp
  simp only [Act.put, List.getElem_toArray, List.getElem_cons_succ, List.getElem_cons_zero, List.setIfInBounds_toArray, List.set_cons_zero, List.set_cons_succ]
  refine wpAnyH_ready (rs := [8]) (by kernel_rfl) (by simp) (AllReadyH.cons rfl (fun K hK => ?_) AllReadyH.nil)
  go_simp
  go_wp2_with (go_at_call 33; refine (hh _).mono ?_; rintro e wq ⟨rfl, hb⟩)
  refine hK.out _ _ (hHeld.keep hb) (fun hX => ?_)
  clear hK K hHeld
  have hHeld := hX
  clear hX
  refine wpAnyH_take (i := 9) (v := .bool false) rfl (by kernel_rfl) (by kernel_rfl) (by kernel_rfl) (fun _ _ _ h => h) (Or.inl ⟨rfl, fun W hS => by go_simp⟩) (by assumption) ?_
  simp only [Act.put, List.getElem_toArray, List.getElem_cons_succ, List.getElem_cons_zero, List.setIfInBounds_toArray, List.set_cons_zero, List.set_cons_succ]
  refine wpAnyH_take (i := 10) (v := .bool false) rfl (by kernel_rfl) (by kernel_rfl) (by kernel_rfl) (fun _ _ _ h => h) (Or.inl ⟨rfl, fun W hS => by go_simp⟩) (by assumption) ?_
  simp only [Act.put, List.getElem_toArray, List.getElem_cons_succ, List.getElem_cons_zero, List.setIfInBounds_toArray, List.set_cons_zero, List.set_cons_succ]
  refine wpAnyH_take (i := 11) (v := undef) rfl (by kernel_rfl) (by kernel_rfl) (by kernel_rfl) (fun _ _ _ h => h) (Or.inr ⟨rfl, rfl⟩) (by assumption) ?_
  simp only [Act.put, List.getElem_toArray, List.getElem_cons_succ, List.getElem_cons_zero, List.setIfInBounds_toArray, List.set_cons_zero, List.set_cons_succ]
  refine wpAnyH_take (i := 12) (v := undef) rfl (by kernel_rfl) (by kernel_rfl) (by kernel_rfl) (fun _ _ _ h => h) (Or.inr ⟨rfl, rfl⟩) (by assumption) ?_
  simp only [Act.put, List.getElem_toArray, List.getElem_cons_succ, List.getElem_cons_zero, List.setIfInBounds_toArray, List.set_cons_zero, List.set_cons_succ]
  refine wpAnyH_take (i := 13) (v := undef) rfl (by kernel_rfl) (by kernel_rfl) (by kernel_rfl) (fun _ _ _ h => h) (Or.inr ⟨rfl, rfl⟩) (by assumption) ?_
  simp only [Act.put, List.getElem_toArray, List.getElem_cons_succ, List.getElem_cons_zero, List.setIfInBounds_toArray, List.set_cons_zero, List.set_cons_succ]
  refine wpAnyH_take (i := 14) (v := undef) rfl (by kernel_rfl) (by kernel_rfl) (by kernel_rfl) (fun _ _ _ h => h) (Or.inr ⟨rfl, rfl⟩) (by assumption) ?_
  simp only [Act.put, List.getElem_toArray, List.getElem_cons_succ, List.getElem_cons_zero, List.setIfInBounds_toArray, List.set_cons_zero, List.set_cons_succ]
  refine wpAnyH_take (i := 15) (v := undef) rfl (by kernel_rfl) (by kernel_rfl) (by kernel_rfl) (fun _ _ _ h => h) (Or.inr ⟨rfl, rfl⟩) (by assumption) ?_
  simp only [Act.put, List.getElem_toArray, List.getElem_cons_succ, List.getElem_cons_zero, List.setIfInBounds_toArray, List.set_cons_zero, List.set_cons_succ]
  refine wpAnyH_take (i := 16) (v := .bool false) rfl (by kernel_rfl) (by kernel_rfl) (by kernel_rfl) (fun _ _ _ h => h) (Or.inl ⟨rfl, fun W hS => by go_simp⟩) (by assumption) ?_
  simp only [Act.put, List.getElem_toArray, List.getElem_cons_succ, List.getElem_cons_zero, List.setIfInBounds_toArray, List.set_cons_zero, List.set_cons_succ]
  refine wpAnyH_take (i := 17) (v := .bool false) rfl (by kernel_rfl) (by kernel_rfl) (by kernel_rfl) (fun _ _ _ h => h) (Or.inl ⟨rfl, fun W hS => by go_simp⟩) (by assumption) ?_
  simp only [Act.put, List.getElem_toArray, List.getElem_cons_succ, List.getElem_cons_zero, List.setIfInBounds_toArray, List.set_cons_zero, List.set_cons_succ]
  refine wpAnyH_done (by kernel_rfl) ?_ _
  have hz := hHeld.2.2.2.2.2.2.2
  go_wp2
  go_ret
  exact ⟨rfl, hz⟩
set_option maxRecDepth 100000 in
set_option maxHeartbeats 8000000 in
theorem mayE_ins (s q c a l : Int) (t : ByteArray) (r : Bool) (w : World) (hs : 0 ≤ a ∧ a ≤ 20000) (hhd : (nMay s q && decide (0 ≤ c ∧ c ≤ 1099511627776)) = true)
    (hC : ∀ W, Below w.heap.size w W → Calls Try.prog 85 #[.agg #[], .agg #[.int .i64 s, .int .i64 q, .int .i64 c, .int .i64 1, .int .i64 a, .int .i64 l, .string t]] W fun e w' => e = .returned (.bool r) ∧ Below W.heap.size W w') :
    Calls Try.prog 29 #[.agg #[.int .i64 s, .int .i64 q, .int .i64 c, .int .i64 1, .int .i64 a, .int .i64 l, .string t]] w fun e w' => e = .returned (.bool r) ∧ Below w.heap.size w w' := by
  have hp : ∀ W, Calls Try.prog 32 #[.int .i64 a] W fun e w' => e = .returned (.bool true) ∧ Below W.heap.size W w' := fun W => (isPlace_any a W).mono fun _ _ ⟨h1, h2⟩ => ⟨by rw [h1]; rw [decide_eq_true hs], by rw [h2]; exact Below.refl _ _⟩
  have hh : ∀ W, Calls Try.prog 33 #[.agg #[.int .i64 s, .int .i64 q], .int .i64 c] W fun e w' => e = .returned (.bool true) ∧ Below W.heap.size W w' := fun W => (mayHead_any s q c W).mono fun _ _ ⟨h1, h2⟩ => ⟨by rw [h1, hhd], h2⟩
  have hk : ∀ W, Calls Try.prog 34 #[.int .i64 1] W fun e w' => e = .returned (.iface 93 (.agg #[])) ∧ Below W.heap.size W w' := fun W => (kind_ins W).mono fun _ _ ⟨h1, h2⟩ => ⟨h1, by rw [h2]; exact Below.refl _ _⟩
  have hm := meth_ins_mayE
  have hB := EBox.new s q c 1 a l t w 49
  clear hs hhd
  go_enter Try.func29, Try.ntmps29
  go_wp2_with fail
  refine wp_region_held_drew (S := fun W => EBox w.heap.size s q c 1 a l t w W) (by kernel_rfl) (hB.keep (Below.refl _ _).drew) (fun hHeld => ?_)
  clear hB
  refine wpAnyH_take (i := 0) (v := .pointer (some ⟨w.heap.size, 4, none⟩)) rfl (by kernel_rfl) (by kernel_rfl) (by kernel_rfl) (fun _ _ _ h => h) (Or.inl ⟨rfl, fun W hS => by go_simp⟩) (by assumption) ?_
  refine wpAnyH_take (i := 1) (v := .int .i64 a) rfl (by kernel_rfl) (by kernel_rfl) (by kernel_rfl) (fun _ _ _ h => h) (Or.inl ⟨rfl, fun W hS => ?_⟩) (by assumption) ?_
  · obtain ⟨c0, c1, c2, c3, c4, c5, c6, -⟩ := hS
    go_simp
  simp only [Act.put, List.getElem_toArray, List.getElem_cons_succ, List.getElem_cons_zero, List.setIfInBounds_toArray, List.set_cons_zero, List.set_cons_succ]
  refine wpAnyH_ready (rs := [2]) (by kernel_rfl) (by simp) (AllReadyH.cons rfl (fun K hK => ?_) AllReadyH.nil)
  go_simp
  go_wp2_with (go_at_call 32; refine (hp _).mono ?_; rintro e wq ⟨rfl, hb⟩)
  refine hK.out _ _ (hHeld.keep hb) (fun hX => ?_)
  clear hK K hHeld
  have hHeld := hX
  clear hX
  refine wpAnyH_take (i := 3) (v := .bool true) rfl (by kernel_rfl) (by kernel_rfl) (by kernel_rfl) (fun _ _ _ h => h) (Or.inl ⟨rfl, fun W hS => by go_simp⟩) (by assumption) ?_
  simp only [Act.put, List.getElem_toArray, List.getElem_cons_succ, List.getElem_cons_zero, List.setIfInBounds_toArray, List.set_cons_zero, List.set_cons_succ]
  refine wpAnyH_take (i := 4) (v := .pointer (some ⟨w.heap.size, 0, none⟩)) rfl (by kernel_rfl) (by kernel_rfl) (by kernel_rfl) (fun _ _ _ h => h) (Or.inl ⟨rfl, fun W hS => by go_simp⟩) (by assumption) ?_
  simp only [Act.put, List.getElem_toArray, List.getElem_cons_succ, List.getElem_cons_zero, List.setIfInBounds_toArray, List.set_cons_zero, List.set_cons_succ]
  refine wpAnyH_take (i := 5) (v := .agg #[.int .i64 s, .int .i64 q]) rfl (by kernel_rfl) (by kernel_rfl) (by kernel_rfl) (fun _ _ _ h => h) (Or.inl ⟨rfl, fun W hS => ?_⟩) (by assumption) ?_
  · obtain ⟨c0, c1, c2, c3, c4, c5, c6, -⟩ := hS
    go_simp
  simp only [Act.put, List.getElem_toArray, List.getElem_cons_succ, List.getElem_cons_zero, List.setIfInBounds_toArray, List.set_cons_zero, List.set_cons_succ]
  refine wpAnyH_take (i := 6) (v := .pointer (some ⟨w.heap.size, 2, none⟩)) rfl (by kernel_rfl) (by kernel_rfl) (by kernel_rfl) (fun _ _ _ h => h) (Or.inl ⟨rfl, fun W hS => by go_simp⟩) (by assumption) ?_
  simp only [Act.put, List.getElem_toArray, List.getElem_cons_succ, List.getElem_cons_zero, List.setIfInBounds_toArray, List.set_cons_zero, List.set_cons_succ]
  refine wpAnyH_take (i := 7) (v := .int .i64 c) rfl (by kernel_rfl) (by kernel_rfl) (by kernel_rfl) (fun _ _ _ h => h) (Or.inl ⟨rfl, fun W hS => ?_⟩) (by assumption) ?_
  · obtain ⟨c0, c1, c2, c3, c4, c5, c6, -⟩ := hS
    go_simp
  simp only [Act.put, List.getElem_toArray, List.getElem_cons_succ, List.getElem_cons_zero, List.setIfInBounds_toArray, List.set_cons_zero, List.set_cons_succ]
  refine wpAnyH_ready (rs := [8]) (by kernel_rfl) (by simp) (AllReadyH.cons rfl (fun K hK => ?_) AllReadyH.nil)
  go_simp
  go_wp2_with (go_at_call 33; refine (hh _).mono ?_; rintro e wq ⟨rfl, hb⟩)
  refine hK.out _ _ (hHeld.keep hb) (fun hX => ?_)
  clear hK K hHeld
  have hHeld := hX
  clear hX
  refine wpAnyH_take (i := 9) (v := .bool true) rfl (by kernel_rfl) (by kernel_rfl) (by kernel_rfl) (fun _ _ _ h => h) (Or.inl ⟨rfl, fun W hS => by go_simp⟩) (by assumption) ?_
  simp only [Act.put, List.getElem_toArray, List.getElem_cons_succ, List.getElem_cons_zero, List.setIfInBounds_toArray, List.set_cons_zero, List.set_cons_succ]
  refine wpAnyH_take (i := 10) (v := .bool true) rfl (by kernel_rfl) (by kernel_rfl) (by kernel_rfl) (fun _ _ _ h => h) (Or.inl ⟨rfl, fun W hS => by go_simp⟩) (by assumption) ?_
  simp only [Act.put, List.getElem_toArray, List.getElem_cons_succ, List.getElem_cons_zero, List.setIfInBounds_toArray, List.set_cons_zero, List.set_cons_succ]
  refine wpAnyH_take (i := 11) (v := .pointer (some ⟨w.heap.size, 3, none⟩)) rfl (by kernel_rfl) (by kernel_rfl) (by kernel_rfl) (fun _ _ _ h => h) (Or.inl ⟨rfl, fun W hS => by go_simp⟩) (by assumption) ?_
  simp only [Act.put, List.getElem_toArray, List.getElem_cons_succ, List.getElem_cons_zero, List.setIfInBounds_toArray, List.set_cons_zero, List.set_cons_succ]
  refine wpAnyH_take (i := 12) (v := .int .i64 1) rfl (by kernel_rfl) (by kernel_rfl) (by kernel_rfl) (fun _ _ _ h => h) (Or.inl ⟨rfl, fun W hS => ?_⟩) (by assumption) ?_
  · obtain ⟨c0, c1, c2, c3, c4, c5, c6, -⟩ := hS
    go_simp
  simp only [Act.put, List.getElem_toArray, List.getElem_cons_succ, List.getElem_cons_zero, List.setIfInBounds_toArray, List.set_cons_zero, List.set_cons_succ]
  refine wpAnyH_take (i := 14) (v := .agg #[.int .i64 s, .int .i64 q, .int .i64 c, .int .i64 1, .int .i64 a, .int .i64 l, .string t]) rfl (by kernel_rfl) (by kernel_rfl) (by kernel_rfl) (fun _ _ _ h => h) (Or.inl ⟨rfl, fun W hS => ?_⟩) (by assumption) ?_
  · obtain ⟨c0, c1, c2, c3, c4, c5, c6, -⟩ := hS
    go_simp
  simp only [Act.put, List.getElem_toArray, List.getElem_cons_succ, List.getElem_cons_zero, List.setIfInBounds_toArray, List.set_cons_zero, List.set_cons_succ]
  refine wpAnyH_ready (rs := [13]) (by kernel_rfl) (by simp) (AllReadyH.cons rfl (fun K hK => ?_) AllReadyH.nil)
  go_simp
  go_wp2_with (go_at_call 34; refine (hk _).mono ?_; rintro e wq ⟨rfl, hb⟩)
  refine hK.out _ _ (hHeld.keep hb) (fun hX => ?_)
  clear hK K hHeld
  have hHeld := hX
  clear hX
  refine wpAnyH_ready (rs := [15]) (by kernel_rfl) (by simp) (AllReadyH.cons rfl (fun K hK => ?_) AllReadyH.nil)
  go_simp
  go_wp2_with (go_at_call 85; refine (hC _ hHeld.2.2.2.2.2.2.2).mono ?_; rintro e wq ⟨rfl, hb⟩)
  refine hK.out _ _ (hHeld.keep hb) (fun hX => ?_)
  clear hK K hHeld
  have hHeld := hX
  clear hX
  refine wpAnyH_take (i := 16) (v := .bool r) rfl (by kernel_rfl) (by kernel_rfl) (by kernel_rfl) (fun _ _ _ h => h) (Or.inl ⟨rfl, fun W hS => by go_simp⟩) (by assumption) ?_
  simp only [Act.put, List.getElem_toArray, List.getElem_cons_succ, List.getElem_cons_zero, List.setIfInBounds_toArray, List.set_cons_zero, List.set_cons_succ]
  refine wpAnyH_take (i := 17) (v := .bool r) rfl (by kernel_rfl) (by kernel_rfl) (by kernel_rfl) (fun _ _ _ h => h) (Or.inl ⟨rfl, fun W hS => by go_simp⟩) (by assumption) ?_
  simp only [Act.put, List.getElem_toArray, List.getElem_cons_succ, List.getElem_cons_zero, List.setIfInBounds_toArray, List.set_cons_zero, List.set_cons_succ]
  refine wpAnyH_done (by kernel_rfl) ?_ _
  have hz := hHeld.2.2.2.2.2.2.2
  go_wp2
  go_ret
  exact ⟨rfl, hz⟩
set_option maxRecDepth 100000 in
set_option maxHeartbeats 8000000 in
theorem mayE_del (s q c a l : Int) (t : ByteArray) (r : Bool) (w : World) (hs : 0 ≤ a ∧ a ≤ 20000) (hhd : (nMay s q && decide (0 ≤ c ∧ c ≤ 1099511627776)) = true)
    (hC : ∀ W, Below w.heap.size w W → Calls Try.prog 99 #[.agg #[], .agg #[.int .i64 s, .int .i64 q, .int .i64 c, .int .i64 2, .int .i64 a, .int .i64 l, .string t]] W fun e w' => e = .returned (.bool r) ∧ Below W.heap.size W w') :
    Calls Try.prog 29 #[.agg #[.int .i64 s, .int .i64 q, .int .i64 c, .int .i64 2, .int .i64 a, .int .i64 l, .string t]] w fun e w' => e = .returned (.bool r) ∧ Below w.heap.size w w' := by
  have hp : ∀ W, Calls Try.prog 32 #[.int .i64 a] W fun e w' => e = .returned (.bool true) ∧ Below W.heap.size W w' := fun W => (isPlace_any a W).mono fun _ _ ⟨h1, h2⟩ => ⟨by rw [h1]; rw [decide_eq_true hs], by rw [h2]; exact Below.refl _ _⟩
  have hh : ∀ W, Calls Try.prog 33 #[.agg #[.int .i64 s, .int .i64 q], .int .i64 c] W fun e w' => e = .returned (.bool true) ∧ Below W.heap.size W w' := fun W => (mayHead_any s q c W).mono fun _ _ ⟨h1, h2⟩ => ⟨by rw [h1, hhd], h2⟩
  have hk : ∀ W, Calls Try.prog 34 #[.int .i64 2] W fun e w' => e = .returned (.iface 94 (.agg #[])) ∧ Below W.heap.size W w' := fun W => (kind_del W).mono fun _ _ ⟨h1, h2⟩ => ⟨h1, by rw [h2]; exact Below.refl _ _⟩
  have hm := meth_del_mayE
  have hB := EBox.new s q c 2 a l t w 49
  clear hs hhd
  go_enter Try.func29, Try.ntmps29
  go_wp2_with fail
  refine wp_region_held_drew (S := fun W => EBox w.heap.size s q c 2 a l t w W) (by kernel_rfl) (hB.keep (Below.refl _ _).drew) (fun hHeld => ?_)
  clear hB
  refine wpAnyH_take (i := 0) (v := .pointer (some ⟨w.heap.size, 4, none⟩)) rfl (by kernel_rfl) (by kernel_rfl) (by kernel_rfl) (fun _ _ _ h => h) (Or.inl ⟨rfl, fun W hS => by go_simp⟩) (by assumption) ?_
  refine wpAnyH_take (i := 1) (v := .int .i64 a) rfl (by kernel_rfl) (by kernel_rfl) (by kernel_rfl) (fun _ _ _ h => h) (Or.inl ⟨rfl, fun W hS => ?_⟩) (by assumption) ?_
  · obtain ⟨c0, c1, c2, c3, c4, c5, c6, -⟩ := hS
    go_simp
  simp only [Act.put, List.getElem_toArray, List.getElem_cons_succ, List.getElem_cons_zero, List.setIfInBounds_toArray, List.set_cons_zero, List.set_cons_succ]
  refine wpAnyH_ready (rs := [2]) (by kernel_rfl) (by simp) (AllReadyH.cons rfl (fun K hK => ?_) AllReadyH.nil)
  go_simp
  go_wp2_with (go_at_call 32; refine (hp _).mono ?_; rintro e wq ⟨rfl, hb⟩)
  refine hK.out _ _ (hHeld.keep hb) (fun hX => ?_)
  clear hK K hHeld
  have hHeld := hX
  clear hX
  refine wpAnyH_take (i := 3) (v := .bool true) rfl (by kernel_rfl) (by kernel_rfl) (by kernel_rfl) (fun _ _ _ h => h) (Or.inl ⟨rfl, fun W hS => by go_simp⟩) (by assumption) ?_
  simp only [Act.put, List.getElem_toArray, List.getElem_cons_succ, List.getElem_cons_zero, List.setIfInBounds_toArray, List.set_cons_zero, List.set_cons_succ]
  refine wpAnyH_take (i := 4) (v := .pointer (some ⟨w.heap.size, 0, none⟩)) rfl (by kernel_rfl) (by kernel_rfl) (by kernel_rfl) (fun _ _ _ h => h) (Or.inl ⟨rfl, fun W hS => by go_simp⟩) (by assumption) ?_
  simp only [Act.put, List.getElem_toArray, List.getElem_cons_succ, List.getElem_cons_zero, List.setIfInBounds_toArray, List.set_cons_zero, List.set_cons_succ]
  refine wpAnyH_take (i := 5) (v := .agg #[.int .i64 s, .int .i64 q]) rfl (by kernel_rfl) (by kernel_rfl) (by kernel_rfl) (fun _ _ _ h => h) (Or.inl ⟨rfl, fun W hS => ?_⟩) (by assumption) ?_
  · obtain ⟨c0, c1, c2, c3, c4, c5, c6, -⟩ := hS
    go_simp
  simp only [Act.put, List.getElem_toArray, List.getElem_cons_succ, List.getElem_cons_zero, List.setIfInBounds_toArray, List.set_cons_zero, List.set_cons_succ]
  refine wpAnyH_take (i := 6) (v := .pointer (some ⟨w.heap.size, 2, none⟩)) rfl (by kernel_rfl) (by kernel_rfl) (by kernel_rfl) (fun _ _ _ h => h) (Or.inl ⟨rfl, fun W hS => by go_simp⟩) (by assumption) ?_
  simp only [Act.put, List.getElem_toArray, List.getElem_cons_succ, List.getElem_cons_zero, List.setIfInBounds_toArray, List.set_cons_zero, List.set_cons_succ]
  refine wpAnyH_take (i := 7) (v := .int .i64 c) rfl (by kernel_rfl) (by kernel_rfl) (by kernel_rfl) (fun _ _ _ h => h) (Or.inl ⟨rfl, fun W hS => ?_⟩) (by assumption) ?_
  · obtain ⟨c0, c1, c2, c3, c4, c5, c6, -⟩ := hS
    go_simp
  simp only [Act.put, List.getElem_toArray, List.getElem_cons_succ, List.getElem_cons_zero, List.setIfInBounds_toArray, List.set_cons_zero, List.set_cons_succ]
  refine wpAnyH_ready (rs := [8]) (by kernel_rfl) (by simp) (AllReadyH.cons rfl (fun K hK => ?_) AllReadyH.nil)
  go_simp
  go_wp2_with (go_at_call 33; refine (hh _).mono ?_; rintro e wq ⟨rfl, hb⟩)
  refine hK.out _ _ (hHeld.keep hb) (fun hX => ?_)
  clear hK K hHeld
  have hHeld := hX
  clear hX
  refine wpAnyH_take (i := 9) (v := .bool true) rfl (by kernel_rfl) (by kernel_rfl) (by kernel_rfl) (fun _ _ _ h => h) (Or.inl ⟨rfl, fun W hS => by go_simp⟩) (by assumption) ?_
  simp only [Act.put, List.getElem_toArray, List.getElem_cons_succ, List.getElem_cons_zero, List.setIfInBounds_toArray, List.set_cons_zero, List.set_cons_succ]
  refine wpAnyH_take (i := 10) (v := .bool true) rfl (by kernel_rfl) (by kernel_rfl) (by kernel_rfl) (fun _ _ _ h => h) (Or.inl ⟨rfl, fun W hS => by go_simp⟩) (by assumption) ?_
  simp only [Act.put, List.getElem_toArray, List.getElem_cons_succ, List.getElem_cons_zero, List.setIfInBounds_toArray, List.set_cons_zero, List.set_cons_succ]
  refine wpAnyH_take (i := 11) (v := .pointer (some ⟨w.heap.size, 3, none⟩)) rfl (by kernel_rfl) (by kernel_rfl) (by kernel_rfl) (fun _ _ _ h => h) (Or.inl ⟨rfl, fun W hS => by go_simp⟩) (by assumption) ?_
  simp only [Act.put, List.getElem_toArray, List.getElem_cons_succ, List.getElem_cons_zero, List.setIfInBounds_toArray, List.set_cons_zero, List.set_cons_succ]
  refine wpAnyH_take (i := 12) (v := .int .i64 2) rfl (by kernel_rfl) (by kernel_rfl) (by kernel_rfl) (fun _ _ _ h => h) (Or.inl ⟨rfl, fun W hS => ?_⟩) (by assumption) ?_
  · obtain ⟨c0, c1, c2, c3, c4, c5, c6, -⟩ := hS
    go_simp
  simp only [Act.put, List.getElem_toArray, List.getElem_cons_succ, List.getElem_cons_zero, List.setIfInBounds_toArray, List.set_cons_zero, List.set_cons_succ]
  refine wpAnyH_take (i := 14) (v := .agg #[.int .i64 s, .int .i64 q, .int .i64 c, .int .i64 2, .int .i64 a, .int .i64 l, .string t]) rfl (by kernel_rfl) (by kernel_rfl) (by kernel_rfl) (fun _ _ _ h => h) (Or.inl ⟨rfl, fun W hS => ?_⟩) (by assumption) ?_
  · obtain ⟨c0, c1, c2, c3, c4, c5, c6, -⟩ := hS
    go_simp
  simp only [Act.put, List.getElem_toArray, List.getElem_cons_succ, List.getElem_cons_zero, List.setIfInBounds_toArray, List.set_cons_zero, List.set_cons_succ]
  refine wpAnyH_ready (rs := [13]) (by kernel_rfl) (by simp) (AllReadyH.cons rfl (fun K hK => ?_) AllReadyH.nil)
  go_simp
  go_wp2_with (go_at_call 34; refine (hk _).mono ?_; rintro e wq ⟨rfl, hb⟩)
  refine hK.out _ _ (hHeld.keep hb) (fun hX => ?_)
  clear hK K hHeld
  have hHeld := hX
  clear hX
  refine wpAnyH_ready (rs := [15]) (by kernel_rfl) (by simp) (AllReadyH.cons rfl (fun K hK => ?_) AllReadyH.nil)
  go_simp
  go_wp2_with (go_at_call 99; refine (hC _ hHeld.2.2.2.2.2.2.2).mono ?_; rintro e wq ⟨rfl, hb⟩)
  refine hK.out _ _ (hHeld.keep hb) (fun hX => ?_)
  clear hK K hHeld
  have hHeld := hX
  clear hX
  refine wpAnyH_take (i := 16) (v := .bool r) rfl (by kernel_rfl) (by kernel_rfl) (by kernel_rfl) (fun _ _ _ h => h) (Or.inl ⟨rfl, fun W hS => by go_simp⟩) (by assumption) ?_
  simp only [Act.put, List.getElem_toArray, List.getElem_cons_succ, List.getElem_cons_zero, List.setIfInBounds_toArray, List.set_cons_zero, List.set_cons_succ]
  refine wpAnyH_take (i := 17) (v := .bool r) rfl (by kernel_rfl) (by kernel_rfl) (by kernel_rfl) (fun _ _ _ h => h) (Or.inl ⟨rfl, fun W hS => by go_simp⟩) (by assumption) ?_
  simp only [Act.put, List.getElem_toArray, List.getElem_cons_succ, List.getElem_cons_zero, List.setIfInBounds_toArray, List.set_cons_zero, List.set_cons_succ]
  refine wpAnyH_done (by kernel_rfl) ?_ _
  have hz := hHeld.2.2.2.2.2.2.2
  go_wp2
  go_ret
  exact ⟨rfl, hz⟩
set_option maxRecDepth 100000 in
set_option maxHeartbeats 8000000 in
theorem mayE_no (s q c k a l : Int) (t : ByteArray) (r : Bool) (w : World) (hs : 0 ≤ a ∧ a ≤ 20000) (hhd : (nMay s q && decide (0 ≤ c ∧ c ≤ 1099511627776)) = true) (h1 : ¬ k = 1) (h2 : ¬ k = 2)
    (hC : ∀ W, Below w.heap.size w W → Calls Try.prog 111 #[.agg #[], .agg #[.int .i64 s, .int .i64 q, .int .i64 c, .int .i64 k, .int .i64 a, .int .i64 l, .string t]] W fun e w' => e = .returned (.bool r) ∧ Below W.heap.size W w') :
    Calls Try.prog 29 #[.agg #[.int .i64 s, .int .i64 q, .int .i64 c, .int .i64 k, .int .i64 a, .int .i64 l, .string t]] w fun e w' => e = .returned (.bool r) ∧ Below w.heap.size w w' := by
  have hp : ∀ W, Calls Try.prog 32 #[.int .i64 a] W fun e w' => e = .returned (.bool true) ∧ Below W.heap.size W w' := fun W => (isPlace_any a W).mono fun _ _ ⟨h1, h2⟩ => ⟨by rw [h1]; rw [decide_eq_true hs], by rw [h2]; exact Below.refl _ _⟩
  have hh : ∀ W, Calls Try.prog 33 #[.agg #[.int .i64 s, .int .i64 q], .int .i64 c] W fun e w' => e = .returned (.bool true) ∧ Below W.heap.size W w' := fun W => (mayHead_any s q c W).mono fun _ _ ⟨h1, h2⟩ => ⟨by rw [h1, hhd], h2⟩
  have hk : ∀ W, Calls Try.prog 34 #[.int .i64 k] W fun e w' => e = .returned (.iface 95 (.agg #[])) ∧ Below W.heap.size W w' := fun W => (kind_no k h1 h2 W).mono fun _ _ ⟨h1, h2⟩ => ⟨h1, by rw [h2]; exact Below.refl _ _⟩
  have hm := meth_no_mayE
  have hB := EBox.new s q c k a l t w 49
  clear hs hhd
  go_enter Try.func29, Try.ntmps29
  go_wp2_with fail
  refine wp_region_held_drew (S := fun W => EBox w.heap.size s q c k a l t w W) (by kernel_rfl) (hB.keep (Below.refl _ _).drew) (fun hHeld => ?_)
  clear hB
  refine wpAnyH_take (i := 0) (v := .pointer (some ⟨w.heap.size, 4, none⟩)) rfl (by kernel_rfl) (by kernel_rfl) (by kernel_rfl) (fun _ _ _ h => h) (Or.inl ⟨rfl, fun W hS => by go_simp⟩) (by assumption) ?_
  refine wpAnyH_take (i := 1) (v := .int .i64 a) rfl (by kernel_rfl) (by kernel_rfl) (by kernel_rfl) (fun _ _ _ h => h) (Or.inl ⟨rfl, fun W hS => ?_⟩) (by assumption) ?_
  · obtain ⟨c0, c1, c2, c3, c4, c5, c6, -⟩ := hS
    go_simp
  simp only [Act.put, List.getElem_toArray, List.getElem_cons_succ, List.getElem_cons_zero, List.setIfInBounds_toArray, List.set_cons_zero, List.set_cons_succ]
  refine wpAnyH_ready (rs := [2]) (by kernel_rfl) (by simp) (AllReadyH.cons rfl (fun K hK => ?_) AllReadyH.nil)
  go_simp
  go_wp2_with (go_at_call 32; refine (hp _).mono ?_; rintro e wq ⟨rfl, hb⟩)
  refine hK.out _ _ (hHeld.keep hb) (fun hX => ?_)
  clear hK K hHeld
  have hHeld := hX
  clear hX
  refine wpAnyH_take (i := 3) (v := .bool true) rfl (by kernel_rfl) (by kernel_rfl) (by kernel_rfl) (fun _ _ _ h => h) (Or.inl ⟨rfl, fun W hS => by go_simp⟩) (by assumption) ?_
  simp only [Act.put, List.getElem_toArray, List.getElem_cons_succ, List.getElem_cons_zero, List.setIfInBounds_toArray, List.set_cons_zero, List.set_cons_succ]
  refine wpAnyH_take (i := 4) (v := .pointer (some ⟨w.heap.size, 0, none⟩)) rfl (by kernel_rfl) (by kernel_rfl) (by kernel_rfl) (fun _ _ _ h => h) (Or.inl ⟨rfl, fun W hS => by go_simp⟩) (by assumption) ?_
  simp only [Act.put, List.getElem_toArray, List.getElem_cons_succ, List.getElem_cons_zero, List.setIfInBounds_toArray, List.set_cons_zero, List.set_cons_succ]
  refine wpAnyH_take (i := 5) (v := .agg #[.int .i64 s, .int .i64 q]) rfl (by kernel_rfl) (by kernel_rfl) (by kernel_rfl) (fun _ _ _ h => h) (Or.inl ⟨rfl, fun W hS => ?_⟩) (by assumption) ?_
  · obtain ⟨c0, c1, c2, c3, c4, c5, c6, -⟩ := hS
    go_simp
  simp only [Act.put, List.getElem_toArray, List.getElem_cons_succ, List.getElem_cons_zero, List.setIfInBounds_toArray, List.set_cons_zero, List.set_cons_succ]
  refine wpAnyH_take (i := 6) (v := .pointer (some ⟨w.heap.size, 2, none⟩)) rfl (by kernel_rfl) (by kernel_rfl) (by kernel_rfl) (fun _ _ _ h => h) (Or.inl ⟨rfl, fun W hS => by go_simp⟩) (by assumption) ?_
  simp only [Act.put, List.getElem_toArray, List.getElem_cons_succ, List.getElem_cons_zero, List.setIfInBounds_toArray, List.set_cons_zero, List.set_cons_succ]
  refine wpAnyH_take (i := 7) (v := .int .i64 c) rfl (by kernel_rfl) (by kernel_rfl) (by kernel_rfl) (fun _ _ _ h => h) (Or.inl ⟨rfl, fun W hS => ?_⟩) (by assumption) ?_
  · obtain ⟨c0, c1, c2, c3, c4, c5, c6, -⟩ := hS
    go_simp
  simp only [Act.put, List.getElem_toArray, List.getElem_cons_succ, List.getElem_cons_zero, List.setIfInBounds_toArray, List.set_cons_zero, List.set_cons_succ]
  refine wpAnyH_ready (rs := [8]) (by kernel_rfl) (by simp) (AllReadyH.cons rfl (fun K hK => ?_) AllReadyH.nil)
  go_simp
  go_wp2_with (go_at_call 33; refine (hh _).mono ?_; rintro e wq ⟨rfl, hb⟩)
  refine hK.out _ _ (hHeld.keep hb) (fun hX => ?_)
  clear hK K hHeld
  have hHeld := hX
  clear hX
  refine wpAnyH_take (i := 9) (v := .bool true) rfl (by kernel_rfl) (by kernel_rfl) (by kernel_rfl) (fun _ _ _ h => h) (Or.inl ⟨rfl, fun W hS => by go_simp⟩) (by assumption) ?_
  simp only [Act.put, List.getElem_toArray, List.getElem_cons_succ, List.getElem_cons_zero, List.setIfInBounds_toArray, List.set_cons_zero, List.set_cons_succ]
  refine wpAnyH_take (i := 10) (v := .bool true) rfl (by kernel_rfl) (by kernel_rfl) (by kernel_rfl) (fun _ _ _ h => h) (Or.inl ⟨rfl, fun W hS => by go_simp⟩) (by assumption) ?_
  simp only [Act.put, List.getElem_toArray, List.getElem_cons_succ, List.getElem_cons_zero, List.setIfInBounds_toArray, List.set_cons_zero, List.set_cons_succ]
  refine wpAnyH_take (i := 11) (v := .pointer (some ⟨w.heap.size, 3, none⟩)) rfl (by kernel_rfl) (by kernel_rfl) (by kernel_rfl) (fun _ _ _ h => h) (Or.inl ⟨rfl, fun W hS => by go_simp⟩) (by assumption) ?_
  simp only [Act.put, List.getElem_toArray, List.getElem_cons_succ, List.getElem_cons_zero, List.setIfInBounds_toArray, List.set_cons_zero, List.set_cons_succ]
  refine wpAnyH_take (i := 12) (v := .int .i64 k) rfl (by kernel_rfl) (by kernel_rfl) (by kernel_rfl) (fun _ _ _ h => h) (Or.inl ⟨rfl, fun W hS => ?_⟩) (by assumption) ?_
  · obtain ⟨c0, c1, c2, c3, c4, c5, c6, -⟩ := hS
    go_simp
  simp only [Act.put, List.getElem_toArray, List.getElem_cons_succ, List.getElem_cons_zero, List.setIfInBounds_toArray, List.set_cons_zero, List.set_cons_succ]
  refine wpAnyH_take (i := 14) (v := .agg #[.int .i64 s, .int .i64 q, .int .i64 c, .int .i64 k, .int .i64 a, .int .i64 l, .string t]) rfl (by kernel_rfl) (by kernel_rfl) (by kernel_rfl) (fun _ _ _ h => h) (Or.inl ⟨rfl, fun W hS => ?_⟩) (by assumption) ?_
  · obtain ⟨c0, c1, c2, c3, c4, c5, c6, -⟩ := hS
    go_simp
  simp only [Act.put, List.getElem_toArray, List.getElem_cons_succ, List.getElem_cons_zero, List.setIfInBounds_toArray, List.set_cons_zero, List.set_cons_succ]
  refine wpAnyH_ready (rs := [13]) (by kernel_rfl) (by simp) (AllReadyH.cons rfl (fun K hK => ?_) AllReadyH.nil)
  go_simp
  go_wp2_with (go_at_call 34; refine (hk _).mono ?_; rintro e wq ⟨rfl, hb⟩)
  refine hK.out _ _ (hHeld.keep hb) (fun hX => ?_)
  clear hK K hHeld
  have hHeld := hX
  clear hX
  refine wpAnyH_ready (rs := [15]) (by kernel_rfl) (by simp) (AllReadyH.cons rfl (fun K hK => ?_) AllReadyH.nil)
  go_simp
  go_wp2_with (go_at_call 111; refine (hC _ hHeld.2.2.2.2.2.2.2).mono ?_; rintro e wq ⟨rfl, hb⟩)
  refine hK.out _ _ (hHeld.keep hb) (fun hX => ?_)
  clear hK K hHeld
  have hHeld := hX
  clear hX
  refine wpAnyH_take (i := 16) (v := .bool r) rfl (by kernel_rfl) (by kernel_rfl) (by kernel_rfl) (fun _ _ _ h => h) (Or.inl ⟨rfl, fun W hS => by go_simp⟩) (by assumption) ?_
  simp only [Act.put, List.getElem_toArray, List.getElem_cons_succ, List.getElem_cons_zero, List.setIfInBounds_toArray, List.set_cons_zero, List.set_cons_succ]
  refine wpAnyH_take (i := 17) (v := .bool r) rfl (by kernel_rfl) (by kernel_rfl) (by kernel_rfl) (fun _ _ _ h => h) (Or.inl ⟨rfl, fun W hS => by go_simp⟩) (by assumption) ?_
  simp only [Act.put, List.getElem_toArray, List.getElem_cons_succ, List.getElem_cons_zero, List.setIfInBounds_toArray, List.set_cons_zero, List.set_cons_succ]
  refine wpAnyH_done (by kernel_rfl) ?_ _
  have hz := hHeld.2.2.2.2.2.2.2
  go_wp2
  go_ret
  exact ⟨rfl, hz⟩
end Go.Proofs.Ytnlajfdgpdijjaa
