/- Parts of bytes: what a number's, a row's and a list's put tells. -/
import Derived.Test.YtnlajfdgpdijjaaOpsPartP
import Derived.Test.YtnlajfdgpdijjaaOpsBytesPlain
namespace Go.Proofs.Ytnlajfdgpdijjaa
open Go.RowKit Go.Shelf
open Go.Lib (uvarint uvarint_length64)

theorem meth_num_put (u : Value) (W : World) : (method 266 111 u "foolscap/ops.put").run Try.prog W = .ok (114, u) W := by kernel_rfl
theorem meth_row_put (u : Value) (W : World) : (method 266 139 u "foolscap/ops.put").run Try.prog W = .ok (125, u) W := by kernel_rfl
theorem meth_list_put (u : Value) (W : World) : (method 266 153 u "foolscap/ops.put").run Try.prog W = .ok (133, u) W := by kernel_rfl
set_option maxRecDepth 100000 in
set_option maxHeartbeats 2000000 in
theorem numPut_any (a : Addr) (m : Int) (n : Nat) (w : World) (h : w.cell? a = some (.int .i64 n)) (hn : n < 9223372036854775808) :
    Calls Try.prog 114 #[.agg #[.pointer (some a), .int .u64 m]] w fun e w' => e = .returned (.string ⟨(uvarint n).toArray⟩) ∧ Below w.heap.size w w' := by
  have hP := fun W => put_any n (by omega) W
  have hB := (Below.refl w.heap.size w).alloc (Nat.le_refl _) (.cells #[.pointer (some a), .int .u64 m] 111)
  have hc := cell_stays hB h
  have hw : ((n : Int)) % 18446744073709551616 = n := by omega
  go_enter Try.func114, Try.ntmps114
  go_wp2_with fail
  refine (hP _).mono ?_
  rintro e w1 ⟨rfl, hb⟩
  have hz := hB.trans (hb.mono hB.size)
  go_wp2
  go_ret
  exact ⟨rfl, hz⟩
theorem puts_num (a : Addr) (m : Int) (n : Nat) (w : World) (h : w.cell? a = some (.int .i64 n)) (hn : n < 9223372036854775808) : Puts (numP a m) (uvarint n) w :=
  ⟨_, _, _, rfl, meth_num_put _, enters_of Try.func114 (by kernel_rfl) rfl, by have := uvarint_length64 (show n < 18446744073709551616 by omega); omega,
    fun W hW => numPut_any a m n W (cell_stays hW h) hn⟩
set_option maxRecDepth 100000 in
set_option maxHeartbeats 2000000 in
theorem rowPut_any (a : Addr) (t : ByteArray) (w : World) (h : w.cell? a = some (.string t)) (ht : t.size ≤ 1000000) :
    Calls Try.prog 125 #[.agg #[.pointer (some a)]] w fun e w' => e = .returned (.string ⟨(rowL t.data.toList).toArray⟩) ∧ Below w.heap.size w w' := by
  have hP := fun W => putText_any t (by omega) W
  have hB := (Below.refl w.heap.size w).alloc (Nat.le_refl _) (.cells #[.pointer (some a)] 139)
  have hc := cell_stays hB h
  go_enter Try.func125, Try.ntmps125
  go_wp2_with fail
  refine (hP _).mono ?_
  rintro e w1 ⟨rfl, hb⟩
  have hz := hB.trans (hb.mono hB.size)
  go_wp2
  go_ret
  exact ⟨rfl, hz⟩
theorem puts_row (a : Addr) (t : ByteArray) (w : World) (h : w.cell? a = some (.string t)) (ht : t.size ≤ 1000000) : Puts (rowP a) (rowL t.data.toList) w :=
  ⟨_, _, _, rfl, meth_row_put _, enters_of Try.func125 (by kernel_rfl) rfl, by
    have := uvarint_length64 (show t.data.toList.length < 18446744073709551616 by rw [← Lib.size_eq]; omega)
    unfold rowL
    rw [List.length_append, ← Lib.size_eq] at *
    omega, fun W hW => rowPut_any a t W (cell_stays hW h) ht⟩
theorem spanB_len : ∀ xs : List Sp, (∀ x ∈ xs, x.1 ≤ 100000 ∧ x.2 ≤ 100000) → (xs.flatMap spanB).length ≤ 20 * xs.length
  | [], _ => Nat.le_refl _
  | x :: xs, h => by
    have ih := spanB_len xs fun y hy => h y (List.mem_cons_of_mem _ hy)
    have hx := h x (List.mem_cons_self ..)
    have a1 := Lib.uvarint_length64 (show x.1.toNat < 18446744073709551616 by omega)
    have a2 := Lib.uvarint_length64 (show x.2.toNat < 18446744073709551616 by omega)
    rw [List.flatMap_cons, List.length_append, List.length_cons]
    unfold spanB at ih ⊢
    rw [List.length_append]
    omega
set_option maxRecDepth 100000 in
set_option maxHeartbeats 4000000 in
theorem listPut_any (a : Addr) (sp : Value) (xs : List Sp) (w : World) (h : w.cell? a = some sp) (hS : SpAt w sp xs) (hx : xs.length ≤ 2000000) (hp : ∀ s ∈ xs, (0 ≤ s.1 ∧ s.1 ≤ 20000) ∧ 0 ≤ s.2 ∧ s.2 ≤ 20000) :
    Calls Try.prog 133 #[.agg #[.pointer (some a)]] w fun e w' => e = .returned (.string ⟨(uvarint xs.length ++ xs.flatMap spanB).toArray⟩) ∧ Below w.heap.size w w' := by
  have hP := fun W => put_any xs.length (by omega) W
  have hB0 := (Below.refl w.heap.size w).alloc (Nat.le_refl _) (.cells #[.pointer (some a)] 153)
  have hB := hB0.alloc hB0.size (.cells #[.pointer none, .slice none 0 0] 102)
  have hc := cell_stays hB h
  have hw : ((xs.length : Int)) % 18446744073709551616 = xs.length := by omega
  obtain ⟨ao, cap, rfl, -⟩ := id hS
  have HSP := Lib.hid hS
  go_enter Try.func133, Try.ntmps133
  go_wp2_with fail
  refine (hP _).mono ?_
  rintro e w1 ⟨rfl, hb⟩
  have HI0 : Lib.IsBuilderF 102 5 (w.heap.size + 1) (w.heap.size + 1) [] ((w.alloc (.cells #[.pointer (some a)] 153)).alloc (.cells #[.pointer none, .slice none 0 0] 102)) := by
    have h1 := Lib.IsBuilderF.of (Lib.fresh_isBuilder 102 5 (w.alloc (.cells #[.pointer (some a)] 153)))
    rwa [World.size_alloc] at h1
  have hlen := uvarint_length64 (show xs.length < 18446744073709551616 by omega)
  have hs1 := hb.size
  have hW := writeString_k (w.heap.size + 1) (w.heap.size + 1) [] ⟨(uvarint xs.length).toArray⟩ w1 (builderF_keep HI0 hb) (by
    rw [Lib.size_eq]
    show 0 + (uvarint xs.length).length ≤ _
    omega) (by simp at hs1; omega)
  have hz1 := hB.trans (hb.mono hB.size)
  have hal := World.block_lt_of_cell? w _ h
  have b0 : w1.cell? ⟨w.heap.size, 0, none⟩ = some (.pointer (some a)) := cell_stays hb (by simp [go_sem])
  have b1 := cell_stays hz1 h
  clear hc hP hB hB0 HI0 hs1
  go_wp2_with fail
  refine hW.mono ?_
  clear hW
  rintro e w2 ⟨rfl, hI, hb2⟩
  have b0 := (hb2.cell (p := ⟨w.heap.size, 0, none⟩) (by show w.heap.size < w.heap.size + 1; omega)).trans b0
  have b1 := (hb2.cell (p := a) (by omega)).trans b1
  have hz2 : Below w.heap.size w w2 := hz1.trans (hb2.mono (by omega))
  rw [strCells_list, List.nil_append] at hI
  have HI := Lib.hid hI
  have hLen : ∀ k, k ≤ xs.length → (uvarint xs.length).length + ((xs.take k).flatMap spanB).length ≤ 100000000 := fun k hk => by
    have h1 := spanB_len (xs.take k) fun x hx => by have := hp x (List.mem_of_mem_take hx); omega
    rw [List.length_take] at h1
    omega
  have HLen := Lib.hid hLen
  clear hLen
  have Hz2 := Lib.hid hz2
  have Hp := Lib.hid hp
  obtain ⟨n, hn⟩ : ∃ n, xs.length = n := ⟨_, rfl⟩
  rw [hn] at hx b1 hlen HI HLen ⊢
  have HN := Lib.hid hn
  clear hb hb2 hz1 hz2 hI hp hw hS h hal hn
  go_wp2
  go_loopw [19] (fun i wr => ∃ k : Nat, i = .int .i64 k ∧ k ≤ n ∧ Lib.IsBuilderF 102 5 (w.heap.size + 1) (w.heap.size + 1) (Lib.byteCells (uvarint n ++ (xs.take k).flatMap spanB)) wr ∧ Below w.heap.size w wr) (fun i _ => n - (intOf i).toNat)
  case atStart => exact ⟨0, rfl, Nat.zero_le _, by rw [List.take_zero, List.flatMap_nil, List.append_nil]; exact .inr HI.out, Hz2.out⟩
  case round =>
    rename_i wr
    obtain ⟨k, rfl, hk, hI, hb⟩ := hrel
    have HJ := Lib.hid hI
    have Hb := Lib.hid hb
    clear hI hb b0 b1
    rcases Nat.lt_or_ge k n with hlt | hge
    · have hxk : k < xs.length := by rw [HN.out]; exact hlt
      obtain ⟨b, off, c1, hv1, hc1, hc1'⟩ := (HSP.out.below Hb.out).at hxk
      rw [HN.out] at hv1
      cases hv1
      have hT : (xs.take (k + 1)).flatMap spanB = (xs.take k).flatMap spanB ++ spanB (xs.getD k (0, 0)) := by
        rw [List.take_add_one, List.flatMap_append, List.getD_eq_getElem?_getD, List.getElem?_eq_getElem hxk]
        simp
      have hm := Hp.out (xs.getD k (0, 0)) (by rw [List.getD_eq_getElem?_getD, List.getElem?_eq_getElem hxk]; exact List.getElem_mem hxk)
      have hsp : spanB (xs.getD k (0, 0)) = uvarint (xs.getD k (0, 0)).1.toNat ++ uvarint (xs.getD k (0, 0)).2.toNat := rfl
      rw [hsp] at hT
      obtain ⟨x, ex⟩ : ∃ x, xs.getD k (0, 0) = x := ⟨_, rfl⟩
      rw [ex] at hc1 hc1' hm hT
      obtain ⟨F, hF⟩ : ∃ F : Nat, x.1 = F := ⟨x.1.toNat, by omega⟩
      obtain ⟨E, hE⟩ : ∃ E : Nat, x.2 = E := ⟨x.2.toNat, by omega⟩
      rw [hF, hE] at hT hm
      rw [hF] at hc1
      rw [hE] at hc1'
      rw [Int.toNat_natCast, Int.toNat_natCast] at hT
      have HT := Lib.hid hT
      have hi : (0 : Int) ≤ (k : Int) ∧ (k : Int) < (n : Int) := ⟨by omega, by omega⟩
      have Hm := Lib.hid hm
      clear hT hm hsp ex hF hE hxk
      have hbnd := fun W => bounds_any wr.heap.size W
      have hB1 := (Below.refl wr.heap.size wr).alloc (Nat.le_refl _) (.cells #[.int .i64 F, .int .i64 E] 69)
      have hrow := heap_alloc_new wr (.cells #[.int .i64 F, .int .i64 E] 69)
      have f0 := cell_of_row _ _ 0 _ _ _ hrow
      have f1 := cell_of_row _ _ 1 _ _ _ hrow
      simp only [List.getElem?_toArray, List.getElem?_cons_zero, List.getElem?_cons_succ] at f0 f1
      have F0 := Lib.hid f0
      have F1 := Lib.hid f1
      have HB1 := Lib.hid hB1
      clear hrow f0 f1 hB1
      go_wp2_with fail
      refine (hbnd _).mono ?_
      rintro e w3 ⟨v, rfl, hv, hb3⟩
      have hm := Hm.out
      have l1 := uvarint_length64 (show F < 18446744073709551616 by omega)
      have l2 := uvarint_length64 (show E < 18446744073709551616 by omega)
      have hput := putParts_any v _ [uvarint F, uvarint E] w3 hv rfl (by simp; omega) (by simp) (by
        intro i hi
        match i, hi with
        | 0, _ => exact puts_num _ _ F w3 (cell_stays hb3 F0.out) (by omega)
        | 1, _ => exact puts_num _ _ E w3 (cell_stays hb3 F1.out) (by omega))
      rw [show [uvarint F, uvarint E].flatten = uvarint F ++ uvarint E by simp] at hput
      have hz3 := HB1.out.trans (hb3.mono HB1.out.size)
      have Hz3 := Lib.hid hz3
      obtain ⟨ao3, cap3, rfl, -⟩ := hv
      clear hbnd hb3 hz3
      go_wp2_with fail
      refine hput.mono ?_
      clear hput
      rintro e w4 ⟨rfl, hb4⟩
      have hz4 := Hz3.out.trans (hb4.mono Hz3.out.size)
      have hW := writeString_k (w.heap.size + 1) (w.heap.size + 1) _ ⟨(uvarint F ++ uvarint E).toArray⟩ w4 (builderF_keep HJ.out hz4) (by
        have h1 := HLen.out k hk
        rw [Lib.byteCells_length, Lib.size_eq, List.length_append]
        show _ + (uvarint F ++ uvarint E).length ≤ _
        rw [List.length_append]
        omega) (by have h1 := HJ.out; have h2 := hz4.size; rcases h1 with h1 | h1 <;> (have := h1.lt; omega))
      have Hz4 := Lib.hid hz4
      clear hz4 hb4
      go_wp2_with fail
      refine hW.mono ?_
      clear hW
      rintro e w5 ⟨rfl, hI5, hb5⟩
      have Hz5 := Lib.hid ((Hb.out.trans (Hz4.out.mono Hb.out.size)).trans (hb5.mono (Nat.le_succ _)))
      rw [strCells_list, ← Lib.byteCells_append, List.append_assoc, ← HT.out] at hI5
      have HI5 := Lib.hid hI5
      clear hI5 hb5 hm l1 l2
      go_wp2
      go_roundw
      case rel => exact ⟨k + 1, by go_num, by omega, .inr HI5.out, Hz5.out⟩
      case measure => simp [intOf]; omega
    · obtain rfl : k = n := by omega
      have hI := HJ.out
      rw [List.take_of_length_le (by rw [HN.out]; exact Nat.le_refl _)] at hI
      have hS := Try.Builder_String_any_f (w.heap.size + 1) (w.heap.size + 1) _ wr hI (by rcases hI with h1 | h1 <;> (have := h1.lt; omega))
      clear hI
      go_wp2_with fail
      refine hS.mono ?_
      rintro e w2 ⟨rfl, _, hb2⟩
      go_wp2
      go_ret
      exact ⟨show Ending.returned (Value.string ⟨(uvarint k ++ xs.flatMap spanB).toArray⟩) = _ from by rw [HN.out], Hb.out.trans (hb2.mono (Nat.le_succ _))⟩
end Go.Proofs.Ytnlajfdgpdijjaa
