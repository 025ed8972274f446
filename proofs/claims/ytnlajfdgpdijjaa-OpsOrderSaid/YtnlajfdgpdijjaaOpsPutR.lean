/- The program's Put, PutEdit and MayEdit, of any operation, of any edit. -/
import Derived.Test.YtnlajfdgpdijjaaOpsPutQ
import Derived.Test.YtnlajfdgpdijjaaRefOpsPut1
namespace Go.Proofs.Ytnlajfdgpdijjaa
open Go.RowKit Go.Shelf
open Go.Lib (uvarint uvarint_length64)

set_option maxRecDepth 100000 in
set_option maxHeartbeats 4000000 in
theorem insMayE_any (s q c a l : Int) (t : ByteArray) (w : World) (hL : LenAt t w) :
    Calls Try.prog 85 #[.agg #[], .agg #[.int .i64 s, .int .i64 q, .int .i64 c, .int .i64 1, .int .i64 a, .int .i64 l, .string t]] w fun e w' =>
      e = .returned (.bool (decide (l = 0) && decide (1 ≤ lenT t.data.toList ∧ lenT t.data.toList ≤ 200))) ∧ Below w.heap.size w w' := by
  have hB0 := (Below.refl w.heap.size w).alloc (Nat.le_refl _) (.cells #[] 93)
  have hB := hB0.alloc hB0.size (.cells #[.int .i64 s, .int .i64 q, .int .i64 c, .int .i64 1, .int .i64 a, .int .i64 l, .string t] 49)
  have hC := hL _ hB
  rw [lenL_lenT] at hC
  clear hL hB0
  generalize lenT t.data.toList = m at *
  have hI := fun W => mayIns_any m W
  generalize decide (1 ≤ m ∧ m ≤ 200) = r at *
  by_cases p1 : l = 0
  · subst p1
    rw [decide_eq_true rfl, Bool.true_and]
    go_enter Try.func85, Try.ntmps85
    go_wp2_with fail
    refine hC.mono ?_
    rintro e w1 ⟨rfl, hb⟩
    have hz := hB.trans (hb.mono hB.size)
    clear hb hC hB
    go_wp2_with fail
    refine (hI _).mono ?_
    rintro e _ ⟨rfl, rfl⟩
    go_wp2
    go_ret
    exact ⟨rfl, hz⟩
  · rw [decide_eq_false p1, Bool.false_and]
    have p2 : (l == 0) = false := beq_eq_false_iff_ne.2 p1
    clear p1 hI hC
    go_enter Try.func85, Try.ntmps85
    go_wp2
    go_ret
    exact ⟨rfl, hB⟩
set_option maxRecDepth 100000 in
set_option maxHeartbeats 4000000 in
theorem delMayE_any (s q c a l : Int) (t : ByteArray) (w : World) :
    Calls Try.prog 99 #[.agg #[], .agg #[.int .i64 s, .int .i64 q, .int .i64 c, .int .i64 2, .int .i64 a, .int .i64 l, .string t]] w fun e w' =>
      e = .returned (.bool (decide (1 ≤ l ∧ l ≤ 20000) && decide (t.data.toList = []))) ∧ Below w.heap.size w w' := by
  have hB0 := (Below.refl w.heap.size w).alloc (Nat.le_refl _) (.cells #[] 94)
  have hB := hB0.alloc hB0.size (.cells #[.int .i64 s, .int .i64 q, .int .i64 c, .int .i64 2, .int .i64 a, .int .i64 l, .string t] 49)
  clear hB0
  obtain ⟨r, hr⟩ : ∃ r, (decide (1 ≤ l ∧ l ≤ 20000) && decide (t.data.toList = [])) = r := ⟨_, rfl⟩
  rw [hr]
  rcases (show ¬ 1 ≤ l ∨ (1 ≤ l ∧ ¬ l ≤ 20000) ∨ (1 ≤ l ∧ l ≤ 20000) by omega) with p1 | ⟨p1, p2⟩ | ⟨p1, p2⟩
  · have HR := Lib.hid (show false = r by rw [← hr, decide_eq_false (by omega), Bool.false_and])
    clear hr
    go_enter Try.func99, Try.ntmps99
    go_wp2
    go_ret
    exact ⟨ret_bool HR.out, hB⟩
  · have HR := Lib.hid (show false = r by rw [← hr, decide_eq_false (by omega), Bool.false_and])
    clear hr
    go_enter Try.func99, Try.ntmps99
    go_wp2
    go_ret
    exact ⟨ret_bool HR.out, hB⟩
  · rw [decide_eq_true (show 1 ≤ l ∧ l ≤ 20000 from ⟨p1, p2⟩), Bool.true_and] at hr
    by_cases t0 : t.data.toList = []
    · have HR := Lib.hid (show true = r by rw [← hr, decide_eq_true t0])
      have t0' : t.toList = [] := by rw [list_data]; exact t0
      clear hr t0
      go_enter Try.func99, Try.ntmps99
      go_wp2
      go_ret
      exact ⟨ret_bool HR.out, hB⟩
    · have HR := Lib.hid (show false = r by rw [← hr, decide_eq_false t0])
      have t0' : ¬ t.toList = [] := by rw [list_data]; exact t0
      clear hr t0
      go_enter Try.func99, Try.ntmps99
      go_wp2
      go_ret
      exact ⟨ret_bool (show t.toList.isEmpty = r by rw [← HR.out]; exact Bool.eq_false_iff.2 fun h => t0' (List.isEmpty_iff.1 h)), hB⟩
set_option maxRecDepth 100000 in
set_option maxHeartbeats 4000000 in
theorem noMayE_any (s q c k a l : Int) (t : ByteArray) (w : World) :
    Calls Try.prog 111 #[.agg #[], .agg #[.int .i64 s, .int .i64 q, .int .i64 c, .int .i64 k, .int .i64 a, .int .i64 l, .string t]] w fun e w' => e = .returned (.bool false) ∧ Below w.heap.size w w' := by
  have hB0 := (Below.refl w.heap.size w).alloc (Nat.le_refl _) (.cells #[] 95)
  have hB := hB0.alloc hB0.size (.cells #[.int .i64 s, .int .i64 q, .int .i64 c, .int .i64 k, .int .i64 a, .int .i64 l, .string t] 49)
  go_enter Try.func111, Try.ntmps111
  go_wp2
  go_ret
  exact ⟨rfl, hB⟩
theorem pMayEdit_any (s q c k a l : Int) (t : ByteArray) (w : World) (hL : LenAt t w) :
    Calls Try.prog 29 #[edV s q c k a l t] w fun e w' => e = .returned (.bool (eMay ⟨s, q, c, k, a, l, t.data.toList⟩)) ∧ Below w.heap.size w w' := by
  unfold eMay edV
  dsimp only
  by_cases g : 0 ≤ a ∧ a ≤ 20000
  case neg =>
    rw [decide_eq_false g, Bool.and_false, Bool.false_and]
    exact mayE_noplace s q c k a l t w g
  rw [decide_eq_true g, Bool.and_true]
  cases hh : (nMay s q && decide (0 ≤ c ∧ c ≤ 1099511627776)) with
  | false =>
    rw [Bool.false_and]
    exact mayE_nohead s q c k a l t w g hh
  | true =>
    rw [Bool.true_and]
    by_cases h1 : k = 1
    · subst h1
      rw [if_pos rfl, mayT_len]
      exact mayE_ins s q c a l t _ w g hh fun W hW => insMayE_any s q c a l t W (hL.below hW)
    · rw [if_neg h1]
      by_cases h2 : k = 2
      · subst h2
        rw [decide_eq_true rfl, Bool.true_and]
        exact mayE_del s q c a l t _ w g hh fun W _ => delMayE_any s q c a l t W
      · rw [decide_eq_false h2, Bool.false_and, Bool.false_and]
        exact mayE_no s q c k a l t _ w g hh h1 h2 fun W _ => noMayE_any s q c k a l t W
/-- A number that is there. -/
theorem puts_int (a : Addr) (m : Int) (n : Int) (w : World) (h : w.cell? a = some (.int .i64 n)) (h0 : 0 ≤ n) (h1 : n ≤ 1099511627776) : Puts (numP a m) (uvarint n.toNat) w :=
  puts_num a m n.toNat w (by rw [h, Int.toNat_of_nonneg h0]) (by omega)
theorem uv_len {n : Int} (h0 : 0 ≤ n) (h1 : n ≤ 1099511627776) : (uvarint n.toNat).length ≤ 10 := uvarint_length64 (by omega)
/-- What stands up to the kind. -/
theorem putHead_any (B : Nat) (s q n k : Int) (W : World) (v : Value) (c0 : W.cell? ⟨B, 0, none⟩ = some (.int .i64 s)) (c1 : W.cell? ⟨B, 1, none⟩ = some (.int .i64 q)) (c2 : W.cell? ⟨B, 2, none⟩ = some (.int .i64 n)) (c3 : W.cell? ⟨B, 3, none⟩ = some (.int .i64 k))
    (hs : 0 ≤ s ∧ s ≤ 16) (hq : 0 ≤ q ∧ q ≤ 1099511627776) (hn : 0 ≤ n ∧ n ≤ 1099511627776) (hk : 0 ≤ k ∧ k ≤ 2)
    (hv : PtAt W v [numP ⟨B, 0, none⟩ 16, numP ⟨B, 1, none⟩ 1099511627776, numP ⟨B, 2, none⟩ 1099511627776, numP ⟨B, 3, none⟩ 2]) :
    Calls Try.prog 44 #[v] W fun e w' => e = .returned (.string ⟨(uvarint s.toNat ++ (uvarint q.toNat ++ (uvarint n.toNat ++ uvarint k.toNat))).toArray⟩) ∧ Below W.heap.size W w' := by
  have l0 := uv_len (n := s) (by omega) (by omega)
  have l1 := uv_len (n := q) (by omega) (by omega)
  have l2 := uv_len (n := n) (by omega) (by omega)
  have l3 := uv_len (n := k) (by omega) (by omega)
  have h := putParts_any v _ [uvarint s.toNat, uvarint q.toNat, uvarint n.toNat, uvarint k.toNat] W hv rfl (by simp; omega) (by simp) (by
    intro i hi
    match i, hi with
    | 0, _ => exact puts_int _ _ s W c0 (by omega) (by omega)
    | 1, _ => exact puts_int _ _ q W c1 (by omega) (by omega)
    | 2, _ => exact puts_int _ _ n W c2 (by omega) (by omega)
    | 3, _ => exact puts_int _ _ k W c3 (by omega) (by omega))
  simpa using h
theorem putNumRow_any (A1 A2 : Addr) (a : Int) (t : ByteArray) (W : World) (v : Value) (c0 : W.cell? A1 = some (.int .i64 a)) (c1 : W.cell? A2 = some (.string t)) (ha : 0 ≤ a ∧ a ≤ 20000) (ht : t.size ≤ 1000000)
    (hv : PtAt W v [numP A1 20000, rowP A2]) :
    Calls Try.prog 44 #[v] W fun e w' => e = .returned (.string ⟨(uvarint a.toNat ++ rowL t.data.toList).toArray⟩) ∧ Below W.heap.size W w' := by
  have l0 := uv_len (n := a) (by omega) (by omega)
  have l1 : (rowL t.data.toList).length ≤ 1000010 := by
    have := uvarint_length64 (show t.data.toList.length < 18446744073709551616 by rw [← Lib.size_eq]; omega)
    unfold rowL
    rw [List.length_append, ← Lib.size_eq] at *
    omega
  have h := putParts_any v _ [uvarint a.toNat, rowL t.data.toList] W hv rfl (by simp; omega) (by simp) (by
    intro i hi
    match i, hi with
    | 0, _ => exact puts_int _ _ a W c0 (by omega) (by omega)
    | 1, _ => exact puts_row _ t W c1 ht)
  simpa using h
theorem putNumNum_any (A1 A2 : Addr) (a l : Int) (W : World) (v : Value) (c0 : W.cell? A1 = some (.int .i64 a)) (c1 : W.cell? A2 = some (.int .i64 l)) (ha : 0 ≤ a ∧ a ≤ 20000) (hl : 0 ≤ l ∧ l ≤ 20000)
    (hv : PtAt W v [numP A1 20000, numP A2 20000]) :
    Calls Try.prog 44 #[v] W fun e w' => e = .returned (.string ⟨(uvarint a.toNat ++ uvarint l.toNat).toArray⟩) ∧ Below W.heap.size W w' := by
  have l0 := uv_len (n := a) (by omega) (by omega)
  have l1 := uv_len (n := l) (by omega) (by omega)
  have h := putParts_any v _ [uvarint a.toNat, uvarint l.toNat] W hv rfl (by simp; omega) (by simp) (by
    intro i hi
    match i, hi with
    | 0, _ => exact puts_int _ _ a W c0 (by omega) (by omega)
    | 1, _ => exact puts_int _ _ l W c1 (by omega) (by omega))
  simpa using h
theorem putList_any (A1 : Addr) (sp : Value) (xs : List Sp) (W : World) (v : Value) (c0 : W.cell? A1 = some sp) (hS : SpAt W sp xs) (hx : xs.length ≤ 20000) (hp : ∀ s ∈ xs, (0 ≤ s.1 ∧ s.1 ≤ 20000) ∧ 0 ≤ s.2 ∧ s.2 ≤ 20000)
    (hv : PtAt W v [listP A1]) :
    Calls Try.prog 44 #[v] W fun e w' => e = .returned (.string ⟨(uvarint xs.length ++ xs.flatMap spanB).toArray⟩) ∧ Below W.heap.size W w' := by
  have l0 := uvarint_length64 (show xs.length < 18446744073709551616 by omega)
  have l1 := spanB_len xs fun x hx => by have := hp x hx; omega
  have hlen : (uvarint xs.length ++ xs.flatMap spanB).length ≤ 1000000000 := by rw [List.length_append]; omega
  have h := putParts_any v _ [uvarint xs.length ++ xs.flatMap spanB] W hv rfl (by rw [List.flatten_singleton]; exact hlen) (by simp) (by
    intro i hi
    match i, hi with
    | 0, _ => exact ⟨_, _, _, rfl, meth_list_put _, enters_of Try.func133 (by kernel_rfl) rfl, hlen, fun W' hW => listPut_any A1 sp xs W' (cell_stays hW c0) (hS.below hW) (by omega) hp⟩)
  rwa [List.flatten_singleton] at h
theorem pPut_any (s q n k a : Int) (t : ByteArray) (sp : Value) (xs : List Sp) (w : World) (hL : LenAt t w) (h : SpAt w sp xs) (hx : xs.length ≤ 20000) (hwf : sWf xs) :
    Calls Try.prog 18 #[opV s q n k a t sp] w fun e w' =>
      e = .returned (if oAny ⟨s, q, n, k, a, t.data.toList, xs⟩ then .tuple #[.string ⟨(oPut ⟨s, q, n, k, a, t.data.toList, xs⟩).toArray⟩, .int .i64 0] else .tuple #[.string ⟨#[]⟩, .int .i64 1]) ∧ Below w.heap.size w w' := by
  have hA := fun W (hW : Below w.heap.size w W) => pAny_any s q n k a t sp xs W (hL.below hW) (h.below hW) (by omega) hwf
  obtain ⟨ao, cap, rfl, _⟩ := id h
  have HS := h
  clear h hL
  cases hyes : oAny ⟨s, q, n, k, a, t.data.toList, xs⟩ with
  | false =>
    rw [if_neg (by decide)]
    simp only [hyes] at hA
    exact putO_no s q n k a t ao xs.length cap w hA
  | true =>
    rw [if_pos rfl]
    simp only [hyes] at hA
    obtain ⟨g1, g2, g3, g4⟩ := oAny_parts hyes
    dsimp only at g1 g2 g3 g4
    have l0 := uv_len (n := s) (by omega) (by omega)
    have l1 := uv_len (n := q) (by omega) (by omega)
    have l2 := uv_len (n := n) (by omega) (by omega)
    rcases g4 with ⟨rfl, p1, p2, t1, rfl⟩ | ⟨rfl, rfl, t1, hg⟩
    · have hts : t.size ≤ 800 := by rw [Lib.size_eq]; exact t1
      have l4 := uv_len (n := a) (by omega) (by omega)
      have l5 := uvarint_length64 (show t.data.toList.length < 18446744073709551616 by omega)
      have hres := putO_ins s q n a t ao ([] : List Sp).length cap ⟨(uvarint s.toNat ++ (uvarint q.toNat ++ (uvarint n.toNat ++ uvarint (1 : Int).toNat))).toArray⟩ ⟨(uvarint a.toNat ++ rowL t.data.toList).toArray⟩ w (by
          have l3 := uv_len (n := 1) (by omega) (by omega)
          rw [size_bytes8, size_bytes8]
          unfold rowL
          simp only [List.length_append]
          omega) hA
        (fun W v hO hv => putHead_any _ s q n 1 W v hO.1 hO.2.1 hO.2.2.1 hO.2.2.2.1 (by omega) (by omega) (by omega) (by omega) hv)
        (fun W v hO hv => putNumRow_any _ _ a t W v hO.2.2.2.2.1 hO.2.2.2.2.2.1 (by omega) (by omega) hv)
      refine hres.mono ?_
      rintro e w' ⟨rfl, hb⟩
      refine ⟨?_, hb⟩
      rw [cat_bytes8]
      unfold oPut
      simp
    · have hp : ∀ s ∈ xs, (0 ≤ s.1 ∧ s.1 ≤ 20000) ∧ 0 ≤ s.2 ∧ s.2 ≤ 20000 := fun s hs => by have := hg.1 s hs; omega
      have l5 := uvarint_length64 (show xs.length < 18446744073709551616 by omega)
      have l6 := spanB_len xs fun x hx => by have := hp x hx; omega
      have hres := putO_del s q n 0 t ao xs.length cap ⟨(uvarint s.toNat ++ (uvarint q.toNat ++ (uvarint n.toNat ++ uvarint (2 : Int).toNat))).toArray⟩ ⟨(uvarint xs.length ++ xs.flatMap spanB).toArray⟩ w (by
          have l3 := uv_len (n := 2) (by omega) (by omega)
          rw [size_bytes8, size_bytes8]
          simp only [List.length_append]
          omega) hA
        (fun W v hO hv => putHead_any _ s q n 2 W v hO.1 hO.2.1 hO.2.2.1 hO.2.2.2.1 (by omega) (by omega) (by omega) (by omega) hv)
        (fun W v hO hv => putList_any _ _ xs W v hO.2.2.2.2.2.2.1 (HS.below hO.2.2.2.2.2.2.2) hx hp hv)
      refine hres.mono ?_
      rintro e w' ⟨rfl, hb⟩
      refine ⟨?_, hb⟩
      rw [cat_bytes8]
      unfold oPut
      simp
theorem pPutEdit_any (s q c k a l : Int) (t : ByteArray) (w : World) (hL : LenAt t w) :
    Calls Try.prog 28 #[edV s q c k a l t] w fun e w' =>
      e = .returned (if eMay ⟨s, q, c, k, a, l, t.data.toList⟩ then .tuple #[.string ⟨(ePut ⟨s, q, c, k, a, l, t.data.toList⟩).toArray⟩, .int .i64 0] else .tuple #[.string ⟨#[]⟩, .int .i64 1]) ∧ Below w.heap.size w w' := by
  have hA := fun W (hW : Below w.heap.size w W) => pMayEdit_any s q c k a l t W (hL.below hW)
  clear hL
  cases hyes : eMay ⟨s, q, c, k, a, l, t.data.toList⟩ with
  | false =>
    rw [if_neg (by decide)]
    simp only [hyes] at hA
    exact putE_no s q c k a l t w hA
  | true =>
    rw [if_pos rfl]
    simp only [hyes] at hA
    obtain ⟨g1, g2, g3, g5, g4⟩ := eMay_parts hyes
    dsimp only at g1 g2 g3 g4 g5
    have l0 := uv_len (n := s) (by omega) (by omega)
    have l1 := uv_len (n := q) (by omega) (by omega)
    have l2 := uv_len (n := c) (by omega) (by omega)
    have l4 := uv_len (n := a) (by omega) (by omega)
    rcases g4 with ⟨rfl, rfl, t1⟩ | ⟨rfl, p1, p2, t1⟩
    · have hts : t.size ≤ 800 := by rw [Lib.size_eq]; exact t1
      have l5 := uvarint_length64 (show t.data.toList.length < 18446744073709551616 by omega)
      have hres := putE_ins s q c a 0 t ⟨(uvarint s.toNat ++ (uvarint q.toNat ++ (uvarint c.toNat ++ uvarint (1 : Int).toNat))).toArray⟩ ⟨(uvarint a.toNat ++ rowL t.data.toList).toArray⟩ w (by
          have l3 := uv_len (n := 1) (by omega) (by omega)
          rw [size_bytes8, size_bytes8]
          unfold rowL
          simp only [List.length_append]
          omega) hA
        (fun W v hO hv => putHead_any _ s q c 1 W v hO.1 hO.2.1 hO.2.2.1 hO.2.2.2.1 (by omega) (by omega) (by omega) (by omega) hv)
        (fun W v hO hv => putNumRow_any _ _ a t W v hO.2.2.2.2.1 hO.2.2.2.2.2.2.1 (by omega) (by omega) hv)
      refine hres.mono ?_
      rintro e w' ⟨rfl, hb⟩
      refine ⟨?_, hb⟩
      rw [cat_bytes8]
      unfold ePut
      simp
    · have l5 := uv_len (n := l) (by omega) (by omega)
      have hres := putE_del s q c a l t ⟨(uvarint s.toNat ++ (uvarint q.toNat ++ (uvarint c.toNat ++ uvarint (2 : Int).toNat))).toArray⟩ ⟨(uvarint a.toNat ++ uvarint l.toNat).toArray⟩ w (by
          have l3 := uv_len (n := 2) (by omega) (by omega)
          rw [size_bytes8, size_bytes8]
          simp only [List.length_append]
          omega) hA
        (fun W v hO hv => putHead_any _ s q c 2 W v hO.1 hO.2.1 hO.2.2.1 hO.2.2.2.1 (by omega) (by omega) (by omega) (by omega) hv)
        (fun W v hO hv => putNumNum_any _ _ a l W v hO.2.2.2.2.1 hO.2.2.2.2.2.1 (by omega) (by omega) hv)
      refine hres.mono ?_
      rintro e w' ⟨rfl, hb⟩
      refine ⟨?_, hb⟩
      rw [cat_bytes8]
      unfold ePut
      simp
end Go.Proofs.Ytnlajfdgpdijjaa
