/- The document's reader: Num and Text of any reader. -/
import Derived.Test.YtckknopjhmpnhaaRefRead
import Derived.Deep.MidRow
namespace Go.Proofs.Ytckknopjhmpnhaa
open Go.RowKit Go.Shelf

theorem rNum_any (r : List UInt8 × Int) (most : Nat) (w : World) (hs : r.1.length ≤ 1000000000) :
    Calls Try.prog 27 #[rdV r, .int .u64 most] w fun e w' => e = .returned (numV (numS r most)) ∧ Below w.heap.size w w' := by
  obtain ⟨l, f⟩ := r
  obtain ⟨s, rfl⟩ : ∃ s : ByteArray, l = s.data.toList := ⟨⟨l.toArray⟩, by simp⟩
  have e : rdV (s.data.toList, f) = .agg #[.string s, .int .i64 f] := by unfold rdV; simp only [back_bytes]
  rw [e]
  by_cases hf : f = 0
  · subst hf
    exact rNum_fresh s most w (by rw [Lib.size_eq]; exact hs)
  · have h := rNum_faulted s f most w hf
    have e2 : numV (numS (s.data.toList, f) most) = .tuple #[.agg #[.string s, .int .i64 f], .int .u64 0] := by
      unfold numS numV
      rw [if_neg hf]
      simp only [e]
      rfl
    rw [e2]
    exact h

theorem textS_len (r : List UInt8 × Int) (most : Nat) : (textS r most).1.1.length ≤ r.1.length := by
  unfold textS
  split
  · split
    · exact Nat.le_refl _
    · simp only [List.length_drop]; omega
  · exact Nat.le_refl _
theorem numS_len (r : List UInt8 × Int) (most : Nat) : (numS r most).1.1.length ≤ r.1.length := by
  unfold numS
  split
  · split
    · exact Nat.le_refl _
    · simp only [List.length_drop]; omega
  · exact Nat.le_refl _

theorem rd_result2 {fn : Func} {p u : Tmp} (hfn : fn.results = #[.cell p 62, .tmp u]) (tmps : Array Value) (w : World) (g : Nat) (a b c : Value) (hp : tmps.getD p undef = .pointer (some ⟨g, 0, none⟩)) (hc : tmps.getD u undef = c)
    (h0 : w.cell? ⟨g, 0, none⟩ = some a) (h1 : w.cell? ⟨g, 1, none⟩ = some b) : (results fn tmps).run Try.prog w = .ok (.tuple #[.agg #[a, b], c]) w := by
  rw [results_cell_tmp hfn, hp, hc]
  have hr : w.rangeAt g 0 [a, b] := fun j v hv => by
    match j, hv with
    | 0, hv => simp at hv; subst hv; exact h0
    | 1, hv => simp at hv; subst hv; exact h1
    | j + 2, hv => simp at hv
  have hl := run_loadVar_mid (P := Try.prog) w g 0 62 [a, b] _ hr Try.underlying62 rfl info60
  simp [asAddr, Result.andThen, hl]
/-- What stands in the boxes of the document's Text behind a call. -/
theorem boxes_after {w w1 : World} {a b x y : Value} (hb : Below ((w.alloc (.cells #[a, b] 62)).alloc (.cells #[x, y] 62)).heap.size ((w.alloc (.cells #[a, b] 62)).alloc (.cells #[x, y] 62)) w1) (o : Obj) :
    (((w1.alloc o).cell? ⟨w.heap.size, 0, none⟩ = some a ∧ (w1.alloc o).cell? ⟨w.heap.size, 1, none⟩ = some b) ∧ ((w1.alloc o).cell? ⟨w.heap.size + 1, 0, none⟩ = some x ∧ (w1.alloc o).cell? ⟨w.heap.size + 1, 1, none⟩ = some y)) ∧
    (∀ i, (w1.alloc o).frozen? ⟨w.heap.size, i, none⟩ = false ∧ (w1.alloc o).frozen? ⟨w.heap.size + 1, i, none⟩ = false) ∧ Below w.heap.size w (w1.alloc o) ∧ w.heap.size + 1 < w1.heap.size := by
  have hz : ((w.alloc (.cells #[a, b] 62)).alloc (.cells #[x, y] 62)).heap.size = w.heap.size + 2 := by simp
  have hw1 : w.heap.size + 1 < w1.heap.size := by have := hb.size; omega
  have b0 : (w1.alloc o).heap[w.heap.size]? = some (.cells #[a, b] 62 (0, 0)) := by
    rw [Below.heap_alloc _ _ _ (by omega), hb.block _ (by omega)]; exact heap_alloc2_old _ _ _
  have b1 : (w1.alloc o).heap[w.heap.size + 1]? = some (.cells #[x, y] 62 (0, 0)) := by
    rw [Below.heap_alloc _ _ _ hw1, hb.block _ (by omega)]; exact heap_alloc2_new _ _ _
  have hbb := (below_two w _ _).trans (hb.mono (by omega))
  exact ⟨⟨⟨cell_of_row _ _ 0 _ _ _ b0, cell_of_row _ _ 1 _ _ _ b0⟩, ⟨cell_of_row _ _ 0 _ _ _ b1, cell_of_row _ _ 1 _ _ _ b1⟩⟩, fun i => ⟨frozen_of_row _ _ i _ _ b0, frozen_of_row _ _ i _ _ b1⟩, hbb.alloc hbb.size _, hw1⟩

theorem boxes_in {w w1 : World} {a b x y : Value} (hb : Below ((w.alloc (.cells #[a, b] 62)).alloc (.cells #[x, y] 62)).heap.size ((w.alloc (.cells #[a, b] 62)).alloc (.cells #[x, y] 62)) w1) :
    ((w1.cell? ⟨w.heap.size, 0, none⟩ = some a ∧ w1.cell? ⟨w.heap.size, 1, none⟩ = some b) ∧ (w1.cell? ⟨w.heap.size + 1, 0, none⟩ = some x ∧ w1.cell? ⟨w.heap.size + 1, 1, none⟩ = some y)) ∧
    (∀ i, w1.frozen? ⟨w.heap.size, i, none⟩ = false ∧ w1.frozen? ⟨w.heap.size + 1, i, none⟩ = false) ∧ Below w.heap.size w w1 ∧ w.heap.size + 1 < w1.heap.size := by
  have hz : ((w.alloc (.cells #[a, b] 62)).alloc (.cells #[x, y] 62)).heap.size = w.heap.size + 2 := by simp
  have hw1 : w.heap.size + 1 < w1.heap.size := by have := hb.size; omega
  have b0 : w1.heap[w.heap.size]? = some (.cells #[a, b] 62 (0, 0)) := by
    rw [hb.block _ (by omega)]; exact heap_alloc2_old _ _ _
  have b1 : w1.heap[w.heap.size + 1]? = some (.cells #[x, y] 62 (0, 0)) := by
    rw [hb.block _ (by omega)]; exact heap_alloc2_new _ _ _
  have hbb := (below_two w _ _).trans (hb.mono (by omega))
  exact ⟨⟨⟨cell_of_row _ _ 0 _ _ _ b0, cell_of_row _ _ 1 _ _ _ b0⟩, ⟨cell_of_row _ _ 0 _ _ _ b1, cell_of_row _ _ 1 _ _ _ b1⟩⟩, fun i => ⟨frozen_of_row _ _ i _ _ b0, frozen_of_row _ _ i _ _ b1⟩, hbb, hw1⟩

set_option maxRecDepth 100000 in
set_option maxHeartbeats 4000000 in
theorem rText_any (r : List UInt8 × Int) (most : Nat) (w : World) (hs : r.1.length ≤ 1000000000) (hm : most ≤ 9223372036854775807) :
    Calls Try.prog 28 #[rdV r, .int .i64 most] w fun e w' => e = .returned (textV (textS r most)) ∧ Below w.heap.size w w' := by
  obtain ⟨l, f⟩ := r
  obtain ⟨s, rfl⟩ : ∃ s : ByteArray, l = s.data.toList := ⟨⟨l.toArray⟩, by simp⟩
  have e : rdV (s.data.toList, f) = .agg #[.string s, .int .i64 f] := by unfold rdV; simp only [back_bytes]
  have hN := fun w => rNum_any (s.data.toList, f) most w hs
  rw [e] at hN ⊢
  by_cases hf : f = 0
  · subst hf
    cases hT : takeL s.data.toList most with
    | error c =>
      have hc := takeL_error hT
      have hcb : (c != 0) = true := by rcases hc with rfl | rfl <;> rfl
      have e2 : textV (textS (s.data.toList, 0) most) = .tuple #[.agg #[.string s, .int .i64 c], .string ⟨#[]⟩] := by
        unfold textS textL textV rdV
        rw [if_pos rfl, hT]
      rw [e2]
      rw [numS_err hT] at hN
      clear hT e hc e2
      go_enter Try.func28, Try.ntmps28
      go_wp2_with fail
      refine (hN _).mono ?_
      clear hN
      rintro e w1 ⟨rfl, hb⟩
      obtain ⟨⟨⟨c00, c01⟩, ⟨c10, c11⟩⟩, hf, hbw, hlt⟩ := boxes_after hb (.cells #[.string s, .int .i64 c] 62)
      have f01 := (hf 1).1
      have f10 := (hf 0).2
      have f11 := (hf 1).2
      clear hb hf
      go_wp2
      exact bodyPost_ret (rd_result2 (fn := Try.f28) (p := 4) (u := 5) rfl _ _ (w.heap.size + 1) _ _ _ rfl rfl (by go_simp) (by go_simp)) rfl ⟨rfl, by repeat (first | exact hbw | refine Below.setCell ?_ (by simp) _)⟩
    | ok q =>
      obtain ⟨n, k⟩ := q
      have hn := (takeL_ok hT).1
      have hn64 := (takeL_ok hT).2.1
      have hkl := (takeL_ok hT).2.2.1
      rw [numS_yes hT] at hN
      have hsl := Lib.size_eq s
      have hz1 : (s.extract k s.size).size = s.size - k := by simp
      have hs1 : (s.extract k s.size).size ≤ 1000000000 := by rw [hz1, hsl]; have hs' : s.data.toList.length ≤ 1000000000 := hs; omega
      by_cases hlt' : s.size - k < n
      · have e2 : textV (textS (s.data.toList, 0) most) = .tuple #[.agg #[.string s, .int .i64 8], .string ⟨#[]⟩] := by
          unfold textS textL textV rdV
          rw [if_pos rfl, hT]
          simp only
          rw [if_pos (by rw [← hsl]; exact hlt'), back_bytes]
        rw [e2]
        generalize s.extract k s.size = s1 at *
        have hgt : (s1.size : Int) < (n : Int) := by omega
        clear hT e e2 hkl hlt' hsl hz1 hn
        go_enter Try.func28, Try.ntmps28
        go_wp2_with fail
        refine (hN _).mono ?_
        clear hN
        rintro e w1 ⟨rfl, hb⟩
        obtain ⟨⟨⟨c00, c01⟩, ⟨c10, c11⟩⟩, hf, hbw, hlt⟩ := boxes_after hb (.cells #[.string s1, .int .i64 0] 62)
        have f01 := (hf 1).1
        have f10 := (hf 0).2
        have f11 := (hf 1).2
        clear hb hf
        go_wp2
        exact bodyPost_ret (rd_result2 (fn := Try.f28) (p := 4) (u := 5) rfl _ _ (w.heap.size + 1) _ _ _ rfl rfl (by go_simp) (by go_simp)) rfl ⟨rfl, by repeat (first | exact hbw | refine Below.setCell ?_ (by simp) _)⟩
      · have e2 : textV (textS (s.data.toList, 0) most) = .tuple #[.agg #[.string ((s.extract k s.size).extract n (s.extract k s.size).size), .int .i64 0], .string ((s.extract k s.size).extract 0 n)] := by
          unfold textS textL textV rdV
          rw [if_pos rfl, hT]
          simp only
          rw [if_neg (by rw [← hsl]; exact hlt')]
          simp only
          have hk' : k ≤ s.size := by omega
          have h1 := extract_drop s k hk'
          have hd : (s.extract k s.size).data.toList = s.data.toList.drop k := by rw [h1]
          have h2 := extract_drop (s.extract k s.size) n (by omega)
          rw [hd] at h2
          have h3 := extract_head (s := s.extract k s.size) (a := (s.data.toList.drop k).take n) (r := (s.data.toList.drop k).drop n) (by rw [hd]; exact (List.take_append_drop _ _).symm)
          rw [List.length_take, List.length_drop, Nat.min_eq_left (by omega)] at h3
          rw [h2, h3]
        rw [e2]
        generalize s.extract k s.size = s1 at *
        have hgt : ¬ (s1.size : Int) < (n : Int) := by omega
        have hns : n ≤ s1.size := by omega
        have hns2 : ¬ s1.size < n := by omega
        clear hT e e2 hkl hlt' hsl hz1 hn
        go_enter Try.func28, Try.ntmps28
        go_wp2_with fail
        refine (hN _).mono ?_
        clear hN
        rintro e w1 ⟨rfl, hb⟩
        obtain ⟨⟨⟨c00, c01⟩, ⟨c10, c11⟩⟩, hf, hbw, hlt⟩ := boxes_in hb
        have f10 := (hf 0).2
        have f11 := (hf 1).2
        have hlt0 : w.heap.size < w1.heap.size := by omega
        clear hb hf
        have f60 : (w1.alloc (.cells #[.string s1, .int .i64 0] 62)).frozen? ⟨w1.heap.size, 0, none⟩ = false := frozen_of_row _ _ 0 _ _ (heap_alloc_new _ _)
        go_wp2
        exact bodyPost_ret (rd_result2 (fn := Try.f28) (p := 4) (u := 5) rfl _ _ (w.heap.size + 1) _ _ _ rfl rfl (by go_simp) (by go_simp)) rfl ⟨rfl, by repeat (first | exact hbw | refine Below.setCell ?_ (by simp; try omega) _ | refine Below.alloc ?_ (by simp; try omega) _)⟩
  · have hfb : (f != 0) = true := by simpa using hf
    have e2 : textV (textS (s.data.toList, f) most) = .tuple #[.agg #[.string s, .int .i64 f], .string ⟨#[]⟩] := by
      unfold textS textV
      rw [if_neg hf]
      simp only [e]
    have e3 : numV (numS (s.data.toList, f) most) = .tuple #[.agg #[.string s, .int .i64 f], .int .u64 0] := by
      unfold numS numV
      rw [if_neg hf]
      simp only [e]
      rfl
    rw [e2]
    rw [e3] at hN
    clear e e2 e3
    go_enter Try.func28, Try.ntmps28
    go_wp2_with fail
    refine (hN _).mono ?_
    clear hN
    rintro e w1 ⟨rfl, hb⟩
    obtain ⟨⟨⟨c00, c01⟩, ⟨c10, c11⟩⟩, hf', hbw, hlt⟩ := boxes_after hb (.cells #[.string s, .int .i64 f] 62)
    have f01 := (hf' 1).1
    have f10 := (hf' 0).2
    have f11 := (hf' 1).2
    clear hb hf'
    go_wp2
    exact bodyPost_ret (rd_result2 (fn := Try.f28) (p := 4) (u := 5) rfl _ _ (w.heap.size + 1) _ _ _ rfl rfl (by go_simp) (by go_simp)) rfl ⟨rfl, by repeat (first | exact hbw | refine Below.setCell ?_ (by simp) _)⟩
end Go.Proofs.Ytckknopjhmpnhaa
