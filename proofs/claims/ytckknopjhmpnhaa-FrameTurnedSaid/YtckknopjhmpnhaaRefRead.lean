/- The document's reader: Num, Text. -/
import Derived.Test.YtckknopjhmpnhaaFramePlain
import Derived.Laws.ResultCell
import Derived.Test.YtckknopjhmpnhaaCrcSteps
namespace Go.Proofs.Ytckknopjhmpnhaa
open Go.RowKit Go.Shelf

/-- A reader as a value. -/
def rdV (r : List UInt8 × Int) : Value := .agg #[.string ⟨r.1.toArray⟩, .int .i64 r.2]
/-- What Num tells. -/
def numV (p : (List UInt8 × Int) × Nat) : Value := .tuple #[rdV p.1, .int .u64 p.2]
/-- What Text tells. -/
def textV (p : (List UInt8 × Int) × List UInt8) : Value := .tuple #[rdV p.1, .string ⟨p.2.toArray⟩]
theorem back_bytes (s : ByteArray) : (⟨s.data.toList.toArray⟩ : ByteArray) = s := by cases s; simp
theorem extract_drop (s : ByteArray) (k : Nat) (g : k ≤ s.size) : s.extract k s.size = ⟨(s.data.toList.drop k).toArray⟩ := by
  have h := extract_rest (s := s) (a := s.data.toList.take k) (r := s.data.toList.drop k) (List.take_append_drop _ _).symm
  rw [List.length_take, ← Lib.size_eq] at h
  rwa [Nat.min_eq_left g] at h
theorem valL_drop (l : List UInt8) (j : Nat) (h : j < l.length) : valL (l.drop j) = (l.getD j 0).toNat % 128 + 128 * valL (l.drop (j + 1)) := by
  rw [List.drop_eq_getElem_cons h, valL, List.getD_eq_getElem?_getD, List.getElem?_eq_getElem h]
  rfl
theorem valL_drop_le : ∀ (j : Nat) (l : List UInt8), valL (l.drop j) ≤ valL l
  | 0, l => Nat.le_refl _
  | j + 1, [] => by simp
  | j + 1, b :: r => by
    simp only [List.drop_succ_cons]
    have := valL_drop_le j r
    show valL (r.drop j) ≤ b.toNat % 128 + 128 * valL r
    omega

theorem numS_err {s : ByteArray} {most : Nat} {c : Int} (h : takeL s.data.toList most = .error c) : numV (numS (s.data.toList, 0) most) = .tuple #[.agg #[.string s, .int .i64 c], .int .u64 0] := by
  unfold numS numV rdV
  rw [if_pos rfl, h]
  simp only [back_bytes]
  rfl
theorem numS_yes {s : ByteArray} {most n k : Nat} (h : takeL s.data.toList most = .ok (n, k)) : numV (numS (s.data.toList, 0) most) = .tuple #[.agg #[.string (s.extract k s.size), .int .i64 0], .int .u64 n] := by
  unfold numS numV rdV
  rw [if_pos rfl, h]
  have := (takeL_ok h).2.2.1
  rw [← Lib.size_eq] at this
  simp only [extract_drop s k this]

theorem info60 : (Try.prog.info? 62).map (·.size) = some 2 := by kernel_rfl
theorem rd_result {fn : Func} {p u : Tmp} (hfn : fn.results = #[.cell p 62, .tmp u]) (tmps : Array Value) (w : World) (g : Nat) (a b c : Value) (hp : tmps.getD p undef = .pointer (some ⟨g, 0, none⟩)) (hc : tmps.getD u undef = c)
    (hg : w.heap[g]? = some (.cells #[a, b] 62 (0, 0))) : (results fn tmps).run Try.prog w = .ok (.tuple #[.agg #[a, b], c]) w := by
  rw [results_cell_tmp hfn, hp, hc]
  have hl := run_loadVar_row (P := Try.prog) w g 62 62 #[a, b] (0, 0) _ hg Try.underlying62 rfl info60
  simp [asAddr, Result.andThen, hl]

set_option maxRecDepth 100000 in
set_option maxHeartbeats 2000000 in
theorem rNum_faulted (s : ByteArray) (f : Int) (most : Int) (w : World) (hf : f ≠ 0) :
    Calls Try.prog 27 #[.agg #[.string s, .int .i64 f], .int .u64 most] w fun e w' => e = .returned (.tuple #[.agg #[.string s, .int .i64 f], .int .u64 0]) ∧ Below w.heap.size w w' := by
  have hb : (f != 0) = true := by simpa using hf
  go_enter Try.func27, Try.ntmps27
  go_wp2
  exact bodyPost_ret (rd_result (fn := Try.f27) (p := 4) (u := 5) rfl _ _ (w.heap.size + 1) _ _ _ rfl rfl (heap_alloc2_new _ _ _)) rfl ⟨rfl, below_two _ _ _⟩

set_option maxRecDepth 100000 in
set_option maxHeartbeats 4000000 in
theorem rNum_fresh (s : ByteArray) (most : Nat) (w : World) (hs : s.size ≤ 1000000000) :
    Calls Try.prog 27 #[.agg #[.string s, .int .i64 0], .int .u64 most] w fun e w' => e = .returned (numV (numS (s.data.toList, 0) most)) ∧ Below w.heap.size w w' := by
  obtain ⟨l, hl⟩ : ∃ l, s.data.toList = l := ⟨_, rfl⟩
  have hls : l.length = s.size := by rw [← hl, ← Lib.size_eq]
  have hlen : hiL l ≤ s.size := by rw [← hls]; exact hiL_le _
  go_enter Try.func27, Try.ntmps27
  go_wp2
  go_loop [6] (fun i => ∃ k : Nat, i = .int .i64 k ∧ k ≤ s.size ∧ k ≤ 10 ∧ k ≤ hiL l) (fun i => 10 - (intOf i).toNat)
  case atStart => exact ⟨0, rfl, Nat.zero_le _, Nat.zero_le _, Nat.zero_le _⟩
  case round =>
    obtain ⟨k, rfl, hk, hk10, hhi⟩ := hrel
    by_cases h10 : k = 10
    · subst h10
      have hT : takeL s.data.toList most = .error 9 := by rw [hl]; unfold takeL; rw [if_pos hhi]
      have HR := Lib.hid (numS_err hT)
      clear hT hl hls hlen hhi
      by_cases h11 : 10 < s.size
      · go_wp2
        rw [HR.out]
        exact bodyPost_ret (rd_result (fn := Try.f27) (p := 4) (u := 5) rfl _ _ (w.heap.size + 1) _ _ _ rfl rfl (heap_alloc2_new _ _ _)) rfl ⟨rfl, below_two _ _ _⟩
      · obtain h12 : s.size = 10 := by omega
        go_wp2
        rw [HR.out]
        exact bodyPost_ret (rd_result (fn := Try.f27) (p := 4) (u := 5) rfl _ _ (w.heap.size + 1) _ _ _ rfl rfl (heap_alloc2_new _ _ _)) rfl ⟨rfl, below_two _ _ _⟩
    by_cases hks : k = s.size
    · subst hks
      have hT : takeL s.data.toList most = .error 8 := by rw [hl]; unfold takeL; rw [if_neg (by omega), if_pos (by omega)]
      have HR := Lib.hid (numS_err hT)
      clear hT hl hls hlen hhi
      have k10 : ((s.size : Int) == 10) = false := beq_eq_false_iff_ne.2 (by omega)
      go_wp2
      rw [HR.out]
      exact bodyPost_ret (rd_result (fn := Try.f27) (p := 4) (u := 5) rfl _ _ (w.heap.size + 1) _ _ _ rfl rfl (heap_alloc2_new _ _ _)) rfl ⟨rfl, below_two _ _ _⟩
    have hlt : k < s.size := by omega
    have hgk := getD_list s k hlt
    rw [hl] at hgk
    by_cases hb : 128 ≤ s[k].toNat
    · have hnx := hiL_next l k hhi (by omega) (by rw [hgk]; omega)
      have Hnx := Lib.hid hnx
      clear hl hls hlen hhi hgk hnx
      go_wp2
      go_round
      case rel => exact ⟨k + 1, by go_num, by omega, by omega, Hnx.out⟩
      case measure => simp [intOf]; omega
    · have hst := hiL_stop l k hhi (by omega) (by rw [hgk]; omega)
      have hn1 : ¬ 10 ≤ hiL l := by omega
      have hn2 : ¬ l.length ≤ hiL l := by omega
      have hb128 : ¬ (128 : Int) ≤ (s[k].toNat : Int) := by omega
      have k10 : ((k : Int) == 10) = false := beq_eq_false_iff_ne.2 (by omega)
      have ks : ((k : Int) == (s.size : Int)) = false := beq_eq_false_iff_ne.2 (by omega)
      by_cases h3 : (k = 9 ∧ 1 < s[k].toNat) ∨ (0 < k ∧ s[k].toNat = 0)
      · have hT : takeL s.data.toList most = .error 9 := by rw [hl]; unfold takeL; rw [if_neg hn1, if_neg hn2, hst, hgk, if_pos h3]
        have HR := Lib.hid (numS_err hT)
        clear hT hl hls hlen hhi hst hn1 hn2 hgk hb
        rcases h3 with ⟨h3, h4⟩ | ⟨h3, h4⟩
        · subst h3
          go_wp2
          rw [HR.out]
          exact bodyPost_ret (rd_result (fn := Try.f27) (p := 4) (u := 5) rfl _ _ (w.heap.size + 1) _ _ _ rfl rfl (heap_alloc2_new _ _ _)) rfl ⟨rfl, below_two _ _ _⟩
        · by_cases h9 : k = 9
          · subst h9
            have q0 : ((s[9].toNat : Int) == 0) = true := beq_iff_eq.2 (by omega)
            have q1 : ¬ (1 : Int) < (s[9].toNat : Int) := by omega
            go_wp2
            rw [HR.out]
            exact bodyPost_ret (rd_result (fn := Try.f27) (p := 4) (u := 5) rfl _ _ (w.heap.size + 1) _ _ _ rfl rfl (heap_alloc2_new _ _ _)) rfl ⟨rfl, below_two _ _ _⟩
          · have k9 : ((k : Int) == 9) = false := beq_eq_false_iff_ne.2 (by omega)
            have q0 : ((s[k].toNat : Int) == 0) = true := beq_iff_eq.2 (by omega)
            have q2 : (0 : Int) < (k : Int) := by omega
            go_wp2
            rw [HR.out]
            exact bodyPost_ret (rd_result (fn := Try.f27) (p := 4) (u := 5) rfl _ _ (w.heap.size + 1) _ _ _ rfl rfl (heap_alloc2_new _ _ _)) rfl ⟨rfl, below_two _ _ _⟩
      · have hTn : most < valL (l.take (k + 1)) → takeL s.data.toList most = .error 9 := fun g => by rw [hl]; unfold takeL; rw [if_neg hn1, if_neg hn2, hst, hgk, if_neg h3, if_pos g]
        have hTy : ¬ most < valL (l.take (k + 1)) → takeL s.data.toList most = .ok (valL (l.take (k + 1)), k + 1) := fun g => by rw [hl]; unfold takeL; rw [if_neg hn1, if_neg hn2, hst, hgk, if_neg h3, if_neg g]
        have hv64 : valL (l.take (k + 1)) < 18446744073709551616 := val64 l k (by omega) (by
          rcases Nat.lt_or_ge k 9 with g | g
          · exact .inl (by omega)
          · obtain rfl : k = 9 := by omega
            exact .inr ⟨rfl, by rw [hgk]; omega⟩)
        have hnx : ∀ j, j ≤ k → (hjs : j < s.size) → valL ((l.take (k + 1)).drop j) = s[j].toNat % 128 + 128 * valL ((l.take (k + 1)).drop (j + 1)) := fun j hj hjs => by
          rw [valL_drop _ j (by rw [List.length_take]; omega)]
          have : (l.take (k + 1)).getD j 0 = s[j] := by
            rw [List.getD_eq_getElem?_getD, List.getElem?_take, if_pos (by omega), ← List.getD_eq_getElem?_getD, ← hl]
            exact getD_list s j hjs
          rw [this]
        have hlt64 : ∀ j, valL ((l.take (k + 1)).drop j) < 18446744073709551616 := fun j => Nat.lt_of_le_of_lt (valL_drop_le j _) hv64
        have hend : (l.take (k + 1)).drop (k + 1) = [] := List.drop_eq_nil_of_le (by rw [List.length_take]; omega)
        have HTn := Lib.hid hTn
        have HTy := Lib.hid hTy
        have Hnx := Lib.hid hnx
        have Hlt := Lib.hid hlt64
        have Hend := Lib.hid hend
        have Hv := Lib.hid hv64
        have hcase : (k = 9 ∧ ¬ (1 : Int) < (s[k].toNat : Int) ∧ s[k].toNat ≠ 0) ∨ k = 0 ∨ (k < 9 ∧ 0 < k ∧ s[k].toNat ≠ 0) := by omega
        clear hTn hTy hnx hlt64 hend hv64 hl hls hlen hhi hst hn1 hn2 hgk hb h3
        rcases hcase with ⟨h3, h4, h5⟩ | h3 | ⟨h3, h4, h5⟩
        · subst h3
          have q0 : ((s[9].toNat : Int) == 0) = false := beq_eq_false_iff_ne.2 (by omega)
          go_wp2
          go_loop [7, 8] (fun v i => ∃ j : Nat, j ≤ 9 + 1 ∧ i = .int .i64 ((j : Int) - 1) ∧ v = .int .u64 (valL ((l.take (9 + 1)).drop j) : Nat)) (fun _ i => ((intOf i) + 1).toNat)
          case atStart => exact ⟨9 + 1, Nat.le_refl _, cint_eq (by omega), cint_eq (by rw [Hend.out]; rfl)⟩
          case round =>
            obtain ⟨j, hj, rfl, rfl⟩ := hrel
            cases j with
            | zero =>
              rw [List.drop_zero]
              by_cases hmo : most < valL (l.take (9 + 1))
              · have HR := Lib.hid (numS_err (HTn.out hmo))
                have hmo2 : (most : Int) < (valL (l.take (9 + 1)) : Nat) := by omega
                generalize valL (l.take (9 + 1)) = z at *
                go_wp2
                rw [HR.out]
                exact bodyPost_ret (rd_result (fn := Try.f27) (p := 4) (u := 5) rfl _ _ (w.heap.size + 1) _ _ _ rfl rfl (heap_alloc2_new _ _ _)) rfl ⟨rfl, below_two _ _ _⟩
              · have HR := Lib.hid (numS_yes (HTy.out hmo))
                have hmo2 : ¬ (most : Int) < (valL (l.take (9 + 1)) : Nat) := by omega
                generalize valL (l.take (9 + 1)) = z at *
                go_wp2
                rw [HR.out]
                exact bodyPost_ret (rd_result (fn := Try.f27) (p := 4) (u := 5) rfl _ _ (w.heap.size + 1) _ _ _ rfl rfl (heap_alloc2_new _ _ _)) rfl ⟨rfl, below_two _ _ _⟩
            | succ j =>
              have hjs : j < s.size := by omega
              have hjn := Lib.hid (Hnx.out j (by omega) hjs)
              have hjl := Hlt.out j
              have hj1 : ((j + 1 : Nat) : Int) - 1 = (j : Int) := by omega
              rw [hj1]
              generalize valL ((l.take (9 + 1)).drop (j + 1)) = z at *
              obtain ⟨y, hy⟩ : ∃ y, s[j] = y := ⟨_, rfl⟩
              rw [hy] at hjn
              go_wp2
              go_round
              case rel => exact ⟨j, by omega, cint_eq rfl, cint_eq (by have := hjn.out; simp only [IntKind.wrap_u64]; omega)⟩
              case measure => simp [intOf]
        · subst h3
          go_wp2
          go_loop [7, 8] (fun v i => ∃ j : Nat, j ≤ 0 + 1 ∧ i = .int .i64 ((j : Int) - 1) ∧ v = .int .u64 (valL ((l.take (0 + 1)).drop j) : Nat)) (fun _ i => ((intOf i) + 1).toNat)
          case atStart => exact ⟨0 + 1, Nat.le_refl _, cint_eq (by omega), cint_eq (by rw [Hend.out]; rfl)⟩
          case round =>
            obtain ⟨j, hj, rfl, rfl⟩ := hrel
            cases j with
            | zero =>
              rw [List.drop_zero]
              by_cases hmo : most < valL (l.take (0 + 1))
              · have HR := Lib.hid (numS_err (HTn.out hmo))
                have hmo2 : (most : Int) < (valL (l.take (0 + 1)) : Nat) := by omega
                generalize valL (l.take (0 + 1)) = z at *
                go_wp2
                rw [HR.out]
                exact bodyPost_ret (rd_result (fn := Try.f27) (p := 4) (u := 5) rfl _ _ (w.heap.size + 1) _ _ _ rfl rfl (heap_alloc2_new _ _ _)) rfl ⟨rfl, below_two _ _ _⟩
              · have HR := Lib.hid (numS_yes (HTy.out hmo))
                have hmo2 : ¬ (most : Int) < (valL (l.take (0 + 1)) : Nat) := by omega
                generalize valL (l.take (0 + 1)) = z at *
                go_wp2
                rw [HR.out]
                exact bodyPost_ret (rd_result (fn := Try.f27) (p := 4) (u := 5) rfl _ _ (w.heap.size + 1) _ _ _ rfl rfl (heap_alloc2_new _ _ _)) rfl ⟨rfl, below_two _ _ _⟩
            | succ j =>
              have hjs : j < s.size := by omega
              have hjn := Lib.hid (Hnx.out j (by omega) hjs)
              have hjl := Hlt.out j
              have hj1 : ((j + 1 : Nat) : Int) - 1 = (j : Int) := by omega
              rw [hj1]
              generalize valL ((l.take (0 + 1)).drop (j + 1)) = z at *
              obtain ⟨y, hy⟩ : ∃ y, s[j] = y := ⟨_, rfl⟩
              rw [hy] at hjn
              go_wp2
              go_round
              case rel => exact ⟨j, by omega, cint_eq rfl, cint_eq (by have := hjn.out; simp only [IntKind.wrap_u64]; omega)⟩
              case measure => simp [intOf]
        · have k9 : ((k : Int) == 9) = false := beq_eq_false_iff_ne.2 (by omega)
          have q0 : ((s[k].toNat : Int) == 0) = false := beq_eq_false_iff_ne.2 (by omega)
          have q2 : (0 : Int) < (k : Int) := by omega
          go_wp2
          go_loop [7, 8] (fun v i => ∃ j : Nat, j ≤ k + 1 ∧ i = .int .i64 ((j : Int) - 1) ∧ v = .int .u64 (valL ((l.take (k + 1)).drop j) : Nat)) (fun _ i => ((intOf i) + 1).toNat)
          case atStart => exact ⟨k + 1, Nat.le_refl _, cint_eq (by omega), cint_eq (by rw [Hend.out]; rfl)⟩
          case round =>
            obtain ⟨j, hj, rfl, rfl⟩ := hrel
            cases j with
            | zero =>
              rw [List.drop_zero]
              by_cases hmo : most < valL (l.take (k + 1))
              · have HR := Lib.hid (numS_err (HTn.out hmo))
                have hmo2 : (most : Int) < (valL (l.take (k + 1)) : Nat) := by omega
                generalize valL (l.take (k + 1)) = z at *
                go_wp2
                rw [HR.out]
                exact bodyPost_ret (rd_result (fn := Try.f27) (p := 4) (u := 5) rfl _ _ (w.heap.size + 1) _ _ _ rfl rfl (heap_alloc2_new _ _ _)) rfl ⟨rfl, below_two _ _ _⟩
              · have HR := Lib.hid (numS_yes (HTy.out hmo))
                have hmo2 : ¬ (most : Int) < (valL (l.take (k + 1)) : Nat) := by omega
                generalize valL (l.take (k + 1)) = z at *
                go_wp2
                rw [HR.out]
                exact bodyPost_ret (rd_result (fn := Try.f27) (p := 4) (u := 5) rfl _ _ (w.heap.size + 1) _ _ _ rfl rfl (heap_alloc2_new _ _ _)) rfl ⟨rfl, below_two _ _ _⟩
            | succ j =>
              have hjs : j < s.size := by omega
              have hjn := Lib.hid (Hnx.out j (by omega) hjs)
              have hjl := Hlt.out j
              have hj1 : ((j + 1 : Nat) : Int) - 1 = (j : Int) := by omega
              rw [hj1]
              generalize valL ((l.take (k + 1)).drop (j + 1)) = z at *
              obtain ⟨y, hy⟩ : ∃ y, s[j] = y := ⟨_, rfl⟩
              rw [hy] at hjn
              go_wp2
              go_round
              case rel => exact ⟨j, by omega, cint_eq rfl, cint_eq (by have := hjn.out; simp only [IntKind.wrap_u64]; omega)⟩
              case measure => simp [intOf]
end Go.Proofs.Ytckknopjhmpnhaa
