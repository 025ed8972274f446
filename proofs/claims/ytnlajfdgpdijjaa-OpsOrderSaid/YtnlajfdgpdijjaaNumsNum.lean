/- Texts of this proof, joined. -/
import Derived.Test.YtnlajfdgpdijjaaShelf
import Derived.Test.YtnlajfdgpdijjaaRows
import Derived.WalkKit
import Derived.WalkSpells
import Derived.WalkLawsBesides
import Derived.Test.YtnlajfdgpdijjaaNumsPlain
import Derived.Lib.Hide
import Derived.Lib.Strings
import Derived.BigCall
import Derived.Recover
import Derived.Laws.Pointers
import Derived.Test.YtnlajfdgpdijjaaWorlds
import Derived.Defers
import Derived.Tactics
import Derived.Tactics2

/- strings.Clone: the same bytes. -/
namespace Go.Proofs.Ytnlajfdgpdijjaa
open Go.RowKit Go.Shelf

theorem clone_any (s : ByteArray) (w : World) (hs : s.size ≤ 1000000000) :
    Calls Try.prog 46 #[.string s] w fun e W' => e = .returned (.string s) ∧ Below w.heap.size w W' := by
  have hC := Try.stringslite_Clone s w (by omega)
  go_enter Try.func46, Try.ntmps46
  go_wp2_with (go_at_call 56; refine hC.mono ?_; rintro e w1 ⟨rfl, hb⟩)
  go_ret
  exact ⟨rfl, hb⟩
end Go.Proofs.Ytnlajfdgpdijjaa

/- A reader: Read, Left, Fault, End; how many bytes the next number has. -/
namespace Go.Proofs.Ytnlajfdgpdijjaa
open Go.RowKit Go.Shelf

/-- A reader's box: what wasn't passed, and the fault. -/
def Rd (B : Nat) (s : ByteArray) (f : Int) (w : World) : Prop := w.heap[B]? = some (.cells #[.string s, .int .i64 f] 82 (0, 0))
theorem Rd.c0 {B : Nat} {s : ByteArray} {f : Int} {w : World} (h : Rd B s f w) : w.cell? ⟨B, 0, none⟩ = some (.string s) := cell_of_row w B 0 _ _ (0, 0) h
theorem Rd.c1 {B : Nat} {s : ByteArray} {f : Int} {w : World} (h : Rd B s f w) : w.cell? ⟨B, 1, none⟩ = some (.int .i64 f) := cell_of_row w B 1 _ _ (0, 0) h
theorem Rd.f0 {B : Nat} {s : ByteArray} {f : Int} {w : World} (h : Rd B s f w) : w.frozen? ⟨B, 0, none⟩ = false := frozen_of_row w B 0 _ _ h
theorem Rd.f1 {B : Nat} {s : ByteArray} {f : Int} {w : World} (h : Rd B s f w) : w.frozen? ⟨B, 1, none⟩ = false := frozen_of_row w B 1 _ _ h
theorem Rd.lt {B : Nat} {s : ByteArray} {f : Int} {w : World} (h : Rd B s f w) : B < w.heap.size := (Array.getElem?_eq_some_iff.1 h).1
theorem Rd.below {B N : Nat} {s : ByteArray} {f : Int} {w w' : World} (h : Rd B s f w) (hb : Below N w w') (hN : B < N) : Rd B s f w' := (hb.block B hN).trans h
theorem Rd.put0 {B : Nat} {s : ByteArray} {f : Int} {w : World} (h : Rd B s f w) (t : ByteArray) : Rd B t f (w.setCell ⟨B, 0, none⟩ (.string t)) := heap_setCell_same w B 0 _ _ _ h
theorem Rd.put1 {B : Nat} {s : ByteArray} {f : Int} {w : World} (h : Rd B s f w) (g : Int) : Rd B s g (w.setCell ⟨B, 1, none⟩ (.int .i64 g)) := heap_setCell_same w B 1 _ _ _ h
theorem Rd.drew {B : Nat} {s : ByteArray} {f : Int} {w : World} (h : Rd B s f w) : Rd B s f w.drew := h

theorem getD_list (s : ByteArray) (k : Nat) (h : k < s.size) : s.data.toList.getD k 0 = s[k] := by
  have h' : k < s.data.size := h
  rw [List.getD_eq_getElem?_getD, Array.getElem?_toList, Array.getElem?_eq_getElem h']
  rfl

theorem read_any (s : ByteArray) (w : World) (hs : s.size ≤ 1000000000) :
    Calls Try.prog 20 #[.string s] w fun e W' => ∃ B, e = .returned (.pointer (some ⟨B, 0, none⟩)) ∧ w.heap.size ≤ B ∧ Rd B s 0 W' ∧ Below w.heap.size w W' := by
  have hC := clone_any s w hs
  go_enter Try.func20, Try.ntmps20
  go_wp2_with (go_at_call 46; refine hC.mono ?_; rintro e w1 ⟨rfl, hb⟩)
  go_ret
  refine ⟨_, rfl, hb.size, ?_, hb.alloc hb.size _⟩
  unfold Rd
  exact heap_alloc_new w1 _

theorem left_any (B : Nat) (s : ByteArray) (f : Int) (w : World) (h : Rd B s f w) :
    Calls Try.prog 23 #[.pointer (some ⟨B, 0, none⟩)] w fun e W' => e = .returned (.int .i64 s.size) ∧ w = W' := by
  have c0 := h.c0
  go_enter Try.func23, Try.ntmps23
  go_wp2
  go_ret
  exact ⟨rfl, rfl⟩

theorem fault_any (B : Nat) (s : ByteArray) (f : Int) (w : World) (h : Rd B s f w) :
    Calls Try.prog 25 #[.pointer (some ⟨B, 0, none⟩)] w fun e W' => e = .returned (.int .i64 f) ∧ w = W' := by
  have c1 := h.c1
  go_enter Try.func25, Try.ntmps25
  go_wp2
  go_ret
  exact ⟨rfl, rfl⟩

/-- What End tells. -/
def endOf (s : ByteArray) (f : Int) : Int := if f = 0 then (if 0 < s.size then 11 else 0) else f
/-- What a take panics with. -/
def faultEnd (c : Int) : Ending := .panicked [{ v := .iface 80 (.int .i64 c), recovered := false }]
/-- What size tells, or panics with. -/
def sizeEnd (l : List UInt8) : Ending :=
  if 10 ≤ hiL l then faultEnd 9 else if l.length ≤ hiL l then faultEnd 8 else .returned (.int .i64 (hiL l + 1))

set_option maxRecDepth 100000 in
set_option maxHeartbeats 1000000 in
theorem size_any (B : Nat) (s : ByteArray) (f : Int) (w : World) (h : Rd B s f w) (hs : s.size ≤ 1000000000) :
    Calls Try.prog 123 #[.pointer (some ⟨B, 0, none⟩)] w fun e W' => e = sizeEnd s.data.toList ∧ w = W' := by
  have c0 := h.c0
  go_enter Try.func123, Try.ntmps123
  go_wp2
  obtain ⟨M, hM, hM1, hM2, hM3⟩ : ∃ M : Nat, min (s.size : Int) 10 = M ∧ M ≤ s.size ∧ M ≤ 10 ∧ (M = s.size ∨ M = 10) := by
    rcases Nat.lt_or_ge s.size 10 with g | g
    · exact ⟨s.size, by omega, by omega, by omega, .inl rfl⟩
    · exact ⟨10, by omega, by omega, by omega, .inr rfl⟩
  rw [hM]
  clear hM
  go_loop [10] (fun i => ∃ k : Nat, i = .int .i64 k ∧ k ≤ M ∧ k ≤ hiL s.data.toList) (fun i => M - (intOf i).toNat)
  case atStart => exact ⟨0, rfl, Nat.zero_le _, Nat.zero_le _⟩
  case round =>
    obtain ⟨k, rfl, hk, hhi⟩ := hrel
    rcases Nat.lt_or_ge k M with hlt | hge
    · have hks : k < s.size := by omega
      have hgk := getD_list s k hks
      by_cases hb : s[k].toNat < 128
      · have hst := hiL_stop s.data.toList k hhi (by rw [← Lib.size_eq]; exact hks) (by rw [hgk]; exact hb)
        have hE : sizeEnd s.data.toList = .returned (.int .i64 (k + 1)) := by
          unfold sizeEnd
          rw [hst, if_neg (by omega), if_neg (by rw [← Lib.size_eq]; omega)]
        have HE := Lib.hid hE
        clear hst hE hgk hhi
        go_wp2
        go_ret
        exact ⟨HE.out.symm, rfl⟩
      · have hnx := hiL_next s.data.toList k hhi (by rw [← Lib.size_eq]; exact hks) (by rw [hgk]; exact hb)
        have Hnx := Lib.hid hnx
        clear hgk hhi hnx
        go_wp2
        go_round
        case rel => exact ⟨k + 1, by go_num, by omega, Hnx.out⟩
        case measure => simp [intOf]; omega
    · obtain rfl : k = M := by omega
      have hlen : hiL s.data.toList ≤ s.size := by rw [Lib.size_eq]; exact hiL_le _
      by_cases h10 : 10 ≤ s.size
      · have hE : sizeEnd s.data.toList = faultEnd 9 := by
          unfold sizeEnd
          rw [if_pos (by omega)]
        have HE := Lib.hid hE
        clear hhi hE hlen
        go_wp2
        exact ⟨rfl, HE.out.symm, rfl⟩
      · have hE : sizeEnd s.data.toList = faultEnd 8 := by
          unfold sizeEnd
          rw [if_neg (by omega), if_pos (by rw [← Lib.size_eq]; omega)]
        have HE := Lib.hid hE
        clear hhi hE hlen
        go_wp2
        exact ⟨rfl, HE.out.symm, rfl⟩
end Go.Proofs.Ytnlajfdgpdijjaa

/- takeNum: the number that stands next. -/
namespace Go.Proofs.Ytnlajfdgpdijjaa
open Go.RowKit Go.Shelf

/-- What a take of a number leaves. -/
def TakePost (B : Nat) (s : ByteArray) (most : Nat) (w : World) (e : Ending) (w' : World) : Prop :=
  (∃ c, takeL s.data.toList most = .error c ∧ e = faultEnd c ∧ w' = w) ∨ (∃ n k, takeL s.data.toList most = .ok (n, k) ∧ e = .returned (.int .u64 n) ∧ w' = w.setCell ⟨B, 0, none⟩ (.string (s.extract k s.size)))

set_option maxRecDepth 100000 in
set_option maxHeartbeats 4000000 in
theorem take_any (B : Nat) (s : ByteArray) (f : Int) (most : Nat) (w : World) (h : Rd B s f w) (hs : s.size ≤ 1000000000) :
    Calls Try.prog 121 #[.pointer (some ⟨B, 0, none⟩), .int .u64 most] w (TakePost B s most w) := by
  have c0 := h.c0
  have f0 := h.f0
  have hS := size_any B s f w h hs
  obtain ⟨l, hl⟩ : ∃ l, s.data.toList = l := ⟨_, rfl⟩
  have hls : l.length = s.size := by rw [← hl, ← Lib.size_eq]
  by_cases h1 : 10 ≤ hiL l
  · have hP : ∀ w', w' = w → TakePost B s most w (faultEnd 9) w' := fun w' e => .inl ⟨9, by rw [hl]; unfold takeL; rw [if_pos h1], rfl, e⟩
    rw [show sizeEnd s.data.toList = faultEnd 9 by rw [hl]; unfold sizeEnd; rw [if_pos h1]] at hS
    unfold faultEnd at hS
    have HP := Lib.hid hP
    clear hP h1 hl hls
    go_enter Try.func121, Try.ntmps121
    go_wp2_with (go_at_call 123; refine hS.mono ?_; clear hS; rintro e _ ⟨rfl, rfl⟩)
    exact ⟨rfl, HP.out _ rfl⟩
  by_cases h2 : l.length ≤ hiL l
  · have hP : ∀ w', w' = w → TakePost B s most w (faultEnd 8) w' := fun w' e => .inl ⟨8, by rw [hl]; unfold takeL; rw [if_neg h1, if_pos h2], rfl, e⟩
    rw [show sizeEnd s.data.toList = faultEnd 8 by rw [hl]; unfold sizeEnd; rw [if_neg h1, if_pos h2]] at hS
    unfold faultEnd at hS
    have HP := Lib.hid hP
    clear hP h1 h2 hl hls
    go_enter Try.func121, Try.ntmps121
    go_wp2_with (go_at_call 123; refine hS.mono ?_; clear hS; rintro e _ ⟨rfl, rfl⟩)
    exact ⟨rfl, HP.out _ rfl⟩
  rw [show sizeEnd s.data.toList = .returned (.int .i64 (hiL l + 1)) by rw [hl]; unfold sizeEnd; rw [if_neg h1, if_neg h2]] at hS
  obtain ⟨K, hK⟩ : ∃ K, hiL l = K := ⟨_, rfl⟩
  rw [hK] at hS
  have hKs : K < s.size := by omega
  have hK9 : K ≤ 9 := by omega
  have hy : l.getD K 0 = s[K] := by rw [← hl]; exact getD_list s K hKs
  by_cases h3 : (K = 9 ∧ 1 < s[K].toNat) ∨ (0 < K ∧ s[K].toNat = 0)
  · have hP : ∀ w', w' = w → TakePost B s most w (faultEnd 9) w' := fun w' e => .inl ⟨9, by rw [hl]; unfold takeL; rw [if_neg h1, if_neg h2, hK, hy, if_pos h3], rfl, e⟩
    have HP := Lib.hid hP
    clear hP h1 h2 hl hls hy hK
    rcases h3 with ⟨h3, h4⟩ | ⟨h3, h4⟩
    · subst h3
      go_enter Try.func121, Try.ntmps121
      go_wp2_with (go_at_call 123; refine hS.mono ?_; clear hS; rintro e _ ⟨rfl, rfl⟩)
      all_goals exact ⟨rfl, HP.out _ rfl⟩
    · go_enter Try.func121, Try.ntmps121
      go_wp2_with (go_at_call 123; refine hS.mono ?_; clear hS; rintro e _ ⟨rfl, rfl⟩)
      all_goals exact ⟨rfl, HP.out _ rfl⟩
  have hPn : ∀ w', most < valL (l.take (K + 1)) → w' = w → TakePost B s most w (faultEnd 9) w' := fun w' g e => .inl ⟨9, by rw [hl]; unfold takeL; rw [if_neg h1, if_neg h2, hK, hy, if_neg h3, if_pos g], rfl, e⟩
  have hPy : ∀ w', ¬ most < valL (l.take (K + 1)) → w' = w.setCell ⟨B, 0, none⟩ (.string (s.extract (K + 1) s.size)) → TakePost B s most w (.returned (.int .u64 (valL (l.take (K + 1))))) w' := fun w' g e => .inr ⟨_, K + 1, by rw [hl]; unfold takeL; rw [if_neg h1, if_neg h2, hK, hy, if_neg h3, if_neg g], rfl, e⟩
  have HPn := Lib.hid hPn
  have HPy := Lib.hid hPy
  have hnx : ∀ k (hk : k < s.size), k ≤ K → bits .or .u64 (valL (l.take k)) (IntKind.u64.wrap ((s[k].toNat : Int) % 128 * 2 ^ (7 * k))) = (valL (l.take (k + 1)) : Nat) := fun k hk hkK =>
    join_next l k (by omega) s[k] (by rw [← hl]; exact getD_list s k hk) (val64 l k (by omega) (by
      rcases Nat.lt_or_ge k 9 with g | g
      · exact .inl (by omega)
      · obtain rfl : k = 9 := by omega
        obtain rfl : K = 9 := by omega
        refine .inr ⟨rfl, ?_⟩
        rw [hy]
        rcases Nat.lt_or_ge 1 s[9].toNat with g | g
        · exact absurd (.inl ⟨rfl, g⟩) h3
        · exact g))
  have hv64 : valL (l.take (K + 1)) < 18446744073709551616 := val64 l K (by omega) (by
      rcases Nat.lt_or_ge K 9 with g | g
      · exact .inl (by omega)
      · obtain rfl : K = 9 := by omega
        refine .inr ⟨rfl, ?_⟩
        rw [hy]
        rcases Nat.lt_or_ge 1 s[9].toNat with g | g
        · exact absurd (.inl ⟨rfl, g⟩) h3
        · exact g)
  have Hnx := Lib.hid hnx
  have hcase : (K = 9 ∧ s[K].toNat ≤ 1 ∧ s[K].toNat ≠ 0) ∨ K = 0 ∨ (K < 9 ∧ 0 < K ∧ s[K].toNat ≠ 0) := by omega
  clear hPn hPy h1 h2 hy hK h3 hl hnx hls
  rcases hcase with ⟨h3, h4, h5⟩ | h3 | ⟨h3, h4, h5⟩
  · subst h3
    have h6 : ((s[9].toNat : Int) == 0) = false := beq_eq_false_iff_ne.2 (by omega)
    go_enter Try.func121, Try.ntmps121
    go_wp2_with (go_at_call 123; refine hS.mono ?_; clear hS; rintro e _ ⟨rfl, rfl⟩)
    go_loop [7, 34] (fun v i => ∃ k : Nat, k ≤ 10 ∧ i = .int .i64 k ∧ v = .int .u64 (valL (l.take k))) (fun _ i => 10 - (intOf i).toNat)
    case atStart => exact ⟨0, Nat.zero_le _, rfl, rfl⟩
    case round =>
      obtain ⟨k, hk, rfl, rfl⟩ := hrel
      rcases Nat.lt_or_ge k (10) with hlt | hge
      · have hks : k < s.size := by omega
        have hn := Lib.hid (Hnx.out k hks (by omega))
        go_wp2
        refine ⟨⟨k + 1, by omega, by go_num, by rw [hn.out]⟩, by simp [intOf]; omega⟩
      · obtain rfl : k = 10 := by omega
        by_cases hmo : most < valL (l.take (10))
        · have HP := Lib.hid (HPn.out w hmo rfl)
          have hmo2 : (most : Int) < (valL (l.take (10)) : Nat) := by omega
          generalize valL (l.take (10)) = z at *
          go_wp2
          exact ⟨rfl, HP.out⟩
        · have HP := Lib.hid (HPy.out _ hmo rfl)
          have hmo2 : ((valL (l.take (10)) : Nat) : Int) ≤ most := by omega
          generalize valL (l.take (10)) = z at *
          go_wp2
          go_ret
          exact HP.out
  · subst h3
    go_enter Try.func121, Try.ntmps121
    go_wp2_with (go_at_call 123; refine hS.mono ?_; clear hS; rintro e _ ⟨rfl, rfl⟩)
    go_loop [7, 34] (fun v i => ∃ k : Nat, k ≤ 1 ∧ i = .int .i64 k ∧ v = .int .u64 (valL (l.take k))) (fun _ i => 1 - (intOf i).toNat)
    case atStart => exact ⟨0, Nat.zero_le _, rfl, rfl⟩
    case round =>
      obtain ⟨k, hk, rfl, rfl⟩ := hrel
      rcases Nat.lt_or_ge k (1) with hlt | hge
      · have hks : k < s.size := by omega
        have hn := Lib.hid (Hnx.out k hks (by omega))
        go_wp2
        refine ⟨⟨k + 1, by omega, by go_num, by rw [hn.out]⟩, by simp [intOf]; omega⟩
      · obtain rfl : k = 1 := by omega
        by_cases hmo : most < valL (l.take (1))
        · have HP := Lib.hid (HPn.out w hmo rfl)
          have hmo2 : (most : Int) < (valL (l.take (1)) : Nat) := by omega
          generalize valL (l.take (1)) = z at *
          go_wp2
          exact ⟨rfl, HP.out⟩
        · have HP := Lib.hid (HPy.out _ hmo rfl)
          have hmo2 : ((valL (l.take (1)) : Nat) : Int) ≤ most := by omega
          generalize valL (l.take (1)) = z at *
          go_wp2
          go_ret
          exact HP.out
  · have h6 : ((s[K].toNat : Int) == 0) = false := beq_eq_false_iff_ne.2 (by omega)
    go_enter Try.func121, Try.ntmps121
    go_wp2_with (go_at_call 123; refine hS.mono ?_; clear hS; rintro e _ ⟨rfl, rfl⟩)
    go_loop [7, 34] (fun v i => ∃ k : Nat, k ≤ K + 1 ∧ i = .int .i64 k ∧ v = .int .u64 (valL (l.take k))) (fun _ i => K + 1 - (intOf i).toNat)
    case atStart => exact ⟨0, Nat.zero_le _, rfl, rfl⟩
    case round =>
      obtain ⟨k, hk, rfl, rfl⟩ := hrel
      rcases Nat.lt_or_ge k (K + 1) with hlt | hge
      · have hks : k < s.size := by omega
        have hn := Lib.hid (Hnx.out k hks (by omega))
        go_wp2
        refine ⟨⟨k + 1, by omega, by go_num, by rw [hn.out]⟩, by simp [intOf]; omega⟩
      · obtain rfl : k = K + 1 := by omega
        by_cases hmo : most < valL (l.take (K + 1))
        · have HP := Lib.hid (HPn.out w hmo rfl)
          have hmo2 : (most : Int) < (valL (l.take (K + 1)) : Nat) := by omega
          generalize valL (l.take (K + 1)) = z at *
          go_wp2
          exact ⟨rfl, HP.out⟩
        · have HP := Lib.hid (HPy.out _ hmo rfl)
          have hmo2 : ((valL (l.take (K + 1)) : Nat) : Int) ≤ most := by omega
          generalize valL (l.take (K + 1)) = z at *
          go_wp2
          go_ret
          exact HP.out
end Go.Proofs.Ytnlajfdgpdijjaa

/- What faults is caught: the deferred call of a read. -/
namespace Go.Proofs.Ytnlajfdgpdijjaa
open Go.RowKit Go.Shelf

theorem run_assert_fault (c : Int) (w : World) : (Instr.typeAssert (.iface 80 (.int .i64 c)) 20 80 false).run Try.prog w = .ok (.int .i64 c) w := by
  simp [Instr.typeAssert, run_underlying Try.underlying80]

set_option maxRecDepth 100000 in
set_option maxHeartbeats 2000000 in
theorem catchU_panicking (B a b : Nat) (s from_ : ByteArray) (f c : Int) (older : List PanicEntry) (w : World) (h : Rd B s f w) (ha : w.cell? ⟨a, 0, none⟩ = some (.pointer (some ⟨B, 0, none⟩))) (hb : w.cell? ⟨b, 0, none⟩ = some (.string from_)) :
    CallsD Try.prog 122 #[.pointer (some ⟨a, 0, none⟩), .pointer (some ⟨b, 0, none⟩)] (.panicking ({ v := .iface 80 (.int .i64 c), recovered := false } :: older)) w fun e u' w' =>
      e = .returned (.tuple #[]) ∧ u' = .panicking ({ v := .iface 80 (.int .i64 c), recovered := true } :: older) ∧ Rd B from_ c w' ∧ Keep (fun k => k = B) w.heap.size w w' := by
  refine callsD_of_wpS Try.func122 rfl fun c₀ cs hu => ?_
  apply wpS_seq
  apply wpS_region
  simp [wpOpsS, go_sem, recoverD, hu, Try.ntmps122, Exit.thenS]
  refine wpS_of_wp ?_
  change Code.wp _ _ _ { tmps := #[.pointer (some ⟨a, 0, none⟩), .pointer (some ⟨b, 0, none⟩), .iface 80 (.int .i64 c), .iface 80 (.int .i64 c), undef, undef, undef, undef, undef, undef, undef, undef, undef, undef, undef], defers := [] } w
  have hTA := run_assert_fault c
  have c0 := h.c0
  have c1 := h.c1
  have f0 := h.f0
  have f1 := h.f1
  go_wp2
  go_region
  go_wp2
  exact ⟨rfl, _, rfl, _, results_none rfl _ _ _, rfl, rfl, ((h.put1 c).put0 from_).drew, ((((Keep.refl (fun k => k = B) w.heap.size w).setCell (p := ⟨B, 1, none⟩) (.inl rfl) _).setCell (p := ⟨B, 0, none⟩) (.inl rfl) _).drewN 1)⟩

set_option maxRecDepth 100000 in
theorem catchU_idle (a b : Nat) (w : World) :
    CallsD Try.prog 122 #[.pointer (some ⟨a, 0, none⟩), .pointer (some ⟨b, 0, none⟩)] .returning w fun e u' w' => e = .returned (.tuple #[]) ∧ u' = .returning ∧ w' = w := by
  refine callsD_of_wpS Try.func122 rfl fun c₀ cs hu => ?_
  apply wpS_seq
  apply wpS_region
  simp [wpOpsS, go_sem, recoverD, hu, Try.ntmps122, Exit.thenS]
  refine wpS_of_wp ?_
  change Code.wp _ _ _ { tmps := #[.pointer (some ⟨a, 0, none⟩), .pointer (some ⟨b, 0, none⟩), .nilIface, .nilIface, undef, undef, undef, undef, undef, undef, undef, undef, undef, undef, undef], defers := [] } w
  go_wp2
  cases c₀
  simp_all [bodyPostS, results, Try.results122]

set_option maxRecDepth 100000 in
set_option maxHeartbeats 2000000 in
theorem catchT_panicking (B a b : Nat) (s from_ : ByteArray) (f c : Int) (older : List PanicEntry) (w : World) (h : Rd B s f w) (ha : w.cell? ⟨a, 0, none⟩ = some (.pointer (some ⟨B, 0, none⟩))) (hb : w.cell? ⟨b, 0, none⟩ = some (.string from_)) :
    CallsD Try.prog 132 #[.pointer (some ⟨a, 0, none⟩), .pointer (some ⟨b, 0, none⟩)] (.panicking ({ v := .iface 80 (.int .i64 c), recovered := false } :: older)) w fun e u' w' =>
      e = .returned (.tuple #[]) ∧ u' = .panicking ({ v := .iface 80 (.int .i64 c), recovered := true } :: older) ∧ Rd B from_ c w' ∧ Keep (fun k => k = B) w.heap.size w w' := by
  refine callsD_of_wpS Try.func132 rfl fun c₀ cs hu => ?_
  apply wpS_seq
  apply wpS_region
  simp [wpOpsS, go_sem, recoverD, hu, Try.ntmps132, Exit.thenS]
  refine wpS_of_wp ?_
  change Code.wp _ _ _ { tmps := #[.pointer (some ⟨a, 0, none⟩), .pointer (some ⟨b, 0, none⟩), .iface 80 (.int .i64 c), .iface 80 (.int .i64 c), undef, undef, undef, undef, undef, undef, undef, undef, undef, undef, undef], defers := [] } w
  have hTA := run_assert_fault c
  have c0 := h.c0
  have c1 := h.c1
  have f0 := h.f0
  have f1 := h.f1
  go_wp2
  go_region
  go_wp2
  exact ⟨rfl, _, rfl, _, results_none rfl _ _ _, rfl, rfl, ((h.put1 c).put0 from_).drew, ((((Keep.refl (fun k => k = B) w.heap.size w).setCell (p := ⟨B, 1, none⟩) (.inl rfl) _).setCell (p := ⟨B, 0, none⟩) (.inl rfl) _).drewN 1)⟩

set_option maxRecDepth 100000 in
theorem catchT_idle (a b : Nat) (w : World) :
    CallsD Try.prog 132 #[.pointer (some ⟨a, 0, none⟩), .pointer (some ⟨b, 0, none⟩)] .returning w fun e u' w' => e = .returned (.tuple #[]) ∧ u' = .returning ∧ w' = w := by
  refine callsD_of_wpS Try.func132 rfl fun c₀ cs hu => ?_
  apply wpS_seq
  apply wpS_region
  simp [wpOpsS, go_sem, recoverD, hu, Try.ntmps132, Exit.thenS]
  refine wpS_of_wp ?_
  change Code.wp _ _ _ { tmps := #[.pointer (some ⟨a, 0, none⟩), .pointer (some ⟨b, 0, none⟩), .nilIface, .nilIface, undef, undef, undef, undef, undef, undef, undef, undef, undef, undef, undef], defers := [] } w
  go_wp2
  cases c₀
  simp_all [bodyPostS, results, Try.results132]
end Go.Proofs.Ytnlajfdgpdijjaa

/- A number is read: Num, Int. -/
namespace Go.Proofs.Ytnlajfdgpdijjaa
open Go.RowKit Go.Shelf

theorem num1_any (B a m : Nat) (s : ByteArray) (f : Int) (most : Nat) (w : World) (h : Rd B s f w) (hs : s.size ≤ 1000000000) (ha : w.cell? ⟨a, 0, none⟩ = some (.pointer (some ⟨B, 0, none⟩))) (hm : w.cell? ⟨m, 0, none⟩ = some (.int .u64 most)) :
    Calls Try.prog 120 #[.pointer (some ⟨a, 0, none⟩), .pointer (some ⟨m, 0, none⟩)] w (TakePost B s most w) := by
  have hT := take_any B s f most w h hs
  go_enter Try.func120, Try.ntmps120
  go_wp2_with fail
  refine hT.mono ?_
  rintro e w' (⟨c, hc, rfl, rfl⟩ | ⟨n, k, hk, rfl, rfl⟩)
  · unfold faultEnd
    go_wp2
    exact ⟨rfl, .inl ⟨c, hc, rfl, rfl⟩⟩
  · go_wp2
    go_ret
    exact .inr ⟨n, k, hk, rfl, rfl⟩

/-- What the reading of a number leaves. -/
def NumPost (B : Nat) (s : ByteArray) (most : Nat) (w : World) (e : Ending) (w' : World) : Prop :=
  (∃ c, takeL s.data.toList most = .error c ∧ e = .returned (.int .u64 0) ∧ Rd B s c w' ∧ Keep (fun k => k = B) w.heap.size w w') ∨ (∃ n k, takeL s.data.toList most = .ok (n, k) ∧ e = .returned (.int .u64 n) ∧ Rd B (s.extract k s.size) 0 w' ∧ Keep (fun k => k = B) w.heap.size w w')

theorem NumPost.weak {B : Nat} {s : ByteArray} {most : Nat} {w w1 w' : World} {e : Ending} (h : NumPost B s most w1 e w') (hb : Below w.heap.size w w1) : NumPost B s most w e w' := by
  rcases h with ⟨c, hc, he, hr, hk⟩ | ⟨n, k, hn, he, hr, hk⟩
  · exact .inl ⟨c, hc, he, hr, (Keep.of_below hb (Nat.le_refl _)).trans (hk.weak hb.size (fun _ _ q => q))⟩
  · exact .inr ⟨n, k, hn, he, hr, (Keep.of_below hb (Nat.le_refl _)).trans (hk.weak hb.size (fun _ _ q => q))⟩
set_option maxRecDepth 100000 in
set_option maxHeartbeats 4000000 in
theorem readU_any (B a m : Nat) (s : ByteArray) (most : Nat) (w : World) (h : Rd B s 0 w) (hs : s.size ≤ 1000000000) (ha : w.cell? ⟨a, 0, none⟩ = some (.pointer (some ⟨B, 0, none⟩))) (hm : w.cell? ⟨m, 0, none⟩ = some (.int .u64 most)) :
    Calls Try.prog 119 #[.pointer (some ⟨B, 0, none⟩), .func (.func 120) #[] #[.pointer (some ⟨a, 0, none⟩), .pointer (some ⟨m, 0, none⟩)]] w (NumPost B s most w) := by
  have hmf : ∀ (fn : Fn) (first cap : Array Value) (w : World), (Instr.makeFunc fn first cap).run Try.prog w = .ok (.func fn first cap) w := fun _ _ _ _ => rfl
  have hB := h.lt
  go_enter_defers Try.func119, Try.ntmps119
  go_wp2_with fail
  have hb1 := (Below.refl w.heap.size w).alloc (Nat.le_refl _) (.cells #[.pointer (some ⟨B, 0, none⟩)] 36)
  have h1 := h.below hb1 hB
  have ha1 := cell_alloc_old ha (.cells #[.pointer (some ⟨B, 0, none⟩)] 36)
  have hm1 := cell_alloc_old hm (.cells #[.pointer (some ⟨B, 0, none⟩)] 36)
  have c0 := h1.c0
  have hz1 : (w.alloc (.cells #[.pointer (some ⟨B, 0, none⟩)] 36)).heap.size = w.heap.size + 1 := by simp
  have hr1 : (w.alloc (.cells #[.pointer (some ⟨B, 0, none⟩)] 36)).cell? ⟨w.heap.size, 0, none⟩ = some (.pointer (some ⟨B, 0, none⟩)) := by
    rw [World.cell?_alloc_mark]; rfl
  refine (fault_any B s 0 _ h1).mono ?_
  rintro e w1 ⟨rfl, hw1⟩
  rw [hw1] at hb1 h1 ha1 hm1 c0 hz1 hr1
  clear hw1
  go_wp2_with fail
  have hb2 := hb1.alloc hb1.size (.cells #[.string s] 9)
  have h2 : Rd B s 0 (w1.alloc (.cells #[.string s] 9)) := h.below hb2 hB
  have ha2 := cell_alloc_old ha1 (.cells #[.string s] 9)
  have hm2 := cell_alloc_old hm1 (.cells #[.string s] 9)
  have hr2 := cell_alloc_old hr1 (.cells #[.string s] 9)
  have hf2 : (w1.alloc (.cells #[.string s] 9)).cell? ⟨w.heap.size + 1, 0, none⟩ = some (.string s) := by
    rw [← hz1, World.cell?_alloc_mark]; rfl
  refine (num1_any B a m s 0 most _ h2 hs ha2 hm2).mono ?_
  rintro e w' (⟨c, hc, rfl, hw⟩ | ⟨n, k, hk, rfl, hw⟩)
  · rw [← hw] at hb2 h2 hr2 hf2
    unfold faultEnd
    show bodyPostD _ _ _ (Exit.panic _) _ _
    refine leaves_cons (f := 122) (args := #[.pointer (some ⟨w.heap.size, 0, none⟩), .pointer (some ⟨w.heap.size + 1, 0, none⟩)]) (by simp) (by simp [go_sem]) ?_
    refine (catchU_panicking B _ _ s s 0 c [] _ h2 hr2 hf2).mono ?_
    rintro e u' w'' ⟨rfl, rfl, hrd, hkp⟩
    have hN : NumPost B s most w (.returned (.int .u64 0)) w'' := .inl ⟨c, hc, rfl, hrd, (Keep.of_below hb2 (Nat.le_refl _)).trans (hkp.weak hb2.size (fun _ _ q => q))⟩
    simp [Leaves, settle, results, Try.results119, go_sem]
    exact hN
  · have hN : NumPost B s most w (.returned (.int .u64 n)) w' := .inr ⟨n, k, hk, rfl, by rw [hw]; exact h2.put0 _, by rw [hw]; exact (Keep.of_below (S := fun k => k = B) hb2 (Nat.le_refl _)).setCell (p := ⟨B, 0, none⟩) (.inl rfl) _⟩
    clear hw
    go_wp2
    refine leaves_cons (f := 122) (args := #[.pointer (some ⟨w.heap.size, 0, none⟩), .pointer (some ⟨w.heap.size + 1, 0, none⟩)]) (by simp) (by simp [go_sem]) ?_
    refine (catchU_idle _ _ _).mono ?_
    rintro e u' w'' ⟨rfl, rfl, rfl⟩
    simp [Leaves, settle, results, Try.results119, go_sem]
    exact hN

set_option maxRecDepth 100000 in
set_option maxHeartbeats 1000000 in
/-- Num of a reader that hasn't faulted. -/
theorem num_any (B : Nat) (s : ByteArray) (most : Nat) (w : World) (h : Rd B s 0 w) (hs : s.size ≤ 1000000000) :
    Calls Try.prog 117 #[.pointer (some ⟨B, 0, none⟩), .int .u64 most] w (NumPost B s most w) := by
  have hmf : ∀ (fn : Fn) (first cap : Array Value) (w : World), (Instr.makeFunc fn first cap).run Try.prog w = .ok (.func fn first cap) w := fun _ _ _ _ => rfl
  have hB := h.lt
  go_enter Try.func117, Try.ntmps117
  go_wp2_with fail
  have hb2 := ((Below.refl w.heap.size w).alloc (Nat.le_refl _) (.cells #[.pointer (some ⟨B, 0, none⟩)] 36)).alloc (by simp) (.cells #[.int .u64 most] 87)
  have h2 := h.below hb2 hB
  have hr2 := cell_alloc_old (p := ⟨w.heap.size, 0, none⟩) (v := .pointer (some ⟨B, 0, none⟩)) (w := w.alloc (.cells #[.pointer (some ⟨B, 0, none⟩)] 36)) (by rw [World.cell?_alloc_mark]; rfl) (.cells #[.int .u64 most] 87)
  have hm2 : ((w.alloc (.cells #[.pointer (some ⟨B, 0, none⟩)] 36)).alloc (.cells #[.int .u64 most] 87)).cell? ⟨w.heap.size + 1, 0, none⟩ = some (.int .u64 most) := by
    rw [show w.heap.size + 1 = (w.alloc (.cells #[.pointer (some ⟨B, 0, none⟩)] 36)).heap.size by simp, World.cell?_alloc_mark]; rfl
  refine (readU_any B _ _ s most _ h2 hs hr2 hm2).mono ?_
  intro e w' hp
  replace hp := hp.weak hb2
  clear h2 hb2 hr2 hm2
  rcases hp with ⟨c, hc, rfl, hp⟩ | ⟨n, k, hk, rfl, hp⟩
  · have hN : NumPost B s most w (.returned (.int .u64 0)) w' := .inl ⟨c, hc, rfl, hp⟩
    go_wp2
    go_ret
    exact hN
  · have hN : NumPost B s most w (.returned (.int .u64 n)) w' := .inr ⟨n, k, hk, rfl, hp⟩
    go_wp2
    go_ret
    exact hN

/-- The number with a sign that stands as n. -/
def unzig (n : Nat) : Int := if n % 2 = 1 then -((n / 2 : Nat) : Int) - 1 else ((n / 2 : Nat) : Int)
theorem unzig_zigzag (m : Int) : unzig (Lib.zigzag m) = m := by
  unfold unzig Lib.zigzag
  split <;> split <;> omega

/-- What the reading of a number with a sign leaves. -/
def IntPost (B : Nat) (s : ByteArray) (w : World) (e : Ending) (w' : World) : Prop :=
  (∃ c, takeL s.data.toList 18446744073709551615 = .error c ∧ e = .returned (.int .i64 0) ∧ Rd B s c w' ∧ Keep (fun k => k = B) w.heap.size w w') ∨ (∃ n k, takeL s.data.toList 18446744073709551615 = .ok (n, k) ∧ e = .returned (.int .i64 (unzig n)) ∧ Rd B (s.extract k s.size) 0 w' ∧ Keep (fun k => k = B) w.heap.size w w')

end Go.Proofs.Ytnlajfdgpdijjaa
