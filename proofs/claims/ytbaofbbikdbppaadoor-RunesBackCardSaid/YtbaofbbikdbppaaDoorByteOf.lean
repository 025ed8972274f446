/- byteOf: at which byte a rune begins. -/
import Derived.Test.YtbaofbbikdbppaaDoorLen
namespace Go.Proofs.YtbaofbbikdbppaaDoor
open Go.RowKit Go.Shelf
attribute [local go_sem] Oper.semAt_some

set_option maxRecDepth 100000 in
set_option maxHeartbeats 2000000 in
theorem byteOf_any (s : ByteArray) (hs : s.size ≤ 1000000) (w : World) (hT : Lib.Utf8Tabs 0 1 w) (rs : List Int) (hr : runesL s.data.toList = some rs) (k : Nat) (hk : k ≤ rs.length) :
    Calls Tryd.prog 29 #[.string s, .int .i64 k] w fun e W' => e = .returned (.int .i64 (joinL (rs.take k)).length) ∧ Below w.heap.size w W' := by
  have hlen : rs.length ≤ s.size := by rw [Lib.size_eq]; exact runes_le hr
  have Hit := Lib.hid (show itL 0 s.data.toList = placesL 0 rs from itF_some _ 0 _ rs (Nat.le_refl _) hr)
  have hall : k = rs.length → (joinL (rs.take k)).length = s.size := fun e => by
    rw [e, List.take_length, ← (runesL_join hr).1, Lib.size_eq]
  have Hall := Lib.hid hall
  clear hr hall
  refine (callsIn_wide (n := 5)).1 ?_
  refine callsIn_of_wp_marks Tryd.func29 rfl trivial ?_ rfl
  simp only [Tryd.ntmps29, List.size_toArray, List.length_cons, List.length_nil, Nat.reduceAdd, Nat.reduceSub, Array.replicate_succ, Array.replicate_zero, List.push_toArray, List.append_toArray, List.nil_append, List.cons_append]
  gi_wp2_with (refine ⟨trivial, ?_⟩; gi_at_call 22; refine (callsIn_wide.2 (along_any s _)).mono ?_; rintro e w1 ⟨rfl, rfl⟩)
  have bK := Boxed.new w 3 (.int .i64 k)
  have bR := Boxed.new (w.alloc (.cells #[.int .i64 k] 3)) 3 (.int .i64 0)
  have bS := Boxed.new ((w.alloc (.cells #[.int .i64 k] 3)).alloc (.cells #[.int .i64 0] 3)) 9 (.string s)
  simp only [World.size_alloc] at bR bS
  have hB0 : Below w.heap.size w (((w.alloc (.cells #[.int .i64 k] 3)).alloc (.cells #[.int .i64 0] 3)).alloc (.cells #[.string s] 9)) := (((Below.refl _ w).alloc (Nat.le_refl _) _).alloc (by simp) _).alloc (by simp; omega) _
  refine wpIn_rangeFunc_ownF rfl (by decide) (gf := 31) (lb := #[.pointer (some ⟨w.heap.size + 1 + 1, 0, none⟩)]) rfl trivial (enters_of Tryd.func31 (by kernel_rfl) rfl)
    (along_stops 4 (by decide) (w.heap.size + 1 + 1) s (by unfold maxLen; omega) w hT _ hB0 (by simp) bS.cell) (fun h k => kp_t h k) (kp_b (by simp; omega) (by simp)) (Below.refl _ _) (fun _ => rfl)
    (fun pre W => (Boxed W w.heap.size 3 (.int .i64 ((k - pre.length : Nat) : Int)) ∧ Boxed W (w.heap.size + 1) 3 (.int .i64 0) ∧ Boxed W (w.heap.size + 1 + 1) 9 (.string s) ∧ pre.length ≤ k) ∧ Below w.heap.size w W)
    (fun c pre W => (c = .ret ∧ ∃ (q : List (Nat × Int)) (x : Nat × Int), pre = q ++ [x] ∧ q.length = k ∧ Boxed W (w.heap.size + 1) 3 (.int .i64 x.1)) ∧ Below w.heap.size w W)
    (OwnFrom.and (Own.from (fun u A B row hs hg hr => ⟨boxed_own w.heap.size 3 (fun pre : List (Nat × Int) => .int .i64 ((k - pre.length : Nat) : Int)) u A B row hs.1 hg hr, boxed_own (w.heap.size + 1) 3 (fun _ => .int .i64 0) u A B row hs.2.1 hg hr, boxed_own (w.heap.size + 1 + 1) 9 (fun _ => .string s) u A B row hs.2.2.1 hg hr, hs.2.2.2⟩) _) (ownFrom_below (Nat.le_refl _) (by simp; omega)))
    (fun c => OwnFrom.and (Own.from (fun u A B row hs hg hr => ⟨hs.1, by obtain ⟨q, x, e, hq, hb⟩ := hs.2; exact ⟨q, x, e, hq, boxed_own (w.heap.size + 1) 3 (fun _ => .int .i64 x.1) u A B row hb hg hr⟩⟩) _) (ownFrom_below (Nat.le_refl _) (by simp; omega)))
    ⟨⟨(bK.alloc _).alloc _, bR.alloc _, bS, Nat.zero_le _⟩, hB0⟩
    (fun x => { tmps := #[.string s, .int .i64 k, undef, .pointer (some ⟨w.heap.size, 0, none⟩), .pointer (some ⟨w.heap.size + 1, 0, none⟩), .int .i64 x.1, .string s, .func (.func 31) #[] #[.pointer (some ⟨w.heap.size + 1 + 1, 0, none⟩)], .int .i64 x.1, .int .i32 x.2, undef, undef, undef, undef, undef, undef, undef], defers := [] }) ?assign ?body ?done ?stop
  case assign =>
    intro l x W K hK
    gi_wp2
    exact hK
  case body =>
    rintro l pre x W ⟨⟨hbk, hbr, hbs, hpk⟩, hB⟩ _
    have hck := hbk.cell
    have hfk := hbk.frozen
    have hcr := hbr.cell
    have hfr := hbr.frozen
    rcases Nat.lt_or_ge pre.length k with h | h
    · obtain ⟨m, hm⟩ : ∃ m, k - pre.length = m + 1 := ⟨k - pre.length - 1, by omega⟩
      have hm' : k - (pre ++ [x]).length = m := by simp; omega
      rw [hm] at hck
      have Hm' := Lib.hid hm'
      have hmk : m < k := by omega
      clear hm hm'
      have hz : (((m + 1 : Nat) : Int) == 0) = false := beq_eq_false_iff_ne.2 (by omega)
      have hz' : (((m : Nat) : Int) + 1 == 0) = false := beq_eq_false_iff_ne.2 (by omega)
      gi_wp2
      have b1 := hbk.set (.int .i64 m)
      have b2 := hbr.other (B' := w.heap.size) (by omega) (.int .i64 m)
      have b3 := hbs.other (B' := w.heap.size) (by omega) (.int .i64 m)
      exact ⟨KeepsOthers.setCell _ _ _, ⟨(Below.refl w.heap.size W).setCell (p := ⟨w.heap.size, 0, none⟩) (Nat.le_refl _) _, b3.cell.trans hbs.cell.symm⟩, ⟨by rw [Hm'.out]; exact b1, b2, b3, by simp; omega⟩, hB.setCell (p := ⟨w.heap.size, 0, none⟩) (Nat.le_refl _) _⟩
    · have hm : k - pre.length = 0 := by omega
      rw [hm] at hck
      have hq : pre.length = k := by omega
      have Hq := Lib.hid hq
      clear hm hq
      gi_wp2
      exact ⟨KeepsOthers.setCell _ _ _, ⟨rfl, pre, x, rfl, Hq.out, hbr.set _⟩, hB.setCell (p := ⟨w.heap.size + 1, 0, none⟩) (by simp) _⟩
  case done =>
    rintro D ys W hD rfl ⟨⟨_, hbr, _, hpk⟩, hB⟩ hK
    rw [Hit.out, placesL_length] at hpk
    have hall := Hall.out (by omega)
    have hcr := hbr.cell
    have hfr := hbr.frozen
    have Hf := Lib.hid hall
    clear hall
    gi_wp2
    have hK' := (KeepsOthers.setCell W ⟨w.heap.size + 1, 0, none⟩ (.int .i64 s.size)).same D _ hK rfl
    refine ⟨by simp, .inl ⟨_, _, rfl, run_takeDeferred hK', ?_⟩⟩
    have hc5 := cell_kept (hbr.set (.int .i64 s.size)).cell (grownBy_putObj' _ D (.deferred none)) (fun r e => by cases e; exact ⟨_, hK', rfl⟩)
    refine ⟨.int .i64 s.size, ?_, ret_intL (by rw [Hf.out]), (hB.setCell (p := ⟨w.heap.size + 1, 0, none⟩) (by simp) _).trans (belowK_b (w := w) (Nat.le_refl _) _ D _ _ (by simp at hD; omega) hK' rfl rfl)⟩
    simp [results, Tryd.f29, go_sem, hc5]
  case stop =>
    rintro D c pre W hD hpre ⟨⟨rfl, q, x, rfl, hq, hbr⟩, hB⟩ hK
    rw [Hit.out] at hpre
    obtain ⟨t, ht⟩ := hpre
    have hx := (placesL_at q x t 0 rs ht.symm).2
    rw [hq, Nat.zero_add] at hx
    have Hx := Lib.hid hx
    clear hx ht hq
    gi_wp2
    refine ⟨by simp, .inl ⟨_, _, rfl, run_takeDeferred hK, ?_⟩⟩
    have hc5 := cell_kept hbr.cell (grownBy_putObj' _ D (.deferred none)) (fun r e => by cases e; exact ⟨_, hK, rfl⟩)
    refine ⟨.int .i64 x.1, ?_, ret_intL (by rw [Hx.out]), hB.trans (belowK_b (w := w) (Nat.le_refl _) W D _ _ (by simp at hD; omega) hK rfl rfl)⟩
    simp [results, Tryd.f29, go_sem, hc5]
end Go.Proofs.YtbaofbbikdbppaaDoor
