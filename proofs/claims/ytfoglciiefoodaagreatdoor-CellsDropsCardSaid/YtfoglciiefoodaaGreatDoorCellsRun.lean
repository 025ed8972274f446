/- The places of a run of live cells; those of the cells that are gone. -/
import Derived.Test.YtfoglciiefoodaaGreatDoorGCellsGather
namespace Go.Proofs.YtfoglciiefoodaaGreatDoor
open Go.RowKit Go.Shelf

theorem gather_doc (B : Nat) (bv nm : Value) (bs : List PB) (g : Bool) (few n : Nat) (hf : few ≤ 1000000) (hn : n ≤ 1000000) (w : World) (hR : DocR w B bv nm bs) (Bf Bd Bg : Nat)
    (hBf : w.heap[Bf]? = some (.cells #[.int .i64 (few : Int)] 3 (0, 0))) (hBd : w.heap[Bd]? = some (.cells #[.pointer (some ⟨B, 0, none⟩)] 26 (0, 0))) (hBg : w.heap[Bg]? = some (.cells #[.bool g] 4 (0, 0))) :
    Calls Tryz.prog 51 #[.func (.func 81) #[] #[.pointer (some ⟨Bf, 0, none⟩), .pointer (some ⟨Bd, 0, none⟩), .pointer (some ⟨Bg, 0, none⟩)], .int .i64 (n : Int)] w fun e W' =>
      ∃ v, e = .returned v ∧ W'.ownsRow w.heap.size 73 2 v (gath (((posOf g (catB bs) 0).drop few).take n)).length (spCells (gath (((posOf g (catB bs) 0).drop few).take n))) ∧ Below w.heap.size w W' := by
  have h := gathered_any 81 #[.pointer (some ⟨Bf, 0, none⟩), .pointer (some ⟨Bd, 0, none⟩), .pointer (some ⟨Bg, 0, none⟩)] (enters_of Tryz.func81 (by kernel_rfl) rfl) n hn (yl few (posOf g (catB bs) 0)) w
    (fun w2 hb hs => places_stops Bf Bd Bg w.heap.size (w.heap.size + 1 + 1) B bv nm bs g few hf w rfl hR w2 hb (by omega) (row_up hBf hb) (row_up hBd hb) (row_up hBg hb) (.inl (box_lt hBf)) (.inl (box_lt hBd)) (.inl (box_lt hBg)))
  have hroom := hR.room
  rw [yl_vals (fun p hp => by have := posOf_lt g (catB bs) 0 p hp; omega)] at h
  exact h
theorem cnt_field1 (a b : Int) (w : World) : (Instr.field 90 (.agg #[.int .i64 a, .int .i64 b]) 1).run Tryz.prog w = .ok (.int .i64 b) w := by kernel_rfl

set_option maxRecDepth 100000 in
set_option maxHeartbeats 4000000 in
theorem dgone_any (B : Nat) (bv nm : Value) (bs : List PB) (w : World) (hR : DocR w B bv nm bs) (hl : (catB bs).length ≤ 20000) :
    Calls Tryz.prog 23 #[.pointer (some ⟨B, 0, none⟩)] w fun e W' => ∃ v, e = .returned v ∧ W'.ownsRow w.heap.size 73 2 v (cGone (catB bs)).length (spCells (cGone (catB bs))) ∧ Below w.heap.size w W' := by
  have hall := liveN_gone (catB bs)
  have hpl := fun W => places_any (some ⟨B, 0, none⟩) true 0 W
  have hwh := fun W (hb : Below w.heap.size w W) => whole_any B bv nm bs W (hR.below hb)
  have hg := fun W Bf Bd Bg (hb : Below w.heap.size w W) h1 h2 h3 => gather_doc B bv nm bs true 0 (goneN (catB bs)) (by omega) (by omega) W (hR.below hb) Bf Bd Bg h1 h2 h3
  have e : gath (((posOf true (catB bs) 0).drop 0).take (goneN (catB bs))) = cGone (catB bs) := by
    rw [gone_pos hl, List.drop_zero, List.take_of_length_le (by rw [posOf_length]; exact Nat.le_refl _)]
  rw [e] at hg
  have B0 := heap_new w (.cells #[.pointer (some ⟨B, 0, none⟩)] 26)
  have A0 := row_al (row_al B0 (.cells #[.bool true] 4)) (.cells #[.int .i64 0] 3)
  have A1 := row_al (heap_new1 w (.cells #[.pointer (some ⟨B, 0, none⟩)] 26) (.cells #[.bool true] 4)) (.cells #[.int .i64 0] 3)
  have A2 := heap_new2 w (.cells #[.pointer (some ⟨B, 0, none⟩)] 26) (.cells #[.bool true] 4) (.cells #[.int .i64 0] 3)
  have AB : Below w.heap.size w (((w.alloc (.cells #[.pointer (some ⟨B, 0, none⟩)] 26)).alloc (.cells #[.bool true] 4)).alloc (.cells #[.int .i64 0] 3)) := (((Below.refl _ w).alloc (Nat.le_refl _) _).alloc (by simp) _).alloc (by simp; omega) _
  have HG := Lib.hid hg
  have HW := Lib.hid hwh
  have HA := Lib.hid (And.intro A0 (And.intro A1 (And.intro A2 AB)))
  have hfd := cnt_field1
  clear hg hwh hR A0 A1 A2 AB B0 e
  go_enter Tryz.func23, Tryz.ntmps23
  go_wp2_with fail
  refine (hpl _).mono ?_
  rintro e _ ⟨rfl, rfl⟩
  go_wp2_with fail
  refine (HW.out _ HA.out.2.2.2).mono ?_
  rintro e w1 ⟨rfl, hb1⟩
  obtain ⟨a0, a1, a2, aB⟩ := HA.out
  have HC := Lib.hid (aB.trans (hb1.mono aB.size))
  have HGA := Lib.hid (HG.out w1 _ _ _ HC.out (row_up a2 hb1) (row_up a0 hb1) (row_up a1 hb1))
  clear a0 a1 a2 aB hb1 HG HA HW hpl
  go_wp2_with fail
  refine HGA.out.mono ?_
  rintro e w2 ⟨v, rfl, ho, hb2⟩
  have HO := Lib.hid (And.intro (own_lower ho HC.out.size) (HC.out.trans (hb2.mono HC.out.size)))
  obtain ⟨ao', n', cap', rfl⟩ := slice_of ho
  clear ho hb2 HGA
  go_wp2
  go_ret
  exact ⟨_, rfl, HO.out.1, HO.out.2⟩
set_option maxRecDepth 100000 in
set_option maxHeartbeats 4000000 in
theorem drun_yes (B : Nat) (bv nm : Value) (bs : List PB) (i n : Nat) (w : World) (hR : DocR w B bv nm bs) (hl : (catB bs).length ≤ 20000) (hi : i ≤ liveN (catB bs)) (hn : n ≤ liveN (catB bs) - i) :
    Calls Tryz.prog 28 #[.pointer (some ⟨B, 0, none⟩), .int .i64 (i : Int), .int .i64 (n : Int)] w fun e W' => ∃ v, e = .returned (.tuple #[v, .int .i64 0]) ∧ W'.ownsRow w.heap.size 73 2 v (cRun (catB bs) i n).length (spCells (cRun (catB bs) i n)) ∧ Below w.heap.size w W' := by
  have hall := liveN_gone (catB bs)
  have hpl := fun W => places_any (some ⟨B, 0, none⟩) false (i : Int) W
  have hL := fun W (hb : Below w.heap.size w W) => dlive_any (some ⟨B, 0, none⟩) (liveN (catB bs)) (goneN (catB bs)) W (whole_any B bv nm bs W (hR.below hb))
  have hg := fun W Bf Bd Bg (hb : Below w.heap.size w W) h1 h2 h3 => gather_doc B bv nm bs false i n (by omega) (by omega) W (hR.below hb) Bf Bd Bg h1 h2 h3
  rw [← run_pos hl] at hg
  have HG := Lib.hid hg
  have HL := Lib.hid hL
  have k1 : ¬ (i : Int) < 0 := by omega
  have k2 : ¬ ((liveN (catB bs) : Nat) : Int) < (i : Int) := by omega
  have k3 : ¬ (n : Int) < 0 := by omega
  have k5 : IntKind.i64.wrap (((liveN (catB bs) : Nat) : Int) - (i : Int)) = ((liveN (catB bs) - i : Nat) : Int) := (IntWalk.i64_in _ (by omega)).trans (by omega)
  have k4 : ¬ ((liveN (catB bs) - i : Nat) : Int) < (n : Int) := by omega
  clear hg hL hR hall
  go_enter Tryz.func28, Tryz.ntmps28
  go_wp2_with fail
  refine (HL.out _ (Below.refl _ _)).mono ?_
  rintro e w1 ⟨rfl, hb1⟩
  go_wp2_with fail
  refine (HL.out _ hb1).mono ?_
  rintro e w2 ⟨rfl, hb2⟩
  have hb3 := hb1.trans (hb2.mono hb1.size)
  have HB := Lib.hid hb3
  clear hb1 hb2 hb3
  go_wp2_with fail
  refine (hpl _).mono ?_
  rintro e _ ⟨rfl, rfl⟩
  have B0 := heap_new w2 (.cells #[.pointer (some ⟨B, 0, none⟩)] 26)
  have A0 := row_al (row_al B0 (.cells #[.bool false] 4)) (.cells #[.int .i64 (i : Int)] 3)
  have A1 := row_al (heap_new1 w2 (.cells #[.pointer (some ⟨B, 0, none⟩)] 26) (.cells #[.bool false] 4)) (.cells #[.int .i64 (i : Int)] 3)
  have A2 := heap_new2 w2 (.cells #[.pointer (some ⟨B, 0, none⟩)] 26) (.cells #[.bool false] 4) (.cells #[.int .i64 (i : Int)] 3)
  have AB : Below w2.heap.size w2 (((w2.alloc (.cells #[.pointer (some ⟨B, 0, none⟩)] 26)).alloc (.cells #[.bool false] 4)).alloc (.cells #[.int .i64 (i : Int)] 3)) := (((Below.refl _ w2).alloc (Nat.le_refl _) _).alloc (by simp) _).alloc (by simp; omega) _
  have HC := Lib.hid (HB.out.trans (AB.mono HB.out.size))
  have HGA := Lib.hid (HG.out _ _ _ _ HC.out A2 A0 A1)
  generalize ((w2.alloc (.cells #[.pointer (some ⟨B, 0, none⟩)] 26)).alloc (.cells #[.bool false] 4)).alloc (.cells #[.int .i64 (i : Int)] 3) = w3 at HC HGA ⊢
  clear B0 A0 A1 A2 AB HG HL hpl
  go_wp2_with fail
  refine HGA.out.mono ?_
  rintro e w4 ⟨v, rfl, ho, hb4⟩
  have HO := Lib.hid (And.intro (own_lower ho HC.out.size) (HC.out.trans (hb4.mono HC.out.size)))
  obtain ⟨ao', n', cap', rfl⟩ := slice_of ho
  clear ho hb4 HGA
  go_wp2
  go_ret2
  exact ⟨_, rfl, HO.out.1, HO.out.2⟩
set_option maxRecDepth 100000 in
set_option maxHeartbeats 4000000 in
theorem drun_no (B : Nat) (bv nm : Value) (bs : List PB) (i n : Int) (w : World) (hR : DocR w B bv nm bs) (hi : i < 0 ∨ (liveN (catB bs) : Int) < i ∨ n < 0 ∨ (liveN (catB bs) : Int) - i < n) :
    Calls Tryz.prog 28 #[.pointer (some ⟨B, 0, none⟩), .int .i64 i, .int .i64 n] w fun e W' => e = .returned (.tuple #[.slice none 0 0, .int .i64 3]) ∧ Below w.heap.size w W' := by
  have hL := fun W (hb : Below w.heap.size w W) => dlive_any (some ⟨B, 0, none⟩) (liveN (catB bs)) (goneN (catB bs)) W (whole_any B bv nm bs W (hR.below hb))
  have hroom := hR.room
  have hall := liveN_gone (catB bs)
  have HL := Lib.hid hL
  clear hL hR
  by_cases h1 : i < 0
  · clear hi
    go_enter Tryz.func28, Tryz.ntmps28
    go_wp2
    go_ret2
    exact ⟨rfl, Below.refl _ _⟩
  · by_cases h2 : (liveN (catB bs) : Int) < i
    · clear hi
      go_enter Tryz.func28, Tryz.ntmps28
      go_wp2_with fail
      refine (HL.out _ (Below.refl _ _)).mono ?_
      rintro e w1 ⟨rfl, hb1⟩
      have HB := Lib.hid hb1
      clear hb1
      go_wp2
      go_ret2
      exact ⟨rfl, HB.out⟩
    · by_cases h3 : n < 0
      · clear hi
        go_enter Tryz.func28, Tryz.ntmps28
        go_wp2_with fail
        refine (HL.out _ (Below.refl _ _)).mono ?_
        rintro e w1 ⟨rfl, hb1⟩
        have HB := Lib.hid hb1
        clear hb1
        go_wp2
        go_ret2
        exact ⟨rfl, HB.out⟩
      · have h4 : (liveN (catB bs) : Int) - i < n := by omega
        have k5 : IntKind.i64.wrap (((liveN (catB bs) : Nat) : Int) - i) = ((liveN (catB bs) : Nat) : Int) - i := IntWalk.i64_in _ (by omega)
        clear hi
        go_enter Tryz.func28, Tryz.ntmps28
        go_wp2_with fail
        refine (HL.out _ (Below.refl _ _)).mono ?_
        rintro e w1 ⟨rfl, hb1⟩
        have HB := Lib.hid hb1
        clear hb1
        go_wp2_with fail
        refine (HL.out _ HB.out).mono ?_
        rintro e w2 ⟨rfl, hb2⟩
        have HB2 := Lib.hid (HB.out.trans (hb2.mono HB.out.size))
        clear hb2
        go_wp2
        go_ret2
        exact ⟨rfl, HB2.out⟩
end Go.Proofs.YtfoglciiefoodaaGreatDoor
