/- The places of a run of live cells; those of the cells that are gone. -/
import Derived.Test.YtfoglciiefoodaaGreatDoorGCellsGather
namespace Go.Proofs.YtfoglciiefoodaaGreatDoor
open Go.RowKit Go.Shelf

theorem gather_doc (B : Nat) (bv nm : Value) (bs : List PB) (g : Bool) (few n : Nat) (hf : few ≤ 1000000) (hn : n ≤ 1000000) (w : World) (hR : DocR w B bv nm bs) (Bf Bd Bg : Nat)
    (hBf : w.heap[Bf]? = some (.cells #[.int .i64 (few : Int)] 3 (0, 0))) (hBd : w.heap[Bd]? = some (.cells #[.pointer (some ⟨B, 0, none⟩)] 26 (0, 0))) (hBg : w.heap[Bg]? = some (.cells #[.bool g] 4 (0, 0))) :
    Calls Tryz.prog 51 #[.func (.func 81) #[] #[.pointer (some ⟨Bf, 0, none⟩), .pointer (some ⟨Bd, 0, none⟩), .pointer (some ⟨Bg, 0, none⟩)], .int .i64 (n : Int)] w fun e W' =>
      ∃ v, e = .returned v ∧ W'.ownsRow w.heap.size 73 2 v (gath (((posOf g (catB bs) 0).drop few).take n)).length (spCells (gath (((posOf g (catB bs) 0).drop few).take n))) ∧ Below w.heap.size w W' := by
  have h := gathered_any 81 #[.pointer (some ⟨Bf, 0, none⟩), .pointer (some ⟨Bd, 0, none⟩), .pointer (some ⟨Bg, 0, none⟩)] (enters_of Tryz.func81 (by kernel_rfl) rfl) n hn (yl few (posOf g (catB bs) 0)) w
    (fun w2 hb hs => places_stops Bf Bd Bg w.heap.size (w.heap.size + 1 + 1) B bv nm bs g few hf w rfl hR w2 hb (by omega) (row_up hBf hb) (row_up hBd hb) (row_up hBg hb) (.inl (box_lt hBf)) (.inl (box_lt hBd)) (.inl (box_lt hBg)))
  have hroom := hR.room
  rw [yl_vals (fun p hp => by have := posOf_lt g (catB bs) 0 p hp; omega)] at h
  exact h
theorem cnt_field1 (a b : Int) (w : World) : (Instr.field 90 (.agg #[.int .i64 a, .int .i64 b]) 1).run Tryz.prog w = .ok (.int .i64 b) w := by kernel_rfl

set_option maxRecDepth 100000 in
set_option maxHeartbeats 4000000 in
theorem dgone_any (B : Nat) (bv nm : Value) (bs : List PB) (w : World) (hR : DocR w B bv nm bs) (hl : (catB bs).length ≤ 20000) :
    Calls Tryz.prog 23 #[.pointer (some ⟨B, 0, none⟩)] w fun e W' => ∃ v, e = .returned v ∧ W'.ownsRow w.heap.size 73 2 v (cGone (catB bs)).length (spCells (cGone (catB bs))) ∧ Below w.heap.size w W' := by
  have hall := liveN_gone (catB bs)
  have hpl := fun W => places_any (some ⟨B, 0, none⟩) true 0 W
  have hwh := fun W (hb : Below w.heap.size w W) => whole_any B bv nm bs W (hR.below hb)
  have hg := fun W Bf Bd Bg (hb : Below w.heap.size w W) h1 h2 h3 => gather_doc B bv nm bs true 0 (goneN (catB bs)) (by omega) (by omega) W (hR.below hb) Bf Bd Bg h1 h2 h3
  have e : gath (((posOf true (catB bs) 0).drop 0).take (goneN (catB bs))) = cGone (catB bs) := by
    rw [gone_pos hl, List.drop_zero, List.take_of_length_le (by rw [posOf_length]; exact Nat.le_refl _)]
  rw [e] at hg
  have B0 := heap_new w (.cells #[.pointer (some ⟨B, 0, none⟩)] 26)
  have A0 := row_al (row_al B0 (.cells #[.bool true] 4)) (.cells #[.int .i64 0] 3)
  have A1 := row_al (heap_new1 w (.cells #[.pointer (some ⟨B, 0, none⟩)] 26) (.cells #[.bool true] 4)) (.cells #[.int .i64 0] 3)
  have A2 := heap_new2 w (.cells #[.pointer (some ⟨B, 0, none⟩)] 26) (.cells #[.bool true] 4) (.cells #[.int .i64 0] 3)
  have AB : Below w.heap.size w (((w.alloc (.cells #[.pointer (some ⟨B, 0, none⟩)] 26)).alloc (.cells #[.bool true] 4)).alloc (.cells #[.int .i64 0] 3)) := (((Below.refl _ w).alloc (Nat.le_refl _) _).alloc (by simp) _).alloc (by simp; omega) _
  have HG := Lib.hid hg
  have HW := Lib.hid hwh
  have HA := Lib.hid (And.intro A0 (And.intro A1 (And.intro A2 AB)))
  have hfd := cnt_field1
  clear hg hwh hR A0 A1 A2 AB B0 e
  go_enter Tryz.func23, Tryz.ntmps23
  go_wp2_with fail
  refine (hpl _).mono ?_
  rintro e _ ⟨rfl, rfl⟩
  go_wp2_with fail
  refine (HW.out _ HA.out.2.2.2).mono ?_
  rintro e w1 ⟨rfl, hb1⟩
  obtain ⟨a0, a1, a2, aB⟩ := HA.out
  have HC := Lib.hid (aB.trans (hb1.mono aB.size))
  have HGA := Lib.hid (HG.out w1 _ _ _ HC.out (row_up a2 hb1) (row_up a0 hb1) (row_up a1 hb1))
  clear a0 a1 a2 aB hb1 HG HA HW hpl
  go_wp2_with fail
  refine HGA.out.mono ?_
  rintro e w2 ⟨v, rfl, ho, hb2⟩
  have HO := Lib.hid (And.intro (own_lower ho HC.out.size) (HC.out.trans (hb2.mono HC.out.size)))
  obtain ⟨ao', n', cap', rfl⟩ := slice_of ho
  clear ho hb2 HGA
  go_wp2
  go_ret
  exact ⟨_, rfl, HO.out.1, HO.out.2⟩
end Go.Proofs.YtfoglciiefoodaaGreatDoor
