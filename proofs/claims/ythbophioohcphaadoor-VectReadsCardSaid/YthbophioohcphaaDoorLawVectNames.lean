/- VectNames: the law's walk. -/
import Derived.Test.YthbophioohcphaaDoorVectAlive
import Derived.Test.YthbophioohcphaaDoorNameEq
import Derived.Test.YthbophioohcphaaDoorDoesRead
namespace Go.Proofs.YthbophioohcphaaDoor
open Go.RowKit

/-- The text of a name that may be is read as that name; of one that may not be, the empty text, as none. -/
theorem PReadPost.text {s q : Int} {w : World} {e : Ending} {w' : World} (h : PReadPost (nText s q) w e w') :
    e = .returned (if nMay s q then .tuple #[nmV s q, .int .i64 0] else .tuple #[nmV 0 0, .int .i64 9]) ∧ Below w.heap.size w w' := by
  obtain ⟨h, hb⟩ := h
  refine ⟨?_, hb⟩
  cases hm : nMay s q with
  | true =>
    rw [if_pos rfl]
    rcases h with ⟨s', q', h1, h2, h3⟩ | ⟨h1, h2⟩
    · obtain ⟨rfl, rfl⟩ := text_inj h1 hm h2
      exact h3
    · exact absurd rfl (h1 s q hm)
  | false =>
    rw [if_neg (by decide)]
    rcases h with ⟨s', q', h1, h2, h3⟩ | ⟨h1, h2⟩
    · exfalso
      obtain ⟨a, b, h4, _⟩ := text_cut h1
      have h5 : nText s q = [] := by unfold nText; rw [hm]; rfl
      rw [h5] at h2
      rw [h2] at h4
      simp at h4
    · exact h2
theorem nText_length (s q : Int) : (nText s q).length ≤ 1000 := by
  cases hm : nMay s q with
  | true =>
    obtain ⟨a, b, h4, _, h1, h2, _⟩ := text_cut hm
    rw [h4]
    simp
    omega
  | false => unfold nText; rw [hm]; simp
/-- Two names' boxes. -/
def TwoN (N : Nat) (s q s' q' : Int) (w : World) (W : World) : Prop :=
  W.cell? ⟨N, 0, none⟩ = some (.int .i64 s) ∧ W.cell? ⟨N, 1, none⟩ = some (.int .i64 q) ∧ W.cell? ⟨N + 1, 0, none⟩ = some (.int .i64 s') ∧ W.cell? ⟨N + 1, 1, none⟩ = some (.int .i64 q') ∧ Below N w W
theorem TwoN.keep {N : Nat} {s q s' q' : Int} {w W W' : World} (h : TwoN N s q s' q' w W) (hb : Below W.heap.size W W') : TwoN N s q s' q' w W' := by
  obtain ⟨h1, h2, h3, h4, h5⟩ := h
  have hl : N < W.heap.size := World.block_lt_of_cell? W _ h1
  exact ⟨cell_keeps hb h1, cell_keeps hb h2, cell_keeps hb h3, cell_keeps hb h4, h5.trans (hb.mono (Nat.le_of_lt hl))⟩
theorem TwoN.drew {N : Nat} {s q s' q' : Int} {w W : World} (h : TwoN N s q s' q' w W) : TwoN N s q s' q' w W.drew := ⟨h.1, h.2.1, h.2.2.1, h.2.2.2.1, h.2.2.2.2.drew⟩
theorem TwoN.new (s q s' q' : Int) (w : World) (t t' : TypeId) : TwoN w.heap.size s q s' q' w ((w.alloc (.cells #[.int .i64 s, .int .i64 q] t)).alloc (.cells #[.int .i64 s', .int .i64 q'] t')) := by
  have h1 := heap_alloc2_old w (.cells #[.int .i64 s, .int .i64 q] t) (.cells #[.int .i64 s', .int .i64 q'] t')
  have h2 := heap_alloc2_new w (.cells #[.int .i64 s, .int .i64 q] t) (.cells #[.int .i64 s', .int .i64 q'] t')
  exact ⟨cell_of_row _ _ 0 _ _ _ h1, cell_of_row _ _ 1 _ _ _ h1, cell_of_row _ _ 0 _ _ _ h2, cell_of_row _ _ 1 _ _ _ h2, below_pair w _ _⟩
set_option maxRecDepth 100000 in
set_option maxHeartbeats 4000000 in
theorem lawVectNames_any (C : VC) (s q s' q' : Int) (w : World) (hG : GoodW w) :
    Calls Tryd.prog 3 #[nmV s q, nmV s' q'] w fun e w' => e = .returned (.bool true) ∧ Below w.heap.size w w' := by
  have hA := fun w => valive_any C w
  have hT := fun W (hW : Below w.heap.size w W) => pText_good s q W (hG.below hW)
  have hM := fun w => C.mayName s q w
  have hL := fun w => C.less s q s' q' w
  have gT := fun w => rText_any s q w
  have gM := fun w => rMayName_any s q w
  have gL := fun w => rLess_any s q s' q' w
  have hR := fun W (hW : Below w.heap.size w W) => (pRead_good ⟨(nText s q).toArray⟩ W (by rw [Lib.size_eq]; have := nText_length s q; simp; omega) (hG.below hW)).mono fun e w' h => PReadPost.text (s := s) (q := q) (by simpa using h)
  have hE := fun w => nmEq_eql w s q s q true (by simp)
  have hZ := fun w => nmEq_eql w 0 0 0 0 true (by simp)
  generalize (⟨(nText s q).toArray⟩ : ByteArray) = A at *
  generalize nLess s q s' q' = l at *
  clear hG
  unfold nmV at *
  have p0 := TwoN.new s q s' q' w 23 23
  cases hm : nMay s q
  · rw [hm] at hM gM hR
    clear hm
    go_enter Tryd.func3, Tryd.ntmps3
    go_wp2_with fail
    refine (hA _).mono ?_
    clear hA
    rintro e w1 ⟨rfl, hb⟩
    have p1 := p0.keep hb
    clear p0 hb
    obtain ⟨c0, c1, d0, d1, _⟩ := id p1
    go_wp2_with fail
    refine (hT _ p1.2.2.2.2).mono ?_
    clear hT c0 c1 d0 d1
    rintro e w2 ⟨rfl, hb⟩
    have p2 := (p1.keep hb).drew
    clear p1 hb
    go_wp2_with fail
    go_region_held (fun W => W.cell? ⟨w.heap.size, 0, none⟩ = some (.int .i64 s) ∧ W.cell? ⟨w.heap.size, 1, none⟩ = some (.int .i64 q) ∧ W.cell? ⟨w.heap.size + 1, 0, none⟩ = some (.int .i64 s') ∧ W.cell? ⟨w.heap.size + 1, 1, none⟩ = some (.int .i64 q') ∧ Below w.heap.size w W)
      (first | exact p2 | assumption | exact TwoN.keep (by assumption) hb)
      (first | (go_at_call 11; refine (hM _).mono ?_; rintro e w3 ⟨rfl, hb⟩) | (go_at_call 12; refine (gM _).mono ?_; rintro e w3 ⟨rfl, hb⟩) | (go_at_call 13; refine (hL _).mono ?_; rintro e w3 ⟨rfl, hb⟩) | (go_at_call 14; refine (gL _).mono ?_; rintro e w3 ⟨rfl, hb⟩) | (go_at_call 15; refine (gT _).mono ?_; rintro e w3 ⟨rfl, hb⟩))
    all_goals
      rename_i hHeld
      have p4 : TwoN w.heap.size s q s' q' w _ := hHeld
      clear hHeld p2
      go_wp2_with fail
      refine (hR _ p4.2.2.2.2).mono ?_
      clear hR
      rintro e w8 ⟨rfl, hb⟩
      have p5 := (p4.keep hb).keep ((Below.refl w8.heap.size w8).alloc (Nat.le_refl _) (.cells #[.int .i64 0, .int .i64 0] 23))
      have n5 := NBox.new 0 0 w8 23
      clear p4 hb
      obtain ⟨c0, c1, d0, d1, _⟩ := id p5
      go_wp2_with fail
      refine (gM _).mono ?_
      clear gM c0 c1 d0 d1
      rintro e w9 ⟨rfl, hb⟩
      have p6 := p5.keep hb
      have n6 := n5.keep hb
      clear p5 n5 hb
      obtain ⟨e0, e1, _⟩ := n6
      obtain ⟨c0, c1, d0, d1, hw⟩ := p6
      go_wp2
      go_ret
      exact ⟨rfl, hw⟩
  · rw [hm] at hM gM hR
    clear hm
    go_enter Tryd.func3, Tryd.ntmps3
    go_wp2_with fail
    refine (hA _).mono ?_
    clear hA
    rintro e w1 ⟨rfl, hb⟩
    have p1 := p0.keep hb
    clear p0 hb
    obtain ⟨c0, c1, d0, d1, _⟩ := id p1
    go_wp2_with fail
    refine (hT _ p1.2.2.2.2).mono ?_
    clear hT c0 c1 d0 d1
    rintro e w2 ⟨rfl, hb⟩
    have p2 := (p1.keep hb).drew
    clear p1 hb
    go_wp2_with fail
    go_region_held (fun W => W.cell? ⟨w.heap.size, 0, none⟩ = some (.int .i64 s) ∧ W.cell? ⟨w.heap.size, 1, none⟩ = some (.int .i64 q) ∧ W.cell? ⟨w.heap.size + 1, 0, none⟩ = some (.int .i64 s') ∧ W.cell? ⟨w.heap.size + 1, 1, none⟩ = some (.int .i64 q') ∧ Below w.heap.size w W)
      (first | exact p2 | assumption | exact TwoN.keep (by assumption) hb)
      (first | (go_at_call 11; refine (hM _).mono ?_; rintro e w3 ⟨rfl, hb⟩) | (go_at_call 12; refine (gM _).mono ?_; rintro e w3 ⟨rfl, hb⟩) | (go_at_call 13; refine (hL _).mono ?_; rintro e w3 ⟨rfl, hb⟩) | (go_at_call 14; refine (gL _).mono ?_; rintro e w3 ⟨rfl, hb⟩) | (go_at_call 15; refine (gT _).mono ?_; rintro e w3 ⟨rfl, hb⟩))
    all_goals
      rename_i hHeld
      have p4 : TwoN w.heap.size s q s' q' w _ := hHeld
      clear hHeld p2
      go_wp2_with fail
      refine (hR _ p4.2.2.2.2).mono ?_
      clear hR
      rintro e w8 ⟨rfl, hb⟩
      have p5 := (p4.keep hb).keep ((Below.refl w8.heap.size w8).alloc (Nat.le_refl _) (.cells #[.int .i64 s, .int .i64 q] 23))
      have n5 := NBox.new s q w8 23
      clear p4 hb
      obtain ⟨c0, c1, d0, d1, _⟩ := id p5
      go_wp2_with fail
      refine (gM _).mono ?_
      clear gM c0 c1 d0 d1
      rintro e w9 ⟨rfl, hb⟩
      have p6 := p5.keep hb
      have n6 := n5.keep hb
      clear p5 n5 hb
      obtain ⟨e0, e1, _⟩ := n6
      obtain ⟨c0, c1, d0, d1, hw⟩ := p6
      go_wp2
      go_ret
      exact ⟨rfl, hw⟩
end Go.Proofs.YthbophioohcphaaDoor
