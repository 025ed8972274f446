/- FramePuts: the law's walk. -/
import Derived.Test.YtckknopjhmpnhaaFrameAlive
import Derived.Deep.RegionHeld
namespace Go.Proofs.Ytckknopjhmpnhaa
open Go.RowKit Go.Shelf

theorem FBox.cells {N : Nat} {k s q a : Int} {b : ByteArray} {w W : World} (h : FBox N k s q a b w W) : W.cell? ⟨N, 0, none⟩ = some (.int .i64 k) ∧ W.cell? ⟨N, 1, none⟩ = some (.int .i64 s) ∧ W.cell? ⟨N, 2, none⟩ = some (.int .i64 q) ∧ W.cell? ⟨N, 3, none⟩ = some (.int .i64 a) ∧ W.cell? ⟨N, 4, none⟩ = some (.string b) := ⟨h.1, h.2.1, h.2.2.1, h.2.2.2.1, h.2.2.2.2.1⟩
set_option maxRecDepth 100000 in
set_option maxHeartbeats 4000000 in
theorem lawFramePuts_long (k s q a : Int) (b : ByteArray) (w : World) (hb : b.size ≤ 9223372036854775807) (hL : 3000 < b.size) :
    Calls Try.prog 3 #[frV k s q a b] w fun e w' => e = .returned (.bool true) ∧ Below w.heap.size w w' := by
  have hA := fun w => falive_any w
  unfold frV
  have hN := FBox.new k s q a b w 23
  go_enter Try.func3, Try.ntmps3
  go_wp2_with fail
  refine (hA _).mono ?_
  clear hA
  rintro e w1 ⟨rfl, hb1⟩
  have h1 := hN.keep hb1
  obtain ⟨c0, c1, c2, c3, c4⟩ := h1.cells
  have hz := h1.2.2.2.2.2
  clear hN h1 hb1
  go_wp2
  go_ret
  exact ⟨rfl, hz⟩
set_option maxRecDepth 100000 in
set_option maxHeartbeats 8000000 in
theorem lawFramePuts_no (k s q a : Int) (b : ByteArray) (w : World) (hb : b.size ≤ 9223372036854775807) (hL : ¬ 3000 < b.size) (hm : mayI k s q a b.size = false) :
    Calls Try.prog 3 #[frV k s q a b] w fun e w' => e = .returned (.bool true) ∧ Below w.heap.size w w' := by
  have hA := fun w => falive_any w
  have hO := fun w => of_frame k s q a b w
  have hP := fun w => pFPut_no k s q a b w hb hm
  have hM := fun w => pMay_any k s q a b w hb
  have hR := fun w => rMay_any k s q a b w hb
  rw [hm] at hM hR
  clear hm
  unfold frV at hO hP hM hR ⊢
  have hN := FBox.new k s q a b w 23
  go_enter Try.func3, Try.ntmps3
  go_wp2_with fail
  refine (hA _).mono ?_
  clear hA
  rintro e w1 ⟨rfl, hb1⟩
  have h1 := hN.keep hb1
  obtain ⟨c0, c1, c2, c3, c4⟩ := h1.cells
  clear hN hb1
  go_wp2_with fail
  refine (hO _).mono ?_
  rintro e w2 ⟨rfl, hb2⟩
  have h2 := h1.keep hb2
  clear c0 c1 c2 c3 c4 h1 hb2
  go_wp2_with fail
  refine (hP _).mono ?_
  clear hP
  rintro e w3 ⟨rfl, hb3⟩
  have h3 := h2.keep hb3
  have h3' := h3.drew
  clear h2 hb3
  go_wp2_with fail
  go_region_held (fun W => W.cell? ⟨w.heap.size, 0, none⟩ = some (.int .i64 k) ∧ W.cell? ⟨w.heap.size, 1, none⟩ = some (.int .i64 s) ∧ W.cell? ⟨w.heap.size, 2, none⟩ = some (.int .i64 q) ∧ W.cell? ⟨w.heap.size, 3, none⟩ = some (.int .i64 a) ∧ W.cell? ⟨w.heap.size, 4, none⟩ = some (.string b) ∧ Below w.heap.size w W)
    (first | exact h3' | assumption | exact FBox.keep (by assumption) hb)
    (first | (go_at_call 10; refine (hO _).mono ?_; rintro e w2 ⟨rfl, hb⟩) | (go_at_call 11; refine (hM _).mono ?_; rintro e w2 ⟨rfl, hb⟩) | (go_at_call 12; refine (hR _).mono ?_; rintro e w2 ⟨rfl, hb⟩))
  all_goals
    rename_i hHeld
    have h4 : FBox w.heap.size k s q a b w _ := hHeld
    obtain ⟨c0, c1, c2, c3, c4⟩ := h4.cells
    clear hHeld h3' h3
    go_wp2_with fail
    refine (hR _).mono ?_
    rintro e w5 ⟨rfl, hb5⟩
    have hz := (h4.keep hb5).2.2.2.2.2
    clear c0 c1 c2 c3 c4 h4 hb5
    go_wp2
    go_ret
    exact ⟨rfl, hz⟩
set_option maxRecDepth 100000 in
set_option maxHeartbeats 8000000 in
theorem lawFramePuts_yes (f : Fr) (w : World) (hf : frMay f) (hL : ¬ 3000 < f.body.length) :
    Calls Try.prog 3 #[frOf f] w fun e w' => e = .returned (.bool true) ∧ Below w.heap.size w w' := by
  have hA := fun w => falive_any w
  have hP := fun w => pFPut_any f hf w
  have hQ := fun w => rFPut_any f hf w
  have hsz := size_bytes f.body
  have hm : mayI f.kind f.site f.seq f.ack (⟨f.body.toArray⟩ : ByteArray).size = true := by rw [hsz]; exact (mayI_fr f.kind f.site f.seq f.ack f.body).trans (decide_eq_true hf)
  rw [← hsz] at hL
  clear hsz hf
  unfold frOf at hP hQ ⊢
  obtain ⟨b, hb⟩ : ∃ b : ByteArray, b = ⟨f.body.toArray⟩ := ⟨_, rfl⟩
  rw [← hb] at hP hQ hm hL ⊢
  clear hb
  generalize (f.kind : Int) = k at *
  generalize (f.site : Int) = s at *
  generalize (f.seq : Int) = q at *
  generalize (f.ack : Int) = a at *
  have hO := fun w => of_frame k s q a b w
  have hM := fun w => pMay_any k s q a b w (by omega)
  have hR := fun w => rMay_any k s q a b w (by omega)
  rw [hm] at hM hR
  clear hm
  unfold frV at hO hP hM hR hQ ⊢
  generalize (⟨(frPut f).toArray⟩ : ByteArray) = A at *
  have hN := FBox.new k s q a b w 23
  go_enter Try.func3, Try.ntmps3
  go_wp2_with fail
  refine (hA _).mono ?_
  clear hA
  rintro e w1 ⟨rfl, hb1⟩
  have h1 := hN.keep hb1
  obtain ⟨c0, c1, c2, c3, c4⟩ := h1.cells
  clear hN hb1
  go_wp2_with fail
  refine (hO _).mono ?_
  rintro e w2 ⟨rfl, hb2⟩
  have h2 := h1.keep hb2
  clear c0 c1 c2 c3 c4 h1 hb2
  go_wp2_with fail
  refine (hP _).mono ?_
  clear hP
  rintro e w3 ⟨rfl, hb3⟩
  have h3 := h2.keep hb3
  have h3' := h3.drew
  clear h2 hb3
  go_wp2_with fail
  go_region_held (fun W => W.cell? ⟨w.heap.size, 0, none⟩ = some (.int .i64 k) ∧ W.cell? ⟨w.heap.size, 1, none⟩ = some (.int .i64 s) ∧ W.cell? ⟨w.heap.size, 2, none⟩ = some (.int .i64 q) ∧ W.cell? ⟨w.heap.size, 3, none⟩ = some (.int .i64 a) ∧ W.cell? ⟨w.heap.size, 4, none⟩ = some (.string b) ∧ Below w.heap.size w W)
    (first | exact h3' | assumption | exact FBox.keep (by assumption) hb)
    (first | (go_at_call 10; refine (hO _).mono ?_; rintro e w2 ⟨rfl, hb⟩) | (go_at_call 11; refine (hM _).mono ?_; rintro e w2 ⟨rfl, hb⟩) | (go_at_call 12; refine (hR _).mono ?_; rintro e w2 ⟨rfl, hb⟩))
  all_goals
    rename_i hHeld
    have h4 : FBox w.heap.size k s q a b w _ := hHeld
    obtain ⟨c0, c1, c2, c3, c4⟩ := h4.cells
    clear hHeld h3' h3
    go_wp2_with fail
    refine (hR _).mono ?_
    rintro e w5 ⟨rfl, hb5⟩
    have h5 := h4.keep hb5
    clear c0 c1 c2 c3 c4 h4 hb5
    obtain ⟨c0, c1, c2, c3, c4⟩ := h5.cells
    go_wp2_with fail
    refine (hQ _).mono ?_
    rintro e w6 ⟨rfl, hb6⟩
    have hz := (h5.keep hb6).2.2.2.2.2
    clear c0 c1 c2 c3 c4 h5 hb6
    go_wp2
    go_ret
    exact ⟨rfl, hz⟩
theorem lawFramePuts_any (k s q a : Int) (b : ByteArray) (w : World) (hb : b.size ≤ maxLen) :
    Calls Try.prog 3 #[frV k s q a b] w fun e w' => e = .returned (.bool true) ∧ Below w.heap.size w w' := by
  unfold maxLen at hb
  by_cases hL : 3000 < b.size
  · exact lawFramePuts_long k s q a b w (by omega) hL
  · by_cases hm : mayI k s q a b.size = true
    · obtain ⟨f, hf, hv, hbody⟩ := mayI_yes hm
      rw [hv]
      exact lawFramePuts_yes f w hf (by rw [hbody, ← Lib.size_eq]; exact hL)
    · exact lawFramePuts_no k s q a b w (by omega) hL (by simpa using hm)
end Go.Proofs.Ytckknopjhmpnhaa
