/- FrameBack: the law's walk. -/
import Derived.Test.YtckknopjhmpnhaaLawFrameOne
namespace Go.Proofs.Ytckknopjhmpnhaa
open Go.RowKit Go.Shelf

theorem frPut_size {f : Fr} (hf : frMay f) (hb : f.body.length ≤ 3000) : 9 ≤ (frPut f).length ∧ (frPut f).length ≤ 4000 := by
  obtain ⟨x, hx, _⟩ := frHead_three f
  have h1 := hf.1
  have u1 := Lib.uvarint_length64 (show f.site < 18446744073709551616 by omega)
  have u2 := Lib.uvarint_length64 (show f.ack < 18446744073709551616 by omega)
  have v1 := Lib.uvarint_pos f.site
  have v2 := Lib.uvarint_pos f.ack
  unfold frPut
  rw [List.length_append, sumB_length]
  unfold frHead
  rcases hf.2 with g | g
  · rw [if_pos g.1]
    have u3 := Lib.uvarint_length64 (show f.seq < 18446744073709551616 by omega)
    have u4 := Lib.uvarint_length64 (show f.body.length < 18446744073709551616 by omega)
    have v3 := Lib.uvarint_pos f.seq
    unfold rowL
    simp only [List.length_append, List.length_cons, List.length_nil]
    omega
  · rw [if_neg (by omega)]
    simp only [List.length_append, List.length_cons, List.length_nil]
    omega
/-- A part that is got is told by a fault. -/
theorem part_err {f : Fr} (hf : frMay f) (m : Nat) (hm : m < (frPut f).length) : ∃ c : Int, c ≠ 0 ∧ frGet ((frPut f).take m) = .error c := by
  rcases h : frGet ((frPut f).take m) with c | g
  · exact ⟨c, frGet_err h, rfl⟩
  · refine absurd h (frGet_part hf (b := (frPut f).drop m) (List.take_append_drop _ _).symm ?_ g)
    intro e
    have := congrArg List.length e
    rw [List.length_drop] at this
    simp at this
    omega
theorem part_bytes (l : List UInt8) (m : Nat) (hm : m ≤ l.length) : (⟨l.toArray⟩ : ByteArray).extract 0 m = ⟨(l.take m).toArray⟩ := by
  have h := extract_head (s := (⟨l.toArray⟩ : ByteArray)) (a := l.take m) (r := l.drop m) (by simp)
  rwa [List.length_take, Nat.min_eq_left hm] at h
set_option maxRecDepth 100000 in
set_option maxHeartbeats 8000000 in
theorem lawFrameBack_long (k s q a : Int) (b more : ByteArray) (cut : Int) (w : World) (hb : b.size ≤ 9223372036854775807) (hm : more.size ≤ 9223372036854775807) (hL : 3000 < b.size ∨ 3000 < more.size ∨ mayI k s q a b.size = false) :
    Calls Try.prog 5 #[frV k s q a b, .string more, .int .u16 cut] w fun e w' => e = .returned (.bool true) ∧ Below w.heap.size w w' := by
  have hA := fun w => falive_any w
  have hR := fun w => rMay_any k s q a b w hb
  unfold frV at hR ⊢
  have hN := FBox.new k s q a b w 23
  by_cases h1 : 3000 < b.size
  · clear hL
    go_enter Try.func5, Try.ntmps5
    go_wp2_with fail
    refine (hA _).mono ?_
    clear hA
    rintro e w1 ⟨rfl, hb1⟩
    have h1 := hN.keep hb1
    obtain ⟨c0, c1, c2, c3, c4⟩ := h1.cells
    have hz := h1.2.2.2.2.2
    clear hN h1 hb1
    go_wp2
    go_ret
    exact ⟨rfl, hz⟩
  · by_cases h2 : 3000 < more.size
    · clear hL
      go_enter Try.func5, Try.ntmps5
      go_wp2_with fail
      refine (hA _).mono ?_
      clear hA
      rintro e w1 ⟨rfl, hb1⟩
      have h1 := hN.keep hb1
      obtain ⟨c0, c1, c2, c3, c4⟩ := h1.cells
      have hz := h1.2.2.2.2.2
      clear hN h1 hb1
      go_wp2
      go_ret
      exact ⟨rfl, hz⟩
    · have h3 : mayI k s q a b.size = false := by rcases hL with g | g | g; exact absurd g h1; exact absurd g h2; exact g
      rw [h3] at hR
      clear h3 hL
      go_enter Try.func5, Try.ntmps5
      go_wp2_with fail
      refine (hA _).mono ?_
      clear hA
      rintro e w1 ⟨rfl, hb1⟩
      have h1 := hN.keep hb1
      obtain ⟨c0, c1, c2, c3, c4⟩ := h1.cells
      clear hN hb1
      go_wp2_with fail
      refine (hR _).mono ?_
      clear hR
      rintro e w2 ⟨rfl, hb2⟩
      have hz := (h1.keep hb2).2.2.2.2.2
      clear h1 hb2 c0 c1 c2 c3 c4
      go_wp2
      go_ret
      exact ⟨rfl, hz⟩
set_option maxRecDepth 100000 in
set_option maxHeartbeats 8000000 in
theorem lawFrameBack_may (f : Fr) (more : ByteArray) (cut : Int) (w : World) (hf : frMay f) (hL : ¬ 3000 < f.body.length) (hM3 : ¬ 3000 < more.size) (hc0 : 0 ≤ cut) (hc1 : cut < 65536) :
    Calls Try.prog 5 #[frOf f, .string more, .int .u16 cut] w fun e w' => e = .returned (.bool true) ∧ Below w.heap.size w w' := by
  have hA := fun w => falive_any w
  have hP := fun w => pFPut_any f hf w
  obtain ⟨z9, z4⟩ := frPut_size hf (Nat.not_lt.1 hL)
  have hsz := size_bytes f.body
  have hm : mayI f.kind f.site f.seq f.ack (⟨f.body.toArray⟩ : ByteArray).size = true := by rw [hsz]; exact (mayI_fr f.kind f.site f.seq f.ack f.body).trans (decide_eq_true hf)
  have hG := fun w => pFGet_any ⟨(frPut f).toArray⟩ w (by rw [size_bytes]; omega)
  rw [show (⟨(frPut f).toArray⟩ : ByteArray).data.toList = frPut f ++ [] by simp, frGet_put f hf [], if_pos rfl] at hG
  have hcut : ((cut % ((frPut f).length : Int)).toNat) < (frPut f).length := by
    have := Int.emod_lt_of_pos cut (show (0 : Int) < ((frPut f).length : Int) by omega)
    have := Int.emod_nonneg cut (show ((frPut f).length : Int) ≠ 0 by omega)
    omega
  obtain ⟨c, hc, hpc⟩ := part_err hf _ hcut
  have hY := fun w => pFGet_any ((⟨(frPut f).toArray⟩ : ByteArray).extract 0 ((cut % ((frPut f).length : Int)).toNat)) w (by rw [part_bytes _ _ (Nat.le_of_lt hcut), size_bytes, List.length_take]; omega)
  rw [part_bytes _ _ (Nat.le_of_lt hcut)] at hY
  rw [show (⟨((frPut f).take ((cut % ((frPut f).length : Int)).toNat)).toArray⟩ : ByteArray).data.toList = (frPut f).take ((cut % ((frPut f).length : Int)).toNat) by simp, hpc, ← part_bytes _ _ (Nat.le_of_lt hcut)] at hY
  have hZ := fun w => pFGet_any ((⟨(frPut f).toArray⟩ : ByteArray) ++ more) w (by rw [ByteArray.size_append, size_bytes]; omega)
  rw [show ((⟨(frPut f).toArray⟩ : ByteArray) ++ more).data.toList = frPut f ++ more.data.toList by simp, frGet_put f hf more.data.toList] at hZ
  clear hpc hcut
  have hcb : (c != 0) = true := by simpa using hc
  have hsl := size_bytes (frPut f)
  rw [← hsl] at z9 z4 hY
  rw [← hsz] at hL
  clear hsl hsz hf hc
  unfold getV frOf at hG hY
  simp only at hG hY
  unfold frOf at hP ⊢
  obtain ⟨b, hb⟩ : ∃ b : ByteArray, b = ⟨f.body.toArray⟩ := ⟨_, rfl⟩
  rw [← hb] at hP hG hm hL ⊢
  obtain ⟨A, hAA⟩ : ∃ A : ByteArray, A = ⟨(frPut f).toArray⟩ := ⟨_, rfl⟩
  rw [← hAA] at hP hG hY hZ z9 z4
  have hZ1 : more.size = 0 → ∀ w, Calls Try.prog 14 #[.string (A ++ more)] w fun e w' => e = .returned (.tuple #[.agg #[.int .i64 f.kind, .int .i64 f.site, .int .i64 f.seq, .int .i64 f.ack, .string b], .int .i64 0]) ∧ Below w.heap.size w w' := fun h w => by
    have := hZ w
    rw [if_pos (List.eq_nil_of_length_eq_zero (by rw [← Lib.size_eq]; exact h))] at this
    rw [hb]
    exact this
  have hZ2 : more.size ≠ 0 → ∀ w, Calls Try.prog 14 #[.string (A ++ more)] w fun e w' => e = .returned (.tuple #[.agg #[.int .i64 0, .int .i64 0, .int .i64 0, .int .i64 0, .string ⟨#[]⟩], .int .i64 11]) ∧ Below w.heap.size w w' := fun h w => by
    have := hZ w
    rw [if_neg (fun e => h (by rw [Lib.size_eq, e]; rfl))] at this
    exact this
  clear hb hAA hZ
  generalize (f.kind : Int) = k at *
  generalize (f.site : Int) = s at *
  generalize (f.seq : Int) = q at *
  generalize (f.ack : Int) = a at *
  have hO := fun w => of_frame k s q a b w
  have hQ := fun w => plain_frame k s q a b w
  have hR := fun w => rMay_any k s q a b w (by omega)
  have hE := fun w => eqR_neq w k s q a k s q a b b true (by simp)
  rw [hm] at hR
  clear hm
  unfold frV at hO hP hR hG hY hQ ⊢
  have hN := FBox.new k s q a b w 23
  have hrg : 0 ≤ cut % (A.size : Int) ∧ cut % (A.size : Int) ≤ (A.size : Int) := by
    have := Int.emod_lt_of_pos cut (show (0 : Int) < (A.size : Int) by omega)
    have := Int.emod_nonneg cut (show (A.size : Int) ≠ 0 by omega)
    omega
  have hz0 : (A.size : Int) ≠ 0 := by omega
  have hsum : ¬ 9223372036854775807 < A.size + more.size := by omega
  go_enter Try.func5, Try.ntmps5
  go_wp2_with fail
  refine (hA _).mono ?_
  clear hA
  rintro e w1 ⟨rfl, hb1⟩
  have h1 := hN.keep hb1
  obtain ⟨c0, c1, c2, c3, c4⟩ := h1.cells
  clear hN hb1
  go_wp2_with fail
  refine (hR _).mono ?_
  clear hR
  rintro e w2 ⟨rfl, hb2⟩
  have h2 := h1.keep hb2
  clear c0 c1 c2 c3 c4 h1 hb2
  obtain ⟨c0, c1, c2, c3, c4⟩ := h2.cells
  go_wp2_with fail
  refine (hO _).mono ?_
  clear hO
  rintro e w3 ⟨rfl, hb3⟩
  have h3 := h2.keep hb3
  clear c0 c1 c2 c3 c4 h2 hb3
  go_wp2_with fail
  refine (hP _).mono ?_
  clear hP
  rintro e w4 ⟨rfl, hb4⟩
  have h4 := h3.keep hb4
  clear h3 hb4
  go_wp2_with fail
  refine (hG _).mono ?_
  clear hG
  rintro e w5 ⟨rfl, hb5⟩
  have h5 := (h4.keep hb5).keep ((Below.refl w5.heap.size w5).alloc (Nat.le_refl _) (.cells #[.int .i64 k, .int .i64 s, .int .i64 q, .int .i64 a, .string b] 28))
  have hM := FBox.new k s q a b w5 28
  have hx := And.intro h5.drew hM.drew
  clear h4 h5 hM hb5
  go_wp2_with fail
  go_region_held (fun W => (W.cell? ⟨w.heap.size, 0, none⟩ = some (.int .i64 k) ∧ W.cell? ⟨w.heap.size, 1, none⟩ = some (.int .i64 s) ∧ W.cell? ⟨w.heap.size, 2, none⟩ = some (.int .i64 q) ∧ W.cell? ⟨w.heap.size, 3, none⟩ = some (.int .i64 a) ∧ W.cell? ⟨w.heap.size, 4, none⟩ = some (.string b) ∧ Below w.heap.size w W) ∧
      (W.cell? ⟨w5.heap.size, 0, none⟩ = some (.int .i64 k) ∧ W.cell? ⟨w5.heap.size, 1, none⟩ = some (.int .i64 s) ∧ W.cell? ⟨w5.heap.size, 2, none⟩ = some (.int .i64 q) ∧ W.cell? ⟨w5.heap.size, 3, none⟩ = some (.int .i64 a) ∧ W.cell? ⟨w5.heap.size, 4, none⟩ = some (.string b) ∧ Below w5.heap.size w5 W))
    (first | exact hx | assumption | exact keepTwo (by assumption) hb)
    (first | (go_at_call 16; refine (hQ _).mono ?_; rintro e w4 ⟨rfl, hb⟩))
  all_goals
    rename_i hHeld
    have hz := hHeld.1.2.2.2.2.2
    clear hHeld hx hE hQ
    go_wp2_with fail
    refine (hY _).mono ?_
    clear hY
    rintro e w6 ⟨rfl, hb6⟩
    have hz6 := hz.trans ((hb6.mono hz.size).trans (((Below.refl w6.heap.size w6).alloc (Nat.le_refl _) (.cells #[.int .i64 0, .int .i64 0, .int .i64 0, .int .i64 0, .string ⟨#[]⟩] 28)).mono (Nat.le_trans hz.size hb6.size)))
    clear hb6 hz
    by_cases hme : more.size = 0
    · have hZ := hZ1 hme
      have he : more.toList.isEmpty = true := by rw [empty_is]; simpa using hme
      have he2 : more.toList = [] := by simpa using he
      clear hZ1 hZ2 hme
      go_wp2_with fail
      refine (hZ _).mono ?_
      clear hZ
      rintro e w7 ⟨rfl, hb7⟩
      have hz7 := hz6.trans (hb7.mono hz6.size)
      have hz8 := hz7.alloc hz7.size (.cells #[.int .i64 k, .int .i64 s, .int .i64 q, .int .i64 a, .string b] 28)
      clear hb7 hz7 hz6
      go_wp2
      go_ret
      exact ⟨rfl, hz8⟩
    · have hZ := hZ2 hme
      have he : more.toList.isEmpty = false := by rw [empty_is]; simpa using hme
      have he2 : ¬ more.toList = [] := by simpa using he
      clear hZ1 hZ2 hme
      go_wp2_with fail
      refine (hZ _).mono ?_
      clear hZ
      rintro e w7 ⟨rfl, hb7⟩
      have hz7 := hz6.trans (hb7.mono hz6.size)
      have hz8 := hz7.alloc hz7.size (.cells #[.int .i64 0, .int .i64 0, .int .i64 0, .int .i64 0, .string ⟨#[]⟩] 28)
      clear hb7 hz7 hz6
      go_wp2
      go_ret
      exact ⟨rfl, hz8⟩
theorem lawFrameBack_any (k s q a : Int) (b more : ByteArray) (cut : Int) (w : World) (hb : b.size ≤ maxLen) (hm : more.size ≤ maxLen) (hc0 : 0 ≤ cut) (hc1 : cut < 65536) :
    Calls Try.prog 5 #[frV k s q a b, .string more, .int .u16 cut] w fun e w' => e = .returned (.bool true) ∧ Below w.heap.size w w' := by
  unfold maxLen at hb hm
  by_cases h1 : 3000 < b.size
  · exact lawFrameBack_long k s q a b more cut w (by omega) (by omega) (.inl h1)
  · by_cases h2 : 3000 < more.size
    · exact lawFrameBack_long k s q a b more cut w (by omega) (by omega) (.inr (.inl h2))
    · by_cases h3 : mayI k s q a b.size = true
      · obtain ⟨f, hf, hv, hbody⟩ := mayI_yes h3
        rw [hv]
        exact lawFrameBack_may f more cut w hf (by rw [hbody, ← Lib.size_eq]; exact h1) h2 hc0 hc1
      · exact lawFrameBack_long k s q a b more cut w (by omega) (by omega) (.inr (.inr (by simpa using h3)))
end Go.Proofs.Ytckknopjhmpnhaa
