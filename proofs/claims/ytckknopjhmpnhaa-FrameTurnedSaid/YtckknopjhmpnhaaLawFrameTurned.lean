/- FrameTurned: the law's walk. -/
import Derived.Test.YtckknopjhmpnhaaLawFrameBack
import Derived.Test.YtckknopjhmpnhaaTurn
import Derived.StillTailTactics
namespace Go.Proofs.Ytckknopjhmpnhaa
open Go.RowKit Go.Shelf

theorem fr_ne {f g : Fr} (h : g ≠ f) : ((g.kind : Int) == (f.kind : Int) && (g.site : Int) == (f.site : Int) && (g.seq : Int) == (f.seq : Int) && (g.ack : Int) == (f.ack : Int) && (⟨g.body.toArray⟩ : ByteArray).toList == (⟨f.body.toArray⟩ : ByteArray).toList) = false := by
  cases hq : ((g.kind : Int) == (f.kind : Int) && (g.site : Int) == (f.site : Int) && (g.seq : Int) == (f.seq : Int) && (g.ack : Int) == (f.ack : Int) && (⟨g.body.toArray⟩ : ByteArray).toList == (⟨f.body.toArray⟩ : ByteArray).toList) with
  | false => rfl
  | true =>
    simp only [Bool.and_eq_true, beq_iff_eq, Lib.toList_data] at hq
    refine absurd ?_ h
    obtain ⟨k, s, q, a, b⟩ := f
    obtain ⟨k', s', q', a', b'⟩ := g
    simp only at hq
    obtain ⟨⟨⟨⟨h1, h2⟩, h3⟩, h4⟩, h5⟩ := hq
    simp only [Fr.mk.injEq]
    exact ⟨by omega, by omega, by omega, by omega, h5⟩
theorem numS_fault {r : List UInt8 × Int} {most : Nat} (h : r.2 = 0 ∨ r.2 = 8 ∨ r.2 = 9) : (numS r most).1.2 = 0 ∨ (numS r most).1.2 = 8 ∨ (numS r most).1.2 = 9 := by
  unfold numS
  split
  · split
    · rename_i c hc; exact .inr (takeL_error hc)
    · exact .inl rfl
  · exact h
theorem textS_fault {r : List UInt8 × Int} {most : Nat} (h : r.2 = 0 ∨ r.2 = 8 ∨ r.2 = 9) : (textS r most).1.2 = 0 ∨ (textS r most).1.2 = 8 ∨ (textS r most).1.2 = 9 := by
  unfold textS
  split
  · split
    · rename_i c hc; exact .inr (textL_error hc)
    · exact .inl rfl
  · exact h
theorem frRead_fault (one : Bool) (l : List UInt8) : (frRead one l).1.2 = 0 ∨ (frRead one l).1.2 = 8 ∨ (frRead one l).1.2 = 9 := by
  unfold frRead
  cases one
  · exact numS_fault (numS_fault (.inl rfl))
  · exact textS_fault (numS_fault (numS_fault (numS_fault (.inl rfl))))
/-- The faults' numbers. -/
theorem frGet_codes {L : List UInt8} {c : Int} (h : frGet L = .error c) : c = 8 ∨ c = 9 ∨ c = 10 ∨ c = 11 := by
  have hf := frRead_fault (L.getD 2 0 == 1) (L.drop 3)
  unfold frGet at h
  split at h
  · cases h; exact .inl rfl
  · split at h
    · cases h; exact .inr (.inl rfl)
    · simp only at h
      split at h
      · rename_i q
        cases h
        rcases hf with g | g | g
        · exact absurd g q
        · exact .inl g
        · exact .inr (.inl g)
      · split at h
        · cases h; exact .inl rfl
        · split at h
          · cases h; exact .inr (.inr (.inr rfl))
          · split at h
            · cases h; exact .inr (.inr (.inl rfl))
            · split at h
              · cases h
              · cases h; exact .inr (.inl rfl)
/-- Bytes other than a frame's are not got as it: in the program's values. -/
theorem other_got {f : Fr} {T : List UInt8} (hT : T ≠ frPut f) : ∃ (k s q a : Int) (b : ByteArray) (c : Int), getV (frGet T) = .tuple #[frV k s q a b, .int .i64 c] ∧
    ((c = 8 ∨ c = 9 ∨ c = 10 ∨ c = 11) ∨ (c = 0 ∧ (k == (f.kind : Int) && s == (f.site : Int) && q == (f.seq : Int) && a == (f.ack : Int) && b.toList == (⟨f.body.toArray⟩ : ByteArray).toList) = false)) := by
  rcases hr : frGet T with c | g
  · exact ⟨0, 0, 0, 0, ⟨#[]⟩, c, rfl, .inl (frGet_codes hr)⟩
  · refine ⟨_, _, _, _, _, 0, rfl, .inr ⟨rfl, fr_ne (g := g) (f := f) fun e => hT ?_⟩⟩
    rw [(frGet_ok hr).2, e]
set_option maxRecDepth 100000 in
set_option maxHeartbeats 8000000 in
theorem lawFrameTurned_long (k s q a : Int) (b : ByteArray) (at_ : Int) (x0 x1 x2 x3 : UInt8) (w : World) (hb : b.size ≤ 9223372036854775807) (hL : 3000 < b.size ∨ mayI k s q a b.size = false ∨ (mayI k s q a b.size = true ∧ x0 = 0 ∧ x1 = 0 ∧ x2 = 0 ∧ x3 = 0)) :
    Calls Try.prog 7 #[frV k s q a b, .int .u16 at_, .agg #[.int .u8 x0.toNat, .int .u8 x1.toNat, .int .u8 x2.toNat, .int .u8 x3.toNat]] w fun e w' => e = .returned (.bool true) ∧ Below w.heap.size w w' := by
  have hA := fun w => falive_any w
  have hR := fun w => rMay_any k s q a b w hb
  unfold frV at hR ⊢
  have hN := (FBox.new k s q a b w 23).keep ((Below.refl _ _).alloc (Nat.le_refl _) (.cells #[.int .u8 x0.toNat, .int .u8 x1.toNat, .int .u8 x2.toNat, .int .u8 x3.toNat] 41))
  by_cases h1 : 3000 < b.size
  · clear hL
    go_enter Try.func7, Try.ntmps7
    go_wp2_with fail
    refine (hA _).mono ?_
    clear hA
    rintro e w1 ⟨rfl, hb1⟩
    have h1 := hN.keep hb1
    obtain ⟨c0, c1, c2, c3, c4⟩ := h1.cells
    have hz := h1.2.2.2.2.2
    clear hN h1 hb1
    go_wp2
    go_ret
    exact ⟨rfl, hz⟩
  · rcases hL with g | h3 | ⟨h3, g0, g1, g2, g3⟩
    · exact absurd g h1
    · rw [h3] at hR
      clear h3
      go_enter Try.func7, Try.ntmps7
      go_wp2_with fail
      refine (hA _).mono ?_
      clear hA
      rintro e w1 ⟨rfl, hb1⟩
      have h1 := hN.keep hb1
      obtain ⟨c0, c1, c2, c3, c4⟩ := h1.cells
      clear hN hb1
      go_wp2_with fail
      refine (hR _).mono ?_
      clear hR
      rintro e w2 ⟨rfl, hb2⟩
      have hz := (h1.keep hb2).2.2.2.2.2
      clear h1 hb2 c0 c1 c2 c3 c4
      go_wp2
      go_ret
      exact ⟨rfl, hz⟩
    · rw [h3] at hR
      clear h3
      subst g0 g1 g2 g3
      have hq := fun w => eq_four 0 0 0 0 w
      rw [show ((0 : Int) == 0 && (0 : Int) == 0 && (0 : Int) == 0 && (0 : Int) == 0) = true from rfl] at hq
      have hrow := heap_alloc_new (w.alloc (.cells #[.int .i64 k, .int .i64 s, .int .i64 q, .int .i64 a, .string b] 23)) (.cells #[.int .u8 (0 : UInt8).toNat, .int .u8 (0 : UInt8).toNat, .int .u8 (0 : UInt8).toNat, .int .u8 (0 : UInt8).toNat] 41)
      rw [show (w.alloc (.cells #[.int .i64 k, .int .i64 s, .int .i64 q, .int .i64 a, .string b] 23)).heap.size = w.heap.size + 1 by simp] at hrow
      go_enter Try.func7, Try.ntmps7
      go_wp2_with fail
      refine (hA _).mono ?_
      clear hA
      rintro e w1 ⟨rfl, hb1⟩
      have h1 := hN.keep hb1
      obtain ⟨c0, c1, c2, c3, c4⟩ := h1.cells
      have hrow1 := (hb1.block _ (box_lt hrow)).trans hrow
      clear hN hb1 hrow
      go_wp2_with fail
      refine (hR _).mono ?_
      clear hR
      rintro e w2 ⟨rfl, hb2⟩
      have hrow2 := (hb2.block _ (box_lt hrow1)).trans hrow1
      have hz := (h1.keep hb2).2.2.2.2.2
      have b0 : _ = some (Value.int .u8 0) := cell_of_row _ _ 0 _ _ _ hrow2
      have b1 : _ = some (Value.int .u8 0) := cell_of_row _ _ 1 _ _ _ hrow2
      have b2 : _ = some (Value.int .u8 0) := cell_of_row _ _ 2 _ _ _ hrow2
      have b3 : _ = some (Value.int .u8 0) := cell_of_row _ _ 3 _ _ _ hrow2
      clear h1 hb2 c0 c1 c2 c3 c4 hrow1 hrow2
      go_wp2
      go_ret
      exact ⟨rfl, hz⟩
end Go.Proofs.Ytckknopjhmpnhaa
