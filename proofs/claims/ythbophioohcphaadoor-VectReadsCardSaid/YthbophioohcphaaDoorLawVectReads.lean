/- VectReads: the law's walk. -/
import Derived.Test.YthbophioohcphaaDoorLawVectNames
namespace Go.Proofs.YthbophioohcphaaDoor
open Go.RowKit

theorem ReadPost.same {L : List UInt8} {w w' : World} {e : Ending} {s q : Int} (h : ReadPost L w e w') (hm : nMay s q = true) (ht : nText s q = L) : e = .returned (.tuple #[nmV s q, .bool true]) ∧ Below w.heap.size w w' := by
  obtain ⟨h, hb⟩ := h
  refine ⟨?_, hb⟩
  rcases h with ⟨s', q', h1, h2, h3⟩ | ⟨h1, h2⟩
  · obtain ⟨rfl, rfl⟩ := text_inj h1 hm (h2.trans ht.symm)
    exact h3
  · exact absurd ht (h1 s q hm)
theorem ReadPost.none {L : List UInt8} {w w' : World} {e : Ending} (h : ReadPost L w e w') (hn : noName L) : e = .returned (.tuple #[nmV 0 0, .bool false]) ∧ Below w.heap.size w w' := by
  obtain ⟨h, hb⟩ := h
  refine ⟨?_, hb⟩
  rcases h with ⟨s', q', h1, h2, h3⟩ | ⟨h1, h2⟩
  · exact absurd h2 (hn s' q' h1)
  · exact h2
set_option maxRecDepth 100000 in
set_option maxHeartbeats 4000000 in
theorem lawVectReads_any (C : VC) (s : ByteArray) (w : World) (hs : s.size ≤ maxLen) (hG : GoodW w) :
    Calls Tryd.prog 4 #[.string s] w fun e w' => e = .returned (.bool true) ∧ Below w.heap.size w w' := by
  unfold maxLen at hs
  have hA := fun w => valive_any C w
  by_cases h1 : 1000 < s.size
  · go_enter Tryd.func4, Tryd.ntmps4
    go_wp2_with fail
    refine (hA _).mono ?_
    clear hA
    rintro e w1 ⟨rfl, hb⟩
    go_wp2
    go_ret
    exact ⟨rfl, hb⟩
  · have hP := fun W (hW : Below w.heap.size w W) => pRead_good s W (by omega) (hG.below hW)
    clear hG
    have hR := fun w => rRead_any s w (by omega)
    go_enter Tryd.func4, Tryd.ntmps4
    go_wp2_with fail
    refine (hA _).mono ?_
    clear hA
    rintro e w1 ⟨rfl, hw1⟩
    go_wp2_with fail
    refine (hP _ hw1).mono ?_
    clear hP
    rintro e w2 ⟨⟨x, y, hm, ht, rfl⟩ | ⟨hn, rfl⟩, hb⟩
    · have hw2 := hw1.trans (hb.mono hw1.size)
      have hR2 := fun w => (hR w).mono fun e w' h => h.same hm ht
      have n2 := NBox.new x y w2 23
      have hw3 := hw2.alloc hw2.size (.cells #[.int .i64 x, .int .i64 y] 23)
      have hE := fun w => nmEq_eql w x y x y true (by simp)
      unfold nmV at *
      clear hR hb hw1 hw2 hm ht
      go_wp2_with fail
      refine (hR2 _).mono ?_
      clear hR2
      rintro e w4 ⟨rfl, hb⟩
      have n4 := (n2.keep hb).keep ((Below.refl w4.heap.size w4).alloc (Nat.le_refl _) (.cells #[.int .i64 x, .int .i64 y] 23))
      have m4 := NBox.new x y w4 23
      have hw5 := (hw3.trans (hb.mono hw3.size)).alloc (Nat.le_trans hw3.size hb.size) (.cells #[.int .i64 x, .int .i64 y] 23)
      obtain ⟨c0, c1, _⟩ := n4
      obtain ⟨d0, d1, _⟩ := m4
      clear n2 hb hw3
      go_wp2
      go_ret
      exact ⟨rfl, hw5⟩
    · have hw2 := hw1.trans (hb.mono hw1.size)
      have hR2 := fun w => (hR w).mono fun e w' h => h.none hn
      have n2 := NBox.new 0 0 w2 23
      have hw3 := hw2.alloc hw2.size (.cells #[.int .i64 0, .int .i64 0] 23)
      have hE := fun w => nmEq_eql w 0 0 0 0 true (by simp)
      unfold nmV at *
      clear hR hb hw1 hw2 hn
      go_wp2_with fail
      refine (hR2 _).mono ?_
      clear hR2
      rintro e w4 ⟨rfl, hb⟩
      have n4 := (n2.keep hb).keep ((Below.refl w4.heap.size w4).alloc (Nat.le_refl _) (.cells #[.int .i64 0, .int .i64 0] 23))
      have m4 := NBox.new 0 0 w4 23
      have hw5 := (hw3.trans (hb.mono hw3.size)).alloc (Nat.le_trans hw3.size hb.size) (.cells #[.int .i64 0, .int .i64 0] 23)
      obtain ⟨c0, c1, _⟩ := n4
      obtain ⟨d0, d1, _⟩ := m4
      clear n2 hb hw3
      go_wp2
      go_ret
      exact ⟨rfl, hw5⟩
end Go.Proofs.YthbophioohcphaaDoor
