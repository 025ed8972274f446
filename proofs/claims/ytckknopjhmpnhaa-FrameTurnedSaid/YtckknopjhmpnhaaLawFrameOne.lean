/- FrameOne: the law's walk. -/
import Derived.Test.YtckknopjhmpnhaaLawFrameGets
namespace Go.Proofs.Ytckknopjhmpnhaa
open Go.RowKit Go.Shelf

/-- A fault is never 0. -/
theorem frGet_err {L : List UInt8} {c : Int} (h : frGet L = .error c) : c ≠ 0 := by
  rw [frGet_looks] at h
  split at h
  · rename_i q; cases h; exact q
  · simp only at h
    split at h
    · rename_i q; cases h; exact q
    · split at h
      · cases h
      · cases h; decide
set_option maxRecDepth 100000 in
set_option maxHeartbeats 8000000 in
theorem lawFrameOne_any (x : ByteArray) (w : World) (hx : x.size ≤ maxLen) :
    Calls Try.prog 6 #[.string x] w fun e w' => e = .returned (.bool true) ∧ Below w.heap.size w w' := by
  unfold maxLen at hx
  have hA := falive_any w
  by_cases hL : 3000 < x.size
  · go_enter Try.func6, Try.ntmps6
    go_wp2_with fail
    refine hA.mono ?_
    clear hA
    rintro e w1 ⟨rfl, hb1⟩
    go_wp2
    go_ret
    exact ⟨rfl, hb1⟩
  · have hG := fun w => pFGet_any x w (by omega)
    rcases hr : frGet x.data.toList with c | f
    · rw [hr] at hG
      have hc : (c != 0) = true := by
        have := frGet_err hr
        simpa using this
      clear hr
      have hE := fun w => eqG_eql w 0 0 0 0 0 0 0 0 ⟨#[]⟩ ⟨#[]⟩ true (by simp)
      unfold getV frV at hG
      go_enter Try.func6, Try.ntmps6
      go_wp2_with fail
      refine hA.mono ?_
      clear hA
      rintro e w1 ⟨rfl, hb1⟩
      go_wp2_with fail
      refine (hG _).mono ?_
      clear hG
      rintro e w2 ⟨rfl, hb2⟩
      have hN := FBox.new 0 0 0 0 ⟨#[]⟩ w2 28
      have hz := hb1.trans ((hb2.mono hb1.size).trans (hN.2.2.2.2.2.mono (Nat.le_trans hb1.size hb2.size)))
      obtain ⟨c0, c1, c2, c3, c4⟩ := hN.cells
      clear hb1 hb2 hN
      go_wp2
      go_ret
      exact ⟨rfl, hz⟩
    · rw [hr] at hG
      obtain ⟨hf, hput⟩ := frGet_ok hr
      have hP := fun w => pFPut_any f hf w
      rw [← hput, show (⟨x.data.toList.toArray⟩ : ByteArray) = x from bytes_of_list x] at hP
      have hsz : (⟨f.body.toArray⟩ : ByteArray).size ≤ 9223372036854775807 := by
        rw [size_bytes]
        rcases hf.2 with g | g
        · omega
        · rw [g.2.2]; decide
      have hm : mayI f.kind f.site f.seq f.ack (⟨f.body.toArray⟩ : ByteArray).size = true := by rw [size_bytes]; exact (mayI_fr f.kind f.site f.seq f.ack f.body).trans (decide_eq_true hf)
      have hM := fun w => pMay_any f.kind f.site f.seq f.ack ⟨f.body.toArray⟩ w hsz
      rw [hm] at hM
      clear hr hput hf hsz hm
      unfold getV frOf at hG
      simp only at hG
      unfold frOf at hP
      unfold frV at hG hP hM
      generalize (⟨f.body.toArray⟩ : ByteArray) = b at *
      generalize (f.kind : Int) = k at *
      generalize (f.site : Int) = s at *
      generalize (f.seq : Int) = q at *
      generalize (f.ack : Int) = a at *
      go_enter Try.func6, Try.ntmps6
      go_wp2_with fail
      refine hA.mono ?_
      clear hA
      rintro e w1 ⟨rfl, hb1⟩
      go_wp2_with fail
      refine (hG _).mono ?_
      clear hG
      rintro e w2 ⟨rfl, hb2⟩
      have hb2' := hb1.trans (hb2.mono hb1.size)
      have hN := FBox.new k s q a b w2 28
      clear hb1 hb2
      go_wp2_with fail
      refine (hP _).mono ?_
      clear hP
      rintro e w3 ⟨rfl, hb3⟩
      have hN3 := hN.keep hb3
      obtain ⟨c0, c1, c2, c3, c4⟩ := hN3.cells
      clear hb3 hN
      go_wp2_with fail
      refine (hM _).mono ?_
      clear hM
      rintro e w4 ⟨rfl, hb4⟩
      have hz := hb2'.trans ((hN3.keep hb4).2.2.2.2.2.mono hb2'.size)
      clear hb4 hN3 c0 c1 c2 c3 c4
      go_wp2
      go_ret
      exact ⟨rfl, hz⟩
end Go.Proofs.Ytckknopjhmpnhaa
