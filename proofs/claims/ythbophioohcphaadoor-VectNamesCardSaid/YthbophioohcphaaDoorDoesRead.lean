/- The program's own names: ReadName. -/
import Derived.Test.YthbophioohcphaaDoorDoesText
namespace Go.Proofs.YthbophioohcphaaDoor
open Go.RowKit

/-- What Cut tells, as ReadName goes on with it. -/
def CutPost2 (s : ByteArray) (w : World) (e : Ending) (w' : World) : Prop :=
  ∃ (a b : ByteArray) (f : Bool), e = .returned (.tuple #[.string a, .string b, .bool f]) ∧ a.size ≤ s.size ∧ b.size ≤ s.size ∧
    ((nMay (atoiV a.data.toList) (atoiV b.data.toList) = false ∨ nText (atoiV a.data.toList) (atoiV b.data.toList) ≠ s.data.toList) → noName s.data.toList) ∧ Below w.heap.size w w'
theorem CutPost.two {s : ByteArray} {w w' : World} {e : Ending} (h : CutPost s w e w') : CutPost2 s w e w' := by
  obtain ⟨⟨h1, h2⟩ | ⟨a, b, h1, h2, h3⟩, hb⟩ := h
  · exact ⟨s, ⟨#[]⟩, false, h2, Nat.le_refl _, Nat.zero_le _, fun _ => noName_nodot h1, hb⟩
  · have hl := congrArg List.length h1
    rw [List.length_append, List.length_cons, ← Lib.size_eq, ← Lib.size_eq, ← Lib.size_eq] at hl
    exact ⟨a, b, true, h3, by omega, by omega, fun h => by rw [h1] at h ⊢; exact noName_atoi h2 h, hb⟩
theorem NRow.new (s q : Int) (w : World) : NRow w.heap.size s q w (w.alloc (.cells #[.int .i64 s, .int .i64 q] 23)) := ⟨heap_alloc_new w _, (Below.refl _ w).alloc (Nat.le_refl _) _⟩
theorem PReadPost.no {L : List UInt8} {w w' : World} (h : noName L) (hb : Below w.heap.size w w') : PReadPost L w (.returned (.tuple #[nmV 0 0, .int .i64 9])) w' := ⟨.inr ⟨h, rfl⟩, hb⟩
theorem PReadPost.yes {L : List UInt8} {s q : Int} {w w' : World} (hm : nMay s q = true) (ht : nText s q = L) (hb : Below w.heap.size w w') : PReadPost L w (.returned (.tuple #[nmV s q, .int .i64 0])) w' := ⟨.inl ⟨s, q, hm, ht, rfl⟩, hb⟩
set_option maxRecDepth 100000 in
set_option maxHeartbeats 8000000 in
theorem pRead_good (s : ByteArray) (w : World) (hs : s.size ≤ 1000000) (hG : GoodW w) :
    Calls Tryd.prog 16 #[.string s] w (PReadPost s.data.toList w) := by
  have hC := fun W => cut_any s W hs
  have hR0 := NRow.new 0 0 w
  have hB0 := hR0.2
  have HG := Lib.hid hG
  clear hG
  go_enter Tryd.func16, Tryd.ntmps16
  go_wp2_with fail
  refine (hC _).mono ?_
  clear hC
  rintro e w2 h2
  obtain ⟨a, b, f, rfl, ha, hb, hD, hb2⟩ := h2.two
  clear h2
  have hR2 := hR0.keep hb2
  have HD := Lib.hid hD
  clear hR0 hB0 hb2 hD
  have A1 := atoi_any a w2 (HG.out.below hR2.2) (by omega)
  go_wp2_with fail
  refine A1.mono ?_
  clear A1
  rintro e w3 ⟨err1, rfl, hb3⟩
  have hR3 := hR2.keep hb3
  clear hR2 hb3
  have A2 := atoi_any b w3 (HG.out.below hR3.2) (by omega)
  go_wp2_with fail
  refine A2.mono ?_
  clear A2
  rintro e w4 ⟨err2, rfl, hb4⟩
  have hR4 := hR3.keep hb4
  clear hR3 hb4
  have Hbx := Lib.hid (atoiV_bounds a.data.toList)
  have Hby := Lib.hid (atoiV_bounds b.data.toList)
  have HD2 := HD.out
  generalize atoiV a.data.toList = x at *
  generalize atoiV b.data.toList = y at *
  have HD := Lib.hid HD2
  clear HD2 ha hb
  have hR5 := hR4.keep (NRow.new x y w4).2
  have hn5 := NRow.new x y w4
  obtain ⟨c0, c1⟩ := hn5.cells
  have hM := fun W => pMayName_any x y W
  have hT := fun W (hW : Below w.heap.size w W) => pText_good x y W (HG.out.below hW)
  unfold nmV at hM hT
  cases hm : nMay x y with
  | false =>
    rw [hm] at hM
    have HP := Lib.hid (HD.out (.inl hm))
    clear hT hm
    go_wp2_with fail
    refine (hM _).mono ?_
    clear hM c0 c1
    rintro e w6 ⟨rfl, hb6⟩
    have hR6 := hR5.keep hb6
    obtain ⟨a0, a1⟩ := hR6.cells
    have f0 := hR6.frozen 0
    have f1 := hR6.frozen 1
    have HR6 := Lib.hid hR6
    clear hR4 hR5 hn5 hb6 hR6
    go_wp2
    exact bodyPost_ret (nm_result (fn := Tryd.f16) (p := 2) (u := 3) rfl _ _ w.heap.size 0 0 _ rfl rfl (two_set HR6.out.1 0 0)) rfl (PReadPost.no HP.out ((HR6.out.2.setCell (Nat.le_refl _) _).setCell (Nat.le_refl _) _))
  | true =>
    rw [hm] at hM
    have Hm := Lib.hid hm
    clear hm
    go_wp2_with fail
    refine (hM _).mono ?_
    clear hM c0 c1
    rintro e w6 ⟨rfl, hb6⟩
    have hR6 := hR5.keep hb6
    have hn6 := hn5.keep hb6
    obtain ⟨c0, c1⟩ := hn6.cells
    clear hR4 hR5 hn5 hb6
    have hT6 := hT w6 hR6.2
    go_wp2_with fail
    refine hT6.mono ?_
    clear hT hT6 c0 c1
    rintro e w7 ⟨rfl, hb7⟩
    have hR7 := hR6.keep hb7
    have hn7 := hn6.keep hb7
    obtain ⟨a0, a1⟩ := hR7.cells
    obtain ⟨c0, c1⟩ := hn7.cells
    have f0 := hR7.frozen 0
    have f1 := hR7.frozen 1
    have HR7 := Lib.hid hR7
    clear hR6 hn6 hb7 hR7 hn7
    by_cases heq : nText x y = s.data.toList
    · have HE := Lib.hid heq
      have hT : (⟨(nText x y).toArray⟩ : ByteArray) = s := by rw [heq]
      rw [hT]
      have hne : (s.toList == s.toList) = true := by simp
      clear heq hT
      go_wp2
      exact bodyPost_ret (nm_result (fn := Tryd.f16) (p := 2) (u := 3) rfl _ _ w.heap.size x y _ rfl rfl (two_set HR7.out.1 x y)) rfl (PReadPost.yes Hm.out HE.out ((HR7.out.2.setCell (Nat.le_refl _) _).setCell (Nat.le_refl _) _))
    · have HP := Lib.hid (HD.out (.inr heq))
      obtain ⟨TX, hTX⟩ : ∃ TX : ByteArray, TX = ⟨(nText x y).toArray⟩ := ⟨_, rfl⟩
      rw [← hTX]
      have hne : (TX.toList == s.toList) = false := by
        rw [hTX, Lib.toList_data, Lib.toList_data]
        simpa using heq
      have hne2 : ¬ TX.toList = s.toList := by simpa using hne
      clear hTX heq
      go_wp2
      exact bodyPost_ret (nm_result (fn := Tryd.f16) (p := 2) (u := 3) rfl _ _ w.heap.size 0 0 _ rfl rfl (two_set HR7.out.1 0 0)) rfl (PReadPost.no HP.out ((HR7.out.2.setCell (Nat.le_refl _) _).setCell (Nat.le_refl _) _))
end Go.Proofs.YthbophioohcphaaDoor
