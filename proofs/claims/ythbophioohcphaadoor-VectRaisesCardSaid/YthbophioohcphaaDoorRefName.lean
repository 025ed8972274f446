/- The document's names: Read. -/
import Derived.Test.YthbophioohcphaaDoorNamePlain
import Derived.StillTailTactics
import Derived.IntWalk
namespace Go.Proofs.YthbophioohcphaaDoor
open Go.RowKit

/-- What Read tells. -/
def ReadPost (L : List UInt8) (w : World) (e : Ending) (w' : World) : Prop :=
  ((∃ s q, nMay s q = true ∧ nText s q = L ∧ e = .returned (.tuple #[nmV s q, .bool true])) ∨ (noName L ∧ e = .returned (.tuple #[nmV 0 0, .bool false]))) ∧ Below w.heap.size w w'
/-- A name's box, and what lay ahead of it. -/
def NRow (N : Nat) (s q : Int) (w W : World) : Prop := W.heap[N]? = some (.cells #[.int .i64 s, .int .i64 q] 23 (0, 0)) ∧ Below N w W
theorem NRow.cells {N : Nat} {s q : Int} {w W : World} (h : NRow N s q w W) : W.cell? ⟨N, 0, none⟩ = some (.int .i64 s) ∧ W.cell? ⟨N, 1, none⟩ = some (.int .i64 q) := ⟨cell_of_row _ _ 0 _ _ _ h.1, cell_of_row _ _ 1 _ _ _ h.1⟩
theorem NRow.frozen {N : Nat} {s q : Int} {w W : World} (h : NRow N s q w W) (i : Nat) : W.frozen? ⟨N, i, none⟩ = false := frozen_of_row _ _ i _ _ h.1
theorem NRow.set0 {N : Nat} {s q : Int} {w W : World} (h : NRow N s q w W) (x : Int) : NRow N x q w (W.setCell ⟨N, 0, none⟩ (.int .i64 x)) := ⟨heap_setCell_same W N 0 _ _ (Value.int .i64 x) h.1, h.2.setCell (Nat.le_refl _) _⟩
theorem NRow.set1 {N : Nat} {s q : Int} {w W : World} (h : NRow N s q w W) (x : Int) : NRow N s x w (W.setCell ⟨N, 1, none⟩ (.int .i64 x)) := ⟨heap_setCell_same W N 1 _ _ (Value.int .i64 x) h.1, h.2.setCell (Nat.le_refl _) _⟩
theorem NRow.drew {N : Nat} {s q : Int} {w W : World} (h : NRow N s q w W) : NRow N s q w W.drew := ⟨h.1, h.2.drew⟩
theorem NRow.keep {N : Nat} {s q : Int} {w W W' : World} (h : NRow N s q w W) (hb : Below W.heap.size W W') : NRow N s q w W' := by
  have hl : N < W.heap.size := (Array.getElem?_eq_some_iff.1 h.1).1
  exact ⟨(hb.block N hl).trans h.1, h.2.trans (hb.mono (Nat.le_of_lt hl))⟩
theorem infoName : (Tryd.prog.info? 23).map (·.size) = some 2 := by kernel_rfl
theorem nm_result {fn : Func} {p u : Tmp} (hfn : fn.results = #[.cell p 23, .tmp u]) (tmps : Array Value) (W : World) (g : Nat) (s q : Int) (c : Value) (hp : tmps.getD p undef = .pointer (some ⟨g, 0, none⟩)) (hc : tmps.getD u undef = c)
    (hg : W.heap[g]? = some (.cells #[.int .i64 s, .int .i64 q] 23 (0, 0))) : (results fn tmps).run Tryd.prog W = .ok (.tuple #[nmV s q, c]) W := by
  rw [results_cell_tmp hfn, hp, hc]
  have hl := run_loadVar_row (P := Tryd.prog) W g 23 23 #[.int .i64 s, .int .i64 q] (0, 0) _ hg Tryd.underlying23 rfl infoName
  simp [asAddr, Result.andThen, hl, nmV]
theorem two_set {W : World} {g : Nat} {a b : Value} (h : W.heap[g]? = some (.cells #[a, b] 23 (0, 0))) (x y : Int) : ((W.setCell ⟨g, 0, none⟩ (.int .i64 x)).setCell ⟨g, 1, none⟩ (.int .i64 y)).heap[g]? = some (.cells #[.int .i64 x, .int .i64 y] 23 (0, 0)) :=
  heap_setCell_same _ g 1 _ _ (Value.int .i64 y) (heap_setCell_same W g 0 _ _ (Value.int .i64 x) h)
theorem ReadPost.no {L : List UInt8} {w w' : World} (h : noName L) (hb : Below w.heap.size w w') : ReadPost L w (.returned (.tuple #[nmV 0 0, .bool false])) w' := ⟨.inr ⟨h, rfl⟩, hb⟩
theorem ReadPost.yes {L : List UInt8} {s q : Int} {w w' : World} (hm : nMay s q = true) (ht : nText s q = L) (hb : Below w.heap.size w w') : ReadPost L w (.returned (.tuple #[nmV s q, .bool true])) w' := ⟨.inl ⟨s, q, hm, ht, rfl⟩, hb⟩
theorem list_cut (s : ByteArray) (k : Nat) (h : k < s.size) (hd : s[k] = 46) : s.data.toList = s.data.toList.take k ++ (46 :: s.data.toList.drop (k + 1)) := by
  have hk : k < s.data.toList.length := by rw [← Lib.size_eq]; exact h
  have e : s.data.toList.drop k = s.data.toList[k] :: s.data.toList.drop (k + 1) := List.drop_eq_getElem_cons hk
  have e2 : s.data.toList[k] = s[k] := rfl
  rw [e2, hd] at e
  rw [← e, List.take_append_drop]
theorem getD_byte (s : ByteArray) (k : Nat) (h : k < s.size) : s.data.toList.getD k 0 = s[k] := by
  have h' : k < s.data.size := h
  rw [List.getD_eq_getElem?_getD, Array.getElem?_toList, Array.getElem?_eq_getElem h']
  rfl
set_option maxRecDepth 100000 in
set_option maxHeartbeats 8000000 in
theorem rRead_any (s : ByteArray) (w : World) (hs : s.size ≤ 1000000) :
    Calls Tryd.prog 17 #[.string s] w (ReadPost s.data.toList w) := by
  have HS := Lib.hid (Lib.size_eq s)
  have hb2 := below_pair w (.cells #[.int .i64 0, .int .i64 0] 23) (.cells #[.int .i64 0, .int .i64 0] 23)
  have hr0 := heap_alloc2_old w (.cells #[.int .i64 0, .int .i64 0] 23) (.cells #[.int .i64 0, .int .i64 0] 23)
  have hr1 : NRow (w.heap.size + 1) 0 0 (w.alloc (.cells #[.int .i64 0, .int .i64 0] 23)) ((w.alloc (.cells #[.int .i64 0, .int .i64 0] 23)).alloc (.cells #[.int .i64 0, .int .i64 0] 23)) := ⟨heap_alloc2_new w _ _, by
    have h := (Below.refl (w.alloc (.cells #[.int .i64 0, .int .i64 0] 23)).heap.size (w.alloc (.cells #[.int .i64 0, .int .i64 0] 23))).alloc (Nat.le_refl _) (.cells #[.int .i64 0, .int .i64 0] 23)
    simpa using h⟩
  have HB2 := Lib.hid hb2
  have HR0 := Lib.hid hr0
  have HR1 := Lib.hid hr1
  clear hb2 hr0 hr1
  go_enter Tryd.func17, Tryd.ntmps17
  go_wp2
  generalize (w.alloc (.cells #[.int .i64 0, .int .i64 0] 23)).alloc (.cells #[.int .i64 0, .int .i64 0] 23) = w2 at *
  go_loop [5] (fun i => ∃ k : Nat, i = .int .i64 k ∧ k ≤ s.size ∧ ∀ x ∈ s.data.toList.take k, x ≠ 46) (fun i => s.size - (intOf i).toNat)
  case atStart => exact ⟨0, rfl, Nat.zero_le _, fun x hx => by simp at hx⟩
  case round =>
    obtain ⟨k, rfl, hk, hno⟩ := hrel
    have HNO := Lib.hid hno
    clear hno
    by_cases hlt : k < s.size
    · have hik : (k : Int) < (s.size : Int) := by omega
      by_cases hdot : s[k] = 46
      · have hcut := list_cut s k hlt hdot
        have hd46 : (s[k].toNat : Int) = 46 := by rw [hdot]; rfl
        obtain ⟨b, hb⟩ : ∃ b, s.data.toList.drop (k + 1) = b := ⟨_, rfl⟩
        obtain ⟨a, ha⟩ : ∃ a, s.data.toList.take k = a := ⟨_, rfl⟩
        rw [ha, hb] at hcut
        have hal : a.length = k := by rw [← ha, List.length_take, ← HS.out]; omega
        have hbl : b.length + k + 1 = s.size := by rw [← hb, List.length_drop, ← HS.out]; omega
        have HA := Lib.hid ha
        have HBb := Lib.hid hb
        have HCUT := Lib.hid hcut
        have HAL := Lib.hid hal
        have HBL := Lib.hid hbl
        have hNO := HNO.out
        rw [ha] at hNO
        have HNA := Lib.hid hNO
        clear ha hb hcut hal hbl hNO hdot HNO
        by_cases hlen : k ≤ 2 ∧ s.size - k - 1 ≤ 13
        · obtain ⟨hl1, hl2⟩ := hlen
          have hi1 : ¬ (2 : Int) < (k : Int) := by omega
          have hi2 : ¬ (13 : Int) < (s.size : Int) - (k : Int) - 1 := by omega
          go_wp2_with fail
          clear hi1 hi2 hd46 hik
          go_loopw [6] (fun i wr => ∃ j : Nat, i = .int .i64 j ∧ j ≤ k ∧ NRow (w.heap.size + 1) (valF (a.take j)) 0 (w.alloc (.cells #[.int .i64 0, .int .i64 0] 23)) wr) (fun i _ => k - (intOf i).toNat)
          case atStart => exact ⟨0, rfl, Nat.zero_le _, HR1.out⟩
          case round =>
            rename_i wr
            obtain ⟨j, rfl, hj, hrow⟩ := hrel
            by_cases hjl : j < k
            · have hjs : j < s.size := by omega
              obtain ⟨c0, c1⟩ := hrow.cells
              have f0 := hrow.frozen 0
              have hbd := valF_small (l := a.take j) (by rw [List.length_take, HAL.out]; omega)
              have hsn : valF (a.take (j + 1)) = 10 * valF (a.take j) + (s[j].toNat : Int) - 48 := by
                have e : a.take (j + 1) = a.take j ++ [s[j]] := by
                  rw [List.take_succ_eq_append_getElem (by rw [HAL.out]; exact hjl)]
                  congr 2
                  have h1 := getD_byte s j hjs
                  have h2 : s.data.toList.getD j 0 = a.getD j 0 := by
                    rw [← HA.out]
                    simp [List.getD, hjl]
                  rw [← h1, h2, List.getD_eq_getElem?_getD, List.getElem?_eq_getElem (by rw [HAL.out]; exact hjl)]
                  rfl
                rw [e, valF_snoc]
              have HRS := Lib.hid (hrow.set0 (10 * valF (a.take j) + (s[j].toNat : Int) - 48))
              have hyb := s[j].toNat_lt
              have HSN := Lib.hid hsn
              clear hsn hrow
              have hji : (j : Int) < (s.size : Int) := by omega
              generalize hv : valF (a.take j) = v at *
              have hw1 : IntKind.i64.wrap (10 * v) = 10 * v := IntWalk.i64_in _ (by omega)
              have hw2 : IntKind.i64.wrap (10 * v + (s[j].toNat : Int)) = 10 * v + (s[j].toNat : Int) := IntWalk.i64_in _ (by omega)
              have hw3 : IntKind.i64.wrap (10 * v + (s[j].toNat : Int) - 48) = 10 * v + (s[j].toNat : Int) - 48 := IntWalk.i64_in _ (by omega)
              clear hv
              go_wp2_with fail
              go_still_tail 10, (by kernel_rfl)
              change wpList _ _ _ _ _ wr.drew
              go_wp2
              exact ⟨⟨j + 1, by go_num, by omega, by rw [HSN.out]; exact HRS.out.drew⟩, by simp [intOf]; omega⟩
            · obtain rfl : j = k := by omega
              have hra : a.take j = a := List.take_of_length_le (by rw [HAL.out]; exact Nat.le_refl _)
              rw [hra] at hrow
              have HROW := Lib.hid hrow
              clear hra hrow
              go_wp2_with fail
              go_loopw [7] (fun i wr => ∃ c : Nat, i = .int .i64 c ∧ j + 1 ≤ c ∧ c ≤ s.size ∧ NRow (w.heap.size + 1) (valF a) (valF (b.take (c - (j + 1)))) (w.alloc (.cells #[.int .i64 0, .int .i64 0] 23)) wr) (fun i _ => s.size - (intOf i).toNat)
              case atStart => exact ⟨j + 1, by go_num, Nat.le_refl _, by omega, by rw [Nat.sub_self]; exact HROW.out⟩
              case round =>
                rename_i wr
                obtain ⟨c, rfl, hj1, hcs, hrow⟩ := hrel
                by_cases hjl : c < s.size
                · obtain ⟨c0, c1⟩ := hrow.cells
                  have f0 := hrow.frozen 1
                  have hbd := valF_small (l := b.take (c - (j + 1))) (by rw [List.length_take]; have := HBL.out; omega)
                  have hsn : valF (b.take (c + 1 - (j + 1))) = 10 * valF (b.take (c - (j + 1))) + (s[c].toNat : Int) - 48 := by
                    have hbl : c - (j + 1) < b.length := by have := HBL.out; omega
                    have e : b.take (c + 1 - (j + 1)) = b.take (c - (j + 1)) ++ [s[c]] := by
                      rw [show c + 1 - (j + 1) = c - (j + 1) + 1 by omega, List.take_succ_eq_append_getElem hbl]
                      congr 2
                      have h1 := getD_byte s c hjl
                      have h2 : s.data.toList.getD c 0 = b.getD (c - (j + 1)) 0 := by
                        rw [← HBb.out]
                        simp only [List.getD, List.getElem?_drop]
                        congr 2
                        omega
                      rw [← h1, h2, List.getD_eq_getElem?_getD, List.getElem?_eq_getElem hbl]
                      rfl
                    rw [e, valF_snoc]
                  have HRS := Lib.hid (hrow.set1 (10 * valF (b.take (c - (j + 1))) + (s[c].toNat : Int) - 48))
                  have hyb := s[c].toNat_lt
                  have HSN := Lib.hid hsn
                  clear hsn hrow
                  have hji : (c : Int) < (s.size : Int) := by omega
                  generalize hv : valF (b.take (c - (j + 1))) = v at *
                  have hw1 : IntKind.i64.wrap (10 * v) = 10 * v := IntWalk.i64_in _ (by omega)
                  have hw2 : IntKind.i64.wrap (10 * v + (s[c].toNat : Int)) = 10 * v + (s[c].toNat : Int) := IntWalk.i64_in _ (by omega)
                  have hw3 : IntKind.i64.wrap (10 * v + (s[c].toNat : Int) - 48) = 10 * v + (s[c].toNat : Int) - 48 := IntWalk.i64_in _ (by omega)
                  clear hv
                  go_wp2_with fail
                  go_still_tail 10, (by kernel_rfl)
                  change wpList _ _ _ _ _ wr.drew
                  go_wp2
                  exact ⟨⟨c + 1, by go_num, by omega, by omega, by rw [HSN.out]; exact HRS.out.drew⟩, by simp [intOf]; omega⟩
                · obtain rfl : c = s.size := by omega
                  have hrb : b.take (s.size - (j + 1)) = b := List.take_of_length_le (by have := HBL.out; omega)
                  rw [hrb] at hrow
                  have HROW2 := Lib.hid hrow
                  obtain ⟨c0, c1⟩ := hrow.cells
                  have hTx := fun W => rText_any (valF a) (valF b) W
                  unfold nmV at hTx
                  clear hrb hrow HROW
                  go_wp2_with fail
                  refine (hTx _).mono ?_
                  clear hTx
                  rintro e w5 ⟨rfl, hb5⟩
                  have hr5 := HROW2.out.keep hb5
                  obtain ⟨d0, d1⟩ := hr5.cells
                  have hz5 : w5.heap[w.heap.size]? = some (.cells #[.int .i64 0, .int .i64 0] 23 (0, 0)) := (hr5.2.block w.heap.size (Nat.lt_succ_self _)).trans (heap_alloc_new w _)
                  have hb6 : Below w.heap.size w w5 := ((Below.refl w.heap.size w).alloc (Nat.le_refl _) (.cells #[.int .i64 0, .int .i64 0] 23)).trans (hr5.2.mono (Nat.le_succ _))
                  have HZ5 := Lib.hid hz5
                  have HB6 := Lib.hid hb6
                  have a0 : _ = some (Value.int .i64 0) := cell_of_row _ _ 0 _ _ _ hz5
                  have a1 : _ = some (Value.int .i64 0) := cell_of_row _ _ 1 _ _ _ hz5
                  have f0 := frozen_of_row _ _ 0 _ _ hz5
                  have f1 := frozen_of_row _ _ 1 _ _ hz5
                  clear hb5 hr5 hz5 hb6 c0 c1
                  by_cases heq : nText (valF a) (valF b) = s.data.toList
                  · have hmay := name_cut (a := a) (b := b) (by rw [heq]; exact HCUT.out)
                    have HM := Lib.hid hmay
                    have HE := Lib.hid heq
                    have hT : (⟨(nText (valF a) (valF b)).toArray⟩ : ByteArray) = s := by rw [heq]
                    rw [hT]
                    have hne : s.toList.isEmpty = false := by rw [Lib.toList_data, HCUT.out]; cases a <;> rfl
                    have hne2 : ¬ s.toList = [] := by simpa using hne
                    clear hmay heq hT
                    go_wp2
                    exact bodyPost_ret (nm_result (fn := Tryd.f17) (p := 2) (u := 3) rfl _ _ w.heap.size _ _ _ rfl rfl (two_set HZ5.out _ _)) rfl (ReadPost.yes HM.out HE.out ((HB6.out.setCell (Nat.le_refl _) _).setCell (Nat.le_refl _) _))
                  · have hP := Lib.hid (show noName s.data.toList by rw [HCUT.out]; exact noName_cut HNA.out (.inr (by rw [← HCUT.out]; exact heq)))
                    obtain ⟨TX, hTX⟩ : ∃ TX : ByteArray, TX = ⟨(nText (valF a) (valF b)).toArray⟩ := ⟨_, rfl⟩
                    rw [← hTX]
                    have hne : (TX.toList == s.toList) = false := by
                      rw [hTX, Lib.toList_data, Lib.toList_data]
                      simpa using heq
                    have hne2 : ¬ TX.toList = s.toList := by simpa using hne
                    clear hTX heq
                    go_wp2
                    exact bodyPost_ret (nm_result (fn := Tryd.f17) (p := 2) (u := 3) rfl _ _ w.heap.size 0 0 _ rfl rfl (two_set HZ5.out 0 0)) rfl (ReadPost.no hP.out ((HB6.out.setCell (Nat.le_refl _) _).setCell (Nat.le_refl _) _))
        · have hP := Lib.hid (show noName s.data.toList by rw [HCUT.out]; exact noName_cut HNA.out (.inl (by rw [HAL.out]; have := HBL.out; omega)))
          have a0 : _ = some (Value.int .i64 0) := cell_of_row _ _ 0 _ _ _ HR0.out
          have a1 : _ = some (Value.int .i64 0) := cell_of_row _ _ 1 _ _ _ HR0.out
          have f0 := frozen_of_row _ _ 0 _ _ HR0.out
          have f1 := frozen_of_row _ _ 1 _ _ HR0.out
          by_cases hl1 : 2 < k
          · have hi1 : (2 : Int) < (k : Int) := by omega
            go_wp2
            exact bodyPost_ret (nm_result (fn := Tryd.f17) (p := 2) (u := 3) rfl _ _ w.heap.size 0 0 _ rfl rfl (two_set HR0.out 0 0)) rfl (ReadPost.no hP.out ((HB2.out.setCell (Nat.le_refl _) _).setCell (Nat.le_refl _) _))
          · have hi1 : ¬ (2 : Int) < (k : Int) := by omega
            have hi2 : (13 : Int) < (s.size : Int) - (k : Int) - 1 := by omega
            go_wp2
            exact bodyPost_ret (nm_result (fn := Tryd.f17) (p := 2) (u := 3) rfl _ _ w.heap.size 0 0 _ rfl rfl (two_set HR0.out 0 0)) rfl (ReadPost.no hP.out ((HB2.out.setCell (Nat.le_refl _) _).setCell (Nat.le_refl _) _))
      · have hnb : ((s[k].toNat : Int) == 46) = false := by
          simp only [beq_eq_false_iff_ne, ne_eq]
          intro e
          exact hdot (UInt8.toNat_inj.1 (by simp; omega))
        have HN := Lib.hid (show ∀ x ∈ s.data.toList.take (k + 1), x ≠ 46 from fun x hx => by
          rw [List.take_succ_eq_append_getElem (by rw [← HS.out]; exact hlt)] at hx
          rcases List.mem_append.1 hx with g | g
          · exact HNO.out x g
          · simp only [List.mem_singleton] at g
            rw [g]
            exact hdot)
        clear hdot
        go_wp2
        go_round
        case rel => exact ⟨k + 1, by go_num, by omega, HN.out⟩
        case measure => simp [intOf]; omega
    · obtain rfl : k = s.size := by omega
      have hP := Lib.hid (noName_nodot (L := s.data.toList) (by have := HNO.out; rwa [List.take_of_length_le (by rw [← HS.out]; exact Nat.le_refl _)] at this))
      have a0 : _ = some (Value.int .i64 0) := cell_of_row _ _ 0 _ _ _ HR0.out
      have a1 : _ = some (Value.int .i64 0) := cell_of_row _ _ 1 _ _ _ HR0.out
      have f0 := frozen_of_row _ _ 0 _ _ HR0.out
      have f1 := frozen_of_row _ _ 1 _ _ HR0.out
      go_wp2
      exact bodyPost_ret (nm_result (fn := Tryd.f17) (p := 2) (u := 3) rfl _ _ w.heap.size 0 0 _ rfl rfl (two_set HR0.out 0 0)) rfl (ReadPost.no hP.out ((HB2.out.setCell (Nat.le_refl _) _).setCell (Nat.le_refl _) _))
end Go.Proofs.YthbophioohcphaaDoor
