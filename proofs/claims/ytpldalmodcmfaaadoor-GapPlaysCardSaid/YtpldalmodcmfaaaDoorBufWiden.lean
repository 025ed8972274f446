/- A buffer's widen: room for more runes. -/
import Derived.Test.YtpldalmodcmfaaaDoorBuf3
import Derived.Test.YtpldalmodcmfaaaDoorBufMove
import Derived.Laws.OwnMore
namespace Go.Proofs.YtpldalmodcmfaaaDoor
open Go.RowKit Go.WideShapes

set_option maxRecDepth 100000 in
set_option maxHeartbeats 4000000 in
theorem widen_fits {S : Nat → Prop} {N B : Nat} {zs ys : List Int} {w : World} (n : Nat) (gl : Nat) (h : Bf S N gl B zs ys w) (hn : n ≤ gl) (hW : Calls Tryd.prog 32 #[.pointer (some ⟨B, 0, none⟩)] w fun e w' => e = .returned (.int .i64 gl) ∧ ∃ q, w' = w.drewN q) :
    Calls Tryd.prog 44 #[.pointer (some ⟨B, 0, none⟩), .int .i64 n] w fun e w' => e = .returned (.tuple #[]) ∧ Bf S N n B zs ys w' ∧ Keep S N w w' := by
  have h' : Bf S N n B zs ys w := by
    obtain ⟨va, gs, hF, hI, hM, hl, hr⟩ := h
    exact ⟨va, gs, hF, hI, hM, hl, by omega⟩
  have H := Lib.hid h'
  have i1 : (n : Int) ≤ (gl : Int) := by omega
  clear h h'
  go_enter Tryd.func44, Tryd.ntmps44
  go_wp2_with (go_at_call 32; refine hW.mono ?_; clear hW; rintro e _ ⟨rfl, q, rfl⟩)
  (try simp only [Exit.inBlock, Exit.then])
  refine bodyPost_ret (results_none rfl _ _ _) rfl ?_
  exact ⟨rfl, H.out, (Keep.refl _ _ _).drewN _⟩

theorem cell_alloc_keep {w : World} {a : Addr} {v : Value} (o : Obj) (n : Nat) (h : w.cell? a = some v) : ((w.drewN n).alloc o).cell? a = some v := (World.cell?_alloc_lt (w.drewN n) _ _ (World.block_lt_of_cell? w a h)).trans h
/-- copy into a row of the call's own, as a run. -/
theorem copy_run {P : Program} (w : World) (dT sT ty elem : TypeId) (hu : P.underlying dT = some (.slice elem)) (hsz : (P.info? elem).map (·.size) = some 1)
    (dp sp : Option Addr) (dLen dCap sLen sCap : Nat) (v : Value) (n : Nat) (xs : List Value) (hown : w.ownsRow 0 elem 1 v n xs) (off : Nat) (cs : List Value) (hn : cs.length = Nat.min sLen dLen) (hfit : off + cs.length ≤ n)
    (hpos : 0 < cs.length → (∀ g cap, v = .slice (some ⟨g, 0, none⟩) n cap → dp = some ⟨g, off, none⟩) ∧ ∃ ad, sp = some ad ∧ ∀ j x, cs[j]? = some x → w.cell? (ad.add j) = some x) (h1 : ∀ x ∈ cs, x.oneCell' = true) :
    ∃ w', (Builtin.copy_ #[dT, sT] ty #[.slice dp dLen dCap, .slice sp sLen sCap]).run P w = .ok (goInt cs.length) w' ∧ w'.ownsRow 0 elem 1 v n (splice xs off cs) ∧ w.grownBy w' v.ownBlock := by
  have hxl : xs.length = n := by simpa using hown.1
  by_cases h0 : cs.length = 0
  · obtain rfl : cs = [] := List.eq_nil_of_length_eq_zero h0
    exact ⟨w, run_copy_none (P := P) w dT sT ty elem dp sp dLen dCap sLen sCap hu hsz (by simpa using hn.symm), by rw [show splice xs off [] = xs by simp [splice]]; exact hown, ⟨rfl, rfl, rfl, Nat.le_refl _, fun _ _ _ => rfl⟩⟩
  · obtain ⟨hdp, ad, rfl, hsrc⟩ := hpos (by omega)
    rcases hown.2 with ⟨rfl, rfl⟩ | ⟨g, cap, cur, rfl, _, hg, hnc, hcm, hcs, htake⟩
    · omega
    · obtain rfl := hdp g cap rfl
      refine ⟨_, run_copy_row (P := P) w dT sT ty elem g off dLen dCap ad sLen sCap cur elem cs hu hsz hg hn hsrc (by omega) h1, ⟨?_, .inr ⟨g, cap, _, rfl, Nat.zero_le _, setRow_heap w g cur _ elem _ hg, hnc, hcm, ?_, ?_⟩⟩, ⟨rfl, rfl, rfl, by simp, fun k _ hk => setRow_other w g k _ (fun e => hk (by simp [Value.ownBlock, e]))⟩⟩
      · rw [length_splice _ _ _ (by omega), Nat.mul_one, hxl]
      · simp only [List.size_toArray, List.length_append, List.length_take, List.length_drop, Array.length_toList]
        omega
      · simp only [Nat.mul_one] at htake ⊢
        subst htake
        unfold splice
        have e1 : (cur.toList.take off).length = off := by rw [List.length_take, Array.length_toList]; omega
        rw [List.append_assoc, List.take_append, List.take_append, List.take_of_length_le (l := List.take off cur.toList) (by rw [e1]; omega), e1, List.take_take, Nat.min_eq_left (by omega)]
        congr 1
        rw [List.take_of_length_le (l := cs) (by omega), List.drop_take]
        congr 2
        omega
def zeros (M : Nat) : Array Value := madeCells #[.int .i32 0] M
theorem zeros_toList (M : Nat) : (zeros M).toList = (List.replicate M (0 : Int)).map (Value.int .i32) := by
  unfold zeros; rw [toList_madeCells_one]; simp
theorem zeros_ints (w : World) (M : Nat) (hM : M ≤ maxLen) : Ints (w.alloc (.cells (zeros M) 21)) 21 .i32 (.slice (some ⟨w.heap.size, 0, none⟩) M M) (List.replicate M 0) := by
  have h := World.ownsRow_lit (base := 0) (e := 21) (size := 1) w (zeros M) M (Nat.zero_le _) hM (by unfold zeros; rw [size_madeCells]; omega)
  rw [zeros_toList] at h
  unfold Ints
  rw [List.length_replicate]
  exact h
theorem infoI32C : (Tryd.prog.info? 21).map (fun i => (i.zero, i.size, i.bytes)) = some (some (.int .i32 0), 1, 4) := by kernel_rfl
theorem run_make32 (M : Nat) (hM : M ≤ 20000) (E : Int) (hE : E = M) (W : World) : (Instr.makeSlice 29 (.int .i64 E) (.int .i64 E)).run Tryd.prog W = .ok (.slice (some ⟨W.heap.size, 0, none⟩) M M) (W.alloc (.cells (zeros M) 21)) := by
  obtain ⟨i0, hi, hz0, hz1, hz2⟩ := info_parts infoI32C
  subst hE
  have h := run_make (P := Tryd.prog) W 29 21 i0 (.int .i32 0) Tryd.underlying29 hi hz0 .i64 .i64 M M (by omega) (Int.le_refl _) (by rw [hz2]; omega) (by omega)
  rw [Int.toNat_natCast, hz1, Nat.mul_one] at h
  exact h

theorem Reads32.newer {w wa w' : World} {v : Value} {xs : List Int} (r : Reads32 w v xs) (hb : Below w.heap.size w wa) (hg : wa.grownBy w' (some w.heap.size)) : Reads32 w' v xs := by
  obtain ⟨ao, cap, rfl, h2⟩ := r
  refine ⟨ao, cap, rfl, fun hx => ?_⟩
  obtain ⟨b, off, rfl, hc⟩ := h2 hx
  refine ⟨b, off, rfl, fun i hi => ?_⟩
  have hlt := block_lt_of_cell (hc i hi)
  have h1 : wa.cell? ⟨b, off + i, none⟩ = some (.int .i32 (xs.getD i 0)) := (hb.cell (p := ⟨b, off + i, none⟩) hlt).trans (hc i hi)
  exact hg.cell h1 (by intro e; cases e; exact absurd hlt (Nat.lt_irrefl _))
theorem Reads32.box {S : Nat → Prop} {N B : Nat} {a0 : Value} {a1 a2 : Int} {ah bh : List Int} {w : World} {c0 : Option Addr} {l0 p0 : Nat} (ha : a0 = .slice c0 l0 p0) (hF : Fs S N B a0 (.int .i64 a1) (.int .i64 a2) ah bh w) {v : Value} {xs : List Int} (r : Reads32 w v xs) (o : Nat) (u : Value) : Reads32 (w.setCell ⟨B, o, none⟩ u) v xs := by
  obtain ⟨ao, cap, rfl, h2⟩ := r
  refine ⟨ao, cap, rfl, fun hx => ?_⟩
  obtain ⟨b, off, rfl, hc⟩ := h2 hx
  refine ⟨b, off, rfl, fun i hi => ?_⟩
  have h1 := hc i hi
  have hne : b ≠ B := by
    rintro rfl
    obtain ⟨v3, v4, hB, h3, h4, _⟩ := hF
    obtain ⟨_, _, rfl, _⟩ := h3.shape
    obtain ⟨_, _, rfl, _⟩ := h4.shape
    subst ha
    rw [box_cell hB] at h1
    match hq : off + i with
    | 0 => rw [hq] at h1; simp at h1
    | 1 => rw [hq] at h1; simp at h1
    | 2 => rw [hq] at h1; simp at h1
    | 3 => rw [hq] at h1; simp at h1
    | 4 => rw [hq] at h1; simp at h1
    | k + 5 => rw [hq] at h1; simp at h1
  rw [World.cell?_of_block (w := w) (w' := w.setCell ⟨B, o, none⟩ u) (box_other hne o u)]
  exact h1

theorem Reads32.cells {w : World} {ao : Option Addr} {p : Nat} {xs : List Int} (r : Reads32 w (.slice ao xs.length p) xs) : 0 < (xs.map (Value.int .i32)).length → ∃ ad, ao = some ad ∧ ∀ j x, (xs.map (Value.int .i32))[j]? = some x → w.cell? (ad.add j) = some x := by
  intro h
  obtain ⟨ao', c', hv, h2⟩ := r
  cases hv
  obtain ⟨b, off, rfl, hc⟩ := h2 (by intro e; subst e; simp at h)
  refine ⟨_, rfl, fun j x hj => ?_⟩
  have hjl : j < xs.length := by
    rcases Nat.lt_or_ge j xs.length with h' | h'
    · exact h'
    · rw [List.getElem?_eq_none (by rw [List.length_map]; exact h')] at hj; cases hj
  rw [add_plain, hc j hjl, ← hj, map_getD _ _ hjl]
theorem widen_list (Z zs ys : List Int) (M : Nat) (hZ : Z.length = M) (h : zs.length + ys.length ≤ M) :
    splice (splice Z 0 zs) (M - ys.length) ys = zs ++ ((Z.drop zs.length).take (M - ys.length - zs.length) ++ ys) := by
  have e1 : splice Z 0 zs = zs ++ Z.drop zs.length := by simp [splice]
  rw [e1]
  unfold splice
  have e2 : (zs ++ Z.drop zs.length).drop (M - ys.length + ys.length) = [] := by
    rw [List.drop_eq_nil_iff, List.length_append, List.length_drop]; omega
  rw [e2, List.append_nil, List.take_append, List.take_of_length_le (by omega), List.append_assoc]

theorem widen_end {S : Nat → Prop} {N B n k M : Nat} {va : Value} {t : Int} {zs ys gs' : List Int} {w w4 : World} (hF : Fs S N B va (.int .i64 zs.length) (.int .i64 t) (lfs 0 zs) (bks ys) w4) (hI : Ints w4 21 .i32 (.slice (some ⟨k, 0, none⟩) M M) (zs ++ (gs' ++ ys))) (hk : N ≤ k) (hK : Keep S N w w4) (hl : zs.length + gs'.length + ys.length ≤ 20000) (hr : n ≤ gs'.length) (ht : t = (zs.length + gs'.length : Nat)) :
    Bf S N n B zs ys (w4.setCell ⟨B, 0, none⟩ (.slice (some ⟨k, 0, none⟩) M M)) ∧ Keep S N w (w4.setCell ⟨B, 0, none⟩ (.slice (some ⟨k, 0, none⟩) M M)) := by
  subst ht
  exact ⟨⟨_, gs', hF.set 0 _ (by omega), hF.arr hI 0 _, fun g hg => by cases hg; exact .inr hk, hl, hr⟩, hK.setCell hF.mem.1 _⟩

set_option maxRecDepth 100000 in
set_option maxHeartbeats 4000000 in
theorem widen_grows {S : Nat → Prop} {N B : Nat} {zs ys : List Int} {w : World} (n : Nat) (h : Bf S N 0 B zs ys w) (hn : zs.length + ys.length + n ≤ 20000) (gl : Nat) (hgl : gl < n) (hW : Calls Tryd.prog 32 #[.pointer (some ⟨B, 0, none⟩)] w fun e w' => e = .returned (.int .i64 gl) ∧ ∃ q, w' = w.drewN q)
    (L cap : Nat) (ao : Option Addr) (h0 : w.cell? ⟨B, 0, none⟩ = some (.slice ao L cap)) (hL : L ≤ 20000) :
    Calls Tryd.prog 44 #[.pointer (some ⟨B, 0, none⟩), .int .i64 n] w fun e w' => e = .returned (.tuple #[]) ∧ Bf S N n B zs ys w' ∧ Keep S N w w' := by
  have hLen := fun q => blen_any (h.drewN q)
  have hP := fun q => parts_any (h.drewN q) 0 (zs.length + ys.length) (by omega)
  unfold PartsPost at hP
  simp only [List.drop_zero, Nat.zero_sub, Nat.sub_zero] at hP
  have t1 : zs.take (zs.length + ys.length) = zs := List.take_of_length_le (by omega)
  have t2 : ys.take (zs.length + ys.length - zs.length) = ys := List.take_of_length_le (by omega)
  rw [t1, t2] at hP
  have i1 : ¬ ((n : Int) ≤ (gl : Int)) := by omega
  obtain ⟨m, hm⟩ : ∃ m, zs.length + ys.length = m := ⟨_, rfl⟩
  simp only [hm] at hP hLen
  have Hm := Lib.hid hm
  rw [hm] at hn
  have H := Lib.hid h
  obtain ⟨M, hM⟩ : ∃ M, min (max (2 * L) (m + n)) 20000 = M := ⟨_, rfl⟩
  have hM1 : m + n ≤ M := by omega
  have hM2 : M ≤ 20000 := by omega
  have hmk := run_make32 M hM2 (min (max (IntKind.i64.wrap (2 * (L : Int))) (IntKind.i64.wrap ((m : Int) + (n : Int)))) 20000) (by
    rw [IntWalk.i64_in (2 * (L : Int)) (by omega), IntWalk.i64_in ((m : Int) + (n : Int)) (by omega)]; omega)
  clear t1 t2 hm h hM
  go_enter Tryd.func44, Tryd.ntmps44
  go_wp2_with (first
    | (go_at_call 32; refine hW.mono ?_; clear hW; rintro e _ ⟨rfl, q, rfl⟩)
    | (go_at_call 14; refine (hLen _).mono ?_; rintro e _ ⟨rfl, q, rfl⟩)
    | (go_at_call 49; refine (hP _).mono ?_; clear hP; rintro e _ ⟨v1, v2, rfl, ⟨q3, rfl⟩, r1, r2⟩))
  go_region_held (fun W => W.cell? ⟨B, 0, none⟩ = some (.slice ao L cap)) (first | exact h0 | assumption | exact cell_alloc_keep _ _ h0) (first | (go_at_call 14; refine (hLen _).mono ?_; rintro e _ ⟨rfl, q, rfl⟩))
  rename_i hHeld
  clear hHeld
  have r1' : Reads32 w v1 zs := r1
  have r2' : Reads32 w v2 ys := r2
  clear r1 r2 hLen hmk
  obtain ⟨va, gs, hF, hI, hMi, hl, hr⟩ := H.out
  obtain ⟨b0, _, _, _⟩ := hF.box
  obtain rfl : va = .slice ao L cap := Option.some.inj (b0.symm.trans h0)
  obtain ⟨hSB, hN, _⟩ := hF.mem
  generalize hwq : w.drewN _ = wb
  have hsz : wb.heap.size = w.heap.size := by rw [← hwq]; rfl
  have hb : Below w.heap.size w (wb.alloc (.cells (zeros M) 21)) := by
    rw [← hwq]; exact (below_drewN (Below.refl _ w) _).alloc (Nat.le_refl _) _
  have hIz : Ints (wb.alloc (.cells (zeros M) 21)) 21 .i32 (.slice (some ⟨w.heap.size, 0, none⟩) M M) (List.replicate M 0) := by
    rw [← hsz]; exact zeros_ints wb M (by unfold maxLen; omega)
  have hFa := hF.fresh hb
  have hKa : Keep S N w (wb.alloc (.cells (zeros M) 21)) := Keep.of_below hb hN
  have hNa : N ≤ (wb.alloc (.cells (zeros M) 21)).heap.size := hFa.mem.2.1
  generalize wb.alloc (.cells (zeros M) 21) = wa at hb hIz hFa hKa hNa ⊢
  clear hwq hsz wb b0 hI hF hr hl
  obtain ⟨a1, p1, hv1, hr1⟩ := r1'
  obtain ⟨a2, p2, hv2, hr2⟩ := id r2'
  subst hv1
  subst hv2
  have ra : Reads32 wa (.slice a1 zs.length p1) zs := Reads32.below (W := w) ⟨a1, p1, rfl, hr1⟩ hb
  obtain ⟨f, hf⟩ : ∃ f, zs.length = f := ⟨_, rfl⟩
  obtain ⟨y, hy⟩ : ∃ y, ys.length = y := ⟨_, rfl⟩
  have hfy : f + y = m := by rw [← Hm.out, hf, hy]
  have rz := Reads32.cells ra
  have cone1 : ∀ x ∈ zs.map (Value.int .i32), x.oneCell' = true := by intro x hx; obtain ⟨z, _, rfl⟩ := List.mem_map.1 hx; rfl
  have cone2 : ∀ x ∈ ys.map (Value.int .i32), x.oneCell' = true := by intro x hx; obtain ⟨z, _, rfl⟩ := List.mem_map.1 hx; rfl
  have cn1 : (zs.map (Value.int .i32)).length = Nat.min zs.length M := by rw [List.length_map]; show _ = min _ _; omega
  have cf1 : 0 + (zs.map (Value.int .i32)).length ≤ (List.replicate M (0 : Int)).length := by rw [List.length_map, List.length_replicate]; omega
  have cn2 : (ys.map (Value.int .i32)).length = Nat.min ys.length (M - (M - ys.length)) := by rw [List.length_map]; show _ = min _ _; omega
  have Ra := Lib.hid ra
  have R2 := Lib.hid r2'
  have HF := Lib.hid hFa
  have HIz := Lib.hid hIz
  have HKa := Lib.hid hKa
  have HNa := Lib.hid hNa
  have Hb := Lib.hid hb
  have HMi := Lib.hid hMi
  have Cn1 := Lib.hid cn1
  have Cf1 := Lib.hid cf1
  have Cn2 := Lib.hid cn2
  have Rz := Lib.hid rz
  have k1 : (0 : Int) ≤ (M : Int) - (ys.length : Int) := by omega
  have k2 : (M : Int) - (ys.length : Int) ≤ (M : Int) := by omega
  have tn : ((M : Int) - (ys.length : Int)).toNat = M - ys.length := by omega
  have kk : IntKind.i64.wrap ((M : Int) - (ys.length : Int)) = (M : Int) - (ys.length : Int) := IntWalk.i64_in _ (by omega)
  clear ra r2' hFa hIz hKa hNa hb hMi cn1 cf1 cn2 rz hr1 hr2 hf hy hfy
  have cp1 : 0 < (zs.map (Value.int .i32)).length → (∀ g' cap', Value.slice (some ⟨w.heap.size, 0, none⟩) M M = .slice (some ⟨g', 0, none⟩) (List.replicate M (0 : Int)).length cap' → some (⟨w.heap.size, 0, none⟩ : Addr) = some ⟨g', 0, none⟩) ∧ ∃ ad, a1 = some ad ∧ ∀ j x, (zs.map (Value.int .i32))[j]? = some x → wa.cell? (ad.add j) = some x :=
    fun hc0 => ⟨fun g' cap' e => by simp only [Value.slice.injEq] at e; exact e.1, Rz.out hc0⟩
  have Cp1 := Lib.hid cp1
  clear cp1
  have Co1 := Lib.hid cone1
  have Co2 := Lib.hid cone2
  clear cone1 cone2
  obtain ⟨w2, hrun, hH2, hg2⟩ := copy_run (P := Tryd.prog) wa 29 29 3 21 Tryd.underlying29 infoI32B (some ⟨w.heap.size, 0, none⟩) a1 M M zs.length p1 _ _ _ HIz.out 0 (zs.map (Value.int .i32)) Cn1.out Cf1.out Cp1.out Co1.out
  have hI2 : Ints w2 21 .i32 (.slice (some ⟨w.heap.size, 0, none⟩) M M) (splice (List.replicate M 0) 0 zs) := ints_splice hH2 (by have := Cf1.out; rw [List.length_map] at this; exact this) rfl
  have hF2 := HF.out.grown HIz.out hg2
  have f2 := hF2.box.2.2.2 2
  have c2 := hF2.box.2.2.1
  have hK2 : Keep S N w w2 := HKa.out.grown hg2 HNa.out (fun g hg => by cases hg; exact .inr hN)
  have hN2 : N ≤ w2.heap.size := hF2.mem.2.1
  have hI3 := hF2.arr hI2 2 (.int .i64 ((M : Int) - (ys.length : Int)))
  have hF3 := hF2.set 2 (.int .i64 ((M : Int) - (ys.length : Int))) (by omega)
  have hR3 : Reads32 (w2.setCell ⟨B, 2, none⟩ (.int .i64 ((M : Int) - (ys.length : Int)))) (.slice a2 ys.length p2) ys := Reads32.box rfl hF2 (R2.out.newer Hb.out hg2) 2 _
  have hl2 : (splice (List.replicate M (0 : Int)) 0 zs).length = M := by rw [length_splice _ _ _ (by have := Cf1.out; rw [List.length_map] at this; exact this), List.length_replicate]
  by_cases hy0 : ys.length = 0
  · obtain rfl : ys = [] := List.eq_nil_of_length_eq_zero hy0
    have hF5 := hF2.set 2 (.int .i64 (M : Int)) (by omega)
    have hI5 := hF2.arr hI2 2 (.int .i64 (M : Int))
    have f4 := hF5.box.2.2.2 0
    have c4 := hF5.box.1
    have hK5 : Keep S N w (w2.setCell ⟨B, 2, none⟩ (.int .i64 (M : Int))) := hK2.setCell hSB _
    have hsp : splice (List.replicate M (0 : Int)) 0 zs = zs ++ (((List.replicate M (0 : Int)).drop zs.length) ++ []) := by simp [splice]
    rw [hsp] at hI5
    have HI5 := Lib.hid hI5
    have HF5 := Lib.hid hF5
    have HK5 := Lib.hid hK5
    have Hrun := Lib.hid hrun
    have j1 : IntKind.i64.wrap (M : Int) = M := IntWalk.i64_in _ (by omega)
    clear hI2 hF2 hg2 hH2 hrun hI5 hF5 hK5 hI3 hF3 hR3 hl2 hK2 hN2 hsp k1 k2 tn kk hy0
    go_wp2_with fail
    rw [Hrun.out]
    simp only [Result.andThen]
    rw [Oper.upon_value]
    go_wp2_with fail
    rw [run_copy_none _ _ _ _ 21 _ _ _ _ _ _ Tryd.underlying29 infoI32B rfl]
    simp only [Result.andThen]
    rw [Oper.upon_value]
    go_wp2_with fail
    go_end0
    have hm := Hm.out
    rw [List.length_nil] at hm
    exact ⟨rfl, widen_end HF5.out HI5.out hN HK5.out (by simp only [List.length_nil, List.length_drop, List.length_replicate]; omega) (by simp only [List.length_drop, List.length_replicate]; omega) (by simp only [List.length_drop, List.length_replicate]; omega)⟩
  · have hne : ¬ (M = M - ys.length) := by omega
    obtain ⟨w4, hrun4, hH4, hg4⟩ := copy_run (P := Tryd.prog) _ 29 29 3 21 Tryd.underlying29 infoI32B (some ⟨w.heap.size, M - ys.length, none⟩) a2 (M - (M - ys.length)) (M - (M - ys.length)) ys.length p2 _ _ _ hI3 (M - ys.length) (ys.map (Value.int .i32)) Cn2.out (by rw [hl2, List.length_map]; omega) (fun hc => ⟨fun g' cap' e => by simp only [Value.slice.injEq, Option.some.injEq, Addr.mk.injEq] at e; rw [e.1.1], Reads32.cells hR3 hc⟩) Co2.out
    have hI4 : Ints w4 21 .i32 (.slice (some ⟨w.heap.size, 0, none⟩) M M) (splice (splice (List.replicate M 0) 0 zs) (M - ys.length) ys) := ints_splice hH4 (by rw [hl2]; omega) rfl
    have hF4 := hF3.grown hI3 hg4
    have f4 := hF4.box.2.2.2 0
    have c4 := hF4.box.1
    have hK4 : Keep S N w w4 := (hK2.setCell hSB _).grown hg4 (by rw [World.size_setCell]; exact hN2) (fun g hg => by cases hg; exact .inr hN)
    have HI4 := Lib.hid hI4
    have HF4 := Lib.hid hF4
    have HK4 := Lib.hid hK4
    have Hrun := Lib.hid hrun
    have Hrun4 := Lib.hid hrun4
    clear hI2 hF2 hg2 hH2 hrun hI4 hF4 hK4 hrun4 hH4 hg4 hI3 hF3 hR3 hl2 hK2 hN2
    go_wp2_with fail
    rw [Hrun.out]
    simp only [Result.andThen]
    rw [Oper.upon_value]
    go_wp2_with fail
    rw [Hrun4.out]
    simp only [Result.andThen]
    rw [Oper.upon_value]
    go_wp2_with fail
    go_end0
    exact ⟨rfl, widen_end HF4.out (by rw [widen_list _ zs ys M (List.length_replicate ..) (by rw [Hm.out]; omega)] at HI4; exact HI4.out) hN HK4.out (by simp only [List.length_take, List.length_drop, List.length_replicate]; have := Hm.out; omega) (by simp only [List.length_take, List.length_drop, List.length_replicate]; have := Hm.out; omega) (by simp only [List.length_take, List.length_drop, List.length_replicate]; have := Hm.out; omega)⟩
theorem widen_any {S : Nat → Prop} {N r B : Nat} {zs ys : List Int} {w : World} (n : Nat) (h : Bf S N r B zs ys w) (hn : zs.length + ys.length + n ≤ 20000) :
    Calls Tryd.prog 44 #[.pointer (some ⟨B, 0, none⟩), .int .i64 n] w fun e w' => e = .returned (.tuple #[]) ∧ Bf S N n B zs ys w' ∧ Keep S N w w' := by
  obtain ⟨va, gs, hF, hI, hM, hl, hr⟩ := h
  have h0 : Bf S N gs.length B zs ys w := ⟨va, gs, hF, hI, hM, hl, Nat.le_refl _⟩
  obtain ⟨c0, c1, c2, _⟩ := hF.box
  obtain ⟨ao, cap, rfl, _⟩ := hI.shape
  have hW := width_at c1 c2 (by omega)
  by_cases hle : n ≤ gs.length
  · exact widen_fits n gs.length h0 hle hW
  · exact widen_grows n ⟨_, gs, hF, hI, hM, hl, Nat.zero_le _⟩ hn gs.length (by omega) hW _ _ _ c0 (by simp only [List.length_append]; omega)
end Go.Proofs.YtpldalmodcmfaaaDoor
