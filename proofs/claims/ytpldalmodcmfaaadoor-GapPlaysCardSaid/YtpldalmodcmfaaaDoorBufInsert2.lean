/- A buffer's Insert, where it goes in. -/
import Derived.Test.YtpldalmodcmfaaaDoorBufInsert
import Derived.Deep.RegionLaw
import Derived.Deep.CutRange
import Derived.Deep.DeepCutAuto
namespace Go.Proofs.YtpldalmodcmfaaaDoor
open Go.RowKit Go.WideShapes

/-- copy into a row of the call's own, as one step of a region that draws its order. -/
theorem step_copy_row {P : Program} {ops : Array Oper} {o : Oper} {a : Act} {w : World} {K : Act → World → Prop} {Q : Exit → Act → World → Prop} {E : Prop} (hgd : o.guard = none) (d s : Operand) (dT sT : TypeId)
    (ho : o.op = .call { callee := .builtin .copy, args := #[d, s], argTypes := #[dT, sT] }) (elem : TypeId) (hu : P.underlying dT = some (.slice elem)) (hsz : (P.info? elem).map (·.size) = some 1)
    (dp sp : Option Addr) (dLen dCap sLen sCap : Nat) (hd : a.eval d = .slice dp dLen dCap) (hs : a.eval s = .slice sp sLen sCap) (v : Value) (n : Nat) (xs : List Value) (hown : w.ownsRow 0 elem 1 v n xs) (off : Nat) (cs : List Value) (hn : cs.length = Nat.min sLen dLen) (hfit : off + cs.length ≤ n)
    (hpos : 0 < cs.length → (∀ g cap, v = .slice (some ⟨g, 0, none⟩) n cap → dp = some ⟨g, off, none⟩) ∧ ∃ ad, sp = some ad ∧ ∀ j x, cs[j]? = some x → w.cell? (ad.add j) = some x) (h1 : ∀ x ∈ cs, x.oneCell' = true)
    (h : ∀ w', w'.ownsRow 0 elem 1 v n (splice xs off cs) → w.grownBy w' v.ownBlock → K (a.put o.dst (goInt cs.length)) w') :
    if Region.wanted o (yielded ops a.tmps) = true then Oper.wp P o a w K Q else E := by
  have hw : Region.wanted o (yielded ops a.tmps) = true := by simp [Region.wanted, hgd]
  rw [if_pos hw]
  obtain ⟨w', hrun, h2, h3⟩ := copy_run (P := P) w dT sT o.type elem hu hsz dp sp dLen dCap sLen sCap v n xs hown off cs hn hfit hpos h1
  unfold Oper.wp
  simp [execOp, ho, resolve, invoke, builtin, hd, hs, hrun, Result.andThen]
  exact h w' h2 h3

theorem ints_zero {w : World} {base : Nat} {e : TypeId} {k : IntKind} {v : Value} {xs : List Int} (h : w.ownsRow base e 1 v xs.length (xs.map (Value.int k))) : Ints w e k v xs :=
  ⟨h.1, h.2.imp id fun ⟨g, cap, cur, h1, _, h2⟩ => ⟨g, cap, cur, h1, Nat.zero_le _, h2⟩⟩

theorem ins_list (X1 gs X2 l : List Int) (h : l.length ≤ gs.length) : splice (X1 ++ (gs ++ X2)) X1.length l = X1 ++ (l ++ (gs.drop l.length ++ X2)) := by
  unfold splice
  rw [List.take_left, ← List.drop_drop, List.drop_left, List.drop_append_of_le_length h]
/-- What holds where the text has been laid into the gap, ahead of its line feeds. -/
def InsMid (S : Nat → Prop) (N B a G : Nat) (lo : Option Addr) (l : List Int) (lc g cap : Nat) (X1 gs X2 : List Int) (w2 W : World) : Prop :=
  Fs (Out S N (Value.slice lo l.length lc).ownBlock) w2.heap.size B (.slice (some ⟨g, 0, none⟩) (X1 ++ (gs ++ X2)).length cap) (.int .i64 ((a : Int) + (l.length : Int))) (.int .i64 (a + G : Nat)) (lfs 0 X1) (bks X2) W ∧
    Ints W 21 .i32 (.slice (some ⟨g, 0, none⟩) (X1 ++ (gs ++ X2)).length cap) (X1 ++ (l ++ (gs.drop l.length ++ X2))) ∧ Keep (Out S N (Value.slice lo l.length lc).ownBlock) w2.heap.size w2 W
theorem ins_mid {S : Nat → Prop} {N B a G : Nat} {lo : Option Addr} {l : List Int} {lc g cap : Nat} {X1 gs X2 : List Int} {w2 w4 w5 : World}
    (hF : Fs (Out S N (Value.slice lo l.length lc).ownBlock) w2.heap.size B (.slice (some ⟨g, 0, none⟩) (X1 ++ (gs ++ X2)).length cap) (.int .i64 X1.length) (.int .i64 (X1.length + gs.length : Nat)) (lfs 0 X1) (bks X2) w4)
    (hI : Ints w4 21 .i32 (.slice (some ⟨g, 0, none⟩) (X1 ++ (gs ++ X2)).length cap) (X1 ++ (gs ++ X2))) (hM : Mine (Out S N (Value.slice lo l.length lc).ownBlock) w2.heap.size (.slice (some ⟨g, 0, none⟩) (X1 ++ (gs ++ X2)).length cap))
    (hg : w4.grownBy w5 (Value.slice (some ⟨g, 0, none⟩) (X1 ++ (gs ++ X2)).length cap).ownBlock)
    (hH : w5.ownsRow 0 21 1 (.slice (some ⟨g, 0, none⟩) (X1 ++ (gs ++ X2)).length cap) (X1 ++ (gs ++ X2)).length (splice ((X1 ++ (gs ++ X2)).map (Value.int .i32)) a (l.map (Value.int .i32))))
    (hfit : a + l.length ≤ (X1 ++ (gs ++ X2)).length) (hl1 : X1.length = a) (hG : gs.length = G) (hr : l.length ≤ gs.length) (hK : Keep (Out S N (Value.slice lo l.length lc).ownBlock) w2.heap.size w2 w4) (hN : w2.heap.size ≤ w4.heap.size) :
    InsMid S N B a G lo l lc g cap X1 gs X2 w2 (w5.setCell ⟨B, 1, none⟩ (.int .i64 ((a : Int) + (l.length : Int)))) := by
  have hF5 := hF.grown hI hg
  have hI5 : Ints w5 21 .i32 (.slice (some ⟨g, 0, none⟩) (X1 ++ (gs ++ X2)).length cap) (X1 ++ (l ++ (gs.drop l.length ++ X2))) := ints_splice hH hfit (by rw [← hl1]; exact ins_list X1 gs X2 l hr)
  have hF6 := hF5.set 1 (.int .i64 ((a : Int) + (l.length : Int))) (by omega)
  rw [hl1, hG] at hF6
  exact ⟨hF6, hF5.arr hI5 1 _, (hK.grown hg hN hM).setCell hF5.mem.1 _⟩

set_option maxRecDepth 100000 in
set_option maxHeartbeats 8000000 in
theorem binsert_ok {S : Nat → Prop} {N B : Nat} {zs ys : List Int} {w : World} (h : Bf S N 0 B zs ys w) (a : Nat) (s : ByteArray) (hs : s.size ≤ 1000000) (hT : Lib.Utf8Tabs 0 1 w) (l : List Int) (hr : runesL s.data.toList = some l) (ha : a ≤ zs.length + ys.length) (hfit : zs.length + ys.length + l.length ≤ 20000) :
    Calls Tryd.prog 26 #[.pointer (some ⟨B, 0, none⟩), .int .i64 a, .string s] w (InsPost S N B ((zs ++ ys).take a ++ (l ++ (zs ++ ys).drop a), 0) w) := by
  have hL := len_any s (by unfold maxLen; omega) w hT
  rw [lenL_some hr] at hL
  have hH : ∀ w1, Below w.heap.size w w1 → _ := fun w1 hb => has_any (h.fresh hb) a 0
  have hf : hasB (zs.length + ys.length) a 0 = true := decide_eq_true ⟨by omega, by omega, by omega, by omega⟩
  rw [hf] at hH
  have hLen : ∀ w1, Below w.heap.size w w1 → ∀ q, _ := fun w1 hb q => blen_any ((h.fresh hb).drewN q)
  have hSp : ∀ w1, Below w.heap.size w w1 → ∀ q, _ := fun w1 hb q => split_some s hs (w1.drewN q) (Utf8Tabs_below hT (below_drewN hb q)) l hr
  have hbf : ∀ w1, Below w.heap.size w w1 → ∀ q, Bf S N 0 B zs ys (w1.drewN q) := fun w1 hb q => (h.fresh hb).drewN q
  have hle := h.le
  have hNw := h.mem
  obtain ⟨m, hm⟩ : ∃ m, zs.length + ys.length = m := ⟨_, rfl⟩
  simp only [hm] at hLen
  have Hm := Lib.hid hm
  have Hbf := Lib.hid hbf
  have HSp := Lib.hid hSp
  have hn0 : ¬ ((l.length : Int) < 0) := by omega
  have hg : ¬ ((20000 : Int) - (m : Int) < (l.length : Int)) := by omega
  clear h hT hr hs hf hm hbf hSp
  go_enter Tryd.func26, Tryd.ntmps26
  go_wp2_with (first
    | (go_at_call 42; refine hL.mono ?_; clear hL; rintro e w1 ⟨rfl, hb⟩)
    | (go_at_call 38; refine (hH _ hb).mono ?_; clear hH; rintro e _ ⟨rfl, q, rfl⟩)
    | (go_at_call 14; refine (hLen _ hb _).mono ?_; clear hLen; rintro e _ ⟨rfl, q2, rfl⟩)
    | (go_at_call 43; refine (HSp.out _ hb _).mono ?_; rintro e w2 ⟨v, rfl, hown, hb2⟩))
  have hIv : Ints w2 21 .i32 v l := ints_zero hown
  have h2 := (Hbf.out w1 hb (q + q2)).out hb2 (fun g hg => (hown.lt g hg).1)
  have hK2 : Keep S N w w2 := (Keep.of_below hb hNw).trans (Keep.of_below (M := w.heap.size) ⟨hb2.os, hb2.tape, hb2.output, hb2.size, fun k hk => hb2.block k (Nat.lt_of_lt_of_le hk hb.size)⟩ hNw)
  have hN2 : N ≤ w2.heap.size := by have := hK2.size; omega
  obtain ⟨lo, lc, hveq, _, _, _⟩ := Ints.shape hIv
  subst hveq
  have hWd := widen_any l.length h2 hfit
  have HIv := Lib.hid hIv
  have HK2 := Lib.hid hK2
  have HN2 := Lib.hid hN2
  clear hIv hK2 hN2 h2 hown hb2 hg
  go_wp2_with (first
    | (go_at_call 44; refine hWd.mono ?_; clear hWd; rintro e w3 ⟨rfl, h3, hk3⟩; have HK3 := Lib.hid hk3; clear hk3)
    | (go_at_call 45; refine (bmove_any h3 a ha).mono ?_; clear h3; rintro e w4 ⟨rfl, h4, hk4⟩; have HK4 := Lib.hid hk4; have H4 := Lib.hid h4; clear hk4 h4))
  obtain ⟨va, gs, hF, hI, hM, hl, hr⟩ := H4.out
  obtain ⟨X1, hX1⟩ : ∃ X1, (zs ++ ys).take a = X1 := ⟨_, rfl⟩
  obtain ⟨X2, hX2⟩ : ∃ X2, (zs ++ ys).drop a = X2 := ⟨_, rfl⟩
  rw [hX1, hX2] at hF hI hl
  rw [hX1, hX2]
  have hl1 : X1.length = a := by rw [← hX1, List.length_take, List.length_append]; omega
  rcases hI.2 with ⟨rfl, hn0⟩ | ⟨g, cap, cur, rfl, _, _, hc, hm, _⟩
  · simp only [List.length_append] at hn0
    obtain rfl : X1 = [] := List.eq_nil_of_length_eq_zero (by omega)
    obtain rfl : gs = [] := List.eq_nil_of_length_eq_zero (by omega)
    obtain rfl : X2 = [] := List.eq_nil_of_length_eq_zero (by omega)
    obtain rfl : l = [] := List.eq_nil_of_length_eq_zero (by simpa using hr)
    obtain rfl : a = 0 := by simpa using hl1.symm
    obtain ⟨c0, c1, c2, hfz⟩ := hF.box
    have f1 := hfz 1
    have HF := Lib.hid hF
    have HX1 := Lib.hid hX1
    have HX2 := Lib.hid hX2
    have Hkk : Hid (Keep (Out S N (Value.slice lo ([] : List Int).length lc).ownBlock) w2.heap.size w2 w4) := HK3.out.trans HK4.out
    have HIw : Hid (w4.drew.ownsRow 0 21 1 (.slice none 0 0) 0 []) := World.ownsRow_nil _ _ _ _
    have Hps : Hid (0 < ([] : List Value).length → (∀ g' cap', Value.slice none 0 0 = .slice (some ⟨g', 0, none⟩) 0 cap' → (none : Option Addr) = some ⟨g', 0, none⟩) ∧ ∃ ad, lo = some ad ∧ ∀ j x, ([] : List Value)[j]? = some x → w4.drew.cell? (ad.add j) = some x) := fun hh => absurd hh (by decide)
    have Hone : Hid (∀ x ∈ ([] : List Value), x.oneCell' = true) := fun x hx => by cases hx
    have Hn : Hid (([] : List Value).length = Nat.min ([] : List Int).length 0) := rfl
    have z0 : IntKind.i64.wrap 0 = 0 := by decide
    clear hF hX1 hX2 hfz hI hM hn0 hr hl hl1
    go_cut [] (fun W => Fs (Out S N (Value.slice lo ([] : List Int).length lc).ownBlock) w2.heap.size B (.slice none 0 0) (.int .i64 0) (.int .i64 0) (lfs 0 []) (bks []) W ∧ Keep (Out S N (Value.slice lo ([] : List Int).length lc).ownBlock) w2.heap.size w2 W)
    case first =>
      go_region_law ((refine step_copy_row rfl (.tmp 55) (.tmp 56) 29 29 rfl 21 Tryd.underlying29 infoI32B _ _ _ _ _ _ rfl rfl _ _ _ HIw.out 0 [] Hn.out (Nat.le_refl _) Hps.out Hone.out ?_; intro w5 hH5 hg5; have hF5 : Fs (Out S N (Value.slice lo ([] : List Int).length lc).ownBlock) w2.heap.size B (.slice none 0 0) (.int .i64 0) (.int .i64 0) (lfs 0 []) (bks []) w5 := (show Fs _ _ _ _ _ _ _ _ w4.drew from HF.out).grown (Ints.nil _ _ _) hg5; have hbx := hF5.box; have d1 := hbx.2.1; have g1 := hbx.2.2.2 1; have HF5 := Lib.hid hF5; have HK5 : Hid (Keep (Out S N (Value.slice lo ([] : List Int).length lc).ownBlock) w2.heap.size w2 w5) := (Hkk.out.drewN 1).grown hg5 Hkk.out.size (Mine.nil _ _); clear hF5 hbx hH5 hg5))
      all_goals go_wp2_with fail
      all_goals (go_meet; exact ⟨HF5.out.set 1 _ (by omega), HK5.out.setCell HF5.out.mem.1 _⟩)
    case rest =>
      have Hcut := Lib.hid hcut
      clear hcut
      have hC := Hcut.out
      obtain ⟨hFm, hKm⟩ := hC
      have hins := fs_insert (lfs 0 []) (bks []) 0 (.slice lo ([] : List Int).length lc) [] wc (by omega) (by omega) (by simp) (by simp [lfs]) hFm (fun W _ => ⟨lo, lc, rfl, fun hh => absurd rfl hh⟩)
      have HKm := Lib.hid hKm
      have Hins := Lib.hid hins
      clear hFm hKm hins
      go_wp2_with (go_at_call 46; refine Hins.out.mono ?_; clear Hins; rintro e w6 ⟨rfl, hF6, hK6⟩)
      go_ret
      refine ⟨rfl, [], [], by simp only [HX1.out, HX2.out]; rfl, ⟨_, [], ?_, Ints.nil _ _ _, Mine.nil _ _, by simp, Nat.zero_le _⟩, ?_⟩
      · exact hF6.back HN2.out
      · exact HK2.out.trans ((HKm.out.back HN2.out).trans (hK6.back HN2.out))
  · obtain ⟨c0, c1, c2, hfz⟩ := hF.box
    have f1 := hfz 1
    have el : (X1 ++ (gs ++ X2)).length = a + (gs.length + X2.length) := by simp [hl1]
    rw [el] at c0 hc
    rw [hl1] at c1 c2 hl
    have HF := Lib.hid hF
    have HI := Lib.hid hI
    have HM := Lib.hid hM
    have Hl1 := Lib.hid hl1
    have HX1 := Lib.hid hX1
    have HX2 := Lib.hid hX2
    have El := Lib.hid el
    obtain ⟨G, hG⟩ : ∃ G, gs.length = G := ⟨_, rfl⟩
    obtain ⟨y, hy⟩ : ∃ y, X2.length = y := ⟨_, rfl⟩
    rw [hG, hy] at c0 hc hl
    rw [hG] at c2 hr
    have HG := Lib.hid hG
    have Hy := Lib.hid hy
    unfold maxLen at hm
    have k1 : (a : Int) ≤ (a : Int) + (G : Int) := by omega
    have k2 : (a : Int) + (G : Int) ≤ (cap : Int) := by omega
    have k3 : (0 : Int) ≤ (a : Int) + (G : Int) := by omega
    have tn : ((a : Int) + (G : Int)).toNat = a + G := by omega
    clear hF hI hM hl1 hX1 hX2 el hG hy hfz
    have cone : ∀ x ∈ l.map (Value.int .i32), x.oneCell' = true := by intro x hx; obtain ⟨z, _, rfl⟩ := List.mem_map.1 hx; rfl
    have Co := Lib.hid cone
    have cn : (l.map (Value.int .i32)).length = Nat.min l.length G := by rw [List.length_map]; show _ = min _ _; omega
    have Cn := Lib.hid cn
    have hkk : Keep (Out S N (Value.slice lo l.length lc).ownBlock) w2.heap.size w2 w4 := HK3.out.trans HK4.out
    have hIl : Ints w4 21 .i32 (.slice lo l.length lc) l := ints_apart HIv.out hkk
    have hcl := Reads32.cells (Reads32.of_own hIl)
    have Hcl := Lib.hid hcl
    have Hkk := Lib.hid hkk
    clear cone cn hkk hIl hcl
    have cpos : 0 < (l.map (Value.int .i32)).length → (∀ g' cap', Value.slice (some ⟨g, 0, none⟩) (X1 ++ (gs ++ X2)).length cap = .slice (some ⟨g', 0, none⟩) (X1 ++ (gs ++ X2)).length cap' → (if cap = a then some (⟨g, 0, none⟩ : Addr) else some ⟨g, a, none⟩) = some ⟨g', a, none⟩) ∧ ∃ ad, lo = some ad ∧ ∀ j x, (l.map (Value.int .i32))[j]? = some x → w4.drew.cell? (ad.add j) = some x :=
      fun hc0 => ⟨fun g' cap' e => by
        rw [List.length_map] at hc0
        rw [if_neg (by omega)]
        simp only [Value.slice.injEq, Option.some.injEq, Addr.mk.injEq] at e
        rw [e.1.1], Hcl.out hc0⟩
    have Cpos := Lib.hid cpos
    have HIw : Hid (w4.drew.ownsRow 0 21 1 (.slice (some ⟨g, 0, none⟩) (X1 ++ (gs ++ X2)).length cap) (X1 ++ (gs ++ X2)).length ((X1 ++ (gs ++ X2)).map (Value.int .i32))) := HI.out
    have HIv4 : Hid (Ints w4.drew 21 .i32 (.slice (some ⟨g, 0, none⟩) (X1 ++ (gs ++ X2)).length cap) (X1 ++ (gs ++ X2))) := HI.out
    have HFw : Hid (Fs (Out S N (Value.slice lo l.length lc).ownBlock) w2.heap.size B (.slice (some ⟨g, 0, none⟩) (X1 ++ (gs ++ X2)).length cap) (.int .i64 X1.length) (.int .i64 (X1.length + gs.length : Nat)) (lfs 0 X1) (bks X2) w4.drew) := HF.out
    have e1 : IntKind.i64.wrap ((a : Int) + (l.length : Int)) = (a : Int) + (l.length : Int) := IntWalk.i64_in _ (by omega)
    have Cf : Hid (a + (l.map (Value.int .i32)).length ≤ (X1 ++ (gs ++ X2)).length) := by
      show _ ≤ _
      rw [El.out, HG.out, Hy.out, List.length_map]; omega
    clear cpos
    go_cut [] (fun W => InsMid S N B a G lo l lc g cap X1 gs X2 w2 W)
    case first =>
      go_region_law ((refine step_copy_row rfl (.tmp 55) (.tmp 56) 29 29 rfl 21 Tryd.underlying29 infoI32B _ _ _ _ _ _ rfl rfl _ _ _ HIw.out a (l.map (Value.int .i32)) Cn.out Cf.out Cpos.out Co.out ?_; intro w5 hH5 hg5; have hF5 := HFw.out.grown (w' := w5) HIv4.out hg5; have hbx := hF5.box; have d1 : w5.cell? ⟨B, 1, none⟩ = some (.int .i64 a) := (hbx.2.1.trans (by rw [Hl1.out])); have g1 := hbx.2.2.2 1; have HH5 := Lib.hid hH5; have Hg5 := Lib.hid hg5; clear hF5 hbx hH5 hg5))
      all_goals go_wp2_with fail
      all_goals (go_meet; exact ins_mid HFw.out HIv4.out HM.out Hg5.out HH5.out (by rw [El.out, HG.out, Hy.out]; omega) Hl1.out HG.out (by rw [HG.out]; exact hr) (Hkk.out.drewN 1) Hkk.out.size)
    case rest =>
      have Hcut := Lib.hid hcut
      clear hcut
      have hC := Hcut.out
      obtain ⟨hFm, hIm, hKm⟩ := hC
      have hIl5 : Ints wc 21 .i32 (.slice lo l.length lc) l := ints_apart HIv.out hKm
      have hla : (lfs 0 X1).length ≤ 400000 := by have := lfs_length 0 X1; have := Hl1.out; omega
      have hins := fs_insert (lfs 0 X1) (bks X2) a (.slice lo l.length lc) l wc (by omega) (by omega) (by omega) hla (hFm.out hIm) (fun W hk => Reads32.of_own (hIl5.of_kept fun k hk2 => hk.block k (by obtain ⟨c, hc⟩ := hIl5.typed k hk2; exact box_lt hc) fun q => by
        rcases q.1 with q1 | q1
        · exact q1.2 hk2.symm
        · obtain ⟨c, hc⟩ := HIv.out.typed k hk2
          exact absurd (box_lt hc) (Nat.not_lt.2 q1)))
      have HFm := Lib.hid hFm
      have HIm := Lib.hid hIm
      have HKm := Lib.hid hKm
      have Hins := Lib.hid hins
      clear hFm hIm hKm hIl5 hins
      go_wp2_with (go_at_call 46; refine Hins.out.mono ?_; clear Hins; rintro e w6 ⟨rfl, hF6, hK6⟩)
      go_ret
      have hI6 := HIm.out.out hK6
      have hl9 : lfs 0 X1 ++ lfs a l = lfs 0 (X1 ++ l) := by rw [lfs_append, Hl1.out, Int.zero_add]
      rw [hl9] at hF6
      refine ⟨rfl, X1 ++ l, X2, by rw [List.append_assoc, HX1.out, HX2.out], ⟨_, gs.drop l.length, ?_, by rw [List.append_assoc]; exact hI6, fun k hk => (HM.out k hk).elim (fun q => q.1) (fun q => .inr (by have := HN2.out; omega)), ?_, Nat.zero_le _⟩, ?_⟩
      · have e7 : (((X1 ++ l).length : Nat) : Int) = (a : Int) + (l.length : Int) := by rw [List.length_append, Hl1.out]; omega
        have e8 : (((X1 ++ l).length + (gs.drop l.length).length : Nat) : Int) = (a + G : Nat) := by rw [List.length_append, List.length_drop, Hl1.out, HG.out]; omega
        rw [e7, e8]
        exact (hF6.back (Nat.le_trans (Nat.le_refl _) HKm.out.size)).back HN2.out
      · rw [List.length_append, List.length_drop, Hl1.out, HG.out, Hy.out]; omega
      · exact HK2.out.trans ((HKm.out.back HN2.out).trans ((hK6.back HKm.out.size).back HN2.out))
end Go.Proofs.YtpldalmodcmfaaaDoor
