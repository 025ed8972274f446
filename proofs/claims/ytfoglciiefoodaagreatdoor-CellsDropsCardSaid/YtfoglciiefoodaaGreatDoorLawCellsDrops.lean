/- The law CellsDrops. -/
import Derived.Test.YtfoglciiefoodaaGreatDoorGCellsAsked
import Derived.Test.YtfoglciiefoodaaGreatDoorGNameEq
import Derived.Deep.RegionHeld
import Derived.Deep.CutRange
import Derived.Deep.DeepCutAuto
import Derived.Deep.Cut
namespace Go.Proofs.YtfoglciiefoodaaGreatDoor
open Go.RowKit

set_option maxRecDepth 100000 in
set_option maxHeartbeats 8000000 in
theorem lawCellsDrops_any (C : CC3) (v : Value) (l : List PCell) (u : Value) (xa : List PAct) (sp : Value) (ys : List Sp) (w : World) (hT : TabW w) (h : CAt w v l) (hl : CWf l) (hA : ActsAt w u xa) (hs : SpAt w sp ys) (hys : sWf ys) :
    Calls Tryz.prog 6 #[v, u, sp] w fun e w' => e = .returned (.bool true) ∧ Below w.heap.size w w' := by
  have hAl := fun W (hb : Below w.heap.size w W) => calive_any C.toCC W (hT.below hb)
  have hG := fun W (hb : Below w.heap.size w W) => cgreat_any v l u xa W (h.below hb) (hA.below hb)
  have hNy := fun W (hb : Below w.heap.size w W) q1 q2 => C.new_yes v l W (hT.below hb) (h.below hb) hl q1 q2
  have hNn := fun W (hb : Below w.heap.size w W) q1 q2 => C.new_no v l W (hT.below hb) (h.below hb) hl q1 q2
  have H := Lib.hid h
  have HA := Lib.hid hA
  have HT := Lib.hid hT
  obtain ⟨bo, cap, rfl, _, _⟩ := h.shape
  obtain ⟨ao, ac, rfl⟩ := hA.shape
  have HSP := Lib.hid hs
  obtain ⟨sa, sc, rfl, _⟩ := id hs
  obtain ⟨Y, hY⟩ : ∃ Y, ys.length = Y := ⟨_, rfl⟩
  have HY := Lib.hid hY
  rw [hY]
  clear hY hs
  obtain ⟨L, hL⟩ : ∃ L, l.length = L := ⟨_, rfl⟩
  have HL := Lib.hid hL
  obtain ⟨M, hM'⟩ : ∃ M, xa.length = M := ⟨_, rfl⟩
  have HM := Lib.hid hM'
  rw [hL] at hG hNy hNn ⊢
  rw [hM'] at hG ⊢
  have HAl := Lib.hid hAl
  have HG := Lib.hid hG
  have HNy := Lib.hid hNy
  have HNn := Lib.hid hNn
  have Hb0 : RowKit.Hid (Below w.heap.size w w) := Lib.hid (Below.refl _ w)
  clear hL hM' hAl hG hNy hNn h hA hT hl
  go_enter Tryz.func6, Tryz.ntmps6
  go_wp2_with fail
  refine (HAl.out _ Hb0.out).mono ?_
  clear HAl
  rintro e w1 ⟨rfl, hb1⟩
  have Hb1 := Lib.hid (Hb0.out.trans (hb1.mono Hb0.out.size))
  have hG := HG.out w1 Hb1.out
  clear HG hb1 Hb0
  go_wp2_with fail
  refine hG.mono ?_
  clear hG
  rintro e w2 ⟨rfl, hb2⟩
  have hb2 := Hb1.out.trans (hb2.mono Hb1.out.size)
  have Hb2 := Lib.hid hb2
  cases hgr : cGreat l xa with
  | true =>
    clear hgr
    go_wp2
    go_ret
    exact ⟨rfl, hb2⟩
  | false =>
    unfold cGreat at hgr
    rw [Bool.or_eq_false_iff, Bool.or_eq_false_iff, decide_eq_false_iff_not, decide_eq_false_iff_not, HL.out, HM.out] at hgr
    obtain ⟨g1, g2, g3⟩ := hgr
    have HG3 := Lib.hid g3
    by_cases g7 : 60 < Y
    · have k7 := cgreat7_any Y sa sc w2
      rw [decide_eq_true (by omega)] at k7
      clear hb2 HNy HNn
      go_wp2_with fail
      refine k7.mono ?_
      clear k7
      rintro e _ ⟨rfl, rfl⟩
      go_wp2
      go_ret
      exact ⟨rfl, Hb2.out⟩
    have k7 := cgreat7_any Y sa sc w2
    rw [decide_eq_false (by omega)] at k7
    go_wp2_with fail
    refine k7.mono ?_
    clear k7
    rintro e _ ⟨rfl, rfl⟩
    by_cases hm0 : cMay l = 0
    case neg =>
      have hN := HNn.out w2 hb2 (by omega) hm0
      clear HNy HNn g3 hb2
      obtain ⟨E, hE⟩ : ∃ E, cMay l = E := ⟨_, rfl⟩
      rw [hE] at hN hm0
      have hnb : (E != 0) = true := by simpa using hm0
      clear hE
      go_wp2_with fail
      refine hN.mono ?_
      clear hN
      rintro e w3 ⟨rfl, hb3⟩
      have hb3 := Hb2.out.trans (hb3.mono Hb2.out.size)
      go_wp2
      go_ret
      exact ⟨rfl, hb3⟩
    case pos =>
      have hN := HNy.out w2 hb2 (by omega) hm0
      clear HNy HNn g3 hb2
      go_wp2_with fail
      refine hN.mono ?_
      clear hN
      rintro e w3 ⟨p, S, rfl, hD, hS, hb3⟩
      obtain ⟨B, rfl⟩ := C.ptr hD
      have hP : DOwn C.toCC w2.heap.size w2 (.pointer (some ⟨B, 0, none⟩)) l w3 := ⟨S, hD, hS, hb3, hb3.size⟩
      have HP := Lib.hid hP
      clear hb3 hP hD hS hm0
      go_wp2_with fail
      go_loopw [9] (fun i wr => ∃ (k : Nat) (m : List PCell), i = .int .i64 k ∧ k ≤ M ∧ RowKit.Hid (DOwn C.toCC w2.heap.size w2 (.pointer (some ⟨B, 0, none⟩)) m wr)) (fun i _ => M - (intOf i).toNat)
      case atStart => exact ⟨0, l, rfl, Nat.zero_le _, HP⟩
      case round =>
        obtain ⟨k, m, rfl, hk, hp⟩ := hrel
        clear HP
        rcases Nat.lt_or_ge k M with hlt | hge
        · obtain ⟨x, hx⟩ := getA_some (l := xa) (k := k) (by rw [HM.out]; omega)
          have hgx : aGreat x = false := by
            cases hq : aGreat x with
            | false => rfl
            | true => have := HG3.out; rw [List.any_eq_true.2 ⟨x, List.mem_of_getElem? hx, hq⟩] at this; cases this
          have hw := (HA.out.mem hx).2
          have hsp := (HA.out.mem hx).1
          have hup := Hb2.out.trans (hp.out.up.mono Hb2.out.size)
          obtain ⟨b, off, cp, hv, c0, c1, c2, c3, c4, c5, c6, c7⟩ := (HA.out.below hup).at hx
          rw [HM.out] at hv
          cases hv
          have hi0 : (0 : Int) ≤ (k : Int) ∧ (k : Int) < (M : Int) := ⟨by omega, by omega⟩
          have hdo := hp.out.call fun S h => cdo_any C.toCC x hw hgx _ m S _ h (HT.out.below hup) (hsp.below hup)
          obtain ⟨sa, sc, hsv, _⟩ := id hsp
          unfold PAct.val at hdo
          rw [hsv] at hdo c7
          have HDO := Lib.hid hdo
          clear hdo hsv hx hgx hw hsp hup hp
          go_wp2_with fail
          refine HDO.out.mono ?_
          rintro e w5 ⟨rfl, h5⟩
          have HN := Lib.hid h5
          clear h5 HDO c0 c1 c2 c3 c4 c5 c6 c7
          go_wp2
          exact ⟨⟨k + 1, _, by go_num, by omega, HN⟩, by simp [intOf]; omega⟩
        · have hk2 : k = M := by omega
          obtain ⟨S, hD, hS, hup, hsz⟩ := hp.out
          have c1 := C.cells _ m S _ hD
          have HS := Lib.hid hS
          have HU := Lib.hid hup
          clear hS hup hD hp
          go_wp2_with fail
          refine c1.mono ?_
          clear c1
          rintro e w4 ⟨v4, S4, rfl, hk4, hc4, hf4⟩
          obtain ⟨q1, q2⟩ := hk4.up HS.out hsz
          have hP : Pair C.toCC w2.heap.size w2 (.pointer (some ⟨B, 0, none⟩)) m v4 m S4 w4 := ⟨hk4.1, q1, HU.out.trans q2, Nat.le_trans hsz q2.size, hc4, fun g hg => (hf4 g hg).2⟩
          obtain ⟨va, vc, rfl, _, _⟩ := hc4.shape
          obtain ⟨ml, hml⟩ : ∃ ml, m.length = ml := ⟨_, rfl⟩
          have Hml := Lib.hid hml
          have hle := hP.le
          have HP := Lib.hid hP
          rw [hml] at HP hle ⊢
          have k5 := HP.out.call (C.text _ m S4 w4 HP.out.doc)
          clear hk2 hk hge hk4 q1 q2 hc4 hf4 hP hml HS HU HP
          go_wp2_with fail
          refine k5.mono ?_
          clear k5
          rintro e w5 ⟨rfl, S5, hP5⟩
          have k6 := hP5.call (C.size _ m S5 w5 hP5.doc)
          rw [Hml.out] at k6
          clear hP5
          go_wp2_with fail
          refine k6.mono ?_
          clear k6
          rintro e w6 ⟨rfl, S6, hP6⟩
          have k7 := C.copy _ m S6 w6 hP6.doc
          have HP6 := Lib.hid hP6
          clear hP6
          go_wp2_with fail
          refine k7.mono ?_
          clear k7
          rintro e w7 ⟨p', S1, S', rfl, hcop, hS1, hk7⟩
          have hP7 := HP6.out.next hk7
          obtain ⟨B', rfl⟩ := C.ptr hcop
          have hT3 : Trio C.toCC w2.heap.size w2 (.pointer (some ⟨B, 0, none⟩)) m S' (.pointer (some ⟨B', 0, none⟩)) m S1 (.slice va ml vc) m w7 :=
            ⟨hP7.doc, hcop, fun b hb hb1 => (hS1 b hb1).2 hb, hP7.own, fun b hb => Nat.le_trans HP6.out.size (hS1 b hb).1, hP7.up, hP7.size, hP7.list, fun g hg => ⟨hP7.apart g hg, fun hq => Nat.lt_irrefl _ (Nat.lt_of_lt_of_le (HP6.out.list.lt g hg) (hS1 g hq).1)⟩⟩
          have hup7 := Hb2.out.trans (hT3.up.mono Hb2.out.size)
          have k8 := hT3.call2 (C.drop _ ys _ m S1 w7 hT3.cop (HSP.out.below hup7) hys (by rw [HY.out]; omega))
          obtain ⟨⟨m1, e1⟩, hX⟩ : ∃ X, cDrop m ys = X := ⟨_, rfl⟩
          have ht1 : cText m1 = cText m := by have := drop_text m ys; rw [hX] at this; exact this
          have hs1 : e1 ≠ 0 → m1 = m := fun h => by have := drop_same (l := m) (xs := ys) (by rw [hX]; exact h); rw [hX] at this; exact this
          have Ht1 := Lib.hid ht1
          have Hs1 := Lib.hid hs1
          rw [hX, HY.out] at k8
          clear hP7 hcop hS1 hk7 HP6 hT3 hup7 hX ht1 hs1
          go_wp2_with fail
          refine k8.mono ?_
          clear k8
          rintro e w8 ⟨rfl, S8, hT8⟩
          have k9 := hT8.call2 (C.text _ m1 S8 w8 hT8.cop)
          rw [Ht1.out] at k9
          clear hT8
          go_wp2_with fail
          refine k9.mono ?_
          clear k9
          rintro e w9 ⟨rfl, S9, hT9⟩
          have k10 := hT9.call (C.size _ m S' w9 hT9.doc)
          rw [Hml.out] at k10
          clear hT9
          go_wp2_with fail
          refine k10.mono ?_
          clear k10
          rintro e w10 ⟨rfl, S10, hT10⟩
          have k11 := C.cells _ m S10 w10 hT10.doc
          have HT10 := Lib.hid hT10
          clear hT10
          go_wp2_with fail
          refine k11.mono ?_
          clear k11
          rintro e w11 ⟨v11, S11, rfl, hk11, hc11, hf11⟩
          have hT11 := HT10.out.fst hk11
          obtain ⟨va11, vc11, rfl, _, _⟩ := hc11.shape
          have k12 := cSame_any _ _ m m w11 hc11 hT11.list (by rw [Hml.out]; omega)
          rw [decide_eq_true rfl, Hml.out] at k12
          rw [Hml.out]
          have HT11 := Lib.hid hT11
          clear HT10 hk11 hc11 hf11 hT11
          go_wp2_with fail
          refine k12.mono ?_
          clear k12
          rintro e w12 ⟨rfl, hb12⟩
          have hT12 := HT11.out.below hb12
          have HT12 := Lib.hid hT12
          clear HT11 hb12 hT12
          by_cases he1 : e1 = 0
          case neg =>
            have hm1 := Hs1.out he1
            have hnb : (e1 != 0) = true := by simpa using he1
            have k13 := C.cells _ m1 S9 w12 HT12.out.cop
            rw [hm1] at k13
            clear hm1 he1
            go_wp2_with fail
            refine k13.mono ?_
            clear k13
            rintro e w13 ⟨v13, S13, rfl, hk13, hc13, hf13⟩
            have hT13 := (HT12.out.swap.fst hk13).swap
            obtain ⟨va13, vc13, rfl, _, _⟩ := hc13.shape
            have k14 := cSame_any _ _ m m w13 hc13 hT13.list (by rw [Hml.out]; omega)
            rw [decide_eq_true rfl, Hml.out] at k14
            rw [Hml.out]
            have HT13 := Lib.hid hT13
            clear hk13 hc13 hf13 hT13
            go_wp2_with fail
            refine k14.mono ?_
            clear k14
            rintro e w14 ⟨rfl, hb14⟩
            have hz1 := Hb2.out.trans ((HT13.out.below hb14).up.mono Hb2.out.size)
            clear hb14
            go_wp2
            go_ret
            exact ⟨rfl, hz1⟩
          case pos =>
            subst he1
            clear Hs1
            have k13 := C.gone _ m1 S9 w12 HT12.out.cop
            have hb0 := fun W (h : Below w2.heap.size w2 W) => Hb2.out.trans (h.mono Hb2.out.size)
            have Hb0 := Lib.hid hb0
            clear hb0
            go_wp2_with fail
            refine k13.mono ?_
            clear k13
            rintro e w13 ⟨v13, S13, rfl, hk13, hs13⟩
            have hT13 := (HT12.out.swap.fst hk13).swap
            have hl1 := cMay_le (C.may hT13.cop)
            have k14 := hT13.call2 (C.drop v13 (cGone m1) _ m1 S13 w13 hT13.cop hs13 (cGone_wf m1) (cGone_length m1))
            rw [drop_gone hl1] at k14
            obtain ⟨va13, vc13, rfl, _⟩ := id hs13
            obtain ⟨m2, hm2⟩ : ∃ m2, keptC m1 (goneB m1) m1.length = m2 := ⟨_, rfl⟩
            have ht2 : cText m2 = cText m := by
              have h1 := drop_text m1 (cGone m1)
              rw [drop_gone hl1, hm2] at h1
              exact h1.trans Ht1.out
            have hal := all_live (l := m2) (by rw [← hm2]; exact kept_live m1 m1.length (Nat.le_refl _))
            rw [hm2] at k14
            have Ht2 := Lib.hid ht2
            have Hal := Lib.hid hal
            obtain ⟨gl, hgl⟩ : ∃ gl, (cGone m1).length = gl := ⟨_, rfl⟩
            rw [hgl] at k14 ⊢
            clear hk13 hs13 HT12 hT13 hl1 hm2 ht2 hal hgl
            go_wp2_with fail
            refine k14.mono ?_
            clear k14
            rintro e w14 ⟨rfl, S14, hT14⟩
            have k15 := hT14.call2 (C.text _ m2 S14 w14 hT14.cop)
            rw [Ht2.out] at k15
            clear hT14
            go_wp2_with fail
            refine k15.mono ?_
            clear k15
            rintro e w15 ⟨rfl, S15, hT15⟩
            have k16 := hT15.call2 (C.size _ m2 S15 w15 hT15.cop)
            obtain ⟨l2, hl2⟩ : ∃ l2, m2.length = l2 := ⟨_, rfl⟩
            have Hl2 := Lib.hid hl2
            rw [hl2] at k16
            clear hT15 hl2
            go_wp2_with fail
            refine k16.mono ?_
            clear k16
            rintro e w16 ⟨rfl, S16, hT16⟩
            have k17 := hT16.call2 (C.live _ m2 S16 w16 hT16.cop)
            rw [Hal.out.1, Hl2.out] at k17
            clear hT16
            go_wp2_with fail
            refine k17.mono ?_
            clear k17
            rintro e w17 ⟨rfl, S17, hT17⟩
            have k18 := C.gone _ m2 S17 w17 hT17.cop
            rw [Hal.out.2] at k18
            have HT17 := Lib.hid hT17
            clear hT17
            go_wp2_with fail
            refine k18.mono ?_
            clear k18
            rintro e w18 ⟨v18, S18, rfl, hk18, hs18⟩
            have hU18 := (HT17.out.swap.fst hk18).up
            obtain ⟨va18, vc18, rfl, _⟩ := id hs18
            have HU18 := Lib.hid hU18
            clear HT17 hk18 hs18 hU18
            have n1 := C.gap0 w18
            go_wp2_with fail
            refine n1.mono ?_
            clear n1
            rintro e w19 ⟨rfl, b19⟩
            have HU19 := Lib.hid (HU18.out.trans (b19.mono HU18.out.size))
            have n1 := C.seen0 w19
            clear b19 HU18
            go_wp2_with fail
            refine n1.mono ?_
            clear n1
            rintro e w20 ⟨rfl, b20⟩
            have HU20 := Lib.hid (HU19.out.trans (b20.mono HU19.out.size))
            have n1 := C.run0 w20
            clear b20 HU19
            go_wp2_with fail
            refine n1.mono ?_
            clear n1
            rintro e w21 ⟨v21, rfl, _, b21⟩
            have HU21 := Lib.hid (HU20.out.trans (b21.mono HU20.out.size))
            have n1 := C.do0 w21
            unfold opV at n1
            clear b21 HU20
            go_wp2_with fail
            refine n1.mono ?_
            clear n1
            rintro e w22 ⟨rfl, b22⟩
            have HU22 := Lib.hid (HU21.out.trans (b22.mono HU21.out.size))
            have n1 := C.drop0 w22
            clear b22 HU21
            go_wp2_with fail
            refine n1.mono ?_
            clear n1
            rintro e w23 ⟨rfl, b23⟩
            have HU23 := Lib.hid (HU22.out.trans (b23.mono HU22.out.size))
            have n1 := C.size0 w23
            clear b23 HU22
            go_wp2_with fail
            refine n1.mono ?_
            clear n1
            rintro e w24 ⟨rfl, b24⟩
            have HU24 := Lib.hid (HU23.out.trans (b24.mono HU23.out.size))
            have n1 := C.live0 w24
            clear b24 HU23
            go_wp2_with fail
            refine n1.mono ?_
            clear n1
            rintro e w25 ⟨rfl, b25⟩
            have HU25 := Lib.hid (HU24.out.trans (b25.mono HU24.out.size))
            have n1 := C.text0 w25
            clear b25 HU24
            go_wp2_with fail
            refine n1.mono ?_
            clear n1
            rintro e w26 ⟨rfl, b26⟩
            have HU26 := Lib.hid (HU25.out.trans (b26.mono HU25.out.size))
            have n1 := C.cells0 w26
            clear b26 HU25
            go_wp2_with fail
            refine n1.mono ?_
            clear n1
            rintro e w27 ⟨v27, rfl, hc27, b27⟩
            obtain ⟨va27, vc27, rfl, _, _⟩ := hc27.shape
            have HU27 := Lib.hid (HU26.out.trans (b27.mono HU26.out.size))
            have n1 := C.gone0 w27
            clear b27 HU26 hc27
            go_wp2_with fail
            refine n1.mono ?_
            clear n1
            rintro e w28 ⟨v28, rfl, hs28, b28⟩
            obtain ⟨va28, vc28, rfl, _⟩ := hs28
            have HU28 := Lib.hid (HU27.out.trans (b28.mono HU27.out.size))
            have n1 := C.copy0 w28
            clear b28 HU27
            go_wp2_with fail
            refine n1.mono ?_
            clear n1
            rintro e w29 ⟨rfl, b29⟩
            have hz1 := Hb2.out.trans ((HU28.out.trans (b29.mono HU28.out.size)).mono Hb2.out.size)
            clear b29 HU28
            go_wp2
            go_ret
            exact ⟨rfl, hz1⟩
end Go.Proofs.YtfoglciiefoodaaGreatDoor
