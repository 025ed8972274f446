/- The law CellsEdits. -/
import Derived.Test.YtfoglciiefoodaaGreatDoorGCellsAsked
import Derived.Test.YtfoglciiefoodaaGreatDoorGNameEq
import Derived.Deep.RegionHeld
import Derived.Deep.CutRange
import Derived.Deep.DeepCutAuto
import Derived.Deep.Cut
namespace Go.Proofs.YtfoglciiefoodaaGreatDoor
open Go.RowKit

set_option maxRecDepth 100000 in
set_option maxHeartbeats 8000000 in
theorem lawCellsEdits_any (C : CC2) (v : Value) (l : List PCell) (u : Value) (xa : List PAct) (h0 h1 : Int) (w : World) (hT : TabW w) (h : CAt w v l) (hl : CWf l) (hA : ActsAt w u xa) (wf0 : (Lit.int .i64 h0).wf = true) (wf1 : (Lit.int .i64 h1).wf = true) :
    Calls Tryz.prog 5 #[v, u, .agg #[.int .i64 h0, .int .i64 h1]] w fun e w' => e = .returned (.bool true) ∧ Below w.heap.size w w' := by
  have hAl := fun W (hb : Below w.heap.size w W) => calive_any C.toCC W (hT.below hb)
  have hG := fun W (hb : Below w.heap.size w W) => cgreat_any v l u xa W (h.below hb) (hA.below hb)
  have hNy := fun W (hb : Below w.heap.size w W) q1 q2 => C.new_yes v l W (hT.below hb) (h.below hb) hl q1 q2
  have hNn := fun W (hb : Below w.heap.size w W) q1 q2 => C.new_no v l W (hT.below hb) (h.below hb) hl q1 q2
  have H := Lib.hid h
  have HA := Lib.hid hA
  have HT := Lib.hid hT
  obtain ⟨bo, cap, rfl, _, _⟩ := h.shape
  obtain ⟨ao, ac, rfl⟩ := hA.shape
  obtain ⟨L, hL⟩ : ∃ L, l.length = L := ⟨_, rfl⟩
  have HL := Lib.hid hL
  obtain ⟨M, hM'⟩ : ∃ M, xa.length = M := ⟨_, rfl⟩
  have HM := Lib.hid hM'
  rw [hL] at hG hNy hNn ⊢
  rw [hM'] at hG ⊢
  have HAl := Lib.hid hAl
  have HG := Lib.hid hG
  have HNy := Lib.hid hNy
  have HNn := Lib.hid hNn
  have Hb0 : RowKit.Hid (Below w.heap.size w (w.alloc (.cells #[.int .i64 h0, .int .i64 h1] 64))) := Lib.hid ((Below.refl _ w).alloc (Nat.le_refl _) _)
  clear hL hM' hAl hG hNy hNn h hA hT hl
  go_enter Tryz.func5, Tryz.ntmps5
  go_wp2_with fail
  refine (HAl.out _ Hb0.out).mono ?_
  clear HAl
  rintro e w1 ⟨rfl, hb1⟩
  have hbx1 := (ABox.new [h0, h1] w 64).below hb1
  have Hb1 := Lib.hid (Hb0.out.trans (hb1.mono Hb0.out.size))
  have hG := HG.out w1 Hb1.out
  clear HG hb1 Hb0
  go_wp2_with fail
  refine hG.mono ?_
  clear hG
  rintro e w2 ⟨rfl, hb2⟩
  have hbx2 := hbx1.below hb2
  have HBX := Lib.hid hbx2
  clear hbx1 hbx2
  have hb2 := Hb1.out.trans (hb2.mono Hb1.out.size)
  have Hb2 := Lib.hid hb2
  cases hgr : cGreat l xa with
  | true =>
    clear hgr
    go_wp2
    go_ret
    exact ⟨rfl, hb2⟩
  | false =>
    unfold cGreat at hgr
    rw [Bool.or_eq_false_iff, Bool.or_eq_false_iff, decide_eq_false_iff_not, decide_eq_false_iff_not, HL.out, HM.out] at hgr
    obtain ⟨g1, g2, g3⟩ := hgr
    have HG3 := Lib.hid g3
    by_cases hm0 : cMay l = 0
    case neg =>
      have hN := HNn.out w2 hb2 (by omega) hm0
      clear HNy HNn g3 hb2
      obtain ⟨E, hE⟩ : ∃ E, cMay l = E := ⟨_, rfl⟩
      rw [hE] at hN hm0
      have hnb : (E != 0) = true := by simpa using hm0
      clear hE
      go_wp2_with fail
      refine hN.mono ?_
      clear hN
      rintro e w3 ⟨rfl, hb3⟩
      have hb3 := Hb2.out.trans (hb3.mono Hb2.out.size)
      go_wp2
      go_ret
      exact ⟨rfl, hb3⟩
    case pos =>
      have hN := HNy.out w2 hb2 (by omega) hm0
      clear HNy HNn g3 hb2
      go_wp2_with fail
      refine hN.mono ?_
      clear hN
      rintro e w3 ⟨p, S, rfl, hD, hS, hb3⟩
      obtain ⟨B, rfl⟩ := C.ptr hD
      have hP : DOwn C.toCC w2.heap.size w2 (.pointer (some ⟨B, 0, none⟩)) l w3 := ⟨S, hD, hS, hb3, hb3.size⟩
      have HP := Lib.hid hP
      clear hb3 hP hD hS hm0
      go_wp2_with fail
      go_loopw [9] (fun i wr => ∃ (k : Nat) (m : List PCell), i = .int .i64 k ∧ k ≤ M ∧ RowKit.Hid (DOwn C.toCC w2.heap.size w2 (.pointer (some ⟨B, 0, none⟩)) m wr)) (fun i _ => M - (intOf i).toNat)
      case atStart => exact ⟨0, l, rfl, Nat.zero_le _, HP⟩
      case round =>
        obtain ⟨k, m, rfl, hk, hp⟩ := hrel
        clear HP
        rcases Nat.lt_or_ge k M with hlt | hge
        · obtain ⟨x, hx⟩ := getA_some (l := xa) (k := k) (by rw [HM.out]; omega)
          have hgx : aGreat x = false := by
            cases hq : aGreat x with
            | false => rfl
            | true => have := HG3.out; rw [List.any_eq_true.2 ⟨x, List.mem_of_getElem? hx, hq⟩] at this; cases this
          have hw := (HA.out.mem hx).2
          have hsp := (HA.out.mem hx).1
          have hup := Hb2.out.trans (hp.out.up.mono Hb2.out.size)
          obtain ⟨b, off, cp, hv, c0, c1, c2, c3, c4, c5, c6, c7⟩ := (HA.out.below hup).at hx
          rw [HM.out] at hv
          cases hv
          have hi0 : (0 : Int) ≤ (k : Int) ∧ (k : Int) < (M : Int) := ⟨by omega, by omega⟩
          have hdo := hp.out.call fun S h => cdo_any C.toCC x hw hgx _ m S _ h (HT.out.below hup) (hsp.below hup)
          obtain ⟨sa, sc, hsv, _⟩ := id hsp
          unfold PAct.val at hdo
          rw [hsv] at hdo c7
          have HDO := Lib.hid hdo
          clear hdo hsv hx hgx hw hsp hup hp
          go_wp2_with fail
          refine HDO.out.mono ?_
          rintro e w5 ⟨rfl, h5⟩
          have HN := Lib.hid h5
          clear h5 HDO c0 c1 c2 c3 c4 c5 c6 c7
          go_wp2
          exact ⟨⟨k + 1, _, by go_num, by omega, HN⟩, by simp [intOf]; omega⟩
        · have hk2 : k = M := by omega
          obtain ⟨S, hD, hS, hup, hsz⟩ := hp.out
          have HS := Lib.hid hS
          have HU := Lib.hid hup
          have bx := HBX.out.below hup
          have b0 := bx 0 h0 rfl
          have b1 := bx 1 h1 rfl
          have hP0 : DOwn C.toCC w2.heap.size w2 (.pointer (some ⟨B, 0, none⟩)) m _ := ⟨S, hD, HS.out, HU.out, hsz⟩
          have HP0 := Lib.hid hP0
          have hle := cMay_le (C.may hD)
          have hmay := C.may hD
          have Hmay := Lib.hid hmay
          clear hS hup hD hp bx HBX HS HU hP0 hmay
          go_wp2_with fail
          go_quiet (fail)
          clear b0 b1
          obtain ⟨S0, hD0, hS0, hup0, hsz0⟩ := HP0.out.below (below_draws (Below.refl _ _) nq)
          have k5 := C.text _ m S0 _ hD0
          rw [text_join Hmay.out] at k5
          obtain ⟨R, hR⟩ : ∃ R, textR m = R := ⟨_, rfl⟩
          have hv := text_valid Hmay.out
          have hRl : R.length = cLive m := by rw [← hR]; have := textR_length m m.length; rwa [List.take_of_length_le (Nat.le_refl _)] at this
          rw [hR] at k5 hv
          have hlv : cLive m ≤ 20000 := Nat.le_trans (cSeen_le m m.length) hle
          have HR := Lib.hid hR
          have Hv := Lib.hid hv
          have HRl := Lib.hid hRl
          have HS0 := Lib.hid hS0
          have HU0 := Lib.hid hup0
          clear hR hv hRl hS0 hup0 hD0 HP0
          go_wp2_with fail
          refine k5.mono ?_
          clear k5
          rintro e w5 ⟨S5, hk5, rfl⟩
          obtain ⟨q1, q2⟩ := hk5.up HS0.out hsz0
          obtain ⟨g, gc, w6, hcv, hrow, hg, hb6⟩ := conv_runes Hv.out (by rw [HRl.out]; omega) w5
          have hD6 : Duo C.toCC w2.heap.size w2 (.pointer (some ⟨B, 0, none⟩)) m S5 (.slice (some ⟨g, 0, none⟩) R.length gc) R w6 :=
            ⟨C.below hk5.1 hb6, q1, (HU0.out.trans q2).trans (hb6.mono (Nat.le_trans hsz0 q2.size)), Nat.le_trans (Nat.le_trans hsz0 q2.size) hb6.size, hrow, fun g' hg' hS' => by
              have e1 : g = g' := by simpa [Value.ownBlock] using hg'
              have := C.low hk5.1 g' hS'
              omega⟩
          obtain ⟨ml, hml⟩ : ∃ ml, R.length = ml := ⟨_, rfl⟩
          have Hml := Lib.hid hml
          have HD6 := Lib.hid hD6
          rw [hml] at HD6 hcv
          obtain ⟨T, hT⟩ : ∃ T : ByteArray, (⟨(joinL R).toArray⟩ : ByteArray) = T := ⟨_, rfl⟩
          rw [hT] at hcv ⊢
          have HT0 := Lib.hid hT
          clear hk5 q1 q2 hrow hg hb6 hD6 hml hT HS0 HU0
          go_wp2_with fail
          clear hcv
          rcases gap_cases m h0 with ⟨p, hpi, hpl, hgp, hsp⟩ | ⟨hno, hgp⟩
          case inr =>
            have k7 := HD6.out.call (C.gap h0 _ m S5 w6 HD6.out.doc wf0)
            rw [hgp, if_pos (by decide)] at k7
            have hro : cRunOk m h0 h1 = false := decide_eq_false fun h => hno ⟨h.1, h.2.1⟩
            have hlz : ¬ (0 ≤ h0 ∧ h0 ≤ (ml : Int)) := by rw [← Hml.out, HRl.out]; exact hno
            clear hno hgp HD6
            go_wp2_with fail
            refine k7.mono ?_
            clear k7
            rintro e w7 ⟨rfl, S7, hD7⟩
            have k8 := C.run h0 h1 _ m S7 w7 hD7.doc wf0 wf1
            rw [hro] at k8
            have HD7 := Lib.hid hD7
            clear hD7 hro
            simp only [Bool.false_eq_true, if_false] at k8
            go_wp2_with fail
            refine k8.mono ?_
            clear k8
            rintro e w8 ⟨v8, S8, rfl, hk8, hs8, hf8⟩
            have hz1 := Hb2.out.trans ((HD7.out.next hk8).up.mono Hb2.out.size)
            obtain ⟨va8, vc8, rfl, _⟩ := hs8
            clear hk8 hf8 HD7
            by_cases z0 : h0 < 0
            · clear hlz
              go_wp2
              go_ret
              exact ⟨rfl, hz1⟩
            · have z1 : (ml : Int) < h0 := by omega
              clear hlz
              go_wp2
              go_ret
              exact ⟨rfl, hz1⟩
          case inl =>
            obtain ⟨i, rfl⟩ : ∃ i : Nat, h0 = i := ⟨h0.toNat, by omega⟩
            rw [Int.toNat_natCast] at hsp
            have k7 := HD6.out.call (C.gap i _ m S5 w6 HD6.out.doc wf0)
            rw [hgp, if_neg (by omega)] at k7
            have Hgp := Lib.hid hgp
            have hil : i ≤ ml := by rw [← Hml.out, HRl.out]; omega
            clear hgp HD6
            go_wp2_with fail
            refine k7.mono ?_
            clear k7
            rintro e w7 ⟨rfl, S7, hD7⟩
            have k8 := C.run i h1 _ m S7 w7 hD7.doc wf0 wf1
            have HD7 := Lib.hid hD7
            clear hD7
            cases hro : cRunOk m i h1 with
            | false =>
              rw [hro] at k8
              simp only [Bool.false_eq_true, if_false] at k8
              go_wp2_with fail
              refine k8.mono ?_
              clear k8
              rintro e w8 ⟨v8, S8, rfl, hk8, hs8, hf8⟩
              have hz1 := Hb2.out.trans ((HD7.out.next hk8).up.mono Hb2.out.size)
              obtain ⟨va8, vc8, rfl, _⟩ := hs8
              clear hk8 hf8 HD7 hro
              go_wp2
              go_ret
              exact ⟨rfl, hz1⟩
            | true =>
              rw [hro] at k8
              simp only [if_true] at k8
              have hr2 := of_decide_eq_true hro
              obtain ⟨n, rfl⟩ : ∃ n : Nat, h1 = n := ⟨h1.toNat, by omega⟩
              have hinl : i + n ≤ ml := by rw [← Hml.out, HRl.out]; omega
              clear hro hr2
              go_wp2_with fail
              refine k8.mono ?_
              clear k8
              rintro e w8 ⟨v8, S8, rfl, hk8, hs8, hf8⟩
              have hD8 := HD7.out.next hk8
              have hsk8 := SpK.of hs8 hf8
              have k9 := C.copy _ m S8 w8 hD8.doc
              obtain ⟨va8, vc8, rfl, _⟩ := id hs8
              have HS8 := Lib.hid hsk8
              have HD8 := Lib.hid hD8
              obtain ⟨xl, hxl⟩ : ∃ xl, (cRun m i n).length = xl := ⟨_, rfl⟩
              have Hxl := Lib.hid hxl
              rw [hxl]
              clear hk8 hs8 hf8 hsk8 hD8 HD7 hxl
              go_wp2_with fail
              refine k9.mono ?_
              clear k9
              rintro e w9 ⟨p', S1, S', rfl, hcop, hS1, hk9⟩
              have hD9 := HD8.out.next hk9
              obtain ⟨B', rfl⟩ := C.ptr hcop
              have hQ : Quad C.toCC w2.heap.size w2 (.pointer (some ⟨B, 0, none⟩)) m S' (.pointer (some ⟨B', 0, none⟩)) m S1 (.slice (some ⟨g, 0, none⟩) ml gc) R w9 :=
                ⟨hD9, ⟨hcop, fun b hb => Nat.le_trans HD8.out.size (hS1 b hb).1, hD9.up, hD9.size, hD9.row, fun g' hg' hq => Nat.lt_irrefl _ (Nat.lt_of_lt_of_le (HD8.out.row.lt g' hg') (hS1 g' hq).1)⟩, fun b hb hb1 => (hS1 b hb1).2 hb⟩
              have hsk9 := HS8.out.keep hk9.2.2 hk9.2.1
              have hsk9' : SpK S1 w9 _ (cRun m i n) := ⟨hsk9.1, fun hx g' e => ⟨(hsk9.2 hx g' e).1, fun q => Nat.lt_irrefl _ (Nat.lt_of_lt_of_le (HS8.out.2 hx g' e).1 (hS1 g' q).1)⟩⟩
              have HQ := Lib.hid hQ
              have HSK := Lib.hid hsk9
              have HSK' := Lib.hid hsk9'
              clear hD9 hcop hS1 hQ hsk9 hsk9' hk9 HS8 HD8
              have hbn : Below w9.heap.size w9 (w9.alloc (.cells #[.int .i64 16, .int .i64 549755813888] 32)) := (Below.refl _ w9).alloc (Nat.le_refl _) _
              have hqa := HQ.out.below hbn
              have hnb := heap_alloc_new w9 (.cells #[.int .i64 16, .int .i64 549755813888] 32)
              have hSk := HSK.out.keep (Keep.of_below hbn (Nat.le_refl _)) (S' := S') (fun b h => .inl h)
              have hSk' := HSK'.out.keep (Keep.of_below hbn (Nat.le_refl _)) (S' := S1) (fun b h => .inl h)
              have k10 := C.doOp 16 549755813888 0 1 p ⟨#[120, 121]⟩ (.slice none 0 0) [] _ m S' _ hqa.fst.doc (HT.out.below (Hb2.out.trans (hqa.fst.up.mono Hb2.out.size))) (SpAt.nil _) ⟨by decide, by decide, by decide, by decide, by have := HQ.out.fst.doc; simp only [Lit.wf, Bool.and_eq_true, decide_eq_true_eq, show IntKind.i64.min = -9223372036854775808 from rfl, show IntKind.i64.max = 9223372036854775807 from rfl]; omega⟩ (by decide) (by decide) (sWf_may (by decide))
              rw [show (⟨16, 549755813888, 0, 1, (p : Int), (⟨#[120, 121]⟩ : ByteArray).data.toList, []⟩ : POp) = edIns p from rfl] at k10
              unfold opV at k10
              have Hnb := Lib.hid hnb
              have Hqa := Lib.hid hqa
              have HSk := Lib.hid hSk
              have HSk' := Lib.hid hSk'
              have hsz9 : w9.heap.size < (w9.alloc (.cells #[.int .i64 16, .int .i64 549755813888] 32)).heap.size := by simp
              have hapN : ¬ S' w9.heap.size := fun h => by have := C.low HQ.out.fst.doc _ h; omega
              have hapN' : ¬ S1 w9.heap.size := fun h => by have := C.low HQ.out.snd.doc _ h; omega
              clear hbn hqa hnb hSk hSk' HQ HSK HSK'
              go_wp2_with fail
              generalize w9.alloc (.cells #[.int .i64 16, .int .i64 549755813888] 32) = w10 at *
              refine k10.mono ?_
              clear k10
              rintro e w11 ⟨S11, hk11, rfl⟩
              have hq11 := Hqa.out.next hk11
              have hnb11 := (hk11.2.2.block w9.heap.size hsz9 hapN).trans Hnb.out
              have n0 := cell_of_row _ _ 0 _ _ _ hnb11
              have n1 := cell_of_row _ _ 1 _ _ _ hnb11
              simp only [List.getElem?_toArray, List.getElem?_cons_zero, List.getElem?_cons_succ] at n0 n1
              have hdl := del_run (l := m) (i := i) (n := n) hle
              have hsp11 := (HSk.out.keep hk11.2.2 hk11.2.1).1
              rw [Hxl.out] at hsp11
              have k12 := C.doOp 16 549755813888 0 2 0 ⟨#[]⟩ (.slice va8 xl vc8) (cRun m i n) _ m S1 _ hq11.snd.doc (HT.out.below (Hb2.out.trans (hq11.fst.up.mono Hb2.out.size))) hsp11 ⟨by decide, by decide, by decide, by decide, by decide⟩ (by decide) (by have : (cRun m i n).length ≤ 20000 := sMade_length _ _; exact this) (sWf_may ((sMay_good _).2 (sMade_good _ _ (Nat.le_refl _))))
              rw [show (⟨16, 549755813888, 0, 2, 0, (⟨#[]⟩ : ByteArray).data.toList, cRun m i n⟩ : POp) = edDel m i n from rfl, hdl.1] at k12
              unfold opV at k12
              have Hq11 := Lib.hid hq11
              have Hdl := Lib.hid hdl
              obtain ⟨⟨mi, ei⟩, hXi⟩ : ∃ X, cDo m (edIns p) = X := ⟨_, rfl⟩
              obtain ⟨⟨md, ed⟩, hXd⟩ : ∃ X, cDo m (edDel m i n) = X := ⟨_, rfl⟩
              have HXi := Lib.hid hXi
              have HXd := Lib.hid hXd
              rw [hXd] at k12
              rw [hXi] at Hq11 ⊢
              clear hdl hsp11 hq11 hk11 hXi hXd Hqa HSk HSk'
              go_wp2_with fail
              refine k12.mono ?_
              clear k12
              rintro e w12 ⟨S12, hk12, rfl⟩
              have hq12 := (Hq11.out.swap.next hk12).swap
              have HQ12 : RowKit.Hid (∃ S S', Quad C.toCC w2.heap.size w2 (.pointer (some ⟨B, 0, none⟩)) mi S (.pointer (some ⟨B', 0, none⟩)) md S' (.slice (some ⟨g, 0, none⟩) ml gc) R w12) := Lib.hid ⟨_, _, hq12⟩
              clear hq12 hk12 Hq11 n0 n1 hnb11 hapN hapN' Hnb
              have ht0 : cText md = ⟨(joinL (R.take i ++ R.drop (i + n))).toArray⟩ := by
                obtain ⟨S, S', hq⟩ := HQ12.out
                rw [text_join (C.may hq.snd.doc)]
                have := Hdl.out.2
                rw [HXd.out, HR.out] at this
                rw [this]
              have Ht0 := Lib.hid ht0
              clear ht0
              have hm20 : ml ≤ 20000 := by rw [← Hml.out, HRl.out]; exact hlv
              obtain ⟨P1, hP1⟩ : ∃ P : ByteArray, (⟨(joinL (R.take i)).toArray⟩ : ByteArray) = P := ⟨_, rfl⟩
              obtain ⟨P2, hP2⟩ : ∃ P : ByteArray, (⟨(joinL (R.drop (i + n))).toArray⟩ : ByteArray) = P := ⟨_, rfl⟩
              have hcat : (⟨(joinL (R.take i ++ R.drop (i + n))).toArray⟩ : ByteArray) = P1 ++ P2 := by
                rw [← hP1, ← hP2, joinL_append]
                apply ByteArray.ext
                apply Array.ext'
                simp
              have hs1 : P1.size ≤ 1000000 := by rw [← hP1]; exact size_joinR _ (by rw [List.length_take, Hml.out]; omega)
              have hs2 : P2.size ≤ 1000000 := by rw [← hP2]; exact size_joinR _ (by rw [List.length_drop, Hml.out]; omega)
              have hc1 := fun W (hq : RowC 1 W (.slice (some ⟨g, 0, none⟩) ml gc) R.length (R.map (Value.int .i32))) => conv_pre hq Hml.out hil Hv.out
              have hc2 := fun W (hq : RowC 1 W (.slice (some ⟨g, 0, none⟩) ml gc) R.length (R.map (Value.int .i32))) => conv_suf (k := i + n) (c' := gc - (i + n)) hq Hml.out hinl Hv.out
              rw [hP1] at hc1
              rw [hP2] at hc2
              obtain ⟨ad, had⟩ : ∃ ad : Addr, (if gc = i + n then some (⟨g, 0, none⟩ : Addr) else some ⟨g, i + n, none⟩) = some ad := by split <;> exact ⟨_, rfl⟩
              rw [had] at hc2
              have Had := Lib.hid had
              have HC1 := Lib.hid hc1
              have HC2 := Lib.hid hc2
              have kT := fun W (h : (∃ S S', Quad C.toCC w2.heap.size w2 (.pointer (some ⟨B, 0, none⟩)) mi S (.pointer (some ⟨B', 0, none⟩)) md S' (.slice (some ⟨g, 0, none⟩) ml gc) R W)) => quad_text C h
              rw [Ht0.out, hcat] at kT
              have hw : IntKind.i64.wrap ((i : Int) + (n : Int)) = (i : Int) + (n : Int) := by simp only [IntKind.wrap_i64]; omega
              have htn : ((i : Int) + (n : Int)).toNat = i + n := by omega
              have hgc : ml ≤ gc := by obtain ⟨_, _, hq⟩ := HQ12.out; obtain ⟨_, _, _, e, h1, _⟩ := hq.fst.row; cases e; rw [← Hml.out] at *; exact h1
              have hb1 : (0 : Int) ≤ (i : Int) ∧ (i : Int) ≤ (gc : Int) := ⟨by omega, by omega⟩
              have hb2' : (0 : Int) ≤ (i : Int) + (n : Int) ∧ (i : Int) + (n : Int) ≤ (ml : Int) := ⟨by omega, by omega⟩
              have hb3 : P1.size + P2.size ≤ 9223372036854775807 := by omega
              have hdr : (∃ S S', Quad C.toCC w2.heap.size w2 (.pointer (some ⟨B, 0, none⟩)) mi S (.pointer (some ⟨B', 0, none⟩)) md S' (.slice (some ⟨g, 0, none⟩) ml gc) R w12.drew) := by
                obtain ⟨_, _, hq⟩ := HQ12.out
                exact ⟨_, _, hq.below (Below.refl _ _).drew⟩
              have HP1 := Lib.hid hP1
              clear hc1 hc2 hP1 hP2 HQ12 had
              have hed : ed = 0 := by have := Hdl.out.1; rw [HXd.out] at this; exact this
              go_upto_region 22 with fail
              refine wp_region_held_drew (S := fun W => (∃ S S', Quad C.toCC w2.heap.size w2 (.pointer (some ⟨B, 0, none⟩)) mi S (.pointer (some ⟨B', 0, none⟩)) md S' (.slice (some ⟨g, 0, none⟩) ml gc) R W)) (by kernel_rfl) hdr (fun hHeld => ?_)
              refine wpAnyH_take (i := 0) (v := .int .i64 0) rfl (by kernel_rfl) (by kernel_rfl) (by kernel_rfl) (fun _ _ _ h => h) (Or.inl ⟨rfl, fun W hS => by go_simp⟩) (by assumption) ?_
              refine wpAnyH_take (i := 1) (v := .bool false) rfl (by kernel_rfl) (by kernel_rfl) (by kernel_rfl) (fun _ _ _ h => h) (Or.inl ⟨rfl, fun W hS => by go_simp⟩) (by assumption) ?_
              simp only [Act.put, List.getElem_toArray, List.getElem_cons_succ, List.getElem_cons_zero, List.setIfInBounds_toArray, List.set_cons_zero, List.set_cons_succ]
              refine wpAnyH_take (i := 2) (v := .bool false) rfl (by kernel_rfl) (by kernel_rfl) (by kernel_rfl) (fun _ _ _ h => h) (Or.inl ⟨rfl, fun W hS => by go_simp⟩) (by assumption) ?_
              simp only [Act.put, List.getElem_toArray, List.getElem_cons_succ, List.getElem_cons_zero, List.setIfInBounds_toArray, List.set_cons_zero, List.set_cons_succ]
              refine wpAnyH_take (i := 3) (v := .pointer (some ⟨B', 0, none⟩)) rfl (by kernel_rfl) (by kernel_rfl) (by kernel_rfl) (fun _ _ _ h => h) (Or.inl ⟨rfl, fun W hS => by go_simp⟩) (by assumption) ?_
              simp only [Act.put, List.getElem_toArray, List.getElem_cons_succ, List.getElem_cons_zero, List.setIfInBounds_toArray, List.set_cons_zero, List.set_cons_succ]
              refine wpAnyH_take (i := 5) (v := .slice (some ⟨g, 0, none⟩) ml gc) rfl (by kernel_rfl) (by kernel_rfl) (by kernel_rfl) (fun _ _ _ h => h) (Or.inl ⟨rfl, fun W hS => by go_simp⟩) (by assumption) ?_
              simp only [Act.put, List.getElem_toArray, List.getElem_cons_succ, List.getElem_cons_zero, List.setIfInBounds_toArray, List.set_cons_zero, List.set_cons_succ]
              refine wpAnyH_take (i := 6) (v := .int .i64 i) rfl (by kernel_rfl) (by kernel_rfl) (by kernel_rfl) (fun _ _ _ h => h) (Or.inl ⟨rfl, fun W hS => by go_simp⟩) (by assumption) ?_
              simp only [Act.put, List.getElem_toArray, List.getElem_cons_succ, List.getElem_cons_zero, List.setIfInBounds_toArray, List.set_cons_zero, List.set_cons_succ]
              refine wpAnyH_take (i := 7) (v := .slice (some ⟨g, 0, none⟩) i gc) rfl (by kernel_rfl) (by kernel_rfl) (by kernel_rfl) (fun _ _ _ h => h) (Or.inl ⟨rfl, fun W hS => by go_simp⟩) (by assumption) ?_
              simp only [Act.put, List.getElem_toArray, List.getElem_cons_succ, List.getElem_cons_zero, List.setIfInBounds_toArray, List.set_cons_zero, List.set_cons_succ]
              refine wpAnyH_take (i := 8) (v := .string P1) rfl (by kernel_rfl) (by kernel_rfl) (by kernel_rfl) (fun _ _ _ h => h) (Or.inl ⟨rfl, fun W hS => ?_⟩) (by assumption) ?_
              · obtain ⟨_, _, hq⟩ := hS
                have hz := HC1.out W hq.fst.row
                go_simp
              simp only [Act.put, List.getElem_toArray, List.getElem_cons_succ, List.getElem_cons_zero, List.setIfInBounds_toArray, List.set_cons_zero, List.set_cons_succ]
              refine wpAnyH_take (i := 9) (v := .slice (some ⟨g, 0, none⟩) ml gc) rfl (by kernel_rfl) (by kernel_rfl) (by kernel_rfl) (fun _ _ _ h => h) (Or.inl ⟨rfl, fun W hS => by go_simp⟩) (by assumption) ?_
              simp only [Act.put, List.getElem_toArray, List.getElem_cons_succ, List.getElem_cons_zero, List.setIfInBounds_toArray, List.set_cons_zero, List.set_cons_succ]
              refine wpAnyH_take (i := 10) (v := .int .i64 i) rfl (by kernel_rfl) (by kernel_rfl) (by kernel_rfl) (fun _ _ _ h => h) (Or.inl ⟨rfl, fun W hS => by go_simp⟩) (by assumption) ?_
              simp only [Act.put, List.getElem_toArray, List.getElem_cons_succ, List.getElem_cons_zero, List.setIfInBounds_toArray, List.set_cons_zero, List.set_cons_succ]
              refine wpAnyH_take (i := 11) (v := .int .i64 n) rfl (by kernel_rfl) (by kernel_rfl) (by kernel_rfl) (fun _ _ _ h => h) (Or.inl ⟨rfl, fun W hS => by go_simp⟩) (by assumption) ?_
              simp only [Act.put, List.getElem_toArray, List.getElem_cons_succ, List.getElem_cons_zero, List.setIfInBounds_toArray, List.set_cons_zero, List.set_cons_succ]
              refine wpAnyH_take (i := 12) (v := .int .i64 ((i : Int) + (n : Int))) rfl (by kernel_rfl) (by kernel_rfl) (by kernel_rfl) (fun _ _ _ h => h) (Or.inl ⟨rfl, fun W hS => by go_simp⟩) (by assumption) ?_
              simp only [Act.put, List.getElem_toArray, List.getElem_cons_succ, List.getElem_cons_zero, List.setIfInBounds_toArray, List.set_cons_zero, List.set_cons_succ]
              refine wpAnyH_take (i := 13) (v := .slice (some ad) (ml - (i + n)) (gc - (i + n))) rfl (by kernel_rfl) (by kernel_rfl) (by kernel_rfl) (fun _ _ _ h => h) (Or.inl ⟨rfl, fun W hS => by go_simp; exact Had.out⟩) (by assumption) ?_
              simp only [Act.put, List.getElem_toArray, List.getElem_cons_succ, List.getElem_cons_zero, List.setIfInBounds_toArray, List.set_cons_zero, List.set_cons_succ]
              refine wpAnyH_take (i := 14) (v := .string P2) rfl (by kernel_rfl) (by kernel_rfl) (by kernel_rfl) (fun _ _ _ h => h) (Or.inl ⟨rfl, fun W hS => ?_⟩) (by assumption) ?_
              · obtain ⟨_, _, hq⟩ := hS
                have hz := HC2.out W hq.fst.row
                go_simp
              simp only [Act.put, List.getElem_toArray, List.getElem_cons_succ, List.getElem_cons_zero, List.setIfInBounds_toArray, List.set_cons_zero, List.set_cons_succ]
              refine wpAnyH_take (i := 15) (v := .string (P1 ++ P2)) rfl (by kernel_rfl) (by kernel_rfl) (by kernel_rfl) (fun _ _ _ h => h) (Or.inl ⟨rfl, fun W hS => by go_simp⟩) (by assumption) ?_
              simp only [Act.put, List.getElem_toArray, List.getElem_cons_succ, List.getElem_cons_zero, List.setIfInBounds_toArray, List.set_cons_zero, List.set_cons_succ]
              refine wpAnyH_ready (rs := [4]) (by kernel_rfl) (by simp) (AllReadyH.cons rfl (fun K hK => ?_) AllReadyH.nil)
              go_simp
              go_wp2_with (go_at_call 18; refine (kT _ hHeld).mono ?_; rintro e wq ⟨rfl, hq⟩)
              refine hK.out _ _ (hq) (fun hX => ?_)
              clear hK K hHeld
              have hHeld := hX
              clear hX
              refine wpAnyH_take (i := 16) (v := .bool false) rfl (by kernel_rfl) (by kernel_rfl) (by kernel_rfl) (fun _ _ _ h => h) (Or.inl ⟨rfl, fun W hS => by go_simp⟩) (by assumption) ?_
              simp only [Act.put, List.getElem_toArray, List.getElem_cons_succ, List.getElem_cons_zero, List.setIfInBounds_toArray, List.set_cons_zero, List.set_cons_succ]
              refine wpAnyH_take (i := 17) (v := .bool false) rfl (by kernel_rfl) (by kernel_rfl) (by kernel_rfl) (fun _ _ _ h => h) (Or.inl ⟨rfl, fun W hS => by go_simp⟩) (by assumption) ?_
              simp only [Act.put, List.getElem_toArray, List.getElem_cons_succ, List.getElem_cons_zero, List.setIfInBounds_toArray, List.set_cons_zero, List.set_cons_succ]
              refine wpAnyH_done (by kernel_rfl) ?_ _
              obtain ⟨S13, S13', hq13⟩ := hHeld
              have HQ13 : RowKit.Hid (∃ S S', Quad C.toCC w2.heap.size w2 (.pointer (some ⟨B, 0, none⟩)) mi S (.pointer (some ⟨B', 0, none⟩)) md S' (.slice (some ⟨g, 0, none⟩) ml gc) R wq) := Lib.hid ⟨_, _, hq13⟩
              have hig := ins_gap hpl hle
              rw [HXi.out] at hig
              simp only at hig
              have k14 := hq13.call (C.size _ mi S13 wq hq13.fst.doc)
              clear hq13 kT HC2 Had hb2' hb3 htn hw
              rcases hig with ⟨he0, hti⟩ | ⟨⟨he⟩ | ⟨he, hbig⟩, hmi⟩
              case inr.inl =>
                subst he
                clear k14
                have hz1 : Below w.heap.size w wq := by obtain ⟨_, _, hq⟩ := HQ13.out; exact Hb2.out.trans (hq.fst.up.mono Hb2.out.size)
                go_wp2
                go_ret
                exact ⟨rfl, hz1⟩
              case inr.inr =>
                subst he
                rw [hmi] at k14
                have hbg : (19998 : Int) < (m.length : Int) := by omega
                obtain ⟨mm, hmm⟩ : ∃ mm, m.length = mm := ⟨_, rfl⟩
                rw [hmm] at k14 hbg
                clear hmi hmm hbig
                go_wp2_with fail
                refine k14.mono ?_
                clear k14
                rintro e w14 ⟨rfl, S14, hq14⟩
                have hz1 := Hb2.out.trans (hq14.fst.up.mono Hb2.out.size)
                clear hq14
                go_wp2
                go_ret
                exact ⟨rfl, hz1⟩
              case inl =>
                subst he0
                clear k14
                rw [HR.out, hsp] at hti
                have ht3 : cText mi = ⟨(joinL (R.take i ++ ([120, 121] ++ R.drop i))).toArray⟩ := by
                  obtain ⟨S, S', hq⟩ := HQ13.out
                  rw [text_join (C.may hq.fst.doc), hti]
                obtain ⟨P3, hP3⟩ : ∃ P : ByteArray, (⟨(joinL (R.drop i)).toArray⟩ : ByteArray) = P := ⟨_, rfl⟩
                have hcat3 : (⟨(joinL (R.take i ++ ([120, 121] ++ R.drop i))).toArray⟩ : ByteArray) = P1 ++ ⟨#[120, 121]⟩ ++ P3 := by
                  rw [← HP1.out, ← hP3, joinL_append, joinL_append, show joinL [120, 121] = [120, 121] by decide]
                  apply ByteArray.ext
                  apply Array.ext'
                  simp
                have hs3 : P3.size ≤ 1000000 := by rw [← hP3]; exact size_joinR _ (by rw [List.length_drop, Hml.out]; omega)
                have hc3 := fun W (hq : RowC 1 W (.slice (some ⟨g, 0, none⟩) ml gc) R.length (R.map (Value.int .i32))) => conv_suf (k := i) (c' := gc - i) hq Hml.out hil Hv.out
                rw [hP3] at hc3
                obtain ⟨ae, hae⟩ : ∃ ad : Addr, (if gc = i then some (⟨g, 0, none⟩ : Addr) else some ⟨g, i, none⟩) = some ad := by split <;> exact ⟨_, rfl⟩
                rw [hae] at hc3
                have Hae := Lib.hid hae
                have HC3 := Lib.hid hc3
                have kU := fun W (h : (∃ S S', Quad C.toCC w2.heap.size w2 (.pointer (some ⟨B, 0, none⟩)) mi S (.pointer (some ⟨B', 0, none⟩)) md S' (.slice (some ⟨g, 0, none⟩) ml gc) R W)) => quad_text2 C h
                rw [ht3, hcat3] at kU
                have hb4 : (0 : Int) ≤ (i : Int) ∧ (i : Int) ≤ (ml : Int) := ⟨by omega, by omega⟩
                have hsz2 : (⟨#[120, 121]⟩ : ByteArray).size = 2 := rfl
                have hb5 : P1.size + (⟨#[120, 121]⟩ : ByteArray).size ≤ 9223372036854775807 := by omega
                have hb6 : (P1 ++ (⟨#[120, 121]⟩ : ByteArray)).size + P3.size ≤ 9223372036854775807 := by rw [ByteArray.size_append]; omega
                have hdr3 : (∃ S S', Quad C.toCC w2.heap.size w2 (.pointer (some ⟨B, 0, none⟩)) mi S (.pointer (some ⟨B', 0, none⟩)) md S' (.slice (some ⟨g, 0, none⟩) ml gc) R wq.drew) := by
                  obtain ⟨_, _, hq⟩ := HQ13.out
                  exact ⟨_, _, hq.below (Below.refl _ _).drew⟩
                clear hc3 hP3 hae ht3 hti hcat3 HQ13
                go_upto_region 26 with fail
                refine wp_region_held_drew (S := fun W => (∃ S S', Quad C.toCC w2.heap.size w2 (.pointer (some ⟨B, 0, none⟩)) mi S (.pointer (some ⟨B', 0, none⟩)) md S' (.slice (some ⟨g, 0, none⟩) ml gc) R W)) (by kernel_rfl) hdr3 (fun hHeld => ?_)
                refine wpAnyH_take (i := 0) (v := .pointer (some ⟨B, 0, none⟩)) rfl (by kernel_rfl) (by kernel_rfl) (by kernel_rfl) (fun _ _ _ h => h) (Or.inl ⟨rfl, fun W hS => by go_simp⟩) (by assumption) ?_
                refine wpAnyH_take (i := 2) (v := .slice (some ⟨g, 0, none⟩) ml gc) rfl (by kernel_rfl) (by kernel_rfl) (by kernel_rfl) (fun _ _ _ h => h) (Or.inl ⟨rfl, fun W hS => by go_simp⟩) (by assumption) ?_
                simp only [Act.put, List.getElem_toArray, List.getElem_cons_succ, List.getElem_cons_zero, List.setIfInBounds_toArray, List.set_cons_zero, List.set_cons_succ]
                refine wpAnyH_take (i := 3) (v := .int .i64 i) rfl (by kernel_rfl) (by kernel_rfl) (by kernel_rfl) (fun _ _ _ h => h) (Or.inl ⟨rfl, fun W hS => by go_simp⟩) (by assumption) ?_
                simp only [Act.put, List.getElem_toArray, List.getElem_cons_succ, List.getElem_cons_zero, List.setIfInBounds_toArray, List.set_cons_zero, List.set_cons_succ]
                refine wpAnyH_take (i := 4) (v := .slice (some ⟨g, 0, none⟩) i gc) rfl (by kernel_rfl) (by kernel_rfl) (by kernel_rfl) (fun _ _ _ h => h) (Or.inl ⟨rfl, fun W hS => by go_simp⟩) (by assumption) ?_
                simp only [Act.put, List.getElem_toArray, List.getElem_cons_succ, List.getElem_cons_zero, List.setIfInBounds_toArray, List.set_cons_zero, List.set_cons_succ]
                refine wpAnyH_take (i := 5) (v := .string P1) rfl (by kernel_rfl) (by kernel_rfl) (by kernel_rfl) (fun _ _ _ h => h) (Or.inl ⟨rfl, fun W hS => ?_⟩) (by assumption) ?_
                · obtain ⟨_, _, hq⟩ := hS
                  have hz := HC1.out W hq.fst.row
                  go_simp
                simp only [Act.put, List.getElem_toArray, List.getElem_cons_succ, List.getElem_cons_zero, List.setIfInBounds_toArray, List.set_cons_zero, List.set_cons_succ]
                refine wpAnyH_take (i := 6) (v := .string (P1 ++ ⟨#[120, 121]⟩)) rfl (by kernel_rfl) (by kernel_rfl) (by kernel_rfl) (fun _ _ _ h => h) (Or.inl ⟨rfl, fun W hS => by go_simp; omega⟩) (by assumption) ?_
                simp only [Act.put, List.getElem_toArray, List.getElem_cons_succ, List.getElem_cons_zero, List.setIfInBounds_toArray, List.set_cons_zero, List.set_cons_succ]
                refine wpAnyH_take (i := 7) (v := .slice (some ⟨g, 0, none⟩) ml gc) rfl (by kernel_rfl) (by kernel_rfl) (by kernel_rfl) (fun _ _ _ h => h) (Or.inl ⟨rfl, fun W hS => by go_simp⟩) (by assumption) ?_
                simp only [Act.put, List.getElem_toArray, List.getElem_cons_succ, List.getElem_cons_zero, List.setIfInBounds_toArray, List.set_cons_zero, List.set_cons_succ]
                refine wpAnyH_take (i := 8) (v := .int .i64 i) rfl (by kernel_rfl) (by kernel_rfl) (by kernel_rfl) (fun _ _ _ h => h) (Or.inl ⟨rfl, fun W hS => by go_simp⟩) (by assumption) ?_
                simp only [Act.put, List.getElem_toArray, List.getElem_cons_succ, List.getElem_cons_zero, List.setIfInBounds_toArray, List.set_cons_zero, List.set_cons_succ]
                refine wpAnyH_take (i := 9) (v := .slice (some ae) (ml - i) (gc - i)) rfl (by kernel_rfl) (by kernel_rfl) (by kernel_rfl) (fun _ _ _ h => h) (Or.inl ⟨rfl, fun W hS => by go_simp; exact Hae.out⟩) (by assumption) ?_
                simp only [Act.put, List.getElem_toArray, List.getElem_cons_succ, List.getElem_cons_zero, List.setIfInBounds_toArray, List.set_cons_zero, List.set_cons_succ]
                refine wpAnyH_take (i := 10) (v := .string P3) rfl (by kernel_rfl) (by kernel_rfl) (by kernel_rfl) (fun _ _ _ h => h) (Or.inl ⟨rfl, fun W hS => ?_⟩) (by assumption) ?_
                · obtain ⟨_, _, hq⟩ := hS
                  have hz := HC3.out W hq.fst.row
                  go_simp
                simp only [Act.put, List.getElem_toArray, List.getElem_cons_succ, List.getElem_cons_zero, List.setIfInBounds_toArray, List.set_cons_zero, List.set_cons_succ]
                refine wpAnyH_take (i := 11) (v := .string (P1 ++ ⟨#[120, 121]⟩ ++ P3)) rfl (by kernel_rfl) (by kernel_rfl) (by kernel_rfl) (fun _ _ _ h => h) (Or.inl ⟨rfl, fun W hS => by go_simp; omega⟩) (by assumption) ?_
                simp only [Act.put, List.getElem_toArray, List.getElem_cons_succ, List.getElem_cons_zero, List.setIfInBounds_toArray, List.set_cons_zero, List.set_cons_succ]
                refine wpAnyH_ready (rs := [1]) (by kernel_rfl) (by simp) (AllReadyH.cons rfl (fun K hK => ?_) AllReadyH.nil)
                go_simp
                go_wp2_with (go_at_call 18; refine (kU _ hHeld).mono ?_; rintro e wq ⟨rfl, hq⟩)
                refine hK.out _ _ (hq) (fun hX => ?_)
                clear hK K hHeld
                have hHeld := hX
                clear hX
                refine wpAnyH_take (i := 12) (v := .bool true) rfl (by kernel_rfl) (by kernel_rfl) (by kernel_rfl) (fun _ _ _ h => h) (Or.inl ⟨rfl, fun W hS => by go_simp⟩) (by assumption) ?_
                simp only [Act.put, List.getElem_toArray, List.getElem_cons_succ, List.getElem_cons_zero, List.setIfInBounds_toArray, List.set_cons_zero, List.set_cons_succ]
                refine wpAnyH_take (i := 13) (v := .bool true) rfl (by kernel_rfl) (by kernel_rfl) (by kernel_rfl) (fun _ _ _ h => h) (Or.inl ⟨rfl, fun W hS => by go_simp⟩) (by assumption) ?_
                simp only [Act.put, List.getElem_toArray, List.getElem_cons_succ, List.getElem_cons_zero, List.setIfInBounds_toArray, List.set_cons_zero, List.set_cons_succ]
                refine wpAnyH_done (by kernel_rfl) ?_ _
                obtain ⟨S15, S15', hq15⟩ := hHeld
                have hz1 := Hb2.out.trans (hq15.fst.up.mono Hb2.out.size)
                clear hq15 kU HC1 HC3 Hae hb4 hb5 hb6 hdr3
                go_wp2
                go_ret
                exact ⟨rfl, hz1⟩
end Go.Proofs.YtfoglciiefoodaaGreatDoor
