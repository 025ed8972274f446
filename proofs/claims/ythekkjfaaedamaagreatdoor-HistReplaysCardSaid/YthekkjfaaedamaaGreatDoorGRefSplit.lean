/- Texts of this proof, joined. -/
import Derived.Test.YthekkjfaaedamaaGreatDoorFirst
import Derived.Maps.AppendAt
import Derived.RangeFuncBox
import Derived.Test.YthekkjfaaedamaaGreatDoorGRefOps
import Derived.Deep.RegionHeldLaw
import Derived.Deep.AppendLies
import Derived.Test.YthekkjfaaedamaaGreatDoorGNameEq
import Derived.Test.YthekkjfaaedamaaGreatDoorGPlain
import Derived.Test.YthekkjfaaedamaaGreatDoorGConvOwn
import Derived.Deep.QuietTactic
import Derived.Test.YthekkjfaaedamaaGreatDoorGReads64
import Derived.Test.YthekkjfaaedamaaGreatDoorTabW
namespace Go.Proofs.YthekkjfaaedamaaGreatDoor
open Go.RowKit

theorem infoI32' : (Tryz.prog.info? 21).map (fun i => (i.zero, i.size, i.bytes)) = some (some (.int .i32 0), 1, 4) := by kernel_rfl
def strLen : Value → Nat | .string t => t.size | _ => 0
theorem extract_tail (t : ByteArray) (k : Nat) : (t.extract k t.size).data.toList = t.data.toList.drop k := by
 rw [Lib.extract_data, List.take_of_length_le]
 rw [List.length_drop, Lib.size_eq]; omega

def SplitPost (w : World) (o : Option (List Int)) (e : Ending) (w' : World) : Prop :=
 Below w.heap.size w w' ∧ match o with
  | none => e = .returned (.tuple #[.slice none 0 0, .bool false])
  | some rs => ∃ v, e = .returned (.tuple #[v, .bool true]) ∧ w'.ownsRow w.heap.size 21 1 v rs.length (rs.map (Value.int .i32))

set_option maxRecDepth 100000 in
set_option maxHeartbeats 1000000 in
theorem rsplit_any (s : ByteArray) (hs : s.size ≤ 1000000) (w : World) :
  Calls Tryz.prog 54 #[.string s] w (SplitPost w (runesL s.data.toList)) := by
 obtain ⟨i0, hi, hz0, hz1, hz2⟩ := info_parts infoI32'
 go_enter Tryz.func54, Tryz.ntmps54
 go_wp2
 go_loopw [0, 4] (fun sv v wr => ∃ (t : ByteArray) (acc : List Int), sv = .string t ∧ wr.ownsRow w.heap.size 21 1 v acc.length (acc.map (Value.int .i32)) ∧ runesL s.data.toList = (runesL t.data.toList).map (acc ++ ·) ∧ acc.length + t.size ≤ s.size ∧ Below w.heap.size w wr) (fun sv _ _ => strLen sv)
 case atStart => exact ⟨s, [], rfl, World.ownsRow_nil _ _ _ _, by cases runesL s.data.toList <;> rfl, by simp, Below.refl _ _⟩
 case round =>
  obtain ⟨t, acc, rfl, hown, hr, hlen, hb⟩ := hrel
  have Hr := Lib.hid hr
  clear hr
  rcases Nat.eq_zero_or_pos t.size with h0 | h0
  ·have ht : t.data.toList = [] := List.eq_nil_of_length_eq_zero (by rw [← Lib.size_eq]; exact h0)
   have hfin : runesL s.data.toList = some acc := by rw [Hr.out, ht]; simp [runesL_nil]
   have Hf := Lib.hid hfin
   have h0' : ¬ (0 : Int) < (t.size : Int) := by omega
   clear hfin ht h0
   go_wp2
   go_ret2
   rw [Hf.out]
   exact ⟨hb, u4, rfl, hown⟩
  ·have h0' : (0 : Int) < (t.size : Int) := by omega
   have hF := fun w => first_any t (by omega) h0 w
   cases hbad : badL t.data.toList with
   | true =>
    rw [firstR_bad hbad, firstK_bad hbad] at hF
    have hfin : runesL s.data.toList = none := by rw [Hr.out, runesL_bad _ (nonempty_of h0) hbad]; rfl
    have Hf := Lib.hid hfin
    clear hfin hbad
    go_wp2_with (go_at_call 75; refine (hF _).mono ?_; rintro e w1 ⟨rfl, hb1⟩)
    go_ret2
    rw [Hf.out]
    exact ⟨hb.trans (hb1.mono hb.size), rfl⟩
   | false =>
    have hstep := runesL_step _ (nonempty_of h0) hbad
    obtain ⟨b1, b2, b3, b4⟩ := decodeL_bound _ (nonempty_of h0) hbad
    have eR : firstR t.data.toList = ((Lib.decodeL t.data.toList).1 : Int) := by unfold firstR; rw [hbad]; rfl
    have eK : firstK t.data.toList = (Lib.decodeL t.data.toList).2 := by unfold firstK; rw [hbad]; rfl
    rw [eR, eK] at hF
    rw [← Lib.size_eq] at b4
    generalize (Lib.decodeL t.data.toList).1 = R at *
    generalize (Lib.decodeL t.data.toList).2 = K at *
    have hK0 : ((K : Int) == 0) = false := beq_eq_false_iff_ne.2 (by omega)
    have hnext : runesL s.data.toList = (runesL (t.extract K t.size).data.toList).map ((acc ++ [(R : Int)]) ++ ·) := by
     rw [Hr.out, hstep, extract_tail]
     cases runesL (t.data.toList.drop K) <;> simp
    have Hn := Lib.hid hnext
    clear hnext hstep eR eK hbad
    go_wp2_with (first
     | (go_at_call 75; refine (hF _).mono ?_; clear hF; rintro e w1 ⟨rfl, hb1⟩; have hown1 := hown.kept (w' := w1) (row := none) ⟨hb1.os, hb1.tape, hb1.output, hb1.size, fun i hi _ => hb1.block i hi⟩ (Decidable.em (u4.ownBlock = none)); have hbw1 := hb.trans (hb1.mono hb.size))
     | (at_builtin; go_must (refine wpList_append_own _ rfl _ _ 101 rfl w.heap.size 21 i0 (.int .i32 0) 1 4 Tryz.underlying101 hi hz0 hz1 hz2 rfl (by decide) _ _ _ rfl (hown1.alloc _) ⟨w1.heap.size, 0, none⟩ 1 1 [.int .i32 R] rfl rfl (cell_one_new _ _ _) (by simp [Value.oneCell']) (by unfold maxLen; omega) (by omega) (by have := hbw1.size; simp; omega) ?_; intro v' w3 hown' hgrow _)))
    refine ⟨⟨_, acc ++ [(R : Int)], rfl, by simpa using hown', Hn.out, by simp; omega, ?_⟩, by simp [strLen]; omega⟩
    exact (hbw1.alloc hbw1.size _).grown hgrow (by have := hbw1.size; simp; omega) (fun k hk => (hown1.lt k hk).1)

set_option maxHeartbeats 400000 in
theorem rlen_any (s : ByteArray) (hs : s.size ≤ 1000000) (w : World) :
  Calls Tryz.prog 72 #[.string s] w fun e w' => e = .returned (.int .i64 (match runesL s.data.toList with | some rs => (rs.length : Int) | none => -1)) ∧ Below w.heap.size w w' := by
 have hS := rsplit_any s hs w
 cases hr : runesL s.data.toList with
 | none =>
  rw [hr] at hS
  clear hr
  go_enter Tryz.func72, Tryz.ntmps72
  go_wp2_with (go_at_call 54; refine hS.mono ?_; rintro e w1 ⟨hb, rfl⟩)
  go_ret
  exact ⟨rfl, hb⟩
 | some rs =>
  rw [hr] at hS
  clear hr
  go_enter Tryz.func72, Tryz.ntmps72
  go_wp2_with fail
  refine hS.mono ?_
  rintro e w1 ⟨hb, v, rfl, hown⟩
  obtain ⟨ao, cap, rfl⟩ : ∃ ao cap, v = .slice ao rs.length cap := by
   rcases hown.2 with ⟨hv, h0⟩ | ⟨g, cap, cur, hv, _⟩
   ·exact ⟨none, 0, by rw [hv, h0]⟩
   ·exact ⟨_, _, hv⟩
  go_wp2
  go_ret
  exact ⟨rfl, hb⟩
end Go.Proofs.YthekkjfaaedamaaGreatDoor

namespace Go.Proofs.YthekkjfaaedamaaGreatDoor
open Go.RowKit

theorem rlenT_any (s : ByteArray) (hs : s.size ≤ 1000000) (w : World) :
  Calls Tryz.prog 72 #[.string s] w fun e w' => e = .returned (.int .i64 (lenT s.data.toList)) ∧ Below w.heap.size w w' := rlen_any s hs w
set_option maxRecDepth 100000 in
set_option maxHeartbeats 2000000 in
theorem rOText_any (t : ByteArray) (ht : t.size ≤ 1000000) (w : World) :
  Calls Tryz.prog 49 #[.string t] w fun e w' => e = .returned (.bool (mayT t.data.toList)) ∧ Below w.heap.size w w' := by
 have hL := rlenT_any t ht w
 have hsz : t.data.toList.length = t.size := (Lib.size_eq t).symm
 by_cases h8 : 800 < t.size
 ·have hV := Lib.hid (show mayT t.data.toList = false by unfold mayT; rw [decide_eq_false (by omega), Bool.false_and])
  clear hsz
  go_enter Tryz.func49, Tryz.ntmps49
  go_wp2
  go_ret
  exact ⟨ret_bool hV.out.symm, Below.refl _ _⟩
 ·have hV := Lib.hid (show mayT t.data.toList = (decide (1 ≤ lenT t.data.toList) && decide (lenT t.data.toList ≤ 200)) by
   unfold mayT
   rw [decide_eq_true (by omega), Bool.true_and, Bool.eq_iff_iff]
   simp)
  clear hsz
  generalize lenT t.data.toList = L at *
  go_enter Tryz.func49, Tryz.ntmps49
  go_wp2_with fail
  refine hL.mono ?_
  clear hL
  rintro e w1 ⟨rfl, hb⟩
  by_cases g1 : 1 ≤ L
  ·have hV2 := Lib.hid (show mayT t.data.toList = decide (L ≤ 200) by rw [hV.out, decide_eq_true g1, Bool.true_and])
   go_wp2
   go_ret
   exact ⟨ret_bool hV2.out.symm, hb⟩
  ·have hV2 := Lib.hid (show mayT t.data.toList = false by rw [hV.out, decide_eq_false g1, Bool.false_and])
   go_wp2
   go_ret
   exact ⟨ret_bool hV2.out.symm, hb⟩
set_option maxRecDepth 100000 in
set_option maxHeartbeats 2000000 in
theorem rOAdds_any (s q n k a : Int) (t : ByteArray) (sp : Value) (xs : List Sp) (ht : t.size ≤ 1000000) (w : World) :
  Calls Tryz.prog 48 #[opV s q n k a t sp] w fun e w' => e = .returned (.int .i64 (oAdds ⟨s, q, n, k, a, t.data.toList, xs⟩)) ∧ Below w.heap.size w w' := by
 have hL := fun W => rlenT_any t ht W
 have hbx := OBox.new s q n k a t sp w 45
 have HV := Lib.hid (show oAdds ⟨s, q, n, k, a, t.data.toList, xs⟩ = if k = 1 then (if lenT t.data.toList < 0 then 0 else lenT t.data.toList) else 0 from rfl)
 generalize lenT t.data.toList = L at *
 have HB := Lib.hid hbx
 clear hbx
 unfold opV
 by_cases hk : k = 1
 ·subst hk
  by_cases hl : L < 0
  ·have HV2 := Lib.hid (show oAdds ⟨s, q, n, 1, a, t.data.toList, xs⟩ = 0 by rw [HV.out, if_pos rfl, if_pos hl])
   go_enter Tryz.func48, Tryz.ntmps48
   go_wp2_with fail
   refine (hL _).mono ?_
   clear hL
   rintro e w1 ⟨rfl, hb⟩
   have h1 := Lib.hid (HB.out.keep hb)
   clear hb
   go_wp2
   go_ret
   exact ⟨ret_i64 HV2.out.symm, h1.out.2.2.2.2.2.2.2⟩
  ·have HV2 := Lib.hid (show oAdds ⟨s, q, n, 1, a, t.data.toList, xs⟩ = L by rw [HV.out, if_pos rfl, if_neg hl])
   go_enter Tryz.func48, Tryz.ntmps48
   go_wp2_with fail
   refine (hL _).mono ?_
   rintro e w1 ⟨rfl, hb⟩
   have h1 := HB.out.keep hb
   have H1 := Lib.hid h1
   obtain ⟨c0, c1, c2, c3, c4, c5, c6, _⟩ := h1
   clear hb
   go_wp2_with fail
   refine (hL _).mono ?_
   clear hL c0 c1 c2 c3 c4 c5 c6
   rintro e w2 ⟨rfl, hb⟩
   have h2 := Lib.hid (H1.out.keep hb)
   clear hb
   go_wp2
   go_ret
   exact ⟨ret_i64 HV2.out.symm, h2.out.2.2.2.2.2.2.2⟩
 ·have hk1 : (k != 1) = true := bne_iff_ne.2 hk
  have HV2 := Lib.hid (show oAdds ⟨s, q, n, k, a, t.data.toList, xs⟩ = 0 by rw [HV.out, if_neg hk])
  clear hk HV
  go_enter Tryz.func48, Tryz.ntmps48
  go_wp2
  go_ret
  exact ⟨ret_i64 HV2.out.symm, HB.out.2.2.2.2.2.2.2⟩
theorem oMay_kind1 {s q n a size : Int} {t : List UInt8} {xs : List Sp} (h : decide (0 ≤ size ∧ size ≤ 20000) = true) (hm : nMay s q = true) (hn : decide (0 ≤ n ∧ n ≤ 1099511627776) = true) :
  oMay ⟨s, q, n, 1, a, t, xs⟩ size = (decide (0 ≤ a ∧ a ≤ size) && mayT t && decide (xs = []) && decide (size + lenT t ≤ 20000)) := by
 unfold oMay
 dsimp only
 rw [h, hm, hn, if_pos rfl]
 simp
theorem oMay_kind2 {s q n k a size : Int} {t : List UInt8} {xs : List Sp} (h : decide (0 ≤ size ∧ size ≤ 20000) = true) (hm : nMay s q = true) (hn : decide (0 ≤ n ∧ n ≤ 1099511627776) = true) (hk : k ≠ 1) :
  oMay ⟨s, q, n, k, a, t, xs⟩ size = (decide (k = 2) && decide (a = 0) && decide (t = []) && sMay xs && xs.all fun x => decide (x.1 + x.2 ≤ size)) := by
 unfold oMay
 dsimp only
 rw [h, hm, hn, if_neg hk]
 simp
theorem oMay_no {s q n k a size : Int} {t : List UInt8} {xs : List Sp} (h : ¬ (0 ≤ size ∧ size ≤ 20000 ∧ nMay s q = true ∧ 0 ≤ n ∧ n ≤ 1099511627776)) : oMay ⟨s, q, n, k, a, t, xs⟩ size = false := by
 cases hz : oMay ⟨s, q, n, k, a, t, xs⟩ size with
 | false => rfl
 | true =>
  unfold oMay at hz
  dsimp only at hz
  simp only [Bool.and_eq_true, decide_eq_true_eq] at hz
  exact absurd ⟨hz.1.1.1.1, hz.1.1.1.2, hz.1.1.2, hz.1.2.1, hz.1.2.2⟩ h
theorem all_next {xs : List Sp} (p : Sp → Bool) {k : Nat} (hk : k < xs.length) : (xs.take (k + 1)).all p = ((xs.take k).all p && p (xs.getD k (0, 0))) := by
 rw [List.take_succ_eq_append_getElem hk, List.all_append, getD_cell hk]
 simp
theorem all_no {xs : List Sp} (p : Sp → Bool) {k : Nat} (hk : k < xs.length) (h : p (xs.getD k (0, 0)) = false) : xs.all p = false := by
 rw [List.all_eq_false]
 exact ⟨xs[k], List.getElem_mem hk, by rw [getD_cell hk, h]; simp⟩
set_option maxRecDepth 100000 in
set_option maxHeartbeats 8000000 in
theorem rOMay_any (s q n k a size : Int) (t : ByteArray) (sp : Value) (xs : List Sp) (ht : t.size ≤ 1000000) (w : World) (h : SpAt w sp xs) (hx : xs.length ≤ 1000000000) (ha : (Lit.int .i64 a).wf = true) :
  Calls Tryz.prog 47 #[opV s q n k a t sp, .int .i64 size] w fun e w' => e = .returned (.bool (oMay ⟨s, q, n, k, a, t.data.toList, xs⟩ size)) ∧ Below w.heap.size w w' := by
 have hM := fun W => rMayName_any s q W
 unfold nmV at hM
 have hT := fun W => rOText_any t ht W
 have hL := fun W => rlenT_any t ht W
 have hbx := OBox.new s q n k a t sp w 45
 have hs := h.below hbx.2.2.2.2.2.2.2
 obtain ⟨R, hR⟩ : ∃ R, oMay ⟨s, q, n, k, a, t.data.toList, xs⟩ size = R := ⟨_, rfl⟩
 rw [hR]
 have hNo : ¬ (0 ≤ size ∧ size ≤ 20000 ∧ nMay s q = true ∧ 0 ≤ n ∧ n ≤ 1099511627776) → R = false := fun g => by rw [← hR]; exact oMay_no g
 have HNO := Lib.hid hNo
 have HR := Lib.hid hR
 have HB := Lib.hid hbx
 have HS := Lib.hid hs
 clear hNo hR hbx hs
 unfold opV
 go_enter Tryz.func47, Tryz.ntmps47
 by_cases g0 : size < 0
 ·have hV := Lib.hid (HNO.out (by omega))
  go_wp2
  go_ret
  exact ⟨ret_bool hV.out.symm, HB.out.2.2.2.2.2.2.2⟩
 by_cases g1 : 20000 < size
 ·have hV := Lib.hid (HNO.out (by omega))
  go_wp2
  go_ret
  exact ⟨ret_bool hV.out.symm, HB.out.2.2.2.2.2.2.2⟩
 go_wp2_with fail
 refine (hM _).mono ?_
 clear hM
 rintro e w1 ⟨rfl, hb⟩
 have H1 := Lib.hid (HB.out.keep hb)
 have S1 := Lib.hid (HS.out.below hb)
 clear hb HB HS
 obtain ⟨c0, c1, c2, c3, c4, c5, c6, _⟩ := id H1.out
 cases hm : nMay s q with
 | false =>
  have hV := Lib.hid (HNO.out (by rw [hm]; intro q; exact Bool.noConfusion q.2.2.1))
  clear hm
  go_wp2
  go_ret
  exact ⟨ret_bool hV.out.symm, H1.out.2.2.2.2.2.2.2⟩
 | true =>
 by_cases g2 : n < 0
 ·have hV := Lib.hid (HNO.out (by omega))
  clear hm
  go_wp2
  go_ret
  exact ⟨ret_bool hV.out.symm, H1.out.2.2.2.2.2.2.2⟩
 by_cases g3 : 1099511627776 < n
 ·have hV := Lib.hid (HNO.out (by omega))
  clear hm
  go_wp2
  go_ret
  exact ⟨ret_bool hV.out.symm, H1.out.2.2.2.2.2.2.2⟩
 have e0 : decide (0 ≤ size ∧ size ≤ 20000) = true := decide_eq_true (by omega)
 have e1 : decide (0 ≤ n ∧ n ≤ 1099511627776) = true := decide_eq_true (by omega)
 have g2' : 0 ≤ n := by omega
 have g3' : n ≤ 1099511627776 := by omega
 by_cases hk : k = 1
 ·subst hk
  have HR1 := Lib.hid (HR.out.symm.trans (oMay_kind1 (a := a) (t := t.data.toList) (xs := xs) e0 hm e1))
  clear hm e0 e1 HR HNO
  by_cases a0 : a < 0
  ·have hV := Lib.hid (show R = false by rw [HR1.out, decide_eq_false (by omega)]; rfl)
   have a0' : ¬ 0 ≤ a := by omega
   go_wp2
   go_ret
   exact ⟨ret_bool hV.out.symm, H1.out.2.2.2.2.2.2.2⟩
  by_cases a1 : size < a
  ·have hV := Lib.hid (show R = false by rw [HR1.out, decide_eq_false (by omega)]; rfl)
   have a0' : 0 ≤ a := by omega
   have a1' : ¬ a ≤ size := by omega
   go_wp2
   go_ret
   exact ⟨ret_bool hV.out.symm, H1.out.2.2.2.2.2.2.2⟩
  have a0' : 0 ≤ a := by omega
  have a1' : a ≤ size := by omega
  have HR2 := Lib.hid (show R = (mayT t.data.toList && decide (xs = []) && decide (size + lenT t.data.toList ≤ 20000)) by rw [HR1.out, decide_eq_true (p := 0 ≤ a ∧ a ≤ size) ⟨a0', a1'⟩, Bool.true_and])
  have hlb := lenT_ge t.data.toList
  have hub := lenT_le t.data.toList
  rw [← Lib.size_eq] at hub
  generalize lenT t.data.toList = L at *
  go_wp2_with fail
  refine (hT _).mono ?_
  clear hT c0 c1 c2 c3 c4 c5 c6
  rintro e w2 ⟨rfl, hb⟩
  have H2 := Lib.hid (H1.out.keep hb)
  clear hb H1 S1
  obtain ⟨c0, c1, c2, c3, c4, c5, c6, _⟩ := id H2.out
  cases hmt : mayT t.data.toList with
  | false =>
   have hV := Lib.hid (show R = false by rw [HR2.out, hmt]; rfl)
   clear hmt
   go_wp2
   go_ret
   exact ⟨ret_bool hV.out.symm, H2.out.2.2.2.2.2.2.2⟩
  | true =>
  have HR3 := Lib.hid (show R = (decide (xs = []) && decide (size + L ≤ 20000)) by rw [HR2.out, hmt, Bool.true_and])
  clear hmt HR2 HR1
  obtain ⟨ao, cap, rfl, _⟩ := h
  by_cases hnil : xs = []
  ·have HR4 := Lib.hid (show R = decide (size + L ≤ 20000) by rw [HR3.out, decide_eq_true hnil, Bool.true_and])
   have hl0 : xs.length = 0 := by rw [hnil]; rfl
   rw [hl0] at c6 ⊢
   have hw : IntKind.i64.wrap (size + L) = size + L := by simp only [IntKind.wrap_i64]; omega
   go_wp2_with fail
   refine (hL _).mono ?_
   clear hL c0 c1 c2 c3 c4 c5 c6
   rintro e w3 ⟨rfl, hb⟩
   have H3 := Lib.hid ((H2.out.2.2.2.2.2.2.2).trans (hb.mono H2.out.2.2.2.2.2.2.2.size))
   clear hb
   go_wp2
   go_ret
   exact ⟨ret_bool HR4.out.symm, H3.out⟩
  ·have hV := Lib.hid (show R = false by rw [HR3.out, decide_eq_false hnil]; rfl)
   obtain ⟨nl, hnl⟩ : ∃ nl, xs.length = nl := ⟨_, rfl⟩
   rw [hnl] at c6 ⊢
   have hne : ((nl : Int) == 0) = false := beq_eq_false_iff_ne.2 (by
    rintro q
    exact hnil (List.eq_nil_of_length_eq_zero (by omega)))
   clear hnl hnil
   go_wp2
   go_ret
   exact ⟨ret_bool hV.out.symm, H2.out.2.2.2.2.2.2.2⟩
 ·have hk1 : (k == 1) = false := beq_eq_false_iff_ne.2 hk
  have HR1 := Lib.hid (HR.out.symm.trans (oMay_kind2 (a := a) (t := t.data.toList) (xs := xs) e0 hm e1 hk))
  clear hm e0 e1 HR HNO hT hL
  by_cases k2 : k = 2
  case neg =>
   have hV := Lib.hid (show R = false by rw [HR1.out, decide_eq_false k2]; rfl)
   have k2' : (k != 2) = true := bne_iff_ne.2 k2
   clear k2 hk
   go_wp2
   go_ret
   exact ⟨ret_bool hV.out.symm, H1.out.2.2.2.2.2.2.2⟩
  subst k2
  by_cases a0 : a = 0
  case neg =>
   have hV := Lib.hid (show R = false by rw [HR1.out, decide_eq_false a0]; rfl)
   have a0' : (a != 0) = true := bne_iff_ne.2 a0
   clear a0 hk
   go_wp2
   go_ret
   exact ⟨ret_bool hV.out.symm, H1.out.2.2.2.2.2.2.2⟩
  subst a0
  by_cases t0 : t.data.toList = []
  case neg =>
   have hV := Lib.hid (show R = false by rw [HR1.out, decide_eq_false t0]; rfl)
   have t0' : ¬ t.toList = [] := by rw [list_data]; exact t0
   clear t0 hk
   go_wp2
   go_ret
   exact ⟨ret_bool hV.out.symm, H1.out.2.2.2.2.2.2.2⟩
  have HR2 := Lib.hid (show R = (sMay xs && xs.all fun x => decide (x.1 + x.2 ≤ size)) by rw [HR1.out, decide_eq_true t0]; simp)
  have t0' : t.toList = [] := by rw [list_data]; exact t0
  have hQ := rSpMay_any sp xs w1 S1.out hx
  clear t0 hk HR1
  go_wp2_with fail
  refine hQ.mono ?_
  clear hQ c0 c1 c2 c3 c4 c5 c6
  rintro e w2 ⟨rfl, hb⟩
  have H2 := Lib.hid (H1.out.keep hb)
  have S2 := Lib.hid (S1.out.below hb)
  clear hb H1 S1
  cases hsm : sMay xs with
  | false =>
   have hV := Lib.hid (show R = false by rw [HR2.out, hsm]; rfl)
   clear hsm
   go_wp2
   go_ret
   exact ⟨ret_bool hV.out.symm, H2.out.2.2.2.2.2.2.2⟩
  | true =>
  have HG := Lib.hid ((sMay_good xs).1 hsm)
  have HR3 := Lib.hid (show R = xs.all fun x => decide (x.1 + x.2 ≤ size) by rw [HR2.out, hsm, Bool.true_and])
  clear hsm HR2
  obtain ⟨ao, cap, rfl, _⟩ := h
  obtain ⟨nl, hnl⟩ : ∃ nl, xs.length = nl := ⟨_, rfl⟩
  rw [hnl] at H2 S2 ⊢
  have HNL := Lib.hid hnl
  rw [hnl] at hx
  clear hnl
  go_wp2_with fail
  go_loopw [5] (fun i wr => ∃ c : Nat, i = .int .i64 c ∧ c ≤ nl ∧ ((xs.take c).all fun x => decide (x.1 + x.2 ≤ size)) = true ∧ Below w2.heap.size w2 wr) (fun i _ => nl - (intOf i).toNat)
  case atStart => exact ⟨0, rfl, Nat.zero_le _, rfl, Below.refl _ _⟩
  case round =>
   rename_i wr
   obtain ⟨c, rfl, hc, hall, hbw⟩ := hrel
   have H3 := Lib.hid (H2.out.keep hbw)
   have S3 := Lib.hid (S2.out.below hbw)
   have HALL := Lib.hid hall
   have HBW := Lib.hid hbw
   clear hall hbw
   obtain ⟨c0, c1, c2, c3, c4, c5, c6, _⟩ := id H3.out
   rcases Nat.lt_or_ge c nl with hlt | hge
   ·have hxk : c < xs.length := by rw [HNL.out]; exact hlt
    obtain ⟨b, off, cap', hv, d0, d1⟩ := S3.out.at hxk
    rw [HNL.out] at hv
    cases hv
    have hgs := HG.out.1 _ (List.getElem_mem hxk)
    rw [getD_cell hxk] at hgs
    have hnx := all_next (fun x => decide (x.1 + x.2 ≤ size)) hxk
    have hbad := all_no (fun x => decide (x.1 + x.2 ≤ size)) hxk
    generalize (xs.getD c (0, 0)).1 = F at *
    generalize (xs.getD c (0, 0)).2 = E at *
    have HNX := Lib.hid hnx
    have HBAD := Lib.hid hbad
    clear hnx hbad hxk
    have hi : (0 : Int) ≤ (c : Int) ∧ (c : Int) < (nl : Int) := ⟨by omega, by omega⟩
    have hw : IntKind.i64.wrap (F + E) = F + E := by simp only [IntKind.wrap_i64]; omega
    by_cases hf : size < F + E
    ·have hV := Lib.hid (HR3.out.trans (HBAD.out (decide_eq_false (by omega))))
     go_wp2_with fail
     go_quiet (fail)
     go_wp2
     go_ret
     exact ⟨ret_bool hV.out.symm, below_draws H3.out.2.2.2.2.2.2.2 _⟩
    ·have hN := Lib.hid (show ((xs.take (c + 1)).all fun x => decide (x.1 + x.2 ≤ size)) = true by rw [HNX.out, HALL.out, decide_eq_true (by omega)]; rfl)
     go_wp2_with fail
     go_quiet (fail)
     go_wp2
     exact ⟨⟨c + 1, by go_num, by omega, hN.out, below_draws HBW.out _⟩, by simp [intOf]; omega⟩
   ·obtain rfl : c = nl := by omega
    have hV := Lib.hid (show R = true by
     have := HALL.out
     rw [List.take_of_length_le (by rw [HNL.out]; exact Nat.le_refl _)] at this
     rw [HR3.out, this])
    go_wp2
    go_ret
    exact ⟨ret_bool hV.out.symm, H3.out.2.2.2.2.2.2.2⟩
end Go.Proofs.YthekkjfaaedamaaGreatDoor

namespace Go.Proofs.YthekkjfaaedamaaGreatDoor
open Go.RowKit

def edV (s q c k a l : Int) (t : ByteArray) : Value := .agg #[.int .i64 s, .int .i64 q, .int .i64 c, .int .i64 k, .int .i64 a, .int .i64 l, .string t]
def EBox (N : Nat) (s q c k a l : Int) (t : ByteArray) (w W : World) : Prop :=
 W.cell? ⟨N, 0, none⟩ = some (.int .i64 s) ∧ W.cell? ⟨N, 1, none⟩ = some (.int .i64 q) ∧ W.cell? ⟨N, 2, none⟩ = some (.int .i64 c) ∧ W.cell? ⟨N, 3, none⟩ = some (.int .i64 k) ∧
  W.cell? ⟨N, 4, none⟩ = some (.int .i64 a) ∧ W.cell? ⟨N, 5, none⟩ = some (.int .i64 l) ∧ W.cell? ⟨N, 6, none⟩ = some (.string t) ∧ Below N w W
theorem EBox.keep {N : Nat} {s q c k a l : Int} {t : ByteArray} {w W W' : World} (h : EBox N s q c k a l t w W) (hb : Below W.heap.size W W') : EBox N s q c k a l t w W' := by
 obtain ⟨h0, h1, h2, h3, h4, h5, h6, h7⟩ := h
 have hl : N < W.heap.size := World.block_lt_of_cell? W _ h0
 exact ⟨cell_stays hb h0, cell_stays hb h1, cell_stays hb h2, cell_stays hb h3, cell_stays hb h4, cell_stays hb h5, cell_stays hb h6, h7.trans (hb.mono (Nat.le_of_lt hl))⟩
theorem EBox.new (s q c k a l : Int) (t : ByteArray) (w : World) (ty : TypeId) : EBox w.heap.size s q c k a l t w (w.alloc (.cells #[.int .i64 s, .int .i64 q, .int .i64 c, .int .i64 k, .int .i64 a, .int .i64 l, .string t] ty)) := by
 have h := heap_alloc_new w (.cells #[.int .i64 s, .int .i64 q, .int .i64 c, .int .i64 k, .int .i64 a, .int .i64 l, .string t] ty)
 exact ⟨cell_of_row _ _ 0 _ _ _ h, cell_of_row _ _ 1 _ _ _ h, cell_of_row _ _ 2 _ _ _ h, cell_of_row _ _ 3 _ _ _ h, cell_of_row _ _ 4 _ _ _ h, cell_of_row _ _ 5 _ _ _ h, cell_of_row _ _ 6 _ _ _ h, (Below.refl _ w).alloc (Nat.le_refl _) _⟩
theorem eMay_no {s q c k a l : Int} {t : List UInt8} (h : ¬ (nMay s q = true ∧ 0 ≤ c ∧ c ≤ 1099511627776 ∧ 0 ≤ a ∧ a ≤ 20000)) : eMay ⟨s, q, c, k, a, l, t⟩ = false := by
 cases hz : eMay ⟨s, q, c, k, a, l, t⟩ with
 | false => rfl
 | true =>
  unfold eMay at hz
  dsimp only at hz
  simp only [Bool.and_eq_true, decide_eq_true_eq] at hz
  exact absurd ⟨hz.1.1.1, hz.1.1.2.1, hz.1.1.2.2, hz.1.2.1, hz.1.2.2⟩ h
theorem eMay_yes {s q c k a l : Int} {t : List UInt8} (h : nMay s q = true ∧ 0 ≤ c ∧ c ≤ 1099511627776 ∧ 0 ≤ a ∧ a ≤ 20000) :
  eMay ⟨s, q, c, k, a, l, t⟩ = if k = 1 then decide (l = 0) && mayT t else decide (k = 2) && decide (1 ≤ l ∧ l ≤ 20000) && decide (t = []) := by
 unfold eMay
 dsimp only
 rw [h.1, decide_eq_true (show 0 ≤ c ∧ c ≤ 1099511627776 from ⟨h.2.1, h.2.2.1⟩), decide_eq_true (show 0 ≤ a ∧ a ≤ 20000 from h.2.2.2)]
 simp
set_option maxRecDepth 100000 in
set_option maxHeartbeats 4000000 in
theorem rEMay_any (s q c k a l : Int) (t : ByteArray) (ht : t.size ≤ 1000000) (w : World) :
  Calls Tryz.prog 23 #[edV s q c k a l t] w fun e w' => e = .returned (.bool (eMay ⟨s, q, c, k, a, l, t.data.toList⟩)) ∧ Below w.heap.size w w' := by
 have hM := fun W => rMayName_any s q W
 unfold nmV at hM
 have hT := fun W => rOText_any t ht W
 have hbx := EBox.new s q c k a l t w 47
 obtain ⟨R, hR⟩ : ∃ R, eMay ⟨s, q, c, k, a, l, t.data.toList⟩ = R := ⟨_, rfl⟩
 rw [hR]
 have HNO := Lib.hid (show ¬ (nMay s q = true ∧ 0 ≤ c ∧ c ≤ 1099511627776 ∧ 0 ≤ a ∧ a ≤ 20000) → R = false from fun g => by rw [← hR]; exact eMay_no g)
 have HR := Lib.hid hR
 have HB := Lib.hid hbx
 clear hR hbx
 unfold edV
 go_enter Tryz.func23, Tryz.ntmps23
 go_wp2_with fail
 refine (hM _).mono ?_
 clear hM
 rintro e w1 ⟨rfl, hb⟩
 have H1 := Lib.hid (HB.out.keep hb)
 clear hb HB
 obtain ⟨c0, c1, c2, c3, c4, c5, c6, _⟩ := id H1.out
 cases hm : nMay s q with
 | false =>
  have hV := Lib.hid (HNO.out (by rw [hm]; intro q; exact Bool.noConfusion q.1))
  clear hm
  go_wp2
  go_ret
  exact ⟨ret_bool hV.out.symm, H1.out.2.2.2.2.2.2.2⟩
 | true =>
 by_cases g : 0 ≤ c ∧ c ≤ 1099511627776 ∧ 0 ≤ a ∧ a ≤ 20000
 case neg =>
  have hV := Lib.hid (HNO.out (fun z => g z.2))
  clear hm HNO HR
  have hq : c < 0 ∨ (¬ c < 0 ∧ 1099511627776 < c) ∨ (¬ c < 0 ∧ ¬ 1099511627776 < c ∧ a < 0) ∨ (¬ c < 0 ∧ ¬ 1099511627776 < c ∧ ¬ a < 0 ∧ 20000 < a) := by omega
  clear g
  rcases hq with q1 | ⟨q1, q2⟩ | ⟨q1, q2, q3⟩ | ⟨q1, q2, q3, q4⟩
  all_goals
   go_wp2
   go_ret
   exact ⟨ret_bool hV.out.symm, H1.out.2.2.2.2.2.2.2⟩
 have HR1 := Lib.hid (HR.out.symm.trans (eMay_yes (k := k) (l := l) (t := t.data.toList) ⟨hm, g⟩))
 obtain ⟨q1, q2, q3, q4⟩ := g
 have p1 : ¬ c < 0 := by omega
 have p2 : ¬ 1099511627776 < c := by omega
 have p3 : ¬ a < 0 := by omega
 have p4 : ¬ 20000 < a := by omega
 clear hm HNO HR
 by_cases hk : k = 1
 ·subst hk
  rw [if_pos rfl] at HR1
  by_cases l0 : l = 0
  ·subst l0
   have HR2 := Lib.hid (show R = mayT t.data.toList by rw [HR1.out]; simp)
   generalize mayT t.data.toList = r at *
   go_wp2_with fail
   refine (hT _).mono ?_
   clear hT
   rintro e w2 ⟨rfl, hb⟩
   have H2 := Lib.hid (H1.out.keep hb)
   clear hb
   go_wp2
   go_ret
   exact ⟨ret_bool HR2.out.symm, H2.out.2.2.2.2.2.2.2⟩
  ·have hV := Lib.hid (show R = false by rw [HR1.out, decide_eq_false l0]; rfl)
   have l1 : (l == 0) = false := beq_eq_false_iff_ne.2 l0
   clear l0
   go_wp2
   go_ret
   exact ⟨ret_bool hV.out.symm, H1.out.2.2.2.2.2.2.2⟩
 ·rw [if_neg hk] at HR1
  have hk1 : (k == 1) = false := beq_eq_false_iff_ne.2 hk
  clear hT
  by_cases k2 : k = 2
  case neg =>
   have hV := Lib.hid (show R = false by rw [HR1.out, decide_eq_false k2]; rfl)
   have k2' : (k == 2) = false := beq_eq_false_iff_ne.2 k2
   clear k2 hk
   go_wp2
   go_ret
   exact ⟨ret_bool hV.out.symm, H1.out.2.2.2.2.2.2.2⟩
  subst k2
  by_cases gl : 1 ≤ l ∧ l ≤ 20000
  case neg =>
   have hV := Lib.hid (show R = false by rw [HR1.out, decide_eq_false gl]; rfl)
   have hq : ¬ 1 ≤ l ∨ (1 ≤ l ∧ ¬ l ≤ 20000) := by omega
   clear gl hk
   rcases hq with z1 | ⟨z1, z2⟩
   all_goals
    go_wp2
    go_ret
    exact ⟨ret_bool hV.out.symm, H1.out.2.2.2.2.2.2.2⟩
  obtain ⟨z1, z2⟩ := gl
  by_cases t0 : t.data.toList = []
  ·have hV := Lib.hid (show R = true by rw [HR1.out, decide_eq_true t0, decide_eq_true (show 1 ≤ l ∧ l ≤ 20000 from ⟨z1, z2⟩)]; rfl)
   have t0' : t.toList = [] := by rw [list_data]; exact t0
   clear t0 hk
   go_wp2
   go_ret
   exact ⟨ret_bool hV.out.symm, H1.out.2.2.2.2.2.2.2⟩
  ·have hV := Lib.hid (show R = false by rw [HR1.out, decide_eq_false t0]; simp)
   have t0' : ¬ t.toList = [] := by rw [list_data]; exact t0
   have HE := Lib.hid (show t.toList.isEmpty = false by
    cases hz : t.toList with
    | nil => exact absurd hz t0'
    | cons x y => rfl)
   clear t0 hk
   go_wp2
   go_ret
   exact ⟨ret_bool (HE.out.trans hV.out.symm), H1.out.2.2.2.2.2.2.2⟩
end Go.Proofs.YthekkjfaaedamaaGreatDoor

namespace Go.Proofs.YthekkjfaaedamaaGreatDoor
open Go.RowKit

theorem infoCell : (Tryz.prog.info? 64).map (fun i => (i.zero, i.size, i.bytes)) = some (some (.agg #[.int .i64 0, .int .i64 0, .int .i64 0, .int .i32 0, .bool false]), 5, 32) := by kernel_rfl
def newL (s q : Int) (rs : List Int) : List PCell := rs.mapIdx fun i r => ⟨s, q, i, r, false⟩
theorem newL_length (s q : Int) (rs : List Int) : (newL s q rs).length = rs.length := by simp [newL]
theorem newL_next (s q : Int) {rs : List Int} {k : Nat} (h : k < rs.length) : newL s q (rs.take (k + 1)) = newL s q (rs.take k) ++ [⟨s, q, k, rs.getD k 0, false⟩] := by
  unfold newL
  rw [List.take_succ_eq_append_getElem h, List.mapIdx_append]
  simp [List.getD, h, Nat.min_eq_left (Nat.le_of_lt h)]
theorem newC_of {o : POp} {rs : List Int} (h : runesL o.text = some rs) : newC o = newL o.site o.seq rs := by
  unfold newC newL
  rw [h]
  rfl
def CellsPost (l : List PCell) (w : World) (e : Ending) (w' : World) : Prop := ∃ v, e = .returned v ∧ CAt w' v l ∧ (∀ g, v.ownBlock = some g → w.heap.size ≤ g) ∧ Below w.heap.size w w'
theorem OBox.up {N : Nat} {s q n k a : Int} {t : ByteArray} {sp : Value} {w W W' : World} (h : OBox N s q n k a t sp w W) (hb : Below (N + 1) W W') : OBox N s q n k a t sp w W' := by
  obtain ⟨c0, c1, c2, c3, c4, c5, c6, hB⟩ := h
  have e : ∀ o, W'.cell? ⟨N, o, none⟩ = W.cell? ⟨N, o, none⟩ := fun o => hb.cell (p := ⟨N, o, none⟩) (Nat.lt_succ_self N)
  exact ⟨(e 0).trans c0, (e 1).trans c1, (e 2).trans c2, (e 3).trans c3, (e 4).trans c4, (e 5).trans c5, (e 6).trans c6, hB.trans (hb.mono (Nat.le_succ N))⟩
theorem grown_up {N : Nat} {W W' : World} {r : Option Nat} (hg : W.grownBy W' r) (hN : N ≤ W.heap.size) (hr : ∀ g, r = some g → N ≤ g) : Below N W W' := (Below.refl N W).grown hg hN hr
theorem own_block {w W : World} {b sz n : Nat} {e : TypeId} {v : Value} {xs : List Value} (h : w.ownsRow b e sz v n xs) (hq : ∀ g, v.ownBlock = some g → W.heap[g]? = w.heap[g]?) : W.ownsRow b e sz v n xs := by
  refine ⟨h.1, ?_⟩
  rcases h.2 with q | ⟨g, cap, cur, q1, q2, q3, q4⟩
  · exact .inl q
  · exact .inr ⟨g, cap, cur, q1, q2, (hq g (by rw [q1]; rfl)).trans q3, q4⟩
theorem own_form {w : World} {b sz n : Nat} {e : TypeId} {v : Value} {xs : List Value} (h : w.ownsRow b e sz v n xs) : ∃ ao cap, v = .slice ao n cap ∧ n ≤ cap ∧ cap ≤ maxLen := by
  rcases h.2 with ⟨hv, h0⟩ | ⟨g, cap, cur, hv, _, _, h1, h2, _⟩
  · exact ⟨none, 0, by rw [hv, h0], by omega, by unfold maxLen; omega⟩
  · exact ⟨_, _, hv, h1, h2⟩
set_option maxRecDepth 100000 in
set_option maxHeartbeats 4000000 in
theorem rRunI_any (s q n : Int) (t : ByteArray) (ao : Option Addr) (x xc : Nat) (v : Value) (l : List PCell) (p : Nat) (rs : List Int) (w : World) (h : CAt w v l) (hp : p ≤ l.length) (hl : l.length ≤ 1000000) (hr : runesL t.data.toList = some rs) (ht : t.size ≤ 1000000) :
    Calls Tryz.prog 27 #[v, opV s q n 1 p t (.slice ao x xc)] w (CellsPost (l.take p ++ newL s q rs ++ l.drop p) w) := by
  have hS := fun W => rsplit_any t ht W
  rw [hr] at hS
  have hrl : rs.length ≤ t.size := by rw [Lib.size_eq]; exact runes_le hr
  obtain ⟨i0, hi, hz0, hz1, hz2⟩ := info_parts infoCell
  have hbx := OBox.new s q n 1 p t (.slice ao x xc) w 45
  have H := Lib.hid h
  obtain ⟨bo, cap, rfl, h1, h2⟩ := h.shape
  obtain ⟨L, hL⟩ : ∃ L, l.length = L := ⟨_, rfl⟩
  have HL := Lib.hid hL
  rw [hL] at hp hl h1 ⊢
  have Hr := Lib.hid hr
  unfold opV
  clear h hr
  have i1 : (p : Int) ≤ (cap : Int) := by omega
  have i2 : (p : Int) ≤ (L : Int) := by omega
  have i3 : (0 : Int) ≤ (p : Int) := by omega
  have hb0 := hbx.2.2.2.2.2.2.2
  have Hs1 := Lib.hid ((H.out.below (by have := (Below.refl w.heap.size w).alloc (Nat.le_refl _) (.cells #[.int .i64 s, .int .i64 q, .int .i64 n, .int .i64 1, .int .i64 p, .string t, .slice ao x xc] 45); exact this)).src0 p (by rw [HL.out]; omega))
  go_enter Tryz.func27, Tryz.ntmps27
  have z1 : 0 + p ≤ maxLen := by unfold maxLen; omega
  have z2 : (0 + p) * 32 ≤ 140737488355328 := by omega
  have o1 : ∀ u ∈ (cCells l).take (p * 5), u.oneCell' = true := fun u hu => cCells_ones l u (List.mem_of_mem_take hu)
  have Hbx := Lib.hid hbx
  have O1 := Lib.hid o1
  clear o1 hbx
  go_wp2_with (at_builtin; go_must (refine wpList_app_any rfl _ _ 22 rfl (w.heap.size + 1) 64 i0 (.agg #[.int .i64 0, .int .i64 0, .int .i64 0, .int .i32 0, .bool false]) 5 32 Tryz.underlying22 hi hz0 hz1 hz2 rfl (by decide) _ 0 [] rfl (World.ownsRow_nil _ _ _ _) _ p _ rfl Hs1.out O1.out z1 z2 (by simp) ?_; intro v1 wa ho1 hg1; have hba := grown_up (N := w.heap.size + 1) hg1 (by simp) (fun g hg => by cases hg); obtain ⟨g0, g1, g2, g3, g4, g5, g6, hbb⟩ := Hbx.out.up hba))
  refine (hS _).mono ?_
  clear hS
  rintro e w1 ⟨hb1, vt, rfl, hot⟩
  have hB := (Hbx.out.up hba).keep hb1
  have hO := own_up ho1 hb1
  have hne : ∀ g, v1.ownBlock = some g → vt.ownBlock ≠ some g := fun g hg hv => by
    have h1 := (ho1.lt g hg).2
    have h2 := (hot.lt g hv).1
    omega
  obtain ⟨T, hT⟩ : ∃ T, rs.length = T := ⟨_, rfl⟩
  rw [hT] at hot hrl
  have HTL := Lib.hid hT
  have hN1 : w.heap.size + 1 ≤ wa.heap.size := by have := hba.size; simpa using this
  obtain ⟨N1, hN1'⟩ : ∃ N1, wa.heap.size = N1 := ⟨_, rfl⟩
  rw [hN1'] at hot hN1
  have Hn1 := Lib.hid hN1
  have HBX := Lib.hid hB
  have HO := Lib.hid hO
  have Hne := Lib.hid hne
  have Hot := Lib.hid hot
  obtain ⟨tb, tc, rfl, _, _⟩ := own_form hot
  clear hN1 hN1' hB hO hne hot hT g0 g1 g2 g3 g4 g5 g6 hbb ho1 hg1 hba hb1 hb0 Hbx O1 hL
  go_wp2_with fail
  go_loopw [5, 8] (fun v i wr => ∃ k : Nat, i = .int .i64 k ∧ k ≤ T ∧ RowKit.Hid (wr.ownsRow (w.heap.size + 1) 64 5 v (0 + p + k) ((cCells l).take (p * 5) ++ cCells (newL s q (rs.take k)))) ∧
    RowKit.Hid (OBox w.heap.size s q n 1 p t (.slice ao x xc) w wr) ∧ RowKit.Hid (wr.ownsRow N1 21 1 (.slice tb T tc) T (rs.map (Value.int .i32))) ∧ RowKit.Hid (∀ g, v.ownBlock = some g → (Value.slice tb T tc).ownBlock ≠ some g)) (fun _ i _ => T - (intOf i).toNat)
  case atStart => 
    refine ⟨0, rfl, Nat.zero_le _, Lib.hid ?_, HBX, Hot, Hne⟩
    have := HO.out
    rwa [List.nil_append, show cCells (newL s q (rs.take 0)) = [] from rfl, List.append_nil] at *
  case round =>
    rename_i wr
    obtain ⟨k, rfl, hk, ho, hbx, htx, hn⟩ := hrel
    rcases Nat.lt_or_ge k T with hlt | hge
    · obtain ⟨c0, c1, c2, c3, c4, c5, c6, hB⟩ := id hbx.out
      obtain ⟨bt, ct, hv, hg1, hg2⟩ := World.ownsRow.form htx.out (by omega)
      cases hv
      have hkr : k < rs.length := by rw [HTL.out]; exact hlt
      have hc := htx.out.cellAt k (by omega)
      rw [List.getElem?_map, List.getElem?_eq_getElem hkr, Option.map_some] at hc
      have hgd : rs.getD k 0 = rs[k] := by simp [List.getD, hkr]
      have HNX := Lib.hid (show cCells (newL s q (rs.take (k + 1))) = cCells (newL s q (rs.take k)) ++ [.int .i64 s, .int .i64 q, .int .i64 (k : Int), .int .i32 rs[k], .bool false] by rw [newL_next s q hkr, cCells_append, cCells_one, hgd]; rfl)
      obtain ⟨r, hr⟩ : ∃ r, rs[k] = r := ⟨_, rfl⟩
      rw [hr] at hc HNX
      have hi0 : (0 : Int) ≤ (k : Int) ∧ (k : Int) < (T : Int) := ⟨by omega, by omega⟩
      have hBw : w.heap.size < wr.heap.size := World.block_lt_of_cell? _ _ c0
      have hTw : bt < wr.heap.size := hg2
      have hnb : ∀ g, u5.ownBlock = some g → g ≠ bt := fun g hg e => hn.out g hg (by rw [e]; rfl)
      have hown := ho.out
      have hnw : ∀ g, u5.ownBlock = some g → w.heap.size + 1 ≤ g := fun g hg => (hown.lt g hg).1
      have hkk : 0 + p + k + 1 ≤ maxLen := by unfold maxLen; omega
      have hby : (0 + p + k + 1) * 32 ≤ 140737488355328 := by omega
      have Hown := Lib.hid hown
      have Hnb := Lib.hid hnb
      have Hnw := Lib.hid hnw
      clear hgd hr hown hnb hnw c2 c3 c4 c5 c6 hB hkr
      go_wp2_with fail
      go_region_held_law (fun W' => W'.cell? ⟨w.heap.size, 0, none⟩ = some (.int .i64 s) ∧ W'.cell? ⟨w.heap.size, 1, none⟩ = some (.int .i64 q) ∧ W'.cell? ⟨bt, k, none⟩ = some (.int .i32 r))
        (first
          | go_keep
          | (go_split_ands
             refine ⟨?_, ?_, ?_⟩
             · (rw [hgrow.cell_far _ (by simp; omega) (fun e => Nat.lt_irrefl _ (Hnw.out _ e.symm))]; assumption)
             · (rw [hgrow.cell_far _ (by simp; omega) (fun e => Nat.lt_irrefl _ (Hnw.out _ e.symm))]; assumption)
             · (rw [hgrow.cell_far _ (by simp; omega) (fun e => Hnb.out _ e.symm rfl)]; assumption)))
        ((refine step_append_lies _ (by rfl) _ _ _ (by rfl) (w.heap.size + 1) 64 i0 _ 5 32 Tryz.underlying22 hi hz0 hz1 hz2 rfl (by omega) _ (0 + p + k) _ (by rfl) ((Hown.out.alloc _).drew)
            ⟨wr.heap.size, 0, none⟩ 1 1 [.int .i64 s, .int .i64 q, .int .i64 k, .int .i32 r, .bool false] (by rfl) (by rfl) (World.news_of_block (cs := #[.int .i64 s, .int .i64 q, .int .i64 k, .int .i32 r, .bool false]) (t := 64) (fr := (0, 0)) (heap_alloc_new wr _)) (by simp [Value.oneCell'])
            (by omega) hkk hby (by simp; omega) (wr.heap.size + 1) (by simp) ?_; intro gg cap3 w3 hown3 hgrow hat hlt3))
      go_wp2
      have hBW : Below (w.heap.size + 1) wr w3 := (((Below.refl (w.heap.size + 1) wr).alloc (by omega) _).drew).grown hgrow (by simp; omega) (fun g hg => Hnw.out g hg)
      have hkeep : ∀ g, (Value.slice (some ⟨bt, 0, none⟩) T tc).ownBlock = some g → w3.heap[g]? = wr.heap[g]? := fun g hg => by
        have e : bt = g := by simpa [Value.ownBlock] using hg
        subst e
        have h1 := hgrow.block bt (by simp; omega) (fun e => Hnb.out _ e.symm rfl)
        rw [h1]
        exact Below.heap_alloc wr _ _ hTw
      refine ⟨⟨k + 1, by go_num, by omega, Lib.hid ?_, Lib.hid (hbx.out.up hBW), Lib.hid (own_block htx.out hkeep), Lib.hid ?_⟩, by simp [intOf]; omega⟩
      · have h3 := hown3
        rw [List.append_assoc, ← HNX.out] at h3
        rw [show 0 + p + (k + 1) = 0 + p + k + 1 by omega, show p + k + 1 = 0 + p + k + 1 by omega]
        exact h3
      · intro g hg e
        have e1 : gg = g := by simpa [Value.ownBlock] using hg
        have e2 : bt = g := by simpa [Value.ownBlock] using e
        rcases hat with h | h
        · exact Hnb.out _ h (by omega)
        · omega
    · have hk' : k = T := by omega
      subst hk'
      have hs3 : ∀ c', _ := fun c' => RowC.srcIf (c' := c') (H.out.below (hbx.out.2.2.2.2.2.2.2)) p (by rw [HL.out]; omega)
      rw [HL.out] at hs3
      have Hs3 := Lib.hid hs3
      obtain ⟨c0, c1, c2, c3, c4, c5, c6, hB⟩ := id hbx.out
      have hBw : w.heap.size < wr.heap.size := World.block_lt_of_cell? _ _ c0
      have o3 : ∀ u ∈ (cCells l).drop (p * 5), u.oneCell' = true := fun u hu => cCells_ones l u (List.mem_of_mem_drop hu)
      have O3 := Lib.hid o3
      have z3 : 0 + p + k + (L - p) ≤ maxLen := by unfold maxLen; omega
      have z4 : (0 + p + k + (L - p)) * 32 ≤ 140737488355328 := by omega
      clear hs3 o3
      go_wp2_with (at_builtin; go_must (refine wpList_app_any rfl _ _ 22 rfl (w.heap.size + 1) 64 i0 (.agg #[.int .i64 0, .int .i64 0, .int .i64 0, .int .i32 0, .bool false]) 5 32 Tryz.underlying22 hi hz0 hz1 hz2 rfl (by decide) _ (0 + p + k) _ rfl ho.out _ (L - p) _ rfl (Hs3.out _) O3.out z3 z4 (by omega) ?_; intro v4 w4 ho4 hg4))
      all_goals
        go_ret
        have hBW := grown_up (N := w.heap.size + 1) hg4 (by omega) (fun g hg => (ho.out.lt g hg).1)
        refine ⟨v4, rfl, ?_, fun g hg => Nat.le_of_succ_le (ho4.lt g hg).1, hB.trans (hBW.mono (Nat.le_succ _))⟩
        have hw := ho4
        rw [List.take_of_length_le (l := rs) (by rw [HTL.out]; exact Nat.le_refl _), cCells_take _ _ (by rw [HL.out]; omega), cCells_drop _ _ (by rw [HL.out]; omega), ← cCells_append, ← cCells_append, List.append_assoc] at hw
        exact CAt.of_own hw (by rw [List.length_append, List.length_append, newL_length, List.length_take, List.length_drop, HL.out, HTL.out]; omega)
end Go.Proofs.YthekkjfaaedamaaGreatDoor

namespace Go.Proofs.YthekkjfaaedamaaGreatDoor
open Go.RowKit

theorem cCells_set : ∀ (l : List PCell) (j : Nat) (c : PCell) (b : Bool), l[j]? = some c → (cCells l).set (j * 5 + 4) (.bool b) = cCells (l.set j { c with gone := b })
 | [], j, _, _, h => by simp at h
 | d :: r, 0, c, b, h => by
  obtain rfl : d = c := by simpa using h
  rfl
 | d :: r, j + 1, c, b, h => by
  show (cV d ++ cCells r).set ((j + 1) * 5 + 4) _ = cV d ++ cCells (r.set j _)
  rw [List.set_append_right _ _ (by show 5 ≤ (j + 1) * 5 + 4; omega), show (j + 1) * 5 + 4 - (cV d).length = j * 5 + 4 by show (j + 1) * 5 + 4 - 5 = _; omega, cCells_set r j c b (by simpa using h)]
theorem goneC_set (l : List PCell) (f : Nat → Bool) (j : Nat) (c : PCell) (h : (goneC l f)[j]? = some c) : (goneC l f).set j { c with gone := true } = goneC l fun i => if i = j then true else f i := by
 refine List.ext_getElem? fun i => ?_
 rw [List.getElem?_set, goneC_at, goneC_at]
 by_cases e : j = i
 ·subst e
  have hj := (List.getElem?_eq_some_iff.1 h).1
  rw [if_pos rfl, if_pos hj]
  rw [goneC_at] at h
  cases hl : l[j]? with
  | none => rw [hl] at h; cases h
  | some d =>
   rw [hl] at h
   simp only [Option.map_some, Option.some.injEq] at h
   subst h
   simp
 ·rw [if_neg e]
  congr 1
  funext d
  rw [if_neg (fun q => e q.symm)]
theorem gone_store (l : List PCell) (f : Nat → Bool) (j : Nat) (hj : j < l.length) : (cCells (goneC l f)).set (j * 5 + 4) (.bool true) = cCells (goneC l fun i => if i = j then true else f i) := by
 obtain ⟨c, hc⟩ : ∃ c, (goneC l f)[j]? = some c := ⟨_, List.getElem?_eq_getElem (by rw [goneC_length]; exact hj)⟩
 rw [cCells_set _ _ _ _ hc, goneC_set _ _ _ _ hc]
theorem goneC_none (l : List PCell) : goneC l (fun _ => false) = l := by
 refine List.ext_getElem? fun i => ?_
 rw [goneC_at]
 cases l[i]? with
 | none => rfl
 | some c => simp
set_option maxRecDepth 100000 in
set_option maxHeartbeats 4000000 in
theorem rRunD_any (s q n a : Int) (t : ByteArray) (sp : Value) (xs : List Sp) (v : Value) (l : List PCell) (w : World) (h : CAt w v l) (hl : l.length ≤ 1000000) (hs : SpAt w sp xs) (hx : xs.length ≤ 1000000) (hg : ∀ s ∈ xs, 0 ≤ s.1 ∧ 0 ≤ s.2 ∧ s.1 + s.2 ≤ l.length) :
  Calls Tryz.prog 27 #[v, opV s q n 2 a t sp] w (CellsPost (goneC l (sMark xs)) w) := by
 obtain ⟨i0, hi, hz0, hz1, hz2⟩ := info_parts infoCell
 have hbx := OBox.new s q n 2 a t sp w 45
 have H := Lib.hid h
 have HS := Lib.hid hs
 obtain ⟨bo, cap, rfl, h1, h2⟩ := h.shape
 obtain ⟨ao, sc, rfl, _⟩ := hs
 obtain ⟨L, hL⟩ : ∃ L, l.length = L := ⟨_, rfl⟩
 have HL := Lib.hid hL
 obtain ⟨M, hM⟩ : ∃ M, xs.length = M := ⟨_, rfl⟩
 have HM := Lib.hid hM
 have HG := Lib.hid hg
 have H0 := H.out
 rw [hL] at hl h1 H0 ⊢
 rw [hM] at hx hbx ⊢
 unfold opV
 have z1 : 0 + L ≤ maxLen := by unfold maxLen; omega
 have z2 : (0 + L) * 32 ≤ 140737488355328 := by omega
 have o1 : ∀ u ∈ cCells l, u.oneCell' = true := fun u hu => cCells_ones l u hu
 have hR := (H.out.below hbx.2.2.2.2.2.2.2).reads
 rw [HL.out] at hR
 have Hbx := Lib.hid hbx
 have O1 := Lib.hid o1
 have HR := Lib.hid hR
 clear o1 hbx hR hL hM hg h H0
 go_enter Tryz.func27, Tryz.ntmps27
 go_wp2_with (at_builtin; go_must (refine wpList_app_any rfl _ _ 22 rfl (w.heap.size + 1) 64 i0 (.agg #[.int .i64 0, .int .i64 0, .int .i64 0, .int .i32 0, .bool false]) 5 32 Tryz.underlying22 hi hz0 hz1 hz2 rfl (by decide) _ 0 [] rfl (World.ownsRow_nil _ _ _ _) _ L _ rfl HR.out O1.out z1 z2 (by simp) ?_; intro v1 wa ho1 hg1; have hba := grown_up (N := w.heap.size + 1) hg1 (by simp) (fun g hg => by cases hg)))
 have hB := Hbx.out.up hba
 have HB := Lib.hid hB
 have hO : wa.ownsRow (w.heap.size + 1) 64 5 v1 L (cCells (goneC l (sMark (xs.take 0)))) := by
  have h := ho1
  rw [List.nil_append, Nat.zero_add] at h
  rw [show sMark (xs.take 0) = (fun _ => false) from rfl, goneC_none]
  exact h
 have HO := Lib.hid hO
 clear hba hB hO ho1 hg1 Hbx O1 HR z1 z2
 go_wp2_with fail
 go_loopw [9] (fun i wr => ∃ k : Nat, i = .int .i64 k ∧ k ≤ M ∧ RowKit.Hid (wr.ownsRow (w.heap.size + 1) 64 5 v1 L (cCells (goneC l (sMark (xs.take k))))) ∧ RowKit.Hid (OBox w.heap.size s q n 2 a t (.slice ao M sc) w wr)) (fun i _ => M - (intOf i).toNat)
 case atStart => exact ⟨0, rfl, Nat.zero_le _, HO, HB⟩
 case round =>
  rename_i wr
  obtain ⟨k, rfl, hk, ho, hbx⟩ := hrel
  obtain ⟨c0, c1, c2, c3, c4, c5, c6, hB⟩ := id hbx.out
  rcases Nat.lt_or_ge k M with hlt | hge
  ·have hkx : k < xs.length := by rw [HM.out]; exact hlt
   have hi0 : (0 : Int) ≤ (k : Int) ∧ (k : Int) < (M : Int) := ⟨by omega, by omega⟩
   have hmem := HG.out (xs.getD k (0, 0)) (by rw [show xs.getD k (0, 0) = xs[k] by simp [List.getD, hkx]]; exact List.getElem_mem hkx)
   obtain ⟨F, hF⟩ : ∃ F, (xs.getD k (0, 0)).1 = F := ⟨_, rfl⟩
   obtain ⟨E, hE⟩ : ∃ E, (xs.getD k (0, 0)).2 = E := ⟨_, rfl⟩
   rw [hF, hE, HL.out] at hmem
   obtain ⟨a', rfl⟩ : ∃ a' : Nat, F = a' := ⟨F.toNat, by omega⟩
   obtain ⟨m, rfl⟩ : ∃ m : Nat, E = m := ⟨E.toNat, by omega⟩
   have hend : a' + m ≤ L := by omega
   have HU := Lib.hid (upS_end hkx hF hE)
   have Hkx := Lib.hid hkx
   have HF := Lib.hid hF
   have HE := Lib.hid hE
   have hO0 : wr.ownsRow (w.heap.size + 1) 64 5 v1 L (cCells (goneC l (upS (sMark (xs.take k)) a' 0))) := by rw [upS_zero]; exact ho.out
   have HO0 := Lib.hid hO0
   clear hmem hF hE hkx hB hO0
   go_wp2_with fail
   clear c0 c1 c2 c3 c4 c5 c6
   go_loopw [10] (fun j wq => ∃ c : Nat, j = .int .i64 c ∧ c ≤ m ∧ RowKit.Hid (wq.ownsRow (w.heap.size + 1) 64 5 v1 L (cCells (goneC l (upS (sMark (xs.take k)) a' c)))) ∧ RowKit.Hid (OBox w.heap.size s q n 2 a t (.slice ao M sc) w wq)) (fun j _ => m - (intOf j).toNat)
   case atStart => exact ⟨0, rfl, Nat.zero_le _, HO0, hbx⟩
   case round =>
    rename_i wq
    obtain ⟨c, rfl, hc, ho, hbx⟩ := hrel
    obtain ⟨c0, c1, c2, c3, c4, c5, c6, hB⟩ := id hbx.out
    obtain ⟨b, off, cap', hv, d0, d1⟩ := (HS.out.below hB).at Hkx.out
    rw [HF.out] at d0
    rw [HE.out] at d1
    rw [HM.out] at hv
    cases hv
    rcases Nat.lt_or_ge c m with hlt | hge
    ·have hw : IntKind.i64.wrap ((a' : Int) + (c : Int)) = (a' : Int) + (c : Int) := by simp only [IntKind.wrap_i64]; omega
     have hlo : (0 : Int) ≤ (a' : Int) + (c : Int) ∧ (a' : Int) + (c : Int) < (L : Int) := ⟨by omega, by omega⟩
     have htn : ((a' : Int) + (c : Int)).toNat = a' + c := by omega
     have hjl : a' + c < l.length := by rw [HL.out]; omega
     obtain ⟨g, cap2, hv2, hgb, hgl⟩ := World.ownsRow.form ho.out (by omega)
     subst hv2
     have hown := ho.out
     have hfro := hown.frozenAt ((a' + c) * 5 + 4)
     have hcell := hown.cellAt ((a' + c) * 5 + 4) (by omega)
     obtain ⟨cl, hcl⟩ : ∃ cl, (goneC l (upS (sMark (xs.take k)) a' c))[a' + c]? = some cl := ⟨_, List.getElem?_eq_getElem (by rw [goneC_length]; exact hjl)⟩
     rw [cCells_at _ _ 4 cl hcl (by decide), show (cV cl)[4]? = some (.bool cl.gone) from rfl] at hcell
     have hst := (hown.stored ((a' + c) * 5 + 4) (.bool true)).1
     rw [gone_store _ _ _ hjl, upS_next] at hst
     have HST := Lib.hid hst
     have HBX := Lib.hid (hbx.out.up ((Below.refl (w.heap.size + 1) wr).setCell (p := ⟨g, (a' + c) * 5 + 4, none⟩) hgb (.bool true)))
     clear hst hown hcl hjl
     go_wp2
     exact ⟨⟨c + 1, by go_num, by omega, HST, HBX⟩, by simp [intOf]; omega⟩
    ·have hc' : c = m := by omega
     subst hc'
     have hO := ho.out
     rw [HU.out] at hO
     have HO' := Lib.hid hO
     clear hO
     go_wp2
     exact ⟨⟨k + 1, by go_num, by omega, HO', hbx⟩, by simp [intOf]; omega⟩
  ·have hk' : k = M := by omega
   subst hk'
   have hO := ho.out
   rw [List.take_of_length_le (by rw [HM.out]; exact Nat.le_refl _)] at hO
   have HO' := Lib.hid hO
   clear hO
   go_wp2
   go_ret
   exact ⟨v1, rfl, CAt.of_own HO'.out (by rw [goneC_length, HL.out]), fun g hg => Nat.le_of_succ_le (HO'.out.lt g hg).1, hB⟩
theorem rRun_any (s q n k a : Int) (t : ByteArray) (sp : Value) (xs : List Sp) (v : Value) (l : List PCell) (w : World) (h : CAt w v l) (hl : l.length ≤ 1000000) (hs : SpAt w sp xs) (ht : t.size ≤ 1000000) (hx : xs.length ≤ 1000000)
  (hm : OMay ⟨s, q, n, k, a, t.data.toList, xs⟩ l.length) : Calls Tryz.prog 27 #[v, opV s q n k a t sp] w (CellsPost (runC l ⟨s, q, n, k, a, t.data.toList, xs⟩) w) := by
 obtain ⟨_, _, _, ⟨hk, h0, h1, h2, _, _⟩ | ⟨hk, _, _, hg, he⟩⟩ := hm
 ·dsimp only at hk h0 h1 h2
  subst hk
  obtain ⟨p, rfl⟩ : ∃ p : Nat, a = p := ⟨a.toNat, by omega⟩
  obtain ⟨ao, xc, rfl, _⟩ := hs
  have hr : ∃ rs, runesL t.data.toList = some rs := by
   unfold mayT lenT at h2
   cases hz : runesL t.data.toList with
   | none => rw [hz] at h2; simp at h2
   | some rs => exact ⟨rs, rfl⟩
  obtain ⟨rs, hr⟩ := hr
  unfold runC
  dsimp only
  rw [if_pos rfl, newC_of (o := ⟨s, q, n, 1, (p : Int), t.data.toList, xs⟩) hr, Int.toNat_natCast]
  exact rRunI_any s q n t ao xs.length xc v l p rs w h (by omega) hl hr ht
 ·dsimp only at hk hg he
  subst hk
  unfold runC
  dsimp only
  rw [if_neg (by decide)]
  exact rRunD_any s q n a t sp xs v l w h hl hs hx fun z hz => ⟨(hg.1 z hz).2.1, by have := (hg.1 z hz).1; omega, he z hz⟩
end Go.Proofs.YthekkjfaaedamaaGreatDoor

namespace Go.Proofs.YthekkjfaaedamaaGreatDoor
open Go.RowKit

theorem getC_some {l : List PCell} {k : Nat} (h : k < l.length) : ∃ c, l[k]? = some c := ⟨l[k], List.getElem?_eq_getElem h⟩
end Go.Proofs.YthekkjfaaedamaaGreatDoor

namespace Go.Proofs.YthekkjfaaedamaaGreatDoor
open Go.RowKit

def hasN (l : List PCell) (s q : Int) : Bool := l.any fun c => decide (c.site = s ∧ c.seq = q)
def cDo (l : List PCell) (o : POp) : List PCell × Int := if oMay o l.length then (if o.kind = 1 ∧ hasN l o.site o.seq = true then (l, 15) else (runC l o, 0)) else (l, 1)
def CellsEPost (v : Value) (x : List PCell × Int) (w : World) (e : Ending) (w' : World) : Prop := ∃ v', e = .returned (.tuple #[v', .int .i64 x.2]) ∧ CAt w' v' x.1 ∧ (v' = v ∨ ∀ g, v'.ownBlock = some g → w.heap.size ≤ g) ∧ Below w.heap.size w w'
theorem CellsEPost.same {v : Value} {l : List PCell} {c : Int} {x : List PCell × Int} {w w' : World} (hx : x = (l, c)) (h : CAt w v l) (hb : Below w.heap.size w w') : CellsEPost v x w (.returned (.tuple #[v, .int .i64 c])) w' := by
 subst hx
 exact ⟨v, rfl, h.below hb, .inl rfl, hb⟩
theorem CellsEPost.new {v v' : Value} {m : List PCell} {c : Int} {x : List PCell × Int} {w w' : World} (hx : x = (m, c)) (h : CAt w' v' m) (hf : ∀ g, v'.ownBlock = some g → w.heap.size ≤ g) (hb : Below w.heap.size w w') : CellsEPost v x w (.returned (.tuple #[v', .int .i64 c])) w' := by
 subst hx
 exact ⟨v', rfl, h, .inr hf, hb⟩
end Go.Proofs.YthekkjfaaedamaaGreatDoor

namespace Go.Proofs.YthekkjfaaedamaaGreatDoor
open Go.RowKit

def keptC (l : List PCell) (f : Nat → Bool) (k : Nat) : List PCell := (List.range k).filterMap fun i => if f i then none else l[i]?
end Go.Proofs.YthekkjfaaedamaaGreatDoor

namespace Go.Proofs.YthekkjfaaedamaaGreatDoor
open Go.RowKit

def cellOk (c : PCell) : Bool := nMay c.site c.seq && decide (0 ≤ c.off ∧ c.off ≤ 199) && Lib.validRune c.r
def sameId (c d : PCell) : Bool := decide (c.site = d.site ∧ c.seq = d.seq ∧ c.off = d.off)
def dupTo (l : List PCell) (d : PCell) (k : Nat) : Bool := (l.take k).any fun c => sameId c d
def dupC (l : List PCell) (n : Nat) : Bool := (List.range n).any fun i => match l[i]? with
 | some d => dupTo l d i
 | none => false
theorem dupTo_next {l : List PCell} {d c : PCell} {k : Nat} (h : l[k]? = some c) : dupTo l d (k + 1) = (dupTo l d k || sameId c d) := by
 unfold dupTo
 rw [List.take_add_one, h, List.any_append]
 simp
theorem dupTo_mono {l : List PCell} {d : PCell} {k m : Nat} (h : dupTo l d k = true) (hk : k ≤ m) : dupTo l d m = true := by
 unfold dupTo at *
 rw [List.any_eq_true] at *
 obtain ⟨c, hc, h⟩ := h
 refine ⟨c, ?_, h⟩
 rw [show k = min k m by omega, ← List.take_take] at hc
 exact List.mem_of_mem_take hc
theorem dupC_next {l : List PCell} {d : PCell} {n : Nat} (h : l[n]? = some d) : dupC l (n + 1) = (dupC l n || dupTo l d n) := by
 unfold dupC
 rw [List.range_succ, List.any_append]
 simp [h]
theorem dupC_mono {l : List PCell} {m k : Nat} (h : dupC l m = true) (hk : m ≤ k) : dupC l k = true := by
 unfold dupC at *
 rw [List.any_eq_true] at *
 obtain ⟨i, hi, h⟩ := h
 rw [List.mem_range] at hi
 exact ⟨i, List.mem_range.2 (by omega), h⟩
def cMay (l : List PCell) : Int := if l.all cellOk then (if dupC l l.length then 15 else if 20000 < l.length then 4 else 0) else 1
theorem allOk_next {l : List PCell} {k : Nat} {c : PCell} (h : l[k]? = some c) : (l.take (k + 1)).all cellOk = ((l.take k).all cellOk && cellOk c) := by
 rw [List.take_add_one, h, List.all_append]
 simp
theorem allOk_bad {l : List PCell} {k : Nat} {c : PCell} (h : l[k]? = some c) (hc : cellOk c = false) : l.all cellOk = false := by
 rw [List.all_eq_false]
 exact ⟨c, List.mem_of_getElem? h, by rw [hc]; simp⟩
set_option maxRecDepth 100000 in
set_option maxHeartbeats 4000000 in
theorem rMayC_any (v : Value) (l : List PCell) (w : World) (h : CAt w v l) (hl : l.length ≤ 1000000000) :
  Calls Tryz.prog 18 #[v] w fun e w' => e = .returned (.int .i64 (cMay l)) ∧ Below w.heap.size w w' := by
 have H := Lib.hid h
 obtain ⟨bo, cap, rfl, h1, h2⟩ := h.shape
 obtain ⟨L, hL⟩ : ∃ L, l.length = L := ⟨_, rfl⟩
 have HL := Lib.hid hL
 rw [hL] at hl h1 ⊢
 clear hL h
 go_enter Tryz.func18, Tryz.ntmps18
 go_wp2_with fail
 go_loopw [3] (fun i wr => ∃ k : Nat, i = .int .i64 k ∧ k ≤ L ∧ RowKit.Hid ((l.take k).all cellOk = true) ∧ RowKit.Hid (Below w.heap.size w wr)) (fun i _ => L - (intOf i).toNat)
 case atStart => exact ⟨0, rfl, Nat.zero_le _, Lib.hid rfl, Lib.hid (Below.refl _ _)⟩
 case round =>
  obtain ⟨k, rfl, hk, hall, hb⟩ := hrel
  rcases Nat.lt_or_ge k L with hlt | hge
  ·obtain ⟨c, hc⟩ := getC_some (l := l) (k := k) (by rw [HL.out]; omega)
   obtain ⟨b, off, cp, hv, c0, c1, c2, c3, c4⟩ := (H.out.below hb.out).at hc
   rw [HL.out] at hv
   cases hv
   have hi0 : (0 : Int) ≤ (k : Int) ∧ (k : Int) < (L : Int) := ⟨by omega, by omega⟩
   have hN := fun W => rMayName_any c.site c.seq W
   have hI := fun W => is_any c.r W
   unfold nmV at hN
   have hkd : ∀ W, Below wr.heap.size wr W → W.cell? ⟨b, off + k * 5 + 2, none⟩ = some (.int .i64 c.off) ∧ W.cell? ⟨b, off + k * 5 + 3, none⟩ = some (.int .i32 c.r) := fun W hz => ⟨cell_stays hz c2, cell_stays hz c3⟩
   have Hkd := Lib.hid hkd
   have Hb := Lib.hid hb.out
   cases hok : cellOk c with
   | false =>
    have hx1 : cMay l = 1 := by unfold cMay; rw [allOk_bad hc hok]; rfl
    have HX1 := Lib.hid hx1
    unfold cellOk at hok
    clear hx1 hc hkd hall c2 c3 c4
    cases hm : nMay c.site c.seq with
    | false =>
     rw [hm] at hN
     clear hok
     go_wp2_with (go_at_call 44; refine (hN _).mono ?_; clear hN; rintro e w1 ⟨rfl, hb1⟩)
     go_ret
     exact ⟨ret_i64 HX1.out.symm, Hb.out.trans (hb1.mono Hb.out.size)⟩
    | true =>
     rw [hm] at hN
     rw [hm, Bool.true_and] at hok
     clear hm
     rcases Int.lt_or_le c.off 0 with h0 | h0
     ·clear hok
      go_wp2_with (go_at_call 44; refine (hN _).mono ?_; clear hN; rintro e w1 ⟨rfl, hb1⟩; obtain ⟨e2, e3⟩ := Hkd.out _ hb1)
      go_ret
      exact ⟨ret_i64 HX1.out.symm, Hb.out.trans (hb1.mono Hb.out.size)⟩
     ·rcases Int.lt_or_le 199 c.off with h1 | h1
      ·clear hok
       go_wp2_with (go_at_call 44; refine (hN _).mono ?_; clear hN; rintro e w1 ⟨rfl, hb1⟩; obtain ⟨e2, e3⟩ := Hkd.out _ hb1)
       go_ret
       exact ⟨ret_i64 HX1.out.symm, Hb.out.trans (hb1.mono Hb.out.size)⟩
      ·rw [decide_eq_true ⟨h0, h1⟩, Bool.true_and] at hok
       rw [hok] at hI
       clear hok
       go_wp2_with (first
        | (go_at_call 44; refine (hN _).mono ?_; clear hN; rintro e w1 ⟨rfl, hb1⟩; obtain ⟨e2, e3⟩ := Hkd.out _ hb1)
        | (go_at_call 45; refine (hI _).mono ?_; clear hI; rintro e _ ⟨rfl, rfl⟩))
       go_ret
       exact ⟨ret_i64 HX1.out.symm, Hb.out.trans (hb1.mono Hb.out.size)⟩
   | true =>
    have HN := Lib.hid (show (l.take (k + 1)).all cellOk = true by rw [allOk_next hc, hall.out, hok]; rfl)
    unfold cellOk at hok
    simp only [Bool.and_eq_true, decide_eq_true_eq] at hok
    obtain ⟨⟨hm, h0, h1⟩, hv⟩ := hok
    rw [hm] at hN
    rw [hv] at hI
    clear hm hv hc hkd hall c2 c3 c4
    go_wp2_with (first
     | (go_at_call 44; refine (hN _).mono ?_; clear hN; rintro e w1 ⟨rfl, hb1⟩; obtain ⟨e2, e3⟩ := Hkd.out _ hb1)
     | (go_at_call 45; refine (hI _).mono ?_; clear hI; rintro e _ ⟨rfl, rfl⟩))
    exact ⟨⟨k + 1, by go_num, by omega, HN, Lib.hid (Hb.out.trans (hb1.mono Hb.out.size))⟩, by simp [intOf]; omega⟩
  ·have hk' : k = L := by omega
   have hA := hall.out
   rw [List.take_of_length_le (by rw [HL.out]; omega)] at hA
   have HA := Lib.hid hA
   have HB := hb
   clear hA hall hb
   go_wp2_with fail
   clear hk' hge hk
   go_loopw [4] (fun i wr => ∃ m : Nat, i = .int .i64 m ∧ m ≤ L ∧ RowKit.Hid (dupC l m = false) ∧ RowKit.Hid (Below w.heap.size w wr)) (fun i _ => L - (intOf i).toNat)
   case atStart => exact ⟨0, rfl, Nat.zero_le _, Lib.hid rfl, HB⟩
   case round =>
    obtain ⟨m, rfl, hm, hdup, hb⟩ := hrel
    clear HB
    rcases Nat.lt_or_ge m L with hlt | hge
    ·obtain ⟨d, hd⟩ := getC_some (l := l) (k := m) (by rw [HL.out]; omega)
     have Hd := Lib.hid hd
     clear hd
     go_wp2_with fail
     go_loopw [5] (fun j wr => ∃ k : Nat, j = .int .i64 k ∧ k ≤ m ∧ RowKit.Hid (dupTo l d k = false) ∧ RowKit.Hid (Below w.heap.size w wr)) (fun j _ => m - (intOf j).toNat)
     case atStart => exact ⟨0, rfl, Nat.zero_le _, Lib.hid rfl, hb⟩
     case round =>
      clear hb
      obtain ⟨k, rfl, hk, hto, hb⟩ := hrel
      rcases Nat.lt_or_ge k m with hlt2 | hge2
      ·obtain ⟨c, hc⟩ := getC_some (l := l) (k := k) (by rw [HL.out]; omega)
       obtain ⟨b, off, cp, hv, c0, c1, c2, c3, c4⟩ := (H.out.below hb.out).at hc
       rw [HL.out] at hv
       cases hv
       obtain ⟨b', off', cp', hv, d0, d1, d2, d3, d4⟩ := (H.out.below hb.out).at Hd.out
       rw [HL.out] at hv
       cases hv
       have hi0 : (0 : Int) ≤ (k : Int) ∧ (k : Int) < (L : Int) := ⟨by omega, by omega⟩
       have hi1 : (0 : Int) ≤ (m : Int) ∧ (m : Int) < (L : Int) := ⟨by omega, by omega⟩
       have Hc := Lib.hid hc
       clear hc c3 c4 d3 d4
       by_cases he : c.site = d.site ∧ c.seq = d.seq
       ·have hq := fun W => nmEq_eql W c.site c.seq d.site d.seq true (by rw [he.1, he.2]; simp)
        by_cases ho : c.off = d.off
        ·have hx1 : cMay l = 15 := by
          have h1 : dupTo l d (k + 1) = true := by rw [dupTo_next Hc.out, show sameId c d = true from decide_eq_true ⟨he.1, he.2, ho⟩, Bool.or_true]
          have h2 : dupC l (m + 1) = true := by rw [dupC_next Hd.out, dupTo_mono h1 (by omega), Bool.or_true]
          unfold cMay
          rw [HA.out, if_pos rfl, if_pos (dupC_mono h2 (by rw [HL.out]; omega))]
         have HX1 := Lib.hid hx1
         have ho' : decide (c.off = d.off) = true := decide_eq_true ho
         clear hx1 he
         go_wp2_with fail
         go_quiet (fail)
         go_wp2
         go_ret
         exact ⟨ret_i64 HX1.out.symm, below_draws hb.out _⟩
        ·have HN := Lib.hid (show dupTo l d (k + 1) = false by rw [dupTo_next Hc.out, hto.out, show sameId c d = false from decide_eq_false fun h => ho h.2.2]; rfl)
         have ho' : decide (c.off = d.off) = false := decide_eq_false ho
         clear he
         go_wp2_with fail
         go_quiet (fail)
         go_wp2
         exact ⟨⟨k + 1, by go_num, by omega, HN, Lib.hid (below_draws hb.out _)⟩, by simp [intOf]; omega⟩
       ·have hq := fun W => nmEq_eql W c.site c.seq d.site d.seq false (by
         have h : ¬ (c.site == d.site && c.seq == d.seq) = true := fun h => he (by simpa using h)
         simpa using h)
        have HN := Lib.hid (show dupTo l d (k + 1) = false by rw [dupTo_next Hc.out, hto.out, show sameId c d = false from decide_eq_false fun h => he ⟨h.1, h.2.1⟩]; rfl)
        clear he
        go_wp2_with fail
        go_quiet (fail)
        go_wp2
        exact ⟨⟨k + 1, by go_num, by omega, HN, Lib.hid (below_draws hb.out _)⟩, by simp [intOf]; omega⟩
      ·have hk2 : k = m := by omega
       subst hk2
       have HN := Lib.hid (show dupC l (k + 1) = false by rw [dupC_next Hd.out, hdup.out, hto.out]; rfl)
       go_wp2
       exact ⟨⟨k + 1, by go_num, by omega, HN, hb⟩, by simp [intOf]; omega⟩
    ·have hk2 : m = L := by omega
     subst hk2
     have hD := hdup.out
     rw [← HL.out] at hD
     by_cases hbig : 20000 < m
     ·have hx1 : cMay l = 4 := by unfold cMay; rw [HA.out, if_pos rfl, if_neg (by rw [hD]; decide), HL.out, if_pos hbig]
      have HX1 := Lib.hid hx1
      clear hx1 hD
      go_wp2
      go_ret
      exact ⟨ret_i64 HX1.out.symm, hb.out⟩
     ·have hx1 : cMay l = 0 := by unfold cMay; rw [HA.out, if_pos rfl, if_neg (by rw [hD]; decide), HL.out, if_neg hbig]
      have HX1 := Lib.hid hx1
      clear hx1 hD
      go_wp2
      go_ret
      exact ⟨ret_i64 HX1.out.symm, hb.out⟩
end Go.Proofs.YthekkjfaaedamaaGreatDoor

namespace Go.Proofs.YthekkjfaaedamaaGreatDoor
open Go.RowKit

def runB (l : List PCell) (i n : Int) (p : Nat) : Bool := match l[p]? with
 | some c => !c.gone && (decide (i ≤ (cSeen l p : Int)) && decide ((cSeen l p : Int) - i < n))
 | none => false
def cRunOk (l : List PCell) (i n : Int) : Bool := decide (0 ≤ i ∧ i ≤ cLive l ∧ 0 ≤ n ∧ n ≤ cLive l - i)
def cRun (l : List PCell) (i n : Int) : List Sp := sMade (runB l i n) 20000
def CRunPost (l : List PCell) (i n : Int) (w : World) (e : Ending) (w' : World) : Prop := ∃ v, e = .returned (.tuple #[v, .bool (cRunOk l i n)]) ∧ SpAt w' v (if cRunOk l i n then cRun l i n else []) ∧ Below w.heap.size w w'
theorem CRunPost.no {l : List PCell} {i n : Int} {w : World} (h : cRunOk l i n = false) : CRunPost l i n w (.returned (.tuple #[.slice none 0 0, .bool false])) w := ⟨_, by rw [h], by rw [h]; exact SpAt.nil _, Below.refl _ _⟩
theorem CRunPost.yes {l : List PCell} {i n : Int} {w w' : World} {v : Value} (h : cRunOk l i n = true) (hv : SpAt w' v (cRun l i n)) (hb : Below w.heap.size w w') : CRunPost l i n w (.returned (.tuple #[v, .bool true])) w' := ⟨_, by rw [h], by rw [h]; exact hv, hb⟩
end Go.Proofs.YthekkjfaaedamaaGreatDoor

namespace Go.Proofs.YthekkjfaaedamaaGreatDoor
open Go.RowKit

def CWf (l : List PCell) : Prop := ∀ c ∈ l, (Lit.int .i64 c.site).wf = true ∧ (Lit.int .i64 c.seq).wf = true ∧ (Lit.int .i64 c.off).wf = true ∧ (Lit.int .i32 c.r).wf = true
def DKept (D : World → Value → List PCell → (Nat → Prop) → Prop) (p : Value) (l : List PCell) (S : Nat → Prop) (w w' : World) (S' : Nat → Prop) : Prop :=
 D w' p l S' ∧ (∀ b, S' b → S b ∨ w.heap.size ≤ b) ∧ Keep S w.heap.size w w'
def DVal (D : World → Value → List PCell → (Nat → Prop) → Prop) (p : Value) (l : List PCell) (S : Nat → Prop) (x : Value) (w : World) (e : Ending) (w' : World) : Prop := ∃ S', DKept D p l S w w' S' ∧ e = .returned x
end Go.Proofs.YthekkjfaaedamaaGreatDoor

namespace Go.Proofs.YthekkjfaaedamaaGreatDoor
open Go.RowKit

end Go.Proofs.YthekkjfaaedamaaGreatDoor

namespace Go.Proofs.YthekkjfaaedamaaGreatDoor

theorem cMay_ok {l : List PCell} (h : cMay l = 0) : l.all cellOk = true ∧ dupC l l.length = false ∧ l.length ≤ 20000 := by
 unfold cMay at h
 by_cases h1 : l.all cellOk = true
 ·rw [if_pos h1] at h
  by_cases h2 : dupC l l.length = true
  ·rw [if_pos h2] at h; omega
  ·rw [if_neg h2] at h
   refine ⟨h1, by simpa using h2, ?_⟩
   split at h <;> omega
 ·rw [if_neg h1] at h; omega
end Go.Proofs.YthekkjfaaedamaaGreatDoor

namespace Go.Proofs.YthekkjfaaedamaaGreatDoor
open Go.RowKit

structure PAct where
 kd : Int
 site : Int
 seq : Int
 num : Int
 kind : Int
 pl : Int
 text : ByteArray
 sp : Value
 xs : List Sp
def PAct.op (x : PAct) : POp := ⟨x.site, x.seq, x.num, x.kind, x.pl, x.text.data.toList, x.xs⟩
def PAct.vals (x : PAct) : List Value := [.int .u8 x.kd, .int .i64 x.site, .int .i64 x.seq, .int .i64 x.num, .int .i64 x.kind, .int .i64 x.pl, .string x.text, x.sp]
def PAct.val (x : PAct) : Value := .agg #[.int .u8 x.kd, .int .i64 x.site, .int .i64 x.seq, .int .i64 x.num, .int .i64 x.kind, .int .i64 x.pl, .string x.text, x.sp]
def aCells : List PAct → List Value
 | [] => []
 | c :: r => c.vals ++ aCells r
theorem aCells_at : ∀ (l : List PAct) (i j : Nat) (c : PAct), l[i]? = some c → j < 8 → (aCells l)[i * 8 + j]? = c.vals[j]?
 | [], i, _, _, h, _ => by simp at h
 | d :: r, 0, j, c, h, hj => by
  obtain rfl : d = c := by simpa using h
  show (d.vals ++ aCells r)[0 * 8 + j]? = _
  rw [List.getElem?_append_left (by show 0 * 8 + j < 8; omega), show 0 * 8 + j = j by omega]
 | d :: r, i + 1, j, c, h, hj => by
  show (d.vals ++ aCells r)[(i + 1) * 8 + j]? = _
  rw [List.getElem?_append_right (by show 8 ≤ (i + 1) * 8 + j; omega), show (i + 1) * 8 + j - d.vals.length = i * 8 + j by show (i + 1) * 8 + j - 8 = _; omega]
  exact aCells_at r i j c (by simpa using h) hj
structure PAct.Wf (x : PAct) : Prop where
 kd : (Lit.int .u8 x.kd).wf = true
 s : (Lit.int .i64 x.site).wf = true
 q : (Lit.int .i64 x.seq).wf = true
 n : (Lit.int .i64 x.num).wf = true
 k : (Lit.int .i64 x.kind).wf = true
 a : (Lit.int .i64 x.pl).wf = true
 w : sWf x.xs
def ActsAt (W : World) (v : Value) (l : List PAct) : Prop := RowR 8 W v l.length (aCells l) ∧ ∀ x ∈ l, SpAt W x.sp x.xs ∧ x.Wf
theorem ActsAt.below {W W' : World} {v : Value} {l : List PAct} (h : ActsAt W v l) (hb : Below W.heap.size W W') : ActsAt W' v l := ⟨h.1.below hb, fun x hx => ⟨(h.2 x hx).1.below hb, (h.2 x hx).2⟩⟩
theorem ActsAt.shape {W : World} {v : Value} {l : List PAct} (h : ActsAt W v l) : ∃ ao cap, v = .slice ao l.length cap := by
 obtain ⟨⟨_, ao, cap, e, _⟩, _⟩ := h
 exact ⟨ao, cap, e⟩
theorem ActsAt.at {W : World} {v : Value} {l : List PAct} (h : ActsAt W v l) {i : Nat} {x : PAct} (hi : l[i]? = some x) : ∃ b off cap, v = .slice (some ⟨b, off, none⟩) l.length cap ∧
  W.cell? ⟨b, off + i * 8, none⟩ = some (.int .u8 x.kd) ∧ W.cell? ⟨b, off + i * 8 + 1, none⟩ = some (.int .i64 x.site) ∧ W.cell? ⟨b, off + i * 8 + 2, none⟩ = some (.int .i64 x.seq) ∧
  W.cell? ⟨b, off + i * 8 + 3, none⟩ = some (.int .i64 x.num) ∧ W.cell? ⟨b, off + i * 8 + 4, none⟩ = some (.int .i64 x.kind) ∧ W.cell? ⟨b, off + i * 8 + 5, none⟩ = some (.int .i64 x.pl) ∧
  W.cell? ⟨b, off + i * 8 + 6, none⟩ = some (.string x.text) ∧ W.cell? ⟨b, off + i * 8 + 7, none⟩ = some x.sp := by
 obtain ⟨⟨_, ao, cap, rfl, h2⟩, _⟩ := h
 have hl := (List.getElem?_eq_some_iff.1 hi).1
 obtain ⟨b, off, rfl, hc⟩ := h2 (by omega)
 have e : ∀ j, j < 8 → W.cell? ⟨b, off + i * 8 + j, none⟩ = x.vals[j]? := fun j hj => by
  have q := aCells_at l i j x hi hj
  have hlt : j < x.vals.length := hj
  rw [List.getElem?_eq_getElem hlt] at q ⊢
  rw [Nat.add_assoc]
  exact hc _ _ q
 exact ⟨b, off, cap, rfl, e 0 (by decide), e 1 (by decide), e 2 (by decide), e 3 (by decide), e 4 (by decide), e 5 (by decide), e 6 (by decide), e 7 (by decide)⟩
theorem ActsAt.mem {W : World} {v : Value} {l : List PAct} (h : ActsAt W v l) {i : Nat} {x : PAct} (hi : l[i]? = some x) : SpAt W x.sp x.xs ∧ x.Wf := h.2 x (List.mem_of_getElem? hi)
end Go.Proofs.YthekkjfaaedamaaGreatDoor

namespace Go.Proofs.YthekkjfaaedamaaGreatDoor
open Go.RowKit

theorem DKept.up {D : World → Value → List PCell → (Nat → Prop) → Prop} {p : Value} {l : List PCell} {S S' : Nat → Prop} {w w' : World} {N : Nat} (h : DKept D p l S w w' S') (hS : ∀ b, S b → N ≤ b) (hN : N ≤ w.heap.size) : (∀ b, S' b → N ≤ b) ∧ Below N w w' :=
 ⟨fun b hb => (h.2.1 b hb).elim (hS b) (fun q => Nat.le_trans hN q), h.2.2.below hN hS⟩
theorem CAt.keep {S : Nat → Prop} {W W' : World} {v : Value} {l : List PCell} (h : CAt W v l) (hk : Keep S W.heap.size W W') (hg : ∀ g, v.ownBlock = some g → ¬ S g) : CAt W' v l := by
 obtain ⟨hl, ao, cap, rfl, h1, h2, h3, h4⟩ := h
 refine ⟨hl, ao, cap, rfl, h1, h2, h3, fun ad ha => ?_⟩
 subst ha
 obtain ⟨b, off, rfl, hlt, hc⟩ := h4 _ rfl
 refine ⟨b, off, rfl, Nat.lt_of_lt_of_le hlt hk.size, fun j u hj => ?_⟩
 rw [hk.cell (p := ⟨b, off + j, none⟩) hlt (hg b rfl)]
 exact hc j u hj
theorem CAt.lt {W : World} {v : Value} {l : List PCell} (h : CAt W v l) : ∀ g, v.ownBlock = some g → g < W.heap.size := by
 obtain ⟨_, ao, cap, rfl, _, _, _, h4⟩ := h
 intro g hg
 cases ao with
 | none => cases hg
 | some ad =>
  obtain ⟨b, off, rfl, hlt, _⟩ := h4 _ rfl
  cases hg
  exact hlt
end Go.Proofs.YthekkjfaaedamaaGreatDoor

namespace Go.Proofs.YthekkjfaaedamaaGreatDoor
open Go.RowKit

theorem DKept.after {D : World → Value → List PCell → (Nat → Prop) → Prop} {p : Value} {m : List PCell} {S S' : Nat → Prop} {W W1 W' : World} (hb : Below W.heap.size W W1) (h : DKept D p m S W1 W' S') : DKept D p m S W W' S' :=
 ⟨h.1, fun b hb' => (h.2.1 b hb').imp id (fun q => Nat.le_trans hb.size q), (Keep.of_below hb (Nat.le_refl _)).trans (h.2.2.weak hb.size fun _ _ q => q)⟩
theorem DKept.trans {D : World → Value → List PCell → (Nat → Prop) → Prop} {p : Value} {l m : List PCell} {S S1 S2 : Nat → Prop} {W W1 W2 : World} (h : DKept D p l S W W1 S1) (k : DKept D p m S1 W1 W2 S2) : DKept D p m S W W2 S2 :=
 ⟨k.1, fun b hb => (k.2.1 b hb).elim (h.2.1 b) (fun q => .inr (Nat.le_trans h.2.2.size q)), h.2.2.trans (k.2.2.weak h.2.2.size fun b hb q => (h.2.1 b q).elim id (fun z => absurd hb (Nat.not_lt.2 z)))⟩
end Go.Proofs.YthekkjfaaedamaaGreatDoor

namespace Go.Proofs.YthekkjfaaedamaaGreatDoor

end Go.Proofs.YthekkjfaaedamaaGreatDoor

namespace Go.Proofs.YthekkjfaaedamaaGreatDoor

end Go.Proofs.YthekkjfaaedamaaGreatDoor

namespace Go.Proofs.YthekkjfaaedamaaGreatDoor

structure PEnt where
 op : POp
 edit : PEdit
structure PHist where
 base : List PCell
 vec : List Int
 fr : Int
 num : Int
 list : List PEnt
def entOk (e : PEnt) : Bool := eMay e.edit && (decide (e.edit.site = e.op.site ∧ e.edit.seq = e.op.seq) && decide (e.edit.kind = e.op.kind))
def hStep (N : Int) (st : Int × Int × List Int) (e : PEnt) : Option (Int × Int × List Int) :=
 if entOk e = false then none
 else if raiseC st.2.2 e.op.site e.op.seq ≠ 0 then none
 else if e.op.num = 0 then (if st.2.1 ≠ 0 ∧ st.2.1 ≠ e.op.site then none else some (st.1, e.op.site, vRaise st.2.2 e.op.site e.op.seq))
 else if st.2.1 ≠ 0 ∨ e.op.num ≤ st.1 ∨ N < e.op.num then none else some (e.op.num, st.2.1, vRaise st.2.2 e.op.site e.op.seq)
def hFold (N : Int) (l : List PEnt) (st : Int × Int × List Int) : Option (Int × Int × List Int) := l.foldl (fun s e => s.bind fun t => hStep N t e) (some st)
theorem hFold_none (N : Int) (l : List PEnt) : l.foldl (fun s e => s.bind fun t => hStep N t e) none = none := by
 induction l with
 | nil => rfl
 | cons e r ih => exact ih
theorem hFold_next {N : Int} {l : List PEnt} {k : Nat} {e : PEnt} (h : l[k]? = some e) (st : Int × Int × List Int) : hFold N (l.take (k + 1)) st = (hFold N (l.take k) st).bind fun t => hStep N t e := by
 unfold hFold
 rw [List.take_add_one, h, List.foldl_append]
 rfl
theorem hFold_stop {N : Int} {l : List PEnt} {k : Nat} {st : Int × Int × List Int} (h : hFold N (l.take k) st = none) : hFold N l st = none := by
 unfold hFold at h ⊢
 rw [← List.take_append_drop k l, List.foldl_append, h, hFold_none]
def PHist.ops (h : PHist) : List POp := h.list.map PEnt.op
def headH (h : PHist) : Bool := decide (cMay h.base = 0) && vMay h.vec && decide (0 ≤ h.fr ∧ h.fr ≤ h.num ∧ h.num ≤ 1099511627776) && decide (h.list.length ≤ 400)
def baseH (h : PHist) : Bool := h.base.all fun c => decide (c.seq ≤ vCount h.vec c.site)
def mayH (h : PHist) : Bool := headH h && (lRun h.ops h.base.length).isSome && baseH h && (hFold h.num h.list (h.fr, 0, h.vec)).isSome
theorem hStep_bad {N : Int} {st : Int × Int × List Int} {e : PEnt} (h : entOk e = false) : hStep N st e = none := by unfold hStep; rw [if_pos h]
theorem hStep_raise {N : Int} {st : Int × Int × List Int} {e : PEnt} (h : raiseC st.2.2 e.op.site e.op.seq ≠ 0) : hStep N st e = none := by
 unfold hStep
 by_cases g : entOk e = false
 ·rw [if_pos g]
 ·rw [if_neg g, if_pos h]
theorem hStep_pend {N : Int} {st : Int × Int × List Int} {e : PEnt} (h0 : entOk e = true) (h1 : raiseC st.2.2 e.op.site e.op.seq = 0) (h2 : e.op.num = 0) : hStep N st e = if st.2.1 ≠ 0 ∧ st.2.1 ≠ e.op.site then none else some (st.1, e.op.site, vRaise st.2.2 e.op.site e.op.seq) := by
 unfold hStep
 rw [if_neg (by rw [h0]; simp), if_neg (by rw [h1]; simp), if_pos h2]
theorem hStep_num {N : Int} {st : Int × Int × List Int} {e : PEnt} (h0 : entOk e = true) (h1 : raiseC st.2.2 e.op.site e.op.seq = 0) (h2 : e.op.num ≠ 0) : hStep N st e = if st.2.1 ≠ 0 ∨ e.op.num ≤ st.1 ∨ N < e.op.num then none else some (e.op.num, st.2.1, vRaise st.2.2 e.op.site e.op.seq) := by
 unfold hStep
 rw [if_neg (by rw [h0]; simp), if_neg (by rw [h1]; simp), if_neg h2]
end Go.Proofs.YthekkjfaaedamaaGreatDoor

namespace Go.Proofs.YthekkjfaaedamaaGreatDoor

def risesH (N : Int) : Int → List PEnt → Bool
 | _, [] => true
 | last, e :: r => !(decide (e.op.num ≤ last) || decide (N < e.op.num)) && risesH N e.op.num r
def hasNum (e : PEnt) : Bool := decide (e.op.num ≠ 0)
def c1H (h : PHist) : Bool := decide (0 ≤ h.fr ∧ h.fr ≤ h.num ∧ h.num ≤ 1099511627776)
def inVec (v : List Int) (c : PCell) : Bool := vMay v && nMay c.site c.seq && decide (c.seq ≤ vCount v c.site)
def c2H (h : PHist) : Bool := vMay h.vec && h.base.all (inVec h.vec)
def c3H (h : PHist) : Bool := decide (h.list.length ≤ 400) && h.list.all entOk
def c4H (h : PHist) : Bool := risesH h.num h.fr (h.list.takeWhile hasNum)
def oneSite (s : Int) (l : List PEnt) : Bool := l.all fun e => decide (e.op.num = 0) && decide (e.op.site = s)
def c5L : List PEnt → Bool
 | [] => true
 | e :: r => oneSite e.op.site (e :: r)
def c5H (h : PHist) : Bool := c5L (h.list.dropWhile hasNum)
def raisesH : List Int → List PEnt → Option (List Int)
 | v, [] => some v
 | v, e :: r => if raiseC v e.op.site e.op.seq = 0 then raisesH (vRaise v e.op.site e.op.seq) r else none
def c6H (h : PHist) : Bool := (raisesH h.vec h.list).isSome
def c7H (h : PHist) : Bool := (lRun h.ops h.base.length).isSome
def c8H (h : PHist) : Bool := decide (cMay h.base = 0)
theorem raise_name {v : List Int} {s q : Int} (h : raiseC v s q = 0) : s ≠ 0 := by
 unfold raiseC at h
 split at h
 ·omega
 ·rename_i g
  have : nMay s q = true := by cases hn : nMay s q <;> simp_all
  have := of_decide_eq_true this
  omega
theorem fold_cons (N : Int) (e : PEnt) (r : List PEnt) (st : Int × Int × List Int) : hFold N (e :: r) st = (hStep N st e).bind (hFold N r) := by
 unfold hFold
 cases h : hStep N st e with
 | none => simp only [List.foldl_cons, Option.bind_some, h, Option.bind_none]; exact hFold_none N r
 | some t => simp only [List.foldl_cons, Option.bind_some, h]
theorem fold_pend (N : Int) : ∀ (l : List PEnt) (last p : Int) (v : List Int), p ≠ 0 → (hFold N l (last, p, v)).isSome = (l.all entOk && (raisesH v l).isSome && oneSite p l)
 | [], last, p, v, _ => rfl
 | e :: r, last, p, v, hp => by
  rw [fold_cons]
  cases h0 : entOk e with
  | false => rw [hStep_bad h0]; simp [h0]
  | true =>
   by_cases h1 : raiseC v e.op.site e.op.seq = 0
   case neg => rw [hStep_raise h1, raisesH, if_neg h1]; simp
   by_cases h2 : e.op.num = 0
   ·rw [hStep_pend h0 h1 h2]
    by_cases h3 : p = e.op.site
    ·rw [if_neg (by intro g; exact g.2 h3), Option.bind_some, fold_pend N r _ _ _ (by rw [← h3]; exact hp), raisesH, if_pos h1, ← h3]
     unfold oneSite
     simp [h0, h2, ← h3]
    ·rw [if_pos ⟨hp, h3⟩]
     unfold oneSite
     simp [h2, show ¬ e.op.site = p from fun g => h3 g.symm]
   ·rw [hStep_num h0 h1 h2, if_pos (.inl hp)]
    unfold oneSite
    simp [h2]
theorem fold_num (N : Int) : ∀ (l : List PEnt) (last : Int) (v : List Int), (hFold N l (last, 0, v)).isSome = (l.all entOk && (raisesH v l).isSome && (risesH N last (l.takeWhile hasNum) && c5L (l.dropWhile hasNum)))
 | [], last, v => rfl
 | e :: r, last, v => by
  rw [fold_cons]
  cases h0 : entOk e with
  | false => rw [hStep_bad h0]; simp [h0]
  | true =>
   by_cases h1 : raiseC v e.op.site e.op.seq = 0
   case neg => rw [hStep_raise h1, raisesH, if_neg h1]; simp
   by_cases h2 : e.op.num = 0
   ·have hd : hasNum e = false := by unfold hasNum; simp [h2]
    rw [hStep_pend h0 h1 h2, if_neg (by intro g; exact g.1 rfl), Option.bind_some, fold_pend N r _ _ _ (raise_name h1), raisesH, if_pos h1, List.takeWhile_cons_of_neg (by rw [hd]; simp), List.dropWhile_cons_of_neg (by rw [hd]; simp)]
    show _ = (_ && _ && (true && oneSite e.op.site (e :: r)))
    unfold oneSite
    simp [h0, h2]
   ·have hd : hasNum e = true := by unfold hasNum; simp [h2]
    rw [hStep_num h0 h1 h2, raisesH, if_pos h1, List.takeWhile_cons_of_pos hd, List.dropWhile_cons_of_pos hd, risesH]
    by_cases h3 : e.op.num ≤ last
    ·rw [if_pos (.inr (.inl h3))]; simp [h3]
    by_cases h4 : N < e.op.num
    ·rw [if_pos (.inr (.inr h4))]; simp [h4]
    rw [if_neg (by rintro (g | g | g) <;> first | exact g rfl | exact h3 g | exact h4 g), Option.bind_some, fold_num N r]
    simp [h0, h3, h4]
theorem may_all {l : List PCell} (h : cMay l = 0) : l.all cellOk = true := by
 unfold cMay at h
 by_cases g : l.all cellOk = true
 ·exact g
 ·rw [if_neg g] at h; omega
theorem mayH_told (h : PHist) : mayH h = (c1H h && (c2H h && (c3H h && (c4H h && (c5H h && (c6H h && (c7H h && c8H h))))))) := by
 unfold mayH headH
 rw [fold_num]
 unfold c4H c5H c6H c7H c8H c3H c1H
 have hb : cMay h.base = 0 → (vMay h.vec && baseH h) = c2H h := fun h0 => by
  unfold c2H baseH
  cases hv : vMay h.vec with
  | false => rfl
  | true =>
   rw [Bool.true_and, Bool.true_and, Bool.eq_iff_iff, List.all_eq_true, List.all_eq_true]
   refine forall_congr' fun c => forall_congr' fun hc => ?_
   have := List.all_eq_true.1 (may_all h0) c hc
   unfold cellOk at this
   simp only [Bool.and_eq_true] at this
   unfold inVec
   rw [hv, this.1.1]
   simp
 by_cases h0 : cMay h.base = 0
 ·rw [← hb h0]
  generalize vMay h.vec = x1
  generalize baseH h = x2
  generalize (lRun h.ops h.base.length).isSome = x3
  generalize h.list.all entOk = x4
  generalize (raisesH h.vec h.list).isSome = x5
  generalize risesH h.num h.fr (h.list.takeWhile hasNum) = x6
  generalize c5L (h.list.dropWhile hasNum) = x7
  generalize decide (0 ≤ h.fr ∧ h.fr ≤ h.num ∧ h.num ≤ 1099511627776) = x8
  generalize decide (h.list.length ≤ 400) = x9
  generalize decide (cMay h.base = 0) = x10
  simp only [Bool.and_assoc]
  ac_rfl
 ·rw [decide_eq_false h0]; simp
end Go.Proofs.YthekkjfaaedamaaGreatDoor
