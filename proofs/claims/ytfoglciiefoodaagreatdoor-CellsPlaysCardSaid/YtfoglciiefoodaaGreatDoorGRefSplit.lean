/- Texts of this proof, joined. -/
import Derived.Test.YtfoglciiefoodaaGreatDoorFirst
import Derived.Maps.AppendAt
import Derived.RangeFuncBox
import Derived.Test.YtfoglciiefoodaaGreatDoorRefBytes
import Derived.Test.YtfoglciiefoodaaGreatDoorGReads64
import Derived.Test.YtfoglciiefoodaaGreatDoorConvOwn
import Derived.Laws.BytesArg
import Derived.Test.YtfoglciiefoodaaGreatDoorGRefOps
import Derived.Deep.RegionHeldLaw
import Derived.Deep.AppendLies
import Derived.Test.YtfoglciiefoodaaGreatDoorGPlain
import Derived.Test.YtfoglciiefoodaaGreatDoorGNameEq
namespace Go.Proofs.YtfoglciiefoodaaGreatDoor
open Go.RowKit

theorem infoI32' : (Tryz.prog.info? 21).map (fun i => (i.zero, i.size, i.bytes)) = some (some (.int .i32 0), 1, 4) := by kernel_rfl
def strLen : Value → Nat | .string t => t.size | _ => 0
theorem extract_tail (t : ByteArray) (k : Nat) : (t.extract k t.size).data.toList = t.data.toList.drop k := by
  rw [Lib.extract_data, List.take_of_length_le]
  rw [List.length_drop, Lib.size_eq]; omega

def SplitPost (w : World) (o : Option (List Int)) (e : Ending) (w' : World) : Prop :=
  Below w.heap.size w w' ∧ match o with
    | none => e = .returned (.tuple #[.slice none 0 0, .bool false])
    | some rs => ∃ v, e = .returned (.tuple #[v, .bool true]) ∧ w'.ownsRow w.heap.size 21 1 v rs.length (rs.map (Value.int .i32))

set_option maxRecDepth 100000 in
set_option maxHeartbeats 1000000 in
theorem rsplit_any (s : ByteArray) (hs : s.size ≤ 1000000) (w : World) :
    Calls Tryz.prog 74 #[.string s] w (SplitPost w (runesL s.data.toList)) := by
  obtain ⟨i0, hi, hz0, hz1, hz2⟩ := info_parts infoI32'
  go_enter Tryz.func74, Tryz.ntmps74
  go_wp2
  go_loopw [0, 4] (fun sv v wr => ∃ (t : ByteArray) (acc : List Int), sv = .string t ∧ wr.ownsRow w.heap.size 21 1 v acc.length (acc.map (Value.int .i32)) ∧ runesL s.data.toList = (runesL t.data.toList).map (acc ++ ·) ∧ acc.length + t.size ≤ s.size ∧ Below w.heap.size w wr) (fun sv _ _ => strLen sv)
  case atStart => exact ⟨s, [], rfl, World.ownsRow_nil _ _ _ _, by cases runesL s.data.toList <;> rfl, by simp, Below.refl _ _⟩
  case round =>
    obtain ⟨t, acc, rfl, hown, hr, hlen, hb⟩ := hrel
    have Hr := Lib.hid hr
    clear hr
    rcases Nat.eq_zero_or_pos t.size with h0 | h0
    · have ht : t.data.toList = [] := List.eq_nil_of_length_eq_zero (by rw [← Lib.size_eq]; exact h0)
      have hfin : runesL s.data.toList = some acc := by rw [Hr.out, ht]; simp [runesL_nil]
      have Hf := Lib.hid hfin
      have h0' : ¬ (0 : Int) < (t.size : Int) := by omega
      clear hfin ht h0
      go_wp2
      go_ret2
      rw [Hf.out]
      exact ⟨hb, u4, rfl, hown⟩
    · have h0' : (0 : Int) < (t.size : Int) := by omega
      have hF := fun w => first_any t (by omega) h0 w
      cases hbad : badL t.data.toList with
      | true =>
        rw [firstR_bad hbad, firstK_bad hbad] at hF
        have hfin : runesL s.data.toList = none := by rw [Hr.out, runesL_bad _ (nonempty_of h0) hbad]; rfl
        have Hf := Lib.hid hfin
        clear hfin hbad
        go_wp2_with (go_at_call 99; refine (hF _).mono ?_; rintro e w1 ⟨rfl, hb1⟩)
        go_ret2
        rw [Hf.out]
        exact ⟨hb.trans (hb1.mono hb.size), rfl⟩
      | false =>
        have hstep := runesL_step _ (nonempty_of h0) hbad
        obtain ⟨b1, b2, b3, b4⟩ := decodeL_bound _ (nonempty_of h0) hbad
        have eR : firstR t.data.toList = ((Lib.decodeL t.data.toList).1 : Int) := by unfold firstR; rw [hbad]; rfl
        have eK : firstK t.data.toList = (Lib.decodeL t.data.toList).2 := by unfold firstK; rw [hbad]; rfl
        rw [eR, eK] at hF
        rw [← Lib.size_eq] at b4
        generalize (Lib.decodeL t.data.toList).1 = R at *
        generalize (Lib.decodeL t.data.toList).2 = K at *
        have hK0 : ((K : Int) == 0) = false := beq_eq_false_iff_ne.2 (by omega)
        have hnext : runesL s.data.toList = (runesL (t.extract K t.size).data.toList).map ((acc ++ [(R : Int)]) ++ ·) := by
          rw [Hr.out, hstep, extract_tail]
          cases runesL (t.data.toList.drop K) <;> simp
        have Hn := Lib.hid hnext
        clear hnext hstep eR eK hbad
        go_wp2_with (first
          | (go_at_call 99; refine (hF _).mono ?_; clear hF; rintro e w1 ⟨rfl, hb1⟩; have hown1 := hown.kept (w' := w1) (row := none) ⟨hb1.os, hb1.tape, hb1.output, hb1.size, fun i hi _ => hb1.block i hi⟩ (Decidable.em (u4.ownBlock = none)); have hbw1 := hb.trans (hb1.mono hb.size))
          | (at_builtin; go_must (refine wpList_append_own _ rfl _ _ 65 rfl w.heap.size 21 i0 (.int .i32 0) 1 4 Tryz.underlying65 hi hz0 hz1 hz2 rfl (by decide) _ _ _ rfl (hown1.alloc _) ⟨w1.heap.size, 0, none⟩ 1 1 [.int .i32 R] rfl rfl (cell_one_new _ _ _) (by simp [Value.oneCell']) (by unfold maxLen; omega) (by omega) (by have := hbw1.size; simp; omega) ?_; intro v' w3 hown' hgrow _)))
        refine ⟨⟨_, acc ++ [(R : Int)], rfl, by simpa using hown', Hn.out, by simp; omega, ?_⟩, by simp [strLen]; omega⟩
        exact (hbw1.alloc hbw1.size _).grown hgrow (by have := hbw1.size; simp; omega) (fun k hk => (hown1.lt k hk).1)

set_option maxHeartbeats 400000 in
theorem rlen_any (s : ByteArray) (hs : s.size ≤ 1000000) (w : World) :
    Calls Tryz.prog 73 #[.string s] w fun e w' => e = .returned (.int .i64 (match runesL s.data.toList with | some rs => (rs.length : Int) | none => -1)) ∧ Below w.heap.size w w' := by
  have hS := rsplit_any s hs w
  cases hr : runesL s.data.toList with
  | none =>
    rw [hr] at hS
    clear hr
    go_enter Tryz.func73, Tryz.ntmps73
    go_wp2_with (go_at_call 74; refine hS.mono ?_; rintro e w1 ⟨hb, rfl⟩)
    go_ret
    exact ⟨rfl, hb⟩
  | some rs =>
    rw [hr] at hS
    clear hr
    go_enter Tryz.func73, Tryz.ntmps73
    go_wp2_with fail
    refine hS.mono ?_
    rintro e w1 ⟨hb, v, rfl, hown⟩
    obtain ⟨ao, cap, rfl⟩ : ∃ ao cap, v = .slice ao rs.length cap := by
      rcases hown.2 with ⟨hv, h0⟩ | ⟨g, cap, cur, hv, _⟩
      · exact ⟨none, 0, by rw [hv, h0]⟩
      · exact ⟨_, _, hv⟩
    go_wp2
    go_ret
    exact ⟨rfl, hb⟩
end Go.Proofs.YtfoglciiefoodaaGreatDoor

namespace Go.Proofs.YtfoglciiefoodaaGreatDoor
open Go.RowKit

def allValid (l : List Int) : Bool := l.all Lib.validRune
theorem allValid_iff {l : List Int} : allValid l = true ↔ ∀ r ∈ l, Lib.validRune r = true := by simp [allValid]

theorem joinL_length_le (l : List Int) : (joinL l).length ≤ 4 * l.length := by
  induction l with
  | nil => simp [joinL_nil]
  | cons r l ih =>
    rw [joinL_cons, List.length_append, List.length_cons]
    have := encode_le r
    omega
theorem joinL_take (l : List Int) (k : Nat) (h : k < l.length) : joinL (l.take (k + 1)) = joinL (l.take k) ++ Lib.encodeRune (l.getD k 0) := by
  rw [List.take_succ_eq_append_getElem h, joinL_append]
  simp [joinL, h]

theorem bytes_cells (r : Int) (w : World) (h : Lib.validRune r = true) : Calls Tryz.prog 80 #[.int .i32 r] w fun e w' => ∃ b, e = .returned (.slice (some ⟨b, 0, none⟩) (Lib.encodeRune r).length (Lib.encodeRune r).length) ∧ Below w.heap.size w w' ∧ (∀ j u, (Lib.byteCells (Lib.encodeRune r))[j]? = some u → w'.cell? ((⟨b, 0, none⟩ : Addr).add j) = some u) := by
  refine (bytes_any r w h).mono ?_
  rintro e w' ⟨rfl, rfl⟩
  refine ⟨w.heap.size, by rw [Lib.runeCells_length], (Below.refl _ _).alloc (Nat.le_refl _) _, fun j u hj => ?_⟩
  have e : (⟨w.heap.size, 0, none⟩ : Addr).add j = ⟨w.heap.size, j, none⟩ := by simp [Addr.add]; omega
  rw [e, World.cell?_alloc_mark]
  rw [Lib.byteCells_encodeRune] at hj
  simpa using hj

def RJoinPost (w : World) (xs : List Int) (e : Ending) (w' : World) : Prop :=
  e = .returned (if allValid xs then .tuple #[.string ⟨(joinL xs).toArray⟩, .bool true] else .tuple #[.string ⟨#[]⟩, .bool false]) ∧ Below w.heap.size w w'
theorem RJoinPost.yes {w w' : World} {xs : List Int} (h : allValid xs = true) (hb : Below w.heap.size w w') : RJoinPost w xs (.returned (.tuple #[.string ⟨(joinL xs).toArray⟩, .bool true])) w' := ⟨by rw [if_pos h], hb⟩
theorem RJoinPost.no {w w' : World} {xs : List Int} (h : ¬ allValid xs = true) (hb : Below w.heap.size w w') : RJoinPost w xs (.returned (.tuple #[.string ⟨#[]⟩, .bool false])) w' := ⟨by rw [if_neg h], hb⟩

set_option maxRecDepth 100000 in
set_option maxHeartbeats 2000000 in
theorem rjoin_any (v : Value) (xs : List Int) (hx : xs.length ≤ 1000000) (w : World) (h1 : Reads32 w v xs) :
    Calls Tryz.prog 50 #[v] w (RJoinPost w xs) := by
  obtain ⟨i0, hi, hz0, hz1, hz2⟩ := info_parts infoU8
  have hR := h1
  obtain ⟨ao, c1, rfl, r1⟩ := h1
  obtain ⟨n, hn⟩ : ∃ n, xs.length = n := ⟨_, rfl⟩
  rw [hn]
  have Hn := Lib.hid hn
  have HR := Lib.hid hR
  have R1 := Lib.hid r1
  have hn1 : n ≤ 1000000 := by omega
  clear hn hx hR r1
  go_enter Tryz.func50, Tryz.ntmps50
  go_wp2
  go_loopw [4, 5] (fun v i wr => ∃ k : Nat, i = .int .i64 k ∧ k ≤ n ∧ (∀ r ∈ xs.take k, Lib.validRune r = true) ∧ wr.ownsRow w.heap.size 5 1 v (joinL (xs.take k)).length (Lib.byteCells (joinL (xs.take k))) ∧ Below w.heap.size w wr) (fun _ i _ => n - (intOf i).toNat)
  case atStart => exact ⟨0, rfl, Nat.zero_le _, by simp, World.ownsRow_nil _ _ _ _, Below.refl _ _⟩
  case round =>
    obtain ⟨k, rfl, hk, hval, hown, hb⟩ := hrel
    have Hval := Lib.hid hval
    clear hval
    rcases Nat.lt_or_ge k n with hlt | hge
    · have hxk : k < xs.length := by rw [Hn.out]; exact hlt
      obtain ⟨b, off, rfl, q1⟩ := R1.out (by intro e; rw [e] at hxk; simp at hxk)
      have hB0 : b < w.heap.size := by
        rcases Nat.lt_or_ge b w.heap.size with h' | h'
        · exact h'
        · have := q1 k hxk
          simp [World.cell?, Array.getElem?_eq_none h'] at this
      obtain ⟨x, ex⟩ : ∃ x, xs.getD k 0 = x := ⟨_, rfl⟩
      have gk : ∀ W, Below w.heap.size w W → W.cell? ⟨b, off + k, none⟩ = some (.int .i32 x) := fun W h => by
        rw [h.cell (p := ⟨b, off + k, none⟩) hB0, q1 k hxk, ex]
      have Q1 := Lib.hid q1
      have hki : (k : Int) < n := by omega
      have hI := fun w => is_any x w
      have g1 := gk wr hb
      cases hv : Lib.validRune x with
      | false =>
        have hno : ¬ allValid xs = true := fun h => by
          have := allValid_iff.1 h x (by rw [← ex]; simp [List.getD, hxk])
          rw [hv] at this; cases this
        have Hno := Lib.hid hno
        rw [hv] at hI
        clear hno hv q1 gk ex
        go_wp2_with (go_at_call 40; refine (hI _).mono ?_; rintro e _ ⟨rfl, rfl⟩)
        go_ret2
        exact RJoinPost.no Hno.out hb
      | true =>
        have hB := fun w => bytes_cells x w hv
        have hjn : joinL (xs.take (k + 1)) = joinL (xs.take k) ++ Lib.encodeRune x := by rw [joinL_take xs k hxk, ex]
        have hvn : ∀ r ∈ xs.take (k + 1), Lib.validRune r = true := by
          intro r hr
          rw [List.take_succ_eq_append_getElem hxk] at hr
          rcases List.mem_append.1 hr with h | h
          · exact Hval.out r h
          · simp at h
            simp [List.getD, hxk] at ex
            rw [h, ex]; exact hv
        have hjl : (joinL (xs.take k)).length ≤ 4 * 1000000 := by
          have h1 := joinL_length_le (xs.take k)
          rw [List.length_take] at h1
          omega
        have h4 := encode_le x
        rw [hv] at hI
        have Hjn := Lib.hid hjn
        have Hvn := Lib.hid hvn
        have Gk := Lib.hid gk
        clear hjn hvn hv q1 gk ex
        go_wp2_with (first
          | (go_at_call 40; refine (hI _).mono ?_; clear hI; rintro e _ ⟨rfl, rfl⟩)
          | (go_at_call 80; refine (hB _).mono ?_; clear hB; rintro e w1 ⟨b1, rfl, hb1, hc1⟩; have hown1 := hown.kept (w' := w1) (row := none) ⟨hb1.os, hb1.tape, hb1.output, hb1.size, fun i hi _ => hb1.block i hi⟩ (Decidable.em (u4.ownBlock = none)); have hbw1 := hb.trans (hb1.mono hb.size); have Hc1 := Lib.hid hc1; clear hc1)
          | (at_builtin; go_must (refine wpList_append_own _ rfl _ _ 133 rfl w.heap.size 5 i0 (.int .u8 0) 1 1 Tryz.underlying133 hi hz0 hz1 hz2 rfl (by decide) _ _ _ rfl hown1 ⟨b1, 0, none⟩ (Lib.encodeRune x).length (Lib.encodeRune x).length (Lib.byteCells (Lib.encodeRune x)) rfl (by rw [Lib.byteCells_length, Nat.mul_one]) Hc1.out (by intro u hu; simp [Lib.byteCells] at hu; obtain ⟨y, _, rfl⟩ := hu; rfl) (by unfold maxLen; omega) (by omega) hbw1.size ?_; intro v' w3 hown' hgrow _)))
        refine ⟨⟨k + 1, by go_num, hlt, Hvn.out, ?_, hbw1.grown hgrow hbw1.size (fun k hk => (hown1.lt k hk).1)⟩, by simp [intOf]; omega⟩
        rw [Hjn.out, List.length_append, Lib.byteCells_append]
        exact hown'
    · obtain rfl : k = n := by omega
      rw [List.take_of_length_le (by rw [Hn.out]; exact Nat.le_refl _)] at hown
      have hall : allValid xs = true := by
        rw [allValid_iff]
        have := Hval.out
        rwa [List.take_of_length_le (by rw [Hn.out]; exact Nat.le_refl _)] at this
      have Hall := Lib.hid hall
      have hconv := conv_own hown
      clear hall
      go_wp2
      go_ret2
      exact RJoinPost.yes Hall.out hb
end Go.Proofs.YtfoglciiefoodaaGreatDoor

namespace Go.Proofs.YtfoglciiefoodaaGreatDoor
open Go.RowKit

theorem rlenT_any (s : ByteArray) (hs : s.size ≤ 1000000) (w : World) :
    Calls Tryz.prog 73 #[.string s] w fun e w' => e = .returned (.int .i64 (lenT s.data.toList)) ∧ Below w.heap.size w w' := rlen_any s hs w
set_option maxRecDepth 100000 in
set_option maxHeartbeats 2000000 in
theorem rOText_any (t : ByteArray) (ht : t.size ≤ 1000000) (w : World) :
    Calls Tryz.prog 72 #[.string t] w fun e w' => e = .returned (.bool (mayT t.data.toList)) ∧ Below w.heap.size w w' := by
  have hL := rlenT_any t ht w
  have hsz : t.data.toList.length = t.size := (Lib.size_eq t).symm
  by_cases h8 : 800 < t.size
  · have hV := Lib.hid (show mayT t.data.toList = false by unfold mayT; rw [decide_eq_false (by omega), Bool.false_and])
    clear hsz
    go_enter Tryz.func72, Tryz.ntmps72
    go_wp2
    go_ret
    exact ⟨ret_bool hV.out.symm, Below.refl _ _⟩
  · have hV := Lib.hid (show mayT t.data.toList = (decide (1 ≤ lenT t.data.toList) && decide (lenT t.data.toList ≤ 200)) by
      unfold mayT
      rw [decide_eq_true (by omega), Bool.true_and, Bool.eq_iff_iff]
      simp)
    clear hsz
    generalize lenT t.data.toList = L at *
    go_enter Tryz.func72, Tryz.ntmps72
    go_wp2_with fail
    refine hL.mono ?_
    clear hL
    rintro e w1 ⟨rfl, hb⟩
    by_cases g1 : 1 ≤ L
    · have hV2 := Lib.hid (show mayT t.data.toList = decide (L ≤ 200) by rw [hV.out, decide_eq_true g1, Bool.true_and])
      go_wp2
      go_ret
      exact ⟨ret_bool hV2.out.symm, hb⟩
    · have hV2 := Lib.hid (show mayT t.data.toList = false by rw [hV.out, decide_eq_false g1, Bool.false_and])
      go_wp2
      go_ret
      exact ⟨ret_bool hV2.out.symm, hb⟩
theorem oMay_kind1 {s q n a size : Int} {t : List UInt8} {xs : List Sp} (h : decide (0 ≤ size ∧ size ≤ 20000) = true) (hm : nMay s q = true) (hn : decide (0 ≤ n ∧ n ≤ 1099511627776) = true) :
    oMay ⟨s, q, n, 1, a, t, xs⟩ size = (decide (0 ≤ a ∧ a ≤ size) && mayT t && decide (xs = []) && decide (size + lenT t ≤ 20000)) := by
  unfold oMay
  dsimp only
  rw [h, hm, hn, if_pos rfl]
  simp
theorem oMay_kind2 {s q n k a size : Int} {t : List UInt8} {xs : List Sp} (h : decide (0 ≤ size ∧ size ≤ 20000) = true) (hm : nMay s q = true) (hn : decide (0 ≤ n ∧ n ≤ 1099511627776) = true) (hk : k ≠ 1) :
    oMay ⟨s, q, n, k, a, t, xs⟩ size = (decide (k = 2) && decide (a = 0) && decide (t = []) && sMay xs && xs.all fun x => decide (x.1 + x.2 ≤ size)) := by
  unfold oMay
  dsimp only
  rw [h, hm, hn, if_neg hk]
  simp
theorem oMay_no {s q n k a size : Int} {t : List UInt8} {xs : List Sp} (h : ¬ (0 ≤ size ∧ size ≤ 20000 ∧ nMay s q = true ∧ 0 ≤ n ∧ n ≤ 1099511627776)) : oMay ⟨s, q, n, k, a, t, xs⟩ size = false := by
  cases hz : oMay ⟨s, q, n, k, a, t, xs⟩ size with
  | false => rfl
  | true =>
    unfold oMay at hz
    dsimp only at hz
    simp only [Bool.and_eq_true, decide_eq_true_eq] at hz
    exact absurd ⟨hz.1.1.1.1, hz.1.1.1.2, hz.1.1.2, hz.1.2.1, hz.1.2.2⟩ h
theorem all_next {xs : List Sp} (p : Sp → Bool) {k : Nat} (hk : k < xs.length) : (xs.take (k + 1)).all p = ((xs.take k).all p && p (xs.getD k (0, 0))) := by
  rw [List.take_succ_eq_append_getElem hk, List.all_append, getD_cell hk]
  simp
theorem all_no {xs : List Sp} (p : Sp → Bool) {k : Nat} (hk : k < xs.length) (h : p (xs.getD k (0, 0)) = false) : xs.all p = false := by
  rw [List.all_eq_false]
  exact ⟨xs[k], List.getElem_mem hk, by rw [getD_cell hk, h]; simp⟩
set_option maxRecDepth 100000 in
set_option maxHeartbeats 8000000 in
theorem rOMay_any (s q n k a size : Int) (t : ByteArray) (sp : Value) (xs : List Sp) (ht : t.size ≤ 1000000) (w : World) (h : SpAt w sp xs) (hx : xs.length ≤ 1000000000) (ha : (Lit.int .i64 a).wf = true) :
    Calls Tryz.prog 44 #[opV s q n k a t sp, .int .i64 size] w fun e w' => e = .returned (.bool (oMay ⟨s, q, n, k, a, t.data.toList, xs⟩ size)) ∧ Below w.heap.size w w' := by
  have hM := fun W => rMayName_any s q W
  unfold nmV at hM
  have hT := fun W => rOText_any t ht W
  have hL := fun W => rlenT_any t ht W
  have hbx := OBox.new s q n k a t sp w 35
  have hs := h.below hbx.2.2.2.2.2.2.2
  obtain ⟨R, hR⟩ : ∃ R, oMay ⟨s, q, n, k, a, t.data.toList, xs⟩ size = R := ⟨_, rfl⟩
  rw [hR]
  have hNo : ¬ (0 ≤ size ∧ size ≤ 20000 ∧ nMay s q = true ∧ 0 ≤ n ∧ n ≤ 1099511627776) → R = false := fun g => by rw [← hR]; exact oMay_no g
  have HNO := Lib.hid hNo
  have HR := Lib.hid hR
  have HB := Lib.hid hbx
  have HS := Lib.hid hs
  clear hNo hR hbx hs
  unfold opV
  go_enter Tryz.func44, Tryz.ntmps44
  by_cases g0 : size < 0
  · have hV := Lib.hid (HNO.out (by omega))
    go_wp2
    go_ret
    exact ⟨ret_bool hV.out.symm, HB.out.2.2.2.2.2.2.2⟩
  by_cases g1 : 20000 < size
  · have hV := Lib.hid (HNO.out (by omega))
    go_wp2
    go_ret
    exact ⟨ret_bool hV.out.symm, HB.out.2.2.2.2.2.2.2⟩
  go_wp2_with fail
  refine (hM _).mono ?_
  clear hM
  rintro e w1 ⟨rfl, hb⟩
  have H1 := Lib.hid (HB.out.keep hb)
  have S1 := Lib.hid (HS.out.below hb)
  clear hb HB HS
  obtain ⟨c0, c1, c2, c3, c4, c5, c6, _⟩ := id H1.out
  cases hm : nMay s q with
  | false =>
    have hV := Lib.hid (HNO.out (by rw [hm]; intro q; exact Bool.noConfusion q.2.2.1))
    clear hm
    go_wp2
    go_ret
    exact ⟨ret_bool hV.out.symm, H1.out.2.2.2.2.2.2.2⟩
  | true =>
  by_cases g2 : n < 0
  · have hV := Lib.hid (HNO.out (by omega))
    clear hm
    go_wp2
    go_ret
    exact ⟨ret_bool hV.out.symm, H1.out.2.2.2.2.2.2.2⟩
  by_cases g3 : 1099511627776 < n
  · have hV := Lib.hid (HNO.out (by omega))
    clear hm
    go_wp2
    go_ret
    exact ⟨ret_bool hV.out.symm, H1.out.2.2.2.2.2.2.2⟩
  have e0 : decide (0 ≤ size ∧ size ≤ 20000) = true := decide_eq_true (by omega)
  have e1 : decide (0 ≤ n ∧ n ≤ 1099511627776) = true := decide_eq_true (by omega)
  have g2' : 0 ≤ n := by omega
  have g3' : n ≤ 1099511627776 := by omega
  by_cases hk : k = 1
  · subst hk
    have HR1 := Lib.hid (HR.out.symm.trans (oMay_kind1 (a := a) (t := t.data.toList) (xs := xs) e0 hm e1))
    clear hm e0 e1 HR HNO
    by_cases a0 : a < 0
    · have hV := Lib.hid (show R = false by rw [HR1.out, decide_eq_false (by omega)]; rfl)
      have a0' : ¬ 0 ≤ a := by omega
      go_wp2
      go_ret
      exact ⟨ret_bool hV.out.symm, H1.out.2.2.2.2.2.2.2⟩
    by_cases a1 : size < a
    · have hV := Lib.hid (show R = false by rw [HR1.out, decide_eq_false (by omega)]; rfl)
      have a0' : 0 ≤ a := by omega
      have a1' : ¬ a ≤ size := by omega
      go_wp2
      go_ret
      exact ⟨ret_bool hV.out.symm, H1.out.2.2.2.2.2.2.2⟩
    have a0' : 0 ≤ a := by omega
    have a1' : a ≤ size := by omega
    have HR2 := Lib.hid (show R = (mayT t.data.toList && decide (xs = []) && decide (size + lenT t.data.toList ≤ 20000)) by rw [HR1.out, decide_eq_true (p := 0 ≤ a ∧ a ≤ size) ⟨a0', a1'⟩, Bool.true_and])
    have hlb := lenT_ge t.data.toList
    have hub := lenT_le t.data.toList
    rw [← Lib.size_eq] at hub
    generalize lenT t.data.toList = L at *
    go_wp2_with fail
    refine (hT _).mono ?_
    clear hT c0 c1 c2 c3 c4 c5 c6
    rintro e w2 ⟨rfl, hb⟩
    have H2 := Lib.hid (H1.out.keep hb)
    clear hb H1 S1
    obtain ⟨c0, c1, c2, c3, c4, c5, c6, _⟩ := id H2.out
    cases hmt : mayT t.data.toList with
    | false =>
      have hV := Lib.hid (show R = false by rw [HR2.out, hmt]; rfl)
      clear hmt
      go_wp2
      go_ret
      exact ⟨ret_bool hV.out.symm, H2.out.2.2.2.2.2.2.2⟩
    | true =>
    have HR3 := Lib.hid (show R = (decide (xs = []) && decide (size + L ≤ 20000)) by rw [HR2.out, hmt, Bool.true_and])
    clear hmt HR2 HR1
    obtain ⟨ao, cap, rfl, _⟩ := h
    by_cases hnil : xs = []
    · have HR4 := Lib.hid (show R = decide (size + L ≤ 20000) by rw [HR3.out, decide_eq_true hnil, Bool.true_and])
      have hl0 : xs.length = 0 := by rw [hnil]; rfl
      rw [hl0] at c6 ⊢
      have hw : IntKind.i64.wrap (size + L) = size + L := by simp only [IntKind.wrap_i64]; omega
      go_wp2_with fail
      refine (hL _).mono ?_
      clear hL c0 c1 c2 c3 c4 c5 c6
      rintro e w3 ⟨rfl, hb⟩
      have H3 := Lib.hid ((H2.out.2.2.2.2.2.2.2).trans (hb.mono H2.out.2.2.2.2.2.2.2.size))
      clear hb
      go_wp2
      go_ret
      exact ⟨ret_bool HR4.out.symm, H3.out⟩
    · have hV := Lib.hid (show R = false by rw [HR3.out, decide_eq_false hnil]; rfl)
      obtain ⟨nl, hnl⟩ : ∃ nl, xs.length = nl := ⟨_, rfl⟩
      rw [hnl] at c6 ⊢
      have hne : ((nl : Int) == 0) = false := beq_eq_false_iff_ne.2 (by
        rintro q
        exact hnil (List.eq_nil_of_length_eq_zero (by omega)))
      clear hnl hnil
      go_wp2
      go_ret
      exact ⟨ret_bool hV.out.symm, H2.out.2.2.2.2.2.2.2⟩
  · have hk1 : (k == 1) = false := beq_eq_false_iff_ne.2 hk
    have HR1 := Lib.hid (HR.out.symm.trans (oMay_kind2 (a := a) (t := t.data.toList) (xs := xs) e0 hm e1 hk))
    clear hm e0 e1 HR HNO hT hL
    by_cases k2 : k = 2
    case neg =>
      have hV := Lib.hid (show R = false by rw [HR1.out, decide_eq_false k2]; rfl)
      have k2' : (k != 2) = true := bne_iff_ne.2 k2
      clear k2 hk
      go_wp2
      go_ret
      exact ⟨ret_bool hV.out.symm, H1.out.2.2.2.2.2.2.2⟩
    subst k2
    by_cases a0 : a = 0
    case neg =>
      have hV := Lib.hid (show R = false by rw [HR1.out, decide_eq_false a0]; rfl)
      have a0' : (a != 0) = true := bne_iff_ne.2 a0
      clear a0 hk
      go_wp2
      go_ret
      exact ⟨ret_bool hV.out.symm, H1.out.2.2.2.2.2.2.2⟩
    subst a0
    by_cases t0 : t.data.toList = []
    case neg =>
      have hV := Lib.hid (show R = false by rw [HR1.out, decide_eq_false t0]; rfl)
      have t0' : ¬ t.toList = [] := by rw [list_data]; exact t0
      clear t0 hk
      go_wp2
      go_ret
      exact ⟨ret_bool hV.out.symm, H1.out.2.2.2.2.2.2.2⟩
    have HR2 := Lib.hid (show R = (sMay xs && xs.all fun x => decide (x.1 + x.2 ≤ size)) by rw [HR1.out, decide_eq_true t0]; simp)
    have t0' : t.toList = [] := by rw [list_data]; exact t0
    have hQ := rSpMay_any sp xs w1 S1.out hx
    clear t0 hk HR1
    go_wp2_with fail
    refine hQ.mono ?_
    clear hQ c0 c1 c2 c3 c4 c5 c6
    rintro e w2 ⟨rfl, hb⟩
    have H2 := Lib.hid (H1.out.keep hb)
    have S2 := Lib.hid (S1.out.below hb)
    clear hb H1 S1
    cases hsm : sMay xs with
    | false =>
      have hV := Lib.hid (show R = false by rw [HR2.out, hsm]; rfl)
      clear hsm
      go_wp2
      go_ret
      exact ⟨ret_bool hV.out.symm, H2.out.2.2.2.2.2.2.2⟩
    | true =>
    have HG := Lib.hid ((sMay_good xs).1 hsm)
    have HR3 := Lib.hid (show R = xs.all fun x => decide (x.1 + x.2 ≤ size) by rw [HR2.out, hsm, Bool.true_and])
    clear hsm HR2
    obtain ⟨ao, cap, rfl, _⟩ := h
    obtain ⟨nl, hnl⟩ : ∃ nl, xs.length = nl := ⟨_, rfl⟩
    rw [hnl] at H2 S2 ⊢
    have HNL := Lib.hid hnl
    rw [hnl] at hx
    clear hnl
    go_wp2_with fail
    go_loopw [5] (fun i wr => ∃ c : Nat, i = .int .i64 c ∧ c ≤ nl ∧ ((xs.take c).all fun x => decide (x.1 + x.2 ≤ size)) = true ∧ Below w2.heap.size w2 wr) (fun i _ => nl - (intOf i).toNat)
    case atStart => exact ⟨0, rfl, Nat.zero_le _, rfl, Below.refl _ _⟩
    case round =>
      rename_i wr
      obtain ⟨c, rfl, hc, hall, hbw⟩ := hrel
      have H3 := Lib.hid (H2.out.keep hbw)
      have S3 := Lib.hid (S2.out.below hbw)
      have HALL := Lib.hid hall
      have HBW := Lib.hid hbw
      clear hall hbw
      obtain ⟨c0, c1, c2, c3, c4, c5, c6, _⟩ := id H3.out
      rcases Nat.lt_or_ge c nl with hlt | hge
      · have hxk : c < xs.length := by rw [HNL.out]; exact hlt
        obtain ⟨b, off, cap', hv, d0, d1⟩ := S3.out.at hxk
        rw [HNL.out] at hv
        cases hv
        have hgs := HG.out.1 _ (List.getElem_mem hxk)
        rw [getD_cell hxk] at hgs
        have hnx := all_next (fun x => decide (x.1 + x.2 ≤ size)) hxk
        have hbad := all_no (fun x => decide (x.1 + x.2 ≤ size)) hxk
        generalize (xs.getD c (0, 0)).1 = F at *
        generalize (xs.getD c (0, 0)).2 = E at *
        have HNX := Lib.hid hnx
        have HBAD := Lib.hid hbad
        clear hnx hbad hxk
        have hi : (0 : Int) ≤ (c : Int) ∧ (c : Int) < (nl : Int) := ⟨by omega, by omega⟩
        have hw : IntKind.i64.wrap (F + E) = F + E := by simp only [IntKind.wrap_i64]; omega
        by_cases hf : size < F + E
        · have hV := Lib.hid (HR3.out.trans (HBAD.out (decide_eq_false (by omega))))
          go_wp2_with fail
          go_quiet (fail)
          go_wp2
          go_ret
          exact ⟨ret_bool hV.out.symm, below_draws H3.out.2.2.2.2.2.2.2 _⟩
        · have hN := Lib.hid (show ((xs.take (c + 1)).all fun x => decide (x.1 + x.2 ≤ size)) = true by rw [HNX.out, HALL.out, decide_eq_true (by omega)]; rfl)
          go_wp2_with fail
          go_quiet (fail)
          go_wp2
          exact ⟨⟨c + 1, by go_num, by omega, hN.out, below_draws HBW.out _⟩, by simp [intOf]; omega⟩
      · obtain rfl : c = nl := by omega
        have hV := Lib.hid (show R = true by
          have := HALL.out
          rw [List.take_of_length_le (by rw [HNL.out]; exact Nat.le_refl _)] at this
          rw [HR3.out, this])
        go_wp2
        go_ret
        exact ⟨ret_bool hV.out.symm, H3.out.2.2.2.2.2.2.2⟩
end Go.Proofs.YtfoglciiefoodaaGreatDoor

namespace Go.Proofs.YtfoglciiefoodaaGreatDoor
open Go.RowKit

def EBox (N : Nat) (s q c k a l : Int) (t : ByteArray) (w W : World) : Prop :=
  W.cell? ⟨N, 0, none⟩ = some (.int .i64 s) ∧ W.cell? ⟨N, 1, none⟩ = some (.int .i64 q) ∧ W.cell? ⟨N, 2, none⟩ = some (.int .i64 c) ∧ W.cell? ⟨N, 3, none⟩ = some (.int .i64 k) ∧
    W.cell? ⟨N, 4, none⟩ = some (.int .i64 a) ∧ W.cell? ⟨N, 5, none⟩ = some (.int .i64 l) ∧ W.cell? ⟨N, 6, none⟩ = some (.string t) ∧ Below N w W
theorem EBox.keep {N : Nat} {s q c k a l : Int} {t : ByteArray} {w W W' : World} (h : EBox N s q c k a l t w W) (hb : Below W.heap.size W W') : EBox N s q c k a l t w W' := by
  obtain ⟨h0, h1, h2, h3, h4, h5, h6, h7⟩ := h
  have hl : N < W.heap.size := World.block_lt_of_cell? W _ h0
  exact ⟨cell_stays hb h0, cell_stays hb h1, cell_stays hb h2, cell_stays hb h3, cell_stays hb h4, cell_stays hb h5, cell_stays hb h6, h7.trans (hb.mono (Nat.le_of_lt hl))⟩
theorem EBox.new (s q c k a l : Int) (t : ByteArray) (w : World) (ty : TypeId) : EBox w.heap.size s q c k a l t w (w.alloc (.cells #[.int .i64 s, .int .i64 q, .int .i64 c, .int .i64 k, .int .i64 a, .int .i64 l, .string t] ty)) := by
  have h := heap_alloc_new w (.cells #[.int .i64 s, .int .i64 q, .int .i64 c, .int .i64 k, .int .i64 a, .int .i64 l, .string t] ty)
  exact ⟨cell_of_row _ _ 0 _ _ _ h, cell_of_row _ _ 1 _ _ _ h, cell_of_row _ _ 2 _ _ _ h, cell_of_row _ _ 3 _ _ _ h, cell_of_row _ _ 4 _ _ _ h, cell_of_row _ _ 5 _ _ _ h, cell_of_row _ _ 6 _ _ _ h, (Below.refl _ w).alloc (Nat.le_refl _) _⟩
end Go.Proofs.YtfoglciiefoodaaGreatDoor

namespace Go.Proofs.YtfoglciiefoodaaGreatDoor
open Go.RowKit

theorem infoCell : (Tryz.prog.info? 62).map (fun i => (i.zero, i.size, i.bytes)) = some (some (.agg #[.int .i64 0, .int .i64 0, .int .i64 0, .int .i32 0, .bool false]), 5, 32) := by kernel_rfl
def newL (s q : Int) (rs : List Int) : List PCell := rs.mapIdx fun i r => ⟨s, q, i, r, false⟩
theorem newL_length (s q : Int) (rs : List Int) : (newL s q rs).length = rs.length := by simp [newL]
theorem newL_next (s q : Int) {rs : List Int} {k : Nat} (h : k < rs.length) : newL s q (rs.take (k + 1)) = newL s q (rs.take k) ++ [⟨s, q, k, rs.getD k 0, false⟩] := by
  unfold newL
  rw [List.take_succ_eq_append_getElem h, List.mapIdx_append]
  simp [List.getD, h, Nat.min_eq_left (Nat.le_of_lt h)]
theorem newC_of {o : POp} {rs : List Int} (h : runesL o.text = some rs) : newC o = newL o.site o.seq rs := by
  unfold newC newL
  rw [h]
  rfl
def CellsPost (l : List PCell) (w : World) (e : Ending) (w' : World) : Prop := ∃ v, e = .returned v ∧ CAt w' v l ∧ (∀ g, v.ownBlock = some g → w.heap.size ≤ g) ∧ Below w.heap.size w w'
theorem OBox.up {N : Nat} {s q n k a : Int} {t : ByteArray} {sp : Value} {w W W' : World} (h : OBox N s q n k a t sp w W) (hb : Below (N + 1) W W') : OBox N s q n k a t sp w W' := by
  obtain ⟨c0, c1, c2, c3, c4, c5, c6, hB⟩ := h
  have e : ∀ o, W'.cell? ⟨N, o, none⟩ = W.cell? ⟨N, o, none⟩ := fun o => hb.cell (p := ⟨N, o, none⟩) (Nat.lt_succ_self N)
  exact ⟨(e 0).trans c0, (e 1).trans c1, (e 2).trans c2, (e 3).trans c3, (e 4).trans c4, (e 5).trans c5, (e 6).trans c6, hB.trans (hb.mono (Nat.le_succ N))⟩
theorem grown_up {N : Nat} {W W' : World} {r : Option Nat} (hg : W.grownBy W' r) (hN : N ≤ W.heap.size) (hr : ∀ g, r = some g → N ≤ g) : Below N W W' := (Below.refl N W).grown hg hN hr
theorem own_block {w W : World} {b sz n : Nat} {e : TypeId} {v : Value} {xs : List Value} (h : w.ownsRow b e sz v n xs) (hq : ∀ g, v.ownBlock = some g → W.heap[g]? = w.heap[g]?) : W.ownsRow b e sz v n xs := by
  refine ⟨h.1, ?_⟩
  rcases h.2 with q | ⟨g, cap, cur, q1, q2, q3, q4⟩
  · exact .inl q
  · exact .inr ⟨g, cap, cur, q1, q2, (hq g (by rw [q1]; rfl)).trans q3, q4⟩
theorem own_form {w : World} {b sz n : Nat} {e : TypeId} {v : Value} {xs : List Value} (h : w.ownsRow b e sz v n xs) : ∃ ao cap, v = .slice ao n cap ∧ n ≤ cap ∧ cap ≤ maxLen := by
  rcases h.2 with ⟨hv, h0⟩ | ⟨g, cap, cur, hv, _, _, h1, h2, _⟩
  · exact ⟨none, 0, by rw [hv, h0], by omega, by unfold maxLen; omega⟩
  · exact ⟨_, _, hv, h1, h2⟩
set_option maxRecDepth 100000 in
set_option maxHeartbeats 4000000 in
theorem rRunI_any (s q n : Int) (t : ByteArray) (ao : Option Addr) (x xc : Nat) (v : Value) (l : List PCell) (p : Nat) (rs : List Int) (w : World) (h : CAt w v l) (hp : p ≤ l.length) (hl : l.length ≤ 1000000) (hr : runesL t.data.toList = some rs) (ht : t.size ≤ 1000000) :
    Calls Tryz.prog 45 #[v, opV s q n 1 p t (.slice ao x xc)] w (CellsPost (l.take p ++ newL s q rs ++ l.drop p) w) := by
  have hS := fun W => rsplit_any t ht W
  rw [hr] at hS
  have hrl : rs.length ≤ t.size := by rw [Lib.size_eq]; exact runes_le hr
  obtain ⟨i0, hi, hz0, hz1, hz2⟩ := info_parts infoCell
  have hbx := OBox.new s q n 1 p t (.slice ao x xc) w 35
  have H := Lib.hid h
  obtain ⟨bo, cap, rfl, h1, h2⟩ := h.shape
  obtain ⟨L, hL⟩ : ∃ L, l.length = L := ⟨_, rfl⟩
  have HL := Lib.hid hL
  rw [hL] at hp hl h1 ⊢
  have Hr := Lib.hid hr
  unfold opV
  clear h hr
  have i1 : (p : Int) ≤ (cap : Int) := by omega
  have i2 : (p : Int) ≤ (L : Int) := by omega
  have i3 : (0 : Int) ≤ (p : Int) := by omega
  have hb0 := hbx.2.2.2.2.2.2.2
  have Hs1 := Lib.hid ((H.out.below (by have := (Below.refl w.heap.size w).alloc (Nat.le_refl _) (.cells #[.int .i64 s, .int .i64 q, .int .i64 n, .int .i64 1, .int .i64 p, .string t, .slice ao x xc] 35); exact this)).src0 p (by rw [HL.out]; omega))
  go_enter Tryz.func45, Tryz.ntmps45
  have z1 : 0 + p ≤ maxLen := by unfold maxLen; omega
  have z2 : (0 + p) * 32 ≤ 140737488355328 := by omega
  have o1 : ∀ u ∈ (cCells l).take (p * 5), u.oneCell' = true := fun u hu => cCells_ones l u (List.mem_of_mem_take hu)
  have Hbx := Lib.hid hbx
  have O1 := Lib.hid o1
  clear o1 hbx
  go_wp2_with (at_builtin; go_must (refine wpList_app_any rfl _ _ 22 rfl (w.heap.size + 1) 62 i0 (.agg #[.int .i64 0, .int .i64 0, .int .i64 0, .int .i32 0, .bool false]) 5 32 Tryz.underlying22 hi hz0 hz1 hz2 rfl (by decide) _ 0 [] rfl (World.ownsRow_nil _ _ _ _) _ p _ rfl Hs1.out O1.out z1 z2 (by simp) ?_; intro v1 wa ho1 hg1; have hba := grown_up (N := w.heap.size + 1) hg1 (by simp) (fun g hg => by cases hg); obtain ⟨g0, g1, g2, g3, g4, g5, g6, hbb⟩ := Hbx.out.up hba))
  refine (hS _).mono ?_
  clear hS
  rintro e w1 ⟨hb1, vt, rfl, hot⟩
  have hB := (Hbx.out.up hba).keep hb1
  have hO := own_up ho1 hb1
  have hne : ∀ g, v1.ownBlock = some g → vt.ownBlock ≠ some g := fun g hg hv => by
    have h1 := (ho1.lt g hg).2
    have h2 := (hot.lt g hv).1
    omega
  obtain ⟨T, hT⟩ : ∃ T, rs.length = T := ⟨_, rfl⟩
  rw [hT] at hot hrl
  have HTL := Lib.hid hT
  have hN1 : w.heap.size + 1 ≤ wa.heap.size := by have := hba.size; simpa using this
  obtain ⟨N1, hN1'⟩ : ∃ N1, wa.heap.size = N1 := ⟨_, rfl⟩
  rw [hN1'] at hot hN1
  have Hn1 := Lib.hid hN1
  have HBX := Lib.hid hB
  have HO := Lib.hid hO
  have Hne := Lib.hid hne
  have Hot := Lib.hid hot
  obtain ⟨tb, tc, rfl, _, _⟩ := own_form hot
  clear hN1 hN1' hB hO hne hot hT g0 g1 g2 g3 g4 g5 g6 hbb ho1 hg1 hba hb1 hb0 Hbx O1 hL
  go_wp2_with fail
  go_loopw [5, 8] (fun v i wr => ∃ k : Nat, i = .int .i64 k ∧ k ≤ T ∧ RowKit.Hid (wr.ownsRow (w.heap.size + 1) 62 5 v (0 + p + k) ((cCells l).take (p * 5) ++ cCells (newL s q (rs.take k)))) ∧
    RowKit.Hid (OBox w.heap.size s q n 1 p t (.slice ao x xc) w wr) ∧ RowKit.Hid (wr.ownsRow N1 21 1 (.slice tb T tc) T (rs.map (Value.int .i32))) ∧ RowKit.Hid (∀ g, v.ownBlock = some g → (Value.slice tb T tc).ownBlock ≠ some g)) (fun _ i _ => T - (intOf i).toNat)
  case atStart => 
    refine ⟨0, rfl, Nat.zero_le _, Lib.hid ?_, HBX, Hot, Hne⟩
    have := HO.out
    rwa [List.nil_append, show cCells (newL s q (rs.take 0)) = [] from rfl, List.append_nil] at *
  case round =>
    rename_i wr
    obtain ⟨k, rfl, hk, ho, hbx, htx, hn⟩ := hrel
    rcases Nat.lt_or_ge k T with hlt | hge
    · obtain ⟨c0, c1, c2, c3, c4, c5, c6, hB⟩ := id hbx.out
      obtain ⟨bt, ct, hv, hg1, hg2⟩ := World.ownsRow.form htx.out (by omega)
      cases hv
      have hkr : k < rs.length := by rw [HTL.out]; exact hlt
      have hc := htx.out.cellAt k (by omega)
      rw [List.getElem?_map, List.getElem?_eq_getElem hkr, Option.map_some] at hc
      have hgd : rs.getD k 0 = rs[k] := by simp [List.getD, hkr]
      have HNX := Lib.hid (show cCells (newL s q (rs.take (k + 1))) = cCells (newL s q (rs.take k)) ++ [.int .i64 s, .int .i64 q, .int .i64 (k : Int), .int .i32 rs[k], .bool false] by rw [newL_next s q hkr, cCells_append, cCells_one, hgd]; rfl)
      obtain ⟨r, hr⟩ : ∃ r, rs[k] = r := ⟨_, rfl⟩
      rw [hr] at hc HNX
      have hi0 : (0 : Int) ≤ (k : Int) ∧ (k : Int) < (T : Int) := ⟨by omega, by omega⟩
      have hBw : w.heap.size < wr.heap.size := World.block_lt_of_cell? _ _ c0
      have hTw : bt < wr.heap.size := hg2
      have hnb : ∀ g, u5.ownBlock = some g → g ≠ bt := fun g hg e => hn.out g hg (by rw [e]; rfl)
      have hown := ho.out
      have hnw : ∀ g, u5.ownBlock = some g → w.heap.size + 1 ≤ g := fun g hg => (hown.lt g hg).1
      have hkk : 0 + p + k + 1 ≤ maxLen := by unfold maxLen; omega
      have hby : (0 + p + k + 1) * 32 ≤ 140737488355328 := by omega
      have Hown := Lib.hid hown
      have Hnb := Lib.hid hnb
      have Hnw := Lib.hid hnw
      clear hgd hr hown hnb hnw c2 c3 c4 c5 c6 hB hkr
      go_wp2_with fail
      go_region_held_law (fun W' => W'.cell? ⟨w.heap.size, 0, none⟩ = some (.int .i64 s) ∧ W'.cell? ⟨w.heap.size, 1, none⟩ = some (.int .i64 q) ∧ W'.cell? ⟨bt, k, none⟩ = some (.int .i32 r))
        (first
          | go_keep
          | (go_split_ands
             refine ⟨?_, ?_, ?_⟩
             · (rw [hgrow.cell_far _ (by simp; omega) (fun e => Nat.lt_irrefl _ (Hnw.out _ e.symm))]; assumption)
             · (rw [hgrow.cell_far _ (by simp; omega) (fun e => Nat.lt_irrefl _ (Hnw.out _ e.symm))]; assumption)
             · (rw [hgrow.cell_far _ (by simp; omega) (fun e => Hnb.out _ e.symm rfl)]; assumption)))
        ((refine step_append_lies _ (by rfl) _ _ _ (by rfl) (w.heap.size + 1) 62 i0 _ 5 32 Tryz.underlying22 hi hz0 hz1 hz2 rfl (by omega) _ (0 + p + k) _ (by rfl) ((Hown.out.alloc _).drew)
            ⟨wr.heap.size, 0, none⟩ 1 1 [.int .i64 s, .int .i64 q, .int .i64 k, .int .i32 r, .bool false] (by rfl) (by rfl) (World.news_of_block (cs := #[.int .i64 s, .int .i64 q, .int .i64 k, .int .i32 r, .bool false]) (t := 62) (fr := (0, 0)) (heap_alloc_new wr _)) (by simp [Value.oneCell'])
            (by omega) hkk hby (by simp; omega) (wr.heap.size + 1) (by simp) ?_; intro gg cap3 w3 hown3 hgrow hat hlt3))
      go_wp2
      have hBW : Below (w.heap.size + 1) wr w3 := (((Below.refl (w.heap.size + 1) wr).alloc (by omega) _).drew).grown hgrow (by simp; omega) (fun g hg => Hnw.out g hg)
      have hkeep : ∀ g, (Value.slice (some ⟨bt, 0, none⟩) T tc).ownBlock = some g → w3.heap[g]? = wr.heap[g]? := fun g hg => by
        have e : bt = g := by simpa [Value.ownBlock] using hg
        subst e
        have h1 := hgrow.block bt (by simp; omega) (fun e => Hnb.out _ e.symm rfl)
        rw [h1]
        exact Below.heap_alloc wr _ _ hTw
      refine ⟨⟨k + 1, by go_num, by omega, Lib.hid ?_, Lib.hid (hbx.out.up hBW), Lib.hid (own_block htx.out hkeep), Lib.hid ?_⟩, by simp [intOf]; omega⟩
      · have h3 := hown3
        rw [List.append_assoc, ← HNX.out] at h3
        rw [show 0 + p + (k + 1) = 0 + p + k + 1 by omega, show p + k + 1 = 0 + p + k + 1 by omega]
        exact h3
      · intro g hg e
        have e1 : gg = g := by simpa [Value.ownBlock] using hg
        have e2 : bt = g := by simpa [Value.ownBlock] using e
        rcases hat with h | h
        · exact Hnb.out _ h (by omega)
        · omega
    · have hk' : k = T := by omega
      subst hk'
      have hs3 : ∀ c', _ := fun c' => RowC.srcIf (c' := c') (H.out.below (hbx.out.2.2.2.2.2.2.2)) p (by rw [HL.out]; omega)
      rw [HL.out] at hs3
      have Hs3 := Lib.hid hs3
      obtain ⟨c0, c1, c2, c3, c4, c5, c6, hB⟩ := id hbx.out
      have hBw : w.heap.size < wr.heap.size := World.block_lt_of_cell? _ _ c0
      have o3 : ∀ u ∈ (cCells l).drop (p * 5), u.oneCell' = true := fun u hu => cCells_ones l u (List.mem_of_mem_drop hu)
      have O3 := Lib.hid o3
      have z3 : 0 + p + k + (L - p) ≤ maxLen := by unfold maxLen; omega
      have z4 : (0 + p + k + (L - p)) * 32 ≤ 140737488355328 := by omega
      clear hs3 o3
      go_wp2_with (at_builtin; go_must (refine wpList_app_any rfl _ _ 22 rfl (w.heap.size + 1) 62 i0 (.agg #[.int .i64 0, .int .i64 0, .int .i64 0, .int .i32 0, .bool false]) 5 32 Tryz.underlying22 hi hz0 hz1 hz2 rfl (by decide) _ (0 + p + k) _ rfl ho.out _ (L - p) _ rfl (Hs3.out _) O3.out z3 z4 (by omega) ?_; intro v4 w4 ho4 hg4))
      all_goals
        go_ret
        have hBW := grown_up (N := w.heap.size + 1) hg4 (by omega) (fun g hg => (ho.out.lt g hg).1)
        refine ⟨v4, rfl, ?_, fun g hg => Nat.le_of_succ_le (ho4.lt g hg).1, hB.trans (hBW.mono (Nat.le_succ _))⟩
        have hw := ho4
        rw [List.take_of_length_le (l := rs) (by rw [HTL.out]; exact Nat.le_refl _), cCells_take _ _ (by rw [HL.out]; omega), cCells_drop _ _ (by rw [HL.out]; omega), ← cCells_append, ← cCells_append, List.append_assoc] at hw
        exact CAt.of_own hw (by rw [List.length_append, List.length_append, newL_length, List.length_take, List.length_drop, HL.out, HTL.out]; omega)
end Go.Proofs.YtfoglciiefoodaaGreatDoor

namespace Go.Proofs.YtfoglciiefoodaaGreatDoor
open Go.RowKit

def cText (l : List PCell) : ByteArray := if allValid (textR l) then ⟨(joinL (textR l)).toArray⟩ else ⟨#[]⟩
theorem ret_strC {a b : ByteArray} (h : a = b) : Ending.returned (.string a) = .returned (.string b) := by rw [h]
theorem getC_some {l : List PCell} {k : Nat} (h : k < l.length) : ∃ c, l[k]? = some c := ⟨l[k], List.getElem?_eq_getElem h⟩
set_option maxRecDepth 100000 in
set_option maxHeartbeats 2000000 in
theorem rSeen_any (v : Value) (l : List PCell) (p : Nat) (w : World) (h : CAt w v l) (hp : p ≤ l.length) (hl : l.length ≤ 1000000) :
    Calls Tryz.prog 27 #[v, .int .i64 p] w fun e w' => e = .returned (.int .i64 (cSeen l p)) ∧ w' = w := by
  have H := Lib.hid h
  obtain ⟨bo, cap, rfl, h1, h2⟩ := h.shape
  obtain ⟨L, hL⟩ : ∃ L, l.length = L := ⟨_, rfl⟩
  have HL := Lib.hid hL
  rw [hL] at hp hl h1 ⊢
  have Z := Lib.hid (cSeen_zero l)
  clear hL h
  go_enter Tryz.func27, Tryz.ntmps27
  go_wp2
  go_loopw [5, 6] (fun n i wr => ∃ k : Nat, i = .int .i64 k ∧ n = .int .i64 (cSeen l k) ∧ k ≤ p ∧ wr = w) (fun _ i _ => p - (intOf i).toNat)
  case atStart => exact ⟨0, rfl, by rw [Z.out]; rfl, Nat.zero_le _, rfl⟩
  case round =>
    obtain ⟨k, rfl, rfl, hk, rfl⟩ := hrel
    rcases Nat.lt_or_ge k p with hlt | hge
    · obtain ⟨c, hc⟩ := getC_some (l := l) (k := k) (by rw [HL.out]; omega)
      obtain ⟨b, off, cp, hv, c0, c1, c2, c3, c4⟩ := H.out.at hc
      rw [HL.out] at hv
      cases hv
      have hi0 : (0 : Int) ≤ (k : Int) ∧ (k : Int) < (L : Int) := ⟨by omega, by omega⟩
      have hle := cSeen_le l k
      cases hg : c.gone with
      | true =>
        rw [hg] at c4
        have HN := Lib.hid (cSeen_gone hc hg)
        clear hc hg c0 c1 c2 c3
        go_wp2
        exact ⟨⟨k + 1, by go_num, by rw [HN.out], by omega, trivial⟩, by simp [intOf]; omega⟩
      | false =>
        rw [hg] at c4
        have HN := Lib.hid (cSeen_live hc hg)
        clear hc hg c0 c1 c2 c3
        generalize cSeen l k = S at *
        go_wp2
        exact ⟨⟨k + 1, by go_num, by rw [HN.out]; go_num, by omega, trivial⟩, by simp [intOf]; omega⟩
    · have hk' : k = p := by omega
      subst hk'
      go_wp2
      go_ret
      exact ⟨rfl, rfl⟩
set_option maxRecDepth 100000 in
set_option maxHeartbeats 2000000 in
theorem rLive_any (v : Value) (l : List PCell) (w : World) (h : CAt w v l) (hl : l.length ≤ 1000000) :
    Calls Tryz.prog 17 #[v] w fun e w' => e = .returned (.int .i64 (cLive l)) ∧ w' = w := by
  have hS := rSeen_any v l l.length w h (Nat.le_refl _) hl
  obtain ⟨bo, cap, rfl, h1, h2⟩ := h.shape
  unfold cLive
  generalize cSeen l l.length = S at *
  generalize l.length = L at *
  clear h
  go_enter Tryz.func17, Tryz.ntmps17
  go_wp2_with fail
  refine hS.mono ?_
  rintro e w1 ⟨rfl, rfl⟩
  go_wp2
  go_ret
  exact ⟨rfl, rfl⟩
set_option maxRecDepth 100000 in
set_option maxHeartbeats 2000000 in
theorem rGone_any (v : Value) (l : List PCell) (w : World) (h : CAt w v l) (hl : l.length ≤ 20000) :
    Calls Tryz.prog 12 #[v] w (SpPost (cGone l) w) := by
  have H := Lib.hid h
  have hmk := run_makeB w
  have HB0 := Lib.hid (MB.new w)
  obtain ⟨bo, cap, rfl, h1, h2⟩ := h.shape
  obtain ⟨L, hL⟩ : ∃ L, l.length = L := ⟨_, rfl⟩
  have HL := Lib.hid hL
  rw [hL] at hl h1 ⊢
  clear hL h
  go_enter Tryz.func12, Tryz.ntmps12
  go_wp2
  clear hmk
  generalize w.alloc (.cells (bArr fun _ => false) 4) = w0 at *
  go_loopw [4] (fun i wr => ∃ k : Nat, i = .int .i64 k ∧ k ≤ L ∧ RowKit.Hid (MB w.heap.size (fun j => decide (j < k) && goneB l j) w wr)) (fun i _ => L - (intOf i).toNat)
  case atStart => exact ⟨0, rfl, Nat.zero_le _, by
    have e : (fun j => decide (j < 0) && goneB l j) = fun _ => false := by funext j; simp
    rw [e]; exact HB0⟩
  case round =>
    rename_i wr
    obtain ⟨k, rfl, hk, hbx⟩ := hrel
    rcases Nat.lt_or_ge k L with hlt | hge
    · obtain ⟨c, hc⟩ := getC_some (l := l) (k := k) (by rw [HL.out]; omega)
      obtain ⟨b, off, cp, hv, c0, c1, c2, c3, c4⟩ := (H.out.below hbx.out.2).at hc
      rw [HL.out] at hv
      cases hv
      have hi0 : (0 : Int) ≤ (k : Int) ∧ (k : Int) < (L : Int) := ⟨by omega, by omega⟩
      have hi1 : (0 : Int) ≤ (k : Int) ∧ (k : Int) < (20000 : Int) := ⟨by omega, by omega⟩
      have d0 := hbx.out.cell k (by omega)
      have d1 := hbx.out.frozen k
      have HN := hbx.out.set k c.gone
      have e : (fun j => if j = k then c.gone else (decide (j < k) && goneB l j)) = fun j => decide (j < k + 1) && goneB l j := by
        funext j
        by_cases q : j = k
        · subst q
          rw [if_pos rfl, decide_eq_true (by omega), Bool.true_and, goneB_at hc]
        · rw [if_neg q]
          congr 1
          exact decide_eq_decide.2 (by omega)
      rw [e] at HN
      have HN' := Lib.hid HN
      clear HN e hc c0 c1 c2 c3
      go_wp2
      exact ⟨⟨k + 1, by go_num, by omega, HN'⟩, by simp [intOf]; omega⟩
    · have hk' : k = L := by omega
      subst hk'
      have hM := fun W => rSpMade_any (.slice (some ⟨w.heap.size, 0, none⟩) 20000 20000) 20000 (fun j => decide (j < k) && goneB l j) W
      have e : (fun j => decide (j < k) && goneB l j) = goneB l := by
        funext j
        by_cases q : j < k
        · rw [decide_eq_true q, Bool.true_and]
        · rw [decide_eq_false q, Bool.false_and, goneB_out (by rw [HL.out]; omega)]
      have hA := hbx.out.reads 20000
      have hB := hbx.out.2
      rw [e] at hM hA
      have HA := Lib.hid hA
      clear e hA
      go_wp2_with fail
      refine (hM _ HA.out (Nat.le_refl _)).mono ?_
      clear hM
      rintro e w2 ⟨v2, rfl, hs2, hb2⟩
      go_wp2
      go_ret
      exact ⟨v2, rfl, hs2, hB.trans (hb2.mono hB.size)⟩
set_option maxRecDepth 100000 in
set_option maxHeartbeats 2000000 in
theorem rTextC_any (v : Value) (l : List PCell) (w : World) (h : CAt w v l) (hl : l.length ≤ 1000000) :
    Calls Tryz.prog 19 #[v] w fun e w' => e = .returned (.string (cText l)) ∧ Below w.heap.size w w' := by
  obtain ⟨i0, hi, hz0, hz1, hz2⟩ := info_parts infoI32'
  have H := Lib.hid h
  obtain ⟨bo, cap, rfl, h1, h2⟩ := h.shape
  obtain ⟨L, hL⟩ : ∃ L, l.length = L := ⟨_, rfl⟩
  have HL := Lib.hid hL
  rw [hL] at hl h1 ⊢
  clear hL h
  go_enter Tryz.func19, Tryz.ntmps19
  go_wp2
  go_loopw [3, 4] (fun r i wr => ∃ k : Nat, i = .int .i64 k ∧ k ≤ L ∧ RowKit.Hid (wr.ownsRow w.heap.size 21 1 r (textR (l.take k)).length ((textR (l.take k)).map (Value.int .i32))) ∧ RowKit.Hid (Below w.heap.size w wr)) (fun _ i _ => L - (intOf i).toNat)
  case atStart => exact ⟨0, rfl, Nat.zero_le _, Lib.hid (World.ownsRow_nil _ _ _ _), Lib.hid (Below.refl _ _)⟩
  case round =>
    rename_i wr
    obtain ⟨k, rfl, hk, ho, hb⟩ := hrel
    rcases Nat.lt_or_ge k L with hlt | hge
    · obtain ⟨c, hc⟩ := getC_some (l := l) (k := k) (by rw [HL.out]; omega)
      obtain ⟨b, off, cp, hv, c0, c1, c2, c3, c4⟩ := (H.out.below hb.out).at hc
      rw [HL.out] at hv
      cases hv
      have hi0 : (0 : Int) ≤ (k : Int) ∧ (k : Int) < (L : Int) := ⟨by omega, by omega⟩
      cases hg : c.gone with
      | true =>
        rw [hg] at c4
        have HN := ho.out
        rw [← textR_gone hc hg] at HN
        have HN' := Lib.hid HN
        clear HN hc hg c0 c1 c2 c3
        go_wp2
        exact ⟨⟨k + 1, by go_num, by omega, HN', hb⟩, by simp [intOf]; omega⟩
      | false =>
        rw [hg] at c4
        have hN := textR_live hc hg
        have HLn := Lib.hid (show (textR (l.take (k + 1))).length = (textR (l.take k)).length + 1 by rw [hN]; simp)
        have HN := Lib.hid (show (textR (l.take (k + 1))).map (Value.int .i32) = (textR (l.take k)).map (Value.int .i32) ++ [.int .i32 c.r] by rw [hN]; simp)
        have hle := textR_le l k
        obtain ⟨S, hS⟩ : ∃ S, (textR (l.take k)).length = S := ⟨_, rfl⟩
        have hO := ho.out
        rw [hS] at hle HLn hO
        have HO := Lib.hid hO
        have hsz := hb.out.size
        clear hc hg c0 c1 c2 hN hS hO
        go_wp2_with (at_builtin; refine wpList_append_own _ rfl _ _ 65 rfl w.heap.size 21 i0 (.int .i32 0) 1 4 Tryz.underlying65 hi hz0 hz1 hz2 rfl (by decide) _ S _ rfl (HO.out.alloc _) ⟨wr.heap.size, 0, none⟩ 1 1 [.int .i32 c.r] rfl rfl ?c1 ?c2 ?c3 ?c4 ?c5 ?_)
        case c1 =>
          intro j u hj
          match j, hj with
          | 0, hj => simp at hj; subst hj; simp [Addr.add]
        case c2 => intro u hu; simp at hu; subst hu; rfl
        case c3 => unfold maxLen; omega
        case c4 => omega
        case c5 => simp; omega
        intro v' w2 hown' hgrow _
        have HB2 := Lib.hid ((hb.out.alloc hsz _).grown hgrow (by simp; omega) (fun g hg => (HO.out.lt g hg).1))
        have hown2 := hown'
        rw [← HN.out, ← HLn.out] at hown2
        have Hown2 := Lib.hid hown2
        clear hown' hown2 hgrow
        go_wp2
        exact ⟨⟨k + 1, by go_num, by omega, Hown2, HB2⟩, by simp [intOf]; omega⟩
    · have hk' : k = L := by omega
      subst hk'
      have hO := ho.out
      rw [List.take_of_length_le (l := l) (by rw [HL.out]; exact Nat.le_refl _)] at hO
      have hle := textR_le l l.length
      rw [List.take_of_length_le (Nat.le_refl _), HL.out] at hle
      have HR := Lib.hid (Reads32.of_own hO)
      have hJ := fun v W => rjoin_any v (textR l) (by omega) W
      have Hb := hb.out
      clear hO ho
      go_wp2_with fail
      refine (hJ _ _ HR.out).mono ?_
      clear hJ
      rintro e w2 ⟨rfl, hb2⟩
      have hz := Hb.trans (hb2.mono Hb.size)
      have HV := Lib.hid (show (if allValid (textR l) then (⟨(joinL (textR l)).toArray⟩ : ByteArray) else ⟨#[]⟩) = cText l from rfl)
      cases hq : allValid (textR l) with
      | true =>
        rw [hq, if_pos rfl] at HV
        simp only [if_true]
        clear hq
        go_wp2
        go_ret
        exact ⟨ret_strC HV.out, hz⟩
      | false =>
        rw [hq, if_neg (by decide)] at HV
        simp only [Bool.false_eq_true, if_false]
        clear hq
        go_wp2
        go_ret
        exact ⟨ret_strC HV.out, hz⟩
end Go.Proofs.YtfoglciiefoodaaGreatDoor

namespace Go.Proofs.YtfoglciiefoodaaGreatDoor
open Go.RowKit

def gapOk (l : List PCell) (i : Int) (p : Nat) : Bool := match l[p]? with
  | some c => !c.gone && decide ((cSeen l p : Int) = i)
  | none => false
def gapTo (l : List PCell) (i : Int) (k : Nat) : Option Nat := (List.range k).find? (gapOk l i)
theorem gapTo_next (l : List PCell) (i : Int) (k : Nat) : gapTo l i (k + 1) = (gapTo l i k).or (if gapOk l i k then some k else none) := by
  unfold gapTo
  rw [List.range_succ, List.find?_append]
  cases h : gapOk l i k <;> simp [h]
def cGap (l : List PCell) (i : Int) : Int := match gapTo l i l.length with
  | some p => p
  | none => if (cLive l : Int) = i then l.length else -1
def runB (l : List PCell) (i n : Int) (p : Nat) : Bool := match l[p]? with
  | some c => !c.gone && (decide (i ≤ (cSeen l p : Int)) && decide ((cSeen l p : Int) - i < n))
  | none => false
def cRunOk (l : List PCell) (i n : Int) : Bool := decide (0 ≤ i ∧ i ≤ cLive l ∧ 0 ≤ n ∧ n ≤ cLive l - i)
def cRun (l : List PCell) (i n : Int) : List Sp := sMade (runB l i n) 20000
def CRunPost (l : List PCell) (i n : Int) (w : World) (e : Ending) (w' : World) : Prop := ∃ v, e = .returned (.tuple #[v, .bool (cRunOk l i n)]) ∧ SpAt w' v (if cRunOk l i n then cRun l i n else []) ∧ Below w.heap.size w w'
theorem CRunPost.no {l : List PCell} {i n : Int} {w : World} (h : cRunOk l i n = false) : CRunPost l i n w (.returned (.tuple #[.slice none 0 0, .bool false])) w := ⟨_, by rw [h], by rw [h]; exact SpAt.nil _, Below.refl _ _⟩
theorem CRunPost.yes {l : List PCell} {i n : Int} {w w' : World} {v : Value} (h : cRunOk l i n = true) (hv : SpAt w' v (cRun l i n)) (hb : Below w.heap.size w w') : CRunPost l i n w (.returned (.tuple #[v, .bool true])) w' := ⟨_, by rw [h], by rw [h]; exact hv, hb⟩
end Go.Proofs.YtfoglciiefoodaaGreatDoor

namespace Go.Proofs.YtfoglciiefoodaaGreatDoor
open Go.RowKit

theorem cCells_set : ∀ (l : List PCell) (j : Nat) (c : PCell) (b : Bool), l[j]? = some c → (cCells l).set (j * 5 + 4) (.bool b) = cCells (l.set j { c with gone := b })
  | [], j, _, _, h => by simp at h
  | d :: r, 0, c, b, h => by
    obtain rfl : d = c := by simpa using h
    rfl
  | d :: r, j + 1, c, b, h => by
    show (cV d ++ cCells r).set ((j + 1) * 5 + 4) _ = cV d ++ cCells (r.set j _)
    rw [List.set_append_right _ _ (by show 5 ≤ (j + 1) * 5 + 4; omega), show (j + 1) * 5 + 4 - (cV d).length = j * 5 + 4 by show (j + 1) * 5 + 4 - 5 = _; omega, cCells_set r j c b (by simpa using h)]
theorem goneC_set (l : List PCell) (f : Nat → Bool) (j : Nat) (c : PCell) (h : (goneC l f)[j]? = some c) : (goneC l f).set j { c with gone := true } = goneC l fun i => if i = j then true else f i := by
  refine List.ext_getElem? fun i => ?_
  rw [List.getElem?_set, goneC_at, goneC_at]
  by_cases e : j = i
  · subst e
    have hj := (List.getElem?_eq_some_iff.1 h).1
    rw [if_pos rfl, if_pos hj]
    rw [goneC_at] at h
    cases hl : l[j]? with
    | none => rw [hl] at h; cases h
    | some d =>
      rw [hl] at h
      simp only [Option.map_some, Option.some.injEq] at h
      subst h
      simp
  · rw [if_neg e]
    congr 1
    funext d
    rw [if_neg (fun q => e q.symm)]
theorem gone_store (l : List PCell) (f : Nat → Bool) (j : Nat) (hj : j < l.length) : (cCells (goneC l f)).set (j * 5 + 4) (.bool true) = cCells (goneC l fun i => if i = j then true else f i) := by
  obtain ⟨c, hc⟩ : ∃ c, (goneC l f)[j]? = some c := ⟨_, List.getElem?_eq_getElem (by rw [goneC_length]; exact hj)⟩
  rw [cCells_set _ _ _ _ hc, goneC_set _ _ _ _ hc]
theorem goneC_none (l : List PCell) : goneC l (fun _ => false) = l := by
  refine List.ext_getElem? fun i => ?_
  rw [goneC_at]
  cases l[i]? with
  | none => rfl
  | some c => simp
set_option maxRecDepth 100000 in
set_option maxHeartbeats 4000000 in
theorem rRunD_any (s q n a : Int) (t : ByteArray) (sp : Value) (xs : List Sp) (v : Value) (l : List PCell) (w : World) (h : CAt w v l) (hl : l.length ≤ 1000000) (hs : SpAt w sp xs) (hx : xs.length ≤ 1000000) (hg : ∀ s ∈ xs, 0 ≤ s.1 ∧ 0 ≤ s.2 ∧ s.1 + s.2 ≤ l.length) :
    Calls Tryz.prog 45 #[v, opV s q n 2 a t sp] w (CellsPost (goneC l (sMark xs)) w) := by
  obtain ⟨i0, hi, hz0, hz1, hz2⟩ := info_parts infoCell
  have hbx := OBox.new s q n 2 a t sp w 35
  have H := Lib.hid h
  have HS := Lib.hid hs
  obtain ⟨bo, cap, rfl, h1, h2⟩ := h.shape
  obtain ⟨ao, sc, rfl, _⟩ := hs
  obtain ⟨L, hL⟩ : ∃ L, l.length = L := ⟨_, rfl⟩
  have HL := Lib.hid hL
  obtain ⟨M, hM⟩ : ∃ M, xs.length = M := ⟨_, rfl⟩
  have HM := Lib.hid hM
  have HG := Lib.hid hg
  have H0 := H.out
  rw [hL] at hl h1 H0 ⊢
  rw [hM] at hx hbx ⊢
  unfold opV
  have z1 : 0 + L ≤ maxLen := by unfold maxLen; omega
  have z2 : (0 + L) * 32 ≤ 140737488355328 := by omega
  have o1 : ∀ u ∈ cCells l, u.oneCell' = true := fun u hu => cCells_ones l u hu
  have hR := (H.out.below hbx.2.2.2.2.2.2.2).reads
  rw [HL.out] at hR
  have Hbx := Lib.hid hbx
  have O1 := Lib.hid o1
  have HR := Lib.hid hR
  clear o1 hbx hR hL hM hg h H0
  go_enter Tryz.func45, Tryz.ntmps45
  go_wp2_with (at_builtin; go_must (refine wpList_app_any rfl _ _ 22 rfl (w.heap.size + 1) 62 i0 (.agg #[.int .i64 0, .int .i64 0, .int .i64 0, .int .i32 0, .bool false]) 5 32 Tryz.underlying22 hi hz0 hz1 hz2 rfl (by decide) _ 0 [] rfl (World.ownsRow_nil _ _ _ _) _ L _ rfl HR.out O1.out z1 z2 (by simp) ?_; intro v1 wa ho1 hg1; have hba := grown_up (N := w.heap.size + 1) hg1 (by simp) (fun g hg => by cases hg)))
  have hB := Hbx.out.up hba
  have HB := Lib.hid hB
  have hO : wa.ownsRow (w.heap.size + 1) 62 5 v1 L (cCells (goneC l (sMark (xs.take 0)))) := by
    have h := ho1
    rw [List.nil_append, Nat.zero_add] at h
    rw [show sMark (xs.take 0) = (fun _ => false) from rfl, goneC_none]
    exact h
  have HO := Lib.hid hO
  clear hba hB hO ho1 hg1 Hbx O1 HR z1 z2
  go_wp2_with fail
  go_loopw [9] (fun i wr => ∃ k : Nat, i = .int .i64 k ∧ k ≤ M ∧ RowKit.Hid (wr.ownsRow (w.heap.size + 1) 62 5 v1 L (cCells (goneC l (sMark (xs.take k))))) ∧ RowKit.Hid (OBox w.heap.size s q n 2 a t (.slice ao M sc) w wr)) (fun i _ => M - (intOf i).toNat)
  case atStart => exact ⟨0, rfl, Nat.zero_le _, HO, HB⟩
  case round =>
    rename_i wr
    obtain ⟨k, rfl, hk, ho, hbx⟩ := hrel
    obtain ⟨c0, c1, c2, c3, c4, c5, c6, hB⟩ := id hbx.out
    rcases Nat.lt_or_ge k M with hlt | hge
    · have hkx : k < xs.length := by rw [HM.out]; exact hlt
      have hi0 : (0 : Int) ≤ (k : Int) ∧ (k : Int) < (M : Int) := ⟨by omega, by omega⟩
      have hmem := HG.out (xs.getD k (0, 0)) (by rw [show xs.getD k (0, 0) = xs[k] by simp [List.getD, hkx]]; exact List.getElem_mem hkx)
      obtain ⟨F, hF⟩ : ∃ F, (xs.getD k (0, 0)).1 = F := ⟨_, rfl⟩
      obtain ⟨E, hE⟩ : ∃ E, (xs.getD k (0, 0)).2 = E := ⟨_, rfl⟩
      rw [hF, hE, HL.out] at hmem
      obtain ⟨a', rfl⟩ : ∃ a' : Nat, F = a' := ⟨F.toNat, by omega⟩
      obtain ⟨m, rfl⟩ : ∃ m : Nat, E = m := ⟨E.toNat, by omega⟩
      have hend : a' + m ≤ L := by omega
      have HU := Lib.hid (upS_end hkx hF hE)
      have Hkx := Lib.hid hkx
      have HF := Lib.hid hF
      have HE := Lib.hid hE
      have hO0 : wr.ownsRow (w.heap.size + 1) 62 5 v1 L (cCells (goneC l (upS (sMark (xs.take k)) a' 0))) := by rw [upS_zero]; exact ho.out
      have HO0 := Lib.hid hO0
      clear hmem hF hE hkx hB hO0
      go_wp2_with fail
      clear c0 c1 c2 c3 c4 c5 c6
      go_loopw [10] (fun j wq => ∃ c : Nat, j = .int .i64 c ∧ c ≤ m ∧ RowKit.Hid (wq.ownsRow (w.heap.size + 1) 62 5 v1 L (cCells (goneC l (upS (sMark (xs.take k)) a' c)))) ∧ RowKit.Hid (OBox w.heap.size s q n 2 a t (.slice ao M sc) w wq)) (fun j _ => m - (intOf j).toNat)
      case atStart => exact ⟨0, rfl, Nat.zero_le _, HO0, hbx⟩
      case round =>
        rename_i wq
        obtain ⟨c, rfl, hc, ho, hbx⟩ := hrel
        obtain ⟨c0, c1, c2, c3, c4, c5, c6, hB⟩ := id hbx.out
        obtain ⟨b, off, cap', hv, d0, d1⟩ := (HS.out.below hB).at Hkx.out
        rw [HF.out] at d0
        rw [HE.out] at d1
        rw [HM.out] at hv
        cases hv
        rcases Nat.lt_or_ge c m with hlt | hge
        · have hw : IntKind.i64.wrap ((a' : Int) + (c : Int)) = (a' : Int) + (c : Int) := by simp only [IntKind.wrap_i64]; omega
          have hlo : (0 : Int) ≤ (a' : Int) + (c : Int) ∧ (a' : Int) + (c : Int) < (L : Int) := ⟨by omega, by omega⟩
          have htn : ((a' : Int) + (c : Int)).toNat = a' + c := by omega
          have hjl : a' + c < l.length := by rw [HL.out]; omega
          obtain ⟨g, cap2, hv2, hgb, hgl⟩ := World.ownsRow.form ho.out (by omega)
          subst hv2
          have hown := ho.out
          have hfro := hown.frozenAt ((a' + c) * 5 + 4)
          have hcell := hown.cellAt ((a' + c) * 5 + 4) (by omega)
          obtain ⟨cl, hcl⟩ : ∃ cl, (goneC l (upS (sMark (xs.take k)) a' c))[a' + c]? = some cl := ⟨_, List.getElem?_eq_getElem (by rw [goneC_length]; exact hjl)⟩
          rw [cCells_at _ _ 4 cl hcl (by decide), show (cV cl)[4]? = some (.bool cl.gone) from rfl] at hcell
          have hst := (hown.stored ((a' + c) * 5 + 4) (.bool true)).1
          rw [gone_store _ _ _ hjl, upS_next] at hst
          have HST := Lib.hid hst
          have HBX := Lib.hid (hbx.out.up ((Below.refl (w.heap.size + 1) wr).setCell (p := ⟨g, (a' + c) * 5 + 4, none⟩) hgb (.bool true)))
          clear hst hown hcl hjl
          go_wp2
          exact ⟨⟨c + 1, by go_num, by omega, HST, HBX⟩, by simp [intOf]; omega⟩
        · have hc' : c = m := by omega
          subst hc'
          have hO := ho.out
          rw [HU.out] at hO
          have HO' := Lib.hid hO
          clear hO
          go_wp2
          exact ⟨⟨k + 1, by go_num, by omega, HO', hbx⟩, by simp [intOf]; omega⟩
    · have hk' : k = M := by omega
      subst hk'
      have hO := ho.out
      rw [List.take_of_length_le (by rw [HM.out]; exact Nat.le_refl _)] at hO
      have HO' := Lib.hid hO
      clear hO
      go_wp2
      go_ret
      exact ⟨v1, rfl, CAt.of_own HO'.out (by rw [goneC_length, HL.out]), fun g hg => Nat.le_of_succ_le (HO'.out.lt g hg).1, hB⟩
theorem rRun_any (s q n k a : Int) (t : ByteArray) (sp : Value) (xs : List Sp) (v : Value) (l : List PCell) (w : World) (h : CAt w v l) (hl : l.length ≤ 1000000) (hs : SpAt w sp xs) (ht : t.size ≤ 1000000) (hx : xs.length ≤ 1000000)
    (hm : OMay ⟨s, q, n, k, a, t.data.toList, xs⟩ l.length) : Calls Tryz.prog 45 #[v, opV s q n k a t sp] w (CellsPost (runC l ⟨s, q, n, k, a, t.data.toList, xs⟩) w) := by
  obtain ⟨_, _, _, ⟨hk, h0, h1, h2, _, _⟩ | ⟨hk, _, _, hg, he⟩⟩ := hm
  · dsimp only at hk h0 h1 h2
    subst hk
    obtain ⟨p, rfl⟩ : ∃ p : Nat, a = p := ⟨a.toNat, by omega⟩
    obtain ⟨ao, xc, rfl, _⟩ := hs
    have hr : ∃ rs, runesL t.data.toList = some rs := by
      unfold mayT lenT at h2
      cases hz : runesL t.data.toList with
      | none => rw [hz] at h2; simp at h2
      | some rs => exact ⟨rs, rfl⟩
    obtain ⟨rs, hr⟩ := hr
    unfold runC
    dsimp only
    rw [if_pos rfl, newC_of (o := ⟨s, q, n, 1, (p : Int), t.data.toList, xs⟩) hr, Int.toNat_natCast]
    exact rRunI_any s q n t ao xs.length xc v l p rs w h (by omega) hl hr ht
  · dsimp only at hk hg he
    subst hk
    unfold runC
    dsimp only
    rw [if_neg (by decide)]
    exact rRunD_any s q n a t sp xs v l w h hl hs hx fun z hz => ⟨(hg.1 z hz).2.1, by have := (hg.1 z hz).1; omega, he z hz⟩
end Go.Proofs.YtfoglciiefoodaaGreatDoor
