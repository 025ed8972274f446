/- The document's spans: Ahead, Has. -/
import Derived.Test.YtlofeaodpblagaaRefSpNorm
namespace Go.Proofs.Ytlofeaodpblagaa
open Go.RowKit

theorem cntTo_next (f : Nat → Bool) (k : Nat) : cntTo f (k + 1) = cntTo f k + if f k then 1 else 0 := rfl
set_option maxRecDepth 100000 in
set_option maxHeartbeats 2000000 in
theorem rSpAhead_any (v : Value) (xs : List Sp) (p : Int) (w : World) (h : SpAt w v xs) (hx : xs.length ≤ 1000000000) (hok : xs.all spOk = true) :
    Calls Try.prog 18 #[v, .int .i64 p] w fun e w' => e = .returned (.int .i64 (cntTo (sMark xs) (min 20000 p.toNat))) ∧ Below w.heap.size w w' := by
  have hM := rMarks_any v xs w h hx
  obtain ⟨ao, cap, rfl, _⟩ := h
  obtain ⟨P, hP⟩ : ∃ P, min 20000 p.toNat = P := ⟨_, rfl⟩
  rw [hP]
  obtain ⟨f, hf0⟩ : ∃ f, sMark xs = f := ⟨_, rfl⟩
  rw [hf0]
  go_enter Try.func18, Try.ntmps18
  go_wp2_with fail
  refine hM.mono ?_
  clear hM
  rintro e w1 ⟨mv, rfl, hm, hb⟩
  have hm := hm hok
  rw [hf0] at hm
  have HM := Lib.hid hm
  have HB := Lib.hid hb
  rw [hok]
  clear hm hb hok hf0
  obtain ⟨_, _, rfl, _⟩ := id HM.out
  go_wp2_with fail
  go_loop [7, 8] (fun c i => ∃ k : Nat, i = .int .i64 k ∧ k ≤ P ∧ c = .int .i64 (cntTo f k : Nat)) (fun _ i => P - (intOf i).toNat)
  case atStart => exact ⟨0, rfl, Nat.zero_le _, rfl⟩
  case round =>
    obtain ⟨k, rfl, hk, rfl⟩ := hrel
    have hc20 := cntTo_le f k
    rcases Nat.lt_or_ge k P with hlt | hge
    · obtain ⟨b, off, c1, hv, hc⟩ := HM.out.at (i := k) (by omega)
      cases hv
      have hNX := cntTo_next f k
      have hk20 : (k : Int) < 20000 := by omega
      have hkp : (k : Int) < p := by omega
      have hi : (0 : Int) ≤ (k : Int) ∧ (k : Int) < 20000 := ⟨by omega, by omega⟩
      cases hf : f k with
      | false =>
        rw [hf, if_neg (by simp), Nat.add_zero] at hNX
        rw [hf] at hc
        have HNX := Lib.hid hNX
        clear hf hNX
        generalize cntTo f k = C at *
        go_wp2
        go_round
        case rel => exact ⟨k + 1, by go_num, by omega, by rw [HNX.out]; rfl⟩
        case measure => simp [intOf]; omega
      | true =>
        rw [hf, if_pos rfl] at hNX
        rw [hf] at hc
        have HNX := Lib.hid hNX
        clear hf hNX
        generalize cntTo f k = C at *
        have hw : IntKind.i64.wrap ((C : Int) + 1) = (C : Int) + 1 := by simp only [IntKind.wrap_i64]; omega
        go_wp2
        go_round
        case rel => exact ⟨k + 1, by go_num, by omega, by rw [HNX.out]; go_num⟩
        case measure => simp [intOf]; omega
    · obtain rfl : k = P := by omega
      rcases Nat.lt_or_ge k 20000 with g | g
      · have hk20 : (k : Int) < 20000 := by omega
        have hkp : ¬ (k : Int) < p := by omega
        go_wp2
        go_ret
        exact ⟨rfl, HB.out⟩
      · have hk20 : ¬ (k : Int) < 20000 := by omega
        go_wp2
        go_ret
        exact ⟨rfl, HB.out⟩
/-- Has a list a place, any number? -/
def hasI (xs : List Sp) (p : Int) : Bool := xs.any fun s => decide (s.1 ≤ p ∧ p < s.1 + s.2)
theorem hasI_nat (xs : List Sp) (p : Nat) : hasI xs p = sMark xs p := rfl
theorem hasI_neg {xs : List Sp} (h : sGood xs) {p : Int} (hp : p < 0) : hasI xs p = false := by
  cases hz : hasI xs p with
  | false => rfl
  | true =>
    obtain ⟨s, h1, h2⟩ := List.any_eq_true.1 hz
    have := of_decide_eq_true h2
    have := h.1 s h1
    omega
theorem has_next {xs : List Sp} {k : Nat} (hk : k < xs.length) (p : Int) (h : hasI (xs.take k) p = false) (hm : ¬ ((xs.getD k (0, 0)).1 ≤ p ∧ p < (xs.getD k (0, 0)).1 + (xs.getD k (0, 0)).2)) : hasI (xs.take (k + 1)) p = false := by
  rw [List.take_succ_eq_append_getElem hk, getD_cell hk]
  unfold hasI at h ⊢
  rw [List.any_append, h, List.any_cons, List.any_nil, decide_eq_false hm]
  rfl
theorem has_found {xs : List Sp} {k : Nat} (hk : k < xs.length) (p : Int) (hm : (xs.getD k (0, 0)).1 ≤ p ∧ p < (xs.getD k (0, 0)).1 + (xs.getD k (0, 0)).2) : hasI xs p = true := by
  unfold hasI
  rw [List.any_eq_true]
  exact ⟨xs[k], List.getElem_mem hk, by rw [getD_cell hk]; exact decide_eq_true hm⟩
theorem ok_at {xs : List Sp} (h : xs.all spOk = true) {k : Nat} (hk : k < xs.length) : 0 ≤ (xs.getD k (0, 0)).1 ∧ (xs.getD k (0, 0)).1 ≤ 20000 ∧ 0 ≤ (xs.getD k (0, 0)).2 ∧ (xs.getD k (0, 0)).2 ≤ 20000 - (xs.getD k (0, 0)).1 := by
  rw [List.all_eq_true] at h
  have := h xs[k] (List.getElem_mem hk)
  rw [getD_cell hk] at this
  exact of_decide_eq_true this
set_option maxRecDepth 100000 in
set_option maxHeartbeats 2000000 in
theorem rSpHas_any (v : Value) (xs : List Sp) (p : Int) (w : World) (h : SpAt w v xs) (hx : xs.length ≤ 1000000000) (hok : xs.all spOk = true) :
    Calls Try.prog 19 #[v, .int .i64 p] w fun e w' => e = .returned (.bool (hasI xs p)) ∧ Below w.heap.size w w' := by
  have HR := Lib.hid h
  have HOK := Lib.hid hok
  obtain ⟨ao, cap, rfl, _⟩ := h
  obtain ⟨n, hn⟩ : ∃ n, xs.length = n := ⟨_, rfl⟩
  rw [hn] at hx ⊢
  have Hn := Lib.hid hn
  clear hn hok
  go_enter Try.func19, Try.ntmps19
  go_wp2
  go_loopw [5] (fun i wr => ∃ k : Nat, i = .int .i64 k ∧ k ≤ n ∧ hasI (xs.take k) p = false ∧ Below w.heap.size w wr) (fun i _ => n - (intOf i).toNat)
  case atStart => exact ⟨0, rfl, Nat.zero_le _, rfl, Below.refl _ _⟩
  case round =>
    rename_i wr
    obtain ⟨k, rfl, hk, hh, hb⟩ := hrel
    have Hh := Lib.hid hh
    have Hb := Lib.hid hb
    clear hh hb
    rcases Nat.lt_or_ge k n with hlt | hge
    · have hxk : k < xs.length := by rw [Hn.out]; exact hlt
      obtain ⟨b, off, cap', hv, hc0, hc1⟩ := (HR.out.below Hb.out).at hxk
      rw [Hn.out] at hv
      cases hv
      have hq := ok_at HOK.out hxk
      have hfnd := has_found hxk p
      have hnx := has_next hxk p Hh.out
      generalize (xs.getD k (0, 0)).1 = F at *
      generalize (xs.getD k (0, 0)).2 = E at *
      have HF := Lib.hid hfnd
      have HN := Lib.hid hnx
      clear hfnd hnx hxk
      have hi : (0 : Int) ≤ (k : Int) ∧ (k : Int) < (n : Int) := ⟨by omega, by omega⟩
      obtain ⟨a, rfl⟩ : ∃ a : Nat, F = a := ⟨F.toNat, by omega⟩
      obtain ⟨m, rfl⟩ : ∃ m : Nat, E = m := ⟨E.toNat, by omega⟩
      go_wp2
      go_loopw [6] (fun i wr' => ∃ c : Nat, i = .int .i64 c ∧ c ≤ m ∧ ¬ ((a : Int) ≤ p ∧ p < a + c) ∧ Below wr.heap.size wr wr') (fun i _ => m - (intOf i).toNat)
      case atStart => exact ⟨0, rfl, Nat.zero_le _, by omega, Below.refl _ _⟩
      case round =>
        rename_i wr'
        obtain ⟨c, rfl, hc, hno, hb'⟩ := hrel
        have c0 := cell_stays hb' hc0
        have c1 := cell_stays hb' hc1
        have HB2 := Lib.hid (Hb.out.trans (hb'.mono Hb.out.size))
        have HB' := Lib.hid hb'
        clear hc0 hc1 hb'
        rcases Nat.lt_or_ge c m with hclt | hcge
        · have hw : IntKind.i64.wrap ((a : Int) + (c : Int)) = (a : Int) + (c : Int) := by simp only [IntKind.wrap_i64]; omega
          have hcm : (c : Int) < (m : Int) := by omega
          by_cases he : (a : Int) + (c : Int) = p
          · have hV := Lib.hid (HF.out (by omega))
            clear hno
            subst he
            go_wp2
            go_ret
            exact ⟨ret_bool hV.out.symm, HB2.out⟩
          · have hno2 := Lib.hid (show ¬ ((a : Int) ≤ p ∧ p < a + ((c + 1 : Nat) : Int)) by omega)
            have hne : ((a : Int) + (c : Int) == p) = false := beq_eq_false_iff_ne.2 he
            clear hno
            go_wp2
            exact ⟨⟨c + 1, by go_num, by omega, hno2.out, HB'.out⟩, by simp [intOf]; omega⟩
        · obtain rfl : c = m := by omega
          have HNN := Lib.hid (HN.out hno)
          clear hno
          go_wp2
          exact ⟨⟨k + 1, by go_num, by omega, HNN.out, HB2.out⟩, by simp [intOf]; omega⟩
    · obtain rfl : k = n := by omega
      have hV := Lib.hid (show hasI xs p = false by have := Hh.out; rwa [List.take_of_length_le (by rw [Hn.out]; exact Nat.le_refl _)] at this)
      go_wp2
      go_ret
      exact ⟨ret_bool hV.out.symm, Hb.out⟩
end Go.Proofs.Ytlofeaodpblagaa
