/- spans.Shut. -/
import Derived.Test.YtlofeaodpblagaaSpMove
namespace Go.Proofs.Ytlofeaodpblagaa
open Go.RowKit

set_option maxRecDepth 100000 in
set_option maxHeartbeats 4000000 in
theorem spShut_any (v : Value) (xs : List Sp) (p n : Int) (w : World) (h : SpAt w v xs) (hx : xs.length ≤ 1000000) (wx : sWf xs) (hnw : (Lit.int .i64 n).wf = true) :
    Calls Try.prog 22 #[v, .int .i64 p, .int .i64 n] w (SpOkPost (shB xs p n) (shL xs p n) w) := by
  have m1 := spMayMove_any v xs p n w h hx wx
  have H := Lib.hid h
  have hnb := wf_i64 hnw
  cases ha : spArgs xs p n with
  | false =>
    rw [ha] at m1
    have HC := Lib.hid (show shB xs p n = false by unfold shB; rw [ha]; rfl)
    obtain ⟨_, _, rfl, _⟩ := id h
    clear ha h
    go_enter Try.func22, Try.ntmps22
    go_wp2_with fail
    refine m1.mono ?_
    rintro e w1 ⟨rfl, hb1⟩
    go_wp2
    go_ret2
    exact SpOkPost.no HC.out hb1
  | true =>
    rw [ha] at m1
    have ha2 := ha
    unfold spArgs at ha2
    rw [Bool.and_eq_true, decide_eq_true_eq] at ha2
    obtain ⟨hm, h0, h1, hn⟩ := ha2
    have hG := (sMay_good xs).1 hm
    have m2 := fun W (q : SpAt W v xs) => spPart_any v xs p W q hx wx hm h0 h1
    obtain ⟨_, _, rfl, _⟩ := id h
    have hlo : (loL xs p).length ≤ 20000 := twoL_short _ _ _
    have hhi : (hiL xs p).length ≤ 20000 := twoL_short _ _ _
    have hC0 : shB xs p n = !holdsB (sMark xs) p.toNat n.toNat := by unfold shB; rw [ha, Bool.true_and]
    have hgH := hiL_good xs p
    have hng : IntKind.i64.wrap (-n) = -n := by simp only [IntKind.wrap_i64]; omega
    cases he : hiL xs p with
    | nil =>
      have hf := hi_none_holds (n := n) hG h0 h1 he
      have hC : shB xs p n = true := by rw [hC0, hf]; rfl
      have hL := shut_lay hG h0 h1 hn (fun s hs => by rw [he] at hs; cases hs) hf
      have HC := Lib.hid hC
      have HL := Lib.hid hL
      have HN := Lib.hid he
      have hll : (loL xs p).length ≤ 1000000 := Nat.le_trans hlo (by decide)
      clear h ha hC0 hC hL hf hm hlo hhi he hG
      go_enter Try.func22, Try.ntmps22
      go_wp2_with fail
      refine m1.mono ?_
      clear m1
      rintro e w1 ⟨rfl, hb1⟩
      have m2 := m2 w1 (H.out.below hb1)
      go_wp2_with fail
      refine m2.mono ?_
      clear m2
      rintro e w2 ⟨va, vo, rfl, hoa, hoo, hdi, hb2⟩
      have hB2 := hb1.trans (hb2.mono hb1.size)
      have hsz := hb1.size
      have hsz2 := hb2.size
      have m3 := spLay_any w1.heap.size va vo (loL xs p) (hiL xs p) (-n) p w2 hsz2 hoa (SpAt.of_own hoo) hdi (lo_put h0 h1) (fun s hs => by rw [HN.out] at hs; cases hs) (good_up hgH) (.inl HN.out) hll (by rw [HN.out]; exact Nat.zero_le _)
      rw [HL.out] at m3
      obtain ⟨_, _, hvo, _⟩ := id (SpAt.of_own hoo)
      rw [HN.out] at hvo
      subst hvo
      clear hoa hoo hdi hgH
      go_wp2_with fail
      refine m3.mono ?_
      clear m3
      rintro e w3 ⟨v3, rfl, ho3, hb3⟩
      have HP := Lib.hid (SpOkPost.yes HC.out (SpAt.of_own ho3) (hB2.trans (hb3.mono hb1.size)))
      clear ho3 hb3
      go_wp2
      go_ret2
      exact HP.out
    | cons s r =>
      have hf := hi_holds hG h0 h1 hn he
      have hsm : s ∈ hiL xs p := by rw [he]; exact List.mem_cons_self ..
      have hsb := hgH.1 s hsm
      have hsp := hiL_mem hG h0 h1 hsm
      have hfirst : ∀ t ∈ hiL xs p, s.1 ≤ t.1 := fun t ht => by rw [he] at ht hgH; exact good_first hgH ht
      have hget0 : (hiL xs p).getD 0 (0, 0) = s := by rw [he]; rfl
      obtain ⟨K, hK⟩ : ∃ K, r.length = K := ⟨_, rfl⟩
      have hlenK : (hiL xs p).length = K + 1 := by rw [he]; simp [hK]
      have hK2 : K ≤ 20000 := by
        rw [hlenK] at hhi
        exact Nat.le_of_succ_le hhi
      have HLEN := Lib.hid hlenK
      have HGET := Lib.hid hget0
      have HFIRST := Lib.hid hfirst
      have hll : (loL xs p).length ≤ 1000000 := Nat.le_trans hlo (by decide)
      have hlh : (hiL xs p).length ≤ 1000000 := Nat.le_trans hhi (by decide)
      have HLL := Lib.hid hll
      have HLH := Lib.hid hlh
      obtain ⟨b0, b1⟩ := s
      dsimp only at *
      have hw1 : IntKind.i64.wrap (b0 - p) = b0 - p := by simp only [IntKind.wrap_i64]; omega
      obtain ⟨e1, e2, e3, e4⟩ := idx_facts K hK2
      have e5 : (0 : Int) < (K : Int) + 1 := Int.lt_add_one_of_le e3.1
      by_cases hfu : b0 - p < n
      · have hC : shB xs p n = false := by rw [hC0, hf, decide_eq_true hfu]; rfl
        have HC := Lib.hid hC
        clear h ha hC0 hC hf hm he hfirst hget0 hlenK hlo hhi hsm hK hG hll hlh
        go_enter Try.func22, Try.ntmps22
        go_wp2_with fail
        refine m1.mono ?_
        clear m1
        rintro e w1 ⟨rfl, hb1⟩
        have m2 := m2 w1 (H.out.below hb1)
        go_wp2_with fail
        refine m2.mono ?_
        clear m2
        rintro e w2 ⟨va, vo, rfl, hoa, hoo, hdi, hb2⟩
        have hB2 := hb1.trans (hb2.mono hb1.size)
        obtain ⟨b, off, cap, hvo, c0, c1⟩ := (SpAt.of_own hoo).at (i := 0) (by rw [HLEN.out]; exact Nat.succ_pos _)
        rw [HLEN.out] at hvo
        subst hvo
        rw [HGET.out, Nat.zero_mul, Nat.add_zero] at c0 c1
        dsimp only at c0 c1
        clear hoa hoo hdi hgH
        go_wp2
        go_ret2
        exact SpOkPost.no HC.out hB2
      · have hfz : holdsB (sMark xs) p.toNat n.toNat = false := by rw [hf, decide_eq_false hfu]
        have hC : shB xs p n = true := by rw [hC0, hfz]; rfl
        have hL := shut_lay hG h0 h1 hn (fun t ht => by have := hfirst t ht; omega) hfz
        have HC := Lib.hid hC
        have HL := Lib.hid hL
        clear h ha hC0 hC hf hm he hfirst hget0 hlenK hsm hK hL hfz hG hlo hhi hll hlh
        go_enter Try.func22, Try.ntmps22
        go_wp2_with fail
        refine m1.mono ?_
        clear m1
        rintro e w1 ⟨rfl, hb1⟩
        have m2 := m2 w1 (H.out.below hb1)
        go_wp2_with fail
        refine m2.mono ?_
        clear m2
        rintro e w2 ⟨va, vo, rfl, hoa, hoo, hdi, hb2⟩
        have hB2 := hb1.trans (hb2.mono hb1.size)
        have hsz := hb1.size
        have hsz2 := hb2.size
        have m3 := spLay_any w1.heap.size va vo (loL xs p) (hiL xs p) (-n) p w2 hsz2 hoa (SpAt.of_own hoo) hdi (lo_put h0 h1)
          (fun t ht => by have := HFIRST.out t ht; have := hgH.1 t ht; omega) (good_up hgH) (.inr (by omega)) HLL.out HLH.out
        rw [HL.out] at m3
        obtain ⟨b, off, cap, hvo, c0, c1⟩ := (SpAt.of_own hoo).at (i := 0) (by rw [HLEN.out]; exact Nat.succ_pos _)
        rw [HLEN.out] at hvo
        subst hvo
        rw [HGET.out, Nat.zero_mul, Nat.add_zero] at c0 c1
        dsimp only at c0 c1
        have M3 := Lib.hid m3
        clear hoa hoo hdi hgH m3
        go_wp2_with (go_at_call 32; refine M3.out.mono ?_; clear M3; rintro e w3 ⟨v3, rfl, ho3, hb3⟩; have HP := Lib.hid (SpOkPost.yes HC.out (SpAt.of_own ho3) (hB2.trans (hb3.mono hsz))); clear ho3 hb3)
        go_ret2
        exact HP.out
end Go.Proofs.Ytlofeaodpblagaa
