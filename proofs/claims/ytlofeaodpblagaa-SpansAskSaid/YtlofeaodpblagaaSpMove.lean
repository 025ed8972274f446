/- spans.mayMove, part, Open, Shut. -/
import Derived.Test.YtlofeaodpblagaaSpTold
import Derived.Test.YtlofeaodpblagaaSpLay
import Derived.Test.YtlofeaodpblagaaMovePlain
namespace Go.Proofs.Ytlofeaodpblagaa
open Go.RowKit

set_option maxRecDepth 100000 in
set_option maxHeartbeats 4000000 in
theorem spMayMove_any (v : Value) (xs : List Sp) (p n : Int) (w : World) (h : SpAt w v xs) (hx : xs.length ≤ 1000000) (wx : sWf xs) :
    Calls Try.prog 36 #[v, .int .i64 p, .int .i64 n] w fun e w' => e = .returned (.bool (spArgs xs p n)) ∧ Below w.heap.size w w' := by
  have m1 := spMay_any v xs w h (by omega) wx
  obtain ⟨_, _, rfl, _⟩ := id h
  unfold spArgs
  clear h wx hx
  cases hm : sMay xs with
  | false =>
    rw [hm] at m1
    rw [Bool.false_and]
    clear hm
    go_enter Try.func36, Try.ntmps36
    go_wp2_with fail
    refine m1.mono ?_
    rintro e w1 ⟨rfl, hb1⟩
    go_wp2
    go_ret
    exact ⟨rfl, hb1⟩
  | true =>
    rw [hm] at m1
    rw [Bool.true_and]
    clear hm
    obtain ⟨z, hz⟩ : ∃ z, decide (0 ≤ p ∧ p ≤ 20000 ∧ 0 ≤ n) = z := ⟨_, rfl⟩
    rw [hz]
    have HZ := Lib.hid hz
    clear hz
    by_cases h1 : 0 ≤ p
    · by_cases h2 : p ≤ 20000
      · all_goals
          go_enter Try.func36, Try.ntmps36
          go_wp2_with fail
          refine m1.mono ?_
          clear m1
          rintro e w1 ⟨rfl, hb1⟩
          go_wp2
          go_ret
          exact ⟨by rw [show z = decide (0 ≤ n) by rw [← HZ.out]; exact decide_eq_decide.2 (by omega)]; rfl, hb1⟩
      · go_enter Try.func36, Try.ntmps36
        go_wp2_with fail
        refine m1.mono ?_
        clear m1
        rintro e w1 ⟨rfl, hb1⟩
        go_wp2
        go_ret
        exact ⟨by rw [show z = false by rw [← HZ.out]; exact decide_eq_false (by omega)]; rfl, hb1⟩
    · go_enter Try.func36, Try.ntmps36
      go_wp2_with fail
      refine m1.mono ?_
      clear m1
      rintro e w1 ⟨rfl, hb1⟩
      go_wp2
      go_ret
      exact ⟨by rw [show z = false by rw [← HZ.out]; exact decide_eq_false (by omega)]; rfl, hb1⟩
/-- What part makes: two rows of the call's own that don't touch. -/
def PartPost (xs : List Sp) (p : Int) (w : World) (e : Ending) (w' : World) : Prop :=
  ∃ va vo, e = .returned (.tuple #[va, vo]) ∧ w'.ownsRow w.heap.size 42 2 va (loL xs p).length (spCells (loL xs p)) ∧ w'.ownsRow w.heap.size 42 2 vo (hiL xs p).length (spCells (hiL xs p)) ∧ (∀ b, vo.ownBlock = some b → va.ownBlock ≠ some b) ∧ Below w.heap.size w w'
theorem ptL_length (p : Int) : (ptL p).length ≤ 1 := by
  have := putL_length [] 0 p
  exact this
theorem twoL_short (wh : Nat) (xs ys : List Sp) : (twoL wh xs ys).length ≤ 20000 := sMade_length _ _
set_option maxRecDepth 100000 in
set_option maxHeartbeats 4000000 in
theorem spPart_any (v : Value) (xs : List Sp) (p : Int) (w : World) (h : SpAt w v xs) (hx : xs.length ≤ 1000000) (wx : sWf xs) (hm : sMay xs = true) (h0 : 0 ≤ p) (h1 : p ≤ 20000) :
    Calls Try.prog 37 #[v, .int .i64 p] w (PartPost xs p w) := by
  have m1 := put_any w.heap.size (.slice none 0 0) [] 0 p w (Nat.le_refl _) (World.ownsRow_nil _ _ _ _) (by simp) (fun s hs => by cases hs) (by omega) (by omega)
  have hg := (ptL_ok h0 h1).1
  have wp := sWf_good hg
  have hlp := ptL_length p
  have hmb : (sMay xs && sMay (ptL p)) = true := by rw [hm, (sMay_good _).2 hg]; rfl
  have m2 := fun W u (q : SpAt W v xs) (q' : SpAt W u (ptL p)) => spBoth_own v u xs (ptL p) W q q' hx (by omega) wx wp
  have m3 := fun W u (q : SpAt W v xs) (q' : SpAt W u (ptL p)) => spLess_own v u xs (ptL p) W q q' hx (by omega) wx wp
  rw [hmb] at m2 m3
  have H := Lib.hid h
  obtain ⟨_, _, rfl, _⟩ := id h
  rw [show putL [] 0 p = ptL p from rfl] at m1
  clear h hg wp hmb
  go_enter Try.func37, Try.ntmps37
  go_wp2_with fail
  refine m1.mono ?_
  clear m1
  rintro e w1 ⟨u, rfl, ho1, hb1, _⟩
  have r1 := H.out.below hb1
  have m2 := m2 w1 u r1 (SpAt.of_own ho1)
  have HO1 := Lib.hid ho1
  obtain ⟨_, _, hu, _⟩ := id (SpAt.of_own ho1)
  subst hu
  clear ho1
  go_wp2_with fail
  refine m2.mono ?_
  clear m2
  rintro e w2 ⟨va, rfl, ho2, hb2⟩
  have hB2 := hb1.trans (hb2.mono hb1.size)
  have m3 := m3 w2 _ (H.out.below hB2) ((SpAt.of_own HO1.out).below hb2)
  simp only [if_true] at ho2 ⊢
  have HO2 := Lib.hid ho2
  clear ho2 r1
  go_wp2_with fail
  refine m3.mono ?_
  clear m3
  rintro e w3 ⟨vo, rfl, ho3, hb3⟩
  have hB3 := hB2.trans (hb3.mono hB2.size)
  simp only [if_true] at ho3 ⊢
  have hlt : ∀ b, vo.ownBlock = some b → va.ownBlock ≠ some b := fun b hb hb' => by
    have q1 := (ho3.lt b hb).1
    have q2 := (HO2.out.lt b hb').2
    omega
  have HP : PartPost xs p w (.returned (.tuple #[va, vo])) w3 := ⟨va, vo, rfl, ownsRow_low (ownsRow_stays HO2.out hb3) hb1.size, ownsRow_low ho3 hB2.size, hlt, hB3⟩
  have HP := Lib.hid HP
  clear ho3 hb3 hlt hB3
  go_wp2
  go_ret2
  exact HP.out
theorem idx_facts (K : Nat) (h : K ≤ 20000) : IntKind.i64.wrap (((K + 1 : Nat) : Int) - 1) = ((K + 1 : Nat) : Int) - 1 ∧ wrap64 (K : Int) = (K : Int) ∧ ((0 : Int) ≤ (K : Int) ∧ (K : Int) < ((K + 1 : Nat) : Int)) ∧ (0 : Int) < ((K + 1 : Nat) : Int) := by
  refine ⟨?_, ?_, ⟨?_, ?_⟩, ?_⟩
  · simp only [IntKind.wrap_i64]; omega
  · unfold wrap64; omega
  · omega
  · omega
  · omega
theorem open_no {xs : List Sp} {p n : Int} (h : spArgs xs p n = false) : opC xs p n = 1 := by
  unfold opC
  rw [h]
  rfl
set_option maxRecDepth 100000 in
set_option maxHeartbeats 4000000 in
theorem spOpen_any (v : Value) (xs : List Sp) (p n : Int) (w : World) (h : SpAt w v xs) (hx : xs.length ≤ 1000000) (wx : sWf xs) (hnw : (Lit.int .i64 n).wf = true) :
    Calls Try.prog 20 #[v, .int .i64 p, .int .i64 n] w (OpenPost xs p n w) := by
  have m1 := spMayMove_any v xs p n w h hx wx
  have H := Lib.hid h
  have hnb := wf_i64 hnw
  cases ha : spArgs xs p n with
  | false =>
    rw [ha] at m1
    have HC := Lib.hid (open_no ha)
    obtain ⟨_, _, rfl, _⟩ := id h
    clear ha h
    go_enter Try.func20, Try.ntmps20
    go_wp2_with fail
    refine m1.mono ?_
    rintro e w1 ⟨rfl, hb1⟩
    go_wp2
    go_ret2
    exact OpenPost.no HC.out (by decide) hb1
  | true =>
    rw [ha] at m1
    have ha2 := ha
    unfold spArgs at ha2
    rw [Bool.and_eq_true, decide_eq_true_eq] at ha2
    obtain ⟨hm, h0, h1, hn⟩ := ha2
    have hG := (sMay_good xs).1 hm
    have m2 := fun W (q : SpAt W v xs) => spPart_any v xs p W q hx wx hm h0 h1
    obtain ⟨_, _, rfl, _⟩ := id h
    have hlo : (loL xs p).length ≤ 20000 := twoL_short _ _ _
    have hhi : (hiL xs p).length ≤ 20000 := twoL_short _ _ _
    have HLL := Lib.hid (show (loL xs p).length ≤ 1000000 from Nat.le_trans hlo (by decide))
    have HLH := Lib.hid (show (hiL xs p).length ≤ 1000000 from Nat.le_trans hhi (by decide))
    have hC0 : opC xs p n = if fullB (sMark xs) p.toNat n.toNat then 4 else 0 := by unfold opC; rw [ha, if_pos rfl]
    have HC0 := Lib.hid hC0
    have HA := Lib.hid ha
    have HM := Lib.hid hm
    have hgH := hiL_good xs p
    by_cases hnil : hiL xs p = []
    · have hf := hi_none_full (n := n) hG h0 h1 hnil
      have hC : opC xs p n = 0 := by rw [hC0, hf]; rfl
      have hL := open_lay hG h0 h1 hn (fun s hs => by rw [hnil] at hs; cases hs)
      have HC := Lib.hid hC
      have HL := Lib.hid hL
      have HN := Lib.hid hnil
      clear h ha hC0 hC hL hf hm
      go_enter Try.func20, Try.ntmps20
      go_wp2_with fail
      refine m1.mono ?_
      clear m1
      rintro e w1 ⟨rfl, hb1⟩
      have m2 := m2 w1 (H.out.below hb1)
      go_wp2_with fail
      refine m2.mono ?_
      clear m2
      rintro e w2 ⟨va, vo, rfl, hoa, hoo, hdi, hb2⟩
      have hB2 := hb1.trans (hb2.mono hb1.size)
      have hsz := hb1.size
      have hsz2 := hb2.size
      have m3 := spLay_any w1.heap.size va vo (loL xs p) (hiL xs p) n p w2 hsz2 hoa (SpAt.of_own hoo) hdi (lo_put h0 h1) (fun s hs => by rw [HN.out] at hs; cases hs) (good_up hgH) (.inl HN.out) HLL.out HLH.out
      rw [HL.out] at m3
      obtain ⟨_, _, hvo, _⟩ := id (SpAt.of_own hoo)
      rw [HN.out] at hvo
      subst hvo
      clear hoa hoo hdi hgH
      go_wp2_with fail
      refine m3.mono ?_
      clear m3
      rintro e w3 ⟨v3, rfl, ho3, hb3⟩
      have HP := Lib.hid (OpenPost.yes HC.out (SpAt.of_own ho3) (hB2.trans (hb3.mono hb1.size)))
      clear ho3 hb3
      go_wp2
      go_ret2
      exact HP.out
    · obtain ⟨r, s, he⟩ := list_end hnil
      have hf := hi_full hG h0 h1 hn he
      have hsm : s ∈ hiL xs p := by rw [he]; simp
      have hsb := hgH.1 s hsm
      have hlast : ∀ t ∈ hiL xs p, t.1 + t.2 ≤ s.1 + s.2 := fun t ht => by rw [he] at ht hgH; exact good_last hgH ht
      have hE := fun W => spEnd_any s W
      rw [spEnd_ok (by omega) (by omega)] at hE
      obtain ⟨K, hK⟩ : ∃ K, r.length = K := ⟨_, rfl⟩
      have hlenK : (hiL xs p).length = K + 1 := by rw [he]; simp [hK]
      have hgetK : (hiL xs p).getD K (0, 0) = s := by rw [he]; simp [List.getD, ← hK]
      have HLEN := Lib.hid hlenK
      have HGET := Lib.hid hgetK
      have HLAST := Lib.hid hlast
      obtain ⟨b0, b1⟩ := s
      dsimp only at *
      have hw1 : IntKind.i64.wrap (20000 - (b0 + b1)) = 20000 - (b0 + b1) := by simp only [IntKind.wrap_i64]; omega
      obtain ⟨e1, e2, e3, e4⟩ := idx_facts K (by rw [hlenK] at hhi; exact Nat.le_of_succ_le hhi)
      clear hlo hhi
      by_cases hfu : 20000 - (b0 + b1) < n
      · have hC : opC xs p n = 4 := by rw [hC0, hf, decide_eq_true hfu]; rfl
        have HC := Lib.hid hC
        clear h ha hC0 hC hf hm hnil he hlast hgetK hlenK hsm hK hG
        go_enter Try.func20, Try.ntmps20
        go_wp2_with fail
        refine m1.mono ?_
        clear m1
        rintro e w1 ⟨rfl, hb1⟩
        have m2 := m2 w1 (H.out.below hb1)
        go_wp2_with fail
        refine m2.mono ?_
        clear m2
        rintro e w2 ⟨va, vo, rfl, hoa, hoo, hdi, hb2⟩
        have hB2 := hb1.trans (hb2.mono hb1.size)
        obtain ⟨b, off, cap, hvo, c0, c1⟩ := (SpAt.of_own hoo).at (i := K) (by rw [HLEN.out]; omega)
        rw [HLEN.out] at hvo
        subst hvo
        rw [HGET.out] at c0 c1
        dsimp only at c0 c1
        clear hoa hoo hdi hgH
        go_wp2_with (go_at_call 38; refine (hE _).mono ?_; rintro e _ ⟨rfl, rfl⟩)
        go_ret2
        exact OpenPost.no HC.out (by decide) (hB2.alloc (by have := hB2.size; omega) _)
      · have hC : opC xs p n = 0 := by rw [hC0, hf, decide_eq_false hfu]; rfl
        have hL := open_lay hG h0 h1 hn (fun t ht => by have := hlast t ht; omega)
        have HC := Lib.hid hC
        have HL := Lib.hid hL
        have HG := Lib.hid hG
        clear h ha hC0 hC hf hm hnil he hlast hgetK hlenK hsm hK hL
        go_enter Try.func20, Try.ntmps20
        go_wp2_with fail
        refine m1.mono ?_
        clear m1
        rintro e w1 ⟨rfl, hb1⟩
        have m2 := m2 w1 (H.out.below hb1)
        go_wp2_with fail
        refine m2.mono ?_
        clear m2
        rintro e w2 ⟨va, vo, rfl, hoa, hoo, hdi, hb2⟩
        have hB2 := hb1.trans (hb2.mono hb1.size)
        have hsz := hb1.size
        have hsz2 := hb2.size
        have m3 := fun W (hW : Below w2.heap.size w2 W) => spLay_any w1.heap.size va vo (loL xs p) (hiL xs p) n p W (by have := hW.size; omega) (ownsRow_stays hoa hW) ((SpAt.of_own hoo).below hW) hdi (lo_put h0 h1)
          (fun t ht => by have := hiL_mem HG.out h0 h1 ht; have := HLAST.out t ht; have := hgH.1 t ht; omega) (good_up hgH) (.inr (by omega)) HLL.out HLH.out
        rw [HL.out] at m3
        obtain ⟨b, off, cap, hvo, c0, c1⟩ := (SpAt.of_own hoo).at (i := K) (by rw [HLEN.out]; omega)
        rw [HLEN.out] at hvo
        subst hvo
        rw [HGET.out] at c0 c1
        dsimp only at c0 c1
        have M3 := Lib.hid (m3 (w2.alloc (.cells #[.int .i64 b0, .int .i64 b1] 42)) ((Below.refl _ w2).alloc (Nat.le_refl _) _))
        have hB3 := hB2.alloc (by have := hB2.size; omega) (.cells #[.int .i64 b0, .int .i64 b1] 42)
        clear hoa hoo hdi hgH m3
        go_wp2_with (first | (go_at_call 38; refine (hE _).mono ?_; rintro e _ ⟨rfl, rfl⟩) | (go_at_call 32; refine M3.out.mono ?_; clear M3; rintro e w3 ⟨v3, rfl, ho3, hb3⟩; have HP := Lib.hid (OpenPost.yes HC.out (SpAt.of_own ho3) (hB3.trans (hb3.mono hsz))); clear ho3 hb3))
        go_ret2
        exact HP.out
end Go.Proofs.Ytlofeaodpblagaa
