/- Texts of this proof, joined. -/
import Derived.Test.YtfoglciiefoodaaGreatDoorGRefSplit
import Derived.Test.YtfoglciiefoodaaGreatDoorGNameEq
import Derived.Deep.QuietTactic
import Derived.Test.YtfoglciiefoodaaGreatDoorGReads64
namespace Go.Proofs.YtfoglciiefoodaaGreatDoor
open Go.RowKit

def hasN (l : List PCell) (s q : Int) : Bool := l.any fun c => decide (c.site = s ∧ c.seq = q)
theorem hasN_next {l : List PCell} {k : Nat} {c : PCell} {s q : Int} (h : l[k]? = some c) : hasN (l.take (k + 1)) s q = (hasN (l.take k) s q || decide (c.site = s ∧ c.seq = q)) := by
  unfold hasN
  rw [List.take_add_one, h, List.any_append]
  simp
theorem hasN_yes {l : List PCell} {k : Nat} {c : PCell} {s q : Int} (h : l[k]? = some c) (hc : c.site = s ∧ c.seq = q) : hasN l s q = true := List.any_eq_true.2 ⟨c, List.mem_of_getElem? h, decide_eq_true hc⟩
def cDo (l : List PCell) (o : POp) : List PCell × Int := if oMay o l.length then (if o.kind = 1 ∧ hasN l o.site o.seq = true then (l, 15) else (runC l o, 0)) else (l, 1)
def CellsEPost (v : Value) (x : List PCell × Int) (w : World) (e : Ending) (w' : World) : Prop := ∃ v', e = .returned (.tuple #[v', .int .i64 x.2]) ∧ CAt w' v' x.1 ∧ (v' = v ∨ ∀ g, v'.ownBlock = some g → w.heap.size ≤ g) ∧ Below w.heap.size w w'
theorem CellsEPost.same {v : Value} {l : List PCell} {c : Int} {x : List PCell × Int} {w w' : World} (hx : x = (l, c)) (h : CAt w v l) (hb : Below w.heap.size w w') : CellsEPost v x w (.returned (.tuple #[v, .int .i64 c])) w' := by
  subst hx
  exact ⟨v, rfl, h.below hb, .inl rfl, hb⟩
theorem CellsEPost.new {v v' : Value} {m : List PCell} {c : Int} {x : List PCell × Int} {w w' : World} (hx : x = (m, c)) (h : CAt w' v' m) (hf : ∀ g, v'.ownBlock = some g → w.heap.size ≤ g) (hb : Below w.heap.size w w') : CellsEPost v x w (.returned (.tuple #[v', .int .i64 c])) w' := by
  subst hx
  exact ⟨v', rfl, h, .inr hf, hb⟩
set_option maxRecDepth 100000 in
set_option maxHeartbeats 4000000 in
theorem rDo_any (s q n k a : Int) (t : ByteArray) (sp : Value) (xs : List Sp) (v : Value) (l : List PCell) (w : World) (h : CAt w v l) (hl : l.length ≤ 1000000) (hs : SpAt w sp xs) (ht : t.size ≤ 1000000) (hx : xs.length ≤ 1000000) (ha : (Lit.int .i64 a).wf = true) :
    Calls Tryz.prog 13 #[v, opV s q n k a t sp] w (CellsEPost v (cDo l ⟨s, q, n, k, a, t.data.toList, xs⟩) w) := by
  have hM := fun W (hS : SpAt W sp xs) => rOMay_any s q n k a l.length t sp xs ht W hS (by omega) ha
  have hR := fun W (hC : CAt W v l) (hS : SpAt W sp xs) hm => rRun_any s q n k a t sp xs v l W hC hl hS ht hx hm
  have hbx := OBox.new s q n k a t sp w 35
  have Hbx := Lib.hid hbx
  obtain ⟨c0, c1, c2, c3, c4, c5, c6, hB⟩ := hbx
  have H := Lib.hid h
  have HS := Lib.hid hs
  obtain ⟨bo, cap, rfl, h1, h2⟩ := h.shape
  obtain ⟨ao, sc, rfl, _⟩ := hs
  obtain ⟨r, hr⟩ : ∃ r, oMay ⟨s, q, n, k, a, t.data.toList, xs⟩ l.length = r := ⟨_, rfl⟩
  rw [hr] at hM
  have Hr := Lib.hid hr
  obtain ⟨L, hL⟩ : ∃ L, l.length = L := ⟨_, rfl⟩
  have HL := Lib.hid hL
  rw [hL] at hl h1 hM hR ⊢
  have hM0 := hM _ (HS.out.below hB)
  have HX := Lib.hid hM0
  have HR := Lib.hid hR
  unfold opV at HX
  clear hL h hr hM hR hM0
  unfold opV
  go_enter Tryz.func13, Tryz.ntmps13
  go_wp2_with fail
  refine HX.out.mono ?_
  rintro e w1 ⟨rfl, hb1⟩
  have hbx1 := Hbx.out.keep hb1
  cases r with
  | false =>
    have hx1 : cDo l ⟨s, q, n, k, a, t.data.toList, xs⟩ = (l, 1) := by unfold cDo; rw [Hr.out]; rfl
    have HX1 := Lib.hid hx1
    have hz := hbx1.2.2.2.2.2.2.2
    have H' := H.out
    rw [HL.out] at H'
    have HH := Lib.hid H'
    clear hx1 hbx1 H'
    go_wp2
    go_ret2
    exact CellsEPost.same HX1.out HH.out hz
  | true =>
    have hOm := (oMay_iff _ _).1 Hr.out
    by_cases hk : k = 1
    case neg =>
      have hx1 : cDo l ⟨s, q, n, k, a, t.data.toList, xs⟩ = (runC l ⟨s, q, n, k, a, t.data.toList, xs⟩, 0) := by unfold cDo; rw [Hr.out, if_pos rfl, if_neg (fun h => hk h.1)]
      have HX1 := Lib.hid hx1
      have hOm' := hOm
      rw [HL.out] at hOm'
      have hRc := HR.out w1 (by rw [← HL.out] at *; exact H.out.below hbx1.2.2.2.2.2.2.2) (HS.out.below hbx1.2.2.2.2.2.2.2) hOm'
      unfold opV at hRc
      have HRc := Lib.hid hRc
      have HB1 := Lib.hid hbx1
      have hb1' : w.heap.size ≤ w1.heap.size := hbx1.2.2.2.2.2.2.2.size
      clear hx1 hOm hOm' hRc hbx1 hb1 HX HR Hbx c0 c1 c2 c3 c4 c5 c6 hB
      obtain ⟨c0, c1, c2, c3, c4, c5, c6, hB⟩ := HB1.out
      go_wp2_with fail
      go_loopw [6] (fun i wr => i = .int .i64 0 ∧ wr = w1) (fun _ _ => 0)
      case atStart => exact ⟨rfl, rfl⟩
      case round =>
        obtain ⟨rfl, rfl⟩ := hrel
        have hlo : L = 0 ∨ 0 < L := by omega
        rcases hlo with rfl | hlo
        all_goals
          go_wp2_with fail
          refine HRc.out.mono ?_
          rintro e w2 ⟨v2, rfl, hc2, hf2, hb2⟩
          have HH := Lib.hid hc2
          have HF := Lib.hid hf2
          have hz := hB.trans (hb2.mono hB.size)
          have hz1 := hb1'
          clear hc2 hf2
          go_wp2
          go_ret2
          exact CellsEPost.new HX1.out HH.out (fun g hg => Nat.le_trans hz1 (HF.out g hg)) hz
    case pos =>
      subst hk
      clear c0 c1 c2 c3 c4 c5 c6 hB Hbx HX hb1
      have HB1 := Lib.hid hbx1
      have HOm := Lib.hid hOm
      clear hbx1 hOm
      go_wp2_with fail
      go_loopw [6] (fun i wr => ∃ m : Nat, i = .int .i64 m ∧ m ≤ L ∧ RowKit.Hid (hasN (l.take m) s q = false) ∧ RowKit.Hid (OBox w.heap.size s q n 1 a t (.slice ao xs.length sc) w wr)) (fun i _ => L - (intOf i).toNat)
      case atStart => exact ⟨0, rfl, Nat.zero_le _, Lib.hid rfl, HB1⟩
      case round =>
        obtain ⟨m, rfl, hm, hn, hbx⟩ := hrel
        obtain ⟨c0, c1, c2, c3, c4, c5, c6, hB⟩ := id hbx.out
        rcases Nat.lt_or_ge m L with hlt | hge
        · obtain ⟨c, hc⟩ := getC_some (l := l) (k := m) (by rw [HL.out]; omega)
          obtain ⟨b, off, cp, hv, d0, d1, d2, d3, d4⟩ := (H.out.below hB).at hc
          rw [HL.out] at hv
          cases hv
          have hi0 : (0 : Int) ≤ (m : Int) ∧ (m : Int) < (L : Int) := ⟨by omega, by omega⟩
          by_cases he : c.site = s ∧ c.seq = q
          · have hq := fun W => nmEq_eql W c.site c.seq s q true (by rw [he.1, he.2]; simp)
            have hx1 : cDo l ⟨s, q, n, 1, a, t.data.toList, xs⟩ = (l, 15) := by unfold cDo; rw [Hr.out, if_pos rfl, if_pos ⟨rfl, hasN_yes hc he⟩]
            have HX1 := Lib.hid hx1
            have H' := H.out
            rw [HL.out] at H'
            have HH := Lib.hid H'
            clear he hx1 hc H'
            go_wp2_with fail
            go_quiet (fail)
            go_wp2
            go_ret2
            exact CellsEPost.same HX1.out HH.out (below_draws hB _)
          · have hq := fun W => nmEq_eql W c.site c.seq s q false (by
              have h : ¬ (c.site == s && c.seq == q) = true := fun h => he (by simpa using h)
              simpa using h)
            have hn' : hasN (l.take (m + 1)) s q = false := by rw [hasN_next hc, hn.out, decide_eq_false he]; rfl
            have HN' := Lib.hid hn'
            clear he hc hn'
            go_wp2_with fail
            go_quiet (fail)
            go_wp2
            exact ⟨⟨m + 1, by go_num, by omega, HN', Lib.hid (hbx.out.draws _)⟩, by simp [intOf]; omega⟩
        · have hk' : m = L := by omega
          subst hk'
          have hn' := hn.out
          rw [List.take_of_length_le (by rw [HL.out]; exact Nat.le_refl _)] at hn'
          have hx1 : cDo l ⟨s, q, n, 1, a, t.data.toList, xs⟩ = (runC l ⟨s, q, n, 1, a, t.data.toList, xs⟩, 0) := by
            unfold cDo
            rw [Hr.out, if_pos rfl, if_neg]
            rintro ⟨_, h⟩
            dsimp only at h
            rw [hn'] at h
            cases h
          have HX1 := Lib.hid hx1
          have hOm' := HOm.out
          rw [HL.out] at hOm'
          have hCw := H.out.below hB
          rw [HL.out] at hCw
          have hRc := HR.out wr hCw (HS.out.below hB) hOm'
          unfold opV at hRc
          have HRc := Lib.hid hRc
          have hb1' : w.heap.size ≤ wr.heap.size := hB.size
          clear hx1 hOm' hCw hRc hn' HR
          go_wp2_with fail
          refine HRc.out.mono ?_
          rintro e w2 ⟨v2, rfl, hc2, hf2, hb2⟩
          have HH := Lib.hid hc2
          have HF := Lib.hid hf2
          have hz := hB.trans (hb2.mono hB.size)
          clear hc2 hf2
          go_wp2
          go_ret2
          exact CellsEPost.new HX1.out HH.out (fun g hg => Nat.le_trans hb1' (HF.out g hg)) hz
end Go.Proofs.YtfoglciiefoodaaGreatDoor

namespace Go.Proofs.YtfoglciiefoodaaGreatDoor
open Go.RowKit

def keptC (l : List PCell) (f : Nat → Bool) (k : Nat) : List PCell := (List.range k).filterMap fun i => if f i then none else l[i]?
theorem keptC_no {l : List PCell} {f : Nat → Bool} {k : Nat} (hf : f k = true) : keptC l f (k + 1) = keptC l f k := by
  unfold keptC
  rw [List.range_succ, List.filterMap_append]
  simp [hf]
theorem keptC_yes {l : List PCell} {f : Nat → Bool} {k : Nat} {c : PCell} (hf : f k = false) (hc : l[k]? = some c) : keptC l f (k + 1) = keptC l f k ++ [c] := by
  unfold keptC
  rw [List.range_succ, List.filterMap_append]
  simp [hf, hc]
theorem keptC_le (l : List PCell) (f : Nat → Bool) (k : Nat) : (keptC l f k).length ≤ k := by
  unfold keptC
  refine Nat.le_trans (List.length_filterMap_le _ _) ?_
  rw [List.length_range]
  exact Nat.le_refl _
def outB (f : Nat → Bool) (n m : Nat) : Bool := (List.range m).any fun i => decide (n ≤ i) && f i
def liveB (l : List PCell) (f : Nat → Bool) (k : Nat) : Bool := (List.range k).any fun i => f i && !goneB l i
theorem outB_next (f : Nat → Bool) (n m : Nat) (h : n ≤ m) : outB f n (m + 1) = (outB f n m || f m) := by
  unfold outB
  rw [List.range_succ, List.any_append]
  simp [h]
theorem outB_low (f : Nat → Bool) (n : Nat) : outB f n n = false := by
  unfold outB
  rw [List.any_eq_false]
  intro i hi
  rw [List.mem_range] at hi
  simp [Nat.not_le.2 hi]
theorem outB_mono {f : Nat → Bool} {n m k : Nat} (h : outB f n m = true) (hk : m ≤ k) : outB f n k = true := by
  unfold outB at *
  rw [List.any_eq_true] at *
  obtain ⟨i, hi, h⟩ := h
  rw [List.mem_range] at hi
  exact ⟨i, List.mem_range.2 (by omega), h⟩
theorem liveB_next (l : List PCell) (f : Nat → Bool) (k : Nat) : liveB l f (k + 1) = (liveB l f k || (f k && !goneB l k)) := by
  unfold liveB
  rw [List.range_succ, List.any_append]
  simp
theorem liveB_mono {l : List PCell} {f : Nat → Bool} {m k : Nat} (h : liveB l f m = true) (hk : m ≤ k) : liveB l f k = true := by
  unfold liveB at *
  rw [List.any_eq_true] at *
  obtain ⟨i, hi, h⟩ := h
  rw [List.mem_range] at hi
  exact ⟨i, List.mem_range.2 (by omega), h⟩
def cDrop (l : List PCell) (xs : List Sp) : List PCell × Int :=
  if sMay xs then (if outB (sMark xs) l.length 20000 then (l, 1) else if liveB l (sMark xs) l.length then (l, 13) else (keptC l (sMark xs) l.length, 0)) else (l, 1)
theorem sMay_ok {xs : List Sp} (h : sMay xs = true) : xs.all spOk = true := by
  have hg := (sMay_good xs).1 h
  rw [List.all_eq_true]
  intro s hs
  have := hg.1 s hs
  unfold spOk
  exact decide_eq_true (by omega)
set_option maxRecDepth 100000 in
set_option maxHeartbeats 4000000 in
theorem rDrop_any (sp : Value) (xs : List Sp) (v : Value) (l : List PCell) (w : World) (h : CAt w v l) (hl : l.length ≤ 20000) (hs : SpAt w sp xs) (hx : xs.length ≤ 1000000) :
    Calls Tryz.prog 11 #[v, sp] w (CellsEPost v (cDrop l xs) w) := by
  obtain ⟨i0, hi, hz0, hz1, hz2⟩ := info_parts infoCell
  have hM := rSpMay_any sp xs w hs (by omega)
  have hK := fun W (hS : SpAt W sp xs) => rMarks_any sp xs W hS (by omega)
  have H := Lib.hid h
  have HS := Lib.hid hs
  obtain ⟨bo, cap, rfl, h1, h2⟩ := h.shape
  obtain ⟨ao, sc, rfl, _⟩ := hs
  obtain ⟨L, hL⟩ : ∃ L, l.length = L := ⟨_, rfl⟩
  have HL := Lib.hid hL
  obtain ⟨r, hr⟩ : ∃ r, sMay xs = r := ⟨_, rfl⟩
  have Hr := Lib.hid hr
  have HK := Lib.hid hK
  have H' := h
  rw [hL] at hl h1 H' ⊢
  rw [hr] at hM
  have HH := Lib.hid H'
  clear hL h hr hK H'
  go_enter Tryz.func11, Tryz.ntmps11
  go_wp2_with fail
  refine hM.mono ?_
  clear hM
  rintro e w1 ⟨rfl, hb1⟩
  have Hb1 := Lib.hid hb1
  cases r with
  | false =>
    have hx1 : cDrop l xs = (l, 1) := by unfold cDrop; rw [Hr.out]; rfl
    have HX1 := Lib.hid hx1
    clear hx1 hb1
    go_wp2
    go_ret2
    exact CellsEPost.same HX1.out HH.out Hb1.out
  | true =>
    have hok := sMay_ok Hr.out
    have Hok := Lib.hid hok
    have hK := HK.out w1 (HS.out.below hb1)
    clear HK hok hb1
    go_wp2_with fail
    refine hK.mono ?_
    clear hK
    rintro e w2 ⟨mv, rfl, hmk, hb2⟩
    have hmk := hmk Hok.out
    have HMK := Lib.hid hmk
    have Hb2 := Lib.hid (Hb1.out.trans (hb2.mono Hb1.out.size))
    obtain ⟨ma, mc, rfl, _⟩ := hmk
    obtain ⟨f, hf⟩ : ∃ f, sMark xs = f := ⟨_, rfl⟩
    have Hf := Lib.hid hf
    rw [hf] at HMK
    rw [Hok.out]
    clear hb2 hf Hb1
    go_wp2_with fail
    go_loopw [8] (fun i wr => ∃ k : Nat, i = .int .i64 k ∧ L ≤ k ∧ k ≤ 20000 ∧ RowKit.Hid (outB f L k = false) ∧ wr = w2) (fun i _ => 20000 - (intOf i).toNat)
    case atStart => exact ⟨L, rfl, Nat.le_refl _, hl, Lib.hid (outB_low f L), rfl⟩
    case round =>
      obtain ⟨k, rfl, hk0, hk, hout, hwr⟩ := hrel
      subst wr
      rcases Nat.lt_or_ge k 20000 with hlt | hge
      · obtain ⟨b, off, cp, hv, d0⟩ := HMK.out.at hlt
        cases hv
        have hi0 : (0 : Int) ≤ (k : Int) ∧ (k : Int) < (20000 : Int) := ⟨by omega, by omega⟩
        cases hq : f k with
        | true =>
          rw [hq] at d0
          have ho : outB f L (k + 1) = true := by rw [outB_next _ _ _ hk0, hq, Bool.or_true]
          have hx1 : cDrop l xs = (l, 1) := by unfold cDrop; rw [Hr.out, if_pos rfl, Hf.out, HL.out, if_pos (outB_mono ho (by omega))]
          have HX1 := Lib.hid hx1
          clear hx1 ho hq
          go_wp2
          go_ret2
          exact CellsEPost.same HX1.out HH.out Hb2.out
        | false =>
          rw [hq] at d0
          have HN := Lib.hid (show outB f L (k + 1) = false by rw [outB_next _ _ _ hk0, hq, hout.out]; rfl)
          clear hq
          go_wp2
          exact ⟨⟨k + 1, by go_num, by omega, by omega, HN, trivial⟩, by simp [intOf]; omega⟩
      · have hk' : k = 20000 := by omega
        have Hout := Lib.hid (show outB f L 20000 = false by rw [← hk']; exact hout.out)
        clear hout hk'
        go_wp2_with fail
        go_loopw [9, 10] (fun o i wr => ∃ k : Nat, i = .int .i64 k ∧ k ≤ L ∧ RowKit.Hid (liveB l f k = false) ∧ RowKit.Hid (wr.ownsRow w2.heap.size 62 5 o (keptC l f k).length (cCells (keptC l f k))) ∧ RowKit.Hid (Below w2.heap.size w2 wr)) (fun _ i _ => L - (intOf i).toNat)
        case atStart => exact ⟨0, rfl, Nat.zero_le _, Lib.hid rfl, Lib.hid (World.ownsRow_nil _ _ _ _), Lib.hid (Below.refl _ _)⟩
        case round =>
          obtain ⟨k, rfl, hk, hlv, ho, hb⟩ := hrel
          have hsz := hb.out.size
          rcases Nat.lt_or_ge k L with hlt | hge
          · obtain ⟨c, hc⟩ := getC_some (l := l) (k := k) (by rw [HL.out]; omega)
            obtain ⟨b', off', cp', hv', c0, c1, c2, c3, c4⟩ := (H.out.below (Hb2.out.trans (hb.out.mono Hb2.out.size))).at hc
            rw [HL.out] at hv'
            cases hv'
            obtain ⟨b, off, cp, hv, d0⟩ := (HMK.out.below hb.out).at (i := k) (by omega)
            cases hv
            have hi0 : (0 : Int) ≤ (k : Int) ∧ (k : Int) < (L : Int) := ⟨by omega, by omega⟩
            have hi1 : (0 : Int) ≤ (k : Int) ∧ (k : Int) < (20000 : Int) := ⟨by omega, by omega⟩
            cases hq : f k with
            | true =>
              rw [hq] at d0
              cases hg : c.gone with
              | true =>
                rw [hg] at c4
                have HN := Lib.hid (show liveB l f (k + 1) = false by rw [liveB_next, hlv.out, hq, goneB_at hc, hg]; rfl)
                have hO := ho.out
                rw [← keptC_no hq] at hO
                have HO := Lib.hid hO
                clear hO hq hg hc c0 c1 c2 c3 ho
                go_wp2
                exact ⟨⟨k + 1, by go_num, by omega, HN, HO, hb⟩, by simp [intOf]; omega⟩
              | false =>
                rw [hg] at c4
                have hl1 : liveB l f (k + 1) = true := by rw [liveB_next, hq, goneB_at hc, hg]; simp
                have hx1 : cDrop l xs = (l, 13) := by unfold cDrop; rw [Hr.out, if_pos rfl, Hf.out, HL.out, if_neg (by rw [Hout.out]; decide), if_pos (liveB_mono hl1 (by omega))]
                have HX1 := Lib.hid hx1
                have HZ := Lib.hid (Hb2.out.trans (hb.out.mono Hb2.out.size))
                clear hx1 hl1 hq hg hc c0 c1 c2 c3 ho
                go_wp2
                go_ret2
                exact CellsEPost.same HX1.out HH.out HZ.out
            | false =>
              rw [hq] at d0
              have HN := Lib.hid (show liveB l f (k + 1) = false by rw [liveB_next, hlv.out, hq]; rfl)
              have hK := keptC_yes hq hc
              have HLn := Lib.hid (show (keptC l f (k + 1)).length = (keptC l f k).length + 1 by rw [hK]; simp)
              have HCn := Lib.hid (show cCells (keptC l f (k + 1)) = cCells (keptC l f k) ++ [.int .i64 c.site, .int .i64 c.seq, .int .i64 c.off, .int .i32 c.r, .bool c.gone] by rw [hK, cCells_append, cCells_one]; rfl)
              have hle := keptC_le l f k
              obtain ⟨S, hS⟩ : ∃ S, (keptC l f k).length = S := ⟨_, rfl⟩
              have hO := ho.out
              rw [hS] at hO hle HLn
              have HO := Lib.hid hO
              clear hO hS hK hq hc ho
              go_wp2_with (at_builtin; refine wpList_append_own _ rfl _ _ 22 rfl w2.heap.size 62 i0 (.agg #[.int .i64 0, .int .i64 0, .int .i64 0, .int .i32 0, .bool false]) 5 32 Tryz.underlying22 hi hz0 hz1 hz2 rfl (by decide) _ S _ rfl (HO.out.alloc _) ⟨wr.heap.size, 0, none⟩ 1 1 [.int .i64 c.site, .int .i64 c.seq, .int .i64 c.off, .int .i32 c.r, .bool c.gone] rfl rfl ?c1 ?c2 ?c3 ?c4 ?c5 ?_)
              case c1 => exact World.news_of_block (cs := #[.int .i64 c.site, .int .i64 c.seq, .int .i64 c.off, .int .i32 c.r, .bool c.gone]) (t := 62) (fr := (0, 0)) (heap_alloc_new wr _)
              case c2 => intro u hu; simp at hu; rcases hu with rfl | rfl | rfl | rfl | rfl <;> rfl
              case c3 => unfold maxLen; omega
              case c4 => omega
              case c5 => simp; omega
              intro v' w4 hown' hgrow _
              have HB2 := Lib.hid ((hb.out.alloc hsz _).grown hgrow (by simp; omega) (fun g hg => (HO.out.lt g hg).1))
              have hown2 := hown'
              rw [← HCn.out, ← HLn.out] at hown2
              have Hown2 := Lib.hid hown2
              clear hown' hown2 hgrow
              go_wp2
              exact ⟨⟨k + 1, by go_num, by omega, HN, Hown2, HB2⟩, by simp [intOf]; omega⟩
          · have hk' : k = L := by omega
            subst hk'
            have hx1 : cDrop l xs = (keptC l f k, 0) := by unfold cDrop; rw [Hr.out, if_pos rfl, Hf.out, HL.out, if_neg (by rw [Hout.out]; decide), if_neg (by rw [hlv.out]; decide)]
            have HX1 := Lib.hid hx1
            have HZ := Lib.hid (Hb2.out.trans (hb.out.mono Hb2.out.size))
            have HC := Lib.hid (CAt.of_own ho.out rfl)
            have HF := Lib.hid (show ∀ g, u9.ownBlock = some g → w.heap.size ≤ g from fun g hg => Nat.le_trans Hb2.out.size (ho.out.lt g hg).1)
            clear hx1 ho
            go_wp2
            go_ret2
            exact CellsEPost.new HX1.out HC.out HF.out HZ.out
end Go.Proofs.YtfoglciiefoodaaGreatDoor

namespace Go.Proofs.YtfoglciiefoodaaGreatDoor
open Go.RowKit

def cellOk (c : PCell) : Bool := nMay c.site c.seq && decide (0 ≤ c.off ∧ c.off ≤ 199) && Lib.validRune c.r
def sameId (c d : PCell) : Bool := decide (c.site = d.site ∧ c.seq = d.seq ∧ c.off = d.off)
def dupTo (l : List PCell) (d : PCell) (k : Nat) : Bool := (l.take k).any fun c => sameId c d
def dupC (l : List PCell) (n : Nat) : Bool := (List.range n).any fun i => match l[i]? with
  | some d => dupTo l d i
  | none => false
theorem dupTo_next {l : List PCell} {d c : PCell} {k : Nat} (h : l[k]? = some c) : dupTo l d (k + 1) = (dupTo l d k || sameId c d) := by
  unfold dupTo
  rw [List.take_add_one, h, List.any_append]
  simp
theorem dupTo_mono {l : List PCell} {d : PCell} {k m : Nat} (h : dupTo l d k = true) (hk : k ≤ m) : dupTo l d m = true := by
  unfold dupTo at *
  rw [List.any_eq_true] at *
  obtain ⟨c, hc, h⟩ := h
  refine ⟨c, ?_, h⟩
  rw [show k = min k m by omega, ← List.take_take] at hc
  exact List.mem_of_mem_take hc
theorem dupC_next {l : List PCell} {d : PCell} {n : Nat} (h : l[n]? = some d) : dupC l (n + 1) = (dupC l n || dupTo l d n) := by
  unfold dupC
  rw [List.range_succ, List.any_append]
  simp [h]
theorem dupC_mono {l : List PCell} {m k : Nat} (h : dupC l m = true) (hk : m ≤ k) : dupC l k = true := by
  unfold dupC at *
  rw [List.any_eq_true] at *
  obtain ⟨i, hi, h⟩ := h
  rw [List.mem_range] at hi
  exact ⟨i, List.mem_range.2 (by omega), h⟩
def cMay (l : List PCell) : Int := if l.all cellOk then (if dupC l l.length then 15 else if 20000 < l.length then 4 else 0) else 1
theorem allOk_next {l : List PCell} {k : Nat} {c : PCell} (h : l[k]? = some c) : (l.take (k + 1)).all cellOk = ((l.take k).all cellOk && cellOk c) := by
  rw [List.take_add_one, h, List.all_append]
  simp
theorem allOk_bad {l : List PCell} {k : Nat} {c : PCell} (h : l[k]? = some c) (hc : cellOk c = false) : l.all cellOk = false := by
  rw [List.all_eq_false]
  exact ⟨c, List.mem_of_getElem? h, by rw [hc]; simp⟩
set_option maxRecDepth 100000 in
set_option maxHeartbeats 4000000 in
theorem rMayC_any (v : Value) (l : List PCell) (w : World) (h : CAt w v l) (hl : l.length ≤ 1000000000) :
    Calls Tryz.prog 10 #[v] w fun e w' => e = .returned (.int .i64 (cMay l)) ∧ Below w.heap.size w w' := by
  have H := Lib.hid h
  obtain ⟨bo, cap, rfl, h1, h2⟩ := h.shape
  obtain ⟨L, hL⟩ : ∃ L, l.length = L := ⟨_, rfl⟩
  have HL := Lib.hid hL
  rw [hL] at hl h1 ⊢
  clear hL h
  go_enter Tryz.func10, Tryz.ntmps10
  go_wp2_with fail
  go_loopw [3] (fun i wr => ∃ k : Nat, i = .int .i64 k ∧ k ≤ L ∧ RowKit.Hid ((l.take k).all cellOk = true) ∧ RowKit.Hid (Below w.heap.size w wr)) (fun i _ => L - (intOf i).toNat)
  case atStart => exact ⟨0, rfl, Nat.zero_le _, Lib.hid rfl, Lib.hid (Below.refl _ _)⟩
  case round =>
    obtain ⟨k, rfl, hk, hall, hb⟩ := hrel
    rcases Nat.lt_or_ge k L with hlt | hge
    · obtain ⟨c, hc⟩ := getC_some (l := l) (k := k) (by rw [HL.out]; omega)
      obtain ⟨b, off, cp, hv, c0, c1, c2, c3, c4⟩ := (H.out.below hb.out).at hc
      rw [HL.out] at hv
      cases hv
      have hi0 : (0 : Int) ≤ (k : Int) ∧ (k : Int) < (L : Int) := ⟨by omega, by omega⟩
      have hN := fun W => rMayName_any c.site c.seq W
      have hI := fun W => is_any c.r W
      unfold nmV at hN
      have hkd : ∀ W, Below wr.heap.size wr W → W.cell? ⟨b, off + k * 5 + 2, none⟩ = some (.int .i64 c.off) ∧ W.cell? ⟨b, off + k * 5 + 3, none⟩ = some (.int .i32 c.r) := fun W hz => ⟨cell_stays hz c2, cell_stays hz c3⟩
      have Hkd := Lib.hid hkd
      have Hb := Lib.hid hb.out
      cases hok : cellOk c with
      | false =>
        have hx1 : cMay l = 1 := by unfold cMay; rw [allOk_bad hc hok]; rfl
        have HX1 := Lib.hid hx1
        unfold cellOk at hok
        clear hx1 hc hkd hall c2 c3 c4
        cases hm : nMay c.site c.seq with
        | false =>
          rw [hm] at hN
          clear hok
          go_wp2_with (go_at_call 39; refine (hN _).mono ?_; clear hN; rintro e w1 ⟨rfl, hb1⟩)
          go_ret
          exact ⟨ret_i64 HX1.out.symm, Hb.out.trans (hb1.mono Hb.out.size)⟩
        | true =>
          rw [hm] at hN
          rw [hm, Bool.true_and] at hok
          clear hm
          rcases Int.lt_or_le c.off 0 with h0 | h0
          · clear hok
            go_wp2_with (go_at_call 39; refine (hN _).mono ?_; clear hN; rintro e w1 ⟨rfl, hb1⟩; obtain ⟨e2, e3⟩ := Hkd.out _ hb1)
            go_ret
            exact ⟨ret_i64 HX1.out.symm, Hb.out.trans (hb1.mono Hb.out.size)⟩
          · rcases Int.lt_or_le 199 c.off with h1 | h1
            · clear hok
              go_wp2_with (go_at_call 39; refine (hN _).mono ?_; clear hN; rintro e w1 ⟨rfl, hb1⟩; obtain ⟨e2, e3⟩ := Hkd.out _ hb1)
              go_ret
              exact ⟨ret_i64 HX1.out.symm, Hb.out.trans (hb1.mono Hb.out.size)⟩
            · rw [decide_eq_true ⟨h0, h1⟩, Bool.true_and] at hok
              rw [hok] at hI
              clear hok
              go_wp2_with (first
                | (go_at_call 39; refine (hN _).mono ?_; clear hN; rintro e w1 ⟨rfl, hb1⟩; obtain ⟨e2, e3⟩ := Hkd.out _ hb1)
                | (go_at_call 40; refine (hI _).mono ?_; clear hI; rintro e _ ⟨rfl, rfl⟩))
              go_ret
              exact ⟨ret_i64 HX1.out.symm, Hb.out.trans (hb1.mono Hb.out.size)⟩
      | true =>
        have HN := Lib.hid (show (l.take (k + 1)).all cellOk = true by rw [allOk_next hc, hall.out, hok]; rfl)
        unfold cellOk at hok
        simp only [Bool.and_eq_true, decide_eq_true_eq] at hok
        obtain ⟨⟨hm, h0, h1⟩, hv⟩ := hok
        rw [hm] at hN
        rw [hv] at hI
        clear hm hv hc hkd hall c2 c3 c4
        go_wp2_with (first
          | (go_at_call 39; refine (hN _).mono ?_; clear hN; rintro e w1 ⟨rfl, hb1⟩; obtain ⟨e2, e3⟩ := Hkd.out _ hb1)
          | (go_at_call 40; refine (hI _).mono ?_; clear hI; rintro e _ ⟨rfl, rfl⟩))
        exact ⟨⟨k + 1, by go_num, by omega, HN, Lib.hid (Hb.out.trans (hb1.mono Hb.out.size))⟩, by simp [intOf]; omega⟩
    · have hk' : k = L := by omega
      have hA := hall.out
      rw [List.take_of_length_le (by rw [HL.out]; omega)] at hA
      have HA := Lib.hid hA
      have HB := hb
      clear hA hall hb
      go_wp2_with fail
      clear hk' hge hk
      go_loopw [4] (fun i wr => ∃ m : Nat, i = .int .i64 m ∧ m ≤ L ∧ RowKit.Hid (dupC l m = false) ∧ RowKit.Hid (Below w.heap.size w wr)) (fun i _ => L - (intOf i).toNat)
      case atStart => exact ⟨0, rfl, Nat.zero_le _, Lib.hid rfl, HB⟩
      case round =>
        obtain ⟨m, rfl, hm, hdup, hb⟩ := hrel
        clear HB
        rcases Nat.lt_or_ge m L with hlt | hge
        · obtain ⟨d, hd⟩ := getC_some (l := l) (k := m) (by rw [HL.out]; omega)
          have Hd := Lib.hid hd
          clear hd
          go_wp2_with fail
          go_loopw [5] (fun j wr => ∃ k : Nat, j = .int .i64 k ∧ k ≤ m ∧ RowKit.Hid (dupTo l d k = false) ∧ RowKit.Hid (Below w.heap.size w wr)) (fun j _ => m - (intOf j).toNat)
          case atStart => exact ⟨0, rfl, Nat.zero_le _, Lib.hid rfl, hb⟩
          case round =>
            clear hb
            obtain ⟨k, rfl, hk, hto, hb⟩ := hrel
            rcases Nat.lt_or_ge k m with hlt2 | hge2
            · obtain ⟨c, hc⟩ := getC_some (l := l) (k := k) (by rw [HL.out]; omega)
              obtain ⟨b, off, cp, hv, c0, c1, c2, c3, c4⟩ := (H.out.below hb.out).at hc
              rw [HL.out] at hv
              cases hv
              obtain ⟨b', off', cp', hv, d0, d1, d2, d3, d4⟩ := (H.out.below hb.out).at Hd.out
              rw [HL.out] at hv
              cases hv
              have hi0 : (0 : Int) ≤ (k : Int) ∧ (k : Int) < (L : Int) := ⟨by omega, by omega⟩
              have hi1 : (0 : Int) ≤ (m : Int) ∧ (m : Int) < (L : Int) := ⟨by omega, by omega⟩
              have Hc := Lib.hid hc
              clear hc c3 c4 d3 d4
              by_cases he : c.site = d.site ∧ c.seq = d.seq
              · have hq := fun W => nmEq_eql W c.site c.seq d.site d.seq true (by rw [he.1, he.2]; simp)
                by_cases ho : c.off = d.off
                · have hx1 : cMay l = 15 := by
                    have h1 : dupTo l d (k + 1) = true := by rw [dupTo_next Hc.out, show sameId c d = true from decide_eq_true ⟨he.1, he.2, ho⟩, Bool.or_true]
                    have h2 : dupC l (m + 1) = true := by rw [dupC_next Hd.out, dupTo_mono h1 (by omega), Bool.or_true]
                    unfold cMay
                    rw [HA.out, if_pos rfl, if_pos (dupC_mono h2 (by rw [HL.out]; omega))]
                  have HX1 := Lib.hid hx1
                  have ho' : decide (c.off = d.off) = true := decide_eq_true ho
                  clear hx1 he
                  go_wp2_with fail
                  go_quiet (fail)
                  go_wp2
                  go_ret
                  exact ⟨ret_i64 HX1.out.symm, below_draws hb.out _⟩
                · have HN := Lib.hid (show dupTo l d (k + 1) = false by rw [dupTo_next Hc.out, hto.out, show sameId c d = false from decide_eq_false fun h => ho h.2.2]; rfl)
                  have ho' : decide (c.off = d.off) = false := decide_eq_false ho
                  clear he
                  go_wp2_with fail
                  go_quiet (fail)
                  go_wp2
                  exact ⟨⟨k + 1, by go_num, by omega, HN, Lib.hid (below_draws hb.out _)⟩, by simp [intOf]; omega⟩
              · have hq := fun W => nmEq_eql W c.site c.seq d.site d.seq false (by
                  have h : ¬ (c.site == d.site && c.seq == d.seq) = true := fun h => he (by simpa using h)
                  simpa using h)
                have HN := Lib.hid (show dupTo l d (k + 1) = false by rw [dupTo_next Hc.out, hto.out, show sameId c d = false from decide_eq_false fun h => he ⟨h.1, h.2.1⟩]; rfl)
                clear he
                go_wp2_with fail
                go_quiet (fail)
                go_wp2
                exact ⟨⟨k + 1, by go_num, by omega, HN, Lib.hid (below_draws hb.out _)⟩, by simp [intOf]; omega⟩
            · have hk2 : k = m := by omega
              subst hk2
              have HN := Lib.hid (show dupC l (k + 1) = false by rw [dupC_next Hd.out, hdup.out, hto.out]; rfl)
              go_wp2
              exact ⟨⟨k + 1, by go_num, by omega, HN, hb⟩, by simp [intOf]; omega⟩
        · have hk2 : m = L := by omega
          subst hk2
          have hD := hdup.out
          rw [← HL.out] at hD
          by_cases hbig : 20000 < m
          · have hx1 : cMay l = 4 := by unfold cMay; rw [HA.out, if_pos rfl, if_neg (by rw [hD]; decide), HL.out, if_pos hbig]
            have HX1 := Lib.hid hx1
            clear hx1 hD
            go_wp2
            go_ret
            exact ⟨ret_i64 HX1.out.symm, hb.out⟩
          · have hx1 : cMay l = 0 := by unfold cMay; rw [HA.out, if_pos rfl, if_neg (by rw [hD]; decide), HL.out, if_neg hbig]
            have HX1 := Lib.hid hx1
            clear hx1 hD
            go_wp2
            go_ret
            exact ⟨ret_i64 HX1.out.symm, hb.out⟩
end Go.Proofs.YtfoglciiefoodaaGreatDoor
