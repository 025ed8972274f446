/- A list parted at a point, and its parts laid together again: plain. -/
import Derived.Test.YtlofeaodpblagaaEdgesPlain
import Derived.Test.YtlofeaodpblagaaRefSpShut
namespace Go.Proofs.Ytlofeaodpblagaa
open Go.RowKit

/-- The places ahead of a point; a list's places below it, and the others. -/
def ptL (p : Int) : List Sp := putL [] 0 p
def loL (xs : List Sp) (p : Int) : List Sp := twoL 1 xs (ptL p)
def hiL (xs : List Sp) (p : Int) : List Sp := twoL 2 xs (ptL p)
theorem ptL_ok {p : Int} (h0 : 0 ≤ p) (h1 : p ≤ 20000) : sGood (ptL p) ∧ ∀ i : Nat, sMark (ptL p) i = decide ((i : Int) < p) := by
  obtain ⟨q1, q2⟩ := putL_ok (PutOK.nil 0) (Int.le_refl 0) h0 h1
  refine ⟨q1.good, fun i => ?_⟩
  show sMark (putL [] 0 p) i = _
  rw [q2]
  show (false || _) = _
  rw [Bool.false_or]
  exact decide_eq_decide.2 (by omega)
theorem loL_good (xs : List Sp) (p : Int) : sGood (loL xs p) := sMade_good _ _ (Nat.le_refl _)
theorem hiL_good (xs : List Sp) (p : Int) : sGood (hiL xs p) := sMade_good _ _ (Nat.le_refl _)
theorem loL_mark (xs : List Sp) {p : Int} (h0 : 0 ≤ p) (h1 : p ≤ 20000) (i : Nat) : sMark (loL xs p) i = (sMark xs i && decide ((i : Int) < p)) := by
  unfold loL twoL
  rw [sMade_mark]
  show (decide (i < 20000) && (sMark xs i && sMark (ptL p) i)) = _
  rw [(ptL_ok h0 h1).2]
  by_cases g : i < 20000
  · rw [decide_eq_true g, Bool.true_and]
  · rw [decide_eq_false g, decide_eq_false (show ¬ (i : Int) < p by omega), Bool.and_false, Bool.and_false]
theorem hiL_mark {xs : List Sp} (hx : sGood xs) {p : Int} (h0 : 0 ≤ p) (h1 : p ≤ 20000) (i : Nat) : sMark (hiL xs p) i = (sMark xs i && decide (p ≤ (i : Int))) := by
  unfold hiL twoL
  rw [sMade_mark]
  show (decide (i < 20000) && (sMark xs i && !sMark (ptL p) i)) = _
  rw [(ptL_ok h0 h1).2]
  by_cases g : i < 20000
  · rw [decide_eq_true g, Bool.true_and]
    congr 1
    rw [← decide_not]
    exact decide_eq_decide.2 (by omega)
  · rw [sMark_beyond hx (by omega), decide_eq_false g]
    rfl
theorem good_mem {l : List Sp} (h : sGood l) {s : Sp} (hs : s ∈ l) : sMark l s.1.toNat = true ∧ sMark l (s.1 + s.2 - 1).toNat = true := by
  have := h.1 s hs
  exact ⟨(sMark_iff _ _).2 ⟨s, hs, by omega, by omega⟩, (sMark_iff _ _).2 ⟨s, hs, by omega, by omega⟩⟩
theorem loL_mem {xs : List Sp} {p : Int} (h0 : 0 ≤ p) (h1 : p ≤ 20000) {s : Sp} (hs : s ∈ loL xs p) : s.1 + s.2 ≤ p := by
  have hb := (loL_good xs p).1 s hs
  have hm := (good_mem (loL_good xs p) hs).2
  rw [loL_mark xs h0 h1, Bool.and_eq_true, decide_eq_true_eq] at hm
  omega
theorem hiL_mem {xs : List Sp} (hx : sGood xs) {p : Int} (h0 : 0 ≤ p) (h1 : p ≤ 20000) {s : Sp} (hs : s ∈ hiL xs p) : p ≤ s.1 := by
  have hb := (hiL_good xs p).1 s hs
  have hm := (good_mem (hiL_good xs p) hs).1
  rw [hiL_mark hx h0 h1, Bool.and_eq_true, decide_eq_true_eq] at hm
  omega
theorem good_up {l : List Sp} (h : sGood l) : l.Pairwise fun s t => s.1 ≤ t.1 := by
  have : ∀ m : List Sp, (∀ s ∈ m, 1 ≤ s.2) → m.Pairwise (fun a b => a.1 + a.2 < b.1) → m.Pairwise fun s t => s.1 ≤ t.1 := by
    intro m
    induction m with
    | nil => exact fun _ _ => List.Pairwise.nil
    | cons a r ih =>
      intro h1 h2
      obtain ⟨p1, p2⟩ := List.pairwise_cons.1 h2
      exact List.pairwise_cons.2 ⟨fun b hb => by have := p1 b hb; have := h1 a (List.mem_cons_self ..); omega, ih (fun s hs => h1 s (List.mem_cons_of_mem _ hs)) p2⟩
  exact this l (fun s hs => (h.1 s hs).1) h.2
theorem lo_put {xs : List Sp} {p : Int} (h0 : 0 ≤ p) (h1 : p ≤ 20000) : PutOK (loL xs p) p := ⟨loL_good xs p, fun s hs => by have := loL_mem h0 h1 hs; have := (loL_good xs p).1 s hs; omega⟩
/-- The last one of a list ends above all its places. -/
theorem good_last {r : List Sp} {s : Sp} (h : sGood (r ++ [s])) {t : Sp} (ht : t ∈ r ++ [s]) : t.1 + t.2 ≤ s.1 + s.2 := by
  have hs := h.1 s (by simp)
  rcases List.mem_append.1 ht with ht | ht
  · have := (List.pairwise_append.1 h.2).2.2 t ht s (by simp)
    omega
  · simp at ht; subst ht; exact Int.le_refl _
theorem good_first {r : List Sp} {s : Sp} (h : sGood (s :: r)) {t : Sp} (ht : t ∈ s :: r) : s.1 ≤ t.1 := by
  have hs := h.1 s (List.mem_cons_self ..)
  rcases List.mem_cons.1 ht with rfl | ht
  · exact Int.le_refl _
  · have := (List.pairwise_cons.1 h.2).1 t ht
    omega
theorem hi_full {xs : List Sp} (hx : sGood xs) {p n : Int} (h0 : 0 ≤ p) (h1 : p ≤ 20000) (hn : 0 ≤ n) {r : List Sp} {s : Sp} (he : hiL xs p = r ++ [s]) : fullB (sMark xs) p.toNat n.toNat = decide (20000 - (s.1 + s.2) < n) := by
  have hg := hiL_good xs p
  have hm := fun i => hiL_mark hx h0 h1 i
  rw [he] at hg hm
  have hs := hg.1 s (by simp)
  by_cases g : 20000 - (s.1 + s.2) < n
  · rw [decide_eq_true g, fullB_iff]
    have q := (good_mem hg (show s ∈ r ++ [s] by simp)).2
    rw [hm, Bool.and_eq_true, decide_eq_true_eq] at q
    exact ⟨(s.1 + s.2 - 1).toNat, by omega, by omega, q.1, by omega⟩
  · rw [decide_eq_false g]
    cases hz : fullB (sMark xs) p.toNat n.toNat with
    | false => rfl
    | true =>
      obtain ⟨i, q1, q2, q3, q4⟩ := (fullB_iff _ _ _).1 hz
      have q := hm i
      rw [q3, decide_eq_true (show p ≤ (i : Int) by omega)] at q
      obtain ⟨t, ht, t1, t2⟩ := (sMark_iff _ _).1 q
      have := good_last hg ht
      omega
theorem hi_none_full {xs : List Sp} (hx : sGood xs) {p n : Int} (h0 : 0 ≤ p) (h1 : p ≤ 20000) (he : hiL xs p = []) : fullB (sMark xs) p.toNat n.toNat = false := by
  cases hz : fullB (sMark xs) p.toNat n.toNat with
  | false => rfl
  | true =>
    obtain ⟨i, q1, q2, q3, q4⟩ := (fullB_iff _ _ _).1 hz
    have q := hiL_mark hx h0 h1 i
    rw [q3, decide_eq_true (show p ≤ (i : Int) by omega), he] at q
    cases q
theorem hi_holds {xs : List Sp} (hx : sGood xs) {p n : Int} (h0 : 0 ≤ p) (h1 : p ≤ 20000) (hn : 0 ≤ n) {r : List Sp} {s : Sp} (he : hiL xs p = s :: r) : holdsB (sMark xs) p.toNat n.toNat = decide (s.1 - p < n) := by
  have hg := hiL_good xs p
  have hm := fun i => hiL_mark hx h0 h1 i
  have hp := hiL_mem hx h0 h1 (s := s) (by rw [he]; exact List.mem_cons_self ..)
  rw [he] at hg hm
  have hs := hg.1 s (List.mem_cons_self ..)
  by_cases g : s.1 - p < n
  · rw [decide_eq_true g, holdsB_iff]
    have q := (good_mem hg (show s ∈ s :: r from List.mem_cons_self ..)).1
    rw [hm, Bool.and_eq_true, decide_eq_true_eq] at q
    exact ⟨s.1.toNat, by omega, by omega, q.1, by omega⟩
  · rw [decide_eq_false g]
    cases hz : holdsB (sMark xs) p.toNat n.toNat with
    | false => rfl
    | true =>
      obtain ⟨i, q1, q2, q3, q4⟩ := (holdsB_iff _ _ _).1 hz
      have q := hm i
      rw [q3, decide_eq_true (show p ≤ (i : Int) by omega)] at q
      obtain ⟨t, ht, t1, t2⟩ := (sMark_iff _ _).1 q
      have := good_first hg ht
      omega
theorem hi_none_holds {xs : List Sp} (hx : sGood xs) {p n : Int} (h0 : 0 ≤ p) (h1 : p ≤ 20000) (he : hiL xs p = []) : holdsB (sMark xs) p.toNat n.toNat = false := by
  cases hz : holdsB (sMark xs) p.toNat n.toNat with
  | false => rfl
  | true =>
    obtain ⟨i, q1, q2, q3, q4⟩ := (holdsB_iff _ _ _).1 hz
    have q := hiL_mark hx h0 h1 i
    rw [q3, decide_eq_true (show p ≤ (i : Int) by omega), he] at q
    cases q
theorem hi_has {xs : List Sp} (hx : sGood xs) {p : Int} (h0 : 0 ≤ p) (h1 : p ≤ 20000) (i : Int) : hasI (hiL xs p) i = (decide (0 ≤ i) && sMark xs i.toNat && decide (p ≤ i)) := by
  by_cases g : 0 ≤ i
  · obtain ⟨k, rfl⟩ := Int.eq_ofNat_of_zero_le g
    rw [hasI_nat, hiL_mark hx h0 h1, decide_eq_true g, Bool.true_and]
    rfl
  · rw [hasI_neg (hiL_good xs p) (by omega), decide_eq_false g]
    rfl
theorem open_lay {xs : List Sp} (hx : sGood xs) {p n : Int} (h0 : 0 ≤ p) (h1 : p ≤ 20000) (hn : 0 ≤ n) (hb : ∀ s ∈ hiL xs p, s.1 + s.2 + n ≤ 20000) : layL (loL xs p) (hiL xs p) n = opL xs p n := by
  obtain ⟨q1, q2⟩ := layL_ok n (hiL xs p) (loL xs p) p (lo_put h0 h1) (fun s hs => by have := hiL_mem hx h0 h1 hs; have := hb s hs; have := (hiL_good xs p).1 s hs; omega) (good_up (hiL_good xs p))
  rw [← sMade_self q1]
  unfold opL
  refine sMade_congr fun i hi => ?_
  rw [q2, loL_mark xs h0 h1, hi_has hx h0 h1]
  unfold sOpenM
  by_cases e1 : i < p.toNat
  · rw [if_pos e1, decide_eq_true (show (i : Int) < p by omega), decide_eq_false (show ¬ p ≤ (i : Int) - n by omega), Bool.and_true, Bool.and_false, Bool.or_false]
  · rw [if_neg e1, decide_eq_false (show ¬ (i : Int) < p by omega), Bool.and_false, Bool.false_or]
    by_cases e2 : i < p.toNat + n.toNat
    · rw [if_pos e2, decide_eq_false (show ¬ p ≤ (i : Int) - n by omega), Bool.and_false]
    · rw [if_neg e2, decide_eq_true (show p ≤ (i : Int) - n by omega), decide_eq_true (show 0 ≤ (i : Int) - n by omega), Bool.true_and, Bool.and_true]
      congr 1
      omega
theorem shut_lay {xs : List Sp} (hx : sGood xs) {p n : Int} (h0 : 0 ≤ p) (h1 : p ≤ 20000) (hn : 0 ≤ n) (hb : ∀ s ∈ hiL xs p, p + n ≤ s.1) (hz : holdsB (sMark xs) p.toNat n.toNat = false) : layL (loL xs p) (hiL xs p) (-n) = shL xs p n := by
  obtain ⟨q1, q2⟩ := layL_ok (-n) (hiL xs p) (loL xs p) p (lo_put h0 h1) (fun s hs => by have := hb s hs; have := (hiL_good xs p).1 s hs; omega) (good_up (hiL_good xs p))
  rw [← sMade_self q1]
  unfold shL
  refine sMade_congr fun i hi => ?_
  rw [q2, loL_mark xs h0 h1, hi_has hx h0 h1]
  unfold sShutM
  have e0 : ((i : Int) - -n).toNat = i + n.toNat := by omega
  rw [e0, decide_eq_true (show 0 ≤ (i : Int) - -n by omega), Bool.true_and]
  by_cases e1 : i < p.toNat
  · rw [if_pos e1, decide_eq_true (show (i : Int) < p by omega), Bool.and_true]
    by_cases e2 : p ≤ (i : Int) - -n
    · have : sMark xs (i + n.toNat) = false := by
        cases hm : sMark xs (i + n.toNat) with
        | false => rfl
        | true =>
          have hlow : i + n.toNat < 20000 := by
            rcases Nat.lt_or_ge (i + n.toNat) 20000 with g | g
            · exact g
            · rw [sMark_beyond hx g] at hm
              cases hm
          have := (holdsB_iff (sMark xs) p.toNat n.toNat).2 ⟨i + n.toNat, by omega, hlow, hm, by omega⟩
          rw [this] at hz
          cases hz
      rw [this, Bool.false_and, Bool.or_false]
    · rw [decide_eq_false e2, Bool.and_false, Bool.or_false]
  · rw [if_neg e1, decide_eq_false (show ¬ (i : Int) < p by omega), Bool.and_false, Bool.false_or, decide_eq_true (show p ≤ (i : Int) - -n by omega), Bool.and_true]
    by_cases g : i + n.toNat < 20000
    · rw [decide_eq_true g, Bool.true_and]
    · rw [decide_eq_false g, Bool.false_and, sMark_beyond hx (by omega)]
end Go.Proofs.Ytlofeaodpblagaa
