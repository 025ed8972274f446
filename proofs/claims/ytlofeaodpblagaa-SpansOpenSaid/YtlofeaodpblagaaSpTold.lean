/- spans.Any, Both, Less. -/
import Derived.Test.YtlofeaodpblagaaSpWalk
namespace Go.Proofs.Ytlofeaodpblagaa
open Go.RowKit

/-- A list that is made in a row of the call's own, or an error. -/
def OwnErrPost (b : Bool) (l : List Sp) (w : World) (e : Ending) (w' : World) : Prop :=
  ∃ v, e = .returned (.tuple #[v, .int .i64 (if b then 0 else 1)]) ∧ w'.ownsRow w.heap.size 42 2 v (if b then l else []).length (spCells (if b then l else [])) ∧ Below w.heap.size w w'
theorem OwnErrPost.no {b : Bool} {l : List Sp} {w w' : World} (h : b = false) (hb : Below w.heap.size w w') : OwnErrPost b l w (.returned (.tuple #[.slice none 0 0, .int .i64 1])) w' :=
  ⟨_, by rw [h]; rfl, by rw [h]; exact World.ownsRow_nil _ _ _ _, hb⟩
theorem OwnErrPost.yes {b : Bool} {l : List Sp} {w w' : World} {v : Value} (h : b = true) (ho : w'.ownsRow w.heap.size 42 2 v l.length (spCells l)) (hb : Below w.heap.size w w') : OwnErrPost b l w (.returned (.tuple #[v, .int .i64 0])) w' :=
  ⟨_, by rw [h]; rfl, by rw [h]; exact ho, hb⟩
set_option maxRecDepth 100000 in
set_option maxHeartbeats 4000000 in
theorem spTold_any (f : Bool → Bool → Bool) (g : FuncId) (hg : g = 40 ∨ g = 41 ∨ g = 42) (hW : ∀ x y w, Calls Try.prog g #[.bool x, .bool y] w fun e w' => e = .returned (.bool (f x y)) ∧ w = w') (h0 : f false false = false)
    (u v : Value) (xs ys : List Sp) (w : World) (h : SpAt w u xs) (h' : SpAt w v ys) (hx : xs.length ≤ 1000000) (hy : ys.length ≤ 1000000) (wx : sWf xs) (wy : sWf ys) :
    Calls Try.prog 39 #[u, v, .func (.func g) #[] #[]] w (OwnErrPost (sMay xs && sMay ys) (sMade (fun j => f (sMark xs j) (sMark ys j)) 20000) w) := by
  have m1 := spMay_any u xs w h (by omega) wx
  have m2 := fun W (q : SpAt W v ys) => spMay_any v ys W q (by omega) wy
  have m3 := fun W (q : SpAt W u xs) (q' : SpAt W v ys) (gx : sGood xs) (gy : sGood ys) => spWalk_any f g hg hW h0 u v xs ys W q q' hx hy gx gy
  have H := Lib.hid h
  have H' := Lib.hid h'
  obtain ⟨_, _, rfl, _⟩ := id h
  obtain ⟨_, _, rfl, _⟩ := id h'
  obtain ⟨b, hb⟩ : ∃ b, (sMay xs && sMay ys) = b := ⟨_, rfl⟩
  rw [hb]
  clear h h' hW h0 hx hy wx wy
  cases hmx : sMay xs with
  | false =>
    have hbf : b = false := by rw [← hb, hmx]; rfl
    have HB := Lib.hid hbf
    rw [hmx] at m1
    clear hb hbf hmx m2 m3 hg
    go_enter Try.func39, Try.ntmps39
    go_wp2_with fail
    refine m1.mono ?_
    rintro e w1 ⟨rfl, hb1⟩
    go_wp2
    go_ret2
    exact OwnErrPost.no HB.out hb1
  | true =>
    rw [hmx] at m1
    cases hmy : sMay ys with
    | false =>
      have hbf : b = false := by rw [← hb, hmx, hmy]; rfl
      have HB := Lib.hid hbf
      rw [hmy] at m2
      clear hb hbf hmx hmy m3 hg
      go_enter Try.func39, Try.ntmps39
      go_wp2_with fail
      refine m1.mono ?_
      clear m1
      rintro e w1 ⟨rfl, hb1⟩
      have m2 := m2 w1 (H'.out.below hb1)
      go_wp2_with fail
      refine m2.mono ?_
      rintro e w2 ⟨rfl, hb2⟩
      have hB := hb1.trans (hb2.mono hb1.size)
      go_wp2
      go_ret2
      exact OwnErrPost.no HB.out hB
    | true =>
      have hbf : b = true := by rw [← hb, hmx, hmy]; rfl
      have HB := Lib.hid hbf
      have m3 := fun W q q' => m3 W q q' ((sMay_good xs).1 hmx) ((sMay_good ys).1 hmy)
      rw [hmy] at m2
      clear hb hbf hmx hmy hg
      go_enter Try.func39, Try.ntmps39
      go_wp2_with fail
      refine m1.mono ?_
      clear m1
      rintro e w1 ⟨rfl, hb1⟩
      have m2 := m2 w1 (H'.out.below hb1)
      go_wp2_with fail
      refine m2.mono ?_
      clear m2
      rintro e w2 ⟨rfl, hb2⟩
      have hB := hb1.trans (hb2.mono hb1.size)
      have m3 := m3 w2 (H.out.below hB) (H'.out.below hB)
      go_wp2_with fail
      refine m3.mono ?_
      clear m3
      rintro e w3 ⟨v3, rfl, ho3, hb3⟩
      have HO := Lib.hid (ownsRow_low ho3 hB.size)
      have HB3 := Lib.hid (hB.trans (hb3.mono hB.size))
      clear ho3 hb3
      go_wp2
      go_ret2
      exact OwnErrPost.yes HB.out HO.out HB3.out
set_option maxRecDepth 100000 in
set_option maxHeartbeats 4000000 in
theorem spAny_own (u v : Value) (xs ys : List Sp) (w : World) (h : SpAt w u xs) (h' : SpAt w v ys) (hx : xs.length ≤ 1000000) (hy : ys.length ≤ 1000000) (wx : sWf xs) (wy : sWf ys) :
    Calls Try.prog 24 #[u, v] w (OwnErrPost (sMay xs && sMay ys) (twoL 0 xs ys) w) := by
  have hT := spTold_any (twoB 0) 40 (.inl rfl) want0_any rfl u v xs ys w h h' hx hy wx wy
  rw [show sMade (fun j => twoB 0 (sMark xs j) (sMark ys j)) 20000 = twoL 0 xs ys from rfl] at hT
  obtain ⟨_, _, rfl, _⟩ := id h
  obtain ⟨_, _, rfl, _⟩ := id h'
  obtain ⟨b, hb⟩ : ∃ b, (sMay xs && sMay ys) = b := ⟨_, rfl⟩
  obtain ⟨l, hl⟩ : ∃ l, twoL 0 xs ys = l := ⟨_, rfl⟩
  rw [hb, hl] at hT ⊢
  clear hb hl h h' hx hy wx wy
  go_enter Try.func24, Try.ntmps24
  go_wp2_with fail
  refine hT.mono ?_
  clear hT
  rintro e w1 ⟨v1, rfl, ho, hb1⟩
  have HO := Lib.hid ho
  obtain ⟨c, hc⟩ : ∃ c : Int, (if b = true then 0 else 1) = c := ⟨_, rfl⟩
  rw [hc]
  have HC := Lib.hid hc
  clear ho hc
  go_wp2
  go_ret2
  exact ⟨v1, by rw [HC.out]; rfl, HO.out, hb1⟩
set_option maxRecDepth 100000 in
set_option maxHeartbeats 4000000 in
theorem spBoth_own (u v : Value) (xs ys : List Sp) (w : World) (h : SpAt w u xs) (h' : SpAt w v ys) (hx : xs.length ≤ 1000000) (hy : ys.length ≤ 1000000) (wx : sWf xs) (wy : sWf ys) :
    Calls Try.prog 25 #[u, v] w (OwnErrPost (sMay xs && sMay ys) (twoL 1 xs ys) w) := by
  have hT := spTold_any (twoB 1) 41 (.inr (.inl rfl)) want1_any rfl u v xs ys w h h' hx hy wx wy
  rw [show sMade (fun j => twoB 1 (sMark xs j) (sMark ys j)) 20000 = twoL 1 xs ys from rfl] at hT
  obtain ⟨_, _, rfl, _⟩ := id h
  obtain ⟨_, _, rfl, _⟩ := id h'
  obtain ⟨b, hb⟩ : ∃ b, (sMay xs && sMay ys) = b := ⟨_, rfl⟩
  obtain ⟨l, hl⟩ : ∃ l, twoL 1 xs ys = l := ⟨_, rfl⟩
  rw [hb, hl] at hT ⊢
  clear hb hl h h' hx hy wx wy
  go_enter Try.func25, Try.ntmps25
  go_wp2_with fail
  refine hT.mono ?_
  clear hT
  rintro e w1 ⟨v1, rfl, ho, hb1⟩
  have HO := Lib.hid ho
  obtain ⟨c, hc⟩ : ∃ c : Int, (if b = true then 0 else 1) = c := ⟨_, rfl⟩
  rw [hc]
  have HC := Lib.hid hc
  clear ho hc
  go_wp2
  go_ret2
  exact ⟨v1, by rw [HC.out]; rfl, HO.out, hb1⟩
set_option maxRecDepth 100000 in
set_option maxHeartbeats 4000000 in
theorem spLess_own (u v : Value) (xs ys : List Sp) (w : World) (h : SpAt w u xs) (h' : SpAt w v ys) (hx : xs.length ≤ 1000000) (hy : ys.length ≤ 1000000) (wx : sWf xs) (wy : sWf ys) :
    Calls Try.prog 26 #[u, v] w (OwnErrPost (sMay xs && sMay ys) (twoL 2 xs ys) w) := by
  have hT := spTold_any (twoB 2) 42 (.inr (.inr rfl)) want2_any rfl u v xs ys w h h' hx hy wx wy
  rw [show sMade (fun j => twoB 2 (sMark xs j) (sMark ys j)) 20000 = twoL 2 xs ys from rfl] at hT
  obtain ⟨_, _, rfl, _⟩ := id h
  obtain ⟨_, _, rfl, _⟩ := id h'
  obtain ⟨b, hb⟩ : ∃ b, (sMay xs && sMay ys) = b := ⟨_, rfl⟩
  obtain ⟨l, hl⟩ : ∃ l, twoL 2 xs ys = l := ⟨_, rfl⟩
  rw [hb, hl] at hT ⊢
  clear hb hl h h' hx hy wx wy
  go_enter Try.func26, Try.ntmps26
  go_wp2_with fail
  refine hT.mono ?_
  clear hT
  rintro e w1 ⟨v1, rfl, ho, hb1⟩
  have HO := Lib.hid ho
  obtain ⟨c, hc⟩ : ∃ c : Int, (if b = true then 0 else 1) = c := ⟨_, rfl⟩
  rw [hc]
  have HC := Lib.hid hc
  clear ho hc
  go_wp2
  go_ret2
  exact ⟨v1, by rw [HC.out]; rfl, HO.out, hb1⟩
end Go.Proofs.Ytlofeaodpblagaa
