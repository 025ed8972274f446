/- spans.walk: what is told of two lists, edge by edge; Any, Both, Less. -/
import Derived.Test.YtlofeaodpblagaaSpBegin
namespace Go.Proofs.Ytlofeaodpblagaa
open Go.RowKit

theorem want0_any (x y : Bool) (w : World) : Calls Try.prog 40 #[.bool x, .bool y] w fun e w' => e = .returned (.bool (twoB 0 x y)) ∧ w = w' := by
  cases x <;> cases y
  all_goals
    go_enter Try.func40, Try.ntmps40
    go_wp2
    go_ret
    exact ⟨rfl, rfl⟩
theorem want1_any (x y : Bool) (w : World) : Calls Try.prog 41 #[.bool x, .bool y] w fun e w' => e = .returned (.bool (twoB 1 x y)) ∧ w = w' := by
  cases x <;> cases y
  all_goals
    go_enter Try.func41, Try.ntmps41
    go_wp2
    go_ret
    exact ⟨rfl, rfl⟩
theorem want2_any (x y : Bool) (w : World) : Calls Try.prog 42 #[.bool x, .bool y] w fun e w' => e = .returned (.bool (twoB 2 x y)) ∧ w = w' := by
  cases x <;> cases y
  all_goals
    go_enter Try.func42, Try.ntmps42
    go_wp2
    go_ret
    exact ⟨rfl, rfl⟩
/-- A list that is made in a row of the call's own. -/
def OwnPost (l : List Sp) (w : World) (e : Ending) (w' : World) : Prop := ∃ v, e = .returned v ∧ w'.ownsRow w.heap.size 42 2 v l.length (spCells l) ∧ Below w.heap.size w w'
theorem ownsRow_low {W : World} {M N : Nat} {t : TypeId} {size : Nat} {v : Value} {k : Nat} {xs : List Value} (h : W.ownsRow M t size v k xs) (hN : N ≤ M) : W.ownsRow N t size v k xs := by
  refine ⟨h.1, ?_⟩
  rcases h.2 with q | ⟨g, cap, cur, q1, q2, q3⟩
  · exact .inl q
  · exact .inr ⟨g, cap, cur, q1, by omega, q3⟩
theorem own_keep {W W' : World} {B M : Nat} {v : Value} {k : Nat} {xs : List Value} (h : W.ownsRow M 42 2 v k xs) (hk : Keep (fun q => q = B) W.heap.size W W') (hB : B < M) : W'.ownsRow M 42 2 v k xs := by
  refine ⟨h.1, ?_⟩
  rcases h.2 with q | ⟨g, cap, cur, q1, q2, q3, q4⟩
  · exact .inl q
  · exact .inr ⟨g, cap, cur, q1, q2, (hk.block g (Array.getElem?_eq_some_iff.1 q3).1 (by omega)).trans q3, q4⟩
/-- How many edges a side has ahead. -/
def sdLen (W : World) (B : Nat) : Nat := match W.cell? ⟨B, 0, none⟩ with
  | some (.slice _ n _) => n
  | _ => 0
theorem sdLen_eq {W X : World} {B : Nat} {v : Value} {i : Bool} {L : List Edge} (h : SdBox W B v i) (he : EdAt X v L) : sdLen W B = L.length := by
  obtain ⟨ao, cap, rfl, _⟩ := he
  unfold sdLen
  rw [h.c0]
/-- How far a walk has come. -/
def WalkI (f : Bool → Bool → Bool) (xs ys : List Sp) (wM : World) (B C : Nat) (lv fv : Value) (W : World) : Prop :=
  ∃ (ra rb : List Edge) (k : Int) (l : List Sp) (va vb : Value) (ia ib : Bool), fv = .int .i64 k ∧ WalkOK f (hasI xs) (hasI ys) ra ia rb ib k l ∧ W.ownsRow wM.heap.size 42 2 lv l.length (spCells l) ∧
    SdBox W B va ia ∧ SdBox W C vb ib ∧ EdAt wM va ra ∧ EdAt wM vb rb ∧ Keep (fun q => q = B ∨ q = C) wM.heap.size wM W ∧ l.length + (ra.length + rb.length) ≤ 4000000
theorem EdAt.kept {wM W : World} {B C : Nat} {v : Value} {L : List Edge} {va vb : Value} {ia ib : Bool} (h : EdAt wM v L) (hk : Keep (fun q => q = B ∨ q = C) wM.heap.size wM W) (hB : SdBox wM B va ia) (hC : SdBox wM C vb ib) : EdAt W v L :=
  h.turn fun b cur fr hrow => hk.block b (Array.getElem?_eq_some_iff.1 hrow).1 (by
    rintro (e | e)
    · subst e
      rw [show wM.heap[b]? = _ from hB] at hrow
      cases hrow
    · subst e
      rw [show wM.heap[b]? = _ from hC] at hrow
      cases hrow)
set_option maxRecDepth 100000 in
set_option maxHeartbeats 4000000 in
theorem spWalk_any (f : Bool → Bool → Bool) (g : FuncId) (hg : g = 40 ∨ g = 41 ∨ g = 42) (hW : ∀ x y w, Calls Try.prog g #[.bool x, .bool y] w fun e w' => e = .returned (.bool (f x y)) ∧ w = w') (h0 : f false false = false)
    (u v : Value) (xs ys : List Sp) (w : World) (h : SpAt w u xs) (h' : SpAt w v ys) (hx : xs.length ≤ 1000000) (hy : ys.length ≤ 1000000) (gx : sGood xs) (gy : sGood ys) :
    Calls Try.prog 48 #[u, v, .func (.func g) #[] #[]] w (OwnPost (sMade (fun j => f (sMark xs j) (sMark ys j)) 20000) w) := by
  have bA := spBegin_any u xs w h (by omega)
  have bB := fun W (hW : SpAt W v ys) => spBegin_any v ys W hW (by omega)
  have H' := Lib.hid h'
  have La := Lib.hid (edL_length xs)
  have Lb := Lib.hid (edL_length ys)
  have HX := Lib.hid hx
  have HY := Lib.hid hy
  clear hx hy h h'
  rcases hg with rfl | rfl | rfl
  all_goals
    go_enter Try.func48, Try.ntmps48
    go_wp2_with fail
    refine bA.mono ?_
    clear bA
    rintro e w1 ⟨sa, rfl, ea, hb1⟩
    have bB := bB w1 (H'.out.below hb1)
    go_wp2_with fail
    refine bB.mono ?_
    clear bB
    rintro e w2 ⟨sb, rfl, eb, hb2⟩
    have hB2 : Below w.heap.size w w2 := hb1.trans (hb2.mono hb1.size)
    have ea2 := ea.below hb2
    obtain ⟨aa, ca, rfl, _⟩ := id ea
    obtain ⟨ab, cb, rfl, _⟩ := id eb
    go_wp2_with fail
    have s1 : SdBox (w2.alloc (.cells #[.slice aa (edL xs).length ca, .bool false] 81)) w2.heap.size (.slice aa (edL xs).length ca) false := World.alloc_heap_new w2 _
    have s2 : SdBox ((w2.alloc (.cells #[.slice aa (edL xs).length ca, .bool false] 81)).alloc (.cells #[.slice ab (edL ys).length cb, .bool false] 81)) (w2.heap.size + 1) (.slice ab (edL ys).length cb) false := by
      have := World.alloc_heap_new (w2.alloc (.cells #[.slice aa (edL xs).length ca, .bool false] 81)) (.cells #[.slice ab (edL ys).length cb, .bool false] 81)
      rw [World.size_alloc] at this
      exact this
    have hbz := ((Below.refl w2.heap.size w2).alloc (Nat.le_refl _) (.cells #[.slice aa (edL xs).length ca, .bool false] 81)).alloc (by simp) (.cells #[.slice ab (edL ys).length cb, .bool false] 81)
    have s1' : SdBox ((w2.alloc (.cells #[.slice aa (edL xs).length ca, .bool false] 81)).alloc (.cells #[.slice ab (edL ys).length cb, .bool false] 81)) w2.heap.size (.slice aa (edL xs).length ca) false := (Below.heap_alloc _ _ _ (by simp)).trans s1
    have szM : ((w2.alloc (.cells #[.slice aa (edL xs).length ca, .bool false] 81)).alloc (.cells #[.slice ab (edL ys).length cb, .bool false] 81)).heap.size = w2.heap.size + 2 := by simp
    obtain ⟨wM, hwM⟩ : ∃ X, (w2.alloc (.cells #[.slice aa (edL xs).length ca, .bool false] 81)).alloc (.cells #[.slice ab (edL ys).length cb, .bool false] 81) = X := ⟨_, rfl⟩
    rw [hwM] at s1' s2 hbz szM ⊢
    have ea3 := ea2.below hbz
    have eb3 := eb.below hbz
    have hBM : Below w.heap.size w wM := hB2.trans (hbz.mono hB2.size)
    have hsz2 := hB2.size
    have hI0 : WalkI (f) xs ys wM w2.heap.size (w2.heap.size + 1) (.slice none 0 0) (.int .i64 0) wM :=
      ⟨_, _, 0, [], _, _, false, false, rfl, WalkOK.start gx gy, World.ownsRow_nil _ _ _ _, s1', s2, ea3, eb3, Keep.refl _ _ _, by rw [La.out, Lb.out]; have := HX.out; have := HY.out; simp; omega⟩
    have S1 := Lib.hid s1'
    have S2 := Lib.hid s2
    have H0 := Lib.hid h0
    have HBM := Lib.hid hBM
    have HWM := Lib.hid hwM
    clear hwM s1' s2 s1 hbz bB ea ea2 eb ea3 eb3 h0 hb1 hb2 hB2 hBM
    go_loopw [7, 10] (fun lv fv wr => WalkI (f) xs ys wM w2.heap.size (w2.heap.size + 1) lv fv wr) (fun _ _ wr => sdLen wr w2.heap.size + sdLen wr (w2.heap.size + 1))
    case atStart => exact hI0
    case round =>
      clear hI0
      obtain ⟨ra, rb, k, l, va, vb, ia, ib, rfl, hw, hown, hB, hC, hea, heb, hk, hlen⟩ := hrel
      have hea2 := hea.kept hk S1.out S2.out
      have heb2 := heb.kept hk S1.out S2.out
      have qa := sdLen_eq hB hea
      have qb := sdLen_eq hC heb
      rw [qa, qb]
      have n1 := sdNext_any _ _ _ _ _ hB hea2
      have n2 := sdNext_any _ _ _ _ _ hC heb2
      obtain ⟨a1, c1, hva, _⟩ := id hea
      obtain ⟨a2, c2, hvb, _⟩ := id heb
      subst hva
      subst hvb
      have d0 := hB.c0
      have d1 := hB.c1
      have g0 := hC.c0
      have g1 := hC.c1
      have hwl : IntKind.i64.wrap ((ra.length : Int) + (rb.length : Int)) = (ra.length : Int) + (rb.length : Int) := by simp only [IntKind.wrap_i64]; omega
      by_cases hn : ra = [] ∧ rb = []
      · obtain ⟨rfl, rfl⟩ := hn
        have hd := WalkOK.done H0.out gx gy hw
        have hO : OwnPost (sMade (fun j => f (sMark xs j) (sMark ys j)) 20000) w (.returned _) _ := ⟨_, rfl, hd ▸ ownsRow_low hown HBM.out.size, HBM.out.trans (hk.below HBM.out.size (by rintro q (e | e) <;> omega))⟩
        have HO := Lib.hid hO
        clear hO hown hw hk hd n1 n2
        go_wp2
        go_ret
        exact HO.out
      · obtain ⟨p, hp⟩ : ∃ p, p = min (edNext ra) (edNext rb) := ⟨_, rfl⟩
        obtain ⟨hkp, hp2, hst, hmeas⟩ := hw.step hn p hp
        have hk0 := hw.low
        have hk1 := hw.high
        have hgood := hw.put.good
        have hgt : (0 : Int) < (ra.length : Int) + (rb.length : Int) := by
          rcases Nat.eq_zero_or_pos (ra.length + rb.length) with q | q
          · exact absurd ⟨List.eq_nil_of_length_eq_zero (by omega), List.eq_nil_of_length_eq_zero (by omega)⟩ hn
          · omega
        have Hst := Lib.hid hst
        have Hmeas := Lib.hid hmeas
        have Hlen := Lib.hid hlen
        have la := edRest_length p ra
        have lb := edRest_length p rb
        have Hla := Lib.hid la.1
        have Hlb := Lib.hid lb.1
        have Hk := Lib.hid hk
        have HB := Lib.hid hB
        have HC := Lib.hid hC
        have Hea := Lib.hid hea
        have Heb := Lib.hid heb
        have Hown := Lib.hid hown
        obtain ⟨na, hna⟩ : ∃ na, edNext ra = na := ⟨_, rfl⟩
        obtain ⟨nb, hnb⟩ : ∃ nb, edNext rb = nb := ⟨_, rfl⟩
        rw [hna] at n1 hp
        rw [hnb] at n2 hp
        have hmin : (nb < na ∧ p = nb) ∨ (¬ nb < na ∧ p = na) := by omega
        have hWt := hW ia ib
        have hput := put_any wM.heap.size _ l k p wr (by have := Hk.out.size; omega) hown (by have := Hlen.out; omega) (fun s hs => by have := hgood.1 s hs; omega) (by omega) (by omega)
        have Hkp := Lib.hid (show p ≤ 20000 from hp2)
        clear hst hmeas hlen la lb hk hB hC hea heb hown hp hna hnb hkp hp2 hk0 hk1 hgood hw hea2 heb2 hn qa qb
        go_wp2_with fail
        refine n1.mono ?_
        clear n1
        rintro e _ ⟨rfl, rfl⟩
        go_wp2_with fail
        refine n2.mono ?_
        clear n2
        rintro e _ ⟨rfl, rfl⟩
        rcases hmin with ⟨hlt, hpe⟩ | ⟨hlt, hpe⟩
        all_goals
         subst hpe
         go_wp2_with fail
         refine (hWt _).mono ?_
         clear hWt
         rintro e _ ⟨rfl, rfl⟩
         cases hf : f ia ib with
         | true =>
           have HS := Hst.out
           rw [hf, if_pos rfl] at HS
           have HS := Lib.hid HS
           clear hf Hst
           go_wp2_with fail
           refine hput.mono ?_
           clear hput
           rintro e w5 ⟨v5, rfl, hown5, hb5, _⟩
           have k5 : Keep (fun q => q = w2.heap.size ∨ q = w2.heap.size + 1) wM.heap.size wM w5 := Hk.out.trans (Keep.of_below hb5 (Nat.le_refl _))
           have B5 : SdBox w5 w2.heap.size _ ia := (hb5.block _ (by omega)).trans HB.out
           have C5 : SdBox w5 (w2.heap.size + 1) _ ib := (hb5.block _ (by omega)).trans HC.out
           have hl5 := putL_length l k p
           have p1 := sdPass_any _ _ _ _ p w5 B5 (Hea.out.kept k5 S1.out S2.out) Hkp.out
           have Hl5 := Lib.hid hl5
           have Ho5 := Lib.hid hown5
           have HC5 := Lib.hid C5
           have Hk5 := Lib.hid k5
           clear hl5 hown5 C5 B5 k5 hb5
           go_wp2_with fail
           refine p1.mono ?_
           clear p1
           rintro e w6 ⟨v6, rfl, B6, E6, K6⟩
           have C6 : SdBox w6 (w2.heap.size + 1) _ ib := (K6.block _ HC5.out.lt (by omega)).trans HC5.out
           have k6 : Keep (fun q => q = w2.heap.size ∨ q = w2.heap.size + 1) wM.heap.size wM w6 := Hk5.out.trans (K6.weak Hk5.out.size (fun q _ e => .inl e))
           have p2 := sdPass_any _ _ _ _ p w6 C6 (Heb.out.kept k6 S1.out S2.out) Hkp.out
           have o6 : w6.ownsRow wM.heap.size 42 2 v5 _ _ := own_keep Ho5.out K6 (by omega)
           have Ho6 := Lib.hid o6
           have HB6 := Lib.hid B6
           have HE6 := Lib.hid (E6 _ Hea.out)
           have Hk6 := Lib.hid k6
           clear B6 E6 K6 C6 k6 o6
           go_wp2_with fail
           refine p2.mono ?_
           clear p2
           rintro e w7 ⟨v7, rfl, C7, E7, K7⟩
           have B7 : SdBox w7 w2.heap.size _ _ := (K7.block _ HB6.out.lt (by omega)).trans HB6.out
           have k7 : Keep (fun q => q = w2.heap.size ∨ q = w2.heap.size + 1) wM.heap.size wM w7 := Hk6.out.trans (K7.weak Hk6.out.size (fun q _ e => .inr e))
           have o7 : w7.ownsRow wM.heap.size 42 2 v5 _ _ := own_keep Ho6.out K7 (by omega)
           have HI : WalkI f xs ys wM w2.heap.size (w2.heap.size + 1) v5 (.int .i64 p) w7 := ⟨_, _, p, _, _, _, _, _, rfl, HS.out, o7, B7, C7, HE6.out, E7 _ Heb.out, k7, by have := Hlen.out; have := Hl5.out; have := Hmeas.out; omega⟩
           have HM : sdLen w7 w2.heap.size + sdLen w7 (w2.heap.size + 1) < ra.length + rb.length := by rw [sdLen_eq B7 HE6.out, sdLen_eq C7 (E7 _ Heb.out)]; exact Hmeas.out
           have HI := Lib.hid HI
           have HM := Lib.hid HM
           clear B7 C7 E7 K7 k7 o7
           go_wp2
           exact ⟨HI.out, HM.out⟩
         | false =>
           have HS := Hst.out
           rw [hf, if_neg (by simp)] at HS
           have HS := Lib.hid HS
           clear hf Hst hput
           have p1 := sdPass_any _ _ _ _ p wr HB.out (Hea.out.kept Hk.out S1.out S2.out) Hkp.out
           go_wp2_with fail
           refine p1.mono ?_
           clear p1
           rintro e w6 ⟨v6, rfl, B6, E6, K6⟩
           have C6 : SdBox w6 (w2.heap.size + 1) _ ib := (K6.block _ HC.out.lt (by omega)).trans HC.out
           have k6 : Keep (fun q => q = w2.heap.size ∨ q = w2.heap.size + 1) wM.heap.size wM w6 := Hk.out.trans (K6.weak Hk.out.size (fun q _ e => .inl e))
           have p2 := sdPass_any _ _ _ _ p w6 C6 (Heb.out.kept k6 S1.out S2.out) Hkp.out
           have o6 : w6.ownsRow wM.heap.size 42 2 _ _ _ := own_keep Hown.out K6 (by omega)
           have Ho6 := Lib.hid o6
           have HB6 := Lib.hid B6
           have HE6 := Lib.hid (E6 _ Hea.out)
           have Hk6 := Lib.hid k6
           clear B6 E6 K6 C6 k6 o6
           go_wp2_with fail
           refine p2.mono ?_
           clear p2
           rintro e w7 ⟨v7, rfl, C7, E7, K7⟩
           have B7 : SdBox w7 w2.heap.size _ _ := (K7.block _ HB6.out.lt (by omega)).trans HB6.out
           have k7 : Keep (fun q => q = w2.heap.size ∨ q = w2.heap.size + 1) wM.heap.size wM w7 := Hk6.out.trans (K7.weak Hk6.out.size (fun q _ e => .inr e))
           have o7 : w7.ownsRow wM.heap.size 42 2 _ _ _ := own_keep Ho6.out K7 (by omega)
           have HI : WalkI f xs ys wM w2.heap.size (w2.heap.size + 1) _ (.int .i64 p) w7 := ⟨_, _, p, _, _, _, _, _, rfl, HS.out, o7, B7, C7, HE6.out, E7 _ Heb.out, k7, by have := Hlen.out; have := Hmeas.out; omega⟩
           have HM : sdLen w7 w2.heap.size + sdLen w7 (w2.heap.size + 1) < ra.length + rb.length := by rw [sdLen_eq B7 HE6.out, sdLen_eq C7 (E7 _ Heb.out)]; exact Hmeas.out
           have HI := Lib.hid HI
           have HM := Lib.hid HM
           clear B7 C7 E7 K7 k7 o7
           go_wp2
           exact ⟨HI.out, HM.out⟩
end Go.Proofs.Ytlofeaodpblagaa
