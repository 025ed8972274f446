/- Texts of this proof, joined. -/
import Derived.Test.YtmedickofiielaaGreatDoorGCellsKnow
import Derived.Test.YtmedickofiielaaGreatDoorGCellsText
import Derived.Test.YtmedickofiielaaGreatDoorGRefSplit
import Derived.Test.YtmedickofiielaaGreatDoorGCellsReplace
import Derived.Test.YtmedickofiielaaGreatDoorGCellsBlk
import Derived.Test.YtmedickofiielaaGreatDoorGSpansPlain
namespace Go.Proofs.YtmedickofiielaaGreatDoor
open Go.RowKit Go.Shelf
attribute [local go_sem] Oper.semAt_some

theorem knowN_yes : ∀ (l : List PCell) (I : List Id3), (∀ k d, l[k]? = some d → ¬ idC d ∈ I ∧ ¬ idC d ∈ (l.take k).map idC) → knowN I l = (I ++ l.map idC, true)
 | [], I, _ => by simp [knowN]
 | c :: r, I, h => by
  rw [knowN_new (h 0 c rfl).1, knowN_yes r (I ++ [idC c]) (fun k d hd => by
   obtain ⟨h1, h2⟩ := h (k + 1) d hd
   rw [List.take_succ_cons, List.map_cons, List.mem_cons] at h2
   refine ⟨fun g => ?_, fun g => h2 (.inr g)⟩
   rcases List.mem_append.1 g with g | g
   ·exact h1 g
   ·exact h2 (.inl (List.mem_singleton.1 g)))]
  simp
theorem knowN_no : ∀ (l : List PCell) (I : List Id3) (k : Nat) (d : PCell), l[k]? = some d → (idC d ∈ I ∨ idC d ∈ (l.take k).map idC) → (knowN I l).2 = false
 | [], _, k, _, h, _ => by simp at h
 | c :: r, I, 0, d, h, g => by
  obtain rfl : c = d := by simpa using h
  rcases g with g | g
  ·rw [knowN_dup g]
  ·simp at g
 | c :: r, I, k + 1, d, h, g => by
  by_cases e : idC c ∈ I
  ·rw [knowN_dup e]
  ·rw [knowN_new e]
   refine knowN_no r (I ++ [idC c]) k d (by simpa using h) ?_
   rcases g with g | g
   ·exact .inl (List.mem_append_left _ g)
   ·rw [List.take_succ_cons, List.map_cons, List.mem_cons] at g
    rcases g with g | g
    ·exact .inl (List.mem_append_right _ (List.mem_singleton.2 g))
    ·exact .inr g
theorem sameId_iff (c d : PCell) : sameId c d = true ↔ idC c = idC d := by
 unfold sameId idC
 rw [decide_eq_true_iff]
 exact ⟨fun ⟨a, b, e⟩ => by rw [a, b, e], fun h => by injection h with a h; injection h with b e; exact ⟨a, b, e⟩⟩
theorem know_dup {l : List PCell} (h : dupC l l.length = true) : (knowN [] l).2 = false := by
 unfold dupC at h
 rw [List.any_eq_true] at h
 obtain ⟨i, hi, h⟩ := h
 have hi := List.mem_range.1 hi
 rw [List.getElem?_eq_getElem hi] at h
 simp only at h
 unfold dupTo at h
 rw [List.any_eq_true] at h
 obtain ⟨c, hc, e⟩ := h
 exact knowN_no l [] i l[i] (List.getElem?_eq_getElem hi) (.inr (List.mem_map.2 ⟨c, hc, (sameId_iff _ _).1 e⟩))
theorem know_all {l : List PCell} (h : dupC l l.length = false) : knowN [] l = (l.map idC, true) := by
 have := knowN_yes l [] (fun k d hd => ⟨by simp, fun g => by
  obtain ⟨c, hc, e⟩ := List.mem_map.1 g
  unfold dupC at h
  rw [List.any_eq_false] at h
  have h1 := h k (List.mem_range.2 (List.getElem?_eq_some_iff.1 hd).1)
  rw [hd] at h1
  apply h1
  show dupTo l d k = true
  unfold dupTo
  rw [List.any_eq_true]
  exact ⟨c, hc, (sameId_iff _ _).2 e⟩⟩)
 simpa using this
theorem Blocks.set {W : World} {n₀ : Nat} {v : Value} {bs : List PB} {B o : Nat} {c : Array Value} {t : TypeId} {fr : Nat × Nat} {u : Value} (h : Blocks W n₀ v bs) (hB : W.heap[B]? = some (.cells c t fr)) (h1 : t ≠ 109) (h2 : t ≠ 48) : Blocks (W.setCell ⟨B, o, none⟩ u) n₀ v bs :=
 ⟨own_far h.row hB h1 o u, fun x hx => own_far (h.own x hx) hB h2 o u, h.apart⟩
theorem Blocks.lower {W : World} {n₀ n₁ : Nat} {v : Value} {bs : List PB} (h : Blocks W n₀ v bs) (hn : n₁ ≤ n₀) : Blocks W n₁ v bs := ⟨own_lower h.row hn, fun x hx => own_lower (h.own x hx) hn, h.apart⟩
structure DocB (W : World) (n₀ B M : Nat) (bv : Value) (bs : List PB) (l : List PCell) : Prop where
 lowB : n₀ ≤ B
 lowM : n₀ ≤ M
 box : W.heap[B]? = some (.cells #[bv, .map (some M)] 90 (0, 0))
 blocks : Blocks W n₀ bv bs
 names : NMap W M (l.map idC)
 cat : catB bs = l
 few : bs.length ≤ 1000000
 full : ∀ x ∈ bs, x.cs ≠ []
theorem cok_names {l : List PCell} (h : l.all cellOk = true) (hw : CWf l) : ∀ c ∈ l, nWf (c.site, c.seq) ∧ 0 ≤ c.off ∧ c.off < 200 := fun c hc => by
 have h1 := List.all_eq_true.1 h c hc
 unfold cellOk at h1
 simp only [Bool.and_eq_true] at h1
 have h2 := of_decide_eq_true h1.1.2
 have h3 := hw c hc
 exact ⟨⟨h3.1, h3.2.1⟩, h2.1, by omega⟩
theorem new_results (W : World) (tm : Array Value) (a b : Value) (h2 : tm.getD 2 undef = a) (h3 : tm.getD 3 undef = b) :
  (results Tryz.f16 tm).run Tryz.prog W = .ok (.tuple #[a, b]) W := by
 have h4' : tm[2]?.getD undef = a := by simpa using h2
 have h5' : tm[3]?.getD undef = b := by simpa using h3
 simp [results, Tryz.f16, go_sem, h4', h5']
set_option maxRecDepth 100000 in
set_option maxHeartbeats 8000000 in
theorem new_no (v : Value) (l : List PCell) (w : World) (h : CAt w v l) (hw : CWf l) (hl : l.length ≤ 20000) (hm : cMay l ≠ 0) :
  Calls Tryz.prog 16 #[v] w fun e w' => e = .returned (.tuple #[.pointer none, .int .i64 (cMay l)]) ∧ Below w.heap.size w w' := by
 have hmay := cmay_any v l w h (by omega)
 by_cases hok : l.all cellOk = true
 ·have hdup : dupC l l.length = true := by
   unfold cMay at hm
   rw [if_pos hok] at hm
   cases hd : dupC l l.length with
   | true => rfl
   | false => rw [hd, if_neg (by decide), if_neg (by omega)] at hm; exact absurd rfl hm
  have hcm : cMay l = 15 := by unfold cMay; rw [if_pos hok, if_pos hdup]
  rw [hok] at hmay
  have hkn := fun B w1 hb hB0 hB => know0_any B (.slice none 0 0) v l w w1 hb hB0 hB h (cok_names hok hw) (by omega)
  rw [know_dup hdup] at hkn
  rw [hcm]
  have HM := Lib.hid hmay
  have HK := Lib.hid hkn
  clear hmay hkn hm hcm hdup hok h
  go_enter Tryz.func16, Tryz.ntmps16
  go_wp2_with (first | (go_at_call 41; refine HM.out.mono ?_; rintro e w1 ⟨rfl, hb1⟩) | fail)
  have hbb : Below w.heap.size w (w1.alloc (.cells #[.slice none 0 0, .map none] 90)) := hb1.alloc hb1.size _
  refine (HK.out w1.heap.size _ hbb hb1.size (heap_new w1 _)).mono ?_
  rintro e w2 ⟨M, rfl, hM, -, hk, -⟩
  have HB := Lib.hid (hk.below (Nat.le_refl _) (fun k hk => by rw [hk]; have := hbb.size; omega))
  clear hk hbb
  go_wp2
  exact bodyPost_ret (new_results _ _ _ _ rfl rfl) rfl ⟨rfl, HB.out⟩
 ·have hok : l.all cellOk = false := by simpa using hok
  have hcm : cMay l = 1 := by unfold cMay; rw [hok]; rfl
  rw [hok] at hmay
  rw [hcm]
  have HM := Lib.hid hmay
  clear hmay hm hcm hok h
  go_enter Tryz.func16, Tryz.ntmps16
  go_wp2_with (go_at_call 41; refine HM.out.mono ?_; rintro e w1 ⟨rfl, hb1⟩)
  exact bodyPost_ret (new_results _ _ _ _ rfl rfl) rfl ⟨rfl, hb1⟩
set_option maxRecDepth 100000 in
set_option maxHeartbeats 8000000 in
theorem new_yes (v : Value) (l : List PCell) (w : World) (h : CAt w v l) (hw : CWf l) (hl : l.length ≤ 20000) (hm : cMay l = 0) :
  Calls Tryz.prog 16 #[v] w fun e w' => ∃ B M bv bs, e = .returned (.tuple #[.pointer (some ⟨B, 0, none⟩), .int .i64 0]) ∧ DocB w' w.heap.size B M bv bs l ∧ Below w.heap.size w w' := by
 have hmay := cmay_any v l w h (by omega)
 have hok : l.all cellOk = true := by
  cases hd : l.all cellOk with
  | true => rfl
  | false => unfold cMay at hm; rw [hd, if_neg (by decide)] at hm; omega
 have hdup : dupC l l.length = false := by
  cases hd : dupC l l.length with
  | false => rfl
  | true => unfold cMay at hm; rw [if_pos hok, hd, if_pos rfl] at hm; omega
 rw [hok] at hmay
 have hkn := fun B w1 hb hB0 hB => know0_any B (.slice none 0 0) v l w w1 hb hB0 hB h (cok_names hok hw) (by omega)
 rw [know_all hdup] at hkn
 have hla := fun W (hb : Below w.heap.size w W) => laid_any v l W (h.below hb) (by omega)
 have HM := Lib.hid hmay
 have HK := Lib.hid hkn
 have HL := Lib.hid hla
 obtain ⟨ao, cap, rfl, -⟩ := h.shape
 obtain ⟨N, hN⟩ : ∃ N, l.length = N := ⟨_, rfl⟩
 have hnn : ¬ (20000 : Int) < (N : Int) := by omega
 rw [hN] at HM HK HL ⊢
 clear hmay hkn hla hm hdup hok h hl hN
 go_enter Tryz.func16, Tryz.ntmps16
 go_wp2_with (first | (go_at_call 41; refine HM.out.mono ?_; rintro e w1 ⟨rfl, hb1⟩) | fail)
 have hbb : Below w.heap.size w (w1.alloc (.cells #[.slice none 0 0, .map none] 90)) := hb1.alloc hb1.size _
 refine (HK.out w1.heap.size _ hbb hb1.size (heap_new w1 _)).mono ?_
 rintro e w2 ⟨M, rfl, hM, hn2, hk, hx2⟩
 have hM2 : w.heap.size ≤ M := Nat.le_trans hbb.size hM
 have hB2 : Below w.heap.size w w2 := hk.below (Nat.le_refl _) (fun k hk => by rw [hk]; exact hM2)
 have hMB : M ≠ w1.heap.size := by simp at hM; omega
 have H2 := Lib.hid (And.intro hn2 (And.intro hx2 (And.intro hB2 (And.intro hM2 (And.intro hMB hb1.size)))))
 clear hk hbb hn2 hx2 hB2 hM2 hMB hM hb1
 go_wp2_with fail
 refine (HL.out w2 H2.out.2.2.1).mono ?_
 rintro e w3 ⟨bv, bs, rfl, hbk, hcat, hfew, ⟨hfull, -⟩, hb3⟩
 have hx3 := row_up H2.out.2.1 hb3
 have z0 := box_cell hx3 0
 have f0 := box_frozen hx3 0
 obtain ⟨ao', n', cap', rfl⟩ := slice_of hbk.row
 have H3 := Lib.hid (And.intro hbk (And.intro hcat (And.intro hfew (And.intro hb3 (And.intro hx3 hfull)))))
 clear hbk hcat hfew hb3 hx3 hfull
 go_wp2
 obtain ⟨hn2, hx2, hB2, hM2, hMB, hs1⟩ := H2.out
 obtain ⟨hbk, hcat, hfew, hb3, hx3, hfull⟩ := H3.out
 refine bodyPost_ret (new_results _ _ _ _ rfl rfl) rfl ?_
 refine ⟨w1.heap.size, M, _, bs, rfl, ⟨hs1, hM2, box_set hx3 0 _, (hbk.lower hB2.size).set hx3 (by decide) (by decide), (hn2.below hb3).set hMB, hcat, hfew, hfull⟩, (hB2.trans (hb3.mono hB2.size)).setCell (p := ⟨w1.heap.size, 0, none⟩) hs1 _⟩
end Go.Proofs.YtmedickofiielaaGreatDoor

namespace Go.Proofs.YtmedickofiielaaGreatDoor
open Go.RowKit

theorem keptC_stay {l : List PCell} {f : Nat → Bool} (a : Nat) : ∀ d, a + d ≤ l.length → (∀ i, a ≤ i → i < a + d → f i = false) → keptC l f (a + d) = keptC l f a ++ (l.drop a).take d
 | 0, _, _ => by simp
 | d + 1, hl, h => by
  have hc : l[a + d]? = some l[a + d] := List.getElem?_eq_getElem (by omega)
  rw [← Nat.add_assoc, keptC_yes (h (a + d) (by omega) (by omega)) hc, keptC_stay a d (by omega) (fun i h1 h2 => h i h1 (by omega)), List.append_assoc, List.take_add_one, List.getElem?_drop, hc]
  rfl
theorem keptC_skip {l : List PCell} {f : Nat → Bool} (a : Nat) : ∀ d, (∀ i, a ≤ i → i < a + d → f i = true) → keptC l f (a + d) = keptC l f a
 | 0, _ => rfl
 | d + 1, h => by rw [← Nat.add_assoc, keptC_no (h (a + d) (by omega) (by omega)), keptC_skip a d (fun i h1 h2 => h i h1 (by omega))]
theorem mark_in {xs : List Sp} {s : Sp} (hs : s ∈ xs) (i : Nat) (h1 : s.1 ≤ (i : Int)) (h2 : (i : Int) < s.1 + s.2) : sMark xs i = true := (sMark_iff _ _).2 ⟨s, hs, h1, h2⟩
theorem mark_out {xs : List Sp} {k : Nat} {F : Int} (hF : ∀ s ∈ xs.take k, s.1 + s.2 ≤ F) {i : Nat} (hi : F ≤ (i : Int)) (hn : ∀ t ∈ xs.drop k, (i : Int) < t.1) : sMark xs i = false := by
 rw [Bool.eq_false_iff]
 intro h
 obtain ⟨s, hs, g1, g2⟩ := (sMark_iff _ _).1 h
 rw [← List.take_append_drop k xs] at hs
 rcases List.mem_append.1 hs with q | q
 ·have := hF s q; omega
 ·have := hn s q; omega
theorem RowC.sub {sz : Nat} {W : World} {ao : Option Addr} {n cap : Nat} {cs : List Value} (h : RowC sz W (.slice ao n cap) n cs) (a b : Nat) (hab : a ≤ b) (hb : b ≤ n) :
  RowC sz W (.slice (if cap = a then ao else Option.map (fun x : Addr => x.add (a * sz)) ao) (b - a) (cap - a)) (b - a) ((cs.drop (a * sz)).take ((b - a) * sz)) := by
 obtain ⟨hl, ao', cap', e, h1, h2, h3, h4⟩ := h
 cases e
 refine ⟨?_, _, _, rfl, by omega, by omega, ?_, fun ad ha => ?_⟩
 ·rw [List.length_take, List.length_drop, hl, ← Nat.sub_mul]
  exact Nat.min_eq_left (Nat.mul_le_mul_right sz (by omega))
 ·intro q
  by_cases hc : cap = a
  ·omega
  ·rw [if_neg hc] at q
   cases ao with
   | none => have := h3 rfl; omega
   | some ad => simp at q
 ·by_cases hc : cap = a
  ·rw [if_pos hc] at ha
   obtain ⟨b', off, e, hlt, hcl⟩ := h4 ad ha
   refine ⟨b', off, e, hlt, fun j u hj => ?_⟩
   have : b - a = 0 := by omega
   rw [this, Nat.zero_mul, List.take_zero] at hj
   simp at hj
  ·rw [if_neg hc] at ha
   cases ao with
   | none => simp at ha
   | some ad0 =>
    obtain ⟨b', off, e, hlt, hcl⟩ := h4 ad0 rfl
    subst e
    simp only [Option.map_some, Option.some.injEq] at ha
    subst ha
    refine ⟨b', off + a * sz, by simp [Addr.add], hlt, fun j u hj => ?_⟩
    rw [List.getElem?_take] at hj
    split at hj
    ·rw [List.getElem?_drop] at hj
     rw [Nat.add_assoc]
     exact hcl _ _ hj
    ·cases hj
theorem CAt.sub {W : World} {ao : Option Addr} {n cap : Nat} {l : List PCell} (h : CAt W (.slice ao n cap) l) (a b : Nat) (hab : a ≤ b) (hb : b ≤ l.length) :
  CAt W (.slice (if cap = a then ao else Option.map (fun x : Addr => x.add (a * 5)) ao) (b - a) (cap - a)) ((l.drop a).take (b - a)) := by
 obtain ⟨ao', cap', e, -, -⟩ := h.shape
 cases e
 have hs := RowC.sub (show RowC 5 W (.slice ao l.length cap) l.length (cCells l) from h) a b hab hb
 unfold CAt
 rw [cCells_drop _ _ (by omega), cCells_take _ _ (by rw [List.length_drop]; omega)] at hs
 rw [List.length_take, List.length_drop, Nat.min_eq_left (by omega)]
 exact hs
theorem nodup_ids {l : List PCell} (h : dupC l l.length = false) : (l.map idC).Nodup := by
 refine List.pairwise_iff_getElem.2 fun i j hi hj hij e => ?_
 rw [List.length_map] at hi hj
 rw [List.getElem_map, List.getElem_map] at e
 unfold dupC at h
 rw [List.any_eq_false] at h
 have h1 := h j (List.mem_range.2 hj)
 rw [List.getElem?_eq_getElem hj] at h1
 apply h1
 show dupTo l l[j] j = true
 unfold dupTo
 rw [List.any_eq_true]
 exact ⟨l[i], List.mem_iff_getElem.2 ⟨i, by rw [List.length_take]; omega, by rw [List.getElem_take]⟩, (sameId_iff _ _).2 e⟩
theorem keptC_sub (l : List PCell) (f : Nat → Bool) : ∀ k, (keptC l f k).Sublist (l.take k)
 | 0 => by simp [keptC]
 | k + 1 => by
  have ih := keptC_sub l f k
  cases hc : l[k]? with
  | none =>
   have e : keptC l f (k + 1) = keptC l f k := by
    unfold keptC
    rw [List.range_succ, List.filterMap_append]
    simp [hc]
   rw [e]
   exact ih.trans (List.take_sublist_take_left (by omega))
  | some c =>
   rw [List.take_add_one, hc]
   cases hf : f k with
   | true =>
    rw [keptC_no hf]
    exact ih.trans (List.sublist_append_left _ _)
   | false =>
    rw [keptC_yes hf hc]
    exact ih.append (List.Sublist.refl _)
theorem part_iff {A T P R : List Id3} (hn : (A ++ (T ++ (P ++ R))).Nodup) (x : Id3) : (x ∈ A ++ (T ++ (P ++ R)) ∧ ¬ x ∈ P) ↔ x ∈ A ++ T ++ R := by
 obtain ⟨_, h2, d1⟩ := List.nodup_append.1 hn
 obtain ⟨_, h3, d2⟩ := List.nodup_append.1 h2
 obtain ⟨_, _, d3⟩ := List.nodup_append.1 h3
 simp only [List.mem_append] at d1 d2 ⊢
 constructor
 ·rintro ⟨h | h | h | h, hp⟩
  ·exact .inl (.inl h)
  ·exact .inl (.inr h)
  ·exact absurd h hp
  ·exact .inr h
 ·rintro ((h | h) | h)
  ·exact ⟨.inl h, fun q => d1 x h x (.inr (.inl q)) rfl⟩
  ·exact ⟨.inr (.inl h), fun q => d2 x h x (.inl q) rfl⟩
  ·exact ⟨.inr (.inr (.inr h)), fun q => d3 x q x h rfl⟩
theorem forg_part {l : List PCell} {f : Nat → Bool} {I : List Id3} {F a b : Nat} (hd : (l.map idC).Nodup) (hFa : F ≤ a) (hab : a ≤ b) (hb : b ≤ l.length) (h1 : ∀ i, F ≤ i → i < a → f i = false) (h2 : ∀ i, a ≤ i → i < b → f i = true)
  (hI : ∀ x, x ∈ I ↔ x ∈ (keptC l f F ++ l.drop F).map idC) : ∀ x, x ∈ forgN I ((l.drop a).take (b - a)) ↔ x ∈ (keptC l f b ++ l.drop b).map idC := by
 have e1 : keptC l f a = keptC l f F ++ (l.drop F).take (a - F) := by
  have := keptC_stay (l := l) (f := f) F (a - F) (by omega) (fun i h h' => h1 i h (by omega))
  rwa [show F + (a - F) = a by omega] at this
 have e2 : keptC l f b = keptC l f a := by
  have := keptC_skip (l := l) (f := f) a (b - a) (fun i h h' => h2 i h (by omega))
  rwa [show a + (b - a) = b by omega] at this
 have e3 : l.drop F = (l.drop F).take (a - F) ++ ((l.drop a).take (b - a) ++ l.drop b) := by
  conv => lhs; rw [← List.take_append_drop (a - F) (l.drop F), List.drop_drop, show F + (a - F) = a by omega]
  congr 1
  conv => lhs; rw [← List.take_append_drop (b - a) (l.drop a), List.drop_drop, show a + (b - a) = b by omega]
 have hsub : (keptC l f F ++ l.drop F).Sublist l := by
  have this := keptC_sub l f F
  conv => rhs; rw [← List.take_append_drop F l]
  exact this.append (List.Sublist.refl _)
 intro x
 rw [forgN_mem, hI, e3, e2, e1]
 have hn : ((keptC l f F ++ l.drop F).map idC).Nodup := hd.sublist (hsub.map idC)
 rw [e3] at hn
 simp only [List.map_append] at hn ⊢
 exact part_iff hn x
end Go.Proofs.YtmedickofiielaaGreatDoor

namespace Go.Proofs.YtmedickofiielaaGreatDoor
open Go.RowKit Go.Shelf
attribute [local go_sem] Oper.semAt_some

theorem Blocks.cells {W : World} {n₀ : Nat} {v : Value} {bs : List PB} (h : Blocks W n₀ v bs) : ∀ x ∈ bs, CAt W x.v x.cs := fun x hx => CAt.of_own (h.own x hx) rfl
theorem DocB.docR {W : World} {n₀ B M : Nat} {bv : Value} {bs : List PB} {l : List PCell} (h : DocB W n₀ B M bv bs l) (hl : l.length ≤ 100000) : DocR W B bv (.map (some M)) bs :=
 ⟨h.box, RowR.of_own h.blocks.row, h.blocks.cells, by rw [h.cat]; exact hl, h.few⟩
end Go.Proofs.YtmedickofiielaaGreatDoor

namespace Go.Proofs.YtmedickofiielaaGreatDoor
open Go.RowKit Go.Shelf

theorem kCells_set : ∀ (bs : List PB) (k : Nat) (x y : PB), bs[k]? = some x → (((kCells bs).set (k * 3 + 1 + 1) y.v).set (k * 3) (.int .i64 (liveN y.cs : Nat))).set (k * 3 + 1) (.int .i64 (goneN y.cs : Nat)) = kCells (bs.set k y)
 | [], k, _, _, h => by simp at h
 | b :: r, 0, x, y, _ => by
  show ((((kV b ++ kCells r).set (0 * 3 + 1 + 1) y.v).set (0 * 3) _).set (0 * 3 + 1) _) = kV y ++ kCells r
  unfold kV
  simp
 | b :: r, k + 1, x, y, h => by
  have ih := kCells_set r k x y (by simpa using h)
  show ((((kV b ++ kCells r).set ((k + 1) * 3 + 1 + 1) y.v).set ((k + 1) * 3) _).set ((k + 1) * 3 + 1) _) = kV b ++ kCells (r.set k y)
  have hl : (kV b).length = 3 := rfl
  rw [List.set_append_right _ _ (by omega), List.set_append_right _ _ (by omega), List.set_append_right _ _ (by omega), hl, show (k + 1) * 3 + 1 + 1 - 3 = k * 3 + 1 + 1 by omega, show (k + 1) * 3 - 3 = k * 3 by omega, show (k + 1) * 3 + 1 - 3 = k * 3 + 1 by omega, ih]
theorem blocks_parts {W : World} {n₀ : Nat} {v : Value} {bs : List PB} (h : W.ownsRow n₀ 109 3 v bs.length (kCells bs)) {k : Nat} {x : PB} (hk : bs[k]? = some x) : ∃ g cap cur, v = .slice (some ⟨g, 0, none⟩) bs.length cap ∧ n₀ ≤ g ∧ W.heap[g]? = some (.cells cur 109 (0, 0)) ∧
  cur[k * 3]? = some (.int .i64 (liveN x.cs : Nat)) ∧ cur[k * 3 + 1]? = some (.int .i64 (goneN x.cs : Nat)) ∧ cur[k * 3 + 1 + 1]? = some x.v ∧
  ∀ (W' : World) (y : PB), W'.heap[g]? = some (.cells (((cur.setIfInBounds (k * 3 + 1 + 1) y.v).setIfInBounds (k * 3) (.int .i64 (liveN y.cs : Nat))).setIfInBounds (k * 3 + 1) (.int .i64 (goneN y.cs : Nat))) 109 (0, 0)) → W'.ownsRow n₀ 109 3 v (bs.set k y).length (kCells (bs.set k y)) := by
 have hl := (List.getElem?_eq_some_iff.1 hk).1
 rcases h.2 with ⟨_, h0⟩ | ⟨g, cap, cur, rfl, hg0, hg, hnc, hcm, hcur, hX⟩
 ·omega
 have hat : ∀ j, j < 3 → cur[k * 3 + j]? = (kV x)[j]? := fun j hj => by
  have h1 := kCells_at bs k j x hk hj
  rw [← hX, List.getElem?_take_of_lt (by omega)] at h1
  rw [← h1]
  simp
 refine ⟨g, cap, cur, rfl, hg0, hg, hat 0 (by decide), hat 1 (by decide), hat 2 (by decide), fun W' y hW => ⟨kCells_length _, .inr ⟨g, cap, _, by rw [List.length_set], hg0, hW, by rw [List.length_set]; exact hnc, hcm, by simp [hcur], ?_⟩⟩⟩
 rw [List.length_set, ← kCells_set bs k x y hk, ← hX]
 simp only [Array.toList_setIfInBounds, List.take_set]
theorem catB_set {bs : List PB} {k : Nat} {x y : PB} (h : bs[k]? = some x) : catB (bs.set k y) = catB (bs.take k) ++ y.cs ++ catB (bs.drop (k + 1)) := by
 have hl := (List.getElem?_eq_some_iff.1 h).1
 have h1 : (bs.set k y)[k]? = some y := by rw [List.getElem?_set]; simp [hl]
 rw [catB_split h1, List.take_set_of_le (Nat.le_refl _), List.drop_set_of_lt (by omega)]
theorem put_cat {bs : List PB} {k p : Nat} {x : PB} {ms : List PCell} (h : bs[k]? = some x) (h1 : (catB (bs.take k)).length ≤ p) (h2 : p ≤ (catB (bs.take k)).length + x.cs.length) :
  catB (bs.take k) ++ (x.cs.take (p - (catB (bs.take k)).length) ++ ms ++ x.cs.drop (p - (catB (bs.take k)).length)) ++ catB (bs.drop (k + 1)) = (catB bs).take p ++ ms ++ (catB bs).drop p := by
 rw [catB_split h]
 generalize catB (bs.take k) = A at h1 h2 ⊢
 generalize catB (bs.drop (k + 1)) = C
 obtain ⟨d, rfl⟩ : ∃ d, p = A.length + d := ⟨p - A.length, by omega⟩
 have hd : d ≤ x.cs.length := by omega
 have t1 : (A ++ x.cs ++ C).take (A.length + d) = A ++ x.cs.take d := by
  rw [List.append_assoc, List.take_append, List.take_of_length_le (Nat.le_add_right _ _), show A.length + d - A.length = d by omega, List.take_append_of_le_length hd]
 have t2 : (A ++ x.cs ++ C).drop (A.length + d) = x.cs.drop d ++ C := by
  rw [List.append_assoc, List.drop_append, List.drop_of_length_le (Nat.le_add_right _ _), show A.length + d - A.length = d by omega, List.drop_append_of_le_length hd, List.nil_append]
 rw [t1, t2, show A.length + d - A.length = d by omega]
 simp
end Go.Proofs.YtmedickofiielaaGreatDoor

namespace Go.Proofs.YtmedickofiielaaGreatDoor
open Go.RowKit Go.Shelf

def Off (x y : PB) : Prop := ∀ g, x.v.ownBlock = some g → y.v.ownBlock = some g → False
theorem Off.symm {x y : PB} (h : Off x y) : Off y x := fun g a b => h g b a
theorem Blocks.off {W : World} {n₀ : Nat} {v : Value} {bs : List PB} (h : Blocks W n₀ v bs) {i j : Nat} (hi : i < bs.length) (hj : j < bs.length) (hne : i ≠ j) : Off bs[i] bs[j] := by
 rcases Nat.lt_or_gt_of_ne hne with g | g
 ·exact List.pairwise_iff_getElem.1 h.apart i j hi hj g
 ·exact Off.symm (List.pairwise_iff_getElem.1 h.apart j i hj hi g)
theorem Blocks.one {w W : World} {n₀ k : Nat} {v : Value} {bs : List PB} {x y : PB} (h : Blocks w n₀ v bs) (hk : bs[k]? = some x) (hrow : W.ownsRow n₀ 109 3 v (bs.set k y).length (kCells (bs.set k y))) (hy : W.ownsRow n₀ 48 5 y.v y.cs.length (cCells y.cs))
  (hK : Keep (fun j => v.ownBlock = some j ∨ x.v.ownBlock = some j) w.heap.size w W) (hf : ∀ g, y.v.ownBlock = some g → x.v.ownBlock = some g ∨ w.heap.size ≤ g) : Blocks W n₀ v (bs.set k y) := by
 obtain ⟨hkl, hke⟩ := List.getElem?_eq_some_iff.1 hk
 have hfar : ∀ (j : Nat) (hj : j < bs.length), j ≠ k → ∀ g, bs[j].v.ownBlock = some g → g < w.heap.size ∧ ¬ x.v.ownBlock = some g := fun j hj hne g hg => by
  obtain ⟨_, c, hc⟩ := own_typed (h.own bs[j] (List.getElem_mem _)) g hg
  refine ⟨box_lt hc, fun e => ?_⟩
  rw [← hke] at e
  exact h.off hj hkl hne g hg e
 refine ⟨hrow, fun z hz => ?_, ?_⟩
 ·obtain ⟨j, hj, rfl⟩ := List.mem_iff_getElem.1 hz
  rw [List.length_set] at hj
  rw [List.getElem_set]
  split
  ·exact hy
  ·next hne =>
   refine own_keepS (h.own bs[j] (List.getElem_mem _)) hK fun g hg e => ?_
   rcases e with e | e
   ·obtain ⟨_, c, hc⟩ := own_typed h.row g e
    obtain ⟨_, c', hc'⟩ := own_typed (h.own bs[j] (List.getElem_mem _)) g hg
    rw [hc] at hc'
    cases hc'
   ·exact (hfar j hj (fun q => hne q.symm) g hg).2 e
 ·rw [List.pairwise_iff_getElem]
  intro i j hi hj hij
  rw [List.length_set] at hi hj
  rw [List.getElem_set, List.getElem_set]
  have hyo : ∀ (j : Nat) (hj : j < bs.length), j ≠ k → Off y bs[j] := fun j hj hne g a b => by
   have q := hfar j hj hne g b
   rcases hf g a with e | e
   ·exact q.2 e
   ·exact absurd q.1 (by omega)
  split
  ·next e => rw [if_neg (by omega)]; exact hyo j hj (by omega)
  ·split
   ·next e => exact (hyo i hi (by omega)).symm
   ·exact h.off hi hj (by omega)
theorem Blocks.rep {w W7 W8 : World} {n₀ k : Nat} {v v' u : Value} {bs bl : List PB} (h : Blocks w n₀ v bs) (hl : Blocks W7 w.heap.size u bl) (h7 : Below w.heap.size w W7) (hn : n₀ ≤ w.heap.size) (hrow : W8.ownsRow n₀ 109 3 v' (bs.take k ++ bl ++ bs.drop (k + 1)).length (kCells (bs.take k ++ bl ++ bs.drop (k + 1)))) (hK : Keep (fun j => v.ownBlock = some j) W7.heap.size W7 W8) : Blocks W8 n₀ v' (bs.take k ++ bl ++ bs.drop (k + 1)) := by
 have old : ∀ z ∈ bs, W8.ownsRow n₀ 48 5 z.v z.cs.length (cCells z.cs) := fun z hz => by
  refine own_keepS (own_up (h.own z hz) h7) hK fun g hg e => ?_
  obtain ⟨_, c, hc⟩ := own_typed h.row g e
  obtain ⟨_, c', hc'⟩ := own_typed (h.own z hz) g hg
  rw [hc] at hc'
  cases hc'
 have new : ∀ z ∈ bl, W8.ownsRow n₀ 48 5 z.v z.cs.length (cCells z.cs) := fun z hz => by
  refine own_keepS (own_lower (hl.own z hz) hn) hK fun g hg e => ?_
  obtain ⟨_, c, hc⟩ := own_typed h.row g e
  obtain ⟨q, _⟩ := own_typed (hl.own z hz) g hg
  have := box_lt hc
  omega
 have cross : ∀ z ∈ bs, ∀ y ∈ bl, Off z y := fun z hz y hy g a b => by
  obtain ⟨_, c, hc⟩ := own_typed (h.own z hz) g a
  obtain ⟨q, _⟩ := own_typed (hl.own y hy) g b
  have := box_lt hc
  omega
 have ht : ∀ z ∈ bs.take k, z ∈ bs := fun z hz => List.mem_of_mem_take hz
 have hd : ∀ z ∈ bs.drop (k + 1), z ∈ bs := fun z hz => List.mem_of_mem_drop hz
 refine ⟨hrow, fun z hz => ?_, ?_⟩
 ·rcases List.mem_append.1 hz with g | g
  ·rcases List.mem_append.1 g with g | g
   ·exact old z (ht z g)
   ·exact new z g
  ·exact old z (hd z g)
 ·have hp : (bs.take k ++ bs.drop (k + 1)).Pairwise Off := by
   refine List.Pairwise.sublist ?_ h.apart
   conv => rhs; rw [← List.take_append_drop k bs]
   exact List.Sublist.append (List.Sublist.refl _) (List.drop_sublist_drop_left bs (Nat.le_succ k))
  obtain ⟨p1, p2, p3⟩ := List.pairwise_append.1 hp
  rw [List.pairwise_append, List.pairwise_append]
  refine ⟨⟨p1, hl.apart, fun z hz y hy => cross z (ht z hz) y hy⟩, p2, fun z hz y hy => ?_⟩
  rcases List.mem_append.1 hz with g | g
  ·exact p3 z g y hy
  ·exact (cross y (hd y hy) z g).symm
end Go.Proofs.YtmedickofiielaaGreatDoor

namespace Go.Proofs.YtmedickofiielaaGreatDoor
open Go.RowKit Go.Shelf
attribute [local go_sem] Oper.semAt_some

structure DropI (w1 : World) (B M : Nat) (bv : Value) (l : List PCell) (f : Nat → Bool) (F : Nat) (lv : Value) (W : World) : Prop where
 own : W.ownsRow w1.heap.size 48 5 lv (keptC l f F).length (cCells (keptC l f F))
 keep : Keep (fun k => k = M) w1.heap.size w1 W
 box : W.heap[B]? = some (.cells #[bv, .map (some M)] 90 (0, 0))
 names : ∃ I, NMap W M I ∧ I.length ≤ 20000 ∧ (∀ x ∈ I, 0 ≤ x.2.2 ∧ x.2.2 < 200) ∧ ∀ x, x ∈ I ↔ x ∈ (keptC l f F ++ l.drop F).map idC
theorem DropI.alloc {w1 : World} {B M : Nat} {bv : Value} {l : List PCell} {f : Nat → Bool} {F : Nat} {lv : Value} {W : World} (h : DropI w1 B M bv l f F lv W) (o : Obj) : DropI w1 B M bv l f F lv (W.alloc o) :=
 ⟨h.own.alloc _, h.keep.alloc h.keep.size _, row_al h.box _, by obtain ⟨I, a, b⟩ := h.names; exact ⟨I, a.alloc _, b⟩⟩
theorem SpAt.km {W W' : World} {M : Nat} {I : List Id3} {v : Value} {xs : List Sp} (h : SpAt W v xs) (hM : NMap W M I) (K : Keep (fun k => k = M) W.heap.size W W') : SpAt W' v xs := by
 obtain ⟨D, ⟨es, ck, hm, -⟩, -⟩ := hM
 obtain ⟨ao, cap, rfl, h2⟩ := h
 refine ⟨ao, cap, rfl, fun hx => ?_⟩
 obtain ⟨b, off, rfl, hc⟩ := h2 hx
 exact ⟨b, off, rfl, fun i hi => ⟨cell_km hm K (hc i hi).1, cell_km hm K (hc i hi).2⟩⟩
theorem mem_offs {l : List PCell} (h : ∀ c ∈ l, 0 ≤ c.off ∧ c.off < 200) {m : List PCell} (hm : ∀ c ∈ m, c ∈ l) : ∀ x ∈ m.map idC, 0 ≤ x.2.2 ∧ x.2.2 < 200 := fun x hx => by
 obtain ⟨c, hc, rfl⟩ := List.mem_map.1 hx
 exact h c (hm c hc)
set_option maxRecDepth 100000 in
set_option maxHeartbeats 8000000 in
theorem ddrop_any (n₀ B M : Nat) (bv sp : Value) (bs : List PB) (l : List PCell) (xs : List Sp) (w : World) (hD : DocB w n₀ B M bv bs l) (hl : l.length ≤ 20000) (hw : CWf l) (hm : cMay l = 0) (hS : SpAt w sp xs) (hxl : xs.length ≤ 1000000) (hg : sGood xs) (hin : ∀ s ∈ xs, s.1 + s.2 ≤ l.length) :
  Calls Tryz.prog 39 #[.pointer (some ⟨B, 0, none⟩), sp] w fun e w' => (∃ r, e = .returned r) ∧ ∃ bv' bs', w'.heap[B]? = some (.cells #[bv', .map (some M)] 90 (0, 0)) ∧ Blocks w' w.heap.size bv' bs' ∧ catB bs' = keptC l (sMark xs) l.length ∧ bs'.length ≤ 1000000 ∧ (∀ x ∈ bs', x.cs ≠ []) ∧
   NMap w' M ((keptC l (sMark xs) l.length).map idC) ∧ Keep (fun k => k = B ∨ k = M) w.heap.size w w' := by
 have hR := hD.docR (by omega)
 have hc := dcells_any B bv _ bs w hR
 rw [hD.cat] at hc
 have hok : l.all cellOk = true := by
  cases hd : l.all cellOk with
  | true => rfl
  | false => unfold cMay at hm; rw [hd, if_neg (by decide)] at hm; omega
 have hdup : dupC l l.length = false := by
  cases hd : dupC l l.length with
  | false => rfl
  | true => unfold cMay at hm; rw [if_pos hok, hd, if_pos rfl] at hm; omega
 have hnd := nodup_ids hdup
 have hcn := cok_names hok hw
 obtain ⟨f, hf⟩ : ∃ f, sMark xs = f := ⟨_, rfl⟩
 obtain ⟨L, hL⟩ : ∃ L, l.length = L := ⟨_, rfl⟩
 obtain ⟨X, hX⟩ : ∃ X, xs.length = X := ⟨_, rfl⟩
 obtain ⟨sa, sc, hsv⟩ : ∃ sa sc, sp = .slice sa X sc := by obtain ⟨a, c, h, _⟩ := hS; exact ⟨a, c, by rw [← hX]; exact h⟩
 obtain ⟨cur, hcur, hmk⟩ := make_cells L (by omega)
 rw [hf, hL]
 rw [hL] at hl hc hin
 rw [hX] at hxl
 have HL := Lib.hid hL
 have HX := Lib.hid (And.intro hX (And.intro hg (And.intro hin hf)))
 have HD := Lib.hid hD
 have HS := Lib.hid hS
 have HN := Lib.hid (And.intro hnd hcn)
 have HSV := Lib.hid hsv
 clear hD hS hg hin hf hR hok hdup hnd hcn hw hm hL hX
 rw [hsv]
 go_enter Tryz.func39, Tryz.ntmps39
 go_wp2_with (go_at_call 64; refine hc.mono ?_; rintro e w1 ⟨cv, rfl, hco, hb1⟩; (obtain ⟨ca, cc, hcv, hcl, hcm⟩ := (CAt.of_own hco HL.out.symm).shape); rw [HL.out] at hcv hcl; subst hcv)
 have hDw := HD.out
 have hB1 := row_up hDw.box hb1
 have h0 : DropI w1 B M bv l f 0 (.slice (some ⟨w1.heap.size, 0, none⟩) 0 L) (w1.alloc (.cells cur 48)) := by
  refine ⟨World.ownsRow_made w1 cur L (Nat.le_refl _) (by unfold maxLen; omega) hcur, (Keep.refl _ _ _).alloc (Nat.le_refl _) _, row_al hB1 _, l.map idC, (hDw.names.below hb1).alloc _, by rw [List.length_map, HL.out]; exact hl, ?_, fun x => ?_⟩
  ·exact mem_offs (fun c hc => (HN.out.2 c hc).2) (fun _ h => h)
  ·rw [List.drop_zero]
   exact Iff.rfl
 have H0 := Lib.hid h0
 have H1 := Lib.hid (And.intro (CAt.of_own hco HL.out.symm) (And.intro hb1 (hDw.names.below hb1)))
 clear hDw hB1 h0 hco hb1 hmk hc
 generalize w1.alloc (.cells cur 48) = w2 at H0 ⊢
 obtain ⟨i0, hi0, hz0, hz1, hz2⟩ := infoCellI
 go_loopw [5, 6, 16] (fun lv fv ix wr => ∃ (i F : Nat) (la : Option Addr) (ln lc : Nat), ix = .int .i64 i ∧ fv = .int .i64 F ∧ lv = .slice la ln lc ∧ i ≤ X ∧ RowKit.Hid ((∀ t ∈ xs.take i, t.1 + t.2 ≤ (F : Int)) ∧ (∀ t ∈ xs.drop i, (F : Int) ≤ t.1) ∧ F ≤ L ∧ DropI w1 B M bv l f F (.slice la ln lc) wr)) (fun _ _ ix _ => X - (intOf ix).toNat)
 case atStart => exact ⟨0, 0, _, _, _, rfl, rfl, rfl, Nat.zero_le _, Lib.hid ⟨fun t ht => by simp at ht, fun t ht => (HX.out.2.1.1 t (by simpa using ht)).2.1, Nat.zero_le _, H0.out⟩⟩
 case round =>
  rename World => wr
  clear H0
  obtain ⟨i, F, la, ln, lc, rfl, rfl, rfl, hi, hI⟩ := hrel
  rcases Nat.lt_or_ge i X with hlt | hge
  ·have hxi : i < xs.length := by rw [HX.out.1]; exact hlt
   obtain ⟨s, hs⟩ : ∃ s, xs[i]? = some s := ⟨_, List.getElem?_eq_getElem hxi⟩
   obtain ⟨hlow, hup, hFL, hDI⟩ := hI.out
   obtain ⟨b, off, cap', hv, c0, c1⟩ := ((HS.out.below H1.out.2.1).km H1.out.2.2 hDI.keep).at hxi
   rw [getD_of hs] at c0 c1
   rw [HX.out.1] at hv
   have hv2 := HSV.out.symm.trans hv
   cases hv2
   have hs0 := HX.out.2.1.1 s (List.mem_of_getElem? hs)
   have hs2 := HX.out.2.2.1 s (List.mem_of_getElem? hs)
   have hFs : (F : Int) ≤ s.1 := hup s (by rw [List.drop_eq_getElem_cons hxi, (List.getElem?_eq_some_iff.1 hs).2]; exact List.mem_cons_self ..)
   obtain ⟨a, ha⟩ : ∃ a : Nat, s.1 = (a : Int) := ⟨s.1.toNat, by omega⟩
   obtain ⟨m, hm'⟩ : ∃ m : Nat, s.2 = (m : Int) := ⟨s.2.toNat, by omega⟩
   obtain ⟨E, hE⟩ : ∃ E, a + m = E := ⟨_, rfl⟩
   have hwE : IntKind.i64.wrap ((a : Int) + (m : Int)) = ((E : Nat) : Int) := by rw [← hE]; exact (IntWalk.i64_in _ (by omega)).trans (by push_cast; rfl)
   have hFa : F ≤ a := by omega
   have haE : a ≤ E := by omega
   have hEL : E ≤ L := by omega
   have hix : (0 : Int) ≤ (i : Int) ∧ (i : Int) < (X : Int) := ⟨by omega, by omega⟩
   rw [ha] at c0
   rw [hm'] at c1
   have hDB := Lib.hid (hDI.alloc (.cells #[.int .i64 (a : Int), .int .i64 (m : Int)] 120))
   have HBx := Lib.hid (heap_new wr (.cells #[.int .i64 (a : Int), .int .i64 (m : Int)] 120))
   have HSX := Lib.hid (And.intro hs (And.intro ha (And.intro hm' hE)))
   have hcv := (H1.out.1.km H1.out.2.2 hDB.out.keep)
   have hsub := hcv.sub F a hFa (by rw [HL.out]; omega)
   obtain ⟨ad1, had1⟩ : ∃ z, (if cc = F then ca else Option.map (fun x : Addr => x.add (F * 5)) ca) = z := ⟨_, rfl⟩
   obtain ⟨ad2, had2⟩ : ∃ z, (if cc = a then ca else Option.map (fun x : Addr => x.add (a * 5)) ca) = z := ⟨_, rfl⟩
   rw [had1] at hsub
   have HSUB := Lib.hid hsub
   have HI2 := Lib.hid (And.intro hlow (And.intro hup hFL))
   obtain ⟨I, hI1, hI2, hI3, hI4⟩ := hDB.out.names
   have HNM := Lib.hid (And.intro hI1 (And.intro hI2 (And.intro hI3 hI4)))
   have HOW := Lib.hid hDB.out.own
   have HKB := Lib.hid (And.intro hDB.out.keep hDB.out.box)
   have hkl : (keptC l f F).length ≤ F := keptC_le l f F
   have hpl : ((l.drop F).take (a - F)).length = a - F := by rw [List.length_take, List.length_drop, HL.out]; omega
   have z3 : (keptC l f F).length + ((l.drop F).take (a - F)).length ≤ maxLen := by rw [hpl]; unfold maxLen; omega
   have z4 : ((keptC l f F).length + ((l.drop F).take (a - F)).length) * 32 ≤ 140737488355328 := by rw [hpl]; omega
   clear hs ha hm' hE hDI hlow hup hs0 hs2 hFs hxi hcv hsub hv hI hI1 hI2 hI3 hI4 hDB hkl hpl
   go_wp2_with (at_builtin; go_must (refine wpList_app_any rfl _ _ 22 rfl w1.heap.size 48 i0 (.agg #[.int .i64 0, .int .i64 0, .int .i64 0, .int .i32 0, .bool false]) 5 32 Tryz.underlying22 hi0 hz0 hz1 hz2 rfl (by decide) _ _ _ rfl HOW.out _ _ _ rfl HSUB.out.reads (cCells_ones _) z3 z4 (HKB.out.1.size) ?_; intro v4 w4 ho4 hg4; (have t1 := row_grown HBx.out hg4 HOW.out (by decide)); (have s0 := box_cell t1 0); (have s1 := box_cell t1 1); (obtain ⟨q1, q2, q3, rfl⟩ := slice_of ho4)))
   have hk4 : Keep (fun k => k = M) w1.heap.size w1 w4 := HKB.out.1.grown hg4 HKB.out.1.size (fun g hg => .inr (own_typed HOW.out g hg).1)
   have hb4 := row_grown HKB.out.2 hg4 HOW.out (by decide)
   have hm4 : NMap w4 M I := HNM.out.1.kept (hg4.block M HNM.out.1.lt (fun e => by have := (own_typed HOW.out M e.symm).1; have := H1.out.2.2.lt; omega))
   have hsub2 := (H1.out.1.km H1.out.2.2 hk4).sub a E haE (by rw [HL.out]; exact hEL)
   rw [had2] at hsub2
   have hmemp : ∀ c ∈ (l.drop a).take (E - a), c ∈ l := fun c hc => List.mem_of_mem_drop (List.mem_of_mem_take hc)
   have hfg := forget_any B M bv I _ _ w4 hb4 hm4 hsub2 (fun c hc => HN.out.2 c (hmemp c hc)) HNM.out.2.2.1 (by have := HNM.out.2.1; omega) (by rw [List.length_take]; omega)
   have HFG := Lib.hid hfg
   have H4 := Lib.hid (And.intro hk4 (And.intro ho4 H1.out.2.2))
   clear hk4 hb4 hm4 hsub2 hmemp hfg hg4 t1 s0 s1 ho4
   refine HFG.out.mono ?_
   clear HFG
   rintro e w5 ⟨⟨_, rfl⟩, hn5, hk5, hb5⟩
   have HN5 := Lib.hid (And.intro hn5 (And.intro hk5 hb5))
   clear hn5 hk5 hb5
   go_wp2
   obtain ⟨hk4, ho4, hm1⟩ := H4.out
   obtain ⟨hn5, hk5, hb5⟩ := HN5.out
   obtain ⟨hs, ha, hm', hE⟩ := HSX.out
   have hfm := HX.out.2.2.2
   have h1 : ∀ j, F ≤ j → j < a → f j = false := fun j h1 h2 => by
    rw [← hfm]
    refine mark_out (k := i) HI2.out.1 (by omega) fun t ht => ?_
    rw [List.drop_eq_getElem_cons (by rw [HX.out.1]; exact hlt), (List.getElem?_eq_some_iff.1 hs).2] at ht
    rcases List.mem_cons.1 ht with rfl | ht
    ·omega
    ·have := low_next (F := E) HX.out.2.1.2 hs (by omega) t ht
     omega
   have h2 : ∀ j, a ≤ j → j < E → f j = true := fun j h1 h2 => by
    rw [← hfm]
    exact mark_in (List.mem_of_getElem? hs) j (by omega) (by omega)
   have e1 : keptC l f E = keptC l f F ++ (l.drop F).take (a - F) := by
    have q1 := keptC_stay (l := l) (f := f) F (a - F) (by rw [HL.out]; omega) (fun j g1 g2 => h1 j g1 (by omega))
    have q2 := keptC_skip (l := l) (f := f) a (E - a) (fun j g1 g2 => h2 j g1 (by omega))
    rw [show F + (a - F) = a by omega] at q1
    rw [show a + (E - a) = E by omega] at q2
    rw [q2, q1]
   refine ⟨⟨i + 1, E, q1, q2, q3, by go_num, rfl, rfl, by omega, Lib.hid ⟨fun t ht => ?_, low_next HX.out.2.1.2 hs (by omega), hEL, ?_, hk4.trans (hk5.weak hk4.size (fun _ _ h => h)), hb5, forgN I ((l.drop a).take (E - a)), hn5, Nat.le_trans (forgN_len _ _) HNM.out.2.1, fun x hx => HNM.out.2.2.1 x (forgN_mem.1 hx).1, forg_part HN.out.1 hFa haE (by rw [HL.out]; exact hEL) h1 h2 HNM.out.2.2.2⟩⟩, by simp [intOf]; omega⟩
   ·rw [List.take_add_one, hs] at ht
    rcases List.mem_append.1 ht with ht | ht
    ·have := HI2.out.1 t ht
     omega
    ·obtain rfl : t = s := by simpa using ht
     omega
   ·rw [e1, List.length_append, cCells_append]
    refine own_keepS ho4 hk5 fun g hg e => ?_
    have := (own_typed ho4 g hg).1
    have := hm1.lt
    omega
  ·obtain rfl : X = i := by omega
   obtain ⟨hlow, hup, hFL, hDI⟩ := hI.out
   have hfm := HX.out.2.2.2
   have htl : xs.take X = xs := List.take_of_length_le (by rw [HX.out.1]; exact Nat.le_refl _)
   have hfin : keptC l f L = keptC l f F ++ (l.drop F).take (L - F) := by
    have q1 := keptC_stay (l := l) (f := f) F (L - F) (by rw [HL.out]; omega) (fun j g1 g2 => by
     rw [← hfm]
     refine mark_out (k := X) hlow (by omega) fun t ht => ?_
     rw [List.drop_of_length_le (by rw [HX.out.1]; exact Nat.le_refl _)] at ht
     cases ht)
    rwa [show F + (L - F) = L by omega] at q1
   obtain ⟨ad1, had1⟩ : ∃ z, (if cc = F then ca else Option.map (fun x : Addr => x.add (F * 5)) ca) = z := ⟨_, rfl⟩
   have hsub := (H1.out.1.km H1.out.2.2 hDI.keep).sub F L hFL (by rw [HL.out]; exact Nat.le_refl _)
   rw [had1] at hsub
   have HSUB := Lib.hid hsub
   have HOW := Lib.hid hDI.own
   have HKB := Lib.hid (And.intro hDI.keep (And.intro hDI.box (And.intro hDI.names hfin)))
   have hkl : (keptC l f F).length ≤ F := keptC_le l f F
   have hpl : ((l.drop F).take (L - F)).length = L - F := by rw [List.length_take, List.length_drop, HL.out]; omega
   have z3 : (keptC l f F).length + ((l.drop F).take (L - F)).length ≤ maxLen := by rw [hpl]; unfold maxLen; omega
   have z4 : ((keptC l f F).length + ((l.drop F).take (L - F)).length) * 32 ≤ 140737488355328 := by rw [hpl]; omega
   clear hlow hup hDI hfm htl hfin hsub hkl hpl hI
   go_wp2_with (at_builtin; go_must (refine wpList_app_any rfl _ _ 22 rfl w1.heap.size 48 i0 (.agg #[.int .i64 0, .int .i64 0, .int .i64 0, .int .i32 0, .bool false]) 5 32 Tryz.underlying22 hi0 hz0 hz1 hz2 rfl (by decide) _ _ _ rfl HOW.out _ _ _ rfl HSUB.out.reads (cCells_ones _) z3 z4 (HKB.out.1.size) ?_; intro v4 w4 ho4 hg4; (obtain ⟨q1, q2, q3, rfl⟩ := slice_of ho4)))
   obtain ⟨hkr, hbr, ⟨I, hI1, hI2, hI3, hI4⟩, hfin⟩ := HKB.out
   have hk4 : Keep (fun k => k = M) w1.heap.size w1 w4 := hkr.grown hg4 hkr.size (fun g hg => .inr (own_typed HOW.out g hg).1)
   have hb4 := row_grown hbr hg4 HOW.out (by decide)
   have hm4 : NMap w4 M I := hI1.kept (hg4.block M hI1.lt (fun e => by have := (own_typed HOW.out M e.symm).1; have := H1.out.2.2.lt; omega))
   have hm5 : NMap w4 M ((keptC l f L).map idC) := hm4.congr fun x => by
    rw [hI4, hfin, List.take_of_length_le (by rw [List.length_drop, HL.out]; exact Nat.le_refl _)]
   rw [← cCells_append, ← List.length_append, ← hfin] at ho4
   have hkl : (keptC l f L).length ≤ L := keptC_le l f L
   have hla := laid_any _ (keptC l f L) w4 (CAt.of_own ho4 rfl) (by omega)
   have hkw : Keep (fun k => k = B ∨ k = M) w.heap.size w w4 := (Keep.of_below H1.out.2.1 (Nat.le_refl _)).trans (hk4.weak H1.out.2.1.size (fun _ _ h => .inr h))
   have HZ := Lib.hid (And.intro hb4 (And.intro hm5 hkw))
   have HLA := Lib.hid hla
   clear hkr hbr hI1 hI2 hI3 hI4 hfin hk4 hb4 hm4 hm5 ho4 hkl hla hkw hg4
   refine HLA.out.mono ?_
   clear HLA
   rintro e w5 ⟨bv5, bs5, rfl, hbk, hcat, hfew, ⟨hfull, -⟩, hb5⟩
   have hx5 := row_up HZ.out.1 hb5
   have y0 := box_cell hx5 0
   have y1 := box_frozen hx5 0
   obtain ⟨ao5, n5, c5, rfl⟩ := slice_of hbk.row
   have H5 := Lib.hid (And.intro hbk (And.intro hcat (And.intro hfew (And.intro hfull (And.intro hb5 hx5)))))
   clear hbk hcat hfew hfull hb5 hx5
   go_wp2
   obtain ⟨hbk, hcat, hfew, hfull, hb5, hx5⟩ := H5.out
   obtain ⟨hb4, hm5, hkw⟩ := HZ.out
   go_end0
   refine ⟨⟨_, rfl⟩, _, bs5, box_set hx5 0 _, (hbk.lower hkw.size).set hx5 (by decide) (by decide), hcat, hfew, hfull, (hm5.below hb5).set (fun e => by subst e; exact absurd rfl (ne_map hm5 hb4)), ?_⟩
   exact (hkw.trans (Keep.of_below hb5 hkw.size)).setCell (p := ⟨B, 0, none⟩) (.inl (.inl rfl)) _
end Go.Proofs.YtmedickofiielaaGreatDoor

namespace Go.Proofs.YtmedickofiielaaGreatDoor
open Go.RowKit Go.Shelf
attribute [local go_sem] Oper.semAt_some

structure DocN (W : World) (n₀ B M : Nat) (bv : Value) (bs : List PB) (l : List PCell) : Prop where
 box : W.heap[B]? = some (.cells #[bv, .map (some M)] 90 (0, 0))
 blocks : Blocks W n₀ bv bs
 cat : catB bs = l
 few : bs.length ≤ 1000000
 full : ∀ x ∈ bs, x.cs ≠ []
theorem DocN.docR {W : World} {n₀ B M : Nat} {bv : Value} {bs : List PB} {l : List PCell} (h : DocN W n₀ B M bv bs l) (hl : l.length ≤ 100000) : DocR W B bv (.map (some M)) bs :=
 ⟨h.box, RowR.of_own h.blocks.row, h.blocks.cells, by rw [h.cat]; exact hl, h.few⟩
def footB (B : Nat) (bv : Value) (bs : List PB) (k : Nat) : Prop := k = B ∨ bv.ownBlock = some k ∨ ∃ x ∈ bs, x.v.ownBlock = some k
structure PutD (w : World) (n₀ B M : Nat) (F : Nat → Prop) (l : List PCell) (X : World) (bv : Value) (bs : List PB) : Prop where
 box : X.heap[B]? = some (.cells #[bv, .map (some M)] 90 (0, 0))
 blocks : Blocks X n₀ bv bs
 cat : catB bs = l
 full : ∀ x ∈ bs, x.cs ≠ []
 newv : ∀ g, bv.ownBlock = some g → F g ∨ w.heap.size ≤ g
 newx : ∀ x ∈ bs, ∀ g, x.v.ownBlock = some g → F g ∨ w.heap.size ≤ g
 keep : Keep F w.heap.size w X
theorem PutD.turn {w X Y : World} {n₀ B M : Nat} {F : Nat → Prop} {l : List PCell} {bv : Value} {bs : List PB} {row : Option Nat} (h : PutD w n₀ B M F l X bv bs) (hg : X.grownBy Y row) (hr : ∀ r, row = some r → w.heap.size ≤ r ∧ ∃ o : Obj, X.heap[r]? = some o ∧ o.isCells = false) : PutD w n₀ B M F l Y bv bs :=
 ⟨row_turn h.box hg (fun r e => (hr r e).2), h.blocks.turn hg (fun r e => (hr r e).2), h.cat, h.full, h.newv, h.newx, h.keep.grown hg h.keep.size (fun r e => .inr (hr r e).1)⟩
theorem PutD.turnT {w X Y : World} {n₀ B M n : Nat} {F : Nat → Prop} {l : List PCell} {bv : Value} {bs : List PB} {row : Option Nat} (h : PutD w n₀ B M F l X bv bs) (hB : B < n) (hn : w.heap.size ≤ n) (hg : X.grownBy Y row) (hr : ∀ r, row = some r → n ≤ r ∧ ∃ o : Obj, X.heap[r]? = some o ∧ (o.isCells = false ∨ ∃ c t fr, o = .cells c t fr ∧ ¬ RowT t)) : PutD w n₀ B M F l Y bv bs :=
 ⟨far_kept hg hr hB h.box, ⟨own_turnT h.blocks.row hg (fun r e => (hr r e).2) (by unfold RowT; decide), fun x hx => own_turnT (h.blocks.own x hx) hg (fun r e => (hr r e).2) (by unfold RowT; decide), h.blocks.apart⟩, h.cat, h.full, h.newv, h.newx, h.keep.grown hg h.keep.size (fun r e => .inr (Nat.le_trans hn (hr r e).1))⟩
theorem own_one {W : World} {n₀ : Nat} {e : TypeId} {sz : Nat} {v : Value} {n : Nat} {xs : List Value} (h : W.ownsRow n₀ e sz v n xs) : v.oneCell' = true := by
 obtain ⟨a, n, c, rfl⟩ := slice_of h
 rfl
theorem cat_len : ∀ {bs : List PB}, (∀ x ∈ bs, x.cs ≠ []) → bs.length ≤ (catB bs).length
 | [], _ => Nat.le_refl _
 | b :: r, h => by
  have h1 := cat_len (bs := r) (fun x hx => h x (List.mem_cons_of_mem _ hx))
  have h2 := List.length_pos_iff.2 (h b (List.mem_cons_self ..))
  show r.length + 1 ≤ (b.cs ++ catB r).length
  rw [List.length_append]
  omega
theorem skip_from {bs : List PB} {p : Nat} : ∀ k, k ≤ bs.length → (∀ i ∈ begK bs k, frB bs i + bs[i].cs.length < p) → (catB (bs.take k)).length ≤ p
 | 0, _, _ => Nat.zero_le _
 | k + 1, hk, h => by
  have hx : bs[k]? = some bs[k] := List.getElem?_eq_getElem (by omega)
  have h1 := h ⟨k, by omega⟩ (by rw [begK_next bs k (by omega)]; simp)
  rw [catB_take hx, List.length_append]
  exact Nat.le_of_lt h1
set_option maxRecDepth 100000 in
set_option maxHeartbeats 16000000 in
theorem dput_any (n₀ n₁ B M p : Nat) (bv u : Value) (bs : List PB) (ms l : List PCell) (w : World) (hD : DocN w n₀ B M bv bs l) (hl : l.length + ms.length ≤ 100000) (hp : p ≤ l.length) (hu : w.ownsRow n₁ 48 5 u ms.length (cCells ms)) (hap : ∀ x ∈ bs, ∀ g, x.v.ownBlock = some g → u.ownBlock = some g → False) (hn : n₀ ≤ w.heap.size) :
  Calls Tryz.prog 48 #[.pointer (some ⟨B, 0, none⟩), .int .i64 (p : Int), u] w fun e w' => (∃ r, e = .returned r) ∧ ∃ bv' bs', PutD w n₀ B M (footB B bv bs) (l.take p ++ ms ++ l.drop p) w' bv' bs' := by
 have HR := Lib.hid (hD.docR (by omega))
 have HD := Lib.hid hD
 have HU := Lib.hid (And.intro hu (And.intro hap (And.intro hp (And.intro hl hn))))
 have hbeg := fun W => begins_any (some ⟨B, 0, none⟩) W
 obtain ⟨ua, un, uc, rfl⟩ := slice_of hu
 have A0 := row_al (row_al (row_al (heap_new w (.cells #[.pointer (some ⟨B, 0, none⟩)] 27)) (.cells #[.int .i64 (p : Int)] 3)) (.cells #[.slice ua un uc] 22)) (.cells #[.pointer (some ⟨B, 0, none⟩)] 27)
 have A1 := row_al (row_al (heap_new1 w (.cells #[.pointer (some ⟨B, 0, none⟩)] 27) (.cells #[.int .i64 (p : Int)] 3)) (.cells #[.slice ua un uc] 22)) (.cells #[.pointer (some ⟨B, 0, none⟩)] 27)
 have A2 := row_al (heap_new2 w (.cells #[.pointer (some ⟨B, 0, none⟩)] 27) (.cells #[.int .i64 (p : Int)] 3) (.cells #[.slice ua un uc] 22)) (.cells #[.pointer (some ⟨B, 0, none⟩)] 27)
 have A3 := heap_new3 w (.cells #[.pointer (some ⟨B, 0, none⟩)] 27) (.cells #[.int .i64 (p : Int)] 3) (.cells #[.slice ua un uc] 22) (.cells #[.pointer (some ⟨B, 0, none⟩)] 27)
 have AB : Below w.heap.size w ((((w.alloc (.cells #[.pointer (some ⟨B, 0, none⟩)] 27)).alloc (.cells #[.int .i64 (p : Int)] 3)).alloc (.cells #[.slice ua un uc] 22)).alloc (.cells #[.pointer (some ⟨B, 0, none⟩)] 27)) := ((((Below.refl _ w).alloc (Nat.le_refl _) _).alloc (by simp) _).alloc (by simp; omega) _).alloc (by simp; omega) _
 have AS : ((((w.alloc (.cells #[.pointer (some ⟨B, 0, none⟩)] 27)).alloc (.cells #[.int .i64 (p : Int)] 3)).alloc (.cells #[.slice ua un uc] 22)).alloc (.cells #[.pointer (some ⟨B, 0, none⟩)] 27)).heap.size = w.heap.size + 1 + 1 + 1 + 1 := by simp
 have HA := Lib.hid (And.intro A0 (And.intro A1 (And.intro A2 (And.intro A3 (And.intro AB AS)))))
 clear hD hl hp hu hap hn A0 A1 A2 A3 AB AS
 refine (callsIn_wide (n := 4)).1 ?_
 refine callsIn_of_wp_marks Tryz.func48 rfl trivial ?_ rfl
 simp only [Tryz.ntmps48, List.size_toArray, List.length_cons, List.length_nil, Nat.reduceAdd, Nat.reduceSub, Array.replicate_succ, Array.replicate_zero, List.push_toArray, List.append_toArray, List.nil_append, List.cons_append]
 gi_wp2_with (refine ⟨trivial, ?_⟩; gi_at_call 52; refine (callsIn_wide.2 (hbeg _)).mono ?_; rintro e _ ⟨rfl, rfl⟩)
 obtain ⟨A0, A1, A2, A3, AB, AS⟩ := HA.out
 generalize ((((w.alloc (.cells #[.pointer (some ⟨B, 0, none⟩)] 27)).alloc (.cells #[.int .i64 (p : Int)] 3)).alloc (.cells #[.slice ua un uc] 22)).alloc (.cells #[.pointer (some ⟨B, 0, none⟩)] 27)) = w3 at A0 A1 A2 A3 AB AS ⊢
 clear HA
 have hB0 : B < w.heap.size := box_lt HD.out.box
 have hst := begins_stopsL 3 (by decide) (w.heap.size + 1 + 1 + 1) (w.heap.size + 1 + 1 + 1) B bv (.map (some M)) bs w HR.out w3 AB A3 (Nat.le_refl _)
 refine wpIn_rangeFunc_ownL RowT rfl (by decide) (gf := 81) (lb := #[.pointer (some ⟨w.heap.size + 1 + 1 + 1, 0, none⟩)]) rfl trivial (enters_of Tryz.func81 (by kernel_rfl) rfl)
  hst (fun h k => kf_t h k) (fun X l o o' h1 _ h3 h4 h5 => kf_b (w := w3) (by omega) X l o o' h1 h3 h4 h5) (fun _ => rfl)
  (fun pre X => ((∀ i ∈ pre, frB bs i + bs[i].cs.length < p) ∧ X.heap[w.heap.size]? = some (.cells #[.pointer (some ⟨B, 0, none⟩)] 27 (0, 0)) ∧ X.heap[w.heap.size + 1]? = some (.cells #[.int .i64 (p : Int)] 3 (0, 0)) ∧ X.heap[w.heap.size + 1 + 1]? = some (.cells #[.slice ua un uc] 22 (0, 0))) ∧ Below w.heap.size w X)
  (fun c pre X => c = .ret ∧ ∃ bv' bs', PutD w n₀ B M (footB B bv bs) (l.take p ++ ms ++ l.drop p) X bv' bs')
  (OwnFrom.and (Own.from (fun s A B row hs hg hr => ⟨hs.1, row_turn hs.2.1 hg hr, row_turn hs.2.2.1 hg hr, row_turn hs.2.2.2 hg hr⟩) _) (ownFrom_below (Nat.le_refl _) (by omega)))
  (fun c s A C row hs hg hr => ⟨hs.1, by obtain ⟨bv', bs', h⟩ := hs.2; exact ⟨bv', bs', h.turn hg (fun r e => ⟨by have := (hr r e).1; omega, (hr r e).2⟩)⟩⟩)
  (fun s A C row hs hg hr => ⟨⟨hs.1.1, far_kept hg hr (by omega) hs.1.2.1, far_kept hg hr (by omega) hs.1.2.2.1, far_kept hg hr (by omega) hs.1.2.2.2⟩, hs.2.grown hg (by have := hs.2.size; omega) (fun r e => by have := (hr r e).1; omega)⟩)
  (fun c s A C row hs hg hr => ⟨hs.1, by obtain ⟨bv', bs', h⟩ := hs.2; exact ⟨bv', bs', h.turnT (by omega) (by omega) hg hr⟩⟩)
  ⟨⟨(fun i hi => by cases hi), A0, A1, A2⟩, AB⟩
  (fun x => { tmps := #[.pointer (some ⟨B, 0, none⟩), .int .i64 (p : Int), .slice ua un uc, .pointer (some ⟨w.heap.size, 0, none⟩), .pointer (some ⟨w.heap.size + 1, 0, none⟩), .pointer (some ⟨w.heap.size + 1 + 1, 0, none⟩), .int .i64 (x.val : Int), .int .i64 ((catB (bs.take x.val)).length : Nat), undef, .pointer (some ⟨B, 0, none⟩), .func (.func 81) #[] #[.pointer (some ⟨w.heap.size + 1 + 1 + 1, 0, none⟩)], .int .i64 (x.val : Int), .int .i64 ((catB (bs.take x.val)).length : Nat), undef, undef, undef, undef, undef, undef, undef, undef, undef, undef, undef, undef, undef, undef, undef, undef, undef, undef, undef, undef, undef, undef, undef, undef, undef, undef, undef, undef, undef, undef, undef, undef, undef, undef, undef, undef, undef, undef, undef, undef, undef, undef, undef, undef, undef, undef, undef, undef], defers := [] }) ?assign ?body ?done ?stop
 case assign =>
  intro l x W K hK
  gi_wp2
  exact hK
 case body =>
  rintro lp pre x X ⟨⟨hsk, c0, c1, c2⟩, hB⟩ hlen hlk
  have hk : bs[x.val]? = some bs[x] := List.getElem?_eq_getElem x.isLt
  have hfr : frB bs x ≤ p := skip_from x.val (Nat.le_of_lt x.isLt) (by rw [← hlk]; exact hsk)
  have hle : frB bs x + bs[x].cs.length ≤ (catB bs).length := catB_le hk
  have hpl : p ≤ 100000 := Nat.le_trans HU.out.2.2.1 (by have := HU.out.2.2.2.1; omega)
  have hcl : (catB bs).length ≤ 100000 := by rw [HD.out.cat]; have := HU.out.2.2.2.1; omega
  have hll := liveN_gone bs[x].cs
  obtain ⟨g, cap, cur, rfl, hg0, hg, ha0, ha1, ha2, hback⟩ := blocks_parts HD.out.blocks.row hk
  obtain ⟨L, hL⟩ : ∃ z, liveN bs[x].cs = z := ⟨_, rfl⟩
  obtain ⟨G, hG⟩ : ∃ z, goneN bs[x].cs = z := ⟨_, rfl⟩
  obtain ⟨Fr, hFr⟩ : ∃ z, frB bs x = z := ⟨_, rfl⟩
  have hFr' : (catB (bs.take x.val)).length = Fr := hFr
  have hgX : X.heap[g]? = some (.cells cur 109 (0, 0)) := row_up hg hB
  have hi0 : (0 : Int) ≤ (x.val : Int) ∧ (x.val : Int) < (bs.length : Int) := ⟨by omega, by have := x.isLt; omega⟩
  have hbx := row_up HD.out.box hB
  have y0 := box_cell c0 0
  have y1 := box_cell hbx 0
  have HC := Lib.hid (And.intro c0 (And.intro c1 (And.intro c2 (And.intro hB (And.intro hgX (And.intro hbx hsk))))))
  have HG := Lib.hid (And.intro ha0 (And.intro ha1 ha2))
  have HLG := Lib.hid (And.intro hL (And.intro hG hFr))
  have HBK := Lib.hid hback
  rw [hL, hG] at hll
  rw [hFr] at hfr hle
  have hS := fun W => csize_any (L : Int) (G : Int) W (by omega) (by omega)
  have HS := Lib.hid hS
  have hw1 : IntKind.i64.wrap ((Fr : Int) + ((L : Int) + (G : Int))) = (Fr : Int) + ((L : Int) + (G : Int)) := IntWalk.i64_in _ (by omega)
  clear c0 c1 c2 hB hgX hbx hsk ha0 ha1 ha2 hL hG hFr hback hS hlen hlk hg
  dsimp only
  rw [hFr']
  rcases Nat.lt_or_ge (Fr + (L + G)) p with hgt | hgt
  ·have hsv : decide ((Fr : Int) + ((L : Int) + (G : Int)) < (p : Int)) = true := decide_eq_true (by omega)
   gi_wp2
   refine region_bridgeN (ro := some lp) (S := fun Z => Z.heap[w.heap.size]? = some (.cells #[.pointer (some ⟨B, 0, none⟩)] 27 (0, 0)) ∧ Z.heap[w.heap.size + 1]? = some (.cells #[.int .i64 (p : Int)] 3 (0, 0)) ∧ Z.heap[w.heap.size + 1 + 1]? = some (.cells #[.slice ua un uc] 22 (0, 0)) ∧ Z.heap[g]? = some (.cells cur 109 (0, 0)) ∧ Z.heap[B]? = some (.cells #[.slice (some ⟨g, 0, none⟩) bs.length cap, .map (some M)] 90 (0, 0)) ∧ Below w.heap.size w Z) (by kernel_rfl) (by kernel_rfl) ⟨HC.out.1, HC.out.2.1, HC.out.2.2.1, HC.out.2.2.2.2.1, HC.out.2.2.2.2.2.1, HC.out.2.2.2.1.drew⟩ (fun hHeld => ?_)
   refine tk (i := 0) (v := ?_) rfl (Or.inl ⟨rfl, ?hy1⟩) ?_
   case hy1 =>
    intro W hS
    obtain ⟨s0, s1, s2, s3, s4, -⟩ := hS
    have u1 := box_cell s1 0
    have u2 := (box_cell s3 (x.val * 3)).trans HG.out.1
    have u3 := (box_cell s3 (x.val * 3 + 1)).trans HG.out.2.1
    rw [HLG.out.1] at u2
    rw [HLG.out.2.1] at u3
    go_simp
    try with_reducible rfl
   try simp only [td]
   refine tk0 (i := 1) rfl ?_
   try simp only [td]
   refine tk0 (i := 2) rfl ?_
   try simp only [td]
   refine tk0 (i := 3) rfl ?_
   try simp only [td]
   refine tk0 (i := 4) rfl ?_
   try simp only [td]
   refine tk (i := 5) (v := ?_) rfl (Or.inl ⟨rfl, ?hy6⟩) ?_
   case hy6 =>
    intro W hS
    obtain ⟨s0, s1, s2, s3, s4, -⟩ := hS
    have u1 := box_cell s1 0
    have u2 := (box_cell s3 (x.val * 3)).trans HG.out.1
    have u3 := (box_cell s3 (x.val * 3 + 1)).trans HG.out.2.1
    rw [HLG.out.1] at u2
    rw [HLG.out.2.1] at u3
    go_simp
    try with_reducible rfl
   try simp only [td]
   refine rd 6 rfl fun K hK => ?_
   go_simp
   go_wp2_with (go_at_call 40; refine (HS.out _).mono ?_; rintro e wq ⟨rfl, hb⟩)
   refine hK.out _ _ (⟨row_up hHeld.1 hb, row_up hHeld.2.1 hb, row_up hHeld.2.2.1 hb, row_up hHeld.2.2.2.1 hb, row_up hHeld.2.2.2.2.1 hb, hHeld.2.2.2.2.2.trans (hb.mono hHeld.2.2.2.2.2.size)⟩) (fun hX => ?_)
   clear hK K hHeld
   have hHeld := hX
   clear hX
   refine tk0 (i := 7) rfl ?_
   try simp only [td]
   refine tk0 (i := 8) rfl ?_
   try simp only [td]
   refine wpAnyH_done (by kernel_rfl) ?_ _
   obtain ⟨q0, q1, q2, q3, q4, qB⟩ := hHeld
   have HQ := Lib.hid (And.intro q0 (And.intro q1 (And.intro q2 (And.intro qB (And.intro (others_below hb) (KF.below (W := X.drew) (m₁ := w.heap.size + 1 + 1 + 1) HC.out.2.2.2.1.size hb))))))
   clear q0 q1 q2 q3 q4 qB hb
   simp only [onlyN]
   gi_wp2
   obtain ⟨q0, q1, q2, qB, hO, hF⟩ := HQ.out
   refine ⟨(KeepsOthers.drew X).trans hO, kf_t ((KF.refl _ _ X).drew) hF, ⟨⟨fun i hi => ?_, q0, q1, q2⟩, qB⟩⟩
   rcases List.mem_append.1 hi with h | h
   ·exact HC.out.2.2.2.2.2.2 i h
   ·rw [List.mem_singleton.1 h, HLG.out.2.2]
    have := liveN_gone bs[x].cs
    rw [HLG.out.1, HLG.out.2.1] at this
    omega
  ·have hsv : decide ((Fr : Int) + ((L : Int) + (G : Int)) < (p : Int)) = false := decide_eq_false (by omega)
   gi_wp2
   refine region_bridgeN (ro := some lp) (S := fun Z => Z.heap[w.heap.size]? = some (.cells #[.pointer (some ⟨B, 0, none⟩)] 27 (0, 0)) ∧ Z.heap[w.heap.size + 1]? = some (.cells #[.int .i64 (p : Int)] 3 (0, 0)) ∧ Z.heap[w.heap.size + 1 + 1]? = some (.cells #[.slice ua un uc] 22 (0, 0)) ∧ Z.heap[g]? = some (.cells cur 109 (0, 0)) ∧ Z.heap[B]? = some (.cells #[.slice (some ⟨g, 0, none⟩) bs.length cap, .map (some M)] 90 (0, 0)) ∧ Below w.heap.size w Z) (by kernel_rfl) (by kernel_rfl) ⟨HC.out.1, HC.out.2.1, HC.out.2.2.1, HC.out.2.2.2.2.1, HC.out.2.2.2.2.2.1, HC.out.2.2.2.1.drew⟩ (fun hHeld => ?_)
   refine tk (i := 0) (v := ?_) rfl (Or.inl ⟨rfl, ?hy1⟩) ?_
   case hy1 =>
    intro W hS
    obtain ⟨s0, s1, s2, s3, s4, -⟩ := hS
    have u1 := box_cell s1 0
    have u2 := (box_cell s3 (x.val * 3)).trans HG.out.1
    have u3 := (box_cell s3 (x.val * 3 + 1)).trans HG.out.2.1
    rw [HLG.out.1] at u2
    rw [HLG.out.2.1] at u3
    go_simp
    try with_reducible rfl
   try simp only [td]
   refine tk0 (i := 1) rfl ?_
   try simp only [td]
   refine tk0 (i := 2) rfl ?_
   try simp only [td]
   refine tk0 (i := 3) rfl ?_
   try simp only [td]
   refine tk0 (i := 4) rfl ?_
   try simp only [td]
   refine tk (i := 5) (v := ?_) rfl (Or.inl ⟨rfl, ?hy6⟩) ?_
   case hy6 =>
    intro W hS
    obtain ⟨s0, s1, s2, s3, s4, -⟩ := hS
    have u1 := box_cell s1 0
    have u2 := (box_cell s3 (x.val * 3)).trans HG.out.1
    have u3 := (box_cell s3 (x.val * 3 + 1)).trans HG.out.2.1
    rw [HLG.out.1] at u2
    rw [HLG.out.2.1] at u3
    go_simp
    try with_reducible rfl
   try simp only [td]
   refine rd 6 rfl fun K hK => ?_
   go_simp
   go_wp2_with (go_at_call 40; refine (HS.out _).mono ?_; rintro e wq ⟨rfl, hb⟩)
   refine hK.out _ _ (⟨row_up hHeld.1 hb, row_up hHeld.2.1 hb, row_up hHeld.2.2.1 hb, row_up hHeld.2.2.2.1 hb, row_up hHeld.2.2.2.2.1 hb, hHeld.2.2.2.2.2.trans (hb.mono hHeld.2.2.2.2.2.size)⟩) (fun hX => ?_)
   clear hK K hHeld
   have hHeld := hX
   clear hX
   refine tk0 (i := 7) rfl ?_
   try simp only [td]
   refine tk0 (i := 8) rfl ?_
   try simp only [td]
   refine wpAnyH_done (by kernel_rfl) ?_ _
   obtain ⟨q0, q1, q2, q3, q4, qB⟩ := hHeld
   have z1 := box_cell q1 0
   have z2 := box_cell q2 0
   have hw2 : IntKind.i64.wrap ((p : Int) - (Fr : Int)) = ((p - Fr : Nat) : Int) := by rw [IntWalk.i64_in _ (by omega)]; omega
   have hux := fun Z (hZ : Below w.heap.size w Z) (hgZ : Z.heap[g]? = some (.cells cur 109 (0, 0))) => binsert_any n₀ n₁ (p - Fr) g (x.val * 3) cur bs[x].v (.slice ua un uc) bs[x].cs ms Z hgZ HG.out.1 HG.out.2.1 HG.out.2.2 (own_up (HD.out.blocks.own bs[x] (List.getElem_mem _)) hZ) (own_up HU.out.1 hZ) (HU.out.2.1 bs[x] (List.getElem_mem _)) (by have := liveN_gone bs[x].cs; rw [HLG.out.1, HLG.out.2.1] at this; omega) (by have := HU.out.2.2.2.1; have := liveN_gone bs[x].cs; rw [HLG.out.1, HLG.out.2.1] at this; omega) (Nat.le_trans HU.out.2.2.2.2 hZ.size)
   have HUX := Lib.hid (hux wq qB q3)
   have HQ := Lib.hid (And.intro q0 (And.intro q1 (And.intro q2 (And.intro q3 (And.intro q4 (And.intro qB (And.intro (others_below hb) (KF.below (W := X.drew) (m₁ := w.heap.size + 1 + 1 + 1) HC.out.2.2.2.1.size hb))))))))
   clear hux q0 q1 q2 q3 q4 qB hb
   simp only [onlyN]
   obtain ⟨R, hR⟩ : ∃ R, bs[x].cs.take (p - Fr) ++ ms ++ bs[x].cs.drop (p - Fr) = R := ⟨_, rfl⟩
   have hsx : ∀ y : PB, (bs.set x.val y)[x.val]? = some y := fun y => by rw [List.getElem?_set]; simp
   obtain ⟨L2, hL2⟩ : ∃ z, liveN R = z := ⟨_, rfl⟩
   obtain ⟨G2, hG2⟩ : ∃ z, goneN R = z := ⟨_, rfl⟩
   have hlr : L2 + G2 ≤ 100000 := by
    have h1 := liveN_gone R
    rw [hL2, hG2] at h1
    rw [h1, ← hR]
    have h2 := HU.out.2.2.2.1
    have h3 := congrArg List.length HD.out.cat
    have h4 := catB_le (List.getElem?_eq_getElem x.isLt : bs[x.val]? = some bs[x])
    simp only [List.length_append, List.length_take, List.length_drop]
    have h5 : (bs[x].cs).length ≤ l.length := by rw [← h3]; exact Nat.le_trans (Nat.le_add_left _ _) h4
    omega
   have hux := HUX.out
   have hbk := HBK.out
   rw [hR] at hux
   rw [hL2, hG2] at hux
   have hbk2 := fun (W : World) (v5 : Value) => hbk W ⟨R, v5⟩
   dsimp only at hbk2
   rw [hL2, hG2] at hbk2
   have HUY := Lib.hid hux
   have HBY := Lib.hid hbk2
   have HRR := Lib.hid (And.intro hR (And.intro hL2 hG2))
   have hS2 := fun W => csize_any (L2 : Int) (G2 : Int) W (by omega) (by omega)
   have HS2 := Lib.hid hS2
   clear hux hbk hbk2 hR hL2 hG2 hS2
   have hcat : catB (bs.set x.val (PB.mk R (.slice none 0 0))) = l.take p ++ ms ++ l.drop p := by
    have hk := (List.getElem?_eq_getElem x.isLt : bs[x.val]? = some bs[x])
    rw [catB_set hk, ← HD.out.cat, ← HRR.out.1]
    have hF3 := HLG.out.2.2
    rw [← hF3] at hfr hgt ⊢
    refine put_cat hk hfr ?_
    have := liveN_gone bs[x].cs
    rw [HLG.out.1, HLG.out.2.1] at this
    have : (catB (bs.take x.val)).length = frB bs x := rfl
    omega
   have hful6' : ∀ v5, ∀ z ∈ bs.set x.val (PB.mk R v5), z.cs ≠ [] := fun v5 z hz => by
    obtain ⟨j, hj, rfl⟩ := List.mem_iff_getElem.1 hz
    rw [List.length_set] at hj
    rw [List.getElem_set]
    split
    ·intro e
     have h1 : R = [] := e
     rw [← HRR.out.1] at h1
     have h2 := HD.out.full bs[x] (List.getElem_mem _)
     simp only [List.append_eq_nil_iff] at h1
     exact h2 (by rw [← List.take_append_drop (p - Fr) bs[x].cs, h1.1.1, h1.2]; rfl)
    ·exact HD.out.full _ (List.getElem_mem _)
   rcases Nat.lt_or_ge 256 (L2 + G2) with hbig | hsml
   ·have hd2 : (256 : Int) < (L2 : Int) + (G2 : Int) := by omega
    gi_wp2_with (refine ⟨trivial, ?_⟩; first
     | (gi_at_call 78; refine (callsIn_wide.2 HUY.out).mono ?_; rintro e w5 ⟨⟨_, rfl⟩, v5, hg5, ho5, hk5, hf5⟩; have hrow5 := HBY.out w5 v5 hg5; obtain ⟨g5, cap5, cur5, hve, -, hg5', e0, e1, e2, -⟩ := blocks_parts hrow5 (hsx ⟨R, v5⟩); have z3 := (box_cell hg5' (x.val * 3)).trans e0; have z4 := (box_cell hg5' (x.val * 3 + 1)).trans e1; dsimp only at z3 z4; rw [HRR.out.2.1] at z3; rw [HRR.out.2.2] at z4; have hge : g5 = g := (by injection hve with a _ _; injection a with a; injection a with a; exact a.symm); rw [hge] at z3 z4; clear hrow5 hg5' e0 e1 e2 hve hge)
     | (gi_at_call 40; refine (callsIn_wide.2 (HS2.out _)).mono ?_; rintro e w6 ⟨rfl, hb6⟩; have H5 := Lib.hid (And.intro hg5 (And.intro ho5 (And.intro hk5 (And.intro hf5 hb6)))); clear hg5 ho5 hk5 hf5 hb6))
    obtain ⟨q0, q1, q2, q3, q4, qB, hO, hFk⟩ := HQ.out
    obtain ⟨hg5, ho5, hk5, hf5, hb6⟩ := H5.out
    have hBq := HD.out.blocks.up qB
    have hk5' : Keep (fun j => (Value.slice (some ⟨g, 0, none⟩) bs.length cap).ownBlock = some j ∨ bs[x].v.ownBlock = some j) wq.heap.size wq w5 := hk5.weak (Nat.le_refl _) (fun q _ h => h.elim (fun e => .inl (by rw [e]; rfl)) .inr)
    have hB6 := (Blocks.one hBq (List.getElem?_eq_getElem x.isLt : bs[x.val]? = some bs[x]) (HBY.out w5 v5 hg5) ho5 hk5' hf5).up hb6
    have hBg : B ≠ g := fun e => by rw [e] at q4; rw [q3] at q4; cases q4
    have hBx : ¬ bs[x].v.ownBlock = some B := fun e => own_ne (hBq.own bs[x] (List.getElem_mem _)) q4 (by decide) e
    have hDg : w.heap.size ≠ g := fun e => by rw [e] at q0; rw [q3] at q0; cases q0
    have hDx : ¬ bs[x].v.ownBlock = some w.heap.size := fun e => own_ne (hBq.own bs[x] (List.getElem_mem _)) q0 (by decide) e
    have rB := row_up ((hk5.block B (box_lt q4) (fun h => h.elim hBg hBx)).trans q4) hb6
    have r0 := row_up ((hk5.block w.heap.size (box_lt q0) (fun h => h.elim hDg hDx)).trans q0) hb6
    obtain ⟨g6, cap6, cur6, hve6, -, rg, -, -, e6, -⟩ := blocks_parts hB6.row (hsx ⟨R, v5⟩)
    have hge : g6 = g := by injection hve6 with a _ _; injection a with a; injection a with a; exact a.symm
    rw [hge] at rg
    have hkF : Keep (footB B (Value.slice (some ⟨g, 0, none⟩) bs.length cap) bs) w.heap.size w w6 := ((Keep.of_below qB (Nat.le_refl _)).trans (hk5.weak qB.size (fun q _ h => h.elim (fun e => .inr (.inl (by rw [e]; rfl))) (fun e => .inr (.inr ⟨bs[x], List.getElem_mem _, e⟩))))).trans (Keep.of_below hb6 (Nat.le_trans qB.size hk5.size))
    have hoth : KeepsOthers X w6 := (KeepsOthers.drew X).trans (hO.trans ((hk5.others (fun q hq o ho => by
     rcases hq with e | e
     ·rw [e, q3] at ho; cases ho; rfl
     ·obtain ⟨_, c', hc'⟩ := own_typed (hBq.own bs[x] (List.getElem_mem _)) q e
      rw [hc'] at ho; cases ho; rfl)).trans (others_below hb6)))
    have hnew6 : ∀ z ∈ bs.set x.val (PB.mk R v5), ∀ q, z.v.ownBlock = some q → footB B (Value.slice (some ⟨g, 0, none⟩) bs.length cap) bs q ∨ w.heap.size ≤ q := fun z hz q hq => by
     obtain ⟨j, hj, rfl⟩ := List.mem_iff_getElem.1 hz
     rw [List.length_set] at hj
     rw [List.getElem_set] at hq
     split at hq
     ·rcases hf5 q hq with e | e
      ·exact .inl (.inr (.inr ⟨bs[x], List.getElem_mem _, e⟩))
      ·exact .inr (Nat.le_trans qB.size e)
     ·exact .inl (.inr (.inr ⟨_, List.getElem_mem _, hq⟩))
    have hRl : R.length = L2 + G2 := by
     have h1 := liveN_gone R
     rw [HRR.out.2.1, HRR.out.2.2] at h1
     exact h1.symm
    have hla := laid_any v5 R w6.drew (CAt.of_own (own_up ho5 hb6.drew) rfl) (by omega)
    have hwk : IntKind.i64.wrap ((x.val : Int) + 1) = ((x.val + 1 : Nat) : Int) := by rw [IntWalk.i64_in _ (by have := x.isLt; have := HD.out.few; omega)]; omega
    have hs6 : w.heap.size ≤ w6.heap.size := hkF.size
    obtain ⟨a5, m5, c5, rfl⟩ := slice_of ho5
    have hful6 := hful6' (.slice a5 m5 c5)
    have H8 := Lib.hid (And.intro hB6 (And.intro rB (And.intro r0 (And.intro rg (And.intro e6 (And.intro hkF (And.intro hoth (And.intro hnew6 (And.intro hRl (And.intro hBg hDg))))))))))
    have HLA8 := Lib.hid hla
    clear q0 q1 q2 q3 q4 qB hO hFk hg5 ho5 hk5 hf5 hb6 hBq hk5' hB6 hBg hBx hDg hDx rB r0 rg e6 hve6 hge hkF hoth hnew6 hRl hla z3 z4 z1 z2
    refine region_bridgeN (ro := some lp) (S := fun Y => Y.heap[w.heap.size]? = some (.cells #[.pointer (some ⟨B, 0, none⟩)] 27 (0, 0)) ∧ ∃ z, Y.heap[B]? = some (.cells #[z, .map (some M)] 90 (0, 0))) (by kernel_rfl) (by kernel_rfl) ⟨H8.out.2.2.1, _, H8.out.2.1⟩ (fun hHeld => ?_)
    refine tk (i := 0) (v := ?_) rfl (Or.inl ⟨rfl, ?hy13⟩) ?_
    case hy13 =>
     intro W hS
     have u0 := box_cell hS.1 0
     go_simp
     try with_reducible rfl
    try simp only [td]
    refine tk (i := 1) (v := ?_) rfl (Or.inl ⟨rfl, ?hy14⟩) ?_
    case hy14 =>
     intro W hS
     have u0 := box_cell hS.1 0
     go_simp
     try with_reducible rfl
    try simp only [td]
    refine tk0 (i := 2) rfl ?_
    try simp only [td]
    refine tk0 (i := 3) rfl ?_
    try simp only [td]
    refine tk0 (i := 5) rfl ?_
    try simp only [td]
    refine tk0 (i := 6) rfl ?_
    try simp only [td]
    refine tk0 (i := 7) rfl ?_
    try simp only [td]
    refine tk0 (i := 8) rfl ?_
    try simp only [td]
    refine tk0 (i := 9) rfl ?_
    try simp only [td]
    refine tk0 (i := 10) rfl ?_
    try simp only [td]
    refine wpAnyH_ready (rs := [4, 11]) (by kernel_rfl) (by simp) (AllReadyH.cons rfl (fun K hK => ?_) (AllReadyH.cons rfl (fun K hK => ?_) AllReadyH.nil))
    ·have zB := box_cell (w := w6.drew) H8.out.2.1 0
     go_simp
     refine hK.out _ _ (hHeld) (fun hX => ?_)
     clear hK K hHeld
     have hHeld := hX
     clear hX
     refine rd 11 rfl fun K hK => ?_
     have zg := (box_cell (w := w6.drew) H8.out.2.2.2.1 (x.val * 3 + 1 + 1)).trans H8.out.2.2.2.2.1
     go_simp
     refine hK.out _ _ (hHeld) (fun hX => ?_)
     clear hK K hHeld
     have hHeld := hX
     clear hX
     refine rd 12 rfl fun K hK => ?_
     go_simp
     go_wp2_with (go_at_call 43; refine HLA8.out.mono ?_; rintro e w7 ⟨v7, bl, rfl, hbl, hcl, hfl, ⟨hful7, hcn7⟩, hb7⟩)
     obtain ⟨a7, n7, c7, rfl⟩ := slice_of hbl.row
     have rB7 := row_up (W := w6.drew) H8.out.2.1 hb7
     refine hK.out _ _ (⟨row_up hHeld.1 hb7, _, rB7⟩) (fun hX => ?_)
     clear hK K hHeld
     have hHeld := hX
     clear hX
     refine rd 13 rfl fun K hK => ?_
     have h67 : Below w6.heap.size w6 w7 := (Below.refl w6.heap.size w6).drew.trans hb7
     have hrp := replace_any n₀ w6.heap.size x.val _ (.slice a7 n7 c7) (bs.set x.val (PB.mk R (.slice a5 m5 c5))) bl w7 (own_up H8.out.1.row h67) hbl.row (fun q h1 h2 => by
      obtain ⟨_, c', hc'⟩ := own_typed H8.out.1.row q h1
      obtain ⟨h3, _⟩ := own_typed hbl.row q h2
      have h4 := box_lt hc'
      have h5 : w6.heap.size ≤ q := h3
      omega) (fun z hz => own_one (H8.out.1.own z hz)) (fun z hz => own_one (hbl.own z hz)) (by rw [List.length_set]; exact x.isLt) (by rw [hcn7, H8.out.2.2.2.2.2.2.2.2.1]; unfold chN; omega) (by
      rw [List.length_set, hcn7, H8.out.2.2.2.2.2.2.2.2.1]
      have h1 := cat_len HD.out.full
      rw [HD.out.cat] at h1
      have h2 := HU.out.2.2.2.1
      unfold chN
      omega) (Nat.le_trans HU.out.2.2.2.2 (Nat.le_trans hs6 hb7.size))
     go_simp
     go_wp2_with (go_at_call 79; refine hrp.mono ?_; rintro e w8 ⟨v8, rfl, ho8, hk8, hf8⟩)
     obtain ⟨a8, n8, c8, rfl⟩ := slice_of ho8
     have rB8 := (hk8.block B (box_lt rB7) (fun h => H8.out.2.2.2.2.2.2.2.2.2.1 (by injection h with h; exact h.symm))).trans rB7
     refine hK.out _ _ (⟨(hk8.block _ (box_lt hHeld.1) (fun h => H8.out.2.2.2.2.2.2.2.2.2.2 (by injection h with h; exact h.symm))).trans hHeld.1, _, rB8⟩) (fun hX => ?_)
     clear hK K hHeld
     have hHeld := hX
     clear hX
     refine tk0 (i := 14) rfl ?_
     try simp only [td]
     refine tk0 (i := 15) rfl ?_
     try simp only [td]
     refine rd 16 rfl fun K hK => ?_
     have z8 := box_cell rB8 0
     have f8 := box_frozen rB8 0
     go_simp
     refine hK.out _ _ (⟨(box_other (by omega) 0 _).trans hHeld.1, _, box_set rB8 0 _⟩) (fun hX => ?_)
     clear hK K hHeld
     have hHeld := hX
     clear hX
     refine wpAnyH_done (by kernel_rfl) ?_ _
     simp only [onlyN]
     gi_wp2
     obtain ⟨hB6, rB, r0, rg, e6, hkF, hoth, hnew6, hRl, hBg, hDg⟩ := H8.out
     have hrep := Blocks.rep hB6 hbl h67 (Nat.le_trans HU.out.2.2.2.2 hs6) ho8 hk8
     have hk := (List.getElem?_eq_getElem x.isLt : bs[x.val]? = some bs[x])
     refine ⟨hoth.trans ((KeepsOthers.drew w6).trans ((others_below hb7).trans ((hk8.others (fun q hq o ho => by obtain ⟨_, c', hc'⟩ := own_typed (own_up hB6.row h67) q hq; rw [hc'] at ho; cases ho; rfl)).trans (KeepsOthers.setCell _ _ _)))), rfl, _, _, ⟨box_set rB8 0 _, hrep.set rB8 (by decide) (by decide), ?_, fun z hz => ?_, fun q hq => ?_, fun z hz q hq => ?_, ?_⟩⟩
     ·rw [catB_append, catB_append, hcl, List.take_set_of_le (Nat.le_refl _), List.drop_set_of_lt (by omega), ← hcat, catB_set hk]
     ·rcases List.mem_append.1 hz with h | h
      ·rcases List.mem_append.1 h with h | h
       ·exact hful6 z (List.mem_of_mem_take h)
       ·exact hful7 z h
      ·exact hful6 z (List.mem_of_mem_drop h)
     ·rcases hf8 q hq with e | e
      ·exact .inl (.inr (.inl e))
      ·exact .inr (Nat.le_trans hs6 (Nat.le_trans hb7.size e))
     ·rcases List.mem_append.1 hz with h | h
      ·rcases List.mem_append.1 h with h | h
       ·exact hnew6 z (List.mem_of_mem_take h) q hq
       ·exact .inr (Nat.le_trans hs6 (own_typed (hbl.own z h) q hq).1)
      ·exact hnew6 z (List.mem_of_mem_drop h) q hq
     ·exact ((hkF.trans (Keep.of_below h67 hs6)).trans (hk8.weak (Nat.le_trans hs6 h67.size) (fun q _ h => .inr (.inl h)))).setCell (p := ⟨B, 0, none⟩) (.inl (.inl rfl)) _
    ·have zg := (box_cell (w := w6.drew) H8.out.2.2.2.1 (x.val * 3 + 1 + 1)).trans H8.out.2.2.2.2.1
     go_simp
     refine hK.out _ _ (hHeld) (fun hX => ?_)
     clear hK K hHeld
     have hHeld := hX
     clear hX
     refine wpAnyH_ready (rs := [4, 12]) (by kernel_rfl) (by simp) (AllReadyH.cons rfl (fun K hK => ?_) (AllReadyH.cons rfl (fun K hK => ?_) AllReadyH.nil))
     ·have zB := box_cell (w := w6.drew) H8.out.2.1 0
      go_simp
      refine hK.out _ _ (hHeld) (fun hX => ?_)
      clear hK K hHeld
      have hHeld := hX
      clear hX
      refine rd 12 rfl fun K hK => ?_
      go_simp
      go_wp2_with (go_at_call 43; refine HLA8.out.mono ?_; rintro e w7 ⟨v7, bl, rfl, hbl, hcl, hfl, ⟨hful7, hcn7⟩, hb7⟩)
      obtain ⟨a7, n7, c7, rfl⟩ := slice_of hbl.row
      have rB7 := row_up (W := w6.drew) H8.out.2.1 hb7
      refine hK.out _ _ (⟨row_up hHeld.1 hb7, _, rB7⟩) (fun hX => ?_)
      clear hK K hHeld
      have hHeld := hX
      clear hX
      refine rd 13 rfl fun K hK => ?_
      have h67 : Below w6.heap.size w6 w7 := (Below.refl w6.heap.size w6).drew.trans hb7
      have hrp := replace_any n₀ w6.heap.size x.val _ (.slice a7 n7 c7) (bs.set x.val (PB.mk R (.slice a5 m5 c5))) bl w7 (own_up H8.out.1.row h67) hbl.row (fun q h1 h2 => by
       obtain ⟨_, c', hc'⟩ := own_typed H8.out.1.row q h1
       obtain ⟨h3, _⟩ := own_typed hbl.row q h2
       have h4 := box_lt hc'
       have h5 : w6.heap.size ≤ q := h3
       omega) (fun z hz => own_one (H8.out.1.own z hz)) (fun z hz => own_one (hbl.own z hz)) (by rw [List.length_set]; exact x.isLt) (by rw [hcn7, H8.out.2.2.2.2.2.2.2.2.1]; unfold chN; omega) (by
       rw [List.length_set, hcn7, H8.out.2.2.2.2.2.2.2.2.1]
       have h1 := cat_len HD.out.full
       rw [HD.out.cat] at h1
       have h2 := HU.out.2.2.2.1
       unfold chN
       omega) (Nat.le_trans HU.out.2.2.2.2 (Nat.le_trans hs6 hb7.size))
      go_simp
      go_wp2_with (go_at_call 79; refine hrp.mono ?_; rintro e w8 ⟨v8, rfl, ho8, hk8, hf8⟩)
      obtain ⟨a8, n8, c8, rfl⟩ := slice_of ho8
      have rB8 := (hk8.block B (box_lt rB7) (fun h => H8.out.2.2.2.2.2.2.2.2.2.1 (by injection h with h; exact h.symm))).trans rB7
      refine hK.out _ _ (⟨(hk8.block _ (box_lt hHeld.1) (fun h => H8.out.2.2.2.2.2.2.2.2.2.2 (by injection h with h; exact h.symm))).trans hHeld.1, _, rB8⟩) (fun hX => ?_)
      clear hK K hHeld
      have hHeld := hX
      clear hX
      refine tk0 (i := 14) rfl ?_
      try simp only [td]
      refine tk0 (i := 15) rfl ?_
      try simp only [td]
      refine rd 16 rfl fun K hK => ?_
      have z8 := box_cell rB8 0
      have f8 := box_frozen rB8 0
      go_simp
      refine hK.out _ _ (⟨(box_other (by omega) 0 _).trans hHeld.1, _, box_set rB8 0 _⟩) (fun hX => ?_)
      clear hK K hHeld
      have hHeld := hX
      clear hX
      refine wpAnyH_done (by kernel_rfl) ?_ _
      simp only [onlyN]
      gi_wp2
      obtain ⟨hB6, rB, r0, rg, e6, hkF, hoth, hnew6, hRl, hBg, hDg⟩ := H8.out
      have hrep := Blocks.rep hB6 hbl h67 (Nat.le_trans HU.out.2.2.2.2 hs6) ho8 hk8
      have hk := (List.getElem?_eq_getElem x.isLt : bs[x.val]? = some bs[x])
      refine ⟨hoth.trans ((KeepsOthers.drew w6).trans ((others_below hb7).trans ((hk8.others (fun q hq o ho => by obtain ⟨_, c', hc'⟩ := own_typed (own_up hB6.row h67) q hq; rw [hc'] at ho; cases ho; rfl)).trans (KeepsOthers.setCell _ _ _)))), rfl, _, _, ⟨box_set rB8 0 _, hrep.set rB8 (by decide) (by decide), ?_, fun z hz => ?_, fun q hq => ?_, fun z hz q hq => ?_, ?_⟩⟩
      ·rw [catB_append, catB_append, hcl, List.take_set_of_le (Nat.le_refl _), List.drop_set_of_lt (by omega), ← hcat, catB_set hk]
      ·rcases List.mem_append.1 hz with h | h
       ·rcases List.mem_append.1 h with h | h
        ·exact hful6 z (List.mem_of_mem_take h)
        ·exact hful7 z h
       ·exact hful6 z (List.mem_of_mem_drop h)
      ·rcases hf8 q hq with e | e
       ·exact .inl (.inr (.inl e))
       ·exact .inr (Nat.le_trans hs6 (Nat.le_trans hb7.size e))
      ·rcases List.mem_append.1 hz with h | h
       ·rcases List.mem_append.1 h with h | h
        ·exact hnew6 z (List.mem_of_mem_take h) q hq
        ·exact .inr (Nat.le_trans hs6 (own_typed (hbl.own z h) q hq).1)
       ·exact hnew6 z (List.mem_of_mem_drop h) q hq
      ·exact ((hkF.trans (Keep.of_below h67 hs6)).trans (hk8.weak (Nat.le_trans hs6 h67.size) (fun q _ h => .inr (.inl h)))).setCell (p := ⟨B, 0, none⟩) (.inl (.inl rfl)) _
     ·go_simp
      go_wp2_with (go_at_call 43; refine HLA8.out.mono ?_; rintro e w7 ⟨v7, bl, rfl, hbl, hcl, hfl, ⟨hful7, hcn7⟩, hb7⟩)
      obtain ⟨a7, n7, c7, rfl⟩ := slice_of hbl.row
      have rB7 := row_up (W := w6.drew) H8.out.2.1 hb7
      refine hK.out _ _ (⟨row_up hHeld.1 hb7, _, rB7⟩) (fun hX => ?_)
      clear hK K hHeld
      have hHeld := hX
      clear hX
      refine rd 4 rfl fun K hK => ?_
      have zB := box_cell rB7 0
      go_simp
      refine hK.out _ _ (hHeld) (fun hX => ?_)
      clear hK K hHeld
      have hHeld := hX
      clear hX
      refine rd 13 rfl fun K hK => ?_
      have h67 : Below w6.heap.size w6 w7 := (Below.refl w6.heap.size w6).drew.trans hb7
      have hrp := replace_any n₀ w6.heap.size x.val _ (.slice a7 n7 c7) (bs.set x.val (PB.mk R (.slice a5 m5 c5))) bl w7 (own_up H8.out.1.row h67) hbl.row (fun q h1 h2 => by
       obtain ⟨_, c', hc'⟩ := own_typed H8.out.1.row q h1
       obtain ⟨h3, _⟩ := own_typed hbl.row q h2
       have h4 := box_lt hc'
       have h5 : w6.heap.size ≤ q := h3
       omega) (fun z hz => own_one (H8.out.1.own z hz)) (fun z hz => own_one (hbl.own z hz)) (by rw [List.length_set]; exact x.isLt) (by rw [hcn7, H8.out.2.2.2.2.2.2.2.2.1]; unfold chN; omega) (by
       rw [List.length_set, hcn7, H8.out.2.2.2.2.2.2.2.2.1]
       have h1 := cat_len HD.out.full
       rw [HD.out.cat] at h1
       have h2 := HU.out.2.2.2.1
       unfold chN
       omega) (Nat.le_trans HU.out.2.2.2.2 (Nat.le_trans hs6 hb7.size))
      go_simp
      go_wp2_with (go_at_call 79; refine hrp.mono ?_; rintro e w8 ⟨v8, rfl, ho8, hk8, hf8⟩)
      obtain ⟨a8, n8, c8, rfl⟩ := slice_of ho8
      have rB8 := (hk8.block B (box_lt rB7) (fun h => H8.out.2.2.2.2.2.2.2.2.2.1 (by injection h with h; exact h.symm))).trans rB7
      refine hK.out _ _ (⟨(hk8.block _ (box_lt hHeld.1) (fun h => H8.out.2.2.2.2.2.2.2.2.2.2 (by injection h with h; exact h.symm))).trans hHeld.1, _, rB8⟩) (fun hX => ?_)
      clear hK K hHeld
      have hHeld := hX
      clear hX
      refine tk0 (i := 14) rfl ?_
      try simp only [td]
      refine tk0 (i := 15) rfl ?_
      try simp only [td]
      refine rd 16 rfl fun K hK => ?_
      have z8 := box_cell rB8 0
      have f8 := box_frozen rB8 0
      go_simp
      refine hK.out _ _ (⟨(box_other (by omega) 0 _).trans hHeld.1, _, box_set rB8 0 _⟩) (fun hX => ?_)
      clear hK K hHeld
      have hHeld := hX
      clear hX
      refine wpAnyH_done (by kernel_rfl) ?_ _
      simp only [onlyN]
      gi_wp2
      obtain ⟨hB6, rB, r0, rg, e6, hkF, hoth, hnew6, hRl, hBg, hDg⟩ := H8.out
      have hrep := Blocks.rep hB6 hbl h67 (Nat.le_trans HU.out.2.2.2.2 hs6) ho8 hk8
      have hk := (List.getElem?_eq_getElem x.isLt : bs[x.val]? = some bs[x])
      refine ⟨hoth.trans ((KeepsOthers.drew w6).trans ((others_below hb7).trans ((hk8.others (fun q hq o ho => by obtain ⟨_, c', hc'⟩ := own_typed (own_up hB6.row h67) q hq; rw [hc'] at ho; cases ho; rfl)).trans (KeepsOthers.setCell _ _ _)))), rfl, _, _, ⟨box_set rB8 0 _, hrep.set rB8 (by decide) (by decide), ?_, fun z hz => ?_, fun q hq => ?_, fun z hz q hq => ?_, ?_⟩⟩
      ·rw [catB_append, catB_append, hcl, List.take_set_of_le (Nat.le_refl _), List.drop_set_of_lt (by omega), ← hcat, catB_set hk]
      ·rcases List.mem_append.1 hz with h | h
       ·rcases List.mem_append.1 h with h | h
        ·exact hful6 z (List.mem_of_mem_take h)
        ·exact hful7 z h
       ·exact hful6 z (List.mem_of_mem_drop h)
      ·rcases hf8 q hq with e | e
       ·exact .inl (.inr (.inl e))
       ·exact .inr (Nat.le_trans hs6 (Nat.le_trans hb7.size e))
      ·rcases List.mem_append.1 hz with h | h
       ·rcases List.mem_append.1 h with h | h
        ·exact hnew6 z (List.mem_of_mem_take h) q hq
        ·exact .inr (Nat.le_trans hs6 (own_typed (hbl.own z h) q hq).1)
       ·exact hnew6 z (List.mem_of_mem_drop h) q hq
      ·exact ((hkF.trans (Keep.of_below h67 hs6)).trans (hk8.weak (Nat.le_trans hs6 h67.size) (fun q _ h => .inr (.inl h)))).setCell (p := ⟨B, 0, none⟩) (.inl (.inl rfl)) _
   ·have hd2 : ¬ (256 : Int) < (L2 : Int) + (G2 : Int) := by omega
    gi_wp2_with (refine ⟨trivial, ?_⟩; first
     | (gi_at_call 78; refine (callsIn_wide.2 HUY.out).mono ?_; rintro e w5 ⟨⟨_, rfl⟩, v5, hg5, ho5, hk5, hf5⟩; have hrow5 := HBY.out w5 v5 hg5; obtain ⟨g5, cap5, cur5, hve, -, hg5', e0, e1, e2, -⟩ := blocks_parts hrow5 (hsx ⟨R, v5⟩); have z3 := (box_cell hg5' (x.val * 3)).trans e0; have z4 := (box_cell hg5' (x.val * 3 + 1)).trans e1; dsimp only at z3 z4; rw [HRR.out.2.1] at z3; rw [HRR.out.2.2] at z4; have hge : g5 = g := (by injection hve with a _ _; injection a with a; injection a with a; exact a.symm); rw [hge] at z3 z4; clear hrow5 hg5' e0 e1 e2 hve hge)
     | (gi_at_call 40; refine (callsIn_wide.2 (HS2.out _)).mono ?_; rintro e w6 ⟨rfl, hb6⟩; have H5 := Lib.hid (And.intro hg5 (And.intro ho5 (And.intro hk5 (And.intro hf5 hb6)))); clear hg5 ho5 hk5 hf5 hb6))
    obtain ⟨q0, q1, q2, q3, q4, qB, hO, hFk⟩ := HQ.out
    obtain ⟨hg5, ho5, hk5, hf5, hb6⟩ := H5.out
    have hBq := HD.out.blocks.up qB
    have hk5' : Keep (fun j => (Value.slice (some ⟨g, 0, none⟩) bs.length cap).ownBlock = some j ∨ bs[x].v.ownBlock = some j) wq.heap.size wq w5 := hk5.weak (Nat.le_refl _) (fun q _ h => h.elim (fun e => .inl (by rw [e]; rfl)) .inr)
    have hB5 := Blocks.one hBq (List.getElem?_eq_getElem x.isLt : bs[x.val]? = some bs[x]) (HBY.out w5 v5 hg5) ho5 hk5' hf5
    have hBg : B ≠ g := fun e => by rw [e] at q4; rw [q3] at q4; cases q4
    have hBx : ¬ bs[x].v.ownBlock = some B := fun e => own_ne (hBq.own bs[x] (List.getElem_mem _)) q4 (by decide) e
    have hx5 := (hk5.block B (box_lt q4) (fun h => h.elim hBg hBx)).trans q4
    have hkF : Keep (footB B (Value.slice (some ⟨g, 0, none⟩) bs.length cap) bs) w.heap.size w w6 := ((Keep.of_below qB (Nat.le_refl _)).trans (hk5.weak qB.size (fun q _ h => h.elim (fun e => .inr (.inl (by rw [e]; rfl))) (fun e => .inr (.inr ⟨bs[x], List.getElem_mem _, e⟩))))).trans (Keep.of_below hb6 (Nat.le_trans qB.size hk5.size))
    have hoth : KeepsOthers wq w5 := hk5.others (fun q hq o ho => by
     rcases hq with e | e
     ·rw [e, q3] at ho; cases ho; rfl
     ·obtain ⟨_, c', hc'⟩ := own_typed (hBq.own bs[x] (List.getElem_mem _)) q e
      rw [hc'] at ho; cases ho; rfl)
    refine ⟨(KeepsOthers.drew X).trans (hO.trans (hoth.trans (others_below hb6))), rfl, _, _, ⟨row_up hx5 hb6, hB5.up hb6, ?_, ?_, fun q hq => .inl (.inr (.inl hq)), ?_, hkF⟩⟩
    ·have hk := (List.getElem?_eq_getElem x.isLt : bs[x.val]? = some bs[x])
     rw [← hcat, catB_set hk, catB_set hk]
    ·intro z hz
     obtain ⟨j, hj, rfl⟩ := List.mem_iff_getElem.1 hz
     rw [List.length_set] at hj
     rw [List.getElem_set]
     split
     ·intro e
      have h1 : R = [] := e
      rw [← HRR.out.1] at h1
      have h2 := HD.out.full bs[x] (List.getElem_mem _)
      simp only [List.append_eq_nil_iff] at h1
      exact h2 (by rw [← List.take_append_drop (p - Fr) bs[x].cs, h1.1.1, h1.2]; rfl)
     ·exact HD.out.full _ (List.getElem_mem _)
    ·intro z hz q hq
     obtain ⟨j, hj, rfl⟩ := List.mem_iff_getElem.1 hz
     rw [List.length_set] at hj
     rw [List.getElem_set] at hq
     split at hq
     ·rcases hf5 q hq with e | e
      ·exact .inl (.inr (.inr ⟨bs[x], List.getElem_mem _, e⟩))
      ·exact .inr (Nat.le_trans qB.size e)
     ·exact .inl (.inr (.inr ⟨_, List.getElem_mem _, hq⟩))
 case done =>
  rintro D xs Z hD rfl ⟨⟨hsk, c0, c1, c2⟩, hB⟩ hK
  have hbs : bs.length = 0 := by
   rcases Nat.eq_zero_or_pos bs.length with h | h
   ·exact h
   ·exfalso
    have h1 := hsk ⟨bs.length - 1, by omega⟩ (by unfold begL; exact List.mem_finRange _)
    have hx : bs[bs.length - 1]? = some bs[bs.length - 1] := List.getElem?_eq_getElem (by omega)
    have h2 := catB_take hx
    rw [show bs.length - 1 + 1 = bs.length by omega, List.take_length, HD.out.cat] at h2
    have h3 := congrArg List.length h2
    rw [List.length_append] at h3
    have h4 := HU.out.2.2.1
    have h5 : frB bs (⟨bs.length - 1, by omega⟩ : Fin bs.length) = (catB (bs.take (bs.length - 1))).length := rfl
    rw [h5] at h1
    have h6 : (bs[(⟨bs.length - 1, by omega⟩ : Fin bs.length)]).cs.length = (bs[bs.length - 1]).cs.length := rfl
    omega
  have hl0 : l = [] := by
   rw [← HD.out.cat, List.eq_nil_of_length_eq_zero hbs]
   rfl
  have hbZ := row_up HD.out.box hB
  have hla := laid_any (.slice ua un uc) ms Z.drew (CAt.of_own (own_up HU.out.1 hB.drew) rfl) (by have := HU.out.2.2.2.1; omega)
  have HLA := Lib.hid hla
  have HQ := Lib.hid (And.intro c0 (And.intro c2 (And.intro hB (And.intro hbZ (And.intro hl0 hK)))))
  clear c0 c1 c2 hB hbZ hla hsk hl0 hK
  gi_wp2
  refine region_bridgeN (ro := none) (S := fun Y => Y.heap[w.heap.size]? = some (.cells #[.pointer (some ⟨B, 0, none⟩)] 27 (0, 0)) ∧ Y.heap[w.heap.size + 1 + 1]? = some (.cells #[.slice ua un uc] 22 (0, 0))) (by kernel_rfl) (by kernel_rfl) ⟨HQ.out.1, HQ.out.2.1⟩ (fun hHeld => ?_)
  refine tk (i := 0) (v := ?_) rfl (Or.inl ⟨rfl, ?hy9⟩) ?_
  case hy9 =>
   intro W hS
   have u0 := box_cell hS.1 0
   have u1 := box_cell hS.2 0
   go_simp
   try with_reducible rfl
  try simp only [td]
  refine tk (i := 1) (v := ?_) rfl (Or.inl ⟨rfl, ?hy10⟩) ?_
  case hy10 =>
   intro W hS
   have u0 := box_cell hS.1 0
   have u1 := box_cell hS.2 0
   go_simp
   try with_reducible rfl
  try simp only [td]
  refine rd 2 rfl fun K hK => ?_
  go_simp
  go_wp2_with (go_at_call 43; refine (HLA.out).mono ?_; rintro e w9 ⟨v9, bs9, rfl, hbk9, hcat9, hfew9, ⟨hful9, hcn9⟩, hb9⟩)
  refine hK.out _ _ (⟨row_up hHeld.1 hb9, row_up hHeld.2 hb9⟩) (fun hX => ?_)
  clear hK K hHeld
  have hHeld := hX
  clear hX
  refine tk0 (i := 3) rfl ?_
  try simp only [td]
  refine tk0 (i := 4) rfl ?_
  try simp only [td]
  refine rd 5 rfl fun K hK => ?_
  obtain ⟨a9, n9, c9, rfl⟩ := slice_of hbk9.row
  have x9 := row_up (W := Z.drew) HQ.out.2.2.2.1 hb9
  have z9 := box_cell x9 0
  have f9 := box_frozen x9 0
  go_simp
  refine hK.out _ _ (⟨(box_other (by omega) 0 _).trans hHeld.1, (box_other (by omega) 0 _).trans hHeld.2⟩) (fun hX => ?_)
  clear hK K hHeld
  have hHeld := hX
  clear hX
  refine wpAnyH_done (by kernel_rfl) ?_ _
  have hs9 := hb9.size
  obtain ⟨c0, c2, hB, hbZ, hl0, hK⟩ := HQ.out
  have hB9 : Below w.heap.size w w9 := hB.drew.trans (hb9.mono hB.drew.size)
  have hx9 := row_up (W := Z.drew) hbZ hb9
  have hK9 := row_up (W := Z.drew) hK hb9
  have hP : PutD w n₀ B M (footB B bv bs) (l.take p ++ ms ++ l.drop p) (w9.setCell ⟨B, 0, none⟩ (.slice a9 n9 c9)) (.slice a9 n9 c9) bs9 := by
   refine ⟨box_set hx9 0 _, (hbk9.lower (Nat.le_trans HU.out.2.2.2.2 hB.size)).set hx9 (by decide) (by decide), by rw [hl0, hcat9]; simp, hful9, fun q hq => .inr ?_, fun z hz q hq => .inr ?_, (Keep.of_below hB9 (Nat.le_refl _)).setCell (p := ⟨B, 0, none⟩) (.inl (.inl rfl)) _⟩
   ·obtain ⟨h1, _⟩ := own_typed hbk9.row q hq
    exact Nat.le_trans hB.size h1
   ·obtain ⟨h1, _⟩ := own_typed (hbk9.own z hz) q hq
    exact Nat.le_trans hB.size h1
  have hK10 : (w9.setCell ⟨B, 0, none⟩ (.slice a9 n9 c9)).heap[D]? = some (.deferred (some [])) := (box_other (by omega) 0 _).trans hK9
  have HP := Lib.hid (And.intro hP hK10)
  clear hP hK10 c0 c2 hB hbZ hl0 hK hB9 hx9 hK9 hHeld hbk9 hcat9 hful9 hb9
  simp only [onlyN]
  gi_wp2
  refine ⟨by simp, .inl ⟨_, _, rfl, run_takeDeferred HP.out.2, ?_⟩⟩
  exact ⟨_, results_none rfl _ _ _, ⟨_, rfl⟩, _, _, HP.out.1.turn (grownBy_putObj' _ D (.deferred none)) (fun r e => by cases e; exact ⟨by omega, _, HP.out.2, rfl⟩)⟩
 case stop =>
  rintro D c pre Z hD hpre ⟨rfl, bv', bs', hP⟩ hK
  have HP := Lib.hid hP
  clear hP
  gi_wp2
  refine ⟨by simp, .inl ⟨_, _, rfl, run_takeDeferred hK, ?_⟩⟩
  exact ⟨_, results_none rfl _ _ _, ⟨_, rfl⟩, bv', bs', HP.out.turn (grownBy_putObj' Z D (.deferred none)) (fun r e => by cases e; exact ⟨by omega, _, hK, rfl⟩)⟩
end Go.Proofs.YtmedickofiielaaGreatDoor

namespace Go.Proofs.YtmedickofiielaaGreatDoor
open Go.RowKit Go.Shelf
attribute [local go_sem] Oper.semAt_some

def vL (x : PB) : Value × Nat := (x.v, x.cs.length)
theorem vL_at {bs bs' : List PB} (h : bs'.map vL = bs.map vL) {k : Nat} {x : PB} (hx : bs[k]? = some x) : ∃ y, bs'[k]? = some y ∧ y.v = x.v ∧ y.cs.length = x.cs.length := by
 have h1 : (bs'.map vL)[k]? = (bs.map vL)[k]? := by rw [h]
 rw [List.getElem?_map, List.getElem?_map, hx] at h1
 cases hy : bs'[k]? with
 | none => rw [hy] at h1; cases h1
 | some y =>
  rw [hy] at h1
  injection h1 with h1
  injection h1 with h1 h2
  exact ⟨y, rfl, h1, h2⟩
theorem vL_len {bs bs' : List PB} (h : bs'.map vL = bs.map vL) : bs'.length = bs.length := by
 have := congrArg List.length h
 simpa using this
theorem catB_sum : ∀ bs : List PB, (catB bs).length = ((bs.map vL).map Prod.snd).sum
 | [] => rfl
 | b :: r => by
  show (b.cs ++ catB r).length = _
  rw [List.length_append, catB_sum r]
  rfl
theorem vL_FK {bs bs' : List PB} (h : bs'.map vL = bs.map vL) (k : Nat) : FK bs' k = FK bs k := by
 unfold FK
 have e : ∀ b : List PB, (b.take k).map vL = (b.map vL).take k := fun b => by simp [List.map_take]
 rw [catB_sum, catB_sum, e, e, h]
theorem vL_set {bs' : List PB} {k : Nat} {y z : PB} (h : bs'[k]? = some y) (e : vL z = vL y) : (bs'.set k z).map vL = bs'.map vL := by
 rw [List.map_set, e]
 refine List.ext_getElem? fun i => ?_
 rw [List.getElem?_set]
 split
 ·next q =>
  subst q
  rw [List.getElem?_map, h]
  have := (List.getElem?_eq_some_iff.1 h).1
  simp [this]
 ·rfl
theorem goneC_ids (l : List PCell) (f : Nat → Bool) : (goneC l f).map idC = l.map idC := by
 refine List.ext_getElem? fun i => ?_
 rw [List.getElem?_map, List.getElem?_map, goneC_at, Option.map_map]
 rfl
def RemI (w : World) (n₀ B : Nat) (bv nm : Value) (bs : List PB) (l : List PCell) (f : Nat → Bool) (X : World) : Prop :=
 ∃ bs', bs'.map vL = bs.map vL ∧ Blocks X n₀ bv bs' ∧ catB bs' = goneC l f ∧ X.heap[B]? = some (.cells #[bv, nm] 90 (0, 0)) ∧ Keep (footB B bv bs) w.heap.size w X
theorem footB_vL {B : Nat} {bv : Value} {bs bs' : List PB} (h : bs'.map vL = bs.map vL) {i : Nat} (hi : footB B bv bs' i) : footB B bv bs i := by
 rcases hi with e | e | ⟨x, hx, e⟩
 ·exact .inl e
 ·exact .inr (.inl e)
 ·obtain ⟨k, hk, rfl⟩ := List.mem_iff_getElem.1 hx
  obtain ⟨y, hy, h1, _⟩ := vL_at h.symm (List.getElem?_eq_getElem hk)
  exact .inr (.inr ⟨y, List.mem_of_getElem? hy, by rw [h1]; exact e⟩)
theorem RemI.far {w X Y : World} {n₀ B : Nat} {bv nm : Value} {bs : List PB} {l : List PCell} {f : Nat → Bool} {row : Option Nat} (h : RemI w n₀ B bv nm bs l f X) (hlo : ∀ i, footB B bv bs i → i < w.heap.size) (hg : X.grownBy Y row) (hr : ∀ r, row = some r → w.heap.size ≤ r) : RemI w n₀ B bv nm bs l f Y := by
 obtain ⟨bs', h1, h2, h3, h4, h5⟩ := h
 have hK : Keep (fun i => w.heap.size ≤ i) X.heap.size X Y := (Keep.refl _ _ X).grown hg (Nat.le_refl _) (fun r e => .inl (hr r e))
 have hlo' : ∀ i, footB B bv bs' i → ¬ w.heap.size ≤ i := fun i hi => by have := hlo i (footB_vL h1 hi); omega
 refine ⟨bs', h1, ⟨own_keepS h2.row hK fun g e => hlo' g (.inr (.inl e)), fun x hx => own_keepS (h2.own x hx) hK fun g e => hlo' g (.inr (.inr ⟨x, hx, e⟩)), h2.apart⟩, h3, ?_, h5.grown hg h5.size (fun r e => .inr (hr r e))⟩
 exact hK.row h4 (hlo' B (.inl rfl))
theorem RemI.sz {w X : World} {n₀ B : Nat} {bv nm : Value} {bs : List PB} {l : List PCell} {f : Nat → Bool} (h : RemI w n₀ B bv nm bs l f X) {g : Nat} (hg : ∀ ao n c, bv = .slice ao n c → bs ≠ [] → ao = some ⟨g, 0, none⟩) : SzOK X B g bv nm bs := by
 obtain ⟨bs', h1, h2, h3, h4, h5⟩ := h
 refine ⟨h4, fun k x hx => ?_⟩
 obtain ⟨y, hy, e1, e2⟩ := vL_at h1 hx
 obtain ⟨g', cap, cur, rfl, hg0, hgX, ha0, ha1, _⟩ := blocks_parts h2.row hy
 have hne : bs ≠ [] := fun e => by rw [e] at hx; simp at hx
 have := hg _ _ _ rfl hne
 cases this
 exact ⟨cap, _, _, by rw [vL_len h1], by rw [← e2]; exact liveN_gone y.cs, (box_cell hgX _).trans ha0, (box_cell hgX _).trans ha1⟩
theorem SpAt.ints {W W' : World} {sp bv : Value} {xs : List Sp} {n₀ gb k : Nat} {bs : List PB} (h : SpAt W sp xs) (hx : 2 ≤ xs.length) (hI : IntsKept gb (k * 3) W W') (hB : Blocks W n₀ bv bs) (hgb : bv.ownBlock = some gb) (hk : k < bs.length) : SpAt W' sp xs := by
 obtain ⟨ao, cap, rfl, h2⟩ := h
 have hne : xs ≠ [] := fun e => by rw [e] at hx; simp at hx
 obtain ⟨b, off, rfl, hc⟩ := h2 hne
 have hint : ∀ q, off ≤ q → q < off + xs.length * 2 → ∃ z, W.cell? ⟨b, q, none⟩ = some (.int .i64 z) := fun q h1 h2 => by
  rcases Nat.mod_two_eq_zero_or_one (q - off) with e | e
  ·have := (hc ((q - off) / 2) (by omega)).1
   rw [show off + (q - off) / 2 * 2 = q by omega] at this
   exact ⟨_, this⟩
  ·have := (hc ((q - off) / 2) (by omega)).2
   rw [show off + (q - off) / 2 * 2 + 1 = q by omega] at this
   exact ⟨_, this⟩
 have hsl : ∀ j, j < bs.length → ∀ z, W.cell? ⟨gb, j * 3 + 2, none⟩ ≠ some (.int .i64 z) := fun j hj z e => by
  obtain ⟨g', cp, cur, hv, _, hgX, _, _, ha2, _⟩ := blocks_parts hB.row (List.getElem?_eq_getElem hj)
  rw [hv] at hgb
  cases hgb
  rw [box_cell hgX, show j * 3 + 2 = j * 3 + 1 + 1 by omega, ha2] at e
  obtain ⟨a, n, c, hs⟩ := slice_of (hB.own bs[j] (List.getElem_mem _))
  rw [hs] at e
  cases e
 have hno : ∀ q, off ≤ q → q < off + xs.length * 2 → ¬ (b = gb ∧ (q = k * 3 ∨ q = k * 3 + 1)) := fun q h1 h2 ⟨e1, e2⟩ => by
  subst e1
  by_cases hin : k * 3 + 2 < off + xs.length * 2
  ·obtain ⟨z, hz⟩ := hint (k * 3 + 2) (by omega) hin
   exact hsl k hk z hz
  ·obtain ⟨z, hz⟩ := hint ((k - 1) * 3 + 2) (by omega) (by omega)
   exact hsl (k - 1) (by omega) z hz
 refine ⟨_, cap, rfl, fun _ => ⟨b, off, rfl, fun i hi => ⟨hI _ _ _ (hc i hi).1 (hno _ (by omega) (by omega)), hI _ _ _ (hc i hi).2 (hno _ (by omega) (by omega))⟩⟩⟩
theorem KZ.trans {B g : Nat} {bv nm sp : Value} {bs : List PB} {xs : List Sp} {m₁ : Nat} {X Y Z : World} (h : KZ B g bv nm sp bs xs m₁ X Y) (k : KZ B g bv nm sp bs xs m₁ Y Z) : KZ B g bv nm sp bs xs m₁ X Z :=
 ⟨fun z => k.z (h.z z), fun a s => k.s a (h.s a s), fun i c t fr hi ht q => k.b i c t fr hi ht (h.b i c t fr hi ht q)⟩
theorem cell_put {W : World} {l : Nat} {o o' : Obj} {p : Addr} {v : Value} (h : W.heap[l]? = some o) (hc : o.isCells = false) (q : W.cell? p = some v) : (W.putObj l o').cell? p = some v := by
 by_cases e : p.block = l
 ·subst e
  cases o <;> first | (cases hc; done) | (simp [World.cell?, h] at q)
 ·rw [World.cell?_of_block (World.putObj_heap_other e)]
  exact q
theorem KZ.put {B g : Nat} {bv nm sp : Value} {bs : List PB} {xs : List Sp} {m₁ : Nat} {W : World} {l : Nat} {o o' : Obj} (h : W.heap[l]? = some o) (hc : o.isCells = false) : KZ B g bv nm sp bs xs m₁ W (W.putObj l o') := by
 have hb : ∀ (i : Nat) (c : Array Value) (t : TypeId) (fr : Nat × Nat), W.heap[i]? = some (.cells c t fr) → (W.putObj l o').heap[i]? = some (.cells c t fr) := fun i c t fr q => by
  by_cases e : i = l
  ·subst e
   rw [q] at h
   cases h
   cases hc
  ·rw [World.putObj_heap_other e]
   exact q
 refine ⟨fun z => ⟨hb _ _ _ _ z.box, fun k x hx => by obtain ⟨cp, a, b, hv, e, c0, c1⟩ := z.size k x hx; exact ⟨cp, a, b, hv, e, cell_put h hc c0, cell_put h hc c1⟩⟩, fun _ s => ?_, fun i c t fr _ _ q => hb i c t fr q⟩
 obtain ⟨ao, cap, rfl, h2⟩ := s
 refine ⟨ao, cap, rfl, fun hx => ?_⟩
 obtain ⟨b, off, rfl, hcl⟩ := h2 hx
 exact ⟨b, off, rfl, fun i hi => ⟨cell_put h hc (hcl i hi).1, cell_put h hc (hcl i hi).2⟩⟩
set_option maxRecDepth 100000 in
set_option maxHeartbeats 8000000 in
theorem dremove_any (n₀ B M : Nat) (bv sp : Value) (bs : List PB) (l : List PCell) (xs : List Sp) (w : World) (hD : DocB w n₀ B M bv bs l) (hl : l.length ≤ 100000) (hS : SpAt w sp xs) (hxl : xs.length ≤ 1000000) (hg : sGood xs) (hin : ∀ s ∈ xs, s.1 + s.2 ≤ l.length) :
  Calls Tryz.prog 46 #[.pointer (some ⟨B, 0, none⟩), sp] w fun e w' => (∃ r, e = .returned r) ∧ RemI w n₀ B bv (.map (some M)) bs l (sMark xs) w' := by
 have hlo : ∀ i, footB B bv bs i → i < w.heap.size := fun i hi => by
  rcases hi with rfl | e | ⟨x, hx, e⟩
  ·exact box_lt hD.box
  ·obtain ⟨_, c, hc⟩ := own_typed hD.blocks.row i e
   exact box_lt hc
  ·obtain ⟨_, c, hc⟩ := own_typed (hD.blocks.own x hx) i e
   exact box_lt hc
 obtain ⟨ba, bn, bc, hbv⟩ := slice_of hD.blocks.row
 obtain ⟨g, hgb⟩ : ∃ g, ∀ ao n c, bv = .slice ao n c → bs ≠ [] → ao = some ⟨g, 0, none⟩ := by
  cases hb : bs with
  | nil => exact ⟨0, fun _ _ _ _ h => absurd rfl h⟩
  | cons x r =>
   have hk : bs[0]? = some x := by rw [hb]; rfl
   obtain ⟨g, cap, cur, e, _⟩ := blocks_parts hD.blocks.row hk
   exact ⟨g, fun ao n c h _ => by rw [e] at h; injection h with h; exact h.symm⟩
 obtain ⟨sa, sn, sc, hsv⟩ : ∃ sa sn sc, sp = .slice sa sn sc := by obtain ⟨a, c, h, _⟩ := hS; exact ⟨a, _, c, h⟩
 have hR0 : RemI w n₀ B bv (.map (some M)) bs l (fun _ => false) w := ⟨bs, rfl, hD.blocks, by rw [goneC_no0]; exact hD.cat, hD.box, Keep.refl _ _ _⟩
 have hgs : ∀ s ∈ xs, 0 ≤ s.1 ∧ 0 ≤ s.2 ∧ s.1 + s.2 ≤ (catB bs).length := fun s hs => by
  have := hg.1 s hs
  have := hin s hs
  rw [hD.cat]
  omega
 have hcl : (catB bs).length ≤ 100000 := by rw [hD.cat]; exact hl
 have hspa := fun W => spots_any (some ⟨B, 0, none⟩) sa sn sc W
 have A0 := row_al (heap_new w (.cells #[.pointer (some ⟨B, 0, none⟩)] 27)) (.cells #[.slice sa sn sc] 37)
 have A1 := heap_new1 w (.cells #[.pointer (some ⟨B, 0, none⟩)] 27) (.cells #[.slice sa sn sc] 37)
 have AB : Below w.heap.size w ((w.alloc (.cells #[.pointer (some ⟨B, 0, none⟩)] 27)).alloc (.cells #[.slice sa sn sc] 37)) := ((Below.refl _ w).alloc (Nat.le_refl _) _).alloc (by simp) _
 have AS : ((w.alloc (.cells #[.pointer (some ⟨B, 0, none⟩)] 27)).alloc (.cells #[.slice sa sn sc] 37)).heap.size = w.heap.size + 1 + 1 := by simp
 subst hsv
 have HA := Lib.hid (And.intro A0 (And.intro A1 (And.intro AB AS)))
 have HD := Lib.hid hD
 have HX := Lib.hid (And.intro hgs (And.intro hg.2 (And.intro hcl hxl)))
 have HLO := Lib.hid hlo
 have HGB := Lib.hid hgb
 have HS := Lib.hid hS
 have HG0 := Lib.hid hg
 have HR0 := Lib.hid hR0
 clear hD hgs hcl hxl hlo hgb hS hg hR0 A0 A1 AB AS hin hl hbv
 refine (callsIn_wide (n := 3)).1 ?_
 refine callsIn_of_wp_marks Tryz.func46 rfl trivial ?_ rfl
 simp only [Tryz.ntmps46, List.size_toArray, List.length_cons, List.length_nil, Nat.reduceAdd, Nat.reduceSub, Array.replicate_succ, Array.replicate_zero, List.push_toArray, List.append_toArray, List.nil_append, List.cons_append]
 gi_wp2_with (refine ⟨trivial, ?_⟩; gi_at_call 75; refine (callsIn_wide.2 (hspa _)).mono ?_; rintro e _ ⟨rfl, rfl⟩)
 obtain ⟨A0, A1, AB, AS⟩ := HA.out
 generalize (w.alloc (.cells #[.pointer (some ⟨B, 0, none⟩)] 27)).alloc (.cells #[.slice sa sn sc] 37) = w3 at A0 A1 AB AS ⊢
 clear HA
 have hR3 : RemI w n₀ B bv (.map (some M)) bs l (inP xs []) w3 := by
  have := HR0.out.far HLO.out (row := none) ⟨AB.os, AB.tape, AB.output, AB.size, fun i hi _ => AB.block i hi⟩ (fun r e => by cases e)
  exact this
 have hst := spots_stops 2 (by decide) w.heap.size (w.heap.size + 1) w.heap.size B g bv (.map (some M)) (.slice sa sn sc) bs xs HX.out.1 HX.out.2.1 HX.out.2.2.1 HX.out.2.2.2 HD.out.few w3 (hR3.sz HGB.out) (HS.out.below AB) A0 A1 (Nat.le_refl _) (by omega)
 refine wpIn_rangeFunc_ownL RowZ rfl (by decide) (gf := 92) (lb := #[.pointer (some ⟨w.heap.size + 1, 0, none⟩), .pointer (some ⟨w.heap.size, 0, none⟩)]) rfl trivial (enters_of Tryz.func92 (by kernel_rfl) rfl)
  hst (fun h k => KZ.trans h k) (fun X l o o' h1 h2 h3 h4 h5 => KZ.put h3 h4) (fun _ => rfl)
  (fun pre X => RemI w n₀ B bv (.map (some M)) bs l (inP xs pre) X)
  (fun c pre X => False)
  (fun s A C row hs hg hr => hs.far HLO.out hg (fun r e => by have := (hr r e).1; omega))
  (fun c s A C row hs hg hr => hs)
  (fun s A C row hs hg hr => hs.far HLO.out hg (fun r e => by have := (hr r e).1; omega))
  (fun c s A C row hs hg hr => hs)
  hR3
  (fun x => { tmps := #[.pointer (some ⟨B, 0, none⟩), .slice sa sn sc, undef, undef, .pointer (some ⟨g, (locB bs (plc xs)[x]).1 * 3, none⟩), .int .i64 ((locB bs (plc xs)[x]).2 : Nat), .pointer (some ⟨B, 0, none⟩), .slice sa sn sc, .func (.func 92) #[] #[.pointer (some ⟨w.heap.size + 1, 0, none⟩), .pointer (some ⟨w.heap.size, 0, none⟩)], .pointer (some ⟨g, (locB bs (plc xs)[x]).1 * 3, none⟩), .int .i64 ((locB bs (plc xs)[x]).2 : Nat), undef, undef, undef], defers := [] }) ?assign ?body ?done ?stop
 case assign =>
  intro l x W K hK
  unfold encS
  gi_wp2
  exact hK
 case body =>
  rintro lp pre x X hR hlen hlk
  obtain ⟨bs', e1, hB, hcat, hbox, hK⟩ := id hR
  have hpm := (plc_mem (fun s hs => (HX.out.1 s hs).1) (plc xs)[x]).1 (List.getElem_mem _)
  obtain ⟨s, hs, hs1, hs2⟩ := (sMark_iff _ _).1 hpm
  have hs3 := (HX.out.1 s hs).2.2
  obtain ⟨p, hp⟩ : ∃ p, (plc xs)[x] = p := ⟨_, rfl⟩
  have HP := Lib.hid hp
  rw [hp] at hs1 hs2
  try dsimp only
  rw [hp]
  clear hp hpm
  obtain ⟨k, y0, hy0, hk1, hk2⟩ := locB_ex bs p (by omega)
  rw [locB_at hy0 hk1 hk2]
  obtain ⟨y, hy, ev, el⟩ := vL_at e1 hy0
  obtain ⟨g', cap, cur, hbv, hg0, hgX, ha0, ha1, ha2, hback⟩ := blocks_parts hB.row hy
  have hgg : g' = g := by
   have hne : bs ≠ [] := fun e => by rw [e] at hy0; simp at hy0
   have := HGB.out _ _ _ hbv hne
   cases this
   rfl
  subst hgg
  have hFK := vL_FK e1 k
  have hFK' : (catB (bs.take k)).length = FK bs k := rfl
  rw [hFK'] at hk1 hk2 ⊢
  obtain ⟨at', hat⟩ : ∃ z, p - FK bs k = z := ⟨_, rfl⟩
  rw [hat]
  have hatl : at' < y.cs.length := by omega
  obtain ⟨c, hc⟩ : ∃ c, y.cs[at']? = some c := ⟨_, List.getElem?_eq_getElem hatl⟩
  have hkl : k < bs'.length := (List.getElem?_eq_some_iff.1 hy).1
  have hyl : y.cs.length ≤ 1000000 := by
   have := catB_le hy0
   have := HX.out.2.2.1
   omega
  have hrem := bremove_any n₀ at' g' (k * 3) cur y.v y.cs c X hgX ha0 ha1 ha2 (hB.own y (List.mem_of_getElem? hy)) hc hyl
  have HR := Lib.hid (And.intro e1 (And.intro hB (And.intro hcat (And.intro hbox hK))))
  have HY := Lib.hid (And.intro hy (And.intro hgX (And.intro ha2 (And.intro hback (And.intro hbv hkl)))))
  have HF := Lib.hid (And.intro hFK (And.intro hat (And.intro hk1 hatl)))
  have HRM := Lib.hid hrem
  clear e1 hB hcat hbox hK hy hgX ha0 ha1 ha2 hback hbv hkl hFK hat hk1 hk2 hatl hFK' hrem hR hs hs1 hs2 hs3 hy0 ev el hc hyl hlen hlk
  gi_wp2_with (refine ⟨trivial, ?_⟩; gi_at_call 76; refine (callsIn_wide.2 HRM.out).mono ?_; rintro e X' ⟨⟨_, rfl⟩, q1, q2, q3, q4⟩)
  obtain ⟨e1, hB, hcat, hbox, hK⟩ := HR.out
  obtain ⟨hy, hgX, ha2, hback, hbv, hkl⟩ := HY.out
  obtain ⟨hFK, hat, hk1, hatl⟩ := HF.out
  have hgo : bv.ownBlock = some g' := by rw [hbv]; rfl
  have hvt : ∀ j, y.v.ownBlock = some j → ∃ cc, X.heap[j]? = some (.cells cc 48 (0, 0)) := fun j e => (own_typed (hB.own y (List.mem_of_getElem? hy)) j e).2
  have hnew : RemI w n₀ B bv (.map (some M)) bs l (inP xs (pre ++ [x])) X' := by
   refine ⟨bs'.set k ⟨setG y.cs at', y.v⟩, (vL_set hy (by unfold vL; rw [setG_length])).trans e1, hB.one hy (hback X' ⟨setG y.cs at', y.v⟩ (by rw [set_self ha2]; exact q1)) q2 (q3.weak (Nat.le_refl _) (fun j _ h => h.elim (fun e => .inl (by rw [e]; exact hgo)) .inr)) (fun j e => .inl e), ?_, ?_, hK.trans (q3.weak hK.size (fun j _ h => ?_))⟩
   ·rw [catB_setG y.v hy hatl, hcat]
    have : (catB (bs'.take k)).length = FK bs k := hFK
    rw [this, show FK bs k + at' = p by omega, setG_goneC]
    exact goneC_congr fun i => by rw [inP_snoc, HP.out]
   ·refine q3.row hbox fun h => ?_
    rcases h with e | e
    ·rw [e, hgX] at hbox
     cases hbox
    ·obtain ⟨cc, hcc⟩ := hvt B e
     rw [hcc] at hbox
     cases hbox
   ·rcases h with e | e
    ·exact .inr (.inl (by rw [e]; exact hgo))
    ·exact footB_vL e1 (.inr (.inr ⟨y, List.mem_of_getElem? hy, e⟩))
  refine ⟨q3.others (fun j h o ho => ?_), ⟨fun _ => hnew.sz HGB.out, fun h2 hs => hs.ints h2 q4 hB hgo hkl, fun i cc t fr hi ht q => q3.row q fun h => ?_⟩, hnew⟩
  ·rcases h with e | e
   ·rw [e, hgX] at ho; cases ho; rfl
   ·obtain ⟨cc, hcc⟩ := hvt j e
    rw [hcc] at ho; cases ho; rfl
  ·apply ht
   unfold RowZ
   rcases h with e | e
   ·rw [e, hgX] at q; cases q; exact .inr rfl
   ·obtain ⟨c2, hcc⟩ := hvt i e
    rw [hcc] at q; cases q; exact .inl rfl
 case done =>
  rintro D ys Z hD rfl hR hK
  have e : inP xs (List.finRange (plc xs).length) = sMark xs := funext (inP_all fun s hs => (HX.out.1 s hs).1)
  rw [e] at hR
  have HZ := Lib.hid hR
  clear hR e
  gi_wp2
  refine ⟨by simp, .inl ⟨_, _, rfl, run_takeDeferred hK, ?_⟩⟩
  exact ⟨_, results_none rfl _ _ _, ⟨_, rfl⟩, HZ.out.far HLO.out (grownBy_putObj' Z D (.deferred none)) (fun r e => by cases e; omega)⟩
 case stop =>
  rintro D c pre Z hD hpre h
  exact h.elim
end Go.Proofs.YtmedickofiielaaGreatDoor
