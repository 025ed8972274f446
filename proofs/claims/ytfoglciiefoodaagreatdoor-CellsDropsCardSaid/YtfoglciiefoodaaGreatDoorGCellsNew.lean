/- Texts of this proof, joined. -/
import Derived.Test.YtfoglciiefoodaaGreatDoorCellsKnow
import Derived.Test.YtfoglciiefoodaaGreatDoorGCellsText
import Derived.Test.YtfoglciiefoodaaGreatDoorGCellsAsked
import Derived.Test.YtfoglciiefoodaaGreatDoorCellsForget
import Derived.Test.YtfoglciiefoodaaGreatDoorGRefSplit
import Derived.Test.YtfoglciiefoodaaGreatDoorShMClone
import Derived.Test.YtfoglciiefoodaaGreatDoorGCellsInsAny
import Derived.Test.YtfoglciiefoodaaGreatDoorGCellsSpots
namespace Go.Proofs.YtfoglciiefoodaaGreatDoor
open Go.RowKit Go.Shelf
attribute [local go_sem] Oper.semAt_some

theorem knowN_yes : ∀ (l : List PCell) (I : List Id3), (∀ k d, l[k]? = some d → ¬ idC d ∈ I ∧ ¬ idC d ∈ (l.take k).map idC) → knowN I l = (I ++ l.map idC, true)
  | [], I, _ => by simp [knowN]
  | c :: r, I, h => by
    rw [knowN_new (h 0 c rfl).1, knowN_yes r (I ++ [idC c]) (fun k d hd => by
      obtain ⟨h1, h2⟩ := h (k + 1) d hd
      rw [List.take_succ_cons, List.map_cons, List.mem_cons] at h2
      refine ⟨fun g => ?_, fun g => h2 (.inr g)⟩
      rcases List.mem_append.1 g with g | g
      · exact h1 g
      · exact h2 (.inl (List.mem_singleton.1 g)))]
    simp
theorem knowN_no : ∀ (l : List PCell) (I : List Id3) (k : Nat) (d : PCell), l[k]? = some d → (idC d ∈ I ∨ idC d ∈ (l.take k).map idC) → (knowN I l).2 = false
  | [], _, k, _, h, _ => by simp at h
  | c :: r, I, 0, d, h, g => by
    obtain rfl : c = d := by simpa using h
    rcases g with g | g
    · rw [knowN_dup g]
    · simp at g
  | c :: r, I, k + 1, d, h, g => by
    by_cases e : idC c ∈ I
    · rw [knowN_dup e]
    · rw [knowN_new e]
      refine knowN_no r (I ++ [idC c]) k d (by simpa using h) ?_
      rcases g with g | g
      · exact .inl (List.mem_append_left _ g)
      · rw [List.take_succ_cons, List.map_cons, List.mem_cons] at g
        rcases g with g | g
        · exact .inl (List.mem_append_right _ (List.mem_singleton.2 g))
        · exact .inr g
theorem sameId_iff (c d : PCell) : sameId c d = true ↔ idC c = idC d := by
  unfold sameId idC
  rw [decide_eq_true_iff]
  exact ⟨fun ⟨a, b, e⟩ => by rw [a, b, e], fun h => by injection h with a h; injection h with b e; exact ⟨a, b, e⟩⟩
theorem know_dup {l : List PCell} (h : dupC l l.length = true) : (knowN [] l).2 = false := by
  unfold dupC at h
  rw [List.any_eq_true] at h
  obtain ⟨i, hi, h⟩ := h
  have hi := List.mem_range.1 hi
  rw [List.getElem?_eq_getElem hi] at h
  simp only at h
  unfold dupTo at h
  rw [List.any_eq_true] at h
  obtain ⟨c, hc, e⟩ := h
  exact knowN_no l [] i l[i] (List.getElem?_eq_getElem hi) (.inr (List.mem_map.2 ⟨c, hc, (sameId_iff _ _).1 e⟩))
theorem know_all {l : List PCell} (h : dupC l l.length = false) : knowN [] l = (l.map idC, true) := by
  have := knowN_yes l [] (fun k d hd => ⟨by simp, fun g => by
    obtain ⟨c, hc, e⟩ := List.mem_map.1 g
    unfold dupC at h
    rw [List.any_eq_false] at h
    have h1 := h k (List.mem_range.2 (List.getElem?_eq_some_iff.1 hd).1)
    rw [hd] at h1
    apply h1
    show dupTo l d k = true
    unfold dupTo
    rw [List.any_eq_true]
    exact ⟨c, hc, (sameId_iff _ _).2 e⟩⟩)
  simpa using this
theorem Blocks.set {W : World} {n₀ : Nat} {v : Value} {bs : List PB} {B o : Nat} {c : Array Value} {t : TypeId} {fr : Nat × Nat} {u : Value} (h : Blocks W n₀ v bs) (hB : W.heap[B]? = some (.cells c t fr)) (h1 : t ≠ 96) (h2 : t ≠ 62) : Blocks (W.setCell ⟨B, o, none⟩ u) n₀ v bs :=
  ⟨own_far h.row hB h1 o u, fun x hx => own_far (h.own x hx) hB h2 o u, h.apart⟩
theorem Blocks.lower {W : World} {n₀ n₁ : Nat} {v : Value} {bs : List PB} (h : Blocks W n₀ v bs) (hn : n₁ ≤ n₀) : Blocks W n₁ v bs := ⟨own_lower h.row hn, fun x hx => own_lower (h.own x hx) hn, h.apart⟩
structure DocB (W : World) (n₀ B M : Nat) (bv : Value) (bs : List PB) (l : List PCell) : Prop where
  lowB : n₀ ≤ B
  lowM : n₀ ≤ M
  box : W.heap[B]? = some (.cells #[bv, .map (some M)] 79 (0, 0))
  blocks : Blocks W n₀ bv bs
  names : NMap W M (l.map idC)
  cat : catB bs = l
  few : bs.length ≤ 1000000
  full : ∀ x ∈ bs, x.cs ≠ []
theorem cok_names {l : List PCell} (h : l.all cellOk = true) (hw : CWf l) : ∀ c ∈ l, nWf (c.site, c.seq) ∧ 0 ≤ c.off ∧ c.off < 200 := fun c hc => by
  have h1 := List.all_eq_true.1 h c hc
  unfold cellOk at h1
  simp only [Bool.and_eq_true] at h1
  have h2 := of_decide_eq_true h1.1.2
  have h3 := hw c hc
  exact ⟨⟨h3.1, h3.2.1⟩, h2.1, by omega⟩
theorem new_results (W : World) (tm : Array Value) (a b : Value) (h2 : tm.getD 2 undef = a) (h3 : tm.getD 3 undef = b) :
    (results Tryz.f9 tm).run Tryz.prog W = .ok (.tuple #[a, b]) W := by
  have h4' : tm[2]?.getD undef = a := by simpa using h2
  have h5' : tm[3]?.getD undef = b := by simpa using h3
  simp [results, Tryz.f9, go_sem, h4', h5']
set_option maxRecDepth 100000 in
set_option maxHeartbeats 8000000 in
theorem new_no (v : Value) (l : List PCell) (w : World) (h : CAt w v l) (hw : CWf l) (hl : l.length ≤ 20000) (hm : cMay l ≠ 0) :
    Calls Tryz.prog 9 #[v] w fun e w' => e = .returned (.tuple #[.pointer none, .int .i64 (cMay l)]) ∧ Below w.heap.size w w' := by
  have hmay := cmay_any v l w h (by omega)
  by_cases hok : l.all cellOk = true
  · have hdup : dupC l l.length = true := by
      unfold cMay at hm
      rw [if_pos hok] at hm
      cases hd : dupC l l.length with
      | true => rfl
      | false => rw [hd, if_neg (by decide), if_neg (by omega)] at hm; exact absurd rfl hm
    have hcm : cMay l = 15 := by unfold cMay; rw [if_pos hok, if_pos hdup]
    rw [hok] at hmay
    have hkn := fun B w1 hb hB0 hB => know0_any B (.slice none 0 0) v l w w1 hb hB0 hB h (cok_names hok hw) (by omega)
    rw [know_dup hdup] at hkn
    rw [hcm]
    have HM := Lib.hid hmay
    have HK := Lib.hid hkn
    clear hmay hkn hm hcm hdup hok h
    go_enter Tryz.func9, Tryz.ntmps9
    go_wp2_with (first | (go_at_call 36; refine HM.out.mono ?_; rintro e w1 ⟨rfl, hb1⟩) | fail)
    have hbb : Below w.heap.size w (w1.alloc (.cells #[.slice none 0 0, .map none] 79)) := hb1.alloc hb1.size _
    refine (HK.out w1.heap.size _ hbb hb1.size (heap_new w1 _)).mono ?_
    rintro e w2 ⟨M, rfl, hM, -, hk, -⟩
    have HB := Lib.hid (hk.below (Nat.le_refl _) (fun k hk => by rw [hk]; have := hbb.size; omega))
    clear hk hbb
    go_wp2
    exact bodyPost_ret (new_results _ _ _ _ rfl rfl) rfl ⟨rfl, HB.out⟩
  · have hok : l.all cellOk = false := by simpa using hok
    have hcm : cMay l = 1 := by unfold cMay; rw [hok]; rfl
    rw [hok] at hmay
    rw [hcm]
    have HM := Lib.hid hmay
    clear hmay hm hcm hok h
    go_enter Tryz.func9, Tryz.ntmps9
    go_wp2_with (go_at_call 36; refine HM.out.mono ?_; rintro e w1 ⟨rfl, hb1⟩)
    exact bodyPost_ret (new_results _ _ _ _ rfl rfl) rfl ⟨rfl, hb1⟩
set_option maxRecDepth 100000 in
set_option maxHeartbeats 8000000 in
theorem new_yes (v : Value) (l : List PCell) (w : World) (h : CAt w v l) (hw : CWf l) (hl : l.length ≤ 20000) (hm : cMay l = 0) :
    Calls Tryz.prog 9 #[v] w fun e w' => ∃ B M bv bs, e = .returned (.tuple #[.pointer (some ⟨B, 0, none⟩), .int .i64 0]) ∧ DocB w' w.heap.size B M bv bs l ∧ Below w.heap.size w w' := by
  have hmay := cmay_any v l w h (by omega)
  have hok : l.all cellOk = true := by
    cases hd : l.all cellOk with
    | true => rfl
    | false => unfold cMay at hm; rw [hd, if_neg (by decide)] at hm; omega
  have hdup : dupC l l.length = false := by
    cases hd : dupC l l.length with
    | false => rfl
    | true => unfold cMay at hm; rw [if_pos hok, hd, if_pos rfl] at hm; omega
  rw [hok] at hmay
  have hkn := fun B w1 hb hB0 hB => know0_any B (.slice none 0 0) v l w w1 hb hB0 hB h (cok_names hok hw) (by omega)
  rw [know_all hdup] at hkn
  have hla := fun W (hb : Below w.heap.size w W) => laid_any v l W (h.below hb) (by omega)
  have HM := Lib.hid hmay
  have HK := Lib.hid hkn
  have HL := Lib.hid hla
  obtain ⟨ao, cap, rfl, -⟩ := h.shape
  obtain ⟨N, hN⟩ : ∃ N, l.length = N := ⟨_, rfl⟩
  have hnn : ¬ (20000 : Int) < (N : Int) := by omega
  rw [hN] at HM HK HL ⊢
  clear hmay hkn hla hm hdup hok h hl hN
  go_enter Tryz.func9, Tryz.ntmps9
  go_wp2_with (first | (go_at_call 36; refine HM.out.mono ?_; rintro e w1 ⟨rfl, hb1⟩) | fail)
  have hbb : Below w.heap.size w (w1.alloc (.cells #[.slice none 0 0, .map none] 79)) := hb1.alloc hb1.size _
  refine (HK.out w1.heap.size _ hbb hb1.size (heap_new w1 _)).mono ?_
  rintro e w2 ⟨M, rfl, hM, hn2, hk, hx2⟩
  have hM2 : w.heap.size ≤ M := Nat.le_trans hbb.size hM
  have hB2 : Below w.heap.size w w2 := hk.below (Nat.le_refl _) (fun k hk => by rw [hk]; exact hM2)
  have hMB : M ≠ w1.heap.size := by simp at hM; omega
  have H2 := Lib.hid (And.intro hn2 (And.intro hx2 (And.intro hB2 (And.intro hM2 (And.intro hMB hb1.size)))))
  clear hk hbb hn2 hx2 hB2 hM2 hMB hM hb1
  go_wp2_with fail
  refine (HL.out w2 H2.out.2.2.1).mono ?_
  rintro e w3 ⟨bv, bs, rfl, hbk, hcat, hfew, ⟨hfull, -⟩, hb3⟩
  have hx3 := row_up H2.out.2.1 hb3
  have z0 := box_cell hx3 0
  have f0 := box_frozen hx3 0
  obtain ⟨ao', n', cap', rfl⟩ := slice_of hbk.row
  have H3 := Lib.hid (And.intro hbk (And.intro hcat (And.intro hfew (And.intro hb3 (And.intro hx3 hfull)))))
  clear hbk hcat hfew hb3 hx3 hfull
  go_wp2
  obtain ⟨hn2, hx2, hB2, hM2, hMB, hs1⟩ := H2.out
  obtain ⟨hbk, hcat, hfew, hb3, hx3, hfull⟩ := H3.out
  refine bodyPost_ret (new_results _ _ _ _ rfl rfl) rfl ?_
  refine ⟨w1.heap.size, M, _, bs, rfl, ⟨hs1, hM2, box_set hx3 0 _, (hbk.lower hB2.size).set hx3 (by decide) (by decide), (hn2.below hb3).set hMB, hcat, hfew, hfull⟩, (hB2.trans (hb3.mono hB2.size)).setCell (p := ⟨w1.heap.size, 0, none⟩) hs1 _⟩
end Go.Proofs.YtfoglciiefoodaaGreatDoor

namespace Go.Proofs.YtfoglciiefoodaaGreatDoor
open Go.RowKit

theorem keptC_stay {l : List PCell} {f : Nat → Bool} (a : Nat) : ∀ d, a + d ≤ l.length → (∀ i, a ≤ i → i < a + d → f i = false) → keptC l f (a + d) = keptC l f a ++ (l.drop a).take d
  | 0, _, _ => by simp
  | d + 1, hl, h => by
    have hc : l[a + d]? = some l[a + d] := List.getElem?_eq_getElem (by omega)
    rw [← Nat.add_assoc, keptC_yes (h (a + d) (by omega) (by omega)) hc, keptC_stay a d (by omega) (fun i h1 h2 => h i h1 (by omega)), List.append_assoc, List.take_add_one, List.getElem?_drop, hc]
    rfl
theorem keptC_skip {l : List PCell} {f : Nat → Bool} (a : Nat) : ∀ d, (∀ i, a ≤ i → i < a + d → f i = true) → keptC l f (a + d) = keptC l f a
  | 0, _ => rfl
  | d + 1, h => by rw [← Nat.add_assoc, keptC_no (h (a + d) (by omega) (by omega)), keptC_skip a d (fun i h1 h2 => h i h1 (by omega))]
theorem mark_in {xs : List Sp} {s : Sp} (hs : s ∈ xs) (i : Nat) (h1 : s.1 ≤ (i : Int)) (h2 : (i : Int) < s.1 + s.2) : sMark xs i = true := (sMark_iff _ _).2 ⟨s, hs, h1, h2⟩
theorem mark_out {xs : List Sp} {k : Nat} {F : Int} (hF : ∀ s ∈ xs.take k, s.1 + s.2 ≤ F) {i : Nat} (hi : F ≤ (i : Int)) (hn : ∀ t ∈ xs.drop k, (i : Int) < t.1) : sMark xs i = false := by
  rw [Bool.eq_false_iff]
  intro h
  obtain ⟨s, hs, g1, g2⟩ := (sMark_iff _ _).1 h
  rw [← List.take_append_drop k xs] at hs
  rcases List.mem_append.1 hs with q | q
  · have := hF s q; omega
  · have := hn s q; omega
theorem RowC.sub {sz : Nat} {W : World} {ao : Option Addr} {n cap : Nat} {cs : List Value} (h : RowC sz W (.slice ao n cap) n cs) (a b : Nat) (hab : a ≤ b) (hb : b ≤ n) :
    RowC sz W (.slice (if cap = a then ao else Option.map (fun x : Addr => x.add (a * sz)) ao) (b - a) (cap - a)) (b - a) ((cs.drop (a * sz)).take ((b - a) * sz)) := by
  obtain ⟨hl, ao', cap', e, h1, h2, h3, h4⟩ := h
  cases e
  refine ⟨?_, _, _, rfl, by omega, by omega, ?_, fun ad ha => ?_⟩
  · rw [List.length_take, List.length_drop, hl, ← Nat.sub_mul]
    exact Nat.min_eq_left (Nat.mul_le_mul_right sz (by omega))
  · intro q
    by_cases hc : cap = a
    · omega
    · rw [if_neg hc] at q
      cases ao with
      | none => have := h3 rfl; omega
      | some ad => simp at q
  · by_cases hc : cap = a
    · rw [if_pos hc] at ha
      obtain ⟨b', off, e, hlt, hcl⟩ := h4 ad ha
      refine ⟨b', off, e, hlt, fun j u hj => ?_⟩
      have : b - a = 0 := by omega
      rw [this, Nat.zero_mul, List.take_zero] at hj
      simp at hj
    · rw [if_neg hc] at ha
      cases ao with
      | none => simp at ha
      | some ad0 =>
        obtain ⟨b', off, e, hlt, hcl⟩ := h4 ad0 rfl
        subst e
        simp only [Option.map_some, Option.some.injEq] at ha
        subst ha
        refine ⟨b', off + a * sz, by simp [Addr.add], hlt, fun j u hj => ?_⟩
        rw [List.getElem?_take] at hj
        split at hj
        · rw [List.getElem?_drop] at hj
          rw [Nat.add_assoc]
          exact hcl _ _ hj
        · cases hj
theorem CAt.sub {W : World} {ao : Option Addr} {n cap : Nat} {l : List PCell} (h : CAt W (.slice ao n cap) l) (a b : Nat) (hab : a ≤ b) (hb : b ≤ l.length) :
    CAt W (.slice (if cap = a then ao else Option.map (fun x : Addr => x.add (a * 5)) ao) (b - a) (cap - a)) ((l.drop a).take (b - a)) := by
  obtain ⟨ao', cap', e, -, -⟩ := h.shape
  cases e
  have hs := RowC.sub (show RowC 5 W (.slice ao l.length cap) l.length (cCells l) from h) a b hab hb
  unfold CAt
  rw [cCells_drop _ _ (by omega), cCells_take _ _ (by rw [List.length_drop]; omega)] at hs
  rw [List.length_take, List.length_drop, Nat.min_eq_left (by omega)]
  exact hs
theorem nodup_ids {l : List PCell} (h : dupC l l.length = false) : (l.map idC).Nodup := by
  refine List.pairwise_iff_getElem.2 fun i j hi hj hij e => ?_
  rw [List.length_map] at hi hj
  rw [List.getElem_map, List.getElem_map] at e
  unfold dupC at h
  rw [List.any_eq_false] at h
  have h1 := h j (List.mem_range.2 hj)
  rw [List.getElem?_eq_getElem hj] at h1
  apply h1
  show dupTo l l[j] j = true
  unfold dupTo
  rw [List.any_eq_true]
  exact ⟨l[i], List.mem_iff_getElem.2 ⟨i, by rw [List.length_take]; omega, by rw [List.getElem_take]⟩, (sameId_iff _ _).2 e⟩
theorem keptC_sub (l : List PCell) (f : Nat → Bool) : ∀ k, (keptC l f k).Sublist (l.take k)
  | 0 => by simp [keptC]
  | k + 1 => by
    have ih := keptC_sub l f k
    cases hc : l[k]? with
    | none =>
      have e : keptC l f (k + 1) = keptC l f k := by
        unfold keptC
        rw [List.range_succ, List.filterMap_append]
        simp [hc]
      rw [e]
      exact ih.trans (List.take_sublist_take_left (by omega))
    | some c =>
      rw [List.take_add_one, hc]
      cases hf : f k with
      | true =>
        rw [keptC_no hf]
        exact ih.trans (List.sublist_append_left _ _)
      | false =>
        rw [keptC_yes hf hc]
        exact ih.append (List.Sublist.refl _)
theorem part_iff {A T P R : List Id3} (hn : (A ++ (T ++ (P ++ R))).Nodup) (x : Id3) : (x ∈ A ++ (T ++ (P ++ R)) ∧ ¬ x ∈ P) ↔ x ∈ A ++ T ++ R := by
  obtain ⟨_, h2, d1⟩ := List.nodup_append.1 hn
  obtain ⟨_, h3, d2⟩ := List.nodup_append.1 h2
  obtain ⟨_, _, d3⟩ := List.nodup_append.1 h3
  simp only [List.mem_append] at d1 d2 ⊢
  constructor
  · rintro ⟨h | h | h | h, hp⟩
    · exact .inl (.inl h)
    · exact .inl (.inr h)
    · exact absurd h hp
    · exact .inr h
  · rintro ((h | h) | h)
    · exact ⟨.inl h, fun q => d1 x h x (.inr (.inl q)) rfl⟩
    · exact ⟨.inr (.inl h), fun q => d2 x h x (.inl q) rfl⟩
    · exact ⟨.inr (.inr (.inr h)), fun q => d3 x q x h rfl⟩
theorem forg_part {l : List PCell} {f : Nat → Bool} {I : List Id3} {F a b : Nat} (hd : (l.map idC).Nodup) (hFa : F ≤ a) (hab : a ≤ b) (hb : b ≤ l.length) (h1 : ∀ i, F ≤ i → i < a → f i = false) (h2 : ∀ i, a ≤ i → i < b → f i = true)
    (hI : ∀ x, x ∈ I ↔ x ∈ (keptC l f F ++ l.drop F).map idC) : ∀ x, x ∈ forgN I ((l.drop a).take (b - a)) ↔ x ∈ (keptC l f b ++ l.drop b).map idC := by
  have e1 : keptC l f a = keptC l f F ++ (l.drop F).take (a - F) := by
    have := keptC_stay (l := l) (f := f) F (a - F) (by omega) (fun i h h' => h1 i h (by omega))
    rwa [show F + (a - F) = a by omega] at this
  have e2 : keptC l f b = keptC l f a := by
    have := keptC_skip (l := l) (f := f) a (b - a) (fun i h h' => h2 i h (by omega))
    rwa [show a + (b - a) = b by omega] at this
  have e3 : l.drop F = (l.drop F).take (a - F) ++ ((l.drop a).take (b - a) ++ l.drop b) := by
    conv => lhs; rw [← List.take_append_drop (a - F) (l.drop F), List.drop_drop, show F + (a - F) = a by omega]
    congr 1
    conv => lhs; rw [← List.take_append_drop (b - a) (l.drop a), List.drop_drop, show a + (b - a) = b by omega]
  have hsub : (keptC l f F ++ l.drop F).Sublist l := by
    have this := keptC_sub l f F
    conv => rhs; rw [← List.take_append_drop F l]
    exact this.append (List.Sublist.refl _)
  intro x
  rw [forgN_mem, hI, e3, e2, e1]
  have hn : ((keptC l f F ++ l.drop F).map idC).Nodup := hd.sublist (hsub.map idC)
  rw [e3] at hn
  simp only [List.map_append] at hn ⊢
  exact part_iff hn x
end Go.Proofs.YtfoglciiefoodaaGreatDoor

namespace Go.Proofs.YtfoglciiefoodaaGreatDoor
open Go.RowKit Go.Shelf
attribute [local go_sem] Oper.semAt_some

theorem clone_names (M : Nat) (I : List Id3) (w : World) (h : NMap w M I) : Calls Tryz.prog 56 #[.map (some M)] w fun e w' => e = .returned (.map (some w.heap.size)) ∧ NMap w' w.heap.size I ∧ Below w.heap.size w w' := by
  obtain ⟨D, h1, h2⟩ := h
  refine (AnyW.maps_Clone_owns Tryz.cloneM 32 offEl M I.length D w h1).mono ?_
  rintro e w' ⟨rfl, h3, -, hb⟩
  exact ⟨rfl, ⟨D, h3, h2⟩, hb⟩
theorem Blocks.cells {W : World} {n₀ : Nat} {v : Value} {bs : List PB} (h : Blocks W n₀ v bs) : ∀ x ∈ bs, CAt W x.v x.cs := fun x hx => CAt.of_own (h.own x hx) rfl
theorem DocB.docR {W : World} {n₀ B M : Nat} {bv : Value} {bs : List PB} {l : List PCell} (h : DocB W n₀ B M bv bs l) (hl : l.length ≤ 100000) : DocR W B bv (.map (some M)) bs :=
  ⟨h.box, RowR.of_own h.blocks.row, h.blocks.cells, by rw [h.cat]; exact hl, h.few⟩
set_option maxRecDepth 100000 in
set_option maxHeartbeats 8000000 in
theorem dcopy_any (n₀ B M : Nat) (bv : Value) (bs : List PB) (l : List PCell) (w : World) (h : DocB w n₀ B M bv bs l) (hl : l.length ≤ 100000) :
    Calls Tryz.prog 31 #[.pointer (some ⟨B, 0, none⟩)] w fun e w' => ∃ B' M' bv' bs', e = .returned (.pointer (some ⟨B', 0, none⟩)) ∧ DocB w' w.heap.size B' M' bv' bs' l ∧ Below w.heap.size w w' := by
  have hR := h.docR hl
  have hc := fun X (hb : Below w.heap.size w X) => dcells_any B bv _ bs X (hR.below hb)
  rw [h.cat] at hc
  have HC := Lib.hid hc
  have HM := Lib.hid (fun X (hb : Below w.heap.size w X) => clone_names M _ X (h.names.below hb))
  have HL := Lib.hid (fun X v (hv : CAt X v l) => laid_any v l X hv (by omega))
  have HB := Lib.hid h.box
  clear hc hR h
  go_enter Tryz.func31, Tryz.ntmps31
  go_wp2
  refine wp_region_held_drew (S := fun X => Below w.heap.size w X) (by kernel_rfl) (Below.refl _ w).drew (fun hHeld => ?_)
  refine wpAnyH_take (i := 0) (v := ?_) rfl (by kernel_rfl) (by kernel_rfl) (by kernel_rfl) (fun _ _ _ h => h) (Or.inl ⟨rfl, ?hy1⟩) (by assumption) ?_
  case hy1 =>
    intro W hS
    go_simp
    try with_reducible rfl
  try simp only [Act.put, List.getElem_toArray, List.getElem_cons_zero, List.setIfInBounds_toArray, List.set_cons_zero, List.set_cons_succ]
  refine wpAnyH_take (i := 3) (v := ?_) rfl (by kernel_rfl) (by kernel_rfl) (by kernel_rfl) (fun _ _ _ h => h) (Or.inl ⟨rfl, ?hy2⟩) (by assumption) ?_
  case hy2 =>
    intro W hS
    go_simp
    try with_reducible rfl
  try simp only [Act.put, List.getElem_toArray, List.getElem_cons_succ, List.getElem_cons_zero, List.setIfInBounds_toArray, List.set_cons_zero, List.set_cons_succ]
  refine wpAnyH_take (i := 4) (v := ?_) rfl (by kernel_rfl) (by kernel_rfl) (by kernel_rfl) (fun _ _ _ h => h) (Or.inl ⟨rfl, ?hy3⟩) (by assumption) ?_
  case hy3 =>
    intro W hS
    go_simp
    try with_reducible rfl
  try simp only [Act.put, List.getElem_toArray, List.getElem_cons_succ, List.getElem_cons_zero, List.setIfInBounds_toArray, List.set_cons_zero, List.set_cons_succ]
  refine wpAnyH_take (i := 5) (v := ?_) rfl (by kernel_rfl) (by kernel_rfl) (by kernel_rfl) (fun _ _ _ h => h) (Or.inl ⟨rfl, ?hy4⟩) (by assumption) ?_
  case hy4 =>
    intro W hS
    go_simp
    try with_reducible rfl
  try simp only [Act.put, List.getElem_toArray, List.getElem_cons_succ, List.getElem_cons_zero, List.setIfInBounds_toArray, List.set_cons_zero, List.set_cons_succ]
  refine wpAnyH_take (i := 6) (v := ?_) rfl (by kernel_rfl) (by kernel_rfl) (by kernel_rfl) (fun _ _ _ h => h) (Or.inl ⟨rfl, ?hy5⟩) (by assumption) ?_
  case hy5 =>
    intro W hS
    have u0 := box_cell (row_up HB.out hS) 1
    go_simp
    try with_reducible rfl
  try simp only [Act.put, List.getElem_toArray, List.getElem_cons_succ, List.getElem_cons_zero, List.setIfInBounds_toArray, List.set_cons_zero, List.set_cons_succ]
  refine wpAnyH_ready (rs := [1]) (by kernel_rfl) (by simp) (AllReadyH.cons rfl (fun K hK => ?_) AllReadyH.nil)
  go_simp
  go_wp2_with (go_at_call 21; refine (HC.out _ hHeld).mono ?_; rintro e wc ⟨cv, rfl, hco, hb1⟩)
  refine hK.out _ _ (hHeld.trans (hb1.mono hHeld.size)) (fun hX => ?_)
  clear hK K hHeld
  have hHeld := hX
  clear hX
  refine wpAnyH_ready (rs := [2]) (by kernel_rfl) (by simp) (AllReadyH.cons rfl (fun K hK => ?_) AllReadyH.nil)
  go_simp
  go_wp2_with (go_at_call 38; refine (HL.out _ cv (CAt.of_own hco rfl)).mono ?_; rintro e wl ⟨bv2, bs2, rfl, hbk, hcat, hfew, ⟨hfull, -⟩, hb2⟩)
  refine hK.out _ _ (hHeld.trans (hb2.mono hHeld.size)) (fun hX => ?_)
  clear hK K hHeld
  have hHeld := hX
  clear hX
  refine wpAnyH_ready (rs := [7]) (by kernel_rfl) (by simp) (AllReadyH.cons rfl (fun K hK => ?_) AllReadyH.nil)
  obtain ⟨ao2, n2, c2, rfl⟩ := slice_of hbk.row
  go_simp
  go_wp2_with (go_at_call 56; refine (HM.out _ hHeld).mono ?_; rintro e wm ⟨rfl, hnm, hb3⟩)
  refine hK.out _ _ (hHeld.trans (hb3.mono hHeld.size)) (fun hX => ?_)
  clear hK K hHeld
  have hHeld := hX
  clear hX
  refine wpAnyH_take (i := 8) (v := ?_) rfl (by kernel_rfl) (by kernel_rfl) (by kernel_rfl) (fun _ _ _ h => h) (Or.inl ⟨rfl, ?hy6⟩) (by assumption) ?_
  case hy6 =>
    intro W hS
    go_simp
    try with_reducible rfl
  try simp only [Act.put, List.getElem_toArray, List.getElem_cons_succ, List.getElem_cons_zero, List.setIfInBounds_toArray, List.set_cons_zero, List.set_cons_succ]
  refine wpAnyH_ready (rs := [9]) (by kernel_rfl) (by simp) (AllReadyH.cons rfl (fun K hK => ?_) AllReadyH.nil)
  go_simp
  refine hK.out _ _ (hHeld.alloc hHeld.size _) (fun hX => ?_)
  clear hK K hHeld
  have hHeld := hX
  clear hX
  refine wpAnyH_take (i := 10) (v := ?_) rfl (by kernel_rfl) (by kernel_rfl) (by kernel_rfl) (fun _ _ _ h => h) (Or.inl ⟨rfl, ?hy7⟩) (by assumption) ?_
  case hy7 =>
    intro W hS
    go_simp
    try with_reducible rfl
  try simp only [Act.put, List.getElem_toArray, List.getElem_cons_succ, List.getElem_cons_zero, List.setIfInBounds_toArray, List.set_cons_zero, List.set_cons_succ]
  refine wpAnyH_done (by kernel_rfl) ?_ _
  have hs1 : w.heap.size ≤ wc.heap.size := hb1.size
  have hs2 : wc.heap.size ≤ wl.heap.size := hb2.size
  have hs3 : wl.heap.size ≤ wm.heap.size := hb3.size
  have hal : Below wm.heap.size wm (wm.alloc (.cells #[.slice ao2 n2 c2, .map (some wl.heap.size)] 79)) := (Below.refl _ wm).alloc (Nat.le_refl _) _
  have HF := Lib.hid (And.intro (DocB.mk (n₀ := w.heap.size) (B := wm.heap.size) (M := wl.heap.size) (bv := .slice ao2 n2 c2) (Nat.le_trans hs1 (Nat.le_trans hs2 hs3)) (Nat.le_trans hs1 hs2) (heap_new wm (.cells #[.slice ao2 n2 c2, .map (some wl.heap.size)] 79)) (((hbk.lower hs1).up hb3).up hal) (hnm.below hal) hcat hfew hfull) hHeld)
  clear hbk hcat hfew hfull hnm hb1 hb2 hb3 hal hHeld hco
  go_wp2
  go_ret
  exact ⟨_, _, _, _, rfl, HF.out.1, HF.out.2⟩
end Go.Proofs.YtfoglciiefoodaaGreatDoor

namespace Go.Proofs.YtfoglciiefoodaaGreatDoor
open Go.RowKit Go.Shelf

theorem kCells_set : ∀ (bs : List PB) (k : Nat) (x y : PB), bs[k]? = some x → (((kCells bs).set (k * 3 + 1 + 1) y.v).set (k * 3) (.int .i64 (liveN y.cs : Nat))).set (k * 3 + 1) (.int .i64 (goneN y.cs : Nat)) = kCells (bs.set k y)
  | [], k, _, _, h => by simp at h
  | b :: r, 0, x, y, _ => by
    show ((((kV b ++ kCells r).set (0 * 3 + 1 + 1) y.v).set (0 * 3) _).set (0 * 3 + 1) _) = kV y ++ kCells r
    unfold kV
    simp
  | b :: r, k + 1, x, y, h => by
    have ih := kCells_set r k x y (by simpa using h)
    show ((((kV b ++ kCells r).set ((k + 1) * 3 + 1 + 1) y.v).set ((k + 1) * 3) _).set ((k + 1) * 3 + 1) _) = kV b ++ kCells (r.set k y)
    have hl : (kV b).length = 3 := rfl
    rw [List.set_append_right _ _ (by omega), List.set_append_right _ _ (by omega), List.set_append_right _ _ (by omega), hl, show (k + 1) * 3 + 1 + 1 - 3 = k * 3 + 1 + 1 by omega, show (k + 1) * 3 - 3 = k * 3 by omega, show (k + 1) * 3 + 1 - 3 = k * 3 + 1 by omega, ih]
theorem blocks_parts {W : World} {n₀ : Nat} {v : Value} {bs : List PB} (h : W.ownsRow n₀ 96 3 v bs.length (kCells bs)) {k : Nat} {x : PB} (hk : bs[k]? = some x) : ∃ g cap cur, v = .slice (some ⟨g, 0, none⟩) bs.length cap ∧ n₀ ≤ g ∧ W.heap[g]? = some (.cells cur 96 (0, 0)) ∧
    cur[k * 3]? = some (.int .i64 (liveN x.cs : Nat)) ∧ cur[k * 3 + 1]? = some (.int .i64 (goneN x.cs : Nat)) ∧ cur[k * 3 + 1 + 1]? = some x.v ∧
    ∀ (W' : World) (y : PB), W'.heap[g]? = some (.cells (((cur.setIfInBounds (k * 3 + 1 + 1) y.v).setIfInBounds (k * 3) (.int .i64 (liveN y.cs : Nat))).setIfInBounds (k * 3 + 1) (.int .i64 (goneN y.cs : Nat))) 96 (0, 0)) → W'.ownsRow n₀ 96 3 v (bs.set k y).length (kCells (bs.set k y)) := by
  have hl := (List.getElem?_eq_some_iff.1 hk).1
  rcases h.2 with ⟨_, h0⟩ | ⟨g, cap, cur, rfl, hg0, hg, hnc, hcm, hcur, hX⟩
  · omega
  have hat : ∀ j, j < 3 → cur[k * 3 + j]? = (kV x)[j]? := fun j hj => by
    have h1 := kCells_at bs k j x hk hj
    rw [← hX, List.getElem?_take_of_lt (by omega)] at h1
    rw [← h1]
    simp
  refine ⟨g, cap, cur, rfl, hg0, hg, hat 0 (by decide), hat 1 (by decide), hat 2 (by decide), fun W' y hW => ⟨kCells_length _, .inr ⟨g, cap, _, by rw [List.length_set], hg0, hW, by rw [List.length_set]; exact hnc, hcm, by simp [hcur], ?_⟩⟩⟩
  rw [List.length_set, ← kCells_set bs k x y hk, ← hX]
  simp only [Array.toList_setIfInBounds, List.take_set]
theorem catB_set {bs : List PB} {k : Nat} {x y : PB} (h : bs[k]? = some x) : catB (bs.set k y) = catB (bs.take k) ++ y.cs ++ catB (bs.drop (k + 1)) := by
  have hl := (List.getElem?_eq_some_iff.1 h).1
  have h1 : (bs.set k y)[k]? = some y := by rw [List.getElem?_set]; simp [hl]
  rw [catB_split h1, List.take_set_of_le (Nat.le_refl _), List.drop_set_of_lt (by omega)]
theorem put_cat {bs : List PB} {k p : Nat} {x : PB} {ms : List PCell} (h : bs[k]? = some x) (h1 : (catB (bs.take k)).length ≤ p) (h2 : p ≤ (catB (bs.take k)).length + x.cs.length) :
    catB (bs.take k) ++ (x.cs.take (p - (catB (bs.take k)).length) ++ ms ++ x.cs.drop (p - (catB (bs.take k)).length)) ++ catB (bs.drop (k + 1)) = (catB bs).take p ++ ms ++ (catB bs).drop p := by
  rw [catB_split h]
  generalize catB (bs.take k) = A at h1 h2 ⊢
  generalize catB (bs.drop (k + 1)) = C
  obtain ⟨d, rfl⟩ : ∃ d, p = A.length + d := ⟨p - A.length, by omega⟩
  have hd : d ≤ x.cs.length := by omega
  have t1 : (A ++ x.cs ++ C).take (A.length + d) = A ++ x.cs.take d := by
    rw [List.append_assoc, List.take_append, List.take_of_length_le (Nat.le_add_right _ _), show A.length + d - A.length = d by omega, List.take_append_of_le_length hd]
  have t2 : (A ++ x.cs ++ C).drop (A.length + d) = x.cs.drop d ++ C := by
    rw [List.append_assoc, List.drop_append, List.drop_of_length_le (Nat.le_add_right _ _), show A.length + d - A.length = d by omega, List.drop_append_of_le_length hd, List.nil_append]
  rw [t1, t2, show A.length + d - A.length = d by omega]
  simp
end Go.Proofs.YtfoglciiefoodaaGreatDoor

namespace Go.Proofs.YtfoglciiefoodaaGreatDoor
open Go.RowKit Go.Shelf

def Off (x y : PB) : Prop := ∀ g, x.v.ownBlock = some g → y.v.ownBlock = some g → False
theorem Off.symm {x y : PB} (h : Off x y) : Off y x := fun g a b => h g b a
theorem Blocks.off {W : World} {n₀ : Nat} {v : Value} {bs : List PB} (h : Blocks W n₀ v bs) {i j : Nat} (hi : i < bs.length) (hj : j < bs.length) (hne : i ≠ j) : Off bs[i] bs[j] := by
  rcases Nat.lt_or_gt_of_ne hne with g | g
  · exact List.pairwise_iff_getElem.1 h.apart i j hi hj g
  · exact Off.symm (List.pairwise_iff_getElem.1 h.apart j i hj hi g)
theorem Blocks.one {w W : World} {n₀ k : Nat} {v : Value} {bs : List PB} {x y : PB} (h : Blocks w n₀ v bs) (hk : bs[k]? = some x) (hrow : W.ownsRow n₀ 96 3 v (bs.set k y).length (kCells (bs.set k y))) (hy : W.ownsRow n₀ 62 5 y.v y.cs.length (cCells y.cs))
    (hK : Keep (fun j => v.ownBlock = some j ∨ x.v.ownBlock = some j) w.heap.size w W) (hf : ∀ g, y.v.ownBlock = some g → x.v.ownBlock = some g ∨ w.heap.size ≤ g) : Blocks W n₀ v (bs.set k y) := by
  obtain ⟨hkl, hke⟩ := List.getElem?_eq_some_iff.1 hk
  have hfar : ∀ (j : Nat) (hj : j < bs.length), j ≠ k → ∀ g, bs[j].v.ownBlock = some g → g < w.heap.size ∧ ¬ x.v.ownBlock = some g := fun j hj hne g hg => by
    obtain ⟨_, c, hc⟩ := own_typed (h.own bs[j] (List.getElem_mem _)) g hg
    refine ⟨box_lt hc, fun e => ?_⟩
    rw [← hke] at e
    exact h.off hj hkl hne g hg e
  refine ⟨hrow, fun z hz => ?_, ?_⟩
  · obtain ⟨j, hj, rfl⟩ := List.mem_iff_getElem.1 hz
    rw [List.length_set] at hj
    rw [List.getElem_set]
    split
    · exact hy
    · next hne =>
      refine own_keepS (h.own bs[j] (List.getElem_mem _)) hK fun g hg e => ?_
      rcases e with e | e
      · obtain ⟨_, c, hc⟩ := own_typed h.row g e
        obtain ⟨_, c', hc'⟩ := own_typed (h.own bs[j] (List.getElem_mem _)) g hg
        rw [hc] at hc'
        cases hc'
      · exact (hfar j hj (fun q => hne q.symm) g hg).2 e
  · rw [List.pairwise_iff_getElem]
    intro i j hi hj hij
    rw [List.length_set] at hi hj
    rw [List.getElem_set, List.getElem_set]
    have hyo : ∀ (j : Nat) (hj : j < bs.length), j ≠ k → Off y bs[j] := fun j hj hne g a b => by
      have q := hfar j hj hne g b
      rcases hf g a with e | e
      · exact q.2 e
      · exact absurd q.1 (by omega)
    split
    · next e => rw [if_neg (by omega)]; exact hyo j hj (by omega)
    · split
      · next e => exact (hyo i hi (by omega)).symm
      · exact h.off hi hj (by omega)
theorem Blocks.rep {w W7 W8 : World} {n₀ k : Nat} {v v' u : Value} {bs bl : List PB} (h : Blocks w n₀ v bs) (hl : Blocks W7 w.heap.size u bl) (h7 : Below w.heap.size w W7) (hn : n₀ ≤ w.heap.size) (hrow : W8.ownsRow n₀ 96 3 v' (bs.take k ++ bl ++ bs.drop (k + 1)).length (kCells (bs.take k ++ bl ++ bs.drop (k + 1)))) (hK : Keep (fun j => v.ownBlock = some j) W7.heap.size W7 W8) : Blocks W8 n₀ v' (bs.take k ++ bl ++ bs.drop (k + 1)) := by
  have old : ∀ z ∈ bs, W8.ownsRow n₀ 62 5 z.v z.cs.length (cCells z.cs) := fun z hz => by
    refine own_keepS (own_up (h.own z hz) h7) hK fun g hg e => ?_
    obtain ⟨_, c, hc⟩ := own_typed h.row g e
    obtain ⟨_, c', hc'⟩ := own_typed (h.own z hz) g hg
    rw [hc] at hc'
    cases hc'
  have new : ∀ z ∈ bl, W8.ownsRow n₀ 62 5 z.v z.cs.length (cCells z.cs) := fun z hz => by
    refine own_keepS (own_lower (hl.own z hz) hn) hK fun g hg e => ?_
    obtain ⟨_, c, hc⟩ := own_typed h.row g e
    obtain ⟨q, _⟩ := own_typed (hl.own z hz) g hg
    have := box_lt hc
    omega
  have cross : ∀ z ∈ bs, ∀ y ∈ bl, Off z y := fun z hz y hy g a b => by
    obtain ⟨_, c, hc⟩ := own_typed (h.own z hz) g a
    obtain ⟨q, _⟩ := own_typed (hl.own y hy) g b
    have := box_lt hc
    omega
  have ht : ∀ z ∈ bs.take k, z ∈ bs := fun z hz => List.mem_of_mem_take hz
  have hd : ∀ z ∈ bs.drop (k + 1), z ∈ bs := fun z hz => List.mem_of_mem_drop hz
  refine ⟨hrow, fun z hz => ?_, ?_⟩
  · rcases List.mem_append.1 hz with g | g
    · rcases List.mem_append.1 g with g | g
      · exact old z (ht z g)
      · exact new z g
    · exact old z (hd z g)
  · have hp : (bs.take k ++ bs.drop (k + 1)).Pairwise Off := by
      refine List.Pairwise.sublist ?_ h.apart
      conv => rhs; rw [← List.take_append_drop k bs]
      exact List.Sublist.append (List.Sublist.refl _) (List.drop_sublist_drop_left bs (Nat.le_succ k))
    obtain ⟨p1, p2, p3⟩ := List.pairwise_append.1 hp
    rw [List.pairwise_append, List.pairwise_append]
    refine ⟨⟨p1, hl.apart, fun z hz y hy => cross z (ht z hz) y hy⟩, p2, fun z hz y hy => ?_⟩
    rcases List.mem_append.1 hz with g | g
    · exact p3 z g y hy
    · exact (cross y (hd y hy) z g).symm
end Go.Proofs.YtfoglciiefoodaaGreatDoor

namespace Go.Proofs.YtfoglciiefoodaaGreatDoor
open Go.RowKit Go.Shelf
attribute [local go_sem] Oper.semAt_some

structure DropI (w1 : World) (B M : Nat) (bv : Value) (l : List PCell) (f : Nat → Bool) (F : Nat) (lv : Value) (W : World) : Prop where
  own : W.ownsRow w1.heap.size 62 5 lv (keptC l f F).length (cCells (keptC l f F))
  keep : Keep (fun k => k = M) w1.heap.size w1 W
  box : W.heap[B]? = some (.cells #[bv, .map (some M)] 79 (0, 0))
  names : ∃ I, NMap W M I ∧ I.length ≤ 20000 ∧ (∀ x ∈ I, 0 ≤ x.2.2 ∧ x.2.2 < 200) ∧ ∀ x, x ∈ I ↔ x ∈ (keptC l f F ++ l.drop F).map idC
theorem DropI.alloc {w1 : World} {B M : Nat} {bv : Value} {l : List PCell} {f : Nat → Bool} {F : Nat} {lv : Value} {W : World} (h : DropI w1 B M bv l f F lv W) (o : Obj) : DropI w1 B M bv l f F lv (W.alloc o) :=
  ⟨h.own.alloc _, h.keep.alloc h.keep.size _, row_al h.box _, by obtain ⟨I, a, b⟩ := h.names; exact ⟨I, a.alloc _, b⟩⟩
theorem SpAt.km {W W' : World} {M : Nat} {I : List Id3} {v : Value} {xs : List Sp} (h : SpAt W v xs) (hM : NMap W M I) (K : Keep (fun k => k = M) W.heap.size W W') : SpAt W' v xs := by
  obtain ⟨D, ⟨es, ck, hm, -⟩, -⟩ := hM
  obtain ⟨ao, cap, rfl, h2⟩ := h
  refine ⟨ao, cap, rfl, fun hx => ?_⟩
  obtain ⟨b, off, rfl, hc⟩ := h2 hx
  exact ⟨b, off, rfl, fun i hi => ⟨cell_km hm K (hc i hi).1, cell_km hm K (hc i hi).2⟩⟩
theorem mem_offs {l : List PCell} (h : ∀ c ∈ l, 0 ≤ c.off ∧ c.off < 200) {m : List PCell} (hm : ∀ c ∈ m, c ∈ l) : ∀ x ∈ m.map idC, 0 ≤ x.2.2 ∧ x.2.2 < 200 := fun x hx => by
  obtain ⟨c, hc, rfl⟩ := List.mem_map.1 hx
  exact h c (hm c hc)
set_option maxRecDepth 100000 in
set_option maxHeartbeats 8000000 in
theorem ddrop_any (n₀ B M : Nat) (bv sp : Value) (bs : List PB) (l : List PCell) (xs : List Sp) (w : World) (hD : DocB w n₀ B M bv bs l) (hl : l.length ≤ 20000) (hw : CWf l) (hm : cMay l = 0) (hS : SpAt w sp xs) (hxl : xs.length ≤ 1000000) (hg : sGood xs) (hin : ∀ s ∈ xs, s.1 + s.2 ≤ l.length) :
    Calls Tryz.prog 65 #[.pointer (some ⟨B, 0, none⟩), sp] w fun e w' => (∃ r, e = .returned r) ∧ ∃ bv' bs', w'.heap[B]? = some (.cells #[bv', .map (some M)] 79 (0, 0)) ∧ Blocks w' w.heap.size bv' bs' ∧ catB bs' = keptC l (sMark xs) l.length ∧ bs'.length ≤ 1000000 ∧ (∀ x ∈ bs', x.cs ≠ []) ∧
      NMap w' M ((keptC l (sMark xs) l.length).map idC) ∧ Keep (fun k => k = B ∨ k = M) w.heap.size w w' := by
  have hR := hD.docR (by omega)
  have hc := dcells_any B bv _ bs w hR
  rw [hD.cat] at hc
  have hok : l.all cellOk = true := by
    cases hd : l.all cellOk with
    | true => rfl
    | false => unfold cMay at hm; rw [hd, if_neg (by decide)] at hm; omega
  have hdup : dupC l l.length = false := by
    cases hd : dupC l l.length with
    | false => rfl
    | true => unfold cMay at hm; rw [if_pos hok, hd, if_pos rfl] at hm; omega
  have hnd := nodup_ids hdup
  have hcn := cok_names hok hw
  obtain ⟨f, hf⟩ : ∃ f, sMark xs = f := ⟨_, rfl⟩
  obtain ⟨L, hL⟩ : ∃ L, l.length = L := ⟨_, rfl⟩
  obtain ⟨X, hX⟩ : ∃ X, xs.length = X := ⟨_, rfl⟩
  obtain ⟨sa, sc, hsv⟩ : ∃ sa sc, sp = .slice sa X sc := by obtain ⟨a, c, h, _⟩ := hS; exact ⟨a, c, by rw [← hX]; exact h⟩
  obtain ⟨cur, hcur, hmk⟩ := make_cells L (by omega)
  rw [hf, hL]
  rw [hL] at hl hc hin
  rw [hX] at hxl
  have HL := Lib.hid hL
  have HX := Lib.hid (And.intro hX (And.intro hg (And.intro hin hf)))
  have HD := Lib.hid hD
  have HS := Lib.hid hS
  have HN := Lib.hid (And.intro hnd hcn)
  have HSV := Lib.hid hsv
  clear hD hS hg hin hf hR hok hdup hnd hcn hw hm hL hX
  rw [hsv]
  go_enter Tryz.func65, Tryz.ntmps65
  go_wp2_with (go_at_call 21; refine hc.mono ?_; rintro e w1 ⟨cv, rfl, hco, hb1⟩; (obtain ⟨ca, cc, hcv, hcl, hcm⟩ := (CAt.of_own hco HL.out.symm).shape); rw [HL.out] at hcv hcl; subst hcv)
  have hDw := HD.out
  have hB1 := row_up hDw.box hb1
  have h0 : DropI w1 B M bv l f 0 (.slice (some ⟨w1.heap.size, 0, none⟩) 0 L) (w1.alloc (.cells cur 62)) := by
    refine ⟨World.ownsRow_made w1 cur L (Nat.le_refl _) (by unfold maxLen; omega) hcur, (Keep.refl _ _ _).alloc (Nat.le_refl _) _, row_al hB1 _, l.map idC, (hDw.names.below hb1).alloc _, by rw [List.length_map, HL.out]; exact hl, ?_, fun x => ?_⟩
    · exact mem_offs (fun c hc => (HN.out.2 c hc).2) (fun _ h => h)
    · rw [List.drop_zero]
      exact Iff.rfl
  have H0 := Lib.hid h0
  have H1 := Lib.hid (And.intro (CAt.of_own hco HL.out.symm) (And.intro hb1 (hDw.names.below hb1)))
  clear hDw hB1 h0 hco hb1 hmk hc
  generalize w1.alloc (.cells cur 62) = w2 at H0 ⊢
  obtain ⟨i0, hi0, hz0, hz1, hz2⟩ := infoCellI
  go_loopw [5, 6, 16] (fun lv fv ix wr => ∃ (i F : Nat) (la : Option Addr) (ln lc : Nat), ix = .int .i64 i ∧ fv = .int .i64 F ∧ lv = .slice la ln lc ∧ i ≤ X ∧ RowKit.Hid ((∀ t ∈ xs.take i, t.1 + t.2 ≤ (F : Int)) ∧ (∀ t ∈ xs.drop i, (F : Int) ≤ t.1) ∧ F ≤ L ∧ DropI w1 B M bv l f F (.slice la ln lc) wr)) (fun _ _ ix _ => X - (intOf ix).toNat)
  case atStart => exact ⟨0, 0, _, _, _, rfl, rfl, rfl, Nat.zero_le _, Lib.hid ⟨fun t ht => by simp at ht, fun t ht => (HX.out.2.1.1 t (by simpa using ht)).2.1, Nat.zero_le _, H0.out⟩⟩
  case round =>
    rename World => wr
    clear H0
    obtain ⟨i, F, la, ln, lc, rfl, rfl, rfl, hi, hI⟩ := hrel
    rcases Nat.lt_or_ge i X with hlt | hge
    · have hxi : i < xs.length := by rw [HX.out.1]; exact hlt
      obtain ⟨s, hs⟩ : ∃ s, xs[i]? = some s := ⟨_, List.getElem?_eq_getElem hxi⟩
      obtain ⟨hlow, hup, hFL, hDI⟩ := hI.out
      obtain ⟨b, off, cap', hv, c0, c1⟩ := ((HS.out.below H1.out.2.1).km H1.out.2.2 hDI.keep).at hxi
      rw [getD_of hs] at c0 c1
      rw [HX.out.1] at hv
      have hv2 := HSV.out.symm.trans hv
      cases hv2
      have hs0 := HX.out.2.1.1 s (List.mem_of_getElem? hs)
      have hs2 := HX.out.2.2.1 s (List.mem_of_getElem? hs)
      have hFs : (F : Int) ≤ s.1 := hup s (by rw [List.drop_eq_getElem_cons hxi, (List.getElem?_eq_some_iff.1 hs).2]; exact List.mem_cons_self ..)
      obtain ⟨a, ha⟩ : ∃ a : Nat, s.1 = (a : Int) := ⟨s.1.toNat, by omega⟩
      obtain ⟨m, hm'⟩ : ∃ m : Nat, s.2 = (m : Int) := ⟨s.2.toNat, by omega⟩
      obtain ⟨E, hE⟩ : ∃ E, a + m = E := ⟨_, rfl⟩
      have hwE : IntKind.i64.wrap ((a : Int) + (m : Int)) = ((E : Nat) : Int) := by rw [← hE]; exact (IntWalk.i64_in _ (by omega)).trans (by push_cast; rfl)
      have hFa : F ≤ a := by omega
      have haE : a ≤ E := by omega
      have hEL : E ≤ L := by omega
      have hix : (0 : Int) ≤ (i : Int) ∧ (i : Int) < (X : Int) := ⟨by omega, by omega⟩
      rw [ha] at c0
      rw [hm'] at c1
      have hDB := Lib.hid (hDI.alloc (.cells #[.int .i64 (a : Int), .int .i64 (m : Int)] 73))
      have HBx := Lib.hid (heap_new wr (.cells #[.int .i64 (a : Int), .int .i64 (m : Int)] 73))
      have HSX := Lib.hid (And.intro hs (And.intro ha (And.intro hm' hE)))
      have hcv := (H1.out.1.km H1.out.2.2 hDB.out.keep)
      have hsub := hcv.sub F a hFa (by rw [HL.out]; omega)
      obtain ⟨ad1, had1⟩ : ∃ z, (if cc = F then ca else Option.map (fun x : Addr => x.add (F * 5)) ca) = z := ⟨_, rfl⟩
      obtain ⟨ad2, had2⟩ : ∃ z, (if cc = a then ca else Option.map (fun x : Addr => x.add (a * 5)) ca) = z := ⟨_, rfl⟩
      rw [had1] at hsub
      have HSUB := Lib.hid hsub
      have HI2 := Lib.hid (And.intro hlow (And.intro hup hFL))
      obtain ⟨I, hI1, hI2, hI3, hI4⟩ := hDB.out.names
      have HNM := Lib.hid (And.intro hI1 (And.intro hI2 (And.intro hI3 hI4)))
      have HOW := Lib.hid hDB.out.own
      have HKB := Lib.hid (And.intro hDB.out.keep hDB.out.box)
      have hkl : (keptC l f F).length ≤ F := keptC_le l f F
      have hpl : ((l.drop F).take (a - F)).length = a - F := by rw [List.length_take, List.length_drop, HL.out]; omega
      have z3 : (keptC l f F).length + ((l.drop F).take (a - F)).length ≤ maxLen := by rw [hpl]; unfold maxLen; omega
      have z4 : ((keptC l f F).length + ((l.drop F).take (a - F)).length) * 32 ≤ 140737488355328 := by rw [hpl]; omega
      clear hs ha hm' hE hDI hlow hup hs0 hs2 hFs hxi hcv hsub hv hI hI1 hI2 hI3 hI4 hDB hkl hpl
      go_wp2_with (at_builtin; go_must (refine wpList_app_any rfl _ _ 22 rfl w1.heap.size 62 i0 (.agg #[.int .i64 0, .int .i64 0, .int .i64 0, .int .i32 0, .bool false]) 5 32 Tryz.underlying22 hi0 hz0 hz1 hz2 rfl (by decide) _ _ _ rfl HOW.out _ _ _ rfl HSUB.out.reads (cCells_ones _) z3 z4 (HKB.out.1.size) ?_; intro v4 w4 ho4 hg4; (have t1 := row_grown HBx.out hg4 HOW.out (by decide)); (have s0 := box_cell t1 0); (have s1 := box_cell t1 1); (obtain ⟨q1, q2, q3, rfl⟩ := slice_of ho4)))
      have hk4 : Keep (fun k => k = M) w1.heap.size w1 w4 := HKB.out.1.grown hg4 HKB.out.1.size (fun g hg => .inr (own_typed HOW.out g hg).1)
      have hb4 := row_grown HKB.out.2 hg4 HOW.out (by decide)
      have hm4 : NMap w4 M I := HNM.out.1.kept (hg4.block M HNM.out.1.lt (fun e => by have := (own_typed HOW.out M e.symm).1; have := H1.out.2.2.lt; omega))
      have hsub2 := (H1.out.1.km H1.out.2.2 hk4).sub a E haE (by rw [HL.out]; exact hEL)
      rw [had2] at hsub2
      have hmemp : ∀ c ∈ (l.drop a).take (E - a), c ∈ l := fun c hc => List.mem_of_mem_drop (List.mem_of_mem_take hc)
      have hfg := forget_any B M bv I _ _ w4 hb4 hm4 hsub2 (fun c hc => HN.out.2 c (hmemp c hc)) HNM.out.2.2.1 (by have := HNM.out.2.1; omega) (by rw [List.length_take]; omega)
      have HFG := Lib.hid hfg
      have H4 := Lib.hid (And.intro hk4 (And.intro ho4 H1.out.2.2))
      clear hk4 hb4 hm4 hsub2 hmemp hfg hg4 t1 s0 s1 ho4
      refine HFG.out.mono ?_
      clear HFG
      rintro e w5 ⟨⟨_, rfl⟩, hn5, hk5, hb5⟩
      have HN5 := Lib.hid (And.intro hn5 (And.intro hk5 hb5))
      clear hn5 hk5 hb5
      go_wp2
      obtain ⟨hk4, ho4, hm1⟩ := H4.out
      obtain ⟨hn5, hk5, hb5⟩ := HN5.out
      obtain ⟨hs, ha, hm', hE⟩ := HSX.out
      have hfm := HX.out.2.2.2
      have h1 : ∀ j, F ≤ j → j < a → f j = false := fun j h1 h2 => by
        rw [← hfm]
        refine mark_out (k := i) HI2.out.1 (by omega) fun t ht => ?_
        rw [List.drop_eq_getElem_cons (by rw [HX.out.1]; exact hlt), (List.getElem?_eq_some_iff.1 hs).2] at ht
        rcases List.mem_cons.1 ht with rfl | ht
        · omega
        · have := low_next (F := E) HX.out.2.1.2 hs (by omega) t ht
          omega
      have h2 : ∀ j, a ≤ j → j < E → f j = true := fun j h1 h2 => by
        rw [← hfm]
        exact mark_in (List.mem_of_getElem? hs) j (by omega) (by omega)
      have e1 : keptC l f E = keptC l f F ++ (l.drop F).take (a - F) := by
        have q1 := keptC_stay (l := l) (f := f) F (a - F) (by rw [HL.out]; omega) (fun j g1 g2 => h1 j g1 (by omega))
        have q2 := keptC_skip (l := l) (f := f) a (E - a) (fun j g1 g2 => h2 j g1 (by omega))
        rw [show F + (a - F) = a by omega] at q1
        rw [show a + (E - a) = E by omega] at q2
        rw [q2, q1]
      refine ⟨⟨i + 1, E, q1, q2, q3, by go_num, rfl, rfl, by omega, Lib.hid ⟨fun t ht => ?_, low_next HX.out.2.1.2 hs (by omega), hEL, ?_, hk4.trans (hk5.weak hk4.size (fun _ _ h => h)), hb5, forgN I ((l.drop a).take (E - a)), hn5, Nat.le_trans (forgN_len _ _) HNM.out.2.1, fun x hx => HNM.out.2.2.1 x (forgN_mem.1 hx).1, forg_part HN.out.1 hFa haE (by rw [HL.out]; exact hEL) h1 h2 HNM.out.2.2.2⟩⟩, by simp [intOf]; omega⟩
      · rw [List.take_add_one, hs] at ht
        rcases List.mem_append.1 ht with ht | ht
        · have := HI2.out.1 t ht
          omega
        · obtain rfl : t = s := by simpa using ht
          omega
      · rw [e1, List.length_append, cCells_append]
        refine own_keepS ho4 hk5 fun g hg e => ?_
        have := (own_typed ho4 g hg).1
        have := hm1.lt
        omega
    · obtain rfl : X = i := by omega
      obtain ⟨hlow, hup, hFL, hDI⟩ := hI.out
      have hfm := HX.out.2.2.2
      have htl : xs.take X = xs := List.take_of_length_le (by rw [HX.out.1]; exact Nat.le_refl _)
      have hfin : keptC l f L = keptC l f F ++ (l.drop F).take (L - F) := by
        have q1 := keptC_stay (l := l) (f := f) F (L - F) (by rw [HL.out]; omega) (fun j g1 g2 => by
          rw [← hfm]
          refine mark_out (k := X) hlow (by omega) fun t ht => ?_
          rw [List.drop_of_length_le (by rw [HX.out.1]; exact Nat.le_refl _)] at ht
          cases ht)
        rwa [show F + (L - F) = L by omega] at q1
      obtain ⟨ad1, had1⟩ : ∃ z, (if cc = F then ca else Option.map (fun x : Addr => x.add (F * 5)) ca) = z := ⟨_, rfl⟩
      have hsub := (H1.out.1.km H1.out.2.2 hDI.keep).sub F L hFL (by rw [HL.out]; exact Nat.le_refl _)
      rw [had1] at hsub
      have HSUB := Lib.hid hsub
      have HOW := Lib.hid hDI.own
      have HKB := Lib.hid (And.intro hDI.keep (And.intro hDI.box (And.intro hDI.names hfin)))
      have hkl : (keptC l f F).length ≤ F := keptC_le l f F
      have hpl : ((l.drop F).take (L - F)).length = L - F := by rw [List.length_take, List.length_drop, HL.out]; omega
      have z3 : (keptC l f F).length + ((l.drop F).take (L - F)).length ≤ maxLen := by rw [hpl]; unfold maxLen; omega
      have z4 : ((keptC l f F).length + ((l.drop F).take (L - F)).length) * 32 ≤ 140737488355328 := by rw [hpl]; omega
      clear hlow hup hDI hfm htl hfin hsub hkl hpl hI
      go_wp2_with (at_builtin; go_must (refine wpList_app_any rfl _ _ 22 rfl w1.heap.size 62 i0 (.agg #[.int .i64 0, .int .i64 0, .int .i64 0, .int .i32 0, .bool false]) 5 32 Tryz.underlying22 hi0 hz0 hz1 hz2 rfl (by decide) _ _ _ rfl HOW.out _ _ _ rfl HSUB.out.reads (cCells_ones _) z3 z4 (HKB.out.1.size) ?_; intro v4 w4 ho4 hg4; (obtain ⟨q1, q2, q3, rfl⟩ := slice_of ho4)))
      obtain ⟨hkr, hbr, ⟨I, hI1, hI2, hI3, hI4⟩, hfin⟩ := HKB.out
      have hk4 : Keep (fun k => k = M) w1.heap.size w1 w4 := hkr.grown hg4 hkr.size (fun g hg => .inr (own_typed HOW.out g hg).1)
      have hb4 := row_grown hbr hg4 HOW.out (by decide)
      have hm4 : NMap w4 M I := hI1.kept (hg4.block M hI1.lt (fun e => by have := (own_typed HOW.out M e.symm).1; have := H1.out.2.2.lt; omega))
      have hm5 : NMap w4 M ((keptC l f L).map idC) := hm4.congr fun x => by
        rw [hI4, hfin, List.take_of_length_le (by rw [List.length_drop, HL.out]; exact Nat.le_refl _)]
      rw [← cCells_append, ← List.length_append, ← hfin] at ho4
      have hkl : (keptC l f L).length ≤ L := keptC_le l f L
      have hla := laid_any _ (keptC l f L) w4 (CAt.of_own ho4 rfl) (by omega)
      have hkw : Keep (fun k => k = B ∨ k = M) w.heap.size w w4 := (Keep.of_below H1.out.2.1 (Nat.le_refl _)).trans (hk4.weak H1.out.2.1.size (fun _ _ h => .inr h))
      have HZ := Lib.hid (And.intro hb4 (And.intro hm5 hkw))
      have HLA := Lib.hid hla
      clear hkr hbr hI1 hI2 hI3 hI4 hfin hk4 hb4 hm4 hm5 ho4 hkl hla hkw hg4
      refine HLA.out.mono ?_
      clear HLA
      rintro e w5 ⟨bv5, bs5, rfl, hbk, hcat, hfew, ⟨hfull, -⟩, hb5⟩
      have hx5 := row_up HZ.out.1 hb5
      have y0 := box_cell hx5 0
      have y1 := box_frozen hx5 0
      obtain ⟨ao5, n5, c5, rfl⟩ := slice_of hbk.row
      have H5 := Lib.hid (And.intro hbk (And.intro hcat (And.intro hfew (And.intro hfull (And.intro hb5 hx5)))))
      clear hbk hcat hfew hfull hb5 hx5
      go_wp2
      obtain ⟨hbk, hcat, hfew, hfull, hb5, hx5⟩ := H5.out
      obtain ⟨hb4, hm5, hkw⟩ := HZ.out
      go_end0
      refine ⟨⟨_, rfl⟩, _, bs5, box_set hx5 0 _, (hbk.lower hkw.size).set hx5 (by decide) (by decide), hcat, hfew, hfull, (hm5.below hb5).set (fun e => by subst e; exact absurd rfl (ne_map hm5 hb4)), ?_⟩
      exact (hkw.trans (Keep.of_below hb5 hkw.size)).setCell (p := ⟨B, 0, none⟩) (.inl (.inl rfl)) _
end Go.Proofs.YtfoglciiefoodaaGreatDoor
