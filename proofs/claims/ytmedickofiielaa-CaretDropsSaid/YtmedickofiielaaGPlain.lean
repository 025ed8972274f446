/- Texts of this proof, joined. -/
import Derived.Test.YtmedickofiielaaRows
import Derived.Lib.DecodeN
import Derived.Lib.SpaceU
import Derived.Lib.RuneBytes
import Derived.Lib.Small
import Derived.Test.YtmedickofiielaaGSpansPlain
namespace Go.Proofs.Ytmedickofiielaa
open Go.Lib

def badL (l : List UInt8) : Bool := decide ((decodeL l).1 = 65533 ∧ (decodeL l).2 = 1)

theorem get!_list (l : List UInt8) (i : Nat) : (⟨l.toArray⟩ : ByteArray).get! i = l.getD i 0 := by
 show l.toArray.getD i default = _
 simp [Array.getD, List.getD]
 split <;> rename_i h
 ·simp [h]
 ·simp [List.getElem?_eq_none (by omega : l.length ≤ i)]; rfl

theorem decodeL_eq (l : List UInt8) : decodeL l = decodeN l.length (l.getD 0 0).toNat (l.getD 1 0).toNat (l.getD 2 0).toNat (l.getD 3 0).toNat := by
 unfold decodeL
 rw [decode_at]
 simp only [get!_list]
 rfl

theorem u8eq {b : UInt8} {x : Int} (h : (b.toNat : Int) = x) : b = x.toNat.toUInt8 := by
 apply UInt8.toNat_inj.1
 have := b.toNat_lt
 simp [UInt8.toNat_ofNat']
 omega

set_option maxHeartbeats 4000000 in
theorem encode_decode (l : List UInt8) (hl : l ≠ []) (hb : badL l = false) :
  ∃ t, l = encodeRune ((decodeL l).1 : Int) ++ t ∧ (decodeL l).2 = (encodeRune ((decodeL l).1 : Int)).length ∧ Lib.validRune ((decodeL l).1 : Int) = true := by
 have hb' : ¬ ((decodeL l).1 = 65533 ∧ (decodeL l).2 = 1) := by simpa [badL] using hb
 rw [decodeL_eq] at hb' ⊢
 unfold decodeN at hb' ⊢
 obtain _ | ⟨b0, l⟩ := l
 ·exact absurd rfl hl
 have g0 := b0.toNat_lt
 simp only [List.getD_cons_zero, List.getD_cons_succ] at hb' ⊢
 split
 ·rename_i h0
  refine ⟨l, ?_⟩
  simp only [encodeRune]
  rw [encodeRuneZ_one (by omega) (by omega)]
  refine ⟨?_, rfl, ?_⟩
  ·simp only [List.map_cons, List.map_nil, List.cons_append, List.nil_append]
   rw [← u8eq (x := (b0.toNat : Int)) rfl]
  ·simp only [Lib.validRune]; exact decide_eq_true (by omega)
 ·rename_i h0
  rw [if_neg h0] at hb'
  split
  ·rename_i h1
   rw [if_pos h1] at hb'
   obtain _ | ⟨b1, l⟩ := l
   ·simp at h1
   have g1 := b1.toNat_lt
   simp only [List.getD_cons_zero] at h1 hb' ⊢
   split
   ·rename_i h2
    refine ⟨l, ?_⟩
    simp only [encodeRune]
    rw [encodeRuneZ_two (by omega) (by omega)]
    refine ⟨?_, rfl, ?_⟩
    ·simp only [List.map_cons, List.map_nil, List.cons_append, List.nil_append]
     rw [← u8eq (b := b0) (by omega), ← u8eq (b := b1) (by omega)]
    ·simp only [Lib.validRune]; exact decide_eq_true (by omega)
   ·rename_i h2
    rw [if_neg h2] at hb'
    exact absurd ⟨rfl, rfl⟩ hb'
  ·rename_i h1
   rw [if_neg h1] at hb'
   split
   ·rename_i h2
    rw [if_pos h2] at hb'
    obtain _ | ⟨b1, l⟩ := l
    ·simp at h2
    obtain _ | ⟨b2, l⟩ := l
    ·simp at h2
    have g1 := b1.toNat_lt
    have g2 := b2.toNat_lt
    simp only [List.getD_cons_zero, List.getD_cons_succ] at h1 h2 hb' ⊢
    split
    ·rename_i h3
     refine ⟨l, ?_⟩
     simp only [encodeRune]
     rw [encodeRuneZ_three (by omega)]
     refine ⟨?_, rfl, ?_⟩
     ·simp only [List.map_cons, List.map_nil, List.cons_append, List.nil_append]
      rw [← u8eq (b := b0) (by omega), ← u8eq (b := b1) (by omega), ← u8eq (b := b2) (by omega)]
     ·simp only [Lib.validRune]; exact decide_eq_true (by omega)
    ·rename_i h3
     rw [if_neg h3] at hb'
     exact absurd ⟨rfl, rfl⟩ hb'
   ·rename_i h2
    rw [if_neg h2] at hb'
    split
    ·rename_i h3
     rw [if_pos h3] at hb'
     obtain _ | ⟨b1, l⟩ := l
     ·simp at h3
     obtain _ | ⟨b2, l⟩ := l
     ·simp at h3
     obtain _ | ⟨b3, l⟩ := l
     ·simp at h3
     have g1 := b1.toNat_lt
     have g2 := b2.toNat_lt
     have g3 := b3.toNat_lt
     simp only [List.getD_cons_zero, List.getD_cons_succ] at h1 h2 h3 hb' ⊢
     split
     ·rename_i h4
      refine ⟨l, ?_⟩
      simp only [encodeRune]
      rw [encodeRuneZ_four (by omega) (by omega)]
      refine ⟨?_, rfl, ?_⟩
      ·simp only [List.map_cons, List.map_nil, List.cons_append, List.nil_append]
       rw [← u8eq (b := b0) (by omega), ← u8eq (b := b1) (by omega), ← u8eq (b := b2) (by omega), ← u8eq (b := b3) (by omega)]
      ·simp only [Lib.validRune]; exact decide_eq_true (by omega)
     ·rename_i h4
      rw [if_neg h4] at hb'
      exact absurd ⟨rfl, rfl⟩ hb'
    ·rename_i h3
     rw [if_neg h3] at hb'
     exact absurd ⟨rfl, rfl⟩ hb'

def rnF : Nat → List UInt8 → Option (List Int)
 | 0, _ => some []
 | f + 1, l => if l = [] then some [] else if badL l then none else (rnF f (l.drop (decodeL l).2)).map (((decodeL l).1 : Int) :: ·)
def runesL (l : List UInt8) : Option (List Int) := rnF l.length l
def joinL (l : List Int) : List UInt8 := l.flatMap encodeRune
theorem joinL_nil : joinL [] = [] := rfl
theorem joinL_cons (r : Int) (l : List Int) : joinL (r :: l) = encodeRune r ++ joinL l := rfl
theorem joinL_append (a b : List Int) : joinL (a ++ b) = joinL a ++ joinL b := by simp [joinL]

theorem encode_pos (r : Int) : 1 ≤ (encodeRune r).length := by simpa [encodeRune] using (encodeRuneZ_length r).1
theorem encode_le (r : Int) : (encodeRune r).length ≤ 4 := by simpa [encodeRune] using (encodeRuneZ_length r).2
theorem rnF_join : ∀ (f : Nat) (l : List UInt8) (rs : List Int), l.length ≤ f → rnF f l = some rs → l = joinL rs ∧ ∀ r ∈ rs, Lib.validRune r = true
 | 0, l, rs, hf, h => by
  obtain rfl : l = [] := List.eq_nil_of_length_eq_zero (by omega)
  simp [rnF] at h
  subst h
  exact ⟨rfl, by simp⟩
 | f + 1, l, rs, hf, h => by
  unfold rnF at h
  by_cases h0 : l = []
  ·rw [if_pos h0] at h
   simp at h
   subst h
   exact ⟨by rw [h0]; rfl, by simp⟩
  ·rw [if_neg h0] at h
   cases hb : badL l with
   | true => rw [hb] at h; simp at h
   | false =>
    rw [hb] at h
    simp only [Bool.false_eq_true, if_false] at h
    obtain ⟨t, ht, hw, hv⟩ := encode_decode l h0 hb
    have hd : l.drop (decodeL l).2 = t := by
     rw [hw]
     generalize (decodeL l).1 = c at ht ⊢
     rw [ht, List.drop_left]
    rw [hd] at h
    cases hr : rnF f t with
    | none => rw [hr] at h; simp at h
    | some ts =>
     rw [hr] at h
     simp at h
     subst h
     have hlen : t.length ≤ f := by
      have e := congrArg List.length ht
      have := encode_pos ((decodeL l).1 : Int)
      simp at e
      omega
     obtain ⟨e, hvs⟩ := rnF_join f t ts hlen hr
     refine ⟨?_, ?_⟩
     ·rw [joinL_cons, ← e]; exact ht
     ·intro r hr
      rcases List.mem_cons.1 hr with rfl | hr
      ·exact hv
      ·exact hvs r hr
theorem runesL_join {l : List UInt8} {rs : List Int} (h : runesL l = some rs) : l = joinL rs ∧ ∀ r ∈ rs, Lib.validRune r = true := rnF_join _ _ _ (Nat.le_refl _) h

theorem rnF_fuel (f : Nat) (l : List UInt8) (hf : l.length ≤ f) : rnF f l = runesL l := by
 suffices H : ∀ f g l, l.length ≤ f → l.length ≤ g → rnF f l = rnF g l from H f l.length l hf (Nat.le_refl _)
 intro f
 induction f with
 | zero =>
  intro g l hf hg
  obtain rfl : l = [] := List.eq_nil_of_length_eq_zero (by omega)
  cases g <;> simp [rnF]
 | succ f ih =>
  intro g l hf hg
  by_cases h0 : l = []
  ·subst h0
   cases g <;> simp [rnF]
  ·obtain ⟨g, rfl⟩ : ∃ k, g = k + 1 := ⟨g - 1, by have := List.length_pos_iff.2 h0; omega⟩
   unfold rnF
   rw [if_neg h0, if_neg h0]
   cases hb : badL l with
   | true => simp
   | false =>
    simp only [Bool.false_eq_true, if_false]
    obtain ⟨t, ht, hw, _⟩ := encode_decode l h0 hb
    have hd : (l.drop (decodeL l).2).length + 1 ≤ l.length := by
     have := encode_pos ((decodeL l).1 : Int)
     have := List.length_pos_iff.2 h0
     simp
     omega
    rw [ih g _ (by omega) (by omega)]
theorem runesL_step (l : List UInt8) (h0 : l ≠ []) (hb : badL l = false) : runesL l = (runesL (l.drop (decodeL l).2)).map (((decodeL l).1 : Int) :: ·) := by
 have hl := List.length_pos_iff.2 h0
 obtain ⟨f, hf⟩ : ∃ f, l.length = f + 1 := ⟨l.length - 1, by omega⟩
 obtain ⟨t, ht, hw, _⟩ := encode_decode l h0 hb
 have hp := encode_pos ((decodeL l).1 : Int)
 rw [runesL, hf, rnF, if_neg h0, hb]
 simp only [Bool.false_eq_true, if_false]
 rw [rnF_fuel f _ (by simp; omega)]
theorem runesL_bad (l : List UInt8) (h0 : l ≠ []) (hb : badL l = true) : runesL l = none := by
 have hl := List.length_pos_iff.2 h0
 obtain ⟨f, hf⟩ : ∃ f, l.length = f + 1 := ⟨l.length - 1, by omega⟩
 rw [runesL, hf, rnF, if_neg h0, hb]
 simp
theorem runesL_nil : runesL [] = some [] := rfl

def itF : Nat → Nat → List UInt8 → List (Nat × Int)
 | 0, _, _ => []
 | f + 1, at', l => if l = [] then [] else if badL l then [(at', -1)] else (at', ((decodeL l).1 : Int)) :: itF f (at' + (decodeL l).2) (l.drop (decodeL l).2)
def placesL : Nat → List Int → List (Nat × Int)
 | _, [] => []
 | at', r :: rs => (at', r) :: placesL (at' + (encodeRune r).length) rs
theorem itF_some : ∀ (f at' : Nat) (l : List UInt8) (rs : List Int), l.length ≤ f → rnF f l = some rs → itF f at' l = placesL at' rs
 | 0, at', l, rs, hf, h => by
  simp [rnF] at h
  subst h
  rfl
 | f + 1, at', l, rs, hf, h => by
  unfold rnF at h
  unfold itF
  by_cases h0 : l = []
  ·rw [if_pos h0] at h ⊢
   simp at h
   subst h
   rfl
  ·rw [if_neg h0] at h ⊢
   cases hb : badL l with
   | true => rw [hb] at h; simp at h
   | false =>
    rw [hb] at h
    simp only [Bool.false_eq_true, if_false] at h ⊢
    obtain ⟨t, ht, hw, hv⟩ := encode_decode l h0 hb
    have hp := encode_pos ((decodeL l).1 : Int)
    cases hr : rnF f (l.drop (decodeL l).2) with
    | none => rw [hr] at h; simp at h
    | some ts =>
     rw [hr] at h
     simp at h
     subst h
     rw [itF_some f _ _ ts (by simp; omega) hr, placesL, hw]
theorem itF_none : ∀ (f at' : Nat) (l : List UInt8), l.length ≤ f → rnF f l = none → ∃ pre k, itF f at' l = pre ++ [(k, -1)] ∧ ∀ p ∈ pre, 0 ≤ p.2
 | 0, _, _, _, h => by simp [rnF] at h
 | f + 1, at', l, hf, h => by
  unfold rnF at h
  unfold itF
  by_cases h0 : l = []
  ·rw [if_pos h0] at h; simp at h
  ·rw [if_neg h0] at h ⊢
   cases hb : badL l with
   | true => exact ⟨[], at', rfl, by simp⟩
   | false =>
    rw [hb] at h
    simp only [Bool.false_eq_true, if_false] at h ⊢
    obtain ⟨t, ht, hw, hv⟩ := encode_decode l h0 hb
    have hp := encode_pos ((decodeL l).1 : Int)
    obtain ⟨pre, k, e, hpre⟩ := itF_none f (at' + (decodeL l).2) (l.drop (decodeL l).2) (by simp; omega) (by simpa using h)
    exact ⟨(at', ((decodeL l).1 : Int)) :: pre, k, by rw [e]; rfl, fun p hp => by
     rcases List.mem_cons.1 hp with rfl | hp
     ·exact Int.natCast_nonneg _
     ·exact hpre p hp⟩
def itL (at' : Nat) (l : List UInt8) : List (Nat × Int) := itF l.length at' l
theorem itF_fuel : ∀ (f g at' : Nat) (l : List UInt8), l.length ≤ f → l.length ≤ g → itF f at' l = itF g at' l
 | 0, g, at', l, hf, _ => by
  obtain rfl : l = [] := List.eq_nil_of_length_eq_zero (by omega)
  cases g <;> simp [itF]
 | f + 1, g, at', l, hf, hg => by
  by_cases h0 : l = []
  ·subst h0
   cases g <;> simp [itF]
  ·have hl := List.length_pos_iff.2 h0
   obtain ⟨g, rfl⟩ : ∃ k, g = k + 1 := ⟨g - 1, by omega⟩
   unfold itF
   rw [if_neg h0, if_neg h0]
   cases hb : badL l with
   | true => simp
   | false =>
    simp only [Bool.false_eq_true, if_false]
    obtain ⟨t, ht, hw, _⟩ := encode_decode l h0 hb
    have hp := encode_pos ((decodeL l).1 : Int)
    rw [itF_fuel f g _ _ (by simp; omega) (by simp; omega)]
theorem itL_nil (at' : Nat) : itL at' [] = [] := rfl
theorem itL_step (at' : Nat) (l : List UInt8) (h0 : l ≠ []) (hb : badL l = false) : itL at' l = (at', ((decodeL l).1 : Int)) :: itL (at' + (decodeL l).2) (l.drop (decodeL l).2) := by
 have hl := List.length_pos_iff.2 h0
 obtain ⟨f, hf⟩ : ∃ f, l.length = f + 1 := ⟨l.length - 1, by omega⟩
 obtain ⟨t, ht, hw, _⟩ := encode_decode l h0 hb
 have hp := encode_pos ((decodeL l).1 : Int)
 rw [itL, hf, itF, if_neg h0, hb]
 simp only [Bool.false_eq_true, if_false]
 rw [itL, itF_fuel f _ _ _ (by simp; omega) (Nat.le_refl _)]
theorem itL_bad (at' : Nat) (l : List UInt8) (h0 : l ≠ []) (hb : badL l = true) : itL at' l = [(at', -1)] := by
 have hl := List.length_pos_iff.2 h0
 obtain ⟨f, hf⟩ : ∃ f, l.length = f + 1 := ⟨l.length - 1, by omega⟩
 rw [itL, hf, itF, if_neg h0, hb]
 simp
theorem decodeL_bound (l : List UInt8) (h0 : l ≠ []) (hb : badL l = false) : (decodeL l).1 ≤ 1114111 ∧ 1 ≤ (decodeL l).2 ∧ (decodeL l).2 ≤ 4 ∧ (decodeL l).2 ≤ l.length := by
 obtain ⟨t, ht, hw, hv⟩ := encode_decode l h0 hb
 have hp := encode_pos ((decodeL l).1 : Int)
 have h4 := encode_le ((decodeL l).1 : Int)
 have e := congrArg List.length ht
 rw [List.length_append] at e
 simp [Lib.validRune] at hv
 omega
theorem placesL_snd : ∀ (at' : Nat) (rs : List Int), (placesL at' rs).map (·.2) = rs
 | _, [] => rfl
 | at', r :: rs => by rw [placesL, List.map_cons, placesL_snd]
theorem itF_length : ∀ (f at' : Nat) (l : List UInt8), l.length ≤ f → (itF f at' l).length ≤ l.length
 | 0, _, _, _ => by simp [itF]
 | f + 1, at', l, hf => by
  unfold itF
  by_cases h0 : l = []
  ·rw [if_pos h0]; simp
  ·rw [if_neg h0]
   have hl := List.length_pos_iff.2 h0
   cases hb : badL l with
   | true => simp; omega
   | false =>
    obtain ⟨t, ht, hw, hv⟩ := encode_decode l h0 hb
    have hp := encode_pos ((decodeL l).1 : Int)
    have := itF_length f (at' + (decodeL l).2) (l.drop (decodeL l).2) (by simp; omega)
    simp at this ⊢
    omega

theorem placesL_length (a : Nat) (rs : List Int) : (placesL a rs).length = rs.length := by
 have h2 := congrArg List.length (placesL_snd a rs)
 rwa [List.length_map] at h2
theorem runes_le {l : List UInt8} {rs : List Int} (h : runesL l = some rs) : rs.length ≤ l.length := by
 have h1 := itF_length l.length 0 l (Nat.le_refl _)
 rw [itF_some _ 0 _ rs (Nat.le_refl _) h, placesL_length] at h1
 exact h1
theorem itL_may (l : List UInt8) : (∀ p ∈ itL 0 l, p.2 ≠ -1) ↔ (runesL l).isSome = true := by
 cases h : runesL l with
 | none =>
  obtain ⟨pre, k, e, _⟩ := itF_none l.length 0 l (Nat.le_refl _) h
  constructor
  ·intro hp
   exact absurd rfl (hp (k, -1) (by unfold itL; rw [e]; simp))
  ·intro hp
   simp at hp
 | some rs =>
  constructor
  ·intro _; rfl
  ·intro _ p hp e
   unfold itL at hp
   rw [itF_some l.length 0 l rs (Nat.le_refl _) h] at hp
   have hm : p.2 ∈ rs := by
    rw [← placesL_snd 0 rs]
    exact List.mem_map_of_mem hp
   have hv := (runesL_join h).2 _ hm
   rw [e] at hv
   revert hv
   decide
end Go.Proofs.Ytmedickofiielaa

namespace Go.Proofs.Ytmedickofiielaa
open Go.Lib

end Go.Proofs.Ytmedickofiielaa

namespace Go.Proofs.Ytmedickofiielaa

structure POp where
 site : Int
 seq : Int
 num : Int
 kind : Int
 pl : Int
 text : List UInt8
 spans : List Sp
def lenT (l : List UInt8) : Int := match runesL l with | some rs => (rs.length : Int) | none => -1
theorem lenT_ge (l : List UInt8) : -1 ≤ lenT l := by
 unfold lenT
 split <;> omega
theorem lenT_le (l : List UInt8) : lenT l ≤ l.length := by
 unfold lenT
 split
 ·rename_i rs h
  have := runes_le h
  omega
 ·omega
def mayT (l : List UInt8) : Bool := decide (l.length ≤ 800) && decide (1 ≤ lenT l ∧ lenT l ≤ 200)
def oMay (o : POp) (size : Int) : Bool :=
 decide (0 ≤ size ∧ size ≤ 20000) && nMay o.site o.seq && decide (0 ≤ o.num ∧ o.num ≤ 1099511627776) &&
  (if o.kind = 1 then decide (0 ≤ o.pl ∧ o.pl ≤ size) && mayT o.text && decide (o.spans = []) && decide (size + lenT o.text ≤ 20000)
   else decide (o.kind = 2) && decide (o.pl = 0) && decide (o.text = []) && sMay o.spans && o.spans.all fun s => decide (s.1 + s.2 ≤ size))
def oAdds (o : POp) : Int := if o.kind = 1 then (if lenT o.text < 0 then 0 else lenT o.text) else 0
end Go.Proofs.Ytmedickofiielaa

namespace Go.Proofs.Ytmedickofiielaa

def mvP (p q n : Int) (stays : Bool) : Int := if q < p ∨ (p = q ∧ stays = false) then p + n else p
def OMay (o : POp) (size : Int) : Prop := (0 ≤ size ∧ size ≤ 20000) ∧ nMay o.site o.seq = true ∧ (0 ≤ o.num ∧ o.num ≤ 1099511627776) ∧
 ((o.kind = 1 ∧ 0 ≤ o.pl ∧ o.pl ≤ size ∧ mayT o.text = true ∧ o.spans = [] ∧ size + lenT o.text ≤ 20000) ∨ (o.kind = 2 ∧ o.pl = 0 ∧ o.text = [] ∧ sGood o.spans ∧ ∀ s ∈ o.spans, s.1 + s.2 ≤ size))
theorem oMay_iff (o : POp) (size : Int) : oMay o size = true ↔ OMay o size := by
 unfold oMay OMay
 by_cases k : o.kind = 1
 ·rw [if_pos k]
  simp only [Bool.and_eq_true, decide_eq_true_eq]
  constructor
  ·rintro ⟨⟨⟨h1, h2⟩, h3⟩, ⟨⟨h4, h5⟩, h6⟩, h7⟩
   exact ⟨h1, h2, h3, .inl ⟨k, h4.1, h4.2, h5, h6, h7⟩⟩
  ·rintro ⟨h1, h2, h3, ⟨_, h4, h5, h6, h7, h8⟩ | ⟨h, _⟩⟩
   ·exact ⟨⟨⟨h1, h2⟩, h3⟩, ⟨⟨⟨h4, h5⟩, h6⟩, h7⟩, h8⟩
   ·omega
 ·rw [if_neg k]
  simp only [Bool.and_eq_true, decide_eq_true_eq, List.all_eq_true, sMay_good]
  constructor
  ·rintro ⟨⟨⟨h1, h2⟩, h3⟩, ⟨⟨⟨h4, h5⟩, h6⟩, h7⟩, h8⟩
   exact ⟨h1, h2, h3, .inr ⟨h4, h5, h6, h7, h8⟩⟩
  ·rintro ⟨h1, h2, h3, ⟨h, _⟩ | ⟨h4, h5, h6, h7, h8⟩⟩
   ·exact absurd h k
   ·exact ⟨⟨⟨h1, h2⟩, h3⟩, ⟨⟨⟨h4, h5⟩, h6⟩, h7⟩, h8⟩
theorem oAdds_ge (o : POp) : 0 ≤ oAdds o := by
 unfold oAdds
 split
 ·split <;> omega
 ·omega
theorem oAdds_ins {o : POp} (k : o.kind = 1) (h : mayT o.text = true) : oAdds o = lenT o.text ∧ 1 ≤ lenT o.text ∧ lenT o.text ≤ 200 := by
 unfold mayT at h
 simp only [Bool.and_eq_true, decide_eq_true_eq] at h
 unfold oAdds
 rw [if_pos k, if_neg (by omega)]
 exact ⟨rfl, h.2⟩
theorem oAdds_no {o : POp} (k : o.kind ≠ 1) : oAdds o = 0 := by
 unfold oAdds
 rw [if_neg k]
theorem OMay.room {o : POp} {size : Int} (h : OMay o size) : size + oAdds o ≤ 20000 ∧ oAdds o ≤ 200 := by
 obtain ⟨h1, _, _, ⟨k, _, _, h4, _, h6⟩ | ⟨k, _⟩⟩ := h
 ·have := oAdds_ins k h4; omega
 ·have := oAdds_no (o := o) (by omega); omega

end Go.Proofs.Ytmedickofiielaa

namespace Go.Proofs.Ytmedickofiielaa

def kMay (s a t size : Int) : Bool := decide (0 ≤ size) && decide (size ≤ 20000) && decide (1 ≤ s) && decide (s ≤ 16) && decide (0 ≤ a) && decide (a ≤ size) && decide (0 ≤ t) && decide (t ≤ size)
theorem kMay_iff (s a t size : Int) : kMay s a t size = true ↔ 0 ≤ size ∧ size ≤ 20000 ∧ 1 ≤ s ∧ s ≤ 16 ∧ 0 ≤ a ∧ a ≤ size ∧ 0 ≤ t ∧ t ≤ size := by
 unfold kMay
 simp only [Bool.and_eq_true, decide_eq_true_eq]
 omega
def kPoint (p : Int) (o : POp) (own : Bool) : Int := if o.kind = 1 then mvP p o.pl (oAdds o) (!own) else p
def kMove (s a t : Int) (o : POp) (size : Int) : Int × Int × Int × Int :=
 if kMay s a t size && oMay o size then (s, kPoint a o (o.site == s), kPoint t o (o.site == s), 0) else (0, 0, 0, 1)
def kEnd (o : POp) : Int := if o.kind = 1 then o.pl + oAdds o else (o.spans.getD 0 (0, 0)).1
def kLess (xs : List Sp) (p : Int) : Int := p - cntTo (sMark xs) (min 20000 p.toNat)
def kDrop (s a t : Int) (xs : List Sp) : Int × Int × Int × Int := if kMay s a t 20000 && sMay xs then (s, kLess xs a, kLess xs t, 0) else (0, 0, 0, 1)
def mkA (s a t : Int) : Value := .agg #[.int .i64 s, .int .i64 a, .int .i64 t]
def mkV (x : Int × Int × Int × Int) : Value := .tuple #[.agg #[.int .i64 x.1, .int .i64 x.2.1, .int .i64 x.2.2.1], .int .i64 x.2.2.2]
end Go.Proofs.Ytmedickofiielaa

namespace Go.Proofs.Ytmedickofiielaa

structure PCell where
 site : Int
 seq : Int
 off : Int
 r : Int
 gone : Bool
 deriving DecidableEq
def newC (o : POp) : List PCell := ((runesL o.text).getD []).mapIdx fun i r => ⟨o.site, o.seq, i, r, false⟩
def goneC (l : List PCell) (f : Nat → Bool) : List PCell := l.mapIdx fun i c => { c with gone := c.gone || f i }
def runC (l : List PCell) (o : POp) : List PCell := if o.kind = 1 then l.take o.pl.toNat ++ newC o ++ l.drop o.pl.toNat else goneC l (sMark o.spans)
def blankC (n : Nat) : List PCell := (List.range n).map fun (i : Nat) => ⟨99, 1, (i : Int), 46, false⟩

theorem newC_length {o : POp} (h : mayT o.text = true) : ((newC o).length : Int) = lenT o.text := by
 unfold mayT at h
 simp only [Bool.and_eq_true, decide_eq_true_eq] at h
 have h := h.2
 unfold newC
 unfold lenT at h ⊢
 cases hr : runesL o.text with
 | none => rw [hr] at h; dsimp only at h; omega
 | some rs => simp
theorem goneC_length (l : List PCell) (f : Nat → Bool) : (goneC l f).length = l.length := by simp [goneC]
theorem goneC_at (l : List PCell) (f : Nat → Bool) (i : Nat) : (goneC l f)[i]? = (l[i]?).map fun c => { c with gone := c.gone || f i } := by
 unfold goneC
 rw [List.getElem?_mapIdx]
theorem insC_at (l m : List PCell) (p i : Nat) (hp : p ≤ l.length) : (l.take p ++ m ++ l.drop p)[i]? = if i < p then l[i]? else if i < p + m.length then m[i - p]? else l[i - m.length]? := by
 by_cases h1 : i < p
 ·rw [if_pos h1, List.append_assoc, List.getElem?_append_left (by rw [List.length_take]; omega), List.getElem?_take_of_lt h1]
 ·rw [if_neg h1]
  have ht : (l.take p).length = p := by rw [List.length_take]; omega
  by_cases h2 : i < p + m.length
  ·rw [if_pos h2, List.getElem?_append_left (by rw [List.length_append, ht]; omega), List.getElem?_append_right (by omega), ht]
  ·rw [if_neg h2, List.getElem?_append_right (by rw [List.length_append, ht]; omega), List.getElem?_drop, List.length_append, ht]
   congr 1
   omega
theorem insC_length (l m : List PCell) (p : Nat) (hp : p ≤ l.length) : (l.take p ++ m ++ l.drop p).length = l.length + m.length := by
 simp only [List.length_append, List.length_take, List.length_drop]
 omega
theorem runC_length {l : List PCell} {o : POp} (h : OMay o l.length) : ((runC l o).length : Int) = l.length + oAdds o := by
 unfold runC
 obtain ⟨_, _, _, ⟨k, p0, p1, ht, _⟩ | ⟨k, _⟩⟩ := h
 ·rw [if_pos k, insC_length _ _ _ (by omega), (oAdds_ins k ht).1, ← newC_length ht]
  omega
 ·rw [if_neg (by omega), goneC_length, oAdds_no (by omega)]
  omega
end Go.Proofs.Ytmedickofiielaa

namespace Go.Proofs.Ytmedickofiielaa

def cSeen (l : List PCell) (p : Nat) : Nat := (l.take p).countP fun c => !c.gone
theorem cSeen_zero (l : List PCell) : cSeen l 0 = 0 := by simp [cSeen]
theorem cSeen_live {l : List PCell} {k : Nat} {c : PCell} (h : l[k]? = some c) (hg : c.gone = false) : cSeen l (k + 1) = cSeen l k + 1 := by
 unfold cSeen
 rw [List.take_add_one, h, List.countP_append]
 simp [hg]
theorem cSeen_gone {l : List PCell} {k : Nat} {c : PCell} (h : l[k]? = some c) (hg : c.gone = true) : cSeen l (k + 1) = cSeen l k := by
 unfold cSeen
 rw [List.take_add_one, h, List.countP_append]
 simp [hg]
def cLive (l : List PCell) : Nat := cSeen l l.length
def textR (l : List PCell) : List Int := (l.filter fun c => !c.gone).map fun c => c.r
end Go.Proofs.Ytmedickofiielaa
