/- Texts of this proof, joined. -/
import Derived.Test.YthekkjfaaedamaaGreatDoorRows
import Derived.Lib.DecodeN
import Derived.Lib.SpaceU
import Derived.Lib.RuneBytes
import Derived.Lib.Small
import Derived.Test.YthekkjfaaedamaaGreatDoorGSpansPlain
namespace Go.Proofs.YthekkjfaaedamaaGreatDoor
open Go.Lib

def badL (l : List UInt8) : Bool := decide ((decodeL l).1 = 65533 ∧ (decodeL l).2 = 1)

theorem get!_list (l : List UInt8) (i : Nat) : (⟨l.toArray⟩ : ByteArray).get! i = l.getD i 0 := by
 show l.toArray.getD i default = _
 simp [Array.getD, List.getD]
 split <;> rename_i h
 ·simp [h]
 ·simp [List.getElem?_eq_none (by omega : l.length ≤ i)]; rfl

theorem decodeL_eq (l : List UInt8) : decodeL l = decodeN l.length (l.getD 0 0).toNat (l.getD 1 0).toNat (l.getD 2 0).toNat (l.getD 3 0).toNat := by
 unfold decodeL
 rw [decode_at]
 simp only [get!_list]
 rfl

theorem u8eq {b : UInt8} {x : Int} (h : (b.toNat : Int) = x) : b = x.toNat.toUInt8 := by
 apply UInt8.toNat_inj.1
 have := b.toNat_lt
 simp [UInt8.toNat_ofNat']
 omega

set_option maxHeartbeats 4000000 in
theorem encode_decode (l : List UInt8) (hl : l ≠ []) (hb : badL l = false) :
  ∃ t, l = encodeRune ((decodeL l).1 : Int) ++ t ∧ (decodeL l).2 = (encodeRune ((decodeL l).1 : Int)).length ∧ Lib.validRune ((decodeL l).1 : Int) = true := by
 have hb' : ¬ ((decodeL l).1 = 65533 ∧ (decodeL l).2 = 1) := by simpa [badL] using hb
 rw [decodeL_eq] at hb' ⊢
 unfold decodeN at hb' ⊢
 obtain _ | ⟨b0, l⟩ := l
 ·exact absurd rfl hl
 have g0 := b0.toNat_lt
 simp only [List.getD_cons_zero, List.getD_cons_succ] at hb' ⊢
 split
 ·rename_i h0
  refine ⟨l, ?_⟩
  simp only [encodeRune]
  rw [encodeRuneZ_one (by omega) (by omega)]
  refine ⟨?_, rfl, ?_⟩
  ·simp only [List.map_cons, List.map_nil, List.cons_append, List.nil_append]
   rw [← u8eq (x := (b0.toNat : Int)) rfl]
  ·simp only [Lib.validRune]; exact decide_eq_true (by omega)
 ·rename_i h0
  rw [if_neg h0] at hb'
  split
  ·rename_i h1
   rw [if_pos h1] at hb'
   obtain _ | ⟨b1, l⟩ := l
   ·simp at h1
   have g1 := b1.toNat_lt
   simp only [List.getD_cons_zero] at h1 hb' ⊢
   split
   ·rename_i h2
    refine ⟨l, ?_⟩
    simp only [encodeRune]
    rw [encodeRuneZ_two (by omega) (by omega)]
    refine ⟨?_, rfl, ?_⟩
    ·simp only [List.map_cons, List.map_nil, List.cons_append, List.nil_append]
     rw [← u8eq (b := b0) (by omega), ← u8eq (b := b1) (by omega)]
    ·simp only [Lib.validRune]; exact decide_eq_true (by omega)
   ·rename_i h2
    rw [if_neg h2] at hb'
    exact absurd ⟨rfl, rfl⟩ hb'
  ·rename_i h1
   rw [if_neg h1] at hb'
   split
   ·rename_i h2
    rw [if_pos h2] at hb'
    obtain _ | ⟨b1, l⟩ := l
    ·simp at h2
    obtain _ | ⟨b2, l⟩ := l
    ·simp at h2
    have g1 := b1.toNat_lt
    have g2 := b2.toNat_lt
    simp only [List.getD_cons_zero, List.getD_cons_succ] at h1 h2 hb' ⊢
    split
    ·rename_i h3
     refine ⟨l, ?_⟩
     simp only [encodeRune]
     rw [encodeRuneZ_three (by omega)]
     refine ⟨?_, rfl, ?_⟩
     ·simp only [List.map_cons, List.map_nil, List.cons_append, List.nil_append]
      rw [← u8eq (b := b0) (by omega), ← u8eq (b := b1) (by omega), ← u8eq (b := b2) (by omega)]
     ·simp only [Lib.validRune]; exact decide_eq_true (by omega)
    ·rename_i h3
     rw [if_neg h3] at hb'
     exact absurd ⟨rfl, rfl⟩ hb'
   ·rename_i h2
    rw [if_neg h2] at hb'
    split
    ·rename_i h3
     rw [if_pos h3] at hb'
     obtain _ | ⟨b1, l⟩ := l
     ·simp at h3
     obtain _ | ⟨b2, l⟩ := l
     ·simp at h3
     obtain _ | ⟨b3, l⟩ := l
     ·simp at h3
     have g1 := b1.toNat_lt
     have g2 := b2.toNat_lt
     have g3 := b3.toNat_lt
     simp only [List.getD_cons_zero, List.getD_cons_succ] at h1 h2 h3 hb' ⊢
     split
     ·rename_i h4
      refine ⟨l, ?_⟩
      simp only [encodeRune]
      rw [encodeRuneZ_four (by omega) (by omega)]
      refine ⟨?_, rfl, ?_⟩
      ·simp only [List.map_cons, List.map_nil, List.cons_append, List.nil_append]
       rw [← u8eq (b := b0) (by omega), ← u8eq (b := b1) (by omega), ← u8eq (b := b2) (by omega), ← u8eq (b := b3) (by omega)]
      ·simp only [Lib.validRune]; exact decide_eq_true (by omega)
     ·rename_i h4
      rw [if_neg h4] at hb'
      exact absurd ⟨rfl, rfl⟩ hb'
    ·rename_i h3
     rw [if_neg h3] at hb'
     exact absurd ⟨rfl, rfl⟩ hb'

theorem byteOf_nat {x : Int} (_h0 : 0 ≤ x) (h1 : x < 256) : x.toNat.toUInt8.toNat = x.toNat := by
 simp [UInt8.toNat_ofNat']; omega

set_option maxHeartbeats 4000000 in
theorem decode_encode (r : Int) (h : Lib.validRune r = true) (t : List UInt8) :
  decodeL (encodeRune r ++ t) = (r.toNat, (encodeRune r).length) ∧ badL (encodeRune r ++ t) = false ∧ 1 ≤ (encodeRune r).length := by
 have hv : (0 ≤ r ∧ r < 0xD800) ∨ (0xDFFF < r ∧ r ≤ 0x10FFFF) := by simpa [Lib.validRune] using h
 have key : decodeL (encodeRune r ++ t) = (r.toNat, (encodeRune r).length) := by
  rw [decodeL_eq]
  simp only [encodeRune]
  by_cases c1 : r ≤ 127
  ·rw [encodeRuneZ_one (by omega) c1]
   simp only [List.map_cons, List.map_nil, List.cons_append, List.nil_append, List.getD_cons_zero, List.length_cons, List.length_nil]
   rw [byteOf_nat (by omega) (by omega)]
   unfold decodeN
   rw [if_pos (by omega)]
  ·by_cases c2 : r ≤ 2047
   ·rw [encodeRuneZ_two (by omega) c2]
    simp only [List.map_cons, List.map_nil, List.cons_append, List.nil_append, List.getD_cons_zero, List.getD_cons_succ, List.length_cons, List.length_nil]
    rw [byteOf_nat (by omega) (by omega), byteOf_nat (by omega) (by omega)]
    unfold decodeN
    rw [if_neg (by omega), if_pos (by omega), if_pos (by omega)]
    exact Prod.ext (by simp only; omega) rfl
   ·by_cases c3 : r ≤ 65535
    ·rw [encodeRuneZ_three (by omega)]
     simp only [List.map_cons, List.map_nil, List.cons_append, List.nil_append, List.getD_cons_zero, List.getD_cons_succ, List.length_cons, List.length_nil]
     rw [byteOf_nat (by omega) (by omega), byteOf_nat (by omega) (by omega), byteOf_nat (by omega) (by omega)]
     unfold decodeN
     rw [if_neg (by omega), if_neg (by omega), if_pos (by omega), if_pos (by omega)]
     exact Prod.ext (by simp only; omega) rfl
    ·rw [encodeRuneZ_four (by omega) (by omega)]
     simp only [List.map_cons, List.map_nil, List.cons_append, List.nil_append, List.getD_cons_zero, List.getD_cons_succ, List.length_cons, List.length_nil]
     rw [byteOf_nat (by omega) (by omega), byteOf_nat (by omega) (by omega), byteOf_nat (by omega) (by omega), byteOf_nat (by omega) (by omega)]
     unfold decodeN
     rw [if_neg (by omega), if_neg (by omega), if_neg (by omega), if_pos (by omega), if_pos (by omega)]
     exact Prod.ext (by simp only; omega) rfl
 have hlen : 1 ≤ (encodeRune r).length := by simpa [encodeRune] using (encodeRuneZ_length r).1
 refine ⟨key, ?_, hlen⟩
 unfold badL
 rw [key]
 refine decide_eq_false ?_
 rintro ⟨h1, h2⟩
 simp only at h1 h2
 have : r = 65533 := by omega
 subst this
 simp [encodeRune, encodeRuneZ] at h2

def rnF : Nat → List UInt8 → Option (List Int)
 | 0, _ => some []
 | f + 1, l => if l = [] then some [] else if badL l then none else (rnF f (l.drop (decodeL l).2)).map (((decodeL l).1 : Int) :: ·)
def runesL (l : List UInt8) : Option (List Int) := rnF l.length l
def joinL (l : List Int) : List UInt8 := l.flatMap encodeRune
theorem joinL_nil : joinL [] = [] := rfl
theorem joinL_cons (r : Int) (l : List Int) : joinL (r :: l) = encodeRune r ++ joinL l := rfl
theorem joinL_append (a b : List Int) : joinL (a ++ b) = joinL a ++ joinL b := by simp [joinL]

theorem encode_pos (r : Int) : 1 ≤ (encodeRune r).length := by simpa [encodeRune] using (encodeRuneZ_length r).1
theorem encode_le (r : Int) : (encodeRune r).length ≤ 4 := by simpa [encodeRune] using (encodeRuneZ_length r).2
theorem rnF_join : ∀ (f : Nat) (l : List UInt8) (rs : List Int), l.length ≤ f → rnF f l = some rs → l = joinL rs ∧ ∀ r ∈ rs, Lib.validRune r = true
 | 0, l, rs, hf, h => by
  obtain rfl : l = [] := List.eq_nil_of_length_eq_zero (by omega)
  simp [rnF] at h
  subst h
  exact ⟨rfl, by simp⟩
 | f + 1, l, rs, hf, h => by
  unfold rnF at h
  by_cases h0 : l = []
  ·rw [if_pos h0] at h
   simp at h
   subst h
   exact ⟨by rw [h0]; rfl, by simp⟩
  ·rw [if_neg h0] at h
   cases hb : badL l with
   | true => rw [hb] at h; simp at h
   | false =>
    rw [hb] at h
    simp only [Bool.false_eq_true, if_false] at h
    obtain ⟨t, ht, hw, hv⟩ := encode_decode l h0 hb
    have hd : l.drop (decodeL l).2 = t := by
     rw [hw]
     generalize (decodeL l).1 = c at ht ⊢
     rw [ht, List.drop_left]
    rw [hd] at h
    cases hr : rnF f t with
    | none => rw [hr] at h; simp at h
    | some ts =>
     rw [hr] at h
     simp at h
     subst h
     have hlen : t.length ≤ f := by
      have e := congrArg List.length ht
      have := encode_pos ((decodeL l).1 : Int)
      simp at e
      omega
     obtain ⟨e, hvs⟩ := rnF_join f t ts hlen hr
     refine ⟨?_, ?_⟩
     ·rw [joinL_cons, ← e]; exact ht
     ·intro r hr
      rcases List.mem_cons.1 hr with rfl | hr
      ·exact hv
      ·exact hvs r hr
theorem runesL_join {l : List UInt8} {rs : List Int} (h : runesL l = some rs) : l = joinL rs ∧ ∀ r ∈ rs, Lib.validRune r = true := rnF_join _ _ _ (Nat.le_refl _) h

theorem rnF_fuel (f : Nat) (l : List UInt8) (hf : l.length ≤ f) : rnF f l = runesL l := by
 suffices H : ∀ f g l, l.length ≤ f → l.length ≤ g → rnF f l = rnF g l from H f l.length l hf (Nat.le_refl _)
 intro f
 induction f with
 | zero =>
  intro g l hf hg
  obtain rfl : l = [] := List.eq_nil_of_length_eq_zero (by omega)
  cases g <;> simp [rnF]
 | succ f ih =>
  intro g l hf hg
  by_cases h0 : l = []
  ·subst h0
   cases g <;> simp [rnF]
  ·obtain ⟨g, rfl⟩ : ∃ k, g = k + 1 := ⟨g - 1, by have := List.length_pos_iff.2 h0; omega⟩
   unfold rnF
   rw [if_neg h0, if_neg h0]
   cases hb : badL l with
   | true => simp
   | false =>
    simp only [Bool.false_eq_true, if_false]
    obtain ⟨t, ht, hw, _⟩ := encode_decode l h0 hb
    have hd : (l.drop (decodeL l).2).length + 1 ≤ l.length := by
     have := encode_pos ((decodeL l).1 : Int)
     have := List.length_pos_iff.2 h0
     simp
     omega
    rw [ih g _ (by omega) (by omega)]
theorem runesL_step (l : List UInt8) (h0 : l ≠ []) (hb : badL l = false) : runesL l = (runesL (l.drop (decodeL l).2)).map (((decodeL l).1 : Int) :: ·) := by
 have hl := List.length_pos_iff.2 h0
 obtain ⟨f, hf⟩ : ∃ f, l.length = f + 1 := ⟨l.length - 1, by omega⟩
 obtain ⟨t, ht, hw, _⟩ := encode_decode l h0 hb
 have hp := encode_pos ((decodeL l).1 : Int)
 rw [runesL, hf, rnF, if_neg h0, hb]
 simp only [Bool.false_eq_true, if_false]
 rw [rnF_fuel f _ (by simp; omega)]
theorem runesL_bad (l : List UInt8) (h0 : l ≠ []) (hb : badL l = true) : runesL l = none := by
 have hl := List.length_pos_iff.2 h0
 obtain ⟨f, hf⟩ : ∃ f, l.length = f + 1 := ⟨l.length - 1, by omega⟩
 rw [runesL, hf, rnF, if_neg h0, hb]
 simp
theorem runesL_nil : runesL [] = some [] := rfl

def itF : Nat → Nat → List UInt8 → List (Nat × Int)
 | 0, _, _ => []
 | f + 1, at', l => if l = [] then [] else if badL l then [(at', -1)] else (at', ((decodeL l).1 : Int)) :: itF f (at' + (decodeL l).2) (l.drop (decodeL l).2)
def placesL : Nat → List Int → List (Nat × Int)
 | _, [] => []
 | at', r :: rs => (at', r) :: placesL (at' + (encodeRune r).length) rs
theorem itF_some : ∀ (f at' : Nat) (l : List UInt8) (rs : List Int), l.length ≤ f → rnF f l = some rs → itF f at' l = placesL at' rs
 | 0, at', l, rs, hf, h => by
  simp [rnF] at h
  subst h
  rfl
 | f + 1, at', l, rs, hf, h => by
  unfold rnF at h
  unfold itF
  by_cases h0 : l = []
  ·rw [if_pos h0] at h ⊢
   simp at h
   subst h
   rfl
  ·rw [if_neg h0] at h ⊢
   cases hb : badL l with
   | true => rw [hb] at h; simp at h
   | false =>
    rw [hb] at h
    simp only [Bool.false_eq_true, if_false] at h ⊢
    obtain ⟨t, ht, hw, hv⟩ := encode_decode l h0 hb
    have hp := encode_pos ((decodeL l).1 : Int)
    cases hr : rnF f (l.drop (decodeL l).2) with
    | none => rw [hr] at h; simp at h
    | some ts =>
     rw [hr] at h
     simp at h
     subst h
     rw [itF_some f _ _ ts (by simp; omega) hr, placesL, hw]
theorem itF_none : ∀ (f at' : Nat) (l : List UInt8), l.length ≤ f → rnF f l = none → ∃ pre k, itF f at' l = pre ++ [(k, -1)] ∧ ∀ p ∈ pre, 0 ≤ p.2
 | 0, _, _, _, h => by simp [rnF] at h
 | f + 1, at', l, hf, h => by
  unfold rnF at h
  unfold itF
  by_cases h0 : l = []
  ·rw [if_pos h0] at h; simp at h
  ·rw [if_neg h0] at h ⊢
   cases hb : badL l with
   | true => exact ⟨[], at', rfl, by simp⟩
   | false =>
    rw [hb] at h
    simp only [Bool.false_eq_true, if_false] at h ⊢
    obtain ⟨t, ht, hw, hv⟩ := encode_decode l h0 hb
    have hp := encode_pos ((decodeL l).1 : Int)
    obtain ⟨pre, k, e, hpre⟩ := itF_none f (at' + (decodeL l).2) (l.drop (decodeL l).2) (by simp; omega) (by simpa using h)
    exact ⟨(at', ((decodeL l).1 : Int)) :: pre, k, by rw [e]; rfl, fun p hp => by
     rcases List.mem_cons.1 hp with rfl | hp
     ·exact Int.natCast_nonneg _
     ·exact hpre p hp⟩
def itL (at' : Nat) (l : List UInt8) : List (Nat × Int) := itF l.length at' l
theorem itF_fuel : ∀ (f g at' : Nat) (l : List UInt8), l.length ≤ f → l.length ≤ g → itF f at' l = itF g at' l
 | 0, g, at', l, hf, _ => by
  obtain rfl : l = [] := List.eq_nil_of_length_eq_zero (by omega)
  cases g <;> simp [itF]
 | f + 1, g, at', l, hf, hg => by
  by_cases h0 : l = []
  ·subst h0
   cases g <;> simp [itF]
  ·have hl := List.length_pos_iff.2 h0
   obtain ⟨g, rfl⟩ : ∃ k, g = k + 1 := ⟨g - 1, by omega⟩
   unfold itF
   rw [if_neg h0, if_neg h0]
   cases hb : badL l with
   | true => simp
   | false =>
    simp only [Bool.false_eq_true, if_false]
    obtain ⟨t, ht, hw, _⟩ := encode_decode l h0 hb
    have hp := encode_pos ((decodeL l).1 : Int)
    rw [itF_fuel f g _ _ (by simp; omega) (by simp; omega)]
theorem itL_nil (at' : Nat) : itL at' [] = [] := rfl
theorem itL_step (at' : Nat) (l : List UInt8) (h0 : l ≠ []) (hb : badL l = false) : itL at' l = (at', ((decodeL l).1 : Int)) :: itL (at' + (decodeL l).2) (l.drop (decodeL l).2) := by
 have hl := List.length_pos_iff.2 h0
 obtain ⟨f, hf⟩ : ∃ f, l.length = f + 1 := ⟨l.length - 1, by omega⟩
 obtain ⟨t, ht, hw, _⟩ := encode_decode l h0 hb
 have hp := encode_pos ((decodeL l).1 : Int)
 rw [itL, hf, itF, if_neg h0, hb]
 simp only [Bool.false_eq_true, if_false]
 rw [itL, itF_fuel f _ _ _ (by simp; omega) (Nat.le_refl _)]
theorem itL_bad (at' : Nat) (l : List UInt8) (h0 : l ≠ []) (hb : badL l = true) : itL at' l = [(at', -1)] := by
 have hl := List.length_pos_iff.2 h0
 obtain ⟨f, hf⟩ : ∃ f, l.length = f + 1 := ⟨l.length - 1, by omega⟩
 rw [itL, hf, itF, if_neg h0, hb]
 simp
theorem decodeL_bound (l : List UInt8) (h0 : l ≠ []) (hb : badL l = false) : (decodeL l).1 ≤ 1114111 ∧ 1 ≤ (decodeL l).2 ∧ (decodeL l).2 ≤ 4 ∧ (decodeL l).2 ≤ l.length := by
 obtain ⟨t, ht, hw, hv⟩ := encode_decode l h0 hb
 have hp := encode_pos ((decodeL l).1 : Int)
 have h4 := encode_le ((decodeL l).1 : Int)
 have e := congrArg List.length ht
 rw [List.length_append] at e
 simp [Lib.validRune] at hv
 omega
theorem placesL_snd : ∀ (at' : Nat) (rs : List Int), (placesL at' rs).map (·.2) = rs
 | _, [] => rfl
 | at', r :: rs => by rw [placesL, List.map_cons, placesL_snd]
theorem itF_length : ∀ (f at' : Nat) (l : List UInt8), l.length ≤ f → (itF f at' l).length ≤ l.length
 | 0, _, _, _ => by simp [itF]
 | f + 1, at', l, hf => by
  unfold itF
  by_cases h0 : l = []
  ·rw [if_pos h0]; simp
  ·rw [if_neg h0]
   have hl := List.length_pos_iff.2 h0
   cases hb : badL l with
   | true => simp; omega
   | false =>
    obtain ⟨t, ht, hw, hv⟩ := encode_decode l h0 hb
    have hp := encode_pos ((decodeL l).1 : Int)
    have := itF_length f (at' + (decodeL l).2) (l.drop (decodeL l).2) (by simp; omega)
    simp at this ⊢
    omega

theorem placesL_length (a : Nat) (rs : List Int) : (placesL a rs).length = rs.length := by
 have h2 := congrArg List.length (placesL_snd a rs)
 rwa [List.length_map] at h2
theorem runes_le {l : List UInt8} {rs : List Int} (h : runesL l = some rs) : rs.length ≤ l.length := by
 have h1 := itF_length l.length 0 l (Nat.le_refl _)
 rw [itF_some _ 0 _ rs (Nat.le_refl _) h, placesL_length] at h1
 exact h1
theorem itL_may (l : List UInt8) : (∀ p ∈ itL 0 l, p.2 ≠ -1) ↔ (runesL l).isSome = true := by
 cases h : runesL l with
 | none =>
  obtain ⟨pre, k, e, _⟩ := itF_none l.length 0 l (Nat.le_refl _) h
  constructor
  ·intro hp
   exact absurd rfl (hp (k, -1) (by unfold itL; rw [e]; simp))
  ·intro hp
   simp at hp
 | some rs =>
  constructor
  ·intro _; rfl
  ·intro _ p hp e
   unfold itL at hp
   rw [itF_some l.length 0 l rs (Nat.le_refl _) h] at hp
   have hm : p.2 ∈ rs := by
    rw [← placesL_snd 0 rs]
    exact List.mem_map_of_mem hp
   have hv := (runesL_join h).2 _ hm
   rw [e] at hv
   revert hv
   decide
end Go.Proofs.YthekkjfaaedamaaGreatDoor

namespace Go.Proofs.YthekkjfaaedamaaGreatDoor
open Go.Lib

def hdN (b : Nat) : Nat := if b < 128 then 1 else if b < 192 then 0 else if b < 224 then 2 else if b < 240 then 3 else if b < 248 then 4 else 0
def hdX (b : Nat) : Nat := if b < 128 then b else if b < 192 then 0 else if b < 224 then b - 192 else if b < 240 then b - 224 else b - 240
def byteL (l : List UInt8) (k : Nat) : Nat := (l.getD k 0).toNat
def accL (l : List UInt8) : Nat → Int
  | 0 => hdX (byteL l 0)
  | k + 1 => 64 * accL l k + byteL l (k + 1) - 128
def contL (l : List UInt8) (k : Nat) : Prop := 128 ≤ byteL l k ∧ byteL l k ≤ 191

theorem byteL_enc (x : Int) (l : List UInt8) (h0 : 0 ≤ x) (h1 : x < 256) (k : Nat) (hk : l.getD k 0 = x.toNat.toUInt8) : (byteL l k : Int) = x := by
  unfold byteL
  rw [hk, byteOf_nat h0 h1]
  omega

set_option maxHeartbeats 2000000 in
theorem good_first (l : List UInt8) (h0 : l ≠ []) (hb : badL l = false) :
    hdN (byteL l 0) = (decodeL l).2 ∧ 1 ≤ (decodeL l).2 ∧ (decodeL l).2 ≤ l.length ∧ (∀ k, 1 ≤ k → k < (decodeL l).2 → contL l k) ∧ accL l ((decodeL l).2 - 1) = (decodeL l).1 ∧
      encodeRune ((decodeL l).1 : Int) = l.take (decodeL l).2 ∧ Lib.validRune ((decodeL l).1 : Int) = true := by
  obtain ⟨t, ht, hw, hv⟩ := encode_decode l h0 hb
  have hle : (decodeL l).2 ≤ l.length := by
    have e := congrArg List.length ht
    rw [List.length_append] at e
    omega
  have htake : encodeRune ((decodeL l).1 : Int) = l.take (decodeL l).2 := by
    rw [hw]
    generalize (decodeL l).1 = c at ht ⊢
    rw [ht, List.take_left]
  have hp := encode_pos ((decodeL l).1 : Int)
  rw [← hw] at hp
  generalize (decodeL l).1 = R at *
  generalize (decodeL l).2 = K at *
  have hv' : ((0 : Int) ≤ R ∧ (R : Int) < 0xD800) ∨ (0xDFFF < (R : Int) ∧ (R : Int) ≤ 0x10FFFF) := by simpa [Lib.validRune] using hv
  refine ⟨?_, hp, hle, ?_, ?_, htake, hv⟩
  all_goals
    clear htake hle hb h0
    unfold encodeRune at ht hw
    by_cases c1 : (R : Int) ≤ 127
    · rw [encodeRuneZ_one (by omega) c1] at ht hw
      have b0 := byteL_enc R l (by omega) (by omega) 0 (by rw [ht]; rfl)
      obtain rfl : K = 1 := hw
      first
        | (unfold hdN; rw [if_pos (by omega)])
        | (intro k h1 h2; omega)
        | (show accL l 0 = _; unfold accL hdX; rw [if_pos (by omega)]; exact b0)
    · by_cases c2 : (R : Int) ≤ 2047
      · rw [encodeRuneZ_two (by omega) c2] at ht hw
        have b0 := byteL_enc (192 + R / 64) l (by omega) (by omega) 0 (by rw [ht]; rfl)
        have b1 := byteL_enc (128 + R % 64) l (by omega) (by omega) 1 (by rw [ht]; rfl)
        obtain rfl : K = 2 := hw
        first
          | (unfold hdN; rw [if_neg (by omega), if_neg (by omega), if_pos (by omega)])
          | (intro k h1 h2; obtain rfl : k = 1 := by omega
             unfold contL; omega)
          | (show accL l 1 = _
             have e0 : accL l 0 = hdX (byteL l 0) := rfl
             have e1 : accL l 1 = 64 * accL l 0 + byteL l 1 - 128 := rfl
             unfold hdX at e0
             rw [if_neg (by omega), if_neg (by omega), if_pos (by omega)] at e0
             omega)
      · by_cases c3 : (R : Int) ≤ 65535
        · rw [encodeRuneZ_three (by omega)] at ht hw
          have b0 := byteL_enc (224 + R / 4096) l (by omega) (by omega) 0 (by rw [ht]; rfl)
          have b1 := byteL_enc (128 + R / 64 % 64) l (by omega) (by omega) 1 (by rw [ht]; rfl)
          have b2 := byteL_enc (128 + R % 64) l (by omega) (by omega) 2 (by rw [ht]; rfl)
          obtain rfl : K = 3 := hw
          first
            | (unfold hdN; rw [if_neg (by omega), if_neg (by omega), if_neg (by omega), if_pos (by omega)])
            | (intro k h1 h2; unfold contL
               rcases (by omega : k = 1 ∨ k = 2) with rfl | rfl <;> omega)
            | (show accL l 2 = _
               have e0 : accL l 0 = hdX (byteL l 0) := rfl
               have e1 : accL l 1 = 64 * accL l 0 + byteL l 1 - 128 := rfl
               have e2 : accL l 2 = 64 * accL l 1 + byteL l 2 - 128 := rfl
               unfold hdX at e0
               rw [if_neg (by omega), if_neg (by omega), if_neg (by omega), if_pos (by omega)] at e0
               omega)
        · rw [encodeRuneZ_four (by omega) (by omega)] at ht hw
          have b0 := byteL_enc (240 + R / 262144) l (by omega) (by omega) 0 (by rw [ht]; rfl)
          have b1 := byteL_enc (128 + R / 4096 % 64) l (by omega) (by omega) 1 (by rw [ht]; rfl)
          have b2 := byteL_enc (128 + R / 64 % 64) l (by omega) (by omega) 2 (by rw [ht]; rfl)
          have b3 := byteL_enc (128 + R % 64) l (by omega) (by omega) 3 (by rw [ht]; rfl)
          obtain rfl : K = 4 := hw
          first
            | (unfold hdN; rw [if_neg (by omega), if_neg (by omega), if_neg (by omega), if_neg (by omega), if_pos (by omega)])
            | (intro k h1 h2; unfold contL
               rcases (by omega : k = 1 ∨ k = 2 ∨ k = 3) with rfl | rfl | rfl <;> omega)
            | (show accL l 3 = _
               have e0 : accL l 0 = hdX (byteL l 0) := rfl
               have e1 : accL l 1 = 64 * accL l 0 + byteL l 1 - 128 := rfl
               have e2 : accL l 2 = 64 * accL l 1 + byteL l 2 - 128 := rfl
               have e3 : accL l 3 = 64 * accL l 2 + byteL l 3 - 128 := rfl
               unfold hdX at e0
               rw [if_neg (by omega), if_neg (by omega), if_neg (by omega), if_neg (by omega)] at e0
               omega)

theorem bad_first (l : List UInt8) (h0 : l ≠ []) (h : hdN (byteL l 0) = 0 ∨ l.length < hdN (byteL l 0) ∨ ∃ k, 1 ≤ k ∧ k < hdN (byteL l 0) ∧ ¬ contL l k) : badL l = true := by
  cases hb : badL l with
  | true => rfl
  | false =>
    exfalso
    obtain ⟨g1, g2, g3, g4, _⟩ := good_first l h0 hb
    rw [g1] at h
    rcases h with h | h | ⟨k, k1, k2, k3⟩
    · omega
    · omega
    · exact k3 (g4 k k1 k2)
theorem end_bad (l : List UInt8) (h0 : l ≠ []) (n : Nat) (hn : hdN (byteL l 0) = n) (h : ¬ (Lib.validRune (accL l (n - 1)) = true ∧ encodeRune (accL l (n - 1)) = l.take n)) : badL l = true := by
  cases hb : badL l with
  | true => rfl
  | false =>
    exfalso
    obtain ⟨g1, _, _, _, g5, g6, g7⟩ := good_first l h0 hb
    obtain rfl : (decodeL l).2 = n := by rw [← g1]; exact hn
    exact h ⟨by rw [g5]; exact g7, by rw [g5]; exact g6⟩
theorem end_good (l : List UInt8) (n : Nat) (X : Int) (hv : Lib.validRune X = true) (he : encodeRune X = l.take n) (hn : n ≤ l.length) : badL l = false ∧ decodeL l = (X.toNat, n) := by
  have e : l = encodeRune X ++ l.drop n := by rw [he, List.take_append_drop]
  obtain ⟨d1, d2, _⟩ := decode_encode X hv (l.drop n)
  rw [← e] at d1 d2
  refine ⟨d2, ?_⟩
  rw [d1, he, List.length_take, Nat.min_eq_left hn]

theorem acc_bound (l : List UInt8) : ∀ k, (∀ j, 1 ≤ j → j ≤ k → contL l j) → k < hdN (byteL l 0) → 0 ≤ accL l k ∧ accL l k < 2097152 ∧ (k + 1 < hdN (byteL l 0) → accL l k ≤ 32767) := by
  intro k hc hk
  have h4 : hdN (byteL l 0) ≤ 4 := by unfold hdN; repeat' split
                                      all_goals omega
  have hx : (hdN (byteL l 0) = 2 → hdX (byteL l 0) < 32) ∧ (hdN (byteL l 0) = 3 → hdX (byteL l 0) < 16) ∧ (hdN (byteL l 0) = 4 → hdX (byteL l 0) < 8) ∧ (hdN (byteL l 0) = 1 → hdX (byteL l 0) < 128) := by
    unfold hdN hdX
    repeat' split
    all_goals omega
  generalize hdN (byteL l 0) = n at *
  have e0 : accL l 0 = hdX (byteL l 0) := rfl
  have e1 : accL l 1 = 64 * accL l 0 + byteL l 1 - 128 := rfl
  have e2 : accL l 2 = 64 * accL l 1 + byteL l 2 - 128 := rfl
  have e3 : accL l 3 = 64 * accL l 2 + byteL l 3 - 128 := rfl
  rcases (by omega : k = 0 ∨ k = 1 ∨ k = 2 ∨ k = 3) with rfl | rfl | rfl | rfl
  · omega
  · have c1 := hc 1 (by omega) (by omega)
    unfold contL at c1
    omega
  · have c1 := hc 1 (by omega) (by omega)
    have c2 := hc 2 (by omega) (by omega)
    unfold contL at c1 c2
    omega
  · have c1 := hc 1 (by omega) (by omega)
    have c2 := hc 2 (by omega) (by omega)
    have c3 := hc 3 (by omega) (by omega)
    unfold contL at c1 c2 c3
    omega
end Go.Proofs.YthekkjfaaedamaaGreatDoor

namespace Go.Proofs.YthekkjfaaedamaaGreatDoor

structure POp where
 site : Int
 seq : Int
 num : Int
 kind : Int
 pl : Int
 text : List UInt8
 spans : List Sp
structure PEdit where
 site : Int
 seq : Int
 ctx : Int
 kind : Int
 pl : Int
 len : Int
 text : List UInt8
def lenT (l : List UInt8) : Int := match runesL l with | some rs => (rs.length : Int) | none => -1
theorem lenT_ge (l : List UInt8) : -1 ≤ lenT l := by
 unfold lenT
 split <;> omega
theorem lenT_le (l : List UInt8) : lenT l ≤ l.length := by
 unfold lenT
 split
 ·rename_i rs h
  have := runes_le h
  omega
 ·omega
def mayT (l : List UInt8) : Bool := decide (l.length ≤ 800) && decide (1 ≤ lenT l ∧ lenT l ≤ 200)
def oMay (o : POp) (size : Int) : Bool :=
 decide (0 ≤ size ∧ size ≤ 20000) && nMay o.site o.seq && decide (0 ≤ o.num ∧ o.num ≤ 1099511627776) &&
  (if o.kind = 1 then decide (0 ≤ o.pl ∧ o.pl ≤ size) && mayT o.text && decide (o.spans = []) && decide (size + lenT o.text ≤ 20000)
   else decide (o.kind = 2) && decide (o.pl = 0) && decide (o.text = []) && sMay o.spans && o.spans.all fun s => decide (s.1 + s.2 ≤ size))
def oAdds (o : POp) : Int := if o.kind = 1 then (if lenT o.text < 0 then 0 else lenT o.text) else 0
def eMay (e : PEdit) : Bool :=
 nMay e.site e.seq && decide (0 ≤ e.ctx ∧ e.ctx ≤ 1099511627776) && decide (0 ≤ e.pl ∧ e.pl ≤ 20000) &&
  (if e.kind = 1 then decide (e.len = 0) && mayT e.text else decide (e.kind = 2) && decide (1 ≤ e.len ∧ e.len ≤ 20000) && decide (e.text = []))
end Go.Proofs.YthekkjfaaedamaaGreatDoor

namespace Go.Proofs.YthekkjfaaedamaaGreatDoor

def pZero : POp := ⟨0, 0, 0, 0, 0, [], []⟩
def OMay (o : POp) (size : Int) : Prop := (0 ≤ size ∧ size ≤ 20000) ∧ nMay o.site o.seq = true ∧ (0 ≤ o.num ∧ o.num ≤ 1099511627776) ∧
 ((o.kind = 1 ∧ 0 ≤ o.pl ∧ o.pl ≤ size ∧ mayT o.text = true ∧ o.spans = [] ∧ size + lenT o.text ≤ 20000) ∨ (o.kind = 2 ∧ o.pl = 0 ∧ o.text = [] ∧ sGood o.spans ∧ ∀ s ∈ o.spans, s.1 + s.2 ≤ size))
theorem oMay_iff (o : POp) (size : Int) : oMay o size = true ↔ OMay o size := by
 unfold oMay OMay
 by_cases k : o.kind = 1
 ·rw [if_pos k]
  simp only [Bool.and_eq_true, decide_eq_true_eq]
  constructor
  ·rintro ⟨⟨⟨h1, h2⟩, h3⟩, ⟨⟨h4, h5⟩, h6⟩, h7⟩
   exact ⟨h1, h2, h3, .inl ⟨k, h4.1, h4.2, h5, h6, h7⟩⟩
  ·rintro ⟨h1, h2, h3, ⟨_, h4, h5, h6, h7, h8⟩ | ⟨h, _⟩⟩
   ·exact ⟨⟨⟨h1, h2⟩, h3⟩, ⟨⟨⟨h4, h5⟩, h6⟩, h7⟩, h8⟩
   ·omega
 ·rw [if_neg k]
  simp only [Bool.and_eq_true, decide_eq_true_eq, List.all_eq_true, sMay_good]
  constructor
  ·rintro ⟨⟨⟨h1, h2⟩, h3⟩, ⟨⟨⟨h4, h5⟩, h6⟩, h7⟩, h8⟩
   exact ⟨h1, h2, h3, .inr ⟨h4, h5, h6, h7, h8⟩⟩
  ·rintro ⟨h1, h2, h3, ⟨h, _⟩ | ⟨h4, h5, h6, h7, h8⟩⟩
   ·exact absurd h k
   ·exact ⟨⟨⟨h1, h2⟩, h3⟩, ⟨⟨⟨h4, h5⟩, h6⟩, h7⟩, h8⟩
theorem oAdds_ge (o : POp) : 0 ≤ oAdds o := by
 unfold oAdds
 split
 ·split <;> omega
 ·omega
theorem oAdds_ins {o : POp} (k : o.kind = 1) (h : mayT o.text = true) : oAdds o = lenT o.text ∧ 1 ≤ lenT o.text ∧ lenT o.text ≤ 200 := by
 unfold mayT at h
 simp only [Bool.and_eq_true, decide_eq_true_eq] at h
 unfold oAdds
 rw [if_pos k, if_neg (by omega)]
 exact ⟨rfl, h.2⟩
theorem oAdds_no {o : POp} (k : o.kind ≠ 1) : oAdds o = 0 := by
 unfold oAdds
 rw [if_neg k]
theorem OMay.room {o : POp} {size : Int} (h : OMay o size) : size + oAdds o ≤ 20000 ∧ oAdds o ≤ 200 := by
 obtain ⟨h1, _, _, ⟨k, _, _, h4, _, h6⟩ | ⟨k, _⟩⟩ := h
 ·have := oAdds_ins k h4; omega
 ·have := oAdds_no (o := o) (by omega); omega

end Go.Proofs.YthekkjfaaedamaaGreatDoor

namespace Go.Proofs.YthekkjfaaedamaaGreatDoor

structure PCell where
 site : Int
 seq : Int
 off : Int
 r : Int
 gone : Bool
 deriving DecidableEq
def newC (o : POp) : List PCell := ((runesL o.text).getD []).mapIdx fun i r => ⟨o.site, o.seq, i, r, false⟩
def goneC (l : List PCell) (f : Nat → Bool) : List PCell := l.mapIdx fun i c => { c with gone := c.gone || f i }
def runC (l : List PCell) (o : POp) : List PCell := if o.kind = 1 then l.take o.pl.toNat ++ newC o ++ l.drop o.pl.toNat else goneC l (sMark o.spans)
theorem newC_length {o : POp} (h : mayT o.text = true) : ((newC o).length : Int) = lenT o.text := by
 unfold mayT at h
 simp only [Bool.and_eq_true, decide_eq_true_eq] at h
 have h := h.2
 unfold newC
 unfold lenT at h ⊢
 cases hr : runesL o.text with
 | none => rw [hr] at h; dsimp only at h; omega
 | some rs => simp
theorem goneC_length (l : List PCell) (f : Nat → Bool) : (goneC l f).length = l.length := by simp [goneC]
theorem goneC_at (l : List PCell) (f : Nat → Bool) (i : Nat) : (goneC l f)[i]? = (l[i]?).map fun c => { c with gone := c.gone || f i } := by
 unfold goneC
 rw [List.getElem?_mapIdx]
theorem insC_length (l m : List PCell) (p : Nat) (hp : p ≤ l.length) : (l.take p ++ m ++ l.drop p).length = l.length + m.length := by
 simp only [List.length_append, List.length_take, List.length_drop]
 omega
theorem runC_length {l : List PCell} {o : POp} (h : OMay o l.length) : ((runC l o).length : Int) = l.length + oAdds o := by
 unfold runC
 obtain ⟨_, _, _, ⟨k, p0, p1, ht, _⟩ | ⟨k, _⟩⟩ := h
 ·rw [if_pos k, insC_length _ _ _ (by omega), (oAdds_ins k ht).1, ← newC_length ht]
  omega
 ·rw [if_neg (by omega), goneC_length, oAdds_no (by omega)]
  omega
end Go.Proofs.YthekkjfaaedamaaGreatDoor

namespace Go.Proofs.YthekkjfaaedamaaGreatDoor

def cSeen (l : List PCell) (p : Nat) : Nat := (l.take p).countP fun c => !c.gone
def cLive (l : List PCell) : Nat := cSeen l l.length
end Go.Proofs.YthekkjfaaedamaaGreatDoor

namespace Go.Proofs.YthekkjfaaedamaaGreatDoor

end Go.Proofs.YthekkjfaaedamaaGreatDoor

namespace Go.Proofs.YthekkjfaaedamaaGreatDoor

def nmO (o : POp) : Int × Int := (o.site, o.seq)
def unlk (l : List POp) : Bool := decide (l.map nmO).Nodup
def runO : List POp → Int → Option Int
 | [], m => some m
 | o :: r, m => if oMay o m = true then runO r (m + oAdds o) else none
def lRun (l : List POp) (size : Int) : Option Int := if (0 ≤ size ∧ size ≤ 20000) ∧ unlk l = true then runO l size else none
theorem runO_append : ∀ (l m : List POp) (k : Int), runO (l ++ m) k = (runO l k).bind (runO m)
 | [], _, _ => rfl
 | o :: r, m, k => by
  show (if oMay o k = true then runO (r ++ m) (k + oAdds o) else none) = ((if oMay o k = true then runO r (k + oAdds o) else none) : Option Int).bind (runO m)
  split
  ·exact runO_append r m _
  ·rfl
theorem runO_snoc (l : List POp) (o : POp) (k : Int) : runO (l ++ [o]) k = (runO l k).bind fun m => if oMay o m = true then some (m + oAdds o) else none := by
 rw [runO_append]
 rfl
theorem runO_room : ∀ (l : List POp) (k m : Int), (0 ≤ k ∧ k ≤ 20000) → runO l k = some m → 0 ≤ m ∧ m ≤ 20000
 | [], k, m, hk, h => by
  have : k = m := Option.some.inj h
  omega
 | o :: r, k, m, hk, h => by
  have h' : (if oMay o k = true then runO r (k + oAdds o) else none) = some m := h
  split at h'
  ·rename_i g
   have := ((oMay_iff _ _).1 g).room
   have := oAdds_ge o
   exact runO_room r _ m (by omega) h'
  ·cases h'
theorem runO_take {l : List POp} {k : Nat} {o : POp} (ho : l[k]? = some o) (size : Int) : runO (l.take (k + 1)) size = (runO (l.take k) size).bind fun m => if oMay o m = true then some (m + oAdds o) else none := by
 rw [List.take_add_one, ho]
 exact runO_snoc _ _ _
theorem runO_none {l : List POp} {k : Nat} {size : Int} (h : runO (l.take k) size = none) : runO l size = none := by
 rw [← List.take_append_drop k l, runO_append, h]
 rfl
theorem unlk_take {l : List POp} (k : Nat) (h : unlk l = true) : unlk (l.take k) = true := by
 unfold unlk at h ⊢
 rw [decide_eq_true_iff] at h ⊢
 rw [List.map_take]
 exact h.sublist (List.take_sublist _ _)
theorem unlk_not {l : List POp} {k : Nat} (h : unlk (l.take k) = false) : unlk l = false := by
 cases hu : unlk l with
 | false => rfl
 | true => rw [unlk_take k hu] at h; cases h
theorem unlk_snoc (l : List POp) (o : POp) : unlk (l ++ [o]) = (unlk l && !(l.any fun x => x.site == o.site && x.seq == o.seq)) := by
 unfold unlk
 rw [Bool.eq_iff_iff, decide_eq_true_iff, Bool.and_eq_true, decide_eq_true_iff, List.map_append, List.nodup_append]
 simp only [Bool.not_eq_true', List.any_eq_false, Bool.and_eq_true, beq_iff_eq, List.map_cons, List.map_nil, List.mem_singleton, List.nodup_cons, List.not_mem_nil, not_false_eq_true, List.nodup_nil, and_self, true_and]
 constructor
 ·rintro ⟨h1, h2⟩
  refine ⟨h1, fun x hx ⟨e1, e2⟩ => h2 (nmO x) (List.mem_map_of_mem hx) (nmO o) rfl ?_⟩
  unfold nmO
  rw [e1, e2]
 ·rintro ⟨h1, h2⟩
  refine ⟨h1, fun p hp r hr e => ?_⟩
  obtain ⟨x, hx, rfl⟩ := List.mem_map.1 hp
  subst hr
  unfold nmO at e
  exact h2 x hx ⟨congrArg Prod.fst e, congrArg Prod.snd e⟩
end Go.Proofs.YthekkjfaaedamaaGreatDoor
