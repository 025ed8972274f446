/- The document's first rune of bytes: plain. -/
import Derived.Test.YtnlajfdgpdijjaaPlain
namespace Go.Proofs.Ytnlajfdgpdijjaa
open Go.Lib

/-- How many bytes the first byte asks for (0: it begins none), and what it brings. -/
def hdN (b : Nat) : Nat := if b < 128 then 1 else if b < 192 then 0 else if b < 224 then 2 else if b < 240 then 3 else if b < 248 then 4 else 0
def hdX (b : Nat) : Nat := if b < 128 then b else if b < 192 then 0 else if b < 224 then b - 192 else if b < 240 then b - 224 else b - 240
def byteL (l : List UInt8) (k : Nat) : Nat := (l.getD k 0).toNat
def accL (l : List UInt8) : Nat → Int
  | 0 => hdX (byteL l 0)
  | k + 1 => 64 * accL l k + byteL l (k + 1) - 128
def contL (l : List UInt8) (k : Nat) : Prop := 128 ≤ byteL l k ∧ byteL l k ≤ 191

theorem byteL_lt (l : List UInt8) (k : Nat) : byteL l k < 256 := (l.getD k 0).toNat_lt

theorem byteL_enc (x : Int) (l : List UInt8) (h0 : 0 ≤ x) (h1 : x < 256) (k : Nat) (hk : l.getD k 0 = x.toNat.toUInt8) : (byteL l k : Int) = x := by
  unfold byteL
  rw [hk, byteOf_nat h0 h1]
  omega

set_option maxHeartbeats 2000000 in
/-- Where bytes begin a rune, all that is asked of them holds. -/
theorem good_first (l : List UInt8) (h0 : l ≠ []) (hb : badL l = false) :
    hdN (byteL l 0) = (decodeL l).2 ∧ 1 ≤ (decodeL l).2 ∧ (decodeL l).2 ≤ l.length ∧ (∀ k, 1 ≤ k → k < (decodeL l).2 → contL l k) ∧ accL l ((decodeL l).2 - 1) = (decodeL l).1 ∧
      encodeRune ((decodeL l).1 : Int) = l.take (decodeL l).2 ∧ validRune ((decodeL l).1 : Int) = true := by
  obtain ⟨t, ht, hw, hv⟩ := encode_decode l h0 hb
  have hle : (decodeL l).2 ≤ l.length := by
    have e := congrArg List.length ht
    rw [List.length_append] at e
    omega
  have htake : encodeRune ((decodeL l).1 : Int) = l.take (decodeL l).2 := by
    rw [hw]
    generalize (decodeL l).1 = c at ht ⊢
    rw [ht, List.take_left]
  have hp := encode_pos ((decodeL l).1 : Int)
  rw [← hw] at hp
  generalize (decodeL l).1 = R at *
  generalize (decodeL l).2 = K at *
  have hv' : ((0 : Int) ≤ R ∧ (R : Int) < 0xD800) ∨ (0xDFFF < (R : Int) ∧ (R : Int) ≤ 0x10FFFF) := by simpa [validRune] using hv
  refine ⟨?_, hp, hle, ?_, ?_, htake, hv⟩
  all_goals
    clear htake hle hb h0
    unfold encodeRune at ht hw
    by_cases c1 : (R : Int) ≤ 127
    · rw [encodeRuneZ_one (by omega) c1] at ht hw
      have b0 := byteL_enc R l (by omega) (by omega) 0 (by rw [ht]; rfl)
      obtain rfl : K = 1 := hw
      first
        | (unfold hdN; rw [if_pos (by omega)])
        | (intro k h1 h2; omega)
        | (show accL l 0 = _; unfold accL hdX; rw [if_pos (by omega)]; exact b0)
    · by_cases c2 : (R : Int) ≤ 2047
      · rw [encodeRuneZ_two (by omega) c2] at ht hw
        have b0 := byteL_enc (192 + R / 64) l (by omega) (by omega) 0 (by rw [ht]; rfl)
        have b1 := byteL_enc (128 + R % 64) l (by omega) (by omega) 1 (by rw [ht]; rfl)
        obtain rfl : K = 2 := hw
        first
          | (unfold hdN; rw [if_neg (by omega), if_neg (by omega), if_pos (by omega)])
          | (intro k h1 h2; obtain rfl : k = 1 := by omega
             unfold contL; omega)
          | (show accL l 1 = _
             have e0 : accL l 0 = hdX (byteL l 0) := rfl
             have e1 : accL l 1 = 64 * accL l 0 + byteL l 1 - 128 := rfl
             unfold hdX at e0
             rw [if_neg (by omega), if_neg (by omega), if_pos (by omega)] at e0
             omega)
      · by_cases c3 : (R : Int) ≤ 65535
        · rw [encodeRuneZ_three (by omega)] at ht hw
          have b0 := byteL_enc (224 + R / 4096) l (by omega) (by omega) 0 (by rw [ht]; rfl)
          have b1 := byteL_enc (128 + R / 64 % 64) l (by omega) (by omega) 1 (by rw [ht]; rfl)
          have b2 := byteL_enc (128 + R % 64) l (by omega) (by omega) 2 (by rw [ht]; rfl)
          obtain rfl : K = 3 := hw
          first
            | (unfold hdN; rw [if_neg (by omega), if_neg (by omega), if_neg (by omega), if_pos (by omega)])
            | (intro k h1 h2; unfold contL
               rcases (by omega : k = 1 ∨ k = 2) with rfl | rfl <;> omega)
            | (show accL l 2 = _
               have e0 : accL l 0 = hdX (byteL l 0) := rfl
               have e1 : accL l 1 = 64 * accL l 0 + byteL l 1 - 128 := rfl
               have e2 : accL l 2 = 64 * accL l 1 + byteL l 2 - 128 := rfl
               unfold hdX at e0
               rw [if_neg (by omega), if_neg (by omega), if_neg (by omega), if_pos (by omega)] at e0
               omega)
        · rw [encodeRuneZ_four (by omega) (by omega)] at ht hw
          have b0 := byteL_enc (240 + R / 262144) l (by omega) (by omega) 0 (by rw [ht]; rfl)
          have b1 := byteL_enc (128 + R / 4096 % 64) l (by omega) (by omega) 1 (by rw [ht]; rfl)
          have b2 := byteL_enc (128 + R / 64 % 64) l (by omega) (by omega) 2 (by rw [ht]; rfl)
          have b3 := byteL_enc (128 + R % 64) l (by omega) (by omega) 3 (by rw [ht]; rfl)
          obtain rfl : K = 4 := hw
          first
            | (unfold hdN; rw [if_neg (by omega), if_neg (by omega), if_neg (by omega), if_neg (by omega), if_pos (by omega)])
            | (intro k h1 h2; unfold contL
               rcases (by omega : k = 1 ∨ k = 2 ∨ k = 3) with rfl | rfl | rfl <;> omega)
            | (show accL l 3 = _
               have e0 : accL l 0 = hdX (byteL l 0) := rfl
               have e1 : accL l 1 = 64 * accL l 0 + byteL l 1 - 128 := rfl
               have e2 : accL l 2 = 64 * accL l 1 + byteL l 2 - 128 := rfl
               have e3 : accL l 3 = 64 * accL l 2 + byteL l 3 - 128 := rfl
               unfold hdX at e0
               rw [if_neg (by omega), if_neg (by omega), if_neg (by omega), if_neg (by omega)] at e0
               omega)

/-- Where something that is asked doesn't hold, they begin none. -/
theorem bad_first (l : List UInt8) (h0 : l ≠ []) (h : hdN (byteL l 0) = 0 ∨ l.length < hdN (byteL l 0) ∨ ∃ k, 1 ≤ k ∧ k < hdN (byteL l 0) ∧ ¬ contL l k) : badL l = true := by
  cases hb : badL l with
  | true => rfl
  | false =>
    exfalso
    obtain ⟨g1, g2, g3, g4, _⟩ := good_first l h0 hb
    rw [g1] at h
    rcases h with h | h | ⟨k, k1, k2, k3⟩
    · omega
    · omega
    · exact k3 (g4 k k1 k2)
theorem end_bad (l : List UInt8) (h0 : l ≠ []) (n : Nat) (hn : hdN (byteL l 0) = n) (h : ¬ (validRune (accL l (n - 1)) = true ∧ encodeRune (accL l (n - 1)) = l.take n)) : badL l = true := by
  cases hb : badL l with
  | true => rfl
  | false =>
    exfalso
    obtain ⟨g1, _, _, _, g5, g6, g7⟩ := good_first l h0 hb
    obtain rfl : (decodeL l).2 = n := by rw [← g1]; exact hn
    exact h ⟨by rw [g5]; exact g7, by rw [g5]; exact g6⟩
theorem end_good (l : List UInt8) (n : Nat) (X : Int) (hv : validRune X = true) (he : encodeRune X = l.take n) (hn : n ≤ l.length) : badL l = false ∧ decodeL l = (X.toNat, n) := by
  have e : l = encodeRune X ++ l.drop n := by rw [he, List.take_append_drop]
  obtain ⟨d1, d2, _⟩ := decode_encode X hv (l.drop n)
  rw [← e] at d1 d2
  refine ⟨d2, ?_⟩
  rw [d1, he, List.length_take, Nat.min_eq_left hn]

/-- How great the number gets on the way. -/
theorem acc_bound (l : List UInt8) : ∀ k, (∀ j, 1 ≤ j → j ≤ k → contL l j) → k < hdN (byteL l 0) → 0 ≤ accL l k ∧ accL l k < 2097152 ∧ (k + 1 < hdN (byteL l 0) → accL l k ≤ 32767) := by
  intro k hc hk
  have h4 : hdN (byteL l 0) ≤ 4 := by unfold hdN; repeat' split
                                      all_goals omega
  have hx : (hdN (byteL l 0) = 2 → hdX (byteL l 0) < 32) ∧ (hdN (byteL l 0) = 3 → hdX (byteL l 0) < 16) ∧ (hdN (byteL l 0) = 4 → hdX (byteL l 0) < 8) ∧ (hdN (byteL l 0) = 1 → hdX (byteL l 0) < 128) := by
    unfold hdN hdX
    repeat' split
    all_goals omega
  generalize hdN (byteL l 0) = n at *
  have e0 : accL l 0 = hdX (byteL l 0) := rfl
  have e1 : accL l 1 = 64 * accL l 0 + byteL l 1 - 128 := rfl
  have e2 : accL l 2 = 64 * accL l 1 + byteL l 2 - 128 := rfl
  have e3 : accL l 3 = 64 * accL l 2 + byteL l 3 - 128 := rfl
  rcases (by omega : k = 0 ∨ k = 1 ∨ k = 2 ∨ k = 3) with rfl | rfl | rfl | rfl
  · omega
  · have c1 := hc 1 (by omega) (by omega)
    unfold contL at c1
    omega
  · have c1 := hc 1 (by omega) (by omega)
    have c2 := hc 2 (by omega) (by omega)
    unfold contL at c1 c2
    omega
  · have c1 := hc 1 (by omega) (by omega)
    have c2 := hc 2 (by omega) (by omega)
    have c3 := hc 3 (by omega) (by omega)
    unfold contL at c1 c2 c3
    omega
end Go.Proofs.Ytnlajfdgpdijjaa
