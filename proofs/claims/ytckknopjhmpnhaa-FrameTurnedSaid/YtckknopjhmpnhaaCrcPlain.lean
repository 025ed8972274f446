/- Sums of bytes (CRC-32C) as plain numbers: linear, turned back, joined. Nothing of a program. -/
import Derived.Test.YtckknopjhmpnhaaRows
namespace Go.Proofs.Ytckknopjhmpnhaa.Crc

/-- The step's number, and all bits of a word. -/
def poly : Nat := 2197175160
def ones : Nat := 4294967295
def step (w : Nat) : Nat := if w % 2 = 1 then (w / 2) ^^^ poly else w / 2
def steps : Nat → Nat → Nat
  | 0, w => w
  | n + 1, w => steps n (step w)
/-- A byte goes in. -/
def byteIn (w b : Nat) : Nat := steps 8 (w ^^^ b)
def run (w : Nat) (l : List Nat) : Nat := l.foldl byteIn w
def more (s : Nat) (l : List Nat) : Nat := ones ^^^ run (ones ^^^ s) l
def sum (l : List Nat) : Nat := more 0 l
def zeros (n : Nat) : List Nat := List.replicate n 0

theorem steps_add (m n w : Nat) : steps (m + n) w = steps n (steps m w) := by
  induction m generalizing w with
  | zero => simp [steps]
  | succ m ih => rw [Nat.succ_add]; exact ih (step w)

theorem step_bit (w i : Nat) : (step w).testBit i = (w.testBit (i + 1) ^^ (w.testBit 0 && poly.testBit i)) := by
  unfold step
  rw [Nat.testBit_succ, Nat.testBit_zero]
  split
  · rename_i h
    rw [Nat.testBit_xor]
    simp [h]
  · rename_i h
    simp [h]

theorem step_xor (a b : Nat) : step (a ^^^ b) = step a ^^^ step b := by
  apply Nat.eq_of_testBit_eq
  intro i
  rw [Nat.testBit_xor, step_bit, step_bit, step_bit, Nat.testBit_xor, Nat.testBit_xor]
  cases a.testBit (i + 1) <;> cases b.testBit (i + 1) <;> cases a.testBit 0 <;> cases b.testBit 0 <;> cases poly.testBit i <;> rfl
theorem steps_xor (n a b : Nat) : steps n (a ^^^ b) = steps n a ^^^ steps n b := by
  induction n generalizing a b with
  | zero => rfl
  | succ n ih => simp only [steps]; rw [step_xor, ih]
theorem step_lt {w : Nat} (h : w < 4294967296) : step w < 4294967296 := by
  unfold step
  split
  · exact Nat.xor_lt_two_pow (n := 32) (by omega) (by decide)
  · omega
theorem steps_lt (n : Nat) {w : Nat} (h : w < 4294967296) : steps n w < 4294967296 := by
  induction n generalizing w with
  | zero => exact h
  | succ n ih => exact ih (step_lt h)
theorem step_zero : step 0 = 0 := rfl
theorem steps_zero (n : Nat) : steps n 0 = 0 := by
  induction n with
  | zero => rfl
  | succ n ih => simp only [steps]; rw [step_zero]; exact ih
theorem step_eq_zero {w : Nat} (hw : w < 4294967296) (h : step w = 0) : w = 0 := by
  have hb : ∀ i, (w.testBit (i + 1) ^^ (w.testBit 0 && poly.testBit i)) = false := fun i => by rw [← step_bit, h]; exact Nat.zero_testBit i
  have h32 : w.testBit 32 = false := Nat.testBit_lt_two_pow hw
  have hp : poly.testBit 31 = true := by decide
  have h0 : w.testBit 0 = false := by
    have := hb 31
    rw [h32, hp] at this
    simpa using this
  apply Nat.eq_of_testBit_eq
  intro i
  rw [Nat.zero_testBit]
  cases i with
  | zero => exact h0
  | succ i =>
    have := hb i
    rw [h0] at this
    simpa using this
theorem steps_eq_zero (n : Nat) {w : Nat} (hw : w < 4294967296) (h : steps n w = 0) : w = 0 := by
  induction n generalizing w with
  | zero => exact h
  | succ n ih => exact step_eq_zero hw (ih (step_lt hw) h)
theorem xor_cancel {a b : Nat} (h : a ^^^ b = 0) : a = b := by
  have e : a ^^^ b ^^^ b = 0 ^^^ b := by rw [h]
  rwa [Nat.xor_assoc, Nat.xor_self, Nat.xor_zero, Nat.zero_xor] at e
theorem xor_zero_iff {a b : Nat} : a ^^^ b = 0 ↔ a = b := ⟨xor_cancel, fun h => by rw [h, Nat.xor_self]⟩
theorem steps_inj (n : Nat) {a b : Nat} (ha : a < 4294967296) (hb : b < 4294967296) (h : steps n a = steps n b) : a = b := by
  apply xor_cancel
  refine steps_eq_zero n (Nat.xor_lt_two_pow (n := 32) ha hb) ?_
  rw [steps_xor, h, Nat.xor_self]

/-- What a whole byte of low zeros is shifted to. -/
theorem step_double (z : Nat) : step (2 * z) = z := by
  unfold step
  rw [if_neg (by omega)]
  omega
theorem steps8_shift (z : Nat) : steps 8 (256 * z) = z := by
  simp only [steps]
  rw [show 256 * z = 2 * (2 * (2 * (2 * (2 * (2 * (2 * (2 * z))))))) by omega]
  simp only [step_double]
/-- Eight steps by the table: the lowest byte's eight steps, made one with the others. -/
theorem low_xor_high (w : Nat) : (w % 256) ^^^ (256 * (w / 256)) = w := by
  have h := Nat.two_pow_add_eq_or_of_lt (i := 8) (b := w % 256) (Nat.mod_lt _ (by decide)) (w / 256)
  apply Nat.eq_of_testBit_eq
  intro i
  rw [Nat.testBit_xor]
  have e1 : (w % 256).testBit i = (decide (i < 8) && w.testBit i) := Nat.testBit_mod_two_pow w 8 i
  have e2 : (256 * (w / 256)).testBit i = (decide (8 ≤ i) && w.testBit i) := by
    rw [show 256 * (w / 256) = 2 ^ 8 * (w / 2 ^ 8) from rfl, Nat.testBit_two_pow_mul, Nat.testBit_div_two_pow]
    by_cases h8 : 8 ≤ i
    · simp [h8, Nat.sub_add_cancel h8]
    · simp [h8]
  rw [e1, e2]
  by_cases h8 : i < 8
  · have : ¬ 8 ≤ i := by omega
    simp [h8, this]
  · have : 8 ≤ i := by omega
    simp [h8, this]
theorem steps8_table (w : Nat) : steps 8 w = steps 8 (w % 256) ^^^ (w / 256) := by
  conv => lhs; rw [← low_xor_high w]
  rw [steps_xor, steps8_shift]

theorem run_nil (w : Nat) : run w [] = w := rfl
theorem run_cons (w b : Nat) (l : List Nat) : run w (b :: l) = run (byteIn w b) l := rfl
theorem run_append (w : Nat) (l m : List Nat) : run w (l ++ m) = run (run w l) m := by simp [run]
theorem byteIn_xor (a b x y : Nat) : byteIn (a ^^^ b) (x ^^^ y) = byteIn a x ^^^ byteIn b y := by
  unfold byteIn
  rw [← steps_xor]
  congr 1
  rw [Nat.xor_assoc, Nat.xor_assoc, ← Nat.xor_assoc b x y, Nat.xor_comm b x, Nat.xor_assoc x b y]
def xorL : List Nat → List Nat → List Nat
  | x :: l, y :: m => (x ^^^ y) :: xorL l m
  | _, _ => []
theorem run_xor : ∀ (l m : List Nat) (a b : Nat), l.length = m.length → run (a ^^^ b) (xorL l m) = run a l ^^^ run b m
  | [], [], a, b, _ => rfl
  | x :: l, y :: m, a, b, h => by
    simp only [xorL, run_cons]
    rw [byteIn_xor]
    exact run_xor l m _ _ (by simpa using h)
theorem xorL_zeros : ∀ (l : List Nat), xorL l (zeros l.length) = l
  | [] => rfl
  | x :: l => by
    show (x ^^^ 0) :: xorL l (zeros l.length) = _
    rw [Nat.xor_zero, xorL_zeros l]
/-- A run from one word is that from nothing, made one with the word's over zeros. -/
theorem run_split (w : Nat) (l : List Nat) : run w l = run w (zeros l.length) ^^^ run 0 l := by
  have h := run_xor l (zeros l.length) 0 w (by simp [zeros])
  rw [xorL_zeros, Nat.zero_xor] at h
  rw [h, Nat.xor_comm]
theorem run_zeros (n w : Nat) : run w (zeros n) = steps (8 * n) w := by
  induction n generalizing w with
  | zero => rfl
  | succ n ih =>
    show run w (0 :: zeros n) = _
    rw [run_cons, ih, byteIn, Nat.xor_zero, ← steps_add]
    congr 1
    omega
theorem byteIn_lt {w b : Nat} (hw : w < 4294967296) (hb : b < 256) : byteIn w b < 4294967296 := steps_lt 8 (Nat.xor_lt_two_pow (n := 32) hw (by omega))
theorem run_lt : ∀ {l : List Nat} {w : Nat}, w < 4294967296 → (∀ b ∈ l, b < 256) → run w l < 4294967296
  | [], _, hw, _ => hw
  | b :: l, w, hw, hl => by
    rw [run_cons]
    exact run_lt (byteIn_lt hw (hl b (by simp))) (fun x hx => hl x (by simp [hx]))

theorem ones_xor {a : Nat} (h : a < 4294967296) : ones ^^^ a = ones - a := by
  apply Nat.eq_of_testBit_eq
  intro i
  have e : ones - a = 2 ^ 32 - (a + 1) := by unfold ones; omega
  rw [e, Nat.testBit_two_pow_sub_succ h, Nat.testBit_xor]
  have e2 : ones.testBit i = decide (i < 32) := by
    show (2 ^ 32 - 1).testBit i = _
    exact Nat.testBit_two_pow_sub_one 32 i
  rw [e2]
  by_cases h32 : i < 32
  · simp [h32]
  · have : a.testBit i = false := Nat.testBit_lt_two_pow (Nat.lt_of_lt_of_le h (Nat.pow_le_pow_right (show 0 < 2 by decide) (by omega : 32 ≤ i)))
    simp [h32, this]
theorem ones_twice (a : Nat) : ones ^^^ (ones ^^^ a) = a := by rw [← Nat.xor_assoc, Nat.xor_self, Nat.zero_xor]

/-- The sum of two texts, one behind the other: More of the first's. -/
theorem more_sum (l m : List Nat) : more (sum l) m = sum (l ++ m) := by
  unfold sum more
  rw [ones_twice, run_append]
/-- .. and Join of both. -/
theorem join_sum (m : List Nat) (s : Nat) : (more s (zeros m.length) ^^^ sum m) ^^^ sum (zeros m.length) = more s m := by
  unfold sum more
  rw [Nat.xor_zero, run_split (ones ^^^ s) m, run_split ones m]
  generalize run (ones ^^^ s) (zeros m.length) = A
  generalize run ones (zeros m.length) = B
  generalize run 0 m = C
  apply Nat.eq_of_testBit_eq
  intro i
  simp only [Nat.testBit_xor]
  cases ones.testBit i <;> cases A.testBit i <;> cases B.testBit i <;> cases C.testBit i <;> rfl

/-- Of two texts of one length the sums are alike just if the run of what they are unlike in is nothing. -/
theorem sum_eq_iff (l m : List Nat) (h : l.length = m.length) (w : Nat) : run w l = run w m ↔ run 0 (xorL l m) = 0 := by
  have e := run_xor l m w w h
  rw [Nat.xor_self] at e
  rw [e]
  exact xor_zero_iff.symm
theorem xorL_append : ∀ (a b c d : List Nat), a.length = b.length → xorL (a ++ c) (b ++ d) = xorL a b ++ xorL c d
  | [], [], _, _, _ => rfl
  | x :: a, y :: b, c, d, h => by
    simp only [List.cons_append, xorL]
    rw [xorL_append a b c d (by simpa using h)]
theorem xorL_self (a : List Nat) : xorL a a = zeros a.length := by
  induction a with
  | nil => rfl
  | cons x a ih =>
    show (x ^^^ x) :: xorL a a = _
    rw [Nat.xor_self, ih]
    rfl
theorem xorL_lt : ∀ (a b : List Nat), (∀ x ∈ a, x < 256) → (∀ x ∈ b, x < 256) → ∀ x ∈ xorL a b, x < 256
  | [], _, _, _, x, hx => by simp [xorL] at hx
  | _ :: _, [], _, _, x, hx => by simp [xorL] at hx
  | y :: a, z :: b, ha, hb, x, hx => by
    simp only [xorL, List.mem_cons] at hx
    rcases hx with rfl | hx
    · exact Nat.xor_lt_two_pow (n := 8) (ha y (by simp)) (hb z (by simp))
    · exact xorL_lt a b (fun t ht => ha t (by simp [ht])) (fun t ht => hb t (by simp [ht])) x hx
theorem run_zero_zeros (n : Nat) : run 0 (zeros n) = 0 := by rw [run_zeros, steps_zero]
/-- Whatever stands ahead, and behind, of two texts of one length: their runs are alike just if they are alike alone. -/
theorem around (a b p q : List Nat) (h : a.length = b.length) (ha : ∀ x ∈ a, x < 256) (hb : ∀ x ∈ b, x < 256) (v w : Nat) : run v a = run v b ↔ run w (p ++ a ++ q) = run w (p ++ b ++ q) := by
  rw [sum_eq_iff a b h, sum_eq_iff _ _ (by simp [h]), xorL_append _ _ _ _ (by simp [h]), xorL_append _ _ _ _ rfl, xorL_self, xorL_self, run_append, run_append, run_zero_zeros, run_zeros]
  constructor
  · intro e; rw [e, steps_zero]
  · exact steps_eq_zero _ (run_lt (by decide) (xorL_lt a b ha hb))
/-- Four bytes that go into nothing leave nothing just if they are nothing. -/
theorem run_four (a b c d : Nat) (ha : a < 256) (hb : b < 256) (hc : c < 256) (hd : d < 256) (h : run 0 [a, b, c, d] = 0) : a = 0 ∧ b = 0 ∧ c = 0 ∧ d = 0 := by
  have e : run 0 [a, b, c, d] = steps 32 (a ^^^ (256 * b ^^^ (65536 * c ^^^ 16777216 * d))) := by
    show byteIn (byteIn (byteIn (byteIn 0 a) b) c) d = _
    unfold byteIn
    rw [Nat.zero_xor]
    rw [show (32 : Nat) = 8 + 24 from rfl, steps_add, steps_xor 8 a, steps_xor 8 (256 * b), steps_xor 8 (65536 * c), steps8_shift, show 65536 * c = 256 * (256 * c) by omega, steps8_shift, show 16777216 * d = 256 * (65536 * d) by omega, steps8_shift]
    rw [← Nat.xor_assoc, show (24 : Nat) = 8 + 16 from rfl, steps_add, steps_xor 8 (steps 8 a ^^^ b), steps_xor 8 (256 * c), steps8_shift, show 65536 * d = 256 * (256 * d) by omega, steps8_shift]
    rw [← Nat.xor_assoc, show (16 : Nat) = 8 + 8 from rfl, steps_add, steps_xor 8 (steps 8 (steps 8 a ^^^ b) ^^^ c), steps8_shift]
  rw [e] at h
  have hl : a ^^^ (256 * b ^^^ (65536 * c ^^^ 16777216 * d)) < 4294967296 := by
    refine Nat.xor_lt_two_pow (n := 32) (by omega) (Nat.xor_lt_two_pow (by omega) (Nat.xor_lt_two_pow (by omega) (by omega)))
  have h0 := steps_eq_zero 32 hl h
  have hbit : ∀ i, (a.testBit i ^^ ((256 * b).testBit i ^^ ((65536 * c).testBit i ^^ (16777216 * d).testBit i))) = false := fun i => by
    have := congrArg (fun n => Nat.testBit n i) h0
    simpa [Nat.testBit_xor] using this
  have mb : ∀ (k x i : Nat), (2 ^ k * x).testBit i = (decide (k ≤ i) && x.testBit (i - k)) := fun k x i => Nat.testBit_two_pow_mul
  have small : ∀ (x i : Nat), x < 256 → 8 ≤ i → x.testBit i = false := fun x i hx hi => Nat.testBit_lt_two_pow (Nat.lt_of_lt_of_le hx (Nat.pow_le_pow_right (show 0 < 2 by decide) hi))
  have key : ∀ i, (a.testBit i ^^ ((decide (8 ≤ i) && b.testBit (i - 8)) ^^ ((decide (16 ≤ i) && c.testBit (i - 16)) ^^ (decide (24 ≤ i) && d.testBit (i - 24))))) = false := fun i => by
    have := hbit i
    rw [show 256 * b = 2 ^ 8 * b from rfl, show 65536 * c = 2 ^ 16 * c from rfl, show 16777216 * d = 2 ^ 24 * d from rfl, mb, mb, mb] at this
    exact this
  have zero_of : ∀ x, x < 256 → (∀ i, i < 8 → x.testBit i = false) → x = 0 := fun x hx hi => by
    apply Nat.eq_of_testBit_eq
    intro i
    rw [Nat.zero_testBit]
    rcases Nat.lt_or_ge i 8 with h | h
    · exact hi i h
    · exact small x i hx h
  refine ⟨zero_of a ha fun i hi => ?_, zero_of b hb fun i hi => ?_, zero_of c hc fun i hi => ?_, zero_of d hd fun i hi => ?_⟩
  · have := key i
    simpa [show ¬ 8 ≤ i by omega, show ¬ 16 ≤ i by omega, show ¬ 24 ≤ i by omega] using this
  · have := key (i + 8)
    simpa [small a (i + 8) ha (by omega), show ¬ 16 ≤ i + 8 by omega, show ¬ 24 ≤ i + 8 by omega] using this
  · have := key (i + 16)
    simpa [small a (i + 16) ha (by omega), show i + 16 - 8 = i + 8 by omega, small b (i + 8) hb (by omega), show 8 ≤ i + 16 by omega, show ¬ 24 ≤ i + 16 by omega] using this
  · have := key (i + 24)
    simpa [small a (i + 24) ha (by omega), show i + 24 - 8 = i + 16 by omega, show i + 24 - 16 = i + 8 by omega, small b (i + 16) hb (by omega), small c (i + 8) hc (by omega), show 8 ≤ i + 24 by omega, show 16 ≤ i + 24 by omega] using this
/-- WHAT IS TURNED WITHIN FOUR BYTES IS TOLD. -/
theorem turned (p q : List Nat) (a b c d x y z t w : Nat) (ha : a < 256) (hb : b < 256) (hc : c < 256) (hd : d < 256) (hx : x < 256) (hy : y < 256) (hz : z < 256) (ht : t < 256) :
    run w (p ++ [a, b, c, d] ++ q) = run w (p ++ [a ^^^ x, b ^^^ y, c ^^^ z, d ^^^ t] ++ q) ↔ x = 0 ∧ y = 0 ∧ z = 0 ∧ t = 0 := by
  have lt : ∀ {u v : Nat}, u < 256 → v < 256 → u ^^^ v < 256 := fun hu hv => Nat.xor_lt_two_pow (n := 8) hu hv
  rw [← around [a, b, c, d] [a ^^^ x, b ^^^ y, c ^^^ z, d ^^^ t] p q rfl (by simp [ha, hb, hc, hd]) (by simp [lt ha hx, lt hb hy, lt hc hz, lt hd ht]) 0 w, sum_eq_iff [a, b, c, d] [a ^^^ x, b ^^^ y, c ^^^ z, d ^^^ t] rfl 0]
  have e : xorL [a, b, c, d] [a ^^^ x, b ^^^ y, c ^^^ z, d ^^^ t] = [x, y, z, t] := by
    have c1 : ∀ u v : Nat, u ^^^ (u ^^^ v) = v := fun u v => by rw [← Nat.xor_assoc, Nat.xor_self, Nat.zero_xor]
    simp [xorL, c1]
  rw [e]
  constructor
  · exact run_four x y z t hx hy hz ht
  · rintro ⟨rfl, rfl, rfl, rfl⟩
    exact run_zero_zeros 4
end Go.Proofs.Ytckknopjhmpnhaa.Crc
