/- Names as texts: what is read of bytes. Nothing of a program's own text. -/
import Derived.Test.YthbophioohcphaaDoorRefDec
namespace Go.Proofs.YthbophioohcphaaDoor

/-- Bytes read as decimal digits, whatever they are. -/
def valF (l : List UInt8) : Int := l.foldl (fun a b => 10 * a + (b.toNat : Int) - 48) 0
theorem valF_snoc (l : List UInt8) (b : UInt8) : valF (l ++ [b]) = 10 * valF l + (b.toNat : Int) - 48 := by simp [valF]
theorem valF_bound (l : List UInt8) : -(23 * (10 : Int) ^ l.length) ≤ valF l - 23 ∧ valF l + 23 ≤ 23 * (10 : Int) ^ l.length := by
  have key : ∀ m : List UInt8, -(23 * (10 : Int) ^ m.reverse.length) ≤ valF m.reverse - 23 ∧ valF m.reverse + 23 ≤ 23 * (10 : Int) ^ m.reverse.length := by
    intro m
    induction m with
    | nil => simp [valF]
    | cons b m ih =>
      rw [List.reverse_cons, valF_snoc, List.length_append, List.length_singleton, Int.pow_succ]
      have := b.toNat_lt
      omega
  have := key l.reverse
  rwa [List.reverse_reverse] at this
theorem valF_small {l : List UInt8} (h : l.length ≤ 13) : -230000000000000 ≤ valF l ∧ valF l ≤ 230000000000000 := by
  have h1 := valF_bound l
  have h2 : (10 : Int) ^ l.length ≤ 10 ^ 13 := by
    have := Nat.pow_le_pow_right (show 0 < 10 by decide) h
    have e : ((10 ^ l.length : Nat) : Int) = (10 : Int) ^ l.length := by simp
    have e2 : ((10 ^ 13 : Nat) : Int) = (10 : Int) ^ 13 := by simp
    omega
  have e3 : (10 : Int) ^ 13 = 10000000000000 := by decide
  omega
theorem valF_dec (n : Nat) : valF (Lib.decDigits n) = n := by
  induction n using Nat.strongRecOn with
  | _ n ih =>
    rw [dec_step]
    have hd : ((UInt8.ofNat (48 + n % 10)).toNat : Int) = 48 + n % 10 := by
      rw [UInt8.toNat_ofNat', Nat.mod_eq_of_lt (by omega)]
      omega
    rw [valF_snoc, hd]
    unfold decHd
    by_cases h : n / 10 = 0
    · rw [if_pos h]
      simp [valF]
      omega
    · rw [if_neg h, ih (n / 10) (by omega)]
      omega
theorem dec_digits (n : Nat) : ∀ b ∈ Lib.decDigits n, b ≠ 46 := by
  induction n using Nat.strongRecOn with
  | _ n ih =>
    intro b hb
    rw [dec_step] at hb
    rcases List.mem_append.1 hb with h | h
    · unfold decHd at h
      by_cases g : n / 10 = 0
      · rw [if_pos g] at h; cases h
      · rw [if_neg g] at h
        exact ih (n / 10) (by omega) b h
    · simp only [List.mem_singleton] at h
      rw [h]
      intro e
      have := congrArg UInt8.toNat e
      rw [UInt8.toNat_ofNat', Nat.mod_eq_of_lt (by omega)] at this
      change 48 + n % 10 = 46 at this
      omega
/-- The text of a name, cut at its first full stop. -/
theorem text_cut {s q : Int} (h : nMay s q = true) : ∃ a b, nText s q = a ++ (46 :: b) ∧ (∀ x ∈ a, x ≠ 46) ∧ a.length ≤ 2 ∧ b.length ≤ 13 ∧ valF a = s ∧ valF b = q := by
  have hs := of_decide_eq_true h
  refine ⟨Lib.decDigits s.toNat, Lib.decDigits q.toNat, by unfold nText; rw [if_pos h], dec_digits _, ?_, ?_, ?_, ?_⟩
  · rw [Lib.decDigits_length]; exact nDigits_le 1 _ (by simp; omega)
  · rw [Lib.decDigits_length]; exact nDigits_le 12 _ (by simp; omega)
  · rw [valF_dec]; omega
  · rw [valF_dec]; omega
theorem cut_unique {a b c d : List UInt8} (h : a ++ (46 :: b) = c ++ (46 :: d)) (ha : ∀ x ∈ a, x ≠ 46) (hc : ∀ x ∈ c, x ≠ 46) : a = c ∧ b = d := by
  induction a generalizing c with
  | nil =>
    cases c with
    | nil => simp at h; exact ⟨rfl, h⟩
    | cons y c => simp only [List.nil_append, List.cons_append, List.cons.injEq] at h; exact absurd h.1.symm (hc y (List.mem_cons_self ..))
  | cons x a ih =>
    cases c with
    | nil => simp only [List.nil_append, List.cons_append, List.cons.injEq] at h; exact absurd h.1 (ha x (List.mem_cons_self ..))
    | cons y c =>
      simp only [List.cons_append, List.cons.injEq] at h
      obtain ⟨e1, e2⟩ := ih h.2 (fun z hz => ha z (List.mem_cons_of_mem _ hz)) (fun z hz => hc z (List.mem_cons_of_mem _ hz))
      exact ⟨by rw [h.1, e1], e2⟩
/-- No name has this text. -/
def noName (L : List UInt8) : Prop := ∀ s q, nMay s q = true → nText s q ≠ L
theorem noName_nodot {L : List UInt8} (h : ∀ x ∈ L, x ≠ 46) : noName L := fun s q hm he => by
  obtain ⟨a, b, hc, _⟩ := text_cut hm
  exact h 46 (by rw [← he, hc]; simp) rfl
/-- Where the first full stop is, and it is no name's: what is read has another text. -/
theorem noName_cut {a b : List UInt8} (ha : ∀ x ∈ a, x ≠ 46) (h : ¬ (a.length ≤ 2 ∧ b.length ≤ 13) ∨ nText (valF a) (valF b) ≠ a ++ (46 :: b)) : noName (a ++ (46 :: b)) := fun s q hm he => by
  obtain ⟨c, d, hc, hcd, h1, h2, h3, h4⟩ := text_cut hm
  obtain ⟨rfl, rfl⟩ := cut_unique (he.symm.trans hc) ha hcd
  rcases h with h | h
  · exact h ⟨h1, h2⟩
  · rw [h3, h4] at h
    exact h he
theorem name_cut {a b : List UInt8} (h : nText (valF a) (valF b) = a ++ (46 :: b)) : nMay (valF a) (valF b) = true := by
  cases hq : nMay (valF a) (valF b) with
  | true => rfl
  | false =>
    unfold nText at h
    rw [hq, if_neg (by decide)] at h
    simp at h
theorem text_inj {s q s' q' : Int} (h : nMay s q = true) (h' : nMay s' q' = true) (he : nText s q = nText s' q') : s = s' ∧ q = q' := by
  obtain ⟨a, b, e1, n1, _, _, v1, v2⟩ := text_cut h
  obtain ⟨c, d, e2, n2, _, _, v3, v4⟩ := text_cut h'
  obtain ⟨rfl, rfl⟩ := cut_unique (e1.symm.trans (he.trans e2)) n1 n2
  exact ⟨v1.symm.trans v3, v2.symm.trans v4⟩
end Go.Proofs.YthbophioohcphaaDoor
