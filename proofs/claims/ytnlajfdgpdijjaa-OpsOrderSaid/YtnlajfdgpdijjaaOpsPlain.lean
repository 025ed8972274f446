/- Operations and edits as values: what may be, what is added, which one is before. Nothing of a program's own text. -/
import Derived.Test.YtnlajfdgpdijjaaSpansPlain
import Derived.Test.YtnlajfdgpdijjaaVectPlain
import Derived.Test.YtnlajfdgpdijjaaPlain
namespace Go.Proofs.Ytnlajfdgpdijjaa

/-- An operation. -/
structure POp where
  site : Int
  seq : Int
  num : Int
  kind : Int
  pl : Int
  text : List UInt8
  spans : List Sp
/-- An edit. -/
structure PEdit where
  site : Int
  seq : Int
  ctx : Int
  kind : Int
  pl : Int
  len : Int
  text : List UInt8
/-- How many runes a text has; -1: it is none. -/
def lenT (l : List UInt8) : Int := match runesL l with | some rs => (rs.length : Int) | none => -1
theorem lenT_ge (l : List UInt8) : -1 ≤ lenT l := by
  unfold lenT
  split <;> omega
theorem lenT_le (l : List UInt8) : lenT l ≤ l.length := by
  unfold lenT
  split
  · rename_i rs h
    have := runes_le h
    omega
  · omega
/-- May a text be inserted? -/
def mayT (l : List UInt8) : Bool := decide (l.length ≤ 800) && decide (1 ≤ lenT l ∧ lenT l ≤ 200)
/-- May an operation be, upon a size? Upon any? -/
def oMay (o : POp) (size : Int) : Bool :=
  decide (0 ≤ size ∧ size ≤ 20000) && nMay o.site o.seq && decide (0 ≤ o.num ∧ o.num ≤ 1099511627776) &&
    (if o.kind = 1 then decide (0 ≤ o.pl ∧ o.pl ≤ size) && mayT o.text && decide (o.spans = []) && decide (size + lenT o.text ≤ 20000)
      else decide (o.kind = 2) && decide (o.pl = 0) && decide (o.text = []) && sMay o.spans && o.spans.all fun s => decide (s.1 + s.2 ≤ size))
def oAny (o : POp) : Bool := if o.kind = 1 then oMay o o.pl else oMay o 20000
def oAdds (o : POp) : Int := if o.kind = 1 then (if lenT o.text < 0 then 0 else lenT o.text) else 0
/-- May an edit be? -/
def eMay (e : PEdit) : Bool :=
  nMay e.site e.seq && decide (0 ≤ e.ctx ∧ e.ctx ≤ 1099511627776) && decide (0 ≤ e.pl ∧ e.pl ≤ 20000) &&
    (if e.kind = 1 then decide (e.len = 0) && mayT e.text else decide (e.kind = 2) && decide (1 ≤ e.len ∧ e.len ≤ 20000) && decide (e.text = []))
/-- Is one before the other one, by numbers and names? -/
def bef (n1 s1 q1 n2 s2 q2 : Int) : Bool := if n1 = n2 then nLess s1 q1 s2 q2 else if n1 = 0 then false else decide (n2 = 0 ∨ n1 < n2)
def oBef (a b : POp) : Bool := bef a.num a.site a.seq b.num b.site b.seq
theorem nLess_iff (s q s' q' : Int) : nLess s q s' q' = true ↔ s < s' ∨ (s = s' ∧ q < q') := decide_eq_true_iff
theorem bef_iff (n1 s1 q1 n2 s2 q2 : Int) : bef n1 s1 q1 n2 s2 q2 = true ↔ (n1 = n2 ∧ (s1 < s2 ∨ (s1 = s2 ∧ q1 < q2))) ∨ (n1 ≠ n2 ∧ n1 ≠ 0 ∧ (n2 = 0 ∨ n1 < n2)) := by
  unfold bef
  by_cases h : n1 = n2
  · rw [if_pos h, nLess_iff]
    constructor
    · intro q; exact .inl ⟨h, q⟩
    · rintro (⟨_, q⟩ | ⟨q, _⟩)
      · exact q
      · exact absurd h q
  · rw [if_neg h]
    by_cases h0 : n1 = 0
    · rw [if_pos h0]
      constructor
      · intro q; cases q
      · rintro (⟨q, _⟩ | ⟨_, q, _⟩)
        · exact absurd q h
        · exact absurd h0 q
    · rw [if_neg h0, decide_eq_true_iff]
      constructor
      · intro q; exact .inr ⟨h, h0, q⟩
      · rintro (⟨q, _⟩ | ⟨_, _, q⟩)
        · exact absurd q h
        · exact q
theorem bef_self (n s q : Int) : bef n s q n s q = false := by
  cases h : bef n s q n s q with
  | false => rfl
  | true =>
    have := (bef_iff _ _ _ _ _ _).1 h
    omega
theorem bef_both {n1 s1 q1 n2 s2 q2 : Int} (h : bef n1 s1 q1 n2 s2 q2 = true) : bef n2 s2 q2 n1 s1 q1 = false := by
  cases h' : bef n2 s2 q2 n1 s1 q1 with
  | false => rfl
  | true =>
    have := (bef_iff _ _ _ _ _ _).1 h
    have := (bef_iff _ _ _ _ _ _).1 h'
    omega
theorem bef_one {n1 s1 q1 n2 s2 q2 : Int} (h : bef n1 s1 q1 n2 s2 q2 = false) (h' : bef n2 s2 q2 n1 s1 q1 = false) : n1 = n2 ∧ s1 = s2 ∧ q1 = q2 := by
  have g : ¬ _ := fun q => Bool.false_ne_true (h.symm.trans ((bef_iff n1 s1 q1 n2 s2 q2).2 q))
  have g' : ¬ _ := fun q => Bool.false_ne_true (h'.symm.trans ((bef_iff n2 s2 q2 n1 s1 q1).2 q))
  omega
theorem bef_trans {n1 s1 q1 n2 s2 q2 n3 s3 q3 : Int} (h2 : 0 ≤ n2) (h3 : 0 ≤ n3) (h : bef n1 s1 q1 n2 s2 q2 = true) (h' : bef n2 s2 q2 n3 s3 q3 = true) : bef n1 s1 q1 n3 s3 q3 = true := by
  have g := (bef_iff _ _ _ _ _ _).1 h
  have g' := (bef_iff _ _ _ _ _ _).1 h'
  rw [bef_iff]
  omega
end Go.Proofs.Ytnlajfdgpdijjaa
