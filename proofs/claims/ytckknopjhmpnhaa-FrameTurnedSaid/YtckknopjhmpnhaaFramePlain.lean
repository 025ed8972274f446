/- Frames as lists of bytes: what may be, its bytes, what is read. Nothing of a program's own text. -/
import Derived.Test.YtckknopjhmpnhaaNumsText
import Derived.Test.YtckknopjhmpnhaaNumsOk
import Derived.Test.YtckknopjhmpnhaaCrcPut
namespace Go.Proofs.Ytckknopjhmpnhaa
open Go.Lib (uvarint)

/-- A number is read: what is left with the fault, and the number. -/
def numS (r : List UInt8 × Int) (most : Nat) : (List UInt8 × Int) × Nat :=
  if r.2 = 0 then (match takeL r.1 most with | .error c => ((r.1, c), 0) | .ok (n, k) => ((r.1.drop k, 0), n)) else (r, 0)
/-- A row is read. -/
def textS (r : List UInt8 × Int) (most : Nat) : (List UInt8 × Int) × List UInt8 :=
  if r.2 = 0 then (match textL r.1 most with | .error c => ((r.1, c), []) | .ok (n, k) => (((r.1.drop k).drop n, 0), (r.1.drop k).take n)) else (r, [])
theorem textL_error {l : List UInt8} {most : Nat} {c : Int} (h : textL l most = .error c) : c = 8 ∨ c = 9 := by
  unfold textL at h
  split at h
  · rename_i h1; cases h; exact takeL_error h1
  · split at h
    · cases h; exact .inl rfl
    · cases h
theorem numS_put {n most : Nat} (h64 : n < 18446744073709551616) (hm : n ≤ most) (t : List UInt8) : numS (uvarint n ++ t, 0) most = ((t, 0), n) := by
  unfold numS
  rw [if_pos rfl, takeL_put h64 hm]
  simp
theorem numS_ok {r : List UInt8 × Int} {most n : Nat} {t : List UInt8} (h : numS r most = ((t, 0), n)) : r = (uvarint n ++ t, 0) ∧ n ≤ most ∧ n < 18446744073709551616 := by
  obtain ⟨l, f⟩ := r
  unfold numS at h
  by_cases hf : f = 0
  · subst hf
    rw [if_pos rfl] at h
    simp only at h
    split at h
    · rename_i c hc
      have := takeL_error hc
      simp only [Prod.mk.injEq] at h
      omega
    · rename_i a k hk
      simp only [Prod.mk.injEq, and_true] at h
      obtain ⟨h1, h2⟩ := h
      subst h1 h2
      obtain ⟨q1, q2, _, q4, _⟩ := takeL_ok hk
      refine ⟨?_, q1, q2⟩
      rw [← q4, List.take_append_drop]
  · rw [if_neg hf] at h
    simp only [Prod.mk.injEq] at h
    exact absurd h.1.2 hf
theorem textS_put {x : List UInt8} {most : Nat} (hx : x.length < 18446744073709551616) (hm : x.length ≤ most) (t : List UInt8) : textS (rowL x ++ t, 0) most = ((t, 0), x) := by
  have hq : textL (rowL x ++ t) most = .ok (x.length, (uvarint x.length).length) := by
    unfold textL rowL
    rw [List.append_assoc, takeL_put hx hm]
    simp only [List.length_append]
    rw [if_neg (by omega)]
  unfold textS
  rw [if_pos rfl, hq]
  unfold rowL
  simp only [List.append_assoc, List.drop_left, List.take_left]
theorem textS_ok {r : List UInt8 × Int} {most : Nat} {x t : List UInt8} (h : textS r most = ((t, 0), x)) : r = (rowL x ++ t, 0) ∧ x.length ≤ most := by
  obtain ⟨l, f⟩ := r
  unfold textS at h
  by_cases hf : f = 0
  · subst hf
    rw [if_pos rfl] at h
    simp only at h
    split at h
    · rename_i c hc
      have := textL_error hc
      simp only [Prod.mk.injEq] at h
      omega
    · rename_i n k hk
      simp only [Prod.mk.injEq, and_true] at h
      obtain ⟨h1, h2⟩ := h
      unfold textL at hk
      split at hk
      · cases hk
      · rename_i n' k' hk'
        split at hk
        · cases hk
        · rename_i hlen
          cases hk
          obtain ⟨q1, q2, q3, q4, _⟩ := takeL_ok hk'
          have hxl : x.length = n := by rw [← h2, List.length_take, List.length_drop]; omega
          refine ⟨?_, by omega⟩
          unfold rowL
          rw [hxl, ← q4, ← h1, ← h2, List.append_assoc, List.take_append_drop, List.take_append_drop]
  · rw [if_neg hf] at h
    simp only [Prod.mk.injEq] at h
    exact absurd h.1.2 hf

/-- A frame that may be, or not. -/
structure Fr where
  kind : Nat
  site : Nat
  seq : Nat
  ack : Nat
  body : List UInt8
/-- May it be? -/
def frMay (f : Fr) : Prop := (1 ≤ f.site ∧ f.site ≤ 16 ∧ f.ack ≤ 1099511627776) ∧ ((f.kind = 1 ∧ 1 ≤ f.seq ∧ f.seq ≤ 1099511627776 ∧ f.body.length ≤ 1048576) ∨ (f.kind = 2 ∧ f.seq = 0 ∧ f.body = []))
instance (f : Fr) : Decidable (frMay f) := by unfold frMay; infer_instance
/-- The bytes of a sum. -/
def sumB (l : List UInt8) : List UInt8 := putL (Crc.sum (l.map (·.toNat)))
theorem sumB_length (l : List UInt8) : (sumB l).length = 4 := rfl
/-- A frame's bytes ahead of its sum. -/
def frHead (f : Fr) : List UInt8 :=
  [70, 83, f.kind.toUInt8] ++ uvarint f.site ++ (if f.kind = 1 then uvarint f.seq ++ uvarint f.ack ++ rowL f.body else uvarint f.ack)
/-- Its bytes. -/
def frPut (f : Fr) : List UInt8 := frHead f ++ sumB (frHead f)
/-- What stands behind the kind is read: what is left with the fault, and the fields. -/
def frRead (one : Bool) (l : List UInt8) : (List UInt8 × Int) × Nat × Nat × Nat × List UInt8 :=
  let a := numS (l, 0) 16
  let b := if one then numS a.1 1099511627776 else (a.1, 0)
  let c := numS b.1 1099511627776
  let d := if one then textS c.1 1048576 else (c.1, [])
  (d.1, a.2, b.2, c.2, d.2)
/-- The frame of bytes, or the first error. -/
def frGet (l : List UInt8) : Except Int Fr :=
  if l.length < 3 then .error 8
  else if l.getD 0 0 ≠ 70 ∨ l.getD 1 0 ≠ 83 ∨ (l.getD 2 0 ≠ 1 ∧ l.getD 2 0 ≠ 2) then .error 9
  else
    let r := frRead (l.getD 2 0 == 1) (l.drop 3)
    if r.1.2 ≠ 0 then .error r.1.2
    else if r.1.1.length < 4 then .error 8
    else if 4 < r.1.1.length then .error 11
    else if sumB (l.take (l.length - 4)) ≠ r.1.1 then .error 10
    else if frMay ⟨(l.getD 2 0).toNat, r.2.1, r.2.2.1, r.2.2.2.1, r.2.2.2.2⟩ then .ok ⟨(l.getD 2 0).toNat, r.2.1, r.2.2.1, r.2.2.2.1, r.2.2.2.2⟩
    else .error 9

theorem frRead_put (f : Fr) (h : frMay f) (t : List UInt8) : frRead (f.kind.toUInt8 == 1) ((frHead f).drop 3 ++ t) = ((t, 0), f.site, f.seq, f.ack, f.body) := by
  obtain ⟨⟨h1, h2, h3⟩, h4⟩ := h
  have hd : ∀ x y : List UInt8, ([70, 83, f.kind.toUInt8] ++ x ++ y).drop 3 = x ++ y := fun x y => by simp
  unfold frHead
  rw [hd]
  rcases h4 with ⟨k, q1, q2, q3⟩ | ⟨k, q1, q2⟩
  · rw [if_pos k, k]
    unfold frRead
    simp only [List.append_assoc]
    rw [numS_put (by omega) h2]
    simp only [show ((1 : Nat).toUInt8 == 1) = true from rfl, if_true]
    rw [numS_put (by omega) q2]
    simp only
    rw [numS_put (by omega) h3]
    simp only
    rw [textS_put (by omega) q3]
  · rw [if_neg (by omega), k]
    unfold frRead
    simp only [List.append_assoc]
    rw [numS_put (by omega) h2]
    simp only [show ((2 : Nat).toUInt8 == 1) = false from rfl, Bool.false_eq_true, if_false]
    rw [numS_put (by omega) h3, q1, q2]

theorem frHead_three (f : Fr) : ∃ x, frHead f = 70 :: 83 :: f.kind.toUInt8 :: x ∧ (frHead f).drop 3 = x := ⟨_, rfl, rfl⟩
/-- WHAT IS PUT IS GOT AGAIN, ALONE. -/
theorem frGet_put (f : Fr) (h : frMay f) (t : List UInt8) : frGet (frPut f ++ t) = if t = [] then .ok f else .error 11 := by
  obtain ⟨x, hx, hx3⟩ := frHead_three f
  have hr := frRead_put f h (sumB (frHead f) ++ t)
  rw [hx3] at hr
  have hs := sumB_length (frHead f)
  have hkk : f.kind = 1 ∨ f.kind = 2 := by rcases h.2 with g | g <;> simp [g.1]
  have hl : frPut f ++ t = 70 :: 83 :: f.kind.toUInt8 :: (x ++ (sumB (frHead f) ++ t)) := by
    unfold frPut
    conv => lhs; rw [List.append_assoc]; arg 1; rw [hx]
    rfl
  have hlen : (frPut f ++ t).length = (frHead f).length + (4 + t.length) := by unfold frPut; simp only [List.length_append, hs]; omega
  have hlx : (frHead f).length = x.length + 3 := by rw [hx]; rfl
  have hkn : f.kind.toUInt8.toNat = f.kind := by rcases hkk with g | g <;> rw [g] <;> rfl
  have hg : ¬ ((frPut f ++ t).getD 0 0 ≠ 70 ∨ (frPut f ++ t).getD 1 0 ≠ 83 ∨ ((frPut f ++ t).getD 2 0 ≠ 1 ∧ (frPut f ++ t).getD 2 0 ≠ 2)) := by
    rw [hl]
    rintro (q | q | ⟨q1, q2⟩)
    · exact q rfl
    · exact q rfl
    · rcases hkk with g | g
      · exact q1 (by rw [g]; rfl)
      · exact q2 (by rw [g]; rfl)
  have h2 : (frPut f ++ t).getD 2 0 = f.kind.toUInt8 := by rw [hl]; rfl
  have hdr : (frPut f ++ t).drop 3 = x ++ (sumB (frHead f) ++ t) := by rw [hl]; rfl
  unfold frGet
  rw [if_neg (by rw [hlen]; omega), if_neg hg]
  simp only [h2, hdr, hr]
  rw [if_neg (by decide), if_neg (by simp [hs])]
  by_cases ht : t = []
  · subst ht
    rw [if_neg (by simp [hs]), if_pos rfl]
    have htk : (frPut f ++ []).take ((frPut f ++ []).length - 4) = frHead f := by
      rw [hlen, List.append_nil]
      unfold frPut
      rw [show (frHead f).length + (4 + ([] : List UInt8).length) - 4 = (frHead f).length by simp, List.take_left]
    rw [htk, if_neg (by simp), hkn, if_pos (show frMay ⟨f.kind, f.site, f.seq, f.ack, f.body⟩ from h)]
  · rw [if_neg ht, if_pos]
    rw [List.length_append, hs]
    have : 0 < t.length := List.length_pos_iff.2 ht
    omega

theorem three_split {l : List UInt8} (h : 3 ≤ l.length) (h0 : l.getD 0 0 = 70) (h1 : l.getD 1 0 = 83) : l = 70 :: 83 :: l.getD 2 0 :: l.drop 3 := by
  match l, h with
  | a :: b :: c :: r, _ =>
    simp only [List.getD_cons_zero, List.getD_cons_succ] at h0 h1
    subst h0 h1
    rfl
theorem frRead_ok {one : Bool} {l t : List UInt8} {site seq ack : Nat} {body : List UInt8} (h : frRead one l = ((t, 0), site, seq, ack, body)) :
    l = uvarint site ++ ((if one then uvarint seq ++ (uvarint ack ++ rowL body) else uvarint ack) ++ t) ∧ (one = false → seq = 0 ∧ body = []) := by
  unfold frRead at h
  cases one
  · simp only [Bool.false_eq_true, if_false, Prod.mk.injEq] at h
    obtain ⟨h1, h2, h3, h4, h5⟩ := h
    have e2 : numS (numS (l, 0) 16).1 1099511627776 = ((t, 0), ack) := by rw [← h4, ← h1]
    obtain ⟨q1, _, _⟩ := numS_ok e2
    have e1 : numS (l, 0) 16 = ((uvarint ack ++ t, 0), site) := by rw [← h2, ← q1]
    obtain ⟨q2, _, _⟩ := numS_ok e1
    refine ⟨?_, fun _ => ⟨h3.symm, h5.symm⟩⟩
    simpa using q2
  · simp only [if_true, Prod.mk.injEq] at h
    obtain ⟨h1, h2, h3, h4, h5⟩ := h
    have e4 : textS (numS (numS (numS (l, 0) 16).1 1099511627776).1 1099511627776).1 1048576 = ((t, 0), body) := by rw [← h5, ← h1]
    obtain ⟨q1, _⟩ := textS_ok e4
    have e3 : numS (numS (numS (l, 0) 16).1 1099511627776).1 1099511627776 = ((rowL body ++ t, 0), ack) := by rw [← h4, ← q1]
    obtain ⟨q2, _, _⟩ := numS_ok e3
    have e2 : numS (numS (l, 0) 16).1 1099511627776 = ((uvarint ack ++ (rowL body ++ t), 0), seq) := by rw [← h3, ← q2]
    obtain ⟨q3, _, _⟩ := numS_ok e2
    have e1 : numS (l, 0) 16 = ((uvarint seq ++ (uvarint ack ++ (rowL body ++ t)), 0), site) := by rw [← h2, ← q3]
    obtain ⟨q4, _, _⟩ := numS_ok e1
    refine ⟨?_, fun hq => by cases hq⟩
    simp only [if_true, List.append_assoc]
    simpa using q4
/-- NOTHING ELSE IS GOT AS IT. -/
theorem frGet_ok {l : List UInt8} {f : Fr} (h : frGet l = .ok f) : frMay f ∧ l = frPut f := by
  unfold frGet at h
  split at h
  · cases h
  rename_i h1
  split at h
  · cases h
  rename_i h2
  simp only at h
  split at h
  · cases h
  rename_i h3
  split at h
  · cases h
  rename_i h4
  split at h
  · cases h
  rename_i h5
  split at h
  · cases h
  rename_i h6
  split at h
  · rename_i h7
    have hfe := Except.ok.inj h
    obtain ⟨t, ht⟩ : ∃ t, t = (frRead (l.getD 2 0 == 1) (l.drop 3)).1.1 := ⟨_, rfl⟩
    have h3' : (frRead (l.getD 2 0 == 1) (l.drop 3)).1.2 = 0 := Decidable.not_not.1 h3
    have h6' := Decidable.not_not.1 h6
    rw [← ht] at h4 h5 h6'
    have hsp := three_split (l := l) (by omega) (Decidable.byContradiction fun q => h2 (.inl q)) (Decidable.byContradiction fun q => h2 (.inr (.inl q)))
    have hk : l.getD 2 0 = 1 ∨ l.getD 2 0 = 2 := by
      by_cases q : l.getD 2 0 = 1
      · exact .inl q
      · exact .inr (Decidable.byContradiction fun q2 => h2 (.inr (.inr ⟨q, q2⟩)))
    have hr : frRead (l.getD 2 0 == 1) (l.drop 3) = ((t, 0), f.site, f.seq, f.ack, f.body) := by
      rw [← hfe, ht, ← h3']
    obtain ⟨hd, hone⟩ := frRead_ok hr
    have hfk : f.kind = (l.getD 2 0).toNat := by rw [← hfe]
    rw [hfe] at h7
    refine ⟨h7, ?_⟩
    have hhead : l = frHead f ++ t := by
      rw [hsp, hd]
      unfold frHead
      rcases hk with g | g
      · have e : f.kind = 1 := by rw [hfk, g]; rfl
        rw [g, e]
        simp
      · have e : f.kind = 2 := by rw [hfk, g]; rfl
        rw [g, e]
        simp [show ((2 : UInt8) == 1) = false from rfl]
    have ht4 : t.length = 4 := by omega
    have htk : l.take (l.length - 4) = frHead f := by
      rw [hhead, List.length_append, ht4, Nat.add_sub_cancel, List.take_left]
    rw [htk] at h6'
    rw [hhead, ← h6']
    rfl
  · cases h
/-- A part of a frame's bytes that isn't all of them is no frame. -/
theorem frGet_part {f : Fr} (h : frMay f) {a b : List UInt8} (hs : frPut f = a ++ b) (hb : b ≠ []) : ∀ g, frGet a ≠ .ok g := fun g hg => by
  obtain ⟨h1, h2⟩ := frGet_ok hg
  have h3 := frGet_put g h1 b
  rw [← h2, ← hs, if_neg hb] at h3
  have h4 := frGet_put f h []
  rw [List.append_nil, h3] at h4
  cases h4
end Go.Proofs.Ytckknopjhmpnhaa
