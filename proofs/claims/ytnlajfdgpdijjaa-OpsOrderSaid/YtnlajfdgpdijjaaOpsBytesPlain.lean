/- Texts of this proof, joined. -/
import Derived.Test.YtnlajfdgpdijjaaNumsPut
import Derived.Test.YtnlajfdgpdijjaaNumsText
import Derived.Test.YtnlajfdgpdijjaaOpsPlain

/- What was put is read again: Num, Int, Text where what stands next is right. -/
namespace Go.Proofs.Ytnlajfdgpdijjaa
open Go.RowKit Go.Shelf

theorem bytes_ext {a : ByteArray} {l : List UInt8} (h : a.data.toList = l) : a = ⟨l.toArray⟩ := by
  apply ByteArray.ext
  apply Array.toList_inj.1
  rw [h]
theorem extract_rest {s : ByteArray} {a r : List UInt8} (h : s.data.toList = a ++ r) : s.extract a.length s.size = ⟨r.toArray⟩ := by
  have hs := Lib.size_eq s
  rw [h, List.length_append] at hs
  apply bytes_ext
  rw [Lib.extract_data, h, List.drop_left, List.take_of_length_le (by omega)]
theorem extract_head {s : ByteArray} {a r : List UInt8} (h : s.data.toList = a ++ r) : s.extract 0 a.length = ⟨a.toArray⟩ := by
  apply bytes_ext
  rw [Lib.extract_data, h, List.drop_zero, Nat.sub_zero, List.take_left]

theorem num_ok (B : Nat) (s : ByteArray) (n most : Nat) (r : List UInt8) (hl : s.data.toList = Lib.uvarint n ++ r) (hn : n < 18446744073709551616) (hm : n ≤ most) (w : World) (h : Rd B s 0 w) (hs : s.size ≤ 1000000000) :
    Calls Try.prog 117 #[.pointer (some ⟨B, 0, none⟩), .int .u64 most] w fun e w' => e = .returned (.int .u64 n) ∧ Rd B ⟨r.toArray⟩ 0 w' ∧ Keep (fun k => k = B) w.heap.size w w' := by
  refine (num_any B s most w h hs).mono ?_
  have ht := takeL_put hn hm r
  rw [← hl] at ht
  rintro e w' (⟨c, hc, _⟩ | ⟨n', k, hk, rfl, hr, hp⟩)
  · rw [ht] at hc; cases hc
  · rw [ht] at hk
    cases hk
    rw [extract_rest hl] at hr
    exact ⟨rfl, hr, hp⟩
theorem text_ok (B : Nat) (s : ByteArray) (x r : List UInt8) (hl : s.data.toList = rowL x ++ r) (most : Int) (hm : (x.length : Int) ≤ most) (hm1 : most ≤ 9223372036854775807) (w : World) (h : Rd B s 0 w) (hs : s.size ≤ 1000000000) :
    Calls Try.prog 128 #[.pointer (some ⟨B, 0, none⟩), .int .i64 most] w fun e w' => e = .returned (.string ⟨x.toArray⟩) ∧ Rd B ⟨r.toArray⟩ 0 w' ∧ Keep (fun k => k = B) w.heap.size w w' := by
  obtain ⟨M, rfl⟩ := Int.eq_ofNat_of_zero_le (show 0 ≤ most by omega)
  refine (text_any B s M M (by omega) (by omega) w h hs).mono ?_
  unfold rowL at hl
  rw [List.append_assoc] at hl
  have hsz := Lib.size_eq s
  rw [hl, List.length_append, List.length_append] at hsz
  have ht := takeL_put (n := x.length) (most := M) (by omega) (by omega) (x ++ r)
  have htt : textL s.data.toList M = .ok (x.length, (Lib.uvarint x.length).length) := by
    unfold textL
    rw [hl, ht]
    simp only
    rw [if_neg (by rw [List.length_append, List.length_append]; omega)]
  rintro e w' (⟨c, hc, _⟩ | ⟨n', k, hk, rfl, hr, hp⟩)
  · rw [htt] at hc; cases hc
  · rw [htt] at hk
    cases hk
    rw [extract_rest hl] at hr ⊢
    rw [extract_rest (s := ⟨(x ++ r).toArray⟩) (a := x) (r := r) (by simp)] at hr
    rw [extract_head (s := ⟨(x ++ r).toArray⟩) (a := x) (r := r) (by simp)]
    exact ⟨rfl, hr, hp⟩
end Go.Proofs.Ytnlajfdgpdijjaa

/- Numbers and rows read of a list of bytes with a fault. Nothing of a program's own text. -/
namespace Go.Proofs.Ytnlajfdgpdijjaa
open Go.Lib (uvarint)

/-- A number is read: what is left with the fault, and the number. -/
def numS (r : List UInt8 × Int) (most : Nat) : (List UInt8 × Int) × Nat :=
  if r.2 = 0 then (match takeL r.1 most with | .error c => ((r.1, c), 0) | .ok (n, k) => ((r.1.drop k, 0), n)) else (r, 0)
/-- A row is read. -/
def textS (r : List UInt8 × Int) (most : Nat) : (List UInt8 × Int) × List UInt8 :=
  if r.2 = 0 then (match textL r.1 most with | .error c => ((r.1, c), []) | .ok (n, k) => (((r.1.drop k).drop n, 0), (r.1.drop k).take n)) else (r, [])
theorem textL_error {l : List UInt8} {most : Nat} {c : Int} (h : textL l most = .error c) : c = 8 ∨ c = 9 := by
  unfold textL at h
  split at h
  · rename_i h1; cases h; exact takeL_error h1
  · split at h
    · cases h; exact .inl rfl
    · cases h
theorem numS_put {n most : Nat} (h64 : n < 18446744073709551616) (hm : n ≤ most) (t : List UInt8) : numS (uvarint n ++ t, 0) most = ((t, 0), n) := by
  unfold numS
  rw [if_pos rfl, takeL_put h64 hm]
  simp
theorem numS_ok {r : List UInt8 × Int} {most n : Nat} {t : List UInt8} (h : numS r most = ((t, 0), n)) : r = (uvarint n ++ t, 0) ∧ n ≤ most ∧ n < 18446744073709551616 := by
  obtain ⟨l, f⟩ := r
  unfold numS at h
  by_cases hf : f = 0
  · subst hf
    rw [if_pos rfl] at h
    simp only at h
    split at h
    · rename_i c hc
      have := takeL_error hc
      simp only [Prod.mk.injEq] at h
      omega
    · rename_i a k hk
      simp only [Prod.mk.injEq, and_true] at h
      obtain ⟨h1, h2⟩ := h
      subst h1 h2
      obtain ⟨q1, q2, _, q4, _⟩ := takeL_ok hk
      refine ⟨?_, q1, q2⟩
      rw [← q4, List.take_append_drop]
  · rw [if_neg hf] at h
    simp only [Prod.mk.injEq] at h
    exact absurd h.1.2 hf
theorem textS_put {x : List UInt8} {most : Nat} (hx : x.length < 18446744073709551616) (hm : x.length ≤ most) (t : List UInt8) : textS (rowL x ++ t, 0) most = ((t, 0), x) := by
  have hq : textL (rowL x ++ t) most = .ok (x.length, (uvarint x.length).length) := by
    unfold textL rowL
    rw [List.append_assoc, takeL_put hx hm]
    simp only [List.length_append]
    rw [if_neg (by omega)]
  unfold textS
  rw [if_pos rfl, hq]
  unfold rowL
  simp only [List.append_assoc, List.drop_left, List.take_left]
theorem textS_ok {r : List UInt8 × Int} {most : Nat} {x t : List UInt8} (h : textS r most = ((t, 0), x)) : r = (rowL x ++ t, 0) ∧ x.length ≤ most := by
  obtain ⟨l, f⟩ := r
  unfold textS at h
  by_cases hf : f = 0
  · subst hf
    rw [if_pos rfl] at h
    simp only at h
    split at h
    · rename_i c hc
      have := textL_error hc
      simp only [Prod.mk.injEq] at h
      omega
    · rename_i n k hk
      simp only [Prod.mk.injEq, and_true] at h
      obtain ⟨h1, h2⟩ := h
      unfold textL at hk
      split at hk
      · cases hk
      · rename_i n' k' hk'
        split at hk
        · cases hk
        · rename_i hlen
          cases hk
          obtain ⟨q1, q2, q3, q4, _⟩ := takeL_ok hk'
          have hxl : x.length = n := by rw [← h2, List.length_take, List.length_drop]; omega
          refine ⟨?_, by omega⟩
          unfold rowL
          rw [hxl, ← q4, ← h1, ← h2, List.append_assoc, List.take_append_drop, List.take_append_drop]
  · rw [if_neg hf] at h
    simp only [Prod.mk.injEq] at h
    exact absurd h.1.2 hf

end Go.Proofs.Ytnlajfdgpdijjaa

/- Operations and edits as bytes: what is put, what is read, there and back. Nothing of a program's own text. -/
namespace Go.Proofs.Ytnlajfdgpdijjaa
open Go.Lib (uvarint)

def spanB (s : Sp) : List UInt8 := uvarint s.1.toNat ++ uvarint s.2.toNat
/-- An operation's bytes; an edit's. -/
def oPut (o : POp) : List UInt8 :=
  uvarint o.site.toNat ++ (uvarint o.seq.toNat ++ (uvarint o.num.toNat ++ (uvarint o.kind.toNat ++ (if o.kind = 1 then uvarint o.pl.toNat ++ rowL o.text else uvarint o.spans.length ++ o.spans.flatMap spanB))))
def ePut (e : PEdit) : List UInt8 :=
  uvarint e.site.toNat ++ (uvarint e.seq.toNat ++ (uvarint e.ctx.toNat ++ (uvarint e.kind.toNat ++ (uvarint e.pl.toNat ++ (if e.kind = 1 then rowL e.text else uvarint e.len.toNat)))))
/-- So many spans are read. -/
def spansS : Nat → (List UInt8 × Int) → (List UInt8 × Int) × List Sp
  | 0, r => (r, [])
  | k + 1, r =>
    if r.2 = 0 then
      ((spansS k (numS (numS r 20000).1 20000).1).1, (((numS r 20000).2 : Int), ((numS (numS r 20000).1 20000).2 : Int)) :: (spansS k (numS (numS r 20000).1 20000).1).2)
    else (r, [])
/-- An operation is read, whether it may be or not. -/
def oRead (r : List UInt8 × Int) : (List UInt8 × Int) × POp :=
  let a := numS r 16
  let b := numS a.1 1099511627776
  let c := numS b.1 1099511627776
  let d := numS c.1 2
  if d.2 = 1 then
    let e := numS d.1 20000
    let f := textS e.1 800
    (f.1, ⟨a.2, b.2, c.2, 1, e.2, f.2, []⟩)
  else if d.2 = 2 then
    let e := numS d.1 20000
    let f := spansS e.2 e.1
    (f.1, ⟨a.2, b.2, c.2, 2, 0, [], f.2⟩)
  else (d.1, ⟨a.2, b.2, c.2, d.2, 0, [], []⟩)
/-- Is there one? -/
def oIs (r : List UInt8 × Int) : Bool := decide ((oRead r).1.2 = 0) && oAny (oRead r).2
/-- An edit is read. -/
def eRead (r : List UInt8 × Int) : (List UInt8 × Int) × PEdit :=
  let a := numS r 16
  let b := numS a.1 1099511627776
  let c := numS b.1 1099511627776
  let d := numS c.1 2
  if d.2 = 1 then
    let e := numS d.1 20000
    let f := textS e.1 800
    (f.1, ⟨a.2, b.2, c.2, 1, e.2, 0, f.2⟩)
  else if d.2 = 2 then
    let e := numS d.1 20000
    let f := numS e.1 20000
    (f.1, ⟨a.2, b.2, c.2, 2, e.2, f.2, []⟩)
  else (d.1, ⟨a.2, b.2, c.2, d.2, 0, 0, []⟩)
def eIs (r : List UInt8 × Int) : Bool := decide ((eRead r).1.2 = 0) && eMay (eRead r).2
theorem spansS_put : ∀ (l : List Sp) (t : List UInt8), (∀ s ∈ l, 0 ≤ s.1 ∧ s.1 ≤ 20000 ∧ 0 ≤ s.2 ∧ s.2 ≤ 20000) → spansS l.length (l.flatMap spanB ++ t, 0) = ((t, 0), l)
  | [], t, _ => rfl
  | s :: l, t, h => by
    have hs := h s (List.mem_cons_self ..)
    have ih := spansS_put l t fun x hx => h x (List.mem_cons_of_mem _ hx)
    show spansS (l.length + 1) _ = _
    unfold spansS
    rw [List.flatMap_cons]
    unfold spanB
    rw [if_pos rfl, List.append_assoc, List.append_assoc, numS_put (n := s.1.toNat) (by omega) (by omega)]
    dsimp only
    rw [numS_put (n := s.2.toNat) (by omega) (by omega)]
    dsimp only
    rw [show (fun s : Sp => uvarint s.1.toNat ++ uvarint s.2.toNat) = spanB from rfl, ih]
    dsimp only
    rw [Int.toNat_of_nonneg hs.1, Int.toNat_of_nonneg hs.2.2.1]
theorem sGood_length {l : List Sp} (h : sGood l) : l.length ≤ 20000 := by
  rw [← sMade_self h]
  unfold sMade
  rw [List.length_reverse]
  exact sRun_length _ _
theorem oAny_parts {o : POp} (h : oAny o = true) : (1 ≤ o.site ∧ o.site ≤ 16) ∧ (1 ≤ o.seq ∧ o.seq ≤ 1099511627776) ∧ (0 ≤ o.num ∧ o.num ≤ 1099511627776) ∧
    ((o.kind = 1 ∧ 0 ≤ o.pl ∧ o.pl ≤ 20000 ∧ o.text.length ≤ 800 ∧ o.spans = []) ∨ (o.kind = 2 ∧ o.pl = 0 ∧ o.text = [] ∧ sGood o.spans)) := by
  have key : ∀ size, oMay o size = true → (0 ≤ size ∧ size ≤ 20000) ∧ (1 ≤ o.site ∧ o.site ≤ 16) ∧ (1 ≤ o.seq ∧ o.seq ≤ 1099511627776) ∧ (0 ≤ o.num ∧ o.num ≤ 1099511627776) ∧
      ((o.kind = 1 ∧ 0 ≤ o.pl ∧ o.pl ≤ size ∧ o.text.length ≤ 800 ∧ o.spans = []) ∨ (o.kind = 2 ∧ o.pl = 0 ∧ o.text = [] ∧ sGood o.spans)) := fun size hm => by
    unfold oMay nMay mayT at hm
    by_cases h1 : o.kind = 1
    · rw [if_pos h1] at hm
      simp only [Bool.and_eq_true, decide_eq_true_eq] at hm
      exact ⟨hm.1.1.1, ⟨hm.1.1.2.1, hm.1.1.2.2.1⟩, hm.1.1.2.2.2, hm.1.2, .inl ⟨h1, hm.2.1.1.1.1, hm.2.1.1.1.2, hm.2.1.1.2.1, hm.2.1.2⟩⟩
    · rw [if_neg h1] at hm
      simp only [Bool.and_eq_true, decide_eq_true_eq] at hm
      exact ⟨hm.1.1.1, ⟨hm.1.1.2.1, hm.1.1.2.2.1⟩, hm.1.1.2.2.2, hm.1.2, .inr ⟨hm.2.1.1.1.1, hm.2.1.1.1.2, hm.2.1.1.2, (sMay_good _).1 hm.2.1.2⟩⟩
  unfold oAny at h
  by_cases h1 : o.kind = 1
  · rw [if_pos h1] at h
    obtain ⟨k0, k1, k2, k3, k4⟩ := key _ h
    refine ⟨k1, k2, k3, ?_⟩
    rcases k4 with ⟨a, b, c, d, e⟩ | ⟨a, _⟩
    · exact .inl ⟨a, b, k0.2, d, e⟩
    · omega
  · rw [if_neg h1] at h
    obtain ⟨_, k1, k2, k3, k4⟩ := key _ h
    exact ⟨k1, k2, k3, k4⟩
/-- What is put is read again. -/
theorem oRead_put {o : POp} (h : oAny o = true) (t : List UInt8) : oRead (oPut o ++ t, 0) = ((t, 0), o) := by
  obtain ⟨h1, h2, h3, h4⟩ := oAny_parts h
  unfold oRead oPut
  simp only [List.append_assoc]
  rw [numS_put (n := o.site.toNat) (by omega) (by omega)]
  dsimp only
  rw [numS_put (n := o.seq.toNat) (by omega) (by omega)]
  dsimp only
  rw [numS_put (n := o.num.toNat) (by omega) (by omega)]
  dsimp only
  rw [numS_put (n := o.kind.toNat) (by omega) (by omega)]
  dsimp only
  obtain ⟨site, seq, num, kind, pl, text, spans⟩ := o
  dsimp only at *
  rcases h4 with ⟨rfl, p1, p2, p3, rfl⟩ | ⟨rfl, rfl, rfl, p1⟩
  · rw [if_pos (by decide), if_pos rfl, List.append_assoc, numS_put (n := pl.toNat) (by omega) (by omega)]
    dsimp only
    rw [textS_put (by omega) p3]
    dsimp only
    rw [Int.toNat_of_nonneg (by omega), Int.toNat_of_nonneg (by omega), Int.toNat_of_nonneg (by omega), Int.toNat_of_nonneg p1]
  · have hl := sGood_length p1
    rw [if_neg (by decide), if_pos (by decide), if_neg (by decide), List.append_assoc, numS_put (n := spans.length) (by omega) (by omega)]
    dsimp only
    rw [spansS_put spans t fun s hs => by have := p1.1 s hs; omega]
    dsimp only
    rw [Int.toNat_of_nonneg (by omega), Int.toNat_of_nonneg (by omega), Int.toNat_of_nonneg (by omega)]
theorem eMay_parts {e : PEdit} (h : eMay e = true) : (1 ≤ e.site ∧ e.site ≤ 16) ∧ (1 ≤ e.seq ∧ e.seq ≤ 1099511627776) ∧ (0 ≤ e.ctx ∧ e.ctx ≤ 1099511627776) ∧ (0 ≤ e.pl ∧ e.pl ≤ 20000) ∧
    ((e.kind = 1 ∧ e.len = 0 ∧ e.text.length ≤ 800) ∨ (e.kind = 2 ∧ 1 ≤ e.len ∧ e.len ≤ 20000 ∧ e.text = [])) := by
  unfold eMay nMay mayT at h
  by_cases h1 : e.kind = 1
  · rw [if_pos h1] at h
    simp only [Bool.and_eq_true, decide_eq_true_eq] at h
    exact ⟨⟨h.1.1.1.1, h.1.1.1.2.1⟩, h.1.1.1.2.2, h.1.1.2, h.1.2, .inl ⟨h1, h.2.1, h.2.2.1⟩⟩
  · rw [if_neg h1] at h
    simp only [Bool.and_eq_true, decide_eq_true_eq] at h
    exact ⟨⟨h.1.1.1.1, h.1.1.1.2.1⟩, h.1.1.1.2.2, h.1.1.2, h.1.2, .inr ⟨h.2.1.1, h.2.1.2.1, h.2.1.2.2, h.2.2⟩⟩
theorem eRead_put {e : PEdit} (h : eMay e = true) (t : List UInt8) : eRead (ePut e ++ t, 0) = ((t, 0), e) := by
  obtain ⟨h1, h2, h3, h4, h5⟩ := eMay_parts h
  unfold eRead ePut
  simp only [List.append_assoc]
  rw [numS_put (n := e.site.toNat) (by omega) (by omega)]
  dsimp only
  rw [numS_put (n := e.seq.toNat) (by omega) (by omega)]
  dsimp only
  rw [numS_put (n := e.ctx.toNat) (by omega) (by omega)]
  dsimp only
  rw [numS_put (n := e.kind.toNat) (by omega) (by omega)]
  dsimp only
  obtain ⟨site, seq, ctx, kind, pl, len, text⟩ := e
  dsimp only at *
  rcases h5 with ⟨rfl, rfl, p1⟩ | ⟨rfl, p1, p2, rfl⟩
  · rw [if_pos (by decide), if_pos rfl, numS_put (n := pl.toNat) (by omega) (by omega)]
    dsimp only
    rw [textS_put (by omega) p1]
    dsimp only
    rw [Int.toNat_of_nonneg (by omega), Int.toNat_of_nonneg (by omega), Int.toNat_of_nonneg (by omega), Int.toNat_of_nonneg (by omega)]
  · rw [if_neg (by decide), if_pos (by decide), if_neg (by decide), numS_put (n := pl.toNat) (by omega) (by omega)]
    dsimp only
    rw [numS_put (n := len.toNat) (by omega) (by omega)]
    dsimp only
    rw [Int.toNat_of_nonneg (by omega), Int.toNat_of_nonneg (by omega), Int.toNat_of_nonneg (by omega), Int.toNat_of_nonneg (by omega), Int.toNat_of_nonneg (by omega)]
theorem oIs_put {o : POp} (h : oAny o = true) (t : List UInt8) : oIs (oPut o ++ t, 0) = true := by
  unfold oIs
  rw [oRead_put h]
  simp [h]
theorem eIs_put {e : PEdit} (h : eMay e = true) (t : List UInt8) : eIs (ePut e ++ t, 0) = true := by
  unfold eIs
  rw [eRead_put h]
  simp [h]
end Go.Proofs.Ytnlajfdgpdijjaa
