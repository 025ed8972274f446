/- CrcTurned: the law's walk. -/
import Derived.Test.YtniffodbpkcdpaaLawCrcAround
import Derived.Test.YtniffodbpkcdpaaCrcEq4
import Derived.StillTailTactics
namespace Go.Proofs.Ytniffodbpkcdpaa
open Go.RowKit

/-- A text of which the k bytes from a place on are made one with others. -/
def turnL (l : List UInt8) (at_ : Nat) (xs : Nat → UInt8) : Nat → List UInt8
  | 0 => l
  | k + 1 => (turnL l at_ xs k).set (at_ + k) ((turnL l at_ xs k)[at_ + k]?.getD 0 ^^^ xs k)
theorem turnL_length (l : List UInt8) (at_ : Nat) (xs : Nat → UInt8) : ∀ k, (turnL l at_ xs k).length = l.length
  | 0 => rfl
  | k + 1 => by unfold turnL; rw [List.length_set, turnL_length]
theorem four_split (l : List UInt8) (n : Nat) (h : n + 4 ≤ l.length) : ∃ p a b c d q, l = p ++ (a :: b :: c :: d :: q) ∧ p.length = n := by
  refine ⟨l.take n, l[n], l[n + 1], l[n + 2], l[n + 3], l.drop (n + 4), ?_, by rw [List.length_take]; omega⟩
  rw [← List.drop_eq_getElem_cons (by omega), ← List.drop_eq_getElem_cons (by omega), ← List.drop_eq_getElem_cons (by omega), ← List.drop_eq_getElem_cons (by omega), List.take_append_drop]
theorem turn_four (p q : List UInt8) (a b c d : UInt8) (xs : Nat → UInt8) :
    turnL (p ++ (a :: b :: c :: d :: q)) p.length xs 4 = p ++ ((a ^^^ xs 0) :: (b ^^^ xs 1) :: (c ^^^ xs 2) :: (d ^^^ xs 3) :: q) := by
  simp [turnL]
theorem turned_plain (l : List UInt8) (n : Nat) (xs : Nat → UInt8) (h : n + 4 ≤ l.length) :
    Crc.sum ((turnL l n xs 4).map (·.toNat)) = Crc.sum (l.map (·.toNat)) ↔ (xs 0).toNat = 0 ∧ (xs 1).toNat = 0 ∧ (xs 2).toNat = 0 ∧ (xs 3).toNat = 0 := by
  obtain ⟨p, a, b, c, d, q, rfl, rfl⟩ := four_split l n h
  rw [turn_four, sum_eq_run]
  have ht := Crc.turned (p.map (·.toNat)) (q.map (·.toNat)) a.toNat b.toNat c.toNat d.toNat (xs 0).toNat (xs 1).toNat (xs 2).toNat (xs 3).toNat Crc.ones a.toNat_lt b.toNat_lt c.toNat_lt d.toNat_lt (xs 0).toNat_lt (xs 1).toNat_lt (xs 2).toNat_lt (xs 3).toNat_lt
  rw [← ht]
  simp only [List.map_append, List.map_cons, UInt8.toNat_xor, List.append_assoc, List.cons_append, List.nil_append]
  exact eq_comm

/-- The bytes l lie in block B, and may be written. -/
def BRow (w : World) (B : Nat) (l : List UInt8) : Prop := ∀ j (h : j < l.length), w.cell? ⟨B, j, none⟩ = some (.int .u8 (l[j].toNat : Nat)) ∧ w.frozen? ⟨B, j, none⟩ = false
theorem BRow.set {w : World} {B : Nat} {l : List UInt8} (h : BRow w B l) (i : Nat) (v : UInt8) : BRow (w.setCell ⟨B, i, none⟩ (.int .u8 (v.toNat : Nat))) B (l.set i v) := fun j hj => by
  rw [List.length_set] at hj
  obtain ⟨h1, h2⟩ := h j hj
  refine ⟨?_, by rw [World.frozen?_setCell]; exact h2⟩
  by_cases e : i = j
  · subst e
    rw [World.cell?_setCell_same _ _ _ h1]
    simp
  · rw [World.cell?_setCell_other _ _ _ _ (by intro he; cases he; exact e rfl), h1]
    simp [e]
theorem BRow.drew {w : World} {B : Nat} {l : List UInt8} (h : BRow w B l) : BRow w.drew B l := h
theorem bytes_row (w : World) (s : ByteArray) (cap : Nat) (t : TypeId) : BRow (w.alloc (.cells (bytesRow s cap) t ((bytesRow s cap).size, (bytesRow s cap).size + 1))) w.heap.size s.data.toList := fun j hj => by
  have hj' : j < s.data.size := by simpa using hj
  refine ⟨?_, ?_⟩
  · rw [World.cell?_alloc_mark, bytesRow_at s cap j hj']
    simp
  · rw [World.frozen?_alloc_mark]
    have : ¬ (bytesRow s cap).size ≤ j := by
      have : s.data.size ≤ (bytesRow s cap).size := by simp [bytesRow]
      omega
    simp [this]
/-- The four bytes that a text is made one with. -/
def four (x0 x1 x2 x3 : UInt8) : Nat → UInt8
  | 0 => x0
  | 1 => x1
  | 2 => x2
  | _ => x3
theorem xor8 (a b : UInt8) : bits BinOp.xor IntKind.u8 (a.toNat : Int) (b.toNat : Int) = ((a ^^^ b).toNat : Nat) := by
  rw [UInt8.toNat_xor]; exact u8_xor_nat _ _ a.toNat_lt b.toNat_lt

theorem turnedB {u v n0 n1 n2 n3 : Nat} (h : u = v ↔ n0 = 0 ∧ n1 = 0 ∧ n2 = 0 ∧ n3 = 0) : ∃ c : Bool, ((u : Int) == (v : Int)) = c ∧ ((n0 : Int) == 0 && (n1 : Int) == 0 && (n2 : Int) == 0 && (n3 : Int) == 0) = c := by
  by_cases e : u = v
  · obtain ⟨h0, h1, h2, h3⟩ := h.1 e
    exact ⟨true, by simp [e], by simp [h0, h1, h2, h3]⟩
  · refine ⟨false, beq_eq_false_iff_ne.2 (by omega), ?_⟩
    cases hq : ((n0 : Int) == 0 && (n1 : Int) == 0 && (n2 : Int) == 0 && (n3 : Int) == 0) with
    | false => rfl
    | true =>
      simp only [Bool.and_eq_true, beq_iff_eq] at hq
      exact absurd (h.2 ⟨by omega, by omega, by omega, by omega⟩) e
theorem keepTurned {B : Nat} {x0 x1 x2 x3 : Value} {w W W' : World} (h : W.cell? ⟨B, 0, none⟩ = some x0 ∧ W.cell? ⟨B, 1, none⟩ = some x1 ∧ W.cell? ⟨B, 2, none⟩ = some x2 ∧ W.cell? ⟨B, 3, none⟩ = some x3 ∧ Below B w W) (hb : Below W.heap.size W W') :
    W'.cell? ⟨B, 0, none⟩ = some x0 ∧ W'.cell? ⟨B, 1, none⟩ = some x1 ∧ W'.cell? ⟨B, 2, none⟩ = some x2 ∧ W'.cell? ⟨B, 3, none⟩ = some x3 ∧ Below B w W' := by
  have hl : B < W.heap.size := World.block_lt_of_cell? W _ h.1
  obtain ⟨h0, h1, h2, h3, h4⟩ := h
  exact ⟨(hb.cell (p := ⟨B, 0, none⟩) hl).trans h0, (hb.cell (p := ⟨B, 1, none⟩) hl).trans h1, (hb.cell (p := ⟨B, 2, none⟩) hl).trans h2, (hb.cell (p := ⟨B, 3, none⟩) hl).trans h3, h4.trans (hb.mono (Nat.le_of_lt hl))⟩

set_option maxRecDepth 100000 in
set_option maxHeartbeats 4000000 in
theorem lawCrcTurned_any (s : ByteArray) (n : Int) (x0 x1 x2 x3 : UInt8) (w : World) (hs : s.size ≤ maxLen) (hn0 : -9223372036854775808 ≤ n) (hn1 : n ≤ 9223372036854775807) :
    Calls Try.prog 7 #[.string s, .int .i64 n, .agg #[.int .u8 x0.toNat, .int .u8 x1.toNat, .int .u8 x2.toNat, .int .u8 x3.toNat]] w fun e W' => e = .returned (.bool true) ∧ Below w.heap.size w W' := by
  have hA := calive_any (w.alloc (.cells #[.int .u8 x0.toNat, .int .u8 x1.toNat, .int .u8 x2.toNat, .int .u8 x3.toNat] 35))
  have hB0 : Below w.heap.size w (w.alloc (.cells #[.int .u8 x0.toNat, .int .u8 x1.toNat, .int .u8 x2.toNat, .int .u8 x3.toNat] 35)) := (Below.refl _ w).alloc (Nat.le_refl _) _
  have hC0 : ∀ i v, #[Value.int .u8 x0.toNat, .int .u8 x1.toNat, .int .u8 x2.toNat, .int .u8 x3.toNat][i]? = some v → (w.alloc (.cells #[.int .u8 x0.toNat, .int .u8 x1.toNat, .int .u8 x2.toNat, .int .u8 x3.toNat] 35)).cell? ⟨w.heap.size, i, none⟩ = some v := fun i v h => by
    rw [World.cell?_alloc_at _ _ _ _ rfl]; exact h
  have HC0 := Lib.hid hC0
  clear hC0
  unfold maxLen at hs
  by_cases h1 : 2000 < s.size
  · go_enter Try.func7, Try.ntmps7
    go_wp2_with fail
    refine hA.mono ?_
    clear hA
    rintro e w1 ⟨rfl, hb1⟩
    have hbw := hB0.trans (hb1.mono hB0.size)
    go_wp2
    go_ret
    exact ⟨rfl, hbw⟩
  · by_cases h2 : n < 0
    · go_enter Try.func7, Try.ntmps7
      go_wp2_with fail
      refine hA.mono ?_
      clear hA
      rintro e w1 ⟨rfl, hb1⟩
      have hbw := hB0.trans (hb1.mono hB0.size)
      go_wp2
      go_ret
      exact ⟨rfl, hbw⟩
    · by_cases h3 : (s.size : Int) - 4 < n
      · go_enter Try.func7, Try.ntmps7
        go_wp2_with fail
        refine hA.mono ?_
        clear hA
        rintro e w1 ⟨rfl, hb1⟩
        have hbw := hB0.trans (hb1.mono hB0.size)
        go_wp2
        go_ret
        exact ⟨rfl, hbw⟩
      · obtain ⟨m, rfl⟩ := Int.eq_ofNat_of_zero_le (show 0 ≤ n by omega)
        go_enter Try.func7, Try.ntmps7
        go_wp2_with fail
        refine hA.mono ?_
        clear hA
        rintro e w1 ⟨rfl, hb1⟩
        have hbw := hB0.trans (hb1.mono hB0.size)
        have hcv := fun W => run_bytes_of_string (P := Try.prog) W 9 33 5 s Try.underlying9 Try.underlying33 Try.underlying5
        have hcv1 := hcv w1
        have hrow := bytes_row w1.drew s (grownCap w1 s.size 0 5) 5
        have hwlt : w.heap.size < w1.heap.size := by have := hb1.size; simp at this; omega
        have hby : ∀ i, i < 4 → w1.cell? ⟨w.heap.size, i, none⟩ = some (.int .u8 ((four x0 x1 x2 x3 i).toNat : Nat)) := fun i hi => by
          rw [hb1.cell (p := ⟨w.heap.size, i, none⟩) (by simp)]
          apply HC0.out
          match i, hi with
          | 0, _ => rfl
          | 1, _ => rfl
          | 2, _ => rfl
          | 3, _ => rfl
        have hby2 : ∀ i, i < 4 → (w1.drew.alloc (.cells (bytesRow s (grownCap w1 s.size 0 5)) 5 ((bytesRow s (grownCap w1 s.size 0 5)).size, (bytesRow s (grownCap w1 s.size 0 5)).size + 1))).cell? ⟨w.heap.size, i, none⟩ = some (.int .u8 ((four x0 x1 x2 x3 i).toNat : Nat)) := fun i hi => by
          rw [World.cell?_alloc_lt _ _ _ hwlt]; exact hby i hi
        have hbw2 : Below w.heap.size w (w1.drew.alloc (.cells (bytesRow s (grownCap w1 s.size 0 5)) 5 ((bytesRow s (grownCap w1 s.size 0 5)).size, (bytesRow s (grownCap w1 s.size 0 5)).size + 1))) := hbw.drew.alloc hbw.size _
        have Hsplit := Lib.hid (turned_plain s.data.toList m (four x0 x1 x2 x3) (by rw [← Lib.size_eq]; omega))
        have hl := Lib.size_eq s
        clear hcv hby hb1 hB0 HC0 hbw
        generalize grownCap w1 s.size 0 5 = cap at *
        generalize w1.drew.alloc (.cells (bytesRow s cap) 5 ((bytesRow s cap).size, (bytesRow s cap).size + 1)) = w2 at *
        have hB : (w1.drew).heap.size = w1.heap.size := rfl
        rw [hB] at hrow
        clear hB
        have Hrow := Lib.hid hrow
        have Hby2 := Lib.hid hby2
        have Hl := Lib.hid hl
        clear hrow hby2 hl
        go_wp2
        clear hcv1
        go_loopw [8] (fun i wr => ∃ k : Nat, k ≤ 4 ∧ i = .int .i64 k ∧ BRow wr w1.heap.size (turnL s.data.toList m (four x0 x1 x2 x3) k) ∧ (∀ i, i < 4 → wr.cell? ⟨w.heap.size, i, none⟩ = some (.int .u8 ((four x0 x1 x2 x3 i).toNat : Nat))) ∧ Below w.heap.size w wr) (fun i _ => 4 - (intOf i).toNat)
        case atStart => exact ⟨0, by omega, rfl, Hrow.out, Hby2.out, hbw2⟩
        case round =>
          rename_i wr
          obtain ⟨k, hk, rfl, hr, hby, hbr⟩ := hrel
          by_cases hlt : k < 4
          · have hle := turnL_length s.data.toList m (four x0 x1 x2 x3) k
            have hi : m + k < (turnL s.data.toList m (four x0 x1 x2 x3) k).length := by rw [hle, ← Hl.out]; omega
            obtain ⟨hc, hf⟩ := hr (m + k) hi
            have hcb := hby k hlt
            have hst := hr.set (m + k) ((turnL s.data.toList m (four x0 x1 x2 x3) k)[m + k] ^^^ four x0 x1 x2 x3 k)
            have htn : turnL s.data.toList m (four x0 x1 x2 x3) (k + 1) = (turnL s.data.toList m (four x0 x1 x2 x3) k).set (m + k) ((turnL s.data.toList m (four x0 x1 x2 x3) k)[m + k] ^^^ four x0 x1 x2 x3 k) := by
              rw [turnL, List.getElem?_eq_getElem hi]; rfl
            rw [← htn] at hst
            have Hst := Lib.hid hst
            have Hbb := Lib.hid hby
            have hx := xor8 ((turnL s.data.toList m (four x0 x1 x2 x3) k)[m + k]) (four x0 x1 x2 x3 k)
            generalize (turnL s.data.toList m (four x0 x1 x2 x3) k)[m + k] ^^^ four x0 x1 x2 x3 k = z at *
            generalize (turnL s.data.toList m (four x0 x1 x2 x3) k)[m + k] = y at *
            generalize four x0 x1 x2 x3 k = z2 at *
            have hik : (m : Int) + (k : Int) < (s.size : Int) := by omega
            have hi0 : (0 : Int) ≤ (m : Int) + (k : Int) := by omega
            have hin : ((m : Int) + (k : Int)).toNat = m + k := by omega
            have hwp : IntKind.i64.wrap ((m : Int) + (k : Int)) = (m : Int) + (k : Int) := IntWalk.i64_in _ (by omega)
            clear htn hst hby hle hr hi
            go_wp2
            go_still_tail 15, (by kernel_rfl)
            change wpList _ _ _ _ _ wr.drew
            go_wp2
            exact ⟨⟨k + 1, by omega, by congr 1, Hst.out, fun i hi => by rw [World.cell?_drew, World.cell?_setCell_other _ _ _ _ (by intro he; have := congrArg Addr.block he; simp at this; omega)]; exact Hbb.out i hi, (hbr.setCell (by show w.heap.size ≤ w1.heap.size; omega) _).drew⟩, by simp [intOf]; omega⟩
          · obtain rfl : k = 4 := by omega
            have hle := turnL_length s.data.toList m (four x0 x1 x2 x3) 4
            have hsp := Hsplit.out
            have hsn : Crc.sum (byteL s) = Crc.sum (s.data.toList.map (·.toNat)) := rfl
            generalize hT : turnL s.data.toList m (four x0 x1 x2 x3) 4 = T at *
            have hTn : T.length = s.size := by rw [hle, ← Hl.out]
            have c1 := fun w => csum_any ⟨T.toArray⟩ (by rw [Lib.size_eq]; unfold maxLen; simp; omega) w
            have c2 := fun w => csum_any s (by unfold maxLen; omega) w
            have hTs : Crc.sum (byteL ⟨T.toArray⟩) = Crc.sum (T.map (·.toNat)) := rfl
            rw [hTs] at c1
            rw [hsn] at c2
            clear hsn hTs
            generalize Crc.sum (T.map (·.toNat)) = u at *
            generalize Crc.sum (s.data.toList.map (·.toNat)) = v at *
            have hcv : ∀ W, BRow W w1.heap.size T → (convert 33 9 (.slice (some ⟨w1.heap.size, 0, none⟩) s.size cap)).run Try.prog W = .ok (.string ⟨T.toArray⟩) W := fun W hW => by
              rw [← hTn]
              refine run_convert_bytes_back (P := Try.prog) W 33 9 5 ⟨w1.heap.size, 0, none⟩ cap T Try.underlying33 Try.underlying5 Try.underlying9 fun j hj => ?_
              have e : (⟨w1.heap.size, 0, none⟩ : Addr).add j = ⟨w1.heap.size, j, none⟩ := by simp [Addr.add]; omega
              rw [e]
              exact (hW j hj).1
            have hcv1 := hcv wr.drew hr
            have b0 := hby 0 (by decide)
            have b1 := hby 1 (by decide)
            have b2 := hby 2 (by decide)
            have b3 := hby 3 (by decide)
            simp only [four] at b0 b1 b2 b3 hsp
            obtain ⟨c, hc1, hc2⟩ := turnedB hsp
            have hq := fun w => eq_four (x0.toNat : Int) (x1.toNat : Int) (x2.toNat : Int) (x3.toNat : Int) w
            rw [hc2] at hq
            clear hsp hc2
            clear hcv hby hr hT hle hTn Hsplit Hrow Hby2 hbw2
            go_wp2
            go_region_held (fun W => W.cell? ⟨w.heap.size, 0, none⟩ = some (.int .u8 (x0.toNat : Nat)) ∧ W.cell? ⟨w.heap.size, 1, none⟩ = some (.int .u8 (x1.toNat : Nat)) ∧ W.cell? ⟨w.heap.size, 2, none⟩ = some (.int .u8 (x2.toNat : Nat)) ∧ W.cell? ⟨w.heap.size, 3, none⟩ = some (.int .u8 (x3.toNat : Nat)) ∧ Below w.heap.size w W) (first | exact ⟨b0, b1, b2, b3, hbr.drew⟩ | assumption | exact keepTurned (by assumption) hb) (first | (go_at_call 10; (first | (with_reducible refine (c1 _).mono ?_) | (with_reducible refine (c2 _).mono ?_)); rintro e w2 ⟨rfl, hb⟩))
            rename_i hHeld
            have hB' := hHeld.2.2.2.2
            clear hHeld
            go_wp2
            go_ret
            exact ⟨by first | rfl | (cases c <;> rfl), hB'⟩
end Go.Proofs.Ytniffodbpkcdpaa
