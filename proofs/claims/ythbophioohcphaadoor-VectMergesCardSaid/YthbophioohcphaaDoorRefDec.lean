/- The document's numbers in decimal; a name's text. -/
import Derived.Test.YthbophioohcphaaDoorRefRaise
import Derived.Lib.ItoaNum
import Derived.Laws.IdiomStrings
import Derived.Lib.Strings
import Derived.Laws.BytesArg
import Derived.Lib.UnsafeStr
namespace Go.Proofs.YthbophioohcphaaDoor
open Go.RowKit

/-- What stands ahead of the last digit. -/
def decHd (m : Nat) : List UInt8 := if m = 0 then [] else Lib.decDigits m
theorem dec_step (m : Nat) : Lib.decDigits m = decHd (m / 10) ++ [UInt8.ofNat (48 + m % 10)] := by
  unfold decHd
  by_cases h : m < 10
  · rw [if_pos (by omega), Lib.decDigits_one h, Nat.mod_eq_of_lt h]
    rfl
  · rw [if_neg (by omega)]
    conv => lhs; rw [Lib.decDigits, dif_neg h]
theorem nDigits_le : ∀ (k n : Nat), n < 10 ^ (k + 1) → Lib.nDigits n ≤ k + 1
  | 0, n, h => by rw [Lib.nDigits_small (by simpa using h)]; exact Nat.le_refl _
  | k + 1, n, h => by
    by_cases g : n < 10
    · rw [Lib.nDigits_small g]; omega
    · rw [Lib.nDigits_big g]
      have := nDigits_le k (n / 10) (by rw [Nat.pow_succ] at h; omega)
      omega
theorem dec_length {n : Nat} (h : n < 10000000000000000) : (Lib.decDigits n).length ≤ 16 := by
  rw [Lib.decDigits_length]
  exact nDigits_le 15 n (by simpa using h)
/-- How far the digits came. -/
def DecAt (n m : Nat) (tl : List UInt8) : Prop := (tl = [] ∧ m = n) ∨ (tl ≠ [] ∧ Lib.decDigits n = decHd m ++ tl)
theorem DecAt.next {n m : Nat} {tl : List UInt8} (h : DecAt n m tl) (hg : 0 < m ∨ tl = []) : DecAt n (m / 10) (UInt8.ofNat (48 + m % 10) :: tl) := by
  refine .inr ⟨by simp, ?_⟩
  rcases h with ⟨rfl, rfl⟩ | ⟨h1, h2⟩
  · exact dec_step m
  · have hm : 0 < m := hg.resolve_right h1
    rw [h2, show decHd m = Lib.decDigits m by unfold decHd; rw [if_neg (by omega)], dec_step m, List.append_assoc]
    rfl
theorem DecAt.length {n m : Nat} {tl : List UInt8} (h : DecAt n m tl) (hn : n < 10000000000000000) : tl.length ≤ 16 := by
  rcases h with ⟨rfl, _⟩ | ⟨_, h2⟩
  · simp
  · have := dec_length hn
    rw [h2, List.length_append] at this
    omega
theorem DecAt.done {n : Nat} {tl : List UInt8} (h : DecAt n 0 tl) (ht : tl ≠ []) : tl = Lib.decDigits n := by
  rcases h with ⟨h1, _⟩ | ⟨_, h2⟩
  · exact absurd h1 ht
  · rw [h2]; rfl
theorem conv_dig (W : World) (d : Nat) (hd : d < 256) : (convert 62 9 (.slice (some ⟨W.heap.size, 0, none⟩) 1 1)).run Tryd.prog (W.alloc (.cells #[.int .u8 (d : Int)] 5)) = .ok (.string ⟨[UInt8.ofNat d].toArray⟩) (W.alloc (.cells #[.int .u8 (d : Int)] 5)) := by
  refine run_convert_bytes_back _ 62 9 5 _ _ [UInt8.ofNat d] Tryd.underlying62 Tryd.underlying5 Tryd.underlying9 ?_
  intro j hj
  have e : (⟨W.heap.size, 0, none⟩ : Addr).add j = ⟨W.heap.size, j, none⟩ := by simp [Addr.add]; omega
  rw [e, cell_of_row _ _ _ _ _ _ (heap_alloc_new W _)]
  match j, hj with
  | 0, _ => simp [Nat.mod_eq_of_lt hd]
theorem cat_lists (a b : List UInt8) : (⟨a.toArray⟩ : ByteArray) ++ ⟨b.toArray⟩ = ⟨(a ++ b).toArray⟩ := by
  apply ByteArray.ext
  simp
theorem size_list (a : List UInt8) : (⟨a.toArray⟩ : ByteArray).size = a.length := by rw [Lib.size_eq]
theorem empty_list (a : List UInt8) : (⟨a.toArray⟩ : ByteArray).toList.isEmpty = a.isEmpty := by rw [Lib.toList_data]
set_option maxRecDepth 100000 in
set_option maxHeartbeats 4000000 in
theorem rDec_any (n : Nat) (hn : n < 10000000000000000) (w : World) :
    Calls Tryd.prog 35 #[.int .i64 n] w fun e w' => e = .returned (.string ⟨(Lib.decDigits n).toArray⟩) ∧ Below w.heap.size w w' := by
  go_enter Tryd.func35, Tryd.ntmps35
  go_wp2
  go_loopw [0, 3] (fun v u wr => ∃ (m : Nat) (tl : List UInt8), v = .int .i64 m ∧ u = .string ⟨tl.toArray⟩ ∧ m ≤ n ∧ DecAt n m tl ∧ Below w.heap.size w wr) (fun v u _ => (intOf v).toNat + (match u with | .string t => if t.size = 0 then 1 else 0 | _ => 0))
  case atStart => exact ⟨n, [], rfl, rfl, Nat.le_refl _, .inl ⟨rfl, rfl⟩, Below.refl _ _⟩
  case round =>
    rename_i wr
    obtain ⟨m, tl, rfl, rfl, hm, hd, hb⟩ := hrel
    have hlen := hd.length hn
    have HD := Lib.hid hd
    have HB := Lib.hid hb
    clear hd hb
    have hNX := fun hg => HD.out.next hg
    obtain ⟨d, hd, hd8⟩ : ∃ d : Nat, 48 + m % 10 = d ∧ d < 256 := ⟨_, rfl, by omega⟩
    rw [hd] at hNX
    have hw8 : IntKind.u8.wrap (48 + (m : Int) % 10) = (d : Int) := by simp only [IntKind.wrap_u8]; omega
    have hc := conv_dig wr d hd8
    have hcat := cat_lists [UInt8.ofNat d] tl
    have hsz := size_list tl
    have hs1 := size_list [UInt8.ofNat d]
    have HNX := Lib.hid hNX
    have Hd := Lib.hid hd
    clear hNX hd
    obtain ⟨T, hT⟩ : ∃ T : ByteArray, T = ⟨tl.toArray⟩ := ⟨_, rfl⟩
    obtain ⟨U, hU⟩ : ∃ U : ByteArray, U = ⟨[UInt8.ofNat d].toArray⟩ := ⟨_, rfl⟩
    rw [← hT, ← hU] at hcat
    rw [← hT] at hsz ⊢
    rw [← hU] at hs1 hc
    have hs1' : U.size = 1 := hs1
    have hTs : T.size ≤ 16 := by omega
    have HC := Lib.hid hcat
    have HSZ := Lib.hid hsz
    have HTL := Lib.hid (show T.toList = tl by rw [hT, Lib.toList_data])
    have HT := Lib.hid hT
    have HE := Lib.hid (empty_list tl)
    rw [← hT] at HE
    clear hcat hsz hs1 hU hT
    have hsum : ¬ 9223372036854775807 < U.size + T.size := by omega
    have HB1 := Lib.hid (HB.out.alloc HB.out.size (.cells #[.int .u8 (d : Int)] 5))
    have HU : Hid ((U ++ T).size ≠ 0) := Lib.hid (by rw [ByteArray.size_append]; omega)
    have hUne : U ≠ ByteArray.empty := fun e => by rw [e] at hs1'; cases hs1'
    have HUne := Lib.hid hUne
    clear hUne
    by_cases hm0 : 0 < m
    · clear HE
      go_wp2
      refine ⟨⟨m / 10, UInt8.ofNat d :: tl, by congr 1, by rw [HC.out]; rfl, by omega, HNX.out (.inl hm0), HB1.out⟩, ?_⟩
      have hUne := HUne.out
      simp [intOf, hUne]
      omega
    · obtain rfl : m = 0 := by omega
      by_cases ht : tl = []
      · have hTe : T = ⟨#[]⟩ := by rw [HT.out, ht]
        subst hTe
        obtain rfl : 48 = d := Hd.out
        rw [show ((48 : Nat) : Int) = 48 from rfl] at hc HB1
        clear HE
        go_wp2
        refine ⟨⟨0, UInt8.ofNat 48 :: tl, rfl, by rw [HC.out]; rfl, by omega, HNX.out (.inr ht), HB1.out⟩, ?_⟩
        have hUne := HUne.out
        simp [intOf, hUne]
        rw [if_pos (show (⟨#[]⟩ : ByteArray) = ByteArray.empty from rfl)]
        exact Nat.one_pos
      · have hD := Lib.hid (HD.out.done ht)
        have he : T.toList.isEmpty = false := by rw [HE.out]; simpa using ht
        have he2 : ¬ T.toList = [] := by simpa using he
        clear HE ht
        go_wp2
        go_ret
        exact ⟨congrArg (fun x => Ending.returned (.string x)) (HT.out.trans (by rw [hD.out])), HB.out⟩
/-- A name's text. -/
def nText (s q : Int) : List UInt8 := if nMay s q then Lib.decDigits s.toNat ++ (46 :: Lib.decDigits q.toNat) else []
set_option maxRecDepth 100000 in
set_option maxHeartbeats 4000000 in
theorem rText_yes (s q : Nat) (hn : nMay s q = true) (w : World) :
    Calls Tryd.prog 15 #[nmV s q] w fun e w' => e = .returned (.string ⟨(nText s q).toArray⟩) ∧ Below w.heap.size w w' := by
  have hs := of_decide_eq_true hn
  have hM := fun W => rMayName_any s q W
  rw [hn] at hM
  have d1 := fun W => rDec_any s (by omega) W
  have d2 := fun W => rDec_any q (by omega) W
  have hT : (⟨(Lib.decDigits s).toArray⟩ : ByteArray) ++ ⟨#[46]⟩ ++ ⟨(Lib.decDigits q).toArray⟩ = ⟨(nText s q).toArray⟩ := by
    rw [show (⟨#[46]⟩ : ByteArray) = ⟨[46].toArray⟩ from rfl, cat_lists, cat_lists]
    unfold nText
    rw [if_pos hn]
    simp
  have l1 := dec_length (show s < 10000000000000000 by omega)
  have l2 := dec_length (show q < 10000000000000000 by omega)
  rw [← size_list] at l1 l2
  generalize (⟨(Lib.decDigits s).toArray⟩ : ByteArray) = A at *
  generalize (⟨(Lib.decDigits q).toArray⟩ : ByteArray) = B at *
  have HT := Lib.hid hT
  have hN := NBox.new s q w 23
  unfold nmV at hM ⊢
  have z1 : (⟨#[46]⟩ : ByteArray).size = 1 := rfl
  have b1 : ¬ 9223372036854775807 < A.size + 1 := by omega
  have b2 : ¬ 9223372036854775807 < A.size + 1 + B.size := by omega
  clear hT hn hs
  go_enter Tryd.func15, Tryd.ntmps15
  go_wp2_with fail
  refine (hM _).mono ?_
  clear hM
  rintro e w2 ⟨rfl, hb2⟩
  have hN2 := (hN.keep hb2).draws 1
  clear hN hb2
  go_wp2_with fail
  go_region_held (fun W => W.cell? ⟨w.heap.size, 0, none⟩ = some (.int .i64 s) ∧ W.cell? ⟨w.heap.size, 1, none⟩ = some (.int .i64 q) ∧ Below w.heap.size w W)
    (first | exact hN2 | assumption | exact NBox.keep (by assumption) hb)
    (first | (go_at_call 35; (first | (with_reducible refine (d1 _).mono ?_) | (with_reducible refine (d2 _).mono ?_)); rintro e w3 ⟨rfl, hb⟩))
  all_goals
    rename_i hHeld
    have hz := hHeld.2.2
    clear hHeld hN2
    go_wp2
    go_ret
    exact ⟨congrArg (fun x => Ending.returned (.string x)) HT.out, hz⟩
set_option maxRecDepth 100000 in
set_option maxHeartbeats 2000000 in
theorem rText_any (s q : Int) (w : World) :
    Calls Tryd.prog 15 #[nmV s q] w fun e w' => e = .returned (.string ⟨(nText s q).toArray⟩) ∧ Below w.heap.size w w' := by
  by_cases hn : nMay s q = true
  · have hs := of_decide_eq_true hn
    obtain ⟨a, rfl⟩ := Int.eq_ofNat_of_zero_le (show 0 ≤ s by omega)
    obtain ⟨b, rfl⟩ := Int.eq_ofNat_of_zero_le (show 0 ≤ q by omega)
    exact rText_yes a b hn w
  · have hM := fun W => rMayName_any s q W
    rw [show nMay s q = false by simpa using hn] at hM
    have HT := Lib.hid (show nText s q = [] by unfold nText; rw [if_neg hn])
    have hN := NBox.new s q w 23
    unfold nmV at hM ⊢
    clear hn
    go_enter Tryd.func15, Tryd.ntmps15
    go_wp2_with fail
    refine (hM _).mono ?_
    clear hM
    rintro e w2 ⟨rfl, hb2⟩
    have hz := (hN.keep hb2).2.2
    go_wp2
    go_ret
    exact ⟨congrArg (fun x : List UInt8 => Ending.returned (.string ⟨x.toArray⟩)) HT.out.symm, hz⟩
end Go.Proofs.YthbophioohcphaaDoor
