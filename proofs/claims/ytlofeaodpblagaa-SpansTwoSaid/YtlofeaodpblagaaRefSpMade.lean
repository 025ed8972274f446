/- The document's spans: what is made of marks. -/
import Derived.Test.YtlofeaodpblagaaRefSpMarks
import Derived.Laws.OwnMore
import Derived.OwnWalk
import Derived.WalkSmall
namespace Go.Proofs.Ytlofeaodpblagaa
open Go.RowKit

theorem infoSpan : (Try.prog.info? 42).map (fun i => (i.zero, i.size, i.bytes)) = some (some (.agg #[.int .i64 0, .int .i64 0]), 2, 16) := by kernel_rfl
theorem sMade_skip {f : Nat → Bool} {k : Nat} (hf : f k = false) : sMade f (k + 1) = sMade f k := by unfold sMade; rw [sRun_skip f k hf]
theorem sMade_new {f : Nat → Bool} {k : Nat} (hf : f k = true) (h : 0 < k → f (k - 1) = false) : sMade f (k + 1) = sMade f k ++ [((k : Int), 1)] := by
  rcases sRun_next f k hf with ⟨h0, h1, _⟩ | ⟨_, e⟩
  · rw [h h0] at h1; cases h1
  · unfold sMade
    rw [e, List.reverse_cons]
theorem sMade_grow {f : Nat → Bool} {k : Nat} (hf : f k = true) (h0 : 0 < k) (h : f (k - 1) = true) : ∃ (r : List Sp) (s : Sp), sMade f k = r ++ [s] ∧ sMade f (k + 1) = r ++ [(s.1, s.2 + 1)] ∧ s.1 + s.2 ≤ (k : Int) ∧ 0 ≤ s.1 ∧ 1 ≤ s.2 := by
  rcases sRun_next f k hf with ⟨_, _, s, r, e1, e2⟩ | ⟨g, _⟩
  · have := (sRun_stk f k).1 s (by rw [e1]; exact List.mem_cons_self ..)
    refine ⟨r.reverse, s, ?_, ?_, this.2.2, this.2.1, this.1⟩ <;> unfold sMade
    · rw [e1, List.reverse_cons]
    · rw [e2, List.reverse_cons]
  · rw [g h0] at h; cases h
theorem sMade_length (f : Nat → Bool) (k : Nat) : (sMade f k).length ≤ k := by unfold sMade; rw [List.length_reverse]; exact sRun_length f k
theorem spCells_bump (r : List Sp) (s : Sp) (x : Int) : (spCells (r ++ [s])).set (r.length * 2 + 1) (.int .i64 x) = spCells (r ++ [(s.1, x)]) := by
  rw [spCells_append, spCells_append]
  have hl := spCells_length r
  rw [List.set_append_right _ _ (by omega), hl, show r.length * 2 + 1 - r.length * 2 = 1 by omega]
  rfl
theorem ownsRow_form {W : World} {base : Nat} {e : TypeId} {size : Nat} {v : Value} {n : Nat} {xs : List Value} (h : W.ownsRow base e size v n xs) (hn : 0 < n) : ∃ g cap, v = .slice (some ⟨g, 0, none⟩) n cap ∧ base ≤ g ∧ g < W.heap.size := by
  rcases h.2 with ⟨_, h0⟩ | ⟨g, cap, cur, hv, hb, hg, _⟩
  · omega
  · exact ⟨g, cap, hv, hb, (Array.getElem?_eq_some_iff.1 hg).1⟩
def SpPost (l : List Sp) (w : World) (e : Ending) (w' : World) : Prop := ∃ v, e = .returned v ∧ SpAt w' v l ∧ Below w.heap.size w w'
set_option maxRecDepth 100000 in
set_option maxHeartbeats 4000000 in
theorem rSpMade_any (mv : Value) (n : Nat) (f : Nat → Bool) (w : World) (h : BAt w mv n f) (hn : n ≤ 20000) :
    Calls Try.prog 34 #[mv] w (SpPost (sMade f n) w) := by
  obtain ⟨i0, hi, hz0, hz1, hz2⟩ := info_parts infoSpan
  have HR := Lib.hid h
  obtain ⟨ao, cap, rfl, _⟩ := h
  go_enter Try.func34, Try.ntmps34
  go_wp2
  go_loopw [3, 4] (fun v i wr => ∃ k : Nat, i = .int .i64 k ∧ k ≤ n ∧ wr.ownsRow w.heap.size 42 2 v (sMade f k).length (spCells (sMade f k)) ∧ Below w.heap.size w wr) (fun _ i _ => n - (intOf i).toNat)
  case atStart => exact ⟨0, rfl, Nat.zero_le _, World.ownsRow_nil _ _ _ _, Below.refl _ _⟩
  case round =>
    rename_i wr
    obtain ⟨k, rfl, hk, hown, hb⟩ := hrel
    have Hown := Lib.hid hown
    have Hb := Lib.hid hb
    clear hown hb
    rcases Nat.lt_or_ge k n with hlt | hge
    · obtain ⟨b, off, cap', hv, hc⟩ := (HR.out.below Hb.out).at hlt
      cases hv
      have hi0 : (0 : Int) ≤ (k : Int) ∧ (k : Int) < (n : Int) := ⟨by omega, by omega⟩
      cases hf : f k with
      | false =>
        rw [hf] at hc
        have hN := Hown.out
        rw [← sMade_skip hf] at hN
        have HN := Lib.hid hN
        clear hN hf
        go_wp2
        exact ⟨⟨k + 1, by go_num, by omega, HN.out, Hb.out⟩, by simp [intOf]; omega⟩
      | true =>
        rw [hf] at hc
        by_cases hg : 0 < k ∧ f (k - 1) = true
        · obtain ⟨h0, h1⟩ := hg
          obtain ⟨r, s, e1, e2, q1, q2, q3⟩ := sMade_grow hf h0 h1
          obtain ⟨j, rfl⟩ : ∃ j, k = j + 1 := ⟨k - 1, by omega⟩
          obtain ⟨_, _, _, hv2, hc2⟩ := (HR.out.below Hb.out).at (i := j) (by omega)
          cases hv2
          rw [show f j = true by simpa using h1] at hc2
          have hown := Hown.out
          rw [e1, List.length_append, List.length_singleton] at hown
          obtain ⟨g, cap2, hvv, hgb, hgl⟩ := ownsRow_form hown (by omega)
          subst hvv
          have hcell := hown.cellAt (r.length * 2 + 1) (by omega)
          rw [(spCells_at (r ++ [s]) r.length (by simp)).2, show ((r ++ [s]).getD r.length (0, 0)) = s by simp [List.getD]] at hcell
          have hfro := hown.frozenAt (r.length * 2 + 1)
          have hst := (hown.stored (r.length * 2 + 1) (.int .i64 (s.2 + 1))).1
          rw [spCells_bump, ← e2] at hst
          have hlen : (sMade f (j + 1 + 1)).length = r.length + 1 := by rw [e2]; simp
          have HST := Lib.hid hst
          have HLEN := Lib.hid hlen
          have HBW := Lib.hid (Hb.out.setCell (p := ⟨g, r.length * 2 + 1, none⟩) hgb (.int .i64 (s.2 + 1)))
          obtain ⟨S, hS⟩ : ∃ S, s.2 = S := ⟨_, rfl⟩
          rw [hS] at hcell HST HBW q1 q3
          have hw : IntKind.i64.wrap (S + 1) = S + 1 := by simp only [IntKind.wrap_i64]; omega
          have hrl : r.length + 1 ≤ 20000 := by have := sMade_length f (j + 1); rw [e1] at this; simp at this; omega
          obtain ⟨R, hR⟩ : ∃ R, r.length = R := ⟨_, rfl⟩
          rw [hR] at hcell hfro hrl HST HBW HLEN ⊢
          clear hst hlen hown e1 e2 hS hR hf h1 q1 q2 q3 Hown
          have hj0 : (0 : Int) < ((j + 1 : Nat) : Int) := by omega
          have hj1 : (((j + 1 : Nat) : Int) - 1).toNat = j := by omega
          have hj2 : (0 : Int) ≤ ((j + 1 : Nat) : Int) - 1 ∧ ((j + 1 : Nat) : Int) - 1 < (n : Int) := ⟨by omega, by omega⟩
          have hl1 : (((R + 1 : Nat) : Int) - 1).toNat = R := by omega
          have hl2 : (0 : Int) ≤ ((R + 1 : Nat) : Int) - 1 ∧ ((R + 1 : Nat) : Int) - 1 < ((R + 1 : Nat) : Int) := ⟨by omega, by omega⟩
          go_wp2
          exact ⟨⟨j + 1 + 1, by go_num, by omega, by rw [HLEN.out]; exact HST.out, HBW.out⟩, by simp [intOf]; omega⟩
        · have e2 := sMade_new hf (fun h0 => by
            cases hz : f (k - 1) with
            | false => rfl
            | true => exact absurd ⟨h0, hz⟩ hg)
          have hlen : (sMade f (k + 1)).length = (sMade f k).length + 1 := by rw [e2]; simp
          have HCE := Lib.hid (show spCells (sMade f (k + 1)) = spCells (sMade f k) ++ [.int .i64 (k : Int), .int .i64 1] by rw [e2, spCells_append]; rfl)
          have HLEN := Lib.hid hlen
          have hll := sMade_length f k
          obtain ⟨L, hL⟩ : ∃ L, (sMade f k).length = L := ⟨_, rfl⟩
          have hown := Hown.out
          rw [hL] at hll hown HLEN
          have Hown := Lib.hid hown
          clear e2 hlen hown hL
          have happ : ∀ (W : World) (v' : Value), W.ownsRow w.heap.size 42 2 v' (L + 1) (spCells (sMade f k) ++ [.int .i64 (k : Int), .int .i64 1]) → W.ownsRow w.heap.size 42 2 v' (sMade f (k + 1)).length (spCells (sMade f (k + 1))) := fun W v' q => by rw [HLEN.out, HCE.out]; exact q
          have Happ := Lib.hid happ
          clear happ
          have hgrd : ¬ 0 < k ∨ (0 < k ∧ wr.cell? ⟨b, off + (k - 1), none⟩ = some (.bool false)) := by
            rcases Nat.eq_zero_or_pos k with h0 | h0
            · exact .inl (by omega)
            · obtain ⟨_, _, _, hv2, hc2⟩ := (HR.out.below Hb.out).at (i := k - 1) (by omega)
              cases hv2
              refine .inr ⟨h0, ?_⟩
              rw [hc2]
              cases hz : f (k - 1) with
              | false => rfl
              | true => exact absurd ⟨h0, hz⟩ hg
          clear hg hf
          rcases hgrd with h0 | ⟨h0, hc2⟩
          · go_wp2_with (at_builtin; refine wpList_append_own _ rfl _ _ 22 rfl w.heap.size 42 i0 (.agg #[.int .i64 0, .int .i64 0]) 2 16 Try.underlying22 hi hz0 hz1 hz2 rfl (by decide) _ _ _ rfl (Hown.out.alloc _) ⟨wr.heap.size, 0, none⟩ 1 1 [.int .i64 (k : Int), .int .i64 1] rfl rfl ?c1 ?c2 ?c3 ?c4 ?c5 ?_)
            case c1 =>
              intro j u hj
              match j, hj with
              | 0, hj => simp at hj; subst hj; simp [Addr.add]
              | 1, hj => simp at hj; subst hj; simp [Addr.add]
            case c2 => intro u hu; simp at hu; rcases hu with rfl | rfl <;> rfl
            case c3 => unfold maxLen; omega
            case c4 => omega
            case c5 => have := Hb.out.size; simp; omega
            intro v' w2 hown' hgrow _
            have HN := Lib.hid (Happ.out w2 v' hown')
            have HBN := Lib.hid ((Hb.out.alloc Hb.out.size _).grown hgrow (by have := Hb.out.size; simp; omega) (fun g hg => (Hown.out.lt g hg).1))
            clear hown' hgrow
            go_wp2
            exact ⟨⟨k + 1, by go_num, by omega, HN.out, HBN.out⟩, by simp [intOf]; omega⟩
          · have hj1 : ((k : Int) - 1).toNat = k - 1 := by omega
            have hj2 : (0 : Int) ≤ (k : Int) - 1 ∧ (k : Int) - 1 < (n : Int) := ⟨by omega, by omega⟩
            go_wp2_with (at_builtin; refine wpList_append_own _ rfl _ _ 22 rfl w.heap.size 42 i0 (.agg #[.int .i64 0, .int .i64 0]) 2 16 Try.underlying22 hi hz0 hz1 hz2 rfl (by decide) _ _ _ rfl (Hown.out.alloc _) ⟨wr.heap.size, 0, none⟩ 1 1 [.int .i64 (k : Int), .int .i64 1] rfl rfl ?c1 ?c2 ?c3 ?c4 ?c5 ?_)
            case c1 =>
              intro j u hj
              match j, hj with
              | 0, hj => simp at hj; subst hj; simp [Addr.add]
              | 1, hj => simp at hj; subst hj; simp [Addr.add]
            case c2 => intro u hu; simp at hu; rcases hu with rfl | rfl <;> rfl
            case c3 => unfold maxLen; omega
            case c4 => omega
            case c5 => have := Hb.out.size; simp; omega
            intro v' w2 hown' hgrow _
            have HN := Lib.hid (Happ.out w2 v' hown')
            have HBN := Lib.hid ((Hb.out.alloc Hb.out.size _).grown hgrow (by have := Hb.out.size; simp; omega) (fun g hg => (Hown.out.lt g hg).1))
            clear hown' hgrow
            go_wp2
            exact ⟨⟨k + 1, by go_num, by omega, HN.out, HBN.out⟩, by simp [intOf]; omega⟩
    · obtain rfl : k = n := by omega
      have HP := Lib.hid (SpAt.of_own Hown.out)
      clear Hown
      go_wp2
      go_ret
      exact ⟨_, rfl, HP.out, Hb.out⟩
end Go.Proofs.Ytlofeaodpblagaa
