/- Are lists more than statements look at? -/
import Derived.Test.YthbophioohcphaaDoorRefLeast
namespace Go.Proofs.YthbophioohcphaaDoor
open Go.RowKit

/-- A slice of slices of ints, as far as its lengths go. -/
def Lens (W : World) (v : Value) (n : Nat) (ls : Nat → Nat) : Prop :=
  ∃ ao cap, v = .slice ao n cap ∧ (0 < n → ∃ b off, ao = some ⟨b, off, none⟩ ∧ ∀ i, i < n → ∃ a c, W.cell? ⟨b, off + i, none⟩ = some (.slice a (ls i) c))
theorem RowsAt.lens {W : World} {v : Value} {vs : Nat → Value} {xss : List (List Int)} (h : RowsAt W v vs xss) : Lens W v xss.length fun i => (xss.getD i []).length := by
  obtain ⟨ao, cap, hv, h1, h2⟩ := h
  refine ⟨ao, cap, hv, fun h0 => ?_⟩
  obtain ⟨b, off, ha, hc⟩ := h1 h0
  refine ⟨b, off, ha, fun i hi => ?_⟩
  obtain ⟨⟨a, c, hs, _⟩, _⟩ := h2 i hi
  exact ⟨a, c, by rw [hc i hi, hs]⟩
def GreatPost (n : Nat) (ls : Nat → Nat) (w : World) (e : Ending) (w' : World) : Prop := ∃ t, e = .returned (.bool t) ∧ w = w' ∧ (t = false → n ≤ 100 ∧ ∀ i, i < n → ls i ≤ 100)
theorem GreatPost.of {n : Nat} {ls : Nat → Nat} {w : World} (t : Bool) (h : t = false → n ≤ 100 ∧ ∀ i, i < n → ls i ≤ 100) : GreatPost n ls w (.returned (.bool t)) w := ⟨t, rfl, rfl, h⟩
set_option maxRecDepth 100000 in
set_option maxHeartbeats 2000000 in
theorem great_any (v : Value) (n : Nat) (ls : Nat → Nat) (w : World) (h : Lens w v n ls) (hn : n ≤ 9223372036854775807) :
    Calls Tryd.prog 18 #[v] w (GreatPost n ls w) := by
  have H := Lib.hid h
  obtain ⟨ao, cap, rfl, _⟩ := h
  go_enter Tryd.func18, Tryd.ntmps18
  go_wp2
  go_loop [3] (fun i => ∃ k : Nat, i = .int .i64 k ∧ k ≤ n ∧ ∀ i, i < k → ls i ≤ 100) (fun i => n - (intOf i).toNat)
  case atStart => exact ⟨0, rfl, Nat.zero_le _, fun i hi => absurd hi (Nat.not_lt_zero i)⟩
  case round =>
    obtain ⟨k, rfl, hk, hall⟩ := hrel
    have Hall := Lib.hid hall
    clear hall
    rcases Nat.lt_or_ge k n with hlt | hge
    · obtain ⟨ao', cap', hv, hr⟩ := H.out
      cases hv
      obtain ⟨b, off, rfl, hc⟩ := hr (by omega)
      obtain ⟨a, c, hcell⟩ := hc k hlt
      clear hr hc
      obtain ⟨m, hm⟩ : ∃ m, ls k = m := ⟨_, rfl⟩
      rw [hm] at hcell
      have HM := Lib.hid hm
      clear hm
      have hi : (0 : Int) ≤ (k : Int) ∧ (k : Int) < (n : Int) := ⟨by omega, by omega⟩
      by_cases hg : 100 < m
      · go_wp2
        go_ret
        exact GreatPost.of true fun q => absurd q (by decide)
      · go_wp2
        go_round
        case rel =>
          refine ⟨k + 1, by go_num, by omega, fun i hi => ?_⟩
          rcases Nat.lt_or_ge i k with g | g
          · exact Hall.out i g
          · obtain rfl : i = k := by omega
            rw [HM.out]; omega
        case measure => simp [intOf]; omega
    · obtain rfl : k = n := by omega
      go_wp2
      go_ret
      refine GreatPost.of (decide ((100 : Int) < k)) fun q => ⟨?_, Hall.out⟩
      have := of_decide_eq_false q
      omega
end Go.Proofs.YthbophioohcphaaDoor
