/- The document's Cut. -/
import Derived.Test.YtbaofbbikdbppaaDoorRefJoin
import Derived.Test.YtbaofbbikdbppaaDoorRefSplit
namespace Go.Proofs.YtbaofbbikdbppaaDoor
open Go.RowKit

/-- What Cut tells of a text's runes. -/
def RCutPost (w : World) (o : Option (List Int)) (a b : Int) (e : Ending) (w' : World) : Prop :=
  Below w.heap.size w w' ∧ match o with
    | none => e = .returned (.tuple #[.string ⟨#[]⟩, .int .i64 2])
    | some rs => (0 ≤ a ∧ a ≤ rs.length ∧ 0 ≤ b ∧ b ≤ rs.length - a → e = .returned (.tuple #[.string ⟨(joinL ((rs.drop a.toNat).take b.toNat)).toArray⟩, .int .i64 0])) ∧
        (¬ (0 ≤ a ∧ a ≤ rs.length ∧ 0 ≤ b ∧ b ≤ rs.length - a) → e = .returned (.tuple #[.string ⟨#[]⟩, .int .i64 3]))

set_option maxHeartbeats 400000 in
theorem rcut_none (s : ByteArray) (hs : s.size ≤ 1000000) (a b : Int) (w : World) (hr : runesL s.data.toList = none) :
    Calls Tryd.prog 19 #[.string s, .int .i64 a, .int .i64 b] w fun e W' => e = .returned (.tuple #[.string ⟨#[]⟩, .int .i64 2]) ∧ Below w.heap.size w W' := by
  have hS := rsplit_any s hs w
  rw [hr] at hS
  clear hr
  go_enter Tryd.func19, Tryd.ntmps19
  go_wp2_with (go_at_call 11; refine hS.mono ?_; clear hS; rintro e w1 ⟨hb, rfl⟩)
  go_ret2
  exact ⟨rfl, hb⟩

theorem slice_of_own {W : World} {base : Nat} {e : TypeId} {v : Value} {rs : List Int} {l : List Value} (h : W.ownsRow base e 1 v rs.length l) : ∃ ao cap, v = .slice ao rs.length cap ∧ rs.length ≤ cap ∧ cap ≤ maxLen := by
  rcases h.2 with ⟨hv, h0⟩ | ⟨g, cap, cur, hv, _, _, h1, h2, _⟩
  · exact ⟨none, 0, by rw [hv, h0], by omega, by unfold maxLen; omega⟩
  · exact ⟨_, _, hv, h1, h2⟩

theorem Reads32.piece {W : World} {ao : Option Addr} {cap : Nat} {rs : List Int} {a b c : Nat} (h : Reads32 W (.slice ao rs.length cap) rs) (hl : ((rs.drop a).take b).length = b) :
    Reads32 W (.slice (Option.map (fun x => x.add a) ao) b c) ((rs.drop a).take b) := by
  obtain ⟨ao', cap', he, h2⟩ := h
  obtain rfl : ao = ao' := by injection he
  refine ⟨_, c, by rw [hl], fun hx => ?_⟩
  have hne : rs ≠ [] := fun e => hx (by rw [e]; simp)
  obtain ⟨b0, off, rfl, hc⟩ := h2 hne
  have e : (⟨b0, off, none⟩ : Addr).add a = ⟨b0, off + a, none⟩ := by simp [Addr.add]
  refine ⟨b0, off + a, by rw [Option.map_some, e], fun i hi => ?_⟩
  rw [hl] at hi
  rw [List.length_take, List.length_drop] at hl
  have := hc (a + i) (by omega)
  rw [Nat.add_assoc, this]
  simp [List.getD, hi]

set_option maxHeartbeats 1000000 in
theorem rcut_out (s : ByteArray) (hs : s.size ≤ 1000000) (a b : Int) (w : World) (rs : List Int) (hr : runesL s.data.toList = some rs) (ho : a < 0 ∨ rs.length < a ∨ b < 0 ∨ rs.length - a < b) :
    Calls Tryd.prog 19 #[.string s, .int .i64 a, .int .i64 b] w fun e W' => e = .returned (.tuple #[.string ⟨#[]⟩, .int .i64 3]) ∧ Below w.heap.size w W' := by
  have hS := rsplit_any s hs w
  have hlen : rs.length ≤ s.size := by rw [Lib.size_eq]; exact runes_le hr
  rw [hr] at hS
  clear hr
  have hc : a < 0 ∨ (0 ≤ a ∧ (rs.length : Int) < a) ∨ (0 ≤ a ∧ a ≤ rs.length ∧ b < 0) ∨ (0 ≤ a ∧ a ≤ rs.length ∧ 0 ≤ b ∧ (rs.length : Int) - a < b) := by omega
  clear ho
  rcases hc with h1 | ⟨h1, h2⟩ | ⟨h1, h2, h3⟩ | ⟨h1, h2, h3, h4⟩
  all_goals
    go_enter Tryd.func19, Tryd.ntmps19
    go_wp2_with fail
    refine hS.mono ?_
    clear hS
    rintro e w1 ⟨hb, v, rfl, hown⟩
    obtain ⟨ao, cap, rfl, hc1, hc2⟩ := slice_of_own hown
    go_wp2
    go_ret2
    exact ⟨rfl, hb⟩

set_option maxHeartbeats 1000000 in
theorem rcut_in (s : ByteArray) (hs : s.size ≤ 1000000) (a b : Nat) (w : World) (rs : List Int) (hr : runesL s.data.toList = some rs) (ha : a ≤ rs.length) (hb : b ≤ rs.length - a) :
    Calls Tryd.prog 19 #[.string s, .int .i64 a, .int .i64 b] w fun e W' => e = .returned (.tuple #[.string ⟨(joinL ((rs.drop a).take b)).toArray⟩, .int .i64 0]) ∧ Below w.heap.size w W' := by
  have hS := rsplit_any s hs w
  have hlen : rs.length ≤ s.size := by rw [Lib.size_eq]; exact runes_le hr
  have hv := (runesL_join hr).2
  have hall : allValid ((rs.drop a).take b) = true := allValid_iff.2 (fun r h => hv r (List.mem_of_mem_drop (List.mem_of_mem_take h)))
  have hJ := fun v w1 (h : Reads32 w1 v ((rs.drop a).take b)) => rjoin_any v ((rs.drop a).take b) (by rw [List.length_take, List.length_drop]; omega) w1 h
  rw [hr] at hS
  have Hall := Lib.hid hall
  clear hr hv hall
  have h1 : (a : Int) ≤ rs.length := by omega
  have h2 : (b : Int) ≤ (rs.length : Int) - a := by omega
  go_enter Tryd.func19, Tryd.ntmps19
  go_wp2_with fail
  refine hS.mono ?_
  clear hS
  rintro e w1 ⟨hb1, v, rfl, hown⟩
  obtain ⟨ao, cap, rfl, hc1, hc2⟩ := slice_of_own hown
  unfold maxLen at hc2
  have rd := Reads32.of_own hown
  have hxl : ((rs.drop a).take b).length = b := by rw [List.length_take, List.length_drop]; omega
  have r1 : Reads32 w1 (.slice (Option.map (fun x => x.add a) ao) b (cap - a)) ((rs.drop a).take b) := rd.piece hxl
  have r2 : cap = a → Reads32 w1 (.slice ao b 0) ((rs.drop a).take b) := fun h => by
    obtain rfl : b = 0 := by omega
    exact ⟨ao, 0, by simp, fun h => absurd (by simp) h⟩
  by_cases hca : cap = a
  · have j2 := hJ _ w1 (r2 hca)
    obtain rfl : b = 0 := by omega
    subst hca
    clear r1 r2 hJ rd hxl
    go_wp2_with fail
    refine j2.mono ?_
    rintro e w2 ⟨he, hb2⟩
    rw [if_pos Hall.out] at he
    subst he
    go_wp2
    go_ret2
    exact ⟨rfl, hb1.trans (hb2.mono hb1.size)⟩
  · have j1 := hJ _ w1 r1
    clear r1 r2 hJ rd hxl
    go_wp2_with fail
    refine j1.mono ?_
    rintro e w2 ⟨he, hb2⟩
    rw [if_pos Hall.out] at he
    subst he
    go_wp2
    go_ret2
    exact ⟨rfl, hb1.trans (hb2.mono hb1.size)⟩
end Go.Proofs.YtbaofbbikdbppaaDoor
