/- RunesCut: the law's walk. -/
import Derived.Test.YtbaofbbikdbppaaDoorAlive
import Derived.Test.YtbaofbbikdbppaaDoorRefCut
namespace Go.Proofs.YtbaofbbikdbppaaDoor
open Go.RowKit Go.Shelf

set_option maxRecDepth 100000 in
set_option maxHeartbeats 2000000 in
theorem lawCut_any (s : ByteArray) (a b : Int) (w : World) (hs : s.size ≤ maxLen) (hT : Lib.Utf8Tabs 0 1 w) :
    Calls Tryd.prog 5 #[.string s, .int .i64 a, .int .i64 b] w fun e W' => e = .returned (.bool true) ∧ Below w.heap.size w W' := by
  unfold maxLen at hs
  have hA := alive_any w hT
  by_cases h1 : 2000 < s.size
  · go_enter Tryd.func5, Tryd.ntmps5
    go_wp2_with (go_at_call 9; refine hA.mono ?_; clear hA; rintro e w1 ⟨rfl, hb⟩)
    go_ret
    exact ⟨rfl, hb⟩
  · have hs2 : s.size ≤ 2000 := by omega
    have key : ∃ r : Value × Int, (∀ w1, Below w.heap.size w w1 → Calls Tryd.prog 18 #[.string s, .int .i64 a, .int .i64 b] w1 fun e W' => e = .returned (.tuple #[r.1, .int .i64 r.2]) ∧ Below w1.heap.size w1 W') ∧
        (∀ w1, Calls Tryd.prog 19 #[.string s, .int .i64 a, .int .i64 b] w1 fun e W' => e = .returned (.tuple #[r.1, .int .i64 r.2]) ∧ Below w1.heap.size w1 W') ∧ ∃ t, r.1 = .string t := by
      cases hr : runesL s.data.toList with
      | none => exact ⟨(.string ⟨#[]⟩, 2), fun w1 h => cut_none s (by omega) a b w1 (Utf8Tabs_below hT h) hr, fun w1 => rcut_none s (by omega) a b w1 hr, _, rfl⟩
      | some rs =>
        by_cases ho : a < 0 ∨ (rs.length : Int) < a ∨ b < 0 ∨ (rs.length : Int) - a < b
        · exact ⟨(.string ⟨#[]⟩, 3), fun w1 h => cut_out s (by omega) a b w1 (Utf8Tabs_below hT h) rs hr ho, fun w1 => rcut_out s (by omega) a b w1 rs hr ho, _, rfl⟩
        · obtain ⟨a, rfl⟩ : ∃ k : Nat, a = k := ⟨a.toNat, by omega⟩
          obtain ⟨b, rfl⟩ : ∃ k : Nat, b = k := ⟨b.toNat, by omega⟩
          exact ⟨(.string ⟨(joinL ((rs.drop a).take b)).toArray⟩, 0), fun w1 h => cut_in s (by omega) a b w1 (Utf8Tabs_below hT h) rs hr (by omega) (by omega), fun w1 => rcut_in s (by omega) a b w1 rs hr (by omega) (by omega), _, rfl⟩
    obtain ⟨⟨r, x⟩, hC, hR, t, ht⟩ := key
    simp only at ht hC hR
    subst ht
    clear h1
    go_enter Tryd.func5, Tryd.ntmps5
    go_wp2_with fail
    refine hA.mono ?_
    clear hA
    rintro e w1 ⟨rfl, hb1⟩
    go_wp2_with fail
    refine (hC w1 hb1).mono ?_
    clear hC
    rintro e w2 ⟨rfl, hb⟩
    have hb2 := hb1.trans (hb.mono hb1.size)
    go_wp2_with fail
    refine (hR w2).mono ?_
    clear hR
    rintro e w3 ⟨rfl, hb⟩
    have hb3 := hb2.trans (hb.mono hb2.size)
    go_wp2
    go_ret
    exact ⟨rfl, hb3⟩
end Go.Proofs.YtbaofbbikdbppaaDoor
