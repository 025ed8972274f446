/- slices.Concat at lists of operations. -/
import Derived.Test.YthekkjfaaedamaaGreatDoorGRefOps
import Derived.Test.YthekkjfaaedamaaGreatDoorShGrow
import Derived.Test.YthekkjfaaedamaaGreatDoorGReads64
import Derived.Laws.AppendOwnNone
import Derived.OwnWalk
import Derived.WalkKit
namespace Go.Proofs.YthekkjfaaedamaaGreatDoor
open Go.RowKit

theorem growOp_any (n : Nat) (w : World) (hn : n ≤ 1000000) : Calls Tryz.prog 116 #[.slice none 0 0, .int .i64 n] w fun e w' => ∃ v, e = .returned v ∧ w'.ownsRow w.heap.size 45 7 v 0 [] ∧ Below w.heap.size w w' := by
 obtain ⟨i0, hi, hz0, hz1, hz2⟩ := info_parts infoOpC
 rcases Nat.eq_zero_or_pos n with rfl | hp
 ·exact (Any8.slices_Grow_room Tryz.growSp none 0 0 0 w (Nat.le_refl _) (by omega) (by omega) (Nat.le_refl _)).mono fun e w' h => by
   obtain ⟨rfl, rfl⟩ := h
   exact ⟨_, rfl, World.ownsRow_nil _ _ _ _, Below.refl _ _⟩
 ·refine (Any8.slices_Grow_grow Tryz.growSp i0 _ hi hz0 (by rw [hz1]; decide) none 0 0 n [] w (Nat.le_refl _) (by omega) (by rw [hz2]; omega) (by omega) (by simp) (fun _ => rfl) (fun a h => by cases h)).mono fun e w' h => ?_
  obtain ⟨rfl, rfl⟩ := h
  obtain ⟨G, hG⟩ : ∃ G, grownCap w (0 + n) 0 45 = G := ⟨_, rfl⟩
  have hG1 : 0 + n ≤ G := by rw [← hG]; exact grownCap_ge w _ _ _
  have hG2 : G ≤ maxLen := by rw [← hG]; exact grownCap_le_maxLen w _ _ _ (by unfold maxLen; omega)
  refine ⟨_, rfl, ⟨by simp, .inr ⟨w.heap.size, G, _, ?_, Nat.le_refl _, heap_alloc_new w.drew _, Nat.zero_le _, hG2, ?_, by simp⟩⟩, (Below.refl w.heap.size w).drew.alloc (Nat.le_refl _) _⟩
  ·show Value.slice _ _ (grownCap w (0 + n) 0 45) = _
   rw [hG]
  ·show (_ ++ Builtin.zeroCells _ _ ++ Builtin.zeroCells _ (grownCap w (0 + n) 0 45 - (0 + n))).size = _
   rw [hG, Array.size_append, Array.size_append, size_zeroCells, size_zeroCells]
   show 0 + (0 + n - 0) * 7 + (G - (0 + n)) * 7 = G * 7
   omega
def SlsAt (W : World) (v : Value) (ls : List (List ROp)) : Prop := ∃ g off cap, v = .slice (some ⟨g, off, none⟩) ls.length cap ∧ ∀ (i : Nat) (l : List ROp), ls[i]? = some l → ∃ u, W.cell? ⟨g, off + i, none⟩ = some u ∧ OpsR W u l
theorem SlsAt.below {W W' : World} {v : Value} {ls : List (List ROp)} (h : SlsAt W v ls) (hb : Below W.heap.size W W') : SlsAt W' v ls := by
 obtain ⟨g, off, cap, rfl, h1⟩ := h
 refine ⟨g, off, cap, rfl, fun i l hi => ?_⟩
 obtain ⟨u, h2, h3⟩ := h1 i l hi
 exact ⟨u, cell_stays hb h2, h3.below hb⟩
theorem flatten_next {ls : List (List ROp)} {k : Nat} {l : List ROp} (h : ls[k]? = some l) : (ls.take (k + 1)).flatten = (ls.take k).flatten ++ l := by
 rw [List.take_add_one, h, List.flatten_append]
 simp
theorem flat_le {ls : List (List ROp)} (k : Nat) : (ls.take k).flatten.length ≤ ls.flatten.length := by
 conv => rhs; rw [← List.take_append_drop k ls]
 rw [List.flatten_append, List.length_append]
 omega
def CatPost (l : List ROp) (w : World) (e : Ending) (w' : World) : Prop := ∃ v, e = .returned v ∧ w'.ownsRow w.heap.size 45 7 v l.length (oCells l) ∧ Below w.heap.size w w'
set_option maxRecDepth 100000 in
set_option maxHeartbeats 4000000 in
theorem concat_any (v : Value) (ls : List (List ROp)) (w : World) (h : SlsAt w v ls) (hn : ls.flatten.length ≤ 1000000) (hm : ls.length ≤ 1000000) :
  Calls Tryz.prog 102 #[v] w (CatPost ls.flatten w) := by
 obtain ⟨i0, hi, hz0, hz1, hz2⟩ := info_parts infoOpC
 have HA := Lib.hid h
 obtain ⟨g, off, cap, rfl, -⟩ := id h
 clear h
 obtain ⟨N, hN⟩ : ∃ N, ls.length = N := ⟨_, rfl⟩
 have HN := Lib.hid hN
 have HT := Lib.hid hn
 rw [hN] at hm ⊢
 clear hN hn
 go_enter Tryz.func102, Tryz.ntmps102
 go_wp2
 go_loopw [3, 11] (fun s i wr => ∃ k z : Nat, i = .int .i64 k ∧ k ≤ N ∧ s = .int .i64 z ∧ RowKit.Hid (z = (ls.take k).flatten.length) ∧ RowKit.Hid (wr = w)) (fun _ i _ => N - (intOf i).toNat)
 case atStart => exact ⟨0, 0, rfl, Nat.zero_le _, rfl, Lib.hid rfl, Lib.hid rfl⟩
 case round =>
  obtain ⟨k, z, rfl, hk, rfl, hz, hw⟩ := hrel
  rcases Nat.lt_or_ge k N with hlt | hge
  ·obtain ⟨l, hl⟩ : ∃ l, ls[k]? = some l := ⟨_, List.getElem?_eq_getElem (by rw [HN.out]; exact hlt)⟩
   obtain ⟨g', off', cap', hv, hc⟩ := HA.out
   cases hv
   obtain ⟨u, hu, hr⟩ := hc k l hl
   rw [← hw.out] at hu
   obtain ⟨ao, ac, rfl⟩ := hr.shape
   have hz1' : z + l.length ≤ 1000000 := by
    have h1 := flatten_next hl
    have h2 := flat_le (ls := ls) (k + 1)
    have h3 := HT.out
    rw [h1, List.length_append, ← hz.out] at h2
    omega
   have HZ := Lib.hid (show z + l.length = (ls.take (k + 1)).flatten.length by rw [flatten_next hl, List.length_append, ← hz.out])
   clear hc hr hl
   have hi0 : (0 : Int) ≤ (k : Int) ∧ (k : Int) < (N : Int) := ⟨by omega, by omega⟩
   go_wp2
   go_roundw
   case rel => exact ⟨k + 1, z + l.length, by go_num, by omega, by go_num, HZ, hw⟩
   case measure => simp [intOf]; omega
  ·obtain rfl : N = k := by omega
   obtain rfl : w = wr := hw.out.symm
   clear hw hk hge
   have hz1' : z ≤ 1000000 := by
    have h2 := flat_le (ls := ls) N
    have h3 := HT.out
    rw [← hz.out] at h2
    omega
   go_wp2_with fail
   refine (growOp_any z _ hz1').mono ?_
   rintro e w1 ⟨v1, rfl, ho, hb⟩
   have HO := Lib.hid ho
   have HB := Lib.hid hb
   clear ho hb hz hz1'
   go_wp2
   go_loopw [6, 27] (fun s i wr => ∃ (k : Nat) (v : Value), i = .int .i64 k ∧ k ≤ N ∧ s = v ∧ RowKit.Hid (wr.ownsRow w.heap.size 45 7 v (ls.take k).flatten.length (oCells (ls.take k).flatten)) ∧ RowKit.Hid (Below w.heap.size w wr)) (fun _ i _ => N - (intOf i).toNat)
   case atStart => exact ⟨0, v1, rfl, Nat.zero_le _, rfl, HO, HB⟩
   case round =>
    obtain ⟨k, v, rfl, hk, rfl, ho, hb⟩ := hrel
    rcases Nat.lt_or_ge k N with hlt | hge
    ·obtain ⟨l, hl⟩ : ∃ l, ls[k]? = some l := ⟨_, List.getElem?_eq_getElem (by rw [HN.out]; exact hlt)⟩
     obtain ⟨g', off', cap', hv, hc⟩ := HA.out.below hb.out
     cases hv
     obtain ⟨u, hu, hr⟩ := hc k l hl
     obtain ⟨ao, ac, rfl⟩ := hr.shape
     have hlen : (ls.take (k + 1)).flatten.length = (ls.take k).flatten.length + l.length := by rw [flatten_next hl, List.length_append]
     have hle : (ls.take k).flatten.length + l.length ≤ 1000000 := by
      have h2 := flat_le (ls := ls) (k + 1)
      have h3 := HT.out
      omega
     have HFN := Lib.hid (show (ls.take (k + 1)).flatten = (ls.take k).flatten ++ l from flatten_next hl)
     have HR := Lib.hid hr
     obtain ⟨m, hm'⟩ : ∃ m, (ls.take k).flatten.length = m := ⟨_, rfl⟩
     have HM := Lib.hid hm'
     have ho' := ho.out
     rw [hm'] at hle ho'
     have HO' := Lib.hid ho'
     have h1' : m + l.length ≤ maxLen := by unfold maxLen; omega
     have h2' : (m + l.length) * 80 ≤ 140737488355328 := by omega
     have h3' := hb.out.size
     clear hc hr hl hlen hm' ho' ho
     have hi0 : (0 : Int) ≤ (k : Int) ∧ (k : Int) < (N : Int) := ⟨by omega, by omega⟩
     go_wp2_with (at_builtin; go_must (refine wpList_app_any rfl _ _ 61 rfl w.heap.size 45 i0 _ 7 80 Tryz.underlying61 hi hz0 hz1 hz2 rfl (by decide) _ m (oCells (ls.take k).flatten) rfl HO'.out _ l.length (oCells l) rfl HR.out.1 HR.out.one h1' h2' h3' ?_; intro v2 w2 ho2 hg2; have HO2 := Lib.hid ho2; have HB2 := Lib.hid (hb.out.grown hg2 h3' (own_ge HO'.out)); clear ho2 hg2))
     go_roundw
     case rel => exact ⟨k + 1, v2, by go_num, by omega, rfl, by rw [HFN.out, List.length_append, oCells_append, HM.out]; exact HO2, HB2⟩
     case measure => simp [intOf]; omega
    ·obtain rfl : N = k := by omega
     go_wp2
     go_ret
     refine ⟨_, rfl, ?_, hb.out⟩
     have := ho.out
     rwa [List.take_of_length_le (by rw [HN.out]; exact Nat.le_refl _)] at this
end Go.Proofs.YthekkjfaaedamaaGreatDoor
