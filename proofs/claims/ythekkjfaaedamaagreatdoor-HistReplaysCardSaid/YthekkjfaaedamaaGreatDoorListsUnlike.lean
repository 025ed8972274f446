/- Whether no two operations of lists are of one name. -/
import Derived.Test.YthekkjfaaedamaaGreatDoorNameKey
import Derived.Test.YthekkjfaaedamaaGreatDoorGRefOps
import Derived.Test.YthekkjfaaedamaaGreatDoorGPlain
import Derived.Test.YthekkjfaaedamaaGreatDoorListsCat
namespace Go.Proofs.YthekkjfaaedamaaGreatDoor
open Go.RowKit Go.Maps Go.WideMaps

def addN (acc : List (Int × Int)) (p : Int × Int) : List (Int × Int) := if p ∈ acc then acc else acc ++ [p]
theorem fold_keys : ∀ (ns acc : List (Int × Int)), (∀ p ∈ ns, nWf p) → (∀ p ∈ acc, nWf p) → (ns.map nkey).foldl addKey (acc.map nkey) = (ns.foldl addN acc).map nkey
 | [], _, _, _ => rfl
 | p :: r, acc, h1, h2 => by
  have hp := h1 p (List.mem_cons_self ..)
  have e : addKey (acc.map nkey) (nkey p) = (addN acc p).map nkey := by
   unfold addKey addN
   have : (acc.map nkey).any (fun y => y.sameKey (nkey p)) = decide (p ∈ acc) := by
    rw [Bool.eq_iff_iff]
    simp only [List.any_map, List.any_eq_true, Function.comp, nkey_same, decide_eq_true_eq]
    constructor
    ·rintro ⟨q, hq, e⟩
     have hq' := h2 q hq
     exact (nkey_inj hq'.1 hq'.2 hp.1 hp.2 e) ▸ hq
    ·exact fun g => ⟨p, g, rfl⟩
   rw [this]
   by_cases g : p ∈ acc
   ·rw [decide_eq_true g, if_pos rfl, if_pos g]
   ·rw [decide_eq_false g, if_neg (by decide), if_neg g, List.map_append]
    rfl
  rw [List.map_cons, List.foldl_cons, List.foldl_cons, e]
  refine fold_keys r (addN acc p) (fun q hq => h1 q (List.mem_cons_of_mem _ hq)) fun q hq => ?_
  unfold addN at hq
  split at hq
  ·exact h2 q hq
  ·rcases List.mem_append.1 hq with g | g
   ·exact h2 q g
   ·rw [List.mem_singleton.1 g]; exact hp
theorem fold_len : ∀ (ns acc : List (Int × Int)), (ns.foldl addN acc).length ≤ acc.length + ns.length ∧ ((ns.foldl addN acc).length = acc.length + ns.length ↔ ns.Nodup ∧ ∀ p ∈ ns, p ∉ acc)
 | [], acc => by simp
 | p :: r, acc => by
  rw [List.foldl_cons]
  obtain ⟨h1, h2⟩ := fold_len r (addN acc p)
  unfold addN at h1 h2 ⊢
  by_cases g : p ∈ acc
  ·rw [if_pos g] at h1 h2 ⊢
   refine ⟨by rw [List.length_cons]; omega, ⟨fun e => by rw [List.length_cons] at e; omega, fun ⟨_, e⟩ => absurd g (e p (List.mem_cons_self ..))⟩⟩
  ·rw [if_neg g] at h1 h2 ⊢
   rw [List.length_append, List.length_singleton] at h1 h2
   refine ⟨by rw [List.length_cons]; omega, ?_⟩
   rw [List.length_cons, show acc.length + (r.length + 1) = acc.length + 1 + r.length by omega, h2, List.nodup_cons]
   constructor
   ·rintro ⟨a, b⟩
    exact ⟨⟨fun q => b p q (by simp), a⟩, fun q hq => by
     rcases List.mem_cons.1 hq with rfl | hq
     ·exact g
     ·exact fun z => b q hq (by simp [z])⟩
   ·rintro ⟨⟨a, b⟩, c⟩
    refine ⟨b, fun q hq z => ?_⟩
    rcases List.mem_append.1 z with z | z
    ·exact c q (List.mem_cons_of_mem _ hq) z
    ·rw [List.mem_singleton.1 z] at hq
     exact a hq
def oKeys (l : List ROp) (k : Nat) : List Lit := ((l.take k).map fun o => nmO o.op).map nkey
def Sn {H : Type} (l : List ROp) (k : Nat) : DataW H := setOf (.agg []) (oKeys l k)
theorem oKeys_next {l : List ROp} {k : Nat} {o : ROp} (h : l[k]? = some o) : oKeys l (k + 1) = oKeys l k ++ [nkey (o.site, o.seq)] := by
 unfold oKeys
 rw [List.take_add_one, h, List.map_append, List.map_append]
 rfl
theorem Sn_next {H : Type} {l : List ROp} {k : Nat} {o : ROp} (h : l[k]? = some o) : Sn (H := H) l (k + 1) = (Sn l k).put (nkey (o.site, o.seq)) (.agg []) := by
 unfold Sn
 rw [oKeys_next h, setOf_snoc]
theorem Sn_zero {H : Type} (l : List ROp) : Sn (H := H) l 0 = .map [] := by simp [Sn, oKeys, setOf]
theorem Sn_size {l : List ROp} (h : ∀ o ∈ l, oNWf o) : Maps.size (Sn (H := Unit) l l.length) ≤ l.length ∧ (Maps.size (Sn (H := Unit) l l.length) = l.length ↔ unlk (l.map ROp.op) = true) := by
 have hw : ∀ p ∈ l.map (fun o => nmO o.op), nWf p := fun p hp => by
  obtain ⟨o, ho, rfl⟩ := List.mem_map.1 hp
  exact h o ho
 have e : Maps.size (Sn (H := Unit) l l.length) = ((l.map fun o => nmO o.op).foldl addN []).length := by
  unfold Sn
  rw [size_setOf _ _ fun x hx => ?_]
  ·unfold oKeys
   rw [List.take_length]
   have := fold_keys (l.map fun o => nmO o.op) [] hw (fun _ h => by cases h)
   rw [List.map_nil] at this
   rw [this, List.length_map]
  ·unfold oKeys at hx
   obtain ⟨p, _, rfl⟩ := List.mem_map.1 hx
   trivial
 have := fold_len (l.map fun o => nmO o.op) []
 rw [List.length_nil, List.length_map, Nat.zero_add] at this
 rw [e]
 refine ⟨this.1, this.2.trans ?_⟩
 unfold unlk
 rw [decide_eq_true_iff, List.map_map]
 exact ⟨fun g => g.1, fun g => ⟨g, fun _ _ h => by cases h⟩⟩
theorem SlsAt.forms {W : World} {v : Value} {ls : List (List ROp)} (h : SlsAt W v ls) : ∀ x ∈ ls.flatten, ∃ ao cap, x.sp = .slice ao x.xs.length cap := by
 intro x hx
 obtain ⟨l, hl, hx⟩ := List.mem_flatten.1 hx
 obtain ⟨i, hi, rfl⟩ := List.mem_iff_getElem.1 hl
 obtain ⟨_, _, _, _, h1⟩ := h
 obtain ⟨u, _, h2⟩ := h1 i _ (List.getElem?_eq_getElem hi)
 obtain ⟨ao, cap, e, _⟩ := h2.2 x hx
 exact ⟨ao, cap, e⟩
set_option maxRecDepth 100000 in
set_option maxHeartbeats 8000000 in
theorem unlike_any (v : Value) (ls : List (List ROp)) (w : World) (h : SlsAt w v ls) (hn : ls.flatten.length ≤ 1000000) (hm : ls.length ≤ 1000000) (hw : ∀ o ∈ ls.flatten, oNWf o) :
  Calls Tryz.prog 84 #[v] w fun e w' => e = .returned (.bool (unlk (ls.flatten.map ROp.op))) ∧ Below w.heap.size w w' := by
 have hmm := @run_makeMap Tryz.prog
 have HC := Lib.hid (concat_any v ls w h hn hm)
 have HS := Lib.hid (Sn_size hw)
 have HW := Lib.hid hw
 have HSP := Lib.hid h.forms
 obtain ⟨g, off, cap, rfl, -⟩ := id h
 obtain ⟨l, hl⟩ : ∃ l, ls.flatten = l := ⟨_, rfl⟩
 rw [hl] at HC HS HW HSP hn ⊢
 clear h hw hl
 obtain ⟨N, hN⟩ : ∃ N, l.length = N := ⟨_, rfl⟩
 have HN := Lib.hid hN
 rw [hN] at hn
 clear hN
 obtain ⟨R, hR⟩ : ∃ R, unlk (l.map ROp.op) = R := ⟨_, rfl⟩
 have HR := Lib.hid hR
 rw [hR]
 clear hR hm
 go_enter Tryz.func84, Tryz.ntmps84
 go_wp2_with fail
 refine HC.out.mono ?_
 rintro e w1 ⟨u, rfl, ho, hb⟩
 have HO := Lib.hid ho
 obtain ⟨ao, ac, rfl, h1⟩ := (RowR.of_own ho).2
 have HR1 := Lib.hid (RowR.of_own ho)
 rw [HN.out]
 have HB := Lib.hid hb
 clear ho hb h1 HC
 go_wp2
 have HM0 := Lib.hid (World.ownsMap_made (H := Unit) w1 Tryz.prog 42 unitElem)
 go_loopw [12] (fun i wr => ∃ k : Nat, k ≤ N ∧ i = .int .i64 k ∧ RowKit.Hid (wr.ownsMap Tryz.prog 42 (unitElem (H := Unit)) w1.heap.size k (Sn l k)) ∧ RowKit.Hid (Below w1.heap.size w1 wr)) (fun i _ => N - (intOf i).toNat)
 case atStart => exact ⟨0, Nat.zero_le _, rfl, by rw [Sn_zero]; exact HM0, Lib.hid ((Below.refl _ _).alloc (Nat.le_refl _) _)⟩
 case round =>
  obtain ⟨k, hk, rfl, hown, hbw⟩ := hrel
  rcases Nat.lt_or_ge k N with hlt | hge
  ·obtain ⟨x, hx⟩ := getO_some (l := l) (k := k) (by rw [HN.out]; exact hlt)
   have hrow := HR1.out.below hbw.out
   obtain ⟨b, off, cp, hv, c0, c1, c2, c3, c4, c5, c6⟩ := oRow_at hrow hx
   rw [HN.out] at hv
   cases hv
   have hi0 : (0 : Int) ≤ (k : Int) ∧ (k : Int) < (N : Int) := ⟨by omega, by omega⟩
   have hwf := HW.out x (List.mem_of_getElem? hx)
   have HKY := Lib.hid (keyOf_name hwf.1 hwf.2)
   have HNX := Lib.hid (Sn_next (H := Unit) hx)
   obtain ⟨sa, sc, hsp⟩ := HSP.out x (List.mem_of_getElem? hx)
   obtain ⟨s, q, n, kd, pl, tx, sp, xs⟩ := x
   dsimp only at hsp
   subst hsp
   dsimp only at c0 c1 c2 c3 c4 c5 c6 HKY HNX
   have HOW := Lib.hid (hown.out.alloc (.cells #[.int .i64 s, .int .i64 q, .int .i64 n, .int .i64 kd, .int .i64 pl, .string tx, .slice sa xs.length sc] 45))
   have HBW := Lib.hid (hbw.out.alloc hbw.out.size (.cells #[.int .i64 s, .int .i64 q, .int .i64 n, .int .i64 kd, .int .i64 pl, .string tx, .slice sa xs.length sc] 45))
   clear hx hrow hwf
   go_wp2_with (at_mapUpdate; refine wpList_mapUpdate_own _ rfl _ _ _ 166 rfl 42 160 name_law Tryz.underlying166 (unitElem (H := Unit)) w1.heap.size k _ rfl HOW.out (by unfold maxLen; omega) _ _ _ rfl rfl HKY.out _ [] unitElem_mk ?_; intro w2 hown1 hgrow1; have HO1 := Lib.hid hown1; have HB1 := Lib.hid (HBW.out.grown hgrow1 HBW.out.size (fun j hj => by cases hj; exact Nat.le_refl _)); clear hown1 hgrow1)
   go_roundw
   case rel => exact ⟨k + 1, by omega, by go_num, by rw [HNX.out]; exact HO1, HB1⟩
   case measure => simp [intOf]; omega
  ·obtain rfl : N = k := by omega
   have hsz := HS.out
   rw [HN.out] at hsz
   have HOW := Lib.hid hown.out
   have HBE := Lib.hid (HB.out.trans (hbw.out.mono HB.out.size))
   obtain ⟨M, hM⟩ : ∃ M, Maps.size (Sn (H := Unit) l N) = M := ⟨_, rfl⟩
   have HMS := Lib.hid hM
   rw [hM] at hsz
   obtain ⟨hs1, hs2⟩ := hsz
   have hRM : R = decide (M = N) := by
    rw [← HR.out, Bool.eq_iff_iff, decide_eq_true_iff]
    exact hs2.symm
   have HRM := Lib.hid hRM
   clear hown hbw hM hs2 hRM hk hge
   by_cases hMN : M = N
   ·have HRT := Lib.hid (show R = true from HRM.out.trans (decide_eq_true hMN))
    clear HRM
    subst hMN
    go_wp2_with ((first | ((with_reducible refine wpList_len_own _ rfl _ 166 rfl 42 160 Tryz.underlying166 (unitElem (H := Unit)) w1.heap.size _ _ rfl HOW.out ?_); rw [HMS.out])))
    go_ret
    exact ⟨by rw [HRT.out]; rfl, HBE.out⟩
   ·have HRT := Lib.hid (show R = false from HRM.out.trans (decide_eq_false hMN))
    have e1 : ((M : Int) == (N : Int)) = false := beq_eq_false_iff_ne.2 (by omega)
    clear HRM hMN
    go_wp2_with ((first | ((with_reducible refine wpList_len_own _ rfl _ 166 rfl 42 160 Tryz.underlying166 (unitElem (H := Unit)) w1.heap.size _ _ rfl HOW.out ?_); rw [HMS.out])))
    go_ret
    exact ⟨by rw [HRT.out]; rfl, HBE.out⟩
end Go.Proofs.YthekkjfaaedamaaGreatDoor
