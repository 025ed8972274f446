/- Texts of this proof, joined. -/
import Derived.Test.YtmedickofiielaaGreatDoorNameKey
import Derived.Test.YtmedickofiielaaGreatDoorCellsOffs
import Derived.Test.YtmedickofiielaaGreatDoorGPlain
import Derived.Laws.StructEq
namespace Go.Proofs.YtmedickofiielaaGreatDoor
open Go.RowKit Go.Maps Go.WideMaps

abbrev Id3 := Int × Int × Int
def idC (c : PCell) : Id3 := (c.site, c.seq, c.off)
def nmI (x : Id3) : Int × Int := (x.1, x.2.1)
def offEl : Value → Option (DataW Value × List MemPlace) := fun v => some (.held v, [])
def noOffs : Value := offV fun _ => false
def offI (I : List Id3) (p : Int × Int) (o : Nat) : Bool := decide ((p.1, p.2, (o : Int)) ∈ I)
def hasNm (I : List Id3) (p : Int × Int) : Bool := I.any fun x => decide (nmI x = p)
structure MapIs (D : DataW Value) (I : List Id3) : Prop where
 tidy : Tidy D
 at_ : ∀ p, nWf p → D.atKey (nkey p) (.held noOffs) = .held (offV (offI I p))
 has : ∀ p, nWf p → Maps.has D (nkey p) = hasNm I p
 keys : ∀ es, D = .map es → ∀ x ∈ es, ∃ y ∈ I, x.1 = nkey (nmI y)
theorem nkey_lit (p : Int × Int) : WideAt.IsKeyLit (nkey p) := trivial
theorem offI_nil (p : Int × Int) : offI [] p = fun _ => false := by funext j; simp [offI]
theorem MapIs.nil : MapIs (.map []) [] :=
 ⟨tidy_empty, fun p _ => by rw [offI_nil]; rfl, fun p _ => rfl, fun es h x hx => by cases h; cases hx⟩
theorem MapIs.congr {D : DataW Value} {I I' : List Id3} (h : MapIs D I) (e : ∀ x, x ∈ I ↔ x ∈ I') : MapIs D I' := by
 have e1 : ∀ p, offI I p = offI I' p := fun p => by funext j; unfold offI; rw [decide_eq_decide]; exact e _
 have e2 : ∀ p, hasNm I p = hasNm I' p := fun p => by
  unfold hasNm
  rw [Bool.eq_iff_iff, List.any_eq_true, List.any_eq_true]
  exact ⟨fun ⟨x, hx, q⟩ => ⟨x, (e x).1 hx, q⟩, fun ⟨x, hx, q⟩ => ⟨x, (e x).2 hx, q⟩⟩
 exact ⟨h.tidy, fun p hp => by rw [← e1]; exact h.at_ p hp, fun p hp => by rw [← e2]; exact h.has p hp, fun es he x hx => by
  obtain ⟨y, hy, q⟩ := h.keys es he x hx
  exact ⟨y, (e y).1 hy, q⟩⟩
theorem put_keys {es : List (Lit × DataW Value)} {k : Lit} {d : DataW Value} {es' : List (Lit × DataW Value)} (h : (DataW.map es).put k d = .map es') (x : Lit × DataW Value) (hx : x ∈ es') : x = (k, d) ∨ x ∈ es := by
 rw [DataW.put_eq] at h
 cases h
 unfold ChangeMaps.putKey at hx
 rcases List.mem_cons.1 ((Go.WideShapes.insert_perm (k, d) _).mem_iff.1 hx) with e | e
 ·exact .inl e
 ·exact .inr (List.mem_filter.1 e).1
theorem nWf_ne {p q : Int × Int} (hp : nWf p) (hq : nWf q) (h : q ≠ p) : nkey q ≠ nkey p := fun e => h (nkey_inj hq.1 hq.2 hp.1 hp.2 e)
theorem MapIs.add {D : DataW Value} {I : List Id3} (h : MapIs D I) {p : Int × Int} (hp : nWf p) (o : Nat) : MapIs (D.put (nkey p) (.held (offV (addF (offI I p) o)))) (I ++ [(p.1, p.2, (o : Int))]) := by
 refine ⟨h.tidy.put (nkey_lit p) _, fun q hq => ?_, fun q hq => ?_, fun es he x hx => ?_⟩
 ·by_cases e : q = p
  ·subst e
   rw [atKey_put_same h.tidy.isMap (nkey_lit _)]
   have : addF (offI I q) o = offI (I ++ [(q.1, q.2, (o : Int))]) q := by
    funext j
    unfold addF offI
    rw [Bool.eq_iff_iff]
    have : ((j : Int) = o) ↔ j = o := by omega
    simp [this]
   rw [this]
  ·rw [atKey_put_other (nWf_ne hp hq e), h.at_ q hq]
   have : offI I q = offI (I ++ [(p.1, p.2, (o : Int))]) q := by
    funext j
    unfold offI
    rw [Bool.eq_iff_iff]
    have : ¬ (q.1 = p.1 ∧ q.2 = p.2 ∧ (j : Int) = o) := fun g => e (Prod.ext g.1 g.2.1)
    simp
    omega
   rw [this]
 ·unfold hasNm
  rw [List.any_append]
  by_cases e : q = p
  ·subst e
   rw [has_put_same h.tidy.isMap (nkey_lit _)]
   simp [nmI]
  ·rw [has_put_other (nWf_ne hp hq e), h.has q hq]
   have : ¬ ((p.1, p.2) = q) := fun g => e g.symm
   simp [nmI, hasNm, this]
 ·obtain ⟨es0, rfl, _⟩ := h.tidy
  rcases put_keys he x hx with e | e
  ·exact ⟨_, List.mem_append_right _ (List.mem_singleton.2 rfl), by rw [e]; rfl⟩
  ·obtain ⟨y, hy, q⟩ := h.keys es0 rfl x e
   exact ⟨y, List.mem_append_left _ hy, q⟩
theorem MapIs.cut {D : DataW Value} {I I' : List Id3} (h : MapIs D I) {p : Int × Int} (hp : nWf p) (o : Nat) (e : ∀ x, x ∈ I' ↔ x ∈ I ∧ x ≠ (p.1, p.2, (o : Int))) (hl : hasNm I' p = true) : MapIs (D.put (nkey p) (.held (offV (delF (offI I p) o)))) I' := by
 refine ⟨h.tidy.put (nkey_lit p) _, fun q hq => ?_, fun q hq => ?_, fun es he x hx => ?_⟩
 ·by_cases g : q = p
  ·subst g
   rw [atKey_put_same h.tidy.isMap (nkey_lit _)]
   have : delF (offI I q) o = offI I' q := by
    funext j
    unfold delF offI
    rw [Bool.eq_iff_iff]
    rw [decide_eq_true_iff, e]
    have : ((j : Int) = o) ↔ j = o := by omega
    simp [this]
   rw [this]
  ·rw [atKey_put_other (nWf_ne hp hq g), h.at_ q hq]
   have : offI I q = offI I' q := by
    funext j
    unfold offI
    rw [decide_eq_decide, e]
    exact ⟨fun z => ⟨z, fun y => g (by injection y with y1 y2; injection y2 with y2 _; exact Prod.ext y1 y2)⟩, fun z => z.1⟩
   rw [this]
 ·by_cases g : q = p
  ·subst g
   rw [has_put_same h.tidy.isMap (nkey_lit _), hl]
  ·rw [has_put_other (nWf_ne hp hq g), h.has q hq]
   unfold hasNm
   rw [Bool.eq_iff_iff, List.any_eq_true, List.any_eq_true]
   refine ⟨fun ⟨x, hx, z⟩ => ⟨x, (e x).2 ⟨hx, fun y => g ?_⟩, z⟩, fun ⟨x, hx, z⟩ => ⟨x, ((e x).1 hx).1, z⟩⟩
   rw [y] at z
   exact (of_decide_eq_true z).symm
 ·obtain ⟨es0, rfl, _⟩ := h.tidy
  have hx0 : ∃ y ∈ I', nkey p = nkey (nmI y) := by
   unfold hasNm at hl
   obtain ⟨y, hy, z⟩ := List.any_eq_true.1 hl
   exact ⟨y, hy, by rw [of_decide_eq_true z]⟩
  by_cases g : x.1 = nkey p
  ·rw [g]; exact hx0
  ·rcases put_keys he x hx with z | z
   ·exact absurd (by rw [z]) g
   ·obtain ⟨y, hy, q⟩ := h.keys es0 rfl x z
    refine ⟨y, (e y).2 ⟨hy, fun u => g ?_⟩, q⟩
    rw [q, u]
    rfl
theorem MapIs.del {D : DataW Value} {I I' : List Id3} (h : MapIs D I) {p : Int × Int} (hp : nWf p) (o : Nat) (e : ∀ x, x ∈ I' ↔ x ∈ I ∧ x ≠ (p.1, p.2, (o : Int))) (hl : hasNm I' p = false) : MapIs (D.del (nkey p)) I' := by
 have hno : ∀ x ∈ I', nmI x ≠ p := fun x hx g => by
  unfold hasNm at hl
  rw [List.any_eq_false] at hl
  exact hl x hx (decide_eq_true g)
 refine ⟨h.tidy.del _, fun q hq => ?_, fun q hq => ?_, fun es he x hx => ?_⟩
 ·by_cases g : q = p
  ·subst g
   rw [atKey_del_same]
   have : offI I' q = fun _ => false := by
    funext j
    unfold offI
    exact decide_eq_false fun z => hno _ z rfl
   rw [this]
   rfl
  ·rw [atKey_del_other (nWf_ne hp hq g), h.at_ q hq]
   have : offI I q = offI I' q := by
    funext j
    unfold offI
    rw [decide_eq_decide, e]
    exact ⟨fun z => ⟨z, fun y => g (by injection y with y1 y2; injection y2 with y2 _; exact Prod.ext y1 y2)⟩, fun z => z.1⟩
   rw [this]
 ·by_cases g : q = p
  ·subst g
   rw [has_del_same, hl]
  ·rw [has_del_other (nWf_ne hp hq g), h.has q hq]
   unfold hasNm
   rw [Bool.eq_iff_iff, List.any_eq_true, List.any_eq_true]
   refine ⟨fun ⟨x, hx, z⟩ => ⟨x, (e x).2 ⟨hx, fun y => g ?_⟩, z⟩, fun ⟨x, hx, z⟩ => ⟨x, ((e x).1 hx).1, z⟩⟩
   rw [y] at z
   exact (of_decide_eq_true z).symm
 ·obtain ⟨es0, rfl, _⟩ := h.tidy
  rw [DataW.del_eq] at he
  cases he
  unfold ChangeMaps.delKey at hx
  obtain ⟨h1, h2⟩ := List.mem_filter.1 hx
  obtain ⟨y, hy, q⟩ := h.keys es0 rfl x h1
  refine ⟨y, (e y).2 ⟨hy, fun u => ?_⟩, q⟩
  unfold ChangeMaps.notKey at h2
  rw [q, u] at h2
  have := (nkey_same (nmI (p.1, p.2, (o : Int))) p).2 rfl
  rw [this] at h2
  cases h2
open Classical in
theorem len_le_of_sub {α : Type} : ∀ (a b : List α), a.Nodup → (∀ x ∈ a, x ∈ b) → a.length ≤ b.length
 | [], _, _, _ => Nat.zero_le _
 | x :: r, b, hn, hs => by
  have hx := hs x (List.mem_cons_self ..)
  obtain ⟨h1, h2⟩ := List.nodup_cons.1 hn
  have := len_le_of_sub r (b.erase x) h2 fun y hy => (List.mem_erase_of_ne (fun e => h1 (by rw [← e]; exact hy))).2 (hs y (List.mem_cons_of_mem _ hy))
  rw [List.length_erase_of_mem hx] at this
  have h3 := List.length_pos_of_mem hx
  rw [List.length_cons]
  omega
theorem MapIs.size {D : DataW Value} {I : List Id3} (h : MapIs D I) : Maps.size D ≤ I.length := by
 obtain ⟨es, rfl, hp⟩ := h.tidy
 have h1 : (es.map (·.1)).Nodup := by
  rw [List.nodup_iff_pairwise_ne, List.pairwise_map]
  exact hp
 have := len_le_of_sub (es.map (·.1)) (I.map fun x => nkey (nmI x)) h1 fun k hk => by
  obtain ⟨x, hx, rfl⟩ := List.mem_map.1 hk
  obtain ⟨y, hy, q⟩ := h.keys es rfl x hx
  rw [q]
  exact List.mem_map.2 ⟨y, hy, rfl⟩
 rw [List.length_map, List.length_map] at this
 exact this
def NMap (W : World) (b : Nat) (I : List Id3) : Prop := ∃ D, W.ownsMap Tryz.prog 46 offEl b I.length D ∧ MapIs D I
theorem NMap.mk' {W : World} {b n : Nat} {D : DataW Value} {I : List Id3} (h : W.ownsMap Tryz.prog 46 offEl b n D) (hm : MapIs D I) : NMap W b I := by
 refine ⟨D, ?_, hm⟩
 have hs := hm.size
 obtain ⟨es, clock, hb, F, _, rfl⟩ := h
 refine ⟨es, clock, hb, F, ?_, rfl⟩
 simpa [Maps.size, length_sorted] using hs
theorem NMap.made (w : World) : NMap (w.alloc (.map #[] 0)) w.heap.size [] := ⟨_, World.ownsMap_made w _ _ _, MapIs.nil⟩
theorem NMap.congr {W : World} {b : Nat} {I I' : List Id3} (h : NMap W b I) (e : ∀ x, x ∈ I ↔ x ∈ I') : NMap W b I' := by
 obtain ⟨D, h1, h2⟩ := h
 exact NMap.mk' h1 (h2.congr e)
theorem NMap.lt {W : World} {b : Nat} {I : List Id3} (h : NMap W b I) : b < W.heap.size := by obtain ⟨D, h1, _⟩ := h; exact h1.lt
theorem NMap.kept {W W' : World} {b : Nat} {I : List Id3} (h : NMap W b I) (e : W'.heap[b]? = W.heap[b]?) : NMap W' b I := by
 obtain ⟨D, ⟨es, clock, hb, F, hs, hD⟩, h2⟩ := h
 exact ⟨D, ⟨es, clock, e.trans hb, F, hs, hD⟩, h2⟩
theorem NMap.below {W W' : World} {b : Nat} {I : List Id3} (h : NMap W b I) (hb : Below W.heap.size W W') : NMap W' b I := h.kept (hb.block b h.lt)
theorem zero_offs (w : World) : (zeroValue 97).run Tryz.prog w = .ok noOffs w := by kernel_rfl
theorem NMap.look {W : World} {b : Nat} {I : List Id3} (h : NMap W b I) {p : Int × Int} (hp : nWf p) : (Instr.lookup 88 (.map (some b)) (.agg #[.int .i64 p.1, .int .i64 p.2]) false).run Tryz.prog W = .ok (offV (offI I p)) W := by
 obtain ⟨D, h1, h2⟩ := h
 obtain ⟨v, ps, hrun, hv⟩ := h1.lookup name_law Tryz.underlying88 (zero_offs W) (zd := .held noOffs) (zp := []) rfl (keyOf_name hp.1 hp.2)
 rw [h2.at_ p hp] at hv
 cases hv
 exact hrun
theorem NMap.look_ok {W : World} {b : Nat} {I : List Id3} (h : NMap W b I) {p : Int × Int} (hp : nWf p) : (Instr.lookup 88 (.map (some b)) (.agg #[.int .i64 p.1, .int .i64 p.2]) true).run Tryz.prog W = .ok (.tuple #[offV (offI I p), .bool (hasNm I p)]) W := by
 obtain ⟨D, h1, h2⟩ := h
 obtain ⟨v, ps, hrun, hv⟩ := h1.look_ok name_law Tryz.underlying88 (zero_offs W) (zd := .held noOffs) (zp := []) rfl (keyOf_name hp.1 hp.2)
 rw [h2.at_ p hp] at hv
 cases hv
 rw [h2.has p hp] at hrun
 exact hrun
theorem NMap.add {W : World} {b : Nat} {I : List Id3} (h : NMap W b I) (hI : I.length < maxLen) {p : Int × Int} (hp : nWf p) (o : Nat) : ∃ W', (Instr.mapUpdate 88 (.map (some b)) (.agg #[.int .i64 p.1, .int .i64 p.2]) (offV (addF (offI I p) o))).run Tryz.prog W = .ok () W' ∧ NMap W' b (I ++ [(p.1, p.2, (o : Int))]) ∧ W.mapTurned W' b := by
 obtain ⟨D, h1, h2⟩ := h
 obtain ⟨W', hrun, h3, h4⟩ := h1.store name_law Tryz.underlying88 hI (d := .held (offV (addF (offI I p) o))) (ps := []) (keyOf_name hp.1 hp.2) rfl
 exact ⟨W', hrun, NMap.mk' h3 (h2.add hp o), h4⟩
theorem NMap.cut {W : World} {b : Nat} {I I' : List Id3} (h : NMap W b I) (hI : I.length < maxLen) {p : Int × Int} (hp : nWf p) (o : Nat) (e : ∀ x, x ∈ I' ↔ x ∈ I ∧ x ≠ (p.1, p.2, (o : Int))) (hl : hasNm I' p = true) : ∃ W', (Instr.mapUpdate 88 (.map (some b)) (.agg #[.int .i64 p.1, .int .i64 p.2]) (offV (delF (offI I p) o))).run Tryz.prog W = .ok () W' ∧ NMap W' b I' ∧ W.mapTurned W' b := by
 obtain ⟨D, h1, h2⟩ := h
 obtain ⟨W', hrun, h3, h4⟩ := h1.store name_law Tryz.underlying88 hI (d := .held (offV (delF (offI I p) o))) (ps := []) (keyOf_name hp.1 hp.2) rfl
 exact ⟨W', hrun, NMap.mk' h3 (h2.cut hp o e hl), h4⟩
theorem NMap.del {W : World} {b : Nat} {I I' : List Id3} (h : NMap W b I) {p : Int × Int} (hp : nWf p) (o : Nat) (e : ∀ x, x ∈ I' ↔ x ∈ I ∧ x ≠ (p.1, p.2, (o : Int))) (hl : hasNm I' p = false) (ty : TypeId) : ∃ W', (Builtin.delete_ #[88, 46] ty #[.map (some b), .agg #[.int .i64 p.1, .int .i64 p.2]]).run Tryz.prog W = .ok (.tuple #[]) W' ∧ NMap W' b I' ∧ W.mapTurned W' b := by
 obtain ⟨D, h1, h2⟩ := h
 obtain ⟨W', hrun, h3, h4⟩ := h1.drop name_law Tryz.underlying88 (keyOf_name hp.1 hp.2) ty
 exact ⟨W', hrun, NMap.mk' h3 (h2.del hp o e hl), h4⟩
end Go.Proofs.YtmedickofiielaaGreatDoor

namespace Go.Proofs.YtmedickofiielaaGreatDoor
open Go.RowKit

set_option maxHeartbeats 2000000 in
theorem off4_eq (a0 a1 a2 a3 : Int) (d : Nat) (w : World) :
  (Op.equalIn (d + 1 + 1) 95 (.agg #[.int .u64 a0, .int .u64 a1, .int .u64 a2, .int .u64 a3]) (.agg #[.int .u64 0, .int .u64 0, .int .u64 0, .int .u64 0])).run Tryz.prog w = .ok (a0 == 0 && a1 == 0 && a2 == 0 && a3 == 0) w := by
 have gu := Tryz.underlying94
 have ga := Tryz.isAgg94
 have gz := Tryz.sizeOf94
 rw [Op.equalIn]
 simp only [Sem.run_bind, run_underlying Tryz.underlying95, Result.andThen_ok]
 simp only [Std.Legacy.Range.forIn_eq_forIn_range', Std.Legacy.Range.size, Nat.sub_zero, Nat.add_sub_cancel, Nat.div_one, List.range'_succ, List.range'_zero, List.forIn_cons, List.forIn_nil]
 go_simp
 by_cases h0 : a0 = 0 <;> by_cases h1 : a1 = 0 <;> by_cases h2 : a2 = 0 <;> by_cases h3 : a3 = 0 <;> simp [h0, h1, h2, h3]
set_option maxHeartbeats 2000000 in
theorem offs_eq (a0 a1 a2 a3 : Int) (w : World) :
  (Op.equalIn 10000 97 (.agg #[.int .u64 a0, .int .u64 a1, .int .u64 a2, .int .u64 a3]) (.agg #[.int .u64 0, .int .u64 0, .int .u64 0, .int .u64 0])).run Tryz.prog w = .ok (a0 == 0 && a1 == 0 && a2 == 0 && a3 == 0) w := by
 have h4 := off4_eq a0 a1 a2 a3 9997 w
 have ga := Tryz.isAgg95
 have gz := Tryz.sizeOf95
 rw [show (10000 : Nat) = (9997 + 1 + 1) + 1 from rfl, run_equalIn_struct w (9997 + 1 + 1) 97 _ _ (by kernel_rfl) (by kernel_rfl)]
 simp only [Program.fieldsOf, Tryz.underlying97]
 simp only [Op.eqFields]
 go_simp
 by_cases h0 : a0 = 0 <;> by_cases h1 : a1 = 0 <;> by_cases h2 : a2 = 0 <;> by_cases h3 : a3 = 0 <;> simp [h0, h1, h2, h3]
theorem offs_eql (a0 a1 a2 a3 : Int) (x : Bool) (hx : (a0 == 0 && a1 == 0 && a2 == 0 && a3 == 0) = x) (w : World) :
  (binOp .eql 97 (.agg #[.int .u64 a0, .int .u64 a1, .int .u64 a2, .int .u64 a3]) (.agg #[.int .u64 0, .int .u64 0, .int .u64 0, .int .u64 0])).run Tryz.prog w = .ok (.bool x) w := by
 rw [run_eql_struct, offs_eq, hx]; rfl
theorem wordN_none {f : Nat → Bool} (h : ∀ j, j < 64 → f j = false) : wordN f 64 = 0 := by
 rw [wordN_congr (g := fun _ => false) h]
 decide
theorem offV_zero {F : Nat → Bool} {a0 a1 a2 a3 : Int} (h : offV F = .agg #[.int .u64 a0, .int .u64 a1, .int .u64 a2, .int .u64 a3]) : (a0 == 0 && a1 == 0 && a2 == 0 && a3 == 0) = true ↔ ∀ j, j < 256 → F j = false := by
 unfold offV offA offW at h
 injection h with h
 simp at h
 obtain ⟨e0, e1, e2, e3⟩ := h
 subst e0 e1 e2 e3
 simp only [Bool.and_eq_true, beq_iff_eq]
 constructor
 ·rintro ⟨⟨⟨g0, g1⟩, g2⟩, g3⟩ j hj
  rcases (by omega : j < 64 ∨ 64 ≤ j ∧ j < 128 ∨ 128 ≤ j ∧ j < 192 ∨ 192 ≤ j ∧ j < 256) with k | k | k | k
  ·have := wordN_zero (f := part64 F 0) (n := 64) (by omega) j k
   unfold part64 at this
   rwa [show 64 * 0 + j = j by omega] at this
  ·have := wordN_zero (f := part64 F 1) (n := 64) (by omega) (j - 64) (by omega)
   unfold part64 at this
   rwa [show 64 * 1 + (j - 64) = j by omega] at this
  ·have := wordN_zero (f := part64 F 2) (n := 64) (by omega) (j - 128) (by omega)
   unfold part64 at this
   rwa [show 64 * 2 + (j - 128) = j by omega] at this
  ·have := wordN_zero (f := part64 F 3) (n := 64) (by omega) (j - 192) (by omega)
   unfold part64 at this
   rwa [show 64 * 3 + (j - 192) = j by omega] at this
 ·intro g
  refine ⟨⟨⟨?_, ?_⟩, ?_⟩, ?_⟩
  ·have q := wordN_none (f := part64 F 0) (fun j hj => g (64 * 0 + j) (by omega))
   omega
  ·have q := wordN_none (f := part64 F 1) (fun j hj => g (64 * 1 + j) (by omega))
   omega
  ·have q := wordN_none (f := part64 F 2) (fun j hj => g (64 * 2 + j) (by omega))
   omega
  ·have q := wordN_none (f := part64 F 3) (fun j hj => g (64 * 3 + j) (by omega))
   omega
theorem left_has {I J : List Id3} {p : Int × Int} {o : Nat} {a0 a1 a2 a3 : Int} (hI : ∀ x ∈ I, 0 ≤ x.2.2 ∧ x.2.2 < 200) (e : ∀ x, x ∈ J ↔ x ∈ I ∧ x ≠ (p.1, p.2, (o : Int))) (h : offV (delF (offI I p) o) = .agg #[.int .u64 a0, .int .u64 a1, .int .u64 a2, .int .u64 a3]) :
  hasNm J p = !(a0 == 0 && a1 == 0 && a2 == 0 && a3 == 0) := by
 have hz := offV_zero h
 cases z : (a0 == 0 && a1 == 0 && a2 == 0 && a3 == 0) with
 | true =>
  have hall := hz.1 z
  unfold hasNm
  rw [Bool.not_true, List.any_eq_false]
  intro x hx hn
  have hn := of_decide_eq_true hn
  obtain ⟨h1, h2⟩ := (e x).1 hx
  obtain ⟨h3, h4⟩ := hI x h1
  have := hall x.2.2.toNat (by omega)
  unfold delF offI at this
  have ex : (p.1, p.2, ((x.2.2.toNat : Nat) : Int)) = x := by
   rw [← hn]
   unfold nmI
   rw [show ((x.2.2.toNat : Nat) : Int) = x.2.2 by omega]
  rw [ex, decide_eq_true h1, Bool.true_and] at this
  have hno : ¬ x.2.2.toNat = o := fun g => h2 (by rw [← ex, g])
  rw [decide_eq_false hno] at this
  cases this
 | false =>
  have hne : ¬ ∀ j, j < 256 → delF (offI I p) o j = false := fun g => by rw [hz.2 g] at z; cases z
  have : ∃ j, delF (offI I p) o j = true := Classical.byContradiction fun g => hne fun j _ => by
   cases hd : delF (offI I p) o j with
   | false => rfl
   | true => exact absurd ⟨j, hd⟩ g
  obtain ⟨j, hj⟩ := this
  unfold delF offI at hj
  simp only [Bool.and_eq_true, decide_eq_true_eq, Bool.not_eq_true', decide_eq_false_iff_not] at hj
  unfold hasNm
  rw [Bool.not_false, List.any_eq_true]
  exact ⟨_, (e _).2 ⟨hj.1, fun g => hj.2 (by injection g with _ g; injection g with _ g; omega)⟩, decide_eq_true rfl⟩
end Go.Proofs.YtmedickofiielaaGreatDoor
