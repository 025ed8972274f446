/- Texts of this proof, joined. -/
import Derived.Test.YtmedickofiielaaNameKey
import Derived.Test.YtmedickofiielaaCellsOffs
import Derived.Test.YtmedickofiielaaGPlain
import Derived.Laws.StructEq
namespace Go.Proofs.Ytmedickofiielaa
open Go.RowKit Go.Maps Go.WideMaps

abbrev Id3 := Int × Int × Int
def idC (c : PCell) : Id3 := (c.site, c.seq, c.off)
def nmI (x : Id3) : Int × Int := (x.1, x.2.1)
def offEl : Value → Option (DataW Value × List MemPlace) := fun v => some (.held v, [])
def noOffs : Value := offV fun _ => false
def offI (I : List Id3) (p : Int × Int) (o : Nat) : Bool := decide ((p.1, p.2, (o : Int)) ∈ I)
def hasNm (I : List Id3) (p : Int × Int) : Bool := I.any fun x => decide (nmI x = p)
structure MapIs (D : DataW Value) (I : List Id3) : Prop where
 tidy : Tidy D
 at_ : ∀ p, nWf p → D.atKey (nkey p) (.held noOffs) = .held (offV (offI I p))
 has : ∀ p, nWf p → Maps.has D (nkey p) = hasNm I p
 keys : ∀ es, D = .map es → ∀ x ∈ es, ∃ y ∈ I, x.1 = nkey (nmI y)
theorem nkey_lit (p : Int × Int) : WideAt.IsKeyLit (nkey p) := trivial
theorem offI_nil (p : Int × Int) : offI [] p = fun _ => false := by funext j; simp [offI]
theorem MapIs.nil : MapIs (.map []) [] :=
 ⟨tidy_empty, fun p _ => by rw [offI_nil]; rfl, fun p _ => rfl, fun es h x hx => by cases h; cases hx⟩
theorem MapIs.congr {D : DataW Value} {I I' : List Id3} (h : MapIs D I) (e : ∀ x, x ∈ I ↔ x ∈ I') : MapIs D I' := by
 have e1 : ∀ p, offI I p = offI I' p := fun p => by funext j; unfold offI; rw [decide_eq_decide]; exact e _
 have e2 : ∀ p, hasNm I p = hasNm I' p := fun p => by
  unfold hasNm
  rw [Bool.eq_iff_iff, List.any_eq_true, List.any_eq_true]
  exact ⟨fun ⟨x, hx, q⟩ => ⟨x, (e x).1 hx, q⟩, fun ⟨x, hx, q⟩ => ⟨x, (e x).2 hx, q⟩⟩
 exact ⟨h.tidy, fun p hp => by rw [← e1]; exact h.at_ p hp, fun p hp => by rw [← e2]; exact h.has p hp, fun es he x hx => by
  obtain ⟨y, hy, q⟩ := h.keys es he x hx
  exact ⟨y, (e y).1 hy, q⟩⟩
theorem put_keys {es : List (Lit × DataW Value)} {k : Lit} {d : DataW Value} {es' : List (Lit × DataW Value)} (h : (DataW.map es).put k d = .map es') (x : Lit × DataW Value) (hx : x ∈ es') : x = (k, d) ∨ x ∈ es := by
 rw [DataW.put_eq] at h
 cases h
 unfold ChangeMaps.putKey at hx
 rcases List.mem_cons.1 ((Go.WideShapes.insert_perm (k, d) _).mem_iff.1 hx) with e | e
 ·exact .inl e
 ·exact .inr (List.mem_filter.1 e).1
theorem nWf_ne {p q : Int × Int} (hp : nWf p) (hq : nWf q) (h : q ≠ p) : nkey q ≠ nkey p := fun e => h (nkey_inj hq.1 hq.2 hp.1 hp.2 e)
theorem MapIs.add {D : DataW Value} {I : List Id3} (h : MapIs D I) {p : Int × Int} (hp : nWf p) (o : Nat) : MapIs (D.put (nkey p) (.held (offV (addF (offI I p) o)))) (I ++ [(p.1, p.2, (o : Int))]) := by
 refine ⟨h.tidy.put (nkey_lit p) _, fun q hq => ?_, fun q hq => ?_, fun es he x hx => ?_⟩
 ·by_cases e : q = p
  ·subst e
   rw [atKey_put_same h.tidy.isMap (nkey_lit _)]
   have : addF (offI I q) o = offI (I ++ [(q.1, q.2, (o : Int))]) q := by
    funext j
    unfold addF offI
    rw [Bool.eq_iff_iff]
    have : ((j : Int) = o) ↔ j = o := by omega
    simp [this]
   rw [this]
  ·rw [atKey_put_other (nWf_ne hp hq e), h.at_ q hq]
   have : offI I q = offI (I ++ [(p.1, p.2, (o : Int))]) q := by
    funext j
    unfold offI
    rw [Bool.eq_iff_iff]
    have : ¬ (q.1 = p.1 ∧ q.2 = p.2 ∧ (j : Int) = o) := fun g => e (Prod.ext g.1 g.2.1)
    simp
    omega
   rw [this]
 ·unfold hasNm
  rw [List.any_append]
  by_cases e : q = p
  ·subst e
   rw [has_put_same h.tidy.isMap (nkey_lit _)]
   simp [nmI]
  ·rw [has_put_other (nWf_ne hp hq e), h.has q hq]
   have : ¬ ((p.1, p.2) = q) := fun g => e g.symm
   simp [nmI, hasNm, this]
 ·obtain ⟨es0, rfl, _⟩ := h.tidy
  rcases put_keys he x hx with e | e
  ·exact ⟨_, List.mem_append_right _ (List.mem_singleton.2 rfl), by rw [e]; rfl⟩
  ·obtain ⟨y, hy, q⟩ := h.keys es0 rfl x e
   exact ⟨y, List.mem_append_left _ hy, q⟩
open Classical in
theorem len_le_of_sub {α : Type} : ∀ (a b : List α), a.Nodup → (∀ x ∈ a, x ∈ b) → a.length ≤ b.length
 | [], _, _, _ => Nat.zero_le _
 | x :: r, b, hn, hs => by
  have hx := hs x (List.mem_cons_self ..)
  obtain ⟨h1, h2⟩ := List.nodup_cons.1 hn
  have := len_le_of_sub r (b.erase x) h2 fun y hy => (List.mem_erase_of_ne (fun e => h1 (by rw [← e]; exact hy))).2 (hs y (List.mem_cons_of_mem _ hy))
  rw [List.length_erase_of_mem hx] at this
  have h3 := List.length_pos_of_mem hx
  rw [List.length_cons]
  omega
theorem MapIs.size {D : DataW Value} {I : List Id3} (h : MapIs D I) : Maps.size D ≤ I.length := by
 obtain ⟨es, rfl, hp⟩ := h.tidy
 have h1 : (es.map (·.1)).Nodup := by
  rw [List.nodup_iff_pairwise_ne, List.pairwise_map]
  exact hp
 have := len_le_of_sub (es.map (·.1)) (I.map fun x => nkey (nmI x)) h1 fun k hk => by
  obtain ⟨x, hx, rfl⟩ := List.mem_map.1 hk
  obtain ⟨y, hy, q⟩ := h.keys es rfl x hx
  rw [q]
  exact List.mem_map.2 ⟨y, hy, rfl⟩
 rw [List.length_map, List.length_map] at this
 exact this
def NMap (W : World) (b : Nat) (I : List Id3) : Prop := ∃ D, W.ownsMap Try.prog 39 offEl b I.length D ∧ MapIs D I
theorem NMap.mk' {W : World} {b n : Nat} {D : DataW Value} {I : List Id3} (h : W.ownsMap Try.prog 39 offEl b n D) (hm : MapIs D I) : NMap W b I := by
 refine ⟨D, ?_, hm⟩
 have hs := hm.size
 obtain ⟨es, clock, hb, F, _, rfl⟩ := h
 refine ⟨es, clock, hb, F, ?_, rfl⟩
 simpa [Maps.size, length_sorted] using hs
theorem NMap.made (w : World) : NMap (w.alloc (.map #[] 0)) w.heap.size [] := ⟨_, World.ownsMap_made w _ _ _, MapIs.nil⟩
theorem NMap.congr {W : World} {b : Nat} {I I' : List Id3} (h : NMap W b I) (e : ∀ x, x ∈ I ↔ x ∈ I') : NMap W b I' := by
 obtain ⟨D, h1, h2⟩ := h
 exact NMap.mk' h1 (h2.congr e)
theorem NMap.lt {W : World} {b : Nat} {I : List Id3} (h : NMap W b I) : b < W.heap.size := by obtain ⟨D, h1, _⟩ := h; exact h1.lt
theorem NMap.kept {W W' : World} {b : Nat} {I : List Id3} (h : NMap W b I) (e : W'.heap[b]? = W.heap[b]?) : NMap W' b I := by
 obtain ⟨D, ⟨es, clock, hb, F, hs, hD⟩, h2⟩ := h
 exact ⟨D, ⟨es, clock, e.trans hb, F, hs, hD⟩, h2⟩
theorem NMap.below {W W' : World} {b : Nat} {I : List Id3} (h : NMap W b I) (hb : Below W.heap.size W W') : NMap W' b I := h.kept (hb.block b h.lt)
theorem zero_offs (w : World) : (zeroValue 87).run Try.prog w = .ok noOffs w := by kernel_rfl
theorem NMap.look {W : World} {b : Nat} {I : List Id3} (h : NMap W b I) {p : Int × Int} (hp : nWf p) : (Instr.lookup 58 (.map (some b)) (.agg #[.int .i64 p.1, .int .i64 p.2]) false).run Try.prog W = .ok (offV (offI I p)) W := by
 obtain ⟨D, h1, h2⟩ := h
 obtain ⟨v, ps, hrun, hv⟩ := h1.lookup name_law Try.underlying58 (zero_offs W) (zd := .held noOffs) (zp := []) rfl (keyOf_name hp.1 hp.2)
 rw [h2.at_ p hp] at hv
 cases hv
 exact hrun
theorem NMap.add {W : World} {b : Nat} {I : List Id3} (h : NMap W b I) (hI : I.length < maxLen) {p : Int × Int} (hp : nWf p) (o : Nat) : ∃ W', (Instr.mapUpdate 58 (.map (some b)) (.agg #[.int .i64 p.1, .int .i64 p.2]) (offV (addF (offI I p) o))).run Try.prog W = .ok () W' ∧ NMap W' b (I ++ [(p.1, p.2, (o : Int))]) ∧ W.mapTurned W' b := by
 obtain ⟨D, h1, h2⟩ := h
 obtain ⟨W', hrun, h3, h4⟩ := h1.store name_law Try.underlying58 hI (d := .held (offV (addF (offI I p) o))) (ps := []) (keyOf_name hp.1 hp.2) rfl
 exact ⟨W', hrun, NMap.mk' h3 (h2.add hp o), h4⟩
end Go.Proofs.Ytmedickofiielaa

namespace Go.Proofs.Ytmedickofiielaa
open Go.RowKit

end Go.Proofs.Ytmedickofiielaa
